/- FleetTopM, TopYear, FleetPastWalk, TopAlive, ShelfSegs, TopStepsWalk, TopSpoiltM, FleetEarlyWalk, as one text. -/
import Derived.Test.YtkjlchfmplcobagDoorRunAC
import Derived.Test.YtkjlchfmplcobagDoorProg
import Derived.WalkKit
import Derived.WalkSpells
import Derived.WalkLawsBesides
import Derived.Deep.RegionHeld3
import Derived.BigRegion
import Derived.Test.YtkjlchfmplcobagDoorRunAB
import Derived.Deep.AppendLies
import Derived.Laws.AppendOwnNone
/- Chapter 7's mathematics: years. -/
namespace Go.Proofs.YtkjlchfmplcobagDoor

/-- A shard with another state, other entries and another manifest. -/
abbrev upd (s : Shd) (st : Int) (es : List (List Int)) (m : Man) : Shd := ⟨s.from', s.to', st, es, m⟩
def subsL (t : Int) (es : List (List Int)) : List Dd := es.map (fun e => subD t e)
/-- Answers to entries that come behind n others. -/
def placesL (k n : Nat) (es : List (List Int)) : List Ans := (List.range es.length).map (fun i => ⟨0, (k : Int), ((n + i : Nat) : Int), 0, []⟩)
theorem place_absent {es : List (List Int)} {e : List Int} (h : e ∉ es) : placeOf es e = none :=
  find_none (fun j hj => decide_eq_false (fun g => h (by rw [← g, List.getD_eq_getElem?_getD, List.getElem?_eq_getElem hj]; exact List.getElem_mem hj)))
theorem sub_new {f : Flt} {k : Nat} {t : Int} {e : List Int} (hh : homeOf f.shards t = some k) (h1 : (f.shards.getD k shd0).state = 1) (hn : e ∉ (f.shards.getD k shd0).entries) (h200 : e.length ≤ 200) (h100 : (f.shards.getD k shd0).entries.length < 100) :
    stepL f (subD t e) = (f.put k (upd (f.shards.getD k shd0) ((f.shards.getD k shd0).state) ((f.shards.getD k shd0).entries ++ [e]) ((f.shards.getD k shd0).man)), ⟨0, (k : Int), ((f.shards.getD k shd0).entries.length : Int), 0, []⟩) := by
  unfold stepL
  rw [if_pos (show (subD t e).kind = 1 from rfl)]
  unfold submitL
  rw [if_neg (show ¬ 200 < (subD t e).entry.length from show ¬ 200 < e.length by omega)]
  have hh' : homeOf f.shards (subD t e).time = some k := hh
  rw [hh']
  dsimp only
  rw [if_neg (fun g => g h1)]
  have hp : placeOf (f.shards.getD k shd0).entries (subD t e).entry = none := place_absent hn
  rw [hp]
  dsimp only
  rw [if_neg (by omega)]
  rfl
theorem run_subs {k : Nat} {t : Int} : ∀ (es : List (List Int)) (f : Flt), homeOf f.shards t = some k → (f.shards.getD k shd0).state = 1 → es.Nodup → (∀ e ∈ es, e ∉ (f.shards.getD k shd0).entries) → (∀ e ∈ es, e.length ≤ 200) → (f.shards.getD k shd0).entries.length + es.length ≤ 100 →
    runL f (subsL t es) = (f.put k (upd (f.shards.getD k shd0) ((f.shards.getD k shd0).state) ((f.shards.getD k shd0).entries ++ es) ((f.shards.getD k shd0).man)), placesL k (f.shards.getD k shd0).entries.length es)
  | [], f, hh, _, _, _, _, _ => by
    obtain ⟨hk, -, -⟩ := home_some hh
    show (f, []) = _
    refine Prod.ext ?_ rfl
    show f = Flt.mk (f.shards.set k _) f.book
    rw [List.append_nil, set_same hk]
  | e :: es, f, hh, h1, hd, hn, h200, h100 => by
    obtain ⟨hk, -, -⟩ := home_some hh
    rw [List.length_cons] at h100
    have hstep := sub_new hh h1 (hn e (by simp)) (h200 e (by simp)) (by omega)
    obtain ⟨g, hg⟩ : ∃ g, g = f.put k (upd (f.shards.getD k shd0) ((f.shards.getD k shd0).state) ((f.shards.getD k shd0).entries ++ [e]) ((f.shards.getD k shd0).man)) := ⟨_, rfl⟩
    rw [← hg] at hstep
    have hgk : g.shards.getD k shd0 = (upd (f.shards.getD k shd0) ((f.shards.getD k shd0).state) ((f.shards.getD k shd0).entries ++ [e]) ((f.shards.getD k shd0).man)) := by rw [hg]; exact getD_set_same hk
    have hgh : homeOf g.shards t = some k := by rw [hg]; exact (home_put (l := f.shards) (k := k) (s := upd (f.shards.getD k shd0) ((f.shards.getD k shd0).state) ((f.shards.getD k shd0).entries ++ [e]) ((f.shards.getD k shd0).man)) ⟨rfl, rfl⟩ t).trans hh
    have ih := run_subs (k := k) (t := t) es g hgh (by rw [hgk]; exact h1) (List.nodup_cons.1 hd).2 (fun x hx => by
      rw [hgk]
      intro hm
      rcases List.mem_append.1 hm with q | q
      · exact hn x (by simp [hx]) q
      · rw [List.mem_singleton.1 q] at hx
        exact (List.nodup_cons.1 hd).1 hx) (fun x hx => h200 x (by simp [hx])) (by rw [hgk]; show ((f.shards.getD k shd0).entries ++ [e]).length + _ ≤ 100; rw [List.length_append, List.length_singleton]; omega)
    show ((runL (stepL f (subD t e)).1 (subsL t es)).1, (stepL f (subD t e)).2 :: (runL (stepL f (subD t e)).1 (subsL t es)).2) = _
    rw [hstep]
    dsimp only
    rw [ih, hgk]
    dsimp only
    refine Prod.ext ?_ ?_
    · show Flt.mk (g.shards.set k _) g.book = Flt.mk (f.shards.set k _) f.book
      rw [hg]
      show Flt.mk ((f.shards.set k _).set k _) f.book = _
      rw [List.set_set, List.append_assoc]
      rfl
    · show _ :: placesL k _ es = placesL k _ (e :: es)
      unfold placesL
      rw [List.length_cons, List.range_succ_eq_map, List.map_cons, List.map_map]
      congr 1
      refine List.map_congr_left (fun i _ => ?_)
      rw [List.length_append, List.length_singleton]
      show Ans.mk _ _ _ _ _ = Ans.mk _ _ _ _ _
      congr 2
      omega
/-- A year: entries come, and the shard is frozen, laid away, retired, as far as said. -/
def yearL (k : Nat) (es : List (List Int)) (far : Nat) : List Dd := subsL (10 * (k : Int) + 5) es ++ ([doD 2 k, doD 3 k, doD 4 k].take far)
def winsL (n : Nat) : List Win := (List.range n).map (fun (k : Nat) => ⟨10 * (k : Int), 10 * (k : Int) + 10⟩)
/-- Entries that may be taken. -/
structure Unlike (es : List (List Int)) : Prop where
  nodup : es.Nodup
  short : ∀ e ∈ es, e.length ≤ 200
  few : es.length ≤ 30
theorem freeze_step {f : Flt} {k : Nat} (hk : k < f.shards.length) (h1 : (f.shards.getD k shd0).state = 1) : stepL f (doD 2 k) = (⟨f.shards.set k (upd (f.shards.getD k shd0) (2) ((f.shards.getD k shd0).entries) ((f.shards.getD k shd0).man)), f.book ++ [⟨(k : Int), (f.shards.getD k shd0).from', (f.shards.getD k shd0).to', ((f.shards.getD k shd0).entries.length : Int), mth (f.shards.getD k shd0).entries⟩]⟩, ⟨0, (k : Int), 0, ((f.shards.getD k shd0).entries.length : Int), mth (f.shards.getD k shd0).entries⟩) := by
  unfold stepL
  rw [if_neg (show ¬ (doD 2 k).kind = 1 from show ¬ (2 : Int) = 1 by decide), if_neg (show ¬ ((doD 2 k).kind < 2 ∨ 5 < (doD 2 k).kind) from show ¬ ((2 : Int) < 2 ∨ 5 < (2 : Int)) by decide), if_neg (show ¬ ((doD 2 k).n < 0 ∨ (f.shards.length : Int) ≤ (doD 2 k).n) from show ¬ ((k : Int) < 0 ∨ (f.shards.length : Int) ≤ (k : Int)) by omega)]
  have : (doD 2 k).n.toNat = k := rfl
  rw [this, if_neg (fun g => g h1)]
  rfl
theorem export_step {f : Flt} {k : Nat} (hk : k < f.shards.length) (h2 : (f.shards.getD k shd0).state = 2) (hw : wrongL (f.shards.getD k shd0).entries = (0, 0)) : stepL f (doD 3 k) = (f.put k (upd (f.shards.getD k shd0) (3) ((f.shards.getD k shd0).entries) (exportL (f.shards.getD k shd0).entries)), ⟨0, (k : Int), 0, (exportL (f.shards.getD k shd0).entries).size, (exportL (f.shards.getD k shd0).entries).root⟩) := by
  unfold stepL
  rw [if_neg (show ¬ (doD 3 k).kind = 1 from show ¬ (3 : Int) = 1 by decide), if_neg (show ¬ ((doD 3 k).kind < 2 ∨ 5 < (doD 3 k).kind) from show ¬ ((3 : Int) < 2 ∨ 5 < (3 : Int)) by decide), if_neg (show ¬ ((doD 3 k).n < 0 ∨ (f.shards.length : Int) ≤ (doD 3 k).n) from show ¬ ((k : Int) < 0 ∨ (f.shards.length : Int) ≤ (k : Int)) by omega)]
  have : (doD 3 k).n.toNat = k := rfl
  rw [this, if_neg (fun g => g h2)]
  unfold stepAt
  dsimp only
  rw [if_neg (show ¬ (doD 3 k).kind = 2 from show ¬ (3 : Int) = 2 by decide), if_pos (show (doD 3 k).kind = 3 from rfl), hw, if_neg (fun g => g rfl)]
theorem retire_do {f : Flt} {k : Nat} (hk : k < f.shards.length) (h3 : (f.shards.getD k shd0).state = 3) : stepL f (doD 4 k) = if (verifyL (f.shards.getD k shd0).man).2.1 ≠ 0 then (f, no (verifyL (f.shards.getD k shd0).man).2.1) else (f.put k (upd (f.shards.getD k shd0) (4) ([]) ((f.shards.getD k shd0).man)), ⟨0, (k : Int), 0, (f.shards.getD k shd0).man.size, (f.shards.getD k shd0).man.root⟩) := by
  unfold stepL
  rw [if_neg (show ¬ (doD 4 k).kind = 1 from show ¬ (4 : Int) = 1 by decide), if_neg (show ¬ ((doD 4 k).kind < 2 ∨ 5 < (doD 4 k).kind) from show ¬ ((4 : Int) < 2 ∨ 5 < (4 : Int)) by decide), if_neg (show ¬ ((doD 4 k).n < 0 ∨ (f.shards.length : Int) ≤ (doD 4 k).n) from show ¬ ((k : Int) < 0 ∨ (f.shards.length : Int) ≤ (k : Int)) by omega)]
  have : (doD 4 k).n.toNat = k := rfl
  rw [this, if_neg (fun g => g h3)]
  rfl
/-- A shard as far as said. -/
def yearS (s : Shd) (es : List (List Int)) (far : Nat) : Shd :=
  match far with
  | 0 => (upd s (s.state) (es) (s.man))
  | 1 => (upd s (2) (es) (s.man))
  | 2 => (upd s (3) (es) (exportL es))
  | _ => (upd s (4) ([]) (exportL es))
def yearA (k : Nat) (es : List (List Int)) (far : Nat) : List Ans := placesL k 0 es ++ (List.replicate (min far 3) ⟨0, (k : Int), 0, (es.length : Int), mth es⟩)
theorem Unlike.wrong {es : List (List Int)} (h : Unlike es) : wrongL es = (0, 0) := wrong_zero (by have := h.few; omega) (fun j => by
  by_cases hj : j < es.length
  · rw [List.getD_eq_getElem?_getD, List.getElem?_eq_getElem hj]; exact h.short _ (List.getElem_mem hj)
  · rw [List.getD_eq_getElem?_getD, List.getElem?_eq_none (by omega)]; simp)
theorem Unlike.export {es : List (List Int)} (h : Unlike es) : exportL es = ⟨es.length, mth es, segsL es⟩ := by unfold exportL; rw [h.wrong, if_neg (fun g => g rfl)]
theorem Unlike.verify {es : List (List Int)} (h : Unlike es) : verifyL (exportL es) = (es, 0, 0) := by rw [h.export]; exact verify_export (by have := h.few; omega) h.short
theorem run_year {f : Flt} {k : Nat} {es : List (List Int)} (hu : Unlike es) (hh : homeOf f.shards (10 * (k : Int) + 5) = some k) (h1 : (f.shards.getD k shd0).state = 1) (h0 : (f.shards.getD k shd0).entries = []) {far : Nat} (hf1 : 1 ≤ far) (hf3 : far ≤ 3) :
    runL f (yearL k es far) = (⟨f.shards.set k (yearS (f.shards.getD k shd0) es far), f.book ++ [⟨(k : Int), (f.shards.getD k shd0).from', (f.shards.getD k shd0).to', (es.length : Int), mth es⟩]⟩, yearA k es far) := by
  obtain ⟨hk, -, -⟩ := home_some hh
  have hs := run_subs es f hh h1 hu.nodup (fun e _ => by rw [h0]; simp) hu.short (by rw [h0]; have := hu.few; simp; omega)
  rw [h0, List.nil_append] at hs
  unfold yearL
  rw [runL_append, hs]
  dsimp only
  obtain ⟨S, hS⟩ : ∃ S, S = f.shards.getD k shd0 := ⟨_, rfl⟩
  rw [← hS] at h1 h0 ⊢
  -- frozen
  have e1 : (f.put k (upd S (S.state) (es) (S.man))).shards.getD k shd0 = (upd S (S.state) (es) (S.man)) := getD_set_same hk
  have s1 := freeze_step (f := f.put k (upd S (S.state) (es) (S.man))) (k := k) (by show k < (f.shards.set k _).length; rw [List.length_set]; exact hk) (by rw [e1]; exact h1)
  rw [e1] at s1
  have f1 : (f.put k (upd S (S.state) (es) (S.man))).shards.set k (upd S (2) (es) (S.man)) = f.shards.set k (upd S (2) (es) (S.man)) := List.set_set ..
  dsimp only at s1
  rw [f1] at s1
  have hx := hu.export
  have harc : far = 1 ∨ far = 2 ∨ far = 3 := by omega
  rcases harc with rfl | rfl | rfl
  · show ((runL _ [doD 2 k]).1, _ ++ (runL _ [doD 2 k]).2) = _
    simp only [runL, s1]
    rfl
  · have e2 : (⟨f.shards.set k (upd S (2) (es) (S.man)), (f.put k (upd S (S.state) (es) (S.man))).book ++ [⟨(k : Int), S.from', S.to', (es.length : Int), mth es⟩]⟩ : Flt).shards.getD k shd0 = (upd S (2) (es) (S.man)) := getD_set_same hk
    have s2 := export_step (f := ⟨f.shards.set k (upd S (2) (es) (S.man)), (f.put k (upd S (S.state) (es) (S.man))).book ++ [⟨(k : Int), S.from', S.to', (es.length : Int), mth es⟩]⟩) (k := k) (by show k < (f.shards.set k _).length; rw [List.length_set]; exact hk) (by rw [e2]) (by rw [e2]; exact hu.wrong)
    rw [e2] at s2
    show ((runL _ [doD 2 k, doD 3 k]).1, _ ++ (runL _ [doD 2 k, doD 3 k]).2) = _
    simp only [runL, s1, s2]
    refine Prod.ext ?_ ?_
    · show Flt.mk ((f.shards.set k _).set k _) _ = Flt.mk _ _
      rw [List.set_set]
      rfl
    · show _ ++ [_, _] = placesL k 0 es ++ [_, _]
      rw [hx]
      rfl
  · have e2 : (⟨f.shards.set k (upd S (2) (es) (S.man)), (f.put k (upd S (S.state) (es) (S.man))).book ++ [⟨(k : Int), S.from', S.to', (es.length : Int), mth es⟩]⟩ : Flt).shards.getD k shd0 = (upd S (2) (es) (S.man)) := getD_set_same hk
    have s2 := export_step (f := ⟨f.shards.set k (upd S (2) (es) (S.man)), (f.put k (upd S (S.state) (es) (S.man))).book ++ [⟨(k : Int), S.from', S.to', (es.length : Int), mth es⟩]⟩) (k := k) (by show k < (f.shards.set k _).length; rw [List.length_set]; exact hk) (by rw [e2]) (by rw [e2]; exact hu.wrong)
    rw [e2] at s2
    dsimp only at s2
    obtain ⟨F2, hF2⟩ : ∃ F2, F2 = (⟨f.shards.set k (upd S (2) (es) (S.man)), (f.put k (upd S (S.state) (es) (S.man))).book ++ [⟨(k : Int), S.from', S.to', (es.length : Int), mth es⟩]⟩ : Flt).put k (upd S (3) (es) (exportL es)) := ⟨_, rfl⟩
    rw [← hF2] at s2
    have e3 : F2.shards.getD k shd0 = (upd S (3) (es) (exportL es)) := by rw [hF2]; exact getD_set_same (by show k < (f.shards.set k _).length; rw [List.length_set]; exact hk)
    have s3 := retire_do (f := F2) (k := k) (by rw [hF2]; show k < ((f.shards.set k _).set k _).length; rw [List.length_set, List.length_set]; exact hk) (by rw [e3])
    rw [e3] at s3
    dsimp only at s3
    rw [hu.verify, if_neg (fun g => g rfl)] at s3
    show ((runL _ [doD 2 k, doD 3 k, doD 4 k]).1, _ ++ (runL _ [doD 2 k, doD 3 k, doD 4 k]).2) = _
    simp only [runL, s1, s2, s3]
    refine Prod.ext ?_ ?_
    · rw [hF2]
      show Flt.mk (((f.shards.set k _).set k _).set k _) _ = Flt.mk _ _
      rw [List.set_set, List.set_set]
      rfl
    · show _ ++ [_, _, _] = placesL k 0 es ++ [_, _, _]
      rw [hx]
      rfl

end Go.Proofs.YtkjlchfmplcobagDoor

/- The walks of yeartop.do, yeartop.windows and yeartop.year. -/
namespace Go.Proofs.YtkjlchfmplcobagDoor
open Go.RowKit

set_option maxRecDepth 100000 in
theorem topDo_any (kind n : Int) (w : World) :
    Calls Tryd.prog 8 #[.int .i64 kind, .int .i64 n] w fun e w' => e = .returned (.agg #[.int .i64 kind, .int .i64 n, .int .i64 0, .slice none 0 0, .int .i64 0, .int .i64 0, .int .u8 0]) ∧ Below w.heap.size w w' := by
  have b0 : Below w.heap.size w (w.alloc (.cells #[.int .i64 kind, .int .i64 n, .int .i64 0, .slice none 0 0, .int .i64 0, .int .i64 0, .int .u8 0] 29)) := (Below.refl _ _).alloc (Nat.le_refl _) _
  go_enter Tryd.func8, Tryd.ntmps8
  go_wp2_with fail
  exact bodyPost_ret (v := .agg #[.int .i64 kind, .int .i64 n, .int .i64 0, .slice none 0 0, .int .i64 0, .int .i64 0, .int .u8 0]) (by simp [results, Tryd.results8, go_sem]) rfl ⟨rfl, b0⟩
theorem winsL_length (n : Nat) : (winsL n).length = n := by simp [winsL]
theorem winsL_snoc (n : Nat) : winsL (n + 1) = winsL n ++ [⟨10 * (n : Int), 10 * (n : Int) + 10⟩] := by unfold winsL; rw [List.range_succ, List.map_append]; rfl
set_option maxRecDepth 100000 in
set_option maxHeartbeats 1000000 in
theorem windows_any (n : Nat) (h8 : n ≤ 8) (w : World) :
    Calls Tryd.prog 10 #[.int .i64 (n : Int)] w fun e w' => ∃ va vc, e = .returned (.slice va n vc) ∧ WinsAt w' (.slice va n vc) (winsL n) ∧ Below w.heap.size w w' := by
  obtain ⟨i0, hi0, hz0, hz1, hz2⟩ := info_parts Tryd.info56b
  go_enter Tryd.func10, Tryd.ntmps10
  go_wp2_with fail
  go_loopw [3, 6] (fun gv kv wr => ∃ (j : Nat) (va : Option Addr) (vc : Nat) (vs : List Value), j ≤ n ∧ kv = .int .i64 j ∧ gv = .slice va j vc ∧ wr.ownsRow w.heap.size 56 2 (.slice va j vc) j vs ∧ Hid (WinEls vs (winsL j)) ∧ Below w.heap.size w wr) (fun _ kv _ => n - (intOf kv).toNat)
  case atStart => exact ⟨0, none, 0, [], Nat.zero_le _, rfl, rfl, World.ownsRow_nil _ _ _ _, winEls_nil, Below.refl _ _⟩
  case round =>
    obtain ⟨wo, rfl⟩ : ∃ x, x = wr := ⟨wr, rfl⟩
    obtain ⟨j, va, vc, vs, hj, rfl, rfl, hrow, HW, hbr⟩ := hrel
    have hsr := hbr.size
    by_cases hlt : j < n
    · have hlt' : (j : Int) < n := by omega
      have HW2 : Hid (WinEls (vs ++ winV ⟨10 * (j : Int), 10 * (j : Int) + 10⟩) (winsL (j + 1))) := by show WinEls _ _; rw [winsL_snoc]; exact HW.out.snoc
      have m1 : wrap64 (10 * (j : Int)) = 10 * (j : Int) := by unfold wrap64; omega
      have m2 : wrap64 (10 * (j : Int) + 10) = 10 * (j : Int) + 10 := by unfold wrap64; omega
      have hrowA := hrow.alloc (.cells #[.int .i64 (10 * (j : Int)), .int .i64 (10 * (j : Int) + 10)] 56)
      have hnew := lit_win wo ⟨10 * (j : Int), 10 * (j : Int) + 10⟩ 56
      have bA : Below w.heap.size w (wo.alloc (.cells #[.int .i64 (10 * (j : Int)), .int .i64 (10 * (j : Int) + 10)] 56)) := hbr.alloc hsr _
      have hsA := bA.size
      have hone : ∀ u ∈ winV ⟨10 * (j : Int), 10 * (j : Int) + 10⟩, u.oneCell' = true := by intro u hu; simp [winV] at hu; rcases hu with rfl | rfl <;> rfl
      clear hrow HW
      go_wp2_with (at_builtin; refine wpList_append_own _ rfl (.tmp 9) (.tmp 16) 41 rfl w.heap.size 56 i0 _ 2 16 Tryd.underlying41 hi0 hz0 hz1 hz2 rfl (by decide) _ _ _ rfl hrowA ⟨wo.heap.size, 0, none⟩ 1 1 _ rfl rfl hnew hone (by unfold maxLen; omega) (by omega) hsA ?_; intro v7 w7 ho7 hg7 _; obtain ⟨ga, gc, rfl⟩ := own2_form ho7)
      have b7 : Below w.heap.size w w7 := bA.grown hg7 hsA (fun _ h => (hrowA.lt _ h).1)
      go_roundw
      case rel => exact ⟨j + 1, ga, gc, _, by omega, by go_num, rfl, ho7, HW2, b7⟩
      case measure => simp [intOf]; omega
    · obtain rfl : j = n := by omega
      have hnl : ¬ (j : Int) < j := by omega
      have HG : Hid (WinsAt wo (.slice va j vc) (winsL j)) := HW.out.wins (by rw [winsL_length]; exact hrow)
      clear hrow HW
      go_wp2_with fail
      go_ret
      exact ⟨va, vc, rfl, HG.out, hbr⟩
/-- Entries as they come in, that stay as they are while the row u grows. -/
def Stay (B : Nat) (u : Value) (w : World) (ea : Option Addr) (n c : Nat) (es : List (List Int)) : Prop :=
  ∀ w', Below B w w' → w.heap.size ≤ w'.heap.size → (∀ k, k < w.heap.size → u.ownBlock ≠ some k → w'.heap[k]? = w.heap[k]?) → Lists w' ea n c es ∧ ∀ j b off pa m pc, j < n → ea = some ⟨b, off, none⟩ → w'.cell? ⟨b, off + j, none⟩ = some (.slice pa m pc) → Away B w' (.slice pa m pc) (es.getD j [])
/-- The row so far. -/
def YearI (B : Nat) (w : World) (u : Value) (wr : World) (v : Value) (l : List Dd) : Prop := ∃ va vc vs, v = .slice va l.length vc ∧ wr.ownsRow B 29 7 v l.length vs ∧ DoB B wr vs l ∧ (v.ownBlock = u.ownBlock ∨ ∀ g, v.ownBlock = some g → w.heap.size ≤ g) ∧ (∀ k, k < w.heap.size → u.ownBlock ≠ some k → wr.heap[k]? = w.heap[k]?) ∧ Below B w wr ∧ w.heap.size ≤ wr.heap.size
theorem subs_snoc (t : Int) (es : List (List Int)) {j : Nat} (h : j < es.length) : subsL t (es.take (j + 1)) = subsL t (es.take j) ++ [subD t (es.getD j [])] := by
  unfold subsL
  rw [List.take_add_one, List.getElem?_eq_getElem h, List.map_append, List.getD_eq_getElem?_getD, List.getElem?_eq_getElem h]; rfl

theorem YearI.call {B : Nat} {w wr w' : World} {u v : Value} {l : List Dd} (h : YearI B w u wr v l) (hb : Below wr.heap.size wr w') (hB : B ≤ w.heap.size) : YearI B w u w' v l := by
  obtain ⟨va, vc, vs, h1, h2, h3, h4, h5, h6, h7⟩ := h
  exact ⟨va, vc, vs, h1, own7_below h2 hb (Nat.le_refl _), h3.below hb, h4, fun k hk hu => (hb.block k (Nat.lt_of_lt_of_le hk h7)).trans (h5 k hk hu), h6.trans (hb.mono (Nat.le_trans hB h7)), Nat.le_trans h7 hb.size⟩
/-- One thing more. -/
theorem YearI.more {B : Nat} {w wr w6 : World} {u : Value} {va : Option Addr} {n vc g cap : Nat} {l : List Dd} {x : Dd} {pa : Option Addr} {pc : Nat} {o : Obj} {vs : List Value} (hn : l.length = n) (hrow : wr.ownsRow B 29 7 (.slice va n vc) n vs) (hD : DoB B wr vs l) (hw : (Value.slice va n vc).ownBlock = u.ownBlock ∨ ∀ g, (Value.slice va n vc).ownBlock = some g → w.heap.size ≤ g) (hk : ∀ k, k < w.heap.size → u.ownBlock ≠ some k → wr.heap[k]? = w.heap[k]?) (hb : Below B w wr) (hs : w.heap.size ≤ wr.heap.size) (hB : B ≤ w.heap.size)
    (hx : Some' wr (.slice pa x.entry.length pc) x.entry) (ha : Away B wr (.slice pa x.entry.length pc) x.entry) (hf : DdFit x)
    (hg6 : (wr.alloc o).grownBy w6 (Value.slice va n vc).ownBlock) (ho6 : w6.ownsRow B 29 7 (.slice (some ⟨g, 0, none⟩) (n + 1) cap) (n + 1) (vs ++ ddV x pa pc)) (ha6 : (Value.slice va n vc).ownBlock = some g ∨ g = (wr.alloc o).heap.size) :
    YearI B w u w6 (.slice (some ⟨g, 0, none⟩) (n + 1) cap) (l ++ [x]) := by
  have bA : Below wr.heap.size wr (wr.alloc o) := (Below.refl _ _).alloc (Nat.le_refl _) _
  have hrowA := hrow.alloc o
  have hDA := (hD.below bA).snoc (hx.below bA) (ha.below bA) hf
  have hl1 : (l ++ [x]).length = n + 1 := by rw [List.length_append, hn]; rfl
  refine ⟨_, cap, _, by rw [hl1], by rw [hl1]; exact ho6, hDA.grown hrowA hg6, ?_, fun k hk' hu => ?_, ?_, ?_⟩
  · rcases ha6 with h | h
    · rcases hw with h' | h'
      · exact .inl (by rw [← h', h]; rfl)
      · exact .inr (fun q hq => by cases hq; exact h' g h)
    · exact .inr (fun q hq => by cases hq; show w.heap.size ≤ g; have := bA.size; omega)
  · have hlt : k < (wr.alloc o).heap.size := by have := bA.size; omega
    rw [hg6.block k hlt (fun e => by
      rcases hw with h' | h'
      · exact hu (by rw [← h', ← e])
      · have := h' k e.symm; omega)]
    rw [bA.block k (by omega)]
    exact hk k hk' hu
  · exact (hb.trans (bA.mono (Nat.le_trans hB hs))).grown hg6 (Nat.le_trans hB (Nat.le_trans hs bA.size)) (fun q hq => (hrowA.lt q hq).1)
  · exact Nat.le_trans hs (Nat.le_trans bA.size hg6.size)
theorem doD_fit {k n : Nat} (hk : k ≤ 10) : DdFit (doD (k : Int) (n : Int)) := ⟨⟨show (0 : Int) ≤ 0 by omega, show (0 : Int) < 256 by omega⟩, by show -9223372036854775808 ≤ (k : Int); omega, by show (k : Int) ≤ 9223372036854775807; omega⟩
theorem subD_fit (t : Int) (e : List Int) : DdFit (subD t e) := ⟨⟨show (0 : Int) ≤ 0 by omega, show (0 : Int) < 256 by omega⟩, show (-9223372036854775808 : Int) ≤ 1 by omega, show (1 : Int) ≤ 9223372036854775807 by omega⟩

def stepsT (k : Nat) : List Dd := [doD 2 (k : Int), doD 3 (k : Int), doD 4 (k : Int)]
theorem stepsT_snoc (k : Nat) {j : Nat} (h : j < 3) : (stepsT k).take (j + 1) = (stepsT k).take j ++ [doD ((2 + j : Nat) : Int) (k : Int)] := by
  match j, h with
  | 0, _ => rfl
  | 1, _ => rfl
  | 2, _ => rfl
set_option maxRecDepth 100000 in
set_option maxHeartbeats 2000000 in
theorem year_any (l0 : List Dd) (k far : Nat) (es : List (List Int)) (la ea : Option Addr) (ln lc n c B : Nat) (vs0 : List Value) (w : World) (hl0 : l0.length = ln) (hrow0 : w.ownsRow B 29 7 (.slice la ln lc) ln vs0) (hD0 : DoB B w vs0 l0) (hB : B ≤ w.heap.size) (hS : Stay B (.slice la ln lc) w ea n c es) (hk : k ≤ 8) (hf : far ≤ 3) (hbig : ln + n ≤ 100000) :
    Calls Tryd.prog 7 #[.slice la ln lc, .int .i64 (k : Int), .slice ea n c, .int .i64 (far : Int)] w fun e w' => ∃ v, e = .returned v ∧ YearI B w (.slice la ln lc) w' v (l0 ++ (subsL (10 * (k : Int) + 5) es ++ (stepsT k).take far)) := by
  obtain ⟨i0, hi0, hz0, hz1, hz2⟩ := info_parts Tryd.info29b
  have hLs := (hS w (Below.refl _ _) (Nat.le_refl _) (fun _ _ _ => rfl)).1
  have hlen := hLs.len
  have hroom := hLs.room
  have hcap := hLs.cap
  unfold maxLen at hcap
  have m1 : wrap64 (10 * (k : Int)) = 10 * (k : Int) := by unfold wrap64; omega
  have m2 : wrap64 (10 * (k : Int) + 5) = 10 * (k : Int) + 5 := by unfold wrap64; omega
  clear hLs
  go_enter Tryd.func7, Tryd.ntmps7
  go_wp2_with fail
  go_loopw [0, 15] (fun gv kv wr => ∃ (j : Nat) (va : Option Addr) (vn vc : Nat), j ≤ n ∧ kv = .int .i64 j ∧ gv = .slice va vn vc ∧ Hid (vn = ln + j) ∧ YearI B w (.slice la ln lc) wr (.slice va vn vc) (l0 ++ subsL (10 * (k : Int) + 5) (es.take j))) (fun _ kv _ => n - (intOf kv).toNat)
  case atStart => exact ⟨0, la, ln, lc, Nat.zero_le _, rfl, rfl, rfl, la, lc, vs0, by rw [List.take_zero]; show _ = Value.slice la (l0 ++ []).length lc; rw [List.append_nil, hl0], by rw [List.take_zero]; show World.ownsRow _ _ _ _ _ (l0 ++ []).length _; rw [List.append_nil, hl0]; exact hrow0, by rw [List.take_zero]; show DoB _ _ _ (l0 ++ []); rw [List.append_nil]; exact hD0, .inl rfl, fun _ _ _ => rfl, Below.refl _ _, Nat.le_refl _⟩
  case round =>
    obtain ⟨wo, rfl⟩ : ∃ x, x = wr := ⟨wr, rfl⟩
    obtain ⟨j, va, vn, vc, hj, rfl, rfl, HVN, hI⟩ := hrel
    have hvb : vn ≤ 100000 := by have := HVN.out; omega
    by_cases hlt : j < n
    · have hlt' : (j : Int) < n := by omega
      obtain ⟨va', vc', vs, e1, hrow, hD, hwh, hkp, hbl, hsz⟩ := hI
      have hln : (l0 ++ subsL (10 * (k : Int) + 5) (es.take j)).length = vn := by cases e1; rfl
      rw [hln] at e1 hrow
      cases e1
      obtain ⟨hLw, hAw⟩ := hS wo hbl hsz hkp
      obtain ⟨b, off, pa, pc, rfl, hcell, hP⟩ := hLw.get j hlt
      have hAwy := hAw j b off pa _ pc hlt rfl hcell
      have HM := fun w6 g cap o h1 h2 h3 => YearI.more (w6 := w6) (g := g) (cap := cap) (o := o) (x := subD (10 * (k : Int) + 5) (es.getD j [])) (pa := pa) (pc := pc) hln hrow hD hwh hkp hbl hsz hB hP hAwy (subD_fit _ _) h1 h2 h3
      have HSN : Hid (l0 ++ subsL (10 * (k : Int) + 5) (es.take (j + 1)) = (l0 ++ subsL (10 * (k : Int) + 5) (es.take j)) ++ [subD (10 * (k : Int) + 5) (es.getD j [])]) := by show _ = _; rw [subs_snoc _ _ (by omega), List.append_assoc]
      have HMH : Hid _ := HM
      have hnew := lit_dd wo (subD (10 * (k : Int) + 5) (es.getD j [])) pa pc 29
      have hone := ddV_one (subD (10 * (k : Int) + 5) (es.getD j [])) pa pc
      have hsA : B ≤ (wo.alloc (.cells #[.int .i64 1, .int .i64 0, .int .i64 (10 * (k : Int) + 5), .slice pa (es.getD j []).length pc, .int .i64 0, .int .i64 0, .int .u8 0] 29)).heap.size := by simp; omega
      have hrowA := hrow.alloc (.cells #[.int .i64 1, .int .i64 0, .int .i64 (10 * (k : Int) + 5), .slice pa (es.getD j []).length pc, .int .i64 0, .int .i64 0, .int .u8 0] 29)
      have HNW : Hid _ := hnew
      have HON : Hid _ := hone
      clear HM hnew hone hrow hD hwh hkp hbl hLw hAw hAwy hP
      obtain ⟨EN, HEN⟩ : ∃ EN, Hid (es.getD j [] = EN) := ⟨_, rfl⟩
      rw [HEN.out] at hcell hsA hrowA HMH HSN HNW HON
      go_wp2_with (at_builtin; refine wpList_append_lies _ rfl (.tmp 19) (.tmp 25) 25 rfl B 29 i0 _ 7 72 Tryd.underlying25 hi0 hz0 hz1 hz2 rfl (by decide) _ _ _ rfl hrowA ⟨wo.heap.size, 0, none⟩ 1 1 _ rfl rfl HNW.out HON.out (by decide) (by unfold maxLen; omega) (by omega) hsA _ rfl ?_; intro g cap w6 ho6 hg6 ha6 hlt6)
      have HI6 : Hid _ := HMH.out w6 g cap _ hg6 ho6 ha6
      clear HMH HNW HON hrowA ho6 hg6 ha6 hcell
      go_roundw
      case rel => exact ⟨j + 1, _, vn + 1, cap, by omega, by go_num, rfl, by show _ = _; have := HVN.out; omega, by rw [HSN.out]; exact HI6.out⟩
      case measure => simp [intOf]; omega
    · obtain rfl : j = n := by omega
      have hnl : ¬ (j : Int) < j := by omega
      have hT : es.take j = es := List.take_of_length_le (by omega)
      rw [hT] at hI
      clear hS hT
      obtain ⟨L1, HL1⟩ : ∃ L1, Hid (l0 ++ subsL (10 * (k : Int) + 5) es = L1) := ⟨_, rfl⟩
      rw [HL1.out] at hI
      have HRES : Hid (l0 ++ (subsL (10 * (k : Int) + 5) es ++ (stepsT k).take far) = L1 ++ (stepsT k).take far) := by show _ = _; rw [← HL1.out, List.append_assoc]
      have bX : Below wo.heap.size wo (wo.alloc (.cells #[.int .i64 2, .int .i64 3, .int .i64 4] 3)) := (Below.refl _ _).alloc (Nat.le_refl _) _
      have hIX := hI.call bX hB
      have xX := box_new wo #[.int .i64 2, .int .i64 3, .int .i64 4] 3
      have hf' : (far : Int) ≤ 3 := by omega
      have hf0 : (0 : Int) ≤ far := by omega
      clear hI bX
      go_wp2_with fail
      generalize wo.alloc (.cells #[.int .i64 2, .int .i64 3, .int .i64 4] 3) = wX at *
      obtain ⟨XB, HXB⟩ : ∃ XB, Hid (wo.heap.size = XB) := ⟨_, rfl⟩
      rw [HXB.out] at xX ⊢
      go_loopw [0, 32] (fun gv kv wr => ∃ (q : Nat) (va : Option Addr) (vn vc : Nat), q ≤ far ∧ kv = .int .i64 q ∧ gv = .slice va vn vc ∧ Hid (vn = ln + j + q) ∧ YearI B w (.slice la ln lc) wr (.slice va vn vc) (L1 ++ (stepsT k).take q) ∧ wr.heap[XB]? = some (.cells #[.int .i64 2, .int .i64 3, .int .i64 4] 3 (0, 0))) (fun _ kv _ => far - (intOf kv).toNat)
      case atStart => exact ⟨0, va, vn, vc, Nat.zero_le _, rfl, rfl, HVN, by rw [List.take_zero, List.append_nil]; exact hIX, xX⟩
      case round =>
        obtain ⟨wp, rfl⟩ : ∃ x, x = wr := ⟨wr, rfl⟩
        obtain ⟨q, va, vn, vc, hq, rfl, rfl, HVN2, hI, hx⟩ := hrel
        have hvb2 : vn ≤ 200000 := by have := HVN2.out; omega
        by_cases hlt : q < far
        · have hlt' : (q : Int) < far := by omega
          have hcq : wp.cell? ⟨XB, q, none⟩ = some (.int .i64 ((2 + q : Nat) : Int)) := by
            rw [cell_of_row wp XB q _ _ _ hx]
            match q, (show q < 3 by omega) with
            | 0, _ => rfl
            | 1, _ => rfl
            | 2, _ => rfl
          have HSN : Hid (L1 ++ (stepsT k).take (q + 1) = (L1 ++ (stepsT k).take q) ++ [doD ((2 + q : Nat) : Int) (k : Int)]) := by show _ = _; rw [stepsT_snoc k (by omega), List.append_assoc]
          obtain ⟨kd, HKD⟩ : ∃ kd : Int, Hid (((2 + q : Nat) : Int) = kd) := ⟨_, rfl⟩
          have hfit : DdFit (doD kd (k : Int)) := by rw [← HKD.out]; exact doD_fit (by omega)
          rw [HKD.out] at hcq HSN
          have hDo := topDo_any kd (k : Int) wp
          clear hIX xX
          go_wp2_with fail
          refine hDo.mono ?_
          rintro e w3 ⟨rfl, hb3⟩
          have hI3 := hI.call hb3 hB
          have hx3 := box_kept hx hb3
          obtain ⟨va', vc', vs, e1, hrow, hD, hwh, hkp, hbl, hsz⟩ := hI3
          have hln : (L1 ++ (stepsT k).take q).length = vn := by cases e1; rfl
          rw [hln] at e1 hrow
          cases e1
          have HM := fun w6 g cap o h1 h2 h3 => YearI.more (w6 := w6) (g := g) (cap := cap) (o := o) (x := doD kd (k : Int)) (pa := none) (pc := 0) hln hrow hD hwh hkp hbl hsz hB (some_nil _) (away_nil _ _ _ _) hfit h1 h2 h3
          have HMH : Hid _ := HM
          have hXn : ∀ n' vs', w3.ownsRow B 29 7 (.slice va vn vc) n' vs' → some XB ≠ (Value.slice va vn vc).ownBlock := fun n' vs' h => own7_apart h (by decide) hx3
          have HXN : Hid (some XB ≠ (Value.slice va vn vc).ownBlock) := hXn _ _ hrow
          have hnew := lit_dd w3 (doD kd (k : Int)) none 0 29
          have hone := ddV_one (doD kd (k : Int)) none 0
          have hsA : B ≤ (w3.alloc (.cells #[.int .i64 kd, .int .i64 (k : Int), .int .i64 0, .slice none 0 0, .int .i64 0, .int .i64 0, .int .u8 0] 29)).heap.size := by simp; omega
          have hrowA := hrow.alloc (.cells #[.int .i64 kd, .int .i64 (k : Int), .int .i64 0, .slice none 0 0, .int .i64 0, .int .i64 0, .int .u8 0] 29)
          have HNW : Hid _ := hnew
          have HON : Hid _ := hone
          clear HM hnew hone hrow hD hwh hkp hbl hI hXn hDo
          go_wp2_with (at_builtin; refine wpList_append_lies _ rfl (.tmp 36) (.tmp 40) 25 rfl B 29 i0 _ 7 72 Tryd.underlying25 hi0 hz0 hz1 hz2 rfl (by decide) _ _ _ rfl hrowA ⟨w3.heap.size, 0, none⟩ 1 1 _ rfl rfl HNW.out HON.out (by decide) (by unfold maxLen; omega) (by omega) hsA _ rfl ?_; intro g cap w6 ho6 hg6 ha6 hlt6)
          have HI6 : Hid _ := HMH.out w6 g cap _ hg6 ho6 ha6
          have hx6 : w6.heap[XB]? = some (.cells #[.int .i64 2, .int .i64 3, .int .i64 4] 3 (0, 0)) := (hg6.block XB (by have := lt_heap hx3; simp; omega) HXN.out).trans (box_old _ _ hx3)
          clear HMH HNW HON hrowA ho6 hg6 ha6 hcq HXN
          go_roundw
          case rel => exact ⟨q + 1, _, vn + 1, cap, by omega, by go_num, rfl, by show _ = _; have := HVN2.out; omega, by rw [HSN.out]; exact HI6.out, hx6⟩
          case measure => simp [intOf]; omega
        · obtain rfl : q = far := by omega
          have hnl : ¬ (q : Int) < q := by omega
          have HI : Hid _ := hI
          clear hI hIX xX hx
          go_wp2_with fail
          go_ret
          exact ⟨_, rfl, by rw [HRES.out]; exact HI.out⟩

/-- Entries that were there ahead of the row. -/
theorem stay_low {w0 w : World} {u : Value} {ea : Option Addr} {n c : Nat} {es : List (List Int)} (hL : Lists w0 ea n c es) (hb : Below w0.heap.size w0 w) : Stay w0.heap.size u w ea n c es := fun w' hb' _ _ => by
  have hb2 := hb.trans hb'
  refine ⟨hL.below hb2, fun j b off pa m pc hj he hc => ?_⟩
  obtain ⟨b', off', pa', pc', e', hc', hP⟩ := hL.get j hj
  rw [he] at e'
  cases e'
  rw [hb2.cell (p := ⟨b, off + j, none⟩) (World.block_lt_of_cell? _ _ hc'), hc'] at hc
  cases hc
  rcases hP.at' with ⟨e, -⟩ | ⟨g, o, cp, e, hg, -⟩
  · exact .inl e
  · refine .inr (fun q hq => ?_)
    rw [e] at hq
    cases hq
    exact ⟨Nat.lt_of_lt_of_le hg hb2.size, .inl hg⟩
/-- One byte, as one entry, written out. -/
theorem lit_lists {w : World} {p q : Nat} {x : Int} (hx : 0 ≤ x ∧ x < 256) (h1 : w.heap[p]? = some (.cells #[.int .u8 x] 5 (0, 0))) (h2 : w.heap[q]? = some (.cells #[.slice (some ⟨p, 0, none⟩) 1 1] 27 (0, 0))) : Lists w (some ⟨q, 0, none⟩) 1 1 [[x]] := by
  have hb : Bytes [x] := bytes_cons hx.1 hx.2 nil_bytes
  refine ⟨rfl, .inr ⟨q, 0, 1, rfl, lt_heap h2, fun j hj => ?_⟩, Nat.le_refl _, by unfold maxLen; omega, (fun e => by cases e), fun j => ?_, fun j => ?_⟩
  · obtain rfl : j = 0 := by simpa using hj
    refine ⟨_, 1, 1, cell_of_row w q 0 _ _ _ h2, .inr ⟨p, 0, 1, rfl, lt_heap h1, fun i hi => ?_⟩⟩
    obtain rfl : i = 0 := by simpa using hi
    exact cell_of_row w p 0 _ _ _ h1
  · match j with
    | 0 => exact hb
    | j + 1 => exact nil_bytes
  · match j with
    | 0 => show 1 ≤ maxLen; unfold maxLen; omega
    | j + 1 => exact Nat.zero_le _
theorem lit_lists2 {w : World} {p p' q : Nat} {x y : Int} (hx : 0 ≤ x ∧ x < 256) (hy : 0 ≤ y ∧ y < 256) (h1 : w.heap[p]? = some (.cells #[.int .u8 x] 5 (0, 0))) (h1' : w.heap[p']? = some (.cells #[.int .u8 y] 5 (0, 0))) (h2 : w.heap[q]? = some (.cells #[.slice (some ⟨p, 0, none⟩) 1 1, .slice (some ⟨p', 0, none⟩) 1 1] 27 (0, 0))) : Lists w (some ⟨q, 0, none⟩) 2 2 [[x], [y]] := by
  have hb : Bytes [x] := bytes_cons hx.1 hx.2 nil_bytes
  have hb' : Bytes [y] := bytes_cons hy.1 hy.2 nil_bytes
  refine ⟨rfl, .inr ⟨q, 0, 2, rfl, lt_heap h2, fun j hj => ?_⟩, Nat.le_refl _, by unfold maxLen; omega, (fun e => by cases e), fun j => ?_, fun j => ?_⟩
  · have hj2 : j < 2 := hj
    match j, hj2 with
    | 0, _ =>
      refine ⟨_, 1, 1, cell_of_row w q 0 _ _ _ h2, .inr ⟨p, 0, 1, rfl, lt_heap h1, fun i hi => ?_⟩⟩
      obtain rfl : i = 0 := by simpa using hi
      exact cell_of_row w p 0 _ _ _ h1
    | 1, _ =>
      refine ⟨_, 1, 1, cell_of_row w q 1 _ _ _ h2, .inr ⟨p', 0, 1, rfl, lt_heap h1', fun i hi => ?_⟩⟩
      obtain rfl : i = 0 := by simpa using hi
      exact cell_of_row w p' 0 _ _ _ h1'
  · match j with
    | 0 => exact hb
    | 1 => exact hb'
    | j + 2 => exact nil_bytes
  · match j with
    | 0 => show 1 ≤ maxLen; unfold maxLen; omega
    | 1 => show 1 ≤ maxLen; unfold maxLen; omega
    | j + 2 => exact Nat.zero_le _
theorem stay_lit {B p q : Nat} {w : World} {u : Value} {x : Int} (hx : 0 ≤ x ∧ x < 256) (h1 : w.heap[p]? = some (.cells #[.int .u8 x] 5 (0, 0))) (h2 : w.heap[q]? = some (.cells #[.slice (some ⟨p, 0, none⟩) 1 1] 27 (0, 0))) (hp : u.ownBlock ≠ some p) (hq : u.ownBlock ≠ some q) : Stay B u w (some ⟨q, 0, none⟩) 1 1 [[x]] := fun w' _ _ hk => by
  have g1 := (hk p (lt_heap h1) hp).trans h1
  have g2 := (hk q (lt_heap h2) hq).trans h2
  refine ⟨lit_lists hx g1 g2, fun j b off pa m pc hj he hc => ?_⟩
  obtain rfl : j = 0 := by omega
  cases he
  rw [cell_of_row w' q (0 + 0) _ _ _ g2] at hc
  cases hc
  exact .inr (fun g hg => by cases hg; exact ⟨lt_heap g1, .inr ⟨_, _, g1⟩⟩)

end Go.Proofs.YtkjlchfmplcobagDoor

/- The walk of the law FleetPast, over the faces of package fleet. -/
namespace Go.Proofs.YtkjlchfmplcobagDoor
open Go.RowKit

theorem play_ok {ws : List Win} {l : List Dd} (h : (playF ws l).1 = 0) : playL ws l = runL (startL ws) l ∧ (wrongWins ws).1 = 0 ∧ l.length ≤ 120 := by
  refine ⟨by unfold playL; rw [if_neg (fun g => g h)], ?_, ?_⟩
  · unfold playF at h
    by_cases hw : (wrongWins ws).1 ≠ 0
    · rw [if_pos hw] at h; exact absurd h hw
    · simpa using hw
  · unfold playF at h
    by_cases hw : (wrongWins ws).1 ≠ 0
    · rw [if_pos hw] at h; exact absurd h hw
    · rw [if_neg hw] at h
      by_cases hl : 120 < l.length
      · rw [if_pos hl] at h; exact absurd h (by decide)
      · omega
theorem play_right {ws : List Win} {l : List Dd} (hw : (wrongWins ws).1 = 0) (hl : l.length ≤ 120) : playF ws l = (0, 0) := by
  unfold playF; rw [if_neg (fun g => g hw), if_neg (by omega)]
end Go.Proofs.YtkjlchfmplcobagDoor

/- The walk of yeartop.alive, over package fleet's faces. -/
namespace Go.Proofs.YtkjlchfmplcobagDoor
open Go.RowKit

theorem winsL_get {n k : Nat} (h : k < n) : (winsL n).getD k win0 = ⟨10 * (k : Int), 10 * (k : Int) + 10⟩ := by
  unfold winsL; rw [List.getD_eq_getElem?_getD, List.getElem?_map, List.getElem?_range h]; rfl
theorem winsL_right {n : Nat} (h : n ≤ 8) : wrongWins (winsL n) = (0, 0) := wrongWins_none (by rw [winsL_length]; omega) (fun j hj => by
  rw [winsL_length] at hj
  unfold wrongWin
  rw [winsL_get hj, if_neg (by dsimp only; omega)]
  by_cases h0 : 0 < j
  · rw [winsL_get (show j - 1 < n by omega), if_neg (by dsimp only; omega)]
  · rw [if_neg (fun g => h0 g.1)])
def topD : List Dd := yearL 0 [[1], [2]] 3 ++ yearL 1 [[3]] 1
theorem topD_right : playF (winsL 2) topD = (0, 0) := play_right (by rw [winsL_right (by omega)]) (by decide)
theorem unlike12 : Unlike [[1], [2]] := ⟨by decide, by decide, by decide⟩
theorem unlike3 : Unlike [[3]] := ⟨by decide, by decide, by decide⟩
theorem topD_run : (playL (winsL 2) topD).2.length = 7 ∧ (playL (winsL 2) topD).1.book.length = 2 ∧ (playL (winsL 2) topD).1.shards.length = 2 ∧ ((playL (winsL 2) topD).1.shards.getD 0 shd0).state = 4 ∧ ((playL (winsL 2) topD).2.getD 6 ans0).size = 1 := by
  have hp := (play_ok (ws := winsL 2) (l := topD) (by rw [topD_right])).1
  have y1 := run_year (f := startL (winsL 2)) (k := 0) unlike12 (by rfl) rfl rfl (far := 3) (by omega) (by omega)
  obtain ⟨F1, hF1⟩ : ∃ F1, F1 = (runL (startL (winsL 2)) (yearL 0 [[1], [2]] 3)).1 := ⟨_, rfl⟩
  have hF1' := hF1
  rw [y1] at hF1'
  have y2 := run_year (f := F1) (k := 1) unlike3 (by rw [hF1']; rfl) (by rw [hF1']; rfl) (by rw [hF1']; rfl) (far := 1) (by omega) (by omega)
  rw [hp]
  unfold topD
  rw [runL_append, ← hF1, y1, y2, hF1']
  exact ⟨rfl, rfl, rfl, rfl, rfl⟩

set_option maxRecDepth 100000 in
set_option maxHeartbeats 2000000 in
theorem topAlive_any (hPl : PlayC) (w : World) (hR : Ready w) :
    Calls Tryd.prog 5 #[] w fun e w' => e = .returned (.bool true) ∧ Below w.heap.size w w' := by
  go_enter Tryd.func5, Tryd.ntmps5
  go_wp2_with fail
  refine (windows_any 2 (by omega) w).mono ?_
  rintro e w1 ⟨wa, wc, rfl, hW1, b1⟩
  have dL : Below w1.heap.size w1 (((w1.alloc (.cells #[.int .u8 1] 5)).alloc (.cells #[.int .u8 2] 5)).alloc (.cells #[.slice (some ⟨w1.heap.size, 0, none⟩) 1 1, .slice (some ⟨w1.heap.size + 1, 0, none⟩) 1 1] 27)) := (((Below.refl _ _).alloc (Nat.le_refl _) _).alloc (by simp) _).alloc (by simp; omega) _
  have p1 := box_old _ (.cells #[.slice (some ⟨w1.heap.size, 0, none⟩) 1 1, .slice (some ⟨w1.heap.size + 1, 0, none⟩) 1 1] 27) (box_one w1 #[.int .u8 1] 5 (.cells #[.int .u8 2] 5))
  have p2 := box_old _ (.cells #[.slice (some ⟨w1.heap.size, 0, none⟩) 1 1, .slice (some ⟨w1.heap.size + 1, 0, none⟩) 1 1] 27) (box_last w1 (.cells #[.int .u8 1] 5) #[.int .u8 2] 5)
  have p3 := box_new ((w1.alloc (.cells #[.int .u8 1] 5)).alloc (.cells #[.int .u8 2] 5)) #[.slice (some ⟨w1.heap.size, 0, none⟩) 1 1, .slice (some ⟨w1.heap.size + 1, 0, none⟩) 1 1] 27
  have hz : ((w1.alloc (.cells #[.int .u8 1] 5)).alloc (.cells #[.int .u8 2] 5)).heap.size = w1.heap.size + 2 := by simp
  rw [hz] at p3
  have hLs := lit_lists2 (by omega) (by omega) p1 p2 p3
  have b2 := b1.trans (dL.mono b1.size)
  have hW2 := hW1.below dL
  have hY := year_any [] 0 3 [[1], [2]] none _ 0 0 2 2 _ [] _ rfl (World.ownsRow_nil _ _ _ _) (doB_nil _ _) (Nat.le_refl _) (stay_low hLs (Below.refl _ _)) (by omega) (by omega) (by omega)
  clear hW1 dL p1 p2 p3 hz hLs b1
  go_wp2_with fail
  generalize ((w1.alloc (.cells #[.int .u8 1] 5)).alloc (.cells #[.int .u8 2] 5)).alloc (.cells #[.slice (some ⟨w1.heap.size, 0, none⟩) 1 1, .slice (some ⟨w1.heap.size + 1, 0, none⟩) 1 1] 27) = w2 at *
  refine hY.mono ?_
  rintro e w3 ⟨v3, rfl, va, vc, vs, rfl, hrow, hD, hwh, hkp, hb3, hs3⟩
  have hl1 : ([] ++ (subsL (10 * ((0 : Nat) : Int) + 5) [[1], [2]] ++ (stepsT 0).take 3) : List Dd).length = 5 := rfl
  rw [hl1] at hrow hwh
  clear hY
  have e1 : ([] ++ (subsL (10 * ((0 : Nat) : Int) + 5) [[1], [2]] ++ (stepsT 0).take 3) : List Dd) = yearL 0 [[1], [2]] 3 := rfl
  rw [e1] at hD
  have b3 := b2.trans (hb3.mono b2.size)
  have dM : Below w3.heap.size w3 ((w3.alloc (.cells #[.int .u8 3] 5)).alloc (.cells #[.slice (some ⟨w3.heap.size, 0, none⟩) 1 1] 27)) := ((Below.refl _ _).alloc (Nat.le_refl _) _).alloc (by simp) _
  have q1 := box_one w3 #[.int .u8 3] 5 (.cells #[.slice (some ⟨w3.heap.size, 0, none⟩) 1 1] 27)
  have q2 := box_last w3 (.cells #[.int .u8 3] 5) #[.slice (some ⟨w3.heap.size, 0, none⟩) 1 1] 27
  have hrowM := own7_below hrow dM (Nat.le_refl _)
  have hDM := hD.below dM
  have hlt : ∀ g, (Value.slice va 5 vc).ownBlock = some g → g < w3.heap.size := fun g hg => (hrow.lt g hg).2
  have hSt : Stay w2.heap.size (.slice va 5 vc) ((w3.alloc (.cells #[.int .u8 3] 5)).alloc (.cells #[.slice (some ⟨w3.heap.size, 0, none⟩) 1 1] 27)) (some ⟨w3.heap.size + 1, 0, none⟩) 1 1 [[3]] := stay_lit (by omega) q1 q2 (fun h => by have := hlt _ h; omega) (fun h => by have := hlt _ h; omega)
  have hY := year_any (yearL 0 [[1], [2]] 3) 1 1 [[3]] va _ 5 vc 1 1 w2.heap.size vs _ rfl hrowM hDM (Nat.le_trans hs3 dM.size) hSt (by omega) (by omega) (by omega)
  have c4 : Below w2.heap.size w2 ((w3.alloc (.cells #[.int .u8 3] 5)).alloc (.cells #[.slice (some ⟨w3.heap.size, 0, none⟩) 1 1] 27)) := hb3.trans (dM.mono hs3)
  have hs4 : w2.heap.size ≤ _ := Nat.le_trans hs3 dM.size
  clear hrow hD hwh hkp dM q1 q2 hrowM hDM hlt hSt hl1 e1
  go_wp2_with fail
  generalize (w3.alloc (.cells #[.int .u8 3] 5)).alloc (.cells #[.slice (some ⟨w3.heap.size, 0, none⟩) 1 1] 27) = w4 at *
  refine hY.mono ?_
  rintro e w5 ⟨v5, rfl, va5, vc5, vs5, rfl, hrow5, hD5, -, -, hb5, hs5⟩
  have hDos := hD5.dos hrow5
  have hl5 : (yearL 0 [[1], [2]] 3 ++ (subsL (10 * ((1 : Nat) : Int) + 5) [[3]] ++ (stepsT 1).take 1)).length = 7 := rfl
  have e5 : yearL 0 [[1], [2]] 3 ++ (subsL (10 * ((1 : Nat) : Int) + 5) [[3]] ++ (stepsT 1).take 1) = topD := rfl
  rw [hl5, e5] at hDos
  rw [hl5]
  have c5 := c4.trans hb5
  have b5 := b2.trans (c5.mono b2.size)
  have cP := hPl (winsL 2) topD _ _ w5 (hR.below b5) (hW2.below c5) hDos
  obtain ⟨f1, f2, f3, f4, f5⟩ := topD_run
  rw [topD_right] at cP
  dsimp only [faultV] at cP
  clear hY hrow5 hD5 hDos hl5 e5 hb5 hs5 c4 hW2 hb3 hs3 hs4 hPl b3
  generalize playL (winsL 2) topD = PP at *
  obtain ⟨F, A⟩ := PP
  dsimp only at f1 f2 f3 f4 f5 cP
  go_wp2_with fail
  refine cP.mono ?_
  rintro e w6 ⟨fv, av, rfl, hF, hA, hb6⟩
  have b6 := b5.trans (hb6.mono b5.size)
  obtain ⟨sa, sc, ka, kc, rfl, hSh, hBk⟩ := hF
  obtain ⟨aa, ac, rfl, ha1, ha2, ha3, hAc⟩ := hA
  obtain ⟨ab, ao, rfl, hab, hcs⟩ := hAc.resolve_left (by omega)
  obtain ⟨-, -, -, a3, -⟩ := hcs 6 (by omega)
  obtain ⟨sa', sc', es, -, -, -, hSc⟩ := hSh
  cases es
  obtain ⟨sb, so, rfl, hsb, hsc⟩ := hSc.resolve_left (by omega)
  obtain ⟨-, -, s2, -, -, -, -⟩ := hsc 0 (by omega)
  rw [f5] at a3
  rw [f4] at s2
  rw [Nat.zero_mul, Nat.add_zero] at s2
  rw [f1, f2, f3]
  have d7 : Below w6.heap.size w6 ((w6.alloc (.cells #[.slice (some ⟨sb, so, none⟩) 2 sc, .slice ka 2 kc] 34)).alloc (.cells #[.int .i64 0, .int .i64 0] 38)) := ((Below.refl _ _).alloc (Nat.le_refl _) _).alloc (by simp) _
  obtain ⟨x0, x1, -, -⟩ := box_two (box_one w6 #[.slice (some ⟨sb, so, none⟩) 2 sc, .slice ka 2 kc] 34 (.cells #[.int .i64 0, .int .i64 0] 38))
  obtain ⟨y0, y1, -, -⟩ := box_two (box_last w6 (.cells #[.slice (some ⟨sb, so, none⟩) 2 sc, .slice ka 2 kc] 34) #[.int .i64 0, .int .i64 0] 38)
  have a7 := (d7.cell (p := ⟨ab, ao + 6 * 5 + 3, none⟩) hab).trans a3
  have s7 := (d7.cell (p := ⟨sb, so + 2, none⟩) hsb).trans s2
  have b7 := b6.trans (d7.mono b6.size)
  clear cP hAc hcs hSc hsc hBk a3 s2 d7 f1 f2 f3 f4 f5
  go_wp2_with fail
  go_ret
  exact ⟨rfl, b7⟩

end Go.Proofs.YtkjlchfmplcobagDoor

/- Segments as rows of a call's own; parts of lists. -/
namespace Go.Proofs.YtkjlchfmplcobagDoor
open Go.RowKit

theorem Tryd.info78b : (Tryd.prog.info? 78).map (fun i => (i.zero, i.size, i.bytes)) = some (some (.agg #[.int .i64 0, .int .i64 0, .slice none 0 0]), 3, 40) := by kernel_rfl
theorem Lists.part {w : World} {b off n c i m : Nat} {L : List (List Int)} (h : Lists w (some ⟨b, off, none⟩) n c L) (hi : i + m ≤ n) (hm : 1 ≤ m) : Lists w (some ⟨b, off + i, none⟩) m (c - i) ((L.drop i).take m) := by
  have hl := h.len
  have hr := h.room
  have hc := h.cap
  have hd := h.at'.drop (k := i) hl (by omega) (by omega) (c - i)
  refine ⟨by rw [List.length_take, List.length_drop]; omega, hd.take (by rw [List.length_drop]; omega) (by omega) (by omega) _, by omega, by omega, fun e => (by cases e), ?_, ?_⟩
  · refine take_bytes (fun j => ?_) m
    rw [List.getD_eq_getElem?_getD, List.getElem?_drop, ← List.getD_eq_getElem?_getD]; exact h.bytes _
  · refine take_short (fun j => ?_) m
    rw [List.getD_eq_getElem?_getD, List.getElem?_drop, ← List.getD_eq_getElem?_getD]; exact h.short _
theorem own3_below {w w' : World} {base : Nat} {e : TypeId} {v : Value} {n N : Nat} {xs : List Value} (h : w.ownsRow base e 3 v n xs) (hb : Below N w w') (hN : w.heap.size ≤ N) : w'.ownsRow base e 3 v n xs :=
  h.kept (w' := w') (row := none) ⟨hb.os, hb.tape, hb.output, hb.size, fun k hk _ => hb.block k (Nat.lt_of_lt_of_le hk hN)⟩ (by cases v.ownBlock <;> simp)
theorem own_ne3 {w : World} {base b2 : Nat} {e1 e2 : TypeId} {v1 v2 : Value} {n1 n2 : Nat} {xs1 xs2 : List Value} (h1 : w.ownsRow base e1 1 v1 n1 xs1) (h2 : w.ownsRow b2 e2 3 v2 n2 xs2) (hne : e1 ≠ e2) : Sep v1 v2 := fun g hg1 hg2 => by
  rcases h1.2 with ⟨rfl, -⟩ | ⟨g1, c1, cur1, rfl, -, hh1, -⟩
  · cases hg1
  rcases h2.2 with ⟨rfl, -⟩ | ⟨g2, c2, cur2, rfl, -, hh2, -⟩
  · cases hg2
  cases hg1
  cases hg2
  rw [hh1] at hh2
  cases hh2
  exact hne rfl
/-- The values of segments, each with bytes of the call's own. -/
def SegEls (w : World) (base : Nat) (vs : List Value) (l : List Seg) : Prop :=
  vs.length = l.length * 3 ∧ ∀ j, j < l.length → vs[j * 3]? = some (.int .i64 (l.getD j seg0).first) ∧ vs[j * 3 + 1]? = some (.int .i64 (l.getD j seg0).count) ∧
    ∃ y, vs[j * 3 + 2]? = some y ∧ w.ownsRow base 5 1 y (l.getD j seg0).packed.length ((l.getD j seg0).packed.map (Value.int .u8))
theorem SegEls.kept {w w' : World} {base b2 : Nat} {vs : List Value} {l : List Seg} {v : Value} {n : Nat} {xs : List Value} (h : SegEls w base vs l) (hr : w.ownsRow b2 78 3 v n xs) (hg : w.grownBy w' v.ownBlock) : SegEls w' base vs l :=
  ⟨h.1, fun j hj => by
    obtain ⟨h0, h1, y, h2, h3⟩ := h.2 j hj
    exact ⟨h0, h1, y, h2, h3.kept hg (own_ne3 h3 hr (by decide)).or⟩⟩
theorem SegEls.alloc {w : World} {base : Nat} {vs : List Value} {l : List Seg} (h : SegEls w base vs l) (o : Obj) : SegEls (w.alloc o) base vs l :=
  ⟨h.1, fun j hj => by
    obtain ⟨h0, h1, y, h2, h3⟩ := h.2 j hj
    exact ⟨h0, h1, y, h2, h3.alloc o⟩⟩
theorem SegEls.below {w w' : World} {base N : Nat} {vs : List Value} {l : List Seg} (h : SegEls w base vs l) (hb : Below N w w') (hN : w.heap.size ≤ N) : SegEls w' base vs l :=
  ⟨h.1, fun j hj => by
    obtain ⟨h0, h1, y, h2, h3⟩ := h.2 j hj
    exact ⟨h0, h1, y, h2, own_below h3 hb hN⟩⟩
theorem SegEls.snoc {w : World} {base : Nat} {vs : List Value} {l : List Seg} {s : Seg} {y : Value} (h : SegEls w base vs l) (hy : w.ownsRow base 5 1 y s.packed.length (s.packed.map (Value.int .u8))) : SegEls w base (vs ++ [.int .i64 s.first, .int .i64 s.count, y]) (l ++ [s]) := by
  obtain ⟨hl, h⟩ := h
  refine ⟨by simp; omega, fun j hj => ?_⟩
  by_cases e : j < l.length
  · obtain ⟨h0, h1, z, h2, h3⟩ := h j e
    have eg : (l ++ [s]).getD j seg0 = l.getD j seg0 := by rw [List.getD_eq_getElem?_getD, List.getElem?_append_left e, ← List.getD_eq_getElem?_getD]
    rw [eg, List.getElem?_append_left (by omega), List.getElem?_append_left (by omega), List.getElem?_append_left (by omega)]
    exact ⟨h0, h1, z, h2, h3⟩
  · obtain rfl : j = l.length := by simp at hj; omega
    have eg : (l ++ [s]).getD l.length seg0 = s := by rw [List.getD_eq_getElem?_getD, List.getElem?_append_right (Nat.le_refl _), Nat.sub_self]; rfl
    rw [eg, List.getElem?_append_right (by omega), List.getElem?_append_right (by omega), List.getElem?_append_right (by omega), hl, Nat.sub_self, show l.length * 3 + 1 - l.length * 3 = 1 by omega, show l.length * 3 + 2 - l.length * 3 = 2 by omega]
    exact ⟨rfl, rfl, y, rfl, hy⟩
theorem segEls_nil (w : World) (base : Nat) : SegEls w base [] [] := ⟨rfl, fun _ hj => absurd hj (Nat.not_lt_zero _)⟩
/-- Segments, all of them the call's own. -/
def OwnSegs (w : World) (base : Nat) (v : Value) (l : List Seg) : Prop := ∃ vs, w.ownsRow base 78 3 v l.length vs ∧ SegEls w base vs l
theorem OwnSegs.below {w w' : World} {base N : Nat} {v : Value} {l : List Seg} (h : OwnSegs w base v l) (hb : Below N w w') (hN : w.heap.size ≤ N) : OwnSegs w' base v l := by
  obtain ⟨vs, h1, h2⟩ := h
  exact ⟨vs, own3_below h1 hb hN, h2.below hb hN⟩
theorem OwnSegs.set {w : World} {base k o : Nat} {v : Value} {l : List Seg} (h : OwnSegs w base v l) (hk : k < base) (u : Value) : OwnSegs (w.setCell ⟨k, o, none⟩ u) base v l := by
  obtain ⟨vs, h1, h2, h3⟩ := h
  refine ⟨vs, ownsRow_setCell_below h1 (a := ⟨k, o, none⟩) hk u, h2, fun j hj => ?_⟩
  obtain ⟨g0, g1, y, g2, g3⟩ := h3 j hj
  exact ⟨g0, g1, y, g2, ownsRow_setCell_below g3 (a := ⟨k, o, none⟩) hk u⟩
theorem OwnSegs.segs {w : World} {base : Nat} {v : Value} {l : List Seg} (h : OwnSegs w base v l) (hby : SegsBytes l) : SegsAt w v l := by
  obtain ⟨vs, h1, -, h2⟩ := h
  rcases h1.2 with ⟨hv, hn⟩ | ⟨g, cap, cur, rfl, -, hg, h3, h4, -⟩
  · exact ⟨none, 0, by rw [hv, hn], by omega, Nat.zero_le _, fun _ => rfl, .inl hn⟩
  · refine ⟨_, cap, rfl, h3, h4, (fun e => by cases e), .inr ⟨g, 0, rfl, lt_heap hg, fun j hj => ?_⟩⟩
    obtain ⟨g0, g1, y, g2, g3⟩ := h2 j hj
    rw [Nat.zero_add]
    refine ⟨(h1.cellAt (j * 3) (by omega)).trans g0, (h1.cellAt (j * 3 + 1) (by omega)).trans g1, ?_⟩
    obtain ⟨pa, pc, rfl, q1, q2⟩ := own_cap g3
    exact ⟨pa, pc, (h1.cellAt (j * 3 + 2) (by omega)).trans g2, ⟨bytesAt_own g3, hby j, by omega⟩, q1, q2⟩
/-- Each segment's bytes lie in a later block than those of the one ahead. -/
def RiseV (vs : List Value) (m : Nat) : Prop := ∀ i j, i < j → j < m → ∀ y z g h, vs[i * 3 + 2]? = some y → vs[j * 3 + 2]? = some z → y.ownBlock = some g → z.ownBlock = some h → g < h
theorem riseV_nil : RiseV [] 0 := fun _ _ _ h => absurd h (Nat.not_lt_zero _)
theorem RiseV.snoc {w : World} {base m : Nat} {vs : List Value} {l : List Seg} {a b y : Value} (h : RiseV vs m) (he : SegEls w base vs l) (hm : l.length = m) (hy : ∀ g, y.ownBlock = some g → w.heap.size ≤ g) : RiseV (vs ++ [a, b, y]) (m + 1) := fun i j hij hj u z g q hu hz hg hq => by
  have hl : vs.length = m * 3 := by rw [← hm]; exact he.1
  rw [List.getElem?_append_left (by omega)] at hu
  by_cases e : j < m
  · rw [List.getElem?_append_left (by omega)] at hz
    exact h i j hij e u z g q hu hz hg hq
  · obtain rfl : j = m := by omega
    rw [List.getElem?_append_right (by omega), hl, show j * 3 + 2 - j * 3 = 2 by omega] at hz
    cases hz
    obtain ⟨-, -, x, h1, h2⟩ := he.2 i (by omega)
    rw [hu] at h1
    cases h1
    have := (h2.lt g hg).2
    have := hy q hq
    omega
theorem lit_seg (w : World) (x y : Int) (pv : Value) (t : TypeId) : ∀ (j : Nat) (u : Value), [Value.int .i64 x, .int .i64 y, pv][j]? = some u → (w.alloc (.cells #[.int .i64 x, .int .i64 y, pv] t)).cell? ((⟨w.heap.size, 0, none⟩ : Addr).add j) = some u := fun j u hj => by
  have hadd : (⟨w.heap.size, 0, none⟩ : Addr).add j = ⟨w.heap.size, 0 + j, none⟩ := Addr.add_mid _ _ _
  rw [hadd, Nat.zero_add]
  match j, hj with
  | 0, hj => rw [new_cell w t _ 0 (by simp)]; simpa using hj
  | 1, hj => rw [new_cell w t _ 1 (by simp)]; simpa using hj
  | 2, hj => rw [new_cell w t _ 2 (by simp)]; simpa using hj
  | j + 3, hj => simp at hj
theorem segK_bytes {L : List (List Int)} (hb : ∀ j, Bytes (L.getD j [])) (h : ∀ e ∈ L, e.length ≤ 200) (k : Nat) : Bytes (segK L k).packed := by
  refine pack_bytes ?_ (lay_part h k)
  refine bytes_of_mem (fun x hx => ?_)
  unfold layL at hx
  obtain ⟨e, he, hx⟩ := List.mem_flatMap.1 hx
  have h200 := short_part h k e he
  rcases List.mem_cons.1 hx with rfl | hx
  · omega
  · obtain ⟨j, hj, rfl⟩ := List.mem_iff_getElem.1 (List.mem_of_mem_drop (List.mem_of_mem_take he))
    have := hb j
    rw [List.getD_eq_getElem?_getD, List.getElem?_eq_getElem hj] at this
    exact bytes_forall this x hx
theorem segsL_bytes {L : List (List Int)} (hb : ∀ j, Bytes (L.getD j [])) (h : ∀ e ∈ L, e.length ≤ 200) : SegsBytes (segsL L) := fun j => by
  by_cases hj : j < (L.length + 7) / 8
  · unfold segsL; rw [segsN_get _ _ _ hj]; exact segK_bytes hb h j
  · rw [List.getD_eq_getElem?_getD, List.getElem?_eq_none (by unfold segsL; rw [segsN_length]; omega)]; exact nil_bytes
/-- The text of a part. -/
theorem lay_bytes {l : List (List Int)} (hb : ∀ j, Bytes (l.getD j [])) (h : ∀ j, (l.getD j []).length ≤ 200) : Bytes (layL l) := by
  refine bytes_of_mem (fun x hx => ?_)
  unfold layL at hx
  obtain ⟨e, he, hx⟩ := List.mem_flatMap.1 hx
  obtain ⟨j, hj, rfl⟩ := List.mem_iff_getElem.1 he
  have h1 := hb j
  have h2 := h j
  rw [List.getD_eq_getElem?_getD, List.getElem?_eq_getElem hj] at h1 h2
  rcases List.mem_cons.1 hx with rfl | hx
  · simp at h2; omega
  · exact bytes_forall h1 x hx

end Go.Proofs.YtkjlchfmplcobagDoor

/- The walk of the law TopSteps, over package fleet's faces. -/
namespace Go.Proofs.YtkjlchfmplcobagDoor
open Go.RowKit

def IntCell (w : World) (b o : Nat) (x : Int) : Prop := w.cell? ⟨b, o, none⟩ = some (.int .i64 x) ∧ -9223372036854775808 ≤ x ∧ x ≤ 9223372036854775807
def IntsAt (w : World) (v : Value) (l : List Int) : Prop := RowAt 1 IntCell 0 w v l
theorem IntsAt.below {w w' : World} {v : Value} {l : List Int} (h : IntsAt w v l) (hw : Below w.heap.size w w') : IntsAt w' v l :=
  RowAt.below h hw (fun b o _ hb ⟨h1, h2⟩ => ⟨by rw [hw.cell (p := ⟨b, o, none⟩) hb]; exact h1, h2⟩)
theorem IntsAt.get {w : World} {a : Option Addr} {n c : Nat} {l : List Int} (h : IntsAt w (.slice a n c) l) (hn : l.length = n) {j : Nat} (hj : j < n) : ∃ b o, a = some ⟨b, o, none⟩ ∧ b < w.heap.size ∧ w.cell? ⟨b, o + j, none⟩ = some (.int .i64 (l.getD j 0)) ∧ -9223372036854775808 ≤ l.getD j 0 ∧ l.getD j 0 ≤ 9223372036854775807 := by
  obtain ⟨a', c', e, -, -, -, h5⟩ := h
  rw [hn] at e h5
  cases e
  obtain ⟨b, off, h6, h7, h8⟩ := h5.resolve_left (by omega)
  obtain ⟨h9, h10⟩ := h8 j hj
  rw [Nat.mul_one] at h9
  exact ⟨b, off, h6, h7, h9, h10⟩
theorem YearI.kept {w wr : World} {u v : Value} {l : List Dd} (h : YearI w.heap.size w u wr v l) : Below w.heap.size w wr := by obtain ⟨_, _, _, _, _, _, _, _, h6, _⟩ := h; exact h6
theorem AnssAt.at' {w : World} {a : Option Addr} {n c : Nat} {l : List Ans} (h : AnssAt w (.slice a n c) l) (hn : l.length = n) {j : Nat} (hj : j < n) : ∃ b o, a = some ⟨b, o, none⟩ ∧ b < w.heap.size ∧ AnsCells w b (o + j * 5) (l.getD j ans0) := by
  obtain ⟨a', c', e, -, -, -, h5⟩ := h
  rw [hn] at e h5
  cases e
  obtain ⟨b, off, h6, h7, h8⟩ := h5.resolve_left (by omega)
  exact ⟨b, off, h6, h7, h8 j hj⟩
theorem kd_fit {k : Int} (h : -9223372036854775808 ≤ k ∧ k ≤ 9223372036854775807) : DdFit (doD k 0) := ⟨⟨show (0 : Int) ≤ 0 by omega, show (0 : Int) < 256 by omega⟩, h⟩
end Go.Proofs.YtkjlchfmplcobagDoor

/- The mathematics of the law TopSpoilt: one byte is enough. -/
namespace Go.Proofs.YtkjlchfmplcobagDoor

def spD (sg at' by' : Int) : Dd := ⟨5, 0, 0, [], sg, at', by'⟩
theorem spoil_step {f : Flt} (hl : f.shards.length = 1) (h3 : (f.shards.getD 0 shd0).state = 3) (sg at' by' : Int) :
    ∃ m, (stepL f (spD sg at' by')).1.shards.length = 1 ∧ (stepL f (spD sg at' by')).1.shards.getD 0 shd0 = upd (f.shards.getD 0 shd0) 3 (f.shards.getD 0 shd0).entries m ∧ m.size = (f.shards.getD 0 shd0).man.size := by
  have same : ∃ m, f.shards.length = 1 ∧ f.shards.getD 0 shd0 = upd (f.shards.getD 0 shd0) 3 (f.shards.getD 0 shd0).entries m ∧ m.size = (f.shards.getD 0 shd0).man.size := ⟨(f.shards.getD 0 shd0).man, hl, by rw [← h3], rfl⟩
  unfold stepL
  rw [if_neg (show ¬ (spD sg at' by').kind = 1 from show ¬ (5 : Int) = 1 by omega), if_neg (show ¬ ((spD sg at' by').kind < 2 ∨ 5 < (spD sg at' by').kind) from show ¬ ((5 : Int) < 2 ∨ (5 : Int) < 5) by omega), if_neg (show ¬ ((spD sg at' by').n < 0 ∨ (f.shards.length : Int) ≤ (spD sg at' by').n) from show ¬ ((0 : Int) < 0 ∨ (f.shards.length : Int) ≤ 0) by omega), if_neg (show ¬ (f.shards.getD (spD sg at' by').n.toNat shd0).state ≠ wantL (spD sg at' by').kind from fun h => h h3)]
  show ∃ m, (stepAt f 0 (spD sg at' by')).1.shards.length = 1 ∧ (stepAt f 0 (spD sg at' by')).1.shards.getD 0 shd0 = _ ∧ _
  unfold stepAt
  dsimp only
  rw [if_neg (show ¬ (spD sg at' by').kind = 2 from show ¬ (5 : Int) = 2 by omega), if_neg (show ¬ (spD sg at' by').kind = 3 from show ¬ (5 : Int) = 3 by omega), if_neg (show ¬ (spD sg at' by').kind = 4 from show ¬ (5 : Int) = 4 by omega)]
  by_cases g1 : (spD sg at' by').segment < 0 ∨ ((f.shards.getD 0 shd0).man.segs.length : Int) ≤ (spD sg at' by').segment
  · rw [if_pos g1]; exact same
  rw [if_neg g1]
  by_cases g2 : (spD sg at' by').at' < 0 ∨ (((f.shards.getD 0 shd0).man.segs.getD (spD sg at' by').segment.toNat seg0).packed.length : Int) ≤ (spD sg at' by').at'
  · rw [if_pos g2]; exact same
  rw [if_neg g2]
  refine ⟨{ (f.shards.getD 0 shd0).man with segs := (f.shards.getD 0 shd0).man.segs.set (spD sg at' by').segment.toNat (spoilSeg ((f.shards.getD 0 shd0).man.segs.getD (spD sg at' by').segment.toNat seg0) (spD sg at' by').at' (spD sg at' by').by') }, ?_, ?_, rfl⟩
  · show (f.shards.set 0 _).length = 1
    rw [List.length_set]; exact hl
  · show (f.shards.set 0 _).getD 0 shd0 = _
    rw [getD_set_same (by omega)]
    show Shd.mk _ _ (f.shards.getD 0 shd0).state _ _ = Shd.mk _ _ 3 _ _
    rw [h3]
def spL (es : List (List Int)) (sg at' by' : Int) : List Dd := yearL 0 es 2 ++ [spD sg at' by', doD 4 0]
/-- What comes of it. -/
structure Spoilt (es : List (List Int)) (f : Flt) (e : Int) : Prop where
  len : f.shards.length = 1
  err : e = (verifyL (f.shards.getD 0 shd0).man).2.1
  good : e = 0 → (f.shards.getD 0 shd0).state = 4 ∧ (verifyL (f.shards.getD 0 shd0).man).1.length = es.length
  bad : e ≠ 0 → (f.shards.getD 0 shd0).state = 3 ∧ (f.shards.getD 0 shd0).entries = es
theorem spL_length (es : List (List Int)) (sg at' by' : Int) : (spL es sg at' by').length = es.length + 4 := by
  unfold spL yearL
  simp [subsL]
theorem spoilt_run {es : List (List Int)} (hu : Unlike es) (sg at' by' : Int) : Spoilt es (runL (startL (winsL 1)) (spL es sg at' by')).1 ((runL (startL (winsL 1)) (spL es sg at' by')).2.getD (es.length + 3) ans0).err := by
  have y := run_year (f := startL (winsL 1)) (k := 0) hu (by rfl) rfl rfl (far := 2) (by omega) (by omega)
  obtain ⟨F1, hF1⟩ : ∃ F1, F1 = (runL (startL (winsL 1)) (yearL 0 es 2)).1 := ⟨_, rfl⟩
  have hF1' := hF1
  rw [y] at hF1'
  have hl1 : F1.shards.length = 1 := by rw [hF1']; rfl
  have hs1 : F1.shards.getD 0 shd0 = ⟨0, 10, 3, es, exportL es⟩ := by rw [hF1']; rfl
  obtain ⟨m, k1, k2, k3⟩ := spoil_step (f := F1) hl1 (by rw [hs1]) sg at' by'
  obtain ⟨F2, hF2⟩ : ∃ F2, F2 = (stepL F1 (spD sg at' by')).1 := ⟨_, rfl⟩
  rw [← hF2] at k1 k2
  rw [hs1] at k2 k3
  have hsz : m.size = (es.length : Int) := by rw [k3, hu.export]
  have s3 := retire_do (f := F2) (k := 0) (by omega) (by rw [k2])
  replace s3 : stepL F2 (doD 4 0) = _ := s3
  have hrun : (runL (startL (winsL 1)) (spL es sg at' by')).1 = (stepL F2 (doD 4 0)).1 := by
    unfold spL
    rw [runL_append, ← hF1]
    show (stepL (stepL F1 (spD sg at' by')).1 (doD 4 0)).1 = _
    rw [← hF2]
  have hans : (runL (startL (winsL 1)) (spL es sg at' by')).2.getD (es.length + 3) ans0 = (stepL F2 (doD 4 0)).2 := by
    have hl := runL_length (startL (winsL 1)) (yearL 0 es 2)
    have hyl : (yearL 0 es 2).length = es.length + 2 := by unfold yearL; simp [subsL]
    unfold spL
    rw [runL_append, ← hF1]
    show ((runL (startL (winsL 1)) (yearL 0 es 2)).2 ++ [(stepL F1 (spD sg at' by')).2, (stepL (stepL F1 (spD sg at' by')).1 (doD 4 0)).2]).getD (es.length + 3) ans0 = _
    rw [List.getD_eq_getElem?_getD, List.getElem?_append_right (by omega), hl, hyl, show es.length + 3 - (es.length + 2) = 1 by omega, ← hF2]
    rfl
  rw [hrun, hans, s3, k2]
  dsimp only
  by_cases hv : (verifyL m).2.1 ≠ 0
  · rw [if_pos hv]
    refine ⟨k1, by rw [k2]; rfl, fun h => absurd h hv, fun _ => ⟨by rw [k2], by rw [k2]⟩⟩
  · rw [if_neg hv]
    have hv0 : (verifyL m).2.1 = 0 := by simpa using hv
    have e1 : (F2.put 0 (upd (upd ⟨0, 10, 3, es, exportL es⟩ 3 es m) 4 [] m)).shards.getD 0 shd0 = upd (upd ⟨0, 10, 3, es, exportL es⟩ 3 es m) 4 [] m := getD_set_same (by omega)
    refine ⟨by show (F2.shards.set 0 _).length = 1; rw [List.length_set]; exact k1, by rw [e1]; exact hv0.symm, fun _ => ⟨by rw [e1], ?_⟩, fun h => absurd rfl h⟩
    rw [e1]
    show (verifyL m).1.length = es.length
    obtain ⟨h1, -⟩ := verify_spec hv0
    obtain ⟨h2, -⟩ := upTo_all hv0
    rw [h1]
    show (upTo m m.segs.length).length = es.length
    omega

end Go.Proofs.YtkjlchfmplcobagDoor

/- The walk of the law FleetEarly, over the faces of package fleet. -/
namespace Go.Proofs.YtkjlchfmplcobagDoor
open Go.RowKit

theorem ShdsAt.get {w : World} {a : Option Addr} {n c : Nat} {l : List Shd} (h : ShdsAt w (.slice a n c) l) (hn : l.length = n) {j : Nat} (hj : j < n) : ∃ b o, a = some ⟨b, o, none⟩ ∧ b < w.heap.size ∧ ShdCells w b (o + j * 7) (l.getD j shd0) := by
  obtain ⟨a', c', e, -, -, -, h5⟩ := h
  rw [hn] at e h5
  cases e
  obtain ⟨b, off, h6, h7, h8⟩ := h5.resolve_left (by omega)
  exact ⟨b, off, h6, h7, h8 j hj⟩
end Go.Proofs.YtkjlchfmplcobagDoor
