/- TreeGoShow, FleetGoFind, FleetGoCheck, as one text. -/
import Derived.Test.YtkjlchfmplcobagGreatDoorProg
import Derived.Test.YtkjlchfmplcobagGreatDoorRunAI
import Derived.Test.YtkjlchfmplcobagGreatDoorByteConv
import Derived.WalkKit
import Derived.WalkSpells
import Derived.WalkLawsBesides
import Derived.Laws.BytesArg
import Derived.Shelf.Bytes.SlSmallAll
import Derived.Deep.RegionHeld3
import Derived.BigRegion
import Derived.Test.YtkjlchfmplcobagGreatDoorRunAF
import Derived.Test.YtkjlchfmplcobagGreatDoorRunAE
/- The walks of bytes.Equal, fits and along. -/
namespace Go.Proofs.YtkjlchfmplcobagGreatDoor
open Go.RowKit

set_option maxRecDepth 100000 in
theorem equal_any (xs ys : List Int) (v1 v2 : Value) (w : World) (h1 : BytesAt w v1 xs) (h2 : BytesAt w v2 ys) (hx : Bytes xs) (hy : Bytes ys) :
    Calls Tryz.prog 57 #[v1, v2] w fun e w' => e = .returned (.bool (decide (xs = ys))) ∧ w' = w := by
  have g1 := h1.conv
  have g2 := h2.conv
  have HQ : Hid (((strOfNums xs).toList == (strOfNums ys).toList) = decide (xs = ys)) := by
    show ((strOfNums xs).toList == (strOfNums ys).toList) = decide (xs = ys)
    by_cases h : xs = ys
    · subst h; simp
    · rw [decide_eq_false h]
      exact beq_eq_false_iff_ne.2 (fun e => h (nums_inj hx hy e))
  clear h1 h2 hx hy
  go_enter Tryz.func57, Tryz.ntmps57
  go_wp2
  go_ret
  exact ⟨by rw [← HQ.out]; rfl, rfl⟩

/-- How many parts were visited lies in the variable b. -/
def CountI (b : Nat) (done : List (Nat × Nat)) (w : World) : Prop := w.heap[b]? = some (.cells #[.int .i64 (done.length : Int)] 3 (0, 0))
set_option maxRecDepth 100000 in
theorem fits1_visits {B b : Nat} {ps : List (Nat × Nat)} (hpl : ps.length ≤ 1000) (hb : B ≤ b) : Visits B 80 #[.pointer (some ⟨b, 0, none⟩)] ps (CountI b) := by
  refine ⟨fun _ _ => by simp [go_sem], fun done w w' h hb => box_kept h hb, fun done f e w hp h hB => ?_⟩
  have hd : done.length ≤ 1000 := by have := hp.length_le; simp at this; omega
  have o1 := box_old w (.cells #[.int .i64 f, .int .i64 e] 118) h
  obtain ⟨y0, y1⟩ := box_cell o1
  have hM : Mid B w ((w.alloc (.cells #[.int .i64 f, .int .i64 e] 118)).setCell ⟨b, 0, none⟩ (.int .i64 ((done.length : Int) + 1))) := Mid.trans (MidT.of_below ((Below.refl _ _).alloc (Nat.le_refl _) _) hB) (MidT.set o1 (by decide) hb _)
  have o2 := box_set (v := .int .i64 ((done.length : Int) + 1)) o1
  go_enter Tryz.func80, Tryz.ntmps80
  go_wp2_with fail
  go_end0
  refine ⟨rfl, ?_, hM⟩
  unfold CountI
  rw [List.length_append, List.length_singleton]
  exact o2
set_option maxRecDepth 100000 in
set_option maxHeartbeats 1000000 in
theorem fits_any {w : World} {kw : Nat} {cw : Array Value} {ps : List (Nat × Nat)} {a : Option Addr} {n c : Nat} {p : List (List Int)} (hW : Walker w kw cw ps) (hL : Lists w a n c p) (hpl : ps.length ≤ 1000) :
    Calls Tryz.prog 58 #[.func (.func kw) #[] cw, .slice a n c] w fun r w' => r = .returned (.bool (decide (p.length = ps.length) && goodL p)) ∧ Below w.heap.size w w' := by
  have V := fits1_visits (B := w.heap.size) (b := w.heap.size) hpl (Nat.le_refl _)
  have hb : Below w.heap.size w (w.alloc (.cells #[.int .i64 0] 3)) := (Below.refl _ _).alloc (Nat.le_refl _) _
  have hC := hW.call _ _ _ _ _ V hb hb.size (box_new w _ _)
  have hA : ∀ w1, Below w.heap.size w w1 → _ := fun w1 h => areDigests_any p (.slice a n c) w1 (hL.below h).at' (by have := hL.room; have := hL.cap; rw [hL.len]; omega) hL.short
  have eg := hW.enters
  have hln := hL.len
  have hnn : n ≤ 9223372036854775807 := by have := hL.room; have := hL.cap; unfold maxLen at this; omega
  rw [hln]
  clear V hL hW hln
  by_cases hq : n = ps.length
  · rw [decide_eq_true hq, Bool.true_and]
    subst hq
    go_enter Tryz.func58, Tryz.ntmps58
    go_wp2_with fail
    refine hC.mono ?_
    rintro r w1 ⟨rfl, h1, hM⟩
    have y := (box_cell h1).1
    have b1 : Below w.heap.size w w1 := hb.trans hM.below
    have hA1 := hA _ b1
    clear hC hM h1 hA eg
    go_wp2_with (go_at_call 81; refine hA1.mono ?_; rintro r w2 ⟨rfl, rfl⟩)
    go_ret
    exact ⟨rfl, b1⟩
  · rw [decide_eq_false hq, Bool.false_and]
    have i1 : (ps.length : Int) ≠ (n : Int) := by omega
    go_enter Tryz.func58, Tryz.ntmps58
    go_wp2_with fail
    refine hC.mono ?_
    rintro r w1 ⟨rfl, h1, hM⟩
    have y := (box_cell h1).1
    have b1 : Below w.heap.size w w1 := hb.trans hM.below
    clear hC hM h1 hA eg
    go_wp2_with fail
    go_ret
    exact ⟨rfl, b1⟩

end Go.Proofs.YtkjlchfmplcobagGreatDoor

/- The walks of slices.IndexFunc over shards and over entries, with what submit hands it: package fleet as it landed. -/
namespace Go.Proofs.YtkjlchfmplcobagGreatDoor
open Go.RowKit

def idxOf : Option Nat → Int
  | some k => (k : Int)
  | none => -1
theorem idx_home {ss : List Shd} {t : Int} {k : Nat} (hk : k < ss.length) (h : (ss.getD k shd0).from' ≤ t ∧ t < (ss.getD k shd0).to') (hb : ∀ j, j < k → ¬ ((ss.getD j shd0).from' ≤ t ∧ t < (ss.getD j shd0).to')) : homeOf ss t = some k :=
  find_range hk (by simpa using h) (fun j hj => by simpa using hb j hj)
theorem idx_nohome {ss : List Shd} {t : Int} (h : ∀ j, j < ss.length → ¬ ((ss.getD j shd0).from' ≤ t ∧ t < (ss.getD j shd0).to')) : homeOf ss t = none :=
  List.find?_eq_none.2 (fun j hj => by simpa using h j (List.mem_range.1 hj))
theorem idx_place {es : List (List Int)} {e : List Int} {k : Nat} (hk : k < es.length) (h : es.getD k [] = e) (hb : ∀ j, j < k → ¬ es.getD j [] = e) : placeOf es e = some k :=
  find_range hk (decide_eq_true h) (fun j hj => decide_eq_false (hb j hj))
theorem idx_noplace {es : List (List Int)} {e : List Int} (h : ∀ j, j < es.length → ¬ es.getD j [] = e) : placeOf es e = none :=
  List.find?_eq_none.2 (fun j hj => by rw [decide_eq_true_eq]; exact h j (List.mem_range.1 hj))
set_option maxRecDepth 100000 in
set_option maxHeartbeats 1000000 in
theorem home1_any (a b t : Int) (r : Bool) (hr : r = decide (a ≤ t ∧ t < b)) (v2 v3 v4 v5 v6 : Value) (B : Nat) (w : World) (hB : w.heap[B]? = some (.cells #[.int .i64 t] 3 (0, 0))) :
    Calls Tryz.prog 64 #[.agg #[.int .i64 a, .int .i64 b, v2, v3, v4, v5, v6], .pointer (some ⟨B, 0, none⟩)] w fun e w' => e = .returned (.bool r) ∧ Below w.heap.size w w' := by
  have b0 : Below w.heap.size w (w.alloc (.cells #[.int .i64 a, .int .i64 b, v2, v3, v4, v5, v6] 53)) := (Below.refl _ _).alloc (Nat.le_refl _) _
  obtain ⟨h0, h1⟩ := box_cell (box_kept hB b0)
  by_cases q1 : a ≤ t
  · by_cases q2 : t < b
    · obtain rfl : r = true := hr.trans (decide_eq_true ⟨q1, q2⟩)
      clear hr
      go_enter Tryz.func64, Tryz.ntmps64
      go_wp2_with fail
      go_ret
      exact ⟨rfl, b0⟩
    · obtain rfl : r = false := hr.trans (decide_eq_false (fun h => q2 h.2))
      clear hr
      go_enter Tryz.func64, Tryz.ntmps64
      go_wp2_with fail
      go_ret
      exact ⟨rfl, b0⟩
  · obtain rfl : r = false := hr.trans (decide_eq_false (fun h => q1 h.1))
    clear hr
    go_enter Tryz.func64, Tryz.ntmps64
    go_wp2_with fail
    go_ret
    exact ⟨rfl, b0⟩
set_option maxRecDepth 100000 in
set_option maxHeartbeats 2000000 in
theorem home_any (ss : List Shd) (t : Int) (sa : Option Addr) (n c B : Nat) (w : World) (hS : ShdsAt w (.slice sa n c) ss) (hn : ss.length = n) (hB : w.heap[B]? = some (.cells #[.int .i64 t] 3 (0, 0))) :
    Calls Tryz.prog 63 #[.slice sa n c, .func (.func 64) #[] #[.pointer (some ⟨B, 0, none⟩)]] w fun e w' => e = .returned (.int .i64 (idxOf (homeOf ss t))) ∧ Below w.heap.size w w' := by
  obtain ⟨sa', sc', e, hc1, hc2, -, hS⟩ := hS
  rw [hn] at e hc1 hS
  cases e
  unfold maxLen at hc2
  have H1 : ∀ k : Nat, Hid (k < n → ((ss.getD k shd0).from' ≤ t ∧ t < (ss.getD k shd0).to') → (∀ j, j < k → ¬ ((ss.getD j shd0).from' ≤ t ∧ t < (ss.getD j shd0).to')) → homeOf ss t = some k) := fun k h1 h2 h3 => idx_home (by omega) h2 h3
  have H2 : Hid ((∀ j, j < n → ¬ ((ss.getD j shd0).from' ≤ t ∧ t < (ss.getD j shd0).to')) → homeOf ss t = none) := fun h => idx_nohome (fun j hj => h j (by omega))
  go_enter Tryz.func63, Tryz.ntmps63
  go_wp2_with fail
  go_loopw [8] (fun kv wr => ∃ k : Nat, k ≤ n ∧ kv = .int .i64 k ∧ Hid (∀ j, j < k → ¬ ((ss.getD j shd0).from' ≤ t ∧ t < (ss.getD j shd0).to')) ∧ Below w.heap.size w wr) (fun kv _ => n - (intOf kv).toNat)
  case atStart => exact ⟨0, Nat.zero_le _, rfl, fun _ hj => absurd hj (Nat.not_lt_zero _), Below.refl _ _⟩
  case round =>
    obtain ⟨wo, rfl⟩ : ∃ x, x = wr := ⟨wr, rfl⟩
    obtain ⟨k, hk, rfl, HO, hbr⟩ := hrel
    have hsr := hbr.size
    by_cases hlt : k < n
    · have hlt' : (k : Int) < n := by omega
      obtain ⟨g, o, rfl, hg, hcs⟩ := hS.resolve_left (by omega)
      obtain ⟨d0, d1, d2, ⟨ea, ec, d3, -⟩, d4, ⟨ra, rc, d5, -⟩, ⟨ga, gc, d6, -⟩⟩ := (hcs k hlt).below hg hbr
      have hC := fun r hr v2 v3 v4 v5 v6 => home1_any (ss.getD k shd0).from' (ss.getD k shd0).to' t r hr v2 v3 v4 v5 v6 B wo (box_kept hB hbr)
      have HV := H1 k
      have HF : Hid (¬ ((ss.getD k shd0).from' ≤ t ∧ t < (ss.getD k shd0).to') → ∀ j, j < k + 1 → ¬ ((ss.getD j shd0).from' ≤ t ∧ t < (ss.getD j shd0).to')) := fun h j hj => by
        by_cases e : j = k
        · rw [e]; exact h
        · exact HO.out j (by omega)
      clear hcs hS H1 H2
      by_cases hin : (ss.getD k shd0).from' ≤ t ∧ t < (ss.getD k shd0).to'
      · have HE : Hid (homeOf ss t = some k) := HV.out hlt hin HO.out
        replace hC := hC true (decide_eq_true hin).symm
        clear hin HF HV HO
        generalize ss.getD k shd0 = X at *
        go_wp2_with fail
        refine (hC _ _ _ _ _).mono ?_
        rintro e w5 ⟨rfl, hb5⟩
        go_wp2_with fail
        go_ret
        exact ⟨by rw [HE.out]; rfl, hbr.trans (hb5.mono hsr)⟩
      · replace hC := hC false (decide_eq_false hin).symm
        have HF2 : Hid (∀ j, j < k + 1 → ¬ ((ss.getD j shd0).from' ≤ t ∧ t < (ss.getD j shd0).to')) := HF.out hin
        clear hin HF HV HO
        generalize ss.getD k shd0 = X at *
        go_wp2_with fail
        refine (hC _ _ _ _ _).mono ?_
        rintro e w5 ⟨rfl, hb5⟩
        go_wp2_with fail
        go_roundw
        case rel => exact ⟨k + 1, by omega, by go_num, HF2, hbr.trans (hb5.mono hsr)⟩
        case measure => simp [intOf]; omega
    · obtain rfl : k = n := by omega
      have hnl : ¬ (k : Int) < k := by omega
      have HE : Hid (homeOf ss t = none) := H2.out HO.out
      clear H1 H2 HO hS
      go_wp2_with fail
      go_ret
      exact ⟨by rw [HE.out]; rfl, hbr⟩
set_option maxRecDepth 100000 in
set_option maxHeartbeats 2000000 in
theorem place_any (es : List (List Int)) (d : List Int) (ea da : Option Addr) (n c dc B : Nat) (w : World) (hE : Lists w ea n c es) (hB : w.heap[B]? = some (.cells #[.slice da d.length dc] 36 (0, 0))) (hd : Some' w (.slice da d.length dc) d) :
    Calls Tryz.prog 65 #[.slice ea n c, .func (.func 66) #[] #[.pointer (some ⟨B, 0, none⟩)]] w fun e w' => e = .returned (.int .i64 (idxOf (placeOf es d))) ∧ w' = w := by
  have hn := hE.len
  have hr := hE.room
  have hcap := hE.cap
  unfold maxLen at hcap
  have H1 : ∀ k : Nat, Hid (k < n → es.getD k [] = d → (∀ j, j < k → ¬ es.getD j [] = d) → placeOf es d = some k) := fun k h1 h2 h3 => idx_place (by omega) h2 h3
  have H2 : Hid ((∀ j, j < n → ¬ es.getD j [] = d) → placeOf es d = none) := fun h => idx_noplace (fun j hj => h j (by omega))
  obtain ⟨c0, c1⟩ := box_cell hB
  go_enter Tryz.func65, Tryz.ntmps65
  go_wp2_with fail
  go_loopw [8] (fun kv wr => ∃ k : Nat, k ≤ n ∧ kv = .int .i64 k ∧ Hid (∀ j, j < k → ¬ es.getD j [] = d) ∧ wr = w) (fun kv _ => n - (intOf kv).toNat)
  case atStart => exact ⟨0, Nat.zero_le _, rfl, fun _ hj => absurd hj (Nat.not_lt_zero _), rfl⟩
  case round =>
    obtain ⟨k, hk, rfl, HO, rfl⟩ := hrel
    by_cases hlt : k < n
    · have hlt' : (k : Int) < n := by omega
      obtain ⟨b, o, pa, pc, rfl, hc, hP⟩ := hE.get k hlt
      have hC := equal_any (es.getD k []) d (.slice pa (es.getD k []).length pc) (.slice da d.length dc) wr hP.at' hd.at' (hE.bytes k) hd.bytes
      have HV := H1 k
      have HF : Hid (¬ es.getD k [] = d → ∀ j, j < k + 1 → ¬ es.getD j [] = d) := fun h j hj => by
        by_cases e : j = k
        · rw [e]; exact h
        · exact HO.out j (by omega)
      clear hE H1 H2
      by_cases hin : es.getD k [] = d
      · have HE : Hid (placeOf es d = some k) := HV.out hlt hin HO.out
        rw [decide_eq_true hin] at hC
        clear hin HF HV HO
        generalize es.getD k [] = X at *
        go_wp2_with (first | (go_at_call 57; refine hC.mono ?_; rintro e w5 ⟨rfl, rfl⟩) | go_in)
        go_ret
        exact ⟨by rw [HE.out]; rfl, rfl⟩
      · have HF2 : Hid (∀ j, j < k + 1 → ¬ es.getD j [] = d) := HF.out hin
        rw [decide_eq_false hin] at hC
        clear hin HF HV HO
        generalize es.getD k [] = X at *
        go_wp2_with (first | (go_at_call 57; refine hC.mono ?_; rintro e w5 ⟨rfl, rfl⟩) | go_in)
        go_roundw
        case rel => exact ⟨k + 1, by omega, by go_num, HF2, by trivial⟩
        case measure => simp [intOf]; omega
    · obtain rfl : k = n := by omega
      have hnl : ¬ (k : Int) < k := by omega
      have HE : Hid (placeOf es d = none) := H2.out HO.out
      clear H1 H2 HO hE
      go_wp2_with fail
      go_ret
      exact ⟨by rw [HE.out]; rfl, rfl⟩

end Go.Proofs.YtkjlchfmplcobagGreatDoor

/- The walks of isHead and Check: package fleet as it landed. -/
namespace Go.Proofs.YtkjlchfmplcobagGreatDoor
open Go.RowKit

set_option maxRecDepth 100000 in
set_option maxHeartbeats 1000000 in
theorem isHead_any (n1 n2 : Int) (r1 r2 : List Int) (v1 v2 : Value) (r : Bool) (hr : r = decide (n1 = n2 ∧ r1 = r2)) (w : World) (h1 : Some' w v1 r1) (h2 : Some' w v2 r2) :
    Calls Tryz.prog 39 #[.agg #[.int .i64 n1, v1], .agg #[.int .i64 n2, v2]] w fun e w' => e = .returned (.bool r) ∧ Below w.heap.size w w' := by
  have b0 : Below w.heap.size w ((w.alloc (.cells #[.int .i64 n1, v1] 38)).alloc (.cells #[.int .i64 n2, v2] 38)) := ((Below.refl _ _).alloc (Nat.le_refl _) _).alloc (by simp) _
  obtain ⟨x0, x1, -, -⟩ := box_two (box_one w #[.int .i64 n1, v1] 38 (.cells #[.int .i64 n2, v2] 38))
  obtain ⟨y0, y1, -, -⟩ := box_two (box_last w (.cells #[.int .i64 n1, v1] 38) #[.int .i64 n2, v2] 38)
  have hE := equal_any r1 r2 v1 v2 _ (h1.below b0).at' (h2.below b0).at' h1.bytes h2.bytes
  by_cases q1 : n1 = n2
  · have hr2 : r = decide (r1 = r2) := by rw [hr]; simp [q1]
    rw [← hr2] at hE
    subst q1
    clear hr hr2
    go_enter Tryz.func39, Tryz.ntmps39
    go_wp2_with fail
    generalize (w.alloc (.cells #[.int .i64 n1, v1] 38)).alloc (.cells #[.int .i64 n1, v2] 38) = w0 at *
    refine hE.mono ?_
    rintro e w1 ⟨rfl, rfl⟩
    go_wp2_with fail
    go_ret
    exact ⟨rfl, b0⟩
  · obtain rfl : r = false := by rw [hr, decide_eq_false (fun h => q1 h.1)]
    have q1' : (n1 == n2) = false := by simpa using q1
    clear hr q1
    go_enter Tryz.func39, Tryz.ntmps39
    go_wp2_with fail
    go_ret
    exact ⟨rfl, b0⟩

set_option maxRecDepth 100000 in
set_option maxHeartbeats 2000000 in
theorem checkC_of (hBy : RecBytesC) (hSt : StandsC) : CheckC := by
  intro s hs hr sv hv w hR hS hh
  obtain ⟨ea, ec, pa, pc, ra, rc, ba, bc, ha, hc, rfl, h1, h2, h3, h4, h5⟩ := hS.form
  obtain ⟨va, vc, rfl⟩ := hh.at'.form
  have b0 : Below w.heap.size w ((w.alloc (.cells #[.slice ea s.entry.length ec, .int .i64 s.place, .int .i64 s.shard, .slice pa s.path.length pc, .int .i64 s.rcd.shard, .int .i64 s.rcd.from', .int .i64 s.rcd.to', .int .i64 s.rcd.size, .slice ra s.rcd.root.length rc, .int .i64 s.row, .slice ba s.bookPath.length bc, .int .i64 s.hsize, .slice ha s.hroot.length hc] 46)).alloc (.cells #[.int .i64 hs, .slice va hr.length vc] 38)) := ((Below.refl _ _).alloc (Nat.le_refl _) _).alloc (by simp) _
  have x0 := box_one w #[.slice ea s.entry.length ec, .int .i64 s.place, .int .i64 s.shard, .slice pa s.path.length pc, .int .i64 s.rcd.shard, .int .i64 s.rcd.from', .int .i64 s.rcd.to', .int .i64 s.rcd.size, .slice ra s.rcd.root.length rc, .int .i64 s.row, .slice ba s.bookPath.length bc, .int .i64 s.hsize, .slice ha s.hroot.length hc] 46 (.cells #[.int .i64 hs, .slice va hr.length vc] 38)
  have y0 := box_last w (.cells #[.slice ea s.entry.length ec, .int .i64 s.place, .int .i64 s.shard, .slice pa s.path.length pc, .int .i64 s.rcd.shard, .int .i64 s.rcd.from', .int .i64 s.rcd.to', .int .i64 s.rcd.size, .slice ra s.rcd.root.length rc, .int .i64 s.row, .slice ba s.bookPath.length bc, .int .i64 s.hsize, .slice ha s.hroot.length hc] 46) #[.int .i64 hs, .slice va hr.length vc] 38
  have hRec := hBy s.rcd _ _ ⟨ra, rc, rfl, h3.below b0⟩
  have HC : Hid (checkL s hs hr = (decide (wrongRec s.rcd = 0) && (decide (s.rcd.shard = s.shard) && (decide (s.hsize = hs ∧ s.hroot = hr) && (standsL s.rcd.size s.rcd.root s.entry s.place s.path && standsL hs hr (rowL s.rcd) s.row s.bookPath))))) := rfl
  have hI := fun w' (h : Below w.heap.size w w') => isHead_any s.hsize hs s.hroot hr _ _ _ rfl w' (h5.below h) (hh.below h)
  have hS1 := fun w' (h : Below w.heap.size w w') => hSt s.rcd.size s.rcd.root s.entry s.place s.path _ _ _ _ _ w' (hR.below h) (h3.below h) (h1.below h) (h2.below h)
  have hS2 := fun w' (xv : Value) (h : Below w.heap.size w w') (hx : Some' w' xv (rowL s.rcd)) => hSt hs hr (rowL s.rcd) s.row s.bookPath _ xv _ _ _ w' (hR.below h) (hh.below h) hx (h4.below h)
  have hrb := row_bytes (r := s.rcd)
  have hrl := row_length (r := s.rcd)
  have h3b := h3.bytes
  generalize checkL s hs hr = CL at *
  unfold bytesE at hRec
  obtain ⟨k0, k1, k2, k3, k4, k5, k6, k7, k8, k9, k10, k11, k12⟩ := box_13 x0
  by_cases q0 : wrongRec s.rcd = 0
  · rw [q0, if_neg (fun h => h rfl)] at hRec
    replace hrb := hrb q0 h3b
    replace hrl := hrl q0
    replace HC : Hid (CL = (decide (s.rcd.shard = s.shard) && (decide (s.hsize = hs ∧ s.hroot = hr) && (standsL s.rcd.size s.rcd.root s.entry s.place s.path && standsL hs hr (rowL s.rcd) s.row s.bookPath)))) := by show _ = _; rw [HC.out, decide_eq_true q0]; rfl
    generalize rowL s.rcd = ROW at *
    generalize standsL s.rcd.size s.rcd.root s.entry s.place s.path = B1 at *
    generalize standsL hs hr ROW s.row s.bookPath = B2 at *
    generalize decide (s.hsize = hs ∧ s.hroot = hr) = B0 at *
    clear q0 hS h1 h2 h3 h4 h5 h3b
    by_cases q1 : s.rcd.shard = s.shard
    · replace HC : Hid (CL = (B0 && (B1 && B2))) := by show _ = _; rw [HC.out, decide_eq_true q1]; rfl
      rw [q1] at b0 x0 y0 hRec k4
      rw [q1]
      go_enter Tryz.func18, Tryz.ntmps18
      go_wp2_with fail
      generalize (w.alloc (.cells #[.slice ea s.entry.length ec, .int .i64 s.place, .int .i64 s.shard, .slice pa s.path.length pc, .int .i64 s.shard, .int .i64 s.rcd.from', .int .i64 s.rcd.to', .int .i64 s.rcd.size, .slice ra s.rcd.root.length rc, .int .i64 s.row, .slice ba s.bookPath.length bc, .int .i64 s.hsize, .slice ha s.hroot.length hc] 46)).alloc (.cells #[.int .i64 hs, .slice va hr.length vc] 38) = w0 at *
      refine hRec.mono ?_
      rintro e w1 ⟨xa, xn, xc, rfl, ho1, hb1⟩
      have b1 := b0.trans (hb1.mono b0.size)
      have x1 := box_kept x0 hb1
      have y1 := box_kept y0 hb1
      obtain ⟨j0, j1, j2, j3, j4, j5, j6, j7, j8, j9, j10, j11, j12⟩ := box_13 x1
      obtain ⟨m0, m1, -, -⟩ := box_two y1
      have hX1 : Some' w1 (.slice xa xn xc) ROW := ⟨bytesAt_own ho1, hrb, by rw [hrl]; unfold maxLen; omega⟩
      replace hI := hI w1 b1
      clear hRec k0 k1 k2 k3 k4 k5 k6 k7 k8 k9 k10 k11 k12 x0 y0 ho1
      go_wp2_with fail
      refine hI.mono ?_
      rintro e w2 ⟨rfl, hb2⟩
      have b2 := b1.trans (hb2.mono b1.size)
      clear hI
      cases B0 with
      | false =>
        have HC2 : Hid (CL = false) := by show _ = _; rw [HC.out]; rfl
        clear HC
        go_wp2_with fail
        go_ret
        exact ⟨by rw [HC2.out]; rfl, b2⟩
      | true =>
        have HC2 : Hid (CL = (B1 && B2)) := by show _ = _; rw [HC.out]; rfl
        have x2 := box_kept x1 hb2
        have y2 := box_kept y1 hb2
        replace hS1 := hS1 w2 b2
        have hX2 := hX1.below hb2
        clear HC j0 j1 j2 j3 j4 j5 j6 j7 j8 j9 j10 j11 j12 m0 m1 x1 y1 hX1
        obtain ⟨j0, j1, j2, j3, j4, j5, j6, j7, j8, j9, j10, j11, j12⟩ := box_13 x2
        obtain ⟨m0, m1, -, -⟩ := box_two y2
        go_wp2_with fail
        refine hS1.mono ?_
        rintro e w3 ⟨rfl, hb3⟩
        have b3 := b2.trans (hb3.mono b2.size)
        clear hS1
        cases B1 with
        | false =>
          have HC3 : Hid (CL = false) := by show _ = _; rw [HC2.out]; rfl
          clear HC2
          go_wp2_with fail
          go_ret
          exact ⟨by rw [HC3.out]; rfl, b3⟩
        | true =>
          have HC3 : Hid (CL = B2) := by show _ = _; rw [HC2.out]; rfl
          have x3 := box_kept x2 hb3
          have y3 := box_kept y2 hb3
          replace hS2 := hS2 w3 _ b3 (hX2.below hb3)
          clear HC2 j0 j1 j2 j3 j4 j5 j6 j7 j8 j9 j10 j11 j12 m0 m1 x2 y2 hX2
          obtain ⟨j0, j1, j2, j3, j4, j5, j6, j7, j8, j9, j10, j11, j12⟩ := box_13 x3
          obtain ⟨m0, m1, -, -⟩ := box_two y3
          go_wp2_with fail
          refine hS2.mono ?_
          rintro e w4 ⟨rfl, hb4⟩
          have b4 := b3.trans (hb4.mono b3.size)
          go_wp2_with fail
          go_ret
          exact ⟨by rw [HC3.out]; rfl, b4⟩
    · have HC2 : Hid (CL = false) := by show _ = _; rw [HC.out, decide_eq_false q1]; rfl
      have q1' : (s.rcd.shard == s.shard) = false := by simpa using q1
      clear HC q1
      go_enter Tryz.func18, Tryz.ntmps18
      go_wp2_with fail
      generalize (w.alloc (.cells #[.slice ea s.entry.length ec, .int .i64 s.place, .int .i64 s.shard, .slice pa s.path.length pc, .int .i64 s.rcd.shard, .int .i64 s.rcd.from', .int .i64 s.rcd.to', .int .i64 s.rcd.size, .slice ra s.rcd.root.length rc, .int .i64 s.row, .slice ba s.bookPath.length bc, .int .i64 s.hsize, .slice ha s.hroot.length hc] 46)).alloc (.cells #[.int .i64 hs, .slice va hr.length vc] 38) = w0 at *
      refine hRec.mono ?_
      rintro e w1 ⟨xa, xn, xc, rfl, ho1, hb1⟩
      have b1 := b0.trans (hb1.mono b0.size)
      obtain ⟨j0, j1, j2, j3, j4, j5, j6, j7, j8, j9, j10, j11, j12⟩ := box_13 (box_kept x0 hb1)
      clear hRec k0 k1 k2 k3 k4 k5 k6 k7 k8 k9 k10 k11 k12 x0 y0
      go_wp2_with fail
      go_ret
      exact ⟨by rw [HC2.out]; rfl, b1⟩
  · have HC2 : Hid (CL = false) := by show _ = _; rw [HC.out, decide_eq_false q0]; rfl
    have q0' : (wrongRec s.rcd != 0) = true := by simpa using q0
    clear HC q0 hrb hrl
    generalize wrongRec s.rcd = WR at *
    go_enter Tryz.func18, Tryz.ntmps18
    go_wp2_with fail
    generalize (w.alloc (.cells #[.slice ea s.entry.length ec, .int .i64 s.place, .int .i64 s.shard, .slice pa s.path.length pc, .int .i64 s.rcd.shard, .int .i64 s.rcd.from', .int .i64 s.rcd.to', .int .i64 s.rcd.size, .slice ra s.rcd.root.length rc, .int .i64 s.row, .slice ba s.bookPath.length bc, .int .i64 s.hsize, .slice ha s.hroot.length hc] 46)).alloc (.cells #[.int .i64 hs, .slice va hr.length vc] 38) = w0 at *
    refine hRec.mono ?_
    rintro e w1 ⟨xa, xn, xc, rfl, ho1, hb1⟩
    have b1 := b0.trans (hb1.mono b0.size)
    clear hRec k0 k1 k2 k3 k4 k5 k6 k7 k8 k9 k10 k11 k12 x0 y0
    go_wp2_with fail
    go_ret
    exact ⟨by rw [HC2.out]; rfl, b1⟩

end Go.Proofs.YtkjlchfmplcobagGreatDoor
