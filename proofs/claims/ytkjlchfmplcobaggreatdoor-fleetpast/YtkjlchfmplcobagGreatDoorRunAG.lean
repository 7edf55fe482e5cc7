/- FleetShowM, ShaSame, ClashFace, FleetKeepM, as one text. -/
import Derived.Test.YtkjlchfmplcobagGreatDoorRunAF
import Derived.Test.YtkjlchfmplcobagGreatDoorProg
import Derived.Test.YtkjlchfmplcobagGreatDoorRunAB
import Derived.WalkKit
import Derived.WalkSpells
import Derived.WalkLawsBesides
import Derived.Deep.QuietTactic
import Derived.BigQuiet
import Derived.Test.YtkjlchfmplcobagGreatDoorShaSum
import Derived.Test.YtkjlchfmplcobagGreatDoorRunAD
/- Chapter 7's mathematics: what is shown. -/
namespace Go.Proofs.YtkjlchfmplcobagGreatDoor

structure Shw where
  entry : List Int
  place : Int
  shard : Int
  path : List (List Int)
  rcd : Rec
  row : Int
  bookPath : List (List Int)
  hsize : Int
  hroot : List Int
def shw0 : Shw := ⟨[], 0, 0, [], rec0, 0, [], 0, []⟩
/-- A shard's row in the book. -/
def rowOf (b : List Rec) (k : Int) : Option Nat := (List.range b.length).find? (fun j => decide ((b.getD j rec0).shard = k))
/-- A shard's entries, or those that are laid away, or what is wrong with these. -/
def contentL (s : Shd) : List (List Int) × Int := if s.state = 4 then ((verifyL s.man).1, (verifyL s.man).2.1) else (s.entries, 0)
def showL (f : Flt) (k i : Int) : Shw × Int :=
  if k < 0 ∨ (f.shards.length : Int) ≤ k then (shw0, 6) else
  match rowOf f.book k with
  | none => (shw0, 8)
  | some row =>
    if (contentL (f.shards.getD k.toNat shd0)).2 ≠ 0 then (shw0, (contentL (f.shards.getD k.toNat shd0)).2) else
    if (pathF (contentL (f.shards.getD k.toNat shd0)).1 i).1 ≠ 0 then (shw0, (pathF (contentL (f.shards.getD k.toNat shd0)).1 i).1) else
    if (wrongRecs f.book).1 ≠ 0 then (shw0, (wrongRecs f.book).1) else
    (⟨(contentL (f.shards.getD k.toNat shd0)).1.getD i.toNat [], i, k, pathL (contentL (f.shards.getD k.toNat shd0)).1 i.toNat, f.book.getD row rec0, (row : Int), pathL (rowsOf f.book) row, (f.book.length : Int), mth (rowsOf f.book)⟩, 0)
def checkL (s : Shw) (hs : Int) (hr : List Int) : Bool :=
  decide (wrongRec s.rcd = 0) && (decide (s.rcd.shard = s.shard) && (decide (s.hsize = hs ∧ s.hroot = hr) && (standsL s.rcd.size s.rcd.root s.entry s.place s.path && standsL hs hr (rowL s.rcd) s.row s.bookPath)))
theorem content_ok {w : Win} {s : Shd} (h : ShdOk w s) : (contentL s).2 = 0 ∧ wrongL (contentL s).1 = (0, 0) ∧ ((contentL s).1.length : Int) = (headOf s).1 ∧ mth (contentL s).1 = (headOf s).2 ∧ (contentL s).1.length ≤ 100 ∧ ∀ j, ((contentL s).1.getD j []).length ≤ 200 := by
  unfold contentL headOf
  by_cases h4 : s.state = 4
  · rw [if_pos h4, if_pos h4]
    have hv := h.ver4 h4
    obtain ⟨e, -, -, hr⟩ := verify_spec hv
    have hf := verify_few (m := s.man)
    have hu := upTo_all hv
    have hg : ∀ j, ((verifyL s.man).1.getD j []).length ≤ 200 := fun j => by
      by_cases hj : j < (verifyL s.man).1.length
      · rw [List.getD_eq_getElem?_getD, List.getElem?_eq_getElem hj]; exact hf.2 _ (List.getElem_mem hj)
      · rw [List.getD_eq_getElem?_getD, List.getElem?_eq_none (by omega)]; simp
    exact ⟨hv, wrong_zero hf.1 hg, by rw [e]; exact hu.1, by rw [e]; exact hr, hf.1, hg⟩
  · rw [if_neg h4, if_neg h4]
    have hg : ∀ j, (s.entries.getD j []).length ≤ 200 := fun j => by
      by_cases hj : j < s.entries.length
      · rw [List.getD_eq_getElem?_getD, List.getElem?_eq_getElem hj]; exact h.short _ (List.getElem_mem hj)
      · rw [List.getD_eq_getElem?_getD, List.getElem?_eq_none (by omega)]; simp
    exact ⟨rfl, wrong_entries h, rfl, rfl, h.few, hg⟩
/-- A shard that is not open has its row. -/
theorem row_some {ws : List Win} {f : Flt} (h : FltOk ws f) {k : Nat} (hk : k < ws.length) (h1 : (f.shards.getD k shd0).state ≠ 1) : ∃ j, rowOf f.book (k : Int) = some j ∧ j < f.book.length ∧ f.book.getD j rec0 = recOf k (f.shards.getD k shd0) := by
  obtain ⟨j, hj, e⟩ := h.all k hk h1
  refine ⟨j, find_range hj (decide_eq_true e) (fun i hi => decide_eq_false (fun g => ?_)), hj, ?_⟩
  · have := h.once i j (by omega) hj (g.trans e.symm); omega
  · obtain ⟨q, hq1, -, hq3⟩ := h.inb j hj
    rw [hq3] at e
    have : q = k := by have e' : (q : Int) = (k : Int) := e; omega
    subst this
    exact hq3
theorem show_right {ws : List Win} {f : Flt} (hw : (wrongWins ws).1 = 0) (h : FltOk ws f) {k i : Nat} (hk : k < ws.length) (h1 : (f.shards.getD k shd0).state ≠ 1) (hi : (i : Int) < (headOf (f.shards.getD k shd0)).1) :
    ∃ row, row < f.book.length ∧ f.book.getD row rec0 = recOf k (f.shards.getD k shd0) ∧ showL f k i = (⟨(contentL (f.shards.getD k shd0)).1.getD i [], (i : Int), (k : Int), pathL (contentL (f.shards.getD k shd0)).1 i, recOf k (f.shards.getD k shd0), (row : Int), pathL (rowsOf f.book) row, (f.book.length : Int), mth (rowsOf f.book)⟩, 0) ∧
      checkL ⟨(contentL (f.shards.getD k shd0)).1.getD i [], (i : Int), (k : Int), pathL (contentL (f.shards.getD k shd0)).1 i, recOf k (f.shards.getD k shd0), (row : Int), pathL (rowsOf f.book) row, (f.book.length : Int), mth (rowsOf f.book)⟩ (f.book.length : Int) (mth (rowsOf f.book)) = true := by
  obtain ⟨row, hr1, hr2, hr3⟩ := row_some h hk h1
  obtain ⟨c1, c2, c3, c4, c5, c6⟩ := content_ok (h.each k hk)
  have hb := book_right hw h
  have hb0 : (wrongRecs f.book).1 = 0 := by rw [hb]
  have hf := book_few h
  have h8 := (wrongWins_ok hw).1
  refine ⟨row, hr2, hr3, ?_, ?_⟩
  · unfold showL
    rw [if_neg (by rw [h.len]; omega), hr1]
    dsimp only
    rw [Int.toNat_natCast, if_neg (fun g => g c1)]
    have hp : pathF (contentL (f.shards.getD k shd0)).1 (i : Int) = (0, 0) := by unfold pathF; rw [c2, if_neg (fun g => g rfl), if_neg (by rw [c3]; omega)]
    rw [hp, if_neg (fun g => g rfl), if_neg (fun g => g hb0), Int.toNat_natCast, hr3]
  · unfold checkL
    dsimp only
    have hwr := (wrongRecs_ok hb0).2 row hr2
    rw [hr3] at hwr
    have hrl := rows_length f.book
    have hs1 := stands_path (L := (contentL (f.shards.getD k shd0)).1) (i := i) c5 (by omega) (c6 i)
    rw [c3, c4] at hs1
    have hs2 := stands_path (L := rowsOf f.book) (i := row) (by omega) (by omega) (rows_short hb0 row)
    rw [rows_get hr2, hr3, hrl] at hs2
    rw [decide_eq_true hwr, decide_eq_true (show (recOf k (f.shards.getD k shd0)).shard = (k : Int) from rfl), decide_eq_true ⟨rfl, rfl⟩, hs2]
    show (true && (true && (true && (standsL (headOf (f.shards.getD k shd0)).1 (headOf (f.shards.getD k shd0)).2 _ _ _ && true)))) = true
    rw [hs1]
    rfl
/-- A shard that is retired stays as it is. -/
theorem retired_step {f : Flt} (d : Dd) {k : Nat} (h4 : (f.shards.getD k shd0).state = 4) : (stepL f d).1.shards.getD k shd0 = f.shards.getD k shd0 := by
  have key : ∀ (q : Nat) (s : Shd), (f.shards.getD q shd0).state ≠ 4 → (f.shards.set q s).getD k shd0 = f.shards.getD k shd0 := fun q s hq => by
    by_cases e : q = k
    · subst e; exact absurd h4 hq
    · exact getD_set_other e
  by_cases he : (stepL f d).2.err ≠ 0
  · rw [step_refused he]
  revert he
  unfold stepL
  by_cases h1 : d.kind = 1
  · rw [if_pos h1]
    unfold submitL
    by_cases h200 : 200 < d.entry.length
    · rw [if_pos h200]; exact fun _ => rfl
    rw [if_neg h200]
    cases hh : homeOf f.shards d.time with
    | none => exact fun _ => rfl
    | some q =>
      dsimp only
      by_cases h1 : (f.shards.getD q shd0).state ≠ 1
      · rw [if_pos h1]; exact fun _ => rfl
      rw [if_neg h1]
      cases hp : placeOf (f.shards.getD q shd0).entries d.entry with
      | some i => exact fun _ => rfl
      | none =>
        dsimp only
        by_cases h100 : 100 ≤ (f.shards.getD q shd0).entries.length
        · rw [if_pos h100]; exact fun _ => rfl
        rw [if_neg h100]
        exact fun _ => key q _ (by omega)
  rw [if_neg h1]
  by_cases h2 : d.kind < 2 ∨ 5 < d.kind
  · rw [if_pos h2]; exact fun _ => rfl
  rw [if_neg h2]
  by_cases h3 : d.n < 0 ∨ (f.shards.length : Int) ≤ d.n
  · rw [if_pos h3]; exact fun _ => rfl
  rw [if_neg h3]
  by_cases h4' : (f.shards.getD d.n.toNat shd0).state ≠ wantL d.kind
  · rw [if_pos h4']; exact fun _ => rfl
  rw [if_neg h4']
  have hne : (f.shards.getD d.n.toNat shd0).state ≠ 4 := by
    have : wantL d.kind ≤ 3 := by unfold wantL; split; omega; split <;> omega
    omega
  unfold stepAt
  dsimp only
  by_cases k2 : d.kind = 2
  · rw [if_pos k2]; exact fun _ => key _ _ hne
  rw [if_neg k2]
  by_cases k3 : d.kind = 3
  · rw [if_pos k3]
    by_cases hw : (wrongL (f.shards.getD d.n.toNat shd0).entries).1 ≠ 0
    · rw [if_pos hw]; exact fun _ => rfl
    · rw [if_neg hw]; exact fun _ => key _ _ hne
  rw [if_neg k3]
  by_cases k4 : d.kind = 4
  · rw [if_pos k4]
    by_cases hv : (verifyL (f.shards.getD d.n.toNat shd0).man).2.1 ≠ 0
    · rw [if_pos hv]; exact fun _ => rfl
    · rw [if_neg hv]; exact fun _ => key _ _ hne
  rw [if_neg k4]
  by_cases h5 : d.segment < 0 ∨ ((f.shards.getD d.n.toNat shd0).man.segs.length : Int) ≤ d.segment
  · rw [if_pos h5]; exact fun _ => rfl
  rw [if_neg h5]
  by_cases h6 : d.at' < 0 ∨ (((f.shards.getD d.n.toNat shd0).man.segs.getD d.segment.toNat seg0).packed.length : Int) ≤ d.at'
  · rw [if_pos h6]; exact fun _ => rfl
  rw [if_neg h6]
  exact fun _ => key _ _ hne
theorem retired_run {f : Flt} (l : List Dd) {k : Nat} (h4 : (f.shards.getD k shd0).state = 4) : (runL f l).1.shards.getD k shd0 = f.shards.getD k shd0 := by
  induction l generalizing f with
  | nil => rfl
  | cons d ds ih =>
    have e := retired_step d h4
    show (runL (stepL f d).1 ds).1.shards.getD k shd0 = _
    rw [ih (by rw [e]; exact h4), e]

end Go.Proofs.YtkjlchfmplcobagGreatDoor

/- The walk of yearref1.Same: whether two slices hold the same bytes. -/
namespace Go.Proofs.YtkjlchfmplcobagGreatDoor
open Go.RowKit

theorem drewN_two (w : World) (m n : Nat) : (w.drewN m).drewN n = w.drewN (m + n) := by simp [World.drewN, Nat.add_assoc]

set_option maxRecDepth 100000 in
set_option maxHeartbeats 400000 in
theorem same_len (a1 a2 : Option Addr) (n1 n2 c1 c2 : Nat) (w : World) (h : n1 ≠ n2) :
    Calls Tryz.prog 17 #[.slice a1 n1 c1, .slice a2 n2 c2] w fun e w' => e = .returned (.bool false) ∧ w' = w := by
  have h' : ((n1 : Int) != (n2 : Int)) = true := by rw [bne_iff_ne]; omega
  go_enter Tryz.func17, Tryz.ntmps17
  go_wp2
  go_ret
  exact ⟨rfl, rfl⟩

set_option maxRecDepth 100000 in
set_option maxHeartbeats 400000 in
theorem same_zero (a1 a2 : Option Addr) (c1 c2 : Nat) (w : World) :
    Calls Tryz.prog 17 #[.slice a1 0 c1, .slice a2 0 c2] w fun e w' => e = .returned (.bool true) ∧ w' = w := by
  go_enter Tryz.func17, Tryz.ntmps17
  go_wp2
  go_loop [13] (fun i => i = .int .i64 0) (fun _ => 0)
  case atStart => rfl
  case round =>
    subst hrel
    go_wp2
    go_ret
    exact ⟨rfl, rfl⟩

set_option maxRecDepth 100000 in
set_option maxHeartbeats 400000 in
theorem same_eq (l1 l2 : List Int) (n b1 o1 c1 b2 o2 c2 : Nat) (w : World) (hl1 : Hid (l1.length = n)) (hl2 : Hid (l2.length = n)) (hm : n ≤ maxLen) (h1 : ∀ j, j < n → w.cell? ⟨b1, o1 + j, none⟩ = some (.int .u8 (l1.getD j 0))) (h2 : ∀ j, j < n → w.cell? ⟨b2, o2 + j, none⟩ = some (.int .u8 (l2.getD j 0))) :
    Calls Tryz.prog 17 #[.slice (some ⟨b1, o1, none⟩) n c1, .slice (some ⟨b2, o2, none⟩) n c2] w fun e w' => e = .returned (.bool (decide (l1 = l2))) ∧ ∃ n, w' = w.drewN n := by
  unfold maxLen at hm
  have h' : ((n : Int) != (n : Int)) = false := by simp
  go_enter Tryz.func17, Tryz.ntmps17
  go_wp2
  go_loopw [13] (fun i wr => ∃ k : Nat, k ≤ n ∧ i = .int .i64 k ∧ Hid (∀ j, j < k → l1.getD j 0 = l2.getD j 0) ∧ ∃ n, wr = w.drewN n) (fun i _ => n - (intOf i).toNat)
  case atStart => exact ⟨0, Nat.zero_le _, rfl, fun j hj => absurd hj (by omega), 0, rfl⟩
  case round =>
    obtain ⟨k, hk, rfl, HE, m, rfl⟩ := hrel
    by_cases hlt : k < n
    · have d1 := h1 k hlt
      have d2 := h2 k hlt
      clear h1 h2
      by_cases hx : l1.getD k 0 = l2.getD k 0
      · have HE2 : Hid (∀ j, j < k + 1 → l1.getD j 0 = l2.getD j 0) := fun j hj => by
          by_cases hjk : j = k
          · rw [hjk]; exact hx
          · exact HE.out j (by omega)
        rw [hx] at d1
        clear hx HE
        generalize l2.getD k 0 = x at *
        have hb : (x != x) = false := by simp
        go_wp2
        go_quiet (fail)
        go_wp2
        go_roundw
        case rel => exact ⟨k + 1, by omega, by go_num, HE2, m + nq, rfl⟩
        case measure => simp [intOf]; omega
      · have HN : Hid (decide (l1 = l2) = false) := decide_eq_false (fun e => hx (by rw [e]))
        have hb : (l1.getD k 0 != l2.getD k 0) = true := by rw [bne_iff_ne]; exact hx
        clear hx HE
        generalize l1.getD k 0 = x at *
        generalize l2.getD k 0 = y at *
        go_wp2
        go_quiet (fail)
        go_wp2
        go_ret
        exact ⟨by rw [HN.out]; rfl, m + nq, drewN_two _ _ _⟩
    · have HN : Hid (decide (l1 = l2) = true) := decide_eq_true (by
        have e1 := hl1.out
        have e2 := hl2.out
        apply List.ext_getElem (by omega)
        intro j g1 g2
        have := HE.out j (by omega)
        rw [List.getD_eq_getElem?_getD, List.getElem?_eq_getElem g1, List.getD_eq_getElem?_getD, List.getElem?_eq_getElem g2] at this
        exact this)
      clear h1 h2 HE
      go_wp2
      go_ret
      exact ⟨by rw [HN.out]; rfl, _, rfl⟩

theorem same_any (l1 l2 : List Int) (v1 v2 : Value) (w : World) (h1 : BytesAt w v1 l1) (h2 : BytesAt w v2 l2) (hm : l1.length ≤ maxLen) :
    Calls Tryz.prog 17 #[v1, v2] w fun e w' => e = .returned (.bool (decide (l1 = l2))) ∧ ∃ n, w' = w.drewN n := by
  have form : ∀ v l, BytesAt w v l → ∃ a c, v = .slice a l.length c ∧ (l.length = 0 ∨ ∃ b o, a = some ⟨b, o, none⟩ ∧ ∀ j, j < l.length → w.cell? ⟨b, o + j, none⟩ = some (.int .u8 (l.getD j 0))) := fun v l h => by
    rcases h with ⟨rfl, a, c, rfl, -⟩ | ⟨b, o, c, rfl, -, hc⟩
    · exact ⟨a, c, rfl, .inl rfl⟩
    · exact ⟨_, _, rfl, .inr ⟨b, o, rfl, hc⟩⟩
  obtain ⟨a1, c1, rfl, k1⟩ := form v1 l1 h1
  obtain ⟨a2, c2, rfl, k2⟩ := form v2 l2 h2
  by_cases hl : l1.length = l2.length
  · rcases k1 with k1 | ⟨b1, o1, rfl, k1⟩
    · have e1 : l1 = [] := List.eq_nil_of_length_eq_zero k1
      have e2 : l2 = [] := List.eq_nil_of_length_eq_zero (by omega)
      subst e1 e2
      refine (same_zero a1 a2 c1 c2 w).mono ?_
      rintro e w' ⟨rfl, rfl⟩
      exact ⟨rfl, 0, rfl⟩
    · rcases k2 with k2 | ⟨b2, o2, rfl, k2⟩
      · have e2 : l2 = [] := List.eq_nil_of_length_eq_zero k2
        have e1 : l1 = [] := List.eq_nil_of_length_eq_zero (by omega)
        subst e1 e2
        refine (same_zero _ a2 c1 c2 w).mono ?_
        rintro e w' ⟨rfl, rfl⟩
        exact ⟨rfl, 0, rfl⟩
      · rw [← hl]
        exact same_eq l1 l2 l1.length b1 o1 c1 b2 o2 c2 w rfl hl.symm hm k1 (fun j hj => k2 j (by omega))
  · refine (same_len a1 a2 l1.length l2.length c1 c2 w hl).mono ?_
    rintro e w' ⟨rfl, rfl⟩
    refine ⟨?_, 0, rfl⟩
    rw [decide_eq_false (fun e => hl (by rw [e]))]

end Go.Proofs.YtkjlchfmplcobagGreatDoor

/- What the laws of chapter 3 ask of package clash's faces, as propositions: each is shown of the landed code elsewhere; and the walk of yearlaw3.two. -/
namespace Go.Proofs.YtkjlchfmplcobagGreatDoor
open Go.RowKit

/-- Another leaf than that which is there is shown. -/
def clashS (L : List (List Int)) (b : List Int) (i : Int) (p : List (List Int)) : Bool := decide ((wrongL L).1 = 0) && standsL L.length (mth L) b i p && decide (L.getD i.toNat [] ≠ b)
end Go.Proofs.YtkjlchfmplcobagGreatDoor

/- Chapter 7's mathematics: nothing is lost by retiring; the book only grows; entries stay. -/
namespace Go.Proofs.YtkjlchfmplcobagGreatDoor

/-- What a step that retires a shard came upon, and what it left. -/
theorem retire_step {f : Flt} {d : Dd} (hk : d.kind = 4) (he : (stepL f d).2.err = 0) : 0 ≤ d.n ∧ d.n < f.shards.length ∧ (f.shards.getD d.n.toNat shd0).state = 3 ∧ (verifyL (f.shards.getD d.n.toNat shd0).man).2.1 = 0 ∧
    (stepL f d).1.shards.getD d.n.toNat shd0 = { (f.shards.getD d.n.toNat shd0) with state := 4, entries := [] } := by
  revert he
  unfold stepL
  rw [if_neg (by omega), if_neg (by omega)]
  by_cases h3 : d.n < 0 ∨ (f.shards.length : Int) ≤ d.n
  · rw [if_pos h3]; exact fun h => absurd (show (6 : Int) = 0 from h) (by decide)
  rw [if_neg h3]
  by_cases h4 : (f.shards.getD d.n.toNat shd0).state ≠ wantL d.kind
  · rw [if_pos h4]; exact fun h => absurd (show (7 : Int) = 0 from h) (by decide)
  rw [if_neg h4]
  have hst : (f.shards.getD d.n.toNat shd0).state = 3 := by
    have : (f.shards.getD d.n.toNat shd0).state = wantL d.kind := by simpa using h4
    rw [this, hk]; rfl
  unfold stepAt
  dsimp only
  rw [if_neg (by omega), if_neg (by omega), if_pos hk]
  by_cases hv : (verifyL (f.shards.getD d.n.toNat shd0).man).2.1 ≠ 0
  · rw [if_pos hv]; exact fun h => absurd h hv
  · rw [if_neg hv]
    refine fun _ => ⟨by omega, by omega, hst, by simpa using hv, ?_⟩
    exact getD_set_same (by omega)
theorem spoilt_clash7 {L X : List (List Int)} {i : Nat} (hw : (wrongL L).1 = 0) (h100 : L.length ≤ 100) (hl : X.length = L.length) (h200 : ∀ j, (X.getD j []).length ≤ 200) (hm : mth X = mth L) (hi : i < L.length) (hne : X.getD i [] ≠ L.getD i []) : clashS L (X.getD i []) i (pathL X i) = true := by
  have h1 := stands_path (L := X) (i := i) (by omega) (by omega) (h200 i)
  rw [hl, hm] at h1
  unfold clashS
  rw [decide_eq_true hw, h1, Int.toNat_natCast, decide_eq_true (show L.getD i [] ≠ X.getD i [] from fun e => hne e.symm)]
  rfl
/-- Nothing is lost by retiring. -/
theorem keeps {ws : List Win} (hw : (wrongWins ws).1 = 0) (l : List Dd) {i : Nat} (hi : i < l.length) (hk : (l.getD i dd0).kind = 4) (he : ((runL (startL ws) l).2.getD i ans0).err = 0) :
    ∃ n : Nat, (l.getD i dd0).n = (n : Int) ∧ n < ws.length ∧ ((runL (startL ws) l).1.shards.getD n shd0).entries = [] ∧
    ∀ j, j < ((runL (startL ws) (l.take i)).1.shards.getD n shd0).entries.length → (showL (runL (startL ws) l).1 n j).2 = 0 ∧
      ((showL (runL (startL ws) l).1 n j).1.entry ≠ ((runL (startL ws) (l.take i)).1.shards.getD n shd0).entries.getD j [] → clashS ((runL (startL ws) (l.take i)).1.shards.getD n shd0).entries (showL (runL (startL ws) l).1 n j).1.entry j (showL (runL (startL ws) l).1 n j).1.path = true) := by
  rw [run_ans _ _ hi] at he
  have hok := run_ok (start_ok ws) (l.take i)
  obtain ⟨h0, h1, h3, hv, hnew⟩ := retire_step hk he
  obtain ⟨n, hn⟩ := Int.eq_ofNat_of_zero_le h0
  rw [hn, Int.toNat_natCast] at h3 hv hnew
  have hn' : n < ws.length := by rw [← hok.len]; omega
  have hs := hok.each n hn'
  -- the run goes on from behind the step
  have hl : l = l.take (i + 1) ++ l.drop (i + 1) := (List.take_append_drop (i + 1) l).symm
  have hfin : (runL (startL ws) l).1 = (runL (stepL (runL (startL ws) (l.take i)).1 (l.getD i dd0)).1 (l.drop (i + 1))).1 := by
    have := runL_append (startL ws) (l.take (i + 1)) (l.drop (i + 1))
    rw [List.take_append_drop] at this
    rw [this, take_snoc_dd hi, runL_snoc]
  have hshard : (runL (startL ws) l).1.shards.getD n shd0 = { ((runL (startL ws) (l.take i)).1.shards.getD n shd0) with state := 4, entries := [] } := by
    rw [hfin, retired_run _ (by rw [hnew]), hnew]
  have hokF := run_ok (start_ok ws) l
  refine ⟨n, hn, hn', by rw [hshard], fun j hj => ?_⟩
  have hst : ((runL (startL ws) l).1.shards.getD n shd0).state = 4 := by rw [hshard]
  obtain ⟨e1, e2⟩ := hs.head3 h3
  have hhead : headOf ((runL (startL ws) l).1.shards.getD n shd0) = ((((runL (startL ws) (l.take i)).1.shards.getD n shd0).entries.length : Int), mth ((runL (startL ws) (l.take i)).1.shards.getD n shd0).entries) := by
    unfold headOf; rw [if_pos hst, hshard]; dsimp only; rw [e1, e2]
  obtain ⟨row, -, -, e, -⟩ := show_right hw hokF hn' (i := j) (by rw [hst]; decide) (by rw [hhead]; show (j : Int) < (_ : Int); omega)
  rw [e]
  refine ⟨rfl, fun hne => ?_⟩
  dsimp only at hne ⊢
  obtain ⟨-, -, c3, c4, -, c6⟩ := content_ok (hokF.each n hn')
  rw [hhead] at c3 c4
  dsimp only at c3 c4
  exact spoilt_clash7 (by rw [wrong_entries hs]) hs.few (by omega) c6 c4 hj hne
end Go.Proofs.YtkjlchfmplcobagGreatDoor
