/- FleetBookM, FleetShowM, ClashFace, FleetKeepM, FleetTakenM, FleetFalseM, TreeFaceGrows, BookFace, as one text. -/
import Derived.Test.YtkjlchfmplcobafGreatDoorRunAA
import Derived.Test.YtkjlchfmplcobafGreatDoorProg
import Derived.Test.YtkjlchfmplcobafGreatDoorShaSame
import Derived.Test.YtkjlchfmplcobafGreatDoorShaSum
import Derived.WalkKit
import Derived.WalkSpells
import Derived.WalkLawsBesides
import Derived.Test.YtkjlchfmplcobafGreatDoorRunAG
/- Chapter 7's mathematics: windows, the book, what is shown, and what is refused. -/
namespace Go.Proofs.YtkjlchfmplcobafGreatDoor

theorem pigeon (m : Nat) : ∀ (n : Nat) (g : Nat → Nat), (∀ i, i < n → g i < m) → (∀ i j, i < n → j < n → g i = g j → i = j) → n ≤ m := by
  induction m with
  | zero => intro n g h _; rcases Nat.eq_zero_or_pos n with e | e; omega; exact absurd (h 0 e) (Nat.not_lt_zero _)
  | succ m ih =>
    intro n g h hi
    by_cases hx : ∃ i, i < n ∧ g i = m
    · obtain ⟨i, hin, him⟩ := hx
      have := ih (n - 1) (fun j => if j < i then g j else g (j + 1)) (fun j hj => by
        by_cases hji : j < i
        · rw [if_pos hji]
          have h1 := h j (by omega)
          have h2 : g j ≠ m := fun e => by have := hi j i (by omega) hin (e.trans him.symm); omega
          omega
        · rw [if_neg hji]
          have h1 := h (j + 1) (by omega)
          have h2 : g (j + 1) ≠ m := fun e => by have := hi (j + 1) i (by omega) hin (e.trans him.symm); omega
          omega) (fun a b ha hb e => by
        by_cases h1 : a < i <;> by_cases h2 : b < i
        · rw [if_pos h1, if_pos h2] at e; exact hi a b (by omega) (by omega) e
        · rw [if_pos h1, if_neg h2] at e; have := hi a (b + 1) (by omega) (by omega) e; omega
        · rw [if_neg h1, if_pos h2] at e; have := hi (a + 1) b (by omega) (by omega) e; omega
        · rw [if_neg h1, if_neg h2] at e; have := hi (a + 1) (b + 1) (by omega) (by omega) e; omega)
      omega
    · have := ih n g (fun j hj => by
        have h1 := h j hj
        have h2 : g j ≠ m := fun e => hx ⟨j, hj, e⟩
        omega) hi
      omega
theorem wrongWins_many {l : List Win} (h : 8 < l.length) : wrongWins l = (5, 0) := by unfold wrongWins; rw [if_pos h]
theorem wrongWins_at {l : List Win} {k : Nat} (h8 : l.length ≤ 8) (hk : k < l.length) (hb : ∀ j, j < k → wrongWin l j = 0) (h : wrongWin l k ≠ 0) : wrongWins l = (wrongWin l k, (k : Int)) := by
  unfold wrongWins
  rw [if_neg (by omega), find_range (p := fun i => decide (wrongWin l i ≠ 0)) hk (decide_eq_true h) (fun j hj => decide_eq_false (fun g => g (hb j hj)))]
theorem wrongWins_none {l : List Win} (h8 : l.length ≤ 8) (hb : ∀ j, j < l.length → wrongWin l j = 0) : wrongWins l = (0, 0) := by
  unfold wrongWins
  rw [if_neg (by omega), find_none (p := fun i => decide (wrongWin l i ≠ 0)) (fun j hj => decide_eq_false (fun g => g (hb j hj)))]
theorem wrongWins_ok {l : List Win} (h : (wrongWins l).1 = 0) : l.length ≤ 8 ∧ ∀ j, j < l.length → wrongWin l j = 0 := by
  by_cases h8 : 8 < l.length
  · rw [wrongWins_many h8] at h; exact absurd h (by decide)
  refine ⟨by omega, fun j hj => ?_⟩
  unfold wrongWins at h
  rw [if_neg h8] at h
  cases hf : (List.range l.length).find? (fun i => decide (wrongWin l i ≠ 0)) with
  | none =>
    have := find_range_none hf j hj
    simpa using this
  | some i =>
    rw [hf] at h
    have := (find_range_some hf).2.1
    exact absurd h (of_decide_eq_true this)
theorem wrongWin_ok {l : List Win} {i : Nat} (h : wrongWin l i = 0) : 0 ≤ (l.getD i win0).a ∧ (l.getD i win0).a < (l.getD i win0).b ∧ (l.getD i win0).b ≤ 1000000 ∧ (0 < i → (l.getD (i - 1) win0).b ≤ (l.getD i win0).a) := by
  unfold wrongWin at h
  by_cases h1 : (l.getD i win0).a < 0 ∨ (l.getD i win0).b ≤ (l.getD i win0).a ∨ 1000000 < (l.getD i win0).b
  · rw [if_pos h1] at h; exact absurd h (by decide)
  rw [if_neg h1] at h
  by_cases h2 : 0 < i ∧ (l.getD i win0).a < (l.getD (i - 1) win0).b
  · rw [if_pos h2] at h; exact absurd h (by decide)
  exact ⟨by omega, by omega, by omega, fun h3 => by omega⟩
theorem book_few {ws : List Win} {f : Flt} (h : FltOk ws f) : f.book.length ≤ ws.length := by
  refine pigeon ws.length f.book.length (fun j => (f.book.getD j rec0).shard.toNat) (fun j hj => ?_) (fun i j hi hj e => ?_)
  · obtain ⟨k, hk, -, e⟩ := h.inb j hj
    rw [e]
    show ((k : Int)).toNat < _
    omega
  · obtain ⟨k1, -, -, e1⟩ := h.inb i hi
    obtain ⟨k2, -, -, e2⟩ := h.inb j hj
    refine h.once i j hi hj ?_
    rw [e1, e2] at e ⊢
    have e' : ((k1 : Int)).toNat = ((k2 : Int)).toNat := e
    show (k1 : Int) = (k2 : Int)
    omega
theorem headOf_len {w : Win} {s : Shd} (h : ShdOk w s) : 0 ≤ (headOf s).1 ∧ (headOf s).1 ≤ 100 ∧ (headOf s).2.length = 32 := by
  unfold headOf
  by_cases h4 : s.state = 4
  · rw [if_pos h4]
    obtain ⟨-, hm, -, hr⟩ := verify_spec (h.ver4 h4)
    have := of_decide_eq_true hm
    exact ⟨this.1, this.2.1, by show s.man.root.length = 32; rw [← hr]; exact mth_length _⟩
  · rw [if_neg h4]
    have := h.few
    exact ⟨by show (0 : Int) ≤ (s.entries.length : Int); omega, by show (s.entries.length : Int) ≤ 100; omega, mth_length _⟩
theorem book_right {ws : List Win} {f : Flt} (hw : (wrongWins ws).1 = 0) (h : FltOk ws f) : wrongRecs f.book = (0, 0) := by
  obtain ⟨h8, hall⟩ := wrongWins_ok hw
  have hb := book_few h
  refine wrongRecs_none (by omega) (fun j hj => ?_)
  obtain ⟨k, hk, -, e⟩ := h.inb j hj
  rw [e]
  have hs := h.each k hk
  have hwk := wrongWin_ok (hall k hk)
  obtain ⟨g1, g2, g3⟩ := headOf_len hs
  unfold wrongRec recOf
  dsimp only
  rw [if_neg (by rw [hs.from_eq, hs.to_eq]; omega), if_neg (fun e => e g3)]
/-- What is refused did not happen. -/
theorem step_refused {f : Flt} {d : Dd} (h : (stepL f d).2.err ≠ 0) : (stepL f d).1 = f := by
  revert h
  unfold stepL
  by_cases h1 : d.kind = 1
  · rw [if_pos h1]
    unfold submitL
    by_cases h200 : 200 < d.entry.length
    · rw [if_pos h200]; exact fun _ => rfl
    rw [if_neg h200]
    cases hh : homeOf f.shards d.time with
    | none => exact fun _ => rfl
    | some k =>
      dsimp only
      by_cases h1 : (f.shards.getD k shd0).state ≠ 1
      · rw [if_pos h1]; exact fun _ => rfl
      rw [if_neg h1]
      cases hp : placeOf (f.shards.getD k shd0).entries d.entry with
      | some i => exact fun _ => rfl
      | none =>
        dsimp only
        by_cases h100 : 100 ≤ (f.shards.getD k shd0).entries.length
        · rw [if_pos h100]; exact fun _ => rfl
        rw [if_neg h100]
        exact fun h => absurd rfl h
  rw [if_neg h1]
  by_cases h2 : d.kind < 2 ∨ 5 < d.kind
  · rw [if_pos h2]; exact fun _ => rfl
  rw [if_neg h2]
  by_cases h3 : d.n < 0 ∨ (f.shards.length : Int) ≤ d.n
  · rw [if_pos h3]; exact fun _ => rfl
  rw [if_neg h3]
  by_cases h4 : (f.shards.getD d.n.toNat shd0).state ≠ wantL d.kind
  · rw [if_pos h4]; exact fun _ => rfl
  rw [if_neg h4]
  unfold stepAt
  dsimp only
  by_cases k2 : d.kind = 2
  · rw [if_pos k2]; exact fun h => absurd rfl h
  rw [if_neg k2]
  by_cases k3 : d.kind = 3
  · rw [if_pos k3]
    by_cases hw : (wrongL (f.shards.getD d.n.toNat shd0).entries).1 ≠ 0
    · rw [if_pos hw]; exact fun _ => rfl
    · rw [if_neg hw]; exact fun h => absurd rfl h
  rw [if_neg k3]
  by_cases k4 : d.kind = 4
  · rw [if_pos k4]
    by_cases hv : (verifyL (f.shards.getD d.n.toNat shd0).man).2.1 ≠ 0
    · rw [if_pos hv]; exact fun _ => rfl
    · rw [if_neg hv]; exact fun h => absurd rfl h
  rw [if_neg k4]
  by_cases h5 : d.segment < 0 ∨ ((f.shards.getD d.n.toNat shd0).man.segs.length : Int) ≤ d.segment
  · rw [if_pos h5]; exact fun _ => rfl
  rw [if_neg h5]
  by_cases h6 : d.at' < 0 ∨ (((f.shards.getD d.n.toNat shd0).man.segs.getD d.segment.toNat seg0).packed.length : Int) ≤ d.at'
  · rw [if_pos h6]; exact fun _ => rfl
  rw [if_neg h6]
  exact fun h => absurd rfl h
theorem take_snoc_dd {l : List Dd} {k : Nat} (hk : k < l.length) : l.take (k + 1) = l.take k ++ [l.getD k dd0] := by
  rw [List.take_succ_eq_append_getElem hk, List.getD_eq_getElem?_getD, List.getElem?_eq_getElem hk]; rfl
/-- Of what was done first the same came, whatever is done behind it. -/
theorem run_take (f : Flt) (l : List Dd) (k : Nat) : (runL f (l.take k)).2 = (runL f l).2.take k := by
  by_cases hk : k ≤ l.length
  · have h : (runL f l).2 = (runL f (l.take k)).2 ++ (runL (runL f (l.take k)).1 (l.drop k)).2 := by
      have := runL_append f (l.take k) (l.drop k)
      rw [List.take_append_drop] at this
      rw [this]
    rw [h]
    exact (List.take_left' (by rw [runL_length, List.length_take]; omega)).symm
  · rw [List.take_of_length_le (by omega), List.take_of_length_le (by rw [runL_length]; omega)]
theorem run_ans (f : Flt) (l : List Dd) {k : Nat} (hk : k < l.length) : (runL f l).2.getD k ans0 = (stepL (runL f (l.take k)).1 (l.getD k dd0)).2 := by
  have h1 := run_take f l (k + 1)
  rw [take_snoc_dd hk, runL_snoc] at h1
  have h2 : ((runL f l).2.take (k + 1)).getD k ans0 = (runL f l).2.getD k ans0 := by
    rw [List.getD_eq_getElem?_getD, List.getElem?_take, if_pos (by omega), ← List.getD_eq_getElem?_getD]
  rw [← h2, ← h1]
  have hl : (runL f (l.take k)).2.length = k := by rw [runL_length, List.length_take]; omega
  rw [snoc_get, hl, if_neg (by omega), if_pos rfl]
end Go.Proofs.YtkjlchfmplcobafGreatDoor

/- Chapter 7's mathematics: what is shown. -/
namespace Go.Proofs.YtkjlchfmplcobafGreatDoor

structure Shw where
  entry : List Int
  place : Int
  shard : Int
  path : List (List Int)
  rcd : Rec
  row : Int
  bookPath : List (List Int)
  hsize : Int
  hroot : List Int
def shw0 : Shw := ⟨[], 0, 0, [], rec0, 0, [], 0, []⟩
/-- A shard's row in the book. -/
def rowOf (b : List Rec) (k : Int) : Option Nat := (List.range b.length).find? (fun j => decide ((b.getD j rec0).shard = k))
/-- A shard's entries, or those that are laid away, or what is wrong with these. -/
def contentL (s : Shd) : List (List Int) × Int := if s.state = 4 then ((verifyL s.man).1, (verifyL s.man).2.1) else (s.entries, 0)
def showL (f : Flt) (k i : Int) : Shw × Int :=
  if k < 0 ∨ (f.shards.length : Int) ≤ k then (shw0, 6) else
  match rowOf f.book k with
  | none => (shw0, 8)
  | some row =>
    if (contentL (f.shards.getD k.toNat shd0)).2 ≠ 0 then (shw0, (contentL (f.shards.getD k.toNat shd0)).2) else
    if (pathF (contentL (f.shards.getD k.toNat shd0)).1 i).1 ≠ 0 then (shw0, (pathF (contentL (f.shards.getD k.toNat shd0)).1 i).1) else
    if (wrongRecs f.book).1 ≠ 0 then (shw0, (wrongRecs f.book).1) else
    (⟨(contentL (f.shards.getD k.toNat shd0)).1.getD i.toNat [], i, k, pathL (contentL (f.shards.getD k.toNat shd0)).1 i.toNat, f.book.getD row rec0, (row : Int), pathL (rowsOf f.book) row, (f.book.length : Int), mth (rowsOf f.book)⟩, 0)
def checkL (s : Shw) (hs : Int) (hr : List Int) : Bool :=
  decide (wrongRec s.rcd = 0) && (decide (s.rcd.shard = s.shard) && (decide (s.hsize = hs ∧ s.hroot = hr) && (standsL s.rcd.size s.rcd.root s.entry s.place s.path && standsL hs hr (rowL s.rcd) s.row s.bookPath)))
theorem content_ok {w : Win} {s : Shd} (h : ShdOk w s) : (contentL s).2 = 0 ∧ wrongL (contentL s).1 = (0, 0) ∧ ((contentL s).1.length : Int) = (headOf s).1 ∧ mth (contentL s).1 = (headOf s).2 ∧ (contentL s).1.length ≤ 100 ∧ ∀ j, ((contentL s).1.getD j []).length ≤ 200 := by
  unfold contentL headOf
  by_cases h4 : s.state = 4
  · rw [if_pos h4, if_pos h4]
    have hv := h.ver4 h4
    obtain ⟨e, -, -, hr⟩ := verify_spec hv
    have hf := verify_few (m := s.man)
    have hu := upTo_all hv
    have hg : ∀ j, ((verifyL s.man).1.getD j []).length ≤ 200 := fun j => by
      by_cases hj : j < (verifyL s.man).1.length
      · rw [List.getD_eq_getElem?_getD, List.getElem?_eq_getElem hj]; exact hf.2 _ (List.getElem_mem hj)
      · rw [List.getD_eq_getElem?_getD, List.getElem?_eq_none (by omega)]; simp
    exact ⟨hv, wrong_zero hf.1 hg, by rw [e]; exact hu.1, by rw [e]; exact hr, hf.1, hg⟩
  · rw [if_neg h4, if_neg h4]
    have hg : ∀ j, (s.entries.getD j []).length ≤ 200 := fun j => by
      by_cases hj : j < s.entries.length
      · rw [List.getD_eq_getElem?_getD, List.getElem?_eq_getElem hj]; exact h.short _ (List.getElem_mem hj)
      · rw [List.getD_eq_getElem?_getD, List.getElem?_eq_none (by omega)]; simp
    exact ⟨rfl, wrong_entries h, rfl, rfl, h.few, hg⟩
/-- A shard that is not open has its row. -/
theorem row_some {ws : List Win} {f : Flt} (h : FltOk ws f) {k : Nat} (hk : k < ws.length) (h1 : (f.shards.getD k shd0).state ≠ 1) : ∃ j, rowOf f.book (k : Int) = some j ∧ j < f.book.length ∧ f.book.getD j rec0 = recOf k (f.shards.getD k shd0) := by
  obtain ⟨j, hj, e⟩ := h.all k hk h1
  refine ⟨j, find_range hj (decide_eq_true e) (fun i hi => decide_eq_false (fun g => ?_)), hj, ?_⟩
  · have := h.once i j (by omega) hj (g.trans e.symm); omega
  · obtain ⟨q, hq1, -, hq3⟩ := h.inb j hj
    rw [hq3] at e
    have : q = k := by have e' : (q : Int) = (k : Int) := e; omega
    subst this
    exact hq3
theorem show_right {ws : List Win} {f : Flt} (hw : (wrongWins ws).1 = 0) (h : FltOk ws f) {k i : Nat} (hk : k < ws.length) (h1 : (f.shards.getD k shd0).state ≠ 1) (hi : (i : Int) < (headOf (f.shards.getD k shd0)).1) :
    ∃ row, row < f.book.length ∧ f.book.getD row rec0 = recOf k (f.shards.getD k shd0) ∧ showL f k i = (⟨(contentL (f.shards.getD k shd0)).1.getD i [], (i : Int), (k : Int), pathL (contentL (f.shards.getD k shd0)).1 i, recOf k (f.shards.getD k shd0), (row : Int), pathL (rowsOf f.book) row, (f.book.length : Int), mth (rowsOf f.book)⟩, 0) ∧
      checkL ⟨(contentL (f.shards.getD k shd0)).1.getD i [], (i : Int), (k : Int), pathL (contentL (f.shards.getD k shd0)).1 i, recOf k (f.shards.getD k shd0), (row : Int), pathL (rowsOf f.book) row, (f.book.length : Int), mth (rowsOf f.book)⟩ (f.book.length : Int) (mth (rowsOf f.book)) = true := by
  obtain ⟨row, hr1, hr2, hr3⟩ := row_some h hk h1
  obtain ⟨c1, c2, c3, c4, c5, c6⟩ := content_ok (h.each k hk)
  have hb := book_right hw h
  have hb0 : (wrongRecs f.book).1 = 0 := by rw [hb]
  have hf := book_few h
  have h8 := (wrongWins_ok hw).1
  refine ⟨row, hr2, hr3, ?_, ?_⟩
  · unfold showL
    rw [if_neg (by rw [h.len]; omega), hr1]
    dsimp only
    rw [Int.toNat_natCast, if_neg (fun g => g c1)]
    have hp : pathF (contentL (f.shards.getD k shd0)).1 (i : Int) = (0, 0) := by unfold pathF; rw [c2, if_neg (fun g => g rfl), if_neg (by rw [c3]; omega)]
    rw [hp, if_neg (fun g => g rfl), if_neg (fun g => g hb0), Int.toNat_natCast, hr3]
  · unfold checkL
    dsimp only
    have hwr := (wrongRecs_ok hb0).2 row hr2
    rw [hr3] at hwr
    have hrl := rows_length f.book
    have hs1 := stands_path (L := (contentL (f.shards.getD k shd0)).1) (i := i) c5 (by omega) (c6 i)
    rw [c3, c4] at hs1
    have hs2 := stands_path (L := rowsOf f.book) (i := row) (by omega) (by omega) (rows_short hb0 row)
    rw [rows_get hr2, hr3, hrl] at hs2
    rw [decide_eq_true hwr, decide_eq_true (show (recOf k (f.shards.getD k shd0)).shard = (k : Int) from rfl), decide_eq_true ⟨rfl, rfl⟩, hs2]
    show (true && (true && (true && (standsL (headOf (f.shards.getD k shd0)).1 (headOf (f.shards.getD k shd0)).2 _ _ _ && true)))) = true
    rw [hs1]
    rfl
/-- A shard that is retired stays as it is. -/
theorem retired_step {f : Flt} (d : Dd) {k : Nat} (h4 : (f.shards.getD k shd0).state = 4) : (stepL f d).1.shards.getD k shd0 = f.shards.getD k shd0 := by
  have key : ∀ (q : Nat) (s : Shd), (f.shards.getD q shd0).state ≠ 4 → (f.shards.set q s).getD k shd0 = f.shards.getD k shd0 := fun q s hq => by
    by_cases e : q = k
    · subst e; exact absurd h4 hq
    · exact getD_set_other e
  by_cases he : (stepL f d).2.err ≠ 0
  · rw [step_refused he]
  revert he
  unfold stepL
  by_cases h1 : d.kind = 1
  · rw [if_pos h1]
    unfold submitL
    by_cases h200 : 200 < d.entry.length
    · rw [if_pos h200]; exact fun _ => rfl
    rw [if_neg h200]
    cases hh : homeOf f.shards d.time with
    | none => exact fun _ => rfl
    | some q =>
      dsimp only
      by_cases h1 : (f.shards.getD q shd0).state ≠ 1
      · rw [if_pos h1]; exact fun _ => rfl
      rw [if_neg h1]
      cases hp : placeOf (f.shards.getD q shd0).entries d.entry with
      | some i => exact fun _ => rfl
      | none =>
        dsimp only
        by_cases h100 : 100 ≤ (f.shards.getD q shd0).entries.length
        · rw [if_pos h100]; exact fun _ => rfl
        rw [if_neg h100]
        exact fun _ => key q _ (by omega)
  rw [if_neg h1]
  by_cases h2 : d.kind < 2 ∨ 5 < d.kind
  · rw [if_pos h2]; exact fun _ => rfl
  rw [if_neg h2]
  by_cases h3 : d.n < 0 ∨ (f.shards.length : Int) ≤ d.n
  · rw [if_pos h3]; exact fun _ => rfl
  rw [if_neg h3]
  by_cases h4' : (f.shards.getD d.n.toNat shd0).state ≠ wantL d.kind
  · rw [if_pos h4']; exact fun _ => rfl
  rw [if_neg h4']
  have hne : (f.shards.getD d.n.toNat shd0).state ≠ 4 := by
    have : wantL d.kind ≤ 3 := by unfold wantL; split; omega; split <;> omega
    omega
  unfold stepAt
  dsimp only
  by_cases k2 : d.kind = 2
  · rw [if_pos k2]; exact fun _ => key _ _ hne
  rw [if_neg k2]
  by_cases k3 : d.kind = 3
  · rw [if_pos k3]
    by_cases hw : (wrongL (f.shards.getD d.n.toNat shd0).entries).1 ≠ 0
    · rw [if_pos hw]; exact fun _ => rfl
    · rw [if_neg hw]; exact fun _ => key _ _ hne
  rw [if_neg k3]
  by_cases k4 : d.kind = 4
  · rw [if_pos k4]
    by_cases hv : (verifyL (f.shards.getD d.n.toNat shd0).man).2.1 ≠ 0
    · rw [if_pos hv]; exact fun _ => rfl
    · rw [if_neg hv]; exact fun _ => key _ _ hne
  rw [if_neg k4]
  by_cases h5 : d.segment < 0 ∨ ((f.shards.getD d.n.toNat shd0).man.segs.length : Int) ≤ d.segment
  · rw [if_pos h5]; exact fun _ => rfl
  rw [if_neg h5]
  by_cases h6 : d.at' < 0 ∨ (((f.shards.getD d.n.toNat shd0).man.segs.getD d.segment.toNat seg0).packed.length : Int) ≤ d.at'
  · rw [if_pos h6]; exact fun _ => rfl
  rw [if_neg h6]
  exact fun _ => key _ _ hne
theorem retired_run {f : Flt} (l : List Dd) {k : Nat} (h4 : (f.shards.getD k shd0).state = 4) : (runL f l).1.shards.getD k shd0 = f.shards.getD k shd0 := by
  induction l generalizing f with
  | nil => rfl
  | cons d ds ih =>
    have e := retired_step d h4
    show (runL (stepL f d).1 ds).1.shards.getD k shd0 = _
    rw [ih (by rw [e]; exact h4), e]

end Go.Proofs.YtkjlchfmplcobafGreatDoor

/- What the laws of chapter 3 ask of package clash's faces, as propositions: each is shown of the landed code elsewhere; and the walk of yearlaw3.two. -/
namespace Go.Proofs.YtkjlchfmplcobafGreatDoor
open Go.RowKit

/-- Another leaf than that which is there is shown. -/
def clashS (L : List (List Int)) (b : List Int) (i : Int) (p : List (List Int)) : Bool := decide ((wrongL L).1 = 0) && standsL L.length (mth L) b i p && decide (L.getD i.toNat [] ≠ b)
end Go.Proofs.YtkjlchfmplcobafGreatDoor

/- Chapter 7's mathematics: nothing is lost by retiring; the book only grows; entries stay. -/
namespace Go.Proofs.YtkjlchfmplcobafGreatDoor

/-- What a step that retires a shard came upon, and what it left. -/
theorem retire_step {f : Flt} {d : Dd} (hk : d.kind = 4) (he : (stepL f d).2.err = 0) : 0 ≤ d.n ∧ d.n < f.shards.length ∧ (f.shards.getD d.n.toNat shd0).state = 3 ∧ (verifyL (f.shards.getD d.n.toNat shd0).man).2.1 = 0 ∧
    (stepL f d).1.shards.getD d.n.toNat shd0 = { (f.shards.getD d.n.toNat shd0) with state := 4, entries := [] } := by
  revert he
  unfold stepL
  rw [if_neg (by omega), if_neg (by omega)]
  by_cases h3 : d.n < 0 ∨ (f.shards.length : Int) ≤ d.n
  · rw [if_pos h3]; exact fun h => absurd (show (6 : Int) = 0 from h) (by decide)
  rw [if_neg h3]
  by_cases h4 : (f.shards.getD d.n.toNat shd0).state ≠ wantL d.kind
  · rw [if_pos h4]; exact fun h => absurd (show (7 : Int) = 0 from h) (by decide)
  rw [if_neg h4]
  have hst : (f.shards.getD d.n.toNat shd0).state = 3 := by
    have : (f.shards.getD d.n.toNat shd0).state = wantL d.kind := by simpa using h4
    rw [this, hk]; rfl
  unfold stepAt
  dsimp only
  rw [if_neg (by omega), if_neg (by omega), if_pos hk]
  by_cases hv : (verifyL (f.shards.getD d.n.toNat shd0).man).2.1 ≠ 0
  · rw [if_pos hv]; exact fun h => absurd h hv
  · rw [if_neg hv]
    refine fun _ => ⟨by omega, by omega, hst, by simpa using hv, ?_⟩
    exact getD_set_same (by omega)
theorem spoilt_clash7 {L X : List (List Int)} {i : Nat} (hw : (wrongL L).1 = 0) (h100 : L.length ≤ 100) (hl : X.length = L.length) (h200 : ∀ j, (X.getD j []).length ≤ 200) (hm : mth X = mth L) (hi : i < L.length) (hne : X.getD i [] ≠ L.getD i []) : clashS L (X.getD i []) i (pathL X i) = true := by
  have h1 := stands_path (L := X) (i := i) (by omega) (by omega) (h200 i)
  rw [hl, hm] at h1
  unfold clashS
  rw [decide_eq_true hw, h1, Int.toNat_natCast, decide_eq_true (show L.getD i [] ≠ X.getD i [] from fun e => hne e.symm)]
  rfl
/-- Nothing is lost by retiring. -/
theorem keeps {ws : List Win} (hw : (wrongWins ws).1 = 0) (l : List Dd) {i : Nat} (hi : i < l.length) (hk : (l.getD i dd0).kind = 4) (he : ((runL (startL ws) l).2.getD i ans0).err = 0) :
    ∃ n : Nat, (l.getD i dd0).n = (n : Int) ∧ n < ws.length ∧ ((runL (startL ws) l).1.shards.getD n shd0).entries = [] ∧
    ∀ j, j < ((runL (startL ws) (l.take i)).1.shards.getD n shd0).entries.length → (showL (runL (startL ws) l).1 n j).2 = 0 ∧
      ((showL (runL (startL ws) l).1 n j).1.entry ≠ ((runL (startL ws) (l.take i)).1.shards.getD n shd0).entries.getD j [] → clashS ((runL (startL ws) (l.take i)).1.shards.getD n shd0).entries (showL (runL (startL ws) l).1 n j).1.entry j (showL (runL (startL ws) l).1 n j).1.path = true) := by
  rw [run_ans _ _ hi] at he
  have hok := run_ok (start_ok ws) (l.take i)
  obtain ⟨h0, h1, h3, hv, hnew⟩ := retire_step hk he
  obtain ⟨n, hn⟩ := Int.eq_ofNat_of_zero_le h0
  rw [hn, Int.toNat_natCast] at h3 hv hnew
  have hn' : n < ws.length := by rw [← hok.len]; omega
  have hs := hok.each n hn'
  -- the run goes on from behind the step
  have hl : l = l.take (i + 1) ++ l.drop (i + 1) := (List.take_append_drop (i + 1) l).symm
  have hfin : (runL (startL ws) l).1 = (runL (stepL (runL (startL ws) (l.take i)).1 (l.getD i dd0)).1 (l.drop (i + 1))).1 := by
    have := runL_append (startL ws) (l.take (i + 1)) (l.drop (i + 1))
    rw [List.take_append_drop] at this
    rw [this, take_snoc_dd hi, runL_snoc]
  have hshard : (runL (startL ws) l).1.shards.getD n shd0 = { ((runL (startL ws) (l.take i)).1.shards.getD n shd0) with state := 4, entries := [] } := by
    rw [hfin, retired_run _ (by rw [hnew]), hnew]
  have hokF := run_ok (start_ok ws) l
  refine ⟨n, hn, hn', by rw [hshard], fun j hj => ?_⟩
  have hst : ((runL (startL ws) l).1.shards.getD n shd0).state = 4 := by rw [hshard]
  obtain ⟨e1, e2⟩ := hs.head3 h3
  have hhead : headOf ((runL (startL ws) l).1.shards.getD n shd0) = ((((runL (startL ws) (l.take i)).1.shards.getD n shd0).entries.length : Int), mth ((runL (startL ws) (l.take i)).1.shards.getD n shd0).entries) := by
    unfold headOf; rw [if_pos hst, hshard]; dsimp only; rw [e1, e2]
  obtain ⟨row, -, -, e, -⟩ := show_right hw hokF hn' (i := j) (by rw [hst]; decide) (by rw [hhead]; show (j : Int) < (_ : Int); omega)
  rw [e]
  refine ⟨rfl, fun hne => ?_⟩
  dsimp only at hne ⊢
  obtain ⟨-, -, c3, c4, -, c6⟩ := content_ok (hokF.each n hn')
  rw [hhead] at c3 c4
  dsimp only at c3 c4
  exact spoilt_clash7 (by rw [wrong_entries hs]) hs.few (by omega) c6 c4 hj hne
/-- The book only grows. -/
theorem step_book (f : Flt) (d : Dd) : f.book <+: (stepL f d).1.book := by
  by_cases he : (stepL f d).2.err ≠ 0
  · rw [step_refused he]; exact List.prefix_refl _
  revert he
  unfold stepL
  by_cases h1 : d.kind = 1
  · rw [if_pos h1]
    unfold submitL
    by_cases h200 : 200 < d.entry.length
    · rw [if_pos h200]; exact fun _ => List.prefix_refl _
    rw [if_neg h200]
    cases hh : homeOf f.shards d.time with
    | none => exact fun _ => List.prefix_refl _
    | some q =>
      dsimp only
      split
      · exact fun _ => List.prefix_refl _
      split
      · exact fun _ => List.prefix_refl _
      split
      · exact fun _ => List.prefix_refl _
      · exact fun _ => List.prefix_refl _
  rw [if_neg h1]
  split
  · exact fun _ => List.prefix_refl _
  split
  · exact fun _ => List.prefix_refl _
  split
  · exact fun _ => List.prefix_refl _
  unfold stepAt
  dsimp only
  split
  · exact fun _ => List.prefix_append _ _
  split
  · split
    · exact fun _ => List.prefix_refl _
    · exact fun _ => List.prefix_refl _
  split
  · split
    · exact fun _ => List.prefix_refl _
    · exact fun _ => List.prefix_refl _
  split
  · exact fun _ => List.prefix_refl _
  split
  · exact fun _ => List.prefix_refl _
  · exact fun _ => List.prefix_refl _
theorem run_book (f : Flt) (l : List Dd) : f.book <+: (runL f l).1.book := by
  induction l generalizing f with
  | nil => exact List.prefix_refl _
  | cons d ds ih => exact (step_book f d).trans (ih _)
theorem book_grows (f : Flt) (l : List Dd) (k : Nat) : (runL f (l.take k)).1.book = (runL f l).1.book.take (runL f (l.take k)).1.book.length := by
  have h : (runL f l).1 = (runL (runL f (l.take k)).1 (l.drop k)).1 := by
    have := runL_append f (l.take k) (l.drop k)
    rw [List.take_append_drop] at this
    rw [this]
  obtain ⟨t, ht⟩ := run_book (runL f (l.take k)).1 (l.drop k)
  rw [h, ← ht, List.take_left' rfl]

end Go.Proofs.YtkjlchfmplcobafGreatDoor

/- Chapter 7's mathematics: what was taken stays, where nothing was spoilt. -/
namespace Go.Proofs.YtkjlchfmplcobafGreatDoor

/-- Nothing of a shard was spoilt. -/
structure CleanS (s : Shd) : Prop where
  c3 : s.state = 3 → s.man = exportL s.entries
  c4 : s.state = 4 → ∃ L : List (List Int), L.length ≤ 100 ∧ (∀ e ∈ L, e.length ≤ 200) ∧ s.man = ⟨L.length, mth L, segsL L⟩
def CleanF (f : Flt) : Prop := ∀ k, k < f.shards.length → CleanS (f.shards.getD k shd0)
theorem start_clean (ws : List Win) : CleanF (startL ws) := fun k hk => by
  have hk' : k < ws.length := by simpa [startL] using hk
  rw [wins_get ws hk']
  exact ⟨fun h => absurd (show (1 : Int) = 3 from h) (by decide), fun h => absurd (show (1 : Int) = 4 from h) (by decide)⟩
theorem export_form {w : Win} {s : Shd} (h : ShdOk w s) : exportL s.entries = ⟨s.entries.length, mth s.entries, segsL s.entries⟩ := by
  unfold exportL; rw [wrong_entries h, if_neg (fun g => g rfl)]
theorem content_open {s : Shd} (h : s.state ≠ 4) : (contentL s).1 = s.entries := by unfold contentL; rw [if_neg h]
theorem content_laid {s : Shd} {L : List (List Int)} (h : s.state = 4) (h1 : L.length ≤ 100) (h2 : ∀ e ∈ L, e.length ≤ 200) (hm : s.man = ⟨L.length, mth L, segsL L⟩) : (contentL s).1 = L := by
  unfold contentL; rw [if_pos h, hm, verify_export h1 h2]
/-- A shard in another's place. -/
theorem clean_put {f : Flt} (hc : CleanF f) {k : Nat} (hk : k < f.shards.length) {s : Shd} (hs : CleanS s) (hp : (contentL (f.shards.getD k shd0)).1 <+: (contentL s).1) (b : List Rec) :
    CleanF ⟨f.shards.set k s, b⟩ ∧ ∀ j, (contentL (f.shards.getD j shd0)).1 <+: (contentL ((f.shards.set k s).getD j shd0)).1 := by
  refine ⟨fun j hj => ?_, fun j => ?_⟩
  · have hj' : j < f.shards.length := by simpa using hj
    dsimp only
    by_cases e : k = j
    · subst e; rw [getD_set_same hk]; exact hs
    · rw [getD_set_other e]; exact hc j hj'
  · by_cases e : k = j
    · subst e; rw [getD_set_same hk]; exact hp
    · rw [getD_set_other e]; exact List.prefix_refl _
theorem step_clean {ws : List Win} {f : Flt} (h : FltOk ws f) (hc : CleanF f) {d : Dd} (h5 : d.kind ≠ 5) : CleanF (stepL f d).1 ∧ ∀ j, (contentL (f.shards.getD j shd0)).1 <+: (contentL ((stepL f d).1.shards.getD j shd0)).1 := by
  have same : CleanF f ∧ ∀ j, (contentL (f.shards.getD j shd0)).1 <+: (contentL (f.shards.getD j shd0)).1 := ⟨hc, fun _ => List.prefix_refl _⟩
  unfold stepL
  by_cases h1 : d.kind = 1
  · rw [if_pos h1]
    unfold submitL
    by_cases h200 : 200 < d.entry.length
    · rw [if_pos h200]; exact same
    rw [if_neg h200]
    cases hh : homeOf f.shards d.time with
    | none => exact same
    | some k =>
      obtain ⟨hk, -, -⟩ := home_some hh
      dsimp only
      by_cases h1 : (f.shards.getD k shd0).state ≠ 1
      · rw [if_pos h1]; exact same
      rw [if_neg h1]
      have h1' : (f.shards.getD k shd0).state = 1 := by omega
      cases hp : placeOf (f.shards.getD k shd0).entries d.entry with
      | some i => exact same
      | none =>
        dsimp only
        by_cases h100 : 100 ≤ (f.shards.getD k shd0).entries.length
        · rw [if_pos h100]; exact same
        rw [if_neg h100]
        refine clean_put hc hk (s := { (f.shards.getD k shd0) with entries := (f.shards.getD k shd0).entries ++ [d.entry] }) ⟨fun g => absurd (h1'.symm.trans g) (by decide), fun g => absurd (h1'.symm.trans g) (by decide)⟩ ?_ _
        rw [content_open (by rw [h1']; decide), content_open (by show (f.shards.getD k shd0).state ≠ 4; rw [h1']; decide)]
        exact List.prefix_append _ _
  rw [if_neg h1]
  by_cases h2 : d.kind < 2 ∨ 5 < d.kind
  · rw [if_pos h2]; exact same
  rw [if_neg h2]
  by_cases h3 : d.n < 0 ∨ (f.shards.length : Int) ≤ d.n
  · rw [if_pos h3]; exact same
  rw [if_neg h3]
  by_cases h4 : (f.shards.getD d.n.toNat shd0).state ≠ wantL d.kind
  · rw [if_pos h4]; exact same
  rw [if_neg h4]
  have hkl : d.n.toNat < f.shards.length := by omega
  have hkw : d.n.toNat < ws.length := by rw [← h.len]; exact hkl
  generalize d.n.toNat = k at *
  have hst : (f.shards.getD k shd0).state = wantL d.kind := by simpa using h4
  have hs := h.each k hkw
  unfold stepAt
  dsimp only
  by_cases k2 : d.kind = 2
  · rw [if_pos k2]
    have hst1 : (f.shards.getD k shd0).state = 1 := by rw [hst, k2]; rfl
    refine clean_put hc hkl ⟨fun g => absurd (show (2 : Int) = 3 from g) (by decide), fun g => absurd (show (2 : Int) = 4 from g) (by decide)⟩ ?_ _
    rw [content_open (by rw [hst1]; decide), content_open (by show (2 : Int) ≠ 4; decide)]
    exact List.prefix_refl _
  rw [if_neg k2]
  by_cases k3 : d.kind = 3
  · rw [if_pos k3]
    have hst2 : (f.shards.getD k shd0).state = 2 := by rw [hst, k3]; rfl
    rw [if_neg (by rw [wrong_entries hs]; exact fun g => g rfl)]
    refine clean_put hc hkl ⟨fun _ => rfl, fun g => absurd (show (3 : Int) = 4 from g) (by decide)⟩ ?_ _
    rw [content_open (by rw [hst2]; decide), content_open (by show (3 : Int) ≠ 4; decide)]
    exact List.prefix_refl _
  rw [if_neg k3]
  have k4 : d.kind = 4 := by omega
  have hst3 : (f.shards.getD k shd0).state = 3 := by rw [hst, k4]; rfl
  rw [if_pos k4]
  by_cases hv : (verifyL (f.shards.getD k shd0).man).2.1 ≠ 0
  · rw [if_pos hv]; exact same
  rw [if_neg hv]
  have hm := ((hc k hkl).c3 hst3).trans (export_form hs)
  refine clean_put hc hkl (s := { (f.shards.getD k shd0) with state := 4, entries := [] }) ⟨fun g => absurd (show (4 : Int) = 3 from g) (by decide), fun _ => ⟨_, hs.few, hs.short, hm⟩⟩ ?_ _
  rw [content_open (by rw [hst3]; decide), content_laid (s := { (f.shards.getD k shd0) with state := 4, entries := [] }) rfl hs.few hs.short hm]
  exact List.prefix_refl _
theorem run_clean {ws : List Win} {f : Flt} (h : FltOk ws f) (hc : CleanF f) (l : List Dd) (h5 : ∀ d ∈ l, d.kind ≠ 5) : CleanF (runL f l).1 ∧ ∀ j, (contentL (f.shards.getD j shd0)).1 <+: (contentL ((runL f l).1.shards.getD j shd0)).1 := by
  induction l generalizing f with
  | nil => exact ⟨hc, fun _ => List.prefix_refl _⟩
  | cons d ds ih =>
    obtain ⟨h1, h2⟩ := step_clean h hc (h5 d (by simp))
    obtain ⟨h3, h4⟩ := ih (step_ok h d) h1 (fun x hx => h5 x (by simp [hx]))
    exact ⟨h3, fun j => (h2 j).trans (h4 j)⟩
/-- What a step that took an entry tells. -/
theorem taken_step {f : Flt} {d : Dd} (hk : d.kind = 1) (he : (stepL f d).2.err = 0) : ∃ k p : Nat, (stepL f d).2 = ⟨0, (k : Int), (p : Int), 0, []⟩ ∧ homeOf f.shards d.time = some k ∧ k < f.shards.length ∧ (f.shards.getD k shd0).state = 1 ∧ ((stepL f d).1.shards.getD k shd0).state = 1 ∧
    p < ((stepL f d).1.shards.getD k shd0).entries.length ∧ ((stepL f d).1.shards.getD k shd0).entries.getD p [] = d.entry := by
  revert he
  unfold stepL
  rw [if_pos hk]
  unfold submitL
  by_cases h200 : 200 < d.entry.length
  · rw [if_pos h200]; exact fun h => absurd (show (4 : Int) = 0 from h) (by decide)
  rw [if_neg h200]
  cases hh : homeOf f.shards d.time with
  | none => exact fun h => absurd (show (6 : Int) = 0 from h) (by decide)
  | some k =>
    obtain ⟨hkl, -, -⟩ := home_some hh
    dsimp only
    by_cases h1 : (f.shards.getD k shd0).state ≠ 1
    · rw [if_pos h1]; exact fun h => absurd (show (8 : Int) = 0 from h) (by decide)
    rw [if_neg h1]
    have h1' : (f.shards.getD k shd0).state = 1 := by omega
    cases hp : placeOf (f.shards.getD k shd0).entries d.entry with
    | some i =>
      obtain ⟨g1, g2⟩ := place_some hp
      exact fun _ => ⟨k, i, rfl, rfl, hkl, h1', h1', g1, g2⟩
    | none =>
      dsimp only
      by_cases h100 : 100 ≤ (f.shards.getD k shd0).entries.length
      · rw [if_pos h100]; exact fun h => absurd (show (5 : Int) = 0 from h) (by decide)
      rw [if_neg h100]
      refine fun _ => ⟨k, (f.shards.getD k shd0).entries.length, rfl, rfl, hkl, h1', ?_, ?_, ?_⟩
      · show ((f.shards.set k _).getD k shd0).state = 1
        rw [getD_set_same hkl]; exact h1'
      · show _ < ((f.shards.set k _).getD k shd0).entries.length
        rw [getD_set_same hkl]
        simp
      · show ((f.shards.set k _).getD k shd0).entries.getD _ [] = _
        rw [getD_set_same hkl]
        dsimp only
        rw [snoc_get, if_neg (Nat.lt_irrefl _), if_pos rfl]
theorem prefix_get {A B : List (List Int)} (h : A <+: B) {i : Nat} (hi : i < A.length) : B.getD i [] = A.getD i [] ∧ i < B.length := by
  obtain ⟨t, rfl⟩ := h
  refine ⟨?_, by simp; omega⟩
  rw [List.getD_eq_getElem?_getD, List.getElem?_append_left hi, ← List.getD_eq_getElem?_getD]
/-- Whatever became of its shard, an entry is shown. -/
theorem shown {ws : List Win} (hw : (wrongWins ws).1 = 0) (l : List Dd) (h5 : ∀ d ∈ l, d.kind ≠ 5) {i : Nat} (hi : i < l.length) (hk : (l.getD i dd0).kind = 1) (he : ((runL (startL ws) l).2.getD i ans0).err = 0) :
    ∃ k p : Nat, (runL (startL ws) l).2.getD i ans0 = ⟨0, (k : Int), (p : Int), 0, []⟩ ∧ k < ws.length ∧ (((runL (startL ws) l).1.shards.getD k shd0).state ≠ 1 →
      (showL (runL (startL ws) l).1 k p).2 = 0 ∧ (showL (runL (startL ws) l).1 k p).1.entry = (l.getD i dd0).entry ∧ checkL (showL (runL (startL ws) l).1 k p).1 ((runL (startL ws) l).1.book.length : Int) (mth (rowsOf (runL (startL ws) l).1.book)) = true) := by
  have ha := run_ans (startL ws) l hi
  rw [ha] at he ⊢
  have hok := run_ok (start_ok ws) (l.take i)
  obtain ⟨k, p, e1, e2, e3, e4, e5, e6, e7⟩ := taken_step hk he
  have hkw : k < ws.length := by rw [← hok.len]; exact e3
  refine ⟨k, p, e1, hkw, fun hst => ?_⟩
  have hokF := run_ok (start_ok ws) l
  have hfin : (runL (startL ws) l).1 = (runL (stepL (runL (startL ws) (l.take i)).1 (l.getD i dd0)).1 (l.drop (i + 1))).1 := by
    have := runL_append (startL ws) (l.take (i + 1)) (l.drop (i + 1))
    rw [List.take_append_drop] at this
    rw [this, take_snoc_dd hi, runL_snoc]
  have hc := (run_clean (start_ok ws) (start_clean ws) (l.take i) (fun d hd => h5 d (List.mem_of_mem_take hd))).1
  have hmem : l.getD i dd0 ∈ l := by rw [List.getD_eq_getElem?_getD, List.getElem?_eq_getElem hi]; exact List.getElem_mem hi
  have hc1 := (step_clean hok hc (h5 _ hmem)).1
  have hpre := (run_clean (step_ok hok _) hc1 (l.drop (i + 1)) (fun d hd => h5 d (List.mem_of_mem_drop hd))).2 k
  rw [← hfin, content_open (by rw [e5]; decide)] at hpre
  obtain ⟨g1, g2⟩ := prefix_get hpre e6
  obtain ⟨-, -, c3, -, -, -⟩ := content_ok (hokF.each k hkw)
  obtain ⟨row, -, -, es, ec⟩ := show_right hw hokF hkw hst (i := p) (by rw [← c3]; omega)
  rw [es]
  exact ⟨rfl, by dsimp only; rw [g1, e7], ec⟩

end Go.Proofs.YtkjlchfmplcobafGreatDoor

/- Chapter 7's mathematics: who shows what was not taken; entries of two shards; a shard's size in the book; the book grew. -/
namespace Go.Proofs.YtkjlchfmplcobafGreatDoor

/-- The book grew. -/
theorem grew_book {ws : List Win} (hw : (wrongWins ws).1 = 0) (l : List Dd) (k : Nat) (h1 : 1 ≤ (runL (startL ws) (l.take k)).1.book.length) :
    grewL ((runL (startL ws) (l.take k)).1.book.length : Int) (mth (rowsOf (runL (startL ws) (l.take k)).1.book)) ((runL (startL ws) l).1.book.length : Int) (mth (rowsOf (runL (startL ws) l).1.book)) (proofL (rowsOf (runL (startL ws) l).1.book) (runL (startL ws) (l.take k)).1.book.length true) = true := by
  have hg := book_grows (startL ws) l k
  have hle : (runL (startL ws) (l.take k)).1.book.length ≤ (runL (startL ws) l).1.book.length := by
    have := congrArg List.length hg
    rw [List.length_take] at this
    omega
  have hf := book_few (run_ok (start_ok ws) l)
  have h8 := (wrongWins_ok hw).1
  have hrl := rows_length (runL (startL ws) l).1.book
  have := grew_proof (L := rowsOf (runL (startL ws) l).1.book) (m := (runL (startL ws) (l.take k)).1.book.length) h1 (by omega) (by omega)
  rw [← rows_take, ← hg, hrl] at this
  exact this
end Go.Proofs.YtkjlchfmplcobafGreatDoor

/- What the laws of chapter 2 ask of tree.Grows. -/
namespace Go.Proofs.YtkjlchfmplcobafGreatDoor
open Go.RowKit

def GrowsC : Prop := ∀ (L : List (List Int)) (m : Int) (a : Option Addr) (n c : Nat) (w : World), Ready w → Lists w a n c L →
  Calls Tryz.prog 44 #[.slice a n c, .int .i64 m] w fun e w' => ∃ xa xn xc, e = .returned (.tuple #[.slice xa xn xc, faultV (growF L m)]) ∧ ((growF L m).1 = 0 → OwnParts w' w.heap.size (.slice xa xn xc) (proofL L m.toNat true)) ∧ ((growF L m).1 ≠ 0 → xn = 0) ∧ Below w.heap.size w w'

end Go.Proofs.YtkjlchfmplcobafGreatDoor

/- What the laws of chapter 6 ask of package book's faces, as propositions: each is shown of the landed code elsewhere. Records in memory. -/
namespace Go.Proofs.YtkjlchfmplcobafGreatDoor
open Go.RowKit

/-- A record as the walks meet it. -/
def RecV (w : World) (v : Value) (r : Rec) : Prop := ∃ ra rc, v = .agg #[.int .i64 r.shard, .int .i64 r.from', .int .i64 r.to', .int .i64 r.size, .slice ra r.root.length rc] ∧ Some' w (.slice ra r.root.length rc) r.root
theorem RecV.below {w w' : World} {v : Value} {r : Rec} (h : RecV w v r) (hb : Below w.heap.size w w') : RecV w' v r := by
  obtain ⟨ra, rc, h1, h2⟩ := h
  exact ⟨ra, rc, h1, h2.below hb⟩
/-- A record's cells. -/
def RecCells (w : World) (b o : Nat) (r : Rec) : Prop := w.cell? ⟨b, o, none⟩ = some (.int .i64 r.shard) ∧ w.cell? ⟨b, o + 1, none⟩ = some (.int .i64 r.from') ∧ w.cell? ⟨b, o + 2, none⟩ = some (.int .i64 r.to') ∧ w.cell? ⟨b, o + 3, none⟩ = some (.int .i64 r.size) ∧
  ∃ ra rc, w.cell? ⟨b, o + 4, none⟩ = some (.slice ra r.root.length rc) ∧ Some' w (.slice ra r.root.length rc) r.root
theorem RecCells.below {w w' : World} {b o : Nat} {r : Rec} (h : RecCells w b o r) (hb : b < w.heap.size) (hw : Below w.heap.size w w') : RecCells w' b o r := by
  obtain ⟨h0, h1, h2, h3, ra, rc, h4, h5⟩ := h
  exact ⟨by rw [hw.cell (p := ⟨b, o, none⟩) hb]; exact h0, by rw [hw.cell (p := ⟨b, o + 1, none⟩) hb]; exact h1, by rw [hw.cell (p := ⟨b, o + 2, none⟩) hb]; exact h2, by rw [hw.cell (p := ⟨b, o + 3, none⟩) hb]; exact h3, ra, rc, by rw [hw.cell (p := ⟨b, o + 4, none⟩) hb]; exact h4, h5.below hw⟩
/-- Records as the walks meet them. -/
def RecsAt (w : World) (v : Value) (l : List Rec) : Prop :=
  ∃ a c, v = .slice a l.length c ∧ l.length ≤ c ∧ c ≤ maxLen ∧ (a = none → c = 0) ∧ (l.length = 0 ∨ ∃ b off, a = some ⟨b, off, none⟩ ∧ b < w.heap.size ∧ ∀ j, j < l.length → RecCells w b (off + j * 5) (l.getD j rec0))
theorem RecsAt.below {w w' : World} {v : Value} {l : List Rec} (h : RecsAt w v l) (hw : Below w.heap.size w w') : RecsAt w' v l := by
  obtain ⟨a, c, h1, h2, h3, h4, h5⟩ := h
  refine ⟨a, c, h1, h2, h3, h4, ?_⟩
  rcases h5 with h5 | ⟨b, off, h6, h7, h8⟩
  · exact .inl h5
  · exact .inr ⟨b, off, h6, Nat.lt_of_lt_of_le h7 hw.size, fun j hj => (h8 j hj).below h7 hw⟩
theorem RecsAt.bytes {w : World} {v : Value} {l : List Rec} (h : RecsAt w v l) (j : Nat) : Bytes (l.getD j rec0).root := by
  obtain ⟨a, c, -, -, -, -, h5⟩ := h
  by_cases hj : j < l.length
  · rcases h5 with h5 | ⟨b, off, -, -, h8⟩
    · omega
    · obtain ⟨-, -, -, -, ra, rc, -, h2⟩ := h8 j hj
      exact h2.bytes
  · rw [List.getD_eq_getElem?_getD, List.getElem?_eq_none (by omega)]; exact nil_bytes
theorem rows_bytes {l : List Rec} (h : (wrongRecs l).1 = 0) (hb : ∀ j, Bytes (l.getD j rec0).root) : ∀ j, Bytes ((rowsOf l).getD j []) := fun j => by
  by_cases hj : j < l.length
  · rw [rows_get hj]; exact row_bytes ((wrongRecs_ok h).2 j hj) (hb j)
  · rw [List.getD_eq_getElem?_getD, List.getElem?_eq_none (by rw [rows_length]; omega)]; exact nil_bytes
/-- What Head tells. -/
def bookSize (l : List Rec) : Int := if (wrongRecs l).1 ≠ 0 then 0 else (l.length : Int)
def bookRoot (l : List Rec) : List Int := if (wrongRecs l).1 ≠ 0 then [] else mth (rowsOf l)
/-- The faces. -/
def RecWrongC : Prop := ∀ (r : Rec) (v : Value) (w : World), RecV w v r →
  Calls Tryz.prog 56 #[v] w fun e w' => e = .returned (.int .i64 (wrongRec r)) ∧ Below w.heap.size w w'
def RecBytesC : Prop := ∀ (r : Rec) (v : Value) (w : World), RecV w v r →
  Calls Tryz.prog 21 #[v] w fun e w' => ∃ xa xn xc, e = .returned (.tuple #[.slice xa xn xc, .int .i64 (wrongRec r)]) ∧ w'.ownsRow w.heap.size 5 1 (.slice xa xn xc) xn ((bytesE r).map (Value.int .u8)) ∧ Below w.heap.size w w'
def BookHeadC : Prop := ∀ (l : List Rec) (lv : Value) (w : World), Ready w → RecsAt w lv l →
  Calls Tryz.prog 11 #[lv] w fun e w' => ∃ ra rc, e = .returned (.tuple #[.agg #[.int .i64 (bookSize l), .slice ra (bookRoot l).length rc], faultV (wrongRecs l)]) ∧ Some' w' (.slice ra (bookRoot l).length rc) (bookRoot l) ∧ Below w.heap.size w w'
def BookPathC : Prop := ∀ (l : List Rec) (row : Int) (lv : Value) (w : World), Ready w → RecsAt w lv l →
  Calls Tryz.prog 33 #[lv, .int .i64 row] w fun e w' => ∃ xa xn xc, e = .returned (.tuple #[.slice xa xn xc, faultV (bookPathF l row)]) ∧ ((bookPathF l row).1 = 0 → OwnParts w' w.heap.size (.slice xa xn xc) (pathL (rowsOf l) row.toNat)) ∧ ((bookPathF l row).1 ≠ 0 → xn = 0) ∧ Below w.heap.size w w'
def BookGrowsC : Prop := ∀ (l : List Rec) (m : Int) (lv : Value) (w : World), Ready w → RecsAt w lv l →
  Calls Tryz.prog 17 #[lv, .int .i64 m] w fun e w' => ∃ xa xn xc, e = .returned (.tuple #[.slice xa xn xc, faultV (bookGrowF l m)]) ∧ ((bookGrowF l m).1 = 0 → OwnParts w' w.heap.size (.slice xa xn xc) (proofL (rowsOf l) m.toNat true)) ∧ ((bookGrowF l m).1 ≠ 0 → xn = 0) ∧ Below w.heap.size w w'

end Go.Proofs.YtkjlchfmplcobafGreatDoor
