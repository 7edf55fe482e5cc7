/- FleetShowM, ClashFace, FleetKeepM, FleetTakenM, BookFace, ShelfFace, FleetFace, BookRefRec, as one text. -/
import Derived.Test.YtkjlchfmplcobaeGreatDoorRunAB
import Derived.Test.YtkjlchfmplcobaeGreatDoorProg
import Derived.Test.YtkjlchfmplcobaeGreatDoorRunAS
import Derived.Test.YtkjlchfmplcobaeGreatDoorRunAK
import Derived.WalkKit
import Derived.WalkSpells
import Derived.WalkLawsBesides
import Derived.Test.YtkjlchfmplcobaeGreatDoorRunAI
import Derived.Test.YtkjlchfmplcobaeGreatDoorRunAT
import Derived.Test.YtkjlchfmplcobaeGreatDoorPackTake
/- Chapter 7's mathematics: what is shown. -/
namespace Go.Proofs.YtkjlchfmplcobaeGreatDoor

structure Shw where
  entry : List Int
  place : Int
  shard : Int
  path : List (List Int)
  rcd : Rec
  row : Int
  bookPath : List (List Int)
  hsize : Int
  hroot : List Int
def shw0 : Shw := ⟨[], 0, 0, [], rec0, 0, [], 0, []⟩
/-- A shard's row in the book. -/
def rowOf (b : List Rec) (k : Int) : Option Nat := (List.range b.length).find? (fun j => decide ((b.getD j rec0).shard = k))
/-- A shard's entries, or those that are laid away, or what is wrong with these. -/
def contentL (s : Shd) : List (List Int) × Int := if s.state = 4 then ((verifyL s.man).1, (verifyL s.man).2.1) else (s.entries, 0)
def showL (f : Flt) (k i : Int) : Shw × Int :=
  if k < 0 ∨ (f.shards.length : Int) ≤ k then (shw0, 6) else
  match rowOf f.book k with
  | none => (shw0, 8)
  | some row =>
    if (contentL (f.shards.getD k.toNat shd0)).2 ≠ 0 then (shw0, (contentL (f.shards.getD k.toNat shd0)).2) else
    if (pathF (contentL (f.shards.getD k.toNat shd0)).1 i).1 ≠ 0 then (shw0, (pathF (contentL (f.shards.getD k.toNat shd0)).1 i).1) else
    if (wrongRecs f.book).1 ≠ 0 then (shw0, (wrongRecs f.book).1) else
    (⟨(contentL (f.shards.getD k.toNat shd0)).1.getD i.toNat [], i, k, pathL (contentL (f.shards.getD k.toNat shd0)).1 i.toNat, f.book.getD row rec0, (row : Int), pathL (rowsOf f.book) row, (f.book.length : Int), mth (rowsOf f.book)⟩, 0)
def checkL (s : Shw) (hs : Int) (hr : List Int) : Bool :=
  decide (wrongRec s.rcd = 0) && (decide (s.rcd.shard = s.shard) && (decide (s.hsize = hs ∧ s.hroot = hr) && (standsL s.rcd.size s.rcd.root s.entry s.place s.path && standsL hs hr (rowL s.rcd) s.row s.bookPath)))
theorem content_ok {w : Win} {s : Shd} (h : ShdOk w s) : (contentL s).2 = 0 ∧ wrongL (contentL s).1 = (0, 0) ∧ ((contentL s).1.length : Int) = (headOf s).1 ∧ mth (contentL s).1 = (headOf s).2 ∧ (contentL s).1.length ≤ 100 ∧ ∀ j, ((contentL s).1.getD j []).length ≤ 200 := by
  unfold contentL headOf
  by_cases h4 : s.state = 4
  · rw [if_pos h4, if_pos h4]
    have hv := h.ver4 h4
    obtain ⟨e, -, -, hr⟩ := verify_spec hv
    have hf := verify_few (m := s.man)
    have hu := upTo_all hv
    have hg : ∀ j, ((verifyL s.man).1.getD j []).length ≤ 200 := fun j => by
      by_cases hj : j < (verifyL s.man).1.length
      · rw [List.getD_eq_getElem?_getD, List.getElem?_eq_getElem hj]; exact hf.2 _ (List.getElem_mem hj)
      · rw [List.getD_eq_getElem?_getD, List.getElem?_eq_none (by omega)]; simp
    exact ⟨hv, wrong_zero hf.1 hg, by rw [e]; exact hu.1, by rw [e]; exact hr, hf.1, hg⟩
  · rw [if_neg h4, if_neg h4]
    have hg : ∀ j, (s.entries.getD j []).length ≤ 200 := fun j => by
      by_cases hj : j < s.entries.length
      · rw [List.getD_eq_getElem?_getD, List.getElem?_eq_getElem hj]; exact h.short _ (List.getElem_mem hj)
      · rw [List.getD_eq_getElem?_getD, List.getElem?_eq_none (by omega)]; simp
    exact ⟨rfl, wrong_entries h, rfl, rfl, h.few, hg⟩
/-- A shard that is not open has its row. -/
theorem row_some {ws : List Win} {f : Flt} (h : FltOk ws f) {k : Nat} (hk : k < ws.length) (h1 : (f.shards.getD k shd0).state ≠ 1) : ∃ j, rowOf f.book (k : Int) = some j ∧ j < f.book.length ∧ f.book.getD j rec0 = recOf k (f.shards.getD k shd0) := by
  obtain ⟨j, hj, e⟩ := h.all k hk h1
  refine ⟨j, find_range hj (decide_eq_true e) (fun i hi => decide_eq_false (fun g => ?_)), hj, ?_⟩
  · have := h.once i j (by omega) hj (g.trans e.symm); omega
  · obtain ⟨q, hq1, -, hq3⟩ := h.inb j hj
    rw [hq3] at e
    have : q = k := by have e' : (q : Int) = (k : Int) := e; omega
    subst this
    exact hq3
theorem show_right {ws : List Win} {f : Flt} (hw : (wrongWins ws).1 = 0) (h : FltOk ws f) {k i : Nat} (hk : k < ws.length) (h1 : (f.shards.getD k shd0).state ≠ 1) (hi : (i : Int) < (headOf (f.shards.getD k shd0)).1) :
    ∃ row, row < f.book.length ∧ f.book.getD row rec0 = recOf k (f.shards.getD k shd0) ∧ showL f k i = (⟨(contentL (f.shards.getD k shd0)).1.getD i [], (i : Int), (k : Int), pathL (contentL (f.shards.getD k shd0)).1 i, recOf k (f.shards.getD k shd0), (row : Int), pathL (rowsOf f.book) row, (f.book.length : Int), mth (rowsOf f.book)⟩, 0) ∧
      checkL ⟨(contentL (f.shards.getD k shd0)).1.getD i [], (i : Int), (k : Int), pathL (contentL (f.shards.getD k shd0)).1 i, recOf k (f.shards.getD k shd0), (row : Int), pathL (rowsOf f.book) row, (f.book.length : Int), mth (rowsOf f.book)⟩ (f.book.length : Int) (mth (rowsOf f.book)) = true := by
  obtain ⟨row, hr1, hr2, hr3⟩ := row_some h hk h1
  obtain ⟨c1, c2, c3, c4, c5, c6⟩ := content_ok (h.each k hk)
  have hb := book_right hw h
  have hb0 : (wrongRecs f.book).1 = 0 := by rw [hb]
  have hf := book_few h
  have h8 := (wrongWins_ok hw).1
  refine ⟨row, hr2, hr3, ?_, ?_⟩
  · unfold showL
    rw [if_neg (by rw [h.len]; omega), hr1]
    dsimp only
    rw [Int.toNat_natCast, if_neg (fun g => g c1)]
    have hp : pathF (contentL (f.shards.getD k shd0)).1 (i : Int) = (0, 0) := by unfold pathF; rw [c2, if_neg (fun g => g rfl), if_neg (by rw [c3]; omega)]
    rw [hp, if_neg (fun g => g rfl), if_neg (fun g => g hb0), Int.toNat_natCast, hr3]
  · unfold checkL
    dsimp only
    have hwr := (wrongRecs_ok hb0).2 row hr2
    rw [hr3] at hwr
    have hrl := rows_length f.book
    have hs1 := stands_path (L := (contentL (f.shards.getD k shd0)).1) (i := i) c5 (by omega) (c6 i)
    rw [c3, c4] at hs1
    have hs2 := stands_path (L := rowsOf f.book) (i := row) (by omega) (by omega) (rows_short hb0 row)
    rw [rows_get hr2, hr3, hrl] at hs2
    rw [decide_eq_true hwr, decide_eq_true (show (recOf k (f.shards.getD k shd0)).shard = (k : Int) from rfl), decide_eq_true ⟨rfl, rfl⟩, hs2]
    show (true && (true && (true && (standsL (headOf (f.shards.getD k shd0)).1 (headOf (f.shards.getD k shd0)).2 _ _ _ && true)))) = true
    rw [hs1]
    rfl
/-- A shard that is retired stays as it is. -/
theorem retired_step {f : Flt} (d : Dd) {k : Nat} (h4 : (f.shards.getD k shd0).state = 4) : (stepL f d).1.shards.getD k shd0 = f.shards.getD k shd0 := by
  have key : ∀ (q : Nat) (s : Shd), (f.shards.getD q shd0).state ≠ 4 → (f.shards.set q s).getD k shd0 = f.shards.getD k shd0 := fun q s hq => by
    by_cases e : q = k
    · subst e; exact absurd h4 hq
    · exact getD_set_other e
  by_cases he : (stepL f d).2.err ≠ 0
  · rw [step_refused he]
  revert he
  unfold stepL
  by_cases h1 : d.kind = 1
  · rw [if_pos h1]
    unfold submitL
    by_cases h200 : 200 < d.entry.length
    · rw [if_pos h200]; exact fun _ => rfl
    rw [if_neg h200]
    cases hh : homeOf f.shards d.time with
    | none => exact fun _ => rfl
    | some q =>
      dsimp only
      by_cases h1 : (f.shards.getD q shd0).state ≠ 1
      · rw [if_pos h1]; exact fun _ => rfl
      rw [if_neg h1]
      cases hp : placeOf (f.shards.getD q shd0).entries d.entry with
      | some i => exact fun _ => rfl
      | none =>
        dsimp only
        by_cases h100 : 100 ≤ (f.shards.getD q shd0).entries.length
        · rw [if_pos h100]; exact fun _ => rfl
        rw [if_neg h100]
        exact fun _ => key q _ (by omega)
  rw [if_neg h1]
  by_cases h2 : d.kind < 2 ∨ 5 < d.kind
  · rw [if_pos h2]; exact fun _ => rfl
  rw [if_neg h2]
  by_cases h3 : d.n < 0 ∨ (f.shards.length : Int) ≤ d.n
  · rw [if_pos h3]; exact fun _ => rfl
  rw [if_neg h3]
  by_cases h4' : (f.shards.getD d.n.toNat shd0).state ≠ wantL d.kind
  · rw [if_pos h4']; exact fun _ => rfl
  rw [if_neg h4']
  have hne : (f.shards.getD d.n.toNat shd0).state ≠ 4 := by
    have : wantL d.kind ≤ 3 := by unfold wantL; split; omega; split <;> omega
    omega
  unfold stepAt
  dsimp only
  by_cases k2 : d.kind = 2
  · rw [if_pos k2]; exact fun _ => key _ _ hne
  rw [if_neg k2]
  by_cases k3 : d.kind = 3
  · rw [if_pos k3]
    by_cases hw : (wrongL (f.shards.getD d.n.toNat shd0).entries).1 ≠ 0
    · rw [if_pos hw]; exact fun _ => rfl
    · rw [if_neg hw]; exact fun _ => key _ _ hne
  rw [if_neg k3]
  by_cases k4 : d.kind = 4
  · rw [if_pos k4]
    by_cases hv : (verifyL (f.shards.getD d.n.toNat shd0).man).2.1 ≠ 0
    · rw [if_pos hv]; exact fun _ => rfl
    · rw [if_neg hv]; exact fun _ => key _ _ hne
  rw [if_neg k4]
  by_cases h5 : d.segment < 0 ∨ ((f.shards.getD d.n.toNat shd0).man.segs.length : Int) ≤ d.segment
  · rw [if_pos h5]; exact fun _ => rfl
  rw [if_neg h5]
  by_cases h6 : d.at' < 0 ∨ (((f.shards.getD d.n.toNat shd0).man.segs.getD d.segment.toNat seg0).packed.length : Int) ≤ d.at'
  · rw [if_pos h6]; exact fun _ => rfl
  rw [if_neg h6]
  exact fun _ => key _ _ hne
theorem retired_run {f : Flt} (l : List Dd) {k : Nat} (h4 : (f.shards.getD k shd0).state = 4) : (runL f l).1.shards.getD k shd0 = f.shards.getD k shd0 := by
  induction l generalizing f with
  | nil => rfl
  | cons d ds ih =>
    have e := retired_step d h4
    show (runL (stepL f d).1 ds).1.shards.getD k shd0 = _
    rw [ih (by rw [e]; exact h4), e]

end Go.Proofs.YtkjlchfmplcobaeGreatDoor

/- What the laws of chapter 3 ask of package clash's faces, as propositions: each is shown of the landed code elsewhere; and the walk of yearlaw3.two. -/
namespace Go.Proofs.YtkjlchfmplcobaeGreatDoor
open Go.RowKit

/-- Another leaf than that which is there is shown. -/
def clashS (L : List (List Int)) (b : List Int) (i : Int) (p : List (List Int)) : Bool := decide ((wrongL L).1 = 0) && standsL L.length (mth L) b i p && decide (L.getD i.toNat [] ≠ b)
end Go.Proofs.YtkjlchfmplcobaeGreatDoor

/- Chapter 7's mathematics: nothing is lost by retiring; the book only grows; entries stay. -/
namespace Go.Proofs.YtkjlchfmplcobaeGreatDoor

/-- What a step that retires a shard came upon, and what it left. -/
theorem retire_step {f : Flt} {d : Dd} (hk : d.kind = 4) (he : (stepL f d).2.err = 0) : 0 ≤ d.n ∧ d.n < f.shards.length ∧ (f.shards.getD d.n.toNat shd0).state = 3 ∧ (verifyL (f.shards.getD d.n.toNat shd0).man).2.1 = 0 ∧
    (stepL f d).1.shards.getD d.n.toNat shd0 = { (f.shards.getD d.n.toNat shd0) with state := 4, entries := [] } := by
  revert he
  unfold stepL
  rw [if_neg (by omega), if_neg (by omega)]
  by_cases h3 : d.n < 0 ∨ (f.shards.length : Int) ≤ d.n
  · rw [if_pos h3]; exact fun h => absurd (show (6 : Int) = 0 from h) (by decide)
  rw [if_neg h3]
  by_cases h4 : (f.shards.getD d.n.toNat shd0).state ≠ wantL d.kind
  · rw [if_pos h4]; exact fun h => absurd (show (7 : Int) = 0 from h) (by decide)
  rw [if_neg h4]
  have hst : (f.shards.getD d.n.toNat shd0).state = 3 := by
    have : (f.shards.getD d.n.toNat shd0).state = wantL d.kind := by simpa using h4
    rw [this, hk]; rfl
  unfold stepAt
  dsimp only
  rw [if_neg (by omega), if_neg (by omega), if_pos hk]
  by_cases hv : (verifyL (f.shards.getD d.n.toNat shd0).man).2.1 ≠ 0
  · rw [if_pos hv]; exact fun h => absurd h hv
  · rw [if_neg hv]
    refine fun _ => ⟨by omega, by omega, hst, by simpa using hv, ?_⟩
    exact getD_set_same (by omega)
theorem spoilt_clash7 {L X : List (List Int)} {i : Nat} (hw : (wrongL L).1 = 0) (h100 : L.length ≤ 100) (hl : X.length = L.length) (h200 : ∀ j, (X.getD j []).length ≤ 200) (hm : mth X = mth L) (hi : i < L.length) (hne : X.getD i [] ≠ L.getD i []) : clashS L (X.getD i []) i (pathL X i) = true := by
  have h1 := stands_path (L := X) (i := i) (by omega) (by omega) (h200 i)
  rw [hl, hm] at h1
  unfold clashS
  rw [decide_eq_true hw, h1, Int.toNat_natCast, decide_eq_true (show L.getD i [] ≠ X.getD i [] from fun e => hne e.symm)]
  rfl
/-- Nothing is lost by retiring. -/
theorem keeps {ws : List Win} (hw : (wrongWins ws).1 = 0) (l : List Dd) {i : Nat} (hi : i < l.length) (hk : (l.getD i dd0).kind = 4) (he : ((runL (startL ws) l).2.getD i ans0).err = 0) :
    ∃ n : Nat, (l.getD i dd0).n = (n : Int) ∧ n < ws.length ∧ ((runL (startL ws) l).1.shards.getD n shd0).entries = [] ∧
    ∀ j, j < ((runL (startL ws) (l.take i)).1.shards.getD n shd0).entries.length → (showL (runL (startL ws) l).1 n j).2 = 0 ∧
      ((showL (runL (startL ws) l).1 n j).1.entry ≠ ((runL (startL ws) (l.take i)).1.shards.getD n shd0).entries.getD j [] → clashS ((runL (startL ws) (l.take i)).1.shards.getD n shd0).entries (showL (runL (startL ws) l).1 n j).1.entry j (showL (runL (startL ws) l).1 n j).1.path = true) := by
  rw [run_ans _ _ hi] at he
  have hok := run_ok (start_ok ws) (l.take i)
  obtain ⟨h0, h1, h3, hv, hnew⟩ := retire_step hk he
  obtain ⟨n, hn⟩ := Int.eq_ofNat_of_zero_le h0
  rw [hn, Int.toNat_natCast] at h3 hv hnew
  have hn' : n < ws.length := by rw [← hok.len]; omega
  have hs := hok.each n hn'
  -- the run goes on from behind the step
  have hl : l = l.take (i + 1) ++ l.drop (i + 1) := (List.take_append_drop (i + 1) l).symm
  have hfin : (runL (startL ws) l).1 = (runL (stepL (runL (startL ws) (l.take i)).1 (l.getD i dd0)).1 (l.drop (i + 1))).1 := by
    have := runL_append (startL ws) (l.take (i + 1)) (l.drop (i + 1))
    rw [List.take_append_drop] at this
    rw [this, take_snoc_dd hi, runL_snoc]
  have hshard : (runL (startL ws) l).1.shards.getD n shd0 = { ((runL (startL ws) (l.take i)).1.shards.getD n shd0) with state := 4, entries := [] } := by
    rw [hfin, retired_run _ (by rw [hnew]), hnew]
  have hokF := run_ok (start_ok ws) l
  refine ⟨n, hn, hn', by rw [hshard], fun j hj => ?_⟩
  have hst : ((runL (startL ws) l).1.shards.getD n shd0).state = 4 := by rw [hshard]
  obtain ⟨e1, e2⟩ := hs.head3 h3
  have hhead : headOf ((runL (startL ws) l).1.shards.getD n shd0) = ((((runL (startL ws) (l.take i)).1.shards.getD n shd0).entries.length : Int), mth ((runL (startL ws) (l.take i)).1.shards.getD n shd0).entries) := by
    unfold headOf; rw [if_pos hst, hshard]; dsimp only; rw [e1, e2]
  obtain ⟨row, -, -, e, -⟩ := show_right hw hokF hn' (i := j) (by rw [hst]; decide) (by rw [hhead]; show (j : Int) < (_ : Int); omega)
  rw [e]
  refine ⟨rfl, fun hne => ?_⟩
  dsimp only at hne ⊢
  obtain ⟨-, -, c3, c4, -, c6⟩ := content_ok (hokF.each n hn')
  rw [hhead] at c3 c4
  dsimp only at c3 c4
  exact spoilt_clash7 (by rw [wrong_entries hs]) hs.few (by omega) c6 c4 hj hne
end Go.Proofs.YtkjlchfmplcobaeGreatDoor

/- Chapter 7's mathematics: what was taken stays, where nothing was spoilt. -/
namespace Go.Proofs.YtkjlchfmplcobaeGreatDoor

/-- Nothing of a shard was spoilt. -/
structure CleanS (s : Shd) : Prop where
  c3 : s.state = 3 → s.man = exportL s.entries
  c4 : s.state = 4 → ∃ L : List (List Int), L.length ≤ 100 ∧ (∀ e ∈ L, e.length ≤ 200) ∧ s.man = ⟨L.length, mth L, segsL L⟩
def CleanF (f : Flt) : Prop := ∀ k, k < f.shards.length → CleanS (f.shards.getD k shd0)
theorem start_clean (ws : List Win) : CleanF (startL ws) := fun k hk => by
  have hk' : k < ws.length := by simpa [startL] using hk
  rw [wins_get ws hk']
  exact ⟨fun h => absurd (show (1 : Int) = 3 from h) (by decide), fun h => absurd (show (1 : Int) = 4 from h) (by decide)⟩
theorem export_form {w : Win} {s : Shd} (h : ShdOk w s) : exportL s.entries = ⟨s.entries.length, mth s.entries, segsL s.entries⟩ := by
  unfold exportL; rw [wrong_entries h, if_neg (fun g => g rfl)]
theorem content_open {s : Shd} (h : s.state ≠ 4) : (contentL s).1 = s.entries := by unfold contentL; rw [if_neg h]
theorem content_laid {s : Shd} {L : List (List Int)} (h : s.state = 4) (h1 : L.length ≤ 100) (h2 : ∀ e ∈ L, e.length ≤ 200) (hm : s.man = ⟨L.length, mth L, segsL L⟩) : (contentL s).1 = L := by
  unfold contentL; rw [if_pos h, hm, verify_export h1 h2]
/-- A shard in another's place. -/
theorem clean_put {f : Flt} (hc : CleanF f) {k : Nat} (hk : k < f.shards.length) {s : Shd} (hs : CleanS s) (hp : (contentL (f.shards.getD k shd0)).1 <+: (contentL s).1) (b : List Rec) :
    CleanF ⟨f.shards.set k s, b⟩ ∧ ∀ j, (contentL (f.shards.getD j shd0)).1 <+: (contentL ((f.shards.set k s).getD j shd0)).1 := by
  refine ⟨fun j hj => ?_, fun j => ?_⟩
  · have hj' : j < f.shards.length := by simpa using hj
    dsimp only
    by_cases e : k = j
    · subst e; rw [getD_set_same hk]; exact hs
    · rw [getD_set_other e]; exact hc j hj'
  · by_cases e : k = j
    · subst e; rw [getD_set_same hk]; exact hp
    · rw [getD_set_other e]; exact List.prefix_refl _
theorem step_clean {ws : List Win} {f : Flt} (h : FltOk ws f) (hc : CleanF f) {d : Dd} (h5 : d.kind ≠ 5) : CleanF (stepL f d).1 ∧ ∀ j, (contentL (f.shards.getD j shd0)).1 <+: (contentL ((stepL f d).1.shards.getD j shd0)).1 := by
  have same : CleanF f ∧ ∀ j, (contentL (f.shards.getD j shd0)).1 <+: (contentL (f.shards.getD j shd0)).1 := ⟨hc, fun _ => List.prefix_refl _⟩
  unfold stepL
  by_cases h1 : d.kind = 1
  · rw [if_pos h1]
    unfold submitL
    by_cases h200 : 200 < d.entry.length
    · rw [if_pos h200]; exact same
    rw [if_neg h200]
    cases hh : homeOf f.shards d.time with
    | none => exact same
    | some k =>
      obtain ⟨hk, -, -⟩ := home_some hh
      dsimp only
      by_cases h1 : (f.shards.getD k shd0).state ≠ 1
      · rw [if_pos h1]; exact same
      rw [if_neg h1]
      have h1' : (f.shards.getD k shd0).state = 1 := by omega
      cases hp : placeOf (f.shards.getD k shd0).entries d.entry with
      | some i => exact same
      | none =>
        dsimp only
        by_cases h100 : 100 ≤ (f.shards.getD k shd0).entries.length
        · rw [if_pos h100]; exact same
        rw [if_neg h100]
        refine clean_put hc hk (s := { (f.shards.getD k shd0) with entries := (f.shards.getD k shd0).entries ++ [d.entry] }) ⟨fun g => absurd (h1'.symm.trans g) (by decide), fun g => absurd (h1'.symm.trans g) (by decide)⟩ ?_ _
        rw [content_open (by rw [h1']; decide), content_open (by show (f.shards.getD k shd0).state ≠ 4; rw [h1']; decide)]
        exact List.prefix_append _ _
  rw [if_neg h1]
  by_cases h2 : d.kind < 2 ∨ 5 < d.kind
  · rw [if_pos h2]; exact same
  rw [if_neg h2]
  by_cases h3 : d.n < 0 ∨ (f.shards.length : Int) ≤ d.n
  · rw [if_pos h3]; exact same
  rw [if_neg h3]
  by_cases h4 : (f.shards.getD d.n.toNat shd0).state ≠ wantL d.kind
  · rw [if_pos h4]; exact same
  rw [if_neg h4]
  have hkl : d.n.toNat < f.shards.length := by omega
  have hkw : d.n.toNat < ws.length := by rw [← h.len]; exact hkl
  generalize d.n.toNat = k at *
  have hst : (f.shards.getD k shd0).state = wantL d.kind := by simpa using h4
  have hs := h.each k hkw
  unfold stepAt
  dsimp only
  by_cases k2 : d.kind = 2
  · rw [if_pos k2]
    have hst1 : (f.shards.getD k shd0).state = 1 := by rw [hst, k2]; rfl
    refine clean_put hc hkl ⟨fun g => absurd (show (2 : Int) = 3 from g) (by decide), fun g => absurd (show (2 : Int) = 4 from g) (by decide)⟩ ?_ _
    rw [content_open (by rw [hst1]; decide), content_open (by show (2 : Int) ≠ 4; decide)]
    exact List.prefix_refl _
  rw [if_neg k2]
  by_cases k3 : d.kind = 3
  · rw [if_pos k3]
    have hst2 : (f.shards.getD k shd0).state = 2 := by rw [hst, k3]; rfl
    rw [if_neg (by rw [wrong_entries hs]; exact fun g => g rfl)]
    refine clean_put hc hkl ⟨fun _ => rfl, fun g => absurd (show (3 : Int) = 4 from g) (by decide)⟩ ?_ _
    rw [content_open (by rw [hst2]; decide), content_open (by show (3 : Int) ≠ 4; decide)]
    exact List.prefix_refl _
  rw [if_neg k3]
  have k4 : d.kind = 4 := by omega
  have hst3 : (f.shards.getD k shd0).state = 3 := by rw [hst, k4]; rfl
  rw [if_pos k4]
  by_cases hv : (verifyL (f.shards.getD k shd0).man).2.1 ≠ 0
  · rw [if_pos hv]; exact same
  rw [if_neg hv]
  have hm := ((hc k hkl).c3 hst3).trans (export_form hs)
  refine clean_put hc hkl (s := { (f.shards.getD k shd0) with state := 4, entries := [] }) ⟨fun g => absurd (show (4 : Int) = 3 from g) (by decide), fun _ => ⟨_, hs.few, hs.short, hm⟩⟩ ?_ _
  rw [content_open (by rw [hst3]; decide), content_laid (s := { (f.shards.getD k shd0) with state := 4, entries := [] }) rfl hs.few hs.short hm]
  exact List.prefix_refl _
theorem run_clean {ws : List Win} {f : Flt} (h : FltOk ws f) (hc : CleanF f) (l : List Dd) (h5 : ∀ d ∈ l, d.kind ≠ 5) : CleanF (runL f l).1 ∧ ∀ j, (contentL (f.shards.getD j shd0)).1 <+: (contentL ((runL f l).1.shards.getD j shd0)).1 := by
  induction l generalizing f with
  | nil => exact ⟨hc, fun _ => List.prefix_refl _⟩
  | cons d ds ih =>
    obtain ⟨h1, h2⟩ := step_clean h hc (h5 d (by simp))
    obtain ⟨h3, h4⟩ := ih (step_ok h d) h1 (fun x hx => h5 x (by simp [hx]))
    exact ⟨h3, fun j => (h2 j).trans (h4 j)⟩
/-- What a step that took an entry tells. -/
theorem taken_step {f : Flt} {d : Dd} (hk : d.kind = 1) (he : (stepL f d).2.err = 0) : ∃ k p : Nat, (stepL f d).2 = ⟨0, (k : Int), (p : Int), 0, []⟩ ∧ homeOf f.shards d.time = some k ∧ k < f.shards.length ∧ (f.shards.getD k shd0).state = 1 ∧ ((stepL f d).1.shards.getD k shd0).state = 1 ∧
    p < ((stepL f d).1.shards.getD k shd0).entries.length ∧ ((stepL f d).1.shards.getD k shd0).entries.getD p [] = d.entry := by
  revert he
  unfold stepL
  rw [if_pos hk]
  unfold submitL
  by_cases h200 : 200 < d.entry.length
  · rw [if_pos h200]; exact fun h => absurd (show (4 : Int) = 0 from h) (by decide)
  rw [if_neg h200]
  cases hh : homeOf f.shards d.time with
  | none => exact fun h => absurd (show (6 : Int) = 0 from h) (by decide)
  | some k =>
    obtain ⟨hkl, -, -⟩ := home_some hh
    dsimp only
    by_cases h1 : (f.shards.getD k shd0).state ≠ 1
    · rw [if_pos h1]; exact fun h => absurd (show (8 : Int) = 0 from h) (by decide)
    rw [if_neg h1]
    have h1' : (f.shards.getD k shd0).state = 1 := by omega
    cases hp : placeOf (f.shards.getD k shd0).entries d.entry with
    | some i =>
      obtain ⟨g1, g2⟩ := place_some hp
      exact fun _ => ⟨k, i, rfl, rfl, hkl, h1', h1', g1, g2⟩
    | none =>
      dsimp only
      by_cases h100 : 100 ≤ (f.shards.getD k shd0).entries.length
      · rw [if_pos h100]; exact fun h => absurd (show (5 : Int) = 0 from h) (by decide)
      rw [if_neg h100]
      refine fun _ => ⟨k, (f.shards.getD k shd0).entries.length, rfl, rfl, hkl, h1', ?_, ?_, ?_⟩
      · show ((f.shards.set k _).getD k shd0).state = 1
        rw [getD_set_same hkl]; exact h1'
      · show _ < ((f.shards.set k _).getD k shd0).entries.length
        rw [getD_set_same hkl]
        simp
      · show ((f.shards.set k _).getD k shd0).entries.getD _ [] = _
        rw [getD_set_same hkl]
        dsimp only
        rw [snoc_get, if_neg (Nat.lt_irrefl _), if_pos rfl]
theorem prefix_get {A B : List (List Int)} (h : A <+: B) {i : Nat} (hi : i < A.length) : B.getD i [] = A.getD i [] ∧ i < B.length := by
  obtain ⟨t, rfl⟩ := h
  refine ⟨?_, by simp; omega⟩
  rw [List.getD_eq_getElem?_getD, List.getElem?_append_left hi, ← List.getD_eq_getElem?_getD]
/-- Whatever became of its shard, an entry is shown. -/
theorem shown {ws : List Win} (hw : (wrongWins ws).1 = 0) (l : List Dd) (h5 : ∀ d ∈ l, d.kind ≠ 5) {i : Nat} (hi : i < l.length) (hk : (l.getD i dd0).kind = 1) (he : ((runL (startL ws) l).2.getD i ans0).err = 0) :
    ∃ k p : Nat, (runL (startL ws) l).2.getD i ans0 = ⟨0, (k : Int), (p : Int), 0, []⟩ ∧ k < ws.length ∧ (((runL (startL ws) l).1.shards.getD k shd0).state ≠ 1 →
      (showL (runL (startL ws) l).1 k p).2 = 0 ∧ (showL (runL (startL ws) l).1 k p).1.entry = (l.getD i dd0).entry ∧ checkL (showL (runL (startL ws) l).1 k p).1 ((runL (startL ws) l).1.book.length : Int) (mth (rowsOf (runL (startL ws) l).1.book)) = true) := by
  have ha := run_ans (startL ws) l hi
  rw [ha] at he ⊢
  have hok := run_ok (start_ok ws) (l.take i)
  obtain ⟨k, p, e1, e2, e3, e4, e5, e6, e7⟩ := taken_step hk he
  have hkw : k < ws.length := by rw [← hok.len]; exact e3
  refine ⟨k, p, e1, hkw, fun hst => ?_⟩
  have hokF := run_ok (start_ok ws) l
  have hfin : (runL (startL ws) l).1 = (runL (stepL (runL (startL ws) (l.take i)).1 (l.getD i dd0)).1 (l.drop (i + 1))).1 := by
    have := runL_append (startL ws) (l.take (i + 1)) (l.drop (i + 1))
    rw [List.take_append_drop] at this
    rw [this, take_snoc_dd hi, runL_snoc]
  have hc := (run_clean (start_ok ws) (start_clean ws) (l.take i) (fun d hd => h5 d (List.mem_of_mem_take hd))).1
  have hmem : l.getD i dd0 ∈ l := by rw [List.getD_eq_getElem?_getD, List.getElem?_eq_getElem hi]; exact List.getElem_mem hi
  have hc1 := (step_clean hok hc (h5 _ hmem)).1
  have hpre := (run_clean (step_ok hok _) hc1 (l.drop (i + 1)) (fun d hd => h5 d (List.mem_of_mem_drop hd))).2 k
  rw [← hfin, content_open (by rw [e5]; decide)] at hpre
  obtain ⟨g1, g2⟩ := prefix_get hpre e6
  obtain ⟨-, -, c3, -, -, -⟩ := content_ok (hokF.each k hkw)
  obtain ⟨row, -, -, es, ec⟩ := show_right hw hokF hkw hst (i := p) (by rw [← c3]; omega)
  rw [es]
  exact ⟨rfl, by dsimp only; rw [g1, e7], ec⟩

end Go.Proofs.YtkjlchfmplcobaeGreatDoor

/- What the laws of chapter 6 ask of package book's faces, as propositions: each is shown of the landed code elsewhere. Records in memory. -/
namespace Go.Proofs.YtkjlchfmplcobaeGreatDoor
open Go.RowKit

/-- A record as the walks meet it. -/
def RecV (w : World) (v : Value) (r : Rec) : Prop := ∃ ra rc, v = .agg #[.int .i64 r.shard, .int .i64 r.from', .int .i64 r.to', .int .i64 r.size, .slice ra r.root.length rc] ∧ Some' w (.slice ra r.root.length rc) r.root
theorem RecV.below {w w' : World} {v : Value} {r : Rec} (h : RecV w v r) (hb : Below w.heap.size w w') : RecV w' v r := by
  obtain ⟨ra, rc, h1, h2⟩ := h
  exact ⟨ra, rc, h1, h2.below hb⟩
/-- A record's cells. -/
def RecCells (w : World) (b o : Nat) (r : Rec) : Prop := w.cell? ⟨b, o, none⟩ = some (.int .i64 r.shard) ∧ w.cell? ⟨b, o + 1, none⟩ = some (.int .i64 r.from') ∧ w.cell? ⟨b, o + 2, none⟩ = some (.int .i64 r.to') ∧ w.cell? ⟨b, o + 3, none⟩ = some (.int .i64 r.size) ∧
  ∃ ra rc, w.cell? ⟨b, o + 4, none⟩ = some (.slice ra r.root.length rc) ∧ Some' w (.slice ra r.root.length rc) r.root
theorem RecCells.below {w w' : World} {b o : Nat} {r : Rec} (h : RecCells w b o r) (hb : b < w.heap.size) (hw : Below w.heap.size w w') : RecCells w' b o r := by
  obtain ⟨h0, h1, h2, h3, ra, rc, h4, h5⟩ := h
  exact ⟨by rw [hw.cell (p := ⟨b, o, none⟩) hb]; exact h0, by rw [hw.cell (p := ⟨b, o + 1, none⟩) hb]; exact h1, by rw [hw.cell (p := ⟨b, o + 2, none⟩) hb]; exact h2, by rw [hw.cell (p := ⟨b, o + 3, none⟩) hb]; exact h3, ra, rc, by rw [hw.cell (p := ⟨b, o + 4, none⟩) hb]; exact h4, h5.below hw⟩
/-- Records as the walks meet them. -/
def RecsAt (w : World) (v : Value) (l : List Rec) : Prop :=
  ∃ a c, v = .slice a l.length c ∧ l.length ≤ c ∧ c ≤ maxLen ∧ (a = none → c = 0) ∧ (l.length = 0 ∨ ∃ b off, a = some ⟨b, off, none⟩ ∧ b < w.heap.size ∧ ∀ j, j < l.length → RecCells w b (off + j * 5) (l.getD j rec0))
theorem RecsAt.below {w w' : World} {v : Value} {l : List Rec} (h : RecsAt w v l) (hw : Below w.heap.size w w') : RecsAt w' v l := by
  obtain ⟨a, c, h1, h2, h3, h4, h5⟩ := h
  refine ⟨a, c, h1, h2, h3, h4, ?_⟩
  rcases h5 with h5 | ⟨b, off, h6, h7, h8⟩
  · exact .inl h5
  · exact .inr ⟨b, off, h6, Nat.lt_of_lt_of_le h7 hw.size, fun j hj => (h8 j hj).below h7 hw⟩
theorem RecsAt.bytes {w : World} {v : Value} {l : List Rec} (h : RecsAt w v l) (j : Nat) : Bytes (l.getD j rec0).root := by
  obtain ⟨a, c, -, -, -, -, h5⟩ := h
  by_cases hj : j < l.length
  · rcases h5 with h5 | ⟨b, off, -, -, h8⟩
    · omega
    · obtain ⟨-, -, -, -, ra, rc, -, h2⟩ := h8 j hj
      exact h2.bytes
  · rw [List.getD_eq_getElem?_getD, List.getElem?_eq_none (by omega)]; exact nil_bytes
end Go.Proofs.YtkjlchfmplcobaeGreatDoor

/- What the laws of chapter 5 ask of package shelf's faces, as propositions: each is shown of the landed code elsewhere. Manifests in memory. -/
namespace Go.Proofs.YtkjlchfmplcobaeGreatDoor
open Go.RowKit

/-- A segment's bytes as the walks meet them. -/
def PackedAt (w : World) (b o : Nat) (d : List Int) : Prop := ∃ pa pc, w.cell? ⟨b, o, none⟩ = some (.slice pa d.length pc) ∧ Some' w (.slice pa d.length pc) d ∧ d.length ≤ pc ∧ pc ≤ maxLen
/-- Segments as the walks meet them. -/
def SegsAt (w : World) (v : Value) (l : List Seg) : Prop :=
  ∃ a c, v = .slice a l.length c ∧ l.length ≤ c ∧ c ≤ maxLen ∧ (a = none → c = 0) ∧ (l.length = 0 ∨ ∃ b off, a = some ⟨b, off, none⟩ ∧ b < w.heap.size ∧
    ∀ j, j < l.length → w.cell? ⟨b, off + j * 3, none⟩ = some (.int .i64 (l.getD j seg0).first) ∧ w.cell? ⟨b, off + j * 3 + 1, none⟩ = some (.int .i64 (l.getD j seg0).count) ∧ PackedAt w b (off + j * 3 + 2) (l.getD j seg0).packed)
theorem PackedAt.below {w w' : World} {b o : Nat} {d : List Int} (h : PackedAt w b o d) (hb : b < w.heap.size) (hw : Below w.heap.size w w') : PackedAt w' b o d := by
  obtain ⟨pa, pc, h1, h2, h3⟩ := h
  exact ⟨pa, pc, by rw [hw.cell (p := ⟨b, o, none⟩) hb]; exact h1, h2.below hw, h3⟩
theorem SegsAt.below {w w' : World} {v : Value} {l : List Seg} (h : SegsAt w v l) (hw : Below w.heap.size w w') : SegsAt w' v l := by
  obtain ⟨a, c, h1, h2, h3, h4, h5⟩ := h
  refine ⟨a, c, h1, h2, h3, h4, ?_⟩
  rcases h5 with h5 | ⟨b, off, h6, h7, h8⟩
  · exact .inl h5
  · refine .inr ⟨b, off, h6, Nat.lt_of_lt_of_le h7 hw.size, fun j hj => ?_⟩
    obtain ⟨c0, c1, c2⟩ := h8 j hj
    exact ⟨by rw [hw.cell (p := ⟨b, off + j * 3, none⟩) h7]; exact c0, by rw [hw.cell (p := ⟨b, off + j * 3 + 1, none⟩) h7]; exact c1, c2.below h7 hw⟩
/-- A manifest as the walks meet it. -/
def ManAt (w : World) (v : Value) (m : Man) : Prop := ∃ rv sv, v = .agg #[.int .i64 m.size, rv, sv] ∧ Some' w rv m.root ∧ SegsAt w sv m.segs
theorem ManAt.below {w w' : World} {v : Value} {m : Man} (h : ManAt w v m) (hw : Below w.heap.size w w') : ManAt w' v m := by
  obtain ⟨rv, sv, h1, h2, h3⟩ := h
  exact ⟨rv, sv, h1, h2.below hw, h3.below hw⟩
theorem some_nil (w : World) : Some' w (.slice none 0 0) [] := ⟨bytesAt_nil w, nil_bytes, Nat.zero_le _⟩
theorem lists_nil (w : World) : Lists w none 0 0 [] := ⟨rfl, .inl ⟨rfl, none, 0, rfl⟩, Nat.le_refl _, Nat.zero_le _, fun _ => ⟨rfl, rfl⟩, fun j => by simp; exact nil_bytes, fun j => by simp⟩
/-- What is read of bytes is bytes. -/
theorem bytes_forall {l : List Int} (h : Bytes l) : ∀ x ∈ l, 0 ≤ x ∧ x < 256 := fun x hx => by
  obtain ⟨j, hj, rfl⟩ := List.mem_iff_getElem.1 hx
  have := h j
  rwa [List.getD_eq_getElem?_getD, List.getElem?_eq_getElem hj] at this
theorem unpack_bytes {b : List Int} (h : Bytes b) : Bytes (unpackL b).1 := bytes_of_mem (fun x hx => by
  rcases unpack_mem b x hx with g | g
  · exact bytes_forall h x g
  · omega)
theorem takeL_bytes {b : List Int} (h : Bytes b) {n : Nat} {l : List (List Int)} (hl : takeL n b = some l) : ∀ j, Bytes (l.getD j []) := bytes_mem (fun e he => bytes_of_mem (fun x hx => bytes_forall h x (takeL_mem n b l hl e he x hx)))
def SegsBytes (l : List Seg) : Prop := ∀ j, Bytes (l.getD j seg0).packed
theorem SegsAt.bytes {w : World} {v : Value} {l : List Seg} (h : SegsAt w v l) : SegsBytes l := fun j => by
  obtain ⟨a, c, -, -, -, -, h5⟩ := h
  by_cases hj : j < l.length
  · rcases h5 with h5 | ⟨b, off, -, -, h8⟩
    · omega
    · obtain ⟨-, -, pa, pc, -, h2, -⟩ := h8 j hj
      exact h2.bytes
  · rw [List.getD_eq_getElem?_getD, List.getElem?_eq_none (by omega)]; exact nil_bytes
theorem segment_bytes {m : Man} (h : SegsBytes m.segs) (k : Int) : ∀ j, Bytes ((segmentL m k).1.getD j []) := bytes_mem (fun e he => bytes_of_mem (fun x hx => by
  rcases segment_mem m k e he x hx with g | g
  · exact bytes_forall (h k.toNat) x g
  · omega))
theorem upTo_bytes {m : Man} (h : SegsBytes m.segs) (k : Nat) : ∀ e ∈ upTo m k, Bytes e := fun e he => by
  unfold upTo at he
  obtain ⟨j, -, hj⟩ := List.mem_flatMap.1 he
  obtain ⟨i, hi, rfl⟩ := List.mem_iff_getElem.1 hj
  have := segment_bytes h (j : Int) i
  rwa [List.getD_eq_getElem?_getD, List.getElem?_eq_getElem hi] at this
/-- A slice of bytes that lies in a block of bytes. -/
def ByteEl (w : World) (y : Value) (d : List Int) : Prop :=
  (d = [] ∧ ∃ a c, y = .slice a 0 c ∧ (a = none → c = 0)) ∨ ∃ g off c cur mk, y = .slice (some ⟨g, off, none⟩) d.length c ∧ w.heap[g]? = some (.cells cur 5 mk) ∧ ∀ j, j < d.length → w.cell? ⟨g, off + j, none⟩ = some (.int .u8 (d.getD j 0))
theorem ByteEl.bytes {w : World} {y : Value} {d : List Int} (h : ByteEl w y d) : BytesAt w y d := by
  rcases h with h | ⟨g, off, c, cur, mk, h1, h2, h3⟩
  · exact .inl h
  · exact .inr ⟨g, off, c, h1, lt_heap h2, h3⟩
theorem ByteEl.one {w : World} {y : Value} {d : List Int} (h : ByteEl w y d) : y.oneCell' = true := by
  rcases h with ⟨-, a, c, rfl, -⟩ | ⟨g, off, c, cur, mk, rfl, -⟩ <;> rfl
theorem ByteEl.below {w w' : World} {y : Value} {d : List Int} {N : Nat} (h : ByteEl w y d) (hb : Below N w w') (hN : w.heap.size ≤ N) : ByteEl w' y d := by
  rcases h with h | ⟨g, off, c, cur, mk, h1, h2, h3⟩
  · exact .inl h
  · have hg := lt_heap h2
    exact .inr ⟨g, off, c, cur, mk, h1, by rw [hb.block g (by omega)]; exact h2, fun j hj => by rw [hb.cell (p := ⟨g, off + j, none⟩) (show g < N by omega)]; exact h3 j hj⟩
theorem ByteEl.same {w w' : World} {y : Value} {d : List Int} (h : ByteEl w y d) (hs : ∀ (g : Nat) (cur : Array Value) (mk : Nat × Nat), w.heap[g]? = some (Obj.cells cur 5 mk) → w'.heap[g]? = w.heap[g]?) : ByteEl w' y d := by
  rcases h with h | ⟨g, off, c, cur, mk, h1, h2, h3⟩
  · exact .inl h
  · have h4 := (hs g cur mk h2).trans h2
    exact .inr ⟨g, off, c, cur, mk, h1, h4, fun j hj => by rw [cell_of_row w' g (off + j) cur _ mk h4, ← cell_of_row w g (off + j) cur _ mk h2]; exact h3 j hj⟩
theorem own_apart {w : World} {base g n size : Nat} {e t : TypeId} {v : Value} {xs : List Value} {cur : Array Value} {mk : Nat × Nat} (h : w.ownsRow base e size v n xs) (hne : t ≠ e) (hg : w.heap[g]? = some (.cells cur t mk)) : some g ≠ v.ownBlock := fun hh => by
  rcases h.2 with ⟨rfl, -⟩ | ⟨k, cap, cu, rfl, -, hk, -⟩
  · cases hh
  · cases hh
    rw [hk] at hg
    cases hg
    exact hne rfl
theorem ByteEl.kept {w w' : World} {base n size : Nat} {e : TypeId} {v : Value} {xs : List Value} {y : Value} {d : List Int} (h : ByteEl w y d) (hr : w.ownsRow base e size v n xs) (hne : 5 ≠ e) (hg : w.grownBy w' v.ownBlock) : ByteEl w' y d :=
  h.same (fun g _ _ h2 => hg.block g (lt_heap h2) (own_apart hr hne h2))
theorem byteEl_own {w : World} {base n : Nat} {v : Value} {d : List Int} (h : w.ownsRow base 5 1 v n (d.map (Value.int .u8))) : ByteEl w v d := by
  have hl : d.length = n := by simpa using h.1
  rcases h.2 with ⟨hv, hn⟩ | ⟨g, cap, cur, hv, -, hg, -⟩
  · subst hn
    exact .inl ⟨List.eq_nil_of_length_eq_zero hl, none, 0, hv, fun _ => rfl⟩
  · subst hl
    subst hv
    refine .inr ⟨g, 0, cap, cur, _, rfl, hg, fun j hj => ?_⟩
    rw [Nat.zero_add, h.cellAt j (by omega), List.getElem?_map, List.getElem?_eq_getElem hj, List.getD_eq_getElem?_getD, List.getElem?_eq_getElem hj]
    rfl
/-- Values, each of them such a slice. -/
def Els (w : World) (vs : List Value) (L : List (List Int)) : Prop := vs.length = L.length ∧ ∀ j, j < L.length → ∃ y, vs[j]? = some y ∧ ByteEl w y (L.getD j [])
theorem els_nil (w : World) : Els w [] [] := ⟨rfl, fun _ h => absurd h (Nat.not_lt_zero _)⟩
theorem Els.below {w w' : World} {vs : List Value} {L : List (List Int)} {N : Nat} (h : Els w vs L) (hb : Below N w w') (hN : w.heap.size ≤ N) : Els w' vs L := ⟨h.1, fun j hj => by obtain ⟨y, h1, h2⟩ := h.2 j hj; exact ⟨y, h1, h2.below hb hN⟩⟩
theorem Els.kept {w w' : World} {base n size : Nat} {e : TypeId} {v : Value} {xs vs : List Value} {L : List (List Int)} (h : Els w vs L) (hr : w.ownsRow base e size v n xs) (hne : 5 ≠ e) (hg : w.grownBy w' v.ownBlock) : Els w' vs L := ⟨h.1, fun j hj => by obtain ⟨y, h1, h2⟩ := h.2 j hj; exact ⟨y, h1, h2.kept hr hne hg⟩⟩
theorem Els.append {w : World} {vs us : List Value} {L M : List (List Int)} (h : Els w vs L) (k : Els w us M) : Els w (vs ++ us) (L ++ M) := by
  refine ⟨by rw [List.length_append, List.length_append, h.1, k.1], fun j hj => ?_⟩
  by_cases hlt : j < L.length
  · obtain ⟨y, h1, h2⟩ := h.2 j hlt
    exact ⟨y, by rw [List.getElem?_append_left (by rw [h.1]; exact hlt)]; exact h1, by rw [List.getD_eq_getElem?_getD, List.getElem?_append_left hlt, ← List.getD_eq_getElem?_getD]; exact h2⟩
  · obtain ⟨y, h1, h2⟩ := k.2 (j - L.length) (by rw [List.length_append] at hj; omega)
    exact ⟨y, by rw [List.getElem?_append_right (by rw [h.1]; omega), h.1]; exact h1, by rw [List.getD_eq_getElem?_getD, List.getElem?_append_right (by omega), ← List.getD_eq_getElem?_getD]; exact h2⟩
theorem Els.one {w : World} {vs : List Value} {L : List (List Int)} (h : Els w vs L) : ∀ u ∈ vs, u.oneCell' = true := fun u hu => by
  obtain ⟨j, hj, rfl⟩ := List.mem_iff_getElem.1 hu
  obtain ⟨y, h1, h2⟩ := h.2 j (by rw [← h.1]; exact hj)
  rw [List.getElem?_eq_getElem hj] at h1
  cases h1
  exact h2.one
theorem byteEls_one {w : World} {y : Value} {d : List Int} (h : ByteEl w y d) : Els w [y] [d] := ⟨rfl, fun j hj => by
  obtain rfl : j = 0 := by simpa using hj
  exact ⟨y, rfl, h⟩⟩
/-- A list as it comes in whose bytes lie in blocks of bytes. -/
structure Laid (w : World) (a : Option Addr) (n c : Nat) (L : List (List Int)) : Prop where
  lists : Lists w a n c L
  els : ∃ vs, Els w vs L ∧ ∀ ad, a = some ad → ∀ j u, vs[j]? = some u → w.cell? (ad.add j) = some u
theorem laid_nil (w : World) : Laid w none 0 0 [] := ⟨lists_nil w, [], els_nil w, fun _ _ j u h => by simp at h⟩
theorem Laid.below {w w' : World} {a : Option Addr} {n c : Nat} {L : List (List Int)} (h : Laid w a n c L) (hb : Below w.heap.size w w') : Laid w' a n c L := by
  obtain ⟨vs, h1, h2⟩ := h.els
  refine ⟨h.lists.below hb, vs, h1.below hb (Nat.le_refl _), fun ad ha j u hu => ?_⟩
  have hc := h2 ad ha j u hu
  rw [hb.cell (p := ad.add j) (World.block_lt_of_cell? w _ hc)]
  exact hc
theorem laid_own {w : World} {base : Nat} {a : Option Addr} {n c : Nat} {vs : List Value} {L : List (List Int)} (hr : w.ownsRow base 37 1 (.slice a n c) n vs) (he : Els w vs L) (hl : L.length = n) (hb : ∀ x ∈ L, Bytes x) (hs : ∀ x ∈ L, x.length ≤ maxLen) : Laid w a n c L := by
  have hcell : ∀ ad, a = some ad → ∀ j u, vs[j]? = some u → w.cell? (ad.add j) = some u := fun ad ha j u hu => by
    have hj : j < n := by have := (List.getElem?_eq_some_iff.1 hu).1; rw [he.1, hl] at this; exact this
    obtain ⟨g, hg, -⟩ := own_some hr (by omega)
    subst ha
    cases hg
    have e : (⟨g, 0, none⟩ : Addr).add j = ⟨g, 0 + j, none⟩ := Addr.add_mid _ _ _
    rw [e, Nat.zero_add, hr.cellAt j (by omega)]
    exact hu
  obtain ⟨a', c', e', h1, h2⟩ := own_cap hr
  cases e'
  refine ⟨⟨hl, ?_, h1, h2, own_nil hr, bytes_mem hb, short_mem hs⟩, vs, he, hcell⟩
  by_cases h0 : n = 0
  · subst h0
    exact .inl ⟨List.eq_nil_of_length_eq_zero hl, _, _, rfl⟩
  · obtain ⟨g, rfl, -, hg, -⟩ := own_some hr h0
    refine .inr ⟨g, 0, c, by rw [hl], hg, fun j hj => ?_⟩
    obtain ⟨y, h3, h4⟩ := he.2 j hj
    obtain ⟨ya, yc, rfl⟩ := h4.bytes.form
    have e : (⟨g, 0, none⟩ : Addr).add j = ⟨g, 0 + j, none⟩ := Addr.add_mid _ _ _
    have := hcell _ rfl j _ h3
    rw [e] at this
    exact ⟨_, _, _, this, h4.bytes⟩
def SegmentC : Prop := ∀ (m : Man) (k : Int) (mv : Value) (w : World), ManAt w mv m →
  Calls Tryz.prog 86 #[mv, .int .i64 k] w fun e w' => ∃ xa xn xc, e = .returned (.tuple #[.slice xa xn xc, .int .i64 (segmentL m k).2]) ∧ Laid w' xa xn xc (segmentL m k).1 ∧ Below w.heap.size w w'
def VerifyC : Prop := ∀ (m : Man) (mv : Value) (w : World), Ready w → ManAt w mv m →
  Calls Tryz.prog 53 #[mv] w fun e w' => ∃ xa xn xc, e = .returned (.tuple #[.slice xa xn xc, faultV (verifyL m).2]) ∧ Laid w' xa xn xc (verifyL m).1 ∧ Below w.heap.size w w'

end Go.Proofs.YtkjlchfmplcobaeGreatDoor

/- What the laws of chapter 7 ask of package fleet's faces, as propositions: each is shown of the landed code elsewhere. Fleets in memory. -/
namespace Go.Proofs.YtkjlchfmplcobaeGreatDoor
open Go.RowKit

/-- A slice of elements of n cells each, as the walks meet it. -/
def RowAt {α : Type} (n : Nat) (P : World → Nat → Nat → α → Prop) (z : α) (w : World) (v : Value) (l : List α) : Prop :=
  ∃ a c, v = .slice a l.length c ∧ l.length ≤ c ∧ c ≤ maxLen ∧ (a = none → c = 0) ∧ (l.length = 0 ∨ ∃ b off, a = some ⟨b, off, none⟩ ∧ b < w.heap.size ∧ ∀ j, j < l.length → P w b (off + j * n) (l.getD j z))
theorem RowAt.below {α : Type} {n : Nat} {P : World → Nat → Nat → α → Prop} {z : α} {w w' : World} {v : Value} {l : List α} (h : RowAt n P z w v l) (hw : Below w.heap.size w w') (hP : ∀ b o x, b < w.heap.size → P w b o x → P w' b o x) : RowAt n P z w' v l := by
  obtain ⟨a, c, h1, h2, h3, h4, h5⟩ := h
  refine ⟨a, c, h1, h2, h3, h4, ?_⟩
  rcases h5 with h5 | ⟨b, off, h6, h7, h8⟩
  · exact .inl h5
  · exact .inr ⟨b, off, h6, Nat.lt_of_lt_of_le h7 hw.size, fun j hj => hP _ _ _ h7 (h8 j hj)⟩
theorem RowAt.form {α : Type} {n : Nat} {P : World → Nat → Nat → α → Prop} {z : α} {w : World} {v : Value} {l : List α} (h : RowAt n P z w v l) : ∃ a c, v = .slice a l.length c := by
  obtain ⟨a, c, e, -⟩ := h; exact ⟨a, c, e⟩
theorem RowAt.nil {α : Type} (n : Nat) (P : World → Nat → Nat → α → Prop) (z : α) (w : World) : RowAt n P z w (.slice none 0 0) [] := ⟨none, 0, rfl, Nat.le_refl _, Nat.zero_le _, fun _ => rfl, .inl rfl⟩
theorem RowAt.first {α : Type} {n : Nat} {P : World → Nat → Nat → α → Prop} {z : α} {w : World} {a : Option Addr} {m c k : Nat} {l : List α} (h : RowAt n P z w (.slice a m c) l) (hm : l.length = m) (hk : k ≤ m) : RowAt n P z w (.slice a k c) (l.take k) := by
  obtain ⟨a', c', e, h2, h3, h4, h5⟩ := h
  rw [hm] at e h2 h5
  cases e
  have hl : (l.take k).length = k := by rw [List.length_take]; omega
  refine ⟨a, c, by rw [hl], by omega, h3, h4, ?_⟩
  by_cases hk0 : k = 0
  · exact .inl (by omega)
  obtain ⟨b, off, h6, h7, h8⟩ := h5.resolve_left (by omega)
  refine .inr ⟨b, off, h6, h7, fun j hj => ?_⟩
  rw [hl] at hj
  rw [List.getD_eq_getElem?_getD, List.getElem?_take, if_pos hj, ← List.getD_eq_getElem?_getD]
  exact h8 j (by omega)
def WinCells (w : World) (b o : Nat) (x : Win) : Prop := w.cell? ⟨b, o, none⟩ = some (.int .i64 x.a) ∧ w.cell? ⟨b, o + 1, none⟩ = some (.int .i64 x.b)
def WinsAt (w : World) (v : Value) (l : List Win) : Prop := RowAt 2 WinCells win0 w v l
theorem WinsAt.below {w w' : World} {v : Value} {l : List Win} (h : WinsAt w v l) (hw : Below w.heap.size w w') : WinsAt w' v l :=
  RowAt.below h hw (fun b o _ hb ⟨h1, h2⟩ => ⟨by rw [hw.cell (p := ⟨b, o, none⟩) hb]; exact h1, by rw [hw.cell (p := ⟨b, o + 1, none⟩) hb]; exact h2⟩)
/-- Numbers that their types hold. -/
abbrev DdFit (x : Dd) : Prop := (0 ≤ x.by' ∧ x.by' < 256) ∧ (-9223372036854775808 ≤ x.kind ∧ x.kind ≤ 9223372036854775807)
structure DdCells (w : World) (b o : Nat) (x : Dd) : Prop where
  kind : w.cell? ⟨b, o, none⟩ = some (.int .i64 x.kind)
  n : w.cell? ⟨b, o + 1, none⟩ = some (.int .i64 x.n)
  time : w.cell? ⟨b, o + 2, none⟩ = some (.int .i64 x.time)
  entry : ∃ pa pc, w.cell? ⟨b, o + 3, none⟩ = some (.slice pa x.entry.length pc) ∧ Some' w (.slice pa x.entry.length pc) x.entry
  segment : w.cell? ⟨b, o + 4, none⟩ = some (.int .i64 x.segment)
  at' : w.cell? ⟨b, o + 5, none⟩ = some (.int .i64 x.at')
  by' : w.cell? ⟨b, o + 6, none⟩ = some (.int .u8 x.by')
  byte : DdFit x
theorem DdCells.below {w w' : World} {b o : Nat} {x : Dd} (h : DdCells w b o x) (hb : b < w.heap.size) (hw : Below w.heap.size w w') : DdCells w' b o x := by
  obtain ⟨h1, h2, h3, ⟨pa, pc, h4, h4'⟩, h5, h6, h7, h8⟩ := h
  exact ⟨by rw [hw.cell (p := ⟨b, o, none⟩) hb]; exact h1, by rw [hw.cell (p := ⟨b, o + 1, none⟩) hb]; exact h2, by rw [hw.cell (p := ⟨b, o + 2, none⟩) hb]; exact h3, ⟨pa, pc, by rw [hw.cell (p := ⟨b, o + 3, none⟩) hb]; exact h4, h4'.below hw⟩, by rw [hw.cell (p := ⟨b, o + 4, none⟩) hb]; exact h5, by rw [hw.cell (p := ⟨b, o + 5, none⟩) hb]; exact h6, by rw [hw.cell (p := ⟨b, o + 6, none⟩) hb]; exact h7, h8⟩
def DosAt (w : World) (v : Value) (l : List Dd) : Prop := RowAt 7 DdCells dd0 w v l
theorem DosAt.below {w w' : World} {v : Value} {l : List Dd} (h : DosAt w v l) (hw : Below w.heap.size w w') : DosAt w' v l := RowAt.below h hw (fun _ _ _ hb hx => hx.below hb hw)
structure ShdCells (w : World) (b o : Nat) (s : Shd) : Prop where
  from' : w.cell? ⟨b, o, none⟩ = some (.int .i64 s.from')
  to' : w.cell? ⟨b, o + 1, none⟩ = some (.int .i64 s.to')
  state : w.cell? ⟨b, o + 2, none⟩ = some (.int .i64 s.state)
  entries : ∃ ea ec, w.cell? ⟨b, o + 3, none⟩ = some (.slice ea s.entries.length ec) ∧ Lists w ea s.entries.length ec s.entries
  size : w.cell? ⟨b, o + 4, none⟩ = some (.int .i64 s.man.size)
  root : ∃ ra rc, w.cell? ⟨b, o + 5, none⟩ = some (.slice ra s.man.root.length rc) ∧ Some' w (.slice ra s.man.root.length rc) s.man.root
  segs : ∃ ga gc, w.cell? ⟨b, o + 6, none⟩ = some (.slice ga s.man.segs.length gc) ∧ SegsAt w (.slice ga s.man.segs.length gc) s.man.segs
theorem ShdCells.below {w w' : World} {b o : Nat} {s : Shd} (h : ShdCells w b o s) (hb : b < w.heap.size) (hw : Below w.heap.size w w') : ShdCells w' b o s := by
  obtain ⟨h1, h2, h3, ⟨ea, ec, h4, h4'⟩, h5, ⟨ra, rc, h6, h6'⟩, ⟨ga, gc, h7, h7'⟩⟩ := h
  exact ⟨by rw [hw.cell (p := ⟨b, o, none⟩) hb]; exact h1, by rw [hw.cell (p := ⟨b, o + 1, none⟩) hb]; exact h2, by rw [hw.cell (p := ⟨b, o + 2, none⟩) hb]; exact h3, ⟨ea, ec, by rw [hw.cell (p := ⟨b, o + 3, none⟩) hb]; exact h4, h4'.below hw⟩, by rw [hw.cell (p := ⟨b, o + 4, none⟩) hb]; exact h5, ⟨ra, rc, by rw [hw.cell (p := ⟨b, o + 5, none⟩) hb]; exact h6, h6'.below hw⟩, ⟨ga, gc, by rw [hw.cell (p := ⟨b, o + 6, none⟩) hb]; exact h7, h7'.below hw⟩⟩
def ShdsAt (w : World) (v : Value) (l : List Shd) : Prop := RowAt 7 ShdCells shd0 w v l
theorem ShdsAt.below {w w' : World} {v : Value} {l : List Shd} (h : ShdsAt w v l) (hw : Below w.heap.size w w') : ShdsAt w' v l := RowAt.below h hw (fun _ _ _ hb hx => hx.below hb hw)
/-- A fleet as the walks meet it. -/
def FltV (w : World) (v : Value) (f : Flt) : Prop := ∃ sa sc ba bc, v = .agg #[.slice sa f.shards.length sc, .slice ba f.book.length bc] ∧ ShdsAt w (.slice sa f.shards.length sc) f.shards ∧ RecsAt w (.slice ba f.book.length bc) f.book
theorem FltV.below {w w' : World} {v : Value} {f : Flt} (h : FltV w v f) (hw : Below w.heap.size w w') : FltV w' v f := by
  obtain ⟨sa, sc, ba, bc, h1, h2, h3⟩ := h
  exact ⟨sa, sc, ba, bc, h1, h2.below hw, h3.below hw⟩
def AnsCells (w : World) (b o : Nat) (x : Ans) : Prop := w.cell? ⟨b, o, none⟩ = some (.int .i64 x.err) ∧ w.cell? ⟨b, o + 1, none⟩ = some (.int .i64 x.shard) ∧ w.cell? ⟨b, o + 2, none⟩ = some (.int .i64 x.place) ∧ w.cell? ⟨b, o + 3, none⟩ = some (.int .i64 x.size) ∧
  ∃ ra rc, w.cell? ⟨b, o + 4, none⟩ = some (.slice ra x.root.length rc) ∧ Some' w (.slice ra x.root.length rc) x.root
theorem AnsCells.below {w w' : World} {b o : Nat} {x : Ans} (h : AnsCells w b o x) (hb : b < w.heap.size) (hw : Below w.heap.size w w') : AnsCells w' b o x := by
  obtain ⟨h0, h1, h2, h3, ra, rc, h4, h5⟩ := h
  exact ⟨by rw [hw.cell (p := ⟨b, o, none⟩) hb]; exact h0, by rw [hw.cell (p := ⟨b, o + 1, none⟩) hb]; exact h1, by rw [hw.cell (p := ⟨b, o + 2, none⟩) hb]; exact h2, by rw [hw.cell (p := ⟨b, o + 3, none⟩) hb]; exact h3, ra, rc, by rw [hw.cell (p := ⟨b, o + 4, none⟩) hb]; exact h4, h5.below hw⟩
def AnssAt (w : World) (v : Value) (l : List Ans) : Prop := RowAt 5 AnsCells ans0 w v l
theorem AnssAt.below {w w' : World} {v : Value} {l : List Ans} (h : AnssAt w v l) (hw : Below w.heap.size w w') : AnssAt w' v l := RowAt.below h hw (fun _ _ _ hb hx => hx.below hb hw)
/-- What is shown, as the walks meet it. -/
structure ShwV (w : World) (v : Value) (s : Shw) : Prop where
  form : ∃ ea ec pa pc ra rc ba bc ha hc, v = .agg #[.slice ea s.entry.length ec, .int .i64 s.place, .int .i64 s.shard, .slice pa s.path.length pc, .int .i64 s.rcd.shard, .int .i64 s.rcd.from', .int .i64 s.rcd.to', .int .i64 s.rcd.size, .slice ra s.rcd.root.length rc, .int .i64 s.row, .slice ba s.bookPath.length bc, .int .i64 s.hsize, .slice ha s.hroot.length hc] ∧
    Some' w (.slice ea s.entry.length ec) s.entry ∧ Lists w pa s.path.length pc s.path ∧ Some' w (.slice ra s.rcd.root.length rc) s.rcd.root ∧ Lists w ba s.bookPath.length bc s.bookPath ∧ Some' w (.slice ha s.hroot.length hc) s.hroot
theorem ShwV.below {w w' : World} {v : Value} {s : Shw} (h : ShwV w v s) (hw : Below w.heap.size w w') : ShwV w' v s := by
  obtain ⟨ea, ec, pa, pc, ra, rc, ba, bc, ha, hc, h1, h2, h3, h4, h5, h6⟩ := h.form
  exact ⟨ea, ec, pa, pc, ra, rc, ba, bc, ha, hc, h1, h2.below hw, h3.below hw, h4.below hw, h5.below hw, h6.below hw⟩
/-- The faces. -/
def FleetWrongC : Prop := ∀ (ws : List Win) (wv : Value) (w : World), WinsAt w wv ws →
  Calls Tryz.prog 7 #[wv] w fun e w' => e = .returned (faultV (wrongWins ws)) ∧ Below w.heap.size w w'
def PlayC : Prop := ∀ (ws : List Win) (l : List Dd) (wv dv : Value) (w : World), Ready w → WinsAt w wv ws → DosAt w dv l →
  Calls Tryz.prog 5 #[wv, dv] w fun e w' => ∃ fv av, e = .returned (.tuple #[fv, av, faultV (playF ws l)]) ∧ FltV w' fv (playL ws l).1 ∧ AnssAt w' av (playL ws l).2 ∧ Below w.heap.size w w'
end Go.Proofs.YtkjlchfmplcobaeGreatDoor

/- Boxes of records; the walks of yearref5.SameRecord and yearref5.WrongRecord. -/
namespace Go.Proofs.YtkjlchfmplcobaeGreatDoor
open Go.RowKit

/-- What a variable of five cells holds. -/
theorem box_five {w : World} {k : Nat} {a b c d e : Value} {t : TypeId} (h : w.heap[k]? = some (.cells #[a, b, c, d, e] t (0, 0))) :
    w.cell? ⟨k, 0, none⟩ = some a ∧ w.cell? ⟨k, 1, none⟩ = some b ∧ w.cell? ⟨k, 2, none⟩ = some c ∧ w.cell? ⟨k, 3, none⟩ = some d ∧ w.cell? ⟨k, 4, none⟩ = some e :=
  ⟨cell_of_row w k 0 _ t _ h, cell_of_row w k 1 _ t _ h, cell_of_row w k 2 _ t _ h, cell_of_row w k 3 _ t _ h, cell_of_row w k 4 _ t _ h⟩
set_option maxRecDepth 100000 in
set_option maxHeartbeats 2000000 in
theorem sameRec_yes (r : Rec) (v1 v2 : Value) (w : World) (h1 : RecV w v1 r) (h2 : RecV w v2 r) :
    Calls Tryz.prog 37 #[v1, v2] w fun e w' => e = .returned (.bool true) ∧ Below w.heap.size w w' := by
  obtain ⟨ra, rc, rfl, hr⟩ := h1
  obtain ⟨ta, tc, rfl, ht⟩ := h2
  obtain ⟨s, f, t, z, root⟩ := r
  dsimp only at hr ht ⊢
  have b0 : Below w.heap.size w ((w.alloc (.cells #[.int .i64 s, .int .i64 f, .int .i64 t, .int .i64 z, .slice ra root.length rc] 45)).alloc (.cells #[.int .i64 s, .int .i64 f, .int .i64 t, .int .i64 z, .slice ta root.length tc] 45)) := ((Below.refl _ _).alloc (Nat.le_refl _) _).alloc (by simp) _
  obtain ⟨x0, x1, x2, x3, x4⟩ := box_five (box_one w #[.int .i64 s, .int .i64 f, .int .i64 t, .int .i64 z, .slice ra root.length rc] 45 (.cells #[.int .i64 s, .int .i64 f, .int .i64 t, .int .i64 z, .slice ta root.length tc] 45))
  obtain ⟨y0, y1, y2, y3, y4⟩ := box_five (box_last w (.cells #[.int .i64 s, .int .i64 f, .int .i64 t, .int .i64 z, .slice ra root.length rc] 45) #[.int .i64 s, .int .i64 f, .int .i64 t, .int .i64 z, .slice ta root.length tc] 45)
  have sE := sameHead_yes z root _ _ _ (hr.below b0) (ht.below b0)
  have q1 : (s == s) = true := by simp
  have q2 : (f == f) = true := by simp
  have q3 : (t == t) = true := by simp
  clear hr ht
  generalize root.length = n at *
  go_enter Tryz.func37, Tryz.ntmps37
  go_wp2_with fail
  refine sE.mono ?_
  rintro e w3 ⟨rfl, hb3⟩
  go_wp2_with fail
  go_ret
  exact ⟨rfl, b0.trans (hb3.mono b0.size)⟩
end Go.Proofs.YtkjlchfmplcobaeGreatDoor
