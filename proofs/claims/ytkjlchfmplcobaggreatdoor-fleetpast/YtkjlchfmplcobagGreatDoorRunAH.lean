/- FleetTakenM, TreeGoBox, BookFace, PackFace, as one text. -/
import Derived.Test.YtkjlchfmplcobagGreatDoorRunAG
import Derived.WalkKit
import Derived.WalkSmall
import Derived.OneCell
import Derived.Laws.Rows
import Derived.Test.YtkjlchfmplcobagGreatDoorProg
import Derived.Test.YtkjlchfmplcobagGreatDoorRunAD
import Derived.Test.YtkjlchfmplcobagGreatDoorRunAB
import Derived.Test.YtkjlchfmplcobagGreatDoorRunAE
/- Chapter 7's mathematics: what was taken stays, where nothing was spoilt. -/
namespace Go.Proofs.YtkjlchfmplcobagGreatDoor

/-- Nothing of a shard was spoilt. -/
structure CleanS (s : Shd) : Prop where
  c3 : s.state = 3 → s.man = exportL s.entries
  c4 : s.state = 4 → ∃ L : List (List Int), L.length ≤ 100 ∧ (∀ e ∈ L, e.length ≤ 200) ∧ s.man = ⟨L.length, mth L, segsL L⟩
def CleanF (f : Flt) : Prop := ∀ k, k < f.shards.length → CleanS (f.shards.getD k shd0)
theorem start_clean (ws : List Win) : CleanF (startL ws) := fun k hk => by
  have hk' : k < ws.length := by simpa [startL] using hk
  rw [wins_get ws hk']
  exact ⟨fun h => absurd (show (1 : Int) = 3 from h) (by decide), fun h => absurd (show (1 : Int) = 4 from h) (by decide)⟩
theorem export_form {w : Win} {s : Shd} (h : ShdOk w s) : exportL s.entries = ⟨s.entries.length, mth s.entries, segsL s.entries⟩ := by
  unfold exportL; rw [wrong_entries h, if_neg (fun g => g rfl)]
theorem content_open {s : Shd} (h : s.state ≠ 4) : (contentL s).1 = s.entries := by unfold contentL; rw [if_neg h]
theorem content_laid {s : Shd} {L : List (List Int)} (h : s.state = 4) (h1 : L.length ≤ 100) (h2 : ∀ e ∈ L, e.length ≤ 200) (hm : s.man = ⟨L.length, mth L, segsL L⟩) : (contentL s).1 = L := by
  unfold contentL; rw [if_pos h, hm, verify_export h1 h2]
/-- A shard in another's place. -/
theorem clean_put {f : Flt} (hc : CleanF f) {k : Nat} (hk : k < f.shards.length) {s : Shd} (hs : CleanS s) (hp : (contentL (f.shards.getD k shd0)).1 <+: (contentL s).1) (b : List Rec) :
    CleanF ⟨f.shards.set k s, b⟩ ∧ ∀ j, (contentL (f.shards.getD j shd0)).1 <+: (contentL ((f.shards.set k s).getD j shd0)).1 := by
  refine ⟨fun j hj => ?_, fun j => ?_⟩
  · have hj' : j < f.shards.length := by simpa using hj
    dsimp only
    by_cases e : k = j
    · subst e; rw [getD_set_same hk]; exact hs
    · rw [getD_set_other e]; exact hc j hj'
  · by_cases e : k = j
    · subst e; rw [getD_set_same hk]; exact hp
    · rw [getD_set_other e]; exact List.prefix_refl _
theorem step_clean {ws : List Win} {f : Flt} (h : FltOk ws f) (hc : CleanF f) {d : Dd} (h5 : d.kind ≠ 5) : CleanF (stepL f d).1 ∧ ∀ j, (contentL (f.shards.getD j shd0)).1 <+: (contentL ((stepL f d).1.shards.getD j shd0)).1 := by
  have same : CleanF f ∧ ∀ j, (contentL (f.shards.getD j shd0)).1 <+: (contentL (f.shards.getD j shd0)).1 := ⟨hc, fun _ => List.prefix_refl _⟩
  unfold stepL
  by_cases h1 : d.kind = 1
  · rw [if_pos h1]
    unfold submitL
    by_cases h200 : 200 < d.entry.length
    · rw [if_pos h200]; exact same
    rw [if_neg h200]
    cases hh : homeOf f.shards d.time with
    | none => exact same
    | some k =>
      obtain ⟨hk, -, -⟩ := home_some hh
      dsimp only
      by_cases h1 : (f.shards.getD k shd0).state ≠ 1
      · rw [if_pos h1]; exact same
      rw [if_neg h1]
      have h1' : (f.shards.getD k shd0).state = 1 := by omega
      cases hp : placeOf (f.shards.getD k shd0).entries d.entry with
      | some i => exact same
      | none =>
        dsimp only
        by_cases h100 : 100 ≤ (f.shards.getD k shd0).entries.length
        · rw [if_pos h100]; exact same
        rw [if_neg h100]
        refine clean_put hc hk (s := { (f.shards.getD k shd0) with entries := (f.shards.getD k shd0).entries ++ [d.entry] }) ⟨fun g => absurd (h1'.symm.trans g) (by decide), fun g => absurd (h1'.symm.trans g) (by decide)⟩ ?_ _
        rw [content_open (by rw [h1']; decide), content_open (by show (f.shards.getD k shd0).state ≠ 4; rw [h1']; decide)]
        exact List.prefix_append _ _
  rw [if_neg h1]
  by_cases h2 : d.kind < 2 ∨ 5 < d.kind
  · rw [if_pos h2]; exact same
  rw [if_neg h2]
  by_cases h3 : d.n < 0 ∨ (f.shards.length : Int) ≤ d.n
  · rw [if_pos h3]; exact same
  rw [if_neg h3]
  by_cases h4 : (f.shards.getD d.n.toNat shd0).state ≠ wantL d.kind
  · rw [if_pos h4]; exact same
  rw [if_neg h4]
  have hkl : d.n.toNat < f.shards.length := by omega
  have hkw : d.n.toNat < ws.length := by rw [← h.len]; exact hkl
  generalize d.n.toNat = k at *
  have hst : (f.shards.getD k shd0).state = wantL d.kind := by simpa using h4
  have hs := h.each k hkw
  unfold stepAt
  dsimp only
  by_cases k2 : d.kind = 2
  · rw [if_pos k2]
    have hst1 : (f.shards.getD k shd0).state = 1 := by rw [hst, k2]; rfl
    refine clean_put hc hkl ⟨fun g => absurd (show (2 : Int) = 3 from g) (by decide), fun g => absurd (show (2 : Int) = 4 from g) (by decide)⟩ ?_ _
    rw [content_open (by rw [hst1]; decide), content_open (by show (2 : Int) ≠ 4; decide)]
    exact List.prefix_refl _
  rw [if_neg k2]
  by_cases k3 : d.kind = 3
  · rw [if_pos k3]
    have hst2 : (f.shards.getD k shd0).state = 2 := by rw [hst, k3]; rfl
    rw [if_neg (by rw [wrong_entries hs]; exact fun g => g rfl)]
    refine clean_put hc hkl ⟨fun _ => rfl, fun g => absurd (show (3 : Int) = 4 from g) (by decide)⟩ ?_ _
    rw [content_open (by rw [hst2]; decide), content_open (by show (3 : Int) ≠ 4; decide)]
    exact List.prefix_refl _
  rw [if_neg k3]
  have k4 : d.kind = 4 := by omega
  have hst3 : (f.shards.getD k shd0).state = 3 := by rw [hst, k4]; rfl
  rw [if_pos k4]
  by_cases hv : (verifyL (f.shards.getD k shd0).man).2.1 ≠ 0
  · rw [if_pos hv]; exact same
  rw [if_neg hv]
  have hm := ((hc k hkl).c3 hst3).trans (export_form hs)
  refine clean_put hc hkl (s := { (f.shards.getD k shd0) with state := 4, entries := [] }) ⟨fun g => absurd (show (4 : Int) = 3 from g) (by decide), fun _ => ⟨_, hs.few, hs.short, hm⟩⟩ ?_ _
  rw [content_open (by rw [hst3]; decide), content_laid (s := { (f.shards.getD k shd0) with state := 4, entries := [] }) rfl hs.few hs.short hm]
  exact List.prefix_refl _
theorem run_clean {ws : List Win} {f : Flt} (h : FltOk ws f) (hc : CleanF f) (l : List Dd) (h5 : ∀ d ∈ l, d.kind ≠ 5) : CleanF (runL f l).1 ∧ ∀ j, (contentL (f.shards.getD j shd0)).1 <+: (contentL ((runL f l).1.shards.getD j shd0)).1 := by
  induction l generalizing f with
  | nil => exact ⟨hc, fun _ => List.prefix_refl _⟩
  | cons d ds ih =>
    obtain ⟨h1, h2⟩ := step_clean h hc (h5 d (by simp))
    obtain ⟨h3, h4⟩ := ih (step_ok h d) h1 (fun x hx => h5 x (by simp [hx]))
    exact ⟨h3, fun j => (h2 j).trans (h4 j)⟩
/-- What a step that took an entry tells. -/
theorem taken_step {f : Flt} {d : Dd} (hk : d.kind = 1) (he : (stepL f d).2.err = 0) : ∃ k p : Nat, (stepL f d).2 = ⟨0, (k : Int), (p : Int), 0, []⟩ ∧ homeOf f.shards d.time = some k ∧ k < f.shards.length ∧ (f.shards.getD k shd0).state = 1 ∧ ((stepL f d).1.shards.getD k shd0).state = 1 ∧
    p < ((stepL f d).1.shards.getD k shd0).entries.length ∧ ((stepL f d).1.shards.getD k shd0).entries.getD p [] = d.entry := by
  revert he
  unfold stepL
  rw [if_pos hk]
  unfold submitL
  by_cases h200 : 200 < d.entry.length
  · rw [if_pos h200]; exact fun h => absurd (show (4 : Int) = 0 from h) (by decide)
  rw [if_neg h200]
  cases hh : homeOf f.shards d.time with
  | none => exact fun h => absurd (show (6 : Int) = 0 from h) (by decide)
  | some k =>
    obtain ⟨hkl, -, -⟩ := home_some hh
    dsimp only
    by_cases h1 : (f.shards.getD k shd0).state ≠ 1
    · rw [if_pos h1]; exact fun h => absurd (show (8 : Int) = 0 from h) (by decide)
    rw [if_neg h1]
    have h1' : (f.shards.getD k shd0).state = 1 := by omega
    cases hp : placeOf (f.shards.getD k shd0).entries d.entry with
    | some i =>
      obtain ⟨g1, g2⟩ := place_some hp
      exact fun _ => ⟨k, i, rfl, rfl, hkl, h1', h1', g1, g2⟩
    | none =>
      dsimp only
      by_cases h100 : 100 ≤ (f.shards.getD k shd0).entries.length
      · rw [if_pos h100]; exact fun h => absurd (show (5 : Int) = 0 from h) (by decide)
      rw [if_neg h100]
      refine fun _ => ⟨k, (f.shards.getD k shd0).entries.length, rfl, rfl, hkl, h1', ?_, ?_, ?_⟩
      · show ((f.shards.set k _).getD k shd0).state = 1
        rw [getD_set_same hkl]; exact h1'
      · show _ < ((f.shards.set k _).getD k shd0).entries.length
        rw [getD_set_same hkl]
        simp
      · show ((f.shards.set k _).getD k shd0).entries.getD _ [] = _
        rw [getD_set_same hkl]
        dsimp only
        rw [snoc_get, if_neg (Nat.lt_irrefl _), if_pos rfl]
theorem prefix_get {A B : List (List Int)} (h : A <+: B) {i : Nat} (hi : i < A.length) : B.getD i [] = A.getD i [] ∧ i < B.length := by
  obtain ⟨t, rfl⟩ := h
  refine ⟨?_, by simp; omega⟩
  rw [List.getD_eq_getElem?_getD, List.getElem?_append_left hi, ← List.getD_eq_getElem?_getD]
/-- Whatever became of its shard, an entry is shown. -/
theorem shown {ws : List Win} (hw : (wrongWins ws).1 = 0) (l : List Dd) (h5 : ∀ d ∈ l, d.kind ≠ 5) {i : Nat} (hi : i < l.length) (hk : (l.getD i dd0).kind = 1) (he : ((runL (startL ws) l).2.getD i ans0).err = 0) :
    ∃ k p : Nat, (runL (startL ws) l).2.getD i ans0 = ⟨0, (k : Int), (p : Int), 0, []⟩ ∧ k < ws.length ∧ (((runL (startL ws) l).1.shards.getD k shd0).state ≠ 1 →
      (showL (runL (startL ws) l).1 k p).2 = 0 ∧ (showL (runL (startL ws) l).1 k p).1.entry = (l.getD i dd0).entry ∧ checkL (showL (runL (startL ws) l).1 k p).1 ((runL (startL ws) l).1.book.length : Int) (mth (rowsOf (runL (startL ws) l).1.book)) = true) := by
  have ha := run_ans (startL ws) l hi
  rw [ha] at he ⊢
  have hok := run_ok (start_ok ws) (l.take i)
  obtain ⟨k, p, e1, e2, e3, e4, e5, e6, e7⟩ := taken_step hk he
  have hkw : k < ws.length := by rw [← hok.len]; exact e3
  refine ⟨k, p, e1, hkw, fun hst => ?_⟩
  have hokF := run_ok (start_ok ws) l
  have hfin : (runL (startL ws) l).1 = (runL (stepL (runL (startL ws) (l.take i)).1 (l.getD i dd0)).1 (l.drop (i + 1))).1 := by
    have := runL_append (startL ws) (l.take (i + 1)) (l.drop (i + 1))
    rw [List.take_append_drop] at this
    rw [this, take_snoc_dd hi, runL_snoc]
  have hc := (run_clean (start_ok ws) (start_clean ws) (l.take i) (fun d hd => h5 d (List.mem_of_mem_take hd))).1
  have hmem : l.getD i dd0 ∈ l := by rw [List.getD_eq_getElem?_getD, List.getElem?_eq_getElem hi]; exact List.getElem_mem hi
  have hc1 := (step_clean hok hc (h5 _ hmem)).1
  have hpre := (run_clean (step_ok hok _) hc1 (l.drop (i + 1)) (fun d hd => h5 d (List.mem_of_mem_drop hd))).2 k
  rw [← hfin, content_open (by rw [e5]; decide)] at hpre
  obtain ⟨g1, g2⟩ := prefix_get hpre e6
  obtain ⟨-, -, c3, -, -, -⟩ := content_ok (hokF.each k hkw)
  obtain ⟨row, -, -, es, ec⟩ := show_right hw hokF hkw hst (i := p) (by rw [← c3]; omega)
  rw [es]
  exact ⟨rfl, by dsimp only; rw [g1, e7], ec⟩

end Go.Proofs.YtkjlchfmplcobagGreatDoor

/- Variables as blocks of memory: what they hold, and what becomes of them. Nothing of the program is in it. -/
namespace Go.Proofs.YtkjlchfmplcobagGreatDoor
open Go.RowKit

theorem lt_heap {w : World} {k : Nat} {o : Obj} (h : w.heap[k]? = some o) : k < w.heap.size := by
  rcases Nat.lt_or_ge k w.heap.size with h' | h'
  · exact h'
  · rw [Array.getElem?_eq_none h'] at h; cases h
theorem box_new (w : World) (c : Array Value) (t : TypeId) : (w.alloc (.cells c t)).heap[w.heap.size]? = some (.cells c t (0, 0)) := heap_alloc_new w _
theorem box_old (w : World) (o : Obj) {k : Nat} {x : Obj} (h : w.heap[k]? = some x) : (w.alloc o).heap[k]? = some x := by
  have := ((Below.refl w.heap.size w).alloc (Nat.le_refl _) o).block k (lt_heap h)
  rw [this]; exact h
theorem box_one (w : World) (c : Array Value) (t : TypeId) (o : Obj) : ((w.alloc (.cells c t)).alloc o).heap[w.heap.size]? = some (.cells c t (0, 0)) := box_old _ _ (box_new _ _ _)
theorem box_last (w : World) (o : Obj) (c : Array Value) (t : TypeId) : ((w.alloc o).alloc (.cells c t)).heap[w.heap.size + 1]? = some (.cells c t (0, 0)) := by
  have := box_new (w.alloc o) c t
  rwa [World.size_alloc] at this
theorem box_below {B k : Nat} {w w' : World} {x : Obj} (h : w.heap[k]? = some x) (hb : Below B w w') (hk : k < B) : w'.heap[k]? = some x := by rw [hb.block k hk]; exact h
theorem box_kept {k : Nat} {w w' : World} {x : Obj} (h : w.heap[k]? = some x) (hb : Below w.heap.size w w') : w'.heap[k]? = some x := box_below h hb (lt_heap h)
/-- What a variable of two cells holds. -/
theorem box_two {w : World} {k : Nat} {u v : Value} {t : TypeId} (h : w.heap[k]? = some (.cells #[u, v] t (0, 0))) :
    w.cell? ⟨k, 0, none⟩ = some u ∧ w.cell? ⟨k, 1, none⟩ = some v ∧ w.frozen? ⟨k, 0, none⟩ = false ∧ w.frozen? ⟨k, 1, none⟩ = false :=
  ⟨cell_of_row w k 0 _ t _ h, cell_of_row w k 1 _ t _ h, frozen_of_row w k 0 _ t h, frozen_of_row w k 1 _ t h⟩
theorem box_cell {w : World} {k : Nat} {u : Value} {t : TypeId} (h : w.heap[k]? = some (.cells #[u] t (0, 0))) : w.cell? ⟨k, 0, none⟩ = some u ∧ w.frozen? ⟨k, 0, none⟩ = false := ⟨cell_of_one h, free_of_one h⟩
theorem box_set {w : World} {k : Nat} {u v : Value} {t : TypeId} (h : w.heap[k]? = some (.cells #[u] t (0, 0))) : (w.setCell ⟨k, 0, none⟩ v).heap[k]? = some (.cells #[v] t (0, 0)) := one_setCell h
theorem box_set_far {w : World} {k j o : Nat} {v : Value} {x : Obj} (h : w.heap[k]? = some x) (hj : k ≠ j) : (w.setCell ⟨j, o, none⟩ v).heap[k]? = some x := by rw [heap_setCell_other w ⟨j, o, none⟩ k v hj]; exact h
theorem box_drew {w : World} {k : Nat} {x : Obj} (h : w.heap[k]? = some x) : w.drew.heap[k]? = some x := h
/-- A row of the call's own has grown: variables of other types are as they were. -/
theorem own_box {w : World} {base k n : Nat} {e t : TypeId} {v : Value} {xs : List Value} {c : Array Value} (ho : w.ownsRow base e 1 v n xs) (hk : w.heap[k]? = some (.cells c t (0, 0))) (ht : t ≠ e) : v.ownBlock ≠ some k := fun h => by
  rcases ho.2 with ⟨rfl, -⟩ | ⟨g, cap, cur, rfl, -, hh, -⟩
  · cases h
  · cases h
    rw [hh] at hk
    cases hk
    exact ht rfl
theorem grown_box {w w' : World} {base k n : Nat} {e t : TypeId} {v : Value} {xs : List Value} {c : Array Value} (hg : w.grownBy w' v.ownBlock) (ho : w.ownsRow base e 1 v n xs) (hk : w.heap[k]? = some (.cells c t (0, 0))) (ht : t ≠ e) : w'.heap[k]? = some (.cells c t (0, 0)) := by
  rw [hg.block k (lt_heap hk) (fun h => own_box ho hk ht h.symm)]; exact hk
theorem own_set {w : World} {base k n : Nat} {e t : TypeId} {v : Value} {xs : List Value} {c : Array Value} (ho : w.ownsRow base e 1 v n xs) (hk : w.heap[k]? = some (.cells c t (0, 0))) (ht : t ≠ e) (u : Value) : (w.setCell ⟨k, 0, none⟩ u).ownsRow base e 1 v n xs :=
  ownsRow_setCell_other ho (a := ⟨k, 0, none⟩) (own_box ho hk ht) u

end Go.Proofs.YtkjlchfmplcobagGreatDoor

/- What the laws of chapter 6 ask of package book's faces, as propositions: each is shown of the landed code elsewhere. Records in memory. -/
namespace Go.Proofs.YtkjlchfmplcobagGreatDoor
open Go.RowKit

/-- A record as the walks meet it. -/
def RecV (w : World) (v : Value) (r : Rec) : Prop := ∃ ra rc, v = .agg #[.int .i64 r.shard, .int .i64 r.from', .int .i64 r.to', .int .i64 r.size, .slice ra r.root.length rc] ∧ Some' w (.slice ra r.root.length rc) r.root
theorem RecV.below {w w' : World} {v : Value} {r : Rec} (h : RecV w v r) (hb : Below w.heap.size w w') : RecV w' v r := by
  obtain ⟨ra, rc, h1, h2⟩ := h
  exact ⟨ra, rc, h1, h2.below hb⟩
/-- A record's cells. -/
def RecCells (w : World) (b o : Nat) (r : Rec) : Prop := w.cell? ⟨b, o, none⟩ = some (.int .i64 r.shard) ∧ w.cell? ⟨b, o + 1, none⟩ = some (.int .i64 r.from') ∧ w.cell? ⟨b, o + 2, none⟩ = some (.int .i64 r.to') ∧ w.cell? ⟨b, o + 3, none⟩ = some (.int .i64 r.size) ∧
  ∃ ra rc, w.cell? ⟨b, o + 4, none⟩ = some (.slice ra r.root.length rc) ∧ Some' w (.slice ra r.root.length rc) r.root
theorem RecCells.below {w w' : World} {b o : Nat} {r : Rec} (h : RecCells w b o r) (hb : b < w.heap.size) (hw : Below w.heap.size w w') : RecCells w' b o r := by
  obtain ⟨h0, h1, h2, h3, ra, rc, h4, h5⟩ := h
  exact ⟨by rw [hw.cell (p := ⟨b, o, none⟩) hb]; exact h0, by rw [hw.cell (p := ⟨b, o + 1, none⟩) hb]; exact h1, by rw [hw.cell (p := ⟨b, o + 2, none⟩) hb]; exact h2, by rw [hw.cell (p := ⟨b, o + 3, none⟩) hb]; exact h3, ra, rc, by rw [hw.cell (p := ⟨b, o + 4, none⟩) hb]; exact h4, h5.below hw⟩
/-- Records as the walks meet them. -/
def RecsAt (w : World) (v : Value) (l : List Rec) : Prop :=
  ∃ a c, v = .slice a l.length c ∧ l.length ≤ c ∧ c ≤ maxLen ∧ (a = none → c = 0) ∧ (l.length = 0 ∨ ∃ b off, a = some ⟨b, off, none⟩ ∧ b < w.heap.size ∧ ∀ j, j < l.length → RecCells w b (off + j * 5) (l.getD j rec0))
theorem RecsAt.below {w w' : World} {v : Value} {l : List Rec} (h : RecsAt w v l) (hw : Below w.heap.size w w') : RecsAt w' v l := by
  obtain ⟨a, c, h1, h2, h3, h4, h5⟩ := h
  refine ⟨a, c, h1, h2, h3, h4, ?_⟩
  rcases h5 with h5 | ⟨b, off, h6, h7, h8⟩
  · exact .inl h5
  · exact .inr ⟨b, off, h6, Nat.lt_of_lt_of_le h7 hw.size, fun j hj => (h8 j hj).below h7 hw⟩
theorem RecsAt.bytes {w : World} {v : Value} {l : List Rec} (h : RecsAt w v l) (j : Nat) : Bytes (l.getD j rec0).root := by
  obtain ⟨a, c, -, -, -, -, h5⟩ := h
  by_cases hj : j < l.length
  · rcases h5 with h5 | ⟨b, off, -, -, h8⟩
    · omega
    · obtain ⟨-, -, -, -, ra, rc, -, h2⟩ := h8 j hj
      exact h2.bytes
  · rw [List.getD_eq_getElem?_getD, List.getElem?_eq_none (by omega)]; exact nil_bytes
theorem rows_bytes {l : List Rec} (h : (wrongRecs l).1 = 0) (hb : ∀ j, Bytes (l.getD j rec0).root) : ∀ j, Bytes ((rowsOf l).getD j []) := fun j => by
  by_cases hj : j < l.length
  · rw [rows_get hj]; exact row_bytes ((wrongRecs_ok h).2 j hj) (hb j)
  · rw [List.getD_eq_getElem?_getD, List.getElem?_eq_none (by rw [rows_length]; omega)]; exact nil_bytes
/-- What Head tells. -/
def bookSize (l : List Rec) : Int := if (wrongRecs l).1 ≠ 0 then 0 else (l.length : Int)
def bookRoot (l : List Rec) : List Int := if (wrongRecs l).1 ≠ 0 then [] else mth (rowsOf l)
/-- The faces. -/
def RecWrongC : Prop := ∀ (r : Rec) (v : Value) (w : World), RecV w v r →
  Calls Tryz.prog 55 #[v] w fun e w' => e = .returned (.int .i64 (wrongRec r)) ∧ Below w.heap.size w w'
def RecBytesC : Prop := ∀ (r : Rec) (v : Value) (w : World), RecV w v r →
  Calls Tryz.prog 38 #[v] w fun e w' => ∃ xa xn xc, e = .returned (.tuple #[.slice xa xn xc, .int .i64 (wrongRec r)]) ∧ w'.ownsRow w.heap.size 5 1 (.slice xa xn xc) xn ((bytesE r).map (Value.int .u8)) ∧ Below w.heap.size w w'
def BookHeadC : Prop := ∀ (l : List Rec) (lv : Value) (w : World), Ready w → RecsAt w lv l →
  Calls Tryz.prog 16 #[lv] w fun e w' => ∃ ra rc, e = .returned (.tuple #[.agg #[.int .i64 (bookSize l), .slice ra (bookRoot l).length rc], faultV (wrongRecs l)]) ∧ Some' w' (.slice ra (bookRoot l).length rc) (bookRoot l) ∧ Below w.heap.size w w'
def BookPathC : Prop := ∀ (l : List Rec) (row : Int) (lv : Value) (w : World), Ready w → RecsAt w lv l →
  Calls Tryz.prog 29 #[lv, .int .i64 row] w fun e w' => ∃ xa xn xc, e = .returned (.tuple #[.slice xa xn xc, faultV (bookPathF l row)]) ∧ ((bookPathF l row).1 = 0 → OwnParts w' w.heap.size (.slice xa xn xc) (pathL (rowsOf l) row.toNat)) ∧ ((bookPathF l row).1 ≠ 0 → xn = 0) ∧ Below w.heap.size w w'
end Go.Proofs.YtkjlchfmplcobagGreatDoor

/- What the laws of chapter 4 ask of package pack's faces, as propositions: each is shown of the landed code elsewhere. Tokens in memory. -/
namespace Go.Proofs.YtkjlchfmplcobagGreatDoor
open Go.RowKit

def tok0 : Tok := ⟨0, 0, 0⟩
/-- Tokens as the walks meet them. -/
def ToksAt (w : World) (v : Value) (l : List Tok) : Prop :=
  (l = [] ∧ ∃ a c, v = .slice a 0 c ∧ (a = none → c = 0) ∧ c ≤ maxLen) ∨ ∃ b off cp, v = .slice (some ⟨b, off, none⟩) l.length cp ∧ l.length ≤ cp ∧ cp ≤ maxLen ∧ b < w.heap.size ∧
    ∀ j, j < l.length → w.cell? ⟨b, off + j * 3, none⟩ = some (.int .i64 (l.getD j tok0).len) ∧ w.cell? ⟨b, off + j * 3 + 1, none⟩ = some (.int .i64 (l.getD j tok0).back) ∧ w.cell? ⟨b, off + j * 3 + 2, none⟩ = some (.int .u8 (l.getD j tok0).byte)
theorem ToksAt.below {w w' : World} {v : Value} {l : List Tok} {n : Nat} (h : ToksAt w v l) (hn : w.heap.size ≤ n) (hb : Below n w w') : ToksAt w' v l := by
  rcases h with h | ⟨b, off, cp, h1, h2, h3, h4, h5⟩
  · exact .inl h
  · refine .inr ⟨b, off, cp, h1, h2, h3, Nat.lt_of_lt_of_le h4 hb.size, fun j hj => ?_⟩
    obtain ⟨c0, c1, c2⟩ := h5 j hj
    exact ⟨by rw [hb.cell (p := ⟨b, off + j * 3, none⟩) (by show b < n; omega)]; exact c0, by rw [hb.cell (p := ⟨b, off + j * 3 + 1, none⟩) (by show b < n; omega)]; exact c1, by rw [hb.cell (p := ⟨b, off + j * 3 + 2, none⟩) (by show b < n; omega)]; exact c2⟩
theorem ToksAt.form {w : World} {v : Value} {l : List Tok} (h : ToksAt w v l) : ∃ a c, v = .slice a l.length c ∧ l.length ≤ c ∧ c ≤ maxLen ∧ (l.length = 0 ∨ ∃ b off, a = some ⟨b, off, none⟩ ∧ b < w.heap.size ∧ ∀ j, j < l.length → w.cell? ⟨b, off + j * 3, none⟩ = some (.int .i64 (l.getD j tok0).len) ∧ w.cell? ⟨b, off + j * 3 + 1, none⟩ = some (.int .i64 (l.getD j tok0).back) ∧ w.cell? ⟨b, off + j * 3 + 2, none⟩ = some (.int .u8 (l.getD j tok0).byte)) := by
  rcases h with ⟨rfl, a, c, h1, h2, h3⟩ | ⟨b, off, cp, h1, h2, h3, h4, h5⟩
  · exact ⟨a, c, h1, Nat.zero_le _, h3, .inl rfl⟩
  · exact ⟨_, cp, h1, h2, h3, .inr ⟨b, off, rfl, h4, h5⟩⟩
/-- A slice that has room for what it has. -/
def RoomV (v : Value) (n : Nat) : Prop := ∃ a c, v = .slice a n c ∧ n ≤ c ∧ c ≤ maxLen
@[reducible] def faultV4 (p : Int × Int) : Value := .agg #[.int .i64 p.1, .int .i64 p.2]
/-- What Tokens and Pack say. -/
def muchE (b : List Int) : Int := if 4000 < b.length then 4 else 0
def toksE (b : List Int) : List Tok := if 4000 < b.length then [] else tokensL b
def packE (b : List Int) : List Int := if 4000 < b.length then [] else packL b
def TokensC : Prop := ∀ (b : List Int) (bv : Value) (w : World), Some' w bv b →
  Calls Tryz.prog 103 #[bv] w fun e w' => ∃ v, e = .returned (.tuple #[v, .int .i64 (muchE b)]) ∧ ToksAt w' v (toksE b) ∧ Below w.heap.size w w'
def TextC : Prop := ∀ (l : List Tok) (lv : Value) (w : World), ToksAt w lv l →
  Calls Tryz.prog 98 #[lv] w fun e w' => ∃ v, e = .returned (.tuple #[v, faultV4 (textL l).2]) ∧ BytesAt w' v (textL l).1 ∧ RoomV v (textL l).1.length ∧ Below w.heap.size w w'
/-- Bytes that have room for what there is. -/
def RoomAt (w : World) (v : Value) (zs : List Int) : Prop := BytesAt w v zs ∧ RoomV v zs.length
theorem roomAt_nil (w : World) : RoomAt w (.slice none 0 0) [] := ⟨bytesAt_nil w, none, 0, rfl, Nat.le_refl _, Nat.zero_le _⟩
def PackOC : Prop := ∀ (b : List Int) (bv : Value) (w : World), Some' w bv b →
  Calls Tryz.prog 94 #[bv] w fun e w' => ∃ v, e = .returned (.tuple #[v, .int .i64 (muchE b)]) ∧ w'.ownsRow w.heap.size 5 1 v (packE b).length ((packE b).map (Value.int .u8)) ∧ Below w.heap.size w w'
def UnpackRC : Prop := ∀ (b : List Int) (bv : Value) (w : World), Some' w bv b → RoomV bv b.length →
  Calls Tryz.prog 86 #[bv] w fun e w' => ∃ v, e = .returned (.tuple #[v, .int .i64 (unpackL b).2]) ∧ RoomAt w' v (unpackL b).1 ∧ Below w.heap.size w w'
/-- What is packed is bytes. -/
theorem tokFrom_bytes {b : List Int} (hb : Bytes b) (d : Nat) : ∀ a, b.length - a = d → ∀ t ∈ tokFrom b a, 0 ≤ t.byte ∧ t.byte < 256 ∧ (t.len = 0 ∨ (3 ≤ t.len ∧ t.len ≤ 66 ∧ 1 ≤ t.back ∧ t.back ≤ 1024)) := by
  induction d using Nat.strongRecOn with
  | ind d ih =>
    intro a hd t ht
    by_cases h : a < b.length
    · rcases best_spec b a with hs | ⟨s1, s2, s3, s4, s5, s6, -⟩
      · rw [tokFrom_byte h (by rw [hs])] at ht
        rcases List.mem_cons.1 ht with rfl | ht
        · exact ⟨(hb a).1, (hb a).2, .inl rfl⟩
        · exact ih (b.length - (a + 1)) (by omega) (a + 1) rfl t ht
      · rw [tokFrom_more h (by omega)] at ht
        rcases List.mem_cons.1 ht with rfl | ht
        · refine ⟨by simp, by simp, .inr ?_⟩
          simp only
          omega
        · exact ih (b.length - (a + (bestL b a).1)) (by omega) (a + (bestL b a).1) rfl t ht
    · rw [tokFrom_end h] at ht
      cases ht
theorem bytes_of_mem {l : List Int} (h : ∀ x ∈ l, 0 ≤ x ∧ x < 256) : Bytes l := fun j => by
  rw [List.getD_eq_getElem?_getD]
  by_cases hj : j < l.length
  · rw [List.getElem?_eq_getElem hj]; exact h _ (List.getElem_mem hj)
  · rw [List.getElem?_eq_none (by omega)]; exact ⟨by decide, by decide⟩
theorem bodyT_bytes {t : Tok} (h0 : 0 ≤ t.byte) (h1 : t.byte < 256) (h : t.len = 0 ∨ (3 ≤ t.len ∧ t.len ≤ 66 ∧ 1 ≤ t.back ∧ t.back ≤ 1024)) : ∀ x ∈ bodyT t, 0 ≤ x ∧ x < 256 := fun x hx => by
  unfold bodyT at hx
  split at hx
  · rw [List.mem_singleton.1 hx]; exact ⟨h0, h1⟩
  · rename_i hn
    have := h.resolve_left hn
    unfold tokX at hx
    simp only [List.mem_cons, List.not_mem_nil, or_false] at hx
    omega
theorem groups_bytes (m : Nat) : ∀ l : List Tok, l.length = m → (∀ t ∈ l, 0 ≤ t.byte ∧ t.byte < 256 ∧ (t.len = 0 ∨ (3 ≤ t.len ∧ t.len ≤ 66 ∧ 1 ≤ t.back ∧ t.back ≤ 1024))) → ∀ x ∈ groupsL l, 0 ≤ x ∧ x < 256 := by
  induction m using Nat.strongRecOn with
  | ind m ih =>
    intro l hl hb x hx
    by_cases h : l.length = 0
    · rw [groupsL_none h] at hx; cases hx
    · rw [groupsL_more h] at hx
      rcases List.mem_cons.1 hx with rfl | hx
      · have := flagsN_byte l; omega
      · rcases List.mem_append.1 hx with hx | hx
        · obtain ⟨t, ht, hx⟩ := List.mem_flatMap.1 hx
          obtain ⟨h0, h1, h2⟩ := hb t (List.mem_of_mem_take ht)
          exact bodyT_bytes h0 h1 h2 x hx
        · exact ih (l.drop 8).length (by rw [List.length_drop]; omega) (l.drop 8) rfl (fun t ht => hb t (List.mem_of_mem_drop ht)) x hx
theorem pack_bytes {b : List Int} (hb : Bytes b) (hn : b.length ≤ 4000) : Bytes (packL b) := by
  refine bytes_of_mem (fun x hx => ?_)
  unfold packL writeL at hx
  rcases List.mem_append.1 hx with hx | hx
  · simp only [List.mem_cons, List.not_mem_nil, or_false] at hx
    omega
  · exact groups_bytes _ _ rfl (tokFrom_bytes hb _ 0 rfl) x hx
end Go.Proofs.YtkjlchfmplcobagGreatDoor
