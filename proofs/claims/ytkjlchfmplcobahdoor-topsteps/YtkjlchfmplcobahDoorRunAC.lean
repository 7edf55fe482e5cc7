/- FleetFace, BookRefRec, BookFive, FleetSame, FleetDos, TopDos, FleetAliveM, FleetTopM, as one text. -/
import Derived.Test.YtkjlchfmplcobahDoorProg
import Derived.Test.YtkjlchfmplcobahDoorRunAB
import Derived.Test.YtkjlchfmplcobahDoorRunAJ
import Derived.Test.YtkjlchfmplcobahDoorRunAF
import Derived.WalkKit
import Derived.WalkSpells
import Derived.WalkLawsBesides
import Derived.Deep.QuietTactic
import Derived.BigQuiet
import Derived.Deep.RegionHeld3
import Derived.BigRegion
import Derived.Test.YtkjlchfmplcobahDoorRunAA
import Derived.Deep.AppendLies
import Derived.Laws.AppendOwnNone
/- What the laws of chapter 7 ask of package fleet's faces, as propositions: each is shown of the landed code elsewhere. Fleets in memory. -/
namespace Go.Proofs.YtkjlchfmplcobahDoor
open Go.RowKit

/-- A slice of elements of n cells each, as the walks meet it. -/
def RowAt {α : Type} (n : Nat) (P : World → Nat → Nat → α → Prop) (z : α) (w : World) (v : Value) (l : List α) : Prop :=
  ∃ a c, v = .slice a l.length c ∧ l.length ≤ c ∧ c ≤ maxLen ∧ (a = none → c = 0) ∧ (l.length = 0 ∨ ∃ b off, a = some ⟨b, off, none⟩ ∧ b < w.heap.size ∧ ∀ j, j < l.length → P w b (off + j * n) (l.getD j z))
theorem RowAt.below {α : Type} {n : Nat} {P : World → Nat → Nat → α → Prop} {z : α} {w w' : World} {v : Value} {l : List α} (h : RowAt n P z w v l) (hw : Below w.heap.size w w') (hP : ∀ b o x, b < w.heap.size → P w b o x → P w' b o x) : RowAt n P z w' v l := by
  obtain ⟨a, c, h1, h2, h3, h4, h5⟩ := h
  refine ⟨a, c, h1, h2, h3, h4, ?_⟩
  rcases h5 with h5 | ⟨b, off, h6, h7, h8⟩
  · exact .inl h5
  · exact .inr ⟨b, off, h6, Nat.lt_of_lt_of_le h7 hw.size, fun j hj => hP _ _ _ h7 (h8 j hj)⟩
theorem RowAt.form {α : Type} {n : Nat} {P : World → Nat → Nat → α → Prop} {z : α} {w : World} {v : Value} {l : List α} (h : RowAt n P z w v l) : ∃ a c, v = .slice a l.length c := by
  obtain ⟨a, c, e, -⟩ := h; exact ⟨a, c, e⟩
theorem RowAt.nil {α : Type} (n : Nat) (P : World → Nat → Nat → α → Prop) (z : α) (w : World) : RowAt n P z w (.slice none 0 0) [] := ⟨none, 0, rfl, Nat.le_refl _, Nat.zero_le _, fun _ => rfl, .inl rfl⟩
theorem RowAt.first {α : Type} {n : Nat} {P : World → Nat → Nat → α → Prop} {z : α} {w : World} {a : Option Addr} {m c k : Nat} {l : List α} (h : RowAt n P z w (.slice a m c) l) (hm : l.length = m) (hk : k ≤ m) : RowAt n P z w (.slice a k c) (l.take k) := by
  obtain ⟨a', c', e, h2, h3, h4, h5⟩ := h
  rw [hm] at e h2 h5
  cases e
  have hl : (l.take k).length = k := by rw [List.length_take]; omega
  refine ⟨a, c, by rw [hl], by omega, h3, h4, ?_⟩
  by_cases hk0 : k = 0
  · exact .inl (by omega)
  obtain ⟨b, off, h6, h7, h8⟩ := h5.resolve_left (by omega)
  refine .inr ⟨b, off, h6, h7, fun j hj => ?_⟩
  rw [hl] at hj
  rw [List.getD_eq_getElem?_getD, List.getElem?_take, if_pos hj, ← List.getD_eq_getElem?_getD]
  exact h8 j (by omega)
def WinCells (w : World) (b o : Nat) (x : Win) : Prop := w.cell? ⟨b, o, none⟩ = some (.int .i64 x.a) ∧ w.cell? ⟨b, o + 1, none⟩ = some (.int .i64 x.b)
def WinsAt (w : World) (v : Value) (l : List Win) : Prop := RowAt 2 WinCells win0 w v l
theorem WinsAt.below {w w' : World} {v : Value} {l : List Win} (h : WinsAt w v l) (hw : Below w.heap.size w w') : WinsAt w' v l :=
  RowAt.below h hw (fun b o _ hb ⟨h1, h2⟩ => ⟨by rw [hw.cell (p := ⟨b, o, none⟩) hb]; exact h1, by rw [hw.cell (p := ⟨b, o + 1, none⟩) hb]; exact h2⟩)
/-- Numbers that their types hold. -/
abbrev DdFit (x : Dd) : Prop := (0 ≤ x.by' ∧ x.by' < 256) ∧ (-9223372036854775808 ≤ x.kind ∧ x.kind ≤ 9223372036854775807)
structure DdCells (w : World) (b o : Nat) (x : Dd) : Prop where
  kind : w.cell? ⟨b, o, none⟩ = some (.int .i64 x.kind)
  n : w.cell? ⟨b, o + 1, none⟩ = some (.int .i64 x.n)
  time : w.cell? ⟨b, o + 2, none⟩ = some (.int .i64 x.time)
  entry : ∃ pa pc, w.cell? ⟨b, o + 3, none⟩ = some (.slice pa x.entry.length pc) ∧ Some' w (.slice pa x.entry.length pc) x.entry
  segment : w.cell? ⟨b, o + 4, none⟩ = some (.int .i64 x.segment)
  at' : w.cell? ⟨b, o + 5, none⟩ = some (.int .i64 x.at')
  by' : w.cell? ⟨b, o + 6, none⟩ = some (.int .u8 x.by')
  byte : DdFit x
theorem DdCells.below {w w' : World} {b o : Nat} {x : Dd} (h : DdCells w b o x) (hb : b < w.heap.size) (hw : Below w.heap.size w w') : DdCells w' b o x := by
  obtain ⟨h1, h2, h3, ⟨pa, pc, h4, h4'⟩, h5, h6, h7, h8⟩ := h
  exact ⟨by rw [hw.cell (p := ⟨b, o, none⟩) hb]; exact h1, by rw [hw.cell (p := ⟨b, o + 1, none⟩) hb]; exact h2, by rw [hw.cell (p := ⟨b, o + 2, none⟩) hb]; exact h3, ⟨pa, pc, by rw [hw.cell (p := ⟨b, o + 3, none⟩) hb]; exact h4, h4'.below hw⟩, by rw [hw.cell (p := ⟨b, o + 4, none⟩) hb]; exact h5, by rw [hw.cell (p := ⟨b, o + 5, none⟩) hb]; exact h6, by rw [hw.cell (p := ⟨b, o + 6, none⟩) hb]; exact h7, h8⟩
def DosAt (w : World) (v : Value) (l : List Dd) : Prop := RowAt 7 DdCells dd0 w v l
theorem DosAt.below {w w' : World} {v : Value} {l : List Dd} (h : DosAt w v l) (hw : Below w.heap.size w w') : DosAt w' v l := RowAt.below h hw (fun _ _ _ hb hx => hx.below hb hw)
structure ShdCells (w : World) (b o : Nat) (s : Shd) : Prop where
  from' : w.cell? ⟨b, o, none⟩ = some (.int .i64 s.from')
  to' : w.cell? ⟨b, o + 1, none⟩ = some (.int .i64 s.to')
  state : w.cell? ⟨b, o + 2, none⟩ = some (.int .i64 s.state)
  entries : ∃ ea ec, w.cell? ⟨b, o + 3, none⟩ = some (.slice ea s.entries.length ec) ∧ Lists w ea s.entries.length ec s.entries
  size : w.cell? ⟨b, o + 4, none⟩ = some (.int .i64 s.man.size)
  root : ∃ ra rc, w.cell? ⟨b, o + 5, none⟩ = some (.slice ra s.man.root.length rc) ∧ Some' w (.slice ra s.man.root.length rc) s.man.root
  segs : ∃ ga gc, w.cell? ⟨b, o + 6, none⟩ = some (.slice ga s.man.segs.length gc) ∧ SegsAt w (.slice ga s.man.segs.length gc) s.man.segs
theorem ShdCells.below {w w' : World} {b o : Nat} {s : Shd} (h : ShdCells w b o s) (hb : b < w.heap.size) (hw : Below w.heap.size w w') : ShdCells w' b o s := by
  obtain ⟨h1, h2, h3, ⟨ea, ec, h4, h4'⟩, h5, ⟨ra, rc, h6, h6'⟩, ⟨ga, gc, h7, h7'⟩⟩ := h
  exact ⟨by rw [hw.cell (p := ⟨b, o, none⟩) hb]; exact h1, by rw [hw.cell (p := ⟨b, o + 1, none⟩) hb]; exact h2, by rw [hw.cell (p := ⟨b, o + 2, none⟩) hb]; exact h3, ⟨ea, ec, by rw [hw.cell (p := ⟨b, o + 3, none⟩) hb]; exact h4, h4'.below hw⟩, by rw [hw.cell (p := ⟨b, o + 4, none⟩) hb]; exact h5, ⟨ra, rc, by rw [hw.cell (p := ⟨b, o + 5, none⟩) hb]; exact h6, h6'.below hw⟩, ⟨ga, gc, by rw [hw.cell (p := ⟨b, o + 6, none⟩) hb]; exact h7, h7'.below hw⟩⟩
def ShdsAt (w : World) (v : Value) (l : List Shd) : Prop := RowAt 7 ShdCells shd0 w v l
theorem ShdsAt.below {w w' : World} {v : Value} {l : List Shd} (h : ShdsAt w v l) (hw : Below w.heap.size w w') : ShdsAt w' v l := RowAt.below h hw (fun _ _ _ hb hx => hx.below hb hw)
/-- A fleet as the walks meet it. -/
def FltV (w : World) (v : Value) (f : Flt) : Prop := ∃ sa sc ba bc, v = .agg #[.slice sa f.shards.length sc, .slice ba f.book.length bc] ∧ ShdsAt w (.slice sa f.shards.length sc) f.shards ∧ RecsAt w (.slice ba f.book.length bc) f.book
theorem FltV.below {w w' : World} {v : Value} {f : Flt} (h : FltV w v f) (hw : Below w.heap.size w w') : FltV w' v f := by
  obtain ⟨sa, sc, ba, bc, h1, h2, h3⟩ := h
  exact ⟨sa, sc, ba, bc, h1, h2.below hw, h3.below hw⟩
def AnsCells (w : World) (b o : Nat) (x : Ans) : Prop := w.cell? ⟨b, o, none⟩ = some (.int .i64 x.err) ∧ w.cell? ⟨b, o + 1, none⟩ = some (.int .i64 x.shard) ∧ w.cell? ⟨b, o + 2, none⟩ = some (.int .i64 x.place) ∧ w.cell? ⟨b, o + 3, none⟩ = some (.int .i64 x.size) ∧
  ∃ ra rc, w.cell? ⟨b, o + 4, none⟩ = some (.slice ra x.root.length rc) ∧ Some' w (.slice ra x.root.length rc) x.root
theorem AnsCells.below {w w' : World} {b o : Nat} {x : Ans} (h : AnsCells w b o x) (hb : b < w.heap.size) (hw : Below w.heap.size w w') : AnsCells w' b o x := by
  obtain ⟨h0, h1, h2, h3, ra, rc, h4, h5⟩ := h
  exact ⟨by rw [hw.cell (p := ⟨b, o, none⟩) hb]; exact h0, by rw [hw.cell (p := ⟨b, o + 1, none⟩) hb]; exact h1, by rw [hw.cell (p := ⟨b, o + 2, none⟩) hb]; exact h2, by rw [hw.cell (p := ⟨b, o + 3, none⟩) hb]; exact h3, ra, rc, by rw [hw.cell (p := ⟨b, o + 4, none⟩) hb]; exact h4, h5.below hw⟩
def AnssAt (w : World) (v : Value) (l : List Ans) : Prop := RowAt 5 AnsCells ans0 w v l
theorem AnssAt.below {w w' : World} {v : Value} {l : List Ans} (h : AnssAt w v l) (hw : Below w.heap.size w w') : AnssAt w' v l := RowAt.below h hw (fun _ _ _ hb hx => hx.below hb hw)
/-- What is shown, as the walks meet it. -/
structure ShwV (w : World) (v : Value) (s : Shw) : Prop where
  form : ∃ ea ec pa pc ra rc ba bc ha hc, v = .agg #[.slice ea s.entry.length ec, .int .i64 s.place, .int .i64 s.shard, .slice pa s.path.length pc, .int .i64 s.rcd.shard, .int .i64 s.rcd.from', .int .i64 s.rcd.to', .int .i64 s.rcd.size, .slice ra s.rcd.root.length rc, .int .i64 s.row, .slice ba s.bookPath.length bc, .int .i64 s.hsize, .slice ha s.hroot.length hc] ∧
    Some' w (.slice ea s.entry.length ec) s.entry ∧ Lists w pa s.path.length pc s.path ∧ Some' w (.slice ra s.rcd.root.length rc) s.rcd.root ∧ Lists w ba s.bookPath.length bc s.bookPath ∧ Some' w (.slice ha s.hroot.length hc) s.hroot
theorem ShwV.below {w w' : World} {v : Value} {s : Shw} (h : ShwV w v s) (hw : Below w.heap.size w w') : ShwV w' v s := by
  obtain ⟨ea, ec, pa, pc, ra, rc, ba, bc, ha, hc, h1, h2, h3, h4, h5, h6⟩ := h.form
  exact ⟨ea, ec, pa, pc, ra, rc, ba, bc, ha, hc, h1, h2.below hw, h3.below hw, h4.below hw, h5.below hw, h6.below hw⟩
def PlayC : Prop := ∀ (ws : List Win) (l : List Dd) (wv dv : Value) (w : World), Ready w → WinsAt w wv ws → DosAt w dv l →
  Calls Tryd.prog 8 #[wv, dv] w fun e w' => ∃ fv av, e = .returned (.tuple #[fv, av, faultV (playF ws l)]) ∧ FltV w' fv (playL ws l).1 ∧ AnssAt w' av (playL ws l).2 ∧ Below w.heap.size w w'
end Go.Proofs.YtkjlchfmplcobahDoor

/- Boxes of records; the walks of yearref5.SameRecord and yearref5.WrongRecord. -/
namespace Go.Proofs.YtkjlchfmplcobahDoor
open Go.RowKit

/-- What a variable of five cells holds. -/
theorem box_five {w : World} {k : Nat} {a b c d e : Value} {t : TypeId} (h : w.heap[k]? = some (.cells #[a, b, c, d, e] t (0, 0))) :
    w.cell? ⟨k, 0, none⟩ = some a ∧ w.cell? ⟨k, 1, none⟩ = some b ∧ w.cell? ⟨k, 2, none⟩ = some c ∧ w.cell? ⟨k, 3, none⟩ = some d ∧ w.cell? ⟨k, 4, none⟩ = some e :=
  ⟨cell_of_row w k 0 _ t _ h, cell_of_row w k 1 _ t _ h, cell_of_row w k 2 _ t _ h, cell_of_row w k 3 _ t _ h, cell_of_row w k 4 _ t _ h⟩
end Go.Proofs.YtkjlchfmplcobahDoor

/- Five cells written; old memory kept. Nothing of the program's functions is in it. -/
namespace Go.Proofs.YtkjlchfmplcobahDoor
open Go.RowKit

/-- Five cells written. -/
theorem five_set {w : World} {R : Nat} {a b c d e : Value} {t : TypeId} (h : w.heap[R]? = some (.cells #[a, b, c, d, e] t (0, 0))) (u0 u1 u2 u3 u4 : Value) : (((((w.setCell ⟨R, 0, none⟩ u0).setCell ⟨R, 1, none⟩ u1).setCell ⟨R, 2, none⟩ u2).setCell ⟨R, 3, none⟩ u3).setCell ⟨R, 4, none⟩ u4).heap[R]? = some (.cells #[u0, u1, u2, u3, u4] t (0, 0)) := by
  have h0 := heap_setCell_same w R 0 _ t u0 h
  have h1 := heap_setCell_same _ R 1 _ t u1 h0
  have h2 := heap_setCell_same _ R 2 _ t u2 h1
  have h3 := heap_setCell_same _ R 3 _ t u3 h2
  exact heap_setCell_same _ R 4 _ t u4 h3
theorem five_below {B R : Nat} {w0 w : World} (h : Below B w0 w) (hR : B ≤ R) (u0 u1 u2 u3 u4 : Value) : Below B w0 (((((w.setCell ⟨R, 0, none⟩ u0).setCell ⟨R, 1, none⟩ u1).setCell ⟨R, 2, none⟩ u2).setCell ⟨R, 3, none⟩ u3).setCell ⟨R, 4, none⟩ u4) := ((((h.setCell hR _).setCell hR _).setCell hR _).setCell hR _).setCell hR _
theorem five_own {w : World} {base R n : Nat} {e : TypeId} {v : Value} {xs : List Value} (h : w.ownsRow base e 1 v n xs) (hR : R < base) (u0 u1 u2 u3 u4 : Value) : (((((w.setCell ⟨R, 0, none⟩ u0).setCell ⟨R, 1, none⟩ u1).setCell ⟨R, 2, none⟩ u2).setCell ⟨R, 3, none⟩ u3).setCell ⟨R, 4, none⟩ u4).ownsRow base e 1 v n xs :=
  ownsRow_setCell_below (ownsRow_setCell_below (ownsRow_setCell_below (ownsRow_setCell_below (ownsRow_setCell_below h hR _) hR _) hR _) hR _) hR _
/-- Two cells written. -/
theorem two_set {w : World} {R : Nat} {a b : Value} {t : TypeId} (h : w.heap[R]? = some (.cells #[a, b] t (0, 0))) (u0 u1 : Value) : ((w.setCell ⟨R, 0, none⟩ u0).setCell ⟨R, 1, none⟩ u1).heap[R]? = some (.cells #[u0, u1] t (0, 0)) := by
  have h0 := heap_setCell_same w R 0 _ t u0 h
  exact heap_setCell_same _ R 1 _ t u1 h0
theorem two_below {B R : Nat} {w0 w : World} (h : Below B w0 w) (hR : B ≤ R) (u0 u1 : Value) : Below B w0 ((w.setCell ⟨R, 0, none⟩ u0).setCell ⟨R, 1, none⟩ u1) := (h.setCell hR _).setCell hR _
theorem two_far {w : World} {R k : Nat} {x : Obj} (h : w.heap[k]? = some x) (hk : k ≠ R) (u0 u1 : Value) : ((w.setCell ⟨R, 0, none⟩ u0).setCell ⟨R, 1, none⟩ u1).heap[k]? = some x := box_set_far (box_set_far h hk) hk
end Go.Proofs.YtkjlchfmplcobahDoor

/- The walks of yearref5.SameAnswer, SameBook and SameFleet at what is the same. -/
namespace Go.Proofs.YtkjlchfmplcobahDoor
open Go.RowKit

/-- An answer as the walks meet it. -/
def AnsV (w : World) (v : Value) (x : Ans) : Prop := ∃ ra rc, v = .agg #[.int .i64 x.err, .int .i64 x.shard, .int .i64 x.place, .int .i64 x.size, .slice ra x.root.length rc] ∧ Some' w (.slice ra x.root.length rc) x.root
theorem AnsV.below {w w' : World} {v : Value} {x : Ans} (h : AnsV w v x) (hb : Below w.heap.size w w') : AnsV w' v x := by
  obtain ⟨ra, rc, h1, h2⟩ := h
  exact ⟨ra, rc, h1, h2.below hb⟩
end Go.Proofs.YtkjlchfmplcobahDoor

/- Things that are done, as rows of a call's own. -/
namespace Go.Proofs.YtkjlchfmplcobahDoor
open Go.RowKit

theorem Tryd.info27b : (Tryd.prog.info? 27).map (fun i => (i.zero, i.size, i.bytes)) = some (some (.agg #[.int .i64 0, .int .i64 0, .int .i64 0, .slice none 0 0, .int .i64 0, .int .i64 0, .int .u8 0]), 7, 72) := by kernel_rfl
theorem own7_below {w w' : World} {base : Nat} {e : TypeId} {v : Value} {n N : Nat} {xs : List Value} (h : w.ownsRow base e 7 v n xs) (hb : Below N w w') (hN : w.heap.size ≤ N) : w'.ownsRow base e 7 v n xs :=
  h.kept (w' := w') (row := none) ⟨hb.os, hb.tape, hb.output, hb.size, fun k hk _ => hb.block k (Nat.lt_of_lt_of_le hk hN)⟩ (by cases v.ownBlock <;> simp)
theorem own7_form {w : World} {base : Nat} {e : TypeId} {v : Value} {n : Nat} {xs : List Value} (h : w.ownsRow base e 7 v n xs) : ∃ a c, v = .slice a n c := by
  rcases h.2 with ⟨hv, rfl⟩ | ⟨g, cap, cur, hv, -⟩
  · exact ⟨none, 0, hv⟩
  · exact ⟨_, cap, hv⟩
theorem own7_block {w : World} {base : Nat} {e : TypeId} {v : Value} {n : Nat} {xs : List Value} (h : w.ownsRow base e 7 v n xs) {q : Nat} (hq : v.ownBlock = some q) : base ≤ q := by
  rcases h.2 with ⟨e, -⟩ | ⟨g, cap, cur, e, hg, -⟩
  · rw [e] at hq; cases hq
  · rw [e] at hq; cases hq; exact hg
/-- A block of another type is no part of such a row. -/
theorem own7_apart {w : World} {base k n : Nat} {e t : TypeId} {v : Value} {xs : List Value} {c : Array Value} (ho : w.ownsRow base e 7 v n xs) (ht : t ≠ e) (hk : w.heap[k]? = some (.cells c t (0, 0))) : some k ≠ v.ownBlock := fun h => by
  rcases ho.2 with ⟨rfl, -⟩ | ⟨g, cap, cur, rfl, -, hh, -⟩
  · cases h
  · cases h
    rw [hh] at hk
    cases hk
    exact ht rfl
/-- The values of one thing that is done. -/
def ddV (x : Dd) (pa : Option Addr) (pc : Nat) : List Value := [.int .i64 x.kind, .int .i64 x.n, .int .i64 x.time, .slice pa x.entry.length pc, .int .i64 x.segment, .int .i64 x.at', .int .u8 x.by']
theorem ddV_one (x : Dd) (pa : Option Addr) (pc : Nat) : ∀ u ∈ ddV x pa pc, u.oneCell' = true := by
  intro u hu
  simp [ddV] at hu
  rcases hu with rfl | rfl | rfl | rfl | rfl | rfl | rfl <;> rfl
/-- The values of several, whose entries lie in the world w. -/
def DoEls (w : World) (vs : List Value) (l : List Dd) : Prop :=
  vs.length = l.length * 7 ∧ ∀ j, j < l.length → ∃ pa pc, Some' w (.slice pa (l.getD j dd0).entry.length pc) (l.getD j dd0).entry ∧ DdFit (l.getD j dd0) ∧ ∀ i, i < 7 → vs[j * 7 + i]? = (ddV (l.getD j dd0) pa pc)[i]?
theorem DoEls.snoc {w : World} {vs : List Value} {l : List Dd} {x : Dd} {pa : Option Addr} {pc : Nat} (h : DoEls w vs l) (hx : Some' w (.slice pa x.entry.length pc) x.entry) (hb : DdFit x) : DoEls w (vs ++ ddV x pa pc) (l ++ [x]) := by
  obtain ⟨hl, h⟩ := h
  refine ⟨by rw [List.length_append, List.length_append, hl]; show l.length * 7 + 7 = (l.length + 1) * 7; omega, fun j hj => ?_⟩
  by_cases e : j < l.length
  · obtain ⟨qa, qc, h1, h2, h3⟩ := h j e
    have eg : (l ++ [x]).getD j dd0 = l.getD j dd0 := by rw [snoc_get, if_pos e]
    rw [eg]
    refine ⟨qa, qc, h1, h2, fun i hi => ?_⟩
    rw [List.getElem?_append_left (by omega)]
    exact h3 i hi
  · obtain rfl : j = l.length := by simp at hj; omega
    have eg : (l ++ [x]).getD l.length dd0 = x := by rw [snoc_get, if_neg (Nat.lt_irrefl _), if_pos rfl]
    rw [eg]
    refine ⟨pa, pc, hx, hb, fun i hi => ?_⟩
    rw [List.getElem?_append_right (by omega), hl, show l.length * 7 + i - l.length * 7 = i by omega]
/-- A row of a call's own, read as things that are done. -/
theorem DoEls.dos {w w' : World} {base : Nat} {v : Value} {vs : List Value} {l : List Dd} (h : DoEls w vs l) (ho : w'.ownsRow base 27 7 v l.length vs) (hb : Below w.heap.size w w') : DosAt w' v l := by
  obtain ⟨hl, h⟩ := h
  rcases ho.2 with ⟨hv, hn⟩ | ⟨g, cap, cur, rfl, -, hg, h3, h4, -⟩
  · exact ⟨none, 0, by rw [hv, hn], by omega, Nat.zero_le _, fun _ => rfl, .inl hn⟩
  · refine ⟨_, cap, rfl, h3, h4, (fun e => by cases e), .inr ⟨g, 0, rfl, lt_heap hg, fun j hj => ?_⟩⟩
    obtain ⟨pa, pc, h1, h2, h5⟩ := h j hj
    have hc : ∀ i, i < 7 → w'.cell? ⟨g, 0 + j * 7 + i, none⟩ = (ddV (l.getD j dd0) pa pc)[i]? := fun i hi => by rw [Nat.zero_add]; exact (ho.cellAt (j * 7 + i) (by omega)).trans (h5 i hi)
    exact ⟨hc 0 (by omega), hc 1 (by omega), hc 2 (by omega), ⟨pa, pc, hc 3 (by omega), h1.below hb⟩, hc 4 (by omega), hc 5 (by omega), hc 6 (by omega), h2⟩
theorem lit_dd (w : World) (x : Dd) (pa : Option Addr) (pc : Nat) (t : TypeId) : ∀ (j : Nat) (u : Value), (ddV x pa pc)[j]? = some u → (w.alloc (.cells #[.int .i64 x.kind, .int .i64 x.n, .int .i64 x.time, .slice pa x.entry.length pc, .int .i64 x.segment, .int .i64 x.at', .int .u8 x.by'] t)).cell? ((⟨w.heap.size, 0, none⟩ : Addr).add j) = some u := fun j u hj => by
  have hadd : (⟨w.heap.size, 0, none⟩ : Addr).add j = ⟨w.heap.size, 0 + j, none⟩ := Addr.add_mid _ _ _
  rw [hadd, Nat.zero_add]
  rw [cell_of_row _ _ j _ t _ (box_new w _ t), ← hj]
  simp [ddV]

end Go.Proofs.YtkjlchfmplcobahDoor

/- Windows and things to be done that a call makes: rows of its own. Nothing of the program's functions is in it. -/
namespace Go.Proofs.YtkjlchfmplcobahDoor
open Go.RowKit

theorem Tryd.info64b : (Tryd.prog.info? 64).map (fun i => (i.zero, i.size, i.bytes)) = some (some (.agg #[.int .i64 0, .int .i64 0]), 2, 16) := by kernel_rfl
/-- Bytes that lie below B, or in a block of bytes, or none. -/
def Away (B : Nat) (w : World) (v : Value) (d : List Int) : Prop := d = [] ∨ ∀ g, v.ownBlock = some g → g < w.heap.size ∧ (g < B ∨ ∃ cs mk, w.heap[g]? = some (.cells cs 5 mk))
theorem away_ne {B n : Nat} {w : World} {v u : Value} {xs : List Value} (h : ∀ g, v.ownBlock = some g → g < w.heap.size ∧ (g < B ∨ ∃ cs mk, w.heap[g]? = some (.cells cs 5 mk))) (ho : w.ownsRow B 27 7 u n xs) : ∀ g, v.ownBlock = some g → u.ownBlock ≠ some g := fun g hv hu => by
  rcases ho.2 with ⟨e, -⟩ | ⟨q, cap, cur, e, hb, hh, -⟩
  · rw [e] at hu; cases hu
  · rw [e] at hu
    cases hu
    obtain ⟨-, h1 | ⟨cs, mk, h1⟩⟩ := h q hv
    · omega
    · rw [hh] at h1; cases h1
theorem Away.grown {B n : Nat} {w w' : World} {v u : Value} {d : List Int} {xs : List Value} (h : Away B w v d) (ho : w.ownsRow B 27 7 u n xs) (hg : w.grownBy w' u.ownBlock) : Away B w' v d := by
  rcases h with h | h
  · exact .inl h
  · have hne := away_ne h ho
    refine .inr (fun g hv => ?_)
    obtain ⟨h0, h1⟩ := h g hv
    refine ⟨Nat.lt_of_lt_of_le h0 hg.size, ?_⟩
    rcases h1 with h1 | ⟨cs, mk, h1⟩
    · exact .inl h1
    · exact .inr ⟨cs, mk, (hg.block g h0 (fun e => hne g hv e.symm)).trans h1⟩
theorem Away.below {B : Nat} {w w' : World} {v : Value} {d : List Int} (h : Away B w v d) (hb : Below w.heap.size w w') : Away B w' v d := by
  rcases h with h | h
  · exact .inl h
  · refine .inr (fun g hv => ?_)
    obtain ⟨h0, h1⟩ := h g hv
    refine ⟨Nat.lt_of_lt_of_le h0 hb.size, ?_⟩
    rcases h1 with h1 | ⟨cs, mk, h1⟩
    · exact .inl h1
    · exact .inr ⟨cs, mk, (hb.block g h0).trans h1⟩
theorem away_nil (B : Nat) (w : World) (n c : Nat) : Away B w (.slice none n c) [] := .inl rfl
theorem Some'.away {B n : Nat} {w w' : World} {v u : Value} {d : List Int} {xs : List Value} (h : Some' w v d) (ha : Away B w v d) (ho : w.ownsRow B 27 7 u n xs) (g : w.grownBy w' u.ownBlock) : Some' w' v d := by
  refine ⟨?_, h.bytes, h.short⟩
  rcases h.at' with h1 | ⟨b, off, cp, h1, h2, h3⟩
  · exact .inl h1
  · rcases ha with rfl | ha
    · exact .inl ⟨rfl, _, _, h1, fun e => by cases e⟩
    · refine .inr ⟨b, off, cp, h1, Nat.lt_of_lt_of_le h2 g.size, fun j hj => ?_⟩
      have hne := away_ne ha ho b (by rw [h1]; rfl)
      rw [World.cell?_of_block (a := ⟨b, off + j, none⟩) (g.block b h2 (fun e => hne e.symm))]
      exact h3 j hj
/-- The values of things to be done, with entries that stay. -/
def DoB (B : Nat) (w : World) (vs : List Value) (l : List Dd) : Prop :=
  vs.length = l.length * 7 ∧ ∀ j, j < l.length → ∃ pa pc, Some' w (.slice pa (l.getD j dd0).entry.length pc) (l.getD j dd0).entry ∧ Away B w (.slice pa (l.getD j dd0).entry.length pc) (l.getD j dd0).entry ∧ DdFit (l.getD j dd0) ∧ ∀ i, i < 7 → vs[j * 7 + i]? = (ddV (l.getD j dd0) pa pc)[i]?
theorem doB_nil (B : Nat) (w : World) : DoB B w [] [] := ⟨rfl, fun _ hj => absurd hj (Nat.not_lt_zero _)⟩
theorem DoB.below {B : Nat} {w w' : World} {vs : List Value} {l : List Dd} (h : DoB B w vs l) (hb : Below w.heap.size w w') : DoB B w' vs l := ⟨h.1, fun j hj => by
  obtain ⟨pa, pc, h1, h2, h3⟩ := h.2 j hj
  exact ⟨pa, pc, h1.below hb, h2.below hb, h3⟩⟩
theorem DoB.grown {B n : Nat} {w w' : World} {vs : List Value} {l : List Dd} {u : Value} {xs : List Value} (h : DoB B w vs l) (ho : w.ownsRow B 27 7 u n xs) (hg : w.grownBy w' u.ownBlock) : DoB B w' vs l := ⟨h.1, fun j hj => by
  obtain ⟨pa, pc, h1, h2, h3⟩ := h.2 j hj
  exact ⟨pa, pc, h1.away h2 ho hg, h2.grown ho hg, h3⟩⟩
theorem DoB.snoc {B : Nat} {w : World} {vs : List Value} {l : List Dd} {x : Dd} {pa : Option Addr} {pc : Nat} (h : DoB B w vs l) (hx : Some' w (.slice pa x.entry.length pc) x.entry) (ha : Away B w (.slice pa x.entry.length pc) x.entry) (hb : DdFit x) : DoB B w (vs ++ ddV x pa pc) (l ++ [x]) := by
  obtain ⟨hl, h⟩ := h
  refine ⟨by rw [List.length_append, List.length_append, hl]; show l.length * 7 + 7 = (l.length + 1) * 7; omega, fun j hj => ?_⟩
  by_cases e : j < l.length
  · obtain ⟨qa, qc, h1, h2, h3, h4⟩ := h j e
    have eg : (l ++ [x]).getD j dd0 = l.getD j dd0 := by rw [snoc_get, if_pos e]
    rw [eg]
    refine ⟨qa, qc, h1, h2, h3, fun i hi => ?_⟩
    rw [List.getElem?_append_left (by omega)]
    exact h4 i hi
  · obtain rfl : j = l.length := by simp at hj; omega
    have eg : (l ++ [x]).getD l.length dd0 = x := by rw [snoc_get, if_neg (Nat.lt_irrefl _), if_pos rfl]
    rw [eg]
    refine ⟨pa, pc, hx, ha, hb, fun i hi => ?_⟩
    rw [List.getElem?_append_right (by omega), hl, show l.length * 7 + i - l.length * 7 = i by omega]
theorem DoB.dos {B b : Nat} {w : World} {v : Value} {vs : List Value} {l : List Dd} (h : DoB B w vs l) (ho : w.ownsRow b 27 7 v l.length vs) : DosAt w v l :=
  DoEls.dos (w := w) ⟨h.1, fun j hj => by obtain ⟨pa, pc, h1, -, h2, h3⟩ := h.2 j hj; exact ⟨pa, pc, h1, h2, h3⟩⟩ ho (Below.refl _ _)
/-- The values of windows. -/
def winV (x : Win) : List Value := [.int .i64 x.a, .int .i64 x.b]
def WinEls (vs : List Value) (l : List Win) : Prop := vs.length = l.length * 2 ∧ ∀ j, j < l.length → ∀ i, i < 2 → vs[j * 2 + i]? = (winV (l.getD j win0))[i]?
theorem winEls_nil : WinEls [] [] := ⟨rfl, fun _ hj => absurd hj (Nat.not_lt_zero _)⟩
theorem WinEls.snoc {vs : List Value} {l : List Win} {x : Win} (h : WinEls vs l) : WinEls (vs ++ winV x) (l ++ [x]) := by
  obtain ⟨hl, h⟩ := h
  refine ⟨by rw [List.length_append, List.length_append, hl]; show l.length * 2 + 2 = (l.length + 1) * 2; omega, fun j hj i hi => ?_⟩
  by_cases e : j < l.length
  · rw [snoc_get, if_pos e, List.getElem?_append_left (by omega)]
    exact h j e i hi
  · obtain rfl : j = l.length := by simp at hj; omega
    rw [snoc_get, if_neg (Nat.lt_irrefl _), if_pos rfl, List.getElem?_append_right (by omega), hl, show l.length * 2 + i - l.length * 2 = i by omega]
theorem WinEls.wins {b : Nat} {w : World} {v : Value} {vs : List Value} {l : List Win} (h : WinEls vs l) (ho : w.ownsRow b 64 2 v l.length vs) : WinsAt w v l := by
  rcases ho.2 with ⟨hv, hn⟩ | ⟨g, cap, cur, rfl, -, hg, h3, h4, -⟩
  · exact ⟨none, 0, by rw [hv, hn], by omega, Nat.zero_le _, fun _ => rfl, .inl hn⟩
  · refine ⟨_, cap, rfl, h3, h4, (fun e => by cases e), .inr ⟨g, 0, rfl, lt_heap hg, fun j hj => ?_⟩⟩
    have hc : ∀ i, i < 2 → w.cell? ⟨g, 0 + j * 2 + i, none⟩ = (winV (l.getD j win0))[i]? := fun i hi => by rw [Nat.zero_add]; exact (ho.cellAt (j * 2 + i) (by have := h.1; omega)).trans (h.2 j hj i hi)
    exact ⟨hc 0 (by omega), hc 1 (by omega)⟩
theorem own2_form {w : World} {base : Nat} {e : TypeId} {size : Nat} {v : Value} {n : Nat} {xs : List Value} (h : w.ownsRow base e size v n xs) : ∃ a c, v = .slice a n c := by
  rcases h.2 with ⟨hv, rfl⟩ | ⟨g, cap, cur, hv, -⟩
  · exact ⟨none, 0, hv⟩
  · exact ⟨_, cap, hv⟩
theorem lit_win (w : World) (x : Win) (t : TypeId) : ∀ (j : Nat) (u : Value), (winV x)[j]? = some u → (w.alloc (.cells #[.int .i64 x.a, .int .i64 x.b] t)).cell? ((⟨w.heap.size, 0, none⟩ : Addr).add j) = some u := fun j u hj => by
  have hadd : (⟨w.heap.size, 0, none⟩ : Addr).add j = ⟨w.heap.size, 0 + j, none⟩ := Addr.add_mid _ _ _
  rw [hadd, Nat.zero_add, cell_of_row _ _ j _ t _ (box_new w _ t), ← hj]
  simp [winV]

end Go.Proofs.YtkjlchfmplcobahDoor

/- The small fleet that each law of chapter 7 asks first. -/
namespace Go.Proofs.YtkjlchfmplcobahDoor

def doD (kind n : Int) : Dd := ⟨kind, n, 0, [], 0, 0, 0⟩
def subD (time : Int) (b : List Int) : Dd := ⟨1, 0, time, b, 0, 0, 0⟩
end Go.Proofs.YtkjlchfmplcobahDoor

/- Chapter 7's mathematics: years. -/
namespace Go.Proofs.YtkjlchfmplcobahDoor

/-- A shard with another state, other entries and another manifest. -/
abbrev upd (s : Shd) (st : Int) (es : List (List Int)) (m : Man) : Shd := ⟨s.from', s.to', st, es, m⟩
def subsL (t : Int) (es : List (List Int)) : List Dd := es.map (fun e => subD t e)
/-- Answers to entries that come behind n others. -/
def placesL (k n : Nat) (es : List (List Int)) : List Ans := (List.range es.length).map (fun i => ⟨0, (k : Int), ((n + i : Nat) : Int), 0, []⟩)
theorem place_absent {es : List (List Int)} {e : List Int} (h : e ∉ es) : placeOf es e = none :=
  find_none (fun j hj => decide_eq_false (fun g => h (by rw [← g, List.getD_eq_getElem?_getD, List.getElem?_eq_getElem hj]; exact List.getElem_mem hj)))
theorem sub_new {f : Flt} {k : Nat} {t : Int} {e : List Int} (hh : homeOf f.shards t = some k) (h1 : (f.shards.getD k shd0).state = 1) (hn : e ∉ (f.shards.getD k shd0).entries) (h200 : e.length ≤ 200) (h100 : (f.shards.getD k shd0).entries.length < 100) :
    stepL f (subD t e) = (f.put k (upd (f.shards.getD k shd0) ((f.shards.getD k shd0).state) ((f.shards.getD k shd0).entries ++ [e]) ((f.shards.getD k shd0).man)), ⟨0, (k : Int), ((f.shards.getD k shd0).entries.length : Int), 0, []⟩) := by
  unfold stepL
  rw [if_pos (show (subD t e).kind = 1 from rfl)]
  unfold submitL
  rw [if_neg (show ¬ 200 < (subD t e).entry.length from show ¬ 200 < e.length by omega)]
  have hh' : homeOf f.shards (subD t e).time = some k := hh
  rw [hh']
  dsimp only
  rw [if_neg (fun g => g h1)]
  have hp : placeOf (f.shards.getD k shd0).entries (subD t e).entry = none := place_absent hn
  rw [hp]
  dsimp only
  rw [if_neg (by omega)]
  rfl
theorem run_subs {k : Nat} {t : Int} : ∀ (es : List (List Int)) (f : Flt), homeOf f.shards t = some k → (f.shards.getD k shd0).state = 1 → es.Nodup → (∀ e ∈ es, e ∉ (f.shards.getD k shd0).entries) → (∀ e ∈ es, e.length ≤ 200) → (f.shards.getD k shd0).entries.length + es.length ≤ 100 →
    runL f (subsL t es) = (f.put k (upd (f.shards.getD k shd0) ((f.shards.getD k shd0).state) ((f.shards.getD k shd0).entries ++ es) ((f.shards.getD k shd0).man)), placesL k (f.shards.getD k shd0).entries.length es)
  | [], f, hh, _, _, _, _, _ => by
    obtain ⟨hk, -, -⟩ := home_some hh
    show (f, []) = _
    refine Prod.ext ?_ rfl
    show f = Flt.mk (f.shards.set k _) f.book
    rw [List.append_nil, set_same hk]
  | e :: es, f, hh, h1, hd, hn, h200, h100 => by
    obtain ⟨hk, -, -⟩ := home_some hh
    rw [List.length_cons] at h100
    have hstep := sub_new hh h1 (hn e (by simp)) (h200 e (by simp)) (by omega)
    obtain ⟨g, hg⟩ : ∃ g, g = f.put k (upd (f.shards.getD k shd0) ((f.shards.getD k shd0).state) ((f.shards.getD k shd0).entries ++ [e]) ((f.shards.getD k shd0).man)) := ⟨_, rfl⟩
    rw [← hg] at hstep
    have hgk : g.shards.getD k shd0 = (upd (f.shards.getD k shd0) ((f.shards.getD k shd0).state) ((f.shards.getD k shd0).entries ++ [e]) ((f.shards.getD k shd0).man)) := by rw [hg]; exact getD_set_same hk
    have hgh : homeOf g.shards t = some k := by rw [hg]; exact (home_put (l := f.shards) (k := k) (s := upd (f.shards.getD k shd0) ((f.shards.getD k shd0).state) ((f.shards.getD k shd0).entries ++ [e]) ((f.shards.getD k shd0).man)) ⟨rfl, rfl⟩ t).trans hh
    have ih := run_subs (k := k) (t := t) es g hgh (by rw [hgk]; exact h1) (List.nodup_cons.1 hd).2 (fun x hx => by
      rw [hgk]
      intro hm
      rcases List.mem_append.1 hm with q | q
      · exact hn x (by simp [hx]) q
      · rw [List.mem_singleton.1 q] at hx
        exact (List.nodup_cons.1 hd).1 hx) (fun x hx => h200 x (by simp [hx])) (by rw [hgk]; show ((f.shards.getD k shd0).entries ++ [e]).length + _ ≤ 100; rw [List.length_append, List.length_singleton]; omega)
    show ((runL (stepL f (subD t e)).1 (subsL t es)).1, (stepL f (subD t e)).2 :: (runL (stepL f (subD t e)).1 (subsL t es)).2) = _
    rw [hstep]
    dsimp only
    rw [ih, hgk]
    dsimp only
    refine Prod.ext ?_ ?_
    · show Flt.mk (g.shards.set k _) g.book = Flt.mk (f.shards.set k _) f.book
      rw [hg]
      show Flt.mk ((f.shards.set k _).set k _) f.book = _
      rw [List.set_set, List.append_assoc]
      rfl
    · show _ :: placesL k _ es = placesL k _ (e :: es)
      unfold placesL
      rw [List.length_cons, List.range_succ_eq_map, List.map_cons, List.map_map]
      congr 1
      refine List.map_congr_left (fun i _ => ?_)
      rw [List.length_append, List.length_singleton]
      show Ans.mk _ _ _ _ _ = Ans.mk _ _ _ _ _
      congr 2
      omega
/-- A year: entries come, and the shard is frozen, laid away, retired, as far as said. -/
def yearL (k : Nat) (es : List (List Int)) (far : Nat) : List Dd := subsL (10 * (k : Int) + 5) es ++ ([doD 2 k, doD 3 k, doD 4 k].take far)
def winsL (n : Nat) : List Win := (List.range n).map (fun (k : Nat) => ⟨10 * (k : Int), 10 * (k : Int) + 10⟩)
/-- Entries that may be taken. -/
structure Unlike (es : List (List Int)) : Prop where
  nodup : es.Nodup
  short : ∀ e ∈ es, e.length ≤ 200
  few : es.length ≤ 30
theorem freeze_step {f : Flt} {k : Nat} (hk : k < f.shards.length) (h1 : (f.shards.getD k shd0).state = 1) : stepL f (doD 2 k) = (⟨f.shards.set k (upd (f.shards.getD k shd0) (2) ((f.shards.getD k shd0).entries) ((f.shards.getD k shd0).man)), f.book ++ [⟨(k : Int), (f.shards.getD k shd0).from', (f.shards.getD k shd0).to', ((f.shards.getD k shd0).entries.length : Int), mth (f.shards.getD k shd0).entries⟩]⟩, ⟨0, (k : Int), 0, ((f.shards.getD k shd0).entries.length : Int), mth (f.shards.getD k shd0).entries⟩) := by
  unfold stepL
  rw [if_neg (show ¬ (doD 2 k).kind = 1 from show ¬ (2 : Int) = 1 by decide), if_neg (show ¬ ((doD 2 k).kind < 2 ∨ 5 < (doD 2 k).kind) from show ¬ ((2 : Int) < 2 ∨ 5 < (2 : Int)) by decide), if_neg (show ¬ ((doD 2 k).n < 0 ∨ (f.shards.length : Int) ≤ (doD 2 k).n) from show ¬ ((k : Int) < 0 ∨ (f.shards.length : Int) ≤ (k : Int)) by omega)]
  have : (doD 2 k).n.toNat = k := rfl
  rw [this, if_neg (fun g => g h1)]
  rfl
theorem export_step {f : Flt} {k : Nat} (hk : k < f.shards.length) (h2 : (f.shards.getD k shd0).state = 2) (hw : wrongL (f.shards.getD k shd0).entries = (0, 0)) : stepL f (doD 3 k) = (f.put k (upd (f.shards.getD k shd0) (3) ((f.shards.getD k shd0).entries) (exportL (f.shards.getD k shd0).entries)), ⟨0, (k : Int), 0, (exportL (f.shards.getD k shd0).entries).size, (exportL (f.shards.getD k shd0).entries).root⟩) := by
  unfold stepL
  rw [if_neg (show ¬ (doD 3 k).kind = 1 from show ¬ (3 : Int) = 1 by decide), if_neg (show ¬ ((doD 3 k).kind < 2 ∨ 5 < (doD 3 k).kind) from show ¬ ((3 : Int) < 2 ∨ 5 < (3 : Int)) by decide), if_neg (show ¬ ((doD 3 k).n < 0 ∨ (f.shards.length : Int) ≤ (doD 3 k).n) from show ¬ ((k : Int) < 0 ∨ (f.shards.length : Int) ≤ (k : Int)) by omega)]
  have : (doD 3 k).n.toNat = k := rfl
  rw [this, if_neg (fun g => g h2)]
  unfold stepAt
  dsimp only
  rw [if_neg (show ¬ (doD 3 k).kind = 2 from show ¬ (3 : Int) = 2 by decide), if_pos (show (doD 3 k).kind = 3 from rfl), hw, if_neg (fun g => g rfl)]
theorem retire_do {f : Flt} {k : Nat} (hk : k < f.shards.length) (h3 : (f.shards.getD k shd0).state = 3) : stepL f (doD 4 k) = if (verifyL (f.shards.getD k shd0).man).2.1 ≠ 0 then (f, no (verifyL (f.shards.getD k shd0).man).2.1) else (f.put k (upd (f.shards.getD k shd0) (4) ([]) ((f.shards.getD k shd0).man)), ⟨0, (k : Int), 0, (f.shards.getD k shd0).man.size, (f.shards.getD k shd0).man.root⟩) := by
  unfold stepL
  rw [if_neg (show ¬ (doD 4 k).kind = 1 from show ¬ (4 : Int) = 1 by decide), if_neg (show ¬ ((doD 4 k).kind < 2 ∨ 5 < (doD 4 k).kind) from show ¬ ((4 : Int) < 2 ∨ 5 < (4 : Int)) by decide), if_neg (show ¬ ((doD 4 k).n < 0 ∨ (f.shards.length : Int) ≤ (doD 4 k).n) from show ¬ ((k : Int) < 0 ∨ (f.shards.length : Int) ≤ (k : Int)) by omega)]
  have : (doD 4 k).n.toNat = k := rfl
  rw [this, if_neg (fun g => g h3)]
  rfl
/-- A shard as far as said. -/
def yearS (s : Shd) (es : List (List Int)) (far : Nat) : Shd :=
  match far with
  | 0 => (upd s (s.state) (es) (s.man))
  | 1 => (upd s (2) (es) (s.man))
  | 2 => (upd s (3) (es) (exportL es))
  | _ => (upd s (4) ([]) (exportL es))
def yearA (k : Nat) (es : List (List Int)) (far : Nat) : List Ans := placesL k 0 es ++ (List.replicate (min far 3) ⟨0, (k : Int), 0, (es.length : Int), mth es⟩)
theorem Unlike.wrong {es : List (List Int)} (h : Unlike es) : wrongL es = (0, 0) := wrong_zero (by have := h.few; omega) (fun j => by
  by_cases hj : j < es.length
  · rw [List.getD_eq_getElem?_getD, List.getElem?_eq_getElem hj]; exact h.short _ (List.getElem_mem hj)
  · rw [List.getD_eq_getElem?_getD, List.getElem?_eq_none (by omega)]; simp)
theorem Unlike.export {es : List (List Int)} (h : Unlike es) : exportL es = ⟨es.length, mth es, segsL es⟩ := by unfold exportL; rw [h.wrong, if_neg (fun g => g rfl)]
theorem Unlike.verify {es : List (List Int)} (h : Unlike es) : verifyL (exportL es) = (es, 0, 0) := by rw [h.export]; exact verify_export (by have := h.few; omega) h.short
theorem run_year {f : Flt} {k : Nat} {es : List (List Int)} (hu : Unlike es) (hh : homeOf f.shards (10 * (k : Int) + 5) = some k) (h1 : (f.shards.getD k shd0).state = 1) (h0 : (f.shards.getD k shd0).entries = []) {far : Nat} (hf1 : 1 ≤ far) (hf3 : far ≤ 3) :
    runL f (yearL k es far) = (⟨f.shards.set k (yearS (f.shards.getD k shd0) es far), f.book ++ [⟨(k : Int), (f.shards.getD k shd0).from', (f.shards.getD k shd0).to', (es.length : Int), mth es⟩]⟩, yearA k es far) := by
  obtain ⟨hk, -, -⟩ := home_some hh
  have hs := run_subs es f hh h1 hu.nodup (fun e _ => by rw [h0]; simp) hu.short (by rw [h0]; have := hu.few; simp; omega)
  rw [h0, List.nil_append] at hs
  unfold yearL
  rw [runL_append, hs]
  dsimp only
  obtain ⟨S, hS⟩ : ∃ S, S = f.shards.getD k shd0 := ⟨_, rfl⟩
  rw [← hS] at h1 h0 ⊢
  -- frozen
  have e1 : (f.put k (upd S (S.state) (es) (S.man))).shards.getD k shd0 = (upd S (S.state) (es) (S.man)) := getD_set_same hk
  have s1 := freeze_step (f := f.put k (upd S (S.state) (es) (S.man))) (k := k) (by show k < (f.shards.set k _).length; rw [List.length_set]; exact hk) (by rw [e1]; exact h1)
  rw [e1] at s1
  have f1 : (f.put k (upd S (S.state) (es) (S.man))).shards.set k (upd S (2) (es) (S.man)) = f.shards.set k (upd S (2) (es) (S.man)) := List.set_set ..
  dsimp only at s1
  rw [f1] at s1
  have hx := hu.export
  have harc : far = 1 ∨ far = 2 ∨ far = 3 := by omega
  rcases harc with rfl | rfl | rfl
  · show ((runL _ [doD 2 k]).1, _ ++ (runL _ [doD 2 k]).2) = _
    simp only [runL, s1]
    rfl
  · have e2 : (⟨f.shards.set k (upd S (2) (es) (S.man)), (f.put k (upd S (S.state) (es) (S.man))).book ++ [⟨(k : Int), S.from', S.to', (es.length : Int), mth es⟩]⟩ : Flt).shards.getD k shd0 = (upd S (2) (es) (S.man)) := getD_set_same hk
    have s2 := export_step (f := ⟨f.shards.set k (upd S (2) (es) (S.man)), (f.put k (upd S (S.state) (es) (S.man))).book ++ [⟨(k : Int), S.from', S.to', (es.length : Int), mth es⟩]⟩) (k := k) (by show k < (f.shards.set k _).length; rw [List.length_set]; exact hk) (by rw [e2]) (by rw [e2]; exact hu.wrong)
    rw [e2] at s2
    show ((runL _ [doD 2 k, doD 3 k]).1, _ ++ (runL _ [doD 2 k, doD 3 k]).2) = _
    simp only [runL, s1, s2]
    refine Prod.ext ?_ ?_
    · show Flt.mk ((f.shards.set k _).set k _) _ = Flt.mk _ _
      rw [List.set_set]
      rfl
    · show _ ++ [_, _] = placesL k 0 es ++ [_, _]
      rw [hx]
      rfl
  · have e2 : (⟨f.shards.set k (upd S (2) (es) (S.man)), (f.put k (upd S (S.state) (es) (S.man))).book ++ [⟨(k : Int), S.from', S.to', (es.length : Int), mth es⟩]⟩ : Flt).shards.getD k shd0 = (upd S (2) (es) (S.man)) := getD_set_same hk
    have s2 := export_step (f := ⟨f.shards.set k (upd S (2) (es) (S.man)), (f.put k (upd S (S.state) (es) (S.man))).book ++ [⟨(k : Int), S.from', S.to', (es.length : Int), mth es⟩]⟩) (k := k) (by show k < (f.shards.set k _).length; rw [List.length_set]; exact hk) (by rw [e2]) (by rw [e2]; exact hu.wrong)
    rw [e2] at s2
    dsimp only at s2
    obtain ⟨F2, hF2⟩ : ∃ F2, F2 = (⟨f.shards.set k (upd S (2) (es) (S.man)), (f.put k (upd S (S.state) (es) (S.man))).book ++ [⟨(k : Int), S.from', S.to', (es.length : Int), mth es⟩]⟩ : Flt).put k (upd S (3) (es) (exportL es)) := ⟨_, rfl⟩
    rw [← hF2] at s2
    have e3 : F2.shards.getD k shd0 = (upd S (3) (es) (exportL es)) := by rw [hF2]; exact getD_set_same (by show k < (f.shards.set k _).length; rw [List.length_set]; exact hk)
    have s3 := retire_do (f := F2) (k := k) (by rw [hF2]; show k < ((f.shards.set k _).set k _).length; rw [List.length_set, List.length_set]; exact hk) (by rw [e3])
    rw [e3] at s3
    dsimp only at s3
    rw [hu.verify, if_neg (fun g => g rfl)] at s3
    show ((runL _ [doD 2 k, doD 3 k, doD 4 k]).1, _ ++ (runL _ [doD 2 k, doD 3 k, doD 4 k]).2) = _
    simp only [runL, s1, s2, s3]
    refine Prod.ext ?_ ?_
    · rw [hF2]
      show Flt.mk (((f.shards.set k _).set k _).set k _) _ = Flt.mk _ _
      rw [List.set_set, List.set_set]
      rfl
    · show _ ++ [_, _, _] = placesL k 0 es ++ [_, _, _]
      rw [hx]
      rfl

end Go.Proofs.YtkjlchfmplcobahDoor
