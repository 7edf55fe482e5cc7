/- FleetFace, BookRefRec, BookFive, TreeSame, FleetSame, FleetDos, TopDos, FleetAliveM, as one text. -/
import Derived.Test.YtkjlchfmplcobagDoorProg
import Derived.Test.YtkjlchfmplcobagDoorRunAB
import Derived.Test.YtkjlchfmplcobagDoorRunAK
import Derived.Test.YtkjlchfmplcobagDoorRunAF
import Derived.Test.YtkjlchfmplcobagDoorShaSame
import Derived.WalkKit
import Derived.WalkSpells
import Derived.WalkLawsBesides
import Derived.Test.YtkjlchfmplcobagDoorRunAA
import Derived.Deep.QuietTactic
import Derived.BigQuiet
import Derived.Deep.RegionHeld3
import Derived.BigRegion
import Derived.Deep.AppendLies
import Derived.Laws.AppendOwnNone
/- What the laws of chapter 7 ask of package fleet's faces, as propositions: each is shown of the landed code elsewhere. Fleets in memory. -/
namespace Go.Proofs.YtkjlchfmplcobagDoor
open Go.RowKit

/-- A slice of elements of n cells each, as the walks meet it. -/
def RowAt {α : Type} (n : Nat) (P : World → Nat → Nat → α → Prop) (z : α) (w : World) (v : Value) (l : List α) : Prop :=
  ∃ a c, v = .slice a l.length c ∧ l.length ≤ c ∧ c ≤ maxLen ∧ (a = none → c = 0) ∧ (l.length = 0 ∨ ∃ b off, a = some ⟨b, off, none⟩ ∧ b < w.heap.size ∧ ∀ j, j < l.length → P w b (off + j * n) (l.getD j z))
theorem RowAt.below {α : Type} {n : Nat} {P : World → Nat → Nat → α → Prop} {z : α} {w w' : World} {v : Value} {l : List α} (h : RowAt n P z w v l) (hw : Below w.heap.size w w') (hP : ∀ b o x, b < w.heap.size → P w b o x → P w' b o x) : RowAt n P z w' v l := by
  obtain ⟨a, c, h1, h2, h3, h4, h5⟩ := h
  refine ⟨a, c, h1, h2, h3, h4, ?_⟩
  rcases h5 with h5 | ⟨b, off, h6, h7, h8⟩
  · exact .inl h5
  · exact .inr ⟨b, off, h6, Nat.lt_of_lt_of_le h7 hw.size, fun j hj => hP _ _ _ h7 (h8 j hj)⟩
theorem RowAt.form {α : Type} {n : Nat} {P : World → Nat → Nat → α → Prop} {z : α} {w : World} {v : Value} {l : List α} (h : RowAt n P z w v l) : ∃ a c, v = .slice a l.length c := by
  obtain ⟨a, c, e, -⟩ := h; exact ⟨a, c, e⟩
theorem RowAt.nil {α : Type} (n : Nat) (P : World → Nat → Nat → α → Prop) (z : α) (w : World) : RowAt n P z w (.slice none 0 0) [] := ⟨none, 0, rfl, Nat.le_refl _, Nat.zero_le _, fun _ => rfl, .inl rfl⟩
theorem RowAt.first {α : Type} {n : Nat} {P : World → Nat → Nat → α → Prop} {z : α} {w : World} {a : Option Addr} {m c k : Nat} {l : List α} (h : RowAt n P z w (.slice a m c) l) (hm : l.length = m) (hk : k ≤ m) : RowAt n P z w (.slice a k c) (l.take k) := by
  obtain ⟨a', c', e, h2, h3, h4, h5⟩ := h
  rw [hm] at e h2 h5
  cases e
  have hl : (l.take k).length = k := by rw [List.length_take]; omega
  refine ⟨a, c, by rw [hl], by omega, h3, h4, ?_⟩
  by_cases hk0 : k = 0
  · exact .inl (by omega)
  obtain ⟨b, off, h6, h7, h8⟩ := h5.resolve_left (by omega)
  refine .inr ⟨b, off, h6, h7, fun j hj => ?_⟩
  rw [hl] at hj
  rw [List.getD_eq_getElem?_getD, List.getElem?_take, if_pos hj, ← List.getD_eq_getElem?_getD]
  exact h8 j (by omega)
def WinCells (w : World) (b o : Nat) (x : Win) : Prop := w.cell? ⟨b, o, none⟩ = some (.int .i64 x.a) ∧ w.cell? ⟨b, o + 1, none⟩ = some (.int .i64 x.b)
def WinsAt (w : World) (v : Value) (l : List Win) : Prop := RowAt 2 WinCells win0 w v l
theorem WinsAt.below {w w' : World} {v : Value} {l : List Win} (h : WinsAt w v l) (hw : Below w.heap.size w w') : WinsAt w' v l :=
  RowAt.below h hw (fun b o _ hb ⟨h1, h2⟩ => ⟨by rw [hw.cell (p := ⟨b, o, none⟩) hb]; exact h1, by rw [hw.cell (p := ⟨b, o + 1, none⟩) hb]; exact h2⟩)
/-- Numbers that their types hold. -/
abbrev DdFit (x : Dd) : Prop := (0 ≤ x.by' ∧ x.by' < 256) ∧ (-9223372036854775808 ≤ x.kind ∧ x.kind ≤ 9223372036854775807)
structure DdCells (w : World) (b o : Nat) (x : Dd) : Prop where
  kind : w.cell? ⟨b, o, none⟩ = some (.int .i64 x.kind)
  n : w.cell? ⟨b, o + 1, none⟩ = some (.int .i64 x.n)
  time : w.cell? ⟨b, o + 2, none⟩ = some (.int .i64 x.time)
  entry : ∃ pa pc, w.cell? ⟨b, o + 3, none⟩ = some (.slice pa x.entry.length pc) ∧ Some' w (.slice pa x.entry.length pc) x.entry
  segment : w.cell? ⟨b, o + 4, none⟩ = some (.int .i64 x.segment)
  at' : w.cell? ⟨b, o + 5, none⟩ = some (.int .i64 x.at')
  by' : w.cell? ⟨b, o + 6, none⟩ = some (.int .u8 x.by')
  byte : DdFit x
theorem DdCells.below {w w' : World} {b o : Nat} {x : Dd} (h : DdCells w b o x) (hb : b < w.heap.size) (hw : Below w.heap.size w w') : DdCells w' b o x := by
  obtain ⟨h1, h2, h3, ⟨pa, pc, h4, h4'⟩, h5, h6, h7, h8⟩ := h
  exact ⟨by rw [hw.cell (p := ⟨b, o, none⟩) hb]; exact h1, by rw [hw.cell (p := ⟨b, o + 1, none⟩) hb]; exact h2, by rw [hw.cell (p := ⟨b, o + 2, none⟩) hb]; exact h3, ⟨pa, pc, by rw [hw.cell (p := ⟨b, o + 3, none⟩) hb]; exact h4, h4'.below hw⟩, by rw [hw.cell (p := ⟨b, o + 4, none⟩) hb]; exact h5, by rw [hw.cell (p := ⟨b, o + 5, none⟩) hb]; exact h6, by rw [hw.cell (p := ⟨b, o + 6, none⟩) hb]; exact h7, h8⟩
def DosAt (w : World) (v : Value) (l : List Dd) : Prop := RowAt 7 DdCells dd0 w v l
theorem DosAt.below {w w' : World} {v : Value} {l : List Dd} (h : DosAt w v l) (hw : Below w.heap.size w w') : DosAt w' v l := RowAt.below h hw (fun _ _ _ hb hx => hx.below hb hw)
structure ShdCells (w : World) (b o : Nat) (s : Shd) : Prop where
  from' : w.cell? ⟨b, o, none⟩ = some (.int .i64 s.from')
  to' : w.cell? ⟨b, o + 1, none⟩ = some (.int .i64 s.to')
  state : w.cell? ⟨b, o + 2, none⟩ = some (.int .i64 s.state)
  entries : ∃ ea ec, w.cell? ⟨b, o + 3, none⟩ = some (.slice ea s.entries.length ec) ∧ Lists w ea s.entries.length ec s.entries
  size : w.cell? ⟨b, o + 4, none⟩ = some (.int .i64 s.man.size)
  root : ∃ ra rc, w.cell? ⟨b, o + 5, none⟩ = some (.slice ra s.man.root.length rc) ∧ Some' w (.slice ra s.man.root.length rc) s.man.root
  segs : ∃ ga gc, w.cell? ⟨b, o + 6, none⟩ = some (.slice ga s.man.segs.length gc) ∧ SegsAt w (.slice ga s.man.segs.length gc) s.man.segs
theorem ShdCells.below {w w' : World} {b o : Nat} {s : Shd} (h : ShdCells w b o s) (hb : b < w.heap.size) (hw : Below w.heap.size w w') : ShdCells w' b o s := by
  obtain ⟨h1, h2, h3, ⟨ea, ec, h4, h4'⟩, h5, ⟨ra, rc, h6, h6'⟩, ⟨ga, gc, h7, h7'⟩⟩ := h
  exact ⟨by rw [hw.cell (p := ⟨b, o, none⟩) hb]; exact h1, by rw [hw.cell (p := ⟨b, o + 1, none⟩) hb]; exact h2, by rw [hw.cell (p := ⟨b, o + 2, none⟩) hb]; exact h3, ⟨ea, ec, by rw [hw.cell (p := ⟨b, o + 3, none⟩) hb]; exact h4, h4'.below hw⟩, by rw [hw.cell (p := ⟨b, o + 4, none⟩) hb]; exact h5, ⟨ra, rc, by rw [hw.cell (p := ⟨b, o + 5, none⟩) hb]; exact h6, h6'.below hw⟩, ⟨ga, gc, by rw [hw.cell (p := ⟨b, o + 6, none⟩) hb]; exact h7, h7'.below hw⟩⟩
def ShdsAt (w : World) (v : Value) (l : List Shd) : Prop := RowAt 7 ShdCells shd0 w v l
theorem ShdsAt.below {w w' : World} {v : Value} {l : List Shd} (h : ShdsAt w v l) (hw : Below w.heap.size w w') : ShdsAt w' v l := RowAt.below h hw (fun _ _ _ hb hx => hx.below hb hw)
/-- A fleet as the walks meet it. -/
def FltV (w : World) (v : Value) (f : Flt) : Prop := ∃ sa sc ba bc, v = .agg #[.slice sa f.shards.length sc, .slice ba f.book.length bc] ∧ ShdsAt w (.slice sa f.shards.length sc) f.shards ∧ RecsAt w (.slice ba f.book.length bc) f.book
theorem FltV.below {w w' : World} {v : Value} {f : Flt} (h : FltV w v f) (hw : Below w.heap.size w w') : FltV w' v f := by
  obtain ⟨sa, sc, ba, bc, h1, h2, h3⟩ := h
  exact ⟨sa, sc, ba, bc, h1, h2.below hw, h3.below hw⟩
def AnsCells (w : World) (b o : Nat) (x : Ans) : Prop := w.cell? ⟨b, o, none⟩ = some (.int .i64 x.err) ∧ w.cell? ⟨b, o + 1, none⟩ = some (.int .i64 x.shard) ∧ w.cell? ⟨b, o + 2, none⟩ = some (.int .i64 x.place) ∧ w.cell? ⟨b, o + 3, none⟩ = some (.int .i64 x.size) ∧
  ∃ ra rc, w.cell? ⟨b, o + 4, none⟩ = some (.slice ra x.root.length rc) ∧ Some' w (.slice ra x.root.length rc) x.root
theorem AnsCells.below {w w' : World} {b o : Nat} {x : Ans} (h : AnsCells w b o x) (hb : b < w.heap.size) (hw : Below w.heap.size w w') : AnsCells w' b o x := by
  obtain ⟨h0, h1, h2, h3, ra, rc, h4, h5⟩ := h
  exact ⟨by rw [hw.cell (p := ⟨b, o, none⟩) hb]; exact h0, by rw [hw.cell (p := ⟨b, o + 1, none⟩) hb]; exact h1, by rw [hw.cell (p := ⟨b, o + 2, none⟩) hb]; exact h2, by rw [hw.cell (p := ⟨b, o + 3, none⟩) hb]; exact h3, ra, rc, by rw [hw.cell (p := ⟨b, o + 4, none⟩) hb]; exact h4, h5.below hw⟩
def AnssAt (w : World) (v : Value) (l : List Ans) : Prop := RowAt 5 AnsCells ans0 w v l
theorem AnssAt.below {w w' : World} {v : Value} {l : List Ans} (h : AnssAt w v l) (hw : Below w.heap.size w w') : AnssAt w' v l := RowAt.below h hw (fun _ _ _ hb hx => hx.below hb hw)
/-- What is shown, as the walks meet it. -/
structure ShwV (w : World) (v : Value) (s : Shw) : Prop where
  form : ∃ ea ec pa pc ra rc ba bc ha hc, v = .agg #[.slice ea s.entry.length ec, .int .i64 s.place, .int .i64 s.shard, .slice pa s.path.length pc, .int .i64 s.rcd.shard, .int .i64 s.rcd.from', .int .i64 s.rcd.to', .int .i64 s.rcd.size, .slice ra s.rcd.root.length rc, .int .i64 s.row, .slice ba s.bookPath.length bc, .int .i64 s.hsize, .slice ha s.hroot.length hc] ∧
    Some' w (.slice ea s.entry.length ec) s.entry ∧ Lists w pa s.path.length pc s.path ∧ Some' w (.slice ra s.rcd.root.length rc) s.rcd.root ∧ Lists w ba s.bookPath.length bc s.bookPath ∧ Some' w (.slice ha s.hroot.length hc) s.hroot
theorem ShwV.below {w w' : World} {v : Value} {s : Shw} (h : ShwV w v s) (hw : Below w.heap.size w w') : ShwV w' v s := by
  obtain ⟨ea, ec, pa, pc, ra, rc, ba, bc, ha, hc, h1, h2, h3, h4, h5, h6⟩ := h.form
  exact ⟨ea, ec, pa, pc, ra, rc, ba, bc, ha, hc, h1, h2.below hw, h3.below hw, h4.below hw, h5.below hw, h6.below hw⟩
def PlayC : Prop := ∀ (ws : List Win) (l : List Dd) (wv dv : Value) (w : World), Ready w → WinsAt w wv ws → DosAt w dv l →
  Calls Tryd.prog 9 #[wv, dv] w fun e w' => ∃ fv av, e = .returned (.tuple #[fv, av, faultV (playF ws l)]) ∧ FltV w' fv (playL ws l).1 ∧ AnssAt w' av (playL ws l).2 ∧ Below w.heap.size w w'
end Go.Proofs.YtkjlchfmplcobagDoor

/- Boxes of records; the walks of yearref5.SameRecord and yearref5.WrongRecord. -/
namespace Go.Proofs.YtkjlchfmplcobagDoor
open Go.RowKit

/-- What a variable of five cells holds. -/
theorem box_five {w : World} {k : Nat} {a b c d e : Value} {t : TypeId} (h : w.heap[k]? = some (.cells #[a, b, c, d, e] t (0, 0))) :
    w.cell? ⟨k, 0, none⟩ = some a ∧ w.cell? ⟨k, 1, none⟩ = some b ∧ w.cell? ⟨k, 2, none⟩ = some c ∧ w.cell? ⟨k, 3, none⟩ = some d ∧ w.cell? ⟨k, 4, none⟩ = some e :=
  ⟨cell_of_row w k 0 _ t _ h, cell_of_row w k 1 _ t _ h, cell_of_row w k 2 _ t _ h, cell_of_row w k 3 _ t _ h, cell_of_row w k 4 _ t _ h⟩
end Go.Proofs.YtkjlchfmplcobagDoor

/- Five cells written; old memory kept. Nothing of the program's functions is in it. -/
namespace Go.Proofs.YtkjlchfmplcobagDoor
open Go.RowKit

/-- Five cells written. -/
theorem five_set {w : World} {R : Nat} {a b c d e : Value} {t : TypeId} (h : w.heap[R]? = some (.cells #[a, b, c, d, e] t (0, 0))) (u0 u1 u2 u3 u4 : Value) : (((((w.setCell ⟨R, 0, none⟩ u0).setCell ⟨R, 1, none⟩ u1).setCell ⟨R, 2, none⟩ u2).setCell ⟨R, 3, none⟩ u3).setCell ⟨R, 4, none⟩ u4).heap[R]? = some (.cells #[u0, u1, u2, u3, u4] t (0, 0)) := by
  have h0 := heap_setCell_same w R 0 _ t u0 h
  have h1 := heap_setCell_same _ R 1 _ t u1 h0
  have h2 := heap_setCell_same _ R 2 _ t u2 h1
  have h3 := heap_setCell_same _ R 3 _ t u3 h2
  exact heap_setCell_same _ R 4 _ t u4 h3
theorem five_below {B R : Nat} {w0 w : World} (h : Below B w0 w) (hR : B ≤ R) (u0 u1 u2 u3 u4 : Value) : Below B w0 (((((w.setCell ⟨R, 0, none⟩ u0).setCell ⟨R, 1, none⟩ u1).setCell ⟨R, 2, none⟩ u2).setCell ⟨R, 3, none⟩ u3).setCell ⟨R, 4, none⟩ u4) := ((((h.setCell hR _).setCell hR _).setCell hR _).setCell hR _).setCell hR _
theorem five_own {w : World} {base R n : Nat} {e : TypeId} {v : Value} {xs : List Value} (h : w.ownsRow base e 1 v n xs) (hR : R < base) (u0 u1 u2 u3 u4 : Value) : (((((w.setCell ⟨R, 0, none⟩ u0).setCell ⟨R, 1, none⟩ u1).setCell ⟨R, 2, none⟩ u2).setCell ⟨R, 3, none⟩ u3).setCell ⟨R, 4, none⟩ u4).ownsRow base e 1 v n xs :=
  ownsRow_setCell_below (ownsRow_setCell_below (ownsRow_setCell_below (ownsRow_setCell_below (ownsRow_setCell_below h hR _) hR _) hR _) hR _) hR _
/-- Two cells written. -/
theorem two_set {w : World} {R : Nat} {a b : Value} {t : TypeId} (h : w.heap[R]? = some (.cells #[a, b] t (0, 0))) (u0 u1 : Value) : ((w.setCell ⟨R, 0, none⟩ u0).setCell ⟨R, 1, none⟩ u1).heap[R]? = some (.cells #[u0, u1] t (0, 0)) := by
  have h0 := heap_setCell_same w R 0 _ t u0 h
  exact heap_setCell_same _ R 1 _ t u1 h0
theorem two_below {B R : Nat} {w0 w : World} (h : Below B w0 w) (hR : B ≤ R) (u0 u1 : Value) : Below B w0 ((w.setCell ⟨R, 0, none⟩ u0).setCell ⟨R, 1, none⟩ u1) := (h.setCell hR _).setCell hR _
theorem two_far {w : World} {R k : Nat} {x : Obj} (h : w.heap[k]? = some x) (hk : k ≠ R) (u0 u1 : Value) : ((w.setCell ⟨R, 0, none⟩ u0).setCell ⟨R, 1, none⟩ u1).heap[k]? = some x := box_set_far (box_set_far h hk) hk
theorem keptB_of {w0 w' : World} (h : Below w0.heap.size w0 w') : Below w0.heap.size w0 w' ∧ ∀ b o, b < w0.heap.size → w'.cell? ⟨b, o, none⟩ = w0.cell? ⟨b, o, none⟩ := ⟨h, fun b o hlt => h.cell (p := ⟨b, o, none⟩) hlt⟩
theorem keptB_drew (w0 : World) : Below w0.heap.size w0 w0.drew ∧ ∀ b o, b < w0.heap.size → w0.drew.cell? ⟨b, o, none⟩ = w0.cell? ⟨b, o, none⟩ := keptB_of (Below.refl _ _).drew
end Go.Proofs.YtkjlchfmplcobagDoor

/- The walk of yearref2.Same: two lists of bytes' lists. -/
namespace Go.Proofs.YtkjlchfmplcobagDoor
open Go.RowKit

set_option maxRecDepth 100000 in
set_option maxHeartbeats 1000000 in
theorem refSame_any (L1 L2 : List (List Int)) (v1 v2 : Value) (w : World) (h1 : PartsAt w v1 L1) (h2 : PartsAt w v2 L2) (hm1 : L1.length ≤ maxLen) (hs1 : ∀ j, (L1.getD j []).length ≤ maxLen) :
    Calls Tryd.prog 12 #[v1, v2] w fun e w' => e = .returned (.bool (decide (L1 = L2))) ∧ ∃ q, w' = w.drewN q := by
  obtain ⟨a1, c1, rfl, hc1⟩ := h1.form
  obtain ⟨a2, c2, rfl, hc2⟩ := h2.form
  unfold maxLen at hm1
  by_cases hne : L1.length = L2.length
  · have hq : ((L1.length : Int) != (L2.length : Int)) = false := by rw [hne]; simp
    obtain ⟨n, hn⟩ : ∃ n, L1.length = n := ⟨_, rfl⟩
    have hn2 : L2.length = n := by omega
    have HN1 : Hid (L1.length = n) := hn
    have HN2 : Hid (L2.length = n) := hn2
    rw [hn] at hm1 hc1 hq
    rw [hn2] at hc2 hq
    rw [hn, hn2]
    clear hn hn2 hne h1 h2
    go_enter Tryd.func12, Tryd.ntmps12
    go_wp2
    go_loopw [13] (fun i wr => ∃ k : Nat, k ≤ n ∧ i = .int .i64 k ∧ Hid (∀ j, j < k → L1.getD j [] = L2.getD j []) ∧ Dr w wr) (fun i _ => n - (intOf i).toNat)
    case atStart => exact ⟨0, Nat.zero_le _, rfl, (fun j hj => absurd hj (Nat.not_lt_zero _)), ⟨0, rfl⟩⟩
    case round =>
      obtain ⟨k, hk, rfl, HE, HD⟩ := hrel
      by_cases hlt : k < n
      · obtain ⟨b1, o1, rfl, -, hp1⟩ := hc1.resolve_left (by omega)
        obtain ⟨b2, o2, rfl, -, hp2⟩ := hc2.resolve_left (by omega)
        obtain ⟨pa, pc, x1, B1⟩ := hp1 k hlt
        obtain ⟨ra, rc, x2, B2⟩ := hp2 k hlt
        have y1 : wr.cell? ⟨b1, o1 + k, none⟩ = some (.slice pa (L1.getD k []).length pc) := by obtain ⟨q, e⟩ := HD; rw [e]; exact x1
        have y2 : wr.cell? ⟨b2, o2 + k, none⟩ = some (.slice ra (L2.getD k []).length rc) := by obtain ⟨q, e⟩ := HD; rw [e]; exact x2
        have D1 : ∀ q, BytesAt (wr.drewN q) (.slice pa (L1.getD k []).length pc) (L1.getD k []) := fun q => by obtain ⟨q1, e⟩ := HD; rw [e]; exact B1.below (Nat.le_refl _) (below_drewN (below_drewN (Below.refl _ _) q1) q)
        have D2 : ∀ q, BytesAt (wr.drewN q) (.slice ra (L2.getD k []).length rc) (L2.getD k []) := fun q => by obtain ⟨q1, e⟩ := HD; rw [e]; exact B2.below (Nat.le_refl _) (below_drewN (below_drewN (Below.refl _ _) q1) q)
        have hl1 := hs1 k
        have HN : Hid (L1.getD k [] = L2.getD k [] → ∀ j, j < k + 1 → L1.getD j [] = L2.getD j []) := fun h j hj => by
          by_cases e : j = k
          · rw [e]; exact h
          · exact HE.out j (by omega)
        have HF : Hid (L1.getD k [] ≠ L2.getD k [] → decide (L1 = L2) = false) := fun h => by
          rw [decide_eq_false_iff_not]; intro e; exact h (by rw [e])
        clear hc1 hc2 hp1 hp2 x1 x2 B1 B2 HE hs1
        generalize L1.getD k [] = z1 at *
        generalize L2.getD k [] = z2 at *
        have i1 : (k : Int) < (n : Int) := by omega
        by_cases hzz : z1 = z2
        · have hd : decide (z1 = z2) = true := by simpa using hzz
          have HN' : Hid (∀ j, j < k + 1 → L1.getD j [] = L2.getD j []) := HN.out hzz
          have HS : ∀ q, Calls Tryd.prog 21 #[.slice pa z1.length pc, .slice ra z2.length rc] (wr.drewN q) (fun e w' => e = .returned (.bool true) ∧ ∃ m, w' = (wr.drewN q).drewN m) := fun q => by
            have := same_any z1 z2 _ _ _ (D1 q) (D2 q) hl1
            rwa [hd] at this
          clear HN HF hd hzz D1 D2
          go_wp2_with fail
          go_quiet ((go_at_call 21; exact Calls.quiet_of (HS _)))
          go_wp2_with fail
          go_roundw
          case rel => exact ⟨k + 1, by omega, by go_num, HN', HD.step _⟩
          case measure => simp [intOf]; omega
        · have hd : decide (z1 = z2) = false := by simpa using hzz
          have HF' : Hid (decide (L1 = L2) = false) := HF.out hzz
          have HS : ∀ q, Calls Tryd.prog 21 #[.slice pa z1.length pc, .slice ra z2.length rc] (wr.drewN q) (fun e w' => e = .returned (.bool false) ∧ ∃ m, w' = (wr.drewN q).drewN m) := fun q => by
            have := same_any z1 z2 _ _ _ (D1 q) (D2 q) hl1
            rwa [hd] at this
          clear HN HF hd hzz D1 D2
          go_wp2_with fail
          go_quiet ((go_at_call 21; exact Calls.quiet_of (HS _)))
          go_wp2_with fail
          go_ret
          exact ⟨by rw [HF'.out]; rfl, HD.step _⟩
      · obtain rfl : k = n := by omega
        obtain ⟨q0, rfl⟩ := HD
        have HT : decide (L1 = L2) = true := by
          rw [decide_eq_true_iff]
          apply List.ext_getElem (by have := HN1.out; have := HN2.out; omega)
          intro j hj1 hj2
          have := HE.out j (by have := HN1.out; omega)
          rwa [List.getD_eq_getElem?_getD, List.getElem?_eq_getElem hj1, List.getD_eq_getElem?_getD, List.getElem?_eq_getElem hj2] at this
        clear HE
        go_wp2
        go_ret
        exact ⟨by rw [HT]; rfl, q0, rfl⟩
  · have hq : ((L1.length : Int) != (L2.length : Int)) = true := by simp; omega
    have HF : decide (L1 = L2) = false := by rw [decide_eq_false_iff_not]; intro e; exact hne (by rw [e])
    rw [HF]
    go_enter Tryd.func12, Tryd.ntmps12
    go_wp2
    go_ret
    exact ⟨rfl, 0, rfl⟩

end Go.Proofs.YtkjlchfmplcobagDoor

/- The walks of yearref5.SameAnswer, SameBook and SameFleet at what is the same. -/
namespace Go.Proofs.YtkjlchfmplcobagDoor
open Go.RowKit

/-- An answer as the walks meet it. -/
def AnsV (w : World) (v : Value) (x : Ans) : Prop := ∃ ra rc, v = .agg #[.int .i64 x.err, .int .i64 x.shard, .int .i64 x.place, .int .i64 x.size, .slice ra x.root.length rc] ∧ Some' w (.slice ra x.root.length rc) x.root
theorem AnsV.below {w w' : World} {v : Value} {x : Ans} (h : AnsV w v x) (hb : Below w.heap.size w w') : AnsV w' v x := by
  obtain ⟨ra, rc, h1, h2⟩ := h
  exact ⟨ra, rc, h1, h2.below hb⟩
end Go.Proofs.YtkjlchfmplcobagDoor

/- Things that are done, as rows of a call's own. -/
namespace Go.Proofs.YtkjlchfmplcobagDoor
open Go.RowKit

theorem Tryd.info29b : (Tryd.prog.info? 29).map (fun i => (i.zero, i.size, i.bytes)) = some (some (.agg #[.int .i64 0, .int .i64 0, .int .i64 0, .slice none 0 0, .int .i64 0, .int .i64 0, .int .u8 0]), 7, 72) := by kernel_rfl
theorem own7_below {w w' : World} {base : Nat} {e : TypeId} {v : Value} {n N : Nat} {xs : List Value} (h : w.ownsRow base e 7 v n xs) (hb : Below N w w') (hN : w.heap.size ≤ N) : w'.ownsRow base e 7 v n xs :=
  h.kept (w' := w') (row := none) ⟨hb.os, hb.tape, hb.output, hb.size, fun k hk _ => hb.block k (Nat.lt_of_lt_of_le hk hN)⟩ (by cases v.ownBlock <;> simp)
theorem own7_form {w : World} {base : Nat} {e : TypeId} {v : Value} {n : Nat} {xs : List Value} (h : w.ownsRow base e 7 v n xs) : ∃ a c, v = .slice a n c := by
  rcases h.2 with ⟨hv, rfl⟩ | ⟨g, cap, cur, hv, -⟩
  · exact ⟨none, 0, hv⟩
  · exact ⟨_, cap, hv⟩
theorem own7_block {w : World} {base : Nat} {e : TypeId} {v : Value} {n : Nat} {xs : List Value} (h : w.ownsRow base e 7 v n xs) {q : Nat} (hq : v.ownBlock = some q) : base ≤ q := by
  rcases h.2 with ⟨e, -⟩ | ⟨g, cap, cur, e, hg, -⟩
  · rw [e] at hq; cases hq
  · rw [e] at hq; cases hq; exact hg
/-- A block of another type is no part of such a row. -/
theorem own7_apart {w : World} {base k n : Nat} {e t : TypeId} {v : Value} {xs : List Value} {c : Array Value} (ho : w.ownsRow base e 7 v n xs) (ht : t ≠ e) (hk : w.heap[k]? = some (.cells c t (0, 0))) : some k ≠ v.ownBlock := fun h => by
  rcases ho.2 with ⟨rfl, -⟩ | ⟨g, cap, cur, rfl, -, hh, -⟩
  · cases h
  · cases h
    rw [hh] at hk
    cases hk
    exact ht rfl
/-- The values of one thing that is done. -/
def ddV (x : Dd) (pa : Option Addr) (pc : Nat) : List Value := [.int .i64 x.kind, .int .i64 x.n, .int .i64 x.time, .slice pa x.entry.length pc, .int .i64 x.segment, .int .i64 x.at', .int .u8 x.by']
theorem ddV_one (x : Dd) (pa : Option Addr) (pc : Nat) : ∀ u ∈ ddV x pa pc, u.oneCell' = true := by
  intro u hu
  simp [ddV] at hu
  rcases hu with rfl | rfl | rfl | rfl | rfl | rfl | rfl <;> rfl
/-- The values of several, whose entries lie in the world w. -/
def DoEls (w : World) (vs : List Value) (l : List Dd) : Prop :=
  vs.length = l.length * 7 ∧ ∀ j, j < l.length → ∃ pa pc, Some' w (.slice pa (l.getD j dd0).entry.length pc) (l.getD j dd0).entry ∧ DdFit (l.getD j dd0) ∧ ∀ i, i < 7 → vs[j * 7 + i]? = (ddV (l.getD j dd0) pa pc)[i]?
theorem DoEls.snoc {w : World} {vs : List Value} {l : List Dd} {x : Dd} {pa : Option Addr} {pc : Nat} (h : DoEls w vs l) (hx : Some' w (.slice pa x.entry.length pc) x.entry) (hb : DdFit x) : DoEls w (vs ++ ddV x pa pc) (l ++ [x]) := by
  obtain ⟨hl, h⟩ := h
  refine ⟨by rw [List.length_append, List.length_append, hl]; show l.length * 7 + 7 = (l.length + 1) * 7; omega, fun j hj => ?_⟩
  by_cases e : j < l.length
  · obtain ⟨qa, qc, h1, h2, h3⟩ := h j e
    have eg : (l ++ [x]).getD j dd0 = l.getD j dd0 := by rw [snoc_get, if_pos e]
    rw [eg]
    refine ⟨qa, qc, h1, h2, fun i hi => ?_⟩
    rw [List.getElem?_append_left (by omega)]
    exact h3 i hi
  · obtain rfl : j = l.length := by simp at hj; omega
    have eg : (l ++ [x]).getD l.length dd0 = x := by rw [snoc_get, if_neg (Nat.lt_irrefl _), if_pos rfl]
    rw [eg]
    refine ⟨pa, pc, hx, hb, fun i hi => ?_⟩
    rw [List.getElem?_append_right (by omega), hl, show l.length * 7 + i - l.length * 7 = i by omega]
/-- A row of a call's own, read as things that are done. -/
theorem DoEls.dos {w w' : World} {base : Nat} {v : Value} {vs : List Value} {l : List Dd} (h : DoEls w vs l) (ho : w'.ownsRow base 29 7 v l.length vs) (hb : Below w.heap.size w w') : DosAt w' v l := by
  obtain ⟨hl, h⟩ := h
  rcases ho.2 with ⟨hv, hn⟩ | ⟨g, cap, cur, rfl, -, hg, h3, h4, -⟩
  · exact ⟨none, 0, by rw [hv, hn], by omega, Nat.zero_le _, fun _ => rfl, .inl hn⟩
  · refine ⟨_, cap, rfl, h3, h4, (fun e => by cases e), .inr ⟨g, 0, rfl, lt_heap hg, fun j hj => ?_⟩⟩
    obtain ⟨pa, pc, h1, h2, h5⟩ := h j hj
    have hc : ∀ i, i < 7 → w'.cell? ⟨g, 0 + j * 7 + i, none⟩ = (ddV (l.getD j dd0) pa pc)[i]? := fun i hi => by rw [Nat.zero_add]; exact (ho.cellAt (j * 7 + i) (by omega)).trans (h5 i hi)
    exact ⟨hc 0 (by omega), hc 1 (by omega), hc 2 (by omega), ⟨pa, pc, hc 3 (by omega), h1.below hb⟩, hc 4 (by omega), hc 5 (by omega), hc 6 (by omega), h2⟩
theorem lit_dd (w : World) (x : Dd) (pa : Option Addr) (pc : Nat) (t : TypeId) : ∀ (j : Nat) (u : Value), (ddV x pa pc)[j]? = some u → (w.alloc (.cells #[.int .i64 x.kind, .int .i64 x.n, .int .i64 x.time, .slice pa x.entry.length pc, .int .i64 x.segment, .int .i64 x.at', .int .u8 x.by'] t)).cell? ((⟨w.heap.size, 0, none⟩ : Addr).add j) = some u := fun j u hj => by
  have hadd : (⟨w.heap.size, 0, none⟩ : Addr).add j = ⟨w.heap.size, 0 + j, none⟩ := Addr.add_mid _ _ _
  rw [hadd, Nat.zero_add]
  rw [cell_of_row _ _ j _ t _ (box_new w _ t), ← hj]
  simp [ddV]

end Go.Proofs.YtkjlchfmplcobagDoor

/- Windows and things to be done that a call makes: rows of its own. Nothing of the program's functions is in it. -/
namespace Go.Proofs.YtkjlchfmplcobagDoor
open Go.RowKit

theorem Tryd.info56b : (Tryd.prog.info? 56).map (fun i => (i.zero, i.size, i.bytes)) = some (some (.agg #[.int .i64 0, .int .i64 0]), 2, 16) := by kernel_rfl
/-- Bytes that lie below B, or in a block of bytes, or none. -/
def Away (B : Nat) (w : World) (v : Value) (d : List Int) : Prop := d = [] ∨ ∀ g, v.ownBlock = some g → g < w.heap.size ∧ (g < B ∨ ∃ cs mk, w.heap[g]? = some (.cells cs 5 mk))
theorem away_ne {B n : Nat} {w : World} {v u : Value} {xs : List Value} (h : ∀ g, v.ownBlock = some g → g < w.heap.size ∧ (g < B ∨ ∃ cs mk, w.heap[g]? = some (.cells cs 5 mk))) (ho : w.ownsRow B 29 7 u n xs) : ∀ g, v.ownBlock = some g → u.ownBlock ≠ some g := fun g hv hu => by
  rcases ho.2 with ⟨e, -⟩ | ⟨q, cap, cur, e, hb, hh, -⟩
  · rw [e] at hu; cases hu
  · rw [e] at hu
    cases hu
    obtain ⟨-, h1 | ⟨cs, mk, h1⟩⟩ := h q hv
    · omega
    · rw [hh] at h1; cases h1
theorem Away.grown {B n : Nat} {w w' : World} {v u : Value} {d : List Int} {xs : List Value} (h : Away B w v d) (ho : w.ownsRow B 29 7 u n xs) (hg : w.grownBy w' u.ownBlock) : Away B w' v d := by
  rcases h with h | h
  · exact .inl h
  · have hne := away_ne h ho
    refine .inr (fun g hv => ?_)
    obtain ⟨h0, h1⟩ := h g hv
    refine ⟨Nat.lt_of_lt_of_le h0 hg.size, ?_⟩
    rcases h1 with h1 | ⟨cs, mk, h1⟩
    · exact .inl h1
    · exact .inr ⟨cs, mk, (hg.block g h0 (fun e => hne g hv e.symm)).trans h1⟩
theorem Away.below {B : Nat} {w w' : World} {v : Value} {d : List Int} (h : Away B w v d) (hb : Below w.heap.size w w') : Away B w' v d := by
  rcases h with h | h
  · exact .inl h
  · refine .inr (fun g hv => ?_)
    obtain ⟨h0, h1⟩ := h g hv
    refine ⟨Nat.lt_of_lt_of_le h0 hb.size, ?_⟩
    rcases h1 with h1 | ⟨cs, mk, h1⟩
    · exact .inl h1
    · exact .inr ⟨cs, mk, (hb.block g h0).trans h1⟩
theorem away_nil (B : Nat) (w : World) (n c : Nat) : Away B w (.slice none n c) [] := .inl rfl
theorem Some'.away {B n : Nat} {w w' : World} {v u : Value} {d : List Int} {xs : List Value} (h : Some' w v d) (ha : Away B w v d) (ho : w.ownsRow B 29 7 u n xs) (g : w.grownBy w' u.ownBlock) : Some' w' v d := by
  refine ⟨?_, h.bytes, h.short⟩
  rcases h.at' with h1 | ⟨b, off, cp, h1, h2, h3⟩
  · exact .inl h1
  · rcases ha with rfl | ha
    · exact .inl ⟨rfl, _, _, h1, fun e => by cases e⟩
    · refine .inr ⟨b, off, cp, h1, Nat.lt_of_lt_of_le h2 g.size, fun j hj => ?_⟩
      have hne := away_ne ha ho b (by rw [h1]; rfl)
      rw [World.cell?_of_block (a := ⟨b, off + j, none⟩) (g.block b h2 (fun e => hne e.symm))]
      exact h3 j hj
/-- The values of things to be done, with entries that stay. -/
def DoB (B : Nat) (w : World) (vs : List Value) (l : List Dd) : Prop :=
  vs.length = l.length * 7 ∧ ∀ j, j < l.length → ∃ pa pc, Some' w (.slice pa (l.getD j dd0).entry.length pc) (l.getD j dd0).entry ∧ Away B w (.slice pa (l.getD j dd0).entry.length pc) (l.getD j dd0).entry ∧ DdFit (l.getD j dd0) ∧ ∀ i, i < 7 → vs[j * 7 + i]? = (ddV (l.getD j dd0) pa pc)[i]?
theorem doB_nil (B : Nat) (w : World) : DoB B w [] [] := ⟨rfl, fun _ hj => absurd hj (Nat.not_lt_zero _)⟩
theorem DoB.below {B : Nat} {w w' : World} {vs : List Value} {l : List Dd} (h : DoB B w vs l) (hb : Below w.heap.size w w') : DoB B w' vs l := ⟨h.1, fun j hj => by
  obtain ⟨pa, pc, h1, h2, h3⟩ := h.2 j hj
  exact ⟨pa, pc, h1.below hb, h2.below hb, h3⟩⟩
theorem DoB.grown {B n : Nat} {w w' : World} {vs : List Value} {l : List Dd} {u : Value} {xs : List Value} (h : DoB B w vs l) (ho : w.ownsRow B 29 7 u n xs) (hg : w.grownBy w' u.ownBlock) : DoB B w' vs l := ⟨h.1, fun j hj => by
  obtain ⟨pa, pc, h1, h2, h3⟩ := h.2 j hj
  exact ⟨pa, pc, h1.away h2 ho hg, h2.grown ho hg, h3⟩⟩
theorem DoB.snoc {B : Nat} {w : World} {vs : List Value} {l : List Dd} {x : Dd} {pa : Option Addr} {pc : Nat} (h : DoB B w vs l) (hx : Some' w (.slice pa x.entry.length pc) x.entry) (ha : Away B w (.slice pa x.entry.length pc) x.entry) (hb : DdFit x) : DoB B w (vs ++ ddV x pa pc) (l ++ [x]) := by
  obtain ⟨hl, h⟩ := h
  refine ⟨by rw [List.length_append, List.length_append, hl]; show l.length * 7 + 7 = (l.length + 1) * 7; omega, fun j hj => ?_⟩
  by_cases e : j < l.length
  · obtain ⟨qa, qc, h1, h2, h3, h4⟩ := h j e
    have eg : (l ++ [x]).getD j dd0 = l.getD j dd0 := by rw [snoc_get, if_pos e]
    rw [eg]
    refine ⟨qa, qc, h1, h2, h3, fun i hi => ?_⟩
    rw [List.getElem?_append_left (by omega)]
    exact h4 i hi
  · obtain rfl : j = l.length := by simp at hj; omega
    have eg : (l ++ [x]).getD l.length dd0 = x := by rw [snoc_get, if_neg (Nat.lt_irrefl _), if_pos rfl]
    rw [eg]
    refine ⟨pa, pc, hx, ha, hb, fun i hi => ?_⟩
    rw [List.getElem?_append_right (by omega), hl, show l.length * 7 + i - l.length * 7 = i by omega]
theorem DoB.dos {B b : Nat} {w : World} {v : Value} {vs : List Value} {l : List Dd} (h : DoB B w vs l) (ho : w.ownsRow b 29 7 v l.length vs) : DosAt w v l :=
  DoEls.dos (w := w) ⟨h.1, fun j hj => by obtain ⟨pa, pc, h1, -, h2, h3⟩ := h.2 j hj; exact ⟨pa, pc, h1, h2, h3⟩⟩ ho (Below.refl _ _)
/-- The values of windows. -/
def winV (x : Win) : List Value := [.int .i64 x.a, .int .i64 x.b]
def WinEls (vs : List Value) (l : List Win) : Prop := vs.length = l.length * 2 ∧ ∀ j, j < l.length → ∀ i, i < 2 → vs[j * 2 + i]? = (winV (l.getD j win0))[i]?
theorem winEls_nil : WinEls [] [] := ⟨rfl, fun _ hj => absurd hj (Nat.not_lt_zero _)⟩
theorem WinEls.snoc {vs : List Value} {l : List Win} {x : Win} (h : WinEls vs l) : WinEls (vs ++ winV x) (l ++ [x]) := by
  obtain ⟨hl, h⟩ := h
  refine ⟨by rw [List.length_append, List.length_append, hl]; show l.length * 2 + 2 = (l.length + 1) * 2; omega, fun j hj i hi => ?_⟩
  by_cases e : j < l.length
  · rw [snoc_get, if_pos e, List.getElem?_append_left (by omega)]
    exact h j e i hi
  · obtain rfl : j = l.length := by simp at hj; omega
    rw [snoc_get, if_neg (Nat.lt_irrefl _), if_pos rfl, List.getElem?_append_right (by omega), hl, show l.length * 2 + i - l.length * 2 = i by omega]
theorem WinEls.wins {b : Nat} {w : World} {v : Value} {vs : List Value} {l : List Win} (h : WinEls vs l) (ho : w.ownsRow b 56 2 v l.length vs) : WinsAt w v l := by
  rcases ho.2 with ⟨hv, hn⟩ | ⟨g, cap, cur, rfl, -, hg, h3, h4, -⟩
  · exact ⟨none, 0, by rw [hv, hn], by omega, Nat.zero_le _, fun _ => rfl, .inl hn⟩
  · refine ⟨_, cap, rfl, h3, h4, (fun e => by cases e), .inr ⟨g, 0, rfl, lt_heap hg, fun j hj => ?_⟩⟩
    have hc : ∀ i, i < 2 → w.cell? ⟨g, 0 + j * 2 + i, none⟩ = (winV (l.getD j win0))[i]? := fun i hi => by rw [Nat.zero_add]; exact (ho.cellAt (j * 2 + i) (by have := h.1; omega)).trans (h.2 j hj i hi)
    exact ⟨hc 0 (by omega), hc 1 (by omega)⟩
theorem own2_form {w : World} {base : Nat} {e : TypeId} {size : Nat} {v : Value} {n : Nat} {xs : List Value} (h : w.ownsRow base e size v n xs) : ∃ a c, v = .slice a n c := by
  rcases h.2 with ⟨hv, rfl⟩ | ⟨g, cap, cur, hv, -⟩
  · exact ⟨none, 0, hv⟩
  · exact ⟨_, cap, hv⟩
theorem lit_win (w : World) (x : Win) (t : TypeId) : ∀ (j : Nat) (u : Value), (winV x)[j]? = some u → (w.alloc (.cells #[.int .i64 x.a, .int .i64 x.b] t)).cell? ((⟨w.heap.size, 0, none⟩ : Addr).add j) = some u := fun j u hj => by
  have hadd : (⟨w.heap.size, 0, none⟩ : Addr).add j = ⟨w.heap.size, 0 + j, none⟩ := Addr.add_mid _ _ _
  rw [hadd, Nat.zero_add, cell_of_row _ _ j _ t _ (box_new w _ t), ← hj]
  simp [winV]

end Go.Proofs.YtkjlchfmplcobagDoor

/- The small fleet that each law of chapter 7 asks first. -/
namespace Go.Proofs.YtkjlchfmplcobagDoor

def doD (kind n : Int) : Dd := ⟨kind, n, 0, [], 0, 0, 0⟩
def subD (time : Int) (b : List Int) : Dd := ⟨1, 0, time, b, 0, 0, 0⟩
end Go.Proofs.YtkjlchfmplcobagDoor
