/- FleetFace, FleetAliveM, BookRefRec, FleetAlive, BookFive, ShelfRefSame, TreeSame, FleetSame, as one text. -/
import Derived.Test.YtkjlchfmplcobagGreatDoorProg
import Derived.Test.YtkjlchfmplcobagGreatDoorRunAC
import Derived.Test.YtkjlchfmplcobagGreatDoorRunAN
import Derived.WalkKit
import Derived.WalkSpells
import Derived.WalkLawsBesides
import Derived.Deep.RegionHeld3
import Derived.BigRegion
import Derived.Test.YtkjlchfmplcobagGreatDoorRunAB
import Derived.Deep.QuietTactic
import Derived.BigQuiet
/- What the laws of chapter 7 ask of package fleet's faces, as propositions: each is shown of the landed code elsewhere. Fleets in memory. -/
namespace Go.Proofs.YtkjlchfmplcobagGreatDoor
open Go.RowKit

/-- A slice of elements of n cells each, as the walks meet it. -/
def RowAt {α : Type} (n : Nat) (P : World → Nat → Nat → α → Prop) (z : α) (w : World) (v : Value) (l : List α) : Prop :=
  ∃ a c, v = .slice a l.length c ∧ l.length ≤ c ∧ c ≤ maxLen ∧ (a = none → c = 0) ∧ (l.length = 0 ∨ ∃ b off, a = some ⟨b, off, none⟩ ∧ b < w.heap.size ∧ ∀ j, j < l.length → P w b (off + j * n) (l.getD j z))
theorem RowAt.below {α : Type} {n : Nat} {P : World → Nat → Nat → α → Prop} {z : α} {w w' : World} {v : Value} {l : List α} (h : RowAt n P z w v l) (hw : Below w.heap.size w w') (hP : ∀ b o x, b < w.heap.size → P w b o x → P w' b o x) : RowAt n P z w' v l := by
  obtain ⟨a, c, h1, h2, h3, h4, h5⟩ := h
  refine ⟨a, c, h1, h2, h3, h4, ?_⟩
  rcases h5 with h5 | ⟨b, off, h6, h7, h8⟩
  · exact .inl h5
  · exact .inr ⟨b, off, h6, Nat.lt_of_lt_of_le h7 hw.size, fun j hj => hP _ _ _ h7 (h8 j hj)⟩
theorem RowAt.form {α : Type} {n : Nat} {P : World → Nat → Nat → α → Prop} {z : α} {w : World} {v : Value} {l : List α} (h : RowAt n P z w v l) : ∃ a c, v = .slice a l.length c := by
  obtain ⟨a, c, e, -⟩ := h; exact ⟨a, c, e⟩
theorem RowAt.nil {α : Type} (n : Nat) (P : World → Nat → Nat → α → Prop) (z : α) (w : World) : RowAt n P z w (.slice none 0 0) [] := ⟨none, 0, rfl, Nat.le_refl _, Nat.zero_le _, fun _ => rfl, .inl rfl⟩
theorem RowAt.first {α : Type} {n : Nat} {P : World → Nat → Nat → α → Prop} {z : α} {w : World} {a : Option Addr} {m c k : Nat} {l : List α} (h : RowAt n P z w (.slice a m c) l) (hm : l.length = m) (hk : k ≤ m) : RowAt n P z w (.slice a k c) (l.take k) := by
  obtain ⟨a', c', e, h2, h3, h4, h5⟩ := h
  rw [hm] at e h2 h5
  cases e
  have hl : (l.take k).length = k := by rw [List.length_take]; omega
  refine ⟨a, c, by rw [hl], by omega, h3, h4, ?_⟩
  by_cases hk0 : k = 0
  · exact .inl (by omega)
  obtain ⟨b, off, h6, h7, h8⟩ := h5.resolve_left (by omega)
  refine .inr ⟨b, off, h6, h7, fun j hj => ?_⟩
  rw [hl] at hj
  rw [List.getD_eq_getElem?_getD, List.getElem?_take, if_pos hj, ← List.getD_eq_getElem?_getD]
  exact h8 j (by omega)
def WinCells (w : World) (b o : Nat) (x : Win) : Prop := w.cell? ⟨b, o, none⟩ = some (.int .i64 x.a) ∧ w.cell? ⟨b, o + 1, none⟩ = some (.int .i64 x.b)
def WinsAt (w : World) (v : Value) (l : List Win) : Prop := RowAt 2 WinCells win0 w v l
theorem WinsAt.below {w w' : World} {v : Value} {l : List Win} (h : WinsAt w v l) (hw : Below w.heap.size w w') : WinsAt w' v l :=
  RowAt.below h hw (fun b o _ hb ⟨h1, h2⟩ => ⟨by rw [hw.cell (p := ⟨b, o, none⟩) hb]; exact h1, by rw [hw.cell (p := ⟨b, o + 1, none⟩) hb]; exact h2⟩)
/-- Numbers that their types hold. -/
abbrev DdFit (x : Dd) : Prop := (0 ≤ x.by' ∧ x.by' < 256) ∧ (-9223372036854775808 ≤ x.kind ∧ x.kind ≤ 9223372036854775807)
structure DdCells (w : World) (b o : Nat) (x : Dd) : Prop where
  kind : w.cell? ⟨b, o, none⟩ = some (.int .i64 x.kind)
  n : w.cell? ⟨b, o + 1, none⟩ = some (.int .i64 x.n)
  time : w.cell? ⟨b, o + 2, none⟩ = some (.int .i64 x.time)
  entry : ∃ pa pc, w.cell? ⟨b, o + 3, none⟩ = some (.slice pa x.entry.length pc) ∧ Some' w (.slice pa x.entry.length pc) x.entry
  segment : w.cell? ⟨b, o + 4, none⟩ = some (.int .i64 x.segment)
  at' : w.cell? ⟨b, o + 5, none⟩ = some (.int .i64 x.at')
  by' : w.cell? ⟨b, o + 6, none⟩ = some (.int .u8 x.by')
  byte : DdFit x
theorem DdCells.below {w w' : World} {b o : Nat} {x : Dd} (h : DdCells w b o x) (hb : b < w.heap.size) (hw : Below w.heap.size w w') : DdCells w' b o x := by
  obtain ⟨h1, h2, h3, ⟨pa, pc, h4, h4'⟩, h5, h6, h7, h8⟩ := h
  exact ⟨by rw [hw.cell (p := ⟨b, o, none⟩) hb]; exact h1, by rw [hw.cell (p := ⟨b, o + 1, none⟩) hb]; exact h2, by rw [hw.cell (p := ⟨b, o + 2, none⟩) hb]; exact h3, ⟨pa, pc, by rw [hw.cell (p := ⟨b, o + 3, none⟩) hb]; exact h4, h4'.below hw⟩, by rw [hw.cell (p := ⟨b, o + 4, none⟩) hb]; exact h5, by rw [hw.cell (p := ⟨b, o + 5, none⟩) hb]; exact h6, by rw [hw.cell (p := ⟨b, o + 6, none⟩) hb]; exact h7, h8⟩
def DosAt (w : World) (v : Value) (l : List Dd) : Prop := RowAt 7 DdCells dd0 w v l
theorem DosAt.below {w w' : World} {v : Value} {l : List Dd} (h : DosAt w v l) (hw : Below w.heap.size w w') : DosAt w' v l := RowAt.below h hw (fun _ _ _ hb hx => hx.below hb hw)
structure ShdCells (w : World) (b o : Nat) (s : Shd) : Prop where
  from' : w.cell? ⟨b, o, none⟩ = some (.int .i64 s.from')
  to' : w.cell? ⟨b, o + 1, none⟩ = some (.int .i64 s.to')
  state : w.cell? ⟨b, o + 2, none⟩ = some (.int .i64 s.state)
  entries : ∃ ea ec, w.cell? ⟨b, o + 3, none⟩ = some (.slice ea s.entries.length ec) ∧ Lists w ea s.entries.length ec s.entries
  size : w.cell? ⟨b, o + 4, none⟩ = some (.int .i64 s.man.size)
  root : ∃ ra rc, w.cell? ⟨b, o + 5, none⟩ = some (.slice ra s.man.root.length rc) ∧ Some' w (.slice ra s.man.root.length rc) s.man.root
  segs : ∃ ga gc, w.cell? ⟨b, o + 6, none⟩ = some (.slice ga s.man.segs.length gc) ∧ SegsAt w (.slice ga s.man.segs.length gc) s.man.segs
theorem ShdCells.below {w w' : World} {b o : Nat} {s : Shd} (h : ShdCells w b o s) (hb : b < w.heap.size) (hw : Below w.heap.size w w') : ShdCells w' b o s := by
  obtain ⟨h1, h2, h3, ⟨ea, ec, h4, h4'⟩, h5, ⟨ra, rc, h6, h6'⟩, ⟨ga, gc, h7, h7'⟩⟩ := h
  exact ⟨by rw [hw.cell (p := ⟨b, o, none⟩) hb]; exact h1, by rw [hw.cell (p := ⟨b, o + 1, none⟩) hb]; exact h2, by rw [hw.cell (p := ⟨b, o + 2, none⟩) hb]; exact h3, ⟨ea, ec, by rw [hw.cell (p := ⟨b, o + 3, none⟩) hb]; exact h4, h4'.below hw⟩, by rw [hw.cell (p := ⟨b, o + 4, none⟩) hb]; exact h5, ⟨ra, rc, by rw [hw.cell (p := ⟨b, o + 5, none⟩) hb]; exact h6, h6'.below hw⟩, ⟨ga, gc, by rw [hw.cell (p := ⟨b, o + 6, none⟩) hb]; exact h7, h7'.below hw⟩⟩
def ShdsAt (w : World) (v : Value) (l : List Shd) : Prop := RowAt 7 ShdCells shd0 w v l
theorem ShdsAt.below {w w' : World} {v : Value} {l : List Shd} (h : ShdsAt w v l) (hw : Below w.heap.size w w') : ShdsAt w' v l := RowAt.below h hw (fun _ _ _ hb hx => hx.below hb hw)
/-- A fleet as the walks meet it. -/
def FltV (w : World) (v : Value) (f : Flt) : Prop := ∃ sa sc ba bc, v = .agg #[.slice sa f.shards.length sc, .slice ba f.book.length bc] ∧ ShdsAt w (.slice sa f.shards.length sc) f.shards ∧ RecsAt w (.slice ba f.book.length bc) f.book
theorem FltV.below {w w' : World} {v : Value} {f : Flt} (h : FltV w v f) (hw : Below w.heap.size w w') : FltV w' v f := by
  obtain ⟨sa, sc, ba, bc, h1, h2, h3⟩ := h
  exact ⟨sa, sc, ba, bc, h1, h2.below hw, h3.below hw⟩
def AnsCells (w : World) (b o : Nat) (x : Ans) : Prop := w.cell? ⟨b, o, none⟩ = some (.int .i64 x.err) ∧ w.cell? ⟨b, o + 1, none⟩ = some (.int .i64 x.shard) ∧ w.cell? ⟨b, o + 2, none⟩ = some (.int .i64 x.place) ∧ w.cell? ⟨b, o + 3, none⟩ = some (.int .i64 x.size) ∧
  ∃ ra rc, w.cell? ⟨b, o + 4, none⟩ = some (.slice ra x.root.length rc) ∧ Some' w (.slice ra x.root.length rc) x.root
theorem AnsCells.below {w w' : World} {b o : Nat} {x : Ans} (h : AnsCells w b o x) (hb : b < w.heap.size) (hw : Below w.heap.size w w') : AnsCells w' b o x := by
  obtain ⟨h0, h1, h2, h3, ra, rc, h4, h5⟩ := h
  exact ⟨by rw [hw.cell (p := ⟨b, o, none⟩) hb]; exact h0, by rw [hw.cell (p := ⟨b, o + 1, none⟩) hb]; exact h1, by rw [hw.cell (p := ⟨b, o + 2, none⟩) hb]; exact h2, by rw [hw.cell (p := ⟨b, o + 3, none⟩) hb]; exact h3, ra, rc, by rw [hw.cell (p := ⟨b, o + 4, none⟩) hb]; exact h4, h5.below hw⟩
def AnssAt (w : World) (v : Value) (l : List Ans) : Prop := RowAt 5 AnsCells ans0 w v l
theorem AnssAt.below {w w' : World} {v : Value} {l : List Ans} (h : AnssAt w v l) (hw : Below w.heap.size w w') : AnssAt w' v l := RowAt.below h hw (fun _ _ _ hb hx => hx.below hb hw)
/-- What is shown, as the walks meet it. -/
structure ShwV (w : World) (v : Value) (s : Shw) : Prop where
  form : ∃ ea ec pa pc ra rc ba bc ha hc, v = .agg #[.slice ea s.entry.length ec, .int .i64 s.place, .int .i64 s.shard, .slice pa s.path.length pc, .int .i64 s.rcd.shard, .int .i64 s.rcd.from', .int .i64 s.rcd.to', .int .i64 s.rcd.size, .slice ra s.rcd.root.length rc, .int .i64 s.row, .slice ba s.bookPath.length bc, .int .i64 s.hsize, .slice ha s.hroot.length hc] ∧
    Some' w (.slice ea s.entry.length ec) s.entry ∧ Lists w pa s.path.length pc s.path ∧ Some' w (.slice ra s.rcd.root.length rc) s.rcd.root ∧ Lists w ba s.bookPath.length bc s.bookPath ∧ Some' w (.slice ha s.hroot.length hc) s.hroot
theorem ShwV.below {w w' : World} {v : Value} {s : Shw} (h : ShwV w v s) (hw : Below w.heap.size w w') : ShwV w' v s := by
  obtain ⟨ea, ec, pa, pc, ra, rc, ba, bc, ha, hc, h1, h2, h3, h4, h5, h6⟩ := h.form
  exact ⟨ea, ec, pa, pc, ra, rc, ba, bc, ha, hc, h1, h2.below hw, h3.below hw, h4.below hw, h5.below hw, h6.below hw⟩
def PlayC : Prop := ∀ (ws : List Win) (l : List Dd) (wv dv : Value) (w : World), Ready w → WinsAt w wv ws → DosAt w dv l →
  Calls Tryz.prog 8 #[wv, dv] w fun e w' => ∃ fv av, e = .returned (.tuple #[fv, av, faultV (playF ws l)]) ∧ FltV w' fv (playL ws l).1 ∧ AnssAt w' av (playL ws l).2 ∧ Below w.heap.size w w'
def ShowC : Prop := ∀ (ws : List Win) (f : Flt) (k i : Int) (fv : Value) (w : World), (wrongWins ws).1 = 0 → FltOk ws f → Ready w → FltV w fv f →
  Calls Tryz.prog 10 #[fv, .int .i64 k, .int .i64 i] w fun e w' => ∃ sv, e = .returned (.tuple #[sv, .int .i64 (showL f k i).2]) ∧ ShwV w' sv (showL f k i).1 ∧ Below w.heap.size w w'
def CheckC : Prop := ∀ (s : Shw) (hs : Int) (hr : List Int) (sv hv : Value) (w : World), Ready w → ShwV w sv s → Some' w hv hr →
  Calls Tryz.prog 18 #[sv, .agg #[.int .i64 hs, hv]] w fun e w' => e = .returned (.bool (checkL s hs hr)) ∧ Below w.heap.size w w'

end Go.Proofs.YtkjlchfmplcobagGreatDoor

/- The small fleet that each law of chapter 7 asks first. -/
namespace Go.Proofs.YtkjlchfmplcobagGreatDoor

def aliveW : List Win := [⟨0, 10⟩, ⟨10, 20⟩]
def doD (kind n : Int) : Dd := ⟨kind, n, 0, [], 0, 0, 0⟩
def subD (time : Int) (b : List Int) : Dd := ⟨1, 0, time, b, 0, 0, 0⟩
def aliveD : List Dd := [subD 12 [7], doD 2 1, doD 3 1, doD 4 1]
theorem aliveW_right : wrongWins aliveW = (0, 0) := by decide +kernel
theorem aliveD_right : playF aliveW aliveD = (0, 0) := by unfold playF; rw [aliveW_right]; rfl
def shdA (k : Nat) (st : Int) (es : List (List Int)) (m : Man) : Shd := ⟨10 * (k : Int), 10 * (k : Int) + 10, st, es, m⟩
theorem alive_1 : stepL (startL aliveW) (subD 12 [7]) = (⟨[shdA 0 1 [] man0, shdA 1 1 [[7]] man0], []⟩, ⟨0, 1, 0, 0, []⟩) := by rfl
theorem alive_2 : stepL ⟨[shdA 0 1 [] man0, shdA 1 1 [[7]] man0], []⟩ (doD 2 1) = (⟨[shdA 0 1 [] man0, shdA 1 2 [[7]] man0], [⟨1, 10, 20, 1, mth [[7]]⟩]⟩, ⟨0, 1, 0, 1, mth [[7]]⟩) := by rfl
theorem seven_right : wrongL [[7]] = (0, 0) := by rfl
theorem alive_3 : stepL ⟨[shdA 0 1 [] man0, shdA 1 2 [[7]] man0], [⟨1, 10, 20, 1, mth [[7]]⟩]⟩ (doD 3 1) = (⟨[shdA 0 1 [] man0, shdA 1 3 [[7]] (exportL [[7]])], [⟨1, 10, 20, 1, mth [[7]]⟩]⟩, ⟨0, 1, 0, (exportL [[7]]).size, (exportL [[7]]).root⟩) := by rfl
theorem seven_verify : (verifyL (exportL [[7]])).2.1 = 0 := by
  have : exportL [[7]] = ⟨([[7]] : List (List Int)).length, mth [[7]], segsL [[7]]⟩ := by unfold exportL; rw [seven_right, if_neg (fun g => g rfl)]
  rw [this, verify_export (by decide) (by decide)]
theorem alive_4 : stepL ⟨[shdA 0 1 [] man0, shdA 1 3 [[7]] (exportL [[7]])], [⟨1, 10, 20, 1, mth [[7]]⟩]⟩ (doD 4 1) = (⟨[shdA 0 1 [] man0, shdA 1 4 [] (exportL [[7]])], [⟨1, 10, 20, 1, mth [[7]]⟩]⟩, ⟨0, 1, 0, (exportL [[7]]).size, (exportL [[7]]).root⟩) := by
  unfold stepL
  rw [if_neg (by decide), if_neg (by decide), if_neg (by decide), if_neg (by decide)]
  show stepAt _ 1 _ = _
  unfold stepAt
  dsimp only
  rw [if_neg (by decide), if_neg (by decide), if_pos (show (doD 4 1).kind = 4 from rfl)]
  have : (([shdA 0 1 [] man0, shdA 1 3 [[7]] (exportL [[7]])] : List Shd).getD 1 shd0).man = exportL [[7]] := rfl
  rw [this, seven_verify, if_neg (fun g => g rfl)]
  rfl
def aliveF : Flt := ⟨[shdA 0 1 [] man0, shdA 1 4 [] (exportL [[7]])], [⟨1, 10, 20, 1, mth [[7]]⟩]⟩
theorem alive_run : runL (startL aliveW) aliveD = (aliveF, [⟨0, 1, 0, 0, []⟩, ⟨0, 1, 0, 1, mth [[7]]⟩, ⟨0, 1, 0, (exportL [[7]]).size, (exportL [[7]]).root⟩, ⟨0, 1, 0, (exportL [[7]]).size, (exportL [[7]]).root⟩]) := by
  show runL _ [_, _, _, _] = _
  simp only [runL, alive_1, alive_2, alive_3, alive_4]
  rfl
theorem alive_play : playL aliveW aliveD = (aliveF, [⟨0, 1, 0, 0, []⟩, ⟨0, 1, 0, 1, mth [[7]]⟩, ⟨0, 1, 0, (exportL [[7]]).size, (exportL [[7]]).root⟩, ⟨0, 1, 0, (exportL [[7]]).size, (exportL [[7]]).root⟩]) := by
  unfold playL; rw [aliveD_right, if_neg (fun g => g rfl), alive_run]
theorem aliveF_ok : FltOk aliveW aliveF := by
  have := run_ok (start_ok aliveW) aliveD
  rw [alive_run] at this
  exact this
theorem alive_shown : (showL aliveF 1 0).2 = 0 ∧ (showL aliveF 1 0).1.entry = [7] ∧ checkL (showL aliveF 1 0).1 1 (mth (rowsOf aliveF.book)) = true := by
  have h := shown (ws := aliveW) (by rw [aliveW_right]) aliveD (by decide) (i := 0) (by decide) rfl (by rw [alive_run]; rfl)
  rw [alive_run] at h
  obtain ⟨k, p, e, -, h2⟩ := h
  have e1 : (1 : Int) = (k : Int) := congrArg Ans.shard e
  have e2 : (0 : Int) = (p : Int) := congrArg Ans.place e
  obtain rfl : k = 1 := by omega
  obtain rfl : p = 0 := by omega
  exact h2 (by decide)

end Go.Proofs.YtkjlchfmplcobagGreatDoor

/- Boxes of records; the walks of yearref5.SameRecord and yearref5.WrongRecord. -/
namespace Go.Proofs.YtkjlchfmplcobagGreatDoor
open Go.RowKit

/-- What a variable of five cells holds. -/
theorem box_five {w : World} {k : Nat} {a b c d e : Value} {t : TypeId} (h : w.heap[k]? = some (.cells #[a, b, c, d, e] t (0, 0))) :
    w.cell? ⟨k, 0, none⟩ = some a ∧ w.cell? ⟨k, 1, none⟩ = some b ∧ w.cell? ⟨k, 2, none⟩ = some c ∧ w.cell? ⟨k, 3, none⟩ = some d ∧ w.cell? ⟨k, 4, none⟩ = some e :=
  ⟨cell_of_row w k 0 _ t _ h, cell_of_row w k 1 _ t _ h, cell_of_row w k 2 _ t _ h, cell_of_row w k 3 _ t _ h, cell_of_row w k 4 _ t _ h⟩
set_option maxRecDepth 100000 in
set_option maxHeartbeats 2000000 in
theorem sameRec_yes (r : Rec) (v1 v2 : Value) (w : World) (h1 : RecV w v1 r) (h2 : RecV w v2 r) :
    Calls Tryz.prog 53 #[v1, v2] w fun e w' => e = .returned (.bool true) ∧ Below w.heap.size w w' := by
  obtain ⟨ra, rc, rfl, hr⟩ := h1
  obtain ⟨ta, tc, rfl, ht⟩ := h2
  obtain ⟨s, f, t, z, root⟩ := r
  dsimp only at hr ht ⊢
  have b0 : Below w.heap.size w ((w.alloc (.cells #[.int .i64 s, .int .i64 f, .int .i64 t, .int .i64 z, .slice ra root.length rc] 44)).alloc (.cells #[.int .i64 s, .int .i64 f, .int .i64 t, .int .i64 z, .slice ta root.length tc] 44)) := ((Below.refl _ _).alloc (Nat.le_refl _) _).alloc (by simp) _
  obtain ⟨x0, x1, x2, x3, x4⟩ := box_five (box_one w #[.int .i64 s, .int .i64 f, .int .i64 t, .int .i64 z, .slice ra root.length rc] 44 (.cells #[.int .i64 s, .int .i64 f, .int .i64 t, .int .i64 z, .slice ta root.length tc] 44))
  obtain ⟨y0, y1, y2, y3, y4⟩ := box_five (box_last w (.cells #[.int .i64 s, .int .i64 f, .int .i64 t, .int .i64 z, .slice ra root.length rc] 44) #[.int .i64 s, .int .i64 f, .int .i64 t, .int .i64 z, .slice ta root.length tc] 44)
  have sE := sameHead_yes z root _ _ _ (hr.below b0) (ht.below b0)
  have q1 : (s == s) = true := by simp
  have q2 : (f == f) = true := by simp
  have q3 : (t == t) = true := by simp
  clear hr ht
  generalize root.length = n at *
  go_enter Tryz.func53, Tryz.ntmps53
  go_wp2_with fail
  refine sE.mono ?_
  rintro e w3 ⟨rfl, hb3⟩
  go_wp2_with fail
  go_ret
  exact ⟨rfl, b0.trans (hb3.mono b0.size)⟩
end Go.Proofs.YtkjlchfmplcobagGreatDoor

/- The walks of yearlaw7.do, yearlaw7.submit and yearlaw7.alive, over package fleet's faces. -/
namespace Go.Proofs.YtkjlchfmplcobagGreatDoor
open Go.RowKit

/-- What a variable of thirteen cells holds. -/
theorem box_13 {w : World} {k : Nat} {v0 v1 v2 v3 v4 v5 v6 v7 v8 v9 v10 v11 v12 : Value} {t : TypeId} (h : w.heap[k]? = some (.cells #[v0, v1, v2, v3, v4, v5, v6, v7, v8, v9, v10, v11, v12] t (0, 0))) :
    w.cell? ⟨k, 0, none⟩ = some v0 ∧ w.cell? ⟨k, 1, none⟩ = some v1 ∧ w.cell? ⟨k, 2, none⟩ = some v2 ∧ w.cell? ⟨k, 3, none⟩ = some v3 ∧ w.cell? ⟨k, 4, none⟩ = some v4 ∧ w.cell? ⟨k, 5, none⟩ = some v5 ∧ w.cell? ⟨k, 6, none⟩ = some v6 ∧ w.cell? ⟨k, 7, none⟩ = some v7 ∧ w.cell? ⟨k, 8, none⟩ = some v8 ∧ w.cell? ⟨k, 9, none⟩ = some v9 ∧ w.cell? ⟨k, 10, none⟩ = some v10 ∧ w.cell? ⟨k, 11, none⟩ = some v11 ∧ w.cell? ⟨k, 12, none⟩ = some v12 :=
  ⟨cell_of_row w k 0 _ t _ h, cell_of_row w k 1 _ t _ h, cell_of_row w k 2 _ t _ h, cell_of_row w k 3 _ t _ h, cell_of_row w k 4 _ t _ h, cell_of_row w k 5 _ t _ h, cell_of_row w k 6 _ t _ h, cell_of_row w k 7 _ t _ h, cell_of_row w k 8 _ t _ h, cell_of_row w k 9 _ t _ h, cell_of_row w k 10 _ t _ h, cell_of_row w k 11 _ t _ h, cell_of_row w k 12 _ t _ h⟩
set_option maxRecDepth 100000 in
theorem do7_any (kind n : Int) (w : World) :
    Calls Tryz.prog 20 #[.int .i64 kind, .int .i64 n] w fun e w' => e = .returned (.agg #[.int .i64 kind, .int .i64 n, .int .i64 0, .slice none 0 0, .int .i64 0, .int .i64 0, .int .u8 0]) ∧ Below w.heap.size w w' := by
  have b0 : Below w.heap.size w (w.alloc (.cells #[.int .i64 kind, .int .i64 n, .int .i64 0, .slice none 0 0, .int .i64 0, .int .i64 0, .int .u8 0] 56)) := (Below.refl _ _).alloc (Nat.le_refl _) _
  go_enter Tryz.func20, Tryz.ntmps20
  go_wp2_with fail
  exact bodyPost_ret (v := .agg #[.int .i64 kind, .int .i64 n, .int .i64 0, .slice none 0 0, .int .i64 0, .int .i64 0, .int .u8 0]) (by simp [results, Tryz.results20, go_sem]) rfl ⟨rfl, b0⟩
set_option maxRecDepth 100000 in
theorem submit7_any (t : Int) (ba : Option Addr) (bn bc : Nat) (w : World) :
    Calls Tryz.prog 19 #[.int .i64 t, .slice ba bn bc] w fun e w' => e = .returned (.agg #[.int .i64 1, .int .i64 0, .int .i64 t, .slice ba bn bc, .int .i64 0, .int .i64 0, .int .u8 0]) ∧ Below w.heap.size w w' := by
  have b0 : Below w.heap.size w (w.alloc (.cells #[.int .i64 1, .int .i64 0, .int .i64 t, .slice ba bn bc, .int .i64 0, .int .i64 0, .int .u8 0] 56)) := (Below.refl _ _).alloc (Nat.le_refl _) _
  go_enter Tryz.func19, Tryz.ntmps19
  go_wp2_with fail
  exact bodyPost_ret (v := .agg #[.int .i64 1, .int .i64 0, .int .i64 t, .slice ba bn bc, .int .i64 0, .int .i64 0, .int .u8 0]) (by simp [results, Tryz.results19, go_sem]) rfl ⟨rfl, b0⟩
/-- The four things that are done, in memory. -/
def aliveCells (ba : Option Addr) (bc : Nat) : Array Value := #[.int .i64 1, .int .i64 0, .int .i64 12, .slice ba 1 bc, .int .i64 0, .int .i64 0, .int .u8 0, .int .i64 2, .int .i64 1, .int .i64 0, .slice none 0 0, .int .i64 0, .int .i64 0, .int .u8 0, .int .i64 3, .int .i64 1, .int .i64 0, .slice none 0 0, .int .i64 0, .int .i64 0, .int .u8 0, .int .i64 4, .int .i64 1, .int .i64 0, .slice none 0 0, .int .i64 0, .int .i64 0, .int .u8 0]
theorem alive_dos (w : World) (t : TypeId) (ba : Option Addr) (bc : Nat) (hb : Some' w (.slice ba 1 bc) [7]) : DosAt (w.alloc (.cells (aliveCells ba bc) t)) (.slice (some ⟨w.heap.size, 0, none⟩) 4 4) aliveD := by
  have hbl : Below w.heap.size w (w.alloc (.cells (aliveCells ba bc) t)) := (Below.refl _ _).alloc (Nat.le_refl _) _
  have hnil : Some' (w.alloc (.cells (aliveCells ba bc) t)) (.slice none 0 0) [] := ⟨bytesAt_nil _, nil_bytes, Nat.zero_le _⟩
  have hc : ∀ j, j < 28 → (w.alloc (.cells (aliveCells ba bc) t)).cell? ⟨w.heap.size, j, none⟩ = (aliveCells ba bc)[j]? := fun j hj => cell_of_row _ _ j _ t _ (box_new w _ t)
  refine ⟨_, 4, rfl, Nat.le_refl _, by unfold maxLen; omega, (fun e => by cases e), .inr ⟨w.heap.size, 0, rfl, by simp, fun j hj => ?_⟩⟩
  have hj4 : j < 4 := hj
  match j, hj4 with
  | 0, _ => exact ⟨hc 0 (by omega), hc 1 (by omega), hc 2 (by omega), ⟨ba, bc, hc 3 (by omega), hb.below hbl⟩, hc 4 (by omega), hc 5 (by omega), hc 6 (by omega), by decide⟩
  | 1, _ => exact ⟨hc 7 (by omega), hc 8 (by omega), hc 9 (by omega), ⟨none, 0, hc 10 (by omega), hnil⟩, hc 11 (by omega), hc 12 (by omega), hc 13 (by omega), by decide⟩
  | 2, _ => exact ⟨hc 14 (by omega), hc 15 (by omega), hc 16 (by omega), ⟨none, 0, hc 17 (by omega), hnil⟩, hc 18 (by omega), hc 19 (by omega), hc 20 (by omega), by decide⟩
  | 3, _ => exact ⟨hc 21 (by omega), hc 22 (by omega), hc 23 (by omega), ⟨none, 0, hc 24 (by omega), hnil⟩, hc 25 (by omega), hc 26 (by omega), hc 27 (by omega), by decide⟩
theorem alive_wins (w : World) (t : TypeId) : WinsAt (w.alloc (.cells #[.int .i64 0, .int .i64 10, .int .i64 10, .int .i64 20] t)) (.slice (some ⟨w.heap.size, 0, none⟩) 2 2) aliveW := by
  refine ⟨_, 2, rfl, Nat.le_refl _, by unfold maxLen; omega, (fun e => by cases e), .inr ⟨w.heap.size, 0, rfl, by simp, fun j hj => ?_⟩⟩
  have hj2 : j < 2 := hj
  match j, hj2 with
  | 0, _ => exact ⟨new_cell w t _ 0 (by simp), new_cell w t _ 1 (by simp)⟩
  | 1, _ => exact ⟨new_cell w t _ 2 (by simp), new_cell w t _ 3 (by simp)⟩
theorem alive_seven (w : World) (t : TypeId) : Some' (w.alloc (.cells #[.int .u8 7] t)) (.slice (some ⟨w.heap.size, 0, none⟩) 1 1) [7] :=
  ⟨const_bytes w t [7] 1 rfl (0, 0), bytes_cons (by decide) (by decide) nil_bytes, by show 1 ≤ maxLen; unfold maxLen; omega⟩
set_option maxRecDepth 100000 in
set_option maxHeartbeats 4000000 in
theorem alive7_any (hPl : PlayC) (hSh : ShowC) (hCh : CheckC) (hHe : BookHeadC) (w : World) (hR : Ready w) :
    Calls Tryz.prog 7 #[] w fun e w' => e = .returned (.bool true) ∧ Below w.heap.size w w' := by
  have b0 : Below w.heap.size w ((w.alloc (.cells #[.int .i64 0, .int .i64 10, .int .i64 10, .int .i64 20] 57)).alloc (.cells #[.int .u8 7] 5)) := ((Below.refl _ _).alloc (Nat.le_refl _) _).alloc (by simp) _
  have hW0 := (alive_wins w 57).below ((Below.refl _ _).alloc (Nat.le_refl _) (.cells #[.int .u8 7] 5))
  have hS0 := alive_seven (w.alloc (.cells #[.int .i64 0, .int .i64 10, .int .i64 10, .int .i64 20] 57)) 5
  rw [World.size_alloc] at hS0
  go_enter Tryz.func7, Tryz.ntmps7
  go_wp2_with fail
  generalize (w.alloc (.cells #[.int .i64 0, .int .i64 10, .int .i64 10, .int .i64 20] 57)).alloc (.cells #[.int .u8 7] 5) = w0 at *
  refine (submit7_any 12 _ 1 1 w0).mono ?_
  rintro e w1 ⟨rfl, hb1⟩
  have b1 := b0.trans (hb1.mono b0.size)
  go_wp2_with fail
  refine (do7_any 2 1 w1).mono ?_
  rintro e w2 ⟨rfl, hb2⟩
  have c2 := hb1.trans (hb2.mono hb1.size)
  go_wp2_with fail
  refine (do7_any 3 1 w2).mono ?_
  rintro e w3 ⟨rfl, hb3⟩
  have c3 := c2.trans (hb3.mono c2.size)
  go_wp2_with fail
  refine (do7_any 4 1 w3).mono ?_
  rintro e w4 ⟨rfl, hb4⟩
  have c4 := c3.trans (hb4.mono c3.size)
  have hD5 := alive_dos w4 56 _ 1 (hS0.below c4)
  have d5 : Below w4.heap.size w4 (w4.alloc (.cells (aliveCells (some ⟨w.heap.size + 1, 0, none⟩) 1) 56)) := (Below.refl _ _).alloc (Nat.le_refl _) _
  have c5 := c4.trans (d5.mono c4.size)
  have b5 := b0.trans (c5.mono b0.size)
  have hW5 := hW0.below c5
  have cP := hPl aliveW aliveD _ _ _ (hR.below b5) hW5 hD5
  rw [aliveD_right, alive_play] at cP
  dsimp only [faultV] at cP
  clear hW0 hS0 b0 b1 hb1 hb2 hb3 hb4 c2 c3 c4 d5 c5 hW5 hD5 hPl
  unfold aliveCells at cP b5
  go_wp2_with fail
  generalize w4.alloc _ = w5 at *
  refine cP.mono ?_
  rintro e w6 ⟨fv, av, rfl, hF, hA, hb6⟩
  have b6 := b5.trans (hb6.mono b5.size)
  obtain ⟨sa, sc, ka, kc, rfl, hSh6, hBk6⟩ := hF
  obtain ⟨aa, ac, rfl, ha1, ha2, ha3, hAc⟩ := hA
  obtain ⟨ab, ao, rfl, hab, hcs⟩ := hAc.resolve_left (by decide)
  obtain ⟨a3, -, -, -, -⟩ := hcs 3 (by decide)
  have d7 : Below w6.heap.size w6 ((w6.alloc (.cells #[.slice sa aliveF.shards.length sc, .slice ka aliveF.book.length kc] 28)).alloc (.cells #[.int .i64 0, .int .i64 0] 32)) := ((Below.refl _ _).alloc (Nat.le_refl _) _).alloc (by simp) _
  have b7 := b6.trans (d7.mono b6.size)
  have x7 := box_one w6 #[.slice sa aliveF.shards.length sc, .slice ka aliveF.book.length kc] 28 (.cells #[.int .i64 0, .int .i64 0] 32)
  obtain ⟨f0, f1, -, -⟩ := box_two (box_last w6 (.cells #[.slice sa aliveF.shards.length sc, .slice ka aliveF.book.length kc] 28) #[.int .i64 0, .int .i64 0] 32)
  have a7 := (d7.cell (p := ⟨ab, ao + 3 * 5, none⟩) hab).trans a3
  have hF7 : FltV ((w6.alloc (.cells #[.slice sa aliveF.shards.length sc, .slice ka aliveF.book.length kc] 28)).alloc (.cells #[.int .i64 0, .int .i64 0] 32)) (.agg #[.slice sa aliveF.shards.length sc, .slice ka aliveF.book.length kc]) aliveF := FltV.below (w := w6) (f := aliveF) ⟨sa, sc, ka, kc, rfl, hSh6, hBk6⟩ d7
  have hB7 := hBk6.below d7
  have cS := hSh aliveW aliveF 1 0 _ _ (by rw [aliveW_right]) aliveF_ok (hR.below b7) hF7
  obtain ⟨g0, g1, -, -⟩ := box_two x7
  obtain ⟨e1, e2, e3⟩ := alive_shown
  rw [e1] at cS
  clear cP hSh6 hBk6 hAc hcs a3 hF7
  replace a7 : _ = some (Value.int .i64 0) := a7
  go_wp2_with fail
  generalize (w6.alloc (.cells #[.slice sa aliveF.shards.length sc, .slice ka aliveF.book.length kc] 28)).alloc (.cells #[.int .i64 0, .int .i64 0] 32) = w7 at *
  generalize showL aliveF 1 0 = Z at *
  obtain ⟨S, ze⟩ := Z
  dsimp only at cS e1 e2 e3
  refine cS.mono ?_
  rintro e w8 ⟨sv, rfl, hV, hb8⟩
  have b8 := b7.trans (hb8.mono b7.size)
  obtain ⟨ea, ec, pa, pc, ra, rc, ba, bc, ha, hc, rfl, hv1, hv2, hv3, hv4, hv5⟩ := hV.form
  have hE1 : S.entry.length = 1 := by rw [e2]; rfl
  rw [hE1] at hv1 hV ⊢
  have d9 : Below w8.heap.size w8 (w8.alloc (.cells #[.slice ea 1 ec, .int .i64 S.place, .int .i64 S.shard, .slice pa S.path.length pc, .int .i64 S.rcd.shard, .int .i64 S.rcd.from', .int .i64 S.rcd.to', .int .i64 S.rcd.size, .slice ra S.rcd.root.length rc, .int .i64 S.row, .slice ba S.bookPath.length bc, .int .i64 S.hsize, .slice ha S.hroot.length hc] 46)) := (Below.refl _ _).alloc (Nat.le_refl _) _
  have b9 := b8.trans (d9.mono b8.size)
  have y9 := box_new w8 #[.slice ea 1 ec, .int .i64 S.place, .int .i64 S.shard, .slice pa S.path.length pc, .int .i64 S.rcd.shard, .int .i64 S.rcd.from', .int .i64 S.rcd.to', .int .i64 S.rcd.size, .slice ra S.rcd.root.length rc, .int .i64 S.row, .slice ba S.bookPath.length bc, .int .i64 S.hsize, .slice ha S.hroot.length hc] 46
  have x9 := box_kept (box_kept x7 hb8) d9
  have hV9 := hV.below d9
  have hv9 := hv1.below d9
  have cH := hHe aliveF.book _ _ (hR.below b9) ((hB7.below hb8).below d9)
  have hbk : wrongRecs aliveF.book = (0, 0) := book_right (by rw [aliveW_right]) aliveF_ok
  have hbs : bookSize aliveF.book = 1 := by unfold bookSize; rw [hbk, if_neg (fun h => h rfl)]; rfl
  have hbr : bookRoot aliveF.book = mth (rowsOf aliveF.book) := by unfold bookRoot; rw [hbk, if_neg (fun h => h rfl)]
  have hml := mth_length (rowsOf aliveF.book)
  rw [hbk, hbs, hbr, hml] at cH
  dsimp only [faultV] at cH
  obtain ⟨q0, q1, -, -⟩ := box_two x9
  clear cS hv1 hv2 hv3 hv4 hv5 hV x7 g0 g1 f0 f1 a7 hb8 d9 hB7 hbk hbs hbr
  go_wp2_with fail
  generalize w8.alloc (.cells #[.slice ea 1 ec, .int .i64 S.place, .int .i64 S.shard, .slice pa S.path.length pc, .int .i64 S.rcd.shard, .int .i64 S.rcd.from', .int .i64 S.rcd.to', .int .i64 S.rcd.size, .slice ra S.rcd.root.length rc, .int .i64 S.row, .slice ba S.bookPath.length bc, .int .i64 S.hsize, .slice ha S.hroot.length hc] 46) = w9 at *
  refine cH.mono ?_
  rintro e w10 ⟨ta, tc, rfl, ht, hb10⟩
  have d11 : Below w10.heap.size w10 ((w10.alloc (.cells #[.int .i64 1, .slice ta 32 tc] 38)).alloc (.cells #[.int .i64 0, .int .i64 0] 32)) := ((Below.refl _ _).alloc (Nat.le_refl _) _).alloc (by simp) _
  have c11 := hb10.trans (d11.mono hb10.size)
  have b11 := b9.trans (c11.mono b9.size)
  have y11 := box_kept y9 c11
  obtain ⟨h0, h1, -, -⟩ := box_two (box_one w10 #[.int .i64 1, .slice ta 32 tc] 38 (.cells #[.int .i64 0, .int .i64 0] 32))
  have cC := hCh S 1 (mth (rowsOf aliveF.book)) _ _ _ (hR.below b11) (hV9.below c11) (ht.below d11)
  rw [e3] at cC
  have hv11 := (hv9.below c11).at'
  rw [e2] at hv11
  obtain ⟨gg, go, rfl, hcell⟩ : ∃ gg go, ea = some ⟨gg, go, none⟩ ∧ ((w10.alloc (.cells #[.int .i64 1, .slice ta 32 tc] 38)).alloc (.cells #[.int .i64 0, .int .i64 0] 32)).cell? ⟨gg, go, none⟩ = some (.int .u8 7) := by
    rcases hv11 with ⟨e, -⟩ | ⟨b, off, cp, e, -, h⟩
    · cases e
    · cases e; exact ⟨b, off, rfl, h 0 (by decide)⟩
  obtain ⟨k0, k1, k2, k3, k4, k5, k6, k7, k8, k9, k10, k11, k12⟩ := box_13 y11
  subst e1
  clear cH hV9 hv9 hv11 x9 y9 q0 q1 ht hE1 e2 e3
  go_wp2_with fail
  generalize (w10.alloc (.cells #[.int .i64 1, .slice ta 32 tc] 38)).alloc (.cells #[.int .i64 0, .int .i64 0] 32) = w11 at *
  refine cC.mono ?_
  rintro e w12 ⟨rfl, hb12⟩
  go_wp2_with fail
  go_ret
  exact ⟨rfl, b11.trans (hb12.mono b11.size)⟩

end Go.Proofs.YtkjlchfmplcobagGreatDoor

/- Five cells written; old memory kept. Nothing of the program's functions is in it. -/
namespace Go.Proofs.YtkjlchfmplcobagGreatDoor
open Go.RowKit

/-- Five cells written. -/
theorem five_set {w : World} {R : Nat} {a b c d e : Value} {t : TypeId} (h : w.heap[R]? = some (.cells #[a, b, c, d, e] t (0, 0))) (u0 u1 u2 u3 u4 : Value) : (((((w.setCell ⟨R, 0, none⟩ u0).setCell ⟨R, 1, none⟩ u1).setCell ⟨R, 2, none⟩ u2).setCell ⟨R, 3, none⟩ u3).setCell ⟨R, 4, none⟩ u4).heap[R]? = some (.cells #[u0, u1, u2, u3, u4] t (0, 0)) := by
  have h0 := heap_setCell_same w R 0 _ t u0 h
  have h1 := heap_setCell_same _ R 1 _ t u1 h0
  have h2 := heap_setCell_same _ R 2 _ t u2 h1
  have h3 := heap_setCell_same _ R 3 _ t u3 h2
  exact heap_setCell_same _ R 4 _ t u4 h3
theorem five_below {B R : Nat} {w0 w : World} (h : Below B w0 w) (hR : B ≤ R) (u0 u1 u2 u3 u4 : Value) : Below B w0 (((((w.setCell ⟨R, 0, none⟩ u0).setCell ⟨R, 1, none⟩ u1).setCell ⟨R, 2, none⟩ u2).setCell ⟨R, 3, none⟩ u3).setCell ⟨R, 4, none⟩ u4) := ((((h.setCell hR _).setCell hR _).setCell hR _).setCell hR _).setCell hR _
theorem five_own {w : World} {base R n : Nat} {e : TypeId} {v : Value} {xs : List Value} (h : w.ownsRow base e 1 v n xs) (hR : R < base) (u0 u1 u2 u3 u4 : Value) : (((((w.setCell ⟨R, 0, none⟩ u0).setCell ⟨R, 1, none⟩ u1).setCell ⟨R, 2, none⟩ u2).setCell ⟨R, 3, none⟩ u3).setCell ⟨R, 4, none⟩ u4).ownsRow base e 1 v n xs :=
  ownsRow_setCell_below (ownsRow_setCell_below (ownsRow_setCell_below (ownsRow_setCell_below (ownsRow_setCell_below h hR _) hR _) hR _) hR _) hR _
/-- Two cells written. -/
theorem two_set {w : World} {R : Nat} {a b : Value} {t : TypeId} (h : w.heap[R]? = some (.cells #[a, b] t (0, 0))) (u0 u1 : Value) : ((w.setCell ⟨R, 0, none⟩ u0).setCell ⟨R, 1, none⟩ u1).heap[R]? = some (.cells #[u0, u1] t (0, 0)) := by
  have h0 := heap_setCell_same w R 0 _ t u0 h
  exact heap_setCell_same _ R 1 _ t u1 h0
theorem two_below {B R : Nat} {w0 w : World} (h : Below B w0 w) (hR : B ≤ R) (u0 u1 : Value) : Below B w0 ((w.setCell ⟨R, 0, none⟩ u0).setCell ⟨R, 1, none⟩ u1) := (h.setCell hR _).setCell hR _
theorem two_own {w : World} {base R n : Nat} {e : TypeId} {v : Value} {xs : List Value} (h : w.ownsRow base e 1 v n xs) (hR : R < base) (u0 u1 : Value) : ((w.setCell ⟨R, 0, none⟩ u0).setCell ⟨R, 1, none⟩ u1).ownsRow base e 1 v n xs := ownsRow_setCell_below (ownsRow_setCell_below h hR _) hR _
theorem two_far {w : World} {R k : Nat} {x : Obj} (h : w.heap[k]? = some x) (hk : k ≠ R) (u0 u1 : Value) : ((w.setCell ⟨R, 0, none⟩ u0).setCell ⟨R, 1, none⟩ u1).heap[k]? = some x := box_set_far (box_set_far h hk) hk
theorem keptB_of {w0 w' : World} (h : Below w0.heap.size w0 w') : Below w0.heap.size w0 w' ∧ ∀ b o, b < w0.heap.size → w'.cell? ⟨b, o, none⟩ = w0.cell? ⟨b, o, none⟩ := ⟨h, fun b o hlt => h.cell (p := ⟨b, o, none⟩) hlt⟩
theorem keptB_drew (w0 : World) : Below w0.heap.size w0 w0.drew ∧ ∀ b o, b < w0.heap.size → w0.drew.cell? ⟨b, o, none⟩ = w0.cell? ⟨b, o, none⟩ := keptB_of (Below.refl _ _).drew
theorem keptB_below {w0 w' w'' : World} (h : Below w0.heap.size w0 w' ∧ ∀ b o, b < w0.heap.size → w'.cell? ⟨b, o, none⟩ = w0.cell? ⟨b, o, none⟩) (hb : Below w'.heap.size w' w'') : Below w0.heap.size w0 w'' ∧ ∀ b o, b < w0.heap.size → w''.cell? ⟨b, o, none⟩ = w0.cell? ⟨b, o, none⟩ := keptB_of (h.1.trans (hb.mono h.1.size))
end Go.Proofs.YtkjlchfmplcobagGreatDoor

/- The walk of yearref5.SameManifest. -/
namespace Go.Proofs.YtkjlchfmplcobagGreatDoor
open Go.RowKit

theorem keepC {wo w' : World} (h : Below wo.heap.size wo w') : ∀ b o, b < wo.heap.size → w'.cell? ⟨b, o, none⟩ = wo.cell? ⟨b, o, none⟩ := fun b o hb => h.cell (p := ⟨b, o, none⟩) hb
set_option maxRecDepth 100000 in
set_option maxHeartbeats 4000000 in
theorem sameMan_yes (m : Man) (v1 v2 : Value) (w : World) (h1 : ManAt w v1 m) (h2 : ManAt w v2 m) :
    Calls Tryz.prog 34 #[v1, v2] w fun e w' => e = .returned (.bool true) ∧ Below w.heap.size w w' := by
  obtain ⟨r1, s1, rfl, hr1, a1, c1, rfl, n1, n2, n3, hc1⟩ := h1
  obtain ⟨r2, s2, rfl, hr2, a2, c2, rfl, p1, p2, p3, hc2⟩ := h2
  unfold maxLen at n2
  have b0 : Below w.heap.size w ((w.alloc (.cells #[.int .i64 m.size, r1, .slice a1 m.segs.length c1] 51)).alloc (.cells #[.int .i64 m.size, r2, .slice a2 m.segs.length c2] 51)) := ((Below.refl _ _).alloc (Nat.le_refl _) _).alloc (by simp) _
  have x0 := box_one w #[.int .i64 m.size, r1, .slice a1 m.segs.length c1] 51 (.cells #[.int .i64 m.size, r2, .slice a2 m.segs.length c2] 51)
  have y0 := box_last w (.cells #[.int .i64 m.size, r1, .slice a1 m.segs.length c1] 51) #[.int .i64 m.size, r2, .slice a2 m.segs.length c2] 51
  obtain ⟨u0, u1, u2, -, -, -⟩ := box_three x0
  obtain ⟨v0, v1, v2, -, -, -⟩ := box_three y0
  have sH := sameHead_yes m.size m.root r1 r2 _ (hr1.below b0) (hr2.below b0)
  have hnn : ((m.segs.length : Int) != (m.segs.length : Int)) = false := by simp
  generalize hN : m.segs.length = N at *
  generalize m.size = size at *
  go_enter Tryz.func34, Tryz.ntmps34
  go_wp2_with fail
  generalize (w.alloc (.cells #[.int .i64 size, r1, .slice a1 N c1] 51)).alloc (.cells #[.int .i64 size, r2, .slice a2 N c2] 51) = w0 at *
  refine sH.mono ?_
  rintro e w1 ⟨rfl, hb1⟩
  have b1 := b0.trans (hb1.mono b0.size)
  have x1 := box_kept x0 hb1
  have y1 := box_kept y0 hb1
  clear sH x0 y0 u0 u1 u2 v0 v1 v2 hr1 hr2
  obtain ⟨u0, u1, u2, -, -, -⟩ := box_three x1
  obtain ⟨v0, v1, v2, -, -, -⟩ := box_three y1
  go_wp2_with fail
  clear u0 u1 u2 v0 v1 v2 hnn
  go_loopw [26] (fun kv wr => ∃ k : Nat, k ≤ N ∧ kv = .int .i64 k ∧ Below w1.heap.size w1 wr) (fun kv _ => N - (intOf kv).toNat)
  case atStart => exact ⟨0, Nat.zero_le _, rfl, Below.refl _ _⟩
  case round =>
    obtain ⟨wo, rfl⟩ : ∃ x, x = wr := ⟨wr, rfl⟩
    obtain ⟨k, hk, rfl, hbr⟩ := hrel
    have hbw := b1.trans (hbr.mono b1.size)
    have hsr := hbr.size
    by_cases hlt : k < N
    · have hlt' : (k : Int) < N := by omega
      obtain ⟨g1, o1, rfl, hg1, hcs1⟩ := hc1.resolve_left (by omega)
      obtain ⟨g2, o2, rfl, hg2, hcs2⟩ := hc2.resolve_left (by omega)
      obtain ⟨d0, d1, qa, qc, d2, hq, -⟩ := hcs1 k hlt
      obtain ⟨e0, e1, ta, tc, e2, ht, -⟩ := hcs2 k hlt
      have hs1 := b1.size
      replace d0 := (hbw.cell (p := ⟨g1, o1 + k * 3, none⟩) hg1).trans d0
      replace d1 := (hbw.cell (p := ⟨g1, o1 + k * 3 + 1, none⟩) hg1).trans d1
      replace d2 := (hbw.cell (p := ⟨g1, o1 + k * 3 + 2, none⟩) hg1).trans d2
      replace e0 := (hbw.cell (p := ⟨g2, o2 + k * 3, none⟩) hg2).trans e0
      replace e1 := (hbw.cell (p := ⟨g2, o2 + k * 3 + 1, none⟩) hg2).trans e1
      replace e2 := (hbw.cell (p := ⟨g2, o2 + k * 3 + 2, none⟩) hg2).trans e2
      obtain ⟨u0, u1, u2, -, -, -⟩ := box_three (box_kept x1 hbr)
      obtain ⟨v0, v1, v2, -, -, -⟩ := box_three (box_kept y1 hbr)
      clear hcs1 hcs2 hc1 hc2
      generalize m.segs.getD k seg0 = s at *
      obtain ⟨sf, sc, sp⟩ := s
      dsimp only at d0 d1 d2 e0 e1 e2 hq ht
      go_wp2_with fail
      have k1 : g1 < wo.heap.size := by omega
      have k2 : g2 < wo.heap.size := by omega
      have k3 : w.heap.size < wo.heap.size := lt_heap (box_kept x1 hbr)
      have k4 : w.heap.size + 1 < wo.heap.size := lt_heap (box_kept y1 hbr)
      go_region_held3 (fun w' => ∀ b o, b < wo.heap.size → w'.cell? ⟨b, o, none⟩ = wo.cell? ⟨b, o, none⟩) (first | exact fun _ _ _ => rfl | exact keepC (by repeat (first | with_reducible exact Below.refl _ _ | with_reducible refine Below.setCell ?_ (by first | exact Nat.le_refl _ | exact Nat.le_succ _) _ | with_reducible refine Below.alloc ?_ (by first | exact Nat.le_refl _ | exact Nat.le_succ _ | simp) _ | with_reducible refine Below.drew ?_))) (fail)
      · obtain ⟨f0, f1, f2, -, -, -⟩ := box_three (w := ((wo.alloc (.cells #[.int .i64 sf, .int .i64 sc, .slice qa sp.length qc] 111)).alloc (.cells #[.int .i64 sf, .int .i64 sc, .slice ta sp.length tc] 111)).drew) (box_one wo #[.int .i64 sf, .int .i64 sc, .slice qa sp.length qc] 111 (.cells #[.int .i64 sf, .int .i64 sc, .slice ta sp.length tc] 111))
        obtain ⟨h0, h1, h2, -, -, -⟩ := box_three (w := ((wo.alloc (.cells #[.int .i64 sf, .int .i64 sc, .slice qa sp.length qc] 111)).alloc (.cells #[.int .i64 sf, .int .i64 sc, .slice ta sp.length tc] 111)).drew) (box_last wo (.cells #[.int .i64 sf, .int .i64 sc, .slice qa sp.length qc] 111) #[.int .i64 sf, .int .i64 sc, .slice ta sp.length tc] 111)
        have cA : Below w1.heap.size w1 ((wo.alloc (.cells #[.int .i64 sf, .int .i64 sc, .slice qa sp.length qc] 111)).alloc (.cells #[.int .i64 sf, .int .i64 sc, .slice ta sp.length tc] 111)).drew := ((hbr.alloc hsr _).alloc (by simp; omega) _).drew
        have cA0 := (hbr.alloc hsr (.cells #[.int .i64 sf, .int .i64 sc, .slice qa sp.length qc] 111)).alloc (by simp; omega) (.cells #[.int .i64 sf, .int .i64 sc, .slice ta sp.length tc] 111)
        have bA := b1.trans (cA.mono b1.size)
        have sE := same_any sp sp (.slice qa sp.length qc) (.slice ta sp.length tc) _ (hq.below bA).at' (ht.below bA).at' hq.short
        rw [decide_eq_true rfl] at sE
        generalize sp.length = dn at *
        clear d0 d1 d2 e0 e1 e2 u0 u1 u2 v0 v1 v2 hq ht
        have z1 : (sf != sf) = false := by simp
        have z2 : (sc != sc) = false := by simp
        go_wp2_with fail
        refine sE.mono ?_
        rintro e w5 ⟨rfl, q, rfl⟩
        go_wp2_with fail
        go_roundw
        case rel => exact ⟨k + 1, by omega, by go_num, below_drewN' cA0 _⟩
        case measure => simp [intOf]; omega
      · obtain ⟨f0, f1, f2, -, -, -⟩ := box_three (w := ((wo.alloc (.cells #[.int .i64 sf, .int .i64 sc, .slice ta sp.length tc] 111)).alloc (.cells #[.int .i64 sf, .int .i64 sc, .slice qa sp.length qc] 111)).drew) (box_one wo #[.int .i64 sf, .int .i64 sc, .slice ta sp.length tc] 111 (.cells #[.int .i64 sf, .int .i64 sc, .slice qa sp.length qc] 111))
        obtain ⟨h0, h1, h2, -, -, -⟩ := box_three (w := ((wo.alloc (.cells #[.int .i64 sf, .int .i64 sc, .slice ta sp.length tc] 111)).alloc (.cells #[.int .i64 sf, .int .i64 sc, .slice qa sp.length qc] 111)).drew) (box_last wo (.cells #[.int .i64 sf, .int .i64 sc, .slice ta sp.length tc] 111) #[.int .i64 sf, .int .i64 sc, .slice qa sp.length qc] 111)
        have cA : Below w1.heap.size w1 ((wo.alloc (.cells #[.int .i64 sf, .int .i64 sc, .slice ta sp.length tc] 111)).alloc (.cells #[.int .i64 sf, .int .i64 sc, .slice qa sp.length qc] 111)).drew := ((hbr.alloc hsr _).alloc (by simp; omega) _).drew
        have cA0 := (hbr.alloc hsr (.cells #[.int .i64 sf, .int .i64 sc, .slice ta sp.length tc] 111)).alloc (by simp; omega) (.cells #[.int .i64 sf, .int .i64 sc, .slice qa sp.length qc] 111)
        have bA := b1.trans (cA.mono b1.size)
        have sE := same_any sp sp (.slice qa sp.length qc) (.slice ta sp.length tc) _ (hq.below bA).at' (ht.below bA).at' hq.short
        rw [decide_eq_true rfl] at sE
        generalize sp.length = dn at *
        clear d0 d1 d2 e0 e1 e2 u0 u1 u2 v0 v1 v2 hq ht
        have z1 : (sf != sf) = false := by simp
        have z2 : (sc != sc) = false := by simp
        go_wp2_with fail
        refine sE.mono ?_
        rintro e w5 ⟨rfl, q, rfl⟩
        go_wp2_with fail
        go_roundw
        case rel => exact ⟨k + 1, by omega, by go_num, below_drewN' cA0 _⟩
        case measure => simp [intOf]; omega
    · obtain rfl : k = N := by omega
      have hnl : ¬ (k : Int) < k := by omega
      clear hc1 hc2
      go_wp2_with fail
      go_ret
      exact ⟨rfl, hbw⟩

end Go.Proofs.YtkjlchfmplcobagGreatDoor

/- The walk of yearref2.Same: two lists of bytes' lists. -/
namespace Go.Proofs.YtkjlchfmplcobagGreatDoor
open Go.RowKit

set_option maxRecDepth 100000 in
set_option maxHeartbeats 1000000 in
theorem refSame_any (L1 L2 : List (List Int)) (v1 v2 : Value) (w : World) (h1 : PartsAt w v1 L1) (h2 : PartsAt w v2 L2) (hm1 : L1.length ≤ maxLen) (hs1 : ∀ j, (L1.getD j []).length ≤ maxLen) :
    Calls Tryz.prog 33 #[v1, v2] w fun e w' => e = .returned (.bool (decide (L1 = L2))) ∧ ∃ q, w' = w.drewN q := by
  obtain ⟨a1, c1, rfl, hc1⟩ := h1.form
  obtain ⟨a2, c2, rfl, hc2⟩ := h2.form
  unfold maxLen at hm1
  by_cases hne : L1.length = L2.length
  · have hq : ((L1.length : Int) != (L2.length : Int)) = false := by rw [hne]; simp
    obtain ⟨n, hn⟩ : ∃ n, L1.length = n := ⟨_, rfl⟩
    have hn2 : L2.length = n := by omega
    have HN1 : Hid (L1.length = n) := hn
    have HN2 : Hid (L2.length = n) := hn2
    rw [hn] at hm1 hc1 hq
    rw [hn2] at hc2 hq
    rw [hn, hn2]
    clear hn hn2 hne h1 h2
    go_enter Tryz.func33, Tryz.ntmps33
    go_wp2
    go_loopw [13] (fun i wr => ∃ k : Nat, k ≤ n ∧ i = .int .i64 k ∧ Hid (∀ j, j < k → L1.getD j [] = L2.getD j []) ∧ Dr w wr) (fun i _ => n - (intOf i).toNat)
    case atStart => exact ⟨0, Nat.zero_le _, rfl, (fun j hj => absurd hj (Nat.not_lt_zero _)), ⟨0, rfl⟩⟩
    case round =>
      obtain ⟨k, hk, rfl, HE, HD⟩ := hrel
      by_cases hlt : k < n
      · obtain ⟨b1, o1, rfl, -, hp1⟩ := hc1.resolve_left (by omega)
        obtain ⟨b2, o2, rfl, -, hp2⟩ := hc2.resolve_left (by omega)
        obtain ⟨pa, pc, x1, B1⟩ := hp1 k hlt
        obtain ⟨ra, rc, x2, B2⟩ := hp2 k hlt
        have y1 : wr.cell? ⟨b1, o1 + k, none⟩ = some (.slice pa (L1.getD k []).length pc) := by obtain ⟨q, e⟩ := HD; rw [e]; exact x1
        have y2 : wr.cell? ⟨b2, o2 + k, none⟩ = some (.slice ra (L2.getD k []).length rc) := by obtain ⟨q, e⟩ := HD; rw [e]; exact x2
        have D1 : ∀ q, BytesAt (wr.drewN q) (.slice pa (L1.getD k []).length pc) (L1.getD k []) := fun q => by obtain ⟨q1, e⟩ := HD; rw [e]; exact B1.below (Nat.le_refl _) (below_drewN (below_drewN (Below.refl _ _) q1) q)
        have D2 : ∀ q, BytesAt (wr.drewN q) (.slice ra (L2.getD k []).length rc) (L2.getD k []) := fun q => by obtain ⟨q1, e⟩ := HD; rw [e]; exact B2.below (Nat.le_refl _) (below_drewN (below_drewN (Below.refl _ _) q1) q)
        have hl1 := hs1 k
        have HN : Hid (L1.getD k [] = L2.getD k [] → ∀ j, j < k + 1 → L1.getD j [] = L2.getD j []) := fun h j hj => by
          by_cases e : j = k
          · rw [e]; exact h
          · exact HE.out j (by omega)
        have HF : Hid (L1.getD k [] ≠ L2.getD k [] → decide (L1 = L2) = false) := fun h => by
          rw [decide_eq_false_iff_not]; intro e; exact h (by rw [e])
        clear hc1 hc2 hp1 hp2 x1 x2 B1 B2 HE hs1
        generalize L1.getD k [] = z1 at *
        generalize L2.getD k [] = z2 at *
        have i1 : (k : Int) < (n : Int) := by omega
        by_cases hzz : z1 = z2
        · have hd : decide (z1 = z2) = true := by simpa using hzz
          have HN' : Hid (∀ j, j < k + 1 → L1.getD j [] = L2.getD j []) := HN.out hzz
          have HS : ∀ q, Calls Tryz.prog 17 #[.slice pa z1.length pc, .slice ra z2.length rc] (wr.drewN q) (fun e w' => e = .returned (.bool true) ∧ ∃ m, w' = (wr.drewN q).drewN m) := fun q => by
            have := same_any z1 z2 _ _ _ (D1 q) (D2 q) hl1
            rwa [hd] at this
          clear HN HF hd hzz D1 D2
          go_wp2_with fail
          go_quiet ((go_at_call 17; exact Calls.quiet_of (HS _)))
          go_wp2_with fail
          go_roundw
          case rel => exact ⟨k + 1, by omega, by go_num, HN', HD.step _⟩
          case measure => simp [intOf]; omega
        · have hd : decide (z1 = z2) = false := by simpa using hzz
          have HF' : Hid (decide (L1 = L2) = false) := HF.out hzz
          have HS : ∀ q, Calls Tryz.prog 17 #[.slice pa z1.length pc, .slice ra z2.length rc] (wr.drewN q) (fun e w' => e = .returned (.bool false) ∧ ∃ m, w' = (wr.drewN q).drewN m) := fun q => by
            have := same_any z1 z2 _ _ _ (D1 q) (D2 q) hl1
            rwa [hd] at this
          clear HN HF hd hzz D1 D2
          go_wp2_with fail
          go_quiet ((go_at_call 17; exact Calls.quiet_of (HS _)))
          go_wp2_with fail
          go_ret
          exact ⟨by rw [HF'.out]; rfl, HD.step _⟩
      · obtain rfl : k = n := by omega
        obtain ⟨q0, rfl⟩ := HD
        have HT : decide (L1 = L2) = true := by
          rw [decide_eq_true_iff]
          apply List.ext_getElem (by have := HN1.out; have := HN2.out; omega)
          intro j hj1 hj2
          have := HE.out j (by have := HN1.out; omega)
          rwa [List.getD_eq_getElem?_getD, List.getElem?_eq_getElem hj1, List.getD_eq_getElem?_getD, List.getElem?_eq_getElem hj2] at this
        clear HE
        go_wp2
        go_ret
        exact ⟨by rw [HT]; rfl, q0, rfl⟩
  · have hq : ((L1.length : Int) != (L2.length : Int)) = true := by simp; omega
    have HF : decide (L1 = L2) = false := by rw [decide_eq_false_iff_not]; intro e; exact hne (by rw [e])
    rw [HF]
    go_enter Tryz.func33, Tryz.ntmps33
    go_wp2
    go_ret
    exact ⟨rfl, 0, rfl⟩

end Go.Proofs.YtkjlchfmplcobagGreatDoor

/- The walks of yearref5.SameAnswer, SameBook and SameFleet at what is the same. -/
namespace Go.Proofs.YtkjlchfmplcobagGreatDoor
open Go.RowKit

/-- An answer as the walks meet it. -/
def AnsV (w : World) (v : Value) (x : Ans) : Prop := ∃ ra rc, v = .agg #[.int .i64 x.err, .int .i64 x.shard, .int .i64 x.place, .int .i64 x.size, .slice ra x.root.length rc] ∧ Some' w (.slice ra x.root.length rc) x.root
theorem AnsV.below {w w' : World} {v : Value} {x : Ans} (h : AnsV w v x) (hb : Below w.heap.size w w') : AnsV w' v x := by
  obtain ⟨ra, rc, h1, h2⟩ := h
  exact ⟨ra, rc, h1, h2.below hb⟩
set_option maxRecDepth 100000 in
set_option maxHeartbeats 2000000 in
theorem sameAns_yes (x : Ans) (v1 v2 : Value) (w : World) (h1 : AnsV w v1 x) (h2 : AnsV w v2 x) :
    Calls Tryz.prog 9 #[v1, v2] w fun e w' => e = .returned (.bool true) ∧ Below w.heap.size w w' := by
  obtain ⟨ra, rc, rfl, hr⟩ := h1
  obtain ⟨ta, tc, rfl, ht⟩ := h2
  obtain ⟨s, f, t, z, root⟩ := x
  dsimp only at hr ht ⊢
  have b0 : Below w.heap.size w ((w.alloc (.cells #[.int .i64 s, .int .i64 f, .int .i64 t, .int .i64 z, .slice ra root.length rc] 40)).alloc (.cells #[.int .i64 s, .int .i64 f, .int .i64 t, .int .i64 z, .slice ta root.length tc] 40)) := ((Below.refl _ _).alloc (Nat.le_refl _) _).alloc (by simp) _
  obtain ⟨x0, x1, x2, x3, x4⟩ := box_five (box_one w #[.int .i64 s, .int .i64 f, .int .i64 t, .int .i64 z, .slice ra root.length rc] 40 (.cells #[.int .i64 s, .int .i64 f, .int .i64 t, .int .i64 z, .slice ta root.length tc] 40))
  obtain ⟨y0, y1, y2, y3, y4⟩ := box_five (box_last w (.cells #[.int .i64 s, .int .i64 f, .int .i64 t, .int .i64 z, .slice ra root.length rc] 40) #[.int .i64 s, .int .i64 f, .int .i64 t, .int .i64 z, .slice ta root.length tc] 40)
  have sE := sameHead_yes z root _ _ _ (hr.below b0) (ht.below b0)
  have q1 : (s == s) = true := by simp
  have q2 : (f == f) = true := by simp
  have q3 : (t == t) = true := by simp
  clear hr ht
  generalize root.length = n at *
  go_enter Tryz.func9, Tryz.ntmps9
  go_wp2_with fail
  refine sE.mono ?_
  rintro e w3 ⟨rfl, hb3⟩
  go_wp2_with fail
  go_ret
  exact ⟨rfl, b0.trans (hb3.mono b0.size)⟩
set_option maxRecDepth 100000 in
set_option maxHeartbeats 4000000 in
theorem sameBook_yes (l : List Rec) (a1 a2 : Option Addr) (n c1 c2 : Nat) (w : World) (h1 : RecsAt w (.slice a1 n c1) l) (h2 : RecsAt w (.slice a2 n c2) l) (hn : l.length = n) :
    Calls Tryz.prog 32 #[.slice a1 n c1, .slice a2 n c2] w fun e w' => e = .returned (.bool true) ∧ Below w.heap.size w w' := by
  obtain ⟨a1', c1', e1, hn1, hm1, -, hc1⟩ := h1
  obtain ⟨a2', c2', e2, hn2, hm2, -, hc2⟩ := h2
  rw [hn] at e1 e2 hn1 hn2 hc1 hc2
  cases e1
  cases e2
  unfold maxLen at hm1 hm2
  have hnn : ((n : Int) != n) = false := by simp
  go_enter Tryz.func32, Tryz.ntmps32
  go_wp2_with fail
  clear hnn
  go_loopw [13] (fun kv wr => ∃ k : Nat, k ≤ n ∧ kv = .int .i64 k ∧ Below w.heap.size w wr) (fun kv _ => n - (intOf kv).toNat)
  case atStart => exact ⟨0, Nat.zero_le _, rfl, Below.refl _ _⟩
  case round =>
    obtain ⟨wo, rfl⟩ : ∃ x, x = wr := ⟨wr, rfl⟩
    obtain ⟨k, hk, rfl, hbr⟩ := hrel
    have hsr := hbr.size
    by_cases hlt : k < n
    · have hlt' : (k : Int) < n := by omega
      obtain ⟨g1, o1, rfl, hg1, hcs1⟩ := hc1.resolve_left (by omega)
      obtain ⟨g2, o2, rfl, hg2, hcs2⟩ := hc2.resolve_left (by omega)
      obtain ⟨d0, d1, d2, d3, qa, qc, d4, hq⟩ := (hcs1 k hlt).below hg1 hbr
      obtain ⟨e0, e1, e2, e3, ta, tc, e4, ht⟩ := (hcs2 k hlt).below hg2 hbr
      clear hcs1 hcs2 hc1 hc2
      generalize l.getD k rec0 = R at *
      have hS : ∀ w', (Below wo.heap.size wo w' ∧ ∀ b o, b < wo.heap.size → w'.cell? ⟨b, o, none⟩ = wo.cell? ⟨b, o, none⟩) → _ := fun w' h => sameRec_yes R (.agg #[.int .i64 R.shard, .int .i64 R.from', .int .i64 R.to', .int .i64 R.size, .slice qa R.root.length qc]) (.agg #[.int .i64 R.shard, .int .i64 R.from', .int .i64 R.to', .int .i64 R.size, .slice ta R.root.length tc]) w' ⟨qa, qc, rfl, hq.below h.1⟩ ⟨ta, tc, rfl, ht.below h.1⟩
      have k1 : g1 < wo.heap.size := by omega
      have k2 : g2 < wo.heap.size := by omega
      clear hq ht
      generalize R.root.length = dn at *
      generalize R.shard = rs at *
      generalize R.from' = rf at *
      generalize R.to' = rt at *
      generalize R.size = rz at *
      go_wp2_with fail
      go_region_held3 (fun w' => Below wo.heap.size wo w' ∧ ∀ b o, b < wo.heap.size → w'.cell? ⟨b, o, none⟩ = wo.cell? ⟨b, o, none⟩) (first | (with_reducible assumption) | (with_reducible exact hK) | (with_reducible exact keptB_drew wo)) (first | (go_at_call 53; refine (hS _ (by assumption)).mono ?_; rintro e w5 ⟨rfl, hb5⟩; have hK := keptB_below (w0 := wo) (by assumption) hb5))
      have b5 := hbr.trans (hK.1.mono hsr)
      clear hK hS d0 d1 d2 d3 d4 e0 e1 e2 e3 e4
      go_wp2_with fail
      go_roundw
      case rel => exact ⟨k + 1, by omega, by go_num, b5⟩
      case measure => simp [intOf]; omega
    · obtain rfl : k = n := by omega
      have hnl : ¬ (k : Int) < k := by omega
      go_wp2_with fail
      go_ret
      exact ⟨rfl, hbr⟩
/-- What a variable of seven cells holds. -/
theorem box_7 {w : World} {k : Nat} {v0 v1 v2 v3 v4 v5 v6 : Value} {t : TypeId} (h : w.heap[k]? = some (.cells #[v0, v1, v2, v3, v4, v5, v6] t (0, 0))) :
    w.cell? ⟨k, 0, none⟩ = some v0 ∧ w.cell? ⟨k, 1, none⟩ = some v1 ∧ w.cell? ⟨k, 2, none⟩ = some v2 ∧ w.cell? ⟨k, 3, none⟩ = some v3 ∧ w.cell? ⟨k, 4, none⟩ = some v4 ∧ w.cell? ⟨k, 5, none⟩ = some v5 ∧ w.cell? ⟨k, 6, none⟩ = some v6 :=
  ⟨cell_of_row w k 0 _ t _ h, cell_of_row w k 1 _ t _ h, cell_of_row w k 2 _ t _ h, cell_of_row w k 3 _ t _ h, cell_of_row w k 4 _ t _ h, cell_of_row w k 5 _ t _ h, cell_of_row w k 6 _ t _ h⟩

set_option maxRecDepth 100000 in
set_option maxHeartbeats 8000000 in
theorem sameFleet_yes (F : Flt) (v1 v2 : Value) (w : World) (h1 : FltV w v1 F) (h2 : FltV w v2 F) :
    Calls Tryz.prog 11 #[v1, v2] w fun e w' => e = .returned (.bool true) ∧ Below w.heap.size w w' := by
  obtain ⟨sa1, sc1, ba1, bc1, rfl, hS1, hB1⟩ := h1
  obtain ⟨sa2, sc2, ba2, bc2, rfl, hS2, hB2⟩ := h2
  have b0 : Below w.heap.size w ((w.alloc (.cells #[.slice sa1 F.shards.length sc1, .slice ba1 F.book.length bc1] 28)).alloc (.cells #[.slice sa2 F.shards.length sc2, .slice ba2 F.book.length bc2] 28)) := ((Below.refl _ _).alloc (Nat.le_refl _) _).alloc (by simp) _
  have x0 := box_one w #[.slice sa1 F.shards.length sc1, .slice ba1 F.book.length bc1] 28 (.cells #[.slice sa2 F.shards.length sc2, .slice ba2 F.book.length bc2] 28)
  have y0 := box_last w (.cells #[.slice sa1 F.shards.length sc1, .slice ba1 F.book.length bc1] 28) #[.slice sa2 F.shards.length sc2, .slice ba2 F.book.length bc2] 28
  have sB := sameBook_yes F.book ba1 ba2 F.book.length bc1 bc2 _ (hB1.below b0) (hB2.below b0) rfl
  obtain ⟨a1', c1', e1, hn1, hm1, -, hc1⟩ := hS1
  obtain ⟨a2', c2', e2, hn2, hm2, -, hc2⟩ := hS2
  cases e1
  cases e2
  unfold maxLen at hm1 hm2
  obtain ⟨p0, p1, -, -⟩ := box_two x0
  obtain ⟨q0, q1, -, -⟩ := box_two y0
  have hnn : ((F.shards.length : Int) != F.shards.length) = false := by simp
  clear hB1 hB2
  generalize F.book.length = bn at *
  generalize F.shards.length = n at *
  go_enter Tryz.func11, Tryz.ntmps11
  go_wp2_with fail
  generalize (w.alloc (.cells #[.slice sa1 n sc1, .slice ba1 bn bc1] 28)).alloc (.cells #[.slice sa2 n sc2, .slice ba2 bn bc2] 28) = w0 at *
  refine sB.mono ?_
  rintro e w1 ⟨rfl, hb1⟩
  have b1 := b0.trans (hb1.mono b0.size)
  have x1 := box_kept x0 hb1
  have y1 := box_kept y0 hb1
  clear p0 p1 q0 q1 sB x0 y0 b0 hb1
  obtain ⟨p0, p1, -, -⟩ := box_two x1
  obtain ⟨q0, q1, -, -⟩ := box_two y1
  go_wp2_with fail
  clear hnn p0 p1 q0 q1
  go_loopw [26] (fun kv wr => ∃ k : Nat, k ≤ n ∧ kv = .int .i64 k ∧ Below w1.heap.size w1 wr) (fun kv _ => n - (intOf kv).toNat)
  case atStart => exact ⟨0, Nat.zero_le _, rfl, Below.refl _ _⟩
  case round =>
    obtain ⟨wo, rfl⟩ : ∃ x, x = wr := ⟨wr, rfl⟩
    obtain ⟨k, hk, rfl, hbr⟩ := hrel
    have hbw := b1.trans (hbr.mono b1.size)
    have hsr := hbr.size
    by_cases hlt : k < n
    · have hlt' : (k : Int) < n := by omega
      obtain ⟨g1, o1, rfl, hg1, hcs1⟩ := hc1.resolve_left (by omega)
      obtain ⟨g2, o2, rfl, hg2, hcs2⟩ := hc2.resolve_left (by omega)
      obtain ⟨d0, d1, d2, ⟨ea1, ec1, d3, hE1⟩, d4, ⟨ra1, rc1, d5, hr1⟩, ⟨ga1, gc1, d6, hG1⟩⟩ := (hcs1 k hlt).below hg1 hbw
      obtain ⟨e0, e1, e2, ⟨ea2, ec2, e3, hE2⟩, e4, ⟨ra2, rc2, e5, hr2⟩, ⟨ga2, gc2, e6, hG2⟩⟩ := (hcs2 k hlt).below hg2 hbw
      have hM1 : ManAt wo (.agg #[.int .i64 (F.shards.getD k shd0).man.size, .slice ra1 (F.shards.getD k shd0).man.root.length rc1, .slice ga1 (F.shards.getD k shd0).man.segs.length gc1]) (F.shards.getD k shd0).man := ⟨_, _, rfl, hr1, hG1⟩
      have hM2 : ManAt wo (.agg #[.int .i64 (F.shards.getD k shd0).man.size, .slice ra2 (F.shards.getD k shd0).man.root.length rc2, .slice ga2 (F.shards.getD k shd0).man.segs.length gc2]) (F.shards.getD k shd0).man := ⟨_, _, rfl, hr2, hG2⟩
      obtain ⟨u0, u1, -, -⟩ := box_two (box_kept x1 hbr)
      obtain ⟨v0, v1, -, -⟩ := box_two (box_kept y1 hbr)
      have k1 : g1 < wo.heap.size := by have := hbw.size; omega
      have k2 : g2 < wo.heap.size := by have := hbw.size; omega
      have k3 : w.heap.size < wo.heap.size := lt_heap (box_kept x1 hbr)
      have k4 : w.heap.size + 1 < wo.heap.size := lt_heap (box_kept y1 hbr)
      clear hcs1 hcs2 hc1 hc2 hr1 hr2 hG1 hG2
      generalize (F.shards.getD k shd0).man = M at *
      generalize (F.shards.getD k shd0).entries = ES at *
      generalize (F.shards.getD k shd0).from' = sf at *
      generalize (F.shards.getD k shd0).to' = st at *
      generalize (F.shards.getD k shd0).state = ss at *
      generalize ES.length = en at *
      generalize M.size = sz at *
      generalize M.root.length = rn at *
      generalize M.segs.length = gn at *
      go_wp2_with fail
      go_region_held3 (fun w' => ∀ b o, b < wo.heap.size → w'.cell? ⟨b, o, none⟩ = wo.cell? ⟨b, o, none⟩) (first | exact fun _ _ _ => rfl | exact keepC (by repeat (first | with_reducible exact Below.refl _ _ | with_reducible refine Below.setCell ?_ (by first | exact Nat.le_refl _ | exact Nat.le_succ _) _ | with_reducible refine Below.alloc ?_ (by first | exact Nat.le_refl _ | exact Nat.le_succ _ | simp) _ | with_reducible refine Below.drew ?_))) (fail)
      · have hx := box_7 (w := ((wo.alloc (.cells #[.int .i64 sf, .int .i64 st, .int .i64 ss, .slice ea1 en ec1, .int .i64 sz, .slice ra1 rn rc1, .slice ga1 gn gc1] 53)).alloc (.cells #[.int .i64 sf, .int .i64 st, .int .i64 ss, .slice ea2 en ec2, .int .i64 sz, .slice ra2 rn rc2, .slice ga2 gn gc2] 53)).drew) (box_one wo #[.int .i64 sf, .int .i64 st, .int .i64 ss, .slice ea1 en ec1, .int .i64 sz, .slice ra1 rn rc1, .slice ga1 gn gc1] 53 (.cells #[.int .i64 sf, .int .i64 st, .int .i64 ss, .slice ea2 en ec2, .int .i64 sz, .slice ra2 rn rc2, .slice ga2 gn gc2] 53))
        have hy := box_7 (w := ((wo.alloc (.cells #[.int .i64 sf, .int .i64 st, .int .i64 ss, .slice ea1 en ec1, .int .i64 sz, .slice ra1 rn rc1, .slice ga1 gn gc1] 53)).alloc (.cells #[.int .i64 sf, .int .i64 st, .int .i64 ss, .slice ea2 en ec2, .int .i64 sz, .slice ra2 rn rc2, .slice ga2 gn gc2] 53)).drew) (box_last wo (.cells #[.int .i64 sf, .int .i64 st, .int .i64 ss, .slice ea1 en ec1, .int .i64 sz, .slice ra1 rn rc1, .slice ga1 gn gc1] 53) #[.int .i64 sf, .int .i64 st, .int .i64 ss, .slice ea2 en ec2, .int .i64 sz, .slice ra2 rn rc2, .slice ga2 gn gc2] 53)
        obtain ⟨f0, f1, f2, f3, f4, f5, f6⟩ := hx
        obtain ⟨h0, h1, h2, h3, h4, h5, h6⟩ := hy
        have cA : Below w1.heap.size w1 ((wo.alloc (.cells #[.int .i64 sf, .int .i64 st, .int .i64 ss, .slice ea1 en ec1, .int .i64 sz, .slice ra1 rn rc1, .slice ga1 gn gc1] 53)).alloc (.cells #[.int .i64 sf, .int .i64 st, .int .i64 ss, .slice ea2 en ec2, .int .i64 sz, .slice ra2 rn rc2, .slice ga2 gn gc2] 53)).drew := ((hbr.alloc hsr _).alloc (by simp; omega) _).drew
        have cO : Below wo.heap.size wo ((wo.alloc (.cells #[.int .i64 sf, .int .i64 st, .int .i64 ss, .slice ea1 en ec1, .int .i64 sz, .slice ra1 rn rc1, .slice ga1 gn gc1] 53)).alloc (.cells #[.int .i64 sf, .int .i64 st, .int .i64 ss, .slice ea2 en ec2, .int .i64 sz, .slice ra2 rn rc2, .slice ga2 gn gc2] 53)).drew := (((Below.refl _ _).alloc (Nat.le_refl _) _).alloc (by simp) _).drew
        have sE := refSame_any ES ES _ _ _ ((hE1.below cO).at') ((hE2.below cO).at') (by rw [hE1.len]; exact Nat.le_trans hE1.room hE1.cap) hE1.short
        rw [decide_eq_true rfl] at sE
        have sM := fun q => sameMan_yes M _ _ (((wo.alloc (.cells #[.int .i64 sf, .int .i64 st, .int .i64 ss, .slice ea1 en ec1, .int .i64 sz, .slice ra1 rn rc1, .slice ga1 gn gc1] 53)).alloc (.cells #[.int .i64 sf, .int .i64 st, .int .i64 ss, .slice ea2 en ec2, .int .i64 sz, .slice ra2 rn rc2, .slice ga2 gn gc2] 53)).drew.drewN q) ((hM1.below cO).below (below_drewN' (Below.refl _ _) q)) ((hM2.below cO).below (below_drewN' (Below.refl _ _) q))
        clear d0 d1 d2 d3 d4 d5 d6 e0 e1 e2 e3 e4 e5 e6 u0 u1 v0 v1 hE1 hE2 hM1 hM2 cO
        have z1 : (sf != sf) = false := by simp
        have z2 : (st != st) = false := by simp
        have z3 : (ss != ss) = false := by simp
        go_wp2_with fail
        generalize ((wo.alloc (.cells #[.int .i64 sf, .int .i64 st, .int .i64 ss, .slice ea1 en ec1, .int .i64 sz, .slice ra1 rn rc1, .slice ga1 gn gc1] 53)).alloc (.cells #[.int .i64 sf, .int .i64 st, .int .i64 ss, .slice ea2 en ec2, .int .i64 sz, .slice ra2 rn rc2, .slice ga2 gn gc2] 53)).drew = wA at *
        refine sE.mono ?_
        rintro e w5 ⟨rfl, q5, rfl⟩
        have dq := below_drewN' (Below.refl wA.heap.size wA) q5
        replace f0 := (dq.cell (p := ⟨_, 0, none⟩) (World.block_lt_of_cell? wA _ f0)).trans f0
        replace f4 := (dq.cell (p := ⟨_, 4, none⟩) (World.block_lt_of_cell? wA _ f4)).trans f4
        replace f5 := (dq.cell (p := ⟨_, 5, none⟩) (World.block_lt_of_cell? wA _ f5)).trans f5
        replace f6 := (dq.cell (p := ⟨_, 6, none⟩) (World.block_lt_of_cell? wA _ f6)).trans f6
        replace h4 := (dq.cell (p := ⟨_, 4, none⟩) (World.block_lt_of_cell? wA _ h4)).trans h4
        replace h5 := (dq.cell (p := ⟨_, 5, none⟩) (World.block_lt_of_cell? wA _ h5)).trans h5
        replace h6 := (dq.cell (p := ⟨_, 6, none⟩) (World.block_lt_of_cell? wA _ h6)).trans h6
        have sM5 := sM q5
        have cB := below_drewN' cA q5
        clear sE sM dq
        generalize wA.drewN q5 = wB at *
        go_wp2_with fail
        refine sM5.mono ?_
        rintro e w6 ⟨rfl, hb6⟩
        have b6 := cB.trans (hb6.mono cB.size)
        clear sM5
        go_wp2_with fail
        go_roundw
        case rel => exact ⟨k + 1, by omega, by go_num, b6⟩
        case measure => simp [intOf]; omega
      · have hx := box_7 (w := ((wo.alloc (.cells #[.int .i64 sf, .int .i64 st, .int .i64 ss, .slice ea2 en ec2, .int .i64 sz, .slice ra2 rn rc2, .slice ga2 gn gc2] 53)).alloc (.cells #[.int .i64 sf, .int .i64 st, .int .i64 ss, .slice ea1 en ec1, .int .i64 sz, .slice ra1 rn rc1, .slice ga1 gn gc1] 53)).drew) (box_last wo (.cells #[.int .i64 sf, .int .i64 st, .int .i64 ss, .slice ea2 en ec2, .int .i64 sz, .slice ra2 rn rc2, .slice ga2 gn gc2] 53) #[.int .i64 sf, .int .i64 st, .int .i64 ss, .slice ea1 en ec1, .int .i64 sz, .slice ra1 rn rc1, .slice ga1 gn gc1] 53)
        have hy := box_7 (w := ((wo.alloc (.cells #[.int .i64 sf, .int .i64 st, .int .i64 ss, .slice ea2 en ec2, .int .i64 sz, .slice ra2 rn rc2, .slice ga2 gn gc2] 53)).alloc (.cells #[.int .i64 sf, .int .i64 st, .int .i64 ss, .slice ea1 en ec1, .int .i64 sz, .slice ra1 rn rc1, .slice ga1 gn gc1] 53)).drew) (box_one wo #[.int .i64 sf, .int .i64 st, .int .i64 ss, .slice ea2 en ec2, .int .i64 sz, .slice ra2 rn rc2, .slice ga2 gn gc2] 53 (.cells #[.int .i64 sf, .int .i64 st, .int .i64 ss, .slice ea1 en ec1, .int .i64 sz, .slice ra1 rn rc1, .slice ga1 gn gc1] 53))
        obtain ⟨f0, f1, f2, f3, f4, f5, f6⟩ := hx
        obtain ⟨h0, h1, h2, h3, h4, h5, h6⟩ := hy
        have cA : Below w1.heap.size w1 ((wo.alloc (.cells #[.int .i64 sf, .int .i64 st, .int .i64 ss, .slice ea2 en ec2, .int .i64 sz, .slice ra2 rn rc2, .slice ga2 gn gc2] 53)).alloc (.cells #[.int .i64 sf, .int .i64 st, .int .i64 ss, .slice ea1 en ec1, .int .i64 sz, .slice ra1 rn rc1, .slice ga1 gn gc1] 53)).drew := ((hbr.alloc hsr _).alloc (by simp; omega) _).drew
        have cO : Below wo.heap.size wo ((wo.alloc (.cells #[.int .i64 sf, .int .i64 st, .int .i64 ss, .slice ea2 en ec2, .int .i64 sz, .slice ra2 rn rc2, .slice ga2 gn gc2] 53)).alloc (.cells #[.int .i64 sf, .int .i64 st, .int .i64 ss, .slice ea1 en ec1, .int .i64 sz, .slice ra1 rn rc1, .slice ga1 gn gc1] 53)).drew := (((Below.refl _ _).alloc (Nat.le_refl _) _).alloc (by simp) _).drew
        have sE := refSame_any ES ES _ _ _ ((hE1.below cO).at') ((hE2.below cO).at') (by rw [hE1.len]; exact Nat.le_trans hE1.room hE1.cap) hE1.short
        rw [decide_eq_true rfl] at sE
        have sM := fun q => sameMan_yes M _ _ (((wo.alloc (.cells #[.int .i64 sf, .int .i64 st, .int .i64 ss, .slice ea2 en ec2, .int .i64 sz, .slice ra2 rn rc2, .slice ga2 gn gc2] 53)).alloc (.cells #[.int .i64 sf, .int .i64 st, .int .i64 ss, .slice ea1 en ec1, .int .i64 sz, .slice ra1 rn rc1, .slice ga1 gn gc1] 53)).drew.drewN q) ((hM1.below cO).below (below_drewN' (Below.refl _ _) q)) ((hM2.below cO).below (below_drewN' (Below.refl _ _) q))
        clear d0 d1 d2 d3 d4 d5 d6 e0 e1 e2 e3 e4 e5 e6 u0 u1 v0 v1 hE1 hE2 hM1 hM2 cO
        have z1 : (sf != sf) = false := by simp
        have z2 : (st != st) = false := by simp
        have z3 : (ss != ss) = false := by simp
        go_wp2_with fail
        generalize ((wo.alloc (.cells #[.int .i64 sf, .int .i64 st, .int .i64 ss, .slice ea2 en ec2, .int .i64 sz, .slice ra2 rn rc2, .slice ga2 gn gc2] 53)).alloc (.cells #[.int .i64 sf, .int .i64 st, .int .i64 ss, .slice ea1 en ec1, .int .i64 sz, .slice ra1 rn rc1, .slice ga1 gn gc1] 53)).drew = wA at *
        refine sE.mono ?_
        rintro e w5 ⟨rfl, q5, rfl⟩
        have dq := below_drewN' (Below.refl wA.heap.size wA) q5
        replace f0 := (dq.cell (p := ⟨_, 0, none⟩) (World.block_lt_of_cell? wA _ f0)).trans f0
        replace f4 := (dq.cell (p := ⟨_, 4, none⟩) (World.block_lt_of_cell? wA _ f4)).trans f4
        replace f5 := (dq.cell (p := ⟨_, 5, none⟩) (World.block_lt_of_cell? wA _ f5)).trans f5
        replace f6 := (dq.cell (p := ⟨_, 6, none⟩) (World.block_lt_of_cell? wA _ f6)).trans f6
        replace h4 := (dq.cell (p := ⟨_, 4, none⟩) (World.block_lt_of_cell? wA _ h4)).trans h4
        replace h5 := (dq.cell (p := ⟨_, 5, none⟩) (World.block_lt_of_cell? wA _ h5)).trans h5
        replace h6 := (dq.cell (p := ⟨_, 6, none⟩) (World.block_lt_of_cell? wA _ h6)).trans h6
        have sM5 := sM q5
        have cB := below_drewN' cA q5
        clear sE sM dq
        generalize wA.drewN q5 = wB at *
        go_wp2_with fail
        refine sM5.mono ?_
        rintro e w6 ⟨rfl, hb6⟩
        have b6 := cB.trans (hb6.mono cB.size)
        clear sM5
        go_wp2_with fail
        go_roundw
        case rel => exact ⟨k + 1, by omega, by go_num, b6⟩
        case measure => simp [intOf]; omega
    · obtain rfl : k = n := by omega
      have hnl : ¬ (k : Int) < k := by omega
      go_wp2_with fail
      go_ret
      exact ⟨rfl, hbw⟩

end Go.Proofs.YtkjlchfmplcobagGreatDoor
