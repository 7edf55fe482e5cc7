/- FleetFace, FleetAliveM, BookRefRec, FleetAlive, BookFive, FleetSame, FleetPastWalk, FleetEarlyWalk, as one text. -/
import Derived.Test.YtkjlchfmplcobafGreatDoorProg
import Derived.Test.YtkjlchfmplcobafGreatDoorRunAB
import Derived.Test.YtkjlchfmplcobafGreatDoorRunAM
import Derived.Test.YtkjlchfmplcobafGreatDoorRunAG
import Derived.WalkKit
import Derived.WalkSpells
import Derived.WalkLawsBesides
import Derived.Deep.QuietTactic
import Derived.BigQuiet
import Derived.Deep.RegionHeld3
import Derived.BigRegion
import Derived.Test.YtkjlchfmplcobafGreatDoorRunAA
/- What the laws of chapter 7 ask of package fleet's faces, as propositions: each is shown of the landed code elsewhere. Fleets in memory. -/
namespace Go.Proofs.YtkjlchfmplcobafGreatDoor
open Go.RowKit

/-- A slice of elements of n cells each, as the walks meet it. -/
def RowAt {α : Type} (n : Nat) (P : World → Nat → Nat → α → Prop) (z : α) (w : World) (v : Value) (l : List α) : Prop :=
  ∃ a c, v = .slice a l.length c ∧ l.length ≤ c ∧ c ≤ maxLen ∧ (a = none → c = 0) ∧ (l.length = 0 ∨ ∃ b off, a = some ⟨b, off, none⟩ ∧ b < w.heap.size ∧ ∀ j, j < l.length → P w b (off + j * n) (l.getD j z))
theorem RowAt.below {α : Type} {n : Nat} {P : World → Nat → Nat → α → Prop} {z : α} {w w' : World} {v : Value} {l : List α} (h : RowAt n P z w v l) (hw : Below w.heap.size w w') (hP : ∀ b o x, b < w.heap.size → P w b o x → P w' b o x) : RowAt n P z w' v l := by
  obtain ⟨a, c, h1, h2, h3, h4, h5⟩ := h
  refine ⟨a, c, h1, h2, h3, h4, ?_⟩
  rcases h5 with h5 | ⟨b, off, h6, h7, h8⟩
  · exact .inl h5
  · exact .inr ⟨b, off, h6, Nat.lt_of_lt_of_le h7 hw.size, fun j hj => hP _ _ _ h7 (h8 j hj)⟩
theorem RowAt.form {α : Type} {n : Nat} {P : World → Nat → Nat → α → Prop} {z : α} {w : World} {v : Value} {l : List α} (h : RowAt n P z w v l) : ∃ a c, v = .slice a l.length c := by
  obtain ⟨a, c, e, -⟩ := h; exact ⟨a, c, e⟩
theorem RowAt.nil {α : Type} (n : Nat) (P : World → Nat → Nat → α → Prop) (z : α) (w : World) : RowAt n P z w (.slice none 0 0) [] := ⟨none, 0, rfl, Nat.le_refl _, Nat.zero_le _, fun _ => rfl, .inl rfl⟩
theorem RowAt.first {α : Type} {n : Nat} {P : World → Nat → Nat → α → Prop} {z : α} {w : World} {a : Option Addr} {m c k : Nat} {l : List α} (h : RowAt n P z w (.slice a m c) l) (hm : l.length = m) (hk : k ≤ m) : RowAt n P z w (.slice a k c) (l.take k) := by
  obtain ⟨a', c', e, h2, h3, h4, h5⟩ := h
  rw [hm] at e h2 h5
  cases e
  have hl : (l.take k).length = k := by rw [List.length_take]; omega
  refine ⟨a, c, by rw [hl], by omega, h3, h4, ?_⟩
  by_cases hk0 : k = 0
  · exact .inl (by omega)
  obtain ⟨b, off, h6, h7, h8⟩ := h5.resolve_left (by omega)
  refine .inr ⟨b, off, h6, h7, fun j hj => ?_⟩
  rw [hl] at hj
  rw [List.getD_eq_getElem?_getD, List.getElem?_take, if_pos hj, ← List.getD_eq_getElem?_getD]
  exact h8 j (by omega)
def WinCells (w : World) (b o : Nat) (x : Win) : Prop := w.cell? ⟨b, o, none⟩ = some (.int .i64 x.a) ∧ w.cell? ⟨b, o + 1, none⟩ = some (.int .i64 x.b)
def WinsAt (w : World) (v : Value) (l : List Win) : Prop := RowAt 2 WinCells win0 w v l
theorem WinsAt.below {w w' : World} {v : Value} {l : List Win} (h : WinsAt w v l) (hw : Below w.heap.size w w') : WinsAt w' v l :=
  RowAt.below h hw (fun b o _ hb ⟨h1, h2⟩ => ⟨by rw [hw.cell (p := ⟨b, o, none⟩) hb]; exact h1, by rw [hw.cell (p := ⟨b, o + 1, none⟩) hb]; exact h2⟩)
/-- Numbers that their types hold. -/
abbrev DdFit (x : Dd) : Prop := (0 ≤ x.by' ∧ x.by' < 256) ∧ (-9223372036854775808 ≤ x.kind ∧ x.kind ≤ 9223372036854775807)
structure DdCells (w : World) (b o : Nat) (x : Dd) : Prop where
  kind : w.cell? ⟨b, o, none⟩ = some (.int .i64 x.kind)
  n : w.cell? ⟨b, o + 1, none⟩ = some (.int .i64 x.n)
  time : w.cell? ⟨b, o + 2, none⟩ = some (.int .i64 x.time)
  entry : ∃ pa pc, w.cell? ⟨b, o + 3, none⟩ = some (.slice pa x.entry.length pc) ∧ Some' w (.slice pa x.entry.length pc) x.entry
  segment : w.cell? ⟨b, o + 4, none⟩ = some (.int .i64 x.segment)
  at' : w.cell? ⟨b, o + 5, none⟩ = some (.int .i64 x.at')
  by' : w.cell? ⟨b, o + 6, none⟩ = some (.int .u8 x.by')
  byte : DdFit x
theorem DdCells.below {w w' : World} {b o : Nat} {x : Dd} (h : DdCells w b o x) (hb : b < w.heap.size) (hw : Below w.heap.size w w') : DdCells w' b o x := by
  obtain ⟨h1, h2, h3, ⟨pa, pc, h4, h4'⟩, h5, h6, h7, h8⟩ := h
  exact ⟨by rw [hw.cell (p := ⟨b, o, none⟩) hb]; exact h1, by rw [hw.cell (p := ⟨b, o + 1, none⟩) hb]; exact h2, by rw [hw.cell (p := ⟨b, o + 2, none⟩) hb]; exact h3, ⟨pa, pc, by rw [hw.cell (p := ⟨b, o + 3, none⟩) hb]; exact h4, h4'.below hw⟩, by rw [hw.cell (p := ⟨b, o + 4, none⟩) hb]; exact h5, by rw [hw.cell (p := ⟨b, o + 5, none⟩) hb]; exact h6, by rw [hw.cell (p := ⟨b, o + 6, none⟩) hb]; exact h7, h8⟩
def DosAt (w : World) (v : Value) (l : List Dd) : Prop := RowAt 7 DdCells dd0 w v l
theorem DosAt.below {w w' : World} {v : Value} {l : List Dd} (h : DosAt w v l) (hw : Below w.heap.size w w') : DosAt w' v l := RowAt.below h hw (fun _ _ _ hb hx => hx.below hb hw)
structure ShdCells (w : World) (b o : Nat) (s : Shd) : Prop where
  from' : w.cell? ⟨b, o, none⟩ = some (.int .i64 s.from')
  to' : w.cell? ⟨b, o + 1, none⟩ = some (.int .i64 s.to')
  state : w.cell? ⟨b, o + 2, none⟩ = some (.int .i64 s.state)
  entries : ∃ ea ec, w.cell? ⟨b, o + 3, none⟩ = some (.slice ea s.entries.length ec) ∧ Lists w ea s.entries.length ec s.entries
  size : w.cell? ⟨b, o + 4, none⟩ = some (.int .i64 s.man.size)
  root : ∃ ra rc, w.cell? ⟨b, o + 5, none⟩ = some (.slice ra s.man.root.length rc) ∧ Some' w (.slice ra s.man.root.length rc) s.man.root
  segs : ∃ ga gc, w.cell? ⟨b, o + 6, none⟩ = some (.slice ga s.man.segs.length gc) ∧ SegsAt w (.slice ga s.man.segs.length gc) s.man.segs
theorem ShdCells.below {w w' : World} {b o : Nat} {s : Shd} (h : ShdCells w b o s) (hb : b < w.heap.size) (hw : Below w.heap.size w w') : ShdCells w' b o s := by
  obtain ⟨h1, h2, h3, ⟨ea, ec, h4, h4'⟩, h5, ⟨ra, rc, h6, h6'⟩, ⟨ga, gc, h7, h7'⟩⟩ := h
  exact ⟨by rw [hw.cell (p := ⟨b, o, none⟩) hb]; exact h1, by rw [hw.cell (p := ⟨b, o + 1, none⟩) hb]; exact h2, by rw [hw.cell (p := ⟨b, o + 2, none⟩) hb]; exact h3, ⟨ea, ec, by rw [hw.cell (p := ⟨b, o + 3, none⟩) hb]; exact h4, h4'.below hw⟩, by rw [hw.cell (p := ⟨b, o + 4, none⟩) hb]; exact h5, ⟨ra, rc, by rw [hw.cell (p := ⟨b, o + 5, none⟩) hb]; exact h6, h6'.below hw⟩, ⟨ga, gc, by rw [hw.cell (p := ⟨b, o + 6, none⟩) hb]; exact h7, h7'.below hw⟩⟩
def ShdsAt (w : World) (v : Value) (l : List Shd) : Prop := RowAt 7 ShdCells shd0 w v l
theorem ShdsAt.below {w w' : World} {v : Value} {l : List Shd} (h : ShdsAt w v l) (hw : Below w.heap.size w w') : ShdsAt w' v l := RowAt.below h hw (fun _ _ _ hb hx => hx.below hb hw)
/-- A fleet as the walks meet it. -/
def FltV (w : World) (v : Value) (f : Flt) : Prop := ∃ sa sc ba bc, v = .agg #[.slice sa f.shards.length sc, .slice ba f.book.length bc] ∧ ShdsAt w (.slice sa f.shards.length sc) f.shards ∧ RecsAt w (.slice ba f.book.length bc) f.book
theorem FltV.below {w w' : World} {v : Value} {f : Flt} (h : FltV w v f) (hw : Below w.heap.size w w') : FltV w' v f := by
  obtain ⟨sa, sc, ba, bc, h1, h2, h3⟩ := h
  exact ⟨sa, sc, ba, bc, h1, h2.below hw, h3.below hw⟩
def AnsCells (w : World) (b o : Nat) (x : Ans) : Prop := w.cell? ⟨b, o, none⟩ = some (.int .i64 x.err) ∧ w.cell? ⟨b, o + 1, none⟩ = some (.int .i64 x.shard) ∧ w.cell? ⟨b, o + 2, none⟩ = some (.int .i64 x.place) ∧ w.cell? ⟨b, o + 3, none⟩ = some (.int .i64 x.size) ∧
  ∃ ra rc, w.cell? ⟨b, o + 4, none⟩ = some (.slice ra x.root.length rc) ∧ Some' w (.slice ra x.root.length rc) x.root
theorem AnsCells.below {w w' : World} {b o : Nat} {x : Ans} (h : AnsCells w b o x) (hb : b < w.heap.size) (hw : Below w.heap.size w w') : AnsCells w' b o x := by
  obtain ⟨h0, h1, h2, h3, ra, rc, h4, h5⟩ := h
  exact ⟨by rw [hw.cell (p := ⟨b, o, none⟩) hb]; exact h0, by rw [hw.cell (p := ⟨b, o + 1, none⟩) hb]; exact h1, by rw [hw.cell (p := ⟨b, o + 2, none⟩) hb]; exact h2, by rw [hw.cell (p := ⟨b, o + 3, none⟩) hb]; exact h3, ra, rc, by rw [hw.cell (p := ⟨b, o + 4, none⟩) hb]; exact h4, h5.below hw⟩
def AnssAt (w : World) (v : Value) (l : List Ans) : Prop := RowAt 5 AnsCells ans0 w v l
theorem AnssAt.below {w w' : World} {v : Value} {l : List Ans} (h : AnssAt w v l) (hw : Below w.heap.size w w') : AnssAt w' v l := RowAt.below h hw (fun _ _ _ hb hx => hx.below hb hw)
/-- What is shown, as the walks meet it. -/
structure ShwV (w : World) (v : Value) (s : Shw) : Prop where
  form : ∃ ea ec pa pc ra rc ba bc ha hc, v = .agg #[.slice ea s.entry.length ec, .int .i64 s.place, .int .i64 s.shard, .slice pa s.path.length pc, .int .i64 s.rcd.shard, .int .i64 s.rcd.from', .int .i64 s.rcd.to', .int .i64 s.rcd.size, .slice ra s.rcd.root.length rc, .int .i64 s.row, .slice ba s.bookPath.length bc, .int .i64 s.hsize, .slice ha s.hroot.length hc] ∧
    Some' w (.slice ea s.entry.length ec) s.entry ∧ Lists w pa s.path.length pc s.path ∧ Some' w (.slice ra s.rcd.root.length rc) s.rcd.root ∧ Lists w ba s.bookPath.length bc s.bookPath ∧ Some' w (.slice ha s.hroot.length hc) s.hroot
theorem ShwV.below {w w' : World} {v : Value} {s : Shw} (h : ShwV w v s) (hw : Below w.heap.size w w') : ShwV w' v s := by
  obtain ⟨ea, ec, pa, pc, ra, rc, ba, bc, ha, hc, h1, h2, h3, h4, h5, h6⟩ := h.form
  exact ⟨ea, ec, pa, pc, ra, rc, ba, bc, ha, hc, h1, h2.below hw, h3.below hw, h4.below hw, h5.below hw, h6.below hw⟩
def PlayC : Prop := ∀ (ws : List Win) (l : List Dd) (wv dv : Value) (w : World), Ready w → WinsAt w wv ws → DosAt w dv l →
  Calls Tryz.prog 10 #[wv, dv] w fun e w' => ∃ fv av, e = .returned (.tuple #[fv, av, faultV (playF ws l)]) ∧ FltV w' fv (playL ws l).1 ∧ AnssAt w' av (playL ws l).2 ∧ Below w.heap.size w w'
def ShowC : Prop := ∀ (ws : List Win) (f : Flt) (k i : Int) (fv : Value) (w : World), (wrongWins ws).1 = 0 → FltOk ws f → Ready w → FltV w fv f →
  Calls Tryz.prog 12 #[fv, .int .i64 k, .int .i64 i] w fun e w' => ∃ sv, e = .returned (.tuple #[sv, .int .i64 (showL f k i).2]) ∧ ShwV w' sv (showL f k i).1 ∧ Below w.heap.size w w'
def CheckC : Prop := ∀ (s : Shw) (hs : Int) (hr : List Int) (sv hv : Value) (w : World), Ready w → ShwV w sv s → Some' w hv hr →
  Calls Tryz.prog 14 #[sv, .agg #[.int .i64 hs, hv]] w fun e w' => e = .returned (.bool (checkL s hs hr)) ∧ Below w.heap.size w w'

end Go.Proofs.YtkjlchfmplcobafGreatDoor

/- The small fleet that each law of chapter 7 asks first. -/
namespace Go.Proofs.YtkjlchfmplcobafGreatDoor

def aliveW : List Win := [⟨0, 10⟩, ⟨10, 20⟩]
def doD (kind n : Int) : Dd := ⟨kind, n, 0, [], 0, 0, 0⟩
def subD (time : Int) (b : List Int) : Dd := ⟨1, 0, time, b, 0, 0, 0⟩
def aliveD : List Dd := [subD 12 [7], doD 2 1, doD 3 1, doD 4 1]
theorem aliveW_right : wrongWins aliveW = (0, 0) := by decide +kernel
theorem aliveD_right : playF aliveW aliveD = (0, 0) := by unfold playF; rw [aliveW_right]; rfl
def shdA (k : Nat) (st : Int) (es : List (List Int)) (m : Man) : Shd := ⟨10 * (k : Int), 10 * (k : Int) + 10, st, es, m⟩
theorem alive_1 : stepL (startL aliveW) (subD 12 [7]) = (⟨[shdA 0 1 [] man0, shdA 1 1 [[7]] man0], []⟩, ⟨0, 1, 0, 0, []⟩) := by rfl
theorem alive_2 : stepL ⟨[shdA 0 1 [] man0, shdA 1 1 [[7]] man0], []⟩ (doD 2 1) = (⟨[shdA 0 1 [] man0, shdA 1 2 [[7]] man0], [⟨1, 10, 20, 1, mth [[7]]⟩]⟩, ⟨0, 1, 0, 1, mth [[7]]⟩) := by rfl
theorem seven_right : wrongL [[7]] = (0, 0) := by rfl
theorem alive_3 : stepL ⟨[shdA 0 1 [] man0, shdA 1 2 [[7]] man0], [⟨1, 10, 20, 1, mth [[7]]⟩]⟩ (doD 3 1) = (⟨[shdA 0 1 [] man0, shdA 1 3 [[7]] (exportL [[7]])], [⟨1, 10, 20, 1, mth [[7]]⟩]⟩, ⟨0, 1, 0, (exportL [[7]]).size, (exportL [[7]]).root⟩) := by rfl
theorem seven_verify : (verifyL (exportL [[7]])).2.1 = 0 := by
  have : exportL [[7]] = ⟨([[7]] : List (List Int)).length, mth [[7]], segsL [[7]]⟩ := by unfold exportL; rw [seven_right, if_neg (fun g => g rfl)]
  rw [this, verify_export (by decide) (by decide)]
theorem alive_4 : stepL ⟨[shdA 0 1 [] man0, shdA 1 3 [[7]] (exportL [[7]])], [⟨1, 10, 20, 1, mth [[7]]⟩]⟩ (doD 4 1) = (⟨[shdA 0 1 [] man0, shdA 1 4 [] (exportL [[7]])], [⟨1, 10, 20, 1, mth [[7]]⟩]⟩, ⟨0, 1, 0, (exportL [[7]]).size, (exportL [[7]]).root⟩) := by
  unfold stepL
  rw [if_neg (by decide), if_neg (by decide), if_neg (by decide), if_neg (by decide)]
  show stepAt _ 1 _ = _
  unfold stepAt
  dsimp only
  rw [if_neg (by decide), if_neg (by decide), if_pos (show (doD 4 1).kind = 4 from rfl)]
  have : (([shdA 0 1 [] man0, shdA 1 3 [[7]] (exportL [[7]])] : List Shd).getD 1 shd0).man = exportL [[7]] := rfl
  rw [this, seven_verify, if_neg (fun g => g rfl)]
  rfl
def aliveF : Flt := ⟨[shdA 0 1 [] man0, shdA 1 4 [] (exportL [[7]])], [⟨1, 10, 20, 1, mth [[7]]⟩]⟩
theorem alive_run : runL (startL aliveW) aliveD = (aliveF, [⟨0, 1, 0, 0, []⟩, ⟨0, 1, 0, 1, mth [[7]]⟩, ⟨0, 1, 0, (exportL [[7]]).size, (exportL [[7]]).root⟩, ⟨0, 1, 0, (exportL [[7]]).size, (exportL [[7]]).root⟩]) := by
  show runL _ [_, _, _, _] = _
  simp only [runL, alive_1, alive_2, alive_3, alive_4]
  rfl
theorem alive_play : playL aliveW aliveD = (aliveF, [⟨0, 1, 0, 0, []⟩, ⟨0, 1, 0, 1, mth [[7]]⟩, ⟨0, 1, 0, (exportL [[7]]).size, (exportL [[7]]).root⟩, ⟨0, 1, 0, (exportL [[7]]).size, (exportL [[7]]).root⟩]) := by
  unfold playL; rw [aliveD_right, if_neg (fun g => g rfl), alive_run]
theorem aliveF_ok : FltOk aliveW aliveF := by
  have := run_ok (start_ok aliveW) aliveD
  rw [alive_run] at this
  exact this
theorem alive_shown : (showL aliveF 1 0).2 = 0 ∧ (showL aliveF 1 0).1.entry = [7] ∧ checkL (showL aliveF 1 0).1 1 (mth (rowsOf aliveF.book)) = true := by
  have h := shown (ws := aliveW) (by rw [aliveW_right]) aliveD (by decide) (i := 0) (by decide) rfl (by rw [alive_run]; rfl)
  rw [alive_run] at h
  obtain ⟨k, p, e, -, h2⟩ := h
  have e1 : (1 : Int) = (k : Int) := congrArg Ans.shard e
  have e2 : (0 : Int) = (p : Int) := congrArg Ans.place e
  obtain rfl : k = 1 := by omega
  obtain rfl : p = 0 := by omega
  exact h2 (by decide)

end Go.Proofs.YtkjlchfmplcobafGreatDoor

/- Boxes of records; the walks of yearref5.SameRecord and yearref5.WrongRecord. -/
namespace Go.Proofs.YtkjlchfmplcobafGreatDoor
open Go.RowKit

/-- What a variable of five cells holds. -/
theorem box_five {w : World} {k : Nat} {a b c d e : Value} {t : TypeId} (h : w.heap[k]? = some (.cells #[a, b, c, d, e] t (0, 0))) :
    w.cell? ⟨k, 0, none⟩ = some a ∧ w.cell? ⟨k, 1, none⟩ = some b ∧ w.cell? ⟨k, 2, none⟩ = some c ∧ w.cell? ⟨k, 3, none⟩ = some d ∧ w.cell? ⟨k, 4, none⟩ = some e :=
  ⟨cell_of_row w k 0 _ t _ h, cell_of_row w k 1 _ t _ h, cell_of_row w k 2 _ t _ h, cell_of_row w k 3 _ t _ h, cell_of_row w k 4 _ t _ h⟩
end Go.Proofs.YtkjlchfmplcobafGreatDoor

/- The walks of yearlaw7.do, yearlaw7.submit and yearlaw7.alive, over package fleet's faces. -/
namespace Go.Proofs.YtkjlchfmplcobafGreatDoor
open Go.RowKit

/-- What a variable of thirteen cells holds. -/
theorem box_13 {w : World} {k : Nat} {v0 v1 v2 v3 v4 v5 v6 v7 v8 v9 v10 v11 v12 : Value} {t : TypeId} (h : w.heap[k]? = some (.cells #[v0, v1, v2, v3, v4, v5, v6, v7, v8, v9, v10, v11, v12] t (0, 0))) :
    w.cell? ⟨k, 0, none⟩ = some v0 ∧ w.cell? ⟨k, 1, none⟩ = some v1 ∧ w.cell? ⟨k, 2, none⟩ = some v2 ∧ w.cell? ⟨k, 3, none⟩ = some v3 ∧ w.cell? ⟨k, 4, none⟩ = some v4 ∧ w.cell? ⟨k, 5, none⟩ = some v5 ∧ w.cell? ⟨k, 6, none⟩ = some v6 ∧ w.cell? ⟨k, 7, none⟩ = some v7 ∧ w.cell? ⟨k, 8, none⟩ = some v8 ∧ w.cell? ⟨k, 9, none⟩ = some v9 ∧ w.cell? ⟨k, 10, none⟩ = some v10 ∧ w.cell? ⟨k, 11, none⟩ = some v11 ∧ w.cell? ⟨k, 12, none⟩ = some v12 :=
  ⟨cell_of_row w k 0 _ t _ h, cell_of_row w k 1 _ t _ h, cell_of_row w k 2 _ t _ h, cell_of_row w k 3 _ t _ h, cell_of_row w k 4 _ t _ h, cell_of_row w k 5 _ t _ h, cell_of_row w k 6 _ t _ h, cell_of_row w k 7 _ t _ h, cell_of_row w k 8 _ t _ h, cell_of_row w k 9 _ t _ h, cell_of_row w k 10 _ t _ h, cell_of_row w k 11 _ t _ h, cell_of_row w k 12 _ t _ h⟩
set_option maxRecDepth 100000 in
theorem do7_any (kind n : Int) (w : World) :
    Calls Tryz.prog 24 #[.int .i64 kind, .int .i64 n] w fun e w' => e = .returned (.agg #[.int .i64 kind, .int .i64 n, .int .i64 0, .slice none 0 0, .int .i64 0, .int .i64 0, .int .u8 0]) ∧ Below w.heap.size w w' := by
  have b0 : Below w.heap.size w (w.alloc (.cells #[.int .i64 kind, .int .i64 n, .int .i64 0, .slice none 0 0, .int .i64 0, .int .i64 0, .int .u8 0] 37)) := (Below.refl _ _).alloc (Nat.le_refl _) _
  go_enter Tryz.func24, Tryz.ntmps24
  go_wp2_with fail
  exact bodyPost_ret (v := .agg #[.int .i64 kind, .int .i64 n, .int .i64 0, .slice none 0 0, .int .i64 0, .int .i64 0, .int .u8 0]) (by simp [results, Tryz.results24, go_sem]) rfl ⟨rfl, b0⟩
set_option maxRecDepth 100000 in
theorem submit7_any (t : Int) (ba : Option Addr) (bn bc : Nat) (w : World) :
    Calls Tryz.prog 23 #[.int .i64 t, .slice ba bn bc] w fun e w' => e = .returned (.agg #[.int .i64 1, .int .i64 0, .int .i64 t, .slice ba bn bc, .int .i64 0, .int .i64 0, .int .u8 0]) ∧ Below w.heap.size w w' := by
  have b0 : Below w.heap.size w (w.alloc (.cells #[.int .i64 1, .int .i64 0, .int .i64 t, .slice ba bn bc, .int .i64 0, .int .i64 0, .int .u8 0] 37)) := (Below.refl _ _).alloc (Nat.le_refl _) _
  go_enter Tryz.func23, Tryz.ntmps23
  go_wp2_with fail
  exact bodyPost_ret (v := .agg #[.int .i64 1, .int .i64 0, .int .i64 t, .slice ba bn bc, .int .i64 0, .int .i64 0, .int .u8 0]) (by simp [results, Tryz.results23, go_sem]) rfl ⟨rfl, b0⟩
/-- The four things that are done, in memory. -/
def aliveCells (ba : Option Addr) (bc : Nat) : Array Value := #[.int .i64 1, .int .i64 0, .int .i64 12, .slice ba 1 bc, .int .i64 0, .int .i64 0, .int .u8 0, .int .i64 2, .int .i64 1, .int .i64 0, .slice none 0 0, .int .i64 0, .int .i64 0, .int .u8 0, .int .i64 3, .int .i64 1, .int .i64 0, .slice none 0 0, .int .i64 0, .int .i64 0, .int .u8 0, .int .i64 4, .int .i64 1, .int .i64 0, .slice none 0 0, .int .i64 0, .int .i64 0, .int .u8 0]
theorem alive_dos (w : World) (t : TypeId) (ba : Option Addr) (bc : Nat) (hb : Some' w (.slice ba 1 bc) [7]) : DosAt (w.alloc (.cells (aliveCells ba bc) t)) (.slice (some ⟨w.heap.size, 0, none⟩) 4 4) aliveD := by
  have hbl : Below w.heap.size w (w.alloc (.cells (aliveCells ba bc) t)) := (Below.refl _ _).alloc (Nat.le_refl _) _
  have hnil : Some' (w.alloc (.cells (aliveCells ba bc) t)) (.slice none 0 0) [] := ⟨bytesAt_nil _, nil_bytes, Nat.zero_le _⟩
  have hc : ∀ j, j < 28 → (w.alloc (.cells (aliveCells ba bc) t)).cell? ⟨w.heap.size, j, none⟩ = (aliveCells ba bc)[j]? := fun j hj => cell_of_row _ _ j _ t _ (box_new w _ t)
  refine ⟨_, 4, rfl, Nat.le_refl _, by unfold maxLen; omega, (fun e => by cases e), .inr ⟨w.heap.size, 0, rfl, by simp, fun j hj => ?_⟩⟩
  have hj4 : j < 4 := hj
  match j, hj4 with
  | 0, _ => exact ⟨hc 0 (by omega), hc 1 (by omega), hc 2 (by omega), ⟨ba, bc, hc 3 (by omega), hb.below hbl⟩, hc 4 (by omega), hc 5 (by omega), hc 6 (by omega), by decide⟩
  | 1, _ => exact ⟨hc 7 (by omega), hc 8 (by omega), hc 9 (by omega), ⟨none, 0, hc 10 (by omega), hnil⟩, hc 11 (by omega), hc 12 (by omega), hc 13 (by omega), by decide⟩
  | 2, _ => exact ⟨hc 14 (by omega), hc 15 (by omega), hc 16 (by omega), ⟨none, 0, hc 17 (by omega), hnil⟩, hc 18 (by omega), hc 19 (by omega), hc 20 (by omega), by decide⟩
  | 3, _ => exact ⟨hc 21 (by omega), hc 22 (by omega), hc 23 (by omega), ⟨none, 0, hc 24 (by omega), hnil⟩, hc 25 (by omega), hc 26 (by omega), hc 27 (by omega), by decide⟩
theorem alive_wins (w : World) (t : TypeId) : WinsAt (w.alloc (.cells #[.int .i64 0, .int .i64 10, .int .i64 10, .int .i64 20] t)) (.slice (some ⟨w.heap.size, 0, none⟩) 2 2) aliveW := by
  refine ⟨_, 2, rfl, Nat.le_refl _, by unfold maxLen; omega, (fun e => by cases e), .inr ⟨w.heap.size, 0, rfl, by simp, fun j hj => ?_⟩⟩
  have hj2 : j < 2 := hj
  match j, hj2 with
  | 0, _ => exact ⟨new_cell w t _ 0 (by simp), new_cell w t _ 1 (by simp)⟩
  | 1, _ => exact ⟨new_cell w t _ 2 (by simp), new_cell w t _ 3 (by simp)⟩
theorem alive_seven (w : World) (t : TypeId) : Some' (w.alloc (.cells #[.int .u8 7] t)) (.slice (some ⟨w.heap.size, 0, none⟩) 1 1) [7] :=
  ⟨const_bytes w t [7] 1 rfl (0, 0), bytes_cons (by decide) (by decide) nil_bytes, by show 1 ≤ maxLen; unfold maxLen; omega⟩
set_option maxRecDepth 100000 in
set_option maxHeartbeats 4000000 in
theorem alive7_any (hPl : PlayC) (hSh : ShowC) (hCh : CheckC) (hHe : BookHeadC) (w : World) (hR : Ready w) :
    Calls Tryz.prog 9 #[] w fun e w' => e = .returned (.bool true) ∧ Below w.heap.size w w' := by
  have b0 : Below w.heap.size w ((w.alloc (.cells #[.int .i64 0, .int .i64 10, .int .i64 10, .int .i64 20] 64)).alloc (.cells #[.int .u8 7] 5)) := ((Below.refl _ _).alloc (Nat.le_refl _) _).alloc (by simp) _
  have hW0 := (alive_wins w 64).below ((Below.refl _ _).alloc (Nat.le_refl _) (.cells #[.int .u8 7] 5))
  have hS0 := alive_seven (w.alloc (.cells #[.int .i64 0, .int .i64 10, .int .i64 10, .int .i64 20] 64)) 5
  rw [World.size_alloc] at hS0
  go_enter Tryz.func9, Tryz.ntmps9
  go_wp2_with fail
  generalize (w.alloc (.cells #[.int .i64 0, .int .i64 10, .int .i64 10, .int .i64 20] 64)).alloc (.cells #[.int .u8 7] 5) = w0 at *
  refine (submit7_any 12 _ 1 1 w0).mono ?_
  rintro e w1 ⟨rfl, hb1⟩
  have b1 := b0.trans (hb1.mono b0.size)
  go_wp2_with fail
  refine (do7_any 2 1 w1).mono ?_
  rintro e w2 ⟨rfl, hb2⟩
  have c2 := hb1.trans (hb2.mono hb1.size)
  go_wp2_with fail
  refine (do7_any 3 1 w2).mono ?_
  rintro e w3 ⟨rfl, hb3⟩
  have c3 := c2.trans (hb3.mono c2.size)
  go_wp2_with fail
  refine (do7_any 4 1 w3).mono ?_
  rintro e w4 ⟨rfl, hb4⟩
  have c4 := c3.trans (hb4.mono c3.size)
  have hD5 := alive_dos w4 37 _ 1 (hS0.below c4)
  have d5 : Below w4.heap.size w4 (w4.alloc (.cells (aliveCells (some ⟨w.heap.size + 1, 0, none⟩) 1) 37)) := (Below.refl _ _).alloc (Nat.le_refl _) _
  have c5 := c4.trans (d5.mono c4.size)
  have b5 := b0.trans (c5.mono b0.size)
  have hW5 := hW0.below c5
  have cP := hPl aliveW aliveD _ _ _ (hR.below b5) hW5 hD5
  rw [aliveD_right, alive_play] at cP
  dsimp only [faultV] at cP
  clear hW0 hS0 b0 b1 hb1 hb2 hb3 hb4 c2 c3 c4 d5 c5 hW5 hD5 hPl
  unfold aliveCells at cP b5
  go_wp2_with fail
  generalize w4.alloc _ = w5 at *
  refine cP.mono ?_
  rintro e w6 ⟨fv, av, rfl, hF, hA, hb6⟩
  have b6 := b5.trans (hb6.mono b5.size)
  obtain ⟨sa, sc, ka, kc, rfl, hSh6, hBk6⟩ := hF
  obtain ⟨aa, ac, rfl, ha1, ha2, ha3, hAc⟩ := hA
  obtain ⟨ab, ao, rfl, hab, hcs⟩ := hAc.resolve_left (by decide)
  obtain ⟨a3, -, -, -, -⟩ := hcs 3 (by decide)
  have d7 : Below w6.heap.size w6 ((w6.alloc (.cells #[.slice sa aliveF.shards.length sc, .slice ka aliveF.book.length kc] 28)).alloc (.cells #[.int .i64 0, .int .i64 0] 32)) := ((Below.refl _ _).alloc (Nat.le_refl _) _).alloc (by simp) _
  have b7 := b6.trans (d7.mono b6.size)
  have x7 := box_one w6 #[.slice sa aliveF.shards.length sc, .slice ka aliveF.book.length kc] 28 (.cells #[.int .i64 0, .int .i64 0] 32)
  obtain ⟨f0, f1, -, -⟩ := box_two (box_last w6 (.cells #[.slice sa aliveF.shards.length sc, .slice ka aliveF.book.length kc] 28) #[.int .i64 0, .int .i64 0] 32)
  have a7 := (d7.cell (p := ⟨ab, ao + 3 * 5, none⟩) hab).trans a3
  have hF7 : FltV ((w6.alloc (.cells #[.slice sa aliveF.shards.length sc, .slice ka aliveF.book.length kc] 28)).alloc (.cells #[.int .i64 0, .int .i64 0] 32)) (.agg #[.slice sa aliveF.shards.length sc, .slice ka aliveF.book.length kc]) aliveF := FltV.below (w := w6) (f := aliveF) ⟨sa, sc, ka, kc, rfl, hSh6, hBk6⟩ d7
  have hB7 := hBk6.below d7
  have cS := hSh aliveW aliveF 1 0 _ _ (by rw [aliveW_right]) aliveF_ok (hR.below b7) hF7
  obtain ⟨g0, g1, -, -⟩ := box_two x7
  obtain ⟨e1, e2, e3⟩ := alive_shown
  rw [e1] at cS
  clear cP hSh6 hBk6 hAc hcs a3 hF7
  replace a7 : _ = some (Value.int .i64 0) := a7
  go_wp2_with fail
  generalize (w6.alloc (.cells #[.slice sa aliveF.shards.length sc, .slice ka aliveF.book.length kc] 28)).alloc (.cells #[.int .i64 0, .int .i64 0] 32) = w7 at *
  generalize showL aliveF 1 0 = Z at *
  obtain ⟨S, ze⟩ := Z
  dsimp only at cS e1 e2 e3
  refine cS.mono ?_
  rintro e w8 ⟨sv, rfl, hV, hb8⟩
  have b8 := b7.trans (hb8.mono b7.size)
  obtain ⟨ea, ec, pa, pc, ra, rc, ba, bc, ha, hc, rfl, hv1, hv2, hv3, hv4, hv5⟩ := hV.form
  have hE1 : S.entry.length = 1 := by rw [e2]; rfl
  rw [hE1] at hv1 hV ⊢
  have d9 : Below w8.heap.size w8 (w8.alloc (.cells #[.slice ea 1 ec, .int .i64 S.place, .int .i64 S.shard, .slice pa S.path.length pc, .int .i64 S.rcd.shard, .int .i64 S.rcd.from', .int .i64 S.rcd.to', .int .i64 S.rcd.size, .slice ra S.rcd.root.length rc, .int .i64 S.row, .slice ba S.bookPath.length bc, .int .i64 S.hsize, .slice ha S.hroot.length hc] 53)) := (Below.refl _ _).alloc (Nat.le_refl _) _
  have b9 := b8.trans (d9.mono b8.size)
  have y9 := box_new w8 #[.slice ea 1 ec, .int .i64 S.place, .int .i64 S.shard, .slice pa S.path.length pc, .int .i64 S.rcd.shard, .int .i64 S.rcd.from', .int .i64 S.rcd.to', .int .i64 S.rcd.size, .slice ra S.rcd.root.length rc, .int .i64 S.row, .slice ba S.bookPath.length bc, .int .i64 S.hsize, .slice ha S.hroot.length hc] 53
  have x9 := box_kept (box_kept x7 hb8) d9
  have hV9 := hV.below d9
  have hv9 := hv1.below d9
  have cH := hHe aliveF.book _ _ (hR.below b9) ((hB7.below hb8).below d9)
  have hbk : wrongRecs aliveF.book = (0, 0) := book_right (by rw [aliveW_right]) aliveF_ok
  have hbs : bookSize aliveF.book = 1 := by unfold bookSize; rw [hbk, if_neg (fun h => h rfl)]; rfl
  have hbr : bookRoot aliveF.book = mth (rowsOf aliveF.book) := by unfold bookRoot; rw [hbk, if_neg (fun h => h rfl)]
  have hml := mth_length (rowsOf aliveF.book)
  rw [hbk, hbs, hbr, hml] at cH
  dsimp only [faultV] at cH
  obtain ⟨q0, q1, -, -⟩ := box_two x9
  clear cS hv1 hv2 hv3 hv4 hv5 hV x7 g0 g1 f0 f1 a7 hb8 d9 hB7 hbk hbs hbr
  go_wp2_with fail
  generalize w8.alloc (.cells #[.slice ea 1 ec, .int .i64 S.place, .int .i64 S.shard, .slice pa S.path.length pc, .int .i64 S.rcd.shard, .int .i64 S.rcd.from', .int .i64 S.rcd.to', .int .i64 S.rcd.size, .slice ra S.rcd.root.length rc, .int .i64 S.row, .slice ba S.bookPath.length bc, .int .i64 S.hsize, .slice ha S.hroot.length hc] 53) = w9 at *
  refine cH.mono ?_
  rintro e w10 ⟨ta, tc, rfl, ht, hb10⟩
  have d11 : Below w10.heap.size w10 ((w10.alloc (.cells #[.int .i64 1, .slice ta 32 tc] 39)).alloc (.cells #[.int .i64 0, .int .i64 0] 32)) := ((Below.refl _ _).alloc (Nat.le_refl _) _).alloc (by simp) _
  have c11 := hb10.trans (d11.mono hb10.size)
  have b11 := b9.trans (c11.mono b9.size)
  have y11 := box_kept y9 c11
  obtain ⟨h0, h1, -, -⟩ := box_two (box_one w10 #[.int .i64 1, .slice ta 32 tc] 39 (.cells #[.int .i64 0, .int .i64 0] 32))
  have cC := hCh S 1 (mth (rowsOf aliveF.book)) _ _ _ (hR.below b11) (hV9.below c11) (ht.below d11)
  rw [e3] at cC
  have hv11 := (hv9.below c11).at'
  rw [e2] at hv11
  obtain ⟨gg, go, rfl, hcell⟩ : ∃ gg go, ea = some ⟨gg, go, none⟩ ∧ ((w10.alloc (.cells #[.int .i64 1, .slice ta 32 tc] 39)).alloc (.cells #[.int .i64 0, .int .i64 0] 32)).cell? ⟨gg, go, none⟩ = some (.int .u8 7) := by
    rcases hv11 with ⟨e, -⟩ | ⟨b, off, cp, e, -, h⟩
    · cases e
    · cases e; exact ⟨b, off, rfl, h 0 (by decide)⟩
  obtain ⟨k0, k1, k2, k3, k4, k5, k6, k7, k8, k9, k10, k11, k12⟩ := box_13 y11
  subst e1
  clear cH hV9 hv9 hv11 x9 y9 q0 q1 ht hE1 e2 e3
  go_wp2_with fail
  generalize (w10.alloc (.cells #[.int .i64 1, .slice ta 32 tc] 39)).alloc (.cells #[.int .i64 0, .int .i64 0] 32) = w11 at *
  refine cC.mono ?_
  rintro e w12 ⟨rfl, hb12⟩
  go_wp2_with fail
  go_ret
  exact ⟨rfl, b11.trans (hb12.mono b11.size)⟩

end Go.Proofs.YtkjlchfmplcobafGreatDoor

/- Five cells written; old memory kept. Nothing of the program's functions is in it. -/
namespace Go.Proofs.YtkjlchfmplcobafGreatDoor
open Go.RowKit

/-- Five cells written. -/
theorem five_set {w : World} {R : Nat} {a b c d e : Value} {t : TypeId} (h : w.heap[R]? = some (.cells #[a, b, c, d, e] t (0, 0))) (u0 u1 u2 u3 u4 : Value) : (((((w.setCell ⟨R, 0, none⟩ u0).setCell ⟨R, 1, none⟩ u1).setCell ⟨R, 2, none⟩ u2).setCell ⟨R, 3, none⟩ u3).setCell ⟨R, 4, none⟩ u4).heap[R]? = some (.cells #[u0, u1, u2, u3, u4] t (0, 0)) := by
  have h0 := heap_setCell_same w R 0 _ t u0 h
  have h1 := heap_setCell_same _ R 1 _ t u1 h0
  have h2 := heap_setCell_same _ R 2 _ t u2 h1
  have h3 := heap_setCell_same _ R 3 _ t u3 h2
  exact heap_setCell_same _ R 4 _ t u4 h3
theorem five_below {B R : Nat} {w0 w : World} (h : Below B w0 w) (hR : B ≤ R) (u0 u1 u2 u3 u4 : Value) : Below B w0 (((((w.setCell ⟨R, 0, none⟩ u0).setCell ⟨R, 1, none⟩ u1).setCell ⟨R, 2, none⟩ u2).setCell ⟨R, 3, none⟩ u3).setCell ⟨R, 4, none⟩ u4) := ((((h.setCell hR _).setCell hR _).setCell hR _).setCell hR _).setCell hR _
theorem five_own {w : World} {base R n : Nat} {e : TypeId} {v : Value} {xs : List Value} (h : w.ownsRow base e 1 v n xs) (hR : R < base) (u0 u1 u2 u3 u4 : Value) : (((((w.setCell ⟨R, 0, none⟩ u0).setCell ⟨R, 1, none⟩ u1).setCell ⟨R, 2, none⟩ u2).setCell ⟨R, 3, none⟩ u3).setCell ⟨R, 4, none⟩ u4).ownsRow base e 1 v n xs :=
  ownsRow_setCell_below (ownsRow_setCell_below (ownsRow_setCell_below (ownsRow_setCell_below (ownsRow_setCell_below h hR _) hR _) hR _) hR _) hR _
/-- Two cells written. -/
theorem two_set {w : World} {R : Nat} {a b : Value} {t : TypeId} (h : w.heap[R]? = some (.cells #[a, b] t (0, 0))) (u0 u1 : Value) : ((w.setCell ⟨R, 0, none⟩ u0).setCell ⟨R, 1, none⟩ u1).heap[R]? = some (.cells #[u0, u1] t (0, 0)) := by
  have h0 := heap_setCell_same w R 0 _ t u0 h
  exact heap_setCell_same _ R 1 _ t u1 h0
theorem two_below {B R : Nat} {w0 w : World} (h : Below B w0 w) (hR : B ≤ R) (u0 u1 : Value) : Below B w0 ((w.setCell ⟨R, 0, none⟩ u0).setCell ⟨R, 1, none⟩ u1) := (h.setCell hR _).setCell hR _
theorem two_own {w : World} {base R n : Nat} {e : TypeId} {v : Value} {xs : List Value} (h : w.ownsRow base e 1 v n xs) (hR : R < base) (u0 u1 : Value) : ((w.setCell ⟨R, 0, none⟩ u0).setCell ⟨R, 1, none⟩ u1).ownsRow base e 1 v n xs := ownsRow_setCell_below (ownsRow_setCell_below h hR _) hR _
theorem two_far {w : World} {R k : Nat} {x : Obj} (h : w.heap[k]? = some x) (hk : k ≠ R) (u0 u1 : Value) : ((w.setCell ⟨R, 0, none⟩ u0).setCell ⟨R, 1, none⟩ u1).heap[k]? = some x := box_set_far (box_set_far h hk) hk
theorem keptB_of {w0 w' : World} (h : Below w0.heap.size w0 w') : Below w0.heap.size w0 w' ∧ ∀ b o, b < w0.heap.size → w'.cell? ⟨b, o, none⟩ = w0.cell? ⟨b, o, none⟩ := ⟨h, fun b o hlt => h.cell (p := ⟨b, o, none⟩) hlt⟩
theorem keptB_drew (w0 : World) : Below w0.heap.size w0 w0.drew ∧ ∀ b o, b < w0.heap.size → w0.drew.cell? ⟨b, o, none⟩ = w0.cell? ⟨b, o, none⟩ := keptB_of (Below.refl _ _).drew
theorem keptB_new (w0 : World) (x : Obj) : Below w0.heap.size w0 (w0.alloc x).drew ∧ ∀ b o, b < w0.heap.size → (w0.alloc x).drew.cell? ⟨b, o, none⟩ = w0.cell? ⟨b, o, none⟩ := keptB_of ((Below.refl _ _).alloc (Nat.le_refl _) _).drew
end Go.Proofs.YtkjlchfmplcobafGreatDoor

/- The walks of yearref5.SameAnswer, SameBook and SameFleet at what is the same. -/
namespace Go.Proofs.YtkjlchfmplcobafGreatDoor
open Go.RowKit

/-- An answer as the walks meet it. -/
def AnsV (w : World) (v : Value) (x : Ans) : Prop := ∃ ra rc, v = .agg #[.int .i64 x.err, .int .i64 x.shard, .int .i64 x.place, .int .i64 x.size, .slice ra x.root.length rc] ∧ Some' w (.slice ra x.root.length rc) x.root
theorem AnsV.below {w w' : World} {v : Value} {x : Ans} (h : AnsV w v x) (hb : Below w.heap.size w w') : AnsV w' v x := by
  obtain ⟨ra, rc, h1, h2⟩ := h
  exact ⟨ra, rc, h1, h2.below hb⟩
/-- What a variable of seven cells holds. -/
theorem box_7 {w : World} {k : Nat} {v0 v1 v2 v3 v4 v5 v6 : Value} {t : TypeId} (h : w.heap[k]? = some (.cells #[v0, v1, v2, v3, v4, v5, v6] t (0, 0))) :
    w.cell? ⟨k, 0, none⟩ = some v0 ∧ w.cell? ⟨k, 1, none⟩ = some v1 ∧ w.cell? ⟨k, 2, none⟩ = some v2 ∧ w.cell? ⟨k, 3, none⟩ = some v3 ∧ w.cell? ⟨k, 4, none⟩ = some v4 ∧ w.cell? ⟨k, 5, none⟩ = some v5 ∧ w.cell? ⟨k, 6, none⟩ = some v6 :=
  ⟨cell_of_row w k 0 _ t _ h, cell_of_row w k 1 _ t _ h, cell_of_row w k 2 _ t _ h, cell_of_row w k 3 _ t _ h, cell_of_row w k 4 _ t _ h, cell_of_row w k 5 _ t _ h, cell_of_row w k 6 _ t _ h⟩

end Go.Proofs.YtkjlchfmplcobafGreatDoor

/- The walk of the law FleetPast, over the faces of package fleet. -/
namespace Go.Proofs.YtkjlchfmplcobafGreatDoor
open Go.RowKit

theorem play_ok {ws : List Win} {l : List Dd} (h : (playF ws l).1 = 0) : playL ws l = runL (startL ws) l ∧ (wrongWins ws).1 = 0 ∧ l.length ≤ 120 := by
  refine ⟨by unfold playL; rw [if_neg (fun g => g h)], ?_, ?_⟩
  · unfold playF at h
    by_cases hw : (wrongWins ws).1 ≠ 0
    · rw [if_pos hw] at h; exact absurd h hw
    · simpa using hw
  · unfold playF at h
    by_cases hw : (wrongWins ws).1 ≠ 0
    · rw [if_pos hw] at h; exact absurd h hw
    · rw [if_neg hw] at h
      by_cases hl : 120 < l.length
      · rw [if_pos hl] at h; exact absurd h (by decide)
      · omega
end Go.Proofs.YtkjlchfmplcobafGreatDoor

/- The walk of the law FleetEarly, over the faces of package fleet. -/
namespace Go.Proofs.YtkjlchfmplcobafGreatDoor
open Go.RowKit

theorem ShdsAt.get {w : World} {a : Option Addr} {n c : Nat} {l : List Shd} (h : ShdsAt w (.slice a n c) l) (hn : l.length = n) {j : Nat} (hj : j < n) : ∃ b o, a = some ⟨b, o, none⟩ ∧ b < w.heap.size ∧ ShdCells w b (o + j * 7) (l.getD j shd0) := by
  obtain ⟨a', c', e, -, -, -, h5⟩ := h
  rw [hn] at e h5
  cases e
  obtain ⟨b, off, h6, h7, h8⟩ := h5.resolve_left (by omega)
  exact ⟨b, off, h6, h7, h8 j hj⟩
end Go.Proofs.YtkjlchfmplcobafGreatDoor
