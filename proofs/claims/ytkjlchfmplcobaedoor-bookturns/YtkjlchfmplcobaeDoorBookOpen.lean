/- Records that came in, opened. -/
import Derived.Test.YtkjlchfmplcobaeDoorProg
import Derived.Test.YtkjlchfmplcobaeDoorBookFace
import Derived.Test.YtkjlchfmplcobaeDoorFieldOpen
namespace Go.Proofs.YtkjlchfmplcobaeDoor
open Go.ChangeShapes Go.WideShapes Go.ChangeAt Go.WideMaps Go.WideElems Go.RowKit

theorem rec_cells6 : Tryd.prog.cellsOf 40 = 5 := by kernel_rfl
theorem array5' {α : Type} {cs : Array α} (h : cs.size = 5) : ∃ c0 c1 c2 c3 c4, cs = #[c0, c1, c2, c3, c4] := by
  obtain ⟨l⟩ := cs
  match l, h with
  | [c0, c1, c2, c3, c4], _ => exact ⟨c0, c1, c2, c3, c4, rfl⟩
set_option maxRecDepth 100000 in
theorem open_rec_cells {H : Type} {enc : TypeId × Value → H} {W : World} {base fuel : Nat} {spare : Nat → Bool} {held : Bool} {c0 c1 c2 c3 c4 : Value} {x : DataW H × List MemPlace}
    (hf : DataW.trod enc Tryd.prog W base spare held fuel 40 [c0, c1, c2, c3, c4] = some x) :
    ∃ (r : Rec) (ra : Option Addr) (rc : Nat), c0 = .int .i64 r.shard ∧ c1 = .int .i64 r.from' ∧ c2 = .int .i64 r.to' ∧ c3 = .int .i64 r.size ∧ c4 = .slice ra r.root.length rc ∧ Some' W (.slice ra r.root.length rc) r.root := by
  obtain ⟨y0, y1, y2, y3, n, -, -, h0, h1, h2, h3⟩ := Go.Joins.trod_struct4 Tryd.underlying40 hf
  simp only [int_cells5, head_cells5, List.drop, List.take] at h0 h1 h2 h3
  obtain ⟨z0, z1, k, -, -, g0, g1⟩ := trod_struct2 Tryd.underlying24 h3
  simp only [int_cells5, bytes_cells5, List.drop, List.take] at g0 g1
  obtain ⟨s, e0, -, -⟩ := DataW.trod_int Tryd.underlying3 h0
  obtain ⟨f, e1, -, -⟩ := DataW.trod_int Tryd.underlying3 h1
  obtain ⟨t, e2, -, -⟩ := DataW.trod_int Tryd.underlying3 h2
  obtain ⟨z, e3, -, -⟩ := DataW.trod_int Tryd.underlying3 g0
  obtain ⟨b, pa, pc, e4, h5, -, -⟩ := open_packed g1
  simp at e0 e1 e2 e3
  exact ⟨⟨s, f, t, z, b⟩, pa, pc, e0, e1, e2, e3, e4, h5⟩
set_option maxRecDepth 100000 in
theorem open_rec {H : Type} {enc : TypeId × Value → H} {W : World} {r : Reach} {b0 base : Nat} {spare : Nat → Bool} {held : Bool} {v : Value} {d : DataW H} {p : List MemPlace}
    (hv : Value.okWide Tryd.prog W r b0 40 v) (h : DataW.Trod enc Tryd.prog W base spare held 40 v d p) : ∃ r : Rec, RecV W v r := by
  obtain ⟨cs, rfl, hsz⟩ := okWide_struct Tryd.underlying40 hv
  obtain ⟨c0, c1, c2, c3, c4, rfl⟩ := array5' (hsz.trans rec_cells6)
  obtain ⟨fuel, hf⟩ := h
  obtain ⟨r, ra, rc, e0, e1, e2, e3, e4, hS⟩ := open_rec_cells (c0 := c0) (c1 := c1) (c2 := c2) (c3 := c3) (c4 := c4) hf
  subst e0 e1 e2 e3 e4
  exact ⟨r, ra, rc, rfl, hS⟩
end Go.Proofs.YtkjlchfmplcobaeDoor
