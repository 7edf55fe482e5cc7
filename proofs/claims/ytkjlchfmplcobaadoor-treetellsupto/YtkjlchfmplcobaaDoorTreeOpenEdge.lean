/- Edges that came in, opened. -/
import Derived.Test.YtkjlchfmplcobaaDoorTreeOpenStruct
namespace Go.Proofs.YtkjlchfmplcobaaDoor
open Go.ChangeShapes Go.WideShapes Go.ChangeAt Go.WideMaps Go.WideElems Go.RowKit

set_option maxRecDepth 100000 in
theorem open_edge {H : Type} {enc : TypeId × Value → H} {W : World} {r : Reach} {b0 base : Nat} {held : Bool} {v : Value} {d : DataW H} {p : List MemPlace}
    (hv : Value.okWide Tryd.prog W r b0 34 v) (h : DataW.Trod enc Tryd.prog W base (fun _ => true) held 34 v d p) :
    ∃ (size : Int) (ps : List (List Int)) (a : Option Addr) (n c : Nat), v = .agg #[.int .i64 size, .slice a n c] ∧ Lists W a n c ps := by
  obtain ⟨v0, v1, y0, y1, n, rfl, -, -, h0, h1⟩ := Go.Joins.open_agg2 Tryd.underlying34 (by kernel_rfl) (by kernel_rfl) hv h
  obtain ⟨size, e0, -, -⟩ := DataW.trod_int Tryd.underlying3 h0
  obtain ⟨sa, sl, sc, e1⟩ := Go.Joins.slice_form Tryd.underlying26 h1
  simp at e0 e1
  subst e0 e1
  obtain ⟨L, a, m, c, e, hL⟩ := open_lists (v := .slice sa sl sc) ⟨_, _, _, rfl⟩ ⟨n, h1⟩
  rw [e]
  exact ⟨size, L, a, m, c, rfl, hL⟩

end Go.Proofs.YtkjlchfmplcobaaDoor
