/- Heads and edges that came in, opened; five and six arguments. -/
import Derived.Test.YtkjlchfmplcobacDoorTreeOpen
import Derived.Lib.SmallJoins
namespace Go.Proofs.YtkjlchfmplcobacDoor
open Go.ChangeShapes Go.WideShapes Go.ChangeAt Go.WideMaps Go.WideElems Go.RowKit

theorem open_some {H : Type} {enc : TypeId × Value → H} {W : World} {base : Nat} {spare : Nat → Bool} {held : Bool} {v : Value} {d : DataW H} {p : List MemPlace}
    (hv : ∃ a len cap, v = .slice a len cap) (h : DataW.Trod enc Tryd.prog W base spare held 23 v d p) : ∃ (b : List Int) (a : Option Addr) (c : Nat), v = .slice a b.length c ∧ Some' W v b ∧ (b = [] ∨ ∃ elems sp : List (DataW H), d = .slice elems sp ∧ elems.length = b.length) := by
  obtain ⟨zs, hB, hby, hmx, hd⟩ := open_bytes hv h
  obtain ⟨a, c, e⟩ := hB.form
  exact ⟨zs, a, c, e, ⟨hB, hby, hmx⟩, hd⟩
set_option maxRecDepth 100000 in
theorem open_head {H : Type} {enc : TypeId × Value → H} {W : World} {r : Reach} {b0 base : Nat} {spare : Nat → Bool} {held : Bool} {v : Value} {d : DataW H} {p : List MemPlace}
    (hv : Value.okWide Tryd.prog W r b0 32 v) (h : DataW.Trod enc Tryd.prog W base spare held 32 v d p) :
    ∃ (size : Int) (root : List Int) (ra : Option Addr) (rc : Nat), v = .agg #[.int .i64 size, .slice ra root.length rc] ∧ Some' W (.slice ra root.length rc) root := by
  obtain ⟨v0, v1, y0, y1, n, rfl, -, -, h0, h1⟩ := Go.Joins.open_agg2 Tryd.underlying32 (by kernel_rfl) (by kernel_rfl) hv h
  obtain ⟨size, e0, -, -⟩ := DataW.trod_int Tryd.underlying3 h0
  obtain ⟨sa, sl, sc, e1⟩ := Go.Joins.slice_form Tryd.underlying23 h1
  simp at e0 e1
  subst e0 e1
  obtain ⟨b, a, c, e, hS, -⟩ := open_some (v := .slice sa sl sc) ⟨_, _, _, rfl⟩ ⟨n, h1⟩
  rw [e] at hS ⊢
  exact ⟨size, b, a, c, rfl, hS⟩
end Go.Proofs.YtkjlchfmplcobacDoor
