/- Heads and edges that came in, opened; five and six arguments. -/
import Derived.Test.YtkjlchfmplcobacDoorTreeOpen
import Derived.Lib.SmallJoins
namespace Go.Proofs.YtkjlchfmplcobacDoor
open Go.ChangeShapes Go.WideShapes Go.ChangeAt Go.WideMaps Go.WideElems Go.RowKit

theorem open_some {H : Type} {enc : TypeId × Value → H} {W : World} {base : Nat} {spare : Nat → Bool} {held : Bool} {v : Value} {d : DataW H} {p : List MemPlace}
    (hv : ∃ a len cap, v = .slice a len cap) (h : DataW.Trod enc Tryd.prog W base spare held 23 v d p) : ∃ (b : List Int) (a : Option Addr) (c : Nat), v = .slice a b.length c ∧ Some' W v b ∧ (b = [] ∨ ∃ elems sp : List (DataW H), d = .slice elems sp ∧ elems.length = b.length) := by
  obtain ⟨zs, hB, hby, hmx, hd⟩ := open_bytes hv h
  obtain ⟨a, c, e⟩ := hB.form
  exact ⟨zs, a, c, e, ⟨hB, hby, hmx⟩, hd⟩
end Go.Proofs.YtkjlchfmplcobacDoor
