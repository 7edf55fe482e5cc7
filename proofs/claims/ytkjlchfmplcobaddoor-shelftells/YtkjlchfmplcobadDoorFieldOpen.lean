/- Fields that came in, opened: numbers, bytes, heads. -/
import Derived.Test.YtkjlchfmplcobadDoorProg
import Derived.Test.YtkjlchfmplcobadDoorByteOpen
import Derived.Lib.SmallJoins
import Derived.Deep.Strs
namespace Go.Proofs.YtkjlchfmplcobadDoor
open Go.ChangeShapes Go.WideShapes Go.ChangeAt Go.WideMaps Go.WideElems Go.RowKit

theorem int_cells5 : Tryd.prog.cellsOf 3 = 1 := by kernel_rfl
theorem bytes_cells5 : Tryd.prog.cellsOf 23 = 1 := by kernel_rfl
theorem head_cells5 : Tryd.prog.cellsOf 25 = 2 := by kernel_rfl
theorem open_packed {H : Type} {enc : TypeId × Value → H} {W : World} {base fuel : Nat} {spare : Nat → Bool} {held : Bool} {v : Value} {x : DataW H × List MemPlace}
    (h : DataW.trod enc Tryd.prog W base spare held fuel 23 [v] = some x) : ∃ (b : List Int) (a : Option Addr) (c : Nat), v = .slice a b.length c ∧ Some' W (.slice a b.length c) b ∧ b.length ≤ c ∧ c ≤ maxLen := by
  obtain ⟨sa, sl, sc, e⟩ := Go.Joins.slice_form Tryd.underlying23 h
  simp at e
  subst e
  obtain ⟨b, a, c, e, h1, h2, h3⟩ := open_room (v := .slice sa sl sc) ⟨_, _, _, rfl⟩ ⟨fuel, h⟩
  rw [e] at h1 ⊢
  exact ⟨b, a, c, rfl, h1, h2, h3⟩

end Go.Proofs.YtkjlchfmplcobadDoor
