/- What numbers called with are, as the walks meet them. -/
import Derived.Test.YtkjlchfmplcobahDoorFleetOpen
import Derived.Test.YtkjlchfmplcobahDoorRunAD
namespace Go.Proofs.YtkjlchfmplcobahDoor
open Go.ChangeShapes Go.WideShapes Go.ChangeAt Go.WideMaps Go.WideElems Go.RowKit

set_option maxRecDepth 100000 in
theorem open_ints {H : Type} {enc : TypeId × Value → H} {W : World} {base : Nat} {spare : Nat → Bool} {held : Bool} {v : Value} {d : DataW H} {p : List MemPlace}
    (hv : ∃ a len cap, v = .slice a len cap) (h : DataW.Trod enc Tryd.prog W base spare held 22 v d p) : ∃ (l : List Int) (a : Option Addr) (n c : Nat), v = .slice a n c ∧ IntsAt W (.slice a n c) l ∧ l.length = n := by
  refine open_rows 0 IntCell Tryd.underlying22 int_cells5 (by decide) (fun cs fuel x hl hx => ?_) hv h
  match cs, hl with
  | [c0], _ =>
    obtain ⟨a, e0, -, w0⟩ := DataW.trod_int Tryd.underlying3 hx
    simp at e0
    subst e0
    have k0 := bounds_i64 w0
    exact ⟨a, fun g o hc => ⟨hc 0 (by omega), k0.1, k0.2⟩⟩

end Go.Proofs.YtkjlchfmplcobahDoor
