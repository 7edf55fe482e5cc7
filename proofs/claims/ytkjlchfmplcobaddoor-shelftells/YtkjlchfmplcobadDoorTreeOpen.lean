/- Lists of bytes that came in, opened as the faces take them. -/
import Derived.Test.YtkjlchfmplcobadDoorShaOpenParts
import Derived.Test.YtkjlchfmplcobadDoorRunAA
namespace Go.Proofs.YtkjlchfmplcobadDoor
open Go.ChangeShapes Go.WideShapes Go.ChangeAt Go.WideMaps Go.WideElems Go.RowKit

theorem open_lists {H : Type} {enc : TypeId × Value → H} {W : World} {base : Nat} {held : Bool} {v : Value} {d : DataW H} {p : List MemPlace}
    (hv : ∃ a len cap, v = .slice a len cap) (h : DataW.Trod enc Tryd.prog W base (fun _ => true) held 22 v d p) :
    ∃ (L : List (List Int)) (a : Option Addr) (n c : Nat), v = .slice a n c ∧ Lists W a n c L := by
  obtain ⟨L, hP, hl, hs, hb⟩ := open_parts hv h
  obtain ⟨a, len, cap, rfl⟩ := hv
  have hlen : L.length = len := by
    obtain ⟨a', c', e, -⟩ := hP.form
    injection e with _ h2 _
    exact h2.symm
  obtain ⟨fuel, hf⟩ := h
  rcases Deep.open_int_rows Tryd.underlying22 Tryd.underlying23 Tryd.underlying5 (by kernel_rfl) (by kernel_rfl) hf with ⟨hcs, _⟩ | ⟨x, l, c, A, Ln, C, Z, hcs, _, hl2, hm, _, hr⟩
  · simp [Value.cells] at hcs
    obtain ⟨rfl, rfl, rfl⟩ := hcs
    exact ⟨L, none, 0, 0, rfl, hlen, hP, Nat.le_refl _, Nat.zero_le _, fun _ => ⟨rfl, rfl⟩, hb, hs⟩
  · simp [Value.cells] at hcs
    obtain ⟨rfl, rfl, rfl⟩ := hcs
    exact ⟨L, some x, len, cap, rfl, hlen, hP, hl2, hm, (fun h => by cases h), hb, hs⟩
theorem ready_of_laid {W : World} (h : laidMetH Tryd.prog laidK W) : Ready W := by
  obtain ⟨h1, h2⟩ := tab_of_laid h
  exact ⟨h1, h2⟩

end Go.Proofs.YtkjlchfmplcobadDoor
