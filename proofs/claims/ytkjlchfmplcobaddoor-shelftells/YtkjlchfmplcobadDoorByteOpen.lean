/- A slice of bytes that came in, opened, with its room. -/
import Derived.Test.YtkjlchfmplcobadDoorRunAG
import Derived.WalkKit
import Derived.ProofKit
import Derived.OpenShut
import Derived.Stop.Joined
import Derived.ShutString
import Derived.ChangeOld
import Derived.SizedLaws
namespace Go.Proofs.YtkjlchfmplcobadDoor
open Go.ChangeShapes Go.WideShapes Go.ChangeAt Go.WideMaps Go.WideElems Go.RowKit

theorem open_room {H : Type} {enc : TypeId × Value → H} {W : World} {base : Nat} {spare : Nat → Bool} {held : Bool} {v : Value} {d : DataW H} {p : List MemPlace}
    (hv : ∃ a len cap, v = .slice a len cap) (h : DataW.Trod enc Tryd.prog W base spare held 23 v d p) :
    ∃ (b : List Int) (a : Option Addr) (c : Nat), v = .slice a b.length c ∧ Some' W v b ∧ b.length ≤ c ∧ c ≤ maxLen := by
  obtain ⟨a, len, cap, rfl⟩ := hv
  obtain ⟨fuel, hf⟩ := h
  rcases open_ints Tryd.underlying23 Tryd.underlying5 (by kernel_rfl) hf with ⟨hcs, hx⟩ | ⟨x, l, c, zs, hcs, _, hl, hm, hz, hx, hcell, hwz⟩
  · simp [Value.cells] at hcs
    obtain ⟨rfl, rfl, rfl⟩ := hcs
    exact ⟨[], none, 0, rfl, ⟨.inl ⟨rfl, none, 0, rfl, fun _ => rfl⟩, nil_bytes, Nat.zero_le _⟩, Nat.le_refl _, Nat.zero_le _⟩
  · simp [Value.cells] at hcs
    obtain ⟨rfl, rfl, rfl⟩ := hcs
    have hlz : len ≤ zs.length := by split at hz <;> omega
    have htl : (zs.take len).length = len := by rw [List.length_take]; omega
    have hget : ∀ j, j < len → (zs.take len).getD j 0 = zs.getD j 0 := fun j hj => by
      rw [List.getD_eq_getElem?_getD, List.getD_eq_getElem?_getD, List.getElem?_take, if_pos hj]
    have hby : Bytes (zs.take len) := fun j => by
      by_cases hj : j < len
      · rw [hget j hj, List.getD_eq_getElem?_getD, List.getElem?_eq_getElem (by omega)]
        have := hwz _ (List.getElem_mem (l := zs) (n := j) (by omega))
        have := bounds_u8 this
        exact ⟨this.1, by have := this.2; show zs[j] < 256; omega⟩
      · rw [List.getD_eq_getElem?_getD, List.getElem?_eq_none (by omega)]
        exact ⟨by decide, by decide⟩
    by_cases hpos : 0 < len
    · obtain ⟨b, off, rfl, hc⟩ := ints_at hcell (by omega)
      refine ⟨zs.take len, _, cap, by rw [htl], ⟨.inr ⟨b, off, cap, by rw [htl], ?_, fun j hj => ?_⟩, hby, by omega⟩, by omega, hm⟩
      · exact World.block_lt_of_cell? _ _ (hc 0 (by omega))
      · rw [hget j (by omega)]; exact hc j (by omega)
    · obtain rfl : len = 0 := by omega
      exact ⟨[], _, cap, rfl, ⟨.inl ⟨rfl, _, _, rfl, fun h => by cases h⟩, nil_bytes, Nat.zero_le _⟩, Nat.zero_le _, hm⟩

end Go.Proofs.YtkjlchfmplcobadDoor
