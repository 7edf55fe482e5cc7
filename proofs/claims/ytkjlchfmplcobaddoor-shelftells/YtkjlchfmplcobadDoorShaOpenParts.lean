/- A slice of slices of bytes that came in, opened. -/
import Derived.Test.YtkjlchfmplcobadDoorShaLaid
import Derived.Test.YtkjlchfmplcobadDoorShaOwn
import Derived.Deep.Matrix
namespace Go.Proofs.YtkjlchfmplcobadDoor
open Go.ChangeShapes Go.WideShapes Go.ChangeAt Go.WideMaps Go.WideElems Go.RowKit

/-- A slice of slices of bytes that came in, opened. -/
theorem open_parts {H : Type} {enc : TypeId × Value → H} {W : World} {base : Nat} {held : Bool} {v : Value} {d : DataW H} {p : List MemPlace}
    (hv : ∃ a len cap, v = .slice a len cap) (h : DataW.Trod enc Tryd.prog W base (fun _ => true) held 22 v d p) :
    ∃ L : List (List Int), PartsAt W v L ∧ L.length ≤ maxLen ∧ (∀ j, (L.getD j []).length ≤ maxLen) ∧ ∀ j, Bytes (L.getD j []) := by
  obtain ⟨a, len, cap, rfl⟩ := hv
  obtain ⟨fuel, hf⟩ := h
  have nilB : Bytes [] := fun j => by simp
  rcases Deep.open_int_rows Tryd.underlying22 Tryd.underlying23 Tryd.underlying5 (by kernel_rfl) (by kernel_rfl) hf with ⟨hcs, _⟩ | ⟨x, l, c, A, Ln, C, Z, hcs, _, hl, hm, _, hr⟩
  · simp [Value.cells] at hcs
    obtain ⟨rfl, rfl, rfl⟩ := hcs
    exact ⟨[], .inl ⟨rfl, none, 0, rfl⟩, Nat.zero_le _, fun j => by simp, fun j => by simpa using nilB⟩
  · simp [Value.cells] at hcs
    obtain ⟨rfl, rfl, rfl⟩ := hcs
    have hget : ∀ j, j < len → ((List.range len).map fun r => (Z r).take (Ln r)).getD j [] = (Z j).take (Ln j) := fun j hj => by
      rw [List.getD_eq_getElem?_getD, List.getElem?_map, List.getElem?_range hj]; rfl
    have hout : ∀ j, ¬ j < len → ((List.range len).map fun r => (Z r).take (Ln r)).getD j [] = [] := fun j hj => by
      rw [List.getD_eq_getElem?_getD, List.getElem?_eq_none (by simpa using hj)]; rfl
    have hby : ∀ j, j < len → Bytes ((Z j).take (Ln j)) := fun j hj q => by
      obtain ⟨-, h1, h2, h3, h4, -⟩ := hr j (by omega)
      by_cases hq : q < Ln j
      · rw [List.getD_eq_getElem?_getD, List.getElem?_take, if_pos hq, List.getElem?_eq_getElem (by omega)]
        have := bounds_u8 (h4 _ (List.getElem_mem (l := Z j) (n := q) (by omega)))
        exact ⟨this.1, by have := this.2; show (Z j)[q] < 256; omega⟩
      · rw [List.getD_eq_getElem?_getD, List.getElem?_take, if_neg hq]
        exact ⟨by decide, by decide⟩
    refine ⟨(List.range len).map fun r => (Z r).take (Ln r), ?_, by simp; omega, fun j => ?_, fun j => ?_⟩
    · by_cases hpos : 0 < len
      · obtain ⟨h0, -⟩ := hr 0 (by omega)
        have hsp : x.spot = none := by simpa [Addr.add] using World.cell?_spot h0
        obtain ⟨b, off, spot⟩ := x
        subst hsp
        refine .inr ⟨b, off, cap, by simp, ?_, fun j hj => ?_⟩
        · exact World.block_lt_of_cell? W ⟨b, off, none⟩ (by simpa [Addr.add] using h0)
        · have hj' : j < len := by simpa using hj
          obtain ⟨h1, h2, h3, h4, h5, h6, h7⟩ := hr j (by omega)
          refine ⟨A j, Ln j, C j, by rw [← Addr.add_mid]; exact h1, ?_⟩
          rw [hget j hj']
          have htl : ((Z j).take (Ln j)).length = Ln j := by rw [List.length_take]; omega
          by_cases hp : 0 < Ln j
          · cases hA : A j with
            | none => have := h6 hA; omega
            | some a' =>
              obtain ⟨-, h8⟩ := h7 a' hA
              obtain ⟨b2, o2, rfl, hc⟩ := ints_at (a := a') (k := .u8) (zs := Z j) (w := W) (fun i hi => h8 i (by omega)) (by omega)
              refine .inr ⟨b2, o2, C j, by rw [htl], World.block_lt_of_cell? _ _ (hc 0 (by omega)), fun q hq => ?_⟩
              rw [hc q (by omega), List.getD_eq_getElem?_getD, List.getD_eq_getElem?_getD, List.getElem?_take, if_pos (by omega)]
          · refine .inl ⟨List.eq_nil_of_length_eq_zero (by omega), A j, C j, by rw [show Ln j = 0 by omega], h6⟩
      · obtain rfl : len = 0 := by omega
        exact .inl ⟨rfl, _, _, rfl⟩
    · by_cases hj : j < len
      · rw [hget j hj, List.length_take]
        obtain ⟨-, h1, h2, -⟩ := hr j (by omega)
        omega
      · rw [hout j hj]; exact Nat.zero_le _
    · by_cases hj : j < len
      · rw [hget j hj]; exact hby j hj
      · rw [hout j hj]; exact nilB

end Go.Proofs.YtkjlchfmplcobadDoor
