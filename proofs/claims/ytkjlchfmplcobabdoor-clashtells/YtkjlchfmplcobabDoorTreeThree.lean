/- Three leaves, as a law lays them. -/
import Derived.Test.YtkjlchfmplcobabDoorProg
import Derived.Test.YtkjlchfmplcobabDoorTreeLawBase
import Derived.WalkKit
import Derived.WalkSpells
import Derived.WalkLawsBesides
namespace Go.Proofs.YtkjlchfmplcobabDoor
open Go.RowKit

theorem lit_bytes (w : World) (z : Int) (t : TypeId) (h0 : 0 ≤ z) (h1 : z < 256) : Some' (w.alloc (.cells #[.int .u8 z] t)) (.slice (some ⟨w.heap.size, 0, none⟩) 1 1) [z] :=
  ⟨.inr ⟨w.heap.size, 0, 1, rfl, by simp, fun j hj => by
    obtain rfl : j = 0 := by simp at hj; omega
    exact new_cell _ _ _ 0 (by simp)⟩, bytes_cons h0 h1 nil_bytes, by unfold maxLen; simp⟩

theorem three_at (w : World) : Below w.heap.size w ((((w.alloc (.cells #[.int .u8 1] 5)).alloc (.cells #[.int .u8 2] 5)).alloc (.cells #[.int .u8 3] 5)).alloc (.cells #[.slice (some ⟨w.heap.size, 0, none⟩) 1 1, .slice (some ⟨w.heap.size + 1, 0, none⟩) 1 1, .slice (some ⟨w.heap.size + 1 + 1, 0, none⟩) 1 1] 24)) ∧ Lists ((((w.alloc (.cells #[.int .u8 1] 5)).alloc (.cells #[.int .u8 2] 5)).alloc (.cells #[.int .u8 3] 5)).alloc (.cells #[.slice (some ⟨w.heap.size, 0, none⟩) 1 1, .slice (some ⟨w.heap.size + 1, 0, none⟩) 1 1, .slice (some ⟨w.heap.size + 1 + 1, 0, none⟩) 1 1] 24)) (some ⟨w.heap.size + 1 + 1 + 1, 0, none⟩) 3 3 three := by
  have hB0 : Below w.heap.size w ((((w.alloc (.cells #[.int .u8 1] 5)).alloc (.cells #[.int .u8 2] 5)).alloc (.cells #[.int .u8 3] 5)).alloc (.cells #[.slice (some ⟨w.heap.size, 0, none⟩) 1 1, .slice (some ⟨w.heap.size + 1, 0, none⟩) 1 1, .slice (some ⟨w.heap.size + 1 + 1, 0, none⟩) 1 1] 24)) := ((((Below.refl _ _).alloc (Nat.le_refl _) _).alloc (by simp) _).alloc (by simp; omega) _).alloc (by simp; omega) _
  refine ⟨hB0, ?_⟩
  have s1 := (lit_bytes w 1 5 (by decide) (by decide)).below (((Below.refl _ _).alloc (by simp) (.cells #[.int .u8 2] 5)).alloc (by simp) (.cells #[.int .u8 3] 5))
  have s2 := (lit_bytes (w.alloc (.cells #[.int .u8 1] 5)) 2 5 (by decide) (by decide)).below ((Below.refl _ _).alloc (by simp) (.cells #[.int .u8 3] 5))
  have s3 := lit_bytes ((w.alloc (.cells #[.int .u8 1] 5)).alloc (.cells #[.int .u8 2] 5)) 3 5 (by decide) (by decide)
  have z1 : (w.alloc (.cells #[.int .u8 1] 5)).heap.size = w.heap.size + 1 := by simp
  have z2 : ((w.alloc (.cells #[.int .u8 1] 5)).alloc (.cells #[.int .u8 2] 5)).heap.size = w.heap.size + 1 + 1 := by simp
  rw [z1] at s2
  rw [z2] at s3
  have z3 : (((w.alloc (.cells #[.int .u8 1] 5)).alloc (.cells #[.int .u8 2] 5)).alloc (.cells #[.int .u8 3] 5)).heap.size = w.heap.size + 1 + 1 + 1 := by simp
  generalize ((w.alloc (.cells #[.int .u8 1] 5)).alloc (.cells #[.int .u8 2] 5)).alloc (.cells #[.int .u8 3] 5) = W3 at *
  have hA : Below W3.heap.size W3 (W3.alloc (.cells #[.slice (some ⟨w.heap.size, 0, none⟩) 1 1, .slice (some ⟨w.heap.size + 1, 0, none⟩) 1 1, .slice (some ⟨w.heap.size + 1 + 1, 0, none⟩) 1 1] 24)) := (Below.refl _ _).alloc (Nat.le_refl _) _
  have n0 := new_cell W3 24 #[.slice (some ⟨w.heap.size, 0, none⟩) 1 1, .slice (some ⟨w.heap.size + 1, 0, none⟩) 1 1, .slice (some ⟨w.heap.size + 1 + 1, 0, none⟩) 1 1] 0 (by simp)
  have n1 := new_cell W3 24 #[.slice (some ⟨w.heap.size, 0, none⟩) 1 1, .slice (some ⟨w.heap.size + 1, 0, none⟩) 1 1, .slice (some ⟨w.heap.size + 1 + 1, 0, none⟩) 1 1] 1 (by simp)
  have n2 := new_cell W3 24 #[.slice (some ⟨w.heap.size, 0, none⟩) 1 1, .slice (some ⟨w.heap.size + 1, 0, none⟩) 1 1, .slice (some ⟨w.heap.size + 1 + 1, 0, none⟩) 1 1] 2 (by simp)
  rw [z3] at n0 n1 n2
  refine ⟨rfl, .inr ⟨_, 0, 3, rfl, by simp; omega, fun j hj => ?_⟩, by omega, by unfold maxLen; omega, (fun h => by cases h), bytes_mem (fun x hx => ?_), short_mem (fun x hx => ?_)⟩
  · have hj' : j < 3 := hj
    have h : j = 0 ∨ j = 1 ∨ j = 2 := by omega
    rcases h with rfl | rfl | rfl
    · exact ⟨_, _, _, n0, s1.at'.below (Nat.le_refl _) hA⟩
    · exact ⟨_, _, _, n1, s2.at'.below (Nat.le_refl _) hA⟩
    · exact ⟨_, _, _, n2, s3.at'.below (Nat.le_refl _) hA⟩
  · simp only [three, List.mem_cons, List.not_mem_nil, or_false] at hx
    rcases hx with rfl | rfl | rfl
    · exact s1.bytes
    · exact s2.bytes
    · exact s3.bytes
  · simp only [three, List.mem_cons, List.not_mem_nil, or_false] at hx
    rcases hx with rfl | rfl | rfl <;> (unfold maxLen; simp)

end Go.Proofs.YtkjlchfmplcobabDoor
