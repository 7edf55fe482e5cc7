/- The walks of yearref2's small functions: In, Pair, Split, Good, Ones, Wrong. -/
import Derived.Test.YtkjlchfmplcobaeDoorProg
import Derived.Test.YtkjlchfmplcobaeDoorShaRefSum
import Derived.WalkKit
import Derived.WalkSpells
import Derived.WalkLawsBesides
import Derived.Test.YtkjlchfmplcobaeDoorRunAB
namespace Go.Proofs.YtkjlchfmplcobaeDoor
open Go.RowKit

set_option maxRecDepth 100000 in
theorem in_any (zs : List Int) (v : Value) (w : World) (hv : BytesAt w v zs) (hm : zs.length + 1 ≤ 140737488355328) :
    Calls Tryd.prog 45 #[v] w fun e w' => ∃ x, e = .returned x ∧ w'.ownsRow w.heap.size 5 1 x (1 + zs.length) ((0 :: zs).map (Value.int .u8)) ∧ Below w.heap.size w w' := by
  obtain ⟨va, vc, rfl⟩ := hv.form
  obtain ⟨i0, hi, hz0, hz1, hz2⟩ := info_parts Tryd.info5b
  go_enter Tryd.func45, Tryd.ntmps45
  go_wp2_with (at_builtin; refine wpList_append_bytes rfl (.tmp 3) (.tmp 4) 22 rfl w.heap.size 5 i0 (.int .u8 0) Tryd.underlying22 hi hz0 hz1 hz2 rfl _ 1 [.int .u8 0] rfl (World.ownsRow_lit w #[.int .u8 0] 1 (Nat.le_refl _) (by unfold maxLen; omega) rfl) va _ vc zs rfl (hv.below (Nat.le_refl _) ((Below.refl _ _).alloc (Nat.le_refl _) _)) (by unfold maxLen; omega) (by omega) (by simp) ?_; intro x w2 ho hg)
  go_ret
  exact ⟨x, rfl, ho, ((Below.refl _ _).alloc (Nat.le_refl _) _).grown hg (by simp) (fun q h => Nat.le_of_eq (Option.some.inj h))⟩
set_option maxRecDepth 100000 in
theorem pair_any (xs ys : List Int) (v1 v2 : Value) (w : World) (h1 : BytesAt w v1 xs) (h2 : BytesAt w v2 ys) (hm : xs.length + ys.length + 1 ≤ 140737488355328) :
    Calls Tryd.prog 47 #[v1, v2] w fun e w' => ∃ x, e = .returned x ∧ w'.ownsRow w.heap.size 5 1 x (1 + xs.length + ys.length) ((1 :: (xs ++ ys)).map (Value.int .u8)) ∧ Below w.heap.size w w' := by
  obtain ⟨va, vc, rfl⟩ := h1.form
  obtain ⟨ua, uc, rfl⟩ := h2.form
  obtain ⟨i0, hi, hz0, hz1, hz2⟩ := info_parts Tryd.info5b
  go_enter Tryd.func47, Tryd.ntmps47
  go_wp2_with (first | (at_builtin; refine wpList_append_bytes rfl (.tmp 5) (.tmp 6) 22 rfl w.heap.size 5 i0 (.int .u8 0) Tryd.underlying22 hi hz0 hz1 hz2 rfl _ 1 [.int .u8 1] rfl (World.ownsRow_lit w #[.int .u8 1] 1 (Nat.le_refl _) (by unfold maxLen; omega) rfl) va _ vc xs rfl (h1.below (Nat.le_refl _) ((Below.refl _ _).alloc (Nat.le_refl _) _)) (by unfold maxLen; omega) (by omega) (by simp) ?_; intro x w2 ho hg; have hb2 : Below w.heap.size w w2 := ((Below.refl _ _).alloc (Nat.le_refl _) _).grown hg (by simp) (fun q h => Nat.le_of_eq (Option.some.inj h)); have hs2 := hb2.size; clear hg) | (at_builtin; refine wpList_append_bytes rfl (.tmp 7) (.tmp 8) 22 rfl w.heap.size 5 i0 (.int .u8 0) Tryd.underlying22 hi hz0 hz1 hz2 rfl _ _ _ rfl ho ua _ uc ys rfl (h2.below (Nat.le_refl _) hb2) (by unfold maxLen; omega) (by omega) hs2 ?_; intro y w3 ho3 hg3))
  go_ret
  refine ⟨y, rfl, ?_, hb2.grown hg3 hs2 (fun q h => own_block ho h)⟩
  have e : ((1 :: (xs ++ ys)).map (Value.int .u8)) = [Value.int .u8 1] ++ xs.map (Value.int .u8) ++ ys.map (Value.int .u8) := by simp
  rw [e]; exact ho3
set_option maxRecDepth 100000 in
theorem split_any (n : Nat) (w : World) (h1 : 1 ≤ n) (hm : n ≤ 1000000) :
    Calls Tryd.prog 46 #[.int .i64 n] w fun e w' => e = .returned (.int .i64 (splitN n)) ∧ w' = w := by
  go_enter Tryd.func46, Tryd.ntmps46
  go_wp2
  go_loop [3] (fun kv => ∃ k : Nat, 1 ≤ k ∧ k ≤ n ∧ Hid (splitFrom k n = splitN n) ∧ kv = .int .i64 k) (fun kv => n - (intOf kv).toNat)
  case atStart => exact ⟨1, by omega, h1, rfl, rfl⟩
  case round =>
    obtain ⟨k, hk1, hkn, HS, rfl⟩ := hrel
    by_cases hlt : 2 * k < n
    · have HS2 : Hid (splitFrom (2 * k) n = splitN n) := by rw [← HS.out]; exact (splitFrom_next (by omega) hlt).symm
      have i1 : 2 * (k : Int) < (n : Int) := by omega
      go_wp2
      go_round
      case rel => exact ⟨2 * k, by omega, by omega, HS2, by go_num⟩
      case measure => simp [intOf]; omega
    · have HE : splitN n = k := by rw [← HS.out]; exact splitFrom_end hlt
      have i1 : ¬ 2 * (k : Int) < (n : Int) := by omega
      go_wp2
      go_ret
      exact ⟨by first | rfl | (rw [HE]; rfl), rfl⟩
end Go.Proofs.YtkjlchfmplcobaeDoor
