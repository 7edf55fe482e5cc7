/- The walks of yearref2's small functions: In, Pair, Split, Good, Ones, Wrong. -/
import Derived.Test.YtkjlchfmplcobaaDoorProg
import Derived.Test.YtkjlchfmplcobaaDoorShaRefSum
import Derived.WalkKit
import Derived.WalkSpells
import Derived.WalkLawsBesides
import Derived.Test.YtkjlchfmplcobaaDoorRunAB
namespace Go.Proofs.YtkjlchfmplcobaaDoor
open Go.RowKit

set_option maxRecDepth 100000 in
theorem in_any (zs : List Int) (v : Value) (w : World) (hv : BytesAt w v zs) (hm : zs.length + 1 ≤ 140737488355328) :
    Calls Tryd.prog 18 #[v] w fun e w' => ∃ x, e = .returned x ∧ w'.ownsRow w.heap.size 5 1 x (1 + zs.length) ((0 :: zs).map (Value.int .u8)) ∧ Below w.heap.size w w' := by
  obtain ⟨va, vc, rfl⟩ := hv.form
  obtain ⟨i0, hi, hz0, hz1, hz2⟩ := info_parts Tryd.info5b
  go_enter Tryd.func18, Tryd.ntmps18
  go_wp2_with (at_builtin; refine wpList_append_bytes rfl (.tmp 3) (.tmp 4) 22 rfl w.heap.size 5 i0 (.int .u8 0) Tryd.underlying22 hi hz0 hz1 hz2 rfl _ 1 [.int .u8 0] rfl (World.ownsRow_lit w #[.int .u8 0] 1 (Nat.le_refl _) (by unfold maxLen; omega) rfl) va _ vc zs rfl (hv.below (Nat.le_refl _) ((Below.refl _ _).alloc (Nat.le_refl _) _)) (by unfold maxLen; omega) (by omega) (by simp) ?_; intro x w2 ho hg)
  go_ret
  exact ⟨x, rfl, ho, ((Below.refl _ _).alloc (Nat.le_refl _) _).grown hg (by simp) (fun q h => Nat.le_of_eq (Option.some.inj h))⟩
set_option maxRecDepth 100000 in
theorem pair_any (xs ys : List Int) (v1 v2 : Value) (w : World) (h1 : BytesAt w v1 xs) (h2 : BytesAt w v2 ys) (hm : xs.length + ys.length + 1 ≤ 140737488355328) :
    Calls Tryd.prog 20 #[v1, v2] w fun e w' => ∃ x, e = .returned x ∧ w'.ownsRow w.heap.size 5 1 x (1 + xs.length + ys.length) ((1 :: (xs ++ ys)).map (Value.int .u8)) ∧ Below w.heap.size w w' := by
  obtain ⟨va, vc, rfl⟩ := h1.form
  obtain ⟨ua, uc, rfl⟩ := h2.form
  obtain ⟨i0, hi, hz0, hz1, hz2⟩ := info_parts Tryd.info5b
  go_enter Tryd.func20, Tryd.ntmps20
  go_wp2_with (first | (at_builtin; refine wpList_append_bytes rfl (.tmp 5) (.tmp 6) 22 rfl w.heap.size 5 i0 (.int .u8 0) Tryd.underlying22 hi hz0 hz1 hz2 rfl _ 1 [.int .u8 1] rfl (World.ownsRow_lit w #[.int .u8 1] 1 (Nat.le_refl _) (by unfold maxLen; omega) rfl) va _ vc xs rfl (h1.below (Nat.le_refl _) ((Below.refl _ _).alloc (Nat.le_refl _) _)) (by unfold maxLen; omega) (by omega) (by simp) ?_; intro x w2 ho hg; have hb2 : Below w.heap.size w w2 := ((Below.refl _ _).alloc (Nat.le_refl _) _).grown hg (by simp) (fun q h => Nat.le_of_eq (Option.some.inj h)); have hs2 := hb2.size; clear hg) | (at_builtin; refine wpList_append_bytes rfl (.tmp 7) (.tmp 8) 22 rfl w.heap.size 5 i0 (.int .u8 0) Tryd.underlying22 hi hz0 hz1 hz2 rfl _ _ _ rfl ho ua _ uc ys rfl (h2.below (Nat.le_refl _) hb2) (by unfold maxLen; omega) (by omega) hs2 ?_; intro y w3 ho3 hg3))
  go_ret
  refine ⟨y, rfl, ?_, hb2.grown hg3 hs2 (fun q h => own_block ho h)⟩
  have e : ((1 :: (xs ++ ys)).map (Value.int .u8)) = [Value.int .u8 1] ++ xs.map (Value.int .u8) ++ ys.map (Value.int .u8) := by simp
  rw [e]; exact ho3
set_option maxRecDepth 100000 in
theorem split_any (n : Nat) (w : World) (h1 : 1 ≤ n) (hm : n ≤ 1000000) :
    Calls Tryd.prog 51 #[.int .i64 n] w fun e w' => e = .returned (.int .i64 (splitN n)) ∧ w' = w := by
  go_enter Tryd.func51, Tryd.ntmps51
  go_wp2
  go_loop [3] (fun kv => ∃ k : Nat, 1 ≤ k ∧ k ≤ n ∧ Hid (splitFrom k n = splitN n) ∧ kv = .int .i64 k) (fun kv => n - (intOf kv).toNat)
  case atStart => exact ⟨1, by omega, h1, rfl, rfl⟩
  case round =>
    obtain ⟨k, hk1, hkn, HS, rfl⟩ := hrel
    by_cases hlt : 2 * k < n
    · have HS2 : Hid (splitFrom (2 * k) n = splitN n) := by rw [← HS.out]; exact (splitFrom_next (by omega) hlt).symm
      have i1 : 2 * (k : Int) < (n : Int) := by omega
      go_wp2
      go_round
      case rel => exact ⟨2 * k, by omega, by omega, HS2, by go_num⟩
      case measure => simp [intOf]; omega
    · have HE : splitN n = k := by rw [← HS.out]; exact splitFrom_end hlt
      have i1 : ¬ 2 * (k : Int) < (n : Int) := by omega
      go_wp2
      go_ret
      exact ⟨by first | rfl | (rw [HE]; rfl), rfl⟩
set_option maxRecDepth 100000 in
theorem good_any (L : List (List Int)) (v : Value) (w : World) (hv : PartsAt w v L) (hm : L.length ≤ maxLen) (hm2 : ∀ j, (L.getD j []).length ≤ maxLen) :
    Calls Tryd.prog 56 #[v] w fun e w' => e = .returned (.bool (goodL L)) ∧ w' = w := by
  obtain ⟨a0, c0, rfl, hcell⟩ := hv.form
  unfold maxLen at hm
  go_enter Tryd.func56, Tryd.ntmps56
  go_wp2
  go_loop [7] (fun i => ∃ k : Nat, k ≤ L.length ∧ i = .int .i64 k ∧ Hid (∀ j, j < k → (L.getD j []).length = 32)) (fun i => L.length - (intOf i).toNat)
  case atStart => exact ⟨0, Nat.zero_le _, rfl, fun j hj => absurd hj (Nat.not_lt_zero _)⟩
  case round =>
    obtain ⟨k, hk, rfl, HG⟩ := hrel
    by_cases hlt : k < L.length
    · obtain ⟨b, off, rfl, hb, hc⟩ : ∃ b off, a0 = some ⟨b, off, none⟩ ∧ b < w.heap.size ∧ ∀ j, j < L.length → ∃ a c, w.cell? ⟨b, off + j, none⟩ = some (.slice a (L.getD j []).length c) ∧ BytesAt w (.slice a (L.getD j []).length c) (L.getD j []) := by
        rcases hcell with h | h
        · omega
        · exact h
      obtain ⟨pa, pc, hcj, -⟩ := hc k hlt
      have hl := hm2 k
      unfold maxLen at hl
      have HB : Hid ((L.getD k []).length ≠ 32 → goodL L = false) := goodL_bad hlt
      have HN : Hid ((L.getD k []).length = 32 → ∀ j, j < k + 1 → (L.getD j []).length = 32) := fun h j hj => by
        by_cases e : j = k
        · rw [e]; exact h
        · exact HG.out j (by omega)
      clear hcell hc hv HG hm2
      generalize (L.getD k []).length = m at *
      by_cases h32 : m = 32
      · have HN' : Hid (∀ j, j < k + 1 → (L.getD j []).length = 32) := HN.out h32
        clear HN HB
        subst h32
        go_wp2
        go_round
        case rel => exact ⟨k + 1, by omega, by go_num, HN'⟩
        case measure => simp [intOf]; omega
      · have HB' := HB.out h32
        have i1 : (m : Int) ≠ 32 := by omega
        clear HN HB
        go_wp2
        go_ret
        exact ⟨by first | rfl | (rw [HB']; rfl), rfl⟩
    · obtain rfl : k = L.length := by omega
      have HA := goodL_all HG.out
      clear HG
      go_wp2
      go_ret
      exact ⟨by first | rfl | (rw [HA]; rfl), rfl⟩

end Go.Proofs.YtkjlchfmplcobaaDoor
