/- The walk of yearref2.Ones. -/
import Derived.Test.YtkjlchfmplcobaaDoorProg
import Derived.Test.YtkjlchfmplcobaaDoorRunAB
import Derived.WalkKit
import Derived.WalkSpells
import Derived.WalkLawsBesides
namespace Go.Proofs.YtkjlchfmplcobaaDoor
open Go.RowKit

set_option maxRecDepth 100000 in
theorem refOnes_any (n : Nat) (w : World) (hm : n ≤ 1000000) :
    Calls Tryd.prog 66 #[.int .i64 n] w fun e w' => e = .returned (.int .i64 (onesN n)) ∧ w' = w := by
  have hon : ∀ m, onesN m ≤ m := fun m => by
    induction m using Nat.strongRecOn with
    | ind m ih =>
      by_cases h : m = 0
      · subst h; rw [onesN_zero]; exact Nat.le_refl _
      · rw [onesN_more h]
        have := ih (m / 2) (by omega)
        omega
  have hN := hon n
  go_enter Tryd.func66, Tryd.ntmps66
  go_wp2
  go_loop [0, 3] (fun nv kv => ∃ r k : Nat, r ≤ n ∧ Hid (onesN n = k + onesN r) ∧ nv = .int .i64 r ∧ kv = .int .i64 k) (fun nv _ => (intOf nv).toNat)
  case atStart => exact ⟨n, 0, Nat.le_refl _, (by show onesN n = 0 + onesN n; omega), rfl, rfl⟩
  case round =>
    obtain ⟨r, k, hr, HK, rfl, rfl⟩ := hrel
    have hk : k ≤ n := by have := HK.out; omega
    by_cases h0 : r = 0
    · subst h0
      have HE : onesN n = k := by rw [HK.out, onesN_zero]; rfl
      clear HK
      go_wp2
      go_ret
      exact ⟨by first | rfl | (rw [HE]; rfl), rfl⟩
    · have HK2 : Hid (onesN n = (k + r % 2) + onesN (r / 2)) := by
        show onesN n = (k + r % 2) + onesN (r / 2)
        rw [HK.out, onesN_more h0]; omega
      clear HK
      have i1 : (0 : Int) < (r : Int) := by omega
      have i2 : Int.tmod (r : Int) 2 = ((r % 2 : Nat) : Int) := by rw [Int.tmod_eq_emod_of_nonneg (by omega)]; omega
      have i3 : Int.tdiv (r : Int) 2 = ((r / 2 : Nat) : Int) := by rw [Int.tdiv_eq_ediv_of_nonneg (by omega)]; omega
      go_wp2
      go_round
      case rel => exact ⟨r / 2, k + r % 2, by omega, HK2, by go_num, by go_num⟩
      case measure => simp [intOf]; omega

end Go.Proofs.YtkjlchfmplcobaaDoor
