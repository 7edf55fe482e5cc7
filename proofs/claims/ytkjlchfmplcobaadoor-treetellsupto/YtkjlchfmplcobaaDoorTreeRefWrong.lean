/- The walk of yearref2.Wrong. -/
import Derived.Test.YtkjlchfmplcobaaDoorProg
import Derived.Test.YtkjlchfmplcobaaDoorShaSame
import Derived.Test.YtkjlchfmplcobaaDoorTreeSame
import Derived.Test.YtkjlchfmplcobaaDoorShaSum
import Derived.Test.YtkjlchfmplcobaaDoorTreeRefMth
import Derived.WalkKit
import Derived.WalkSpells
import Derived.WalkLawsBesides
import Derived.Deep.QuietTactic
import Derived.BigQuiet
import Derived.Test.YtkjlchfmplcobaaDoorRunAB
import Derived.Test.YtkjlchfmplcobaaDoorTreeRefOnes
namespace Go.Proofs.YtkjlchfmplcobaaDoor
open Go.RowKit

set_option maxRecDepth 100000 in
set_option maxHeartbeats 1000000 in
theorem refWrong_any (L : List (List Int)) (v : Value) (w : World) (hv : PartsAt w v L) (hm : L.length ≤ maxLen) (hs : ∀ j, (L.getD j []).length ≤ maxLen) :
    Calls Tryd.prog 16 #[v] w fun e w' => e = .returned (.agg #[.int .i64 (wrongL L).1, .int .i64 (wrongL L).2]) ∧ Below w.heap.size w w' := by
  obtain ⟨a0, c0, rfl, hcell⟩ := hv.form
  unfold maxLen at hm
  by_cases h100 : 100 < L.length
  · have HW : wrongL L = (5, 0) := if_pos h100
    rw [HW]
    have i1 : (100 : Int) < (L.length : Int) := by omega
    go_enter Tryd.func16, Tryd.ntmps16
    go_wp2
    exact bodyPost_ret (v := .agg #[.int .i64 5, .int .i64 0]) (by simp [results, Tryd.results16, go_sem]) rfl ⟨rfl, (Below.refl _ _).alloc (Nat.le_refl _) _⟩
  · have HW : wrongL L = wrongFrom L 0 := if_neg h100
    rw [HW]
    clear HW
    have i1 : ¬ (100 : Int) < (L.length : Int) := by omega
    go_enter Tryd.func16, Tryd.ntmps16
    go_wp2
    go_loop [11] (fun i => ∃ k : Nat, k ≤ L.length ∧ i = .int .i64 k ∧ Hid (∀ j, j < k → (L.getD j []).length ≤ 200)) (fun i => L.length - (intOf i).toNat)
    case atStart => exact ⟨0, Nat.zero_le _, rfl, fun j hj => absurd hj (Nat.not_lt_zero _)⟩
    case round =>
      obtain ⟨k, hk, rfl, HG⟩ := hrel
      by_cases hlt : k < L.length
      · obtain ⟨b, off, rfl, hb, hc⟩ := hcell.resolve_left (by omega)
        obtain ⟨pa, pc, hcj, -⟩ := hc k hlt
        have hcj' : (w.alloc (.cells #[.int .i64 0, .int .i64 0] 37)).cell? ⟨b, off + k, none⟩ = some (.slice pa (L.getD k []).length pc) := by rw [old_cell _ _ _ _ hb]; exact hcj
        have hl := hs k
        unfold maxLen at hl
        have HB : Hid (200 < (L.getD k []).length → wrongFrom L 0 = (4, ((0 + k : Nat) : Int))) := wrong_at 0 hlt HG.out
        have HN : Hid ((L.getD k []).length ≤ 200 → ∀ j, j < k + 1 → (L.getD j []).length ≤ 200) := fun h j hj => by
          by_cases e : j = k
          · rw [e]; exact h
          · exact HG.out j (by omega)
        clear hcell hc hv HG hs hcj
        generalize (L.getD k []).length = m at *
        have i2 : (k : Int) < (L.length : Int) := by omega
        by_cases h200 : 200 < m
        · have HB' := HB.out h200
          rw [Nat.zero_add] at HB'
          have HBB : Hid (wrongFrom L 0 = (4, (k : Int))) := HB'
          clear HN HB HB'
          have i3 : (200 : Int) < (m : Int) := by omega
          go_wp2
          refine bodyPost_ret (v := .agg #[.int .i64 4, .int .i64 k]) (by simp [results, Tryd.results16, go_sem]) rfl ⟨by rw [HBB.out], (Below.refl _ _).alloc (Nat.le_refl _) _⟩
        · have HN' : Hid (∀ j, j < k + 1 → (L.getD j []).length ≤ 200) := HN.out (by omega)
          clear HN HB
          have i3 : ¬ (200 : Int) < (m : Int) := by omega
          go_wp2
          go_round
          case rel => exact ⟨k + 1, by omega, by go_num, HN'⟩
          case measure => simp [intOf]; omega
      · obtain rfl : k = L.length := by omega
        have HA : Hid (wrongFrom L 0 = (0, 0)) := wrong_none 0 HG.out
        clear HG
        go_wp2
        exact bodyPost_ret (v := .agg #[.int .i64 0, .int .i64 0]) (by simp [results, Tryd.results16, go_sem]) rfl ⟨by rw [HA.out], (Below.refl _ _).alloc (Nat.le_refl _) _⟩

end Go.Proofs.YtkjlchfmplcobaaDoor
