/- The walk of yearref1.Same: whether two slices hold the same bytes. -/
import Derived.Test.YtkjlchfmplcobacProg
import Derived.Test.YtkjlchfmplcobacByteMem
import Derived.WalkKit
import Derived.WalkSpells
import Derived.WalkLawsBesides
import Derived.Deep.QuietTactic
import Derived.BigQuiet
namespace Go.Proofs.Ytkjlchfmplcobac
open Go.RowKit

theorem drewN_two (w : World) (m n : Nat) : (w.drewN m).drewN n = w.drewN (m + n) := by simp [World.drewN, Nat.add_assoc]

set_option maxRecDepth 100000 in
set_option maxHeartbeats 400000 in
theorem same_len (a1 a2 : Option Addr) (n1 n2 c1 c2 : Nat) (w : World) (h : n1 ≠ n2) :
    Calls Try.prog 11 #[.slice a1 n1 c1, .slice a2 n2 c2] w fun e w' => e = .returned (.bool false) ∧ w' = w := by
  have h' : ((n1 : Int) != (n2 : Int)) = true := by rw [bne_iff_ne]; omega
  go_enter Try.func11, Try.ntmps11
  go_wp2
  go_ret
  exact ⟨rfl, rfl⟩

set_option maxRecDepth 100000 in
set_option maxHeartbeats 400000 in
theorem same_zero (a1 a2 : Option Addr) (c1 c2 : Nat) (w : World) :
    Calls Try.prog 11 #[.slice a1 0 c1, .slice a2 0 c2] w fun e w' => e = .returned (.bool true) ∧ w' = w := by
  go_enter Try.func11, Try.ntmps11
  go_wp2
  go_loop [13] (fun i => i = .int .i64 0) (fun _ => 0)
  case atStart => rfl
  case round =>
    subst hrel
    go_wp2
    go_ret
    exact ⟨rfl, rfl⟩

set_option maxRecDepth 100000 in
set_option maxHeartbeats 400000 in
theorem same_eq (l1 l2 : List Int) (n b1 o1 c1 b2 o2 c2 : Nat) (w : World) (hl1 : Hid (l1.length = n)) (hl2 : Hid (l2.length = n)) (hm : n ≤ maxLen) (h1 : ∀ j, j < n → w.cell? ⟨b1, o1 + j, none⟩ = some (.int .u8 (l1.getD j 0))) (h2 : ∀ j, j < n → w.cell? ⟨b2, o2 + j, none⟩ = some (.int .u8 (l2.getD j 0))) :
    Calls Try.prog 11 #[.slice (some ⟨b1, o1, none⟩) n c1, .slice (some ⟨b2, o2, none⟩) n c2] w fun e w' => e = .returned (.bool (decide (l1 = l2))) ∧ ∃ n, w' = w.drewN n := by
  unfold maxLen at hm
  have h' : ((n : Int) != (n : Int)) = false := by simp
  go_enter Try.func11, Try.ntmps11
  go_wp2
  go_loopw [13] (fun i wr => ∃ k : Nat, k ≤ n ∧ i = .int .i64 k ∧ Hid (∀ j, j < k → l1.getD j 0 = l2.getD j 0) ∧ ∃ n, wr = w.drewN n) (fun i _ => n - (intOf i).toNat)
  case atStart => exact ⟨0, Nat.zero_le _, rfl, fun j hj => absurd hj (by omega), 0, rfl⟩
  case round =>
    obtain ⟨k, hk, rfl, HE, m, rfl⟩ := hrel
    by_cases hlt : k < n
    · have d1 := h1 k hlt
      have d2 := h2 k hlt
      clear h1 h2
      by_cases hx : l1.getD k 0 = l2.getD k 0
      · have HE2 : Hid (∀ j, j < k + 1 → l1.getD j 0 = l2.getD j 0) := fun j hj => by
          by_cases hjk : j = k
          · rw [hjk]; exact hx
          · exact HE.out j (by omega)
        rw [hx] at d1
        clear hx HE
        generalize l2.getD k 0 = x at *
        have hb : (x != x) = false := by simp
        go_wp2
        go_quiet (fail)
        go_wp2
        go_roundw
        case rel => exact ⟨k + 1, by omega, by go_num, HE2, m + nq, rfl⟩
        case measure => simp [intOf]; omega
      · have HN : Hid (decide (l1 = l2) = false) := decide_eq_false (fun e => hx (by rw [e]))
        have hb : (l1.getD k 0 != l2.getD k 0) = true := by rw [bne_iff_ne]; exact hx
        clear hx HE
        generalize l1.getD k 0 = x at *
        generalize l2.getD k 0 = y at *
        go_wp2
        go_quiet (fail)
        go_wp2
        go_ret
        exact ⟨by rw [HN.out]; rfl, m + nq, drewN_two _ _ _⟩
    · have HN : Hid (decide (l1 = l2) = true) := decide_eq_true (by
        have e1 := hl1.out
        have e2 := hl2.out
        apply List.ext_getElem (by omega)
        intro j g1 g2
        have := HE.out j (by omega)
        rw [List.getD_eq_getElem?_getD, List.getElem?_eq_getElem g1, List.getD_eq_getElem?_getD, List.getElem?_eq_getElem g2] at this
        exact this)
      clear h1 h2 HE
      go_wp2
      go_ret
      exact ⟨by rw [HN.out]; rfl, _, rfl⟩

theorem same_any (l1 l2 : List Int) (v1 v2 : Value) (w : World) (h1 : BytesAt w v1 l1) (h2 : BytesAt w v2 l2) (hm : l1.length ≤ maxLen) :
    Calls Try.prog 11 #[v1, v2] w fun e w' => e = .returned (.bool (decide (l1 = l2))) ∧ ∃ n, w' = w.drewN n := by
  have form : ∀ v l, BytesAt w v l → ∃ a c, v = .slice a l.length c ∧ (l.length = 0 ∨ ∃ b o, a = some ⟨b, o, none⟩ ∧ ∀ j, j < l.length → w.cell? ⟨b, o + j, none⟩ = some (.int .u8 (l.getD j 0))) := fun v l h => by
    rcases h with ⟨rfl, a, c, rfl, -⟩ | ⟨b, o, c, rfl, -, hc⟩
    · exact ⟨a, c, rfl, .inl rfl⟩
    · exact ⟨_, _, rfl, .inr ⟨b, o, rfl, hc⟩⟩
  obtain ⟨a1, c1, rfl, k1⟩ := form v1 l1 h1
  obtain ⟨a2, c2, rfl, k2⟩ := form v2 l2 h2
  by_cases hl : l1.length = l2.length
  · rcases k1 with k1 | ⟨b1, o1, rfl, k1⟩
    · have e1 : l1 = [] := List.eq_nil_of_length_eq_zero k1
      have e2 : l2 = [] := List.eq_nil_of_length_eq_zero (by omega)
      subst e1 e2
      refine (same_zero a1 a2 c1 c2 w).mono ?_
      rintro e w' ⟨rfl, rfl⟩
      exact ⟨rfl, 0, rfl⟩
    · rcases k2 with k2 | ⟨b2, o2, rfl, k2⟩
      · have e2 : l2 = [] := List.eq_nil_of_length_eq_zero k2
        have e1 : l1 = [] := List.eq_nil_of_length_eq_zero (by omega)
        subst e1 e2
        refine (same_zero _ a2 c1 c2 w).mono ?_
        rintro e w' ⟨rfl, rfl⟩
        exact ⟨rfl, 0, rfl⟩
      · rw [← hl]
        exact same_eq l1 l2 l1.length b1 o1 c1 b2 o2 c2 w rfl hl.symm hm k1 (fun j hj => k2 j (by omega))
  · refine (same_len a1 a2 l1.length l2.length c1 c2 w hl).mono ?_
    rintro e w' ⟨rfl, rfl⟩
    refine ⟨?_, 0, rfl⟩
    rw [decide_eq_false (fun e => hl (by rw [e]))]

end Go.Proofs.Ytkjlchfmplcobac
