/- The walk of yearref2.Same: two lists of bytes' lists. -/
import Derived.Test.YtkjlchfmplcobaaDoorProg
import Derived.Test.YtkjlchfmplcobaaDoorShaSame
import Derived.Test.YtkjlchfmplcobaaDoorRunAB
import Derived.WalkKit
import Derived.WalkSpells
import Derived.WalkLawsBesides
import Derived.Deep.QuietTactic
import Derived.BigQuiet
namespace Go.Proofs.YtkjlchfmplcobaaDoor
open Go.RowKit

set_option maxRecDepth 100000 in
set_option maxHeartbeats 1000000 in
theorem refSame_any (L1 L2 : List (List Int)) (v1 v2 : Value) (w : World) (h1 : PartsAt w v1 L1) (h2 : PartsAt w v2 L2) (hm1 : L1.length ≤ maxLen) (hs1 : ∀ j, (L1.getD j []).length ≤ maxLen) :
    Calls Tryd.prog 30 #[v1, v2] w fun e w' => e = .returned (.bool (decide (L1 = L2))) ∧ ∃ q, w' = w.drewN q := by
  obtain ⟨a1, c1, rfl, hc1⟩ := h1.form
  obtain ⟨a2, c2, rfl, hc2⟩ := h2.form
  unfold maxLen at hm1
  by_cases hne : L1.length = L2.length
  · have hq : ((L1.length : Int) != (L2.length : Int)) = false := by rw [hne]; simp
    obtain ⟨n, hn⟩ : ∃ n, L1.length = n := ⟨_, rfl⟩
    have hn2 : L2.length = n := by omega
    have HN1 : Hid (L1.length = n) := hn
    have HN2 : Hid (L2.length = n) := hn2
    rw [hn] at hm1 hc1 hq
    rw [hn2] at hc2 hq
    rw [hn, hn2]
    clear hn hn2 hne h1 h2
    go_enter Tryd.func30, Tryd.ntmps30
    go_wp2
    go_loopw [13] (fun i wr => ∃ k : Nat, k ≤ n ∧ i = .int .i64 k ∧ Hid (∀ j, j < k → L1.getD j [] = L2.getD j []) ∧ Dr w wr) (fun i _ => n - (intOf i).toNat)
    case atStart => exact ⟨0, Nat.zero_le _, rfl, (fun j hj => absurd hj (Nat.not_lt_zero _)), ⟨0, rfl⟩⟩
    case round =>
      obtain ⟨k, hk, rfl, HE, HD⟩ := hrel
      by_cases hlt : k < n
      · obtain ⟨b1, o1, rfl, -, hp1⟩ := hc1.resolve_left (by omega)
        obtain ⟨b2, o2, rfl, -, hp2⟩ := hc2.resolve_left (by omega)
        obtain ⟨pa, pc, x1, B1⟩ := hp1 k hlt
        obtain ⟨ra, rc, x2, B2⟩ := hp2 k hlt
        have y1 : wr.cell? ⟨b1, o1 + k, none⟩ = some (.slice pa (L1.getD k []).length pc) := by obtain ⟨q, e⟩ := HD; rw [e]; exact x1
        have y2 : wr.cell? ⟨b2, o2 + k, none⟩ = some (.slice ra (L2.getD k []).length rc) := by obtain ⟨q, e⟩ := HD; rw [e]; exact x2
        have D1 : ∀ q, BytesAt (wr.drewN q) (.slice pa (L1.getD k []).length pc) (L1.getD k []) := fun q => by obtain ⟨q1, e⟩ := HD; rw [e]; exact B1.below (Nat.le_refl _) (below_drewN (below_drewN (Below.refl _ _) q1) q)
        have D2 : ∀ q, BytesAt (wr.drewN q) (.slice ra (L2.getD k []).length rc) (L2.getD k []) := fun q => by obtain ⟨q1, e⟩ := HD; rw [e]; exact B2.below (Nat.le_refl _) (below_drewN (below_drewN (Below.refl _ _) q1) q)
        have hl1 := hs1 k
        have HN : Hid (L1.getD k [] = L2.getD k [] → ∀ j, j < k + 1 → L1.getD j [] = L2.getD j []) := fun h j hj => by
          by_cases e : j = k
          · rw [e]; exact h
          · exact HE.out j (by omega)
        have HF : Hid (L1.getD k [] ≠ L2.getD k [] → decide (L1 = L2) = false) := fun h => by
          rw [decide_eq_false_iff_not]; intro e; exact h (by rw [e])
        clear hc1 hc2 hp1 hp2 x1 x2 B1 B2 HE hs1
        generalize L1.getD k [] = z1 at *
        generalize L2.getD k [] = z2 at *
        have i1 : (k : Int) < (n : Int) := by omega
        by_cases hzz : z1 = z2
        · have hd : decide (z1 = z2) = true := by simpa using hzz
          have HN' : Hid (∀ j, j < k + 1 → L1.getD j [] = L2.getD j []) := HN.out hzz
          have HS : ∀ q, Calls Tryd.prog 9 #[.slice pa z1.length pc, .slice ra z2.length rc] (wr.drewN q) (fun e w' => e = .returned (.bool true) ∧ ∃ m, w' = (wr.drewN q).drewN m) := fun q => by
            have := same_any z1 z2 _ _ _ (D1 q) (D2 q) hl1
            rwa [hd] at this
          clear HN HF hd hzz D1 D2
          go_wp2_with fail
          go_quiet ((go_at_call 9; exact Calls.quiet_of (HS _)))
          go_wp2_with fail
          go_roundw
          case rel => exact ⟨k + 1, by omega, by go_num, HN', HD.step _⟩
          case measure => simp [intOf]; omega
        · have hd : decide (z1 = z2) = false := by simpa using hzz
          have HF' : Hid (decide (L1 = L2) = false) := HF.out hzz
          have HS : ∀ q, Calls Tryd.prog 9 #[.slice pa z1.length pc, .slice ra z2.length rc] (wr.drewN q) (fun e w' => e = .returned (.bool false) ∧ ∃ m, w' = (wr.drewN q).drewN m) := fun q => by
            have := same_any z1 z2 _ _ _ (D1 q) (D2 q) hl1
            rwa [hd] at this
          clear HN HF hd hzz D1 D2
          go_wp2_with fail
          go_quiet ((go_at_call 9; exact Calls.quiet_of (HS _)))
          go_wp2_with fail
          go_ret
          exact ⟨by rw [HF'.out]; rfl, HD.step _⟩
      · obtain rfl : k = n := by omega
        obtain ⟨q0, rfl⟩ := HD
        have HT : decide (L1 = L2) = true := by
          rw [decide_eq_true_iff]
          apply List.ext_getElem (by have := HN1.out; have := HN2.out; omega)
          intro j hj1 hj2
          have := HE.out j (by have := HN1.out; omega)
          rwa [List.getD_eq_getElem?_getD, List.getElem?_eq_getElem hj1, List.getD_eq_getElem?_getD, List.getElem?_eq_getElem hj2] at this
        clear HE
        go_wp2
        go_ret
        exact ⟨by rw [HT]; rfl, q0, rfl⟩
  · have hq : ((L1.length : Int) != (L2.length : Int)) = true := by simp; omega
    have HF : decide (L1 = L2) = false := by rw [decide_eq_false_iff_not]; intro e; exact hne (by rw [e])
    rw [HF]
    go_enter Tryd.func30, Tryd.ntmps30
    go_wp2
    go_ret
    exact ⟨rfl, 0, rfl⟩

end Go.Proofs.YtkjlchfmplcobaaDoor
