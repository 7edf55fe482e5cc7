/- The walks of yearref2.RightEdge, SameEdge and Top. -/
import Derived.Test.YtkjlchfmplcobaaDoorProg
import Derived.Test.YtkjlchfmplcobaaDoorShaSame
import Derived.Test.YtkjlchfmplcobaaDoorTreeSame
import Derived.Test.YtkjlchfmplcobaaDoorShaSum
import Derived.Test.YtkjlchfmplcobaaDoorTreeRefMth
import Derived.WalkKit
import Derived.WalkSpells
import Derived.WalkLawsBesides
import Derived.Deep.QuietTactic
import Derived.BigQuiet
import Derived.Test.YtkjlchfmplcobaaDoorRunAB
import Derived.Test.YtkjlchfmplcobaaDoorTreeRefOnes
namespace Go.Proofs.YtkjlchfmplcobaaDoor
open Go.RowKit

set_option maxRecDepth 100000 in
set_option maxHeartbeats 1000000 in
theorem refRight_any (size most : Int) (ps : List (List Int)) (v : Value) (w : World) (hv : PartsAt w v ps) (hm : ps.length ≤ maxLen) (hs : ∀ j, (ps.getD j []).length ≤ maxLen) (hmost : most ≤ 1000000) :
    Calls Tryd.prog 45 #[.agg #[.int .i64 size, v], .int .i64 most] w fun e w' => e = .returned (.bool (rightL size most ps)) ∧ Below w.heap.size w w' := by
  obtain ⟨a0, c0, rfl, -⟩ := hv.form
  have hW : Below w.heap.size w (w.alloc (.cells #[.int .i64 size, .slice a0 ps.length c0] 34)) := (Below.refl _ _).alloc (Nat.le_refl _) _
  have hv1 := hv.below (Nat.le_refl _) hW
  have cg : ∀ q, Calls Tryd.prog 56 #[.slice a0 ps.length c0] ((w.alloc (.cells #[.int .i64 size, .slice a0 ps.length c0] 34)).drewN q) fun e w' => e = .returned (.bool (goodL ps)) ∧ w' = (w.alloc (.cells #[.int .i64 size, .slice a0 ps.length c0] 34)).drewN q := fun q => good_any ps _ _ (hv1.below (Nat.le_refl _) (below_drewN (Below.refl _ _) q)) hm hs
  have hm0 := hm
  unfold maxLen at hm
  clear hv hv1 hs
  by_cases h1 : 0 ≤ size
  · have d1 : decide (0 ≤ size) = true := by simpa using h1
    by_cases h2 : size ≤ most
    · have d2 : decide (size ≤ most) = true := by simpa using h2
      obtain ⟨n, rfl⟩ := Int.eq_ofNat_of_zero_le h1
      have co : ∀ w1, Calls Tryd.prog 66 #[.int .i64 n] w1 fun e w' => e = .returned (.int .i64 (onesN n)) ∧ w' = w1 := fun w1 => refOnes_any n w1 (by omega)
      have HR : Hid (rightL n most ps = (decide (ps.length = onesN n) && goodL ps)) := by show rightL n most ps = _; unfold rightL; rw [d1, d2, Int.toNat_natCast]; simp
      generalize onesN n = o at *
      generalize goodL ps = G at *
      generalize rightL n most ps = R at *
      by_cases h3 : ps.length = o
      · have hR : R = G := by rw [HR.out]; simp [h3]
        rw [hR]
        have d3 : ((ps.length : Int) == (o : Int)) = true := by simp; omega
        clear HR hR h3 d1 d2
        generalize ps.length = l at *
        go_enter Tryd.func45, Tryd.ntmps45
        go_wp2_with fail
        go_quiet (first | (go_at_call 66; exact Calls.quiet_of_same (co _)) | (go_at_call 56; exact Calls.quiet_of_same (cg _)))
        go_wp2_with fail
        go_ret
        exact ⟨rfl, below_drewN hW _⟩
      · have hR : R = false := by rw [HR.out]; simp [h3]
        rw [hR]
        have d3 : ((ps.length : Int) == (o : Int)) = false := by simp; omega
        clear HR hR d1 d2 cg
        go_enter Tryd.func45, Tryd.ntmps45
        go_wp2_with fail
        go_quiet ((go_at_call 66; exact Calls.quiet_of_same (co _)))
        go_wp2_with fail
        go_ret
        exact ⟨rfl, below_drewN hW _⟩
    · have d2 : decide (size ≤ most) = false := by simpa using h2
      have hR : rightL size most ps = false := by unfold rightL; rw [d2]; simp
      rw [hR]
      go_enter Tryd.func45, Tryd.ntmps45
      go_wp2_with fail
      go_quiet (fail)
      go_wp2_with fail
      go_ret
      exact ⟨rfl, below_drewN hW _⟩
  · have d1 : decide (0 ≤ size) = false := by simpa using h1
    have hR : rightL size most ps = false := by unfold rightL; rw [d1]; simp
    rw [hR]
    go_enter Tryd.func45, Tryd.ntmps45
    go_wp2_with fail
    go_quiet (fail)
    go_wp2_with fail
    go_ret
    exact ⟨rfl, below_drewN hW _⟩
set_option maxRecDepth 100000 in
set_option maxHeartbeats 1000000 in
theorem refSameEdge_any (s1 s2 : Int) (p1 p2 : List (List Int)) (v1 v2 : Value) (w : World) (h1 : PartsAt w v1 p1) (h2 : PartsAt w v2 p2) (hm : p1.length ≤ maxLen) (hs : ∀ j, (p1.getD j []).length ≤ maxLen) :
    Calls Tryd.prog 25 #[.agg #[.int .i64 s1, v1], .agg #[.int .i64 s2, v2]] w fun e w' => e = .returned (.bool (decide (s1 = s2) && decide (p1 = p2))) ∧ Below w.heap.size w w' := by
  obtain ⟨a1, c1, rfl, -⟩ := h1.form
  obtain ⟨a2, c2, rfl, -⟩ := h2.form
  have hW : Below w.heap.size w ((w.alloc (.cells #[.int .i64 s1, .slice a1 p1.length c1] 34)).alloc (.cells #[.int .i64 s2, .slice a2 p2.length c2] 34)) := ((Below.refl _ _).alloc (Nat.le_refl _) _).alloc (by simp) _
  have cs := refSame_any p1 p2 _ _ _ (h1.below (Nat.le_refl _) hW) (h2.below (Nat.le_refl _) hW) hm hs
  clear h1 h2 hs
  by_cases h : s1 = s2
  · subst h
    have d1 : (s1 == s1) = true := by simp
    have d2 : (decide (s1 = s1) && decide (p1 = p2)) = decide (p1 = p2) := by simp
    rw [d2]
    go_enter Tryd.func25, Tryd.ntmps25
    go_wp2_with fail
    refine cs.mono ?_
    rintro e w1 ⟨rfl, q, rfl⟩
    go_wp2_with fail
    go_ret
    exact ⟨rfl, below_drewN hW _⟩
  · have d1 : (s1 == s2) = false := by simpa using h
    have d2 : (decide (s1 = s2) && decide (p1 = p2)) = false := by simp [h]
    rw [d2]
    go_enter Tryd.func25, Tryd.ntmps25
    go_wp2_with fail
    go_ret
    exact ⟨rfl, hW⟩

end Go.Proofs.YtkjlchfmplcobaaDoor
