/- The parts to which the walks go, and the roots that paths and proofs have: plain mathematics. -/
import Derived.Test.YtkjlchfmplcobaaDoorTreeGoWalk
namespace Go.Proofs.YtkjlchfmplcobaaDoor

/-- How many there are at most: fewer than leaves. -/
theorem pathP_few (d : Nat) : ∀ (f e i : Nat), e - f = d → (pathP f e i).length ≤ d := by
  induction d using Nat.strongRecOn with
  | ind d ih =>
    intro f e i hd
    by_cases h2 : e < f + 2
    · rw [pathP_one h2]; exact Nat.zero_le _
    · have hs := splitN_spec (n := e - f) (by omega)
      by_cases hi : i < f + splitN (e - f)
      · have := ih (splitN (e - f)) (by omega) f (f + splitN (e - f)) i (by omega)
        rw [pathP_left (by omega) hi, List.length_append, List.length_singleton]; omega
      · have := ih (e - (f + splitN (e - f))) (by omega) (f + splitN (e - f)) e i rfl
        rw [pathP_right (by omega) hi, List.length_append, List.length_singleton]; omega
theorem proofP_few (d : Nat) : ∀ (f e m : Nat) (whole : Bool), e - f = d → f < m → m ≤ e → (proofP f e m whole).length ≤ d := by
  induction d using Nat.strongRecOn with
  | ind d ih =>
    intro f e m whole hd hfm hme
    by_cases hm : m = e
    · subst hm
      cases whole with
      | true => rw [proofP_whole]; exact Nat.zero_le _
      | false => rw [proofP_part, List.length_singleton]; omega
    · have hs := splitN_spec (n := e - f) (by omega)
      by_cases hi : m ≤ f + splitN (e - f)
      · have := ih (splitN (e - f)) (by omega) f (f + splitN (e - f)) m whole (by omega) hfm hi
        rw [proofP_left hm (by omega) hi, List.length_append, List.length_singleton]; omega
      · have := ih (e - (f + splitN (e - f))) (by omega) (f + splitN (e - f)) e m false rfl (by omega) hme
        rw [proofP_right hm (by omega) hi, List.length_append, List.length_singleton]; omega

end Go.Proofs.YtkjlchfmplcobaaDoor
