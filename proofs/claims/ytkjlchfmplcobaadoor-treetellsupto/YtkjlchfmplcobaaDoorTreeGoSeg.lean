/- The parts to which the walks go, and the roots that paths and proofs have: plain mathematics. -/
import Derived.Test.YtkjlchfmplcobaaDoorTreeGoWalk
namespace Go.Proofs.YtkjlchfmplcobaaDoor

/-- The leaves of a part. -/
def seg (L : List (List Int)) (p : Nat × Nat) : List (List Int) := (L.take p.2).drop p.1
theorem seg_length {L : List (List Int)} {f e : Nat} (he : e ≤ L.length) : (seg L (f, e)).length = e - f := by unfold seg; rw [List.length_drop, List.length_take]; simp only; omega
theorem seg_take {L : List (List Int)} {f e k : Nat} (hk : f + k ≤ e) : (seg L (f, e)).take k = seg L (f, f + k) := by
  unfold seg
  simp only
  rw [List.take_drop, List.take_take, Nat.min_eq_left hk]
theorem seg_drop {L : List (List Int)} {f e k : Nat} : (seg L (f, e)).drop k = seg L (f + k, e) := by
  unfold seg
  simp only
  rw [List.drop_drop]
theorem seg_all (L : List (List Int)) : seg L (0, L.length) = L := by unfold seg; simp
theorem path_seg (L : List (List Int)) (d : Nat) : ∀ (f e i : Nat), e - f = d → f ≤ i → i < e → e ≤ L.length → (pathP f e i).map (fun p => mth (seg L p)) = pathL (seg L (f, e)) (i - f) := by
  induction d using Nat.strongRecOn with
  | ind d ih =>
    intro f e i hd hfi hie he
    have hl := seg_length (f := f) he
    by_cases h2 : e < f + 2
    · rw [pathP_one h2, pathL_one (by omega)]; rfl
    · have hs := splitN_spec (n := e - f) (by omega)
      by_cases hi : i < f + splitN (e - f)
      · rw [pathP_left (by omega) hi, pathL_left (by omega) (by rw [hl]; omega), List.map_append, ih (splitN (e - f)) (by omega) f (f + splitN (e - f)) i (by omega) hfi hi (by omega), hl, seg_take (by omega), seg_drop]
        rfl
      · rw [pathP_right (by omega) hi, pathL_right (by omega) (by rw [hl]; omega), List.map_append, ih (e - (f + splitN (e - f))) (by omega) (f + splitN (e - f)) e i rfl (by omega) hie he, hl, seg_take (by omega), seg_drop]
        congr 2
        omega
theorem proof_seg (L : List (List Int)) (d : Nat) : ∀ (f e m : Nat) (whole : Bool), e - f = d → f < m → m ≤ e → e ≤ L.length → (proofP f e m whole).map (fun p => mth (seg L p)) = proofL (seg L (f, e)) (m - f) whole := by
  induction d using Nat.strongRecOn with
  | ind d ih =>
    intro f e m whole hd hfm hme he
    have hl := seg_length (f := f) he
    by_cases hm : m = e
    · subst hm
      rw [← hl]
      cases whole with
      | true => rw [proofP_whole, proofL_whole]; rfl
      | false => rw [proofP_part, proofL_part]; rfl
    · have hs := splitN_spec (n := e - f) (by omega)
      by_cases hi : m ≤ f + splitN (e - f)
      · rw [proofP_left hm (by omega) hi, proofL_left (by omega) (by omega) (by rw [hl]; omega), List.map_append, ih (splitN (e - f)) (by omega) f (f + splitN (e - f)) m whole (by omega) hfm hi (by omega), hl, seg_take (by omega), seg_drop]
        rfl
      · rw [proofP_right hm (by omega) hi, proofL_right (by omega) (by omega) (by rw [hl]; omega), List.map_append, ih (e - (f + splitN (e - f))) (by omega) (f + splitN (e - f)) e m false rfl (by omega) hme he, hl, seg_take (by omega), seg_drop]
        congr 2
        omega
theorem pathP_in (d : Nat) : ∀ (f e i : Nat), e - f = d → ∀ p ∈ pathP f e i, f ≤ p.1 ∧ p.1 < p.2 ∧ p.2 ≤ e := by
  induction d using Nat.strongRecOn with
  | ind d ih =>
    intro f e i hd p hp
    by_cases h2 : e < f + 2
    · rw [pathP_one h2] at hp; cases hp
    · have hs := splitN_spec (n := e - f) (by omega)
      by_cases hi : i < f + splitN (e - f)
      · rw [pathP_left (by omega) hi] at hp
        rcases List.mem_append.1 hp with h | h
        · have := ih (splitN (e - f)) (by omega) f (f + splitN (e - f)) i (by omega) p h; omega
        · rw [List.mem_singleton.1 h]; simp only; omega
      · rw [pathP_right (by omega) hi] at hp
        rcases List.mem_append.1 hp with h | h
        · have := ih (e - (f + splitN (e - f))) (by omega) (f + splitN (e - f)) e i rfl p h; omega
        · rw [List.mem_singleton.1 h]; simp only; omega
theorem proofP_in (d : Nat) : ∀ (f e m : Nat) (whole : Bool), e - f = d → f < m → m ≤ e → ∀ p ∈ proofP f e m whole, f ≤ p.1 ∧ p.1 < p.2 ∧ p.2 ≤ e := by
  induction d using Nat.strongRecOn with
  | ind d ih =>
    intro f e m whole hd hfm hme p hp
    by_cases hm : m = e
    · subst hm
      cases whole with
      | true => rw [proofP_whole] at hp; cases hp
      | false => rw [proofP_part] at hp; rw [List.mem_singleton.1 hp]; simp only; omega
    · have hs := splitN_spec (n := e - f) (by omega)
      by_cases hi : m ≤ f + splitN (e - f)
      · rw [proofP_left hm (by omega) hi] at hp
        rcases List.mem_append.1 hp with h | h
        · have := ih (splitN (e - f)) (by omega) f (f + splitN (e - f)) m whole (by omega) hfm hi p h; omega
        · rw [List.mem_singleton.1 h]; simp only; omega
      · rw [proofP_right hm (by omega) hi] at hp
        rcases List.mem_append.1 hp with h | h
        · have := ih (e - (f + splitN (e - f))) (by omega) (f + splitN (e - f)) e m false rfl (by omega) hme p h; omega
        · rw [List.mem_singleton.1 h]; simp only; omega
/-- How many there are at most: fewer than leaves. -/
theorem pathP_few (d : Nat) : ∀ (f e i : Nat), e - f = d → (pathP f e i).length ≤ d := by
  induction d using Nat.strongRecOn with
  | ind d ih =>
    intro f e i hd
    by_cases h2 : e < f + 2
    · rw [pathP_one h2]; exact Nat.zero_le _
    · have hs := splitN_spec (n := e - f) (by omega)
      by_cases hi : i < f + splitN (e - f)
      · have := ih (splitN (e - f)) (by omega) f (f + splitN (e - f)) i (by omega)
        rw [pathP_left (by omega) hi, List.length_append, List.length_singleton]; omega
      · have := ih (e - (f + splitN (e - f))) (by omega) (f + splitN (e - f)) e i rfl
        rw [pathP_right (by omega) hi, List.length_append, List.length_singleton]; omega
theorem proofP_few (d : Nat) : ∀ (f e m : Nat) (whole : Bool), e - f = d → f < m → m ≤ e → (proofP f e m whole).length ≤ d := by
  induction d using Nat.strongRecOn with
  | ind d ih =>
    intro f e m whole hd hfm hme
    by_cases hm : m = e
    · subst hm
      cases whole with
      | true => rw [proofP_whole]; exact Nat.zero_le _
      | false => rw [proofP_part, List.length_singleton]; omega
    · have hs := splitN_spec (n := e - f) (by omega)
      by_cases hi : m ≤ f + splitN (e - f)
      · have := ih (splitN (e - f)) (by omega) f (f + splitN (e - f)) m whole (by omega) hfm hi
        rw [proofP_left hm (by omega) hi, List.length_append, List.length_singleton]; omega
      · have := ih (e - (f + splitN (e - f))) (by omega) (f + splitN (e - f)) e m false rfl (by omega) hme
        rw [proofP_right hm (by omega) hi, List.length_append, List.length_singleton]; omega

end Go.Proofs.YtkjlchfmplcobaaDoor
