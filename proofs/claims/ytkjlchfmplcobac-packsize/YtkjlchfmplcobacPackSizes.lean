/- The plain mathematics of chapter 4, third part: how long what is packed is; a text's beginning; tokens one behind the other. -/
import Derived.Test.YtkjlchfmplcobacPackWrite
namespace Go.Proofs.Ytkjlchfmplcobac

theorem bodyT_le (t : Tok) : (bodyT t).length ≤ 2 ∧ (t.len = 0 → (bodyT t).length = 1) := by
  unfold bodyT
  split
  · simp
  · rename_i h; exact ⟨by simp, fun e => absurd e h⟩
theorem groups_length (m : Nat) : ∀ l : List Tok, l.length = m → (groupsL l).length = (l.length + 7) / 8 + (l.flatMap bodyT).length := by
  induction m using Nat.strongRecOn with
  | ind m ih =>
    intro l hl
    by_cases h : l.length = 0
    · rw [groupsL_none h, List.length_eq_zero_iff.1 h]; rfl
    · rw [groupsL_more h, List.length_cons, List.length_append, ih (l.drop 8).length (by rw [List.length_drop]; omega) (l.drop 8) rfl, List.length_drop]
      have e : (l.flatMap bodyT).length = ((l.take 8).flatMap bodyT).length + ((l.drop 8).flatMap bodyT).length := by
        rw [← List.length_append, ← List.flatMap_append, List.take_append_drop]
      rw [e]
      omega
theorem write_length (l : List Tok) (n : Nat) : (writeL l n).length = 2 + ((l.length + 7) / 8 + (l.flatMap bodyT).length) := by
  unfold writeL
  rw [List.length_append, groups_length l.length l rfl]
  rfl
/-- Tokens, and what is written of them, are no more than the bytes that they stand for. -/
theorem tok_few (b : List Int) (d : Nat) : ∀ a, b.length - a = d → (tokFrom b a).length ≤ d ∧ ((tokFrom b a).flatMap bodyT).length ≤ d := by
  induction d using Nat.strongRecOn with
  | ind d ih =>
    intro a hd
    by_cases h : a < b.length
    · rcases best_spec b a with hs | ⟨s1, s2, s3, -⟩
      · obtain ⟨i1, i2⟩ := ih (b.length - (a + 1)) (by omega) (a + 1) rfl
        rw [tokFrom_byte h (by rw [hs]), List.length_cons, List.flatMap_cons, List.length_append, (bodyT_le _).2 rfl]
        omega
      · obtain ⟨i1, i2⟩ := ih (b.length - (a + (bestL b a).1)) (by omega) (a + (bestL b a).1) rfl
        rw [tokFrom_more h (by omega), List.length_cons, List.flatMap_cons, List.length_append]
        have := (bodyT_le ⟨((bestL b a).1 : Int), ((bestL b a).2 : Int), 0⟩).1
        omega
    · rw [tokFrom_end h]; simp
theorem pack_length (b : List Int) : (packL b).length ≤ 2 + b.length + (b.length + 7) / 8 := by
  unfold packL tokensL
  rw [write_length]
  have := tok_few b b.length 0 (by omega)
  omega
/-- A text of one byte many times. -/
theorem rep_get {n : Nat} {c : Int} {j : Nat} (h : j < n) : (List.replicate n c).getD j 0 = c := by
  rw [List.getD_eq_getElem?_getD, List.getElem?_replicate, if_pos h]; rfl
theorem rep_match {n : Nat} {c : Int} {f a : Nat} (hf : f < a) (ha : a ≤ n) : matchN (List.replicate n c) f a = min 66 (n - a) := by
  have h1 := matchN_le (List.replicate n c) f a
  rw [List.length_replicate] at h1
  have h2 := matchN_more (b := List.replicate n c) (f := f) (a := a) (n := min 66 (n - a)) (by omega) (by omega) (by rw [List.length_replicate]; omega) (fun j hj => by rw [rep_get (by omega), rep_get (by omega)])
  omega
theorem rep_bestTo {n : Nat} {c : Int} {a : Nat} (ha : a ≤ n) : ∀ m, m + 1 ≤ a → bestTo (List.replicate n c) a (m + 1) = if 3 ≤ n - a then (min 66 (n - a), 1) else (0, 0)
  | 0, h => by
    rw [bestTo_succ, bestTo_zero]
    unfold bestStep
    rw [rep_match (by omega) ha]
    by_cases h3 : 3 ≤ n - a
    · rw [if_pos ⟨by omega, by show 0 < _; omega⟩, if_pos h3]
    · rw [if_neg (fun h => by omega), if_neg h3]
  | m + 1, h => by
    rw [bestTo_succ, rep_bestTo ha m (by omega)]
    unfold bestStep
    rw [rep_match (by omega) ha]
    by_cases h3 : 3 ≤ n - a
    · rw [if_pos h3, if_neg (fun h => by have := h.2; simp only at this; omega)]
    · rw [if_neg h3, if_neg (fun h => by omega)]
theorem rep_best {n : Nat} {c : Int} {a : Nat} (h1 : 1 ≤ a) (ha : a ≤ n) : bestL (List.replicate n c) a = if 3 ≤ n - a then (min 66 (n - a), 1) else (0, 0) := by
  unfold bestL
  obtain ⟨m, hm⟩ : ∃ m, min a 1024 = m + 1 := ⟨min a 1024 - 1, by omega⟩
  rw [hm]
  exact rep_bestTo ha m (by omega)
theorem rep_few {n : Nat} {c : Int} (d : Nat) : ∀ a, n - a = d → 1 ≤ a → (tokFrom (List.replicate n c) a).length ≤ d / 66 + 2 ∧ ((tokFrom (List.replicate n c) a).flatMap bodyT).length ≤ 2 * (d / 66) + 2 ∧ (d < 3 → (tokFrom (List.replicate n c) a).length ≤ d ∧ ((tokFrom (List.replicate n c) a).flatMap bodyT).length ≤ d) ∧ (3 ≤ d → d ≤ 66 → (tokFrom (List.replicate n c) a).length ≤ 1 ∧ ((tokFrom (List.replicate n c) a).flatMap bodyT).length ≤ 2) := by
  induction d using Nat.strongRecOn with
  | ind d ih =>
    intro a hd h1
    by_cases h : a < (List.replicate n c).length
    · have hn : a < n := by rwa [List.length_replicate] at h
      have hb := rep_best (c := c) h1 (Nat.le_of_lt hn)
      by_cases h3 : 3 ≤ n - a
      · rw [if_pos h3] at hb
        rw [tokFrom_more h (by rw [hb]; show min 66 (n - a) ≠ 0; omega), hb, List.length_cons, List.flatMap_cons, List.length_append]
        have hB := (bodyT_le ⟨((min 66 (n - a) : Nat) : Int), ((1 : Nat) : Int), 0⟩).1
        obtain ⟨i1, i2, i3, i4⟩ := ih (n - (a + min 66 (n - a))) (by omega) (a + min 66 (n - a)) rfl (by omega)
        simp only
        refine ⟨?_, ?_, fun h => by omega, fun _ h66 => ?_⟩
        · by_cases hq : d ≤ 66
          · have := i3 (by omega); omega
          · omega
        · by_cases hq : d ≤ 66
          · have := i3 (by omega); omega
          · omega
        · have := i3 (by omega); omega
      · rw [if_neg h3] at hb
        rw [tokFrom_byte h (by rw [hb]), List.length_cons, List.flatMap_cons, List.length_append, (bodyT_le _).2 rfl]
        obtain ⟨i1, i2, i3, i4⟩ := ih (n - (a + 1)) (by omega) (a + 1) rfl (by omega)
        have := i3 (by omega)
        refine ⟨by omega, by omega, fun _ => by omega, fun h => by omega⟩
    · rw [tokFrom_end h]
      simp
theorem rep_length (n : Nat) (c : Int) : (packL (List.replicate n c)).length ≤ 6 + n / 25 := by
  unfold packL tokensL
  rw [write_length]
  by_cases h : 0 < (List.replicate n c).length
  · have hn : 0 < n := by rwa [List.length_replicate] at h
    have hb : bestL (List.replicate n c) 0 = (0, 0) := rfl
    rw [tokFrom_byte h (by rw [hb]), Nat.zero_add, List.length_cons, List.flatMap_cons, List.length_append, (bodyT_le _).2 rfl]
    obtain ⟨i1, i2, i3, i4⟩ := rep_few (n := n) (c := c) (n - 1) 1 rfl (Nat.le_refl _)
    by_cases h3 : n - 1 < 3
    · have := i3 h3; omega
    · by_cases h66 : n - 1 ≤ 66
      · have := i4 (by omega) h66; omega
      · omega
  · rw [tokFrom_end h]
    show 2 + ((0 + 7) / 8 + 0) ≤ 6 + n / 25
    omega
end Go.Proofs.Ytkjlchfmplcobac
