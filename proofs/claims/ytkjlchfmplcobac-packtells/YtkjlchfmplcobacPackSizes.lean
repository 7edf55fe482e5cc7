/- The plain mathematics of chapter 4, third part: how long what is packed is; a text's beginning; tokens one behind the other. -/
import Derived.Test.YtkjlchfmplcobacPackWrite
namespace Go.Proofs.Ytkjlchfmplcobac

theorem bodyT_le (t : Tok) : (bodyT t).length ≤ 2 ∧ (t.len = 0 → (bodyT t).length = 1) := by
  unfold bodyT
  split
  · simp
  · rename_i h; exact ⟨by simp, fun e => absurd e h⟩
theorem groups_length (m : Nat) : ∀ l : List Tok, l.length = m → (groupsL l).length = (l.length + 7) / 8 + (l.flatMap bodyT).length := by
  induction m using Nat.strongRecOn with
  | ind m ih =>
    intro l hl
    by_cases h : l.length = 0
    · rw [groupsL_none h, List.length_eq_zero_iff.1 h]; rfl
    · rw [groupsL_more h, List.length_cons, List.length_append, ih (l.drop 8).length (by rw [List.length_drop]; omega) (l.drop 8) rfl, List.length_drop]
      have e : (l.flatMap bodyT).length = ((l.take 8).flatMap bodyT).length + ((l.drop 8).flatMap bodyT).length := by
        rw [← List.length_append, ← List.flatMap_append, List.take_append_drop]
      rw [e]
      omega
theorem write_length (l : List Tok) (n : Nat) : (writeL l n).length = 2 + ((l.length + 7) / 8 + (l.flatMap bodyT).length) := by
  unfold writeL
  rw [List.length_append, groups_length l.length l rfl]
  rfl
/-- Tokens, and what is written of them, are no more than the bytes that they stand for. -/
theorem tok_few (b : List Int) (d : Nat) : ∀ a, b.length - a = d → (tokFrom b a).length ≤ d ∧ ((tokFrom b a).flatMap bodyT).length ≤ d := by
  induction d using Nat.strongRecOn with
  | ind d ih =>
    intro a hd
    by_cases h : a < b.length
    · rcases best_spec b a with hs | ⟨s1, s2, s3, -⟩
      · obtain ⟨i1, i2⟩ := ih (b.length - (a + 1)) (by omega) (a + 1) rfl
        rw [tokFrom_byte h (by rw [hs]), List.length_cons, List.flatMap_cons, List.length_append, (bodyT_le _).2 rfl]
        omega
      · obtain ⟨i1, i2⟩ := ih (b.length - (a + (bestL b a).1)) (by omega) (a + (bestL b a).1) rfl
        rw [tokFrom_more h (by omega), List.length_cons, List.flatMap_cons, List.length_append]
        have := (bodyT_le ⟨((bestL b a).1 : Int), ((bestL b a).2 : Int), 0⟩).1
        omega
    · rw [tokFrom_end h]; simp
theorem pack_length (b : List Int) : (packL b).length ≤ 2 + b.length + (b.length + 7) / 8 := by
  unfold packL tokensL
  rw [write_length]
  have := tok_few b b.length 0 (by omega)
  omega
end Go.Proofs.Ytkjlchfmplcobac
