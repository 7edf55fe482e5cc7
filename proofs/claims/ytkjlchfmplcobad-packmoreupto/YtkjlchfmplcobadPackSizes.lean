/- The plain mathematics of chapter 4, third part: how long what is packed is; a text's beginning; tokens one behind the other. -/
import Derived.Test.YtkjlchfmplcobadPackWrite
namespace Go.Proofs.Ytkjlchfmplcobad

theorem bodyT_le (t : Tok) : (bodyT t).length ≤ 2 ∧ (t.len = 0 → (bodyT t).length = 1) := by
  unfold bodyT
  split
  · simp
  · rename_i h; exact ⟨by simp, fun e => absurd e h⟩
theorem groups_length (m : Nat) : ∀ l : List Tok, l.length = m → (groupsL l).length = (l.length + 7) / 8 + (l.flatMap bodyT).length := by
  induction m using Nat.strongRecOn with
  | ind m ih =>
    intro l hl
    by_cases h : l.length = 0
    · rw [groupsL_none h, List.length_eq_zero_iff.1 h]; rfl
    · rw [groupsL_more h, List.length_cons, List.length_append, ih (l.drop 8).length (by rw [List.length_drop]; omega) (l.drop 8) rfl, List.length_drop]
      have e : (l.flatMap bodyT).length = ((l.take 8).flatMap bodyT).length + ((l.drop 8).flatMap bodyT).length := by
        rw [← List.length_append, ← List.flatMap_append, List.take_append_drop]
      rw [e]
      omega
theorem write_length (l : List Tok) (n : Nat) : (writeL l n).length = 2 + ((l.length + 7) / 8 + (l.flatMap bodyT).length) := by
  unfold writeL
  rw [List.length_append, groups_length l.length l rfl]
  rfl
/-- Tokens, and what is written of them, are no more than the bytes that they stand for. -/
theorem tok_few (b : List Int) (d : Nat) : ∀ a, b.length - a = d → (tokFrom b a).length ≤ d ∧ ((tokFrom b a).flatMap bodyT).length ≤ d := by
  induction d using Nat.strongRecOn with
  | ind d ih =>
    intro a hd
    by_cases h : a < b.length
    · rcases best_spec b a with hs | ⟨s1, s2, s3, -⟩
      · obtain ⟨i1, i2⟩ := ih (b.length - (a + 1)) (by omega) (a + 1) rfl
        rw [tokFrom_byte h (by rw [hs]), List.length_cons, List.flatMap_cons, List.length_append, (bodyT_le _).2 rfl]
        omega
      · obtain ⟨i1, i2⟩ := ih (b.length - (a + (bestL b a).1)) (by omega) (a + (bestL b a).1) rfl
        rw [tokFrom_more h (by omega), List.length_cons, List.flatMap_cons, List.length_append]
        have := (bodyT_le ⟨((bestL b a).1 : Int), ((bestL b a).2 : Int), 0⟩).1
        omega
    · rw [tokFrom_end h]; simp
/-- TOKENS ONE BEHIND THE OTHER. -/
theorem text_more : ∀ (l : List Tok) (out : List Int) (i : Nat) (m : List Tok), textFrom out i (l ++ m) = if (textFrom out i l).2.1 = 0 then textFrom (textFrom out i l).1 (i + l.length) m else textFrom out i l
  | [], out, i, m => by simp [textFrom]
  | t :: l, out, i, m => by
    show textFrom out i (t :: (l ++ m)) = _
    rw [textFrom, textFrom]
    by_cases h : tokBad out.length t ≠ 0
    · rw [if_pos h, if_pos h, if_neg h]
    · rw [if_neg h, if_neg h, text_more l _ _ m, List.length_cons, show i + 1 + l.length = i + (l.length + 1) by omega]
theorem copy_prefix : ∀ (n : Nat) (out : List Int) (back : Nat), out <+: copyL n out back
  | 0, out, _ => List.prefix_refl out
  | n + 1, _, back => (List.prefix_append _ _).trans (copy_prefix n _ back)
theorem put_prefix (out : List Int) (t : Tok) : out <+: tokPut out t := by
  unfold tokPut
  split
  · exact List.prefix_append _ _
  · exact copy_prefix _ _ _
theorem text_prefix : ∀ (l : List Tok) (out : List Int) (i : Nat), (textFrom out i l).2.1 = 0 → out <+: (textFrom out i l).1
  | [], out, i, _ => List.prefix_refl out
  | t :: l, out, i, h => by
    rw [textFrom] at h ⊢
    by_cases hb : tokBad out.length t ≠ 0
    · rw [if_pos hb] at h; exact absurd h hb
    · rw [if_neg hb] at h ⊢
      exact (put_prefix out t).trans (text_prefix l _ _ h)
theorem text_where : ∀ (l : List Tok) (out : List Int) (i : Nat), (textFrom out i l).2.1 ≠ 0 → (i : Int) ≤ (textFrom out i l).2.2 ∧ (textFrom out i l).1 = []
  | [], out, i, h => by simp [textFrom] at h
  | t :: l, out, i, h => by
    rw [textFrom] at h ⊢
    by_cases hb : tokBad out.length t ≠ 0
    · rw [if_pos hb]; exact ⟨Int.le_refl _, rfl⟩
    · rw [if_neg hb] at h ⊢
      have := text_where l _ _ h
      exact ⟨by omega, this.2⟩

end Go.Proofs.Ytkjlchfmplcobad
