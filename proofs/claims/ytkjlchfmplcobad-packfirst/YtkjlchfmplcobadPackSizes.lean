/- The plain mathematics of chapter 4, third part: how long what is packed is; a text's beginning; tokens one behind the other. -/
import Derived.Test.YtkjlchfmplcobadPackWrite
namespace Go.Proofs.Ytkjlchfmplcobad

theorem bodyT_le (t : Tok) : (bodyT t).length ≤ 2 ∧ (t.len = 0 → (bodyT t).length = 1) := by
  unfold bodyT
  split
  · simp
  · rename_i h; exact ⟨by simp, fun e => absurd e h⟩
theorem groups_length (m : Nat) : ∀ l : List Tok, l.length = m → (groupsL l).length = (l.length + 7) / 8 + (l.flatMap bodyT).length := by
  induction m using Nat.strongRecOn with
  | ind m ih =>
    intro l hl
    by_cases h : l.length = 0
    · rw [groupsL_none h, List.length_eq_zero_iff.1 h]; rfl
    · rw [groupsL_more h, List.length_cons, List.length_append, ih (l.drop 8).length (by rw [List.length_drop]; omega) (l.drop 8) rfl, List.length_drop]
      have e : (l.flatMap bodyT).length = ((l.take 8).flatMap bodyT).length + ((l.drop 8).flatMap bodyT).length := by
        rw [← List.length_append, ← List.flatMap_append, List.take_append_drop]
      rw [e]
      omega
theorem write_length (l : List Tok) (n : Nat) : (writeL l n).length = 2 + ((l.length + 7) / 8 + (l.flatMap bodyT).length) := by
  unfold writeL
  rw [List.length_append, groups_length l.length l rfl]
  rfl
/-- Tokens, and what is written of them, are no more than the bytes that they stand for. -/
theorem tok_few (b : List Int) (d : Nat) : ∀ a, b.length - a = d → (tokFrom b a).length ≤ d ∧ ((tokFrom b a).flatMap bodyT).length ≤ d := by
  induction d using Nat.strongRecOn with
  | ind d ih =>
    intro a hd
    by_cases h : a < b.length
    · rcases best_spec b a with hs | ⟨s1, s2, s3, -⟩
      · obtain ⟨i1, i2⟩ := ih (b.length - (a + 1)) (by omega) (a + 1) rfl
        rw [tokFrom_byte h (by rw [hs]), List.length_cons, List.flatMap_cons, List.length_append, (bodyT_le _).2 rfl]
        omega
      · obtain ⟨i1, i2⟩ := ih (b.length - (a + (bestL b a).1)) (by omega) (a + (bestL b a).1) rfl
        rw [tokFrom_more h (by omega), List.length_cons, List.flatMap_cons, List.length_append]
        have := (bodyT_le ⟨((bestL b a).1 : Int), ((bestL b a).2 : Int), 0⟩).1
        omega
    · rw [tokFrom_end h]; simp
/-- A text's beginning. -/
theorem take_match {b : List Int} {e f a : Nat} (hf : f < a) (ha : a ≤ e) (he : e ≤ b.length) : matchN (b.take e) f a = min (matchN b f a) (e - a) := by
  have hl : (b.take e).length = e := by rw [List.length_take]; omega
  have h1 := matchN_le (b.take e) f a
  have h2 := matchN_le b f a
  rw [hl] at h1
  have h3 := matchN_more (b := b.take e) (f := f) (a := a) (n := min (matchN b f a) (e - a)) (by omega) (by omega) (by omega) (fun j hj => by
    rw [take_getD (by omega), take_getD (by omega)]; exact matchN_get (by omega))
  have h4 := matchN_more (b := b) (f := f) (a := a) (n := matchN (b.take e) f a) (by omega) (by omega) (by omega) (fun j hj => by
    have := matchN_get (b := b.take e) (f := f) (a := a) hj
    rwa [take_getD (by omega), take_getD (by omega)] at this)
  omega
theorem bestTo_mono (b : List Int) (a m : Nat) : (bestTo b a m).1 ≤ (bestTo b a (m + 1)).1 := by
  rw [bestTo_succ]
  unfold bestStep
  split
  · rename_i h; exact Nat.le_of_lt h.2
  · exact Nat.le_refl _
theorem take_bestTo {b : List Int} {e a : Nat} (ha : a ≤ e) (he : e ≤ b.length) : ∀ m, m ≤ a → (bestTo b a m).1 ≤ e - a → bestTo (b.take e) a m = bestTo b a m
  | 0, _, _ => rfl
  | m + 1, hm, h => by
    have ih := take_bestTo ha he m (by omega) (Nat.le_trans (bestTo_mono b a m) h)
    rw [bestTo_succ] at h
    rw [bestTo_succ, bestTo_succ, ih]
    unfold bestStep at h ⊢
    rw [take_match (by omega) ha he]
    by_cases hc : 3 ≤ matchN b (a - (m + 1)) a ∧ (bestTo b a m).1 < matchN b (a - (m + 1)) a
    · rw [if_pos hc] at h ⊢
      simp only at h
      rw [Nat.min_eq_left h, if_pos hc]
    · rw [if_neg hc, if_neg (fun hd => hc ⟨by omega, by omega⟩)]
theorem take_best {b : List Int} {e a : Nat} (ha : a ≤ e) (he : e ≤ b.length) (h : (bestL b a).1 ≤ e - a) : bestL (b.take e) a = bestL b a := take_bestTo ha he _ (by omega) h
/-- How many bytes tokens stand for. -/
def tokSum : List Tok → Nat
  | [] => 0
  | t :: l => max t.len.toNat 1 + tokSum l
theorem tok_sum (b : List Int) (d : Nat) : ∀ a, b.length - a = d → a ≤ b.length → a + tokSum (tokFrom b a) = b.length := by
  induction d using Nat.strongRecOn with
  | ind d ih =>
    intro a hd ha
    by_cases h : a < b.length
    · rcases best_spec b a with hs | ⟨s1, s2, s3, -⟩
      · have := ih (b.length - (a + 1)) (by omega) (a + 1) rfl (by omega)
        rw [tokFrom_byte h (by rw [hs])]
        show a + (max (0 : Int).toNat 1 + tokSum (tokFrom b (a + 1))) = b.length
        simp
        omega
      · have := ih (b.length - (a + (bestL b a).1)) (by omega) (a + (bestL b a).1) rfl (by omega)
        rw [tokFrom_more h (by omega)]
        show a + (max ((bestL b a).1 : Int).toNat 1 + tokSum (tokFrom b (a + (bestL b a).1))) = b.length
        rw [Int.toNat_natCast]
        omega
    · rw [tokFrom_end h]
      show a + 0 = b.length
      omega
theorem tokSum_append (l m : List Tok) : tokSum (l ++ m) = tokSum l + tokSum m := by
  induction l with
  | nil => show tokSum m = 0 + tokSum m; omega
  | cons t l ih => show max t.len.toNat 1 + tokSum (l ++ m) = max t.len.toNat 1 + tokSum l + tokSum m; omega
theorem tokSum_take (l : List Tok) (n : Nat) : tokSum (l.take n) ≤ tokSum l := by
  have : tokSum l = tokSum (l.take n) + tokSum (l.drop n) := by rw [← tokSum_append, List.take_append_drop]
  omega
/-- WHAT IS AHEAD DOES NOT LOOK BEHIND. -/
theorem tok_first (b : List Int) (n : Nat) : ∀ a, a ≤ b.length → n ≤ (tokFrom b a).length → tokFrom (b.take (a + tokSum ((tokFrom b a).take n))) a = (tokFrom b a).take n := by
  induction n with
  | zero =>
    intro a ha _
    rw [List.take_zero]
    exact tokFrom_end (by rw [List.length_take]; show ¬ a < min (a + 0) b.length; omega)
  | succ n ih =>
    intro a ha hn
    have hsum := tok_sum b _ a rfl ha
    have htake := tokSum_take (tokFrom b a) (n + 1)
    by_cases h : a < b.length
    · rcases best_spec b a with hs | ⟨s1, s2, s3, -⟩
      · rw [tokFrom_byte h (by rw [hs])] at hn hsum htake ⊢
        rw [List.take_succ_cons] at htake ⊢
        rw [List.length_cons] at hn
        have he : a + tokSum (⟨0, 0, b.getD a 0⟩ :: (tokFrom b (a + 1)).take n) = a + 1 + tokSum ((tokFrom b (a + 1)).take n) := by
          show a + (max (0 : Int).toNat 1 + _) = _
          simp
          omega
        have i := ih (a + 1) (by omega) (by omega)
        have hle : a + tokSum (⟨0, 0, b.getD a 0⟩ :: (tokFrom b (a + 1)).take n) ≤ b.length := by omega
        rw [he] at hle ⊢
        generalize hE : a + 1 + tokSum ((tokFrom b (a + 1)).take n) = e at *
        have hae : a + 1 ≤ e := by omega
        have heb : e ≤ b.length := by omega
        have hb := take_best (b := b) (e := e) (a := a) (by omega) heb (by rw [hs]; omega)
        rw [tokFrom_byte (by rw [List.length_take]; omega) (by rw [hb, hs]), take_getD (by omega), i]
      · rw [tokFrom_more h (by omega)] at hn hsum htake ⊢
        rw [List.take_succ_cons] at htake ⊢
        rw [List.length_cons] at hn
        have he : a + tokSum (⟨((bestL b a).1 : Int), ((bestL b a).2 : Int), 0⟩ :: (tokFrom b (a + (bestL b a).1)).take n) = a + (bestL b a).1 + tokSum ((tokFrom b (a + (bestL b a).1)).take n) := by
          show a + (max ((bestL b a).1 : Int).toNat 1 + _) = _
          rw [Int.toNat_natCast]
          omega
        have i := ih (a + (bestL b a).1) (by omega) (by omega)
        have hle : a + tokSum (⟨((bestL b a).1 : Int), ((bestL b a).2 : Int), 0⟩ :: (tokFrom b (a + (bestL b a).1)).take n) ≤ b.length := by omega
        rw [he] at hle ⊢
        generalize hE : a + (bestL b a).1 + tokSum ((tokFrom b (a + (bestL b a).1)).take n) = e at *
        have hae : a + (bestL b a).1 ≤ e := by omega
        have heb : e ≤ b.length := by omega
        have hb := take_best (b := b) (e := e) (a := a) (by omega) heb (by omega)
        rw [tokFrom_more (by rw [List.length_take]; omega) (by rw [hb]; omega), hb, i]
    · rw [tokFrom_end h] at hn
      simp at hn
theorem first_tokens {b : List Int} {n : Nat} (hn : n ≤ (tokensL b).length) : tokensL (b.take (tokSum ((tokensL b).take n))) = (tokensL b).take n ∧ tokSum ((tokensL b).take n) ≤ b.length := by
  have h := tok_first b n 0 (Nat.zero_le _) hn
  rw [Nat.zero_add] at h
  have h1 := tok_sum b _ 0 rfl (Nat.zero_le _)
  have h2 := tokSum_take (tokFrom b 0) n
  exact ⟨h, by unfold tokensL; omega⟩
end Go.Proofs.Ytkjlchfmplcobad
