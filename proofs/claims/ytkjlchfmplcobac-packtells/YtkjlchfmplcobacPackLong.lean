/- The plain mathematics of chapter 4, fourth part: the longest stretch, whatever its length; the groups of tokens one by one. -/
import Derived.Test.YtkjlchfmplcobacPackWrite
namespace Go.Proofs.Ytkjlchfmplcobac

def longStep (b : List Int) (a : Nat) (p : Nat × Nat) (k : Nat) : Nat × Nat := if p.1 < matchN b (a - (k + 1)) a then (matchN b (a - (k + 1)) a, k + 1) else p
def longTo (b : List Int) (a m : Nat) : Nat × Nat := (List.range m).foldl (longStep b a) (0, 0)
theorem longTo_zero (b : List Int) (a : Nat) : longTo b a 0 = (0, 0) := rfl
theorem longTo_succ (b : List Int) (a m : Nat) : longTo b a (m + 1) = longStep b a (longTo b a m) m := by
  unfold longTo; rw [List.range_succ, List.foldl_append]; rfl
theorem long_best (b : List Int) (a : Nat) : ∀ m, bestTo b a m = if 3 ≤ (longTo b a m).1 then longTo b a m else (0, 0)
  | 0 => rfl
  | m + 1 => by
    rw [bestTo_succ, longTo_succ, long_best b a m]
    unfold bestStep longStep
    by_cases h3 : 3 ≤ (longTo b a m).1
    · rw [if_pos h3]
      by_cases hn : (longTo b a m).1 < matchN b (a - (m + 1)) a
      · rw [if_pos ⟨by omega, hn⟩, if_pos hn, if_pos (by simp only; omega)]
      · rw [if_neg (fun h => hn h.2), if_neg hn, if_pos h3]
    · rw [if_neg h3]
      by_cases hn : 3 ≤ matchN b (a - (m + 1)) a
      · have hk : (longTo b a m).1 < matchN b (a - (m + 1)) a := by omega
        rw [if_pos ⟨hn, by simp only; omega⟩, if_pos hk, if_pos (by simp only; omega)]
      · rw [if_neg (fun h => hn h.1)]
        by_cases hk : (longTo b a m).1 < matchN b (a - (m + 1)) a
        · rw [if_pos hk, if_neg (by simp only; omega)]
        · rw [if_neg hk, if_neg h3]
theorem longTo_le (b : List Int) (a : Nat) : ∀ m, (longTo b a m).1 ≤ 66 ∧ (longTo b a m).2 ≤ m
  | 0 => by rw [longTo_zero]; exact ⟨by decide, by decide⟩
  | m + 1 => by
    have h := longTo_le b a m
    have h2 := (matchN_le b (a - (m + 1)) a).1
    rw [longTo_succ]
    unfold longStep
    split
    · exact ⟨h2, Nat.le_refl _⟩
    · exact ⟨h.1, by omega⟩
/-- The token at a. -/
def tokAtL (b : List Int) (a : Nat) : Tok := if (longTo b a (min a 1024)).1 < 3 then ⟨0, 0, b.getD a 0⟩ else ⟨((longTo b a (min a 1024)).1 : Int), ((longTo b a (min a 1024)).2 : Int), 0⟩
def widN (t : Tok) : Nat := if t.len = 0 then 1 else t.len.toNat
theorem tok_here {b : List Int} {a : Nat} (h : a < b.length) : tokFrom b a = tokAtL b a :: tokFrom b (a + widN (tokAtL b a)) ∧ 1 ≤ widN (tokAtL b a) ∧ a + widN (tokAtL b a) ≤ b.length ∧ ((tokAtL b a).len = 0 ∨ (3 ≤ (tokAtL b a).len ∧ (tokAtL b a).len ≤ 66)) := by
  have hb : bestL b a = if 3 ≤ (longTo b a (min a 1024)).1 then longTo b a (min a 1024) else (0, 0) := long_best b a _
  unfold tokAtL
  by_cases h3 : (longTo b a (min a 1024)).1 < 3
  · rw [if_neg (by omega)] at hb
    rw [if_pos h3, tokFrom_byte h (by rw [hb])]
    exact ⟨rfl, Nat.le_refl _, h, .inl rfl⟩
  · rw [if_pos (by omega)] at hb
    rw [if_neg h3, tokFrom_more h (by rw [hb]; omega), hb]
    have hw : widN ⟨((longTo b a (min a 1024)).1 : Int), ((longTo b a (min a 1024)).2 : Int), 0⟩ = (longTo b a (min a 1024)).1 := by
      unfold widN; rw [if_neg (by simp only; omega)]; simp
    rw [hw]
    have hs := best_spec b a
    rw [hb] at hs
    have h66 := (longTo_le b a (min a 1024)).1
    refine ⟨rfl, by omega, ?_, .inr ⟨by simp only; omega, by simp only; omega⟩⟩
    rcases hs with hs | hs
    · rw [hs] at h3; simp at h3
    · omega
/-- The groups of the first q eights. -/
def groupQ (l : List Tok) (q : Nat) : List Tok := (l.drop (8 * q)).take 8
def groupB (g : List Tok) : List Int := (flagsN g : Int) :: g.flatMap bodyT
def groupsTo (l : List Tok) (q : Nat) : List Int := (List.range q).flatMap fun j => groupB (groupQ l j)
theorem groupsTo_succ (l : List Tok) (q : Nat) : groupsTo l (q + 1) = groupsTo l q ++ groupB (groupQ l q) := by
  unfold groupsTo; rw [List.range_succ, List.flatMap_append]; simp
theorem groups_here (l : List Tok) (q : Nat) (h : 8 * q < l.length) : groupsL (l.drop (8 * q)) = groupB (groupQ l q) ++ groupsL (l.drop (8 * (q + 1))) := by
  rw [groupsL_more (by rw [List.length_drop]; omega), List.drop_drop]
  rfl
theorem groups_to (l : List Tok) : ∀ q, 8 * q ≤ l.length + 7 → groupsL l = groupsTo l q ++ groupsL (l.drop (8 * q))
  | 0, _ => rfl
  | q + 1, h => by
    rw [groups_to l q (by omega), groups_here l q (by omega), groupsTo_succ, List.append_assoc]
theorem groups_all {l : List Tok} {q : Nat} (h : l.length ≤ 8 * q) (h2 : 8 * q ≤ l.length + 7) : groupsL l = groupsTo l q := by
  rw [groups_to l q h2, groupsL_none (by rw [List.length_drop]; omega), List.append_nil]

end Go.Proofs.Ytkjlchfmplcobac
