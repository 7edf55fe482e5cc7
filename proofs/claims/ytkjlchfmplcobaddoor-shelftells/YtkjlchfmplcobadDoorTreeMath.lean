/- The plain mathematics of Merkle's trees: roots, paths, proofs, and what they show. Nothing of the program is in it. -/
import Derived.Test.YtkjlchfmplcobadDoorShaSum
namespace Go.Proofs.YtkjlchfmplcobadDoor

/-- What a leaf's digest is, and that of two. -/
def leafL (b : List Int) : List Int := shaL (0 :: b)
def nodeL (a b : List Int) : List Int := shaL (1 :: (a ++ b))

/-- Doubled from k on, while the double is below n. -/
def splitFrom (k n : Nat) : Nat := if h : 0 < k ∧ 2 * k < n then splitFrom (2 * k) n else k
termination_by n - k
decreasing_by omega
/-- The greatest power of two below n. -/
def splitN (n : Nat) : Nat := splitFrom 1 n
theorem splitFrom_next {k n : Nat} (h0 : 0 < k) (h : 2 * k < n) : splitFrom k n = splitFrom (2 * k) n := by
  rw [splitFrom, dif_pos ⟨h0, h⟩]
theorem splitFrom_end {k n : Nat} (h : ¬ 2 * k < n) : splitFrom k n = k := by
  rw [splitFrom, dif_neg (by omega)]
theorem splitFrom_spec (k n : Nat) (h0 : 0 < k) (h : k < n) : k ≤ splitFrom k n ∧ splitFrom k n < n ∧ n ≤ 2 * splitFrom k n := by
  by_cases h2 : 2 * k < n
  · rw [splitFrom_next h0 h2]
    have := splitFrom_spec (2 * k) n (by omega) h2
    omega
  · rw [splitFrom_end h2]; omega
termination_by n - k
theorem splitFrom_pow (e n : Nat) : ∃ d, splitFrom (2 ^ e) n = 2 ^ d := by
  by_cases h2 : 2 * 2 ^ e < n
  · rw [splitFrom_next (Nat.two_pow_pos e) h2, ← Nat.pow_succ']
    exact splitFrom_pow (e + 1) n
  · exact ⟨e, splitFrom_end h2⟩
termination_by n - 2 ^ e
decreasing_by have := Nat.two_pow_pos e; rw [Nat.pow_succ]; omega
theorem splitN_spec {n : Nat} (h : 2 ≤ n) : 1 ≤ splitN n ∧ splitN n < n ∧ n ≤ 2 * splitN n := splitFrom_spec 1 n (by omega) (by omega)
theorem splitN_pow (n : Nat) : ∃ d, splitN n = 2 ^ d := splitFrom_pow 0 n
theorem pow_between {a b n : Nat} (h1 : 2 ^ a < n) (h2 : n ≤ 2 * 2 ^ a) (h3 : 2 ^ b < n) (h4 : n ≤ 2 * 2 ^ b) : a = b := by
  rw [← Nat.pow_succ'] at h2 h4
  have h5 : 2 ^ a < 2 ^ (b + 1) := by omega
  have h6 : 2 ^ b < 2 ^ (a + 1) := by omega
  have := (Nat.pow_lt_pow_iff_right (by decide : 1 < 2)).1 h5
  have := (Nat.pow_lt_pow_iff_right (by decide : 1 < 2)).1 h6
  omega
theorem splitN_unique {a n : Nat} (h1 : 2 ^ a < n) (h2 : n ≤ 2 * 2 ^ a) : splitN n = 2 ^ a := by
  have := Nat.two_pow_pos a
  obtain ⟨d, hd⟩ := splitN_pow n
  have hs := splitN_spec (n := n) (by omega)
  rw [hd] at hs ⊢
  rw [pow_between hs.2.1 hs.2.2 h1 h2]

/-- The root of leaves. -/
def mth (ls : List (List Int)) : List Int :=
  if ls.length = 0 then shaL [] else
  if _h : ls.length ≤ 1 then leafL (ls.getD 0 []) else
    nodeL (mth (ls.take (splitN ls.length))) (mth (ls.drop (splitN ls.length)))
termination_by ls.length
decreasing_by
  · have := splitN_spec (n := ls.length) (by omega); rw [List.length_take]; omega
  · have := splitN_spec (n := ls.length) (by omega); rw [List.length_drop]; omega
theorem mth_nil {ls : List (List Int)} (h : ls.length = 0) : mth ls = shaL [] := by rw [mth, if_pos h]
theorem mth_one {ls : List (List Int)} (h : ls.length = 1) : mth ls = leafL (ls.getD 0 []) := by rw [mth, if_neg (by omega), dif_pos (by omega)]
theorem mth_more {ls : List (List Int)} (h : 2 ≤ ls.length) : mth ls = nodeL (mth (ls.take (splitN ls.length))) (mth (ls.drop (splitN ls.length))) := by
  rw [mth, if_neg (by omega), dif_neg (by omega)]

theorem shaL_len (zs : List Int) : (shaL zs).length = 32 := outTo_length _ 8 (by omega)
theorem leafL_length (b : List Int) : (leafL b).length = 32 := shaL_len _
theorem nodeL_length (a b : List Int) : (nodeL a b).length = 32 := shaL_len _
theorem mth_length (ls : List (List Int)) : (mth ls).length = 32 := by
  rw [mth]; split
  · exact shaL_len _
  · split
    · exact leafL_length _
    · exact nodeL_length _ _
end Go.Proofs.YtkjlchfmplcobadDoor
