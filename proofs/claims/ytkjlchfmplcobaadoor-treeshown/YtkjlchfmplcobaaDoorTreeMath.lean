/- The plain mathematics of Merkle's trees: roots, paths, proofs, and what they show. Nothing of the program is in it. -/
import Derived.Test.YtkjlchfmplcobaaDoorShaSum
namespace Go.Proofs.YtkjlchfmplcobaaDoor

/-- What a leaf's digest is, and that of two. -/
def leafL (b : List Int) : List Int := shaL (0 :: b)
def nodeL (a b : List Int) : List Int := shaL (1 :: (a ++ b))

/-- Doubled from k on, while the double is below n. -/
def splitFrom (k n : Nat) : Nat := if h : 0 < k ∧ 2 * k < n then splitFrom (2 * k) n else k
termination_by n - k
decreasing_by omega
/-- The greatest power of two below n. -/
def splitN (n : Nat) : Nat := splitFrom 1 n
theorem splitFrom_next {k n : Nat} (h0 : 0 < k) (h : 2 * k < n) : splitFrom k n = splitFrom (2 * k) n := by
  rw [splitFrom, dif_pos ⟨h0, h⟩]
theorem splitFrom_end {k n : Nat} (h : ¬ 2 * k < n) : splitFrom k n = k := by
  rw [splitFrom, dif_neg (by omega)]
theorem splitFrom_spec (k n : Nat) (h0 : 0 < k) (h : k < n) : k ≤ splitFrom k n ∧ splitFrom k n < n ∧ n ≤ 2 * splitFrom k n := by
  by_cases h2 : 2 * k < n
  · rw [splitFrom_next h0 h2]
    have := splitFrom_spec (2 * k) n (by omega) h2
    omega
  · rw [splitFrom_end h2]; omega
termination_by n - k
theorem splitFrom_pow (e n : Nat) : ∃ d, splitFrom (2 ^ e) n = 2 ^ d := by
  by_cases h2 : 2 * 2 ^ e < n
  · rw [splitFrom_next (Nat.two_pow_pos e) h2, ← Nat.pow_succ']
    exact splitFrom_pow (e + 1) n
  · exact ⟨e, splitFrom_end h2⟩
termination_by n - 2 ^ e
decreasing_by have := Nat.two_pow_pos e; rw [Nat.pow_succ]; omega
theorem splitN_spec {n : Nat} (h : 2 ≤ n) : 1 ≤ splitN n ∧ splitN n < n ∧ n ≤ 2 * splitN n := splitFrom_spec 1 n (by omega) (by omega)
theorem splitN_pow (n : Nat) : ∃ d, splitN n = 2 ^ d := splitFrom_pow 0 n
theorem pow_between {a b n : Nat} (h1 : 2 ^ a < n) (h2 : n ≤ 2 * 2 ^ a) (h3 : 2 ^ b < n) (h4 : n ≤ 2 * 2 ^ b) : a = b := by
  rw [← Nat.pow_succ'] at h2 h4
  have h5 : 2 ^ a < 2 ^ (b + 1) := by omega
  have h6 : 2 ^ b < 2 ^ (a + 1) := by omega
  have := (Nat.pow_lt_pow_iff_right (by decide : 1 < 2)).1 h5
  have := (Nat.pow_lt_pow_iff_right (by decide : 1 < 2)).1 h6
  omega
theorem splitN_unique {a n : Nat} (h1 : 2 ^ a < n) (h2 : n ≤ 2 * 2 ^ a) : splitN n = 2 ^ a := by
  have := Nat.two_pow_pos a
  obtain ⟨d, hd⟩ := splitN_pow n
  have hs := splitN_spec (n := n) (by omega)
  rw [hd] at hs ⊢
  rw [pow_between hs.2.1 hs.2.2 h1 h2]

/-- The root with a digest at a place, and a path; and whether the path has the right length. -/
def upL (d : List Int) (i n : Nat) (p : List (List Int)) : List Int × Bool :=
  if _h : n ≤ 1 then (d, decide (p.length = 0)) else
  if p.length = 0 then ([], false) else
  if i < splitN n then (nodeL (upL d i (splitN n) p.dropLast).1 (p.getD (p.length - 1) []), (upL d i (splitN n) p.dropLast).2) else
    (nodeL (p.getD (p.length - 1) []) (upL d (i - splitN n) (n - splitN n) p.dropLast).1, (upL d (i - splitN n) (n - splitN n) p.dropLast).2)
termination_by n
decreasing_by all_goals (have := splitN_spec (n := n) (by omega); omega)
theorem upL_one {d : List Int} {i n : Nat} {p : List (List Int)} (h : n ≤ 1) : upL d i n p = (d, decide (p.length = 0)) := by rw [upL, dif_pos h]
theorem upL_none {d : List Int} {i n : Nat} {p : List (List Int)} (h : 2 ≤ n) (hp : p.length = 0) : upL d i n p = ([], false) := by rw [upL, dif_neg (by omega), if_pos hp]
theorem upL_left {d : List Int} {i n : Nat} {p : List (List Int)} (h : 2 ≤ n) (hp : p.length ≠ 0) (hi : i < splitN n) : upL d i n p = (nodeL (upL d i (splitN n) p.dropLast).1 (p.getD (p.length - 1) []), (upL d i (splitN n) p.dropLast).2) := by
  conv => lhs; rw [upL]
  rw [dif_neg (by omega), if_neg hp, if_pos hi]
theorem upL_right {d : List Int} {i n : Nat} {p : List (List Int)} (h : 2 ≤ n) (hp : p.length ≠ 0) (hi : ¬ i < splitN n) : upL d i n p = (nodeL (p.getD (p.length - 1) []) (upL d (i - splitN n) (n - splitN n) p.dropLast).1, (upL d (i - splitN n) (n - splitN n) p.dropLast).2) := by
  conv => lhs; rw [upL]
  rw [dif_neg (by omega), if_neg hp, if_neg hi]

/-- Two roots: of the first m of n, and of all. -/
def twoL (m n : Nat) (whole : Bool) (old : List Int) (p : List (List Int)) : List Int × List Int × Bool :=
  if m = n then (if whole then (old, old, decide (p.length = 0)) else if p.length ≠ 1 then ([], [], false) else (p.getD 0 [], p.getD 0 [], true)) else
  if p.length = 0 then ([], [], false) else
  if _h : n ≤ 1 then ([], [], false) else
  if m ≤ splitN n then ((twoL m (splitN n) whole old p.dropLast).1, nodeL (twoL m (splitN n) whole old p.dropLast).2.1 (p.getD (p.length - 1) []), (twoL m (splitN n) whole old p.dropLast).2.2) else
    (nodeL (p.getD (p.length - 1) []) (twoL (m - splitN n) (n - splitN n) false old p.dropLast).1, nodeL (p.getD (p.length - 1) []) (twoL (m - splitN n) (n - splitN n) false old p.dropLast).2.1, (twoL (m - splitN n) (n - splitN n) false old p.dropLast).2.2)
termination_by n
decreasing_by all_goals (have := splitN_spec (n := n) (by omega); omega)
theorem twoL_whole (n : Nat) (old : List Int) (p : List (List Int)) : twoL n n true old p = (old, old, decide (p.length = 0)) := by rw [twoL, if_pos rfl, if_pos rfl]
theorem twoL_part {n : Nat} {old : List Int} {p : List (List Int)} (h : p.length = 1) : twoL n n false old p = (p.getD 0 [], p.getD 0 [], true) := by
  rw [twoL, if_pos rfl, if_neg (by decide), if_neg (by omega)]
theorem twoL_other {n : Nat} {old : List Int} {p : List (List Int)} (h : p.length ≠ 1) : twoL n n false old p = ([], [], false) := by
  rw [twoL, if_pos rfl, if_neg (by decide), if_pos h]
theorem twoL_none {m n : Nat} {whole : Bool} {old : List Int} {p : List (List Int)} (hn : m ≠ n) (h : p.length = 0) : twoL m n whole old p = ([], [], false) := by
  rw [twoL, if_neg hn, if_pos h]
theorem twoL_left {m n : Nat} {whole : Bool} {old : List Int} {p : List (List Int)} (hn : m ≠ n) (h2 : 2 ≤ n) (h : p.length ≠ 0) (hm : m ≤ splitN n) : twoL m n whole old p =
    ((twoL m (splitN n) whole old p.dropLast).1, nodeL (twoL m (splitN n) whole old p.dropLast).2.1 (p.getD (p.length - 1) []), (twoL m (splitN n) whole old p.dropLast).2.2) := by
  conv => lhs; rw [twoL]
  rw [if_neg hn, if_neg h, dif_neg (by omega), if_pos hm]
theorem twoL_right {m n : Nat} {whole : Bool} {old : List Int} {p : List (List Int)} (hn : m ≠ n) (h2 : 2 ≤ n) (h : p.length ≠ 0) (hm : ¬ m ≤ splitN n) : twoL m n whole old p =
    (nodeL (p.getD (p.length - 1) []) (twoL (m - splitN n) (n - splitN n) false old p.dropLast).1, nodeL (p.getD (p.length - 1) []) (twoL (m - splitN n) (n - splitN n) false old p.dropLast).2.1, (twoL (m - splitN n) (n - splitN n) false old p.dropLast).2.2) := by
  conv => lhs; rw [twoL]
  rw [if_neg hn, if_neg h, dif_neg (by omega), if_neg hm]

/-- All of them are digests. -/
def Digs (p : List (List Int)) : Prop := ∀ d ∈ p, d.length = 32
theorem shaL_len (zs : List Int) : (shaL zs).length = 32 := outTo_length _ 8 (by omega)
theorem leafL_length (b : List Int) : (leafL b).length = 32 := shaL_len _
theorem nodeL_length (a b : List Int) : (nodeL a b).length = 32 := shaL_len _
end Go.Proofs.YtkjlchfmplcobaaDoor
