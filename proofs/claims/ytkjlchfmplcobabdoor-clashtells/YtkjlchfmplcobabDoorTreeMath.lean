/- The plain mathematics of Merkle's trees: roots, paths, proofs, and what they show. Nothing of the program is in it. -/
import Derived.Test.YtkjlchfmplcobabDoorShaSum
namespace Go.Proofs.YtkjlchfmplcobabDoor

/-- What a leaf's digest is, and that of two. -/
def leafL (b : List Int) : List Int := shaL (0 :: b)
def nodeL (a b : List Int) : List Int := shaL (1 :: (a ++ b))

/-- Doubled from k on, while the double is below n. -/
def splitFrom (k n : Nat) : Nat := if h : 0 < k ∧ 2 * k < n then splitFrom (2 * k) n else k
termination_by n - k
decreasing_by omega
/-- The greatest power of two below n. -/
def splitN (n : Nat) : Nat := splitFrom 1 n
theorem splitFrom_next {k n : Nat} (h0 : 0 < k) (h : 2 * k < n) : splitFrom k n = splitFrom (2 * k) n := by
  rw [splitFrom, dif_pos ⟨h0, h⟩]
theorem splitFrom_end {k n : Nat} (h : ¬ 2 * k < n) : splitFrom k n = k := by
  rw [splitFrom, dif_neg (by omega)]
theorem splitFrom_spec (k n : Nat) (h0 : 0 < k) (h : k < n) : k ≤ splitFrom k n ∧ splitFrom k n < n ∧ n ≤ 2 * splitFrom k n := by
  by_cases h2 : 2 * k < n
  · rw [splitFrom_next h0 h2]
    have := splitFrom_spec (2 * k) n (by omega) h2
    omega
  · rw [splitFrom_end h2]; omega
termination_by n - k
theorem splitFrom_pow (e n : Nat) : ∃ d, splitFrom (2 ^ e) n = 2 ^ d := by
  by_cases h2 : 2 * 2 ^ e < n
  · rw [splitFrom_next (Nat.two_pow_pos e) h2, ← Nat.pow_succ']
    exact splitFrom_pow (e + 1) n
  · exact ⟨e, splitFrom_end h2⟩
termination_by n - 2 ^ e
decreasing_by have := Nat.two_pow_pos e; rw [Nat.pow_succ]; omega
theorem splitN_spec {n : Nat} (h : 2 ≤ n) : 1 ≤ splitN n ∧ splitN n < n ∧ n ≤ 2 * splitN n := splitFrom_spec 1 n (by omega) (by omega)
theorem splitN_pow (n : Nat) : ∃ d, splitN n = 2 ^ d := splitFrom_pow 0 n
theorem pow_between {a b n : Nat} (h1 : 2 ^ a < n) (h2 : n ≤ 2 * 2 ^ a) (h3 : 2 ^ b < n) (h4 : n ≤ 2 * 2 ^ b) : a = b := by
  rw [← Nat.pow_succ'] at h2 h4
  have h5 : 2 ^ a < 2 ^ (b + 1) := by omega
  have h6 : 2 ^ b < 2 ^ (a + 1) := by omega
  have := (Nat.pow_lt_pow_iff_right (by decide : 1 < 2)).1 h5
  have := (Nat.pow_lt_pow_iff_right (by decide : 1 < 2)).1 h6
  omega
theorem splitN_unique {a n : Nat} (h1 : 2 ^ a < n) (h2 : n ≤ 2 * 2 ^ a) : splitN n = 2 ^ a := by
  have := Nat.two_pow_pos a
  obtain ⟨d, hd⟩ := splitN_pow n
  have hs := splitN_spec (n := n) (by omega)
  rw [hd] at hs ⊢
  rw [pow_between hs.2.1 hs.2.2 h1 h2]

/-- The root of leaves. -/
def mth (ls : List (List Int)) : List Int :=
  if ls.length = 0 then shaL [] else
  if _h : ls.length ≤ 1 then leafL (ls.getD 0 []) else
    nodeL (mth (ls.take (splitN ls.length))) (mth (ls.drop (splitN ls.length)))
termination_by ls.length
decreasing_by
  · have := splitN_spec (n := ls.length) (by omega); rw [List.length_take]; omega
  · have := splitN_spec (n := ls.length) (by omega); rw [List.length_drop]; omega
theorem mth_nil {ls : List (List Int)} (h : ls.length = 0) : mth ls = shaL [] := by rw [mth, if_pos h]
theorem mth_one {ls : List (List Int)} (h : ls.length = 1) : mth ls = leafL (ls.getD 0 []) := by rw [mth, if_neg (by omega), dif_pos (by omega)]
theorem mth_more {ls : List (List Int)} (h : 2 ≤ ls.length) : mth ls = nodeL (mth (ls.take (splitN ls.length))) (mth (ls.drop (splitN ls.length))) := by
  rw [mth, if_neg (by omega), dif_neg (by omega)]

/-- The path of a leaf. -/
def pathL (ls : List (List Int)) (i : Nat) : List (List Int) :=
  if _h : ls.length ≤ 1 then [] else
  if i < splitN ls.length then pathL (ls.take (splitN ls.length)) i ++ [mth (ls.drop (splitN ls.length))] else
    pathL (ls.drop (splitN ls.length)) (i - splitN ls.length) ++ [mth (ls.take (splitN ls.length))]
termination_by ls.length
decreasing_by
  · have := splitN_spec (n := ls.length) (by omega); rw [List.length_take]; omega
  · have := splitN_spec (n := ls.length) (by omega); rw [List.length_drop]; omega
theorem pathL_one {ls : List (List Int)} {i : Nat} (h : ls.length ≤ 1) : pathL ls i = [] := by rw [pathL, dif_pos h]
theorem pathL_left {ls : List (List Int)} {i : Nat} (h : 2 ≤ ls.length) (hi : i < splitN ls.length) : pathL ls i = pathL (ls.take (splitN ls.length)) i ++ [mth (ls.drop (splitN ls.length))] := by
  rw [pathL, dif_neg (by omega), if_pos hi]
theorem pathL_right {ls : List (List Int)} {i : Nat} (h : 2 ≤ ls.length) (hi : ¬ i < splitN ls.length) : pathL ls i = pathL (ls.drop (splitN ls.length)) (i - splitN ls.length) ++ [mth (ls.take (splitN ls.length))] := by
  rw [pathL, dif_neg (by omega), if_neg hi]

/-- The proof that the first m leaves are the beginning. -/
def proofL (ls : List (List Int)) (m : Nat) (whole : Bool) : List (List Int) :=
  if m = ls.length then (if whole then [] else [mth ls]) else
  if _h : ls.length ≤ 1 then [] else
  if m ≤ splitN ls.length then proofL (ls.take (splitN ls.length)) m whole ++ [mth (ls.drop (splitN ls.length))] else
    proofL (ls.drop (splitN ls.length)) (m - splitN ls.length) false ++ [mth (ls.take (splitN ls.length))]
termination_by ls.length
decreasing_by
  · have := splitN_spec (n := ls.length) (by omega); rw [List.length_take]; omega
  · have := splitN_spec (n := ls.length) (by omega); rw [List.length_drop]; omega
theorem proofL_whole (ls : List (List Int)) : proofL ls ls.length true = [] := by rw [proofL, if_pos rfl, if_pos rfl]
theorem proofL_part (ls : List (List Int)) : proofL ls ls.length false = [mth ls] := by rw [proofL, if_pos rfl]; rfl
theorem proofL_left {ls : List (List Int)} {m : Nat} {whole : Bool} (hn : m ≠ ls.length) (h : 2 ≤ ls.length) (hm : m ≤ splitN ls.length) : proofL ls m whole = proofL (ls.take (splitN ls.length)) m whole ++ [mth (ls.drop (splitN ls.length))] := by
  rw [proofL, if_neg hn, dif_neg (by omega), if_pos hm]
theorem proofL_right {ls : List (List Int)} {m : Nat} {whole : Bool} (hn : m ≠ ls.length) (h : 2 ≤ ls.length) (hm : ¬ m ≤ splitN ls.length) : proofL ls m whole = proofL (ls.drop (splitN ls.length)) (m - splitN ls.length) false ++ [mth (ls.take (splitN ls.length))] := by
  rw [proofL, if_neg hn, dif_neg (by omega), if_neg hm]

/-- The root with a digest at a place, and a path; and whether the path has the right length. -/
def upL (d : List Int) (i n : Nat) (p : List (List Int)) : List Int × Bool :=
  if _h : n ≤ 1 then (d, decide (p.length = 0)) else
  if p.length = 0 then ([], false) else
  if i < splitN n then (nodeL (upL d i (splitN n) p.dropLast).1 (p.getD (p.length - 1) []), (upL d i (splitN n) p.dropLast).2) else
    (nodeL (p.getD (p.length - 1) []) (upL d (i - splitN n) (n - splitN n) p.dropLast).1, (upL d (i - splitN n) (n - splitN n) p.dropLast).2)
termination_by n
decreasing_by all_goals (have := splitN_spec (n := n) (by omega); omega)
theorem upL_one {d : List Int} {i n : Nat} {p : List (List Int)} (h : n ≤ 1) : upL d i n p = (d, decide (p.length = 0)) := by rw [upL, dif_pos h]
theorem upL_none {d : List Int} {i n : Nat} {p : List (List Int)} (h : 2 ≤ n) (hp : p.length = 0) : upL d i n p = ([], false) := by rw [upL, dif_neg (by omega), if_pos hp]
theorem upL_left {d : List Int} {i n : Nat} {p : List (List Int)} (h : 2 ≤ n) (hp : p.length ≠ 0) (hi : i < splitN n) : upL d i n p = (nodeL (upL d i (splitN n) p.dropLast).1 (p.getD (p.length - 1) []), (upL d i (splitN n) p.dropLast).2) := by
  conv => lhs; rw [upL]
  rw [dif_neg (by omega), if_neg hp, if_pos hi]
theorem upL_right {d : List Int} {i n : Nat} {p : List (List Int)} (h : 2 ≤ n) (hp : p.length ≠ 0) (hi : ¬ i < splitN n) : upL d i n p = (nodeL (p.getD (p.length - 1) []) (upL d (i - splitN n) (n - splitN n) p.dropLast).1, (upL d (i - splitN n) (n - splitN n) p.dropLast).2) := by
  conv => lhs; rw [upL]
  rw [dif_neg (by omega), if_neg hp, if_neg hi]

/-- Two roots: of the first m of n, and of all. -/
def twoL (m n : Nat) (whole : Bool) (old : List Int) (p : List (List Int)) : List Int × List Int × Bool :=
  if m = n then (if whole then (old, old, decide (p.length = 0)) else if p.length ≠ 1 then ([], [], false) else (p.getD 0 [], p.getD 0 [], true)) else
  if p.length = 0 then ([], [], false) else
  if _h : n ≤ 1 then ([], [], false) else
  if m ≤ splitN n then ((twoL m (splitN n) whole old p.dropLast).1, nodeL (twoL m (splitN n) whole old p.dropLast).2.1 (p.getD (p.length - 1) []), (twoL m (splitN n) whole old p.dropLast).2.2) else
    (nodeL (p.getD (p.length - 1) []) (twoL (m - splitN n) (n - splitN n) false old p.dropLast).1, nodeL (p.getD (p.length - 1) []) (twoL (m - splitN n) (n - splitN n) false old p.dropLast).2.1, (twoL (m - splitN n) (n - splitN n) false old p.dropLast).2.2)
termination_by n
decreasing_by all_goals (have := splitN_spec (n := n) (by omega); omega)
theorem twoL_whole (n : Nat) (old : List Int) (p : List (List Int)) : twoL n n true old p = (old, old, decide (p.length = 0)) := by rw [twoL, if_pos rfl, if_pos rfl]
theorem twoL_part {n : Nat} {old : List Int} {p : List (List Int)} (h : p.length = 1) : twoL n n false old p = (p.getD 0 [], p.getD 0 [], true) := by
  rw [twoL, if_pos rfl, if_neg (by decide), if_neg (by omega)]
theorem twoL_other {n : Nat} {old : List Int} {p : List (List Int)} (h : p.length ≠ 1) : twoL n n false old p = ([], [], false) := by
  rw [twoL, if_pos rfl, if_neg (by decide), if_pos h]
theorem twoL_none {m n : Nat} {whole : Bool} {old : List Int} {p : List (List Int)} (hn : m ≠ n) (h : p.length = 0) : twoL m n whole old p = ([], [], false) := by
  rw [twoL, if_neg hn, if_pos h]
theorem twoL_left {m n : Nat} {whole : Bool} {old : List Int} {p : List (List Int)} (hn : m ≠ n) (h2 : 2 ≤ n) (h : p.length ≠ 0) (hm : m ≤ splitN n) : twoL m n whole old p =
    ((twoL m (splitN n) whole old p.dropLast).1, nodeL (twoL m (splitN n) whole old p.dropLast).2.1 (p.getD (p.length - 1) []), (twoL m (splitN n) whole old p.dropLast).2.2) := by
  conv => lhs; rw [twoL]
  rw [if_neg hn, if_neg h, dif_neg (by omega), if_pos hm]
theorem twoL_right {m n : Nat} {whole : Bool} {old : List Int} {p : List (List Int)} (hn : m ≠ n) (h2 : 2 ≤ n) (h : p.length ≠ 0) (hm : ¬ m ≤ splitN n) : twoL m n whole old p =
    (nodeL (p.getD (p.length - 1) []) (twoL (m - splitN n) (n - splitN n) false old p.dropLast).1, nodeL (p.getD (p.length - 1) []) (twoL (m - splitN n) (n - splitN n) false old p.dropLast).2.1, (twoL (m - splitN n) (n - splitN n) false old p.dropLast).2.2) := by
  conv => lhs; rw [twoL]
  rw [if_neg hn, if_neg h, dif_neg (by omega), if_neg hm]

theorem last_snoc (l : List (List Int)) (x : List Int) : (l ++ [x]).getD ((l ++ [x]).length - 1) [] = x := by
  rw [List.getD_eq_getElem?_getD, List.length_append, List.length_singleton, Nat.add_sub_cancel, List.getElem?_append_right (Nat.le_refl _)]
  simp
theorem snoc_ne (l : List (List Int)) (x : List Int) : (l ++ [x]).length ≠ 0 := by simp

/-- WHAT STANDS THERE IS SHOWN. -/
theorem up_path (ls : List (List Int)) (i : Nat) (hi : i < ls.length) : upL (leafL (ls.getD i [])) i ls.length (pathL ls i) = (mth ls, true) := by
  by_cases h1 : ls.length ≤ 1
  · have : ls.length = 1 := by omega
    obtain rfl : i = 0 := by omega
    rw [upL_one h1, pathL_one h1, mth_one this]; rfl
  · have hs := splitN_spec (n := ls.length) (by omega)
    by_cases hk : i < splitN ls.length
    · have hl : (ls.take (splitN ls.length)).length = splitN ls.length := by rw [List.length_take]; omega
      have ih := up_path (ls.take (splitN ls.length)) i (by omega)
      rw [hl] at ih
      have e : (ls.take (splitN ls.length)).getD i [] = ls.getD i [] := by rw [List.getD_eq_getElem?_getD, List.getD_eq_getElem?_getD, List.getElem?_take, if_pos hk]
      rw [e] at ih
      rw [pathL_left (by omega) hk, upL_left (by omega) (snoc_ne _ _) hk, last_snoc, List.dropLast_concat, ih, mth_more (ls := ls) (by omega)]
    · have hl : (ls.drop (splitN ls.length)).length = ls.length - splitN ls.length := by rw [List.length_drop]
      have ih := up_path (ls.drop (splitN ls.length)) (i - splitN ls.length) (by omega)
      rw [hl] at ih
      have e : (ls.drop (splitN ls.length)).getD (i - splitN ls.length) [] = ls.getD i [] := by
        rw [List.getD_eq_getElem?_getD, List.getD_eq_getElem?_getD, List.getElem?_drop]; congr 2; omega
      rw [e] at ih
      rw [pathL_right (by omega) hk, upL_right (by omega) (snoc_ne _ _) hk, last_snoc, List.dropLast_concat, ih, mth_more (ls := ls) (by omega)]
termination_by ls.length

/-- WHAT GREW IS SHOWN. -/
theorem two_proof (ls : List (List Int)) (m : Nat) (whole : Bool) (old : List Int) (h1 : 1 ≤ m) (hm : m ≤ ls.length) (ho : whole = true → old = mth (ls.take m)) :
    twoL m ls.length whole old (proofL ls m whole) = (mth (ls.take m), mth ls, true) := by
  by_cases he : m = ls.length
  · subst he
    cases whole with
    | true => rw [proofL_whole, twoL_whole, ho rfl, List.take_length]; rfl
    | false => rw [proofL_part, twoL_part rfl, List.take_length]; rfl
  · have hs := splitN_spec (n := ls.length) (by omega)
    by_cases hk : m ≤ splitN ls.length
    · have hl : (ls.take (splitN ls.length)).length = splitN ls.length := by rw [List.length_take]; omega
      have e : (ls.take (splitN ls.length)).take m = ls.take m := by rw [List.take_take, Nat.min_eq_left hk]
      have ih := two_proof (ls.take (splitN ls.length)) m whole old h1 (by omega) (by rw [e]; exact ho)
      rw [hl, e] at ih
      rw [proofL_left he (by omega) hk, twoL_left he (by omega) (snoc_ne _ _) hk, last_snoc, List.dropLast_concat, ih, mth_more (ls := ls) (by omega)]
    · have hl : (ls.drop (splitN ls.length)).length = ls.length - splitN ls.length := by rw [List.length_drop]
      have ih := two_proof (ls.drop (splitN ls.length)) (m - splitN ls.length) false old (by omega) (by omega) (fun h => by cases h)
      rw [hl] at ih
      have hlm : (ls.take m).length = m := by rw [List.length_take]; omega
      have hsm : splitN (ls.take m).length = splitN ls.length := by
        obtain ⟨d, hd⟩ := splitN_pow ls.length
        rw [hlm, hd]
        rw [hd] at hs hk
        exact splitN_unique (by omega) (by omega)
      have e1 : (ls.take m).take (splitN ls.length) = ls.take (splitN ls.length) := by rw [List.take_take, Nat.min_eq_left (by omega)]
      have e2 : (ls.take m).drop (splitN ls.length) = (ls.drop (splitN ls.length)).take (m - splitN ls.length) := by rw [List.drop_take]
      rw [proofL_right he (by omega) hk, twoL_right he (by omega) (snoc_ne _ _) hk, last_snoc, List.dropLast_concat, ih, mth_more (ls := ls) (by omega), mth_more (ls := ls.take m) (by omega), hsm, e1, e2]
termination_by ls.length

/-- All of them are digests. -/
def Digs (p : List (List Int)) : Prop := ∀ d ∈ p, d.length = 32
theorem shaL_len (zs : List Int) : (shaL zs).length = 32 := outTo_length _ 8 (by omega)
theorem leafL_length (b : List Int) : (leafL b).length = 32 := shaL_len _
theorem nodeL_length (a b : List Int) : (nodeL a b).length = 32 := shaL_len _
theorem mth_length (ls : List (List Int)) : (mth ls).length = 32 := by
  rw [mth]; split
  · exact shaL_len _
  · split
    · exact leafL_length _
    · exact nodeL_length _ _
theorem path_digs (ls : List (List Int)) (i : Nat) : Digs (pathL ls i) := by
  by_cases h1 : ls.length ≤ 1
  · rw [pathL_one h1]; intro d hd; cases hd
  · have hs := splitN_spec (n := ls.length) (by omega)
    by_cases hk : i < splitN ls.length
    · rw [pathL_left (by omega) hk]
      have := path_digs (ls.take (splitN ls.length)) i
      intro d hd
      rcases List.mem_append.1 hd with h | h
      · exact this d h
      · rw [List.mem_singleton.1 h]; exact mth_length _
    · rw [pathL_right (by omega) hk]
      have := path_digs (ls.drop (splitN ls.length)) (i - splitN ls.length)
      intro d hd
      rcases List.mem_append.1 hd with h | h
      · exact this d h
      · rw [List.mem_singleton.1 h]; exact mth_length _
termination_by ls.length
decreasing_by
  · rw [List.length_take]; omega
  · rw [List.length_drop]; omega
theorem proof_digs (ls : List (List Int)) (m : Nat) (whole : Bool) : Digs (proofL ls m whole) := by
  by_cases hm : m = ls.length
  · subst hm
    cases whole with
    | true => rw [proofL_whole]; intro d hd; cases hd
    | false => rw [proofL_part]; intro d hd; rw [List.mem_singleton.1 hd]; exact mth_length _
  · by_cases h1 : ls.length ≤ 1
    · rw [proofL, if_neg hm, dif_pos h1]; intro d hd; cases hd
    · have hs := splitN_spec (n := ls.length) (by omega)
      by_cases hk : m ≤ splitN ls.length
      · rw [proofL_left hm (by omega) hk]
        have := proof_digs (ls.take (splitN ls.length)) m whole
        intro d hd
        rcases List.mem_append.1 hd with h | h
        · exact this d h
        · rw [List.mem_singleton.1 h]; exact mth_length _
      · rw [proofL_right hm (by omega) hk]
        have := proof_digs (ls.drop (splitN ls.length)) (m - splitN ls.length) false
        intro d hd
        rcases List.mem_append.1 hd with h | h
        · exact this d h
        · rw [List.mem_singleton.1 h]; exact mth_length _
termination_by ls.length
decreasing_by
  · rw [List.length_take]; omega
  · rw [List.length_drop]; omega

end Go.Proofs.YtkjlchfmplcobabDoor
