/- The plain mathematics of right edges: leaf by leaf they have the root. Nothing of the program is in it. -/
import Derived.Test.YtkjlchfmplcobabDoorTreeMath
namespace Go.Proofs.YtkjlchfmplcobabDoor

/-- How many ones a number has. -/
def onesN (n : Nat) : Nat := if _h : n = 0 then 0 else n % 2 + onesN (n / 2)
termination_by n
decreasing_by omega
theorem onesN_zero : onesN 0 = 0 := by rw [onesN, dif_pos rfl]
theorem onesN_more {n : Nat} (h : n ≠ 0) : onesN n = n % 2 + onesN (n / 2) := by rw [onesN, dif_neg h]
theorem onesN_even (q : Nat) : onesN (2 * q) = onesN q := by
  by_cases h : q = 0
  · subst h; rfl
  · rw [onesN_more (by omega), show 2 * q % 2 = 0 by omega, show 2 * q / 2 = q by omega]; omega
theorem onesN_odd (q : Nat) : onesN (2 * q + 1) = onesN q + 1 := by
  rw [onesN_more (by omega), show (2 * q + 1) % 2 = 1 by omega, show (2 * q + 1) / 2 = q by omega]; omega

/-- A digest more at an edge: two parts of as many leaves are one. -/
def pushL (ps : List (List Int)) (n : Nat) (d : List Int) : List (List Int) :=
  if _h : n % 2 = 1 then pushL ps.dropLast (n / 2) (nodeL (ps.getD (ps.length - 1) []) d) else ps ++ [d]
termination_by n
decreasing_by omega
theorem pushL_odd {ps : List (List Int)} {n : Nat} {d : List Int} (h : n % 2 = 1) : pushL ps n d = pushL ps.dropLast (n / 2) (nodeL (ps.getD (ps.length - 1) []) d) := by rw [pushL, dif_pos h]
theorem pushL_even {ps : List (List Int)} {n : Nat} {d : List Int} (h : n % 2 ≠ 1) : pushL ps n d = ps ++ [d] := by rw [pushL, dif_neg h]
/-- The last part, put together from the right. -/
def topL (ps : List (List Int)) : List Int := if ps.length = 0 then shaL [] else ps.dropLast.foldr nodeL (ps.getD (ps.length - 1) [])
theorem topL_nil : topL [] = shaL [] := rfl
theorem topL_one (d : List Int) : topL [d] = d := rfl
theorem topL_cons (d : List Int) (ps : List (List Int)) (h : ps ≠ []) : topL (d :: ps) = nodeL d (topL ps) := by
  obtain ⟨x, xs, rfl⟩ := List.exists_cons_of_ne_nil h
  unfold topL
  rw [if_neg (by simp), if_neg (by simp), List.dropLast_cons_of_ne_nil (by simp), List.foldr_cons]
  congr 1

/-- The greatest power of two that is not above n. -/
def bigN (n : Nat) : Nat := splitN (n + 1)
theorem bigN_spec {n : Nat} (h : 1 ≤ n) : 1 ≤ bigN n ∧ bigN n ≤ n ∧ n < 2 * bigN n := by
  have := splitN_spec (n := n + 1) (by omega)
  unfold bigN; omega
theorem bigN_pow (n : Nat) : ∃ d, bigN n = 2 ^ d := splitN_pow (n + 1)
theorem bigN_unique {a n : Nat} (h1 : 2 ^ a ≤ n) (h2 : n < 2 * 2 ^ a) : bigN n = 2 ^ a := splitN_unique (by omega) (by omega)

/-- The right edge of leaves. -/
def edgeL (ls : List (List Int)) : List (List Int) :=
  if _h : ls.length = 0 then [] else mth (ls.take (bigN ls.length)) :: edgeL (ls.drop (bigN ls.length))
termination_by ls.length
decreasing_by have := bigN_spec (n := ls.length) (by omega); rw [List.length_drop]; omega
theorem edgeL_nil {ls : List (List Int)} (h : ls.length = 0) : edgeL ls = [] := by rw [edgeL, dif_pos h]
theorem edgeL_more {ls : List (List Int)} (h : ls.length ≠ 0) : edgeL ls = mth (ls.take (bigN ls.length)) :: edgeL (ls.drop (bigN ls.length)) := by
  conv => lhs; rw [edgeL]
  rw [dif_neg h]

theorem edge_one {bs : List (List Int)} {j : Nat} (h : bs.length = 2 ^ j) : edgeL bs = [mth bs] := by
  have hp := Nat.two_pow_pos j
  have hb : bigN bs.length = 2 ^ j := bigN_unique (by omega) (by omega)
  rw [edgeL_more (by omega), hb, ← h, List.take_length, List.drop_length, edgeL_nil rfl]
theorem edge_top (ls : List (List Int)) : topL (edgeL ls) = mth ls := by
  by_cases h0 : ls.length = 0
  · rw [edgeL_nil h0, topL_nil, mth_nil h0]
  · have hs := bigN_spec (n := ls.length) (by omega)
    obtain ⟨d, hd⟩ := bigN_pow ls.length
    by_cases he : ls.length = bigN ls.length
    · rw [edge_one (j := d) (by omega), topL_one]
    · have hk : splitN ls.length = bigN ls.length := by
        rw [hd]; rw [hd] at hs he
        exact splitN_unique (by omega) (by omega)
      have hl : (ls.drop (bigN ls.length)).length = ls.length - bigN ls.length := List.length_drop
      have ih := edge_top (ls.drop (bigN ls.length))
      rw [edgeL_more h0, topL_cons _ _ (by rw [edgeL_more (by omega)]; simp), ih, mth_more (ls := ls) (by omega), hk]
termination_by ls.length

/-- A block behind leaves whose number it divides twice. -/
theorem edge_even (ls bs : List (List Int)) (j q : Nat) (hn : ls.length = 2 ^ (j + 1) * q) (hb : bs.length = 2 ^ j) : edgeL (ls ++ bs) = edgeL ls ++ [mth bs] := by
  have hp := Nat.two_pow_pos j
  by_cases h0 : ls.length = 0
  · obtain rfl := List.eq_nil_of_length_eq_zero h0
    rw [edgeL_nil (ls := []) rfl, List.nil_append, List.nil_append, edge_one hb]
  · have hs := bigN_spec (n := ls.length) (by omega)
    obtain ⟨d, hd⟩ := bigN_pow ls.length
    have hjd : j + 1 ≤ d := by
      have h1 : 2 ^ (j + 1) ≤ ls.length := by
        rw [hn]
        rcases Nat.eq_zero_or_pos q with h | h
        · subst h; rw [Nat.mul_zero] at hn; omega
        · exact Nat.le_mul_of_pos_right _ h
      have h2 : 2 ^ (j + 1) < 2 ^ (d + 1) := by rw [Nat.pow_succ 2 d]; omega
      have := (Nat.pow_lt_pow_iff_right (by decide : 1 < 2)).1 h2
      omega
    obtain ⟨c, hc⟩ := Nat.exists_eq_add_of_le hjd
    have hd2 : 2 ^ d = 2 ^ (j + 1) * 2 ^ c := by rw [hc, Nat.pow_add]
    have hlt : q < 2 * 2 ^ c := by
      have h3 : 2 ^ (j + 1) * q < 2 ^ (j + 1) * (2 * 2 ^ c) := by
        rw [← hn, Nat.mul_left_comm, ← hd2, ← hd]; omega
      exact Nat.lt_of_mul_lt_mul_left h3
    have hroom : ls.length + 2 ^ (j + 1) ≤ 2 * 2 ^ d := by
      have h4 : 2 ^ (j + 1) * (q + 1) ≤ 2 ^ (j + 1) * (2 * 2 ^ c) := Nat.mul_le_mul_left _ hlt
      rw [Nat.mul_add, Nat.mul_one, ← hn, Nat.mul_left_comm, ← hd2] at h4
      exact h4
    have hjj : 2 ^ (j + 1) = 2 * 2 ^ j := Nat.pow_succ'
    have hlen : (ls ++ bs).length = ls.length + 2 ^ j := by rw [List.length_append, hb]
    have hbig : bigN (ls ++ bs).length = bigN ls.length := by
      rw [hlen, hd]; rw [hd] at hs
      exact bigN_unique (by omega) (by omega)
    have hql : 2 ^ c ≤ q := by
      have h5 : 2 ^ (j + 1) * 2 ^ c ≤ 2 ^ (j + 1) * q := by rw [← hd2, ← hn, ← hd]; omega
      exact Nat.le_of_mul_le_mul_left h5 (Nat.two_pow_pos _)
    have hl : (ls.drop (bigN ls.length)).length = 2 ^ (j + 1) * (q - 2 ^ c) := by
      rw [List.length_drop, hd, hd2, Nat.mul_sub, ← hn]
    have ih := edge_even (ls.drop (bigN ls.length)) bs j (q - 2 ^ c) hl hb
    rw [edgeL_more (ls := ls ++ bs) (by omega), hbig, edgeL_more (ls := ls) h0, List.take_append_of_le_length (by omega), List.drop_append_of_le_length (by omega), ih, List.cons_append]
termination_by ls.length
decreasing_by rw [List.length_drop]; omega

theorem node_block {a b : List (List Int)} {j : Nat} (ha : a.length = 2 ^ j) (hb : b.length = 2 ^ j) : nodeL (mth a) (mth b) = mth (a ++ b) := by
  have hp := Nat.two_pow_pos j
  have hl : (a ++ b).length = 2 * 2 ^ j := by rw [List.length_append]; omega
  have hs : splitN (a ++ b).length = a.length := by rw [ha]; exact splitN_unique (by omega) (by omega)
  rw [mth_more (ls := a ++ b) (by omega), hs, List.take_left, List.drop_left]

/-- A block more. -/
theorem edge_push (q : Nat) : ∀ (ls bs : List (List Int)) (j : Nat), ls.length = 2 ^ j * q → bs.length = 2 ^ j → pushL (edgeL ls) q (mth bs) = edgeL (ls ++ bs) := by
  induction q using Nat.strongRecOn with
  | ind q ih =>
    intro ls bs j hn hb
    have hjj : 2 ^ (j + 1) = 2 * 2 ^ j := Nat.pow_succ'
    have hp := Nat.two_pow_pos j
    by_cases ho : q % 2 = 1
    · obtain ⟨r, rfl⟩ : ∃ r, q = 2 * r + 1 := ⟨q / 2, by omega⟩
      have hl : ls.length = 2 ^ (j + 1) * r + 2 ^ j := by rw [hn, hjj, Nat.mul_add, Nat.mul_one, ← Nat.mul_assoc, Nat.mul_comm (2 ^ j) 2]
      have e : ls.take (2 ^ (j + 1) * r) ++ ls.drop (2 ^ (j + 1) * r) = ls := List.take_append_drop _ _
      have h1 : (ls.take (2 ^ (j + 1) * r)).length = 2 ^ (j + 1) * r := by rw [List.length_take]; omega
      have h2 : (ls.drop (2 ^ (j + 1) * r)).length = 2 ^ j := by rw [List.length_drop]; omega
      have h3 := edge_even _ _ j r h1 h2
      rw [e] at h3
      rw [pushL_odd ho, h3, last_snoc, List.dropLast_concat, node_block h2 hb, show (2 * r + 1) / 2 = r by omega,
        ih r (by omega) _ _ (j + 1) h1 (by rw [List.length_append]; omega), ← List.append_assoc, e]
    · obtain ⟨r, rfl⟩ : ∃ r, q = 2 * r := ⟨q / 2, by omega⟩
      rw [pushL_even ho, edge_even ls bs j r (by rw [hn, hjj, ← Nat.mul_assoc, Nat.mul_comm (2 ^ j) 2]) hb]
theorem edge_leaf (ls : List (List Int)) (b : List Int) : pushL (edgeL ls) ls.length (leafL b) = edgeL (ls ++ [b]) := by
  have := edge_push ls.length ls [b] 0 (by omega) rfl
  rw [← this, mth_one rfl]; rfl

/-- As many parts as the size has ones. -/
theorem edge_ones (q : Nat) : ∀ (ls : List (List Int)) (j : Nat), ls.length = 2 ^ j * q → (edgeL ls).length = onesN q := by
  induction q using Nat.strongRecOn with
  | ind q ih =>
    intro ls j hn
    have hjj : 2 ^ (j + 1) = 2 * 2 ^ j := Nat.pow_succ'
    have hp := Nat.two_pow_pos j
    by_cases h0 : q = 0
    · subst h0
      rw [edgeL_nil (by omega), onesN_zero]; rfl
    by_cases ho : q % 2 = 1
    · obtain ⟨r, rfl⟩ : ∃ r, q = 2 * r + 1 := ⟨q / 2, by omega⟩
      have hl : ls.length = 2 ^ (j + 1) * r + 2 ^ j := by rw [hn, hjj, Nat.mul_add, Nat.mul_one, ← Nat.mul_assoc, Nat.mul_comm (2 ^ j) 2]
      have e : ls.take (2 ^ (j + 1) * r) ++ ls.drop (2 ^ (j + 1) * r) = ls := List.take_append_drop _ _
      have h1 : (ls.take (2 ^ (j + 1) * r)).length = 2 ^ (j + 1) * r := by rw [List.length_take]; omega
      have h2 : (ls.drop (2 ^ (j + 1) * r)).length = 2 ^ j := by rw [List.length_drop]; omega
      have h3 := edge_even _ _ j r h1 h2
      rw [e] at h3
      rw [h3, List.length_append, ih r (by omega) _ (j + 1) h1, onesN_odd]; rfl
    · obtain ⟨r, rfl⟩ : ∃ r, q = 2 * r := ⟨q / 2, by omega⟩
      rw [onesN_even]
      exact ih r (by omega) ls (j + 1) (by rw [hn, hjj, ← Nat.mul_assoc, Nat.mul_comm (2 ^ j) 2])
theorem edge_length (ls : List (List Int)) : (edgeL ls).length = onesN ls.length := edge_ones ls.length ls 0 (by omega)
theorem edge_digs (ls : List (List Int)) : Digs (edgeL ls) := by
  by_cases h0 : ls.length = 0
  · rw [edgeL_nil h0]; intro d hd; cases hd
  · have hs := bigN_spec (n := ls.length) (by omega)
    have ih := edge_digs (ls.drop (bigN ls.length))
    rw [edgeL_more h0]
    intro d hd
    rcases List.mem_cons.1 hd with h | h
    · rw [h]; exact mth_length _
    · exact ih d h
termination_by ls.length
decreasing_by rw [List.length_drop]; omega

end Go.Proofs.YtkjlchfmplcobabDoor
