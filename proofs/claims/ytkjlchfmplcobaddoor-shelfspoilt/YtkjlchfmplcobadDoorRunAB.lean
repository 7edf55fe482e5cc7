/- TreeMath, TreeMem, TreeFace, TreeLawBase, as one text. -/
import Derived.Test.YtkjlchfmplcobadDoorShaSum
import Derived.Test.YtkjlchfmplcobadDoorProg
import Derived.WalkKit
import Derived.Deep.AppendLies
import Derived.Laws.AppendOwnNone
import Derived.Test.YtkjlchfmplcobadDoorRunAG
/- The plain mathematics of Merkle's trees: roots, paths, proofs, and what they show. Nothing of the program is in it. -/
namespace Go.Proofs.YtkjlchfmplcobadDoor

/-- What a leaf's digest is, and that of two. -/
def leafL (b : List Int) : List Int := shaL (0 :: b)
def nodeL (a b : List Int) : List Int := shaL (1 :: (a ++ b))

/-- Doubled from k on, while the double is below n. -/
def splitFrom (k n : Nat) : Nat := if h : 0 < k ∧ 2 * k < n then splitFrom (2 * k) n else k
termination_by n - k
decreasing_by omega
/-- The greatest power of two below n. -/
def splitN (n : Nat) : Nat := splitFrom 1 n
theorem splitFrom_next {k n : Nat} (h0 : 0 < k) (h : 2 * k < n) : splitFrom k n = splitFrom (2 * k) n := by
  rw [splitFrom, dif_pos ⟨h0, h⟩]
theorem splitFrom_end {k n : Nat} (h : ¬ 2 * k < n) : splitFrom k n = k := by
  rw [splitFrom, dif_neg (by omega)]
theorem splitFrom_spec (k n : Nat) (h0 : 0 < k) (h : k < n) : k ≤ splitFrom k n ∧ splitFrom k n < n ∧ n ≤ 2 * splitFrom k n := by
  by_cases h2 : 2 * k < n
  · rw [splitFrom_next h0 h2]
    have := splitFrom_spec (2 * k) n (by omega) h2
    omega
  · rw [splitFrom_end h2]; omega
termination_by n - k
theorem splitFrom_pow (e n : Nat) : ∃ d, splitFrom (2 ^ e) n = 2 ^ d := by
  by_cases h2 : 2 * 2 ^ e < n
  · rw [splitFrom_next (Nat.two_pow_pos e) h2, ← Nat.pow_succ']
    exact splitFrom_pow (e + 1) n
  · exact ⟨e, splitFrom_end h2⟩
termination_by n - 2 ^ e
decreasing_by have := Nat.two_pow_pos e; rw [Nat.pow_succ]; omega
theorem splitN_spec {n : Nat} (h : 2 ≤ n) : 1 ≤ splitN n ∧ splitN n < n ∧ n ≤ 2 * splitN n := splitFrom_spec 1 n (by omega) (by omega)
theorem splitN_pow (n : Nat) : ∃ d, splitN n = 2 ^ d := splitFrom_pow 0 n
theorem pow_between {a b n : Nat} (h1 : 2 ^ a < n) (h2 : n ≤ 2 * 2 ^ a) (h3 : 2 ^ b < n) (h4 : n ≤ 2 * 2 ^ b) : a = b := by
  rw [← Nat.pow_succ'] at h2 h4
  have h5 : 2 ^ a < 2 ^ (b + 1) := by omega
  have h6 : 2 ^ b < 2 ^ (a + 1) := by omega
  have := (Nat.pow_lt_pow_iff_right (by decide : 1 < 2)).1 h5
  have := (Nat.pow_lt_pow_iff_right (by decide : 1 < 2)).1 h6
  omega
theorem splitN_unique {a n : Nat} (h1 : 2 ^ a < n) (h2 : n ≤ 2 * 2 ^ a) : splitN n = 2 ^ a := by
  have := Nat.two_pow_pos a
  obtain ⟨d, hd⟩ := splitN_pow n
  have hs := splitN_spec (n := n) (by omega)
  rw [hd] at hs ⊢
  rw [pow_between hs.2.1 hs.2.2 h1 h2]

/-- The root of leaves. -/
def mth (ls : List (List Int)) : List Int :=
  if ls.length = 0 then shaL [] else
  if _h : ls.length ≤ 1 then leafL (ls.getD 0 []) else
    nodeL (mth (ls.take (splitN ls.length))) (mth (ls.drop (splitN ls.length)))
termination_by ls.length
decreasing_by
  · have := splitN_spec (n := ls.length) (by omega); rw [List.length_take]; omega
  · have := splitN_spec (n := ls.length) (by omega); rw [List.length_drop]; omega
theorem mth_nil {ls : List (List Int)} (h : ls.length = 0) : mth ls = shaL [] := by rw [mth, if_pos h]
theorem mth_one {ls : List (List Int)} (h : ls.length = 1) : mth ls = leafL (ls.getD 0 []) := by rw [mth, if_neg (by omega), dif_pos (by omega)]
theorem mth_more {ls : List (List Int)} (h : 2 ≤ ls.length) : mth ls = nodeL (mth (ls.take (splitN ls.length))) (mth (ls.drop (splitN ls.length))) := by
  rw [mth, if_neg (by omega), dif_neg (by omega)]

/-- The path of a leaf. -/
def pathL (ls : List (List Int)) (i : Nat) : List (List Int) :=
  if _h : ls.length ≤ 1 then [] else
  if i < splitN ls.length then pathL (ls.take (splitN ls.length)) i ++ [mth (ls.drop (splitN ls.length))] else
    pathL (ls.drop (splitN ls.length)) (i - splitN ls.length) ++ [mth (ls.take (splitN ls.length))]
termination_by ls.length
decreasing_by
  · have := splitN_spec (n := ls.length) (by omega); rw [List.length_take]; omega
  · have := splitN_spec (n := ls.length) (by omega); rw [List.length_drop]; omega
theorem pathL_one {ls : List (List Int)} {i : Nat} (h : ls.length ≤ 1) : pathL ls i = [] := by rw [pathL, dif_pos h]
theorem pathL_left {ls : List (List Int)} {i : Nat} (h : 2 ≤ ls.length) (hi : i < splitN ls.length) : pathL ls i = pathL (ls.take (splitN ls.length)) i ++ [mth (ls.drop (splitN ls.length))] := by
  rw [pathL, dif_neg (by omega), if_pos hi]
theorem pathL_right {ls : List (List Int)} {i : Nat} (h : 2 ≤ ls.length) (hi : ¬ i < splitN ls.length) : pathL ls i = pathL (ls.drop (splitN ls.length)) (i - splitN ls.length) ++ [mth (ls.take (splitN ls.length))] := by
  rw [pathL, dif_neg (by omega), if_neg hi]

/-- The root with a digest at a place, and a path; and whether the path has the right length. -/
def upL (d : List Int) (i n : Nat) (p : List (List Int)) : List Int × Bool :=
  if _h : n ≤ 1 then (d, decide (p.length = 0)) else
  if p.length = 0 then ([], false) else
  if i < splitN n then (nodeL (upL d i (splitN n) p.dropLast).1 (p.getD (p.length - 1) []), (upL d i (splitN n) p.dropLast).2) else
    (nodeL (p.getD (p.length - 1) []) (upL d (i - splitN n) (n - splitN n) p.dropLast).1, (upL d (i - splitN n) (n - splitN n) p.dropLast).2)
termination_by n
decreasing_by all_goals (have := splitN_spec (n := n) (by omega); omega)
theorem upL_one {d : List Int} {i n : Nat} {p : List (List Int)} (h : n ≤ 1) : upL d i n p = (d, decide (p.length = 0)) := by rw [upL, dif_pos h]
theorem upL_none {d : List Int} {i n : Nat} {p : List (List Int)} (h : 2 ≤ n) (hp : p.length = 0) : upL d i n p = ([], false) := by rw [upL, dif_neg (by omega), if_pos hp]
theorem upL_left {d : List Int} {i n : Nat} {p : List (List Int)} (h : 2 ≤ n) (hp : p.length ≠ 0) (hi : i < splitN n) : upL d i n p = (nodeL (upL d i (splitN n) p.dropLast).1 (p.getD (p.length - 1) []), (upL d i (splitN n) p.dropLast).2) := by
  conv => lhs; rw [upL]
  rw [dif_neg (by omega), if_neg hp, if_pos hi]
theorem upL_right {d : List Int} {i n : Nat} {p : List (List Int)} (h : 2 ≤ n) (hp : p.length ≠ 0) (hi : ¬ i < splitN n) : upL d i n p = (nodeL (p.getD (p.length - 1) []) (upL d (i - splitN n) (n - splitN n) p.dropLast).1, (upL d (i - splitN n) (n - splitN n) p.dropLast).2) := by
  conv => lhs; rw [upL]
  rw [dif_neg (by omega), if_neg hp, if_neg hi]

theorem last_snoc (l : List (List Int)) (x : List Int) : (l ++ [x]).getD ((l ++ [x]).length - 1) [] = x := by
  rw [List.getD_eq_getElem?_getD, List.length_append, List.length_singleton, Nat.add_sub_cancel, List.getElem?_append_right (Nat.le_refl _)]
  simp
theorem snoc_ne (l : List (List Int)) (x : List Int) : (l ++ [x]).length ≠ 0 := by simp

/-- WHAT STANDS THERE IS SHOWN. -/
theorem up_path (ls : List (List Int)) (i : Nat) (hi : i < ls.length) : upL (leafL (ls.getD i [])) i ls.length (pathL ls i) = (mth ls, true) := by
  by_cases h1 : ls.length ≤ 1
  · have : ls.length = 1 := by omega
    obtain rfl : i = 0 := by omega
    rw [upL_one h1, pathL_one h1, mth_one this]; rfl
  · have hs := splitN_spec (n := ls.length) (by omega)
    by_cases hk : i < splitN ls.length
    · have hl : (ls.take (splitN ls.length)).length = splitN ls.length := by rw [List.length_take]; omega
      have ih := up_path (ls.take (splitN ls.length)) i (by omega)
      rw [hl] at ih
      have e : (ls.take (splitN ls.length)).getD i [] = ls.getD i [] := by rw [List.getD_eq_getElem?_getD, List.getD_eq_getElem?_getD, List.getElem?_take, if_pos hk]
      rw [e] at ih
      rw [pathL_left (by omega) hk, upL_left (by omega) (snoc_ne _ _) hk, last_snoc, List.dropLast_concat, ih, mth_more (ls := ls) (by omega)]
    · have hl : (ls.drop (splitN ls.length)).length = ls.length - splitN ls.length := by rw [List.length_drop]
      have ih := up_path (ls.drop (splitN ls.length)) (i - splitN ls.length) (by omega)
      rw [hl] at ih
      have e : (ls.drop (splitN ls.length)).getD (i - splitN ls.length) [] = ls.getD i [] := by
        rw [List.getD_eq_getElem?_getD, List.getD_eq_getElem?_getD, List.getElem?_drop]; congr 2; omega
      rw [e] at ih
      rw [pathL_right (by omega) hk, upL_right (by omega) (snoc_ne _ _) hk, last_snoc, List.dropLast_concat, ih, mth_more (ls := ls) (by omega)]
termination_by ls.length

/-- All of them are digests. -/
def Digs (p : List (List Int)) : Prop := ∀ d ∈ p, d.length = 32
theorem shaL_len (zs : List Int) : (shaL zs).length = 32 := outTo_length _ 8 (by omega)
theorem leafL_length (b : List Int) : (leafL b).length = 32 := shaL_len _
theorem nodeL_length (a b : List Int) : (nodeL a b).length = 32 := shaL_len _
theorem mth_length (ls : List (List Int)) : (mth ls).length = 32 := by
  rw [mth]; split
  · exact shaL_len _
  · split
    · exact leafL_length _
    · exact nodeL_length _ _
theorem path_digs (ls : List (List Int)) (i : Nat) : Digs (pathL ls i) := by
  by_cases h1 : ls.length ≤ 1
  · rw [pathL_one h1]; intro d hd; cases hd
  · have hs := splitN_spec (n := ls.length) (by omega)
    by_cases hk : i < splitN ls.length
    · rw [pathL_left (by omega) hk]
      have := path_digs (ls.take (splitN ls.length)) i
      intro d hd
      rcases List.mem_append.1 hd with h | h
      · exact this d h
      · rw [List.mem_singleton.1 h]; exact mth_length _
    · rw [pathL_right (by omega) hk]
      have := path_digs (ls.drop (splitN ls.length)) (i - splitN ls.length)
      intro d hd
      rcases List.mem_append.1 hd with h | h
      · exact this d h
      · rw [List.mem_singleton.1 h]; exact mth_length _
termination_by ls.length
decreasing_by
  · rw [List.length_take]; omega
  · rw [List.length_drop]; omega
end Go.Proofs.YtkjlchfmplcobadDoor

/- What trees' answers are, and lists of bytes in memory. Nothing of the program's functions is in it. -/
namespace Go.Proofs.YtkjlchfmplcobadDoor
open Go.RowKit

theorem PartsAt.form {w : World} {v : Value} {L : List (List Int)} (h : PartsAt w v L) : ∃ a c, v = .slice a L.length c ∧ (L.length = 0 ∨ ∃ b off, a = some ⟨b, off, none⟩ ∧ b < w.heap.size ∧ ∀ j, j < L.length → ∃ a c, w.cell? ⟨b, off + j, none⟩ = some (.slice a (L.getD j []).length c) ∧ BytesAt w (.slice a (L.getD j []).length c) (L.getD j [])) := by
  rcases h with ⟨rfl, a, c, rfl⟩ | ⟨b, off, cp, rfl, h2, h3⟩
  · exact ⟨a, c, rfl, .inl rfl⟩
  · refine ⟨_, _, rfl, .inr ⟨b, off, rfl, h2, fun j hj => ?_⟩⟩
    obtain ⟨a, n, c, hc, hB⟩ := h3 j hj
    obtain ⟨a', c', e⟩ := hB.form
    cases e
    exact ⟨_, _, hc, hB⟩
/-- All are digests? -/
def goodL (L : List (List Int)) : Bool := L.all (fun d => decide (d.length = 32))
theorem goodL_digs {L : List (List Int)} : goodL L = true ↔ Digs L := by simp [goodL, Digs]
theorem goodL_bad {L : List (List Int)} {k : Nat} (hk : k < L.length) (h : (L.getD k []).length ≠ 32) : goodL L = false := by
  rw [Bool.eq_false_iff]
  intro hg
  rw [goodL_digs] at hg
  apply h
  rw [List.getD_eq_getElem?_getD, List.getElem?_eq_getElem hk]
  exact hg _ (List.getElem_mem hk)
theorem goodL_all {L : List (List Int)} (h : ∀ j, j < L.length → (L.getD j []).length = 32) : goodL L = true := by
  rw [goodL_digs]
  intro d hd
  obtain ⟨j, hj, rfl⟩ := List.mem_iff_getElem.1 hd
  have := h j hj
  rwa [List.getD_eq_getElem?_getD, List.getElem?_eq_getElem hj] at this
theorem PartsAt.take {w : World} {a : Option Addr} {n c k : Nat} {L : List (List Int)} (h : PartsAt w (.slice a n c) L) (hn : L.length = n) (hk : k ≤ n) (h0 : 0 < n) (c' : Nat) : PartsAt w (.slice a k c') (L.take k) := by
  rcases h with ⟨rfl, -⟩ | ⟨b, off, cp, e, h2, h3⟩
  · simp at hn; omega
  · cases e
    have hl : (L.take k).length = k := by rw [List.length_take]; omega
    refine .inr ⟨b, off, c', by rw [hl], h2, fun j hj => ?_⟩
    obtain ⟨a, m, c, hc, hB⟩ := h3 j (by omega)
    refine ⟨a, m, c, hc, ?_⟩
    rw [List.getD_eq_getElem?_getD, List.getElem?_take, if_pos (by omega), ← List.getD_eq_getElem?_getD]
    exact hB
theorem PartsAt.drop {w : World} {b off n c k : Nat} {L : List (List Int)} (h : PartsAt w (.slice (some ⟨b, off, none⟩) n c) L) (hn : L.length = n) (hk : k ≤ n) (h0 : 0 < n) (c' : Nat) : PartsAt w (.slice (some ⟨b, off + k, none⟩) (n - k) c') (L.drop k) := by
  rcases h with ⟨rfl, -⟩ | ⟨b, off, cp, e, h2, h3⟩
  · simp at hn; omega
  · cases e
    have hl : (L.drop k).length = L.length - k := List.length_drop
    refine .inr ⟨b, off + k, c', by rw [hl], h2, fun j hj => ?_⟩
    obtain ⟨a, m, c, hc, hB⟩ := h3 (k + j) (by omega)
    refine ⟨a, m, c, by rw [Nat.add_assoc]; exact hc, ?_⟩
    rw [List.getD_eq_getElem?_getD, List.getElem?_drop, ← List.getD_eq_getElem?_getD]
    exact hB
theorem bytes_shaL (zs : List Int) : Bytes (shaL zs) := by
  intro j
  have : ∀ x ∈ shaL zs, 0 ≤ x ∧ x < 256 := by
    intro x hx
    unfold shaL St.out at hx
    obtain ⟨y, -, hy⟩ := List.mem_flatMap.1 hx
    simp only [byte4, List.mem_cons, List.not_mem_nil, or_false] at hy
    have := U_lo y
    rcases hy with rfl | rfl | rfl | rfl <;> omega
  rw [List.getD_eq_getElem?_getD]
  by_cases hj : j < (shaL zs).length
  · rw [List.getElem?_eq_getElem hj]; exact this _ (List.getElem_mem hj)
  · rw [List.getElem?_eq_none (by omega)]; exact ⟨by decide, by decide⟩
theorem bytes_mth (ls : List (List Int)) : Bytes (mth ls) := by
  rw [mth]; split
  · exact bytes_shaL _
  · split
    · exact bytes_shaL _
    · exact bytes_shaL _
theorem nodeL_bytes (a b : List Int) : Bytes (nodeL a b) := bytes_shaL _
theorem leafL_bytes (b : List Int) : Bytes (leafL b) := bytes_shaL _
theorem PartsAt.last {w : World} {a : Option Addr} {m c : Nat} {p : List (List Int)} (h : PartsAt w (.slice a m c) p) (hm : p.length = m) (h0 : m ≠ 0) : ∃ b off ta tc, a = some ⟨b, off, none⟩ ∧ b < w.heap.size ∧ w.cell? ⟨b, off + (m - 1), none⟩ = some (.slice ta (p.getD (m - 1) []).length tc) ∧ BytesAt w (.slice ta (p.getD (m - 1) []).length tc) (p.getD (m - 1) []) := by
  obtain ⟨a0, c0, e0, hcell⟩ := h.form
  rw [hm] at e0
  cases e0
  obtain ⟨b, off, rfl, hb0, hcl⟩ := hcell.resolve_left (by omega)
  obtain ⟨ta, tc, h1, h2⟩ := hcl (m - 1) (by omega)
  exact ⟨b, off, ta, tc, rfl, hb0, h1, h2⟩
theorem getD_take_or (L : List (List Int)) (k j : Nat) : (L.take k).getD j [] = L.getD j [] ∨ (L.take k).getD j [] = [] := by
  by_cases h : j < k
  · left; rw [List.getD_eq_getElem?_getD, List.getElem?_take, if_pos h, ← List.getD_eq_getElem?_getD]
  · right; rw [List.getD_eq_getElem?_getD, List.getElem?_take, if_neg h]; rfl
theorem take_bytes {L : List (List Int)} (h : ∀ j, Bytes (L.getD j [])) (k : Nat) : ∀ j, Bytes ((L.take k).getD j []) := fun j => by
  rcases getD_take_or L k j with e | e <;> rw [e]
  · exact h j
  · exact nil_bytes
theorem take_short {L : List (List Int)} {m : Nat} (h : ∀ j, (L.getD j []).length ≤ m) (k : Nat) : ∀ j, ((L.take k).getD j []).length ≤ m := fun j => by
  rcases getD_take_or L k j with e | e <;> rw [e]
  · exact h j
  · exact Nat.zero_le _
/-- What Stands tells. -/
def standsL (size : Int) (root b : List Int) (i : Int) (p : List (List Int)) : Bool :=
  if size < 1 ∨ 100 < size ∨ i < 0 ∨ size ≤ i ∨ 200 < b.length ∨ goodL p = false then false else
    (upL (leafL b) i.toNat size.toNat p).2 && decide ((upL (leafL b) i.toNat size.toNat p).1 = root)
/-- What is wrong with leaves: the errno, and where. -/
def wrongFrom (L : List (List Int)) (k : Nat) : Int × Int :=
  match L with
  | [] => (0, 0)
  | b :: l => if 200 < b.length then (4, k) else wrongFrom l (k + 1)
def wrongL (L : List (List Int)) : Int × Int := if 100 < L.length then (5, 0) else wrongFrom L 0
theorem wrong_at {L : List (List Int)} {k : Nat} (q : Nat) (hk : k < L.length) (hb : ∀ j, j < k → (L.getD j []).length ≤ 200) (h : 200 < (L.getD k []).length) : wrongFrom L q = (4, ((q + k : Nat) : Int)) := by
  induction L generalizing k q with
  | nil => simp at hk
  | cons b l ih =>
    unfold wrongFrom
    cases k with
    | zero => rw [if_pos (by simpa using h)]; rfl
    | succ k =>
      have h0 := hb 0 (by omega)
      rw [if_neg (by simp at h0; omega), ih (q + 1) (k := k) (by simpa using hk) (fun j hj => by simpa using hb (j + 1) (by omega)) (by simpa using h)]
      congr 2
      omega
theorem wrong_none {L : List (List Int)} (q : Nat) (hb : ∀ j, j < L.length → (L.getD j []).length ≤ 200) : wrongFrom L q = (0, 0) := by
  induction L generalizing q with
  | nil => rfl
  | cons b l ih =>
    unfold wrongFrom
    have h0 := hb 0 (by simp)
    rw [if_neg (by simp at h0; omega), ih (q + 1) (fun j hj => by simpa using hb (j + 1) (by simpa using hj))]
theorem Tryd.info23b : (Tryd.prog.info? 23).map (fun i => (i.zero, i.size, i.bytes)) = some (some (.slice none 0 0), 1, 24) := by kernel_rfl
theorem own_ne {w : World} {base b2 : Nat} {e1 e2 : TypeId} {v1 v2 : Value} {n1 n2 : Nat} {xs1 xs2 : List Value} (h1 : w.ownsRow base e1 1 v1 n1 xs1) (h2 : w.ownsRow b2 e2 1 v2 n2 xs2) (hne : e1 ≠ e2) : Sep v1 v2 := fun g hg1 hg2 => by
  rcases h1.2 with ⟨rfl, -⟩ | ⟨g1, c1, cur1, rfl, -, hh1, -⟩
  · cases hg1
  rcases h2.2 with ⟨rfl, -⟩ | ⟨g2, c2, cur2, rfl, -, hh2, -⟩
  · cases hg2
  cases hg1
  cases hg2
  rw [hh1] at hh2
  cases hh2
  exact hne rfl
/-- Each of the values is a row of bytes of the call's own. -/
def OwnEls (w : World) (base : Nat) (vs : List Value) (L : List (List Int)) : Prop :=
  ∀ j, j < L.length → ∃ y, vs[j]? = some y ∧ w.ownsRow base 5 1 y (L.getD j []).length ((L.getD j []).map (Value.int .u8))
/-- A slice of slices of bytes, all of them the call's own. -/
def OwnParts (w : World) (base : Nat) (v : Value) (L : List (List Int)) : Prop := ∃ vs, w.ownsRow base 23 1 v L.length vs ∧ OwnEls w base vs L
theorem OwnEls.kept {w w' : World} {base : Nat} {vs : List Value} {L : List (List Int)} {v : Value} {n : Nat} {xs : List Value} (h : OwnEls w base vs L) (hr : w.ownsRow base 23 1 v n xs) (hg : w.grownBy w' v.ownBlock) : OwnEls w' base vs L := fun j hj => by
  obtain ⟨y, h1, h2⟩ := h j hj
  exact ⟨y, h1, h2.kept hg (own_ne h2 hr (by decide)).or⟩
theorem OwnEls.alloc {w : World} {base : Nat} {vs : List Value} {L : List (List Int)} (h : OwnEls w base vs L) (o : Obj) : OwnEls (w.alloc o) base vs L := fun j hj => by
  obtain ⟨y, h1, h2⟩ := h j hj
  exact ⟨y, h1, h2.alloc o⟩
theorem OwnEls.below {w w' : World} {base N : Nat} {vs : List Value} {L : List (List Int)} (h : OwnEls w base vs L) (hb : Below N w w') (hN : w.heap.size ≤ N) : OwnEls w' base vs L := fun j hj => by
  obtain ⟨y, h1, h2⟩ := h j hj
  exact ⟨y, h1, own_below h2 hb hN⟩
theorem OwnEls.base {w : World} {b b' : Nat} {vs : List Value} {L : List (List Int)} (h : OwnEls w b vs L) (hb : b' ≤ b) : OwnEls w b' vs L := fun j hj => by
  obtain ⟨y, h1, h2⟩ := h j hj
  exact ⟨y, h1, ownsRow_base h2 hb⟩
theorem OwnEls.snoc {w : World} {base : Nat} {vs : List Value} {L : List (List Int)} {x : Value} {d : List Int} (h : OwnEls w base vs L) (hl : vs.length = L.length) (hx : w.ownsRow base 5 1 x d.length (d.map (Value.int .u8))) : OwnEls w base (vs ++ [x]) (L ++ [d]) := fun j hj => by
  by_cases e : j < L.length
  · obtain ⟨y, h1, h2⟩ := h j e
    refine ⟨y, by rw [List.getElem?_append_left (by omega)]; exact h1, ?_⟩
    rw [List.getD_eq_getElem?_getD, List.getElem?_append_left e, ← List.getD_eq_getElem?_getD]
    exact h2
  · obtain rfl : j = L.length := by simp at hj; omega
    refine ⟨x, by rw [List.getElem?_append_right (by omega), hl, Nat.sub_self]; rfl, ?_⟩
    rw [List.getD_eq_getElem?_getD, List.getElem?_append_right (Nat.le_refl _), Nat.sub_self]
    exact hx
theorem OwnParts.below {w w' : World} {base N : Nat} {v : Value} {L : List (List Int)} (h : OwnParts w base v L) (hb : Below N w w') (hN : w.heap.size ≤ N) : OwnParts w' base v L := by
  obtain ⟨vs, h1, h2⟩ := h
  exact ⟨vs, own_below h1 hb hN, h2.below hb hN⟩
theorem OwnParts.base {w : World} {b b' : Nat} {v : Value} {L : List (List Int)} (h : OwnParts w b v L) (hb : b' ≤ b) : OwnParts w b' v L := by
  obtain ⟨vs, h1, h2⟩ := h
  exact ⟨vs, ownsRow_base h1 hb, h2.base hb⟩
theorem OwnParts.nil (w : World) (base : Nat) : OwnParts w base (.slice none 0 0) [] := ⟨[], World.ownsRow_nil _ _ _ _, fun _ hj => absurd hj (Nat.not_lt_zero _)⟩
theorem OwnParts.form {w : World} {base : Nat} {v : Value} {L : List (List Int)} (h : OwnParts w base v L) : ∃ a c, v = .slice a L.length c ∧ L.length ≤ c ∧ c ≤ maxLen := by
  obtain ⟨vs, h1, -⟩ := h
  exact own_cap h1
/-- So it reads as what it is. -/
theorem OwnParts.parts {w : World} {base : Nat} {v : Value} {L : List (List Int)} (h : OwnParts w base v L) : PartsAt w v L := by
  obtain ⟨vs, h1, h2⟩ := h
  rcases h1.2 with ⟨hv, hn⟩ | ⟨g, cap, cur, rfl, -, hg, -⟩
  · exact .inl ⟨List.eq_nil_of_length_eq_zero hn, none, 0, by rw [hv]⟩
  · refine .inr ⟨g, 0, cap, rfl, ?_, fun j hj => ?_⟩
    · rcases Nat.lt_or_ge g w.heap.size with h' | h'
      · exact h'
      · rw [Array.getElem?_eq_none h'] at hg; cases hg
    · obtain ⟨y, h3, h4⟩ := h2 j hj
      obtain ⟨a, c, rfl⟩ := own_form' h4
      refine ⟨a, _, c, ?_, bytesAt_own h4⟩
      rw [Nat.zero_add, h1.cellAt j (by omega)]
      exact h3
/-- Leaves as a call meets them: they can be read, there is room for what there is, and they are bytes, not too many. -/
structure Leaves (w : World) (a : Option Addr) (n c : Nat) (L : List (List Int)) : Prop where
  len : L.length = n
  at' : PartsAt w (.slice a n c) L
  room : n ≤ c
  cap : c ≤ maxLen
  bytes : ∀ j, Bytes (L.getD j [])
  short : ∀ j, (L.getD j []).length ≤ 1000000
theorem Leaves.below {w w' : World} {a : Option Addr} {n c : Nat} {L : List (List Int)} (h : Leaves w a n c L) (hb : Below w.heap.size w w') : Leaves w' a n c L :=
  ⟨h.len, h.at'.below (Nat.le_refl _) hb, h.room, h.cap, h.bytes, h.short⟩
theorem Leaves.take {w : World} {a : Option Addr} {n c k : Nat} {L : List (List Int)} (h : Leaves w a n c L) (hk : k ≤ n) (h0 : 0 < n) : Leaves w a k c (L.take k) :=
  ⟨by rw [List.length_take]; have := h.len; omega, h.at'.take h.len hk h0 _, by have := h.room; omega, h.cap, take_bytes h.bytes k, take_short h.short k⟩
theorem Leaves.drop {w : World} {b off n c k : Nat} {L : List (List Int)} (h : Leaves w (some ⟨b, off, none⟩) n c L) (hk : k ≤ n) (h0 : 0 < n) : Leaves w (some ⟨b, off + k, none⟩) (n - k) (c - k) (L.drop k) :=
  have gd : ∀ j, (L.drop k).getD j [] = L.getD (k + j) [] := fun j => by rw [List.getD_eq_getElem?_getD, List.getElem?_drop, ← List.getD_eq_getElem?_getD]
  ⟨by rw [List.length_drop]; have := h.len; omega, h.at'.drop h.len hk h0 _, by have := h.room; omega, by have := h.cap; omega, fun j => by rw [gd j]; exact h.bytes _, fun j => by rw [gd j]; exact h.short _⟩
theorem Leaves.addr {w : World} {a : Option Addr} {n c : Nat} {L : List (List Int)} (h : Leaves w a n c L) (h0 : 0 < n) : ∃ b off, a = some ⟨b, off, none⟩ := by
  obtain ⟨a0, c0, e0, hcell⟩ := h.at'.form
  rw [h.len] at e0
  cases e0
  obtain ⟨b, off, rfl, -⟩ := hcell.resolve_left (by have := h.len; omega)
  exact ⟨b, off, rfl⟩
theorem OwnParts.one {w w1 : World} {base : Nat} {xa : Option Addr} {xc : Nat} {d : List Int} (hl : d.length = 32) (h : w1.ownsRow w.heap.size 5 1 (.slice xa 32 xc) 32 (d.map (Value.int .u8))) (hb : base ≤ w.heap.size) (hs : w.heap.size ≤ w1.heap.size) :
    OwnParts (w1.alloc (.cells #[.slice xa 32 xc] 23)) base (.slice (some ⟨w1.heap.size, 0, none⟩) 1 1) [d] := by
  refine ⟨[.slice xa 32 xc], World.ownsRow_lit w1 #[.slice xa 32 xc] 1 (by omega) (by unfold maxLen; omega) rfl, fun j hj => ?_⟩
  obtain rfl : j = 0 := by simp at hj; omega
  exact ⟨_, rfl, by show World.ownsRow _ _ _ _ _ d.length _; rw [hl]; exact (ownsRow_base h hb).alloc _⟩
theorem goodL_get {L : List (List Int)} (h : goodL L = true) (j : Nat) (hj : j < L.length) : (L.getD j []).length = 32 := by
  rw [List.getD_eq_getElem?_getD, List.getElem?_eq_getElem hj]
  exact goodL_digs.1 h _ (List.getElem_mem hj)
/-- The values of a list as they lie. -/
theorem PartsAt.src {w : World} {a : Option Addr} {l c : Nat} {L : List (List Int)} (h : PartsAt w (.slice a l c) L) (hl : L.length = l) : ∃ vs : List Value, vs.length = l ∧ (∀ ad, a = some ad → ∀ j u, vs[j]? = some u → w.cell? (ad.add j) = some u) ∧
    (∀ j, j < l → ∃ pa pc, vs[j]? = some (.slice pa (L.getD j []).length pc) ∧ BytesAt w (.slice pa (L.getD j []).length pc) (L.getD j [])) ∧ (∀ u ∈ vs, u.oneCell' = true) := by
  obtain ⟨a0, c0, e0, hcell⟩ := h.form
  rw [hl] at e0
  cases e0
  rcases hcell with h0 | ⟨b, off, rfl, hb, hc⟩
  · obtain rfl : l = 0 := by omega
    exact ⟨[], rfl, fun _ _ j u hu => by simp at hu, fun j hj => absurd hj (Nat.not_lt_zero _), fun u hu => by cases hu⟩
  · rw [hl] at hc
    let f : Nat → Value := fun j => (w.cell? ⟨b, off + j, none⟩).getD (.slice none 0 0)
    have hf : ∀ j, j < l → ∃ pa pc, f j = .slice pa (L.getD j []).length pc ∧ w.cell? ⟨b, off + j, none⟩ = some (f j) ∧ BytesAt w (.slice pa (L.getD j []).length pc) (L.getD j []) := fun j hj => by
      obtain ⟨pa, pc, h1, h2⟩ := hc j hj
      have e : f j = .slice pa (L.getD j []).length pc := by show (w.cell? ⟨b, off + j, none⟩).getD _ = _; rw [h1]; rfl
      exact ⟨pa, pc, e, by rw [e]; exact h1, h2⟩
    have hget : ∀ j, j < l → ((List.range l).map f)[j]? = some (f j) := fun j hj => by rw [List.getElem?_map, List.getElem?_range hj]; rfl
    refine ⟨(List.range l).map f, by simp, fun ad ha j u hu => ?_, fun j hj => ?_, fun u hu => ?_⟩
    · cases ha
      have hj : j < l := by have := (List.getElem?_eq_some_iff.1 hu).1; simpa using this
      rw [hget j hj] at hu
      cases hu
      obtain ⟨-, -, -, h2, -⟩ := hf j hj
      rw [Addr.add_mid]; exact h2
    · obtain ⟨pa, pc, h1, -, h3⟩ := hf j hj
      exact ⟨pa, pc, by rw [hget j hj, h1], h3⟩
    · obtain ⟨j, hj, rfl⟩ := List.mem_map.1 hu
      obtain ⟨pa, pc, h1, -⟩ := hf j (by simpa using hj)
      rw [h1]; rfl
/-- append(dst, src...), dst the call's own, src a list as it came. -/
theorem wpList_append_parts {P : Program} {w : World} {ops : Array Oper} {rest : List Oper} {o : Oper} {ac : Act} {Q : Exit → Act → World → Prop} (hgd : o.guard = none) (s x : Operand) (t : TypeId)
    (ho : o.op = .call { callee := .builtin .append, args := #[s, x], argTypes := #[t, t] })
    (base : Nat) (e : TypeId) (i : TypeInfo) (z : Value) (bytes : Nat) (ht : P.underlying t = some (.slice e)) (hi : P.info? e = some i) (hz : i.zero = some z)
    (hsize : i.size = 1) (hby : i.bytes = bytes) (hzs : z.cells.size = 1)
    (v : Value) (n : Nat) (xs : List Value) (hs : ac.eval s = v) (hown : w.ownsRow base e 1 v n xs)
    (a : Option Addr) (l c : Nat) (vs : List Value) (hx : ac.eval x = .slice a l c) (hnil : a = none → l = 0 ∧ c = 0) (hl : vs.length = l) (hc : ∀ ad, a = some ad → ∀ j u, vs[j]? = some u → w.cell? (ad.add j) = some u) (h1 : ∀ u ∈ vs, u.oneCell' = true)
    (h63 : n + l ≤ maxLen) (hbytes : (n + l) * bytes ≤ 140737488355328) (hbase : base ≤ w.heap.size)
    (h : ∀ v' w', w'.ownsRow base e 1 v' (n + l) (xs ++ vs) → w.grownBy w' v.ownBlock → wpList P ops Q rest (ac.put o.dst v') w') : wpList P ops Q (o :: rest) ac w := by
  cases a with
  | none =>
    obtain ⟨rfl, rfl⟩ := hnil rfl
    obtain rfl : vs = [] := List.eq_nil_of_length_eq_zero hl
    exact wpList_append_own_none hgd s x t ho base e i 1 ht hi v n xs hs hown hx (h v w (by simpa using hown) (World.grownBy.refl _ _))
  | some ad =>
    exact wpList_append_own _ hgd s x t ho base e i z 1 bytes ht hi hz hsize hby hzs (by decide) v n xs hs hown ad l c vs hx (by omega) (hc ad rfl) h1 h63 hbytes hbase (fun v' w' h1 h2 _ => h v' w' h1 h2)
theorem mem_short {L : List (List Int)} {m : Nat} (h : ∀ j, (L.getD j []).length ≤ m) : ∀ x ∈ L, x.length ≤ m := fun x hx => by
  obtain ⟨j, hj, rfl⟩ := List.mem_iff_getElem.1 hx
  have := h j
  rwa [List.getD_eq_getElem?_getD, List.getElem?_eq_getElem hj] at this
theorem short_mem {L : List (List Int)} {m : Nat} (h : ∀ x ∈ L, x.length ≤ m) (j : Nat) : (L.getD j []).length ≤ m := by
  rw [List.getD_eq_getElem?_getD]
  by_cases hj : j < L.length
  · rw [List.getElem?_eq_getElem hj]; exact h _ (List.getElem_mem hj)
  · rw [List.getElem?_eq_none (by omega)]; exact Nat.zero_le _
theorem wrong_ok {L : List (List Int)} (h : (wrongL L).1 = 0) : L.length ≤ 100 ∧ ∀ j, (L.getD j []).length ≤ 200 := by
  unfold wrongL at h
  by_cases h1 : 100 < L.length
  · rw [if_pos h1] at h; simp at h
  · rw [if_neg h1] at h
    refine ⟨by omega, ?_⟩
    have key : ∀ (L : List (List Int)) (q : Nat), (wrongFrom L q).1 = 0 → ∀ j, (L.getD j []).length ≤ 200 := fun L => by
      induction L with
      | nil => intro q _ j; simp
      | cons b l ih =>
        intro q hq j
        unfold wrongFrom at hq
        by_cases h2 : 200 < b.length
        · rw [if_pos h2] at hq; simp at hq
        · rw [if_neg h2] at hq
          cases j with
          | zero => simp; omega
          | succ j => simpa using ih (q + 1) hq j
    exact key L 0 h
end Go.Proofs.YtkjlchfmplcobadDoor

/- What the laws of chapter 2 ask of package tree's faces, as propositions: each is shown of the landed code elsewhere. -/
namespace Go.Proofs.YtkjlchfmplcobadDoor
open Go.RowKit

/-- The world holds the digests' table. -/
structure Ready (w : World) : Prop where
  tab : Tab w
  big : 0 < w.heap.size
theorem Ready.below {w w' : World} (h : Ready w) (hb : Below w.heap.size w w') : Ready w' := ⟨tab_below h.tab hb h.big, Nat.lt_of_lt_of_le h.big hb.size⟩
/-- A list of bytes' lists as it comes in: it can be read, there is room for what there is, and it is bytes. -/
structure Lists (w : World) (a : Option Addr) (n c : Nat) (L : List (List Int)) : Prop where
  len : L.length = n
  at' : PartsAt w (.slice a n c) L
  room : n ≤ c
  cap : c ≤ maxLen
  nil : a = none → n = 0 ∧ c = 0
  bytes : ∀ j, Bytes (L.getD j [])
  short : ∀ j, (L.getD j []).length ≤ maxLen
theorem Lists.below {w w' : World} {a : Option Addr} {n c : Nat} {L : List (List Int)} (h : Lists w a n c L) (hb : Below w.heap.size w w') : Lists w' a n c L :=
  ⟨h.len, h.at'.below (Nat.le_refl _) hb, h.room, h.cap, h.nil, h.bytes, h.short⟩
@[reducible] def faultV (p : Int × Int) : Value := .agg #[.int .i64 p.1, .int .i64 p.2]
/-- What Path and Grows say. -/
def pathF (L : List (List Int)) (i : Int) : Int × Int := if (wrongL L).1 ≠ 0 then wrongL L else if i < 0 ∨ (L.length : Int) ≤ i then (6, 0) else (0, 0)
def WrongC : Prop := ∀ (L : List (List Int)) (a : Option Addr) (n c : Nat) (w : World), Lists w a n c L →
  Calls Tryd.prog 19 #[.slice a n c] w fun e w' => e = .returned (faultV (wrongL L)) ∧ Below w.heap.size w w'
def RootC : Prop := ∀ (L : List (List Int)) (a : Option Addr) (n c : Nat) (w : World), Ready w → Lists w a n c L →
  Calls Tryd.prog 20 #[.slice a n c] w fun e w' => ∃ xa xn xc, e = .returned (.tuple #[.slice xa xn xc, faultV (wrongL L)]) ∧ ((wrongL L).1 = 0 → w'.ownsRow w.heap.size 5 1 (.slice xa xn xc) 32 ((mth L).map (Value.int .u8))) ∧ ((wrongL L).1 ≠ 0 → xn = 0) ∧ Below w.heap.size w w'
def PathC : Prop := ∀ (L : List (List Int)) (i : Int) (a : Option Addr) (n c : Nat) (w : World), Ready w → Lists w a n c L →
  Calls Tryd.prog 21 #[.slice a n c, .int .i64 i] w fun e w' => ∃ xa xn xc, e = .returned (.tuple #[.slice xa xn xc, faultV (pathF L i)]) ∧ ((pathF L i).1 = 0 → OwnParts w' w.heap.size (.slice xa xn xc) (pathL L i.toNat)) ∧ ((pathF L i).1 ≠ 0 → xn = 0) ∧ Below w.heap.size w w'
def StandsC : Prop := ∀ (size : Int) (root b : List Int) (i : Int) (p : List (List Int)) (rv bv : Value) (a : Option Addr) (n c : Nat) (w : World), Ready w → Some' w rv root → Some' w bv b → Lists w a n c p →
  Calls Tryd.prog 41 #[.agg #[.int .i64 size, rv], bv, .int .i64 i, .slice a n c] w fun e w' => e = .returned (.bool (standsL size root b i p)) ∧ Below w.heap.size w w'
end Go.Proofs.YtkjlchfmplcobadDoor

/- What the laws of chapter 2 that go without the document's answer lean on. -/
namespace Go.Proofs.YtkjlchfmplcobadDoor
open Go.RowKit

theorem path_bytes (ls : List (List Int)) (i : Nat) : ∀ x ∈ pathL ls i, Bytes x := by
  by_cases h1 : ls.length ≤ 1
  · rw [pathL_one h1]; intro d hd; cases hd
  · have hs := splitN_spec (n := ls.length) (by omega)
    by_cases hk : i < splitN ls.length
    · rw [pathL_left (by omega) hk]
      have := path_bytes (ls.take (splitN ls.length)) i
      intro d hd
      rcases List.mem_append.1 hd with h | h
      · exact this d h
      · rw [List.mem_singleton.1 h]; exact bytes_mth _
    · rw [pathL_right (by omega) hk]
      have := path_bytes (ls.drop (splitN ls.length)) (i - splitN ls.length)
      intro d hd
      rcases List.mem_append.1 hd with h | h
      · exact this d h
      · rw [List.mem_singleton.1 h]; exact bytes_mth _
termination_by ls.length
decreasing_by
  · rw [List.length_take]; omega
  · rw [List.length_drop]; omega
theorem bytes_mem {L : List (List Int)} (h : ∀ x ∈ L, Bytes x) (j : Nat) : Bytes (L.getD j []) := by
  rw [List.getD_eq_getElem?_getD]
  by_cases hj : j < L.length
  · rw [List.getElem?_eq_getElem hj]; exact h _ (List.getElem_mem hj)
  · rw [List.getElem?_eq_none (by omega)]; exact nil_bytes
theorem digs_short {L : List (List Int)} (h : Digs L) (j : Nat) : (L.getD j []).length ≤ maxLen := short_mem (fun x hx => by rw [h x hx]; unfold maxLen; omega) j
theorem own_nil {w : World} {base : Nat} {e : TypeId} {a : Option Addr} {n c m : Nat} {xs : List Value} (h : w.ownsRow base e 1 (.slice a n c) m xs) (ha : a = none) : n = 0 ∧ c = 0 := by
  subst ha
  rcases h.2 with ⟨h1, -⟩ | ⟨g, cap, cur, h1, -⟩
  · simp at h1; exact h1
  · simp at h1
/-- What a face answers is what a face is given. -/
theorem OwnParts.lists {w : World} {base : Nat} {xa : Option Addr} {xn xc : Nat} {L : List (List Int)} (h : OwnParts w base (.slice xa xn xc) L) (hb : ∀ x ∈ L, Bytes x) (hs : ∀ j, (L.getD j []).length ≤ maxLen) : Lists w xa xn xc L := by
  have hp := h.parts
  obtain ⟨a, c, e, h1, h2⟩ := h.form
  cases e
  obtain ⟨vs, hr, -⟩ := h
  exact ⟨rfl, hp, h1, h2, own_nil hr, bytes_mem hb, hs⟩
theorem own_len {w : World} {base : Nat} {e : TypeId} {a : Option Addr} {n c m : Nat} {xs : List Value} (h : w.ownsRow base e 1 (.slice a n c) m xs) : n = m := by
  obtain ⟨a', c', e'⟩ := own_form' h
  cases e'
  rfl
theorem Lists.take {w : World} {a : Option Addr} {n c k : Nat} {L : List (List Int)} (h : Lists w a n c L) (hk : k ≤ n) (h0 : 0 < n) : Lists w a k c (L.take k) :=
  ⟨by rw [List.length_take]; have := h.len; omega, h.at'.take h.len hk h0 _, by have := h.room; omega, h.cap, fun ha => by have := h.nil ha; omega, take_bytes h.bytes k, take_short h.short k⟩
theorem Lists.get {w : World} {a : Option Addr} {n c : Nat} {L : List (List Int)} (h : Lists w a n c L) (j : Nat) (hj : j < n) : ∃ b off pa pc, a = some ⟨b, off, none⟩ ∧ w.cell? ⟨b, off + j, none⟩ = some (.slice pa (L.getD j []).length pc) ∧ Some' w (.slice pa (L.getD j []).length pc) (L.getD j []) := by
  obtain ⟨a0, c0, e0, hcell⟩ := h.at'.form
  rw [h.len] at e0 hcell
  cases e0
  obtain ⟨b, off, rfl, -, hc⟩ := hcell.resolve_left (by omega)
  obtain ⟨pa, pc, h1, h2⟩ := hc j hj
  exact ⟨b, off, pa, pc, rfl, h1, h2, h.bytes j, h.short j⟩

/-- WHAT STANDS THERE IS SHOWN. -/
theorem stands_path {L : List (List Int)} {i : Nat} (h2 : L.length ≤ 100) (hi : i < L.length) (h200 : (L.getD i []).length ≤ 200) : standsL L.length (mth L) (L.getD i []) i (pathL L i) = true := by
  have hg : goodL (pathL L i) = true := goodL_digs.2 (path_digs L i)
  unfold standsL
  rw [if_neg (by intro h; rcases h with h | h | h | h | h | h <;> first | omega | (rw [hg] at h; cases h)), Int.toNat_natCast, Int.toNat_natCast, up_path L i hi]
  simp
theorem wrong_zero {L : List (List Int)} (h1 : L.length ≤ 100) (h2 : ∀ j, (L.getD j []).length ≤ 200) : wrongL L = (0, 0) := by
  unfold wrongL; rw [if_neg (by omega)]; exact wrong_none 0 (fun j _ => h2 j)

/-- The three leaves. -/
def three : List (List Int) := [[1], [2], [3]]
end Go.Proofs.YtkjlchfmplcobadDoor
