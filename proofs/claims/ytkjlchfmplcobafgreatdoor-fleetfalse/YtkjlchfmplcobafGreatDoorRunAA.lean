/- TreeMath, TreeMem, TreeFace, TreeLawBase, BookMath, ShelfMath, FleetMath, FleetOk, FleetBookM, FleetShowM, ClashFace, FleetKeepM, FleetTakenM, FleetFalseM, BookFace, ShelfFace, FleetFace, FleetAliveM, BookRefRec, FleetAlive, BookFive, FleetSame, FleetPastWalk, FleetEarlyWalk, FleetThirteen, FleetOff, FleetOffZ, BookRefRow, BookRefRows, FleetDos, ShaPartsC, as one text. -/
import Derived.Test.YtkjlchfmplcobafGreatDoorShaSum
import Derived.Test.YtkjlchfmplcobafGreatDoorProg
import Derived.WalkKit
import Derived.Deep.AppendLies
import Derived.Laws.AppendOwnNone
import Derived.Test.YtkjlchfmplcobafGreatDoorRunAF
import Derived.Test.YtkjlchfmplcobafGreatDoorRunAD
import Derived.Test.YtkjlchfmplcobafGreatDoorShaSame
import Derived.WalkSpells
import Derived.WalkLawsBesides
import Derived.Test.YtkjlchfmplcobafGreatDoorRunAJ
import Derived.Test.YtkjlchfmplcobafGreatDoorRunAK
import Derived.Test.YtkjlchfmplcobafGreatDoorRunAI
import Derived.Deep.RegionHeld3
import Derived.BigRegion
import Derived.Deep.QuietTactic
import Derived.BigQuiet
/- The plain mathematics of Merkle's trees: roots, paths, proofs, and what they show. Nothing of the program is in it. -/
namespace Go.Proofs.YtkjlchfmplcobafGreatDoor

/-- What a leaf's digest is, and that of two. -/
def leafL (b : List Int) : List Int := shaL (0 :: b)
def nodeL (a b : List Int) : List Int := shaL (1 :: (a ++ b))

/-- Doubled from k on, while the double is below n. -/
def splitFrom (k n : Nat) : Nat := if h : 0 < k ∧ 2 * k < n then splitFrom (2 * k) n else k
termination_by n - k
decreasing_by omega
/-- The greatest power of two below n. -/
def splitN (n : Nat) : Nat := splitFrom 1 n
theorem splitFrom_next {k n : Nat} (h0 : 0 < k) (h : 2 * k < n) : splitFrom k n = splitFrom (2 * k) n := by
  rw [splitFrom, dif_pos ⟨h0, h⟩]
theorem splitFrom_end {k n : Nat} (h : ¬ 2 * k < n) : splitFrom k n = k := by
  rw [splitFrom, dif_neg (by omega)]
theorem splitFrom_spec (k n : Nat) (h0 : 0 < k) (h : k < n) : k ≤ splitFrom k n ∧ splitFrom k n < n ∧ n ≤ 2 * splitFrom k n := by
  by_cases h2 : 2 * k < n
  · rw [splitFrom_next h0 h2]
    have := splitFrom_spec (2 * k) n (by omega) h2
    omega
  · rw [splitFrom_end h2]; omega
termination_by n - k
theorem splitFrom_pow (e n : Nat) : ∃ d, splitFrom (2 ^ e) n = 2 ^ d := by
  by_cases h2 : 2 * 2 ^ e < n
  · rw [splitFrom_next (Nat.two_pow_pos e) h2, ← Nat.pow_succ']
    exact splitFrom_pow (e + 1) n
  · exact ⟨e, splitFrom_end h2⟩
termination_by n - 2 ^ e
decreasing_by have := Nat.two_pow_pos e; rw [Nat.pow_succ]; omega
theorem splitN_spec {n : Nat} (h : 2 ≤ n) : 1 ≤ splitN n ∧ splitN n < n ∧ n ≤ 2 * splitN n := splitFrom_spec 1 n (by omega) (by omega)
theorem splitN_pow (n : Nat) : ∃ d, splitN n = 2 ^ d := splitFrom_pow 0 n
theorem pow_between {a b n : Nat} (h1 : 2 ^ a < n) (h2 : n ≤ 2 * 2 ^ a) (h3 : 2 ^ b < n) (h4 : n ≤ 2 * 2 ^ b) : a = b := by
  rw [← Nat.pow_succ'] at h2 h4
  have h5 : 2 ^ a < 2 ^ (b + 1) := by omega
  have h6 : 2 ^ b < 2 ^ (a + 1) := by omega
  have := (Nat.pow_lt_pow_iff_right (by decide : 1 < 2)).1 h5
  have := (Nat.pow_lt_pow_iff_right (by decide : 1 < 2)).1 h6
  omega
theorem splitN_unique {a n : Nat} (h1 : 2 ^ a < n) (h2 : n ≤ 2 * 2 ^ a) : splitN n = 2 ^ a := by
  have := Nat.two_pow_pos a
  obtain ⟨d, hd⟩ := splitN_pow n
  have hs := splitN_spec (n := n) (by omega)
  rw [hd] at hs ⊢
  rw [pow_between hs.2.1 hs.2.2 h1 h2]

/-- The root of leaves. -/
def mth (ls : List (List Int)) : List Int :=
  if ls.length = 0 then shaL [] else
  if _h : ls.length ≤ 1 then leafL (ls.getD 0 []) else
    nodeL (mth (ls.take (splitN ls.length))) (mth (ls.drop (splitN ls.length)))
termination_by ls.length
decreasing_by
  · have := splitN_spec (n := ls.length) (by omega); rw [List.length_take]; omega
  · have := splitN_spec (n := ls.length) (by omega); rw [List.length_drop]; omega
theorem mth_nil {ls : List (List Int)} (h : ls.length = 0) : mth ls = shaL [] := by rw [mth, if_pos h]
theorem mth_one {ls : List (List Int)} (h : ls.length = 1) : mth ls = leafL (ls.getD 0 []) := by rw [mth, if_neg (by omega), dif_pos (by omega)]
theorem mth_more {ls : List (List Int)} (h : 2 ≤ ls.length) : mth ls = nodeL (mth (ls.take (splitN ls.length))) (mth (ls.drop (splitN ls.length))) := by
  rw [mth, if_neg (by omega), dif_neg (by omega)]

/-- The path of a leaf. -/
def pathL (ls : List (List Int)) (i : Nat) : List (List Int) :=
  if _h : ls.length ≤ 1 then [] else
  if i < splitN ls.length then pathL (ls.take (splitN ls.length)) i ++ [mth (ls.drop (splitN ls.length))] else
    pathL (ls.drop (splitN ls.length)) (i - splitN ls.length) ++ [mth (ls.take (splitN ls.length))]
termination_by ls.length
decreasing_by
  · have := splitN_spec (n := ls.length) (by omega); rw [List.length_take]; omega
  · have := splitN_spec (n := ls.length) (by omega); rw [List.length_drop]; omega
theorem pathL_one {ls : List (List Int)} {i : Nat} (h : ls.length ≤ 1) : pathL ls i = [] := by rw [pathL, dif_pos h]
theorem pathL_left {ls : List (List Int)} {i : Nat} (h : 2 ≤ ls.length) (hi : i < splitN ls.length) : pathL ls i = pathL (ls.take (splitN ls.length)) i ++ [mth (ls.drop (splitN ls.length))] := by
  rw [pathL, dif_neg (by omega), if_pos hi]
theorem pathL_right {ls : List (List Int)} {i : Nat} (h : 2 ≤ ls.length) (hi : ¬ i < splitN ls.length) : pathL ls i = pathL (ls.drop (splitN ls.length)) (i - splitN ls.length) ++ [mth (ls.take (splitN ls.length))] := by
  rw [pathL, dif_neg (by omega), if_neg hi]

/-- The root with a digest at a place, and a path; and whether the path has the right length. -/
def upL (d : List Int) (i n : Nat) (p : List (List Int)) : List Int × Bool :=
  if _h : n ≤ 1 then (d, decide (p.length = 0)) else
  if p.length = 0 then ([], false) else
  if i < splitN n then (nodeL (upL d i (splitN n) p.dropLast).1 (p.getD (p.length - 1) []), (upL d i (splitN n) p.dropLast).2) else
    (nodeL (p.getD (p.length - 1) []) (upL d (i - splitN n) (n - splitN n) p.dropLast).1, (upL d (i - splitN n) (n - splitN n) p.dropLast).2)
termination_by n
decreasing_by all_goals (have := splitN_spec (n := n) (by omega); omega)
theorem upL_one {d : List Int} {i n : Nat} {p : List (List Int)} (h : n ≤ 1) : upL d i n p = (d, decide (p.length = 0)) := by rw [upL, dif_pos h]
theorem upL_none {d : List Int} {i n : Nat} {p : List (List Int)} (h : 2 ≤ n) (hp : p.length = 0) : upL d i n p = ([], false) := by rw [upL, dif_neg (by omega), if_pos hp]
theorem upL_left {d : List Int} {i n : Nat} {p : List (List Int)} (h : 2 ≤ n) (hp : p.length ≠ 0) (hi : i < splitN n) : upL d i n p = (nodeL (upL d i (splitN n) p.dropLast).1 (p.getD (p.length - 1) []), (upL d i (splitN n) p.dropLast).2) := by
  conv => lhs; rw [upL]
  rw [dif_neg (by omega), if_neg hp, if_pos hi]
theorem upL_right {d : List Int} {i n : Nat} {p : List (List Int)} (h : 2 ≤ n) (hp : p.length ≠ 0) (hi : ¬ i < splitN n) : upL d i n p = (nodeL (p.getD (p.length - 1) []) (upL d (i - splitN n) (n - splitN n) p.dropLast).1, (upL d (i - splitN n) (n - splitN n) p.dropLast).2) := by
  conv => lhs; rw [upL]
  rw [dif_neg (by omega), if_neg hp, if_neg hi]

theorem last_snoc (l : List (List Int)) (x : List Int) : (l ++ [x]).getD ((l ++ [x]).length - 1) [] = x := by
  rw [List.getD_eq_getElem?_getD, List.length_append, List.length_singleton, Nat.add_sub_cancel, List.getElem?_append_right (Nat.le_refl _)]
  simp
theorem snoc_ne (l : List (List Int)) (x : List Int) : (l ++ [x]).length ≠ 0 := by simp

/-- WHAT STANDS THERE IS SHOWN. -/
theorem up_path (ls : List (List Int)) (i : Nat) (hi : i < ls.length) : upL (leafL (ls.getD i [])) i ls.length (pathL ls i) = (mth ls, true) := by
  by_cases h1 : ls.length ≤ 1
  · have : ls.length = 1 := by omega
    obtain rfl : i = 0 := by omega
    rw [upL_one h1, pathL_one h1, mth_one this]; rfl
  · have hs := splitN_spec (n := ls.length) (by omega)
    by_cases hk : i < splitN ls.length
    · have hl : (ls.take (splitN ls.length)).length = splitN ls.length := by rw [List.length_take]; omega
      have ih := up_path (ls.take (splitN ls.length)) i (by omega)
      rw [hl] at ih
      have e : (ls.take (splitN ls.length)).getD i [] = ls.getD i [] := by rw [List.getD_eq_getElem?_getD, List.getD_eq_getElem?_getD, List.getElem?_take, if_pos hk]
      rw [e] at ih
      rw [pathL_left (by omega) hk, upL_left (by omega) (snoc_ne _ _) hk, last_snoc, List.dropLast_concat, ih, mth_more (ls := ls) (by omega)]
    · have hl : (ls.drop (splitN ls.length)).length = ls.length - splitN ls.length := by rw [List.length_drop]
      have ih := up_path (ls.drop (splitN ls.length)) (i - splitN ls.length) (by omega)
      rw [hl] at ih
      have e : (ls.drop (splitN ls.length)).getD (i - splitN ls.length) [] = ls.getD i [] := by
        rw [List.getD_eq_getElem?_getD, List.getD_eq_getElem?_getD, List.getElem?_drop]; congr 2; omega
      rw [e] at ih
      rw [pathL_right (by omega) hk, upL_right (by omega) (snoc_ne _ _) hk, last_snoc, List.dropLast_concat, ih, mth_more (ls := ls) (by omega)]
termination_by ls.length

/-- All of them are digests. -/
def Digs (p : List (List Int)) : Prop := ∀ d ∈ p, d.length = 32
theorem shaL_len (zs : List Int) : (shaL zs).length = 32 := outTo_length _ 8 (by omega)
theorem leafL_length (b : List Int) : (leafL b).length = 32 := shaL_len _
theorem nodeL_length (a b : List Int) : (nodeL a b).length = 32 := shaL_len _
theorem mth_length (ls : List (List Int)) : (mth ls).length = 32 := by
  rw [mth]; split
  · exact shaL_len _
  · split
    · exact leafL_length _
    · exact nodeL_length _ _
theorem path_digs (ls : List (List Int)) (i : Nat) : Digs (pathL ls i) := by
  by_cases h1 : ls.length ≤ 1
  · rw [pathL_one h1]; intro d hd; cases hd
  · have hs := splitN_spec (n := ls.length) (by omega)
    by_cases hk : i < splitN ls.length
    · rw [pathL_left (by omega) hk]
      have := path_digs (ls.take (splitN ls.length)) i
      intro d hd
      rcases List.mem_append.1 hd with h | h
      · exact this d h
      · rw [List.mem_singleton.1 h]; exact mth_length _
    · rw [pathL_right (by omega) hk]
      have := path_digs (ls.drop (splitN ls.length)) (i - splitN ls.length)
      intro d hd
      rcases List.mem_append.1 hd with h | h
      · exact this d h
      · rw [List.mem_singleton.1 h]; exact mth_length _
termination_by ls.length
decreasing_by
  · rw [List.length_take]; omega
  · rw [List.length_drop]; omega
end Go.Proofs.YtkjlchfmplcobafGreatDoor

/- What trees' answers are, and lists of bytes in memory. Nothing of the program's functions is in it. -/
namespace Go.Proofs.YtkjlchfmplcobafGreatDoor
open Go.RowKit

theorem PartsAt.form {w : World} {v : Value} {L : List (List Int)} (h : PartsAt w v L) : ∃ a c, v = .slice a L.length c ∧ (L.length = 0 ∨ ∃ b off, a = some ⟨b, off, none⟩ ∧ b < w.heap.size ∧ ∀ j, j < L.length → ∃ a c, w.cell? ⟨b, off + j, none⟩ = some (.slice a (L.getD j []).length c) ∧ BytesAt w (.slice a (L.getD j []).length c) (L.getD j [])) := by
  rcases h with ⟨rfl, a, c, rfl⟩ | ⟨b, off, cp, rfl, h2, h3⟩
  · exact ⟨a, c, rfl, .inl rfl⟩
  · refine ⟨_, _, rfl, .inr ⟨b, off, rfl, h2, fun j hj => ?_⟩⟩
    obtain ⟨a, n, c, hc, hB⟩ := h3 j hj
    obtain ⟨a', c', e⟩ := hB.form
    cases e
    exact ⟨_, _, hc, hB⟩
/-- All are digests? -/
def goodL (L : List (List Int)) : Bool := L.all (fun d => decide (d.length = 32))
theorem goodL_digs {L : List (List Int)} : goodL L = true ↔ Digs L := by simp [goodL, Digs]
theorem goodL_bad {L : List (List Int)} {k : Nat} (hk : k < L.length) (h : (L.getD k []).length ≠ 32) : goodL L = false := by
  rw [Bool.eq_false_iff]
  intro hg
  rw [goodL_digs] at hg
  apply h
  rw [List.getD_eq_getElem?_getD, List.getElem?_eq_getElem hk]
  exact hg _ (List.getElem_mem hk)
theorem goodL_all {L : List (List Int)} (h : ∀ j, j < L.length → (L.getD j []).length = 32) : goodL L = true := by
  rw [goodL_digs]
  intro d hd
  obtain ⟨j, hj, rfl⟩ := List.mem_iff_getElem.1 hd
  have := h j hj
  rwa [List.getD_eq_getElem?_getD, List.getElem?_eq_getElem hj] at this
theorem PartsAt.take {w : World} {a : Option Addr} {n c k : Nat} {L : List (List Int)} (h : PartsAt w (.slice a n c) L) (hn : L.length = n) (hk : k ≤ n) (h0 : 0 < n) (c' : Nat) : PartsAt w (.slice a k c') (L.take k) := by
  rcases h with ⟨rfl, -⟩ | ⟨b, off, cp, e, h2, h3⟩
  · simp at hn; omega
  · cases e
    have hl : (L.take k).length = k := by rw [List.length_take]; omega
    refine .inr ⟨b, off, c', by rw [hl], h2, fun j hj => ?_⟩
    obtain ⟨a, m, c, hc, hB⟩ := h3 j (by omega)
    refine ⟨a, m, c, hc, ?_⟩
    rw [List.getD_eq_getElem?_getD, List.getElem?_take, if_pos (by omega), ← List.getD_eq_getElem?_getD]
    exact hB
theorem PartsAt.drop {w : World} {b off n c k : Nat} {L : List (List Int)} (h : PartsAt w (.slice (some ⟨b, off, none⟩) n c) L) (hn : L.length = n) (hk : k ≤ n) (h0 : 0 < n) (c' : Nat) : PartsAt w (.slice (some ⟨b, off + k, none⟩) (n - k) c') (L.drop k) := by
  rcases h with ⟨rfl, -⟩ | ⟨b, off, cp, e, h2, h3⟩
  · simp at hn; omega
  · cases e
    have hl : (L.drop k).length = L.length - k := List.length_drop
    refine .inr ⟨b, off + k, c', by rw [hl], h2, fun j hj => ?_⟩
    obtain ⟨a, m, c, hc, hB⟩ := h3 (k + j) (by omega)
    refine ⟨a, m, c, by rw [Nat.add_assoc]; exact hc, ?_⟩
    rw [List.getD_eq_getElem?_getD, List.getElem?_drop, ← List.getD_eq_getElem?_getD]
    exact hB
theorem bytes_shaL (zs : List Int) : Bytes (shaL zs) := by
  intro j
  have : ∀ x ∈ shaL zs, 0 ≤ x ∧ x < 256 := by
    intro x hx
    unfold shaL St.out at hx
    obtain ⟨y, -, hy⟩ := List.mem_flatMap.1 hx
    simp only [byte4, List.mem_cons, List.not_mem_nil, or_false] at hy
    have := U_lo y
    rcases hy with rfl | rfl | rfl | rfl <;> omega
  rw [List.getD_eq_getElem?_getD]
  by_cases hj : j < (shaL zs).length
  · rw [List.getElem?_eq_getElem hj]; exact this _ (List.getElem_mem hj)
  · rw [List.getElem?_eq_none (by omega)]; exact ⟨by decide, by decide⟩
theorem bytes_mth (ls : List (List Int)) : Bytes (mth ls) := by
  rw [mth]; split
  · exact bytes_shaL _
  · split
    · exact bytes_shaL _
    · exact bytes_shaL _
theorem nodeL_bytes (a b : List Int) : Bytes (nodeL a b) := bytes_shaL _
theorem leafL_bytes (b : List Int) : Bytes (leafL b) := bytes_shaL _
theorem PartsAt.last {w : World} {a : Option Addr} {m c : Nat} {p : List (List Int)} (h : PartsAt w (.slice a m c) p) (hm : p.length = m) (h0 : m ≠ 0) : ∃ b off ta tc, a = some ⟨b, off, none⟩ ∧ b < w.heap.size ∧ w.cell? ⟨b, off + (m - 1), none⟩ = some (.slice ta (p.getD (m - 1) []).length tc) ∧ BytesAt w (.slice ta (p.getD (m - 1) []).length tc) (p.getD (m - 1) []) := by
  obtain ⟨a0, c0, e0, hcell⟩ := h.form
  rw [hm] at e0
  cases e0
  obtain ⟨b, off, rfl, hb0, hcl⟩ := hcell.resolve_left (by omega)
  obtain ⟨ta, tc, h1, h2⟩ := hcl (m - 1) (by omega)
  exact ⟨b, off, ta, tc, rfl, hb0, h1, h2⟩
theorem getD_take_or (L : List (List Int)) (k j : Nat) : (L.take k).getD j [] = L.getD j [] ∨ (L.take k).getD j [] = [] := by
  by_cases h : j < k
  · left; rw [List.getD_eq_getElem?_getD, List.getElem?_take, if_pos h, ← List.getD_eq_getElem?_getD]
  · right; rw [List.getD_eq_getElem?_getD, List.getElem?_take, if_neg h]; rfl
theorem take_bytes {L : List (List Int)} (h : ∀ j, Bytes (L.getD j [])) (k : Nat) : ∀ j, Bytes ((L.take k).getD j []) := fun j => by
  rcases getD_take_or L k j with e | e <;> rw [e]
  · exact h j
  · exact nil_bytes
theorem take_short {L : List (List Int)} {m : Nat} (h : ∀ j, (L.getD j []).length ≤ m) (k : Nat) : ∀ j, ((L.take k).getD j []).length ≤ m := fun j => by
  rcases getD_take_or L k j with e | e <;> rw [e]
  · exact h j
  · exact Nat.zero_le _
/-- What Stands tells. -/
def standsL (size : Int) (root b : List Int) (i : Int) (p : List (List Int)) : Bool :=
  if size < 1 ∨ 100 < size ∨ i < 0 ∨ size ≤ i ∨ 200 < b.length ∨ goodL p = false then false else
    (upL (leafL b) i.toNat size.toNat p).2 && decide ((upL (leafL b) i.toNat size.toNat p).1 = root)
/-- What is wrong with leaves: the errno, and where. -/
def wrongFrom (L : List (List Int)) (k : Nat) : Int × Int :=
  match L with
  | [] => (0, 0)
  | b :: l => if 200 < b.length then (4, k) else wrongFrom l (k + 1)
def wrongL (L : List (List Int)) : Int × Int := if 100 < L.length then (5, 0) else wrongFrom L 0
theorem wrong_at {L : List (List Int)} {k : Nat} (q : Nat) (hk : k < L.length) (hb : ∀ j, j < k → (L.getD j []).length ≤ 200) (h : 200 < (L.getD k []).length) : wrongFrom L q = (4, ((q + k : Nat) : Int)) := by
  induction L generalizing k q with
  | nil => simp at hk
  | cons b l ih =>
    unfold wrongFrom
    cases k with
    | zero => rw [if_pos (by simpa using h)]; rfl
    | succ k =>
      have h0 := hb 0 (by omega)
      rw [if_neg (by simp at h0; omega), ih (q + 1) (k := k) (by simpa using hk) (fun j hj => by simpa using hb (j + 1) (by omega)) (by simpa using h)]
      congr 2
      omega
theorem wrong_none {L : List (List Int)} (q : Nat) (hb : ∀ j, j < L.length → (L.getD j []).length ≤ 200) : wrongFrom L q = (0, 0) := by
  induction L generalizing q with
  | nil => rfl
  | cons b l ih =>
    unfold wrongFrom
    have h0 := hb 0 (by simp)
    rw [if_neg (by simp at h0; omega), ih (q + 1) (fun j hj => by simpa using hb (j + 1) (by simpa using hj))]
theorem Tryz.info35b : (Tryz.prog.info? 35).map (fun i => (i.zero, i.size, i.bytes)) = some (some (.slice none 0 0), 1, 24) := by kernel_rfl
theorem own_ne {w : World} {base b2 : Nat} {e1 e2 : TypeId} {v1 v2 : Value} {n1 n2 : Nat} {xs1 xs2 : List Value} (h1 : w.ownsRow base e1 1 v1 n1 xs1) (h2 : w.ownsRow b2 e2 1 v2 n2 xs2) (hne : e1 ≠ e2) : Sep v1 v2 := fun g hg1 hg2 => by
  rcases h1.2 with ⟨rfl, -⟩ | ⟨g1, c1, cur1, rfl, -, hh1, -⟩
  · cases hg1
  rcases h2.2 with ⟨rfl, -⟩ | ⟨g2, c2, cur2, rfl, -, hh2, -⟩
  · cases hg2
  cases hg1
  cases hg2
  rw [hh1] at hh2
  cases hh2
  exact hne rfl
/-- Each of the values is a row of bytes of the call's own. -/
def OwnEls (w : World) (base : Nat) (vs : List Value) (L : List (List Int)) : Prop :=
  ∀ j, j < L.length → ∃ y, vs[j]? = some y ∧ w.ownsRow base 5 1 y (L.getD j []).length ((L.getD j []).map (Value.int .u8))
/-- A slice of slices of bytes, all of them the call's own. -/
def OwnParts (w : World) (base : Nat) (v : Value) (L : List (List Int)) : Prop := ∃ vs, w.ownsRow base 35 1 v L.length vs ∧ OwnEls w base vs L
theorem OwnEls.kept {w w' : World} {base : Nat} {vs : List Value} {L : List (List Int)} {v : Value} {n : Nat} {xs : List Value} (h : OwnEls w base vs L) (hr : w.ownsRow base 35 1 v n xs) (hg : w.grownBy w' v.ownBlock) : OwnEls w' base vs L := fun j hj => by
  obtain ⟨y, h1, h2⟩ := h j hj
  exact ⟨y, h1, h2.kept hg (own_ne h2 hr (by decide)).or⟩
theorem OwnEls.alloc {w : World} {base : Nat} {vs : List Value} {L : List (List Int)} (h : OwnEls w base vs L) (o : Obj) : OwnEls (w.alloc o) base vs L := fun j hj => by
  obtain ⟨y, h1, h2⟩ := h j hj
  exact ⟨y, h1, h2.alloc o⟩
theorem OwnEls.below {w w' : World} {base N : Nat} {vs : List Value} {L : List (List Int)} (h : OwnEls w base vs L) (hb : Below N w w') (hN : w.heap.size ≤ N) : OwnEls w' base vs L := fun j hj => by
  obtain ⟨y, h1, h2⟩ := h j hj
  exact ⟨y, h1, own_below h2 hb hN⟩
theorem OwnEls.base {w : World} {b b' : Nat} {vs : List Value} {L : List (List Int)} (h : OwnEls w b vs L) (hb : b' ≤ b) : OwnEls w b' vs L := fun j hj => by
  obtain ⟨y, h1, h2⟩ := h j hj
  exact ⟨y, h1, ownsRow_base h2 hb⟩
theorem OwnEls.snoc {w : World} {base : Nat} {vs : List Value} {L : List (List Int)} {x : Value} {d : List Int} (h : OwnEls w base vs L) (hl : vs.length = L.length) (hx : w.ownsRow base 5 1 x d.length (d.map (Value.int .u8))) : OwnEls w base (vs ++ [x]) (L ++ [d]) := fun j hj => by
  by_cases e : j < L.length
  · obtain ⟨y, h1, h2⟩ := h j e
    refine ⟨y, by rw [List.getElem?_append_left (by omega)]; exact h1, ?_⟩
    rw [List.getD_eq_getElem?_getD, List.getElem?_append_left e, ← List.getD_eq_getElem?_getD]
    exact h2
  · obtain rfl : j = L.length := by simp at hj; omega
    refine ⟨x, by rw [List.getElem?_append_right (by omega), hl, Nat.sub_self]; rfl, ?_⟩
    rw [List.getD_eq_getElem?_getD, List.getElem?_append_right (Nat.le_refl _), Nat.sub_self]
    exact hx
theorem OwnParts.below {w w' : World} {base N : Nat} {v : Value} {L : List (List Int)} (h : OwnParts w base v L) (hb : Below N w w') (hN : w.heap.size ≤ N) : OwnParts w' base v L := by
  obtain ⟨vs, h1, h2⟩ := h
  exact ⟨vs, own_below h1 hb hN, h2.below hb hN⟩
theorem OwnParts.base {w : World} {b b' : Nat} {v : Value} {L : List (List Int)} (h : OwnParts w b v L) (hb : b' ≤ b) : OwnParts w b' v L := by
  obtain ⟨vs, h1, h2⟩ := h
  exact ⟨vs, ownsRow_base h1 hb, h2.base hb⟩
theorem OwnParts.nil (w : World) (base : Nat) : OwnParts w base (.slice none 0 0) [] := ⟨[], World.ownsRow_nil _ _ _ _, fun _ hj => absurd hj (Nat.not_lt_zero _)⟩
theorem OwnParts.form {w : World} {base : Nat} {v : Value} {L : List (List Int)} (h : OwnParts w base v L) : ∃ a c, v = .slice a L.length c ∧ L.length ≤ c ∧ c ≤ maxLen := by
  obtain ⟨vs, h1, -⟩ := h
  exact own_cap h1
/-- So it reads as what it is. -/
theorem OwnParts.parts {w : World} {base : Nat} {v : Value} {L : List (List Int)} (h : OwnParts w base v L) : PartsAt w v L := by
  obtain ⟨vs, h1, h2⟩ := h
  rcases h1.2 with ⟨hv, hn⟩ | ⟨g, cap, cur, rfl, -, hg, -⟩
  · exact .inl ⟨List.eq_nil_of_length_eq_zero hn, none, 0, by rw [hv]⟩
  · refine .inr ⟨g, 0, cap, rfl, ?_, fun j hj => ?_⟩
    · rcases Nat.lt_or_ge g w.heap.size with h' | h'
      · exact h'
      · rw [Array.getElem?_eq_none h'] at hg; cases hg
    · obtain ⟨y, h3, h4⟩ := h2 j hj
      obtain ⟨a, c, rfl⟩ := own_form' h4
      refine ⟨a, _, c, ?_, bytesAt_own h4⟩
      rw [Nat.zero_add, h1.cellAt j (by omega)]
      exact h3
/-- Leaves as a call meets them: they can be read, there is room for what there is, and they are bytes, not too many. -/
structure Leaves (w : World) (a : Option Addr) (n c : Nat) (L : List (List Int)) : Prop where
  len : L.length = n
  at' : PartsAt w (.slice a n c) L
  room : n ≤ c
  cap : c ≤ maxLen
  bytes : ∀ j, Bytes (L.getD j [])
  short : ∀ j, (L.getD j []).length ≤ 1000000
theorem Leaves.below {w w' : World} {a : Option Addr} {n c : Nat} {L : List (List Int)} (h : Leaves w a n c L) (hb : Below w.heap.size w w') : Leaves w' a n c L :=
  ⟨h.len, h.at'.below (Nat.le_refl _) hb, h.room, h.cap, h.bytes, h.short⟩
theorem Leaves.take {w : World} {a : Option Addr} {n c k : Nat} {L : List (List Int)} (h : Leaves w a n c L) (hk : k ≤ n) (h0 : 0 < n) : Leaves w a k c (L.take k) :=
  ⟨by rw [List.length_take]; have := h.len; omega, h.at'.take h.len hk h0 _, by have := h.room; omega, h.cap, take_bytes h.bytes k, take_short h.short k⟩
theorem Leaves.drop {w : World} {b off n c k : Nat} {L : List (List Int)} (h : Leaves w (some ⟨b, off, none⟩) n c L) (hk : k ≤ n) (h0 : 0 < n) : Leaves w (some ⟨b, off + k, none⟩) (n - k) (c - k) (L.drop k) :=
  have gd : ∀ j, (L.drop k).getD j [] = L.getD (k + j) [] := fun j => by rw [List.getD_eq_getElem?_getD, List.getElem?_drop, ← List.getD_eq_getElem?_getD]
  ⟨by rw [List.length_drop]; have := h.len; omega, h.at'.drop h.len hk h0 _, by have := h.room; omega, by have := h.cap; omega, fun j => by rw [gd j]; exact h.bytes _, fun j => by rw [gd j]; exact h.short _⟩
theorem Leaves.addr {w : World} {a : Option Addr} {n c : Nat} {L : List (List Int)} (h : Leaves w a n c L) (h0 : 0 < n) : ∃ b off, a = some ⟨b, off, none⟩ := by
  obtain ⟨a0, c0, e0, hcell⟩ := h.at'.form
  rw [h.len] at e0
  cases e0
  obtain ⟨b, off, rfl, -⟩ := hcell.resolve_left (by have := h.len; omega)
  exact ⟨b, off, rfl⟩
theorem OwnParts.one {w w1 : World} {base : Nat} {xa : Option Addr} {xc : Nat} {d : List Int} (hl : d.length = 32) (h : w1.ownsRow w.heap.size 5 1 (.slice xa 32 xc) 32 (d.map (Value.int .u8))) (hb : base ≤ w.heap.size) (hs : w.heap.size ≤ w1.heap.size) :
    OwnParts (w1.alloc (.cells #[.slice xa 32 xc] 35)) base (.slice (some ⟨w1.heap.size, 0, none⟩) 1 1) [d] := by
  refine ⟨[.slice xa 32 xc], World.ownsRow_lit w1 #[.slice xa 32 xc] 1 (by omega) (by unfold maxLen; omega) rfl, fun j hj => ?_⟩
  obtain rfl : j = 0 := by simp at hj; omega
  exact ⟨_, rfl, by show World.ownsRow _ _ _ _ _ d.length _; rw [hl]; exact (ownsRow_base h hb).alloc _⟩
theorem goodL_get {L : List (List Int)} (h : goodL L = true) (j : Nat) (hj : j < L.length) : (L.getD j []).length = 32 := by
  rw [List.getD_eq_getElem?_getD, List.getElem?_eq_getElem hj]
  exact goodL_digs.1 h _ (List.getElem_mem hj)
/-- The values of a list as they lie. -/
theorem PartsAt.src {w : World} {a : Option Addr} {l c : Nat} {L : List (List Int)} (h : PartsAt w (.slice a l c) L) (hl : L.length = l) : ∃ vs : List Value, vs.length = l ∧ (∀ ad, a = some ad → ∀ j u, vs[j]? = some u → w.cell? (ad.add j) = some u) ∧
    (∀ j, j < l → ∃ pa pc, vs[j]? = some (.slice pa (L.getD j []).length pc) ∧ BytesAt w (.slice pa (L.getD j []).length pc) (L.getD j [])) ∧ (∀ u ∈ vs, u.oneCell' = true) := by
  obtain ⟨a0, c0, e0, hcell⟩ := h.form
  rw [hl] at e0
  cases e0
  rcases hcell with h0 | ⟨b, off, rfl, hb, hc⟩
  · obtain rfl : l = 0 := by omega
    exact ⟨[], rfl, fun _ _ j u hu => by simp at hu, fun j hj => absurd hj (Nat.not_lt_zero _), fun u hu => by cases hu⟩
  · rw [hl] at hc
    let f : Nat → Value := fun j => (w.cell? ⟨b, off + j, none⟩).getD (.slice none 0 0)
    have hf : ∀ j, j < l → ∃ pa pc, f j = .slice pa (L.getD j []).length pc ∧ w.cell? ⟨b, off + j, none⟩ = some (f j) ∧ BytesAt w (.slice pa (L.getD j []).length pc) (L.getD j []) := fun j hj => by
      obtain ⟨pa, pc, h1, h2⟩ := hc j hj
      have e : f j = .slice pa (L.getD j []).length pc := by show (w.cell? ⟨b, off + j, none⟩).getD _ = _; rw [h1]; rfl
      exact ⟨pa, pc, e, by rw [e]; exact h1, h2⟩
    have hget : ∀ j, j < l → ((List.range l).map f)[j]? = some (f j) := fun j hj => by rw [List.getElem?_map, List.getElem?_range hj]; rfl
    refine ⟨(List.range l).map f, by simp, fun ad ha j u hu => ?_, fun j hj => ?_, fun u hu => ?_⟩
    · cases ha
      have hj : j < l := by have := (List.getElem?_eq_some_iff.1 hu).1; simpa using this
      rw [hget j hj] at hu
      cases hu
      obtain ⟨-, -, -, h2, -⟩ := hf j hj
      rw [Addr.add_mid]; exact h2
    · obtain ⟨pa, pc, h1, -, h3⟩ := hf j hj
      exact ⟨pa, pc, by rw [hget j hj, h1], h3⟩
    · obtain ⟨j, hj, rfl⟩ := List.mem_map.1 hu
      obtain ⟨pa, pc, h1, -⟩ := hf j (by simpa using hj)
      rw [h1]; rfl
/-- A row of the call's own, of values that can be read. -/
theorem parts_of_row {w : World} {base : Nat} {v : Value} {n : Nat} {xs : List Value} {L : List (List Int)} (h : w.ownsRow base 35 1 v n xs) (hl : L.length = n) (he : ∀ j, j < n → ∃ a m c, xs[j]? = some (.slice a m c) ∧ BytesAt w (.slice a m c) (L.getD j [])) : PartsAt w v L := by
  rcases h.2 with ⟨hv, hn⟩ | ⟨g, cap, cur, rfl, -, hg, -⟩
  · exact .inl ⟨List.eq_nil_of_length_eq_zero (by omega), none, 0, by rw [hv]⟩
  · refine .inr ⟨g, 0, cap, by rw [hl], ?_, fun j hj => ?_⟩
    · rcases Nat.lt_or_ge g w.heap.size with h' | h'
      · exact h'
      · rw [Array.getElem?_eq_none h'] at hg; cases hg
    · obtain ⟨a, m, c, h1, h2⟩ := he j (by omega)
      exact ⟨a, m, c, by rw [Nat.zero_add, h.cellAt j (by omega)]; exact h1, h2⟩
/-- append(dst, src...), dst the call's own, src a list as it came. -/
theorem wpList_append_parts {P : Program} {w : World} {ops : Array Oper} {rest : List Oper} {o : Oper} {ac : Act} {Q : Exit → Act → World → Prop} (hgd : o.guard = none) (s x : Operand) (t : TypeId)
    (ho : o.op = .call { callee := .builtin .append, args := #[s, x], argTypes := #[t, t] })
    (base : Nat) (e : TypeId) (i : TypeInfo) (z : Value) (bytes : Nat) (ht : P.underlying t = some (.slice e)) (hi : P.info? e = some i) (hz : i.zero = some z)
    (hsize : i.size = 1) (hby : i.bytes = bytes) (hzs : z.cells.size = 1)
    (v : Value) (n : Nat) (xs : List Value) (hs : ac.eval s = v) (hown : w.ownsRow base e 1 v n xs)
    (a : Option Addr) (l c : Nat) (vs : List Value) (hx : ac.eval x = .slice a l c) (hnil : a = none → l = 0 ∧ c = 0) (hl : vs.length = l) (hc : ∀ ad, a = some ad → ∀ j u, vs[j]? = some u → w.cell? (ad.add j) = some u) (h1 : ∀ u ∈ vs, u.oneCell' = true)
    (h63 : n + l ≤ maxLen) (hbytes : (n + l) * bytes ≤ 140737488355328) (hbase : base ≤ w.heap.size)
    (h : ∀ v' w', w'.ownsRow base e 1 v' (n + l) (xs ++ vs) → w.grownBy w' v.ownBlock → wpList P ops Q rest (ac.put o.dst v') w') : wpList P ops Q (o :: rest) ac w := by
  cases a with
  | none =>
    obtain ⟨rfl, rfl⟩ := hnil rfl
    obtain rfl : vs = [] := List.eq_nil_of_length_eq_zero hl
    exact wpList_append_own_none hgd s x t ho base e i 1 ht hi v n xs hs hown hx (h v w (by simpa using hown) (World.grownBy.refl _ _))
  | some ad =>
    exact wpList_append_own _ hgd s x t ho base e i z 1 bytes ht hi hz hsize hby hzs (by decide) v n xs hs hown ad l c vs hx (by omega) (hc ad rfl) h1 h63 hbytes hbase (fun v' w' h1 h2 _ => h v' w' h1 h2)
theorem mem_short {L : List (List Int)} {m : Nat} (h : ∀ j, (L.getD j []).length ≤ m) : ∀ x ∈ L, x.length ≤ m := fun x hx => by
  obtain ⟨j, hj, rfl⟩ := List.mem_iff_getElem.1 hx
  have := h j
  rwa [List.getD_eq_getElem?_getD, List.getElem?_eq_getElem hj] at this
theorem short_mem {L : List (List Int)} {m : Nat} (h : ∀ x ∈ L, x.length ≤ m) (j : Nat) : (L.getD j []).length ≤ m := by
  rw [List.getD_eq_getElem?_getD]
  by_cases hj : j < L.length
  · rw [List.getElem?_eq_getElem hj]; exact h _ (List.getElem_mem hj)
  · rw [List.getElem?_eq_none (by omega)]; exact Nat.zero_le _
theorem wrong_ok {L : List (List Int)} (h : (wrongL L).1 = 0) : L.length ≤ 100 ∧ ∀ j, (L.getD j []).length ≤ 200 := by
  unfold wrongL at h
  by_cases h1 : 100 < L.length
  · rw [if_pos h1] at h; simp at h
  · rw [if_neg h1] at h
    refine ⟨by omega, ?_⟩
    have key : ∀ (L : List (List Int)) (q : Nat), (wrongFrom L q).1 = 0 → ∀ j, (L.getD j []).length ≤ 200 := fun L => by
      induction L with
      | nil => intro q _ j; simp
      | cons b l ih =>
        intro q hq j
        unfold wrongFrom at hq
        by_cases h2 : 200 < b.length
        · rw [if_pos h2] at hq; simp at hq
        · rw [if_neg h2] at hq
          cases j with
          | zero => simp; omega
          | succ j => simpa using ih (q + 1) hq j
    exact key L 0 h
end Go.Proofs.YtkjlchfmplcobafGreatDoor

/- What the laws of chapter 2 ask of package tree's faces, as propositions: each is shown of the landed code elsewhere. -/
namespace Go.Proofs.YtkjlchfmplcobafGreatDoor
open Go.RowKit

/-- The world holds the digests' table. -/
structure Ready (w : World) : Prop where
  tab : Tab w
  big : 0 < w.heap.size
theorem Ready.below {w w' : World} (h : Ready w) (hb : Below w.heap.size w w') : Ready w' := ⟨tab_below h.tab hb h.big, Nat.lt_of_lt_of_le h.big hb.size⟩
/-- A list of bytes' lists as it comes in: it can be read, there is room for what there is, and it is bytes. -/
structure Lists (w : World) (a : Option Addr) (n c : Nat) (L : List (List Int)) : Prop where
  len : L.length = n
  at' : PartsAt w (.slice a n c) L
  room : n ≤ c
  cap : c ≤ maxLen
  nil : a = none → n = 0 ∧ c = 0
  bytes : ∀ j, Bytes (L.getD j [])
  short : ∀ j, (L.getD j []).length ≤ maxLen
theorem Lists.below {w w' : World} {a : Option Addr} {n c : Nat} {L : List (List Int)} (h : Lists w a n c L) (hb : Below w.heap.size w w') : Lists w' a n c L :=
  ⟨h.len, h.at'.below (Nat.le_refl _) hb, h.room, h.cap, h.nil, h.bytes, h.short⟩
@[reducible] def faultV (p : Int × Int) : Value := .agg #[.int .i64 p.1, .int .i64 p.2]
/-- What Path and Grows say. -/
def pathF (L : List (List Int)) (i : Int) : Int × Int := if (wrongL L).1 ≠ 0 then wrongL L else if i < 0 ∨ (L.length : Int) ≤ i then (6, 0) else (0, 0)
def WrongC : Prop := ∀ (L : List (List Int)) (a : Option Addr) (n c : Nat) (w : World), Lists w a n c L →
  Calls Tryz.prog 51 #[.slice a n c] w fun e w' => e = .returned (faultV (wrongL L)) ∧ Below w.heap.size w w'
def RootC : Prop := ∀ (L : List (List Int)) (a : Option Addr) (n c : Nat) (w : World), Ready w → Lists w a n c L →
  Calls Tryz.prog 19 #[.slice a n c] w fun e w' => ∃ xa xn xc, e = .returned (.tuple #[.slice xa xn xc, faultV (wrongL L)]) ∧ ((wrongL L).1 = 0 → w'.ownsRow w.heap.size 5 1 (.slice xa xn xc) 32 ((mth L).map (Value.int .u8))) ∧ ((wrongL L).1 ≠ 0 → xn = 0) ∧ Below w.heap.size w w'
def PathC : Prop := ∀ (L : List (List Int)) (i : Int) (a : Option Addr) (n c : Nat) (w : World), Ready w → Lists w a n c L →
  Calls Tryz.prog 32 #[.slice a n c, .int .i64 i] w fun e w' => ∃ xa xn xc, e = .returned (.tuple #[.slice xa xn xc, faultV (pathF L i)]) ∧ ((pathF L i).1 = 0 → OwnParts w' w.heap.size (.slice xa xn xc) (pathL L i.toNat)) ∧ ((pathF L i).1 ≠ 0 → xn = 0) ∧ Below w.heap.size w w'
def StandsC : Prop := ∀ (size : Int) (root b : List Int) (i : Int) (p : List (List Int)) (rv bv : Value) (a : Option Addr) (n c : Nat) (w : World), Ready w → Some' w rv root → Some' w bv b → Lists w a n c p →
  Calls Tryz.prog 37 #[.agg #[.int .i64 size, rv], bv, .int .i64 i, .slice a n c] w fun e w' => e = .returned (.bool (standsL size root b i p)) ∧ Below w.heap.size w w'
end Go.Proofs.YtkjlchfmplcobafGreatDoor

/- What the laws of chapter 2 that go without the document's answer lean on. -/
namespace Go.Proofs.YtkjlchfmplcobafGreatDoor
open Go.RowKit

theorem path_bytes (ls : List (List Int)) (i : Nat) : ∀ x ∈ pathL ls i, Bytes x := by
  by_cases h1 : ls.length ≤ 1
  · rw [pathL_one h1]; intro d hd; cases hd
  · have hs := splitN_spec (n := ls.length) (by omega)
    by_cases hk : i < splitN ls.length
    · rw [pathL_left (by omega) hk]
      have := path_bytes (ls.take (splitN ls.length)) i
      intro d hd
      rcases List.mem_append.1 hd with h | h
      · exact this d h
      · rw [List.mem_singleton.1 h]; exact bytes_mth _
    · rw [pathL_right (by omega) hk]
      have := path_bytes (ls.drop (splitN ls.length)) (i - splitN ls.length)
      intro d hd
      rcases List.mem_append.1 hd with h | h
      · exact this d h
      · rw [List.mem_singleton.1 h]; exact bytes_mth _
termination_by ls.length
decreasing_by
  · rw [List.length_take]; omega
  · rw [List.length_drop]; omega
theorem bytes_mem {L : List (List Int)} (h : ∀ x ∈ L, Bytes x) (j : Nat) : Bytes (L.getD j []) := by
  rw [List.getD_eq_getElem?_getD]
  by_cases hj : j < L.length
  · rw [List.getElem?_eq_getElem hj]; exact h _ (List.getElem_mem hj)
  · rw [List.getElem?_eq_none (by omega)]; exact nil_bytes
theorem digs_short {L : List (List Int)} (h : Digs L) (j : Nat) : (L.getD j []).length ≤ maxLen := short_mem (fun x hx => by rw [h x hx]; unfold maxLen; omega) j
theorem own_nil {w : World} {base : Nat} {e : TypeId} {a : Option Addr} {n c m : Nat} {xs : List Value} (h : w.ownsRow base e 1 (.slice a n c) m xs) (ha : a = none) : n = 0 ∧ c = 0 := by
  subst ha
  rcases h.2 with ⟨h1, -⟩ | ⟨g, cap, cur, h1, -⟩
  · simp at h1; exact h1
  · simp at h1
/-- What a face answers is what a face is given. -/
theorem OwnParts.lists {w : World} {base : Nat} {xa : Option Addr} {xn xc : Nat} {L : List (List Int)} (h : OwnParts w base (.slice xa xn xc) L) (hb : ∀ x ∈ L, Bytes x) (hs : ∀ j, (L.getD j []).length ≤ maxLen) : Lists w xa xn xc L := by
  have hp := h.parts
  obtain ⟨a, c, e, h1, h2⟩ := h.form
  cases e
  obtain ⟨vs, hr, -⟩ := h
  exact ⟨rfl, hp, h1, h2, own_nil hr, bytes_mem hb, hs⟩
theorem own_len {w : World} {base : Nat} {e : TypeId} {a : Option Addr} {n c m : Nat} {xs : List Value} (h : w.ownsRow base e 1 (.slice a n c) m xs) : n = m := by
  obtain ⟨a', c', e'⟩ := own_form' h
  cases e'
  rfl
theorem Lists.take {w : World} {a : Option Addr} {n c k : Nat} {L : List (List Int)} (h : Lists w a n c L) (hk : k ≤ n) (h0 : 0 < n) : Lists w a k c (L.take k) :=
  ⟨by rw [List.length_take]; have := h.len; omega, h.at'.take h.len hk h0 _, by have := h.room; omega, h.cap, fun ha => by have := h.nil ha; omega, take_bytes h.bytes k, take_short h.short k⟩
theorem Lists.get {w : World} {a : Option Addr} {n c : Nat} {L : List (List Int)} (h : Lists w a n c L) (j : Nat) (hj : j < n) : ∃ b off pa pc, a = some ⟨b, off, none⟩ ∧ w.cell? ⟨b, off + j, none⟩ = some (.slice pa (L.getD j []).length pc) ∧ Some' w (.slice pa (L.getD j []).length pc) (L.getD j []) := by
  obtain ⟨a0, c0, e0, hcell⟩ := h.at'.form
  rw [h.len] at e0 hcell
  cases e0
  obtain ⟨b, off, rfl, -, hc⟩ := hcell.resolve_left (by omega)
  obtain ⟨pa, pc, h1, h2⟩ := hc j hj
  exact ⟨b, off, pa, pc, rfl, h1, h2, h.bytes j, h.short j⟩

/-- WHAT STANDS THERE IS SHOWN. -/
theorem stands_path {L : List (List Int)} {i : Nat} (h2 : L.length ≤ 100) (hi : i < L.length) (h200 : (L.getD i []).length ≤ 200) : standsL L.length (mth L) (L.getD i []) i (pathL L i) = true := by
  have hg : goodL (pathL L i) = true := goodL_digs.2 (path_digs L i)
  unfold standsL
  rw [if_neg (by intro h; rcases h with h | h | h | h | h | h <;> first | omega | (rw [hg] at h; cases h)), Int.toNat_natCast, Int.toNat_natCast, up_path L i hi]
  simp
theorem wrong_zero {L : List (List Int)} (h1 : L.length ≤ 100) (h2 : ∀ j, (L.getD j []).length ≤ 200) : wrongL L = (0, 0) := by
  unfold wrongL; rw [if_neg (by omega)]; exact wrong_none 0 (fun j _ => h2 j)

/-- The three leaves. -/
def three : List (List Int) := [[1], [2], [3]]
end Go.Proofs.YtkjlchfmplcobafGreatDoor

/- Chapter 6's mathematics: records, their bytes, and the book's leaves. -/
namespace Go.Proofs.YtkjlchfmplcobafGreatDoor

structure Rec where
  shard : Int
  from' : Int
  to' : Int
  size : Int
  root : List Int
def rec0 : Rec := ⟨0, 0, 0, 0, []⟩
/-- What is wrong with a record. -/
def wrongRec (r : Rec) : Int :=
  if r.shard < 0 ∨ 7 < r.shard ∨ r.from' < 0 ∨ r.to' ≤ r.from' ∨ 1000000 < r.to' ∨ r.size < 0 ∨ 100 < r.size then 3 else
  if r.root.length ≠ 32 then 2 else 0
def threeB (n : Int) : List Int := [n / 65536, n / 256 % 256, n % 256]
/-- A record's bytes. -/
def rowL (r : Rec) : List Int := r.shard :: (threeB r.from' ++ (threeB r.to' ++ (r.size :: r.root)))
/-- The record that bytes are, if they are one's. -/
def recL (b : List Int) : Rec := ⟨b.getD 0 0, 65536 * b.getD 1 0 + 256 * b.getD 2 0 + b.getD 3 0, 65536 * b.getD 4 0 + 256 * b.getD 5 0 + b.getD 6 0, b.getD 7 0, b.drop 8⟩
/-- What Bytes tells. -/
def bytesE (r : Rec) : List Int := if wrongRec r ≠ 0 then [] else rowL r
theorem wrongRec_ok {r : Rec} (h : wrongRec r = 0) : 0 ≤ r.shard ∧ r.shard ≤ 7 ∧ 0 ≤ r.from' ∧ r.from' < r.to' ∧ r.to' ≤ 1000000 ∧ 0 ≤ r.size ∧ r.size ≤ 100 ∧ r.root.length = 32 := by
  unfold wrongRec at h
  split at h
  · cases h
  · split at h
    · cases h
    · rename_i h1 h2
      exact ⟨by omega, by omega, by omega, by omega, by omega, by omega, by omega, by omega⟩
theorem row_length {r : Rec} (h : wrongRec r = 0) : (rowL r).length = 40 := by
  have := wrongRec_ok h
  unfold rowL threeB
  simp
  omega
theorem row_bytes {r : Rec} (h : wrongRec r = 0) (hb : Bytes r.root) : Bytes (rowL r) := by
  have h1 := wrongRec_ok h
  unfold rowL threeB
  refine bytes_cons (by omega) (by omega) (bytes_append ?_ (bytes_append ?_ (bytes_cons (by omega) (by omega) hb)))
  · exact bytes_cons (by omega) (by omega) (bytes_cons (by omega) (by omega) (bytes_cons (by omega) (by omega) nil_bytes))
  · exact bytes_cons (by omega) (by omega) (bytes_cons (by omega) (by omega) (bytes_cons (by omega) (by omega) nil_bytes))
theorem rec_row {r : Rec} (h : wrongRec r = 0) : recL (rowL r) = r := by
  have h1 := wrongRec_ok h
  obtain ⟨s, f, t, z, root⟩ := r
  unfold recL rowL threeB
  simp only [List.cons_append, List.nil_append, List.getD_cons_zero, List.getD_cons_succ, List.drop_succ_cons, List.drop_zero]
  dsimp only at h1
  congr 1
  · omega
  · omega
/-- The first record with which something is wrong. -/
def wrongRecs (l : List Rec) : Int × Int :=
  if 8 < l.length then (5, 0) else
  match (List.range l.length).find? (fun i => decide (wrongRec (l.getD i rec0) ≠ 0)) with
  | some i => (wrongRec (l.getD i rec0), (i : Int))
  | none => (0, 0)
def rowsOf (l : List Rec) : List (List Int) := l.map rowL
theorem wrongRecs_many {l : List Rec} (h : 8 < l.length) : wrongRecs l = (5, 0) := by unfold wrongRecs; rw [if_pos h]
theorem find_first {p : Nat → Bool} {n k : Nat} (hk : k < n) (h : p k = true) (hb : ∀ j, j < k → p j = false) : (List.range n).find? p = some k := by
  induction n with
  | zero => omega
  | succ n ih =>
    rw [List.range_succ, List.find?_append]
    by_cases hkn : k < n
    · rw [ih hkn]; rfl
    · obtain rfl : k = n := by omega
      rw [List.find?_eq_none.2 (fun x hx => by have := hb x (List.mem_range.1 hx); simp [this])]
      simp [h]
theorem wrongRecs_at {l : List Rec} {k : Nat} (h8 : l.length ≤ 8) (hk : k < l.length) (hb : ∀ j, j < k → wrongRec (l.getD j rec0) = 0) (h : wrongRec (l.getD k rec0) ≠ 0) : wrongRecs l = (wrongRec (l.getD k rec0), (k : Int)) := by
  unfold wrongRecs
  rw [if_neg (by omega), find_first (p := fun i => decide (wrongRec (l.getD i rec0) ≠ 0)) hk (decide_eq_true h) (fun j hj => decide_eq_false (fun g => g (hb j hj)))]
theorem wrongRecs_none {l : List Rec} (h8 : l.length ≤ 8) (hb : ∀ j, j < l.length → wrongRec (l.getD j rec0) = 0) : wrongRecs l = (0, 0) := by
  unfold wrongRecs
  rw [if_neg (by omega), List.find?_eq_none.2 (fun x hx => by rw [hb x (List.mem_range.1 hx)]; decide)]
theorem wrongRecs_ok {l : List Rec} (h : (wrongRecs l).1 = 0) : l.length ≤ 8 ∧ ∀ j, j < l.length → wrongRec (l.getD j rec0) = 0 := by
  by_cases h8 : 8 < l.length
  · rw [wrongRecs_many h8] at h; exact absurd h (by decide)
  refine ⟨by omega, fun j hj => ?_⟩
  unfold wrongRecs at h
  rw [if_neg h8] at h
  cases hf : (List.range l.length).find? (fun i => decide (wrongRec (l.getD i rec0) ≠ 0)) with
  | none =>
    have := List.find?_eq_none.1 hf j (List.mem_range.2 hj)
    simpa using this
  | some i =>
    rw [hf] at h
    have := List.find?_some hf
    exact absurd h (by simpa using this)
theorem wrongRecs_whole {l : List Rec} (h : (wrongRecs l).1 = 0) : wrongRecs l = (0, 0) := by
  obtain ⟨h1, h2⟩ := wrongRecs_ok h
  exact wrongRecs_none h1 h2
theorem rows_length (l : List Rec) : (rowsOf l).length = l.length := by unfold rowsOf; simp
theorem rows_get {l : List Rec} {j : Nat} (hj : j < l.length) : (rowsOf l).getD j [] = rowL (l.getD j rec0) := by
  unfold rowsOf
  rw [List.getD_eq_getElem?_getD, List.getElem?_map, List.getElem?_eq_getElem hj, List.getD_eq_getElem?_getD, List.getElem?_eq_getElem hj]
  rfl
theorem rows_short {l : List Rec} (h : (wrongRecs l).1 = 0) : ∀ j, ((rowsOf l).getD j []).length ≤ 200 := fun j => by
  by_cases hj : j < l.length
  · rw [rows_get hj, row_length ((wrongRecs_ok h).2 j hj)]; omega
  · rw [List.getD_eq_getElem?_getD, List.getElem?_eq_none (by rw [rows_length]; omega)]; simp
theorem rows_wrong {l : List Rec} (h : (wrongRecs l).1 = 0) : wrongL (rowsOf l) = (0, 0) := wrong_zero (by rw [rows_length]; have := (wrongRecs_ok h).1; omega) (rows_short h)
/-- What Head, Path and Grows say. -/
def bookPathF (l : List Rec) (row : Int) : Int × Int := if (wrongRecs l).1 ≠ 0 then wrongRecs l else pathF (rowsOf l) row
end Go.Proofs.YtkjlchfmplcobafGreatDoor

/- Chapter 5's mathematics: manifests, what is laid away, and what is read of it. -/
namespace Go.Proofs.YtkjlchfmplcobafGreatDoor

structure Seg where
  first : Int
  count : Int
  packed : List Int
structure Man where
  size : Int
  root : List Int
  segs : List Seg
def seg0 : Seg := ⟨0, 0, []⟩
def man0 : Man := ⟨0, [], []⟩
/-- Segment k of entries. -/
def segK (L : List (List Int)) (k : Nat) : Seg := ⟨((8 * k : Nat) : Int), ((min 8 (L.length - 8 * k) : Nat) : Int), packL (layL ((L.drop (8 * k)).take 8))⟩
def segsN (L : List (List Int)) (n : Nat) : List Seg := (List.range n).map (segK L)
def segsL (L : List (List Int)) : List Seg := segsN L ((L.length + 7) / 8)
theorem segsN_snoc (L : List (List Int)) (n : Nat) : segsN L (n + 1) = segsN L n ++ [segK L n] := by unfold segsN; rw [List.range_succ, List.map_append]; rfl
theorem segsN_length (L : List (List Int)) (n : Nat) : (segsN L n).length = n := by unfold segsN; simp
theorem segsN_get (L : List (List Int)) (n k : Nat) (h : k < n) : (segsN L n).getD k seg0 = segK L k := by
  unfold segsN; rw [List.getD_eq_getElem?_getD, List.getElem?_map, List.getElem?_range h]; rfl
/-- What Export tells. -/
def exportL (L : List (List Int)) : Man := if (wrongL L).1 ≠ 0 then man0 else ⟨L.length, mth L, segsL L⟩
/-- The segment stands where segment k must. -/
def fitB (size k : Int) (s : Seg) : Bool := decide (0 ≤ size ∧ size ≤ 100 ∧ k ≤ 100 ∧ s.first = k * 8 ∧ 1 ≤ s.count ∧ s.count = min 8 (size - s.first))
theorem fitB_iff {size k : Int} {s : Seg} : fitB size k s = true ↔ 0 ≤ size ∧ size ≤ 100 ∧ k ≤ 100 ∧ s.first = k * 8 ∧ 1 ≤ s.count ∧ s.count = min 8 (size - s.first) := by unfold fitB; simp
/-- What a segment's bytes tell. -/
def readSeg (s : Seg) : List (List Int) × Int :=
  if (unpackL s.packed).2 ≠ 0 then ([], (unpackL s.packed).2) else
  match takeL s.count.toNat (unpackL s.packed).1 with
  | none => ([], 2)
  | some l => (l, 0)
/-- What Segment tells. -/
def segmentL (m : Man) (k : Int) : List (List Int) × Int :=
  if k < 0 ∨ (m.segs.length : Int) ≤ k then ([], 6) else
  if fitB m.size k (m.segs.getD k.toNat seg0) = false then ([], 7) else readSeg (m.segs.getD k.toNat seg0)
/-- The entries of the segments ahead of k. -/
def upTo (m : Man) (k : Nat) : List (List Int) := (List.range k).flatMap (fun (j : Nat) => (segmentL m (j : Int)).1)
theorem upTo_zero (m : Man) : upTo m 0 = [] := rfl
theorem upTo_succ (m : Man) (k : Nat) : upTo m (k + 1) = upTo m k ++ (segmentL m (k : Int)).1 := by unfold upTo; rw [List.range_succ, List.flatMap_append]; simp
def manyB (m : Man) : Bool := decide (0 ≤ m.size ∧ m.size ≤ 100 ∧ (m.segs.length : Int) = (m.size + 7) / 8)
/-- The first segment that is not as it must be. -/
def badK (m : Man) : Option Nat := (List.range m.segs.length).find? (fun (k : Nat) => decide ((segmentL m (k : Int)).2 ≠ 0))
/-- What Verify tells. -/
def verifyL (m : Man) : List (List Int) × Int × Int :=
  if manyB m = false then ([], 5, 0) else
  match badK m with
  | some k => ([], (segmentL m (k : Int)).2, (k : Int))
  | none => if mth (upTo m m.segs.length) ≠ m.root then ([], 9, 0) else (upTo m m.segs.length, 0, 0)
theorem find_range {p : Nat → Bool} {n k : Nat} (hk : k < n) (h : p k = true) (hb : ∀ j, j < k → p j = false) : (List.range n).find? p = some k := by
  induction n with
  | zero => omega
  | succ n ih =>
    rw [List.range_succ, List.find?_append]
    by_cases hkn : k < n
    · rw [ih hkn]; rfl
    · obtain rfl : k = n := by omega
      rw [List.find?_eq_none.2 (fun x hx => by have := hb x (List.mem_range.1 hx); simp [this])]
      simp [h]
theorem find_none {p : Nat → Bool} {n : Nat} (hb : ∀ j, j < n → p j = false) : (List.range n).find? p = none :=
  List.find?_eq_none.2 (fun x hx => by have := hb x (List.mem_range.1 hx); simp [this])
theorem verify_many {m : Man} (h : manyB m = false) : verifyL m = ([], 5, 0) := by rw [verifyL, if_pos h]
theorem verify_bad {m : Man} {k : Nat} (h : manyB m = true) (hk : k < m.segs.length) (hb : ∀ j : Nat, j < k → (segmentL m (j : Int)).2 = 0) (he : (segmentL m (k : Int)).2 ≠ 0) : verifyL m = ([], (segmentL m (k : Int)).2, (k : Int)) := by
  have : badK m = some k := find_range hk (decide_eq_true he) (fun j hj => decide_eq_false (fun h => h (hb j hj)))
  rw [verifyL, if_neg (by rw [h]; decide), this]
theorem verify_good {m : Man} (h : manyB m = true) (hb : ∀ j : Nat, j < m.segs.length → (segmentL m (j : Int)).2 = 0) : verifyL m = if mth (upTo m m.segs.length) ≠ m.root then ([], 9, 0) else (upTo m m.segs.length, 0, 0) := by
  have : badK m = none := find_none (fun j hj => decide_eq_false (fun h => h (hb j hj)))
  rw [verifyL, if_neg (by rw [h]; decide), this]
/-- What is verified. -/
theorem verify_spec {m : Man} (h : (verifyL m).2.1 = 0) : verifyL m = (upTo m m.segs.length, 0, 0) ∧ manyB m = true ∧ (∀ j : Nat, j < m.segs.length → (segmentL m (j : Int)).2 = 0) ∧ mth (upTo m m.segs.length) = m.root := by
  by_cases hm : manyB m = true
  · rcases hK : badK m with _ | k
    · have hb : ∀ j : Nat, j < m.segs.length → (segmentL m (j : Int)).2 = 0 := fun j hj => by
        have := List.find?_eq_none.1 hK j (List.mem_range.2 hj)
        simpa using this
      have e := verify_good hm hb
      by_cases hr : mth (upTo m m.segs.length) ≠ m.root
      · rw [e, if_pos hr] at h; exact absurd h (by decide)
      · rw [e, if_neg hr]
        exact ⟨rfl, hm, hb, by simpa using hr⟩
    · have h1 := List.find?_some hK
      rw [verifyL, if_neg (by rw [hm]; decide), hK] at h
      exact absurd h (by simpa using h1)
  · rw [verify_many (by simpa using hm)] at h; exact absurd h (by decide)
theorem verify_err {m : Man} (h : (verifyL m).2.1 ≠ 0) : (verifyL m).1 = [] := by
  unfold verifyL at h ⊢
  by_cases hm : manyB m = false
  · rw [if_pos hm]
  · rw [if_neg hm] at h ⊢
    cases hb : badK m with
    | some k => rfl
    | none =>
      rw [hb] at h
      dsimp only at h ⊢
      by_cases hr : mth (upTo m m.segs.length) ≠ m.root
      · rw [if_pos hr]
      · rw [if_neg hr] at h; exact absurd rfl h
/-- A segment that is read. -/
theorem segment_ok {m : Man} {k : Int} (h : (segmentL m k).2 = 0) : 0 ≤ k ∧ k < m.segs.length ∧ fitB m.size k (m.segs.getD k.toNat seg0) = true ∧ (unpackL (m.segs.getD k.toNat seg0).packed).2 = 0 ∧ takeL (m.segs.getD k.toNat seg0).count.toNat (unpackL (m.segs.getD k.toNat seg0).packed).1 = some (segmentL m k).1 := by
  unfold segmentL at h ⊢
  by_cases h1 : k < 0 ∨ (m.segs.length : Int) ≤ k
  · rw [if_pos h1] at h; exact absurd h (by decide)
  rw [if_neg h1] at h ⊢
  by_cases h2 : fitB m.size k (m.segs.getD k.toNat seg0) = false
  · rw [if_pos h2] at h; exact absurd h (by decide)
  rw [if_neg h2] at h ⊢
  unfold readSeg at h ⊢
  by_cases h3 : (unpackL (m.segs.getD k.toNat seg0).packed).2 ≠ 0
  · rw [if_pos h3] at h; exact absurd h h3
  rw [if_neg h3] at h ⊢
  refine ⟨by omega, by omega, by simpa using h2, by simpa using h3, ?_⟩
  cases h4 : takeL (m.segs.getD k.toNat seg0).count.toNat (unpackL (m.segs.getD k.toNat seg0).packed).1 with
  | none => rw [h4] at h; exact absurd h (by decide)
  | some l => rfl
theorem segment_err {m : Man} {k : Int} (h : (segmentL m k).2 ≠ 0) : (segmentL m k).1 = [] := by
  unfold segmentL at h ⊢
  split
  · rfl
  · rename_i h1
    rw [if_neg h1] at h
    split
    · rfl
    · rename_i h2
      rw [if_neg h2] at h
      unfold readSeg at h ⊢
      split
      · rfl
      · rename_i h3
        rw [if_neg h3] at h
        split
        · rfl
        · rename_i l h4
          rw [h4] at h
          exact absurd rfl h
theorem segment_len {m : Man} {k : Int} (h : (segmentL m k).2 = 0) : ((segmentL m k).1.length : Int) = (m.segs.getD k.toNat seg0).count ∧ ∀ e ∈ (segmentL m k).1, e.length ≤ 200 := by
  obtain ⟨-, -, h3, -, h5⟩ := segment_ok h
  obtain ⟨h6, h7⟩ := takeL_len _ _ _ h5
  have := fitB_iff.1 h3
  exact ⟨by omega, h7⟩
theorem segment_mem (m : Man) (k : Int) : ∀ e ∈ (segmentL m k).1, ∀ x ∈ e, x ∈ (m.segs.getD k.toNat seg0).packed ∨ x = 0 := by
  by_cases h : (segmentL m k).2 = 0
  · obtain ⟨-, -, -, -, h5⟩ := segment_ok h
    intro e he x hx
    exact unpack_mem _ x (takeL_mem _ _ _ h5 e he x hx)
  · rw [segment_err h]; simp
theorem segment_few (m : Man) (k : Int) : (segmentL m k).1.length ≤ 8 ∧ ∀ e ∈ (segmentL m k).1, e.length ≤ 200 := by
  by_cases h : (segmentL m k).2 = 0
  · obtain ⟨h1, h2⟩ := segment_len h
    obtain ⟨-, -, h3, -, -⟩ := segment_ok h
    have := fitB_iff.1 h3
    exact ⟨by omega, h2⟩
  · rw [segment_err h]; simp
/-- How many entries came. -/
theorem upTo_length {m : Man} (hm : manyB m = true) : ∀ k : Nat, k ≤ m.segs.length → (∀ j : Nat, j < k → (segmentL m (j : Int)).2 = 0) → ((upTo m k).length : Int) = min (8 * (k : Int)) m.size
  | 0, _, _ => by unfold manyB at hm; simp at hm; rw [upTo_zero]; simp; omega
  | k + 1, hk, hb => by
    have h1 := upTo_length hm k (by omega) (fun j hj => hb j (by omega))
    obtain ⟨h2, -⟩ := segment_len (hb k (by omega))
    obtain ⟨-, -, h3, -, -⟩ := segment_ok (hb k (by omega))
    have h4 := fitB_iff.1 h3
    unfold manyB at hm
    simp at hm
    rw [upTo_succ, List.length_append]
    omega
theorem upTo_all {m : Man} (h : (verifyL m).2.1 = 0) : ((upTo m m.segs.length).length : Int) = m.size ∧ ∀ k : Nat, k < m.segs.length → (m.segs.getD k seg0).first = (upTo m k).length := by
  obtain ⟨-, hm, hb, -⟩ := verify_spec h
  have hm' := hm
  unfold manyB at hm'
  simp at hm'
  refine ⟨by rw [upTo_length hm _ (Nat.le_refl _) hb]; omega, fun k hk => ?_⟩
  obtain ⟨-, -, h3, -, -⟩ := segment_ok (hb k hk)
  have h4 := fitB_iff.1 h3
  rw [upTo_length hm k (by omega) (fun j hj => hb j (by omega))]
  rw [Int.toNat_natCast] at h4
  omega
theorem upTo_few (m : Man) : ∀ k : Nat, (upTo m k).length ≤ 8 * k ∧ ∀ e ∈ upTo m k, e.length ≤ 200
  | 0 => by rw [upTo_zero]; simp
  | k + 1 => by
    obtain ⟨h1, h2⟩ := upTo_few m k
    obtain ⟨h3, h4⟩ := segment_few m k
    rw [upTo_succ]
    refine ⟨by rw [List.length_append]; omega, fun e he => ?_⟩
    rcases List.mem_append.1 he with he | he
    · exact h2 e he
    · exact h4 e he
theorem verify_few {m : Man} : (verifyL m).1.length ≤ 100 ∧ ∀ e ∈ (verifyL m).1, e.length ≤ 200 := by
  by_cases h : (verifyL m).2.1 = 0
  · obtain ⟨h1, h2, -⟩ := verify_spec h
    have h3 := (upTo_all h).1
    unfold manyB at h2
    simp at h2
    rw [h1]
    exact ⟨by show (upTo m m.segs.length).length ≤ 100; omega, (upTo_few m _).2⟩
  · rw [verify_err h]; simp
/-- What is laid away is there. -/
theorem short_part {L : List (List Int)} (h : ∀ e ∈ L, e.length ≤ 200) (k : Nat) : ∀ e ∈ (L.drop (8 * k)).take 8, e.length ≤ 200 := fun e he => h e (List.mem_of_mem_drop (List.mem_of_mem_take he))
theorem lay_part {L : List (List Int)} (h : ∀ e ∈ L, e.length ≤ 200) (k : Nat) : (layL ((L.drop (8 * k)).take 8)).length ≤ 4000 := by
  have h1 := layL_length _ (short_part h k)
  have h2 : ((L.drop (8 * k)).take 8).length ≤ 8 := by rw [List.length_take]; omega
  omega
theorem readSeg_k {L : List (List Int)} (h : ∀ e ∈ L, e.length ≤ 200) (k : Nat) : readSeg (segK L k) = ((L.drop (8 * k)).take 8, 0) := by
  have hu := unpack_pack (lay_part h k)
  have hl : ((L.drop (8 * k)).take 8).length = min 8 (L.length - 8 * k) := by rw [List.length_take, List.length_drop]
  unfold readSeg segK
  dsimp only
  rw [hu, if_neg (by simp)]
  dsimp only
  rw [Int.toNat_natCast, ← hl, takeL_lay _ (short_part h k)]
theorem segment_export {L : List (List Int)} (h1 : L.length ≤ 100) (h : ∀ e ∈ L, e.length ≤ 200) {k : Nat} (hk : k < (L.length + 7) / 8) : segmentL ⟨L.length, mth L, segsL L⟩ (k : Int) = ((L.drop (8 * k)).take 8, 0) := by
  unfold segmentL segsL
  dsimp only
  rw [segsN_length, if_neg (by omega), Int.toNat_natCast, segsN_get _ _ _ hk, if_neg, readSeg_k h k]
  rw [Bool.not_eq_false, fitB_iff]
  unfold segK
  dsimp only
  omega
theorem upTo_export {L : List (List Int)} (h1 : L.length ≤ 100) (h : ∀ e ∈ L, e.length ≤ 200) : ∀ k : Nat, k ≤ (L.length + 7) / 8 → upTo ⟨L.length, mth L, segsL L⟩ k = L.take (8 * k)
  | 0, _ => by rw [upTo_zero]; simp
  | k + 1, hk => by rw [upTo_succ, upTo_export h1 h k (by omega), segment_export h1 h (by omega), Nat.mul_add, List.take_add]
theorem verify_export {L : List (List Int)} (h1 : L.length ≤ 100) (h : ∀ e ∈ L, e.length ≤ 200) : verifyL ⟨L.length, mth L, segsL L⟩ = (L, 0, 0) := by
  have hlen : (segsL L).length = (L.length + 7) / 8 := segsN_length _ _
  have hu := upTo_export h1 h ((L.length + 7) / 8) (Nat.le_refl _)
  rw [List.take_of_length_le (by omega)] at hu
  rw [verify_good]
  · dsimp only
    rw [hlen, hu, if_neg (by simp)]
  · unfold manyB
    dsimp only
    rw [hlen]
    exact decide_eq_true (by omega)
  · intro j hj
    dsimp only at hj
    rw [hlen] at hj
    rw [segment_export h1 h hj]
end Go.Proofs.YtkjlchfmplcobafGreatDoor

/- Chapter 7's mathematics: fleets, what is done with them, and what comes of it. -/
namespace Go.Proofs.YtkjlchfmplcobafGreatDoor

structure Shd where
  from' : Int
  to' : Int
  state : Int
  entries : List (List Int)
  man : Man
structure Flt where
  shards : List Shd
  book : List Rec
structure Dd where
  kind : Int
  n : Int
  time : Int
  entry : List Int
  segment : Int
  at' : Int
  by' : Int
structure Ans where
  err : Int
  shard : Int
  place : Int
  size : Int
  root : List Int
structure Win where
  a : Int
  b : Int
def shd0 : Shd := ⟨0, 0, 0, [], man0⟩
def flt0 : Flt := ⟨[], []⟩
def dd0 : Dd := ⟨0, 0, 0, [], 0, 0, 0⟩
def win0 : Win := ⟨0, 0⟩
def no (e : Int) : Ans := ⟨e, 0, 0, 0, []⟩
def ans0 : Ans := no 0
/-- What is wrong with a window, by itself and behind another. -/
def wrongWin (l : List Win) (i : Nat) : Int :=
  if (l.getD i win0).a < 0 ∨ (l.getD i win0).b ≤ (l.getD i win0).a ∨ 1000000 < (l.getD i win0).b then 3 else
  if 0 < i ∧ (l.getD i win0).a < (l.getD (i - 1) win0).b then 7 else 0
def wrongWins (l : List Win) : Int × Int :=
  if 8 < l.length then (5, 0) else
  match (List.range l.length).find? (fun i => decide (wrongWin l i ≠ 0)) with
  | some i => (wrongWin l i, (i : Int))
  | none => (0, 0)
/-- The shard in whose window a time is. -/
def homeOf (ss : List Shd) (t : Int) : Option Nat := (List.range ss.length).find? (fun k => decide ((ss.getD k shd0).from' ≤ t ∧ t < (ss.getD k shd0).to'))
/-- Where an entry stands. -/
def placeOf (es : List (List Int)) (e : List Int) : Option Nat := (List.range es.length).find? (fun i => decide (es.getD i [] = e))
def Flt.put (f : Flt) (k : Nat) (s : Shd) : Flt := ⟨f.shards.set k s, f.book⟩
/-- An entry comes. -/
def submitL (f : Flt) (d : Dd) : Flt × Ans :=
  if 200 < d.entry.length then (f, no 4) else
  match homeOf f.shards d.time with
  | none => (f, no 6)
  | some k =>
    if (f.shards.getD k shd0).state ≠ 1 then (f, no 8) else
    match placeOf (f.shards.getD k shd0).entries d.entry with
    | some i => (f, ⟨0, (k : Int), (i : Int), 0, []⟩)
    | none =>
      if 100 ≤ (f.shards.getD k shd0).entries.length then (f, no 5) else
      (f.put k { (f.shards.getD k shd0) with entries := (f.shards.getD k shd0).entries ++ [d.entry] }, ⟨0, (k : Int), ((f.shards.getD k shd0).entries.length : Int), 0, []⟩)
/-- The state that a kind wants. -/
def wantL (kind : Int) : Int := if kind = 2 then 1 else if kind = 3 then 2 else 3
def xorI (x y : Int) : Int := ((Nat.xor x.toNat y.toNat : Nat) : Int)
def spoilSeg (s : Seg) (at' by' : Int) : Seg := { s with packed := s.packed.set at'.toNat (xorI (s.packed.getD at'.toNat 0) by') }
/-- A step on the shard k, whose state is the one that it wants. -/
def stepAt (f : Flt) (k : Nat) (d : Dd) : Flt × Ans :=
  let s := f.shards.getD k shd0
  if d.kind = 2 then (⟨f.shards.set k { s with state := 2 }, f.book ++ [⟨(k : Int), s.from', s.to', (s.entries.length : Int), mth s.entries⟩]⟩, ⟨0, (k : Int), 0, (s.entries.length : Int), mth s.entries⟩) else
  if d.kind = 3 then
    if (wrongL s.entries).1 ≠ 0 then (f, no (wrongL s.entries).1) else
    (f.put k { s with state := 3, man := exportL s.entries }, ⟨0, (k : Int), 0, (exportL s.entries).size, (exportL s.entries).root⟩) else
  if d.kind = 4 then
    if (verifyL s.man).2.1 ≠ 0 then (f, no (verifyL s.man).2.1) else
    (f.put k { s with state := 4, entries := [] }, ⟨0, (k : Int), 0, s.man.size, s.man.root⟩) else
  if d.segment < 0 ∨ (s.man.segs.length : Int) ≤ d.segment then (f, no 6) else
  if d.at' < 0 ∨ ((s.man.segs.getD d.segment.toNat seg0).packed.length : Int) ≤ d.at' then (f, no 3) else
  (f.put k { s with man := { s.man with segs := s.man.segs.set d.segment.toNat (spoilSeg (s.man.segs.getD d.segment.toNat seg0) d.at' d.by') } }, ⟨0, (k : Int), 0, 0, []⟩)
/-- One thing is done. -/
def stepL (f : Flt) (d : Dd) : Flt × Ans :=
  if d.kind = 1 then submitL f d else
  if d.kind < 2 ∨ 5 < d.kind then (f, no 1) else
  if d.n < 0 ∨ (f.shards.length : Int) ≤ d.n then (f, no 6) else
  if (f.shards.getD d.n.toNat shd0).state ≠ wantL d.kind then (f, no 7) else
  stepAt f d.n.toNat d
/-- One thing after the other. -/
def runL : Flt → List Dd → Flt × List Ans
  | f, [] => (f, [])
  | f, d :: ds => ((runL (stepL f d).1 ds).1, (stepL f d).2 :: (runL (stepL f d).1 ds).2)
def startL (ws : List Win) : Flt := ⟨ws.map (fun w => ⟨w.a, w.b, 1, [], man0⟩), []⟩
def playF (ws : List Win) (l : List Dd) : Int × Int := if (wrongWins ws).1 ≠ 0 then wrongWins ws else if 120 < l.length then (5, 0) else (0, 0)
def playL (ws : List Win) (l : List Dd) : Flt × List Ans := if (playF ws l).1 ≠ 0 then (flt0, []) else runL (startL ws) l
theorem runL_append (f : Flt) (l1 l2 : List Dd) : runL f (l1 ++ l2) = ((runL (runL f l1).1 l2).1, (runL f l1).2 ++ (runL (runL f l1).1 l2).2) := by
  induction l1 generalizing f with
  | nil => rfl
  | cons d ds ih => simp only [List.cons_append, runL, ih]
theorem runL_snoc (f : Flt) (l : List Dd) (d : Dd) : runL f (l ++ [d]) = ((stepL (runL f l).1 d).1, (runL f l).2 ++ [(stepL (runL f l).1 d).2]) := by rw [runL_append]; rfl
theorem runL_length (f : Flt) (l : List Dd) : (runL f l).2.length = l.length := by
  induction l generalizing f with
  | nil => rfl
  | cons d ds ih => simp only [runL, List.length_cons, ih]

end Go.Proofs.YtkjlchfmplcobafGreatDoor

/- What holds of every fleet that is come to. -/
namespace Go.Proofs.YtkjlchfmplcobafGreatDoor

theorem getD_set_same {α : Type} {l : List α} {k : Nat} {x d : α} (h : k < l.length) : (l.set k x).getD k d = x := by
  rw [List.getD_eq_getElem?_getD, List.getElem?_set_self h]; rfl
theorem getD_set_other {α : Type} {l : List α} {k j : Nat} {x d : α} (h : k ≠ j) : (l.set k x).getD j d = l.getD j d := by
  rw [List.getD_eq_getElem?_getD, List.getElem?_set_ne h, ← List.getD_eq_getElem?_getD]
theorem find_range_some {p : Nat → Bool} {n k : Nat} (h : (List.range n).find? p = some k) : k < n ∧ p k = true ∧ ∀ j, j < k → p j = false := by
  have h1 := List.find?_some h
  have h2 := List.mem_range.1 (List.mem_of_find?_eq_some h)
  refine ⟨h2, h1, fun j hj => ?_⟩
  cases hp : p j with
  | false => rfl
  | true =>
    exfalso
    have hex : ∃ i, i ≤ j ∧ p i = true ∧ ∀ q, q < i → p q = false := by
      clear h h1 h2 hj
      induction j using Nat.strongRecOn with
      | ind j ih =>
        by_cases hq : ∃ q, q < j ∧ p q = true
        · obtain ⟨q, hq1, hq2⟩ := hq
          obtain ⟨i, h1, h2, h3⟩ := ih q hq1 hq2
          exact ⟨i, by omega, h2, h3⟩
        · refine ⟨j, Nat.le_refl _, hp, fun q hlt => ?_⟩
          cases hpq : p q with
          | false => rfl
          | true => exact absurd ⟨q, hlt, hpq⟩ hq
    obtain ⟨i, h1', h2', h3'⟩ := hex
    have := find_range (n := n) (p := p) (k := i) (by omega) h2' h3'
    rw [h] at this
    cases this
    omega
theorem find_range_none {p : Nat → Bool} {n : Nat} (h : (List.range n).find? p = none) : ∀ j, j < n → p j = false := fun j hj => by
  have := List.find?_eq_none.1 h j (List.mem_range.2 hj)
  simpa using this
theorem home_some {ss : List Shd} {t : Int} {k : Nat} (h : homeOf ss t = some k) : k < ss.length ∧ (ss.getD k shd0).from' ≤ t ∧ t < (ss.getD k shd0).to' := by
  obtain ⟨h1, h2, -⟩ := find_range_some h
  have := of_decide_eq_true h2
  exact ⟨h1, this.1, this.2⟩
theorem place_some {es : List (List Int)} {e : List Int} {i : Nat} (h : placeOf es e = some i) : i < es.length ∧ es.getD i [] = e := by
  obtain ⟨h1, h2, -⟩ := find_range_some h
  exact ⟨h1, of_decide_eq_true h2⟩
theorem place_none {es : List (List Int)} {e : List Int} (h : placeOf es e = none) : e ∉ es := fun hm => by
  obtain ⟨j, hj, rfl⟩ := List.mem_iff_getElem.1 hm
  have := find_range_none h j hj
  have := of_decide_eq_false this
  rw [List.getD_eq_getElem?_getD, List.getElem?_eq_getElem hj] at this
  exact this rfl
structure ShdOk (w : Win) (s : Shd) : Prop where
  from_eq : s.from' = w.a
  to_eq : s.to' = w.b
  st : s.state = 1 ∨ s.state = 2 ∨ s.state = 3 ∨ s.state = 4
  few : s.entries.length ≤ 100
  short : ∀ e ∈ s.entries, e.length ≤ 200
  distinct : s.entries.Nodup
  gone : s.state = 4 → s.entries = []
  head3 : s.state = 3 → s.man.size = (s.entries.length : Int) ∧ s.man.root = mth s.entries
  ver4 : s.state = 4 → (verifyL s.man).2.1 = 0
/-- A shard's head. -/
def headOf (s : Shd) : Int × List Int := if s.state = 4 then (s.man.size, s.man.root) else ((s.entries.length : Int), mth s.entries)
def recOf (k : Nat) (s : Shd) : Rec := ⟨(k : Int), s.from', s.to', (headOf s).1, (headOf s).2⟩
structure FltOk (ws : List Win) (f : Flt) : Prop where
  len : f.shards.length = ws.length
  each : ∀ k, k < ws.length → ShdOk (ws.getD k win0) (f.shards.getD k shd0)
  inb : ∀ j, j < f.book.length → ∃ k, k < ws.length ∧ (f.shards.getD k shd0).state ≠ 1 ∧ f.book.getD j rec0 = recOf k (f.shards.getD k shd0)
  once : ∀ i j, i < f.book.length → j < f.book.length → (f.book.getD i rec0).shard = (f.book.getD j rec0).shard → i = j
  all : ∀ k, k < ws.length → (f.shards.getD k shd0).state ≠ 1 → ∃ j, j < f.book.length ∧ (f.book.getD j rec0).shard = (k : Int)
theorem wins_get (ws : List Win) {k : Nat} (hk : k < ws.length) : (startL ws).shards.getD k shd0 = ⟨(ws.getD k win0).a, (ws.getD k win0).b, 1, [], man0⟩ := by
  unfold startL
  rw [List.getD_eq_getElem?_getD, List.getElem?_map, List.getElem?_eq_getElem hk, List.getD_eq_getElem?_getD, List.getElem?_eq_getElem hk]
  rfl
theorem start_ok (ws : List Win) : FltOk ws (startL ws) := by
  refine ⟨by simp [startL], fun k hk => ?_, fun j hj => absurd hj (Nat.not_lt_zero _), fun i j hi => absurd hi (Nat.not_lt_zero _), fun k hk h => ?_⟩
  · rw [wins_get ws hk]
    exact ⟨rfl, rfl, .inl rfl, Nat.zero_le _, fun e he => absurd he (by simp), List.nodup_nil, (fun h => by cases h), (fun h => by cases h), (fun h => by cases h)⟩
  · rw [wins_get ws hk] at h; exact absurd rfl h
/-- A shard is put in another's place, with the same head where it is in the book. -/
theorem FltOk.put {ws : List Win} {f : Flt} (h : FltOk ws f) {k : Nat} (hk : k < ws.length) {s : Shd} (hs : ShdOk (ws.getD k win0) s) (h1 : (f.shards.getD k shd0).state = 1 → s.state = 1) (h2 : (f.shards.getD k shd0).state ≠ 1 → s.state ≠ 1 ∧ headOf s = headOf (f.shards.getD k shd0)) : FltOk ws (f.put k s) := by
  have hl : k < f.shards.length := by rw [h.len]; exact hk
  have hg : ∀ j, (f.put k s).shards.getD j shd0 = if k = j then s else f.shards.getD j shd0 := fun j => by
    show (f.shards.set k s).getD j shd0 = _
    by_cases e : k = j
    · subst e; rw [if_pos rfl, getD_set_same hl]
    · rw [if_neg e, getD_set_other e]
  refine ⟨by show (f.shards.set k s).length = _; rw [List.length_set]; exact h.len, fun j hj => ?_, fun j hj => ?_, h.once, fun j hj hst => ?_⟩
  · rw [hg]
    by_cases e : k = j
    · subst e; rw [if_pos rfl]; exact hs
    · rw [if_neg e]; exact h.each j hj
  · obtain ⟨q, hq1, hq2, hq3⟩ := h.inb j hj
    refine ⟨q, hq1, ?_, ?_⟩
    · rw [hg]
      by_cases e : k = q
      · subst e; rw [if_pos rfl]; exact (h2 hq2).1
      · rw [if_neg e]; exact hq2
    · rw [hg]
      by_cases e : k = q
      · subst e
        rw [if_pos rfl]
        show f.book.getD j rec0 = _
        rw [hq3]
        unfold recOf
        rw [(h2 hq2).2, (h.each k hq1).from_eq, (h.each k hq1).to_eq, hs.from_eq, hs.to_eq]
      · rw [if_neg e]; exact hq3
  · rw [hg] at hst
    refine h.all j hj ?_
    by_cases e : k = j
    · subst e
      rw [if_pos rfl] at hst
      exact fun g => hst (h1 g)
    · rw [if_neg e] at hst; exact hst
theorem submit_ok {ws : List Win} {f : Flt} (h : FltOk ws f) (d : Dd) : FltOk ws (submitL f d).1 := by
  unfold submitL
  by_cases h200 : 200 < d.entry.length
  · rw [if_pos h200]; exact h
  rw [if_neg h200]
  cases hh : homeOf f.shards d.time with
  | none => exact h
  | some k =>
    obtain ⟨hk, -, -⟩ := home_some hh
    rw [h.len] at hk
    have hs := h.each k hk
    dsimp only
    by_cases h1 : (f.shards.getD k shd0).state ≠ 1
    · rw [if_pos h1]; exact h
    rw [if_neg h1]
    have h1' : (f.shards.getD k shd0).state = 1 := by omega
    cases hp : placeOf (f.shards.getD k shd0).entries d.entry with
    | some i => exact h
    | none =>
      dsimp only
      by_cases h100 : 100 ≤ (f.shards.getD k shd0).entries.length
      · rw [if_pos h100]; exact h
      rw [if_neg h100]
      refine h.put hk ⟨hs.from_eq, hs.to_eq, hs.st, ?_, ?_, ?_, ?_, ?_, ?_⟩ (fun _ => h1') (fun g => absurd h1' g)
      · show ((f.shards.getD k shd0).entries ++ [d.entry]).length ≤ 100
        rw [List.length_append, List.length_singleton]; omega
      · intro e he
        rcases List.mem_append.1 he with g | g
        · exact hs.short e g
        · simp at g; subst g; omega
      · rw [List.nodup_append]
        exact ⟨hs.distinct, by simp, fun a ha b hb => by simp at hb; subst hb; exact fun e => place_none hp (e ▸ ha)⟩
      · intro g; exact absurd (h1'.symm.trans g) (by decide)
      · intro g; exact absurd (h1'.symm.trans g) (by decide)
      · intro g; exact absurd (h1'.symm.trans g) (by decide)
theorem wrong_entries {w : Win} {s : Shd} (h : ShdOk w s) : wrongL s.entries = (0, 0) := wrong_zero h.few (fun j => by
  by_cases hj : j < s.entries.length
  · rw [List.getD_eq_getElem?_getD, List.getElem?_eq_getElem hj]; exact h.short _ (List.getElem_mem hj)
  · rw [List.getD_eq_getElem?_getD, List.getElem?_eq_none (by omega)]; simp)
theorem export_size {w : Win} {s : Shd} (h : ShdOk w s) : (exportL s.entries).size = (s.entries.length : Int) ∧ (exportL s.entries).root = mth s.entries := by
  unfold exportL
  rw [wrong_entries h, if_neg (fun g => g rfl)]
  exact ⟨rfl, rfl⟩
theorem headOf_kept {s s' : Shd} (h1 : s.state ≠ 4) (h2 : s'.state ≠ 4) (he : s'.entries = s.entries) : headOf s' = headOf s := by unfold headOf; rw [if_neg h1, if_neg h2, he]
theorem snoc_get {α : Type} (l : List α) (x d : α) (j : Nat) : (l ++ [x]).getD j d = if j < l.length then l.getD j d else if j = l.length then x else d := by
  by_cases h : j < l.length
  · rw [if_pos h, List.getD_eq_getElem?_getD, List.getElem?_append_left h, ← List.getD_eq_getElem?_getD]
  · rw [if_neg h]
    by_cases e : j = l.length
    · rw [if_pos e, e, List.getD_eq_getElem?_getD, List.getElem?_append_right (Nat.le_refl _)]; simp
    · rw [if_neg e, List.getD_eq_getElem?_getD, List.getElem?_eq_none (by simp; omega)]; rfl
theorem freeze_ok {ws : List Win} {f : Flt} (h : FltOk ws f) {k : Nat} (hk : k < ws.length) (h1 : (f.shards.getD k shd0).state = 1) {s2 : Shd} {x : Rec} (hs2 : ShdOk (ws.getD k win0) s2) (hst2 : s2.state ≠ 1) (hx : x = recOf k s2) :
    FltOk ws ⟨f.shards.set k s2, f.book ++ [x]⟩ := by
  have hl : k < f.shards.length := by rw [h.len]; exact hk
  have hg : ∀ j, (f.shards.set k s2).getD j shd0 = if k = j then s2 else f.shards.getD j shd0 := fun j => by
    by_cases e : k = j
    · subst e; rw [if_pos rfl, getD_set_same hl]
    · rw [if_neg e, getD_set_other e]
  have hsh : ∀ j, j < f.book.length → (f.book.getD j rec0).shard ≠ (k : Int) := fun j hj e => by
    obtain ⟨q, hq1, hq2, hq3⟩ := h.inb j hj
    rw [hq3] at e
    have : q = k := by have e' : (q : Int) = (k : Int) := e; omega
    subst this
    exact hq2 h1
  have hxs : x.shard = (k : Int) := by rw [hx]; rfl
  refine ⟨by show (f.shards.set k _).length = _; rw [List.length_set]; exact h.len, fun j hj => ?_, fun j hj => ?_, fun i j hi hj e => ?_, fun j hj hst => ?_⟩
  · dsimp only
    rw [hg]
    by_cases e : k = j
    · subst e; rw [if_pos rfl]; exact hs2
    · rw [if_neg e]; exact h.each j hj
  · have hj' : j < f.book.length + 1 := by simpa using hj
    dsimp only
    rw [snoc_get]
    by_cases hlt : j < f.book.length
    · rw [if_pos hlt]
      obtain ⟨q, hq1, hq2, hq3⟩ := h.inb j hlt
      have hqk : k ≠ q := fun e => by subst e; exact hq2 h1
      refine ⟨q, hq1, ?_, ?_⟩
      · rw [hg, if_neg hqk]; exact hq2
      · rw [hg, if_neg hqk]; exact hq3
    · rw [if_neg hlt, if_pos (by omega)]
      exact ⟨k, hk, by rw [hg, if_pos rfl]; exact hst2, by rw [hg, if_pos rfl]; exact hx⟩
  · have hi' : i < f.book.length + 1 := by simpa using hi
    have hj' : j < f.book.length + 1 := by simpa using hj
    dsimp only at e
    rw [snoc_get, snoc_get] at e
    by_cases h1' : i < f.book.length
    · by_cases h2' : j < f.book.length
      · rw [if_pos h1', if_pos h2'] at e; exact h.once i j h1' h2' e
      · rw [if_pos h1', if_neg h2', if_pos (by omega), hxs] at e; exact absurd e (hsh i h1')
    · by_cases h2' : j < f.book.length
      · rw [if_neg h1', if_pos (by omega), if_pos h2', hxs] at e; exact absurd e.symm (hsh j h2')
      · omega
  · dsimp only at hst ⊢
    rw [hg] at hst
    by_cases e : k = j
    · subst e
      exact ⟨f.book.length, by simp, by rw [snoc_get, if_neg (Nat.lt_irrefl _), if_pos rfl]; exact hxs⟩
    · rw [if_neg e] at hst
      obtain ⟨q, hq1, hq2⟩ := h.all j hj hst
      exact ⟨q, by simp; omega, by rw [snoc_get, if_pos hq1]; exact hq2⟩
theorem step_ok {ws : List Win} {f : Flt} (h : FltOk ws f) (d : Dd) : FltOk ws (stepL f d).1 := by
  unfold stepL
  by_cases h1 : d.kind = 1
  · rw [if_pos h1]; exact submit_ok h d
  rw [if_neg h1]
  by_cases h2 : d.kind < 2 ∨ 5 < d.kind
  · rw [if_pos h2]; exact h
  rw [if_neg h2]
  by_cases h3 : d.n < 0 ∨ (f.shards.length : Int) ≤ d.n
  · rw [if_pos h3]; exact h
  rw [if_neg h3]
  by_cases h4 : (f.shards.getD d.n.toNat shd0).state ≠ wantL d.kind
  · rw [if_pos h4]; exact h
  rw [if_neg h4]
  have hk : d.n.toNat < ws.length := by rw [← h.len]; omega
  generalize d.n.toNat = k at *
  have hst : (f.shards.getD k shd0).state = wantL d.kind := by simpa using h4
  have hs := h.each k hk
  unfold stepAt
  dsimp only
  by_cases k2 : d.kind = 2
  · rw [if_pos k2]
    have hst1 : (f.shards.getD k shd0).state = 1 := by rw [hst, k2]; rfl
    exact freeze_ok h hk hst1 (s2 := { (f.shards.getD k shd0) with state := 2 }) ⟨hs.from_eq, hs.to_eq, .inr (.inl rfl), hs.few, hs.short, hs.distinct, (fun g => absurd (show (2 : Int) = 4 from g) (by decide)), (fun g => absurd (show (2 : Int) = 3 from g) (by decide)), (fun g => absurd (show (2 : Int) = 4 from g) (by decide))⟩ (show (2 : Int) ≠ 1 by decide) (by unfold recOf headOf; dsimp only; rw [if_neg (by decide)])
  rw [if_neg k2]
  by_cases k3 : d.kind = 3
  · rw [if_pos k3]
    have hst2 : (f.shards.getD k shd0).state = 2 := by rw [hst, k3]; rfl
    rw [if_neg (by rw [wrong_entries hs]; exact fun g => g rfl)]
    refine h.put hk ⟨hs.from_eq, hs.to_eq, .inr (.inr (.inl rfl)), hs.few, hs.short, hs.distinct, (fun g => absurd (show (3 : Int) = 4 from g) (by decide)), (fun _ => export_size hs), (fun g => absurd (show (3 : Int) = 4 from g) (by decide))⟩ (fun g => absurd (hst2.symm.trans g) (by decide)) (fun _ => ⟨by show (3 : Int) ≠ 1; decide, headOf_kept (by rw [hst2]; decide) (by show (3 : Int) ≠ 4; decide) rfl⟩)
  rw [if_neg k3]
  have hst3 : (f.shards.getD k shd0).state = 3 := by rw [hst]; unfold wantL; rw [if_neg k2, if_neg k3]
  by_cases k4 : d.kind = 4
  · rw [if_pos k4]
    by_cases hv : (verifyL (f.shards.getD k shd0).man).2.1 ≠ 0
    · rw [if_pos hv]; exact h
    rw [if_neg hv]
    have hv' : (verifyL (f.shards.getD k shd0).man).2.1 = 0 := by simpa using hv
    refine h.put hk ⟨hs.from_eq, hs.to_eq, .inr (.inr (.inr rfl)), Nat.zero_le _, (fun e he => absurd he (by simp)), List.nodup_nil, (fun _ => rfl), (fun g => absurd (show (4 : Int) = 3 from g) (by decide)), (fun _ => hv')⟩ (fun g => absurd (hst3.symm.trans g) (by decide)) (fun _ => ⟨by show (4 : Int) ≠ 1; decide, ?_⟩)
    unfold headOf
    rw [if_pos rfl, if_neg (by rw [hst3]; decide)]
    obtain ⟨e1, e2⟩ := hs.head3 hst3
    show ((f.shards.getD k shd0).man.size, (f.shards.getD k shd0).man.root) = _
    rw [e1, e2]
  rw [if_neg k4]
  by_cases h5 : d.segment < 0 ∨ ((f.shards.getD k shd0).man.segs.length : Int) ≤ d.segment
  · rw [if_pos h5]; exact h
  rw [if_neg h5]
  by_cases h6 : d.at' < 0 ∨ (((f.shards.getD k shd0).man.segs.getD d.segment.toNat seg0).packed.length : Int) ≤ d.at'
  · rw [if_pos h6]; exact h
  rw [if_neg h6]
  exact h.put hk ⟨hs.from_eq, hs.to_eq, hs.st, hs.few, hs.short, hs.distinct, hs.gone, hs.head3, (fun g => absurd (hst3.symm.trans g) (by decide))⟩ (fun g => g) (fun _ => ⟨by show (f.shards.getD k shd0).state ≠ 1; rw [hst3]; decide, headOf_kept (by rw [hst3]; decide) (by show (f.shards.getD k shd0).state ≠ 4; rw [hst3]; decide) rfl⟩)
theorem run_ok {ws : List Win} {f : Flt} (h : FltOk ws f) (l : List Dd) : FltOk ws (runL f l).1 := by
  induction l generalizing f with
  | nil => exact h
  | cons d ds ih => exact ih (step_ok h d)

end Go.Proofs.YtkjlchfmplcobafGreatDoor

/- Chapter 7's mathematics: windows, the book, what is shown, and what is refused. -/
namespace Go.Proofs.YtkjlchfmplcobafGreatDoor

theorem pigeon (m : Nat) : ∀ (n : Nat) (g : Nat → Nat), (∀ i, i < n → g i < m) → (∀ i j, i < n → j < n → g i = g j → i = j) → n ≤ m := by
  induction m with
  | zero => intro n g h _; rcases Nat.eq_zero_or_pos n with e | e; omega; exact absurd (h 0 e) (Nat.not_lt_zero _)
  | succ m ih =>
    intro n g h hi
    by_cases hx : ∃ i, i < n ∧ g i = m
    · obtain ⟨i, hin, him⟩ := hx
      have := ih (n - 1) (fun j => if j < i then g j else g (j + 1)) (fun j hj => by
        by_cases hji : j < i
        · rw [if_pos hji]
          have h1 := h j (by omega)
          have h2 : g j ≠ m := fun e => by have := hi j i (by omega) hin (e.trans him.symm); omega
          omega
        · rw [if_neg hji]
          have h1 := h (j + 1) (by omega)
          have h2 : g (j + 1) ≠ m := fun e => by have := hi (j + 1) i (by omega) hin (e.trans him.symm); omega
          omega) (fun a b ha hb e => by
        by_cases h1 : a < i <;> by_cases h2 : b < i
        · rw [if_pos h1, if_pos h2] at e; exact hi a b (by omega) (by omega) e
        · rw [if_pos h1, if_neg h2] at e; have := hi a (b + 1) (by omega) (by omega) e; omega
        · rw [if_neg h1, if_pos h2] at e; have := hi (a + 1) b (by omega) (by omega) e; omega
        · rw [if_neg h1, if_neg h2] at e; have := hi (a + 1) (b + 1) (by omega) (by omega) e; omega)
      omega
    · have := ih n g (fun j hj => by
        have h1 := h j hj
        have h2 : g j ≠ m := fun e => hx ⟨j, hj, e⟩
        omega) hi
      omega
theorem wrongWins_many {l : List Win} (h : 8 < l.length) : wrongWins l = (5, 0) := by unfold wrongWins; rw [if_pos h]
theorem wrongWins_at {l : List Win} {k : Nat} (h8 : l.length ≤ 8) (hk : k < l.length) (hb : ∀ j, j < k → wrongWin l j = 0) (h : wrongWin l k ≠ 0) : wrongWins l = (wrongWin l k, (k : Int)) := by
  unfold wrongWins
  rw [if_neg (by omega), find_range (p := fun i => decide (wrongWin l i ≠ 0)) hk (decide_eq_true h) (fun j hj => decide_eq_false (fun g => g (hb j hj)))]
theorem wrongWins_none {l : List Win} (h8 : l.length ≤ 8) (hb : ∀ j, j < l.length → wrongWin l j = 0) : wrongWins l = (0, 0) := by
  unfold wrongWins
  rw [if_neg (by omega), find_none (p := fun i => decide (wrongWin l i ≠ 0)) (fun j hj => decide_eq_false (fun g => g (hb j hj)))]
theorem wrongWins_ok {l : List Win} (h : (wrongWins l).1 = 0) : l.length ≤ 8 ∧ ∀ j, j < l.length → wrongWin l j = 0 := by
  by_cases h8 : 8 < l.length
  · rw [wrongWins_many h8] at h; exact absurd h (by decide)
  refine ⟨by omega, fun j hj => ?_⟩
  unfold wrongWins at h
  rw [if_neg h8] at h
  cases hf : (List.range l.length).find? (fun i => decide (wrongWin l i ≠ 0)) with
  | none =>
    have := find_range_none hf j hj
    simpa using this
  | some i =>
    rw [hf] at h
    have := (find_range_some hf).2.1
    exact absurd h (of_decide_eq_true this)
theorem wrongWin_ok {l : List Win} {i : Nat} (h : wrongWin l i = 0) : 0 ≤ (l.getD i win0).a ∧ (l.getD i win0).a < (l.getD i win0).b ∧ (l.getD i win0).b ≤ 1000000 ∧ (0 < i → (l.getD (i - 1) win0).b ≤ (l.getD i win0).a) := by
  unfold wrongWin at h
  by_cases h1 : (l.getD i win0).a < 0 ∨ (l.getD i win0).b ≤ (l.getD i win0).a ∨ 1000000 < (l.getD i win0).b
  · rw [if_pos h1] at h; exact absurd h (by decide)
  rw [if_neg h1] at h
  by_cases h2 : 0 < i ∧ (l.getD i win0).a < (l.getD (i - 1) win0).b
  · rw [if_pos h2] at h; exact absurd h (by decide)
  exact ⟨by omega, by omega, by omega, fun h3 => by omega⟩
theorem book_few {ws : List Win} {f : Flt} (h : FltOk ws f) : f.book.length ≤ ws.length := by
  refine pigeon ws.length f.book.length (fun j => (f.book.getD j rec0).shard.toNat) (fun j hj => ?_) (fun i j hi hj e => ?_)
  · obtain ⟨k, hk, -, e⟩ := h.inb j hj
    rw [e]
    show ((k : Int)).toNat < _
    omega
  · obtain ⟨k1, -, -, e1⟩ := h.inb i hi
    obtain ⟨k2, -, -, e2⟩ := h.inb j hj
    refine h.once i j hi hj ?_
    rw [e1, e2] at e ⊢
    have e' : ((k1 : Int)).toNat = ((k2 : Int)).toNat := e
    show (k1 : Int) = (k2 : Int)
    omega
theorem headOf_len {w : Win} {s : Shd} (h : ShdOk w s) : 0 ≤ (headOf s).1 ∧ (headOf s).1 ≤ 100 ∧ (headOf s).2.length = 32 := by
  unfold headOf
  by_cases h4 : s.state = 4
  · rw [if_pos h4]
    obtain ⟨-, hm, -, hr⟩ := verify_spec (h.ver4 h4)
    have := of_decide_eq_true hm
    exact ⟨this.1, this.2.1, by show s.man.root.length = 32; rw [← hr]; exact mth_length _⟩
  · rw [if_neg h4]
    have := h.few
    exact ⟨by show (0 : Int) ≤ (s.entries.length : Int); omega, by show (s.entries.length : Int) ≤ 100; omega, mth_length _⟩
theorem book_right {ws : List Win} {f : Flt} (hw : (wrongWins ws).1 = 0) (h : FltOk ws f) : wrongRecs f.book = (0, 0) := by
  obtain ⟨h8, hall⟩ := wrongWins_ok hw
  have hb := book_few h
  refine wrongRecs_none (by omega) (fun j hj => ?_)
  obtain ⟨k, hk, -, e⟩ := h.inb j hj
  rw [e]
  have hs := h.each k hk
  have hwk := wrongWin_ok (hall k hk)
  obtain ⟨g1, g2, g3⟩ := headOf_len hs
  unfold wrongRec recOf
  dsimp only
  rw [if_neg (by rw [hs.from_eq, hs.to_eq]; omega), if_neg (fun e => e g3)]
/-- What is refused did not happen. -/
theorem step_refused {f : Flt} {d : Dd} (h : (stepL f d).2.err ≠ 0) : (stepL f d).1 = f := by
  revert h
  unfold stepL
  by_cases h1 : d.kind = 1
  · rw [if_pos h1]
    unfold submitL
    by_cases h200 : 200 < d.entry.length
    · rw [if_pos h200]; exact fun _ => rfl
    rw [if_neg h200]
    cases hh : homeOf f.shards d.time with
    | none => exact fun _ => rfl
    | some k =>
      dsimp only
      by_cases h1 : (f.shards.getD k shd0).state ≠ 1
      · rw [if_pos h1]; exact fun _ => rfl
      rw [if_neg h1]
      cases hp : placeOf (f.shards.getD k shd0).entries d.entry with
      | some i => exact fun _ => rfl
      | none =>
        dsimp only
        by_cases h100 : 100 ≤ (f.shards.getD k shd0).entries.length
        · rw [if_pos h100]; exact fun _ => rfl
        rw [if_neg h100]
        exact fun h => absurd rfl h
  rw [if_neg h1]
  by_cases h2 : d.kind < 2 ∨ 5 < d.kind
  · rw [if_pos h2]; exact fun _ => rfl
  rw [if_neg h2]
  by_cases h3 : d.n < 0 ∨ (f.shards.length : Int) ≤ d.n
  · rw [if_pos h3]; exact fun _ => rfl
  rw [if_neg h3]
  by_cases h4 : (f.shards.getD d.n.toNat shd0).state ≠ wantL d.kind
  · rw [if_pos h4]; exact fun _ => rfl
  rw [if_neg h4]
  unfold stepAt
  dsimp only
  by_cases k2 : d.kind = 2
  · rw [if_pos k2]; exact fun h => absurd rfl h
  rw [if_neg k2]
  by_cases k3 : d.kind = 3
  · rw [if_pos k3]
    by_cases hw : (wrongL (f.shards.getD d.n.toNat shd0).entries).1 ≠ 0
    · rw [if_pos hw]; exact fun _ => rfl
    · rw [if_neg hw]; exact fun h => absurd rfl h
  rw [if_neg k3]
  by_cases k4 : d.kind = 4
  · rw [if_pos k4]
    by_cases hv : (verifyL (f.shards.getD d.n.toNat shd0).man).2.1 ≠ 0
    · rw [if_pos hv]; exact fun _ => rfl
    · rw [if_neg hv]; exact fun h => absurd rfl h
  rw [if_neg k4]
  by_cases h5 : d.segment < 0 ∨ ((f.shards.getD d.n.toNat shd0).man.segs.length : Int) ≤ d.segment
  · rw [if_pos h5]; exact fun _ => rfl
  rw [if_neg h5]
  by_cases h6 : d.at' < 0 ∨ (((f.shards.getD d.n.toNat shd0).man.segs.getD d.segment.toNat seg0).packed.length : Int) ≤ d.at'
  · rw [if_pos h6]; exact fun _ => rfl
  rw [if_neg h6]
  exact fun h => absurd rfl h
theorem take_snoc_dd {l : List Dd} {k : Nat} (hk : k < l.length) : l.take (k + 1) = l.take k ++ [l.getD k dd0] := by
  rw [List.take_succ_eq_append_getElem hk, List.getD_eq_getElem?_getD, List.getElem?_eq_getElem hk]; rfl
/-- Of what was done first the same came, whatever is done behind it. -/
theorem run_take (f : Flt) (l : List Dd) (k : Nat) : (runL f (l.take k)).2 = (runL f l).2.take k := by
  by_cases hk : k ≤ l.length
  · have h : (runL f l).2 = (runL f (l.take k)).2 ++ (runL (runL f (l.take k)).1 (l.drop k)).2 := by
      have := runL_append f (l.take k) (l.drop k)
      rw [List.take_append_drop] at this
      rw [this]
    rw [h]
    exact (List.take_left' (by rw [runL_length, List.length_take]; omega)).symm
  · rw [List.take_of_length_le (by omega), List.take_of_length_le (by rw [runL_length]; omega)]
theorem run_ans (f : Flt) (l : List Dd) {k : Nat} (hk : k < l.length) : (runL f l).2.getD k ans0 = (stepL (runL f (l.take k)).1 (l.getD k dd0)).2 := by
  have h1 := run_take f l (k + 1)
  rw [take_snoc_dd hk, runL_snoc] at h1
  have h2 : ((runL f l).2.take (k + 1)).getD k ans0 = (runL f l).2.getD k ans0 := by
    rw [List.getD_eq_getElem?_getD, List.getElem?_take, if_pos (by omega), ← List.getD_eq_getElem?_getD]
  rw [← h2, ← h1]
  have hl : (runL f (l.take k)).2.length = k := by rw [runL_length, List.length_take]; omega
  rw [snoc_get, hl, if_neg (by omega), if_pos rfl]
end Go.Proofs.YtkjlchfmplcobafGreatDoor

/- Chapter 7's mathematics: what is shown. -/
namespace Go.Proofs.YtkjlchfmplcobafGreatDoor

structure Shw where
  entry : List Int
  place : Int
  shard : Int
  path : List (List Int)
  rcd : Rec
  row : Int
  bookPath : List (List Int)
  hsize : Int
  hroot : List Int
def shw0 : Shw := ⟨[], 0, 0, [], rec0, 0, [], 0, []⟩
/-- A shard's row in the book. -/
def rowOf (b : List Rec) (k : Int) : Option Nat := (List.range b.length).find? (fun j => decide ((b.getD j rec0).shard = k))
/-- A shard's entries, or those that are laid away, or what is wrong with these. -/
def contentL (s : Shd) : List (List Int) × Int := if s.state = 4 then ((verifyL s.man).1, (verifyL s.man).2.1) else (s.entries, 0)
def showL (f : Flt) (k i : Int) : Shw × Int :=
  if k < 0 ∨ (f.shards.length : Int) ≤ k then (shw0, 6) else
  match rowOf f.book k with
  | none => (shw0, 8)
  | some row =>
    if (contentL (f.shards.getD k.toNat shd0)).2 ≠ 0 then (shw0, (contentL (f.shards.getD k.toNat shd0)).2) else
    if (pathF (contentL (f.shards.getD k.toNat shd0)).1 i).1 ≠ 0 then (shw0, (pathF (contentL (f.shards.getD k.toNat shd0)).1 i).1) else
    if (wrongRecs f.book).1 ≠ 0 then (shw0, (wrongRecs f.book).1) else
    (⟨(contentL (f.shards.getD k.toNat shd0)).1.getD i.toNat [], i, k, pathL (contentL (f.shards.getD k.toNat shd0)).1 i.toNat, f.book.getD row rec0, (row : Int), pathL (rowsOf f.book) row, (f.book.length : Int), mth (rowsOf f.book)⟩, 0)
def checkL (s : Shw) (hs : Int) (hr : List Int) : Bool :=
  decide (wrongRec s.rcd = 0) && (decide (s.rcd.shard = s.shard) && (decide (s.hsize = hs ∧ s.hroot = hr) && (standsL s.rcd.size s.rcd.root s.entry s.place s.path && standsL hs hr (rowL s.rcd) s.row s.bookPath)))
theorem content_ok {w : Win} {s : Shd} (h : ShdOk w s) : (contentL s).2 = 0 ∧ wrongL (contentL s).1 = (0, 0) ∧ ((contentL s).1.length : Int) = (headOf s).1 ∧ mth (contentL s).1 = (headOf s).2 ∧ (contentL s).1.length ≤ 100 ∧ ∀ j, ((contentL s).1.getD j []).length ≤ 200 := by
  unfold contentL headOf
  by_cases h4 : s.state = 4
  · rw [if_pos h4, if_pos h4]
    have hv := h.ver4 h4
    obtain ⟨e, -, -, hr⟩ := verify_spec hv
    have hf := verify_few (m := s.man)
    have hu := upTo_all hv
    have hg : ∀ j, ((verifyL s.man).1.getD j []).length ≤ 200 := fun j => by
      by_cases hj : j < (verifyL s.man).1.length
      · rw [List.getD_eq_getElem?_getD, List.getElem?_eq_getElem hj]; exact hf.2 _ (List.getElem_mem hj)
      · rw [List.getD_eq_getElem?_getD, List.getElem?_eq_none (by omega)]; simp
    exact ⟨hv, wrong_zero hf.1 hg, by rw [e]; exact hu.1, by rw [e]; exact hr, hf.1, hg⟩
  · rw [if_neg h4, if_neg h4]
    have hg : ∀ j, (s.entries.getD j []).length ≤ 200 := fun j => by
      by_cases hj : j < s.entries.length
      · rw [List.getD_eq_getElem?_getD, List.getElem?_eq_getElem hj]; exact h.short _ (List.getElem_mem hj)
      · rw [List.getD_eq_getElem?_getD, List.getElem?_eq_none (by omega)]; simp
    exact ⟨rfl, wrong_entries h, rfl, rfl, h.few, hg⟩
/-- A shard that is not open has its row. -/
theorem row_some {ws : List Win} {f : Flt} (h : FltOk ws f) {k : Nat} (hk : k < ws.length) (h1 : (f.shards.getD k shd0).state ≠ 1) : ∃ j, rowOf f.book (k : Int) = some j ∧ j < f.book.length ∧ f.book.getD j rec0 = recOf k (f.shards.getD k shd0) := by
  obtain ⟨j, hj, e⟩ := h.all k hk h1
  refine ⟨j, find_range hj (decide_eq_true e) (fun i hi => decide_eq_false (fun g => ?_)), hj, ?_⟩
  · have := h.once i j (by omega) hj (g.trans e.symm); omega
  · obtain ⟨q, hq1, -, hq3⟩ := h.inb j hj
    rw [hq3] at e
    have : q = k := by have e' : (q : Int) = (k : Int) := e; omega
    subst this
    exact hq3
theorem show_right {ws : List Win} {f : Flt} (hw : (wrongWins ws).1 = 0) (h : FltOk ws f) {k i : Nat} (hk : k < ws.length) (h1 : (f.shards.getD k shd0).state ≠ 1) (hi : (i : Int) < (headOf (f.shards.getD k shd0)).1) :
    ∃ row, row < f.book.length ∧ f.book.getD row rec0 = recOf k (f.shards.getD k shd0) ∧ showL f k i = (⟨(contentL (f.shards.getD k shd0)).1.getD i [], (i : Int), (k : Int), pathL (contentL (f.shards.getD k shd0)).1 i, recOf k (f.shards.getD k shd0), (row : Int), pathL (rowsOf f.book) row, (f.book.length : Int), mth (rowsOf f.book)⟩, 0) ∧
      checkL ⟨(contentL (f.shards.getD k shd0)).1.getD i [], (i : Int), (k : Int), pathL (contentL (f.shards.getD k shd0)).1 i, recOf k (f.shards.getD k shd0), (row : Int), pathL (rowsOf f.book) row, (f.book.length : Int), mth (rowsOf f.book)⟩ (f.book.length : Int) (mth (rowsOf f.book)) = true := by
  obtain ⟨row, hr1, hr2, hr3⟩ := row_some h hk h1
  obtain ⟨c1, c2, c3, c4, c5, c6⟩ := content_ok (h.each k hk)
  have hb := book_right hw h
  have hb0 : (wrongRecs f.book).1 = 0 := by rw [hb]
  have hf := book_few h
  have h8 := (wrongWins_ok hw).1
  refine ⟨row, hr2, hr3, ?_, ?_⟩
  · unfold showL
    rw [if_neg (by rw [h.len]; omega), hr1]
    dsimp only
    rw [Int.toNat_natCast, if_neg (fun g => g c1)]
    have hp : pathF (contentL (f.shards.getD k shd0)).1 (i : Int) = (0, 0) := by unfold pathF; rw [c2, if_neg (fun g => g rfl), if_neg (by rw [c3]; omega)]
    rw [hp, if_neg (fun g => g rfl), if_neg (fun g => g hb0), Int.toNat_natCast, hr3]
  · unfold checkL
    dsimp only
    have hwr := (wrongRecs_ok hb0).2 row hr2
    rw [hr3] at hwr
    have hrl := rows_length f.book
    have hs1 := stands_path (L := (contentL (f.shards.getD k shd0)).1) (i := i) c5 (by omega) (c6 i)
    rw [c3, c4] at hs1
    have hs2 := stands_path (L := rowsOf f.book) (i := row) (by omega) (by omega) (rows_short hb0 row)
    rw [rows_get hr2, hr3, hrl] at hs2
    rw [decide_eq_true hwr, decide_eq_true (show (recOf k (f.shards.getD k shd0)).shard = (k : Int) from rfl), decide_eq_true ⟨rfl, rfl⟩, hs2]
    show (true && (true && (true && (standsL (headOf (f.shards.getD k shd0)).1 (headOf (f.shards.getD k shd0)).2 _ _ _ && true)))) = true
    rw [hs1]
    rfl
/-- A shard that is retired stays as it is. -/
theorem retired_step {f : Flt} (d : Dd) {k : Nat} (h4 : (f.shards.getD k shd0).state = 4) : (stepL f d).1.shards.getD k shd0 = f.shards.getD k shd0 := by
  have key : ∀ (q : Nat) (s : Shd), (f.shards.getD q shd0).state ≠ 4 → (f.shards.set q s).getD k shd0 = f.shards.getD k shd0 := fun q s hq => by
    by_cases e : q = k
    · subst e; exact absurd h4 hq
    · exact getD_set_other e
  by_cases he : (stepL f d).2.err ≠ 0
  · rw [step_refused he]
  revert he
  unfold stepL
  by_cases h1 : d.kind = 1
  · rw [if_pos h1]
    unfold submitL
    by_cases h200 : 200 < d.entry.length
    · rw [if_pos h200]; exact fun _ => rfl
    rw [if_neg h200]
    cases hh : homeOf f.shards d.time with
    | none => exact fun _ => rfl
    | some q =>
      dsimp only
      by_cases h1 : (f.shards.getD q shd0).state ≠ 1
      · rw [if_pos h1]; exact fun _ => rfl
      rw [if_neg h1]
      cases hp : placeOf (f.shards.getD q shd0).entries d.entry with
      | some i => exact fun _ => rfl
      | none =>
        dsimp only
        by_cases h100 : 100 ≤ (f.shards.getD q shd0).entries.length
        · rw [if_pos h100]; exact fun _ => rfl
        rw [if_neg h100]
        exact fun _ => key q _ (by omega)
  rw [if_neg h1]
  by_cases h2 : d.kind < 2 ∨ 5 < d.kind
  · rw [if_pos h2]; exact fun _ => rfl
  rw [if_neg h2]
  by_cases h3 : d.n < 0 ∨ (f.shards.length : Int) ≤ d.n
  · rw [if_pos h3]; exact fun _ => rfl
  rw [if_neg h3]
  by_cases h4' : (f.shards.getD d.n.toNat shd0).state ≠ wantL d.kind
  · rw [if_pos h4']; exact fun _ => rfl
  rw [if_neg h4']
  have hne : (f.shards.getD d.n.toNat shd0).state ≠ 4 := by
    have : wantL d.kind ≤ 3 := by unfold wantL; split; omega; split <;> omega
    omega
  unfold stepAt
  dsimp only
  by_cases k2 : d.kind = 2
  · rw [if_pos k2]; exact fun _ => key _ _ hne
  rw [if_neg k2]
  by_cases k3 : d.kind = 3
  · rw [if_pos k3]
    by_cases hw : (wrongL (f.shards.getD d.n.toNat shd0).entries).1 ≠ 0
    · rw [if_pos hw]; exact fun _ => rfl
    · rw [if_neg hw]; exact fun _ => key _ _ hne
  rw [if_neg k3]
  by_cases k4 : d.kind = 4
  · rw [if_pos k4]
    by_cases hv : (verifyL (f.shards.getD d.n.toNat shd0).man).2.1 ≠ 0
    · rw [if_pos hv]; exact fun _ => rfl
    · rw [if_neg hv]; exact fun _ => key _ _ hne
  rw [if_neg k4]
  by_cases h5 : d.segment < 0 ∨ ((f.shards.getD d.n.toNat shd0).man.segs.length : Int) ≤ d.segment
  · rw [if_pos h5]; exact fun _ => rfl
  rw [if_neg h5]
  by_cases h6 : d.at' < 0 ∨ (((f.shards.getD d.n.toNat shd0).man.segs.getD d.segment.toNat seg0).packed.length : Int) ≤ d.at'
  · rw [if_pos h6]; exact fun _ => rfl
  rw [if_neg h6]
  exact fun _ => key _ _ hne
theorem retired_run {f : Flt} (l : List Dd) {k : Nat} (h4 : (f.shards.getD k shd0).state = 4) : (runL f l).1.shards.getD k shd0 = f.shards.getD k shd0 := by
  induction l generalizing f with
  | nil => rfl
  | cons d ds ih =>
    have e := retired_step d h4
    show (runL (stepL f d).1 ds).1.shards.getD k shd0 = _
    rw [ih (by rw [e]; exact h4), e]

end Go.Proofs.YtkjlchfmplcobafGreatDoor

/- What the laws of chapter 3 ask of package clash's faces, as propositions: each is shown of the landed code elsewhere; and the walk of yearlaw3.two. -/
namespace Go.Proofs.YtkjlchfmplcobafGreatDoor
open Go.RowKit

/-- Another leaf than that which is there is shown. -/
def clashS (L : List (List Int)) (b : List Int) (i : Int) (p : List (List Int)) : Bool := decide ((wrongL L).1 = 0) && standsL L.length (mth L) b i p && decide (L.getD i.toNat [] ≠ b)
/-- Two texts, unlike, with one digest; or none. -/
def Told (w : World) (vx vy : Value) (ok : Bool) : Prop := ∃ x y, Some' w vx x ∧ Some' w vy y ∧ x.length ≤ 1000000 ∧ y.length ≤ 1000000 ∧ (ok = true → x ≠ y ∧ shaL x = shaL y) ∧ (ok = false → x = [] ∧ y = [])
def ClashStandsC : Prop := ∀ (L : List (List Int)) (b : List Int) (i : Int) (p : List (List Int)) (bv : Value) (a : Option Addr) (n c : Nat) (pa : Option Addr) (pn pc : Nat) (w : World), Ready w → Lists w a n c L → Some' w bv b → Lists w pa pn pc p →
  Calls Tryz.prog 15 #[.slice a n c, bv, .int .i64 i, .slice pa pn pc] w fun e w' => ∃ vx vy, e = .returned (.tuple #[vx, vy, .bool (clashS L b i p)]) ∧ Told w' vx vy (clashS L b i p) ∧ Below w.heap.size w w'
end Go.Proofs.YtkjlchfmplcobafGreatDoor

/- Chapter 7's mathematics: nothing is lost by retiring; the book only grows; entries stay. -/
namespace Go.Proofs.YtkjlchfmplcobafGreatDoor

/-- What a step that retires a shard came upon, and what it left. -/
theorem retire_step {f : Flt} {d : Dd} (hk : d.kind = 4) (he : (stepL f d).2.err = 0) : 0 ≤ d.n ∧ d.n < f.shards.length ∧ (f.shards.getD d.n.toNat shd0).state = 3 ∧ (verifyL (f.shards.getD d.n.toNat shd0).man).2.1 = 0 ∧
    (stepL f d).1.shards.getD d.n.toNat shd0 = { (f.shards.getD d.n.toNat shd0) with state := 4, entries := [] } := by
  revert he
  unfold stepL
  rw [if_neg (by omega), if_neg (by omega)]
  by_cases h3 : d.n < 0 ∨ (f.shards.length : Int) ≤ d.n
  · rw [if_pos h3]; exact fun h => absurd (show (6 : Int) = 0 from h) (by decide)
  rw [if_neg h3]
  by_cases h4 : (f.shards.getD d.n.toNat shd0).state ≠ wantL d.kind
  · rw [if_pos h4]; exact fun h => absurd (show (7 : Int) = 0 from h) (by decide)
  rw [if_neg h4]
  have hst : (f.shards.getD d.n.toNat shd0).state = 3 := by
    have : (f.shards.getD d.n.toNat shd0).state = wantL d.kind := by simpa using h4
    rw [this, hk]; rfl
  unfold stepAt
  dsimp only
  rw [if_neg (by omega), if_neg (by omega), if_pos hk]
  by_cases hv : (verifyL (f.shards.getD d.n.toNat shd0).man).2.1 ≠ 0
  · rw [if_pos hv]; exact fun h => absurd h hv
  · rw [if_neg hv]
    refine fun _ => ⟨by omega, by omega, hst, by simpa using hv, ?_⟩
    exact getD_set_same (by omega)
theorem spoilt_clash7 {L X : List (List Int)} {i : Nat} (hw : (wrongL L).1 = 0) (h100 : L.length ≤ 100) (hl : X.length = L.length) (h200 : ∀ j, (X.getD j []).length ≤ 200) (hm : mth X = mth L) (hi : i < L.length) (hne : X.getD i [] ≠ L.getD i []) : clashS L (X.getD i []) i (pathL X i) = true := by
  have h1 := stands_path (L := X) (i := i) (by omega) (by omega) (h200 i)
  rw [hl, hm] at h1
  unfold clashS
  rw [decide_eq_true hw, h1, Int.toNat_natCast, decide_eq_true (show L.getD i [] ≠ X.getD i [] from fun e => hne e.symm)]
  rfl
/-- Nothing is lost by retiring. -/
theorem keeps {ws : List Win} (hw : (wrongWins ws).1 = 0) (l : List Dd) {i : Nat} (hi : i < l.length) (hk : (l.getD i dd0).kind = 4) (he : ((runL (startL ws) l).2.getD i ans0).err = 0) :
    ∃ n : Nat, (l.getD i dd0).n = (n : Int) ∧ n < ws.length ∧ ((runL (startL ws) l).1.shards.getD n shd0).entries = [] ∧
    ∀ j, j < ((runL (startL ws) (l.take i)).1.shards.getD n shd0).entries.length → (showL (runL (startL ws) l).1 n j).2 = 0 ∧
      ((showL (runL (startL ws) l).1 n j).1.entry ≠ ((runL (startL ws) (l.take i)).1.shards.getD n shd0).entries.getD j [] → clashS ((runL (startL ws) (l.take i)).1.shards.getD n shd0).entries (showL (runL (startL ws) l).1 n j).1.entry j (showL (runL (startL ws) l).1 n j).1.path = true) := by
  rw [run_ans _ _ hi] at he
  have hok := run_ok (start_ok ws) (l.take i)
  obtain ⟨h0, h1, h3, hv, hnew⟩ := retire_step hk he
  obtain ⟨n, hn⟩ := Int.eq_ofNat_of_zero_le h0
  rw [hn, Int.toNat_natCast] at h3 hv hnew
  have hn' : n < ws.length := by rw [← hok.len]; omega
  have hs := hok.each n hn'
  -- the run goes on from behind the step
  have hl : l = l.take (i + 1) ++ l.drop (i + 1) := (List.take_append_drop (i + 1) l).symm
  have hfin : (runL (startL ws) l).1 = (runL (stepL (runL (startL ws) (l.take i)).1 (l.getD i dd0)).1 (l.drop (i + 1))).1 := by
    have := runL_append (startL ws) (l.take (i + 1)) (l.drop (i + 1))
    rw [List.take_append_drop] at this
    rw [this, take_snoc_dd hi, runL_snoc]
  have hshard : (runL (startL ws) l).1.shards.getD n shd0 = { ((runL (startL ws) (l.take i)).1.shards.getD n shd0) with state := 4, entries := [] } := by
    rw [hfin, retired_run _ (by rw [hnew]), hnew]
  have hokF := run_ok (start_ok ws) l
  refine ⟨n, hn, hn', by rw [hshard], fun j hj => ?_⟩
  have hst : ((runL (startL ws) l).1.shards.getD n shd0).state = 4 := by rw [hshard]
  obtain ⟨e1, e2⟩ := hs.head3 h3
  have hhead : headOf ((runL (startL ws) l).1.shards.getD n shd0) = ((((runL (startL ws) (l.take i)).1.shards.getD n shd0).entries.length : Int), mth ((runL (startL ws) (l.take i)).1.shards.getD n shd0).entries) := by
    unfold headOf; rw [if_pos hst, hshard]; dsimp only; rw [e1, e2]
  obtain ⟨row, -, -, e, -⟩ := show_right hw hokF hn' (i := j) (by rw [hst]; decide) (by rw [hhead]; show (j : Int) < (_ : Int); omega)
  rw [e]
  refine ⟨rfl, fun hne => ?_⟩
  dsimp only at hne ⊢
  obtain ⟨-, -, c3, c4, -, c6⟩ := content_ok (hokF.each n hn')
  rw [hhead] at c3 c4
  dsimp only at c3 c4
  exact spoilt_clash7 (by rw [wrong_entries hs]) hs.few (by omega) c6 c4 hj hne
end Go.Proofs.YtkjlchfmplcobafGreatDoor

/- Chapter 7's mathematics: what was taken stays, where nothing was spoilt. -/
namespace Go.Proofs.YtkjlchfmplcobafGreatDoor

/-- Nothing of a shard was spoilt. -/
structure CleanS (s : Shd) : Prop where
  c3 : s.state = 3 → s.man = exportL s.entries
  c4 : s.state = 4 → ∃ L : List (List Int), L.length ≤ 100 ∧ (∀ e ∈ L, e.length ≤ 200) ∧ s.man = ⟨L.length, mth L, segsL L⟩
def CleanF (f : Flt) : Prop := ∀ k, k < f.shards.length → CleanS (f.shards.getD k shd0)
theorem start_clean (ws : List Win) : CleanF (startL ws) := fun k hk => by
  have hk' : k < ws.length := by simpa [startL] using hk
  rw [wins_get ws hk']
  exact ⟨fun h => absurd (show (1 : Int) = 3 from h) (by decide), fun h => absurd (show (1 : Int) = 4 from h) (by decide)⟩
theorem export_form {w : Win} {s : Shd} (h : ShdOk w s) : exportL s.entries = ⟨s.entries.length, mth s.entries, segsL s.entries⟩ := by
  unfold exportL; rw [wrong_entries h, if_neg (fun g => g rfl)]
theorem content_open {s : Shd} (h : s.state ≠ 4) : (contentL s).1 = s.entries := by unfold contentL; rw [if_neg h]
theorem content_laid {s : Shd} {L : List (List Int)} (h : s.state = 4) (h1 : L.length ≤ 100) (h2 : ∀ e ∈ L, e.length ≤ 200) (hm : s.man = ⟨L.length, mth L, segsL L⟩) : (contentL s).1 = L := by
  unfold contentL; rw [if_pos h, hm, verify_export h1 h2]
/-- A shard in another's place. -/
theorem clean_put {f : Flt} (hc : CleanF f) {k : Nat} (hk : k < f.shards.length) {s : Shd} (hs : CleanS s) (hp : (contentL (f.shards.getD k shd0)).1 <+: (contentL s).1) (b : List Rec) :
    CleanF ⟨f.shards.set k s, b⟩ ∧ ∀ j, (contentL (f.shards.getD j shd0)).1 <+: (contentL ((f.shards.set k s).getD j shd0)).1 := by
  refine ⟨fun j hj => ?_, fun j => ?_⟩
  · have hj' : j < f.shards.length := by simpa using hj
    dsimp only
    by_cases e : k = j
    · subst e; rw [getD_set_same hk]; exact hs
    · rw [getD_set_other e]; exact hc j hj'
  · by_cases e : k = j
    · subst e; rw [getD_set_same hk]; exact hp
    · rw [getD_set_other e]; exact List.prefix_refl _
theorem step_clean {ws : List Win} {f : Flt} (h : FltOk ws f) (hc : CleanF f) {d : Dd} (h5 : d.kind ≠ 5) : CleanF (stepL f d).1 ∧ ∀ j, (contentL (f.shards.getD j shd0)).1 <+: (contentL ((stepL f d).1.shards.getD j shd0)).1 := by
  have same : CleanF f ∧ ∀ j, (contentL (f.shards.getD j shd0)).1 <+: (contentL (f.shards.getD j shd0)).1 := ⟨hc, fun _ => List.prefix_refl _⟩
  unfold stepL
  by_cases h1 : d.kind = 1
  · rw [if_pos h1]
    unfold submitL
    by_cases h200 : 200 < d.entry.length
    · rw [if_pos h200]; exact same
    rw [if_neg h200]
    cases hh : homeOf f.shards d.time with
    | none => exact same
    | some k =>
      obtain ⟨hk, -, -⟩ := home_some hh
      dsimp only
      by_cases h1 : (f.shards.getD k shd0).state ≠ 1
      · rw [if_pos h1]; exact same
      rw [if_neg h1]
      have h1' : (f.shards.getD k shd0).state = 1 := by omega
      cases hp : placeOf (f.shards.getD k shd0).entries d.entry with
      | some i => exact same
      | none =>
        dsimp only
        by_cases h100 : 100 ≤ (f.shards.getD k shd0).entries.length
        · rw [if_pos h100]; exact same
        rw [if_neg h100]
        refine clean_put hc hk (s := { (f.shards.getD k shd0) with entries := (f.shards.getD k shd0).entries ++ [d.entry] }) ⟨fun g => absurd (h1'.symm.trans g) (by decide), fun g => absurd (h1'.symm.trans g) (by decide)⟩ ?_ _
        rw [content_open (by rw [h1']; decide), content_open (by show (f.shards.getD k shd0).state ≠ 4; rw [h1']; decide)]
        exact List.prefix_append _ _
  rw [if_neg h1]
  by_cases h2 : d.kind < 2 ∨ 5 < d.kind
  · rw [if_pos h2]; exact same
  rw [if_neg h2]
  by_cases h3 : d.n < 0 ∨ (f.shards.length : Int) ≤ d.n
  · rw [if_pos h3]; exact same
  rw [if_neg h3]
  by_cases h4 : (f.shards.getD d.n.toNat shd0).state ≠ wantL d.kind
  · rw [if_pos h4]; exact same
  rw [if_neg h4]
  have hkl : d.n.toNat < f.shards.length := by omega
  have hkw : d.n.toNat < ws.length := by rw [← h.len]; exact hkl
  generalize d.n.toNat = k at *
  have hst : (f.shards.getD k shd0).state = wantL d.kind := by simpa using h4
  have hs := h.each k hkw
  unfold stepAt
  dsimp only
  by_cases k2 : d.kind = 2
  · rw [if_pos k2]
    have hst1 : (f.shards.getD k shd0).state = 1 := by rw [hst, k2]; rfl
    refine clean_put hc hkl ⟨fun g => absurd (show (2 : Int) = 3 from g) (by decide), fun g => absurd (show (2 : Int) = 4 from g) (by decide)⟩ ?_ _
    rw [content_open (by rw [hst1]; decide), content_open (by show (2 : Int) ≠ 4; decide)]
    exact List.prefix_refl _
  rw [if_neg k2]
  by_cases k3 : d.kind = 3
  · rw [if_pos k3]
    have hst2 : (f.shards.getD k shd0).state = 2 := by rw [hst, k3]; rfl
    rw [if_neg (by rw [wrong_entries hs]; exact fun g => g rfl)]
    refine clean_put hc hkl ⟨fun _ => rfl, fun g => absurd (show (3 : Int) = 4 from g) (by decide)⟩ ?_ _
    rw [content_open (by rw [hst2]; decide), content_open (by show (3 : Int) ≠ 4; decide)]
    exact List.prefix_refl _
  rw [if_neg k3]
  have k4 : d.kind = 4 := by omega
  have hst3 : (f.shards.getD k shd0).state = 3 := by rw [hst, k4]; rfl
  rw [if_pos k4]
  by_cases hv : (verifyL (f.shards.getD k shd0).man).2.1 ≠ 0
  · rw [if_pos hv]; exact same
  rw [if_neg hv]
  have hm := ((hc k hkl).c3 hst3).trans (export_form hs)
  refine clean_put hc hkl (s := { (f.shards.getD k shd0) with state := 4, entries := [] }) ⟨fun g => absurd (show (4 : Int) = 3 from g) (by decide), fun _ => ⟨_, hs.few, hs.short, hm⟩⟩ ?_ _
  rw [content_open (by rw [hst3]; decide), content_laid (s := { (f.shards.getD k shd0) with state := 4, entries := [] }) rfl hs.few hs.short hm]
  exact List.prefix_refl _
theorem run_clean {ws : List Win} {f : Flt} (h : FltOk ws f) (hc : CleanF f) (l : List Dd) (h5 : ∀ d ∈ l, d.kind ≠ 5) : CleanF (runL f l).1 ∧ ∀ j, (contentL (f.shards.getD j shd0)).1 <+: (contentL ((runL f l).1.shards.getD j shd0)).1 := by
  induction l generalizing f with
  | nil => exact ⟨hc, fun _ => List.prefix_refl _⟩
  | cons d ds ih =>
    obtain ⟨h1, h2⟩ := step_clean h hc (h5 d (by simp))
    obtain ⟨h3, h4⟩ := ih (step_ok h d) h1 (fun x hx => h5 x (by simp [hx]))
    exact ⟨h3, fun j => (h2 j).trans (h4 j)⟩
/-- What a step that took an entry tells. -/
theorem taken_step {f : Flt} {d : Dd} (hk : d.kind = 1) (he : (stepL f d).2.err = 0) : ∃ k p : Nat, (stepL f d).2 = ⟨0, (k : Int), (p : Int), 0, []⟩ ∧ homeOf f.shards d.time = some k ∧ k < f.shards.length ∧ (f.shards.getD k shd0).state = 1 ∧ ((stepL f d).1.shards.getD k shd0).state = 1 ∧
    p < ((stepL f d).1.shards.getD k shd0).entries.length ∧ ((stepL f d).1.shards.getD k shd0).entries.getD p [] = d.entry := by
  revert he
  unfold stepL
  rw [if_pos hk]
  unfold submitL
  by_cases h200 : 200 < d.entry.length
  · rw [if_pos h200]; exact fun h => absurd (show (4 : Int) = 0 from h) (by decide)
  rw [if_neg h200]
  cases hh : homeOf f.shards d.time with
  | none => exact fun h => absurd (show (6 : Int) = 0 from h) (by decide)
  | some k =>
    obtain ⟨hkl, -, -⟩ := home_some hh
    dsimp only
    by_cases h1 : (f.shards.getD k shd0).state ≠ 1
    · rw [if_pos h1]; exact fun h => absurd (show (8 : Int) = 0 from h) (by decide)
    rw [if_neg h1]
    have h1' : (f.shards.getD k shd0).state = 1 := by omega
    cases hp : placeOf (f.shards.getD k shd0).entries d.entry with
    | some i =>
      obtain ⟨g1, g2⟩ := place_some hp
      exact fun _ => ⟨k, i, rfl, rfl, hkl, h1', h1', g1, g2⟩
    | none =>
      dsimp only
      by_cases h100 : 100 ≤ (f.shards.getD k shd0).entries.length
      · rw [if_pos h100]; exact fun h => absurd (show (5 : Int) = 0 from h) (by decide)
      rw [if_neg h100]
      refine fun _ => ⟨k, (f.shards.getD k shd0).entries.length, rfl, rfl, hkl, h1', ?_, ?_, ?_⟩
      · show ((f.shards.set k _).getD k shd0).state = 1
        rw [getD_set_same hkl]; exact h1'
      · show _ < ((f.shards.set k _).getD k shd0).entries.length
        rw [getD_set_same hkl]
        simp
      · show ((f.shards.set k _).getD k shd0).entries.getD _ [] = _
        rw [getD_set_same hkl]
        dsimp only
        rw [snoc_get, if_neg (Nat.lt_irrefl _), if_pos rfl]
theorem prefix_get {A B : List (List Int)} (h : A <+: B) {i : Nat} (hi : i < A.length) : B.getD i [] = A.getD i [] ∧ i < B.length := by
  obtain ⟨t, rfl⟩ := h
  refine ⟨?_, by simp; omega⟩
  rw [List.getD_eq_getElem?_getD, List.getElem?_append_left hi, ← List.getD_eq_getElem?_getD]
/-- Whatever became of its shard, an entry is shown. -/
theorem shown {ws : List Win} (hw : (wrongWins ws).1 = 0) (l : List Dd) (h5 : ∀ d ∈ l, d.kind ≠ 5) {i : Nat} (hi : i < l.length) (hk : (l.getD i dd0).kind = 1) (he : ((runL (startL ws) l).2.getD i ans0).err = 0) :
    ∃ k p : Nat, (runL (startL ws) l).2.getD i ans0 = ⟨0, (k : Int), (p : Int), 0, []⟩ ∧ k < ws.length ∧ (((runL (startL ws) l).1.shards.getD k shd0).state ≠ 1 →
      (showL (runL (startL ws) l).1 k p).2 = 0 ∧ (showL (runL (startL ws) l).1 k p).1.entry = (l.getD i dd0).entry ∧ checkL (showL (runL (startL ws) l).1 k p).1 ((runL (startL ws) l).1.book.length : Int) (mth (rowsOf (runL (startL ws) l).1.book)) = true) := by
  have ha := run_ans (startL ws) l hi
  rw [ha] at he ⊢
  have hok := run_ok (start_ok ws) (l.take i)
  obtain ⟨k, p, e1, e2, e3, e4, e5, e6, e7⟩ := taken_step hk he
  have hkw : k < ws.length := by rw [← hok.len]; exact e3
  refine ⟨k, p, e1, hkw, fun hst => ?_⟩
  have hokF := run_ok (start_ok ws) l
  have hfin : (runL (startL ws) l).1 = (runL (stepL (runL (startL ws) (l.take i)).1 (l.getD i dd0)).1 (l.drop (i + 1))).1 := by
    have := runL_append (startL ws) (l.take (i + 1)) (l.drop (i + 1))
    rw [List.take_append_drop] at this
    rw [this, take_snoc_dd hi, runL_snoc]
  have hc := (run_clean (start_ok ws) (start_clean ws) (l.take i) (fun d hd => h5 d (List.mem_of_mem_take hd))).1
  have hmem : l.getD i dd0 ∈ l := by rw [List.getD_eq_getElem?_getD, List.getElem?_eq_getElem hi]; exact List.getElem_mem hi
  have hc1 := (step_clean hok hc (h5 _ hmem)).1
  have hpre := (run_clean (step_ok hok _) hc1 (l.drop (i + 1)) (fun d hd => h5 d (List.mem_of_mem_drop hd))).2 k
  rw [← hfin, content_open (by rw [e5]; decide)] at hpre
  obtain ⟨g1, g2⟩ := prefix_get hpre e6
  obtain ⟨-, -, c3, -, -, -⟩ := content_ok (hokF.each k hkw)
  obtain ⟨row, -, -, es, ec⟩ := show_right hw hokF hkw hst (i := p) (by rw [← c3]; omega)
  rw [es]
  exact ⟨rfl, by dsimp only; rw [g1, e7], ec⟩

end Go.Proofs.YtkjlchfmplcobafGreatDoor

/- Chapter 7's mathematics: who shows what was not taken; entries of two shards; a shard's size in the book; the book grew. -/
namespace Go.Proofs.YtkjlchfmplcobafGreatDoor

theorem stands_range {size : Int} {root b : List Int} {i : Int} {p : List (List Int)} (h : standsL size root b i p = true) : 0 ≤ i ∧ i < size ∧ 1 ≤ size ∧ size ≤ 100 := by
  unfold standsL at h
  by_cases g : size < 1 ∨ 100 < size ∨ i < 0 ∨ size ≤ i ∨ 200 < b.length ∨ goodL p = false
  · rw [if_pos g] at h; cases h
  · exact ⟨by omega, by omega, by omega, by omega⟩
theorem check_parts {s : Shw} {hs : Int} {hr : List Int} (h : checkL s hs hr = true) : wrongRec s.rcd = 0 ∧ s.rcd.shard = s.shard ∧ s.hsize = hs ∧ s.hroot = hr ∧ standsL s.rcd.size s.rcd.root s.entry s.place s.path = true ∧ standsL hs hr (rowL s.rcd) s.row s.bookPath = true := by
  unfold checkL at h
  simp only [Bool.and_eq_true, decide_eq_true_eq] at h
  obtain ⟨h1, h2, ⟨h3, h4⟩, h5, h6⟩ := h
  exact ⟨h1, h2, h3, h4, h5, h6⟩
theorem clashS_of {L : List (List Int)} {b : List Int} {i : Int} {p : List (List Int)} (hw : wrongL L = (0, 0)) (hs : standsL L.length (mth L) b i p = true) (hne : L.getD i.toNat [] ≠ b) : clashS L b i p = true := by
  unfold clashS
  rw [hw, hs, decide_eq_true hne]
  rfl
/-- Who shows what was not taken. -/
theorem false_row {ws : List Win} {f : Flt} (hw : (wrongWins ws).1 = 0) (h : FltOk ws f) {s : Shw} (hc : checkL s (f.book.length : Int) (mth (rowsOf f.book)) = true) :
    wrongRec s.rcd = 0 ∧ 0 ≤ s.row ∧ s.row < f.book.length ∧ ((rowsOf f.book).getD s.row.toNat [] ≠ rowL s.rcd → clashS (rowsOf f.book) (rowL s.rcd) s.row s.bookPath = true) ∧
    ((rowsOf f.book).getD s.row.toNat [] = rowL s.rcd → ∃ k : Nat, s.rcd.shard = (k : Int) ∧ k < ws.length ∧ ((f.shards.getD k shd0).state ≠ 4 → 0 ≤ s.place ∧ s.place < (f.shards.getD k shd0).entries.length ∧
      ((f.shards.getD k shd0).entries.getD s.place.toNat [] ≠ s.entry → clashS (f.shards.getD k shd0).entries s.entry s.place s.path = true))) := by
  obtain ⟨h1, -, -, -, h5, h6⟩ := check_parts hc
  obtain ⟨r1, r2, -, -⟩ := stands_range h6
  have hb := book_right hw h
  have hb0 : (wrongRecs f.book).1 = 0 := by rw [hb]
  have hrl := rows_length f.book
  refine ⟨h1, r1, r2, fun hne => ?_, fun he => ?_⟩
  · exact clashS_of (rows_wrong hb0) (by rw [hrl]; exact h6) hne
  · have hlt : s.row.toNat < f.book.length := by omega
    rw [rows_get hlt] at he
    have hwr := (wrongRecs_ok hb0).2 _ hlt
    have hrec : f.book.getD s.row.toNat rec0 = s.rcd := by
      have e1 := rec_row hwr
      rw [he, rec_row h1] at e1
      exact e1.symm
    obtain ⟨k, hk, -, e⟩ := h.inb _ hlt
    rw [hrec] at e
    refine ⟨k, by rw [e]; rfl, hk, fun h4 => ?_⟩
    have hs := h.each k hk
    have hh : headOf (f.shards.getD k shd0) = (((f.shards.getD k shd0).entries.length : Int), mth (f.shards.getD k shd0).entries) := by unfold headOf; rw [if_neg h4]
    have e2 : s.rcd.size = ((f.shards.getD k shd0).entries.length : Int) := by rw [e]; show (headOf _).1 = _; rw [hh]
    have e3 : s.rcd.root = mth (f.shards.getD k shd0).entries := by rw [e]; show (headOf _).2 = _; rw [hh]
    rw [e2, e3] at h5
    obtain ⟨p1, p2, -, -⟩ := stands_range h5
    exact ⟨p1, p2, fun hne => clashS_of (wrong_entries hs) h5 hne⟩
end Go.Proofs.YtkjlchfmplcobafGreatDoor

/- What the laws of chapter 6 ask of package book's faces, as propositions: each is shown of the landed code elsewhere. Records in memory. -/
namespace Go.Proofs.YtkjlchfmplcobafGreatDoor
open Go.RowKit

/-- A record as the walks meet it. -/
def RecV (w : World) (v : Value) (r : Rec) : Prop := ∃ ra rc, v = .agg #[.int .i64 r.shard, .int .i64 r.from', .int .i64 r.to', .int .i64 r.size, .slice ra r.root.length rc] ∧ Some' w (.slice ra r.root.length rc) r.root
theorem RecV.below {w w' : World} {v : Value} {r : Rec} (h : RecV w v r) (hb : Below w.heap.size w w') : RecV w' v r := by
  obtain ⟨ra, rc, h1, h2⟩ := h
  exact ⟨ra, rc, h1, h2.below hb⟩
/-- A record's cells. -/
def RecCells (w : World) (b o : Nat) (r : Rec) : Prop := w.cell? ⟨b, o, none⟩ = some (.int .i64 r.shard) ∧ w.cell? ⟨b, o + 1, none⟩ = some (.int .i64 r.from') ∧ w.cell? ⟨b, o + 2, none⟩ = some (.int .i64 r.to') ∧ w.cell? ⟨b, o + 3, none⟩ = some (.int .i64 r.size) ∧
  ∃ ra rc, w.cell? ⟨b, o + 4, none⟩ = some (.slice ra r.root.length rc) ∧ Some' w (.slice ra r.root.length rc) r.root
theorem RecCells.below {w w' : World} {b o : Nat} {r : Rec} (h : RecCells w b o r) (hb : b < w.heap.size) (hw : Below w.heap.size w w') : RecCells w' b o r := by
  obtain ⟨h0, h1, h2, h3, ra, rc, h4, h5⟩ := h
  exact ⟨by rw [hw.cell (p := ⟨b, o, none⟩) hb]; exact h0, by rw [hw.cell (p := ⟨b, o + 1, none⟩) hb]; exact h1, by rw [hw.cell (p := ⟨b, o + 2, none⟩) hb]; exact h2, by rw [hw.cell (p := ⟨b, o + 3, none⟩) hb]; exact h3, ra, rc, by rw [hw.cell (p := ⟨b, o + 4, none⟩) hb]; exact h4, h5.below hw⟩
/-- Records as the walks meet them. -/
def RecsAt (w : World) (v : Value) (l : List Rec) : Prop :=
  ∃ a c, v = .slice a l.length c ∧ l.length ≤ c ∧ c ≤ maxLen ∧ (a = none → c = 0) ∧ (l.length = 0 ∨ ∃ b off, a = some ⟨b, off, none⟩ ∧ b < w.heap.size ∧ ∀ j, j < l.length → RecCells w b (off + j * 5) (l.getD j rec0))
theorem RecsAt.below {w w' : World} {v : Value} {l : List Rec} (h : RecsAt w v l) (hw : Below w.heap.size w w') : RecsAt w' v l := by
  obtain ⟨a, c, h1, h2, h3, h4, h5⟩ := h
  refine ⟨a, c, h1, h2, h3, h4, ?_⟩
  rcases h5 with h5 | ⟨b, off, h6, h7, h8⟩
  · exact .inl h5
  · exact .inr ⟨b, off, h6, Nat.lt_of_lt_of_le h7 hw.size, fun j hj => (h8 j hj).below h7 hw⟩
theorem RecsAt.bytes {w : World} {v : Value} {l : List Rec} (h : RecsAt w v l) (j : Nat) : Bytes (l.getD j rec0).root := by
  obtain ⟨a, c, -, -, -, -, h5⟩ := h
  by_cases hj : j < l.length
  · rcases h5 with h5 | ⟨b, off, -, -, h8⟩
    · omega
    · obtain ⟨-, -, -, -, ra, rc, -, h2⟩ := h8 j hj
      exact h2.bytes
  · rw [List.getD_eq_getElem?_getD, List.getElem?_eq_none (by omega)]; exact nil_bytes
theorem rows_bytes {l : List Rec} (h : (wrongRecs l).1 = 0) (hb : ∀ j, Bytes (l.getD j rec0).root) : ∀ j, Bytes ((rowsOf l).getD j []) := fun j => by
  by_cases hj : j < l.length
  · rw [rows_get hj]; exact row_bytes ((wrongRecs_ok h).2 j hj) (hb j)
  · rw [List.getD_eq_getElem?_getD, List.getElem?_eq_none (by rw [rows_length]; omega)]; exact nil_bytes
/-- What Head tells. -/
def bookSize (l : List Rec) : Int := if (wrongRecs l).1 ≠ 0 then 0 else (l.length : Int)
def bookRoot (l : List Rec) : List Int := if (wrongRecs l).1 ≠ 0 then [] else mth (rowsOf l)
/-- The faces. -/
def RecWrongC : Prop := ∀ (r : Rec) (v : Value) (w : World), RecV w v r →
  Calls Tryz.prog 56 #[v] w fun e w' => e = .returned (.int .i64 (wrongRec r)) ∧ Below w.heap.size w w'
def RecBytesC : Prop := ∀ (r : Rec) (v : Value) (w : World), RecV w v r →
  Calls Tryz.prog 21 #[v] w fun e w' => ∃ xa xn xc, e = .returned (.tuple #[.slice xa xn xc, .int .i64 (wrongRec r)]) ∧ w'.ownsRow w.heap.size 5 1 (.slice xa xn xc) xn ((bytesE r).map (Value.int .u8)) ∧ Below w.heap.size w w'
def BookHeadC : Prop := ∀ (l : List Rec) (lv : Value) (w : World), Ready w → RecsAt w lv l →
  Calls Tryz.prog 11 #[lv] w fun e w' => ∃ ra rc, e = .returned (.tuple #[.agg #[.int .i64 (bookSize l), .slice ra (bookRoot l).length rc], faultV (wrongRecs l)]) ∧ Some' w' (.slice ra (bookRoot l).length rc) (bookRoot l) ∧ Below w.heap.size w w'
def BookPathC : Prop := ∀ (l : List Rec) (row : Int) (lv : Value) (w : World), Ready w → RecsAt w lv l →
  Calls Tryz.prog 33 #[lv, .int .i64 row] w fun e w' => ∃ xa xn xc, e = .returned (.tuple #[.slice xa xn xc, faultV (bookPathF l row)]) ∧ ((bookPathF l row).1 = 0 → OwnParts w' w.heap.size (.slice xa xn xc) (pathL (rowsOf l) row.toNat)) ∧ ((bookPathF l row).1 ≠ 0 → xn = 0) ∧ Below w.heap.size w w'
end Go.Proofs.YtkjlchfmplcobafGreatDoor

/- What the laws of chapter 5 ask of package shelf's faces, as propositions: each is shown of the landed code elsewhere. Manifests in memory. -/
namespace Go.Proofs.YtkjlchfmplcobafGreatDoor
open Go.RowKit

/-- A segment's bytes as the walks meet them. -/
def PackedAt (w : World) (b o : Nat) (d : List Int) : Prop := ∃ pa pc, w.cell? ⟨b, o, none⟩ = some (.slice pa d.length pc) ∧ Some' w (.slice pa d.length pc) d ∧ d.length ≤ pc ∧ pc ≤ maxLen
/-- Segments as the walks meet them. -/
def SegsAt (w : World) (v : Value) (l : List Seg) : Prop :=
  ∃ a c, v = .slice a l.length c ∧ l.length ≤ c ∧ c ≤ maxLen ∧ (a = none → c = 0) ∧ (l.length = 0 ∨ ∃ b off, a = some ⟨b, off, none⟩ ∧ b < w.heap.size ∧
    ∀ j, j < l.length → w.cell? ⟨b, off + j * 3, none⟩ = some (.int .i64 (l.getD j seg0).first) ∧ w.cell? ⟨b, off + j * 3 + 1, none⟩ = some (.int .i64 (l.getD j seg0).count) ∧ PackedAt w b (off + j * 3 + 2) (l.getD j seg0).packed)
theorem PackedAt.below {w w' : World} {b o : Nat} {d : List Int} (h : PackedAt w b o d) (hb : b < w.heap.size) (hw : Below w.heap.size w w') : PackedAt w' b o d := by
  obtain ⟨pa, pc, h1, h2, h3⟩ := h
  exact ⟨pa, pc, by rw [hw.cell (p := ⟨b, o, none⟩) hb]; exact h1, h2.below hw, h3⟩
theorem SegsAt.below {w w' : World} {v : Value} {l : List Seg} (h : SegsAt w v l) (hw : Below w.heap.size w w') : SegsAt w' v l := by
  obtain ⟨a, c, h1, h2, h3, h4, h5⟩ := h
  refine ⟨a, c, h1, h2, h3, h4, ?_⟩
  rcases h5 with h5 | ⟨b, off, h6, h7, h8⟩
  · exact .inl h5
  · refine .inr ⟨b, off, h6, Nat.lt_of_lt_of_le h7 hw.size, fun j hj => ?_⟩
    obtain ⟨c0, c1, c2⟩ := h8 j hj
    exact ⟨by rw [hw.cell (p := ⟨b, off + j * 3, none⟩) h7]; exact c0, by rw [hw.cell (p := ⟨b, off + j * 3 + 1, none⟩) h7]; exact c1, c2.below h7 hw⟩
/-- A manifest as the walks meet it. -/
def ManAt (w : World) (v : Value) (m : Man) : Prop := ∃ rv sv, v = .agg #[.int .i64 m.size, rv, sv] ∧ Some' w rv m.root ∧ SegsAt w sv m.segs
theorem ManAt.below {w w' : World} {v : Value} {m : Man} (h : ManAt w v m) (hw : Below w.heap.size w w') : ManAt w' v m := by
  obtain ⟨rv, sv, h1, h2, h3⟩ := h
  exact ⟨rv, sv, h1, h2.below hw, h3.below hw⟩
theorem some_nil (w : World) : Some' w (.slice none 0 0) [] := ⟨bytesAt_nil w, nil_bytes, Nat.zero_le _⟩
theorem lists_nil (w : World) : Lists w none 0 0 [] := ⟨rfl, .inl ⟨rfl, none, 0, rfl⟩, Nat.le_refl _, Nat.zero_le _, fun _ => ⟨rfl, rfl⟩, fun j => by simp; exact nil_bytes, fun j => by simp⟩
/-- What is read of bytes is bytes. -/
theorem bytes_forall {l : List Int} (h : Bytes l) : ∀ x ∈ l, 0 ≤ x ∧ x < 256 := fun x hx => by
  obtain ⟨j, hj, rfl⟩ := List.mem_iff_getElem.1 hx
  have := h j
  rwa [List.getD_eq_getElem?_getD, List.getElem?_eq_getElem hj] at this
theorem unpack_bytes {b : List Int} (h : Bytes b) : Bytes (unpackL b).1 := bytes_of_mem (fun x hx => by
  rcases unpack_mem b x hx with g | g
  · exact bytes_forall h x g
  · omega)
theorem takeL_bytes {b : List Int} (h : Bytes b) {n : Nat} {l : List (List Int)} (hl : takeL n b = some l) : ∀ j, Bytes (l.getD j []) := bytes_mem (fun e he => bytes_of_mem (fun x hx => bytes_forall h x (takeL_mem n b l hl e he x hx)))
def SegsBytes (l : List Seg) : Prop := ∀ j, Bytes (l.getD j seg0).packed
theorem SegsAt.bytes {w : World} {v : Value} {l : List Seg} (h : SegsAt w v l) : SegsBytes l := fun j => by
  obtain ⟨a, c, -, -, -, -, h5⟩ := h
  by_cases hj : j < l.length
  · rcases h5 with h5 | ⟨b, off, -, -, h8⟩
    · omega
    · obtain ⟨-, -, pa, pc, -, h2, -⟩ := h8 j hj
      exact h2.bytes
  · rw [List.getD_eq_getElem?_getD, List.getElem?_eq_none (by omega)]; exact nil_bytes
theorem segment_bytes {m : Man} (h : SegsBytes m.segs) (k : Int) : ∀ j, Bytes ((segmentL m k).1.getD j []) := bytes_mem (fun e he => bytes_of_mem (fun x hx => by
  rcases segment_mem m k e he x hx with g | g
  · exact bytes_forall (h k.toNat) x g
  · omega))
theorem upTo_bytes {m : Man} (h : SegsBytes m.segs) (k : Nat) : ∀ e ∈ upTo m k, Bytes e := fun e he => by
  unfold upTo at he
  obtain ⟨j, -, hj⟩ := List.mem_flatMap.1 he
  obtain ⟨i, hi, rfl⟩ := List.mem_iff_getElem.1 hj
  have := segment_bytes h (j : Int) i
  rwa [List.getD_eq_getElem?_getD, List.getElem?_eq_getElem hi] at this
/-- A slice of bytes that lies in a block of bytes. -/
def ByteEl (w : World) (y : Value) (d : List Int) : Prop :=
  (d = [] ∧ ∃ a c, y = .slice a 0 c ∧ (a = none → c = 0)) ∨ ∃ g off c cur mk, y = .slice (some ⟨g, off, none⟩) d.length c ∧ w.heap[g]? = some (.cells cur 5 mk) ∧ ∀ j, j < d.length → w.cell? ⟨g, off + j, none⟩ = some (.int .u8 (d.getD j 0))
theorem ByteEl.bytes {w : World} {y : Value} {d : List Int} (h : ByteEl w y d) : BytesAt w y d := by
  rcases h with h | ⟨g, off, c, cur, mk, h1, h2, h3⟩
  · exact .inl h
  · exact .inr ⟨g, off, c, h1, lt_heap h2, h3⟩
theorem ByteEl.one {w : World} {y : Value} {d : List Int} (h : ByteEl w y d) : y.oneCell' = true := by
  rcases h with ⟨-, a, c, rfl, -⟩ | ⟨g, off, c, cur, mk, rfl, -⟩ <;> rfl
theorem ByteEl.below {w w' : World} {y : Value} {d : List Int} {N : Nat} (h : ByteEl w y d) (hb : Below N w w') (hN : w.heap.size ≤ N) : ByteEl w' y d := by
  rcases h with h | ⟨g, off, c, cur, mk, h1, h2, h3⟩
  · exact .inl h
  · have hg := lt_heap h2
    exact .inr ⟨g, off, c, cur, mk, h1, by rw [hb.block g (by omega)]; exact h2, fun j hj => by rw [hb.cell (p := ⟨g, off + j, none⟩) (show g < N by omega)]; exact h3 j hj⟩
theorem ByteEl.same {w w' : World} {y : Value} {d : List Int} (h : ByteEl w y d) (hs : ∀ (g : Nat) (cur : Array Value) (mk : Nat × Nat), w.heap[g]? = some (Obj.cells cur 5 mk) → w'.heap[g]? = w.heap[g]?) : ByteEl w' y d := by
  rcases h with h | ⟨g, off, c, cur, mk, h1, h2, h3⟩
  · exact .inl h
  · have h4 := (hs g cur mk h2).trans h2
    exact .inr ⟨g, off, c, cur, mk, h1, h4, fun j hj => by rw [cell_of_row w' g (off + j) cur _ mk h4, ← cell_of_row w g (off + j) cur _ mk h2]; exact h3 j hj⟩
theorem own_apart {w : World} {base g n size : Nat} {e t : TypeId} {v : Value} {xs : List Value} {cur : Array Value} {mk : Nat × Nat} (h : w.ownsRow base e size v n xs) (hne : t ≠ e) (hg : w.heap[g]? = some (.cells cur t mk)) : some g ≠ v.ownBlock := fun hh => by
  rcases h.2 with ⟨rfl, -⟩ | ⟨k, cap, cu, rfl, -, hk, -⟩
  · cases hh
  · cases hh
    rw [hk] at hg
    cases hg
    exact hne rfl
theorem ByteEl.kept {w w' : World} {base n size : Nat} {e : TypeId} {v : Value} {xs : List Value} {y : Value} {d : List Int} (h : ByteEl w y d) (hr : w.ownsRow base e size v n xs) (hne : 5 ≠ e) (hg : w.grownBy w' v.ownBlock) : ByteEl w' y d :=
  h.same (fun g _ _ h2 => hg.block g (lt_heap h2) (own_apart hr hne h2))
theorem byteEl_own {w : World} {base n : Nat} {v : Value} {d : List Int} (h : w.ownsRow base 5 1 v n (d.map (Value.int .u8))) : ByteEl w v d := by
  have hl : d.length = n := by simpa using h.1
  rcases h.2 with ⟨hv, hn⟩ | ⟨g, cap, cur, hv, -, hg, -⟩
  · subst hn
    exact .inl ⟨List.eq_nil_of_length_eq_zero hl, none, 0, hv, fun _ => rfl⟩
  · subst hl
    subst hv
    refine .inr ⟨g, 0, cap, cur, _, rfl, hg, fun j hj => ?_⟩
    rw [Nat.zero_add, h.cellAt j (by omega), List.getElem?_map, List.getElem?_eq_getElem hj, List.getD_eq_getElem?_getD, List.getElem?_eq_getElem hj]
    rfl
/-- Values, each of them such a slice. -/
def Els (w : World) (vs : List Value) (L : List (List Int)) : Prop := vs.length = L.length ∧ ∀ j, j < L.length → ∃ y, vs[j]? = some y ∧ ByteEl w y (L.getD j [])
theorem els_nil (w : World) : Els w [] [] := ⟨rfl, fun _ h => absurd h (Nat.not_lt_zero _)⟩
theorem Els.below {w w' : World} {vs : List Value} {L : List (List Int)} {N : Nat} (h : Els w vs L) (hb : Below N w w') (hN : w.heap.size ≤ N) : Els w' vs L := ⟨h.1, fun j hj => by obtain ⟨y, h1, h2⟩ := h.2 j hj; exact ⟨y, h1, h2.below hb hN⟩⟩
theorem Els.kept {w w' : World} {base n size : Nat} {e : TypeId} {v : Value} {xs vs : List Value} {L : List (List Int)} (h : Els w vs L) (hr : w.ownsRow base e size v n xs) (hne : 5 ≠ e) (hg : w.grownBy w' v.ownBlock) : Els w' vs L := ⟨h.1, fun j hj => by obtain ⟨y, h1, h2⟩ := h.2 j hj; exact ⟨y, h1, h2.kept hr hne hg⟩⟩
theorem Els.append {w : World} {vs us : List Value} {L M : List (List Int)} (h : Els w vs L) (k : Els w us M) : Els w (vs ++ us) (L ++ M) := by
  refine ⟨by rw [List.length_append, List.length_append, h.1, k.1], fun j hj => ?_⟩
  by_cases hlt : j < L.length
  · obtain ⟨y, h1, h2⟩ := h.2 j hlt
    exact ⟨y, by rw [List.getElem?_append_left (by rw [h.1]; exact hlt)]; exact h1, by rw [List.getD_eq_getElem?_getD, List.getElem?_append_left hlt, ← List.getD_eq_getElem?_getD]; exact h2⟩
  · obtain ⟨y, h1, h2⟩ := k.2 (j - L.length) (by rw [List.length_append] at hj; omega)
    exact ⟨y, by rw [List.getElem?_append_right (by rw [h.1]; omega), h.1]; exact h1, by rw [List.getD_eq_getElem?_getD, List.getElem?_append_right (by omega), ← List.getD_eq_getElem?_getD]; exact h2⟩
theorem Els.one {w : World} {vs : List Value} {L : List (List Int)} (h : Els w vs L) : ∀ u ∈ vs, u.oneCell' = true := fun u hu => by
  obtain ⟨j, hj, rfl⟩ := List.mem_iff_getElem.1 hu
  obtain ⟨y, h1, h2⟩ := h.2 j (by rw [← h.1]; exact hj)
  rw [List.getElem?_eq_getElem hj] at h1
  cases h1
  exact h2.one
/-- A list as it comes in whose bytes lie in blocks of bytes. -/
structure Laid (w : World) (a : Option Addr) (n c : Nat) (L : List (List Int)) : Prop where
  lists : Lists w a n c L
  els : ∃ vs, Els w vs L ∧ ∀ ad, a = some ad → ∀ j u, vs[j]? = some u → w.cell? (ad.add j) = some u
theorem laid_nil (w : World) : Laid w none 0 0 [] := ⟨lists_nil w, [], els_nil w, fun _ _ j u h => by simp at h⟩
theorem Laid.below {w w' : World} {a : Option Addr} {n c : Nat} {L : List (List Int)} (h : Laid w a n c L) (hb : Below w.heap.size w w') : Laid w' a n c L := by
  obtain ⟨vs, h1, h2⟩ := h.els
  refine ⟨h.lists.below hb, vs, h1.below hb (Nat.le_refl _), fun ad ha j u hu => ?_⟩
  have hc := h2 ad ha j u hu
  rw [hb.cell (p := ad.add j) (World.block_lt_of_cell? w _ hc)]
  exact hc
theorem laid_own {w : World} {base : Nat} {a : Option Addr} {n c : Nat} {vs : List Value} {L : List (List Int)} (hr : w.ownsRow base 35 1 (.slice a n c) n vs) (he : Els w vs L) (hl : L.length = n) (hb : ∀ x ∈ L, Bytes x) (hs : ∀ x ∈ L, x.length ≤ maxLen) : Laid w a n c L := by
  have hcell : ∀ ad, a = some ad → ∀ j u, vs[j]? = some u → w.cell? (ad.add j) = some u := fun ad ha j u hu => by
    have hj : j < n := by have := (List.getElem?_eq_some_iff.1 hu).1; rw [he.1, hl] at this; exact this
    obtain ⟨g, hg, -⟩ := own_some hr (by omega)
    subst ha
    cases hg
    have e : (⟨g, 0, none⟩ : Addr).add j = ⟨g, 0 + j, none⟩ := Addr.add_mid _ _ _
    rw [e, Nat.zero_add, hr.cellAt j (by omega)]
    exact hu
  obtain ⟨a', c', e', h1, h2⟩ := own_cap hr
  cases e'
  refine ⟨⟨hl, ?_, h1, h2, own_nil hr, bytes_mem hb, short_mem hs⟩, vs, he, hcell⟩
  by_cases h0 : n = 0
  · subst h0
    exact .inl ⟨List.eq_nil_of_length_eq_zero hl, _, _, rfl⟩
  · obtain ⟨g, rfl, -, hg, -⟩ := own_some hr h0
    refine .inr ⟨g, 0, c, by rw [hl], hg, fun j hj => ?_⟩
    obtain ⟨y, h3, h4⟩ := he.2 j hj
    obtain ⟨ya, yc, rfl⟩ := h4.bytes.form
    have e : (⟨g, 0, none⟩ : Addr).add j = ⟨g, 0 + j, none⟩ := Addr.add_mid _ _ _
    have := hcell _ rfl j _ h3
    rw [e] at this
    exact ⟨_, _, _, this, h4.bytes⟩
def SegmentC : Prop := ∀ (m : Man) (k : Int) (mv : Value) (w : World), ManAt w mv m →
  Calls Tryz.prog 96 #[mv, .int .i64 k] w fun e w' => ∃ xa xn xc, e = .returned (.tuple #[.slice xa xn xc, .int .i64 (segmentL m k).2]) ∧ Laid w' xa xn xc (segmentL m k).1 ∧ Below w.heap.size w w'
def VerifyC : Prop := ∀ (m : Man) (mv : Value) (w : World), Ready w → ManAt w mv m →
  Calls Tryz.prog 65 #[mv] w fun e w' => ∃ xa xn xc, e = .returned (.tuple #[.slice xa xn xc, faultV (verifyL m).2]) ∧ Laid w' xa xn xc (verifyL m).1 ∧ Below w.heap.size w w'

end Go.Proofs.YtkjlchfmplcobafGreatDoor

/- What the laws of chapter 7 ask of package fleet's faces, as propositions: each is shown of the landed code elsewhere. Fleets in memory. -/
namespace Go.Proofs.YtkjlchfmplcobafGreatDoor
open Go.RowKit

/-- A slice of elements of n cells each, as the walks meet it. -/
def RowAt {α : Type} (n : Nat) (P : World → Nat → Nat → α → Prop) (z : α) (w : World) (v : Value) (l : List α) : Prop :=
  ∃ a c, v = .slice a l.length c ∧ l.length ≤ c ∧ c ≤ maxLen ∧ (a = none → c = 0) ∧ (l.length = 0 ∨ ∃ b off, a = some ⟨b, off, none⟩ ∧ b < w.heap.size ∧ ∀ j, j < l.length → P w b (off + j * n) (l.getD j z))
theorem RowAt.below {α : Type} {n : Nat} {P : World → Nat → Nat → α → Prop} {z : α} {w w' : World} {v : Value} {l : List α} (h : RowAt n P z w v l) (hw : Below w.heap.size w w') (hP : ∀ b o x, b < w.heap.size → P w b o x → P w' b o x) : RowAt n P z w' v l := by
  obtain ⟨a, c, h1, h2, h3, h4, h5⟩ := h
  refine ⟨a, c, h1, h2, h3, h4, ?_⟩
  rcases h5 with h5 | ⟨b, off, h6, h7, h8⟩
  · exact .inl h5
  · exact .inr ⟨b, off, h6, Nat.lt_of_lt_of_le h7 hw.size, fun j hj => hP _ _ _ h7 (h8 j hj)⟩
theorem RowAt.form {α : Type} {n : Nat} {P : World → Nat → Nat → α → Prop} {z : α} {w : World} {v : Value} {l : List α} (h : RowAt n P z w v l) : ∃ a c, v = .slice a l.length c := by
  obtain ⟨a, c, e, -⟩ := h; exact ⟨a, c, e⟩
theorem RowAt.nil {α : Type} (n : Nat) (P : World → Nat → Nat → α → Prop) (z : α) (w : World) : RowAt n P z w (.slice none 0 0) [] := ⟨none, 0, rfl, Nat.le_refl _, Nat.zero_le _, fun _ => rfl, .inl rfl⟩
theorem RowAt.first {α : Type} {n : Nat} {P : World → Nat → Nat → α → Prop} {z : α} {w : World} {a : Option Addr} {m c k : Nat} {l : List α} (h : RowAt n P z w (.slice a m c) l) (hm : l.length = m) (hk : k ≤ m) : RowAt n P z w (.slice a k c) (l.take k) := by
  obtain ⟨a', c', e, h2, h3, h4, h5⟩ := h
  rw [hm] at e h2 h5
  cases e
  have hl : (l.take k).length = k := by rw [List.length_take]; omega
  refine ⟨a, c, by rw [hl], by omega, h3, h4, ?_⟩
  by_cases hk0 : k = 0
  · exact .inl (by omega)
  obtain ⟨b, off, h6, h7, h8⟩ := h5.resolve_left (by omega)
  refine .inr ⟨b, off, h6, h7, fun j hj => ?_⟩
  rw [hl] at hj
  rw [List.getD_eq_getElem?_getD, List.getElem?_take, if_pos hj, ← List.getD_eq_getElem?_getD]
  exact h8 j (by omega)
def WinCells (w : World) (b o : Nat) (x : Win) : Prop := w.cell? ⟨b, o, none⟩ = some (.int .i64 x.a) ∧ w.cell? ⟨b, o + 1, none⟩ = some (.int .i64 x.b)
def WinsAt (w : World) (v : Value) (l : List Win) : Prop := RowAt 2 WinCells win0 w v l
theorem WinsAt.below {w w' : World} {v : Value} {l : List Win} (h : WinsAt w v l) (hw : Below w.heap.size w w') : WinsAt w' v l :=
  RowAt.below h hw (fun b o _ hb ⟨h1, h2⟩ => ⟨by rw [hw.cell (p := ⟨b, o, none⟩) hb]; exact h1, by rw [hw.cell (p := ⟨b, o + 1, none⟩) hb]; exact h2⟩)
/-- Numbers that their types hold. -/
abbrev DdFit (x : Dd) : Prop := (0 ≤ x.by' ∧ x.by' < 256) ∧ (-9223372036854775808 ≤ x.kind ∧ x.kind ≤ 9223372036854775807)
structure DdCells (w : World) (b o : Nat) (x : Dd) : Prop where
  kind : w.cell? ⟨b, o, none⟩ = some (.int .i64 x.kind)
  n : w.cell? ⟨b, o + 1, none⟩ = some (.int .i64 x.n)
  time : w.cell? ⟨b, o + 2, none⟩ = some (.int .i64 x.time)
  entry : ∃ pa pc, w.cell? ⟨b, o + 3, none⟩ = some (.slice pa x.entry.length pc) ∧ Some' w (.slice pa x.entry.length pc) x.entry
  segment : w.cell? ⟨b, o + 4, none⟩ = some (.int .i64 x.segment)
  at' : w.cell? ⟨b, o + 5, none⟩ = some (.int .i64 x.at')
  by' : w.cell? ⟨b, o + 6, none⟩ = some (.int .u8 x.by')
  byte : DdFit x
theorem DdCells.below {w w' : World} {b o : Nat} {x : Dd} (h : DdCells w b o x) (hb : b < w.heap.size) (hw : Below w.heap.size w w') : DdCells w' b o x := by
  obtain ⟨h1, h2, h3, ⟨pa, pc, h4, h4'⟩, h5, h6, h7, h8⟩ := h
  exact ⟨by rw [hw.cell (p := ⟨b, o, none⟩) hb]; exact h1, by rw [hw.cell (p := ⟨b, o + 1, none⟩) hb]; exact h2, by rw [hw.cell (p := ⟨b, o + 2, none⟩) hb]; exact h3, ⟨pa, pc, by rw [hw.cell (p := ⟨b, o + 3, none⟩) hb]; exact h4, h4'.below hw⟩, by rw [hw.cell (p := ⟨b, o + 4, none⟩) hb]; exact h5, by rw [hw.cell (p := ⟨b, o + 5, none⟩) hb]; exact h6, by rw [hw.cell (p := ⟨b, o + 6, none⟩) hb]; exact h7, h8⟩
def DosAt (w : World) (v : Value) (l : List Dd) : Prop := RowAt 7 DdCells dd0 w v l
theorem DosAt.below {w w' : World} {v : Value} {l : List Dd} (h : DosAt w v l) (hw : Below w.heap.size w w') : DosAt w' v l := RowAt.below h hw (fun _ _ _ hb hx => hx.below hb hw)
structure ShdCells (w : World) (b o : Nat) (s : Shd) : Prop where
  from' : w.cell? ⟨b, o, none⟩ = some (.int .i64 s.from')
  to' : w.cell? ⟨b, o + 1, none⟩ = some (.int .i64 s.to')
  state : w.cell? ⟨b, o + 2, none⟩ = some (.int .i64 s.state)
  entries : ∃ ea ec, w.cell? ⟨b, o + 3, none⟩ = some (.slice ea s.entries.length ec) ∧ Lists w ea s.entries.length ec s.entries
  size : w.cell? ⟨b, o + 4, none⟩ = some (.int .i64 s.man.size)
  root : ∃ ra rc, w.cell? ⟨b, o + 5, none⟩ = some (.slice ra s.man.root.length rc) ∧ Some' w (.slice ra s.man.root.length rc) s.man.root
  segs : ∃ ga gc, w.cell? ⟨b, o + 6, none⟩ = some (.slice ga s.man.segs.length gc) ∧ SegsAt w (.slice ga s.man.segs.length gc) s.man.segs
theorem ShdCells.below {w w' : World} {b o : Nat} {s : Shd} (h : ShdCells w b o s) (hb : b < w.heap.size) (hw : Below w.heap.size w w') : ShdCells w' b o s := by
  obtain ⟨h1, h2, h3, ⟨ea, ec, h4, h4'⟩, h5, ⟨ra, rc, h6, h6'⟩, ⟨ga, gc, h7, h7'⟩⟩ := h
  exact ⟨by rw [hw.cell (p := ⟨b, o, none⟩) hb]; exact h1, by rw [hw.cell (p := ⟨b, o + 1, none⟩) hb]; exact h2, by rw [hw.cell (p := ⟨b, o + 2, none⟩) hb]; exact h3, ⟨ea, ec, by rw [hw.cell (p := ⟨b, o + 3, none⟩) hb]; exact h4, h4'.below hw⟩, by rw [hw.cell (p := ⟨b, o + 4, none⟩) hb]; exact h5, ⟨ra, rc, by rw [hw.cell (p := ⟨b, o + 5, none⟩) hb]; exact h6, h6'.below hw⟩, ⟨ga, gc, by rw [hw.cell (p := ⟨b, o + 6, none⟩) hb]; exact h7, h7'.below hw⟩⟩
def ShdsAt (w : World) (v : Value) (l : List Shd) : Prop := RowAt 7 ShdCells shd0 w v l
theorem ShdsAt.below {w w' : World} {v : Value} {l : List Shd} (h : ShdsAt w v l) (hw : Below w.heap.size w w') : ShdsAt w' v l := RowAt.below h hw (fun _ _ _ hb hx => hx.below hb hw)
/-- A fleet as the walks meet it. -/
def FltV (w : World) (v : Value) (f : Flt) : Prop := ∃ sa sc ba bc, v = .agg #[.slice sa f.shards.length sc, .slice ba f.book.length bc] ∧ ShdsAt w (.slice sa f.shards.length sc) f.shards ∧ RecsAt w (.slice ba f.book.length bc) f.book
theorem FltV.below {w w' : World} {v : Value} {f : Flt} (h : FltV w v f) (hw : Below w.heap.size w w') : FltV w' v f := by
  obtain ⟨sa, sc, ba, bc, h1, h2, h3⟩ := h
  exact ⟨sa, sc, ba, bc, h1, h2.below hw, h3.below hw⟩
def AnsCells (w : World) (b o : Nat) (x : Ans) : Prop := w.cell? ⟨b, o, none⟩ = some (.int .i64 x.err) ∧ w.cell? ⟨b, o + 1, none⟩ = some (.int .i64 x.shard) ∧ w.cell? ⟨b, o + 2, none⟩ = some (.int .i64 x.place) ∧ w.cell? ⟨b, o + 3, none⟩ = some (.int .i64 x.size) ∧
  ∃ ra rc, w.cell? ⟨b, o + 4, none⟩ = some (.slice ra x.root.length rc) ∧ Some' w (.slice ra x.root.length rc) x.root
theorem AnsCells.below {w w' : World} {b o : Nat} {x : Ans} (h : AnsCells w b o x) (hb : b < w.heap.size) (hw : Below w.heap.size w w') : AnsCells w' b o x := by
  obtain ⟨h0, h1, h2, h3, ra, rc, h4, h5⟩ := h
  exact ⟨by rw [hw.cell (p := ⟨b, o, none⟩) hb]; exact h0, by rw [hw.cell (p := ⟨b, o + 1, none⟩) hb]; exact h1, by rw [hw.cell (p := ⟨b, o + 2, none⟩) hb]; exact h2, by rw [hw.cell (p := ⟨b, o + 3, none⟩) hb]; exact h3, ra, rc, by rw [hw.cell (p := ⟨b, o + 4, none⟩) hb]; exact h4, h5.below hw⟩
def AnssAt (w : World) (v : Value) (l : List Ans) : Prop := RowAt 5 AnsCells ans0 w v l
theorem AnssAt.below {w w' : World} {v : Value} {l : List Ans} (h : AnssAt w v l) (hw : Below w.heap.size w w') : AnssAt w' v l := RowAt.below h hw (fun _ _ _ hb hx => hx.below hb hw)
/-- What is shown, as the walks meet it. -/
structure ShwV (w : World) (v : Value) (s : Shw) : Prop where
  form : ∃ ea ec pa pc ra rc ba bc ha hc, v = .agg #[.slice ea s.entry.length ec, .int .i64 s.place, .int .i64 s.shard, .slice pa s.path.length pc, .int .i64 s.rcd.shard, .int .i64 s.rcd.from', .int .i64 s.rcd.to', .int .i64 s.rcd.size, .slice ra s.rcd.root.length rc, .int .i64 s.row, .slice ba s.bookPath.length bc, .int .i64 s.hsize, .slice ha s.hroot.length hc] ∧
    Some' w (.slice ea s.entry.length ec) s.entry ∧ Lists w pa s.path.length pc s.path ∧ Some' w (.slice ra s.rcd.root.length rc) s.rcd.root ∧ Lists w ba s.bookPath.length bc s.bookPath ∧ Some' w (.slice ha s.hroot.length hc) s.hroot
theorem ShwV.below {w w' : World} {v : Value} {s : Shw} (h : ShwV w v s) (hw : Below w.heap.size w w') : ShwV w' v s := by
  obtain ⟨ea, ec, pa, pc, ra, rc, ba, bc, ha, hc, h1, h2, h3, h4, h5, h6⟩ := h.form
  exact ⟨ea, ec, pa, pc, ra, rc, ba, bc, ha, hc, h1, h2.below hw, h3.below hw, h4.below hw, h5.below hw, h6.below hw⟩
def PlayC : Prop := ∀ (ws : List Win) (l : List Dd) (wv dv : Value) (w : World), Ready w → WinsAt w wv ws → DosAt w dv l →
  Calls Tryz.prog 10 #[wv, dv] w fun e w' => ∃ fv av, e = .returned (.tuple #[fv, av, faultV (playF ws l)]) ∧ FltV w' fv (playL ws l).1 ∧ AnssAt w' av (playL ws l).2 ∧ Below w.heap.size w w'
def ShowC : Prop := ∀ (ws : List Win) (f : Flt) (k i : Int) (fv : Value) (w : World), (wrongWins ws).1 = 0 → FltOk ws f → Ready w → FltV w fv f →
  Calls Tryz.prog 12 #[fv, .int .i64 k, .int .i64 i] w fun e w' => ∃ sv, e = .returned (.tuple #[sv, .int .i64 (showL f k i).2]) ∧ ShwV w' sv (showL f k i).1 ∧ Below w.heap.size w w'
def CheckC : Prop := ∀ (s : Shw) (hs : Int) (hr : List Int) (sv hv : Value) (w : World), Ready w → ShwV w sv s → Some' w hv hr →
  Calls Tryz.prog 14 #[sv, .agg #[.int .i64 hs, hv]] w fun e w' => e = .returned (.bool (checkL s hs hr)) ∧ Below w.heap.size w w'

end Go.Proofs.YtkjlchfmplcobafGreatDoor

/- The small fleet that each law of chapter 7 asks first. -/
namespace Go.Proofs.YtkjlchfmplcobafGreatDoor

def aliveW : List Win := [⟨0, 10⟩, ⟨10, 20⟩]
def doD (kind n : Int) : Dd := ⟨kind, n, 0, [], 0, 0, 0⟩
def subD (time : Int) (b : List Int) : Dd := ⟨1, 0, time, b, 0, 0, 0⟩
def aliveD : List Dd := [subD 12 [7], doD 2 1, doD 3 1, doD 4 1]
theorem aliveW_right : wrongWins aliveW = (0, 0) := by decide +kernel
theorem aliveD_right : playF aliveW aliveD = (0, 0) := by unfold playF; rw [aliveW_right]; rfl
def shdA (k : Nat) (st : Int) (es : List (List Int)) (m : Man) : Shd := ⟨10 * (k : Int), 10 * (k : Int) + 10, st, es, m⟩
theorem alive_1 : stepL (startL aliveW) (subD 12 [7]) = (⟨[shdA 0 1 [] man0, shdA 1 1 [[7]] man0], []⟩, ⟨0, 1, 0, 0, []⟩) := by rfl
theorem alive_2 : stepL ⟨[shdA 0 1 [] man0, shdA 1 1 [[7]] man0], []⟩ (doD 2 1) = (⟨[shdA 0 1 [] man0, shdA 1 2 [[7]] man0], [⟨1, 10, 20, 1, mth [[7]]⟩]⟩, ⟨0, 1, 0, 1, mth [[7]]⟩) := by rfl
theorem seven_right : wrongL [[7]] = (0, 0) := by rfl
theorem alive_3 : stepL ⟨[shdA 0 1 [] man0, shdA 1 2 [[7]] man0], [⟨1, 10, 20, 1, mth [[7]]⟩]⟩ (doD 3 1) = (⟨[shdA 0 1 [] man0, shdA 1 3 [[7]] (exportL [[7]])], [⟨1, 10, 20, 1, mth [[7]]⟩]⟩, ⟨0, 1, 0, (exportL [[7]]).size, (exportL [[7]]).root⟩) := by rfl
theorem seven_verify : (verifyL (exportL [[7]])).2.1 = 0 := by
  have : exportL [[7]] = ⟨([[7]] : List (List Int)).length, mth [[7]], segsL [[7]]⟩ := by unfold exportL; rw [seven_right, if_neg (fun g => g rfl)]
  rw [this, verify_export (by decide) (by decide)]
theorem alive_4 : stepL ⟨[shdA 0 1 [] man0, shdA 1 3 [[7]] (exportL [[7]])], [⟨1, 10, 20, 1, mth [[7]]⟩]⟩ (doD 4 1) = (⟨[shdA 0 1 [] man0, shdA 1 4 [] (exportL [[7]])], [⟨1, 10, 20, 1, mth [[7]]⟩]⟩, ⟨0, 1, 0, (exportL [[7]]).size, (exportL [[7]]).root⟩) := by
  unfold stepL
  rw [if_neg (by decide), if_neg (by decide), if_neg (by decide), if_neg (by decide)]
  show stepAt _ 1 _ = _
  unfold stepAt
  dsimp only
  rw [if_neg (by decide), if_neg (by decide), if_pos (show (doD 4 1).kind = 4 from rfl)]
  have : (([shdA 0 1 [] man0, shdA 1 3 [[7]] (exportL [[7]])] : List Shd).getD 1 shd0).man = exportL [[7]] := rfl
  rw [this, seven_verify, if_neg (fun g => g rfl)]
  rfl
def aliveF : Flt := ⟨[shdA 0 1 [] man0, shdA 1 4 [] (exportL [[7]])], [⟨1, 10, 20, 1, mth [[7]]⟩]⟩
theorem alive_run : runL (startL aliveW) aliveD = (aliveF, [⟨0, 1, 0, 0, []⟩, ⟨0, 1, 0, 1, mth [[7]]⟩, ⟨0, 1, 0, (exportL [[7]]).size, (exportL [[7]]).root⟩, ⟨0, 1, 0, (exportL [[7]]).size, (exportL [[7]]).root⟩]) := by
  show runL _ [_, _, _, _] = _
  simp only [runL, alive_1, alive_2, alive_3, alive_4]
  rfl
theorem alive_play : playL aliveW aliveD = (aliveF, [⟨0, 1, 0, 0, []⟩, ⟨0, 1, 0, 1, mth [[7]]⟩, ⟨0, 1, 0, (exportL [[7]]).size, (exportL [[7]]).root⟩, ⟨0, 1, 0, (exportL [[7]]).size, (exportL [[7]]).root⟩]) := by
  unfold playL; rw [aliveD_right, if_neg (fun g => g rfl), alive_run]
theorem aliveF_ok : FltOk aliveW aliveF := by
  have := run_ok (start_ok aliveW) aliveD
  rw [alive_run] at this
  exact this
theorem alive_shown : (showL aliveF 1 0).2 = 0 ∧ (showL aliveF 1 0).1.entry = [7] ∧ checkL (showL aliveF 1 0).1 1 (mth (rowsOf aliveF.book)) = true := by
  have h := shown (ws := aliveW) (by rw [aliveW_right]) aliveD (by decide) (i := 0) (by decide) rfl (by rw [alive_run]; rfl)
  rw [alive_run] at h
  obtain ⟨k, p, e, -, h2⟩ := h
  have e1 : (1 : Int) = (k : Int) := congrArg Ans.shard e
  have e2 : (0 : Int) = (p : Int) := congrArg Ans.place e
  obtain rfl : k = 1 := by omega
  obtain rfl : p = 0 := by omega
  exact h2 (by decide)

end Go.Proofs.YtkjlchfmplcobafGreatDoor

/- Boxes of records; the walks of yearref5.SameRecord and yearref5.WrongRecord. -/
namespace Go.Proofs.YtkjlchfmplcobafGreatDoor
open Go.RowKit

/-- What a variable of five cells holds. -/
theorem box_five {w : World} {k : Nat} {a b c d e : Value} {t : TypeId} (h : w.heap[k]? = some (.cells #[a, b, c, d, e] t (0, 0))) :
    w.cell? ⟨k, 0, none⟩ = some a ∧ w.cell? ⟨k, 1, none⟩ = some b ∧ w.cell? ⟨k, 2, none⟩ = some c ∧ w.cell? ⟨k, 3, none⟩ = some d ∧ w.cell? ⟨k, 4, none⟩ = some e :=
  ⟨cell_of_row w k 0 _ t _ h, cell_of_row w k 1 _ t _ h, cell_of_row w k 2 _ t _ h, cell_of_row w k 3 _ t _ h, cell_of_row w k 4 _ t _ h⟩
end Go.Proofs.YtkjlchfmplcobafGreatDoor

/- The walks of yearlaw7.do, yearlaw7.submit and yearlaw7.alive, over package fleet's faces. -/
namespace Go.Proofs.YtkjlchfmplcobafGreatDoor
open Go.RowKit

/-- What a variable of thirteen cells holds. -/
theorem box_13 {w : World} {k : Nat} {v0 v1 v2 v3 v4 v5 v6 v7 v8 v9 v10 v11 v12 : Value} {t : TypeId} (h : w.heap[k]? = some (.cells #[v0, v1, v2, v3, v4, v5, v6, v7, v8, v9, v10, v11, v12] t (0, 0))) :
    w.cell? ⟨k, 0, none⟩ = some v0 ∧ w.cell? ⟨k, 1, none⟩ = some v1 ∧ w.cell? ⟨k, 2, none⟩ = some v2 ∧ w.cell? ⟨k, 3, none⟩ = some v3 ∧ w.cell? ⟨k, 4, none⟩ = some v4 ∧ w.cell? ⟨k, 5, none⟩ = some v5 ∧ w.cell? ⟨k, 6, none⟩ = some v6 ∧ w.cell? ⟨k, 7, none⟩ = some v7 ∧ w.cell? ⟨k, 8, none⟩ = some v8 ∧ w.cell? ⟨k, 9, none⟩ = some v9 ∧ w.cell? ⟨k, 10, none⟩ = some v10 ∧ w.cell? ⟨k, 11, none⟩ = some v11 ∧ w.cell? ⟨k, 12, none⟩ = some v12 :=
  ⟨cell_of_row w k 0 _ t _ h, cell_of_row w k 1 _ t _ h, cell_of_row w k 2 _ t _ h, cell_of_row w k 3 _ t _ h, cell_of_row w k 4 _ t _ h, cell_of_row w k 5 _ t _ h, cell_of_row w k 6 _ t _ h, cell_of_row w k 7 _ t _ h, cell_of_row w k 8 _ t _ h, cell_of_row w k 9 _ t _ h, cell_of_row w k 10 _ t _ h, cell_of_row w k 11 _ t _ h, cell_of_row w k 12 _ t _ h⟩
set_option maxRecDepth 100000 in
theorem do7_any (kind n : Int) (w : World) :
    Calls Tryz.prog 24 #[.int .i64 kind, .int .i64 n] w fun e w' => e = .returned (.agg #[.int .i64 kind, .int .i64 n, .int .i64 0, .slice none 0 0, .int .i64 0, .int .i64 0, .int .u8 0]) ∧ Below w.heap.size w w' := by
  have b0 : Below w.heap.size w (w.alloc (.cells #[.int .i64 kind, .int .i64 n, .int .i64 0, .slice none 0 0, .int .i64 0, .int .i64 0, .int .u8 0] 37)) := (Below.refl _ _).alloc (Nat.le_refl _) _
  go_enter Tryz.func24, Tryz.ntmps24
  go_wp2_with fail
  exact bodyPost_ret (v := .agg #[.int .i64 kind, .int .i64 n, .int .i64 0, .slice none 0 0, .int .i64 0, .int .i64 0, .int .u8 0]) (by simp [results, Tryz.results24, go_sem]) rfl ⟨rfl, b0⟩
set_option maxRecDepth 100000 in
theorem submit7_any (t : Int) (ba : Option Addr) (bn bc : Nat) (w : World) :
    Calls Tryz.prog 23 #[.int .i64 t, .slice ba bn bc] w fun e w' => e = .returned (.agg #[.int .i64 1, .int .i64 0, .int .i64 t, .slice ba bn bc, .int .i64 0, .int .i64 0, .int .u8 0]) ∧ Below w.heap.size w w' := by
  have b0 : Below w.heap.size w (w.alloc (.cells #[.int .i64 1, .int .i64 0, .int .i64 t, .slice ba bn bc, .int .i64 0, .int .i64 0, .int .u8 0] 37)) := (Below.refl _ _).alloc (Nat.le_refl _) _
  go_enter Tryz.func23, Tryz.ntmps23
  go_wp2_with fail
  exact bodyPost_ret (v := .agg #[.int .i64 1, .int .i64 0, .int .i64 t, .slice ba bn bc, .int .i64 0, .int .i64 0, .int .u8 0]) (by simp [results, Tryz.results23, go_sem]) rfl ⟨rfl, b0⟩
/-- The four things that are done, in memory. -/
def aliveCells (ba : Option Addr) (bc : Nat) : Array Value := #[.int .i64 1, .int .i64 0, .int .i64 12, .slice ba 1 bc, .int .i64 0, .int .i64 0, .int .u8 0, .int .i64 2, .int .i64 1, .int .i64 0, .slice none 0 0, .int .i64 0, .int .i64 0, .int .u8 0, .int .i64 3, .int .i64 1, .int .i64 0, .slice none 0 0, .int .i64 0, .int .i64 0, .int .u8 0, .int .i64 4, .int .i64 1, .int .i64 0, .slice none 0 0, .int .i64 0, .int .i64 0, .int .u8 0]
theorem alive_dos (w : World) (t : TypeId) (ba : Option Addr) (bc : Nat) (hb : Some' w (.slice ba 1 bc) [7]) : DosAt (w.alloc (.cells (aliveCells ba bc) t)) (.slice (some ⟨w.heap.size, 0, none⟩) 4 4) aliveD := by
  have hbl : Below w.heap.size w (w.alloc (.cells (aliveCells ba bc) t)) := (Below.refl _ _).alloc (Nat.le_refl _) _
  have hnil : Some' (w.alloc (.cells (aliveCells ba bc) t)) (.slice none 0 0) [] := ⟨bytesAt_nil _, nil_bytes, Nat.zero_le _⟩
  have hc : ∀ j, j < 28 → (w.alloc (.cells (aliveCells ba bc) t)).cell? ⟨w.heap.size, j, none⟩ = (aliveCells ba bc)[j]? := fun j hj => cell_of_row _ _ j _ t _ (box_new w _ t)
  refine ⟨_, 4, rfl, Nat.le_refl _, by unfold maxLen; omega, (fun e => by cases e), .inr ⟨w.heap.size, 0, rfl, by simp, fun j hj => ?_⟩⟩
  have hj4 : j < 4 := hj
  match j, hj4 with
  | 0, _ => exact ⟨hc 0 (by omega), hc 1 (by omega), hc 2 (by omega), ⟨ba, bc, hc 3 (by omega), hb.below hbl⟩, hc 4 (by omega), hc 5 (by omega), hc 6 (by omega), by decide⟩
  | 1, _ => exact ⟨hc 7 (by omega), hc 8 (by omega), hc 9 (by omega), ⟨none, 0, hc 10 (by omega), hnil⟩, hc 11 (by omega), hc 12 (by omega), hc 13 (by omega), by decide⟩
  | 2, _ => exact ⟨hc 14 (by omega), hc 15 (by omega), hc 16 (by omega), ⟨none, 0, hc 17 (by omega), hnil⟩, hc 18 (by omega), hc 19 (by omega), hc 20 (by omega), by decide⟩
  | 3, _ => exact ⟨hc 21 (by omega), hc 22 (by omega), hc 23 (by omega), ⟨none, 0, hc 24 (by omega), hnil⟩, hc 25 (by omega), hc 26 (by omega), hc 27 (by omega), by decide⟩
theorem alive_wins (w : World) (t : TypeId) : WinsAt (w.alloc (.cells #[.int .i64 0, .int .i64 10, .int .i64 10, .int .i64 20] t)) (.slice (some ⟨w.heap.size, 0, none⟩) 2 2) aliveW := by
  refine ⟨_, 2, rfl, Nat.le_refl _, by unfold maxLen; omega, (fun e => by cases e), .inr ⟨w.heap.size, 0, rfl, by simp, fun j hj => ?_⟩⟩
  have hj2 : j < 2 := hj
  match j, hj2 with
  | 0, _ => exact ⟨new_cell w t _ 0 (by simp), new_cell w t _ 1 (by simp)⟩
  | 1, _ => exact ⟨new_cell w t _ 2 (by simp), new_cell w t _ 3 (by simp)⟩
theorem alive_seven (w : World) (t : TypeId) : Some' (w.alloc (.cells #[.int .u8 7] t)) (.slice (some ⟨w.heap.size, 0, none⟩) 1 1) [7] :=
  ⟨const_bytes w t [7] 1 rfl (0, 0), bytes_cons (by decide) (by decide) nil_bytes, by show 1 ≤ maxLen; unfold maxLen; omega⟩
set_option maxRecDepth 100000 in
set_option maxHeartbeats 4000000 in
theorem alive7_any (hPl : PlayC) (hSh : ShowC) (hCh : CheckC) (hHe : BookHeadC) (w : World) (hR : Ready w) :
    Calls Tryz.prog 9 #[] w fun e w' => e = .returned (.bool true) ∧ Below w.heap.size w w' := by
  have b0 : Below w.heap.size w ((w.alloc (.cells #[.int .i64 0, .int .i64 10, .int .i64 10, .int .i64 20] 64)).alloc (.cells #[.int .u8 7] 5)) := ((Below.refl _ _).alloc (Nat.le_refl _) _).alloc (by simp) _
  have hW0 := (alive_wins w 64).below ((Below.refl _ _).alloc (Nat.le_refl _) (.cells #[.int .u8 7] 5))
  have hS0 := alive_seven (w.alloc (.cells #[.int .i64 0, .int .i64 10, .int .i64 10, .int .i64 20] 64)) 5
  rw [World.size_alloc] at hS0
  go_enter Tryz.func9, Tryz.ntmps9
  go_wp2_with fail
  generalize (w.alloc (.cells #[.int .i64 0, .int .i64 10, .int .i64 10, .int .i64 20] 64)).alloc (.cells #[.int .u8 7] 5) = w0 at *
  refine (submit7_any 12 _ 1 1 w0).mono ?_
  rintro e w1 ⟨rfl, hb1⟩
  have b1 := b0.trans (hb1.mono b0.size)
  go_wp2_with fail
  refine (do7_any 2 1 w1).mono ?_
  rintro e w2 ⟨rfl, hb2⟩
  have c2 := hb1.trans (hb2.mono hb1.size)
  go_wp2_with fail
  refine (do7_any 3 1 w2).mono ?_
  rintro e w3 ⟨rfl, hb3⟩
  have c3 := c2.trans (hb3.mono c2.size)
  go_wp2_with fail
  refine (do7_any 4 1 w3).mono ?_
  rintro e w4 ⟨rfl, hb4⟩
  have c4 := c3.trans (hb4.mono c3.size)
  have hD5 := alive_dos w4 37 _ 1 (hS0.below c4)
  have d5 : Below w4.heap.size w4 (w4.alloc (.cells (aliveCells (some ⟨w.heap.size + 1, 0, none⟩) 1) 37)) := (Below.refl _ _).alloc (Nat.le_refl _) _
  have c5 := c4.trans (d5.mono c4.size)
  have b5 := b0.trans (c5.mono b0.size)
  have hW5 := hW0.below c5
  have cP := hPl aliveW aliveD _ _ _ (hR.below b5) hW5 hD5
  rw [aliveD_right, alive_play] at cP
  dsimp only [faultV] at cP
  clear hW0 hS0 b0 b1 hb1 hb2 hb3 hb4 c2 c3 c4 d5 c5 hW5 hD5 hPl
  unfold aliveCells at cP b5
  go_wp2_with fail
  generalize w4.alloc _ = w5 at *
  refine cP.mono ?_
  rintro e w6 ⟨fv, av, rfl, hF, hA, hb6⟩
  have b6 := b5.trans (hb6.mono b5.size)
  obtain ⟨sa, sc, ka, kc, rfl, hSh6, hBk6⟩ := hF
  obtain ⟨aa, ac, rfl, ha1, ha2, ha3, hAc⟩ := hA
  obtain ⟨ab, ao, rfl, hab, hcs⟩ := hAc.resolve_left (by decide)
  obtain ⟨a3, -, -, -, -⟩ := hcs 3 (by decide)
  have d7 : Below w6.heap.size w6 ((w6.alloc (.cells #[.slice sa aliveF.shards.length sc, .slice ka aliveF.book.length kc] 28)).alloc (.cells #[.int .i64 0, .int .i64 0] 32)) := ((Below.refl _ _).alloc (Nat.le_refl _) _).alloc (by simp) _
  have b7 := b6.trans (d7.mono b6.size)
  have x7 := box_one w6 #[.slice sa aliveF.shards.length sc, .slice ka aliveF.book.length kc] 28 (.cells #[.int .i64 0, .int .i64 0] 32)
  obtain ⟨f0, f1, -, -⟩ := box_two (box_last w6 (.cells #[.slice sa aliveF.shards.length sc, .slice ka aliveF.book.length kc] 28) #[.int .i64 0, .int .i64 0] 32)
  have a7 := (d7.cell (p := ⟨ab, ao + 3 * 5, none⟩) hab).trans a3
  have hF7 : FltV ((w6.alloc (.cells #[.slice sa aliveF.shards.length sc, .slice ka aliveF.book.length kc] 28)).alloc (.cells #[.int .i64 0, .int .i64 0] 32)) (.agg #[.slice sa aliveF.shards.length sc, .slice ka aliveF.book.length kc]) aliveF := FltV.below (w := w6) (f := aliveF) ⟨sa, sc, ka, kc, rfl, hSh6, hBk6⟩ d7
  have hB7 := hBk6.below d7
  have cS := hSh aliveW aliveF 1 0 _ _ (by rw [aliveW_right]) aliveF_ok (hR.below b7) hF7
  obtain ⟨g0, g1, -, -⟩ := box_two x7
  obtain ⟨e1, e2, e3⟩ := alive_shown
  rw [e1] at cS
  clear cP hSh6 hBk6 hAc hcs a3 hF7
  replace a7 : _ = some (Value.int .i64 0) := a7
  go_wp2_with fail
  generalize (w6.alloc (.cells #[.slice sa aliveF.shards.length sc, .slice ka aliveF.book.length kc] 28)).alloc (.cells #[.int .i64 0, .int .i64 0] 32) = w7 at *
  generalize showL aliveF 1 0 = Z at *
  obtain ⟨S, ze⟩ := Z
  dsimp only at cS e1 e2 e3
  refine cS.mono ?_
  rintro e w8 ⟨sv, rfl, hV, hb8⟩
  have b8 := b7.trans (hb8.mono b7.size)
  obtain ⟨ea, ec, pa, pc, ra, rc, ba, bc, ha, hc, rfl, hv1, hv2, hv3, hv4, hv5⟩ := hV.form
  have hE1 : S.entry.length = 1 := by rw [e2]; rfl
  rw [hE1] at hv1 hV ⊢
  have d9 : Below w8.heap.size w8 (w8.alloc (.cells #[.slice ea 1 ec, .int .i64 S.place, .int .i64 S.shard, .slice pa S.path.length pc, .int .i64 S.rcd.shard, .int .i64 S.rcd.from', .int .i64 S.rcd.to', .int .i64 S.rcd.size, .slice ra S.rcd.root.length rc, .int .i64 S.row, .slice ba S.bookPath.length bc, .int .i64 S.hsize, .slice ha S.hroot.length hc] 53)) := (Below.refl _ _).alloc (Nat.le_refl _) _
  have b9 := b8.trans (d9.mono b8.size)
  have y9 := box_new w8 #[.slice ea 1 ec, .int .i64 S.place, .int .i64 S.shard, .slice pa S.path.length pc, .int .i64 S.rcd.shard, .int .i64 S.rcd.from', .int .i64 S.rcd.to', .int .i64 S.rcd.size, .slice ra S.rcd.root.length rc, .int .i64 S.row, .slice ba S.bookPath.length bc, .int .i64 S.hsize, .slice ha S.hroot.length hc] 53
  have x9 := box_kept (box_kept x7 hb8) d9
  have hV9 := hV.below d9
  have hv9 := hv1.below d9
  have cH := hHe aliveF.book _ _ (hR.below b9) ((hB7.below hb8).below d9)
  have hbk : wrongRecs aliveF.book = (0, 0) := book_right (by rw [aliveW_right]) aliveF_ok
  have hbs : bookSize aliveF.book = 1 := by unfold bookSize; rw [hbk, if_neg (fun h => h rfl)]; rfl
  have hbr : bookRoot aliveF.book = mth (rowsOf aliveF.book) := by unfold bookRoot; rw [hbk, if_neg (fun h => h rfl)]
  have hml := mth_length (rowsOf aliveF.book)
  rw [hbk, hbs, hbr, hml] at cH
  dsimp only [faultV] at cH
  obtain ⟨q0, q1, -, -⟩ := box_two x9
  clear cS hv1 hv2 hv3 hv4 hv5 hV x7 g0 g1 f0 f1 a7 hb8 d9 hB7 hbk hbs hbr
  go_wp2_with fail
  generalize w8.alloc (.cells #[.slice ea 1 ec, .int .i64 S.place, .int .i64 S.shard, .slice pa S.path.length pc, .int .i64 S.rcd.shard, .int .i64 S.rcd.from', .int .i64 S.rcd.to', .int .i64 S.rcd.size, .slice ra S.rcd.root.length rc, .int .i64 S.row, .slice ba S.bookPath.length bc, .int .i64 S.hsize, .slice ha S.hroot.length hc] 53) = w9 at *
  refine cH.mono ?_
  rintro e w10 ⟨ta, tc, rfl, ht, hb10⟩
  have d11 : Below w10.heap.size w10 ((w10.alloc (.cells #[.int .i64 1, .slice ta 32 tc] 39)).alloc (.cells #[.int .i64 0, .int .i64 0] 32)) := ((Below.refl _ _).alloc (Nat.le_refl _) _).alloc (by simp) _
  have c11 := hb10.trans (d11.mono hb10.size)
  have b11 := b9.trans (c11.mono b9.size)
  have y11 := box_kept y9 c11
  obtain ⟨h0, h1, -, -⟩ := box_two (box_one w10 #[.int .i64 1, .slice ta 32 tc] 39 (.cells #[.int .i64 0, .int .i64 0] 32))
  have cC := hCh S 1 (mth (rowsOf aliveF.book)) _ _ _ (hR.below b11) (hV9.below c11) (ht.below d11)
  rw [e3] at cC
  have hv11 := (hv9.below c11).at'
  rw [e2] at hv11
  obtain ⟨gg, go, rfl, hcell⟩ : ∃ gg go, ea = some ⟨gg, go, none⟩ ∧ ((w10.alloc (.cells #[.int .i64 1, .slice ta 32 tc] 39)).alloc (.cells #[.int .i64 0, .int .i64 0] 32)).cell? ⟨gg, go, none⟩ = some (.int .u8 7) := by
    rcases hv11 with ⟨e, -⟩ | ⟨b, off, cp, e, -, h⟩
    · cases e
    · cases e; exact ⟨b, off, rfl, h 0 (by decide)⟩
  obtain ⟨k0, k1, k2, k3, k4, k5, k6, k7, k8, k9, k10, k11, k12⟩ := box_13 y11
  subst e1
  clear cH hV9 hv9 hv11 x9 y9 q0 q1 ht hE1 e2 e3
  go_wp2_with fail
  generalize (w10.alloc (.cells #[.int .i64 1, .slice ta 32 tc] 39)).alloc (.cells #[.int .i64 0, .int .i64 0] 32) = w11 at *
  refine cC.mono ?_
  rintro e w12 ⟨rfl, hb12⟩
  go_wp2_with fail
  go_ret
  exact ⟨rfl, b11.trans (hb12.mono b11.size)⟩

end Go.Proofs.YtkjlchfmplcobafGreatDoor

/- Five cells written; old memory kept. Nothing of the program's functions is in it. -/
namespace Go.Proofs.YtkjlchfmplcobafGreatDoor
open Go.RowKit

/-- Five cells written. -/
theorem five_set {w : World} {R : Nat} {a b c d e : Value} {t : TypeId} (h : w.heap[R]? = some (.cells #[a, b, c, d, e] t (0, 0))) (u0 u1 u2 u3 u4 : Value) : (((((w.setCell ⟨R, 0, none⟩ u0).setCell ⟨R, 1, none⟩ u1).setCell ⟨R, 2, none⟩ u2).setCell ⟨R, 3, none⟩ u3).setCell ⟨R, 4, none⟩ u4).heap[R]? = some (.cells #[u0, u1, u2, u3, u4] t (0, 0)) := by
  have h0 := heap_setCell_same w R 0 _ t u0 h
  have h1 := heap_setCell_same _ R 1 _ t u1 h0
  have h2 := heap_setCell_same _ R 2 _ t u2 h1
  have h3 := heap_setCell_same _ R 3 _ t u3 h2
  exact heap_setCell_same _ R 4 _ t u4 h3
theorem five_below {B R : Nat} {w0 w : World} (h : Below B w0 w) (hR : B ≤ R) (u0 u1 u2 u3 u4 : Value) : Below B w0 (((((w.setCell ⟨R, 0, none⟩ u0).setCell ⟨R, 1, none⟩ u1).setCell ⟨R, 2, none⟩ u2).setCell ⟨R, 3, none⟩ u3).setCell ⟨R, 4, none⟩ u4) := ((((h.setCell hR _).setCell hR _).setCell hR _).setCell hR _).setCell hR _
theorem five_own {w : World} {base R n : Nat} {e : TypeId} {v : Value} {xs : List Value} (h : w.ownsRow base e 1 v n xs) (hR : R < base) (u0 u1 u2 u3 u4 : Value) : (((((w.setCell ⟨R, 0, none⟩ u0).setCell ⟨R, 1, none⟩ u1).setCell ⟨R, 2, none⟩ u2).setCell ⟨R, 3, none⟩ u3).setCell ⟨R, 4, none⟩ u4).ownsRow base e 1 v n xs :=
  ownsRow_setCell_below (ownsRow_setCell_below (ownsRow_setCell_below (ownsRow_setCell_below (ownsRow_setCell_below h hR _) hR _) hR _) hR _) hR _
/-- Two cells written. -/
theorem two_set {w : World} {R : Nat} {a b : Value} {t : TypeId} (h : w.heap[R]? = some (.cells #[a, b] t (0, 0))) (u0 u1 : Value) : ((w.setCell ⟨R, 0, none⟩ u0).setCell ⟨R, 1, none⟩ u1).heap[R]? = some (.cells #[u0, u1] t (0, 0)) := by
  have h0 := heap_setCell_same w R 0 _ t u0 h
  exact heap_setCell_same _ R 1 _ t u1 h0
theorem two_below {B R : Nat} {w0 w : World} (h : Below B w0 w) (hR : B ≤ R) (u0 u1 : Value) : Below B w0 ((w.setCell ⟨R, 0, none⟩ u0).setCell ⟨R, 1, none⟩ u1) := (h.setCell hR _).setCell hR _
theorem two_own {w : World} {base R n : Nat} {e : TypeId} {v : Value} {xs : List Value} (h : w.ownsRow base e 1 v n xs) (hR : R < base) (u0 u1 : Value) : ((w.setCell ⟨R, 0, none⟩ u0).setCell ⟨R, 1, none⟩ u1).ownsRow base e 1 v n xs := ownsRow_setCell_below (ownsRow_setCell_below h hR _) hR _
theorem two_far {w : World} {R k : Nat} {x : Obj} (h : w.heap[k]? = some x) (hk : k ≠ R) (u0 u1 : Value) : ((w.setCell ⟨R, 0, none⟩ u0).setCell ⟨R, 1, none⟩ u1).heap[k]? = some x := box_set_far (box_set_far h hk) hk
end Go.Proofs.YtkjlchfmplcobafGreatDoor

/- The walks of yearref5.SameAnswer, SameBook and SameFleet at what is the same. -/
namespace Go.Proofs.YtkjlchfmplcobafGreatDoor
open Go.RowKit

/-- An answer as the walks meet it. -/
def AnsV (w : World) (v : Value) (x : Ans) : Prop := ∃ ra rc, v = .agg #[.int .i64 x.err, .int .i64 x.shard, .int .i64 x.place, .int .i64 x.size, .slice ra x.root.length rc] ∧ Some' w (.slice ra x.root.length rc) x.root
theorem AnsV.below {w w' : World} {v : Value} {x : Ans} (h : AnsV w v x) (hb : Below w.heap.size w w') : AnsV w' v x := by
  obtain ⟨ra, rc, h1, h2⟩ := h
  exact ⟨ra, rc, h1, h2.below hb⟩
end Go.Proofs.YtkjlchfmplcobafGreatDoor

/- The walk of the law FleetPast, over the faces of package fleet. -/
namespace Go.Proofs.YtkjlchfmplcobafGreatDoor
open Go.RowKit

theorem play_ok {ws : List Win} {l : List Dd} (h : (playF ws l).1 = 0) : playL ws l = runL (startL ws) l ∧ (wrongWins ws).1 = 0 ∧ l.length ≤ 120 := by
  refine ⟨by unfold playL; rw [if_neg (fun g => g h)], ?_, ?_⟩
  · unfold playF at h
    by_cases hw : (wrongWins ws).1 ≠ 0
    · rw [if_pos hw] at h; exact absurd h hw
    · simpa using hw
  · unfold playF at h
    by_cases hw : (wrongWins ws).1 ≠ 0
    · rw [if_pos hw] at h; exact absurd h hw
    · rw [if_neg hw] at h
      by_cases hl : 120 < l.length
      · rw [if_pos hl] at h; exact absurd h (by decide)
      · omega
end Go.Proofs.YtkjlchfmplcobafGreatDoor

/- The walk of the law FleetEarly, over the faces of package fleet. -/
namespace Go.Proofs.YtkjlchfmplcobafGreatDoor
open Go.RowKit

theorem ShdsAt.get {w : World} {a : Option Addr} {n c : Nat} {l : List Shd} (h : ShdsAt w (.slice a n c) l) (hn : l.length = n) {j : Nat} (hj : j < n) : ∃ b o, a = some ⟨b, o, none⟩ ∧ b < w.heap.size ∧ ShdCells w b (o + j * 7) (l.getD j shd0) := by
  obtain ⟨a', c', e, -, -, -, h5⟩ := h
  rw [hn] at e h5
  cases e
  obtain ⟨b, off, h6, h7, h8⟩ := h5.resolve_left (by omega)
  exact ⟨b, off, h6, h7, h8 j hj⟩
end Go.Proofs.YtkjlchfmplcobafGreatDoor

/- Thirteen cells written. Nothing of the program's functions is in it. -/
namespace Go.Proofs.YtkjlchfmplcobafGreatDoor
open Go.RowKit

theorem free_13 {w : World} {k : Nat} {v0 v1 v2 v3 v4 v5 v6 v7 v8 v9 v10 v11 v12 : Value} {t : TypeId} (h : w.heap[k]? = some (.cells #[v0, v1, v2, v3, v4, v5, v6, v7, v8, v9, v10, v11, v12] t (0, 0))) :
    w.frozen? ⟨k, 0, none⟩ = false ∧ w.frozen? ⟨k, 1, none⟩ = false ∧ w.frozen? ⟨k, 2, none⟩ = false ∧ w.frozen? ⟨k, 3, none⟩ = false ∧ w.frozen? ⟨k, 4, none⟩ = false ∧ w.frozen? ⟨k, 5, none⟩ = false ∧ w.frozen? ⟨k, 6, none⟩ = false ∧ w.frozen? ⟨k, 7, none⟩ = false ∧ w.frozen? ⟨k, 8, none⟩ = false ∧ w.frozen? ⟨k, 9, none⟩ = false ∧ w.frozen? ⟨k, 10, none⟩ = false ∧ w.frozen? ⟨k, 11, none⟩ = false ∧ w.frozen? ⟨k, 12, none⟩ = false :=
  ⟨frozen_of_row w k 0 _ t h, frozen_of_row w k 1 _ t h, frozen_of_row w k 2 _ t h, frozen_of_row w k 3 _ t h, frozen_of_row w k 4 _ t h, frozen_of_row w k 5 _ t h, frozen_of_row w k 6 _ t h, frozen_of_row w k 7 _ t h, frozen_of_row w k 8 _ t h, frozen_of_row w k 9 _ t h, frozen_of_row w k 10 _ t h, frozen_of_row w k 11 _ t h, frozen_of_row w k 12 _ t h⟩
theorem thirteen_set {w : World} {R : Nat} {v0 v1 v2 v3 v4 v5 v6 v7 v8 v9 v10 v11 v12 : Value} {t : TypeId} (h : w.heap[R]? = some (.cells #[v0, v1, v2, v3, v4, v5, v6, v7, v8, v9, v10, v11, v12] t (0, 0))) (u0 u1 u2 u3 u4 u5 u6 u7 u8 u9 u10 u11 u12 : Value) : (((((((((((((w.setCell ⟨R, 0, none⟩ u0).setCell ⟨R, 1, none⟩ u1).setCell ⟨R, 2, none⟩ u2).setCell ⟨R, 3, none⟩ u3).setCell ⟨R, 4, none⟩ u4).setCell ⟨R, 5, none⟩ u5).setCell ⟨R, 6, none⟩ u6).setCell ⟨R, 7, none⟩ u7).setCell ⟨R, 8, none⟩ u8).setCell ⟨R, 9, none⟩ u9).setCell ⟨R, 10, none⟩ u10).setCell ⟨R, 11, none⟩ u11).setCell ⟨R, 12, none⟩ u12).heap[R]? = some (.cells #[u0, u1, u2, u3, u4, u5, u6, u7, u8, u9, u10, u11, u12] t (0, 0)) := by
  have h0 : (w.setCell ⟨R, 0, none⟩ u0).heap[R]? = some (.cells #[u0, v1, v2, v3, v4, v5, v6, v7, v8, v9, v10, v11, v12] t (0, 0)) := heap_setCell_same w R 0 _ t u0 h
  generalize w.setCell ⟨R, 0, none⟩ u0 = w0 at *
  have h1 : (w0.setCell ⟨R, 1, none⟩ u1).heap[R]? = some (.cells #[u0, u1, v2, v3, v4, v5, v6, v7, v8, v9, v10, v11, v12] t (0, 0)) := heap_setCell_same w0 R 1 _ t u1 h0
  generalize w0.setCell ⟨R, 1, none⟩ u1 = w1 at *
  have h2 : (w1.setCell ⟨R, 2, none⟩ u2).heap[R]? = some (.cells #[u0, u1, u2, v3, v4, v5, v6, v7, v8, v9, v10, v11, v12] t (0, 0)) := heap_setCell_same w1 R 2 _ t u2 h1
  generalize w1.setCell ⟨R, 2, none⟩ u2 = w2 at *
  have h3 : (w2.setCell ⟨R, 3, none⟩ u3).heap[R]? = some (.cells #[u0, u1, u2, u3, v4, v5, v6, v7, v8, v9, v10, v11, v12] t (0, 0)) := heap_setCell_same w2 R 3 _ t u3 h2
  generalize w2.setCell ⟨R, 3, none⟩ u3 = w3 at *
  have h4 : (w3.setCell ⟨R, 4, none⟩ u4).heap[R]? = some (.cells #[u0, u1, u2, u3, u4, v5, v6, v7, v8, v9, v10, v11, v12] t (0, 0)) := heap_setCell_same w3 R 4 _ t u4 h3
  generalize w3.setCell ⟨R, 4, none⟩ u4 = w4 at *
  have h5 : (w4.setCell ⟨R, 5, none⟩ u5).heap[R]? = some (.cells #[u0, u1, u2, u3, u4, u5, v6, v7, v8, v9, v10, v11, v12] t (0, 0)) := heap_setCell_same w4 R 5 _ t u5 h4
  generalize w4.setCell ⟨R, 5, none⟩ u5 = w5 at *
  have h6 : (w5.setCell ⟨R, 6, none⟩ u6).heap[R]? = some (.cells #[u0, u1, u2, u3, u4, u5, u6, v7, v8, v9, v10, v11, v12] t (0, 0)) := heap_setCell_same w5 R 6 _ t u6 h5
  generalize w5.setCell ⟨R, 6, none⟩ u6 = w6 at *
  have h7 : (w6.setCell ⟨R, 7, none⟩ u7).heap[R]? = some (.cells #[u0, u1, u2, u3, u4, u5, u6, u7, v8, v9, v10, v11, v12] t (0, 0)) := heap_setCell_same w6 R 7 _ t u7 h6
  generalize w6.setCell ⟨R, 7, none⟩ u7 = w7 at *
  have h8 : (w7.setCell ⟨R, 8, none⟩ u8).heap[R]? = some (.cells #[u0, u1, u2, u3, u4, u5, u6, u7, u8, v9, v10, v11, v12] t (0, 0)) := heap_setCell_same w7 R 8 _ t u8 h7
  generalize w7.setCell ⟨R, 8, none⟩ u8 = w8 at *
  have h9 : (w8.setCell ⟨R, 9, none⟩ u9).heap[R]? = some (.cells #[u0, u1, u2, u3, u4, u5, u6, u7, u8, u9, v10, v11, v12] t (0, 0)) := heap_setCell_same w8 R 9 _ t u9 h8
  generalize w8.setCell ⟨R, 9, none⟩ u9 = w9 at *
  have h10 : (w9.setCell ⟨R, 10, none⟩ u10).heap[R]? = some (.cells #[u0, u1, u2, u3, u4, u5, u6, u7, u8, u9, u10, v11, v12] t (0, 0)) := heap_setCell_same w9 R 10 _ t u10 h9
  generalize w9.setCell ⟨R, 10, none⟩ u10 = w10 at *
  have h11 : (w10.setCell ⟨R, 11, none⟩ u11).heap[R]? = some (.cells #[u0, u1, u2, u3, u4, u5, u6, u7, u8, u9, u10, u11, v12] t (0, 0)) := heap_setCell_same w10 R 11 _ t u11 h10
  generalize w10.setCell ⟨R, 11, none⟩ u11 = w11 at *
  have h12 : (w11.setCell ⟨R, 12, none⟩ u12).heap[R]? = some (.cells #[u0, u1, u2, u3, u4, u5, u6, u7, u8, u9, u10, u11, u12] t (0, 0)) := heap_setCell_same w11 R 12 _ t u12 h11
  exact h12
theorem thirteen_below {B R : Nat} {wz w : World} (h : Below B wz w) (hR : B ≤ R) (u0 u1 u2 u3 u4 u5 u6 u7 u8 u9 u10 u11 u12 : Value) : Below B wz (((((((((((((w.setCell ⟨R, 0, none⟩ u0).setCell ⟨R, 1, none⟩ u1).setCell ⟨R, 2, none⟩ u2).setCell ⟨R, 3, none⟩ u3).setCell ⟨R, 4, none⟩ u4).setCell ⟨R, 5, none⟩ u5).setCell ⟨R, 6, none⟩ u6).setCell ⟨R, 7, none⟩ u7).setCell ⟨R, 8, none⟩ u8).setCell ⟨R, 9, none⟩ u9).setCell ⟨R, 10, none⟩ u10).setCell ⟨R, 11, none⟩ u11).setCell ⟨R, 12, none⟩ u12) := by
  have h0 : Below B wz (w.setCell ⟨R, 0, none⟩ u0) := h.setCell hR _
  generalize w.setCell ⟨R, 0, none⟩ u0 = w0 at *
  have h1 : Below B wz (w0.setCell ⟨R, 1, none⟩ u1) := h0.setCell hR _
  generalize w0.setCell ⟨R, 1, none⟩ u1 = w1 at *
  have h2 : Below B wz (w1.setCell ⟨R, 2, none⟩ u2) := h1.setCell hR _
  generalize w1.setCell ⟨R, 2, none⟩ u2 = w2 at *
  have h3 : Below B wz (w2.setCell ⟨R, 3, none⟩ u3) := h2.setCell hR _
  generalize w2.setCell ⟨R, 3, none⟩ u3 = w3 at *
  have h4 : Below B wz (w3.setCell ⟨R, 4, none⟩ u4) := h3.setCell hR _
  generalize w3.setCell ⟨R, 4, none⟩ u4 = w4 at *
  have h5 : Below B wz (w4.setCell ⟨R, 5, none⟩ u5) := h4.setCell hR _
  generalize w4.setCell ⟨R, 5, none⟩ u5 = w5 at *
  have h6 : Below B wz (w5.setCell ⟨R, 6, none⟩ u6) := h5.setCell hR _
  generalize w5.setCell ⟨R, 6, none⟩ u6 = w6 at *
  have h7 : Below B wz (w6.setCell ⟨R, 7, none⟩ u7) := h6.setCell hR _
  generalize w6.setCell ⟨R, 7, none⟩ u7 = w7 at *
  have h8 : Below B wz (w7.setCell ⟨R, 8, none⟩ u8) := h7.setCell hR _
  generalize w7.setCell ⟨R, 8, none⟩ u8 = w8 at *
  have h9 : Below B wz (w8.setCell ⟨R, 9, none⟩ u9) := h8.setCell hR _
  generalize w8.setCell ⟨R, 9, none⟩ u9 = w9 at *
  have h10 : Below B wz (w9.setCell ⟨R, 10, none⟩ u10) := h9.setCell hR _
  generalize w9.setCell ⟨R, 10, none⟩ u10 = w10 at *
  have h11 : Below B wz (w10.setCell ⟨R, 11, none⟩ u11) := h10.setCell hR _
  generalize w10.setCell ⟨R, 11, none⟩ u11 = w11 at *
  have h12 : Below B wz (w11.setCell ⟨R, 12, none⟩ u12) := h11.setCell hR _
  exact h12
end Go.Proofs.YtkjlchfmplcobafGreatDoor

/- A variable of numbers is written: fleets and answers are as they were, wherever they lie. -/
namespace Go.Proofs.YtkjlchfmplcobafGreatDoor
open Go.RowKit

/-- The block F holds numbers alone; and all other memory is as it was. -/
structure Off (F : Nat) (w w' : World) : Prop where
  nums : ∀ x v, w.cell? ⟨F, x, none⟩ = some v → ∃ z, v = .int .i64 z
  size : w.heap.size ≤ w'.heap.size
  kept : ∀ b x, b ≠ F → w'.cell? ⟨b, x, none⟩ = w.cell? ⟨b, x, none⟩
theorem off_set {w : World} {F o : Nat} {a b : Int} {t : TypeId} (h : w.heap[F]? = some (.cells #[.int .i64 a, .int .i64 b] t (0, 0))) (u : Value) : Off F w (w.setCell ⟨F, o, none⟩ u) := by
  refine ⟨fun x v hx => ?_, by simp, fun c x hc => ?_⟩
  · rw [cell_of_row w F x _ t _ h] at hx
    match x, hx with
    | 0, hx => exact ⟨a, by simpa using hx.symm⟩
    | 1, hx => exact ⟨b, by simpa using hx.symm⟩
    | x + 2, hx => simp at hx
  · exact World.cell?_setCell_far _ _ _ _ (fun e => hc e.symm)
theorem Off.slice {F : Nat} {w w' : World} (h : Off F w w') {b x : Nat} {a : Option Addr} {n c : Nat} (hc : w.cell? ⟨b, x, none⟩ = some (.slice a n c)) : b ≠ F := fun e => by
  subst e
  obtain ⟨z, hz⟩ := h.nums _ _ hc
  cases hz
theorem BytesAt.off {F : Nat} {w w' : World} (ho : Off F w w') {v : Value} {zs : List Int} (h : BytesAt w v zs) : BytesAt w' v zs := by
  rcases h with h | ⟨b, off, cp, h1, h2, h3⟩
  · exact .inl h
  · by_cases hl : zs.length = 0
    · have : zs = [] := List.eq_nil_of_length_eq_zero hl
      subst this
      exact .inl ⟨rfl, _, _, h1, fun e => by cases e⟩
    · have hbF : b ≠ F := fun e => by
        subst e
        obtain ⟨z, hz⟩ := ho.nums _ _ (h3 0 (by omega))
        cases hz
      exact .inr ⟨b, off, cp, h1, Nat.lt_of_lt_of_le h2 ho.size, fun j hj => by rw [ho.kept _ _ hbF]; exact h3 j hj⟩
theorem Some'.off {F : Nat} {w w' : World} (ho : Off F w w') {v : Value} {b : List Int} (h : Some' w v b) : Some' w' v b := ⟨h.at'.off ho, h.bytes, h.short⟩
theorem PartsAt.off {F : Nat} {w w' : World} (ho : Off F w w') {v : Value} {L : List (List Int)} (h : PartsAt w v L) : PartsAt w' v L := by
  rcases h with h | ⟨b, off, cp, h1, h2, h3⟩
  · exact .inl h
  · refine .inr ⟨b, off, cp, h1, Nat.lt_of_lt_of_le h2 ho.size, fun j hj => ?_⟩
    obtain ⟨a, m, c, hc, hB⟩ := h3 j hj
    exact ⟨a, m, c, by rw [ho.kept _ _ (ho.slice hc)]; exact hc, hB.off ho⟩
theorem Lists.off {F : Nat} {w w' : World} (ho : Off F w w') {a : Option Addr} {n c : Nat} {L : List (List Int)} (h : Lists w a n c L) : Lists w' a n c L := ⟨h.len, h.at'.off ho, h.room, h.cap, h.nil, h.bytes, h.short⟩
theorem RecCells.off {F : Nat} {w w' : World} (ho : Off F w w') {b o : Nat} {r : Rec} (h : RecCells w b o r) : RecCells w' b o r := by
  obtain ⟨h0, h1, h2, h3, ra, rc, h4, h5⟩ := h
  have hb := ho.slice h4
  exact ⟨by rw [ho.kept _ _ hb]; exact h0, by rw [ho.kept _ _ hb]; exact h1, by rw [ho.kept _ _ hb]; exact h2, by rw [ho.kept _ _ hb]; exact h3, ra, rc, by rw [ho.kept _ _ hb]; exact h4, h5.off ho⟩
theorem RecsAt.off {F : Nat} {w w' : World} (ho : Off F w w') {v : Value} {l : List Rec} (h : RecsAt w v l) : RecsAt w' v l := by
  obtain ⟨a, c, h1, h2, h3, h4, h5⟩ := h
  refine ⟨a, c, h1, h2, h3, h4, ?_⟩
  rcases h5 with h5 | ⟨b, off, h6, h7, h8⟩
  · exact .inl h5
  · exact .inr ⟨b, off, h6, Nat.lt_of_lt_of_le h7 ho.size, fun j hj => (h8 j hj).off ho⟩
theorem SegsAt.off {F : Nat} {w w' : World} (ho : Off F w w') {v : Value} {l : List Seg} (h : SegsAt w v l) : SegsAt w' v l := by
  obtain ⟨a, c, h1, h2, h3, h4, h5⟩ := h
  refine ⟨a, c, h1, h2, h3, h4, ?_⟩
  rcases h5 with h5 | ⟨b, off, h6, h7, h8⟩
  · exact .inl h5
  · refine .inr ⟨b, off, h6, Nat.lt_of_lt_of_le h7 ho.size, fun j hj => ?_⟩
    obtain ⟨c0, c1, pa, pc, c2, c3, c4⟩ := h8 j hj
    have hb := ho.slice c2
    exact ⟨by rw [ho.kept _ _ hb]; exact c0, by rw [ho.kept _ _ hb]; exact c1, pa, pc, by rw [ho.kept _ _ hb]; exact c2, c3.off ho, c4⟩
theorem ShdCells.off {F : Nat} {w w' : World} (ho : Off F w w') {b o : Nat} {s : Shd} (h : ShdCells w b o s) : ShdCells w' b o s := by
  obtain ⟨h1, h2, h3, ⟨ea, ec, h4, h4'⟩, h5, ⟨ra, rc, h6, h6'⟩, ⟨ga, gc, h7, h7'⟩⟩ := h
  have hb := ho.slice h4
  exact ⟨by rw [ho.kept _ _ hb]; exact h1, by rw [ho.kept _ _ hb]; exact h2, by rw [ho.kept _ _ hb]; exact h3, ⟨ea, ec, by rw [ho.kept _ _ hb]; exact h4, h4'.off ho⟩, by rw [ho.kept _ _ hb]; exact h5, ⟨ra, rc, by rw [ho.kept _ _ hb]; exact h6, h6'.off ho⟩, ⟨ga, gc, by rw [ho.kept _ _ hb]; exact h7, h7'.off ho⟩⟩
theorem RowAt.off {F : Nat} {w w' : World} (ho : Off F w w') {α : Type} {n : Nat} {P : World → Nat → Nat → α → Prop} {z : α} {v : Value} {l : List α} (h : RowAt n P z w v l) (hP : ∀ b o x, P w b o x → P w' b o x) : RowAt n P z w' v l := by
  obtain ⟨a, c, h1, h2, h3, h4, h5⟩ := h
  refine ⟨a, c, h1, h2, h3, h4, ?_⟩
  rcases h5 with h5 | ⟨b, off, h6, h7, h8⟩
  · exact .inl h5
  · exact .inr ⟨b, off, h6, Nat.lt_of_lt_of_le h7 ho.size, fun j hj => hP _ _ _ (h8 j hj)⟩
theorem FltV.off {F : Nat} {w w' : World} (ho : Off F w w') {v : Value} {f : Flt} (h : FltV w v f) : FltV w' v f := by
  obtain ⟨sa, sc, ba, bc, h1, h2, h3⟩ := h
  exact ⟨sa, sc, ba, bc, h1, RowAt.off ho h2 (fun _ _ _ hx => hx.off ho), h3.off ho⟩
theorem AnsCells.off {F : Nat} {w w' : World} (ho : Off F w w') {b o : Nat} {x : Ans} (h : AnsCells w b o x) : AnsCells w' b o x := by
  obtain ⟨h0, h1, h2, h3, ra, rc, h4, h5⟩ := h
  have hb := ho.slice h4
  exact ⟨by rw [ho.kept _ _ hb]; exact h0, by rw [ho.kept _ _ hb]; exact h1, by rw [ho.kept _ _ hb]; exact h2, by rw [ho.kept _ _ hb]; exact h3, ra, rc, by rw [ho.kept _ _ hb]; exact h4, h5.off ho⟩
theorem AnssAt.off {F : Nat} {w w' : World} (ho : Off F w w') {v : Value} {l : List Ans} (h : AnssAt w v l) : AnssAt w' v l := RowAt.off ho h (fun _ _ _ hx => hx.off ho)

end Go.Proofs.YtkjlchfmplcobafGreatDoor

/- A variable that holds nothing yet is written: what was shown is as it was, wherever it lies. -/
namespace Go.Proofs.YtkjlchfmplcobafGreatDoor
open Go.RowKit

structure OffZ (R : Nat) (w w' : World) : Prop where
  noughts : ∀ x v, w.cell? ⟨R, x, none⟩ = some v → (∃ z, v = .int .i64 z) ∨ v = .slice none 0 0
  size : w.heap.size ≤ w'.heap.size
  kept : ∀ b x, b ≠ R → w'.cell? ⟨b, x, none⟩ = w.cell? ⟨b, x, none⟩
theorem BytesAt.offZ {R : Nat} {w w' : World} (ho : OffZ R w w') {v : Value} {zs : List Int} (h : BytesAt w v zs) : BytesAt w' v zs := by
  rcases h with h | ⟨b, off, cp, h1, h2, h3⟩
  · exact .inl h
  · by_cases hl : zs.length = 0
    · have : zs = [] := List.eq_nil_of_length_eq_zero hl
      subst this
      exact .inl ⟨rfl, _, _, h1, fun e => by cases e⟩
    · have hbR : b ≠ R := fun e => by
        subst e
        rcases ho.noughts _ _ (h3 0 (by omega)) with ⟨z, hz⟩ | hz <;> cases hz
      exact .inr ⟨b, off, cp, h1, Nat.lt_of_lt_of_le h2 ho.size, fun j hj => by rw [ho.kept _ _ hbR]; exact h3 j hj⟩
theorem Some'.offZ {R : Nat} {w w' : World} (ho : OffZ R w w') {v : Value} {b : List Int} (h : Some' w v b) : Some' w' v b := ⟨h.at'.offZ ho, h.bytes, h.short⟩
theorem PartsAt.offZ {R : Nat} {w w' : World} (ho : OffZ R w w') {v : Value} {L : List (List Int)} (h : PartsAt w v L) (hd : Digs L) : PartsAt w' v L := by
  rcases h with h | ⟨b, off, cp, h1, h2, h3⟩
  · exact .inl h
  · refine .inr ⟨b, off, cp, h1, Nat.lt_of_lt_of_le h2 ho.size, fun j hj => ?_⟩
    obtain ⟨a, m, c, hc, hB⟩ := h3 j hj
    have hbR : b ≠ R := fun e => by
      subst e
      rcases ho.noughts _ _ hc with ⟨z, hz⟩ | hz
      · cases hz
      · cases hz
        obtain ⟨a', c', e'⟩ := hB.form
        have h32 : (L.getD j []).length = 32 := by rw [List.getD_eq_getElem?_getD, List.getElem?_eq_getElem hj]; exact hd _ (List.getElem_mem hj)
        rw [h32] at e'
        cases e'
    exact ⟨a, m, c, by rw [ho.kept _ _ hbR]; exact hc, hB.offZ ho⟩
theorem ShwV.offZ {R : Nat} {w w' : World} (ho : OffZ R w w') {v : Value} {s : Shw} (h : ShwV w v s) (h1 : Digs s.path) (h2 : Digs s.bookPath) : ShwV w' v s := by
  obtain ⟨ea, ec, pa, pc, ra, rc, ba, bc, ha, hc, g1, g2, g3, g4, g5, g6⟩ := h.form
  exact ⟨ea, ec, pa, pc, ra, rc, ba, bc, ha, hc, g1, g2.offZ ho, ⟨g3.len, g3.at'.offZ ho h1, g3.room, g3.cap, g3.nil, g3.bytes, g3.short⟩, g4.offZ ho, ⟨g5.len, g5.at'.offZ ho h2, g5.room, g5.cap, g5.nil, g5.bytes, g5.short⟩, g6.offZ ho⟩
theorem show_digs (f : Flt) (k i : Int) : Digs (showL f k i).1.path ∧ Digs (showL f k i).1.bookPath := by
  have h0 : Digs shw0.path ∧ Digs shw0.bookPath := ⟨fun _ h => absurd h (by simp [shw0]), fun _ h => absurd h (by simp [shw0])⟩
  unfold showL
  split
  · exact h0
  split
  · exact h0
  split
  · exact h0
  split
  · exact h0
  split
  · exact h0
  · exact ⟨path_digs _ _, path_digs _ _⟩
theorem offZ_13 {w : World} {R : Nat} {t : TypeId} (h : w.heap[R]? = some (.cells #[.slice none 0 0, .int .i64 0, .int .i64 0, .slice none 0 0, .int .i64 0, .int .i64 0, .int .i64 0, .int .i64 0, .slice none 0 0, .int .i64 0, .slice none 0 0, .int .i64 0, .slice none 0 0] t (0, 0))) (u0 u1 u2 u3 u4 u5 u6 u7 u8 u9 u10 u11 u12 : Value) : OffZ R w (((((((((((((w.setCell ⟨R, 0, none⟩ u0).setCell ⟨R, 1, none⟩ u1).setCell ⟨R, 2, none⟩ u2).setCell ⟨R, 3, none⟩ u3).setCell ⟨R, 4, none⟩ u4).setCell ⟨R, 5, none⟩ u5).setCell ⟨R, 6, none⟩ u6).setCell ⟨R, 7, none⟩ u7).setCell ⟨R, 8, none⟩ u8).setCell ⟨R, 9, none⟩ u9).setCell ⟨R, 10, none⟩ u10).setCell ⟨R, 11, none⟩ u11).setCell ⟨R, 12, none⟩ u12) := by
  refine ⟨fun x v hx => ?_, by simp, fun b x hb => ?_⟩
  · rw [cell_of_row w R x _ t _ h] at hx
    match x, hx with
    | 0, hx => exact .inr (by simpa using hx.symm)
    | 1, hx => exact .inl ⟨0, by simpa using hx.symm⟩
    | 2, hx => exact .inl ⟨0, by simpa using hx.symm⟩
    | 3, hx => exact .inr (by simpa using hx.symm)
    | 4, hx => exact .inl ⟨0, by simpa using hx.symm⟩
    | 5, hx => exact .inl ⟨0, by simpa using hx.symm⟩
    | 6, hx => exact .inl ⟨0, by simpa using hx.symm⟩
    | 7, hx => exact .inl ⟨0, by simpa using hx.symm⟩
    | 8, hx => exact .inr (by simpa using hx.symm)
    | 9, hx => exact .inl ⟨0, by simpa using hx.symm⟩
    | 10, hx => exact .inr (by simpa using hx.symm)
    | 11, hx => exact .inl ⟨0, by simpa using hx.symm⟩
    | 12, hx => exact .inr (by simpa using hx.symm)
    | x + 13, hx => simp at hx
  · have hn : R ≠ b := fun e => hb e.symm
    have k0 : (w.setCell ⟨R, 0, none⟩ u0).cell? ⟨b, x, none⟩ = w.cell? ⟨b, x, none⟩ := (World.cell?_setCell_far _ _ _ _ hn)
    generalize w.setCell ⟨R, 0, none⟩ u0 = w0 at *
    have k1 : (w0.setCell ⟨R, 1, none⟩ u1).cell? ⟨b, x, none⟩ = w.cell? ⟨b, x, none⟩ := (World.cell?_setCell_far _ _ _ _ hn).trans k0
    generalize w0.setCell ⟨R, 1, none⟩ u1 = w1 at *
    have k2 : (w1.setCell ⟨R, 2, none⟩ u2).cell? ⟨b, x, none⟩ = w.cell? ⟨b, x, none⟩ := (World.cell?_setCell_far _ _ _ _ hn).trans k1
    generalize w1.setCell ⟨R, 2, none⟩ u2 = w2 at *
    have k3 : (w2.setCell ⟨R, 3, none⟩ u3).cell? ⟨b, x, none⟩ = w.cell? ⟨b, x, none⟩ := (World.cell?_setCell_far _ _ _ _ hn).trans k2
    generalize w2.setCell ⟨R, 3, none⟩ u3 = w3 at *
    have k4 : (w3.setCell ⟨R, 4, none⟩ u4).cell? ⟨b, x, none⟩ = w.cell? ⟨b, x, none⟩ := (World.cell?_setCell_far _ _ _ _ hn).trans k3
    generalize w3.setCell ⟨R, 4, none⟩ u4 = w4 at *
    have k5 : (w4.setCell ⟨R, 5, none⟩ u5).cell? ⟨b, x, none⟩ = w.cell? ⟨b, x, none⟩ := (World.cell?_setCell_far _ _ _ _ hn).trans k4
    generalize w4.setCell ⟨R, 5, none⟩ u5 = w5 at *
    have k6 : (w5.setCell ⟨R, 6, none⟩ u6).cell? ⟨b, x, none⟩ = w.cell? ⟨b, x, none⟩ := (World.cell?_setCell_far _ _ _ _ hn).trans k5
    generalize w5.setCell ⟨R, 6, none⟩ u6 = w6 at *
    have k7 : (w6.setCell ⟨R, 7, none⟩ u7).cell? ⟨b, x, none⟩ = w.cell? ⟨b, x, none⟩ := (World.cell?_setCell_far _ _ _ _ hn).trans k6
    generalize w6.setCell ⟨R, 7, none⟩ u7 = w7 at *
    have k8 : (w7.setCell ⟨R, 8, none⟩ u8).cell? ⟨b, x, none⟩ = w.cell? ⟨b, x, none⟩ := (World.cell?_setCell_far _ _ _ _ hn).trans k7
    generalize w7.setCell ⟨R, 8, none⟩ u8 = w8 at *
    have k9 : (w8.setCell ⟨R, 9, none⟩ u9).cell? ⟨b, x, none⟩ = w.cell? ⟨b, x, none⟩ := (World.cell?_setCell_far _ _ _ _ hn).trans k8
    generalize w8.setCell ⟨R, 9, none⟩ u9 = w9 at *
    have k10 : (w9.setCell ⟨R, 10, none⟩ u10).cell? ⟨b, x, none⟩ = w.cell? ⟨b, x, none⟩ := (World.cell?_setCell_far _ _ _ _ hn).trans k9
    generalize w9.setCell ⟨R, 10, none⟩ u10 = w10 at *
    have k11 : (w10.setCell ⟨R, 11, none⟩ u11).cell? ⟨b, x, none⟩ = w.cell? ⟨b, x, none⟩ := (World.cell?_setCell_far _ _ _ _ hn).trans k10
    generalize w10.setCell ⟨R, 11, none⟩ u11 = w11 at *
    have k12 : (w11.setCell ⟨R, 12, none⟩ u12).cell? ⟨b, x, none⟩ = w.cell? ⟨b, x, none⟩ := (World.cell?_setCell_far _ _ _ _ hn).trans k11
    exact k12

end Go.Proofs.YtkjlchfmplcobafGreatDoor

/- The walk of yearref5.Row. -/
namespace Go.Proofs.YtkjlchfmplcobafGreatDoor
open Go.RowKit

theorem bytesAt_news {w : World} {ad : Addr} {n c : Nat} {zs : List Int} (h : BytesAt w (.slice (some ad) n c) zs) : ∀ j u, (zs.map (Value.int .u8))[j]? = some u → w.cell? (ad.add j) = some u := by
  obtain ⟨-, h | ⟨a, e, h⟩⟩ := h.src
  · cases h.1
  · cases e; exact h
end Go.Proofs.YtkjlchfmplcobafGreatDoor

/- The walk of yearref5.Rows. -/
namespace Go.Proofs.YtkjlchfmplcobafGreatDoor
open Go.RowKit

theorem refRows_snoc {l : List Rec} {k : Nat} (hk : k < l.length) : (rowsOf l).take (k + 1) = (rowsOf l).take k ++ [rowL (l.getD k rec0)] := by
  have h := rows_length l
  rw [List.take_succ_eq_append_getElem (by omega)]
  congr 2
  have := rows_get hk
  rwa [List.getD_eq_getElem?_getD, List.getElem?_eq_getElem (by omega)] at this
theorem OwnParts.far {w : World} {base k o : Nat} {v : Value} {L : List (List Int)} {c : Array Value} {t : TypeId} (h : OwnParts w base v L) (hk : w.heap[k]? = some (.cells c t (0, 0))) (h1 : t ≠ 5) (h2 : t ≠ 35) (u : Value) : OwnParts (w.setCell ⟨k, o, none⟩ u) base v L := by
  obtain ⟨vs, hr, he⟩ := h
  refine ⟨vs, ownsRow_setCell_other hr (a := ⟨k, o, none⟩) (own_box hr hk h2) u, fun j hj => ?_⟩
  obtain ⟨y, q1, q2⟩ := he j hj
  exact ⟨y, q1, ownsRow_setCell_other q2 (a := ⟨k, o, none⟩) (own_box q2 hk h1) u⟩
end Go.Proofs.YtkjlchfmplcobafGreatDoor

/- Things that are done, as rows of a call's own. -/
namespace Go.Proofs.YtkjlchfmplcobafGreatDoor
open Go.RowKit

theorem own7_form {w : World} {base : Nat} {e : TypeId} {v : Value} {n : Nat} {xs : List Value} (h : w.ownsRow base e 7 v n xs) : ∃ a c, v = .slice a n c := by
  rcases h.2 with ⟨hv, rfl⟩ | ⟨g, cap, cur, hv, -⟩
  · exact ⟨none, 0, hv⟩
  · exact ⟨_, cap, hv⟩
theorem own7_block {w : World} {base : Nat} {e : TypeId} {v : Value} {n : Nat} {xs : List Value} (h : w.ownsRow base e 7 v n xs) {q : Nat} (hq : v.ownBlock = some q) : base ≤ q := by
  rcases h.2 with ⟨e, -⟩ | ⟨g, cap, cur, e, hg, -⟩
  · rw [e] at hq; cases hq
  · rw [e] at hq; cases hq; exact hg
/-- The values of one thing that is done. -/
def ddV (x : Dd) (pa : Option Addr) (pc : Nat) : List Value := [.int .i64 x.kind, .int .i64 x.n, .int .i64 x.time, .slice pa x.entry.length pc, .int .i64 x.segment, .int .i64 x.at', .int .u8 x.by']
/-- The values of several, whose entries lie in the world w. -/
def DoEls (w : World) (vs : List Value) (l : List Dd) : Prop :=
  vs.length = l.length * 7 ∧ ∀ j, j < l.length → ∃ pa pc, Some' w (.slice pa (l.getD j dd0).entry.length pc) (l.getD j dd0).entry ∧ DdFit (l.getD j dd0) ∧ ∀ i, i < 7 → vs[j * 7 + i]? = (ddV (l.getD j dd0) pa pc)[i]?
theorem DoEls.snoc {w : World} {vs : List Value} {l : List Dd} {x : Dd} {pa : Option Addr} {pc : Nat} (h : DoEls w vs l) (hx : Some' w (.slice pa x.entry.length pc) x.entry) (hb : DdFit x) : DoEls w (vs ++ ddV x pa pc) (l ++ [x]) := by
  obtain ⟨hl, h⟩ := h
  refine ⟨by rw [List.length_append, List.length_append, hl]; show l.length * 7 + 7 = (l.length + 1) * 7; omega, fun j hj => ?_⟩
  by_cases e : j < l.length
  · obtain ⟨qa, qc, h1, h2, h3⟩ := h j e
    have eg : (l ++ [x]).getD j dd0 = l.getD j dd0 := by rw [snoc_get, if_pos e]
    rw [eg]
    refine ⟨qa, qc, h1, h2, fun i hi => ?_⟩
    rw [List.getElem?_append_left (by omega)]
    exact h3 i hi
  · obtain rfl : j = l.length := by simp at hj; omega
    have eg : (l ++ [x]).getD l.length dd0 = x := by rw [snoc_get, if_neg (Nat.lt_irrefl _), if_pos rfl]
    rw [eg]
    refine ⟨pa, pc, hx, hb, fun i hi => ?_⟩
    rw [List.getElem?_append_right (by omega), hl, show l.length * 7 + i - l.length * 7 = i by omega]
end Go.Proofs.YtkjlchfmplcobafGreatDoor

/- The walk of sha.Parts: the digest of bytes that come in parts. -/
namespace Go.Proofs.YtkjlchfmplcobafGreatDoor
open Go.RowKit

theorem flat_take (L : List (List Int)) (k : Nat) (h : k < L.length) : (L.take (k + 1)).flatten = (L.take k).flatten ++ L.getD k [] := by
  rw [List.take_succ_eq_append_getElem h, List.flatten_append, List.getD_eq_getElem?_getD, List.getElem?_eq_getElem h]
  simp
theorem flat_le (L : List (List Int)) (k : Nat) : (L.take k).flatten.length ≤ L.flatten.length := by
  have : L.flatten = (L.take k).flatten ++ (L.drop k).flatten := by rw [← List.flatten_append, List.take_append_drop]
  rw [this, List.length_append]; omega
theorem part_le (L : List (List Int)) (k : Nat) (h : k < L.length) : (L.take k).flatten.length + (L.getD k []).length ≤ L.flatten.length := by
  have := flat_le L (k + 1)
  rw [flat_take L k h, List.length_append] at this
  exact this
set_option maxRecDepth 100000 in
set_option maxHeartbeats 1000000 in
theorem parts_any (L : List (List Int)) (v : Value) (w : World) (hv : PartsAt w v L) (hn : L.length ≤ maxLen) (hm : L.flatten.length ≤ 140737488355328) (hz : ∀ j, Bytes (L.getD j [])) (hK : Tab w) (h0 : 0 < w.heap.size) :
    Calls Tryz.prog 81 #[v] w
      fun e w' => ∃ g, e = .returned (.slice (some ⟨g, 0, none⟩) 32 32) ∧ w'.ownsRow w.heap.size 5 1 (.slice (some ⟨g, 0, none⟩) 32 32) 32 ((shaL L.flatten).map (Value.int .u8)) ∧ Below w.heap.size w w' := by
  have hz0 := (zero_of_info info_run).1
  have hi := (zero_of_info info_run).2
  obtain ⟨a0, c0, rfl, hcell⟩ : ∃ a c, v = .slice a L.length c ∧ (L.length = 0 ∨ ∃ b off, a = some ⟨b, off, none⟩ ∧ b < w.heap.size ∧ ∀ j, j < L.length → ∃ a n c, w.cell? ⟨b, off + j, none⟩ = some (.slice a n c) ∧ BytesAt w (.slice a n c) (L.getD j [])) := by
    rcases hv with ⟨rfl, a, c, rfl⟩ | ⟨b, off, cp, rfl, h2, h3⟩
    · exact ⟨a, c, rfl, .inl rfl⟩
    · exact ⟨_, _, rfl, .inr ⟨b, off, rfl, h2, h3⟩⟩
  clear hv
  unfold maxLen at hn
  go_enter Tryz.func81, Tryz.ntmps81
  go_wp2_with fail
  refine (begin_any _).mono ?_
  rintro e w1 ⟨rfl, hb1⟩
  go_wp2_with (refine wpList_store_mid rfl 104 (.tmp 3) (.tmp 6) rfl w1.heap.size 0 iniRun rfl rfl ?_ ?_ ini_one ?_; (rw [ini_size]; exact there_new _ _ _ 73 zrun_size); (rw [ini_size]; exact hi))
  obtain ⟨hrun, hb2, hK2, hlt⟩ := sum_begun 104 hb1 hK h0
  have hs1 := hb1.size
  generalize ((w1.alloc (.cells zRun 104)).setCells w1.heap.size 0 iniRun.toList) = w2 at *
  go_loopw [9] (fun i wr => ∃ k : Nat, k ≤ L.length ∧ i = .int .i64 k ∧ RunAt wr w1.heap.size (rn0.all (L.take k).flatten) ∧ Below w.heap.size w wr ∧ w1.heap.size < wr.heap.size) (fun i _ => L.length - (intOf i).toNat)
  case atStart => exact ⟨0, Nat.zero_le _, rfl, hrun, hb2, hlt⟩
  case round =>
    obtain ⟨k, hk, rfl, hr, hb, hltr⟩ := hrel
    clear hrun hb2 hK2 hlt
    by_cases hlk : k < L.length
    · rcases hcell with hcell | ⟨b, off, rfl, hbb, hcell⟩
      · omega
      obtain ⟨a, n, c, hca, hB⟩ := hcell k hlk
      have hca' : wr.cell? ⟨b, off + k, none⟩ = some (.slice a n c) := by rw [hb.cell (p := ⟨b, off + k, none⟩) hbb]; exact hca
      have hB' := hB.below (Nat.le_refl _) hb
      have hKr := tab_below hK hb h0
      have hpl := part_le L k hlk
      have HF : Hid ((L.take (k + 1)).flatten = (L.take k).flatten ++ L.getD k []) := flat_take L k hlk
      have hc3 : (rn0.all (L.take k).flatten).c = (L.take k).flatten.length := by rw [Rn.all_c]; show 0 + _ = _; omega
      have hsr := hb.size
      have hcs : (rn0.all (L.take k).flatten).c ≤ 140737488355328 := by rw [hc3]; have := flat_le L k; omega
      clear hc3 hcell hca
      go_wp2_with fail
      refine (add_bytes (rn0.all (L.take k).flatten) (L.getD k []) _ w1.heap.size wr hB' (fun b' off' cp' e hpos => by
        rcases hB with ⟨e1, -⟩ | ⟨b2, o2, c2, e2, hb2, -⟩
        · rw [e1] at hpos; simp at hpos
        · rw [e2] at e
          simp only [Value.slice.injEq, Option.some.injEq, Addr.mk.injEq] at e
          omega) (by unfold maxLen; omega) (hz k) hr hKr hltr (by omega) (by omega) (by omega)).mono ?_
      rintro e w3 ⟨rfl, hr3, hg3⟩
      have hb3 : Below w.heap.size w w3 := hb.grown hg3 hsr (fun q h => by cases h; exact hs1)
      have hr4 : RunAt w3 w1.heap.size (rn0.all (L.take (k + 1)).flatten) := by rw [HF.out, Rn.all_append]; exact hr3
      have hlt4 : w1.heap.size < w3.heap.size := Nat.lt_of_lt_of_le hltr hg3.size
      clear hr3 hg3 hr hKr hB hB' hca'
      go_wp2_with fail
      go_roundw
      case rel => exact ⟨k + 1, by omega, by go_num, hr4, hb3, hlt4⟩
      case measure => simp [intOf]; omega
    · have e : L.take k = L := List.take_of_length_le (by omega)
      rw [e] at hr
      have hK3 := tab_below hK hb h0
      have hc3 : (rn0.all L.flatten).c = L.flatten.length := by rw [Rn.all_c]; show 0 + _ = _; omega
      have hsr := hb.size
      clear e hcell
      go_wp2_with fail
      refine (end_any (rn0.all L.flatten) w1.heap.size wr hr hK3 hltr (by omega) (by omega) (by rw [hc3]; omega)).mono ?_
      rintro e w4 ⟨g, rfl, ho, hg4⟩
      have hb4 : Below w.heap.size w w4 := hb.grown hg4 hsr (fun q h => by cases h; exact hs1)
      have ho4 : w4.ownsRow w.heap.size 5 1 (.slice (some ⟨g, 0, none⟩) 32 32) 32 ((shaL L.flatten).map (Value.int .u8)) := by
        have := ownsRow_base ho hsr
        rw [hc3] at this
        exact this
      clear ho hg4 hr hK3
      go_wp2_with fail
      go_ret
      exact ⟨g, rfl, ho4, hb4⟩

end Go.Proofs.YtkjlchfmplcobafGreatDoor
