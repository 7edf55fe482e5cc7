/- ShaOpenParts, ShaKept, TreeMath, as one text. -/
import Derived.Test.YtcpaecgjihfblaeDoorShaLaid
import Derived.Test.YtcpaecgjihfblaeDoorShaOwn
import Derived.Deep.Matrix
import Derived.WalkKit
import Derived.Deep.AppendLies
import Derived.Test.YtcpaecgjihfblaeDoorShaSum
/- A slice of slices of bytes that came in, opened. -/
namespace Go.Proofs.YtcpaecgjihfblaeDoor
open Go.ChangeShapes Go.WideShapes Go.ChangeAt Go.WideMaps Go.WideElems Go.RowKit

/-- A slice of slices of bytes that came in, opened. -/
theorem open_parts {H : Type} {enc : TypeId × Value → H} {W : World} {base : Nat} {held : Bool} {v : Value} {d : DataW H} {p : List MemPlace}
    (hv : ∃ a len cap, v = .slice a len cap) (h : DataW.Trod enc Tryd.prog W base (fun _ => true) held 29 v d p) :
    ∃ L : List (List Int), PartsAt W v L ∧ L.length ≤ maxLen ∧ (∀ j, (L.getD j []).length ≤ maxLen) ∧ ∀ j, Bytes (L.getD j []) := by
  obtain ⟨a, len, cap, rfl⟩ := hv
  obtain ⟨fuel, hf⟩ := h
  have nilB : Bytes [] := fun j => by simp
  rcases Deep.open_int_rows Tryd.underlying29 Tryd.underlying22 Tryd.underlying5 (by kernel_rfl) (by kernel_rfl) hf with ⟨hcs, _⟩ | ⟨x, l, c, A, Ln, C, Z, hcs, _, hl, hm, _, hr⟩
  · simp [Value.cells] at hcs
    obtain ⟨rfl, rfl, rfl⟩ := hcs
    exact ⟨[], .inl ⟨rfl, none, 0, rfl⟩, Nat.zero_le _, fun j => by simp, fun j => by simpa using nilB⟩
  · simp [Value.cells] at hcs
    obtain ⟨rfl, rfl, rfl⟩ := hcs
    have hget : ∀ j, j < len → ((List.range len).map fun r => (Z r).take (Ln r)).getD j [] = (Z j).take (Ln j) := fun j hj => by
      rw [List.getD_eq_getElem?_getD, List.getElem?_map, List.getElem?_range hj]; rfl
    have hout : ∀ j, ¬ j < len → ((List.range len).map fun r => (Z r).take (Ln r)).getD j [] = [] := fun j hj => by
      rw [List.getD_eq_getElem?_getD, List.getElem?_eq_none (by simpa using hj)]; rfl
    have hby : ∀ j, j < len → Bytes ((Z j).take (Ln j)) := fun j hj q => by
      obtain ⟨-, h1, h2, h3, h4, -⟩ := hr j (by omega)
      by_cases hq : q < Ln j
      · rw [List.getD_eq_getElem?_getD, List.getElem?_take, if_pos hq, List.getElem?_eq_getElem (by omega)]
        have := bounds_u8 (h4 _ (List.getElem_mem (l := Z j) (n := q) (by omega)))
        exact ⟨this.1, by have := this.2; show (Z j)[q] < 256; omega⟩
      · rw [List.getD_eq_getElem?_getD, List.getElem?_take, if_neg hq]
        exact ⟨by decide, by decide⟩
    refine ⟨(List.range len).map fun r => (Z r).take (Ln r), ?_, by simp; omega, fun j => ?_, fun j => ?_⟩
    · by_cases hpos : 0 < len
      · obtain ⟨h0, -⟩ := hr 0 (by omega)
        have hsp : x.spot = none := by simpa [Addr.add] using World.cell?_spot h0
        obtain ⟨b, off, spot⟩ := x
        subst hsp
        refine .inr ⟨b, off, cap, by simp, ?_, fun j hj => ?_⟩
        · exact World.block_lt_of_cell? W ⟨b, off, none⟩ (by simpa [Addr.add] using h0)
        · have hj' : j < len := by simpa using hj
          obtain ⟨h1, h2, h3, h4, h5, h6, h7⟩ := hr j (by omega)
          refine ⟨A j, Ln j, C j, by rw [← Addr.add_mid]; exact h1, ?_⟩
          rw [hget j hj']
          have htl : ((Z j).take (Ln j)).length = Ln j := by rw [List.length_take]; omega
          by_cases hp : 0 < Ln j
          · cases hA : A j with
            | none => have := h6 hA; omega
            | some a' =>
              obtain ⟨-, h8⟩ := h7 a' hA
              obtain ⟨b2, o2, rfl, hc⟩ := ints_at (a := a') (k := .u8) (zs := Z j) (w := W) (fun i hi => h8 i (by omega)) (by omega)
              refine .inr ⟨b2, o2, C j, by rw [htl], World.block_lt_of_cell? _ _ (hc 0 (by omega)), fun q hq => ?_⟩
              rw [hc q (by omega), List.getD_eq_getElem?_getD, List.getD_eq_getElem?_getD, List.getElem?_take, if_pos (by omega)]
          · refine .inl ⟨List.eq_nil_of_length_eq_zero (by omega), A j, C j, by rw [show Ln j = 0 by omega], h6⟩
      · obtain rfl : len = 0 := by omega
        exact .inl ⟨rfl, _, _, rfl⟩
    · by_cases hj : j < len
      · rw [hget j hj, List.length_take]
        obtain ⟨-, h1, h2, -⟩ := hr j (by omega)
        omega
      · rw [hout j hj]; exact Nat.zero_le _
    · by_cases hj : j < len
      · rw [hget j hj]; exact hby j hj
      · rw [hout j hj]; exact nilB

end Go.Proofs.YtcpaecgjihfblaeDoor

/- append onto a slice of the call's own: what it held is still there in the elder row. Nothing of the program is in it. -/
namespace Go.Proofs.YtcpaecgjihfblaeDoor
open Go.RowKit
variable {P : Program} (w : World)

theorem run_append_kept (base : Nat) (t ty e : TypeId) (i : TypeInfo) (z : Value) (bytes : Nat) (ht : P.underlying t = some (.slice e)) (hi : P.info? e = some i) (hz : i.zero = some z)
    (hsize : i.size = 1) (hby : i.bytes = bytes) (hzs : z.cells.size = 1)
    (v : Value) (n : Nat) (xs : List Value) (hown : w.ownsRow base e 1 v n xs)
    (a : Addr) (m c : Nat) (news : List Value) (hl : news.length = m * 1) (hnews : ∀ j u, news[j]? = some u → w.cell? (a.add j) = some u) (h1 : ∀ u ∈ news, u.oneCell' = true)
    (h63 : n + m ≤ maxLen) (hbytes : (n + m) * bytes ≤ 140737488355328) (hbase : base ≤ w.heap.size) :
    ∃ v' w', (Builtin.append_ #[t, t] ty #[v, .slice (some a) m c]).run P w = .ok v' w' ∧ w'.ownsRow base e 1 v' (n + m) (xs ++ news) ∧ w.grownBy w' v.ownBlock ∧
      ∀ g j, v.ownBlock = some g → j < n → w'.cell? ⟨g, j, none⟩ = w.cell? ⟨g, j, none⟩ := by
  obtain ⟨v', w', hr, r1, r2, -⟩ := run_append_own (P := P) w base t ty e i z 1 bytes ht hi hz hsize hby hzs (by decide) v n xs hown a m c news hl hnews h1 h63 hbytes hbase
  refine ⟨v', w', hr, r1, r2, fun g j hg hj => ?_⟩
  have hl' : news.length = m * i.size := by rw [hsize]; exact hl
  rcases hown.2 with ⟨rfl, rfl⟩ | ⟨g', cap, cur, rfl, hbg, hgg, hnc, hcm, hcs, htake⟩
  · cases hg
  · have hgg' : g' = g := by simpa [Value.ownBlock] using hg
    subst hgg'
    by_cases hroom : n + m ≤ cap
    · have hr2 := run_append_room (P := P) w t ty e i ht hi g' n cap cur hgg a m c news hl' hnews h1 hroom (by rw [hsize, Nat.mul_one, hcs, hl]; omega)
      have he := hr.symm.trans hr2
      simp only [Result.ok.injEq] at he
      obtain ⟨-, rfl⟩ := he
      rw [cell_of_row _ g' j _ e (0, 0) (setRow_heap w g' cur _ e _ hgg), cell_of_row w g' j cur e (0, 0) hgg, hsize, Nat.mul_one]
      have hjl : j < cur.toList.length := by rw [Array.length_toList, hcs]; omega
      simp only [List.getElem?_toArray]
      rw [List.append_assoc, List.getElem?_append_left (by rw [List.length_take]; omega), List.getElem?_take, if_pos hj, Array.getElem?_toList]
    · have holds : ∀ j u, xs[j]? = some u → w.cell? ((⟨g', 0, none⟩ : Addr).add j) = some u := hown.cells (g := g') rfl
      have hr2 := run_append_grow (P := P) w t ty e i z ht hi hz ⟨g', 0, none⟩ n cap xs (by rw [hsize]; exact hown.1) holds a m c news hl' hnews (by omega) (by simp only [maxLen] at h63; omega) (growslice_fits (by omega) (by rw [hby]; exact hbytes))
      have he := hr.symm.trans hr2
      simp only [Result.ok.injEq] at he
      obtain ⟨-, rfl⟩ := he
      have hlt : g' < w.heap.size := by
        rcases Nat.lt_or_ge g' w.heap.size with h' | h'
        · exact h'
        · rw [Array.getElem?_eq_none h'] at hgg; cases hgg
      exact World.cell?_alloc_lt w.drew _ ⟨g', j, none⟩ hlt

/-- At a step of a region that draws its order. -/
theorem step_append_kept {ops : Array Oper} {o : Oper} {a : Act} {K : Act → World → Prop} {Q : Exit → Act → World → Prop} {E : Prop} (hgd : o.guard = none) (s x : Operand) (t : TypeId)
    (ho : o.op = .call { callee := .builtin .append, args := #[s, x], argTypes := #[t, t] })
    (base : Nat) (e : TypeId) (i : TypeInfo) (z : Value) (bytes : Nat) (ht : P.underlying t = some (.slice e)) (hi : P.info? e = some i) (hz : i.zero = some z)
    (hsize : i.size = 1) (hby : i.bytes = bytes) (hzs : z.cells.size = 1)
    (v : Value) (n : Nat) (xs : List Value) (hs : a.eval s = v) (hown : w.ownsRow base e 1 v n xs)
    (ad : Addr) (m c : Nat) (news : List Value) (hx : a.eval x = .slice (some ad) m c) (hl : news.length = m * 1) (hnews : ∀ j u, news[j]? = some u → w.cell? (ad.add j) = some u) (h1 : ∀ u ∈ news, u.oneCell' = true)
    (h63 : n + m ≤ maxLen) (hbytes : (n + m) * bytes ≤ 140737488355328) (hbase : base ≤ w.heap.size)
    (h : ∀ v' w', w'.ownsRow base e 1 v' (n + m) (xs ++ news) → w.grownBy w' v.ownBlock → (∀ g j, v.ownBlock = some g → j < n → w'.cell? ⟨g, j, none⟩ = w.cell? ⟨g, j, none⟩) → K (a.put o.dst v') w') :
    if Region.wanted o (yielded ops a.tmps) = true then Oper.wp P o a w K Q else E := by
  have hw : Region.wanted o (yielded ops a.tmps) = true := by simp [Region.wanted, hgd]
  rw [if_pos hw]
  obtain ⟨v', w', hrun, r1, r2, r3⟩ := run_append_kept (P := P) w base t o.type e i z bytes ht hi hz hsize hby hzs v n xs hown ad m c news hl hnews h1 h63 hbytes hbase
  unfold Oper.wp
  simp [execOp, ho, resolve, invoke, builtin, hs, hx, hrun, Result.andThen]
  exact h v' w' r1 r2 r3

end Go.Proofs.YtcpaecgjihfblaeDoor

/- The plain mathematics of Merkle's trees: roots, paths, proofs, and what they show. Nothing of the program is in it. -/
namespace Go.Proofs.YtcpaecgjihfblaeDoor

/-- What a leaf's digest is, and that of two. -/
def leafL (b : List Int) : List Int := shaL (0 :: b)
def nodeL (a b : List Int) : List Int := shaL (1 :: (a ++ b))

/-- Doubled from k on, while the double is below n. -/
def splitFrom (k n : Nat) : Nat := if h : 0 < k ∧ 2 * k < n then splitFrom (2 * k) n else k
termination_by n - k
decreasing_by omega
/-- The greatest power of two below n. -/
def splitN (n : Nat) : Nat := splitFrom 1 n
theorem splitFrom_next {k n : Nat} (h0 : 0 < k) (h : 2 * k < n) : splitFrom k n = splitFrom (2 * k) n := by
  rw [splitFrom, dif_pos ⟨h0, h⟩]
theorem splitFrom_end {k n : Nat} (h : ¬ 2 * k < n) : splitFrom k n = k := by
  rw [splitFrom, dif_neg (by omega)]
theorem splitFrom_spec (k n : Nat) (h0 : 0 < k) (h : k < n) : k ≤ splitFrom k n ∧ splitFrom k n < n ∧ n ≤ 2 * splitFrom k n := by
  by_cases h2 : 2 * k < n
  · rw [splitFrom_next h0 h2]
    have := splitFrom_spec (2 * k) n (by omega) h2
    omega
  · rw [splitFrom_end h2]; omega
termination_by n - k
theorem splitFrom_pow (e n : Nat) : ∃ d, splitFrom (2 ^ e) n = 2 ^ d := by
  by_cases h2 : 2 * 2 ^ e < n
  · rw [splitFrom_next (Nat.two_pow_pos e) h2, ← Nat.pow_succ']
    exact splitFrom_pow (e + 1) n
  · exact ⟨e, splitFrom_end h2⟩
termination_by n - 2 ^ e
decreasing_by have := Nat.two_pow_pos e; rw [Nat.pow_succ]; omega
theorem splitN_spec {n : Nat} (h : 2 ≤ n) : 1 ≤ splitN n ∧ splitN n < n ∧ n ≤ 2 * splitN n := splitFrom_spec 1 n (by omega) (by omega)
theorem splitN_pow (n : Nat) : ∃ d, splitN n = 2 ^ d := splitFrom_pow 0 n
theorem pow_between {a b n : Nat} (h1 : 2 ^ a < n) (h2 : n ≤ 2 * 2 ^ a) (h3 : 2 ^ b < n) (h4 : n ≤ 2 * 2 ^ b) : a = b := by
  rw [← Nat.pow_succ'] at h2 h4
  have h5 : 2 ^ a < 2 ^ (b + 1) := by omega
  have h6 : 2 ^ b < 2 ^ (a + 1) := by omega
  have := (Nat.pow_lt_pow_iff_right (by decide : 1 < 2)).1 h5
  have := (Nat.pow_lt_pow_iff_right (by decide : 1 < 2)).1 h6
  omega
theorem splitN_unique {a n : Nat} (h1 : 2 ^ a < n) (h2 : n ≤ 2 * 2 ^ a) : splitN n = 2 ^ a := by
  have := Nat.two_pow_pos a
  obtain ⟨d, hd⟩ := splitN_pow n
  have hs := splitN_spec (n := n) (by omega)
  rw [hd] at hs ⊢
  rw [pow_between hs.2.1 hs.2.2 h1 h2]

/-- The root of leaves. -/
def mth (ls : List (List Int)) : List Int :=
  if ls.length = 0 then shaL [] else
  if _h : ls.length ≤ 1 then leafL (ls.getD 0 []) else
    nodeL (mth (ls.take (splitN ls.length))) (mth (ls.drop (splitN ls.length)))
termination_by ls.length
decreasing_by
  · have := splitN_spec (n := ls.length) (by omega); rw [List.length_take]; omega
  · have := splitN_spec (n := ls.length) (by omega); rw [List.length_drop]; omega
theorem mth_nil {ls : List (List Int)} (h : ls.length = 0) : mth ls = shaL [] := by rw [mth, if_pos h]
theorem mth_one {ls : List (List Int)} (h : ls.length = 1) : mth ls = leafL (ls.getD 0 []) := by rw [mth, if_neg (by omega), dif_pos (by omega)]
theorem mth_more {ls : List (List Int)} (h : 2 ≤ ls.length) : mth ls = nodeL (mth (ls.take (splitN ls.length))) (mth (ls.drop (splitN ls.length))) := by
  rw [mth, if_neg (by omega), dif_neg (by omega)]

/-- The path of a leaf. -/
def pathL (ls : List (List Int)) (i : Nat) : List (List Int) :=
  if _h : ls.length ≤ 1 then [] else
  if i < splitN ls.length then pathL (ls.take (splitN ls.length)) i ++ [mth (ls.drop (splitN ls.length))] else
    pathL (ls.drop (splitN ls.length)) (i - splitN ls.length) ++ [mth (ls.take (splitN ls.length))]
termination_by ls.length
decreasing_by
  · have := splitN_spec (n := ls.length) (by omega); rw [List.length_take]; omega
  · have := splitN_spec (n := ls.length) (by omega); rw [List.length_drop]; omega
theorem pathL_one {ls : List (List Int)} {i : Nat} (h : ls.length ≤ 1) : pathL ls i = [] := by rw [pathL, dif_pos h]
theorem pathL_left {ls : List (List Int)} {i : Nat} (h : 2 ≤ ls.length) (hi : i < splitN ls.length) : pathL ls i = pathL (ls.take (splitN ls.length)) i ++ [mth (ls.drop (splitN ls.length))] := by
  rw [pathL, dif_neg (by omega), if_pos hi]
theorem pathL_right {ls : List (List Int)} {i : Nat} (h : 2 ≤ ls.length) (hi : ¬ i < splitN ls.length) : pathL ls i = pathL (ls.drop (splitN ls.length)) (i - splitN ls.length) ++ [mth (ls.take (splitN ls.length))] := by
  rw [pathL, dif_neg (by omega), if_neg hi]

/-- The proof that the first m leaves are the beginning. -/
def proofL (ls : List (List Int)) (m : Nat) (whole : Bool) : List (List Int) :=
  if m = ls.length then (if whole then [] else [mth ls]) else
  if _h : ls.length ≤ 1 then [] else
  if m ≤ splitN ls.length then proofL (ls.take (splitN ls.length)) m whole ++ [mth (ls.drop (splitN ls.length))] else
    proofL (ls.drop (splitN ls.length)) (m - splitN ls.length) false ++ [mth (ls.take (splitN ls.length))]
termination_by ls.length
decreasing_by
  · have := splitN_spec (n := ls.length) (by omega); rw [List.length_take]; omega
  · have := splitN_spec (n := ls.length) (by omega); rw [List.length_drop]; omega
theorem proofL_whole (ls : List (List Int)) : proofL ls ls.length true = [] := by rw [proofL, if_pos rfl, if_pos rfl]
theorem proofL_part (ls : List (List Int)) : proofL ls ls.length false = [mth ls] := by rw [proofL, if_pos rfl]; rfl
theorem proofL_left {ls : List (List Int)} {m : Nat} {whole : Bool} (hn : m ≠ ls.length) (h : 2 ≤ ls.length) (hm : m ≤ splitN ls.length) : proofL ls m whole = proofL (ls.take (splitN ls.length)) m whole ++ [mth (ls.drop (splitN ls.length))] := by
  rw [proofL, if_neg hn, dif_neg (by omega), if_pos hm]
theorem proofL_right {ls : List (List Int)} {m : Nat} {whole : Bool} (hn : m ≠ ls.length) (h : 2 ≤ ls.length) (hm : ¬ m ≤ splitN ls.length) : proofL ls m whole = proofL (ls.drop (splitN ls.length)) (m - splitN ls.length) false ++ [mth (ls.take (splitN ls.length))] := by
  rw [proofL, if_neg hn, dif_neg (by omega), if_neg hm]

/-- The root with a digest at a place, and a path; and whether the path has the right length. -/
def upL (d : List Int) (i n : Nat) (p : List (List Int)) : List Int × Bool :=
  if _h : n ≤ 1 then (d, decide (p.length = 0)) else
  if p.length = 0 then ([], false) else
  if i < splitN n then (nodeL (upL d i (splitN n) p.dropLast).1 (p.getD (p.length - 1) []), (upL d i (splitN n) p.dropLast).2) else
    (nodeL (p.getD (p.length - 1) []) (upL d (i - splitN n) (n - splitN n) p.dropLast).1, (upL d (i - splitN n) (n - splitN n) p.dropLast).2)
termination_by n
decreasing_by all_goals (have := splitN_spec (n := n) (by omega); omega)
theorem upL_one {d : List Int} {i n : Nat} {p : List (List Int)} (h : n ≤ 1) : upL d i n p = (d, decide (p.length = 0)) := by rw [upL, dif_pos h]
theorem upL_none {d : List Int} {i n : Nat} {p : List (List Int)} (h : 2 ≤ n) (hp : p.length = 0) : upL d i n p = ([], false) := by rw [upL, dif_neg (by omega), if_pos hp]
theorem upL_left {d : List Int} {i n : Nat} {p : List (List Int)} (h : 2 ≤ n) (hp : p.length ≠ 0) (hi : i < splitN n) : upL d i n p = (nodeL (upL d i (splitN n) p.dropLast).1 (p.getD (p.length - 1) []), (upL d i (splitN n) p.dropLast).2) := by
  conv => lhs; rw [upL]
  rw [dif_neg (by omega), if_neg hp, if_pos hi]
theorem upL_right {d : List Int} {i n : Nat} {p : List (List Int)} (h : 2 ≤ n) (hp : p.length ≠ 0) (hi : ¬ i < splitN n) : upL d i n p = (nodeL (p.getD (p.length - 1) []) (upL d (i - splitN n) (n - splitN n) p.dropLast).1, (upL d (i - splitN n) (n - splitN n) p.dropLast).2) := by
  conv => lhs; rw [upL]
  rw [dif_neg (by omega), if_neg hp, if_neg hi]

/-- Two roots: of the first m of n, and of all. -/
def twoL (m n : Nat) (whole : Bool) (old : List Int) (p : List (List Int)) : List Int × List Int × Bool :=
  if m = n then (if whole then (old, old, decide (p.length = 0)) else if p.length ≠ 1 then ([], [], false) else (p.getD 0 [], p.getD 0 [], true)) else
  if p.length = 0 then ([], [], false) else
  if _h : n ≤ 1 then ([], [], false) else
  if m ≤ splitN n then ((twoL m (splitN n) whole old p.dropLast).1, nodeL (twoL m (splitN n) whole old p.dropLast).2.1 (p.getD (p.length - 1) []), (twoL m (splitN n) whole old p.dropLast).2.2) else
    (nodeL (p.getD (p.length - 1) []) (twoL (m - splitN n) (n - splitN n) false old p.dropLast).1, nodeL (p.getD (p.length - 1) []) (twoL (m - splitN n) (n - splitN n) false old p.dropLast).2.1, (twoL (m - splitN n) (n - splitN n) false old p.dropLast).2.2)
termination_by n
decreasing_by all_goals (have := splitN_spec (n := n) (by omega); omega)
theorem twoL_whole (n : Nat) (old : List Int) (p : List (List Int)) : twoL n n true old p = (old, old, decide (p.length = 0)) := by rw [twoL, if_pos rfl, if_pos rfl]
theorem twoL_part {n : Nat} {old : List Int} {p : List (List Int)} (h : p.length = 1) : twoL n n false old p = (p.getD 0 [], p.getD 0 [], true) := by
  rw [twoL, if_pos rfl, if_neg (by decide), if_neg (by omega)]
theorem twoL_other {n : Nat} {old : List Int} {p : List (List Int)} (h : p.length ≠ 1) : twoL n n false old p = ([], [], false) := by
  rw [twoL, if_pos rfl, if_neg (by decide), if_pos h]
theorem twoL_none {m n : Nat} {whole : Bool} {old : List Int} {p : List (List Int)} (hn : m ≠ n) (h : p.length = 0) : twoL m n whole old p = ([], [], false) := by
  rw [twoL, if_neg hn, if_pos h]
theorem twoL_left {m n : Nat} {whole : Bool} {old : List Int} {p : List (List Int)} (hn : m ≠ n) (h2 : 2 ≤ n) (h : p.length ≠ 0) (hm : m ≤ splitN n) : twoL m n whole old p =
    ((twoL m (splitN n) whole old p.dropLast).1, nodeL (twoL m (splitN n) whole old p.dropLast).2.1 (p.getD (p.length - 1) []), (twoL m (splitN n) whole old p.dropLast).2.2) := by
  conv => lhs; rw [twoL]
  rw [if_neg hn, if_neg h, dif_neg (by omega), if_pos hm]
theorem twoL_right {m n : Nat} {whole : Bool} {old : List Int} {p : List (List Int)} (hn : m ≠ n) (h2 : 2 ≤ n) (h : p.length ≠ 0) (hm : ¬ m ≤ splitN n) : twoL m n whole old p =
    (nodeL (p.getD (p.length - 1) []) (twoL (m - splitN n) (n - splitN n) false old p.dropLast).1, nodeL (p.getD (p.length - 1) []) (twoL (m - splitN n) (n - splitN n) false old p.dropLast).2.1, (twoL (m - splitN n) (n - splitN n) false old p.dropLast).2.2) := by
  conv => lhs; rw [twoL]
  rw [if_neg hn, if_neg h, dif_neg (by omega), if_neg hm]

theorem last_snoc (l : List (List Int)) (x : List Int) : (l ++ [x]).getD ((l ++ [x]).length - 1) [] = x := by
  rw [List.getD_eq_getElem?_getD, List.length_append, List.length_singleton, Nat.add_sub_cancel, List.getElem?_append_right (Nat.le_refl _)]
  simp
theorem snoc_ne (l : List (List Int)) (x : List Int) : (l ++ [x]).length ≠ 0 := by simp

/-- WHAT STANDS THERE IS SHOWN. -/
theorem up_path (ls : List (List Int)) (i : Nat) (hi : i < ls.length) : upL (leafL (ls.getD i [])) i ls.length (pathL ls i) = (mth ls, true) := by
  by_cases h1 : ls.length ≤ 1
  · have : ls.length = 1 := by omega
    obtain rfl : i = 0 := by omega
    rw [upL_one h1, pathL_one h1, mth_one this]; rfl
  · have hs := splitN_spec (n := ls.length) (by omega)
    by_cases hk : i < splitN ls.length
    · have hl : (ls.take (splitN ls.length)).length = splitN ls.length := by rw [List.length_take]; omega
      have ih := up_path (ls.take (splitN ls.length)) i (by omega)
      rw [hl] at ih
      have e : (ls.take (splitN ls.length)).getD i [] = ls.getD i [] := by rw [List.getD_eq_getElem?_getD, List.getD_eq_getElem?_getD, List.getElem?_take, if_pos hk]
      rw [e] at ih
      rw [pathL_left (by omega) hk, upL_left (by omega) (snoc_ne _ _) hk, last_snoc, List.dropLast_concat, ih, mth_more (ls := ls) (by omega)]
    · have hl : (ls.drop (splitN ls.length)).length = ls.length - splitN ls.length := by rw [List.length_drop]
      have ih := up_path (ls.drop (splitN ls.length)) (i - splitN ls.length) (by omega)
      rw [hl] at ih
      have e : (ls.drop (splitN ls.length)).getD (i - splitN ls.length) [] = ls.getD i [] := by
        rw [List.getD_eq_getElem?_getD, List.getD_eq_getElem?_getD, List.getElem?_drop]; congr 2; omega
      rw [e] at ih
      rw [pathL_right (by omega) hk, upL_right (by omega) (snoc_ne _ _) hk, last_snoc, List.dropLast_concat, ih, mth_more (ls := ls) (by omega)]
termination_by ls.length

/-- WHAT GREW IS SHOWN. -/
theorem two_proof (ls : List (List Int)) (m : Nat) (whole : Bool) (old : List Int) (h1 : 1 ≤ m) (hm : m ≤ ls.length) (ho : whole = true → old = mth (ls.take m)) :
    twoL m ls.length whole old (proofL ls m whole) = (mth (ls.take m), mth ls, true) := by
  by_cases he : m = ls.length
  · subst he
    cases whole with
    | true => rw [proofL_whole, twoL_whole, ho rfl, List.take_length]; rfl
    | false => rw [proofL_part, twoL_part rfl, List.take_length]; rfl
  · have hs := splitN_spec (n := ls.length) (by omega)
    by_cases hk : m ≤ splitN ls.length
    · have hl : (ls.take (splitN ls.length)).length = splitN ls.length := by rw [List.length_take]; omega
      have e : (ls.take (splitN ls.length)).take m = ls.take m := by rw [List.take_take, Nat.min_eq_left hk]
      have ih := two_proof (ls.take (splitN ls.length)) m whole old h1 (by omega) (by rw [e]; exact ho)
      rw [hl, e] at ih
      rw [proofL_left he (by omega) hk, twoL_left he (by omega) (snoc_ne _ _) hk, last_snoc, List.dropLast_concat, ih, mth_more (ls := ls) (by omega)]
    · have hl : (ls.drop (splitN ls.length)).length = ls.length - splitN ls.length := by rw [List.length_drop]
      have ih := two_proof (ls.drop (splitN ls.length)) (m - splitN ls.length) false old (by omega) (by omega) (fun h => by cases h)
      rw [hl] at ih
      have hlm : (ls.take m).length = m := by rw [List.length_take]; omega
      have hsm : splitN (ls.take m).length = splitN ls.length := by
        obtain ⟨d, hd⟩ := splitN_pow ls.length
        rw [hlm, hd]
        rw [hd] at hs hk
        exact splitN_unique (by omega) (by omega)
      have e1 : (ls.take m).take (splitN ls.length) = ls.take (splitN ls.length) := by rw [List.take_take, Nat.min_eq_left (by omega)]
      have e2 : (ls.take m).drop (splitN ls.length) = (ls.drop (splitN ls.length)).take (m - splitN ls.length) := by rw [List.drop_take]
      rw [proofL_right he (by omega) hk, twoL_right he (by omega) (snoc_ne _ _) hk, last_snoc, List.dropLast_concat, ih, mth_more (ls := ls) (by omega), mth_more (ls := ls.take m) (by omega), hsm, e1, e2]
termination_by ls.length

/-- How often a number of leaves can be halved. -/
theorem path_short (ls : List (List Int)) (i e : Nat) (he : ls.length ≤ 2 ^ e) : (pathL ls i).length ≤ e := by
  by_cases h1 : ls.length ≤ 1
  · rw [pathL_one h1]; exact Nat.zero_le _
  · have hs := splitN_spec (n := ls.length) (by omega)
    obtain ⟨d, hd⟩ := splitN_pow ls.length
    have hde : d + 1 ≤ e := by
      have : 2 ^ d < 2 ^ e := by omega
      have := (Nat.pow_lt_pow_iff_right (by decide : 1 < 2)).1 this
      omega
    by_cases hk : i < splitN ls.length
    · rw [pathL_left (by omega) hk]
      have := path_short (ls.take (splitN ls.length)) i d (by rw [List.length_take]; omega)
      simp; omega
    · rw [pathL_right (by omega) hk]
      have := path_short (ls.drop (splitN ls.length)) (i - splitN ls.length) d (by rw [List.length_drop]; omega)
      simp; omega
termination_by ls.length
decreasing_by
  · rw [List.length_take]; omega
  · rw [List.length_drop]; omega
theorem path_power (ls : List (List Int)) (i e : Nat) (he : ls.length = 2 ^ e) (hi : i < ls.length) : (pathL ls i).length = e := by
  cases e with
  | zero => rw [pathL_one (by omega)]; rfl
  | succ d =>
    have hp := Nat.two_pow_pos d
    have e2 : ls.length = 2 * 2 ^ d := by rw [he, Nat.pow_succ']
    have hs : splitN ls.length = 2 ^ d := splitN_unique (by omega) (by omega)
    by_cases hk : i < splitN ls.length
    · rw [pathL_left (by omega) hk]
      have := path_power (ls.take (splitN ls.length)) i d (by rw [List.length_take]; omega) (by rw [List.length_take]; omega)
      simp; omega
    · rw [pathL_right (by omega) hk]
      have := path_power (ls.drop (splitN ls.length)) (i - splitN ls.length) d (by rw [List.length_drop]; omega) (by rw [List.length_drop]; omega)
      simp; omega
theorem proof_short (ls : List (List Int)) (m e : Nat) (whole : Bool) (he : ls.length ≤ 2 ^ e) : (proofL ls m whole).length ≤ e + 1 := by
  by_cases hm : m = ls.length
  · subst hm
    cases whole with
    | true => rw [proofL_whole]; exact Nat.zero_le _
    | false => rw [proofL_part]; simp
  · by_cases h1 : ls.length ≤ 1
    · rw [proofL, if_neg hm, dif_pos h1]; exact Nat.zero_le _
    · have hs := splitN_spec (n := ls.length) (by omega)
      obtain ⟨d, hd⟩ := splitN_pow ls.length
      have hde : d + 1 ≤ e := by
        have : 2 ^ d < 2 ^ e := by omega
        have := (Nat.pow_lt_pow_iff_right (by decide : 1 < 2)).1 this
        omega
      by_cases hk : m ≤ splitN ls.length
      · rw [proofL_left hm (by omega) hk]
        have := proof_short (ls.take (splitN ls.length)) m d whole (by rw [List.length_take]; omega)
        simp; omega
      · rw [proofL_right hm (by omega) hk]
        have := proof_short (ls.drop (splitN ls.length)) (m - splitN ls.length) d false (by rw [List.length_drop]; omega)
        simp; omega
termination_by ls.length
decreasing_by
  · rw [List.length_take]; omega
  · rw [List.length_drop]; omega

/-- All of them are digests. -/
def Digs (p : List (List Int)) : Prop := ∀ d ∈ p, d.length = 32
theorem shaL_len (zs : List Int) : (shaL zs).length = 32 := outTo_length _ 8 (by omega)
theorem leafL_length (b : List Int) : (leafL b).length = 32 := shaL_len _
theorem nodeL_length (a b : List Int) : (nodeL a b).length = 32 := shaL_len _
theorem mth_length (ls : List (List Int)) : (mth ls).length = 32 := by
  rw [mth]; split
  · exact shaL_len _
  · split
    · exact leafL_length _
    · exact nodeL_length _ _
theorem path_digs (ls : List (List Int)) (i : Nat) : Digs (pathL ls i) := by
  by_cases h1 : ls.length ≤ 1
  · rw [pathL_one h1]; intro d hd; cases hd
  · have hs := splitN_spec (n := ls.length) (by omega)
    by_cases hk : i < splitN ls.length
    · rw [pathL_left (by omega) hk]
      have := path_digs (ls.take (splitN ls.length)) i
      intro d hd
      rcases List.mem_append.1 hd with h | h
      · exact this d h
      · rw [List.mem_singleton.1 h]; exact mth_length _
    · rw [pathL_right (by omega) hk]
      have := path_digs (ls.drop (splitN ls.length)) (i - splitN ls.length)
      intro d hd
      rcases List.mem_append.1 hd with h | h
      · exact this d h
      · rw [List.mem_singleton.1 h]; exact mth_length _
termination_by ls.length
decreasing_by
  · rw [List.length_take]; omega
  · rw [List.length_drop]; omega
theorem proof_digs (ls : List (List Int)) (m : Nat) (whole : Bool) : Digs (proofL ls m whole) := by
  by_cases hm : m = ls.length
  · subst hm
    cases whole with
    | true => rw [proofL_whole]; intro d hd; cases hd
    | false => rw [proofL_part]; intro d hd; rw [List.mem_singleton.1 hd]; exact mth_length _
  · by_cases h1 : ls.length ≤ 1
    · rw [proofL, if_neg hm, dif_pos h1]; intro d hd; cases hd
    · have hs := splitN_spec (n := ls.length) (by omega)
      by_cases hk : m ≤ splitN ls.length
      · rw [proofL_left hm (by omega) hk]
        have := proof_digs (ls.take (splitN ls.length)) m whole
        intro d hd
        rcases List.mem_append.1 hd with h | h
        · exact this d h
        · rw [List.mem_singleton.1 h]; exact mth_length _
      · rw [proofL_right hm (by omega) hk]
        have := proof_digs (ls.drop (splitN ls.length)) (m - splitN ls.length) false
        intro d hd
        rcases List.mem_append.1 hd with h | h
        · exact this d h
        · rw [List.mem_singleton.1 h]; exact mth_length _
termination_by ls.length
decreasing_by
  · rw [List.length_take]; omega
  · rw [List.length_drop]; omega

end Go.Proofs.YtcpaecgjihfblaeDoor
