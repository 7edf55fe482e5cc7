/- TreeMem, TreeFace, TreeLawBase, ShelfMath, ShelfFace, ShelfMem, ShelfRefSame, ShelfSegs, ShelfRefLay, ShaRefMath, TreeSame, ShelfGoSmall, ShaPartsC, TreeFaceLeaf, TreeGoSmall, ShelfGoLay, ShelfGoSegs, as one text. -/
import Derived.Test.YtkjlchfmplcobadDoorProg
import Derived.Test.YtkjlchfmplcobadDoorShaOwn
import Derived.Test.YtkjlchfmplcobadDoorRunAE
import Derived.Test.YtkjlchfmplcobadDoorTreeMath
import Derived.WalkKit
import Derived.Laws.AppendOwnNone
import Derived.Test.YtkjlchfmplcobadDoorRunAB
import Derived.Test.YtkjlchfmplcobadDoorRunAH
import Derived.Test.YtkjlchfmplcobadDoorRunAI
import Derived.Test.YtkjlchfmplcobadDoorRunAC
import Derived.WalkSpells
import Derived.WalkLawsBesides
import Derived.Deep.RegionHeld3
import Derived.BigRegion
import Derived.Deep.AppendLies
import Derived.Test.YtkjlchfmplcobadDoorShaSum
import Derived.Deep.QuietTactic
import Derived.BigQuiet
/- What trees' answers are, and lists of bytes in memory. Nothing of the program's functions is in it. -/
namespace Go.Proofs.YtkjlchfmplcobadDoor
open Go.RowKit

theorem PartsAt.form {w : World} {v : Value} {L : List (List Int)} (h : PartsAt w v L) : ∃ a c, v = .slice a L.length c ∧ (L.length = 0 ∨ ∃ b off, a = some ⟨b, off, none⟩ ∧ b < w.heap.size ∧ ∀ j, j < L.length → ∃ a c, w.cell? ⟨b, off + j, none⟩ = some (.slice a (L.getD j []).length c) ∧ BytesAt w (.slice a (L.getD j []).length c) (L.getD j [])) := by
  rcases h with ⟨rfl, a, c, rfl⟩ | ⟨b, off, cp, rfl, h2, h3⟩
  · exact ⟨a, c, rfl, .inl rfl⟩
  · refine ⟨_, _, rfl, .inr ⟨b, off, rfl, h2, fun j hj => ?_⟩⟩
    obtain ⟨a, n, c, hc, hB⟩ := h3 j hj
    obtain ⟨a', c', e⟩ := hB.form
    cases e
    exact ⟨_, _, hc, hB⟩
theorem PartsAt.take {w : World} {a : Option Addr} {n c k : Nat} {L : List (List Int)} (h : PartsAt w (.slice a n c) L) (hn : L.length = n) (hk : k ≤ n) (h0 : 0 < n) (c' : Nat) : PartsAt w (.slice a k c') (L.take k) := by
  rcases h with ⟨rfl, -⟩ | ⟨b, off, cp, e, h2, h3⟩
  · simp at hn; omega
  · cases e
    have hl : (L.take k).length = k := by rw [List.length_take]; omega
    refine .inr ⟨b, off, c', by rw [hl], h2, fun j hj => ?_⟩
    obtain ⟨a, m, c, hc, hB⟩ := h3 j (by omega)
    refine ⟨a, m, c, hc, ?_⟩
    rw [List.getD_eq_getElem?_getD, List.getElem?_take, if_pos (by omega), ← List.getD_eq_getElem?_getD]
    exact hB
theorem PartsAt.drop {w : World} {b off n c k : Nat} {L : List (List Int)} (h : PartsAt w (.slice (some ⟨b, off, none⟩) n c) L) (hn : L.length = n) (hk : k ≤ n) (h0 : 0 < n) (c' : Nat) : PartsAt w (.slice (some ⟨b, off + k, none⟩) (n - k) c') (L.drop k) := by
  rcases h with ⟨rfl, -⟩ | ⟨b, off, cp, e, h2, h3⟩
  · simp at hn; omega
  · cases e
    have hl : (L.drop k).length = L.length - k := List.length_drop
    refine .inr ⟨b, off + k, c', by rw [hl], h2, fun j hj => ?_⟩
    obtain ⟨a, m, c, hc, hB⟩ := h3 (k + j) (by omega)
    refine ⟨a, m, c, by rw [Nat.add_assoc]; exact hc, ?_⟩
    rw [List.getD_eq_getElem?_getD, List.getElem?_drop, ← List.getD_eq_getElem?_getD]
    exact hB
theorem bytes_shaL (zs : List Int) : Bytes (shaL zs) := by
  intro j
  have : ∀ x ∈ shaL zs, 0 ≤ x ∧ x < 256 := by
    intro x hx
    unfold shaL St.out at hx
    obtain ⟨y, -, hy⟩ := List.mem_flatMap.1 hx
    simp only [byte4, List.mem_cons, List.not_mem_nil, or_false] at hy
    have := U_lo y
    rcases hy with rfl | rfl | rfl | rfl <;> omega
  rw [List.getD_eq_getElem?_getD]
  by_cases hj : j < (shaL zs).length
  · rw [List.getElem?_eq_getElem hj]; exact this _ (List.getElem_mem hj)
  · rw [List.getElem?_eq_none (by omega)]; exact ⟨by decide, by decide⟩
theorem bytes_mth (ls : List (List Int)) : Bytes (mth ls) := by
  rw [mth]; split
  · exact bytes_shaL _
  · split
    · exact bytes_shaL _
    · exact bytes_shaL _
theorem PartsAt.last {w : World} {a : Option Addr} {m c : Nat} {p : List (List Int)} (h : PartsAt w (.slice a m c) p) (hm : p.length = m) (h0 : m ≠ 0) : ∃ b off ta tc, a = some ⟨b, off, none⟩ ∧ b < w.heap.size ∧ w.cell? ⟨b, off + (m - 1), none⟩ = some (.slice ta (p.getD (m - 1) []).length tc) ∧ BytesAt w (.slice ta (p.getD (m - 1) []).length tc) (p.getD (m - 1) []) := by
  obtain ⟨a0, c0, e0, hcell⟩ := h.form
  rw [hm] at e0
  cases e0
  obtain ⟨b, off, rfl, hb0, hcl⟩ := hcell.resolve_left (by omega)
  obtain ⟨ta, tc, h1, h2⟩ := hcl (m - 1) (by omega)
  exact ⟨b, off, ta, tc, rfl, hb0, h1, h2⟩
theorem getD_take_or (L : List (List Int)) (k j : Nat) : (L.take k).getD j [] = L.getD j [] ∨ (L.take k).getD j [] = [] := by
  by_cases h : j < k
  · left; rw [List.getD_eq_getElem?_getD, List.getElem?_take, if_pos h, ← List.getD_eq_getElem?_getD]
  · right; rw [List.getD_eq_getElem?_getD, List.getElem?_take, if_neg h]; rfl
theorem take_bytes {L : List (List Int)} (h : ∀ j, Bytes (L.getD j [])) (k : Nat) : ∀ j, Bytes ((L.take k).getD j []) := fun j => by
  rcases getD_take_or L k j with e | e <;> rw [e]
  · exact h j
  · exact nil_bytes
theorem take_short {L : List (List Int)} {m : Nat} (h : ∀ j, (L.getD j []).length ≤ m) (k : Nat) : ∀ j, ((L.take k).getD j []).length ≤ m := fun j => by
  rcases getD_take_or L k j with e | e <;> rw [e]
  · exact h j
  · exact Nat.zero_le _
/-- What is wrong with leaves: the errno, and where. -/
def wrongFrom (L : List (List Int)) (k : Nat) : Int × Int :=
  match L with
  | [] => (0, 0)
  | b :: l => if 200 < b.length then (4, k) else wrongFrom l (k + 1)
def wrongL (L : List (List Int)) : Int × Int := if 100 < L.length then (5, 0) else wrongFrom L 0
theorem wrong_at {L : List (List Int)} {k : Nat} (q : Nat) (hk : k < L.length) (hb : ∀ j, j < k → (L.getD j []).length ≤ 200) (h : 200 < (L.getD k []).length) : wrongFrom L q = (4, ((q + k : Nat) : Int)) := by
  induction L generalizing k q with
  | nil => simp at hk
  | cons b l ih =>
    unfold wrongFrom
    cases k with
    | zero => rw [if_pos (by simpa using h)]; rfl
    | succ k =>
      have h0 := hb 0 (by omega)
      rw [if_neg (by simp at h0; omega), ih (q + 1) (k := k) (by simpa using hk) (fun j hj => by simpa using hb (j + 1) (by omega)) (by simpa using h)]
      congr 2
      omega
theorem wrong_none {L : List (List Int)} (q : Nat) (hb : ∀ j, j < L.length → (L.getD j []).length ≤ 200) : wrongFrom L q = (0, 0) := by
  induction L generalizing q with
  | nil => rfl
  | cons b l ih =>
    unfold wrongFrom
    have h0 := hb 0 (by simp)
    rw [if_neg (by simp at h0; omega), ih (q + 1) (fun j hj => by simpa using hb (j + 1) (by simpa using hj))]
theorem Tryd.info23b : (Tryd.prog.info? 23).map (fun i => (i.zero, i.size, i.bytes)) = some (some (.slice none 0 0), 1, 24) := by kernel_rfl
theorem own_ne {w : World} {base b2 : Nat} {e1 e2 : TypeId} {v1 v2 : Value} {n1 n2 : Nat} {xs1 xs2 : List Value} (h1 : w.ownsRow base e1 1 v1 n1 xs1) (h2 : w.ownsRow b2 e2 1 v2 n2 xs2) (hne : e1 ≠ e2) : Sep v1 v2 := fun g hg1 hg2 => by
  rcases h1.2 with ⟨rfl, -⟩ | ⟨g1, c1, cur1, rfl, -, hh1, -⟩
  · cases hg1
  rcases h2.2 with ⟨rfl, -⟩ | ⟨g2, c2, cur2, rfl, -, hh2, -⟩
  · cases hg2
  cases hg1
  cases hg2
  rw [hh1] at hh2
  cases hh2
  exact hne rfl
/-- Each of the values is a row of bytes of the call's own. -/
def OwnEls (w : World) (base : Nat) (vs : List Value) (L : List (List Int)) : Prop :=
  ∀ j, j < L.length → ∃ y, vs[j]? = some y ∧ w.ownsRow base 5 1 y (L.getD j []).length ((L.getD j []).map (Value.int .u8))
/-- A slice of slices of bytes, all of them the call's own. -/
def OwnParts (w : World) (base : Nat) (v : Value) (L : List (List Int)) : Prop := ∃ vs, w.ownsRow base 23 1 v L.length vs ∧ OwnEls w base vs L
theorem OwnEls.kept {w w' : World} {base : Nat} {vs : List Value} {L : List (List Int)} {v : Value} {n : Nat} {xs : List Value} (h : OwnEls w base vs L) (hr : w.ownsRow base 23 1 v n xs) (hg : w.grownBy w' v.ownBlock) : OwnEls w' base vs L := fun j hj => by
  obtain ⟨y, h1, h2⟩ := h j hj
  exact ⟨y, h1, h2.kept hg (own_ne h2 hr (by decide)).or⟩
theorem OwnEls.alloc {w : World} {base : Nat} {vs : List Value} {L : List (List Int)} (h : OwnEls w base vs L) (o : Obj) : OwnEls (w.alloc o) base vs L := fun j hj => by
  obtain ⟨y, h1, h2⟩ := h j hj
  exact ⟨y, h1, h2.alloc o⟩
theorem OwnEls.below {w w' : World} {base N : Nat} {vs : List Value} {L : List (List Int)} (h : OwnEls w base vs L) (hb : Below N w w') (hN : w.heap.size ≤ N) : OwnEls w' base vs L := fun j hj => by
  obtain ⟨y, h1, h2⟩ := h j hj
  exact ⟨y, h1, own_below h2 hb hN⟩
theorem OwnEls.base {w : World} {b b' : Nat} {vs : List Value} {L : List (List Int)} (h : OwnEls w b vs L) (hb : b' ≤ b) : OwnEls w b' vs L := fun j hj => by
  obtain ⟨y, h1, h2⟩ := h j hj
  exact ⟨y, h1, ownsRow_base h2 hb⟩
theorem OwnEls.snoc {w : World} {base : Nat} {vs : List Value} {L : List (List Int)} {x : Value} {d : List Int} (h : OwnEls w base vs L) (hl : vs.length = L.length) (hx : w.ownsRow base 5 1 x d.length (d.map (Value.int .u8))) : OwnEls w base (vs ++ [x]) (L ++ [d]) := fun j hj => by
  by_cases e : j < L.length
  · obtain ⟨y, h1, h2⟩ := h j e
    refine ⟨y, by rw [List.getElem?_append_left (by omega)]; exact h1, ?_⟩
    rw [List.getD_eq_getElem?_getD, List.getElem?_append_left e, ← List.getD_eq_getElem?_getD]
    exact h2
  · obtain rfl : j = L.length := by simp at hj; omega
    refine ⟨x, by rw [List.getElem?_append_right (by omega), hl, Nat.sub_self]; rfl, ?_⟩
    rw [List.getD_eq_getElem?_getD, List.getElem?_append_right (Nat.le_refl _), Nat.sub_self]
    exact hx
theorem OwnParts.below {w w' : World} {base N : Nat} {v : Value} {L : List (List Int)} (h : OwnParts w base v L) (hb : Below N w w') (hN : w.heap.size ≤ N) : OwnParts w' base v L := by
  obtain ⟨vs, h1, h2⟩ := h
  exact ⟨vs, own_below h1 hb hN, h2.below hb hN⟩
theorem OwnParts.base {w : World} {b b' : Nat} {v : Value} {L : List (List Int)} (h : OwnParts w b v L) (hb : b' ≤ b) : OwnParts w b' v L := by
  obtain ⟨vs, h1, h2⟩ := h
  exact ⟨vs, ownsRow_base h1 hb, h2.base hb⟩
theorem OwnParts.nil (w : World) (base : Nat) : OwnParts w base (.slice none 0 0) [] := ⟨[], World.ownsRow_nil _ _ _ _, fun _ hj => absurd hj (Nat.not_lt_zero _)⟩
theorem OwnParts.form {w : World} {base : Nat} {v : Value} {L : List (List Int)} (h : OwnParts w base v L) : ∃ a c, v = .slice a L.length c ∧ L.length ≤ c ∧ c ≤ maxLen := by
  obtain ⟨vs, h1, -⟩ := h
  exact own_cap h1
/-- So it reads as what it is. -/
theorem OwnParts.parts {w : World} {base : Nat} {v : Value} {L : List (List Int)} (h : OwnParts w base v L) : PartsAt w v L := by
  obtain ⟨vs, h1, h2⟩ := h
  rcases h1.2 with ⟨hv, hn⟩ | ⟨g, cap, cur, rfl, -, hg, -⟩
  · exact .inl ⟨List.eq_nil_of_length_eq_zero hn, none, 0, by rw [hv]⟩
  · refine .inr ⟨g, 0, cap, rfl, ?_, fun j hj => ?_⟩
    · rcases Nat.lt_or_ge g w.heap.size with h' | h'
      · exact h'
      · rw [Array.getElem?_eq_none h'] at hg; cases hg
    · obtain ⟨y, h3, h4⟩ := h2 j hj
      obtain ⟨a, c, rfl⟩ := own_form' h4
      refine ⟨a, _, c, ?_, bytesAt_own h4⟩
      rw [Nat.zero_add, h1.cellAt j (by omega)]
      exact h3
/-- Leaves as a call meets them: they can be read, there is room for what there is, and they are bytes, not too many. -/
structure Leaves (w : World) (a : Option Addr) (n c : Nat) (L : List (List Int)) : Prop where
  len : L.length = n
  at' : PartsAt w (.slice a n c) L
  room : n ≤ c
  cap : c ≤ maxLen
  bytes : ∀ j, Bytes (L.getD j [])
  short : ∀ j, (L.getD j []).length ≤ 1000000
theorem Leaves.below {w w' : World} {a : Option Addr} {n c : Nat} {L : List (List Int)} (h : Leaves w a n c L) (hb : Below w.heap.size w w') : Leaves w' a n c L :=
  ⟨h.len, h.at'.below (Nat.le_refl _) hb, h.room, h.cap, h.bytes, h.short⟩
theorem Leaves.take {w : World} {a : Option Addr} {n c k : Nat} {L : List (List Int)} (h : Leaves w a n c L) (hk : k ≤ n) (h0 : 0 < n) : Leaves w a k c (L.take k) :=
  ⟨by rw [List.length_take]; have := h.len; omega, h.at'.take h.len hk h0 _, by have := h.room; omega, h.cap, take_bytes h.bytes k, take_short h.short k⟩
theorem Leaves.drop {w : World} {b off n c k : Nat} {L : List (List Int)} (h : Leaves w (some ⟨b, off, none⟩) n c L) (hk : k ≤ n) (h0 : 0 < n) : Leaves w (some ⟨b, off + k, none⟩) (n - k) (c - k) (L.drop k) :=
  have gd : ∀ j, (L.drop k).getD j [] = L.getD (k + j) [] := fun j => by rw [List.getD_eq_getElem?_getD, List.getElem?_drop, ← List.getD_eq_getElem?_getD]
  ⟨by rw [List.length_drop]; have := h.len; omega, h.at'.drop h.len hk h0 _, by have := h.room; omega, by have := h.cap; omega, fun j => by rw [gd j]; exact h.bytes _, fun j => by rw [gd j]; exact h.short _⟩
theorem Leaves.addr {w : World} {a : Option Addr} {n c : Nat} {L : List (List Int)} (h : Leaves w a n c L) (h0 : 0 < n) : ∃ b off, a = some ⟨b, off, none⟩ := by
  obtain ⟨a0, c0, e0, hcell⟩ := h.at'.form
  rw [h.len] at e0
  cases e0
  obtain ⟨b, off, rfl, -⟩ := hcell.resolve_left (by have := h.len; omega)
  exact ⟨b, off, rfl⟩
theorem OwnParts.one {w w1 : World} {base : Nat} {xa : Option Addr} {xc : Nat} {d : List Int} (hl : d.length = 32) (h : w1.ownsRow w.heap.size 5 1 (.slice xa 32 xc) 32 (d.map (Value.int .u8))) (hb : base ≤ w.heap.size) (hs : w.heap.size ≤ w1.heap.size) :
    OwnParts (w1.alloc (.cells #[.slice xa 32 xc] 23)) base (.slice (some ⟨w1.heap.size, 0, none⟩) 1 1) [d] := by
  refine ⟨[.slice xa 32 xc], World.ownsRow_lit w1 #[.slice xa 32 xc] 1 (by omega) (by unfold maxLen; omega) rfl, fun j hj => ?_⟩
  obtain rfl : j = 0 := by simp at hj; omega
  exact ⟨_, rfl, by show World.ownsRow _ _ _ _ _ d.length _; rw [hl]; exact (ownsRow_base h hb).alloc _⟩
/-- The values of a list as they lie. -/
theorem PartsAt.src {w : World} {a : Option Addr} {l c : Nat} {L : List (List Int)} (h : PartsAt w (.slice a l c) L) (hl : L.length = l) : ∃ vs : List Value, vs.length = l ∧ (∀ ad, a = some ad → ∀ j u, vs[j]? = some u → w.cell? (ad.add j) = some u) ∧
    (∀ j, j < l → ∃ pa pc, vs[j]? = some (.slice pa (L.getD j []).length pc) ∧ BytesAt w (.slice pa (L.getD j []).length pc) (L.getD j [])) ∧ (∀ u ∈ vs, u.oneCell' = true) := by
  obtain ⟨a0, c0, e0, hcell⟩ := h.form
  rw [hl] at e0
  cases e0
  rcases hcell with h0 | ⟨b, off, rfl, hb, hc⟩
  · obtain rfl : l = 0 := by omega
    exact ⟨[], rfl, fun _ _ j u hu => by simp at hu, fun j hj => absurd hj (Nat.not_lt_zero _), fun u hu => by cases hu⟩
  · rw [hl] at hc
    let f : Nat → Value := fun j => (w.cell? ⟨b, off + j, none⟩).getD (.slice none 0 0)
    have hf : ∀ j, j < l → ∃ pa pc, f j = .slice pa (L.getD j []).length pc ∧ w.cell? ⟨b, off + j, none⟩ = some (f j) ∧ BytesAt w (.slice pa (L.getD j []).length pc) (L.getD j []) := fun j hj => by
      obtain ⟨pa, pc, h1, h2⟩ := hc j hj
      have e : f j = .slice pa (L.getD j []).length pc := by show (w.cell? ⟨b, off + j, none⟩).getD _ = _; rw [h1]; rfl
      exact ⟨pa, pc, e, by rw [e]; exact h1, h2⟩
    have hget : ∀ j, j < l → ((List.range l).map f)[j]? = some (f j) := fun j hj => by rw [List.getElem?_map, List.getElem?_range hj]; rfl
    refine ⟨(List.range l).map f, by simp, fun ad ha j u hu => ?_, fun j hj => ?_, fun u hu => ?_⟩
    · cases ha
      have hj : j < l := by have := (List.getElem?_eq_some_iff.1 hu).1; simpa using this
      rw [hget j hj] at hu
      cases hu
      obtain ⟨-, -, -, h2, -⟩ := hf j hj
      rw [Addr.add_mid]; exact h2
    · obtain ⟨pa, pc, h1, -, h3⟩ := hf j hj
      exact ⟨pa, pc, by rw [hget j hj, h1], h3⟩
    · obtain ⟨j, hj, rfl⟩ := List.mem_map.1 hu
      obtain ⟨pa, pc, h1, -⟩ := hf j (by simpa using hj)
      rw [h1]; rfl
/-- append(dst, src...), dst the call's own, src a list as it came. -/
theorem wpList_append_parts {P : Program} {w : World} {ops : Array Oper} {rest : List Oper} {o : Oper} {ac : Act} {Q : Exit → Act → World → Prop} (hgd : o.guard = none) (s x : Operand) (t : TypeId)
    (ho : o.op = .call { callee := .builtin .append, args := #[s, x], argTypes := #[t, t] })
    (base : Nat) (e : TypeId) (i : TypeInfo) (z : Value) (bytes : Nat) (ht : P.underlying t = some (.slice e)) (hi : P.info? e = some i) (hz : i.zero = some z)
    (hsize : i.size = 1) (hby : i.bytes = bytes) (hzs : z.cells.size = 1)
    (v : Value) (n : Nat) (xs : List Value) (hs : ac.eval s = v) (hown : w.ownsRow base e 1 v n xs)
    (a : Option Addr) (l c : Nat) (vs : List Value) (hx : ac.eval x = .slice a l c) (hnil : a = none → l = 0 ∧ c = 0) (hl : vs.length = l) (hc : ∀ ad, a = some ad → ∀ j u, vs[j]? = some u → w.cell? (ad.add j) = some u) (h1 : ∀ u ∈ vs, u.oneCell' = true)
    (h63 : n + l ≤ maxLen) (hbytes : (n + l) * bytes ≤ 140737488355328) (hbase : base ≤ w.heap.size)
    (h : ∀ v' w', w'.ownsRow base e 1 v' (n + l) (xs ++ vs) → w.grownBy w' v.ownBlock → wpList P ops Q rest (ac.put o.dst v') w') : wpList P ops Q (o :: rest) ac w := by
  cases a with
  | none =>
    obtain ⟨rfl, rfl⟩ := hnil rfl
    obtain rfl : vs = [] := List.eq_nil_of_length_eq_zero hl
    exact wpList_append_own_none hgd s x t ho base e i 1 ht hi v n xs hs hown hx (h v w (by simpa using hown) (World.grownBy.refl _ _))
  | some ad =>
    exact wpList_append_own _ hgd s x t ho base e i z 1 bytes ht hi hz hsize hby hzs (by decide) v n xs hs hown ad l c vs hx (by omega) (hc ad rfl) h1 h63 hbytes hbase (fun v' w' h1 h2 _ => h v' w' h1 h2)
theorem mem_short {L : List (List Int)} {m : Nat} (h : ∀ j, (L.getD j []).length ≤ m) : ∀ x ∈ L, x.length ≤ m := fun x hx => by
  obtain ⟨j, hj, rfl⟩ := List.mem_iff_getElem.1 hx
  have := h j
  rwa [List.getD_eq_getElem?_getD, List.getElem?_eq_getElem hj] at this
theorem short_mem {L : List (List Int)} {m : Nat} (h : ∀ x ∈ L, x.length ≤ m) (j : Nat) : (L.getD j []).length ≤ m := by
  rw [List.getD_eq_getElem?_getD]
  by_cases hj : j < L.length
  · rw [List.getElem?_eq_getElem hj]; exact h _ (List.getElem_mem hj)
  · rw [List.getElem?_eq_none (by omega)]; exact Nat.zero_le _
theorem wrong_ok {L : List (List Int)} (h : (wrongL L).1 = 0) : L.length ≤ 100 ∧ ∀ j, (L.getD j []).length ≤ 200 := by
  unfold wrongL at h
  by_cases h1 : 100 < L.length
  · rw [if_pos h1] at h; simp at h
  · rw [if_neg h1] at h
    refine ⟨by omega, ?_⟩
    have key : ∀ (L : List (List Int)) (q : Nat), (wrongFrom L q).1 = 0 → ∀ j, (L.getD j []).length ≤ 200 := fun L => by
      induction L with
      | nil => intro q _ j; simp
      | cons b l ih =>
        intro q hq j
        unfold wrongFrom at hq
        by_cases h2 : 200 < b.length
        · rw [if_pos h2] at hq; simp at hq
        · rw [if_neg h2] at hq
          cases j with
          | zero => simp; omega
          | succ j => simpa using ih (q + 1) hq j
    exact key L 0 h
end Go.Proofs.YtkjlchfmplcobadDoor

/- What the laws of chapter 2 ask of package tree's faces, as propositions: each is shown of the landed code elsewhere. -/
namespace Go.Proofs.YtkjlchfmplcobadDoor
open Go.RowKit

/-- The world holds the digests' table. -/
structure Ready (w : World) : Prop where
  tab : Tab w
  big : 0 < w.heap.size
theorem Ready.below {w w' : World} (h : Ready w) (hb : Below w.heap.size w w') : Ready w' := ⟨tab_below h.tab hb h.big, Nat.lt_of_lt_of_le h.big hb.size⟩
/-- A list of bytes' lists as it comes in: it can be read, there is room for what there is, and it is bytes. -/
structure Lists (w : World) (a : Option Addr) (n c : Nat) (L : List (List Int)) : Prop where
  len : L.length = n
  at' : PartsAt w (.slice a n c) L
  room : n ≤ c
  cap : c ≤ maxLen
  nil : a = none → n = 0 ∧ c = 0
  bytes : ∀ j, Bytes (L.getD j [])
  short : ∀ j, (L.getD j []).length ≤ maxLen
theorem Lists.below {w w' : World} {a : Option Addr} {n c : Nat} {L : List (List Int)} (h : Lists w a n c L) (hb : Below w.heap.size w w') : Lists w' a n c L :=
  ⟨h.len, h.at'.below (Nat.le_refl _) hb, h.room, h.cap, h.nil, h.bytes, h.short⟩
@[reducible] def faultV (p : Int × Int) : Value := .agg #[.int .i64 p.1, .int .i64 p.2]
def WrongC : Prop := ∀ (L : List (List Int)) (a : Option Addr) (n c : Nat) (w : World), Lists w a n c L →
  Calls Tryd.prog 19 #[.slice a n c] w fun e w' => e = .returned (faultV (wrongL L)) ∧ Below w.heap.size w w'
def RootC : Prop := ∀ (L : List (List Int)) (a : Option Addr) (n c : Nat) (w : World), Ready w → Lists w a n c L →
  Calls Tryd.prog 20 #[.slice a n c] w fun e w' => ∃ xa xn xc, e = .returned (.tuple #[.slice xa xn xc, faultV (wrongL L)]) ∧ ((wrongL L).1 = 0 → w'.ownsRow w.heap.size 5 1 (.slice xa xn xc) 32 ((mth L).map (Value.int .u8))) ∧ ((wrongL L).1 ≠ 0 → xn = 0) ∧ Below w.heap.size w w'
end Go.Proofs.YtkjlchfmplcobadDoor

/- What the laws of chapter 2 that go without the document's answer lean on. -/
namespace Go.Proofs.YtkjlchfmplcobadDoor
open Go.RowKit

theorem bytes_mem {L : List (List Int)} (h : ∀ x ∈ L, Bytes x) (j : Nat) : Bytes (L.getD j []) := by
  rw [List.getD_eq_getElem?_getD]
  by_cases hj : j < L.length
  · rw [List.getElem?_eq_getElem hj]; exact h _ (List.getElem_mem hj)
  · rw [List.getElem?_eq_none (by omega)]; exact nil_bytes
theorem own_nil {w : World} {base : Nat} {e : TypeId} {a : Option Addr} {n c m : Nat} {xs : List Value} (h : w.ownsRow base e 1 (.slice a n c) m xs) (ha : a = none) : n = 0 ∧ c = 0 := by
  subst ha
  rcases h.2 with ⟨h1, -⟩ | ⟨g, cap, cur, h1, -⟩
  · simp at h1; exact h1
  · simp at h1
/-- What a face answers is what a face is given. -/
theorem OwnParts.lists {w : World} {base : Nat} {xa : Option Addr} {xn xc : Nat} {L : List (List Int)} (h : OwnParts w base (.slice xa xn xc) L) (hb : ∀ x ∈ L, Bytes x) (hs : ∀ j, (L.getD j []).length ≤ maxLen) : Lists w xa xn xc L := by
  have hp := h.parts
  obtain ⟨a, c, e, h1, h2⟩ := h.form
  cases e
  obtain ⟨vs, hr, -⟩ := h
  exact ⟨rfl, hp, h1, h2, own_nil hr, bytes_mem hb, hs⟩
theorem own_len {w : World} {base : Nat} {e : TypeId} {a : Option Addr} {n c m : Nat} {xs : List Value} (h : w.ownsRow base e 1 (.slice a n c) m xs) : n = m := by
  obtain ⟨a', c', e'⟩ := own_form' h
  cases e'
  rfl
theorem Lists.take {w : World} {a : Option Addr} {n c k : Nat} {L : List (List Int)} (h : Lists w a n c L) (hk : k ≤ n) (h0 : 0 < n) : Lists w a k c (L.take k) :=
  ⟨by rw [List.length_take]; have := h.len; omega, h.at'.take h.len hk h0 _, by have := h.room; omega, h.cap, fun ha => by have := h.nil ha; omega, take_bytes h.bytes k, take_short h.short k⟩
theorem Lists.get {w : World} {a : Option Addr} {n c : Nat} {L : List (List Int)} (h : Lists w a n c L) (j : Nat) (hj : j < n) : ∃ b off pa pc, a = some ⟨b, off, none⟩ ∧ w.cell? ⟨b, off + j, none⟩ = some (.slice pa (L.getD j []).length pc) ∧ Some' w (.slice pa (L.getD j []).length pc) (L.getD j []) := by
  obtain ⟨a0, c0, e0, hcell⟩ := h.at'.form
  rw [h.len] at e0 hcell
  cases e0
  obtain ⟨b, off, rfl, -, hc⟩ := hcell.resolve_left (by omega)
  obtain ⟨pa, pc, h1, h2⟩ := hc j hj
  exact ⟨b, off, pa, pc, rfl, h1, h2, h.bytes j, h.short j⟩

theorem wrong_zero {L : List (List Int)} (h1 : L.length ≤ 100) (h2 : ∀ j, (L.getD j []).length ≤ 200) : wrongL L = (0, 0) := by
  unfold wrongL; rw [if_neg (by omega)]; exact wrong_none 0 (fun j _ => h2 j)

/-- The three leaves. -/
def three : List (List Int) := [[1], [2], [3]]
end Go.Proofs.YtkjlchfmplcobadDoor

/- Chapter 5's mathematics: manifests, what is laid away, and what is read of it. -/
namespace Go.Proofs.YtkjlchfmplcobadDoor

structure Seg where
  first : Int
  count : Int
  packed : List Int
structure Man where
  size : Int
  root : List Int
  segs : List Seg
def seg0 : Seg := ⟨0, 0, []⟩
def man0 : Man := ⟨0, [], []⟩
/-- Segment k of entries. -/
def segK (L : List (List Int)) (k : Nat) : Seg := ⟨((8 * k : Nat) : Int), ((min 8 (L.length - 8 * k) : Nat) : Int), packL (layL ((L.drop (8 * k)).take 8))⟩
def segsN (L : List (List Int)) (n : Nat) : List Seg := (List.range n).map (segK L)
def segsL (L : List (List Int)) : List Seg := segsN L ((L.length + 7) / 8)
theorem segsN_snoc (L : List (List Int)) (n : Nat) : segsN L (n + 1) = segsN L n ++ [segK L n] := by unfold segsN; rw [List.range_succ, List.map_append]; rfl
theorem segsN_length (L : List (List Int)) (n : Nat) : (segsN L n).length = n := by unfold segsN; simp
theorem segsN_get (L : List (List Int)) (n k : Nat) (h : k < n) : (segsN L n).getD k seg0 = segK L k := by
  unfold segsN; rw [List.getD_eq_getElem?_getD, List.getElem?_map, List.getElem?_range h]; rfl
/-- What Export tells. -/
def exportL (L : List (List Int)) : Man := if (wrongL L).1 ≠ 0 then man0 else ⟨L.length, mth L, segsL L⟩
/-- The segment stands where segment k must. -/
def fitB (size k : Int) (s : Seg) : Bool := decide (0 ≤ size ∧ size ≤ 100 ∧ k ≤ 100 ∧ s.first = k * 8 ∧ 1 ≤ s.count ∧ s.count = min 8 (size - s.first))
theorem fitB_iff {size k : Int} {s : Seg} : fitB size k s = true ↔ 0 ≤ size ∧ size ≤ 100 ∧ k ≤ 100 ∧ s.first = k * 8 ∧ 1 ≤ s.count ∧ s.count = min 8 (size - s.first) := by unfold fitB; simp
/-- What a segment's bytes tell. -/
def readSeg (s : Seg) : List (List Int) × Int :=
  if (unpackL s.packed).2 ≠ 0 then ([], (unpackL s.packed).2) else
  match takeL s.count.toNat (unpackL s.packed).1 with
  | none => ([], 2)
  | some l => (l, 0)
/-- What Segment tells. -/
def segmentL (m : Man) (k : Int) : List (List Int) × Int :=
  if k < 0 ∨ (m.segs.length : Int) ≤ k then ([], 6) else
  if fitB m.size k (m.segs.getD k.toNat seg0) = false then ([], 7) else readSeg (m.segs.getD k.toNat seg0)
/-- What Entry tells. -/
def entryL (m : Man) (i : Int) : List Int × Int :=
  if i < 0 ∨ m.size ≤ i then ([], 6) else
  if (segmentL m (i / 8)).2 ≠ 0 then ([], (segmentL m (i / 8)).2) else ((segmentL m (i / 8)).1.getD (i % 8).toNat [], 0)
/-- The entries of the segments ahead of k. -/
def upTo (m : Man) (k : Nat) : List (List Int) := (List.range k).flatMap (fun (j : Nat) => (segmentL m (j : Int)).1)
theorem upTo_zero (m : Man) : upTo m 0 = [] := rfl
theorem upTo_succ (m : Man) (k : Nat) : upTo m (k + 1) = upTo m k ++ (segmentL m (k : Int)).1 := by unfold upTo; rw [List.range_succ, List.flatMap_append]; simp
def manyB (m : Man) : Bool := decide (0 ≤ m.size ∧ m.size ≤ 100 ∧ (m.segs.length : Int) = (m.size + 7) / 8)
/-- The first segment that is not as it must be. -/
def badK (m : Man) : Option Nat := (List.range m.segs.length).find? (fun (k : Nat) => decide ((segmentL m (k : Int)).2 ≠ 0))
/-- What Verify tells. -/
def verifyL (m : Man) : List (List Int) × Int × Int :=
  if manyB m = false then ([], 5, 0) else
  match badK m with
  | some k => ([], (segmentL m (k : Int)).2, (k : Int))
  | none => if mth (upTo m m.segs.length) ≠ m.root then ([], 9, 0) else (upTo m m.segs.length, 0, 0)
theorem find_range {p : Nat → Bool} {n k : Nat} (hk : k < n) (h : p k = true) (hb : ∀ j, j < k → p j = false) : (List.range n).find? p = some k := by
  induction n with
  | zero => omega
  | succ n ih =>
    rw [List.range_succ, List.find?_append]
    by_cases hkn : k < n
    · rw [ih hkn]; rfl
    · obtain rfl : k = n := by omega
      rw [List.find?_eq_none.2 (fun x hx => by have := hb x (List.mem_range.1 hx); simp [this])]
      simp [h]
theorem find_none {p : Nat → Bool} {n : Nat} (hb : ∀ j, j < n → p j = false) : (List.range n).find? p = none :=
  List.find?_eq_none.2 (fun x hx => by have := hb x (List.mem_range.1 hx); simp [this])
theorem verify_many {m : Man} (h : manyB m = false) : verifyL m = ([], 5, 0) := by rw [verifyL, if_pos h]
theorem verify_bad {m : Man} {k : Nat} (h : manyB m = true) (hk : k < m.segs.length) (hb : ∀ j : Nat, j < k → (segmentL m (j : Int)).2 = 0) (he : (segmentL m (k : Int)).2 ≠ 0) : verifyL m = ([], (segmentL m (k : Int)).2, (k : Int)) := by
  have : badK m = some k := find_range hk (decide_eq_true he) (fun j hj => decide_eq_false (fun h => h (hb j hj)))
  rw [verifyL, if_neg (by rw [h]; decide), this]
theorem verify_good {m : Man} (h : manyB m = true) (hb : ∀ j : Nat, j < m.segs.length → (segmentL m (j : Int)).2 = 0) : verifyL m = if mth (upTo m m.segs.length) ≠ m.root then ([], 9, 0) else (upTo m m.segs.length, 0, 0) := by
  have : badK m = none := find_none (fun j hj => decide_eq_false (fun h => h (hb j hj)))
  rw [verifyL, if_neg (by rw [h]; decide), this]
/-- What is verified. -/
theorem verify_spec {m : Man} (h : (verifyL m).2.1 = 0) : verifyL m = (upTo m m.segs.length, 0, 0) ∧ manyB m = true ∧ (∀ j : Nat, j < m.segs.length → (segmentL m (j : Int)).2 = 0) ∧ mth (upTo m m.segs.length) = m.root := by
  by_cases hm : manyB m = true
  · rcases hK : badK m with _ | k
    · have hb : ∀ j : Nat, j < m.segs.length → (segmentL m (j : Int)).2 = 0 := fun j hj => by
        have := List.find?_eq_none.1 hK j (List.mem_range.2 hj)
        simpa using this
      have e := verify_good hm hb
      by_cases hr : mth (upTo m m.segs.length) ≠ m.root
      · rw [e, if_pos hr] at h; exact absurd h (by decide)
      · rw [e, if_neg hr]
        exact ⟨rfl, hm, hb, by simpa using hr⟩
    · have h1 := List.find?_some hK
      rw [verifyL, if_neg (by rw [hm]; decide), hK] at h
      exact absurd h (by simpa using h1)
  · rw [verify_many (by simpa using hm)] at h; exact absurd h (by decide)
theorem verify_err {m : Man} (h : (verifyL m).2.1 ≠ 0) : (verifyL m).1 = [] := by
  unfold verifyL at h ⊢
  by_cases hm : manyB m = false
  · rw [if_pos hm]
  · rw [if_neg hm] at h ⊢
    cases hb : badK m with
    | some k => rfl
    | none =>
      rw [hb] at h
      dsimp only at h ⊢
      by_cases hr : mth (upTo m m.segs.length) ≠ m.root
      · rw [if_pos hr]
      · rw [if_neg hr] at h; exact absurd rfl h
/-- A segment that is read. -/
theorem segment_ok {m : Man} {k : Int} (h : (segmentL m k).2 = 0) : 0 ≤ k ∧ k < m.segs.length ∧ fitB m.size k (m.segs.getD k.toNat seg0) = true ∧ (unpackL (m.segs.getD k.toNat seg0).packed).2 = 0 ∧ takeL (m.segs.getD k.toNat seg0).count.toNat (unpackL (m.segs.getD k.toNat seg0).packed).1 = some (segmentL m k).1 := by
  unfold segmentL at h ⊢
  by_cases h1 : k < 0 ∨ (m.segs.length : Int) ≤ k
  · rw [if_pos h1] at h; exact absurd h (by decide)
  rw [if_neg h1] at h ⊢
  by_cases h2 : fitB m.size k (m.segs.getD k.toNat seg0) = false
  · rw [if_pos h2] at h; exact absurd h (by decide)
  rw [if_neg h2] at h ⊢
  unfold readSeg at h ⊢
  by_cases h3 : (unpackL (m.segs.getD k.toNat seg0).packed).2 ≠ 0
  · rw [if_pos h3] at h; exact absurd h h3
  rw [if_neg h3] at h ⊢
  refine ⟨by omega, by omega, by simpa using h2, by simpa using h3, ?_⟩
  cases h4 : takeL (m.segs.getD k.toNat seg0).count.toNat (unpackL (m.segs.getD k.toNat seg0).packed).1 with
  | none => rw [h4] at h; exact absurd h (by decide)
  | some l => rfl
theorem segment_err {m : Man} {k : Int} (h : (segmentL m k).2 ≠ 0) : (segmentL m k).1 = [] := by
  unfold segmentL at h ⊢
  split
  · rfl
  · rename_i h1
    rw [if_neg h1] at h
    split
    · rfl
    · rename_i h2
      rw [if_neg h2] at h
      unfold readSeg at h ⊢
      split
      · rfl
      · rename_i h3
        rw [if_neg h3] at h
        split
        · rfl
        · rename_i l h4
          rw [h4] at h
          exact absurd rfl h
theorem segment_len {m : Man} {k : Int} (h : (segmentL m k).2 = 0) : ((segmentL m k).1.length : Int) = (m.segs.getD k.toNat seg0).count ∧ ∀ e ∈ (segmentL m k).1, e.length ≤ 200 := by
  obtain ⟨-, -, h3, -, h5⟩ := segment_ok h
  obtain ⟨h6, h7⟩ := takeL_len _ _ _ h5
  have := fitB_iff.1 h3
  exact ⟨by omega, h7⟩
theorem segment_mem (m : Man) (k : Int) : ∀ e ∈ (segmentL m k).1, ∀ x ∈ e, x ∈ (m.segs.getD k.toNat seg0).packed ∨ x = 0 := by
  by_cases h : (segmentL m k).2 = 0
  · obtain ⟨-, -, -, -, h5⟩ := segment_ok h
    intro e he x hx
    exact unpack_mem _ x (takeL_mem _ _ _ h5 e he x hx)
  · rw [segment_err h]; simp
theorem segment_few (m : Man) (k : Int) : (segmentL m k).1.length ≤ 8 ∧ ∀ e ∈ (segmentL m k).1, e.length ≤ 200 := by
  by_cases h : (segmentL m k).2 = 0
  · obtain ⟨h1, h2⟩ := segment_len h
    obtain ⟨-, -, h3, -, -⟩ := segment_ok h
    have := fitB_iff.1 h3
    exact ⟨by omega, h2⟩
  · rw [segment_err h]; simp
/-- How many entries came. -/
theorem upTo_length {m : Man} (hm : manyB m = true) : ∀ k : Nat, k ≤ m.segs.length → (∀ j : Nat, j < k → (segmentL m (j : Int)).2 = 0) → ((upTo m k).length : Int) = min (8 * (k : Int)) m.size
  | 0, _, _ => by unfold manyB at hm; simp at hm; rw [upTo_zero]; simp; omega
  | k + 1, hk, hb => by
    have h1 := upTo_length hm k (by omega) (fun j hj => hb j (by omega))
    obtain ⟨h2, -⟩ := segment_len (hb k (by omega))
    obtain ⟨-, -, h3, -, -⟩ := segment_ok (hb k (by omega))
    have h4 := fitB_iff.1 h3
    unfold manyB at hm
    simp at hm
    rw [upTo_succ, List.length_append]
    omega
theorem upTo_all {m : Man} (h : (verifyL m).2.1 = 0) : ((upTo m m.segs.length).length : Int) = m.size ∧ ∀ k : Nat, k < m.segs.length → (m.segs.getD k seg0).first = (upTo m k).length := by
  obtain ⟨-, hm, hb, -⟩ := verify_spec h
  have hm' := hm
  unfold manyB at hm'
  simp at hm'
  refine ⟨by rw [upTo_length hm _ (Nat.le_refl _) hb]; omega, fun k hk => ?_⟩
  obtain ⟨-, -, h3, -, -⟩ := segment_ok (hb k hk)
  have h4 := fitB_iff.1 h3
  rw [upTo_length hm k (by omega) (fun j hj => hb j (by omega))]
  rw [Int.toNat_natCast] at h4
  omega
theorem upTo_few (m : Man) : ∀ k : Nat, (upTo m k).length ≤ 8 * k ∧ ∀ e ∈ upTo m k, e.length ≤ 200
  | 0 => by rw [upTo_zero]; simp
  | k + 1 => by
    obtain ⟨h1, h2⟩ := upTo_few m k
    obtain ⟨h3, h4⟩ := segment_few m k
    rw [upTo_succ]
    refine ⟨by rw [List.length_append]; omega, fun e he => ?_⟩
    rcases List.mem_append.1 he with he | he
    · exact h2 e he
    · exact h4 e he
theorem verify_few {m : Man} : (verifyL m).1.length ≤ 100 ∧ ∀ e ∈ (verifyL m).1, e.length ≤ 200 := by
  by_cases h : (verifyL m).2.1 = 0
  · obtain ⟨h1, h2, -⟩ := verify_spec h
    have h3 := (upTo_all h).1
    unfold manyB at h2
    simp at h2
    rw [h1]
    exact ⟨by show (upTo m m.segs.length).length ≤ 100; omega, (upTo_few m _).2⟩
  · rw [verify_err h]; simp
/-- What is laid away is there. -/
theorem short_part {L : List (List Int)} (h : ∀ e ∈ L, e.length ≤ 200) (k : Nat) : ∀ e ∈ (L.drop (8 * k)).take 8, e.length ≤ 200 := fun e he => h e (List.mem_of_mem_drop (List.mem_of_mem_take he))
theorem lay_part {L : List (List Int)} (h : ∀ e ∈ L, e.length ≤ 200) (k : Nat) : (layL ((L.drop (8 * k)).take 8)).length ≤ 4000 := by
  have h1 := layL_length _ (short_part h k)
  have h2 : ((L.drop (8 * k)).take 8).length ≤ 8 := by rw [List.length_take]; omega
  omega
end Go.Proofs.YtkjlchfmplcobadDoor

/- What the laws of chapter 5 ask of package shelf's faces, as propositions: each is shown of the landed code elsewhere. Manifests in memory. -/
namespace Go.Proofs.YtkjlchfmplcobadDoor
open Go.RowKit

/-- A segment's bytes as the walks meet them. -/
def PackedAt (w : World) (b o : Nat) (d : List Int) : Prop := ∃ pa pc, w.cell? ⟨b, o, none⟩ = some (.slice pa d.length pc) ∧ Some' w (.slice pa d.length pc) d ∧ d.length ≤ pc ∧ pc ≤ maxLen
/-- Segments as the walks meet them. -/
def SegsAt (w : World) (v : Value) (l : List Seg) : Prop :=
  ∃ a c, v = .slice a l.length c ∧ l.length ≤ c ∧ c ≤ maxLen ∧ (a = none → c = 0) ∧ (l.length = 0 ∨ ∃ b off, a = some ⟨b, off, none⟩ ∧ b < w.heap.size ∧
    ∀ j, j < l.length → w.cell? ⟨b, off + j * 3, none⟩ = some (.int .i64 (l.getD j seg0).first) ∧ w.cell? ⟨b, off + j * 3 + 1, none⟩ = some (.int .i64 (l.getD j seg0).count) ∧ PackedAt w b (off + j * 3 + 2) (l.getD j seg0).packed)
theorem PackedAt.below {w w' : World} {b o : Nat} {d : List Int} (h : PackedAt w b o d) (hb : b < w.heap.size) (hw : Below w.heap.size w w') : PackedAt w' b o d := by
  obtain ⟨pa, pc, h1, h2, h3⟩ := h
  exact ⟨pa, pc, by rw [hw.cell (p := ⟨b, o, none⟩) hb]; exact h1, h2.below hw, h3⟩
theorem SegsAt.below {w w' : World} {v : Value} {l : List Seg} (h : SegsAt w v l) (hw : Below w.heap.size w w') : SegsAt w' v l := by
  obtain ⟨a, c, h1, h2, h3, h4, h5⟩ := h
  refine ⟨a, c, h1, h2, h3, h4, ?_⟩
  rcases h5 with h5 | ⟨b, off, h6, h7, h8⟩
  · exact .inl h5
  · refine .inr ⟨b, off, h6, Nat.lt_of_lt_of_le h7 hw.size, fun j hj => ?_⟩
    obtain ⟨c0, c1, c2⟩ := h8 j hj
    exact ⟨by rw [hw.cell (p := ⟨b, off + j * 3, none⟩) h7]; exact c0, by rw [hw.cell (p := ⟨b, off + j * 3 + 1, none⟩) h7]; exact c1, c2.below h7 hw⟩
theorem segsAt_nil (w : World) : SegsAt w (.slice none 0 0) [] := ⟨none, 0, rfl, Nat.le_refl _, Nat.zero_le _, fun _ => rfl, .inl rfl⟩
/-- A manifest as the walks meet it. -/
def ManAt (w : World) (v : Value) (m : Man) : Prop := ∃ rv sv, v = .agg #[.int .i64 m.size, rv, sv] ∧ Some' w rv m.root ∧ SegsAt w sv m.segs
theorem ManAt.below {w w' : World} {v : Value} {m : Man} (h : ManAt w v m) (hw : Below w.heap.size w w') : ManAt w' v m := by
  obtain ⟨rv, sv, h1, h2, h3⟩ := h
  exact ⟨rv, sv, h1, h2.below hw, h3.below hw⟩
theorem some_nil (w : World) : Some' w (.slice none 0 0) [] := ⟨bytesAt_nil w, nil_bytes, Nat.zero_le _⟩
theorem man0_at (w : World) : ManAt w (.agg #[.int .i64 0, .slice none 0 0, .slice none 0 0]) man0 := ⟨_, _, rfl, some_nil w, segsAt_nil w⟩
theorem lists_nil (w : World) : Lists w none 0 0 [] := ⟨rfl, .inl ⟨rfl, none, 0, rfl⟩, Nat.le_refl _, Nat.zero_le _, fun _ => ⟨rfl, rfl⟩, fun j => by simp; exact nil_bytes, fun j => by simp⟩
/-- What is read of bytes is bytes. -/
theorem bytes_forall {l : List Int} (h : Bytes l) : ∀ x ∈ l, 0 ≤ x ∧ x < 256 := fun x hx => by
  obtain ⟨j, hj, rfl⟩ := List.mem_iff_getElem.1 hx
  have := h j
  rwa [List.getD_eq_getElem?_getD, List.getElem?_eq_getElem hj] at this
theorem unpack_bytes {b : List Int} (h : Bytes b) : Bytes (unpackL b).1 := bytes_of_mem (fun x hx => by
  rcases unpack_mem b x hx with g | g
  · exact bytes_forall h x g
  · omega)
theorem takeL_bytes {b : List Int} (h : Bytes b) {n : Nat} {l : List (List Int)} (hl : takeL n b = some l) : ∀ j, Bytes (l.getD j []) := bytes_mem (fun e he => bytes_of_mem (fun x hx => bytes_forall h x (takeL_mem n b l hl e he x hx)))
def SegsBytes (l : List Seg) : Prop := ∀ j, Bytes (l.getD j seg0).packed
theorem SegsAt.bytes {w : World} {v : Value} {l : List Seg} (h : SegsAt w v l) : SegsBytes l := fun j => by
  obtain ⟨a, c, -, -, -, -, h5⟩ := h
  by_cases hj : j < l.length
  · rcases h5 with h5 | ⟨b, off, -, -, h8⟩
    · omega
    · obtain ⟨-, -, pa, pc, -, h2, -⟩ := h8 j hj
      exact h2.bytes
  · rw [List.getD_eq_getElem?_getD, List.getElem?_eq_none (by omega)]; exact nil_bytes
theorem segment_bytes {m : Man} (h : SegsBytes m.segs) (k : Int) : ∀ j, Bytes ((segmentL m k).1.getD j []) := bytes_mem (fun e he => bytes_of_mem (fun x hx => by
  rcases segment_mem m k e he x hx with g | g
  · exact bytes_forall (h k.toNat) x g
  · omega))
theorem upTo_bytes {m : Man} (h : SegsBytes m.segs) (k : Nat) : ∀ e ∈ upTo m k, Bytes e := fun e he => by
  unfold upTo at he
  obtain ⟨j, -, hj⟩ := List.mem_flatMap.1 he
  obtain ⟨i, hi, rfl⟩ := List.mem_iff_getElem.1 hj
  have := segment_bytes h (j : Int) i
  rwa [List.getD_eq_getElem?_getD, List.getElem?_eq_getElem hi] at this
/-- A slice of bytes that lies in a block of bytes. -/
def ByteEl (w : World) (y : Value) (d : List Int) : Prop :=
  (d = [] ∧ ∃ a c, y = .slice a 0 c ∧ (a = none → c = 0)) ∨ ∃ g off c cur mk, y = .slice (some ⟨g, off, none⟩) d.length c ∧ w.heap[g]? = some (.cells cur 5 mk) ∧ ∀ j, j < d.length → w.cell? ⟨g, off + j, none⟩ = some (.int .u8 (d.getD j 0))
theorem ByteEl.bytes {w : World} {y : Value} {d : List Int} (h : ByteEl w y d) : BytesAt w y d := by
  rcases h with h | ⟨g, off, c, cur, mk, h1, h2, h3⟩
  · exact .inl h
  · exact .inr ⟨g, off, c, h1, lt_heap h2, h3⟩
theorem ByteEl.one {w : World} {y : Value} {d : List Int} (h : ByteEl w y d) : y.oneCell' = true := by
  rcases h with ⟨-, a, c, rfl, -⟩ | ⟨g, off, c, cur, mk, rfl, -⟩ <;> rfl
theorem ByteEl.below {w w' : World} {y : Value} {d : List Int} {N : Nat} (h : ByteEl w y d) (hb : Below N w w') (hN : w.heap.size ≤ N) : ByteEl w' y d := by
  rcases h with h | ⟨g, off, c, cur, mk, h1, h2, h3⟩
  · exact .inl h
  · have hg := lt_heap h2
    exact .inr ⟨g, off, c, cur, mk, h1, by rw [hb.block g (by omega)]; exact h2, fun j hj => by rw [hb.cell (p := ⟨g, off + j, none⟩) (show g < N by omega)]; exact h3 j hj⟩
theorem ByteEl.same {w w' : World} {y : Value} {d : List Int} (h : ByteEl w y d) (hs : ∀ (g : Nat) (cur : Array Value) (mk : Nat × Nat), w.heap[g]? = some (Obj.cells cur 5 mk) → w'.heap[g]? = w.heap[g]?) : ByteEl w' y d := by
  rcases h with h | ⟨g, off, c, cur, mk, h1, h2, h3⟩
  · exact .inl h
  · have h4 := (hs g cur mk h2).trans h2
    exact .inr ⟨g, off, c, cur, mk, h1, h4, fun j hj => by rw [cell_of_row w' g (off + j) cur _ mk h4, ← cell_of_row w g (off + j) cur _ mk h2]; exact h3 j hj⟩
theorem own_apart {w : World} {base g n size : Nat} {e t : TypeId} {v : Value} {xs : List Value} {cur : Array Value} {mk : Nat × Nat} (h : w.ownsRow base e size v n xs) (hne : t ≠ e) (hg : w.heap[g]? = some (.cells cur t mk)) : some g ≠ v.ownBlock := fun hh => by
  rcases h.2 with ⟨rfl, -⟩ | ⟨k, cap, cu, rfl, -, hk, -⟩
  · cases hh
  · cases hh
    rw [hk] at hg
    cases hg
    exact hne rfl
theorem ByteEl.kept {w w' : World} {base n size : Nat} {e : TypeId} {v : Value} {xs : List Value} {y : Value} {d : List Int} (h : ByteEl w y d) (hr : w.ownsRow base e size v n xs) (hne : 5 ≠ e) (hg : w.grownBy w' v.ownBlock) : ByteEl w' y d :=
  h.same (fun g _ _ h2 => hg.block g (lt_heap h2) (own_apart hr hne h2))
theorem byteEl_own {w : World} {base n : Nat} {v : Value} {d : List Int} (h : w.ownsRow base 5 1 v n (d.map (Value.int .u8))) : ByteEl w v d := by
  have hl : d.length = n := by simpa using h.1
  rcases h.2 with ⟨hv, hn⟩ | ⟨g, cap, cur, hv, -, hg, -⟩
  · subst hn
    exact .inl ⟨List.eq_nil_of_length_eq_zero hl, none, 0, hv, fun _ => rfl⟩
  · subst hl
    subst hv
    refine .inr ⟨g, 0, cap, cur, _, rfl, hg, fun j hj => ?_⟩
    rw [Nat.zero_add, h.cellAt j (by omega), List.getElem?_map, List.getElem?_eq_getElem hj, List.getD_eq_getElem?_getD, List.getElem?_eq_getElem hj]
    rfl
/-- Values, each of them such a slice. -/
def Els (w : World) (vs : List Value) (L : List (List Int)) : Prop := vs.length = L.length ∧ ∀ j, j < L.length → ∃ y, vs[j]? = some y ∧ ByteEl w y (L.getD j [])
theorem els_nil (w : World) : Els w [] [] := ⟨rfl, fun _ h => absurd h (Nat.not_lt_zero _)⟩
theorem Els.below {w w' : World} {vs : List Value} {L : List (List Int)} {N : Nat} (h : Els w vs L) (hb : Below N w w') (hN : w.heap.size ≤ N) : Els w' vs L := ⟨h.1, fun j hj => by obtain ⟨y, h1, h2⟩ := h.2 j hj; exact ⟨y, h1, h2.below hb hN⟩⟩
theorem Els.kept {w w' : World} {base n size : Nat} {e : TypeId} {v : Value} {xs vs : List Value} {L : List (List Int)} (h : Els w vs L) (hr : w.ownsRow base e size v n xs) (hne : 5 ≠ e) (hg : w.grownBy w' v.ownBlock) : Els w' vs L := ⟨h.1, fun j hj => by obtain ⟨y, h1, h2⟩ := h.2 j hj; exact ⟨y, h1, h2.kept hr hne hg⟩⟩
theorem Els.append {w : World} {vs us : List Value} {L M : List (List Int)} (h : Els w vs L) (k : Els w us M) : Els w (vs ++ us) (L ++ M) := by
  refine ⟨by rw [List.length_append, List.length_append, h.1, k.1], fun j hj => ?_⟩
  by_cases hlt : j < L.length
  · obtain ⟨y, h1, h2⟩ := h.2 j hlt
    exact ⟨y, by rw [List.getElem?_append_left (by rw [h.1]; exact hlt)]; exact h1, by rw [List.getD_eq_getElem?_getD, List.getElem?_append_left hlt, ← List.getD_eq_getElem?_getD]; exact h2⟩
  · obtain ⟨y, h1, h2⟩ := k.2 (j - L.length) (by rw [List.length_append] at hj; omega)
    exact ⟨y, by rw [List.getElem?_append_right (by rw [h.1]; omega), h.1]; exact h1, by rw [List.getD_eq_getElem?_getD, List.getElem?_append_right (by omega), ← List.getD_eq_getElem?_getD]; exact h2⟩
theorem Els.one {w : World} {vs : List Value} {L : List (List Int)} (h : Els w vs L) : ∀ u ∈ vs, u.oneCell' = true := fun u hu => by
  obtain ⟨j, hj, rfl⟩ := List.mem_iff_getElem.1 hu
  obtain ⟨y, h1, h2⟩ := h.2 j (by rw [← h.1]; exact hj)
  rw [List.getElem?_eq_getElem hj] at h1
  cases h1
  exact h2.one
theorem byteEls_one {w : World} {y : Value} {d : List Int} (h : ByteEl w y d) : Els w [y] [d] := ⟨rfl, fun j hj => by
  obtain rfl : j = 0 := by simpa using hj
  exact ⟨y, rfl, h⟩⟩
/-- A list as it comes in whose bytes lie in blocks of bytes. -/
structure Laid (w : World) (a : Option Addr) (n c : Nat) (L : List (List Int)) : Prop where
  lists : Lists w a n c L
  els : ∃ vs, Els w vs L ∧ ∀ ad, a = some ad → ∀ j u, vs[j]? = some u → w.cell? (ad.add j) = some u
theorem laid_nil (w : World) : Laid w none 0 0 [] := ⟨lists_nil w, [], els_nil w, fun _ _ j u h => by simp at h⟩
theorem Laid.below {w w' : World} {a : Option Addr} {n c : Nat} {L : List (List Int)} (h : Laid w a n c L) (hb : Below w.heap.size w w') : Laid w' a n c L := by
  obtain ⟨vs, h1, h2⟩ := h.els
  refine ⟨h.lists.below hb, vs, h1.below hb (Nat.le_refl _), fun ad ha j u hu => ?_⟩
  have hc := h2 ad ha j u hu
  rw [hb.cell (p := ad.add j) (World.block_lt_of_cell? w _ hc)]
  exact hc
theorem laid_own {w : World} {base : Nat} {a : Option Addr} {n c : Nat} {vs : List Value} {L : List (List Int)} (hr : w.ownsRow base 23 1 (.slice a n c) n vs) (he : Els w vs L) (hl : L.length = n) (hb : ∀ x ∈ L, Bytes x) (hs : ∀ x ∈ L, x.length ≤ maxLen) : Laid w a n c L := by
  have hcell : ∀ ad, a = some ad → ∀ j u, vs[j]? = some u → w.cell? (ad.add j) = some u := fun ad ha j u hu => by
    have hj : j < n := by have := (List.getElem?_eq_some_iff.1 hu).1; rw [he.1, hl] at this; exact this
    obtain ⟨g, hg, -⟩ := own_some hr (by omega)
    subst ha
    cases hg
    have e : (⟨g, 0, none⟩ : Addr).add j = ⟨g, 0 + j, none⟩ := Addr.add_mid _ _ _
    rw [e, Nat.zero_add, hr.cellAt j (by omega)]
    exact hu
  obtain ⟨a', c', e', h1, h2⟩ := own_cap hr
  cases e'
  refine ⟨⟨hl, ?_, h1, h2, own_nil hr, bytes_mem hb, short_mem hs⟩, vs, he, hcell⟩
  by_cases h0 : n = 0
  · subst h0
    exact .inl ⟨List.eq_nil_of_length_eq_zero hl, _, _, rfl⟩
  · obtain ⟨g, rfl, -, hg, -⟩ := own_some hr h0
    refine .inr ⟨g, 0, c, by rw [hl], hg, fun j hj => ?_⟩
    obtain ⟨y, h3, h4⟩ := he.2 j hj
    obtain ⟨ya, yc, rfl⟩ := h4.bytes.form
    have e : (⟨g, 0, none⟩ : Addr).add j = ⟨g, 0 + j, none⟩ := Addr.add_mid _ _ _
    have := hcell _ rfl j _ h3
    rw [e] at this
    exact ⟨_, _, _, this, h4.bytes⟩
/-- The faces. -/
def ExportC : Prop := ∀ (L : List (List Int)) (a : Option Addr) (n c : Nat) (w : World), Ready w → Lists w a n c L →
  Calls Tryd.prog 7 #[.slice a n c] w fun e w' => ∃ mv, e = .returned (.tuple #[mv, faultV (wrongL L)]) ∧ ManAt w' mv (exportL L) ∧ Below w.heap.size w w'
def SegmentC : Prop := ∀ (m : Man) (k : Int) (mv : Value) (w : World), ManAt w mv m →
  Calls Tryd.prog 10 #[mv, .int .i64 k] w fun e w' => ∃ xa xn xc, e = .returned (.tuple #[.slice xa xn xc, .int .i64 (segmentL m k).2]) ∧ Laid w' xa xn xc (segmentL m k).1 ∧ Below w.heap.size w w'
def EntryC : Prop := ∀ (m : Man) (i : Int) (mv : Value) (w : World), ManAt w mv m → i ≤ 9223372036854775807 →
  Calls Tryd.prog 13 #[mv, .int .i64 i] w fun e w' => ∃ v, e = .returned (.tuple #[v, .int .i64 (entryL m i).2]) ∧ Some' w' v (entryL m i).1 ∧ Below w.heap.size w w'
def VerifyC : Prop := ∀ (m : Man) (mv : Value) (w : World), Ready w → ManAt w mv m →
  Calls Tryd.prog 16 #[mv] w fun e w' => ∃ xa xn xc, e = .returned (.tuple #[.slice xa xn xc, faultV (verifyL m).2]) ∧ Laid w' xa xn xc (verifyL m).1 ∧ Below w.heap.size w w'

end Go.Proofs.YtkjlchfmplcobadDoor

/- Variables that are set, and lists that lie elsewhere. -/
namespace Go.Proofs.YtkjlchfmplcobadDoor
open Go.RowKit

theorem box2_set {w : World} {k : Nat} {u v u' v' : Value} {t : TypeId} (h : w.heap[k]? = some (.cells #[u, v] t (0, 0))) :
    ((w.setCell ⟨k, 0, none⟩ u').setCell ⟨k, 1, none⟩ v').heap[k]? = some (.cells #[u', v'] t (0, 0)) := by
  have h0 := heap_setCell_same _ _ 0 _ _ u' h
  have h1 := heap_setCell_same _ _ 1 _ _ v' h0
  exact h1
/-- Setting a variable that is no row of bytes, nor of slices of them. -/
theorem Laid.set {w : World} {a : Option Addr} {n c k o : Nat} {L : List (List Int)} {cs : Array Value} {t : TypeId} {mk : Nat × Nat} (h : Laid w a n c L) (hk : w.heap[k]? = some (.cells cs t mk)) (h1 : 5 ≠ t) (h2 : n ≠ 0 → ∀ g off, a = some ⟨g, off, none⟩ → g ≠ k) (u : Value) : Laid (w.setCell ⟨k, o, none⟩ u) a n c L := by
  obtain ⟨hl, vs, he, hc⟩ := h
  have hB : ∀ y d, ByteEl w y d → ByteEl (w.setCell ⟨k, o, none⟩ u) y d := fun y d hy => hy.same (fun g cur mk' hg => by
    rw [heap_setCell_other w ⟨k, o, none⟩ g u (fun e => ?_)]
    have e : g = k := e
    subst e
    rw [hg] at hk
    cases hk
    exact h1 rfl)
  have he' : Els (w.setCell ⟨k, o, none⟩ u) vs L := ⟨he.1, fun j hj => by obtain ⟨y, q1, q2⟩ := he.2 j hj; exact ⟨y, q1, hB _ _ q2⟩⟩
  have hcell : n ≠ 0 → ∀ b off, a = some ⟨b, off, none⟩ → ∀ j, (w.setCell ⟨k, o, none⟩ u).cell? ⟨b, off + j, none⟩ = w.cell? ⟨b, off + j, none⟩ := fun hn b off ha j => World.cell?_setCell_far _ _ _ _ (show k ≠ b from fun e => h2 hn b off ha e.symm)
  refine ⟨⟨hl.len, ?_, hl.room, hl.cap, hl.nil, hl.bytes, hl.short⟩, vs, he', fun ad ha j v hv => ?_⟩
  · rcases hl.at' with h | ⟨b, off, cp, e, hb, hp⟩
    · exact .inl h
    · cases e
      refine .inr ⟨b, off, c, rfl, by simpa using hb, fun j hj => ?_⟩
      obtain ⟨y, q1, q2⟩ := he'.2 j hj
      obtain ⟨ya, yc, rfl⟩ := q2.bytes.form
      refine ⟨ya, _, yc, ?_, q2.bytes⟩
      rw [hcell (by have := hl.len; omega) b off rfl]
      have := hc _ rfl j _ q1
      have e2 : (⟨b, off, none⟩ : Addr).add j = ⟨b, off + j, none⟩ := Addr.add_mid _ _ _
      rwa [e2] at this
  · have h3 := hc ad ha j v hv
    rcases hl.at' with ⟨rfl, -⟩ | ⟨b, off, cp, e, hb, hp⟩
    · have := (List.getElem?_eq_some_iff.1 hv).1
      rw [he.1] at this
      simp at this
    · cases e
      cases ha
      have e2 : (⟨b, off, none⟩ : Addr).add j = ⟨b, off + j, none⟩ := Addr.add_mid _ _ _
      rw [e2] at h3 ⊢
      rw [hcell (by have h4 := (List.getElem?_eq_some_iff.1 hv).1; rw [he.1, hl.len] at h4; omega) b off rfl]
      exact h3
/-- A list lies in no variable of two numbers. -/
theorem Lists.apart {w : World} {a : Option Addr} {n c k : Nat} {L : List (List Int)} {u v : Int} {t : TypeId} (h : Lists w a n c L) (hk : w.heap[k]? = some (.cells #[.int .i64 u, .int .i64 v] t (0, 0))) : n ≠ 0 → ∀ g off, a = some ⟨g, off, none⟩ → g ≠ k := fun hn g off ha e => by
  obtain ⟨b, o, pa, pc, hb, hc, -⟩ := h.get 0 (by omega)
  rw [ha] at hb
  cases hb
  subst e
  rw [cell_of_row w g (off + 0) _ t _ hk] at hc
  match off, hc with
  | 0, hc => simp at hc
  | 1, hc => simp at hc
  | o + 2, hc => simp at hc

end Go.Proofs.YtkjlchfmplcobadDoor

/- The walk of yearref5.SameManifest. -/
namespace Go.Proofs.YtkjlchfmplcobadDoor
open Go.RowKit

theorem keepC {wo w' : World} (h : Below wo.heap.size wo w') : ∀ b o, b < wo.heap.size → w'.cell? ⟨b, o, none⟩ = wo.cell? ⟨b, o, none⟩ := fun b o hb => h.cell (p := ⟨b, o, none⟩) hb
set_option maxRecDepth 100000 in
set_option maxHeartbeats 4000000 in
theorem sameMan_yes (m : Man) (v1 v2 : Value) (w : World) (h1 : ManAt w v1 m) (h2 : ManAt w v2 m) :
    Calls Tryd.prog 9 #[v1, v2] w fun e w' => e = .returned (.bool true) ∧ Below w.heap.size w w' := by
  obtain ⟨r1, s1, rfl, hr1, a1, c1, rfl, n1, n2, n3, hc1⟩ := h1
  obtain ⟨r2, s2, rfl, hr2, a2, c2, rfl, p1, p2, p3, hc2⟩ := h2
  unfold maxLen at n2
  have b0 : Below w.heap.size w ((w.alloc (.cells #[.int .i64 m.size, r1, .slice a1 m.segs.length c1] 28)).alloc (.cells #[.int .i64 m.size, r2, .slice a2 m.segs.length c2] 28)) := ((Below.refl _ _).alloc (Nat.le_refl _) _).alloc (by simp) _
  have x0 := box_one w #[.int .i64 m.size, r1, .slice a1 m.segs.length c1] 28 (.cells #[.int .i64 m.size, r2, .slice a2 m.segs.length c2] 28)
  have y0 := box_last w (.cells #[.int .i64 m.size, r1, .slice a1 m.segs.length c1] 28) #[.int .i64 m.size, r2, .slice a2 m.segs.length c2] 28
  obtain ⟨u0, u1, u2, -, -, -⟩ := box_three x0
  obtain ⟨v0, v1, v2, -, -, -⟩ := box_three y0
  have sH := sameHead_yes m.size m.root r1 r2 _ (hr1.below b0) (hr2.below b0)
  have hnn : ((m.segs.length : Int) != (m.segs.length : Int)) = false := by simp
  generalize hN : m.segs.length = N at *
  generalize m.size = size at *
  go_enter Tryd.func9, Tryd.ntmps9
  go_wp2_with fail
  generalize (w.alloc (.cells #[.int .i64 size, r1, .slice a1 N c1] 28)).alloc (.cells #[.int .i64 size, r2, .slice a2 N c2] 28) = w0 at *
  refine sH.mono ?_
  rintro e w1 ⟨rfl, hb1⟩
  have b1 := b0.trans (hb1.mono b0.size)
  have x1 := box_kept x0 hb1
  have y1 := box_kept y0 hb1
  clear sH x0 y0 u0 u1 u2 v0 v1 v2 hr1 hr2
  obtain ⟨u0, u1, u2, -, -, -⟩ := box_three x1
  obtain ⟨v0, v1, v2, -, -, -⟩ := box_three y1
  go_wp2_with fail
  clear u0 u1 u2 v0 v1 v2 hnn
  go_loopw [26] (fun kv wr => ∃ k : Nat, k ≤ N ∧ kv = .int .i64 k ∧ Below w1.heap.size w1 wr) (fun kv _ => N - (intOf kv).toNat)
  case atStart => exact ⟨0, Nat.zero_le _, rfl, Below.refl _ _⟩
  case round =>
    obtain ⟨wo, rfl⟩ : ∃ x, x = wr := ⟨wr, rfl⟩
    obtain ⟨k, hk, rfl, hbr⟩ := hrel
    have hbw := b1.trans (hbr.mono b1.size)
    have hsr := hbr.size
    by_cases hlt : k < N
    · have hlt' : (k : Int) < N := by omega
      obtain ⟨g1, o1, rfl, hg1, hcs1⟩ := hc1.resolve_left (by omega)
      obtain ⟨g2, o2, rfl, hg2, hcs2⟩ := hc2.resolve_left (by omega)
      obtain ⟨d0, d1, qa, qc, d2, hq, -⟩ := hcs1 k hlt
      obtain ⟨e0, e1, ta, tc, e2, ht, -⟩ := hcs2 k hlt
      have hs1 := b1.size
      replace d0 := (hbw.cell (p := ⟨g1, o1 + k * 3, none⟩) hg1).trans d0
      replace d1 := (hbw.cell (p := ⟨g1, o1 + k * 3 + 1, none⟩) hg1).trans d1
      replace d2 := (hbw.cell (p := ⟨g1, o1 + k * 3 + 2, none⟩) hg1).trans d2
      replace e0 := (hbw.cell (p := ⟨g2, o2 + k * 3, none⟩) hg2).trans e0
      replace e1 := (hbw.cell (p := ⟨g2, o2 + k * 3 + 1, none⟩) hg2).trans e1
      replace e2 := (hbw.cell (p := ⟨g2, o2 + k * 3 + 2, none⟩) hg2).trans e2
      obtain ⟨u0, u1, u2, -, -, -⟩ := box_three (box_kept x1 hbr)
      obtain ⟨v0, v1, v2, -, -, -⟩ := box_three (box_kept y1 hbr)
      clear hcs1 hcs2 hc1 hc2
      generalize m.segs.getD k seg0 = s at *
      obtain ⟨sf, sc, sp⟩ := s
      dsimp only at d0 d1 d2 e0 e1 e2 hq ht
      go_wp2_with fail
      have k1 : g1 < wo.heap.size := by omega
      have k2 : g2 < wo.heap.size := by omega
      have k3 : w.heap.size < wo.heap.size := lt_heap (box_kept x1 hbr)
      have k4 : w.heap.size + 1 < wo.heap.size := lt_heap (box_kept y1 hbr)
      go_region_held3 (fun w' => ∀ b o, b < wo.heap.size → w'.cell? ⟨b, o, none⟩ = wo.cell? ⟨b, o, none⟩) (first | exact fun _ _ _ => rfl | exact keepC (by repeat (first | with_reducible exact Below.refl _ _ | with_reducible refine Below.setCell ?_ (by first | exact Nat.le_refl _ | exact Nat.le_succ _) _ | with_reducible refine Below.alloc ?_ (by first | exact Nat.le_refl _ | exact Nat.le_succ _ | simp) _ | with_reducible refine Below.drew ?_))) (fail)
      · obtain ⟨f0, f1, f2, -, -, -⟩ := box_three (w := ((wo.alloc (.cells #[.int .i64 sf, .int .i64 sc, .slice qa sp.length qc] 55)).alloc (.cells #[.int .i64 sf, .int .i64 sc, .slice ta sp.length tc] 55)).drew) (box_one wo #[.int .i64 sf, .int .i64 sc, .slice qa sp.length qc] 55 (.cells #[.int .i64 sf, .int .i64 sc, .slice ta sp.length tc] 55))
        obtain ⟨h0, h1, h2, -, -, -⟩ := box_three (w := ((wo.alloc (.cells #[.int .i64 sf, .int .i64 sc, .slice qa sp.length qc] 55)).alloc (.cells #[.int .i64 sf, .int .i64 sc, .slice ta sp.length tc] 55)).drew) (box_last wo (.cells #[.int .i64 sf, .int .i64 sc, .slice qa sp.length qc] 55) #[.int .i64 sf, .int .i64 sc, .slice ta sp.length tc] 55)
        have cA : Below w1.heap.size w1 ((wo.alloc (.cells #[.int .i64 sf, .int .i64 sc, .slice qa sp.length qc] 55)).alloc (.cells #[.int .i64 sf, .int .i64 sc, .slice ta sp.length tc] 55)).drew := ((hbr.alloc hsr _).alloc (by simp; omega) _).drew
        have cA0 := (hbr.alloc hsr (.cells #[.int .i64 sf, .int .i64 sc, .slice qa sp.length qc] 55)).alloc (by simp; omega) (.cells #[.int .i64 sf, .int .i64 sc, .slice ta sp.length tc] 55)
        have bA := b1.trans (cA.mono b1.size)
        have sE := same_any sp sp (.slice qa sp.length qc) (.slice ta sp.length tc) _ (hq.below bA).at' (ht.below bA).at' hq.short
        rw [decide_eq_true rfl] at sE
        generalize sp.length = dn at *
        clear d0 d1 d2 e0 e1 e2 u0 u1 u2 v0 v1 v2 hq ht
        have z1 : (sf != sf) = false := by simp
        have z2 : (sc != sc) = false := by simp
        go_wp2_with fail
        refine sE.mono ?_
        rintro e w5 ⟨rfl, q, rfl⟩
        go_wp2_with fail
        go_roundw
        case rel => exact ⟨k + 1, by omega, by go_num, below_drewN' cA0 _⟩
        case measure => simp [intOf]; omega
      · obtain ⟨f0, f1, f2, -, -, -⟩ := box_three (w := ((wo.alloc (.cells #[.int .i64 sf, .int .i64 sc, .slice ta sp.length tc] 55)).alloc (.cells #[.int .i64 sf, .int .i64 sc, .slice qa sp.length qc] 55)).drew) (box_one wo #[.int .i64 sf, .int .i64 sc, .slice ta sp.length tc] 55 (.cells #[.int .i64 sf, .int .i64 sc, .slice qa sp.length qc] 55))
        obtain ⟨h0, h1, h2, -, -, -⟩ := box_three (w := ((wo.alloc (.cells #[.int .i64 sf, .int .i64 sc, .slice ta sp.length tc] 55)).alloc (.cells #[.int .i64 sf, .int .i64 sc, .slice qa sp.length qc] 55)).drew) (box_last wo (.cells #[.int .i64 sf, .int .i64 sc, .slice ta sp.length tc] 55) #[.int .i64 sf, .int .i64 sc, .slice qa sp.length qc] 55)
        have cA : Below w1.heap.size w1 ((wo.alloc (.cells #[.int .i64 sf, .int .i64 sc, .slice ta sp.length tc] 55)).alloc (.cells #[.int .i64 sf, .int .i64 sc, .slice qa sp.length qc] 55)).drew := ((hbr.alloc hsr _).alloc (by simp; omega) _).drew
        have cA0 := (hbr.alloc hsr (.cells #[.int .i64 sf, .int .i64 sc, .slice ta sp.length tc] 55)).alloc (by simp; omega) (.cells #[.int .i64 sf, .int .i64 sc, .slice qa sp.length qc] 55)
        have bA := b1.trans (cA.mono b1.size)
        have sE := same_any sp sp (.slice qa sp.length qc) (.slice ta sp.length tc) _ (hq.below bA).at' (ht.below bA).at' hq.short
        rw [decide_eq_true rfl] at sE
        generalize sp.length = dn at *
        clear d0 d1 d2 e0 e1 e2 u0 u1 u2 v0 v1 v2 hq ht
        have z1 : (sf != sf) = false := by simp
        have z2 : (sc != sc) = false := by simp
        go_wp2_with fail
        refine sE.mono ?_
        rintro e w5 ⟨rfl, q, rfl⟩
        go_wp2_with fail
        go_roundw
        case rel => exact ⟨k + 1, by omega, by go_num, below_drewN' cA0 _⟩
        case measure => simp [intOf]; omega
    · obtain rfl : k = N := by omega
      have hnl : ¬ (k : Int) < k := by omega
      clear hc1 hc2
      go_wp2_with fail
      go_ret
      exact ⟨rfl, hbw⟩

end Go.Proofs.YtkjlchfmplcobadDoor

/- Segments as rows of a call's own; parts of lists. -/
namespace Go.Proofs.YtkjlchfmplcobadDoor
open Go.RowKit

theorem Tryd.info55b : (Tryd.prog.info? 55).map (fun i => (i.zero, i.size, i.bytes)) = some (some (.agg #[.int .i64 0, .int .i64 0, .slice none 0 0]), 3, 40) := by kernel_rfl
theorem Lists.part {w : World} {b off n c i m : Nat} {L : List (List Int)} (h : Lists w (some ⟨b, off, none⟩) n c L) (hi : i + m ≤ n) (hm : 1 ≤ m) : Lists w (some ⟨b, off + i, none⟩) m (c - i) ((L.drop i).take m) := by
  have hl := h.len
  have hr := h.room
  have hc := h.cap
  have hd := h.at'.drop (k := i) hl (by omega) (by omega) (c - i)
  refine ⟨by rw [List.length_take, List.length_drop]; omega, hd.take (by rw [List.length_drop]; omega) (by omega) (by omega) _, by omega, by omega, fun e => (by cases e), ?_, ?_⟩
  · refine take_bytes (fun j => ?_) m
    rw [List.getD_eq_getElem?_getD, List.getElem?_drop, ← List.getD_eq_getElem?_getD]; exact h.bytes _
  · refine take_short (fun j => ?_) m
    rw [List.getD_eq_getElem?_getD, List.getElem?_drop, ← List.getD_eq_getElem?_getD]; exact h.short _
theorem own3_below {w w' : World} {base : Nat} {e : TypeId} {v : Value} {n N : Nat} {xs : List Value} (h : w.ownsRow base e 3 v n xs) (hb : Below N w w') (hN : w.heap.size ≤ N) : w'.ownsRow base e 3 v n xs :=
  h.kept (w' := w') (row := none) ⟨hb.os, hb.tape, hb.output, hb.size, fun k hk _ => hb.block k (Nat.lt_of_lt_of_le hk hN)⟩ (by cases v.ownBlock <;> simp)
theorem own_ne3 {w : World} {base b2 : Nat} {e1 e2 : TypeId} {v1 v2 : Value} {n1 n2 : Nat} {xs1 xs2 : List Value} (h1 : w.ownsRow base e1 1 v1 n1 xs1) (h2 : w.ownsRow b2 e2 3 v2 n2 xs2) (hne : e1 ≠ e2) : Sep v1 v2 := fun g hg1 hg2 => by
  rcases h1.2 with ⟨rfl, -⟩ | ⟨g1, c1, cur1, rfl, -, hh1, -⟩
  · cases hg1
  rcases h2.2 with ⟨rfl, -⟩ | ⟨g2, c2, cur2, rfl, -, hh2, -⟩
  · cases hg2
  cases hg1
  cases hg2
  rw [hh1] at hh2
  cases hh2
  exact hne rfl
/-- The values of segments, each with bytes of the call's own. -/
def SegEls (w : World) (base : Nat) (vs : List Value) (l : List Seg) : Prop :=
  vs.length = l.length * 3 ∧ ∀ j, j < l.length → vs[j * 3]? = some (.int .i64 (l.getD j seg0).first) ∧ vs[j * 3 + 1]? = some (.int .i64 (l.getD j seg0).count) ∧
    ∃ y, vs[j * 3 + 2]? = some y ∧ w.ownsRow base 5 1 y (l.getD j seg0).packed.length ((l.getD j seg0).packed.map (Value.int .u8))
theorem SegEls.kept {w w' : World} {base b2 : Nat} {vs : List Value} {l : List Seg} {v : Value} {n : Nat} {xs : List Value} (h : SegEls w base vs l) (hr : w.ownsRow b2 55 3 v n xs) (hg : w.grownBy w' v.ownBlock) : SegEls w' base vs l :=
  ⟨h.1, fun j hj => by
    obtain ⟨h0, h1, y, h2, h3⟩ := h.2 j hj
    exact ⟨h0, h1, y, h2, h3.kept hg (own_ne3 h3 hr (by decide)).or⟩⟩
theorem SegEls.alloc {w : World} {base : Nat} {vs : List Value} {l : List Seg} (h : SegEls w base vs l) (o : Obj) : SegEls (w.alloc o) base vs l :=
  ⟨h.1, fun j hj => by
    obtain ⟨h0, h1, y, h2, h3⟩ := h.2 j hj
    exact ⟨h0, h1, y, h2, h3.alloc o⟩⟩
theorem SegEls.below {w w' : World} {base N : Nat} {vs : List Value} {l : List Seg} (h : SegEls w base vs l) (hb : Below N w w') (hN : w.heap.size ≤ N) : SegEls w' base vs l :=
  ⟨h.1, fun j hj => by
    obtain ⟨h0, h1, y, h2, h3⟩ := h.2 j hj
    exact ⟨h0, h1, y, h2, own_below h3 hb hN⟩⟩
theorem SegEls.snoc {w : World} {base : Nat} {vs : List Value} {l : List Seg} {s : Seg} {y : Value} (h : SegEls w base vs l) (hy : w.ownsRow base 5 1 y s.packed.length (s.packed.map (Value.int .u8))) : SegEls w base (vs ++ [.int .i64 s.first, .int .i64 s.count, y]) (l ++ [s]) := by
  obtain ⟨hl, h⟩ := h
  refine ⟨by simp; omega, fun j hj => ?_⟩
  by_cases e : j < l.length
  · obtain ⟨h0, h1, z, h2, h3⟩ := h j e
    have eg : (l ++ [s]).getD j seg0 = l.getD j seg0 := by rw [List.getD_eq_getElem?_getD, List.getElem?_append_left e, ← List.getD_eq_getElem?_getD]
    rw [eg, List.getElem?_append_left (by omega), List.getElem?_append_left (by omega), List.getElem?_append_left (by omega)]
    exact ⟨h0, h1, z, h2, h3⟩
  · obtain rfl : j = l.length := by simp at hj; omega
    have eg : (l ++ [s]).getD l.length seg0 = s := by rw [List.getD_eq_getElem?_getD, List.getElem?_append_right (Nat.le_refl _), Nat.sub_self]; rfl
    rw [eg, List.getElem?_append_right (by omega), List.getElem?_append_right (by omega), List.getElem?_append_right (by omega), hl, Nat.sub_self, show l.length * 3 + 1 - l.length * 3 = 1 by omega, show l.length * 3 + 2 - l.length * 3 = 2 by omega]
    exact ⟨rfl, rfl, y, rfl, hy⟩
theorem segEls_nil (w : World) (base : Nat) : SegEls w base [] [] := ⟨rfl, fun _ hj => absurd hj (Nat.not_lt_zero _)⟩
/-- Segments, all of them the call's own. -/
def OwnSegs (w : World) (base : Nat) (v : Value) (l : List Seg) : Prop := ∃ vs, w.ownsRow base 55 3 v l.length vs ∧ SegEls w base vs l
theorem OwnSegs.below {w w' : World} {base N : Nat} {v : Value} {l : List Seg} (h : OwnSegs w base v l) (hb : Below N w w') (hN : w.heap.size ≤ N) : OwnSegs w' base v l := by
  obtain ⟨vs, h1, h2⟩ := h
  exact ⟨vs, own3_below h1 hb hN, h2.below hb hN⟩
theorem OwnSegs.set {w : World} {base k o : Nat} {v : Value} {l : List Seg} (h : OwnSegs w base v l) (hk : k < base) (u : Value) : OwnSegs (w.setCell ⟨k, o, none⟩ u) base v l := by
  obtain ⟨vs, h1, h2, h3⟩ := h
  refine ⟨vs, ownsRow_setCell_below h1 (a := ⟨k, o, none⟩) hk u, h2, fun j hj => ?_⟩
  obtain ⟨g0, g1, y, g2, g3⟩ := h3 j hj
  exact ⟨g0, g1, y, g2, ownsRow_setCell_below g3 (a := ⟨k, o, none⟩) hk u⟩
theorem OwnSegs.segs {w : World} {base : Nat} {v : Value} {l : List Seg} (h : OwnSegs w base v l) (hby : SegsBytes l) : SegsAt w v l := by
  obtain ⟨vs, h1, -, h2⟩ := h
  rcases h1.2 with ⟨hv, hn⟩ | ⟨g, cap, cur, rfl, -, hg, h3, h4, -⟩
  · exact ⟨none, 0, by rw [hv, hn], by omega, Nat.zero_le _, fun _ => rfl, .inl hn⟩
  · refine ⟨_, cap, rfl, h3, h4, (fun e => by cases e), .inr ⟨g, 0, rfl, lt_heap hg, fun j hj => ?_⟩⟩
    obtain ⟨g0, g1, y, g2, g3⟩ := h2 j hj
    rw [Nat.zero_add]
    refine ⟨(h1.cellAt (j * 3) (by omega)).trans g0, (h1.cellAt (j * 3 + 1) (by omega)).trans g1, ?_⟩
    obtain ⟨pa, pc, rfl, q1, q2⟩ := own_cap g3
    exact ⟨pa, pc, (h1.cellAt (j * 3 + 2) (by omega)).trans g2, ⟨bytesAt_own g3, hby j, by omega⟩, q1, q2⟩
/-- Each segment's bytes lie in a later block than those of the one ahead. -/
def RiseV (vs : List Value) (m : Nat) : Prop := ∀ i j, i < j → j < m → ∀ y z g h, vs[i * 3 + 2]? = some y → vs[j * 3 + 2]? = some z → y.ownBlock = some g → z.ownBlock = some h → g < h
theorem riseV_nil : RiseV [] 0 := fun _ _ _ h => absurd h (Nat.not_lt_zero _)
theorem RiseV.snoc {w : World} {base m : Nat} {vs : List Value} {l : List Seg} {a b y : Value} (h : RiseV vs m) (he : SegEls w base vs l) (hm : l.length = m) (hy : ∀ g, y.ownBlock = some g → w.heap.size ≤ g) : RiseV (vs ++ [a, b, y]) (m + 1) := fun i j hij hj u z g q hu hz hg hq => by
  have hl : vs.length = m * 3 := by rw [← hm]; exact he.1
  rw [List.getElem?_append_left (by omega)] at hu
  by_cases e : j < m
  · rw [List.getElem?_append_left (by omega)] at hz
    exact h i j hij e u z g q hu hz hg hq
  · obtain rfl : j = m := by omega
    rw [List.getElem?_append_right (by omega), hl, show j * 3 + 2 - j * 3 = 2 by omega] at hz
    cases hz
    obtain ⟨-, -, x, h1, h2⟩ := he.2 i (by omega)
    rw [hu] at h1
    cases h1
    have := (h2.lt g hg).2
    have := hy q hq
    omega
theorem lit_seg (w : World) (x y : Int) (pv : Value) (t : TypeId) : ∀ (j : Nat) (u : Value), [Value.int .i64 x, .int .i64 y, pv][j]? = some u → (w.alloc (.cells #[.int .i64 x, .int .i64 y, pv] t)).cell? ((⟨w.heap.size, 0, none⟩ : Addr).add j) = some u := fun j u hj => by
  have hadd : (⟨w.heap.size, 0, none⟩ : Addr).add j = ⟨w.heap.size, 0 + j, none⟩ := Addr.add_mid _ _ _
  rw [hadd, Nat.zero_add]
  match j, hj with
  | 0, hj => rw [new_cell w t _ 0 (by simp)]; simpa using hj
  | 1, hj => rw [new_cell w t _ 1 (by simp)]; simpa using hj
  | 2, hj => rw [new_cell w t _ 2 (by simp)]; simpa using hj
  | j + 3, hj => simp at hj
theorem segK_bytes {L : List (List Int)} (hb : ∀ j, Bytes (L.getD j [])) (h : ∀ e ∈ L, e.length ≤ 200) (k : Nat) : Bytes (segK L k).packed := by
  refine pack_bytes ?_ (lay_part h k)
  refine bytes_of_mem (fun x hx => ?_)
  unfold layL at hx
  obtain ⟨e, he, hx⟩ := List.mem_flatMap.1 hx
  have h200 := short_part h k e he
  rcases List.mem_cons.1 hx with rfl | hx
  · omega
  · obtain ⟨j, hj, rfl⟩ := List.mem_iff_getElem.1 (List.mem_of_mem_drop (List.mem_of_mem_take he))
    have := hb j
    rw [List.getD_eq_getElem?_getD, List.getElem?_eq_getElem hj] at this
    exact bytes_forall this x hx
theorem segsL_bytes {L : List (List Int)} (hb : ∀ j, Bytes (L.getD j [])) (h : ∀ e ∈ L, e.length ≤ 200) : SegsBytes (segsL L) := fun j => by
  by_cases hj : j < (L.length + 7) / 8
  · unfold segsL; rw [segsN_get _ _ _ hj]; exact segK_bytes hb h j
  · rw [List.getD_eq_getElem?_getD, List.getElem?_eq_none (by unfold segsL; rw [segsN_length]; omega)]; exact nil_bytes
/-- The text of a part. -/
theorem lay_bytes {l : List (List Int)} (hb : ∀ j, Bytes (l.getD j [])) (h : ∀ j, (l.getD j []).length ≤ 200) : Bytes (layL l) := by
  refine bytes_of_mem (fun x hx => ?_)
  unfold layL at hx
  obtain ⟨e, he, hx⟩ := List.mem_flatMap.1 hx
  obtain ⟨j, hj, rfl⟩ := List.mem_iff_getElem.1 he
  have h1 := hb j
  have h2 := h j
  rw [List.getD_eq_getElem?_getD, List.getElem?_eq_getElem hj] at h1 h2
  rcases List.mem_cons.1 hx with rfl | hx
  · simp at h2; omega
  · exact bytes_forall h1 x hx

end Go.Proofs.YtkjlchfmplcobadDoor

/- The walk of yearref5.Lay. -/
namespace Go.Proofs.YtkjlchfmplcobadDoor
open Go.RowKit

set_option maxRecDepth 100000 in
set_option maxHeartbeats 2000000 in
theorem refLay_any (L : List (List Int)) (a : Option Addr) (n c : Nat) (w : World) (hL : Lists w a n c L) (h200 : ∀ j, (L.getD j []).length ≤ 200) (h8 : n ≤ 8) :
    Calls Tryd.prog 28 #[.slice a n c] w fun e w' => ∃ va vc, e = .returned (.slice va (layL L).length vc) ∧ w'.ownsRow w.heap.size 5 1 (.slice va (layL L).length vc) (layL L).length ((layL L).map (Value.int .u8)) ∧ Below w.heap.size w w' := by
  obtain ⟨i0, hi0, hz0, hz1, hz2⟩ := info_parts Tryd.info5b
  have hlen := hL.len
  have h201 : ∀ k, (layL (L.take k)).length ≤ 2000 := fun k => by
    have h1 := layL_length (L.take k) (fun e he => mem_short h200 e (List.mem_of_mem_take he))
    have h2 : (L.take k).length ≤ 8 := by rw [List.length_take]; omega
    omega
  go_enter Tryd.func28, Tryd.ntmps28
  go_wp2_with fail
  go_loopw [3, 8] (fun ov kv wr => ∃ (k : Nat) (va : Option Addr) (m vc : Nat), k ≤ n ∧ kv = .int .i64 k ∧ ov = .slice va m vc ∧ Hid (m = (layL (L.take k)).length) ∧ wr.ownsRow w.heap.size 5 1 (.slice va m vc) m ((layL (L.take k)).map (Value.int .u8)) ∧ Below w.heap.size w wr) (fun _ kv _ => n - (intOf kv).toNat)
  case atStart => exact ⟨0, none, 0, 0, Nat.zero_le _, rfl, rfl, rfl, ⟨rfl, .inl ⟨rfl, rfl⟩⟩, Below.refl _ _⟩
  case round =>
    obtain ⟨wo, rfl⟩ : ∃ x, x = wr := ⟨wr, rfl⟩
    obtain ⟨k, va, m, vc, hk, rfl, rfl, HM, hrow, hbr⟩ := hrel
    have hm := h201 k
    rw [← HM.out] at hm
    have hsr := hbr.size
    by_cases hlt : k < n
    · obtain ⟨b, off, pa, pc, rfl, hcell, hsome⟩ := hL.get k hlt
      have hb0 : b < w.heap.size := World.block_lt_of_cell? w ⟨b, off + k, none⟩ hcell
      have hcell1 := (hbr.cell (p := ⟨b, off + k, none⟩) hb0).trans hcell
      have HS : Hid (layL (L.take (k + 1)) = layL (L.take k) ++ ((L.getD k []).length : Int) :: L.getD k []) := by
        show _ = _
        rw [List.take_succ_eq_append_getElem (by omega), layL_snoc, List.getD_eq_getElem?_getD, List.getElem?_eq_getElem (by omega)]
        rfl
      have hd2 := h200 k
      have hB0 := hsome.at'
      obtain ⟨D, hD⟩ : ∃ D, D = L.getD k [] := ⟨_, rfl⟩
      rw [← hD] at hcell1 HS hd2 hB0
      obtain ⟨d, hd⟩ : ∃ d, d = D.length := ⟨_, rfl⟩
      rw [← hd] at hcell1 HS hd2 hB0
      have Hd : Hid (d = D.length) := hd
      have hlt' : (k : Int) < n := by omega
      have hd' : (d : Int) ≤ 200 := by omega
      have hrowA := hrow.alloc (.cells #[.int .u8 d] 5)
      have hnew := cell_one_new wo (.int .u8 d) 5
      have bA : Below w.heap.size w (wo.alloc (.cells #[.int .u8 d] 5)) := hbr.alloc hsr _
      have hsA : w.heap.size ≤ (wo.alloc (.cells #[.int .u8 d] 5)).heap.size := by simp; omega
      have hdm : m + 1 + D.length ≤ 3000 := by omega
      clear hcell hsome hrow h200 hD hd h201
      go_wp2_with (first
        | (at_builtin; refine wpList_append_own _ rfl (.tmp 12) (.tmp 16) 23 rfl w.heap.size 5 i0 _ 1 1 Tryd.underlying23 hi0 hz0 hz1 hz2 rfl (by decide) _ _ _ rfl hrowA _ 1 1 [.int .u8 d] rfl rfl hnew (by intro u hu; simp at hu; subst hu; rfl) (by unfold maxLen; omega) (by omega) hsA ?_; intro v7 w7 ho7 hg7 _; obtain ⟨ta, tc, rfl⟩ := own_form' ho7; have b7 : Below w.heap.size w w7 := bA.grown hg7 hsA (fun _ h => own_block hrowA h); have hB7 := hB0.below (Nat.le_refl _) b7; clear hg7)
        | (at_builtin; refine wpList_append_bytes rfl (.tmp 18) (.tmp 19) 23 rfl w.heap.size 5 i0 _ Tryd.underlying23 hi0 hz0 hz1 hz2 rfl _ _ _ rfl ho7 pa d pc D rfl hB7 (by unfold maxLen; omega) (by omega) b7.size ?_; intro v8 w8 ho8 hg8; obtain ⟨sa, sc, rfl⟩ := own_form' ho8))
      have b8 : Below w.heap.size w w8 := b7.grown hg8 b7.size (fun _ h => own_block ho7 h)
      go_roundw
      case rel =>
        refine ⟨k + 1, sa, _, sc, by omega, by go_num, rfl, ?_, ?_, b8⟩
        · show _ = _; rw [HS.out, List.length_append, List.length_cons, ← HM.out]; omega
        · rw [HS.out, List.map_append, List.map_cons]; simpa using ho8
      case measure => simp [intOf]; omega
    · obtain rfl : k = n := by omega
      rw [List.take_of_length_le (by omega)] at HM hrow
      go_wp2_with fail
      go_ret
      refine ⟨va, vc, by rw [← HM.out]; rfl, by rw [← HM.out]; exact hrow, hbr⟩

end Go.Proofs.YtkjlchfmplcobadDoor

/- The plain mathematics between the two digests: block by block, and byte by byte. Nothing of the program is in it. -/
namespace Go.Proofs.YtkjlchfmplcobadDoor
open Go.RowKit

/-- The words behind t blocks of M. -/
def stB (M : List Int) : Nat → St
  | 0 => st0
  | t + 1 => (stB M t).mix ((M.drop (64 * t)).take 64)
theorem set_next (b0 B : List Int) (i : Nat) (h0 : b0.length = 64) (hB : B.length = 64) (hi : i < 64) : (B.take i ++ b0.drop i).set i (B.getD i 0) = B.take (i + 1) ++ b0.drop (i + 1) := by
  have hl : (B.take i).length = i := by rw [List.length_take]; omega
  rw [List.set_append, if_neg (by omega), hl, Nat.sub_self, take_next B i (by omega), List.append_assoc]
  congr 1
  rw [List.drop_eq_getElem_cons (by omega), List.set_cons_zero]
  rfl
/-- One block, byte by byte. -/
theorem block_partly (r : Rn) (B : List Int) (hc : r.c % 64 = 0) (h0 : r.blk.length = 64) (hB : B.length = 64) (i : Nat) (hi : i < 64) : r.all (B.take i) = ⟨r.s, B.take i ++ r.blk.drop i, r.c + i⟩ := by
  induction i with
  | zero => simp [Rn.all]
  | succ i ih =>
    have hm : (r.c + i) % 64 = i := by omega
    rw [take_next B i (by omega), Rn.all_snoc, ih (by omega), Rn.push]
    simp only [hm]
    rw [if_neg (by omega), set_next r.blk B i h0 hB (by omega), ← take_next B i (by omega)]
    rfl
theorem block_whole (r : Rn) (B : List Int) (hc : r.c % 64 = 0) (h0 : r.blk.length = 64) (hB : B.length = 64) : r.all B = ⟨r.s.mix B, B, r.c + 64⟩ := by
  have h := block_partly r B hc h0 hB 63 (by omega)
  have hm : (r.c + 63) % 64 = 63 := by omega
  have e : B = B.take 63 ++ [B.getD 63 0] := by rw [← take_next B 63 (by omega), List.take_of_length_le (by omega)]
  have hs := set_next r.blk B 63 h0 hB (by omega)
  rw [show B.take (63 + 1) = B from List.take_of_length_le (by omega), show r.blk.drop (63 + 1) = [] from List.drop_eq_nil_of_le (by omega), List.append_nil] at hs
  conv => lhs; rw [e]
  rw [Rn.all_snoc, h, Rn.push]
  simp only [hm]
  rw [if_pos (by omega), hs]
theorem all_blocks (M : List Int) (T : Nat) (hM : M.length = 64 * T) (t : Nat) (ht : t ≤ T) : (rn0.all (M.take (64 * t))).s = stB M t ∧ (rn0.all (M.take (64 * t))).c = 64 * t ∧ (rn0.all (M.take (64 * t))).blk.length = 64 := by
  induction t with
  | zero => exact ⟨by simp [Rn.all, stB, rn0], by simp [Rn.all, rn0], by simp [Rn.all, rn0]⟩
  | succ t ih =>
    obtain ⟨h1, h2, h3⟩ := ih (by omega)
    have hl : ((M.drop (64 * t)).take 64).length = 64 := by rw [List.length_take, List.length_drop]; omega
    have e : M.take (64 * (t + 1)) = M.take (64 * t) ++ (M.drop (64 * t)).take 64 := by
      rw [show 64 * (t + 1) = 64 * t + 64 by omega, List.take_add]
    rw [e, Rn.all_append, block_whole _ _ (by rw [h2]; omega) h3 hl]
    exact ⟨by show St.mix _ _ = _; rw [h1]; rfl, by show _ + 64 = _; rw [h2]; omega, hl⟩
theorem shaL_blocks (zs : List Int) (T : Nat) (hM : (zs ++ padL zs.length).length = 64 * T) : shaL zs = (stB (zs ++ padL zs.length) T).out := by
  have := (all_blocks (zs ++ padL zs.length) T hM T (Nat.le_refl _)).1
  rw [← hM, List.take_length, Rn.all_append] at this
  show ((rn0.all zs).all (padL zs.length)).s.out = _
  rw [this]
/-- A word, byte by byte. -/
def accI (f : Nat → Int) : Nat → Int
  | 0 => 0
  | j + 1 => accI f j * 256 + f j
theorem acc_word (f : Nat → Int) (h : ∀ j, 0 ≤ f j ∧ f j < 256) : accI f 4 = U (word (f 0) (f 1) (f 2) (f 3)) := by
  have h0 := h 0
  have h1 := h 1
  have h2 := h 2
  have h3 := h 3
  simp only [accI]
  unfold U word
  obtain ⟨a, ha⟩ := Int.eq_ofNat_of_zero_le (by omega : 0 ≤ f 0 * 16777216 + f 1 * 65536 + f 2 * 256 + f 3)
  rw [ha, BitVec.ofInt_natCast, BitVec.toNat_ofNat]
  omega
theorem acc_bd (f : Nat → Int) (h : ∀ j, 0 ≤ f j ∧ f j < 256) (q : Nat) (hq : q ≤ 4) : 0 ≤ accI f q ∧ accI f q < 4294967296 ∧ (q < 4 → accI f q < 16777216) := by
  have h0 := h 0
  have h1 := h 1
  have h2 := h 2
  have h3 := h 3
  have e : q = 0 ∨ q = 1 ∨ q = 2 ∨ q = 3 ∨ q = 4 := by omega
  rcases e with rfl | rfl | rfl | rfl | rfl <;> simp only [accI] <;> omega
theorem block_get (M : List Int) (t i : Nat) (hi : i < 64) : ((M.drop (64 * t)).take 64).getD i 0 = M.getD (64 * t + i) 0 := by
  rw [List.getD_eq_getElem?_getD, List.getD_eq_getElem?_getD, List.getElem?_take, if_pos hi, List.getElem?_drop]
theorem set_word (l m : List (BitVec 32)) (i : Nat) (hl : l.length = 8) (hm : m.length = 8) (hi : i < 8) : (m.take i ++ l.drop i).set i (m.getD i 0) = m.take (i + 1) ++ l.drop (i + 1) := by
  have h1 : (m.take i).length = i := by rw [List.length_take]; omega
  rw [List.set_append, if_neg (by omega), h1, Nat.sub_self, List.take_succ_eq_append_getElem (by omega), List.append_assoc]
  congr 1
  rw [List.drop_eq_getElem_cons (by omega), List.set_cons_zero, List.getD_eq_getElem?_getD, List.getElem?_eq_getElem (by omega)]
  rfl
theorem mid_word (l m : List (BitVec 32)) (i : Nat) (hm : m.length = 8) (hi : i < 8) : (m.take i ++ l.drop i).getD i 0 = l.getD i 0 := by
  have h1 : (m.take i).length = i := by rw [List.length_take]; omega
  rw [List.getD_eq_getElem?_getD, List.getElem?_append_right (by omega), h1, Nat.sub_self, List.getElem?_drop, Nat.add_zero, List.getD_eq_getElem?_getD]
theorem add_word (s r : St) (i : Nat) (hi : i < 8) : (s.add r).list.getD i 0 = s.list.getD i 0 + r.list.getD i 0 := by
  have h : i = 0 ∨ i = 1 ∨ i = 2 ∨ i = 3 ∨ i = 4 ∨ i = 5 ∨ i = 6 ∨ i = 7 := by omega
  rcases h with rfl | rfl | rfl | rfl | rfl | rfl | rfl | rfl <;> rfl
theorem byte_take (x : BitVec 32) (e : Nat) (he : e < 4) : (byte4 x).take (e + 1) = (byte4 x).take e ++ [U x / 2 ^ (24 - 8 * e) % 256] := by
  have h : e = 0 ∨ e = 1 ∨ e = 2 ∨ e = 3 := by omega
  rcases h with rfl | rfl | rfl | rfl
  · rfl
  · rfl
  · rfl
  · simp [byte4]
theorem choose_eq (e f g : BitVec 32) : (f &&& e ||| g &&& ~~~e) = ((e &&& f) ^^^ (~~~e &&& g)) := by
  apply BitVec.eq_of_getLsbD_eq
  intro i hi
  simp only [BitVec.getLsbD_or, BitVec.getLsbD_and, BitVec.getLsbD_not, BitVec.getLsbD_xor, hi, decide_true, Bool.true_and]
  cases e.getLsbD i <;> cases f.getLsbD i <;> cases g.getLsbD i <;> rfl
theorem most_eq (a b c : BitVec 32) : (a &&& b ||| a &&& c ||| b &&& c) = ((a &&& b) ^^^ (a &&& c) ^^^ (b &&& c)) := by
  apply BitVec.eq_of_getLsbD_eq
  intro i hi
  simp only [BitVec.getLsbD_or, BitVec.getLsbD_and, BitVec.getLsbD_xor]
  cases a.getLsbD i <;> cases b.getLsbD i <;> cases c.getLsbD i <;> rfl

end Go.Proofs.YtkjlchfmplcobadDoor

/- The walk of yearref2.Same: two lists of bytes' lists. -/
namespace Go.Proofs.YtkjlchfmplcobadDoor
open Go.RowKit

set_option maxRecDepth 100000 in
set_option maxHeartbeats 1000000 in
theorem refSame_any (L1 L2 : List (List Int)) (v1 v2 : Value) (w : World) (h1 : PartsAt w v1 L1) (h2 : PartsAt w v2 L2) (hm1 : L1.length ≤ maxLen) (hs1 : ∀ j, (L1.getD j []).length ≤ maxLen) :
    Calls Tryd.prog 12 #[v1, v2] w fun e w' => e = .returned (.bool (decide (L1 = L2))) ∧ ∃ q, w' = w.drewN q := by
  obtain ⟨a1, c1, rfl, hc1⟩ := h1.form
  obtain ⟨a2, c2, rfl, hc2⟩ := h2.form
  unfold maxLen at hm1
  by_cases hne : L1.length = L2.length
  · have hq : ((L1.length : Int) != (L2.length : Int)) = false := by rw [hne]; simp
    obtain ⟨n, hn⟩ : ∃ n, L1.length = n := ⟨_, rfl⟩
    have hn2 : L2.length = n := by omega
    have HN1 : Hid (L1.length = n) := hn
    have HN2 : Hid (L2.length = n) := hn2
    rw [hn] at hm1 hc1 hq
    rw [hn2] at hc2 hq
    rw [hn, hn2]
    clear hn hn2 hne h1 h2
    go_enter Tryd.func12, Tryd.ntmps12
    go_wp2
    go_loopw [13] (fun i wr => ∃ k : Nat, k ≤ n ∧ i = .int .i64 k ∧ Hid (∀ j, j < k → L1.getD j [] = L2.getD j []) ∧ Dr w wr) (fun i _ => n - (intOf i).toNat)
    case atStart => exact ⟨0, Nat.zero_le _, rfl, (fun j hj => absurd hj (Nat.not_lt_zero _)), ⟨0, rfl⟩⟩
    case round =>
      obtain ⟨k, hk, rfl, HE, HD⟩ := hrel
      by_cases hlt : k < n
      · obtain ⟨b1, o1, rfl, -, hp1⟩ := hc1.resolve_left (by omega)
        obtain ⟨b2, o2, rfl, -, hp2⟩ := hc2.resolve_left (by omega)
        obtain ⟨pa, pc, x1, B1⟩ := hp1 k hlt
        obtain ⟨ra, rc, x2, B2⟩ := hp2 k hlt
        have y1 : wr.cell? ⟨b1, o1 + k, none⟩ = some (.slice pa (L1.getD k []).length pc) := by obtain ⟨q, e⟩ := HD; rw [e]; exact x1
        have y2 : wr.cell? ⟨b2, o2 + k, none⟩ = some (.slice ra (L2.getD k []).length rc) := by obtain ⟨q, e⟩ := HD; rw [e]; exact x2
        have D1 : ∀ q, BytesAt (wr.drewN q) (.slice pa (L1.getD k []).length pc) (L1.getD k []) := fun q => by obtain ⟨q1, e⟩ := HD; rw [e]; exact B1.below (Nat.le_refl _) (below_drewN (below_drewN (Below.refl _ _) q1) q)
        have D2 : ∀ q, BytesAt (wr.drewN q) (.slice ra (L2.getD k []).length rc) (L2.getD k []) := fun q => by obtain ⟨q1, e⟩ := HD; rw [e]; exact B2.below (Nat.le_refl _) (below_drewN (below_drewN (Below.refl _ _) q1) q)
        have hl1 := hs1 k
        have HN : Hid (L1.getD k [] = L2.getD k [] → ∀ j, j < k + 1 → L1.getD j [] = L2.getD j []) := fun h j hj => by
          by_cases e : j = k
          · rw [e]; exact h
          · exact HE.out j (by omega)
        have HF : Hid (L1.getD k [] ≠ L2.getD k [] → decide (L1 = L2) = false) := fun h => by
          rw [decide_eq_false_iff_not]; intro e; exact h (by rw [e])
        clear hc1 hc2 hp1 hp2 x1 x2 B1 B2 HE hs1
        generalize L1.getD k [] = z1 at *
        generalize L2.getD k [] = z2 at *
        have i1 : (k : Int) < (n : Int) := by omega
        by_cases hzz : z1 = z2
        · have hd : decide (z1 = z2) = true := by simpa using hzz
          have HN' : Hid (∀ j, j < k + 1 → L1.getD j [] = L2.getD j []) := HN.out hzz
          have HS : ∀ q, Calls Tryd.prog 15 #[.slice pa z1.length pc, .slice ra z2.length rc] (wr.drewN q) (fun e w' => e = .returned (.bool true) ∧ ∃ m, w' = (wr.drewN q).drewN m) := fun q => by
            have := same_any z1 z2 _ _ _ (D1 q) (D2 q) hl1
            rwa [hd] at this
          clear HN HF hd hzz D1 D2
          go_wp2_with fail
          go_quiet ((go_at_call 15; exact Calls.quiet_of (HS _)))
          go_wp2_with fail
          go_roundw
          case rel => exact ⟨k + 1, by omega, by go_num, HN', HD.step _⟩
          case measure => simp [intOf]; omega
        · have hd : decide (z1 = z2) = false := by simpa using hzz
          have HF' : Hid (decide (L1 = L2) = false) := HF.out hzz
          have HS : ∀ q, Calls Tryd.prog 15 #[.slice pa z1.length pc, .slice ra z2.length rc] (wr.drewN q) (fun e w' => e = .returned (.bool false) ∧ ∃ m, w' = (wr.drewN q).drewN m) := fun q => by
            have := same_any z1 z2 _ _ _ (D1 q) (D2 q) hl1
            rwa [hd] at this
          clear HN HF hd hzz D1 D2
          go_wp2_with fail
          go_quiet ((go_at_call 15; exact Calls.quiet_of (HS _)))
          go_wp2_with fail
          go_ret
          exact ⟨by rw [HF'.out]; rfl, HD.step _⟩
      · obtain rfl : k = n := by omega
        obtain ⟨q0, rfl⟩ := HD
        have HT : decide (L1 = L2) = true := by
          rw [decide_eq_true_iff]
          apply List.ext_getElem (by have := HN1.out; have := HN2.out; omega)
          intro j hj1 hj2
          have := HE.out j (by have := HN1.out; omega)
          rwa [List.getD_eq_getElem?_getD, List.getElem?_eq_getElem hj1, List.getD_eq_getElem?_getD, List.getElem?_eq_getElem hj2] at this
        clear HE
        go_wp2
        go_ret
        exact ⟨by rw [HT]; rfl, q0, rfl⟩
  · have hq : ((L1.length : Int) != (L2.length : Int)) = true := by simp; omega
    have HF : decide (L1 = L2) = false := by rw [decide_eq_false_iff_not]; intro e; exact hne (by rw [e])
    rw [HF]
    go_enter Tryd.func12, Tryd.ntmps12
    go_wp2
    go_ret
    exact ⟨rfl, 0, rfl⟩

end Go.Proofs.YtkjlchfmplcobadDoor

/- The walks of isSize, segmentsFor, countFrom and fits: package shelf as it landed. -/
namespace Go.Proofs.YtkjlchfmplcobadDoor
open Go.RowKit

def sizeB (n : Int) : Bool := decide (0 ≤ n ∧ n ≤ 100)
theorem sizeB_true {n : Int} (h0 : 0 ≤ n) (h1 : n ≤ 100) : sizeB n = true := decide_eq_true ⟨h0, h1⟩
theorem sizeB_false {n : Int} (h : ¬ (0 ≤ n ∧ n ≤ 100)) : sizeB n = false := decide_eq_false h
set_option maxRecDepth 100000 in
theorem isSize_any (n : Int) (w : World) : Calls Tryd.prog 35 #[.int .i64 n] w fun e w' => e = .returned (.bool (sizeB n)) ∧ w' = w := by
  by_cases h0 : 0 ≤ n
  · by_cases h1 : n ≤ 100
    · have e : sizeB n = true := sizeB_true h0 h1
      rw [e]
      clear e
      go_enter Tryd.func35, Tryd.ntmps35
      go_wp2
      go_ret
      exact ⟨rfl, rfl⟩
    · have e : sizeB n = false := sizeB_false (by omega)
      rw [e]
      clear e
      go_enter Tryd.func35, Tryd.ntmps35
      go_wp2
      go_ret
      exact ⟨rfl, rfl⟩
  · have e : sizeB n = false := sizeB_false (by omega)
    rw [e]
    clear e
    go_enter Tryd.func35, Tryd.ntmps35
    go_wp2
    go_ret
    exact ⟨rfl, rfl⟩
theorem ret_int' {k : IntKind} {a b : Int} (h : a = b) : Ending.returned (.int k a) = .returned (.int k b) := by rw [h]
set_option maxRecDepth 100000 in
theorem segmentsFor_any (n : Int) (w : World) (h0 : 0 ≤ n) (h1 : n ≤ 100) : Calls Tryd.prog 36 #[.int .i64 n] w fun e w' => e = .returned (.int .i64 ((n + 7) / 8)) ∧ w' = w := by
  go_enter Tryd.func36, Tryd.ntmps36
  go_wp2
  go_ret
  exact ⟨ret_int' (by omega), rfl⟩
set_option maxRecDepth 100000 in
theorem countFrom_any (f s : Int) (w : World) (h0 : 0 ≤ f) (h1 : f ≤ 1000) (h2 : 0 ≤ s) (h3 : s ≤ 1000) : Calls Tryd.prog 47 #[.int .i64 f, .int .i64 s] w fun e w' => e = .returned (.int .i64 (min 8 (s - f))) ∧ w' = w := by
  by_cases h : s - f < 8
  · rw [show min 8 (s - f) = s - f by omega]
    go_enter Tryd.func47, Tryd.ntmps47
    go_wp2
    go_ret
    exact ⟨rfl, rfl⟩
  · rw [show min 8 (s - f) = 8 by omega]
    go_enter Tryd.func47, Tryd.ntmps47
    go_wp2
    go_ret
    exact ⟨rfl, rfl⟩
set_option maxRecDepth 100000 in
set_option maxHeartbeats 2000000 in
theorem segFits_any (f c k size : Int) (pv : Value) (p : List Int) (w : World) (hk : 0 ≤ k) : Calls Tryd.prog 30 #[.agg #[.int .i64 f, .int .i64 c, pv], .int .i64 k, .int .i64 size] w fun e w' => e = .returned (.bool (fitB size k ⟨f, c, p⟩)) ∧ Below w.heap.size w w' := by
  have hS := isSize_any size
  have hb := box_new w #[.int .i64 f, .int .i64 c, pv] 55
  obtain ⟨x0, x1, x2, -, -, -⟩ := box_three hb
  have bW : Below w.heap.size w (w.alloc (.cells #[.int .i64 f, .int .i64 c, pv] 55)) := (Below.refl _ _).alloc (Nat.le_refl _) _
  clear hb
  by_cases h1 : 0 ≤ size ∧ size ≤ 100
  · rw [sizeB_true h1.1 h1.2] at hS
    by_cases h2 : k ≤ 100
    · by_cases h3 : f = k * 8
      · subst h3
        by_cases h4 : 1 ≤ c
        · have hC := fun W => countFrom_any (k * 8) size W (by omega) (by omega) h1.1 (by omega)
          by_cases h5 : c = min 8 (size - k * 8)
          · have e : fitB size k ⟨k * 8, c, p⟩ = true := fitB_iff.2 ⟨h1.1, h1.2, h2, rfl, h4, h5⟩
            have hC' : ∀ W, Calls Tryd.prog 47 #[.int .i64 (k * 8), .int .i64 size] W fun e w' => e = .returned (.int .i64 c) ∧ w' = W := fun W => by have := hC W; rwa [← h5] at this
            have hcc : (c == c) = true := by simp
            rw [e]
            clear e h5 hC
            go_enter Tryd.func30, Tryd.ntmps30
            go_wp2_with fail
            go_quiet ((first | (go_at_call 35; exact Calls.quiet_of_same (hS _)) | (go_at_call 47; exact Calls.quiet_of_same (hC' _))))
            go_wp2_with fail
            go_ret
            exact ⟨rfl, below_drewN' bW _⟩
          · have e : fitB size k ⟨k * 8, c, p⟩ = false := by rw [Bool.eq_false_iff]; intro h; exact h5 (fitB_iff.1 h).2.2.2.2.2
            obtain ⟨q, hq⟩ : ∃ q, q = min 8 (size - k * 8) := ⟨_, rfl⟩
            rw [← hq] at hC h5
            have h5' : (c == q) = false := by simpa using h5
            rw [e]
            clear e h5 hq
            go_enter Tryd.func30, Tryd.ntmps30
            go_wp2_with fail
            go_quiet ((first | (go_at_call 35; exact Calls.quiet_of_same (hS _)) | (go_at_call 47; exact Calls.quiet_of_same (hC _))))
            go_wp2_with fail
            go_ret
            exact ⟨rfl, below_drewN' bW _⟩
        · have e : fitB size k ⟨k * 8, c, p⟩ = false := by rw [Bool.eq_false_iff]; intro h; exact h4 (fitB_iff.1 h).2.2.2.2.1
          have h4' : decide (1 ≤ c) = false := decide_eq_false h4
          rw [e]
          clear e
          go_enter Tryd.func30, Tryd.ntmps30
          go_wp2_with fail
          go_quiet ((go_at_call 35; exact Calls.quiet_of_same (hS _)))
          go_wp2_with fail
          go_ret
          exact ⟨rfl, below_drewN' bW _⟩
      · have e : fitB size k ⟨f, c, p⟩ = false := by rw [Bool.eq_false_iff]; intro h; exact h3 (fitB_iff.1 h).2.2.2.1
        have h3' : (f == k * 8) = false := by simpa using h3
        rw [e]
        clear e h3
        go_enter Tryd.func30, Tryd.ntmps30
        go_wp2_with fail
        go_quiet ((go_at_call 35; exact Calls.quiet_of_same (hS _)))
        go_wp2_with fail
        go_ret
        exact ⟨rfl, below_drewN' bW _⟩
    · have e : fitB size k ⟨f, c, p⟩ = false := by rw [Bool.eq_false_iff]; intro h; exact h2 (fitB_iff.1 h).2.2.1
      have h2' : decide (k ≤ 100) = false := decide_eq_false h2
      rw [e]
      clear e
      go_enter Tryd.func30, Tryd.ntmps30
      go_wp2_with fail
      go_quiet ((go_at_call 35; exact Calls.quiet_of_same (hS _)))
      go_wp2_with fail
      go_ret
      exact ⟨rfl, below_drewN' bW _⟩
  · rw [sizeB_false h1] at hS
    have e : fitB size k ⟨f, c, p⟩ = false := by rw [Bool.eq_false_iff]; intro h; have := fitB_iff.1 h; exact h1 ⟨this.1, this.2.1⟩
    rw [e]
    clear e h1
    go_enter Tryd.func30, Tryd.ntmps30
    go_wp2_with fail
    go_quiet ((go_at_call 35; exact Calls.quiet_of_same (hS _)))
    go_wp2_with fail
    go_ret
    exact ⟨rfl, below_drewN' bW _⟩

end Go.Proofs.YtkjlchfmplcobadDoor

/- The walk of sha.Parts: the digest of bytes that come in parts. -/
namespace Go.Proofs.YtkjlchfmplcobadDoor
open Go.RowKit

theorem flat_take (L : List (List Int)) (k : Nat) (h : k < L.length) : (L.take (k + 1)).flatten = (L.take k).flatten ++ L.getD k [] := by
  rw [List.take_succ_eq_append_getElem h, List.flatten_append, List.getD_eq_getElem?_getD, List.getElem?_eq_getElem h]
  simp
theorem flat_le (L : List (List Int)) (k : Nat) : (L.take k).flatten.length ≤ L.flatten.length := by
  have : L.flatten = (L.take k).flatten ++ (L.drop k).flatten := by rw [← List.flatten_append, List.take_append_drop]
  rw [this, List.length_append]; omega
theorem part_le (L : List (List Int)) (k : Nat) (h : k < L.length) : (L.take k).flatten.length + (L.getD k []).length ≤ L.flatten.length := by
  have := flat_le L (k + 1)
  rw [flat_take L k h, List.length_append] at this
  exact this
set_option maxRecDepth 100000 in
set_option maxHeartbeats 1000000 in
theorem parts_any (L : List (List Int)) (v : Value) (w : World) (hv : PartsAt w v L) (hn : L.length ≤ maxLen) (hm : L.flatten.length ≤ 140737488355328) (hz : ∀ j, Bytes (L.getD j [])) (hK : Tab w) (h0 : 0 < w.heap.size) :
    Calls Tryd.prog 86 #[v] w
      fun e w' => ∃ g, e = .returned (.slice (some ⟨g, 0, none⟩) 32 32) ∧ w'.ownsRow w.heap.size 5 1 (.slice (some ⟨g, 0, none⟩) 32 32) 32 ((shaL L.flatten).map (Value.int .u8)) ∧ Below w.heap.size w w' := by
  have hz0 := (zero_of_info info_run).1
  have hi := (zero_of_info info_run).2
  obtain ⟨a0, c0, rfl, hcell⟩ : ∃ a c, v = .slice a L.length c ∧ (L.length = 0 ∨ ∃ b off, a = some ⟨b, off, none⟩ ∧ b < w.heap.size ∧ ∀ j, j < L.length → ∃ a n c, w.cell? ⟨b, off + j, none⟩ = some (.slice a n c) ∧ BytesAt w (.slice a n c) (L.getD j [])) := by
    rcases hv with ⟨rfl, a, c, rfl⟩ | ⟨b, off, cp, rfl, h2, h3⟩
    · exact ⟨a, c, rfl, .inl rfl⟩
    · exact ⟨_, _, rfl, .inr ⟨b, off, rfl, h2, h3⟩⟩
  clear hv
  unfold maxLen at hn
  go_enter Tryd.func86, Tryd.ntmps86
  go_wp2_with fail
  refine (begin_any _).mono ?_
  rintro e w1 ⟨rfl, hb1⟩
  go_wp2_with (refine wpList_store_mid rfl 81 (.tmp 3) (.tmp 6) rfl w1.heap.size 0 iniRun rfl rfl ?_ ?_ ini_one ?_; (rw [ini_size]; exact there_new _ _ _ 73 zrun_size); (rw [ini_size]; exact hi))
  obtain ⟨hrun, hb2, hK2, hlt⟩ := sum_begun 81 hb1 hK h0
  have hs1 := hb1.size
  generalize ((w1.alloc (.cells zRun 81)).setCells w1.heap.size 0 iniRun.toList) = w2 at *
  go_loopw [9] (fun i wr => ∃ k : Nat, k ≤ L.length ∧ i = .int .i64 k ∧ RunAt wr w1.heap.size (rn0.all (L.take k).flatten) ∧ Below w.heap.size w wr ∧ w1.heap.size < wr.heap.size) (fun i _ => L.length - (intOf i).toNat)
  case atStart => exact ⟨0, Nat.zero_le _, rfl, hrun, hb2, hlt⟩
  case round =>
    obtain ⟨k, hk, rfl, hr, hb, hltr⟩ := hrel
    clear hrun hb2 hK2 hlt
    by_cases hlk : k < L.length
    · rcases hcell with hcell | ⟨b, off, rfl, hbb, hcell⟩
      · omega
      obtain ⟨a, n, c, hca, hB⟩ := hcell k hlk
      have hca' : wr.cell? ⟨b, off + k, none⟩ = some (.slice a n c) := by rw [hb.cell (p := ⟨b, off + k, none⟩) hbb]; exact hca
      have hB' := hB.below (Nat.le_refl _) hb
      have hKr := tab_below hK hb h0
      have hpl := part_le L k hlk
      have HF : Hid ((L.take (k + 1)).flatten = (L.take k).flatten ++ L.getD k []) := flat_take L k hlk
      have hc3 : (rn0.all (L.take k).flatten).c = (L.take k).flatten.length := by rw [Rn.all_c]; show 0 + _ = _; omega
      have hsr := hb.size
      have hcs : (rn0.all (L.take k).flatten).c ≤ 140737488355328 := by rw [hc3]; have := flat_le L k; omega
      clear hc3 hcell hca
      go_wp2_with fail
      refine (add_bytes (rn0.all (L.take k).flatten) (L.getD k []) _ w1.heap.size wr hB' (fun b' off' cp' e hpos => by
        rcases hB with ⟨e1, -⟩ | ⟨b2, o2, c2, e2, hb2, -⟩
        · rw [e1] at hpos; simp at hpos
        · rw [e2] at e
          simp only [Value.slice.injEq, Option.some.injEq, Addr.mk.injEq] at e
          omega) (by unfold maxLen; omega) (hz k) hr hKr hltr (by omega) (by omega) (by omega)).mono ?_
      rintro e w3 ⟨rfl, hr3, hg3⟩
      have hb3 : Below w.heap.size w w3 := hb.grown hg3 hsr (fun q h => by cases h; exact hs1)
      have hr4 : RunAt w3 w1.heap.size (rn0.all (L.take (k + 1)).flatten) := by rw [HF.out, Rn.all_append]; exact hr3
      have hlt4 : w1.heap.size < w3.heap.size := Nat.lt_of_lt_of_le hltr hg3.size
      clear hr3 hg3 hr hKr hB hB' hca'
      go_wp2_with fail
      go_roundw
      case rel => exact ⟨k + 1, by omega, by go_num, hr4, hb3, hlt4⟩
      case measure => simp [intOf]; omega
    · have e : L.take k = L := List.take_of_length_le (by omega)
      rw [e] at hr
      have hK3 := tab_below hK hb h0
      have hc3 : (rn0.all L.flatten).c = L.flatten.length := by rw [Rn.all_c]; show 0 + _ = _; omega
      have hsr := hb.size
      clear e hcell
      go_wp2_with fail
      refine (end_any (rn0.all L.flatten) w1.heap.size wr hr hK3 hltr (by omega) (by omega) (by rw [hc3]; omega)).mono ?_
      rintro e w4 ⟨g, rfl, ho, hg4⟩
      have hb4 : Below w.heap.size w w4 := hb.grown hg4 hsr (fun q h => by cases h; exact hs1)
      have ho4 : w4.ownsRow w.heap.size 5 1 (.slice (some ⟨g, 0, none⟩) 32 32) 32 ((shaL L.flatten).map (Value.int .u8)) := by
        have := ownsRow_base ho hsr
        rw [hc3] at this
        exact this
      clear ho hg4 hr hK3
      go_wp2_with fail
      go_ret
      exact ⟨g, rfl, ho4, hb4⟩

end Go.Proofs.YtkjlchfmplcobadDoor

/- What TreeTells asks of tree.Leaf and tree.Node. -/
namespace Go.Proofs.YtkjlchfmplcobadDoor
open Go.RowKit

def LeafC : Prop := ∀ (b : List Int) (v : Value) (w : World), Ready w → Some' w v b → b.length ≤ 70368744177664 →
  Calls Tryd.prog 60 #[v] w fun e w' => ∃ x, e = .returned x ∧ w'.ownsRow w.heap.size 5 1 x 32 ((leafL b).map (Value.int .u8)) ∧ Below w.heap.size w w'
def NodeC : Prop := ∀ (b1 b2 : List Int) (v1 v2 : Value) (w : World), Ready w → Some' w v1 b1 → Some' w v2 b2 → b1.length + b2.length ≤ 70368744177664 →
  Calls Tryd.prog 62 #[v1, v2] w fun e w' => ∃ x, e = .returned x ∧ w'.ownsRow w.heap.size 5 1 x 32 ((nodeL b1 b2).map (Value.int .u8)) ∧ Below w.heap.size w w'

end Go.Proofs.YtkjlchfmplcobadDoor

/- The walks of package tree's small functions: Leaf, Node, isDigest, areDigests. -/
namespace Go.Proofs.YtkjlchfmplcobadDoor
open Go.RowKit

theorem bytesAt_new (w : World) (z : Int) (t : TypeId) : BytesAt (w.alloc (.cells #[.int .u8 z] t)) (.slice (some ⟨w.heap.size, 0, none⟩) 1 1) [z] := by
  refine .inr ⟨_, 0, 1, rfl, by simp, fun j hj => ?_⟩
  obtain rfl : j = 0 := by simp at hj; omega
  rw [Nat.add_zero, new_cell w t #[.int .u8 z] 0 (by simp)]; rfl
theorem parts_two {w : World} {v : Value} {b : List Int} (h : BytesAt w v b) (z : Int) (t s : TypeId) :
    PartsAt ((w.alloc (.cells #[.int .u8 z] t)).alloc (.cells #[.slice (some ⟨w.heap.size, 0, none⟩) 1 1, v] s)) (.slice (some ⟨w.heap.size + 1, 0, none⟩) 2 2) [[z], b] := by
  obtain ⟨a, c, rfl⟩ := h.form
  refine .inr ⟨_, 0, 2, rfl, by simp, fun j hj => ?_⟩
  have hb0 : Below w.heap.size w ((w.alloc (.cells #[.int .u8 z] t)).alloc (.cells #[.slice (some ⟨w.heap.size, 0, none⟩) 1 1, .slice a b.length c] s)) := ((Below.refl _ _).alloc (Nat.le_refl _) _).alloc (by simp) _
  have hb1 : Below (w.alloc (.cells #[.int .u8 z] t)).heap.size (w.alloc (.cells #[.int .u8 z] t)) ((w.alloc (.cells #[.int .u8 z] t)).alloc (.cells #[.slice (some ⟨w.heap.size, 0, none⟩) 1 1, .slice a b.length c] s)) := (Below.refl _ _).alloc (Nat.le_refl _) _
  have hj' : j = 0 ∨ j = 1 := by simp at hj; omega
  rcases hj' with rfl | rfl
  · exact ⟨_, _, _, by simp, (bytesAt_new w z t).below (Nat.le_refl _) hb1⟩
  · exact ⟨_, _, _, by simp, h.below (Nat.le_refl _) hb0⟩
theorem parts_three {w : World} {v u : Value} {b d : List Int} (h : BytesAt w v b) (h2 : BytesAt w u d) (z : Int) (t s : TypeId) :
    PartsAt ((w.alloc (.cells #[.int .u8 z] t)).alloc (.cells #[.slice (some ⟨w.heap.size, 0, none⟩) 1 1, v, u] s)) (.slice (some ⟨w.heap.size + 1, 0, none⟩) 3 3) [[z], b, d] := by
  obtain ⟨a, c, rfl⟩ := h.form
  obtain ⟨a2, c2, rfl⟩ := h2.form
  refine .inr ⟨_, 0, 3, rfl, by simp, fun j hj => ?_⟩
  have hb0 : Below w.heap.size w ((w.alloc (.cells #[.int .u8 z] t)).alloc (.cells #[.slice (some ⟨w.heap.size, 0, none⟩) 1 1, .slice a b.length c, .slice a2 d.length c2] s)) := ((Below.refl _ _).alloc (Nat.le_refl _) _).alloc (by simp) _
  have hb1 : Below (w.alloc (.cells #[.int .u8 z] t)).heap.size (w.alloc (.cells #[.int .u8 z] t)) ((w.alloc (.cells #[.int .u8 z] t)).alloc (.cells #[.slice (some ⟨w.heap.size, 0, none⟩) 1 1, .slice a b.length c, .slice a2 d.length c2] s)) := (Below.refl _ _).alloc (Nat.le_refl _) _
  have hj' : j = 0 ∨ j = 1 ∨ j = 2 := by simp at hj; omega
  rcases hj' with rfl | rfl | rfl
  · exact ⟨_, _, _, by simp, (bytesAt_new w z t).below (Nat.le_refl _) hb1⟩
  · exact ⟨_, _, _, by simp, h.below (Nat.le_refl _) hb0⟩
  · exact ⟨_, _, _, by simp, h2.below (Nat.le_refl _) hb0⟩
theorem two_bytes {z : Int} {b : List Int} (h0 : 0 ≤ z) (h1 : z < 256) (h : Bytes b) : ∀ j, Bytes (([[z], b] : List (List Int)).getD j []) := fun j => by
  match j with
  | 0 => exact bytes_cons h0 h1 nil_bytes
  | 1 => exact h
  | j + 2 => exact nil_bytes
theorem three_bytes {z : Int} {b d : List Int} (h0 : 0 ≤ z) (h1 : z < 256) (h : Bytes b) (h2 : Bytes d) : ∀ j, Bytes (([[z], b, d] : List (List Int)).getD j []) := fun j => by
  match j with
  | 0 => exact bytes_cons h0 h1 nil_bytes
  | 1 => exact h
  | 2 => exact h2
  | j + 3 => exact nil_bytes

set_option maxRecDepth 100000 in
set_option maxHeartbeats 1000000 in
theorem leafC_holds : LeafC := by
  intro b v w hr hv hm
  have hp := parts_two hv.at' 0 5 23
  have hb : Below w.heap.size w ((w.alloc (.cells #[.int .u8 0] 5)).alloc (.cells #[.slice (some ⟨w.heap.size, 0, none⟩) 1 1, v] 23)) := ((Below.refl _ _).alloc (Nat.le_refl _) _).alloc (by simp) _
  have hK := tab_below hr.tab hb hr.big
  have h0 := Nat.lt_of_lt_of_le hr.big hb.size
  have hc := parts_any [[0], b] _ _ hp (by unfold maxLen; simp) (by simp; omega) (two_bytes (by decide) (by decide) hv.bytes) hK h0
  obtain ⟨a, c, e⟩ := hv.at'.form
  subst e
  go_enter Tryd.func60, Tryd.ntmps60
  go_wp2_with fail
  refine hc.mono ?_
  rintro e w1 ⟨g, rfl, ho, hb1⟩
  have hs := hb.size
  go_wp2_with fail
  go_ret
  refine ⟨_, rfl, ?_, hb.trans (hb1.mono hs)⟩
  have := ownsRow_base ho hs
  rwa [show ([[0], b] : List (List Int)).flatten = 0 :: b by simp] at this
set_option maxRecDepth 100000 in
set_option maxHeartbeats 1000000 in
theorem nodeC_holds : NodeC := by
  intro b1 b2 v1 v2 w hr hv1 hv2 hm
  have hp := parts_three hv1.at' hv2.at' 1 5 23
  have hb : Below w.heap.size w ((w.alloc (.cells #[.int .u8 1] 5)).alloc (.cells #[.slice (some ⟨w.heap.size, 0, none⟩) 1 1, v1, v2] 23)) := ((Below.refl _ _).alloc (Nat.le_refl _) _).alloc (by simp) _
  have hK := tab_below hr.tab hb hr.big
  have h0 := Nat.lt_of_lt_of_le hr.big hb.size
  have hc := parts_any [[1], b1, b2] _ _ hp (by unfold maxLen; simp) (by simp; omega) (three_bytes (by decide) (by decide) hv1.bytes hv2.bytes) hK h0
  obtain ⟨a, c, e⟩ := hv1.at'.form
  subst e
  obtain ⟨a2, c2, e⟩ := hv2.at'.form
  subst e
  go_enter Tryd.func62, Tryd.ntmps62
  go_wp2_with fail
  refine hc.mono ?_
  rintro e w1 ⟨g, rfl, ho, hb1⟩
  have hs := hb.size
  go_wp2_with fail
  go_ret
  refine ⟨_, rfl, ?_, hb.trans (hb1.mono hs)⟩
  have := ownsRow_base ho hs
  rwa [show ([[1], b1, b2] : List (List Int)).flatten = 1 :: (b1 ++ b2) by simp] at this

end Go.Proofs.YtkjlchfmplcobadDoor

/- The walk of writeEntries: package shelf as it landed. -/
namespace Go.Proofs.YtkjlchfmplcobadDoor
open Go.RowKit

set_option maxRecDepth 100000 in
set_option maxHeartbeats 2000000 in
theorem writeEntries_any (L : List (List Int)) (a : Option Addr) (n c : Nat) (w : World) (hL : Lists w a n c L) (h200 : ∀ j, (L.getD j []).length ≤ 200) (h8 : n ≤ 8) :
    Calls Tryd.prog 49 #[.slice a n c] w fun e w' => ∃ va vc, e = .returned (.slice va (layL L).length vc) ∧ w'.ownsRow w.heap.size 5 1 (.slice va (layL L).length vc) (layL L).length ((layL L).map (Value.int .u8)) ∧ Below w.heap.size w w' := by
  obtain ⟨i0, hi0, hz0, hz1, hz2⟩ := info_parts Tryd.info5b
  have hlen := hL.len
  have h201 : ∀ k, (layL (L.take k)).length ≤ 2000 := fun k => by
    have h1 := layL_length (L.take k) (fun e he => mem_short h200 e (List.mem_of_mem_take he))
    have h2 : (L.take k).length ≤ 8 := by rw [List.length_take]; omega
    omega
  go_enter Tryd.func49, Tryd.ntmps49
  go_wp2_with fail
  go_loopw [3, 8] (fun ov kv wr => ∃ (k : Nat) (va : Option Addr) (m vc : Nat), k ≤ n ∧ kv = .int .i64 k ∧ ov = .slice va m vc ∧ Hid (m = (layL (L.take k)).length) ∧ wr.ownsRow w.heap.size 5 1 (.slice va m vc) m ((layL (L.take k)).map (Value.int .u8)) ∧ Below w.heap.size w wr) (fun _ kv _ => n - (intOf kv).toNat)
  case atStart => exact ⟨0, none, 0, 0, Nat.zero_le _, rfl, rfl, rfl, ⟨rfl, .inl ⟨rfl, rfl⟩⟩, Below.refl _ _⟩
  case round =>
    obtain ⟨wo, rfl⟩ : ∃ x, x = wr := ⟨wr, rfl⟩
    obtain ⟨k, va, m, vc, hk, rfl, rfl, HM, hrow, hbr⟩ := hrel
    have hm := h201 k
    rw [← HM.out] at hm
    have hsr := hbr.size
    by_cases hlt : k < n
    · obtain ⟨b, off, pa, pc, rfl, hcell, hsome⟩ := hL.get k hlt
      have hb0 : b < w.heap.size := World.block_lt_of_cell? w ⟨b, off + k, none⟩ hcell
      have hcell1 := (hbr.cell (p := ⟨b, off + k, none⟩) hb0).trans hcell
      have HS : Hid (layL (L.take (k + 1)) = layL (L.take k) ++ ((L.getD k []).length : Int) :: L.getD k []) := by
        show _ = _
        rw [List.take_succ_eq_append_getElem (by omega), layL_snoc, List.getD_eq_getElem?_getD, List.getElem?_eq_getElem (by omega)]
        rfl
      have hd2 := h200 k
      have hB0 := hsome.at'
      obtain ⟨D, hD⟩ : ∃ D, D = L.getD k [] := ⟨_, rfl⟩
      rw [← hD] at hcell1 HS hd2 hB0
      obtain ⟨d, hd⟩ : ∃ d, d = D.length := ⟨_, rfl⟩
      rw [← hd] at hcell1 HS hd2 hB0
      have Hd : Hid (d = D.length) := hd
      have hlt' : (k : Int) < n := by omega
      have hd' : (d : Int) ≤ 200 := by omega
      have hrowA := hrow.alloc (.cells #[.int .u8 d] 5)
      have hnew := cell_one_new wo (.int .u8 d) 5
      have bA : Below w.heap.size w (wo.alloc (.cells #[.int .u8 d] 5)) := hbr.alloc hsr _
      have hsA : w.heap.size ≤ (wo.alloc (.cells #[.int .u8 d] 5)).heap.size := by simp; omega
      have hdm : m + 1 + D.length ≤ 3000 := by omega
      clear hcell hsome hrow h200 hD hd h201
      go_wp2_with (first
        | (at_builtin; refine wpList_append_own _ rfl (.tmp 12) (.tmp 16) 23 rfl w.heap.size 5 i0 _ 1 1 Tryd.underlying23 hi0 hz0 hz1 hz2 rfl (by decide) _ _ _ rfl hrowA _ 1 1 [.int .u8 d] rfl rfl hnew (by intro u hu; simp at hu; subst hu; rfl) (by unfold maxLen; omega) (by omega) hsA ?_; intro v7 w7 ho7 hg7 _; obtain ⟨ta, tc, rfl⟩ := own_form' ho7; have b7 : Below w.heap.size w w7 := bA.grown hg7 hsA (fun _ h => own_block hrowA h); have hB7 := hB0.below (Nat.le_refl _) b7; clear hg7)
        | (at_builtin; refine wpList_append_bytes rfl (.tmp 18) (.tmp 19) 23 rfl w.heap.size 5 i0 _ Tryd.underlying23 hi0 hz0 hz1 hz2 rfl _ _ _ rfl ho7 pa d pc D rfl hB7 (by unfold maxLen; omega) (by omega) b7.size ?_; intro v8 w8 ho8 hg8; obtain ⟨sa, sc, rfl⟩ := own_form' ho8))
      have b8 : Below w.heap.size w w8 := b7.grown hg8 b7.size (fun _ h => own_block ho7 h)
      go_roundw
      case rel =>
        refine ⟨k + 1, sa, _, sc, by omega, by go_num, rfl, ?_, ?_, b8⟩
        · show _ = _; rw [HS.out, List.length_append, List.length_cons, ← HM.out]; omega
        · rw [HS.out, List.map_append, List.map_cons]; simpa using ho8
      case measure => simp [intOf]; omega
    · obtain rfl : k = n := by omega
      rw [List.take_of_length_le (by omega)] at HM hrow
      go_wp2_with fail
      go_ret
      refine ⟨va, vc, by rw [← HM.out]; rfl, by rw [← HM.out]; exact hrow, hbr⟩

end Go.Proofs.YtkjlchfmplcobadDoor

/- The walk of segments: package shelf as it landed. -/
namespace Go.Proofs.YtkjlchfmplcobadDoor
open Go.RowKit

set_option maxRecDepth 100000 in
set_option maxHeartbeats 4000000 in
theorem segments_any (hPack : PackOC) (L : List (List Int)) (a : Option Addr) (n c : Nat) (w : World) (hL : Lists w a n c L) (h100 : L.length ≤ 100) (h200 : ∀ j, (L.getD j []).length ≤ 200) :
    Calls Tryd.prog 24 #[.slice a n c] w fun e w' => ∃ va vc, e = .returned (.slice va (segsL L).length vc) ∧ ∃ vs, (w'.ownsRow w.heap.size 55 3 (.slice va (segsL L).length vc) (segsL L).length vs ∧ SegEls w' w.heap.size vs (segsL L)) ∧ RiseV vs (segsL L).length ∧ Below w.heap.size w w' := by
  obtain ⟨i0, hi0, hz0, hz1, hz2⟩ := info_parts Tryd.info55b
  have hlen := hL.len
  have hroom := hL.room
  have hcap := hL.cap
  unfold maxLen at hcap
  have hm200 := mem_short h200
  go_enter Tryd.func24, Tryd.ntmps24
  go_wp2_with fail
  go_loopw [3, 4] (fun ov fv wr => ∃ (k : Nat) (va : Option Addr) (vc : Nat) (vs : List Value), 8 * k ≤ n + 7 ∧ fv = .int .i64 ((8 * k : Nat) : Int) ∧ ov = .slice va k vc ∧ wr.ownsRow w.heap.size 55 3 (.slice va k vc) k vs ∧ SegEls wr w.heap.size vs (segsN L k) ∧ RiseV vs k ∧ Below w.heap.size w wr) (fun _ fv _ => n + 8 - (intOf fv).toNat)
  case atStart => exact ⟨0, none, 0, [], by omega, rfl, rfl, ⟨rfl, .inl ⟨rfl, rfl⟩⟩, segEls_nil _ _, riseV_nil, Below.refl _ _⟩
  case round =>
    obtain ⟨wo, rfl⟩ : ∃ x, x = wr := ⟨wr, rfl⟩
    obtain ⟨k, va, vc, vs, hk, rfl, rfl, hrow, hels, hrise, hbr⟩ := hrel
    have hsr := hbr.size
    by_cases hlt : 8 * k < n
    · obtain ⟨b, off, pa, pc, rfl, -, -⟩ := hL.get (8 * k) hlt
      obtain ⟨q, Hq⟩ : ∃ q : Nat, Hid (q = min 8 (n - 8 * k)) := ⟨_, rfl⟩
      have hq1 : 1 ≤ q := by have := Hq.out; omega
      have hq8 : q ≤ 8 := by have := Hq.out; omega
      have hqn : 8 * k + q ≤ n := by have := Hq.out; omega
      have hpart : ((L.drop (8 * k)).take q) = ((L.drop (8 * k)).take 8) := by
        rw [Hq.out, ← hlen, ← List.length_drop, Nat.min_comm, ← List.take_take, List.take_of_length_le (by rw [List.length_take]; omega)]
      have HSK : Hid (segK L k = ⟨((8 * k : Nat) : Int), (q : Int), packL (layL ((L.drop (8 * k)).take 8))⟩) := by show _ = _; unfold segK; rw [hlen, ← Hq.out]
      have hLp := (hL.below hbr).part hqn hq1
      rw [hpart] at hLp
      have hdg : ∀ j, (((L.drop (8 * k)).take 8).getD j []).length ≤ 200 := take_short (fun j => by rw [List.getD_eq_getElem?_getD, List.getElem?_drop, ← List.getD_eq_getElem?_getD]; exact h200 _) 8
      have hW := writeEntries_any _ _ _ _ _ hLp hdg hq8
      have hX1 := lay_bytes hLp.bytes hdg
      have hX2 := lay_part hm200 k
      have hsn := segsN_snoc L k
      rw [HSK.out] at hsn
      have HSN : Hid (segsN L (k + 1) = segsN L k ++ [⟨((8 * k : Nat) : Int), (q : Int), packL (layL ((L.drop (8 * k)).take 8))⟩]) := hsn
      generalize layL ((L.drop (8 * k)).take 8) = X at *
      have hP : ∀ w' v, BytesAt w' v X → Calls Tryd.prog 48 #[v] w' fun e w'' => ∃ v', e = .returned (.tuple #[v', .int .i64 0]) ∧ w''.ownsRow w'.heap.size 5 1 v' (packL X).length ((packL X).map (Value.int .u8)) ∧ Below w'.heap.size w' w'' := fun w' v h => by
        have := hPack X v w' ⟨h, hX1, by unfold maxLen; omega⟩
        unfold muchE packE at this
        rwa [if_neg (by omega), if_neg (by omega)] at this
      have hC := countFrom_any ((8 * k : Nat) : Int) n wo (by omega) (by omega) (by omega) (by omega)
      rw [show min 8 ((n : Int) - ((8 * k : Nat) : Int)) = (q : Int) by have := Hq.out; omega] at hC
      generalize packL X = P at *
      clear hsn hpart hLp hdg hX1 hX2 HSK Hq h200 hm200
      obtain ⟨F, HF⟩ : ∃ F, Hid (8 * k = F) := ⟨_, rfl⟩
      rw [HF.out] at hW hC HSN hlt hqn hk ⊢
      have j1 : (F : Int) < n := by omega
      have j2 : (F : Int) + q ≤ n := by omega
      have j3 : (F : Int) + q ≤ c := by omega
      have j4 : ¬ c = F := by omega
      go_wp2_with fail
      refine hC.mono ?_
      rintro e w1 ⟨rfl, rfl⟩
      clear hC
      go_wp2_with fail
      refine hW.mono ?_
      rintro e w1 ⟨ta, tc, rfl, ho1, hb1⟩
      have b1 := hbr.trans (hb1.mono hsr)
      have hP1 := hP _ _ (bytesAt_own ho1)
      clear hW hP ho1
      go_wp2_with fail
      refine hP1.mono ?_
      rintro e w2 ⟨v2, rfl, ho2, hb2⟩
      have b2 := b1.trans (hb2.mono b1.size)
      have hw12 := (hb1.trans (hb2.mono hb1.size))
      have hrow2 := own3_below hrow hw12 (Nat.le_refl _)
      have hels2 := hels.below hw12 (Nat.le_refl _)
      have hs2 := b2.size
      have hri2 : Hid (RiseV (vs ++ [.int .i64 (F : Int), .int .i64 (q : Int), v2]) (k + 1)) := RiseV.snoc hrise hels (segsN_length L k) (fun g hg => Nat.le_trans hb1.size (ho2.lt g hg).1)
      have hsn2 := hels2.snoc (s := ⟨(F : Int), (q : Int), P⟩) (ownsRow_base ho2 b1.size)
      obtain ⟨ya, yc, rfl⟩ := own_form' ho2
      have hnew := lit_seg w2 (F : Int) (q : Int) (.slice ya P.length yc) 55
      have hone : ∀ u ∈ [Value.int .i64 (F : Int), .int .i64 (q : Int), .slice ya P.length yc], u.oneCell' = true := by intro u hu; simp at hu; rcases hu with rfl | rfl | rfl <;> rfl
      have hrowA := hrow2.alloc (.cells #[.int .i64 (F : Int), .int .i64 (q : Int), .slice ya P.length yc] 55)
      have helsA := hsn2.alloc (.cells #[.int .i64 (F : Int), .int .i64 (q : Int), .slice ya P.length yc] 55)
      have bA : Below w.heap.size w (w2.alloc (.cells #[.int .i64 (F : Int), .int .i64 (q : Int), .slice ya P.length yc] 55)) := b2.alloc hs2 _
      have hsA := bA.size
      have hk15 : k ≤ 20 := by have := HF.out; omega
      clear hrow hels hrise hels2 hsn2 hrow2 hP1 ho2 hw12 hb1 hb2
      go_wp2_with (at_builtin; refine wpList_append_own _ rfl (.tmp 29) (.tmp 34) 26 rfl w.heap.size 55 i0 _ 3 40 Tryd.underlying26 hi0 hz0 hz1 hz2 rfl (by decide) _ _ _ rfl hrowA ⟨w2.heap.size, 0, none⟩ 1 1 [.int .i64 (F : Int), .int .i64 (q : Int), .slice ya P.length yc] rfl rfl hnew hone (by unfold maxLen; omega) (by omega) hsA ?_; intro v7 w7 ho7 hg7 _; obtain ⟨sa, sc, rfl⟩ := own3_form ho7)
      have b7 : Below w.heap.size w w7 := bA.grown hg7 hsA (fun _ h => own3_block hrowA h)
      have hels7 := helsA.kept hrowA hg7
      go_roundw
      case rel =>
        refine ⟨k + 1, sa, sc, _, by have := HF.out; omega, ?_, rfl, ho7, by rw [HSN.out]; exact hels7, hri2.out, b7⟩
        have := HF.out
        rw [show ((8 * (k + 1) : Nat) : Int) = (F : Int) + 8 by omega]
      case measure => simp [intOf]; omega
    · have hkk : k = (L.length + 7) / 8 := by omega
      have hj1 : ¬ ((8 * k : Nat) : Int) < n := by omega
      have hN : segsN L k = segsL L := by unfold segsL; rw [hkk]
      rw [hN] at hels
      have hl2 : (segsL L).length = k := by unfold segsL; rw [segsN_length, ← hkk]
      have HL : Hid ((segsL L).length = k) := hl2
      have HO : Hid ((wo.ownsRow w.heap.size 55 3 (.slice va k vc) k vs ∧ SegEls wo w.heap.size vs (segsL L)) ∧ RiseV vs k) := ⟨⟨hrow, hels⟩, hrise⟩
      clear hN hl2 hkk hrow hels hrise hk
      obtain ⟨F, HF⟩ : ∃ F, Hid (8 * k = F) := ⟨_, rfl⟩
      rw [HF.out] at hj1 ⊢
      go_wp2_with fail
      go_ret
      exact ⟨va, vc, by rw [HL.out]; rfl, vs, by rw [HL.out]; exact HO.out.1, by rw [HL.out]; exact HO.out.2, hbr⟩

end Go.Proofs.YtkjlchfmplcobadDoor
