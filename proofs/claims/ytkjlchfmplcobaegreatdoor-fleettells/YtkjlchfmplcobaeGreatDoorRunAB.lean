/- TreeMem, TreeFace, TreeLawBase, BookMath, ShelfMath, FleetMath, FleetOk, FleetBookM, as one text. -/
import Derived.Test.YtkjlchfmplcobaeGreatDoorProg
import Derived.Test.YtkjlchfmplcobaeGreatDoorShaOwn
import Derived.Test.YtkjlchfmplcobaeGreatDoorRunAM
import Derived.Test.YtkjlchfmplcobaeGreatDoorRunAK
import Derived.WalkKit
import Derived.Laws.AppendOwnNone
import Derived.Test.YtkjlchfmplcobaeGreatDoorRunAI
/- What trees' answers are, and lists of bytes in memory. Nothing of the program's functions is in it. -/
namespace Go.Proofs.YtkjlchfmplcobaeGreatDoor
open Go.RowKit

theorem PartsAt.form {w : World} {v : Value} {L : List (List Int)} (h : PartsAt w v L) : ∃ a c, v = .slice a L.length c ∧ (L.length = 0 ∨ ∃ b off, a = some ⟨b, off, none⟩ ∧ b < w.heap.size ∧ ∀ j, j < L.length → ∃ a c, w.cell? ⟨b, off + j, none⟩ = some (.slice a (L.getD j []).length c) ∧ BytesAt w (.slice a (L.getD j []).length c) (L.getD j [])) := by
  rcases h with ⟨rfl, a, c, rfl⟩ | ⟨b, off, cp, rfl, h2, h3⟩
  · exact ⟨a, c, rfl, .inl rfl⟩
  · refine ⟨_, _, rfl, .inr ⟨b, off, rfl, h2, fun j hj => ?_⟩⟩
    obtain ⟨a, n, c, hc, hB⟩ := h3 j hj
    obtain ⟨a', c', e⟩ := hB.form
    cases e
    exact ⟨_, _, hc, hB⟩
/-- All are digests? -/
def goodL (L : List (List Int)) : Bool := L.all (fun d => decide (d.length = 32))
theorem goodL_digs {L : List (List Int)} : goodL L = true ↔ Digs L := by simp [goodL, Digs]
theorem PartsAt.take {w : World} {a : Option Addr} {n c k : Nat} {L : List (List Int)} (h : PartsAt w (.slice a n c) L) (hn : L.length = n) (hk : k ≤ n) (h0 : 0 < n) (c' : Nat) : PartsAt w (.slice a k c') (L.take k) := by
  rcases h with ⟨rfl, -⟩ | ⟨b, off, cp, e, h2, h3⟩
  · simp at hn; omega
  · cases e
    have hl : (L.take k).length = k := by rw [List.length_take]; omega
    refine .inr ⟨b, off, c', by rw [hl], h2, fun j hj => ?_⟩
    obtain ⟨a, m, c, hc, hB⟩ := h3 j (by omega)
    refine ⟨a, m, c, hc, ?_⟩
    rw [List.getD_eq_getElem?_getD, List.getElem?_take, if_pos (by omega), ← List.getD_eq_getElem?_getD]
    exact hB
theorem PartsAt.drop {w : World} {b off n c k : Nat} {L : List (List Int)} (h : PartsAt w (.slice (some ⟨b, off, none⟩) n c) L) (hn : L.length = n) (hk : k ≤ n) (h0 : 0 < n) (c' : Nat) : PartsAt w (.slice (some ⟨b, off + k, none⟩) (n - k) c') (L.drop k) := by
  rcases h with ⟨rfl, -⟩ | ⟨b, off, cp, e, h2, h3⟩
  · simp at hn; omega
  · cases e
    have hl : (L.drop k).length = L.length - k := List.length_drop
    refine .inr ⟨b, off + k, c', by rw [hl], h2, fun j hj => ?_⟩
    obtain ⟨a, m, c, hc, hB⟩ := h3 (k + j) (by omega)
    refine ⟨a, m, c, by rw [Nat.add_assoc]; exact hc, ?_⟩
    rw [List.getD_eq_getElem?_getD, List.getElem?_drop, ← List.getD_eq_getElem?_getD]
    exact hB
theorem bytes_shaL (zs : List Int) : Bytes (shaL zs) := by
  intro j
  have : ∀ x ∈ shaL zs, 0 ≤ x ∧ x < 256 := by
    intro x hx
    unfold shaL St.out at hx
    obtain ⟨y, -, hy⟩ := List.mem_flatMap.1 hx
    simp only [byte4, List.mem_cons, List.not_mem_nil, or_false] at hy
    have := U_lo y
    rcases hy with rfl | rfl | rfl | rfl <;> omega
  rw [List.getD_eq_getElem?_getD]
  by_cases hj : j < (shaL zs).length
  · rw [List.getElem?_eq_getElem hj]; exact this _ (List.getElem_mem hj)
  · rw [List.getElem?_eq_none (by omega)]; exact ⟨by decide, by decide⟩
theorem bytes_mth (ls : List (List Int)) : Bytes (mth ls) := by
  rw [mth]; split
  · exact bytes_shaL _
  · split
    · exact bytes_shaL _
    · exact bytes_shaL _
theorem PartsAt.last {w : World} {a : Option Addr} {m c : Nat} {p : List (List Int)} (h : PartsAt w (.slice a m c) p) (hm : p.length = m) (h0 : m ≠ 0) : ∃ b off ta tc, a = some ⟨b, off, none⟩ ∧ b < w.heap.size ∧ w.cell? ⟨b, off + (m - 1), none⟩ = some (.slice ta (p.getD (m - 1) []).length tc) ∧ BytesAt w (.slice ta (p.getD (m - 1) []).length tc) (p.getD (m - 1) []) := by
  obtain ⟨a0, c0, e0, hcell⟩ := h.form
  rw [hm] at e0
  cases e0
  obtain ⟨b, off, rfl, hb0, hcl⟩ := hcell.resolve_left (by omega)
  obtain ⟨ta, tc, h1, h2⟩ := hcl (m - 1) (by omega)
  exact ⟨b, off, ta, tc, rfl, hb0, h1, h2⟩
theorem getD_take_or (L : List (List Int)) (k j : Nat) : (L.take k).getD j [] = L.getD j [] ∨ (L.take k).getD j [] = [] := by
  by_cases h : j < k
  · left; rw [List.getD_eq_getElem?_getD, List.getElem?_take, if_pos h, ← List.getD_eq_getElem?_getD]
  · right; rw [List.getD_eq_getElem?_getD, List.getElem?_take, if_neg h]; rfl
theorem take_bytes {L : List (List Int)} (h : ∀ j, Bytes (L.getD j [])) (k : Nat) : ∀ j, Bytes ((L.take k).getD j []) := fun j => by
  rcases getD_take_or L k j with e | e <;> rw [e]
  · exact h j
  · exact nil_bytes
theorem take_short {L : List (List Int)} {m : Nat} (h : ∀ j, (L.getD j []).length ≤ m) (k : Nat) : ∀ j, ((L.take k).getD j []).length ≤ m := fun j => by
  rcases getD_take_or L k j with e | e <;> rw [e]
  · exact h j
  · exact Nat.zero_le _
/-- What Stands tells. -/
def standsL (size : Int) (root b : List Int) (i : Int) (p : List (List Int)) : Bool :=
  if size < 1 ∨ 100 < size ∨ i < 0 ∨ size ≤ i ∨ 200 < b.length ∨ goodL p = false then false else
    (upL (leafL b) i.toNat size.toNat p).2 && decide ((upL (leafL b) i.toNat size.toNat p).1 = root)
/-- What is wrong with leaves: the errno, and where. -/
def wrongFrom (L : List (List Int)) (k : Nat) : Int × Int :=
  match L with
  | [] => (0, 0)
  | b :: l => if 200 < b.length then (4, k) else wrongFrom l (k + 1)
def wrongL (L : List (List Int)) : Int × Int := if 100 < L.length then (5, 0) else wrongFrom L 0
theorem wrong_at {L : List (List Int)} {k : Nat} (q : Nat) (hk : k < L.length) (hb : ∀ j, j < k → (L.getD j []).length ≤ 200) (h : 200 < (L.getD k []).length) : wrongFrom L q = (4, ((q + k : Nat) : Int)) := by
  induction L generalizing k q with
  | nil => simp at hk
  | cons b l ih =>
    unfold wrongFrom
    cases k with
    | zero => rw [if_pos (by simpa using h)]; rfl
    | succ k =>
      have h0 := hb 0 (by omega)
      rw [if_neg (by simp at h0; omega), ih (q + 1) (k := k) (by simpa using hk) (fun j hj => by simpa using hb (j + 1) (by omega)) (by simpa using h)]
      congr 2
      omega
theorem wrong_none {L : List (List Int)} (q : Nat) (hb : ∀ j, j < L.length → (L.getD j []).length ≤ 200) : wrongFrom L q = (0, 0) := by
  induction L generalizing q with
  | nil => rfl
  | cons b l ih =>
    unfold wrongFrom
    have h0 := hb 0 (by simp)
    rw [if_neg (by simp at h0; omega), ih (q + 1) (fun j hj => by simpa using hb (j + 1) (by simpa using hj))]
theorem Tryz.info37b : (Tryz.prog.info? 37).map (fun i => (i.zero, i.size, i.bytes)) = some (some (.slice none 0 0), 1, 24) := by kernel_rfl
theorem own_ne {w : World} {base b2 : Nat} {e1 e2 : TypeId} {v1 v2 : Value} {n1 n2 : Nat} {xs1 xs2 : List Value} (h1 : w.ownsRow base e1 1 v1 n1 xs1) (h2 : w.ownsRow b2 e2 1 v2 n2 xs2) (hne : e1 ≠ e2) : Sep v1 v2 := fun g hg1 hg2 => by
  rcases h1.2 with ⟨rfl, -⟩ | ⟨g1, c1, cur1, rfl, -, hh1, -⟩
  · cases hg1
  rcases h2.2 with ⟨rfl, -⟩ | ⟨g2, c2, cur2, rfl, -, hh2, -⟩
  · cases hg2
  cases hg1
  cases hg2
  rw [hh1] at hh2
  cases hh2
  exact hne rfl
/-- Each of the values is a row of bytes of the call's own. -/
def OwnEls (w : World) (base : Nat) (vs : List Value) (L : List (List Int)) : Prop :=
  ∀ j, j < L.length → ∃ y, vs[j]? = some y ∧ w.ownsRow base 5 1 y (L.getD j []).length ((L.getD j []).map (Value.int .u8))
/-- A slice of slices of bytes, all of them the call's own. -/
def OwnParts (w : World) (base : Nat) (v : Value) (L : List (List Int)) : Prop := ∃ vs, w.ownsRow base 37 1 v L.length vs ∧ OwnEls w base vs L
theorem OwnEls.kept {w w' : World} {base : Nat} {vs : List Value} {L : List (List Int)} {v : Value} {n : Nat} {xs : List Value} (h : OwnEls w base vs L) (hr : w.ownsRow base 37 1 v n xs) (hg : w.grownBy w' v.ownBlock) : OwnEls w' base vs L := fun j hj => by
  obtain ⟨y, h1, h2⟩ := h j hj
  exact ⟨y, h1, h2.kept hg (own_ne h2 hr (by decide)).or⟩
theorem OwnEls.alloc {w : World} {base : Nat} {vs : List Value} {L : List (List Int)} (h : OwnEls w base vs L) (o : Obj) : OwnEls (w.alloc o) base vs L := fun j hj => by
  obtain ⟨y, h1, h2⟩ := h j hj
  exact ⟨y, h1, h2.alloc o⟩
theorem OwnEls.below {w w' : World} {base N : Nat} {vs : List Value} {L : List (List Int)} (h : OwnEls w base vs L) (hb : Below N w w') (hN : w.heap.size ≤ N) : OwnEls w' base vs L := fun j hj => by
  obtain ⟨y, h1, h2⟩ := h j hj
  exact ⟨y, h1, own_below h2 hb hN⟩
theorem OwnEls.base {w : World} {b b' : Nat} {vs : List Value} {L : List (List Int)} (h : OwnEls w b vs L) (hb : b' ≤ b) : OwnEls w b' vs L := fun j hj => by
  obtain ⟨y, h1, h2⟩ := h j hj
  exact ⟨y, h1, ownsRow_base h2 hb⟩
theorem OwnEls.snoc {w : World} {base : Nat} {vs : List Value} {L : List (List Int)} {x : Value} {d : List Int} (h : OwnEls w base vs L) (hl : vs.length = L.length) (hx : w.ownsRow base 5 1 x d.length (d.map (Value.int .u8))) : OwnEls w base (vs ++ [x]) (L ++ [d]) := fun j hj => by
  by_cases e : j < L.length
  · obtain ⟨y, h1, h2⟩ := h j e
    refine ⟨y, by rw [List.getElem?_append_left (by omega)]; exact h1, ?_⟩
    rw [List.getD_eq_getElem?_getD, List.getElem?_append_left e, ← List.getD_eq_getElem?_getD]
    exact h2
  · obtain rfl : j = L.length := by simp at hj; omega
    refine ⟨x, by rw [List.getElem?_append_right (by omega), hl, Nat.sub_self]; rfl, ?_⟩
    rw [List.getD_eq_getElem?_getD, List.getElem?_append_right (Nat.le_refl _), Nat.sub_self]
    exact hx
theorem OwnParts.below {w w' : World} {base N : Nat} {v : Value} {L : List (List Int)} (h : OwnParts w base v L) (hb : Below N w w') (hN : w.heap.size ≤ N) : OwnParts w' base v L := by
  obtain ⟨vs, h1, h2⟩ := h
  exact ⟨vs, own_below h1 hb hN, h2.below hb hN⟩
theorem OwnParts.base {w : World} {b b' : Nat} {v : Value} {L : List (List Int)} (h : OwnParts w b v L) (hb : b' ≤ b) : OwnParts w b' v L := by
  obtain ⟨vs, h1, h2⟩ := h
  exact ⟨vs, ownsRow_base h1 hb, h2.base hb⟩
theorem OwnParts.nil (w : World) (base : Nat) : OwnParts w base (.slice none 0 0) [] := ⟨[], World.ownsRow_nil _ _ _ _, fun _ hj => absurd hj (Nat.not_lt_zero _)⟩
theorem OwnParts.form {w : World} {base : Nat} {v : Value} {L : List (List Int)} (h : OwnParts w base v L) : ∃ a c, v = .slice a L.length c ∧ L.length ≤ c ∧ c ≤ maxLen := by
  obtain ⟨vs, h1, -⟩ := h
  exact own_cap h1
/-- So it reads as what it is. -/
theorem OwnParts.parts {w : World} {base : Nat} {v : Value} {L : List (List Int)} (h : OwnParts w base v L) : PartsAt w v L := by
  obtain ⟨vs, h1, h2⟩ := h
  rcases h1.2 with ⟨hv, hn⟩ | ⟨g, cap, cur, rfl, -, hg, -⟩
  · exact .inl ⟨List.eq_nil_of_length_eq_zero hn, none, 0, by rw [hv]⟩
  · refine .inr ⟨g, 0, cap, rfl, ?_, fun j hj => ?_⟩
    · rcases Nat.lt_or_ge g w.heap.size with h' | h'
      · exact h'
      · rw [Array.getElem?_eq_none h'] at hg; cases hg
    · obtain ⟨y, h3, h4⟩ := h2 j hj
      obtain ⟨a, c, rfl⟩ := own_form' h4
      refine ⟨a, _, c, ?_, bytesAt_own h4⟩
      rw [Nat.zero_add, h1.cellAt j (by omega)]
      exact h3
/-- Leaves as a call meets them: they can be read, there is room for what there is, and they are bytes, not too many. -/
structure Leaves (w : World) (a : Option Addr) (n c : Nat) (L : List (List Int)) : Prop where
  len : L.length = n
  at' : PartsAt w (.slice a n c) L
  room : n ≤ c
  cap : c ≤ maxLen
  bytes : ∀ j, Bytes (L.getD j [])
  short : ∀ j, (L.getD j []).length ≤ 1000000
theorem Leaves.below {w w' : World} {a : Option Addr} {n c : Nat} {L : List (List Int)} (h : Leaves w a n c L) (hb : Below w.heap.size w w') : Leaves w' a n c L :=
  ⟨h.len, h.at'.below (Nat.le_refl _) hb, h.room, h.cap, h.bytes, h.short⟩
theorem Leaves.take {w : World} {a : Option Addr} {n c k : Nat} {L : List (List Int)} (h : Leaves w a n c L) (hk : k ≤ n) (h0 : 0 < n) : Leaves w a k c (L.take k) :=
  ⟨by rw [List.length_take]; have := h.len; omega, h.at'.take h.len hk h0 _, by have := h.room; omega, h.cap, take_bytes h.bytes k, take_short h.short k⟩
theorem Leaves.drop {w : World} {b off n c k : Nat} {L : List (List Int)} (h : Leaves w (some ⟨b, off, none⟩) n c L) (hk : k ≤ n) (h0 : 0 < n) : Leaves w (some ⟨b, off + k, none⟩) (n - k) (c - k) (L.drop k) :=
  have gd : ∀ j, (L.drop k).getD j [] = L.getD (k + j) [] := fun j => by rw [List.getD_eq_getElem?_getD, List.getElem?_drop, ← List.getD_eq_getElem?_getD]
  ⟨by rw [List.length_drop]; have := h.len; omega, h.at'.drop h.len hk h0 _, by have := h.room; omega, by have := h.cap; omega, fun j => by rw [gd j]; exact h.bytes _, fun j => by rw [gd j]; exact h.short _⟩
theorem Leaves.addr {w : World} {a : Option Addr} {n c : Nat} {L : List (List Int)} (h : Leaves w a n c L) (h0 : 0 < n) : ∃ b off, a = some ⟨b, off, none⟩ := by
  obtain ⟨a0, c0, e0, hcell⟩ := h.at'.form
  rw [h.len] at e0
  cases e0
  obtain ⟨b, off, rfl, -⟩ := hcell.resolve_left (by have := h.len; omega)
  exact ⟨b, off, rfl⟩
theorem OwnParts.one {w w1 : World} {base : Nat} {xa : Option Addr} {xc : Nat} {d : List Int} (hl : d.length = 32) (h : w1.ownsRow w.heap.size 5 1 (.slice xa 32 xc) 32 (d.map (Value.int .u8))) (hb : base ≤ w.heap.size) (hs : w.heap.size ≤ w1.heap.size) :
    OwnParts (w1.alloc (.cells #[.slice xa 32 xc] 37)) base (.slice (some ⟨w1.heap.size, 0, none⟩) 1 1) [d] := by
  refine ⟨[.slice xa 32 xc], World.ownsRow_lit w1 #[.slice xa 32 xc] 1 (by omega) (by unfold maxLen; omega) rfl, fun j hj => ?_⟩
  obtain rfl : j = 0 := by simp at hj; omega
  exact ⟨_, rfl, by show World.ownsRow _ _ _ _ _ d.length _; rw [hl]; exact (ownsRow_base h hb).alloc _⟩
/-- The values of a list as they lie. -/
theorem PartsAt.src {w : World} {a : Option Addr} {l c : Nat} {L : List (List Int)} (h : PartsAt w (.slice a l c) L) (hl : L.length = l) : ∃ vs : List Value, vs.length = l ∧ (∀ ad, a = some ad → ∀ j u, vs[j]? = some u → w.cell? (ad.add j) = some u) ∧
    (∀ j, j < l → ∃ pa pc, vs[j]? = some (.slice pa (L.getD j []).length pc) ∧ BytesAt w (.slice pa (L.getD j []).length pc) (L.getD j [])) ∧ (∀ u ∈ vs, u.oneCell' = true) := by
  obtain ⟨a0, c0, e0, hcell⟩ := h.form
  rw [hl] at e0
  cases e0
  rcases hcell with h0 | ⟨b, off, rfl, hb, hc⟩
  · obtain rfl : l = 0 := by omega
    exact ⟨[], rfl, fun _ _ j u hu => by simp at hu, fun j hj => absurd hj (Nat.not_lt_zero _), fun u hu => by cases hu⟩
  · rw [hl] at hc
    let f : Nat → Value := fun j => (w.cell? ⟨b, off + j, none⟩).getD (.slice none 0 0)
    have hf : ∀ j, j < l → ∃ pa pc, f j = .slice pa (L.getD j []).length pc ∧ w.cell? ⟨b, off + j, none⟩ = some (f j) ∧ BytesAt w (.slice pa (L.getD j []).length pc) (L.getD j []) := fun j hj => by
      obtain ⟨pa, pc, h1, h2⟩ := hc j hj
      have e : f j = .slice pa (L.getD j []).length pc := by show (w.cell? ⟨b, off + j, none⟩).getD _ = _; rw [h1]; rfl
      exact ⟨pa, pc, e, by rw [e]; exact h1, h2⟩
    have hget : ∀ j, j < l → ((List.range l).map f)[j]? = some (f j) := fun j hj => by rw [List.getElem?_map, List.getElem?_range hj]; rfl
    refine ⟨(List.range l).map f, by simp, fun ad ha j u hu => ?_, fun j hj => ?_, fun u hu => ?_⟩
    · cases ha
      have hj : j < l := by have := (List.getElem?_eq_some_iff.1 hu).1; simpa using this
      rw [hget j hj] at hu
      cases hu
      obtain ⟨-, -, -, h2, -⟩ := hf j hj
      rw [Addr.add_mid]; exact h2
    · obtain ⟨pa, pc, h1, -, h3⟩ := hf j hj
      exact ⟨pa, pc, by rw [hget j hj, h1], h3⟩
    · obtain ⟨j, hj, rfl⟩ := List.mem_map.1 hu
      obtain ⟨pa, pc, h1, -⟩ := hf j (by simpa using hj)
      rw [h1]; rfl
/-- A row of the call's own, of values that can be read. -/
theorem parts_of_row {w : World} {base : Nat} {v : Value} {n : Nat} {xs : List Value} {L : List (List Int)} (h : w.ownsRow base 37 1 v n xs) (hl : L.length = n) (he : ∀ j, j < n → ∃ a m c, xs[j]? = some (.slice a m c) ∧ BytesAt w (.slice a m c) (L.getD j [])) : PartsAt w v L := by
  rcases h.2 with ⟨hv, hn⟩ | ⟨g, cap, cur, rfl, -, hg, -⟩
  · exact .inl ⟨List.eq_nil_of_length_eq_zero (by omega), none, 0, by rw [hv]⟩
  · refine .inr ⟨g, 0, cap, by rw [hl], ?_, fun j hj => ?_⟩
    · rcases Nat.lt_or_ge g w.heap.size with h' | h'
      · exact h'
      · rw [Array.getElem?_eq_none h'] at hg; cases hg
    · obtain ⟨a, m, c, h1, h2⟩ := he j (by omega)
      exact ⟨a, m, c, by rw [Nat.zero_add, h.cellAt j (by omega)]; exact h1, h2⟩
/-- append(dst, src...), dst the call's own, src a list as it came. -/
theorem wpList_append_parts {P : Program} {w : World} {ops : Array Oper} {rest : List Oper} {o : Oper} {ac : Act} {Q : Exit → Act → World → Prop} (hgd : o.guard = none) (s x : Operand) (t : TypeId)
    (ho : o.op = .call { callee := .builtin .append, args := #[s, x], argTypes := #[t, t] })
    (base : Nat) (e : TypeId) (i : TypeInfo) (z : Value) (bytes : Nat) (ht : P.underlying t = some (.slice e)) (hi : P.info? e = some i) (hz : i.zero = some z)
    (hsize : i.size = 1) (hby : i.bytes = bytes) (hzs : z.cells.size = 1)
    (v : Value) (n : Nat) (xs : List Value) (hs : ac.eval s = v) (hown : w.ownsRow base e 1 v n xs)
    (a : Option Addr) (l c : Nat) (vs : List Value) (hx : ac.eval x = .slice a l c) (hnil : a = none → l = 0 ∧ c = 0) (hl : vs.length = l) (hc : ∀ ad, a = some ad → ∀ j u, vs[j]? = some u → w.cell? (ad.add j) = some u) (h1 : ∀ u ∈ vs, u.oneCell' = true)
    (h63 : n + l ≤ maxLen) (hbytes : (n + l) * bytes ≤ 140737488355328) (hbase : base ≤ w.heap.size)
    (h : ∀ v' w', w'.ownsRow base e 1 v' (n + l) (xs ++ vs) → w.grownBy w' v.ownBlock → wpList P ops Q rest (ac.put o.dst v') w') : wpList P ops Q (o :: rest) ac w := by
  cases a with
  | none =>
    obtain ⟨rfl, rfl⟩ := hnil rfl
    obtain rfl : vs = [] := List.eq_nil_of_length_eq_zero hl
    exact wpList_append_own_none hgd s x t ho base e i 1 ht hi v n xs hs hown hx (h v w (by simpa using hown) (World.grownBy.refl _ _))
  | some ad =>
    exact wpList_append_own _ hgd s x t ho base e i z 1 bytes ht hi hz hsize hby hzs (by decide) v n xs hs hown ad l c vs hx (by omega) (hc ad rfl) h1 h63 hbytes hbase (fun v' w' h1 h2 _ => h v' w' h1 h2)
theorem mem_short {L : List (List Int)} {m : Nat} (h : ∀ j, (L.getD j []).length ≤ m) : ∀ x ∈ L, x.length ≤ m := fun x hx => by
  obtain ⟨j, hj, rfl⟩ := List.mem_iff_getElem.1 hx
  have := h j
  rwa [List.getD_eq_getElem?_getD, List.getElem?_eq_getElem hj] at this
theorem short_mem {L : List (List Int)} {m : Nat} (h : ∀ x ∈ L, x.length ≤ m) (j : Nat) : (L.getD j []).length ≤ m := by
  rw [List.getD_eq_getElem?_getD]
  by_cases hj : j < L.length
  · rw [List.getElem?_eq_getElem hj]; exact h _ (List.getElem_mem hj)
  · rw [List.getElem?_eq_none (by omega)]; exact Nat.zero_le _
theorem wrong_ok {L : List (List Int)} (h : (wrongL L).1 = 0) : L.length ≤ 100 ∧ ∀ j, (L.getD j []).length ≤ 200 := by
  unfold wrongL at h
  by_cases h1 : 100 < L.length
  · rw [if_pos h1] at h; simp at h
  · rw [if_neg h1] at h
    refine ⟨by omega, ?_⟩
    have key : ∀ (L : List (List Int)) (q : Nat), (wrongFrom L q).1 = 0 → ∀ j, (L.getD j []).length ≤ 200 := fun L => by
      induction L with
      | nil => intro q _ j; simp
      | cons b l ih =>
        intro q hq j
        unfold wrongFrom at hq
        by_cases h2 : 200 < b.length
        · rw [if_pos h2] at hq; simp at hq
        · rw [if_neg h2] at hq
          cases j with
          | zero => simp; omega
          | succ j => simpa using ih (q + 1) hq j
    exact key L 0 h
end Go.Proofs.YtkjlchfmplcobaeGreatDoor

/- What the laws of chapter 2 ask of package tree's faces, as propositions: each is shown of the landed code elsewhere. -/
namespace Go.Proofs.YtkjlchfmplcobaeGreatDoor
open Go.RowKit

/-- The world holds the digests' table. -/
structure Ready (w : World) : Prop where
  tab : Tab w
  big : 0 < w.heap.size
theorem Ready.below {w w' : World} (h : Ready w) (hb : Below w.heap.size w w') : Ready w' := ⟨tab_below h.tab hb h.big, Nat.lt_of_lt_of_le h.big hb.size⟩
/-- A list of bytes' lists as it comes in: it can be read, there is room for what there is, and it is bytes. -/
structure Lists (w : World) (a : Option Addr) (n c : Nat) (L : List (List Int)) : Prop where
  len : L.length = n
  at' : PartsAt w (.slice a n c) L
  room : n ≤ c
  cap : c ≤ maxLen
  nil : a = none → n = 0 ∧ c = 0
  bytes : ∀ j, Bytes (L.getD j [])
  short : ∀ j, (L.getD j []).length ≤ maxLen
theorem Lists.below {w w' : World} {a : Option Addr} {n c : Nat} {L : List (List Int)} (h : Lists w a n c L) (hb : Below w.heap.size w w') : Lists w' a n c L :=
  ⟨h.len, h.at'.below (Nat.le_refl _) hb, h.room, h.cap, h.nil, h.bytes, h.short⟩
@[reducible] def faultV (p : Int × Int) : Value := .agg #[.int .i64 p.1, .int .i64 p.2]
/-- What Path and Grows say. -/
def pathF (L : List (List Int)) (i : Int) : Int × Int := if (wrongL L).1 ≠ 0 then wrongL L else if i < 0 ∨ (L.length : Int) ≤ i then (6, 0) else (0, 0)
def WrongC : Prop := ∀ (L : List (List Int)) (a : Option Addr) (n c : Nat) (w : World), Lists w a n c L →
  Calls Tryz.prog 54 #[.slice a n c] w fun e w' => e = .returned (faultV (wrongL L)) ∧ Below w.heap.size w w'
def RootC : Prop := ∀ (L : List (List Int)) (a : Option Addr) (n c : Nat) (w : World), Ready w → Lists w a n c L →
  Calls Tryz.prog 58 #[.slice a n c] w fun e w' => ∃ xa xn xc, e = .returned (.tuple #[.slice xa xn xc, faultV (wrongL L)]) ∧ ((wrongL L).1 = 0 → w'.ownsRow w.heap.size 5 1 (.slice xa xn xc) 32 ((mth L).map (Value.int .u8))) ∧ ((wrongL L).1 ≠ 0 → xn = 0) ∧ Below w.heap.size w w'
end Go.Proofs.YtkjlchfmplcobaeGreatDoor

/- What the laws of chapter 2 that go without the document's answer lean on. -/
namespace Go.Proofs.YtkjlchfmplcobaeGreatDoor
open Go.RowKit

theorem bytes_mem {L : List (List Int)} (h : ∀ x ∈ L, Bytes x) (j : Nat) : Bytes (L.getD j []) := by
  rw [List.getD_eq_getElem?_getD]
  by_cases hj : j < L.length
  · rw [List.getElem?_eq_getElem hj]; exact h _ (List.getElem_mem hj)
  · rw [List.getElem?_eq_none (by omega)]; exact nil_bytes
theorem own_nil {w : World} {base : Nat} {e : TypeId} {a : Option Addr} {n c m : Nat} {xs : List Value} (h : w.ownsRow base e 1 (.slice a n c) m xs) (ha : a = none) : n = 0 ∧ c = 0 := by
  subst ha
  rcases h.2 with ⟨h1, -⟩ | ⟨g, cap, cur, h1, -⟩
  · simp at h1; exact h1
  · simp at h1
/-- What a face answers is what a face is given. -/
theorem OwnParts.lists {w : World} {base : Nat} {xa : Option Addr} {xn xc : Nat} {L : List (List Int)} (h : OwnParts w base (.slice xa xn xc) L) (hb : ∀ x ∈ L, Bytes x) (hs : ∀ j, (L.getD j []).length ≤ maxLen) : Lists w xa xn xc L := by
  have hp := h.parts
  obtain ⟨a, c, e, h1, h2⟩ := h.form
  cases e
  obtain ⟨vs, hr, -⟩ := h
  exact ⟨rfl, hp, h1, h2, own_nil hr, bytes_mem hb, hs⟩
theorem own_len {w : World} {base : Nat} {e : TypeId} {a : Option Addr} {n c m : Nat} {xs : List Value} (h : w.ownsRow base e 1 (.slice a n c) m xs) : n = m := by
  obtain ⟨a', c', e'⟩ := own_form' h
  cases e'
  rfl
theorem Lists.take {w : World} {a : Option Addr} {n c k : Nat} {L : List (List Int)} (h : Lists w a n c L) (hk : k ≤ n) (h0 : 0 < n) : Lists w a k c (L.take k) :=
  ⟨by rw [List.length_take]; have := h.len; omega, h.at'.take h.len hk h0 _, by have := h.room; omega, h.cap, fun ha => by have := h.nil ha; omega, take_bytes h.bytes k, take_short h.short k⟩
theorem Lists.get {w : World} {a : Option Addr} {n c : Nat} {L : List (List Int)} (h : Lists w a n c L) (j : Nat) (hj : j < n) : ∃ b off pa pc, a = some ⟨b, off, none⟩ ∧ w.cell? ⟨b, off + j, none⟩ = some (.slice pa (L.getD j []).length pc) ∧ Some' w (.slice pa (L.getD j []).length pc) (L.getD j []) := by
  obtain ⟨a0, c0, e0, hcell⟩ := h.at'.form
  rw [h.len] at e0 hcell
  cases e0
  obtain ⟨b, off, rfl, -, hc⟩ := hcell.resolve_left (by omega)
  obtain ⟨pa, pc, h1, h2⟩ := hc j hj
  exact ⟨b, off, pa, pc, rfl, h1, h2, h.bytes j, h.short j⟩

/-- WHAT STANDS THERE IS SHOWN. -/
theorem stands_path {L : List (List Int)} {i : Nat} (h2 : L.length ≤ 100) (hi : i < L.length) (h200 : (L.getD i []).length ≤ 200) : standsL L.length (mth L) (L.getD i []) i (pathL L i) = true := by
  have hg : goodL (pathL L i) = true := goodL_digs.2 (path_digs L i)
  unfold standsL
  rw [if_neg (by intro h; rcases h with h | h | h | h | h | h <;> first | omega | (rw [hg] at h; cases h)), Int.toNat_natCast, Int.toNat_natCast, up_path L i hi]
  simp
theorem wrong_zero {L : List (List Int)} (h1 : L.length ≤ 100) (h2 : ∀ j, (L.getD j []).length ≤ 200) : wrongL L = (0, 0) := by
  unfold wrongL; rw [if_neg (by omega)]; exact wrong_none 0 (fun j _ => h2 j)

/-- The three leaves. -/
def three : List (List Int) := [[1], [2], [3]]
end Go.Proofs.YtkjlchfmplcobaeGreatDoor

/- Chapter 6's mathematics: records, their bytes, and the book's leaves. -/
namespace Go.Proofs.YtkjlchfmplcobaeGreatDoor

structure Rec where
  shard : Int
  from' : Int
  to' : Int
  size : Int
  root : List Int
def rec0 : Rec := ⟨0, 0, 0, 0, []⟩
/-- What is wrong with a record. -/
def wrongRec (r : Rec) : Int :=
  if r.shard < 0 ∨ 7 < r.shard ∨ r.from' < 0 ∨ r.to' ≤ r.from' ∨ 1000000 < r.to' ∨ r.size < 0 ∨ 100 < r.size then 3 else
  if r.root.length ≠ 32 then 2 else 0
def threeB (n : Int) : List Int := [n / 65536, n / 256 % 256, n % 256]
/-- A record's bytes. -/
def rowL (r : Rec) : List Int := r.shard :: (threeB r.from' ++ (threeB r.to' ++ (r.size :: r.root)))
theorem wrongRec_ok {r : Rec} (h : wrongRec r = 0) : 0 ≤ r.shard ∧ r.shard ≤ 7 ∧ 0 ≤ r.from' ∧ r.from' < r.to' ∧ r.to' ≤ 1000000 ∧ 0 ≤ r.size ∧ r.size ≤ 100 ∧ r.root.length = 32 := by
  unfold wrongRec at h
  split at h
  · cases h
  · split at h
    · cases h
    · rename_i h1 h2
      exact ⟨by omega, by omega, by omega, by omega, by omega, by omega, by omega, by omega⟩
theorem row_length {r : Rec} (h : wrongRec r = 0) : (rowL r).length = 40 := by
  have := wrongRec_ok h
  unfold rowL threeB
  simp
  omega
/-- The first record with which something is wrong. -/
def wrongRecs (l : List Rec) : Int × Int :=
  if 8 < l.length then (5, 0) else
  match (List.range l.length).find? (fun i => decide (wrongRec (l.getD i rec0) ≠ 0)) with
  | some i => (wrongRec (l.getD i rec0), (i : Int))
  | none => (0, 0)
def rowsOf (l : List Rec) : List (List Int) := l.map rowL
theorem wrongRecs_many {l : List Rec} (h : 8 < l.length) : wrongRecs l = (5, 0) := by unfold wrongRecs; rw [if_pos h]
theorem wrongRecs_none {l : List Rec} (h8 : l.length ≤ 8) (hb : ∀ j, j < l.length → wrongRec (l.getD j rec0) = 0) : wrongRecs l = (0, 0) := by
  unfold wrongRecs
  rw [if_neg (by omega), List.find?_eq_none.2 (fun x hx => by rw [hb x (List.mem_range.1 hx)]; decide)]
theorem wrongRecs_ok {l : List Rec} (h : (wrongRecs l).1 = 0) : l.length ≤ 8 ∧ ∀ j, j < l.length → wrongRec (l.getD j rec0) = 0 := by
  by_cases h8 : 8 < l.length
  · rw [wrongRecs_many h8] at h; exact absurd h (by decide)
  refine ⟨by omega, fun j hj => ?_⟩
  unfold wrongRecs at h
  rw [if_neg h8] at h
  cases hf : (List.range l.length).find? (fun i => decide (wrongRec (l.getD i rec0) ≠ 0)) with
  | none =>
    have := List.find?_eq_none.1 hf j (List.mem_range.2 hj)
    simpa using this
  | some i =>
    rw [hf] at h
    have := List.find?_some hf
    exact absurd h (by simpa using this)
theorem rows_length (l : List Rec) : (rowsOf l).length = l.length := by unfold rowsOf; simp
theorem rows_get {l : List Rec} {j : Nat} (hj : j < l.length) : (rowsOf l).getD j [] = rowL (l.getD j rec0) := by
  unfold rowsOf
  rw [List.getD_eq_getElem?_getD, List.getElem?_map, List.getElem?_eq_getElem hj, List.getD_eq_getElem?_getD, List.getElem?_eq_getElem hj]
  rfl
theorem rows_short {l : List Rec} (h : (wrongRecs l).1 = 0) : ∀ j, ((rowsOf l).getD j []).length ≤ 200 := fun j => by
  by_cases hj : j < l.length
  · rw [rows_get hj, row_length ((wrongRecs_ok h).2 j hj)]; omega
  · rw [List.getD_eq_getElem?_getD, List.getElem?_eq_none (by rw [rows_length]; omega)]; simp
end Go.Proofs.YtkjlchfmplcobaeGreatDoor

/- Chapter 5's mathematics: manifests, what is laid away, and what is read of it. -/
namespace Go.Proofs.YtkjlchfmplcobaeGreatDoor

structure Seg where
  first : Int
  count : Int
  packed : List Int
structure Man where
  size : Int
  root : List Int
  segs : List Seg
def seg0 : Seg := ⟨0, 0, []⟩
def man0 : Man := ⟨0, [], []⟩
/-- Segment k of entries. -/
def segK (L : List (List Int)) (k : Nat) : Seg := ⟨((8 * k : Nat) : Int), ((min 8 (L.length - 8 * k) : Nat) : Int), packL (layL ((L.drop (8 * k)).take 8))⟩
def segsN (L : List (List Int)) (n : Nat) : List Seg := (List.range n).map (segK L)
def segsL (L : List (List Int)) : List Seg := segsN L ((L.length + 7) / 8)
theorem segsN_snoc (L : List (List Int)) (n : Nat) : segsN L (n + 1) = segsN L n ++ [segK L n] := by unfold segsN; rw [List.range_succ, List.map_append]; rfl
theorem segsN_length (L : List (List Int)) (n : Nat) : (segsN L n).length = n := by unfold segsN; simp
theorem segsN_get (L : List (List Int)) (n k : Nat) (h : k < n) : (segsN L n).getD k seg0 = segK L k := by
  unfold segsN; rw [List.getD_eq_getElem?_getD, List.getElem?_map, List.getElem?_range h]; rfl
/-- What Export tells. -/
def exportL (L : List (List Int)) : Man := if (wrongL L).1 ≠ 0 then man0 else ⟨L.length, mth L, segsL L⟩
/-- The segment stands where segment k must. -/
def fitB (size k : Int) (s : Seg) : Bool := decide (0 ≤ size ∧ size ≤ 100 ∧ k ≤ 100 ∧ s.first = k * 8 ∧ 1 ≤ s.count ∧ s.count = min 8 (size - s.first))
theorem fitB_iff {size k : Int} {s : Seg} : fitB size k s = true ↔ 0 ≤ size ∧ size ≤ 100 ∧ k ≤ 100 ∧ s.first = k * 8 ∧ 1 ≤ s.count ∧ s.count = min 8 (size - s.first) := by unfold fitB; simp
/-- What a segment's bytes tell. -/
def readSeg (s : Seg) : List (List Int) × Int :=
  if (unpackL s.packed).2 ≠ 0 then ([], (unpackL s.packed).2) else
  match takeL s.count.toNat (unpackL s.packed).1 with
  | none => ([], 2)
  | some l => (l, 0)
/-- What Segment tells. -/
def segmentL (m : Man) (k : Int) : List (List Int) × Int :=
  if k < 0 ∨ (m.segs.length : Int) ≤ k then ([], 6) else
  if fitB m.size k (m.segs.getD k.toNat seg0) = false then ([], 7) else readSeg (m.segs.getD k.toNat seg0)
/-- The entries of the segments ahead of k. -/
def upTo (m : Man) (k : Nat) : List (List Int) := (List.range k).flatMap (fun (j : Nat) => (segmentL m (j : Int)).1)
theorem upTo_zero (m : Man) : upTo m 0 = [] := rfl
theorem upTo_succ (m : Man) (k : Nat) : upTo m (k + 1) = upTo m k ++ (segmentL m (k : Int)).1 := by unfold upTo; rw [List.range_succ, List.flatMap_append]; simp
def manyB (m : Man) : Bool := decide (0 ≤ m.size ∧ m.size ≤ 100 ∧ (m.segs.length : Int) = (m.size + 7) / 8)
/-- The first segment that is not as it must be. -/
def badK (m : Man) : Option Nat := (List.range m.segs.length).find? (fun (k : Nat) => decide ((segmentL m (k : Int)).2 ≠ 0))
/-- What Verify tells. -/
def verifyL (m : Man) : List (List Int) × Int × Int :=
  if manyB m = false then ([], 5, 0) else
  match badK m with
  | some k => ([], (segmentL m (k : Int)).2, (k : Int))
  | none => if mth (upTo m m.segs.length) ≠ m.root then ([], 9, 0) else (upTo m m.segs.length, 0, 0)
theorem find_range {p : Nat → Bool} {n k : Nat} (hk : k < n) (h : p k = true) (hb : ∀ j, j < k → p j = false) : (List.range n).find? p = some k := by
  induction n with
  | zero => omega
  | succ n ih =>
    rw [List.range_succ, List.find?_append]
    by_cases hkn : k < n
    · rw [ih hkn]; rfl
    · obtain rfl : k = n := by omega
      rw [List.find?_eq_none.2 (fun x hx => by have := hb x (List.mem_range.1 hx); simp [this])]
      simp [h]
theorem find_none {p : Nat → Bool} {n : Nat} (hb : ∀ j, j < n → p j = false) : (List.range n).find? p = none :=
  List.find?_eq_none.2 (fun x hx => by have := hb x (List.mem_range.1 hx); simp [this])
theorem verify_many {m : Man} (h : manyB m = false) : verifyL m = ([], 5, 0) := by rw [verifyL, if_pos h]
theorem verify_bad {m : Man} {k : Nat} (h : manyB m = true) (hk : k < m.segs.length) (hb : ∀ j : Nat, j < k → (segmentL m (j : Int)).2 = 0) (he : (segmentL m (k : Int)).2 ≠ 0) : verifyL m = ([], (segmentL m (k : Int)).2, (k : Int)) := by
  have : badK m = some k := find_range hk (decide_eq_true he) (fun j hj => decide_eq_false (fun h => h (hb j hj)))
  rw [verifyL, if_neg (by rw [h]; decide), this]
theorem verify_good {m : Man} (h : manyB m = true) (hb : ∀ j : Nat, j < m.segs.length → (segmentL m (j : Int)).2 = 0) : verifyL m = if mth (upTo m m.segs.length) ≠ m.root then ([], 9, 0) else (upTo m m.segs.length, 0, 0) := by
  have : badK m = none := find_none (fun j hj => decide_eq_false (fun h => h (hb j hj)))
  rw [verifyL, if_neg (by rw [h]; decide), this]
/-- What is verified. -/
theorem verify_spec {m : Man} (h : (verifyL m).2.1 = 0) : verifyL m = (upTo m m.segs.length, 0, 0) ∧ manyB m = true ∧ (∀ j : Nat, j < m.segs.length → (segmentL m (j : Int)).2 = 0) ∧ mth (upTo m m.segs.length) = m.root := by
  by_cases hm : manyB m = true
  · rcases hK : badK m with _ | k
    · have hb : ∀ j : Nat, j < m.segs.length → (segmentL m (j : Int)).2 = 0 := fun j hj => by
        have := List.find?_eq_none.1 hK j (List.mem_range.2 hj)
        simpa using this
      have e := verify_good hm hb
      by_cases hr : mth (upTo m m.segs.length) ≠ m.root
      · rw [e, if_pos hr] at h; exact absurd h (by decide)
      · rw [e, if_neg hr]
        exact ⟨rfl, hm, hb, by simpa using hr⟩
    · have h1 := List.find?_some hK
      rw [verifyL, if_neg (by rw [hm]; decide), hK] at h
      exact absurd h (by simpa using h1)
  · rw [verify_many (by simpa using hm)] at h; exact absurd h (by decide)
theorem verify_err {m : Man} (h : (verifyL m).2.1 ≠ 0) : (verifyL m).1 = [] := by
  unfold verifyL at h ⊢
  by_cases hm : manyB m = false
  · rw [if_pos hm]
  · rw [if_neg hm] at h ⊢
    cases hb : badK m with
    | some k => rfl
    | none =>
      rw [hb] at h
      dsimp only at h ⊢
      by_cases hr : mth (upTo m m.segs.length) ≠ m.root
      · rw [if_pos hr]
      · rw [if_neg hr] at h; exact absurd rfl h
/-- A segment that is read. -/
theorem segment_ok {m : Man} {k : Int} (h : (segmentL m k).2 = 0) : 0 ≤ k ∧ k < m.segs.length ∧ fitB m.size k (m.segs.getD k.toNat seg0) = true ∧ (unpackL (m.segs.getD k.toNat seg0).packed).2 = 0 ∧ takeL (m.segs.getD k.toNat seg0).count.toNat (unpackL (m.segs.getD k.toNat seg0).packed).1 = some (segmentL m k).1 := by
  unfold segmentL at h ⊢
  by_cases h1 : k < 0 ∨ (m.segs.length : Int) ≤ k
  · rw [if_pos h1] at h; exact absurd h (by decide)
  rw [if_neg h1] at h ⊢
  by_cases h2 : fitB m.size k (m.segs.getD k.toNat seg0) = false
  · rw [if_pos h2] at h; exact absurd h (by decide)
  rw [if_neg h2] at h ⊢
  unfold readSeg at h ⊢
  by_cases h3 : (unpackL (m.segs.getD k.toNat seg0).packed).2 ≠ 0
  · rw [if_pos h3] at h; exact absurd h h3
  rw [if_neg h3] at h ⊢
  refine ⟨by omega, by omega, by simpa using h2, by simpa using h3, ?_⟩
  cases h4 : takeL (m.segs.getD k.toNat seg0).count.toNat (unpackL (m.segs.getD k.toNat seg0).packed).1 with
  | none => rw [h4] at h; exact absurd h (by decide)
  | some l => rfl
theorem segment_err {m : Man} {k : Int} (h : (segmentL m k).2 ≠ 0) : (segmentL m k).1 = [] := by
  unfold segmentL at h ⊢
  split
  · rfl
  · rename_i h1
    rw [if_neg h1] at h
    split
    · rfl
    · rename_i h2
      rw [if_neg h2] at h
      unfold readSeg at h ⊢
      split
      · rfl
      · rename_i h3
        rw [if_neg h3] at h
        split
        · rfl
        · rename_i l h4
          rw [h4] at h
          exact absurd rfl h
theorem segment_len {m : Man} {k : Int} (h : (segmentL m k).2 = 0) : ((segmentL m k).1.length : Int) = (m.segs.getD k.toNat seg0).count ∧ ∀ e ∈ (segmentL m k).1, e.length ≤ 200 := by
  obtain ⟨-, -, h3, -, h5⟩ := segment_ok h
  obtain ⟨h6, h7⟩ := takeL_len _ _ _ h5
  have := fitB_iff.1 h3
  exact ⟨by omega, h7⟩
theorem segment_mem (m : Man) (k : Int) : ∀ e ∈ (segmentL m k).1, ∀ x ∈ e, x ∈ (m.segs.getD k.toNat seg0).packed ∨ x = 0 := by
  by_cases h : (segmentL m k).2 = 0
  · obtain ⟨-, -, -, -, h5⟩ := segment_ok h
    intro e he x hx
    exact unpack_mem _ x (takeL_mem _ _ _ h5 e he x hx)
  · rw [segment_err h]; simp
theorem segment_few (m : Man) (k : Int) : (segmentL m k).1.length ≤ 8 ∧ ∀ e ∈ (segmentL m k).1, e.length ≤ 200 := by
  by_cases h : (segmentL m k).2 = 0
  · obtain ⟨h1, h2⟩ := segment_len h
    obtain ⟨-, -, h3, -, -⟩ := segment_ok h
    have := fitB_iff.1 h3
    exact ⟨by omega, h2⟩
  · rw [segment_err h]; simp
/-- How many entries came. -/
theorem upTo_length {m : Man} (hm : manyB m = true) : ∀ k : Nat, k ≤ m.segs.length → (∀ j : Nat, j < k → (segmentL m (j : Int)).2 = 0) → ((upTo m k).length : Int) = min (8 * (k : Int)) m.size
  | 0, _, _ => by unfold manyB at hm; simp at hm; rw [upTo_zero]; simp; omega
  | k + 1, hk, hb => by
    have h1 := upTo_length hm k (by omega) (fun j hj => hb j (by omega))
    obtain ⟨h2, -⟩ := segment_len (hb k (by omega))
    obtain ⟨-, -, h3, -, -⟩ := segment_ok (hb k (by omega))
    have h4 := fitB_iff.1 h3
    unfold manyB at hm
    simp at hm
    rw [upTo_succ, List.length_append]
    omega
theorem upTo_all {m : Man} (h : (verifyL m).2.1 = 0) : ((upTo m m.segs.length).length : Int) = m.size ∧ ∀ k : Nat, k < m.segs.length → (m.segs.getD k seg0).first = (upTo m k).length := by
  obtain ⟨-, hm, hb, -⟩ := verify_spec h
  have hm' := hm
  unfold manyB at hm'
  simp at hm'
  refine ⟨by rw [upTo_length hm _ (Nat.le_refl _) hb]; omega, fun k hk => ?_⟩
  obtain ⟨-, -, h3, -, -⟩ := segment_ok (hb k hk)
  have h4 := fitB_iff.1 h3
  rw [upTo_length hm k (by omega) (fun j hj => hb j (by omega))]
  rw [Int.toNat_natCast] at h4
  omega
theorem upTo_few (m : Man) : ∀ k : Nat, (upTo m k).length ≤ 8 * k ∧ ∀ e ∈ upTo m k, e.length ≤ 200
  | 0 => by rw [upTo_zero]; simp
  | k + 1 => by
    obtain ⟨h1, h2⟩ := upTo_few m k
    obtain ⟨h3, h4⟩ := segment_few m k
    rw [upTo_succ]
    refine ⟨by rw [List.length_append]; omega, fun e he => ?_⟩
    rcases List.mem_append.1 he with he | he
    · exact h2 e he
    · exact h4 e he
theorem verify_few {m : Man} : (verifyL m).1.length ≤ 100 ∧ ∀ e ∈ (verifyL m).1, e.length ≤ 200 := by
  by_cases h : (verifyL m).2.1 = 0
  · obtain ⟨h1, h2, -⟩ := verify_spec h
    have h3 := (upTo_all h).1
    unfold manyB at h2
    simp at h2
    rw [h1]
    exact ⟨by show (upTo m m.segs.length).length ≤ 100; omega, (upTo_few m _).2⟩
  · rw [verify_err h]; simp
/-- What is laid away is there. -/
theorem short_part {L : List (List Int)} (h : ∀ e ∈ L, e.length ≤ 200) (k : Nat) : ∀ e ∈ (L.drop (8 * k)).take 8, e.length ≤ 200 := fun e he => h e (List.mem_of_mem_drop (List.mem_of_mem_take he))
theorem lay_part {L : List (List Int)} (h : ∀ e ∈ L, e.length ≤ 200) (k : Nat) : (layL ((L.drop (8 * k)).take 8)).length ≤ 4000 := by
  have h1 := layL_length _ (short_part h k)
  have h2 : ((L.drop (8 * k)).take 8).length ≤ 8 := by rw [List.length_take]; omega
  omega
theorem readSeg_k {L : List (List Int)} (h : ∀ e ∈ L, e.length ≤ 200) (k : Nat) : readSeg (segK L k) = ((L.drop (8 * k)).take 8, 0) := by
  have hu := unpack_pack (lay_part h k)
  have hl : ((L.drop (8 * k)).take 8).length = min 8 (L.length - 8 * k) := by rw [List.length_take, List.length_drop]
  unfold readSeg segK
  dsimp only
  rw [hu, if_neg (by simp)]
  dsimp only
  rw [Int.toNat_natCast, ← hl, takeL_lay _ (short_part h k)]
theorem segment_export {L : List (List Int)} (h1 : L.length ≤ 100) (h : ∀ e ∈ L, e.length ≤ 200) {k : Nat} (hk : k < (L.length + 7) / 8) : segmentL ⟨L.length, mth L, segsL L⟩ (k : Int) = ((L.drop (8 * k)).take 8, 0) := by
  unfold segmentL segsL
  dsimp only
  rw [segsN_length, if_neg (by omega), Int.toNat_natCast, segsN_get _ _ _ hk, if_neg, readSeg_k h k]
  rw [Bool.not_eq_false, fitB_iff]
  unfold segK
  dsimp only
  omega
theorem upTo_export {L : List (List Int)} (h1 : L.length ≤ 100) (h : ∀ e ∈ L, e.length ≤ 200) : ∀ k : Nat, k ≤ (L.length + 7) / 8 → upTo ⟨L.length, mth L, segsL L⟩ k = L.take (8 * k)
  | 0, _ => by rw [upTo_zero]; simp
  | k + 1, hk => by rw [upTo_succ, upTo_export h1 h k (by omega), segment_export h1 h (by omega), Nat.mul_add, List.take_add]
theorem verify_export {L : List (List Int)} (h1 : L.length ≤ 100) (h : ∀ e ∈ L, e.length ≤ 200) : verifyL ⟨L.length, mth L, segsL L⟩ = (L, 0, 0) := by
  have hlen : (segsL L).length = (L.length + 7) / 8 := segsN_length _ _
  have hu := upTo_export h1 h ((L.length + 7) / 8) (Nat.le_refl _)
  rw [List.take_of_length_le (by omega)] at hu
  rw [verify_good]
  · dsimp only
    rw [hlen, hu, if_neg (by simp)]
  · unfold manyB
    dsimp only
    rw [hlen]
    exact decide_eq_true (by omega)
  · intro j hj
    dsimp only at hj
    rw [hlen] at hj
    rw [segment_export h1 h hj]
end Go.Proofs.YtkjlchfmplcobaeGreatDoor

/- Chapter 7's mathematics: fleets, what is done with them, and what comes of it. -/
namespace Go.Proofs.YtkjlchfmplcobaeGreatDoor

structure Shd where
  from' : Int
  to' : Int
  state : Int
  entries : List (List Int)
  man : Man
structure Flt where
  shards : List Shd
  book : List Rec
structure Dd where
  kind : Int
  n : Int
  time : Int
  entry : List Int
  segment : Int
  at' : Int
  by' : Int
structure Ans where
  err : Int
  shard : Int
  place : Int
  size : Int
  root : List Int
structure Win where
  a : Int
  b : Int
def shd0 : Shd := ⟨0, 0, 0, [], man0⟩
def flt0 : Flt := ⟨[], []⟩
def dd0 : Dd := ⟨0, 0, 0, [], 0, 0, 0⟩
def win0 : Win := ⟨0, 0⟩
def no (e : Int) : Ans := ⟨e, 0, 0, 0, []⟩
def ans0 : Ans := no 0
/-- What is wrong with a window, by itself and behind another. -/
def wrongWin (l : List Win) (i : Nat) : Int :=
  if (l.getD i win0).a < 0 ∨ (l.getD i win0).b ≤ (l.getD i win0).a ∨ 1000000 < (l.getD i win0).b then 3 else
  if 0 < i ∧ (l.getD i win0).a < (l.getD (i - 1) win0).b then 7 else 0
def wrongWins (l : List Win) : Int × Int :=
  if 8 < l.length then (5, 0) else
  match (List.range l.length).find? (fun i => decide (wrongWin l i ≠ 0)) with
  | some i => (wrongWin l i, (i : Int))
  | none => (0, 0)
/-- The shard in whose window a time is. -/
def homeOf (ss : List Shd) (t : Int) : Option Nat := (List.range ss.length).find? (fun k => decide ((ss.getD k shd0).from' ≤ t ∧ t < (ss.getD k shd0).to'))
/-- Where an entry stands. -/
def placeOf (es : List (List Int)) (e : List Int) : Option Nat := (List.range es.length).find? (fun i => decide (es.getD i [] = e))
def Flt.put (f : Flt) (k : Nat) (s : Shd) : Flt := ⟨f.shards.set k s, f.book⟩
/-- An entry comes. -/
def submitL (f : Flt) (d : Dd) : Flt × Ans :=
  if 200 < d.entry.length then (f, no 4) else
  match homeOf f.shards d.time with
  | none => (f, no 6)
  | some k =>
    if (f.shards.getD k shd0).state ≠ 1 then (f, no 8) else
    match placeOf (f.shards.getD k shd0).entries d.entry with
    | some i => (f, ⟨0, (k : Int), (i : Int), 0, []⟩)
    | none =>
      if 100 ≤ (f.shards.getD k shd0).entries.length then (f, no 5) else
      (f.put k { (f.shards.getD k shd0) with entries := (f.shards.getD k shd0).entries ++ [d.entry] }, ⟨0, (k : Int), ((f.shards.getD k shd0).entries.length : Int), 0, []⟩)
/-- The state that a kind wants. -/
def wantL (kind : Int) : Int := if kind = 2 then 1 else if kind = 3 then 2 else 3
def xorI (x y : Int) : Int := ((Nat.xor x.toNat y.toNat : Nat) : Int)
def spoilSeg (s : Seg) (at' by' : Int) : Seg := { s with packed := s.packed.set at'.toNat (xorI (s.packed.getD at'.toNat 0) by') }
/-- A step on the shard k, whose state is the one that it wants. -/
def stepAt (f : Flt) (k : Nat) (d : Dd) : Flt × Ans :=
  let s := f.shards.getD k shd0
  if d.kind = 2 then (⟨f.shards.set k { s with state := 2 }, f.book ++ [⟨(k : Int), s.from', s.to', (s.entries.length : Int), mth s.entries⟩]⟩, ⟨0, (k : Int), 0, (s.entries.length : Int), mth s.entries⟩) else
  if d.kind = 3 then
    if (wrongL s.entries).1 ≠ 0 then (f, no (wrongL s.entries).1) else
    (f.put k { s with state := 3, man := exportL s.entries }, ⟨0, (k : Int), 0, (exportL s.entries).size, (exportL s.entries).root⟩) else
  if d.kind = 4 then
    if (verifyL s.man).2.1 ≠ 0 then (f, no (verifyL s.man).2.1) else
    (f.put k { s with state := 4, entries := [] }, ⟨0, (k : Int), 0, s.man.size, s.man.root⟩) else
  if d.segment < 0 ∨ (s.man.segs.length : Int) ≤ d.segment then (f, no 6) else
  if d.at' < 0 ∨ ((s.man.segs.getD d.segment.toNat seg0).packed.length : Int) ≤ d.at' then (f, no 3) else
  (f.put k { s with man := { s.man with segs := s.man.segs.set d.segment.toNat (spoilSeg (s.man.segs.getD d.segment.toNat seg0) d.at' d.by') } }, ⟨0, (k : Int), 0, 0, []⟩)
/-- One thing is done. -/
def stepL (f : Flt) (d : Dd) : Flt × Ans :=
  if d.kind = 1 then submitL f d else
  if d.kind < 2 ∨ 5 < d.kind then (f, no 1) else
  if d.n < 0 ∨ (f.shards.length : Int) ≤ d.n then (f, no 6) else
  if (f.shards.getD d.n.toNat shd0).state ≠ wantL d.kind then (f, no 7) else
  stepAt f d.n.toNat d
/-- One thing after the other. -/
def runL : Flt → List Dd → Flt × List Ans
  | f, [] => (f, [])
  | f, d :: ds => ((runL (stepL f d).1 ds).1, (stepL f d).2 :: (runL (stepL f d).1 ds).2)
def startL (ws : List Win) : Flt := ⟨ws.map (fun w => ⟨w.a, w.b, 1, [], man0⟩), []⟩
def playF (ws : List Win) (l : List Dd) : Int × Int := if (wrongWins ws).1 ≠ 0 then wrongWins ws else if 120 < l.length then (5, 0) else (0, 0)
def playL (ws : List Win) (l : List Dd) : Flt × List Ans := if (playF ws l).1 ≠ 0 then (flt0, []) else runL (startL ws) l
theorem runL_append (f : Flt) (l1 l2 : List Dd) : runL f (l1 ++ l2) = ((runL (runL f l1).1 l2).1, (runL f l1).2 ++ (runL (runL f l1).1 l2).2) := by
  induction l1 generalizing f with
  | nil => rfl
  | cons d ds ih => simp only [List.cons_append, runL, ih]
theorem runL_snoc (f : Flt) (l : List Dd) (d : Dd) : runL f (l ++ [d]) = ((stepL (runL f l).1 d).1, (runL f l).2 ++ [(stepL (runL f l).1 d).2]) := by rw [runL_append]; rfl
theorem runL_length (f : Flt) (l : List Dd) : (runL f l).2.length = l.length := by
  induction l generalizing f with
  | nil => rfl
  | cons d ds ih => simp only [runL, List.length_cons, ih]

end Go.Proofs.YtkjlchfmplcobaeGreatDoor

/- What holds of every fleet that is come to. -/
namespace Go.Proofs.YtkjlchfmplcobaeGreatDoor

theorem getD_set_same {α : Type} {l : List α} {k : Nat} {x d : α} (h : k < l.length) : (l.set k x).getD k d = x := by
  rw [List.getD_eq_getElem?_getD, List.getElem?_set_self h]; rfl
theorem getD_set_other {α : Type} {l : List α} {k j : Nat} {x d : α} (h : k ≠ j) : (l.set k x).getD j d = l.getD j d := by
  rw [List.getD_eq_getElem?_getD, List.getElem?_set_ne h, ← List.getD_eq_getElem?_getD]
theorem find_range_some {p : Nat → Bool} {n k : Nat} (h : (List.range n).find? p = some k) : k < n ∧ p k = true ∧ ∀ j, j < k → p j = false := by
  have h1 := List.find?_some h
  have h2 := List.mem_range.1 (List.mem_of_find?_eq_some h)
  refine ⟨h2, h1, fun j hj => ?_⟩
  cases hp : p j with
  | false => rfl
  | true =>
    exfalso
    have hex : ∃ i, i ≤ j ∧ p i = true ∧ ∀ q, q < i → p q = false := by
      clear h h1 h2 hj
      induction j using Nat.strongRecOn with
      | ind j ih =>
        by_cases hq : ∃ q, q < j ∧ p q = true
        · obtain ⟨q, hq1, hq2⟩ := hq
          obtain ⟨i, h1, h2, h3⟩ := ih q hq1 hq2
          exact ⟨i, by omega, h2, h3⟩
        · refine ⟨j, Nat.le_refl _, hp, fun q hlt => ?_⟩
          cases hpq : p q with
          | false => rfl
          | true => exact absurd ⟨q, hlt, hpq⟩ hq
    obtain ⟨i, h1', h2', h3'⟩ := hex
    have := find_range (n := n) (p := p) (k := i) (by omega) h2' h3'
    rw [h] at this
    cases this
    omega
theorem find_range_none {p : Nat → Bool} {n : Nat} (h : (List.range n).find? p = none) : ∀ j, j < n → p j = false := fun j hj => by
  have := List.find?_eq_none.1 h j (List.mem_range.2 hj)
  simpa using this
theorem home_some {ss : List Shd} {t : Int} {k : Nat} (h : homeOf ss t = some k) : k < ss.length ∧ (ss.getD k shd0).from' ≤ t ∧ t < (ss.getD k shd0).to' := by
  obtain ⟨h1, h2, -⟩ := find_range_some h
  have := of_decide_eq_true h2
  exact ⟨h1, this.1, this.2⟩
theorem place_some {es : List (List Int)} {e : List Int} {i : Nat} (h : placeOf es e = some i) : i < es.length ∧ es.getD i [] = e := by
  obtain ⟨h1, h2, -⟩ := find_range_some h
  exact ⟨h1, of_decide_eq_true h2⟩
theorem place_none {es : List (List Int)} {e : List Int} (h : placeOf es e = none) : e ∉ es := fun hm => by
  obtain ⟨j, hj, rfl⟩ := List.mem_iff_getElem.1 hm
  have := find_range_none h j hj
  have := of_decide_eq_false this
  rw [List.getD_eq_getElem?_getD, List.getElem?_eq_getElem hj] at this
  exact this rfl
structure ShdOk (w : Win) (s : Shd) : Prop where
  from_eq : s.from' = w.a
  to_eq : s.to' = w.b
  st : s.state = 1 ∨ s.state = 2 ∨ s.state = 3 ∨ s.state = 4
  few : s.entries.length ≤ 100
  short : ∀ e ∈ s.entries, e.length ≤ 200
  distinct : s.entries.Nodup
  gone : s.state = 4 → s.entries = []
  head3 : s.state = 3 → s.man.size = (s.entries.length : Int) ∧ s.man.root = mth s.entries
  ver4 : s.state = 4 → (verifyL s.man).2.1 = 0
/-- A shard's head. -/
def headOf (s : Shd) : Int × List Int := if s.state = 4 then (s.man.size, s.man.root) else ((s.entries.length : Int), mth s.entries)
def recOf (k : Nat) (s : Shd) : Rec := ⟨(k : Int), s.from', s.to', (headOf s).1, (headOf s).2⟩
structure FltOk (ws : List Win) (f : Flt) : Prop where
  len : f.shards.length = ws.length
  each : ∀ k, k < ws.length → ShdOk (ws.getD k win0) (f.shards.getD k shd0)
  inb : ∀ j, j < f.book.length → ∃ k, k < ws.length ∧ (f.shards.getD k shd0).state ≠ 1 ∧ f.book.getD j rec0 = recOf k (f.shards.getD k shd0)
  once : ∀ i j, i < f.book.length → j < f.book.length → (f.book.getD i rec0).shard = (f.book.getD j rec0).shard → i = j
  all : ∀ k, k < ws.length → (f.shards.getD k shd0).state ≠ 1 → ∃ j, j < f.book.length ∧ (f.book.getD j rec0).shard = (k : Int)
theorem wins_get (ws : List Win) {k : Nat} (hk : k < ws.length) : (startL ws).shards.getD k shd0 = ⟨(ws.getD k win0).a, (ws.getD k win0).b, 1, [], man0⟩ := by
  unfold startL
  rw [List.getD_eq_getElem?_getD, List.getElem?_map, List.getElem?_eq_getElem hk, List.getD_eq_getElem?_getD, List.getElem?_eq_getElem hk]
  rfl
theorem start_ok (ws : List Win) : FltOk ws (startL ws) := by
  refine ⟨by simp [startL], fun k hk => ?_, fun j hj => absurd hj (Nat.not_lt_zero _), fun i j hi => absurd hi (Nat.not_lt_zero _), fun k hk h => ?_⟩
  · rw [wins_get ws hk]
    exact ⟨rfl, rfl, .inl rfl, Nat.zero_le _, fun e he => absurd he (by simp), List.nodup_nil, (fun h => by cases h), (fun h => by cases h), (fun h => by cases h)⟩
  · rw [wins_get ws hk] at h; exact absurd rfl h
/-- A shard is put in another's place, with the same head where it is in the book. -/
theorem FltOk.put {ws : List Win} {f : Flt} (h : FltOk ws f) {k : Nat} (hk : k < ws.length) {s : Shd} (hs : ShdOk (ws.getD k win0) s) (h1 : (f.shards.getD k shd0).state = 1 → s.state = 1) (h2 : (f.shards.getD k shd0).state ≠ 1 → s.state ≠ 1 ∧ headOf s = headOf (f.shards.getD k shd0)) : FltOk ws (f.put k s) := by
  have hl : k < f.shards.length := by rw [h.len]; exact hk
  have hg : ∀ j, (f.put k s).shards.getD j shd0 = if k = j then s else f.shards.getD j shd0 := fun j => by
    show (f.shards.set k s).getD j shd0 = _
    by_cases e : k = j
    · subst e; rw [if_pos rfl, getD_set_same hl]
    · rw [if_neg e, getD_set_other e]
  refine ⟨by show (f.shards.set k s).length = _; rw [List.length_set]; exact h.len, fun j hj => ?_, fun j hj => ?_, h.once, fun j hj hst => ?_⟩
  · rw [hg]
    by_cases e : k = j
    · subst e; rw [if_pos rfl]; exact hs
    · rw [if_neg e]; exact h.each j hj
  · obtain ⟨q, hq1, hq2, hq3⟩ := h.inb j hj
    refine ⟨q, hq1, ?_, ?_⟩
    · rw [hg]
      by_cases e : k = q
      · subst e; rw [if_pos rfl]; exact (h2 hq2).1
      · rw [if_neg e]; exact hq2
    · rw [hg]
      by_cases e : k = q
      · subst e
        rw [if_pos rfl]
        show f.book.getD j rec0 = _
        rw [hq3]
        unfold recOf
        rw [(h2 hq2).2, (h.each k hq1).from_eq, (h.each k hq1).to_eq, hs.from_eq, hs.to_eq]
      · rw [if_neg e]; exact hq3
  · rw [hg] at hst
    refine h.all j hj ?_
    by_cases e : k = j
    · subst e
      rw [if_pos rfl] at hst
      exact fun g => hst (h1 g)
    · rw [if_neg e] at hst; exact hst
theorem submit_ok {ws : List Win} {f : Flt} (h : FltOk ws f) (d : Dd) : FltOk ws (submitL f d).1 := by
  unfold submitL
  by_cases h200 : 200 < d.entry.length
  · rw [if_pos h200]; exact h
  rw [if_neg h200]
  cases hh : homeOf f.shards d.time with
  | none => exact h
  | some k =>
    obtain ⟨hk, -, -⟩ := home_some hh
    rw [h.len] at hk
    have hs := h.each k hk
    dsimp only
    by_cases h1 : (f.shards.getD k shd0).state ≠ 1
    · rw [if_pos h1]; exact h
    rw [if_neg h1]
    have h1' : (f.shards.getD k shd0).state = 1 := by omega
    cases hp : placeOf (f.shards.getD k shd0).entries d.entry with
    | some i => exact h
    | none =>
      dsimp only
      by_cases h100 : 100 ≤ (f.shards.getD k shd0).entries.length
      · rw [if_pos h100]; exact h
      rw [if_neg h100]
      refine h.put hk ⟨hs.from_eq, hs.to_eq, hs.st, ?_, ?_, ?_, ?_, ?_, ?_⟩ (fun _ => h1') (fun g => absurd h1' g)
      · show ((f.shards.getD k shd0).entries ++ [d.entry]).length ≤ 100
        rw [List.length_append, List.length_singleton]; omega
      · intro e he
        rcases List.mem_append.1 he with g | g
        · exact hs.short e g
        · simp at g; subst g; omega
      · rw [List.nodup_append]
        exact ⟨hs.distinct, by simp, fun a ha b hb => by simp at hb; subst hb; exact fun e => place_none hp (e ▸ ha)⟩
      · intro g; exact absurd (h1'.symm.trans g) (by decide)
      · intro g; exact absurd (h1'.symm.trans g) (by decide)
      · intro g; exact absurd (h1'.symm.trans g) (by decide)
theorem wrong_entries {w : Win} {s : Shd} (h : ShdOk w s) : wrongL s.entries = (0, 0) := wrong_zero h.few (fun j => by
  by_cases hj : j < s.entries.length
  · rw [List.getD_eq_getElem?_getD, List.getElem?_eq_getElem hj]; exact h.short _ (List.getElem_mem hj)
  · rw [List.getD_eq_getElem?_getD, List.getElem?_eq_none (by omega)]; simp)
theorem export_size {w : Win} {s : Shd} (h : ShdOk w s) : (exportL s.entries).size = (s.entries.length : Int) ∧ (exportL s.entries).root = mth s.entries := by
  unfold exportL
  rw [wrong_entries h, if_neg (fun g => g rfl)]
  exact ⟨rfl, rfl⟩
theorem headOf_kept {s s' : Shd} (h1 : s.state ≠ 4) (h2 : s'.state ≠ 4) (he : s'.entries = s.entries) : headOf s' = headOf s := by unfold headOf; rw [if_neg h1, if_neg h2, he]
theorem snoc_get {α : Type} (l : List α) (x d : α) (j : Nat) : (l ++ [x]).getD j d = if j < l.length then l.getD j d else if j = l.length then x else d := by
  by_cases h : j < l.length
  · rw [if_pos h, List.getD_eq_getElem?_getD, List.getElem?_append_left h, ← List.getD_eq_getElem?_getD]
  · rw [if_neg h]
    by_cases e : j = l.length
    · rw [if_pos e, e, List.getD_eq_getElem?_getD, List.getElem?_append_right (Nat.le_refl _)]; simp
    · rw [if_neg e, List.getD_eq_getElem?_getD, List.getElem?_eq_none (by simp; omega)]; rfl
theorem freeze_ok {ws : List Win} {f : Flt} (h : FltOk ws f) {k : Nat} (hk : k < ws.length) (h1 : (f.shards.getD k shd0).state = 1) {s2 : Shd} {x : Rec} (hs2 : ShdOk (ws.getD k win0) s2) (hst2 : s2.state ≠ 1) (hx : x = recOf k s2) :
    FltOk ws ⟨f.shards.set k s2, f.book ++ [x]⟩ := by
  have hl : k < f.shards.length := by rw [h.len]; exact hk
  have hg : ∀ j, (f.shards.set k s2).getD j shd0 = if k = j then s2 else f.shards.getD j shd0 := fun j => by
    by_cases e : k = j
    · subst e; rw [if_pos rfl, getD_set_same hl]
    · rw [if_neg e, getD_set_other e]
  have hsh : ∀ j, j < f.book.length → (f.book.getD j rec0).shard ≠ (k : Int) := fun j hj e => by
    obtain ⟨q, hq1, hq2, hq3⟩ := h.inb j hj
    rw [hq3] at e
    have : q = k := by have e' : (q : Int) = (k : Int) := e; omega
    subst this
    exact hq2 h1
  have hxs : x.shard = (k : Int) := by rw [hx]; rfl
  refine ⟨by show (f.shards.set k _).length = _; rw [List.length_set]; exact h.len, fun j hj => ?_, fun j hj => ?_, fun i j hi hj e => ?_, fun j hj hst => ?_⟩
  · dsimp only
    rw [hg]
    by_cases e : k = j
    · subst e; rw [if_pos rfl]; exact hs2
    · rw [if_neg e]; exact h.each j hj
  · have hj' : j < f.book.length + 1 := by simpa using hj
    dsimp only
    rw [snoc_get]
    by_cases hlt : j < f.book.length
    · rw [if_pos hlt]
      obtain ⟨q, hq1, hq2, hq3⟩ := h.inb j hlt
      have hqk : k ≠ q := fun e => by subst e; exact hq2 h1
      refine ⟨q, hq1, ?_, ?_⟩
      · rw [hg, if_neg hqk]; exact hq2
      · rw [hg, if_neg hqk]; exact hq3
    · rw [if_neg hlt, if_pos (by omega)]
      exact ⟨k, hk, by rw [hg, if_pos rfl]; exact hst2, by rw [hg, if_pos rfl]; exact hx⟩
  · have hi' : i < f.book.length + 1 := by simpa using hi
    have hj' : j < f.book.length + 1 := by simpa using hj
    dsimp only at e
    rw [snoc_get, snoc_get] at e
    by_cases h1' : i < f.book.length
    · by_cases h2' : j < f.book.length
      · rw [if_pos h1', if_pos h2'] at e; exact h.once i j h1' h2' e
      · rw [if_pos h1', if_neg h2', if_pos (by omega), hxs] at e; exact absurd e (hsh i h1')
    · by_cases h2' : j < f.book.length
      · rw [if_neg h1', if_pos (by omega), if_pos h2', hxs] at e; exact absurd e.symm (hsh j h2')
      · omega
  · dsimp only at hst ⊢
    rw [hg] at hst
    by_cases e : k = j
    · subst e
      exact ⟨f.book.length, by simp, by rw [snoc_get, if_neg (Nat.lt_irrefl _), if_pos rfl]; exact hxs⟩
    · rw [if_neg e] at hst
      obtain ⟨q, hq1, hq2⟩ := h.all j hj hst
      exact ⟨q, by simp; omega, by rw [snoc_get, if_pos hq1]; exact hq2⟩
theorem step_ok {ws : List Win} {f : Flt} (h : FltOk ws f) (d : Dd) : FltOk ws (stepL f d).1 := by
  unfold stepL
  by_cases h1 : d.kind = 1
  · rw [if_pos h1]; exact submit_ok h d
  rw [if_neg h1]
  by_cases h2 : d.kind < 2 ∨ 5 < d.kind
  · rw [if_pos h2]; exact h
  rw [if_neg h2]
  by_cases h3 : d.n < 0 ∨ (f.shards.length : Int) ≤ d.n
  · rw [if_pos h3]; exact h
  rw [if_neg h3]
  by_cases h4 : (f.shards.getD d.n.toNat shd0).state ≠ wantL d.kind
  · rw [if_pos h4]; exact h
  rw [if_neg h4]
  have hk : d.n.toNat < ws.length := by rw [← h.len]; omega
  generalize d.n.toNat = k at *
  have hst : (f.shards.getD k shd0).state = wantL d.kind := by simpa using h4
  have hs := h.each k hk
  unfold stepAt
  dsimp only
  by_cases k2 : d.kind = 2
  · rw [if_pos k2]
    have hst1 : (f.shards.getD k shd0).state = 1 := by rw [hst, k2]; rfl
    exact freeze_ok h hk hst1 (s2 := { (f.shards.getD k shd0) with state := 2 }) ⟨hs.from_eq, hs.to_eq, .inr (.inl rfl), hs.few, hs.short, hs.distinct, (fun g => absurd (show (2 : Int) = 4 from g) (by decide)), (fun g => absurd (show (2 : Int) = 3 from g) (by decide)), (fun g => absurd (show (2 : Int) = 4 from g) (by decide))⟩ (show (2 : Int) ≠ 1 by decide) (by unfold recOf headOf; dsimp only; rw [if_neg (by decide)])
  rw [if_neg k2]
  by_cases k3 : d.kind = 3
  · rw [if_pos k3]
    have hst2 : (f.shards.getD k shd0).state = 2 := by rw [hst, k3]; rfl
    rw [if_neg (by rw [wrong_entries hs]; exact fun g => g rfl)]
    refine h.put hk ⟨hs.from_eq, hs.to_eq, .inr (.inr (.inl rfl)), hs.few, hs.short, hs.distinct, (fun g => absurd (show (3 : Int) = 4 from g) (by decide)), (fun _ => export_size hs), (fun g => absurd (show (3 : Int) = 4 from g) (by decide))⟩ (fun g => absurd (hst2.symm.trans g) (by decide)) (fun _ => ⟨by show (3 : Int) ≠ 1; decide, headOf_kept (by rw [hst2]; decide) (by show (3 : Int) ≠ 4; decide) rfl⟩)
  rw [if_neg k3]
  have hst3 : (f.shards.getD k shd0).state = 3 := by rw [hst]; unfold wantL; rw [if_neg k2, if_neg k3]
  by_cases k4 : d.kind = 4
  · rw [if_pos k4]
    by_cases hv : (verifyL (f.shards.getD k shd0).man).2.1 ≠ 0
    · rw [if_pos hv]; exact h
    rw [if_neg hv]
    have hv' : (verifyL (f.shards.getD k shd0).man).2.1 = 0 := by simpa using hv
    refine h.put hk ⟨hs.from_eq, hs.to_eq, .inr (.inr (.inr rfl)), Nat.zero_le _, (fun e he => absurd he (by simp)), List.nodup_nil, (fun _ => rfl), (fun g => absurd (show (4 : Int) = 3 from g) (by decide)), (fun _ => hv')⟩ (fun g => absurd (hst3.symm.trans g) (by decide)) (fun _ => ⟨by show (4 : Int) ≠ 1; decide, ?_⟩)
    unfold headOf
    rw [if_pos rfl, if_neg (by rw [hst3]; decide)]
    obtain ⟨e1, e2⟩ := hs.head3 hst3
    show ((f.shards.getD k shd0).man.size, (f.shards.getD k shd0).man.root) = _
    rw [e1, e2]
  rw [if_neg k4]
  by_cases h5 : d.segment < 0 ∨ ((f.shards.getD k shd0).man.segs.length : Int) ≤ d.segment
  · rw [if_pos h5]; exact h
  rw [if_neg h5]
  by_cases h6 : d.at' < 0 ∨ (((f.shards.getD k shd0).man.segs.getD d.segment.toNat seg0).packed.length : Int) ≤ d.at'
  · rw [if_pos h6]; exact h
  rw [if_neg h6]
  exact h.put hk ⟨hs.from_eq, hs.to_eq, hs.st, hs.few, hs.short, hs.distinct, hs.gone, hs.head3, (fun g => absurd (hst3.symm.trans g) (by decide))⟩ (fun g => g) (fun _ => ⟨by show (f.shards.getD k shd0).state ≠ 1; rw [hst3]; decide, headOf_kept (by rw [hst3]; decide) (by show (f.shards.getD k shd0).state ≠ 4; rw [hst3]; decide) rfl⟩)
theorem run_ok {ws : List Win} {f : Flt} (h : FltOk ws f) (l : List Dd) : FltOk ws (runL f l).1 := by
  induction l generalizing f with
  | nil => exact h
  | cons d ds ih => exact ih (step_ok h d)

end Go.Proofs.YtkjlchfmplcobaeGreatDoor

/- Chapter 7's mathematics: windows, the book, what is shown, and what is refused. -/
namespace Go.Proofs.YtkjlchfmplcobaeGreatDoor

theorem pigeon (m : Nat) : ∀ (n : Nat) (g : Nat → Nat), (∀ i, i < n → g i < m) → (∀ i j, i < n → j < n → g i = g j → i = j) → n ≤ m := by
  induction m with
  | zero => intro n g h _; rcases Nat.eq_zero_or_pos n with e | e; omega; exact absurd (h 0 e) (Nat.not_lt_zero _)
  | succ m ih =>
    intro n g h hi
    by_cases hx : ∃ i, i < n ∧ g i = m
    · obtain ⟨i, hin, him⟩ := hx
      have := ih (n - 1) (fun j => if j < i then g j else g (j + 1)) (fun j hj => by
        by_cases hji : j < i
        · rw [if_pos hji]
          have h1 := h j (by omega)
          have h2 : g j ≠ m := fun e => by have := hi j i (by omega) hin (e.trans him.symm); omega
          omega
        · rw [if_neg hji]
          have h1 := h (j + 1) (by omega)
          have h2 : g (j + 1) ≠ m := fun e => by have := hi (j + 1) i (by omega) hin (e.trans him.symm); omega
          omega) (fun a b ha hb e => by
        by_cases h1 : a < i <;> by_cases h2 : b < i
        · rw [if_pos h1, if_pos h2] at e; exact hi a b (by omega) (by omega) e
        · rw [if_pos h1, if_neg h2] at e; have := hi a (b + 1) (by omega) (by omega) e; omega
        · rw [if_neg h1, if_pos h2] at e; have := hi (a + 1) b (by omega) (by omega) e; omega
        · rw [if_neg h1, if_neg h2] at e; have := hi (a + 1) (b + 1) (by omega) (by omega) e; omega)
      omega
    · have := ih n g (fun j hj => by
        have h1 := h j hj
        have h2 : g j ≠ m := fun e => hx ⟨j, hj, e⟩
        omega) hi
      omega
theorem wrongWins_many {l : List Win} (h : 8 < l.length) : wrongWins l = (5, 0) := by unfold wrongWins; rw [if_pos h]
theorem wrongWins_at {l : List Win} {k : Nat} (h8 : l.length ≤ 8) (hk : k < l.length) (hb : ∀ j, j < k → wrongWin l j = 0) (h : wrongWin l k ≠ 0) : wrongWins l = (wrongWin l k, (k : Int)) := by
  unfold wrongWins
  rw [if_neg (by omega), find_range (p := fun i => decide (wrongWin l i ≠ 0)) hk (decide_eq_true h) (fun j hj => decide_eq_false (fun g => g (hb j hj)))]
theorem wrongWins_none {l : List Win} (h8 : l.length ≤ 8) (hb : ∀ j, j < l.length → wrongWin l j = 0) : wrongWins l = (0, 0) := by
  unfold wrongWins
  rw [if_neg (by omega), find_none (p := fun i => decide (wrongWin l i ≠ 0)) (fun j hj => decide_eq_false (fun g => g (hb j hj)))]
theorem wrongWins_ok {l : List Win} (h : (wrongWins l).1 = 0) : l.length ≤ 8 ∧ ∀ j, j < l.length → wrongWin l j = 0 := by
  by_cases h8 : 8 < l.length
  · rw [wrongWins_many h8] at h; exact absurd h (by decide)
  refine ⟨by omega, fun j hj => ?_⟩
  unfold wrongWins at h
  rw [if_neg h8] at h
  cases hf : (List.range l.length).find? (fun i => decide (wrongWin l i ≠ 0)) with
  | none =>
    have := find_range_none hf j hj
    simpa using this
  | some i =>
    rw [hf] at h
    have := (find_range_some hf).2.1
    exact absurd h (of_decide_eq_true this)
theorem wrongWin_ok {l : List Win} {i : Nat} (h : wrongWin l i = 0) : 0 ≤ (l.getD i win0).a ∧ (l.getD i win0).a < (l.getD i win0).b ∧ (l.getD i win0).b ≤ 1000000 ∧ (0 < i → (l.getD (i - 1) win0).b ≤ (l.getD i win0).a) := by
  unfold wrongWin at h
  by_cases h1 : (l.getD i win0).a < 0 ∨ (l.getD i win0).b ≤ (l.getD i win0).a ∨ 1000000 < (l.getD i win0).b
  · rw [if_pos h1] at h; exact absurd h (by decide)
  rw [if_neg h1] at h
  by_cases h2 : 0 < i ∧ (l.getD i win0).a < (l.getD (i - 1) win0).b
  · rw [if_pos h2] at h; exact absurd h (by decide)
  exact ⟨by omega, by omega, by omega, fun h3 => by omega⟩
theorem book_few {ws : List Win} {f : Flt} (h : FltOk ws f) : f.book.length ≤ ws.length := by
  refine pigeon ws.length f.book.length (fun j => (f.book.getD j rec0).shard.toNat) (fun j hj => ?_) (fun i j hi hj e => ?_)
  · obtain ⟨k, hk, -, e⟩ := h.inb j hj
    rw [e]
    show ((k : Int)).toNat < _
    omega
  · obtain ⟨k1, -, -, e1⟩ := h.inb i hi
    obtain ⟨k2, -, -, e2⟩ := h.inb j hj
    refine h.once i j hi hj ?_
    rw [e1, e2] at e ⊢
    have e' : ((k1 : Int)).toNat = ((k2 : Int)).toNat := e
    show (k1 : Int) = (k2 : Int)
    omega
theorem headOf_len {w : Win} {s : Shd} (h : ShdOk w s) : 0 ≤ (headOf s).1 ∧ (headOf s).1 ≤ 100 ∧ (headOf s).2.length = 32 := by
  unfold headOf
  by_cases h4 : s.state = 4
  · rw [if_pos h4]
    obtain ⟨-, hm, -, hr⟩ := verify_spec (h.ver4 h4)
    have := of_decide_eq_true hm
    exact ⟨this.1, this.2.1, by show s.man.root.length = 32; rw [← hr]; exact mth_length _⟩
  · rw [if_neg h4]
    have := h.few
    exact ⟨by show (0 : Int) ≤ (s.entries.length : Int); omega, by show (s.entries.length : Int) ≤ 100; omega, mth_length _⟩
theorem book_right {ws : List Win} {f : Flt} (hw : (wrongWins ws).1 = 0) (h : FltOk ws f) : wrongRecs f.book = (0, 0) := by
  obtain ⟨h8, hall⟩ := wrongWins_ok hw
  have hb := book_few h
  refine wrongRecs_none (by omega) (fun j hj => ?_)
  obtain ⟨k, hk, -, e⟩ := h.inb j hj
  rw [e]
  have hs := h.each k hk
  have hwk := wrongWin_ok (hall k hk)
  obtain ⟨g1, g2, g3⟩ := headOf_len hs
  unfold wrongRec recOf
  dsimp only
  rw [if_neg (by rw [hs.from_eq, hs.to_eq]; omega), if_neg (fun e => e g3)]
/-- What is refused did not happen. -/
theorem step_refused {f : Flt} {d : Dd} (h : (stepL f d).2.err ≠ 0) : (stepL f d).1 = f := by
  revert h
  unfold stepL
  by_cases h1 : d.kind = 1
  · rw [if_pos h1]
    unfold submitL
    by_cases h200 : 200 < d.entry.length
    · rw [if_pos h200]; exact fun _ => rfl
    rw [if_neg h200]
    cases hh : homeOf f.shards d.time with
    | none => exact fun _ => rfl
    | some k =>
      dsimp only
      by_cases h1 : (f.shards.getD k shd0).state ≠ 1
      · rw [if_pos h1]; exact fun _ => rfl
      rw [if_neg h1]
      cases hp : placeOf (f.shards.getD k shd0).entries d.entry with
      | some i => exact fun _ => rfl
      | none =>
        dsimp only
        by_cases h100 : 100 ≤ (f.shards.getD k shd0).entries.length
        · rw [if_pos h100]; exact fun _ => rfl
        rw [if_neg h100]
        exact fun h => absurd rfl h
  rw [if_neg h1]
  by_cases h2 : d.kind < 2 ∨ 5 < d.kind
  · rw [if_pos h2]; exact fun _ => rfl
  rw [if_neg h2]
  by_cases h3 : d.n < 0 ∨ (f.shards.length : Int) ≤ d.n
  · rw [if_pos h3]; exact fun _ => rfl
  rw [if_neg h3]
  by_cases h4 : (f.shards.getD d.n.toNat shd0).state ≠ wantL d.kind
  · rw [if_pos h4]; exact fun _ => rfl
  rw [if_neg h4]
  unfold stepAt
  dsimp only
  by_cases k2 : d.kind = 2
  · rw [if_pos k2]; exact fun h => absurd rfl h
  rw [if_neg k2]
  by_cases k3 : d.kind = 3
  · rw [if_pos k3]
    by_cases hw : (wrongL (f.shards.getD d.n.toNat shd0).entries).1 ≠ 0
    · rw [if_pos hw]; exact fun _ => rfl
    · rw [if_neg hw]; exact fun h => absurd rfl h
  rw [if_neg k3]
  by_cases k4 : d.kind = 4
  · rw [if_pos k4]
    by_cases hv : (verifyL (f.shards.getD d.n.toNat shd0).man).2.1 ≠ 0
    · rw [if_pos hv]; exact fun _ => rfl
    · rw [if_neg hv]; exact fun h => absurd rfl h
  rw [if_neg k4]
  by_cases h5 : d.segment < 0 ∨ ((f.shards.getD d.n.toNat shd0).man.segs.length : Int) ≤ d.segment
  · rw [if_pos h5]; exact fun _ => rfl
  rw [if_neg h5]
  by_cases h6 : d.at' < 0 ∨ (((f.shards.getD d.n.toNat shd0).man.segs.getD d.segment.toNat seg0).packed.length : Int) ≤ d.at'
  · rw [if_pos h6]; exact fun _ => rfl
  rw [if_neg h6]
  exact fun h => absurd rfl h
theorem take_snoc_dd {l : List Dd} {k : Nat} (hk : k < l.length) : l.take (k + 1) = l.take k ++ [l.getD k dd0] := by
  rw [List.take_succ_eq_append_getElem hk, List.getD_eq_getElem?_getD, List.getElem?_eq_getElem hk]; rfl
/-- Of what was done first the same came, whatever is done behind it. -/
theorem run_take (f : Flt) (l : List Dd) (k : Nat) : (runL f (l.take k)).2 = (runL f l).2.take k := by
  by_cases hk : k ≤ l.length
  · have h : (runL f l).2 = (runL f (l.take k)).2 ++ (runL (runL f (l.take k)).1 (l.drop k)).2 := by
      have := runL_append f (l.take k) (l.drop k)
      rw [List.take_append_drop] at this
      rw [this]
    rw [h]
    exact (List.take_left' (by rw [runL_length, List.length_take]; omega)).symm
  · rw [List.take_of_length_le (by omega), List.take_of_length_le (by rw [runL_length]; omega)]
theorem run_ans (f : Flt) (l : List Dd) {k : Nat} (hk : k < l.length) : (runL f l).2.getD k ans0 = (stepL (runL f (l.take k)).1 (l.getD k dd0)).2 := by
  have h1 := run_take f l (k + 1)
  rw [take_snoc_dd hk, runL_snoc] at h1
  have h2 : ((runL f l).2.take (k + 1)).getD k ans0 = (runL f l).2.getD k ans0 := by
    rw [List.getD_eq_getElem?_getD, List.getElem?_take, if_pos (by omega), ← List.getD_eq_getElem?_getD]
  rw [← h2, ← h1]
  have hl : (runL f (l.take k)).2.length = k := by rw [runL_length, List.length_take]; omega
  rw [snoc_get, hl, if_neg (by omega), if_pos rfl]
end Go.Proofs.YtkjlchfmplcobaeGreatDoor
