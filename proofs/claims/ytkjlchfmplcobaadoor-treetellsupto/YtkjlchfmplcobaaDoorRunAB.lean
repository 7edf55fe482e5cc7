/- TreeMem, TreeFace, TreeFaceEdge, as one text. -/
import Derived.Test.YtkjlchfmplcobaaDoorProg
import Derived.Test.YtkjlchfmplcobaaDoorShaOwn
import Derived.Test.YtkjlchfmplcobaaDoorRunAA
import Derived.Test.YtkjlchfmplcobaaDoorTreeEdgeMath
import Derived.WalkKit
import Derived.Laws.AppendOwnNone
/- What trees' answers are, and lists of bytes in memory. Nothing of the program's functions is in it. -/
namespace Go.Proofs.YtkjlchfmplcobaaDoor
open Go.RowKit

theorem PartsAt.form {w : World} {v : Value} {L : List (List Int)} (h : PartsAt w v L) : ∃ a c, v = .slice a L.length c ∧ (L.length = 0 ∨ ∃ b off, a = some ⟨b, off, none⟩ ∧ b < w.heap.size ∧ ∀ j, j < L.length → ∃ a c, w.cell? ⟨b, off + j, none⟩ = some (.slice a (L.getD j []).length c) ∧ BytesAt w (.slice a (L.getD j []).length c) (L.getD j [])) := by
  rcases h with ⟨rfl, a, c, rfl⟩ | ⟨b, off, cp, rfl, h2, h3⟩
  · exact ⟨a, c, rfl, .inl rfl⟩
  · refine ⟨_, _, rfl, .inr ⟨b, off, rfl, h2, fun j hj => ?_⟩⟩
    obtain ⟨a, n, c, hc, hB⟩ := h3 j hj
    obtain ⟨a', c', e⟩ := hB.form
    cases e
    exact ⟨_, _, hc, hB⟩
/-- All are digests? -/
def goodL (L : List (List Int)) : Bool := L.all (fun d => decide (d.length = 32))
theorem goodL_digs {L : List (List Int)} : goodL L = true ↔ Digs L := by simp [goodL, Digs]
theorem goodL_bad {L : List (List Int)} {k : Nat} (hk : k < L.length) (h : (L.getD k []).length ≠ 32) : goodL L = false := by
  rw [Bool.eq_false_iff]
  intro hg
  rw [goodL_digs] at hg
  apply h
  rw [List.getD_eq_getElem?_getD, List.getElem?_eq_getElem hk]
  exact hg _ (List.getElem_mem hk)
theorem goodL_all {L : List (List Int)} (h : ∀ j, j < L.length → (L.getD j []).length = 32) : goodL L = true := by
  rw [goodL_digs]
  intro d hd
  obtain ⟨j, hj, rfl⟩ := List.mem_iff_getElem.1 hd
  have := h j hj
  rwa [List.getD_eq_getElem?_getD, List.getElem?_eq_getElem hj] at this
theorem PartsAt.take {w : World} {a : Option Addr} {n c k : Nat} {L : List (List Int)} (h : PartsAt w (.slice a n c) L) (hn : L.length = n) (hk : k ≤ n) (h0 : 0 < n) (c' : Nat) : PartsAt w (.slice a k c') (L.take k) := by
  rcases h with ⟨rfl, -⟩ | ⟨b, off, cp, e, h2, h3⟩
  · simp at hn; omega
  · cases e
    have hl : (L.take k).length = k := by rw [List.length_take]; omega
    refine .inr ⟨b, off, c', by rw [hl], h2, fun j hj => ?_⟩
    obtain ⟨a, m, c, hc, hB⟩ := h3 j (by omega)
    refine ⟨a, m, c, hc, ?_⟩
    rw [List.getD_eq_getElem?_getD, List.getElem?_take, if_pos (by omega), ← List.getD_eq_getElem?_getD]
    exact hB
theorem PartsAt.drop {w : World} {b off n c k : Nat} {L : List (List Int)} (h : PartsAt w (.slice (some ⟨b, off, none⟩) n c) L) (hn : L.length = n) (hk : k ≤ n) (h0 : 0 < n) (c' : Nat) : PartsAt w (.slice (some ⟨b, off + k, none⟩) (n - k) c') (L.drop k) := by
  rcases h with ⟨rfl, -⟩ | ⟨b, off, cp, e, h2, h3⟩
  · simp at hn; omega
  · cases e
    have hl : (L.drop k).length = L.length - k := List.length_drop
    refine .inr ⟨b, off + k, c', by rw [hl], h2, fun j hj => ?_⟩
    obtain ⟨a, m, c, hc, hB⟩ := h3 (k + j) (by omega)
    refine ⟨a, m, c, by rw [Nat.add_assoc]; exact hc, ?_⟩
    rw [List.getD_eq_getElem?_getD, List.getElem?_drop, ← List.getD_eq_getElem?_getD]
    exact hB
theorem bytes_shaL (zs : List Int) : Bytes (shaL zs) := by
  intro j
  have : ∀ x ∈ shaL zs, 0 ≤ x ∧ x < 256 := by
    intro x hx
    unfold shaL St.out at hx
    obtain ⟨y, -, hy⟩ := List.mem_flatMap.1 hx
    simp only [byte4, List.mem_cons, List.not_mem_nil, or_false] at hy
    have := U_lo y
    rcases hy with rfl | rfl | rfl | rfl <;> omega
  rw [List.getD_eq_getElem?_getD]
  by_cases hj : j < (shaL zs).length
  · rw [List.getElem?_eq_getElem hj]; exact this _ (List.getElem_mem hj)
  · rw [List.getElem?_eq_none (by omega)]; exact ⟨by decide, by decide⟩
theorem bytes_mth (ls : List (List Int)) : Bytes (mth ls) := by
  rw [mth]; split
  · exact bytes_shaL _
  · split
    · exact bytes_shaL _
    · exact bytes_shaL _
theorem nodeL_bytes (a b : List Int) : Bytes (nodeL a b) := bytes_shaL _
theorem leafL_bytes (b : List Int) : Bytes (leafL b) := bytes_shaL _
theorem PartsAt.last {w : World} {a : Option Addr} {m c : Nat} {p : List (List Int)} (h : PartsAt w (.slice a m c) p) (hm : p.length = m) (h0 : m ≠ 0) : ∃ b off ta tc, a = some ⟨b, off, none⟩ ∧ b < w.heap.size ∧ w.cell? ⟨b, off + (m - 1), none⟩ = some (.slice ta (p.getD (m - 1) []).length tc) ∧ BytesAt w (.slice ta (p.getD (m - 1) []).length tc) (p.getD (m - 1) []) := by
  obtain ⟨a0, c0, e0, hcell⟩ := h.form
  rw [hm] at e0
  cases e0
  obtain ⟨b, off, rfl, hb0, hcl⟩ := hcell.resolve_left (by omega)
  obtain ⟨ta, tc, h1, h2⟩ := hcl (m - 1) (by omega)
  exact ⟨b, off, ta, tc, rfl, hb0, h1, h2⟩
theorem dropLast_take (p : List (List Int)) : p.dropLast = p.take (p.length - 1) := List.dropLast_eq_take
theorem getD_take_or (L : List (List Int)) (k j : Nat) : (L.take k).getD j [] = L.getD j [] ∨ (L.take k).getD j [] = [] := by
  by_cases h : j < k
  · left; rw [List.getD_eq_getElem?_getD, List.getElem?_take, if_pos h, ← List.getD_eq_getElem?_getD]
  · right; rw [List.getD_eq_getElem?_getD, List.getElem?_take, if_neg h]; rfl
theorem take_bytes {L : List (List Int)} (h : ∀ j, Bytes (L.getD j [])) (k : Nat) : ∀ j, Bytes ((L.take k).getD j []) := fun j => by
  rcases getD_take_or L k j with e | e <;> rw [e]
  · exact h j
  · exact nil_bytes
theorem take_short {L : List (List Int)} {m : Nat} (h : ∀ j, (L.getD j []).length ≤ m) (k : Nat) : ∀ j, ((L.take k).getD j []).length ≤ m := fun j => by
  rcases getD_take_or L k j with e | e <;> rw [e]
  · exact h j
  · exact Nat.zero_le _
/-- What is wrong with leaves: the errno, and where. -/
def wrongFrom (L : List (List Int)) (k : Nat) : Int × Int :=
  match L with
  | [] => (0, 0)
  | b :: l => if 200 < b.length then (4, k) else wrongFrom l (k + 1)
def wrongL (L : List (List Int)) : Int × Int := if 100 < L.length then (5, 0) else wrongFrom L 0
theorem wrong_at {L : List (List Int)} {k : Nat} (q : Nat) (hk : k < L.length) (hb : ∀ j, j < k → (L.getD j []).length ≤ 200) (h : 200 < (L.getD k []).length) : wrongFrom L q = (4, ((q + k : Nat) : Int)) := by
  induction L generalizing k q with
  | nil => simp at hk
  | cons b l ih =>
    unfold wrongFrom
    cases k with
    | zero => rw [if_pos (by simpa using h)]; rfl
    | succ k =>
      have h0 := hb 0 (by omega)
      rw [if_neg (by simp at h0; omega), ih (q + 1) (k := k) (by simpa using hk) (fun j hj => by simpa using hb (j + 1) (by omega)) (by simpa using h)]
      congr 2
      omega
theorem wrong_none {L : List (List Int)} (q : Nat) (hb : ∀ j, j < L.length → (L.getD j []).length ≤ 200) : wrongFrom L q = (0, 0) := by
  induction L generalizing q with
  | nil => rfl
  | cons b l ih =>
    unfold wrongFrom
    have h0 := hb 0 (by simp)
    rw [if_neg (by simp at h0; omega), ih (q + 1) (fun j hj => by simpa using hb (j + 1) (by simpa using hj))]
theorem Tryd.info22b : (Tryd.prog.info? 22).map (fun i => (i.zero, i.size, i.bytes)) = some (some (.slice none 0 0), 1, 24) := by kernel_rfl
theorem own_ne {w : World} {base b2 : Nat} {e1 e2 : TypeId} {v1 v2 : Value} {n1 n2 : Nat} {xs1 xs2 : List Value} (h1 : w.ownsRow base e1 1 v1 n1 xs1) (h2 : w.ownsRow b2 e2 1 v2 n2 xs2) (hne : e1 ≠ e2) : Sep v1 v2 := fun g hg1 hg2 => by
  rcases h1.2 with ⟨rfl, -⟩ | ⟨g1, c1, cur1, rfl, -, hh1, -⟩
  · cases hg1
  rcases h2.2 with ⟨rfl, -⟩ | ⟨g2, c2, cur2, rfl, -, hh2, -⟩
  · cases hg2
  cases hg1
  cases hg2
  rw [hh1] at hh2
  cases hh2
  exact hne rfl
/-- Each of the values is a row of bytes of the call's own. -/
def OwnEls (w : World) (base : Nat) (vs : List Value) (L : List (List Int)) : Prop :=
  ∀ j, j < L.length → ∃ y, vs[j]? = some y ∧ w.ownsRow base 5 1 y (L.getD j []).length ((L.getD j []).map (Value.int .u8))
/-- A slice of slices of bytes, all of them the call's own. -/
def OwnParts (w : World) (base : Nat) (v : Value) (L : List (List Int)) : Prop := ∃ vs, w.ownsRow base 22 1 v L.length vs ∧ OwnEls w base vs L
theorem OwnEls.kept {w w' : World} {base : Nat} {vs : List Value} {L : List (List Int)} {v : Value} {n : Nat} {xs : List Value} (h : OwnEls w base vs L) (hr : w.ownsRow base 22 1 v n xs) (hg : w.grownBy w' v.ownBlock) : OwnEls w' base vs L := fun j hj => by
  obtain ⟨y, h1, h2⟩ := h j hj
  exact ⟨y, h1, h2.kept hg (own_ne h2 hr (by decide)).or⟩
theorem OwnEls.alloc {w : World} {base : Nat} {vs : List Value} {L : List (List Int)} (h : OwnEls w base vs L) (o : Obj) : OwnEls (w.alloc o) base vs L := fun j hj => by
  obtain ⟨y, h1, h2⟩ := h j hj
  exact ⟨y, h1, h2.alloc o⟩
theorem OwnEls.below {w w' : World} {base N : Nat} {vs : List Value} {L : List (List Int)} (h : OwnEls w base vs L) (hb : Below N w w') (hN : w.heap.size ≤ N) : OwnEls w' base vs L := fun j hj => by
  obtain ⟨y, h1, h2⟩ := h j hj
  exact ⟨y, h1, own_below h2 hb hN⟩
theorem OwnEls.base {w : World} {b b' : Nat} {vs : List Value} {L : List (List Int)} (h : OwnEls w b vs L) (hb : b' ≤ b) : OwnEls w b' vs L := fun j hj => by
  obtain ⟨y, h1, h2⟩ := h j hj
  exact ⟨y, h1, ownsRow_base h2 hb⟩
theorem OwnEls.snoc {w : World} {base : Nat} {vs : List Value} {L : List (List Int)} {x : Value} {d : List Int} (h : OwnEls w base vs L) (hl : vs.length = L.length) (hx : w.ownsRow base 5 1 x d.length (d.map (Value.int .u8))) : OwnEls w base (vs ++ [x]) (L ++ [d]) := fun j hj => by
  by_cases e : j < L.length
  · obtain ⟨y, h1, h2⟩ := h j e
    refine ⟨y, by rw [List.getElem?_append_left (by omega)]; exact h1, ?_⟩
    rw [List.getD_eq_getElem?_getD, List.getElem?_append_left e, ← List.getD_eq_getElem?_getD]
    exact h2
  · obtain rfl : j = L.length := by simp at hj; omega
    refine ⟨x, by rw [List.getElem?_append_right (by omega), hl, Nat.sub_self]; rfl, ?_⟩
    rw [List.getD_eq_getElem?_getD, List.getElem?_append_right (Nat.le_refl _), Nat.sub_self]
    exact hx
theorem OwnParts.below {w w' : World} {base N : Nat} {v : Value} {L : List (List Int)} (h : OwnParts w base v L) (hb : Below N w w') (hN : w.heap.size ≤ N) : OwnParts w' base v L := by
  obtain ⟨vs, h1, h2⟩ := h
  exact ⟨vs, own_below h1 hb hN, h2.below hb hN⟩
theorem OwnParts.base {w : World} {b b' : Nat} {v : Value} {L : List (List Int)} (h : OwnParts w b v L) (hb : b' ≤ b) : OwnParts w b' v L := by
  obtain ⟨vs, h1, h2⟩ := h
  exact ⟨vs, ownsRow_base h1 hb, h2.base hb⟩
theorem OwnParts.nil (w : World) (base : Nat) : OwnParts w base (.slice none 0 0) [] := ⟨[], World.ownsRow_nil _ _ _ _, fun _ hj => absurd hj (Nat.not_lt_zero _)⟩
theorem OwnParts.form {w : World} {base : Nat} {v : Value} {L : List (List Int)} (h : OwnParts w base v L) : ∃ a c, v = .slice a L.length c ∧ L.length ≤ c ∧ c ≤ maxLen := by
  obtain ⟨vs, h1, -⟩ := h
  exact own_cap h1
/-- So it reads as what it is. -/
theorem OwnParts.parts {w : World} {base : Nat} {v : Value} {L : List (List Int)} (h : OwnParts w base v L) : PartsAt w v L := by
  obtain ⟨vs, h1, h2⟩ := h
  rcases h1.2 with ⟨hv, hn⟩ | ⟨g, cap, cur, rfl, -, hg, -⟩
  · exact .inl ⟨List.eq_nil_of_length_eq_zero hn, none, 0, by rw [hv]⟩
  · refine .inr ⟨g, 0, cap, rfl, ?_, fun j hj => ?_⟩
    · rcases Nat.lt_or_ge g w.heap.size with h' | h'
      · exact h'
      · rw [Array.getElem?_eq_none h'] at hg; cases hg
    · obtain ⟨y, h3, h4⟩ := h2 j hj
      obtain ⟨a, c, rfl⟩ := own_form' h4
      refine ⟨a, _, c, ?_, bytesAt_own h4⟩
      rw [Nat.zero_add, h1.cellAt j (by omega)]
      exact h3
/-- Leaves as a call meets them: they can be read, there is room for what there is, and they are bytes, not too many. -/
structure Leaves (w : World) (a : Option Addr) (n c : Nat) (L : List (List Int)) : Prop where
  len : L.length = n
  at' : PartsAt w (.slice a n c) L
  room : n ≤ c
  cap : c ≤ maxLen
  bytes : ∀ j, Bytes (L.getD j [])
  short : ∀ j, (L.getD j []).length ≤ 1000000
theorem Leaves.below {w w' : World} {a : Option Addr} {n c : Nat} {L : List (List Int)} (h : Leaves w a n c L) (hb : Below w.heap.size w w') : Leaves w' a n c L :=
  ⟨h.len, h.at'.below (Nat.le_refl _) hb, h.room, h.cap, h.bytes, h.short⟩
theorem Leaves.take {w : World} {a : Option Addr} {n c k : Nat} {L : List (List Int)} (h : Leaves w a n c L) (hk : k ≤ n) (h0 : 0 < n) : Leaves w a k c (L.take k) :=
  ⟨by rw [List.length_take]; have := h.len; omega, h.at'.take h.len hk h0 _, by have := h.room; omega, h.cap, take_bytes h.bytes k, take_short h.short k⟩
theorem Leaves.drop {w : World} {b off n c k : Nat} {L : List (List Int)} (h : Leaves w (some ⟨b, off, none⟩) n c L) (hk : k ≤ n) (h0 : 0 < n) : Leaves w (some ⟨b, off + k, none⟩) (n - k) (c - k) (L.drop k) :=
  have gd : ∀ j, (L.drop k).getD j [] = L.getD (k + j) [] := fun j => by rw [List.getD_eq_getElem?_getD, List.getElem?_drop, ← List.getD_eq_getElem?_getD]
  ⟨by rw [List.length_drop]; have := h.len; omega, h.at'.drop h.len hk h0 _, by have := h.room; omega, by have := h.cap; omega, fun j => by rw [gd j]; exact h.bytes _, fun j => by rw [gd j]; exact h.short _⟩
theorem Leaves.addr {w : World} {a : Option Addr} {n c : Nat} {L : List (List Int)} (h : Leaves w a n c L) (h0 : 0 < n) : ∃ b off, a = some ⟨b, off, none⟩ := by
  obtain ⟨a0, c0, e0, hcell⟩ := h.at'.form
  rw [h.len] at e0
  cases e0
  obtain ⟨b, off, rfl, -⟩ := hcell.resolve_left (by have := h.len; omega)
  exact ⟨b, off, rfl⟩
theorem OwnParts.one {w w1 : World} {base : Nat} {xa : Option Addr} {xc : Nat} {d : List Int} (hl : d.length = 32) (h : w1.ownsRow w.heap.size 5 1 (.slice xa 32 xc) 32 (d.map (Value.int .u8))) (hb : base ≤ w.heap.size) (hs : w.heap.size ≤ w1.heap.size) :
    OwnParts (w1.alloc (.cells #[.slice xa 32 xc] 22)) base (.slice (some ⟨w1.heap.size, 0, none⟩) 1 1) [d] := by
  refine ⟨[.slice xa 32 xc], World.ownsRow_lit w1 #[.slice xa 32 xc] 1 (by omega) (by unfold maxLen; omega) rfl, fun j hj => ?_⟩
  obtain rfl : j = 0 := by simp at hj; omega
  exact ⟨_, rfl, by show World.ownsRow _ _ _ _ _ d.length _; rw [hl]; exact (ownsRow_base h hb).alloc _⟩
/-- A right edge? -/
def rightL (size most : Int) (ps : List (List Int)) : Bool := decide (0 ≤ size) && decide (size ≤ most) && decide (ps.length = onesN size.toNat) && goodL ps
theorem top_last (ps : List (List Int)) (l : Nat) (hl : ps.length = l) (h0 : l ≠ 0) : topL (ps.drop (l - 1)) = ps.getD (l - 1) [] := by
  have e : ps.drop (l - 1) = [ps.getD (l - 1) []] := by
    rw [List.drop_eq_getElem_cons (by omega), List.drop_eq_nil_of_le (by omega), List.getD_eq_getElem?_getD, List.getElem?_eq_getElem (by omega)]; rfl
  rw [e, topL_one]
theorem top_step (ps : List (List Int)) (i : Nat) (h : i + 1 < ps.length) : topL (ps.drop i) = nodeL (ps.getD i []) (topL (ps.drop (i + 1))) := by
  rw [List.drop_eq_getElem_cons (by omega), topL_cons _ _ (by intro e; have := congrArg List.length e; simp at this; omega), List.getD_eq_getElem?_getD, List.getElem?_eq_getElem (by omega)]
  rfl
theorem top_fit {ps : List (List Int)} (hz : ∀ j, Bytes (ps.getD j [])) (hg : ∀ j, j < ps.length → (ps.getD j []).length = 32) : Bytes (topL ps) ∧ (topL ps).length = 32 := by
  induction ps with
  | nil => rw [topL_nil]; exact ⟨bytes_shaL _, shaL_len _⟩
  | cons d l ih =>
    by_cases h : l = []
    · subst h; rw [topL_one]; exact ⟨hz 0, hg 0 (by simp)⟩
    · rw [topL_cons d l h]; exact ⟨nodeL_bytes _ _, nodeL_length _ _⟩
theorem goodL_get {L : List (List Int)} (h : goodL L = true) (j : Nat) (hj : j < L.length) : (L.getD j []).length = 32 := by
  rw [List.getD_eq_getElem?_getD, List.getElem?_eq_getElem hj]
  exact goodL_digs.1 h _ (List.getElem_mem hj)
theorem drop_fit {ps : List (List Int)} (hz : ∀ j, Bytes (ps.getD j [])) (hg : ∀ j, j < ps.length → (ps.getD j []).length = 32) (i : Nat) : Bytes (topL (ps.drop i)) ∧ (topL (ps.drop i)).length = 32 := by
  have gd : ∀ j, (ps.drop i).getD j [] = ps.getD (i + j) [] := fun j => by rw [List.getD_eq_getElem?_getD, List.getElem?_drop, ← List.getD_eq_getElem?_getD]
  exact top_fit (fun j => by rw [gd j]; exact hz _) (fun j hj => by rw [gd j]; exact hg _ (by simp at hj; omega))
theorem own_shrink {w : World} {base g m c k : Nat} {e : TypeId} {xs : List Value} (h : w.ownsRow base e 1 (.slice (some ⟨g, 0, none⟩) m c) m xs) (hk : k ≤ m) : w.ownsRow base e 1 (.slice (some ⟨g, 0, none⟩) k c) k (xs.take k) := by
  refine ⟨by rw [List.length_take, h.1]; omega, ?_⟩
  rcases h.2 with ⟨e1, -⟩ | ⟨g', cap, cur, e1, hb, hg, h1, h2, h3, h4⟩
  · simp at e1
  · simp only [Value.slice.injEq, Option.some.injEq, Addr.mk.injEq, and_true, true_and] at e1
    obtain ⟨rfl, rfl⟩ := e1
    refine .inr ⟨g, c, cur, rfl, hb, hg, by omega, h2, h3, ?_⟩
    rw [← h4, List.take_take, Nat.mul_one, Nat.mul_one, Nat.min_eq_left hk]
/-- The values of a list as they lie. -/
theorem PartsAt.src {w : World} {a : Option Addr} {l c : Nat} {L : List (List Int)} (h : PartsAt w (.slice a l c) L) (hl : L.length = l) : ∃ vs : List Value, vs.length = l ∧ (∀ ad, a = some ad → ∀ j u, vs[j]? = some u → w.cell? (ad.add j) = some u) ∧
    (∀ j, j < l → ∃ pa pc, vs[j]? = some (.slice pa (L.getD j []).length pc) ∧ BytesAt w (.slice pa (L.getD j []).length pc) (L.getD j [])) ∧ (∀ u ∈ vs, u.oneCell' = true) := by
  obtain ⟨a0, c0, e0, hcell⟩ := h.form
  rw [hl] at e0
  cases e0
  rcases hcell with h0 | ⟨b, off, rfl, hb, hc⟩
  · obtain rfl : l = 0 := by omega
    exact ⟨[], rfl, fun _ _ j u hu => by simp at hu, fun j hj => absurd hj (Nat.not_lt_zero _), fun u hu => by cases hu⟩
  · rw [hl] at hc
    let f : Nat → Value := fun j => (w.cell? ⟨b, off + j, none⟩).getD (.slice none 0 0)
    have hf : ∀ j, j < l → ∃ pa pc, f j = .slice pa (L.getD j []).length pc ∧ w.cell? ⟨b, off + j, none⟩ = some (f j) ∧ BytesAt w (.slice pa (L.getD j []).length pc) (L.getD j []) := fun j hj => by
      obtain ⟨pa, pc, h1, h2⟩ := hc j hj
      have e : f j = .slice pa (L.getD j []).length pc := by show (w.cell? ⟨b, off + j, none⟩).getD _ = _; rw [h1]; rfl
      exact ⟨pa, pc, e, by rw [e]; exact h1, h2⟩
    have hget : ∀ j, j < l → ((List.range l).map f)[j]? = some (f j) := fun j hj => by rw [List.getElem?_map, List.getElem?_range hj]; rfl
    refine ⟨(List.range l).map f, by simp, fun ad ha j u hu => ?_, fun j hj => ?_, fun u hu => ?_⟩
    · cases ha
      have hj : j < l := by have := (List.getElem?_eq_some_iff.1 hu).1; simpa using this
      rw [hget j hj] at hu
      cases hu
      obtain ⟨-, -, -, h2, -⟩ := hf j hj
      rw [Addr.add_mid]; exact h2
    · obtain ⟨pa, pc, h1, -, h3⟩ := hf j hj
      exact ⟨pa, pc, by rw [hget j hj, h1], h3⟩
    · obtain ⟨j, hj, rfl⟩ := List.mem_map.1 hu
      obtain ⟨pa, pc, h1, -⟩ := hf j (by simpa using hj)
      rw [h1]; rfl
/-- A row of the call's own, of values that can be read. -/
theorem parts_of_row {w : World} {base : Nat} {v : Value} {n : Nat} {xs : List Value} {L : List (List Int)} (h : w.ownsRow base 22 1 v n xs) (hl : L.length = n) (he : ∀ j, j < n → ∃ a m c, xs[j]? = some (.slice a m c) ∧ BytesAt w (.slice a m c) (L.getD j [])) : PartsAt w v L := by
  rcases h.2 with ⟨hv, hn⟩ | ⟨g, cap, cur, rfl, -, hg, -⟩
  · exact .inl ⟨List.eq_nil_of_length_eq_zero (by omega), none, 0, by rw [hv]⟩
  · refine .inr ⟨g, 0, cap, by rw [hl], ?_, fun j hj => ?_⟩
    · rcases Nat.lt_or_ge g w.heap.size with h' | h'
      · exact h'
      · rw [Array.getElem?_eq_none h'] at hg; cases hg
    · obtain ⟨a, m, c, h1, h2⟩ := he j (by omega)
      exact ⟨a, m, c, by rw [Nat.zero_add, h.cellAt j (by omega)]; exact h1, h2⟩
/-- append(dst, src...), dst the call's own, src a list as it came. -/
theorem wpList_append_parts {P : Program} {w : World} {ops : Array Oper} {rest : List Oper} {o : Oper} {ac : Act} {Q : Exit → Act → World → Prop} (hgd : o.guard = none) (s x : Operand) (t : TypeId)
    (ho : o.op = .call { callee := .builtin .append, args := #[s, x], argTypes := #[t, t] })
    (base : Nat) (e : TypeId) (i : TypeInfo) (z : Value) (bytes : Nat) (ht : P.underlying t = some (.slice e)) (hi : P.info? e = some i) (hz : i.zero = some z)
    (hsize : i.size = 1) (hby : i.bytes = bytes) (hzs : z.cells.size = 1)
    (v : Value) (n : Nat) (xs : List Value) (hs : ac.eval s = v) (hown : w.ownsRow base e 1 v n xs)
    (a : Option Addr) (l c : Nat) (vs : List Value) (hx : ac.eval x = .slice a l c) (hnil : a = none → l = 0 ∧ c = 0) (hl : vs.length = l) (hc : ∀ ad, a = some ad → ∀ j u, vs[j]? = some u → w.cell? (ad.add j) = some u) (h1 : ∀ u ∈ vs, u.oneCell' = true)
    (h63 : n + l ≤ maxLen) (hbytes : (n + l) * bytes ≤ 140737488355328) (hbase : base ≤ w.heap.size)
    (h : ∀ v' w', w'.ownsRow base e 1 v' (n + l) (xs ++ vs) → w.grownBy w' v.ownBlock → wpList P ops Q rest (ac.put o.dst v') w') : wpList P ops Q (o :: rest) ac w := by
  cases a with
  | none =>
    obtain ⟨rfl, rfl⟩ := hnil rfl
    obtain rfl : vs = [] := List.eq_nil_of_length_eq_zero hl
    exact wpList_append_own_none hgd s x t ho base e i 1 ht hi v n xs hs hown hx (h v w (by simpa using hown) (World.grownBy.refl _ _))
  | some ad =>
    exact wpList_append_own _ hgd s x t ho base e i z 1 bytes ht hi hz hsize hby hzs (by decide) v n xs hs hown ad l c vs hx (by omega) (hc ad rfl) h1 h63 hbytes hbase (fun v' w' h1 h2 _ => h v' w' h1 h2)
theorem grown_old {wr w6 : World} {o : Obj} {row : Option Nat} {B : Nat} (hg : (wr.alloc o).drew.grownBy w6 row) (hrow : ∀ q, row = some q → B ≤ q) (hB : B ≤ wr.heap.size) : Below B wr w6 :=
  ((Below.refl B wr).alloc hB o).drew.grown hg (by show B ≤ (wr.alloc o).heap.size; simp; omega) hrow
theorem push_step {ps : List (List Int)} {m r : Nat} {d : List Int} (hm : m ≤ ps.length) (h0 : m ≠ 0) (hr : r % 2 = 1) : pushL (ps.take m) r d = pushL (ps.take (m - 1)) (r / 2) (nodeL (ps.getD (m - 1) []) d) := by
  have hl : (ps.take m).length = m := by rw [List.length_take]; omega
  rw [pushL_odd hr, dropLast_take, hl, List.take_take, Nat.min_eq_left (by omega), List.getD_eq_getElem?_getD, List.getElem?_take, if_pos (by omega), ← List.getD_eq_getElem?_getD]
/-- What Push tells: the size, the errno, the parts. -/
def pushE (size : Int) (ps : List (List Int)) (b : List Int) : Int × Int × List (List Int) :=
  if rightL size 99 ps = false then (0, 2, []) else if 200 < b.length then (0, 4, []) else (size + 1, 0, pushL ps size.toNat (leafL b))
theorem pushL_fit (n : Nat) : ∀ (ps : List (List Int)) (d : List Int), d.length = 32 → (pushL ps n d).length ≤ ps.length + 1 ∧ ∀ x ∈ pushL ps n d, x ∈ ps ∨ x.length = 32 := by
  induction n using Nat.strongRecOn with
  | ind n ih =>
    intro ps d hd
    by_cases h : n % 2 = 1
    · rw [pushL_odd h]
      obtain ⟨h1, h2⟩ := ih (n / 2) (by omega) ps.dropLast (nodeL (ps.getD (ps.length - 1) []) d) (nodeL_length _ _)
      refine ⟨by rw [List.length_dropLast] at h1; omega, fun x hx => ?_⟩
      rcases h2 x hx with h | h
      · exact .inl (List.dropLast_subset _ h)
      · exact .inr h
    · rw [pushL_even h]
      refine ⟨by simp, fun x hx => ?_⟩
      rcases List.mem_append.1 hx with h | h
      · exact .inl h
      · right; rw [List.mem_singleton.1 h]; exact hd
theorem mem_short {L : List (List Int)} {m : Nat} (h : ∀ j, (L.getD j []).length ≤ m) : ∀ x ∈ L, x.length ≤ m := fun x hx => by
  obtain ⟨j, hj, rfl⟩ := List.mem_iff_getElem.1 hx
  have := h j
  rwa [List.getD_eq_getElem?_getD, List.getElem?_eq_getElem hj] at this
theorem short_mem {L : List (List Int)} {m : Nat} (h : ∀ x ∈ L, x.length ≤ m) (j : Nat) : (L.getD j []).length ≤ m := by
  rw [List.getD_eq_getElem?_getD]
  by_cases hj : j < L.length
  · rw [List.getElem?_eq_getElem hj]; exact h _ (List.getElem_mem hj)
  · rw [List.getElem?_eq_none (by omega)]; exact Nat.zero_le _
theorem onesN_le (m : Nat) : onesN m ≤ m := by
  induction m using Nat.strongRecOn with
  | ind m ih =>
    by_cases h : m = 0
    · subst h; rw [onesN_zero]; exact Nat.le_refl _
    · rw [onesN_more h]
      have := ih (m / 2) (by omega)
      omega
theorem pushE_fit (size : Int) (ps : List (List Int)) (b : List Int) (hs : ∀ j, (ps.getD j []).length ≤ maxLen) : (pushE size ps b).2.2.length ≤ maxLen ∧ ∀ j, ((pushE size ps b).2.2.getD j []).length ≤ maxLen := by
  unfold pushE
  by_cases h1 : rightL size 99 ps = false
  · rw [if_pos h1]; exact ⟨Nat.zero_le _, fun j => by simp⟩
  rw [if_neg h1]
  by_cases h2 : 200 < b.length
  · rw [if_pos h2]; exact ⟨Nat.zero_le _, fun j => by simp⟩
  rw [if_neg h2]
  have h1' : rightL size 99 ps = true := by simpa using h1
  unfold rightL at h1'
  simp at h1'
  obtain ⟨⟨⟨h3, h4⟩, h5⟩, -⟩ := h1'
  have h6 := onesN_le size.toNat
  obtain ⟨h7, h8⟩ := pushL_fit size.toNat ps (leafL b) (leafL_length b)
  refine ⟨by show (pushL ps size.toNat (leafL b)).length ≤ maxLen; unfold maxLen; omega, short_mem (fun x hx => ?_)⟩
  rcases h8 x hx with h | h
  · exact mem_short hs x h
  · rw [h]; unfold maxLen; omega
theorem top_len (size : Int) (ps : List (List Int)) (hz : ∀ j, Bytes (ps.getD j [])) : (if rightL size 100 ps = true then topL ps else []).length ≤ maxLen := by
  by_cases h : rightL size 100 ps = true
  · rw [if_pos h]
    have hg : goodL ps = true := by unfold rightL at h; simp at h; exact h.2
    rw [(top_fit hz (goodL_get hg)).2]; unfold maxLen; omega
  · rw [if_neg h]; exact Nat.zero_le _
theorem wrong_ok {L : List (List Int)} (h : (wrongL L).1 = 0) : L.length ≤ 100 ∧ ∀ j, (L.getD j []).length ≤ 200 := by
  unfold wrongL at h
  by_cases h1 : 100 < L.length
  · rw [if_pos h1] at h; simp at h
  · rw [if_neg h1] at h
    refine ⟨by omega, ?_⟩
    have key : ∀ (L : List (List Int)) (q : Nat), (wrongFrom L q).1 = 0 → ∀ j, (L.getD j []).length ≤ 200 := fun L => by
      induction L with
      | nil => intro q _ j; simp
      | cons b l ih =>
        intro q hq j
        unfold wrongFrom at hq
        by_cases h2 : 200 < b.length
        · rw [if_pos h2] at hq; simp at hq
        · rw [if_neg h2] at hq
          cases j with
          | zero => simp; omega
          | succ j => simpa using ih (q + 1) hq j
    exact key L 0 h
end Go.Proofs.YtkjlchfmplcobaaDoor

/- What the laws of chapter 2 ask of package tree's faces, as propositions: each is shown of the landed code elsewhere. -/
namespace Go.Proofs.YtkjlchfmplcobaaDoor
open Go.RowKit

/-- The world holds the digests' table. -/
structure Ready (w : World) : Prop where
  tab : Tab w
  big : 0 < w.heap.size
theorem Ready.below {w w' : World} (h : Ready w) (hb : Below w.heap.size w w') : Ready w' := ⟨tab_below h.tab hb h.big, Nat.lt_of_lt_of_le h.big hb.size⟩
/-- A list of bytes' lists as it comes in: it can be read, there is room for what there is, and it is bytes. -/
structure Lists (w : World) (a : Option Addr) (n c : Nat) (L : List (List Int)) : Prop where
  len : L.length = n
  at' : PartsAt w (.slice a n c) L
  room : n ≤ c
  cap : c ≤ maxLen
  nil : a = none → n = 0 ∧ c = 0
  bytes : ∀ j, Bytes (L.getD j [])
  short : ∀ j, (L.getD j []).length ≤ maxLen
theorem Lists.below {w w' : World} {a : Option Addr} {n c : Nat} {L : List (List Int)} (h : Lists w a n c L) (hb : Below w.heap.size w w') : Lists w' a n c L :=
  ⟨h.len, h.at'.below (Nat.le_refl _) hb, h.room, h.cap, h.nil, h.bytes, h.short⟩
@[reducible] def faultV (p : Int × Int) : Value := .agg #[.int .i64 p.1, .int .i64 p.2]
/-- What Path and Grows say. -/
def pathF (L : List (List Int)) (i : Int) : Int × Int := if (wrongL L).1 ≠ 0 then wrongL L else if i < 0 ∨ (L.length : Int) ≤ i then (6, 0) else (0, 0)
def growF (L : List (List Int)) (m : Int) : Int × Int := if (wrongL L).1 ≠ 0 then wrongL L else if m < 1 ∨ (L.length : Int) < m then (3, 0) else (0, 0)
def WrongC : Prop := ∀ (L : List (List Int)) (a : Option Addr) (n c : Nat) (w : World), Lists w a n c L →
  Calls Tryd.prog 15 #[.slice a n c] w fun e w' => e = .returned (faultV (wrongL L)) ∧ Below w.heap.size w w'
def RootC : Prop := ∀ (L : List (List Int)) (a : Option Addr) (n c : Nat) (w : World), Ready w → Lists w a n c L →
  Calls Tryd.prog 26 #[.slice a n c] w fun e w' => ∃ xa xn xc, e = .returned (.tuple #[.slice xa xn xc, faultV (wrongL L)]) ∧ ((wrongL L).1 = 0 → w'.ownsRow w.heap.size 5 1 (.slice xa xn xc) 32 ((mth L).map (Value.int .u8))) ∧ ((wrongL L).1 ≠ 0 → xn = 0) ∧ Below w.heap.size w w'
def PathC : Prop := ∀ (L : List (List Int)) (i : Int) (a : Option Addr) (n c : Nat) (w : World), Ready w → Lists w a n c L →
  Calls Tryd.prog 27 #[.slice a n c, .int .i64 i] w fun e w' => ∃ xa xn xc, e = .returned (.tuple #[.slice xa xn xc, faultV (pathF L i)]) ∧ ((pathF L i).1 = 0 → OwnParts w' w.heap.size (.slice xa xn xc) (pathL L i.toNat)) ∧ ((pathF L i).1 ≠ 0 → xn = 0) ∧ Below w.heap.size w w'
end Go.Proofs.YtkjlchfmplcobaaDoor

/- What the laws of chapter 2 ask of tree.Push and tree.Top. -/
namespace Go.Proofs.YtkjlchfmplcobaaDoor
open Go.RowKit

def PushC : Prop := ∀ (size : Int) (ps : List (List Int)) (b : List Int) (bv : Value) (a : Option Addr) (n c : Nat) (w : World), Ready w → Lists w a n c ps → Some' w bv b →
  Calls Tryd.prog 21 #[.agg #[.int .i64 size, .slice a n c], bv] w fun e w' => ∃ xa xn xc, e = .returned (.tuple #[.agg #[.int .i64 (pushE size ps b).1, .slice xa xn xc], .int .i64 (pushE size ps b).2.1]) ∧ OwnParts w' w.heap.size (.slice xa xn xc) (pushE size ps b).2.2 ∧ Below w.heap.size w w'
def TopC : Prop := ∀ (size : Int) (ps : List (List Int)) (a : Option Addr) (n c : Nat) (w : World), Ready w → Lists w a n c ps →
  Calls Tryd.prog 23 #[.agg #[.int .i64 size, .slice a n c]] w fun e w' => ∃ x, e = .returned (.tuple #[x, .int .i64 (if rightL size 100 ps = true then 0 else 2)]) ∧ BytesAt w' x (if rightL size 100 ps = true then topL ps else []) ∧ Below w.heap.size w w'

end Go.Proofs.YtkjlchfmplcobaaDoor
