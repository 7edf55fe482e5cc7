/- ShelfSegs, FleetMem, FleetMem2, FleetGoSmall, ShaPartsC, TreeFaceLeaf, TreeGoSmall, FleetGoAsked, ShelfGoSmall, FleetGoExport, as one text. -/
import Derived.Test.YtkjlchfmplcobaeGreatDoorRunAC
import Derived.Maps.OwnSet
/- Segments as rows of a call's own; parts of lists. -/
namespace Go.Proofs.YtkjlchfmplcobaeGreatDoor
open Go.RowKit

theorem Tryz.info104b : (Tryz.prog.info? 104).map (fun i => (i.zero, i.size, i.bytes)) = some (some (.agg #[.int .i64 0, .int .i64 0, .slice none 0 0]), 3, 40) := by kernel_rfl
theorem Lists.part {w : World} {b off n c i m : Nat} {L : List (List Int)} (h : Lists w (some ⟨b, off, none⟩) n c L) (hi : i + m ≤ n) (hm : 1 ≤ m) : Lists w (some ⟨b, off + i, none⟩) m (c - i) ((L.drop i).take m) := by
 have hl := h.len
 have hr := h.room
 have hc := h.cap
 have hd := h.at'.drop (k := i) hl (by omega) (by omega) (c - i)
 refine ⟨by rw [List.length_take, List.length_drop]; omega, hd.take (by rw [List.length_drop]; omega) (by omega) (by omega) _, by omega, by omega, fun e => (by cases e), ?_, ?_⟩
 ·refine take_bytes (fun j => ?_) m
  rw [List.getD_eq_getElem?_getD, List.getElem?_drop, ← List.getD_eq_getElem?_getD]; exact h.bytes _
 ·refine take_short (fun j => ?_) m
  rw [List.getD_eq_getElem?_getD, List.getElem?_drop, ← List.getD_eq_getElem?_getD]; exact h.short _
theorem own3_below {w w' : World} {base : Nat} {e : TypeId} {v : Value} {n N : Nat} {xs : List Value} (h : w.ownsRow base e 3 v n xs) (hb : Below N w w') (hN : w.heap.size ≤ N) : w'.ownsRow base e 3 v n xs :=
 h.kept (w' := w') (row := none) ⟨hb.os, hb.tape, hb.output, hb.size, fun k hk _ => hb.block k (Nat.lt_of_lt_of_le hk hN)⟩ (by cases v.ownBlock <;> simp)
theorem own_ne3 {w : World} {base b2 : Nat} {e1 e2 : TypeId} {v1 v2 : Value} {n1 n2 : Nat} {xs1 xs2 : List Value} (h1 : w.ownsRow base e1 1 v1 n1 xs1) (h2 : w.ownsRow b2 e2 3 v2 n2 xs2) (hne : e1 ≠ e2) : Sep v1 v2 := fun g hg1 hg2 => by
 rcases h1.2 with ⟨rfl, -⟩ | ⟨g1, c1, cur1, rfl, -, hh1, -⟩
 ·cases hg1
 rcases h2.2 with ⟨rfl, -⟩ | ⟨g2, c2, cur2, rfl, -, hh2, -⟩
 ·cases hg2
 cases hg1
 cases hg2
 rw [hh1] at hh2
 cases hh2
 exact hne rfl
/-- The values of segments, each with bytes of the call's own. -/
def SegEls (w : World) (base : Nat) (vs : List Value) (l : List Seg) : Prop :=
 vs.length = l.length * 3 ∧ ∀ j, j < l.length → vs[j * 3]? = some (.int .i64 (l.getD j seg0).first) ∧ vs[j * 3 + 1]? = some (.int .i64 (l.getD j seg0).count) ∧
  ∃ y, vs[j * 3 + 2]? = some y ∧ w.ownsRow base 5 1 y (l.getD j seg0).packed.length ((l.getD j seg0).packed.map (Value.int .u8))
theorem SegEls.kept {w w' : World} {base b2 : Nat} {vs : List Value} {l : List Seg} {v : Value} {n : Nat} {xs : List Value} (h : SegEls w base vs l) (hr : w.ownsRow b2 104 3 v n xs) (hg : w.grownBy w' v.ownBlock) : SegEls w' base vs l :=
 ⟨h.1, fun j hj => by
  obtain ⟨h0, h1, y, h2, h3⟩ := h.2 j hj
  exact ⟨h0, h1, y, h2, h3.kept hg (own_ne3 h3 hr (by decide)).or⟩⟩
theorem SegEls.alloc {w : World} {base : Nat} {vs : List Value} {l : List Seg} (h : SegEls w base vs l) (o : Obj) : SegEls (w.alloc o) base vs l :=
 ⟨h.1, fun j hj => by
  obtain ⟨h0, h1, y, h2, h3⟩ := h.2 j hj
  exact ⟨h0, h1, y, h2, h3.alloc o⟩⟩
theorem SegEls.below {w w' : World} {base N : Nat} {vs : List Value} {l : List Seg} (h : SegEls w base vs l) (hb : Below N w w') (hN : w.heap.size ≤ N) : SegEls w' base vs l :=
 ⟨h.1, fun j hj => by
  obtain ⟨h0, h1, y, h2, h3⟩ := h.2 j hj
  exact ⟨h0, h1, y, h2, own_below h3 hb hN⟩⟩
theorem SegEls.snoc {w : World} {base : Nat} {vs : List Value} {l : List Seg} {s : Seg} {y : Value} (h : SegEls w base vs l) (hy : w.ownsRow base 5 1 y s.packed.length (s.packed.map (Value.int .u8))) : SegEls w base (vs ++ [.int .i64 s.first, .int .i64 s.count, y]) (l ++ [s]) := by
 obtain ⟨hl, h⟩ := h
 refine ⟨by simp; omega, fun j hj => ?_⟩
 by_cases e : j < l.length
 ·obtain ⟨h0, h1, z, h2, h3⟩ := h j e
  have eg : (l ++ [s]).getD j seg0 = l.getD j seg0 := by rw [List.getD_eq_getElem?_getD, List.getElem?_append_left e, ← List.getD_eq_getElem?_getD]
  rw [eg, List.getElem?_append_left (by omega), List.getElem?_append_left (by omega), List.getElem?_append_left (by omega)]
  exact ⟨h0, h1, z, h2, h3⟩
 ·obtain rfl : j = l.length := by simp at hj; omega
  have eg : (l ++ [s]).getD l.length seg0 = s := by rw [List.getD_eq_getElem?_getD, List.getElem?_append_right (Nat.le_refl _), Nat.sub_self]; rfl
  rw [eg, List.getElem?_append_right (by omega), List.getElem?_append_right (by omega), List.getElem?_append_right (by omega), hl, Nat.sub_self, show l.length * 3 + 1 - l.length * 3 = 1 by omega, show l.length * 3 + 2 - l.length * 3 = 2 by omega]
  exact ⟨rfl, rfl, y, rfl, hy⟩
theorem segEls_nil (w : World) (base : Nat) : SegEls w base [] [] := ⟨rfl, fun _ hj => absurd hj (Nat.not_lt_zero _)⟩
/-- Segments, all of them the call's own. -/
def OwnSegs (w : World) (base : Nat) (v : Value) (l : List Seg) : Prop := ∃ vs, w.ownsRow base 104 3 v l.length vs ∧ SegEls w base vs l
theorem OwnSegs.below {w w' : World} {base N : Nat} {v : Value} {l : List Seg} (h : OwnSegs w base v l) (hb : Below N w w') (hN : w.heap.size ≤ N) : OwnSegs w' base v l := by
 obtain ⟨vs, h1, h2⟩ := h
 exact ⟨vs, own3_below h1 hb hN, h2.below hb hN⟩
theorem OwnSegs.set {w : World} {base k o : Nat} {v : Value} {l : List Seg} (h : OwnSegs w base v l) (hk : k < base) (u : Value) : OwnSegs (w.setCell ⟨k, o, none⟩ u) base v l := by
 obtain ⟨vs, h1, h2, h3⟩ := h
 refine ⟨vs, ownsRow_setCell_below h1 (a := ⟨k, o, none⟩) hk u, h2, fun j hj => ?_⟩
 obtain ⟨g0, g1, y, g2, g3⟩ := h3 j hj
 exact ⟨g0, g1, y, g2, ownsRow_setCell_below g3 (a := ⟨k, o, none⟩) hk u⟩
theorem OwnSegs.segs {w : World} {base : Nat} {v : Value} {l : List Seg} (h : OwnSegs w base v l) (hby : SegsBytes l) : SegsAt w v l := by
 obtain ⟨vs, h1, -, h2⟩ := h
 rcases h1.2 with ⟨hv, hn⟩ | ⟨g, cap, cur, rfl, -, hg, h3, h4, -⟩
 ·exact ⟨none, 0, by rw [hv, hn], by omega, Nat.zero_le _, fun _ => rfl, .inl hn⟩
 ·refine ⟨_, cap, rfl, h3, h4, (fun e => by cases e), .inr ⟨g, 0, rfl, lt_heap hg, fun j hj => ?_⟩⟩
  obtain ⟨g0, g1, y, g2, g3⟩ := h2 j hj
  rw [Nat.zero_add]
  refine ⟨(h1.cellAt (j * 3) (by omega)).trans g0, (h1.cellAt (j * 3 + 1) (by omega)).trans g1, ?_⟩
  obtain ⟨pa, pc, rfl, q1, q2⟩ := own_cap g3
  exact ⟨pa, pc, (h1.cellAt (j * 3 + 2) (by omega)).trans g2, ⟨bytesAt_own g3, hby j, by omega⟩, q1, q2⟩
/-- Each segment's bytes lie in a later block than those of the one ahead. -/
def RiseV (vs : List Value) (m : Nat) : Prop := ∀ i j, i < j → j < m → ∀ y z g h, vs[i * 3 + 2]? = some y → vs[j * 3 + 2]? = some z → y.ownBlock = some g → z.ownBlock = some h → g < h
theorem riseV_nil : RiseV [] 0 := fun _ _ _ h => absurd h (Nat.not_lt_zero _)
theorem RiseV.snoc {w : World} {base m : Nat} {vs : List Value} {l : List Seg} {a b y : Value} (h : RiseV vs m) (he : SegEls w base vs l) (hm : l.length = m) (hy : ∀ g, y.ownBlock = some g → w.heap.size ≤ g) : RiseV (vs ++ [a, b, y]) (m + 1) := fun i j hij hj u z g q hu hz hg hq => by
 have hl : vs.length = m * 3 := by rw [← hm]; exact he.1
 rw [List.getElem?_append_left (by omega)] at hu
 by_cases e : j < m
 ·rw [List.getElem?_append_left (by omega)] at hz
  exact h i j hij e u z g q hu hz hg hq
 ·obtain rfl : j = m := by omega
  rw [List.getElem?_append_right (by omega), hl, show j * 3 + 2 - j * 3 = 2 by omega] at hz
  cases hz
  obtain ⟨-, -, x, h1, h2⟩ := he.2 i (by omega)
  rw [hu] at h1
  cases h1
  have := (h2.lt g hg).2
  have := hy q hq
  omega
theorem lit_seg (w : World) (x y : Int) (pv : Value) (t : TypeId) : ∀ (j : Nat) (u : Value), [Value.int .i64 x, .int .i64 y, pv][j]? = some u → (w.alloc (.cells #[.int .i64 x, .int .i64 y, pv] t)).cell? ((⟨w.heap.size, 0, none⟩ : Addr).add j) = some u := fun j u hj => by
 have hadd : (⟨w.heap.size, 0, none⟩ : Addr).add j = ⟨w.heap.size, 0 + j, none⟩ := Addr.add_mid _ _ _
 rw [hadd, Nat.zero_add]
 match j, hj with
 | 0, hj => rw [new_cell w t _ 0 (by simp)]; simpa using hj
 | 1, hj => rw [new_cell w t _ 1 (by simp)]; simpa using hj
 | 2, hj => rw [new_cell w t _ 2 (by simp)]; simpa using hj
 | j + 3, hj => simp at hj
theorem segK_bytes {L : List (List Int)} (hb : ∀ j, Bytes (L.getD j [])) (h : ∀ e ∈ L, e.length ≤ 200) (k : Nat) : Bytes (segK L k).packed := by
 refine pack_bytes ?_ (lay_part h k)
 refine bytes_of_mem (fun x hx => ?_)
 unfold layL at hx
 obtain ⟨e, he, hx⟩ := List.mem_flatMap.1 hx
 have h200 := short_part h k e he
 rcases List.mem_cons.1 hx with rfl | hx
 ·omega
 ·obtain ⟨j, hj, rfl⟩ := List.mem_iff_getElem.1 (List.mem_of_mem_drop (List.mem_of_mem_take he))
  have := hb j
  rw [List.getD_eq_getElem?_getD, List.getElem?_eq_getElem hj] at this
  exact bytes_forall this x hx
theorem segsL_bytes {L : List (List Int)} (hb : ∀ j, Bytes (L.getD j [])) (h : ∀ e ∈ L, e.length ≤ 200) : SegsBytes (segsL L) := fun j => by
 by_cases hj : j < (L.length + 7) / 8
 ·unfold segsL; rw [segsN_get _ _ _ hj]; exact segK_bytes hb h j
 ·rw [List.getD_eq_getElem?_getD, List.getElem?_eq_none (by unfold segsL; rw [segsN_length]; omega)]; exact nil_bytes
/-- The text of a part. -/
theorem lay_bytes {l : List (List Int)} (hb : ∀ j, Bytes (l.getD j [])) (h : ∀ j, (l.getD j []).length ≤ 200) : Bytes (layL l) := by
 refine bytes_of_mem (fun x hx => ?_)
 unfold layL at hx
 obtain ⟨e, he, hx⟩ := List.mem_flatMap.1 hx
 obtain ⟨j, hj, rfl⟩ := List.mem_iff_getElem.1 he
 have h1 := hb j
 have h2 := h j
 rw [List.getD_eq_getElem?_getD, List.getElem?_eq_getElem hj] at h1 h2
 rcases List.mem_cons.1 hx with rfl | hx
 ·simp at h2; omega
 ·exact bytes_forall h1 x hx

end Go.Proofs.YtkjlchfmplcobaeGreatDoor

/- A fleet that goes on, in memory: what each block of it is for. Nothing of the program's functions is in it. -/
namespace Go.Proofs.YtkjlchfmplcobaeGreatDoor
open Go.RowKit

theorem five_free {w : World} {k : Nat} {a b c d e : Value} {t : TypeId} (h : w.heap[k]? = some (.cells #[a, b, c, d, e] t (0, 0))) : w.frozen? ⟨k, 0, none⟩ = false ∧ w.frozen? ⟨k, 1, none⟩ = false ∧ w.frozen? ⟨k, 2, none⟩ = false ∧ w.frozen? ⟨k, 3, none⟩ = false ∧ w.frozen? ⟨k, 4, none⟩ = false :=
 ⟨frozen_of_row w k 0 _ t h, frozen_of_row w k 1 _ t h, frozen_of_row w k 2 _ t h, frozen_of_row w k 3 _ t h, frozen_of_row w k 4 _ t h⟩
/-- What a block is for. -/
abbrev Tag := Nat × Nat × Nat
def tNo : Tag := (0, 0, 0)
def tFix : Tag := (1, 0, 0)
def tSh : Tag := (2, 0, 0)
def tFl : Tag := (3, 0, 0)
def tBk : Tag := (4, 0, 0)
def tAn : Tag := (5, 0, 0)
def tEnt (k : Nat) : Tag := (6, k, 0)
def tSeg (k : Nat) : Tag := (7, k, 0)
def tPk (k j : Nat) : Tag := (8, k, j)
/-- From n on all blocks are for t. -/
def ext (τ : Nat → Tag) (n : Nat) (t : Tag) : Nat → Tag := fun b => if b < n then τ b else t
theorem ext_old {τ : Nat → Tag} {n b : Nat} {t : Tag} (h : b < n) : ext τ n t b = τ b := if_pos h
theorem ext_new {τ : Nat → Tag} {n b : Nat} {t : Tag} (h : n ≤ b) : ext τ n t b = t := if_neg (by omega)
/-- A value's block is there, and is for t. -/
def Tg (τ : Nat → Tag) (w : World) (t : Tag) (v : Value) : Prop := ∀ b, v.ownBlock = some b → b < w.heap.size ∧ τ b = t
/-- But for one block all is as it was; and what blocks were for stays. -/
structure Upd (τ τ' : Nat → Tag) (w w' : World) (row : Option Nat) : Prop where
 grow : w.grownBy w' row
 same : ∀ b, b < w.heap.size → τ' b = τ b
theorem grown_below {w w' : World} (h : Below w.heap.size w w') : w.grownBy w' none := ⟨h.os, h.tape, h.output, h.size, fun k hk _ => h.block k hk⟩
theorem grown_set (w : World) (k o : Nat) (u : Value) : w.grownBy (w.setCell ⟨k, o, none⟩ u) (some k) := ⟨rfl, rfl, rfl, by simp, fun j _ hj => heap_setCell_other w ⟨k, o, none⟩ j u (fun e => hj (by simp [e]))⟩
theorem Upd.refl (τ : Nat → Tag) (w : World) (row : Option Nat) : Upd τ τ w w row := ⟨World.grownBy.refl _ _, fun _ _ => rfl⟩
theorem upd_call {τ : Nat → Tag} {w w' : World} (h : Below w.heap.size w w') (t : Tag) : Upd τ (ext τ w.heap.size t) w w' none := ⟨grown_below h, fun _ hb => ext_old hb⟩
theorem upd_same {τ : Nat → Tag} {w w' : World} (h : Below w.heap.size w w') : Upd τ τ w w' none := ⟨grown_below h, fun _ _ => rfl⟩
theorem upd_set (τ : Nat → Tag) (w : World) (k o : Nat) (u : Value) : Upd τ τ w (w.setCell ⟨k, o, none⟩ u) (some k) := ⟨grown_set w k o u, fun _ _ => rfl⟩
theorem Tg.upd {τ τ' : Nat → Tag} {w w' : World} {t : Tag} {v : Value} {row : Option Nat} (h : Tg τ w t v) (u : Upd τ τ' w w' row) : Tg τ' w' t v := fun b hb => by
 obtain ⟨h1, h2⟩ := h b hb
 exact ⟨Nat.lt_of_lt_of_le h1 u.grow.size, (u.same b h1).trans h2⟩
theorem Tg.off {τ : Nat → Tag} {w : World} {t : Tag} {v : Value} {row : Option Nat} (h : Tg τ w t v) (hne : ∀ b, row = some b → τ b ≠ t) : v.ownBlock = none ∨ v.ownBlock ≠ row := by
 cases e : v.ownBlock with
 | none => exact .inl rfl
 | some g => exact .inr (fun h' => hne g h'.symm (h g e).2)
theorem tg_nil (τ : Nat → Tag) (w : World) (t : Tag) (n c : Nat) : Tg τ w t (.slice none n c) := fun b hb => by cases hb
theorem Some'.grown {w w' : World} {v : Value} {d : List Int} {row : Option Nat} (h : Some' w v d) (g : w.grownBy w' row) (hne : v.ownBlock = none ∨ v.ownBlock ≠ row) : Some' w' v d := by
 refine ⟨?_, h.bytes, h.short⟩
 rcases h.at' with h1 | ⟨b, off, cp, h1, h2, h3⟩
 ·exact .inl h1
 ·refine .inr ⟨b, off, cp, h1, Nat.lt_of_lt_of_le h2 g.size, fun j hj => ?_⟩
  rw [World.cell?_of_block (a := ⟨b, off + j, none⟩) (g.block b h2 (by subst h1; simpa [Value.ownBlock] using hne))]
  exact h3 j hj
/-- Bytes that nobody writes any more. -/
structure ByM (τ : Nat → Tag) (w : World) (v : Value) (d : List Int) : Prop where
 here : Some' w v d
 tag : Tg τ w tFix v
theorem ByM.upd {τ τ' : Nat → Tag} {w w' : World} {v : Value} {d : List Int} {row : Option Nat} (h : ByM τ w v d) (u : Upd τ τ' w w' row) (hf : ∀ b, row = some b → τ b ≠ tFix) : ByM τ' w' v d := ⟨h.here.grown u.grow (h.tag.off hf), h.tag.upd u⟩
theorem byM_nil (τ : Nat → Tag) (w : World) : ByM τ w (.slice none 0 0) [] := ⟨some_nil w, tg_nil _ _ _ _ _⟩
theorem own_small {w : World} {base : Nat} {e : TypeId} {size : Nat} {v : Value} {n : Nat} {xs : List Value} (h : w.ownsRow base e size v n xs) : n ≤ maxLen := by
 rcases h.2 with ⟨-, rfl⟩ | ⟨g, cap, cur, -, -, -, h1, h2, -⟩
 ·exact Nat.zero_le _
 ·exact Nat.le_trans h1 h2
theorem byM_own {τ : Nat → Tag} {w w' : World} {v : Value} {d : List Int} {n : Nat} (h : w'.ownsRow w.heap.size 5 1 v n (d.map (Value.int .u8))) (hb : Bytes d) : ByM (ext τ w.heap.size tFix) w' v d := by
 have hl : d.length = n := by simpa using h.1
 refine ⟨⟨bytesAt_own h, hb, by rw [hl]; exact own_small h⟩, fun b hv => ?_⟩
 obtain ⟨h1, h2⟩ := h.lt b hv
 exact ⟨h2, ext_new h1⟩
/-- A shard's entries. -/
def EntM (τ : Nat → Tag) (N : Nat) (w : World) (k : Nat) (v : Value) (es : List (List Int)) : Prop :=
 Tg τ w (tEnt k) v ∧ ∃ xs, w.ownsRow N 37 1 v es.length xs ∧ ∀ j, j < es.length → ∃ y, xs[j]? = some y ∧ ByM τ w y (es.getD j [])
theorem EntM.upd {τ τ' : Nat → Tag} {N : Nat} {w w' : World} {k : Nat} {v : Value} {es : List (List Int)} {row : Option Nat} (h : EntM τ N w k v es) (u : Upd τ τ' w w' row) (hf : ∀ b, row = some b → τ b ≠ tFix) (he : ∀ b, row = some b → τ b ≠ tEnt k) : EntM τ' N w' k v es := by
 obtain ⟨h1, xs, h2, h3⟩ := h
 refine ⟨h1.upd u, xs, h2.kept u.grow (h1.off he), fun j hj => ?_⟩
 obtain ⟨y, h4, h5⟩ := h3 j hj
 exact ⟨y, h4, h5.upd u hf⟩
theorem entM_nil (τ : Nat → Tag) (N : Nat) (w : World) (k : Nat) : EntM τ N w k (.slice none 0 0) [] := ⟨tg_nil _ _ _ _ _, [], World.ownsRow_nil _ _ _ _, fun _ hj => absurd hj (Nat.not_lt_zero _)⟩
theorem EntM.form {τ : Nat → Tag} {N : Nat} {w : World} {k : Nat} {v : Value} {es : List (List Int)} (h : EntM τ N w k v es) : ∃ a c, v = .slice a es.length c := by
 obtain ⟨-, xs, h2, -⟩ := h
 exact own_form' h2
theorem EntM.lists {τ : Nat → Tag} {N : Nat} {w : World} {k : Nat} {a : Option Addr} {n c : Nat} {es : List (List Int)} (h : EntM τ N w k (.slice a n c) es) (hn : es.length = n) : Lists w a n c es := by
 obtain ⟨-, xs, h2, h3⟩ := h
 rw [hn] at h2 h3
 obtain ⟨a', c', e, hc1, hc2⟩ := own_cap h2
 cases e
 refine ⟨hn, ?_, hc1, hc2, own_nil h2, fun j => ?_, fun j => ?_⟩
 ·refine parts_of_row h2 hn (fun j hj => ?_)
  obtain ⟨y, h4, h5⟩ := h3 j hj
  obtain ⟨ya, yc, rfl⟩ := h5.here.at'.form
  exact ⟨ya, _, yc, h4, h5.here.at'⟩
 ·by_cases hj : j < n
  ·obtain ⟨y, -, h5⟩ := h3 j hj; exact h5.here.bytes
  ·rw [List.getD_eq_getElem?_getD, List.getElem?_eq_none (by omega)]; exact nil_bytes
 ·by_cases hj : j < n
  ·obtain ⟨y, -, h5⟩ := h3 j hj; exact h5.here.short
  ·rw [List.getD_eq_getElem?_getD, List.getElem?_eq_none (by omega)]; exact Nat.zero_le _
/-- A segment's bytes. -/
def PkM (τ : Nat → Tag) (N : Nat) (w : World) (k j : Nat) (v : Value) (d : List Int) : Prop := Tg τ w (tPk k j) v ∧ w.ownsRow N 5 1 v d.length (d.map (Value.int .u8)) ∧ Bytes d
/-- A shard's segments. -/
def SegM (τ : Nat → Tag) (N : Nat) (w : World) (k : Nat) (v : Value) (l : List Seg) : Prop :=
 Tg τ w (tSeg k) v ∧ ∃ vs, w.ownsRow N 104 3 v l.length vs ∧ ∀ j, j < l.length → ∃ y, vs[j * 3]? = some (.int .i64 (l.getD j seg0).first) ∧ vs[j * 3 + 1]? = some (.int .i64 (l.getD j seg0).count) ∧ vs[j * 3 + 2]? = some y ∧ PkM τ N w k j y (l.getD j seg0).packed
theorem PkM.upd {τ τ' : Nat → Tag} {N : Nat} {w w' : World} {k j : Nat} {v : Value} {d : List Int} {row : Option Nat} (h : PkM τ N w k j v d) (u : Upd τ τ' w w' row) (hp : ∀ b, row = some b → τ b ≠ tPk k j) : PkM τ' N w' k j v d := ⟨h.1.upd u, h.2.1.kept u.grow (h.1.off hp), h.2.2⟩
theorem SegM.upd {τ τ' : Nat → Tag} {N : Nat} {w w' : World} {k : Nat} {v : Value} {l : List Seg} {row : Option Nat} (h : SegM τ N w k v l) (u : Upd τ τ' w w' row) (hs : ∀ b, row = some b → τ b ≠ tSeg k) (hp : ∀ j b, row = some b → τ b ≠ tPk k j) : SegM τ' N w' k v l := by
 obtain ⟨h1, vs, h2, h3⟩ := h
 refine ⟨h1.upd u, vs, h2.kept u.grow (h1.off hs), fun j hj => ?_⟩
 obtain ⟨y, h4, h5, h6, h7⟩ := h3 j hj
 exact ⟨y, h4, h5, h6, h7.upd u (hp j)⟩
theorem segM_nil (τ : Nat → Tag) (N : Nat) (w : World) (k : Nat) : SegM τ N w k (.slice none 0 0) [] := ⟨tg_nil _ _ _ _ _, [], World.ownsRow_nil _ _ _ _, fun _ hj => absurd hj (Nat.not_lt_zero _)⟩
theorem SegM.segs {τ : Nat → Tag} {N : Nat} {w : World} {k : Nat} {v : Value} {l : List Seg} (h : SegM τ N w k v l) : SegsAt w v l := by
 obtain ⟨-, vs, h1, h2⟩ := h
 rcases h1.2 with ⟨hv, hn⟩ | ⟨g, cap, cur, rfl, -, hg, h3, h4, -⟩
 ·exact ⟨none, 0, by rw [hv, hn], by omega, Nat.zero_le _, fun _ => rfl, .inl hn⟩
 ·refine ⟨_, cap, rfl, h3, h4, (fun e => by cases e), .inr ⟨g, 0, rfl, lt_heap hg, fun j hj => ?_⟩⟩
  obtain ⟨y, g0, g1, g2, -, g3, g4⟩ := h2 j hj
  rw [Nat.zero_add]
  refine ⟨(h1.cellAt (j * 3) (by omega)).trans g0, (h1.cellAt (j * 3 + 1) (by omega)).trans g1, ?_⟩
  obtain ⟨pa, pc, rfl, q1, q2⟩ := own_cap g3
  exact ⟨pa, pc, (h1.cellAt (j * 3 + 2) (by omega)).trans g2, ⟨bytesAt_own g3, g4, by omega⟩, q1, q2⟩
theorem SegM.form {τ : Nat → Tag} {N : Nat} {w : World} {k : Nat} {v : Value} {l : List Seg} (h : SegM τ N w k v l) : ∃ a c, v = .slice a l.length c := by
 obtain ⟨a, c, e, -⟩ := h.segs
 exact ⟨a, c, e⟩
/-- A shard's cells. -/
abbrev ShV := Value × Value × Value
def shdV (s : Shd) (v : ShV) : List Value := [.int .i64 s.from', .int .i64 s.to', .int .i64 s.state, v.1, .int .i64 s.man.size, v.2.1, v.2.2]
/-- The shards. -/
structure ShM (τ : Nat → Tag) (N : Nat) (w : World) (sv : Value) (ss : List Shd) (V : Nat → ShV) : Prop where
 tag : Tg τ w tSh sv
 row : ∃ vs, w.ownsRow N 65 7 sv ss.length vs ∧ ∀ k, k < ss.length → ∀ i, i < 7 → vs[k * 7 + i]? = (shdV (ss.getD k shd0) (V k))[i]?
 ent : ∀ k, k < ss.length → EntM τ N w k (V k).1 (ss.getD k shd0).entries
 root : ∀ k, k < ss.length → ByM τ w (V k).2.1 (ss.getD k shd0).man.root
 seg : ∀ k, k < ss.length → SegM τ N w k (V k).2.2 (ss.getD k shd0).man.segs
theorem ShM.upd {τ τ' : Nat → Tag} {N : Nat} {w w' : World} {sv : Value} {ss : List Shd} {V : Nat → ShV} {row : Option Nat} (h : ShM τ N w sv ss V) (u : Upd τ τ' w w' row) (hr : ∀ b, row = some b → τ b = tNo ∨ τ b = tFl ∨ τ b = tBk ∨ τ b = tAn) : ShM τ' N w' sv ss V := by
 have ne : ∀ t : Tag, t ≠ tNo → t ≠ tFl → t ≠ tBk → t ≠ tAn → ∀ b, row = some b → τ b ≠ t := fun t h1 h2 h3 h4 b hb e => by
  rcases hr b hb with g | g | g | g
  ·exact h1 (e.symm.trans g)
  ·exact h2 (e.symm.trans g)
  ·exact h3 (e.symm.trans g)
  ·exact h4 (e.symm.trans g)
 have n1 := ne tFix (by decide) (by decide) (by decide) (by decide)
 have n2 := ne tSh (by decide) (by decide) (by decide) (by decide)
 have n3 := fun k => ne (tEnt k) (by simp [tEnt, tNo]) (by simp [tEnt, tFl]) (by simp [tEnt, tBk]) (by simp [tEnt, tAn])
 have n4 := fun k => ne (tSeg k) (by simp [tSeg, tNo]) (by simp [tSeg, tFl]) (by simp [tSeg, tBk]) (by simp [tSeg, tAn])
 have n5 := fun k j => ne (tPk k j) (by simp [tPk, tNo]) (by simp [tPk, tFl]) (by simp [tPk, tBk]) (by simp [tPk, tAn])
 obtain ⟨vs, h1, h2⟩ := h.row
 exact ⟨h.tag.upd u, ⟨vs, h1.kept u.grow (h.tag.off n2), h2⟩, fun k hk => (h.ent k hk).upd u n1 (n3 k), fun k hk => (h.root k hk).upd u n1, fun k hk => (h.seg k hk).upd u (n4 k) (n5 k)⟩
theorem ShM.shards {τ : Nat → Tag} {N : Nat} {w : World} {sv : Value} {ss : List Shd} {V : Nat → ShV} (h : ShM τ N w sv ss V) : ShdsAt w sv ss := by
 obtain ⟨vs, h1, h2⟩ := h.row
 rcases h1.2 with ⟨hv, hn⟩ | ⟨g, cap, cur, rfl, -, hg, h3, h4, -⟩
 ·exact ⟨none, 0, by rw [hv, hn], by omega, Nat.zero_le _, fun _ => rfl, .inl hn⟩
 ·refine ⟨_, cap, rfl, h3, h4, (fun e => by cases e), .inr ⟨g, 0, rfl, lt_heap hg, fun k hk => ?_⟩⟩
  have hc : ∀ i, i < 7 → w.cell? ⟨g, 0 + k * 7 + i, none⟩ = (shdV (ss.getD k shd0) (V k))[i]? := fun i hi => by rw [Nat.zero_add]; exact (h1.cellAt (k * 7 + i) (by omega)).trans (h2 k hk i hi)
  have hE := h.ent k hk
  obtain ⟨ea, ec, e1⟩ := hE.form
  obtain ⟨ra, rc, e2⟩ := (h.root k hk).here.at'.form
  obtain ⟨ga, gc, e3⟩ := (h.seg k hk).form
  rw [e1] at hE
  refine ⟨hc 0 (by omega), hc 1 (by omega), hc 2 (by omega), ⟨ea, ec, ?_, hE.lists rfl⟩, hc 4 (by omega), ⟨ra, rc, ?_, by rw [← e2]; exact (h.root k hk).here⟩, ⟨ga, gc, ?_, by rw [← e3]; exact (h.seg k hk).segs⟩⟩
  ·rw [hc 3 (by omega), ← e1]; rfl
  ·rw [hc 5 (by omega), ← e2]; rfl
  ·rw [hc 6 (by omega), ← e3]; rfl
/-- A record's cells. -/
def recCs (r : Rec) (v : Value) : List Value := [.int .i64 r.shard, .int .i64 r.from', .int .i64 r.to', .int .i64 r.size, v]
/-- The book. -/
def BkM (τ : Nat → Tag) (N : Nat) (w : World) (bv : Value) (l : List Rec) : Prop :=
 Tg τ w tBk bv ∧ ∃ ys, w.ownsRow N 45 5 bv l.length ys ∧ ∀ j, j < l.length → ∃ rv, (∀ i, i < 5 → ys[j * 5 + i]? = (recCs (l.getD j rec0) rv)[i]?) ∧ ByM τ w rv (l.getD j rec0).root
theorem BkM.upd {τ τ' : Nat → Tag} {N : Nat} {w w' : World} {bv : Value} {l : List Rec} {row : Option Nat} (h : BkM τ N w bv l) (u : Upd τ τ' w w' row) (hf : ∀ b, row = some b → τ b ≠ tFix) (hb : ∀ b, row = some b → τ b ≠ tBk) : BkM τ' N w' bv l := by
 obtain ⟨h1, ys, h2, h3⟩ := h
 refine ⟨h1.upd u, ys, h2.kept u.grow (h1.off hb), fun j hj => ?_⟩
 obtain ⟨rv, h4, h5⟩ := h3 j hj
 exact ⟨rv, h4, h5.upd u hf⟩
theorem bkM_nil (τ : Nat → Tag) (N : Nat) (w : World) : BkM τ N w (.slice none 0 0) [] := ⟨tg_nil _ _ _ _ _, [], World.ownsRow_nil _ _ _ _, fun _ hj => absurd hj (Nat.not_lt_zero _)⟩
theorem BkM.recs {τ : Nat → Tag} {N : Nat} {w : World} {bv : Value} {l : List Rec} (h : BkM τ N w bv l) : RecsAt w bv l := by
 obtain ⟨-, ys, h1, h2⟩ := h
 rcases h1.2 with ⟨hv, hn⟩ | ⟨g, cap, cur, rfl, -, hg, h3, h4, -⟩
 ·exact ⟨none, 0, by rw [hv, hn], by omega, Nat.zero_le _, fun _ => rfl, .inl hn⟩
 ·refine ⟨_, cap, rfl, h3, h4, (fun e => by cases e), .inr ⟨g, 0, rfl, lt_heap hg, fun k hk => ?_⟩⟩
  obtain ⟨rv, h5, h6⟩ := h2 k hk
  have hc : ∀ i, i < 5 → w.cell? ⟨g, 0 + k * 5 + i, none⟩ = (recCs (l.getD k rec0) rv)[i]? := fun i hi => by rw [Nat.zero_add]; exact (h1.cellAt (k * 5 + i) (by omega)).trans (h5 i hi)
  obtain ⟨ra, rc, e2⟩ := h6.here.at'.form
  subst e2
  exact ⟨hc 0 (by omega), hc 1 (by omega), hc 2 (by omega), hc 3 (by omega), ra, rc, hc 4 (by omega), h6.here⟩
/-- The answers. -/
def ansV (x : Ans) (v : Value) : List Value := [.int .i64 x.err, .int .i64 x.shard, .int .i64 x.place, .int .i64 x.size, v]
def AnM (τ : Nat → Tag) (N : Nat) (w : World) (av : Value) (l : List Ans) : Prop :=
 Tg τ w tAn av ∧ ∃ ys, w.ownsRow N 41 5 av l.length ys ∧ ∀ j, j < l.length → ∃ rv, (∀ i, i < 5 → ys[j * 5 + i]? = (ansV (l.getD j ans0) rv)[i]?) ∧ ByM τ w rv (l.getD j ans0).root
theorem AnM.upd {τ τ' : Nat → Tag} {N : Nat} {w w' : World} {bv : Value} {l : List Ans} {row : Option Nat} (h : AnM τ N w bv l) (u : Upd τ τ' w w' row) (hf : ∀ b, row = some b → τ b ≠ tFix) (hb : ∀ b, row = some b → τ b ≠ tAn) : AnM τ' N w' bv l := by
 obtain ⟨h1, ys, h2, h3⟩ := h
 refine ⟨h1.upd u, ys, h2.kept u.grow (h1.off hb), fun j hj => ?_⟩
 obtain ⟨rv, h4, h5⟩ := h3 j hj
 exact ⟨rv, h4, h5.upd u hf⟩
theorem AnM.anss {τ : Nat → Tag} {N : Nat} {w : World} {bv : Value} {l : List Ans} (h : AnM τ N w bv l) : AnssAt w bv l := by
 obtain ⟨-, ys, h1, h2⟩ := h
 rcases h1.2 with ⟨hv, hn⟩ | ⟨g, cap, cur, rfl, -, hg, h3, h4, -⟩
 ·exact ⟨none, 0, by rw [hv, hn], by omega, Nat.zero_le _, fun _ => rfl, .inl hn⟩
 ·refine ⟨_, cap, rfl, h3, h4, (fun e => by cases e), .inr ⟨g, 0, rfl, lt_heap hg, fun k hk => ?_⟩⟩
  obtain ⟨rv, h5, h6⟩ := h2 k hk
  have hc : ∀ i, i < 5 → w.cell? ⟨g, 0 + k * 5 + i, none⟩ = (ansV (l.getD k ans0) rv)[i]? := fun i hi => by rw [Nat.zero_add]; exact (h1.cellAt (k * 5 + i) (by omega)).trans (h5 i hi)
  obtain ⟨ra, rc, e2⟩ := h6.here.at'.form
  subst e2
  exact ⟨hc 0 (by omega), hc 1 (by omega), hc 2 (by omega), hc 3 (by omega), ra, rc, hc 4 (by omega), h6.here⟩
/-- An answer by itself. -/
def AnV (τ : Nat → Tag) (w : World) (v : Value) (x : Ans) : Prop := ∃ rv, v = .agg #[.int .i64 x.err, .int .i64 x.shard, .int .i64 x.place, .int .i64 x.size, rv] ∧ ByM τ w rv x.root
/-- The fleet. -/
structure GoF (τ : Nat → Tag) (N : Nat) (w : World) (gp : Nat) (f : Flt) : Prop where
 low : N ≤ gp
 tag : τ gp = tFl
 parts : ∃ sv bv V, w.heap[gp]? = some (.cells #[sv, bv] 59 (0, 0)) ∧ ShM τ N w sv f.shards V ∧ BkM τ N w bv f.book
theorem GoF.upd {τ τ' : Nat → Tag} {N : Nat} {w w' : World} {gp : Nat} {f : Flt} {row : Option Nat} (h : GoF τ N w gp f) (u : Upd τ τ' w w' row) (hr : ∀ b, row = some b → τ b = tNo ∨ τ b = tAn) : GoF τ' N w' gp f := by
 obtain ⟨h0, h1, sv, bv, V, h2, h3, h4⟩ := h
 have ne : ∀ t : Tag, t ≠ tNo → t ≠ tAn → ∀ b, row = some b → τ b ≠ t := fun t h1 h4 b hb e => by
  rcases hr b hb with g | g
  ·exact h1 (e.symm.trans g)
  ·exact h4 (e.symm.trans g)
 have hg : w'.heap[gp]? = w.heap[gp]? := u.grow.block gp (lt_heap h2) (fun e => ne tFl (by decide) (by decide) gp e.symm h1)
 exact ⟨h0, (u.same gp (lt_heap h2)).trans h1, sv, bv, V, hg.trans h2, h3.upd u (fun b hb => (hr b hb).elim .inl (fun h => .inr (.inr (.inr h)))), h4.upd u (ne tFix (by decide) (by decide)) (ne tBk (by decide) (by decide))⟩
/-- What a call leaves as it was. -/
structure Keep (τ τ' : Nat → Tag) (N : Nat) (w w' : World) : Prop where
 low : Below N w w'
 size : w.heap.size ≤ w'.heap.size
 same : ∀ b, b < w.heap.size → τ' b = τ b
 block : ∀ b, b < w.heap.size → (τ b = tFix ∨ τ b = tNo ∨ τ b = tAn) → w'.heap[b]? = w.heap[b]?
theorem keep_upd {τ τ' : Nat → Tag} {N : Nat} {w w' : World} {row : Option Nat} (u : Upd τ τ' w w' row) (hN : N ≤ w.heap.size) (hr : ∀ b, row = some b → N ≤ b ∧ τ b ≠ tFix ∧ τ b ≠ tNo ∧ τ b ≠ tAn) : Keep τ τ' N w w' :=
 ⟨(Below.refl _ _).grown u.grow hN (fun b hb => (hr b hb).1), u.grow.size, u.same, fun b hb ht => u.grow.block b hb (fun e => by
  obtain ⟨-, n1, n2, n3⟩ := hr b e.symm
  rcases ht with h | h | h
  ·exact n1 h
  ·exact n2 h
  ·exact n3 h)⟩
theorem Keep.trans {τ τ1 τ2 : Nat → Tag} {N : Nat} {a b c : World} (h : Keep τ τ1 N a b) (g : Keep τ1 τ2 N b c) : Keep τ τ2 N a c :=
 ⟨h.low.trans g.low, Nat.le_trans h.size g.size, fun k hk => (g.same k (Nat.lt_of_lt_of_le hk h.size)).trans (h.same k hk), fun k hk ht => (g.block k (Nat.lt_of_lt_of_le hk h.size) (by rw [h.same k hk]; exact ht)).trans (h.block k hk ht)⟩
theorem keep_call {τ : Nat → Tag} {N : Nat} {w w' : World} (h : Below w.heap.size w w') (hN : N ≤ w.heap.size) (t : Tag) : Keep τ (ext τ w.heap.size t) N w w' := keep_upd (upd_call h t) hN (fun _ hb => by cases hb)
/-- A new block of the call's own is written. -/
theorem keep_set {τ τ' : Nat → Tag} {N : Nat} {w0 w : World} (h : Keep τ τ' N w0 w) (hN : N ≤ w0.heap.size) {k : Nat} (hk : w0.heap.size ≤ k) (o : Nat) (u : Value) : Keep τ τ' N w0 (w.setCell ⟨k, o, none⟩ u) :=
 ⟨h.low.setCell (Nat.le_trans hN hk) _, by simpa using h.size, h.same, fun b hb ht => by
  rw [heap_setCell_other w ⟨k, o, none⟩ b u (fun e => by have e : b = k := e; omega)]
  exact h.block b hb ht⟩
theorem Keep.byM {τ τ' : Nat → Tag} {N : Nat} {w w' : World} {v : Value} {d : List Int} (h : Keep τ τ' N w w') (hb : ByM τ w v d) : ByM τ' w' v d := by
 refine ⟨⟨?_, hb.here.bytes, hb.here.short⟩, fun b hv => ?_⟩
 ·rcases hb.here.at' with h1 | ⟨b, off, cp, h1, h2, h3⟩
  ·exact .inl h1
  ·refine .inr ⟨b, off, cp, h1, Nat.lt_of_lt_of_le h2 h.size, fun j hj => ?_⟩
   rw [World.cell?_of_block (a := ⟨b, off + j, none⟩) (h.block b h2 (.inl (hb.tag b (by subst h1; rfl)).2))]
   exact h3 j hj
 ·obtain ⟨h1, h2⟩ := hb.tag b hv
  exact ⟨Nat.lt_of_lt_of_le h1 h.size, (h.same b h1).trans h2⟩
theorem Keep.anM {τ τ' : Nat → Tag} {N : Nat} {w w' : World} {v : Value} {l : List Ans} (h : Keep τ τ' N w w') (hb : AnM τ N w v l) : AnM τ' N w' v l := by
 obtain ⟨h1, ys, h2, h3⟩ := hb
 refine ⟨fun b hv => ?_, ys, ?_, fun j hj => ?_⟩
 ·obtain ⟨g1, g2⟩ := h1 b hv
  exact ⟨Nat.lt_of_lt_of_le g1 h.size, (h.same b g1).trans g2⟩
 ·refine ⟨h2.1, ?_⟩
  rcases h2.2 with hn | ⟨g, cap, cur, rfl, hb, hgg, rest⟩
  ·exact .inl hn
  ·exact .inr ⟨g, cap, cur, rfl, hb, (h.block g (lt_heap hgg) (.inr (.inr (h1 g rfl).2))).trans hgg, rest⟩
 ·obtain ⟨rv, h4, h5⟩ := h3 j hj
  exact ⟨rv, h4, h.byM h5⟩
theorem Keep.box {τ τ' : Nat → Tag} {N : Nat} {w w' : World} {k : Nat} {x : Obj} (h : Keep τ τ' N w w') (ht : τ k = tNo) (hk : w.heap[k]? = some x) : w'.heap[k]? = some x := (h.block k (lt_heap hk) (.inr (.inl ht))).trans hk

end Go.Proofs.YtkjlchfmplcobaeGreatDoor

/- A fleet that goes on, in memory: how it is changed. Nothing of the program's functions is in it. -/
namespace Go.Proofs.YtkjlchfmplcobaeGreatDoor
open Go.RowKit

theorem shdV_length (s : Shd) (v : ShV) : (shdV s v).length = 7 := rfl
/-- The shards but for what the one of number k leads to. -/
structure ShO (τ : Nat → Tag) (N : Nat) (w : World) (sv : Value) (ss : List Shd) (V : Nat → ShV) (k : Nat) : Prop where
 tag : Tg τ w tSh sv
 row : ∃ vs, w.ownsRow N 65 7 sv ss.length vs ∧ ∀ k, k < ss.length → ∀ i, i < 7 → vs[k * 7 + i]? = (shdV (ss.getD k shd0) (V k))[i]?
 ent : ∀ j, j < ss.length → j ≠ k → EntM τ N w j (V j).1 (ss.getD j shd0).entries
 root : ∀ j, j < ss.length → j ≠ k → ByM τ w (V j).2.1 (ss.getD j shd0).man.root
 seg : ∀ j, j < ss.length → j ≠ k → SegM τ N w j (V j).2.2 (ss.getD j shd0).man.segs
theorem ShM.out {τ : Nat → Tag} {N : Nat} {w : World} {sv : Value} {ss : List Shd} {V : Nat → ShV} (h : ShM τ N w sv ss V) (k : Nat) : ShO τ N w sv ss V k := ⟨h.tag, h.row, fun j hj _ => h.ent j hj, fun j hj _ => h.root j hj, fun j hj _ => h.seg j hj⟩
theorem ShO.back {τ : Nat → Tag} {N : Nat} {w : World} {sv : Value} {ss : List Shd} {V : Nat → ShV} {k : Nat} (h : ShO τ N w sv ss V k) (h1 : EntM τ N w k (V k).1 (ss.getD k shd0).entries) (h2 : ByM τ w (V k).2.1 (ss.getD k shd0).man.root) (h3 : SegM τ N w k (V k).2.2 (ss.getD k shd0).man.segs) : ShM τ N w sv ss V := by
 refine ⟨h.tag, h.row, fun j hj => ?_, fun j hj => ?_, fun j hj => ?_⟩
 ·by_cases e : j = k
  ·subst e; exact h1
  ·exact h.ent j hj e
 ·by_cases e : j = k
  ·subst e; exact h2
  ·exact h.root j hj e
 ·by_cases e : j = k
  ·subst e; exact h3
  ·exact h.seg j hj e
/-- What may be written while the shard k is turned. -/
def mine (k : Nat) (t : Tag) : Prop := t = tNo ∨ t = tFl ∨ t = tBk ∨ t = tAn ∨ t = tEnt k ∨ t = tSeg k ∨ ∃ j, t = tPk k j
theorem mine_fix {k : Nat} {t : Tag} (h : mine k t) : t ≠ tFix ∧ t ≠ tSh := by
 rcases h with rfl | rfl | rfl | rfl | rfl | rfl | ⟨j, rfl⟩ <;> simp [tNo, tFl, tBk, tAn, tEnt, tSeg, tPk, tFix, tSh]
theorem mine_other {k j : Nat} {t : Tag} (h : mine k t) (hj : j ≠ k) : t ≠ tEnt j ∧ t ≠ tSeg j ∧ ∀ i, t ≠ tPk j i := by
 rcases h with rfl | rfl | rfl | rfl | rfl | rfl | ⟨q, rfl⟩ <;> simp [tNo, tFl, tBk, tAn, tEnt, tSeg, tPk] <;> omega
theorem ShO.upd {τ τ' : Nat → Tag} {N : Nat} {w w' : World} {sv : Value} {ss : List Shd} {V : Nat → ShV} {k : Nat} {row : Option Nat} (h : ShO τ N w sv ss V k) (u : Upd τ τ' w w' row) (hr : ∀ b, row = some b → mine k (τ b)) : ShO τ' N w' sv ss V k := by
 obtain ⟨vs, h1, h2⟩ := h.row
 have n1 : ∀ b, row = some b → τ b ≠ tFix := fun b hb => (mine_fix (hr b hb)).1
 exact ⟨h.tag.upd u, ⟨vs, h1.kept u.grow (h.tag.off (fun b hb => (mine_fix (hr b hb)).2)), h2⟩, fun j hj hk => (h.ent j hj hk).upd u n1 (fun b hb => (mine_other (hr b hb) hk).1), fun j hj hk => (h.root j hj hk).upd u n1, fun j hj hk => (h.seg j hj hk).upd u (fun b hb => (mine_other (hr b hb) hk).2.1) (fun i b hb => (mine_other (hr b hb) hk).2.2 i)⟩
/-- Where a shard's cells lie. -/
theorem ShO.cells {τ : Nat → Tag} {N : Nat} {w : World} {sa : Option Addr} {n c k : Nat} {ss : List Shd} {V : Nat → ShV} (h : ShO τ N w (.slice sa n c) ss V k) (hn : ss.length = n) (hk : k < n) :
  ∃ sb, sa = some ⟨sb, 0, none⟩ ∧ N ≤ sb ∧ sb < w.heap.size ∧ τ sb = tSh ∧ (∀ i, w.frozen? ⟨sb, i, none⟩ = false) ∧ ∀ i, i < 7 → w.cell? ⟨sb, k * 7 + i, none⟩ = (shdV (ss.getD k shd0) (V k))[i]? := by
 obtain ⟨vs, h1, h2⟩ := h.row
 rw [hn] at h1 h2
 rcases h1.2 with ⟨-, h0⟩ | ⟨g, cap, cur, e, hb, hg, -⟩
 ·omega
 ·simp only [Value.slice.injEq, true_and] at e
  obtain ⟨rfl, rfl⟩ := e
  obtain ⟨t1, t2⟩ := h.tag g rfl
  exact ⟨g, rfl, hb, t1, t2, fun i => h1.frozenAt i, fun i hi => (h1.cellAt (k * 7 + i) (by omega)).trans (h2 k hk i hi)⟩
/-- One of its cells is written. -/
theorem ShO.store {τ : Nat → Tag} {N : Nat} {w : World} {sb n c k i : Nat} {ss : List Shd} {V : Nat → ShV} {s' : Shd} {v' : ShV} {u : Value} (h : ShO τ N w (.slice (some ⟨sb, 0, none⟩) n c) ss V k) (hn : ss.length = n) (hk : k < n) (hi : i < 7) (hs : shdV s' v' = (shdV (ss.getD k shd0) (V k)).set i u) :
  ShO τ N (w.setCell ⟨sb, k * 7 + i, none⟩ u) (.slice (some ⟨sb, 0, none⟩) n c) (ss.set k s') (fun j => if j = k then v' else V j) k := by
 obtain ⟨vs, h1, h2⟩ := h.row
 have ht := (h.tag sb rfl).2
 have U := upd_set τ w sb (k * 7 + i) u
 have ne : ∀ t : Tag, t ≠ tSh → ∀ b, some sb = some b → τ b ≠ t := fun t h1 b hb e => by cases hb; exact h1 (e.symm.trans ht)
 have hlen : (ss.set k s').length = ss.length := List.length_set
 rw [hn] at h1 h2
 obtain ⟨h3, -⟩ := h1.stored (k * 7 + i) u
 refine ⟨h.tag.upd U, ⟨vs.set (k * 7 + i) u, by rw [hlen, hn]; exact h3, fun j hj q hq => ?_⟩, fun j hj hjk => ?_, fun j hj hjk => ?_, fun j hj hjk => ?_⟩
 ·rw [hlen, hn] at hj
  by_cases e : j = k
  ·subst e
   rw [if_pos rfl, getD_set_same (by omega), hs]
   by_cases e2 : q = i
   ·subst e2
    rw [List.getElem?_set_self (by rw [h1.1]; omega), List.getElem?_set_self (by rw [shdV_length]; exact hi)]
   ·rw [List.getElem?_set_ne (by omega), List.getElem?_set_ne (by omega)]
    exact h2 j hj q hq
  ·rw [if_neg e, getD_set_other (fun h => e h.symm), List.getElem?_set_ne (by omega)]
   exact h2 j hj q hq
 ·rw [hlen] at hj
  rw [if_neg hjk, getD_set_other (fun h => hjk h.symm)]
  exact (h.ent j hj hjk).upd U (ne _ (by decide)) (ne _ (by simp [tEnt, tSh]))
 ·rw [hlen] at hj
  rw [if_neg hjk, getD_set_other (fun h => hjk h.symm)]
  exact (h.root j hj hjk).upd U (ne _ (by decide))
 ·rw [hlen] at hj
  rw [if_neg hjk, getD_set_other (fun h => hjk h.symm)]
  exact (h.seg j hj hjk).upd U (ne _ (by simp [tSeg, tSh])) (fun q => ne _ (by simp [tPk, tSh]))
theorem set_set {α : Type} (l : List α) (k : Nat) (x y : α) : (l.set k x).set k y = l.set k y := List.set_set ..
/-- A list of values, m for each of a list's elements, one element more. -/
theorem rows_snoc {α : Type} {m : Nat} {l : List α} {x d : α} {ys news : List Value} {F : Nat → α → Value → List Value} {R : α → Value → Prop} {v : Value} (hl : ys.length = l.length * m) (h : ∀ j, j < l.length → ∃ rv, (∀ i, i < m → ys[j * m + i]? = (F j (l.getD j d) rv)[i]?) ∧ R (l.getD j d) rv) (hn : ∀ i, i < m → news[i]? = (F l.length x v)[i]?) (hR : R x v) :
  ∀ j, j < (l ++ [x]).length → ∃ rv, (∀ i, i < m → (ys ++ news)[j * m + i]? = (F j ((l ++ [x]).getD j d) rv)[i]?) ∧ R ((l ++ [x]).getD j d) rv := fun j hj => by
 by_cases e : j < l.length
 ·obtain ⟨rv, h1, h2⟩ := h j e
  have eg : (l ++ [x]).getD j d = l.getD j d := by rw [snoc_get, if_pos e]
  rw [eg]
  refine ⟨rv, fun i hi => ?_, h2⟩
  have hlt : j * m + i < ys.length := by
   rw [hl]
   have : (j + 1) * m ≤ l.length * m := Nat.mul_le_mul_right m e
   rw [Nat.add_mul, Nat.one_mul] at this
   omega
  rw [List.getElem?_append_left hlt]
  exact h1 i hi
 ·obtain rfl : j = l.length := by simp at hj; omega
  have eg : (l ++ [x]).getD l.length d = x := by rw [snoc_get, if_neg (Nat.lt_irrefl _), if_pos rfl]
  rw [eg]
  refine ⟨v, fun i hi => ?_, hR⟩
  rw [List.getElem?_append_right (by rw [hl]; omega), hl, show l.length * m + i - l.length * m = i by omega]
  exact hn i hi
/-- A block to which a row has grown is for what it was for, or is new. -/
theorem grown_tag {τ : Nat → Tag} {w w' : World} {t : Tag} {v : Value} {g n cap : Nat} (h : Tg τ w t v) (hg : v.ownBlock = some g ∨ g = w.heap.size) (hlt : g < w'.heap.size) : Tg (ext τ w.heap.size t) w' t (.slice (some ⟨g, 0, none⟩) n cap) := fun b hb => by
 cases hb
 refine ⟨hlt, ?_⟩
 rcases hg with hg | rfl
 ·obtain ⟨h1, h2⟩ := h g hg
  rw [ext_old h1]; exact h2
 ·exact ext_new (Nat.le_refl _)
/-- The entries have grown by one. -/
theorem EntM.snoc {τ : Nat → Tag} {N k : Nat} {w w' : World} {v y : Value} {es : List (List Int)} {e : List Int} {g cap : Nat} {xs : List Value} (hT : Tg τ w (tEnt k) v) (hx : ∀ j, j < es.length → ∃ y, xs[j]? = some y ∧ ByM τ w y (es.getD j [])) (hl : xs.length = es.length)
  (ho : w'.ownsRow N 37 1 (.slice (some ⟨g, 0, none⟩) (es.length + 1) cap) (es.length + 1) (xs ++ [y])) (hg : w.grownBy w' v.ownBlock) (ha : v.ownBlock = some g ∨ g = w.heap.size) (hlt : g < w'.heap.size) (hy : ByM τ w y e) :
  EntM (ext τ w.heap.size (tEnt k)) N w' k (.slice (some ⟨g, 0, none⟩) (es.length + 1) cap) (es ++ [e]) := by
 have U : Upd τ (ext τ w.heap.size (tEnt k)) w w' v.ownBlock := ⟨hg, fun _ hb => ext_old hb⟩
 have nf : ∀ b, v.ownBlock = some b → τ b ≠ tFix := fun b hb e => by have := (hT b hb).2; rw [e] at this; simp [tFix, tEnt] at this
 refine ⟨grown_tag hT ha hlt, xs ++ [y], by rw [List.length_append]; exact ho, fun j hj => ?_⟩
 by_cases q : j < es.length
 ·obtain ⟨z, h1, h2⟩ := hx j q
  refine ⟨z, by rw [List.getElem?_append_left (by omega)]; exact h1, ?_⟩
  rw [snoc_get, if_pos q]
  exact h2.upd U nf
 ·obtain rfl : j = es.length := by simp at hj; omega
  refine ⟨y, by rw [List.getElem?_append_right (by omega), hl, Nat.sub_self]; rfl, ?_⟩
  rw [snoc_get, if_neg (Nat.lt_irrefl _), if_pos rfl]
  exact hy.upd U nf
/-- So has the book. -/
theorem BkM.snoc {τ : Nat → Tag} {N : Nat} {w w' : World} {v rv : Value} {l : List Rec} {r : Rec} {g cap : Nat} {ys : List Value} (hT : Tg τ w tBk v) (hl : ys.length = l.length * 5) (hx : ∀ j, j < l.length → ∃ rv, (∀ i, i < 5 → ys[j * 5 + i]? = (recCs (l.getD j rec0) rv)[i]?) ∧ ByM τ w rv (l.getD j rec0).root)
  (ho : w'.ownsRow N 45 5 (.slice (some ⟨g, 0, none⟩) (l.length + 1) cap) (l.length + 1) (ys ++ recCs r rv)) (hg : w.grownBy w' v.ownBlock) (ha : v.ownBlock = some g ∨ g = w.heap.size) (hlt : g < w'.heap.size) (hy : ByM τ w rv r.root) :
  BkM (ext τ w.heap.size tBk) N w' (.slice (some ⟨g, 0, none⟩) (l.length + 1) cap) (l ++ [r]) := by
 have U : Upd τ (ext τ w.heap.size tBk) w w' v.ownBlock := ⟨hg, fun _ hb => ext_old hb⟩
 have nf : ∀ b, v.ownBlock = some b → τ b ≠ tFix := fun b hb e => by have := (hT b hb).2; rw [e] at this; simp [tFix, tBk] at this
 refine ⟨grown_tag hT ha hlt, ys ++ recCs r rv, by rw [List.length_append]; exact ho, ?_⟩
 exact rows_snoc (F := fun _ x v => recCs x v) (R := fun x v => ByM (ext τ w.heap.size tBk) w' v x.root) hl (fun j hj => by obtain ⟨q, h1, h2⟩ := hx j hj; exact ⟨q, h1, h2.upd U nf⟩) (fun i hi => rfl) (hy.upd U nf)
/-- And the answers. -/
theorem AnM.snoc {τ : Nat → Tag} {N : Nat} {w w' : World} {v rv : Value} {l : List Ans} {r : Ans} {g cap : Nat} {ys : List Value} (hT : Tg τ w tAn v) (hl : ys.length = l.length * 5) (hx : ∀ j, j < l.length → ∃ rv, (∀ i, i < 5 → ys[j * 5 + i]? = (ansV (l.getD j ans0) rv)[i]?) ∧ ByM τ w rv (l.getD j ans0).root)
  (ho : w'.ownsRow N 41 5 (.slice (some ⟨g, 0, none⟩) (l.length + 1) cap) (l.length + 1) (ys ++ ansV r rv)) (hg : w.grownBy w' v.ownBlock) (ha : v.ownBlock = some g ∨ g = w.heap.size) (hlt : g < w'.heap.size) (hy : ByM τ w rv r.root) :
  AnM (ext τ w.heap.size tAn) N w' (.slice (some ⟨g, 0, none⟩) (l.length + 1) cap) (l ++ [r]) := by
 have U : Upd τ (ext τ w.heap.size tAn) w w' v.ownBlock := ⟨hg, fun _ hb => ext_old hb⟩
 have nf : ∀ b, v.ownBlock = some b → τ b ≠ tFix := fun b hb e => by have := (hT b hb).2; rw [e] at this; simp [tFix, tAn] at this
 refine ⟨grown_tag hT ha hlt, ys ++ ansV r rv, by rw [List.length_append]; exact ho, ?_⟩
 exact rows_snoc (F := fun _ x v => ansV x v) (R := fun x v => ByM (ext τ w.heap.size tAn) w' v x.root) hl (fun j hj => by obtain ⟨q, h1, h2⟩ := hx j hj; exact ⟨q, h1, h2.upd U nf⟩) (fun i hi => rfl) (hy.upd U nf)

/-- The fleet but for its shards. -/
structure GoB (τ : Nat → Tag) (N : Nat) (w : World) (gp : Nat) (sv bv : Value) (l : List Rec) : Prop where
 low : N ≤ gp
 tag : τ gp = tFl
 box : w.heap[gp]? = some (.cells #[sv, bv] 59 (0, 0))
 bk : BkM τ N w bv l
theorem GoB.upd {τ τ' : Nat → Tag} {N : Nat} {w w' : World} {gp : Nat} {sv bv : Value} {l : List Rec} {row : Option Nat} (h : GoB τ N w gp sv bv l) (u : Upd τ τ' w w' row) (hr : ∀ b, row = some b → τ b ≠ tFl ∧ τ b ≠ tBk ∧ τ b ≠ tFix) : GoB τ' N w' gp sv bv l :=
 ⟨h.low, (u.same gp (lt_heap h.box)).trans h.tag, (u.grow.block gp (lt_heap h.box) (fun e => (hr gp e.symm).1 h.tag)).trans h.box, h.bk.upd u (fun b hb => (hr b hb).2.2) (fun b hb => (hr b hb).2.1)⟩
theorem GoF.open {τ : Nat → Tag} {N : Nat} {w : World} {gp : Nat} {f : Flt} (h : GoF τ N w gp f) : ∃ sa sc ba bc V, GoB τ N w gp (.slice sa f.shards.length sc) (.slice ba f.book.length bc) f.book ∧ ShM τ N w (.slice sa f.shards.length sc) f.shards V := by
 obtain ⟨h0, h1, sv, bv, V, h2, h3, h4⟩ := h
 obtain ⟨sa, sc, e1, -⟩ := h3.shards
 obtain ⟨ba, bc, e2, -⟩ := h4.recs
 subst e1
 subst e2
 exact ⟨sa, sc, ba, bc, V, ⟨h0, h1, h2, h4⟩, h3⟩
theorem no_row {P : Nat → Prop} : ∀ b, (none : Option Nat) = some b → P b := fun _ hb => by cases hb
/-- A call that only makes memory has ended, and an answer is written into a variable of the caller's own. -/
theorem GoF.five {τ : Nat → Tag} {N : Nat} {w : World} {gp R : Nat} {f : Flt} (h : GoF τ N w gp f) (hR : τ R = tNo) (u0 u1 u2 u3 u4 : Value) : GoF τ N (((((w.setCell ⟨R, 0, none⟩ u0).setCell ⟨R, 1, none⟩ u1).setCell ⟨R, 2, none⟩ u2).setCell ⟨R, 3, none⟩ u3).setCell ⟨R, 4, none⟩ u4) gp f := by
 have hr : ∀ b, some R = some b → τ b = tNo ∨ τ b = tAn := fun b hb => by cases hb; exact .inl hR
 exact ((((h.upd (upd_set τ _ R 0 u0) hr).upd (upd_set τ _ R 1 u1) hr).upd (upd_set τ _ R 2 u2) hr).upd (upd_set τ _ R 3 u3) hr).upd (upd_set τ _ R 4 u4) hr
theorem ByM.five {τ : Nat → Tag} {w : World} {R : Nat} {v : Value} {d : List Int} (h : ByM τ w v d) (hR : τ R = tNo) (u0 u1 u2 u3 u4 : Value) : ByM τ (((((w.setCell ⟨R, 0, none⟩ u0).setCell ⟨R, 1, none⟩ u1).setCell ⟨R, 2, none⟩ u2).setCell ⟨R, 3, none⟩ u3).setCell ⟨R, 4, none⟩ u4) v d := by
 have hr : ∀ b, some R = some b → τ b ≠ tFix := fun b hb => by cases hb; rw [hR]; decide
 exact ((((h.upd (upd_set τ _ R 0 u0) hr).upd (upd_set τ _ R 1 u1) hr).upd (upd_set τ _ R 2 u2) hr).upd (upd_set τ _ R 3 u3) hr).upd (upd_set τ _ R 4 u4) hr
theorem Keep.five {τ τ' : Nat → Tag} {N R : Nat} {w0 w : World} (h : Keep τ τ' N w0 w) (hN : N ≤ w0.heap.size) (hR : w0.heap.size ≤ R) (u0 u1 u2 u3 u4 : Value) : Keep τ τ' N w0 (((((w.setCell ⟨R, 0, none⟩ u0).setCell ⟨R, 1, none⟩ u1).setCell ⟨R, 2, none⟩ u2).setCell ⟨R, 3, none⟩ u3).setCell ⟨R, 4, none⟩ u4) :=
 keep_set (keep_set (keep_set (keep_set (keep_set h hN hR 0 u0) hN hR 1 u1) hN hR 2 u2) hN hR 3 u3) hN hR 4 u4
/-- What a step leaves: an answer, and the fleet. -/
def Went (τ : Nat → Tag) (N gp : Nat) (w w' : World) (av : Value) (fa : Flt × Ans) : Prop := ∃ τ', AnV τ' w' av fa.2 ∧ GoF τ' N w' gp fa.1 ∧ Keep τ τ' N w w'
/-- A shard's cell is written that leads nowhere, or to what is there. -/
theorem ShM.turn {τ : Nat → Tag} {N sb n c k i : Nat} {w : World} {ss : List Shd} {V : Nat → ShV} {s' : Shd} {v' : ShV} {u : Value} (h : ShM τ N w (.slice (some ⟨sb, 0, none⟩) n c) ss V) (hn : ss.length = n) (hk : k < n) (hi : i < 7) (hs : shdV s' v' = (shdV (ss.getD k shd0) (V k)).set i u) (h1 : EntM τ N w k v'.1 s'.entries) (h2 : ByM τ w v'.2.1 s'.man.root) (h3 : SegM τ N w k v'.2.2 s'.man.segs) :
  ShM τ N (w.setCell ⟨sb, k * 7 + i, none⟩ u) (.slice (some ⟨sb, 0, none⟩) n c) (ss.set k s') (fun j => if j = k then v' else V j) := by
 have ht := (h.tag sb rfl).2
 have U := upd_set τ w sb (k * 7 + i) u
 have ne : ∀ t : Tag, t ≠ tSh → ∀ b, some sb = some b → τ b ≠ t := fun t h1 b hb e => by cases hb; exact h1 (e.symm.trans ht)
 refine ((h.out k).store (i := i) (u := u) (s' := s') (v' := v') hn hk hi hs).back ?_ ?_ ?_
 ·rw [if_pos rfl, getD_set_same (by omega)]; exact h1.upd U (ne _ (by decide)) (ne _ (by simp [tEnt, tSh]))
 ·rw [if_pos rfl, getD_set_same (by omega)]; exact h2.upd U (ne _ (by decide))
 ·rw [if_pos rfl, getD_set_same (by omega)]; exact h3.upd U (ne _ (by simp [tSeg, tSh])) (fun j => ne _ (by simp [tPk, tSh]))
theorem GoB.turn {τ : Nat → Tag} {N gp sb o : Nat} {w : World} {sv bv u : Value} {l : List Rec} (h : GoB τ N w gp sv bv l) (ht : τ sb = tSh) : GoB τ N (w.setCell ⟨sb, o, none⟩ u) gp sv bv l := h.upd (upd_set τ w sb o u) (fun b hb => by cases hb; rw [ht]; decide)
theorem keep_turn {τ : Nat → Tag} {N sb o : Nat} {w : World} {u : Value} (hN : N ≤ w.heap.size) (hs : N ≤ sb) (ht : τ sb = tSh) : Keep τ τ N w (w.setCell ⟨sb, o, none⟩ u) := keep_upd (upd_set τ w sb o u) hN (fun b hb => by cases hb; rw [ht]; exact ⟨hs, by decide⟩)
end Go.Proofs.YtkjlchfmplcobaeGreatDoor

/- The walks of bytes.Clone at whatever bytes, and of refused, copyOf and taken: package fleet as it landed. -/
namespace Go.Proofs.YtkjlchfmplcobaeGreatDoor
open Go.RowKit

set_option maxRecDepth 100000 in
theorem cloneN_any (w : World) : Calls Tryz.prog 29 #[.slice none 0 0] w fun e w' => e = .returned (.slice none 0 0) ∧ w' = w := by
 have qs : ∀ (W : World), (binOp .eql 37 (.slice none 0 0) (.slice none 0 0)).run Tryz.prog W = .ok (.bool true) W := fun W => Lib.run_eql_slice_nil W _ _ none 0 0 0 0 Tryz.underlying37
 go_enter Tryz.func29, Tryz.ntmps29
 go_wp2_with fail
 go_ret
 exact ⟨rfl, rfl⟩
theorem cloneM_any (d : List Int) (v : Value) (w : World) (h : Some' w v d) (hd : d.length ≤ 1000000) :
  Calls Tryz.prog 29 #[v] w fun e w' => ∃ xa xc, e = .returned (.slice xa d.length xc) ∧ w'.ownsRow w.heap.size 5 1 (.slice xa d.length xc) d.length (d.map (Value.int .u8)) ∧ Below w.heap.size w w' := by
 have h0 := h.at'
 obtain ⟨a, c, rfl⟩ := h0.form
 cases a with
 | some ad => exact cloneB_any d ad _ c w h0 rfl hd
 | none =>
  obtain ⟨hl, hc⟩ : d = [] ∧ c = 0 := by
   rcases h0 with ⟨rfl, a, c', e, hc⟩ | ⟨b, off, cp, e, -⟩
   ·cases e; exact ⟨rfl, hc rfl⟩
   ·cases e
  subst hl
  subst hc
  refine (cloneN_any w).mono ?_
  rintro e w' ⟨rfl, rfl⟩
  exact ⟨none, 0, rfl, World.ownsRow_nil _ _ _ _, Below.refl _ _⟩
set_option maxRecDepth 100000 in
set_option maxHeartbeats 2000000 in
theorem copyOf_any (n : Int) (d : List Int) (v : Value) (w : World) (h : Some' w v d) (hd : d.length ≤ 1000000) :
  Calls Tryz.prog 59 #[.agg #[.int .i64 n, v]] w fun e w' => ∃ xa xc, e = .returned (.agg #[.int .i64 n, .slice xa d.length xc]) ∧ w'.ownsRow w.heap.size 5 1 (.slice xa d.length xc) d.length (d.map (Value.int .u8)) ∧ Below w.heap.size w w' := by
 obtain ⟨va, vc, rfl⟩ := h.at'.form
 have b0 : Below w.heap.size w ((w.alloc (.cells #[.int .i64 n, .slice va d.length vc] 39)).alloc (.cells #[.int .i64 0, .slice none 0 0] 39)) := ((Below.refl _ _).alloc (Nat.le_refl _) _).alloc (by simp) _
 have x0 := box_one w #[.int .i64 n, .slice va d.length vc] 39 (.cells #[.int .i64 0, .slice none 0 0] 39)
 have y0 := box_last w (.cells #[.int .i64 n, .slice va d.length vc] 39) #[.int .i64 0, .slice none 0 0] 39
 have z0 : ((w.alloc (.cells #[.int .i64 n, .slice va d.length vc] 39)).alloc (.cells #[.int .i64 0, .slice none 0 0] 39)).heap.size = w.heap.size + 2 := by simp
 have hC := fun w' (hb : Below w.heap.size w w') => cloneM_any d _ w' (h.below hb) hd
 go_enter Tryz.func59, Tryz.ntmps59
 go_wp2_with fail
 generalize (w.alloc (.cells #[.int .i64 n, .slice va d.length vc] 39)).alloc (.cells #[.int .i64 0, .slice none 0 0] 39) = w0 at *
 obtain ⟨u0, u1, u2, u3⟩ := box_two x0
 obtain ⟨t0, t1, t2, t3⟩ := box_two y0
 have hsd : w0.drew.heap.size = w.heap.size + 2 := z0
 go_region_with (first | (go_at_call 29; refine (hC _ b0.drew).mono ?_; rintro e w5 ⟨xa, xc, rfl, hO, hb5⟩; obtain ⟨p0, p1, p2, p3⟩ := box_two (box_kept (w := w0.drew) x0 hb5); obtain ⟨q0, q1, q2, q3⟩ := box_two (box_kept (w := w0.drew) y0 hb5)))
 all_goals
  have b5 : Below w.heap.size w w5 := b0.drew.trans (hb5.mono b0.drew.size)
  rw [hsd] at hO
  go_wp2_with fail
  refine bodyPost_ret (v := .agg #[.int .i64 n, .slice xa d.length xc]) (by simp [results, Tryz.results59, go_sem, q0, q1]) rfl ⟨xa, xc, rfl, ?_, ?_⟩
  ·exact ownsRow_base (ownsRow_setCell_below (ownsRow_setCell_below hO (a := ⟨w.heap.size + 1, 0, none⟩) (show w.heap.size + 1 < _ by omega) _) (a := ⟨w.heap.size + 1, 1, none⟩) (show w.heap.size + 1 < _ by omega) _) (by omega)
  ·exact (b5.setCell (Nat.le_succ _) _).setCell (Nat.le_succ _) _
end Go.Proofs.YtkjlchfmplcobaeGreatDoor

/- The walk of sha.Parts: the digest of bytes that come in parts. -/
namespace Go.Proofs.YtkjlchfmplcobaeGreatDoor
open Go.RowKit

theorem flat_take (L : List (List Int)) (k : Nat) (h : k < L.length) : (L.take (k + 1)).flatten = (L.take k).flatten ++ L.getD k [] := by
 rw [List.take_succ_eq_append_getElem h, List.flatten_append, List.getD_eq_getElem?_getD, List.getElem?_eq_getElem h]
 simp
theorem flat_le (L : List (List Int)) (k : Nat) : (L.take k).flatten.length ≤ L.flatten.length := by
 have : L.flatten = (L.take k).flatten ++ (L.drop k).flatten := by rw [← List.flatten_append, List.take_append_drop]
 rw [this, List.length_append]; omega
theorem part_le (L : List (List Int)) (k : Nat) (h : k < L.length) : (L.take k).flatten.length + (L.getD k []).length ≤ L.flatten.length := by
 have := flat_le L (k + 1)
 rw [flat_take L k h, List.length_append] at this
 exact this
set_option maxRecDepth 100000 in
set_option maxHeartbeats 1000000 in
theorem parts_any (L : List (List Int)) (v : Value) (w : World) (hv : PartsAt w v L) (hn : L.length ≤ maxLen) (hm : L.flatten.length ≤ 140737488355328) (hz : ∀ j, Bytes (L.getD j [])) (hK : Tab w) (h0 : 0 < w.heap.size) :
  Calls Tryz.prog 100 #[v] w
   fun e w' => ∃ g, e = .returned (.slice (some ⟨g, 0, none⟩) 32 32) ∧ w'.ownsRow w.heap.size 5 1 (.slice (some ⟨g, 0, none⟩) 32 32) 32 ((shaL L.flatten).map (Value.int .u8)) ∧ Below w.heap.size w w' := by
 have hz0 := (zero_of_info info_run).1
 have hi := (zero_of_info info_run).2
 obtain ⟨a0, c0, rfl, hcell⟩ : ∃ a c, v = .slice a L.length c ∧ (L.length = 0 ∨ ∃ b off, a = some ⟨b, off, none⟩ ∧ b < w.heap.size ∧ ∀ j, j < L.length → ∃ a n c, w.cell? ⟨b, off + j, none⟩ = some (.slice a n c) ∧ BytesAt w (.slice a n c) (L.getD j [])) := by
  rcases hv with ⟨rfl, a, c, rfl⟩ | ⟨b, off, cp, rfl, h2, h3⟩
  ·exact ⟨a, c, rfl, .inl rfl⟩
  ·exact ⟨_, _, rfl, .inr ⟨b, off, rfl, h2, h3⟩⟩
 clear hv
 unfold maxLen at hn
 go_enter Tryz.func100, Tryz.ntmps100
 go_wp2_with fail
 refine (begin_any _).mono ?_
 rintro e w1 ⟨rfl, hb1⟩
 go_wp2_with (refine wpList_store_mid rfl 159 (.tmp 3) (.tmp 6) rfl w1.heap.size 0 iniRun rfl rfl ?_ ?_ ini_one ?_; (rw [ini_size]; exact there_new _ _ _ 73 zrun_size); (rw [ini_size]; exact hi))
 obtain ⟨hrun, hb2, hK2, hlt⟩ := sum_begun 159 hb1 hK h0
 have hs1 := hb1.size
 generalize ((w1.alloc (.cells zRun 159)).setCells w1.heap.size 0 iniRun.toList) = w2 at *
 go_loopw [9] (fun i wr => ∃ k : Nat, k ≤ L.length ∧ i = .int .i64 k ∧ RunAt wr w1.heap.size (rn0.all (L.take k).flatten) ∧ Below w.heap.size w wr ∧ w1.heap.size < wr.heap.size) (fun i _ => L.length - (intOf i).toNat)
 case atStart => exact ⟨0, Nat.zero_le _, rfl, hrun, hb2, hlt⟩
 case round =>
  obtain ⟨k, hk, rfl, hr, hb, hltr⟩ := hrel
  clear hrun hb2 hK2 hlt
  by_cases hlk : k < L.length
  ·rcases hcell with hcell | ⟨b, off, rfl, hbb, hcell⟩
   ·omega
   obtain ⟨a, n, c, hca, hB⟩ := hcell k hlk
   have hca' : wr.cell? ⟨b, off + k, none⟩ = some (.slice a n c) := by rw [hb.cell (p := ⟨b, off + k, none⟩) hbb]; exact hca
   have hB' := hB.below (Nat.le_refl _) hb
   have hKr := tab_below hK hb h0
   have hpl := part_le L k hlk
   have HF : Hid ((L.take (k + 1)).flatten = (L.take k).flatten ++ L.getD k []) := flat_take L k hlk
   have hc3 : (rn0.all (L.take k).flatten).c = (L.take k).flatten.length := by rw [Rn.all_c]; show 0 + _ = _; omega
   have hsr := hb.size
   have hcs : (rn0.all (L.take k).flatten).c ≤ 140737488355328 := by rw [hc3]; have := flat_le L k; omega
   clear hc3 hcell hca
   go_wp2_with fail
   refine (add_bytes (rn0.all (L.take k).flatten) (L.getD k []) _ w1.heap.size wr hB' (fun b' off' cp' e hpos => by
    rcases hB with ⟨e1, -⟩ | ⟨b2, o2, c2, e2, hb2, -⟩
    ·rw [e1] at hpos; simp at hpos
    ·rw [e2] at e
     simp only [Value.slice.injEq, Option.some.injEq, Addr.mk.injEq] at e
     omega) (by unfold maxLen; omega) (hz k) hr hKr hltr (by omega) (by omega) (by omega)).mono ?_
   rintro e w3 ⟨rfl, hr3, hg3⟩
   have hb3 : Below w.heap.size w w3 := hb.grown hg3 hsr (fun q h => by cases h; exact hs1)
   have hr4 : RunAt w3 w1.heap.size (rn0.all (L.take (k + 1)).flatten) := by rw [HF.out, Rn.all_append]; exact hr3
   have hlt4 : w1.heap.size < w3.heap.size := Nat.lt_of_lt_of_le hltr hg3.size
   clear hr3 hg3 hr hKr hB hB' hca'
   go_wp2_with fail
   go_roundw
   case rel => exact ⟨k + 1, by omega, by go_num, hr4, hb3, hlt4⟩
   case measure => simp [intOf]; omega
  ·have e : L.take k = L := List.take_of_length_le (by omega)
   rw [e] at hr
   have hK3 := tab_below hK hb h0
   have hc3 : (rn0.all L.flatten).c = L.flatten.length := by rw [Rn.all_c]; show 0 + _ = _; omega
   have hsr := hb.size
   clear e hcell
   go_wp2_with fail
   refine (end_any (rn0.all L.flatten) w1.heap.size wr hr hK3 hltr (by omega) (by omega) (by rw [hc3]; omega)).mono ?_
   rintro e w4 ⟨g, rfl, ho, hg4⟩
   have hb4 : Below w.heap.size w w4 := hb.grown hg4 hsr (fun q h => by cases h; exact hs1)
   have ho4 : w4.ownsRow w.heap.size 5 1 (.slice (some ⟨g, 0, none⟩) 32 32) 32 ((shaL L.flatten).map (Value.int .u8)) := by
    have := ownsRow_base ho hsr
    rw [hc3] at this
    exact this
   clear ho hg4 hr hK3
   go_wp2_with fail
   go_ret
   exact ⟨g, rfl, ho4, hb4⟩

end Go.Proofs.YtkjlchfmplcobaeGreatDoor

/- What TreeTells asks of tree.Leaf and tree.Node. -/
namespace Go.Proofs.YtkjlchfmplcobaeGreatDoor
open Go.RowKit

def LeafC : Prop := ∀ (b : List Int) (v : Value) (w : World), Ready w → Some' w v b → b.length ≤ 70368744177664 →
 Calls Tryz.prog 69 #[v] w fun e w' => ∃ x, e = .returned x ∧ w'.ownsRow w.heap.size 5 1 x 32 ((leafL b).map (Value.int .u8)) ∧ Below w.heap.size w w'
def NodeC : Prop := ∀ (b1 b2 : List Int) (v1 v2 : Value) (w : World), Ready w → Some' w v1 b1 → Some' w v2 b2 → b1.length + b2.length ≤ 70368744177664 →
 Calls Tryz.prog 72 #[v1, v2] w fun e w' => ∃ x, e = .returned x ∧ w'.ownsRow w.heap.size 5 1 x 32 ((nodeL b1 b2).map (Value.int .u8)) ∧ Below w.heap.size w w'

end Go.Proofs.YtkjlchfmplcobaeGreatDoor

/- The walks of package tree's small functions: Leaf, Node, isDigest, areDigests. -/
namespace Go.Proofs.YtkjlchfmplcobaeGreatDoor
open Go.RowKit

theorem bytesAt_new (w : World) (z : Int) (t : TypeId) : BytesAt (w.alloc (.cells #[.int .u8 z] t)) (.slice (some ⟨w.heap.size, 0, none⟩) 1 1) [z] := by
 refine .inr ⟨_, 0, 1, rfl, by simp, fun j hj => ?_⟩
 obtain rfl : j = 0 := by simp at hj; omega
 rw [Nat.add_zero, new_cell w t #[.int .u8 z] 0 (by simp)]; rfl
theorem parts_two {w : World} {v : Value} {b : List Int} (h : BytesAt w v b) (z : Int) (t s : TypeId) :
  PartsAt ((w.alloc (.cells #[.int .u8 z] t)).alloc (.cells #[.slice (some ⟨w.heap.size, 0, none⟩) 1 1, v] s)) (.slice (some ⟨w.heap.size + 1, 0, none⟩) 2 2) [[z], b] := by
 obtain ⟨a, c, rfl⟩ := h.form
 refine .inr ⟨_, 0, 2, rfl, by simp, fun j hj => ?_⟩
 have hb0 : Below w.heap.size w ((w.alloc (.cells #[.int .u8 z] t)).alloc (.cells #[.slice (some ⟨w.heap.size, 0, none⟩) 1 1, .slice a b.length c] s)) := ((Below.refl _ _).alloc (Nat.le_refl _) _).alloc (by simp) _
 have hb1 : Below (w.alloc (.cells #[.int .u8 z] t)).heap.size (w.alloc (.cells #[.int .u8 z] t)) ((w.alloc (.cells #[.int .u8 z] t)).alloc (.cells #[.slice (some ⟨w.heap.size, 0, none⟩) 1 1, .slice a b.length c] s)) := (Below.refl _ _).alloc (Nat.le_refl _) _
 have hj' : j = 0 ∨ j = 1 := by simp at hj; omega
 rcases hj' with rfl | rfl
 ·exact ⟨_, _, _, by simp, (bytesAt_new w z t).below (Nat.le_refl _) hb1⟩
 ·exact ⟨_, _, _, by simp, h.below (Nat.le_refl _) hb0⟩
theorem parts_three {w : World} {v u : Value} {b d : List Int} (h : BytesAt w v b) (h2 : BytesAt w u d) (z : Int) (t s : TypeId) :
  PartsAt ((w.alloc (.cells #[.int .u8 z] t)).alloc (.cells #[.slice (some ⟨w.heap.size, 0, none⟩) 1 1, v, u] s)) (.slice (some ⟨w.heap.size + 1, 0, none⟩) 3 3) [[z], b, d] := by
 obtain ⟨a, c, rfl⟩ := h.form
 obtain ⟨a2, c2, rfl⟩ := h2.form
 refine .inr ⟨_, 0, 3, rfl, by simp, fun j hj => ?_⟩
 have hb0 : Below w.heap.size w ((w.alloc (.cells #[.int .u8 z] t)).alloc (.cells #[.slice (some ⟨w.heap.size, 0, none⟩) 1 1, .slice a b.length c, .slice a2 d.length c2] s)) := ((Below.refl _ _).alloc (Nat.le_refl _) _).alloc (by simp) _
 have hb1 : Below (w.alloc (.cells #[.int .u8 z] t)).heap.size (w.alloc (.cells #[.int .u8 z] t)) ((w.alloc (.cells #[.int .u8 z] t)).alloc (.cells #[.slice (some ⟨w.heap.size, 0, none⟩) 1 1, .slice a b.length c, .slice a2 d.length c2] s)) := (Below.refl _ _).alloc (Nat.le_refl _) _
 have hj' : j = 0 ∨ j = 1 ∨ j = 2 := by simp at hj; omega
 rcases hj' with rfl | rfl | rfl
 ·exact ⟨_, _, _, by simp, (bytesAt_new w z t).below (Nat.le_refl _) hb1⟩
 ·exact ⟨_, _, _, by simp, h.below (Nat.le_refl _) hb0⟩
 ·exact ⟨_, _, _, by simp, h2.below (Nat.le_refl _) hb0⟩
theorem two_bytes {z : Int} {b : List Int} (h0 : 0 ≤ z) (h1 : z < 256) (h : Bytes b) : ∀ j, Bytes (([[z], b] : List (List Int)).getD j []) := fun j => by
 match j with
 | 0 => exact bytes_cons h0 h1 nil_bytes
 | 1 => exact h
 | j + 2 => exact nil_bytes
theorem three_bytes {z : Int} {b d : List Int} (h0 : 0 ≤ z) (h1 : z < 256) (h : Bytes b) (h2 : Bytes d) : ∀ j, Bytes (([[z], b, d] : List (List Int)).getD j []) := fun j => by
 match j with
 | 0 => exact bytes_cons h0 h1 nil_bytes
 | 1 => exact h
 | 2 => exact h2
 | j + 3 => exact nil_bytes

set_option maxRecDepth 100000 in
set_option maxHeartbeats 1000000 in
theorem leafC_holds : LeafC := by
 intro b v w hr hv hm
 have hp := parts_two hv.at' 0 5 37
 have hb : Below w.heap.size w ((w.alloc (.cells #[.int .u8 0] 5)).alloc (.cells #[.slice (some ⟨w.heap.size, 0, none⟩) 1 1, v] 37)) := ((Below.refl _ _).alloc (Nat.le_refl _) _).alloc (by simp) _
 have hK := tab_below hr.tab hb hr.big
 have h0 := Nat.lt_of_lt_of_le hr.big hb.size
 have hc := parts_any [[0], b] _ _ hp (by unfold maxLen; simp) (by simp; omega) (two_bytes (by decide) (by decide) hv.bytes) hK h0
 obtain ⟨a, c, e⟩ := hv.at'.form
 subst e
 go_enter Tryz.func69, Tryz.ntmps69
 go_wp2_with fail
 refine hc.mono ?_
 rintro e w1 ⟨g, rfl, ho, hb1⟩
 have hs := hb.size
 go_wp2_with fail
 go_ret
 refine ⟨_, rfl, ?_, hb.trans (hb1.mono hs)⟩
 have := ownsRow_base ho hs
 rwa [show ([[0], b] : List (List Int)).flatten = 0 :: b by simp] at this
set_option maxRecDepth 100000 in
set_option maxHeartbeats 1000000 in
theorem nodeC_holds : NodeC := by
 intro b1 b2 v1 v2 w hr hv1 hv2 hm
 have hp := parts_three hv1.at' hv2.at' 1 5 37
 have hb : Below w.heap.size w ((w.alloc (.cells #[.int .u8 1] 5)).alloc (.cells #[.slice (some ⟨w.heap.size, 0, none⟩) 1 1, v1, v2] 37)) := ((Below.refl _ _).alloc (Nat.le_refl _) _).alloc (by simp) _
 have hK := tab_below hr.tab hb hr.big
 have h0 := Nat.lt_of_lt_of_le hr.big hb.size
 have hc := parts_any [[1], b1, b2] _ _ hp (by unfold maxLen; simp) (by simp; omega) (three_bytes (by decide) (by decide) hv1.bytes hv2.bytes) hK h0
 obtain ⟨a, c, e⟩ := hv1.at'.form
 subst e
 obtain ⟨a2, c2, e⟩ := hv2.at'.form
 subst e
 go_enter Tryz.func72, Tryz.ntmps72
 go_wp2_with fail
 refine hc.mono ?_
 rintro e w1 ⟨g, rfl, ho, hb1⟩
 have hs := hb.size
 go_wp2_with fail
 go_ret
 refine ⟨_, rfl, ?_, hb.trans (hb1.mono hs)⟩
 have := ownsRow_base ho hs
 rwa [show ([[1], b1, b2] : List (List Int)).flatten = 1 :: (b1 ++ b2) by simp] at this

set_option maxRecDepth 100000 in
theorem isDigest_any (b : List Int) (v : Value) (w : World) (hv : BytesAt w v b) :
  Calls Tryz.prog 111 #[v] w fun e w' => e = .returned (.bool (decide (b.length = 32))) ∧ w' = w := by
 obtain ⟨a, c, rfl⟩ := hv.form
 by_cases h : b.length = 32
 ·rw [decide_eq_true h]
  clear hv
  rw [h]
  go_enter Tryz.func111, Tryz.ntmps111
  go_wp2
  go_ret
  exact ⟨rfl, rfl⟩
 ·rw [decide_eq_false h]
  have i1 : (b.length : Int) ≠ 32 := by omega
  go_enter Tryz.func111, Tryz.ntmps111
  go_wp2
  go_ret
  exact ⟨by first | rfl | simp [i1], rfl⟩

set_option maxRecDepth 100000 in
theorem areDigests_any (L : List (List Int)) (v : Value) (w : World) (hv : PartsAt w v L) (hm : L.length ≤ maxLen) (hm2 : ∀ j, (L.getD j []).length ≤ maxLen) :
  Calls Tryz.prog 99 #[v] w fun e w' => e = .returned (.bool (goodL L)) ∧ w' = w := by
 obtain ⟨a0, c0, rfl, hcell⟩ := hv.form
 unfold maxLen at hm
 go_enter Tryz.func99, Tryz.ntmps99
 go_wp2
 go_loop [7] (fun i => ∃ k : Nat, k ≤ L.length ∧ i = .int .i64 k ∧ Hid (∀ j, j < k → (L.getD j []).length = 32)) (fun i => L.length - (intOf i).toNat)
 case atStart => exact ⟨0, Nat.zero_le _, rfl, fun j hj => absurd hj (Nat.not_lt_zero _)⟩
 case round =>
  obtain ⟨k, hk, rfl, HG⟩ := hrel
  by_cases hlt : k < L.length
  ·obtain ⟨b, off, rfl, hb, hc⟩ := hcell.resolve_left (by omega)
   obtain ⟨pa, pc, hcj, hB⟩ := hc k hlt
   have hl := hm2 k
   have HB : Hid ((L.getD k []).length ≠ 32 → goodL L = false) := goodL_bad hlt
   have HN : Hid ((L.getD k []).length = 32 → ∀ j, j < k + 1 → (L.getD j []).length = 32) := fun h j hj => by
    by_cases e : j = k
    ·rw [e]; exact h
    ·exact HG.out j (by omega)
   have hd := isDigest_any (L.getD k []) _ w hB
   unfold maxLen at hl
   clear hcell hc hv HG hm2 hB
   generalize (L.getD k []).length = m at *
   by_cases h32 : m = 32
   ·have HN' : Hid (∀ j, j < k + 1 → (L.getD j []).length = 32) := HN.out h32
    clear HN HB
    rw [decide_eq_true h32] at hd
    subst h32
    go_wp2_with (go_at_call 111; refine hd.mono ?_; rintro e w' ⟨rfl, rfl⟩)
    go_round
    case rel => exact ⟨k + 1, by omega, by go_num, HN'⟩
    case measure => simp [intOf]; omega
   ·have HB' : Hid (goodL L = false) := HB.out h32
    rw [decide_eq_false h32] at hd
    clear HN HB
    go_wp2_with (go_at_call 111; refine hd.mono ?_; rintro e w' ⟨rfl, rfl⟩)
    go_ret
    exact ⟨by rw [HB'.out]; rfl, rfl⟩
  ·obtain rfl : k = L.length := by omega
   have HA : Hid (goodL L = true) := goodL_all HG.out
   clear HG
   go_wp2
   go_ret
   exact ⟨by rw [HA.out]; rfl, rfl⟩

end Go.Proofs.YtkjlchfmplcobaeGreatDoor

/- The walks of stateAsked and refusal: package fleet as it landed. -/
namespace Go.Proofs.YtkjlchfmplcobaeGreatDoor
open Go.RowKit Go.Maps

/-- What keeps a step from being taken. -/
def refL (ss : List Shd) (d : Dd) : Int :=
 if d.kind < 2 ∨ 5 < d.kind then 1 else
 if d.n < 0 ∨ (ss.length : Int) ≤ d.n then 6 else
 if (ss.getD d.n.toNat shd0).state ≠ wantL d.kind then 7 else 0
theorem box_seven {w : World} {k : Nat} {v0 v1 v2 v3 v4 v5 v6 : Value} {t : TypeId} (h : w.heap[k]? = some (.cells #[v0, v1, v2, v3, v4, v5, v6] t (0, 0))) :
  w.cell? ⟨k, 0, none⟩ = some v0 ∧ w.cell? ⟨k, 1, none⟩ = some v1 ∧ w.cell? ⟨k, 2, none⟩ = some v2 ∧ w.cell? ⟨k, 3, none⟩ = some v3 ∧ w.cell? ⟨k, 4, none⟩ = some v4 ∧ w.cell? ⟨k, 5, none⟩ = some v5 ∧ w.cell? ⟨k, 6, none⟩ = some v6 :=
 ⟨cell_of_row w k 0 _ t _ h, cell_of_row w k 1 _ t _ h, cell_of_row w k 2 _ t _ h, cell_of_row w k 3 _ t _ h, cell_of_row w k 4 _ t _ h, cell_of_row w k 5 _ t _ h, cell_of_row w k 6 _ t _ h⟩
end Go.Proofs.YtkjlchfmplcobaeGreatDoor

/- The walks of isSize, segmentsFor, countFrom and fits: package shelf as it landed. -/
namespace Go.Proofs.YtkjlchfmplcobaeGreatDoor
open Go.RowKit

def sizeB (n : Int) : Bool := decide (0 ≤ n ∧ n ≤ 100)
theorem sizeB_true {n : Int} (h0 : 0 ≤ n) (h1 : n ≤ 100) : sizeB n = true := decide_eq_true ⟨h0, h1⟩
theorem sizeB_false {n : Int} (h : ¬ (0 ≤ n ∧ n ≤ 100)) : sizeB n = false := decide_eq_false h
set_option maxRecDepth 100000 in
theorem isSize_any (n : Int) (w : World) : Calls Tryz.prog 84 #[.int .i64 n] w fun e w' => e = .returned (.bool (sizeB n)) ∧ w' = w := by
 by_cases h0 : 0 ≤ n
 ·by_cases h1 : n ≤ 100
  ·have e : sizeB n = true := sizeB_true h0 h1
   rw [e]
   clear e
   go_enter Tryz.func84, Tryz.ntmps84
   go_wp2
   go_ret
   exact ⟨rfl, rfl⟩
  ·have e : sizeB n = false := sizeB_false (by omega)
   rw [e]
   clear e
   go_enter Tryz.func84, Tryz.ntmps84
   go_wp2
   go_ret
   exact ⟨rfl, rfl⟩
 ·have e : sizeB n = false := sizeB_false (by omega)
  rw [e]
  clear e
  go_enter Tryz.func84, Tryz.ntmps84
  go_wp2
  go_ret
  exact ⟨rfl, rfl⟩
theorem ret_int' {k : IntKind} {a b : Int} (h : a = b) : Ending.returned (.int k a) = .returned (.int k b) := by rw [h]
set_option maxRecDepth 100000 in
theorem segmentsFor_any (n : Int) (w : World) (h0 : 0 ≤ n) (h1 : n ≤ 100) : Calls Tryz.prog 85 #[.int .i64 n] w fun e w' => e = .returned (.int .i64 ((n + 7) / 8)) ∧ w' = w := by
 go_enter Tryz.func85, Tryz.ntmps85
 go_wp2
 go_ret
 exact ⟨ret_int' (by omega), rfl⟩
set_option maxRecDepth 100000 in
theorem countFrom_any (f s : Int) (w : World) (h0 : 0 ≤ f) (h1 : f ≤ 1000) (h2 : 0 ≤ s) (h3 : s ≤ 1000) : Calls Tryz.prog 115 #[.int .i64 f, .int .i64 s] w fun e w' => e = .returned (.int .i64 (min 8 (s - f))) ∧ w' = w := by
 by_cases h : s - f < 8
 ·rw [show min 8 (s - f) = s - f by omega]
  go_enter Tryz.func115, Tryz.ntmps115
  go_wp2
  go_ret
  exact ⟨rfl, rfl⟩
 ·rw [show min 8 (s - f) = 8 by omega]
  go_enter Tryz.func115, Tryz.ntmps115
  go_wp2
  go_ret
  exact ⟨rfl, rfl⟩
set_option maxRecDepth 100000 in
set_option maxHeartbeats 2000000 in
theorem segFits_any (f c k size : Int) (pv : Value) (p : List Int) (w : World) (hk : 0 ≤ k) : Calls Tryz.prog 105 #[.agg #[.int .i64 f, .int .i64 c, pv], .int .i64 k, .int .i64 size] w fun e w' => e = .returned (.bool (fitB size k ⟨f, c, p⟩)) ∧ Below w.heap.size w w' := by
 have hS := isSize_any size
 have hb := box_new w #[.int .i64 f, .int .i64 c, pv] 104
 obtain ⟨x0, x1, x2, -, -, -⟩ := box_three hb
 have bW : Below w.heap.size w (w.alloc (.cells #[.int .i64 f, .int .i64 c, pv] 104)) := (Below.refl _ _).alloc (Nat.le_refl _) _
 clear hb
 by_cases h1 : 0 ≤ size ∧ size ≤ 100
 ·rw [sizeB_true h1.1 h1.2] at hS
  by_cases h2 : k ≤ 100
  ·by_cases h3 : f = k * 8
   ·subst h3
    by_cases h4 : 1 ≤ c
    ·have hC := fun W => countFrom_any (k * 8) size W (by omega) (by omega) h1.1 (by omega)
     by_cases h5 : c = min 8 (size - k * 8)
     ·have e : fitB size k ⟨k * 8, c, p⟩ = true := fitB_iff.2 ⟨h1.1, h1.2, h2, rfl, h4, h5⟩
      have hC' : ∀ W, Calls Tryz.prog 115 #[.int .i64 (k * 8), .int .i64 size] W fun e w' => e = .returned (.int .i64 c) ∧ w' = W := fun W => by have := hC W; rwa [← h5] at this
      have hcc : (c == c) = true := by simp
      rw [e]
      clear e h5 hC
      go_enter Tryz.func105, Tryz.ntmps105
      go_wp2_with fail
      go_quiet ((first | (go_at_call 84; exact Calls.quiet_of_same (hS _)) | (go_at_call 115; exact Calls.quiet_of_same (hC' _))))
      go_wp2_with fail
      go_ret
      exact ⟨rfl, below_drewN' bW _⟩
     ·have e : fitB size k ⟨k * 8, c, p⟩ = false := by rw [Bool.eq_false_iff]; intro h; exact h5 (fitB_iff.1 h).2.2.2.2.2
      obtain ⟨q, hq⟩ : ∃ q, q = min 8 (size - k * 8) := ⟨_, rfl⟩
      rw [← hq] at hC h5
      have h5' : (c == q) = false := by simpa using h5
      rw [e]
      clear e h5 hq
      go_enter Tryz.func105, Tryz.ntmps105
      go_wp2_with fail
      go_quiet ((first | (go_at_call 84; exact Calls.quiet_of_same (hS _)) | (go_at_call 115; exact Calls.quiet_of_same (hC _))))
      go_wp2_with fail
      go_ret
      exact ⟨rfl, below_drewN' bW _⟩
    ·have e : fitB size k ⟨k * 8, c, p⟩ = false := by rw [Bool.eq_false_iff]; intro h; exact h4 (fitB_iff.1 h).2.2.2.2.1
     have h4' : decide (1 ≤ c) = false := decide_eq_false h4
     rw [e]
     clear e
     go_enter Tryz.func105, Tryz.ntmps105
     go_wp2_with fail
     go_quiet ((go_at_call 84; exact Calls.quiet_of_same (hS _)))
     go_wp2_with fail
     go_ret
     exact ⟨rfl, below_drewN' bW _⟩
   ·have e : fitB size k ⟨f, c, p⟩ = false := by rw [Bool.eq_false_iff]; intro h; exact h3 (fitB_iff.1 h).2.2.2.1
    have h3' : (f == k * 8) = false := by simpa using h3
    rw [e]
    clear e h3
    go_enter Tryz.func105, Tryz.ntmps105
    go_wp2_with fail
    go_quiet ((go_at_call 84; exact Calls.quiet_of_same (hS _)))
    go_wp2_with fail
    go_ret
    exact ⟨rfl, below_drewN' bW _⟩
  ·have e : fitB size k ⟨f, c, p⟩ = false := by rw [Bool.eq_false_iff]; intro h; exact h2 (fitB_iff.1 h).2.2.1
   have h2' : decide (k ≤ 100) = false := decide_eq_false h2
   rw [e]
   clear e
   go_enter Tryz.func105, Tryz.ntmps105
   go_wp2_with fail
   go_quiet ((go_at_call 84; exact Calls.quiet_of_same (hS _)))
   go_wp2_with fail
   go_ret
   exact ⟨rfl, below_drewN' bW _⟩
 ·rw [sizeB_false h1] at hS
  have e : fitB size k ⟨f, c, p⟩ = false := by rw [Bool.eq_false_iff]; intro h; have := fitB_iff.1 h; exact h1 ⟨this.1, this.2.1⟩
  rw [e]
  clear e h1
  go_enter Tryz.func105, Tryz.ntmps105
  go_wp2_with fail
  go_quiet ((go_at_call 84; exact Calls.quiet_of_same (hS _)))
  go_wp2_with fail
  go_ret
  exact ⟨rfl, below_drewN' bW _⟩

end Go.Proofs.YtkjlchfmplcobaeGreatDoor

/- The walk of export: package fleet as it landed. -/
namespace Go.Proofs.YtkjlchfmplcobaeGreatDoor
open Go.RowKit

/-- What each new block of a manifest is for. -/
theorem tag_segs {τ : Nat → Tag} {N k n : Nat} {w w' : World} {rv gv : Value} {vs : List Value} {l : List Seg} {d : List Int} (h1 : w'.ownsRow w.heap.size 104 3 gv l.length vs) (h2 : SegEls w' w.heap.size vs l) (hri : RiseV vs l.length) (hrv : w'.ownsRow w.heap.size 5 1 rv n (d.map (Value.int .u8))) (hap : ∀ j y g, vs[j * 3 + 2]? = some y → j < l.length → y.ownBlock = some g → rv.ownBlock ≠ some g) (hby : SegsBytes l) (hd : Bytes d) (hN : N ≤ w.heap.size) :
  ∃ τ' : Nat → Tag, (∀ b, b < w.heap.size → τ' b = τ b) ∧ SegM τ' N w' k gv l ∧ ByM τ' w' rv d := by
 classical
 let τ' : Nat → Tag := fun b => if b < w.heap.size then τ b else if h : ∃ j, j < l.length ∧ ∃ y, vs[j * 3 + 2]? = some y ∧ y.ownBlock = some b then tPk k (Classical.choose h) else if gv.ownBlock = some b then tSeg k else tFix
 refine ⟨τ', fun b hb => if_pos hb, ⟨fun b hb => ?_, vs, ownsRow_base h1 hN, fun j hj => ?_⟩, ?_⟩
 ·obtain ⟨q1, q2⟩ := h1.lt b hb
  refine ⟨q2, ?_⟩
  have hno : ¬ ∃ j, j < l.length ∧ ∃ y, vs[j * 3 + 2]? = some y ∧ y.ownBlock = some b := fun ⟨j, hj, y, hy, hb'⟩ => by
   obtain ⟨-, -, z, h3, h4⟩ := h2.2 j hj
   rw [hy] at h3
   cases h3
   exact own_ne3 h4 h1 (by decide) b hb' hb
  show (if b < w.heap.size then _ else _) = _
  rw [if_neg (by omega), dif_neg hno, if_pos hb]
 ·obtain ⟨g0, g1, y, g2, g3⟩ := h2.2 j hj
  refine ⟨y, g0, g1, g2, fun b hb => ?_, ownsRow_base g3 hN, hby j⟩
  obtain ⟨q1, q2⟩ := g3.lt b hb
  refine ⟨q2, ?_⟩
  have hex : ∃ j, j < l.length ∧ ∃ y, vs[j * 3 + 2]? = some y ∧ y.ownBlock = some b := ⟨j, hj, y, g2, hb⟩
  have hch : Classical.choose hex = j := by
   obtain ⟨c1, z, c2, c3⟩ := Classical.choose_spec hex
   rcases Nat.lt_trichotomy (Classical.choose hex) j with h | h | h
   ·exact absurd (hri _ _ h hj z y b b c2 g2 c3 hb) (Nat.lt_irrefl _)
   ·exact h
   ·exact absurd (hri _ _ h c1 y z b b g2 c2 hb c3) (Nat.lt_irrefl _)
  show (if b < w.heap.size then _ else _) = _
  rw [if_neg (by omega), dif_pos hex, hch]
 ·have hl : d.length = n := by simpa using hrv.1
  refine ⟨⟨bytesAt_own hrv, hd, by rw [hl]; exact own_small hrv⟩, fun b hb => ?_⟩
  obtain ⟨q1, q2⟩ := hrv.lt b hb
  refine ⟨q2, ?_⟩
  have hno : ¬ ∃ j, j < l.length ∧ ∃ y, vs[j * 3 + 2]? = some y ∧ y.ownBlock = some b := fun ⟨j, hj, y, hy, hb'⟩ => hap j y b hy hj hb' hb
  have hng : ¬ gv.ownBlock = some b := fun h => own_ne3 hrv h1 (by decide) b hb h
  show (if b < w.heap.size then _ else _) = _
  rw [if_neg (by omega), dif_neg hno, if_neg hng]
/-- A shard's manifest and its state are written. -/
theorem ShO.man {τ : Nat → Tag} {N sb n c k : Nat} {w : World} {ss : List Shd} {V : Nat → ShV} (h : ShO τ N w (.slice (some ⟨sb, 0, none⟩) n c) ss V k) (hn : ss.length = n) (hk : k < n) (m : Man) (st : Int) (rv gv : Value) :
  ShO τ N ((((w.setCell ⟨sb, k * 7 + 4, none⟩ (.int .i64 m.size)).setCell ⟨sb, k * 7 + 5, none⟩ rv).setCell ⟨sb, k * 7 + 6, none⟩ gv).setCell ⟨sb, k * 7 + 2, none⟩ (.int .i64 st)) (.slice (some ⟨sb, 0, none⟩) n c) (ss.set k { (ss.getD k shd0) with state := st, man := m }) (fun j => if j = k then ((V k).1, rv, gv) else V j) k := by
 have hl : ∀ s, (ss.set k s).length = n := fun s => by rw [List.length_set]; exact hn
 have hg : ∀ s, (ss.set k s).getD k shd0 = s := fun s => getD_set_same (by omega)
 have h1 := h.store (i := 4) (u := .int .i64 m.size) (s' := { (ss.getD k shd0) with man := { (ss.getD k shd0).man with size := m.size } }) (v' := V k) hn hk (by omega) rfl
 have h2 := h1.store (i := 5) (u := rv) (s' := { (ss.getD k shd0) with man := { (ss.getD k shd0).man with size := m.size, root := m.root } }) (v' := ((V k).1, rv, (V k).2.2)) (hl _) hk (by omega) (by rw [hg, if_pos rfl]; rfl)
 have h3 := h2.store (i := 6) (u := gv) (s' := { (ss.getD k shd0) with man := m }) (v' := ((V k).1, rv, gv)) (by rw [List.length_set]; exact hl _) hk (by omega) (by rw [List.set_set, hg, if_pos rfl]; rfl)
 have h4 := h3.store (i := 2) (u := .int .i64 st) (s' := { (ss.getD k shd0) with state := st, man := m }) (v' := ((V k).1, rv, gv)) (by rw [List.length_set, List.length_set]; exact hl _) hk (by omega) (by rw [List.set_set, List.set_set, hg, if_pos rfl]; rfl)
 rw [List.set_set, List.set_set, List.set_set] at h4
 have e : (fun j => if j = k then ((V k).1, rv, gv) else (fun j => if j = k then ((V k).1, rv, gv) else (fun j => if j = k then ((V k).1, rv, (V k).2.2) else (fun j => if j = k then V k else V j) j) j) j) = (fun j => if j = k then ((V k).1, rv, gv) else V j) := by
  funext j
  by_cases e : j = k
  ·simp only [if_pos e]
  ·simp only [if_neg e]
 rw [← e]
 exact h4
/-- Four cells of the shards are written: what else there is stays. -/
theorem four_upd {τ : Nat → Tag} {sb a b c d : Nat} {w : World} (u0 u1 u2 u3 : Value) : Upd τ τ w ((((w.setCell ⟨sb, a, none⟩ u0).setCell ⟨sb, b, none⟩ u1).setCell ⟨sb, c, none⟩ u2).setCell ⟨sb, d, none⟩ u3) (some sb) :=
 ⟨((((grown_set w sb a u0).trans (grown_set _ sb b u1)).trans (grown_set _ sb c u2)).trans (grown_set _ sb d u3)), fun _ _ => rfl⟩
def exportS (f : Flt) (k : Nat) : Flt × Ans :=
 (⟨f.shards.set k { (f.shards.getD k shd0) with state := 3, man := exportL (f.shards.getD k shd0).entries }, f.book⟩, ⟨0, (k : Int), 0, (exportL (f.shards.getD k shd0).entries).size, (exportL (f.shards.getD k shd0).entries).root⟩)
end Go.Proofs.YtkjlchfmplcobaeGreatDoor
