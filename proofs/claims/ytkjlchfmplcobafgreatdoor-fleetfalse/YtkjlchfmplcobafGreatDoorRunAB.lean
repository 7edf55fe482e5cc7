/- ShelfSegs, FleetMem, FleetMem2, FleetGoSmall, TreeFaceLeaf, TreeGoSmall, ShelfGoSmall, ShelfGoLay, ShelfGoSegs, FleetGoRetire, FleetGoBegin, FleetGoWrong, ShelfMem, BookGoRec, ClashGoConcat, as one text. -/
import Derived.Test.YtkjlchfmplcobafGreatDoorProg
import Derived.Test.YtkjlchfmplcobafGreatDoorRunAA
import Derived.WalkKit
import Derived.Deep.AppendLies
import Derived.Laws.AppendOwnNone
import Derived.Test.YtkjlchfmplcobafGreatDoorRunAK
import Derived.WalkSpells
import Derived.WalkLawsBesides
import Derived.Deep.RegionHeld3
import Derived.Deep.RegionWith
import Derived.BigRegion
import Derived.Test.YtkjlchfmplcobafGreatDoorRunAD
import Derived.Deep.QuietTactic
import Derived.BigQuiet
import Derived.Test.YtkjlchfmplcobafGreatDoorRunAF
import Derived.Lib.AppendZerosOnto
/- Segments as rows of a call's own; parts of lists. -/
namespace Go.Proofs.YtkjlchfmplcobafGreatDoor
open Go.RowKit

theorem Tryz.info147b : (Tryz.prog.info? 147).map (fun i => (i.zero, i.size, i.bytes)) = some (some (.agg #[.int .i64 0, .int .i64 0, .slice none 0 0]), 3, 40) := by kernel_rfl
theorem Lists.part {w : World} {b off n c i m : Nat} {L : List (List Int)} (h : Lists w (some ⟨b, off, none⟩) n c L) (hi : i + m ≤ n) (hm : 1 ≤ m) : Lists w (some ⟨b, off + i, none⟩) m (c - i) ((L.drop i).take m) := by
  have hl := h.len
  have hr := h.room
  have hc := h.cap
  have hd := h.at'.drop (k := i) hl (by omega) (by omega) (c - i)
  refine ⟨by rw [List.length_take, List.length_drop]; omega, hd.take (by rw [List.length_drop]; omega) (by omega) (by omega) _, by omega, by omega, fun e => (by cases e), ?_, ?_⟩
  · refine take_bytes (fun j => ?_) m
    rw [List.getD_eq_getElem?_getD, List.getElem?_drop, ← List.getD_eq_getElem?_getD]; exact h.bytes _
  · refine take_short (fun j => ?_) m
    rw [List.getD_eq_getElem?_getD, List.getElem?_drop, ← List.getD_eq_getElem?_getD]; exact h.short _
theorem own3_below {w w' : World} {base : Nat} {e : TypeId} {v : Value} {n N : Nat} {xs : List Value} (h : w.ownsRow base e 3 v n xs) (hb : Below N w w') (hN : w.heap.size ≤ N) : w'.ownsRow base e 3 v n xs :=
  h.kept (w' := w') (row := none) ⟨hb.os, hb.tape, hb.output, hb.size, fun k hk _ => hb.block k (Nat.lt_of_lt_of_le hk hN)⟩ (by cases v.ownBlock <;> simp)
theorem own_ne3 {w : World} {base b2 : Nat} {e1 e2 : TypeId} {v1 v2 : Value} {n1 n2 : Nat} {xs1 xs2 : List Value} (h1 : w.ownsRow base e1 1 v1 n1 xs1) (h2 : w.ownsRow b2 e2 3 v2 n2 xs2) (hne : e1 ≠ e2) : Sep v1 v2 := fun g hg1 hg2 => by
  rcases h1.2 with ⟨rfl, -⟩ | ⟨g1, c1, cur1, rfl, -, hh1, -⟩
  · cases hg1
  rcases h2.2 with ⟨rfl, -⟩ | ⟨g2, c2, cur2, rfl, -, hh2, -⟩
  · cases hg2
  cases hg1
  cases hg2
  rw [hh1] at hh2
  cases hh2
  exact hne rfl
/-- The values of segments, each with bytes of the call's own. -/
def SegEls (w : World) (base : Nat) (vs : List Value) (l : List Seg) : Prop :=
  vs.length = l.length * 3 ∧ ∀ j, j < l.length → vs[j * 3]? = some (.int .i64 (l.getD j seg0).first) ∧ vs[j * 3 + 1]? = some (.int .i64 (l.getD j seg0).count) ∧
    ∃ y, vs[j * 3 + 2]? = some y ∧ w.ownsRow base 5 1 y (l.getD j seg0).packed.length ((l.getD j seg0).packed.map (Value.int .u8))
theorem SegEls.kept {w w' : World} {base b2 : Nat} {vs : List Value} {l : List Seg} {v : Value} {n : Nat} {xs : List Value} (h : SegEls w base vs l) (hr : w.ownsRow b2 147 3 v n xs) (hg : w.grownBy w' v.ownBlock) : SegEls w' base vs l :=
  ⟨h.1, fun j hj => by
    obtain ⟨h0, h1, y, h2, h3⟩ := h.2 j hj
    exact ⟨h0, h1, y, h2, h3.kept hg (own_ne3 h3 hr (by decide)).or⟩⟩
theorem SegEls.alloc {w : World} {base : Nat} {vs : List Value} {l : List Seg} (h : SegEls w base vs l) (o : Obj) : SegEls (w.alloc o) base vs l :=
  ⟨h.1, fun j hj => by
    obtain ⟨h0, h1, y, h2, h3⟩ := h.2 j hj
    exact ⟨h0, h1, y, h2, h3.alloc o⟩⟩
theorem SegEls.below {w w' : World} {base N : Nat} {vs : List Value} {l : List Seg} (h : SegEls w base vs l) (hb : Below N w w') (hN : w.heap.size ≤ N) : SegEls w' base vs l :=
  ⟨h.1, fun j hj => by
    obtain ⟨h0, h1, y, h2, h3⟩ := h.2 j hj
    exact ⟨h0, h1, y, h2, own_below h3 hb hN⟩⟩
theorem SegEls.snoc {w : World} {base : Nat} {vs : List Value} {l : List Seg} {s : Seg} {y : Value} (h : SegEls w base vs l) (hy : w.ownsRow base 5 1 y s.packed.length (s.packed.map (Value.int .u8))) : SegEls w base (vs ++ [.int .i64 s.first, .int .i64 s.count, y]) (l ++ [s]) := by
  obtain ⟨hl, h⟩ := h
  refine ⟨by simp; omega, fun j hj => ?_⟩
  by_cases e : j < l.length
  · obtain ⟨h0, h1, z, h2, h3⟩ := h j e
    have eg : (l ++ [s]).getD j seg0 = l.getD j seg0 := by rw [List.getD_eq_getElem?_getD, List.getElem?_append_left e, ← List.getD_eq_getElem?_getD]
    rw [eg, List.getElem?_append_left (by omega), List.getElem?_append_left (by omega), List.getElem?_append_left (by omega)]
    exact ⟨h0, h1, z, h2, h3⟩
  · obtain rfl : j = l.length := by simp at hj; omega
    have eg : (l ++ [s]).getD l.length seg0 = s := by rw [List.getD_eq_getElem?_getD, List.getElem?_append_right (Nat.le_refl _), Nat.sub_self]; rfl
    rw [eg, List.getElem?_append_right (by omega), List.getElem?_append_right (by omega), List.getElem?_append_right (by omega), hl, Nat.sub_self, show l.length * 3 + 1 - l.length * 3 = 1 by omega, show l.length * 3 + 2 - l.length * 3 = 2 by omega]
    exact ⟨rfl, rfl, y, rfl, hy⟩
theorem segEls_nil (w : World) (base : Nat) : SegEls w base [] [] := ⟨rfl, fun _ hj => absurd hj (Nat.not_lt_zero _)⟩
/-- Segments, all of them the call's own. -/
def OwnSegs (w : World) (base : Nat) (v : Value) (l : List Seg) : Prop := ∃ vs, w.ownsRow base 147 3 v l.length vs ∧ SegEls w base vs l
theorem OwnSegs.below {w w' : World} {base N : Nat} {v : Value} {l : List Seg} (h : OwnSegs w base v l) (hb : Below N w w') (hN : w.heap.size ≤ N) : OwnSegs w' base v l := by
  obtain ⟨vs, h1, h2⟩ := h
  exact ⟨vs, own3_below h1 hb hN, h2.below hb hN⟩
theorem OwnSegs.set {w : World} {base k o : Nat} {v : Value} {l : List Seg} (h : OwnSegs w base v l) (hk : k < base) (u : Value) : OwnSegs (w.setCell ⟨k, o, none⟩ u) base v l := by
  obtain ⟨vs, h1, h2, h3⟩ := h
  refine ⟨vs, ownsRow_setCell_below h1 (a := ⟨k, o, none⟩) hk u, h2, fun j hj => ?_⟩
  obtain ⟨g0, g1, y, g2, g3⟩ := h3 j hj
  exact ⟨g0, g1, y, g2, ownsRow_setCell_below g3 (a := ⟨k, o, none⟩) hk u⟩
theorem OwnSegs.segs {w : World} {base : Nat} {v : Value} {l : List Seg} (h : OwnSegs w base v l) (hby : SegsBytes l) : SegsAt w v l := by
  obtain ⟨vs, h1, -, h2⟩ := h
  rcases h1.2 with ⟨hv, hn⟩ | ⟨g, cap, cur, rfl, -, hg, h3, h4, -⟩
  · exact ⟨none, 0, by rw [hv, hn], by omega, Nat.zero_le _, fun _ => rfl, .inl hn⟩
  · refine ⟨_, cap, rfl, h3, h4, (fun e => by cases e), .inr ⟨g, 0, rfl, lt_heap hg, fun j hj => ?_⟩⟩
    obtain ⟨g0, g1, y, g2, g3⟩ := h2 j hj
    rw [Nat.zero_add]
    refine ⟨(h1.cellAt (j * 3) (by omega)).trans g0, (h1.cellAt (j * 3 + 1) (by omega)).trans g1, ?_⟩
    obtain ⟨pa, pc, rfl, q1, q2⟩ := own_cap g3
    exact ⟨pa, pc, (h1.cellAt (j * 3 + 2) (by omega)).trans g2, ⟨bytesAt_own g3, hby j, by omega⟩, q1, q2⟩
/-- Each segment's bytes lie in a later block than those of the one ahead. -/
def RiseV (vs : List Value) (m : Nat) : Prop := ∀ i j, i < j → j < m → ∀ y z g h, vs[i * 3 + 2]? = some y → vs[j * 3 + 2]? = some z → y.ownBlock = some g → z.ownBlock = some h → g < h
theorem riseV_nil : RiseV [] 0 := fun _ _ _ h => absurd h (Nat.not_lt_zero _)
theorem RiseV.snoc {w : World} {base m : Nat} {vs : List Value} {l : List Seg} {a b y : Value} (h : RiseV vs m) (he : SegEls w base vs l) (hm : l.length = m) (hy : ∀ g, y.ownBlock = some g → w.heap.size ≤ g) : RiseV (vs ++ [a, b, y]) (m + 1) := fun i j hij hj u z g q hu hz hg hq => by
  have hl : vs.length = m * 3 := by rw [← hm]; exact he.1
  rw [List.getElem?_append_left (by omega)] at hu
  by_cases e : j < m
  · rw [List.getElem?_append_left (by omega)] at hz
    exact h i j hij e u z g q hu hz hg hq
  · obtain rfl : j = m := by omega
    rw [List.getElem?_append_right (by omega), hl, show j * 3 + 2 - j * 3 = 2 by omega] at hz
    cases hz
    obtain ⟨-, -, x, h1, h2⟩ := he.2 i (by omega)
    rw [hu] at h1
    cases h1
    have := (h2.lt g hg).2
    have := hy q hq
    omega
theorem lit_seg (w : World) (x y : Int) (pv : Value) (t : TypeId) : ∀ (j : Nat) (u : Value), [Value.int .i64 x, .int .i64 y, pv][j]? = some u → (w.alloc (.cells #[.int .i64 x, .int .i64 y, pv] t)).cell? ((⟨w.heap.size, 0, none⟩ : Addr).add j) = some u := fun j u hj => by
  have hadd : (⟨w.heap.size, 0, none⟩ : Addr).add j = ⟨w.heap.size, 0 + j, none⟩ := Addr.add_mid _ _ _
  rw [hadd, Nat.zero_add]
  match j, hj with
  | 0, hj => rw [new_cell w t _ 0 (by simp)]; simpa using hj
  | 1, hj => rw [new_cell w t _ 1 (by simp)]; simpa using hj
  | 2, hj => rw [new_cell w t _ 2 (by simp)]; simpa using hj
  | j + 3, hj => simp at hj
theorem segK_bytes {L : List (List Int)} (hb : ∀ j, Bytes (L.getD j [])) (h : ∀ e ∈ L, e.length ≤ 200) (k : Nat) : Bytes (segK L k).packed := by
  refine pack_bytes ?_ (lay_part h k)
  refine bytes_of_mem (fun x hx => ?_)
  unfold layL at hx
  obtain ⟨e, he, hx⟩ := List.mem_flatMap.1 hx
  have h200 := short_part h k e he
  rcases List.mem_cons.1 hx with rfl | hx
  · omega
  · obtain ⟨j, hj, rfl⟩ := List.mem_iff_getElem.1 (List.mem_of_mem_drop (List.mem_of_mem_take he))
    have := hb j
    rw [List.getD_eq_getElem?_getD, List.getElem?_eq_getElem hj] at this
    exact bytes_forall this x hx
theorem segsL_bytes {L : List (List Int)} (hb : ∀ j, Bytes (L.getD j [])) (h : ∀ e ∈ L, e.length ≤ 200) : SegsBytes (segsL L) := fun j => by
  by_cases hj : j < (L.length + 7) / 8
  · unfold segsL; rw [segsN_get _ _ _ hj]; exact segK_bytes hb h j
  · rw [List.getD_eq_getElem?_getD, List.getElem?_eq_none (by unfold segsL; rw [segsN_length]; omega)]; exact nil_bytes
/-- The text of a part. -/
theorem lay_bytes {l : List (List Int)} (hb : ∀ j, Bytes (l.getD j [])) (h : ∀ j, (l.getD j []).length ≤ 200) : Bytes (layL l) := by
  refine bytes_of_mem (fun x hx => ?_)
  unfold layL at hx
  obtain ⟨e, he, hx⟩ := List.mem_flatMap.1 hx
  obtain ⟨j, hj, rfl⟩ := List.mem_iff_getElem.1 he
  have h1 := hb j
  have h2 := h j
  rw [List.getD_eq_getElem?_getD, List.getElem?_eq_getElem hj] at h1 h2
  rcases List.mem_cons.1 hx with rfl | hx
  · simp at h2; omega
  · exact bytes_forall h1 x hx

end Go.Proofs.YtkjlchfmplcobafGreatDoor

/- A fleet that goes on, in memory: what each block of it is for. Nothing of the program's functions is in it. -/
namespace Go.Proofs.YtkjlchfmplcobafGreatDoor
open Go.RowKit

theorem five_free {w : World} {k : Nat} {a b c d e : Value} {t : TypeId} (h : w.heap[k]? = some (.cells #[a, b, c, d, e] t (0, 0))) : w.frozen? ⟨k, 0, none⟩ = false ∧ w.frozen? ⟨k, 1, none⟩ = false ∧ w.frozen? ⟨k, 2, none⟩ = false ∧ w.frozen? ⟨k, 3, none⟩ = false ∧ w.frozen? ⟨k, 4, none⟩ = false :=
  ⟨frozen_of_row w k 0 _ t h, frozen_of_row w k 1 _ t h, frozen_of_row w k 2 _ t h, frozen_of_row w k 3 _ t h, frozen_of_row w k 4 _ t h⟩
/-- What a block is for. -/
abbrev Tag := Nat × Nat × Nat
def tNo : Tag := (0, 0, 0)
def tFix : Tag := (1, 0, 0)
def tSh : Tag := (2, 0, 0)
def tFl : Tag := (3, 0, 0)
def tBk : Tag := (4, 0, 0)
def tAn : Tag := (5, 0, 0)
def tEnt (k : Nat) : Tag := (6, k, 0)
def tSeg (k : Nat) : Tag := (7, k, 0)
def tPk (k j : Nat) : Tag := (8, k, j)
/-- From n on all blocks are for t. -/
def ext (τ : Nat → Tag) (n : Nat) (t : Tag) : Nat → Tag := fun b => if b < n then τ b else t
theorem ext_old {τ : Nat → Tag} {n b : Nat} {t : Tag} (h : b < n) : ext τ n t b = τ b := if_pos h
theorem ext_new {τ : Nat → Tag} {n b : Nat} {t : Tag} (h : n ≤ b) : ext τ n t b = t := if_neg (by omega)
/-- A value's block is there, and is for t. -/
def Tg (τ : Nat → Tag) (w : World) (t : Tag) (v : Value) : Prop := ∀ b, v.ownBlock = some b → b < w.heap.size ∧ τ b = t
/-- But for one block all is as it was; and what blocks were for stays. -/
structure Upd (τ τ' : Nat → Tag) (w w' : World) (row : Option Nat) : Prop where
  grow : w.grownBy w' row
  same : ∀ b, b < w.heap.size → τ' b = τ b
theorem grown_below {w w' : World} (h : Below w.heap.size w w') : w.grownBy w' none := ⟨h.os, h.tape, h.output, h.size, fun k hk _ => h.block k hk⟩
theorem grown_set (w : World) (k o : Nat) (u : Value) : w.grownBy (w.setCell ⟨k, o, none⟩ u) (some k) := ⟨rfl, rfl, rfl, by simp, fun j _ hj => heap_setCell_other w ⟨k, o, none⟩ j u (fun e => hj (by simp [e]))⟩
theorem Upd.refl (τ : Nat → Tag) (w : World) (row : Option Nat) : Upd τ τ w w row := ⟨World.grownBy.refl _ _, fun _ _ => rfl⟩
theorem upd_call {τ : Nat → Tag} {w w' : World} (h : Below w.heap.size w w') (t : Tag) : Upd τ (ext τ w.heap.size t) w w' none := ⟨grown_below h, fun _ hb => ext_old hb⟩
theorem upd_same {τ : Nat → Tag} {w w' : World} (h : Below w.heap.size w w') : Upd τ τ w w' none := ⟨grown_below h, fun _ _ => rfl⟩
theorem upd_set (τ : Nat → Tag) (w : World) (k o : Nat) (u : Value) : Upd τ τ w (w.setCell ⟨k, o, none⟩ u) (some k) := ⟨grown_set w k o u, fun _ _ => rfl⟩
theorem Tg.upd {τ τ' : Nat → Tag} {w w' : World} {t : Tag} {v : Value} {row : Option Nat} (h : Tg τ w t v) (u : Upd τ τ' w w' row) : Tg τ' w' t v := fun b hb => by
  obtain ⟨h1, h2⟩ := h b hb
  exact ⟨Nat.lt_of_lt_of_le h1 u.grow.size, (u.same b h1).trans h2⟩
theorem Tg.off {τ : Nat → Tag} {w : World} {t : Tag} {v : Value} {row : Option Nat} (h : Tg τ w t v) (hne : ∀ b, row = some b → τ b ≠ t) : v.ownBlock = none ∨ v.ownBlock ≠ row := by
  cases e : v.ownBlock with
  | none => exact .inl rfl
  | some g => exact .inr (fun h' => hne g h'.symm (h g e).2)
theorem tg_nil (τ : Nat → Tag) (w : World) (t : Tag) (n c : Nat) : Tg τ w t (.slice none n c) := fun b hb => by cases hb
theorem Some'.grown {w w' : World} {v : Value} {d : List Int} {row : Option Nat} (h : Some' w v d) (g : w.grownBy w' row) (hne : v.ownBlock = none ∨ v.ownBlock ≠ row) : Some' w' v d := by
  refine ⟨?_, h.bytes, h.short⟩
  rcases h.at' with h1 | ⟨b, off, cp, h1, h2, h3⟩
  · exact .inl h1
  · refine .inr ⟨b, off, cp, h1, Nat.lt_of_lt_of_le h2 g.size, fun j hj => ?_⟩
    rw [World.cell?_of_block (a := ⟨b, off + j, none⟩) (g.block b h2 (by subst h1; simpa [Value.ownBlock] using hne))]
    exact h3 j hj
/-- Bytes that nobody writes any more. -/
structure ByM (τ : Nat → Tag) (w : World) (v : Value) (d : List Int) : Prop where
  here : Some' w v d
  tag : Tg τ w tFix v
theorem ByM.upd {τ τ' : Nat → Tag} {w w' : World} {v : Value} {d : List Int} {row : Option Nat} (h : ByM τ w v d) (u : Upd τ τ' w w' row) (hf : ∀ b, row = some b → τ b ≠ tFix) : ByM τ' w' v d := ⟨h.here.grown u.grow (h.tag.off hf), h.tag.upd u⟩
theorem byM_nil (τ : Nat → Tag) (w : World) : ByM τ w (.slice none 0 0) [] := ⟨some_nil w, tg_nil _ _ _ _ _⟩
theorem own_small {w : World} {base : Nat} {e : TypeId} {size : Nat} {v : Value} {n : Nat} {xs : List Value} (h : w.ownsRow base e size v n xs) : n ≤ maxLen := by
  rcases h.2 with ⟨-, rfl⟩ | ⟨g, cap, cur, -, -, -, h1, h2, -⟩
  · exact Nat.zero_le _
  · exact Nat.le_trans h1 h2
theorem byM_own {τ : Nat → Tag} {w w' : World} {v : Value} {d : List Int} {n : Nat} (h : w'.ownsRow w.heap.size 5 1 v n (d.map (Value.int .u8))) (hb : Bytes d) : ByM (ext τ w.heap.size tFix) w' v d := by
  have hl : d.length = n := by simpa using h.1
  refine ⟨⟨bytesAt_own h, hb, by rw [hl]; exact own_small h⟩, fun b hv => ?_⟩
  obtain ⟨h1, h2⟩ := h.lt b hv
  exact ⟨h2, ext_new h1⟩
/-- A shard's entries. -/
def EntM (τ : Nat → Tag) (N : Nat) (w : World) (k : Nat) (v : Value) (es : List (List Int)) : Prop :=
  Tg τ w (tEnt k) v ∧ ∃ xs, w.ownsRow N 35 1 v es.length xs ∧ ∀ j, j < es.length → ∃ y, xs[j]? = some y ∧ ByM τ w y (es.getD j [])
theorem EntM.upd {τ τ' : Nat → Tag} {N : Nat} {w w' : World} {k : Nat} {v : Value} {es : List (List Int)} {row : Option Nat} (h : EntM τ N w k v es) (u : Upd τ τ' w w' row) (hf : ∀ b, row = some b → τ b ≠ tFix) (he : ∀ b, row = some b → τ b ≠ tEnt k) : EntM τ' N w' k v es := by
  obtain ⟨h1, xs, h2, h3⟩ := h
  refine ⟨h1.upd u, xs, h2.kept u.grow (h1.off he), fun j hj => ?_⟩
  obtain ⟨y, h4, h5⟩ := h3 j hj
  exact ⟨y, h4, h5.upd u hf⟩
theorem entM_nil (τ : Nat → Tag) (N : Nat) (w : World) (k : Nat) : EntM τ N w k (.slice none 0 0) [] := ⟨tg_nil _ _ _ _ _, [], World.ownsRow_nil _ _ _ _, fun _ hj => absurd hj (Nat.not_lt_zero _)⟩
theorem EntM.form {τ : Nat → Tag} {N : Nat} {w : World} {k : Nat} {v : Value} {es : List (List Int)} (h : EntM τ N w k v es) : ∃ a c, v = .slice a es.length c := by
  obtain ⟨-, xs, h2, -⟩ := h
  exact own_form' h2
theorem EntM.lists {τ : Nat → Tag} {N : Nat} {w : World} {k : Nat} {a : Option Addr} {n c : Nat} {es : List (List Int)} (h : EntM τ N w k (.slice a n c) es) (hn : es.length = n) : Lists w a n c es := by
  obtain ⟨-, xs, h2, h3⟩ := h
  rw [hn] at h2 h3
  obtain ⟨a', c', e, hc1, hc2⟩ := own_cap h2
  cases e
  refine ⟨hn, ?_, hc1, hc2, own_nil h2, fun j => ?_, fun j => ?_⟩
  · refine parts_of_row h2 hn (fun j hj => ?_)
    obtain ⟨y, h4, h5⟩ := h3 j hj
    obtain ⟨ya, yc, rfl⟩ := h5.here.at'.form
    exact ⟨ya, _, yc, h4, h5.here.at'⟩
  · by_cases hj : j < n
    · obtain ⟨y, -, h5⟩ := h3 j hj; exact h5.here.bytes
    · rw [List.getD_eq_getElem?_getD, List.getElem?_eq_none (by omega)]; exact nil_bytes
  · by_cases hj : j < n
    · obtain ⟨y, -, h5⟩ := h3 j hj; exact h5.here.short
    · rw [List.getD_eq_getElem?_getD, List.getElem?_eq_none (by omega)]; exact Nat.zero_le _
/-- A segment's bytes. -/
def PkM (τ : Nat → Tag) (N : Nat) (w : World) (k j : Nat) (v : Value) (d : List Int) : Prop := Tg τ w (tPk k j) v ∧ w.ownsRow N 5 1 v d.length (d.map (Value.int .u8)) ∧ Bytes d
/-- A shard's segments. -/
def SegM (τ : Nat → Tag) (N : Nat) (w : World) (k : Nat) (v : Value) (l : List Seg) : Prop :=
  Tg τ w (tSeg k) v ∧ ∃ vs, w.ownsRow N 147 3 v l.length vs ∧ ∀ j, j < l.length → ∃ y, vs[j * 3]? = some (.int .i64 (l.getD j seg0).first) ∧ vs[j * 3 + 1]? = some (.int .i64 (l.getD j seg0).count) ∧ vs[j * 3 + 2]? = some y ∧ PkM τ N w k j y (l.getD j seg0).packed
theorem PkM.upd {τ τ' : Nat → Tag} {N : Nat} {w w' : World} {k j : Nat} {v : Value} {d : List Int} {row : Option Nat} (h : PkM τ N w k j v d) (u : Upd τ τ' w w' row) (hp : ∀ b, row = some b → τ b ≠ tPk k j) : PkM τ' N w' k j v d := ⟨h.1.upd u, h.2.1.kept u.grow (h.1.off hp), h.2.2⟩
theorem SegM.upd {τ τ' : Nat → Tag} {N : Nat} {w w' : World} {k : Nat} {v : Value} {l : List Seg} {row : Option Nat} (h : SegM τ N w k v l) (u : Upd τ τ' w w' row) (hs : ∀ b, row = some b → τ b ≠ tSeg k) (hp : ∀ j b, row = some b → τ b ≠ tPk k j) : SegM τ' N w' k v l := by
  obtain ⟨h1, vs, h2, h3⟩ := h
  refine ⟨h1.upd u, vs, h2.kept u.grow (h1.off hs), fun j hj => ?_⟩
  obtain ⟨y, h4, h5, h6, h7⟩ := h3 j hj
  exact ⟨y, h4, h5, h6, h7.upd u (hp j)⟩
theorem segM_nil (τ : Nat → Tag) (N : Nat) (w : World) (k : Nat) : SegM τ N w k (.slice none 0 0) [] := ⟨tg_nil _ _ _ _ _, [], World.ownsRow_nil _ _ _ _, fun _ hj => absurd hj (Nat.not_lt_zero _)⟩
theorem SegM.segs {τ : Nat → Tag} {N : Nat} {w : World} {k : Nat} {v : Value} {l : List Seg} (h : SegM τ N w k v l) : SegsAt w v l := by
  obtain ⟨-, vs, h1, h2⟩ := h
  rcases h1.2 with ⟨hv, hn⟩ | ⟨g, cap, cur, rfl, -, hg, h3, h4, -⟩
  · exact ⟨none, 0, by rw [hv, hn], by omega, Nat.zero_le _, fun _ => rfl, .inl hn⟩
  · refine ⟨_, cap, rfl, h3, h4, (fun e => by cases e), .inr ⟨g, 0, rfl, lt_heap hg, fun j hj => ?_⟩⟩
    obtain ⟨y, g0, g1, g2, -, g3, g4⟩ := h2 j hj
    rw [Nat.zero_add]
    refine ⟨(h1.cellAt (j * 3) (by omega)).trans g0, (h1.cellAt (j * 3 + 1) (by omega)).trans g1, ?_⟩
    obtain ⟨pa, pc, rfl, q1, q2⟩ := own_cap g3
    exact ⟨pa, pc, (h1.cellAt (j * 3 + 2) (by omega)).trans g2, ⟨bytesAt_own g3, g4, by omega⟩, q1, q2⟩
theorem SegM.form {τ : Nat → Tag} {N : Nat} {w : World} {k : Nat} {v : Value} {l : List Seg} (h : SegM τ N w k v l) : ∃ a c, v = .slice a l.length c := by
  obtain ⟨a, c, e, -⟩ := h.segs
  exact ⟨a, c, e⟩
/-- A shard's cells. -/
abbrev ShV := Value × Value × Value
def shdV (s : Shd) (v : ShV) : List Value := [.int .i64 s.from', .int .i64 s.to', .int .i64 s.state, v.1, .int .i64 s.man.size, v.2.1, v.2.2]
/-- The shards. -/
structure ShM (τ : Nat → Tag) (N : Nat) (w : World) (sv : Value) (ss : List Shd) (V : Nat → ShV) : Prop where
  tag : Tg τ w tSh sv
  row : ∃ vs, w.ownsRow N 49 7 sv ss.length vs ∧ ∀ k, k < ss.length → ∀ i, i < 7 → vs[k * 7 + i]? = (shdV (ss.getD k shd0) (V k))[i]?
  ent : ∀ k, k < ss.length → EntM τ N w k (V k).1 (ss.getD k shd0).entries
  root : ∀ k, k < ss.length → ByM τ w (V k).2.1 (ss.getD k shd0).man.root
  seg : ∀ k, k < ss.length → SegM τ N w k (V k).2.2 (ss.getD k shd0).man.segs
theorem ShM.upd {τ τ' : Nat → Tag} {N : Nat} {w w' : World} {sv : Value} {ss : List Shd} {V : Nat → ShV} {row : Option Nat} (h : ShM τ N w sv ss V) (u : Upd τ τ' w w' row) (hr : ∀ b, row = some b → τ b = tNo ∨ τ b = tFl ∨ τ b = tBk ∨ τ b = tAn) : ShM τ' N w' sv ss V := by
  have ne : ∀ t : Tag, t ≠ tNo → t ≠ tFl → t ≠ tBk → t ≠ tAn → ∀ b, row = some b → τ b ≠ t := fun t h1 h2 h3 h4 b hb e => by
    rcases hr b hb with g | g | g | g
    · exact h1 (e.symm.trans g)
    · exact h2 (e.symm.trans g)
    · exact h3 (e.symm.trans g)
    · exact h4 (e.symm.trans g)
  have n1 := ne tFix (by decide) (by decide) (by decide) (by decide)
  have n2 := ne tSh (by decide) (by decide) (by decide) (by decide)
  have n3 := fun k => ne (tEnt k) (by simp [tEnt, tNo]) (by simp [tEnt, tFl]) (by simp [tEnt, tBk]) (by simp [tEnt, tAn])
  have n4 := fun k => ne (tSeg k) (by simp [tSeg, tNo]) (by simp [tSeg, tFl]) (by simp [tSeg, tBk]) (by simp [tSeg, tAn])
  have n5 := fun k j => ne (tPk k j) (by simp [tPk, tNo]) (by simp [tPk, tFl]) (by simp [tPk, tBk]) (by simp [tPk, tAn])
  obtain ⟨vs, h1, h2⟩ := h.row
  exact ⟨h.tag.upd u, ⟨vs, h1.kept u.grow (h.tag.off n2), h2⟩, fun k hk => (h.ent k hk).upd u n1 (n3 k), fun k hk => (h.root k hk).upd u n1, fun k hk => (h.seg k hk).upd u (n4 k) (n5 k)⟩
theorem ShM.shards {τ : Nat → Tag} {N : Nat} {w : World} {sv : Value} {ss : List Shd} {V : Nat → ShV} (h : ShM τ N w sv ss V) : ShdsAt w sv ss := by
  obtain ⟨vs, h1, h2⟩ := h.row
  rcases h1.2 with ⟨hv, hn⟩ | ⟨g, cap, cur, rfl, -, hg, h3, h4, -⟩
  · exact ⟨none, 0, by rw [hv, hn], by omega, Nat.zero_le _, fun _ => rfl, .inl hn⟩
  · refine ⟨_, cap, rfl, h3, h4, (fun e => by cases e), .inr ⟨g, 0, rfl, lt_heap hg, fun k hk => ?_⟩⟩
    have hc : ∀ i, i < 7 → w.cell? ⟨g, 0 + k * 7 + i, none⟩ = (shdV (ss.getD k shd0) (V k))[i]? := fun i hi => by rw [Nat.zero_add]; exact (h1.cellAt (k * 7 + i) (by omega)).trans (h2 k hk i hi)
    have hE := h.ent k hk
    obtain ⟨ea, ec, e1⟩ := hE.form
    obtain ⟨ra, rc, e2⟩ := (h.root k hk).here.at'.form
    obtain ⟨ga, gc, e3⟩ := (h.seg k hk).form
    rw [e1] at hE
    refine ⟨hc 0 (by omega), hc 1 (by omega), hc 2 (by omega), ⟨ea, ec, ?_, hE.lists rfl⟩, hc 4 (by omega), ⟨ra, rc, ?_, by rw [← e2]; exact (h.root k hk).here⟩, ⟨ga, gc, ?_, by rw [← e3]; exact (h.seg k hk).segs⟩⟩
    · rw [hc 3 (by omega), ← e1]; rfl
    · rw [hc 5 (by omega), ← e2]; rfl
    · rw [hc 6 (by omega), ← e3]; rfl
/-- A record's cells. -/
def recCs (r : Rec) (v : Value) : List Value := [.int .i64 r.shard, .int .i64 r.from', .int .i64 r.to', .int .i64 r.size, v]
/-- The book. -/
def BkM (τ : Nat → Tag) (N : Nat) (w : World) (bv : Value) (l : List Rec) : Prop :=
  Tg τ w tBk bv ∧ ∃ ys, w.ownsRow N 51 5 bv l.length ys ∧ ∀ j, j < l.length → ∃ rv, (∀ i, i < 5 → ys[j * 5 + i]? = (recCs (l.getD j rec0) rv)[i]?) ∧ ByM τ w rv (l.getD j rec0).root
theorem BkM.upd {τ τ' : Nat → Tag} {N : Nat} {w w' : World} {bv : Value} {l : List Rec} {row : Option Nat} (h : BkM τ N w bv l) (u : Upd τ τ' w w' row) (hf : ∀ b, row = some b → τ b ≠ tFix) (hb : ∀ b, row = some b → τ b ≠ tBk) : BkM τ' N w' bv l := by
  obtain ⟨h1, ys, h2, h3⟩ := h
  refine ⟨h1.upd u, ys, h2.kept u.grow (h1.off hb), fun j hj => ?_⟩
  obtain ⟨rv, h4, h5⟩ := h3 j hj
  exact ⟨rv, h4, h5.upd u hf⟩
theorem bkM_nil (τ : Nat → Tag) (N : Nat) (w : World) : BkM τ N w (.slice none 0 0) [] := ⟨tg_nil _ _ _ _ _, [], World.ownsRow_nil _ _ _ _, fun _ hj => absurd hj (Nat.not_lt_zero _)⟩
theorem BkM.recs {τ : Nat → Tag} {N : Nat} {w : World} {bv : Value} {l : List Rec} (h : BkM τ N w bv l) : RecsAt w bv l := by
  obtain ⟨-, ys, h1, h2⟩ := h
  rcases h1.2 with ⟨hv, hn⟩ | ⟨g, cap, cur, rfl, -, hg, h3, h4, -⟩
  · exact ⟨none, 0, by rw [hv, hn], by omega, Nat.zero_le _, fun _ => rfl, .inl hn⟩
  · refine ⟨_, cap, rfl, h3, h4, (fun e => by cases e), .inr ⟨g, 0, rfl, lt_heap hg, fun k hk => ?_⟩⟩
    obtain ⟨rv, h5, h6⟩ := h2 k hk
    have hc : ∀ i, i < 5 → w.cell? ⟨g, 0 + k * 5 + i, none⟩ = (recCs (l.getD k rec0) rv)[i]? := fun i hi => by rw [Nat.zero_add]; exact (h1.cellAt (k * 5 + i) (by omega)).trans (h5 i hi)
    obtain ⟨ra, rc, e2⟩ := h6.here.at'.form
    subst e2
    exact ⟨hc 0 (by omega), hc 1 (by omega), hc 2 (by omega), hc 3 (by omega), ra, rc, hc 4 (by omega), h6.here⟩
/-- The answers. -/
def ansV (x : Ans) (v : Value) : List Value := [.int .i64 x.err, .int .i64 x.shard, .int .i64 x.place, .int .i64 x.size, v]
def AnM (τ : Nat → Tag) (N : Nat) (w : World) (av : Value) (l : List Ans) : Prop :=
  Tg τ w tAn av ∧ ∃ ys, w.ownsRow N 43 5 av l.length ys ∧ ∀ j, j < l.length → ∃ rv, (∀ i, i < 5 → ys[j * 5 + i]? = (ansV (l.getD j ans0) rv)[i]?) ∧ ByM τ w rv (l.getD j ans0).root
theorem AnM.upd {τ τ' : Nat → Tag} {N : Nat} {w w' : World} {bv : Value} {l : List Ans} {row : Option Nat} (h : AnM τ N w bv l) (u : Upd τ τ' w w' row) (hf : ∀ b, row = some b → τ b ≠ tFix) (hb : ∀ b, row = some b → τ b ≠ tAn) : AnM τ' N w' bv l := by
  obtain ⟨h1, ys, h2, h3⟩ := h
  refine ⟨h1.upd u, ys, h2.kept u.grow (h1.off hb), fun j hj => ?_⟩
  obtain ⟨rv, h4, h5⟩ := h3 j hj
  exact ⟨rv, h4, h5.upd u hf⟩
theorem AnM.anss {τ : Nat → Tag} {N : Nat} {w : World} {bv : Value} {l : List Ans} (h : AnM τ N w bv l) : AnssAt w bv l := by
  obtain ⟨-, ys, h1, h2⟩ := h
  rcases h1.2 with ⟨hv, hn⟩ | ⟨g, cap, cur, rfl, -, hg, h3, h4, -⟩
  · exact ⟨none, 0, by rw [hv, hn], by omega, Nat.zero_le _, fun _ => rfl, .inl hn⟩
  · refine ⟨_, cap, rfl, h3, h4, (fun e => by cases e), .inr ⟨g, 0, rfl, lt_heap hg, fun k hk => ?_⟩⟩
    obtain ⟨rv, h5, h6⟩ := h2 k hk
    have hc : ∀ i, i < 5 → w.cell? ⟨g, 0 + k * 5 + i, none⟩ = (ansV (l.getD k ans0) rv)[i]? := fun i hi => by rw [Nat.zero_add]; exact (h1.cellAt (k * 5 + i) (by omega)).trans (h5 i hi)
    obtain ⟨ra, rc, e2⟩ := h6.here.at'.form
    subst e2
    exact ⟨hc 0 (by omega), hc 1 (by omega), hc 2 (by omega), hc 3 (by omega), ra, rc, hc 4 (by omega), h6.here⟩
/-- An answer by itself. -/
def AnV (τ : Nat → Tag) (w : World) (v : Value) (x : Ans) : Prop := ∃ rv, v = .agg #[.int .i64 x.err, .int .i64 x.shard, .int .i64 x.place, .int .i64 x.size, rv] ∧ ByM τ w rv x.root
/-- The fleet. -/
structure GoF (τ : Nat → Tag) (N : Nat) (w : World) (gp : Nat) (f : Flt) : Prop where
  low : N ≤ gp
  tag : τ gp = tFl
  parts : ∃ sv bv V, w.heap[gp]? = some (.cells #[sv, bv] 84 (0, 0)) ∧ ShM τ N w sv f.shards V ∧ BkM τ N w bv f.book
theorem GoF.upd {τ τ' : Nat → Tag} {N : Nat} {w w' : World} {gp : Nat} {f : Flt} {row : Option Nat} (h : GoF τ N w gp f) (u : Upd τ τ' w w' row) (hr : ∀ b, row = some b → τ b = tNo ∨ τ b = tAn) : GoF τ' N w' gp f := by
  obtain ⟨h0, h1, sv, bv, V, h2, h3, h4⟩ := h
  have ne : ∀ t : Tag, t ≠ tNo → t ≠ tAn → ∀ b, row = some b → τ b ≠ t := fun t h1 h4 b hb e => by
    rcases hr b hb with g | g
    · exact h1 (e.symm.trans g)
    · exact h4 (e.symm.trans g)
  have hg : w'.heap[gp]? = w.heap[gp]? := u.grow.block gp (lt_heap h2) (fun e => ne tFl (by decide) (by decide) gp e.symm h1)
  exact ⟨h0, (u.same gp (lt_heap h2)).trans h1, sv, bv, V, hg.trans h2, h3.upd u (fun b hb => (hr b hb).elim .inl (fun h => .inr (.inr (.inr h)))), h4.upd u (ne tFix (by decide) (by decide)) (ne tBk (by decide) (by decide))⟩
/-- What a call leaves as it was. -/
structure Keep (τ τ' : Nat → Tag) (N : Nat) (w w' : World) : Prop where
  low : Below N w w'
  size : w.heap.size ≤ w'.heap.size
  same : ∀ b, b < w.heap.size → τ' b = τ b
  block : ∀ b, b < w.heap.size → (τ b = tFix ∨ τ b = tNo ∨ τ b = tAn) → w'.heap[b]? = w.heap[b]?
theorem keep_upd {τ τ' : Nat → Tag} {N : Nat} {w w' : World} {row : Option Nat} (u : Upd τ τ' w w' row) (hN : N ≤ w.heap.size) (hr : ∀ b, row = some b → N ≤ b ∧ τ b ≠ tFix ∧ τ b ≠ tNo ∧ τ b ≠ tAn) : Keep τ τ' N w w' :=
  ⟨(Below.refl _ _).grown u.grow hN (fun b hb => (hr b hb).1), u.grow.size, u.same, fun b hb ht => u.grow.block b hb (fun e => by
    obtain ⟨-, n1, n2, n3⟩ := hr b e.symm
    rcases ht with h | h | h
    · exact n1 h
    · exact n2 h
    · exact n3 h)⟩
theorem Keep.trans {τ τ1 τ2 : Nat → Tag} {N : Nat} {a b c : World} (h : Keep τ τ1 N a b) (g : Keep τ1 τ2 N b c) : Keep τ τ2 N a c :=
  ⟨h.low.trans g.low, Nat.le_trans h.size g.size, fun k hk => (g.same k (Nat.lt_of_lt_of_le hk h.size)).trans (h.same k hk), fun k hk ht => (g.block k (Nat.lt_of_lt_of_le hk h.size) (by rw [h.same k hk]; exact ht)).trans (h.block k hk ht)⟩
theorem keep_call {τ : Nat → Tag} {N : Nat} {w w' : World} (h : Below w.heap.size w w') (hN : N ≤ w.heap.size) (t : Tag) : Keep τ (ext τ w.heap.size t) N w w' := keep_upd (upd_call h t) hN (fun _ hb => by cases hb)
/-- A new block of the call's own is written. -/
theorem keep_set {τ τ' : Nat → Tag} {N : Nat} {w0 w : World} (h : Keep τ τ' N w0 w) (hN : N ≤ w0.heap.size) {k : Nat} (hk : w0.heap.size ≤ k) (o : Nat) (u : Value) : Keep τ τ' N w0 (w.setCell ⟨k, o, none⟩ u) :=
  ⟨h.low.setCell (Nat.le_trans hN hk) _, by simpa using h.size, h.same, fun b hb ht => by
    rw [heap_setCell_other w ⟨k, o, none⟩ b u (fun e => by have e : b = k := e; omega)]
    exact h.block b hb ht⟩
theorem Keep.byM {τ τ' : Nat → Tag} {N : Nat} {w w' : World} {v : Value} {d : List Int} (h : Keep τ τ' N w w') (hb : ByM τ w v d) : ByM τ' w' v d := by
  refine ⟨⟨?_, hb.here.bytes, hb.here.short⟩, fun b hv => ?_⟩
  · rcases hb.here.at' with h1 | ⟨b, off, cp, h1, h2, h3⟩
    · exact .inl h1
    · refine .inr ⟨b, off, cp, h1, Nat.lt_of_lt_of_le h2 h.size, fun j hj => ?_⟩
      rw [World.cell?_of_block (a := ⟨b, off + j, none⟩) (h.block b h2 (.inl (hb.tag b (by subst h1; rfl)).2))]
      exact h3 j hj
  · obtain ⟨h1, h2⟩ := hb.tag b hv
    exact ⟨Nat.lt_of_lt_of_le h1 h.size, (h.same b h1).trans h2⟩
theorem Keep.anM {τ τ' : Nat → Tag} {N : Nat} {w w' : World} {v : Value} {l : List Ans} (h : Keep τ τ' N w w') (hb : AnM τ N w v l) : AnM τ' N w' v l := by
  obtain ⟨h1, ys, h2, h3⟩ := hb
  refine ⟨fun b hv => ?_, ys, ?_, fun j hj => ?_⟩
  · obtain ⟨g1, g2⟩ := h1 b hv
    exact ⟨Nat.lt_of_lt_of_le g1 h.size, (h.same b g1).trans g2⟩
  · refine ⟨h2.1, ?_⟩
    rcases h2.2 with hn | ⟨g, cap, cur, rfl, hb, hgg, rest⟩
    · exact .inl hn
    · exact .inr ⟨g, cap, cur, rfl, hb, (h.block g (lt_heap hgg) (.inr (.inr (h1 g rfl).2))).trans hgg, rest⟩
  · obtain ⟨rv, h4, h5⟩ := h3 j hj
    exact ⟨rv, h4, h.byM h5⟩
theorem Keep.box {τ τ' : Nat → Tag} {N : Nat} {w w' : World} {k : Nat} {x : Obj} (h : Keep τ τ' N w w') (ht : τ k = tNo) (hk : w.heap[k]? = some x) : w'.heap[k]? = some x := (h.block k (lt_heap hk) (.inr (.inl ht))).trans hk

end Go.Proofs.YtkjlchfmplcobafGreatDoor

/- A fleet that goes on, in memory: how it is changed. Nothing of the program's functions is in it. -/
namespace Go.Proofs.YtkjlchfmplcobafGreatDoor
open Go.RowKit

theorem shdV_length (s : Shd) (v : ShV) : (shdV s v).length = 7 := rfl
/-- The shards but for what the one of number k leads to. -/
structure ShO (τ : Nat → Tag) (N : Nat) (w : World) (sv : Value) (ss : List Shd) (V : Nat → ShV) (k : Nat) : Prop where
  tag : Tg τ w tSh sv
  row : ∃ vs, w.ownsRow N 49 7 sv ss.length vs ∧ ∀ k, k < ss.length → ∀ i, i < 7 → vs[k * 7 + i]? = (shdV (ss.getD k shd0) (V k))[i]?
  ent : ∀ j, j < ss.length → j ≠ k → EntM τ N w j (V j).1 (ss.getD j shd0).entries
  root : ∀ j, j < ss.length → j ≠ k → ByM τ w (V j).2.1 (ss.getD j shd0).man.root
  seg : ∀ j, j < ss.length → j ≠ k → SegM τ N w j (V j).2.2 (ss.getD j shd0).man.segs
theorem ShM.out {τ : Nat → Tag} {N : Nat} {w : World} {sv : Value} {ss : List Shd} {V : Nat → ShV} (h : ShM τ N w sv ss V) (k : Nat) : ShO τ N w sv ss V k := ⟨h.tag, h.row, fun j hj _ => h.ent j hj, fun j hj _ => h.root j hj, fun j hj _ => h.seg j hj⟩
theorem ShO.back {τ : Nat → Tag} {N : Nat} {w : World} {sv : Value} {ss : List Shd} {V : Nat → ShV} {k : Nat} (h : ShO τ N w sv ss V k) (h1 : EntM τ N w k (V k).1 (ss.getD k shd0).entries) (h2 : ByM τ w (V k).2.1 (ss.getD k shd0).man.root) (h3 : SegM τ N w k (V k).2.2 (ss.getD k shd0).man.segs) : ShM τ N w sv ss V := by
  refine ⟨h.tag, h.row, fun j hj => ?_, fun j hj => ?_, fun j hj => ?_⟩
  · by_cases e : j = k
    · subst e; exact h1
    · exact h.ent j hj e
  · by_cases e : j = k
    · subst e; exact h2
    · exact h.root j hj e
  · by_cases e : j = k
    · subst e; exact h3
    · exact h.seg j hj e
/-- What may be written while the shard k is turned. -/
def mine (k : Nat) (t : Tag) : Prop := t = tNo ∨ t = tFl ∨ t = tBk ∨ t = tAn ∨ t = tEnt k ∨ t = tSeg k ∨ ∃ j, t = tPk k j
theorem mine_fix {k : Nat} {t : Tag} (h : mine k t) : t ≠ tFix ∧ t ≠ tSh := by
  rcases h with rfl | rfl | rfl | rfl | rfl | rfl | ⟨j, rfl⟩ <;> simp [tNo, tFl, tBk, tAn, tEnt, tSeg, tPk, tFix, tSh]
theorem mine_other {k j : Nat} {t : Tag} (h : mine k t) (hj : j ≠ k) : t ≠ tEnt j ∧ t ≠ tSeg j ∧ ∀ i, t ≠ tPk j i := by
  rcases h with rfl | rfl | rfl | rfl | rfl | rfl | ⟨q, rfl⟩ <;> simp [tNo, tFl, tBk, tAn, tEnt, tSeg, tPk] <;> omega
theorem ShO.upd {τ τ' : Nat → Tag} {N : Nat} {w w' : World} {sv : Value} {ss : List Shd} {V : Nat → ShV} {k : Nat} {row : Option Nat} (h : ShO τ N w sv ss V k) (u : Upd τ τ' w w' row) (hr : ∀ b, row = some b → mine k (τ b)) : ShO τ' N w' sv ss V k := by
  obtain ⟨vs, h1, h2⟩ := h.row
  have n1 : ∀ b, row = some b → τ b ≠ tFix := fun b hb => (mine_fix (hr b hb)).1
  exact ⟨h.tag.upd u, ⟨vs, h1.kept u.grow (h.tag.off (fun b hb => (mine_fix (hr b hb)).2)), h2⟩, fun j hj hk => (h.ent j hj hk).upd u n1 (fun b hb => (mine_other (hr b hb) hk).1), fun j hj hk => (h.root j hj hk).upd u n1, fun j hj hk => (h.seg j hj hk).upd u (fun b hb => (mine_other (hr b hb) hk).2.1) (fun i b hb => (mine_other (hr b hb) hk).2.2 i)⟩
/-- Where a shard's cells lie. -/
theorem ShO.cells {τ : Nat → Tag} {N : Nat} {w : World} {sa : Option Addr} {n c k : Nat} {ss : List Shd} {V : Nat → ShV} (h : ShO τ N w (.slice sa n c) ss V k) (hn : ss.length = n) (hk : k < n) :
    ∃ sb, sa = some ⟨sb, 0, none⟩ ∧ N ≤ sb ∧ sb < w.heap.size ∧ τ sb = tSh ∧ (∀ i, w.frozen? ⟨sb, i, none⟩ = false) ∧ ∀ i, i < 7 → w.cell? ⟨sb, k * 7 + i, none⟩ = (shdV (ss.getD k shd0) (V k))[i]? := by
  obtain ⟨vs, h1, h2⟩ := h.row
  rw [hn] at h1 h2
  rcases h1.2 with ⟨-, h0⟩ | ⟨g, cap, cur, e, hb, hg, -⟩
  · omega
  · simp only [Value.slice.injEq, true_and] at e
    obtain ⟨rfl, rfl⟩ := e
    obtain ⟨t1, t2⟩ := h.tag g rfl
    exact ⟨g, rfl, hb, t1, t2, fun i => h1.frozenAt i, fun i hi => (h1.cellAt (k * 7 + i) (by omega)).trans (h2 k hk i hi)⟩
/-- One of its cells is written. -/
theorem ShO.store {τ : Nat → Tag} {N : Nat} {w : World} {sb n c k i : Nat} {ss : List Shd} {V : Nat → ShV} {s' : Shd} {v' : ShV} {u : Value} (h : ShO τ N w (.slice (some ⟨sb, 0, none⟩) n c) ss V k) (hn : ss.length = n) (hk : k < n) (hi : i < 7) (hs : shdV s' v' = (shdV (ss.getD k shd0) (V k)).set i u) :
    ShO τ N (w.setCell ⟨sb, k * 7 + i, none⟩ u) (.slice (some ⟨sb, 0, none⟩) n c) (ss.set k s') (fun j => if j = k then v' else V j) k := by
  obtain ⟨vs, h1, h2⟩ := h.row
  have ht := (h.tag sb rfl).2
  have U := upd_set τ w sb (k * 7 + i) u
  have ne : ∀ t : Tag, t ≠ tSh → ∀ b, some sb = some b → τ b ≠ t := fun t h1 b hb e => by cases hb; exact h1 (e.symm.trans ht)
  have hlen : (ss.set k s').length = ss.length := List.length_set
  rw [hn] at h1 h2
  obtain ⟨h3, -⟩ := h1.stored (k * 7 + i) u
  refine ⟨h.tag.upd U, ⟨vs.set (k * 7 + i) u, by rw [hlen, hn]; exact h3, fun j hj q hq => ?_⟩, fun j hj hjk => ?_, fun j hj hjk => ?_, fun j hj hjk => ?_⟩
  · rw [hlen, hn] at hj
    by_cases e : j = k
    · subst e
      rw [if_pos rfl, getD_set_same (by omega), hs]
      by_cases e2 : q = i
      · subst e2
        rw [List.getElem?_set_self (by rw [h1.1]; omega), List.getElem?_set_self (by rw [shdV_length]; exact hi)]
      · rw [List.getElem?_set_ne (by omega), List.getElem?_set_ne (by omega)]
        exact h2 j hj q hq
    · rw [if_neg e, getD_set_other (fun h => e h.symm), List.getElem?_set_ne (by omega)]
      exact h2 j hj q hq
  · rw [hlen] at hj
    rw [if_neg hjk, getD_set_other (fun h => hjk h.symm)]
    exact (h.ent j hj hjk).upd U (ne _ (by decide)) (ne _ (by simp [tEnt, tSh]))
  · rw [hlen] at hj
    rw [if_neg hjk, getD_set_other (fun h => hjk h.symm)]
    exact (h.root j hj hjk).upd U (ne _ (by decide))
  · rw [hlen] at hj
    rw [if_neg hjk, getD_set_other (fun h => hjk h.symm)]
    exact (h.seg j hj hjk).upd U (ne _ (by simp [tSeg, tSh])) (fun q => ne _ (by simp [tPk, tSh]))
theorem set_set {α : Type} (l : List α) (k : Nat) (x y : α) : (l.set k x).set k y = l.set k y := List.set_set ..
/-- A list of values, m for each of a list's elements, one element more. -/
theorem rows_snoc {α : Type} {m : Nat} {l : List α} {x d : α} {ys news : List Value} {F : Nat → α → Value → List Value} {R : α → Value → Prop} {v : Value} (hl : ys.length = l.length * m) (h : ∀ j, j < l.length → ∃ rv, (∀ i, i < m → ys[j * m + i]? = (F j (l.getD j d) rv)[i]?) ∧ R (l.getD j d) rv) (hn : ∀ i, i < m → news[i]? = (F l.length x v)[i]?) (hR : R x v) :
    ∀ j, j < (l ++ [x]).length → ∃ rv, (∀ i, i < m → (ys ++ news)[j * m + i]? = (F j ((l ++ [x]).getD j d) rv)[i]?) ∧ R ((l ++ [x]).getD j d) rv := fun j hj => by
  by_cases e : j < l.length
  · obtain ⟨rv, h1, h2⟩ := h j e
    have eg : (l ++ [x]).getD j d = l.getD j d := by rw [snoc_get, if_pos e]
    rw [eg]
    refine ⟨rv, fun i hi => ?_, h2⟩
    have hlt : j * m + i < ys.length := by
      rw [hl]
      have : (j + 1) * m ≤ l.length * m := Nat.mul_le_mul_right m e
      rw [Nat.add_mul, Nat.one_mul] at this
      omega
    rw [List.getElem?_append_left hlt]
    exact h1 i hi
  · obtain rfl : j = l.length := by simp at hj; omega
    have eg : (l ++ [x]).getD l.length d = x := by rw [snoc_get, if_neg (Nat.lt_irrefl _), if_pos rfl]
    rw [eg]
    refine ⟨v, fun i hi => ?_, hR⟩
    rw [List.getElem?_append_right (by rw [hl]; omega), hl, show l.length * m + i - l.length * m = i by omega]
    exact hn i hi
/-- A block to which a row has grown is for what it was for, or is new. -/
theorem grown_tag {τ : Nat → Tag} {w w' : World} {t : Tag} {v : Value} {g n cap : Nat} (h : Tg τ w t v) (hg : v.ownBlock = some g ∨ g = w.heap.size) (hlt : g < w'.heap.size) : Tg (ext τ w.heap.size t) w' t (.slice (some ⟨g, 0, none⟩) n cap) := fun b hb => by
  cases hb
  refine ⟨hlt, ?_⟩
  rcases hg with hg | rfl
  · obtain ⟨h1, h2⟩ := h g hg
    rw [ext_old h1]; exact h2
  · exact ext_new (Nat.le_refl _)
/-- The entries have grown by one. -/
theorem EntM.snoc {τ : Nat → Tag} {N k : Nat} {w w' : World} {v y : Value} {es : List (List Int)} {e : List Int} {g cap : Nat} {xs : List Value} (hT : Tg τ w (tEnt k) v) (hx : ∀ j, j < es.length → ∃ y, xs[j]? = some y ∧ ByM τ w y (es.getD j [])) (hl : xs.length = es.length)
    (ho : w'.ownsRow N 35 1 (.slice (some ⟨g, 0, none⟩) (es.length + 1) cap) (es.length + 1) (xs ++ [y])) (hg : w.grownBy w' v.ownBlock) (ha : v.ownBlock = some g ∨ g = w.heap.size) (hlt : g < w'.heap.size) (hy : ByM τ w y e) :
    EntM (ext τ w.heap.size (tEnt k)) N w' k (.slice (some ⟨g, 0, none⟩) (es.length + 1) cap) (es ++ [e]) := by
  have U : Upd τ (ext τ w.heap.size (tEnt k)) w w' v.ownBlock := ⟨hg, fun _ hb => ext_old hb⟩
  have nf : ∀ b, v.ownBlock = some b → τ b ≠ tFix := fun b hb e => by have := (hT b hb).2; rw [e] at this; simp [tFix, tEnt] at this
  refine ⟨grown_tag hT ha hlt, xs ++ [y], by rw [List.length_append]; exact ho, fun j hj => ?_⟩
  by_cases q : j < es.length
  · obtain ⟨z, h1, h2⟩ := hx j q
    refine ⟨z, by rw [List.getElem?_append_left (by omega)]; exact h1, ?_⟩
    rw [snoc_get, if_pos q]
    exact h2.upd U nf
  · obtain rfl : j = es.length := by simp at hj; omega
    refine ⟨y, by rw [List.getElem?_append_right (by omega), hl, Nat.sub_self]; rfl, ?_⟩
    rw [snoc_get, if_neg (Nat.lt_irrefl _), if_pos rfl]
    exact hy.upd U nf
/-- So has the book. -/
theorem BkM.snoc {τ : Nat → Tag} {N : Nat} {w w' : World} {v rv : Value} {l : List Rec} {r : Rec} {g cap : Nat} {ys : List Value} (hT : Tg τ w tBk v) (hl : ys.length = l.length * 5) (hx : ∀ j, j < l.length → ∃ rv, (∀ i, i < 5 → ys[j * 5 + i]? = (recCs (l.getD j rec0) rv)[i]?) ∧ ByM τ w rv (l.getD j rec0).root)
    (ho : w'.ownsRow N 51 5 (.slice (some ⟨g, 0, none⟩) (l.length + 1) cap) (l.length + 1) (ys ++ recCs r rv)) (hg : w.grownBy w' v.ownBlock) (ha : v.ownBlock = some g ∨ g = w.heap.size) (hlt : g < w'.heap.size) (hy : ByM τ w rv r.root) :
    BkM (ext τ w.heap.size tBk) N w' (.slice (some ⟨g, 0, none⟩) (l.length + 1) cap) (l ++ [r]) := by
  have U : Upd τ (ext τ w.heap.size tBk) w w' v.ownBlock := ⟨hg, fun _ hb => ext_old hb⟩
  have nf : ∀ b, v.ownBlock = some b → τ b ≠ tFix := fun b hb e => by have := (hT b hb).2; rw [e] at this; simp [tFix, tBk] at this
  refine ⟨grown_tag hT ha hlt, ys ++ recCs r rv, by rw [List.length_append]; exact ho, ?_⟩
  exact rows_snoc (F := fun _ x v => recCs x v) (R := fun x v => ByM (ext τ w.heap.size tBk) w' v x.root) hl (fun j hj => by obtain ⟨q, h1, h2⟩ := hx j hj; exact ⟨q, h1, h2.upd U nf⟩) (fun i hi => rfl) (hy.upd U nf)
/-- And the answers. -/
theorem AnM.snoc {τ : Nat → Tag} {N : Nat} {w w' : World} {v rv : Value} {l : List Ans} {r : Ans} {g cap : Nat} {ys : List Value} (hT : Tg τ w tAn v) (hl : ys.length = l.length * 5) (hx : ∀ j, j < l.length → ∃ rv, (∀ i, i < 5 → ys[j * 5 + i]? = (ansV (l.getD j ans0) rv)[i]?) ∧ ByM τ w rv (l.getD j ans0).root)
    (ho : w'.ownsRow N 43 5 (.slice (some ⟨g, 0, none⟩) (l.length + 1) cap) (l.length + 1) (ys ++ ansV r rv)) (hg : w.grownBy w' v.ownBlock) (ha : v.ownBlock = some g ∨ g = w.heap.size) (hlt : g < w'.heap.size) (hy : ByM τ w rv r.root) :
    AnM (ext τ w.heap.size tAn) N w' (.slice (some ⟨g, 0, none⟩) (l.length + 1) cap) (l ++ [r]) := by
  have U : Upd τ (ext τ w.heap.size tAn) w w' v.ownBlock := ⟨hg, fun _ hb => ext_old hb⟩
  have nf : ∀ b, v.ownBlock = some b → τ b ≠ tFix := fun b hb e => by have := (hT b hb).2; rw [e] at this; simp [tFix, tAn] at this
  refine ⟨grown_tag hT ha hlt, ys ++ ansV r rv, by rw [List.length_append]; exact ho, ?_⟩
  exact rows_snoc (F := fun _ x v => ansV x v) (R := fun x v => ByM (ext τ w.heap.size tAn) w' v x.root) hl (fun j hj => by obtain ⟨q, h1, h2⟩ := hx j hj; exact ⟨q, h1, h2.upd U nf⟩) (fun i hi => rfl) (hy.upd U nf)

/-- The fleet but for its shards. -/
structure GoB (τ : Nat → Tag) (N : Nat) (w : World) (gp : Nat) (sv bv : Value) (l : List Rec) : Prop where
  low : N ≤ gp
  tag : τ gp = tFl
  box : w.heap[gp]? = some (.cells #[sv, bv] 84 (0, 0))
  bk : BkM τ N w bv l
theorem GoB.upd {τ τ' : Nat → Tag} {N : Nat} {w w' : World} {gp : Nat} {sv bv : Value} {l : List Rec} {row : Option Nat} (h : GoB τ N w gp sv bv l) (u : Upd τ τ' w w' row) (hr : ∀ b, row = some b → τ b ≠ tFl ∧ τ b ≠ tBk ∧ τ b ≠ tFix) : GoB τ' N w' gp sv bv l :=
  ⟨h.low, (u.same gp (lt_heap h.box)).trans h.tag, (u.grow.block gp (lt_heap h.box) (fun e => (hr gp e.symm).1 h.tag)).trans h.box, h.bk.upd u (fun b hb => (hr b hb).2.2) (fun b hb => (hr b hb).2.1)⟩
theorem GoB.goF {τ : Nat → Tag} {N : Nat} {w : World} {gp : Nat} {sv bv : Value} {l : List Rec} {ss : List Shd} {V : Nat → ShV} (h : GoB τ N w gp sv bv l) (hS : ShM τ N w sv ss V) : GoF τ N w gp ⟨ss, l⟩ := ⟨h.low, h.tag, sv, bv, V, h.box, hS, h.bk⟩
theorem GoF.open {τ : Nat → Tag} {N : Nat} {w : World} {gp : Nat} {f : Flt} (h : GoF τ N w gp f) : ∃ sa sc ba bc V, GoB τ N w gp (.slice sa f.shards.length sc) (.slice ba f.book.length bc) f.book ∧ ShM τ N w (.slice sa f.shards.length sc) f.shards V := by
  obtain ⟨h0, h1, sv, bv, V, h2, h3, h4⟩ := h
  obtain ⟨sa, sc, e1, -⟩ := h3.shards
  obtain ⟨ba, bc, e2, -⟩ := h4.recs
  subst e1
  subst e2
  exact ⟨sa, sc, ba, bc, V, ⟨h0, h1, h2, h4⟩, h3⟩
theorem no_row {P : Nat → Prop} : ∀ b, (none : Option Nat) = some b → P b := fun _ hb => by cases hb
/-- A call that only makes memory has ended, and an answer is written into a variable of the caller's own. -/
theorem GoF.five {τ : Nat → Tag} {N : Nat} {w : World} {gp R : Nat} {f : Flt} (h : GoF τ N w gp f) (hR : τ R = tNo) (u0 u1 u2 u3 u4 : Value) : GoF τ N (((((w.setCell ⟨R, 0, none⟩ u0).setCell ⟨R, 1, none⟩ u1).setCell ⟨R, 2, none⟩ u2).setCell ⟨R, 3, none⟩ u3).setCell ⟨R, 4, none⟩ u4) gp f := by
  have hr : ∀ b, some R = some b → τ b = tNo ∨ τ b = tAn := fun b hb => by cases hb; exact .inl hR
  exact ((((h.upd (upd_set τ _ R 0 u0) hr).upd (upd_set τ _ R 1 u1) hr).upd (upd_set τ _ R 2 u2) hr).upd (upd_set τ _ R 3 u3) hr).upd (upd_set τ _ R 4 u4) hr
theorem ByM.five {τ : Nat → Tag} {w : World} {R : Nat} {v : Value} {d : List Int} (h : ByM τ w v d) (hR : τ R = tNo) (u0 u1 u2 u3 u4 : Value) : ByM τ (((((w.setCell ⟨R, 0, none⟩ u0).setCell ⟨R, 1, none⟩ u1).setCell ⟨R, 2, none⟩ u2).setCell ⟨R, 3, none⟩ u3).setCell ⟨R, 4, none⟩ u4) v d := by
  have hr : ∀ b, some R = some b → τ b ≠ tFix := fun b hb => by cases hb; rw [hR]; decide
  exact ((((h.upd (upd_set τ _ R 0 u0) hr).upd (upd_set τ _ R 1 u1) hr).upd (upd_set τ _ R 2 u2) hr).upd (upd_set τ _ R 3 u3) hr).upd (upd_set τ _ R 4 u4) hr
theorem Keep.five {τ τ' : Nat → Tag} {N R : Nat} {w0 w : World} (h : Keep τ τ' N w0 w) (hN : N ≤ w0.heap.size) (hR : w0.heap.size ≤ R) (u0 u1 u2 u3 u4 : Value) : Keep τ τ' N w0 (((((w.setCell ⟨R, 0, none⟩ u0).setCell ⟨R, 1, none⟩ u1).setCell ⟨R, 2, none⟩ u2).setCell ⟨R, 3, none⟩ u3).setCell ⟨R, 4, none⟩ u4) :=
  keep_set (keep_set (keep_set (keep_set (keep_set h hN hR 0 u0) hN hR 1 u1) hN hR 2 u2) hN hR 3 u3) hN hR 4 u4
/-- What a step leaves: an answer, and the fleet. -/
def Went (τ : Nat → Tag) (N gp : Nat) (w w' : World) (av : Value) (fa : Flt × Ans) : Prop := ∃ τ', AnV τ' w' av fa.2 ∧ GoF τ' N w' gp fa.1 ∧ Keep τ τ' N w w'
/-- Nothing was done. -/
theorem went_no {τ : Nat → Tag} {N gp R : Nat} {w w1 : World} {f : Flt} {x : Ans} (h : GoF τ N w gp f) (hN : N ≤ w.heap.size) (hb : Below w.heap.size w w1) (hR : w.heap.size ≤ R) (hx : x.root = []) (u0 u1 u2 u3 u4 : Value) :
    Went τ N gp w (((((w1.setCell ⟨R, 0, none⟩ u0).setCell ⟨R, 1, none⟩ u1).setCell ⟨R, 2, none⟩ u2).setCell ⟨R, 3, none⟩ u3).setCell ⟨R, 4, none⟩ u4) (.agg #[.int .i64 x.err, .int .i64 x.shard, .int .i64 x.place, .int .i64 x.size, .slice none 0 0]) (f, x) :=
  ⟨ext τ w.heap.size tNo, ⟨_, rfl, by rw [hx]; exact byM_nil _ _⟩, (h.upd (upd_call hb tNo) no_row).five (ext_new hR) _ _ _ _ _, (keep_call hb hN tNo).five hN hR _ _ _ _ _⟩

/-- A shard's cell is written that leads nowhere, or to what is there. -/
theorem ShM.turn {τ : Nat → Tag} {N sb n c k i : Nat} {w : World} {ss : List Shd} {V : Nat → ShV} {s' : Shd} {v' : ShV} {u : Value} (h : ShM τ N w (.slice (some ⟨sb, 0, none⟩) n c) ss V) (hn : ss.length = n) (hk : k < n) (hi : i < 7) (hs : shdV s' v' = (shdV (ss.getD k shd0) (V k)).set i u) (h1 : EntM τ N w k v'.1 s'.entries) (h2 : ByM τ w v'.2.1 s'.man.root) (h3 : SegM τ N w k v'.2.2 s'.man.segs) :
    ShM τ N (w.setCell ⟨sb, k * 7 + i, none⟩ u) (.slice (some ⟨sb, 0, none⟩) n c) (ss.set k s') (fun j => if j = k then v' else V j) := by
  have ht := (h.tag sb rfl).2
  have U := upd_set τ w sb (k * 7 + i) u
  have ne : ∀ t : Tag, t ≠ tSh → ∀ b, some sb = some b → τ b ≠ t := fun t h1 b hb e => by cases hb; exact h1 (e.symm.trans ht)
  refine ((h.out k).store (i := i) (u := u) (s' := s') (v' := v') hn hk hi hs).back ?_ ?_ ?_
  · rw [if_pos rfl, getD_set_same (by omega)]; exact h1.upd U (ne _ (by decide)) (ne _ (by simp [tEnt, tSh]))
  · rw [if_pos rfl, getD_set_same (by omega)]; exact h2.upd U (ne _ (by decide))
  · rw [if_pos rfl, getD_set_same (by omega)]; exact h3.upd U (ne _ (by simp [tSeg, tSh])) (fun j => ne _ (by simp [tPk, tSh]))
theorem GoB.turn {τ : Nat → Tag} {N gp sb o : Nat} {w : World} {sv bv u : Value} {l : List Rec} (h : GoB τ N w gp sv bv l) (ht : τ sb = tSh) : GoB τ N (w.setCell ⟨sb, o, none⟩ u) gp sv bv l := h.upd (upd_set τ w sb o u) (fun b hb => by cases hb; rw [ht]; decide)
theorem keep_turn {τ : Nat → Tag} {N sb o : Nat} {w : World} {u : Value} (hN : N ≤ w.heap.size) (hs : N ≤ sb) (ht : τ sb = tSh) : Keep τ τ N w (w.setCell ⟨sb, o, none⟩ u) := keep_upd (upd_set τ w sb o u) hN (fun b hb => by cases hb; rw [ht]; exact ⟨hs, by decide⟩)
/-- A shard's answer is told, its head copied. -/
theorem went_head {τ τ' : Nat → Tag} {N gp R : Nat} {w W w8 : World} {f' : Flt} {k n : Int} {d : List Int} {ta : Option Addr} {tc : Nat} (hF : GoF τ' N W gp f') (hK : Keep τ τ' N w W) (hN : N ≤ w.heap.size) (hR : τ' R = tNo) (hRl : R < W.heap.size) (hRw : w.heap.size ≤ R) (hb8 : Below W.heap.size W w8) (ho8 : w8.ownsRow W.heap.size 5 1 (.slice ta d.length tc) d.length (d.map (Value.int .u8))) (hd : Bytes d) (u0 u1 u2 u3 u4 : Value) :
    Went τ N gp w (((((w8.setCell ⟨R, 0, none⟩ u0).setCell ⟨R, 1, none⟩ u1).setCell ⟨R, 2, none⟩ u2).setCell ⟨R, 3, none⟩ u3).setCell ⟨R, 4, none⟩ u4) (.agg #[.int .i64 0, .int .i64 k, .int .i64 0, .int .i64 n, .slice ta d.length tc]) (f', ⟨0, k, 0, n, d⟩) := by
  have hN7 : N ≤ W.heap.size := Nat.le_trans hN hK.size
  have hr8 : ext τ' W.heap.size tFix R = tNo := (ext_old hRl).trans hR
  exact ⟨ext τ' W.heap.size tFix, ⟨_, rfl, (byM_own ho8 hd).five hr8 _ _ _ _ _⟩, (hF.upd (upd_call hb8 tFix) no_row).five hr8 _ _ _ _ _, (hK.trans (keep_call hb8 hN7 tFix)).five hN hRw _ _ _ _ _⟩

end Go.Proofs.YtkjlchfmplcobafGreatDoor

/- The walks of bytes.Clone at whatever bytes, and of refused, copyOf and taken: package fleet as it landed. -/
namespace Go.Proofs.YtkjlchfmplcobafGreatDoor
open Go.RowKit

set_option maxRecDepth 100000 in
theorem cloneN_any (w : World) : Calls Tryz.prog 34 #[.slice none 0 0] w fun e w' => e = .returned (.slice none 0 0) ∧ w' = w := by
  have qs : ∀ (W : World), (binOp .eql 35 (.slice none 0 0) (.slice none 0 0)).run Tryz.prog W = .ok (.bool true) W := fun W => Lib.run_eql_slice_nil W _ _ none 0 0 0 0 Tryz.underlying35
  go_enter Tryz.func34, Tryz.ntmps34
  go_wp2_with fail
  go_ret
  exact ⟨rfl, rfl⟩
theorem cloneM_any (d : List Int) (v : Value) (w : World) (h : Some' w v d) (hd : d.length ≤ 1000000) :
    Calls Tryz.prog 34 #[v] w fun e w' => ∃ xa xc, e = .returned (.slice xa d.length xc) ∧ w'.ownsRow w.heap.size 5 1 (.slice xa d.length xc) d.length (d.map (Value.int .u8)) ∧ Below w.heap.size w w' := by
  have h0 := h.at'
  obtain ⟨a, c, rfl⟩ := h0.form
  cases a with
  | some ad => exact cloneB_any d ad _ c w h0 rfl hd
  | none =>
    obtain ⟨hl, hc⟩ : d = [] ∧ c = 0 := by
      rcases h0 with ⟨rfl, a, c', e, hc⟩ | ⟨b, off, cp, e, -⟩
      · cases e; exact ⟨rfl, hc rfl⟩
      · cases e
    subst hl
    subst hc
    refine (cloneN_any w).mono ?_
    rintro e w' ⟨rfl, rfl⟩
    exact ⟨none, 0, rfl, World.ownsRow_nil _ _ _ _, Below.refl _ _⟩
set_option maxRecDepth 100000 in
theorem refused_any (x : Int) (w : World) : Calls Tryz.prog 60 #[.int .i64 x] w fun e w' => e = .returned (.agg #[.int .i64 x, .int .i64 0, .int .i64 0, .int .i64 0, .slice none 0 0]) ∧ Below w.heap.size w w' := by
  have b0 : Below w.heap.size w (w.alloc (.cells #[.int .i64 x, .int .i64 0, .int .i64 0, .int .i64 0, .slice none 0 0] 43)) := (Below.refl _ _).alloc (Nat.le_refl _) _
  go_enter Tryz.func60, Tryz.ntmps60
  go_wp2_with fail
  exact bodyPost_ret (v := .agg #[.int .i64 x, .int .i64 0, .int .i64 0, .int .i64 0, .slice none 0 0]) (by simp [results, Tryz.results60, go_sem]) rfl ⟨rfl, b0⟩
set_option maxRecDepth 100000 in
set_option maxHeartbeats 2000000 in
theorem copyOf_any (n : Int) (d : List Int) (v : Value) (w : World) (h : Some' w v d) (hd : d.length ≤ 1000000) :
    Calls Tryz.prog 68 #[.agg #[.int .i64 n, v]] w fun e w' => ∃ xa xc, e = .returned (.agg #[.int .i64 n, .slice xa d.length xc]) ∧ w'.ownsRow w.heap.size 5 1 (.slice xa d.length xc) d.length (d.map (Value.int .u8)) ∧ Below w.heap.size w w' := by
  obtain ⟨va, vc, rfl⟩ := h.at'.form
  have b0 : Below w.heap.size w ((w.alloc (.cells #[.int .i64 n, .slice va d.length vc] 39)).alloc (.cells #[.int .i64 0, .slice none 0 0] 39)) := ((Below.refl _ _).alloc (Nat.le_refl _) _).alloc (by simp) _
  have x0 := box_one w #[.int .i64 n, .slice va d.length vc] 39 (.cells #[.int .i64 0, .slice none 0 0] 39)
  have y0 := box_last w (.cells #[.int .i64 n, .slice va d.length vc] 39) #[.int .i64 0, .slice none 0 0] 39
  have z0 : ((w.alloc (.cells #[.int .i64 n, .slice va d.length vc] 39)).alloc (.cells #[.int .i64 0, .slice none 0 0] 39)).heap.size = w.heap.size + 2 := by simp
  have hC := fun w' (hb : Below w.heap.size w w') => cloneM_any d _ w' (h.below hb) hd
  go_enter Tryz.func68, Tryz.ntmps68
  go_wp2_with fail
  generalize (w.alloc (.cells #[.int .i64 n, .slice va d.length vc] 39)).alloc (.cells #[.int .i64 0, .slice none 0 0] 39) = w0 at *
  obtain ⟨u0, u1, u2, u3⟩ := box_two x0
  obtain ⟨t0, t1, t2, t3⟩ := box_two y0
  have hsd : w0.drew.heap.size = w.heap.size + 2 := z0
  go_region_with (first | (go_at_call 34; refine (hC _ b0.drew).mono ?_; rintro e w5 ⟨xa, xc, rfl, hO, hb5⟩; obtain ⟨p0, p1, p2, p3⟩ := box_two (box_kept (w := w0.drew) x0 hb5); obtain ⟨q0, q1, q2, q3⟩ := box_two (box_kept (w := w0.drew) y0 hb5)))
  all_goals
    have b5 : Below w.heap.size w w5 := b0.drew.trans (hb5.mono b0.drew.size)
    rw [hsd] at hO
    go_wp2_with fail
    refine bodyPost_ret (v := .agg #[.int .i64 n, .slice xa d.length xc]) (by simp [results, Tryz.results68, go_sem, q0, q1]) rfl ⟨xa, xc, rfl, ?_, ?_⟩
    · exact ownsRow_base (ownsRow_setCell_below (ownsRow_setCell_below hO (a := ⟨w.heap.size + 1, 0, none⟩) (show w.heap.size + 1 < _ by omega) _) (a := ⟨w.heap.size + 1, 1, none⟩) (show w.heap.size + 1 < _ by omega) _) (by omega)
    · exact (b5.setCell (Nat.le_succ _) _).setCell (Nat.le_succ _) _
set_option maxRecDepth 100000 in
set_option maxHeartbeats 2000000 in
theorem taken_any (k n : Int) (d : List Int) (v : Value) (w : World) (h : Some' w v d) (hd : d.length ≤ 1000000) :
    Calls Tryz.prog 92 #[.int .i64 k, .agg #[.int .i64 n, v]] w fun e w' => ∃ xa xc, e = .returned (.agg #[.int .i64 0, .int .i64 k, .int .i64 0, .int .i64 n, .slice xa d.length xc]) ∧ w'.ownsRow w.heap.size 5 1 (.slice xa d.length xc) d.length (d.map (Value.int .u8)) ∧ Below w.heap.size w w' := by
  obtain ⟨va, vc, rfl⟩ := h.at'.form
  have b0 : Below w.heap.size w ((w.alloc (.cells #[.int .i64 n, .slice va d.length vc] 39)).alloc (.cells #[.int .i64 0, .int .i64 0, .int .i64 0, .int .i64 0, .slice none 0 0] 43)) := ((Below.refl _ _).alloc (Nat.le_refl _) _).alloc (by simp) _
  have x0 := box_one w #[.int .i64 n, .slice va d.length vc] 39 (.cells #[.int .i64 0, .int .i64 0, .int .i64 0, .int .i64 0, .slice none 0 0] 43)
  have y0 := box_last w (.cells #[.int .i64 n, .slice va d.length vc] 39) #[.int .i64 0, .int .i64 0, .int .i64 0, .int .i64 0, .slice none 0 0] 43
  have z0 : ((w.alloc (.cells #[.int .i64 n, .slice va d.length vc] 39)).alloc (.cells #[.int .i64 0, .int .i64 0, .int .i64 0, .int .i64 0, .slice none 0 0] 43)).heap.size = w.heap.size + 2 := by simp
  have hC := copyOf_any n d _ _ (h.below b0) hd
  obtain ⟨u0, u1, u2, u3⟩ := box_two x0
  go_enter Tryz.func92, Tryz.ntmps92
  go_wp2_with fail
  generalize (w.alloc (.cells #[.int .i64 n, .slice va d.length vc] 39)).alloc (.cells #[.int .i64 0, .int .i64 0, .int .i64 0, .int .i64 0, .slice none 0 0] 43) = w0 at *
  refine hC.mono ?_
  rintro e w5 ⟨xa, xc, rfl, hO, hb5⟩
  have b5 : Below w.heap.size w w5 := b0.trans (hb5.mono b0.size)
  have y5 := box_kept y0 hb5
  rw [z0] at hO
  have hR : w.heap.size + 1 < w.heap.size + 2 := by omega
  obtain ⟨s0, s1, s2, s3, s4⟩ := box_five (five_set y5 (.int .i64 0) (.int .i64 k) (.int .i64 0) (.int .i64 n) (.slice xa d.length xc))
  have hO2 := five_own hO hR (.int .i64 0) (.int .i64 k) (.int .i64 0) (.int .i64 n) (.slice xa d.length xc)
  have b6 := five_below b5 (Nat.le_succ w.heap.size) (.int .i64 0) (.int .i64 k) (.int .i64 0) (.int .i64 n) (.slice xa d.length xc)
  obtain ⟨t0, t1, t2, t3, t4⟩ := box_five y5
  obtain ⟨r0, r1, r2, r3, r4⟩ := five_free y5
  clear u0 u1 u2 u3 hC
  go_wp2_with fail
  exact bodyPost_ret (v := .agg #[.int .i64 0, .int .i64 k, .int .i64 0, .int .i64 n, .slice xa d.length xc]) (by simp [results, Tryz.results92, go_sem, s0, s1, s2, s3, s4]) rfl ⟨xa, xc, rfl, ownsRow_base hO2 (by omega), b6⟩

end Go.Proofs.YtkjlchfmplcobafGreatDoor

/- What TreeTells asks of tree.Leaf and tree.Node. -/
namespace Go.Proofs.YtkjlchfmplcobafGreatDoor
open Go.RowKit

def LeafC : Prop := ∀ (b : List Int) (v : Value) (w : World), Ready w → Some' w v b → b.length ≤ 70368744177664 →
  Calls Tryz.prog 69 #[v] w fun e w' => ∃ x, e = .returned x ∧ w'.ownsRow w.heap.size 5 1 x 32 ((leafL b).map (Value.int .u8)) ∧ Below w.heap.size w w'
def NodeC : Prop := ∀ (b1 b2 : List Int) (v1 v2 : Value) (w : World), Ready w → Some' w v1 b1 → Some' w v2 b2 → b1.length + b2.length ≤ 70368744177664 →
  Calls Tryz.prog 50 #[v1, v2] w fun e w' => ∃ x, e = .returned x ∧ w'.ownsRow w.heap.size 5 1 x 32 ((nodeL b1 b2).map (Value.int .u8)) ∧ Below w.heap.size w w'

end Go.Proofs.YtkjlchfmplcobafGreatDoor

/- The walks of package tree's small functions: Leaf, Node, isDigest, areDigests. -/
namespace Go.Proofs.YtkjlchfmplcobafGreatDoor
open Go.RowKit

theorem bytesAt_new (w : World) (z : Int) (t : TypeId) : BytesAt (w.alloc (.cells #[.int .u8 z] t)) (.slice (some ⟨w.heap.size, 0, none⟩) 1 1) [z] := by
  refine .inr ⟨_, 0, 1, rfl, by simp, fun j hj => ?_⟩
  obtain rfl : j = 0 := by simp at hj; omega
  rw [Nat.add_zero, new_cell w t #[.int .u8 z] 0 (by simp)]; rfl
theorem parts_two {w : World} {v : Value} {b : List Int} (h : BytesAt w v b) (z : Int) (t s : TypeId) :
    PartsAt ((w.alloc (.cells #[.int .u8 z] t)).alloc (.cells #[.slice (some ⟨w.heap.size, 0, none⟩) 1 1, v] s)) (.slice (some ⟨w.heap.size + 1, 0, none⟩) 2 2) [[z], b] := by
  obtain ⟨a, c, rfl⟩ := h.form
  refine .inr ⟨_, 0, 2, rfl, by simp, fun j hj => ?_⟩
  have hb0 : Below w.heap.size w ((w.alloc (.cells #[.int .u8 z] t)).alloc (.cells #[.slice (some ⟨w.heap.size, 0, none⟩) 1 1, .slice a b.length c] s)) := ((Below.refl _ _).alloc (Nat.le_refl _) _).alloc (by simp) _
  have hb1 : Below (w.alloc (.cells #[.int .u8 z] t)).heap.size (w.alloc (.cells #[.int .u8 z] t)) ((w.alloc (.cells #[.int .u8 z] t)).alloc (.cells #[.slice (some ⟨w.heap.size, 0, none⟩) 1 1, .slice a b.length c] s)) := (Below.refl _ _).alloc (Nat.le_refl _) _
  have hj' : j = 0 ∨ j = 1 := by simp at hj; omega
  rcases hj' with rfl | rfl
  · exact ⟨_, _, _, by simp, (bytesAt_new w z t).below (Nat.le_refl _) hb1⟩
  · exact ⟨_, _, _, by simp, h.below (Nat.le_refl _) hb0⟩
theorem parts_three {w : World} {v u : Value} {b d : List Int} (h : BytesAt w v b) (h2 : BytesAt w u d) (z : Int) (t s : TypeId) :
    PartsAt ((w.alloc (.cells #[.int .u8 z] t)).alloc (.cells #[.slice (some ⟨w.heap.size, 0, none⟩) 1 1, v, u] s)) (.slice (some ⟨w.heap.size + 1, 0, none⟩) 3 3) [[z], b, d] := by
  obtain ⟨a, c, rfl⟩ := h.form
  obtain ⟨a2, c2, rfl⟩ := h2.form
  refine .inr ⟨_, 0, 3, rfl, by simp, fun j hj => ?_⟩
  have hb0 : Below w.heap.size w ((w.alloc (.cells #[.int .u8 z] t)).alloc (.cells #[.slice (some ⟨w.heap.size, 0, none⟩) 1 1, .slice a b.length c, .slice a2 d.length c2] s)) := ((Below.refl _ _).alloc (Nat.le_refl _) _).alloc (by simp) _
  have hb1 : Below (w.alloc (.cells #[.int .u8 z] t)).heap.size (w.alloc (.cells #[.int .u8 z] t)) ((w.alloc (.cells #[.int .u8 z] t)).alloc (.cells #[.slice (some ⟨w.heap.size, 0, none⟩) 1 1, .slice a b.length c, .slice a2 d.length c2] s)) := (Below.refl _ _).alloc (Nat.le_refl _) _
  have hj' : j = 0 ∨ j = 1 ∨ j = 2 := by simp at hj; omega
  rcases hj' with rfl | rfl | rfl
  · exact ⟨_, _, _, by simp, (bytesAt_new w z t).below (Nat.le_refl _) hb1⟩
  · exact ⟨_, _, _, by simp, h.below (Nat.le_refl _) hb0⟩
  · exact ⟨_, _, _, by simp, h2.below (Nat.le_refl _) hb0⟩
theorem two_bytes {z : Int} {b : List Int} (h0 : 0 ≤ z) (h1 : z < 256) (h : Bytes b) : ∀ j, Bytes (([[z], b] : List (List Int)).getD j []) := fun j => by
  match j with
  | 0 => exact bytes_cons h0 h1 nil_bytes
  | 1 => exact h
  | j + 2 => exact nil_bytes
theorem three_bytes {z : Int} {b d : List Int} (h0 : 0 ≤ z) (h1 : z < 256) (h : Bytes b) (h2 : Bytes d) : ∀ j, Bytes (([[z], b, d] : List (List Int)).getD j []) := fun j => by
  match j with
  | 0 => exact bytes_cons h0 h1 nil_bytes
  | 1 => exact h
  | 2 => exact h2
  | j + 3 => exact nil_bytes

set_option maxRecDepth 100000 in
set_option maxHeartbeats 1000000 in
theorem leafC_holds : LeafC := by
  intro b v w hr hv hm
  have hp := parts_two hv.at' 0 5 35
  have hb : Below w.heap.size w ((w.alloc (.cells #[.int .u8 0] 5)).alloc (.cells #[.slice (some ⟨w.heap.size, 0, none⟩) 1 1, v] 35)) := ((Below.refl _ _).alloc (Nat.le_refl _) _).alloc (by simp) _
  have hK := tab_below hr.tab hb hr.big
  have h0 := Nat.lt_of_lt_of_le hr.big hb.size
  have hc := parts_any [[0], b] _ _ hp (by unfold maxLen; simp) (by simp; omega) (two_bytes (by decide) (by decide) hv.bytes) hK h0
  obtain ⟨a, c, e⟩ := hv.at'.form
  subst e
  go_enter Tryz.func69, Tryz.ntmps69
  go_wp2_with fail
  refine hc.mono ?_
  rintro e w1 ⟨g, rfl, ho, hb1⟩
  have hs := hb.size
  go_wp2_with fail
  go_ret
  refine ⟨_, rfl, ?_, hb.trans (hb1.mono hs)⟩
  have := ownsRow_base ho hs
  rwa [show ([[0], b] : List (List Int)).flatten = 0 :: b by simp] at this
set_option maxRecDepth 100000 in
set_option maxHeartbeats 1000000 in
theorem nodeC_holds : NodeC := by
  intro b1 b2 v1 v2 w hr hv1 hv2 hm
  have hp := parts_three hv1.at' hv2.at' 1 5 35
  have hb : Below w.heap.size w ((w.alloc (.cells #[.int .u8 1] 5)).alloc (.cells #[.slice (some ⟨w.heap.size, 0, none⟩) 1 1, v1, v2] 35)) := ((Below.refl _ _).alloc (Nat.le_refl _) _).alloc (by simp) _
  have hK := tab_below hr.tab hb hr.big
  have h0 := Nat.lt_of_lt_of_le hr.big hb.size
  have hc := parts_any [[1], b1, b2] _ _ hp (by unfold maxLen; simp) (by simp; omega) (three_bytes (by decide) (by decide) hv1.bytes hv2.bytes) hK h0
  obtain ⟨a, c, e⟩ := hv1.at'.form
  subst e
  obtain ⟨a2, c2, e⟩ := hv2.at'.form
  subst e
  go_enter Tryz.func50, Tryz.ntmps50
  go_wp2_with fail
  refine hc.mono ?_
  rintro e w1 ⟨g, rfl, ho, hb1⟩
  have hs := hb.size
  go_wp2_with fail
  go_ret
  refine ⟨_, rfl, ?_, hb.trans (hb1.mono hs)⟩
  have := ownsRow_base ho hs
  rwa [show ([[1], b1, b2] : List (List Int)).flatten = 1 :: (b1 ++ b2) by simp] at this

set_option maxRecDepth 100000 in
theorem isDigest_any (b : List Int) (v : Value) (w : World) (hv : BytesAt w v b) :
    Calls Tryz.prog 45 #[v] w fun e w' => e = .returned (.bool (decide (b.length = 32))) ∧ w' = w := by
  obtain ⟨a, c, rfl⟩ := hv.form
  by_cases h : b.length = 32
  · rw [decide_eq_true h]
    clear hv
    rw [h]
    go_enter Tryz.func45, Tryz.ntmps45
    go_wp2
    go_ret
    exact ⟨rfl, rfl⟩
  · rw [decide_eq_false h]
    have i1 : (b.length : Int) ≠ 32 := by omega
    go_enter Tryz.func45, Tryz.ntmps45
    go_wp2
    go_ret
    exact ⟨by first | rfl | simp [i1], rfl⟩

set_option maxRecDepth 100000 in
theorem areDigests_any (L : List (List Int)) (v : Value) (w : World) (hv : PartsAt w v L) (hm : L.length ≤ maxLen) (hm2 : ∀ j, (L.getD j []).length ≤ maxLen) :
    Calls Tryz.prog 79 #[v] w fun e w' => e = .returned (.bool (goodL L)) ∧ w' = w := by
  obtain ⟨a0, c0, rfl, hcell⟩ := hv.form
  unfold maxLen at hm
  go_enter Tryz.func79, Tryz.ntmps79
  go_wp2
  go_loop [7] (fun i => ∃ k : Nat, k ≤ L.length ∧ i = .int .i64 k ∧ Hid (∀ j, j < k → (L.getD j []).length = 32)) (fun i => L.length - (intOf i).toNat)
  case atStart => exact ⟨0, Nat.zero_le _, rfl, fun j hj => absurd hj (Nat.not_lt_zero _)⟩
  case round =>
    obtain ⟨k, hk, rfl, HG⟩ := hrel
    by_cases hlt : k < L.length
    · obtain ⟨b, off, rfl, hb, hc⟩ := hcell.resolve_left (by omega)
      obtain ⟨pa, pc, hcj, hB⟩ := hc k hlt
      have hl := hm2 k
      have HB : Hid ((L.getD k []).length ≠ 32 → goodL L = false) := goodL_bad hlt
      have HN : Hid ((L.getD k []).length = 32 → ∀ j, j < k + 1 → (L.getD j []).length = 32) := fun h j hj => by
        by_cases e : j = k
        · rw [e]; exact h
        · exact HG.out j (by omega)
      have hd := isDigest_any (L.getD k []) _ w hB
      unfold maxLen at hl
      clear hcell hc hv HG hm2 hB
      generalize (L.getD k []).length = m at *
      by_cases h32 : m = 32
      · have HN' : Hid (∀ j, j < k + 1 → (L.getD j []).length = 32) := HN.out h32
        clear HN HB
        rw [decide_eq_true h32] at hd
        subst h32
        go_wp2_with (go_at_call 45; refine hd.mono ?_; rintro e w' ⟨rfl, rfl⟩)
        go_round
        case rel => exact ⟨k + 1, by omega, by go_num, HN'⟩
        case measure => simp [intOf]; omega
      · have HB' : Hid (goodL L = false) := HB.out h32
        rw [decide_eq_false h32] at hd
        clear HN HB
        go_wp2_with (go_at_call 45; refine hd.mono ?_; rintro e w' ⟨rfl, rfl⟩)
        go_ret
        exact ⟨by rw [HB'.out]; rfl, rfl⟩
    · obtain rfl : k = L.length := by omega
      have HA : Hid (goodL L = true) := goodL_all HG.out
      clear HG
      go_wp2
      go_ret
      exact ⟨by rw [HA.out]; rfl, rfl⟩

end Go.Proofs.YtkjlchfmplcobafGreatDoor

/- The walks of isSize, segmentsFor, countFrom and fits: package shelf as it landed. -/
namespace Go.Proofs.YtkjlchfmplcobafGreatDoor
open Go.RowKit

def sizeB (n : Int) : Bool := decide (0 ≤ n ∧ n ≤ 100)
theorem sizeB_true {n : Int} (h0 : 0 ≤ n) (h1 : n ≤ 100) : sizeB n = true := decide_eq_true ⟨h0, h1⟩
theorem sizeB_false {n : Int} (h : ¬ (0 ≤ n ∧ n ≤ 100)) : sizeB n = false := decide_eq_false h
set_option maxRecDepth 100000 in
theorem isSize_any (n : Int) (w : World) : Calls Tryz.prog 94 #[.int .i64 n] w fun e w' => e = .returned (.bool (sizeB n)) ∧ w' = w := by
  by_cases h0 : 0 ≤ n
  · by_cases h1 : n ≤ 100
    · have e : sizeB n = true := sizeB_true h0 h1
      rw [e]
      clear e
      go_enter Tryz.func94, Tryz.ntmps94
      go_wp2
      go_ret
      exact ⟨rfl, rfl⟩
    · have e : sizeB n = false := sizeB_false (by omega)
      rw [e]
      clear e
      go_enter Tryz.func94, Tryz.ntmps94
      go_wp2
      go_ret
      exact ⟨rfl, rfl⟩
  · have e : sizeB n = false := sizeB_false (by omega)
    rw [e]
    clear e
    go_enter Tryz.func94, Tryz.ntmps94
    go_wp2
    go_ret
    exact ⟨rfl, rfl⟩
theorem ret_int' {k : IntKind} {a b : Int} (h : a = b) : Ending.returned (.int k a) = .returned (.int k b) := by rw [h]
set_option maxRecDepth 100000 in
theorem segmentsFor_any (n : Int) (w : World) (h0 : 0 ≤ n) (h1 : n ≤ 100) : Calls Tryz.prog 95 #[.int .i64 n] w fun e w' => e = .returned (.int .i64 ((n + 7) / 8)) ∧ w' = w := by
  go_enter Tryz.func95, Tryz.ntmps95
  go_wp2
  go_ret
  exact ⟨ret_int' (by omega), rfl⟩
set_option maxRecDepth 100000 in
theorem countFrom_any (f s : Int) (w : World) (h0 : 0 ≤ f) (h1 : f ≤ 1000) (h2 : 0 ≤ s) (h3 : s ≤ 1000) : Calls Tryz.prog 117 #[.int .i64 f, .int .i64 s] w fun e w' => e = .returned (.int .i64 (min 8 (s - f))) ∧ w' = w := by
  by_cases h : s - f < 8
  · rw [show min 8 (s - f) = s - f by omega]
    go_enter Tryz.func117, Tryz.ntmps117
    go_wp2
    go_ret
    exact ⟨rfl, rfl⟩
  · rw [show min 8 (s - f) = 8 by omega]
    go_enter Tryz.func117, Tryz.ntmps117
    go_wp2
    go_ret
    exact ⟨rfl, rfl⟩
set_option maxRecDepth 100000 in
set_option maxHeartbeats 2000000 in
theorem segFits_any (f c k size : Int) (pv : Value) (p : List Int) (w : World) (hk : 0 ≤ k) : Calls Tryz.prog 107 #[.agg #[.int .i64 f, .int .i64 c, pv], .int .i64 k, .int .i64 size] w fun e w' => e = .returned (.bool (fitB size k ⟨f, c, p⟩)) ∧ Below w.heap.size w w' := by
  have hS := isSize_any size
  have hb := box_new w #[.int .i64 f, .int .i64 c, pv] 147
  obtain ⟨x0, x1, x2, -, -, -⟩ := box_three hb
  have bW : Below w.heap.size w (w.alloc (.cells #[.int .i64 f, .int .i64 c, pv] 147)) := (Below.refl _ _).alloc (Nat.le_refl _) _
  clear hb
  by_cases h1 : 0 ≤ size ∧ size ≤ 100
  · rw [sizeB_true h1.1 h1.2] at hS
    by_cases h2 : k ≤ 100
    · by_cases h3 : f = k * 8
      · subst h3
        by_cases h4 : 1 ≤ c
        · have hC := fun W => countFrom_any (k * 8) size W (by omega) (by omega) h1.1 (by omega)
          by_cases h5 : c = min 8 (size - k * 8)
          · have e : fitB size k ⟨k * 8, c, p⟩ = true := fitB_iff.2 ⟨h1.1, h1.2, h2, rfl, h4, h5⟩
            have hC' : ∀ W, Calls Tryz.prog 117 #[.int .i64 (k * 8), .int .i64 size] W fun e w' => e = .returned (.int .i64 c) ∧ w' = W := fun W => by have := hC W; rwa [← h5] at this
            have hcc : (c == c) = true := by simp
            rw [e]
            clear e h5 hC
            go_enter Tryz.func107, Tryz.ntmps107
            go_wp2_with fail
            go_quiet ((first | (go_at_call 94; exact Calls.quiet_of_same (hS _)) | (go_at_call 117; exact Calls.quiet_of_same (hC' _))))
            go_wp2_with fail
            go_ret
            exact ⟨rfl, below_drewN' bW _⟩
          · have e : fitB size k ⟨k * 8, c, p⟩ = false := by rw [Bool.eq_false_iff]; intro h; exact h5 (fitB_iff.1 h).2.2.2.2.2
            obtain ⟨q, hq⟩ : ∃ q, q = min 8 (size - k * 8) := ⟨_, rfl⟩
            rw [← hq] at hC h5
            have h5' : (c == q) = false := by simpa using h5
            rw [e]
            clear e h5 hq
            go_enter Tryz.func107, Tryz.ntmps107
            go_wp2_with fail
            go_quiet ((first | (go_at_call 94; exact Calls.quiet_of_same (hS _)) | (go_at_call 117; exact Calls.quiet_of_same (hC _))))
            go_wp2_with fail
            go_ret
            exact ⟨rfl, below_drewN' bW _⟩
        · have e : fitB size k ⟨k * 8, c, p⟩ = false := by rw [Bool.eq_false_iff]; intro h; exact h4 (fitB_iff.1 h).2.2.2.2.1
          have h4' : decide (1 ≤ c) = false := decide_eq_false h4
          rw [e]
          clear e
          go_enter Tryz.func107, Tryz.ntmps107
          go_wp2_with fail
          go_quiet ((go_at_call 94; exact Calls.quiet_of_same (hS _)))
          go_wp2_with fail
          go_ret
          exact ⟨rfl, below_drewN' bW _⟩
      · have e : fitB size k ⟨f, c, p⟩ = false := by rw [Bool.eq_false_iff]; intro h; exact h3 (fitB_iff.1 h).2.2.2.1
        have h3' : (f == k * 8) = false := by simpa using h3
        rw [e]
        clear e h3
        go_enter Tryz.func107, Tryz.ntmps107
        go_wp2_with fail
        go_quiet ((go_at_call 94; exact Calls.quiet_of_same (hS _)))
        go_wp2_with fail
        go_ret
        exact ⟨rfl, below_drewN' bW _⟩
    · have e : fitB size k ⟨f, c, p⟩ = false := by rw [Bool.eq_false_iff]; intro h; exact h2 (fitB_iff.1 h).2.2.1
      have h2' : decide (k ≤ 100) = false := decide_eq_false h2
      rw [e]
      clear e
      go_enter Tryz.func107, Tryz.ntmps107
      go_wp2_with fail
      go_quiet ((go_at_call 94; exact Calls.quiet_of_same (hS _)))
      go_wp2_with fail
      go_ret
      exact ⟨rfl, below_drewN' bW _⟩
  · rw [sizeB_false h1] at hS
    have e : fitB size k ⟨f, c, p⟩ = false := by rw [Bool.eq_false_iff]; intro h; have := fitB_iff.1 h; exact h1 ⟨this.1, this.2.1⟩
    rw [e]
    clear e h1
    go_enter Tryz.func107, Tryz.ntmps107
    go_wp2_with fail
    go_quiet ((go_at_call 94; exact Calls.quiet_of_same (hS _)))
    go_wp2_with fail
    go_ret
    exact ⟨rfl, below_drewN' bW _⟩

end Go.Proofs.YtkjlchfmplcobafGreatDoor

/- The walk of writeEntries: package shelf as it landed. -/
namespace Go.Proofs.YtkjlchfmplcobafGreatDoor
open Go.RowKit

set_option maxRecDepth 100000 in
set_option maxHeartbeats 2000000 in
theorem writeEntries_any (L : List (List Int)) (a : Option Addr) (n c : Nat) (w : World) (hL : Lists w a n c L) (h200 : ∀ j, (L.getD j []).length ≤ 200) (h8 : n ≤ 8) :
    Calls Tryz.prog 119 #[.slice a n c] w fun e w' => ∃ va vc, e = .returned (.slice va (layL L).length vc) ∧ w'.ownsRow w.heap.size 5 1 (.slice va (layL L).length vc) (layL L).length ((layL L).map (Value.int .u8)) ∧ Below w.heap.size w w' := by
  obtain ⟨i0, hi0, hz0, hz1, hz2⟩ := info_parts Tryz.info5b
  have hlen := hL.len
  have h201 : ∀ k, (layL (L.take k)).length ≤ 2000 := fun k => by
    have h1 := layL_length (L.take k) (fun e he => mem_short h200 e (List.mem_of_mem_take he))
    have h2 : (L.take k).length ≤ 8 := by rw [List.length_take]; omega
    omega
  go_enter Tryz.func119, Tryz.ntmps119
  go_wp2_with fail
  go_loopw [3, 8] (fun ov kv wr => ∃ (k : Nat) (va : Option Addr) (m vc : Nat), k ≤ n ∧ kv = .int .i64 k ∧ ov = .slice va m vc ∧ Hid (m = (layL (L.take k)).length) ∧ wr.ownsRow w.heap.size 5 1 (.slice va m vc) m ((layL (L.take k)).map (Value.int .u8)) ∧ Below w.heap.size w wr) (fun _ kv _ => n - (intOf kv).toNat)
  case atStart => exact ⟨0, none, 0, 0, Nat.zero_le _, rfl, rfl, rfl, ⟨rfl, .inl ⟨rfl, rfl⟩⟩, Below.refl _ _⟩
  case round =>
    obtain ⟨wo, rfl⟩ : ∃ x, x = wr := ⟨wr, rfl⟩
    obtain ⟨k, va, m, vc, hk, rfl, rfl, HM, hrow, hbr⟩ := hrel
    have hm := h201 k
    rw [← HM.out] at hm
    have hsr := hbr.size
    by_cases hlt : k < n
    · obtain ⟨b, off, pa, pc, rfl, hcell, hsome⟩ := hL.get k hlt
      have hb0 : b < w.heap.size := World.block_lt_of_cell? w ⟨b, off + k, none⟩ hcell
      have hcell1 := (hbr.cell (p := ⟨b, off + k, none⟩) hb0).trans hcell
      have HS : Hid (layL (L.take (k + 1)) = layL (L.take k) ++ ((L.getD k []).length : Int) :: L.getD k []) := by
        show _ = _
        rw [List.take_succ_eq_append_getElem (by omega), layL_snoc, List.getD_eq_getElem?_getD, List.getElem?_eq_getElem (by omega)]
        rfl
      have hd2 := h200 k
      have hB0 := hsome.at'
      obtain ⟨D, hD⟩ : ∃ D, D = L.getD k [] := ⟨_, rfl⟩
      rw [← hD] at hcell1 HS hd2 hB0
      obtain ⟨d, hd⟩ : ∃ d, d = D.length := ⟨_, rfl⟩
      rw [← hd] at hcell1 HS hd2 hB0
      have Hd : Hid (d = D.length) := hd
      have hlt' : (k : Int) < n := by omega
      have hd' : (d : Int) ≤ 200 := by omega
      have hrowA := hrow.alloc (.cells #[.int .u8 d] 5)
      have hnew := cell_one_new wo (.int .u8 d) 5
      have bA : Below w.heap.size w (wo.alloc (.cells #[.int .u8 d] 5)) := hbr.alloc hsr _
      have hsA : w.heap.size ≤ (wo.alloc (.cells #[.int .u8 d] 5)).heap.size := by simp; omega
      have hdm : m + 1 + D.length ≤ 3000 := by omega
      clear hcell hsome hrow h200 hD hd h201
      go_wp2_with (first
        | (at_builtin; refine wpList_append_own _ rfl (.tmp 12) (.tmp 16) 35 rfl w.heap.size 5 i0 _ 1 1 Tryz.underlying35 hi0 hz0 hz1 hz2 rfl (by decide) _ _ _ rfl hrowA _ 1 1 [.int .u8 d] rfl rfl hnew (by intro u hu; simp at hu; subst hu; rfl) (by unfold maxLen; omega) (by omega) hsA ?_; intro v7 w7 ho7 hg7 _; obtain ⟨ta, tc, rfl⟩ := own_form' ho7; have b7 : Below w.heap.size w w7 := bA.grown hg7 hsA (fun _ h => own_block hrowA h); have hB7 := hB0.below (Nat.le_refl _) b7; clear hg7)
        | (at_builtin; refine wpList_append_bytes rfl (.tmp 18) (.tmp 19) 35 rfl w.heap.size 5 i0 _ Tryz.underlying35 hi0 hz0 hz1 hz2 rfl _ _ _ rfl ho7 pa d pc D rfl hB7 (by unfold maxLen; omega) (by omega) b7.size ?_; intro v8 w8 ho8 hg8; obtain ⟨sa, sc, rfl⟩ := own_form' ho8))
      have b8 : Below w.heap.size w w8 := b7.grown hg8 b7.size (fun _ h => own_block ho7 h)
      go_roundw
      case rel =>
        refine ⟨k + 1, sa, _, sc, by omega, by go_num, rfl, ?_, ?_, b8⟩
        · show _ = _; rw [HS.out, List.length_append, List.length_cons, ← HM.out]; omega
        · rw [HS.out, List.map_append, List.map_cons]; simpa using ho8
      case measure => simp [intOf]; omega
    · obtain rfl : k = n := by omega
      rw [List.take_of_length_le (by omega)] at HM hrow
      go_wp2_with fail
      go_ret
      refine ⟨va, vc, by rw [← HM.out]; rfl, by rw [← HM.out]; exact hrow, hbr⟩

end Go.Proofs.YtkjlchfmplcobafGreatDoor

/- The walk of segments: package shelf as it landed. -/
namespace Go.Proofs.YtkjlchfmplcobafGreatDoor
open Go.RowKit

set_option maxRecDepth 100000 in
set_option maxHeartbeats 4000000 in
theorem segments_any (hPack : PackOC) (L : List (List Int)) (a : Option Addr) (n c : Nat) (w : World) (hL : Lists w a n c L) (h100 : L.length ≤ 100) (h200 : ∀ j, (L.getD j []).length ≤ 200) :
    Calls Tryz.prog 106 #[.slice a n c] w fun e w' => ∃ va vc, e = .returned (.slice va (segsL L).length vc) ∧ ∃ vs, (w'.ownsRow w.heap.size 147 3 (.slice va (segsL L).length vc) (segsL L).length vs ∧ SegEls w' w.heap.size vs (segsL L)) ∧ RiseV vs (segsL L).length ∧ Below w.heap.size w w' := by
  obtain ⟨i0, hi0, hz0, hz1, hz2⟩ := info_parts Tryz.info147b
  have hlen := hL.len
  have hroom := hL.room
  have hcap := hL.cap
  unfold maxLen at hcap
  have hm200 := mem_short h200
  go_enter Tryz.func106, Tryz.ntmps106
  go_wp2_with fail
  go_loopw [3, 4] (fun ov fv wr => ∃ (k : Nat) (va : Option Addr) (vc : Nat) (vs : List Value), 8 * k ≤ n + 7 ∧ fv = .int .i64 ((8 * k : Nat) : Int) ∧ ov = .slice va k vc ∧ wr.ownsRow w.heap.size 147 3 (.slice va k vc) k vs ∧ SegEls wr w.heap.size vs (segsN L k) ∧ RiseV vs k ∧ Below w.heap.size w wr) (fun _ fv _ => n + 8 - (intOf fv).toNat)
  case atStart => exact ⟨0, none, 0, [], by omega, rfl, rfl, ⟨rfl, .inl ⟨rfl, rfl⟩⟩, segEls_nil _ _, riseV_nil, Below.refl _ _⟩
  case round =>
    obtain ⟨wo, rfl⟩ : ∃ x, x = wr := ⟨wr, rfl⟩
    obtain ⟨k, va, vc, vs, hk, rfl, rfl, hrow, hels, hrise, hbr⟩ := hrel
    have hsr := hbr.size
    by_cases hlt : 8 * k < n
    · obtain ⟨b, off, pa, pc, rfl, -, -⟩ := hL.get (8 * k) hlt
      obtain ⟨q, Hq⟩ : ∃ q : Nat, Hid (q = min 8 (n - 8 * k)) := ⟨_, rfl⟩
      have hq1 : 1 ≤ q := by have := Hq.out; omega
      have hq8 : q ≤ 8 := by have := Hq.out; omega
      have hqn : 8 * k + q ≤ n := by have := Hq.out; omega
      have hpart : ((L.drop (8 * k)).take q) = ((L.drop (8 * k)).take 8) := by
        rw [Hq.out, ← hlen, ← List.length_drop, Nat.min_comm, ← List.take_take, List.take_of_length_le (by rw [List.length_take]; omega)]
      have HSK : Hid (segK L k = ⟨((8 * k : Nat) : Int), (q : Int), packL (layL ((L.drop (8 * k)).take 8))⟩) := by show _ = _; unfold segK; rw [hlen, ← Hq.out]
      have hLp := (hL.below hbr).part hqn hq1
      rw [hpart] at hLp
      have hdg : ∀ j, (((L.drop (8 * k)).take 8).getD j []).length ≤ 200 := take_short (fun j => by rw [List.getD_eq_getElem?_getD, List.getElem?_drop, ← List.getD_eq_getElem?_getD]; exact h200 _) 8
      have hW := writeEntries_any _ _ _ _ _ hLp hdg hq8
      have hX1 := lay_bytes hLp.bytes hdg
      have hX2 := lay_part hm200 k
      have hsn := segsN_snoc L k
      rw [HSK.out] at hsn
      have HSN : Hid (segsN L (k + 1) = segsN L k ++ [⟨((8 * k : Nat) : Int), (q : Int), packL (layL ((L.drop (8 * k)).take 8))⟩]) := hsn
      generalize layL ((L.drop (8 * k)).take 8) = X at *
      have hP : ∀ w' v, BytesAt w' v X → Calls Tryz.prog 118 #[v] w' fun e w'' => ∃ v', e = .returned (.tuple #[v', .int .i64 0]) ∧ w''.ownsRow w'.heap.size 5 1 v' (packL X).length ((packL X).map (Value.int .u8)) ∧ Below w'.heap.size w' w'' := fun w' v h => by
        have := hPack X v w' ⟨h, hX1, by unfold maxLen; omega⟩
        unfold muchE packE at this
        rwa [if_neg (by omega), if_neg (by omega)] at this
      have hC := countFrom_any ((8 * k : Nat) : Int) n wo (by omega) (by omega) (by omega) (by omega)
      rw [show min 8 ((n : Int) - ((8 * k : Nat) : Int)) = (q : Int) by have := Hq.out; omega] at hC
      generalize packL X = P at *
      clear hsn hpart hLp hdg hX1 hX2 HSK Hq h200 hm200
      obtain ⟨F, HF⟩ : ∃ F, Hid (8 * k = F) := ⟨_, rfl⟩
      rw [HF.out] at hW hC HSN hlt hqn hk ⊢
      have j1 : (F : Int) < n := by omega
      have j2 : (F : Int) + q ≤ n := by omega
      have j3 : (F : Int) + q ≤ c := by omega
      have j4 : ¬ c = F := by omega
      go_wp2_with fail
      refine hC.mono ?_
      rintro e w1 ⟨rfl, rfl⟩
      clear hC
      go_wp2_with fail
      refine hW.mono ?_
      rintro e w1 ⟨ta, tc, rfl, ho1, hb1⟩
      have b1 := hbr.trans (hb1.mono hsr)
      have hP1 := hP _ _ (bytesAt_own ho1)
      clear hW hP ho1
      go_wp2_with fail
      refine hP1.mono ?_
      rintro e w2 ⟨v2, rfl, ho2, hb2⟩
      have b2 := b1.trans (hb2.mono b1.size)
      have hw12 := (hb1.trans (hb2.mono hb1.size))
      have hrow2 := own3_below hrow hw12 (Nat.le_refl _)
      have hels2 := hels.below hw12 (Nat.le_refl _)
      have hs2 := b2.size
      have hri2 : Hid (RiseV (vs ++ [.int .i64 (F : Int), .int .i64 (q : Int), v2]) (k + 1)) := RiseV.snoc hrise hels (segsN_length L k) (fun g hg => Nat.le_trans hb1.size (ho2.lt g hg).1)
      have hsn2 := hels2.snoc (s := ⟨(F : Int), (q : Int), P⟩) (ownsRow_base ho2 b1.size)
      obtain ⟨ya, yc, rfl⟩ := own_form' ho2
      have hnew := lit_seg w2 (F : Int) (q : Int) (.slice ya P.length yc) 147
      have hone : ∀ u ∈ [Value.int .i64 (F : Int), .int .i64 (q : Int), .slice ya P.length yc], u.oneCell' = true := by intro u hu; simp at hu; rcases hu with rfl | rfl | rfl <;> rfl
      have hrowA := hrow2.alloc (.cells #[.int .i64 (F : Int), .int .i64 (q : Int), .slice ya P.length yc] 147)
      have helsA := hsn2.alloc (.cells #[.int .i64 (F : Int), .int .i64 (q : Int), .slice ya P.length yc] 147)
      have bA : Below w.heap.size w (w2.alloc (.cells #[.int .i64 (F : Int), .int .i64 (q : Int), .slice ya P.length yc] 147)) := b2.alloc hs2 _
      have hsA := bA.size
      have hk15 : k ≤ 20 := by have := HF.out; omega
      clear hrow hels hrise hels2 hsn2 hrow2 hP1 ho2 hw12 hb1 hb2
      go_wp2_with (at_builtin; refine wpList_append_own _ rfl (.tmp 29) (.tmp 34) 45 rfl w.heap.size 147 i0 _ 3 40 Tryz.underlying45 hi0 hz0 hz1 hz2 rfl (by decide) _ _ _ rfl hrowA ⟨w2.heap.size, 0, none⟩ 1 1 [.int .i64 (F : Int), .int .i64 (q : Int), .slice ya P.length yc] rfl rfl hnew hone (by unfold maxLen; omega) (by omega) hsA ?_; intro v7 w7 ho7 hg7 _; obtain ⟨sa, sc, rfl⟩ := own3_form ho7)
      have b7 : Below w.heap.size w w7 := bA.grown hg7 hsA (fun _ h => own3_block hrowA h)
      have hels7 := helsA.kept hrowA hg7
      go_roundw
      case rel =>
        refine ⟨k + 1, sa, sc, _, by have := HF.out; omega, ?_, rfl, ho7, by rw [HSN.out]; exact hels7, hri2.out, b7⟩
        have := HF.out
        rw [show ((8 * (k + 1) : Nat) : Int) = (F : Int) + 8 by omega]
      case measure => simp [intOf]; omega
    · have hkk : k = (L.length + 7) / 8 := by omega
      have hj1 : ¬ ((8 * k : Nat) : Int) < n := by omega
      have hN : segsN L k = segsL L := by unfold segsL; rw [hkk]
      rw [hN] at hels
      have hl2 : (segsL L).length = k := by unfold segsL; rw [segsN_length, ← hkk]
      have HL : Hid ((segsL L).length = k) := hl2
      have HO : Hid ((wo.ownsRow w.heap.size 147 3 (.slice va k vc) k vs ∧ SegEls wo w.heap.size vs (segsL L)) ∧ RiseV vs k) := ⟨⟨hrow, hels⟩, hrise⟩
      clear hN hl2 hkk hrow hels hrise hk
      obtain ⟨F, HF⟩ : ∃ F, Hid (8 * k = F) := ⟨_, rfl⟩
      rw [HF.out] at hj1 ⊢
      go_wp2_with fail
      go_ret
      exact ⟨va, vc, by rw [HL.out]; rfl, vs, by rw [HL.out]; exact HO.out.1, by rw [HL.out]; exact HO.out.2, hbr⟩

end Go.Proofs.YtkjlchfmplcobafGreatDoor

/- The walk of retire: package fleet as it landed. -/
namespace Go.Proofs.YtkjlchfmplcobafGreatDoor
open Go.RowKit

def retireL (f : Flt) (k : Nat) : Flt × Ans :=
  if (verifyL (f.shards.getD k shd0).man).2.1 ≠ 0 then (f, no (verifyL (f.shards.getD k shd0).man).2.1) else
  (⟨f.shards.set k { (f.shards.getD k shd0) with state := 4, entries := [] }, f.book⟩, ⟨0, (k : Int), 0, (f.shards.getD k shd0).man.size, (f.shards.getD k shd0).man.root⟩)
set_option maxRecDepth 100000 in
set_option maxHeartbeats 2000000 in
theorem retire_any (hVer : VerifyC) (f : Flt) (k : Nat) (τ : Nat → Tag) (N gp : Nat) (w : World) (hF : GoF τ N w gp f) (hN : N ≤ w.heap.size) (hr : Ready w) (hk : k < f.shards.length) (hrl : (f.shards.getD k shd0).man.root.length ≤ 1000000) :
    Calls Tryz.prog 63 #[.pointer (some ⟨gp, 0, none⟩), .int .i64 (k : Int)] w fun e w' => ∃ av, e = .returned av ∧ Went τ N gp w w' av (retireL f k) := by
  have b0 : Below w.heap.size w (w.alloc (.cells #[.int .i64 0, .int .i64 0, .int .i64 0, .int .i64 0, .slice none 0 0] 43)) := (Below.refl _ _).alloc (Nat.le_refl _) _
  have z0 := box_new w #[.int .i64 0, .int .i64 0, .int .i64 0, .int .i64 0, .slice none 0 0] 43
  have HNO : ∀ (w1 : World) (x : Ans) (u0 u1 u2 u3 u4 : Value), Hid (Below w.heap.size w w1 → x.root = [] → Went τ N gp w (((((w1.setCell ⟨w.heap.size, 0, none⟩ u0).setCell ⟨w.heap.size, 1, none⟩ u1).setCell ⟨w.heap.size, 2, none⟩ u2).setCell ⟨w.heap.size, 3, none⟩ u3).setCell ⟨w.heap.size, 4, none⟩ u4) (.agg #[.int .i64 x.err, .int .i64 x.shard, .int .i64 x.place, .int .i64 x.size, .slice none 0 0]) (f, x)) := fun w1 x u0 u1 u2 u3 u4 h1 h2 => went_no hF hN h1 (Nat.le_refl _) h2 _ _ _ _ _
  obtain ⟨sa, sc, ba, bc, V, hB, hS⟩ := hF.open
  have U0 := upd_call (τ := τ) b0 tNo
  have hB0 := hB.upd U0 no_row
  have hS0 := hS.upd U0 no_row
  have K0 := keep_call (τ := τ) b0 hN tNo
  have hR0 : ext τ w.heap.size tNo w.heap.size = tNo := ext_new (Nat.le_refl _)
  have hsl : f.shards.length ≤ 9223372036854775807 := by obtain ⟨vs, h1, -⟩ := hS.row; have := own_small h1; unfold maxLen at this; omega
  obtain ⟨g0, g1, -, -⟩ := box_two hB0.box
  obtain ⟨sb, rfl, hNs, hsb, htb, hfz, hcs⟩ := (hS0.out k).cells rfl hk
  obtain ⟨ra, rc, hVr⟩ := (hS0.root k hk).here.at'.form
  obtain ⟨ga, gc, hVg⟩ := (hS0.seg k hk).form
  have hMan : ManAt _ (.agg #[.int .i64 (f.shards.getD k shd0).man.size, (V k).2.1, (V k).2.2]) (f.shards.getD k shd0).man := ⟨_, _, rfl, (hS0.root k hk).here, (hS0.seg k hk).segs⟩
  have k4 : _ = some (Value.int .i64 (f.shards.getD k shd0).man.size) := hcs 4 (by omega)
  have k5 : _ = some (V k).2.1 := hcs 5 (by omega)
  have k6 : _ = some (V k).2.2 := hcs 6 (by omega)
  have k2 : _ = some (Value.int .i64 (f.shards.getD k shd0).state) := hcs 2 (by omega)
  have k3 : _ = some (V k).1 := hcs 3 (by omega)
  rw [hVr, hVg] at hMan
  rw [hVr] at k5
  rw [hVg] at k6
  have hVf := hVer _ _ _ (hr.below b0) hMan
  have hk1 : (k : Int) < f.shards.length := by omega
  have hk0 : (0 : Int) ≤ k := by omega
  have HRL : Hid (retireL f k = if (verifyL (f.shards.getD k shd0).man).2.1 ≠ 0 then (f, no (verifyL (f.shards.getD k shd0).man).2.1) else (⟨f.shards.set k { (f.shards.getD k shd0) with state := 4, entries := [] }, f.book⟩, ⟨0, (k : Int), 0, (f.shards.getD k shd0).man.size, (f.shards.getD k shd0).man.root⟩)) := rfl
  have hmb := (hS0.root k hk).here.bytes
  obtain ⟨X, HX⟩ : ∃ X, Hid (f.shards.getD k shd0 = X) := ⟨_, rfl⟩
  rw [HX.out] at hVr hVg k2 k4 k5 k6 hVf HRL hrl hmb
  generalize retireL f k = RL at *
  generalize hvf : verifyL X.man = VF at *
  obtain ⟨VL, E1, E2⟩ := VF
  dsimp only at HRL hVf
  generalize hT : ext τ w.heap.size tNo = τ1 at *
  clear hF hB hS U0 hMan hcs hvf
  by_cases hE : E1 = 0
  · subst hE
    have HE : Hid (RL = (⟨f.shards.set k { X with state := 4, entries := [] }, f.book⟩, ⟨0, (k : Int), 0, X.man.size, X.man.root⟩)) := by show _ = _; rw [HRL.out, if_neg (fun h => h rfl)]
    rw [HE.out]
    clear HE HRL HNO
    go_enter Tryz.func63, Tryz.ntmps63
    go_wp2_with fail
    generalize w.alloc (.cells #[.int .i64 0, .int .i64 0, .int .i64 0, .int .i64 0, .slice none 0 0] 43) = w0 at *
    refine hVf.mono ?_
    rintro e w1 ⟨xa, xn, xc, rfl, -, hb1⟩
    have d1 : Below w1.heap.size w1 (w1.alloc (.cells #[.int .i64 0, .int .i64 E2] 32)) := (Below.refl _ _).alloc (Nat.le_refl _) _
    have c1 := hb1.trans (d1.mono hb1.size)
    have hN0 : N ≤ w0.heap.size := Nat.le_trans hN b0.size
    have hS1 := hS0.upd (upd_same c1) no_row
    have hB1 := hB0.upd (upd_same c1) no_row
    have K1 := K0.trans (keep_upd (upd_same c1) hN0 no_row)
    have z1 := box_kept z0 c1
    have f1 := box_new w1 #[.int .i64 0, .int .i64 E2] 32
    have hsb1 : sb < (w1.alloc (.cells #[.int .i64 0, .int .i64 E2] 32)).heap.size := Nat.lt_of_lt_of_le hsb c1.size
    have j2 := (c1.cell (p := ⟨sb, k * 7 + 2, none⟩) hsb).trans k2
    have j3 := (c1.cell (p := ⟨sb, k * 7 + 3, none⟩) hsb).trans k3
    have j4 := (c1.cell (p := ⟨sb, k * 7 + 4, none⟩) hsb).trans k4
    have j5 := (c1.cell (p := ⟨sb, k * 7 + 5, none⟩) hsb).trans k5
    obtain ⟨sb', e', -, -, -, hfz1, -⟩ := (hS1.out k).cells rfl hk
    cases e'
    have hN1 : N ≤ (w1.alloc (.cells #[.int .i64 0, .int .i64 E2] 32)).heap.size := Nat.le_trans hN0 c1.size
    clear hVf g0 g1 k2 k3 k4 k5 k6 hS0 hB0 K0 hfz d1
    obtain ⟨p0, p1, -, -⟩ := box_two f1
    have j2f := hfz1 (k * 7 + 2)
    have j3f := hfz1 (k * 7 + 3)
    have hEnt := hS1.ent k hk
    have hRoo := hS1.root k hk
    have hSeg := hS1.seg k hk
    rw [HX.out] at hEnt hRoo hSeg
    have hS2 := hS1.turn (i := 2) (u := .int .i64 4) (s' := { X with state := 4 }) (v' := V k) rfl hk (by omega) (by rw [HX.out]; rfl) hEnt hRoo hSeg
    have htb1 : τ1 sb = tSh := htb
    have hB2 := hB1.turn (o := k * 7 + 2) (u := .int .i64 4) htb1
    have hN2 : N ≤ ((w1.alloc (.cells #[.int .i64 0, .int .i64 E2] 32)).setCell ⟨sb, k * 7 + 2, none⟩ (.int .i64 4)).heap.size := by simpa using hN1
    have hEn2 := entM_nil τ1 N ((w1.alloc (.cells #[.int .i64 0, .int .i64 E2] 32)).setCell ⟨sb, k * 7 + 2, none⟩ (.int .i64 4)) k
    have ne : ∀ t : Tag, t ≠ tSh → ∀ b, some sb = some b → τ1 b ≠ t := fun t h1 b hb e => by cases hb; exact h1 (e.symm.trans htb1)
    have hRo2 := hRoo.upd (upd_set τ1 _ sb (k * 7 + 2) (.int .i64 4)) (ne _ (by decide))
    have hSe2 := hSeg.upd (upd_set τ1 _ sb (k * 7 + 2) (.int .i64 4)) (ne _ (by simp [tSeg, tSh])) (fun j => ne _ (by simp [tPk, tSh]))
    have hS3 := hS2.turn (i := 3) (u := .slice none 0 0) (s' := { X with state := 4, entries := [] }) (v' := (.slice none 0 0, (V k).2.1, (V k).2.2)) (by rw [List.length_set]) hk (by omega) (by rw [getD_set_same hk, if_pos rfl]; rfl) hEn2 hRo2 hSe2
    rw [List.set_set] at hS3
    have hB3 := hB2.turn (o := k * 7 + 3) (u := .slice none 0 0) htb1
    have K3 := (K1.trans (keep_turn (o := k * 7 + 2) (u := .int .i64 4) hN1 hNs htb1)).trans (keep_turn (o := k * 7 + 3) (u := .slice none 0 0) hN2 hNs htb1)
    have hF3 := hB3.goF hS3
    have hne : w.heap.size ≠ sb := fun e => by rw [e, htb1] at hR0; simp [tSh, tNo] at hR0
    have z3 := box_set_far (v := .slice none 0 0) (o := k * 7 + 3) (box_set_far (v := .int .i64 4) (o := k * 7 + 2) z1 hne) hne
    have hr3 := hRo2.upd (upd_set τ1 _ sb (k * 7 + 3) (.slice none 0 0)) (ne _ (by decide))
    rw [hVr] at hr3
    have hTk := taken_any (k : Int) X.man.size X.man.root _ _ hr3.here hrl
    clear hS1 hB1 K1 hS2 hB2 hEn2 hRo2 hSe2 hS3 hB3 hEnt hRoo hSeg z1 f1 hfz1 hr3
    go_wp2_with fail
    generalize ((w1.alloc (.cells #[.int .i64 0, .int .i64 E2] 32)).setCell ⟨sb, k * 7 + 2, none⟩ (.int .i64 4)).setCell ⟨sb, k * 7 + 3, none⟩ (.slice none 0 0) = W3 at *
    refine hTk.mono ?_
    rintro e w8 ⟨ta, tc, rfl, ho8, hb8⟩
    have HW : Hid _ := went_head (k := (k : Int)) (n := X.man.size) hF3 K3 hN hR0 (lt_heap z3) (Nat.le_refl _) hb8 ho8 hmb (.int .i64 0) (.int .i64 (k : Int)) (.int .i64 0) (.int .i64 X.man.size) (.slice ta X.man.root.length tc)
    have z8 := box_kept z3 hb8
    obtain ⟨t0, t1, t2, t3, t4⟩ := box_five z8
    obtain ⟨r0, r1, r2, r3, r4⟩ := five_free z8
    obtain ⟨s0, s1, s2, s3, s4⟩ := box_five (five_set z8 (.int .i64 0) (.int .i64 (k : Int)) (.int .i64 0) (.int .i64 X.man.size) (.slice ta X.man.root.length tc))
    clear hTk z3 ho8 hF3 K3 j2 j3 j4 j5 p0 p1
    go_wp2_with fail
    exact bodyPost_ret (v := .agg #[.int .i64 0, .int .i64 (k : Int), .int .i64 0, .int .i64 X.man.size, .slice ta X.man.root.length tc]) (by simp [results, Tryz.results63, go_sem, s0, s1, s2, s3, s4]) rfl ⟨_, rfl, HW.out⟩
  · have HE : Hid (RL = (f, no E1)) := by show _ = _; rw [HRL.out, if_pos hE]
    have hE' : (E1 != 0) = true := by simpa using hE
    rw [HE.out]
    clear HE HRL hE
    go_enter Tryz.func63, Tryz.ntmps63
    go_wp2_with fail
    generalize w.alloc (.cells #[.int .i64 0, .int .i64 0, .int .i64 0, .int .i64 0, .slice none 0 0] 43) = w0 at *
    refine hVf.mono ?_
    rintro e w1 ⟨xa, xn, xc, rfl, -, hb1⟩
    have d1 : Below w1.heap.size w1 (w1.alloc (.cells #[.int .i64 E1, .int .i64 E2] 32)) := (Below.refl _ _).alloc (Nat.le_refl _) _
    have c1 := hb1.trans (d1.mono hb1.size)
    obtain ⟨p0, p1, -, -⟩ := box_two (box_new w1 #[.int .i64 E1, .int .i64 E2] 32)
    clear hVf g0 g1 k2 k3 k4 k5 k6 hS0 hB0 K0 hfz d1
    go_wp2_with fail
    generalize w1.alloc (.cells #[.int .i64 E1, .int .i64 E2] 32) = W at *
    refine (refused_any E1 W).mono ?_
    rintro e w2 ⟨rfl, hb2⟩
    have c2 := c1.trans (hb2.mono c1.size)
    have b2 := b0.trans (c2.mono b0.size)
    have z1 := box_kept z0 c2
    obtain ⟨t0, t1, t2, t3, t4⟩ := box_five z1
    obtain ⟨r0, r1, r2, r3, r4⟩ := five_free z1
    obtain ⟨s0, s1, s2, s3, s4⟩ := box_five (five_set z1 (.int .i64 E1) (.int .i64 0) (.int .i64 0) (.int .i64 0) (.slice none 0 0))
    have HG := HNO w2 (no E1) (.int .i64 E1) (.int .i64 0) (.int .i64 0) (.int .i64 0) (.slice none 0 0)
    clear HNO z0 p0 p1
    go_wp2_with fail
    exact bodyPost_ret (v := .agg #[.int .i64 E1, .int .i64 0, .int .i64 0, .int .i64 0, .slice none 0 0]) (by simp [results, Tryz.results63, go_sem, s0, s1, s2, s3, s4]) rfl ⟨_, rfl, HG.out b2 rfl⟩

end Go.Proofs.YtkjlchfmplcobafGreatDoor

/- The walk of begin: package fleet as it landed. -/
namespace Go.Proofs.YtkjlchfmplcobafGreatDoor
open Go.RowKit

theorem Tryz.info49b : (Tryz.prog.info? 49).map (fun i => (i.zero, i.size, i.bytes)) = some (some (.agg #[.int .i64 0, .int .i64 0, .int .i64 0, .slice none 0 0, .int .i64 0, .slice none 0 0, .slice none 0 0]), 7, 104) := by kernel_rfl
def nilV : ShV := (.slice none 0 0, .slice none 0 0, .slice none 0 0)
theorem start_get {ws : List Win} {k : Nat} (hk : k < ws.length) : (startL ws).shards.getD k shd0 = ⟨(ws.getD k win0).a, (ws.getD k win0).b, 1, [], man0⟩ := wins_get ws hk
/-- The shards' cells, so far. -/
def Beg (ws : List Win) (vs : List Value) (j : Nat) : Prop := ∀ k, k < j → ∀ i, i < 7 → vs[k * 7 + i]? = (shdV ⟨(ws.getD k win0).a, (ws.getD k win0).b, 1, [], man0⟩ nilV)[i]?
theorem beg_nil (ws : List Win) : Beg ws [] 0 := fun _ h => absurd h (Nat.not_lt_zero _)
theorem Beg.snoc {ws : List Win} {vs : List Value} {j : Nat} (h : Beg ws vs j) (hl : vs.length = j * 7) : Beg ws (vs ++ shdV ⟨(ws.getD j win0).a, (ws.getD j win0).b, 1, [], man0⟩ nilV) (j + 1) := fun k hk i hi => by
  by_cases e : k < j
  · rw [List.getElem?_append_left (by omega)]; exact h k e i hi
  · obtain rfl : k = j := by omega
    rw [List.getElem?_append_right (by omega), hl, show k * 7 + i - k * 7 = i by omega]
theorem beg_fleet {ws : List Win} {N gp n c : Nat} {w : World} {sa : Option Addr} {vs : List Value} (hn : ws.length = n) (hrow : w.ownsRow N 49 7 (.slice sa n c) n vs) (hB : Beg ws vs n) (hbox : w.heap[gp]? = some (.cells #[.slice sa n c, .slice none 0 0] 84 (0, 0))) (hgp : N ≤ gp) :
    ∃ τ : Nat → Tag, GoF τ N w gp (startL ws) ∧ ∀ b, b < N → τ b = tNo := by
  have hlen : (startL ws).shards.length = n := by simp [startL, hn]
  have hne : (Value.slice sa n c).ownBlock ≠ some gp := fun h => by
    rcases hrow.2 with ⟨e, -⟩ | ⟨g, cap, cur, e, -, hh, -⟩
    · rw [e] at h; cases h
    · rw [e] at h
      cases h
      rw [hh] at hbox
      cases hbox
  refine ⟨fun b => if b = gp then tFl else if (Value.slice sa n c).ownBlock = some b then tSh else tNo, ⟨hgp, if_pos rfl, .slice sa n c, .slice none 0 0, fun _ => nilV, hbox, ⟨fun b hb => ?_, ⟨vs, by rw [hlen]; exact hrow, fun k hk i hi => ?_⟩, fun k hk => ?_, fun k hk => ?_, fun k hk => ?_⟩, bkM_nil _ _ _⟩, fun b hb => ?_⟩
  · refine ⟨(hrow.lt b hb).2, ?_⟩
    have : b ≠ gp := fun e => hne (by rw [← e]; exact hb)
    show (if b = gp then _ else _) = _
    rw [if_neg this, if_pos hb]
  · rw [hlen] at hk
    rw [start_get (by omega)]
    exact hB k hk i hi
  · rw [hlen] at hk
    rw [start_get (by omega)]
    exact entM_nil _ _ _ _
  · rw [hlen] at hk
    rw [start_get (by omega)]
    exact byM_nil _ _
  · rw [hlen] at hk
    rw [start_get (by omega)]
    exact segM_nil _ _ _ _
  · have h1 : b ≠ gp := by omega
    have h2 : (Value.slice sa n c).ownBlock ≠ some b := fun h => by have := (hrow.lt b h).1; omega
    show (if b = gp then _ else _) = _
    rw [if_neg h1, if_neg h2]
theorem lit_shd (w : World) (s : Shd) (v : ShV) (t : TypeId) : ∀ (j : Nat) (u : Value), (shdV s v)[j]? = some u → (w.alloc (.cells #[.int .i64 s.from', .int .i64 s.to', .int .i64 s.state, v.1, .int .i64 s.man.size, v.2.1, v.2.2] t)).cell? ((⟨w.heap.size, 0, none⟩ : Addr).add j) = some u := fun j u hj => by
  have hadd : (⟨w.heap.size, 0, none⟩ : Addr).add j = ⟨w.heap.size, 0 + j, none⟩ := Addr.add_mid _ _ _
  rw [hadd, Nat.zero_add]
  rw [cell_of_row _ _ j _ t _ (box_new w _ t), ← hj]
  simp [shdV]
set_option maxRecDepth 100000 in
set_option maxHeartbeats 2000000 in
theorem fleetBegin_any (ws : List Win) (wa : Option Addr) (n c : Nat) (w : World) (hW : WinsAt w (.slice wa n c) ws) (hn : ws.length = n) (h8 : n ≤ 8) :
    Calls Tryz.prog 26 #[.slice wa n c] w fun e w' => ∃ gp, e = .returned (.pointer (some ⟨gp, 0, none⟩)) ∧ (∃ τ : Nat → Tag, GoF τ w.heap.size w' gp (startL ws) ∧ ∀ b, b < w.heap.size → τ b = tNo) ∧ Below w.heap.size w w' := by
  obtain ⟨i0, hi0, hz0, hz1, hz2⟩ := info_parts Tryz.info49b
  obtain ⟨wa', wc', e, hc1, hc2, -, hWc⟩ := hW
  rw [hn] at e hc1 hWc
  cases e
  unfold maxLen at hc2
  go_enter Tryz.func26, Tryz.ntmps26
  go_wp2_with (at_make; refine wpList_make_own _ rfl _ _ 25 rfl w.heap.size 49 i0 _ 7 Tryz.underlying25 hi0 hz0 hz1 .i64 .i64 _ n rfl rfl rfl (by rw [hz2]; omega) (by unfold maxLen; omega) (Nat.le_refl _) ?_; intro w1 hown hgrow)
  have b1 : Below w.heap.size w w1 := (Below.refl _ _).grown hgrow (Nat.le_refl _) (fun _ h => by cases h)
  go_loopw [3, 11] (fun gv kv wr => ∃ (j : Nat) (va : Option Addr) (vc : Nat) (vs : List Value), j ≤ n ∧ kv = .int .i64 j ∧ gv = .slice va j vc ∧ wr.ownsRow w.heap.size 49 7 (.slice va j vc) j vs ∧ Hid (Beg ws vs j) ∧ Below w.heap.size w wr) (fun _ kv _ => n - (intOf kv).toNat)
  case atStart => exact ⟨0, _, n, [], Nat.zero_le _, rfl, rfl, hown, beg_nil ws, b1⟩
  case round =>
    obtain ⟨wo, rfl⟩ : ∃ x, x = wr := ⟨wr, rfl⟩
    obtain ⟨j, va, vc, vs, hj, rfl, rfl, hrow, HB, hbr⟩ := hrel
    have hsr := hbr.size
    clear hown hgrow b1
    by_cases hlt : j < n
    · have hlt' : (j : Int) < n := by omega
      obtain ⟨p1, o1, rfl, hp1, hcs1⟩ := hWc.resolve_left (by omega)
      obtain ⟨d0, d1⟩ := hcs1 j hlt
      replace d0 := (hbr.cell (p := ⟨p1, o1 + j * 2, none⟩) hp1).trans d0
      replace d1 := (hbr.cell (p := ⟨p1, o1 + j * 2 + 1, none⟩) hp1).trans d1
      have HB2 : Hid (Beg ws (vs ++ shdV ⟨(ws.getD j win0).a, (ws.getD j win0).b, 1, [], man0⟩ nilV) (j + 1)) := HB.out.snoc hrow.1
      clear hcs1 hWc HB
      generalize (ws.getD j win0).a = A at *
      generalize (ws.getD j win0).b = B at *
      have bV : Below w.heap.size w (wo.alloc (.cells #[.int .i64 A, .int .i64 B] 64)) := hbr.alloc hsr _
      obtain ⟨t0, t1, -, -⟩ := box_two (box_new wo #[.int .i64 A, .int .i64 B] 64)
      have hrowV := hrow.alloc (.cells #[.int .i64 A, .int .i64 B] 64)
      have hsV : (wo.alloc (.cells #[.int .i64 A, .int .i64 B] 64)).heap.size = wo.heap.size + 1 := by simp
      clear hrow hbr
      have hrowA := hrowV.alloc (.cells #[.int .i64 A, .int .i64 B, .int .i64 1, .slice none 0 0, .int .i64 0, .slice none 0 0, .slice none 0 0] 49)
      have hnew := lit_shd (wo.alloc (.cells #[.int .i64 A, .int .i64 B] 64)) ⟨A, B, 1, [], man0⟩ nilV 49
      rw [hsV] at hnew
      have bA := bV.alloc bV.size (.cells #[.int .i64 A, .int .i64 B, .int .i64 1, .slice none 0 0, .int .i64 0, .slice none 0 0, .slice none 0 0] 49)
      have hsA := bA.size
      have hone : ∀ u ∈ shdV ⟨A, B, 1, [], man0⟩ nilV, u.oneCell' = true := by intro u hu; simp [shdV, nilV] at hu; rcases hu with rfl | rfl | rfl | rfl | rfl | rfl | rfl <;> rfl
      go_wp2_with (at_builtin; refine wpList_append_own _ rfl (.tmp 15) (.tmp 21) 25 rfl w.heap.size 49 i0 _ 7 104 Tryz.underlying25 hi0 hz0 hz1 hz2 rfl (by decide) _ _ _ rfl hrowA ⟨wo.heap.size + 1, 0, none⟩ 1 1 _ rfl rfl hnew hone (by unfold maxLen; omega) (by omega) hsA ?_; intro v7 w7 ho7 hg7 _; obtain ⟨ga, gc, rfl⟩ := own7_form ho7)
      have b7 : Below w.heap.size w w7 := bA.grown hg7 hsA (fun _ h => own7_block hrowA h)
      go_roundw
      case rel => exact ⟨j + 1, ga, gc, _, by omega, by go_num, rfl, ho7, HB2, b7⟩
      case measure => simp [intOf]; omega
    · obtain rfl : j = n := by omega
      have hnl : ¬ (j : Int) < j := by omega
      have xg := box_new wo #[.slice va j vc, .slice none 0 0] 84
      have HG : Hid (∃ τ : Nat → Tag, GoF τ w.heap.size (wo.alloc (.cells #[.slice va j vc, .slice none 0 0] 84)) wo.heap.size (startL ws) ∧ ∀ b, b < w.heap.size → τ b = tNo) := beg_fleet hn (hrow.alloc _) HB.out xg hsr
      have bE : Below w.heap.size w (wo.alloc (.cells #[.slice va j vc, .slice none 0 0] 84)) := hbr.alloc hsr _
      clear hrow HB hWc xg
      go_wp2_with fail
      go_ret
      exact ⟨_, rfl, HG.out, bE⟩

end Go.Proofs.YtkjlchfmplcobafGreatDoor

/- The walk of Wrong: package fleet as it landed. -/
namespace Go.Proofs.YtkjlchfmplcobafGreatDoor
open Go.RowKit

theorem WinsAt.get2 {w : World} {a : Option Addr} {n c : Nat} {l : List Win} (h : WinsAt w (.slice a n c) l) (hn : l.length = n) {j : Nat} (hj : j < n) : ∃ b o, a = some ⟨b, o, none⟩ ∧ b < w.heap.size ∧ ∀ i, i < n → WinCells w b (o + i * 2) (l.getD i win0) := by
  obtain ⟨a', c', e, -, -, -, h5⟩ := h
  rw [hn] at e h5
  cases e
  obtain ⟨b, off, h6, h7, h8⟩ := h5.resolve_left (by omega)
  exact ⟨b, off, h6, h7, h8⟩
set_option maxRecDepth 100000 in
set_option maxHeartbeats 4000000 in
theorem goWrong_any (l : List Win) (a : Option Addr) (n c : Nat) (w : World) (hl : WinsAt w (.slice a n c) l) (hn : l.length = n) :
    Calls Tryz.prog 25 #[.slice a n c] w fun e w' => e = .returned (faultV (wrongWins l)) ∧ Below w.heap.size w w' := by
  have hcap : n ≤ maxLen := by obtain ⟨a', c', e, h2, h3, -⟩ := hl; cases e; omega
  unfold maxLen at hcap
  have b0 : Below w.heap.size w (w.alloc (.cells #[.int .i64 0, .int .i64 0] 32)) := (Below.refl _ _).alloc (Nat.le_refl _) _
  have x0 := box_new w #[.int .i64 0, .int .i64 0] 32
  by_cases h8 : 8 < n
  · have HE : Hid (wrongWins l = (5, 0)) := wrongWins_many (by omega)
    have h8' : (8 : Int) < n := by omega
    clear hl
    go_enter Tryz.func25, Tryz.ntmps25
    go_wp2_with fail
    exact bodyPost_ret (v := faultV (5, 0)) (by simp [results, Tryz.results25, go_sem]) rfl ⟨by rw [HE.out], (Below.refl _ _).alloc (Nat.le_refl _) _⟩
  · have h8' : ¬ (8 : Int) < n := by omega
    have HW1 : ∀ k : Nat, Hid (k < n → (∀ j, j < k → wrongWin l j = 0) → wrongWin l k ≠ 0 → wrongWins l = (wrongWin l k, (k : Int))) := fun k h1 h2 h3 => wrongWins_at (by omega) (by omega) h2 h3
    have HW2 : Hid ((∀ j, j < n → wrongWin l j = 0) → wrongWins l = (0, 0)) := fun h => wrongWins_none (by omega) (fun j hj => h j (by omega))
    go_enter Tryz.func25, Tryz.ntmps25
    go_wp2_with fail
    generalize w.alloc (.cells #[.int .i64 0, .int .i64 0] 32) = w0 at *
    go_loopw [11] (fun kv wr => ∃ k : Nat, k ≤ n ∧ kv = .int .i64 k ∧ Hid (∀ j, j < k → wrongWin l j = 0) ∧ wr.heap[w.heap.size]? = some (.cells #[.int .i64 0, .int .i64 0] 32 (0, 0)) ∧ Below w.heap.size w wr) (fun kv _ => n - (intOf kv).toNat)
    case atStart => exact ⟨0, Nat.zero_le _, rfl, fun _ hj => absurd hj (Nat.not_lt_zero _), x0, b0⟩
    case round =>
      obtain ⟨wo, rfl⟩ : ∃ x, x = wr := ⟨wr, rfl⟩
      obtain ⟨k, hk, rfl, HO, xo, hbr⟩ := hrel
      have hsr := hbr.size
      clear x0 b0
      by_cases hlt : k < n
      · have hlt' : (k : Int) < n := by omega
        obtain ⟨g, o, rfl, hg, hcs⟩ := (hl.below hbr).get2 hn hlt
        obtain ⟨d0, d1⟩ := hcs k hlt
        have HV := HW1 k
        have HWk : Hid (wrongWin l k = if (l.getD k win0).a < 0 ∨ (l.getD k win0).b ≤ (l.getD k win0).a ∨ 1000000 < (l.getD k win0).b then 3 else if 0 < k ∧ (l.getD k win0).a < (l.getD (k - 1) win0).b then 7 else 0) := rfl
        have HF : Hid (wrongWin l k = 0 → ∀ j, j < k + 1 → wrongWin l j = 0) := fun h j hj => by
          by_cases e : j = k
          · rw [e]; exact h
          · exact HO.out j (by omega)
        have hprev := fun (h : 0 < k) => (hcs (k - 1) (by omega)).2
        clear hcs HW1 HW2
        have hd5 : Below wo.heap.size wo (wo.alloc (.cells #[.int .i64 (l.getD k win0).a, .int .i64 (l.getD k win0).b] 64)) := (Below.refl _ _).alloc (Nat.le_refl _) _
        have b5 := hbr.trans (hd5.mono hsr)
        have x5 := box_kept xo hd5
        have y5 := box_new wo #[.int .i64 (l.getD k win0).a, .int .i64 (l.getD k win0).b] 64
        have hprev5 := fun (h : 0 < k) => (hd5.cell (p := ⟨g, o + (k - 1) * 2 + 1, none⟩) hg).trans (hprev h)
        obtain ⟨t0, t1, -, -⟩ := box_two y5
        obtain ⟨u0, u1, u2, u3⟩ := box_two x5
        clear hprev
        generalize (l.getD k win0).a = A at *
        generalize (l.getD k win0).b = B at *
        generalize (l.getD (k - 1) win0).b = C at *
        have fin3 : A < 0 ∨ B ≤ A ∨ 1000000 < B → Hid (wrongWins l = (3, (k : Int))) := fun h => by
          show _ = _
          have h3 : wrongWin l k = 3 := by rw [HWk.out, if_pos h]
          rw [HV.out hlt HO.out (by rw [h3]; decide), h3]
        have bE := fun (e : Int) => two_below b5 (Nat.le_refl w.heap.size) (.int .i64 e) (.int .i64 (k : Int))
        have rE := fun (e : Int) => box_two (two_set x5 (.int .i64 e) (.int .i64 (k : Int)))
        by_cases q1 : A < 0
        · have HE := fin3 (.inl q1)
          obtain ⟨r0, r1, -, -⟩ := rE 3
          clear fin3 HV HWk HF hprev5 rE
          go_wp2_with fail
          exact bodyPost_ret (v := faultV (3, (k : Int))) (by simp [results, Tryz.results25, go_sem, r0, r1]) rfl ⟨by rw [HE.out], bE 3⟩
        by_cases q2 : B ≤ A
        · have HE := fin3 (.inr (.inl q2))
          obtain ⟨r0, r1, -, -⟩ := rE 3
          clear fin3 HV HWk HF hprev5 rE
          go_wp2_with fail
          exact bodyPost_ret (v := faultV (3, (k : Int))) (by simp [results, Tryz.results25, go_sem, r0, r1]) rfl ⟨by rw [HE.out], bE 3⟩
        by_cases q3 : 1000000 < B
        · have HE := fin3 (.inr (.inr q3))
          obtain ⟨r0, r1, -, -⟩ := rE 3
          clear fin3 HV HWk HF hprev5 rE
          go_wp2_with fail
          exact bodyPost_ret (v := faultV (3, (k : Int))) (by simp [results, Tryz.results25, go_sem, r0, r1]) rfl ⟨by rw [HE.out], bE 3⟩
        have HWk2 : Hid (wrongWin l k = if 0 < k ∧ A < C then 7 else 0) := by show _ = _; rw [HWk.out, if_neg (by omega)]
        clear fin3 HWk
        by_cases q4 : 0 < k
        · have q4' : (0 : Int) < k := by omega
          have q5 : (1 : Int) ≤ k := by omega
          have hp := hprev5 q4
          have hk1 : ((k : Int) - 1) < n := by omega
          by_cases q6 : A < C
          · have HE : Hid (wrongWins l = (7, (k : Int))) := by
              show _ = _
              have h7 : wrongWin l k = 7 := by rw [HWk2.out, if_pos ⟨q4, q6⟩]
              rw [HV.out hlt HO.out (by rw [h7]; decide), h7]
            clear HV HWk2 HF hprev5 rE
            go_wp2_with fail
            go_quiet (fail)
            go_wp2_with fail
            have dq := below_drewN' (Below.refl (wo.alloc (.cells #[.int .i64 A, .int .i64 B] 64)).heap.size (wo.alloc (.cells #[.int .i64 A, .int .i64 B] 64))) nq
            have x6 := box_kept x5 dq
            obtain ⟨s0, s1, -, -⟩ := box_two (two_set x6 (.int .i64 7) (.int .i64 (k : Int)))
            have b6 := two_below (b5.trans (dq.mono b5.size)) (Nat.le_refl w.heap.size) (.int .i64 7) (.int .i64 (k : Int))
            exact bodyPost_ret (v := faultV (7, (k : Int))) (by simp [results, Tryz.results25, go_sem, s0, s1]) rfl ⟨by rw [HE.out], b6⟩
          · have H0 : wrongWin l k = 0 := by rw [HWk2.out, if_neg (fun h => q6 h.2)]
            have HF2 : Hid (∀ j, j < k + 1 → wrongWin l j = 0) := HF.out H0
            clear HV HWk2 HF hprev5 rE H0
            go_wp2_with fail
            go_quiet (fail)
            go_wp2_with fail
            go_roundw
            case rel => exact ⟨k + 1, by omega, by go_num, HF2, x5, below_drewN' b5 _⟩
            case measure => simp [intOf]; omega
        · obtain rfl : k = 0 := by omega
          have H0 : wrongWin l 0 = 0 := by rw [HWk2.out, if_neg (fun h => absurd h.1 (Nat.lt_irrefl _))]
          have HF2 : Hid (∀ j, j < 0 + 1 → wrongWin l j = 0) := HF.out H0
          rw [Nat.zero_mul, Nat.add_zero] at d0 d1
          clear HV HWk2 HF hprev5 rE H0
          go_wp2_with fail
          go_quiet (fail)
          go_wp2_with fail
          go_roundw
          case rel => exact ⟨0 + 1, by omega, by go_num, HF2, x5, below_drewN' b5 _⟩
          case measure => simp [intOf]; omega
      · obtain rfl : k = n := by omega
        have hnl : ¬ (k : Int) < k := by omega
        have HE : Hid (wrongWins l = (0, 0)) := HW2.out HO.out
        obtain ⟨u0, u1, u2, u3⟩ := box_two xo
        obtain ⟨r0, r1, -, -⟩ := box_two (two_set xo (.int .i64 0) (.int .i64 0))
        have bE := two_below hbr (Nat.le_refl w.heap.size) (.int .i64 0) (.int .i64 0)
        clear HW1 HW2 HO hl
        go_wp2_with fail
        exact bodyPost_ret (v := faultV (0, 0)) (by simp [results, Tryz.results25, go_sem, r0, r1]) rfl ⟨by rw [HE.out], bE⟩

end Go.Proofs.YtkjlchfmplcobafGreatDoor

/- Variables that are set, and lists that lie elsewhere. -/
namespace Go.Proofs.YtkjlchfmplcobafGreatDoor
open Go.RowKit

/-- Setting a variable that is no row of bytes, nor of slices of them. -/
theorem Laid.set {w : World} {a : Option Addr} {n c k o : Nat} {L : List (List Int)} {cs : Array Value} {t : TypeId} {mk : Nat × Nat} (h : Laid w a n c L) (hk : w.heap[k]? = some (.cells cs t mk)) (h1 : 5 ≠ t) (h2 : n ≠ 0 → ∀ g off, a = some ⟨g, off, none⟩ → g ≠ k) (u : Value) : Laid (w.setCell ⟨k, o, none⟩ u) a n c L := by
  obtain ⟨hl, vs, he, hc⟩ := h
  have hB : ∀ y d, ByteEl w y d → ByteEl (w.setCell ⟨k, o, none⟩ u) y d := fun y d hy => hy.same (fun g cur mk' hg => by
    rw [heap_setCell_other w ⟨k, o, none⟩ g u (fun e => ?_)]
    have e : g = k := e
    subst e
    rw [hg] at hk
    cases hk
    exact h1 rfl)
  have he' : Els (w.setCell ⟨k, o, none⟩ u) vs L := ⟨he.1, fun j hj => by obtain ⟨y, q1, q2⟩ := he.2 j hj; exact ⟨y, q1, hB _ _ q2⟩⟩
  have hcell : n ≠ 0 → ∀ b off, a = some ⟨b, off, none⟩ → ∀ j, (w.setCell ⟨k, o, none⟩ u).cell? ⟨b, off + j, none⟩ = w.cell? ⟨b, off + j, none⟩ := fun hn b off ha j => World.cell?_setCell_far _ _ _ _ (show k ≠ b from fun e => h2 hn b off ha e.symm)
  refine ⟨⟨hl.len, ?_, hl.room, hl.cap, hl.nil, hl.bytes, hl.short⟩, vs, he', fun ad ha j v hv => ?_⟩
  · rcases hl.at' with h | ⟨b, off, cp, e, hb, hp⟩
    · exact .inl h
    · cases e
      refine .inr ⟨b, off, c, rfl, by simpa using hb, fun j hj => ?_⟩
      obtain ⟨y, q1, q2⟩ := he'.2 j hj
      obtain ⟨ya, yc, rfl⟩ := q2.bytes.form
      refine ⟨ya, _, yc, ?_, q2.bytes⟩
      rw [hcell (by have := hl.len; omega) b off rfl]
      have := hc _ rfl j _ q1
      have e2 : (⟨b, off, none⟩ : Addr).add j = ⟨b, off + j, none⟩ := Addr.add_mid _ _ _
      rwa [e2] at this
  · have h3 := hc ad ha j v hv
    rcases hl.at' with ⟨rfl, -⟩ | ⟨b, off, cp, e, hb, hp⟩
    · have := (List.getElem?_eq_some_iff.1 hv).1
      rw [he.1] at this
      simp at this
    · cases e
      cases ha
      have e2 : (⟨b, off, none⟩ : Addr).add j = ⟨b, off + j, none⟩ := Addr.add_mid _ _ _
      rw [e2] at h3 ⊢
      rw [hcell (by have h4 := (List.getElem?_eq_some_iff.1 hv).1; rw [he.1, hl.len] at h4; omega) b off rfl]
      exact h3
end Go.Proofs.YtkjlchfmplcobafGreatDoor

/- The walks of inRange, Wrong, putTime and timeOf: package book as it landed. -/
namespace Go.Proofs.YtkjlchfmplcobafGreatDoor
open Go.RowKit

/-- Whether each number of a record is one that it may have. -/
def inR (r : Rec) : Bool := decide (¬ (r.shard < 0 ∨ 7 < r.shard ∨ r.from' < 0 ∨ r.to' ≤ r.from' ∨ 1000000 < r.to' ∨ r.size < 0 ∨ 100 < r.size))
set_option maxRecDepth 100000 in
set_option maxHeartbeats 2000000 in
theorem inRange_any (r : Rec) (v : Value) (w : World) (h : RecV w v r) :
    Calls Tryz.prog 86 #[v] w fun e w' => e = .returned (.bool (inR r)) ∧ Below w.heap.size w w' := by
  obtain ⟨ra, rc, rfl, hr⟩ := h
  obtain ⟨s, f, t, z, root⟩ := r
  dsimp only at hr ⊢
  have b0 : Below w.heap.size w (w.alloc (.cells #[.int .i64 s, .int .i64 f, .int .i64 t, .int .i64 z, .slice ra root.length rc] 51)) := (Below.refl _ _).alloc (Nat.le_refl _) _
  obtain ⟨x0, x1, x2, x3, x4⟩ := box_five (box_new w #[.int .i64 s, .int .i64 f, .int .i64 t, .int .i64 z, .slice ra root.length rc] 51)
  by_cases hw : s < 0 ∨ 7 < s ∨ f < 0 ∨ t ≤ f ∨ 1000000 < t ∨ z < 0 ∨ 100 < z
  · have HE : Hid (inR ⟨s, f, t, z, root⟩ = false) := by show _ = _; unfold inR; exact decide_eq_false (fun h => h hw)
    have hc : ¬ 0 ≤ s ∨ (0 ≤ s ∧ ¬ s < 8) ∨ (0 ≤ s ∧ s < 8 ∧ ¬ 0 ≤ f) ∨ (0 ≤ s ∧ s < 8 ∧ 0 ≤ f ∧ ¬ f < t) ∨ (0 ≤ s ∧ s < 8 ∧ 0 ≤ f ∧ f < t ∧ ¬ t ≤ 1000000) ∨ (0 ≤ s ∧ s < 8 ∧ 0 ≤ f ∧ f < t ∧ t ≤ 1000000 ∧ ¬ 0 ≤ z) ∨ (0 ≤ s ∧ s < 8 ∧ 0 ≤ f ∧ f < t ∧ t ≤ 1000000 ∧ 0 ≤ z ∧ ¬ z ≤ 100) := by omega
    clear hw hr
    generalize root.length = n at *
    rcases hc with q1 | ⟨q1, q2⟩ | ⟨q1, q2, q3⟩ | ⟨q1, q2, q3, q4⟩ | ⟨q1, q2, q3, q4, q5⟩ | ⟨q1, q2, q3, q4, q5, q6⟩ | ⟨q1, q2, q3, q4, q5, q6, q7⟩
    all_goals
      go_enter Tryz.func86, Tryz.ntmps86
      go_wp2_with fail
      go_ret
      exact ⟨by rw [HE.out]; rfl, b0⟩
  · have HE : Hid (inR ⟨s, f, t, z, root⟩ = true) := by show _ = _; unfold inR; exact decide_eq_true hw
    have q1 : 0 ≤ s := by omega
    have q2 : s < 8 := by omega
    have q3 : 0 ≤ f := by omega
    have q4 : f < t := by omega
    have q5 : t ≤ 1000000 := by omega
    have q6 : 0 ≤ z := by omega
    have q7 : z ≤ 100 := by omega
    clear hw hr
    generalize root.length = n at *
    go_enter Tryz.func86, Tryz.ntmps86
    go_wp2_with fail
    go_ret
    exact ⟨by rw [HE.out]; rfl, b0⟩
theorem wrong_inR (r : Rec) : wrongRec r = if inR r = true then (if r.root.length ≠ 32 then 2 else 0) else 3 := by
  unfold wrongRec inR
  by_cases h : r.shard < 0 ∨ 7 < r.shard ∨ r.from' < 0 ∨ r.to' ≤ r.from' ∨ 1000000 < r.to' ∨ r.size < 0 ∨ 100 < r.size
  · rw [if_pos h, decide_eq_false (fun g => g h), if_neg (by decide)]
  · rw [if_neg h, decide_eq_true h, if_pos rfl]
set_option maxRecDepth 100000 in
set_option maxHeartbeats 2000000 in
theorem recWrongC_holds : RecWrongC := fun r v w h => by
  have cI := fun w' (hb : Below w.heap.size w w') => inRange_any r v w' (h.below hb)
  have HW : Hid (wrongRec r = if inR r = true then (if r.root.length ≠ 32 then 2 else 0) else 3) := wrong_inR r
  obtain ⟨ra, rc, rfl, hr⟩ := h
  have hsh := hr.short
  unfold maxLen at hsh
  have b0 : Below w.heap.size w (w.alloc (.cells #[.int .i64 r.shard, .int .i64 r.from', .int .i64 r.to', .int .i64 r.size, .slice ra r.root.length rc] 51)) := (Below.refl _ _).alloc (Nat.le_refl _) _
  have x0 := box_new w #[.int .i64 r.shard, .int .i64 r.from', .int .i64 r.to', .int .i64 r.size, .slice ra r.root.length rc] 51
  have cI0 := cI _ b0
  clear cI hr
  generalize wrongRec r = er at *
  generalize inR r = ok at *
  generalize r.root.length = n at *
  generalize r.shard = s at *
  generalize r.from' = f at *
  generalize r.to' = t at *
  generalize r.size = z at *
  obtain ⟨s0, s1, s2, s3, s4⟩ := box_five x0
  go_enter Tryz.func56, Tryz.ntmps56
  go_wp2_with fail
  generalize w.alloc (.cells #[.int .i64 s, .int .i64 f, .int .i64 t, .int .i64 z, .slice ra n rc] 51) = w0 at *
  refine cI0.mono ?_
  rintro e w1 ⟨rfl, hb1⟩
  have b1 := b0.trans (hb1.mono b0.size)
  obtain ⟨u0, u1, u2, u3, u4⟩ := box_five (box_kept x0 hb1)
  clear s0 s1 s2 s3 s4 cI0
  cases ok
  · go_wp2_with fail
    go_ret
    exact ⟨by rw [HW.out]; rfl, b1⟩
  · by_cases h32 : n = 32
    · subst h32
      go_wp2_with fail
      go_ret
      exact ⟨by rw [HW.out]; rfl, b1⟩
    · have h32' : ((n : Int) != 32) = true := by simp; omega
      have HN : Hid (n ≠ 32) := h32
      clear h32
      go_wp2_with fail
      go_ret
      exact ⟨by rw [HW.out, if_pos trivial, if_pos HN.out]; rfl, b1⟩
/-- A row with three bytes written. -/
def putL (xs : List Value) (o : Nat) (t : Int) (k : Nat) : List Value :=
  match k with
  | 0 => xs
  | 1 => xs.set (o + 2) (.int .u8 (t % 256))
  | 2 => (xs.set (o + 2) (.int .u8 (t % 256))).set (o + 1) (.int .u8 (t / 256 % 256))
  | _ => ((xs.set (o + 2) (.int .u8 (t % 256))).set (o + 1) (.int .u8 (t / 256 % 256))).set o (.int .u8 (t / 65536))
/-- Where putTime stands. -/
def PutAt (xs : List Value) (o : Nat) (t : Int) (iv tv : Value) (ys : List Value) : Prop :=
  (iv = .int .i64 2 ∧ tv = .int .i64 t ∧ ys = putL xs o t 0) ∨ (iv = .int .i64 1 ∧ tv = .int .i64 (t / 256) ∧ ys = putL xs o t 1) ∨ (iv = .int .i64 0 ∧ tv = .int .i64 (t / 65536) ∧ ys = putL xs o t 2) ∨ (iv = .int .i64 (-1) ∧ tv = .int .i64 (t / 16777216) ∧ ys = putL xs o t 3)
set_option maxRecDepth 100000 in
set_option maxHeartbeats 2000000 in
theorem putTime_any (base g o n c0 c : Nat) (t : Int) (xs : List Value) (w : World) (ho : o + 3 ≤ n) (ht0 : 0 ≤ t) (ht : t < 16777216) (hrow : w.ownsRow base 5 1 (.slice (some ⟨g, 0, none⟩) n c0) n xs) :
    Calls Tryz.prog 57 #[.slice (some ⟨g, o, none⟩) 3 c, .int .i64 t] w fun e w' => e = .returned (.tuple #[]) ∧ w'.ownsRow base 5 1 (.slice (some ⟨g, 0, none⟩) n c0) n (putL xs o t 3) ∧ w.grownBy w' (some g) := by
  go_enter Tryz.func57, Tryz.ntmps57
  go_wp2_with fail
  go_loopw [4, 1] (fun iv tv wr => ∃ ys, PutAt xs o t iv tv ys ∧ wr.ownsRow base 5 1 (.slice (some ⟨g, 0, none⟩) n c0) n ys ∧ w.grownBy wr (some g)) (fun iv _ _ => (intOf iv + 1).toNat)
  case atStart => exact ⟨xs, .inl ⟨rfl, rfl, rfl⟩, hrow, World.grownBy.refl _ _⟩
  case round =>
    obtain ⟨ys, hP, hr, hg⟩ := hrel
    clear hrow
    have f0 := hr.frozenAt (o + 2)
    have f1 := hr.frozenAt (o + 1)
    have f2 := hr.frozenAt o
    have hl : ys.length = n := by simpa using hr.1
    obtain ⟨v0, k0⟩ : ∃ v, wr.cell? ⟨g, o + 2, none⟩ = some v := ⟨_, (hr.cellAt (o + 2) (by omega)).trans (List.getElem?_eq_getElem (by omega))⟩
    obtain ⟨v1, k1⟩ : ∃ v, wr.cell? ⟨g, o + 1, none⟩ = some v := ⟨_, (hr.cellAt (o + 1) (by omega)).trans (List.getElem?_eq_getElem (by omega))⟩
    obtain ⟨v2, k2⟩ : ∃ v, wr.cell? ⟨g, o, none⟩ = some v := ⟨_, (hr.cellAt o (by omega)).trans (List.getElem?_eq_getElem (by omega))⟩
    clear hl
    rcases hP with ⟨rfl, rfl, HY⟩ | ⟨rfl, rfl, HY⟩ | ⟨rfl, rfl, HY⟩ | ⟨rfl, rfl, HY⟩
    · have hs := hr.stored (o + 2) (.int .u8 (t % 256))
      have hg2 := hg.trans hs.2
      have hs1 := hs.1
      have HH : Hid (ys.set (o + 2) (.int .u8 (t % 256)) = putL xs o t 1) := by show _ = _; rw [HY]; rfl
      have HYh : Hid (ys = putL xs o t 0) := HY
      clear HY hs
      go_wp2_with fail
      go_roundw
      case rel => exact ⟨_, .inr (.inl ⟨rfl, rfl, HH.out⟩), hs1, hg2⟩
      case measure => simp [intOf]
    · have hs := hr.stored (o + 1) (.int .u8 ((t / 256) % 256))
      have hg2 := hg.trans hs.2
      have hs1 := hs.1
      have HH : Hid (ys.set (o + 1) (.int .u8 ((t / 256) % 256)) = putL xs o t 2) := by show _ = _; rw [HY]; rfl
      have HYh : Hid (ys = putL xs o t 1) := HY
      clear HY hs
      go_wp2_with fail
      go_roundw
      case rel => exact ⟨_, .inr (.inr (.inl ⟨rfl, by congr 1; omega, HH.out⟩)), hs1, hg2⟩
      case measure => simp [intOf]
    · have hs := hr.stored (o) (.int .u8 (t / 65536))
      have hg2 := hg.trans hs.2
      have hs1 := hs.1
      have HH : Hid (ys.set (o) (.int .u8 (t / 65536)) = putL xs o t 3) := by show _ = _; rw [HY]; rfl
      have HYh : Hid (ys = putL xs o t 2) := HY
      clear HY hs
      go_wp2_with fail
      go_roundw
      case rel => exact ⟨_, .inr (.inr (.inr ⟨rfl, by congr 1; omega, HH.out⟩)), hs1, hg2⟩
      case measure => simp [intOf]
    · go_wp2_with fail
      go_end0
      exact ⟨rfl, by rw [← HY]; exact hr, hg⟩

end Go.Proofs.YtkjlchfmplcobafGreatDoor

/- The walks of slices.Grow and slices.Concat at bytes, of leafText and nodeText. -/
namespace Go.Proofs.YtkjlchfmplcobafGreatDoor
open Go.RowKit

set_option maxRecDepth 100000 in
set_option maxHeartbeats 2000000 in
theorem grow_any (n : Nat) (w : World) (h0 : 0 < n) (hn : n ≤ 1000000) :
    Calls Tryz.prog 123 #[.slice none 0 0, .int .i64 n] w fun e w' => ∃ g c, e = .returned (.slice (some ⟨g, 0, none⟩) 0 c) ∧ w'.ownsRow w.heap.size 5 1 (.slice (some ⟨g, 0, none⟩) 0 c) 0 [] ∧ Below w.heap.size w w' := by
  obtain ⟨i0, hi0, hz0, hz1, hz2⟩ := info_parts Tryz.info5b
  have hG := grownCap_ge w n 0 5
  have hG2 := grownCap_le_maxLen w n 0 5 (by unfold maxLen; omega)
  have hrz : ∀ ty, (Builtin.append_ #[35, 3] ty #[.slice none 0 0, .int .i64 (n : Int)]).run Tryz.prog w =
      .ok (.slice (some ⟨w.heap.size, 0, none⟩) n (grownCap w n 0 5)) (w.drew.alloc (.cells (Builtin.zeroCells (Value.int .u8 0).cells n ++ Builtin.zeroCells (Value.int .u8 0).cells (grownCap w n 0 5 - n)) 5)) := fun ty => by
    have h := Lib.run_append_grow_zeros w 35 3 ty 5 i0 (.int .u8 0) .i64 .i64 Tryz.underlying35 Tryz.underlying3 hi0 hz0 none 0 0 [] (run_firstCells_none w.drew i0.size 0 0 0) n h0 (by rw [hz1]; decide) (by omega) (by omega) (by rw [hz2]; omega) (growslice_fits (by omega) (by rw [hz2]; omega))
    simpa using h
  have hsz : (Builtin.zeroCells (Value.int .u8 0).cells n ++ Builtin.zeroCells (Value.int .u8 0).cells (grownCap w n 0 5 - n)).size = grownCap w n 0 5 := by
    have hc1 : (Value.int IntKind.u8 0).cells.size = 1 := by kernel_rfl
    simp [Builtin.zeroCells, hc1]
    omega
  generalize (Builtin.zeroCells (Value.int .u8 0).cells n ++ Builtin.zeroCells (Value.int .u8 0).cells (grownCap w n 0 5 - n)) = cs at *
  generalize grownCap w n 0 5 = G at *
  have hbW : Below w.heap.size w (w.drew.alloc (.cells cs 5)) := (Below.refl _ _).drew.alloc (Nat.le_refl _) _
  have hown : (w.drew.alloc (.cells cs 5)).ownsRow w.heap.size 5 1 (.slice (some ⟨w.heap.size, 0, none⟩) 0 G) 0 [] :=
    ⟨rfl, .inr ⟨w.heap.size, G, cs, rfl, Nat.le_refl _, box_new w.drew cs 5, Nat.zero_le _, hG2, by omega, by simp⟩⟩
  unfold maxLen at hG2
  have h1 : ¬ ((n : Int) < 0) := by omega
  have h4 : (n : Int) > 0 := by omega
  go_enter Tryz.func123, Tryz.ntmps123
  go_wp2_with (at_builtin; refine Lib.wpList_append_run _ rfl _ _ _ _ rfl _ _ rfl rfl _ _ (hrz _) ?_)
  all_goals (go_ret; exact ⟨_, _, rfl, hown, hbW⟩)

set_option maxRecDepth 100000 in
set_option maxHeartbeats 2000000 in
theorem concat_any (L : List (List Int)) (a : Option Addr) (n c : Nat) (w : World) (hv : PartsAt w (.slice a n c) L) (hl : L.length = n) (hn : n ≤ 1000) (h0 : 0 < L.flatten.length) (hm : L.flatten.length ≤ 1000000) :
    Calls Tryz.prog 110 #[.slice a n c] w fun e w' => ∃ x, e = .returned x ∧ w'.ownsRow w.heap.size 5 1 x L.flatten.length (L.flatten.map (Value.int .u8)) ∧ Below w.heap.size w w' := by
  obtain ⟨i0, hi0, hz0, hz1, hz2⟩ := info_parts Tryz.info5b
  have HL : Hid (L.length = n) := hl
  obtain ⟨a0, c0, e0, hcell⟩ := hv.form
  rw [hl] at e0 hcell
  cases e0
  clear hv hl
  go_enter Tryz.func110, Tryz.ntmps110
  go_wp2_with fail
  go_loopw [3, 11] (fun s i wr => w = wr ∧ ∃ k : Nat, k ≤ n ∧ i = .int .i64 k ∧ s = .int .i64 ((L.take k).flatten.length : Int)) (fun _ i _ => n - (intOf i).toNat)
  case atStart => exact ⟨rfl, 0, Nat.zero_le _, rfl, rfl⟩
  case round =>
    obtain ⟨rfl, k, hk, rfl, rfl⟩ := hrel
    have hfl := flat_le L k
    by_cases hlt : k < n
    · obtain ⟨b, off, rfl, hb, hc⟩ := hcell.resolve_left (by omega)
      obtain ⟨pa, pc, hcj, hB⟩ := hc k hlt
      have HF : Hid ((L.take (k + 1)).flatten.length = (L.take k).flatten.length + (L.getD k []).length) := by
        show _ = _
        rw [flat_take L k (by rw [HL.out]; exact hlt), List.length_append]
      have hfl2 := flat_le L (k + 1)
      rw [HF.out] at hfl2
      generalize (L.take k).flatten.length = s at *
      generalize (L.getD k []).length = d at *
      clear hB hc
      go_wp2_with fail
      go_roundw
      case rel => exact ⟨trivial, k + 1, by omega, by go_num, by rw [HF.out]; go_num⟩
      case measure => simp [intOf]; omega
    · obtain rfl : k = n := by omega
      have e : L.take k = L := List.take_of_length_le (by rw [HL.out]; exact Nat.le_refl _)
      rw [e]
      have hG := fun w' => grow_any L.flatten.length w' h0 hm
      have h3 : ∀ j, (L.take j).flatten.length ≤ L.flatten.length := flat_le L
      have h4 : ∀ j, j < k → (L.take j).flatten.length + (L.getD j []).length ≤ L.flatten.length := fun j hj => part_le L j (by rw [HL.out]; exact hj)
      have HE : Hid (L.take k = L) := e
      clear e hfl
      generalize hF : L.flatten.length = F at *
      have HF0 : Hid (L.flatten.length = F) := hF
      clear hF
      go_wp2_with fail
      refine (hG _).mono ?_
      rintro e w1 ⟨g, gc, rfl, ho, hb1⟩
      clear hG
      have hcell1 : k = 0 ∨ ∃ b off, a = some ⟨b, off, none⟩ ∧ b < w.heap.size ∧ ∀ j, j < k → ∃ pa pc, w.cell? ⟨b, off + j, none⟩ = some (.slice pa (L.getD j []).length pc) ∧ BytesAt w (.slice pa (L.getD j []).length pc) (L.getD j []) := hcell
      clear hcell
      go_wp2_with fail
      go_loopw [6, 27] (fun v i wr => ∃ q : Nat, q ≤ k ∧ i = .int .i64 q ∧ (∃ va vc, v = .slice va (L.take q).flatten.length vc ∧ wr.ownsRow w.heap.size 5 1 (.slice va (L.take q).flatten.length vc) (L.take q).flatten.length ((L.take q).flatten.map (Value.int .u8))) ∧ Below w.heap.size w wr) (fun _ i _ => k - (intOf i).toNat)
      case atStart => exact ⟨0, Nat.zero_le _, rfl, ⟨_, _, rfl, ho⟩, hb1⟩
      case round =>
        obtain ⟨q, hq, rfl, ⟨va, vc, rfl, hrow⟩, hb⟩ := hrel
        clear ho hb1
        have hsz := hb.size
        by_cases hlt : q < k
        · obtain ⟨b, off, rfl, hbb, hc⟩ := hcell1.resolve_left (by omega)
          obtain ⟨pa, pc, hcj, hB⟩ := hc q hlt
          have hcj' : wr.cell? ⟨b, off + q, none⟩ = some (.slice pa (L.getD q []).length pc) := by rw [hb.cell (p := ⟨b, off + q, none⟩) hbb]; exact hcj
          have hB' := hB.below (Nat.le_refl _) hb
          have hle := h4 q hlt
          have HT : Hid ((L.take (q + 1)).flatten = (L.take q).flatten ++ L.getD q []) := flat_take L q (by rw [HL.out]; exact hlt)
          clear hc hB hcj h4 h3
          generalize (L.take q).flatten = D at *
          generalize L.getD q [] = d at *
          go_wp2_with (at_builtin; refine wpList_append_bytes rfl (.tmp 31) (.tmp 32) 35 rfl w.heap.size 5 i0 (.int .u8 0) Tryz.underlying35 hi0 hz0 hz1 hz2 rfl _ _ _ rfl hrow pa d.length pc d rfl hB' (by unfold maxLen; omega) (by omega) hsz ?_; intro v3 w3 ho3 hg3; obtain ⟨ya, yc, rfl⟩ := own_form' ho3)
          have b3 : Below w.heap.size w w3 := hb.grown hg3 hsz (fun _ h => own_block hrow h)
          clear hg3 hrow hB' hcj'
          go_roundw
          case rel => exact ⟨q + 1, by omega, by go_num, ⟨ya, yc, by rw [HT.out, List.length_append], by rw [HT.out, List.length_append, List.map_append]; exact ho3⟩, b3⟩
          case measure => simp [intOf]; omega
        · obtain rfl : q = k := by omega
          rw [HE.out, HF0.out] at hrow ⊢
          clear h3 h4 hcell1
          go_wp2_with fail
          go_ret
          exact ⟨_, rfl, by rw [HF0.out]; exact hrow, hb⟩

set_option maxRecDepth 100000 in
set_option maxHeartbeats 1000000 in
theorem leafText_any (b : List Int) (v : Value) (w : World) (hv : BytesAt w v b) (hm : b.length ≤ 1000) :
    Calls Tryz.prog 100 #[v] w fun e w' => ∃ x, e = .returned x ∧ w'.ownsRow w.heap.size 5 1 x (b.length + 1) ((0 :: b).map (Value.int .u8)) ∧ Below w.heap.size w w' := by
  have hp := parts_two hv 0 5 35
  have hb : Below w.heap.size w ((w.alloc (.cells #[.int .u8 0] 5)).alloc (.cells #[.slice (some ⟨w.heap.size, 0, none⟩) 1 1, v] 35)) := ((Below.refl _ _).alloc (Nat.le_refl _) _).alloc (by simp) _
  have hc := concat_any [[0], b] _ 2 2 _ hp rfl (by omega) (by simp) (by simp; omega)
  rw [show ([[0], b] : List (List Int)).flatten = 0 :: b by simp] at hc
  obtain ⟨a, c, e⟩ := hv.form
  subst e
  go_enter Tryz.func100, Tryz.ntmps100
  go_wp2_with fail
  refine hc.mono ?_
  rintro e w1 ⟨x, rfl, ho, hb1⟩
  obtain ⟨xa, xc, rfl⟩ := own_form' ho
  have hs := hb.size
  go_wp2_with fail
  go_ret
  exact ⟨_, rfl, ownsRow_base ho hs, hb.trans (hb1.mono hs)⟩
set_option maxRecDepth 100000 in
set_option maxHeartbeats 1000000 in
theorem nodeText_any (b1 b2 : List Int) (v1 v2 : Value) (w : World) (hv1 : BytesAt w v1 b1) (hv2 : BytesAt w v2 b2) (hm : b1.length + b2.length ≤ 1000) :
    Calls Tryz.prog 111 #[v1, v2] w fun e w' => ∃ x, e = .returned x ∧ w'.ownsRow w.heap.size 5 1 x (b1.length + b2.length + 1) ((1 :: (b1 ++ b2)).map (Value.int .u8)) ∧ Below w.heap.size w w' := by
  have hp := parts_three hv1 hv2 1 5 35
  have hb : Below w.heap.size w ((w.alloc (.cells #[.int .u8 1] 5)).alloc (.cells #[.slice (some ⟨w.heap.size, 0, none⟩) 1 1, v1, v2] 35)) := ((Below.refl _ _).alloc (Nat.le_refl _) _).alloc (by simp) _
  have hc := concat_any [[1], b1, b2] _ 3 3 _ hp rfl (by omega) (by simp) (by simp; omega)
  rw [show ([[1], b1, b2] : List (List Int)).flatten = 1 :: (b1 ++ b2) by simp, show (1 :: (b1 ++ b2) : List Int).length = b1.length + b2.length + 1 by simp] at hc
  obtain ⟨a, c, e⟩ := hv1.form
  subst e
  obtain ⟨a2, c2, e⟩ := hv2.form
  subst e
  go_enter Tryz.func111, Tryz.ntmps111
  go_wp2_with fail
  refine hc.mono ?_
  rintro e w1 ⟨x, rfl, ho, hb1⟩
  obtain ⟨xa, xc, rfl⟩ := own_form' ho
  have hs := hb.size
  go_wp2_with fail
  go_ret
  exact ⟨_, rfl, ownsRow_base ho hs, hb.trans (hb1.mono hs)⟩

end Go.Proofs.YtkjlchfmplcobafGreatDoor
