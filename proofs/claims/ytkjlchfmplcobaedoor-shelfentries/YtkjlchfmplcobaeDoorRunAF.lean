/- ShelfSegs, ShelfGoSmall, ShelfGoLay, as one text. -/
import Derived.Test.YtkjlchfmplcobaeDoorProg
import Derived.Test.YtkjlchfmplcobaeDoorRunAD
import Derived.WalkKit
import Derived.Deep.AppendLies
import Derived.Laws.AppendOwnNone
import Derived.WalkSpells
import Derived.WalkLawsBesides
import Derived.Deep.QuietTactic
import Derived.BigQuiet
/- Segments as rows of a call's own; parts of lists. -/
namespace Go.Proofs.YtkjlchfmplcobaeDoor
open Go.RowKit

theorem Tryd.info89b : (Tryd.prog.info? 89).map (fun i => (i.zero, i.size, i.bytes)) = some (some (.agg #[.int .i64 0, .int .i64 0, .slice none 0 0]), 3, 40) := by kernel_rfl
theorem Lists.part {w : World} {b off n c i m : Nat} {L : List (List Int)} (h : Lists w (some ⟨b, off, none⟩) n c L) (hi : i + m ≤ n) (hm : 1 ≤ m) : Lists w (some ⟨b, off + i, none⟩) m (c - i) ((L.drop i).take m) := by
  have hl := h.len
  have hr := h.room
  have hc := h.cap
  have hd := h.at'.drop (k := i) hl (by omega) (by omega) (c - i)
  refine ⟨by rw [List.length_take, List.length_drop]; omega, hd.take (by rw [List.length_drop]; omega) (by omega) (by omega) _, by omega, by omega, fun e => (by cases e), ?_, ?_⟩
  · refine take_bytes (fun j => ?_) m
    rw [List.getD_eq_getElem?_getD, List.getElem?_drop, ← List.getD_eq_getElem?_getD]; exact h.bytes _
  · refine take_short (fun j => ?_) m
    rw [List.getD_eq_getElem?_getD, List.getElem?_drop, ← List.getD_eq_getElem?_getD]; exact h.short _
theorem own3_below {w w' : World} {base : Nat} {e : TypeId} {v : Value} {n N : Nat} {xs : List Value} (h : w.ownsRow base e 3 v n xs) (hb : Below N w w') (hN : w.heap.size ≤ N) : w'.ownsRow base e 3 v n xs :=
  h.kept (w' := w') (row := none) ⟨hb.os, hb.tape, hb.output, hb.size, fun k hk _ => hb.block k (Nat.lt_of_lt_of_le hk hN)⟩ (by cases v.ownBlock <;> simp)
theorem own_ne3 {w : World} {base b2 : Nat} {e1 e2 : TypeId} {v1 v2 : Value} {n1 n2 : Nat} {xs1 xs2 : List Value} (h1 : w.ownsRow base e1 1 v1 n1 xs1) (h2 : w.ownsRow b2 e2 3 v2 n2 xs2) (hne : e1 ≠ e2) : Sep v1 v2 := fun g hg1 hg2 => by
  rcases h1.2 with ⟨rfl, -⟩ | ⟨g1, c1, cur1, rfl, -, hh1, -⟩
  · cases hg1
  rcases h2.2 with ⟨rfl, -⟩ | ⟨g2, c2, cur2, rfl, -, hh2, -⟩
  · cases hg2
  cases hg1
  cases hg2
  rw [hh1] at hh2
  cases hh2
  exact hne rfl
/-- The values of segments, each with bytes of the call's own. -/
def SegEls (w : World) (base : Nat) (vs : List Value) (l : List Seg) : Prop :=
  vs.length = l.length * 3 ∧ ∀ j, j < l.length → vs[j * 3]? = some (.int .i64 (l.getD j seg0).first) ∧ vs[j * 3 + 1]? = some (.int .i64 (l.getD j seg0).count) ∧
    ∃ y, vs[j * 3 + 2]? = some y ∧ w.ownsRow base 5 1 y (l.getD j seg0).packed.length ((l.getD j seg0).packed.map (Value.int .u8))
theorem SegEls.kept {w w' : World} {base b2 : Nat} {vs : List Value} {l : List Seg} {v : Value} {n : Nat} {xs : List Value} (h : SegEls w base vs l) (hr : w.ownsRow b2 89 3 v n xs) (hg : w.grownBy w' v.ownBlock) : SegEls w' base vs l :=
  ⟨h.1, fun j hj => by
    obtain ⟨h0, h1, y, h2, h3⟩ := h.2 j hj
    exact ⟨h0, h1, y, h2, h3.kept hg (own_ne3 h3 hr (by decide)).or⟩⟩
theorem SegEls.alloc {w : World} {base : Nat} {vs : List Value} {l : List Seg} (h : SegEls w base vs l) (o : Obj) : SegEls (w.alloc o) base vs l :=
  ⟨h.1, fun j hj => by
    obtain ⟨h0, h1, y, h2, h3⟩ := h.2 j hj
    exact ⟨h0, h1, y, h2, h3.alloc o⟩⟩
theorem SegEls.below {w w' : World} {base N : Nat} {vs : List Value} {l : List Seg} (h : SegEls w base vs l) (hb : Below N w w') (hN : w.heap.size ≤ N) : SegEls w' base vs l :=
  ⟨h.1, fun j hj => by
    obtain ⟨h0, h1, y, h2, h3⟩ := h.2 j hj
    exact ⟨h0, h1, y, h2, own_below h3 hb hN⟩⟩
theorem SegEls.snoc {w : World} {base : Nat} {vs : List Value} {l : List Seg} {s : Seg} {y : Value} (h : SegEls w base vs l) (hy : w.ownsRow base 5 1 y s.packed.length (s.packed.map (Value.int .u8))) : SegEls w base (vs ++ [.int .i64 s.first, .int .i64 s.count, y]) (l ++ [s]) := by
  obtain ⟨hl, h⟩ := h
  refine ⟨by simp; omega, fun j hj => ?_⟩
  by_cases e : j < l.length
  · obtain ⟨h0, h1, z, h2, h3⟩ := h j e
    have eg : (l ++ [s]).getD j seg0 = l.getD j seg0 := by rw [List.getD_eq_getElem?_getD, List.getElem?_append_left e, ← List.getD_eq_getElem?_getD]
    rw [eg, List.getElem?_append_left (by omega), List.getElem?_append_left (by omega), List.getElem?_append_left (by omega)]
    exact ⟨h0, h1, z, h2, h3⟩
  · obtain rfl : j = l.length := by simp at hj; omega
    have eg : (l ++ [s]).getD l.length seg0 = s := by rw [List.getD_eq_getElem?_getD, List.getElem?_append_right (Nat.le_refl _), Nat.sub_self]; rfl
    rw [eg, List.getElem?_append_right (by omega), List.getElem?_append_right (by omega), List.getElem?_append_right (by omega), hl, Nat.sub_self, show l.length * 3 + 1 - l.length * 3 = 1 by omega, show l.length * 3 + 2 - l.length * 3 = 2 by omega]
    exact ⟨rfl, rfl, y, rfl, hy⟩
theorem segEls_nil (w : World) (base : Nat) : SegEls w base [] [] := ⟨rfl, fun _ hj => absurd hj (Nat.not_lt_zero _)⟩
/-- Segments, all of them the call's own. -/
def OwnSegs (w : World) (base : Nat) (v : Value) (l : List Seg) : Prop := ∃ vs, w.ownsRow base 89 3 v l.length vs ∧ SegEls w base vs l
theorem OwnSegs.below {w w' : World} {base N : Nat} {v : Value} {l : List Seg} (h : OwnSegs w base v l) (hb : Below N w w') (hN : w.heap.size ≤ N) : OwnSegs w' base v l := by
  obtain ⟨vs, h1, h2⟩ := h
  exact ⟨vs, own3_below h1 hb hN, h2.below hb hN⟩
theorem OwnSegs.set {w : World} {base k o : Nat} {v : Value} {l : List Seg} (h : OwnSegs w base v l) (hk : k < base) (u : Value) : OwnSegs (w.setCell ⟨k, o, none⟩ u) base v l := by
  obtain ⟨vs, h1, h2, h3⟩ := h
  refine ⟨vs, ownsRow_setCell_below h1 (a := ⟨k, o, none⟩) hk u, h2, fun j hj => ?_⟩
  obtain ⟨g0, g1, y, g2, g3⟩ := h3 j hj
  exact ⟨g0, g1, y, g2, ownsRow_setCell_below g3 (a := ⟨k, o, none⟩) hk u⟩
theorem OwnSegs.segs {w : World} {base : Nat} {v : Value} {l : List Seg} (h : OwnSegs w base v l) (hby : SegsBytes l) : SegsAt w v l := by
  obtain ⟨vs, h1, -, h2⟩ := h
  rcases h1.2 with ⟨hv, hn⟩ | ⟨g, cap, cur, rfl, -, hg, h3, h4, -⟩
  · exact ⟨none, 0, by rw [hv, hn], by omega, Nat.zero_le _, fun _ => rfl, .inl hn⟩
  · refine ⟨_, cap, rfl, h3, h4, (fun e => by cases e), .inr ⟨g, 0, rfl, lt_heap hg, fun j hj => ?_⟩⟩
    obtain ⟨g0, g1, y, g2, g3⟩ := h2 j hj
    rw [Nat.zero_add]
    refine ⟨(h1.cellAt (j * 3) (by omega)).trans g0, (h1.cellAt (j * 3 + 1) (by omega)).trans g1, ?_⟩
    obtain ⟨pa, pc, rfl, q1, q2⟩ := own_cap g3
    exact ⟨pa, pc, (h1.cellAt (j * 3 + 2) (by omega)).trans g2, ⟨bytesAt_own g3, hby j, by omega⟩, q1, q2⟩
/-- Each segment's bytes lie in a later block than those of the one ahead. -/
def RiseV (vs : List Value) (m : Nat) : Prop := ∀ i j, i < j → j < m → ∀ y z g h, vs[i * 3 + 2]? = some y → vs[j * 3 + 2]? = some z → y.ownBlock = some g → z.ownBlock = some h → g < h
theorem riseV_nil : RiseV [] 0 := fun _ _ _ h => absurd h (Nat.not_lt_zero _)
theorem RiseV.snoc {w : World} {base m : Nat} {vs : List Value} {l : List Seg} {a b y : Value} (h : RiseV vs m) (he : SegEls w base vs l) (hm : l.length = m) (hy : ∀ g, y.ownBlock = some g → w.heap.size ≤ g) : RiseV (vs ++ [a, b, y]) (m + 1) := fun i j hij hj u z g q hu hz hg hq => by
  have hl : vs.length = m * 3 := by rw [← hm]; exact he.1
  rw [List.getElem?_append_left (by omega)] at hu
  by_cases e : j < m
  · rw [List.getElem?_append_left (by omega)] at hz
    exact h i j hij e u z g q hu hz hg hq
  · obtain rfl : j = m := by omega
    rw [List.getElem?_append_right (by omega), hl, show j * 3 + 2 - j * 3 = 2 by omega] at hz
    cases hz
    obtain ⟨-, -, x, h1, h2⟩ := he.2 i (by omega)
    rw [hu] at h1
    cases h1
    have := (h2.lt g hg).2
    have := hy q hq
    omega
theorem lit_seg (w : World) (x y : Int) (pv : Value) (t : TypeId) : ∀ (j : Nat) (u : Value), [Value.int .i64 x, .int .i64 y, pv][j]? = some u → (w.alloc (.cells #[.int .i64 x, .int .i64 y, pv] t)).cell? ((⟨w.heap.size, 0, none⟩ : Addr).add j) = some u := fun j u hj => by
  have hadd : (⟨w.heap.size, 0, none⟩ : Addr).add j = ⟨w.heap.size, 0 + j, none⟩ := Addr.add_mid _ _ _
  rw [hadd, Nat.zero_add]
  match j, hj with
  | 0, hj => rw [new_cell w t _ 0 (by simp)]; simpa using hj
  | 1, hj => rw [new_cell w t _ 1 (by simp)]; simpa using hj
  | 2, hj => rw [new_cell w t _ 2 (by simp)]; simpa using hj
  | j + 3, hj => simp at hj
theorem segK_bytes {L : List (List Int)} (hb : ∀ j, Bytes (L.getD j [])) (h : ∀ e ∈ L, e.length ≤ 200) (k : Nat) : Bytes (segK L k).packed := by
  refine pack_bytes ?_ (lay_part h k)
  refine bytes_of_mem (fun x hx => ?_)
  unfold layL at hx
  obtain ⟨e, he, hx⟩ := List.mem_flatMap.1 hx
  have h200 := short_part h k e he
  rcases List.mem_cons.1 hx with rfl | hx
  · omega
  · obtain ⟨j, hj, rfl⟩ := List.mem_iff_getElem.1 (List.mem_of_mem_drop (List.mem_of_mem_take he))
    have := hb j
    rw [List.getD_eq_getElem?_getD, List.getElem?_eq_getElem hj] at this
    exact bytes_forall this x hx
theorem segsL_bytes {L : List (List Int)} (hb : ∀ j, Bytes (L.getD j [])) (h : ∀ e ∈ L, e.length ≤ 200) : SegsBytes (segsL L) := fun j => by
  by_cases hj : j < (L.length + 7) / 8
  · unfold segsL; rw [segsN_get _ _ _ hj]; exact segK_bytes hb h j
  · rw [List.getD_eq_getElem?_getD, List.getElem?_eq_none (by unfold segsL; rw [segsN_length]; omega)]; exact nil_bytes
/-- The text of a part. -/
theorem lay_bytes {l : List (List Int)} (hb : ∀ j, Bytes (l.getD j [])) (h : ∀ j, (l.getD j []).length ≤ 200) : Bytes (layL l) := by
  refine bytes_of_mem (fun x hx => ?_)
  unfold layL at hx
  obtain ⟨e, he, hx⟩ := List.mem_flatMap.1 hx
  obtain ⟨j, hj, rfl⟩ := List.mem_iff_getElem.1 he
  have h1 := hb j
  have h2 := h j
  rw [List.getD_eq_getElem?_getD, List.getElem?_eq_getElem hj] at h1 h2
  rcases List.mem_cons.1 hx with rfl | hx
  · simp at h2; omega
  · exact bytes_forall h1 x hx

end Go.Proofs.YtkjlchfmplcobaeDoor

/- The walks of isSize, segmentsFor, countFrom and fits: package shelf as it landed. -/
namespace Go.Proofs.YtkjlchfmplcobaeDoor
open Go.RowKit

def sizeB (n : Int) : Bool := decide (0 ≤ n ∧ n ≤ 100)
theorem sizeB_true {n : Int} (h0 : 0 ≤ n) (h1 : n ≤ 100) : sizeB n = true := decide_eq_true ⟨h0, h1⟩
theorem sizeB_false {n : Int} (h : ¬ (0 ≤ n ∧ n ≤ 100)) : sizeB n = false := decide_eq_false h
set_option maxRecDepth 100000 in
theorem isSize_any (n : Int) (w : World) : Calls Tryd.prog 31 #[.int .i64 n] w fun e w' => e = .returned (.bool (sizeB n)) ∧ w' = w := by
  by_cases h0 : 0 ≤ n
  · by_cases h1 : n ≤ 100
    · have e : sizeB n = true := sizeB_true h0 h1
      rw [e]
      clear e
      go_enter Tryd.func31, Tryd.ntmps31
      go_wp2
      go_ret
      exact ⟨rfl, rfl⟩
    · have e : sizeB n = false := sizeB_false (by omega)
      rw [e]
      clear e
      go_enter Tryd.func31, Tryd.ntmps31
      go_wp2
      go_ret
      exact ⟨rfl, rfl⟩
  · have e : sizeB n = false := sizeB_false (by omega)
    rw [e]
    clear e
    go_enter Tryd.func31, Tryd.ntmps31
    go_wp2
    go_ret
    exact ⟨rfl, rfl⟩
theorem ret_int' {k : IntKind} {a b : Int} (h : a = b) : Ending.returned (.int k a) = .returned (.int k b) := by rw [h]
set_option maxRecDepth 100000 in
theorem segmentsFor_any (n : Int) (w : World) (h0 : 0 ≤ n) (h1 : n ≤ 100) : Calls Tryd.prog 32 #[.int .i64 n] w fun e w' => e = .returned (.int .i64 ((n + 7) / 8)) ∧ w' = w := by
  go_enter Tryd.func32, Tryd.ntmps32
  go_wp2
  go_ret
  exact ⟨ret_int' (by omega), rfl⟩
set_option maxRecDepth 100000 in
theorem countFrom_any (f s : Int) (w : World) (h0 : 0 ≤ f) (h1 : f ≤ 1000) (h2 : 0 ≤ s) (h3 : s ≤ 1000) : Calls Tryd.prog 76 #[.int .i64 f, .int .i64 s] w fun e w' => e = .returned (.int .i64 (min 8 (s - f))) ∧ w' = w := by
  by_cases h : s - f < 8
  · rw [show min 8 (s - f) = s - f by omega]
    go_enter Tryd.func76, Tryd.ntmps76
    go_wp2
    go_ret
    exact ⟨rfl, rfl⟩
  · rw [show min 8 (s - f) = 8 by omega]
    go_enter Tryd.func76, Tryd.ntmps76
    go_wp2
    go_ret
    exact ⟨rfl, rfl⟩
set_option maxRecDepth 100000 in
set_option maxHeartbeats 2000000 in
theorem segFits_any (f c k size : Int) (pv : Value) (p : List Int) (w : World) (hk : 0 ≤ k) : Calls Tryd.prog 59 #[.agg #[.int .i64 f, .int .i64 c, pv], .int .i64 k, .int .i64 size] w fun e w' => e = .returned (.bool (fitB size k ⟨f, c, p⟩)) ∧ Below w.heap.size w w' := by
  have hS := isSize_any size
  have hb := box_new w #[.int .i64 f, .int .i64 c, pv] 89
  obtain ⟨x0, x1, x2, -, -, -⟩ := box_three hb
  have bW : Below w.heap.size w (w.alloc (.cells #[.int .i64 f, .int .i64 c, pv] 89)) := (Below.refl _ _).alloc (Nat.le_refl _) _
  clear hb
  by_cases h1 : 0 ≤ size ∧ size ≤ 100
  · rw [sizeB_true h1.1 h1.2] at hS
    by_cases h2 : k ≤ 100
    · by_cases h3 : f = k * 8
      · subst h3
        by_cases h4 : 1 ≤ c
        · have hC := fun W => countFrom_any (k * 8) size W (by omega) (by omega) h1.1 (by omega)
          by_cases h5 : c = min 8 (size - k * 8)
          · have e : fitB size k ⟨k * 8, c, p⟩ = true := fitB_iff.2 ⟨h1.1, h1.2, h2, rfl, h4, h5⟩
            have hC' : ∀ W, Calls Tryd.prog 76 #[.int .i64 (k * 8), .int .i64 size] W fun e w' => e = .returned (.int .i64 c) ∧ w' = W := fun W => by have := hC W; rwa [← h5] at this
            have hcc : (c == c) = true := by simp
            rw [e]
            clear e h5 hC
            go_enter Tryd.func59, Tryd.ntmps59
            go_wp2_with fail
            go_quiet ((first | (go_at_call 31; exact Calls.quiet_of_same (hS _)) | (go_at_call 76; exact Calls.quiet_of_same (hC' _))))
            go_wp2_with fail
            go_ret
            exact ⟨rfl, below_drewN' bW _⟩
          · have e : fitB size k ⟨k * 8, c, p⟩ = false := by rw [Bool.eq_false_iff]; intro h; exact h5 (fitB_iff.1 h).2.2.2.2.2
            obtain ⟨q, hq⟩ : ∃ q, q = min 8 (size - k * 8) := ⟨_, rfl⟩
            rw [← hq] at hC h5
            have h5' : (c == q) = false := by simpa using h5
            rw [e]
            clear e h5 hq
            go_enter Tryd.func59, Tryd.ntmps59
            go_wp2_with fail
            go_quiet ((first | (go_at_call 31; exact Calls.quiet_of_same (hS _)) | (go_at_call 76; exact Calls.quiet_of_same (hC _))))
            go_wp2_with fail
            go_ret
            exact ⟨rfl, below_drewN' bW _⟩
        · have e : fitB size k ⟨k * 8, c, p⟩ = false := by rw [Bool.eq_false_iff]; intro h; exact h4 (fitB_iff.1 h).2.2.2.2.1
          have h4' : decide (1 ≤ c) = false := decide_eq_false h4
          rw [e]
          clear e
          go_enter Tryd.func59, Tryd.ntmps59
          go_wp2_with fail
          go_quiet ((go_at_call 31; exact Calls.quiet_of_same (hS _)))
          go_wp2_with fail
          go_ret
          exact ⟨rfl, below_drewN' bW _⟩
      · have e : fitB size k ⟨f, c, p⟩ = false := by rw [Bool.eq_false_iff]; intro h; exact h3 (fitB_iff.1 h).2.2.2.1
        have h3' : (f == k * 8) = false := by simpa using h3
        rw [e]
        clear e h3
        go_enter Tryd.func59, Tryd.ntmps59
        go_wp2_with fail
        go_quiet ((go_at_call 31; exact Calls.quiet_of_same (hS _)))
        go_wp2_with fail
        go_ret
        exact ⟨rfl, below_drewN' bW _⟩
    · have e : fitB size k ⟨f, c, p⟩ = false := by rw [Bool.eq_false_iff]; intro h; exact h2 (fitB_iff.1 h).2.2.1
      have h2' : decide (k ≤ 100) = false := decide_eq_false h2
      rw [e]
      clear e
      go_enter Tryd.func59, Tryd.ntmps59
      go_wp2_with fail
      go_quiet ((go_at_call 31; exact Calls.quiet_of_same (hS _)))
      go_wp2_with fail
      go_ret
      exact ⟨rfl, below_drewN' bW _⟩
  · rw [sizeB_false h1] at hS
    have e : fitB size k ⟨f, c, p⟩ = false := by rw [Bool.eq_false_iff]; intro h; have := fitB_iff.1 h; exact h1 ⟨this.1, this.2.1⟩
    rw [e]
    clear e h1
    go_enter Tryd.func59, Tryd.ntmps59
    go_wp2_with fail
    go_quiet ((go_at_call 31; exact Calls.quiet_of_same (hS _)))
    go_wp2_with fail
    go_ret
    exact ⟨rfl, below_drewN' bW _⟩

end Go.Proofs.YtkjlchfmplcobaeDoor

/- The walk of writeEntries: package shelf as it landed. -/
namespace Go.Proofs.YtkjlchfmplcobaeDoor
open Go.RowKit

set_option maxRecDepth 100000 in
set_option maxHeartbeats 2000000 in
theorem writeEntries_any (L : List (List Int)) (a : Option Addr) (n c : Nat) (w : World) (hL : Lists w a n c L) (h200 : ∀ j, (L.getD j []).length ≤ 200) (h8 : n ≤ 8) :
    Calls Tryd.prog 78 #[.slice a n c] w fun e w' => ∃ va vc, e = .returned (.slice va (layL L).length vc) ∧ w'.ownsRow w.heap.size 5 1 (.slice va (layL L).length vc) (layL L).length ((layL L).map (Value.int .u8)) ∧ Below w.heap.size w w' := by
  obtain ⟨i0, hi0, hz0, hz1, hz2⟩ := info_parts Tryd.info5b
  have hlen := hL.len
  have h201 : ∀ k, (layL (L.take k)).length ≤ 2000 := fun k => by
    have h1 := layL_length (L.take k) (fun e he => mem_short h200 e (List.mem_of_mem_take he))
    have h2 : (L.take k).length ≤ 8 := by rw [List.length_take]; omega
    omega
  go_enter Tryd.func78, Tryd.ntmps78
  go_wp2_with fail
  go_loopw [3, 8] (fun ov kv wr => ∃ (k : Nat) (va : Option Addr) (m vc : Nat), k ≤ n ∧ kv = .int .i64 k ∧ ov = .slice va m vc ∧ Hid (m = (layL (L.take k)).length) ∧ wr.ownsRow w.heap.size 5 1 (.slice va m vc) m ((layL (L.take k)).map (Value.int .u8)) ∧ Below w.heap.size w wr) (fun _ kv _ => n - (intOf kv).toNat)
  case atStart => exact ⟨0, none, 0, 0, Nat.zero_le _, rfl, rfl, rfl, ⟨rfl, .inl ⟨rfl, rfl⟩⟩, Below.refl _ _⟩
  case round =>
    obtain ⟨wo, rfl⟩ : ∃ x, x = wr := ⟨wr, rfl⟩
    obtain ⟨k, va, m, vc, hk, rfl, rfl, HM, hrow, hbr⟩ := hrel
    have hm := h201 k
    rw [← HM.out] at hm
    have hsr := hbr.size
    by_cases hlt : k < n
    · obtain ⟨b, off, pa, pc, rfl, hcell, hsome⟩ := hL.get k hlt
      have hb0 : b < w.heap.size := World.block_lt_of_cell? w ⟨b, off + k, none⟩ hcell
      have hcell1 := (hbr.cell (p := ⟨b, off + k, none⟩) hb0).trans hcell
      have HS : Hid (layL (L.take (k + 1)) = layL (L.take k) ++ ((L.getD k []).length : Int) :: L.getD k []) := by
        show _ = _
        rw [List.take_succ_eq_append_getElem (by omega), layL_snoc, List.getD_eq_getElem?_getD, List.getElem?_eq_getElem (by omega)]
        rfl
      have hd2 := h200 k
      have hB0 := hsome.at'
      obtain ⟨D, hD⟩ : ∃ D, D = L.getD k [] := ⟨_, rfl⟩
      rw [← hD] at hcell1 HS hd2 hB0
      obtain ⟨d, hd⟩ : ∃ d, d = D.length := ⟨_, rfl⟩
      rw [← hd] at hcell1 HS hd2 hB0
      have Hd : Hid (d = D.length) := hd
      have hlt' : (k : Int) < n := by omega
      have hd' : (d : Int) ≤ 200 := by omega
      have hrowA := hrow.alloc (.cells #[.int .u8 d] 5)
      have hnew := cell_one_new wo (.int .u8 d) 5
      have bA : Below w.heap.size w (wo.alloc (.cells #[.int .u8 d] 5)) := hbr.alloc hsr _
      have hsA : w.heap.size ≤ (wo.alloc (.cells #[.int .u8 d] 5)).heap.size := by simp; omega
      have hdm : m + 1 + D.length ≤ 3000 := by omega
      clear hcell hsome hrow h200 hD hd h201
      go_wp2_with (first
        | (at_builtin; refine wpList_append_own _ rfl (.tmp 12) (.tmp 16) 22 rfl w.heap.size 5 i0 _ 1 1 Tryd.underlying22 hi0 hz0 hz1 hz2 rfl (by decide) _ _ _ rfl hrowA _ 1 1 [.int .u8 d] rfl rfl hnew (by intro u hu; simp at hu; subst hu; rfl) (by unfold maxLen; omega) (by omega) hsA ?_; intro v7 w7 ho7 hg7 _; obtain ⟨ta, tc, rfl⟩ := own_form' ho7; have b7 : Below w.heap.size w w7 := bA.grown hg7 hsA (fun _ h => own_block hrowA h); have hB7 := hB0.below (Nat.le_refl _) b7; clear hg7)
        | (at_builtin; refine wpList_append_bytes rfl (.tmp 18) (.tmp 19) 22 rfl w.heap.size 5 i0 _ Tryd.underlying22 hi0 hz0 hz1 hz2 rfl _ _ _ rfl ho7 pa d pc D rfl hB7 (by unfold maxLen; omega) (by omega) b7.size ?_; intro v8 w8 ho8 hg8; obtain ⟨sa, sc, rfl⟩ := own_form' ho8))
      have b8 : Below w.heap.size w w8 := b7.grown hg8 b7.size (fun _ h => own_block ho7 h)
      go_roundw
      case rel =>
        refine ⟨k + 1, sa, _, sc, by omega, by go_num, rfl, ?_, ?_, b8⟩
        · show _ = _; rw [HS.out, List.length_append, List.length_cons, ← HM.out]; omega
        · rw [HS.out, List.map_append, List.map_cons]; simpa using ho8
      case measure => simp [intOf]; omega
    · obtain rfl : k = n := by omega
      rw [List.take_of_length_le (by omega)] at HM hrow
      go_wp2_with fail
      go_ret
      refine ⟨va, vc, by rw [← HM.out]; rfl, by rw [← HM.out]; exact hrow, hbr⟩

end Go.Proofs.YtkjlchfmplcobaeDoor
