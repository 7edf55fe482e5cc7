/- The walks of slices.Grow and slices.Concat at bytes, of leafText and nodeText. -/
import Derived.Test.YtkjlchfmplcobabDoorProg
import Derived.Test.YtkjlchfmplcobabDoorTreeGoSmall
import Derived.Test.YtkjlchfmplcobabDoorRunAA
import Derived.Lib.AppendZerosOnto
import Derived.WalkKit
import Derived.WalkSpells
import Derived.WalkLawsBesides
namespace Go.Proofs.YtkjlchfmplcobabDoor
open Go.RowKit

set_option maxRecDepth 100000 in
set_option maxHeartbeats 2000000 in
theorem grow_any (n : Nat) (w : World) (h0 : 0 < n) (hn : n ≤ 1000000) :
    Calls Tryd.prog 81 #[.slice none 0 0, .int .i64 n] w fun e w' => ∃ g c, e = .returned (.slice (some ⟨g, 0, none⟩) 0 c) ∧ w'.ownsRow w.heap.size 5 1 (.slice (some ⟨g, 0, none⟩) 0 c) 0 [] ∧ Below w.heap.size w w' := by
  obtain ⟨i0, hi0, hz0, hz1, hz2⟩ := info_parts Tryd.info5b
  have hG := grownCap_ge w n 0 5
  have hG2 := grownCap_le_maxLen w n 0 5 (by unfold maxLen; omega)
  have hrz : ∀ ty, (Builtin.append_ #[24, 3] ty #[.slice none 0 0, .int .i64 (n : Int)]).run Tryd.prog w =
      .ok (.slice (some ⟨w.heap.size, 0, none⟩) n (grownCap w n 0 5)) (w.drew.alloc (.cells (Builtin.zeroCells (Value.int .u8 0).cells n ++ Builtin.zeroCells (Value.int .u8 0).cells (grownCap w n 0 5 - n)) 5)) := fun ty => by
    have h := Lib.run_append_grow_zeros w 24 3 ty 5 i0 (.int .u8 0) .i64 .i64 Tryd.underlying24 Tryd.underlying3 hi0 hz0 none 0 0 [] (run_firstCells_none w.drew i0.size 0 0 0) n h0 (by rw [hz1]; decide) (by omega) (by omega) (by rw [hz2]; omega) (growslice_fits (by omega) (by rw [hz2]; omega))
    simpa using h
  have hsz : (Builtin.zeroCells (Value.int .u8 0).cells n ++ Builtin.zeroCells (Value.int .u8 0).cells (grownCap w n 0 5 - n)).size = grownCap w n 0 5 := by
    have hc1 : (Value.int IntKind.u8 0).cells.size = 1 := by kernel_rfl
    simp [Builtin.zeroCells, hc1]
    omega
  generalize (Builtin.zeroCells (Value.int .u8 0).cells n ++ Builtin.zeroCells (Value.int .u8 0).cells (grownCap w n 0 5 - n)) = cs at *
  generalize grownCap w n 0 5 = G at *
  have hbW : Below w.heap.size w (w.drew.alloc (.cells cs 5)) := (Below.refl _ _).drew.alloc (Nat.le_refl _) _
  have hown : (w.drew.alloc (.cells cs 5)).ownsRow w.heap.size 5 1 (.slice (some ⟨w.heap.size, 0, none⟩) 0 G) 0 [] :=
    ⟨rfl, .inr ⟨w.heap.size, G, cs, rfl, Nat.le_refl _, box_new w.drew cs 5, Nat.zero_le _, hG2, by omega, by simp⟩⟩
  unfold maxLen at hG2
  have h1 : ¬ ((n : Int) < 0) := by omega
  have h4 : (n : Int) > 0 := by omega
  go_enter Tryd.func81, Tryd.ntmps81
  go_wp2_with (at_builtin; refine Lib.wpList_append_run _ rfl _ _ _ _ rfl _ _ rfl rfl _ _ (hrz _) ?_)
  all_goals (go_ret; exact ⟨_, _, rfl, hown, hbW⟩)

set_option maxRecDepth 100000 in
set_option maxHeartbeats 2000000 in
theorem concat_any (L : List (List Int)) (a : Option Addr) (n c : Nat) (w : World) (hv : PartsAt w (.slice a n c) L) (hl : L.length = n) (hn : n ≤ 1000) (h0 : 0 < L.flatten.length) (hm : L.flatten.length ≤ 1000000) :
    Calls Tryd.prog 76 #[.slice a n c] w fun e w' => ∃ x, e = .returned x ∧ w'.ownsRow w.heap.size 5 1 x L.flatten.length (L.flatten.map (Value.int .u8)) ∧ Below w.heap.size w w' := by
  obtain ⟨i0, hi0, hz0, hz1, hz2⟩ := info_parts Tryd.info5b
  have HL : Hid (L.length = n) := hl
  obtain ⟨a0, c0, e0, hcell⟩ := hv.form
  rw [hl] at e0 hcell
  cases e0
  clear hv hl
  go_enter Tryd.func76, Tryd.ntmps76
  go_wp2_with fail
  go_loopw [3, 11] (fun s i wr => w = wr ∧ ∃ k : Nat, k ≤ n ∧ i = .int .i64 k ∧ s = .int .i64 ((L.take k).flatten.length : Int)) (fun _ i _ => n - (intOf i).toNat)
  case atStart => exact ⟨rfl, 0, Nat.zero_le _, rfl, rfl⟩
  case round =>
    obtain ⟨rfl, k, hk, rfl, rfl⟩ := hrel
    have hfl := flat_le L k
    by_cases hlt : k < n
    · obtain ⟨b, off, rfl, hb, hc⟩ := hcell.resolve_left (by omega)
      obtain ⟨pa, pc, hcj, hB⟩ := hc k hlt
      have HF : Hid ((L.take (k + 1)).flatten.length = (L.take k).flatten.length + (L.getD k []).length) := by
        show _ = _
        rw [flat_take L k (by rw [HL.out]; exact hlt), List.length_append]
      have hfl2 := flat_le L (k + 1)
      rw [HF.out] at hfl2
      generalize (L.take k).flatten.length = s at *
      generalize (L.getD k []).length = d at *
      clear hB hc
      go_wp2_with fail
      go_roundw
      case rel => exact ⟨trivial, k + 1, by omega, by go_num, by rw [HF.out]; go_num⟩
      case measure => simp [intOf]; omega
    · obtain rfl : k = n := by omega
      have e : L.take k = L := List.take_of_length_le (by rw [HL.out]; exact Nat.le_refl _)
      rw [e]
      have hG := fun w' => grow_any L.flatten.length w' h0 hm
      have h3 : ∀ j, (L.take j).flatten.length ≤ L.flatten.length := flat_le L
      have h4 : ∀ j, j < k → (L.take j).flatten.length + (L.getD j []).length ≤ L.flatten.length := fun j hj => part_le L j (by rw [HL.out]; exact hj)
      have HE : Hid (L.take k = L) := e
      clear e hfl
      generalize hF : L.flatten.length = F at *
      have HF0 : Hid (L.flatten.length = F) := hF
      clear hF
      go_wp2_with fail
      refine (hG _).mono ?_
      rintro e w1 ⟨g, gc, rfl, ho, hb1⟩
      clear hG
      have hcell1 : k = 0 ∨ ∃ b off, a = some ⟨b, off, none⟩ ∧ b < w.heap.size ∧ ∀ j, j < k → ∃ pa pc, w.cell? ⟨b, off + j, none⟩ = some (.slice pa (L.getD j []).length pc) ∧ BytesAt w (.slice pa (L.getD j []).length pc) (L.getD j []) := hcell
      clear hcell
      go_wp2_with fail
      go_loopw [6, 27] (fun v i wr => ∃ q : Nat, q ≤ k ∧ i = .int .i64 q ∧ (∃ va vc, v = .slice va (L.take q).flatten.length vc ∧ wr.ownsRow w.heap.size 5 1 (.slice va (L.take q).flatten.length vc) (L.take q).flatten.length ((L.take q).flatten.map (Value.int .u8))) ∧ Below w.heap.size w wr) (fun _ i _ => k - (intOf i).toNat)
      case atStart => exact ⟨0, Nat.zero_le _, rfl, ⟨_, _, rfl, ho⟩, hb1⟩
      case round =>
        obtain ⟨q, hq, rfl, ⟨va, vc, rfl, hrow⟩, hb⟩ := hrel
        clear ho hb1
        have hsz := hb.size
        by_cases hlt : q < k
        · obtain ⟨b, off, rfl, hbb, hc⟩ := hcell1.resolve_left (by omega)
          obtain ⟨pa, pc, hcj, hB⟩ := hc q hlt
          have hcj' : wr.cell? ⟨b, off + q, none⟩ = some (.slice pa (L.getD q []).length pc) := by rw [hb.cell (p := ⟨b, off + q, none⟩) hbb]; exact hcj
          have hB' := hB.below (Nat.le_refl _) hb
          have hle := h4 q hlt
          have HT : Hid ((L.take (q + 1)).flatten = (L.take q).flatten ++ L.getD q []) := flat_take L q (by rw [HL.out]; exact hlt)
          clear hc hB hcj h4 h3
          generalize (L.take q).flatten = D at *
          generalize L.getD q [] = d at *
          go_wp2_with (at_builtin; refine wpList_append_bytes rfl (.tmp 31) (.tmp 32) 24 rfl w.heap.size 5 i0 (.int .u8 0) Tryd.underlying24 hi0 hz0 hz1 hz2 rfl _ _ _ rfl hrow pa d.length pc d rfl hB' (by unfold maxLen; omega) (by omega) hsz ?_; intro v3 w3 ho3 hg3; obtain ⟨ya, yc, rfl⟩ := own_form' ho3)
          have b3 : Below w.heap.size w w3 := hb.grown hg3 hsz (fun _ h => own_block hrow h)
          clear hg3 hrow hB' hcj'
          go_roundw
          case rel => exact ⟨q + 1, by omega, by go_num, ⟨ya, yc, by rw [HT.out, List.length_append], by rw [HT.out, List.length_append, List.map_append]; exact ho3⟩, b3⟩
          case measure => simp [intOf]; omega
        · obtain rfl : q = k := by omega
          rw [HE.out, HF0.out] at hrow ⊢
          clear h3 h4 hcell1
          go_wp2_with fail
          go_ret
          exact ⟨_, rfl, by rw [HF0.out]; exact hrow, hb⟩

set_option maxRecDepth 100000 in
set_option maxHeartbeats 1000000 in
theorem leafText_any (b : List Int) (v : Value) (w : World) (hv : BytesAt w v b) (hm : b.length ≤ 1000) :
    Calls Tryd.prog 69 #[v] w fun e w' => ∃ x, e = .returned x ∧ w'.ownsRow w.heap.size 5 1 x (b.length + 1) ((0 :: b).map (Value.int .u8)) ∧ Below w.heap.size w w' := by
  have hp := parts_two hv 0 5 24
  have hb : Below w.heap.size w ((w.alloc (.cells #[.int .u8 0] 5)).alloc (.cells #[.slice (some ⟨w.heap.size, 0, none⟩) 1 1, v] 24)) := ((Below.refl _ _).alloc (Nat.le_refl _) _).alloc (by simp) _
  have hc := concat_any [[0], b] _ 2 2 _ hp rfl (by omega) (by simp) (by simp; omega)
  rw [show ([[0], b] : List (List Int)).flatten = 0 :: b by simp] at hc
  obtain ⟨a, c, e⟩ := hv.form
  subst e
  go_enter Tryd.func69, Tryd.ntmps69
  go_wp2_with fail
  refine hc.mono ?_
  rintro e w1 ⟨x, rfl, ho, hb1⟩
  obtain ⟨xa, xc, rfl⟩ := own_form' ho
  have hs := hb.size
  go_wp2_with fail
  go_ret
  exact ⟨_, rfl, ownsRow_base ho hs, hb.trans (hb1.mono hs)⟩
set_option maxRecDepth 100000 in
set_option maxHeartbeats 1000000 in
theorem nodeText_any (b1 b2 : List Int) (v1 v2 : Value) (w : World) (hv1 : BytesAt w v1 b1) (hv2 : BytesAt w v2 b2) (hm : b1.length + b2.length ≤ 1000) :
    Calls Tryd.prog 77 #[v1, v2] w fun e w' => ∃ x, e = .returned x ∧ w'.ownsRow w.heap.size 5 1 x (b1.length + b2.length + 1) ((1 :: (b1 ++ b2)).map (Value.int .u8)) ∧ Below w.heap.size w w' := by
  have hp := parts_three hv1 hv2 1 5 24
  have hb : Below w.heap.size w ((w.alloc (.cells #[.int .u8 1] 5)).alloc (.cells #[.slice (some ⟨w.heap.size, 0, none⟩) 1 1, v1, v2] 24)) := ((Below.refl _ _).alloc (Nat.le_refl _) _).alloc (by simp) _
  have hc := concat_any [[1], b1, b2] _ 3 3 _ hp rfl (by omega) (by simp) (by simp; omega)
  rw [show ([[1], b1, b2] : List (List Int)).flatten = 1 :: (b1 ++ b2) by simp, show (1 :: (b1 ++ b2) : List Int).length = b1.length + b2.length + 1 by simp] at hc
  obtain ⟨a, c, e⟩ := hv1.form
  subst e
  obtain ⟨a2, c2, e⟩ := hv2.form
  subst e
  go_enter Tryd.func77, Tryd.ntmps77
  go_wp2_with fail
  refine hc.mono ?_
  rintro e w1 ⟨x, rfl, ho, hb1⟩
  obtain ⟨xa, xc, rfl⟩ := own_form' ho
  have hs := hb.size
  go_wp2_with fail
  go_ret
  exact ⟨_, rfl, ownsRow_base ho hs, hb.trans (hb1.mono hs)⟩

end Go.Proofs.YtkjlchfmplcobabDoor
