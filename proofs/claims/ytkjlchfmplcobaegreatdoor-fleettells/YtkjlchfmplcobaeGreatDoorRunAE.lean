/- FleetGoSmall, ShaPartsC, TreeFaceLeaf, TreeGoSmall, FleetGoAsked, ShelfGoSmall, ShelfGoLay, ShelfGoSegs, as one text. -/
import Derived.Test.YtkjlchfmplcobaeGreatDoorProg
import Derived.Test.YtkjlchfmplcobaeGreatDoorRunAD
import Derived.Test.YtkjlchfmplcobaeGreatDoorRunAR
import Derived.WalkKit
import Derived.WalkSpells
import Derived.WalkLawsBesides
import Derived.Deep.RegionHeld3
import Derived.Deep.RegionWith
import Derived.BigRegion
import Derived.Test.YtkjlchfmplcobaeGreatDoorRunAK
import Derived.Test.YtkjlchfmplcobaeGreatDoorShaOwn
import Derived.Test.YtkjlchfmplcobaeGreatDoorRunAB
import Derived.Test.YtkjlchfmplcobaeGreatDoorRunAI
import Derived.Deep.QuietTactic
import Derived.BigQuiet
import Derived.Maps.OwnSet
import Derived.Test.YtkjlchfmplcobaeGreatDoorRunAC
/- The walks of bytes.Clone at whatever bytes, and of refused, copyOf and taken: package fleet as it landed. -/
namespace Go.Proofs.YtkjlchfmplcobaeGreatDoor
open Go.RowKit

set_option maxRecDepth 100000 in
theorem cloneN_any (w : World) : Calls Tryz.prog 29 #[.slice none 0 0] w fun e w' => e = .returned (.slice none 0 0) ∧ w' = w := by
  have qs : ∀ (W : World), (binOp .eql 37 (.slice none 0 0) (.slice none 0 0)).run Tryz.prog W = .ok (.bool true) W := fun W => Lib.run_eql_slice_nil W _ _ none 0 0 0 0 Tryz.underlying37
  go_enter Tryz.func29, Tryz.ntmps29
  go_wp2_with fail
  go_ret
  exact ⟨rfl, rfl⟩
theorem cloneM_any (d : List Int) (v : Value) (w : World) (h : Some' w v d) (hd : d.length ≤ 1000000) :
    Calls Tryz.prog 29 #[v] w fun e w' => ∃ xa xc, e = .returned (.slice xa d.length xc) ∧ w'.ownsRow w.heap.size 5 1 (.slice xa d.length xc) d.length (d.map (Value.int .u8)) ∧ Below w.heap.size w w' := by
  have h0 := h.at'
  obtain ⟨a, c, rfl⟩ := h0.form
  cases a with
  | some ad => exact cloneB_any d ad _ c w h0 rfl hd
  | none =>
    obtain ⟨hl, hc⟩ : d = [] ∧ c = 0 := by
      rcases h0 with ⟨rfl, a, c', e, hc⟩ | ⟨b, off, cp, e, -⟩
      · cases e; exact ⟨rfl, hc rfl⟩
      · cases e
    subst hl
    subst hc
    refine (cloneN_any w).mono ?_
    rintro e w' ⟨rfl, rfl⟩
    exact ⟨none, 0, rfl, World.ownsRow_nil _ _ _ _, Below.refl _ _⟩
set_option maxRecDepth 100000 in
theorem refused_any (x : Int) (w : World) : Calls Tryz.prog 46 #[.int .i64 x] w fun e w' => e = .returned (.agg #[.int .i64 x, .int .i64 0, .int .i64 0, .int .i64 0, .slice none 0 0]) ∧ Below w.heap.size w w' := by
  have b0 : Below w.heap.size w (w.alloc (.cells #[.int .i64 x, .int .i64 0, .int .i64 0, .int .i64 0, .slice none 0 0] 41)) := (Below.refl _ _).alloc (Nat.le_refl _) _
  go_enter Tryz.func46, Tryz.ntmps46
  go_wp2_with fail
  exact bodyPost_ret (v := .agg #[.int .i64 x, .int .i64 0, .int .i64 0, .int .i64 0, .slice none 0 0]) (by simp [results, Tryz.results46, go_sem]) rfl ⟨rfl, b0⟩
set_option maxRecDepth 100000 in
set_option maxHeartbeats 2000000 in
theorem copyOf_any (n : Int) (d : List Int) (v : Value) (w : World) (h : Some' w v d) (hd : d.length ≤ 1000000) :
    Calls Tryz.prog 59 #[.agg #[.int .i64 n, v]] w fun e w' => ∃ xa xc, e = .returned (.agg #[.int .i64 n, .slice xa d.length xc]) ∧ w'.ownsRow w.heap.size 5 1 (.slice xa d.length xc) d.length (d.map (Value.int .u8)) ∧ Below w.heap.size w w' := by
  obtain ⟨va, vc, rfl⟩ := h.at'.form
  have b0 : Below w.heap.size w ((w.alloc (.cells #[.int .i64 n, .slice va d.length vc] 39)).alloc (.cells #[.int .i64 0, .slice none 0 0] 39)) := ((Below.refl _ _).alloc (Nat.le_refl _) _).alloc (by simp) _
  have x0 := box_one w #[.int .i64 n, .slice va d.length vc] 39 (.cells #[.int .i64 0, .slice none 0 0] 39)
  have y0 := box_last w (.cells #[.int .i64 n, .slice va d.length vc] 39) #[.int .i64 0, .slice none 0 0] 39
  have z0 : ((w.alloc (.cells #[.int .i64 n, .slice va d.length vc] 39)).alloc (.cells #[.int .i64 0, .slice none 0 0] 39)).heap.size = w.heap.size + 2 := by simp
  have hC := fun w' (hb : Below w.heap.size w w') => cloneM_any d _ w' (h.below hb) hd
  go_enter Tryz.func59, Tryz.ntmps59
  go_wp2_with fail
  generalize (w.alloc (.cells #[.int .i64 n, .slice va d.length vc] 39)).alloc (.cells #[.int .i64 0, .slice none 0 0] 39) = w0 at *
  obtain ⟨u0, u1, u2, u3⟩ := box_two x0
  obtain ⟨t0, t1, t2, t3⟩ := box_two y0
  have hsd : w0.drew.heap.size = w.heap.size + 2 := z0
  go_region_with (first | (go_at_call 29; refine (hC _ b0.drew).mono ?_; rintro e w5 ⟨xa, xc, rfl, hO, hb5⟩; obtain ⟨p0, p1, p2, p3⟩ := box_two (box_kept (w := w0.drew) x0 hb5); obtain ⟨q0, q1, q2, q3⟩ := box_two (box_kept (w := w0.drew) y0 hb5)))
  all_goals
    have b5 : Below w.heap.size w w5 := b0.drew.trans (hb5.mono b0.drew.size)
    rw [hsd] at hO
    go_wp2_with fail
    refine bodyPost_ret (v := .agg #[.int .i64 n, .slice xa d.length xc]) (by simp [results, Tryz.results59, go_sem, q0, q1]) rfl ⟨xa, xc, rfl, ?_, ?_⟩
    · exact ownsRow_base (ownsRow_setCell_below (ownsRow_setCell_below hO (a := ⟨w.heap.size + 1, 0, none⟩) (show w.heap.size + 1 < _ by omega) _) (a := ⟨w.heap.size + 1, 1, none⟩) (show w.heap.size + 1 < _ by omega) _) (by omega)
    · exact (b5.setCell (Nat.le_succ _) _).setCell (Nat.le_succ _) _
set_option maxRecDepth 100000 in
set_option maxHeartbeats 2000000 in
theorem taken_any (k n : Int) (d : List Int) (v : Value) (w : World) (h : Some' w v d) (hd : d.length ≤ 1000000) :
    Calls Tryz.prog 80 #[.int .i64 k, .agg #[.int .i64 n, v]] w fun e w' => ∃ xa xc, e = .returned (.agg #[.int .i64 0, .int .i64 k, .int .i64 0, .int .i64 n, .slice xa d.length xc]) ∧ w'.ownsRow w.heap.size 5 1 (.slice xa d.length xc) d.length (d.map (Value.int .u8)) ∧ Below w.heap.size w w' := by
  obtain ⟨va, vc, rfl⟩ := h.at'.form
  have b0 : Below w.heap.size w ((w.alloc (.cells #[.int .i64 n, .slice va d.length vc] 39)).alloc (.cells #[.int .i64 0, .int .i64 0, .int .i64 0, .int .i64 0, .slice none 0 0] 41)) := ((Below.refl _ _).alloc (Nat.le_refl _) _).alloc (by simp) _
  have x0 := box_one w #[.int .i64 n, .slice va d.length vc] 39 (.cells #[.int .i64 0, .int .i64 0, .int .i64 0, .int .i64 0, .slice none 0 0] 41)
  have y0 := box_last w (.cells #[.int .i64 n, .slice va d.length vc] 39) #[.int .i64 0, .int .i64 0, .int .i64 0, .int .i64 0, .slice none 0 0] 41
  have z0 : ((w.alloc (.cells #[.int .i64 n, .slice va d.length vc] 39)).alloc (.cells #[.int .i64 0, .int .i64 0, .int .i64 0, .int .i64 0, .slice none 0 0] 41)).heap.size = w.heap.size + 2 := by simp
  have hC := copyOf_any n d _ _ (h.below b0) hd
  obtain ⟨u0, u1, u2, u3⟩ := box_two x0
  go_enter Tryz.func80, Tryz.ntmps80
  go_wp2_with fail
  generalize (w.alloc (.cells #[.int .i64 n, .slice va d.length vc] 39)).alloc (.cells #[.int .i64 0, .int .i64 0, .int .i64 0, .int .i64 0, .slice none 0 0] 41) = w0 at *
  refine hC.mono ?_
  rintro e w5 ⟨xa, xc, rfl, hO, hb5⟩
  have b5 : Below w.heap.size w w5 := b0.trans (hb5.mono b0.size)
  have y5 := box_kept y0 hb5
  rw [z0] at hO
  have hR : w.heap.size + 1 < w.heap.size + 2 := by omega
  obtain ⟨s0, s1, s2, s3, s4⟩ := box_five (five_set y5 (.int .i64 0) (.int .i64 k) (.int .i64 0) (.int .i64 n) (.slice xa d.length xc))
  have hO2 := five_own hO hR (.int .i64 0) (.int .i64 k) (.int .i64 0) (.int .i64 n) (.slice xa d.length xc)
  have b6 := five_below b5 (Nat.le_succ w.heap.size) (.int .i64 0) (.int .i64 k) (.int .i64 0) (.int .i64 n) (.slice xa d.length xc)
  obtain ⟨t0, t1, t2, t3, t4⟩ := box_five y5
  obtain ⟨r0, r1, r2, r3, r4⟩ := five_free y5
  clear u0 u1 u2 u3 hC
  go_wp2_with fail
  exact bodyPost_ret (v := .agg #[.int .i64 0, .int .i64 k, .int .i64 0, .int .i64 n, .slice xa d.length xc]) (by simp [results, Tryz.results80, go_sem, s0, s1, s2, s3, s4]) rfl ⟨xa, xc, rfl, ownsRow_base hO2 (by omega), b6⟩

end Go.Proofs.YtkjlchfmplcobaeGreatDoor

/- The walk of sha.Parts: the digest of bytes that come in parts. -/
namespace Go.Proofs.YtkjlchfmplcobaeGreatDoor
open Go.RowKit

theorem flat_take (L : List (List Int)) (k : Nat) (h : k < L.length) : (L.take (k + 1)).flatten = (L.take k).flatten ++ L.getD k [] := by
  rw [List.take_succ_eq_append_getElem h, List.flatten_append, List.getD_eq_getElem?_getD, List.getElem?_eq_getElem h]
  simp
theorem flat_le (L : List (List Int)) (k : Nat) : (L.take k).flatten.length ≤ L.flatten.length := by
  have : L.flatten = (L.take k).flatten ++ (L.drop k).flatten := by rw [← List.flatten_append, List.take_append_drop]
  rw [this, List.length_append]; omega
theorem part_le (L : List (List Int)) (k : Nat) (h : k < L.length) : (L.take k).flatten.length + (L.getD k []).length ≤ L.flatten.length := by
  have := flat_le L (k + 1)
  rw [flat_take L k h, List.length_append] at this
  exact this
set_option maxRecDepth 100000 in
set_option maxHeartbeats 1000000 in
theorem parts_any (L : List (List Int)) (v : Value) (w : World) (hv : PartsAt w v L) (hn : L.length ≤ maxLen) (hm : L.flatten.length ≤ 140737488355328) (hz : ∀ j, Bytes (L.getD j [])) (hK : Tab w) (h0 : 0 < w.heap.size) :
    Calls Tryz.prog 100 #[v] w
      fun e w' => ∃ g, e = .returned (.slice (some ⟨g, 0, none⟩) 32 32) ∧ w'.ownsRow w.heap.size 5 1 (.slice (some ⟨g, 0, none⟩) 32 32) 32 ((shaL L.flatten).map (Value.int .u8)) ∧ Below w.heap.size w w' := by
  have hz0 := (zero_of_info info_run).1
  have hi := (zero_of_info info_run).2
  obtain ⟨a0, c0, rfl, hcell⟩ : ∃ a c, v = .slice a L.length c ∧ (L.length = 0 ∨ ∃ b off, a = some ⟨b, off, none⟩ ∧ b < w.heap.size ∧ ∀ j, j < L.length → ∃ a n c, w.cell? ⟨b, off + j, none⟩ = some (.slice a n c) ∧ BytesAt w (.slice a n c) (L.getD j [])) := by
    rcases hv with ⟨rfl, a, c, rfl⟩ | ⟨b, off, cp, rfl, h2, h3⟩
    · exact ⟨a, c, rfl, .inl rfl⟩
    · exact ⟨_, _, rfl, .inr ⟨b, off, rfl, h2, h3⟩⟩
  clear hv
  unfold maxLen at hn
  go_enter Tryz.func100, Tryz.ntmps100
  go_wp2_with fail
  refine (begin_any _).mono ?_
  rintro e w1 ⟨rfl, hb1⟩
  go_wp2_with (refine wpList_store_mid rfl 159 (.tmp 3) (.tmp 6) rfl w1.heap.size 0 iniRun rfl rfl ?_ ?_ ini_one ?_; (rw [ini_size]; exact there_new _ _ _ 73 zrun_size); (rw [ini_size]; exact hi))
  obtain ⟨hrun, hb2, hK2, hlt⟩ := sum_begun 159 hb1 hK h0
  have hs1 := hb1.size
  generalize ((w1.alloc (.cells zRun 159)).setCells w1.heap.size 0 iniRun.toList) = w2 at *
  go_loopw [9] (fun i wr => ∃ k : Nat, k ≤ L.length ∧ i = .int .i64 k ∧ RunAt wr w1.heap.size (rn0.all (L.take k).flatten) ∧ Below w.heap.size w wr ∧ w1.heap.size < wr.heap.size) (fun i _ => L.length - (intOf i).toNat)
  case atStart => exact ⟨0, Nat.zero_le _, rfl, hrun, hb2, hlt⟩
  case round =>
    obtain ⟨k, hk, rfl, hr, hb, hltr⟩ := hrel
    clear hrun hb2 hK2 hlt
    by_cases hlk : k < L.length
    · rcases hcell with hcell | ⟨b, off, rfl, hbb, hcell⟩
      · omega
      obtain ⟨a, n, c, hca, hB⟩ := hcell k hlk
      have hca' : wr.cell? ⟨b, off + k, none⟩ = some (.slice a n c) := by rw [hb.cell (p := ⟨b, off + k, none⟩) hbb]; exact hca
      have hB' := hB.below (Nat.le_refl _) hb
      have hKr := tab_below hK hb h0
      have hpl := part_le L k hlk
      have HF : Hid ((L.take (k + 1)).flatten = (L.take k).flatten ++ L.getD k []) := flat_take L k hlk
      have hc3 : (rn0.all (L.take k).flatten).c = (L.take k).flatten.length := by rw [Rn.all_c]; show 0 + _ = _; omega
      have hsr := hb.size
      have hcs : (rn0.all (L.take k).flatten).c ≤ 140737488355328 := by rw [hc3]; have := flat_le L k; omega
      clear hc3 hcell hca
      go_wp2_with fail
      refine (add_bytes (rn0.all (L.take k).flatten) (L.getD k []) _ w1.heap.size wr hB' (fun b' off' cp' e hpos => by
        rcases hB with ⟨e1, -⟩ | ⟨b2, o2, c2, e2, hb2, -⟩
        · rw [e1] at hpos; simp at hpos
        · rw [e2] at e
          simp only [Value.slice.injEq, Option.some.injEq, Addr.mk.injEq] at e
          omega) (by unfold maxLen; omega) (hz k) hr hKr hltr (by omega) (by omega) (by omega)).mono ?_
      rintro e w3 ⟨rfl, hr3, hg3⟩
      have hb3 : Below w.heap.size w w3 := hb.grown hg3 hsr (fun q h => by cases h; exact hs1)
      have hr4 : RunAt w3 w1.heap.size (rn0.all (L.take (k + 1)).flatten) := by rw [HF.out, Rn.all_append]; exact hr3
      have hlt4 : w1.heap.size < w3.heap.size := Nat.lt_of_lt_of_le hltr hg3.size
      clear hr3 hg3 hr hKr hB hB' hca'
      go_wp2_with fail
      go_roundw
      case rel => exact ⟨k + 1, by omega, by go_num, hr4, hb3, hlt4⟩
      case measure => simp [intOf]; omega
    · have e : L.take k = L := List.take_of_length_le (by omega)
      rw [e] at hr
      have hK3 := tab_below hK hb h0
      have hc3 : (rn0.all L.flatten).c = L.flatten.length := by rw [Rn.all_c]; show 0 + _ = _; omega
      have hsr := hb.size
      clear e hcell
      go_wp2_with fail
      refine (end_any (rn0.all L.flatten) w1.heap.size wr hr hK3 hltr (by omega) (by omega) (by rw [hc3]; omega)).mono ?_
      rintro e w4 ⟨g, rfl, ho, hg4⟩
      have hb4 : Below w.heap.size w w4 := hb.grown hg4 hsr (fun q h => by cases h; exact hs1)
      have ho4 : w4.ownsRow w.heap.size 5 1 (.slice (some ⟨g, 0, none⟩) 32 32) 32 ((shaL L.flatten).map (Value.int .u8)) := by
        have := ownsRow_base ho hsr
        rw [hc3] at this
        exact this
      clear ho hg4 hr hK3
      go_wp2_with fail
      go_ret
      exact ⟨g, rfl, ho4, hb4⟩

end Go.Proofs.YtkjlchfmplcobaeGreatDoor

/- What TreeTells asks of tree.Leaf and tree.Node. -/
namespace Go.Proofs.YtkjlchfmplcobaeGreatDoor
open Go.RowKit

def LeafC : Prop := ∀ (b : List Int) (v : Value) (w : World), Ready w → Some' w v b → b.length ≤ 70368744177664 →
  Calls Tryz.prog 69 #[v] w fun e w' => ∃ x, e = .returned x ∧ w'.ownsRow w.heap.size 5 1 x 32 ((leafL b).map (Value.int .u8)) ∧ Below w.heap.size w w'
def NodeC : Prop := ∀ (b1 b2 : List Int) (v1 v2 : Value) (w : World), Ready w → Some' w v1 b1 → Some' w v2 b2 → b1.length + b2.length ≤ 70368744177664 →
  Calls Tryz.prog 72 #[v1, v2] w fun e w' => ∃ x, e = .returned x ∧ w'.ownsRow w.heap.size 5 1 x 32 ((nodeL b1 b2).map (Value.int .u8)) ∧ Below w.heap.size w w'

end Go.Proofs.YtkjlchfmplcobaeGreatDoor

/- The walks of package tree's small functions: Leaf, Node, isDigest, areDigests. -/
namespace Go.Proofs.YtkjlchfmplcobaeGreatDoor
open Go.RowKit

theorem bytesAt_new (w : World) (z : Int) (t : TypeId) : BytesAt (w.alloc (.cells #[.int .u8 z] t)) (.slice (some ⟨w.heap.size, 0, none⟩) 1 1) [z] := by
  refine .inr ⟨_, 0, 1, rfl, by simp, fun j hj => ?_⟩
  obtain rfl : j = 0 := by simp at hj; omega
  rw [Nat.add_zero, new_cell w t #[.int .u8 z] 0 (by simp)]; rfl
theorem parts_two {w : World} {v : Value} {b : List Int} (h : BytesAt w v b) (z : Int) (t s : TypeId) :
    PartsAt ((w.alloc (.cells #[.int .u8 z] t)).alloc (.cells #[.slice (some ⟨w.heap.size, 0, none⟩) 1 1, v] s)) (.slice (some ⟨w.heap.size + 1, 0, none⟩) 2 2) [[z], b] := by
  obtain ⟨a, c, rfl⟩ := h.form
  refine .inr ⟨_, 0, 2, rfl, by simp, fun j hj => ?_⟩
  have hb0 : Below w.heap.size w ((w.alloc (.cells #[.int .u8 z] t)).alloc (.cells #[.slice (some ⟨w.heap.size, 0, none⟩) 1 1, .slice a b.length c] s)) := ((Below.refl _ _).alloc (Nat.le_refl _) _).alloc (by simp) _
  have hb1 : Below (w.alloc (.cells #[.int .u8 z] t)).heap.size (w.alloc (.cells #[.int .u8 z] t)) ((w.alloc (.cells #[.int .u8 z] t)).alloc (.cells #[.slice (some ⟨w.heap.size, 0, none⟩) 1 1, .slice a b.length c] s)) := (Below.refl _ _).alloc (Nat.le_refl _) _
  have hj' : j = 0 ∨ j = 1 := by simp at hj; omega
  rcases hj' with rfl | rfl
  · exact ⟨_, _, _, by simp, (bytesAt_new w z t).below (Nat.le_refl _) hb1⟩
  · exact ⟨_, _, _, by simp, h.below (Nat.le_refl _) hb0⟩
theorem parts_three {w : World} {v u : Value} {b d : List Int} (h : BytesAt w v b) (h2 : BytesAt w u d) (z : Int) (t s : TypeId) :
    PartsAt ((w.alloc (.cells #[.int .u8 z] t)).alloc (.cells #[.slice (some ⟨w.heap.size, 0, none⟩) 1 1, v, u] s)) (.slice (some ⟨w.heap.size + 1, 0, none⟩) 3 3) [[z], b, d] := by
  obtain ⟨a, c, rfl⟩ := h.form
  obtain ⟨a2, c2, rfl⟩ := h2.form
  refine .inr ⟨_, 0, 3, rfl, by simp, fun j hj => ?_⟩
  have hb0 : Below w.heap.size w ((w.alloc (.cells #[.int .u8 z] t)).alloc (.cells #[.slice (some ⟨w.heap.size, 0, none⟩) 1 1, .slice a b.length c, .slice a2 d.length c2] s)) := ((Below.refl _ _).alloc (Nat.le_refl _) _).alloc (by simp) _
  have hb1 : Below (w.alloc (.cells #[.int .u8 z] t)).heap.size (w.alloc (.cells #[.int .u8 z] t)) ((w.alloc (.cells #[.int .u8 z] t)).alloc (.cells #[.slice (some ⟨w.heap.size, 0, none⟩) 1 1, .slice a b.length c, .slice a2 d.length c2] s)) := (Below.refl _ _).alloc (Nat.le_refl _) _
  have hj' : j = 0 ∨ j = 1 ∨ j = 2 := by simp at hj; omega
  rcases hj' with rfl | rfl | rfl
  · exact ⟨_, _, _, by simp, (bytesAt_new w z t).below (Nat.le_refl _) hb1⟩
  · exact ⟨_, _, _, by simp, h.below (Nat.le_refl _) hb0⟩
  · exact ⟨_, _, _, by simp, h2.below (Nat.le_refl _) hb0⟩
theorem two_bytes {z : Int} {b : List Int} (h0 : 0 ≤ z) (h1 : z < 256) (h : Bytes b) : ∀ j, Bytes (([[z], b] : List (List Int)).getD j []) := fun j => by
  match j with
  | 0 => exact bytes_cons h0 h1 nil_bytes
  | 1 => exact h
  | j + 2 => exact nil_bytes
theorem three_bytes {z : Int} {b d : List Int} (h0 : 0 ≤ z) (h1 : z < 256) (h : Bytes b) (h2 : Bytes d) : ∀ j, Bytes (([[z], b, d] : List (List Int)).getD j []) := fun j => by
  match j with
  | 0 => exact bytes_cons h0 h1 nil_bytes
  | 1 => exact h
  | 2 => exact h2
  | j + 3 => exact nil_bytes

set_option maxRecDepth 100000 in
set_option maxHeartbeats 1000000 in
theorem leafC_holds : LeafC := by
  intro b v w hr hv hm
  have hp := parts_two hv.at' 0 5 37
  have hb : Below w.heap.size w ((w.alloc (.cells #[.int .u8 0] 5)).alloc (.cells #[.slice (some ⟨w.heap.size, 0, none⟩) 1 1, v] 37)) := ((Below.refl _ _).alloc (Nat.le_refl _) _).alloc (by simp) _
  have hK := tab_below hr.tab hb hr.big
  have h0 := Nat.lt_of_lt_of_le hr.big hb.size
  have hc := parts_any [[0], b] _ _ hp (by unfold maxLen; simp) (by simp; omega) (two_bytes (by decide) (by decide) hv.bytes) hK h0
  obtain ⟨a, c, e⟩ := hv.at'.form
  subst e
  go_enter Tryz.func69, Tryz.ntmps69
  go_wp2_with fail
  refine hc.mono ?_
  rintro e w1 ⟨g, rfl, ho, hb1⟩
  have hs := hb.size
  go_wp2_with fail
  go_ret
  refine ⟨_, rfl, ?_, hb.trans (hb1.mono hs)⟩
  have := ownsRow_base ho hs
  rwa [show ([[0], b] : List (List Int)).flatten = 0 :: b by simp] at this
set_option maxRecDepth 100000 in
set_option maxHeartbeats 1000000 in
theorem nodeC_holds : NodeC := by
  intro b1 b2 v1 v2 w hr hv1 hv2 hm
  have hp := parts_three hv1.at' hv2.at' 1 5 37
  have hb : Below w.heap.size w ((w.alloc (.cells #[.int .u8 1] 5)).alloc (.cells #[.slice (some ⟨w.heap.size, 0, none⟩) 1 1, v1, v2] 37)) := ((Below.refl _ _).alloc (Nat.le_refl _) _).alloc (by simp) _
  have hK := tab_below hr.tab hb hr.big
  have h0 := Nat.lt_of_lt_of_le hr.big hb.size
  have hc := parts_any [[1], b1, b2] _ _ hp (by unfold maxLen; simp) (by simp; omega) (three_bytes (by decide) (by decide) hv1.bytes hv2.bytes) hK h0
  obtain ⟨a, c, e⟩ := hv1.at'.form
  subst e
  obtain ⟨a2, c2, e⟩ := hv2.at'.form
  subst e
  go_enter Tryz.func72, Tryz.ntmps72
  go_wp2_with fail
  refine hc.mono ?_
  rintro e w1 ⟨g, rfl, ho, hb1⟩
  have hs := hb.size
  go_wp2_with fail
  go_ret
  refine ⟨_, rfl, ?_, hb.trans (hb1.mono hs)⟩
  have := ownsRow_base ho hs
  rwa [show ([[1], b1, b2] : List (List Int)).flatten = 1 :: (b1 ++ b2) by simp] at this

end Go.Proofs.YtkjlchfmplcobaeGreatDoor

/- The walks of stateAsked and refusal: package fleet as it landed. -/
namespace Go.Proofs.YtkjlchfmplcobaeGreatDoor
open Go.RowKit Go.Maps

theorem Tryz.keyInt : Keyed Tryz.prog 3 := int_keyed Tryz.underlying3
/-- Which state each kind asks for. -/
def askD : DataW Unit := ((((DataW.map []).put (.int .i64 2) (.lit (.int .i64 1))).put (.int .i64 3) (.lit (.int .i64 2))).put (.int .i64 4) (.lit (.int .i64 3))).put (.int .i64 5) (.lit (.int .i64 3))
theorem ask_map1 : IsMap ((DataW.map [] : DataW Unit).put (.int .i64 2) (.lit (.int .i64 1))) := isMap_empty.put _ _
theorem ask_map2 : IsMap (((DataW.map [] : DataW Unit).put (.int .i64 2) (.lit (.int .i64 1))).put (.int .i64 3) (.lit (.int .i64 2))) := ask_map1.put _ _
theorem ask_map3 : IsMap ((((DataW.map [] : DataW Unit).put (.int .i64 2) (.lit (.int .i64 1))).put (.int .i64 3) (.lit (.int .i64 2))).put (.int .i64 4) (.lit (.int .i64 3))) := ask_map2.put _ _
theorem ask_has (k : Int) : Maps.has askD (.int .i64 k) = decide (2 ≤ k ∧ k ≤ 5) := by
  unfold askD
  by_cases h5 : k = 5
  · subst h5; rw [has_put_same ask_map3 (by trivial)]; rfl
  rw [has_put_other (by simpa using h5)]
  by_cases h4 : k = 4
  · subst h4; rw [has_put_same ask_map2 (by trivial)]; rfl
  rw [has_put_other (by simpa using h4)]
  by_cases h3 : k = 3
  · subst h3; rw [has_put_same ask_map1 (by trivial)]; rfl
  rw [has_put_other (by simpa using h3)]
  by_cases h2 : k = 2
  · subst h2; rw [has_put_same isMap_empty (by trivial)]; rfl
  rw [has_put_other (by simpa using h2)]
  rw [decide_eq_false (by omega)]
  rfl
theorem ask_at (k : Int) (h : 2 ≤ k ∧ k ≤ 5) (z : DataW Unit) : askD.atKey (.int .i64 k) z = .lit (.int .i64 (wantL k)) := by
  unfold askD
  by_cases h5 : k = 5
  · subst h5; rw [atKey_put_same ask_map3 (by trivial)]; rfl
  rw [atKey_put_other (by simpa using h5)]
  by_cases h4 : k = 4
  · subst h4; rw [atKey_put_same ask_map2 (by trivial)]; rfl
  rw [atKey_put_other (by simpa using h4)]
  by_cases h3 : k = 3
  · subst h3; rw [atKey_put_same ask_map1 (by trivial)]; rfl
  rw [atKey_put_other (by simpa using h3)]
  obtain rfl : k = 2 := by omega
  rw [atKey_put_same isMap_empty (by trivial)]; rfl
theorem turned_below {B : Nat} {w0 w w' : World} {b : Nat} (h : Below B w0 w) (ht : w.mapTurned w' b) (hb : B ≤ b) (hB : B ≤ w.heap.size) : Below B w0 w' := h.grown ht.grown hB (fun q hq => by cases hq; exact hb)
set_option maxRecDepth 100000 in
set_option maxHeartbeats 2000000 in
theorem stateAsked_any (w : World) : Calls Tryz.prog 79 #[] w fun e w' => ∃ b, e = .returned (.map (some b)) ∧ w'.ownsMap Tryz.prog 3 (plainElem (H := Unit) Tryz.prog 3) b 4 askD ∧ Below w.heap.size w w' := by
  have hmm := @run_makeMap Tryz.prog
  have hput : ∀ (W : World) (n : Nat) (D : DataW Unit) (k x : Int), W.ownsMap Tryz.prog 3 (plainElem (H := Unit) Tryz.prog 3) w.heap.size n D → n < maxLen → (Lit.int .i64 k).wf = true → (Lit.int .i64 x).wf = true → ∃ W', (Instr.mapUpdate 129 (.map (some w.heap.size)) (.int .i64 k) (.int .i64 x)).run Tryz.prog W = .ok () W' ∧ W'.ownsMap Tryz.prog 3 (plainElem (H := Unit) Tryz.prog 3) w.heap.size (n + 1) (D.put (.int .i64 k) (.lit (.int .i64 x))) ∧ W.mapTurned W' w.heap.size := fun W n D k x h hn hk hx =>
    h.store Tryz.keyInt Tryz.underlying129 hn (keyOf_int_mk Tryz.underlying3 hk) (plainElem_int Tryz.underlying3 hx)
  have o0 := World.ownsMap_made w Tryz.prog 3 (plainElem (H := Unit) Tryz.prog 3)
  have b0 : Below w.heap.size w (w.alloc (.map #[] 0)) := (Below.refl _ _).alloc (Nat.le_refl _) _
  obtain ⟨w1, r1, o1, t1⟩ := hput _ _ _ 2 1 o0 (by unfold maxLen; omega) (by decide) (by decide)
  have b1 := turned_below b0 t1 (Nat.le_refl _) b0.size
  obtain ⟨w2, r2, o2, t2⟩ := hput _ _ _ 3 2 o1 (by unfold maxLen; omega) (by decide) (by decide)
  have b2 := turned_below b1 t2 (Nat.le_refl _) b1.size
  obtain ⟨w3, r3, o3, t3⟩ := hput _ _ _ 4 3 o2 (by unfold maxLen; omega) (by decide) (by decide)
  have b3 := turned_below b2 t3 (Nat.le_refl _) b2.size
  obtain ⟨w4, r4, o4, t4⟩ := hput _ _ _ 5 3 o3 (by unfold maxLen; omega) (by decide) (by decide)
  have b4 := turned_below b3 t4 (Nat.le_refl _) b3.size
  clear hput t1 t2 t3 t4 o0 o1 o2 o3 b1 b2 b3
  go_enter Tryz.func79, Tryz.ntmps79
  go_wp2_with fail
  go_ret
  exact ⟨_, rfl, o4, b4⟩

/-- What keeps a step from being taken. -/
def refL (ss : List Shd) (d : Dd) : Int :=
  if d.kind < 2 ∨ 5 < d.kind then 1 else
  if d.n < 0 ∨ (ss.length : Int) ≤ d.n then 6 else
  if (ss.getD d.n.toNat shd0).state ≠ wantL d.kind then 7 else 0
theorem box_seven {w : World} {k : Nat} {v0 v1 v2 v3 v4 v5 v6 : Value} {t : TypeId} (h : w.heap[k]? = some (.cells #[v0, v1, v2, v3, v4, v5, v6] t (0, 0))) :
    w.cell? ⟨k, 0, none⟩ = some v0 ∧ w.cell? ⟨k, 1, none⟩ = some v1 ∧ w.cell? ⟨k, 2, none⟩ = some v2 ∧ w.cell? ⟨k, 3, none⟩ = some v3 ∧ w.cell? ⟨k, 4, none⟩ = some v4 ∧ w.cell? ⟨k, 5, none⟩ = some v5 ∧ w.cell? ⟨k, 6, none⟩ = some v6 :=
  ⟨cell_of_row w k 0 _ t _ h, cell_of_row w k 1 _ t _ h, cell_of_row w k 2 _ t _ h, cell_of_row w k 3 _ t _ h, cell_of_row w k 4 _ t _ h, cell_of_row w k 5 _ t _ h, cell_of_row w k 6 _ t _ h⟩
set_option maxRecDepth 100000 in
set_option maxHeartbeats 4000000 in
theorem refusal_any (ss : List Shd) (d : Dd) (pv bv : Value) (sa : Option Addr) (n c gp : Nat) (w : World) (hS : ShdsAt w (.slice sa n c) ss) (hn : ss.length = n) (hg : w.heap[gp]? = some (.cells #[.slice sa n c, bv] 59 (0, 0))) (hk : -9223372036854775808 ≤ d.kind ∧ d.kind ≤ 9223372036854775807) :
    Calls Tryz.prog 45 #[.pointer (some ⟨gp, 0, none⟩), .agg #[.int .i64 d.kind, .int .i64 d.n, .int .i64 d.time, pv, .int .i64 d.segment, .int .i64 d.at', .int .u8 d.by']] w fun e w' => e = .returned (.int .i64 (refL ss d)) ∧ Below w.heap.size w w' := by
  have b0 : Below w.heap.size w (w.alloc (.cells #[.int .i64 d.kind, .int .i64 d.n, .int .i64 d.time, pv, .int .i64 d.segment, .int .i64 d.at', .int .u8 d.by'] 56)) := (Below.refl _ _).alloc (Nat.le_refl _) _
  have x0 := box_new w #[.int .i64 d.kind, .int .i64 d.n, .int .i64 d.time, pv, .int .i64 d.segment, .int .i64 d.at', .int .u8 d.by'] 56
  have HR : Hid (refL ss d = if d.kind < 2 ∨ 5 < d.kind then 1 else if d.n < 0 ∨ (n : Int) ≤ d.n then 6 else if (ss.getD d.n.toNat shd0).state ≠ wantL d.kind then 7 else 0) := by show _ = _; unfold refL; rw [hn]
  have hzero : ∀ W : World, (zeroValue 3).run Tryz.prog W = .ok (.int .i64 0) W := fun W => by kernel_rfl
  have hlook : ∀ (W : World) (b : Nat), W.ownsMap Tryz.prog 3 (plainElem (H := Unit) Tryz.prog 3) b 4 askD → ∃ c, (Instr.lookup 129 (.map (some b)) (.int .i64 d.kind) true).run Tryz.prog W = .ok (.tuple #[.int .i64 c, .bool (Maps.has askD (.int .i64 d.kind))]) W ∧ ((2 ≤ d.kind ∧ d.kind ≤ 5) → c = wantL d.kind) := fun W b h => by
    obtain ⟨v, ps, hrun, hv⟩ := h.look_ok Tryz.keyInt Tryz.underlying129 (hzero W) (plainElem_int Tryz.underlying3 (by decide)) (keyOf_int_mk Tryz.underlying3 (a := d.kind) (WalkArith.wf_i64 hk))
    obtain ⟨c, rfl, hc, -⟩ := plainElem_int_inv Tryz.underlying3 hv
    refine ⟨c, hrun, fun h => ?_⟩
    simp only [Prod.mk.injEq] at hc
    have h1 := hc.1
    rw [ask_at _ h] at h1
    simp only [DataW.lit.injEq, Lit.int.injEq, true_and] at h1
    exact h1.symm
  rw [ask_has] at hlook
  generalize refL ss d = RF at *
  obtain ⟨sa', sc', e, hc1, hc2, -, hS⟩ := hS
  rw [hn] at e hc1 hS
  cases e
  unfold maxLen at hc2
  by_cases hkd : 2 ≤ d.kind ∧ d.kind ≤ 5
  · have hlook' : ∀ (W : World) (b : Nat), W.ownsMap Tryz.prog 3 (plainElem (H := Unit) Tryz.prog 3) b 4 askD → (Instr.lookup 129 (.map (some b)) (.int .i64 d.kind) true).run Tryz.prog W = .ok (.tuple #[.int .i64 (wantL d.kind), .bool true]) W := fun W b h => by
      obtain ⟨c, h1, h2⟩ := hlook W b h
      rw [h2 hkd, decide_eq_true hkd] at h1
      exact h1
    replace HR : Hid (RF = if d.n < 0 ∨ (n : Int) ≤ d.n then 6 else if (ss.getD d.n.toNat shd0).state ≠ wantL d.kind then 7 else 0) := by show _ = _; rw [HR.out, if_neg (by omega)]
    clear hlook hkd hk
    generalize wantL d.kind = WL at *
    generalize d.kind = KD at *
    go_enter Tryz.func45, Tryz.ntmps45
    go_wp2_with fail
    generalize w.alloc (.cells #[.int .i64 KD, .int .i64 d.n, .int .i64 d.time, pv, .int .i64 d.segment, .int .i64 d.at', .int .u8 d.by'] 56) = w0 at *
    obtain ⟨u0, u1, -, -, -, -, -⟩ := box_seven x0
    go_region_with (first | (go_at_call 79; refine (stateAsked_any _).mono ?_; rintro e w5 ⟨mb, rfl, hO, hb5⟩; have hL := hlook' _ _ hO; obtain ⟨p0, p1, -, -, -, -, -⟩ := box_seven (box_kept (w := w0.drew) x0 hb5)))
    all_goals
      have b5 : Below w.heap.size w w5 := b0.drew.trans (hb5.mono b0.drew.size)
      obtain ⟨g0, g1, -, -⟩ := box_two (box_kept hg b5)
      clear hlook' hO hL hb5 hg
      by_cases q1 : d.n < 0
      · have HE : Hid (RF = 6) := by show _ = _; rw [HR.out, if_pos (.inl q1)]
        clear HR hS
        generalize d.n = ND at *
        go_wp2_with fail
        go_quiet (fail)
        go_wp2_with fail
        go_ret
        exact ⟨by rw [HE.out]; rfl, below_drewN' b5 _⟩
      have q1' : decide (d.n < 0) = false := decide_eq_false q1
      by_cases q2 : (n : Int) ≤ d.n
      · have HE : Hid (RF = 6) := by show _ = _; rw [HR.out, if_pos (.inr q2)]
        clear HR hS
        generalize d.n = ND at *
        go_wp2_with fail
        go_quiet (fail)
        go_wp2_with fail
        go_ret
        exact ⟨by rw [HE.out]; rfl, below_drewN' b5 _⟩
      have q2' : decide ((n : Int) ≤ d.n) = false := decide_eq_false q2
      have HE : Hid (RF = if (ss.getD d.n.toNat shd0).state ≠ WL then 7 else 0) := by show _ = _; rw [HR.out, if_neg (by omega)]
      clear HR
      obtain ⟨m, hm⟩ : ∃ m : Nat, d.n = m := ⟨d.n.toNat, by omega⟩
      rw [hm] at p1 q1 q2 q1' q2' HE
      have hmn : m < n := by omega
      rw [Int.toNat_natCast] at HE
      clear hm u0 u1 x0
      obtain ⟨sb, o, rfl, hsb, hcs⟩ := hS.resolve_left (by omega)
      obtain ⟨-, -, s2, -, -, -, -⟩ := (hcs m hmn).below hsb b5
      clear hcs hS
      generalize (ss.getD m shd0).state = ST at *
      have q3 : (0 : Int) ≤ m := by omega
      have q4 : (m : Int) < n := by omega
      by_cases q5 : ST = WL
      · have HE2 : Hid (RF = 0) := by show _ = _; rw [HE.out, if_neg (fun h => h q5)]
        subst q5
        clear HE
        go_wp2_with fail
        go_quiet (fail)
        go_wp2_with fail
        go_quiet (fail)
        go_wp2_with fail
        go_ret
        exact ⟨by rw [HE2.out]; rfl, below_drewN' (below_drewN' b5 _) _⟩
      · have HE2 : Hid (RF = 7) := by show _ = _; rw [HE.out, if_pos q5]
        have q5' : (ST != WL) = true := by simpa using q5
        clear HE
        go_wp2_with fail
        go_quiet (fail)
        go_wp2_with fail
        go_quiet (fail)
        go_wp2_with fail
        go_ret
        exact ⟨by rw [HE2.out]; rfl, below_drewN' (below_drewN' b5 _) _⟩
  · have hlook' : ∀ (W : World) (b : Nat), W.ownsMap Tryz.prog 3 (plainElem (H := Unit) Tryz.prog 3) b 4 askD → ∃ c, (Instr.lookup 129 (.map (some b)) (.int .i64 d.kind) true).run Tryz.prog W = .ok (.tuple #[.int .i64 c, .bool false]) W := fun W b h => by
      obtain ⟨c, h1, -⟩ := hlook W b h
      rw [decide_eq_false hkd] at h1
      exact ⟨c, h1⟩
    replace HR : Hid (RF = 1) := by show _ = _; rw [HR.out, if_pos (by omega)]
    clear hlook hkd hk
    generalize d.kind = KD at *
    go_enter Tryz.func45, Tryz.ntmps45
    go_wp2_with fail
    generalize w.alloc (.cells #[.int .i64 KD, .int .i64 d.n, .int .i64 d.time, pv, .int .i64 d.segment, .int .i64 d.at', .int .u8 d.by'] 56) = w0 at *
    obtain ⟨u0, u1, -, -, -, -, -⟩ := box_seven x0
    go_region_with (first | (go_at_call 79; refine (stateAsked_any _).mono ?_; rintro e w5 ⟨mb, rfl, hO, hb5⟩; obtain ⟨cc, hL⟩ := hlook' _ _ hO; obtain ⟨p0, p1, -, -, -, -, -⟩ := box_seven (box_kept (w := w0.drew) x0 hb5)))
    all_goals
      have b5 : Below w.heap.size w w5 := b0.drew.trans (hb5.mono b0.drew.size)
      clear hlook' hO hL hb5 hg hS
      go_wp2_with fail
      go_ret
      exact ⟨by rw [HR.out]; rfl, b5⟩

end Go.Proofs.YtkjlchfmplcobaeGreatDoor

/- The walks of isSize, segmentsFor, countFrom and fits: package shelf as it landed. -/
namespace Go.Proofs.YtkjlchfmplcobaeGreatDoor
open Go.RowKit

def sizeB (n : Int) : Bool := decide (0 ≤ n ∧ n ≤ 100)
theorem sizeB_true {n : Int} (h0 : 0 ≤ n) (h1 : n ≤ 100) : sizeB n = true := decide_eq_true ⟨h0, h1⟩
theorem sizeB_false {n : Int} (h : ¬ (0 ≤ n ∧ n ≤ 100)) : sizeB n = false := decide_eq_false h
set_option maxRecDepth 100000 in
theorem isSize_any (n : Int) (w : World) : Calls Tryz.prog 84 #[.int .i64 n] w fun e w' => e = .returned (.bool (sizeB n)) ∧ w' = w := by
  by_cases h0 : 0 ≤ n
  · by_cases h1 : n ≤ 100
    · have e : sizeB n = true := sizeB_true h0 h1
      rw [e]
      clear e
      go_enter Tryz.func84, Tryz.ntmps84
      go_wp2
      go_ret
      exact ⟨rfl, rfl⟩
    · have e : sizeB n = false := sizeB_false (by omega)
      rw [e]
      clear e
      go_enter Tryz.func84, Tryz.ntmps84
      go_wp2
      go_ret
      exact ⟨rfl, rfl⟩
  · have e : sizeB n = false := sizeB_false (by omega)
    rw [e]
    clear e
    go_enter Tryz.func84, Tryz.ntmps84
    go_wp2
    go_ret
    exact ⟨rfl, rfl⟩
theorem ret_int' {k : IntKind} {a b : Int} (h : a = b) : Ending.returned (.int k a) = .returned (.int k b) := by rw [h]
set_option maxRecDepth 100000 in
theorem segmentsFor_any (n : Int) (w : World) (h0 : 0 ≤ n) (h1 : n ≤ 100) : Calls Tryz.prog 85 #[.int .i64 n] w fun e w' => e = .returned (.int .i64 ((n + 7) / 8)) ∧ w' = w := by
  go_enter Tryz.func85, Tryz.ntmps85
  go_wp2
  go_ret
  exact ⟨ret_int' (by omega), rfl⟩
set_option maxRecDepth 100000 in
theorem countFrom_any (f s : Int) (w : World) (h0 : 0 ≤ f) (h1 : f ≤ 1000) (h2 : 0 ≤ s) (h3 : s ≤ 1000) : Calls Tryz.prog 115 #[.int .i64 f, .int .i64 s] w fun e w' => e = .returned (.int .i64 (min 8 (s - f))) ∧ w' = w := by
  by_cases h : s - f < 8
  · rw [show min 8 (s - f) = s - f by omega]
    go_enter Tryz.func115, Tryz.ntmps115
    go_wp2
    go_ret
    exact ⟨rfl, rfl⟩
  · rw [show min 8 (s - f) = 8 by omega]
    go_enter Tryz.func115, Tryz.ntmps115
    go_wp2
    go_ret
    exact ⟨rfl, rfl⟩
set_option maxRecDepth 100000 in
set_option maxHeartbeats 2000000 in
theorem segFits_any (f c k size : Int) (pv : Value) (p : List Int) (w : World) (hk : 0 ≤ k) : Calls Tryz.prog 105 #[.agg #[.int .i64 f, .int .i64 c, pv], .int .i64 k, .int .i64 size] w fun e w' => e = .returned (.bool (fitB size k ⟨f, c, p⟩)) ∧ Below w.heap.size w w' := by
  have hS := isSize_any size
  have hb := box_new w #[.int .i64 f, .int .i64 c, pv] 104
  obtain ⟨x0, x1, x2, -, -, -⟩ := box_three hb
  have bW : Below w.heap.size w (w.alloc (.cells #[.int .i64 f, .int .i64 c, pv] 104)) := (Below.refl _ _).alloc (Nat.le_refl _) _
  clear hb
  by_cases h1 : 0 ≤ size ∧ size ≤ 100
  · rw [sizeB_true h1.1 h1.2] at hS
    by_cases h2 : k ≤ 100
    · by_cases h3 : f = k * 8
      · subst h3
        by_cases h4 : 1 ≤ c
        · have hC := fun W => countFrom_any (k * 8) size W (by omega) (by omega) h1.1 (by omega)
          by_cases h5 : c = min 8 (size - k * 8)
          · have e : fitB size k ⟨k * 8, c, p⟩ = true := fitB_iff.2 ⟨h1.1, h1.2, h2, rfl, h4, h5⟩
            have hC' : ∀ W, Calls Tryz.prog 115 #[.int .i64 (k * 8), .int .i64 size] W fun e w' => e = .returned (.int .i64 c) ∧ w' = W := fun W => by have := hC W; rwa [← h5] at this
            have hcc : (c == c) = true := by simp
            rw [e]
            clear e h5 hC
            go_enter Tryz.func105, Tryz.ntmps105
            go_wp2_with fail
            go_quiet ((first | (go_at_call 84; exact Calls.quiet_of_same (hS _)) | (go_at_call 115; exact Calls.quiet_of_same (hC' _))))
            go_wp2_with fail
            go_ret
            exact ⟨rfl, below_drewN' bW _⟩
          · have e : fitB size k ⟨k * 8, c, p⟩ = false := by rw [Bool.eq_false_iff]; intro h; exact h5 (fitB_iff.1 h).2.2.2.2.2
            obtain ⟨q, hq⟩ : ∃ q, q = min 8 (size - k * 8) := ⟨_, rfl⟩
            rw [← hq] at hC h5
            have h5' : (c == q) = false := by simpa using h5
            rw [e]
            clear e h5 hq
            go_enter Tryz.func105, Tryz.ntmps105
            go_wp2_with fail
            go_quiet ((first | (go_at_call 84; exact Calls.quiet_of_same (hS _)) | (go_at_call 115; exact Calls.quiet_of_same (hC _))))
            go_wp2_with fail
            go_ret
            exact ⟨rfl, below_drewN' bW _⟩
        · have e : fitB size k ⟨k * 8, c, p⟩ = false := by rw [Bool.eq_false_iff]; intro h; exact h4 (fitB_iff.1 h).2.2.2.2.1
          have h4' : decide (1 ≤ c) = false := decide_eq_false h4
          rw [e]
          clear e
          go_enter Tryz.func105, Tryz.ntmps105
          go_wp2_with fail
          go_quiet ((go_at_call 84; exact Calls.quiet_of_same (hS _)))
          go_wp2_with fail
          go_ret
          exact ⟨rfl, below_drewN' bW _⟩
      · have e : fitB size k ⟨f, c, p⟩ = false := by rw [Bool.eq_false_iff]; intro h; exact h3 (fitB_iff.1 h).2.2.2.1
        have h3' : (f == k * 8) = false := by simpa using h3
        rw [e]
        clear e h3
        go_enter Tryz.func105, Tryz.ntmps105
        go_wp2_with fail
        go_quiet ((go_at_call 84; exact Calls.quiet_of_same (hS _)))
        go_wp2_with fail
        go_ret
        exact ⟨rfl, below_drewN' bW _⟩
    · have e : fitB size k ⟨f, c, p⟩ = false := by rw [Bool.eq_false_iff]; intro h; exact h2 (fitB_iff.1 h).2.2.1
      have h2' : decide (k ≤ 100) = false := decide_eq_false h2
      rw [e]
      clear e
      go_enter Tryz.func105, Tryz.ntmps105
      go_wp2_with fail
      go_quiet ((go_at_call 84; exact Calls.quiet_of_same (hS _)))
      go_wp2_with fail
      go_ret
      exact ⟨rfl, below_drewN' bW _⟩
  · rw [sizeB_false h1] at hS
    have e : fitB size k ⟨f, c, p⟩ = false := by rw [Bool.eq_false_iff]; intro h; have := fitB_iff.1 h; exact h1 ⟨this.1, this.2.1⟩
    rw [e]
    clear e h1
    go_enter Tryz.func105, Tryz.ntmps105
    go_wp2_with fail
    go_quiet ((go_at_call 84; exact Calls.quiet_of_same (hS _)))
    go_wp2_with fail
    go_ret
    exact ⟨rfl, below_drewN' bW _⟩

end Go.Proofs.YtkjlchfmplcobaeGreatDoor

/- The walk of writeEntries: package shelf as it landed. -/
namespace Go.Proofs.YtkjlchfmplcobaeGreatDoor
open Go.RowKit

set_option maxRecDepth 100000 in
set_option maxHeartbeats 2000000 in
theorem writeEntries_any (L : List (List Int)) (a : Option Addr) (n c : Nat) (w : World) (hL : Lists w a n c L) (h200 : ∀ j, (L.getD j []).length ≤ 200) (h8 : n ≤ 8) :
    Calls Tryz.prog 117 #[.slice a n c] w fun e w' => ∃ va vc, e = .returned (.slice va (layL L).length vc) ∧ w'.ownsRow w.heap.size 5 1 (.slice va (layL L).length vc) (layL L).length ((layL L).map (Value.int .u8)) ∧ Below w.heap.size w w' := by
  obtain ⟨i0, hi0, hz0, hz1, hz2⟩ := info_parts Tryz.info5b
  have hlen := hL.len
  have h201 : ∀ k, (layL (L.take k)).length ≤ 2000 := fun k => by
    have h1 := layL_length (L.take k) (fun e he => mem_short h200 e (List.mem_of_mem_take he))
    have h2 : (L.take k).length ≤ 8 := by rw [List.length_take]; omega
    omega
  go_enter Tryz.func117, Tryz.ntmps117
  go_wp2_with fail
  go_loopw [3, 8] (fun ov kv wr => ∃ (k : Nat) (va : Option Addr) (m vc : Nat), k ≤ n ∧ kv = .int .i64 k ∧ ov = .slice va m vc ∧ Hid (m = (layL (L.take k)).length) ∧ wr.ownsRow w.heap.size 5 1 (.slice va m vc) m ((layL (L.take k)).map (Value.int .u8)) ∧ Below w.heap.size w wr) (fun _ kv _ => n - (intOf kv).toNat)
  case atStart => exact ⟨0, none, 0, 0, Nat.zero_le _, rfl, rfl, rfl, ⟨rfl, .inl ⟨rfl, rfl⟩⟩, Below.refl _ _⟩
  case round =>
    obtain ⟨wo, rfl⟩ : ∃ x, x = wr := ⟨wr, rfl⟩
    obtain ⟨k, va, m, vc, hk, rfl, rfl, HM, hrow, hbr⟩ := hrel
    have hm := h201 k
    rw [← HM.out] at hm
    have hsr := hbr.size
    by_cases hlt : k < n
    · obtain ⟨b, off, pa, pc, rfl, hcell, hsome⟩ := hL.get k hlt
      have hb0 : b < w.heap.size := World.block_lt_of_cell? w ⟨b, off + k, none⟩ hcell
      have hcell1 := (hbr.cell (p := ⟨b, off + k, none⟩) hb0).trans hcell
      have HS : Hid (layL (L.take (k + 1)) = layL (L.take k) ++ ((L.getD k []).length : Int) :: L.getD k []) := by
        show _ = _
        rw [List.take_succ_eq_append_getElem (by omega), layL_snoc, List.getD_eq_getElem?_getD, List.getElem?_eq_getElem (by omega)]
        rfl
      have hd2 := h200 k
      have hB0 := hsome.at'
      obtain ⟨D, hD⟩ : ∃ D, D = L.getD k [] := ⟨_, rfl⟩
      rw [← hD] at hcell1 HS hd2 hB0
      obtain ⟨d, hd⟩ : ∃ d, d = D.length := ⟨_, rfl⟩
      rw [← hd] at hcell1 HS hd2 hB0
      have Hd : Hid (d = D.length) := hd
      have hlt' : (k : Int) < n := by omega
      have hd' : (d : Int) ≤ 200 := by omega
      have hrowA := hrow.alloc (.cells #[.int .u8 d] 5)
      have hnew := cell_one_new wo (.int .u8 d) 5
      have bA : Below w.heap.size w (wo.alloc (.cells #[.int .u8 d] 5)) := hbr.alloc hsr _
      have hsA : w.heap.size ≤ (wo.alloc (.cells #[.int .u8 d] 5)).heap.size := by simp; omega
      have hdm : m + 1 + D.length ≤ 3000 := by omega
      clear hcell hsome hrow h200 hD hd h201
      go_wp2_with (first
        | (at_builtin; refine wpList_append_own _ rfl (.tmp 12) (.tmp 16) 37 rfl w.heap.size 5 i0 _ 1 1 Tryz.underlying37 hi0 hz0 hz1 hz2 rfl (by decide) _ _ _ rfl hrowA _ 1 1 [.int .u8 d] rfl rfl hnew (by intro u hu; simp at hu; subst hu; rfl) (by unfold maxLen; omega) (by omega) hsA ?_; intro v7 w7 ho7 hg7 _; obtain ⟨ta, tc, rfl⟩ := own_form' ho7; have b7 : Below w.heap.size w w7 := bA.grown hg7 hsA (fun _ h => own_block hrowA h); have hB7 := hB0.below (Nat.le_refl _) b7; clear hg7)
        | (at_builtin; refine wpList_append_bytes rfl (.tmp 18) (.tmp 19) 37 rfl w.heap.size 5 i0 _ Tryz.underlying37 hi0 hz0 hz1 hz2 rfl _ _ _ rfl ho7 pa d pc D rfl hB7 (by unfold maxLen; omega) (by omega) b7.size ?_; intro v8 w8 ho8 hg8; obtain ⟨sa, sc, rfl⟩ := own_form' ho8))
      have b8 : Below w.heap.size w w8 := b7.grown hg8 b7.size (fun _ h => own_block ho7 h)
      go_roundw
      case rel =>
        refine ⟨k + 1, sa, _, sc, by omega, by go_num, rfl, ?_, ?_, b8⟩
        · show _ = _; rw [HS.out, List.length_append, List.length_cons, ← HM.out]; omega
        · rw [HS.out, List.map_append, List.map_cons]; simpa using ho8
      case measure => simp [intOf]; omega
    · obtain rfl : k = n := by omega
      rw [List.take_of_length_le (by omega)] at HM hrow
      go_wp2_with fail
      go_ret
      refine ⟨va, vc, by rw [← HM.out]; rfl, by rw [← HM.out]; exact hrow, hbr⟩

end Go.Proofs.YtkjlchfmplcobaeGreatDoor

/- The walk of segments: package shelf as it landed. -/
namespace Go.Proofs.YtkjlchfmplcobaeGreatDoor
open Go.RowKit

set_option maxRecDepth 100000 in
set_option maxHeartbeats 4000000 in
theorem segments_any (hPack : PackOC) (L : List (List Int)) (a : Option Addr) (n c : Nat) (w : World) (hL : Lists w a n c L) (h100 : L.length ≤ 100) (h200 : ∀ j, (L.getD j []).length ≤ 200) :
    Calls Tryz.prog 102 #[.slice a n c] w fun e w' => ∃ va vc, e = .returned (.slice va (segsL L).length vc) ∧ ∃ vs, (w'.ownsRow w.heap.size 104 3 (.slice va (segsL L).length vc) (segsL L).length vs ∧ SegEls w' w.heap.size vs (segsL L)) ∧ RiseV vs (segsL L).length ∧ Below w.heap.size w w' := by
  obtain ⟨i0, hi0, hz0, hz1, hz2⟩ := info_parts Tryz.info104b
  have hlen := hL.len
  have hroom := hL.room
  have hcap := hL.cap
  unfold maxLen at hcap
  have hm200 := mem_short h200
  go_enter Tryz.func102, Tryz.ntmps102
  go_wp2_with fail
  go_loopw [3, 4] (fun ov fv wr => ∃ (k : Nat) (va : Option Addr) (vc : Nat) (vs : List Value), 8 * k ≤ n + 7 ∧ fv = .int .i64 ((8 * k : Nat) : Int) ∧ ov = .slice va k vc ∧ wr.ownsRow w.heap.size 104 3 (.slice va k vc) k vs ∧ SegEls wr w.heap.size vs (segsN L k) ∧ RiseV vs k ∧ Below w.heap.size w wr) (fun _ fv _ => n + 8 - (intOf fv).toNat)
  case atStart => exact ⟨0, none, 0, [], by omega, rfl, rfl, ⟨rfl, .inl ⟨rfl, rfl⟩⟩, segEls_nil _ _, riseV_nil, Below.refl _ _⟩
  case round =>
    obtain ⟨wo, rfl⟩ : ∃ x, x = wr := ⟨wr, rfl⟩
    obtain ⟨k, va, vc, vs, hk, rfl, rfl, hrow, hels, hrise, hbr⟩ := hrel
    have hsr := hbr.size
    by_cases hlt : 8 * k < n
    · obtain ⟨b, off, pa, pc, rfl, -, -⟩ := hL.get (8 * k) hlt
      obtain ⟨q, Hq⟩ : ∃ q : Nat, Hid (q = min 8 (n - 8 * k)) := ⟨_, rfl⟩
      have hq1 : 1 ≤ q := by have := Hq.out; omega
      have hq8 : q ≤ 8 := by have := Hq.out; omega
      have hqn : 8 * k + q ≤ n := by have := Hq.out; omega
      have hpart : ((L.drop (8 * k)).take q) = ((L.drop (8 * k)).take 8) := by
        rw [Hq.out, ← hlen, ← List.length_drop, Nat.min_comm, ← List.take_take, List.take_of_length_le (by rw [List.length_take]; omega)]
      have HSK : Hid (segK L k = ⟨((8 * k : Nat) : Int), (q : Int), packL (layL ((L.drop (8 * k)).take 8))⟩) := by show _ = _; unfold segK; rw [hlen, ← Hq.out]
      have hLp := (hL.below hbr).part hqn hq1
      rw [hpart] at hLp
      have hdg : ∀ j, (((L.drop (8 * k)).take 8).getD j []).length ≤ 200 := take_short (fun j => by rw [List.getD_eq_getElem?_getD, List.getElem?_drop, ← List.getD_eq_getElem?_getD]; exact h200 _) 8
      have hW := writeEntries_any _ _ _ _ _ hLp hdg hq8
      have hX1 := lay_bytes hLp.bytes hdg
      have hX2 := lay_part hm200 k
      have hsn := segsN_snoc L k
      rw [HSK.out] at hsn
      have HSN : Hid (segsN L (k + 1) = segsN L k ++ [⟨((8 * k : Nat) : Int), (q : Int), packL (layL ((L.drop (8 * k)).take 8))⟩]) := hsn
      generalize layL ((L.drop (8 * k)).take 8) = X at *
      have hP : ∀ w' v, BytesAt w' v X → Calls Tryz.prog 116 #[v] w' fun e w'' => ∃ v', e = .returned (.tuple #[v', .int .i64 0]) ∧ w''.ownsRow w'.heap.size 5 1 v' (packL X).length ((packL X).map (Value.int .u8)) ∧ Below w'.heap.size w' w'' := fun w' v h => by
        have := hPack X v w' ⟨h, hX1, by unfold maxLen; omega⟩
        unfold muchE packE at this
        rwa [if_neg (by omega), if_neg (by omega)] at this
      have hC := countFrom_any ((8 * k : Nat) : Int) n wo (by omega) (by omega) (by omega) (by omega)
      rw [show min 8 ((n : Int) - ((8 * k : Nat) : Int)) = (q : Int) by have := Hq.out; omega] at hC
      generalize packL X = P at *
      clear hsn hpart hLp hdg hX1 hX2 HSK Hq h200 hm200
      obtain ⟨F, HF⟩ : ∃ F, Hid (8 * k = F) := ⟨_, rfl⟩
      rw [HF.out] at hW hC HSN hlt hqn hk ⊢
      have j1 : (F : Int) < n := by omega
      have j2 : (F : Int) + q ≤ n := by omega
      have j3 : (F : Int) + q ≤ c := by omega
      have j4 : ¬ c = F := by omega
      go_wp2_with fail
      refine hC.mono ?_
      rintro e w1 ⟨rfl, rfl⟩
      clear hC
      go_wp2_with fail
      refine hW.mono ?_
      rintro e w1 ⟨ta, tc, rfl, ho1, hb1⟩
      have b1 := hbr.trans (hb1.mono hsr)
      have hP1 := hP _ _ (bytesAt_own ho1)
      clear hW hP ho1
      go_wp2_with fail
      refine hP1.mono ?_
      rintro e w2 ⟨v2, rfl, ho2, hb2⟩
      have b2 := b1.trans (hb2.mono b1.size)
      have hw12 := (hb1.trans (hb2.mono hb1.size))
      have hrow2 := own3_below hrow hw12 (Nat.le_refl _)
      have hels2 := hels.below hw12 (Nat.le_refl _)
      have hs2 := b2.size
      have hri2 : Hid (RiseV (vs ++ [.int .i64 (F : Int), .int .i64 (q : Int), v2]) (k + 1)) := RiseV.snoc hrise hels (segsN_length L k) (fun g hg => Nat.le_trans hb1.size (ho2.lt g hg).1)
      have hsn2 := hels2.snoc (s := ⟨(F : Int), (q : Int), P⟩) (ownsRow_base ho2 b1.size)
      obtain ⟨ya, yc, rfl⟩ := own_form' ho2
      have hnew := lit_seg w2 (F : Int) (q : Int) (.slice ya P.length yc) 104
      have hone : ∀ u ∈ [Value.int .i64 (F : Int), .int .i64 (q : Int), .slice ya P.length yc], u.oneCell' = true := by intro u hu; simp at hu; rcases hu with rfl | rfl | rfl <;> rfl
      have hrowA := hrow2.alloc (.cells #[.int .i64 (F : Int), .int .i64 (q : Int), .slice ya P.length yc] 104)
      have helsA := hsn2.alloc (.cells #[.int .i64 (F : Int), .int .i64 (q : Int), .slice ya P.length yc] 104)
      have bA : Below w.heap.size w (w2.alloc (.cells #[.int .i64 (F : Int), .int .i64 (q : Int), .slice ya P.length yc] 104)) := b2.alloc hs2 _
      have hsA := bA.size
      have hk15 : k ≤ 20 := by have := HF.out; omega
      clear hrow hels hrise hels2 hsn2 hrow2 hP1 ho2 hw12 hb1 hb2
      go_wp2_with (at_builtin; refine wpList_append_own _ rfl (.tmp 29) (.tmp 34) 61 rfl w.heap.size 104 i0 _ 3 40 Tryz.underlying61 hi0 hz0 hz1 hz2 rfl (by decide) _ _ _ rfl hrowA ⟨w2.heap.size, 0, none⟩ 1 1 [.int .i64 (F : Int), .int .i64 (q : Int), .slice ya P.length yc] rfl rfl hnew hone (by unfold maxLen; omega) (by omega) hsA ?_; intro v7 w7 ho7 hg7 _; obtain ⟨sa, sc, rfl⟩ := own3_form ho7)
      have b7 : Below w.heap.size w w7 := bA.grown hg7 hsA (fun _ h => own3_block hrowA h)
      have hels7 := helsA.kept hrowA hg7
      go_roundw
      case rel =>
        refine ⟨k + 1, sa, sc, _, by have := HF.out; omega, ?_, rfl, ho7, by rw [HSN.out]; exact hels7, hri2.out, b7⟩
        have := HF.out
        rw [show ((8 * (k + 1) : Nat) : Int) = (F : Int) + 8 by omega]
      case measure => simp [intOf]; omega
    · have hkk : k = (L.length + 7) / 8 := by omega
      have hj1 : ¬ ((8 * k : Nat) : Int) < n := by omega
      have hN : segsN L k = segsL L := by unfold segsL; rw [hkk]
      rw [hN] at hels
      have hl2 : (segsL L).length = k := by unfold segsL; rw [segsN_length, ← hkk]
      have HL : Hid ((segsL L).length = k) := hl2
      have HO : Hid ((wo.ownsRow w.heap.size 104 3 (.slice va k vc) k vs ∧ SegEls wo w.heap.size vs (segsL L)) ∧ RiseV vs k) := ⟨⟨hrow, hels⟩, hrise⟩
      clear hN hl2 hkk hrow hels hrise hk
      obtain ⟨F, HF⟩ : ∃ F, Hid (8 * k = F) := ⟨_, rfl⟩
      rw [HF.out] at hj1 ⊢
      go_wp2_with fail
      go_ret
      exact ⟨va, vc, by rw [HL.out]; rfl, vs, by rw [HL.out]; exact HO.out.1, by rw [HL.out]; exact HO.out.2, hbr⟩

end Go.Proofs.YtkjlchfmplcobaeGreatDoor
