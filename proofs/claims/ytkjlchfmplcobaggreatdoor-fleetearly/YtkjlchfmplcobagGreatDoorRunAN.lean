/- ShaPartsC, TreeFaceLeaf, TreeGoSmall, TreeGoPart, as one text. -/
import Derived.Test.YtkjlchfmplcobagGreatDoorProg
import Derived.Test.YtkjlchfmplcobagGreatDoorShaSum
import Derived.WalkKit
import Derived.WalkSpells
import Derived.WalkLawsBesides
import Derived.Deep.AppendLies
import Derived.Laws.AppendOwnNone
import Derived.Test.YtkjlchfmplcobagGreatDoorRunAD
import Derived.Test.YtkjlchfmplcobagGreatDoorRunAH
import Derived.Lib.BitFns
import Derived.Deep.RegionHeld3
import Derived.BigRegion
/- The walk of sha.Parts: the digest of bytes that come in parts. -/
namespace Go.Proofs.YtkjlchfmplcobagGreatDoor
open Go.RowKit

theorem flat_take (L : List (List Int)) (k : Nat) (h : k < L.length) : (L.take (k + 1)).flatten = (L.take k).flatten ++ L.getD k [] := by
  rw [List.take_succ_eq_append_getElem h, List.flatten_append, List.getD_eq_getElem?_getD, List.getElem?_eq_getElem h]
  simp
theorem flat_le (L : List (List Int)) (k : Nat) : (L.take k).flatten.length ≤ L.flatten.length := by
  have : L.flatten = (L.take k).flatten ++ (L.drop k).flatten := by rw [← List.flatten_append, List.take_append_drop]
  rw [this, List.length_append]; omega
theorem part_le (L : List (List Int)) (k : Nat) (h : k < L.length) : (L.take k).flatten.length + (L.getD k []).length ≤ L.flatten.length := by
  have := flat_le L (k + 1)
  rw [flat_take L k h, List.length_append] at this
  exact this
set_option maxRecDepth 100000 in
set_option maxHeartbeats 1000000 in
theorem parts_any (L : List (List Int)) (v : Value) (w : World) (hv : PartsAt w v L) (hn : L.length ≤ maxLen) (hm : L.flatten.length ≤ 140737488355328) (hz : ∀ j, Bytes (L.getD j [])) (hK : Tab w) (h0 : 0 < w.heap.size) :
    Calls Tryz.prog 82 #[v] w
      fun e w' => ∃ g, e = .returned (.slice (some ⟨g, 0, none⟩) 32 32) ∧ w'.ownsRow w.heap.size 5 1 (.slice (some ⟨g, 0, none⟩) 32 32) 32 ((shaL L.flatten).map (Value.int .u8)) ∧ Below w.heap.size w w' := by
  have hz0 := (zero_of_info info_run).1
  have hi := (zero_of_info info_run).2
  obtain ⟨a0, c0, rfl, hcell⟩ : ∃ a c, v = .slice a L.length c ∧ (L.length = 0 ∨ ∃ b off, a = some ⟨b, off, none⟩ ∧ b < w.heap.size ∧ ∀ j, j < L.length → ∃ a n c, w.cell? ⟨b, off + j, none⟩ = some (.slice a n c) ∧ BytesAt w (.slice a n c) (L.getD j [])) := by
    rcases hv with ⟨rfl, a, c, rfl⟩ | ⟨b, off, cp, rfl, h2, h3⟩
    · exact ⟨a, c, rfl, .inl rfl⟩
    · exact ⟨_, _, rfl, .inr ⟨b, off, rfl, h2, h3⟩⟩
  clear hv
  unfold maxLen at hn
  go_enter Tryz.func82, Tryz.ntmps82
  go_wp2_with fail
  refine (begin_any _).mono ?_
  rintro e w1 ⟨rfl, hb1⟩
  go_wp2_with (refine wpList_store_mid rfl 151 (.tmp 3) (.tmp 6) rfl w1.heap.size 0 iniRun rfl rfl ?_ ?_ ini_one ?_; (rw [ini_size]; exact there_new _ _ _ 73 zrun_size); (rw [ini_size]; exact hi))
  obtain ⟨hrun, hb2, hK2, hlt⟩ := sum_begun 151 hb1 hK h0
  have hs1 := hb1.size
  generalize ((w1.alloc (.cells zRun 151)).setCells w1.heap.size 0 iniRun.toList) = w2 at *
  go_loopw [9] (fun i wr => ∃ k : Nat, k ≤ L.length ∧ i = .int .i64 k ∧ RunAt wr w1.heap.size (rn0.all (L.take k).flatten) ∧ Below w.heap.size w wr ∧ w1.heap.size < wr.heap.size) (fun i _ => L.length - (intOf i).toNat)
  case atStart => exact ⟨0, Nat.zero_le _, rfl, hrun, hb2, hlt⟩
  case round =>
    obtain ⟨k, hk, rfl, hr, hb, hltr⟩ := hrel
    clear hrun hb2 hK2 hlt
    by_cases hlk : k < L.length
    · rcases hcell with hcell | ⟨b, off, rfl, hbb, hcell⟩
      · omega
      obtain ⟨a, n, c, hca, hB⟩ := hcell k hlk
      have hca' : wr.cell? ⟨b, off + k, none⟩ = some (.slice a n c) := by rw [hb.cell (p := ⟨b, off + k, none⟩) hbb]; exact hca
      have hB' := hB.below (Nat.le_refl _) hb
      have hKr := tab_below hK hb h0
      have hpl := part_le L k hlk
      have HF : Hid ((L.take (k + 1)).flatten = (L.take k).flatten ++ L.getD k []) := flat_take L k hlk
      have hc3 : (rn0.all (L.take k).flatten).c = (L.take k).flatten.length := by rw [Rn.all_c]; show 0 + _ = _; omega
      have hsr := hb.size
      have hcs : (rn0.all (L.take k).flatten).c ≤ 140737488355328 := by rw [hc3]; have := flat_le L k; omega
      clear hc3 hcell hca
      go_wp2_with fail
      refine (add_bytes (rn0.all (L.take k).flatten) (L.getD k []) _ w1.heap.size wr hB' (fun b' off' cp' e hpos => by
        rcases hB with ⟨e1, -⟩ | ⟨b2, o2, c2, e2, hb2, -⟩
        · rw [e1] at hpos; simp at hpos
        · rw [e2] at e
          simp only [Value.slice.injEq, Option.some.injEq, Addr.mk.injEq] at e
          omega) (by unfold maxLen; omega) (hz k) hr hKr hltr (by omega) (by omega) (by omega)).mono ?_
      rintro e w3 ⟨rfl, hr3, hg3⟩
      have hb3 : Below w.heap.size w w3 := hb.grown hg3 hsr (fun q h => by cases h; exact hs1)
      have hr4 : RunAt w3 w1.heap.size (rn0.all (L.take (k + 1)).flatten) := by rw [HF.out, Rn.all_append]; exact hr3
      have hlt4 : w1.heap.size < w3.heap.size := Nat.lt_of_lt_of_le hltr hg3.size
      clear hr3 hg3 hr hKr hB hB' hca'
      go_wp2_with fail
      go_roundw
      case rel => exact ⟨k + 1, by omega, by go_num, hr4, hb3, hlt4⟩
      case measure => simp [intOf]; omega
    · have e : L.take k = L := List.take_of_length_le (by omega)
      rw [e] at hr
      have hK3 := tab_below hK hb h0
      have hc3 : (rn0.all L.flatten).c = L.flatten.length := by rw [Rn.all_c]; show 0 + _ = _; omega
      have hsr := hb.size
      clear e hcell
      go_wp2_with fail
      refine (end_any (rn0.all L.flatten) w1.heap.size wr hr hK3 hltr (by omega) (by omega) (by rw [hc3]; omega)).mono ?_
      rintro e w4 ⟨g, rfl, ho, hg4⟩
      have hb4 : Below w.heap.size w w4 := hb.grown hg4 hsr (fun q h => by cases h; exact hs1)
      have ho4 : w4.ownsRow w.heap.size 5 1 (.slice (some ⟨g, 0, none⟩) 32 32) 32 ((shaL L.flatten).map (Value.int .u8)) := by
        have := ownsRow_base ho hsr
        rw [hc3] at this
        exact this
      clear ho hg4 hr hK3
      go_wp2_with fail
      go_ret
      exact ⟨g, rfl, ho4, hb4⟩

end Go.Proofs.YtkjlchfmplcobagGreatDoor

/- What TreeTells asks of tree.Leaf and tree.Node. -/
namespace Go.Proofs.YtkjlchfmplcobagGreatDoor
open Go.RowKit

def LeafC : Prop := ∀ (b : List Int) (v : Value) (w : World), Ready w → Some' w v b → b.length ≤ 70368744177664 →
  Calls Tryz.prog 59 #[v] w fun e w' => ∃ x, e = .returned x ∧ w'.ownsRow w.heap.size 5 1 x 32 ((leafL b).map (Value.int .u8)) ∧ Below w.heap.size w w'
def NodeC : Prop := ∀ (b1 b2 : List Int) (v1 v2 : Value) (w : World), Ready w → Some' w v1 b1 → Some' w v2 b2 → b1.length + b2.length ≤ 70368744177664 →
  Calls Tryz.prog 62 #[v1, v2] w fun e w' => ∃ x, e = .returned x ∧ w'.ownsRow w.heap.size 5 1 x 32 ((nodeL b1 b2).map (Value.int .u8)) ∧ Below w.heap.size w w'

end Go.Proofs.YtkjlchfmplcobagGreatDoor

/- The walks of package tree's small functions: Leaf, Node, isDigest, areDigests. -/
namespace Go.Proofs.YtkjlchfmplcobagGreatDoor
open Go.RowKit

theorem bytesAt_new (w : World) (z : Int) (t : TypeId) : BytesAt (w.alloc (.cells #[.int .u8 z] t)) (.slice (some ⟨w.heap.size, 0, none⟩) 1 1) [z] := by
  refine .inr ⟨_, 0, 1, rfl, by simp, fun j hj => ?_⟩
  obtain rfl : j = 0 := by simp at hj; omega
  rw [Nat.add_zero, new_cell w t #[.int .u8 z] 0 (by simp)]; rfl
theorem parts_two {w : World} {v : Value} {b : List Int} (h : BytesAt w v b) (z : Int) (t s : TypeId) :
    PartsAt ((w.alloc (.cells #[.int .u8 z] t)).alloc (.cells #[.slice (some ⟨w.heap.size, 0, none⟩) 1 1, v] s)) (.slice (some ⟨w.heap.size + 1, 0, none⟩) 2 2) [[z], b] := by
  obtain ⟨a, c, rfl⟩ := h.form
  refine .inr ⟨_, 0, 2, rfl, by simp, fun j hj => ?_⟩
  have hb0 : Below w.heap.size w ((w.alloc (.cells #[.int .u8 z] t)).alloc (.cells #[.slice (some ⟨w.heap.size, 0, none⟩) 1 1, .slice a b.length c] s)) := ((Below.refl _ _).alloc (Nat.le_refl _) _).alloc (by simp) _
  have hb1 : Below (w.alloc (.cells #[.int .u8 z] t)).heap.size (w.alloc (.cells #[.int .u8 z] t)) ((w.alloc (.cells #[.int .u8 z] t)).alloc (.cells #[.slice (some ⟨w.heap.size, 0, none⟩) 1 1, .slice a b.length c] s)) := (Below.refl _ _).alloc (Nat.le_refl _) _
  have hj' : j = 0 ∨ j = 1 := by simp at hj; omega
  rcases hj' with rfl | rfl
  · exact ⟨_, _, _, by simp, (bytesAt_new w z t).below (Nat.le_refl _) hb1⟩
  · exact ⟨_, _, _, by simp, h.below (Nat.le_refl _) hb0⟩
theorem parts_three {w : World} {v u : Value} {b d : List Int} (h : BytesAt w v b) (h2 : BytesAt w u d) (z : Int) (t s : TypeId) :
    PartsAt ((w.alloc (.cells #[.int .u8 z] t)).alloc (.cells #[.slice (some ⟨w.heap.size, 0, none⟩) 1 1, v, u] s)) (.slice (some ⟨w.heap.size + 1, 0, none⟩) 3 3) [[z], b, d] := by
  obtain ⟨a, c, rfl⟩ := h.form
  obtain ⟨a2, c2, rfl⟩ := h2.form
  refine .inr ⟨_, 0, 3, rfl, by simp, fun j hj => ?_⟩
  have hb0 : Below w.heap.size w ((w.alloc (.cells #[.int .u8 z] t)).alloc (.cells #[.slice (some ⟨w.heap.size, 0, none⟩) 1 1, .slice a b.length c, .slice a2 d.length c2] s)) := ((Below.refl _ _).alloc (Nat.le_refl _) _).alloc (by simp) _
  have hb1 : Below (w.alloc (.cells #[.int .u8 z] t)).heap.size (w.alloc (.cells #[.int .u8 z] t)) ((w.alloc (.cells #[.int .u8 z] t)).alloc (.cells #[.slice (some ⟨w.heap.size, 0, none⟩) 1 1, .slice a b.length c, .slice a2 d.length c2] s)) := (Below.refl _ _).alloc (Nat.le_refl _) _
  have hj' : j = 0 ∨ j = 1 ∨ j = 2 := by simp at hj; omega
  rcases hj' with rfl | rfl | rfl
  · exact ⟨_, _, _, by simp, (bytesAt_new w z t).below (Nat.le_refl _) hb1⟩
  · exact ⟨_, _, _, by simp, h.below (Nat.le_refl _) hb0⟩
  · exact ⟨_, _, _, by simp, h2.below (Nat.le_refl _) hb0⟩
theorem two_bytes {z : Int} {b : List Int} (h0 : 0 ≤ z) (h1 : z < 256) (h : Bytes b) : ∀ j, Bytes (([[z], b] : List (List Int)).getD j []) := fun j => by
  match j with
  | 0 => exact bytes_cons h0 h1 nil_bytes
  | 1 => exact h
  | j + 2 => exact nil_bytes
theorem three_bytes {z : Int} {b d : List Int} (h0 : 0 ≤ z) (h1 : z < 256) (h : Bytes b) (h2 : Bytes d) : ∀ j, Bytes (([[z], b, d] : List (List Int)).getD j []) := fun j => by
  match j with
  | 0 => exact bytes_cons h0 h1 nil_bytes
  | 1 => exact h
  | 2 => exact h2
  | j + 3 => exact nil_bytes

set_option maxRecDepth 100000 in
set_option maxHeartbeats 1000000 in
theorem leafC_holds : LeafC := by
  intro b v w hr hv hm
  have hp := parts_two hv.at' 0 5 36
  have hb : Below w.heap.size w ((w.alloc (.cells #[.int .u8 0] 5)).alloc (.cells #[.slice (some ⟨w.heap.size, 0, none⟩) 1 1, v] 36)) := ((Below.refl _ _).alloc (Nat.le_refl _) _).alloc (by simp) _
  have hK := tab_below hr.tab hb hr.big
  have h0 := Nat.lt_of_lt_of_le hr.big hb.size
  have hc := parts_any [[0], b] _ _ hp (by unfold maxLen; simp) (by simp; omega) (two_bytes (by decide) (by decide) hv.bytes) hK h0
  obtain ⟨a, c, e⟩ := hv.at'.form
  subst e
  go_enter Tryz.func59, Tryz.ntmps59
  go_wp2_with fail
  refine hc.mono ?_
  rintro e w1 ⟨g, rfl, ho, hb1⟩
  have hs := hb.size
  go_wp2_with fail
  go_ret
  refine ⟨_, rfl, ?_, hb.trans (hb1.mono hs)⟩
  have := ownsRow_base ho hs
  rwa [show ([[0], b] : List (List Int)).flatten = 0 :: b by simp] at this
set_option maxRecDepth 100000 in
set_option maxHeartbeats 1000000 in
theorem nodeC_holds : NodeC := by
  intro b1 b2 v1 v2 w hr hv1 hv2 hm
  have hp := parts_three hv1.at' hv2.at' 1 5 36
  have hb : Below w.heap.size w ((w.alloc (.cells #[.int .u8 1] 5)).alloc (.cells #[.slice (some ⟨w.heap.size, 0, none⟩) 1 1, v1, v2] 36)) := ((Below.refl _ _).alloc (Nat.le_refl _) _).alloc (by simp) _
  have hK := tab_below hr.tab hb hr.big
  have h0 := Nat.lt_of_lt_of_le hr.big hb.size
  have hc := parts_any [[1], b1, b2] _ _ hp (by unfold maxLen; simp) (by simp; omega) (three_bytes (by decide) (by decide) hv1.bytes hv2.bytes) hK h0
  obtain ⟨a, c, e⟩ := hv1.at'.form
  subst e
  obtain ⟨a2, c2, e⟩ := hv2.at'.form
  subst e
  go_enter Tryz.func62, Tryz.ntmps62
  go_wp2_with fail
  refine hc.mono ?_
  rintro e w1 ⟨g, rfl, ho, hb1⟩
  have hs := hb.size
  go_wp2_with fail
  go_ret
  refine ⟨_, rfl, ?_, hb.trans (hb1.mono hs)⟩
  have := ownsRow_base ho hs
  rwa [show ([[1], b1, b2] : List (List Int)).flatten = 1 :: (b1 ++ b2) by simp] at this

set_option maxRecDepth 100000 in
theorem isDigest_any (b : List Int) (v : Value) (w : World) (hv : BytesAt w v b) :
    Calls Tryz.prog 92 #[v] w fun e w' => e = .returned (.bool (decide (b.length = 32))) ∧ w' = w := by
  obtain ⟨a, c, rfl⟩ := hv.form
  by_cases h : b.length = 32
  · rw [decide_eq_true h]
    clear hv
    rw [h]
    go_enter Tryz.func92, Tryz.ntmps92
    go_wp2
    go_ret
    exact ⟨rfl, rfl⟩
  · rw [decide_eq_false h]
    have i1 : (b.length : Int) ≠ 32 := by omega
    go_enter Tryz.func92, Tryz.ntmps92
    go_wp2
    go_ret
    exact ⟨by first | rfl | simp [i1], rfl⟩

set_option maxRecDepth 100000 in
theorem areDigests_any (L : List (List Int)) (v : Value) (w : World) (hv : PartsAt w v L) (hm : L.length ≤ maxLen) (hm2 : ∀ j, (L.getD j []).length ≤ maxLen) :
    Calls Tryz.prog 81 #[v] w fun e w' => e = .returned (.bool (goodL L)) ∧ w' = w := by
  obtain ⟨a0, c0, rfl, hcell⟩ := hv.form
  unfold maxLen at hm
  go_enter Tryz.func81, Tryz.ntmps81
  go_wp2
  go_loop [7] (fun i => ∃ k : Nat, k ≤ L.length ∧ i = .int .i64 k ∧ Hid (∀ j, j < k → (L.getD j []).length = 32)) (fun i => L.length - (intOf i).toNat)
  case atStart => exact ⟨0, Nat.zero_le _, rfl, fun j hj => absurd hj (Nat.not_lt_zero _)⟩
  case round =>
    obtain ⟨k, hk, rfl, HG⟩ := hrel
    by_cases hlt : k < L.length
    · obtain ⟨b, off, rfl, hb, hc⟩ := hcell.resolve_left (by omega)
      obtain ⟨pa, pc, hcj, hB⟩ := hc k hlt
      have hl := hm2 k
      have HB : Hid ((L.getD k []).length ≠ 32 → goodL L = false) := goodL_bad hlt
      have HN : Hid ((L.getD k []).length = 32 → ∀ j, j < k + 1 → (L.getD j []).length = 32) := fun h j hj => by
        by_cases e : j = k
        · rw [e]; exact h
        · exact HG.out j (by omega)
      have hd := isDigest_any (L.getD k []) _ w hB
      unfold maxLen at hl
      clear hcell hc hv HG hm2 hB
      generalize (L.getD k []).length = m at *
      by_cases h32 : m = 32
      · have HN' : Hid (∀ j, j < k + 1 → (L.getD j []).length = 32) := HN.out h32
        clear HN HB
        rw [decide_eq_true h32] at hd
        subst h32
        go_wp2_with (go_at_call 92; refine hd.mono ?_; rintro e w' ⟨rfl, rfl⟩)
        go_round
        case rel => exact ⟨k + 1, by omega, by go_num, HN'⟩
        case measure => simp [intOf]; omega
      · have HB' : Hid (goodL L = false) := HB.out h32
        rw [decide_eq_false h32] at hd
        clear HN HB
        go_wp2_with (go_at_call 92; refine hd.mono ?_; rintro e w' ⟨rfl, rfl⟩)
        go_ret
        exact ⟨by rw [HB'.out]; rfl, rfl⟩
    · obtain rfl : k = L.length := by omega
      have HA : Hid (goodL L = true) := goodL_all HG.out
      clear HG
      go_wp2
      go_ret
      exact ⟨by rw [HA.out]; rfl, rfl⟩

end Go.Proofs.YtkjlchfmplcobagGreatDoor

/- The walks of bits.Len at small numbers, part.split and part.of. -/
namespace Go.Proofs.YtkjlchfmplcobagGreatDoor
open Go.RowKit

set_option maxRecDepth 100000 in
set_option maxHeartbeats 1000000 in
theorem len64_any (x : Int) (w : World) (h0 : 0 ≤ x) (h1 : x ≤ 255) :
    Calls Tryz.prog 102 #[.int .u64 x] w fun e w' => e = .returned (.int .i64 (Lib.bitLen x.toNat)) ∧ w' = w := by
  go_enter Tryz.func102, Tryz.ntmps102
  go_wp2
  go_ret
  have l := Lib.bitLen_le8' x h0 h1
  refine ⟨congrArg Ending.returned (congrArg (Value.int IntKind.i64) ?_), rfl⟩
  rw [Lib.len8_of x h0 h1]
  unfold wrap64
  omega
set_option maxRecDepth 100000 in
theorem len_any (x : Int) (w : World) (h0 : 0 ≤ x) (h1 : x ≤ 255) :
    Calls Tryz.prog 91 #[.int .u64 x] w fun e w' => e = .returned (.int .i64 (Lib.bitLen x.toNat)) ∧ w' = w := by
  go_enter Tryz.func91, Tryz.ntmps91
  go_wp2_with (go_at_call 102; refine (len64_any x w h0 h1).mono ?_; rintro e w' ⟨rfl, rfl⟩)
  go_ret
  exact ⟨rfl, rfl⟩
theorem len_split : ∀ n : Fin 101, 2 ≤ n.val → 1 ≤ Lib.bitLen (n.val - 1) ∧ Lib.bitLen (n.val - 1) ≤ 7 ∧ 2 ^ (Lib.bitLen (n.val - 1) - 1) < n.val ∧ n.val ≤ 2 * 2 ^ (Lib.bitLen (n.val - 1) - 1) := by decide +kernel
theorem split_len {n : Nat} (h2 : 2 ≤ n) (h : n ≤ 100) : ∃ e, Lib.bitLen (n - 1) = e + 1 ∧ e ≤ 6 ∧ splitN n = 2 ^ e := by
  obtain ⟨h1, h3, h4, h5⟩ := len_split ⟨n, by omega⟩ h2
  dsimp only at h1 h3 h4 h5
  refine ⟨Lib.bitLen (n - 1) - 1, by omega, by omega, splitN_unique h4 h5⟩
@[reducible] def partV (f e : Int) : Value := .agg #[.int .i64 f, .int .i64 e]
set_option maxRecDepth 100000 in
set_option maxHeartbeats 1000000 in
theorem split_part (f n : Nat) (w : World) (h2 : 2 ≤ n) (hn : n ≤ 100) (hf : f ≤ 100) :
    Calls Tryz.prog 78 #[partV f ((f : Int) + n)] w fun e w' => e = .returned (.tuple #[partV f ((f : Int) + splitN n), partV ((f : Int) + splitN n) ((f : Int) + n)]) ∧ Below w.heap.size w w' := by
  obtain ⟨e, he, he6, hs⟩ := split_len h2 hn
  have hL : ∀ w, _ := fun w => len_any ((f : Int) + n - f - 1) w (by omega) (by omega)
  have e1 : ((f : Int) + n - f - 1).toNat = n - 1 := by omega
  rw [e1, he] at hL
  have hsp := splitN_spec h2
  have hw : wrap64 ((2 : Int) ^ e) = (splitN n : Int) := by
    have h3 : ((2 : Int) ^ e) = (splitN n : Int) := by rw [hs]; simp
    rw [h3]; unfold wrap64; omega
  have hq : IntKind.i64.wrap ((f : Int) + splitN n) = (f : Int) + splitN n := by rw [IntWalk.i64_left]; unfold wrap64; omega
  clear e1 he hs
  generalize splitN n = k at *
  go_enter Tryz.func78, Tryz.ntmps78
  go_wp2_with (go_at_call 91; refine (hL _).mono ?_; rintro e w' ⟨rfl, rfl⟩)
  go_region_held3 (fun w' => w'.cell? ⟨w.heap.size, 0, none⟩ = some (.int .i64 (f : Int)) ∧ w'.cell? ⟨w.heap.size, 1, none⟩ = some (.int .i64 ((f : Int) + n))) (first | (go_keep; done) | (simp [go_sem]; done)) (fail)
  go_wp2_with fail
  exact bodyPost_ret (v := .tuple #[partV f ((f : Int) + k), partV ((f : Int) + k) ((f : Int) + n)]) (by simp [results, Tryz.results78, go_sem]) rfl ⟨rfl, ((((Below.refl _ _).alloc (Nat.le_refl _) _).alloc (by simp) _).alloc (by simp; omega) _).drew⟩
theorem splitP_any (f e : Nat) (w : World) (h2 : f + 2 ≤ e) (he : e ≤ 100) :
    Calls Tryz.prog 78 #[partV f e] w fun r w' => r = .returned (.tuple #[partV f ((f + splitN (e - f) : Nat) : Int), partV ((f + splitN (e - f) : Nat) : Int) e]) ∧ Below w.heap.size w w' := by
  have h := split_part f (e - f) w (by omega) (by omega) (by omega)
  have e1 : (f : Int) + ((e - f : Nat) : Int) = e := by omega
  have e2 : ((f + splitN (e - f) : Nat) : Int) = (f : Int) + (splitN (e - f) : Int) := by omega
  rw [e1] at h
  rw [e2]
  exact h
set_option maxRecDepth 100000 in
theorem of_any (f e : Nat) (b off n c : Nat) (w : World) (hfe : f < e) (he : e ≤ n) (hnc : n ≤ c) :
    Calls Tryz.prog 74 #[partV f e, .slice (some ⟨b, off, none⟩) n c] w fun r w' => r = .returned (.slice (some ⟨b, off + f, none⟩) (e - f) (c - f)) ∧ Below w.heap.size w w' := by
  have i1 : (f : Int) ≤ (e : Int) := by omega
  have i2 : (e : Int) ≤ (c : Int) := by omega
  have i3 : ¬ (c = f) := by omega
  go_enter Tryz.func74, Tryz.ntmps74
  go_wp2_with fail
  go_ret
  exact ⟨rfl, (Below.refl _ _).alloc (Nat.le_refl _) _⟩

end Go.Proofs.YtkjlchfmplcobagGreatDoor
