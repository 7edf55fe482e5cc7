/- ShelfGoSegment, ShaPartsC, TreeFaceLeaf, as one text. -/
import Derived.Test.YtbkkfchcdfhfgadDoorProg
import Derived.Test.YtbkkfchcdfhfgadDoorRunAL
import Derived.Test.YtbkkfchcdfhfgadDoorShelfGoRead
import Derived.WalkKit
import Derived.WalkSpells
import Derived.WalkLawsBesides
import Derived.Test.YtbkkfchcdfhfgadDoorShaSum
import Derived.Test.YtbkkfchcdfhfgadDoorShaOwn
import Derived.Test.YtbkkfchcdfhfgadDoorRunAD
/- The walks of Segment and Entry: package shelf as it landed. -/
namespace Go.Proofs.YtbkkfchcdfhfgadDoor
open Go.RowKit

set_option maxRecDepth 100000 in
set_option maxHeartbeats 4000000 in
theorem segmentC_of (hUn : UnpackRC) : SegmentC := by
  intro m k mv w hM
  obtain ⟨rv, sv, rfl, hr, a, c, rfl, hN1, hN2, hN3, hcell⟩ := hM
  unfold maxLen at hN2
  have x0 := box_new w #[.int .i64 m.size, rv, .slice a m.segs.length c] 28
  have b0 : Below w.heap.size w (w.alloc (.cells #[.int .i64 m.size, rv, .slice a m.segs.length c] 28)) := (Below.refl _ _).alloc (Nat.le_refl _) _
  obtain ⟨u0, u1, u2, -, -, -⟩ := box_three x0
  by_cases hk : k < 0 ∨ (m.segs.length : Int) ≤ k
  · have HE : Hid (segmentL m k = ([], 6)) := by show _ = _; unfold segmentL; rw [if_pos hk]
    clear hcell hr
    generalize m.segs.length = N at *
    rcases (show k < 0 ∨ (¬ k < 0 ∧ (N : Int) ≤ k) by omega) with hk | ⟨hk1, hk⟩
    all_goals
      go_enter Tryd.func10, Tryd.ntmps10
      go_wp2_with fail
      exact bodyPost_ret (v := .tuple #[.slice none 0 0, .int .i64 6]) (by simp [results, Tryd.results10, go_sem]) rfl ⟨none, 0, 0, by rw [HE.out], by rw [HE.out]; exact laid_nil _, b0⟩
  · obtain ⟨i, rfl⟩ : ∃ i : Nat, k = (i : Int) := ⟨k.toNat, by omega⟩
    have hi : i < m.segs.length := by omega
    replace hcell := hcell.resolve_left (by omega)
    obtain ⟨b, off, rfl, hb0, hcell⟩ := hcell
    obtain ⟨c0, c1, pa, pc, c2, hp, hp1, hp2⟩ := hcell i hi
    have HE : Hid (segmentL m (i : Int) = if fitB m.size (i : Int) (m.segs.getD i seg0) = false then ([], 7) else readSeg (m.segs.getD i seg0)) := by
      show _ = _
      unfold segmentL
      rw [if_neg hk, Int.toNat_natCast]
    have hj1 : ¬ (i : Int) < 0 := by omega
    have hj2 : (i : Int) < m.segs.length := by omega
    have hj3 : (0 : Int) ≤ (i : Int) := by omega
    clear hcell hk
    generalize m.segs.length = N at *
    generalize m.segs.getD i seg0 = s at *
    obtain ⟨f, ct, pk⟩ := s
    dsimp only at c0 c1 c2 hp hp1
    replace c0 := (old_cell w (.cells #[.int .i64 m.size, rv, .slice (some ⟨b, off, none⟩) N c] 28) b (off + i * 3) hb0).trans c0
    replace c1 := (old_cell w (.cells #[.int .i64 m.size, rv, .slice (some ⟨b, off, none⟩) N c] 28) b (off + i * 3 + 1) hb0).trans c1
    replace c2 := (old_cell w (.cells #[.int .i64 m.size, rv, .slice (some ⟨b, off, none⟩) N c] 28) b (off + i * 3 + 2) hb0).trans c2
    have hp0 := hp.below b0
    generalize m.size = size at *
    have x1 := box_old (w.alloc (.cells #[.int .i64 size, rv, .slice (some ⟨b, off, none⟩) N c] 28)) (.cells #[.int .i64 f, .int .i64 ct, .slice pa pk.length pc] 55) x0
    have y1 := box_new (w.alloc (.cells #[.int .i64 size, rv, .slice (some ⟨b, off, none⟩) N c] 28)) #[.int .i64 f, .int .i64 ct, .slice pa pk.length pc] 55
    have d1 : Below (w.alloc (.cells #[.int .i64 size, rv, .slice (some ⟨b, off, none⟩) N c] 28)).heap.size (w.alloc (.cells #[.int .i64 size, rv, .slice (some ⟨b, off, none⟩) N c] 28)) ((w.alloc (.cells #[.int .i64 size, rv, .slice (some ⟨b, off, none⟩) N c] 28)).alloc (.cells #[.int .i64 f, .int .i64 ct, .slice pa pk.length pc] 55)) := (Below.refl _ _).alloc (Nat.le_refl _) _
    have hp1' := hp0.below d1
    have b1 := b0.trans (d1.mono b0.size)
    have hF := segFits_any f ct i size (.slice pa pk.length pc) pk ((w.alloc (.cells #[.int .i64 size, rv, .slice (some ⟨b, off, none⟩) N c] 28)).alloc (.cells #[.int .i64 f, .int .i64 ct, .slice pa pk.length pc] 55)) hj3
    have e1 : (w.alloc (.cells #[.int .i64 size, rv, .slice (some ⟨b, off, none⟩) N c] 28)).heap.size = w.heap.size + 1 := by simp
    rw [e1] at y1
    obtain ⟨z0, z1, z2, -, -, -⟩ := box_three x1
    obtain ⟨t0, t1, t2, -, -, -⟩ := box_three y1
    clear x0 e1 d1 hp0
    go_enter Tryd.func10, Tryd.ntmps10
    go_wp2_with fail
    generalize (w.alloc (.cells #[.int .i64 size, rv, .slice (some ⟨b, off, none⟩) N c] 28)).alloc (.cells #[.int .i64 f, .int .i64 ct, .slice pa pk.length pc] 55) = w1 at *
    refine hF.mono ?_
    rintro e w2 ⟨rfl, hb2⟩
    have b2 := b1.trans (hb2.mono b1.size)
    obtain ⟨t0', t1', t2', -, -, -⟩ := box_three (box_kept y1 hb2)
    have hp2' := hp1'.below hb2
    have y2 := box_kept y1 hb2
    clear hF c0 c1 c2 u0 u1 u2 z0 z1 z2 t0 t1 t2 x1 y1
    cases hfit : fitB size (i : Int) ⟨f, ct, pk⟩ with
    | false =>
      have HE2 : Hid (segmentL m (i : Int) = ([], 7)) := by show _ = _; rw [HE.out, if_pos hfit]
      clear HE hfit
      go_wp2_with fail
      exact bodyPost_ret (v := .tuple #[.slice none 0 0, .int .i64 7]) (by simp [results, Tryd.results10, go_sem]) rfl ⟨none, 0, 0, by rw [HE2.out], by rw [HE2.out]; exact laid_nil _, b2⟩
    | true =>
      have hft := fitB_iff.1 hfit
      dsimp only at hft
      have HE2 : Hid (segmentL m (i : Int) = readSeg ⟨f, ct, pk⟩) := by show _ = _; rw [HE.out, if_neg (by rw [hfit]; decide)]
      obtain ⟨cnt, rfl⟩ : ∃ cnt : Nat, ct = (cnt : Int) := ⟨ct.toNat, by omega⟩
      have hc8 : cnt ≤ 8 := by omega
      have hU := hUn pk _ w2 hp2' ⟨_, _, rfl, hp1, hp2⟩
      have hub := unpack_bytes hp2'.bytes
      have hul := unpack_len pk
      have HR : Hid (readSeg ⟨f, (cnt : Int), pk⟩ = if (unpackL pk).2 ≠ 0 then ([], (unpackL pk).2) else match takeL cnt (unpackL pk).1 with | none => ([], 2) | some l => (l, 0)) := by show _ = _; unfold readSeg; dsimp only; rw [Int.toNat_natCast]; rfl
      clear HE hfit hft
      generalize unpackL pk = U at *
      obtain ⟨T, ue⟩ := U
      dsimp only at hU hub hul HR
      go_wp2_with fail
      refine hU.mono ?_
      rintro e w3 ⟨tv, rfl, hT, hb3⟩
      have b3 := b2.trans (hb3.mono b2.size)
      obtain ⟨t0'', t1'', t2'', -, -, -⟩ := box_three (box_kept y2 hb3)
      clear hU t0' t1' t2' y2
      by_cases hue : ue = 0
      · subst hue
        have hRd := readEntries_any T hub hul cnt hc8 tv w3 hT
        have HR2 : Hid (segmentL m (i : Int) = match takeL cnt T with | none => ([], 2) | some l => (l, 0)) := by show _ = _; rw [HE2.out, HR.out, if_neg (fun h => h rfl)]
        obtain ⟨ta, tc, rfl⟩ := hT.1.form
        clear HE2 HR hub hT
        go_wp2_with fail
        refine hRd.mono ?_
        rintro e w4 ⟨v, rfl, hok, hb4⟩
        have b4 := b3.trans (hb4.mono b3.size)
        clear hRd
        cases htk : takeL cnt T with
        | none =>
          rw [htk] at hok HR2
          have HR3 : Hid (segmentL m (i : Int) = ([], 2)) := HR2.out
          clear HR2 htk hok
          dsimp only [Option.isSome]
          go_wp2_with fail
          exact bodyPost_ret (v := .tuple #[.slice none 0 0, .int .i64 2]) (by simp [results, Tryd.results10, go_sem]) rfl ⟨none, 0, 0, by rw [HR3.out], by rw [HR3.out]; exact laid_nil _, b4⟩
        | some l =>
          rw [htk] at hok HR2
          have HR3 : Hid (segmentL m (i : Int) = (l, 0)) := HR2.out
          obtain ⟨xa, xn, xc, rfl, hl⟩ := hok l rfl
          clear HR2 htk hok
          dsimp only [Option.isSome]
          go_wp2_with fail
          exact bodyPost_ret (v := .tuple #[.slice xa xn xc, .int .i64 0]) (by simp [results, Tryd.results10, go_sem]) rfl ⟨xa, xn, xc, by rw [HR3.out], by rw [HR3.out]; exact hl, b4⟩
      · have hue' : (ue != 0) = true := by simpa using hue
        have HR2 : Hid (segmentL m (i : Int) = ([], ue)) := by show _ = _; rw [HE2.out, HR.out, if_pos hue]
        clear HE2 HR hub hT hue
        go_wp2_with fail
        exact bodyPost_ret (v := .tuple #[.slice none 0 0, .int .i64 ue]) (by simp [results, Tryd.results10, go_sem]) rfl ⟨none, 0, 0, by rw [HR2.out], by rw [HR2.out]; exact laid_nil _, b3⟩

end Go.Proofs.YtbkkfchcdfhfgadDoor

/- The walk of sha.Parts: the digest of bytes that come in parts. -/
namespace Go.Proofs.YtbkkfchcdfhfgadDoor
open Go.RowKit

/-- All bytes, one part behind the other. -/
def flat (L : List (List Int)) : List Int := L.flatten
theorem flat_take (L : List (List Int)) (k : Nat) (h : k < L.length) : (L.take (k + 1)).flatten = (L.take k).flatten ++ L.getD k [] := by
  rw [List.take_succ_eq_append_getElem h, List.flatten_append, List.getD_eq_getElem?_getD, List.getElem?_eq_getElem h]
  simp
theorem flat_le (L : List (List Int)) (k : Nat) : (L.take k).flatten.length ≤ L.flatten.length := by
  have : L.flatten = (L.take k).flatten ++ (L.drop k).flatten := by rw [← List.flatten_append, List.take_append_drop]
  rw [this, List.length_append]; omega
theorem part_le (L : List (List Int)) (k : Nat) (h : k < L.length) : (L.take k).flatten.length + (L.getD k []).length ≤ L.flatten.length := by
  have := flat_le L (k + 1)
  rw [flat_take L k h, List.length_append] at this
  exact this
set_option maxRecDepth 100000 in
set_option maxHeartbeats 1000000 in
theorem parts_any (L : List (List Int)) (v : Value) (w : World) (hv : PartsAt w v L) (hn : L.length ≤ maxLen) (hm : L.flatten.length ≤ 140737488355328) (hz : ∀ j, Bytes (L.getD j [])) (hK : Tab w) (h0 : 0 < w.heap.size) :
    Calls Tryd.prog 86 #[v] w
      fun e w' => ∃ g, e = .returned (.slice (some ⟨g, 0, none⟩) 32 32) ∧ w'.ownsRow w.heap.size 5 1 (.slice (some ⟨g, 0, none⟩) 32 32) 32 ((shaL L.flatten).map (Value.int .u8)) ∧ Below w.heap.size w w' := by
  have hz0 := (zero_of_info info_run).1
  have hi := (zero_of_info info_run).2
  obtain ⟨a0, c0, rfl, hcell⟩ : ∃ a c, v = .slice a L.length c ∧ (L.length = 0 ∨ ∃ b off, a = some ⟨b, off, none⟩ ∧ b < w.heap.size ∧ ∀ j, j < L.length → ∃ a n c, w.cell? ⟨b, off + j, none⟩ = some (.slice a n c) ∧ BytesAt w (.slice a n c) (L.getD j [])) := by
    rcases hv with ⟨rfl, a, c, rfl⟩ | ⟨b, off, cp, rfl, h2, h3⟩
    · exact ⟨a, c, rfl, .inl rfl⟩
    · exact ⟨_, _, rfl, .inr ⟨b, off, rfl, h2, h3⟩⟩
  clear hv
  unfold maxLen at hn
  go_enter Tryd.func86, Tryd.ntmps86
  go_wp2_with fail
  refine (begin_any _).mono ?_
  rintro e w1 ⟨rfl, hb1⟩
  go_wp2_with (refine wpList_store_mid rfl 81 (.tmp 3) (.tmp 6) rfl w1.heap.size 0 iniRun rfl rfl ?_ ?_ ini_one ?_; (rw [ini_size]; exact there_new _ _ _ 73 zrun_size); (rw [ini_size]; exact hi))
  obtain ⟨hrun, hb2, hK2, hlt⟩ := sum_begun 81 hb1 hK h0
  have hs1 := hb1.size
  generalize ((w1.alloc (.cells zRun 81)).setCells w1.heap.size 0 iniRun.toList) = w2 at *
  go_loopw [9] (fun i wr => ∃ k : Nat, k ≤ L.length ∧ i = .int .i64 k ∧ RunAt wr w1.heap.size (rn0.all (L.take k).flatten) ∧ Below w.heap.size w wr ∧ w1.heap.size < wr.heap.size) (fun i _ => L.length - (intOf i).toNat)
  case atStart => exact ⟨0, Nat.zero_le _, rfl, hrun, hb2, hlt⟩
  case round =>
    obtain ⟨k, hk, rfl, hr, hb, hltr⟩ := hrel
    clear hrun hb2 hK2 hlt
    by_cases hlk : k < L.length
    · rcases hcell with hcell | ⟨b, off, rfl, hbb, hcell⟩
      · omega
      obtain ⟨a, n, c, hca, hB⟩ := hcell k hlk
      have hca' : wr.cell? ⟨b, off + k, none⟩ = some (.slice a n c) := by rw [hb.cell (p := ⟨b, off + k, none⟩) hbb]; exact hca
      have hB' := hB.below (Nat.le_refl _) hb
      have hKr := tab_below hK hb h0
      have hpl := part_le L k hlk
      have HF : Hid ((L.take (k + 1)).flatten = (L.take k).flatten ++ L.getD k []) := flat_take L k hlk
      have hc3 : (rn0.all (L.take k).flatten).c = (L.take k).flatten.length := by rw [Rn.all_c]; show 0 + _ = _; omega
      have hsr := hb.size
      have hcs : (rn0.all (L.take k).flatten).c ≤ 140737488355328 := by rw [hc3]; have := flat_le L k; omega
      clear hc3 hcell hca
      go_wp2_with fail
      refine (add_bytes (rn0.all (L.take k).flatten) (L.getD k []) _ w1.heap.size wr hB' (fun b' off' cp' e hpos => by
        rcases hB with ⟨e1, -⟩ | ⟨b2, o2, c2, e2, hb2, -⟩
        · rw [e1] at hpos; simp at hpos
        · rw [e2] at e
          simp only [Value.slice.injEq, Option.some.injEq, Addr.mk.injEq] at e
          omega) (by unfold maxLen; omega) (hz k) hr hKr hltr (by omega) (by omega) (by omega)).mono ?_
      rintro e w3 ⟨rfl, hr3, hg3⟩
      have hb3 : Below w.heap.size w w3 := hb.grown hg3 hsr (fun q h => by cases h; exact hs1)
      have hr4 : RunAt w3 w1.heap.size (rn0.all (L.take (k + 1)).flatten) := by rw [HF.out, Rn.all_append]; exact hr3
      have hlt4 : w1.heap.size < w3.heap.size := Nat.lt_of_lt_of_le hltr hg3.size
      clear hr3 hg3 hr hKr hB hB' hca'
      go_wp2_with fail
      go_roundw
      case rel => exact ⟨k + 1, by omega, by go_num, hr4, hb3, hlt4⟩
      case measure => simp [intOf]; omega
    · have e : L.take k = L := List.take_of_length_le (by omega)
      rw [e] at hr
      have hK3 := tab_below hK hb h0
      have hc3 : (rn0.all L.flatten).c = L.flatten.length := by rw [Rn.all_c]; show 0 + _ = _; omega
      have hsr := hb.size
      clear e hcell
      go_wp2_with fail
      refine (end_any (rn0.all L.flatten) w1.heap.size wr hr hK3 hltr (by omega) (by omega) (by rw [hc3]; omega)).mono ?_
      rintro e w4 ⟨g, rfl, ho, hg4⟩
      have hb4 : Below w.heap.size w w4 := hb.grown hg4 hsr (fun q h => by cases h; exact hs1)
      have ho4 : w4.ownsRow w.heap.size 5 1 (.slice (some ⟨g, 0, none⟩) 32 32) 32 ((shaL L.flatten).map (Value.int .u8)) := by
        have := ownsRow_base ho hsr
        rw [hc3] at this
        exact this
      clear ho hg4 hr hK3
      go_wp2_with fail
      go_ret
      exact ⟨g, rfl, ho4, hb4⟩

end Go.Proofs.YtbkkfchcdfhfgadDoor

/- What TreeTells asks of tree.Leaf and tree.Node. -/
namespace Go.Proofs.YtbkkfchcdfhfgadDoor
open Go.RowKit

def LeafC : Prop := ∀ (b : List Int) (v : Value) (w : World), Ready w → Some' w v b → b.length ≤ 70368744177664 →
  Calls Tryd.prog 60 #[v] w fun e w' => ∃ x, e = .returned x ∧ w'.ownsRow w.heap.size 5 1 x 32 ((leafL b).map (Value.int .u8)) ∧ Below w.heap.size w w'
def NodeC : Prop := ∀ (b1 b2 : List Int) (v1 v2 : Value) (w : World), Ready w → Some' w v1 b1 → Some' w v2 b2 → b1.length + b2.length ≤ 70368744177664 →
  Calls Tryd.prog 62 #[v1, v2] w fun e w' => ∃ x, e = .returned x ∧ w'.ownsRow w.heap.size 5 1 x 32 ((nodeL b1 b2).map (Value.int .u8)) ∧ Below w.heap.size w w'

end Go.Proofs.YtbkkfchcdfhfgadDoor
