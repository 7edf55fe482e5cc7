/- ShelfGoSegment, TreeGoRoot, PackGoChunk, as one text. -/
import Derived.Test.YtkjlchfmplcobagGreatDoorProg
import Derived.Test.YtkjlchfmplcobagGreatDoorRunAQ
import Derived.Test.YtkjlchfmplcobagGreatDoorShelfGoRead
import Derived.WalkKit
import Derived.WalkSpells
import Derived.WalkLawsBesides
import Derived.Test.YtkjlchfmplcobagGreatDoorRunAN
import Derived.Deep.RegionHeld3
import Derived.BigRegion
import Derived.RangeFuncBox
import Derived.RangeFuncLeaves
import Derived.RangeFuncCalls
import Derived.Shelf.Abstract
import Derived.Shelf.RegionOpen
import Derived.OwnWalkIn
import Derived.TacticsInMore
import Derived.LoopNIn
import Derived.LoopIn
import Derived.Sort.QuietIn
/- The walks of Segment and Entry: package shelf as it landed. -/
namespace Go.Proofs.YtkjlchfmplcobagGreatDoor
open Go.RowKit

set_option maxRecDepth 100000 in
set_option maxHeartbeats 4000000 in
theorem segmentC_of (hUn : UnpackRC) : SegmentC := by
  intro m k mv w hM
  obtain ⟨rv, sv, rfl, hr, a, c, rfl, hN1, hN2, hN3, hcell⟩ := hM
  unfold maxLen at hN2
  have x0 := box_new w #[.int .i64 m.size, rv, .slice a m.segs.length c] 51
  have b0 : Below w.heap.size w (w.alloc (.cells #[.int .i64 m.size, rv, .slice a m.segs.length c] 51)) := (Below.refl _ _).alloc (Nat.le_refl _) _
  obtain ⟨u0, u1, u2, -, -, -⟩ := box_three x0
  by_cases hk : k < 0 ∨ (m.segs.length : Int) ≤ k
  · have HE : Hid (segmentL m k = ([], 6)) := by show _ = _; unfold segmentL; rw [if_pos hk]
    clear hcell hr
    generalize m.segs.length = N at *
    rcases (show k < 0 ∨ (¬ k < 0 ∧ (N : Int) ≤ k) by omega) with hk | ⟨hk1, hk⟩
    all_goals
      go_enter Tryz.func72, Tryz.ntmps72
      go_wp2_with fail
      exact bodyPost_ret (v := .tuple #[.slice none 0 0, .int .i64 6]) (by simp [results, Tryz.results72, go_sem]) rfl ⟨none, 0, 0, by rw [HE.out], by rw [HE.out]; exact laid_nil _, b0⟩
  · obtain ⟨i, rfl⟩ : ∃ i : Nat, k = (i : Int) := ⟨k.toNat, by omega⟩
    have hi : i < m.segs.length := by omega
    replace hcell := hcell.resolve_left (by omega)
    obtain ⟨b, off, rfl, hb0, hcell⟩ := hcell
    obtain ⟨c0, c1, pa, pc, c2, hp, hp1, hp2⟩ := hcell i hi
    have HE : Hid (segmentL m (i : Int) = if fitB m.size (i : Int) (m.segs.getD i seg0) = false then ([], 7) else readSeg (m.segs.getD i seg0)) := by
      show _ = _
      unfold segmentL
      rw [if_neg hk, Int.toNat_natCast]
    have hj1 : ¬ (i : Int) < 0 := by omega
    have hj2 : (i : Int) < m.segs.length := by omega
    have hj3 : (0 : Int) ≤ (i : Int) := by omega
    clear hcell hk
    generalize m.segs.length = N at *
    generalize m.segs.getD i seg0 = s at *
    obtain ⟨f, ct, pk⟩ := s
    dsimp only at c0 c1 c2 hp hp1
    replace c0 := (old_cell w (.cells #[.int .i64 m.size, rv, .slice (some ⟨b, off, none⟩) N c] 51) b (off + i * 3) hb0).trans c0
    replace c1 := (old_cell w (.cells #[.int .i64 m.size, rv, .slice (some ⟨b, off, none⟩) N c] 51) b (off + i * 3 + 1) hb0).trans c1
    replace c2 := (old_cell w (.cells #[.int .i64 m.size, rv, .slice (some ⟨b, off, none⟩) N c] 51) b (off + i * 3 + 2) hb0).trans c2
    have hp0 := hp.below b0
    generalize m.size = size at *
    have x1 := box_old (w.alloc (.cells #[.int .i64 size, rv, .slice (some ⟨b, off, none⟩) N c] 51)) (.cells #[.int .i64 f, .int .i64 ct, .slice pa pk.length pc] 111) x0
    have y1 := box_new (w.alloc (.cells #[.int .i64 size, rv, .slice (some ⟨b, off, none⟩) N c] 51)) #[.int .i64 f, .int .i64 ct, .slice pa pk.length pc] 111
    have d1 : Below (w.alloc (.cells #[.int .i64 size, rv, .slice (some ⟨b, off, none⟩) N c] 51)).heap.size (w.alloc (.cells #[.int .i64 size, rv, .slice (some ⟨b, off, none⟩) N c] 51)) ((w.alloc (.cells #[.int .i64 size, rv, .slice (some ⟨b, off, none⟩) N c] 51)).alloc (.cells #[.int .i64 f, .int .i64 ct, .slice pa pk.length pc] 111)) := (Below.refl _ _).alloc (Nat.le_refl _) _
    have hp1' := hp0.below d1
    have b1 := b0.trans (d1.mono b0.size)
    have hF := segFits_any f ct i size (.slice pa pk.length pc) pk ((w.alloc (.cells #[.int .i64 size, rv, .slice (some ⟨b, off, none⟩) N c] 51)).alloc (.cells #[.int .i64 f, .int .i64 ct, .slice pa pk.length pc] 111)) hj3
    have e1 : (w.alloc (.cells #[.int .i64 size, rv, .slice (some ⟨b, off, none⟩) N c] 51)).heap.size = w.heap.size + 1 := by simp
    rw [e1] at y1
    obtain ⟨z0, z1, z2, -, -, -⟩ := box_three x1
    obtain ⟨t0, t1, t2, -, -, -⟩ := box_three y1
    clear x0 e1 d1 hp0
    go_enter Tryz.func72, Tryz.ntmps72
    go_wp2_with fail
    generalize (w.alloc (.cells #[.int .i64 size, rv, .slice (some ⟨b, off, none⟩) N c] 51)).alloc (.cells #[.int .i64 f, .int .i64 ct, .slice pa pk.length pc] 111) = w1 at *
    refine hF.mono ?_
    rintro e w2 ⟨rfl, hb2⟩
    have b2 := b1.trans (hb2.mono b1.size)
    obtain ⟨t0', t1', t2', -, -, -⟩ := box_three (box_kept y1 hb2)
    have hp2' := hp1'.below hb2
    have y2 := box_kept y1 hb2
    clear hF c0 c1 c2 u0 u1 u2 z0 z1 z2 t0 t1 t2 x1 y1
    cases hfit : fitB size (i : Int) ⟨f, ct, pk⟩ with
    | false =>
      have HE2 : Hid (segmentL m (i : Int) = ([], 7)) := by show _ = _; rw [HE.out, if_pos hfit]
      clear HE hfit
      go_wp2_with fail
      exact bodyPost_ret (v := .tuple #[.slice none 0 0, .int .i64 7]) (by simp [results, Tryz.results72, go_sem]) rfl ⟨none, 0, 0, by rw [HE2.out], by rw [HE2.out]; exact laid_nil _, b2⟩
    | true =>
      have hft := fitB_iff.1 hfit
      dsimp only at hft
      have HE2 : Hid (segmentL m (i : Int) = readSeg ⟨f, ct, pk⟩) := by show _ = _; rw [HE.out, if_neg (by rw [hfit]; decide)]
      obtain ⟨cnt, rfl⟩ : ∃ cnt : Nat, ct = (cnt : Int) := ⟨ct.toNat, by omega⟩
      have hc8 : cnt ≤ 8 := by omega
      have hU := hUn pk _ w2 hp2' ⟨_, _, rfl, hp1, hp2⟩
      have hub := unpack_bytes hp2'.bytes
      have hul := unpack_len pk
      have HR : Hid (readSeg ⟨f, (cnt : Int), pk⟩ = if (unpackL pk).2 ≠ 0 then ([], (unpackL pk).2) else match takeL cnt (unpackL pk).1 with | none => ([], 2) | some l => (l, 0)) := by show _ = _; unfold readSeg; dsimp only; rw [Int.toNat_natCast]; rfl
      clear HE hfit hft
      generalize unpackL pk = U at *
      obtain ⟨T, ue⟩ := U
      dsimp only at hU hub hul HR
      go_wp2_with fail
      refine hU.mono ?_
      rintro e w3 ⟨tv, rfl, hT, hb3⟩
      have b3 := b2.trans (hb3.mono b2.size)
      obtain ⟨t0'', t1'', t2'', -, -, -⟩ := box_three (box_kept y2 hb3)
      clear hU t0' t1' t2' y2
      by_cases hue : ue = 0
      · subst hue
        have hRd := readEntries_any T hub hul cnt hc8 tv w3 hT
        have HR2 : Hid (segmentL m (i : Int) = match takeL cnt T with | none => ([], 2) | some l => (l, 0)) := by show _ = _; rw [HE2.out, HR.out, if_neg (fun h => h rfl)]
        obtain ⟨ta, tc, rfl⟩ := hT.1.form
        clear HE2 HR hub hT
        go_wp2_with fail
        refine hRd.mono ?_
        rintro e w4 ⟨v, rfl, hok, hb4⟩
        have b4 := b3.trans (hb4.mono b3.size)
        clear hRd
        cases htk : takeL cnt T with
        | none =>
          rw [htk] at hok HR2
          have HR3 : Hid (segmentL m (i : Int) = ([], 2)) := HR2.out
          clear HR2 htk hok
          dsimp only [Option.isSome]
          go_wp2_with fail
          exact bodyPost_ret (v := .tuple #[.slice none 0 0, .int .i64 2]) (by simp [results, Tryz.results72, go_sem]) rfl ⟨none, 0, 0, by rw [HR3.out], by rw [HR3.out]; exact laid_nil _, b4⟩
        | some l =>
          rw [htk] at hok HR2
          have HR3 : Hid (segmentL m (i : Int) = (l, 0)) := HR2.out
          obtain ⟨xa, xn, xc, rfl, hl⟩ := hok l rfl
          clear HR2 htk hok
          dsimp only [Option.isSome]
          go_wp2_with fail
          exact bodyPost_ret (v := .tuple #[.slice xa xn xc, .int .i64 0]) (by simp [results, Tryz.results72, go_sem]) rfl ⟨xa, xn, xc, by rw [HR3.out], by rw [HR3.out]; exact hl, b4⟩
      · have hue' : (ue != 0) = true := by simpa using hue
        have HR2 : Hid (segmentL m (i : Int) = ([], ue)) := by show _ = _; rw [HE2.out, HR.out, if_pos hue]
        clear HE2 HR hub hT hue
        go_wp2_with fail
        exact bodyPost_ret (v := .tuple #[.slice none 0 0, .int .i64 ue]) (by simp [results, Tryz.results72, go_sem]) rfl ⟨none, 0, 0, by rw [HR2.out], by rw [HR2.out]; exact laid_nil _, b3⟩

end Go.Proofs.YtkjlchfmplcobagGreatDoor

/- The walks of root, Wrong and Root. -/
namespace Go.Proofs.YtkjlchfmplcobagGreatDoor
open Go.RowKit

theorem of_left (b off n c k : Nat) (w : World) (hk : 0 < k) (hkn : k ≤ n) (hnc : n ≤ c) :
    Calls Tryz.prog 74 #[partV 0 k, .slice (some ⟨b, off, none⟩) n c] w fun r w' => r = .returned (.slice (some ⟨b, off, none⟩) k c) ∧ Below w.heap.size w w' := of_any 0 k b off n c w hk hkn hnc
theorem some_own {w : World} {base : Nat} {x : Value} {d : List Int} (h : w.ownsRow base 5 1 x 32 (d.map (Value.int .u8))) (hb : Bytes d) : Some' w x d :=
  ⟨bytesAt_own h, hb, by have := h.1; simp at this; rw [this]; unfold maxLen; omega⟩

set_option maxRecDepth 100000 in
set_option maxHeartbeats 1000000 in
theorem treeRoot_any (n : Nat) : ∀ (L : List (List Int)) (a : Option Addr) (c : Nat) (w : World), Ready w → n ≤ 100 → Leaves w a n c L →
    Calls Tryz.prog 54 #[.slice a n c] w fun e w' => ∃ x, e = .returned x ∧ w'.ownsRow w.heap.size 5 1 x 32 ((mth L).map (Value.int .u8)) ∧ Below w.heap.size w w' := by
  induction n using Nat.strongRecOn with
  | ind n ih =>
    intro L a c w hr hm hv
    have hcm := hv.cap
    have hnc := hv.room
    unfold maxLen at hcm
    by_cases h0 : n = 0
    · subst h0
      rw [mth_nil hv.len]
      have hS := sum_any [] (.slice none 0 0) w (bytesAt_nil w) (by simp) nil_bytes hr.tab hr.big
      clear ih hv
      go_enter Tryz.func54, Tryz.ntmps54
      go_wp2_with fail
      refine hS.mono ?_
      rintro e w1 ⟨x, rfl, ho, hb⟩
      go_wp2_with fail
      go_ret
      exact ⟨_, rfl, ho, hb⟩
    by_cases h1 : n = 1
    · subst h1
      rw [mth_one hv.len]
      obtain ⟨a0, c0, e0, hcell⟩ := hv.at'.form
      rw [hv.len] at e0
      cases e0
      obtain ⟨b, off, rfl, hb0, hcl⟩ := hcell.resolve_left (by have := hv.len; omega)
      obtain ⟨pa, pc, hc0, hB0⟩ := hcl 0 (by have := hv.len; omega)
      rw [Nat.add_zero] at hc0
      have hl0 := hv.short 0
      have hL := leafC_holds (L.getD 0 []) _ w hr ⟨hB0, hv.bytes 0, by unfold maxLen; omega⟩ (by omega)
      clear hcell hcl hv ih hB0
      generalize leafL (L.getD 0 []) = D at *
      generalize (L.getD 0 []).length = z at *
      go_enter Tryz.func54, Tryz.ntmps54
      go_wp2_with fail
      refine hL.mono ?_
      rintro e w1 ⟨x, rfl, ho, hb⟩
      go_wp2_with fail
      go_ret
      exact ⟨_, rfl, ho, hb⟩
    · have hs := splitN_spec (n := n) (by omega)
      have HM : Hid (mth L = nodeL (mth (L.take (splitN n))) (mth (L.drop (splitN n)))) := by
        have h := mth_more (ls := L) (by rw [hv.len]; omega)
        rw [hv.len] at h
        exact h
      obtain ⟨b, off, rfl⟩ := hv.addr (by omega)
      have hsp := splitP_any 0 n w (by omega) hm
      rw [Nat.sub_zero, Nat.zero_add] at hsp
      obtain ⟨k, hk⟩ : ∃ k, splitN n = k := ⟨_, rfl⟩
      rw [hk] at hs HM hsp
      clear hk
      have c1 : ∀ w1, Below w.heap.size w w1 → _ := fun w1 hb => ih k (by omega) (L.take k) (some ⟨b, off, none⟩) c w1 (hr.below hb) (by omega) ((hv.take (k := k) (by omega) (by omega)).below hb)
      have c2 : ∀ w1, Below w.heap.size w w1 → _ := fun w1 hb => ih (n - k) (by omega) (L.drop k) (some ⟨b, off + k, none⟩) (c - k) w1 (hr.below hb) (by omega) ((hv.drop (k := k) (by omega) (by omega)).below hb)
      have f1 : ∀ w1, _ := fun w1 => of_left b off n c k w1 (by omega) (by omega) hnc
      have f2 : ∀ w1, _ := fun w1 => of_any k n b off n c w1 (by omega) (by omega) hnc
      have HB1 : Hid (Bytes (mth (L.take k)) ∧ (mth (L.take k)).length = 32) := ⟨bytes_mth _, mth_length _⟩
      have HB2 : Hid (Bytes (mth (L.drop k)) ∧ (mth (L.drop k)).length = 32) := ⟨bytes_mth _, mth_length _⟩
      clear hv ih
      generalize mth (L.take k) = M1 at *
      generalize mth (L.drop k) = M2 at *
      rw [HM.out]
      clear HM
      have l1 := HB1.out.2
      have l2 := HB2.out.2
      have i1 : (n : Int) ≠ 0 := by omega
      have i2 : (n : Int) ≠ 1 := by omega
      go_enter Tryz.func54, Tryz.ntmps54
      go_wp2_with fail
      refine hsp.mono ?_
      rintro e w1 ⟨rfl, hb1⟩
      go_wp2_with fail
      have hs1 := hb1.size
      have hbW : Below w.heap.size w ((w1.alloc (.cells #[.int .i64 0, .int .i64 k] 118)).alloc (.cells #[.int .i64 k, .int .i64 n] 118)) := (hb1.alloc hb1.size _).alloc (by simp; omega) _
      obtain ⟨z0, z1, z2, z3, hz, hz'⟩ : ∃ z0 : ((w1.alloc (.cells #[.int .i64 0, .int .i64 k] 118)).alloc (.cells #[.int .i64 k, .int .i64 n] 118)).cell? ⟨w1.heap.size, 0, none⟩ = some (.int .i64 0), ((w1.alloc (.cells #[.int .i64 0, .int .i64 k] 118)).alloc (.cells #[.int .i64 k, .int .i64 n] 118)).cell? ⟨w1.heap.size, 1, none⟩ = some (.int .i64 k) ∧ ((w1.alloc (.cells #[.int .i64 0, .int .i64 k] 118)).alloc (.cells #[.int .i64 k, .int .i64 n] 118)).cell? ⟨w1.heap.size + 1, 0, none⟩ = some (.int .i64 k) ∧ ((w1.alloc (.cells #[.int .i64 0, .int .i64 k] 118)).alloc (.cells #[.int .i64 k, .int .i64 n] 118)).cell? ⟨w1.heap.size + 1, 1, none⟩ = some (.int .i64 n) ∧ w1.heap.size < ((w1.alloc (.cells #[.int .i64 0, .int .i64 k] 118)).alloc (.cells #[.int .i64 k, .int .i64 n] 118)).heap.size ∧ w1.heap.size + 1 < ((w1.alloc (.cells #[.int .i64 0, .int .i64 k] 118)).alloc (.cells #[.int .i64 k, .int .i64 n] 118)).heap.size := ⟨by simp, by simp, by simp, by simp, by simp; omega, by simp⟩
      generalize ((w1.alloc (.cells #[.int .i64 0, .int .i64 k] 118)).alloc (.cells #[.int .i64 k, .int .i64 n] 118)) = W at *
      generalize w1.heap.size = q0 at *
      have k0 : ∀ w', Below W.heap.size W w' → w'.cell? ⟨q0, 0, none⟩ = some (.int .i64 0) ∧ w'.cell? ⟨q0, 1, none⟩ = some (.int .i64 k) ∧ w'.cell? ⟨q0 + 1, 0, none⟩ = some (.int .i64 k) ∧ w'.cell? ⟨q0 + 1, 1, none⟩ = some (.int .i64 n) := fun w' h =>
        ⟨(h.cell (p := ⟨q0, 0, none⟩) hz).trans z0, (h.cell (p := ⟨q0, 1, none⟩) hz).trans z1, (h.cell (p := ⟨q0 + 1, 0, none⟩) hz').trans z2, (h.cell (p := ⟨q0 + 1, 1, none⟩) hz').trans z3⟩
      have hsW := hbW.size
      clear hb1 hs1
      go_region_held3 (fun w' => w'.cell? ⟨q0, 0, none⟩ = some (.int .i64 0) ∧ w'.cell? ⟨q0, 1, none⟩ = some (.int .i64 k) ∧ w'.cell? ⟨q0 + 1, 0, none⟩ = some (.int .i64 k) ∧ w'.cell? ⟨q0 + 1, 1, none⟩ = some (.int .i64 n))
        (first | exact ⟨z0, z1, z2, z3⟩ | exact k0 _ b1 | exact k0 _ b2 | exact k0 _ b3 | exact k0 _ b4 | exact k0 _ b5)
        (first
          | (go_at_call_of 74 (Value.int IntKind.i64 (n : Int)); refine (f2 _).mono ?_; rintro e w4 ⟨rfl, hb4⟩; have b3 := b2.trans (hb4.mono b2.size); obtain ⟨y30, y31, y32, y33⟩ := k0 _ b3)
          | (go_at_call 74; refine (f1 _).mono ?_; rintro e w2 ⟨rfl, hb2⟩; have b1 := (Below.refl _ _).drew.trans hb2; obtain ⟨y10, y11, y12, y13⟩ := k0 _ b1)
          | (go_at_call_of 54 (Value.slice (some ⟨b, off, none⟩) k c); refine (c1 _ (hbW.trans (b1.mono hsW))).mono ?_; rintro e w3 ⟨x3, rfl, ho3, hb3⟩; have b2 := b1.trans (hb3.mono b1.size); obtain ⟨y20, y21, y22, y23⟩ := k0 _ b2)
          | (go_at_call_of 54 (Value.slice (some ⟨b, off + k, none⟩) (n - k) (c - k)); refine (c2 _ (hbW.trans (b3.mono hsW))).mono ?_; rintro e w5 ⟨x5, rfl, ho5, hb5⟩; have b4 := b3.trans (hb5.mono b3.size); obtain ⟨y40, y41, y42, y43⟩ := k0 _ b4)
          | (go_at_call 62; refine (nodeC_holds M1 M2 x3 x5 w5 (hr.below (hbW.trans (b4.mono hsW))) ((some_own (own_below ho3 hb4 (Nat.le_refl _)) HB1.out.1).below hb5) (some_own ho5 HB2.out.1) (by omega)).mono ?_; rintro e w6 ⟨x6, rfl, ho6, hb6⟩; have b5 := b4.trans (hb6.mono b4.size); obtain ⟨y50, y51, y52, y53⟩ := k0 _ b5))
      have bF := hbW.trans (b5.mono hsW)
      have hs5 := b4.size
      go_wp2_with fail
      go_ret
      exact ⟨_, rfl, ownsRow_base ho6 (by omega), bF⟩

set_option maxRecDepth 100000 in
set_option maxHeartbeats 1000000 in
theorem wrong_any (L : List (List Int)) (v : Value) (w : World) (hv : PartsAt w v L) (hm : L.length ≤ maxLen) (hs : ∀ j, (L.getD j []).length ≤ maxLen) :
    Calls Tryz.prog 49 #[v] w fun e w' => e = .returned (.agg #[.int .i64 (wrongL L).1, .int .i64 (wrongL L).2]) ∧ Below w.heap.size w w' := by
  obtain ⟨a0, c0, rfl, hcell⟩ := hv.form
  unfold maxLen at hm
  by_cases h100 : 100 < L.length
  · have HW : wrongL L = (5, 0) := if_pos h100
    rw [HW]
    have i1 : (100 : Int) < (L.length : Int) := by omega
    go_enter Tryz.func49, Tryz.ntmps49
    go_wp2
    exact bodyPost_ret (v := .agg #[.int .i64 5, .int .i64 0]) (by simp [results, Tryz.results49, go_sem]) rfl ⟨rfl, (Below.refl _ _).alloc (Nat.le_refl _) _⟩
  · have HW : wrongL L = wrongFrom L 0 := if_neg h100
    rw [HW]
    clear HW
    have i1 : ¬ (100 : Int) < (L.length : Int) := by omega
    go_enter Tryz.func49, Tryz.ntmps49
    go_wp2
    go_loop [11] (fun i => ∃ k : Nat, k ≤ L.length ∧ i = .int .i64 k ∧ Hid (∀ j, j < k → (L.getD j []).length ≤ 200)) (fun i => L.length - (intOf i).toNat)
    case atStart => exact ⟨0, Nat.zero_le _, rfl, fun j hj => absurd hj (Nat.not_lt_zero _)⟩
    case round =>
      obtain ⟨k, hk, rfl, HG⟩ := hrel
      by_cases hlt : k < L.length
      · obtain ⟨b, off, rfl, hb, hc⟩ := hcell.resolve_left (by omega)
        obtain ⟨pa, pc, hcj, -⟩ := hc k hlt
        have hcj' : (w.alloc (.cells #[.int .i64 0, .int .i64 0] 32)).cell? ⟨b, off + k, none⟩ = some (.slice pa (L.getD k []).length pc) := by rw [old_cell _ _ _ _ hb]; exact hcj
        have hl := hs k
        unfold maxLen at hl
        have HB : Hid (200 < (L.getD k []).length → wrongFrom L 0 = (4, ((0 + k : Nat) : Int))) := wrong_at 0 hlt HG.out
        have HN : Hid ((L.getD k []).length ≤ 200 → ∀ j, j < k + 1 → (L.getD j []).length ≤ 200) := fun h j hj => by
          by_cases e : j = k
          · rw [e]; exact h
          · exact HG.out j (by omega)
        clear hcell hc hv HG hs hcj
        generalize (L.getD k []).length = m at *
        have i2 : (k : Int) < (L.length : Int) := by omega
        by_cases h200 : 200 < m
        · have HB' := HB.out h200
          rw [Nat.zero_add] at HB'
          have HBB : Hid (wrongFrom L 0 = (4, (k : Int))) := HB'
          clear HN HB HB'
          have i3 : (200 : Int) < (m : Int) := by omega
          go_wp2
          refine bodyPost_ret (v := .agg #[.int .i64 4, .int .i64 k]) (by simp [results, Tryz.results49, go_sem]) rfl ⟨by rw [HBB.out], (Below.refl _ _).alloc (Nat.le_refl _) _⟩
        · have HN' : Hid (∀ j, j < k + 1 → (L.getD j []).length ≤ 200) := HN.out (by omega)
          clear HN HB
          have i3 : ¬ (200 : Int) < (m : Int) := by omega
          go_wp2
          go_round
          case rel => exact ⟨k + 1, by omega, by go_num, HN'⟩
          case measure => simp [intOf]; omega
      · obtain rfl : k = L.length := by omega
        have HA : Hid (wrongFrom L 0 = (0, 0)) := wrong_none 0 HG.out
        clear HG
        go_wp2
        exact bodyPost_ret (v := .agg #[.int .i64 0, .int .i64 0]) (by simp [results, Tryz.results49, go_sem]) rfl ⟨by rw [HA.out], (Below.refl _ _).alloc (Nat.le_refl _) _⟩

theorem wrongC_holds : WrongC := fun L a n c w h => wrong_any L _ w (by have := h.at'; rw [← h.len] at this ⊢; exact this) (by have := h.room; have := h.cap; rw [h.len]; omega) h.short

theorem wrongFrom_no (L : List (List Int)) : ∀ q, (wrongFrom L q).1 = 0 → wrongFrom L q = (0, 0) ∧ ∀ x ∈ L, x.length ≤ 200 := by
  induction L with
  | nil => intro q _; exact ⟨rfl, fun x hx => by cases hx⟩
  | cons b l ih =>
    intro q h
    unfold wrongFrom at h ⊢
    by_cases hb : 200 < b.length
    · rw [if_pos hb] at h; cases h
    · rw [if_neg hb] at h ⊢
      obtain ⟨h1, h2⟩ := ih _ h
      refine ⟨h1, fun x hx => ?_⟩
      rcases List.mem_cons.1 hx with rfl | h'
      · omega
      · exact h2 x h'
/-- Leaves with which nothing is wrong. -/
theorem leaves_of {w : World} {a : Option Addr} {n c : Nat} {L : List (List Int)} (h : Lists w a n c L) (hw : (wrongL L).1 = 0) : Leaves w a n c L ∧ n ≤ 100 ∧ wrongL L = (0, 0) := by
  unfold wrongL at hw ⊢
  by_cases h1 : 100 < L.length
  · rw [if_pos h1] at hw; cases hw
  · rw [if_neg h1] at hw ⊢
    obtain ⟨h2, h3⟩ := wrongFrom_no L 0 hw
    exact ⟨⟨h.len, h.at', h.room, h.cap, h.bytes, fun j => by have := short_mem h3 j; omega⟩, by rw [← h.len]; omega, h2⟩
set_option maxRecDepth 100000 in
set_option maxHeartbeats 1000000 in
theorem rootC_holds : RootC := by
  intro L a n c w hr hL
  have b0 : Below w.heap.size w (w.alloc (.cells #[.int .i64 0, .int .i64 0] 32)) := (Below.refl _ _).alloc (Nat.le_refl _) _
  have hW := wrongC_holds L a n c _ (hL.below b0)
  by_cases h0 : (wrongL L).1 = 0
  · obtain ⟨hv, hn, he⟩ := leaves_of hL h0
    have hR := fun w' (h : Below w.heap.size w w') => treeRoot_any n L a c w' (hr.below h) hn (hv.below h)
    rw [he] at hW ⊢
    clear h0 he hL hv hr
    go_enter Tryz.func37, Tryz.ntmps37
    go_wp2_with fail
    refine hW.mono ?_
    rintro e w1 ⟨rfl, hb1⟩
    have b1 : Below w.heap.size w w1 := b0.trans (hb1.mono b0.size)
    have b2 : Below w.heap.size w (w1.alloc (.cells #[.int .i64 0, .int .i64 0] 32)) := b1.alloc b1.size _
    go_wp2_with fail
    refine (hR _ b2).mono ?_
    rintro e w2 ⟨x, rfl, ho, hb3⟩
    have q2 := box_kept (box_old _ _ (box_kept (box_new w #[.int .i64 0, .int .i64 0] 32) hb1)) hb3
    obtain ⟨q20, q21, q22, q23⟩ := box_two q2
    have b3 := b2.trans (hb3.mono b2.size)
    have hs2 := b2.size
    have hs3 : w.heap.size < (w1.alloc (.cells #[.int .i64 0, .int .i64 0] 32)).heap.size := by have := b1.size; simp; omega
    obtain ⟨xa, xc, rfl⟩ := own_form' ho
    clear hW hR hb1 hb3 q2 b0 b1 b2
    go_wp2_with fail
    exact bodyPost_ret (v := .tuple #[.slice xa 32 xc, faultV (0, 0)]) (by simp [results, Tryz.results37, go_sem, q20, q21]) rfl ⟨xa, 32, xc, rfl, fun _ => ownsRow_base (ownsRow_setCell_below (ownsRow_setCell_below ho hs3 _) hs3 _) hs2, fun h => absurd rfl h, (b3.setCell (Nat.le_refl _) _).setCell (Nat.le_refl _) _⟩
  · have i1 : ((wrongL L).1 != 0) = true := by simpa using h0
    generalize wrongL L = p at *
    obtain ⟨x, y⟩ := p
    dsimp only at h0 i1 ⊢
    go_enter Tryz.func37, Tryz.ntmps37
    go_wp2_with fail
    refine hW.mono ?_
    rintro e w1 ⟨rfl, hb1⟩
    have b1 : Below w.heap.size w w1 := b0.trans (hb1.mono b0.size)
    obtain ⟨q20, q21, q22, q23⟩ := box_two (box_old w1 (.cells #[.int .i64 x, .int .i64 y] 32) (box_kept (box_new w #[.int .i64 0, .int .i64 0] 32) hb1))
    have b2 : Below w.heap.size w (w1.alloc (.cells #[.int .i64 x, .int .i64 y] 32)) := b1.alloc b1.size _
    go_wp2_with fail
    obtain ⟨p0, p1, -, -⟩ := box_two (box_new w1 #[.int .i64 x, .int .i64 y] 32)
    have n1 : w.heap.size ≠ w1.heap.size := by have := hb1.size; simp at this; omega
    generalize w1.alloc (.cells #[.int .i64 x, .int .i64 y] 32) = W at *
    generalize w1.heap.size = q1 at *
    go_region_held3 (fun w' => w'.cell? ⟨q1, 0, none⟩ = some (.int .i64 x) ∧ w'.cell? ⟨q1, 1, none⟩ = some (.int .i64 y)) (first | exact ⟨p0, p1⟩ | exact ⟨(World.cell?_setCell_far _ _ _ _ n1).trans ((World.cell?_setCell_far _ _ _ _ n1).trans p0), (World.cell?_setCell_far _ _ _ _ n1).trans ((World.cell?_setCell_far _ _ _ _ n1).trans p1)⟩) (fail)
    go_wp2_with fail
    exact bodyPost_ret (v := .tuple #[.slice none 0 0, faultV (x, y)]) (by simp [results, Tryz.results37, go_sem, q20, q21]) rfl ⟨none, 0, 0, rfl, fun h => absurd h h0, fun _ => rfl, ((b2.setCell (Nat.le_refl _) _).setCell (Nat.le_refl _) _).drew⟩

end Go.Proofs.YtkjlchfmplcobagGreatDoor

/- The library's slices.Chunk over tokens, by eights: what its iterator hands to a loop's body. -/
namespace Go.Proofs.YtkjlchfmplcobagGreatDoor
open Go.RowKit Go.Shelf

attribute [local go_sem] Oper.semAt_some

/-- Where an eight begins. -/
abbrev At8 (len : Nat) := { i : Nat // i < len ∧ i % 8 = 0 }
def cnt8 (len i : Nat) : Nat := min 8 (len - i)
@[reducible] def enc8 (b off len : Nat) (x : At8 len) : Array Value := #[.slice (some ⟨b, off + x.1 * 3, none⟩) (cnt8 len x.1) (cnt8 len x.1)]
def to8 (len : Nat) (k : Nat) (pre : List (At8 len)) : Prop := pre.map (·.1) = (List.range k).map fun q => 8 * q
theorem to8_snoc {len k : Nat} {pre : List (At8 len)} (h : to8 len k pre) (x : At8 len) (hx : x.1 = 8 * k) : to8 len (k + 1) (pre ++ [x]) := by
  unfold to8 at *
  rw [List.map_append, h, List.range_succ, List.map_append]
  simp [hx]
/-- The two boxes of the iterator lie as they lay. -/
def KeepsTwo (Bs Bn : Nat) (W W' : World) : Prop := W'.cell? ⟨Bs, 0, none⟩ = W.cell? ⟨Bs, 0, none⟩ ∧ W'.cell? ⟨Bn, 0, none⟩ = W.cell? ⟨Bn, 0, none⟩
theorem KeepsTwo.refl (Bs Bn : Nat) (W : World) : KeepsTwo Bs Bn W W := ⟨rfl, rfl⟩
theorem KeepsTwo.trans {Bs Bn : Nat} {A B C : World} (h : KeepsTwo Bs Bn A B) (k : KeepsTwo Bs Bn B C) : KeepsTwo Bs Bn A C := ⟨k.1.trans h.1, k.2.trans h.2⟩
theorem to8_length {len k : Nat} {pre : List (At8 len)} (h : to8 len k pre) : pre.length = k := by
  have := congrArg List.length h
  simpa using this

set_option maxRecDepth 100000 in
set_option maxHeartbeats 4000000 in
theorem chunk1_in (n : Nat) (hn : 1 ≤ n) (l Bs Bn b off len cap : Nat) (hlen : len ≤ cap) (hcap : len ≤ 4611686018427387904) (J Jx : List (At8 len) → World → Prop)
    (hY : ∀ pre x W, J pre W → pre.length < (len + 7) / 8 → YieldAt Fence.wide (n - 1) Tryz.prog l (enc8 b off len x) W fun e W' =>
      (e = .returned (.bool true) ∧ J (pre ++ [x]) W' ∧ KeepsTwo Bs Bn W W') ∨ (e = .returned (.bool false) ∧ Jx (pre ++ [x]) W'))
    (hdr : ∀ pre W q, J pre W → J pre (W.drewN q))
    (W : World) (hBs : W.cell? ⟨Bs, 0, none⟩ = some (.slice (some ⟨b, off, none⟩) len cap)) (hBn : W.cell? ⟨Bn, 0, none⟩ = some (.int .i64 8)) (h0 : J [] W) :
    CallsIn Fence.wide n Tryz.prog 115 #[.func (.yield l) #[] #[], .pointer (some ⟨Bs, 0, none⟩), .pointer (some ⟨Bn, 0, none⟩)] W fun e W' => (∃ v, e = .returned v) ∧
      ((∃ ys, to8 len ((len + 7) / 8) ys ∧ J ys W') ∨ (∃ pre, True ∧ Jx pre W')) := by
  refine callsIn_of_wp Tryz.func115 rfl trivial ?_ rfl
  simp only [Tryz.ntmps115, List.size_toArray, List.length_cons, List.length_nil, Nat.reduceAdd, Nat.reduceSub, Array.replicate_succ, Array.replicate_zero, List.push_toArray, List.append_toArray, List.nil_append, List.cons_append]
  gi_wp2
  gi_loopw [4] (fun i wr => ∃ (k : Nat) (pre : List (At8 len)), 8 * k ≤ len + 7 ∧ i = .int .i64 ((8 * k : Nat) : Int) ∧ to8 len k pre ∧ J pre wr ∧ KeepsTwo Bs Bn W wr)
    (fun i _ => len + 8 - (intOf i).toNat)
  case atStart => exact ⟨0, [], by omega, rfl, rfl, h0, KeepsTwo.refl _ _ _⟩
  case round =>
    obtain ⟨k, pre, hk, rfl, hto, hJs, hnx⟩ := hrel
    have e1 := hnx.1.trans hBs
    have e2 := hnx.2.trans hBn
    by_cases hlt : 8 * k < len
    · have j1 : ((8 * k : Nat) : Int) < len := by omega
      obtain ⟨i, hi⟩ : ∃ i, i = 8 * k := ⟨_, rfl⟩
      have HI : Hid (i = 8 * k) := hi
      rw [← hi] at j1 ⊢
      have hil : i < len := by omega
      have hi8 : i % 8 = 0 := by omega
      clear hi
      have j2 : (i : Int) ≤ len := by omega
      have j3 : (i : Int) ≤ cap := by omega
      rcases (show ((len : Int) - i < 8 ∧ cnt8 len i = len - i) ∨ (¬ (len : Int) - i < 8 ∧ cnt8 len i = 8) by unfold cnt8; omega) with ⟨j4, j5⟩ | ⟨j4, j5⟩
      · have HC : Hid (cnt8 len i = len - i) := j5
        clear j5
        gi_wp2
        gi_quiet (fail)
        have e3 : (wr.drewN nq).cell? ⟨Bs, 0, none⟩ = some (.slice (some ⟨b, off, none⟩) len cap) := e1
        have e4 : (wr.drewN nq).cell? ⟨Bn, 0, none⟩ = some (.int .i64 8) := e2
        have hJd := hdr pre wr nq hJs
        have hbd : KeepsTwo Bs Bn W (wr.drewN nq) := hnx
        generalize wr.drewN nq = wd at *
        obtain ⟨fn, tmps, assign, body, hy, hR⟩ := hY pre ⟨i, hil, hi8⟩ wd hJd (by rw [to8_length hto]; omega)
        simp only [enc8] at hy
        rw [HC.out] at hy
        have w1 : IntKind.i64.wrap ((i : Int) + ((len - i : Nat) : Int)) = len := by rw [IntKind.wrap_i64]; omega
        have w2 : (i : Int) + ((len - i : Nat) : Int) = len := by omega
        gi_wp2
        refine hR.mono ?_
        rintro e W3 (⟨rfl, hJ3, hk3⟩ | ⟨rfl, hJx3⟩)
        · have e5 := hk3.2.trans e4
          gi_wp2
          go_roundw
          case rel => exact ⟨k + 1, pre ++ [⟨i, hil, hi8⟩], by omega, by (congr 1; have := HI.out; omega), to8_snoc hto _ HI.out, hJ3, hbd.trans hk3⟩
          case measure => simp [intOf]; omega
        · gi_wp2
          refine bodyPost_ret (results_none rfl _ _ _) rfl ?_
          exact ⟨⟨_, rfl⟩, .inr ⟨_, trivial, hJx3⟩⟩
      · have HC : Hid (cnt8 len i = 8) := j5
        clear j5
        gi_wp2
        gi_quiet (fail)
        have e3 : (wr.drewN nq).cell? ⟨Bs, 0, none⟩ = some (.slice (some ⟨b, off, none⟩) len cap) := e1
        have e4 : (wr.drewN nq).cell? ⟨Bn, 0, none⟩ = some (.int .i64 8) := e2
        have hJd := hdr pre wr nq hJs
        have hbd : KeepsTwo Bs Bn W (wr.drewN nq) := hnx
        generalize wr.drewN nq = wd at *
        obtain ⟨fn, tmps, assign, body, hy, hR⟩ := hY pre ⟨i, hil, hi8⟩ wd hJd (by rw [to8_length hto]; omega)
        simp only [enc8] at hy
        rw [HC.out] at hy
        have j6 : (i : Int) + 8 ≤ cap := by omega
        gi_wp2
        refine hR.mono ?_
        rintro e W3 (⟨rfl, hJ3, hk3⟩ | ⟨rfl, hJx3⟩)
        · have e5 := hk3.2.trans e4
          gi_wp2
          go_roundw
          case rel => exact ⟨k + 1, pre ++ [⟨i, hil, hi8⟩], by omega, by (congr 1; have := HI.out; omega), to8_snoc hto _ HI.out, hJ3, hbd.trans hk3⟩
          case measure => simp [intOf]; omega
        · gi_wp2
          refine bodyPost_ret (results_none rfl _ _ _) rfl ?_
          exact ⟨⟨_, rfl⟩, .inr ⟨_, trivial, hJx3⟩⟩
    · have j1 : ¬ ((8 * k : Nat) : Int) < len := by omega
      have hkk : k = (len + 7) / 8 := by omega
      gi_wp2
      go_end0
      exact ⟨⟨_, rfl⟩, .inl ⟨pre, by rw [← hkk]; exact hto, hJs⟩⟩

set_option maxHeartbeats 2000000 in
theorem chunk1_nil (n l Bs Bn : Nat) (J : List (At8 0) → World → Prop) (a : Option Addr) (c : Nat) (W : World) (hBs : W.cell? ⟨Bs, 0, none⟩ = some (.slice a 0 c)) (h0 : J [] W) :
    CallsIn Fence.wide n Tryz.prog 115 #[.func (.yield l) #[] #[], .pointer (some ⟨Bs, 0, none⟩), .pointer (some ⟨Bn, 0, none⟩)] W fun e W' => (∃ v, e = .returned v) ∧ J [] W' := by
  refine callsIn_of_wp Tryz.func115 rfl trivial ?_ rfl
  simp only [Tryz.ntmps115, List.size_toArray, List.length_cons, List.length_nil, Nat.reduceAdd, Nat.reduceSub, Array.replicate_succ, Array.replicate_zero, List.push_toArray, List.append_toArray, List.nil_append, List.cons_append]
  gi_wp2
  gi_loopw [4] (fun i wr => i = .int .i64 0 ∧ wr.cell? ⟨Bs, 0, none⟩ = some (.slice a 0 c) ∧ J [] wr) (fun _ _ => 0)
  case atStart => exact ⟨rfl, hBs, h0⟩
  case round =>
    obtain ⟨rfl, hc, hJs⟩ := hrel
    gi_wp2
    go_end0
    exact ⟨⟨_, rfl⟩, hJs⟩
set_option maxHeartbeats 2000000 in
/-- slices.Chunk(l, 8): the list and the eight lie in two boxes. -/
theorem chunk_in (n : Nat) (a : Option Addr) (len cap : Nat) (w : World) :
    CallsIn Fence.wide n Tryz.prog 105 #[.slice a len cap, .int .i64 8] w fun e w' => e = .returned (.func (.func 115) #[] #[.pointer (some ⟨w.heap.size, 0, none⟩), .pointer (some ⟨w.heap.size + 1, 0, none⟩)]) ∧ w' = (w.alloc (.cells #[.slice a len cap] 158)).alloc (.cells #[.int .i64 8] 3) := by
  refine callsIn_of_wp Tryz.func105 rfl trivial ?_ rfl
  simp only [Tryz.ntmps105, List.size_toArray, List.length_cons, List.length_nil, Nat.reduceAdd, Nat.reduceSub, Array.replicate_succ, Array.replicate_zero, List.push_toArray, List.append_toArray, List.nil_append, List.cons_append]
  gi_wp2
  go_ret
  exact ⟨rfl, rfl⟩
theorem drewN_grown (W : World) (q : Nat) : W.grownBy (W.drewN q) none := ⟨rfl, rfl, rfl, Nat.le_refl _, fun _ _ _ => rfl⟩
theorem keepsTwo_b {Bs Bn : Nat} {w : World} (hs : Bs < w.heap.size) (hn : Bn < w.heap.size) (W : World) (l : Nat) (o o' : Obj) (hl : w.heap.size ≤ l) (_ : W.heap[l]? = some o) (_ : o.isCells = false) (_ : o.isWalk = false) : KeepsTwo Bs Bn W (W.putObj l o') := by
  have h : ∀ j, j ≠ l → (W.putObj l o').cell? ⟨j, 0, none⟩ = W.cell? ⟨j, 0, none⟩ := fun j hj => by
    have : (W.putObj l o').heap[j]? = W.heap[j]? := World.putObj_heap_other hj
    simp [World.cell?, this]
  exact ⟨h Bs (by omega), h Bn (by omega)⟩
theorem chunk_stops (n : Nat) (hn : 1 ≤ n) (Bs Bn b off len cap : Nat) (hlen : len ≤ cap) (hcap : len ≤ 4611686018427387904) (w : World) (hBs0 : Bs < w.heap.size) (hBn0 : Bn < w.heap.size)
    (hs : w.cell? ⟨Bs, 0, none⟩ = some (.slice (some ⟨b, off, none⟩) len cap)) (h8 : w.cell? ⟨Bn, 0, none⟩ = some (.int .i64 8)) :
    SeqStopsK Fence.wide n Tryz.prog 115 #[.pointer (some ⟨Bs, 0, none⟩), .pointer (some ⟨Bn, 0, none⟩)] (enc8 b off len) (KeepsTwo Bs Bn) (to8 len ((len + 7) / 8)) (fun _ => True) ((len + 7) / 8) w := fun l J Jx W hW hJ _ hY h0 =>
  chunk1_in n hn l Bs Bn b off len cap hlen hcap J Jx hY (fun pre W' q h => hJ pre W' _ none h (drewN_grown W' q) (fun r e => by cases e)) W ((hW.cell (p := ⟨Bs, 0, none⟩) hBs0).trans hs) ((hW.cell (p := ⟨Bn, 0, none⟩) hBn0).trans h8) h0
theorem chunk_stops_nil (n : Nat) (Bs Bn b off : Nat) (a : Option Addr) (c : Nat) (w : World) (hBs0 : Bs < w.heap.size)
    (hs : w.cell? ⟨Bs, 0, none⟩ = some (.slice a 0 c)) :
    SeqStopsK Fence.wide n Tryz.prog 115 #[.pointer (some ⟨Bs, 0, none⟩), .pointer (some ⟨Bn, 0, none⟩)] (enc8 b off 0) (KeepsTwo Bs Bn) (to8 0 ((0 + 7) / 8)) (fun _ => True) ((0 + 7) / 8) w := fun l J _ W hW _ _ _ h0 =>
  (chunk1_nil n l Bs Bn J a c W ((hW.cell (p := ⟨Bs, 0, none⟩) hBs0).trans hs) h0).mono fun _ _ ⟨he, hj⟩ => ⟨he, .inl ⟨[], rfl, hj⟩⟩

end Go.Proofs.YtkjlchfmplcobagGreatDoor
