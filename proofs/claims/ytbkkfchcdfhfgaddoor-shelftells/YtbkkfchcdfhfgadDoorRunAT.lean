/- TreeGoShow, ShelfGoEntry, ShelfRefEntry, as one text. -/
import Derived.Test.YtbkkfchcdfhfgadDoorProg
import Derived.Test.YtbkkfchcdfhfgadDoorRunAS
import Derived.WalkKit
import Derived.WalkSpells
import Derived.WalkLawsBesides
import Derived.Laws.BytesArg
import Derived.Shelf.Bytes.SlSmallAll
import Derived.Deep.RegionHeld3
import Derived.BigRegion
import Derived.Test.YtbkkfchcdfhfgadDoorRunAP
import Derived.Deep.QuietTactic
import Derived.BigQuiet
/- The walks of bytes.Equal, fits and along. -/
namespace Go.Proofs.YtbkkfchcdfhfgadDoor
open Go.RowKit

set_option maxRecDepth 100000 in
theorem equal_any (xs ys : List Int) (v1 v2 : Value) (w : World) (h1 : BytesAt w v1 xs) (h2 : BytesAt w v2 ys) (hx : Bytes xs) (hy : Bytes ys) :
    Calls Tryd.prog 37 #[v1, v2] w fun e w' => e = .returned (.bool (decide (xs = ys))) ∧ w' = w := by
  have g1 := h1.conv
  have g2 := h2.conv
  have HQ : Hid (((strOfNums xs).toList == (strOfNums ys).toList) = decide (xs = ys)) := by
    show ((strOfNums xs).toList == (strOfNums ys).toList) = decide (xs = ys)
    by_cases h : xs = ys
    · subst h; simp
    · rw [decide_eq_false h]
      exact beq_eq_false_iff_ne.2 (fun e => h (nums_inj hx hy e))
  clear h1 h2 hx hy
  go_enter Tryd.func37, Tryd.ntmps37
  go_wp2
  go_ret
  exact ⟨by rw [← HQ.out]; rfl, rfl⟩

/-- How many parts were visited lies in the variable b. -/
def CountI (b : Nat) (done : List (Nat × Nat)) (w : World) : Prop := w.heap[b]? = some (.cells #[.int .i64 (done.length : Int)] 3 (0, 0))
set_option maxRecDepth 100000 in
theorem fits1_visits {B b : Nat} {ps : List (Nat × Nat)} (hpl : ps.length ≤ 1000) (hb : B ≤ b) : Visits B 88 #[.pointer (some ⟨b, 0, none⟩)] ps (CountI b) := by
  refine ⟨fun _ _ => by simp [go_sem], fun done w w' h hb => box_kept h hb, fun done f e w hp h hB => ?_⟩
  have hd : done.length ≤ 1000 := by have := hp.length_le; simp at this; omega
  have o1 := box_old w (.cells #[.int .i64 f, .int .i64 e] 96) h
  obtain ⟨y0, y1⟩ := box_cell o1
  have hM : Mid B w ((w.alloc (.cells #[.int .i64 f, .int .i64 e] 96)).setCell ⟨b, 0, none⟩ (.int .i64 ((done.length : Int) + 1))) := Mid.trans (MidT.of_below ((Below.refl _ _).alloc (Nat.le_refl _) _) hB) (MidT.set o1 (by decide) hb _)
  have o2 := box_set (v := .int .i64 ((done.length : Int) + 1)) o1
  go_enter Tryd.func88, Tryd.ntmps88
  go_wp2_with fail
  go_end0
  refine ⟨rfl, ?_, hM⟩
  unfold CountI
  rw [List.length_append, List.length_singleton]
  exact o2
set_option maxRecDepth 100000 in
set_option maxHeartbeats 1000000 in
theorem fits_any {w : World} {kw : Nat} {cw : Array Value} {ps : List (Nat × Nat)} {a : Option Addr} {n c : Nat} {p : List (List Int)} (hW : Walker w kw cw ps) (hL : Lists w a n c p) (hpl : ps.length ≤ 1000) :
    Calls Tryd.prog 67 #[.func (.func kw) #[] cw, .slice a n c] w fun r w' => r = .returned (.bool (decide (p.length = ps.length) && goodL p)) ∧ Below w.heap.size w w' := by
  have V := fits1_visits (B := w.heap.size) (b := w.heap.size) hpl (Nat.le_refl _)
  have hb : Below w.heap.size w (w.alloc (.cells #[.int .i64 0] 3)) := (Below.refl _ _).alloc (Nat.le_refl _) _
  have hC := hW.call _ _ _ _ _ V hb hb.size (box_new w _ _)
  have hA : ∀ w1, Below w.heap.size w w1 → _ := fun w1 h => areDigests_any p (.slice a n c) w1 (hL.below h).at' (by have := hL.room; have := hL.cap; rw [hL.len]; omega) hL.short
  have eg := hW.enters
  have hln := hL.len
  have hnn : n ≤ 9223372036854775807 := by have := hL.room; have := hL.cap; unfold maxLen at this; omega
  rw [hln]
  clear V hL hW hln
  by_cases hq : n = ps.length
  · rw [decide_eq_true hq, Bool.true_and]
    subst hq
    go_enter Tryd.func67, Tryd.ntmps67
    go_wp2_with fail
    refine hC.mono ?_
    rintro r w1 ⟨rfl, h1, hM⟩
    have y := (box_cell h1).1
    have b1 : Below w.heap.size w w1 := hb.trans hM.below
    have hA1 := hA _ b1
    clear hC hM h1 hA eg
    go_wp2_with (go_at_call 89; refine hA1.mono ?_; rintro r w2 ⟨rfl, rfl⟩)
    go_ret
    exact ⟨rfl, b1⟩
  · rw [decide_eq_false hq, Bool.false_and]
    have i1 : (ps.length : Int) ≠ (n : Int) := by omega
    go_enter Tryd.func67, Tryd.ntmps67
    go_wp2_with fail
    refine hC.mono ?_
    rintro r w1 ⟨rfl, h1, hM⟩
    have y := (box_cell h1).1
    have b1 : Below w.heap.size w w1 := hb.trans hM.below
    clear hC hM h1 hA eg
    go_wp2_with fail
    go_ret
    exact ⟨rfl, b1⟩

end Go.Proofs.YtbkkfchcdfhfgadDoor

/- The walks of Entry and Verify: package shelf as it landed. -/
namespace Go.Proofs.YtbkkfchcdfhfgadDoor
open Go.RowKit

/-- An entry's place in its segment. -/
theorem segment_place {m : Man} {i : Int} (h1 : i < m.size) (h : (segmentL m (i / 8)).2 = 0) : (i % 8).toNat < (segmentL m (i / 8)).1.length := by
  obtain ⟨h2, -⟩ := segment_len h
  obtain ⟨-, -, h3, -, -⟩ := segment_ok h
  have h4 := fitB_iff.1 h3
  omega
set_option maxRecDepth 100000 in
set_option maxHeartbeats 4000000 in
theorem entryC_of (hSeg : SegmentC) : EntryC := by
  intro m i mv w hM hi2
  have hS : ∀ w', Below w.heap.size w w' → _ := fun w' h => hSeg m (i / 8) mv w' (hM.below h)
  obtain ⟨rv, sv, rfl, hr, a, c, rfl, hN1, hN2, hN3, hcell⟩ := hM
  have x0 := box_new w #[.int .i64 m.size, rv, .slice a m.segs.length c] 28
  have b0 : Below w.heap.size w (w.alloc (.cells #[.int .i64 m.size, rv, .slice a m.segs.length c] 28)) := (Below.refl _ _).alloc (Nat.le_refl _) _
  obtain ⟨u0, u1, u2, -, -, -⟩ := box_three x0
  have hS0 := hS _ b0
  clear hS hcell hr
  generalize m.segs.length = N at *
  by_cases hi : i < 0 ∨ m.size ≤ i
  · have HE : Hid (entryL m i = ([], 6)) := by show _ = _; unfold entryL; rw [if_pos hi]
    generalize m.size = size at *
    clear hS0
    rcases (show i < 0 ∨ (¬ i < 0 ∧ size ≤ i) by omega) with hk | ⟨hk1, hk⟩
    all_goals
      clear hi
      go_enter Tryd.func13, Tryd.ntmps13
      go_wp2_with fail
      exact bodyPost_ret (v := .tuple #[.slice none 0 0, .int .i64 6]) (by simp [results, Tryd.results13, go_sem]) rfl ⟨_, by rw [HE.out], by rw [HE.out]; exact some_nil _, b0⟩
  · have HE : Hid (entryL m i = if (segmentL m (i / 8)).2 ≠ 0 then ([], (segmentL m (i / 8)).2) else ((segmentL m (i / 8)).1.getD (i % 8).toNat [], 0)) := by show _ = _; unfold entryL; rw [if_neg hi]
    have hpl := fun h => segment_place (m := m) (i := i) (by omega) h
    have hi0 : 0 ≤ i := by omega
    have hi1 : ¬ i < 0 := by omega
    have hi3 : i < m.size := by omega
    clear hi
    generalize m.size = size at *
    generalize segmentL m (i / 8) = R at *
    obtain ⟨l, er⟩ := R
    dsimp only at hS0 hpl HE
    go_enter Tryd.func13, Tryd.ntmps13
    go_wp2_with fail
    refine hS0.mono ?_
    rintro e w1 ⟨xa, xn, xc, rfl, hl, hb1⟩
    have b1 := b0.trans (hb1.mono b0.size)
    clear hS0 u0 u1 u2 x0 b0 hb1
    by_cases her : er = 0
    · subst her
      have HE2 : Hid (entryL m i = (l.getD (i % 8).toNat [], 0)) := by show _ = _; rw [HE.out, if_neg (fun h => h rfl)]
      have hlt := hpl rfl
      have hlen := hl.lists.len
      obtain ⟨q, hq⟩ : ∃ q : Nat, i % 8 = (q : Int) := ⟨(i % 8).toNat, by omega⟩
      rw [show (i % 8).toNat = q by omega] at hlt HE2
      obtain ⟨b, off, pa, pc, rfl, hcell, hsome⟩ := hl.lists.get q (by omega)
      have hq2 : (q : Int) < xn := by omega
      generalize l.getD q [] = D at *
      clear HE hpl hl hlt hlen
      go_wp2_with fail
      exact bodyPost_ret (v := .tuple #[.slice pa D.length pc, .int .i64 0]) (by simp [results, Tryd.results13, go_sem]) rfl ⟨_, by rw [HE2.out], by rw [HE2.out]; exact hsome, b1⟩
    · have her' : (er != 0) = true := by simpa using her
      have HE2 : Hid (entryL m i = ([], er)) := by show _ = _; rw [HE.out, if_pos her]
      clear HE hpl hl her
      go_wp2_with fail
      exact bodyPost_ret (v := .tuple #[.slice none 0 0, .int .i64 er]) (by simp [results, Tryd.results13, go_sem]) rfl ⟨_, by rw [HE2.out], by rw [HE2.out]; exact some_nil _, b1⟩

end Go.Proofs.YtbkkfchcdfhfgadDoor

/- The walk of yearref5.Entry. -/
namespace Go.Proofs.YtbkkfchcdfhfgadDoor
open Go.RowKit

set_option maxRecDepth 100000 in
set_option maxHeartbeats 4000000 in
theorem refEntry_any (m : Man) (i : Int) (mv : Value) (w : World) (hM : ManAt w mv m) (hi2 : i ≤ 9223372036854775807) :
    Calls Tryd.prog 14 #[mv, .int .i64 i] w fun e w' => ∃ v, e = .returned (.tuple #[v, .int .i64 (entryL m i).2]) ∧ Some' w' v (entryL m i).1 ∧ Below w.heap.size w w' := by
  have hS : ∀ w', Below w.heap.size w w' → _ := fun w' h => refSegment_any m (i / 8) mv w' (hM.below h)
  obtain ⟨rv, sv, rfl, hr, a, c, rfl, hN1, hN2, hN3, hcell⟩ := hM
  have x0 := box_new w #[.int .i64 m.size, rv, .slice a m.segs.length c] 28
  have b0 : Below w.heap.size w (w.alloc (.cells #[.int .i64 m.size, rv, .slice a m.segs.length c] 28)) := (Below.refl _ _).alloc (Nat.le_refl _) _
  obtain ⟨u0, u1, u2, -, -, -⟩ := box_three x0
  have hS0 := hS _ b0
  clear hS hcell hr
  generalize m.segs.length = N at *
  by_cases hi : i < 0 ∨ m.size ≤ i
  · have HE : Hid (entryL m i = ([], 6)) := by show _ = _; unfold entryL; rw [if_pos hi]
    generalize m.size = size at *
    clear hS0
    rcases (show i < 0 ∨ (¬ i < 0 ∧ size ≤ i) by omega) with hk | ⟨hk1, hk⟩
    all_goals
      clear hi
      go_enter Tryd.func14, Tryd.ntmps14
      go_wp2_with fail
      exact bodyPost_ret (v := .tuple #[.slice none 0 0, .int .i64 6]) (by simp [results, Tryd.results14, go_sem]) rfl ⟨_, by rw [HE.out], by rw [HE.out]; exact some_nil _, b0⟩
  · have HE : Hid (entryL m i = if (segmentL m (i / 8)).2 ≠ 0 then ([], (segmentL m (i / 8)).2) else ((segmentL m (i / 8)).1.getD (i % 8).toNat [], 0)) := by show _ = _; unfold entryL; rw [if_neg hi]
    have hpl := fun h => segment_place (m := m) (i := i) (by omega) h
    have hi0 : 0 ≤ i := by omega
    have hi1 : ¬ i < 0 := by omega
    have hi3 : i < m.size := by omega
    clear hi
    generalize m.size = size at *
    generalize segmentL m (i / 8) = R at *
    obtain ⟨l, er⟩ := R
    dsimp only at hS0 hpl HE
    go_enter Tryd.func14, Tryd.ntmps14
    go_wp2_with fail
    refine hS0.mono ?_
    rintro e w1 ⟨xa, xn, xc, rfl, hl, hb1⟩
    have b1 := b0.trans (hb1.mono b0.size)
    clear hS0 u0 u1 u2 x0 b0 hb1
    by_cases her : er = 0
    · subst her
      have HE2 : Hid (entryL m i = (l.getD (i % 8).toNat [], 0)) := by show _ = _; rw [HE.out, if_neg (fun h => h rfl)]
      have hlt := hpl rfl
      have hlen := hl.lists.len
      obtain ⟨q, hq⟩ : ∃ q : Nat, i - i / 8 * 8 = (q : Int) := ⟨(i % 8).toNat, by omega⟩
      rw [show (i % 8).toNat = q by omega] at hlt HE2
      obtain ⟨b, off, pa, pc, rfl, hcell, hsome⟩ := hl.lists.get q (by omega)
      have hq2 : (q : Int) < xn := by omega
      generalize l.getD q [] = D at *
      clear HE hpl hl hlt hlen
      go_wp2_with fail
      exact bodyPost_ret (v := .tuple #[.slice pa D.length pc, .int .i64 0]) (by simp [results, Tryd.results14, go_sem]) rfl ⟨_, by rw [HE2.out], by rw [HE2.out]; exact hsome, b1⟩
    · have her' : (er != 0) = true := by simpa using her
      have HE2 : Hid (entryL m i = ([], er)) := by show _ = _; rw [HE.out, if_pos her]
      clear HE hpl hl her
      go_wp2_with fail
      exact bodyPost_ret (v := .tuple #[.slice none 0 0, .int .i64 er]) (by simp [results, Tryd.results14, go_sem]) rfl ⟨_, by rw [HE2.out], by rw [HE2.out]; exact some_nil _, b1⟩

end Go.Proofs.YtbkkfchcdfhfgadDoor
