/- The walks of bytes.Equal, fits and along. -/
import Derived.Test.YtkjlchfmplcobadDoorProg
import Derived.Test.YtkjlchfmplcobadDoorRunAF
import Derived.Test.YtkjlchfmplcobadDoorByteConv
import Derived.Test.YtkjlchfmplcobadDoorRunAK
import Derived.WalkKit
import Derived.WalkSpells
import Derived.WalkLawsBesides
import Derived.Laws.BytesArg
import Derived.Shelf.Bytes.SlSmallAll
import Derived.Deep.RegionHeld3
import Derived.BigRegion
namespace Go.Proofs.YtkjlchfmplcobadDoor
open Go.RowKit

set_option maxRecDepth 100000 in
theorem equal_any (xs ys : List Int) (v1 v2 : Value) (w : World) (h1 : BytesAt w v1 xs) (h2 : BytesAt w v2 ys) (hx : Bytes xs) (hy : Bytes ys) :
    Calls Tryd.prog 37 #[v1, v2] w fun e w' => e = .returned (.bool (decide (xs = ys))) ∧ w' = w := by
  have g1 := h1.conv
  have g2 := h2.conv
  have HQ : Hid (((strOfNums xs).toList == (strOfNums ys).toList) = decide (xs = ys)) := by
    show ((strOfNums xs).toList == (strOfNums ys).toList) = decide (xs = ys)
    by_cases h : xs = ys
    · subst h; simp
    · rw [decide_eq_false h]
      exact beq_eq_false_iff_ne.2 (fun e => h (nums_inj hx hy e))
  clear h1 h2 hx hy
  go_enter Tryd.func37, Tryd.ntmps37
  go_wp2
  go_ret
  exact ⟨by rw [← HQ.out]; rfl, rfl⟩

/-- How many parts were visited lies in the variable b. -/
def CountI (b : Nat) (done : List (Nat × Nat)) (w : World) : Prop := w.heap[b]? = some (.cells #[.int .i64 (done.length : Int)] 3 (0, 0))
set_option maxRecDepth 100000 in
theorem fits1_visits {B b : Nat} {ps : List (Nat × Nat)} (hpl : ps.length ≤ 1000) (hb : B ≤ b) : Visits B 88 #[.pointer (some ⟨b, 0, none⟩)] ps (CountI b) := by
  refine ⟨fun _ _ => by simp [go_sem], fun done w w' h hb => box_kept h hb, fun done f e w hp h hB => ?_⟩
  have hd : done.length ≤ 1000 := by have := hp.length_le; simp at this; omega
  have o1 := box_old w (.cells #[.int .i64 f, .int .i64 e] 96) h
  obtain ⟨y0, y1⟩ := box_cell o1
  have hM : Mid B w ((w.alloc (.cells #[.int .i64 f, .int .i64 e] 96)).setCell ⟨b, 0, none⟩ (.int .i64 ((done.length : Int) + 1))) := Mid.trans (MidT.of_below ((Below.refl _ _).alloc (Nat.le_refl _) _) hB) (MidT.set o1 (by decide) hb _)
  have o2 := box_set (v := .int .i64 ((done.length : Int) + 1)) o1
  go_enter Tryd.func88, Tryd.ntmps88
  go_wp2_with fail
  go_end0
  refine ⟨rfl, ?_, hM⟩
  unfold CountI
  rw [List.length_append, List.length_singleton]
  exact o2
set_option maxRecDepth 100000 in
set_option maxHeartbeats 1000000 in
theorem fits_any {w : World} {kw : Nat} {cw : Array Value} {ps : List (Nat × Nat)} {a : Option Addr} {n c : Nat} {p : List (List Int)} (hW : Walker w kw cw ps) (hL : Lists w a n c p) (hpl : ps.length ≤ 1000) :
    Calls Tryd.prog 67 #[.func (.func kw) #[] cw, .slice a n c] w fun r w' => r = .returned (.bool (decide (p.length = ps.length) && goodL p)) ∧ Below w.heap.size w w' := by
  have V := fits1_visits (B := w.heap.size) (b := w.heap.size) hpl (Nat.le_refl _)
  have hb : Below w.heap.size w (w.alloc (.cells #[.int .i64 0] 3)) := (Below.refl _ _).alloc (Nat.le_refl _) _
  have hC := hW.call _ _ _ _ _ V hb hb.size (box_new w _ _)
  have hA : ∀ w1, Below w.heap.size w w1 → _ := fun w1 h => areDigests_any p (.slice a n c) w1 (hL.below h).at' (by have := hL.room; have := hL.cap; rw [hL.len]; omega) hL.short
  have eg := hW.enters
  have hln := hL.len
  have hnn : n ≤ 9223372036854775807 := by have := hL.room; have := hL.cap; unfold maxLen at this; omega
  rw [hln]
  clear V hL hW hln
  by_cases hq : n = ps.length
  · rw [decide_eq_true hq, Bool.true_and]
    subst hq
    go_enter Tryd.func67, Tryd.ntmps67
    go_wp2_with fail
    refine hC.mono ?_
    rintro r w1 ⟨rfl, h1, hM⟩
    have y := (box_cell h1).1
    have b1 : Below w.heap.size w w1 := hb.trans hM.below
    have hA1 := hA _ b1
    clear hC hM h1 hA eg
    go_wp2_with (go_at_call 89; refine hA1.mono ?_; rintro r w2 ⟨rfl, rfl⟩)
    go_ret
    exact ⟨rfl, b1⟩
  · rw [decide_eq_false hq, Bool.false_and]
    have i1 : (ps.length : Int) ≠ (n : Int) := by omega
    go_enter Tryd.func67, Tryd.ntmps67
    go_wp2_with fail
    refine hC.mono ?_
    rintro r w1 ⟨rfl, h1, hM⟩
    have y := (box_cell h1).1
    have b1 : Below w.heap.size w w1 := hb.trans hM.below
    clear hC hM h1 hA eg
    go_wp2_with fail
    go_ret
    exact ⟨rfl, b1⟩

end Go.Proofs.YtkjlchfmplcobadDoor
