/- The walk of yearref5.Entry. -/
import Derived.Test.YtkjlchfmplcobadDoorProg
import Derived.Test.YtkjlchfmplcobadDoorShelfRefSegment
import Derived.Test.YtkjlchfmplcobadDoorShelfGoEntry
import Derived.WalkKit
import Derived.WalkSpells
import Derived.WalkLawsBesides
namespace Go.Proofs.YtkjlchfmplcobadDoor
open Go.RowKit

set_option maxRecDepth 100000 in
set_option maxHeartbeats 4000000 in
theorem refEntry_any (m : Man) (i : Int) (mv : Value) (w : World) (hM : ManAt w mv m) (hi2 : i ≤ 9223372036854775807) :
    Calls Tryd.prog 14 #[mv, .int .i64 i] w fun e w' => ∃ v, e = .returned (.tuple #[v, .int .i64 (entryL m i).2]) ∧ Some' w' v (entryL m i).1 ∧ Below w.heap.size w w' := by
  have hS : ∀ w', Below w.heap.size w w' → _ := fun w' h => refSegment_any m (i / 8) mv w' (hM.below h)
  obtain ⟨rv, sv, rfl, hr, a, c, rfl, hN1, hN2, hN3, hcell⟩ := hM
  have x0 := box_new w #[.int .i64 m.size, rv, .slice a m.segs.length c] 28
  have b0 : Below w.heap.size w (w.alloc (.cells #[.int .i64 m.size, rv, .slice a m.segs.length c] 28)) := (Below.refl _ _).alloc (Nat.le_refl _) _
  obtain ⟨u0, u1, u2, -, -, -⟩ := box_three x0
  have hS0 := hS _ b0
  clear hS hcell hr
  generalize m.segs.length = N at *
  by_cases hi : i < 0 ∨ m.size ≤ i
  · have HE : Hid (entryL m i = ([], 6)) := by show _ = _; unfold entryL; rw [if_pos hi]
    generalize m.size = size at *
    clear hS0
    rcases (show i < 0 ∨ (¬ i < 0 ∧ size ≤ i) by omega) with hk | ⟨hk1, hk⟩
    all_goals
      clear hi
      go_enter Tryd.func14, Tryd.ntmps14
      go_wp2_with fail
      exact bodyPost_ret (v := .tuple #[.slice none 0 0, .int .i64 6]) (by simp [results, Tryd.results14, go_sem]) rfl ⟨_, by rw [HE.out], by rw [HE.out]; exact some_nil _, b0⟩
  · have HE : Hid (entryL m i = if (segmentL m (i / 8)).2 ≠ 0 then ([], (segmentL m (i / 8)).2) else ((segmentL m (i / 8)).1.getD (i % 8).toNat [], 0)) := by show _ = _; unfold entryL; rw [if_neg hi]
    have hpl := fun h => segment_place (m := m) (i := i) (by omega) h
    have hi0 : 0 ≤ i := by omega
    have hi1 : ¬ i < 0 := by omega
    have hi3 : i < m.size := by omega
    clear hi
    generalize m.size = size at *
    generalize segmentL m (i / 8) = R at *
    obtain ⟨l, er⟩ := R
    dsimp only at hS0 hpl HE
    go_enter Tryd.func14, Tryd.ntmps14
    go_wp2_with fail
    refine hS0.mono ?_
    rintro e w1 ⟨xa, xn, xc, rfl, hl, hb1⟩
    have b1 := b0.trans (hb1.mono b0.size)
    clear hS0 u0 u1 u2 x0 b0 hb1
    by_cases her : er = 0
    · subst her
      have HE2 : Hid (entryL m i = (l.getD (i % 8).toNat [], 0)) := by show _ = _; rw [HE.out, if_neg (fun h => h rfl)]
      have hlt := hpl rfl
      have hlen := hl.lists.len
      obtain ⟨q, hq⟩ : ∃ q : Nat, i - i / 8 * 8 = (q : Int) := ⟨(i % 8).toNat, by omega⟩
      rw [show (i % 8).toNat = q by omega] at hlt HE2
      obtain ⟨b, off, pa, pc, rfl, hcell, hsome⟩ := hl.lists.get q (by omega)
      have hq2 : (q : Int) < xn := by omega
      generalize l.getD q [] = D at *
      clear HE hpl hl hlt hlen
      go_wp2_with fail
      exact bodyPost_ret (v := .tuple #[.slice pa D.length pc, .int .i64 0]) (by simp [results, Tryd.results14, go_sem]) rfl ⟨_, by rw [HE2.out], by rw [HE2.out]; exact hsome, b1⟩
    · have her' : (er != 0) = true := by simpa using her
      have HE2 : Hid (entryL m i = ([], er)) := by show _ = _; rw [HE.out, if_pos her]
      clear HE hpl hl her
      go_wp2_with fail
      exact bodyPost_ret (v := .tuple #[.slice none 0 0, .int .i64 er]) (by simp [results, Tryd.results14, go_sem]) rfl ⟨_, by rw [HE2.out], by rw [HE2.out]; exact some_nil _, b1⟩

end Go.Proofs.YtkjlchfmplcobadDoor
