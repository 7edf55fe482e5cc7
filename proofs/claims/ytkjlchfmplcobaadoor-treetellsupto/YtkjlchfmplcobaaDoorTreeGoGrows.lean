/- The walk of Grows. -/
import Derived.Test.YtkjlchfmplcobaaDoorProg
import Derived.Test.YtkjlchfmplcobaaDoorTreeGoRoots
import Derived.Test.YtkjlchfmplcobaaDoorTreeFaceGrows
import Derived.WalkKit
import Derived.WalkSpells
import Derived.WalkLawsBesides
import Derived.Deep.RegionLaw
import Derived.Deep.RegionHeld3
import Derived.BigRegion
namespace Go.Proofs.YtkjlchfmplcobaaDoor
open Go.RowKit

set_option maxRecDepth 100000 in
set_option maxHeartbeats 1000000 in
theorem growsC_holds : GrowsC := by
  intro L i a n c w hr hL
  have b0 : Below w.heap.size w (w.alloc (.cells #[.int .i64 0, .int .i64 0] 37)) := (Below.refl _ _).alloc (Nat.le_refl _) _
  have hW := wrongC_holds L a n c _ (hL.below b0)
  have hnn : n ≤ 9223372036854775807 := by have := hL.room; have := hL.cap; unfold maxLen at this; omega
  by_cases h0 : (wrongL L).1 = 0
  · obtain ⟨hv, hn, he⟩ := leaves_of hL h0
    by_cases hi : i < 1 ∨ (L.length : Int) < i
    · have HF : growF L i = (3, 0) := by unfold growF; rw [if_neg (by rw [h0]; decide), if_pos hi]
      rw [HF]
      rw [he] at hW
      rw [hv.len] at hi
      have hi' : (i < 1 ∨ ¬ i < 1 ∧ (n : Int) < i) := by omega
      clear h0 he hL hv hr HF hi
      rcases hi' with hi | ⟨hi, hi2⟩
      all_goals
        go_enter Tryd.func28, Tryd.ntmps28
        go_wp2_with fail
        refine hW.mono ?_
        rintro e w1 ⟨rfl, hb1⟩
        have b1 : Below w.heap.size w w1 := b0.trans (hb1.mono b0.size)
        have b2 : Below w.heap.size w (w1.alloc (.cells #[.int .i64 0, .int .i64 0] 37)) := b1.alloc b1.size _
        obtain ⟨q20, q21, q22, q23⟩ := box_two (box_old w1 (.cells #[.int .i64 0, .int .i64 0] 37) (box_kept (box_new w #[.int .i64 0, .int .i64 0] 37) hb1))
        go_wp2_with fail
        exact bodyPost_ret (v := .tuple #[.slice none 0 0, faultV (3, 0)]) (by simp [results, Tryd.results28, go_sem, q20, q21]) rfl ⟨none, 0, 0, rfl, fun h => absurd h (by decide), fun _ => rfl, (b2.setCell (Nat.le_refl _) _).setCell (Nat.le_refl _) _⟩
    · have HF : growF L i = (0, 0) := by unfold growF; rw [if_neg (by rw [h0]; decide), if_neg hi]
      rw [HF]
      rw [he] at hW
      rw [hv.len] at hi
      obtain ⟨j, rfl⟩ : ∃ j : Nat, i = (j : Int) := ⟨i.toNat, by omega⟩
      have hj : 1 ≤ j ∧ j ≤ n := by omega
      obtain ⟨b, off, rfl⟩ := hv.addr (by omega)
      have HP : (proofP 0 n j true).map (fun p => mth (seg L p)) = proofL L ((j : Int).toNat) true := by
        have h := proof_seg L n 0 n j true (by omega) (by omega) hj.2 (by rw [hv.len]; exact Nat.le_refl _)
        rw [← hv.len, seg_all, hv.len] at h
        simpa using h
      have hpo : ∀ w', _ := fun w' => proofOf_any n j w' hn (by omega) hj.2
      have hro : ∀ w' (h : Below w.heap.size w w') kw cw, Walker w' kw cw (proofP 0 n j true) → _ := fun w' h kw cw hk => roots_any hk (hr.below h) (hv.below h) hn (fun p hp => (proofP_in n 0 n j true (by omega) (by omega) hj.2 p hp).2) (by have := proofP_few n 0 n j true (by omega) (by omega) hj.2; omega)
      have i1 : ¬ (j : Int) < 1 := by omega
      have i2 : ¬ (n : Int) < (j : Int) := by omega
      rw [← HP]
      generalize (proofP 0 n j true).map (fun p => mth (seg L p)) = R at *
      clear h0 he hL hv hr HF hi HP
      go_enter Tryd.func28, Tryd.ntmps28
      go_wp2_with fail
      refine hW.mono ?_
      rintro e w1 ⟨rfl, hb1⟩
      have b1 : Below w.heap.size w w1 := b0.trans (hb1.mono b0.size)
      have b2 : Below w.heap.size w (w1.alloc (.cells #[.int .i64 0, .int .i64 0] 37)) := b1.alloc b1.size _
      have q2 := box_old w1 (.cells #[.int .i64 0, .int .i64 0] 37) (box_kept (box_new w #[.int .i64 0, .int .i64 0] 37) hb1)
      go_wp2_with fail
      refine (hpo _).mono ?_
      rintro e w2 ⟨kw, cw, rfl, hk, hb3⟩
      have b3 := b2.trans (hb3.mono b2.size)
      go_wp2_with fail
      refine (hro _ b3 kw cw hk).mono ?_
      rintro e w3 ⟨v, rfl, ho, hb4⟩
      have b4 := b3.trans (hb4.mono b3.size)
      obtain ⟨q20, q21, q22, q23⟩ := box_two (box_kept (box_kept q2 hb3) hb4)
      have hs2 : w.heap.size < w2.heap.size := by have := b1.size; have := hb3.size; simp at this; omega
      obtain ⟨va, vc, e, -⟩ := ho.form
      subst e
      have hoF := (((ho.setBelow (a := ⟨w.heap.size, 0, none⟩) hs2 (.int .i64 0)).setBelow (a := ⟨w.heap.size, 1, none⟩) hs2 (.int .i64 0))).base (Nat.le_of_lt hs2)
      clear hW hpo hro hb1 hb3 hb4 b0 b1 b2 b3 hk q2
      go_wp2_with fail
      exact bodyPost_ret (v := .tuple #[.slice va R.length vc, faultV (0, 0)]) (by simp [results, Tryd.results28, go_sem, q20, q21]) rfl ⟨va, _, vc, rfl, fun _ => hoF, fun h => absurd rfl h, (b4.setCell (Nat.le_refl _) _).setCell (Nat.le_refl _) _⟩
  · have i1 : ((wrongL L).1 != 0) = true := by simpa using h0
    have HF : growF L i = wrongL L := by unfold growF; rw [if_pos h0]
    rw [HF]
    clear HF
    generalize wrongL L = p at *
    obtain ⟨x, y⟩ := p
    dsimp only at h0 i1 ⊢
    go_enter Tryd.func28, Tryd.ntmps28
    go_wp2_with fail
    refine hW.mono ?_
    rintro e w1 ⟨rfl, hb1⟩
    have b1 : Below w.heap.size w w1 := b0.trans (hb1.mono b0.size)
    obtain ⟨q20, q21, q22, q23⟩ := box_two (box_old w1 (.cells #[.int .i64 x, .int .i64 y] 37) (box_kept (box_new w #[.int .i64 0, .int .i64 0] 37) hb1))
    have b2 : Below w.heap.size w (w1.alloc (.cells #[.int .i64 x, .int .i64 y] 37)) := b1.alloc b1.size _
    go_wp2_with fail
    obtain ⟨p0, p1, -, -⟩ := box_two (box_new w1 #[.int .i64 x, .int .i64 y] 37)
    have n1 : w.heap.size ≠ w1.heap.size := by have := hb1.size; simp at this; omega
    generalize w1.alloc (.cells #[.int .i64 x, .int .i64 y] 37) = W at *
    generalize w1.heap.size = q1 at *
    go_region_held3 (fun w' => w'.cell? ⟨q1, 0, none⟩ = some (.int .i64 x) ∧ w'.cell? ⟨q1, 1, none⟩ = some (.int .i64 y)) (first | exact ⟨p0, p1⟩ | exact ⟨(World.cell?_setCell_far _ _ _ _ n1).trans ((World.cell?_setCell_far _ _ _ _ n1).trans p0), (World.cell?_setCell_far _ _ _ _ n1).trans ((World.cell?_setCell_far _ _ _ _ n1).trans p1)⟩) (fail)
    go_wp2_with fail
    exact bodyPost_ret (v := .tuple #[.slice none 0 0, faultV (x, y)]) (by simp [results, Tryd.results28, go_sem, q20, q21]) rfl ⟨none, 0, 0, rfl, fun h => absurd h h0, fun _ => rfl, ((b2.setCell (Nat.le_refl _) _).setCell (Nat.le_refl _) _).drew⟩

end Go.Proofs.YtkjlchfmplcobaaDoor
