/- The walk of pathTexts. -/
import Derived.Test.YtkjlchfmplcobadDoorProg
import Derived.Test.YtkjlchfmplcobadDoorClashGoTexts
import Derived.WalkKit
import Derived.WalkSpells
import Derived.WalkLawsBesides
import Derived.Deep.RegionLaw
import Derived.Deep.RegionHeld3
import Derived.BigRegion
import Derived.BigQuiet
namespace Go.Proofs.YtkjlchfmplcobadDoor
open Go.RowKit

set_option maxRecDepth 100000 in
set_option maxHeartbeats 4000000 in
theorem pathTexts_any (ls : List Bool) (b : List Int) (os : List (List Int)) (la oa : Option Addr) (lc on oc base : Nat) (fa : Option Addr) (fc : Nat) (w : World) (hr : Ready w) (hB : w.ownsRow base 4 1 (.slice la ls.length lc) ls.length (ls.map Value.bool)) (hf : BytesAt w (.slice fa b.length fc) b) (hbz : Bytes b) (hb2 : b.length ≤ 200)
    (hO : DigsAt w oa on oc os) (hol : on ≤ ls.length) (hls : ls.length ≤ 1000) :
    Calls Tryd.prog 72 #[.func (.func 23) #[] #[], .slice la ls.length lc, .agg #[.slice fa b.length fc, .slice oa on oc]] w fun e w' => ∃ v, e = .returned v ∧ OwnParts w' w.heap.size v ((0 :: b) :: climbT ls (leafL b) os) ∧ Below w.heap.size w w' := by
  obtain ⟨i0, hi0, hz0, hz1, hz2⟩ := info_parts Tryd.info23b
  have bq := box_new w #[.slice fa b.length fc, .slice oa on oc] 75
  have bW : Below w.heap.size w (w.alloc (.cells #[.slice fa b.length fc, .slice oa on oc] 75)) := (Below.refl _ _).alloc (Nat.le_refl _) _
  have hsW := bW.size
  obtain ⟨z0, z1, -, -⟩ := box_two bq
  have hT := leafText_any b (.slice fa b.length fc) _ (hf.below (Nat.le_refl _) bW) (by omega)
  have hS : ∀ w' xa xc, Below w.heap.size w w' → w'.ownsRow w.heap.size 5 1 (.slice xa (b.length + 1) xc) (b.length + 1) ((0 :: b).map (Value.int .u8)) → _ := fun w' xa xc h ho => sum_any (0 :: b) (.slice xa (b.length + 1) xc) w' (bytesAt_own ho) (by simp; omega) (bytes_cons (by decide) (by decide) hbz) (hr.below h).tab (hr.below h).big
  have hC : ∀ w' g, Below w.heap.size w w' → BytesAt w' (.slice (some ⟨g, 0, none⟩) 32 32) (leafL b) → _ := fun w' g h ho => climb_any ls (leafL b) os la (some ⟨g, 0, none⟩) oa lc 32 on oc base w' (hr.below h) (own_below hB h (Nat.le_refl _)) ho (leafL_bytes b) (leafL_length b) (hO.below h) hol hls
  have hTl : (climbT ls (leafL b) os).length ≤ 1000 := by rw [climbT_length ls _ os (by rw [hO.len]; exact hol), hO.len]; omega
  have HTx : Hid ((0 :: b : List Int).length = b.length + 1) := rfl
  have HLf : Hid (shaL (0 :: b) = leafL b) := rfl
  generalize (0 :: b : List Int) = t at *
  generalize climbT ls (leafL b) os = T at *
  clear hr hB hf hO hbz
  go_enter Tryd.func72, Tryd.ntmps72
  go_wp2_with fail
  refine hT.mono ?_
  rintro e w1 ⟨x1, rfl, ho1', hb1⟩
  obtain ⟨xa, xc, rfl⟩ := own_form' ho1'
  have b1 : Below w.heap.size w w1 := bW.trans (hb1.mono hsW)
  have ho1 := ownsRow_base ho1' hsW
  have hs1 := b1.size
  have bq1 := box_kept bq hb1
  obtain ⟨y10, y11, -, -⟩ := box_two bq1
  have sz1 := lt_heap bq1
  clear hT hb1 ho1' bq z0 z1
  go_wp2_with fail
  have ho1t : w1.ownsRow w.heap.size 5 1 (.slice xa (b.length + 1) xc) t.length (t.map (Value.int .u8)) := by rw [HTx.out]; exact ho1
  have bA1 : Below w.heap.size w (w1.alloc (.cells #[.slice xa (b.length + 1) xc] 23)) := b1.alloc hs1 _
  have hoA1 := ho1.alloc (.cells #[.slice xa (b.length + 1) xc] 23)
  have hlit1 := LitAt.new ho1t hs1
  go_region_law (first
    | (refine step_append_row rfl (.tmp 12) (.tmp 20) 22 rfl w.heap.size 23 i0 (.slice none 0 0) 24 Tryd.underlying22 hi0 hz0 hz1 hz2 rfl _ _ _ rfl (by first | exact hlitC.row | exact (LitAt.new hoC1t hsC).row) _ _ _ _ rfl (by first | exact hrC | exact hrC.alloc _) hone h63 h24 (by first | exact hsC | exact bCA.size) ?_; intro v6 w6 ho6 hg6; have hE : OwnParts w6 w.heap.size v6 (t :: T) := (by first | exact hlitC.all heC' ho6 hg6 | exact (LitAt.new hoC1t hsC).all (heC'.alloc _) ho6 hg6); have b6 : Below w.heap.size w w6 := (by first | exact bC.grown hg6 hsC (fun _ h => own_block hlitC.row h) | exact bCA.grown hg6 bCA.size (fun _ h => own_block (LitAt.new hoC1t hsC).row h)); obtain ⟨ta, tc, rfl⟩ := own_form' ho6)
    | (go_simp; go_at_call 23; refine (hS _ _ _ (by first | exact b1 | exact bA1 | exact b1.drew | exact bA1.drew) (by first | exact ho1 | exact hoA1)).mono ?_; rintro e wS ⟨gS, rfl, hoS, hbS⟩; have bS : Below w.heap.size w wS := (by first | exact b1.trans (hbS.mono hs1) | exact bA1.trans (hbS.mono bA1.size) | exact b1.drew.trans (hbS.mono hs1) | exact bA1.drew.trans (hbS.mono bA1.size)); have hmS : BytesAt wS (.slice (some ⟨gS, 0, none⟩) 32 32) (leafL b) := (by rw [← HLf.out]; exact bytesAt_own hoS); have bqS : wS.heap[w.heap.size]? = some (.cells #[.slice fa b.length fc, .slice oa on oc] 75 (0, 0)) := (by first | exact box_kept (by exact bq1) hbS | exact box_kept (by exact box_old _ _ bq1) hbS); have hoS1 : wS.ownsRow w.heap.size 5 1 (.slice xa (b.length + 1) xc) (b.length + 1) (t.map (Value.int .u8)) := (by first | exact own_below (by exact ho1) hbS (Nat.le_refl _) | exact own_below (by exact hoA1) hbS (Nat.le_refl _)); have hoS1t : wS.ownsRow w.heap.size 5 1 (.slice xa (b.length + 1) xc) t.length (t.map (Value.int .u8)) := (by rw [HTx.out]; exact hoS1); obtain ⟨yS0, yS1, -, -⟩ := box_two bqS; have szS := lt_heap bqS; have hsS := bS.size; have bSA : Below w.heap.size w (wS.alloc (.cells #[.slice xa (b.length + 1) xc] 23)) := bS.alloc hsS _; have hmSA := hmS.below (Nat.le_refl _) ((Below.refl wS.heap.size wS).alloc (Nat.le_refl _) (.cells #[.slice xa (b.length + 1) xc] 23)); dsimp only)
    | (go_simp; go_at_call 92; refine (hC _ _ (by first | exact bS | exact bSA | exact bS.drew | exact bSA.drew) (by first | exact hmS | exact hmSA)).mono ?_; rintro e wC ⟨vC, rfl, ⟨vs, hrC, heC⟩, hbC⟩; obtain ⟨ca, cc, rfl⟩ := own_form' hrC; have bC : Below w.heap.size w wC := (by first | exact bS.trans (hbC.mono hsS) | exact bSA.trans (hbC.mono bSA.size) | exact bS.drew.trans (hbC.mono hsS) | exact bSA.drew.trans (hbC.mono bSA.size)); have hsC := bC.size; have bCA : Below w.heap.size w (wC.alloc (.cells #[.slice xa (b.length + 1) xc] 23)) := bC.alloc hsC _; have hvl : vs.length = T.length := (by simpa using hrC.1); have hone := els_one heC hvl; have heC' : OwnEls wC w.heap.size vs T := (by first | exact heC.base hsS | exact heC.base bSA.size); have hoC1 : wC.ownsRow w.heap.size 5 1 (.slice xa (b.length + 1) xc) (b.length + 1) (t.map (Value.int .u8)) := (by first | exact own_below (by exact hoS1) hbC (Nat.le_refl _) | exact own_below (by exact hoS1.alloc _) hbC (Nat.le_refl _)); have hoC1t : wC.ownsRow w.heap.size 5 1 (.slice xa (b.length + 1) xc) t.length (t.map (Value.int .u8)) := (by rw [HTx.out]; exact hoC1); have h63 : 1 + T.length ≤ maxLen := (by unfold maxLen; omega); have h24 : (1 + T.length) * 24 ≤ 140737488355328 := (by omega); (first | have hlitC := LitAt.below (LitAt.below hlit1 hbS) hbC | have hlitC := LitAt.below (LitAt.below hlit1.drew hbS) hbC | have hlitC := LitAt.below (LitAt.new hoS1t hsS) hbC | have hlitC : True := trivial); dsimp only))
  all_goals (go_wp2_with fail; go_ret; exact ⟨_, rfl, hE, b6⟩)

end Go.Proofs.YtkjlchfmplcobadDoor
