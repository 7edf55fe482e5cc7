/- The walk of Export: package shelf as it landed. -/
import Derived.Test.YtkjlchfmplcobadDoorProg
import Derived.Test.YtkjlchfmplcobadDoorRunAA
import Derived.WalkKit
import Derived.WalkSpells
import Derived.WalkLawsBesides
import Derived.Deep.RegionHeld3
import Derived.Deep.RegionWith
import Derived.BigRegion
namespace Go.Proofs.YtkjlchfmplcobadDoor
open Go.RowKit

theorem wrong_whole {L : List (List Int)} (h : (wrongL L).1 = 0) : wrongL L = (0, 0) := by
  obtain ⟨h1, h2⟩ := wrong_ok h
  exact wrong_zero h1 h2
/-- What Export tells of right entries, and where it lies. -/
def ExportOC : Prop := ∀ (L : List (List Int)) (a : Option Addr) (n c : Nat) (w : World), Ready w → Lists w a n c L → (wrongL L).1 = 0 →
  Calls Tryd.prog 7 #[.slice a n c] w fun e w' => ∃ xa xc va vc vs, e = .returned (.tuple #[.agg #[.int .i64 n, .slice xa 32 xc, .slice va (segsL L).length vc], faultV (0, 0)]) ∧ w'.ownsRow w.heap.size 5 1 (.slice xa 32 xc) 32 ((mth L).map (Value.int .u8)) ∧ (w'.ownsRow w.heap.size 55 3 (.slice va (segsL L).length vc) (segsL L).length vs ∧ SegEls w' w.heap.size vs (segsL L)) ∧ RiseV vs (segsL L).length ∧ (∀ j y g, vs[j * 3 + 2]? = some y → j < (segsL L).length → y.ownBlock = some g → (Value.slice xa 32 xc).ownBlock ≠ some g) ∧ Below w.heap.size w w'
theorem own3_set {w : World} {base k o n : Nat} {v : Value} {vs : List Value} {l : List Seg} (h : w.ownsRow base 55 3 v n vs ∧ SegEls w base vs l) (hk : k < base) (u : Value) : (w.setCell ⟨k, o, none⟩ u).ownsRow base 55 3 v n vs ∧ SegEls (w.setCell ⟨k, o, none⟩ u) base vs l := by
  obtain ⟨h1, h2, h3⟩ := h
  refine ⟨ownsRow_setCell_below h1 (a := ⟨k, o, none⟩) hk u, h2, fun j hj => ?_⟩
  obtain ⟨g0, g1, y, g2, g3⟩ := h3 j hj
  exact ⟨g0, g1, y, g2, ownsRow_setCell_below g3 (a := ⟨k, o, none⟩) hk u⟩
theorem own3_base {w : World} {base b' n : Nat} {v : Value} {vs : List Value} {l : List Seg} (h : w.ownsRow base 55 3 v n vs ∧ SegEls w base vs l) (hb : b' ≤ base) : w.ownsRow b' 55 3 v n vs ∧ SegEls w b' vs l := by
  obtain ⟨h1, h2, h3⟩ := h
  refine ⟨ownsRow_base h1 hb, h2, fun j hj => ?_⟩
  obtain ⟨g0, g1, y, g2, g3⟩ := h3 j hj
  exact ⟨g0, g1, y, g2, ownsRow_base g3 hb⟩
set_option maxRecDepth 100000 in
set_option maxHeartbeats 4000000 in
theorem exportO_of (hRoot : RootC) (hPack : PackOC) : ExportOC := by
  intro L a n c w hr hL h0
  have b0 : Below w.heap.size w ((w.alloc (.cells #[.int .i64 0, .slice none 0 0, .slice none 0 0] 28)).alloc (.cells #[.int .i64 0, .int .i64 0] 31)) := ((Below.refl _ _).alloc (Nat.le_refl _) _).alloc (by simp) _
  have hR := hRoot L a n c _ (hr.below b0) (hL.below b0)
  have x0 := box_old _ (.cells #[.int .i64 0, .int .i64 0] 31) (box_new w #[.int .i64 0, .slice none 0 0, .slice none 0 0] 28)
  have y0 := box_last w (.cells #[.int .i64 0, .slice none 0 0, .slice none 0 0] 28) #[.int .i64 0, .int .i64 0] 31
  have z0 : ((w.alloc (.cells #[.int .i64 0, .slice none 0 0, .slice none 0 0] 28)).alloc (.cells #[.int .i64 0, .int .i64 0] 31)).heap.size = w.heap.size + 2 := by simp
  · obtain ⟨h100, h200⟩ := wrong_ok h0
    have he := wrong_whole h0
    rw [he] at hR
    have hS := fun w' (h : Below w.heap.size w w') => segments_any hPack L a n c w' (hL.below h) h100 h200
    have hby := hL.bytes
    have hlen := hL.len
    have hcap := hL.cap
    have hroom := hL.room
    unfold maxLen at hcap
    have hsb : SegsBytes (segsL L) := segsL_bytes hby (mem_short h200)
    have hmb := bytes_mth L
    have hml := mth_length L
    clear he h0 hL hr hby h200
    generalize segsL L = SG at *
    generalize mth L = M at *
    go_enter Tryd.func7, Tryd.ntmps7
    go_wp2_with fail
    generalize (w.alloc (.cells #[.int .i64 0, .slice none 0 0, .slice none 0 0] 28)).alloc (.cells #[.int .i64 0, .int .i64 0] 31) = w0 at *
    refine hR.mono ?_
    rintro e w1 ⟨xa, xn, xc, rfl, ho, -, hb1⟩
    replace ho := ho trivial
    obtain rfl := own_len ho
    have b1 : Below w.heap.size w w1 := b0.trans (hb1.mono b0.size)
    have x1 := box_kept x0 hb1
    have y1 := box_kept y0 hb1
    have hs1 := hb1.size
    have b2 : Below w.heap.size w ((w1.alloc (.cells #[.int .i64 0, .int .i64 0] 31)).alloc (.cells #[.int .i64 n, .slice xa 32 xc] 25)) := (b1.alloc b1.size _).alloc (by have := b1.size; simp; omega) _
    have x2 := box_old _ (.cells #[.int .i64 n, .slice xa 32 xc] 25) (box_old _ (.cells #[.int .i64 0, .int .i64 0] 31) x1)
    have y2 := box_old _ (.cells #[.int .i64 n, .slice xa 32 xc] 25) (box_old _ (.cells #[.int .i64 0, .int .i64 0] 31) y1)
    obtain ⟨p0, p1, -, -⟩ := box_two (box_last w1 (.cells #[.int .i64 0, .int .i64 0] 31) #[.int .i64 n, .slice xa 32 xc] 25)
    have ho2 := (ho.alloc (.cells #[.int .i64 0, .int .i64 0] 31)).alloc (.cells #[.int .i64 n, .slice xa 32 xc] 25)
    have hs2 : ((w1.alloc (.cells #[.int .i64 0, .int .i64 0] 31)).alloc (.cells #[.int .i64 n, .slice xa 32 xc] 25)).heap.size = w1.heap.size + 2 := by simp
    have ho' := fun g hg => (ho.lt g hg).2
    clear hR x0 y0 x1 y1 b0 b1 ho
    go_wp2_with fail
    generalize (w1.alloc (.cells #[.int .i64 0, .int .i64 0] 31)).alloc (.cells #[.int .i64 n, .slice xa 32 xc] 25) = W at *
    have n1 : w.heap.size ≠ w1.heap.size + 1 := by omega
    have n2 : w.heap.size + 1 ≠ w1.heap.size + 1 := by omega
    generalize w1.heap.size = q1 at *
    obtain ⟨u0, u1, u2, u3, u4, u5⟩ := box_three x2
    obtain ⟨v0, v1, v2, v3⟩ := box_two y2
    have hsW : W.drew.heap.size = q1 + 2 := hs2
    go_region_with (first | (go_at_call 24; refine (hS _ b2.drew).mono ?_; rintro e w5 ⟨va, vc, rfl, vs, hO, hRi, hb5⟩; have p0' := (hb5.cell (p := ⟨q1 + 1, 0, none⟩) (by rw [hsW]; show q1 + 1 < _; omega)).trans p0; have p1' := (hb5.cell (p := ⟨q1 + 1, 1, none⟩) (by rw [hsW]; show q1 + 1 < _; omega)).trans p1; obtain ⟨u0', u1', u2', u3', u4', u5'⟩ := box_three (box_kept (w := W.drew) x2 hb5); obtain ⟨v0', v1', v2', v3'⟩ := box_two (box_kept (w := W.drew) y2 hb5)))
    all_goals
      have b5 : Below w.heap.size w w5 := b2.drew.trans (hb5.mono b2.drew.size)
      have ho5 := own_below ho2 ((Below.refl _ W).drew.trans hb5) (Nat.le_refl _)
      rw [hsW] at hO
      have hk0 : w.heap.size < w0.heap.size := by omega
      have hk1 : w.heap.size + 1 < w0.heap.size := by omega
      have hk2 : w.heap.size < q1 + 2 := by omega
      have hk3 : w.heap.size + 1 < q1 + 2 := by omega
      go_wp2_with fail
      have hO6 := own3_set (o := 1) (own3_set (o := 0) (own3_set (o := 2) (own3_set (o := 1) (own3_set (o := 0) hO hk2 (.int .i64 n)) hk2 (.slice xa 32 xc)) hk2 (.slice va SG.length vc)) hk3 (.int .i64 0)) hk3 (.int .i64 0)
      have ho6 := ownsRow_setCell_below (a := ⟨w.heap.size + 1, 1, none⟩) (ownsRow_setCell_below (a := ⟨w.heap.size + 1, 0, none⟩) (ownsRow_setCell_below (a := ⟨w.heap.size, 2, none⟩) (ownsRow_setCell_below (a := ⟨w.heap.size, 1, none⟩) (ownsRow_setCell_below (a := ⟨w.heap.size, 0, none⟩) ho5 hk0 (.int .i64 n)) hk0 (.slice xa 32 xc)) hk0 (.slice va SG.length vc)) hk1 (.int .i64 0)) hk1 (.int .i64 0)
      have b6 := ((((b5.setCell (p := ⟨w.heap.size, 0, none⟩) (Nat.le_refl _) (.int .i64 n)).setCell (p := ⟨w.heap.size, 1, none⟩) (Nat.le_refl _) (.slice xa 32 xc)).setCell (p := ⟨w.heap.size, 2, none⟩) (Nat.le_refl _) (.slice va SG.length vc)).setCell (p := ⟨w.heap.size + 1, 0, none⟩) (Nat.le_succ _) (.int .i64 0)).setCell (p := ⟨w.heap.size + 1, 1, none⟩) (Nat.le_succ _) (.int .i64 0)
      refine bodyPost_ret (v := .tuple #[.agg #[.int .i64 n, .slice xa 32 xc, .slice va SG.length vc], faultV (0, 0)]) (by simp [results, Tryd.results7, go_sem, u0', u1', u2', v0', v1']) rfl ⟨xa, xc, va, vc, vs, rfl, ownsRow_base ho6 (by omega), own3_base hO6 (by omega), hRi, fun j y g h1 h2 h3 h4 => ?_, b6⟩
      obtain ⟨-, -, x, g2, g3⟩ := hO.2.2 j h2
      rw [h1] at g2
      cases g2
      have q1' := (g3.lt g h3).1
      have q2' := ho' g h4
      omega
set_option maxRecDepth 100000 in
set_option maxHeartbeats 4000000 in
theorem exportC_of (hRoot : RootC) (hPack : PackOC) : ExportC := by
  intro L a n c w hr hL
  by_cases h0 : (wrongL L).1 = 0
  · have hE : exportL L = ⟨L.length, mth L, segsL L⟩ := by unfold exportL; rw [if_neg (fun h => h h0)]
    obtain ⟨h100, h200⟩ := wrong_ok h0
    have hsb : SegsBytes (segsL L) := segsL_bytes hL.bytes (mem_short h200)
    rw [hE, wrong_whole h0]
    refine (exportO_of hRoot hPack L a n c w hr hL h0).mono ?_
    rintro e w' ⟨xa, xc, va, vc, vs, rfl, h1, h2, -, -, hb⟩
    have hl := mth_length L
    exact ⟨_, rfl, ⟨_, _, by rw [hL.len], ⟨bytesAt_own h1, bytes_mth L, by show (mth L).length ≤ maxLen; rw [hl]; unfold maxLen; omega⟩, OwnSegs.segs ⟨vs, h2⟩ hsb⟩, hb⟩
  have b0 : Below w.heap.size w ((w.alloc (.cells #[.int .i64 0, .slice none 0 0, .slice none 0 0] 28)).alloc (.cells #[.int .i64 0, .int .i64 0] 31)) := ((Below.refl _ _).alloc (Nat.le_refl _) _).alloc (by simp) _
  have hR := hRoot L a n c _ (hr.below b0) (hL.below b0)
  have x0 := box_old _ (.cells #[.int .i64 0, .int .i64 0] 31) (box_new w #[.int .i64 0, .slice none 0 0, .slice none 0 0] 28)
  have y0 := box_last w (.cells #[.int .i64 0, .slice none 0 0, .slice none 0 0] 28) #[.int .i64 0, .int .i64 0] 31
  have z0 : ((w.alloc (.cells #[.int .i64 0, .slice none 0 0, .slice none 0 0] 28)).alloc (.cells #[.int .i64 0, .int .i64 0] 31)).heap.size = w.heap.size + 2 := by simp
  · have hE : exportL L = man0 := by unfold exportL; rw [if_pos h0]
    have i1 : ((wrongL L).1 != 0) = true := by simpa using h0
    rw [hE]
    generalize wrongL L = p at *
    obtain ⟨x, y⟩ := p
    dsimp only at h0 i1 ⊢
    go_enter Tryd.func7, Tryd.ntmps7
    go_wp2_with fail
    generalize (w.alloc (.cells #[.int .i64 0, .slice none 0 0, .slice none 0 0] 28)).alloc (.cells #[.int .i64 0, .int .i64 0] 31) = w0 at *
    refine hR.mono ?_
    rintro e w1 ⟨xa, xn, xc, rfl, -, hxn, hb1⟩
    have b1 : Below w.heap.size w w1 := b0.trans (hb1.mono b0.size)
    have x1 := box_kept x0 hb1
    have y1 := box_kept y0 hb1
    obtain ⟨p0, p1, -, -⟩ := box_two (box_new w1 #[.int .i64 x, .int .i64 y] 31)
    have x2 := box_old _ (.cells #[.int .i64 x, .int .i64 y] 31) x1
    have y2 := box_old _ (.cells #[.int .i64 x, .int .i64 y] 31) y1
    have b2 : Below w.heap.size w (w1.alloc (.cells #[.int .i64 x, .int .i64 y] 31)) := b1.alloc b1.size _
    have n1 : w.heap.size ≠ w1.heap.size := by have := hb1.size; omega
    have n2 : w.heap.size + 1 ≠ w1.heap.size := by have := hb1.size; omega
    obtain ⟨u0, u1, u2, u3, u4, u5⟩ := box_three x2
    obtain ⟨v0, v1, v2, v3⟩ := box_two y2
    clear hR x0 y0 x1 y1 b0 b1
    go_wp2_with fail
    generalize w1.alloc (.cells #[.int .i64 x, .int .i64 y] 31) = W at *
    generalize w1.heap.size = q1 at *
    go_region_with (fail)
    all_goals
      go_wp2_with fail
      exact bodyPost_ret (v := .tuple #[.agg #[.int .i64 0, .slice none 0 0, .slice none 0 0], faultV (x, y)]) (by simp [results, Tryd.results7, go_sem, u0, u1, u2, v0, v1]) rfl ⟨_, rfl, man0_at _, by repeat (first | exact b2 | apply Below.drew | refine Below.setCell ?_ (by first | exact Nat.le_refl _ | exact Nat.le_succ _) _)⟩

end Go.Proofs.YtkjlchfmplcobadDoor
