/- The walk of Export: package shelf as it landed. -/
import Derived.Test.YtbkkfchcdfhfgadDoorProg
import Derived.Test.YtbkkfchcdfhfgadDoorShelfGoSegs
import Derived.WalkKit
import Derived.WalkSpells
import Derived.WalkLawsBesides
import Derived.Deep.RegionHeld3
import Derived.Deep.RegionWith
import Derived.BigRegion
namespace Go.Proofs.YtbkkfchcdfhfgadDoor
open Go.RowKit

theorem wrong_whole {L : List (List Int)} (h : (wrongL L).1 = 0) : wrongL L = (0, 0) := by
  obtain ⟨h1, h2⟩ := wrong_ok h
  exact wrong_zero h1 h2
set_option maxRecDepth 100000 in
set_option maxHeartbeats 4000000 in
theorem exportC_of (hRoot : RootC) (hPack : PackOC) : ExportC := by
  intro L a n c w hr hL
  have b0 : Below w.heap.size w ((w.alloc (.cells #[.int .i64 0, .slice none 0 0, .slice none 0 0] 28)).alloc (.cells #[.int .i64 0, .int .i64 0] 31)) := ((Below.refl _ _).alloc (Nat.le_refl _) _).alloc (by simp) _
  have hR := hRoot L a n c _ (hr.below b0) (hL.below b0)
  have x0 := box_old _ (.cells #[.int .i64 0, .int .i64 0] 31) (box_new w #[.int .i64 0, .slice none 0 0, .slice none 0 0] 28)
  have y0 := box_last w (.cells #[.int .i64 0, .slice none 0 0, .slice none 0 0] 28) #[.int .i64 0, .int .i64 0] 31
  have z0 : ((w.alloc (.cells #[.int .i64 0, .slice none 0 0, .slice none 0 0] 28)).alloc (.cells #[.int .i64 0, .int .i64 0] 31)).heap.size = w.heap.size + 2 := by simp
  by_cases h0 : (wrongL L).1 = 0
  · obtain ⟨h100, h200⟩ := wrong_ok h0
    have he := wrong_whole h0
    have hE : exportL L = ⟨L.length, mth L, segsL L⟩ := by unfold exportL; rw [if_neg (fun h => h h0)]
    rw [he] at hR ⊢
    rw [hE]
    have hS := fun w' (h : Below w.heap.size w w') => segments_any hPack L a n c w' (hL.below h) h100 h200
    have hby := hL.bytes
    have hlen := hL.len
    have hcap := hL.cap
    have hroom := hL.room
    unfold maxLen at hcap
    have hsb : SegsBytes (segsL L) := segsL_bytes hby (mem_short h200)
    have hmb := bytes_mth L
    have hml := mth_length L
    rw [hlen]
    clear hE he h0 hL hr hby h200
    generalize segsL L = SG at *
    generalize mth L = M at *
    go_enter Tryd.func7, Tryd.ntmps7
    go_wp2_with fail
    generalize (w.alloc (.cells #[.int .i64 0, .slice none 0 0, .slice none 0 0] 28)).alloc (.cells #[.int .i64 0, .int .i64 0] 31) = w0 at *
    refine hR.mono ?_
    rintro e w1 ⟨xa, xn, xc, rfl, ho, -, hb1⟩
    replace ho := ho trivial
    obtain rfl := own_len ho
    have b1 : Below w.heap.size w w1 := b0.trans (hb1.mono b0.size)
    have x1 := box_kept x0 hb1
    have y1 := box_kept y0 hb1
    have hs1 := hb1.size
    have b2 : Below w.heap.size w ((w1.alloc (.cells #[.int .i64 0, .int .i64 0] 31)).alloc (.cells #[.int .i64 n, .slice xa 32 xc] 25)) := (b1.alloc b1.size _).alloc (by have := b1.size; simp; omega) _
    have x2 := box_old _ (.cells #[.int .i64 n, .slice xa 32 xc] 25) (box_old _ (.cells #[.int .i64 0, .int .i64 0] 31) x1)
    have y2 := box_old _ (.cells #[.int .i64 n, .slice xa 32 xc] 25) (box_old _ (.cells #[.int .i64 0, .int .i64 0] 31) y1)
    obtain ⟨p0, p1, -, -⟩ := box_two (box_last w1 (.cells #[.int .i64 0, .int .i64 0] 31) #[.int .i64 n, .slice xa 32 xc] 25)
    have ho2 := (ho.alloc (.cells #[.int .i64 0, .int .i64 0] 31)).alloc (.cells #[.int .i64 n, .slice xa 32 xc] 25)
    have hs2 : ((w1.alloc (.cells #[.int .i64 0, .int .i64 0] 31)).alloc (.cells #[.int .i64 n, .slice xa 32 xc] 25)).heap.size = w1.heap.size + 2 := by simp
    clear hR x0 y0 x1 y1 b0 b1 ho
    go_wp2_with fail
    generalize (w1.alloc (.cells #[.int .i64 0, .int .i64 0] 31)).alloc (.cells #[.int .i64 n, .slice xa 32 xc] 25) = W at *
    have n1 : w.heap.size ≠ w1.heap.size + 1 := by omega
    have n2 : w.heap.size + 1 ≠ w1.heap.size + 1 := by omega
    generalize w1.heap.size = q1 at *
    obtain ⟨u0, u1, u2, u3, u4, u5⟩ := box_three x2
    obtain ⟨v0, v1, v2, v3⟩ := box_two y2
    have hsW : W.drew.heap.size = q1 + 2 := hs2
    go_region_with (first | (go_at_call 24; refine (hS _ b2.drew).mono ?_; rintro e w5 ⟨va, vc, rfl, hO, hb5⟩; have p0' := (hb5.cell (p := ⟨q1 + 1, 0, none⟩) (by rw [hsW]; show q1 + 1 < _; omega)).trans p0; have p1' := (hb5.cell (p := ⟨q1 + 1, 1, none⟩) (by rw [hsW]; show q1 + 1 < _; omega)).trans p1; obtain ⟨u0', u1', u2', u3', u4', u5'⟩ := box_three (box_kept (w := W.drew) x2 hb5); obtain ⟨v0', v1', v2', v3'⟩ := box_two (box_kept (w := W.drew) y2 hb5)))
    all_goals
      have b5 : Below w.heap.size w w5 := b2.drew.trans (hb5.mono b2.drew.size)
      have ho5 := own_below ho2 ((Below.refl _ W).drew.trans hb5) (Nat.le_refl _)
      rw [hsW] at hO
      have hk0 : w.heap.size < w0.heap.size := by omega
      have hk1 : w.heap.size + 1 < w0.heap.size := by omega
      have hk2 : w.heap.size < q1 + 2 := by omega
      have hk3 : w.heap.size + 1 < q1 + 2 := by omega
      go_wp2_with fail
      refine bodyPost_ret (v := .tuple #[.agg #[.int .i64 n, .slice xa 32 xc, .slice va SG.length vc], faultV (0, 0)]) (by simp [results, Tryd.results7, go_sem, u0', u1', u2', v0', v1']) rfl ⟨_, rfl, ⟨_, _, rfl, ⟨?_, hmb, by show M.length ≤ maxLen; rw [hml]; unfold maxLen; omega⟩, ?_⟩, ?_⟩
      · refine bytesAt_own (e := 5) (base := w0.heap.size) (n := 32) ?_
        exact ownsRow_setCell_below (ownsRow_setCell_below (ownsRow_setCell_below (ownsRow_setCell_below (ownsRow_setCell_below ho5 hk0 _) hk0 _) hk0 _) hk1 _) hk1 _
      · refine OwnSegs.segs (base := q1 + 2) ?_ hsb
        exact ((((hO.set hk2 _).set hk2 _).set hk2 _).set hk3 _).set hk3 _
      · exact ((((b5.setCell (Nat.le_refl _) _).setCell (Nat.le_refl _) _).setCell (Nat.le_refl _) _).setCell (Nat.le_succ _) _).setCell (Nat.le_succ _) _
  · have hE : exportL L = man0 := by unfold exportL; rw [if_pos h0]
    have i1 : ((wrongL L).1 != 0) = true := by simpa using h0
    rw [hE]
    generalize wrongL L = p at *
    obtain ⟨x, y⟩ := p
    dsimp only at h0 i1 ⊢
    go_enter Tryd.func7, Tryd.ntmps7
    go_wp2_with fail
    generalize (w.alloc (.cells #[.int .i64 0, .slice none 0 0, .slice none 0 0] 28)).alloc (.cells #[.int .i64 0, .int .i64 0] 31) = w0 at *
    refine hR.mono ?_
    rintro e w1 ⟨xa, xn, xc, rfl, -, hxn, hb1⟩
    have b1 : Below w.heap.size w w1 := b0.trans (hb1.mono b0.size)
    have x1 := box_kept x0 hb1
    have y1 := box_kept y0 hb1
    obtain ⟨p0, p1, -, -⟩ := box_two (box_new w1 #[.int .i64 x, .int .i64 y] 31)
    have x2 := box_old _ (.cells #[.int .i64 x, .int .i64 y] 31) x1
    have y2 := box_old _ (.cells #[.int .i64 x, .int .i64 y] 31) y1
    have b2 : Below w.heap.size w (w1.alloc (.cells #[.int .i64 x, .int .i64 y] 31)) := b1.alloc b1.size _
    have n1 : w.heap.size ≠ w1.heap.size := by have := hb1.size; omega
    have n2 : w.heap.size + 1 ≠ w1.heap.size := by have := hb1.size; omega
    obtain ⟨u0, u1, u2, u3, u4, u5⟩ := box_three x2
    obtain ⟨v0, v1, v2, v3⟩ := box_two y2
    clear hR x0 y0 x1 y1 b0 b1
    go_wp2_with fail
    generalize w1.alloc (.cells #[.int .i64 x, .int .i64 y] 31) = W at *
    generalize w1.heap.size = q1 at *
    go_region_with (fail)
    all_goals
      go_wp2_with fail
      exact bodyPost_ret (v := .tuple #[.agg #[.int .i64 0, .slice none 0 0, .slice none 0 0], faultV (x, y)]) (by simp [results, Tryd.results7, go_sem, u0, u1, u2, v0, v1]) rfl ⟨_, rfl, man0_at _, by repeat (first | exact b2 | apply Below.drew | refine Below.setCell ?_ (by first | exact Nat.le_refl _ | exact Nat.le_succ _) _)⟩

end Go.Proofs.YtbkkfchcdfhfgadDoor
