/- The walk of yearlaw2.alive, over package tree's faces. -/
import Derived.Test.YtkjlchfmplcobabDoorProg
import Derived.Test.YtkjlchfmplcobabDoorTreeThree
import Derived.WalkKit
import Derived.WalkSpells
import Derived.WalkLawsBesides
namespace Go.Proofs.YtkjlchfmplcobabDoor
open Go.RowKit

set_option maxRecDepth 100000 in
set_option maxHeartbeats 2000000 in
theorem alive2_any (hRoot : RootC) (hPath : PathC) (hStands : StandsC) (w : World) (hR : Ready w) :
    Calls Tryd.prog 9 #[] w fun e w' => e = .returned (.bool true) ∧ Below w.heap.size w w' := by
  obtain ⟨hB0, hL⟩ := three_at w
  have cR := hRoot three _ 3 3 _ (hR.below hB0) hL
  rw [three_wrong] at cR
  dsimp only [faultV] at cR
  have hPF : pathF three 1 = (0, 0) := by unfold pathF; rw [three_wrong]; rfl
  have cP : ∀ w', Below _ ((((w.alloc (.cells #[.int .u8 1] 5)).alloc (.cells #[.int .u8 2] 5)).alloc (.cells #[.int .u8 3] 5)).alloc (.cells #[.slice (some ⟨w.heap.size, 0, none⟩) 1 1, .slice (some ⟨w.heap.size + 1, 0, none⟩) 1 1, .slice (some ⟨w.heap.size + 1 + 1, 0, none⟩) 1 1] 24)) w' → _ := fun w' h => hPath three 1 _ 3 3 w' (hR.below (hB0.trans (h.mono hB0.size))) (hL.below h)
  rw [hPF, show Int.toNat 1 = 1 from rfl] at cP
  dsimp only [faultV] at cP
  have hm32 := mth_length three
  have hpl := three_path
  go_enter Tryd.func9, Tryd.ntmps9
  go_wp2_with fail
  generalize ((((w.alloc (.cells #[.int .u8 1] 5)).alloc (.cells #[.int .u8 2] 5)).alloc (.cells #[.int .u8 3] 5)).alloc (.cells #[.slice (some ⟨w.heap.size, 0, none⟩) 1 1, .slice (some ⟨w.heap.size + 1, 0, none⟩) 1 1, .slice (some ⟨w.heap.size + 1 + 1, 0, none⟩) 1 1] 24)) = W at *
  refine cR.mono ?_
  rintro e w1 ⟨ra, rn, rc, rfl, hr, -, hb1⟩
  replace hr := hr (by trivial)
  obtain rfl : rn = 32 := own_len hr
  obtain ⟨c1, f0, -, sf⟩ := box_cells w1 (.int .i64 0) (.int .i64 0) 27
  have b1 := hb1.trans (c1.mono hb1.size)
  have hrS : Some' (w1.alloc (.cells #[.int .i64 0, .int .i64 0] 27)) (.slice ra 32 rc) (mth three) := ⟨(bytesAt_own hr).below (Nat.le_refl _) c1, bytes_mth _, by rw [hm32]; unfold maxLen; omega⟩
  clear hr c1 cR
  go_wp2_with fail
  obtain ⟨gf, hgf⟩ : ∃ gf, w1.heap.size = gf := ⟨_, rfl⟩
  rw [hgf] at f0 sf ⊢
  clear hgf hb1
  generalize w1.alloc (.cells #[.int .i64 0, .int .i64 0] 27) = W1 at *
  refine (cP _ b1).mono ?_
  rintro e w2 ⟨xa, xn, xc, rfl, hp, -, hb2⟩
  replace hp := hp (by trivial)
  obtain ⟨a', c', e', -, -⟩ := hp.form
  rw [three_path] at e'
  obtain rfl : xn = 2 := by injection e'
  clear e'
  have hpL := hp.lists (path_bytes _ _) (digs_short (path_digs _ _))
  obtain ⟨c2, g0, -, sg⟩ := box_cells w2 (.int .i64 0) (.int .i64 0) 27
  have hb3 := hb2.trans (c2.mono hb2.size)
  have b3 := b1.trans (hb3.mono b1.size)
  replace hpL := hpL.below c2
  replace hrS := hrS.below hb3
  replace f0 := (hb3.cell (p := ⟨gf, 0, none⟩) sf).trans f0
  clear hp c2 cP b1 hb2
  go_wp2_with fail
  have z2 : (w2.alloc (.cells #[.int .i64 0, .int .i64 0] 27)).heap.size = w2.heap.size + 1 := by simp
  have lb := lit_bytes (w2.alloc (.cells #[.int .i64 0, .int .i64 0] 27)) 2 5 (by decide) (by decide)
  rw [z2] at lb
  have c3 : Below _ _ ((w2.alloc (.cells #[.int .i64 0, .int .i64 0] 27)).alloc (.cells #[.int .u8 2] 5)) := (Below.refl _ (w2.alloc (.cells #[.int .i64 0, .int .i64 0] 27))).alloc (Nat.le_refl _) _
  have b4 := b3.trans (c3.mono b3.size)
  replace hpL := hpL.below c3
  replace hrS := hrS.below c3
  have hxc := hpL.cap
  have hxr := hpL.room
  unfold maxLen at hxc
  clear b3 c3 z2 hb3 f0 g0 sf sg
  generalize (w2.alloc (.cells #[.int .i64 0, .int .i64 0] 27)).alloc (.cells #[.int .u8 2] 5) = W3 at *
  have cS := hStands 3 (mth three) [2] 1 (pathL three 1) _ _ xa 2 xc W3 (hR.below (hB0.trans (b4.mono hB0.size))) hrS lb hpL
  rw [three_stands] at cS
  refine cS.mono ?_
  rintro e w5 ⟨rfl, hb5⟩
  have b5 := b4.trans (hb5.mono b4.size)
  have lc := lit_bytes w5 2 5 (by decide) (by decide)
  have c5 : Below w5.heap.size w5 (w5.alloc (.cells #[.int .u8 2] 5)) := (Below.refl _ _).alloc (Nat.le_refl _) _
  have b6 := b5.trans (c5.mono b5.size)
  replace hpL := hpL.below (hb5.trans (c5.mono hb5.size))
  replace hrS := hrS.below (hb5.trans (c5.mono hb5.size))
  have hpT := hpL.take (k := 1) (by omega) (by omega)
  clear cS lb b4 b5 c5 hb5 hpL
  go_wp2_with fail
  generalize w5.alloc (.cells #[.int .u8 2] 5) = W5 at *
  have cT := hStands 3 (mth three) [2] 0 ((pathL three 1).take 1) _ _ xa 1 xc W5 (hR.below (hB0.trans (b6.mono hB0.size))) hrS lc hpT
  rw [three_not] at cT
  refine cT.mono ?_
  rintro e w7 ⟨rfl, hb7⟩
  have b7 := b6.trans (hb7.mono b6.size)
  have hbE : Below w.heap.size w w7 := hB0.trans (b7.mono hB0.size)
  clear cT b6 b7 hb7 hpT hrS lc
  go_wp2_with fail
  go_ret
  exact ⟨rfl, hbE⟩

end Go.Proofs.YtkjlchfmplcobabDoor
