/- The walk of yearlaw3.alive, over the faces of packages tree and clash. -/
import Derived.Test.YtkjlchfmplcobabDoorProg
import Derived.Test.YtkjlchfmplcobabDoorClashFace
import Derived.Test.YtkjlchfmplcobabDoorTreeThree
import Derived.WalkKit
import Derived.WalkSpells
import Derived.WalkLawsBesides
namespace Go.Proofs.YtkjlchfmplcobabDoor
open Go.RowKit

theorem three_path2 : (pathL three 2).length = 1 := by
  have h3 : splitN three.length = 2 := splitN_unique (a := 1) (by decide) (by decide)
  rw [pathL_right (by decide) (by rw [h3]; omega), h3, pathL_one (by decide)]
  rfl
theorem three_clash (p : List (List Int)) : clashS three [3] 2 p = false := by
  unfold clashS
  rw [decide_eq_false (p := three.getD (2 : Int).toNat [] ≠ [3]) (fun h => h rfl), Bool.and_false]
set_option maxRecDepth 100000 in
set_option maxHeartbeats 2000000 in
theorem alive3_any (hRoot : RootC) (hPath : PathC) (hClash : ClashStandsC) (w : World) (hR : Ready w) :
    Calls Tryd.prog 20 #[] w fun e w' => e = .returned (.bool true) ∧ Below w.heap.size w w' := by
  obtain ⟨hB0, hL⟩ := three_at w
  have cR := hRoot three _ 3 3 _ (hR.below hB0) hL
  rw [three_wrong] at cR
  dsimp only [faultV] at cR
  have hPF : pathF three 2 = (0, 0) := by unfold pathF; rw [three_wrong]; rfl
  have cP : ∀ w', Below _ ((((w.alloc (.cells #[.int .u8 1] 5)).alloc (.cells #[.int .u8 2] 5)).alloc (.cells #[.int .u8 3] 5)).alloc (.cells #[.slice (some ⟨w.heap.size, 0, none⟩) 1 1, .slice (some ⟨w.heap.size + 1, 0, none⟩) 1 1, .slice (some ⟨w.heap.size + 1 + 1, 0, none⟩) 1 1] 24)) w' → _ := fun w' h => hPath three 2 _ 3 3 w' (hR.below (hB0.trans (h.mono hB0.size))) (hL.below h)
  rw [hPF, show Int.toNat 2 = 2 from rfl] at cP
  dsimp only [faultV] at cP
  have hm32 := mth_length three
  go_enter Tryd.func20, Tryd.ntmps20
  go_wp2_with fail
  generalize ((((w.alloc (.cells #[.int .u8 1] 5)).alloc (.cells #[.int .u8 2] 5)).alloc (.cells #[.int .u8 3] 5)).alloc (.cells #[.slice (some ⟨w.heap.size, 0, none⟩) 1 1, .slice (some ⟨w.heap.size + 1, 0, none⟩) 1 1, .slice (some ⟨w.heap.size + 1 + 1, 0, none⟩) 1 1] 24)) = W at *
  refine cR.mono ?_
  rintro e w1 ⟨ra, rn, rc, rfl, hr, -, hb1⟩
  replace hr := hr (by trivial)
  obtain rfl : rn = 32 := own_len hr
  obtain ⟨c1, f0, -, sf⟩ := box_cells w1 (.int .i64 0) (.int .i64 0) 27
  have b1 := hb1.trans (c1.mono hb1.size)
  clear hr c1 cR
  go_wp2_with fail
  obtain ⟨gf, hgf⟩ : ∃ gf, w1.heap.size = gf := ⟨_, rfl⟩
  rw [hgf] at f0 sf ⊢
  clear hgf hb1
  generalize w1.alloc (.cells #[.int .i64 0, .int .i64 0] 27) = W1 at *
  refine (cP _ b1).mono ?_
  rintro e w2 ⟨xa, xn, xc, rfl, hp, -, hb2⟩
  replace hp := hp (by trivial)
  obtain ⟨a', c', e', -, -⟩ := hp.form
  rw [three_path2] at e'
  obtain rfl : xn = 1 := by injection e'
  clear e'
  have hpL := hp.lists (path_bytes _ _) (digs_short (path_digs _ _))
  obtain ⟨c2, g0, -, sg⟩ := box_cells w2 (.int .i64 0) (.int .i64 0) 27
  have hb3 := hb2.trans (c2.mono hb2.size)
  have b3 := b1.trans (hb3.mono b1.size)
  replace hpL := hpL.below c2
  replace f0 := (hb3.cell (p := ⟨gf, 0, none⟩) sf).trans f0
  replace sf := Nat.lt_of_lt_of_le sf hb3.size
  clear hp c2 cP b1 hb2
  go_wp2_with fail
  have z2 : (w2.alloc (.cells #[.int .i64 0, .int .i64 0] 27)).heap.size = w2.heap.size + 1 := by simp
  have lb := lit_bytes (w2.alloc (.cells #[.int .i64 0, .int .i64 0] 27)) 3 5 (by decide) (by decide)
  rw [z2] at lb
  have c3 : Below _ _ ((w2.alloc (.cells #[.int .i64 0, .int .i64 0] 27)).alloc (.cells #[.int .u8 3] 5)) := (Below.refl _ (w2.alloc (.cells #[.int .i64 0, .int .i64 0] 27))).alloc (Nat.le_refl _) _
  have b4 := b3.trans (c3.mono b3.size)
  replace hpL := hpL.below c3
  replace f0 := (c3.cell (p := ⟨gf, 0, none⟩) sf).trans f0
  replace g0 := (c3.cell (p := ⟨w2.heap.size, 0, none⟩) sg).trans g0
  replace sf := Nat.lt_of_lt_of_le sf c3.size
  replace sg := Nat.lt_of_lt_of_le sg c3.size
  clear b3 c3 z2 hb3
  generalize hgg : w2.heap.size = gg at *
  clear hgg
  generalize (w2.alloc (.cells #[.int .i64 0, .int .i64 0] 27)).alloc (.cells #[.int .u8 3] 5) = W3 at *
  have hLW := hL.below b4
  have cC := hClash three [3] 2 (pathL three 2) _ _ 3 3 xa 1 xc W3 (hR.below (hB0.trans (b4.mono hB0.size))) hLW lb hpL
  rw [three_clash] at cC
  refine cC.mono ?_
  rintro e w5 ⟨vx, vy, rfl, -, hb5⟩
  have hbE : Below w.heap.size w w5 := hB0.trans ((b4.trans (hb5.mono b4.size)).mono hB0.size)
  replace f0 := (hb5.cell (p := ⟨gf, 0, none⟩) sf).trans f0
  replace g0 := (hb5.cell (p := ⟨gg, 0, none⟩) sg).trans g0
  clear cC lb hpL hLW hb5 b4
  go_wp2_with fail
  go_ret
  exact ⟨rfl, hbE⟩

end Go.Proofs.YtkjlchfmplcobabDoor
