/- The walk of the law ClashTwo, over the faces of packages tree and clash. -/
import Derived.Test.YtkjlchfmplcobacDoorProg
import Derived.Test.YtkjlchfmplcobacDoorClashStandsWalk
import Derived.WalkKit
import Derived.WalkSpells
import Derived.WalkLawsBesides
namespace Go.Proofs.YtkjlchfmplcobacDoor
open Go.RowKit

set_option maxRecDepth 100000 in
set_option maxHeartbeats 2000000 in
theorem clashTwo_any (hRoot : RootC) (hPath : PathC) (hStands : StandsC) (hClash : ClashStandsC) (L : List (List Int)) (i : Int) (x : List Int) (p : List (List Int)) (y : List Int) (q : List (List Int)) (xv yv : Value) (a : Option Addr) (n c : Nat) (pa : Option Addr) (pn pc : Nat) (qa : Option Addr) (qn qc : Nat) (w : World)
    (hR : Ready w) (hL : Lists w a n c L) (hx : Some' w xv x) (hp : Lists w pa pn pc p) (hy : Some' w yv y) (hq : Lists w qa qn qc q) :
    Calls Tryd.prog 5 #[.slice a n c, .int .i64 i, xv, .slice pa pn pc, yv, .slice qa qn qc] w fun e w' => e = .returned (.bool true) ∧ Below w.heap.size w w' := by
  have hcap := hL.cap
  have hroom := hL.room
  unfold maxLen at hcap
  have cA := alive3_any hRoot hPath hClash w hR
  have cR : ∀ w', Below w.heap.size w w' → _ := fun w' h => hRoot L a n c w' (hR.below h) (hL.below h)
  have cX : ∀ w', Below w.heap.size w w' → _ := fun w' h => hClash L x i p xv a n c pa pn pc w' (hR.below h) (hL.below h) (hx.below h) (hp.below h)
  have cY : ∀ w', Below w.heap.size w w' → _ := fun w' h => hClash L y i q yv a n c qa qn qc w' (hR.below h) (hL.below h) (hy.below h) (hq.below h)
  have cS : ∀ w' rv, Below w.heap.size w w' → Some' w' rv (mth L) → _ := fun w' rv h hr => hStands n (mth L) x i p rv xv pa pn pc w' (hR.below h) hr (hx.below h) (hp.below h)
  have cT : ∀ w' rv, Below w.heap.size w w' → Some' w' rv (mth L) → _ := fun w' rv h hr => hStands n (mth L) y i q rv yv qa qn qc w' (hR.below h) hr (hy.below h) (hq.below h)
  have cE : ∀ w', Below w.heap.size w w' → _ := fun w' h => same_any x y xv yv w' (hx.below h).at' (hy.below h).at' hx.short
  have hm32 := mth_length L
  have HC : Hid ((wrongL L).1 = 0 → standsL n (mth L) x i p = true → standsL n (mth L) y i q = true → x ≠ y → clashS L x i p = true ∨ clashS L x i p = false ∧ clashS L y i q = true) := fun h1 h2 h3 h4 => by
    have e : ∀ (b : List Int) (p : List (List Int)), standsL n (mth L) b i p = true → clashS L b i p = decide (L.getD i.toNat [] ≠ b) := fun b p h => by unfold clashS; rw [hL.len, decide_eq_true h1, h, Bool.true_and, Bool.true_and]
    rw [e x p h2, e y q h3]
    by_cases g : L.getD i.toNat [] = x
    · right; exact ⟨decide_eq_false (fun k => k g), decide_eq_true (by rw [g]; exact h4)⟩
    · left; exact decide_eq_true g
  generalize standsL n (mth L) x i p = sx at *
  generalize standsL n (mth L) y i q = sy at *
  generalize clashS L x i p = kx at *
  generalize clashS L y i q = ky at *
  generalize wrongL L = F at *
  obtain ⟨F1, F2⟩ := F
  dsimp only [faultV] at cR HC
  go_enter Tryd.func5, Tryd.ntmps5
  go_wp2_with fail
  refine cA.mono ?_
  rintro e w1 ⟨rfl, b1⟩
  go_wp2_with fail
  refine (cR _ b1).mono ?_
  rintro e w2 ⟨ra, rn, rc, rfl, hr, -, hb2⟩
  have b2 := b1.trans (hb2.mono b1.size)
  obtain ⟨c2, f0, -, sf⟩ := box_cells w2 (.int .i64 F1) (.int .i64 F2) 27
  have b3 := b2.trans (c2.mono b2.size)
  obtain ⟨c3, g0, g1, sg⟩ := box_cells (w2.alloc (.cells #[.int .i64 F1, .int .i64 F2] 27)) (.int .i64 (n : Int)) (.slice ra rn rc) 32
  have b4 := b3.trans (c3.mono b3.size)
  have f0' := (c3.cell (p := ⟨w2.heap.size, 0, none⟩) sf).trans f0
  clear cA cR
  by_cases hF : F1 = 0
  case neg =>
    have i1 : (F1 != 0) = true := by simpa using hF
    clear HC cS cT cE hr cX cY
    go_wp2_with fail
    go_ret
    exact ⟨rfl, b4⟩
  subst hF
  replace hr := hr rfl
  obtain rfl : rn = 32 := own_len hr
  have hrS : Some' ((w2.alloc (.cells #[.int .i64 0, .int .i64 F2] 27)).alloc (.cells #[.int .i64 (n : Int), .slice ra 32 rc] 32)) (.slice ra 32 rc) (mth L) := ⟨(bytesAt_own hr).below (Nat.le_refl _) (c2.trans (c3.mono c2.size)), bytes_mth _, by rw [hm32]; unfold maxLen; omega⟩
  have cS' := cS _ _ b4 hrS
  have HC' : Hid (sx = true → sy = true → x ≠ y → kx = true ∨ kx = false ∧ ky = true) := HC.out rfl
  clear HC cS hr c2 hb2 b1 b2 b3 f0
  have hW4 : ∀ w', Below ((w2.alloc (.cells #[.int .i64 0, .int .i64 F2] 27)).alloc (.cells #[.int .i64 (n : Int), .slice ra 32 rc] 32)).heap.size ((w2.alloc (.cells #[.int .i64 0, .int .i64 F2] 27)).alloc (.cells #[.int .i64 (n : Int), .slice ra 32 rc] 32)) w' → w'.cell? ⟨w2.heap.size + 1, 0, none⟩ = some (.int .i64 (n : Int)) ∧ w'.cell? ⟨w2.heap.size + 1, 1, none⟩ = some (.slice ra 32 rc) := fun w' h => by
    have hz : (w2.alloc (.cells #[.int .i64 0, .int .i64 F2] 27)).heap.size = w2.heap.size + 1 := by simp
    rw [hz] at sg g0 g1
    exact ⟨(h.cell (p := ⟨w2.heap.size + 1, 0, none⟩) sg).trans g0, (h.cell (p := ⟨w2.heap.size + 1, 1, none⟩) sg).trans g1⟩
  cases hsx : sx with
  | false =>
    rw [hsx] at cS'
    clear HC' cT cE cX cY hW4
    go_wp2_with fail
    refine cS'.mono ?_
    rintro e w5 ⟨rfl, hb5⟩
    have b5 := b4.trans (hb5.mono b4.size)
    go_wp2_with fail
    go_ret
    exact ⟨rfl, b5⟩
  | true =>
    rw [hsx] at cS'
    have HC2 : Hid (sy = true → x ≠ y → kx = true ∨ kx = false ∧ ky = true) := HC'.out hsx
    clear HC' hsx
    go_wp2_with fail
    refine cS'.mono ?_
    rintro e w5 ⟨rfl, hb5⟩
    have b5 := b4.trans (hb5.mono b4.size)
    have cT' := cT _ _ b5 (hrS.below hb5)
    obtain ⟨y0, y1⟩ := hW4 _ hb5
    clear cT hW4 cS' hrS
    cases hsy : sy with
    | false =>
      rw [hsy] at cT'
      clear HC2 cE cX cY
      go_wp2_with fail
      refine cT'.mono ?_
      rintro e w6 ⟨rfl, hb6⟩
      have b6 := b5.trans (hb6.mono b5.size)
      go_wp2_with fail
      go_ret
      exact ⟨rfl, b6⟩
    | true =>
      rw [hsy] at cT'
      have HC3 : Hid (x ≠ y → kx = true ∨ kx = false ∧ ky = true) := HC2.out hsy
      clear HC2 hsy
      go_wp2_with fail
      refine cT'.mono ?_
      rintro e w6 ⟨rfl, hb6⟩
      have b6 := b5.trans (hb6.mono b5.size)
      have hE := cE _ b6
      clear cT' cE
      by_cases hz : x = y
      · rw [decide_eq_true hz] at hE
        clear HC3 cX cY hz
        go_wp2_with fail
        refine hE.mono ?_
        rintro e w7 ⟨rfl, q7, rfl⟩
        have b7 := below_drewN' b6 q7
        go_wp2_with fail
        go_ret
        exact ⟨rfl, b7⟩
      · rw [decide_eq_false hz] at hE
        have hk := HC3.out hz
        clear HC3 hz
        go_wp2_with fail
        refine hE.mono ?_
        rintro e w7 ⟨rfl, q7, rfl⟩
        have b7 := below_drewN' b6 q7
        have cX' := cX _ b7
        clear hE cX
        rcases hk with rfl | ⟨rfl, rfl⟩
        · clear cY
          go_wp2_with fail
          refine cX'.mono ?_
          rintro e w8 ⟨vx, vy, rfl, ht, hb8⟩
          have b8 := b7.trans (hb8.mono b7.size)
          obtain ⟨x8, y8, xa, xc, ya, yc, rfl, rfl, -, t⟩ := told_call hR b8 ht
          clear ht cX'
          go_wp2_with fail
          refine t.mono ?_
          rintro e w9 ⟨rfl, hb9⟩
          have b9 := b8.trans (hb9.mono b8.size)
          go_wp2_with fail
          go_ret
          exact ⟨rfl, b9⟩
        · go_wp2_with fail
          refine cX'.mono ?_
          rintro e w8 ⟨vx, vy, rfl, -, hb8⟩
          have b8 := b7.trans (hb8.mono b7.size)
          have cY' := cY _ b8
          clear cX' cY
          go_wp2_with fail
          refine cY'.mono ?_
          rintro e w9 ⟨ux, uy, rfl, ht, hb9⟩
          have b9 := b8.trans (hb9.mono b8.size)
          obtain ⟨x8, y8, xa, xc, ya, yc, rfl, rfl, -, t⟩ := told_call hR b9 ht
          clear ht cY'
          go_wp2_with fail
          refine t.mono ?_
          rintro e w10 ⟨rfl, hb10⟩
          have b10 := b9.trans (hb10.mono b9.size)
          go_wp2_with fail
          go_ret
          exact ⟨rfl, b10⟩

end Go.Proofs.YtkjlchfmplcobacDoor
