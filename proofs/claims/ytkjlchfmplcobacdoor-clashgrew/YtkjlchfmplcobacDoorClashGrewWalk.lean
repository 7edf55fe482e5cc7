/- The walk of the law ClashGrew, over the faces of packages tree and clash. -/
import Derived.Test.YtkjlchfmplcobacDoorProg
import Derived.Test.YtkjlchfmplcobacDoorClashStandsWalk
import Derived.Test.YtkjlchfmplcobacDoorTreeGoBox
import Derived.WalkKit
import Derived.WalkSpells
import Derived.WalkLawsBesides
namespace Go.Proofs.YtkjlchfmplcobacDoor
open Go.RowKit

theorem grew_place {os ns : Int} {oroot nroot : List Int} {p : List (List Int)} (h : grewL os oroot ns nroot p = true) : 1 ≤ os ∧ os ≤ ns ∧ oroot.length = 32 := by
  unfold grewL at h
  split at h
  · cases h
  · omega
theorem told_drewN {w : World} {vx vy : Value} {ok : Bool} (h : Told w vx vy ok) (n : Nat) : Told (w.drewN n) vx vy ok := by
  obtain ⟨x, y, hx, hy, r⟩ := h
  exact ⟨x, y, hx.below (below_drewN' (Below.refl _ _) n), hy.below (below_drewN' (Below.refl _ _) n), r⟩
set_option maxRecDepth 100000 in
set_option maxHeartbeats 2000000 in
theorem clashGrew_any (hRoot : RootC) (hPath : PathC) (hGrew : GrewC) (hClash : ClashStandsC) (hClash2 : ClashGrewC) (L : List (List Int)) (os : Int) (oroot : List Int) (p : List (List Int)) (ov : Value) (a : Option Addr) (n c : Nat) (pa : Option Addr) (pn pc : Nat) (w : World)
    (hR : Ready w) (hL : Lists w a n c L) (ho : Some' w ov oroot) (hp : Lists w pa pn pc p) :
    Calls Tryd.prog 4 #[.slice a n c, .agg #[.int .i64 os, ov], .slice pa pn pc] w fun e w' => e = .returned (.bool true) ∧ Below w.heap.size w w' := by
  have hcap := hL.cap
  have hroom := hL.room
  unfold maxLen at hcap
  obtain ⟨oa, oc, eo⟩ := ho.at'.form
  subst eo
  have b0 : Below w.heap.size w (w.alloc (.cells #[.int .i64 os, .slice oa oroot.length oc] 32)) := (Below.refl _ _).alloc (Nat.le_refl _) _
  obtain ⟨-, z0, z1, sz⟩ := box_cells w (.int .i64 os) (.slice oa oroot.length oc) 32
  have k0 : ∀ w', Below (w.alloc (.cells #[.int .i64 os, .slice oa oroot.length oc] 32)).heap.size (w.alloc (.cells #[.int .i64 os, .slice oa oroot.length oc] 32)) w' → w'.cell? ⟨w.heap.size, 0, none⟩ = some (.int .i64 os) ∧ w'.cell? ⟨w.heap.size, 1, none⟩ = some (.slice oa oroot.length oc) := fun w' h => ⟨(h.cell (p := ⟨w.heap.size, 0, none⟩) sz).trans z0, (h.cell (p := ⟨w.heap.size, 1, none⟩) sz).trans z1⟩
  have cA := alive3_any hRoot hPath hClash _ (hR.below b0)
  have cR : ∀ w', Below w.heap.size w w' → _ := fun w' h => hRoot L a n c w' (hR.below h) (hL.below h)
  have cC : ∀ w', Below w.heap.size w w' → _ := fun w' h => hClash2 L os oroot p _ a n c pa pn pc w' (hR.below h) (hL.below h) (ho.below h) (hp.below h)
  have cG : ∀ w' rv, Below w.heap.size w w' → Some' w' rv (mth L) → _ := fun w' rv h hr => hGrew os oroot n (mth L) p _ rv pa pn pc w' (hR.below h) (ho.below h) hr (hp.below h)
  have hm32 := mth_length L
  have HC0 : Hid ((wrongL L).1 ≠ 0 → clashG L os oroot p = false) := fun h => by unfold clashG; rw [decide_eq_false h, Bool.false_and, Bool.false_and]
  have HC1 : Hid (grewL os oroot n (mth L) p = false → clashG L os oroot p = false) := fun h => by unfold clashG; rw [hL.len, h, Bool.and_false, Bool.false_and]
  have HC2 : Hid ((wrongL L).1 = 0 → grewL os oroot n (mth L) p = true → clashG L os oroot p = decide (mth (L.take os.toNat) ≠ oroot)) := fun h1 h2 => by unfold clashG; rw [hL.len, decide_eq_true h1, h2, Bool.true_and, Bool.true_and]
  have HPL : Hid (grewL os oroot n (mth L) p = true → 1 ≤ os ∧ os ≤ n) := fun h => by obtain ⟨h1, h2, -⟩ := grew_place h; exact ⟨h1, h2⟩
  have HOK : Hid ((wrongL L).1 = 0 → L.length ≤ 100 ∧ ∀ j, (L.getD j []).length ≤ 200) := wrong_ok
  generalize grewL os oroot n (mth L) p = st at *
  generalize clashG L os oroot p = ok at *
  generalize wrongL L = F at *
  obtain ⟨F1, F2⟩ := F
  dsimp only [faultV] at cR HC0 HC2 HOK
  clear z0 z1
  go_enter Tryd.func4, Tryd.ntmps4
  go_wp2_with fail
  refine cA.mono ?_
  rintro e w1 ⟨rfl, d1⟩
  have b1 := b0.trans (d1.mono b0.size)
  go_wp2_with fail
  refine (cR _ b1).mono ?_
  rintro e w2 ⟨ra, rn, rc, rfl, hr, -, hb2⟩
  have b2 := b1.trans (hb2.mono b1.size)
  have d2 := d1.trans (hb2.mono d1.size)
  obtain ⟨c2, f0, -, sf⟩ := box_cells w2 (.int .i64 F1) (.int .i64 F2) 27
  have b3 := b2.trans (c2.mono b2.size)
  have d3 := d2.trans (c2.mono d2.size)
  obtain ⟨y0, y1⟩ := k0 _ d3
  clear cA cR
  by_cases hF : F1 = 0
  case neg =>
    have i1 : (F1 != 0) = true := by simpa using hF
    obtain rfl := HC0.out hF
    clear HC0 HC1 HC2 HPL HOK cG hr
    go_wp2_with fail
    refine (cC _ b3).mono ?_
    rintro e w4 ⟨vx, vy, rfl, -, hb4⟩
    have b4 := b3.trans (hb4.mono b3.size)
    go_wp2_with fail
    go_ret
    exact ⟨rfl, b4⟩
  subst hF
  replace hr := hr rfl
  obtain rfl : rn = 32 := own_len hr
  have hrS : Some' (w2.alloc (.cells #[.int .i64 0, .int .i64 F2] 27)) (.slice ra 32 rc) (mth L) := ⟨(bytesAt_own hr).below (Nat.le_refl _) c2, bytes_mth _, by rw [hm32]; unfold maxLen; omega⟩
  have cG' := cG _ _ b3 hrS
  have d2' := d2.size
  clear hr c2 hb2 cG hrS b1 d1 d2
  cases hst : st with
  | false =>
    rw [hst] at cG'
    obtain rfl := HC1.out hst
    subst hst
    clear HC0 HC1 HC2 HPL HOK
    go_wp2_with fail
    refine cG'.mono ?_
    rintro e w4 ⟨rfl, hb4⟩
    have b4 := b3.trans (hb4.mono b3.size)
    obtain ⟨u0, u1⟩ := k0 _ (d3.trans (hb4.mono d3.size))
    go_wp2_with fail
    refine (cC _ b4).mono ?_
    rintro e w5 ⟨vx, vy, rfl, -, hb5⟩
    have b5 := b4.trans (hb5.mono b4.size)
    go_wp2_with fail
    go_ret
    exact ⟨rfl, b5⟩
  | true =>
    rw [hst] at cG'
    obtain ⟨h1, hn⟩ := HPL.out hst
    obtain ⟨m, rfl⟩ : ∃ m : Nat, os = (m : Int) := ⟨os.toNat, by omega⟩
    have hok := HC2.out rfl hst
    rw [Int.toNat_natCast] at hok
    obtain ⟨hL100, hL200⟩ := HOK.out rfl
    have hmn : m ≤ n := by omega
    have hm1 : 1 ≤ m := by omega
    have HW : Hid (wrongL (L.take m) = (0, 0)) := wrong_zero (by rw [List.length_take]; omega) (take_short hL200 m)
    have cM : ∀ w', Below w.heap.size w w' → _ := fun w' h => hRoot (L.take m) a m c w' (hR.below h) ((hL.below h).take hmn (by omega))
    rw [HW.out] at cM
    dsimp only [faultV] at cM
    have hM32 := mth_length (L.take m)
    have hMz := bytes_mth (L.take m)
    subst hst
    clear HC0 HC1 HC2 HPL HOK
    have hQ : ∀ w' xa xc, Below w.heap.size w w' → BytesAt w' (.slice xa 32 xc) (mth (L.take m)) → _ := fun w' xa xc h hx => same_any (mth (L.take m)) oroot _ _ w' hx (ho.below h).at' (by rw [hM32]; unfold maxLen; omega)
    obtain ⟨lb, lo, -, -, rfl, -, -⟩ := hL.get 0 (by omega)
    have f2 := box_new w2 #[.int .i64 0, .int .i64 F2] 27
    have hq1 : (w.alloc (.cells #[.int .i64 (m : Int), .slice oa oroot.length oc] 32)).heap.size ≤ w2.heap.size := d2'
    have hq0 : w.heap.size ≤ w2.heap.size := b2.size
    have j1 : (m : Int) ≤ (n : Int) := by omega
    have j2 : (m : Int) ≤ (c : Int) := by omega
    clear hL hp hMz hL100 hL200 hn h1
    generalize mth (L.take m) = M at *
    go_wp2_with fail
    refine cG'.mono ?_
    rintro e w4 ⟨rfl, hb4⟩
    have b4 := b3.trans (hb4.mono b3.size)
    have d4 := d3.trans (hb4.mono d3.size)
    obtain ⟨u0, u1⟩ := k0 _ d4
    clear cG'
    go_wp2_with fail
    refine (cM _ b4).mono ?_
    rintro e w5 ⟨xa, xn, xc, rfl, hx, -, hb5⟩
    replace hx := hx (by trivial)
    obtain rfl : xn = 32 := own_len hx
    have b5 := b4.trans (hb5.mono b4.size)
    have d5 := d4.trans (hb5.mono d4.size)
    have f5 := box_kept (box_kept f2 hb4) hb5
    obtain ⟨q0, q1, q2, q3⟩ := box_two f5
    have hq4 : w2.heap.size < w4.heap.size := lt_heap (box_kept f2 hb4)
    have hx6 := ownsRow_setCell_below (ownsRow_setCell_below hx (a := ⟨w2.heap.size, 0, none⟩) hq4 (.int .i64 0)) (a := ⟨w2.heap.size, 1, none⟩) hq4 (.int .i64 0)
    have b6 := (b5.setCell (p := ⟨w2.heap.size, 0, none⟩) hq0 (.int .i64 0)).setCell (p := ⟨w2.heap.size, 1, none⟩) hq0 (.int .i64 0)
    have d6 := (d5.setCell (p := ⟨w2.heap.size, 0, none⟩) hq1 (.int .i64 0)).setCell (p := ⟨w2.heap.size, 1, none⟩) hq1 (.int .i64 0)
    have f6 := heap_setCell_same _ _ 1 _ _ (.int .i64 0) (heap_setCell_same _ _ 0 _ _ (.int .i64 0) f5)
    obtain ⟨v0, v1⟩ := k0 _ d6
    clear hx cM f2 u0 u1
    go_wp2_with fail
    generalize (w5.setCell ⟨w2.heap.size, 0, none⟩ (.int .i64 0)).setCell ⟨w2.heap.size, 1, none⟩ (.int .i64 0) = W6 at *
    refine (cC _ b6).mono ?_
    rintro e w7 ⟨vx, vy, rfl, ht, hb7⟩
    have b7 := b6.trans (hb7.mono b6.size)
    have d7 := d6.trans (hb7.mono d6.size)
    obtain ⟨t0, t1⟩ := k0 _ d7
    have g7 : w7.cell? ⟨w2.heap.size, 0, none⟩ = some (.int .i64 0) := by
      have := cell_of_row w7 w2.heap.size 0 _ _ _ (box_kept f6 hb7)
      rw [this]; rfl
    have hE := hQ _ xa xc b7 ((bytesAt_own hx6).below (Nat.le_refl _) hb7)
    clear cC hQ hx6 v0 v1
    by_cases hz : M = oroot
    · rw [decide_eq_true hz] at hE
      rw [decide_eq_false (p := M ≠ oroot) (fun g => g hz)] at hok
      subst hok
      clear hz ht
      go_wp2_with fail
      refine hE.mono ?_
      rintro e w8 ⟨rfl, q8, rfl⟩
      have b8 := below_drewN' b7 q8
      go_wp2_with fail
      go_ret
      exact ⟨rfl, b8⟩
    · rw [decide_eq_false hz] at hE
      rw [decide_eq_true (p := M ≠ oroot) hz] at hok
      subst hok
      clear hz
      go_wp2_with fail
      refine hE.mono ?_
      rintro e w8 ⟨rfl, q8, rfl⟩
      have b8 := below_drewN' b7 q8
      have ht8 : Told (w7.drewN q8) vx vy true := told_drewN ht q8
      obtain ⟨x8, y8, ya, yc, za, zc, rfl, rfl, -, t⟩ := told_call hR b8 ht8
      clear ht ht8 hE
      go_wp2_with fail
      refine t.mono ?_
      rintro e w9 ⟨rfl, hb9⟩
      have b9 := b8.trans (hb9.mono b8.size)
      go_wp2_with fail
      go_ret
      exact ⟨rfl, b9⟩

end Go.Proofs.YtkjlchfmplcobacDoor
