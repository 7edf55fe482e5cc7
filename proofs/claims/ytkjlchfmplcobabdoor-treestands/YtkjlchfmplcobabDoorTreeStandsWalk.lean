/- The walk of the law TreeStands, over package tree's faces. -/
import Derived.Test.YtkjlchfmplcobabDoorProg
import Derived.Test.YtkjlchfmplcobabDoorTreeAlive
import Derived.WalkKit
import Derived.WalkSpells
import Derived.WalkLawsBesides
namespace Go.Proofs.YtkjlchfmplcobabDoor
open Go.RowKit

set_option maxRecDepth 100000 in
set_option maxHeartbeats 2000000 in
theorem stands2_any (hRoot : RootC) (hPath : PathC) (hStands : StandsC) (L : List (List Int)) (a : Option Addr) (n c : Nat) (w : World) (hR : Ready w) (hL : Lists w a n c L) :
    Calls Tryd.prog 3 #[.slice a n c] w fun e w' => e = .returned (.bool true) ∧ Below w.heap.size w w' := by
  have hcap := hL.cap
  have hroom := hL.room
  unfold maxLen at hcap
  go_enter Tryd.func3, Tryd.ntmps3
  go_wp2_with fail
  refine (alive2_any hRoot hPath hStands _ hR).mono ?_
  rintro e w1 ⟨rfl, b1⟩
  go_wp2_with fail
  have cR := hRoot L a n c _ (hR.below b1) (hL.below b1)
  have HOK : Hid ((wrongL L).1 = 0 → L.length ≤ 100 ∧ ∀ j, (L.getD j []).length ≤ 200) := wrong_ok
  have HPF : Hid ((wrongL L).1 = 0 → ∀ k : Nat, k < n → pathF L k = (0, 0)) := fun h k hk => by
    have hw : ¬ (wrongL L).1 ≠ 0 := by simpa using h
    unfold pathF; rw [if_neg hw, if_neg (by rw [hL.len]; omega)]
  generalize wrongL L = F at cR HOK HPF
  obtain ⟨F1, F2⟩ := F
  dsimp only [faultV] at cR HOK HPF
  refine cR.mono ?_
  rintro e w2 ⟨ra, rn, rc, rfl, hr, hr2, hb2⟩
  obtain ⟨c2, f0, -, sf⟩ := box_cells w2 (.int .i64 F1) (.int .i64 F2) 27
  have hb3 := hb2.trans (c2.mono hb2.size)
  have b3 := b1.trans (hb3.mono b1.size)
  by_cases hF : F1 ≠ 0
  · clear hr HPF HOK
    go_wp2_with fail
    go_ret
    exact ⟨rfl, b3⟩
  obtain rfl : F1 = 0 := by simpa using hF
  obtain ⟨hL100, hL200⟩ := HOK.out rfl
  have HPF' : Hid (∀ k : Nat, k < n → pathF L k = (0, 0)) := HPF.out rfl
  replace hr := hr rfl
  obtain rfl : rn = 32 := own_len hr
  have hm32 := mth_length L
  have hrS : Some' (w2.alloc (.cells #[.int .i64 0, .int .i64 F2] 27)) (.slice ra 32 rc) (mth L) := ⟨(bytesAt_own hr).below (Nat.le_refl _) c2, bytes_mth _, by rw [hm32]; unfold maxLen; omega⟩
  have HN : Hid (L.length = n) := hL.len
  have hn100 : n ≤ 100 := by have := hL.len; omega
  clear hr c2 hb2 hb3 HPF HOK cR hF hr2
  go_wp2_with fail
  generalize w2.alloc (.cells #[.int .i64 0, .int .i64 F2] 27) = W at *
  go_loopw [20] (fun i wr => ∃ k : Nat, k ≤ n ∧ i = .int .i64 k ∧ Below W.heap.size W wr) (fun i _ => n - (intOf i).toNat)
  case atStart => exact ⟨0, Nat.zero_le _, rfl, Below.refl _ _⟩
  case round =>
    obtain ⟨k, hk, rfl, hb⟩ := hrel
    have hbw : Below w.heap.size w wr := b3.trans (hb.mono b3.size)
    by_cases hlt : k < n
    · have i1 : (k : Int) < (n : Int) := by omega
      have cP := hPath L k a n c _ (hR.below hbw) (hL.below hbw)
      rw [HPF'.out k hlt] at cP
      dsimp only [faultV] at cP
      rw [Int.toNat_natCast] at cP
      have hps : (pathL L k).length ≤ 7 := path_short _ _ 7 (by have := HN.out; omega)
      have HST : Hid (standsL n (mth L) (L.getD k []) k (pathL L k) = true) := by
        have := stands_path (L := L) (i := k) hL100 (by have := HN.out; omega) (hL200 k)
        rw [HN.out] at this
        exact this
      go_wp2_with fail
      refine cP.mono ?_
      rintro e w4 ⟨xa, xn, xc, rfl, hp, -, hb4⟩
      replace hp := hp (by trivial)
      obtain ⟨a', c', e', -, -⟩ := hp.form
      have hxn : xn = (pathL L k).length := by injection e'
      have hpL := hp.lists (path_bytes _ _) (digs_short (path_digs _ _))
      obtain ⟨c4, g0, -, sg⟩ := box_cells w4 (.int .i64 0) (.int .i64 0) 27
      have hb5 := hb4.trans (c4.mono hb4.size)
      have hb6 := hb.trans (hb5.mono hb.size)
      have hbw6 : Below w.heap.size w (w4.alloc (.cells #[.int .i64 0, .int .i64 0] 27)) := b3.trans (hb6.mono b3.size)
      replace hpL := hpL.below c4
      have hrS6 := hrS.below hb6
      obtain ⟨lb, lo, pa, pc, rfl, hcj, hS⟩ := (hL.below hbw6).get k hlt
      have i2 : ¬ (16 : Int) < (xn : Int) := by omega
      have cS := hStands n (mth L) (L.getD k []) k (pathL L k) _ _ xa xn xc _ (hR.below hbw6) hrS6 hS hpL
      rw [HST.out] at cS
      clear hp cP hb4 hb5 c4 e' hxn hS hpL hrS6 HST
      generalize L.getD k [] = z at *
      go_wp2_with fail
      refine cS.mono ?_
      rintro e w7 ⟨rfl, hb7⟩
      have hb8 := hb6.trans (hb7.mono hb6.size)
      clear cS hb6 hb7
      go_wp2_with fail
      go_roundw
      case rel => exact ⟨k + 1, by omega, by go_num, hb8⟩
      case measure => simp [intOf]; omega
    · obtain rfl : k = n := by omega
      go_wp2_with fail
      go_ret
      exact ⟨rfl, hbw⟩

end Go.Proofs.YtkjlchfmplcobabDoor
