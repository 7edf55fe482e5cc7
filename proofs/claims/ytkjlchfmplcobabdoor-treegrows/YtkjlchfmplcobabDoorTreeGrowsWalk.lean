/- The walk of the law TreeGrows, over package tree's faces. -/
import Derived.Test.YtkjlchfmplcobabDoorProg
import Derived.Test.YtkjlchfmplcobabDoorTreeFaceGrows
import Derived.Test.YtkjlchfmplcobabDoorTreeAlive
import Derived.WalkKit
import Derived.WalkSpells
import Derived.WalkLawsBesides
namespace Go.Proofs.YtkjlchfmplcobabDoor
open Go.RowKit

theorem box_frozen (w : World) (x y : Value) (t : TypeId) : (w.alloc (.cells #[x, y] t)).frozen? ⟨w.heap.size, 0, none⟩ = false ∧ (w.alloc (.cells #[x, y] t)).frozen? ⟨w.heap.size, 1, none⟩ = false := ⟨by simp, by simp⟩

set_option maxRecDepth 100000 in
set_option maxHeartbeats 2000000 in
theorem grows2_any (hRoot : RootC) (hPath : PathC) (hStands : StandsC) (hGrows : GrowsC) (hGrew : GrewC) (L : List (List Int)) (m : Int) (a : Option Addr) (n c : Nat) (w : World) (hR : Ready w) (hL : Lists w a n c L) :
    Calls Tryd.prog 4 #[.slice a n c, .int .i64 m] w fun e w' => e = .returned (.bool true) ∧ Below w.heap.size w w' := by
  have hcap := hL.cap
  have hroom := hL.room
  unfold maxLen at hcap
  go_enter Tryd.func4, Tryd.ntmps4
  go_wp2_with fail
  refine (alive2_any hRoot hPath hStands _ hR).mono ?_
  rintro e w1 ⟨rfl, b1⟩
  go_wp2_with fail
  have cR := hRoot L a n c _ (hR.below b1) (hL.below b1)
  have HOK : Hid ((wrongL L).1 = 0 → L.length ≤ 100 ∧ ∀ j, (L.getD j []).length ≤ 200) := wrong_ok
  have HGF : Hid ((wrongL L).1 = 0 → ∀ k : Nat, 1 ≤ k → k ≤ n → growF L k = (0, 0)) := fun h k h1 hk => by
    have hw : ¬ (wrongL L).1 ≠ 0 := by simpa using h
    unfold growF; rw [if_neg hw, if_neg (by rw [hL.len]; omega)]
  generalize wrongL L = F at cR HOK HGF
  obtain ⟨F1, F2⟩ := F
  dsimp only [faultV] at cR HOK HGF
  refine cR.mono ?_
  rintro e w2 ⟨ra, rn, rc, rfl, hr, hr2, hb2⟩
  obtain ⟨c2, f0, f1, sf⟩ := box_cells w2 (.int .i64 F1) (.int .i64 F2) 27
  obtain ⟨z0, z1⟩ := box_frozen w2 (.int .i64 F1) (.int .i64 F2) 27
  have hb3 := hb2.trans (c2.mono hb2.size)
  have b3 := b1.trans (hb3.mono b1.size)
  by_cases hF : F1 ≠ 0
  · clear hr HGF HOK
    go_wp2_with fail
    go_ret
    exact ⟨rfl, b3⟩
  obtain rfl : F1 = 0 := by simpa using hF
  by_cases hm1 : m < 1
  · clear hr HGF HOK
    go_wp2_with fail
    go_ret
    exact ⟨rfl, b3⟩
  by_cases hmn : (n : Int) < m
  · clear hr HGF HOK
    go_wp2_with fail
    go_ret
    exact ⟨rfl, b3⟩
  obtain ⟨k, rfl⟩ := Int.eq_ofNat_of_zero_le (show 0 ≤ m by omega)
  obtain ⟨hL100, hL200⟩ := HOK.out rfl
  have hGF := HGF.out rfl k (by omega) (by omega)
  replace hr := hr rfl
  obtain rfl : rn = 32 := own_len hr
  have hm32 := mth_length L
  have hrS : Some' w2 (.slice ra 32 rc) (mth L) := ⟨bytesAt_own hr, bytes_mth _, by rw [hm32]; unfold maxLen; omega⟩
  have b2 := b1.trans (hb2.mono b1.size)
  have sw2 := b2.size
  have HN : Hid (L.length = n) := hL.len
  have hn100 : n ≤ 100 := by have := hL.len; omega
  have hTW : wrongL (L.take k) = (0, 0) := wrong_zero (by rw [List.length_take]; omega) (take_short hL200 k)
  have HGW : Hid (grewL k (mth (L.take k)) n (mth L) (proofL L k true) = true) := by
    have := grew_proof (L := L) (m := k) (by omega) (by have := HN.out; omega) hL100
    rw [HN.out] at this
    exact this
  have i1 : (k : Int) ≤ (c : Int) := by omega
  clear hr hb2 hb3 HGF HOK cR hF hr2
  go_wp2_with fail
  obtain ⟨gf, hgf⟩ : ∃ gf, w2.heap.size = gf := ⟨_, rfl⟩
  rw [hgf] at f0 f1 sf z0 z1 ⊢
  generalize w2.alloc (.cells #[.int .i64 0, .int .i64 F2] 27) = W at *
  have cT := hRoot (L.take k) a k c _ (hR.below b3) ((hL.below b3).take (by omega) (by omega))
  rw [hTW] at cT
  dsimp only [faultV] at cT
  refine cT.mono ?_
  rintro e w4 ⟨oa, on, oc, rfl, ho, -, hb4⟩
  replace ho := ho (by trivial)
  obtain rfl : on = 32 := own_len ho
  have b4 := b3.trans (hb4.mono b3.size)
  replace f0 := (hb4.cell (p := ⟨gf, 0, none⟩) sf).trans f0
  replace f1 := (hb4.cell (p := ⟨gf, 1, none⟩) sf).trans f1
  replace z0 := (hb4.frozen (p := ⟨gf, 0, none⟩) sf).trans z0
  replace z1 := (hb4.frozen (p := ⟨gf, 1, none⟩) sf).trans z1
  have hom := mth_length (L.take k)
  have c4 : Below w2.heap.size w2 w4 := c2.trans (hb4.mono c2.size)
  have c5 : Below w2.heap.size w2 ((w4.setCell ⟨gf, 0, none⟩ (.int .i64 0)).setCell ⟨gf, 1, none⟩ (.int .i64 0)) := (c4.setCell (by show _ ≤ gf; omega) _).setCell (by show _ ≤ gf; omega) _
  have b5 := b2.trans (c5.mono sw2)
  replace hrS := hrS.below c5
  have hgS : w4.grownBy ((w4.setCell ⟨gf, 0, none⟩ (.int .i64 0)).setCell ⟨gf, 1, none⟩ (.int .i64 0)) (some gf) := grownBy_setCell (grownBy_setCell (World.grownBy.refl _ _) _ _) _ _
  have ho5 := ho.kept hgS (by
    cases hq : (Value.slice oa 32 oc).ownBlock with
    | none => exact .inl rfl
    | some q => right; intro e; have := own_block ho hq; cases e; omega)
  have hoS : Some' ((w4.setCell ⟨gf, 0, none⟩ (.int .i64 0)).setCell ⟨gf, 1, none⟩ (.int .i64 0)) (.slice oa 32 oc) (mth (L.take k)) := ⟨bytesAt_own ho5, bytes_mth _, by rw [hom]; unfold maxLen; omega⟩
  have f5 : ((w4.setCell ⟨gf, 0, none⟩ (.int .i64 0)).setCell ⟨gf, 1, none⟩ (.int .i64 0)).cell? ⟨gf, 0, none⟩ = some (.int .i64 0) := by rw [World.cell?_setCell_other _ _ _ _ (by intro e; injection e; omega)]; exact World.cell?_setCell_same _ _ _ f0
  have s5 : gf < ((w4.setCell ⟨gf, 0, none⟩ (.int .i64 0)).setCell ⟨gf, 1, none⟩ (.int .i64 0)).heap.size := Nat.lt_of_lt_of_le (Nat.lt_of_lt_of_le sf hb4.size) hgS.size
  clear cT b3 hb4 c4 c5 hgS ho ho5 hgf c2
  go_wp2_with fail
  clear f0 f1 z0 z1
  generalize ((w4.setCell ⟨gf, 0, none⟩ (.int .i64 0)).setCell ⟨gf, 1, none⟩ (.int .i64 0)) = X at *
  have cG := hGrows L k a n c _ (hR.below b5) (hL.below b5)
  rw [hGF] at cG
  dsimp only [faultV] at cG
  rw [Int.toNat_natCast] at cG
  refine cG.mono ?_
  rintro e w6 ⟨xa, xn, xc, rfl, hp, -, hb6⟩
  replace hp := hp (by trivial)
  have hpL := hp.lists (proof_bytes _ _ _) (digs_short (proof_digs _ _ _))
  obtain ⟨c6, g0, -, sg⟩ := box_cells w6 (.int .i64 0) (.int .i64 0) 27
  have hb7 := hb6.trans (c6.mono hb6.size)
  have b7 := b5.trans (hb7.mono b5.size)
  replace hpL := hpL.below c6
  replace hrS := hrS.below hb7
  replace hoS := hoS.below hb7
  replace f5 := (hb7.cell (p := ⟨gf, 0, none⟩) s5).trans f5
  have cW := hGrew k (mth (L.take k)) n (mth L) (proofL L k true) _ _ xa xn xc _ (hR.below b7) hoS hrS hpL
  rw [HGW.out] at cW
  clear hp cG b5 hb6 hb7 c6 hpL hrS hoS
  go_wp2_with fail
  refine cW.mono ?_
  rintro e w8 ⟨rfl, hb8⟩
  have b8 := b7.trans (hb8.mono b7.size)
  clear cW hb8
  go_wp2_with fail
  go_ret
  exact ⟨rfl, b8⟩

end Go.Proofs.YtkjlchfmplcobabDoor
