/- The walk of the law TreeTells. -/
import Derived.Test.YtkjlchfmplcobaaDoorProg
import Derived.Test.YtkjlchfmplcobaaDoorRunAB
import Derived.Test.YtkjlchfmplcobaaDoorTreeFaceGrows
import Derived.Test.YtkjlchfmplcobaaDoorTreeFaceLeaf
import Derived.WalkKit
import Derived.WalkSpells
import Derived.WalkLawsBesides
import Derived.Test.YtkjlchfmplcobaaDoorTreeRefMth
import Derived.Test.YtkjlchfmplcobaaDoorTreeRefWrong
import Derived.Test.YtkjlchfmplcobaaDoorTreeRefPush
import Derived.Test.YtkjlchfmplcobaaDoorTreeRefProof
namespace Go.Proofs.YtkjlchfmplcobaaDoor
open Go.RowKit

theorem refPush_form (size : Int) (ps : List (List Int)) (b : List Int) (bv : Value) (a : Option Addr) (n c : Nat) (w : World) (hP : Lists w a n c ps) (hb : Some' w bv b) :
    Calls Tryd.prog 22 #[.agg #[.int .i64 size, .slice a n c], bv] w fun e w' => ∃ xa xn xc, e = .returned (.tuple #[.agg #[.int .i64 (pushE size ps b).1, .slice xa xn xc], .int .i64 (pushE size ps b).2.1]) ∧ PartsAt w' (.slice xa xn xc) (pushE size ps b).2.2 ∧ Below w.heap.size w w' :=
  (refPush_any size ps b bv a n c w hP.len hP.at' hP.nil (Nat.le_trans hP.room hP.cap) hP.short hP.bytes hb.at' hb.bytes hb.short).mono fun _ _ ⟨v, he, hv, hb⟩ => by
    obtain ⟨xa, xc, rfl, -⟩ := hv.form
    exact ⟨xa, _, xc, he, hv, hb⟩
set_option maxRecDepth 100000 in
set_option maxHeartbeats 4000000 in
theorem tells2_any (hLeaf : LeafC) (hNode : NodeC) (hWrong : WrongC) (hRoot : RootC) (hPath : PathC) (hGrows : GrowsC) (hPush : PushC) (hTop : TopC)
    (L : List (List Int)) (i m size : Int) (ps : List (List Int)) (b : List Int) (a : Option Addr) (n c : Nat) (pa : Option Addr) (pn pc : Nat) (bv : Value) (w : World)
    (hR : Ready w) (hL : Lists w a n c L) (hP : Lists w pa pn pc ps) (hb : Some' w bv b) (hbl : b.length ≤ 2000000) :
    Calls Tryd.prog 7 #[.slice a n c, .int .i64 i, .int .i64 m, .agg #[.int .i64 size, .slice pa pn pc], bv] w fun e w' => e = .returned (.bool true) ∧ Below w.heap.size w w' := by
  obtain ⟨hB0, e0, e1, hs0⟩ := box_cells w (.int .i64 size) (.slice pa pn pc) 34
  have hn : L.length ≤ maxLen := by rw [hL.len]; exact Nat.le_trans hL.room hL.cap
  have dl : decide (leafL b = shaL (0 :: b)) = true := by simp [leafL]
  have dn : decide (nodeL b b = shaL (1 :: (b ++ b))) = true := by simp [nodeL]
  have ll := leafL_length b
  have ln := nodeL_length b b
  go_enter Tryd.func7, Tryd.ntmps7
  go_wp2_with fail
  generalize w.alloc (.cells #[.int .i64 size, .slice pa pn pc] 34) = W0 at *
  have up : ∀ w', Below W0.heap.size W0 w' → Below w.heap.size w w' := fun w' h => hB0.trans (h.mono (by omega))
  have ke : ∀ w', Below W0.heap.size W0 w' → w'.cell? ⟨w.heap.size, 0, none⟩ = some (.int .i64 size) ∧ w'.cell? ⟨w.heap.size, 1, none⟩ = some (.slice pa pn pc) := fun w' h => ⟨(h.cell (p := ⟨w.heap.size, 0, none⟩) hs0).trans e0, (h.cell (p := ⟨w.heap.size, 1, none⟩) hs0).trans e1⟩
  clear e0 e1 hB0
  refine (hWrong L a n c _ (hL.below (up _ (Below.refl _ _)))).mono ?_
  rintro e w1 ⟨rfl, b1⟩
  go_wp2_with fail
  refine (refWrong_any L _ _ (hL.below (up _ b1)).at' hn hL.short).mono ?_
  rintro e w2 ⟨rfl, hb2⟩
  have b2 := b1.trans (hb2.mono b1.size)
  clear b1 hb2
  go_wp2_with fail
  refine (hLeaf b bv _ (hR.below (up _ b2)) (hb.below (up _ b2)) (by omega)).mono ?_
  rintro e w3 ⟨x3, rfl, ho3, hb3⟩
  have b3 := b2.trans (hb3.mono b2.size)
  clear b2 hb3
  go_wp2_with fail
  refine (in_any b bv _ (hb.below (up _ b3)).at' (by omega)).mono ?_
  rintro e w4 ⟨x4, rfl, ho4, hb4⟩
  have b4 := b3.trans (hb4.mono b3.size)
  have q3 := (bytesAt_own ho3).below (Nat.le_refl _) hb4
  clear b3 ho3
  go_wp2_with fail
  refine (refSum_any (0 :: b) x4 _ (bytesAt_own ho4) (by simp; omega) (bytes_cons (by decide) (by decide) hb.bytes)).mono ?_
  rintro e w5 ⟨x5, rfl, ho5, hb5⟩
  have b5 := b4.trans (hb5.mono b4.size)
  replace q3 := q3.below (Nat.le_refl _) hb5
  clear b4 ho4 hb4 hb5
  go_wp2_with fail
  refine (same_any _ _ _ _ _ q3 (bytesAt_own ho5) (by unfold maxLen; omega)).mono ?_
  rintro e w6 ⟨rfl, q6, rfl⟩
  rw [dl]
  have b6 := below_drewN b5 q6
  clear q3 ho5 b5 dl ll
  generalize w5.drewN q6 = w6 at *
  go_wp2_with fail
  refine (hNode b b bv bv _ (hR.below (up _ b6)) (hb.below (up _ b6)) (hb.below (up _ b6)) (by omega)).mono ?_
  rintro e w7 ⟨x7, rfl, ho7, hb7⟩
  have b7 := b6.trans (hb7.mono b6.size)
  clear b6 hb7
  go_wp2_with fail
  refine (pair_any b b bv bv _ (hb.below (up _ b7)).at' (hb.below (up _ b7)).at' (by omega)).mono ?_
  rintro e w8 ⟨x8, rfl, ho8, hb8⟩
  have b8 := b7.trans (hb8.mono b7.size)
  have q7 := (bytesAt_own ho7).below (Nat.le_refl _) hb8
  clear b7 ho7
  go_wp2_with fail
  refine (refSum_any (1 :: (b ++ b)) x8 _ (bytesAt_own ho8) (by simp; omega) (bytes_cons (by decide) (by decide) (bytes_append hb.bytes hb.bytes))).mono ?_
  rintro e w9 ⟨x9, rfl, ho9, hb9⟩
  have b9 := b8.trans (hb9.mono b8.size)
  replace q7 := q7.below (Nat.le_refl _) hb9
  clear b8 ho8 hb8 hb9
  go_wp2_with fail
  refine (same_any _ _ _ _ _ q7 (bytesAt_own ho9) (by unfold maxLen; omega)).mono ?_
  rintro e w10 ⟨rfl, q10, rfl⟩
  rw [dn]
  have b10 := below_drewN b9 q10
  clear q7 ho9 b9 dn ln
  generalize w9.drewN q10 = w10 at *
  obtain ⟨e0, e1⟩ := ke _ b10
  go_wp2_with fail
  refine (hPush size ps b bv pa pn pc _ (hR.below (up _ b10)) (hP.below (up _ b10)) (hb.below (up _ b10))).mono ?_
  rintro e w11 ⟨xa, xn, xc, rfl, ho11, hb11⟩
  have b11 := b10.trans (hb11.mono b10.size)
  clear b10 hb11 e0 e1
  have hxP := ho11.parts
  clear ho11
  obtain ⟨c11, x0, x1, sx⟩ := box_cells w11 (.int .i64 (pushE size ps b).1) (.slice xa xn xc) 34
  have b12 := b11.trans (c11.mono b11.size)
  obtain ⟨e0, e1⟩ := ke _ b12
  go_wp2_with fail
  replace hxP := hxP.below (Nat.le_refl _) c11
  obtain ⟨gx, hgx⟩ : ∃ gx, w11.heap.size = gx := ⟨_, rfl⟩
  rw [hgx] at x0 x1 sx ⊢
  clear c11 b11 e0 e1 hgx
  generalize w11.alloc (.cells #[.int .i64 (pushE size ps b).1, .slice xa xn xc] 34) = W1 at *
  refine (refPush_form size ps b bv pa pn pc _ (hP.below (up _ b12)) (hb.below (up _ b12))).mono ?_
  rintro e w13 ⟨ya, yn, yc, rfl, hyP, hb13⟩
  have b13 := b12.trans (hb13.mono b12.size)
  replace hxP := hxP.below (Nat.le_refl _) hb13
  replace x0 := (hb13.cell (p := ⟨gx, 0, none⟩) sx).trans x0
  replace x1 := (hb13.cell (p := ⟨gx, 1, none⟩) sx).trans x1
  replace sx : gx < w13.heap.size := Nat.lt_of_lt_of_le sx hb13.size
  clear b12 hb13
  obtain ⟨c13, y0, y1, sy⟩ := box_cells w13 (.int .i64 (pushE size ps b).1) (.slice ya yn yc) 34
  have b14 := b13.trans (c13.mono b13.size)
  obtain ⟨e0, e1⟩ := ke _ b14
  go_wp2_with fail
  replace hxP := hxP.below (Nat.le_refl _) c13
  replace hyP := hyP.below (Nat.le_refl _) c13
  replace x0 := (c13.cell (p := ⟨gx, 0, none⟩) sx).trans x0
  replace x1 := (c13.cell (p := ⟨gx, 1, none⟩) sx).trans x1
  replace sx := Nat.lt_of_lt_of_le sx c13.size
  obtain ⟨gy, hgy⟩ : ∃ gy, w13.heap.size = gy := ⟨_, rfl⟩
  rw [hgy] at y0 y1 sy ⊢
  clear c13 b13 e0 e1 hgy
  generalize w13.alloc (.cells #[.int .i64 (pushE size ps b).1, .slice ya yn yc] 34) = W2 at *
  have cT := hTop size ps pa pn pc _ (hR.below (up _ b14)) (hP.below (up _ b14))
  have cU : ∀ w', Below W0.heap.size W0 w' → _ := fun w' h => refTop_any size ps _ w' (hP.below (up _ h)).at' (by rw [hP.len]; exact Nat.le_trans hP.room hP.cap) hP.short hP.bytes
  have htl := top_len size ps hP.bytes
  generalize (if rightL size 100 ps = true then topL ps else []) = TL at *
  generalize (if rightL size 100 ps = true then (0 : Int) else 2) = te at *
  refine cT.mono ?_
  rintro e w15 ⟨t, rfl, hT, hb15⟩
  have b15 := b14.trans (hb15.mono b14.size)
  obtain ⟨e0, e1⟩ := ke _ b15
  go_wp2_with fail
  refine (cU _ b15).mono ?_
  rintro e w16 ⟨u, rfl, hU, hb16⟩
  have hb17 := hb15.trans (hb16.mono hb15.size)
  have b17 := b14.trans (hb17.mono b14.size)
  replace hT := hT.below (Nat.le_refl _) hb16
  replace hxP := hxP.below (Nat.le_refl _) hb17
  replace hyP := hyP.below (Nat.le_refl _) hb17
  replace x0 := (hb17.cell (p := ⟨gx, 0, none⟩) sx).trans x0
  replace x1 := (hb17.cell (p := ⟨gx, 1, none⟩) sx).trans x1
  replace y0 := (hb17.cell (p := ⟨gy, 0, none⟩) sy).trans y0
  replace y1 := (hb17.cell (p := ⟨gy, 1, none⟩) sy).trans y1
  clear b14 b15 hb15 hb16 hb17 e0 e1
  have hpl := pushE_fit size ps b (fun j => hP.short j)
  generalize pushE size ps b = E at *
  have d2 : (E.2.1 != E.2.1) = false := by simp
  have d3 : (te != te) = false := by simp
  go_wp2_with fail
  refine (refSameEdge_any E.1 E.1 E.2.2 E.2.2 _ _ _ hxP hyP hpl.1 hpl.2).mono ?_
  rintro e w18 ⟨rfl, hb18⟩
  rw [show (decide (E.1 = E.1) && decide (E.2.2 = E.2.2)) = true by simp]
  have b18 := b17.trans (hb18.mono b17.size)
  replace hT := hT.below (Nat.le_refl _) hb18
  replace hU := hU.below (Nat.le_refl _) hb18
  clear hxP hyP x0 x1 y0 y1 b17 hb18
  go_wp2_with fail
  refine (same_any _ _ _ _ _ hT hU htl).mono ?_
  rintro e w19 ⟨rfl, q19, rfl⟩
  rw [show decide (TL = TL) = true by simp]
  have b19 := below_drewN b18 q19
  clear hT hU b18
  generalize w18.drewN q19 = w19 at *
  go_wp2_with fail
  have cR := hRoot L a n c _ (hR.below (up _ b19)) (hL.below (up _ b19))
  have cP : ∀ w', Below W0.heap.size W0 w' → _ := fun w' h => hPath L i a n c w' (hR.below (up _ h)) (hL.below (up _ h))
  have cG : ∀ w', Below W0.heap.size W0 w' → _ := fun w' h => hGrows L m a n c w' (hR.below (up _ h)) (hL.below (up _ h))
  have cW : ∀ w', Below W0.heap.size W0 w' → _ := fun w' h => refWrong_any L _ w' (hL.below (up _ h)).at' hn hL.short
  have HOK : Hid ((wrongL L).1 = 0 → L.length ≤ 100 ∧ ∀ j, (L.getD j []).length ≤ 200) := wrong_ok
  have HP1 : Hid ((wrongL L).1 ≠ 0 → pathF L i = wrongL L) := fun h => if_pos h
  have HP2 : Hid ((wrongL L).1 = 0 → (i < 0 ∨ (n : Int) ≤ i) → pathF L i = (6, 0)) := fun h h2 => by unfold pathF; rw [if_neg (by simpa using h), hL.len, if_pos h2]
  have HP3 : Hid ((wrongL L).1 = 0 → ¬ (i < 0 ∨ (n : Int) ≤ i) → pathF L i = (0, 0)) := fun h h2 => by unfold pathF; rw [if_neg (by simpa using h), hL.len, if_neg h2]
  have HG1 : Hid ((wrongL L).1 ≠ 0 → growF L m = wrongL L) := fun h => if_pos h
  have HG2 : Hid ((wrongL L).1 = 0 → (m < 1 ∨ (n : Int) < m) → growF L m = (3, 0)) := fun h h2 => by unfold growF; rw [if_neg (by simpa using h), hL.len, if_pos h2]
  have HG3 : Hid ((wrongL L).1 = 0 → ¬ (m < 1 ∨ (n : Int) < m) → growF L m = (0, 0)) := fun h h2 => by unfold growF; rw [if_neg (by simpa using h), hL.len, if_neg h2]
  generalize wrongL L = F at cR cW HOK HP1 HP2 HP3 HG1 HG2 HG3
  generalize pathF L i = PF at cP HP1 HP2 HP3
  generalize growF L m = GF at cG HG1 HG2 HG3
  obtain ⟨F1, F2⟩ := F
  obtain ⟨PF1, PF2⟩ := PF
  obtain ⟨GF1, GF2⟩ := GF
  dsimp only [faultV] at cR cW cP cG HOK HP1 HP2 HP3 HG1 HG2 HG3
  clear hLeaf hNode hWrong hRoot hPath hGrows hPush hTop ke hP d2 d3
  refine cR.mono ?_
  rintro e w20 ⟨ra, rn, rc, rfl, hr1, hr2, hb20⟩
  have b20 := b19.trans (hb20.mono b19.size)
  obtain ⟨c20, f0, f1, sf⟩ := box_cells w20 (.int .i64 F1) (.int .i64 F2) 37
  have b21 := b20.trans (c20.mono b20.size)
  replace hr1 : F1 = 0 → BytesAt (w20.alloc (.cells #[.int .i64 F1, .int .i64 F2] 37)) (.slice ra rn rc) (mth L) := fun h => (bytesAt_own (hr1 h)).below (Nat.le_refl _) c20
  clear b19 hb20 b20 c20
  go_wp2_with fail
  obtain ⟨gf, hgf⟩ : ∃ gf, w20.heap.size = gf := ⟨_, rfl⟩
  rw [hgf] at f0 f1 sf ⊢
  clear hgf
  generalize w20.alloc (.cells #[.int .i64 F1, .int .i64 F2] 37) = W3 at *
  refine (cP _ b21).mono ?_
  rintro e w22 ⟨xa, xn, xc, rfl, hp1, hp2, hb22⟩
  have b22 := b21.trans (hb22.mono b21.size)
  obtain ⟨c22, g0, g1, sg⟩ := box_cells w22 (.int .i64 PF1) (.int .i64 PF2) 37
  have hb23 := hb22.trans (c22.mono hb22.size)
  have b23 := b21.trans (hb23.mono b21.size)
  replace hr1 : F1 = 0 → BytesAt (w22.alloc (.cells #[.int .i64 PF1, .int .i64 PF2] 37)) (.slice ra rn rc) (mth L) := fun h => (hr1 h).below (Nat.le_refl _) hb23
  replace hp1 : PF1 = 0 → PartsAt (w22.alloc (.cells #[.int .i64 PF1, .int .i64 PF2] 37)) (.slice xa xn xc) (pathL L i.toNat) := fun h => ((hp1 h).parts).below (Nat.le_refl _) c22
  replace f0 := (hb23.cell (p := ⟨gf, 0, none⟩) sf).trans f0
  replace f1 := (hb23.cell (p := ⟨gf, 1, none⟩) sf).trans f1
  replace sf := Nat.lt_of_lt_of_le sf hb23.size
  clear b21 hb22 b22 c22 hb23
  go_wp2_with fail
  obtain ⟨gg, hgg⟩ : ∃ gg, w22.heap.size = gg := ⟨_, rfl⟩
  rw [hgg] at g0 g1 sg ⊢
  clear hgg
  generalize w22.alloc (.cells #[.int .i64 PF1, .int .i64 PF2] 37) = W4 at *
  refine (cG _ b23).mono ?_
  rintro e w24 ⟨za, zn, zc, rfl, hg1, hg2, hb24⟩
  have b24 := b23.trans (hb24.mono b23.size)
  obtain ⟨c24, h0, h1, sh⟩ := box_cells w24 (.int .i64 GF1) (.int .i64 GF2) 37
  have hb25 := hb24.trans (c24.mono hb24.size)
  have b25 := b23.trans (hb25.mono b23.size)
  replace hr1 : F1 = 0 → BytesAt (w24.alloc (.cells #[.int .i64 GF1, .int .i64 GF2] 37)) (.slice ra rn rc) (mth L) := fun h => (hr1 h).below (Nat.le_refl _) hb25
  replace hp1 : PF1 = 0 → PartsAt (w24.alloc (.cells #[.int .i64 GF1, .int .i64 GF2] 37)) (.slice xa xn xc) (pathL L i.toNat) := fun h => (hp1 h).below (Nat.le_refl _) hb25
  replace hg1 : GF1 = 0 → PartsAt (w24.alloc (.cells #[.int .i64 GF1, .int .i64 GF2] 37)) (.slice za zn zc) (proofL L m.toNat true) := fun h => ((hg1 h).parts).below (Nat.le_refl _) c24
  replace f0 := (hb25.cell (p := ⟨gf, 0, none⟩) sf).trans f0
  replace f1 := (hb25.cell (p := ⟨gf, 1, none⟩) sf).trans f1
  replace g0 := (hb25.cell (p := ⟨gg, 0, none⟩) sg).trans g0
  replace g1 := (hb25.cell (p := ⟨gg, 1, none⟩) sg).trans g1
  replace sf := Nat.lt_of_lt_of_le sf hb25.size
  replace sg := Nat.lt_of_lt_of_le sg hb25.size
  clear b23 hb24 b24 c24 hb25
  go_wp2_with fail
  obtain ⟨gh, hgh⟩ : ∃ gh, w24.heap.size = gh := ⟨_, rfl⟩
  rw [hgh] at h0 h1 sh ⊢
  clear hgh
  generalize w24.alloc (.cells #[.int .i64 GF1, .int .i64 GF2] 37) = W5 at *
  refine (cW _ b25).mono ?_
  rintro e w26 ⟨rfl, hb26⟩
  obtain ⟨c26, k0, k1, sk⟩ := box_cells w26 (.int .i64 F1) (.int .i64 F2) 37
  have hb27 := hb26.trans (c26.mono hb26.size)
  have b27 := b25.trans (hb27.mono b25.size)
  replace hr1 : F1 = 0 → BytesAt (w26.alloc (.cells #[.int .i64 F1, .int .i64 F2] 37)) (.slice ra rn rc) (mth L) := fun h => (hr1 h).below (Nat.le_refl _) hb27
  replace hp1 : PF1 = 0 → PartsAt (w26.alloc (.cells #[.int .i64 F1, .int .i64 F2] 37)) (.slice xa xn xc) (pathL L i.toNat) := fun h => (hp1 h).below (Nat.le_refl _) hb27
  replace hg1 : GF1 = 0 → PartsAt (w26.alloc (.cells #[.int .i64 F1, .int .i64 F2] 37)) (.slice za zn zc) (proofL L m.toNat true) := fun h => (hg1 h).below (Nat.le_refl _) hb27
  replace f0 := (hb27.cell (p := ⟨gf, 0, none⟩) sf).trans f0
  replace f1 := (hb27.cell (p := ⟨gf, 1, none⟩) sf).trans f1
  replace g0 := (hb27.cell (p := ⟨gg, 0, none⟩) sg).trans g0
  replace g1 := (hb27.cell (p := ⟨gg, 1, none⟩) sg).trans g1
  replace h0 := (hb27.cell (p := ⟨gh, 0, none⟩) sh).trans h0
  replace h1 := (hb27.cell (p := ⟨gh, 1, none⟩) sh).trans h1
  replace sf := Nat.lt_of_lt_of_le sf hb27.size
  replace sg := Nat.lt_of_lt_of_le sg hb27.size
  replace sh := Nat.lt_of_lt_of_le sh hb27.size
  clear b25 hb26 c26 hb27 cR cP cG cW
  by_cases hF : F1 ≠ 0
  · obtain ⟨rfl, rfl⟩ : F1 = PF1 ∧ F2 = PF2 := by have := HP1.out hF; simp at this; exact ⟨this.1.symm, this.2.symm⟩
    obtain ⟨rfl, rfl⟩ : F1 = GF1 ∧ F2 = GF2 := by have := HG1.out hF; simp at this; exact ⟨this.1.symm, this.2.symm⟩
    obtain rfl := hr2 hF
    obtain rfl := hp2 hF
    obtain rfl := hg2 hF
    clear HP1 HP2 HP3 HG1 HG2 HG3 HOK hr1 hp1 hg1 hr2 hp2 hg2
    go_wp2_with fail
    go_ret
    exact ⟨rfl, up _ b27⟩
  · obtain rfl : F1 = 0 := by simpa using hF
    have hF0 : (0 : Int) = 0 := rfl
    obtain ⟨hL100, hL200⟩ := HOK.out hF0
    replace hr1 := hr1 hF0
    have hnl : n ≤ 100 := by have := hL.len; omega
    have hLv : ∀ w', Below w.heap.size w w' → Leaves w' a n c L := fun w' h => ⟨hL.len, (hL.below h).at', hL.room, hL.cap, hL.bytes, fun j => by have := hL200 j; omega⟩
    have hml := mth_length L
    clear HP1 HG1 HOK hF hr2
    go_wp2_with fail
    generalize w26.alloc (.cells #[.int .i64 0, .int .i64 F2] 37) = W6 at *
    have hbW := up _ b27
    refine ((hLv _ hbW).mth (by omega)).mono ?_
    rintro e w28 ⟨ma, mc, rfl, ho28, hb28⟩
    replace hr1 := hr1.below (Nat.le_refl _) hb28
    go_wp2_with fail
    refine (same_any _ _ _ _ _ hr1 (bytesAt_own ho28) (by rw [hml]; unfold maxLen; omega)).mono ?_
    rintro e w29 ⟨rfl, q29, rfl⟩
    rw [show decide (mth L = mth L) = true by simp]
    have hb29 := below_drewN hb28 q29
    replace hp1 : PF1 = 0 → PartsAt (w28.drewN q29) (.slice xa xn xc) (pathL L i.toNat) := fun h => (hp1 h).below (Nat.le_refl _) hb29
    replace hg1 : GF1 = 0 → PartsAt (w28.drewN q29) (.slice za zn zc) (proofL L m.toNat true) := fun h => (hg1 h).below (Nat.le_refl _) hb29
    replace g0 := (hb29.cell (p := ⟨gg, 0, none⟩) sg).trans g0
    replace g1 := (hb29.cell (p := ⟨gg, 1, none⟩) sg).trans g1
    replace h0 := (hb29.cell (p := ⟨gh, 0, none⟩) sh).trans h0
    replace h1 := (hb29.cell (p := ⟨gh, 1, none⟩) sh).trans h1
    replace sh := Nat.lt_of_lt_of_le sh hb29.size
    have hbE := hbW.trans (hb29.mono hbW.size)
    clear hr1 ho28 hb28 hb29 f0 f1 k0 k1 sf sg sk b27 hbW
    generalize w28.drewN q29 = w29 at *
    by_cases hi0 : i < 0
    · have hPF := HP2.out hF0 (.inl hi0)
      obtain ⟨rfl, rfl⟩ : PF1 = 6 ∧ PF2 = 0 := by simpa using hPF
      obtain rfl : xn = 0 := hp2 (by simp)
      clear HP2 HP3 hp1 hp2 hPF

      by_cases hmm : m < 1 ∨ (n : Int) < m
      · have hGF := HG2.out hF0 hmm
        obtain ⟨rfl, rfl⟩ : GF1 = 3 ∧ GF2 = 0 := by simpa using hGF
        obtain rfl : zn = 0 := hg2 (by simp)
        clear HG2 HG3 hg1 hg2 hGF
        go_wp2_with fail
        all_goals (go_ret; exact ⟨rfl, hbE⟩)
      · have hGF := HG3.out hF0 hmm
        obtain ⟨rfl, rfl⟩ : GF1 = 0 ∧ GF2 = 0 := by simpa using hGF
        have hqP := hg1 rfl
        obtain ⟨mm, rfl⟩ := Int.eq_ofNat_of_zero_le (show 0 ≤ m by omega)
        rw [Int.toNat_natCast] at hqP
        have hpl : (proofL L mm true).length ≤ 20 + 1 := proof_short _ _ 20 _ (by have := hL.len; omega)
        have hpd := proof_digs L mm true
        clear HG2 HG3 hg1 hg2 hGF
        go_wp2_with fail
        refine (refProof_any n L mm mm true a c _ rfl (by omega) (by omega) (by omega) (hLv _ hbE)).mono ?_
        rintro e w40 ⟨x40, rfl, ho40, hb40⟩
        replace hqP := hqP.below (Nat.le_refl _) hb40
        go_wp2_with fail
        refine (refSame_any _ _ _ _ _ hqP ho40.parts (by unfold maxLen; omega) (short_mem (fun x hx => by rw [hpd x hx]; unfold maxLen; omega))).mono ?_
        rintro e w41 ⟨rfl, q41, rfl⟩
        rw [show decide (proofL L mm true = proofL L mm true) = true by simp]
        have hbZ := below_drewN (hbE.trans (hb40.mono hbE.size)) q41
        go_wp2_with fail
        go_ret
        exact ⟨rfl, hbZ⟩
    by_cases hi1 : (n : Int) ≤ i
    · have hPF := HP2.out hF0 (.inr hi1)
      obtain ⟨rfl, rfl⟩ : PF1 = 6 ∧ PF2 = 0 := by simpa using hPF
      obtain rfl : xn = 0 := hp2 (by simp)
      clear HP2 HP3 hp1 hp2 hPF

      by_cases hmm : m < 1 ∨ (n : Int) < m
      · have hGF := HG2.out hF0 hmm
        obtain ⟨rfl, rfl⟩ : GF1 = 3 ∧ GF2 = 0 := by simpa using hGF
        obtain rfl : zn = 0 := hg2 (by simp)
        clear HG2 HG3 hg1 hg2 hGF
        go_wp2_with fail
        all_goals (go_ret; exact ⟨rfl, hbE⟩)
      · have hGF := HG3.out hF0 hmm
        obtain ⟨rfl, rfl⟩ : GF1 = 0 ∧ GF2 = 0 := by simpa using hGF
        have hqP := hg1 rfl
        obtain ⟨mm, rfl⟩ := Int.eq_ofNat_of_zero_le (show 0 ≤ m by omega)
        rw [Int.toNat_natCast] at hqP
        have hpl : (proofL L mm true).length ≤ 20 + 1 := proof_short _ _ 20 _ (by have := hL.len; omega)
        have hpd := proof_digs L mm true
        clear HG2 HG3 hg1 hg2 hGF
        go_wp2_with fail
        refine (refProof_any n L mm mm true a c _ rfl (by omega) (by omega) (by omega) (hLv _ hbE)).mono ?_
        rintro e w40 ⟨x40, rfl, ho40, hb40⟩
        replace hqP := hqP.below (Nat.le_refl _) hb40
        go_wp2_with fail
        refine (refSame_any _ _ _ _ _ hqP ho40.parts (by unfold maxLen; omega) (short_mem (fun x hx => by rw [hpd x hx]; unfold maxLen; omega))).mono ?_
        rintro e w41 ⟨rfl, q41, rfl⟩
        rw [show decide (proofL L mm true = proofL L mm true) = true by simp]
        have hbZ := below_drewN (hbE.trans (hb40.mono hbE.size)) q41
        go_wp2_with fail
        go_ret
        exact ⟨rfl, hbZ⟩
    · have hPF := HP3.out hF0 (by omega)
      obtain ⟨rfl, rfl⟩ : PF1 = 0 ∧ PF2 = 0 := by simpa using hPF
      have hpP := hp1 rfl
      obtain ⟨ii, rfl⟩ := Int.eq_ofNat_of_zero_le (show 0 ≤ i by omega)
      rw [Int.toNat_natCast] at hpP
      have hql : (pathL L ii).length ≤ 20 := path_short _ _ 20 (by have := hL.len; omega)
      have hqd := path_digs L ii
      clear HP2 HP3 hp1 hp2 hPF
      go_wp2_with fail
      refine (refPath_any n L ii ii a c _ rfl (by omega) (by omega) (hLv _ hbE)).mono ?_
      rintro e w30 ⟨x30, rfl, ho30, hb30⟩
      replace hpP := hpP.below (Nat.le_refl _) hb30
      go_wp2_with fail
      refine (refSame_any _ _ _ _ _ hpP ho30.parts (by unfold maxLen; omega) (short_mem (fun x hx => by rw [hqd x hx]; unfold maxLen; omega))).mono ?_
      rintro e w31 ⟨rfl, q31, rfl⟩
      rw [show decide (pathL L ii = pathL L ii) = true by simp]
      have hb31 := below_drewN hb30 q31
      replace hg1 : GF1 = 0 → PartsAt (w30.drewN q31) (.slice za zn zc) (proofL L m.toNat true) := fun h => (hg1 h).below (Nat.le_refl _) hb31
      replace h0 := (hb31.cell (p := ⟨gh, 0, none⟩) sh).trans h0
      replace h1 := (hb31.cell (p := ⟨gh, 1, none⟩) sh).trans h1
      replace hbE := hbE.trans (hb31.mono hbE.size)
      clear hpP ho30 hb30 hb31 g0 g1 sh hql hqd
      generalize w30.drewN q31 = w31 at *

      by_cases hmm : m < 1 ∨ (n : Int) < m
      · have hGF := HG2.out hF0 hmm
        obtain ⟨rfl, rfl⟩ : GF1 = 3 ∧ GF2 = 0 := by simpa using hGF
        obtain rfl : zn = 0 := hg2 (by simp)
        clear HG2 HG3 hg1 hg2 hGF
        go_wp2_with fail
        all_goals (go_ret; exact ⟨rfl, hbE⟩)
      · have hGF := HG3.out hF0 hmm
        obtain ⟨rfl, rfl⟩ : GF1 = 0 ∧ GF2 = 0 := by simpa using hGF
        have hqP := hg1 rfl
        obtain ⟨mm, rfl⟩ := Int.eq_ofNat_of_zero_le (show 0 ≤ m by omega)
        rw [Int.toNat_natCast] at hqP
        have hpl : (proofL L mm true).length ≤ 20 + 1 := proof_short _ _ 20 _ (by have := hL.len; omega)
        have hpd := proof_digs L mm true
        clear HG2 HG3 hg1 hg2 hGF
        go_wp2_with fail
        refine (refProof_any n L mm mm true a c _ rfl (by omega) (by omega) (by omega) (hLv _ hbE)).mono ?_
        rintro e w40 ⟨x40, rfl, ho40, hb40⟩
        replace hqP := hqP.below (Nat.le_refl _) hb40
        go_wp2_with fail
        refine (refSame_any _ _ _ _ _ hqP ho40.parts (by unfold maxLen; omega) (short_mem (fun x hx => by rw [hpd x hx]; unfold maxLen; omega))).mono ?_
        rintro e w41 ⟨rfl, q41, rfl⟩
        rw [show decide (proofL L mm true = proofL L mm true) = true by simp]
        have hbZ := below_drewN (hbE.trans (hb40.mono hbE.size)) q41
        go_wp2_with fail
        go_ret
        exact ⟨rfl, hbZ⟩

end Go.Proofs.YtkjlchfmplcobaaDoor
