/- The walk of the law PackTells, over the faces of package pack and the document's own answer. -/
import Derived.Test.YtkjlchfmplcobacProg
import Derived.Test.YtkjlchfmplcobacPackSame
import Derived.Test.YtkjlchfmplcobacShaSame
import Derived.Test.YtkjlchfmplcobacShelfLay
import Derived.Test.YtkjlchfmplcobacPackRefTokens
import Derived.Test.YtkjlchfmplcobacPackRefText
import Derived.Test.YtkjlchfmplcobacPackRefUnpack
import Derived.Test.YtkjlchfmplcobacPackRefWrite
import Derived.WalkKit
import Derived.WalkSpells
import Derived.WalkLawsBesides
namespace Go.Proofs.Ytkjlchfmplcobac
open Go.RowKit

set_option maxRecDepth 100000 in
set_option maxHeartbeats 2000000 in
theorem packTells_any (hTok : TokensC) (hText : TextC) (hPack : PackC) (hUn : UnpackC) (b : List Int) (l : List Tok) (p : List Int) (bv lv pv : Value) (w : World) (hb : Some' w bv b) (hl : ToksAt w lv l) (hp : Some' w pv p) (hpr : RoomV pv p.length) :
    Calls Try.prog 3 #[bv, lv, pv] w fun e w' => e = .returned (.bool true) ∧ Below w.heap.size w w' := by
  have cT := hTok b bv w hb
  have rT : ∀ w', Below w.heap.size w w' → _ := fun w' h => refTokens_any b bv w' (hb.below h)
  have cX : ∀ w', Below w.heap.size w w' → _ := fun w' h => hText l lv w' (hl.below (Nat.le_refl _) h)
  have rX : ∀ w', Below w.heap.size w w' → _ := fun w' h => refText_any l lv w' (hl.below (Nat.le_refl _) h)
  have cP : ∀ w', Below w.heap.size w w' → _ := fun w' h => hPack b bv w' (hb.below h)
  have rP : ∀ w', Below w.heap.size w w' → _ := fun w' h => refPack_any b bv w' (hb.below h)
  have cU : ∀ w', Below w.heap.size w w' → _ := fun w' h => hUn p pv w' (hp.below h) hpr
  have rU : ∀ w', Below w.heap.size w w' → _ := fun w' h => refUnpack_any p pv w' (hp.below h)
  have hul := unpack_len p
  have hpl : (packE b).length ≤ maxLen := by
    unfold packE; split
    · exact Nat.zero_le _
    · have := pack_short (b := b) (by omega); unfold maxLen; omega
  obtain ⟨ba, bc, eb⟩ := hb.at'.form
  obtain ⟨pa, pc, ep⟩ := hp.at'.form
  obtain ⟨la, lc, el, -⟩ := hl.form
  subst eb ep el
  generalize toksE b = T at *
  generalize packE b = P at *
  generalize muchE b = E at *
  generalize unpackL p = U at *
  generalize textL l = X at *
  obtain ⟨X0, X1, X2⟩ := X
  obtain ⟨U0, U1⟩ := U
  dsimp only [faultV4] at cX rX cU rU hul
  have hE : (E != E) = false := by simp
  have hU : (U1 == U1) = true := by simp
  go_enter Try.func3, Try.ntmps3
  go_wp2_with fail
  refine cT.mono ?_
  rintro e w1 ⟨v1, rfl, h1, b1⟩
  clear cT
  go_wp2_with fail
  refine (rT _ b1).mono ?_
  rintro e w2 ⟨v2, rfl, h2, hb2⟩
  have b2 := b1.trans (hb2.mono b1.size)
  have sT := tokSame_any T T v1 v2 w2 (h1.below (Nat.le_refl _) hb2) h2
  rw [decide_eq_true rfl] at sT
  clear rT h1 h2
  go_wp2_with fail
  refine sT.mono ?_
  rintro e w3 ⟨rfl, q3, rfl⟩
  have b3 := below_drewN' b2 q3
  clear sT
  generalize w2.drewN q3 = w3 at *
  go_wp2_with fail
  refine (cX _ b3).mono ?_
  rintro e w4 ⟨v4, rfl, h4, hr4, hb4⟩
  have b4 := b3.trans (hb4.mono b3.size)
  have hx4 : X0.length ≤ maxLen := by obtain ⟨_, _, -, q1, q2⟩ := hr4; omega
  obtain ⟨d5, f0, f1, sf⟩ := box_cells w4 (.int .i64 X1) (.int .i64 X2) 29
  have b5 := b4.trans (d5.mono b4.size)
  have h5 := h4.below (Nat.le_refl _) d5
  clear cX h4 hr4
  go_wp2_with fail
  generalize w4.alloc (.cells #[.int .i64 X1, .int .i64 X2] 29) = w5 at *
  refine (rX _ b5).mono ?_
  rintro e w6 ⟨v6, rfl, h6, hb6⟩
  have b6 := b5.trans (hb6.mono b5.size)
  have g0 := (hb6.cell (p := ⟨w4.heap.size, 0, none⟩) sf).trans f0
  have g1 := (hb6.cell (p := ⟨w4.heap.size, 1, none⟩) sf).trans f1
  obtain ⟨d7, e0, e1, se⟩ := box_cells w6 (.int .i64 X1) (.int .i64 X2) 29
  have b7 := b6.trans (d7.mono b6.size)
  have g0' := (d7.cell (p := ⟨w4.heap.size, 0, none⟩) (Nat.lt_of_lt_of_le sf hb6.size)).trans g0
  have g1' := (d7.cell (p := ⟨w4.heap.size, 1, none⟩) (Nat.lt_of_lt_of_le sf hb6.size)).trans g1
  have sX := same_any X0 X0 v4 v6 (w6.alloc (.cells #[.int .i64 X1, .int .i64 X2] 29)) ((h5.below (Nat.le_refl _) hb6).below (Nat.le_refl _) d7) (h6.below (Nat.le_refl _) d7) hx4
  rw [decide_eq_true rfl] at sX
  clear rX h5 h6 f0 f1 g0 g1
  go_wp2_with fail
  generalize w6.alloc (.cells #[.int .i64 X1, .int .i64 X2] 29) = w7 at *
  refine sX.mono ?_
  rintro e w8 ⟨rfl, q8, rfl⟩
  have b8 := below_drewN' b7 q8
  clear sX g0' g1' e0 e1 d7 d5
  generalize w7.drewN q8 = w8 at *
  go_wp2_with fail
  refine (cP _ b8).mono ?_
  rintro e w9 ⟨v9, rfl, h9, -, hb9⟩
  have b9 := b8.trans (hb9.mono b8.size)
  clear cP
  go_wp2_with fail
  refine (rP _ b9).mono ?_
  rintro e wa ⟨va, rfl, ha, hba⟩
  have ba := b9.trans (hba.mono b9.size)
  have sP := same_any P P v9 va wa (h9.below (Nat.le_refl _) hba) ha hpl
  rw [decide_eq_true rfl] at sP
  clear rP h9 ha
  go_wp2_with fail
  refine sP.mono ?_
  rintro e wb ⟨rfl, qb, rfl⟩
  have bb := below_drewN' ba qb
  clear sP
  generalize wa.drewN qb = wb at *
  go_wp2_with fail
  refine (cU _ bb).mono ?_
  rintro e wc ⟨vc, rfl, hc, hbc⟩
  have bc := bb.trans (hbc.mono bb.size)
  clear cU
  go_wp2_with fail
  refine (rU _ bc).mono ?_
  rintro e wd ⟨vd, rfl, hd, hbd⟩
  have bd := bc.trans (hbd.mono bc.size)
  have sU := same_any U0 U0 vc vd wd (hc.below (Nat.le_refl _) hbd) hd (by unfold maxLen; omega)
  rw [decide_eq_true rfl] at sU
  clear rU hc hd
  go_wp2_with fail
  refine sU.mono ?_
  rintro e we ⟨rfl, qe, rfl⟩
  go_wp2_with fail
  go_ret
  exact ⟨rfl, below_drewN' bd _⟩

end Go.Proofs.Ytkjlchfmplcobac
