/- The walk of the law PackTurns, over the faces of package pack. -/
import Derived.Test.YtkjlchfmplcobacProg
import Derived.Test.YtkjlchfmplcobacPackAlive
import Derived.Test.YtkjlchfmplcobacShaSame
import Derived.WalkKit
import Derived.WalkSpells
import Derived.WalkLawsBesides
namespace Go.Proofs.Ytkjlchfmplcobac
open Go.RowKit

set_option maxRecDepth 100000 in
set_option maxHeartbeats 1000000 in
theorem packTurns_any (hTok : TokensC) (hText : TextC) (hPack : PackC) (hUn : UnpackC) (b : List Int) (bv : Value) (w : World) (hb : Some' w bv b) :
    Calls Try.prog 4 #[bv] w fun e w' => e = .returned (.bool true) ∧ Below w.heap.size w w' := by
  have cA := alive4_any hPack hUn w
  have cT : ∀ w', Below w.heap.size w w' → _ := fun w' h => hTok b bv w' (hb.below h)
  have cP : ∀ w', Below w.heap.size w w' → _ := fun w' h => hPack b bv w' (hb.below h)
  have cX : ∀ w' v, ToksAt w' v (toksE b) → _ := fun w' v h => hText (toksE b) v w' h
  have cU : ∀ w' v, BytesAt w' v (packE b) → RoomV v (packE b).length → _ := fun w' v h hr => hUn (packE b) v w' (packE_some h hb.bytes) hr
  have hsh := hb.short
  unfold maxLen at hsh
  obtain ⟨ba, bc, eb⟩ := hb.at'.form
  subst eb
  by_cases h4 : 4000 < b.length
  · have hm : muchE b = 4 := by unfold muchE; rw [if_pos h4]
    rw [hm] at cT
    have h4' : (4000 : Int) < b.length := by omega
    clear cP cX cU hm h4
    generalize b.length = n at *
    go_enter Try.func4, Try.ntmps4
    go_wp2_with fail
    refine cA.mono ?_
    rintro e w1 ⟨rfl, b1⟩
    go_wp2_with fail
    refine (cT _ b1).mono ?_
    rintro e w2 ⟨v2, rfl, h2, hb2⟩
    have b2 := b1.trans (hb2.mono b1.size)
    obtain ⟨ta, tc, e2, -⟩ := h2.form
    subst e2
    clear cA cT h2
    go_wp2_with fail
    go_ret
    exact ⟨rfl, b2⟩
  · have hm : muchE b = 0 := by unfold muchE; rw [if_neg h4]
    have hx : textL (toksE b) = (b, 0, 0) := by unfold toksE; rw [if_neg h4]; exact text_of_tokens (by omega)
    have hu : unpackL (packE b) = (b, 0) := by unfold packE; rw [if_neg h4]; exact unpack_pack (by omega)
    rw [hm] at cT cP
    rw [hx] at cX
    rw [hu] at cU
    dsimp only [faultV4] at cX cU
    have cS : ∀ w' v, Below w.heap.size w w' → BytesAt w' v b → Calls Try.prog 11 #[v, .slice ba b.length bc] w' fun e w2 => e = .returned (.bool true) ∧ ∃ n, w2 = w'.drewN n := fun w' v h hv => by
      have := same_any b b v (.slice ba b.length bc) w' hv (hb.below h).at' (by unfold maxLen; omega)
      rwa [decide_eq_true rfl] at this
    clear hm hx hu h4
    generalize toksE b = T at *
    generalize packE b = P at *
    go_enter Try.func4, Try.ntmps4
    go_wp2_with fail
    refine cA.mono ?_
    rintro e w1 ⟨rfl, b1⟩
    go_wp2_with fail
    refine (cT _ b1).mono ?_
    rintro e w2 ⟨v2, rfl, h2, hb2⟩
    have b2 := b1.trans (hb2.mono b1.size)
    have c2 := cX _ _ h2
    obtain ⟨ta, tc, e2, -⟩ := h2.form
    subst e2
    clear cA cT h2 cX
    go_wp2_with fail
    refine c2.mono ?_
    rintro e w3 ⟨v3, rfl, h3, -, hb3⟩
    have b3 := b2.trans (hb3.mono b2.size)
    obtain ⟨xa, xc, e3⟩ := h3.form
    subst e3
    obtain ⟨d4, f0, f1, sf⟩ := box_cells w3 (.int .i64 0) (.int .i64 0) 29
    have b4 := b3.trans (d4.mono b3.size)
    have h4 := h3.below (Nat.le_refl _) d4
    clear c2 h3
    go_wp2_with fail
    refine (cP _ b4).mono ?_
    rintro e w5 ⟨v5, rfl, h5, hr5, hb5⟩
    have b5 := b4.trans (hb5.mono b4.size)
    have c5 := cU _ _ h5 hr5
    have h4' := h4.below (Nat.le_refl _) hb5
    obtain ⟨pa, pc, e5⟩ := h5.form
    subst e5
    clear cP cU h5 h4 hr5
    go_wp2_with fail
    refine c5.mono ?_
    rintro e w6 ⟨v6, rfl, h6, hb6⟩
    have b6 := b5.trans (hb6.mono b5.size)
    have g0 := (hb6.cell (p := ⟨w3.heap.size, 0, none⟩) (Nat.lt_of_lt_of_le sf hb5.size)).trans ((hb5.cell (p := ⟨w3.heap.size, 0, none⟩) sf).trans f0)
    have s1 := cS w6 (.slice xa b.length xc) b6 (h4'.below (Nat.le_refl _) hb6)
    have s2 : ∀ n, _ := fun n => cS (w6.drewN n) v6 (below_drewN' b6 n) (h6.below (Nat.le_refl _) (below_drewN' (Below.refl _ _) n))
    obtain ⟨ua, uc, e6⟩ := h6.form
    subst e6
    clear c5 h6 h4' cS f0 f1 d4
    go_wp2_with fail
    refine s1.mono ?_
    rintro e w7 ⟨rfl, q7, rfl⟩
    go_wp2_with fail
    refine (s2 q7).mono ?_
    rintro e w8 ⟨rfl, q8, rfl⟩
    go_wp2_with fail
    go_ret
    exact ⟨rfl, below_drewN' b6 _⟩

end Go.Proofs.Ytkjlchfmplcobac
