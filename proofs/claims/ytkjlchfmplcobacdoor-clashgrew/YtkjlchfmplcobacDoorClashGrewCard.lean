/- Over what the faces of package clash are shown to tell: called with whatever is handed in, the law ClashGrew answers true, and the arguments read as they did; the table of the rounds' words reads as the program's text lays it (the card ties it). -/
import Derived.Test.YtkjlchfmplcobacDoorRows
import Derived.Test.YtkjlchfmplcobacDoorTie
import Derived.Test.YtkjlchfmplcobacDoorCards
import Derived.Test.YtkjlchfmplcobacDoorShaLaid
import Derived.Test.YtkjlchfmplcobacDoorClashGrewWalk
import Derived.Test.YtkjlchfmplcobacDoorTreeOpenStruct
import Derived.Test.YtkjlchfmplcobacDoorTreeGoRoots
import Derived.Test.YtkjlchfmplcobacDoorTreeGoGrew
namespace Go.Proofs.YtkjlchfmplcobacDoor
open Go.ChangeShapes Go.WideShapes Go.ChangeAt Go.WideMaps Go.WideElems Go.RowKit

namespace ClashGrewLaw
set_option maxRecDepth 100000 in
theorem lifted (c1 : ClashStandsC) (c2 : ClashGrewC) (os : Os) (started : os.Started) (H : Type) (enc : TypeId × Value → H) :
    ReturnsInHanded {} Tryd.checked os 4 .any (fun w args => (Rows.clashGrewSpec.pre enc Tryd.prog Tryd.f4 [] false w args ∧ laidMetH Tryd.prog laidK w) ∧ sizedMet enc Tryd.prog Tryd.f4 (OpenSpec.ofChange Rows.clashGrewSpec) false w args)
      (Rows.clashGrewSpec.post enc Tryd.prog Tryd.f4 false true false false) := by
  refine returnsInHanded_of_change_and (C := Tryd.checked) (X := fun w _ => laidMetH Tryd.prog laidK w) (fun _ _ _ hh h => h.of_heap hh) own started (by kernel_rfl) Tryd.func4
    (ChangeSpec.witness_shaped (enc := enc) (C := Tryd.checked) (os := os) (X := fun w _ => laidMetH Tryd.prog laidK w) false (World.doorLaid Tryd.prog 14 os) #[.slice none 0 0, .agg #[.int .i64 0, .slice none 0 0], .slice none 0 0] 8 rfl (World.shaped_of_RefB (by kernel_rfl) (by kernel_rfl)) (by kernel_rfl) (by kernel_rfl) (by kernel_rfl) (door_met os _)) ?_
  intro W base args ds gs before hval0 hW _ _ hL _
  have hval : ∀ (j : Nat) t v, Tryd.f4.params[j]? = some t → args[j]? = some v → Value.okWide Tryd.prog W .any base t v := hval0
  have hW' := hW
  obtain ⟨p, q, hA0, hV, rfl, hfz, hnd⟩ := hW
  have hA : DataW.TrodAll enc Tryd.prog W 0 (fun _ => true) true Tryd.f4.params.toList args.toList ds p := hA0
  rw [Tryd.params4] at hA hval
  obtain ⟨v0, v1, v2, d0, d1, d2, p0, p1, p2, rfl, rfl, rfl, h0, h1, h2⟩ := trodAll_three hA
  obtain ⟨rfl, rfl⟩ := trodVars_none hV
  have hs0 := okWide_slice Tryd.underlying22 (hval 0 22 v0 rfl rfl)
  have w1 := hval 1 32 v1 rfl rfl
  have hs2 := okWide_slice Tryd.underlying22 (hval 2 22 v2 rfl rfl)
  have k0 := h0
  have k1 := h1
  have k2 := h2
  have lt0 : ∀ x ∈ p0, x.block < W.heap.size := by obtain ⟨q, hq⟩ := k0; exact DataW.trod_lt q _ _ _ hq
  have lt1 : ∀ x ∈ p1, x.block < W.heap.size := by obtain ⟨q, hq⟩ := k1; exact DataW.trod_lt q _ _ _ hq
  have lt2 : ∀ x ∈ p2, x.block < W.heap.size := by obtain ⟨q, hq⟩ := k2; exact DataW.trod_lt q _ _ _ hq
  obtain ⟨l0, la0, ln0, lc0, rfl, hP0⟩ := open_lists hs0 h0
  obtain ⟨s1, r1, ra1, rc1, rfl, hr1⟩ := open_head w1 h1
  obtain ⟨l2, la2, ln2, lc2, rfl, hP2⟩ := open_lists hs2 h2
  clear hA0 hval0
  refine (clashGrew_any rootC_holds pathC_holds grewC_holds c1 c2 l0 s1 r1 l2 _ la0 ln0 lc0 la2 ln2 lc2 W (ready_of_laid hL) hP0 hr1 hP2).mono fun e W' ⟨he, bel⟩ => ?_
  subst he
  exact ⟨_, rfl, _, _, _, [], _, [], hW', trodAll_mk1 (shut_bool Tryd.underlying4 _), (trodAll_cons_mk (Below.trod laidOut (by kernel_rfl) (of_decide_eq_true (by kernel_rfl)) k0 bel lt0) (trodAll_cons_mk (Below.trod laidOut (by kernel_rfl) (of_decide_eq_true (by kernel_rfl)) k1 bel lt1) (trodAll_cons_mk (Below.trod laidOut (by kernel_rfl) (of_decide_eq_true (by kernel_rfl)) k2 bel lt2) trodAll_mk0))), rfl, bel.frame _, fun h => by cases h⟩

theorem over (c1 : ClashStandsC) (c2 : ClashGrewC) : Rows.ClashGrewSaid :=
  OpenClaim.holds_of_wide 4 Tryd.f4 rfl rfl rfl rfl rfl rfl rfl ⟨rfl, rfl, rfl, rfl, rfl⟩ rfl rfl rfl rfl rfl (by kernel_rfl) Tryd.func4 (by kernel_rfl)
    (of_decide_eq_true (by kernel_rfl)) (by unfold Func.isWrapper; first | (rw [if_pos (by decide +kernel)]; kernel_rfl) | (rw [if_neg (by decide +kernel)]; exact ⟨rfl, rfl⟩))
    (fun os started H enc _ => lifted c1 c2 os started H enc)
end ClashGrewLaw

theorem clashGrew_card_of (c1 : ClashStandsC) (c2 : ClashGrewC) : Rows.ClashGrewCardSaid :=
  Claim7.holds_tied_plain_at .later [] [.data] true (true, "f4c7d9eced607039d69ae4825cc459716a6e0061216bbc996ba629227cddc3b3") false
    (ClashGrewLaw.over c1 c2) (fun _ h => by cases h) (by kernel_rfl) (fun _ h => by cases h) clashGrew_row_tie rfl ⟨rfl, rfl⟩ (by kernel_rfl) rfl
    (fun f fn hf hfn => by
      obtain rfl : f = 4 := Option.some.inj ((show Tryd.prog.funcNamed "yearbook/yearlaw3.ClashGrew" = some 4 by kernel_rfl).symm.trans hf) |>.symm
      obtain rfl : fn = Tryd.f4 := (Option.some.inj (Tryd.func4.symm.trans hfn)).symm
      exact ⟨by kernel_rfl, fun j t ht => by
        rw [Tryd.params4] at ht
        have hm : t ∈ [22, 32, 22] := by simpa using Array.mem_of_getElem? ht
        have hall : ([22, 32, 22].all fun u => !Tryd.prog.wantsStandIn u) = true := by kernel_rfl
        exact (show Tryd.prog.wantsStandIn t = false by simpa using List.all_eq_true.1 hall t hm)⟩)
    (by kernel_rfl)
end Go.Proofs.YtkjlchfmplcobacDoor
