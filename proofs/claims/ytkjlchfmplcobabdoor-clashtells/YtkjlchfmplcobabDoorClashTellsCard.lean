/- Over what the faces of package clash are shown to tell: called with whatever is handed in, the law ClashTells answers true, and the arguments read as they did; the table of the rounds' words reads as the program's text lays it (the card ties it). -/
import Derived.Test.YtkjlchfmplcobabDoorRows
import Derived.Test.YtkjlchfmplcobabDoorTie
import Derived.Test.YtkjlchfmplcobabDoorCards
import Derived.Test.YtkjlchfmplcobabDoorShaLaid
import Derived.Test.YtkjlchfmplcobabDoorClashTellsWalk
import Derived.Test.YtkjlchfmplcobabDoorTreeOpenStruct
import Derived.Test.YtkjlchfmplcobabDoorTreeGoRoots
namespace Go.Proofs.YtkjlchfmplcobabDoor
open Go.ChangeShapes Go.WideShapes Go.ChangeAt Go.WideMaps Go.WideElems Go.RowKit

namespace ClashTellsLaw
set_option maxRecDepth 100000 in
theorem lifted (c1 : ClashStandsC) (c2 : ClashGrewC) (os : Os) (started : os.Started) (H : Type) (enc : TypeId × Value → H) :
    ReturnsInHanded {} Tryd.checked os 8 .any (fun w args => (Rows.clashTellsSpec.pre enc Tryd.prog Tryd.f8 [] false w args ∧ laidMetH Tryd.prog laidK w) ∧ sizedMet enc Tryd.prog Tryd.f8 (OpenSpec.ofChange Rows.clashTellsSpec) false w args)
      (Rows.clashTellsSpec.post enc Tryd.prog Tryd.f8 false true false false) := by
  refine returnsInHanded_of_change_and (C := Tryd.checked) (X := fun w _ => laidMetH Tryd.prog laidK w) (fun _ _ _ hh h => h.of_heap hh) own started (by kernel_rfl) Tryd.func8
    (ChangeSpec.witness_shaped (enc := enc) (C := Tryd.checked) (os := os) (X := fun w _ => laidMetH Tryd.prog laidK w) false (World.doorLaid Tryd.prog 14 os) #[.slice none 0 0, .slice none 0 0, .int .i64 0, .slice none 0 0, .agg #[.int .i64 0, .slice none 0 0], .slice none 0 0] 8 rfl (World.shaped_of_RefB (by kernel_rfl) (by kernel_rfl)) (by kernel_rfl) (by kernel_rfl) (by kernel_rfl) (door_met os _)) ?_
  intro W base args ds gs before hval0 hW _ _ hL _
  have hval : ∀ (j : Nat) t v, Tryd.f8.params[j]? = some t → args[j]? = some v → Value.okWide Tryd.prog W .any base t v := hval0
  have hW' := hW
  obtain ⟨p, q, hA0, hV, rfl, hfz, hnd⟩ := hW
  have hA : DataW.TrodAll enc Tryd.prog W 0 (fun _ => true) true Tryd.f8.params.toList args.toList ds p := hA0
  rw [Tryd.params8] at hA hval
  obtain ⟨v0, v1, v2, v3, v4, v5, d0, d1, d2, d3, d4, d5, p0, p1, p2, p3, p4, p5, rfl, rfl, rfl, h0, h1, h2, h3, h4, h5⟩ := trodAll_six hA
  obtain ⟨rfl, rfl⟩ := trodVars_none hV
  have hs0 := okWide_slice Tryd.underlying22 (hval 0 22 v0 rfl rfl)
  have hs1 := okWide_slice Tryd.underlying24 (hval 1 24 v1 rfl rfl)
  have hs3 := okWide_slice Tryd.underlying22 (hval 3 22 v3 rfl rfl)
  have w4 := hval 4 34 v4 rfl rfl
  have hs5 := okWide_slice Tryd.underlying22 (hval 5 22 v5 rfl rfl)
  obtain ⟨i2, rfl⟩ := okWide_int Tryd.underlying3 (hval 2 3 v2 rfl rfl)
  have k0 := h0
  have k1 := h1
  have k2 := h2
  have k3 := h3
  have k4 := h4
  have k5 := h5
  have lt0 : ∀ x ∈ p0, x.block < W.heap.size := by obtain ⟨q, hq⟩ := k0; exact DataW.trod_lt q _ _ _ hq
  have lt1 : ∀ x ∈ p1, x.block < W.heap.size := by obtain ⟨q, hq⟩ := k1; exact DataW.trod_lt q _ _ _ hq
  have lt2 : ∀ x ∈ p2, x.block < W.heap.size := by obtain ⟨q, hq⟩ := k2; exact DataW.trod_lt q _ _ _ hq
  have lt3 : ∀ x ∈ p3, x.block < W.heap.size := by obtain ⟨q, hq⟩ := k3; exact DataW.trod_lt q _ _ _ hq
  have lt4 : ∀ x ∈ p4, x.block < W.heap.size := by obtain ⟨q, hq⟩ := k4; exact DataW.trod_lt q _ _ _ hq
  have lt5 : ∀ x ∈ p5, x.block < W.heap.size := by obtain ⟨q, hq⟩ := k5; exact DataW.trod_lt q _ _ _ hq
  obtain ⟨l0, la0, ln0, lc0, rfl, hP0⟩ := open_lists hs0 h0
  obtain ⟨b1, ba1, bc1, -, hb1, -⟩ := open_some hs1 h1
  obtain ⟨l3, la3, ln3, lc3, rfl, hP3⟩ := open_lists hs3 h3
  obtain ⟨s4, r4, ra4, rc4, rfl, hr4⟩ := open_head w4 h4
  obtain ⟨l5, la5, ln5, lc5, rfl, hP5⟩ := open_lists hs5 h5
  clear hA0 hval0
  refine (clashTells_any rootC_holds pathC_holds c1 c2 l0 b1 i2 l3 s4 r4 l5 v1 _ la0 ln0 lc0 la3 ln3 lc3 la5 ln5 lc5 W (ready_of_laid hL) hP0 hb1 hP3 hr4 hP5).mono fun e W' ⟨he, bel⟩ => ?_
  subst he
  exact ⟨_, rfl, _, _, _, [], _, [], hW', trodAll_mk1 (shut_bool Tryd.underlying4 _), (trodAll_cons_mk (Below.trod laidOut (by kernel_rfl) (of_decide_eq_true (by kernel_rfl)) k0 bel lt0) (trodAll_cons_mk (Below.trod laidOut (by kernel_rfl) (of_decide_eq_true (by kernel_rfl)) k1 bel lt1) (trodAll_cons_mk (Below.trod laidOut (by kernel_rfl) (of_decide_eq_true (by kernel_rfl)) k2 bel lt2) (trodAll_cons_mk (Below.trod laidOut (by kernel_rfl) (of_decide_eq_true (by kernel_rfl)) k3 bel lt3) (trodAll_cons_mk (Below.trod laidOut (by kernel_rfl) (of_decide_eq_true (by kernel_rfl)) k4 bel lt4) (trodAll_cons_mk (Below.trod laidOut (by kernel_rfl) (of_decide_eq_true (by kernel_rfl)) k5 bel lt5) trodAll_mk0)))))), rfl, bel.frame _, fun h => by cases h⟩

theorem over (c1 : ClashStandsC) (c2 : ClashGrewC) : Rows.ClashTellsSaid :=
  OpenClaim.holds_of_wide 8 Tryd.f8 rfl rfl rfl rfl rfl rfl rfl ⟨rfl, rfl, rfl, rfl, rfl⟩ rfl rfl rfl rfl rfl (by kernel_rfl) Tryd.func8 (by kernel_rfl)
    (of_decide_eq_true (by kernel_rfl)) (by unfold Func.isWrapper; first | (rw [if_pos (by decide +kernel)]; kernel_rfl) | (rw [if_neg (by decide +kernel)]; exact ⟨rfl, rfl⟩))
    (fun os started H enc _ => lifted c1 c2 os started H enc)
end ClashTellsLaw

theorem clashTells_card_of (c1 : ClashStandsC) (c2 : ClashGrewC) : Rows.ClashTellsCardSaid :=
  Claim7.holds_tied_plain_at .later [] [.data] true (true, "4e35a812b5b3665616f5cb7e97dffe5cdece21cbce469a19c37f3c9267349d54") false
    (ClashTellsLaw.over c1 c2) (fun _ h => by cases h) (by kernel_rfl) (fun _ h => by cases h) clashTells_row_tie rfl ⟨rfl, rfl⟩ (by kernel_rfl) rfl
    (fun f fn hf hfn => by
      obtain rfl : f = 8 := Option.some.inj ((show Tryd.prog.funcNamed "yearbook/yearlaw3.ClashTells" = some 8 by kernel_rfl).symm.trans hf) |>.symm
      obtain rfl : fn = Tryd.f8 := (Option.some.inj (Tryd.func8.symm.trans hfn)).symm
      exact ⟨by kernel_rfl, fun j t ht => by
        rw [Tryd.params8] at ht
        have hm : t ∈ [22, 24, 3, 22, 34, 22] := by simpa using Array.mem_of_getElem? ht
        have hall : ([22, 24, 3, 22, 34, 22].all fun u => !Tryd.prog.wantsStandIn u) = true := by kernel_rfl
        exact (show Tryd.prog.wantsStandIn t = false by simpa using List.all_eq_true.1 hall t hm)⟩)
    (by kernel_rfl)
end Go.Proofs.YtkjlchfmplcobabDoor
