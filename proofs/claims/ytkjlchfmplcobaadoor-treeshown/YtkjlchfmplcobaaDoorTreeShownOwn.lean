/- PROVED: called with whatever heads, bytes, place and paths, the law TreeShown answers true (Stands and Grew tell what the document asks), and the arguments read as they did; the table of the rounds' words reads as the program's text lays it (the card ties it). -/
import Derived.Test.YtkjlchfmplcobaaDoorRows
import Derived.Test.YtkjlchfmplcobaaDoorTie
import Derived.Test.YtkjlchfmplcobaaDoorCards
import Derived.Test.YtkjlchfmplcobaaDoorShaLaid
import Derived.Test.YtkjlchfmplcobaaDoorTreeShownWalk
import Derived.Test.YtkjlchfmplcobaaDoorTreeOpenStruct
import Derived.Test.YtkjlchfmplcobaaDoorTreeGoStands
import Derived.Test.YtkjlchfmplcobaaDoorTreeGoGrew
namespace Go.Proofs.YtkjlchfmplcobaaDoor
open Go.ChangeShapes Go.WideShapes Go.ChangeAt Go.WideMaps Go.WideElems Go.RowKit

namespace ShownLaw
set_option maxRecDepth 100000 in
theorem lifted (os : Os) (started : os.Started) (H : Type) (enc : TypeId × Value → H) :
    ReturnsInHanded {} Tryd.checked os 8 .any (fun w args => (Rows.treeShownSpec.pre enc Tryd.prog Tryd.f8 [] false w args ∧ laidMetH Tryd.prog laidK w) ∧ sizedMet enc Tryd.prog Tryd.f8 (OpenSpec.ofChange Rows.treeShownSpec) false w args)
      (Rows.treeShownSpec.post enc Tryd.prog Tryd.f8 false true false false) := by
  refine returnsInHanded_of_change_and (C := Tryd.checked) (X := fun w _ => laidMetH Tryd.prog laidK w) (fun _ _ _ hh h => h.of_heap hh) own started (by kernel_rfl) Tryd.func8
    (ChangeSpec.witness_shaped (enc := enc) (C := Tryd.checked) (os := os) (X := fun w _ => laidMetH Tryd.prog laidK w) false (World.doorLaid Tryd.prog 14 os) #[.agg #[.int .i64 0, .slice none 0 0], .slice none 0 0, .int .i64 0, .slice none 0 0, .agg #[.int .i64 0, .slice none 0 0], .slice none 0 0] 8 rfl (World.shaped_of_RefB (by kernel_rfl) (by kernel_rfl)) (by kernel_rfl) (by kernel_rfl) (by kernel_rfl) (door_met os _)) ?_
  intro W base args ds gs before hval0 hW _ _ hL _
  have hval : ∀ (j : Nat) t v, Tryd.f8.params[j]? = some t → args[j]? = some v → Value.okWide Tryd.prog W .any base t v := hval0
  have hW' := hW
  obtain ⟨p, q, hA0, hV, rfl, hfz, hnd⟩ := hW
  have hA : DataW.TrodAll enc Tryd.prog W 0 (fun _ => true) true Tryd.f8.params.toList args.toList ds p := hA0
  rw [Tryd.params8] at hA hval
  obtain ⟨v0, v1, v2, v3, v4, v5, d0, d1, d2, d3, d4, d5, p0, p1, p2, p3, p4, p5, rfl, rfl, rfl, h0, h1, h2, h3, h4, h5⟩ := trodAll_six hA
  obtain ⟨rfl, rfl⟩ := trodVars_none hV
  have hs1 := okWide_slice Tryd.underlying22 (hval 1 22 v1 rfl rfl)
  have hs3 := okWide_slice Tryd.underlying26 (hval 3 26 v3 rfl rfl)
  have hs5 := okWide_slice Tryd.underlying26 (hval 5 26 v5 rfl rfl)
  have w0 := hval 0 54 v0 rfl rfl
  have w4 := hval 4 54 v4 rfl rfl
  obtain ⟨i, rfl⟩ := okWide_int Tryd.underlying3 (hval 2 3 v2 rfl rfl)
  have k0 := h0
  have k1 := h1
  have k2 := h2
  have k3 := h3
  have k4 := h4
  have k5 := h5
  have lt0 : ∀ x ∈ p0, x.block < W.heap.size := by obtain ⟨q, hq⟩ := k0; exact DataW.trod_lt q _ _ _ hq
  have lt1 : ∀ x ∈ p1, x.block < W.heap.size := by obtain ⟨q, hq⟩ := k1; exact DataW.trod_lt q _ _ _ hq
  have lt2 : ∀ x ∈ p2, x.block < W.heap.size := by obtain ⟨q, hq⟩ := k2; exact DataW.trod_lt q _ _ _ hq
  have lt3 : ∀ x ∈ p3, x.block < W.heap.size := by obtain ⟨q, hq⟩ := k3; exact DataW.trod_lt q _ _ _ hq
  have lt4 : ∀ x ∈ p4, x.block < W.heap.size := by obtain ⟨q, hq⟩ := k4; exact DataW.trod_lt q _ _ _ hq
  have lt5 : ∀ x ∈ p5, x.block < W.heap.size := by obtain ⟨q, hq⟩ := k5; exact DataW.trod_lt q _ _ _ hq
  obtain ⟨size, root, ra, rc, rfl, hr⟩ := open_head w0 h0
  obtain ⟨osz, oroot, oa, oc, rfl, ho⟩ := open_head w4 h4
  obtain ⟨b, ba, bc, -, hb, -⟩ := open_some hs1 h1
  obtain ⟨pl, la, ln, lc, rfl, hP⟩ := open_lists hs3 h3
  obtain ⟨ql, qa, qn, qc, rfl, hQ⟩ := open_lists hs5 h5
  clear hA0 hval0
  refine (shown_any standsC_holds grewC_holds size root b i pl osz oroot ql ra rc v1 la ln lc oa oc qa qn qc W (ready_of_laid hL) hr hb hP ho hQ).mono fun e W' ⟨he, bel⟩ => ?_
  subst he
  exact ⟨_, rfl, _, _, _, [], _, [], hW', trodAll_mk1 (shut_bool Tryd.underlying4 _), (trodAll_cons_mk (Below.trod laidOut (by kernel_rfl) (of_decide_eq_true (by kernel_rfl)) k0 bel lt0) (trodAll_cons_mk (Below.trod laidOut (by kernel_rfl) (of_decide_eq_true (by kernel_rfl)) k1 bel lt1) (trodAll_cons_mk (Below.trod laidOut (by kernel_rfl) (of_decide_eq_true (by kernel_rfl)) k2 bel lt2) (trodAll_cons_mk (Below.trod laidOut (by kernel_rfl) (of_decide_eq_true (by kernel_rfl)) k3 bel lt3) (trodAll_cons_mk (Below.trod laidOut (by kernel_rfl) (of_decide_eq_true (by kernel_rfl)) k4 bel lt4) (trodAll_cons_mk (Below.trod laidOut (by kernel_rfl) (of_decide_eq_true (by kernel_rfl)) k5 bel lt5) trodAll_mk0)))))), rfl, bel.frame _, fun h => by cases h⟩

theorem over : Rows.TreeShownSaid :=
  OpenClaim.holds_of_wide 8 Tryd.f8 rfl rfl rfl rfl rfl rfl rfl ⟨rfl, rfl, rfl, rfl, rfl⟩ rfl rfl rfl rfl rfl (by kernel_rfl) Tryd.func8 (by kernel_rfl)
    (of_decide_eq_true (by kernel_rfl)) (by unfold Func.isWrapper; first | (rw [if_pos (by decide +kernel)]; kernel_rfl) | (rw [if_neg (by decide +kernel)]; exact ⟨rfl, rfl⟩))
    (fun os started H enc _ => lifted os started H enc)
end ShownLaw

theorem treeShown_card_holds : Rows.TreeShownCardSaid :=
  Claim7.holds_tied_plain_at .later [] [.data] true (true, "657118de99efe738b26065c30c4cc14cb3c7fdb2e8cbc069aa843e3719ce3704") false
    ShownLaw.over (fun _ h => by cases h) (by kernel_rfl) (fun _ h => by cases h) treeShown_row_tie rfl ⟨rfl, rfl⟩ (by kernel_rfl) rfl
    (fun f fn hf hfn => by
      obtain rfl : f = 8 := Option.some.inj ((show Tryd.prog.funcNamed "yearbook/yearlaw2.TreeShown" = some 8 by kernel_rfl).symm.trans hf) |>.symm
      obtain rfl : fn = Tryd.f8 := (Option.some.inj (Tryd.func8.symm.trans hfn)).symm
      exact ⟨by kernel_rfl, fun j t ht => by
        rw [Tryd.params8] at ht
        have hm : t ∈ [54, 22, 3, 26, 54, 26] := by simpa using Array.mem_of_getElem? ht
        have hall : ([54, 22, 3, 26, 54, 26].all fun u => !Tryd.prog.wantsStandIn u) = true := by kernel_rfl
        exact (show Tryd.prog.wantsStandIn t = false by simpa using List.all_eq_true.1 hall t hm)⟩)
    (by kernel_rfl)
#print axioms treeShown_card_holds
end Go.Proofs.YtkjlchfmplcobaaDoor
