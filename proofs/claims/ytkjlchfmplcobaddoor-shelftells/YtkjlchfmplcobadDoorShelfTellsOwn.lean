/- PROVED: called with whatever entries, manifest and two numbers, the law ShelfTells answers true (Export, Segment, Entry and Verify tell what the document tells), and the arguments read as they did; the table of the rounds' words reads as the program's text lays it (the card ties it). -/
import Derived.Test.YtkjlchfmplcobadDoorRows
import Derived.Test.YtkjlchfmplcobadDoorTie
import Derived.Test.YtkjlchfmplcobadDoorCards
import Derived.Test.YtkjlchfmplcobadDoorShaLaid
import Derived.Test.YtkjlchfmplcobadDoorTreeOpen
import Derived.Lib.SmallJoins
import Derived.Test.YtkjlchfmplcobadDoorShelfOpen
import Derived.Test.YtkjlchfmplcobadDoorShelfTellsWalk
import Derived.Test.YtkjlchfmplcobadDoorShelfFaces
namespace Go.Proofs.YtkjlchfmplcobadDoor
open Go.ChangeShapes Go.WideShapes Go.ChangeAt Go.WideMaps Go.WideElems Go.RowKit

namespace ShelfTellsLaw
set_option maxRecDepth 100000 in
theorem lifted (os : Os) (started : os.Started) (H : Type) (enc : TypeId × Value → H) :
    ReturnsInHanded {} Tryd.checked os 3 .any (fun w args => (Rows.shelfTellsSpec.pre enc Tryd.prog Tryd.f3 [] false w args ∧ laidMetH Tryd.prog laidK w) ∧ sizedMet enc Tryd.prog Tryd.f3 (OpenSpec.ofChange Rows.shelfTellsSpec) false w args)
      (Rows.shelfTellsSpec.post enc Tryd.prog Tryd.f3 false true false false) := by
  refine returnsInHanded_of_change_and (C := Tryd.checked) (X := fun w _ => laidMetH Tryd.prog laidK w) (fun _ _ _ hh h => h.of_heap hh) own started (by kernel_rfl) Tryd.func3
    (ChangeSpec.witness_shaped (enc := enc) (C := Tryd.checked) (os := os) (X := fun w _ => laidMetH Tryd.prog laidK w) false (World.doorLaid Tryd.prog 14 os) #[.slice none 0 0, .agg #[.int .i64 0, .slice none 0 0, .slice none 0 0], .int .i64 0, .int .i64 0] 8 rfl (World.shaped_of_RefB (by kernel_rfl) (by kernel_rfl)) (by kernel_rfl) (by kernel_rfl) (by kernel_rfl) (door_met os _)) ?_
  intro W base args ds gs before hval0 hW _ _ hL _
  have hval : ∀ (j : Nat) t v, Tryd.f3.params[j]? = some t → args[j]? = some v → Value.okWide Tryd.prog W .any base t v := hval0
  have hW' := hW
  obtain ⟨p, q, hA0, hV, rfl, hfz, hnd⟩ := hW
  have hA : DataW.TrodAll enc Tryd.prog W 0 (fun _ => true) true Tryd.f3.params.toList args.toList ds p := hA0
  rw [Tryd.params3] at hA hval
  obtain ⟨v0, vs0, d0, ds0, p0, q0, hargs, rfl, rfl, h0, r0⟩ := trodAll_cons hA
  obtain ⟨v1, vs1, d1, ds1, p1, q1, rfl, rfl, rfl, h1, r1⟩ := trodAll_cons r0
  obtain ⟨v2, vs2, d2, ds2, p2, q2, rfl, rfl, rfl, h2, r2⟩ := trodAll_cons r1
  obtain ⟨v3, vs3, d3, ds3, p3, q3, rfl, rfl, rfl, h3, r3⟩ := trodAll_cons r2
  obtain ⟨rfl, rfl, rfl⟩ := trodAll_nil r3
  obtain rfl : args = #[v0, v1, v2, v3] := by cases args; simp_all
  simp only [List.append_nil] at hW'
  obtain ⟨rfl, rfl⟩ := trodVars_none hV
  have k0 := h0
  have k1 := h1
  have k2 := h2
  have k3 := h3
  have lt0 : ∀ x ∈ p0, x.block < W.heap.size := by obtain ⟨q, hq⟩ := k0; exact DataW.trod_lt q _ _ _ hq
  have lt1 : ∀ x ∈ p1, x.block < W.heap.size := by obtain ⟨q, hq⟩ := k1; exact DataW.trod_lt q _ _ _ hq
  have lt2 : ∀ x ∈ p2, x.block < W.heap.size := by obtain ⟨q, hq⟩ := k2; exact DataW.trod_lt q _ _ _ hq
  have lt3 : ∀ x ∈ p3, x.block < W.heap.size := by obtain ⟨q, hq⟩ := k3; exact DataW.trod_lt q _ _ _ hq
  obtain ⟨l0, la0, ln0, lc0, rfl, hP0⟩ := open_lists (okWide_slice Tryd.underlying22 (hval 0 22 v0 rfl rfl)) h0
  obtain ⟨m1, hM1⟩ := open_man (hval 1 28 v1 rfl rfl) h1
  obtain ⟨i2, rfl, -, -, wi2⟩ := open_int Tryd.underlying3 (hval 2 3 v2 rfl rfl) h2
  have hi2 := bounds_i64 wi2
  obtain ⟨i3, rfl, -, -, wi3⟩ := open_int Tryd.underlying3 (hval 3 3 v3 rfl rfl) h3
  have hi3 := bounds_i64 wi3
  clear hA0 hval0
  have hR := ready_of_laid hL
  refine (shelfTells_any exportC_holds segmentC_holds entryC_holds verifyC_holds l0 m1 i2 i3 la0 ln0 lc0 _ W hR hP0 hM1 (by have := hi3.2; omega)).mono fun e W' ⟨he, bel⟩ => ?_
  subst he
  exact ⟨_, rfl, _, _, _, [], _, [], hW', trodAll_mk1 (shut_bool Tryd.underlying4 _), (trodAll_cons_mk (Below.trod laidOut (by kernel_rfl) (of_decide_eq_true (by kernel_rfl)) k0 bel lt0) (trodAll_cons_mk (Below.trod laidOut (by kernel_rfl) (of_decide_eq_true (by kernel_rfl)) k1 bel lt1) (trodAll_cons_mk (Below.trod laidOut (by kernel_rfl) (of_decide_eq_true (by kernel_rfl)) k2 bel lt2) (trodAll_cons_mk (Below.trod laidOut (by kernel_rfl) (of_decide_eq_true (by kernel_rfl)) k3 bel lt3) trodAll_mk0)))), rfl, bel.frame _, fun h => by cases h⟩

theorem over : Rows.ShelfTellsSaid :=
  OpenClaim.holds_of_wide 3 Tryd.f3 rfl rfl rfl rfl rfl rfl rfl ⟨rfl, rfl, rfl, rfl, rfl⟩ rfl rfl rfl rfl rfl (by kernel_rfl) Tryd.func3 (by kernel_rfl)
    (of_decide_eq_true (by kernel_rfl)) (by unfold Func.isWrapper; first | (rw [if_pos (by decide +kernel)]; kernel_rfl) | (rw [if_neg (by decide +kernel)]; exact ⟨rfl, rfl⟩))
    (fun os started H enc _ => lifted os started H enc)
end ShelfTellsLaw

theorem shelfTells_card_holds : Rows.ShelfTellsCardSaid :=
  Claim7.holds_tied_plain_at .later [] [.data] true (true, "8959f9723b168155008c6436f1c815b69cb7fa5d7455167cdff7a3d4fb0af73a") false
    ShelfTellsLaw.over (fun _ h => by cases h) (by kernel_rfl) (fun _ h => by cases h) shelfTells_row_tie rfl ⟨rfl, rfl⟩ (by kernel_rfl) rfl
    (fun f fn hf hfn => by
      obtain rfl : f = 3 := Option.some.inj ((show Tryd.prog.funcNamed "yearbook/yearlaw5.ShelfTells" = some 3 by kernel_rfl).symm.trans hf) |>.symm
      obtain rfl : fn = Tryd.f3 := (Option.some.inj (Tryd.func3.symm.trans hfn)).symm
      exact ⟨by kernel_rfl, fun j t ht => by
        rw [Tryd.params3] at ht
        have hm : t ∈ [22, 28, 3, 3] := by simpa using Array.mem_of_getElem? ht
        have hall : ([22, 28, 3, 3].all fun u => !Tryd.prog.wantsStandIn u) = true := by kernel_rfl
        exact (show Tryd.prog.wantsStandIn t = false by simpa using List.all_eq_true.1 hall t hm)⟩)
    (by kernel_rfl)
#print axioms shelfTells_card_holds
end Go.Proofs.YtkjlchfmplcobadDoor
