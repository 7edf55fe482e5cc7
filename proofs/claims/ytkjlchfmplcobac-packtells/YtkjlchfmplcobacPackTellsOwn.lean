/- PROVED: called with whatever bytes, tokens and bytes, the law PackTells answers true (Tokens, Text, Pack and Unpack tell what the document tells), and the arguments read as they did. -/
import Derived.Test.YtkjlchfmplcobacRows
import Derived.Test.YtkjlchfmplcobacPackOwnBase
import Derived.Test.YtkjlchfmplcobacPackOpen
import Derived.Test.YtkjlchfmplcobacPackTellsWalk
import Derived.Test.YtkjlchfmplcobacPackGoTokens
import Derived.Test.YtkjlchfmplcobacPackGoText
import Derived.Test.YtkjlchfmplcobacPackGoPack
import Derived.Test.YtkjlchfmplcobacPackGoUnpack
namespace Go.Proofs.Ytkjlchfmplcobac
open Go.ChangeShapes Go.WideShapes Go.ChangeAt Go.WideMaps Go.WideElems Go.RowKit

namespace PackTellsLaw
set_option maxRecDepth 100000 in
theorem lifted (os : Os) (started : os.Started) (H : Type) (enc : TypeId × Value → H) :
    ReturnsInHanded {} Try.checked os 3 .any (Rows.packTellsSpec.pre6 enc Try.prog Try.f3 Rows.packTellsRow.domain false) (Rows.packTellsSpec.post enc Try.prog Try.f3 false true false false) := by
  refine returnsInHanded_of_change (C := Try.checked) own started (by kernel_rfl) Try.func3
    (ChangeSpec.witness6 (enc := enc) (C := Try.checked) false ⟨#[], #[.slice none 0 0, .slice none 0 0, .slice none 0 0], []⟩ 8 (by kernel_rfl) (by kernel_rfl) (by kernel_rfl) (by kernel_rfl)) ?_
  intro W base args ds gs before hval0 hW _ _
  have hval : ∀ (j : Nat) t v, Try.f3.params[j]? = some t → args[j]? = some v → Value.okWide Try.prog W .any base t v := hval0
  have hW' := hW
  obtain ⟨p, q, hA0, hV, rfl, hfz, hnd⟩ := hW
  have hA : DataW.TrodAll enc Try.prog W 0 (fun _ => true) true Try.f3.params.toList args.toList ds p := hA0
  rw [Try.params3] at hA hval
  obtain ⟨v0, vs0, d0, ds0, p0, q0, hargs, rfl, rfl, h0, r0⟩ := trodAll_cons hA
  obtain ⟨v1, vs1, d1, ds1, p1, q1, rfl, rfl, rfl, h1, r1⟩ := trodAll_cons r0
  obtain ⟨v2, vs2, d2, ds2, p2, q2, rfl, rfl, rfl, h2, r2⟩ := trodAll_cons r1
  obtain ⟨rfl, rfl, rfl⟩ := trodAll_nil r2
  obtain rfl : args = #[v0, v1, v2] := by cases args; simp_all
  simp only [List.append_nil] at hW'
  obtain ⟨rfl, rfl⟩ := trodVars_none hV
  have k0 := h0
  have k1 := h1
  have k2 := h2
  have lt0 : ∀ x ∈ p0, x.block < W.heap.size := by obtain ⟨q, hq⟩ := k0; exact DataW.trod_lt q _ _ _ hq
  have lt1 : ∀ x ∈ p1, x.block < W.heap.size := by obtain ⟨q, hq⟩ := k1; exact DataW.trod_lt q _ _ _ hq
  have lt2 : ∀ x ∈ p2, x.block < W.heap.size := by obtain ⟨q, hq⟩ := k2; exact DataW.trod_lt q _ _ _ hq
  obtain ⟨b, ba, bc, e0, hb, -, -⟩ := open_room (okWide_slice Try.underlying22 (hval 0 22 v0 rfl rfl)) h0
  obtain ⟨l, hl, -⟩ := open_toks (okWide_slice Try.underlying23 (hval 1 23 v1 rfl rfl)) h1
  obtain ⟨x, xa, xc, e2, hx, hx1, hx2⟩ := open_room (okWide_slice Try.underlying22 (hval 2 22 v2 rfl rfl)) h2
  clear hA0 hval0
  refine (packTells_any tokensC_holds textC_holds packC_holds unpackC_holds b l x v0 v1 v2 W hb hl hx ⟨_, _, e2, hx1, hx2⟩).mono fun e W' ⟨he, bel⟩ => ?_
  subst he
  exact ⟨_, rfl, _, _, _, [], _, [], hW', trodAll_mk1 (shut_bool Try.underlying4 _), (trodAll_cons_mk (Below.trod laidOut (by kernel_rfl) (of_decide_eq_true (by kernel_rfl)) k0 bel lt0) (trodAll_cons_mk (Below.trod laidOut (by kernel_rfl) (of_decide_eq_true (by kernel_rfl)) k1 bel lt1) (trodAll_cons_mk (Below.trod laidOut (by kernel_rfl) (of_decide_eq_true (by kernel_rfl)) k2 bel lt2) trodAll_mk0))), rfl, bel.frame _, fun h => by cases h⟩
end PackTellsLaw

theorem packTells_holds : Rows.PackTellsSaid :=
  OpenClaim.holds_of_wide 3 Try.f3 rfl rfl rfl rfl rfl rfl rfl ⟨rfl, rfl, rfl, rfl, rfl⟩ rfl rfl rfl rfl rfl (by kernel_rfl) Try.func3 (by kernel_rfl)
    (of_decide_eq_true (by kernel_rfl)) (by unfold Func.isWrapper; first | (rw [if_pos (by decide +kernel)]; kernel_rfl) | (rw [if_neg (by decide +kernel)]; exact ⟨rfl, rfl⟩))
    (fun os started H enc _ => PackTellsLaw.lifted os started H enc)
#print axioms packTells_holds
end Go.Proofs.Ytkjlchfmplcobac
