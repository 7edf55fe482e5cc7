/- PROVED: called with whatever bytes, the law PackTurns answers true (a text comes back from its tokens, and from what it was packed to), and the argument reads as it did. -/
import Derived.Test.YtkjlchfmplcobacRows
import Derived.Test.YtkjlchfmplcobacPackOwnBase
import Derived.Test.YtkjlchfmplcobacPackTurnsWalk
import Derived.Test.YtkjlchfmplcobacPackGoTokens
import Derived.Test.YtkjlchfmplcobacPackGoText
import Derived.Test.YtkjlchfmplcobacPackGoPack
import Derived.Test.YtkjlchfmplcobacPackGoUnpack
namespace Go.Proofs.Ytkjlchfmplcobac
open Go.ChangeShapes Go.WideShapes Go.ChangeAt Go.WideMaps Go.WideElems Go.RowKit

namespace PackTurnsLaw
set_option maxRecDepth 100000 in
theorem lifted (os : Os) (started : os.Started) (H : Type) (enc : TypeId × Value → H) :
    ReturnsInHanded {} Try.checked os 4 .any (Rows.packTurnsSpec.pre6 enc Try.prog Try.f4 Rows.packTurnsRow.domain false) (Rows.packTurnsSpec.post enc Try.prog Try.f4 false true false false) := by
  refine returnsInHanded_of_change (C := Try.checked) own started (by kernel_rfl) Try.func4
    (ChangeSpec.witness6 (enc := enc) (C := Try.checked) false ⟨#[], #[.slice none 0 0], []⟩ 8 (by kernel_rfl) (by kernel_rfl) (by kernel_rfl) (by kernel_rfl)) ?_
  intro W base args ds gs before hval0 hW _ _
  have hval : ∀ (j : Nat) t v, Try.f4.params[j]? = some t → args[j]? = some v → Value.okWide Try.prog W .any base t v := hval0
  have hW' := hW
  obtain ⟨p, q, hA0, hV, rfl, hfz, hnd⟩ := hW
  have hA : DataW.TrodAll enc Try.prog W 0 (fun _ => true) true Try.f4.params.toList args.toList ds p := hA0
  rw [Try.params4] at hA hval
  obtain ⟨v0, d0, rfl, rfl, h0⟩ := trodAll_one hA
  obtain ⟨rfl, rfl⟩ := trodVars_none hV
  have k0 := h0
  have lt0 : ∀ x ∈ p, x.block < W.heap.size := by obtain ⟨q, hq⟩ := k0; exact DataW.trod_lt q _ _ _ hq
  obtain ⟨b, ba, bc, rfl, hb, -, -⟩ := open_room (okWide_slice Try.underlying22 (hval 0 22 v0 rfl rfl)) h0
  clear hA0 hval0
  refine (packTurns_any tokensC_holds textC_holds packC_holds unpackC_holds b _ W hb).mono fun e W' ⟨he, bel⟩ => ?_
  subst he
  exact ⟨_, rfl, _, _, _, [], _, [], hW', trodAll_mk1 (shut_bool Try.underlying4 _), (trodAll_cons_mk (Below.trod laidOut (by kernel_rfl) (of_decide_eq_true (by kernel_rfl)) k0 bel lt0) trodAll_mk0), rfl, bel.frame _, fun h => by cases h⟩
end PackTurnsLaw

theorem packTurns_holds : Rows.PackTurnsSaid :=
  OpenClaim.holds_of_wide 4 Try.f4 rfl rfl rfl rfl rfl rfl rfl ⟨rfl, rfl, rfl, rfl, rfl⟩ rfl rfl rfl rfl rfl (by kernel_rfl) Try.func4 (by kernel_rfl)
    (of_decide_eq_true (by kernel_rfl)) (by unfold Func.isWrapper; first | (rw [if_pos (by decide +kernel)]; kernel_rfl) | (rw [if_neg (by decide +kernel)]; exact ⟨rfl, rfl⟩))
    (fun os started H enc _ => PackTurnsLaw.lifted os started H enc)
#print axioms packTurns_holds
end Go.Proofs.Ytkjlchfmplcobac
