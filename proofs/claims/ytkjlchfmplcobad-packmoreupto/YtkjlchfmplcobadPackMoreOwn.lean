/- PROVED: called with whatever two lists of tokens that hold together at most 1048576 values and letters, the law PackMore answers true (a text of tokens, and of more behind them, begins with the first ones' text), and the arguments read as they did. -/
import Derived.Test.YtkjlchfmplcobadRows
import Derived.Test.YtkjlchfmplcobadPackOwnBase
import Derived.Test.YtkjlchfmplcobadPackOpen
import Derived.Test.YtkjlchfmplcobadPackMoreWalk
import Derived.Test.YtkjlchfmplcobadPackGoText
import Derived.Test.YtkjlchfmplcobadPackGoPack
import Derived.Test.YtkjlchfmplcobadPackGoUnpack
import Derived.JoinedCond
namespace Go.Proofs.Ytkjlchfmplcobad
open Go.ChangeShapes Go.WideShapes Go.ChangeAt Go.WideMaps Go.WideElems Go.RowKit

namespace PackMoreLaw
theorem many_le {H : Type} : ∀ l : List (DataW H), l.length ≤ Rows.uptoBulkAll l
  | [] => Nat.zero_le _
  | d :: r => by
    have h := many_le r
    have h1 : 0 < Rows.uptoBulk d := by cases d <;> first | (simp [Rows.uptoBulk]; done) | (rename_i l; cases l <;> simp [Rows.uptoBulk])
    show r.length + 1 ≤ Rows.uptoBulkAll (d :: r)
    rw [Rows.uptoBulkAll]
    omega
theorem few0 {H : Type} {d1 : DataW H} {elems sp gs : List (DataW H)} (hk : Rows.uptoSmall H ([.slice elems sp, d1] ++ gs) = true) : elems.length ≤ 1048576 := by
  have h := of_decide_eq_true hk
  have := many_le elems
  simp only [List.cons_append, List.nil_append, Rows.uptoBulkAll, Rows.uptoBulk] at h
  omega
theorem few1 {H : Type} {d0 : DataW H} {elems sp gs : List (DataW H)} (hk : Rows.uptoSmall H ([d0, .slice elems sp] ++ gs) = true) : elems.length ≤ 1048576 := by
  have h := of_decide_eq_true hk
  have := many_le elems
  simp only [List.cons_append, List.nil_append, Rows.uptoBulkAll, Rows.uptoBulk] at h
  omega
set_option maxRecDepth 100000 in
theorem lifted (os : Os) (started : os.Started) (H : Type) (enc : TypeId × Value → H) (F : Stop.Interp) :
    ReturnsInHanded {} Try.checked os 4 .any ((Rows.OpenSpec.upto Rows.packMoreSpec).pre6 enc Try.prog Try.f4 Rows.packMoreUptoRow.domain false) (((Rows.OpenSpec.upto Rows.packMoreSpec).at F).post enc Try.prog Try.f4 false true false false) := by
  refine returnsInHanded_of_cond (C := Try.checked) (s := Rows.OpenSpec.upto Rows.packMoreSpec) (k := Rows.uptoSmall) rfl own started (by kernel_rfl) Try.func4
    (OpenSpec.witness (enc := enc) (C := Try.checked) (s := Rows.OpenSpec.upto Rows.packMoreSpec) (k := Rows.uptoSmall) rfl false ⟨#[], #[.slice none 0 0, .slice none 0 0], []⟩ 8 (by kernel_rfl) (by kernel_rfl) (by kernel_rfl)
      (x := ([.nil, .nil], [], [])) (by kernel_rfl) rfl (by kernel_rfl)) ?_
  intro W base args ds gs before hval0 hW _ hk _
  have hval : ∀ (j : Nat) t v, Try.f4.params[j]? = some t → args[j]? = some v → Value.okWide Try.prog W .any base t v := hval0
  have hW' := hW
  obtain ⟨p, q, hA0, hV, rfl, hfz, hnd⟩ := hW
  have hA : DataW.TrodAll enc Try.prog W 0 (fun _ => true) true Try.f4.params.toList args.toList ds p := hA0
  rw [Try.params4] at hA hval
  obtain ⟨v0, vs0, d0, ds0, p0, q0, hargs, rfl, rfl, h0, r0⟩ := trodAll_cons hA
  obtain ⟨v1, vs1, d1, ds1, p1, q1, rfl, rfl, rfl, h1, r1⟩ := trodAll_cons r0
  obtain ⟨rfl, rfl, rfl⟩ := trodAll_nil r1
  obtain rfl : args = #[v0, v1] := by cases args; simp_all
  simp only [List.append_nil] at hW'
  obtain ⟨rfl, rfl⟩ := trodVars_none hV
  have k0 := h0
  have k1 := h1
  have lt0 : ∀ x ∈ p0, x.block < W.heap.size := by obtain ⟨q, hq⟩ := k0; exact DataW.trod_lt q _ _ _ hq
  have lt1 : ∀ x ∈ p1, x.block < W.heap.size := by obtain ⟨q, hq⟩ := k1; exact DataW.trod_lt q _ _ _ hq
  obtain ⟨l, hl, hdl⟩ := open_toks (okWide_slice Try.underlying24 (hval 0 24 v0 rfl rfl)) h0
  obtain ⟨m, hm, hdm⟩ := open_toks (okWide_slice Try.underlying24 (hval 1 24 v1 rfl rfl)) h1
  obtain ⟨la, lc, e0, -⟩ := hl.form
  obtain ⟨ma, mc, e1, -⟩ := hm.form
  have hs1 : l.length ≤ 2000000 := by
    rcases hdl with rfl | ⟨elems, sp, rfl, hel⟩
    · simp
    · have := few0 hk; omega
  have hs2 : m.length ≤ 2000000 := by
    rcases hdm with rfl | ⟨elems, sp, rfl, hel⟩
    · simp
    · have := few1 hk; omega
  subst e0 e1
  clear hA0 hval0
  refine (packMore_any textC_holds packC_holds unpackC_holds l m la ma lc mc W hl hm hs1 hs2).mono fun e W' ⟨he, bel⟩ => ?_
  subst he
  exact ⟨_, rfl, _, _, _, [], _, [], hW', trodAll_mk1 (shut_bool Try.underlying4 _), (trodAll_cons_mk (Below.trod laidOut (by kernel_rfl) (of_decide_eq_true (by kernel_rfl)) k0 bel lt0) (trodAll_cons_mk (Below.trod laidOut (by kernel_rfl) (of_decide_eq_true (by kernel_rfl)) k1 bel lt1) trodAll_mk0)), rfl, bel.frame _, fun h => by cases h⟩
end PackMoreLaw

theorem packMoreUpto_holds : Rows.PackMoreUptoSaid :=
  OpenClaim.holds_of_cond 4 Try.f4 rfl rfl rfl rfl rfl rfl rfl ⟨rfl, rfl, rfl, rfl, rfl⟩ rfl rfl rfl rfl rfl (by kernel_rfl) Try.func4 (by kernel_rfl)
    (of_decide_eq_true (by kernel_rfl)) (by unfold Func.isWrapper; first | (rw [if_pos (by decide +kernel)]; kernel_rfl) | (rw [if_neg (by decide +kernel)]; exact ⟨rfl, rfl⟩))
    (fun os started H enc _ F => PackMoreLaw.lifted os started H enc F)
#print axioms packMoreUpto_holds
end Go.Proofs.Ytkjlchfmplcobad
