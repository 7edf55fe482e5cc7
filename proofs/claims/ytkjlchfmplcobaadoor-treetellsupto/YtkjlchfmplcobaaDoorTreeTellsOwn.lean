/- PROVED: called with whatever leaves, places, edge and bytes that hold together at most 1048576 values and letters, the law TreeTells answers true (Wrong, Root, Path, Grows, Leaf, Node, Push and Top tell what the document asks), and the arguments read as they did; the table of the rounds' words reads as the program's text lays it (the card ties it). -/
import Derived.Test.YtkjlchfmplcobaaDoorRows
import Derived.Test.YtkjlchfmplcobaaDoorTie
import Derived.Test.YtkjlchfmplcobaaDoorCards
import Derived.Test.YtkjlchfmplcobaaDoorShaLaid
import Derived.Test.YtkjlchfmplcobaaDoorTreeTellsWalk
import Derived.Test.YtkjlchfmplcobaaDoorTreeOpenEdge
import Derived.Test.YtkjlchfmplcobaaDoorTreeGoRoots
import Derived.Test.YtkjlchfmplcobaaDoorTreeGoGrows
import Derived.Test.YtkjlchfmplcobaaDoorTreeGoPush
import Derived.Deep.DeepHandedRow
namespace Go.Proofs.YtkjlchfmplcobaaDoor
open Go.ChangeShapes Go.WideShapes Go.ChangeAt Go.WideMaps Go.WideElems Go.RowKit

namespace Tells2Law
theorem many_le {H : Type} : ∀ l : List (DataW H), l.length ≤ Rows.uptoBulkAll l
  | [] => Nat.zero_le _
  | d :: r => by
    have h := many_le r
    have h1 : 0 < Rows.uptoBulk d := by cases d <;> first | (simp [Rows.uptoBulk]; done) | (rename_i l; cases l <;> simp [Rows.uptoBulk])
    show r.length + 1 ≤ Rows.uptoBulkAll (d :: r)
    rw [Rows.uptoBulkAll]
    omega
/-- The last argument's bytes are few. -/
theorem few {H : Type} {d0 d1 d2 d3 : DataW H} {elems sp gs : List (DataW H)} (hk : Rows.uptoSmall H ([d0, d1, d2, d3, .slice elems sp] ++ gs) = true) : elems.length ≤ 1000000 + 48576 := by
  have h := of_decide_eq_true hk
  have := many_le elems
  simp only [List.cons_append, List.nil_append, Rows.uptoBulkAll, Rows.uptoBulk] at h
  omega

theorem met (os : Os) (args : Array Value) : laidMet Tryd.prog Rows.treeTellsUptoRow.laid ((World.doorLaid Tryd.prog 14 os).forCall (fun _ _ => 0) ⟨#[], args, []⟩).memory := laidMet_of_run' 8 (by kernel_rfl) (by kernel_rfl)
theorem reads (os : Os) {H : Type} (enc : TypeId × Value → H) : ∃ ds places, DataW.whole enc Tryd.prog ((World.doorLaid Tryd.prog 14 os).forCall (fun _ _ => 0) ⟨#[], #[.slice none 0 0, .int .i64 0, .int .i64 0, .agg #[.int .i64 0, .slice none 0 0], .slice none 0 0], []⟩).memory Tryd.f7.params.toList Rows.treeTellsSpec.vars false (#[.slice none 0 0, .int .i64 0, .int .i64 0, .agg #[.int .i64 0, .slice none 0 0], .slice none 0 0] : Array Value).toList 8 = some (ds, [], places) ∧ Rows.uptoSmall H (ds ++ []) = true :=
  ⟨[.nil, .lit (.int .i64 0), .lit (.int .i64 0), .agg [.lit (.int .i64 0), .nil], .nil], [], by kernel_rfl, by kernel_rfl⟩

set_option maxRecDepth 100000 in
theorem lifted (os : Os) (started : os.Started) (H : Type) (enc : TypeId × Value → H) (F : Stop.Interp) :
    ReturnsInHanded {} Tryd.checked os 7 .any ((Rows.OpenSpec.upto Rows.treeTellsSpec).preRow enc Tryd.prog Tryd.f7 Rows.treeTellsUptoRow.domain false Rows.treeTellsUptoRow.laid) (((Rows.OpenSpec.upto Rows.treeTellsSpec).at F).post enc Tryd.prog Tryd.f7 false true false false) := by
  obtain ⟨ds0, places, hx, hsm⟩ := reads os enc
  refine returnsInHanded_of_row (C := Tryd.checked) (s := Rows.OpenSpec.upto Rows.treeTellsSpec) own started (by kernel_rfl) Tryd.func7
    (witness_row_at (enc := enc) (C := Tryd.checked) false (World.doorLaid Tryd.prog 14 os) #[.slice none 0 0, .int .i64 0, .int .i64 0, .agg #[.int .i64 0, .slice none 0 0], .slice none 0 0] rfl (by kernel_rfl) (by kernel_rfl) (by kernel_rfl)
      (OpenSpec.preRow_of_cond 8 hx (by kernel_rfl) (fun k hk => by cases hk; exact hsm) (by kernel_rfl) (met os _))) ?_
  intro W base args ds gs before hval0 hW _ hcond _ hL _ _
  have hval : ∀ (j : Nat) t v, Tryd.f7.params[j]? = some t → args[j]? = some v → Value.okWide Tryd.prog W .any base t v := hval0
  have hk : Rows.uptoSmall H (ds ++ gs) = true := hcond _ rfl
  have hW' := hW
  obtain ⟨p, q, hA0, hV, rfl, hfz, hnd⟩ := hW
  have hA : DataW.TrodAll enc Tryd.prog W 0 (fun _ => true) true Tryd.f7.params.toList args.toList ds p := hA0
  rw [Tryd.params7] at hA hval
  obtain ⟨v0, v1, v2, v3, v4, d0, d1, d2, d3, d4, p0, p1, p2, p3, p4, rfl, rfl, rfl, h0, h1, h2, h3, h4⟩ := trodAll_five hA
  obtain ⟨rfl, rfl⟩ := trodVars_none hV
  have hs0 := okWide_slice Tryd.underlying26 (hval 0 26 v0 rfl rfl)
  have hs4 := okWide_slice Tryd.underlying22 (hval 4 22 v4 rfl rfl)
  have w3 := hval 3 34 v3 rfl rfl
  obtain ⟨i, rfl⟩ := okWide_int Tryd.underlying3 (hval 1 3 v1 rfl rfl)
  obtain ⟨m, rfl⟩ := okWide_int Tryd.underlying3 (hval 2 3 v2 rfl rfl)
  have k0 := h0
  have k1 := h1
  have k2 := h2
  have k3 := h3
  have k4 := h4
  have lt0 : ∀ x ∈ p0, x.block < W.heap.size := by obtain ⟨q, hq⟩ := k0; exact DataW.trod_lt q _ _ _ hq
  have lt1 : ∀ x ∈ p1, x.block < W.heap.size := by obtain ⟨q, hq⟩ := k1; exact DataW.trod_lt q _ _ _ hq
  have lt2 : ∀ x ∈ p2, x.block < W.heap.size := by obtain ⟨q, hq⟩ := k2; exact DataW.trod_lt q _ _ _ hq
  have lt3 : ∀ x ∈ p3, x.block < W.heap.size := by obtain ⟨q, hq⟩ := k3; exact DataW.trod_lt q _ _ _ hq
  have lt4 : ∀ x ∈ p4, x.block < W.heap.size := by obtain ⟨q, hq⟩ := k4; exact DataW.trod_lt q _ _ _ hq
  obtain ⟨size, ps, pa, pn, pc, rfl, hP⟩ := open_edge w3 h3
  obtain ⟨L, la, ln, lc, rfl, hLs⟩ := open_lists hs0 h0
  obtain ⟨b, ba, bc, -, hb, hlen⟩ := open_some hs4 h4
  have hbl : b.length ≤ 2000000 := by
    rcases hlen with rfl | ⟨elems, sp, rfl, hel⟩
    · simp
    · have := few hk
      omega
  clear hA0 hval0
  refine (tells2_any leafC_holds nodeC_holds wrongC_holds rootC_holds pathC_holds growsC_holds pushC_holds topC_holds L i m size ps b la ln lc pa pn pc v4 W (ready_of_laid hL) hLs hP hb hbl).mono fun e W' ⟨he, bel⟩ => ?_
  subst he
  exact ⟨_, rfl, _, _, _, [], _, [], hW', trodAll_mk1 (shut_bool Tryd.underlying4 _), (trodAll_cons_mk (Below.trod laidOut (by kernel_rfl) (of_decide_eq_true (by kernel_rfl)) k0 bel lt0) (trodAll_cons_mk (Below.trod laidOut (by kernel_rfl) (of_decide_eq_true (by kernel_rfl)) k1 bel lt1) (trodAll_cons_mk (Below.trod laidOut (by kernel_rfl) (of_decide_eq_true (by kernel_rfl)) k2 bel lt2) (trodAll_cons_mk (Below.trod laidOut (by kernel_rfl) (of_decide_eq_true (by kernel_rfl)) k3 bel lt3) (trodAll_cons_mk (Below.trod laidOut (by kernel_rfl) (of_decide_eq_true (by kernel_rfl)) k4 bel lt4) trodAll_mk0))))), rfl, bel.frame _, fun h => by cases h⟩

theorem over : Rows.TreeTellsUptoSaid :=
  OpenClaim.holds_of_cond 7 Tryd.f7 rfl rfl rfl rfl rfl rfl rfl ⟨rfl, rfl, rfl, rfl, rfl⟩ rfl rfl rfl rfl rfl (by kernel_rfl) Tryd.func7 (by kernel_rfl)
    (of_decide_eq_true (by kernel_rfl)) (by unfold Func.isWrapper; first | (rw [if_pos (by decide +kernel)]; kernel_rfl) | (rw [if_neg (by decide +kernel)]; exact ⟨rfl, rfl⟩))
    (fun os started H enc _ F => by rw [OpenClaim.pre_eq_preRow]; exact lifted os started H enc F)
end Tells2Law

theorem treeTellsUpto_card_holds : Rows.TreeTellsUptoCardSaid :=
  Claim7.holds_tied_plain_at .later [] [.data] true (true, "657118de99efe738b26065c30c4cc14cb3c7fdb2e8cbc069aa843e3719ce3704") false
    Tells2Law.over (fun _ h => by cases h) (by kernel_rfl) (fun _ h => by cases h) treeTellsUpto_row_tie rfl ⟨rfl, rfl⟩ (by kernel_rfl) rfl
    (fun f fn hf hfn => by
      obtain rfl : f = 7 := Option.some.inj ((show Tryd.prog.funcNamed "yearbook/yearlaw2.TreeTells" = some 7 by kernel_rfl).symm.trans hf) |>.symm
      obtain rfl : fn = Tryd.f7 := (Option.some.inj (Tryd.func7.symm.trans hfn)).symm
      exact ⟨by kernel_rfl, fun j t ht => by
        rw [Tryd.params7] at ht
        have hm : t ∈ [26, 3, 3, 34, 22] := by simpa using Array.mem_of_getElem? ht
        have hall : ([26, 3, 3, 34, 22].all fun u => !Tryd.prog.wantsStandIn u) = true := by kernel_rfl
        exact (show Tryd.prog.wantsStandIn t = false by simpa using List.all_eq_true.1 hall t hm)⟩)
    (by kernel_rfl)
#print axioms treeTellsUpto_card_holds
end Go.Proofs.YtkjlchfmplcobaaDoor
