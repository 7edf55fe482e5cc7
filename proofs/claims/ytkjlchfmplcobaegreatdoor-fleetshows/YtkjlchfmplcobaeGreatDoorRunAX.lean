/- FleetGoDo, FleetGoPlay, as one text. -/
import Derived.Test.YtkjlchfmplcobaeGreatDoorFleetGoSubmit
import Derived.Test.YtkjlchfmplcobaeGreatDoorFleetGoFreeze
import Derived.Test.YtkjlchfmplcobaeGreatDoorRunAG
/- The walk of do: package fleet as it landed. -/
namespace Go.Proofs.YtkjlchfmplcobaeGreatDoor
open Go.RowKit

theorem step_submit {f : Flt} {d : Dd} (h : d.kind = 1) : stepL f d = submitL f d := by unfold stepL; rw [if_pos h]
theorem step_ref {f : Flt} {d : Dd} (h : d.kind ≠ 1) (hr : refL f.shards d ≠ 0) : stepL f d = (f, no (refL f.shards d)) := by
 unfold refL at hr
 unfold stepL refL
 rw [if_neg h]
 by_cases h1 : d.kind < 2 ∨ 5 < d.kind
 ·rw [if_pos h1, if_pos h1]
 rw [if_neg h1] at hr ⊢
 rw [if_neg h1]
 by_cases h2 : d.n < 0 ∨ (f.shards.length : Int) ≤ d.n
 ·rw [if_pos h2, if_pos h2]
 rw [if_neg h2] at hr ⊢
 rw [if_neg h2]
 by_cases h3 : (f.shards.getD d.n.toNat shd0).state ≠ wantL d.kind
 ·rw [if_pos h3, if_pos h3]
 rw [if_neg h3] at hr
 exact absurd rfl hr
theorem step_may {f : Flt} {d : Dd} (h : d.kind ≠ 1) (hr : refL f.shards d = 0) : (2 ≤ d.kind ∧ d.kind ≤ 5) ∧ (0 ≤ d.n ∧ d.n < (f.shards.length : Int)) ∧ (f.shards.getD d.n.toNat shd0).state = wantL d.kind ∧ stepL f d = stepAt f d.n.toNat d := by
 unfold refL at hr
 by_cases h1 : d.kind < 2 ∨ 5 < d.kind
 ·rw [if_pos h1] at hr; omega
 rw [if_neg h1] at hr
 by_cases h2 : d.n < 0 ∨ (f.shards.length : Int) ≤ d.n
 ·rw [if_pos h2] at hr; omega
 rw [if_neg h2] at hr
 by_cases h3 : (f.shards.getD d.n.toNat shd0).state ≠ wantL d.kind
 ·rw [if_pos h3] at hr; omega
 refine ⟨by omega, by omega, by simpa using h3, ?_⟩
 unfold stepL
 rw [if_neg h, if_neg h1, if_neg h2, if_neg h3]
theorem stepAt_freeze (f : Flt) (k : Nat) {d : Dd} (h : d.kind = 2) : stepAt f k d = freezeL f k := by unfold stepAt freezeL; rw [if_pos h]
theorem stepAt_export (f : Flt) (k : Nat) {d : Dd} (h : d.kind = 3) (h0 : (wrongL (f.shards.getD k shd0).entries).1 = 0) : stepAt f k d = exportS f k := by
 unfold stepAt exportS
 rw [if_neg (by omega), if_pos h, if_neg (fun g => g h0)]; rfl
theorem stepAt_retire (f : Flt) (k : Nat) {d : Dd} (h : d.kind = 4) : stepAt f k d = retireL f k := by
 unfold stepAt retireL
 rw [if_neg (by omega), if_neg (by omega), if_pos h]; rfl
theorem stepAt_spoil (f : Flt) (k : Nat) {d : Dd} (h : d.kind = 5) : stepAt f k d = spoilL f k d := by
 unfold stepAt spoilL
 rw [if_neg (by omega), if_neg (by omega), if_neg (by omega)]; rfl
end Go.Proofs.YtkjlchfmplcobaeGreatDoor

/- The walk of Play: package fleet as it landed. -/
namespace Go.Proofs.YtkjlchfmplcobaeGreatDoor
open Go.RowKit

theorem Tryz.info41b : (Tryz.prog.info? 41).map (fun i => (i.zero, i.size, i.bytes)) = some (some (.agg #[.int .i64 0, .int .i64 0, .int .i64 0, .int .i64 0, .slice none 0 0]), 5, 56) := by kernel_rfl
theorem lit_ans (w : World) (x : Ans) (v : Value) (t : TypeId) : ∀ (j : Nat) (u : Value), (ansV x v)[j]? = some u → (w.alloc (.cells #[.int .i64 x.err, .int .i64 x.shard, .int .i64 x.place, .int .i64 x.size, v] t)).cell? ((⟨w.heap.size, 0, none⟩ : Addr).add j) = some u := fun j u hj => by
 have hadd : (⟨w.heap.size, 0, none⟩ : Addr).add j = ⟨w.heap.size, 0 + j, none⟩ := Addr.add_mid _ _ _
 rw [hadd, Nat.zero_add]
 rw [cell_of_row _ _ j _ t _ (box_new w _ t), ← hj]
 simp [ansV]
theorem take_more {α : Type} (l : List α) (d : α) {j : Nat} (h : j < l.length) : l.take (j + 1) = l.take j ++ [l.getD j d] := by
 rw [List.take_add_one, List.getD_eq_getElem?_getD, List.getElem?_eq_getElem h]; rfl
/-- The fleet and the answers so far. -/
structure Run (τ : Nat → Tag) (N gp : Nat) (w : World) (ws : List Win) (l : List Dd) (av : Value) (j : Nat) : Prop where
 flt : GoF τ N w gp (runL (startL ws) (l.take j)).1
 ans : AnM τ N w av (runL (startL ws) (l.take j)).2
 low : ∀ b, b < N → τ b = tNo
theorem Run.upd {τ : Nat → Tag} {N gp j : Nat} {w w' : World} {ws : List Win} {l : List Dd} {av : Value} (h : Run τ N gp w ws l av j) (hb : Below w.heap.size w w') : Run τ N gp w' ws l av j :=
 ⟨h.flt.upd (upd_same hb) no_row, h.ans.upd (upd_same hb) no_row no_row, h.low⟩
theorem run_len (ws : List Win) {l : List Dd} {j : Nat} (hj : j ≤ l.length) : (runL (startL ws) (l.take j)).2.length = j := by
 rw [runL_length, List.length_take]; omega
/-- One thing more was done. -/
theorem Run.step {τ : Nat → Tag} {N gp j vc : Nat} {w w1 : World} {ws : List Win} {l : List Dd} {va : Option Addr} {av : Value} {ra : Option Addr} {rc : Nat} (hj : j < l.length) (h : Run τ N gp w ws l (.slice va j vc) j) (hN : N ≤ w.heap.size) (hW : Went τ N gp w w1 av (stepL (runL (startL ws) (l.take j)).1 (l.getD j dd0))) (hav : av = .agg #[.int .i64 (stepL (runL (startL ws) (l.take j)).1 (l.getD j dd0)).2.err, .int .i64 (stepL (runL (startL ws) (l.take j)).1 (l.getD j dd0)).2.shard, .int .i64 (stepL (runL (startL ws) (l.take j)).1 (l.getD j dd0)).2.place, .int .i64 (stepL (runL (startL ws) (l.take j)).1 (l.getD j dd0)).2.size, .slice ra (stepL (runL (startL ws) (l.take j)).1 (l.getD j dd0)).2.root.length rc]) :
  Below N w w1 ∧ N ≤ w1.heap.size ∧ ∃ ys, w1.ownsRow N 41 5 (.slice va j vc) j ys ∧ ∀ (o : Obj) (w6 : World) (g cap : Nat), (w1.alloc o).grownBy w6 (Value.slice va j vc).ownBlock → w6.ownsRow N 41 5 (.slice (some ⟨g, 0, none⟩) (j + 1) cap) (j + 1) (ys ++ ansV (stepL (runL (startL ws) (l.take j)).1 (l.getD j dd0)).2 (.slice ra (stepL (runL (startL ws) (l.take j)).1 (l.getD j dd0)).2.root.length rc)) → ((Value.slice va j vc).ownBlock = some g ∨ g = (w1.alloc o).heap.size) → g < w6.heap.size → (∃ τ', Run τ' N gp w6 ws l (.slice (some ⟨g, 0, none⟩) (j + 1) cap) (j + 1)) ∧ Below N w w6 := by
 obtain ⟨τ1, ⟨rv, e, hrv⟩, hF1, hK1⟩ := hW
 have hl := run_len ws (Nat.le_of_lt hj)
 rw [hav] at e
 simp only [Value.agg.injEq, Array.mk.injEq, List.cons.injEq, and_true, true_and] at e
 subst e
 have hA1 := hK1.anM h.ans
 obtain ⟨hT1, ys, hrow, hx⟩ := hA1
 have hyl := hrow.1
 have hN1 : N ≤ w1.heap.size := Nat.le_trans hN hK1.size
 refine ⟨hK1.low, hN1, ys, by rw [hl] at hrow; exact hrow, fun o w6 g cap hg6 ho6 ha6 hlt6 => ?_⟩
 have bA : Below w1.heap.size w1 (w1.alloc o) := (Below.refl _ _).alloc (Nat.le_refl _) _
 have U1 := upd_same (τ := τ1) bA
 have hTA := hT1.upd U1
 have U2 : Upd τ1 (ext τ1 (w1.alloc o).heap.size tAn) (w1.alloc o) w6 (Value.slice va j vc).ownBlock := ⟨hg6, fun _ hb => ext_old hb⟩
 have hmine : ∀ b, (Value.slice va j vc).ownBlock = some b → τ1 b = tAn := fun b hb => (hTA b hb).2
 have hF6 := (hF1.upd U1 no_row).upd U2 (fun b hb => .inr (hmine b hb))
 have hrun : runL (startL ws) (l.take (j + 1)) = ((stepL (runL (startL ws) (l.take j)).1 (l.getD j dd0)).1, (runL (startL ws) (l.take j)).2 ++ [(stepL (runL (startL ws) (l.take j)).1 (l.getD j dd0)).2]) := by
  rw [take_more l dd0 hj, runL_snoc]
 have hA6 := AnM.snoc (N := N) hTA hyl (fun i hi => by obtain ⟨q, h1, h2⟩ := hx i hi; exact ⟨q, h1, h2.upd U1 no_row⟩) (by rw [hl]; exact ho6) hg6 ha6 hlt6 (hrv.upd U1 no_row)
 rw [hl] at hA6
 refine ⟨⟨_, ⟨by rw [hrun]; exact hF6, by rw [hrun]; exact hA6, fun b hb => ?_⟩⟩, ?_⟩
 ·rw [ext_old (by have := bA.size; omega), hK1.same b (by omega)]
  exact h.low b hb
 ·have b2 : Below N w (w1.alloc o) := hK1.low.trans (bA.mono hN1)
  exact b2.grown hg6 (Nat.le_trans hN1 bA.size) (fun b hb => (hrow.lt b hb).1)
/-- What is handed back. -/
theorem Run.back {τ : Nat → Tag} {N gp a b : Nat} {w : World} {ws : List Win} {l : List Dd} {av : Value} (h : Run τ N gp w ws l av l.length) (ha : a < N) (hb : b < N) : ∃ sv bv, w.heap[gp]? = some (.cells #[sv, bv] 59 (0, 0)) ∧ (∃ x y z, sv = .slice x y z) ∧ (∃ x y z, bv = .slice x y z) ∧ ∀ u0 u1 u2 u3, FltM τ N ((((w.setCell ⟨a, 0, none⟩ u0).setCell ⟨a, 1, none⟩ u1).setCell ⟨b, 0, none⟩ u2).setCell ⟨b, 1, none⟩ u3) (.agg #[sv, bv]) (runL (startL ws) l).1 ∧ AnM τ N ((((w.setCell ⟨a, 0, none⟩ u0).setCell ⟨a, 1, none⟩ u1).setCell ⟨b, 0, none⟩ u2).setCell ⟨b, 1, none⟩ u3) av (runL (startL ws) l).2 := by
 obtain ⟨hF, hA, hl⟩ := h
 rw [List.take_length] at hF hA
 obtain ⟨sa, sc, ba, bc, V, hB, hS⟩ := hF.open
 have ta := hl a ha
 have tb := hl b hb
 have na : ∀ c, some a = some c → τ c = tNo := fun c hc => by cases hc; exact ta
 have nb : ∀ c, some b = some c → τ c = tNo := fun c hc => by cases hc; exact tb
 refine ⟨_, _, hB.box, ⟨_, _, _, rfl⟩, ⟨_, _, _, rfl⟩, fun u0 u1 u2 u3 => ?_⟩
 have s4 := (((hS.upd (upd_set τ _ a 0 u0) (fun c hc => .inl (na c hc))).upd (upd_set τ _ a 1 u1) (fun c hc => .inl (na c hc))).upd (upd_set τ _ b 0 u2) (fun c hc => .inl (nb c hc))).upd (upd_set τ _ b 1 u3) (fun c hc => .inl (nb c hc))
 have k4 := (((hB.bk.upd (upd_set τ _ a 0 u0) (fun c hc => by rw [na c hc]; decide) (fun c hc => by rw [na c hc]; decide)).upd (upd_set τ _ a 1 u1) (fun c hc => by rw [na c hc]; decide) (fun c hc => by rw [na c hc]; decide)).upd (upd_set τ _ b 0 u2) (fun c hc => by rw [nb c hc]; decide) (fun c hc => by rw [nb c hc]; decide)).upd (upd_set τ _ b 1 u3) (fun c hc => by rw [nb c hc]; decide) (fun c hc => by rw [nb c hc]; decide)
 have a4 := (((hA.upd (upd_set τ _ a 0 u0) (fun c hc => by rw [na c hc]; decide) (fun c hc => by rw [na c hc]; decide)).upd (upd_set τ _ a 1 u1) (fun c hc => by rw [na c hc]; decide) (fun c hc => by rw [na c hc]; decide)).upd (upd_set τ _ b 0 u2) (fun c hc => by rw [nb c hc]; decide) (fun c hc => by rw [nb c hc]; decide)).upd (upd_set τ _ b 1 u3) (fun c hc => by rw [nb c hc]; decide) (fun c hc => by rw [nb c hc]; decide)
 exact ⟨⟨sa, sc, ba, bc, V, rfl, s4, k4⟩, a4⟩

end Go.Proofs.YtkjlchfmplcobaeGreatDoor
