/- FleetRefStep, FleetRefPlay, FleetTellsWalk, as one text. -/
import Derived.Test.YtkjlchfmplcobaeGreatDoorProg
import Derived.Test.YtkjlchfmplcobaeGreatDoorRunAW
import Derived.Test.YtkjlchfmplcobaeGreatDoorRunAB
import Derived.Test.YtkjlchfmplcobaeGreatDoorRunAF
import Derived.Test.YtkjlchfmplcobaeGreatDoorFleetRefSubmit
import Derived.Test.YtkjlchfmplcobaeGreatDoorRunAO
import Derived.Test.YtkjlchfmplcobaeGreatDoorRunAX
import Derived.Test.YtkjlchfmplcobaeGreatDoorFleetRefRetire
import Derived.Test.YtkjlchfmplcobaeGreatDoorRunAH
import Derived.Test.YtkjlchfmplcobaeGreatDoorRunAV
import Derived.WalkKit
import Derived.WalkSpells
import Derived.WalkLawsBesides
import Derived.BigRegion
import Derived.Test.YtkjlchfmplcobaeGreatDoorRunAD
import Derived.Deep.RegionHeld3
/- The reference's Step, whatever is done: package yearref5. -/
namespace Go.Proofs.YtkjlchfmplcobaeGreatDoor
open Go.RowKit

theorem refStep_any (ws : List Win) (f : Flt) (d : Dd) (τ : Nat → Tag) (N gp : Nat) (da : Option Addr) (dc : Nat) (w : World) (hF : RfF τ N w gp f) (hN : N ≤ w.heap.size) (hok : FltOk ws f) (h8 : ws.length ≤ 8) (hsm : SegFew f) (hd : Some' w (.slice da d.entry.length dc) d.entry) (hfit : DdFit d) :
    Calls Tryz.prog 18 #[.pointer (some ⟨gp, 0, none⟩), .agg #[.int .i64 d.kind, .int .i64 d.n, .int .i64 d.time, .slice da d.entry.length dc, .int .i64 d.segment, .int .i64 d.at', .int .u8 d.by']] w fun e w' => ∃ av, e = .returned av ∧ RfWent τ N gp w w' av (stepL f d) := by
  by_cases h1 : d.kind = 1
  · rw [h1, step_submit h1]
    exact refSubmit_any f d τ N gp da dc w hF hN hd (fun k hk => (hok.each k (by rw [← hok.len]; exact hk)).few)
  by_cases hr : refL f.shards d = 0
  · obtain ⟨hkd, hnn, hst, hstep⟩ := step_may h1 hr
    obtain ⟨k, hk⟩ : ∃ k : Nat, d.n = k := ⟨d.n.toNat, by omega⟩
    rw [hstep, hk, Int.toNat_natCast]
    rw [hk, Int.toNat_natCast] at hst
    have hkl : k < f.shards.length := by omega
    have hs := hok.each k (by rw [← hok.len]; exact hkl)
    have hm := hsm k hkl
    have hwr := wrong_entries hs
    have hbl : f.book.length ≤ 1000 := by have := book_few hok; omega
    have h4 : d.kind = 2 ∨ d.kind = 3 ∨ d.kind = 4 ∨ d.kind = 5 := by omega
    rcases h4 with e | e | e | e
    · rw [e] at hst
      rw [stepAt_freeze f k e, e]
      refine refFreeze_any f d k τ N gp da dc w hF hN hkl hst hs.few (fun j => ?_) hbl
      by_cases hj : j < (f.shards.getD k shd0).entries.length
      · rw [List.getD_eq_getElem?_getD, List.getElem?_eq_getElem hj]; exact hs.short _ (List.getElem_mem hj)
      · rw [List.getD_eq_getElem?_getD, List.getElem?_eq_none (by omega)]; simp
    · rw [e] at hst
      rw [stepAt_export f k e (by rw [hwr]), e]
      exact refExportS_any f d k τ N gp da dc w hF hN hkl hst hwr
    · rw [e] at hst
      rw [stepAt_retire f k e, e]
      exact refRetire_any f d k τ N gp da dc w hF hN hkl hst
    · rw [e] at hst
      rw [stepAt_spoil f k e, e]
      by_cases q : d.segment < 0 ∨ ((f.shards.getD k shd0).man.segs.length : Int) ≤ d.segment
      · have : spoilL f k d = (f, no 6) := by unfold spoilL; rw [if_pos q]
        rw [this]
        exact refSpoilNone_any f d k τ N gp da dc w hF hN hkl hst q
      · obtain ⟨m, hm'⟩ : ∃ m : Nat, d.segment = m := ⟨d.segment.toNat, by omega⟩
        have hml : m < (f.shards.getD k shd0).man.segs.length := by omega
        by_cases q2 : d.at' < 0 ∨ (((f.shards.getD k shd0).man.segs.getD m seg0).packed.length : Int) ≤ d.at'
        · have : spoilL f k d = (f, no 3) := by unfold spoilL; rw [if_neg q, if_pos (by rw [hm', Int.toNat_natCast]; exact q2)]
          rw [this]
          exact refSpoilRange_any f d k τ N gp da dc w hF hN hkl hst m hm' hml q2
        · obtain ⟨o, ho'⟩ : ∃ o : Nat, d.at' = o := ⟨d.at'.toNat, by omega⟩
          exact refSpoil_any f d k τ N gp da dc w hF hN hkl hst m o hm' ho' hml (by omega) (hm.2 m) (Nat.le_trans hm.1 (by decide)) hfit.1
  · rw [step_ref h1 hr]
    exact refStepNo_any f d τ N gp da dc w hF hN h1 hr

end Go.Proofs.YtkjlchfmplcobaeGreatDoor

/- The walk of the reference's Play: package yearref5. -/
namespace Go.Proofs.YtkjlchfmplcobaeGreatDoor
open Go.RowKit

/-- The fleet and the answers so far. -/
structure RfRun (τ : Nat → Tag) (N gp : Nat) (w : World) (ws : List Win) (l : List Dd) (av : Value) (j : Nat) : Prop where
  flt : RfF τ N w gp (runL (startL ws) (l.take j)).1
  ans : AnM τ N w av (runL (startL ws) (l.take j)).2
  low : ∀ b, b < N → τ b = tNo
theorem RfRun.upd {τ : Nat → Tag} {N gp j : Nat} {w w' : World} {ws : List Win} {l : List Dd} {av : Value} (h : RfRun τ N gp w ws l av j) (hb : Below w.heap.size w w') : RfRun τ N gp w' ws l av j :=
  ⟨h.flt.upd (upd_same hb) no_row, h.ans.upd (upd_same hb) no_row no_row, h.low⟩
/-- One thing more was done. -/
theorem RfRun.step {τ : Nat → Tag} {N gp j vc : Nat} {w w1 : World} {ws : List Win} {l : List Dd} {va : Option Addr} {av : Value} {ra : Option Addr} {rc : Nat} (hj : j < l.length) (h : RfRun τ N gp w ws l (.slice va j vc) j) (hN : N ≤ w.heap.size) (hW : RfWent τ N gp w w1 av (stepL (runL (startL ws) (l.take j)).1 (l.getD j dd0))) (hav : av = .agg #[.int .i64 (stepL (runL (startL ws) (l.take j)).1 (l.getD j dd0)).2.err, .int .i64 (stepL (runL (startL ws) (l.take j)).1 (l.getD j dd0)).2.shard, .int .i64 (stepL (runL (startL ws) (l.take j)).1 (l.getD j dd0)).2.place, .int .i64 (stepL (runL (startL ws) (l.take j)).1 (l.getD j dd0)).2.size, .slice ra (stepL (runL (startL ws) (l.take j)).1 (l.getD j dd0)).2.root.length rc]) :
    Below N w w1 ∧ N ≤ w1.heap.size ∧ ∃ ys, w1.ownsRow N 41 5 (.slice va j vc) j ys ∧ ∀ (o : Obj) (w6 : World) (g cap : Nat), (w1.alloc o).grownBy w6 (Value.slice va j vc).ownBlock → w6.ownsRow N 41 5 (.slice (some ⟨g, 0, none⟩) (j + 1) cap) (j + 1) (ys ++ ansV (stepL (runL (startL ws) (l.take j)).1 (l.getD j dd0)).2 (.slice ra (stepL (runL (startL ws) (l.take j)).1 (l.getD j dd0)).2.root.length rc)) → ((Value.slice va j vc).ownBlock = some g ∨ g = (w1.alloc o).heap.size) → g < w6.heap.size → (∃ τ', RfRun τ' N gp w6 ws l (.slice (some ⟨g, 0, none⟩) (j + 1) cap) (j + 1)) ∧ Below N w w6 := by
  obtain ⟨τ1, ⟨rv, e, hrv⟩, hF1, hK1⟩ := hW
  have hl := run_len ws (Nat.le_of_lt hj)
  rw [hav] at e
  simp only [Value.agg.injEq, Array.mk.injEq, List.cons.injEq, and_true, true_and] at e
  subst e
  have hA1 := hK1.anM h.ans
  obtain ⟨hT1, ys, hrow, hx⟩ := hA1
  have hyl := hrow.1
  have hN1 : N ≤ w1.heap.size := Nat.le_trans hN hK1.size
  refine ⟨hK1.low, hN1, ys, by rw [hl] at hrow; exact hrow, fun o w6 g cap hg6 ho6 ha6 hlt6 => ?_⟩
  have bA : Below w1.heap.size w1 (w1.alloc o) := (Below.refl _ _).alloc (Nat.le_refl _) _
  have U1 := upd_same (τ := τ1) bA
  have hTA := hT1.upd U1
  have U2 : Upd τ1 (ext τ1 (w1.alloc o).heap.size tAn) (w1.alloc o) w6 (Value.slice va j vc).ownBlock := ⟨hg6, fun _ hb => ext_old hb⟩
  have hmine : ∀ b, (Value.slice va j vc).ownBlock = some b → τ1 b = tAn := fun b hb => (hTA b hb).2
  have hF6 := (hF1.upd U1 no_row).upd U2 (fun b hb => .inr (hmine b hb))
  have hrun : runL (startL ws) (l.take (j + 1)) = ((stepL (runL (startL ws) (l.take j)).1 (l.getD j dd0)).1, (runL (startL ws) (l.take j)).2 ++ [(stepL (runL (startL ws) (l.take j)).1 (l.getD j dd0)).2]) := by
    rw [take_more l dd0 hj, runL_snoc]
  have hA6 := AnM.snoc (N := N) hTA hyl (fun i hi => by obtain ⟨q, h1, h2⟩ := hx i hi; exact ⟨q, h1, h2.upd U1 no_row⟩) (by rw [hl]; exact ho6) hg6 ha6 hlt6 (hrv.upd U1 no_row)
  rw [hl] at hA6
  refine ⟨⟨_, ⟨by rw [hrun]; exact hF6, by rw [hrun]; exact hA6, fun b hb => ?_⟩⟩, ?_⟩
  · rw [ext_old (by have := bA.size; omega), hK1.same b (by omega)]
    exact h.low b hb
  · have b2 : Below N w (w1.alloc o) := hK1.low.trans (bA.mono hN1)
    exact b2.grown hg6 (Nat.le_trans hN1 bA.size) (fun b hb => (hrow.lt b hb).1)
/-- What is handed back. -/
theorem RfRun.back {τ : Nat → Tag} {N gp a b : Nat} {w : World} {ws : List Win} {l : List Dd} {av : Value} (h : RfRun τ N gp w ws l av l.length) (ha : a < N) (hb : b < N) : ∃ sv bv, w.heap[gp]? = some (.cells #[sv, bv] 27 (0, 0)) ∧ (∃ x y z, sv = .slice x y z) ∧ (∃ x y z, bv = .slice x y z) ∧ ∀ u0 u1 u2 u3, FltM τ N ((((w.setCell ⟨a, 0, none⟩ u0).setCell ⟨a, 1, none⟩ u1).setCell ⟨b, 0, none⟩ u2).setCell ⟨b, 1, none⟩ u3) (.agg #[sv, bv]) (runL (startL ws) l).1 ∧ AnM τ N ((((w.setCell ⟨a, 0, none⟩ u0).setCell ⟨a, 1, none⟩ u1).setCell ⟨b, 0, none⟩ u2).setCell ⟨b, 1, none⟩ u3) av (runL (startL ws) l).2 := by
  obtain ⟨hF, hA, hl⟩ := h
  rw [List.take_length] at hF hA
  obtain ⟨sa, sc, ba, bc, V, hB, hS⟩ := hF.open
  have ta := hl a ha
  have tb := hl b hb
  have na : ∀ c, some a = some c → τ c = tNo := fun c hc => by cases hc; exact ta
  have nb : ∀ c, some b = some c → τ c = tNo := fun c hc => by cases hc; exact tb
  refine ⟨_, _, hB.box, ⟨_, _, _, rfl⟩, ⟨_, _, _, rfl⟩, fun u0 u1 u2 u3 => ?_⟩
  have s4 := (((hS.upd (upd_set τ _ a 0 u0) (fun c hc => .inl (na c hc))).upd (upd_set τ _ a 1 u1) (fun c hc => .inl (na c hc))).upd (upd_set τ _ b 0 u2) (fun c hc => .inl (nb c hc))).upd (upd_set τ _ b 1 u3) (fun c hc => .inl (nb c hc))
  have k4 := (((hB.bk.upd (upd_set τ _ a 0 u0) (fun c hc => by rw [na c hc]; decide) (fun c hc => by rw [na c hc]; decide)).upd (upd_set τ _ a 1 u1) (fun c hc => by rw [na c hc]; decide) (fun c hc => by rw [na c hc]; decide)).upd (upd_set τ _ b 0 u2) (fun c hc => by rw [nb c hc]; decide) (fun c hc => by rw [nb c hc]; decide)).upd (upd_set τ _ b 1 u3) (fun c hc => by rw [nb c hc]; decide) (fun c hc => by rw [nb c hc]; decide)
  have a4 := (((hA.upd (upd_set τ _ a 0 u0) (fun c hc => by rw [na c hc]; decide) (fun c hc => by rw [na c hc]; decide)).upd (upd_set τ _ a 1 u1) (fun c hc => by rw [na c hc]; decide) (fun c hc => by rw [na c hc]; decide)).upd (upd_set τ _ b 0 u2) (fun c hc => by rw [nb c hc]; decide) (fun c hc => by rw [nb c hc]; decide)).upd (upd_set τ _ b 1 u3) (fun c hc => by rw [nb c hc]; decide) (fun c hc => by rw [nb c hc]; decide)
  exact ⟨⟨sa, sc, ba, bc, V, rfl, s4, k4⟩, a4⟩

theorem run_few {ws : List Win} {f : Flt} (hok : FltOk ws f) (h : SegFew f) (l : List Dd) : SegFew (runL f l).1 := by
  induction l generalizing f with
  | nil => exact h
  | cons d ds ih => exact ih (step_ok hok d) (step_few hok h d)
theorem beg_ref {ws : List Win} {N gp n c : Nat} {w : World} {sa : Option Addr} {vs : List Value} (hn : ws.length = n) (hrow : w.ownsRow N 65 7 (.slice sa n c) n vs) (hB : Beg ws vs n) (hbox : w.heap[gp]? = some (.cells #[.slice sa n c, .slice none 0 0] 27 (0, 0))) (hgp : N ≤ gp) :
    ∃ τ : Nat → Tag, RfF τ N w gp (startL ws) ∧ ∀ b, b < N → τ b = tNo := by
  have hlen : (startL ws).shards.length = n := by simp [startL, hn]
  have hne : (Value.slice sa n c).ownBlock ≠ some gp := fun h => by
    rcases hrow.2 with ⟨e, -⟩ | ⟨g, cap, cur, e, -, hh, -⟩
    · rw [e] at h; cases h
    · rw [e] at h
      cases h
      rw [hh] at hbox
      cases hbox
  refine ⟨fun b => if b = gp then tFl else if (Value.slice sa n c).ownBlock = some b then tSh else tNo, ⟨hgp, if_pos rfl, .slice sa n c, .slice none 0 0, fun _ => nilV, hbox, ⟨fun b hb => ?_, ⟨vs, by rw [hlen]; exact hrow, fun k hk i hi => ?_⟩, fun k hk => ?_, fun k hk => ?_, fun k hk => ?_⟩, bkM_nil _ _ _⟩, fun b hb => ?_⟩
  · refine ⟨(hrow.lt b hb).2, ?_⟩
    have : b ≠ gp := fun e => hne (by rw [← e]; exact hb)
    show (if b = gp then _ else _) = _
    rw [if_neg this, if_pos hb]
  · rw [hlen] at hk
    rw [start_get (by omega)]
    exact hB k hk i hi
  · rw [hlen] at hk
    rw [start_get (by omega)]
    exact entM_nil _ _ _ _
  · rw [hlen] at hk
    rw [start_get (by omega)]
    exact byM_nil _ _
  · rw [hlen] at hk
    rw [start_get (by omega)]
    exact segM_nil _ _ _ _
  · have h1 : b ≠ gp := by omega
    have h2 : (Value.slice sa n c).ownBlock ≠ some b := fun h => by have := (hrow.lt b h).1; omega
    show (if b = gp then _ else _) = _
    rw [if_neg h1, if_neg h2]
set_option maxRecDepth 100000 in
set_option maxHeartbeats 4000000 in
theorem refPlay_any (ws : List Win) (l : List Dd) (wv dv : Value) (w : World) (hW : WinsAt w wv ws) (hD : DosAt w dv l) :
    Calls Tryz.prog 6 #[wv, dv] w fun e w' => ∃ fv av τ N, e = .returned (.tuple #[fv, av, faultV (playF ws l)]) ∧ FltM τ N w' fv (playL ws l).1 ∧ AnM τ N w' av (playL ws l).2 ∧ (∀ b, b < w.heap.size → τ b = tNo) ∧ Below w.heap.size w w' := by
  obtain ⟨s7, hs7, hs70, hs71, hs72⟩ := info_parts Tryz.info65b
  obtain ⟨i0, hi0, hz0, hz1, hz2⟩ := info_parts Tryz.info41b
  obtain ⟨wa, wc, e⟩ := hW.form
  subst e
  obtain ⟨da, dc, e⟩ := hD.form
  subst e
  have b0 : Below w.heap.size w ((w.alloc (.cells #[.slice none 0 0, .slice none 0 0] 27)).alloc (.cells #[.int .i64 0, .int .i64 0] 31)) := ((Below.refl _ _).alloc (Nat.le_refl _) _).alloc (by simp) _
  have x0 := box_one w #[.slice none 0 0, .slice none 0 0] 27 (.cells #[.int .i64 0, .int .i64 0] 31)
  have y0 := box_last w (.cells #[.slice none 0 0, .slice none 0 0] 27) #[.int .i64 0, .int .i64 0] 31
  have hWr := refWins_any ws wa ws.length wc _ (hW.below b0) rfl
  have HPF : Hid (playF ws l = if (wrongWins ws).1 ≠ 0 then wrongWins ws else if 120 < l.length then (5, 0) else (0, 0)) := rfl
  have HPL : Hid (playL ws l = if (playF ws l).1 ≠ 0 then (flt0, []) else runL (startL ws) l) := rfl
  have hw8 : (wrongWins ws).1 = 0 → ws.length ≤ 8 := fun h => by
    by_cases h8 : 8 < ws.length
    · rw [wrongWins_many h8] at h; simp at h
    · omega
  generalize playF ws l = PF at *
  generalize playL ws l = PL at *
  generalize hwv : wrongWins ws = WV at *
  obtain ⟨E1, E2⟩ := WV
  dsimp only [faultV] at hWr HPF hw8
  by_cases hE : E1 = 0
  · subst hE
    replace hw8 := hw8 rfl
    replace HPF : Hid (PF = if 120 < l.length then (5, 0) else (0, 0)) := by show _ = _; rw [HPF.out, if_neg (fun h => h rfl)]
    have hdl : l.length ≤ 9223372036854775807 := by obtain ⟨a', c', e, h1, h2, -⟩ := hD; unfold maxLen at h2; cases e; omega
    by_cases h120 : 120 < l.length
    · have HP2 : Hid (PF = (5, 0)) := by show _ = _; rw [HPF.out, if_pos h120]
      have HL2 : Hid (PL = (flt0, [])) := by show _ = _; rw [HPL.out, HP2.out, if_pos (by decide)]
      rw [HP2.out, HL2.out]
      have h120' : (120 : Int) < l.length := by omega
      clear HPF HPL HP2 HL2 hW hD
      go_enter Tryz.func6, Tryz.ntmps6
      go_wp2_with fail
      generalize (w.alloc (.cells #[.slice none 0 0, .slice none 0 0] 27)).alloc (.cells #[.int .i64 0, .int .i64 0] 31) = w0 at *
      refine hWr.mono ?_
      rintro e w1 ⟨rfl, hb1⟩
      have d2 : Below w1.heap.size w1 (w1.alloc (.cells #[.int .i64 0, .int .i64 E2] 31)) := (Below.refl _ _).alloc (Nat.le_refl _) _
      have c2 := hb1.trans (d2.mono hb1.size)
      have b2 := b0.trans (c2.mono b0.size)
      have x2 := box_kept x0 c2
      have y2 := box_kept y0 c2
      obtain ⟨f0, f1, -, -⟩ := box_two (box_new w1 #[.int .i64 0, .int .i64 E2] 31)
      obtain ⟨p0, p1, p2, p3⟩ := box_two x2
      obtain ⟨q0, q1, q2, q3⟩ := box_two y2
      clear hWr x0 y0 hb1 d2 c2
      go_wp2_with fail
      generalize w1.alloc (.cells #[.int .i64 0, .int .i64 E2] 31) = w2 at *
      have b3 := two_below (two_below b2 (Nat.le_refl w.heap.size) (.slice none 0 0) (.slice none 0 0)) (Nat.le_succ w.heap.size) (.int .i64 5) (.int .i64 0)
      have x3 := two_far (two_set x2 (.slice none 0 0) (.slice none 0 0)) (show w.heap.size ≠ w.heap.size + 1 by omega) (.int .i64 5) (.int .i64 0)
      have y3 := two_set (two_far y2 (show w.heap.size + 1 ≠ w.heap.size by omega) (.slice none 0 0) (.slice none 0 0)) (.int .i64 5) (.int .i64 0)
      obtain ⟨s0, s1, -, -⟩ := box_two x3
      obtain ⟨s2, s3, -, -⟩ := box_two y3
      exact bodyPost_ret (v := .tuple #[.agg #[.slice none 0 0, .slice none 0 0], .slice none 0 0, faultV (5, 0)]) (by simp [results, Tryz.results6, go_sem, s0, s1, s2, s3]) rfl ⟨_, _, fun _ => tNo, 0, rfl, fltM_nil _ _ _, anM_nilT _ _ _, fun _ _ => rfl, b3⟩
    · have HP2 : Hid (PF = (0, 0)) := by show _ = _; rw [HPF.out, if_neg h120]
      have HL2 : Hid (PL = runL (startL ws) l) := by show _ = _; rw [HPL.out, HP2.out, if_neg (fun h => h rfl)]
      rw [HP2.out]
      have h120' : ¬ (120 : Int) < l.length := by omega
      obtain ⟨da', dc', e, hD1, hD2, -, hDc⟩ := hD
      cases e
      unfold maxLen at hD2
      obtain ⟨wa', wc', e, hW1, hW2, -, hWc⟩ := hW
      cases e
      clear HPF HPL HP2
      obtain ⟨n, HNn⟩ : ∃ n, Hid (ws.length = n) := ⟨_, rfl⟩
      rw [HNn.out] at hw8 hWr hWc hW1
      rw [HNn.out]
      go_enter Tryz.func6, Tryz.ntmps6
      go_wp2_with fail
      generalize (w.alloc (.cells #[.slice none 0 0, .slice none 0 0] 27)).alloc (.cells #[.int .i64 0, .int .i64 0] 31) = w0 at *
      refine hWr.mono ?_
      rintro e w1 ⟨rfl, hb1⟩
      have d2 : Below w1.heap.size w1 (w1.alloc (.cells #[.int .i64 0, .int .i64 E2] 31)) := (Below.refl _ _).alloc (Nat.le_refl _) _
      have c2 := hb1.trans (d2.mono hb1.size)
      have b2 := b0.trans (c2.mono b0.size)
      have x2 := box_kept x0 c2
      have y2 := box_kept y0 c2
      obtain ⟨f0, f1, -, -⟩ := box_two (box_new w1 #[.int .i64 0, .int .i64 E2] 31)
      clear hWr x0 y0 hb1 d2 c2 b0
      go_wp2_with fail
      have hsz2 : (w1.alloc (.cells #[.int .i64 0, .int .i64 E2] 31)).heap.size = w1.heap.size + 1 := by simp
      have bG := box_new (w1.alloc (.cells #[.int .i64 0, .int .i64 E2] 31)) #[.slice none 0 0, .slice none 0 0] 27
      rw [hsz2] at bG
      generalize w1.alloc (.cells #[.int .i64 0, .int .i64 E2] 31) = w2 at *
      generalize w1.heap.size + 1 = GP at *
      have HGP : Hid (w2.heap.size = GP) := hsz2
      clear hsz2 f0 f1
      go_loopw [29] (fun kv wr => ∃ (j : Nat) (vs : List Value) (va : Option Addr) (vc : Nat), j ≤ n ∧ kv = .int .i64 j ∧ wr.heap[GP]? = some (.cells #[.slice va j vc, .slice none 0 0] 27 (0, 0)) ∧ wr.ownsRow w2.heap.size 65 7 (.slice va j vc) j vs ∧ Beg ws vs j ∧ Below w2.heap.size w2 wr) (fun kv _ => n - (intOf kv).toNat)
      case atStart => exact ⟨0, [], none, 0, Nat.zero_le _, rfl, bG, World.ownsRow_nil _ _ _ _, beg_nil ws, (Below.refl _ _).alloc (Nat.le_refl _) _⟩
      case round =>
        obtain ⟨wp, rfl⟩ : ∃ x, x = wr := ⟨wr, rfl⟩
        obtain ⟨j, vs, va, vc, hj, rfl, hbx, hrow, hBeg, hbr⟩ := hrel
        have hsr := hbr.size
        have hbw := b2.trans (hbr.mono b2.size)
        clear bG
        by_cases hlt : j < n
        · have hlt' : (j : Int) < n := by omega
          have hj0 : (0 : Int) ≤ j := by omega
          obtain ⟨p2, o2, rfl, hp2, hcs2⟩ := hWc.resolve_left (by omega)
          obtain ⟨e0, e1⟩ := hcs2 j hlt
          replace e0 := (hbw.cell (p := ⟨p2, o2 + j * 2, none⟩) hp2).trans e0
          replace e1 := (hbw.cell (p := ⟨p2, o2 + j * 2 + 1, none⟩) hp2).trans e1
          have hBS := hBeg.snoc hrow.1
          obtain ⟨A, HA⟩ : ∃ A, Hid ((ws.getD j win0).a = A) := ⟨_, rfl⟩
          obtain ⟨B, HB⟩ : ∃ B, Hid ((ws.getD j win0).b = B) := ⟨_, rfl⟩
          rw [HA.out] at e0
          rw [HB.out] at e1
          have HBS : Hid (Beg ws (vs ++ [.int .i64 A, .int .i64 B, .int .i64 1, .slice none 0 0, .int .i64 0, .slice none 0 0, .slice none 0 0]) (j + 1)) := by rw [← HA.out, ← HB.out]; exact hBS
          have dV : Below wp.heap.size wp (wp.alloc (.cells #[.int .i64 A, .int .i64 B] 60)) := (Below.refl _ _).alloc (Nat.le_refl _) _
          obtain ⟨v0, v1, -, -⟩ := box_two (box_new wp #[.int .i64 A, .int .i64 B] 60)
          obtain ⟨g0, g1, -, -⟩ := box_two (box_kept hbx dV)
          have hGl := lt_heap hbx
          have hnb : (Value.slice va j vc).ownBlock ≠ some GP := fun h => by have := own_type hrow h hbx; exact absurd this (by decide)
          clear hBS hBeg hcs2 hWc
          have hlit := box_last wp (.cells #[.int .i64 A, .int .i64 B] 60) #[.int .i64 A, .int .i64 B, .int .i64 1, .slice none 0 0, .int .i64 0, .slice none 0 0, .slice none 0 0] 65
          have hnew := World.news_of_block hlit
          have hone : ∀ u ∈ (#[.int .i64 A, .int .i64 B, .int .i64 1, .slice none 0 0, .int .i64 0, .slice none 0 0, .slice none 0 0] : Array Value).toList, u.oneCell' = true := by intro u hu; simp at hu; rcases hu with rfl | rfl | rfl | rfl | rfl | rfl | rfl <;> rfl
          have hrowA := (hrow.alloc (.cells #[.int .i64 A, .int .i64 B] 60)).alloc (.cells #[.int .i64 A, .int .i64 B, .int .i64 1, .slice none 0 0, .int .i64 0, .slice none 0 0, .slice none 0 0] 65)
          have dW : Below wp.heap.size wp ((wp.alloc (.cells #[.int .i64 A, .int .i64 B] 60)).alloc (.cells #[.int .i64 A, .int .i64 B, .int .i64 1, .slice none 0 0, .int .i64 0, .slice none 0 0, .slice none 0 0] 65)) := dV.alloc dV.size _
          have hNA : w2.heap.size ≤ ((wp.alloc (.cells #[.int .i64 A, .int .i64 B] 60)).alloc (.cells #[.int .i64 A, .int .i64 B, .int .i64 1, .slice none 0 0, .int .i64 0, .slice none 0 0, .slice none 0 0] 65)).heap.size := Nat.le_trans hsr dW.size
          have hGA := box_kept hbx dW
          have HE6 : ∀ w6, Hid (((wp.alloc (.cells #[.int .i64 A, .int .i64 B] 60)).alloc (.cells #[.int .i64 A, .int .i64 B, .int .i64 1, .slice none 0 0, .int .i64 0, .slice none 0 0, .slice none 0 0] 65)).grownBy w6 (Value.slice va j vc).ownBlock → w6.heap[GP]? = some (.cells #[.slice va j vc, .slice none 0 0] 27 (0, 0)) ∧ w6.cell? ⟨GP, 0, none⟩ = some (.slice va j vc) ∧ w6.frozen? ⟨GP, 0, none⟩ = false ∧ Below w2.heap.size w2 w6) := fun w6 hg => by
            have hx := (hg.block GP (lt_heap hGA) (fun e => hnb e.symm)).trans hGA
            obtain ⟨q0, -, q2, -⟩ := box_two hx
            exact ⟨hx, q0, q2, (hbr.trans (dW.mono hsr)).grown hg hNA (fun b hb => (hrow.lt b hb).1)⟩
          go_wp2_with (at_builtin; refine wpList_append_lies _ rfl (.tmp 34) (.tmp 40) 24 rfl w2.heap.size 65 s7 _ 7 104 Tryz.underlying24 hs7 hs70 hs71 hs72 rfl (by decide) _ _ _ rfl hrowA ⟨wp.heap.size + 1, 0, none⟩ 1 1 _ rfl rfl hnew hone (by decide) (by unfold maxLen; omega) (by omega) hNA _ rfl ?_; intro g cap w6 ho6 hg6 ha6 hlt6; obtain ⟨hx6, q0, q2, hb6⟩ := (HE6 w6).out hg6)
          have hng : (Value.slice (some ⟨g, 0, none⟩) (j + 1) cap).ownBlock ≠ some GP := fun h => by have := own_type ho6 h hx6; exact absurd this (by decide)
          have HREL : Hid ((w6.setCell ⟨GP, 0, none⟩ (.slice (some ⟨g, 0, none⟩) (j + 1) cap)).heap[GP]? = some (.cells #[.slice (some ⟨g, 0, none⟩) (j + 1) cap, .slice none 0 0] 27 (0, 0)) ∧ (w6.setCell ⟨GP, 0, none⟩ (.slice (some ⟨g, 0, none⟩) (j + 1) cap)).ownsRow w2.heap.size 65 7 (.slice (some ⟨g, 0, none⟩) (j + 1) cap) (j + 1) (vs ++ [.int .i64 A, .int .i64 B, .int .i64 1, .slice none 0 0, .int .i64 0, .slice none 0 0, .slice none 0 0]) ∧ Below w2.heap.size w2 (w6.setCell ⟨GP, 0, none⟩ (.slice (some ⟨g, 0, none⟩) (j + 1) cap))) := ⟨heap_setCell_same _ _ 0 _ _ _ hx6, ho6.kept (grown_set w6 GP 0 _) (.inr hng), hb6.setCell (by show w2.heap.size ≤ GP; rw [HGP.out]; exact Nat.le_refl _) _⟩
          clear hx6 q0 q2 hb6 ho6 hg6 ha6 hng HE6 hGA hrowA hnew hone hlit
          go_roundw
          case rel => exact ⟨j + 1, _, some ⟨g, 0, none⟩, cap, by omega, by go_num, HREL.out.1, HREL.out.2.1, HBS.out, HREL.out.2.2⟩
          case measure => simp [intOf]; omega
        · obtain rfl : j = n := by omega
          have hnl : ¬ (j : Int) < j := by omega
          obtain ⟨τ0, hF0, hlow⟩ := beg_ref HNn.out hrow hBeg hbx (by rw [HGP.out]; exact Nat.le_refl _)
          have hRun : RfRun τ0 w2.heap.size GP wp ws l (.slice none 0 0) 0 := ⟨hF0, anM_nilT _ _ _, hlow⟩
          obtain ⟨ga, gb', -, -⟩ := box_two hbx
          clear hF0 hlow hrow hBeg hbx hWc
          go_wp2_with fail
          clear ga gb'
          go_loopw [11, 46] (fun gv kv wr => ∃ (j : Nat) (va : Option Addr) (vc : Nat), j ≤ l.length ∧ kv = .int .i64 j ∧ gv = .slice va j vc ∧ (∃ τ, RfRun τ w2.heap.size GP wr ws l (.slice va j vc) j) ∧ Below w2.heap.size w2 wr) (fun _ kv _ => l.length - (intOf kv).toNat)
          case atStart => exact ⟨0, none, 0, Nat.zero_le _, rfl, rfl, ⟨_, hRun⟩, hbr⟩
          case round =>
            obtain ⟨wo, rfl⟩ : ∃ x, x = wr := ⟨wr, rfl⟩
            clear hbr hsr
            obtain ⟨j, va, vc, hj, rfl, rfl, ⟨τ, hR⟩, hbr⟩ := hrel
            have hsr := hbr.size
            clear hRun
            have hbw := b2.trans (hbr.mono b2.size)
            by_cases hlt : j < l.length
            · have hlt' : (j : Int) < l.length := by omega
              obtain ⟨p2, o2, rfl, hp2, hcs2⟩ := hDc.resolve_left (by omega)
              obtain ⟨e0, e1, e2, ⟨qa, qc, e3, hq⟩, e4, e5, e6, e7⟩ := (hcs2 j hlt).below hp2 hbw
              obtain ⟨X, HX⟩ : ∃ X, Hid (l.getD j dd0 = X) := ⟨_, rfl⟩
              rw [HX.out] at e0 e1 e2 e3 e4 e5 e6 e7 hq
              have dV : Below wo.heap.size wo (wo.alloc (.cells #[.int .i64 X.kind, .int .i64 X.n, .int .i64 X.time, .slice qa X.entry.length qc, .int .i64 X.segment, .int .i64 X.at', .int .u8 X.by'] 56)) := (Below.refl _ _).alloc (Nat.le_refl _) _
              have bV := hbw.trans (dV.mono hbw.size)
              have hRV := hR.upd dV
              have hNV : w2.heap.size ≤ (wo.alloc (.cells #[.int .i64 X.kind, .int .i64 X.n, .int .i64 X.time, .slice qa X.entry.length qc, .int .i64 X.segment, .int .i64 X.at', .int .u8 X.by'] 56)).heap.size := Nat.le_trans hsr dV.size
              have hok : FltOk ws (runL (startL ws) (l.take j)).1 := run_ok (start_ok ws) _
              have hDo := refStep_any ws _ X τ w2.heap.size GP qa qc _ hRV.flt hNV hok (by rw [HNn.out]; exact hw8) (run_few (start_ok ws) (start_few ws) _) (hq.below dV) e7
              have hSt := fun w1 av ra rc => RfRun.step (w1 := w1) (av := av) (ra := ra) (rc := rc) hlt hRV hNV
              rw [HX.out] at hSt
              obtain ⟨v0, v1, v2, v3, v4, v5, v6⟩ := box_seven (box_new wo #[.int .i64 X.kind, .int .i64 X.n, .int .i64 X.time, .slice qa X.entry.length qc, .int .i64 X.segment, .int .i64 X.at', .int .u8 X.by'] 56)
              have bW2 : Below w2.heap.size w2 _ := hbr.trans (dV.mono hsr)
              clear hcs2 hDc hok hR hRV hq
              generalize stepL (runL (startL ws) (l.take j)).1 X = FA at *
              go_wp2_with fail
              generalize wo.alloc (.cells #[.int .i64 X.kind, .int .i64 X.n, .int .i64 X.time, .slice qa X.entry.length qc, .int .i64 X.segment, .int .i64 X.at', .int .u8 X.by'] 56) = wV at *
              refine hDo.mono ?_
              rintro e w5 ⟨av, rfl, hWn⟩
              obtain ⟨ra, rc, hav⟩ : ∃ ra rc, av = .agg #[.int .i64 FA.2.err, .int .i64 FA.2.shard, .int .i64 FA.2.place, .int .i64 FA.2.size, .slice ra FA.2.root.length rc] := by
                obtain ⟨τ', ⟨rv, e, hrv⟩, -⟩ := hWn
                obtain ⟨ra, rc, e2⟩ := hrv.here.at'.form
                exact ⟨ra, rc, by rw [e, e2]⟩
              obtain ⟨bS, hN5, ys, hrow5, hEnd⟩ := hSt w5 av ra rc hWn hav
              subst hav
              have HEnd : Hid _ := hEnd
              have hrowA := hrow5.alloc (.cells #[.int .i64 FA.2.err, .int .i64 FA.2.shard, .int .i64 FA.2.place, .int .i64 FA.2.size, .slice ra FA.2.root.length rc] 41)
              have hnew := lit_ans w5 FA.2 (.slice ra FA.2.root.length rc) 41
              have hone : ∀ u ∈ ansV FA.2 (.slice ra FA.2.root.length rc), u.oneCell' = true := by intro u hu; simp [ansV] at hu; rcases hu with rfl | rfl | rfl | rfl | rfl <;> rfl
              have hNA : w2.heap.size ≤ (w5.alloc (.cells #[.int .i64 FA.2.err, .int .i64 FA.2.shard, .int .i64 FA.2.place, .int .i64 FA.2.size, .slice ra FA.2.root.length rc] 41)).heap.size := by simp; omega
              clear hDo hSt hWn hrow5 hEnd v0 v1 v2 v3 v4 v5 v6 e0 e1 e2 e3 e4 e5 e6
              go_wp2_with (at_builtin; refine wpList_append_lies _ rfl (.tmp 50) (.tmp 53) 28 rfl w2.heap.size 41 i0 _ 5 56 Tryz.underlying28 hi0 hz0 hz1 hz2 rfl (by decide) _ _ _ rfl hrowA ⟨w5.heap.size, 0, none⟩ 1 1 _ rfl rfl hnew hone (by decide) (by unfold maxLen; omega) (by omega) hNA _ rfl ?_; intro g cap w6 ho6 hg6 ha6 hlt6)
              obtain ⟨hR6, hb6⟩ := HEnd.out _ w6 g cap hg6 ho6 ha6 hlt6
              have HR6 : Hid _ := hR6
              have b6 := bW2.trans hb6
              clear hR6 HEnd hrowA hnew hone ho6 hg6 ha6
              go_roundw
              case rel => exact ⟨j + 1, _, cap, by omega, by go_num, rfl, HR6.out, b6⟩
              case measure => simp [intOf]; omega
            · obtain rfl : j = l.length := by omega
              have hnl : ¬ (l.length : Int) < l.length := by omega
              have hsz : w.heap.size + 1 < w2.heap.size := lt_heap y2
              have HLow : Hid (∀ b, b < w.heap.size → τ b = tNo) := fun b hb => hR.low b (by omega)
              obtain ⟨sv, bv, hbox, ⟨sx, sy, sz, rfl⟩, ⟨bx, bY, bz, rfl⟩, hBk⟩ := hR.back (a := w.heap.size) (b := w.heap.size + 1) (by omega) hsz
              have HBk : Hid _ := hBk (.slice sx sy sz) (.slice bx bY bz) (.int .i64 0) (.int .i64 0)
              obtain ⟨g0, g1, -, -⟩ := box_two hbox
              have x4 := box_kept x2 hbr
              have y4 := box_kept y2 hbr
              obtain ⟨p0, p1, p2, p3⟩ := box_two x4
              obtain ⟨q0, q1, q2, q3⟩ := box_two y4
              have x5 := two_far (two_set x4 (.slice sx sy sz) (.slice bx bY bz)) (show w.heap.size ≠ w.heap.size + 1 by omega) (.int .i64 0) (.int .i64 0)
              have y5 := two_set (two_far y4 (show w.heap.size + 1 ≠ w.heap.size by omega) (.slice sx sy sz) (.slice bx bY bz)) (.int .i64 0) (.int .i64 0)
              obtain ⟨s0, s1, -, -⟩ := box_two x5
              obtain ⟨s2, s3, -, -⟩ := box_two y5
              have b5 := two_below (two_below hbw (Nat.le_refl w.heap.size) (.slice sx sy sz) (.slice bx bY bz)) (Nat.le_succ w.heap.size) (.int .i64 0) (.int .i64 0)
              clear hBk hR hDc x4 y4 x2 y2
              go_wp2_with fail
              exact bodyPost_ret (v := .tuple #[.agg #[.slice sx sy sz, .slice bx bY bz], .slice va l.length vc, faultV (0, 0)]) (by simp [results, Tryz.results6, go_sem, s0, s1, s2, s3]) rfl ⟨_, _, rfl, τ, w2.heap.size, by rw [HL2.out]; exact HBk.out.1, by rw [HL2.out]; exact HBk.out.2, HLow.out, b5⟩
  · have HP2 : Hid (PF = (E1, E2)) := by show _ = _; rw [HPF.out, if_pos hE]
    have HL2 : Hid (PL = (flt0, [])) := by show _ = _; rw [HPL.out, HP2.out, if_pos hE]
    have hE' : (E1 != 0) = true := by simpa using hE
    rw [HP2.out, HL2.out]
    clear HPF HPL HP2 HL2 hW hD hE hw8
    go_enter Tryz.func6, Tryz.ntmps6
    go_wp2_with fail
    generalize (w.alloc (.cells #[.slice none 0 0, .slice none 0 0] 27)).alloc (.cells #[.int .i64 0, .int .i64 0] 31) = w0 at *
    refine hWr.mono ?_
    rintro e w1 ⟨rfl, hb1⟩
    have d2 : Below w1.heap.size w1 (w1.alloc (.cells #[.int .i64 E1, .int .i64 E2] 31)) := (Below.refl _ _).alloc (Nat.le_refl _) _
    have c2 := hb1.trans (d2.mono hb1.size)
    have b2 := b0.trans (c2.mono b0.size)
    have x2 := box_kept x0 c2
    have y2 := box_kept y0 c2
    have hs2 : w.heap.size + 1 < w1.heap.size := lt_heap (box_kept y0 hb1)
    have f2 := box_new w1 #[.int .i64 E1, .int .i64 E2] 31
    obtain ⟨f0, f1, -, -⟩ := box_two f2
    obtain ⟨p0, p1, p2, p3⟩ := box_two x2
    obtain ⟨q0, q1, q2, q3⟩ := box_two y2
    have n1 : w.heap.size ≠ w1.heap.size := by omega
    have n2 : w.heap.size + 1 ≠ w1.heap.size := by omega
    clear hWr x0 y0 hb1 d2 c2
    go_wp2_with fail
    generalize w1.alloc (.cells #[.int .i64 E1, .int .i64 E2] 31) = w2 at *
    generalize w1.heap.size = q at *
    go_region
    all_goals
      go_wp2_with fail
      have b3 := (two_below (two_below b2 (Nat.le_refl w.heap.size) (.slice none 0 0) (.slice none 0 0)) (Nat.le_succ w.heap.size) (.int .i64 E1) (.int .i64 E2)).drew
      have x3 := box_drew (two_far (two_set x2 (.slice none 0 0) (.slice none 0 0)) (show w.heap.size ≠ w.heap.size + 1 by omega) (.int .i64 E1) (.int .i64 E2))
      have y3 := box_drew (two_set (two_far y2 (show w.heap.size + 1 ≠ w.heap.size by omega) (.slice none 0 0) (.slice none 0 0)) (.int .i64 E1) (.int .i64 E2))
      obtain ⟨s0, s1, -, -⟩ := box_two x3
      obtain ⟨s2, s3, -, -⟩ := box_two y3
      exact bodyPost_ret (v := .tuple #[.agg #[.slice none 0 0, .slice none 0 0], .slice none 0 0, faultV (E1, E2)]) (by simp [results, Tryz.results6, go_sem, s0, s1, s2, s3]) rfl ⟨_, _, fun _ => tNo, 0, rfl, fltM_nil _ _ _, anM_nilT _ _ _, fun _ _ => rfl, b3⟩

end Go.Proofs.YtkjlchfmplcobaeGreatDoor

/- The walk of the law FleetTells, over the faces of package fleet, and the reference's Play. -/
namespace Go.Proofs.YtkjlchfmplcobaeGreatDoor
open Go.RowKit

set_option maxRecDepth 100000 in
set_option maxHeartbeats 4000000 in
theorem fleetTells_any (hPl : PlayC) (hWr : FleetWrongC) (ws : List Win) (l : List Dd) (wa da : Option Addr) (wn wc dn dc : Nat) (w : World) (hR : Ready w) (hW : WinsAt w (.slice wa wn wc) ws) (hD : DosAt w (.slice da dn dc) l) (hwn : ws.length = wn) :
    Calls Tryz.prog 3 #[.slice wa wn wc, .slice da dn dc] w fun e w' => e = .returned (.bool true) ∧ Below w.heap.size w w' := by
  have cP := hPl ws l _ _ w hR hW hD
  have cQ := fun w' (h : Below w.heap.size w w') => refPlay_any ws l _ _ w' (hW.below h) (hD.below h)
  have cW := fun w' (h : Below w.heap.size w w') => hWr ws _ w' (hW.below h)
  have cV := fun w' (h : Below w.heap.size w w') => refWins_any ws wa wn wc w' (hW.below h) hwn
  clear hW hD hwn hPl hWr hR
  generalize playF ws l = F at *
  generalize playL ws l = P at *
  generalize wrongWins ws = G at *
  obtain ⟨F1, F2⟩ := F
  obtain ⟨G1, G2⟩ := G
  obtain ⟨P1, A⟩ := P
  dsimp only [faultV] at cP cQ cW cV
  go_enter Tryz.func3, Tryz.ntmps3
  go_wp2_with fail
  refine cP.mono ?_
  rintro e w2 ⟨fv, av, rfl, hFl, hA, b2⟩
  obtain ⟨sa, sc, ka, kc, rfl, -, -⟩ := id hFl
  obtain ⟨aa, ac, rfl⟩ := hA.form
  have d3 : Below w2.heap.size w2 ((w2.alloc (.cells #[.slice sa P1.shards.length sc, .slice ka P1.book.length kc] 27)).alloc (.cells #[.int .i64 F1, .int .i64 F2] 31)) := ((Below.refl _ _).alloc (Nat.le_refl _) _).alloc (by simp) _
  have b3 := b2.trans (d3.mono b2.size)
  have f3 := box_last w2 (.cells #[.slice sa P1.shards.length sc, .slice ka P1.book.length kc] 27) #[.int .i64 F1, .int .i64 F2] 31
  have e3 := box_one w2 #[.slice sa P1.shards.length sc, .slice ka P1.book.length kc] 27 (.cells #[.int .i64 F1, .int .i64 F2] 31)
  have hA3 := hA.below d3
  have hF3 := hFl.below d3
  clear cP hA hFl d3 b2
  go_wp2_with fail
  generalize (w2.alloc (.cells #[.slice sa P1.shards.length sc, .slice ka P1.book.length kc] 27)).alloc (.cells #[.int .i64 F1, .int .i64 F2] 31) = w3 at *
  refine (cQ _ b3).mono ?_
  rintro e w4 ⟨gv, bv, τ, N, rfl, hGM, hBM, -, hb4⟩
  have hG := hGM.flt
  have hB := hBM.anss
  clear hGM hBM
  obtain ⟨sa', sc', ka', kc', rfl, -, -⟩ := id hG
  obtain ⟨ba, bc, rfl⟩ := hB.form
  have d5 : Below w4.heap.size w4 ((w4.alloc (.cells #[.slice sa' P1.shards.length sc', .slice ka' P1.book.length kc'] 27)).alloc (.cells #[.int .i64 F1, .int .i64 F2] 31)) := ((Below.refl _ _).alloc (Nat.le_refl _) _).alloc (by simp) _
  have c5 := hb4.trans (d5.mono hb4.size)
  have b5 := b3.trans (c5.mono b3.size)
  have g5 := box_last w4 (.cells #[.slice sa' P1.shards.length sc', .slice ka' P1.book.length kc'] 27) #[.int .i64 F1, .int .i64 F2] 31
  have h5 := box_one w4 #[.slice sa' P1.shards.length sc', .slice ka' P1.book.length kc'] 27 (.cells #[.int .i64 F1, .int .i64 F2] 31)
  have f5 := box_kept f3 c5
  have e5 := box_kept e3 c5
  have hA5 := hA3.below c5
  have hF5 := hF3.below c5
  have hB5 := hB.below d5
  have hG5 := hG.below d5
  clear cQ hA3 hF3 hB hG hb4 b3 d5 f3 e3 c5
  go_wp2_with fail
  generalize (w4.alloc (.cells #[.slice sa' P1.shards.length sc', .slice ka' P1.book.length kc'] 27)).alloc (.cells #[.int .i64 F1, .int .i64 F2] 31) = w5 at *
  refine (cW _ b5).mono ?_
  rintro e w6 ⟨rfl, hb6⟩
  have b6 := b5.trans (hb6.mono b5.size)
  go_wp2_with fail
  refine (cV _ b6).mono ?_
  rintro e w7 ⟨rfl, hb7⟩
  have c7 := hb6.trans (hb7.mono hb6.size)
  have b7 := b5.trans (c7.mono b5.size)
  obtain ⟨p0, p1, -, -⟩ := box_two (box_kept f5 c7)
  obtain ⟨p2, p3, -, -⟩ := box_two (box_kept e5 c7)
  obtain ⟨p4, p5, -, -⟩ := box_two (box_kept g5 c7)
  obtain ⟨p6, p7, -, -⟩ := box_two (box_kept h5 c7)
  have cS := sameFleet_yes P1 _ _ w7 (hF5.below c7) (hG5.below c7)
  have hA7 := hA5.below c7
  have hB7 := hB5.below c7
  clear cW cV hF5 hG5 hA5 hB5 f5 e5 g5 h5 hb6 hb7 b5 b6
  go_wp2_with fail
  refine cS.mono ?_
  rintro e w8 ⟨rfl, hb8⟩
  have b8 := b7.trans (hb8.mono b7.size)
  have hA8 := hA7.below hb8
  have hB8 := hB7.below hb8
  clear cS hA7 hB7 p0 p1 p2 p3 p4 p5 p6 p7 hb8 c7 b7
  obtain ⟨aa', ac', eA, hA1, hA2, -, hAc⟩ := hA8
  obtain ⟨ba', bc', eB, hB1, hB2, -, hBc⟩ := hB8
  cases eA
  cases eB
  unfold maxLen at hA2
  obtain ⟨k, HK⟩ : ∃ k, Hid (A.length = k) := ⟨_, rfl⟩
  rw [HK.out] at hA1 hAc hB1 hBc
  rw [HK.out]
  go_wp2_with fail
  go_loopw [51] (fun kv wr => ∃ j : Nat, j ≤ k ∧ kv = .int .i64 j ∧ Below w8.heap.size w8 wr) (fun kv _ => k - (intOf kv).toNat)
  case atStart => exact ⟨0, Nat.zero_le _, rfl, Below.refl _ _⟩
  case round =>
    obtain ⟨wo, rfl⟩ : ∃ x, x = wr := ⟨wr, rfl⟩
    obtain ⟨j, hj, rfl, hbr⟩ := hrel
    have hsr := hbr.size
    have hbw := b8.trans (hbr.mono b8.size)
    by_cases hlt : j < k
    · have hlt' : (j : Int) < k := by omega
      obtain ⟨p1, o1, rfl, hp1, hcs1⟩ := hAc.resolve_left (by omega)
      obtain ⟨p2, o2, rfl, hp2, hcs2⟩ := hBc.resolve_left (by omega)
      obtain ⟨d0, d1, d2, d3, qa, qc, d4, hq⟩ := (hcs1 j hlt).below hp1 hbr
      obtain ⟨e0, e1, e2, e3, ta, tc, e4, ht⟩ := (hcs2 j hlt).below hp2 hbr
      clear hcs1 hcs2 hAc hBc
      generalize A.getD j ans0 = X at *
      have hS : ∀ w', (Below wo.heap.size wo w' ∧ ∀ b o, b < wo.heap.size → w'.cell? ⟨b, o, none⟩ = wo.cell? ⟨b, o, none⟩) → _ := fun w' h => sameAns_yes X (.agg #[.int .i64 X.err, .int .i64 X.shard, .int .i64 X.place, .int .i64 X.size, .slice qa X.root.length qc]) (.agg #[.int .i64 X.err, .int .i64 X.shard, .int .i64 X.place, .int .i64 X.size, .slice ta X.root.length tc]) w' ⟨qa, qc, rfl, hq.below h.1⟩ ⟨ta, tc, rfl, ht.below h.1⟩
      have k1 : p1 < wo.heap.size := by omega
      have k2 : p2 < wo.heap.size := by omega
      clear hq ht
      generalize X.root.length = xn at *
      generalize X.err = xe at *
      generalize X.shard = xs at *
      generalize X.place = xp at *
      generalize X.size = xz at *
      go_wp2_with fail
      go_region_held3 (fun w' => Below wo.heap.size wo w' ∧ ∀ b o, b < wo.heap.size → w'.cell? ⟨b, o, none⟩ = wo.cell? ⟨b, o, none⟩) (first | (with_reducible assumption) | (with_reducible exact hK) | (with_reducible exact keptB_drew wo)) (first | (go_at_call 10; refine (hS _ (by assumption)).mono ?_; rintro e w6 ⟨rfl, hb6⟩; have hK := keptB_below (w0 := wo) (by assumption) hb6))
      have c6 := hbr.trans (hK.1.mono hsr)
      clear hK hS d0 d1 d2 d3 d4 e0 e1 e2 e3 e4
      go_wp2_with fail
      go_roundw
      case rel => exact ⟨j + 1, by omega, by go_num, c6⟩
      case measure => simp [intOf]; omega
    · obtain rfl : j = k := by omega
      have hnl : ¬ (j : Int) < j := by omega
      clear hAc hBc
      go_wp2_with fail
      go_ret
      exact ⟨rfl, hbw⟩

end Go.Proofs.YtkjlchfmplcobaeGreatDoor
