/- The walk of do: package fleet as it landed. -/
import Derived.Test.YtkjlchfmplcobafGreatDoorProg
import Derived.Test.YtkjlchfmplcobafGreatDoorFleetGoSubmit
import Derived.Test.YtkjlchfmplcobafGreatDoorFleetGoAsked
import Derived.Test.YtkjlchfmplcobafGreatDoorFleetGoFreeze
import Derived.Test.YtkjlchfmplcobafGreatDoorFleetGoExport
import Derived.Test.YtkjlchfmplcobafGreatDoorRunAE
import Derived.Test.YtkjlchfmplcobafGreatDoorFleetGoSpoil
import Derived.WalkKit
import Derived.WalkSpells
import Derived.WalkLawsBesides
namespace Go.Proofs.YtkjlchfmplcobafGreatDoor
open Go.RowKit

theorem step_submit {f : Flt} {d : Dd} (h : d.kind = 1) : stepL f d = submitL f d := by unfold stepL; rw [if_pos h]
theorem step_ref {f : Flt} {d : Dd} (h : d.kind ≠ 1) (hr : refL f.shards d ≠ 0) : stepL f d = (f, no (refL f.shards d)) := by
  unfold refL at hr
  unfold stepL refL
  rw [if_neg h]
  by_cases h1 : d.kind < 2 ∨ 5 < d.kind
  · rw [if_pos h1, if_pos h1]
  rw [if_neg h1] at hr ⊢
  rw [if_neg h1]
  by_cases h2 : d.n < 0 ∨ (f.shards.length : Int) ≤ d.n
  · rw [if_pos h2, if_pos h2]
  rw [if_neg h2] at hr ⊢
  rw [if_neg h2]
  by_cases h3 : (f.shards.getD d.n.toNat shd0).state ≠ wantL d.kind
  · rw [if_pos h3, if_pos h3]
  rw [if_neg h3] at hr
  exact absurd rfl hr
theorem step_may {f : Flt} {d : Dd} (h : d.kind ≠ 1) (hr : refL f.shards d = 0) : (2 ≤ d.kind ∧ d.kind ≤ 5) ∧ (0 ≤ d.n ∧ d.n < (f.shards.length : Int)) ∧ (f.shards.getD d.n.toNat shd0).state = wantL d.kind ∧ stepL f d = stepAt f d.n.toNat d := by
  unfold refL at hr
  by_cases h1 : d.kind < 2 ∨ 5 < d.kind
  · rw [if_pos h1] at hr; omega
  rw [if_neg h1] at hr
  by_cases h2 : d.n < 0 ∨ (f.shards.length : Int) ≤ d.n
  · rw [if_pos h2] at hr; omega
  rw [if_neg h2] at hr
  by_cases h3 : (f.shards.getD d.n.toNat shd0).state ≠ wantL d.kind
  · rw [if_pos h3] at hr; omega
  refine ⟨by omega, by omega, by simpa using h3, ?_⟩
  unfold stepL
  rw [if_neg h, if_neg h1, if_neg h2, if_neg h3]
theorem stepAt_freeze (f : Flt) (k : Nat) {d : Dd} (h : d.kind = 2) : stepAt f k d = freezeL f k := by unfold stepAt freezeL; rw [if_pos h]
theorem stepAt_export (f : Flt) (k : Nat) {d : Dd} (h : d.kind = 3) (h0 : (wrongL (f.shards.getD k shd0).entries).1 = 0) : stepAt f k d = exportS f k := by
  unfold stepAt exportS
  rw [if_neg (by omega), if_pos h, if_neg (fun g => g h0)]; rfl
theorem stepAt_retire (f : Flt) (k : Nat) {d : Dd} (h : d.kind = 4) : stepAt f k d = retireL f k := by
  unfold stepAt retireL
  rw [if_neg (by omega), if_neg (by omega), if_pos h]; rfl
theorem stepAt_spoil (f : Flt) (k : Nat) {d : Dd} (h : d.kind = 5) : stepAt f k d = spoilL f k d := by
  unfold stepAt spoilL
  rw [if_neg (by omega), if_neg (by omega), if_neg (by omega)]; rfl
/-- What a callee left is handed on. -/
theorem Went.pass {τ τ1 : Nat → Tag} {N gp R : Nat} {w w0 w1 : World} {av : Value} {fa : Flt × Ans} {o : Obj} (h : Went τ1 N gp w0 w1 av fa) (hK : Keep τ τ1 N w w0) (hN : N ≤ w.heap.size) (hR : τ1 R = tNo) (hz : w0.heap[R]? = some o) (hRw : w.heap.size ≤ R) :
    ∃ ra rc, av = .agg #[.int .i64 fa.2.err, .int .i64 fa.2.shard, .int .i64 fa.2.place, .int .i64 fa.2.size, .slice ra fa.2.root.length rc] ∧ w1.heap[R]? = some o ∧ ∀ u0 u1 u2 u3 u4, Went τ N gp w (((((w1.setCell ⟨R, 0, none⟩ u0).setCell ⟨R, 1, none⟩ u1).setCell ⟨R, 2, none⟩ u2).setCell ⟨R, 3, none⟩ u3).setCell ⟨R, 4, none⟩ u4) av fa := by
  obtain ⟨τ', ⟨rv, e, hrv⟩, hF, hk⟩ := h
  obtain ⟨ra, rc, e2⟩ := hrv.here.at'.form
  subst e2
  have hr : τ' R = tNo := (hk.same _ (lt_heap hz)).trans hR
  exact ⟨ra, rc, e, hk.box hR hz, fun u0 u1 u2 u3 u4 => ⟨τ', ⟨_, e, hrv.five hr _ _ _ _ _⟩, hF.five hr _ _ _ _ _, (hK.trans hk).five hN hRw _ _ _ _ _⟩⟩
set_option maxRecDepth 100000 in
set_option maxHeartbeats 2000000 in
theorem do_any (hRoot : RootC) (hEx : ExportOC) (hVer : VerifyC) (ws : List Win) (f : Flt) (d : Dd) (τ : Nat → Tag) (N gp : Nat) (da : Option Addr) (dc : Nat) (w : World) (hF : GoF τ N w gp f) (hN : N ≤ w.heap.size) (hr : Ready w) (hok : FltOk ws f) (h8 : ws.length ≤ 8) (hd : Some' w (.slice da d.entry.length dc) d.entry) (hfit : DdFit d) :
    Calls Tryz.prog 27 #[.pointer (some ⟨gp, 0, none⟩), .agg #[.int .i64 d.kind, .int .i64 d.n, .int .i64 d.time, .slice da d.entry.length dc, .int .i64 d.segment, .int .i64 d.at', .int .u8 d.by']] w fun e w' => ∃ av, e = .returned av ∧ Went τ N gp w w' av (stepL f d) := by
  have b0 : Below w.heap.size w ((w.alloc (.cells #[.int .i64 d.kind, .int .i64 d.n, .int .i64 d.time, .slice da d.entry.length dc, .int .i64 d.segment, .int .i64 d.at', .int .u8 d.by'] 37)).alloc (.cells #[.int .i64 0, .int .i64 0, .int .i64 0, .int .i64 0, .slice none 0 0] 43)) := ((Below.refl _ _).alloc (Nat.le_refl _) _).alloc (by simp) _
  have x0 := box_one w #[.int .i64 d.kind, .int .i64 d.n, .int .i64 d.time, .slice da d.entry.length dc, .int .i64 d.segment, .int .i64 d.at', .int .u8 d.by'] 37 (.cells #[.int .i64 0, .int .i64 0, .int .i64 0, .int .i64 0, .slice none 0 0] 43)
  have z0 := box_last w (.cells #[.int .i64 d.kind, .int .i64 d.n, .int .i64 d.time, .slice da d.entry.length dc, .int .i64 d.segment, .int .i64 d.at', .int .u8 d.by'] 37) #[.int .i64 0, .int .i64 0, .int .i64 0, .int .i64 0, .slice none 0 0] 43
  have U0 := upd_call (τ := τ) b0 tNo
  have hF0 := hF.upd U0 no_row
  have K0 := keep_call (τ := τ) b0 hN tNo
  have hR0 : ext τ w.heap.size tNo (w.heap.size + 1) = tNo := ext_new (by omega)
  obtain ⟨u0, u1, u2, u3, u4, u5, u6⟩ := box_seven x0
  have hN0 : N ≤ _ := Nat.le_trans hN b0.size
  have hr0 := hr.below b0
  have hd0 := hd.below b0
  generalize hT : ext τ w.heap.size tNo = τ1 at *
  have HP : ∀ (w0 : World), Keep τ τ1 N w w0 → ∀ (hz : w0.heap[w.heap.size + 1]? = some (.cells #[.int .i64 0, .int .i64 0, .int .i64 0, .int .i64 0, .slice none 0 0] 43 (0, 0))), Hid (∀ (w1 : World) (av : Value) (fa : Flt × Ans), Went τ1 N gp w0 w1 av fa → ∃ ra rc, av = .agg #[.int .i64 fa.2.err, .int .i64 fa.2.shard, .int .i64 fa.2.place, .int .i64 fa.2.size, .slice ra fa.2.root.length rc] ∧ w1.heap[w.heap.size + 1]? = some (.cells #[.int .i64 0, .int .i64 0, .int .i64 0, .int .i64 0, .slice none 0 0] 43 (0, 0)) ∧ ∀ u0 u1 u2 u3 u4, Went τ N gp w (((((w1.setCell ⟨w.heap.size + 1, 0, none⟩ u0).setCell ⟨w.heap.size + 1, 1, none⟩ u1).setCell ⟨w.heap.size + 1, 2, none⟩ u2).setCell ⟨w.heap.size + 1, 3, none⟩ u3).setCell ⟨w.heap.size + 1, 4, none⟩ u4) av fa) := fun w0 hK hz _ _ _ h => h.pass hK hN hR0 hz (by omega)
  have HNO : ∀ (w1 : World) (x : Ans) (u0 u1 u2 u3 u4 : Value), Hid (Below w.heap.size w w1 → x.root = [] → Went τ N gp w (((((w1.setCell ⟨w.heap.size + 1, 0, none⟩ u0).setCell ⟨w.heap.size + 1, 1, none⟩ u1).setCell ⟨w.heap.size + 1, 2, none⟩ u2).setCell ⟨w.heap.size + 1, 3, none⟩ u3).setCell ⟨w.heap.size + 1, 4, none⟩ u4) (.agg #[.int .i64 x.err, .int .i64 x.shard, .int .i64 x.place, .int .i64 x.size, .slice none 0 0]) (f, x)) := fun w1 x u0 u1 u2 u3 u4 h1 h2 => went_no hF hN h1 (by omega) h2 _ _ _ _ _
  clear hF U0 hr hd
  by_cases h1 : d.kind = 1
  · rw [step_submit h1]
    have hC := submit_any f d τ1 N gp da dc _ hF0 hN0 hd0
    have HPP := HP _ K0 z0
    rw [h1] at u0
    rw [h1] at hC HPP z0 u1 u2 u3 u4 u5 u6 ⊢
    generalize submitL f d = FA at *
    clear hF0 hok hr0 hd0 HP K0 b0 hfit hN0 x0 HNO
    go_enter Tryz.func27, Tryz.ntmps27
    go_wp2_with fail
    generalize (w.alloc (.cells #[.int .i64 1, .int .i64 d.n, .int .i64 d.time, .slice da d.entry.length dc, .int .i64 d.segment, .int .i64 d.at', .int .u8 d.by'] 37)).alloc (.cells #[.int .i64 0, .int .i64 0, .int .i64 0, .int .i64 0, .slice none 0 0] 43) = w0 at *
    refine hC.mono ?_
    rintro e w1 ⟨av, rfl, hW⟩
    obtain ⟨ra, rc, rfl, z1, HW⟩ := HPP.out _ _ _ hW
    have HW2 : Hid _ := HW
    obtain ⟨t0, t1, t2, t3, t4⟩ := box_five z1
    obtain ⟨r0, r1, r2, r3, r4⟩ := five_free z1
    obtain ⟨s0, s1, s2, s3, s4⟩ := box_five (five_set z1 (.int .i64 FA.2.err) (.int .i64 FA.2.shard) (.int .i64 FA.2.place) (.int .i64 FA.2.size) (.slice ra FA.2.root.length rc))
    clear HW HPP hW hC z0 u0 u1 u2 u3 u4 u5 u6
    go_wp2_with fail
    exact bodyPost_ret (v := .agg #[.int .i64 FA.2.err, .int .i64 FA.2.shard, .int .i64 FA.2.place, .int .i64 FA.2.size, .slice ra FA.2.root.length rc]) (by simp [results, Tryz.results27, go_sem, s0, s1, s2, s3, s4]) rfl ⟨_, rfl, HW2.out _ _ _ _ _⟩
  · have h1' : (d.kind == 1) = false := by simpa using h1
    obtain ⟨sa, sc, ba, bc, V, hB, hS⟩ := hF0.open
    have hRf := refusal_any f.shards d (.slice da d.entry.length dc) (.slice ba f.book.length bc) sa f.shards.length sc gp _ hS.shards rfl hB.box hfit.2
    by_cases hre : refL f.shards d = 0
    · obtain ⟨hkind, hnn, hst, hSt⟩ := step_may h1 hre
      obtain ⟨k, hn0⟩ : ∃ k : Nat, d.n = k := ⟨d.n.toNat, by omega⟩
      have hkl : k < f.shards.length := by omega
      have hkw : k < ws.length := by rw [← hok.len]; exact hkl
      rw [hn0, Int.toNat_natCast] at hst hSt
      have hwr : wrongL (f.shards.getD k shd0).entries = (0, 0) := wrong_zero (hok.each k hkw).few (short_mem (hok.each k hkw).short)
      have hbl : f.book.length ≤ 1000 := by have := book_few hok; omega
      rw [hre] at hRf
      rw [hSt]
      rw [hn0] at u1 x0 z0 hRf b0 hF0 K0 hr0 hd0 hN0
      rw [hn0]
      clear hre hSt hnn h1
      have h4 : d.kind = 2 ∨ d.kind = 3 ∨ d.kind = 4 ∨ d.kind = 5 := by omega
      rcases h4 with h4 | h4 | h4 | h4
      · have hkk : d.kind = 2 := by omega
        rw [hkk] at hst
        have hC := fun w1 (hb : Below _ _ w1) => freeze_any hRoot f k τ1 N gp w1 (hF0.upd (upd_same hb) no_row) (Nat.le_trans hN0 hb.size) (hr0.below hb) hkl hwr hbl
        rw [stepAt_freeze f k hkk]
        have HPP := fun w1 (hb : Below _ _ w1) => HP w1 (K0.call hN hb) (box_kept z0 hb)
        rw [hkk] at u0 x0 z0 hC HPP hRf b0
        rw [hkk]
        generalize freezeL f k = FA at *
        clear hF0 hok hr0 hd0 HP K0 hfit hN0 HNO hB hS hst hkind
        go_enter Tryz.func27, Tryz.ntmps27
        go_wp2_with fail
        generalize (w.alloc (.cells #[.int .i64 2, .int .i64 (k : Int), .int .i64 d.time, .slice da d.entry.length dc, .int .i64 d.segment, .int .i64 d.at', .int .u8 d.by'] 37)).alloc (.cells #[.int .i64 0, .int .i64 0, .int .i64 0, .int .i64 0, .slice none 0 0] 43) = w0 at *
        refine hRf.mono ?_
        rintro e w1 ⟨rfl, hb1⟩
        replace hC := hC w1 hb1
        replace HPP := HPP w1 hb1
        obtain ⟨v0, v1, v2, v3, v4, v5, v6⟩ := box_seven (box_kept x0 hb1)
        clear hRf u0 u1 u2 u3 u4 u5 u6 x0 z0
        go_wp2_with fail
        refine hC.mono ?_
        rintro e w2 ⟨av, rfl, hW⟩
        obtain ⟨ra, rc, rfl, z1, HW⟩ := HPP.out _ _ _ hW
        have HW2 : Hid _ := HW
        obtain ⟨t0, t1, t2, t3, t4⟩ := box_five z1
        obtain ⟨r0, r1, r2, r3, r4⟩ := five_free z1
        obtain ⟨s0, s1, s2, s3, s4⟩ := box_five (five_set z1 (.int .i64 FA.2.err) (.int .i64 FA.2.shard) (.int .i64 FA.2.place) (.int .i64 FA.2.size) (.slice ra FA.2.root.length rc))
        clear HW HPP hW hC v0 v1 v2 v3 v4 v5 v6
        go_wp2_with fail
        exact bodyPost_ret (v := .agg #[.int .i64 FA.2.err, .int .i64 FA.2.shard, .int .i64 FA.2.place, .int .i64 FA.2.size, .slice ra FA.2.root.length rc]) (by simp [results, Tryz.results27, go_sem, s0, s1, s2, s3, s4]) rfl ⟨_, rfl, HW2.out _ _ _ _ _⟩
      · have hkk : d.kind = 3 := by omega
        rw [hkk] at hst
        have hC := fun w1 (hb : Below _ _ w1) => export_any hEx f k τ1 N gp w1 (hF0.upd (upd_same hb) no_row) (Nat.le_trans hN0 hb.size) (hr0.below hb) hkl (by rw [hwr])
        rw [stepAt_export f k hkk (by rw [hwr])]
        have HPP := fun w1 (hb : Below _ _ w1) => HP w1 (K0.call hN hb) (box_kept z0 hb)
        rw [hkk] at u0 x0 z0 hC HPP hRf b0
        rw [hkk]
        generalize exportS f k = FA at *
        clear hF0 hok hr0 hd0 HP K0 hfit hN0 HNO hB hS hst hkind
        go_enter Tryz.func27, Tryz.ntmps27
        go_wp2_with fail
        generalize (w.alloc (.cells #[.int .i64 3, .int .i64 (k : Int), .int .i64 d.time, .slice da d.entry.length dc, .int .i64 d.segment, .int .i64 d.at', .int .u8 d.by'] 37)).alloc (.cells #[.int .i64 0, .int .i64 0, .int .i64 0, .int .i64 0, .slice none 0 0] 43) = w0 at *
        refine hRf.mono ?_
        rintro e w1 ⟨rfl, hb1⟩
        replace hC := hC w1 hb1
        replace HPP := HPP w1 hb1
        obtain ⟨v0, v1, v2, v3, v4, v5, v6⟩ := box_seven (box_kept x0 hb1)
        clear hRf u0 u1 u2 u3 u4 u5 u6 x0 z0
        go_wp2_with fail
        refine hC.mono ?_
        rintro e w2 ⟨av, rfl, hW⟩
        obtain ⟨ra, rc, rfl, z1, HW⟩ := HPP.out _ _ _ hW
        have HW2 : Hid _ := HW
        obtain ⟨t0, t1, t2, t3, t4⟩ := box_five z1
        obtain ⟨r0, r1, r2, r3, r4⟩ := five_free z1
        obtain ⟨s0, s1, s2, s3, s4⟩ := box_five (five_set z1 (.int .i64 FA.2.err) (.int .i64 FA.2.shard) (.int .i64 FA.2.place) (.int .i64 FA.2.size) (.slice ra FA.2.root.length rc))
        clear HW HPP hW hC v0 v1 v2 v3 v4 v5 v6
        go_wp2_with fail
        exact bodyPost_ret (v := .agg #[.int .i64 FA.2.err, .int .i64 FA.2.shard, .int .i64 FA.2.place, .int .i64 FA.2.size, .slice ra FA.2.root.length rc]) (by simp [results, Tryz.results27, go_sem, s0, s1, s2, s3, s4]) rfl ⟨_, rfl, HW2.out _ _ _ _ _⟩
      · have hkk : d.kind = 4 := by omega
        rw [hkk] at hst
        have hrl : (f.shards.getD k shd0).man.root.length ≤ 1000000 := by
          rw [((hok.each k hkw).head3 (by rw [hst]; rfl)).2, mth_length]; omega
        have hC := fun w1 (hb : Below _ _ w1) => retire_any hVer f k τ1 N gp w1 (hF0.upd (upd_same hb) no_row) (Nat.le_trans hN0 hb.size) (hr0.below hb) hkl hrl
        rw [stepAt_retire f k hkk]
        have HPP := fun w1 (hb : Below _ _ w1) => HP w1 (K0.call hN hb) (box_kept z0 hb)
        rw [hkk] at u0 x0 z0 hC HPP hRf b0
        rw [hkk]
        generalize retireL f k = FA at *
        clear hF0 hok hr0 hd0 HP K0 hfit hN0 HNO hB hS hst hkind
        go_enter Tryz.func27, Tryz.ntmps27
        go_wp2_with fail
        generalize (w.alloc (.cells #[.int .i64 4, .int .i64 (k : Int), .int .i64 d.time, .slice da d.entry.length dc, .int .i64 d.segment, .int .i64 d.at', .int .u8 d.by'] 37)).alloc (.cells #[.int .i64 0, .int .i64 0, .int .i64 0, .int .i64 0, .slice none 0 0] 43) = w0 at *
        refine hRf.mono ?_
        rintro e w1 ⟨rfl, hb1⟩
        replace hC := hC w1 hb1
        replace HPP := HPP w1 hb1
        obtain ⟨v0, v1, v2, v3, v4, v5, v6⟩ := box_seven (box_kept x0 hb1)
        clear hRf u0 u1 u2 u3 u4 u5 u6 x0 z0
        go_wp2_with fail
        refine hC.mono ?_
        rintro e w2 ⟨av, rfl, hW⟩
        obtain ⟨ra, rc, rfl, z1, HW⟩ := HPP.out _ _ _ hW
        have HW2 : Hid _ := HW
        obtain ⟨t0, t1, t2, t3, t4⟩ := box_five z1
        obtain ⟨r0, r1, r2, r3, r4⟩ := five_free z1
        obtain ⟨s0, s1, s2, s3, s4⟩ := box_five (five_set z1 (.int .i64 FA.2.err) (.int .i64 FA.2.shard) (.int .i64 FA.2.place) (.int .i64 FA.2.size) (.slice ra FA.2.root.length rc))
        clear HW HPP hW hC v0 v1 v2 v3 v4 v5 v6
        go_wp2_with fail
        exact bodyPost_ret (v := .agg #[.int .i64 FA.2.err, .int .i64 FA.2.shard, .int .i64 FA.2.place, .int .i64 FA.2.size, .slice ra FA.2.root.length rc]) (by simp [results, Tryz.results27, go_sem, s0, s1, s2, s3, s4]) rfl ⟨_, rfl, HW2.out _ _ _ _ _⟩
      · have hkk : d.kind = 5 := by omega
        rw [hkk] at hst
        have hC := fun w1 (hb : Below _ _ w1) => spoil_any f d k τ1 N gp (.slice da d.entry.length dc) w1 (hF0.upd (upd_same hb) no_row) (Nat.le_trans hN0 hb.size) hkl hn0 hfit.1
        rw [stepAt_spoil f k hkk]
        have HPP := fun w1 (hb : Below _ _ w1) => HP w1 (K0.call hN hb) (box_kept z0 hb)
        rw [hn0] at hC
        rw [hkk] at u0 x0 z0 hC HPP hRf b0
        rw [hkk]
        generalize spoilL f k d = FA at *
        clear hF0 hok hr0 hd0 HP K0 hfit hN0 HNO hB hS hst hkind
        go_enter Tryz.func27, Tryz.ntmps27
        go_wp2_with fail
        generalize (w.alloc (.cells #[.int .i64 5, .int .i64 (k : Int), .int .i64 d.time, .slice da d.entry.length dc, .int .i64 d.segment, .int .i64 d.at', .int .u8 d.by'] 37)).alloc (.cells #[.int .i64 0, .int .i64 0, .int .i64 0, .int .i64 0, .slice none 0 0] 43) = w0 at *
        refine hRf.mono ?_
        rintro e w1 ⟨rfl, hb1⟩
        replace hC := hC w1 hb1
        replace HPP := HPP w1 hb1
        obtain ⟨v0, v1, v2, v3, v4, v5, v6⟩ := box_seven (box_kept x0 hb1)
        clear hRf u0 u1 u2 u3 u4 u5 u6 x0 z0
        go_wp2_with fail
        refine hC.mono ?_
        rintro e w2 ⟨av, rfl, hW⟩
        obtain ⟨ra, rc, rfl, z1, HW⟩ := HPP.out _ _ _ hW
        have HW2 : Hid _ := HW
        obtain ⟨t0, t1, t2, t3, t4⟩ := box_five z1
        obtain ⟨r0, r1, r2, r3, r4⟩ := five_free z1
        obtain ⟨s0, s1, s2, s3, s4⟩ := box_five (five_set z1 (.int .i64 FA.2.err) (.int .i64 FA.2.shard) (.int .i64 FA.2.place) (.int .i64 FA.2.size) (.slice ra FA.2.root.length rc))
        clear HW HPP hW hC v0 v1 v2 v3 v4 v5 v6
        go_wp2_with fail
        exact bodyPost_ret (v := .agg #[.int .i64 FA.2.err, .int .i64 FA.2.shard, .int .i64 FA.2.place, .int .i64 FA.2.size, .slice ra FA.2.root.length rc]) (by simp [results, Tryz.results27, go_sem, s0, s1, s2, s3, s4]) rfl ⟨_, rfl, HW2.out _ _ _ _ _⟩
    · rw [step_ref h1 hre]
      have hre' : (refL f.shards d != 0) = true := by simpa using hre
      generalize refL f.shards d = RF at *
      clear hF0 hok hr0 hd0 HP K0 hfit hN0 hB hS hre h1
      generalize d.kind = KD at *
      go_enter Tryz.func27, Tryz.ntmps27
      go_wp2_with fail
      generalize (w.alloc (.cells #[.int .i64 KD, .int .i64 d.n, .int .i64 d.time, .slice da d.entry.length dc, .int .i64 d.segment, .int .i64 d.at', .int .u8 d.by'] 37)).alloc (.cells #[.int .i64 0, .int .i64 0, .int .i64 0, .int .i64 0, .slice none 0 0] 43) = w0 at *
      refine hRf.mono ?_
      rintro e w1 ⟨rfl, hb1⟩
      clear hRf
      go_wp2_with fail
      refine (refused_any RF w1).mono ?_
      rintro e w2 ⟨rfl, hb2⟩
      have c2 := hb1.trans (hb2.mono hb1.size)
      have b2 := b0.trans (c2.mono b0.size)
      have z1 := box_kept z0 c2
      obtain ⟨t0, t1, t2, t3, t4⟩ := box_five z1
      obtain ⟨r0, r1, r2, r3, r4⟩ := five_free z1
      obtain ⟨s0, s1, s2, s3, s4⟩ := box_five (five_set z1 (.int .i64 RF) (.int .i64 0) (.int .i64 0) (.int .i64 0) (.slice none 0 0))
      have HG := HNO w2 (no RF) (.int .i64 RF) (.int .i64 0) (.int .i64 0) (.int .i64 0) (.slice none 0 0)
      clear HNO z0 x0 u0 u1 u2 u3 u4 u5 u6
      go_wp2_with fail
      exact bodyPost_ret (v := .agg #[.int .i64 RF, .int .i64 0, .int .i64 0, .int .i64 0, .slice none 0 0]) (by simp [results, Tryz.results27, go_sem, s0, s1, s2, s3, s4]) rfl ⟨_, rfl, HG.out b2 rfl⟩

end Go.Proofs.YtkjlchfmplcobafGreatDoor
