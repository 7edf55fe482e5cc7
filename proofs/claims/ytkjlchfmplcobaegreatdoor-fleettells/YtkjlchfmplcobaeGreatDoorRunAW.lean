/- FleetGoDo, FleetGoPlay, as one text. -/
import Derived.Test.YtkjlchfmplcobaeGreatDoorProg
import Derived.Test.YtkjlchfmplcobaeGreatDoorFleetGoSubmit
import Derived.Test.YtkjlchfmplcobaeGreatDoorRunAE
import Derived.Test.YtkjlchfmplcobaeGreatDoorFleetGoFreeze
import Derived.Test.YtkjlchfmplcobaeGreatDoorFleetGoExport
import Derived.Test.YtkjlchfmplcobaeGreatDoorRunAF
import Derived.WalkKit
import Derived.WalkSpells
import Derived.WalkLawsBesides
import Derived.Test.YtkjlchfmplcobaeGreatDoorRunAH
import Derived.Test.YtkjlchfmplcobaeGreatDoorRunAV
import Derived.BigRegion
/- The walk of do: package fleet as it landed. -/
namespace Go.Proofs.YtkjlchfmplcobaeGreatDoor
open Go.RowKit

theorem step_submit {f : Flt} {d : Dd} (h : d.kind = 1) : stepL f d = submitL f d := by unfold stepL; rw [if_pos h]
theorem step_ref {f : Flt} {d : Dd} (h : d.kind ≠ 1) (hr : refL f.shards d ≠ 0) : stepL f d = (f, no (refL f.shards d)) := by
  unfold refL at hr
  unfold stepL refL
  rw [if_neg h]
  by_cases h1 : d.kind < 2 ∨ 5 < d.kind
  · rw [if_pos h1, if_pos h1]
  rw [if_neg h1] at hr ⊢
  rw [if_neg h1]
  by_cases h2 : d.n < 0 ∨ (f.shards.length : Int) ≤ d.n
  · rw [if_pos h2, if_pos h2]
  rw [if_neg h2] at hr ⊢
  rw [if_neg h2]
  by_cases h3 : (f.shards.getD d.n.toNat shd0).state ≠ wantL d.kind
  · rw [if_pos h3, if_pos h3]
  rw [if_neg h3] at hr
  exact absurd rfl hr
theorem step_may {f : Flt} {d : Dd} (h : d.kind ≠ 1) (hr : refL f.shards d = 0) : (2 ≤ d.kind ∧ d.kind ≤ 5) ∧ (0 ≤ d.n ∧ d.n < (f.shards.length : Int)) ∧ (f.shards.getD d.n.toNat shd0).state = wantL d.kind ∧ stepL f d = stepAt f d.n.toNat d := by
  unfold refL at hr
  by_cases h1 : d.kind < 2 ∨ 5 < d.kind
  · rw [if_pos h1] at hr; omega
  rw [if_neg h1] at hr
  by_cases h2 : d.n < 0 ∨ (f.shards.length : Int) ≤ d.n
  · rw [if_pos h2] at hr; omega
  rw [if_neg h2] at hr
  by_cases h3 : (f.shards.getD d.n.toNat shd0).state ≠ wantL d.kind
  · rw [if_pos h3] at hr; omega
  refine ⟨by omega, by omega, by simpa using h3, ?_⟩
  unfold stepL
  rw [if_neg h, if_neg h1, if_neg h2, if_neg h3]
theorem stepAt_freeze (f : Flt) (k : Nat) {d : Dd} (h : d.kind = 2) : stepAt f k d = freezeL f k := by unfold stepAt freezeL; rw [if_pos h]
theorem stepAt_export (f : Flt) (k : Nat) {d : Dd} (h : d.kind = 3) (h0 : (wrongL (f.shards.getD k shd0).entries).1 = 0) : stepAt f k d = exportS f k := by
  unfold stepAt exportS
  rw [if_neg (by omega), if_pos h, if_neg (fun g => g h0)]; rfl
theorem stepAt_retire (f : Flt) (k : Nat) {d : Dd} (h : d.kind = 4) : stepAt f k d = retireL f k := by
  unfold stepAt retireL
  rw [if_neg (by omega), if_neg (by omega), if_pos h]; rfl
theorem stepAt_spoil (f : Flt) (k : Nat) {d : Dd} (h : d.kind = 5) : stepAt f k d = spoilL f k d := by
  unfold stepAt spoilL
  rw [if_neg (by omega), if_neg (by omega), if_neg (by omega)]; rfl
/-- What a callee left is handed on. -/
theorem Went.pass {τ τ1 : Nat → Tag} {N gp R : Nat} {w w0 w1 : World} {av : Value} {fa : Flt × Ans} {o : Obj} (h : Went τ1 N gp w0 w1 av fa) (hK : Keep τ τ1 N w w0) (hN : N ≤ w.heap.size) (hR : τ1 R = tNo) (hz : w0.heap[R]? = some o) (hRw : w.heap.size ≤ R) :
    ∃ ra rc, av = .agg #[.int .i64 fa.2.err, .int .i64 fa.2.shard, .int .i64 fa.2.place, .int .i64 fa.2.size, .slice ra fa.2.root.length rc] ∧ w1.heap[R]? = some o ∧ ∀ u0 u1 u2 u3 u4, Went τ N gp w (((((w1.setCell ⟨R, 0, none⟩ u0).setCell ⟨R, 1, none⟩ u1).setCell ⟨R, 2, none⟩ u2).setCell ⟨R, 3, none⟩ u3).setCell ⟨R, 4, none⟩ u4) av fa := by
  obtain ⟨τ', ⟨rv, e, hrv⟩, hF, hk⟩ := h
  obtain ⟨ra, rc, e2⟩ := hrv.here.at'.form
  subst e2
  have hr : τ' R = tNo := (hk.same _ (lt_heap hz)).trans hR
  exact ⟨ra, rc, e, hk.box hR hz, fun u0 u1 u2 u3 u4 => ⟨τ', ⟨_, e, hrv.five hr _ _ _ _ _⟩, hF.five hr _ _ _ _ _, (hK.trans hk).five hN hRw _ _ _ _ _⟩⟩
set_option maxRecDepth 100000 in
set_option maxHeartbeats 2000000 in
theorem do_any (hRoot : RootC) (hEx : ExportOC) (hVer : VerifyC) (ws : List Win) (f : Flt) (d : Dd) (τ : Nat → Tag) (N gp : Nat) (da : Option Addr) (dc : Nat) (w : World) (hF : GoF τ N w gp f) (hN : N ≤ w.heap.size) (hr : Ready w) (hok : FltOk ws f) (h8 : ws.length ≤ 8) (hd : Some' w (.slice da d.entry.length dc) d.entry) (hfit : DdFit d) :
    Calls Tryz.prog 17 #[.pointer (some ⟨gp, 0, none⟩), .agg #[.int .i64 d.kind, .int .i64 d.n, .int .i64 d.time, .slice da d.entry.length dc, .int .i64 d.segment, .int .i64 d.at', .int .u8 d.by']] w fun e w' => ∃ av, e = .returned av ∧ Went τ N gp w w' av (stepL f d) := by
  have b0 : Below w.heap.size w ((w.alloc (.cells #[.int .i64 d.kind, .int .i64 d.n, .int .i64 d.time, .slice da d.entry.length dc, .int .i64 d.segment, .int .i64 d.at', .int .u8 d.by'] 56)).alloc (.cells #[.int .i64 0, .int .i64 0, .int .i64 0, .int .i64 0, .slice none 0 0] 41)) := ((Below.refl _ _).alloc (Nat.le_refl _) _).alloc (by simp) _
  have x0 := box_one w #[.int .i64 d.kind, .int .i64 d.n, .int .i64 d.time, .slice da d.entry.length dc, .int .i64 d.segment, .int .i64 d.at', .int .u8 d.by'] 56 (.cells #[.int .i64 0, .int .i64 0, .int .i64 0, .int .i64 0, .slice none 0 0] 41)
  have z0 := box_last w (.cells #[.int .i64 d.kind, .int .i64 d.n, .int .i64 d.time, .slice da d.entry.length dc, .int .i64 d.segment, .int .i64 d.at', .int .u8 d.by'] 56) #[.int .i64 0, .int .i64 0, .int .i64 0, .int .i64 0, .slice none 0 0] 41
  have U0 := upd_call (τ := τ) b0 tNo
  have hF0 := hF.upd U0 no_row
  have K0 := keep_call (τ := τ) b0 hN tNo
  have hR0 : ext τ w.heap.size tNo (w.heap.size + 1) = tNo := ext_new (by omega)
  obtain ⟨u0, u1, u2, u3, u4, u5, u6⟩ := box_seven x0
  have hN0 : N ≤ _ := Nat.le_trans hN b0.size
  have hr0 := hr.below b0
  have hd0 := hd.below b0
  generalize hT : ext τ w.heap.size tNo = τ1 at *
  have HP : ∀ (w0 : World), Keep τ τ1 N w w0 → ∀ (hz : w0.heap[w.heap.size + 1]? = some (.cells #[.int .i64 0, .int .i64 0, .int .i64 0, .int .i64 0, .slice none 0 0] 41 (0, 0))), Hid (∀ (w1 : World) (av : Value) (fa : Flt × Ans), Went τ1 N gp w0 w1 av fa → ∃ ra rc, av = .agg #[.int .i64 fa.2.err, .int .i64 fa.2.shard, .int .i64 fa.2.place, .int .i64 fa.2.size, .slice ra fa.2.root.length rc] ∧ w1.heap[w.heap.size + 1]? = some (.cells #[.int .i64 0, .int .i64 0, .int .i64 0, .int .i64 0, .slice none 0 0] 41 (0, 0)) ∧ ∀ u0 u1 u2 u3 u4, Went τ N gp w (((((w1.setCell ⟨w.heap.size + 1, 0, none⟩ u0).setCell ⟨w.heap.size + 1, 1, none⟩ u1).setCell ⟨w.heap.size + 1, 2, none⟩ u2).setCell ⟨w.heap.size + 1, 3, none⟩ u3).setCell ⟨w.heap.size + 1, 4, none⟩ u4) av fa) := fun w0 hK hz _ _ _ h => h.pass hK hN hR0 hz (by omega)
  have HNO : ∀ (w1 : World) (x : Ans) (u0 u1 u2 u3 u4 : Value), Hid (Below w.heap.size w w1 → x.root = [] → Went τ N gp w (((((w1.setCell ⟨w.heap.size + 1, 0, none⟩ u0).setCell ⟨w.heap.size + 1, 1, none⟩ u1).setCell ⟨w.heap.size + 1, 2, none⟩ u2).setCell ⟨w.heap.size + 1, 3, none⟩ u3).setCell ⟨w.heap.size + 1, 4, none⟩ u4) (.agg #[.int .i64 x.err, .int .i64 x.shard, .int .i64 x.place, .int .i64 x.size, .slice none 0 0]) (f, x)) := fun w1 x u0 u1 u2 u3 u4 h1 h2 => went_no hF hN h1 (by omega) h2 _ _ _ _ _
  clear hF U0 hr hd
  by_cases h1 : d.kind = 1
  · rw [step_submit h1]
    have hC := submit_any f d τ1 N gp da dc _ hF0 hN0 hd0
    have HPP := HP _ K0 z0
    rw [h1] at u0
    rw [h1] at hC HPP z0 u1 u2 u3 u4 u5 u6 ⊢
    generalize submitL f d = FA at *
    clear hF0 hok hr0 hd0 HP K0 b0 hfit hN0 x0 HNO
    go_enter Tryz.func17, Tryz.ntmps17
    go_wp2_with fail
    generalize (w.alloc (.cells #[.int .i64 1, .int .i64 d.n, .int .i64 d.time, .slice da d.entry.length dc, .int .i64 d.segment, .int .i64 d.at', .int .u8 d.by'] 56)).alloc (.cells #[.int .i64 0, .int .i64 0, .int .i64 0, .int .i64 0, .slice none 0 0] 41) = w0 at *
    refine hC.mono ?_
    rintro e w1 ⟨av, rfl, hW⟩
    obtain ⟨ra, rc, rfl, z1, HW⟩ := HPP.out _ _ _ hW
    have HW2 : Hid _ := HW
    obtain ⟨t0, t1, t2, t3, t4⟩ := box_five z1
    obtain ⟨r0, r1, r2, r3, r4⟩ := five_free z1
    obtain ⟨s0, s1, s2, s3, s4⟩ := box_five (five_set z1 (.int .i64 FA.2.err) (.int .i64 FA.2.shard) (.int .i64 FA.2.place) (.int .i64 FA.2.size) (.slice ra FA.2.root.length rc))
    clear HW HPP hW hC z0 u0 u1 u2 u3 u4 u5 u6
    go_wp2_with fail
    exact bodyPost_ret (v := .agg #[.int .i64 FA.2.err, .int .i64 FA.2.shard, .int .i64 FA.2.place, .int .i64 FA.2.size, .slice ra FA.2.root.length rc]) (by simp [results, Tryz.results17, go_sem, s0, s1, s2, s3, s4]) rfl ⟨_, rfl, HW2.out _ _ _ _ _⟩
  · have h1' : (d.kind == 1) = false := by simpa using h1
    obtain ⟨sa, sc, ba, bc, V, hB, hS⟩ := hF0.open
    have hRf := refusal_any f.shards d (.slice da d.entry.length dc) (.slice ba f.book.length bc) sa f.shards.length sc gp _ hS.shards rfl hB.box hfit.2
    by_cases hre : refL f.shards d = 0
    · obtain ⟨hkind, hnn, hst, hSt⟩ := step_may h1 hre
      obtain ⟨k, hn0⟩ : ∃ k : Nat, d.n = k := ⟨d.n.toNat, by omega⟩
      have hkl : k < f.shards.length := by omega
      have hkw : k < ws.length := by rw [← hok.len]; exact hkl
      rw [hn0, Int.toNat_natCast] at hst hSt
      have hwr : wrongL (f.shards.getD k shd0).entries = (0, 0) := wrong_zero (hok.each k hkw).few (short_mem (hok.each k hkw).short)
      have hbl : f.book.length ≤ 1000 := by have := book_few hok; omega
      rw [hre] at hRf
      rw [hSt]
      rw [hn0] at u1 x0 z0 hRf b0 hF0 K0 hr0 hd0 hN0
      rw [hn0]
      clear hre hSt hnn h1
      have h4 : d.kind = 2 ∨ d.kind = 3 ∨ d.kind = 4 ∨ d.kind = 5 := by omega
      rcases h4 with h4 | h4 | h4 | h4
      · have hkk : d.kind = 2 := by omega
        rw [hkk] at hst
        have hC := fun w1 (hb : Below _ _ w1) => freeze_any hRoot f k τ1 N gp w1 (hF0.upd (upd_same hb) no_row) (Nat.le_trans hN0 hb.size) (hr0.below hb) hkl hwr hbl
        rw [stepAt_freeze f k hkk]
        have HPP := fun w1 (hb : Below _ _ w1) => HP w1 (K0.call hN hb) (box_kept z0 hb)
        rw [hkk] at u0 x0 z0 hC HPP hRf b0
        rw [hkk]
        generalize freezeL f k = FA at *
        clear hF0 hok hr0 hd0 HP K0 hfit hN0 HNO hB hS hst hkind
        go_enter Tryz.func17, Tryz.ntmps17
        go_wp2_with fail
        generalize (w.alloc (.cells #[.int .i64 2, .int .i64 (k : Int), .int .i64 d.time, .slice da d.entry.length dc, .int .i64 d.segment, .int .i64 d.at', .int .u8 d.by'] 56)).alloc (.cells #[.int .i64 0, .int .i64 0, .int .i64 0, .int .i64 0, .slice none 0 0] 41) = w0 at *
        refine hRf.mono ?_
        rintro e w1 ⟨rfl, hb1⟩
        replace hC := hC w1 hb1
        replace HPP := HPP w1 hb1
        obtain ⟨v0, v1, v2, v3, v4, v5, v6⟩ := box_seven (box_kept x0 hb1)
        clear hRf u0 u1 u2 u3 u4 u5 u6 x0 z0
        go_wp2_with fail
        refine hC.mono ?_
        rintro e w2 ⟨av, rfl, hW⟩
        obtain ⟨ra, rc, rfl, z1, HW⟩ := HPP.out _ _ _ hW
        have HW2 : Hid _ := HW
        obtain ⟨t0, t1, t2, t3, t4⟩ := box_five z1
        obtain ⟨r0, r1, r2, r3, r4⟩ := five_free z1
        obtain ⟨s0, s1, s2, s3, s4⟩ := box_five (five_set z1 (.int .i64 FA.2.err) (.int .i64 FA.2.shard) (.int .i64 FA.2.place) (.int .i64 FA.2.size) (.slice ra FA.2.root.length rc))
        clear HW HPP hW hC v0 v1 v2 v3 v4 v5 v6
        go_wp2_with fail
        exact bodyPost_ret (v := .agg #[.int .i64 FA.2.err, .int .i64 FA.2.shard, .int .i64 FA.2.place, .int .i64 FA.2.size, .slice ra FA.2.root.length rc]) (by simp [results, Tryz.results17, go_sem, s0, s1, s2, s3, s4]) rfl ⟨_, rfl, HW2.out _ _ _ _ _⟩
      · have hkk : d.kind = 3 := by omega
        rw [hkk] at hst
        have hC := fun w1 (hb : Below _ _ w1) => export_any hEx f k τ1 N gp w1 (hF0.upd (upd_same hb) no_row) (Nat.le_trans hN0 hb.size) (hr0.below hb) hkl (by rw [hwr])
        rw [stepAt_export f k hkk (by rw [hwr])]
        have HPP := fun w1 (hb : Below _ _ w1) => HP w1 (K0.call hN hb) (box_kept z0 hb)
        rw [hkk] at u0 x0 z0 hC HPP hRf b0
        rw [hkk]
        generalize exportS f k = FA at *
        clear hF0 hok hr0 hd0 HP K0 hfit hN0 HNO hB hS hst hkind
        go_enter Tryz.func17, Tryz.ntmps17
        go_wp2_with fail
        generalize (w.alloc (.cells #[.int .i64 3, .int .i64 (k : Int), .int .i64 d.time, .slice da d.entry.length dc, .int .i64 d.segment, .int .i64 d.at', .int .u8 d.by'] 56)).alloc (.cells #[.int .i64 0, .int .i64 0, .int .i64 0, .int .i64 0, .slice none 0 0] 41) = w0 at *
        refine hRf.mono ?_
        rintro e w1 ⟨rfl, hb1⟩
        replace hC := hC w1 hb1
        replace HPP := HPP w1 hb1
        obtain ⟨v0, v1, v2, v3, v4, v5, v6⟩ := box_seven (box_kept x0 hb1)
        clear hRf u0 u1 u2 u3 u4 u5 u6 x0 z0
        go_wp2_with fail
        refine hC.mono ?_
        rintro e w2 ⟨av, rfl, hW⟩
        obtain ⟨ra, rc, rfl, z1, HW⟩ := HPP.out _ _ _ hW
        have HW2 : Hid _ := HW
        obtain ⟨t0, t1, t2, t3, t4⟩ := box_five z1
        obtain ⟨r0, r1, r2, r3, r4⟩ := five_free z1
        obtain ⟨s0, s1, s2, s3, s4⟩ := box_five (five_set z1 (.int .i64 FA.2.err) (.int .i64 FA.2.shard) (.int .i64 FA.2.place) (.int .i64 FA.2.size) (.slice ra FA.2.root.length rc))
        clear HW HPP hW hC v0 v1 v2 v3 v4 v5 v6
        go_wp2_with fail
        exact bodyPost_ret (v := .agg #[.int .i64 FA.2.err, .int .i64 FA.2.shard, .int .i64 FA.2.place, .int .i64 FA.2.size, .slice ra FA.2.root.length rc]) (by simp [results, Tryz.results17, go_sem, s0, s1, s2, s3, s4]) rfl ⟨_, rfl, HW2.out _ _ _ _ _⟩
      · have hkk : d.kind = 4 := by omega
        rw [hkk] at hst
        have hrl : (f.shards.getD k shd0).man.root.length ≤ 1000000 := by
          rw [((hok.each k hkw).head3 (by rw [hst]; rfl)).2, mth_length]; omega
        have hC := fun w1 (hb : Below _ _ w1) => retire_any hVer f k τ1 N gp w1 (hF0.upd (upd_same hb) no_row) (Nat.le_trans hN0 hb.size) (hr0.below hb) hkl hrl
        rw [stepAt_retire f k hkk]
        have HPP := fun w1 (hb : Below _ _ w1) => HP w1 (K0.call hN hb) (box_kept z0 hb)
        rw [hkk] at u0 x0 z0 hC HPP hRf b0
        rw [hkk]
        generalize retireL f k = FA at *
        clear hF0 hok hr0 hd0 HP K0 hfit hN0 HNO hB hS hst hkind
        go_enter Tryz.func17, Tryz.ntmps17
        go_wp2_with fail
        generalize (w.alloc (.cells #[.int .i64 4, .int .i64 (k : Int), .int .i64 d.time, .slice da d.entry.length dc, .int .i64 d.segment, .int .i64 d.at', .int .u8 d.by'] 56)).alloc (.cells #[.int .i64 0, .int .i64 0, .int .i64 0, .int .i64 0, .slice none 0 0] 41) = w0 at *
        refine hRf.mono ?_
        rintro e w1 ⟨rfl, hb1⟩
        replace hC := hC w1 hb1
        replace HPP := HPP w1 hb1
        obtain ⟨v0, v1, v2, v3, v4, v5, v6⟩ := box_seven (box_kept x0 hb1)
        clear hRf u0 u1 u2 u3 u4 u5 u6 x0 z0
        go_wp2_with fail
        refine hC.mono ?_
        rintro e w2 ⟨av, rfl, hW⟩
        obtain ⟨ra, rc, rfl, z1, HW⟩ := HPP.out _ _ _ hW
        have HW2 : Hid _ := HW
        obtain ⟨t0, t1, t2, t3, t4⟩ := box_five z1
        obtain ⟨r0, r1, r2, r3, r4⟩ := five_free z1
        obtain ⟨s0, s1, s2, s3, s4⟩ := box_five (five_set z1 (.int .i64 FA.2.err) (.int .i64 FA.2.shard) (.int .i64 FA.2.place) (.int .i64 FA.2.size) (.slice ra FA.2.root.length rc))
        clear HW HPP hW hC v0 v1 v2 v3 v4 v5 v6
        go_wp2_with fail
        exact bodyPost_ret (v := .agg #[.int .i64 FA.2.err, .int .i64 FA.2.shard, .int .i64 FA.2.place, .int .i64 FA.2.size, .slice ra FA.2.root.length rc]) (by simp [results, Tryz.results17, go_sem, s0, s1, s2, s3, s4]) rfl ⟨_, rfl, HW2.out _ _ _ _ _⟩
      · have hkk : d.kind = 5 := by omega
        rw [hkk] at hst
        have hC := fun w1 (hb : Below _ _ w1) => spoil_any f d k τ1 N gp (.slice da d.entry.length dc) w1 (hF0.upd (upd_same hb) no_row) (Nat.le_trans hN0 hb.size) hkl hn0 hfit.1
        rw [stepAt_spoil f k hkk]
        have HPP := fun w1 (hb : Below _ _ w1) => HP w1 (K0.call hN hb) (box_kept z0 hb)
        rw [hn0] at hC
        rw [hkk] at u0 x0 z0 hC HPP hRf b0
        rw [hkk]
        generalize spoilL f k d = FA at *
        clear hF0 hok hr0 hd0 HP K0 hfit hN0 HNO hB hS hst hkind
        go_enter Tryz.func17, Tryz.ntmps17
        go_wp2_with fail
        generalize (w.alloc (.cells #[.int .i64 5, .int .i64 (k : Int), .int .i64 d.time, .slice da d.entry.length dc, .int .i64 d.segment, .int .i64 d.at', .int .u8 d.by'] 56)).alloc (.cells #[.int .i64 0, .int .i64 0, .int .i64 0, .int .i64 0, .slice none 0 0] 41) = w0 at *
        refine hRf.mono ?_
        rintro e w1 ⟨rfl, hb1⟩
        replace hC := hC w1 hb1
        replace HPP := HPP w1 hb1
        obtain ⟨v0, v1, v2, v3, v4, v5, v6⟩ := box_seven (box_kept x0 hb1)
        clear hRf u0 u1 u2 u3 u4 u5 u6 x0 z0
        go_wp2_with fail
        refine hC.mono ?_
        rintro e w2 ⟨av, rfl, hW⟩
        obtain ⟨ra, rc, rfl, z1, HW⟩ := HPP.out _ _ _ hW
        have HW2 : Hid _ := HW
        obtain ⟨t0, t1, t2, t3, t4⟩ := box_five z1
        obtain ⟨r0, r1, r2, r3, r4⟩ := five_free z1
        obtain ⟨s0, s1, s2, s3, s4⟩ := box_five (five_set z1 (.int .i64 FA.2.err) (.int .i64 FA.2.shard) (.int .i64 FA.2.place) (.int .i64 FA.2.size) (.slice ra FA.2.root.length rc))
        clear HW HPP hW hC v0 v1 v2 v3 v4 v5 v6
        go_wp2_with fail
        exact bodyPost_ret (v := .agg #[.int .i64 FA.2.err, .int .i64 FA.2.shard, .int .i64 FA.2.place, .int .i64 FA.2.size, .slice ra FA.2.root.length rc]) (by simp [results, Tryz.results17, go_sem, s0, s1, s2, s3, s4]) rfl ⟨_, rfl, HW2.out _ _ _ _ _⟩
    · rw [step_ref h1 hre]
      have hre' : (refL f.shards d != 0) = true := by simpa using hre
      generalize refL f.shards d = RF at *
      clear hF0 hok hr0 hd0 HP K0 hfit hN0 hB hS hre h1
      generalize d.kind = KD at *
      go_enter Tryz.func17, Tryz.ntmps17
      go_wp2_with fail
      generalize (w.alloc (.cells #[.int .i64 KD, .int .i64 d.n, .int .i64 d.time, .slice da d.entry.length dc, .int .i64 d.segment, .int .i64 d.at', .int .u8 d.by'] 56)).alloc (.cells #[.int .i64 0, .int .i64 0, .int .i64 0, .int .i64 0, .slice none 0 0] 41) = w0 at *
      refine hRf.mono ?_
      rintro e w1 ⟨rfl, hb1⟩
      clear hRf
      go_wp2_with fail
      refine (refused_any RF w1).mono ?_
      rintro e w2 ⟨rfl, hb2⟩
      have c2 := hb1.trans (hb2.mono hb1.size)
      have b2 := b0.trans (c2.mono b0.size)
      have z1 := box_kept z0 c2
      obtain ⟨t0, t1, t2, t3, t4⟩ := box_five z1
      obtain ⟨r0, r1, r2, r3, r4⟩ := five_free z1
      obtain ⟨s0, s1, s2, s3, s4⟩ := box_five (five_set z1 (.int .i64 RF) (.int .i64 0) (.int .i64 0) (.int .i64 0) (.slice none 0 0))
      have HG := HNO w2 (no RF) (.int .i64 RF) (.int .i64 0) (.int .i64 0) (.int .i64 0) (.slice none 0 0)
      clear HNO z0 x0 u0 u1 u2 u3 u4 u5 u6
      go_wp2_with fail
      exact bodyPost_ret (v := .agg #[.int .i64 RF, .int .i64 0, .int .i64 0, .int .i64 0, .slice none 0 0]) (by simp [results, Tryz.results17, go_sem, s0, s1, s2, s3, s4]) rfl ⟨_, rfl, HG.out b2 rfl⟩

end Go.Proofs.YtkjlchfmplcobaeGreatDoor

/- The walk of Play: package fleet as it landed. -/
namespace Go.Proofs.YtkjlchfmplcobaeGreatDoor
open Go.RowKit

theorem Tryz.info41b : (Tryz.prog.info? 41).map (fun i => (i.zero, i.size, i.bytes)) = some (some (.agg #[.int .i64 0, .int .i64 0, .int .i64 0, .int .i64 0, .slice none 0 0]), 5, 56) := by kernel_rfl
theorem fleetWrongC_holds : FleetWrongC := fun ws wv w h => by
  obtain ⟨a, c, e⟩ := h.form
  subst e
  exact goWrong_any ws a _ c w h rfl
theorem lit_ans (w : World) (x : Ans) (v : Value) (t : TypeId) : ∀ (j : Nat) (u : Value), (ansV x v)[j]? = some u → (w.alloc (.cells #[.int .i64 x.err, .int .i64 x.shard, .int .i64 x.place, .int .i64 x.size, v] t)).cell? ((⟨w.heap.size, 0, none⟩ : Addr).add j) = some u := fun j u hj => by
  have hadd : (⟨w.heap.size, 0, none⟩ : Addr).add j = ⟨w.heap.size, 0 + j, none⟩ := Addr.add_mid _ _ _
  rw [hadd, Nat.zero_add]
  rw [cell_of_row _ _ j _ t _ (box_new w _ t), ← hj]
  simp [ansV]
theorem take_more {α : Type} (l : List α) (d : α) {j : Nat} (h : j < l.length) : l.take (j + 1) = l.take j ++ [l.getD j d] := by
  rw [List.take_add_one, List.getD_eq_getElem?_getD, List.getElem?_eq_getElem h]; rfl
/-- The fleet and the answers so far. -/
structure Run (τ : Nat → Tag) (N gp : Nat) (w : World) (ws : List Win) (l : List Dd) (av : Value) (j : Nat) : Prop where
  flt : GoF τ N w gp (runL (startL ws) (l.take j)).1
  ans : AnM τ N w av (runL (startL ws) (l.take j)).2
  low : ∀ b, b < N → τ b = tNo
theorem Run.upd {τ : Nat → Tag} {N gp j : Nat} {w w' : World} {ws : List Win} {l : List Dd} {av : Value} (h : Run τ N gp w ws l av j) (hb : Below w.heap.size w w') : Run τ N gp w' ws l av j :=
  ⟨h.flt.upd (upd_same hb) no_row, h.ans.upd (upd_same hb) no_row no_row, h.low⟩
theorem run_len (ws : List Win) {l : List Dd} {j : Nat} (hj : j ≤ l.length) : (runL (startL ws) (l.take j)).2.length = j := by
  rw [runL_length, List.length_take]; omega
/-- One thing more was done. -/
theorem Run.step {τ : Nat → Tag} {N gp j vc : Nat} {w w1 : World} {ws : List Win} {l : List Dd} {va : Option Addr} {av : Value} {ra : Option Addr} {rc : Nat} (hj : j < l.length) (h : Run τ N gp w ws l (.slice va j vc) j) (hN : N ≤ w.heap.size) (hW : Went τ N gp w w1 av (stepL (runL (startL ws) (l.take j)).1 (l.getD j dd0))) (hav : av = .agg #[.int .i64 (stepL (runL (startL ws) (l.take j)).1 (l.getD j dd0)).2.err, .int .i64 (stepL (runL (startL ws) (l.take j)).1 (l.getD j dd0)).2.shard, .int .i64 (stepL (runL (startL ws) (l.take j)).1 (l.getD j dd0)).2.place, .int .i64 (stepL (runL (startL ws) (l.take j)).1 (l.getD j dd0)).2.size, .slice ra (stepL (runL (startL ws) (l.take j)).1 (l.getD j dd0)).2.root.length rc]) :
    Below N w w1 ∧ N ≤ w1.heap.size ∧ ∃ ys, w1.ownsRow N 41 5 (.slice va j vc) j ys ∧ ∀ (o : Obj) (w6 : World) (g cap : Nat), (w1.alloc o).grownBy w6 (Value.slice va j vc).ownBlock → w6.ownsRow N 41 5 (.slice (some ⟨g, 0, none⟩) (j + 1) cap) (j + 1) (ys ++ ansV (stepL (runL (startL ws) (l.take j)).1 (l.getD j dd0)).2 (.slice ra (stepL (runL (startL ws) (l.take j)).1 (l.getD j dd0)).2.root.length rc)) → ((Value.slice va j vc).ownBlock = some g ∨ g = (w1.alloc o).heap.size) → g < w6.heap.size → (∃ τ', Run τ' N gp w6 ws l (.slice (some ⟨g, 0, none⟩) (j + 1) cap) (j + 1)) ∧ Below N w w6 := by
  obtain ⟨τ1, ⟨rv, e, hrv⟩, hF1, hK1⟩ := hW
  have hl := run_len ws (Nat.le_of_lt hj)
  rw [hav] at e
  simp only [Value.agg.injEq, Array.mk.injEq, List.cons.injEq, and_true, true_and] at e
  subst e
  have hA1 := hK1.anM h.ans
  obtain ⟨hT1, ys, hrow, hx⟩ := hA1
  have hyl := hrow.1
  have hN1 : N ≤ w1.heap.size := Nat.le_trans hN hK1.size
  refine ⟨hK1.low, hN1, ys, by rw [hl] at hrow; exact hrow, fun o w6 g cap hg6 ho6 ha6 hlt6 => ?_⟩
  have bA : Below w1.heap.size w1 (w1.alloc o) := (Below.refl _ _).alloc (Nat.le_refl _) _
  have U1 := upd_same (τ := τ1) bA
  have hTA := hT1.upd U1
  have U2 : Upd τ1 (ext τ1 (w1.alloc o).heap.size tAn) (w1.alloc o) w6 (Value.slice va j vc).ownBlock := ⟨hg6, fun _ hb => ext_old hb⟩
  have hmine : ∀ b, (Value.slice va j vc).ownBlock = some b → τ1 b = tAn := fun b hb => (hTA b hb).2
  have hF6 := (hF1.upd U1 no_row).upd U2 (fun b hb => .inr (hmine b hb))
  have hrun : runL (startL ws) (l.take (j + 1)) = ((stepL (runL (startL ws) (l.take j)).1 (l.getD j dd0)).1, (runL (startL ws) (l.take j)).2 ++ [(stepL (runL (startL ws) (l.take j)).1 (l.getD j dd0)).2]) := by
    rw [take_more l dd0 hj, runL_snoc]
  have hA6 := AnM.snoc (N := N) hTA hyl (fun i hi => by obtain ⟨q, h1, h2⟩ := hx i hi; exact ⟨q, h1, h2.upd U1 no_row⟩) (by rw [hl]; exact ho6) hg6 ha6 hlt6 (hrv.upd U1 no_row)
  rw [hl] at hA6
  refine ⟨⟨_, ⟨by rw [hrun]; exact hF6, by rw [hrun]; exact hA6, fun b hb => ?_⟩⟩, ?_⟩
  · rw [ext_old (by have := bA.size; omega), hK1.same b (by omega)]
    exact h.low b hb
  · have b2 : Below N w (w1.alloc o) := hK1.low.trans (bA.mono hN1)
    exact b2.grown hg6 (Nat.le_trans hN1 bA.size) (fun b hb => (hrow.lt b hb).1)
/-- What is handed back. -/
theorem Run.back {τ : Nat → Tag} {N gp a b : Nat} {w : World} {ws : List Win} {l : List Dd} {av : Value} (h : Run τ N gp w ws l av l.length) (ha : a < N) (hb : b < N) : ∃ sv bv, w.heap[gp]? = some (.cells #[sv, bv] 59 (0, 0)) ∧ (∃ x y z, sv = .slice x y z) ∧ (∃ x y z, bv = .slice x y z) ∧ ∀ u0 u1 u2 u3, FltM τ N ((((w.setCell ⟨a, 0, none⟩ u0).setCell ⟨a, 1, none⟩ u1).setCell ⟨b, 0, none⟩ u2).setCell ⟨b, 1, none⟩ u3) (.agg #[sv, bv]) (runL (startL ws) l).1 ∧ AnM τ N ((((w.setCell ⟨a, 0, none⟩ u0).setCell ⟨a, 1, none⟩ u1).setCell ⟨b, 0, none⟩ u2).setCell ⟨b, 1, none⟩ u3) av (runL (startL ws) l).2 := by
  obtain ⟨hF, hA, hl⟩ := h
  rw [List.take_length] at hF hA
  obtain ⟨sa, sc, ba, bc, V, hB, hS⟩ := hF.open
  have ta := hl a ha
  have tb := hl b hb
  have na : ∀ c, some a = some c → τ c = tNo := fun c hc => by cases hc; exact ta
  have nb : ∀ c, some b = some c → τ c = tNo := fun c hc => by cases hc; exact tb
  refine ⟨_, _, hB.box, ⟨_, _, _, rfl⟩, ⟨_, _, _, rfl⟩, fun u0 u1 u2 u3 => ?_⟩
  have s4 := (((hS.upd (upd_set τ _ a 0 u0) (fun c hc => .inl (na c hc))).upd (upd_set τ _ a 1 u1) (fun c hc => .inl (na c hc))).upd (upd_set τ _ b 0 u2) (fun c hc => .inl (nb c hc))).upd (upd_set τ _ b 1 u3) (fun c hc => .inl (nb c hc))
  have k4 := (((hB.bk.upd (upd_set τ _ a 0 u0) (fun c hc => by rw [na c hc]; decide) (fun c hc => by rw [na c hc]; decide)).upd (upd_set τ _ a 1 u1) (fun c hc => by rw [na c hc]; decide) (fun c hc => by rw [na c hc]; decide)).upd (upd_set τ _ b 0 u2) (fun c hc => by rw [nb c hc]; decide) (fun c hc => by rw [nb c hc]; decide)).upd (upd_set τ _ b 1 u3) (fun c hc => by rw [nb c hc]; decide) (fun c hc => by rw [nb c hc]; decide)
  have a4 := (((hA.upd (upd_set τ _ a 0 u0) (fun c hc => by rw [na c hc]; decide) (fun c hc => by rw [na c hc]; decide)).upd (upd_set τ _ a 1 u1) (fun c hc => by rw [na c hc]; decide) (fun c hc => by rw [na c hc]; decide)).upd (upd_set τ _ b 0 u2) (fun c hc => by rw [nb c hc]; decide) (fun c hc => by rw [nb c hc]; decide)).upd (upd_set τ _ b 1 u3) (fun c hc => by rw [nb c hc]; decide) (fun c hc => by rw [nb c hc]; decide)
  exact ⟨⟨sa, sc, ba, bc, V, rfl, s4, k4⟩, a4⟩

set_option maxRecDepth 100000 in
set_option maxHeartbeats 4000000 in
theorem playTC_of (hRoot : RootC) (hEx : ExportOC) (hVer : VerifyC) : PlayTC := by
  intro ws l wv dv w hr hW hD
  obtain ⟨i0, hi0, hz0, hz1, hz2⟩ := info_parts Tryz.info41b
  obtain ⟨wa, wc, e⟩ := hW.form
  subst e
  obtain ⟨da, dc, e⟩ := hD.form
  subst e
  have b0 : Below w.heap.size w ((w.alloc (.cells #[.slice none 0 0, .slice none 0 0] 27)).alloc (.cells #[.int .i64 0, .int .i64 0] 31)) := ((Below.refl _ _).alloc (Nat.le_refl _) _).alloc (by simp) _
  have x0 := box_one w #[.slice none 0 0, .slice none 0 0] 27 (.cells #[.int .i64 0, .int .i64 0] 31)
  have y0 := box_last w (.cells #[.slice none 0 0, .slice none 0 0] 27) #[.int .i64 0, .int .i64 0] 31
  have hWr := goWrong_any ws wa ws.length wc _ (hW.below b0) rfl
  have HPF : Hid (playF ws l = if (wrongWins ws).1 ≠ 0 then wrongWins ws else if 120 < l.length then (5, 0) else (0, 0)) := rfl
  have HPL : Hid (playL ws l = if (playF ws l).1 ≠ 0 then (flt0, []) else runL (startL ws) l) := rfl
  have hw8 : (wrongWins ws).1 = 0 → ws.length ≤ 8 := fun h => by
    by_cases h8 : 8 < ws.length
    · rw [wrongWins_many h8] at h; simp at h
    · omega
  generalize playF ws l = PF at *
  generalize playL ws l = PL at *
  generalize hwv : wrongWins ws = WV at *
  obtain ⟨E1, E2⟩ := WV
  dsimp only [faultV] at hWr HPF hw8
  by_cases hE : E1 = 0
  · subst hE
    replace hw8 := hw8 rfl
    replace HPF : Hid (PF = if 120 < l.length then (5, 0) else (0, 0)) := by show _ = _; rw [HPF.out, if_neg (fun h => h rfl)]
    have hdl : l.length ≤ 9223372036854775807 := by obtain ⟨a', c', e, h1, h2, -⟩ := hD; unfold maxLen at h2; cases e; omega
    by_cases h120 : 120 < l.length
    · have HP2 : Hid (PF = (5, 0)) := by show _ = _; rw [HPF.out, if_pos h120]
      have HL2 : Hid (PL = (flt0, [])) := by show _ = _; rw [HPL.out, HP2.out, if_pos (by decide)]
      rw [HP2.out, HL2.out]
      have h120' : (120 : Int) < l.length := by omega
      clear HPF HPL HP2 HL2 hW hD hr
      go_enter Tryz.func5, Tryz.ntmps5
      go_wp2_with fail
      generalize (w.alloc (.cells #[.slice none 0 0, .slice none 0 0] 27)).alloc (.cells #[.int .i64 0, .int .i64 0] 31) = w0 at *
      refine hWr.mono ?_
      rintro e w1 ⟨rfl, hb1⟩
      have d2 : Below w1.heap.size w1 (w1.alloc (.cells #[.int .i64 0, .int .i64 E2] 31)) := (Below.refl _ _).alloc (Nat.le_refl _) _
      have c2 := hb1.trans (d2.mono hb1.size)
      have b2 := b0.trans (c2.mono b0.size)
      have x2 := box_kept x0 c2
      have y2 := box_kept y0 c2
      obtain ⟨f0, f1, -, -⟩ := box_two (box_new w1 #[.int .i64 0, .int .i64 E2] 31)
      obtain ⟨p0, p1, p2, p3⟩ := box_two x2
      obtain ⟨q0, q1, q2, q3⟩ := box_two y2
      clear hWr x0 y0 hb1 d2 c2
      go_wp2_with fail
      generalize w1.alloc (.cells #[.int .i64 0, .int .i64 E2] 31) = w2 at *
      have b3 := two_below (two_below b2 (Nat.le_refl w.heap.size) (.slice none 0 0) (.slice none 0 0)) (Nat.le_succ w.heap.size) (.int .i64 5) (.int .i64 0)
      have x3 := two_far (two_set x2 (.slice none 0 0) (.slice none 0 0)) (show w.heap.size ≠ w.heap.size + 1 by omega) (.int .i64 5) (.int .i64 0)
      have y3 := two_set (two_far y2 (show w.heap.size + 1 ≠ w.heap.size by omega) (.slice none 0 0) (.slice none 0 0)) (.int .i64 5) (.int .i64 0)
      obtain ⟨s0, s1, -, -⟩ := box_two x3
      obtain ⟨s2, s3, -, -⟩ := box_two y3
      exact bodyPost_ret (v := .tuple #[.agg #[.slice none 0 0, .slice none 0 0], .slice none 0 0, faultV (5, 0)]) (by simp [results, Tryz.results5, go_sem, s0, s1, s2, s3]) rfl ⟨_, _, fun _ => tNo, 0, rfl, fltM_nil _ _ _, anM_nilT _ _ _, fun _ _ => rfl, b3⟩
    · have HP2 : Hid (PF = (0, 0)) := by show _ = _; rw [HPF.out, if_neg h120]
      have HL2 : Hid (PL = runL (startL ws) l) := by show _ = _; rw [HPL.out, HP2.out, if_neg (fun h => h rfl)]
      rw [HP2.out]
      have h120' : ¬ (120 : Int) < l.length := by omega
      have hBg := fun w' (h : Below w.heap.size w w') => fleetBegin_any ws wa ws.length wc w' (hW.below h) rfl hw8
      obtain ⟨da', dc', e, hD1, hD2, -, hDc⟩ := hD
      cases e
      unfold maxLen at hD2
      clear HPF HPL HP2 hW
      go_enter Tryz.func5, Tryz.ntmps5
      go_wp2_with fail
      generalize (w.alloc (.cells #[.slice none 0 0, .slice none 0 0] 27)).alloc (.cells #[.int .i64 0, .int .i64 0] 31) = w0 at *
      refine hWr.mono ?_
      rintro e w1 ⟨rfl, hb1⟩
      have d2 : Below w1.heap.size w1 (w1.alloc (.cells #[.int .i64 0, .int .i64 E2] 31)) := (Below.refl _ _).alloc (Nat.le_refl _) _
      have c2 := hb1.trans (d2.mono hb1.size)
      have b2 := b0.trans (c2.mono b0.size)
      have x2 := box_kept x0 c2
      have y2 := box_kept y0 c2
      obtain ⟨f0, f1, -, -⟩ := box_two (box_new w1 #[.int .i64 0, .int .i64 E2] 31)
      have hB2 := hBg _ b2
      clear hWr x0 y0 hb1 d2 c2 hBg b0
      go_wp2_with fail
      generalize w1.alloc (.cells #[.int .i64 0, .int .i64 E2] 31) = w2 at *
      refine hB2.mono ?_
      rintro e w3 ⟨gp, rfl, ⟨τ0, hF3, hlow⟩, hb3⟩
      have hN3 := hb3.size
      have b3 := b2.trans (hb3.mono b2.size)
      clear hB2 f0 f1
      go_wp2_with (at_make; refine wpList_make_own _ rfl _ _ 28 rfl w2.heap.size 41 i0 _ 5 Tryz.underlying28 hi0 hz0 hz1 .i64 .i64 _ l.length rfl rfl rfl (by rw [hz2]; omega) (by unfold maxLen; omega) hN3 ?_; intro w4 hown hgrow)
      have hb4 : Below w3.heap.size w3 w4 := (Below.refl _ _).grown hgrow (Nat.le_refl _) (fun _ h => by cases h)
      have c4 := hb3.trans (hb4.mono hb3.size)
      have hRun : Run (ext τ0 w3.heap.size tAn) w2.heap.size gp w4 ws l (.slice (some ⟨w3.heap.size, 0, none⟩) 0 l.length) 0 := by
        refine ⟨hF3.upd (upd_call hb4 tAn) no_row, ⟨fun b hb => ?_, [], hown, fun j hj => absurd hj (Nat.not_lt_zero _)⟩, fun b hb => by rw [ext_old (by omega)]; exact hlow b hb⟩
        cases hb
        exact ⟨(hown.lt _ rfl).2, ext_new (Nat.le_refl _)⟩
      clear hF3 hlow hgrow hown hb3 b3 hb4
      go_loopw [9, 31] (fun gv kv wr => ∃ (j : Nat) (va : Option Addr) (vc : Nat), j ≤ l.length ∧ kv = .int .i64 j ∧ gv = .slice va j vc ∧ (∃ τ, Run τ w2.heap.size gp wr ws l (.slice va j vc) j) ∧ Below w2.heap.size w2 wr) (fun _ kv _ => l.length - (intOf kv).toNat)
      case atStart => exact ⟨0, _, l.length, Nat.zero_le _, rfl, rfl, ⟨_, hRun⟩, c4⟩
      case round =>
        obtain ⟨wo, rfl⟩ : ∃ x, x = wr := ⟨wr, rfl⟩
        obtain ⟨j, va, vc, hj, rfl, rfl, ⟨τ, hR⟩, hbr⟩ := hrel
        have hsr := hbr.size
        clear c4 hRun hN3
        have hbw := b2.trans (hbr.mono b2.size)
        by_cases hlt : j < l.length
        · have hlt' : (j : Int) < l.length := by omega
          obtain ⟨p2, o2, rfl, hp2, hcs2⟩ := hDc.resolve_left (by omega)
          obtain ⟨e0, e1, e2, ⟨qa, qc, e3, hq⟩, e4, e5, e6, e7⟩ := (hcs2 j hlt).below hp2 hbw
          obtain ⟨X, HX⟩ : ∃ X, Hid (l.getD j dd0 = X) := ⟨_, rfl⟩
          rw [HX.out] at e0 e1 e2 e3 e4 e5 e6 e7 hq
          have dV : Below wo.heap.size wo (wo.alloc (.cells #[.int .i64 X.kind, .int .i64 X.n, .int .i64 X.time, .slice qa X.entry.length qc, .int .i64 X.segment, .int .i64 X.at', .int .u8 X.by'] 56)) := (Below.refl _ _).alloc (Nat.le_refl _) _
          have bV := hbw.trans (dV.mono hbw.size)
          have hRV := hR.upd dV
          have hNV : w2.heap.size ≤ (wo.alloc (.cells #[.int .i64 X.kind, .int .i64 X.n, .int .i64 X.time, .slice qa X.entry.length qc, .int .i64 X.segment, .int .i64 X.at', .int .u8 X.by'] 56)).heap.size := Nat.le_trans hsr dV.size
          have hok : FltOk ws (runL (startL ws) (l.take j)).1 := run_ok (start_ok ws) _
          have hDo := do_any hRoot hEx hVer ws _ X τ w2.heap.size gp qa qc _ hRV.flt hNV (hr.below bV) hok hw8 (hq.below dV) e7
          have hSt := fun w1 av ra rc => Run.step (w1 := w1) (av := av) (ra := ra) (rc := rc) hlt hRV hNV
          rw [HX.out] at hSt
          obtain ⟨v0, v1, v2, v3, v4, v5, v6⟩ := box_seven (box_new wo #[.int .i64 X.kind, .int .i64 X.n, .int .i64 X.time, .slice qa X.entry.length qc, .int .i64 X.segment, .int .i64 X.at', .int .u8 X.by'] 56)
          have bW2 : Below w2.heap.size w2 _ := hbr.trans (dV.mono hsr)
          clear hcs2 hDc hok hR hRV hq
          generalize stepL (runL (startL ws) (l.take j)).1 X = FA at *
          go_wp2_with fail
          generalize wo.alloc (.cells #[.int .i64 X.kind, .int .i64 X.n, .int .i64 X.time, .slice qa X.entry.length qc, .int .i64 X.segment, .int .i64 X.at', .int .u8 X.by'] 56) = wV at *
          refine hDo.mono ?_
          rintro e w5 ⟨av, rfl, hWn⟩
          obtain ⟨ra, rc, hav⟩ : ∃ ra rc, av = .agg #[.int .i64 FA.2.err, .int .i64 FA.2.shard, .int .i64 FA.2.place, .int .i64 FA.2.size, .slice ra FA.2.root.length rc] := by
            obtain ⟨τ', ⟨rv, e, hrv⟩, -⟩ := hWn
            obtain ⟨ra, rc, e2⟩ := hrv.here.at'.form
            exact ⟨ra, rc, by rw [e, e2]⟩
          obtain ⟨bS, hN5, ys, hrow5, hEnd⟩ := hSt w5 av ra rc hWn hav
          subst hav
          have HEnd : Hid _ := hEnd
          have hrowA := hrow5.alloc (.cells #[.int .i64 FA.2.err, .int .i64 FA.2.shard, .int .i64 FA.2.place, .int .i64 FA.2.size, .slice ra FA.2.root.length rc] 41)
          have hnew := lit_ans w5 FA.2 (.slice ra FA.2.root.length rc) 41
          have hone : ∀ u ∈ ansV FA.2 (.slice ra FA.2.root.length rc), u.oneCell' = true := by intro u hu; simp [ansV] at hu; rcases hu with rfl | rfl | rfl | rfl | rfl <;> rfl
          have hNA : w2.heap.size ≤ (w5.alloc (.cells #[.int .i64 FA.2.err, .int .i64 FA.2.shard, .int .i64 FA.2.place, .int .i64 FA.2.size, .slice ra FA.2.root.length rc] 41)).heap.size := by simp; omega
          clear hDo hSt hWn hrow5 hEnd v0 v1 v2 v3 v4 v5 v6 e0 e1 e2 e3 e4 e5 e6
          go_wp2_with (at_builtin; refine wpList_append_lies _ rfl (.tmp 35) (.tmp 39) 28 rfl w2.heap.size 41 i0 _ 5 56 Tryz.underlying28 hi0 hz0 hz1 hz2 rfl (by decide) _ _ _ rfl hrowA ⟨w5.heap.size, 0, none⟩ 1 1 _ rfl rfl hnew hone (by decide) (by unfold maxLen; omega) (by omega) hNA _ rfl ?_; intro g cap w6 ho6 hg6 ha6 hlt6)
          obtain ⟨hR6, hb6⟩ := HEnd.out _ w6 g cap hg6 ho6 ha6 hlt6
          have HR6 : Hid _ := hR6
          have b6 := bW2.trans hb6
          clear hR6 HEnd hrowA hnew hone ho6 hg6 ha6
          go_roundw
          case rel => exact ⟨j + 1, _, cap, by omega, by go_num, rfl, HR6.out, b6⟩
          case measure => simp [intOf]; omega
        · obtain rfl : j = l.length := by omega
          have hnl : ¬ (l.length : Int) < l.length := by omega
          have hsz : w.heap.size + 1 < w2.heap.size := lt_heap y2
          have HLow : Hid (∀ b, b < w.heap.size → τ b = tNo) := fun b hb => hR.low b (by omega)
          obtain ⟨sv, bv, hbox, ⟨sx, sy, sz, rfl⟩, ⟨bx, bY, bz, rfl⟩, hBk⟩ := hR.back (a := w.heap.size) (b := w.heap.size + 1) (by omega) hsz
          have HBk : Hid _ := hBk (.slice sx sy sz) (.slice bx bY bz) (.int .i64 0) (.int .i64 0)
          obtain ⟨g0, g1, -, -⟩ := box_two hbox
          have x4 := box_kept x2 hbr
          have y4 := box_kept y2 hbr
          obtain ⟨p0, p1, p2, p3⟩ := box_two x4
          obtain ⟨q0, q1, q2, q3⟩ := box_two y4
          have x5 := two_far (two_set x4 (.slice sx sy sz) (.slice bx bY bz)) (show w.heap.size ≠ w.heap.size + 1 by omega) (.int .i64 0) (.int .i64 0)
          have y5 := two_set (two_far y4 (show w.heap.size + 1 ≠ w.heap.size by omega) (.slice sx sy sz) (.slice bx bY bz)) (.int .i64 0) (.int .i64 0)
          obtain ⟨s0, s1, -, -⟩ := box_two x5
          obtain ⟨s2, s3, -, -⟩ := box_two y5
          have b5 := two_below (two_below hbw (Nat.le_refl w.heap.size) (.slice sx sy sz) (.slice bx bY bz)) (Nat.le_succ w.heap.size) (.int .i64 0) (.int .i64 0)
          clear hBk hR hDc x4 y4 x2 y2
          go_wp2_with fail
          exact bodyPost_ret (v := .tuple #[.agg #[.slice sx sy sz, .slice bx bY bz], .slice va l.length vc, faultV (0, 0)]) (by simp [results, Tryz.results5, go_sem, s0, s1, s2, s3]) rfl ⟨_, _, rfl, τ, w2.heap.size, by rw [HL2.out]; exact HBk.out.1, by rw [HL2.out]; exact HBk.out.2, HLow.out, b5⟩
  · have HP2 : Hid (PF = (E1, E2)) := by show _ = _; rw [HPF.out, if_pos hE]
    have HL2 : Hid (PL = (flt0, [])) := by show _ = _; rw [HPL.out, HP2.out, if_pos hE]
    have hE' : (E1 != 0) = true := by simpa using hE
    rw [HP2.out, HL2.out]
    clear HPF HPL HP2 HL2 hW hD hr hE hw8
    go_enter Tryz.func5, Tryz.ntmps5
    go_wp2_with fail
    generalize (w.alloc (.cells #[.slice none 0 0, .slice none 0 0] 27)).alloc (.cells #[.int .i64 0, .int .i64 0] 31) = w0 at *
    refine hWr.mono ?_
    rintro e w1 ⟨rfl, hb1⟩
    have d2 : Below w1.heap.size w1 (w1.alloc (.cells #[.int .i64 E1, .int .i64 E2] 31)) := (Below.refl _ _).alloc (Nat.le_refl _) _
    have c2 := hb1.trans (d2.mono hb1.size)
    have b2 := b0.trans (c2.mono b0.size)
    have x2 := box_kept x0 c2
    have y2 := box_kept y0 c2
    have hs2 : w.heap.size + 1 < w1.heap.size := lt_heap (box_kept y0 hb1)
    have f2 := box_new w1 #[.int .i64 E1, .int .i64 E2] 31
    obtain ⟨f0, f1, -, -⟩ := box_two f2
    obtain ⟨p0, p1, p2, p3⟩ := box_two x2
    obtain ⟨q0, q1, q2, q3⟩ := box_two y2
    have n1 : w.heap.size ≠ w1.heap.size := by omega
    have n2 : w.heap.size + 1 ≠ w1.heap.size := by omega
    clear hWr x0 y0 hb1 d2 c2
    go_wp2_with fail
    generalize w1.alloc (.cells #[.int .i64 E1, .int .i64 E2] 31) = w2 at *
    generalize w1.heap.size = q at *
    go_region
    all_goals
      go_wp2_with fail
      have b3 := (two_below (two_below b2 (Nat.le_refl w.heap.size) (.slice none 0 0) (.slice none 0 0)) (Nat.le_succ w.heap.size) (.int .i64 E1) (.int .i64 E2)).drew
      have x3 := box_drew (two_far (two_set x2 (.slice none 0 0) (.slice none 0 0)) (show w.heap.size ≠ w.heap.size + 1 by omega) (.int .i64 E1) (.int .i64 E2))
      have y3 := box_drew (two_set (two_far y2 (show w.heap.size + 1 ≠ w.heap.size by omega) (.slice none 0 0) (.slice none 0 0)) (.int .i64 E1) (.int .i64 E2))
      obtain ⟨s0, s1, -, -⟩ := box_two x3
      obtain ⟨s2, s3, -, -⟩ := box_two y3
      exact bodyPost_ret (v := .tuple #[.agg #[.slice none 0 0, .slice none 0 0], .slice none 0 0, faultV (E1, E2)]) (by simp [results, Tryz.results5, go_sem, s0, s1, s2, s3]) rfl ⟨_, _, fun _ => tNo, 0, rfl, fltM_nil _ _ _, anM_nilT _ _ _, fun _ _ => rfl, b3⟩

theorem playC_of (hRoot : RootC) (hEx : ExportOC) (hVer : VerifyC) : PlayC := playC_ofT (playTC_of hRoot hEx hVer)

end Go.Proofs.YtkjlchfmplcobaeGreatDoor
