/- The walk of the reference's Step where a shard is retired: package yearref5. -/
import Derived.Test.YtkjlchfmplcobaeGreatDoorProg
import Derived.Test.YtkjlchfmplcobaeGreatDoorRunAF
import Derived.Test.YtkjlchfmplcobaeGreatDoorShelfRefVerify
import Derived.WalkKit
import Derived.WalkSpells
import Derived.WalkLawsBesides
import Derived.Deep.RegionHeld3
import Derived.Deep.RegionWith
import Derived.Deep.QuietTactic
import Derived.BigQuiet
import Derived.BigRegion
namespace Go.Proofs.YtkjlchfmplcobaeGreatDoor
open Go.RowKit

set_option maxRecDepth 100000 in
set_option maxHeartbeats 4000000 in
theorem refRetire_any (f : Flt) (d : Dd) (k : Nat) (τ : Nat → Tag) (N gp : Nat) (da : Option Addr) (dc : Nat) (w : World) (hF : RfF τ N w gp f) (hN : N ≤ w.heap.size) (hk : k < f.shards.length) (hst : (f.shards.getD k shd0).state = 3) :
    Calls Tryz.prog 18 #[.pointer (some ⟨gp, 0, none⟩), .agg #[.int .i64 4, .int .i64 (k : Int), .int .i64 d.time, .slice da d.entry.length dc, .int .i64 d.segment, .int .i64 d.at', .int .u8 d.by']] w fun e w' => ∃ av, e = .returned av ∧ RfWent τ N gp w w' av (retireL f k) := by
  have b0 : Below w.heap.size w ((w.alloc (.cells #[.int .i64 4, .int .i64 (k : Int), .int .i64 d.time, .slice da d.entry.length dc, .int .i64 d.segment, .int .i64 d.at', .int .u8 d.by'] 56)).alloc (.cells #[.int .i64 0, .int .i64 0, .int .i64 0, .int .i64 0, .slice none 0 0] 41)) := ((Below.refl _ _).alloc (Nat.le_refl _) _).alloc (by simp) _
  have x0 := box_one w #[.int .i64 4, .int .i64 (k : Int), .int .i64 d.time, .slice da d.entry.length dc, .int .i64 d.segment, .int .i64 d.at', .int .u8 d.by'] 56 (.cells #[.int .i64 0, .int .i64 0, .int .i64 0, .int .i64 0, .slice none 0 0] 41)
  have z0 := box_last w (.cells #[.int .i64 4, .int .i64 (k : Int), .int .i64 d.time, .slice da d.entry.length dc, .int .i64 d.segment, .int .i64 d.at', .int .u8 d.by'] 56) #[.int .i64 0, .int .i64 0, .int .i64 0, .int .i64 0, .slice none 0 0] 41
  have HNO : ∀ (w1 : World) (x : Ans) (u0 u1 u2 u3 u4 : Value), Hid (Below w.heap.size w w1 → x.root = [] → RfWent τ N gp w (((((w1.setCell ⟨w.heap.size + 1, 0, none⟩ u0).setCell ⟨w.heap.size + 1, 1, none⟩ u1).setCell ⟨w.heap.size + 1, 2, none⟩ u2).setCell ⟨w.heap.size + 1, 3, none⟩ u3).setCell ⟨w.heap.size + 1, 4, none⟩ u4) (.agg #[.int .i64 x.err, .int .i64 x.shard, .int .i64 x.place, .int .i64 x.size, .slice none 0 0]) (f, x)) := fun w1 x u0 u1 u2 u3 u4 h1 h2 => rfwent_no hF hN h1 (by omega) h2 _ _ _ _ _
  obtain ⟨sa, sc, ba, bc, V, hB, hS⟩ := hF.open
  have U0 := upd_call (τ := τ) b0 tNo
  have hB0 := hB.upd U0 no_row
  have hS0 := hS.upd U0 no_row
  have K0 := keep_call (τ := τ) b0 hN tNo
  have hR0 : ext τ w.heap.size tNo (w.heap.size + 1) = tNo := ext_new (by omega)
  have hsl : f.shards.length ≤ 9223372036854775807 := by obtain ⟨vs, h1, -⟩ := hS.row; have := own_small h1; unfold maxLen at this; omega
  obtain ⟨g0, g1, -, -⟩ := box_two hB0.box
  obtain ⟨u0, u1, -, -, -, -, -⟩ := box_seven x0
  obtain ⟨sb, rfl, hNs, hsb, htb, hfz, hcs⟩ := (hS0.out k).cells rfl hk
  have q1 : ¬ (k : Int) < 0 := by omega
  have q2 : ¬ (f.shards.length : Int) ≤ (k : Int) := by omega
  have q1' : decide ((k : Int) < 0) = false := decide_eq_false q1
  have q2' : decide ((f.shards.length : Int) ≤ (k : Int)) = false := decide_eq_false q2
  have q3 : (0 : Int) ≤ k := by omega
  have q4 : (k : Int) < f.shards.length := by omega
  have k2 : _ = some (Value.int .i64 (f.shards.getD k shd0).state) := hcs 2 (by omega)
  rw [hst] at k2
  obtain ⟨ra, rc, hVr⟩ := (hS0.root k hk).here.at'.form
  obtain ⟨ga, gc, hVg⟩ := (hS0.seg k hk).form
  have hMan : ManAt _ (.agg #[.int .i64 (f.shards.getD k shd0).man.size, (V k).2.1, (V k).2.2]) (f.shards.getD k shd0).man := ⟨_, _, rfl, (hS0.root k hk).here, (hS0.seg k hk).segs⟩
  have k4 : _ = some (Value.int .i64 (f.shards.getD k shd0).man.size) := hcs 4 (by omega)
  have k5 : _ = some (V k).2.1 := hcs 5 (by omega)
  have k6 : _ = some (V k).2.2 := hcs 6 (by omega)
  have k3 : _ = some (V k).1 := hcs 3 (by omega)
  rw [hVr, hVg] at hMan
  rw [hVr] at k5
  rw [hVg] at k6
  have hVf := fun W (h : Below _ _ W) => refVerify_any _ _ W (hMan.below h)
  have HRL : Hid (retireL f k = if (verifyL (f.shards.getD k shd0).man).2.1 ≠ 0 then (f, no (verifyL (f.shards.getD k shd0).man).2.1) else (⟨f.shards.set k { (f.shards.getD k shd0) with state := 4, entries := [] }, f.book⟩, ⟨0, (k : Int), 0, (f.shards.getD k shd0).man.size, (f.shards.getD k shd0).man.root⟩)) := rfl
  have hmb := (hS0.root k hk).here.bytes
  obtain ⟨X, HX⟩ : ∃ X, Hid (f.shards.getD k shd0 = X) := ⟨_, rfl⟩
  rw [HX.out] at hVr hVg k4 k5 k6 hVf HRL hmb
  generalize retireL f k = RL at *
  generalize hvf : verifyL X.man = VF at *
  obtain ⟨VL, E1, E2⟩ := VF
  dsimp only at HRL hVf
  generalize hT : ext τ w.heap.size tNo = τ1 at *
  clear hF hB hS U0 hMan hcs hvf hst
  by_cases hE : E1 = 0
  · subst hE
    have HE : Hid (RL = (⟨f.shards.set k { X with state := 4, entries := [] }, f.book⟩, ⟨0, (k : Int), 0, X.man.size, X.man.root⟩)) := by show _ = _; rw [HRL.out, if_neg (fun h => h rfl)]
    rw [HE.out]
    clear HE HRL HNO
    go_enter Tryz.func18, Tryz.ntmps18
    go_wp2_with fail
    generalize (w.alloc (.cells #[.int .i64 4, .int .i64 (k : Int), .int .i64 d.time, .slice da d.entry.length dc, .int .i64 d.segment, .int .i64 d.at', .int .u8 d.by'] 56)).alloc (.cells #[.int .i64 0, .int .i64 0, .int .i64 0, .int .i64 0, .slice none 0 0] 41) = w0 at *
    go_quiet (fail)
    have c1 := below_drewN' (Below.refl w0.heap.size w0) nq
    obtain ⟨v0, v1, -, -, -, -, -⟩ := box_seven (box_kept x0 c1)
    obtain ⟨p0, p1, -, -⟩ := box_two (box_kept hB0.box c1)
    generalize w0.drewN nq = wQ at *
    clear u0 u1 g0 g1
    go_wp2_with fail
    go_quiet (fail)
    have c2 := c1.trans ((below_drewN' (Below.refl wQ.heap.size wQ) nq).mono c1.size)
    generalize wQ.drewN nq = wR at *
    have c3 : Below w0.heap.size w0 (wR.alloc (.cells #[.int .i64 0, .int .i64 0, .int .i64 1, .int .i64 2, .int .i64 3, .int .i64 3] 3)) := c2.alloc c2.size _
    obtain ⟨v0, v1, -, -, -, -, -⟩ := box_seven (box_kept x0 c3)
    have j2 := (c3.cell (p := ⟨sb, k * 7 + 2, none⟩) hsb).trans k2
    have six := cell_of_row _ _ 4 _ _ _ (box_new wR #[.int .i64 0, .int .i64 0, .int .i64 1, .int .i64 2, .int .i64 3, .int .i64 3] 3)
    have j4 := (c3.cell (p := ⟨sb, k * 7 + 4, none⟩) hsb).trans k4
    have j5 := (c3.cell (p := ⟨sb, k * 7 + 5, none⟩) hsb).trans k5
    have j6 := (c3.cell (p := ⟨sb, k * 7 + 6, none⟩) hsb).trans k6
    replace hVf := hVf _ c3
    have k2' := k2
    clear k2 p0 p1
    go_wp2_with fail
    generalize wR.alloc (.cells #[.int .i64 0, .int .i64 0, .int .i64 1, .int .i64 2, .int .i64 3, .int .i64 3] 3) = wS at *
    refine hVf.mono ?_
    rintro e w1 ⟨xa, xn, xc, rfl, -, hb1⟩
    have d1 : Below w1.heap.size w1 (w1.alloc (.cells #[.int .i64 0, .int .i64 E2] 31)) := (Below.refl _ _).alloc (Nat.le_refl _) _
    have e1 := c3.trans ((hb1.trans (d1.mono hb1.size)).mono c3.size)
    have hN0 : N ≤ w0.heap.size := Nat.le_trans hN b0.size
    have hS1 := hS0.upd (upd_same e1) no_row
    have hB1 := hB0.upd (upd_same e1) no_row
    have K1 := K0.trans (keep_upd (upd_same e1) hN0 no_row)
    have z1 := box_kept z0 e1
    have x1 := box_kept x0 e1
    have f1 := box_new w1 #[.int .i64 0, .int .i64 E2] 31
    have i2 := (e1.cell (p := ⟨sb, k * 7 + 2, none⟩) hsb).trans k2'
    have i3 := (e1.cell (p := ⟨sb, k * 7 + 3, none⟩) hsb).trans k3
    have i4 := (e1.cell (p := ⟨sb, k * 7 + 4, none⟩) hsb).trans k4
    have i5 := (e1.cell (p := ⟨sb, k * 7 + 5, none⟩) hsb).trans k5
    obtain ⟨sb', e', -, -, -, hfz1, -⟩ := (hS1.out k).cells rfl hk
    cases e'
    have hN1 : N ≤ (w1.alloc (.cells #[.int .i64 0, .int .i64 E2] 31)).heap.size := Nat.le_trans hN0 e1.size
    clear hVf k3 k4 k5 k6 k2' hS0 hB0 K0 hfz d1 v0 v1 j2 j4 j5 j6 six
    obtain ⟨p0, p1, -, -⟩ := box_two f1
    have j2f := hfz1 (k * 7 + 2)
    have j3f := hfz1 (k * 7 + 3)
    have hEnt := hS1.ent k hk
    have hRoo := hS1.root k hk
    have hSeg := hS1.seg k hk
    rw [HX.out] at hEnt hRoo hSeg
    have hS2 := hS1.turn (i := 2) (u := .int .i64 4) (s' := { X with state := 4 }) (v' := V k) rfl hk (by omega) (by rw [HX.out]; rfl) hEnt hRoo hSeg
    have htb1 : τ1 sb = tSh := htb
    have hB2 := hB1.turn (o := k * 7 + 2) (u := .int .i64 4) htb1
    have hN2 : N ≤ ((w1.alloc (.cells #[.int .i64 0, .int .i64 E2] 31)).setCell ⟨sb, k * 7 + 2, none⟩ (.int .i64 4)).heap.size := by simpa using hN1
    have hEn2 := entM_nil τ1 N ((w1.alloc (.cells #[.int .i64 0, .int .i64 E2] 31)).setCell ⟨sb, k * 7 + 2, none⟩ (.int .i64 4)) k
    have ne : ∀ t : Tag, t ≠ tSh → ∀ b, some sb = some b → τ1 b ≠ t := fun t h1 b hb e => by cases hb; exact h1 (e.symm.trans htb1)
    have hRo2 := hRoo.upd (upd_set τ1 _ sb (k * 7 + 2) (.int .i64 4)) (ne _ (by decide))
    have hSe2 := hSeg.upd (upd_set τ1 _ sb (k * 7 + 2) (.int .i64 4)) (ne _ (by simp [tSeg, tSh])) (fun j => ne _ (by simp [tPk, tSh]))
    have hS3 := hS2.turn (i := 3) (u := .slice none 0 0) (s' := { X with state := 4, entries := [] }) (v' := (.slice none 0 0, (V k).2.1, (V k).2.2)) (by rw [List.length_set]) hk (by omega) (by rw [getD_set_same hk, if_pos rfl]; rfl) hEn2 hRo2 hSe2
    rw [List.set_set] at hS3
    have hB3 := hB2.turn (o := k * 7 + 3) (u := .slice none 0 0) htb1
    have K3 := (K1.trans (keep_turn (o := k * 7 + 2) (u := .int .i64 4) hN1 hNs htb1)).trans (keep_turn (o := k * 7 + 3) (u := .slice none 0 0) hN2 hNs htb1)
    have hF3 := hB3.rfF hS3
    have hne : w.heap.size + 1 ≠ sb := fun e => by rw [e, htb1] at hR0; simp [tSh, tNo] at hR0
    have hne0 : w.heap.size ≠ sb := fun e => by
      have : τ1 w.heap.size = tNo := by rw [← hT]; exact ext_new (Nat.le_refl _)
      rw [e, htb1] at this; simp [tSh, tNo] at this
    have z3 := box_set_far (v := .slice none 0 0) (o := k * 7 + 3) (box_set_far (v := .int .i64 4) (o := k * 7 + 2) z1 hne) hne
    have x3 := box_set_far (v := .slice none 0 0) (o := k * 7 + 3) (box_set_far (v := .int .i64 4) (o := k * 7 + 2) x1 hne0) hne0
    have hr3 := hRo2.upd (upd_set τ1 _ sb (k * 7 + 3) (.slice none 0 0)) (ne _ (by decide))
    rw [hVr] at hr3
    have l4 := ((World.cell?_setCell_other _ ⟨sb, k * 7 + 3, none⟩ ⟨sb, k * 7 + 4, none⟩ (.slice none 0 0) (by simp)).trans (World.cell?_setCell_other _ ⟨sb, k * 7 + 2, none⟩ ⟨sb, k * 7 + 4, none⟩ (.int .i64 4) (by simp))).trans i4
    have l5 := ((World.cell?_setCell_other _ ⟨sb, k * 7 + 3, none⟩ ⟨sb, k * 7 + 5, none⟩ (.slice none 0 0) (by simp)).trans (World.cell?_setCell_other _ ⟨sb, k * 7 + 2, none⟩ ⟨sb, k * 7 + 5, none⟩ (.int .i64 4) (by simp))).trans i5
    have HW : Hid (RfWent τ N gp w _ _ _) := rfwent_by (k := (k : Int)) (n := X.man.size) hF3 K3 hN hR0 (by omega) hr3 (.int .i64 0) (.int .i64 (k : Int)) (.int .i64 0) (.int .i64 X.man.size) (.slice ra X.man.root.length rc)
    clear hS1 hB1 K1 hS2 hB2 hEn2 hRo2 hSe2 hS3 hB3 hEnt hRoo hSeg z1 f1 hfz1 hr3 x1
    go_wp2_with fail
    generalize ((w1.alloc (.cells #[.int .i64 0, .int .i64 E2] 31)).setCell ⟨sb, k * 7 + 2, none⟩ (.int .i64 4)).setCell ⟨sb, k * 7 + 3, none⟩ (.slice none 0 0) = W3 at *
    obtain ⟨v0, v1, -, -, -, -, -⟩ := box_seven x3
    obtain ⟨t0, t1, t2, t3, t4⟩ := box_five z3
    obtain ⟨r0, r1, r2, r3, r4⟩ := five_free z3
    obtain ⟨s0, s1, s2, s3, s4⟩ := box_five (five_set z3 (.int .i64 0) (.int .i64 (k : Int)) (.int .i64 0) (.int .i64 X.man.size) (.slice ra X.man.root.length rc))
    clear i2 i3 i4 i5 p0 p1 j2f j3f hF3 K3 z0 x0 x3 z3
    go_region
    all_goals
      go_wp2_with fail
      exact bodyPost_ret (v := .agg #[.int .i64 0, .int .i64 (k : Int), .int .i64 0, .int .i64 X.man.size, .slice ra X.man.root.length rc]) (by simp [results, Tryz.results18, go_sem, s0, s1, s2, s3, s4]) rfl ⟨_, rfl, HW.out.drew hN⟩
  · have HE : Hid (RL = (f, no E1)) := by show _ = _; rw [HRL.out, if_pos hE]
    have hE' : (E1 != 0) = true := by simpa using hE
    rw [HE.out]
    clear HE HRL hE
    go_enter Tryz.func18, Tryz.ntmps18
    go_wp2_with fail
    generalize (w.alloc (.cells #[.int .i64 4, .int .i64 (k : Int), .int .i64 d.time, .slice da d.entry.length dc, .int .i64 d.segment, .int .i64 d.at', .int .u8 d.by'] 56)).alloc (.cells #[.int .i64 0, .int .i64 0, .int .i64 0, .int .i64 0, .slice none 0 0] 41) = w0 at *
    go_quiet (fail)
    have c1 := below_drewN' (Below.refl w0.heap.size w0) nq
    obtain ⟨v0, v1, -, -, -, -, -⟩ := box_seven (box_kept x0 c1)
    obtain ⟨p0, p1, -, -⟩ := box_two (box_kept hB0.box c1)
    generalize w0.drewN nq = wQ at *
    clear u0 u1 g0 g1
    go_wp2_with fail
    go_quiet (fail)
    have c2 := c1.trans ((below_drewN' (Below.refl wQ.heap.size wQ) nq).mono c1.size)
    generalize wQ.drewN nq = wR at *
    have c3 : Below w0.heap.size w0 (wR.alloc (.cells #[.int .i64 0, .int .i64 0, .int .i64 1, .int .i64 2, .int .i64 3, .int .i64 3] 3)) := c2.alloc c2.size _
    obtain ⟨v0, v1, -, -, -, -, -⟩ := box_seven (box_kept x0 c3)
    have j2 := (c3.cell (p := ⟨sb, k * 7 + 2, none⟩) hsb).trans k2
    have six := cell_of_row _ _ 4 _ _ _ (box_new wR #[.int .i64 0, .int .i64 0, .int .i64 1, .int .i64 2, .int .i64 3, .int .i64 3] 3)
    have j4 := (c3.cell (p := ⟨sb, k * 7 + 4, none⟩) hsb).trans k4
    have j5 := (c3.cell (p := ⟨sb, k * 7 + 5, none⟩) hsb).trans k5
    have j6 := (c3.cell (p := ⟨sb, k * 7 + 6, none⟩) hsb).trans k6
    replace hVf := hVf _ c3
    clear k2 p0 p1
    go_wp2_with fail
    generalize wR.alloc (.cells #[.int .i64 0, .int .i64 0, .int .i64 1, .int .i64 2, .int .i64 3, .int .i64 3] 3) = wS at *
    refine hVf.mono ?_
    rintro e w1 ⟨xa, xn, xc, rfl, -, hb1⟩
    have d1 : Below w1.heap.size w1 (w1.alloc (.cells #[.int .i64 E1, .int .i64 E2] 31)) := (Below.refl _ _).alloc (Nat.le_refl _) _
    have e1 := c3.trans ((hb1.trans (d1.mono hb1.size)).mono c3.size)
    obtain ⟨p0, p1, -, -⟩ := box_two (box_new w1 #[.int .i64 E1, .int .i64 E2] 31)
    clear hVf k3 k4 k5 k6 hS0 hB0 K0 hfz d1 v0 v1 j2 j4 j5 j6 six
    go_wp2_with fail
    generalize w1.alloc (.cells #[.int .i64 E1, .int .i64 E2] 31) = W at *
    refine (refNo_any E1 W).mono ?_
    rintro e w2 ⟨rfl, hb2⟩
    have c4 := e1.trans (hb2.mono e1.size)
    have b2 := b0.trans (c4.mono b0.size)
    have z1 := box_kept z0 c4
    obtain ⟨t0, t1, t2, t3, t4⟩ := box_five z1
    obtain ⟨r0, r1, r2, r3, r4⟩ := five_free z1
    obtain ⟨s0, s1, s2, s3, s4⟩ := box_five (five_set z1 (.int .i64 E1) (.int .i64 0) (.int .i64 0) (.int .i64 0) (.slice none 0 0))
    have HG := HNO w2 (no E1) (.int .i64 E1) (.int .i64 0) (.int .i64 0) (.int .i64 0) (.slice none 0 0)
    clear HNO z0 x0 p0 p1
    go_wp2_with fail
    exact bodyPost_ret (v := .agg #[.int .i64 E1, .int .i64 0, .int .i64 0, .int .i64 0, .slice none 0 0]) (by simp [results, Tryz.results18, go_sem, s0, s1, s2, s3, s4]) rfl ⟨_, rfl, HG.out b2 rfl⟩

end Go.Proofs.YtkjlchfmplcobaeGreatDoor
