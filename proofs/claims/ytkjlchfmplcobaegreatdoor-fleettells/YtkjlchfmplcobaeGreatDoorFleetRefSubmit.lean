/- The walk of the reference's Step where an entry comes: package yearref5. -/
import Derived.Test.YtkjlchfmplcobaeGreatDoorProg
import Derived.Test.YtkjlchfmplcobaeGreatDoorRunAF
import Derived.Test.YtkjlchfmplcobaeGreatDoorFleetGoSubmit
import Derived.Test.YtkjlchfmplcobaeGreatDoorFleetRefSubmitTail
import Derived.Test.YtkjlchfmplcobaeGreatDoorRunAS
import Derived.WalkKit
import Derived.WalkSpells
import Derived.WalkLawsBesides
import Derived.Deep.RegionHeld3
import Derived.Deep.RegionWith
import Derived.Deep.Cut
import Derived.Deep.QuietTactic
import Derived.BigQuiet
import Derived.BigRegion
namespace Go.Proofs.YtkjlchfmplcobaeGreatDoor
open Go.RowKit

set_option maxRecDepth 1000000 in
set_option maxHeartbeats 4000000 in
theorem refSubmit_any (f : Flt) (d : Dd) (τ : Nat → Tag) (N gp : Nat) (da : Option Addr) (dc : Nat) (w : World) (hF : RfF τ N w gp f) (hN : N ≤ w.heap.size) (hd : Some' w (.slice da d.entry.length dc) d.entry) (hfew : ∀ k, k < f.shards.length → (f.shards.getD k shd0).entries.length ≤ 100) :
    Calls Tryz.prog 18 #[.pointer (some ⟨gp, 0, none⟩), .agg #[.int .i64 1, .int .i64 d.n, .int .i64 d.time, .slice da d.entry.length dc, .int .i64 d.segment, .int .i64 d.at', .int .u8 d.by']] w fun e w' => ∃ av, e = .returned av ∧ RfWent τ N gp w w' av (submitL f d) := by
  have b0 : Below w.heap.size w ((w.alloc (.cells #[.int .i64 1, .int .i64 d.n, .int .i64 d.time, .slice da d.entry.length dc, .int .i64 d.segment, .int .i64 d.at', .int .u8 d.by'] 56)).alloc (.cells #[.int .i64 0, .int .i64 0, .int .i64 0, .int .i64 0, .slice none 0 0] 41)) := ((Below.refl _ _).alloc (Nat.le_refl _) _).alloc (by simp) _
  have x0 := box_one w #[.int .i64 1, .int .i64 d.n, .int .i64 d.time, .slice da d.entry.length dc, .int .i64 d.segment, .int .i64 d.at', .int .u8 d.by'] 56 (.cells #[.int .i64 0, .int .i64 0, .int .i64 0, .int .i64 0, .slice none 0 0] 41)
  have z0 := box_last w (.cells #[.int .i64 1, .int .i64 d.n, .int .i64 d.time, .slice da d.entry.length dc, .int .i64 d.segment, .int .i64 d.at', .int .u8 d.by'] 56) #[.int .i64 0, .int .i64 0, .int .i64 0, .int .i64 0, .slice none 0 0] 41
  have HNO : ∀ (w1 : World) (x : Ans) (u0 u1 u2 u3 u4 : Value), Hid (Below w.heap.size w w1 → x.root = [] → RfWent τ N gp w (((((w1.setCell ⟨w.heap.size + 1, 0, none⟩ u0).setCell ⟨w.heap.size + 1, 1, none⟩ u1).setCell ⟨w.heap.size + 1, 2, none⟩ u2).setCell ⟨w.heap.size + 1, 3, none⟩ u3).setCell ⟨w.heap.size + 1, 4, none⟩ u4) (.agg #[.int .i64 x.err, .int .i64 x.shard, .int .i64 x.place, .int .i64 x.size, .slice none 0 0]) (f, x)) := fun w1 x u0 u1 u2 u3 u4 h1 h2 => rfwent_no hF hN h1 (by omega) h2 _ _ _ _ _
  obtain ⟨sa, sc, ba, bc, V, hB, hS⟩ := hF.open
  have U0 := upd_call (τ := τ) b0 tNo
  have hB0 := hB.upd U0 no_row
  have hS0 := hS.upd U0 no_row
  have K0 := keep_call (τ := τ) b0 hN tNo
  have hR0 : ext τ w.heap.size tNo (w.heap.size + 1) = tNo := ext_new (by omega)
  have hsl : f.shards.length ≤ 9223372036854775807 := by obtain ⟨vs, h1, -⟩ := hS.row; have := own_small h1; unfold maxLen at this; omega
  have hdl : d.entry.length ≤ 9223372036854775807 := by have := hd.short; unfold maxLen at this; omega
  obtain ⟨g0, g1, -, -⟩ := box_two hB0.box
  obtain ⟨u0, u1, u2, u3, -, -, -⟩ := box_seven x0
  by_cases h200 : 200 < d.entry.length
  · have HE : Hid (submitL f d = (f, no 4)) := by show _ = _; unfold submitL; rw [if_pos h200]
    have h2' : (200 : Int) < d.entry.length := by omega
    rw [HE.out]
    clear HE hF hd hB hS hB0 hS0 K0 U0
    go_enter Tryz.func18, Tryz.ntmps18
    go_wp2_with fail
    generalize (w.alloc (.cells #[.int .i64 1, .int .i64 d.n, .int .i64 d.time, .slice da d.entry.length dc, .int .i64 d.segment, .int .i64 d.at', .int .u8 d.by'] 56)).alloc (.cells #[.int .i64 0, .int .i64 0, .int .i64 0, .int .i64 0, .slice none 0 0] 41) = w0 at *
    refine (refNo_any 4 _).mono ?_
    rintro e w2 ⟨rfl, hb2⟩
    have b2 := b0.trans (hb2.mono b0.size)
    have z1 := box_kept z0 hb2
    obtain ⟨t0, t1, t2, t3, t4⟩ := box_five z1
    obtain ⟨r0, r1, r2, r3, r4⟩ := five_free z1
    have z9 := five_set z1 (.int .i64 4) (.int .i64 0) (.int .i64 0) (.int .i64 0) (.slice none 0 0)
    have HG := HNO w2 (no 4) (.int .i64 4) (.int .i64 0) (.int .i64 0) (.int .i64 0) (.slice none 0 0)
    clear HNO z0 x0 u0 u1 u2 u3 g0 g1
    go_wp2_with fail
    exact bodyPost_ret (refRet rfl z9) rfl ⟨_, rfl, HG.out b2 rfl⟩
  have h2' : ¬ (200 : Int) < d.entry.length := by omega
  have hSh := hS0.shards
  obtain ⟨sa', sc', e, hc1, hc2, -, hSh⟩ := hSh
  cases e
  have H1 : ∀ k : Nat, Hid (k < f.shards.length → ((f.shards.getD k shd0).from' ≤ d.time ∧ d.time < (f.shards.getD k shd0).to') → (∀ j, j < k → ¬ ((f.shards.getD j shd0).from' ≤ d.time ∧ d.time < (f.shards.getD j shd0).to')) → homeOf f.shards d.time = some k) := fun k h1 h2 h3 => idx_home h1 h2 h3
  have H2 : Hid ((∀ j, j < f.shards.length → ¬ ((f.shards.getD j shd0).from' ≤ d.time ∧ d.time < (f.shards.getD j shd0).to')) → homeOf f.shards d.time = none) := fun h => idx_nohome h
  have HSN : Hid (homeOf f.shards d.time = none → submitL f d = (f, no 6)) := fun h => submit_none h200 h
  obtain ⟨SL, HSL⟩ : ∃ SL, Hid (submitL f d = SL) := ⟨_, rfl⟩
  rw [HSL.out] at HSN
  rw [HSL.out]
  clear hF hB hS U0
  obtain ⟨n, HNn⟩ : ∃ n, Hid (f.shards.length = n) := ⟨_, rfl⟩
  rw [HNn.out] at g0 hsl H1 H2 hSh hc1
  go_enter Tryz.func18, Tryz.ntmps18
  go_wp2_with fail
  generalize (w.alloc (.cells #[.int .i64 1, .int .i64 d.n, .int .i64 d.time, .slice da d.entry.length dc, .int .i64 d.segment, .int .i64 d.at', .int .u8 d.by'] 56)).alloc (.cells #[.int .i64 0, .int .i64 0, .int .i64 0, .int .i64 0, .slice none 0 0] 41) = w0 at *
  go_loopw [32] (fun kv wr => ∃ k : Nat, k ≤ n ∧ kv = .int .i64 k ∧ Hid (∀ j, j < k → ¬ ((f.shards.getD j shd0).from' ≤ d.time ∧ d.time < (f.shards.getD j shd0).to')) ∧ Below w0.heap.size w0 wr) (fun kv _ => n - (intOf kv).toNat)
  case atStart => exact ⟨0, Nat.zero_le _, rfl, fun _ hj => absurd hj (Nat.not_lt_zero _), Below.refl _ _⟩
  case round =>
    obtain ⟨wo, rfl⟩ : ∃ x, x = wr := ⟨wr, rfl⟩
    obtain ⟨k, hk, rfl, HO, hbr⟩ := hrel
    have hsr := hbr.size
    have gW := box_kept hB0.box hbr
    rw [HNn.out] at gW
    obtain ⟨p0, p1, -, -⟩ := box_two gW
    obtain ⟨v0, v1, v2, v3, -, -, -⟩ := box_seven (box_kept x0 hbr)
    clear g0 g1 u0 u1 u2 u3
    by_cases hlt : k < n
    · have hlt' : (k : Int) < n := by omega
      have hk0 : (0 : Int) ≤ k := by omega
      have hkl : k < f.shards.length := by rw [HNn.out]; exact hlt
      obtain ⟨sb, rfl, hNs, hsb, htb, hfz, hcs⟩ := (hS0.out k).cells rfl hkl
      have d0 : w0.cell? ⟨sb, k * 7, none⟩ = some (Value.int .i64 (f.shards.getD k shd0).from') := hcs 0 (by omega)
      have d1 : w0.cell? ⟨sb, k * 7 + 1, none⟩ = some (Value.int .i64 (f.shards.getD k shd0).to') := hcs 1 (by omega)
      replace d0 := (hbr.cell (p := ⟨sb, k * 7, none⟩) hsb).trans d0
      replace d1 := (hbr.cell (p := ⟨sb, k * 7 + 1, none⟩) hsb).trans d1
      have HV := H1 k
      have HF : Hid (¬ ((f.shards.getD k shd0).from' ≤ d.time ∧ d.time < (f.shards.getD k shd0).to') → ∀ j, j < k + 1 → ¬ ((f.shards.getD j shd0).from' ≤ d.time ∧ d.time < (f.shards.getD j shd0).to')) := fun h j hj => by
        by_cases e : j = k
        · rw [e]; exact h
        · exact HO.out j (by omega)
      clear hSh H1 H2 HSN hcs
      by_cases qa : d.time < (f.shards.getD k shd0).from'
      · have HF2 : Hid (∀ j, j < k + 1 → ¬ ((f.shards.getD j shd0).from' ≤ d.time ∧ d.time < (f.shards.getD j shd0).to')) := HF.out (fun h => by omega)
        clear HF HV HO
        generalize (f.shards.getD k shd0).from' = XF at *
        generalize (f.shards.getD k shd0).to' = XT at *
        go_wp2_with fail
        go_quiet (fail)
        go_wp2_with fail
        go_roundw
        case rel => exact ⟨k + 1, by omega, by go_num, HF2, below_drewN' hbr _⟩
        case measure => simp [intOf]; omega
      have qa' : decide (d.time < (f.shards.getD k shd0).from') = false := decide_eq_false qa
      by_cases qb : (f.shards.getD k shd0).to' ≤ d.time
      · have HF2 : Hid (∀ j, j < k + 1 → ¬ ((f.shards.getD j shd0).from' ≤ d.time ∧ d.time < (f.shards.getD j shd0).to')) := HF.out (fun h => by omega)
        clear HF HV HO
        generalize (f.shards.getD k shd0).from' = XF at *
        generalize (f.shards.getD k shd0).to' = XT at *
        go_wp2_with fail
        go_quiet (fail)
        go_wp2_with fail
        go_roundw
        case rel => exact ⟨k + 1, by omega, by go_num, HF2, below_drewN' hbr _⟩
        case measure => simp [intOf]; omega
      have qb' : decide ((f.shards.getD k shd0).to' ≤ d.time) = false := decide_eq_false qb
      have HH : Hid (homeOf f.shards d.time = some k) := HV.out hlt ⟨by omega, by omega⟩ HO.out
      clear HF HV HO
      obtain ⟨X, HX⟩ : ∃ X, Hid (f.shards.getD k shd0 = X) := ⟨_, rfl⟩
      rw [HX.out] at d0 d1 qa qa' qb qb'
      go_wp2_with fail
      go_quiet (fail)
      have c1 := below_drewN' hbr nq
      clear d0 d1 v0 v1 v2 v3 p0 p1
      generalize wo.drewN nq = wB at *
      obtain ⟨-, -, -, v3, -, -, -⟩ := box_seven (box_kept x0 c1)
      obtain ⟨sb', e', -, -, -, -, hcs⟩ := (hS0.out k).cells rfl hkl
      cases e'
      have d2 : w0.cell? ⟨sb, k * 7 + 2, none⟩ = some (Value.int .i64 (f.shards.getD k shd0).state) := hcs 2 (by omega)
      have d3 : w0.cell? ⟨sb, k * 7 + 3, none⟩ = some (V k).1 := hcs 3 (by omega)
      have hE0 := hS0.ent k hkl
      obtain ⟨ea, ec, hVe⟩ := hE0.form
      rw [hVe] at d3 hE0
      have hEl := hE0.lists rfl
      have hfk := hfew k hkl
      have d3w := d3
      rw [HX.out] at d3w
      replace d2 := (c1.cell (p := ⟨sb, k * 7 + 2, none⟩) hsb).trans d2
      replace d3 := (c1.cell (p := ⟨sb, k * 7 + 3, none⟩) hsb).trans d3
      rw [HX.out] at d2 d3 hVe hEl hfk
      clear hcs hE0
      by_cases hst : X.state = 1
      · have HSH : ∀ i, Hid (placeOf X.entries d.entry = some i → SL = (f, ⟨0, (k : Int), (i : Int), 0, []⟩)) := fun i h => by rw [← HSL.out]; exact submit_had h200 HH.out (by rw [HX.out]; exact hst) (by rw [HX.out]; exact h)
        have HSF : Hid (placeOf X.entries d.entry = none → 100 ≤ X.entries.length → SL = (f, no 5)) := fun h h1 => by rw [← HSL.out]; exact submit_full h200 HH.out (by rw [HX.out]; exact hst) (by rw [HX.out]; exact h) (by rw [HX.out]; exact h1)
        have HSW : Hid (placeOf X.entries d.entry = none → ¬ 100 ≤ X.entries.length → (⟨f.shards.set k { X with entries := X.entries ++ [d.entry] }, f.book⟩, ⟨0, (k : Int), (X.entries.length : Int), 0, []⟩) = SL) := fun h h1 => by rw [← HSL.out, submit_new h200 HH.out (by rw [HX.out]; exact hst) (by rw [HX.out]; exact h) (by rw [HX.out]; exact h1), HX.out]
        have HPS : ∀ i, Hid (i < X.entries.length → X.entries.getD i [] = d.entry → (∀ j, j < i → ¬ X.entries.getD j [] = d.entry) → placeOf X.entries d.entry = some i) := fun i h1 h2 h3 => idx_place h1 h2 h3
        have HPN : Hid ((∀ j, j < X.entries.length → ¬ X.entries.getD j [] = d.entry) → placeOf X.entries d.entry = none) := fun h => idx_noplace h
        obtain ⟨NE, HNE⟩ : ∃ NE, Hid (X.entries.length = NE) := ⟨_, rfl⟩
        have HVE : Hid _ := hVe
        rw [HNE.out] at d3 hEl hfk d3w
        rw [hst] at d2
        clear hst hVe
        go_wp2_with fail
        go_loopw [69] (fun iv wr => ∃ i : Nat, i ≤ NE ∧ iv = .int .i64 i ∧ Hid (∀ j, j < i → ¬ X.entries.getD j [] = d.entry) ∧ Below w0.heap.size w0 wr) (fun iv _ => NE - (intOf iv).toNat)
        case atStart => exact ⟨0, Nat.zero_le _, rfl, fun _ hj => absurd hj (Nat.not_lt_zero _), c1⟩
        case round =>
          obtain ⟨wi, rfl⟩ : ∃ x, x = wr := ⟨wr, rfl⟩
          obtain ⟨i, hi, rfl, HO2, hbi⟩ := hrel
          clear v3 d2 d3
          obtain ⟨-, v1, -, v3, -, -, -⟩ := box_seven (box_kept x0 hbi)
          have hdi := hd.below (b0.trans (hbi.mono b0.size))
          by_cases hil : i < NE
          · have hil' : (i : Int) < NE := by omega
            have hi0 : (0 : Int) ≤ i := by omega
            obtain ⟨eb, eo, pa, pc, rfl, hc, hPi⟩ := (hEl.below hbi).get i hil
            have hSa := same_any (X.entries.getD i []) d.entry (.slice pa (X.entries.getD i []).length pc) (.slice da d.entry.length dc) wi hPi.at' hdi.at' hPi.short
            by_cases hx : X.entries.getD i [] = d.entry
            · have HE : Hid (SL = (f, ⟨0, (k : Int), (i : Int), 0, []⟩)) := (HSH i).out ((HPS i).out (by rw [HNE.out]; exact hil) hx HO2.out)
              rw [decide_eq_true hx] at hSa
              clear hx HO2 HSH HSF HSW HPS HPN hdi hPi
              generalize X.entries.getD i [] = E at *
              go_wp2_with fail
              refine hSa.mono ?_
              rintro e w5 ⟨rfl, m, rfl⟩
              have c2 := below_drewN' hbi m
              generalize wi.drewN m = w5 at *
              have b2 := b0.trans (c2.mono b0.size)
              have z1 := box_kept z0 c2
              obtain ⟨t0, t1, t2, t3, t4⟩ := box_five z1
              obtain ⟨r0, r1, r2, r3, r4⟩ := five_free z1
              have z9 := five_set z1 (.int .i64 0) (.int .i64 (k : Int)) (.int .i64 (i : Int)) (.int .i64 0) (.slice none 0 0)
              have HG := HNO w5 ⟨0, (k : Int), (i : Int), 0, []⟩ (.int .i64 0) (.int .i64 (k : Int)) (.int .i64 (i : Int)) (.int .i64 0) (.slice none 0 0)
              clear HNO z0 x0 v1 v3 hc hSa
              go_wp2_with fail
              exact bodyPost_ret (refRet rfl z9) rfl ⟨_, rfl, by rw [HE.out]; exact HG.out b2 (by trivial)⟩
            · have HO3 : Hid (∀ j, j < i + 1 → ¬ X.entries.getD j [] = d.entry) := fun j hj => by
                by_cases e : j = i
                · rw [e]; exact hx
                · exact HO2.out j (by omega)
              rw [decide_eq_false hx] at hSa
              clear hx HO2 HSH HSF HSW HPS HPN hdi hPi
              generalize X.entries.getD i [] = E at *
              go_wp2_with fail
              refine hSa.mono ?_
              rintro e w5 ⟨rfl, m, rfl⟩
              go_wp2_with fail
              go_roundw
              case rel => exact ⟨i + 1, by omega, by go_num, HO3, below_drewN' hbi m⟩
              case measure => simp [intOf]; omega
          · obtain rfl : i = NE := by omega
            have hnl : ¬ (i : Int) < i := by omega
            have HPL : Hid (placeOf X.entries d.entry = none) := HPN.out (by rw [HNE.out]; exact HO2.out)
            have d3 : wi.cell? ⟨sb, k * 7 + 3, none⟩ = some (.slice ea i ec) := (hbi.cell (p := ⟨sb, k * 7 + 3, none⟩) hsb).trans d3w
            clear HO2 HSH HPS HPN
            by_cases hfull : 100 ≤ i
            · have hfull' : (100 : Int) ≤ (i : Int) := by omega
              have HE : Hid (SL = (f, no 5)) := HSF.out HPL.out (by rw [HNE.out]; exact hfull)
              clear HSF HSW hEl hdi
              go_wp2_with fail
              refine (refNo_any 5 _).mono ?_
              rintro e w2 ⟨rfl, hb2⟩
              have c2 := hbi.trans (hb2.mono hbi.size)
              have b2 := b0.trans (c2.mono b0.size)
              have z1 := box_kept z0 c2
              obtain ⟨t0, t1, t2, t3, t4⟩ := box_five z1
              obtain ⟨r0, r1, r2, r3, r4⟩ := five_free z1
              have z9 := five_set z1 (.int .i64 5) (.int .i64 0) (.int .i64 0) (.int .i64 0) (.slice none 0 0)
              have HG := HNO w2 (no 5) (.int .i64 5) (.int .i64 0) (.int .i64 0) (.int .i64 0) (.slice none 0 0)
              clear HNO z0 x0 v1 v3 d3
              go_wp2_with fail
              exact bodyPost_ret (refRet rfl z9) rfl ⟨_, rfl, by rw [HE.out]; exact HG.out b2 rfl⟩
            · have hfull' : ¬ (100 : Int) ≤ (i : Int) := by omega
              have HE := HSW.out HPL.out (by rw [HNE.out]; exact hfull)
              rw [HNE.out] at HE
              have HVE2 := HVE.out
              rw [HNE.out] at HVE2
              have HE2 : Hid _ := HE
              clear HE HSF HSW
              go_upto_region 20 with fail
              rename (∀ (a : Act) (w : World), Code.wp _ _ _ a w → _) => hKK
              exact refSubmitTail hKK (stepEnd_in (stepEnd_body _ _ _ _ _ _)) hN (Nat.le_trans hN b0.size) K0 hB0 hS0 hkl HX.out HVE2 HNE.out (by omega) rfl (by omega) (hd.below b0) (ext_new (Nat.le_refl _)) hR0 x0 z0 hbi HE2
      · have hst' : (X.state != 1) = true := by simpa using hst
        have HE : Hid (SL = (f, no 8)) := by show _ = _; rw [← HSL.out]; exact submit_shut h200 HH.out (by rw [HX.out]; exact hst)
        clear hst
        go_wp2_with fail
        refine (refNo_any 8 _).mono ?_
        rintro e w2 ⟨rfl, hb2⟩
        have c2 := c1.trans (hb2.mono c1.size)
        have b2 := b0.trans (c2.mono b0.size)
        have z1 := box_kept z0 c2
        obtain ⟨t0, t1, t2, t3, t4⟩ := box_five z1
        obtain ⟨r0, r1, r2, r3, r4⟩ := five_free z1
        have z9 := five_set z1 (.int .i64 8) (.int .i64 0) (.int .i64 0) (.int .i64 0) (.slice none 0 0)
        have HG := HNO w2 (no 8) (.int .i64 8) (.int .i64 0) (.int .i64 0) (.int .i64 0) (.slice none 0 0)
        clear HNO z0 x0 v3 d2 d3
        go_wp2_with fail
        exact bodyPost_ret (refRet rfl z9) rfl ⟨_, rfl, by rw [HE.out]; exact HG.out b2 rfl⟩
    · obtain rfl : k = n := by omega
      have hnl : ¬ (k : Int) < k := by omega
      have HE : Hid (SL = (f, no 6)) := HSN.out (H2.out HO.out)
      clear H1 H2 HO hSh HSN
      go_wp2_with fail
      refine (refNo_any 6 _).mono ?_
      rintro e w2 ⟨rfl, hb2⟩
      have c2 := hbr.trans (hb2.mono hbr.size)
      have b2 := b0.trans (c2.mono b0.size)
      have z1 := box_kept z0 c2
      obtain ⟨t0, t1, t2, t3, t4⟩ := box_five z1
      obtain ⟨r0, r1, r2, r3, r4⟩ := five_free z1
      have z9 := five_set z1 (.int .i64 6) (.int .i64 0) (.int .i64 0) (.int .i64 0) (.slice none 0 0)
      have HG := HNO w2 (no 6) (.int .i64 6) (.int .i64 0) (.int .i64 0) (.int .i64 0) (.slice none 0 0)
      clear HNO z0 x0 v0 v1 v2 v3 p0 p1
      go_wp2_with fail
      exact bodyPost_ret (refRet rfl z9) rfl ⟨_, rfl, by rw [HE.out]; exact HG.out b2 rfl⟩

end Go.Proofs.YtkjlchfmplcobaeGreatDoor
