/- The walk of the law FleetApart, over the faces of package fleet. -/
import Derived.Test.YtkjlchfmplcobagGreatDoorProg
import Derived.Test.YtkjlchfmplcobagGreatDoorFleetShownWalk
import Derived.Test.YtkjlchfmplcobagGreatDoorRunAS
import Derived.WalkKit
import Derived.WalkSpells
import Derived.WalkLawsBesides
import Derived.Deep.QuietTactic
import Derived.BigQuiet
import Derived.Deep.RegionHeld3
import Derived.BigRegion
import Derived.Deep.AppendLies
import Derived.Deep.DeepCutAuto
namespace Go.Proofs.YtkjlchfmplcobagGreatDoor
open Go.RowKit

theorem apart_play {ws : List Win} {l : List Dd} {x y : Dd} {dn : Nat} (h1 : (playF ws (l ++ [x] ++ [y])).1 = 0) (h2 : (playF ws (l ++ [y] ++ [x])).1 = 0) (hx : x.kind = 1) (hy : y.kind = 1) (hn : l.length = dn) (hno : ∀ j, j < ws.length → ¬ ((ws.getD j win0).a ≤ x.time ∧ x.time < (ws.getD j win0).b ∧ (ws.getD j win0).a ≤ y.time ∧ y.time < (ws.getD j win0).b)) :
    (playL ws (l ++ [y] ++ [x])).1 = (playL ws (l ++ [x] ++ [y])).1 ∧ (playL ws (l ++ [x] ++ [y])).2.getD dn ans0 = (playL ws (l ++ [y] ++ [x])).2.getD (dn + 1) ans0 ∧ (playL ws (l ++ [x] ++ [y])).2.getD (dn + 1) ans0 = (playL ws (l ++ [y] ++ [x])).2.getD dn ans0 := by
  rw [(play_ok h1).1, (play_ok h2).1, runL_snoc, runL_snoc, runL_snoc, runL_snoc]
  dsimp only
  have hok := run_ok (start_ok ws) l
  have hne : ∀ k, homeOf (runL (startL ws) l).1.shards x.time = some k → homeOf (runL (startL ws) l).1.shards y.time ≠ some k := fun k hk1 hk2 => by
    obtain ⟨q1, q2, q3⟩ := home_some hk1
    obtain ⟨-, q5, q6⟩ := home_some hk2
    have hkw : k < ws.length := by rw [← hok.len]; exact q1
    have he := hok.each k hkw
    rw [he.from_eq] at q2 q5
    rw [he.to_eq] at q3 q6
    exact hno k hkw ⟨q2, q3, q5, q6⟩
  obtain ⟨e1, e2, e3⟩ := apart hx hy hne
  have hl := runL_length (startL ws) l
  rw [hn] at hl
  have two : ∀ (L : List Ans) (u v : Ans), L.length = dn → (L ++ [u] ++ [v]).getD dn ans0 = u ∧ (L ++ [u] ++ [v]).getD (dn + 1) ans0 = v := fun L u v h => by
    constructor
    · rw [snoc_get, if_pos (by simp; omega), snoc_get, if_neg (by omega), if_pos (by omega)]
    · rw [snoc_get, if_neg (by simp; omega), if_pos (by simp; omega)]
  obtain ⟨a1, a2⟩ := two (runL (startL ws) l).2 (stepL (runL (startL ws) l).1 x).2 (stepL (stepL (runL (startL ws) l).1 x).1 y).2 hl
  obtain ⟨b1, b2⟩ := two (runL (startL ws) l).2 (stepL (runL (startL ws) l).1 y).2 (stepL (stepL (runL (startL ws) l).1 y).1 x).2 hl
  rw [a1, a2, b1, b2]
  exact ⟨e1.symm, e3.symm, e2⟩
set_option maxRecDepth 100000 in
set_option maxHeartbeats 4000000 in
theorem fleetApart_any (hPT : PlayTC) (hPl : PlayC) (hSh : ShowC) (hCh : CheckC) (hHe : BookHeadC) (ws : List Win) (l : List Dd) (x y : Dd) (wa da xa ya : Option Addr) (wn wc dn dc xc yc : Nat) (w : World) (hR : Ready w) (hW : WinsAt w (.slice wa wn wc) ws) (hwn : ws.length = wn) (hD : DosAt w (.slice da dn dc) l) (hn : l.length = dn)
    (hx : Some' w (.slice xa x.entry.length xc) x.entry) (hxf : DdFit x) (hy : Some' w (.slice ya y.entry.length yc) y.entry) (hyf : DdFit y) :
    Calls Tryz.prog 5 #[.slice wa wn wc, .slice da dn dc, .agg (ddV x xa xc).toArray, .agg (ddV y ya yc).toArray] w fun e w' => e = .returned (.bool true) ∧ Below w.heap.size w w' := by
  obtain ⟨i0, hi0, hz0, hz1, hz2⟩ := info_parts Tryz.info56b
  have d0 : Below w.heap.size w ((w.alloc (.cells (ddV x xa xc).toArray 56)).alloc (.cells (ddV y ya yc).toArray 56)) := ((Below.refl _ _).alloc (Nat.le_refl _) _).alloc (by simp) _
  have x0 := box_one w (ddV x xa xc).toArray 56 (.cells (ddV y ya yc).toArray 56)
  have y0 := box_last w (.cells (ddV x xa xc).toArray 56) (ddV y ya yc).toArray 56
  have cA := alive7_any hPl hSh hCh hHe _ (hR.below d0)
  dsimp only [ddV, List.toArray] at x0 y0 d0 cA ⊢
  go_enter Tryz.func5, Tryz.ntmps5
  go_wp2_with fail
  refine cA.mono ?_
  rintro e w1 ⟨rfl, hb1⟩
  have b1 := d0.trans (hb1.mono d0.size)
  have x1 := box_kept x0 hb1
  have y1 := box_kept y0 hb1
  obtain ⟨s0, s1, s2, s3, s4, s5, s6⟩ := box_7 x1
  obtain ⟨t0, t1, t2, t3, t4, t5, t6⟩ := box_7 y1
  have hD1 := hD.below b1
  have hx1 := hx.below b1
  have hy1 := hy.below b1
  clear cA hb1 x0 y0 d0 hSh hCh hHe
  by_cases hk1 : x.kind = 1
  case neg =>
    have hk1' : (x.kind != 1) = true := by simpa using hk1
    clear hk1
    go_wp2_with fail
    go_ret
    exact ⟨rfl, b1⟩
  by_cases hk2 : y.kind = 1
  case neg =>
    have hk2' : (y.kind != 1) = true := by simpa using hk2
    rw [hk1] at s0 x1
    clear hk2
    go_wp2_with fail
    go_ret
    exact ⟨rfl, b1⟩
  by_cases hbig : (118 : Int) < dn
  · rw [hk1] at s0 x1
    rw [hk2] at t0 y1
    go_wp2_with fail
    go_ret
    exact ⟨rfl, b1⟩
  have hn118 : dn ≤ 118 := by omega
  have hPp : ∀ (X Y : Dd) (w0 : World), Below w.heap.size w w0 → ∀ va cp w', Below w0.heap.size w0 w' → DosAt w' (.slice va (dn + 2) cp) (l ++ [X] ++ [Y]) → _ := fun X Y w0 h0 va cp w' h hL => hPT ws (l ++ [X] ++ [Y]) (.slice wa wn wc) (.slice va (dn + 2) cp) w' (hR.below (h0.trans (h.mono h0.size))) (hW.below (h0.trans (h.mono h0.size))) hL
  have b1d : Below w.heap.size w w1.drew := b1.drew
  go_upto_region 5 with fail
  refine ap_region (c := ⟨w1.drew, l, x, y, .slice wa wn wc, da, dn, dc, xa, xc, ya, yc, undef, playF ws (l ++ [x] ++ [y]), (playL ws (l ++ [x] ++ [y])).1, (playL ws (l ++ [x] ++ [y])).2⟩) (s := 34) (d := 9) (x := 6) (y := 7) (bx := w.heap.size) (by' := w.heap.size + 1) (ApOps.of (by kernel_rfl) (by kernel_rfl) (fun i hi => ?_)) ⟨ap_inj (by decide), fun i k h => ?_, fun k hk => ?_, rfl, rfl, rfl, rfl, x1, y1, hD.below b1d, hn, (show dn ≤ 1000 by omega), hx.below b1d, hy.below b1d, hxf, hyf, hPp x y _ b1d⟩ (ap_pw (by decide)) ?_ (by kernel_rfl) w1 rfl
  · match i, hi with
    | 0, _ => exact ⟨_, rfl, rfl, rfl, rfl, by kernel_rfl⟩
    | 1, _ => exact ⟨_, rfl, rfl, rfl, rfl, by kernel_rfl⟩
    | 2, _ => exact ⟨_, rfl, rfl, rfl, rfl, by kernel_rfl⟩
    | 3, _ => exact ⟨_, rfl, rfl, rfl, rfl, by kernel_rfl⟩
    | 4, _ => exact ⟨_, rfl, rfl, rfl, rfl, by kernel_rfl⟩
    | 5, _ => exact ⟨_, rfl, rfl, rfl, rfl, by kernel_rfl⟩
    | 6, _ => exact ⟨_, rfl, rfl, rfl, rfl, by kernel_rfl⟩
    | 7, _ => exact ⟨_, rfl, rfl, rfl, rfl, by kernel_rfl⟩
    | 8, _ => exact ⟨_, rfl, rfl, rfl, rfl, by kernel_rfl⟩
    | 9, _ => exact ⟨_, rfl, rfl, rfl, rfl, by kernel_rfl⟩
    | 10, _ => exact ⟨_, rfl, rfl, rfl, rfl, by kernel_rfl⟩
    | 11, _ => exact ⟨_, rfl, rfl, rfl, rfl, by kernel_rfl⟩
    | 12, _ => exact ⟨_, rfl, rfl, rfl, rfl, by kernel_rfl⟩
    | 13, _ => exact ⟨_, rfl, rfl, rfl, rfl, by kernel_rfl⟩
    | 14, _ => exact ⟨_, rfl, rfl, rfl, rfl, by kernel_rfl⟩
    | 15, _ => exact ⟨_, rfl, rfl, rfl, rfl, by kernel_rfl⟩
    | 16, _ => exact ⟨_, rfl, rfl, rfl, rfl, by kernel_rfl⟩
    | 17, _ => exact ⟨_, rfl, rfl, rfl, rfl, by kernel_rfl⟩
    | q + 18, hq => exact absurd hq (by omega)
  · have := apDst_le h
    simp
    omega
  · rcases hk with rfl | rfl | rfl | rfl <;> decide
  intro σ sa ka aa sc kc ac g13 g14 w5 e11 e16 e13 e14 x13 x14 hF5 hA5 b5'
  simp only [apPut, List.range, List.range.loop, List.filterMap_cons, List.filterMap_nil, apDst, Option.map_some, Option.map_none, setAll, e11, e13, e14, e16]
  clear e11 e13 e14 e16
  generalize σ 0 = v0 at *
  generalize σ 1 = v1 at *
  generalize σ 2 = v2 at *
  generalize σ 3 = v3 at *
  generalize σ 4 = v4 at *
  generalize σ 5 = v5 at *
  generalize σ 6 = v6 at *
  generalize σ 7 = v7 at *
  generalize σ 8 = v8 at *
  generalize σ 9 = v9 at *
  generalize σ 10 = v10 at *
  generalize σ 12 = v12 at *
  clear σ
  simp only [List.setIfInBounds_toArray, List.set_cons_succ, List.set_cons_zero]
  have b5 : Below w.heap.size w w5 := b1d.trans (b5'.mono b1d.size)
  have x5 := box_kept (box_kept x1 (Below.refl _ _).drew) b5'
  have y5 := box_kept (box_kept y1 (Below.refl _ _).drew) b5'
  have b5d : Below w.heap.size w w5.drew := b5.drew
  clear b1d b1 x1 y1 s0 s1 s2 s3 s4 s5 s6 t0 t1 t2 t3 t4 t5 t6 hD1 hx1 hy1 b5'
  go_upto_region 6 with fail
  refine ap_region (c := ⟨w5.drew, l, y, x, .slice wa wn wc, da, dn, dc, ya, yc, xa, xc, undef, playF ws (l ++ [y] ++ [x]), (playL ws (l ++ [y] ++ [x])).1, (playL ws (l ++ [y] ++ [x])).2⟩) (s := 47) (d := 12) (x := 7) (y := 6) (bx := w.heap.size + 1) (by' := w.heap.size) (ApOps.of (by kernel_rfl) (by kernel_rfl) (fun i hi => ?_)) ⟨ap_inj (by decide), fun i k h => ?_, fun k hk => ?_, rfl, rfl, rfl, rfl, y5, x5, hD.below b5d, hn, (show dn ≤ 1000 by omega), hy.below b5d, hx.below b5d, hyf, hxf, hPp y x _ b5d⟩ (ap_pw (by decide)) ?_ (by kernel_rfl) w5 rfl
  · match i, hi with
    | 0, _ => exact ⟨_, rfl, rfl, rfl, rfl, by kernel_rfl⟩
    | 1, _ => exact ⟨_, rfl, rfl, rfl, rfl, by kernel_rfl⟩
    | 2, _ => exact ⟨_, rfl, rfl, rfl, rfl, by kernel_rfl⟩
    | 3, _ => exact ⟨_, rfl, rfl, rfl, rfl, by kernel_rfl⟩
    | 4, _ => exact ⟨_, rfl, rfl, rfl, rfl, by kernel_rfl⟩
    | 5, _ => exact ⟨_, rfl, rfl, rfl, rfl, by kernel_rfl⟩
    | 6, _ => exact ⟨_, rfl, rfl, rfl, rfl, by kernel_rfl⟩
    | 7, _ => exact ⟨_, rfl, rfl, rfl, rfl, by kernel_rfl⟩
    | 8, _ => exact ⟨_, rfl, rfl, rfl, rfl, by kernel_rfl⟩
    | 9, _ => exact ⟨_, rfl, rfl, rfl, rfl, by kernel_rfl⟩
    | 10, _ => exact ⟨_, rfl, rfl, rfl, rfl, by kernel_rfl⟩
    | 11, _ => exact ⟨_, rfl, rfl, rfl, rfl, by kernel_rfl⟩
    | 12, _ => exact ⟨_, rfl, rfl, rfl, rfl, by kernel_rfl⟩
    | 13, _ => exact ⟨_, rfl, rfl, rfl, rfl, by kernel_rfl⟩
    | 14, _ => exact ⟨_, rfl, rfl, rfl, rfl, by kernel_rfl⟩
    | 15, _ => exact ⟨_, rfl, rfl, rfl, rfl, by kernel_rfl⟩
    | 16, _ => exact ⟨_, rfl, rfl, rfl, rfl, by kernel_rfl⟩
    | 17, _ => exact ⟨_, rfl, rfl, rfl, rfl, by kernel_rfl⟩
    | q + 18, hq => exact absurd hq (by omega)
  · have := apDst_le h
    simp
    omega
  · rcases hk with rfl | rfl | rfl | rfl <;> decide
  intro σ sb kb ab sd kd ad g23 g24 w9 e11 e16 e13 e14 x23 x24 hF9 hA9 b9'
  simp only [apPut, List.range, List.range.loop, List.filterMap_cons, List.filterMap_nil, apDst, Option.map_some, Option.map_none, setAll, e11, e13, e14, e16]
  clear e11 e13 e14 e16
  generalize σ 0 = u0 at *
  generalize σ 1 = u1 at *
  generalize σ 2 = u2 at *
  generalize σ 3 = u3 at *
  generalize σ 4 = u4 at *
  generalize σ 5 = u5 at *
  generalize σ 6 = u6 at *
  generalize σ 7 = u7 at *
  generalize σ 8 = u8 at *
  generalize σ 9 = u9 at *
  generalize σ 10 = u10 at *
  generalize σ 12 = u12 at *
  clear σ
  simp only [List.setIfInBounds_toArray, List.set_cons_succ, List.set_cons_zero]
  have b59 : Below w5.heap.size w5 w9 := (Below.refl _ _).drew.trans b9'
  have b9 := b5.trans (b59.mono b5.size)
  have x19 := box_kept x13 b59
  have x29 := box_kept x14 b59
  have hF59 := hF5.below b59
  have hA59 := hA5.below b59
  have xx9 := box_kept x5 b59
  have yy9 := box_kept y5 b59
  have hW9 := hW.below b9
  clear b9' b5d b5 b59 x13 x14 hF5 hA5 x5 y5 hPp hPT hPl hD hx hy hW hxf hyf
  dsimp only at x19 x29 x23 x24 hF9 hA9 hF59 hA59 ⊢
  have hFe : playF ws (l ++ [y] ++ [x]) = playF ws (l ++ [x] ++ [y]) := by unfold playF; simp
  rw [hFe] at x24
  have HAP : Hid ((playF ws (l ++ [x] ++ [y])).1 = 0 → (∀ j, j < wn → ¬ ((ws.getD j win0).a ≤ x.time ∧ x.time < (ws.getD j win0).b ∧ (ws.getD j win0).a ≤ y.time ∧ y.time < (ws.getD j win0).b)) → (playL ws (l ++ [y] ++ [x])).1 = (playL ws (l ++ [x] ++ [y])).1 ∧ (playL ws (l ++ [x] ++ [y])).2.getD dn ans0 = (playL ws (l ++ [y] ++ [x])).2.getD (dn + 1) ans0 ∧ (playL ws (l ++ [x] ++ [y])).2.getD (dn + 1) ans0 = (playL ws (l ++ [y] ++ [x])).2.getD dn ans0) := fun h hno => apart_play h (by rw [hFe]; exact h) hk1 hk2 hn (by rw [hwn]; exact hno)
  have HLN : Hid ((playF ws (l ++ [x] ++ [y])).1 = 0 → (playL ws (l ++ [x] ++ [y])).2.length = dn + 2 ∧ (playL ws (l ++ [y] ++ [x])).2.length = dn + 2) := fun h => by
    rw [(play_ok h).1, (play_ok (ws := ws) (l := l ++ [y] ++ [x]) (by rw [hFe]; exact h)).1, runL_length, runL_length]
    simp [hn]
  generalize playF ws (l ++ [x] ++ [y]) = F at *
  clear hFe
  generalize playL ws (l ++ [x] ++ [y]) = P1 at *
  generalize playL ws (l ++ [y] ++ [x]) = P2 at *
  obtain ⟨F1, F2⟩ := F
  obtain ⟨P1, A1⟩ := P1
  obtain ⟨P2, A2⟩ := P2
  dsimp only at x19 x29 x23 x24 hF9 hA9 hF59 hA59 HAP HLN ⊢
  obtain ⟨f0, f1, -, -⟩ := box_two x29
  obtain ⟨h0, h1, -, -⟩ := box_two x24
  by_cases hF : F1 ≠ 0
  · have hF' : (F1 != 0) = true := by simpa using hF
    clear HAP HLN hF hW9 hF9 hA9 hF59 hA59
    go_wp2_with fail
    go_ret
    exact ⟨rfl, b9⟩
  obtain rfl : F1 = 0 := by simpa using hF
  obtain ⟨hl1, hl2⟩ := HLN.out rfl
  have HAP2 : Hid _ := HAP.out rfl
  rw [hl1] at hA59 ⊢
  rw [hl2] at hA9 ⊢
  have hwm : wn ≤ maxLen := by obtain ⟨_, _, e, g2, g3, -⟩ := hW9; rw [hwn] at e g2; cases e; omega
  unfold maxLen at hwm
  clear HLN HAP hF
  go_wp2_with fail
  clear f0 f1 h0 h1
  go_loopw [74] (fun kv wr => ∃ j : Nat, j ≤ wn ∧ kv = .int .i64 j ∧ Hid (∀ i, i < j → ¬ ((ws.getD i win0).a ≤ x.time ∧ x.time < (ws.getD i win0).b ∧ (ws.getD i win0).a ≤ y.time ∧ y.time < (ws.getD i win0).b)) ∧ Below w9.heap.size w9 wr) (fun kv _ => wn - (intOf kv).toNat)
  case atStart => exact ⟨0, Nat.zero_le _, rfl, fun i hi => absurd hi (Nat.not_lt_zero _), Below.refl _ _⟩
  case round =>
    obtain ⟨wo, rfl⟩ : ∃ x, x = wr := ⟨wr, rfl⟩
    obtain ⟨j, hj, rfl, HNO, hbr⟩ := hrel
    have hsr := hbr.size
    have hbw := b9.trans (hbr.mono b9.size)
    by_cases hlt : j < wn
    · have hlt' : (j : Int) < wn := by omega
      obtain ⟨wa', wc', eW, -, -, -, hWc⟩ := hW9.below hbr
      rw [hwn] at eW hWc
      cases eW
      obtain ⟨gb, go, rfl, hgb, hcs⟩ := hWc.resolve_left (by omega)
      obtain ⟨c0, c1⟩ := hcs j hlt
      have HST : Hid (¬ ((ws.getD j win0).a ≤ x.time ∧ x.time < (ws.getD j win0).b ∧ (ws.getD j win0).a ≤ y.time ∧ y.time < (ws.getD j win0).b) → ∀ i, i < j + 1 → ¬ ((ws.getD i win0).a ≤ x.time ∧ x.time < (ws.getD i win0).b ∧ (ws.getD i win0).a ≤ y.time ∧ y.time < (ws.getD i win0).b)) := fun h i hi => by
        by_cases e : i = j
        · rw [e]; exact h
        · exact HNO.out i (by omega)
      clear hWc hcs HAP2 HNO hF9 hA9 hF59 hA59 hW9
      obtain ⟨U, HU⟩ : ∃ U, Hid (ws.getD j win0 = U) := ⟨_, rfl⟩
      rw [HU.out] at c0 c1 HST
      obtain ⟨Ua, Ub⟩ := U
      dsimp only at c0 c1 HST
      have d10 : Below wo.heap.size wo (wo.alloc (.cells #[.int .i64 Ua, .int .i64 Ub] 57)) := (Below.refl _ _).alloc (Nat.le_refl _) _
      have b10 := hbr.alloc hsr (.cells #[.int .i64 Ua, .int .i64 Ub] 57)
      have bw10 := hbw.trans (d10.mono hbw.size)
      obtain ⟨p0, p1, -, -⟩ := box_two (box_new wo #[.int .i64 Ua, .int .i64 Ub] 57)
      obtain ⟨-, -, s2, -, -, -, -⟩ := box_7 (box_kept (box_kept xx9 hbr) d10)
      obtain ⟨-, -, t2, -, -, -, -⟩ := box_7 (box_kept (box_kept yy9 hbr) d10)
      by_cases k1 : Ua ≤ x.time
      case neg =>
        clear HU
        have H2 : Hid (∀ i, i < j + 1 → ¬ ((ws.getD i win0).a ≤ x.time ∧ x.time < (ws.getD i win0).b ∧ (ws.getD i win0).a ≤ y.time ∧ y.time < (ws.getD i win0).b)) := HST.out (by omega)
        clear HST
        go_wp2_with fail
        go_roundw
        case rel => exact ⟨j + 1, by omega, by go_num, H2, b10⟩
        case measure => simp [intOf]; omega
      by_cases k2 : x.time < Ub
      case neg =>
        clear HU
        have H2 : Hid (∀ i, i < j + 1 → ¬ ((ws.getD i win0).a ≤ x.time ∧ x.time < (ws.getD i win0).b ∧ (ws.getD i win0).a ≤ y.time ∧ y.time < (ws.getD i win0).b)) := HST.out (by omega)
        clear HST
        go_wp2_with fail
        go_roundw
        case rel => exact ⟨j + 1, by omega, by go_num, H2, b10⟩
        case measure => simp [intOf]; omega
      by_cases k3 : Ua ≤ y.time
      case neg =>
        clear HU
        have H2 : Hid (∀ i, i < j + 1 → ¬ ((ws.getD i win0).a ≤ x.time ∧ x.time < (ws.getD i win0).b ∧ (ws.getD i win0).a ≤ y.time ∧ y.time < (ws.getD i win0).b)) := HST.out (by omega)
        clear HST
        go_wp2_with fail
        go_roundw
        case rel => exact ⟨j + 1, by omega, by go_num, H2, b10⟩
        case measure => simp [intOf]; omega
      by_cases k4 : y.time < Ub
      case neg =>
        clear HU
        have H2 : Hid (∀ i, i < j + 1 → ¬ ((ws.getD i win0).a ≤ x.time ∧ x.time < (ws.getD i win0).b ∧ (ws.getD i win0).a ≤ y.time ∧ y.time < (ws.getD i win0).b)) := HST.out (by omega)
        clear HST
        go_wp2_with fail
        go_roundw
        case rel => exact ⟨j + 1, by omega, by go_num, H2, b10⟩
        case measure => simp [intOf]; omega
      clear HST HU
      go_wp2_with fail
      go_ret
      exact ⟨rfl, bw10⟩
    · obtain rfl : j = wn := by omega
      have hnl : ¬ (j : Int) < j := by omega
      obtain ⟨e1, e2, e3⟩ := HAP2.out HNO.out
      subst e1
      obtain ⟨p1, o1, rfl, hp1, hX1⟩ := (hA59.below hbr).get hl1 (show dn < dn + 2 by omega)
      obtain ⟨p1', o1', ee1, -, hX2⟩ := (hA59.below hbr).get hl1 (show dn + 1 < dn + 2 by omega)
      cases ee1
      obtain ⟨p2, o2, rfl, hp2, hY1⟩ := (hA9.below hbr).get hl2 (show dn < dn + 2 by omega)
      obtain ⟨p2', o2', ee2, -, hY2⟩ := (hA9.below hbr).get hl2 (show dn + 1 < dn + 2 by omega)
      cases ee2
      rw [e2] at hX1
      rw [e3] at hX2
      have hFo := hF59.below hbr
      have hFo2 := hF9.below hbr
      have z1 := box_kept x19 hbr
      have z2 := box_kept x23 hbr
      obtain ⟨m0, m1, -, -⟩ := box_two z1
      obtain ⟨n0, n1, -, -⟩ := box_two z2
      generalize A2.getD (dn + 1) ans0 = X1 at *
      generalize A2.getD dn ans0 = X2 at *
      obtain ⟨c0, c1, c2, c3, qa, qc, c4, hq⟩ := hX1
      obtain ⟨d0, d1, d2, d3, ra, rc, d4, hr⟩ := hX2
      obtain ⟨r0, r1, r2, r3, ta, tc, r4, ht⟩ := hY1
      obtain ⟨s0, s1, s2, s3, va, vc, s4, hv⟩ := hY2
      obtain ⟨M, HM⟩ : ∃ M, Hid (dn + 1 = M) := ⟨_, rfl⟩
      obtain ⟨NN, HN⟩ : ∃ NN, Hid (dn + 2 = NN) := ⟨_, rfl⟩
      rw [HM.out] at d0 d1 d2 d3 d4 s0 s1 s2 s3 s4
      rw [HN.out]
      have i1 : (dn : Int) < (NN : Int) := by have := HN.out; omega
      have i2 : (M : Int) < (NN : Int) := by have := HN.out; have := HM.out; omega
      have i3 : (0 : Int) ≤ (M : Int) := by omega
      have i4 : (0 : Int) ≤ (dn : Int) := by omega
      have i5 : IntKind.i64.wrap ((dn : Int) + 1) = (M : Int) := by have := HM.out; rw [IntKind.wrap_i64]; omega
      have k1 : p1 < wo.heap.size := hp1
      have k2 : p2 < wo.heap.size := hp2
      have k3 := lt_heap z1
      have k4 := lt_heap z2
      have hS1 : ∀ w', (Below wo.heap.size wo w' ∧ ∀ b o, b < wo.heap.size → w'.cell? ⟨b, o, none⟩ = wo.cell? ⟨b, o, none⟩) → _ := fun w' h => sameAns_yes X1 (.agg #[.int .i64 X1.err, .int .i64 X1.shard, .int .i64 X1.place, .int .i64 X1.size, .slice qa X1.root.length qc]) (.agg #[.int .i64 X1.err, .int .i64 X1.shard, .int .i64 X1.place, .int .i64 X1.size, .slice va X1.root.length vc]) w' ⟨qa, qc, rfl, hq.below h.1⟩ ⟨va, vc, rfl, hv.below h.1⟩
      have hS2 : ∀ w', (Below wo.heap.size wo w' ∧ ∀ b o, b < wo.heap.size → w'.cell? ⟨b, o, none⟩ = wo.cell? ⟨b, o, none⟩) → _ := fun w' h => sameAns_yes X2 (.agg #[.int .i64 X2.err, .int .i64 X2.shard, .int .i64 X2.place, .int .i64 X2.size, .slice ra X2.root.length rc]) (.agg #[.int .i64 X2.err, .int .i64 X2.shard, .int .i64 X2.place, .int .i64 X2.size, .slice ta X2.root.length tc]) w' ⟨ra, rc, rfl, hr.below h.1⟩ ⟨ta, tc, rfl, ht.below h.1⟩
      have hS3 : ∀ w', (Below wo.heap.size wo w' ∧ ∀ b o, b < wo.heap.size → w'.cell? ⟨b, o, none⟩ = wo.cell? ⟨b, o, none⟩) → _ := fun w' h => sameFleet_yes P2 _ _ w' (hFo.below h.1) (hFo2.below h.1)
      clear HAP2 HNO hq hr ht hv hFo hFo2 hF9 hA9 hF59 hA59 z1 z2 e2 e3 hW9
      generalize X1.root.length = xn at *
      generalize X1.err = xe at *
      generalize X1.shard = xs at *
      generalize X1.place = xp at *
      generalize X1.size = xz at *
      generalize X2.root.length = yn at *
      generalize X2.err = ye at *
      generalize X2.shard = ys at *
      generalize X2.place = yp at *
      generalize X2.size = yz at *
      go_wp2_with fail
      go_region_held3 (fun w' => Below wo.heap.size wo w' ∧ ∀ b o, b < wo.heap.size → w'.cell? ⟨b, o, none⟩ = wo.cell? ⟨b, o, none⟩) (first | (with_reducible assumption) | (with_reducible exact hK) | (with_reducible exact keptB_drew wo)) (first | (go_at_call 11; refine (hS3 _ (by assumption)).mono ?_; rintro e w6 ⟨rfl, hb6⟩; have hK := keptB_below (w0 := wo) (by assumption) hb6) | (go_at_call_of 9 (Value.agg #[Value.int IntKind.i64 xe, Value.int IntKind.i64 xs, Value.int IntKind.i64 xp, Value.int IntKind.i64 xz, Value.slice qa xn qc]); refine (hS1 _ (by assumption)).mono ?_; rintro e w6 ⟨rfl, hb6⟩; have hK := keptB_below (w0 := wo) (by assumption) hb6) | (go_at_call_of 9 (Value.agg #[Value.int IntKind.i64 ye, Value.int IntKind.i64 ys, Value.int IntKind.i64 yp, Value.int IntKind.i64 yz, Value.slice ra yn rc]); refine (hS2 _ (by assumption)).mono ?_; rintro e w6 ⟨rfl, hb6⟩; have hK := keptB_below (w0 := wo) (by assumption) hb6))
      have c6 := hbr.trans (hK.1.mono hsr)
      have b6 := b9.trans (c6.mono b9.size)
      go_wp2_with fail
      go_ret
      exact ⟨rfl, b6⟩

end Go.Proofs.YtkjlchfmplcobagGreatDoor
