/- The walk of the law FleetKeeps, over the faces of packages fleet and clash. -/
import Derived.Test.YtkjlchfmplcobafGreatDoorProg
import Derived.Test.YtkjlchfmplcobafGreatDoorRunAB
import Derived.Test.YtkjlchfmplcobafGreatDoorRunAA
import Derived.Test.YtkjlchfmplcobafGreatDoorFleetShownWalk
import Derived.WalkKit
import Derived.WalkSpells
import Derived.WalkLawsBesides
import Derived.Deep.QuietTactic
import Derived.BigQuiet
namespace Go.Proofs.YtkjlchfmplcobafGreatDoor
open Go.RowKit

/-- What a shard that was retired has, and had. -/
def KeepsAt (ws : List Win) (l : List Dd) (i : Nat) : Prop :=
  playF ws (l.take i) = (0, 0) ∧ ∃ n : Nat, (l.getD i dd0).n = (n : Int) ∧ n < (playL ws l).1.shards.length ∧ n < (playL ws (l.take i)).1.shards.length ∧ ((playL ws l).1.shards.getD n shd0).entries = [] ∧
    ∀ j, j < ((playL ws (l.take i)).1.shards.getD n shd0).entries.length → (showL (playL ws l).1 n j).2 = 0 ∧
      ((showL (playL ws l).1 n j).1.entry ≠ ((playL ws (l.take i)).1.shards.getD n shd0).entries.getD j [] → clashS ((playL ws (l.take i)).1.shards.getD n shd0).entries (showL (playL ws l).1 n j).1.entry j (showL (playL ws l).1 n j).1.path = true)
theorem keepsAt {ws : List Win} {l : List Dd} (h : (playF ws l).1 = 0) {i : Nat} (hi : i < l.length) (hk : (l.getD i dd0).kind = 4) (he : ((playL ws l).2.getD i ans0).err = 0) : KeepsAt ws l i := by
  obtain ⟨e, hw, hl⟩ := play_ok h
  have hp := play_right (l := l.take i) hw (by rw [List.length_take]; omega)
  obtain ⟨e2, -, -⟩ := play_ok (ws := ws) (l := l.take i) (by rw [hp])
  unfold KeepsAt
  rw [e] at he ⊢
  rw [e2]
  obtain ⟨n, h1, h2, h3, h4⟩ := keeps hw l hi hk he
  exact ⟨hp, n, h1, by rw [(run_ok (start_ok ws) l).len]; exact h2, by rw [(run_ok (start_ok ws) (l.take i)).len]; exact h2, h3, h4⟩
set_option maxRecDepth 100000 in
set_option maxHeartbeats 8000000 in
theorem fleetKeeps_any (hPl : PlayC) (hSh : ShowC) (hCh : CheckC) (hHe : BookHeadC) (hCl : ClashStandsC) (ws : List Win) (l : List Dd) (wa da : Option Addr) (wn wc dn dc : Nat) (w : World) (hR : Ready w) (hW : WinsAt w (.slice wa wn wc) ws) (hD : DosAt w (.slice da dn dc) l) (hn : l.length = dn) :
    Calls Tryz.prog 4 #[.slice wa wn wc, .slice da dn dc] w fun e w' => e = .returned (.bool true) ∧ Below w.heap.size w w' := by
  have cA := alive7_any hPl hSh hCh hHe w hR
  have cP := fun w' (h : Below w.heap.size w w') => hPl ws l _ _ w' (hR.below h) (hW.below h) (hD.below h)
  have cQ := fun (k : Nat) (hk : k ≤ dn) w' (h : Below w.heap.size w w') => hPl ws (l.take k) _ (.slice da k dc) w' (hR.below h) (hW.below h) (RowAt.first (hD.below h) hn hk)
  have HP : Hid ((playF ws l).1 = 0 → dn ≤ 120 ∧ (playL ws l).2.length = dn ∧ (wrongWins ws).1 = 0 ∧ FltOk ws (playL ws l).1) := fun h => by
    obtain ⟨e, hw, hl⟩ := play_ok h
    rw [e]
    exact ⟨by omega, by rw [runL_length, hn], hw, run_ok (start_ok ws) l⟩
  have HK : Hid ((playF ws l).1 = 0 → ∀ i, i < dn → (l.getD i dd0).kind = 4 → ((playL ws l).2.getD i ans0).err = 0 → KeepsAt ws l i) := fun h i hi => keepsAt h (by omega)
  have hdc : dn ≤ dc ∧ dc ≤ maxLen := by obtain ⟨a', c', e, h2, h3, -⟩ := hD; cases e; exact ⟨by omega, h3⟩
  unfold maxLen at hdc
  obtain ⟨hdc1, hdc2⟩ := hdc
  clear hW
  unfold KeepsAt at HK
  generalize playF ws l = F at *
  generalize playL ws l = P at *
  obtain ⟨F1, F2⟩ := F
  obtain ⟨P, A⟩ := P
  dsimp only [faultV] at cP HP HK
  go_enter Tryz.func4, Tryz.ntmps4
  go_wp2_with fail
  refine cA.mono ?_
  rintro e w1 ⟨rfl, b1⟩
  clear cA
  go_wp2_with fail
  refine (cP _ b1).mono ?_
  rintro e w2 ⟨fv, av, rfl, ⟨sa, sc, ka, kc, rfl, hS, hB⟩, hA, hb2⟩
  have b2 := b1.trans (hb2.mono b1.size)
  obtain ⟨aa, ac, rfl⟩ := hA.form
  have d3 : Below w2.heap.size w2 ((w2.alloc (.cells #[.slice sa P.shards.length sc, .slice ka P.book.length kc] 28)).alloc (.cells #[.int .i64 F1, .int .i64 F2] 32)) := ((Below.refl _ _).alloc (Nat.le_refl _) _).alloc (by simp) _
  have b3 := b2.trans (d3.mono b2.size)
  have x3 := box_one w2 #[.slice sa P.shards.length sc, .slice ka P.book.length kc] 28 (.cells #[.int .i64 F1, .int .i64 F2] 32)
  obtain ⟨f0, f1, -, -⟩ := box_two (box_last w2 (.cells #[.slice sa P.shards.length sc, .slice ka P.book.length kc] 28) #[.int .i64 F1, .int .i64 F2] 32)
  have hA3 := hA.below d3
  have hS3 := hS.below d3
  have hF3 := FltV.below (w := w2) (f := P) ⟨sa, sc, ka, kc, rfl, hS, hB⟩ d3
  have hD3 := hD.below b3
  clear cP hA hb2 b1 b2 d3 hS hB hD hPl
  by_cases hF : F1 ≠ 0
  · have hF' : (F1 != 0) = true := by simpa using hF
    clear HP HK hF hF3 hA3 hS3 hD3
    go_wp2_with fail
    go_ret
    exact ⟨rfl, b3⟩
  obtain rfl : F1 = 0 := by simpa using hF
  obtain ⟨h120, hAl, hw, hok⟩ := HP.out rfl
  have HK2 : Hid _ := HK.out rfl
  rw [hAl] at hA3 ⊢
  clear HP HK hF
  go_wp2_with fail
  generalize (w2.alloc (.cells #[.slice sa P.shards.length sc, .slice ka P.book.length kc] 28)).alloc (.cells #[.int .i64 0, .int .i64 F2] 32) = w3 at *
  clear f0 f1
  have hs3 := b3.size
  go_loopw [34] (fun kv wr => ∃ q : Nat, q ≤ dn ∧ kv = .int .i64 q ∧ Below w3.heap.size w3 wr) (fun kv _ => dn - (intOf kv).toNat)
  case atStart => exact ⟨0, Nat.zero_le _, rfl, Below.refl _ _⟩
  case round =>
    obtain ⟨wo, rfl⟩ : ∃ x, x = wr := ⟨wr, rfl⟩
    obtain ⟨q, hq, rfl, hbr⟩ := hrel
    have hsr := hbr.size
    have hbw := b3.trans (hbr.mono b3.size)
    by_cases hlt : q < dn
    · have hlt' : (q : Int) < dn := by omega
      have hqc : (q : Int) ≤ dc := by omega
      obtain ⟨p1, o1, rfl, hp1, hX⟩ := (hD3.below hbr).get hn hlt
      obtain ⟨e0, e1, e2, ⟨qa, qc, e3, -⟩, e4, e5, e6, -⟩ := hX
      obtain ⟨p2, o2, rfl, hp2, hY⟩ := (hA3.below hbr).get hAl hlt
      obtain ⟨y0, -, -, -, -⟩ := hY
      have HQ : Hid _ := HK2.out q hlt
      clear HK2 hD3 hA3
      generalize l.getD q dd0 = X at *
      generalize A.getD q ans0 = Z at *
      have hd4 : Below wo.heap.size wo (wo.alloc (.cells #[.int .i64 X.kind, .int .i64 X.n, .int .i64 X.time, .slice qa X.entry.length qc, .int .i64 X.segment, .int .i64 X.at', .int .u8 X.by'] 37)) := (Below.refl _ _).alloc (Nat.le_refl _) _
      have b4 : Below w3.heap.size w3 (wo.alloc (.cells #[.int .i64 X.kind, .int .i64 X.n, .int .i64 X.time, .slice qa X.entry.length qc, .int .i64 X.segment, .int .i64 X.at', .int .u8 X.by'] 37)) := hbr.alloc hsr _
      have z4 := box_new wo #[.int .i64 X.kind, .int .i64 X.n, .int .i64 X.time, .slice qa X.entry.length qc, .int .i64 X.segment, .int .i64 X.at', .int .u8 X.by'] 37
      obtain ⟨t0, t1, t2, t3, t4, t5, t6⟩ := box_7 z4
      replace y0 := (hd4.cell (p := ⟨p2, o2 + q * 5, none⟩) hp2).trans y0
      by_cases hk4 : X.kind = 4
      case neg =>
        have hk4' : (X.kind != 4) = true := by simpa using hk4
        clear HQ hk4 cQ
        go_wp2_with fail
        go_roundw
        case rel => exact ⟨q + 1, by omega, by go_num, b4⟩
        case measure => simp [intOf]; omega
      by_cases hz0 : Z.err = 0
      case neg =>
        have hz0' : (Z.err != 0) = true := by simpa using hz0
        rw [hk4] at e0 t0 t1 t2 t3 t4 t5 t6 b4 z4 y0 hd4
        clear HQ hz0 cQ
        go_wp2_with fail
        go_roundw
        case rel => exact ⟨q + 1, by omega, by go_num, b4⟩
        case measure => simp [intOf]; omega
      obtain ⟨hpl, m, em, hm1, hm2, hem, hall⟩ := HQ.out hk4 hz0
      rw [hk4] at e0 t0 t1 t2 t3 t4 t5 t6 b4 z4 y0 hd4
      rw [em] at e1 t0 t1 t2 t3 t4 t5 t6 b4 z4 y0 hd4
      rw [hz0] at y0
      have cQ4 := cQ q hq _ (b3.trans (b4.mono hs3))
      rw [hpl] at cQ4
      have HALL : Hid _ := hall
      have HEM : Hid _ := hem
      clear hall hem HQ cQ hz0 hk4 em
      generalize playL ws (l.take q) = Q at *
      obtain ⟨Q, B⟩ := Q
      dsimp only [faultV] at cQ4 HALL hm2
      go_wp2_with fail
      generalize wo.alloc (.cells #[.int .i64 4, .int .i64 (m : Int), .int .i64 X.time, .slice qa X.entry.length qc, .int .i64 X.segment, .int .i64 X.at', .int .u8 X.by'] 37) = w4 at *
      refine cQ4.mono ?_
      rintro e w5 ⟨gv, bv, rfl, ⟨sa', sc', ka', kc', rfl, hS', hB'⟩, hB5, hb5⟩
      obtain ⟨ba, bc, rfl⟩ := hB5.form
      have d6 : Below w5.heap.size w5 ((w5.alloc (.cells #[.slice sa' Q.shards.length sc', .slice ka' Q.book.length kc'] 28)).alloc (.cells #[.int .i64 0, .int .i64 0] 32)) := ((Below.refl _ _).alloc (Nat.le_refl _) _).alloc (by simp) _
      have c6 := hb5.trans (d6.mono hb5.size)
      have b6 := b4.trans (c6.mono b4.size)
      have x6 := box_one w5 #[.slice sa' Q.shards.length sc', .slice ka' Q.book.length kc'] 28 (.cells #[.int .i64 0, .int .i64 0] 32)
      obtain ⟨g0, g1, -, -⟩ := box_two x6
      have z6 := box_kept z4 c6
      have hS6 := hS'.below d6
      obtain ⟨t0', t1', -⟩ := box_7 z6
      obtain ⟨p3, o3, rfl, hp3, hV⟩ := hS6.get rfl hm2
      obtain ⟨ea, ec, hent, hLs⟩ := hV.entries
      have hqm : Q.shards.length ≤ maxLen := by obtain ⟨_, _, e, g2, g3, -⟩ := hS6; cases e; omega
      unfold maxLen at hqm
      have hm2' : (m : Int) < Q.shards.length := by omega
      clear cQ4 hS' hB' hB5 hb5 d6 hV hS6 t0 t1 t2 t3 t4 t5 t6 c6 z4 y0 e0 e1 e2 e3 e4 e5 e6
      generalize (Q.shards.getD m shd0).entries = E at *
      have hEl := hLs.len
      have hEm : E.length ≤ maxLen := by have := hLs.cap; have := hLs.room; omega
      unfold maxLen at hEm
      generalize hEn : E.length = en at *
      go_wp2_with fail
      generalize (w5.alloc (.cells #[.slice (some ⟨p3, o3, none⟩) Q.shards.length sc', .slice ka' Q.book.length kc'] 28)).alloc (.cells #[.int .i64 0, .int .i64 0] 32) = w6 at *
      clear g0 g1 t0' t1' hent x6
      have hs6 := b6.size
      have bb6 := b3.trans (b6.mono hs3)
      have xf6 := box_kept x3 b6
      have hF6 := hF3.below b6
      have hS6 := hS3.below b6
      have hPm : P.shards.length ≤ maxLen := by obtain ⟨_, _, e, g2, g3, -⟩ := hS3; cases e; omega
      unfold maxLen at hPm
      have hm1' : (m : Int) < P.shards.length := by omega
      go_loopw [68] (fun kv wr => ∃ j : Nat, j ≤ en ∧ kv = .int .i64 j ∧ Below w6.heap.size w6 wr) (fun kv _ => en - (intOf kv).toNat)
      case atStart => exact ⟨0, Nat.zero_le _, rfl, Below.refl _ _⟩
      case round =>
        obtain ⟨wp, rfl⟩ : ∃ x, x = wr := ⟨wr, rfl⟩
        obtain ⟨j, hj, rfl, hbp⟩ := hrel
        have hsp := hbp.size
        have hbwp := bb6.trans (hbp.mono bb6.size)
        have xfp := box_kept xf6 hbp
        have zp := box_kept z6 hbp
        obtain ⟨u0, u1, -, -⟩ := box_two xfp
        obtain ⟨t0, t1, -⟩ := box_7 zp
        by_cases hlj : j < en
        · have hlj' : (j : Int) < en := by omega
          obtain ⟨r1, r2⟩ := HALL.out j hlj
          have cS := hSh ws P m j (.agg #[.slice sa P.shards.length sc, .slice ka P.book.length kc]) wp hw hok (hR.below hbwp) (hF6.below hbp)
          generalize showL P m j = YY at *
          obtain ⟨S, ze⟩ := YY
          dsimp only at cS r1 r2
          subst r1
          have HR2 : Hid _ := r2
          clear r2 HALL HEM hS6 hF6
          obtain ⟨lb, lo, va, vc, rfl, hcj, hsj⟩ := (hLs.below hbp).get j hlj
          have hLp := hLs.below hbp
          have hlb : lb < wp.heap.size := World.block_lt_of_cell? wp ⟨lb, lo + j, none⟩ hcj
          go_wp2_with fail
          refine cS.mono ?_
          rintro e w7 ⟨sv, rfl, hV, hb7⟩
          obtain ⟨ea1, ec1, pa, pc, ra, rc, ba1, bc1, ha, hc, rfl, hve, hvp, -, -, -⟩ := hV.form
          have d8 : Below w7.heap.size w7 (w7.alloc (.cells #[.slice ea1 S.entry.length ec1, .int .i64 S.place, .int .i64 S.shard, .slice pa S.path.length pc, .int .i64 S.rcd.shard, .int .i64 S.rcd.from', .int .i64 S.rcd.to', .int .i64 S.rcd.size, .slice ra S.rcd.root.length rc, .int .i64 S.row, .slice ba1 S.bookPath.length bc1, .int .i64 S.hsize, .slice ha S.hroot.length hc] 53)) := (Below.refl _ _).alloc (Nat.le_refl _) _
          have c8 := hb7.trans (d8.mono hb7.size)
          have y8 := box_new w7 #[.slice ea1 S.entry.length ec1, .int .i64 S.place, .int .i64 S.shard, .slice pa S.path.length pc, .int .i64 S.rcd.shard, .int .i64 S.rcd.from', .int .i64 S.rcd.to', .int .i64 S.rcd.size, .slice ra S.rcd.root.length rc, .int .i64 S.row, .slice ba1 S.bookPath.length bc1, .int .i64 S.hsize, .slice ha S.hroot.length hc] 53
          have hve8 := hve.below d8
          have hvp8 := hvp.below d8
          have hsj8 := hsj.below c8
          have hcj8 := (c8.cell (p := ⟨lb, lo + j, none⟩) hlb).trans hcj
          have hL8 := hLp.below c8
          have b8 := hbp.trans (c8.mono hsp)
          have hR8 := hR.below (hbwp.trans (c8.mono hbwp.size))
          obtain ⟨v1, v2, v3, v4, v5, v6, v7, v8, v9, v10, v11, v12, v13⟩ := box_13 y8
          clear cS hV hb7 d8 hve hvp hsj hcj hLp c8 u0 u1 t0 t1
          go_wp2_with fail
          generalize w7.alloc (.cells #[.slice ea1 S.entry.length ec1, .int .i64 S.place, .int .i64 S.shard, .slice pa S.path.length pc, .int .i64 S.rcd.shard, .int .i64 S.rcd.from', .int .i64 S.rcd.to', .int .i64 S.rcd.size, .slice ra S.rcd.root.length rc, .int .i64 S.row, .slice ba1 S.bookPath.length bc1, .int .i64 S.hsize, .slice ha S.hroot.length hc] 53) = w8 at *
          have HS : ∀ q, Calls Tryz.prog 13 #[.slice ea1 S.entry.length ec1, .slice va (E.getD j []).length vc] (w8.drewN q) fun e w' => e = .returned (.bool (decide (S.entry = E.getD j []))) ∧ ∃ n, w' = (w8.drewN q).drewN n := fun q => same_any _ _ _ _ _ (hve8.below (below_drewN' (Below.refl _ _) q)).at' (hsj8.below (below_drewN' (Below.refl _ _) q)).at' hve8.short
          by_cases hqe : S.entry = E.getD j []
          · rw [decide_eq_true hqe] at HS
            clear HR2 hqe hve8 hvp8 hsj8 hL8
            generalize S.entry.length = sn at *
            generalize (E.getD j []).length = fn at *
            go_wp2_with fail
            go_quiet ((go_at_call 13; exact Calls.quiet_of (HS _)))
            go_wp2_with fail
            go_roundw
            case rel => exact ⟨j + 1, by omega, by go_num, below_drewN' b8 _⟩
            case measure => simp [intOf]; omega
          · rw [decide_eq_false hqe] at HS
            have hcs := HR2.out hqe
            have cC := fun w' (h : Below w8.heap.size w8 w') => hCl E S.entry j S.path (.slice ea1 S.entry.length ec1) (some ⟨lb, lo, none⟩) en ec pa S.path.length pc w' (hR8.below h) (hL8.below h) (hve8.below h) (hvp8.below h)
            rw [hcs] at cC
            have cU := fun w' v (x : List Int) (h : Below w8.heap.size w8 w') (hx : Some' w' v x) (hx2 : x.length ≤ 1000000) => sum_any x v w' hx.at' (by omega) hx.bytes (hR8.below h).tab (hR8.below h).big
            clear HR2 hqe hcs hve8 hvp8 hsj8 hL8
            generalize S.entry.length = sn at *
            generalize (E.getD j []).length = fn at *
            generalize S.path.length = pn at *
            go_wp2_with fail
            go_quiet ((go_at_call 13; exact Calls.quiet_of (HS _)))
            have d9 : Below w8.heap.size w8 (w8.drewN nq) := below_drewN' (Below.refl _ _) nq
            have y9 := box_kept y8 d9
            obtain ⟨v1', v2', v3', v4', v5', v6', v7', v8', v9', v10', v11', v12', v13'⟩ := box_13 y9
            generalize w8.drewN nq = w9 at *
            clear HS hcj8 v1 v2 v3 v4 v5 v6 v7 v8 v9 v10 v11 v12 v13
            have cC9 := cC _ d9
            go_wp2_with fail
            refine cC9.mono ?_
            rintro e w10 ⟨vx, vy, rfl, ht, hb10⟩
            have d10 := d9.trans (hb10.mono d9.size)
            obtain ⟨x, y, hx, hy, hx2, hy2, hne, -⟩ := ht
            obtain ⟨hne, hsh⟩ := hne rfl
            have sA := same_any x y vx vy w10 hx.at' hy.at' hx.short
            rw [decide_eq_false hne] at sA
            obtain ⟨xA, xC, rfl⟩ := hx.at'.form
            obtain ⟨yA, yC, rfl⟩ := hy.at'.form
            clear cC9 cC hne v1' v2' v3' v4' v5' v6' v7' v8' v9' v10' v11' v12' v13'
            go_wp2_with fail
            refine sA.mono ?_
            rintro e wx ⟨rfl, qa', rfl⟩
            have dx := below_drewN' d10 qa'
            have hxa := hx.below (below_drewN' (Below.refl _ _) qa')
            have hya := hy.below (below_drewN' (Below.refl _ _) qa')
            generalize w10.drewN qa' = wx at *
            have cU1 := cU wx _ x dx hxa hx2
            clear sA hx hy
            go_wp2_with fail
            refine cU1.mono ?_
            rintro e wy ⟨gb, rfl, hob, hbb⟩
            have dy := dx.trans (hbb.mono dx.size)
            have cU2 := cU wy _ y dy (hya.below hbb) hy2
            clear cU1 cU
            go_wp2_with fail
            refine cU2.mono ?_
            rintro e wz ⟨gc, rfl, hoc, hbc⟩
            have dz := dy.trans (hbc.mono dy.size)
            have sB := same_any (shaL x) (shaL y) _ _ wz ((bytesAt_own hob).below (Nat.le_refl _) hbc) (bytesAt_own hoc) (by rw [shaL_len]; unfold maxLen; omega)
            rw [decide_eq_true hsh] at sB
            clear cU2 hob hoc
            go_wp2_with fail
            refine sB.mono ?_
            rintro e wd ⟨rfl, qd, rfl⟩
            have dd := below_drewN' dz qd
            go_wp2_with fail
            go_roundw
            case rel => exact ⟨j + 1, by omega, by go_num, b8.trans (dd.mono b8.size)⟩
            case measure => simp [intOf]; omega
        · obtain rfl : j = en := by omega
          have hnlj : ¬ (j : Int) < j := by omega
          obtain ⟨p4, o4, rfl, hp4, hV4⟩ := (hS6.below hbp).get rfl hm1
          obtain ⟨ea4, ec4, hent4, -⟩ := hV4.entries
          rw [HEM.out] at hent4
          have hbp3 := b6.trans (hbp.mono b6.size)
          clear HALL HEM hV4 hS6 hF6 hLs
          go_wp2_with fail
          go_roundw
          case rel => exact ⟨q + 1, by omega, by go_num, hbp3⟩
          case measure => simp [intOf]; omega
    · obtain rfl : q = dn := by omega
      have hnl : ¬ (q : Int) < q := by omega
      clear HK2
      go_wp2_with fail
      go_ret
      exact ⟨rfl, hbw⟩

end Go.Proofs.YtkjlchfmplcobafGreatDoor
