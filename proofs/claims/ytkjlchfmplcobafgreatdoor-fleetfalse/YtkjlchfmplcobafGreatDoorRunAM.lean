/- TreeRefSmall, FleetFalseWalk, as one text. -/
import Derived.Test.YtkjlchfmplcobafGreatDoorProg
import Derived.Test.YtkjlchfmplcobafGreatDoorShaRefSum
import Derived.WalkKit
import Derived.WalkSpells
import Derived.WalkLawsBesides
import Derived.Test.YtkjlchfmplcobafGreatDoorRunAA
import Derived.Test.YtkjlchfmplcobafGreatDoorFleetShownWalk
import Derived.OwnWalk
import Derived.Deep.QuietTactic
import Derived.BigQuiet
/- The walks of yearref2's small functions: In, Pair, Split, Good, Ones, Wrong. -/
namespace Go.Proofs.YtkjlchfmplcobafGreatDoor
open Go.RowKit

set_option maxRecDepth 100000 in
theorem in_any (zs : List Int) (v : Value) (w : World) (hv : BytesAt w v zs) (hm : zs.length + 1 ≤ 140737488355328) :
    Calls Tryz.prog 22 #[v] w fun e w' => ∃ x, e = .returned x ∧ w'.ownsRow w.heap.size 5 1 x (1 + zs.length) ((0 :: zs).map (Value.int .u8)) ∧ Below w.heap.size w w' := by
  obtain ⟨va, vc, rfl⟩ := hv.form
  obtain ⟨i0, hi, hz0, hz1, hz2⟩ := info_parts Tryz.info5b
  go_enter Tryz.func22, Tryz.ntmps22
  go_wp2_with (at_builtin; refine wpList_append_bytes rfl (.tmp 3) (.tmp 4) 35 rfl w.heap.size 5 i0 (.int .u8 0) Tryz.underlying35 hi hz0 hz1 hz2 rfl _ 1 [.int .u8 0] rfl (World.ownsRow_lit w #[.int .u8 0] 1 (Nat.le_refl _) (by unfold maxLen; omega) rfl) va _ vc zs rfl (hv.below (Nat.le_refl _) ((Below.refl _ _).alloc (Nat.le_refl _) _)) (by unfold maxLen; omega) (by omega) (by simp) ?_; intro x w2 ho hg)
  go_ret
  exact ⟨x, rfl, ho, ((Below.refl _ _).alloc (Nat.le_refl _) _).grown hg (by simp) (fun q h => Nat.le_of_eq (Option.some.inj h))⟩
end Go.Proofs.YtkjlchfmplcobafGreatDoor

/- The walk of the law FleetFalse, over the faces of packages fleet, book and clash. -/
namespace Go.Proofs.YtkjlchfmplcobafGreatDoor
open Go.RowKit

theorem head_right7 {ws : List Win} {f : Flt} (hw : (wrongWins ws).1 = 0) (h : FltOk ws f) : wrongRecs f.book = (0, 0) ∧ bookSize f.book = (f.book.length : Int) ∧ bookRoot f.book = mth (rowsOf f.book) := by
  have hb := book_right hw h
  exact ⟨hb, by unfold bookSize; rw [hb, if_neg (fun g => g rfl)], by unfold bookRoot; rw [hb, if_neg (fun g => g rfl)]⟩
set_option maxRecDepth 100000 in
set_option maxHeartbeats 4000000 in
theorem fleetFalse_any (hPl : PlayC) (hSh : ShowC) (hCh : CheckC) (hHe : BookHeadC) (hBy : RecBytesC) (hCl : ClashStandsC) (ws : List Win) (l : List Dd) (s : Shw) (wa da : Option Addr) (wn wc dn dc : Nat) (sv : Value) (w : World) (hR : Ready w) (hW : WinsAt w (.slice wa wn wc) ws) (hD : DosAt w (.slice da dn dc) l) (hSv : ShwV w sv s) :
    Calls Tryz.prog 8 #[.slice wa wn wc, .slice da dn dc, sv] w fun e w' => e = .returned (.bool true) ∧ Below w.heap.size w w' := by
  obtain ⟨i0, hi0, hz0, hz1, hz2⟩ := info_parts Tryz.info35b
  obtain ⟨sea, sec, spa, spc, sra, src, sba, sbc, sha, shc, rfl, -⟩ := hSv.form
  have d0 : Below w.heap.size w (w.alloc (.cells #[.slice sea s.entry.length sec, .int .i64 s.place, .int .i64 s.shard, .slice spa s.path.length spc, .int .i64 s.rcd.shard, .int .i64 s.rcd.from', .int .i64 s.rcd.to', .int .i64 s.rcd.size, .slice sra s.rcd.root.length src, .int .i64 s.row, .slice sba s.bookPath.length sbc, .int .i64 s.hsize, .slice sha s.hroot.length shc] 53)) := (Below.refl _ _).alloc (Nat.le_refl _) _
  have x0 := box_new w #[.slice sea s.entry.length sec, .int .i64 s.place, .int .i64 s.shard, .slice spa s.path.length spc, .int .i64 s.rcd.shard, .int .i64 s.rcd.from', .int .i64 s.rcd.to', .int .i64 s.rcd.size, .slice sra s.rcd.root.length src, .int .i64 s.row, .slice sba s.bookPath.length sbc, .int .i64 s.hsize, .slice sha s.hroot.length shc] 53
  have cA := alive7_any hPl hSh hCh hHe _ (hR.below d0)
  have cP := fun w' (h : Below w.heap.size w w') => hPl ws l _ _ w' (hR.below h) (hW.below h) (hD.below h)
  have HP : Hid ((playF ws l).1 = 0 → (wrongWins ws).1 = 0 ∧ FltOk ws (playL ws l).1) := fun h => by
    obtain ⟨e, hw, -⟩ := play_ok h
    rw [e]
    exact ⟨hw, run_ok (start_ok ws) l⟩
  clear hD hW hPl hSh
  generalize playF ws l = F at *
  generalize playL ws l = P at *
  obtain ⟨F1, F2⟩ := F
  obtain ⟨P, A⟩ := P
  dsimp only [faultV] at cP HP
  go_enter Tryz.func8, Tryz.ntmps8
  go_wp2_with fail
  refine cA.mono ?_
  rintro e w1 ⟨rfl, hb1⟩
  have b1 := d0.trans (hb1.mono d0.size)
  have x1 := box_kept x0 hb1
  clear cA hb1 x0 d0
  go_wp2_with fail
  refine (cP _ b1).mono ?_
  rintro e w2 ⟨fv, av, rfl, ⟨sa, sc, ka, kc, rfl, hS, hB⟩, hA, hb2⟩
  have b2 := b1.trans (hb2.mono b1.size)
  obtain ⟨aa, ac, rfl⟩ := hA.form
  have d3 : Below w2.heap.size w2 ((w2.alloc (.cells #[.slice sa P.shards.length sc, .slice ka P.book.length kc] 28)).alloc (.cells #[.int .i64 F1, .int .i64 F2] 32)) := ((Below.refl _ _).alloc (Nat.le_refl _) _).alloc (by simp) _
  have b3 := b2.trans (d3.mono b2.size)
  have y3 := box_one w2 #[.slice sa P.shards.length sc, .slice ka P.book.length kc] 28 (.cells #[.int .i64 F1, .int .i64 F2] 32)
  obtain ⟨f0, f1, -, -⟩ := box_two (box_last w2 (.cells #[.slice sa P.shards.length sc, .slice ka P.book.length kc] 28) #[.int .i64 F1, .int .i64 F2] 32)
  have x3 := box_kept (box_kept x1 hb2) d3
  have hS3 := hS.below d3
  have hB3 := hB.below d3
  clear cP hA hb2 b1 b2 d3 hS hB x1
  by_cases hF : F1 ≠ 0
  · have hF' : (F1 != 0) = true := by simpa using hF
    clear HP hF hS3 hB3
    go_wp2_with fail
    go_ret
    exact ⟨rfl, b3⟩
  obtain rfl : F1 = 0 := by simpa using hF
  obtain ⟨hw, hok⟩ := HP.out rfl
  obtain ⟨p1, p2, p3⟩ := head_right7 hw hok
  have hmp := mth_length (rowsOf P.book)
  have cH := hHe P.book _ _ (hR.below b3) hB3
  rw [p1, p2, p3, hmp] at cH
  dsimp only [faultV] at cH
  obtain ⟨g0, g1, -, -⟩ := box_two y3
  clear HP hF hHe
  go_wp2_with fail
  generalize (w2.alloc (.cells #[.slice sa P.shards.length sc, .slice ka P.book.length kc] 28)).alloc (.cells #[.int .i64 0, .int .i64 F2] 32) = w3 at *
  refine cH.mono ?_
  rintro e w4 ⟨ta, tc, rfl, ht, hb4⟩
  have d5 : Below w4.heap.size w4 ((w4.alloc (.cells #[.int .i64 (P.book.length : Int), .slice ta 32 tc] 39)).alloc (.cells #[.int .i64 0, .int .i64 0] 32)) := ((Below.refl _ _).alloc (Nat.le_refl _) _).alloc (by simp) _
  have c5 := hb4.trans (d5.mono hb4.size)
  have b5 := b3.trans (c5.mono b3.size)
  have z5 := box_one w4 #[.int .i64 (P.book.length : Int), .slice ta 32 tc] 39 (.cells #[.int .i64 0, .int .i64 0] 32)
  have f5 := box_last w4 (.cells #[.int .i64 (P.book.length : Int), .slice ta 32 tc] 39) #[.int .i64 0, .int .i64 0] 32
  have x5 := box_kept x3 c5
  have y5 := box_kept y3 c5
  have hS5 := hS3.below c5
  have hB5 := hB3.below c5
  have ht5 := ht.below d5
  obtain ⟨k0, k1, -, -⟩ := box_two z5
  obtain ⟨m0, m1, -, -⟩ := box_two f5
  obtain ⟨v0, v1, v2, v3, v4, v5, v6, v7, v8, v9, v10, v11, v12⟩ := box_13 x5
  have cC := hCh s (P.book.length : Int) (mth (rowsOf P.book)) (.agg #[.slice sea s.entry.length sec, .int .i64 s.place, .int .i64 s.shard, .slice spa s.path.length spc, .int .i64 s.rcd.shard, .int .i64 s.rcd.from', .int .i64 s.rcd.to', .int .i64 s.rcd.size, .slice sra s.rcd.root.length src, .int .i64 s.row, .slice sba s.bookPath.length sbc, .int .i64 s.hsize, .slice sha s.hroot.length shc]) (.slice ta 32 tc) _ (hR.below b5) (hSv.below b5) ht5
  have HFR : Hid (checkL s (P.book.length : Int) (mth (rowsOf P.book)) = true → _) := false_row hw hok
  clear cH ht hb4 d5 c5 x3 y3 hS3 hB3 b3 g0 g1 f0 f1 hCh p2 p3
  go_wp2_with fail
  generalize (w4.alloc (.cells #[.int .i64 (P.book.length : Int), .slice ta 32 tc] 39)).alloc (.cells #[.int .i64 0, .int .i64 0] 32) = w5 at *
  refine cC.mono ?_
  rintro e w6 ⟨rfl, hb6⟩
  have b6 := b5.trans (hb6.mono b5.size)
  obtain ⟨n0, n1, -, -⟩ := box_two (box_kept f5 hb6)
  have x6 := box_kept x5 hb6
  have y6 := box_kept y5 hb6
  have hS6 := hS5.below hb6
  have hB6 := hB5.below hb6
  clear cC k0 k1 m0 m1 v0 v1 v2 v3 v4 v5 v6 v7 v8 v9 v10 v11 v12 z5 f5 x5 y5 hS5 hB5 ht5 hb6 b5
  cases hck : checkL s (P.book.length : Int) (mth (rowsOf P.book)) with
  | false =>
    clear HFR
    go_wp2_with fail
    go_ret
    exact ⟨rfl, b6⟩
  | true =>
    obtain ⟨hwr, hr0, hr1, hcl1, hin1⟩ := HFR.out hck
    have HC1 : Hid _ := hcl1
    have HI1 : Hid _ := hin1
    clear HFR hck hcl1 hin1
    have hpm : P.book.length ≤ maxLen := by obtain ⟨_, _, e, g2, g3, -⟩ := hB6; cases e; omega
    unfold maxLen at hpm
    have hb0 : (wrongRecs P.book).1 = 0 := by rw [p1]
    have h8 : P.book.length ≤ 8 := Nat.le_trans (book_few hok) (wrongWins_ok hw).1
    have HWR : Hid (∀ j, j < P.book.length → wrongRec (P.book.getD j rec0) = 0) := (wrongRecs_ok hb0).2
    have hrl := rows_length P.book
    have HRB : Hid (∀ x ∈ rowsOf P.book, Bytes x) := fun x hx => by
      obtain ⟨j, hj, rfl⟩ := List.mem_iff_getElem.1 hx
      have := rows_bytes hb0 hB6.bytes j
      rwa [List.getD_eq_getElem?_getD, List.getElem?_eq_getElem hj] at this
    have HRS : Hid (∀ j, ((rowsOf P.book).getD j []).length ≤ maxLen) := fun j => by have := rows_short hb0 j; unfold maxLen; omega
    obtain ⟨g0, g1, -, -⟩ := box_two y6
    go_wp2_with fail
    clear g0 g1 n0 n1
    have hs6 := b6.size
    go_loopw [12, 60] (fun ov kv wr => ∃ (k : Nat) (va : Option Addr) (vc : Nat) (vs : List Value), k ≤ P.book.length ∧ kv = .int .i64 k ∧ ov = .slice va k vc ∧ wr.ownsRow w6.heap.size 35 1 (.slice va k vc) k vs ∧ OwnEls wr w6.heap.size vs ((rowsOf P.book).take k) ∧ Below w6.heap.size w6 wr) (fun _ kv _ => P.book.length - (intOf kv).toNat)
    case atStart => exact ⟨0, none, 0, [], Nat.zero_le _, rfl, rfl, World.ownsRow_nil _ _ _ _, fun _ hj => absurd hj (by simp), Below.refl _ _⟩
    case round =>
      obtain ⟨wo, rfl⟩ : ∃ x, x = wr := ⟨wr, rfl⟩
      obtain ⟨k, va, vc, vs, hk, rfl, rfl, hrow, hels, hbr⟩ := hrel
      have hsr := hbr.size
      by_cases hlt : k < P.book.length
      · have hlt' : (k : Int) < P.book.length := by omega
        obtain ⟨ka', kc', eB, -, -, -, hBc⟩ := hB6.below hbr
        cases eB
        obtain ⟨g, o, rfl, hg, hcs⟩ := hBc.resolve_left (by omega)
        obtain ⟨c0, c1, c2, c3, qa, qc, c4, hroot⟩ := hcs k hlt
        have HS : Hid ((rowsOf P.book).take (k + 1) = (rowsOf P.book).take k ++ [rowL (P.book.getD k rec0)]) := refRows_snoc (by omega)
        have hwk := HWR.out k hlt
        have h40 := row_length hwk
        have hE : bytesE (P.book.getD k rec0) = rowL (P.book.getD k rec0) := by unfold bytesE; rw [if_neg (fun e => e hwk)]
        have hrt : ((rowsOf P.book).take k).length = k := by rw [List.length_take]; omega
        clear hBc hcs HWR HC1 HI1 HRB HRS
        generalize (rowsOf P.book).take k = done at *
        generalize P.book.getD k rec0 = R at *
        have d7 : Below wo.heap.size wo (wo.alloc (.cells #[.int .i64 R.shard, .int .i64 R.from', .int .i64 R.to', .int .i64 R.size, .slice qa R.root.length qc] 51)) := (Below.refl _ _).alloc (Nat.le_refl _) _
        have y7 := box_new wo #[.int .i64 R.shard, .int .i64 R.from', .int .i64 R.to', .int .i64 R.size, .slice qa R.root.length qc] 51
        have cW := hBy R (.agg #[.int .i64 R.shard, .int .i64 R.from', .int .i64 R.to', .int .i64 R.size, .slice qa R.root.length qc]) (wo.alloc (.cells #[.int .i64 R.shard, .int .i64 R.from', .int .i64 R.to', .int .i64 R.size, .slice qa R.root.length qc] 51)) ⟨qa, qc, rfl, hroot.below d7⟩
        rw [hwk, hE] at cW
        obtain ⟨s0, s1, s2, s3, s4⟩ := box_five y7
        have b7 := hbr.trans (d7.mono hsr)
        have hrow7 := own_below hrow d7 (Nat.le_refl _)
        have hels7 := hels.below d7 (Nat.le_refl _)
        clear hrow hels hroot y7 hwk hE
        go_wp2_with fail
        generalize wo.alloc (.cells #[.int .i64 R.shard, .int .i64 R.from', .int .i64 R.to', .int .i64 R.size, .slice qa R.root.length qc] 51) = w7 at *
        refine cW.mono ?_
        rintro e w8 ⟨xa, xn, xc, rfl, hx, hb8⟩
        have b8 := b7.trans (hb8.mono b7.size)
        have hrow8 := own_below hrow7 hb8 (Nat.le_refl _)
        have hels8 := hels7.below hb8 (Nat.le_refl _)
        obtain rfl : xn = 40 := by have := hx.1; rw [List.length_map, h40] at this; omega
        have hvl : vs.length = done.length := by rw [hrt]; simpa using hrow8.1
        have hy : w8.ownsRow w6.heap.size 5 1 (.slice xa 40 xc) (rowL R).length ((rowL R).map (Value.int .u8)) := by rw [h40]; exact ownsRow_base hx b7.size
        have hsn := (hels8.snoc hvl hy).alloc (.cells #[.slice xa 40 xc] 35)
        have hrowA := hrow8.alloc (.cells #[.slice xa 40 xc] 35)
        have hnew := cell_one_new w8 (.slice xa 40 xc) 35
        have bA : Below w6.heap.size w6 (w8.alloc (.cells #[.slice xa 40 xc] 35)) := b8.alloc b8.size _
        have hsA := bA.size
        clear cW s0 s1 s2 s3 s4 c0 c1 c2 c3 c4 hrow7 hels7 hx hy hrow8 hels8
        go_wp2_with (at_builtin; refine wpList_append_own _ rfl (.tmp 71) (.tmp 73) 44 rfl w6.heap.size 35 i0 _ 1 24 Tryz.underlying44 hi0 hz0 hz1 hz2 rfl (by decide) _ _ _ rfl hrowA _ 1 1 [.slice xa 40 xc] rfl rfl hnew (by intro u hu; simp at hu; subst hu; rfl) (by unfold maxLen; omega) (by omega) hsA ?_; intro v9 w9 ho9 hg9 _; obtain ⟨ua, uc, rfl⟩ := own_form' ho9)
        have b9 : Below w6.heap.size w6 w9 := bA.grown hg9 hsA (fun _ h => own_block hrowA h)
        have hels9 := hsn.kept hrowA hg9
        go_roundw
        case rel => exact ⟨k + 1, ua, uc, _, by omega, by go_num, rfl, ho9, by rw [HS.out]; exact hels9, b9⟩
        case measure => simp [intOf]; omega
      · obtain rfl : k = P.book.length := by omega
        have hnl : ¬ (P.book.length : Int) < P.book.length := by omega
        rw [List.take_of_length_le (by omega)] at hels
        have hO : OwnParts wo w6.heap.size (.slice va P.book.length vc) (rowsOf P.book) := ⟨vs, by rw [hrl]; exact hrow, hels⟩
        have hLo := hO.lists HRB.out HRS.out
        have hbw := b6.trans (hbr.mono b6.size)
        have xo := box_kept x6 hbr
        have yo := box_kept y6 hbr
        have hSo := hS6.below hbr
        have hSvo := hSv.below hbw
        obtain ⟨sea', sec', spa', spc', sra', src', sba', sbc', sha', shc', eV, he1, he2, he3, he4, -⟩ := hSvo.form
        cases eV
        have hRo := hR.below hbw
        have h40 := row_length hwr
        have hE : bytesE s.rcd = rowL s.rcd := by unfold bytesE; rw [if_neg (fun e => e hwr)]
        have cM := hBy s.rcd (.agg #[.int .i64 s.rcd.shard, .int .i64 s.rcd.from', .int .i64 s.rcd.to', .int .i64 s.rcd.size, .slice sra s.rcd.root.length src]) wo ⟨sra, src, rfl, he3⟩
        rw [hwr, hE] at cM
        obtain ⟨v0, v1, v2, v3, v4, v5, v6, v7, v8, v9, v10, v11, v12⟩ := box_13 xo
        obtain ⟨r, hr⟩ := Int.eq_ofNat_of_zero_le hr0
        rw [hr] at v9 xo hr1 HC1
        have hrlt : r < P.book.length := by omega
        have hr2 : ¬ ((r : Int) < 0) := by omega
        have hr3 : ¬ ((P.book.length : Int) ≤ r) := by omega
        have hr4 : (r : Int) < P.book.length := by omega
        rw [hr, Int.toNat_natCast] at HI1
        rw [Int.toNat_natCast] at HC1
        clear hrow hels hO HWR HRB HRS hE x6 y6 hS6 hB6 hr0 hr
        go_wp2_with fail
        refine cM.mono ?_
        rintro e w7 ⟨xa, xn, xc, rfl, hx, hb7⟩
        obtain rfl : xn = 40 := by have := hx.1; rw [List.length_map, h40] at this; omega
        have c7 := hbw.trans (hb7.mono hbw.size)
        have x7 := box_kept xo hb7
        have y7 := box_kept yo hb7
        have hS7 := hSo.below hb7
        have hL7 := hLo.below hb7
        have hR7 := hRo.below hb7
        have hm7 : Some' w7 (.slice xa 40 xc) (rowL s.rcd) := ⟨bytesAt_own hx, row_bytes hwr he3.bytes, by rw [h40]; unfold maxLen; omega⟩
        have q1 := he1.below hb7
        have q2 := he2.below hb7
        have q4 := he4.below hb7
        clear cM v0 v1 v2 v3 v4 v5 v6 v7 v8 v9 v10 v11 v12 xo yo hSo hLo hRo hx he1 he2 he3 he4 hb7 hSvo hbw
        obtain ⟨v0, v1, v2, v3, v4, v5, v6, v7, v8, v9, v10, v11, v12⟩ := box_13 x7
        obtain ⟨lb, lo, va1, vc1, rfl, hcj, hsj⟩ := hL7.get r (by omega)
        have sM := same_any ((rowsOf P.book).getD r []) (rowL s.rcd) (.slice va1 ((rowsOf P.book).getD r []).length vc1) (.slice xa 40 xc) w7 hsj.at' hm7.at' hsj.short
        have cU := fun w' v (x : List Int) (h : Below w7.heap.size w7 w') (hx : Some' w' v x) (hx2 : x.length ≤ 1000000) => sum_any x v w' hx.at' (by omega) hx.bytes (hR7.below h).tab (hR7.below h).big
        by_cases heq : (rowsOf P.book).getD r [] = rowL s.rcd
        case neg =>
          have hcs := HC1.out heq
          rw [decide_eq_false heq] at sM
          have cC := fun w' (h : Below w7.heap.size w7 w') => hCl (rowsOf P.book) (rowL s.rcd) r s.bookPath (.slice xa 40 xc) (some ⟨lb, lo, none⟩) P.book.length vc sba s.bookPath.length sbc w' (hR7.below h) (hL7.below h) (hm7.below h) (q4.below h)
          rw [hcs] at cC
          clear HC1 HI1 heq hcs hsj hL7 hm7 q1 q2 q4 hS7
          generalize ((rowsOf P.book).getD r []).length = rn at *
          go_wp2_with fail
          refine sM.mono ?_
          rintro e w8 ⟨rfl, q8, rfl⟩
          have dC : Below w7.heap.size w7 (w7.drewN q8) := below_drewN' (Below.refl _ _) q8
          have cC8 := cC _ dC
          obtain ⟨w0', w1', w2', w3', w4', w5', w6', w7', w8', w9', w10', w11', w12'⟩ := box_13 (box_kept x7 dC)
          clear sM cC v0 v1 v2 v3 v4 v5 v6 v7 v8 v9 v10 v11 v12 hcj
          generalize w7.drewN q8 = w8 at *
          go_wp2_with fail
          refine cC8.mono ?_
          rintro e w20 ⟨vx, vy, rfl, htd, hb20⟩
          have d20 := dC.trans (hb20.mono dC.size)
          obtain ⟨x, y, hx, hy, hx2, hy2, hne, -⟩ := htd
          obtain ⟨hne, hsh⟩ := hne rfl
          have sA := same_any x y vx vy w20 hx.at' hy.at' hx.short
          rw [decide_eq_false hne] at sA
          obtain ⟨xA, xC, rfl⟩ := hx.at'.form
          obtain ⟨yA, yC, rfl⟩ := hy.at'.form
          clear hne
          go_wp2_with fail
          refine sA.mono ?_
          rintro e wx ⟨rfl, qa', rfl⟩
          have dx := below_drewN' d20 qa'
          have hxa := hx.below (below_drewN' (Below.refl _ _) qa')
          have hya := hy.below (below_drewN' (Below.refl _ _) qa')
          generalize w20.drewN qa' = wx at *
          have cU1 := cU wx _ x dx hxa hx2
          clear sA hx hy
          go_wp2_with fail
          refine cU1.mono ?_
          rintro e wy ⟨gb, rfl, hob, hbb⟩
          have dy := dx.trans (hbb.mono dx.size)
          have hxy := hxa.below hbb
          have cU2 := cU wy _ y dy (hya.below hbb) hy2
          clear cU1 cU
          go_wp2_with fail
          refine cU2.mono ?_
          rintro e wz ⟨gc, rfl, hoc, hbc⟩
          have dz := dy.trans (hbc.mono dy.size)
          have hxz := hxy.below hbc
          have sB := same_any (shaL x) (shaL y) _ _ wz ((bytesAt_own hob).below (Nat.le_refl _) hbc) (bytesAt_own hoc) (by rw [shaL_len]; unfold maxLen; omega)
          rw [decide_eq_true hsh] at sB
          clear cU2 hob hoc
          go_wp2_with fail
          refine sB.mono ?_
          rintro e wd ⟨rfl, qd, rfl⟩
          have dd := below_drewN' dz qd
          go_wp2_with fail
          go_ret
          exact ⟨rfl, c7.trans (dd.mono c7.size)⟩
        case pos =>
          obtain ⟨k, ek, hkw, hst⟩ := HI1.out heq
          rw [decide_eq_true heq] at sM
          have hkl : k < P.shards.length := by rw [hok.len]; exact hkw
          have hsm : P.shards.length ≤ maxLen := by obtain ⟨_, _, e, g2, g3, -⟩ := hS7; cases e; omega
          unfold maxLen at hsm
          have hk1 : ¬ (P.shards.length : Int) ≤ k := by omega
          have hk2 : (k : Int) < P.shards.length := by omega
          have HST : Hid _ := hst
          rw [ek] at v4 x7
          clear HC1 HI1 heq hst hsj hm7 hL7 q4
          generalize ((rowsOf P.book).getD r []).length = rn at *
          go_wp2_with fail
          refine sM.mono ?_
          rintro e w8 ⟨rfl, q8, rfl⟩
          have dC : Below w7.heap.size w7 (w7.drewN q8) := below_drewN' (Below.refl _ _) q8
          have x8 := box_kept x7 dC
          have y8 := box_kept y7 dC
          have hS8 := hS7.below dC
          have hR8 := hR7.below dC
          have q18 := q1.below dC
          have q28 := q2.below dC
          have c8 := c7.trans (dC.mono c7.size)
          clear sM v0 v1 v2 v3 v4 v5 v6 v7 v8 v9 v10 v11 v12 hcj x7 y7 hS7 q1 q2 hR7 cU
          generalize w7.drewN q8 = w8 at *
          obtain ⟨v0, v1, v2, v3, v4, v5, v6, v7, v8, v9, v10, v11, v12⟩ := box_13 x8
          obtain ⟨g0, g1, -, -⟩ := box_two y8
          obtain ⟨p5, o5, rfl, hp5, hV⟩ := hS8.get rfl hkl
          obtain ⟨-, -, t2, ⟨ea, ec, t3, hEs⟩, -, -, -⟩ := hV
          by_cases h4 : (P.shards.getD k shd0).state = 4
          · rw [h4] at t2
            clear HST
            go_wp2_with fail
            go_ret
            exact ⟨rfl, c8⟩
          · have h4' : ((P.shards.getD k shd0).state == 4) = false := by simpa using h4
            obtain ⟨hp0, hp1, hcl2⟩ := HST.out h4
            have HC2 : Hid _ := hcl2
            clear HST hcl2 h4
            generalize P.shards.getD k shd0 = S at *
            obtain ⟨pl, hpl⟩ := Int.eq_ofNat_of_zero_le hp0
            rw [hpl] at v1 x8 hp1 HC2
            rw [Int.toNat_natCast] at HC2
            have hEm : S.entries.length ≤ maxLen := by have := hEs.cap; have := hEs.room; omega
            unfold maxLen at hEm
            have hpl1 : pl < S.entries.length := by omega
            have hp2 : ¬ ((pl : Int) < 0) := by omega
            have hp3 : ¬ ((S.entries.length : Int) ≤ pl) := by omega
            have hp4 : (pl : Int) < S.entries.length := by omega
            obtain ⟨eb, eo, va2, vc2, rfl, hcj, hsj⟩ := hEs.get pl hpl1
            have HSm : ∀ n, Calls Tryz.prog 13 #[.slice va2 (S.entries.getD pl []).length vc2, .slice sea s.entry.length sec] (w8.drewN n) fun e w' => e = .returned (.bool (decide (S.entries.getD pl [] = s.entry))) ∧ ∃ m, w' = (w8.drewN n).drewN m := fun n => same_any _ _ _ _ _ (hsj.below (below_drewN' (Below.refl _ _) n)).at' (q18.below (below_drewN' (Below.refl _ _) n)).at' hsj.short
            by_cases heq2 : S.entries.getD pl [] = s.entry
            · rw [decide_eq_true heq2] at HSm
              clear HC2 heq2 hsj
              generalize (S.entries.getD pl []).length = fn at *
              generalize S.entries.length = en at *
              go_wp2_with fail
              go_quiet ((go_at_call 13; exact Calls.quiet_of (HSm _)))
              go_wp2_with fail
              go_ret
              exact ⟨rfl, below_drewN' c8 _⟩
            · rw [decide_eq_false heq2] at HSm
              have hcs := HC2.out heq2
              have cC := fun w' (h : Below w8.heap.size w8 w') => hCl S.entries s.entry pl s.path (.slice sea s.entry.length sec) (some ⟨eb, eo, none⟩) S.entries.length ec spa s.path.length spc w' (hR8.below h) (hEs.below h) (q18.below h) (q28.below h)
              rw [hcs] at cC
              have cU := fun w' v (x : List Int) (h : Below w8.heap.size w8 w') (hx : Some' w' v x) (hx2 : x.length ≤ 1000000) => sum_any x v w' hx.at' (by omega) hx.bytes (hR8.below h).tab (hR8.below h).big
              clear HC2 heq2 hsj hcs hEs hS8 q18 q28
              generalize (S.entries.getD pl []).length = fn at *
              generalize S.entries.length = en at *
              go_wp2_with fail
              go_quiet ((go_at_call 13; exact Calls.quiet_of (HSm _)))
              have dC : Below w8.heap.size w8 (w8.drewN nq) := below_drewN' (Below.refl _ _) nq
              have cC9 := cC _ dC
              obtain ⟨w0', w1', w2', w3', w4', w5', w6', w7', w8', w9', w10', w11', w12'⟩ := box_13 (box_kept x8 dC)
              generalize w8.drewN nq = w9 at *
              clear HSm cC v0 v1 v2 v3 v4 v5 v6 v7 v8 v9 v10 v11 v12 hcj g0 g1 t2 t3
              go_wp2_with fail
              refine cC9.mono ?_
              rintro e w20 ⟨vx, vy, rfl, htd, hb20⟩
              have d20 := dC.trans (hb20.mono dC.size)
              obtain ⟨x, y, hx, hy, hx2, hy2, hne, -⟩ := htd
              obtain ⟨hne, hsh⟩ := hne rfl
              have sA := same_any x y vx vy w20 hx.at' hy.at' hx.short
              rw [decide_eq_false hne] at sA
              obtain ⟨xA, xC, rfl⟩ := hx.at'.form
              obtain ⟨yA, yC, rfl⟩ := hy.at'.form
              clear hne
              go_wp2_with fail
              refine sA.mono ?_
              rintro e wx ⟨rfl, qa', rfl⟩
              have dx := below_drewN' d20 qa'
              have hxa := hx.below (below_drewN' (Below.refl _ _) qa')
              have hya := hy.below (below_drewN' (Below.refl _ _) qa')
              generalize w20.drewN qa' = wx at *
              have cU1 := cU wx _ x dx hxa hx2
              clear sA hx hy
              go_wp2_with fail
              refine cU1.mono ?_
              rintro e wy ⟨gb, rfl, hob, hbb⟩
              have dy := dx.trans (hbb.mono dx.size)
              have hxy := hxa.below hbb
              have cU2 := cU wy _ y dy (hya.below hbb) hy2
              clear cU1 cU
              go_wp2_with fail
              refine cU2.mono ?_
              rintro e wz ⟨gc, rfl, hoc, hbc⟩
              have dz := dy.trans (hbc.mono dy.size)
              have hxz := hxy.below hbc
              have sB := same_any (shaL x) (shaL y) _ _ wz ((bytesAt_own hob).below (Nat.le_refl _) hbc) (bytesAt_own hoc) (by rw [shaL_len]; unfold maxLen; omega)
              rw [decide_eq_true hsh] at sB
              clear cU2 hob hoc
              go_wp2_with fail
              refine sB.mono ?_
              rintro e wd ⟨rfl, qd, rfl⟩
              have dd := below_drewN' dz qd
              have hxd := hxz.below (below_drewN' (Below.refl _ _) qd)
              have cI := in_any x (.slice xA x.length xC) (wz.drewN qd) hxd.at' (by have := hx2; omega)
              clear sB
              generalize wz.drewN qd = wd at *
              go_wp2_with fail
              refine cI.mono ?_
              rintro e we ⟨iv, rfl, hoi, hbi⟩
              obtain ⟨ia, ic, rfl⟩ := own_form' hoi
              have de := dd.trans (hbi.mono dd.size)
              clear cI hoi
              have hpos : (0 : Int) < ((1 + x.length : Nat) : Int) := by omega
              have hpos2 : (0 : Int) < 1 + (x.length : Int) := by omega
              go_wp2_with fail
              go_ret
              exact ⟨rfl, c8.trans (de.mono c8.size)⟩

end Go.Proofs.YtkjlchfmplcobafGreatDoor
