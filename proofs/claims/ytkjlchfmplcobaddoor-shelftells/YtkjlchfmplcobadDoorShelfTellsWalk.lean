/- The walk of the law ShelfTells, over the faces of package shelf and the document's own answer. -/
import Derived.Test.YtkjlchfmplcobadDoorProg
import Derived.Test.YtkjlchfmplcobadDoorRunAA
import Derived.Test.YtkjlchfmplcobadDoorShelfRefExport
import Derived.Test.YtkjlchfmplcobadDoorShelfRefSegment
import Derived.Test.YtkjlchfmplcobadDoorShelfRefEntry
import Derived.Test.YtkjlchfmplcobadDoorShelfRefVerify
import Derived.WalkKit
import Derived.WalkSpells
import Derived.WalkLawsBesides
namespace Go.Proofs.YtkjlchfmplcobadDoor
open Go.RowKit

set_option maxRecDepth 100000 in
set_option maxHeartbeats 4000000 in
theorem shelfTells_any (hEx : ExportC) (hSeg : SegmentC) (hEn : EntryC) (hVe : VerifyC) (L : List (List Int)) (m : Man) (k i : Int) (a : Option Addr) (n c : Nat) (mv : Value) (w : World) (hR : Ready w) (hL : Lists w a n c L) (hM : ManAt w mv m) (hi : i ≤ 9223372036854775807) :
    Calls Tryd.prog 3 #[.slice a n c, mv, .int .i64 k, .int .i64 i] w fun e w' => e = .returned (.bool true) ∧ Below w.heap.size w w' := by
  have cE := fun w' (h : Below w.heap.size w w') => hEx L a n c w' (hR.below h) (hL.below h)
  have rE := fun w' (h : Below w.heap.size w w') => refExport_any L a n c w' (hL.below h)
  have cS := fun w' (h : Below w.heap.size w w') => hSeg m k mv w' (hM.below h)
  have rS := fun w' (h : Below w.heap.size w w') => refSegment_any m k mv w' (hM.below h)
  have cN := fun w' (h : Below w.heap.size w w') => hEn m i mv w' (hM.below h) hi
  have rN := fun w' (h : Below w.heap.size w w') => refEntry_any m i mv w' (hM.below h) hi
  have cV := fun w' (h : Below w.heap.size w w') => hVe m mv w' (hR.below h) (hM.below h)
  have rV := fun w' (h : Below w.heap.size w w') => refVerify_any m mv w' (hM.below h)
  have hs8 := segment_few m k
  have hv1 := verify_few (m := m)
  obtain ⟨rv, sv, rfl, hr, sa, sc, rfl, hN1, hN2, hN3, hcell⟩ := hM
  have x0 := box_new w #[.int .i64 m.size, rv, .slice sa m.segs.length sc] 28
  have b0 : Below w.heap.size w (w.alloc (.cells #[.int .i64 m.size, rv, .slice sa m.segs.length sc] 28)) := (Below.refl _ _).alloc (Nat.le_refl _) _
  clear hcell hr hN1 hN2 hN3
  generalize m.segs.length = sn at *
  generalize m.size = size at *
  generalize wrongL L = F at *
  generalize exportL L = E at *
  generalize segmentL m k = SS at *
  generalize entryL m i = EN at *
  generalize verifyL m = V at *
  obtain ⟨F1, F2⟩ := F
  obtain ⟨S0, S1⟩ := SS
  obtain ⟨N0, N1⟩ := EN
  obtain ⟨V0, V1, V2⟩ := V
  dsimp only [faultV] at cE rE cS rS cN rN cV rV hs8 hv1
  have cE0 := cE _ b0
  go_enter Tryd.func3, Tryd.ntmps3
  go_wp2_with fail
  generalize w.alloc (.cells #[.int .i64 size, rv, .slice sa sn sc] 28) = w0 at *
  refine cE0.mono ?_
  rintro e w1 ⟨m1, rfl, hM1, hb1⟩
  have b1 := b0.trans (hb1.mono b0.size)
  have hw1 := b1.size
  obtain ⟨r1, s1, rfl, hr1, a1, c1, rfl, p1, p2, p3, p4⟩ := hM1
  obtain ⟨ra1, rc1, rfl⟩ := hr1.at'.form
  have hM1 : ManAt w1 (.agg #[.int .i64 E.size, .slice ra1 E.root.length rc1, .slice a1 E.segs.length c1]) E := ⟨_, _, rfl, hr1, a1, c1, rfl, p1, p2, p3, p4⟩
  clear p1 p2 p3 p4 hr1 cE cE0
  have d2 : Below w1.heap.size w1 ((w1.alloc (.cells #[.int .i64 E.size, .slice ra1 E.root.length rc1, .slice a1 E.segs.length c1] 28)).alloc (.cells #[.int .i64 F1, .int .i64 F2] 31)) := ((Below.refl _ _).alloc (Nat.le_refl _) _).alloc (by simp) _
  have b2 := b1.trans (d2.mono b1.size)
  have x2 := box_old _ (.cells #[.int .i64 F1, .int .i64 F2] 31) (box_old _ (.cells #[.int .i64 E.size, .slice ra1 E.root.length rc1, .slice a1 E.segs.length c1] 28) (box_kept x0 hb1))
  have g2 := box_old _ (.cells #[.int .i64 F1, .int .i64 F2] 31) (box_new w1 #[.int .i64 E.size, .slice ra1 E.root.length rc1, .slice a1 E.segs.length c1] 28)
  have f2 := box_last w1 (.cells #[.int .i64 E.size, .slice ra1 E.root.length rc1, .slice a1 E.segs.length c1] 28) #[.int .i64 F1, .int .i64 F2] 31
  have hM2 := hM1.below d2
  clear hM1 x0 b0 b1 hb1
  go_wp2_with fail
  generalize (w1.alloc (.cells #[.int .i64 E.size, .slice ra1 E.root.length rc1, .slice a1 E.segs.length c1] 28)).alloc (.cells #[.int .i64 F1, .int .i64 F2] 31) = w2 at *
  refine (rE _ b2).mono ?_
  rintro e w3 ⟨m3, rfl, hM3, hb3⟩
  have b3 := b2.trans (hb3.mono b2.size)
  obtain ⟨r3, s3, rfl, hr3, a3, c3, rfl, p1, p2, p3, p4⟩ := hM3
  obtain ⟨ra3, rc3, rfl⟩ := hr3.at'.form
  have hM3 : ManAt w3 (.agg #[.int .i64 E.size, .slice ra3 E.root.length rc3, .slice a3 E.segs.length c3]) E := ⟨_, _, rfl, hr3, a3, c3, rfl, p1, p2, p3, p4⟩
  clear p1 p2 p3 p4 hr3 rE
  have d4 : Below w3.heap.size w3 ((w3.alloc (.cells #[.int .i64 E.size, .slice ra3 E.root.length rc3, .slice a3 E.segs.length c3] 28)).alloc (.cells #[.int .i64 F1, .int .i64 F2] 31)) := ((Below.refl _ _).alloc (Nat.le_refl _) _).alloc (by simp) _
  have c4 := hb3.trans (d4.mono hb3.size)
  have b4 := b2.trans (c4.mono b2.size)
  have x4 := box_kept x2 c4
  have g4 := box_kept g2 c4
  have f4 := box_kept f2 c4
  have g4' := box_old _ (.cells #[.int .i64 F1, .int .i64 F2] 31) (box_new w3 #[.int .i64 E.size, .slice ra3 E.root.length rc3, .slice a3 E.segs.length c3] 28)
  have f4' := box_last w3 (.cells #[.int .i64 E.size, .slice ra3 E.root.length rc3, .slice a3 E.segs.length c3] 28) #[.int .i64 F1, .int .i64 F2] 31
  have sM := sameMan_yes E _ _ _ (hM2.below c4) (hM3.below d4)
  have hgs : w1.heap.size + 1 < w2.heap.size := lt_heap f2
  have hs3 := hb3.size
  obtain ⟨t0, t1, t2, -, -, -⟩ := box_three g4
  obtain ⟨t3, t4, -, -⟩ := box_two f4
  obtain ⟨q0, q1, q2, -, -, -⟩ := box_three g4'
  obtain ⟨q3, q4, -, -⟩ := box_two f4'
  clear hM2 hM3 x2 g2 f2 g4 g4' d4 b3 hb3 c4 d2
  go_wp2_with fail
  generalize (w3.alloc (.cells #[.int .i64 E.size, .slice ra3 E.root.length rc3, .slice a3 E.segs.length c3] 28)).alloc (.cells #[.int .i64 F1, .int .i64 F2] 31) = w4 at *
  refine sM.mono ?_
  rintro e w5 ⟨rfl, hb5⟩
  have b5 := b4.trans (hb5.mono b4.size)
  have x5 := box_kept x4 hb5
  have f5 := box_kept f4 hb5
  have f5' := box_kept f4' hb5
  obtain ⟨u0, u1, u2, -, -, -⟩ := box_three x5
  clear sM t0 t1 t2 t3 t4 q0 q1 q2 q3 q4 x4 f4 f4' b4 hb5
  go_wp2_with fail
  refine (cS _ b5).mono ?_
  rintro e w6 ⟨xa, xn, xc, rfl, hx, hb6⟩
  have b6 := b5.trans (hb6.mono b5.size)
  have x6 := box_kept x5 hb6
  obtain ⟨u0', u1', u2', -, -, -⟩ := box_three x6
  clear cS u0 u1 u2
  go_wp2_with fail
  refine (rS _ b6).mono ?_
  rintro e w7 ⟨ya, yn, yc, rfl, hy, hb7⟩
  have b7 := b6.trans (hb7.mono b6.size)
  have x7 := box_kept x6 hb7
  have hsame := refSame_any S0 S0 (.slice xa xn xc) (.slice ya yn yc) w7 (hx.below hb7).lists.at' hy.lists.at' (by have := hs8.1; unfold maxLen; omega) hx.lists.short
  rw [decide_eq_true rfl] at hsame
  have z1 : (S1 != S1) = false := by simp
  have f7 := box_kept (box_kept f5 hb6) hb7
  have f7' := box_kept (box_kept f5' hb6) hb7
  clear rS u0' u1' u2' hx hy x5 x6 f5 f5' b5 b6 hb6 hb7
  go_wp2_with fail
  refine hsame.mono ?_
  rintro e w8 ⟨rfl, q8, rfl⟩
  have d8 := below_drewN' (Below.refl w7.heap.size w7) q8
  have b8 := b7.trans (d8.mono b7.size)
  have x8 := box_kept x7 d8
  have f8 := box_kept f7 d8
  have f8' := box_kept f7' d8
  clear hsame z1 x7 f7 f7' b7
  generalize w7.drewN q8 = w8 at *
  clear d8
  obtain ⟨u0, u1, u2, -, -, -⟩ := box_three x8
  go_wp2_with fail
  refine (cN _ b8).mono ?_
  rintro e w9 ⟨v9, rfl, hn, hb9⟩
  have b9 := b8.trans (hb9.mono b8.size)
  have x9 := box_kept x8 hb9
  obtain ⟨u0', u1', u2', -, -, -⟩ := box_three x9
  clear cN u0 u1 u2
  go_wp2_with fail
  refine (rN _ b9).mono ?_
  rintro e wa ⟨va, rfl, hn', hba⟩
  have ba := b9.trans (hba.mono b9.size)
  have xa' := box_kept x9 hba
  have hsN := same_any N0 N0 v9 va wa (hn.below hba).at' hn'.at' hn.short
  rw [decide_eq_true rfl] at hsN
  have z2 : (N1 != N1) = false := by simp
  have fa := box_kept (box_kept f8 hb9) hba
  have fa' := box_kept (box_kept f8' hb9) hba
  obtain ⟨ea, ec, rfl⟩ := hn.at'.form
  obtain ⟨ea', ec', rfl⟩ := hn'.at'.form
  clear rN u0' u1' u2' hn hn' x8 x9 f8 f8' b8 b9 hb9 hba
  go_wp2_with fail
  refine hsN.mono ?_
  rintro e wb ⟨rfl, qb, rfl⟩
  have db := below_drewN' (Below.refl wa.heap.size wa) qb
  have bb := ba.trans (db.mono ba.size)
  have xb := box_kept xa' db
  have fb := box_kept fa db
  have fb' := box_kept fa' db
  clear hsN z2 xa' fa fa' ba
  generalize wa.drewN qb = wb at *
  clear db
  obtain ⟨u0, u1, u2, -, -, -⟩ := box_three xb
  go_wp2_with fail
  refine (cV _ bb).mono ?_
  rintro e wc ⟨xa, xn, xc, rfl, hx, hbc⟩
  have bc := bb.trans (hbc.mono bb.size)
  have xc' := box_kept xb hbc
  have fc := box_kept fb hbc
  have fc' := box_kept fb' hbc
  have hne1 : w1.heap.size + 1 ≠ w3.heap.size + 1 := by omega
  have hne0 : w.heap.size ≠ w1.heap.size + 1 := by omega
  have hne2 : w.heap.size ≠ w3.heap.size + 1 := by omega
  have fd := box2_set (u' := .int .i64 V1) (v' := .int .i64 V2) fc
  have fd' := box_set_far (j := w1.heap.size + 1) (o := 1) (v := .int .i64 V2) (box_set_far (j := w1.heap.size + 1) (o := 0) (v := .int .i64 V1) fc' (by omega)) (by omega)
  have xd := box_set_far (j := w1.heap.size + 1) (o := 1) (v := .int .i64 V2) (box_set_far (j := w1.heap.size + 1) (o := 0) (v := .int .i64 V1) xc' hne0) hne0
  have hxd := (hx.set (o := 0) fc (by decide) (hx.lists.apart fc) (.int .i64 V1)).set (o := 1) (heap_setCell_same _ _ 0 _ _ (.int .i64 V1) fc) (by decide) (hx.lists.apart fc) (.int .i64 V2)
  have bd := (bc.setCell (p := ⟨w1.heap.size + 1, 0, none⟩) (by show w.heap.size ≤ w1.heap.size + 1; omega) (.int .i64 V1)).setCell (p := ⟨w1.heap.size + 1, 1, none⟩) (by show w.heap.size ≤ w1.heap.size + 1; omega) (.int .i64 V2)
  obtain ⟨s0, s1, s2, s3⟩ := box_two fc
  obtain ⟨u0', u1', u2', -, -, -⟩ := box_three xd
  clear cV u0 u1 u2 xb fb fb' bb hbc fc xc' fc' bc hx
  go_wp2_with fail
  generalize (wc.setCell ⟨w1.heap.size + 1, 0, none⟩ (.int .i64 V1)).setCell ⟨w1.heap.size + 1, 1, none⟩ (.int .i64 V2) = wd at *
  clear s0 s1 s2 s3
  refine (rV _ bd).mono ?_
  rintro e we ⟨ya, yn, yc, rfl, hy, hbe⟩
  have be := bd.trans (hbe.mono bd.size)
  have fe := box_kept fd hbe
  have fe' := box_kept fd' hbe
  have hxe := hxd.below hbe
  have ff := box_set_far (j := w3.heap.size + 1) (o := 1) (v := .int .i64 V2) (box_set_far (j := w3.heap.size + 1) (o := 0) (v := .int .i64 V1) fe hne1) hne1
  have ff' := box2_set (u' := .int .i64 V1) (v' := .int .i64 V2) fe'
  have hxf := (hxe.set (o := 0) fe' (by decide) (hxe.lists.apart fe') (.int .i64 V1)).set (o := 1) (heap_setCell_same _ _ 0 _ _ (.int .i64 V1) fe') (by decide) (hxe.lists.apart fe') (.int .i64 V2)
  have hyf := (hy.set (o := 0) fe' (by decide) (hy.lists.apart fe') (.int .i64 V1)).set (o := 1) (heap_setCell_same _ _ 0 _ _ (.int .i64 V1) fe') (by decide) (hy.lists.apart fe') (.int .i64 V2)
  have bf := (be.setCell (p := ⟨w3.heap.size + 1, 0, none⟩) (by show w.heap.size ≤ w3.heap.size + 1; omega) (.int .i64 V1)).setCell (p := ⟨w3.heap.size + 1, 1, none⟩) (by show w.heap.size ≤ w3.heap.size + 1; omega) (.int .i64 V2)
  obtain ⟨s0, s1, s2, s3⟩ := box_two fe'
  obtain ⟨l0, l1, -, -⟩ := box_two ff
  obtain ⟨l2, l3, -, -⟩ := box_two ff'
  have hsV := refSame_any V0 V0 (.slice xa xn xc) (.slice ya yn yc) _ hxf.lists.at' hyf.lists.at' (by have := hv1.1; unfold maxLen; omega) hxf.lists.short
  rw [decide_eq_true rfl] at hsV
  clear rV u0' u1' u2' xd fd fd' hxd bd hbe fe fe' hxe ff ff' hxf hyf hy be
  go_wp2_with fail
  generalize (we.setCell ⟨w3.heap.size + 1, 0, none⟩ (.int .i64 V1)).setCell ⟨w3.heap.size + 1, 1, none⟩ (.int .i64 V2) = wf at *
  refine hsV.mono ?_
  rintro e wg ⟨rfl, qg, rfl⟩
  go_wp2_with fail
  go_ret
  exact ⟨rfl, below_drewN' bf _⟩

end Go.Proofs.YtkjlchfmplcobadDoor
