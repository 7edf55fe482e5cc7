/- The walks of isHead and Check: package fleet as it landed. -/
import Derived.Test.YtkjlchfmplcobagGreatDoorProg
import Derived.Test.YtkjlchfmplcobagGreatDoorRunAB
import Derived.Test.YtkjlchfmplcobagGreatDoorRunAC
import Derived.Test.YtkjlchfmplcobagGreatDoorRunAN
import Derived.WalkKit
import Derived.WalkSpells
import Derived.WalkLawsBesides
namespace Go.Proofs.YtkjlchfmplcobagGreatDoor
open Go.RowKit

set_option maxRecDepth 100000 in
set_option maxHeartbeats 1000000 in
theorem isHead_any (n1 n2 : Int) (r1 r2 : List Int) (v1 v2 : Value) (r : Bool) (hr : r = decide (n1 = n2 ∧ r1 = r2)) (w : World) (h1 : Some' w v1 r1) (h2 : Some' w v2 r2) :
    Calls Tryz.prog 39 #[.agg #[.int .i64 n1, v1], .agg #[.int .i64 n2, v2]] w fun e w' => e = .returned (.bool r) ∧ Below w.heap.size w w' := by
  have b0 : Below w.heap.size w ((w.alloc (.cells #[.int .i64 n1, v1] 38)).alloc (.cells #[.int .i64 n2, v2] 38)) := ((Below.refl _ _).alloc (Nat.le_refl _) _).alloc (by simp) _
  obtain ⟨x0, x1, -, -⟩ := box_two (box_one w #[.int .i64 n1, v1] 38 (.cells #[.int .i64 n2, v2] 38))
  obtain ⟨y0, y1, -, -⟩ := box_two (box_last w (.cells #[.int .i64 n1, v1] 38) #[.int .i64 n2, v2] 38)
  have hE := equal_any r1 r2 v1 v2 _ (h1.below b0).at' (h2.below b0).at' h1.bytes h2.bytes
  by_cases q1 : n1 = n2
  · have hr2 : r = decide (r1 = r2) := by rw [hr]; simp [q1]
    rw [← hr2] at hE
    subst q1
    clear hr hr2
    go_enter Tryz.func39, Tryz.ntmps39
    go_wp2_with fail
    generalize (w.alloc (.cells #[.int .i64 n1, v1] 38)).alloc (.cells #[.int .i64 n1, v2] 38) = w0 at *
    refine hE.mono ?_
    rintro e w1 ⟨rfl, rfl⟩
    go_wp2_with fail
    go_ret
    exact ⟨rfl, b0⟩
  · obtain rfl : r = false := by rw [hr, decide_eq_false (fun h => q1 h.1)]
    have q1' : (n1 == n2) = false := by simpa using q1
    clear hr q1
    go_enter Tryz.func39, Tryz.ntmps39
    go_wp2_with fail
    go_ret
    exact ⟨rfl, b0⟩

set_option maxRecDepth 100000 in
set_option maxHeartbeats 2000000 in
theorem checkC_of (hBy : RecBytesC) (hSt : StandsC) : CheckC := by
  intro s hs hr sv hv w hR hS hh
  obtain ⟨ea, ec, pa, pc, ra, rc, ba, bc, ha, hc, rfl, h1, h2, h3, h4, h5⟩ := hS.form
  obtain ⟨va, vc, rfl⟩ := hh.at'.form
  have b0 : Below w.heap.size w ((w.alloc (.cells #[.slice ea s.entry.length ec, .int .i64 s.place, .int .i64 s.shard, .slice pa s.path.length pc, .int .i64 s.rcd.shard, .int .i64 s.rcd.from', .int .i64 s.rcd.to', .int .i64 s.rcd.size, .slice ra s.rcd.root.length rc, .int .i64 s.row, .slice ba s.bookPath.length bc, .int .i64 s.hsize, .slice ha s.hroot.length hc] 46)).alloc (.cells #[.int .i64 hs, .slice va hr.length vc] 38)) := ((Below.refl _ _).alloc (Nat.le_refl _) _).alloc (by simp) _
  have x0 := box_one w #[.slice ea s.entry.length ec, .int .i64 s.place, .int .i64 s.shard, .slice pa s.path.length pc, .int .i64 s.rcd.shard, .int .i64 s.rcd.from', .int .i64 s.rcd.to', .int .i64 s.rcd.size, .slice ra s.rcd.root.length rc, .int .i64 s.row, .slice ba s.bookPath.length bc, .int .i64 s.hsize, .slice ha s.hroot.length hc] 46 (.cells #[.int .i64 hs, .slice va hr.length vc] 38)
  have y0 := box_last w (.cells #[.slice ea s.entry.length ec, .int .i64 s.place, .int .i64 s.shard, .slice pa s.path.length pc, .int .i64 s.rcd.shard, .int .i64 s.rcd.from', .int .i64 s.rcd.to', .int .i64 s.rcd.size, .slice ra s.rcd.root.length rc, .int .i64 s.row, .slice ba s.bookPath.length bc, .int .i64 s.hsize, .slice ha s.hroot.length hc] 46) #[.int .i64 hs, .slice va hr.length vc] 38
  have hRec := hBy s.rcd _ _ ⟨ra, rc, rfl, h3.below b0⟩
  have HC : Hid (checkL s hs hr = (decide (wrongRec s.rcd = 0) && (decide (s.rcd.shard = s.shard) && (decide (s.hsize = hs ∧ s.hroot = hr) && (standsL s.rcd.size s.rcd.root s.entry s.place s.path && standsL hs hr (rowL s.rcd) s.row s.bookPath))))) := rfl
  have hI := fun w' (h : Below w.heap.size w w') => isHead_any s.hsize hs s.hroot hr _ _ _ rfl w' (h5.below h) (hh.below h)
  have hS1 := fun w' (h : Below w.heap.size w w') => hSt s.rcd.size s.rcd.root s.entry s.place s.path _ _ _ _ _ w' (hR.below h) (h3.below h) (h1.below h) (h2.below h)
  have hS2 := fun w' (xv : Value) (h : Below w.heap.size w w') (hx : Some' w' xv (rowL s.rcd)) => hSt hs hr (rowL s.rcd) s.row s.bookPath _ xv _ _ _ w' (hR.below h) (hh.below h) hx (h4.below h)
  have hrb := row_bytes (r := s.rcd)
  have hrl := row_length (r := s.rcd)
  have h3b := h3.bytes
  generalize checkL s hs hr = CL at *
  unfold bytesE at hRec
  obtain ⟨k0, k1, k2, k3, k4, k5, k6, k7, k8, k9, k10, k11, k12⟩ := box_13 x0
  by_cases q0 : wrongRec s.rcd = 0
  · rw [q0, if_neg (fun h => h rfl)] at hRec
    replace hrb := hrb q0 h3b
    replace hrl := hrl q0
    replace HC : Hid (CL = (decide (s.rcd.shard = s.shard) && (decide (s.hsize = hs ∧ s.hroot = hr) && (standsL s.rcd.size s.rcd.root s.entry s.place s.path && standsL hs hr (rowL s.rcd) s.row s.bookPath)))) := by show _ = _; rw [HC.out, decide_eq_true q0]; rfl
    generalize rowL s.rcd = ROW at *
    generalize standsL s.rcd.size s.rcd.root s.entry s.place s.path = B1 at *
    generalize standsL hs hr ROW s.row s.bookPath = B2 at *
    generalize decide (s.hsize = hs ∧ s.hroot = hr) = B0 at *
    clear q0 hS h1 h2 h3 h4 h5 h3b
    by_cases q1 : s.rcd.shard = s.shard
    · replace HC : Hid (CL = (B0 && (B1 && B2))) := by show _ = _; rw [HC.out, decide_eq_true q1]; rfl
      rw [q1] at b0 x0 y0 hRec k4
      rw [q1]
      go_enter Tryz.func18, Tryz.ntmps18
      go_wp2_with fail
      generalize (w.alloc (.cells #[.slice ea s.entry.length ec, .int .i64 s.place, .int .i64 s.shard, .slice pa s.path.length pc, .int .i64 s.shard, .int .i64 s.rcd.from', .int .i64 s.rcd.to', .int .i64 s.rcd.size, .slice ra s.rcd.root.length rc, .int .i64 s.row, .slice ba s.bookPath.length bc, .int .i64 s.hsize, .slice ha s.hroot.length hc] 46)).alloc (.cells #[.int .i64 hs, .slice va hr.length vc] 38) = w0 at *
      refine hRec.mono ?_
      rintro e w1 ⟨xa, xn, xc, rfl, ho1, hb1⟩
      have b1 := b0.trans (hb1.mono b0.size)
      have x1 := box_kept x0 hb1
      have y1 := box_kept y0 hb1
      obtain ⟨j0, j1, j2, j3, j4, j5, j6, j7, j8, j9, j10, j11, j12⟩ := box_13 x1
      obtain ⟨m0, m1, -, -⟩ := box_two y1
      have hX1 : Some' w1 (.slice xa xn xc) ROW := ⟨bytesAt_own ho1, hrb, by rw [hrl]; unfold maxLen; omega⟩
      replace hI := hI w1 b1
      clear hRec k0 k1 k2 k3 k4 k5 k6 k7 k8 k9 k10 k11 k12 x0 y0 ho1
      go_wp2_with fail
      refine hI.mono ?_
      rintro e w2 ⟨rfl, hb2⟩
      have b2 := b1.trans (hb2.mono b1.size)
      clear hI
      cases B0 with
      | false =>
        have HC2 : Hid (CL = false) := by show _ = _; rw [HC.out]; rfl
        clear HC
        go_wp2_with fail
        go_ret
        exact ⟨by rw [HC2.out]; rfl, b2⟩
      | true =>
        have HC2 : Hid (CL = (B1 && B2)) := by show _ = _; rw [HC.out]; rfl
        have x2 := box_kept x1 hb2
        have y2 := box_kept y1 hb2
        replace hS1 := hS1 w2 b2
        have hX2 := hX1.below hb2
        clear HC j0 j1 j2 j3 j4 j5 j6 j7 j8 j9 j10 j11 j12 m0 m1 x1 y1 hX1
        obtain ⟨j0, j1, j2, j3, j4, j5, j6, j7, j8, j9, j10, j11, j12⟩ := box_13 x2
        obtain ⟨m0, m1, -, -⟩ := box_two y2
        go_wp2_with fail
        refine hS1.mono ?_
        rintro e w3 ⟨rfl, hb3⟩
        have b3 := b2.trans (hb3.mono b2.size)
        clear hS1
        cases B1 with
        | false =>
          have HC3 : Hid (CL = false) := by show _ = _; rw [HC2.out]; rfl
          clear HC2
          go_wp2_with fail
          go_ret
          exact ⟨by rw [HC3.out]; rfl, b3⟩
        | true =>
          have HC3 : Hid (CL = B2) := by show _ = _; rw [HC2.out]; rfl
          have x3 := box_kept x2 hb3
          have y3 := box_kept y2 hb3
          replace hS2 := hS2 w3 _ b3 (hX2.below hb3)
          clear HC2 j0 j1 j2 j3 j4 j5 j6 j7 j8 j9 j10 j11 j12 m0 m1 x2 y2 hX2
          obtain ⟨j0, j1, j2, j3, j4, j5, j6, j7, j8, j9, j10, j11, j12⟩ := box_13 x3
          obtain ⟨m0, m1, -, -⟩ := box_two y3
          go_wp2_with fail
          refine hS2.mono ?_
          rintro e w4 ⟨rfl, hb4⟩
          have b4 := b3.trans (hb4.mono b3.size)
          go_wp2_with fail
          go_ret
          exact ⟨by rw [HC3.out]; rfl, b4⟩
    · have HC2 : Hid (CL = false) := by show _ = _; rw [HC.out, decide_eq_false q1]; rfl
      have q1' : (s.rcd.shard == s.shard) = false := by simpa using q1
      clear HC q1
      go_enter Tryz.func18, Tryz.ntmps18
      go_wp2_with fail
      generalize (w.alloc (.cells #[.slice ea s.entry.length ec, .int .i64 s.place, .int .i64 s.shard, .slice pa s.path.length pc, .int .i64 s.rcd.shard, .int .i64 s.rcd.from', .int .i64 s.rcd.to', .int .i64 s.rcd.size, .slice ra s.rcd.root.length rc, .int .i64 s.row, .slice ba s.bookPath.length bc, .int .i64 s.hsize, .slice ha s.hroot.length hc] 46)).alloc (.cells #[.int .i64 hs, .slice va hr.length vc] 38) = w0 at *
      refine hRec.mono ?_
      rintro e w1 ⟨xa, xn, xc, rfl, ho1, hb1⟩
      have b1 := b0.trans (hb1.mono b0.size)
      obtain ⟨j0, j1, j2, j3, j4, j5, j6, j7, j8, j9, j10, j11, j12⟩ := box_13 (box_kept x0 hb1)
      clear hRec k0 k1 k2 k3 k4 k5 k6 k7 k8 k9 k10 k11 k12 x0 y0
      go_wp2_with fail
      go_ret
      exact ⟨by rw [HC2.out]; rfl, b1⟩
  · have HC2 : Hid (CL = false) := by show _ = _; rw [HC.out, decide_eq_false q0]; rfl
    have q0' : (wrongRec s.rcd != 0) = true := by simpa using q0
    clear HC q0 hrb hrl
    generalize wrongRec s.rcd = WR at *
    go_enter Tryz.func18, Tryz.ntmps18
    go_wp2_with fail
    generalize (w.alloc (.cells #[.slice ea s.entry.length ec, .int .i64 s.place, .int .i64 s.shard, .slice pa s.path.length pc, .int .i64 s.rcd.shard, .int .i64 s.rcd.from', .int .i64 s.rcd.to', .int .i64 s.rcd.size, .slice ra s.rcd.root.length rc, .int .i64 s.row, .slice ba s.bookPath.length bc, .int .i64 s.hsize, .slice ha s.hroot.length hc] 46)).alloc (.cells #[.int .i64 hs, .slice va hr.length vc] 38) = w0 at *
    refine hRec.mono ?_
    rintro e w1 ⟨xa, xn, xc, rfl, ho1, hb1⟩
    have b1 := b0.trans (hb1.mono b0.size)
    clear hRec k0 k1 k2 k3 k4 k5 k6 k7 k8 k9 k10 k11 k12 x0 y0
    go_wp2_with fail
    go_ret
    exact ⟨by rw [HC2.out]; rfl, b1⟩

end Go.Proofs.YtkjlchfmplcobagGreatDoor
