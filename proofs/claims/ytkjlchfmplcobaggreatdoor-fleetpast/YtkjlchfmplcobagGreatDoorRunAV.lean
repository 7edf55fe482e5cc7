/- FleetGoCheck, PackLong, PackGoAlike, PackRead, as one text. -/
import Derived.Test.YtkjlchfmplcobagGreatDoorProg
import Derived.Test.YtkjlchfmplcobagGreatDoorRunAM
import Derived.Test.YtkjlchfmplcobagGreatDoorRunAT
import Derived.Test.YtkjlchfmplcobagGreatDoorRunAP
import Derived.WalkKit
import Derived.WalkSpells
import Derived.WalkLawsBesides
import Derived.Test.YtkjlchfmplcobagGreatDoorRunAE
import Derived.Test.YtkjlchfmplcobagGreatDoorRunAI
import Derived.Test.YtkjlchfmplcobagGreatDoorRunAC
import Derived.Deep.QuietTactic
import Derived.BigQuiet
/- The walks of isHead and Check: package fleet as it landed. -/
namespace Go.Proofs.YtkjlchfmplcobagGreatDoor
open Go.RowKit

set_option maxRecDepth 100000 in
set_option maxHeartbeats 1000000 in
theorem isHead_any (n1 n2 : Int) (r1 r2 : List Int) (v1 v2 : Value) (r : Bool) (hr : r = decide (n1 = n2 ∧ r1 = r2)) (w : World) (h1 : Some' w v1 r1) (h2 : Some' w v2 r2) :
    Calls Tryz.prog 39 #[.agg #[.int .i64 n1, v1], .agg #[.int .i64 n2, v2]] w fun e w' => e = .returned (.bool r) ∧ Below w.heap.size w w' := by
  have b0 : Below w.heap.size w ((w.alloc (.cells #[.int .i64 n1, v1] 38)).alloc (.cells #[.int .i64 n2, v2] 38)) := ((Below.refl _ _).alloc (Nat.le_refl _) _).alloc (by simp) _
  obtain ⟨x0, x1, -, -⟩ := box_two (box_one w #[.int .i64 n1, v1] 38 (.cells #[.int .i64 n2, v2] 38))
  obtain ⟨y0, y1, -, -⟩ := box_two (box_last w (.cells #[.int .i64 n1, v1] 38) #[.int .i64 n2, v2] 38)
  have hE := equal_any r1 r2 v1 v2 _ (h1.below b0).at' (h2.below b0).at' h1.bytes h2.bytes
  by_cases q1 : n1 = n2
  · have hr2 : r = decide (r1 = r2) := by rw [hr]; simp [q1]
    rw [← hr2] at hE
    subst q1
    clear hr hr2
    go_enter Tryz.func39, Tryz.ntmps39
    go_wp2_with fail
    generalize (w.alloc (.cells #[.int .i64 n1, v1] 38)).alloc (.cells #[.int .i64 n1, v2] 38) = w0 at *
    refine hE.mono ?_
    rintro e w1 ⟨rfl, rfl⟩
    go_wp2_with fail
    go_ret
    exact ⟨rfl, b0⟩
  · obtain rfl : r = false := by rw [hr, decide_eq_false (fun h => q1 h.1)]
    have q1' : (n1 == n2) = false := by simpa using q1
    clear hr q1
    go_enter Tryz.func39, Tryz.ntmps39
    go_wp2_with fail
    go_ret
    exact ⟨rfl, b0⟩

set_option maxRecDepth 100000 in
set_option maxHeartbeats 2000000 in
theorem checkC_of (hBy : RecBytesC) (hSt : StandsC) : CheckC := by
  intro s hs hr sv hv w hR hS hh
  obtain ⟨ea, ec, pa, pc, ra, rc, ba, bc, ha, hc, rfl, h1, h2, h3, h4, h5⟩ := hS.form
  obtain ⟨va, vc, rfl⟩ := hh.at'.form
  have b0 : Below w.heap.size w ((w.alloc (.cells #[.slice ea s.entry.length ec, .int .i64 s.place, .int .i64 s.shard, .slice pa s.path.length pc, .int .i64 s.rcd.shard, .int .i64 s.rcd.from', .int .i64 s.rcd.to', .int .i64 s.rcd.size, .slice ra s.rcd.root.length rc, .int .i64 s.row, .slice ba s.bookPath.length bc, .int .i64 s.hsize, .slice ha s.hroot.length hc] 46)).alloc (.cells #[.int .i64 hs, .slice va hr.length vc] 38)) := ((Below.refl _ _).alloc (Nat.le_refl _) _).alloc (by simp) _
  have x0 := box_one w #[.slice ea s.entry.length ec, .int .i64 s.place, .int .i64 s.shard, .slice pa s.path.length pc, .int .i64 s.rcd.shard, .int .i64 s.rcd.from', .int .i64 s.rcd.to', .int .i64 s.rcd.size, .slice ra s.rcd.root.length rc, .int .i64 s.row, .slice ba s.bookPath.length bc, .int .i64 s.hsize, .slice ha s.hroot.length hc] 46 (.cells #[.int .i64 hs, .slice va hr.length vc] 38)
  have y0 := box_last w (.cells #[.slice ea s.entry.length ec, .int .i64 s.place, .int .i64 s.shard, .slice pa s.path.length pc, .int .i64 s.rcd.shard, .int .i64 s.rcd.from', .int .i64 s.rcd.to', .int .i64 s.rcd.size, .slice ra s.rcd.root.length rc, .int .i64 s.row, .slice ba s.bookPath.length bc, .int .i64 s.hsize, .slice ha s.hroot.length hc] 46) #[.int .i64 hs, .slice va hr.length vc] 38
  have hRec := hBy s.rcd _ _ ⟨ra, rc, rfl, h3.below b0⟩
  have HC : Hid (checkL s hs hr = (decide (wrongRec s.rcd = 0) && (decide (s.rcd.shard = s.shard) && (decide (s.hsize = hs ∧ s.hroot = hr) && (standsL s.rcd.size s.rcd.root s.entry s.place s.path && standsL hs hr (rowL s.rcd) s.row s.bookPath))))) := rfl
  have hI := fun w' (h : Below w.heap.size w w') => isHead_any s.hsize hs s.hroot hr _ _ _ rfl w' (h5.below h) (hh.below h)
  have hS1 := fun w' (h : Below w.heap.size w w') => hSt s.rcd.size s.rcd.root s.entry s.place s.path _ _ _ _ _ w' (hR.below h) (h3.below h) (h1.below h) (h2.below h)
  have hS2 := fun w' (xv : Value) (h : Below w.heap.size w w') (hx : Some' w' xv (rowL s.rcd)) => hSt hs hr (rowL s.rcd) s.row s.bookPath _ xv _ _ _ w' (hR.below h) (hh.below h) hx (h4.below h)
  have hrb := row_bytes (r := s.rcd)
  have hrl := row_length (r := s.rcd)
  have h3b := h3.bytes
  generalize checkL s hs hr = CL at *
  unfold bytesE at hRec
  obtain ⟨k0, k1, k2, k3, k4, k5, k6, k7, k8, k9, k10, k11, k12⟩ := box_13 x0
  by_cases q0 : wrongRec s.rcd = 0
  · rw [q0, if_neg (fun h => h rfl)] at hRec
    replace hrb := hrb q0 h3b
    replace hrl := hrl q0
    replace HC : Hid (CL = (decide (s.rcd.shard = s.shard) && (decide (s.hsize = hs ∧ s.hroot = hr) && (standsL s.rcd.size s.rcd.root s.entry s.place s.path && standsL hs hr (rowL s.rcd) s.row s.bookPath)))) := by show _ = _; rw [HC.out, decide_eq_true q0]; rfl
    generalize rowL s.rcd = ROW at *
    generalize standsL s.rcd.size s.rcd.root s.entry s.place s.path = B1 at *
    generalize standsL hs hr ROW s.row s.bookPath = B2 at *
    generalize decide (s.hsize = hs ∧ s.hroot = hr) = B0 at *
    clear q0 hS h1 h2 h3 h4 h5 h3b
    by_cases q1 : s.rcd.shard = s.shard
    · replace HC : Hid (CL = (B0 && (B1 && B2))) := by show _ = _; rw [HC.out, decide_eq_true q1]; rfl
      rw [q1] at b0 x0 y0 hRec k4
      rw [q1]
      go_enter Tryz.func18, Tryz.ntmps18
      go_wp2_with fail
      generalize (w.alloc (.cells #[.slice ea s.entry.length ec, .int .i64 s.place, .int .i64 s.shard, .slice pa s.path.length pc, .int .i64 s.shard, .int .i64 s.rcd.from', .int .i64 s.rcd.to', .int .i64 s.rcd.size, .slice ra s.rcd.root.length rc, .int .i64 s.row, .slice ba s.bookPath.length bc, .int .i64 s.hsize, .slice ha s.hroot.length hc] 46)).alloc (.cells #[.int .i64 hs, .slice va hr.length vc] 38) = w0 at *
      refine hRec.mono ?_
      rintro e w1 ⟨xa, xn, xc, rfl, ho1, hb1⟩
      have b1 := b0.trans (hb1.mono b0.size)
      have x1 := box_kept x0 hb1
      have y1 := box_kept y0 hb1
      obtain ⟨j0, j1, j2, j3, j4, j5, j6, j7, j8, j9, j10, j11, j12⟩ := box_13 x1
      obtain ⟨m0, m1, -, -⟩ := box_two y1
      have hX1 : Some' w1 (.slice xa xn xc) ROW := ⟨bytesAt_own ho1, hrb, by rw [hrl]; unfold maxLen; omega⟩
      replace hI := hI w1 b1
      clear hRec k0 k1 k2 k3 k4 k5 k6 k7 k8 k9 k10 k11 k12 x0 y0 ho1
      go_wp2_with fail
      refine hI.mono ?_
      rintro e w2 ⟨rfl, hb2⟩
      have b2 := b1.trans (hb2.mono b1.size)
      clear hI
      cases B0 with
      | false =>
        have HC2 : Hid (CL = false) := by show _ = _; rw [HC.out]; rfl
        clear HC
        go_wp2_with fail
        go_ret
        exact ⟨by rw [HC2.out]; rfl, b2⟩
      | true =>
        have HC2 : Hid (CL = (B1 && B2)) := by show _ = _; rw [HC.out]; rfl
        have x2 := box_kept x1 hb2
        have y2 := box_kept y1 hb2
        replace hS1 := hS1 w2 b2
        have hX2 := hX1.below hb2
        clear HC j0 j1 j2 j3 j4 j5 j6 j7 j8 j9 j10 j11 j12 m0 m1 x1 y1 hX1
        obtain ⟨j0, j1, j2, j3, j4, j5, j6, j7, j8, j9, j10, j11, j12⟩ := box_13 x2
        obtain ⟨m0, m1, -, -⟩ := box_two y2
        go_wp2_with fail
        refine hS1.mono ?_
        rintro e w3 ⟨rfl, hb3⟩
        have b3 := b2.trans (hb3.mono b2.size)
        clear hS1
        cases B1 with
        | false =>
          have HC3 : Hid (CL = false) := by show _ = _; rw [HC2.out]; rfl
          clear HC2
          go_wp2_with fail
          go_ret
          exact ⟨by rw [HC3.out]; rfl, b3⟩
        | true =>
          have HC3 : Hid (CL = B2) := by show _ = _; rw [HC2.out]; rfl
          have x3 := box_kept x2 hb3
          have y3 := box_kept y2 hb3
          replace hS2 := hS2 w3 _ b3 (hX2.below hb3)
          clear HC2 j0 j1 j2 j3 j4 j5 j6 j7 j8 j9 j10 j11 j12 m0 m1 x2 y2 hX2
          obtain ⟨j0, j1, j2, j3, j4, j5, j6, j7, j8, j9, j10, j11, j12⟩ := box_13 x3
          obtain ⟨m0, m1, -, -⟩ := box_two y3
          go_wp2_with fail
          refine hS2.mono ?_
          rintro e w4 ⟨rfl, hb4⟩
          have b4 := b3.trans (hb4.mono b3.size)
          go_wp2_with fail
          go_ret
          exact ⟨by rw [HC3.out]; rfl, b4⟩
    · have HC2 : Hid (CL = false) := by show _ = _; rw [HC.out, decide_eq_false q1]; rfl
      have q1' : (s.rcd.shard == s.shard) = false := by simpa using q1
      clear HC q1
      go_enter Tryz.func18, Tryz.ntmps18
      go_wp2_with fail
      generalize (w.alloc (.cells #[.slice ea s.entry.length ec, .int .i64 s.place, .int .i64 s.shard, .slice pa s.path.length pc, .int .i64 s.rcd.shard, .int .i64 s.rcd.from', .int .i64 s.rcd.to', .int .i64 s.rcd.size, .slice ra s.rcd.root.length rc, .int .i64 s.row, .slice ba s.bookPath.length bc, .int .i64 s.hsize, .slice ha s.hroot.length hc] 46)).alloc (.cells #[.int .i64 hs, .slice va hr.length vc] 38) = w0 at *
      refine hRec.mono ?_
      rintro e w1 ⟨xa, xn, xc, rfl, ho1, hb1⟩
      have b1 := b0.trans (hb1.mono b0.size)
      obtain ⟨j0, j1, j2, j3, j4, j5, j6, j7, j8, j9, j10, j11, j12⟩ := box_13 (box_kept x0 hb1)
      clear hRec k0 k1 k2 k3 k4 k5 k6 k7 k8 k9 k10 k11 k12 x0 y0
      go_wp2_with fail
      go_ret
      exact ⟨by rw [HC2.out]; rfl, b1⟩
  · have HC2 : Hid (CL = false) := by show _ = _; rw [HC.out, decide_eq_false q0]; rfl
    have q0' : (wrongRec s.rcd != 0) = true := by simpa using q0
    clear HC q0 hrb hrl
    generalize wrongRec s.rcd = WR at *
    go_enter Tryz.func18, Tryz.ntmps18
    go_wp2_with fail
    generalize (w.alloc (.cells #[.slice ea s.entry.length ec, .int .i64 s.place, .int .i64 s.shard, .slice pa s.path.length pc, .int .i64 s.rcd.shard, .int .i64 s.rcd.from', .int .i64 s.rcd.to', .int .i64 s.rcd.size, .slice ra s.rcd.root.length rc, .int .i64 s.row, .slice ba s.bookPath.length bc, .int .i64 s.hsize, .slice ha s.hroot.length hc] 46)).alloc (.cells #[.int .i64 hs, .slice va hr.length vc] 38) = w0 at *
    refine hRec.mono ?_
    rintro e w1 ⟨xa, xn, xc, rfl, ho1, hb1⟩
    have b1 := b0.trans (hb1.mono b0.size)
    clear hRec k0 k1 k2 k3 k4 k5 k6 k7 k8 k9 k10 k11 k12 x0 y0
    go_wp2_with fail
    go_ret
    exact ⟨by rw [HC2.out]; rfl, b1⟩

end Go.Proofs.YtkjlchfmplcobagGreatDoor

/- The plain mathematics of chapter 4, fourth part: the longest stretch, whatever its length; the groups of tokens one by one. -/
namespace Go.Proofs.YtkjlchfmplcobagGreatDoor

def longStep (b : List Int) (a : Nat) (p : Nat × Nat) (k : Nat) : Nat × Nat := if p.1 < matchN b (a - (k + 1)) a then (matchN b (a - (k + 1)) a, k + 1) else p
def longTo (b : List Int) (a m : Nat) : Nat × Nat := (List.range m).foldl (longStep b a) (0, 0)
theorem longTo_zero (b : List Int) (a : Nat) : longTo b a 0 = (0, 0) := rfl
theorem longTo_succ (b : List Int) (a m : Nat) : longTo b a (m + 1) = longStep b a (longTo b a m) m := by
  unfold longTo; rw [List.range_succ, List.foldl_append]; rfl
theorem long_best (b : List Int) (a : Nat) : ∀ m, bestTo b a m = if 3 ≤ (longTo b a m).1 then longTo b a m else (0, 0)
  | 0 => rfl
  | m + 1 => by
    rw [bestTo_succ, longTo_succ, long_best b a m]
    unfold bestStep longStep
    by_cases h3 : 3 ≤ (longTo b a m).1
    · rw [if_pos h3]
      by_cases hn : (longTo b a m).1 < matchN b (a - (m + 1)) a
      · rw [if_pos ⟨by omega, hn⟩, if_pos hn, if_pos (by simp only; omega)]
      · rw [if_neg (fun h => hn h.2), if_neg hn, if_pos h3]
    · rw [if_neg h3]
      by_cases hn : 3 ≤ matchN b (a - (m + 1)) a
      · have hk : (longTo b a m).1 < matchN b (a - (m + 1)) a := by omega
        rw [if_pos ⟨hn, by simp only; omega⟩, if_pos hk, if_pos (by simp only; omega)]
      · rw [if_neg (fun h => hn h.1)]
        by_cases hk : (longTo b a m).1 < matchN b (a - (m + 1)) a
        · rw [if_pos hk, if_neg (by simp only; omega)]
        · rw [if_neg hk, if_neg h3]
theorem longTo_le (b : List Int) (a : Nat) : ∀ m, (longTo b a m).1 ≤ 66 ∧ (longTo b a m).2 ≤ m
  | 0 => by rw [longTo_zero]; exact ⟨by decide, by decide⟩
  | m + 1 => by
    have h := longTo_le b a m
    have h2 := (matchN_le b (a - (m + 1)) a).1
    rw [longTo_succ]
    unfold longStep
    split
    · exact ⟨h2, Nat.le_refl _⟩
    · exact ⟨h.1, by omega⟩
/-- The token at a. -/
def tokAtL (b : List Int) (a : Nat) : Tok := if (longTo b a (min a 1024)).1 < 3 then ⟨0, 0, b.getD a 0⟩ else ⟨((longTo b a (min a 1024)).1 : Int), ((longTo b a (min a 1024)).2 : Int), 0⟩
def widN (t : Tok) : Nat := if t.len = 0 then 1 else t.len.toNat
theorem tok_here {b : List Int} {a : Nat} (h : a < b.length) : tokFrom b a = tokAtL b a :: tokFrom b (a + widN (tokAtL b a)) ∧ 1 ≤ widN (tokAtL b a) ∧ a + widN (tokAtL b a) ≤ b.length ∧ ((tokAtL b a).len = 0 ∨ (3 ≤ (tokAtL b a).len ∧ (tokAtL b a).len ≤ 66)) := by
  have hb : bestL b a = if 3 ≤ (longTo b a (min a 1024)).1 then longTo b a (min a 1024) else (0, 0) := long_best b a _
  unfold tokAtL
  by_cases h3 : (longTo b a (min a 1024)).1 < 3
  · rw [if_neg (by omega)] at hb
    rw [if_pos h3, tokFrom_byte h (by rw [hb])]
    exact ⟨rfl, Nat.le_refl _, h, .inl rfl⟩
  · rw [if_pos (by omega)] at hb
    rw [if_neg h3, tokFrom_more h (by rw [hb]; omega), hb]
    have hw : widN ⟨((longTo b a (min a 1024)).1 : Int), ((longTo b a (min a 1024)).2 : Int), 0⟩ = (longTo b a (min a 1024)).1 := by
      unfold widN; rw [if_neg (by simp only; omega)]; simp
    rw [hw]
    have hs := best_spec b a
    rw [hb] at hs
    have h66 := (longTo_le b a (min a 1024)).1
    refine ⟨rfl, by omega, ?_, .inr ⟨by simp only; omega, by simp only; omega⟩⟩
    rcases hs with hs | hs
    · rw [hs] at h3; simp at h3
    · omega
/-- The groups of the first q eights. -/
def groupQ (l : List Tok) (q : Nat) : List Tok := (l.drop (8 * q)).take 8
def groupB (g : List Tok) : List Int := (flagsN g : Int) :: g.flatMap bodyT
def groupsTo (l : List Tok) (q : Nat) : List Int := (List.range q).flatMap fun j => groupB (groupQ l j)
theorem groupsTo_succ (l : List Tok) (q : Nat) : groupsTo l (q + 1) = groupsTo l q ++ groupB (groupQ l q) := by
  unfold groupsTo; rw [List.range_succ, List.flatMap_append]; simp
theorem groups_here (l : List Tok) (q : Nat) (h : 8 * q < l.length) : groupsL (l.drop (8 * q)) = groupB (groupQ l q) ++ groupsL (l.drop (8 * (q + 1))) := by
  rw [groupsL_more (by rw [List.length_drop]; omega), List.drop_drop]
  rfl
theorem groups_to (l : List Tok) : ∀ q, 8 * q ≤ l.length + 7 → groupsL l = groupsTo l q ++ groupsL (l.drop (8 * q))
  | 0, _ => rfl
  | q + 1, h => by
    rw [groups_to l q (by omega), groups_here l q (by omega), groupsTo_succ, List.append_assoc]
theorem groups_all {l : List Tok} {q : Nat} (h : l.length ≤ 8 * q) (h2 : 8 * q ≤ l.length + 7) : groupsL l = groupsTo l q := by
  rw [groups_to l q h2, groupsL_none (by rw [List.length_drop]; omega), List.append_nil]

end Go.Proofs.YtkjlchfmplcobagGreatDoor

/- The walks of package pack's small functions: width, alike, longest, tokenAt. -/
namespace Go.Proofs.YtkjlchfmplcobagGreatDoor
open Go.RowKit

@[reducible] def tokV (t : Tok) : Value := .agg #[.int .i64 t.len, .int .i64 t.back, .int .u8 t.byte]
def widI (t : Tok) : Int := if t.len = 0 then 1 else t.len
set_option maxRecDepth 100000 in
set_option maxHeartbeats 1000000 in
theorem width_any (x y z : Int) (w : World) :
    Calls Tryz.prog 108 #[.agg #[.int .i64 x, .int .i64 y, .int .u8 z]] w fun e w' => e = .returned (.int .i64 (widI ⟨x, y, z⟩)) ∧ Below w.heap.size w w' := by
  obtain ⟨x0, x1, x2, -, -, -⟩ := box_three (box_new w #[.int .i64 x, .int .i64 y, .int .u8 z] 174)
  have bW : Below w.heap.size w (w.alloc (.cells #[.int .i64 x, .int .i64 y, .int .u8 z] 174)) := (Below.refl _ _).alloc (Nat.le_refl _) _
  by_cases hx : x = 0
  · subst hx
    go_enter Tryz.func108, Tryz.ntmps108
    go_wp2_with fail
    go_ret
    exact ⟨rfl, bW⟩
  · have hx' : (x == 0) = false := by simpa using hx
    have hw : widI ⟨x, y, z⟩ = x := by unfold widI; rw [if_neg hx]
    rw [hw]
    clear hw
    go_enter Tryz.func108, Tryz.ntmps108
    go_wp2_with fail
    go_ret
    exact ⟨rfl, bW⟩
set_option maxRecDepth 100000 in
set_option maxHeartbeats 4000000 in
theorem alike_any (b : List Int) (g o bc a f : Nat) (w : World) (hg : g < w.heap.size) (hcell : ∀ j, j < b.length → w.cell? ⟨g, o + j, none⟩ = some (.int .u8 (b.getD j 0))) (hbl : b.length ≤ 4000) (ha : a < b.length) (hf1 : 1 ≤ f) (hfa : f ≤ a) :
    Calls Tryz.prog 124 #[.slice (some ⟨g, o, none⟩) b.length bc, .int .i64 a, .int .i64 f] w fun e w' => e = .returned (.int .i64 (matchN b (a - f) a)) ∧ Below w.heap.size w w' := by
  obtain ⟨M, hM⟩ : ∃ M : Nat, M = min (b.length - a) 66 := ⟨_, rfl⟩
  obtain ⟨p, hp⟩ : ∃ p : Nat, p = a - f := ⟨_, rfl⟩
  rw [← hp]
  have hpi : (p : Int) = a - f := by omega
  have hpa : p < a := by omega
  have HP : Hid ((p : Int) = a - f) := hpi
  clear hp hpi
  rcases (show (66 : Int) < (b.length : Int) - a ∨ ¬ (66 : Int) < (b.length : Int) - a by omega) with h66 | h66
  all_goals
    go_enter Tryz.func124, Tryz.ntmps124
    go_wp2_with fail
    go_loopw [8] (fun nv wi => ∃ k : Nat, k ≤ M ∧ nv = .int .i64 k ∧ Hid (∀ j, j < k → b.getD (p + j) 0 = b.getD (a + j) 0) ∧ Below w.heap.size w wi) (fun nv _ => M - (intOf nv).toNat)
    case atStart => exact ⟨0, Nat.zero_le _, rfl, fun j hj => absurd hj (Nat.not_lt_zero _), Below.refl _ _⟩
    case round =>
      obtain ⟨wi, rfl⟩ : ∃ x, x = wr := ⟨wr, rfl⟩
      obtain ⟨k, hkM, rfl, HK, hbi⟩ := hrel
      have w1 : IntKind.i64.wrap ((a : Int) + k) = (a : Int) + k := by rw [IntKind.wrap_i64]; omega
      have w2 : IntKind.i64.wrap ((a : Int) + k - f) = (p : Int) + k := by have := HP.out; rw [IntKind.wrap_i64]; omega
      by_cases c1 : k < M
      · have e1 := (hbi.cell (p := ⟨g, o + (p + k), none⟩) hg).trans (hcell (p + k) (by omega))
        have e2 := (hbi.cell (p := ⟨g, o + (a + k), none⟩) hg).trans (hcell (a + k) (by omega))
        rw [show o + (p + k) = o + ((p : Int) + k).toNat by omega] at e1
        rw [show o + (a + k) = o + ((a : Int) + k).toNat by omega] at e2
        have j0 : (a : Int) + k < b.length := by omega
        have j1 : (p : Int) + k < b.length := by omega
        have j2 : (k : Int) < 66 := by omega
        have j2' : (k : Int) < (b.length : Int) - a := by omega
        have j3 : 0 ≤ (p : Int) + k := by omega
        have j4 : 0 ≤ (a : Int) + k := by omega
        by_cases c3 : b.getD (p + k) 0 = b.getD (a + k) 0
        · have HK2 : Hid (∀ j, j < k + 1 → b.getD (p + j) 0 = b.getD (a + j) 0) := fun j hj => by
            by_cases hjk : j = k
            · rw [hjk]; exact c3
            · exact HK.out j (by omega)
          rw [c3] at e1
          clear c3 HK hcell
          generalize b.getD (a + k) 0 = y at *
          go_wp2
          go_quiet (fail)
          go_wp2
          exact ⟨⟨k + 1, by omega, by go_num, HK2, below_drewN' hbi nq⟩, by simp [intOf]; omega⟩
        · have d3 : (b.getD (p + k) 0 == b.getD (a + k) 0) = false := by simpa using c3
          have HC3 : Hid (matchN b p a = k) := match_end (by omega) HK.out (by omega) (by omega) (.inr (.inr c3))
          clear c3 HK
          obtain ⟨y1, Hy1⟩ : ∃ y, Hid (b.getD (p + k) 0 = y) := ⟨_, rfl⟩
          obtain ⟨y2, Hy2⟩ : ∃ y, Hid (b.getD (a + k) 0 = y) := ⟨_, rfl⟩
          rw [Hy1.out] at d3 e1
          rw [Hy2.out] at d3 e2
          have d4 : decide (y1 = y2) = false := decide_eq_false (by simpa using d3)
          clear hcell
          go_wp2
          go_quiet (fail)
          go_wp2
          go_ret
          exact ⟨by rw [HC3.out]; rfl, below_drewN' hbi nq⟩
      · have HC3 : Hid (matchN b p a = k) := match_end (by omega) HK.out (by omega) (by omega) (by omega)
        have hd : ((66 : Int) < (b.length : Int) - a → decide ((k : Int) < 66) = false) ∧ (¬ (66 : Int) < (b.length : Int) - a → decide ((k : Int) < (b.length : Int) - a) = false) := ⟨fun _ => decide_eq_false (by omega), fun _ => decide_eq_false (by omega)⟩
        clear HK hcell
        have d2 := hd
        first
          | replace d2 := hd.1 h66
          | replace d2 := hd.2 (by omega)
        clear hd
        go_wp2
        go_quiet (fail)
        go_wp2
        go_ret
        exact ⟨by rw [HC3.out]; rfl, below_drewN' hbi nq⟩

end Go.Proofs.YtkjlchfmplcobagGreatDoor

/- The plain mathematics of chapter 4, third part: reading the tokens first, and telling their text then, is unpacking as one goes. -/
namespace Go.Proofs.YtkjlchfmplcobagGreatDoor

/-- The token that stands at a, told by its flag; and where it ends. -/
def unTok (b : List Int) (a f : Nat) : Option (Tok × Nat) :=
  if f % 2 = 0 then (if a < b.length then some (⟨0, 0, b.getD a 0⟩, a + 1) else none)
  else if a + 1 < b.length then some (⟨(((256 * b.getD a 0 + b.getD (a + 1) 0).toNat / 1024 + 3 : Nat) : Int), (((256 * b.getD a 0 + b.getD (a + 1) 0).toNat % 1024 + 1 : Nat) : Int), 0⟩, a + 2) else none
def wid (t : Tok) : Int := max 1 t.len
/-- Tokens read till their widths are size: the tokens, what is left of size, how far, the flags that are left. -/
def readGo (b : List Int) (size : Int) (n a f : Nat) : Option (List Tok × Int × Nat × Nat) :=
  if _h : 0 < size then
    if n % 8 = 0 ∧ ¬ a < b.length then none else
    match unTok b (if n % 8 = 0 then a + 1 else a) (if n % 8 = 0 then (b.getD a 0).toNat else f) with
    | none => none
    | some (t, a2) => (readGo b (size - wid t) (n + 1) a2 ((if n % 8 = 0 then (b.getD a 0).toNat else f) / 2)).map fun r => (t :: r.1, r.2)
  else some ([], size, a, f)
termination_by size.toNat
decreasing_by unfold wid; omega
theorem readGo_end {b : List Int} {size : Int} {n a f : Nat} (h : ¬ 0 < size) : readGo b size n a f = some ([], size, a, f) := by rw [readGo, dif_neg h]
theorem readGo_short {b : List Int} {size : Int} {n a f : Nat} (h : 0 < size) (hn : n % 8 = 0) (ha : ¬ a < b.length) : readGo b size n a f = none := by
  rw [readGo, dif_pos h, if_pos ⟨hn, ha⟩]
theorem readGo_none {b : List Int} {size : Int} {n a f : Nat} (h : 0 < size) (hu : unTok b (if n % 8 = 0 then a + 1 else a) (if n % 8 = 0 then (b.getD a 0).toNat else f) = none) : readGo b size n a f = none := by
  rw [readGo, dif_pos h]
  split
  · rfl
  · rw [hu]
theorem readGo_more {b : List Int} {size : Int} {n a f : Nat} {t : Tok} {a2 : Nat} (h : 0 < size) (hs : ¬ (n % 8 = 0 ∧ ¬ a < b.length)) (hu : unTok b (if n % 8 = 0 then a + 1 else a) (if n % 8 = 0 then (b.getD a 0).toNat else f) = some (t, a2)) :
    readGo b size n a f = (readGo b (size - wid t) (n + 1) a2 ((if n % 8 = 0 then (b.getD a 0).toNat else f) / 2)).map fun r => (t :: r.1, r.2) := by
  conv => lhs; rw [readGo]
  rw [dif_pos h, if_neg hs, hu]
/-- What comes of it at the end. -/
def unFin (b : List Int) (S : Nat) : Option (List Int × Nat × Nat) → List Int × Int
  | none => ([], 2)
  | some (out, a, f) => if a ≠ b.length ∨ out.length ≠ S ∨ f ≠ 0 then ([], 2) else (out, 0)
def readFin (b : List Int) (out : List Int) (i : Nat) : Option (List Tok × Int × Nat × Nat) → List Int × Int
  | none => ([], 2)
  | some (l, s, a, f) => if s ≠ 0 ∨ f ≠ 0 ∨ a ≠ b.length then ([], 2) else if (textFrom out i l).2.1 ≠ 0 then ([], 2) else ((textFrom out i l).1, 0)
theorem readFin_cons_bad {b out : List Int} {i : Nat} {t : Tok} (h : tokBad out.length t ≠ 0) (r : Option (List Tok × Int × Nat × Nat)) : readFin b out i (r.map fun r => (t :: r.1, r.2)) = ([], 2) := by
  cases r with
  | none => rfl
  | some r =>
    obtain ⟨l, s, a, f⟩ := r
    simp only [Option.map_some, readFin]
    split
    · rfl
    · rw [textFrom, if_pos h, if_pos h]
theorem readFin_cons {b out : List Int} {i : Nat} {t : Tok} (h : tokBad out.length t = 0) (r : Option (List Tok × Int × Nat × Nat)) : readFin b out i (r.map fun r => (t :: r.1, r.2)) = readFin b (tokPut out t) (i + 1) r := by
  cases r with
  | none => rfl
  | some r =>
    obtain ⟨l, s, a, f⟩ := r
    simp only [Option.map_some, readFin]
    have e : textFrom out i (t :: l) = textFrom (tokPut out t) (i + 1) l := by rw [textFrom, if_neg (fun h' => h' h)]
    rw [e]
theorem read_text {b : List Int} (hB : ∀ j, 0 ≤ b.getD j 0 ∧ b.getD j 0 < 256) {S : Nat} (hS : S ≤ 4000) (d : Nat) : ∀ (out : List Int) (i n a f l : Nat), S - out.length = d → l = (8 - n % 8) % 8 → unFin b S (unGo b S out a f l) = readFin b out i (readGo b ((S : Int) - out.length) n a f) := by
  induction d using Nat.strongRecOn with
  | ind d ih =>
    intro out i n a f l hd hl
    by_cases h : out.length < S
    · have hz : (l = 0) ↔ (n % 8 = 0) := by omega
      by_cases hs : n % 8 = 0 ∧ ¬ a < b.length
      · rw [readGo_short (by omega) hs.1 hs.2, unGo, dif_pos h, if_pos ⟨hz.2 hs.1, hs.2⟩]
        rfl
      · rw [unGo, dif_pos h, if_neg (fun e => hs ⟨hz.1 e.1, e.2⟩)]
        have e1 : (if l = 0 then a + 1 else a) = (if n % 8 = 0 then a + 1 else a) := by simp only [hz]
        have e2 : (if l = 0 then (b.getD a 0).toNat else f) = (if n % 8 = 0 then (b.getD a 0).toNat else f) := by simp only [hz]
        dsimp only
        rw [e1, e2]
        obtain ⟨a1, ha1⟩ : ∃ x, x = (if n % 8 = 0 then a + 1 else a) := ⟨_, rfl⟩
        obtain ⟨f1, hf1⟩ : ∃ x, x = (if n % 8 = 0 then (b.getD a 0).toNat else f) := ⟨_, rfl⟩
        rw [← ha1, ← hf1]
        have hl2 : (if l = 0 then 8 else l) - 1 = (8 - (n + 1) % 8) % 8 := by split <;> omega
        rw [hl2]
        by_cases hf : f1 % 2 = 0
        · rw [if_pos hf]
          by_cases ha : a1 < b.length
          · have hu : unTok b (if n % 8 = 0 then a + 1 else a) (if n % 8 = 0 then (b.getD a 0).toNat else f) = some (⟨0, 0, b.getD a1 0⟩, a1 + 1) := by rw [← ha1, ← hf1, unTok, if_pos hf, if_pos ha]
            rw [readGo_more (by omega) hs hu, ← hf1, if_pos ha, readFin_cons (by simp only [tokBad]; rw [if_pos trivial, if_neg (by omega)])]
            have e3 : (S : Int) - out.length - wid ⟨0, 0, b.getD a1 0⟩ = (S : Int) - (out ++ [b.getD a1 0]).length := by
              unfold wid; rw [List.length_append, List.length_singleton]; simp only; omega
            rw [e3, show tokPut out ⟨0, 0, b.getD a1 0⟩ = out ++ [b.getD a1 0] by simp [tokPut]]
            exact ih (S - (out ++ [b.getD a1 0]).length) (by rw [List.length_append, List.length_singleton]; omega) _ (i + 1) (n + 1) _ _ _ rfl rfl
          · have hu : unTok b (if n % 8 = 0 then a + 1 else a) (if n % 8 = 0 then (b.getD a 0).toNat else f) = none := by rw [← ha1, ← hf1, unTok, if_pos hf, if_neg ha]
            rw [readGo_none (by omega) hu, if_neg ha]
            rfl
        · rw [if_neg hf]
          by_cases ha : a1 + 1 < b.length
          · obtain ⟨x, hx⟩ : ∃ x, x = (256 * b.getD a1 0 + b.getD (a1 + 1) 0).toNat := ⟨_, rfl⟩
            have hu : unTok b (if n % 8 = 0 then a + 1 else a) (if n % 8 = 0 then (b.getD a 0).toNat else f) = some (⟨((x / 1024 + 3 : Nat) : Int), ((x % 1024 + 1 : Nat) : Int), 0⟩, a1 + 2) := by rw [← ha1, ← hf1, unTok, if_neg hf, if_pos ha, hx]
            rw [readGo_more (by omega) hs hu, ← hf1, if_pos ha, ← hx]
            by_cases hb : out.length < x % 1024 + 1
            · rw [if_pos hb, readFin_cons_bad]
              · rfl
              · simp only [tokBad]
                rw [if_neg (by omega)]
                split
                · decide
                · rw [if_pos (by omega)]; decide
            · rw [if_neg hb]
              by_cases hm : 4000 < out.length + (x / 1024 + 3)
              · rw [unGo_end (by rw [copyL_length]; omega), readGo_end (by unfold wid; simp only; omega)]
                simp only [unFin, readFin, Option.map_some]
                rw [if_pos (.inr (.inl (by rw [copyL_length]; omega))), if_pos (.inl (by unfold wid; simp only; omega))]
              · have h66 : x / 1024 + 3 ≤ 66 := by have := hB a1; have := hB (a1 + 1); omega
                rw [readFin_cons (by simp only [tokBad]; rw [if_neg (by omega), if_neg (by omega), if_neg (by omega), if_neg (by omega)])]
                have e3 : (S : Int) - out.length - wid ⟨((x / 1024 + 3 : Nat) : Int), ((x % 1024 + 1 : Nat) : Int), 0⟩ = (S : Int) - (copyL (x / 1024 + 3) out (x % 1024 + 1)).length := by
                  unfold wid; rw [copyL_length]; simp only; omega
                have e4 : tokPut out ⟨((x / 1024 + 3 : Nat) : Int), ((x % 1024 + 1 : Nat) : Int), 0⟩ = copyL (x / 1024 + 3) out (x % 1024 + 1) := by
                  simp only [tokPut]; rw [if_neg (by omega), Int.toNat_natCast, Int.toNat_natCast]
                rw [e3, e4]
                exact ih (S - (copyL (x / 1024 + 3) out (x % 1024 + 1)).length) (by rw [copyL_length]; omega) _ (i + 1) (n + 1) _ _ _ rfl rfl
          · have hu : unTok b (if n % 8 = 0 then a + 1 else a) (if n % 8 = 0 then (b.getD a 0).toNat else f) = none := by rw [← ha1, ← hf1, unTok, if_neg hf, if_neg ha]
            rw [readGo_none (by omega) hu, if_neg ha]
            rfl
    · rw [unGo_end h, readGo_end (by omega)]
      have e0 : readFin b out i (some ([], (S : Int) - out.length, a, f)) = if (S : Int) - out.length ≠ 0 ∨ f ≠ 0 ∨ a ≠ b.length then ([], 2) else (out, 0) := rfl
      rw [e0]
      simp only [unFin]
      by_cases hc : a ≠ b.length ∨ out.length ≠ S ∨ f ≠ 0
      · rw [if_pos hc, if_pos (by omega)]
      · rw [if_neg hc, if_neg (by omega)]
theorem unpack_read (b : List Int) (hB : ∀ j, 0 ≤ b.getD j 0 ∧ b.getD j 0 < 256) (hb : ¬ b.length < 2) (hS : ¬ 4000 < (256 * b.getD 0 0 + b.getD 1 0).toNat) : unpackL b = readFin b [] 0 (readGo b ((256 * b.getD 0 0 + b.getD 1 0).toNat : Int) 0 2 0) := by
  have h := read_text (b := b) hB (S := (256 * b.getD 0 0 + b.getD 1 0).toNat) (by omega) _ [] 0 0 2 0 0 rfl rfl
  rw [show (((256 * b.getD 0 0 + b.getD 1 0).toNat : Nat) : Int) - (([] : List Int).length : Int) = (((256 * b.getD 0 0 + b.getD 1 0).toNat : Nat) : Int) by simp] at h
  rw [← h, unpackL, if_neg hb, if_neg hS]
  rfl

end Go.Proofs.YtkjlchfmplcobagGreatDoor
