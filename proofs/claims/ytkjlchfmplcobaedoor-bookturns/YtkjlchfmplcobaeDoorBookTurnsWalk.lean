/- The walk of the law BookTurns, over the faces of package book. -/
import Derived.Test.YtkjlchfmplcobaeDoorProg
import Derived.Test.YtkjlchfmplcobaeDoorBookAlive
import Derived.WalkKit
import Derived.WalkSpells
import Derived.WalkLawsBesides
namespace Go.Proofs.YtkjlchfmplcobaeDoor
open Go.RowKit

set_option maxRecDepth 100000 in
set_option maxHeartbeats 4000000 in
theorem bookTurns_any (hBy : RecBytesC) (hPa : RecParseC) (hHe : BookHeadC) (r : Rec) (b : List Int) (rv : Value) (ba : Option Addr) (bc : Nat) (w : World) (hR : Ready w) (hr : RecV w rv r) (hb : Some' w (.slice ba b.length bc) b) (hb1 : b.length ≤ bc) (hb2 : bc ≤ maxLen) :
    Calls Tryd.prog 5 #[rv, .slice ba b.length bc] w fun e w' => e = .returned (.bool true) ∧ Below w.heap.size w w' := by
  have cA := fun w' (h : Below w.heap.size w w') => alive6_any hBy hPa hHe w' (hR.below h)
  have cB := fun w' (h : Below w.heap.size w w') => hBy r rv w' (hr.below h)
  have cP := fun w' (h : Below w.heap.size w w') => hPa b ba bc w' (hb.below h) hb1 hb2
  have hrb : Bytes r.root := by obtain ⟨_, _, -, h⟩ := hr; exact h.bytes
  have hbb := hb.bytes
  have hbs := hb.short
  have cB2 := fun w' v (p : Rec) (h : RecV w' v p) => hBy p v w' h
  have cP2 := fun w' xa xc (y : List Int) (h : Some' w' (.slice xa y.length xc) y) h1 h2 => hPa y xa xc w' h h1 h2
  have hrv := hr
  obtain ⟨ra, rc, rfl, hr0⟩ := hr
  have x0 := box_new w #[.int .i64 r.shard, .int .i64 r.from', .int .i64 r.to', .int .i64 r.size, .slice ra r.root.length rc] 40
  have b0 : Below w.heap.size w (w.alloc (.cells #[.int .i64 r.shard, .int .i64 r.from', .int .i64 r.to', .int .i64 r.size, .slice ra r.root.length rc] 40)) := (Below.refl _ _).alloc (Nat.le_refl _) _
  have cA0 := cA _ b0
  clear cA
  have rest : ∀ w', Below w.heap.size w w' → Calls Tryd.prog 15 #[.slice ba b.length bc] w' fun e w'' => ∃ qa qc, e = .returned (.tuple #[.agg #[.int .i64 (parseL b).1.shard, .int .i64 (parseL b).1.from', .int .i64 (parseL b).1.to', .int .i64 (parseL b).1.size, .slice qa (parseL b).1.root.length qc], .int .i64 (parseL b).2]) ∧ Some' w'' (.slice qa (parseL b).1.root.length qc) (parseL b).1.root ∧ Below w'.heap.size w' w'' := fun w' h => (cP w' h).mono fun e w'' ⟨v, he, hv, hbl⟩ => by
    obtain ⟨qa, qc, rfl, hq⟩ := hv
    exact ⟨qa, qc, he, hq, hbl⟩
  clear cP
  have HP : Hid ((parseL b).2 = 0 → wrongRec (parseL b).1 = 0 ∧ bytesE (parseL b).1 = b) := fun h => by
    obtain ⟨h1, h2, h3⟩ := parse_ok h
    rw [h2]
    exact ⟨h3, by unfold bytesE; rw [if_neg (fun e => e h3)]; exact row_rec h1 hbb⟩
  have HPE : Hid ((parseL b).2 ≠ 0 → (parseL b).1 = rec0) := fun h => parse_err h
  generalize parseL b = Q at *
  obtain ⟨q, qe⟩ := Q
  dsimp only at rest HP HPE
  have hqe : qe = 0 ∨ qe ≠ 0 := by omega
  by_cases hw : wrongRec r = 0
  · have hE : bytesE r = rowL r := by unfold bytesE; rw [if_neg (fun e => e hw)]
    have hl := row_length hw
    have hby := row_bytes hw hrb
    have hpr := parse_row hw
    rw [hw, hE] at cB
    go_enter Tryd.func5, Tryd.ntmps5
    go_wp2_with fail
    generalize w.alloc (.cells #[.int .i64 r.shard, .int .i64 r.from', .int .i64 r.to', .int .i64 r.size, .slice ra r.root.length rc] 40) = w0 at *
    refine cA0.mono ?_
    rintro e w1 ⟨rfl, hb1'⟩
    have b1 := b0.trans (hb1'.mono b0.size)
    have x1 := box_kept x0 hb1'
    obtain ⟨s0, s1, s2, s3, s4⟩ := box_five x1
    clear cA0 x0 b0 hb1'
    go_wp2_with fail
    refine (cB _ b1).mono ?_
    rintro e w2 ⟨xa, xn, xc, rfl, hx, hb2'⟩
    have b2 := b1.trans (hb2'.mono b1.size)
    obtain rfl : xn = 40 := by have := hx.1; rw [List.length_map, hl] at this; omega
    obtain ⟨xa', xc', ex, hc1, hc2⟩ := own_cap hx
    cases ex
    have hxs : Some' w2 (.slice xa 40 xc) (rowL r) := ⟨bytesAt_own hx, hby, by rw [hl]; unfold maxLen; omega⟩
    have cP1 := cP2 w2 xa xc (rowL r) (by rw [hl]; exact hxs) (by rw [hl]; exact hc1) hc2
    rw [hl, hpr] at cP1
    have x2 := box_kept x1 hb2'
    clear cB cP2 hx hxs s0 s1 s2 s3 s4 x1 hl hby hpr hE hw
    go_wp2_with fail
    refine cP1.mono ?_
    rintro e w3 ⟨v3, rfl, hv3, hb3⟩
    have b3 := b2.trans (hb3.mono b2.size)
    obtain ⟨ta, tc, rfl, ht⟩ := hv3
    have x3 := box_old _ (.cells #[.int .i64 r.shard, .int .i64 r.from', .int .i64 r.to', .int .i64 r.size, .slice ta r.root.length tc] 40) (box_kept x2 hb3)
    have y3 := box_new w3 #[.int .i64 r.shard, .int .i64 r.from', .int .i64 r.to', .int .i64 r.size, .slice ta r.root.length tc] 40
    have d4 : Below w3.heap.size w3 (w3.alloc (.cells #[.int .i64 r.shard, .int .i64 r.from', .int .i64 r.to', .int .i64 r.size, .slice ta r.root.length tc] 40)) := (Below.refl _ _).alloc (Nat.le_refl _) _
    have b4 := b3.trans (d4.mono b3.size)
    have sE := sameRec_yes r _ _ _ (⟨ta, tc, rfl, ht.below d4⟩ : RecV _ _ r) (hrv.below b4)
    obtain ⟨s0, s1, s2, s3, s4⟩ := box_five x3
    obtain ⟨t0, t1, t2, t3, t4⟩ := box_five y3
    clear cP1 x2 x3 y3 ht
    go_wp2_with fail
    generalize w3.alloc (.cells #[.int .i64 r.shard, .int .i64 r.from', .int .i64 r.to', .int .i64 r.size, .slice ta r.root.length tc] 40) = w4 at *
    refine sE.mono ?_
    rintro e w5 ⟨rfl, hb5⟩
    have b5 := b4.trans (hb5.mono b4.size)
    have cR := rest _ b5
    clear sE rest s0 s1 s2 s3 s4 t0 t1 t2 t3 t4
    go_wp2_with fail
    refine cR.mono ?_
    rintro e w6 ⟨qa, qc, rfl, hq, hb6⟩
    have b6 := b5.trans (hb6.mono b5.size)
    have y6 := box_new w6 #[.int .i64 q.shard, .int .i64 q.from', .int .i64 q.to', .int .i64 q.size, .slice qa q.root.length qc] 40
    have d7 : Below w6.heap.size w6 (w6.alloc (.cells #[.int .i64 q.shard, .int .i64 q.from', .int .i64 q.to', .int .i64 q.size, .slice qa q.root.length qc] 40)) := (Below.refl _ _).alloc (Nat.le_refl _) _
    have b7 := b6.trans (d7.mono b6.size)
    have hq7 : RecV (w6.alloc (.cells #[.int .i64 q.shard, .int .i64 q.from', .int .i64 q.to', .int .i64 q.size, .slice qa q.root.length qc] 40)) (.agg #[.int .i64 q.shard, .int .i64 q.from', .int .i64 q.to', .int .i64 q.size, .slice qa q.root.length qc]) q := ⟨qa, qc, rfl, hq.below d7⟩
    have hb7 := hb.below b7
    obtain ⟨t0, t1, t2, t3, t4⟩ := box_five y6
    clear cR hq
    rcases hqe with rfl | hqe
    · obtain ⟨hwq, hbq⟩ := HP.out rfl
      have cB3 := cB2 _ _ q hq7
      rw [hwq, hbq] at cB3
      clear HP HPE cB2 hq7 hwq hbq
      go_wp2_with fail
      generalize w6.alloc (.cells #[.int .i64 q.shard, .int .i64 q.from', .int .i64 q.to', .int .i64 q.size, .slice qa q.root.length qc] 40) = w7 at *
      refine cB3.mono ?_
      rintro e w8 ⟨za, zn, zc, rfl, hz, hb8⟩
      have b8 := b7.trans (hb8.mono b7.size)
      have sF := same_any b b _ _ w8 (bytesAt_own hz) (hb7.below hb8).at' hbs
      rw [decide_eq_true rfl] at sF
      clear cB3 hz t0 t1 t2 t3 t4
      go_wp2_with fail
      refine sF.mono ?_
      rintro e w9 ⟨rfl, q9, rfl⟩
      go_wp2_with fail
      go_ret
      exact ⟨rfl, below_drewN' b8 _⟩
    · have hqe' : (qe != 0) = true := by simpa using hqe
      obtain rfl := HPE.out hqe
      have sF := sameRec_yes rec0 _ _ _ hq7 (recV_zero _)
      clear HP HPE cB2 hq7 hqe
      go_wp2_with fail
      generalize w6.alloc (.cells #[.int .i64 rec0.shard, .int .i64 rec0.from', .int .i64 rec0.to', .int .i64 rec0.size, .slice qa rec0.root.length qc] 40) = w7 at *
      refine sF.mono ?_
      rintro e w8 ⟨rfl, hb8⟩
      go_wp2_with fail
      go_ret
      exact ⟨rfl, b7.trans (hb8.mono b7.size)⟩
  · have hE : bytesE r = [] := by unfold bytesE; rw [if_pos hw]
    rw [hE] at cB
    have hw' : (wrongRec r == 0) = false := by simpa using hw
    clear hE
    generalize wrongRec r = er at *
    go_enter Tryd.func5, Tryd.ntmps5
    go_wp2_with fail
    generalize w.alloc (.cells #[.int .i64 r.shard, .int .i64 r.from', .int .i64 r.to', .int .i64 r.size, .slice ra r.root.length rc] 40) = w0 at *
    refine cA0.mono ?_
    rintro e w1 ⟨rfl, hb1'⟩
    have b1 := b0.trans (hb1'.mono b0.size)
    have x1 := box_kept x0 hb1'
    obtain ⟨s0, s1, s2, s3, s4⟩ := box_five x1
    clear cA0 x0 b0 hb1'
    go_wp2_with fail
    refine (cB _ b1).mono ?_
    rintro e w2 ⟨xa, xn, xc, rfl, -, hb2'⟩
    have b5 := b1.trans (hb2'.mono b1.size)
    have cR := rest _ b5
    clear cB cP2 rest s0 s1 s2 s3 s4 x1
    go_wp2_with fail
    refine cR.mono ?_
    rintro e w6 ⟨qa, qc, rfl, hq, hb6⟩
    have b6 := b5.trans (hb6.mono b5.size)
    have y6 := box_new w6 #[.int .i64 q.shard, .int .i64 q.from', .int .i64 q.to', .int .i64 q.size, .slice qa q.root.length qc] 40
    have d7 : Below w6.heap.size w6 (w6.alloc (.cells #[.int .i64 q.shard, .int .i64 q.from', .int .i64 q.to', .int .i64 q.size, .slice qa q.root.length qc] 40)) := (Below.refl _ _).alloc (Nat.le_refl _) _
    have b7 := b6.trans (d7.mono b6.size)
    have hq7 : RecV (w6.alloc (.cells #[.int .i64 q.shard, .int .i64 q.from', .int .i64 q.to', .int .i64 q.size, .slice qa q.root.length qc] 40)) (.agg #[.int .i64 q.shard, .int .i64 q.from', .int .i64 q.to', .int .i64 q.size, .slice qa q.root.length qc]) q := ⟨qa, qc, rfl, hq.below d7⟩
    have hb7 := hb.below b7
    obtain ⟨t0, t1, t2, t3, t4⟩ := box_five y6
    clear cR hq
    rcases hqe with rfl | hqe
    · obtain ⟨hwq, hbq⟩ := HP.out rfl
      have cB3 := cB2 _ _ q hq7
      rw [hwq, hbq] at cB3
      clear HP HPE cB2 hq7 hwq hbq
      go_wp2_with fail
      generalize w6.alloc (.cells #[.int .i64 q.shard, .int .i64 q.from', .int .i64 q.to', .int .i64 q.size, .slice qa q.root.length qc] 40) = w7 at *
      refine cB3.mono ?_
      rintro e w8 ⟨za, zn, zc, rfl, hz, hb8⟩
      have b8 := b7.trans (hb8.mono b7.size)
      have sF := same_any b b _ _ w8 (bytesAt_own hz) (hb7.below hb8).at' hbs
      rw [decide_eq_true rfl] at sF
      clear cB3 hz t0 t1 t2 t3 t4
      go_wp2_with fail
      refine sF.mono ?_
      rintro e w9 ⟨rfl, q9, rfl⟩
      go_wp2_with fail
      go_ret
      exact ⟨rfl, below_drewN' b8 _⟩
    · have hqe' : (qe != 0) = true := by simpa using hqe
      obtain rfl := HPE.out hqe
      have sF := sameRec_yes rec0 _ _ _ hq7 (recV_zero _)
      clear HP HPE cB2 hq7 hqe
      go_wp2_with fail
      generalize w6.alloc (.cells #[.int .i64 rec0.shard, .int .i64 rec0.from', .int .i64 rec0.to', .int .i64 rec0.size, .slice qa rec0.root.length qc] 40) = w7 at *
      refine sF.mono ?_
      rintro e w8 ⟨rfl, hb8⟩
      go_wp2_with fail
      go_ret
      exact ⟨rfl, b7.trans (hb8.mono b7.size)⟩

end Go.Proofs.YtkjlchfmplcobaeDoor
