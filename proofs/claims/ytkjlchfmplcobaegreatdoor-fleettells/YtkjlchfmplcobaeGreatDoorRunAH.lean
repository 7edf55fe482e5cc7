/- ShelfMem, FleetRefSpoilNo, FleetRefSpoilRange, FleetRefSpoilTail, FleetRefSpoil, FleetRefWins, FleetGoBegin, FleetGoWrong, as one text. -/
import Derived.Test.YtkjlchfmplcobaeGreatDoorProg
import Derived.Test.YtkjlchfmplcobaeGreatDoorRunAC
import Derived.WalkKit
import Derived.Test.YtkjlchfmplcobaeGreatDoorRunAF
import Derived.WalkSpells
import Derived.WalkLawsBesides
import Derived.Deep.RegionHeld3
import Derived.Deep.RegionWith
import Derived.Deep.QuietTactic
import Derived.BigQuiet
import Derived.BigRegion
import Derived.Test.YtkjlchfmplcobaeGreatDoorRunAG
import Derived.Test.YtkjlchfmplcobaeGreatDoorRunAD
/- Variables that are set, and lists that lie elsewhere. -/
namespace Go.Proofs.YtkjlchfmplcobaeGreatDoor
open Go.RowKit

/-- Setting a variable that is no row of bytes, nor of slices of them. -/
theorem Laid.set {w : World} {a : Option Addr} {n c k o : Nat} {L : List (List Int)} {cs : Array Value} {t : TypeId} {mk : Nat × Nat} (h : Laid w a n c L) (hk : w.heap[k]? = some (.cells cs t mk)) (h1 : 5 ≠ t) (h2 : n ≠ 0 → ∀ g off, a = some ⟨g, off, none⟩ → g ≠ k) (u : Value) : Laid (w.setCell ⟨k, o, none⟩ u) a n c L := by
  obtain ⟨hl, vs, he, hc⟩ := h
  have hB : ∀ y d, ByteEl w y d → ByteEl (w.setCell ⟨k, o, none⟩ u) y d := fun y d hy => hy.same (fun g cur mk' hg => by
    rw [heap_setCell_other w ⟨k, o, none⟩ g u (fun e => ?_)]
    have e : g = k := e
    subst e
    rw [hg] at hk
    cases hk
    exact h1 rfl)
  have he' : Els (w.setCell ⟨k, o, none⟩ u) vs L := ⟨he.1, fun j hj => by obtain ⟨y, q1, q2⟩ := he.2 j hj; exact ⟨y, q1, hB _ _ q2⟩⟩
  have hcell : n ≠ 0 → ∀ b off, a = some ⟨b, off, none⟩ → ∀ j, (w.setCell ⟨k, o, none⟩ u).cell? ⟨b, off + j, none⟩ = w.cell? ⟨b, off + j, none⟩ := fun hn b off ha j => World.cell?_setCell_far _ _ _ _ (show k ≠ b from fun e => h2 hn b off ha e.symm)
  refine ⟨⟨hl.len, ?_, hl.room, hl.cap, hl.nil, hl.bytes, hl.short⟩, vs, he', fun ad ha j v hv => ?_⟩
  · rcases hl.at' with h | ⟨b, off, cp, e, hb, hp⟩
    · exact .inl h
    · cases e
      refine .inr ⟨b, off, c, rfl, by simpa using hb, fun j hj => ?_⟩
      obtain ⟨y, q1, q2⟩ := he'.2 j hj
      obtain ⟨ya, yc, rfl⟩ := q2.bytes.form
      refine ⟨ya, _, yc, ?_, q2.bytes⟩
      rw [hcell (by have := hl.len; omega) b off rfl]
      have := hc _ rfl j _ q1
      have e2 : (⟨b, off, none⟩ : Addr).add j = ⟨b, off + j, none⟩ := Addr.add_mid _ _ _
      rwa [e2] at this
  · have h3 := hc ad ha j v hv
    rcases hl.at' with ⟨rfl, -⟩ | ⟨b, off, cp, e, hb, hp⟩
    · have := (List.getElem?_eq_some_iff.1 hv).1
      rw [he.1] at this
      simp at this
    · cases e
      cases ha
      have e2 : (⟨b, off, none⟩ : Addr).add j = ⟨b, off + j, none⟩ := Addr.add_mid _ _ _
      rw [e2] at h3 ⊢
      rw [hcell (by have h4 := (List.getElem?_eq_some_iff.1 hv).1; rw [he.1, hl.len] at h4; omega) b off rfl]
      exact h3
end Go.Proofs.YtkjlchfmplcobaeGreatDoor

/- The walk of the reference's Step where nothing is spoilt: package yearref5. -/
namespace Go.Proofs.YtkjlchfmplcobaeGreatDoor
open Go.RowKit

set_option maxRecDepth 100000 in
set_option maxHeartbeats 4000000 in
theorem refSpoilNone_any (f : Flt) (d : Dd) (k : Nat) (τ : Nat → Tag) (N gp : Nat) (da : Option Addr) (dc : Nat) (w : World) (hF : RfF τ N w gp f) (hN : N ≤ w.heap.size) (hk : k < f.shards.length) (hst : (f.shards.getD k shd0).state = 3) (hq : d.segment < 0 ∨ ((f.shards.getD k shd0).man.segs.length : Int) ≤ d.segment) :
    Calls Tryz.prog 18 #[.pointer (some ⟨gp, 0, none⟩), .agg #[.int .i64 5, .int .i64 (k : Int), .int .i64 d.time, .slice da d.entry.length dc, .int .i64 d.segment, .int .i64 d.at', .int .u8 d.by']] w fun e w' => ∃ av, e = .returned av ∧ RfWent τ N gp w w' av (f, no 6) := by
  have b0 : Below w.heap.size w ((w.alloc (.cells #[.int .i64 5, .int .i64 (k : Int), .int .i64 d.time, .slice da d.entry.length dc, .int .i64 d.segment, .int .i64 d.at', .int .u8 d.by'] 56)).alloc (.cells #[.int .i64 0, .int .i64 0, .int .i64 0, .int .i64 0, .slice none 0 0] 41)) := ((Below.refl _ _).alloc (Nat.le_refl _) _).alloc (by simp) _
  have x0 := box_one w #[.int .i64 5, .int .i64 (k : Int), .int .i64 d.time, .slice da d.entry.length dc, .int .i64 d.segment, .int .i64 d.at', .int .u8 d.by'] 56 (.cells #[.int .i64 0, .int .i64 0, .int .i64 0, .int .i64 0, .slice none 0 0] 41)
  have z0 := box_last w (.cells #[.int .i64 5, .int .i64 (k : Int), .int .i64 d.time, .slice da d.entry.length dc, .int .i64 d.segment, .int .i64 d.at', .int .u8 d.by'] 56) #[.int .i64 0, .int .i64 0, .int .i64 0, .int .i64 0, .slice none 0 0] 41
  have HNO : ∀ (w1 : World) (x : Ans) (u0 u1 u2 u3 u4 : Value), Hid (Below w.heap.size w w1 → x.root = [] → RfWent τ N gp w (((((w1.setCell ⟨w.heap.size + 1, 0, none⟩ u0).setCell ⟨w.heap.size + 1, 1, none⟩ u1).setCell ⟨w.heap.size + 1, 2, none⟩ u2).setCell ⟨w.heap.size + 1, 3, none⟩ u3).setCell ⟨w.heap.size + 1, 4, none⟩ u4) (.agg #[.int .i64 x.err, .int .i64 x.shard, .int .i64 x.place, .int .i64 x.size, .slice none 0 0]) (f, x)) := fun w1 x u0 u1 u2 u3 u4 h1 h2 => rfwent_no hF hN h1 (by omega) h2 _ _ _ _ _
  obtain ⟨sa, sc, ba, bc, V, hB, hS⟩ := hF.open
  have U0 := upd_call (τ := τ) b0 tNo
  have hB0 := hB.upd U0 no_row
  have hS0 := hS.upd U0 no_row
  have K0 := keep_call (τ := τ) b0 hN tNo
  have hR0 : ext τ w.heap.size tNo (w.heap.size + 1) = tNo := ext_new (by omega)
  have hsl : f.shards.length ≤ 9223372036854775807 := by obtain ⟨vs, h1, -⟩ := hS.row; have := own_small h1; unfold maxLen at this; omega
  obtain ⟨g0, g1, -, -⟩ := box_two hB0.box
  obtain ⟨u0, u1, -, -, -, -, -⟩ := box_seven x0
  obtain ⟨sb, rfl, hNs, hsb, htb, hfz, hcs⟩ := (hS0.out k).cells rfl hk
  have q1 : ¬ (k : Int) < 0 := by omega
  have q2 : ¬ (f.shards.length : Int) ≤ (k : Int) := by omega
  have q1' : decide ((k : Int) < 0) = false := decide_eq_false q1
  have q2' : decide ((f.shards.length : Int) ≤ (k : Int)) = false := decide_eq_false q2
  have q3 : (0 : Int) ≤ k := by omega
  have q4 : (k : Int) < f.shards.length := by omega
  have k2 : _ = some (Value.int .i64 (f.shards.getD k shd0).state) := hcs 2 (by omega)
  rw [hst] at k2
  obtain ⟨ga, gc, hVg⟩ := (hS0.seg k hk).form
  have k6 : _ = some (V k).2.2 := hcs 6 (by omega)
  rw [hVg] at k6
  have hgl : (f.shards.getD k shd0).man.segs.length ≤ 9223372036854775807 := by obtain ⟨-, vs, h1, -⟩ := hS0.seg k hk; have := own_small h1; unfold maxLen at this; omega
  clear hF hB hS U0 hcs hst hS0 K0 hR0 hfz htb hVg
  generalize (f.shards.getD k shd0).man.segs.length = NG at *
  generalize d.segment = SG at *
  rcases hq with hq | hq
  · have hq' : decide (SG < 0) = true := decide_eq_true hq
    go_enter Tryz.func18, Tryz.ntmps18
    go_wp2_with fail
    generalize (w.alloc (.cells #[.int .i64 5, .int .i64 (k : Int), .int .i64 d.time, .slice da d.entry.length dc, .int .i64 SG, .int .i64 d.at', .int .u8 d.by'] 56)).alloc (.cells #[.int .i64 0, .int .i64 0, .int .i64 0, .int .i64 0, .slice none 0 0] 41) = w0 at *
    go_quiet (fail)
    have c1 := below_drewN' (Below.refl w0.heap.size w0) nq
    obtain ⟨v0, v1, -, -, -, -, -⟩ := box_seven (box_kept x0 c1)
    obtain ⟨p0, p1, -, -⟩ := box_two (box_kept hB0.box c1)
    generalize w0.drewN nq = wQ at *
    clear u0 u1 g0 g1
    go_wp2_with fail
    go_quiet (fail)
    have c2 := c1.trans ((below_drewN' (Below.refl wQ.heap.size wQ) nq).mono c1.size)
    generalize wQ.drewN nq = wR at *
    have c3 : Below w0.heap.size w0 (wR.alloc (.cells #[.int .i64 0, .int .i64 0, .int .i64 1, .int .i64 2, .int .i64 3, .int .i64 3] 3)) := c2.alloc c2.size _
    obtain ⟨v0, v1, -, -, v4, v5, v6⟩ := box_seven (box_kept x0 c3)
    have j2 := (c3.cell (p := ⟨sb, k * 7 + 2, none⟩) hsb).trans k2
    have six := cell_of_row _ _ 5 _ _ _ (box_new wR #[.int .i64 0, .int .i64 0, .int .i64 1, .int .i64 2, .int .i64 3, .int .i64 3] 3)
    have j6 := (c3.cell (p := ⟨sb, k * 7 + 6, none⟩) hsb).trans k6
    clear k2 k6 p0 p1
    go_wp2_with fail
    generalize wR.alloc (.cells #[.int .i64 0, .int .i64 0, .int .i64 1, .int .i64 2, .int .i64 3, .int .i64 3] 3) = wS at *
    go_quiet (fail)
    have c4 := c3.trans ((below_drewN' (Below.refl wS.heap.size wS) nq).mono c3.size)
    generalize wS.drewN nq = wT at *
    go_wp2_with fail
    refine (refNo_any 6 _).mono ?_
    rintro e w2 ⟨rfl, hb2⟩
    have c5 := c4.trans (hb2.mono c4.size)
    have b2 := b0.trans (c5.mono b0.size)
    have z1 := box_kept z0 c5
    obtain ⟨t0, t1, t2, t3, t4⟩ := box_five z1
    obtain ⟨r0, r1, r2, r3, r4⟩ := five_free z1
    obtain ⟨s0, s1, s2, s3, s4⟩ := box_five (five_set z1 (.int .i64 6) (.int .i64 0) (.int .i64 0) (.int .i64 0) (.slice none 0 0))
    have HG := HNO w2 (no 6) (.int .i64 6) (.int .i64 0) (.int .i64 0) (.int .i64 0) (.slice none 0 0)
    clear HNO z0 x0 v0 v1 v4 v5 v6 j2 j6 six
    go_wp2_with fail
    exact bodyPost_ret (v := .agg #[.int .i64 6, .int .i64 0, .int .i64 0, .int .i64 0, .slice none 0 0]) (by simp [results, Tryz.results18, go_sem, s0, s1, s2, s3, s4]) rfl ⟨_, rfl, HG.out b2 rfl⟩
  · have hq0 : ¬ SG < 0 := by omega
    have hq0' : decide (SG < 0) = false := decide_eq_false hq0
    have hq' : decide ((NG : Int) ≤ SG) = true := decide_eq_true hq
    go_enter Tryz.func18, Tryz.ntmps18
    go_wp2_with fail
    generalize (w.alloc (.cells #[.int .i64 5, .int .i64 (k : Int), .int .i64 d.time, .slice da d.entry.length dc, .int .i64 SG, .int .i64 d.at', .int .u8 d.by'] 56)).alloc (.cells #[.int .i64 0, .int .i64 0, .int .i64 0, .int .i64 0, .slice none 0 0] 41) = w0 at *
    go_quiet (fail)
    have c1 := below_drewN' (Below.refl w0.heap.size w0) nq
    obtain ⟨v0, v1, -, -, -, -, -⟩ := box_seven (box_kept x0 c1)
    obtain ⟨p0, p1, -, -⟩ := box_two (box_kept hB0.box c1)
    generalize w0.drewN nq = wQ at *
    clear u0 u1 g0 g1
    go_wp2_with fail
    go_quiet (fail)
    have c2 := c1.trans ((below_drewN' (Below.refl wQ.heap.size wQ) nq).mono c1.size)
    generalize wQ.drewN nq = wR at *
    have c3 : Below w0.heap.size w0 (wR.alloc (.cells #[.int .i64 0, .int .i64 0, .int .i64 1, .int .i64 2, .int .i64 3, .int .i64 3] 3)) := c2.alloc c2.size _
    obtain ⟨v0, v1, -, -, v4, v5, v6⟩ := box_seven (box_kept x0 c3)
    have j2 := (c3.cell (p := ⟨sb, k * 7 + 2, none⟩) hsb).trans k2
    have six := cell_of_row _ _ 5 _ _ _ (box_new wR #[.int .i64 0, .int .i64 0, .int .i64 1, .int .i64 2, .int .i64 3, .int .i64 3] 3)
    have j6 := (c3.cell (p := ⟨sb, k * 7 + 6, none⟩) hsb).trans k6
    clear k2 k6 p0 p1
    go_wp2_with fail
    generalize wR.alloc (.cells #[.int .i64 0, .int .i64 0, .int .i64 1, .int .i64 2, .int .i64 3, .int .i64 3] 3) = wS at *
    go_quiet (fail)
    have c4 := c3.trans ((below_drewN' (Below.refl wS.heap.size wS) nq).mono c3.size)
    generalize wS.drewN nq = wT at *
    go_wp2_with fail
    refine (refNo_any 6 _).mono ?_
    rintro e w2 ⟨rfl, hb2⟩
    have c5 := c4.trans (hb2.mono c4.size)
    have b2 := b0.trans (c5.mono b0.size)
    have z1 := box_kept z0 c5
    obtain ⟨t0, t1, t2, t3, t4⟩ := box_five z1
    obtain ⟨r0, r1, r2, r3, r4⟩ := five_free z1
    obtain ⟨s0, s1, s2, s3, s4⟩ := box_five (five_set z1 (.int .i64 6) (.int .i64 0) (.int .i64 0) (.int .i64 0) (.slice none 0 0))
    have HG := HNO w2 (no 6) (.int .i64 6) (.int .i64 0) (.int .i64 0) (.int .i64 0) (.slice none 0 0)
    clear HNO z0 x0 v0 v1 v4 v5 v6 j2 j6 six
    go_wp2_with fail
    exact bodyPost_ret (v := .agg #[.int .i64 6, .int .i64 0, .int .i64 0, .int .i64 0, .slice none 0 0]) (by simp [results, Tryz.results18, go_sem, s0, s1, s2, s3, s4]) rfl ⟨_, rfl, HG.out b2 rfl⟩

end Go.Proofs.YtkjlchfmplcobaeGreatDoor

/- The walk of the reference's Step where no byte is there to be spoilt: package yearref5. -/
namespace Go.Proofs.YtkjlchfmplcobaeGreatDoor
open Go.RowKit

theorem SegM.three {τ : Nat → Tag} {N : Nat} {w : World} {k n c j : Nat} {ga : Option Addr} {l : List Seg} (h : SegM τ N w k (.slice ga n c) l) (hn : l.length = n) (hj : j < n) :
    ∃ b pa pc, ga = some ⟨b, 0, none⟩ ∧ b < w.heap.size ∧ w.cell? ⟨b, j * 3, none⟩ = some (.int .i64 (l.getD j seg0).first) ∧ w.cell? ⟨b, j * 3 + 1, none⟩ = some (.int .i64 (l.getD j seg0).count) ∧ w.cell? ⟨b, j * 3 + 2, none⟩ = some (.slice pa (l.getD j seg0).packed.length pc) ∧ PkM τ N w k j (.slice pa (l.getD j seg0).packed.length pc) (l.getD j seg0).packed := by
  obtain ⟨-, vs, h1, h2⟩ := h
  rw [hn] at h1 h2
  rcases h1.2 with ⟨-, h0⟩ | ⟨g, cap, cur, e, hb, hg, -⟩
  · omega
  · simp only [Value.slice.injEq, true_and] at e
    obtain ⟨rfl, rfl⟩ := e
    obtain ⟨y, q0, q1, g2, g3⟩ := h2 j hj
    obtain ⟨pa, pc, rfl⟩ := own_form' g3.2.1
    exact ⟨g, pa, pc, rfl, lt_heap hg, (h1.cellAt (j * 3) (by omega)).trans q0, (h1.cellAt (j * 3 + 1) (by omega)).trans q1, (h1.cellAt (j * 3 + 2) (by omega)).trans g2, g3⟩
set_option maxRecDepth 100000 in
set_option maxHeartbeats 4000000 in
theorem refSpoilRange_any (f : Flt) (d : Dd) (k : Nat) (τ : Nat → Tag) (N gp : Nat) (da : Option Addr) (dc : Nat) (w : World) (hF : RfF τ N w gp f) (hN : N ≤ w.heap.size) (hk : k < f.shards.length) (hst : (f.shards.getD k shd0).state = 3) (m : Nat) (hseg : d.segment = m) (hm : m < (f.shards.getD k shd0).man.segs.length) (hq : d.at' < 0 ∨ (((f.shards.getD k shd0).man.segs.getD m seg0).packed.length : Int) ≤ d.at') :
    Calls Tryz.prog 18 #[.pointer (some ⟨gp, 0, none⟩), .agg #[.int .i64 5, .int .i64 (k : Int), .int .i64 d.time, .slice da d.entry.length dc, .int .i64 d.segment, .int .i64 d.at', .int .u8 d.by']] w fun e w' => ∃ av, e = .returned av ∧ RfWent τ N gp w w' av (f, no 3) := by
  have b0 : Below w.heap.size w ((w.alloc (.cells #[.int .i64 5, .int .i64 (k : Int), .int .i64 d.time, .slice da d.entry.length dc, .int .i64 d.segment, .int .i64 d.at', .int .u8 d.by'] 56)).alloc (.cells #[.int .i64 0, .int .i64 0, .int .i64 0, .int .i64 0, .slice none 0 0] 41)) := ((Below.refl _ _).alloc (Nat.le_refl _) _).alloc (by simp) _
  have x0 := box_one w #[.int .i64 5, .int .i64 (k : Int), .int .i64 d.time, .slice da d.entry.length dc, .int .i64 d.segment, .int .i64 d.at', .int .u8 d.by'] 56 (.cells #[.int .i64 0, .int .i64 0, .int .i64 0, .int .i64 0, .slice none 0 0] 41)
  have z0 := box_last w (.cells #[.int .i64 5, .int .i64 (k : Int), .int .i64 d.time, .slice da d.entry.length dc, .int .i64 d.segment, .int .i64 d.at', .int .u8 d.by'] 56) #[.int .i64 0, .int .i64 0, .int .i64 0, .int .i64 0, .slice none 0 0] 41
  have HNO : ∀ (w1 : World) (x : Ans) (u0 u1 u2 u3 u4 : Value), Hid (Below w.heap.size w w1 → x.root = [] → RfWent τ N gp w (((((w1.setCell ⟨w.heap.size + 1, 0, none⟩ u0).setCell ⟨w.heap.size + 1, 1, none⟩ u1).setCell ⟨w.heap.size + 1, 2, none⟩ u2).setCell ⟨w.heap.size + 1, 3, none⟩ u3).setCell ⟨w.heap.size + 1, 4, none⟩ u4) (.agg #[.int .i64 x.err, .int .i64 x.shard, .int .i64 x.place, .int .i64 x.size, .slice none 0 0]) (f, x)) := fun w1 x u0 u1 u2 u3 u4 h1 h2 => rfwent_no hF hN h1 (by omega) h2 _ _ _ _ _
  obtain ⟨sa, sc, ba, bc, V, hB, hS⟩ := hF.open
  have U0 := upd_call (τ := τ) b0 tNo
  have hB0 := hB.upd U0 no_row
  have hS0 := hS.upd U0 no_row
  have K0 := keep_call (τ := τ) b0 hN tNo
  have hR0 : ext τ w.heap.size tNo (w.heap.size + 1) = tNo := ext_new (by omega)
  have hsl : f.shards.length ≤ 9223372036854775807 := by obtain ⟨vs, h1, -⟩ := hS.row; have := own_small h1; unfold maxLen at this; omega
  obtain ⟨g0, g1, -, -⟩ := box_two hB0.box
  obtain ⟨u0, u1, -, -, -, -, -⟩ := box_seven x0
  obtain ⟨sb, rfl, hNs, hsb, htb, hfz, hcs⟩ := (hS0.out k).cells rfl hk
  have q1 : ¬ (k : Int) < 0 := by omega
  have q2 : ¬ (f.shards.length : Int) ≤ (k : Int) := by omega
  have q1' : decide ((k : Int) < 0) = false := decide_eq_false q1
  have q2' : decide ((f.shards.length : Int) ≤ (k : Int)) = false := decide_eq_false q2
  have q3 : (0 : Int) ≤ k := by omega
  have q4 : (k : Int) < f.shards.length := by omega
  have k2 : _ = some (Value.int .i64 (f.shards.getD k shd0).state) := hcs 2 (by omega)
  rw [hst] at k2
  obtain ⟨ga, gc, hVg⟩ := (hS0.seg k hk).form
  have k6 : _ = some (V k).2.2 := hcs 6 (by omega)
  have hSg := hS0.seg k hk
  rw [hVg] at k6 hSg
  have hgl : (f.shards.getD k shd0).man.segs.length ≤ 9223372036854775807 := by obtain ⟨vs, h1, -⟩ := hSg.2; have := own_small h1; unfold maxLen at this; omega
  obtain ⟨gb, pa, pc, rfl, hgb, m0, m1, m2, hpk⟩ := hSg.three rfl hm
  have hpl : ((f.shards.getD k shd0).man.segs.getD m seg0).packed.length ≤ 9223372036854775807 := by have := own_small hpk.2.1; unfold maxLen at this; omega
  clear hF hB hS U0 hcs hst hS0 K0 hR0 hfz htb hVg hSg hpk
  generalize ((f.shards.getD k shd0).man.segs.getD m seg0).packed.length = NP at *
  generalize ((f.shards.getD k shd0).man.segs.getD m seg0).first = S0 at *
  generalize ((f.shards.getD k shd0).man.segs.getD m seg0).count = S1 at *
  generalize (f.shards.getD k shd0).man.segs.length = NG at *
  generalize d.segment = SG at *
  subst hseg
  generalize d.at' = AT at *
  have o1 : ¬ (m : Int) < 0 := by omega
  have o2 : ¬ (NG : Int) ≤ (m : Int) := by omega
  have o1' : decide ((m : Int) < 0) = false := decide_eq_false o1
  have o2' : decide ((NG : Int) ≤ (m : Int)) = false := decide_eq_false o2
  have o3 : (0 : Int) ≤ m := by omega
  have o4 : (m : Int) < NG := by omega
  by_cases ha : AT < 0
  · have ha' : decide (AT < 0) = true := decide_eq_true ha
    clear hq
    go_enter Tryz.func18, Tryz.ntmps18
    go_wp2_with fail
    generalize (w.alloc (.cells #[.int .i64 5, .int .i64 (k : Int), .int .i64 d.time, .slice da d.entry.length dc, .int .i64 (m : Int), .int .i64 AT, .int .u8 d.by'] 56)).alloc (.cells #[.int .i64 0, .int .i64 0, .int .i64 0, .int .i64 0, .slice none 0 0] 41) = w0 at *
    go_quiet (fail)
    have c1 := below_drewN' (Below.refl w0.heap.size w0) nq
    obtain ⟨v0, v1, -, -, -, -, -⟩ := box_seven (box_kept x0 c1)
    obtain ⟨p0, p1, -, -⟩ := box_two (box_kept hB0.box c1)
    generalize w0.drewN nq = wQ at *
    clear u0 u1 g0 g1
    go_wp2_with fail
    go_quiet (fail)
    have c2 := c1.trans ((below_drewN' (Below.refl wQ.heap.size wQ) nq).mono c1.size)
    generalize wQ.drewN nq = wR at *
    have c3 : Below w0.heap.size w0 (wR.alloc (.cells #[.int .i64 0, .int .i64 0, .int .i64 1, .int .i64 2, .int .i64 3, .int .i64 3] 3)) := c2.alloc c2.size _
    obtain ⟨v0, v1, -, -, v4, v5, v6⟩ := box_seven (box_kept x0 c3)
    have j2 := (c3.cell (p := ⟨sb, k * 7 + 2, none⟩) hsb).trans k2
    have six := cell_of_row _ _ 5 _ _ _ (box_new wR #[.int .i64 0, .int .i64 0, .int .i64 1, .int .i64 2, .int .i64 3, .int .i64 3] 3)
    have j6 := (c3.cell (p := ⟨sb, k * 7 + 6, none⟩) hsb).trans k6
    clear k2 p0 p1
    go_wp2_with fail
    generalize wR.alloc (.cells #[.int .i64 0, .int .i64 0, .int .i64 1, .int .i64 2, .int .i64 3, .int .i64 3] 3) = wS at *
    go_quiet (fail)
    have c4 := c3.trans ((below_drewN' (Below.refl wS.heap.size wS) nq).mono c3.size)
    obtain ⟨v0, v1, -, -, v4, v5, v6⟩ := box_seven (box_kept x0 c4)
    have i6 := (c4.cell (p := ⟨sb, k * 7 + 6, none⟩) hsb).trans k6
    have n0 := (c4.cell (p := ⟨gb, m * 3, none⟩) hgb).trans m0
    have n1 := (c4.cell (p := ⟨gb, m * 3 + 1, none⟩) hgb).trans m1
    have n2 := (c4.cell (p := ⟨gb, m * 3 + 2, none⟩) hgb).trans m2
    generalize wS.drewN nq = wT at *
    have cz : Below w0.heap.size w0 (wT.alloc (.cells #[.int .i64 0, .int .i64 0, .slice none 0 0] 104)) := c4.alloc c4.size _
    obtain ⟨-, -, -, -, l4, -, -⟩ := box_seven (box_kept x0 cz)
    have l6 := (cz.cell (p := ⟨sb, k * 7 + 6, none⟩) hsb).trans k6
    have l0 := (cz.cell (p := ⟨gb, m * 3, none⟩) hgb).trans m0
    have l1 := (cz.cell (p := ⟨gb, m * 3 + 1, none⟩) hgb).trans m1
    have l2 := (cz.cell (p := ⟨gb, m * 3 + 2, none⟩) hgb).trans m2
    clear cz
    clear j2 j6 six k6 m0 m1 m2
    go_wp2_with fail
    go_region
    all_goals
      have c5 : Below w0.heap.size w0 (wT.alloc (.cells #[.int .i64 S0, .int .i64 S1, .slice pa NP pc] 104)) := c4.alloc c4.size _
      obtain ⟨v0, v1, -, -, v4, v5, v6⟩ := box_seven (box_kept x0 c5)
      obtain ⟨y0, y1, y2, -, -, -⟩ := box_three (box_new wT #[.int .i64 S0, .int .i64 S1, .slice pa NP pc] 104)
      generalize wT.alloc (.cells #[.int .i64 S0, .int .i64 S1, .slice pa NP pc] 104) = wU at *
      clear l0 l1 l2 l4 l6 n0 n1 n2 i6
      go_wp2_with fail
      refine (refNo_any 3 _).mono ?_
      rintro e w2 ⟨rfl, hb2⟩
      have c6 := c5.drew.trans (hb2.mono c5.size)
      have b2 := b0.trans (c6.mono b0.size)
      have z1 := box_kept z0 c6
      obtain ⟨t0, t1, t2, t3, t4⟩ := box_five z1
      obtain ⟨r0, r1, r2, r3, r4⟩ := five_free z1
      obtain ⟨s0, s1, s2, s3, s4⟩ := box_five (five_set z1 (.int .i64 3) (.int .i64 0) (.int .i64 0) (.int .i64 0) (.slice none 0 0))
      have HG := HNO w2 (no 3) (.int .i64 3) (.int .i64 0) (.int .i64 0) (.int .i64 0) (.slice none 0 0)
      clear HNO z0 x0 v0 v1 v4 v5 v6 y0 y1 y2
      go_wp2_with fail
      exact bodyPost_ret (v := .agg #[.int .i64 3, .int .i64 0, .int .i64 0, .int .i64 0, .slice none 0 0]) (by simp [results, Tryz.results18, go_sem, s0, s1, s2, s3, s4]) rfl ⟨_, rfl, HG.out b2 rfl⟩
  · have ha' : decide (AT < 0) = false := decide_eq_false ha
    have hb : (NP : Int) ≤ AT := by omega
    clear hq
    go_enter Tryz.func18, Tryz.ntmps18
    go_wp2_with fail
    generalize (w.alloc (.cells #[.int .i64 5, .int .i64 (k : Int), .int .i64 d.time, .slice da d.entry.length dc, .int .i64 (m : Int), .int .i64 AT, .int .u8 d.by'] 56)).alloc (.cells #[.int .i64 0, .int .i64 0, .int .i64 0, .int .i64 0, .slice none 0 0] 41) = w0 at *
    go_quiet (fail)
    have c1 := below_drewN' (Below.refl w0.heap.size w0) nq
    obtain ⟨v0, v1, -, -, -, -, -⟩ := box_seven (box_kept x0 c1)
    obtain ⟨p0, p1, -, -⟩ := box_two (box_kept hB0.box c1)
    generalize w0.drewN nq = wQ at *
    clear u0 u1 g0 g1
    go_wp2_with fail
    go_quiet (fail)
    have c2 := c1.trans ((below_drewN' (Below.refl wQ.heap.size wQ) nq).mono c1.size)
    generalize wQ.drewN nq = wR at *
    have c3 : Below w0.heap.size w0 (wR.alloc (.cells #[.int .i64 0, .int .i64 0, .int .i64 1, .int .i64 2, .int .i64 3, .int .i64 3] 3)) := c2.alloc c2.size _
    obtain ⟨v0, v1, -, -, v4, v5, v6⟩ := box_seven (box_kept x0 c3)
    have j2 := (c3.cell (p := ⟨sb, k * 7 + 2, none⟩) hsb).trans k2
    have six := cell_of_row _ _ 5 _ _ _ (box_new wR #[.int .i64 0, .int .i64 0, .int .i64 1, .int .i64 2, .int .i64 3, .int .i64 3] 3)
    have j6 := (c3.cell (p := ⟨sb, k * 7 + 6, none⟩) hsb).trans k6
    clear k2 p0 p1
    go_wp2_with fail
    generalize wR.alloc (.cells #[.int .i64 0, .int .i64 0, .int .i64 1, .int .i64 2, .int .i64 3, .int .i64 3] 3) = wS at *
    go_quiet (fail)
    have c4 := c3.trans ((below_drewN' (Below.refl wS.heap.size wS) nq).mono c3.size)
    obtain ⟨v0, v1, -, -, v4, v5, v6⟩ := box_seven (box_kept x0 c4)
    have i6 := (c4.cell (p := ⟨sb, k * 7 + 6, none⟩) hsb).trans k6
    have n0 := (c4.cell (p := ⟨gb, m * 3, none⟩) hgb).trans m0
    have n1 := (c4.cell (p := ⟨gb, m * 3 + 1, none⟩) hgb).trans m1
    have n2 := (c4.cell (p := ⟨gb, m * 3 + 2, none⟩) hgb).trans m2
    generalize wS.drewN nq = wT at *
    have cz : Below w0.heap.size w0 (wT.alloc (.cells #[.int .i64 0, .int .i64 0, .slice none 0 0] 104)) := c4.alloc c4.size _
    obtain ⟨-, -, -, -, l4, -, -⟩ := box_seven (box_kept x0 cz)
    have l6 := (cz.cell (p := ⟨sb, k * 7 + 6, none⟩) hsb).trans k6
    have l0 := (cz.cell (p := ⟨gb, m * 3, none⟩) hgb).trans m0
    have l1 := (cz.cell (p := ⟨gb, m * 3 + 1, none⟩) hgb).trans m1
    have l2 := (cz.cell (p := ⟨gb, m * 3 + 2, none⟩) hgb).trans m2
    clear cz
    clear j2 j6 six k6 m0 m1 m2
    go_wp2_with fail
    go_region
    all_goals
      have c5 : Below w0.heap.size w0 (wT.alloc (.cells #[.int .i64 S0, .int .i64 S1, .slice pa NP pc] 104)) := c4.alloc c4.size _
      obtain ⟨v0, v1, -, -, v4, v5, v6⟩ := box_seven (box_kept x0 c5)
      obtain ⟨y0, y1, y2, -, -, -⟩ := box_three (box_new wT #[.int .i64 S0, .int .i64 S1, .slice pa NP pc] 104)
      generalize wT.alloc (.cells #[.int .i64 S0, .int .i64 S1, .slice pa NP pc] 104) = wU at *
      clear l0 l1 l2 l4 l6 n0 n1 n2 i6
      go_wp2_with fail
      refine (refNo_any 3 _).mono ?_
      rintro e w2 ⟨rfl, hb2⟩
      have c6 := c5.drew.trans (hb2.mono c5.size)
      have b2 := b0.trans (c6.mono b0.size)
      have z1 := box_kept z0 c6
      obtain ⟨t0, t1, t2, t3, t4⟩ := box_five z1
      obtain ⟨r0, r1, r2, r3, r4⟩ := five_free z1
      obtain ⟨s0, s1, s2, s3, s4⟩ := box_five (five_set z1 (.int .i64 3) (.int .i64 0) (.int .i64 0) (.int .i64 0) (.slice none 0 0))
      have HG := HNO w2 (no 3) (.int .i64 3) (.int .i64 0) (.int .i64 0) (.int .i64 0) (.slice none 0 0)
      clear HNO z0 x0 v0 v1 v4 v5 v6 y0 y1 y2
      go_wp2_with fail
      exact bodyPost_ret (v := .agg #[.int .i64 3, .int .i64 0, .int .i64 0, .int .i64 0, .slice none 0 0]) (by simp [results, Tryz.results18, go_sem, s0, s1, s2, s3, s4]) rfl ⟨_, rfl, HG.out b2 rfl⟩

end Go.Proofs.YtkjlchfmplcobaeGreatDoor

/- The walk of the reference's Step where a byte is spoilt: package yearref5. -/
namespace Go.Proofs.YtkjlchfmplcobaeGreatDoor
open Go.RowKit

theorem segs_one {τ : Nat → Tag} {N : Nat} {w : World} {k : Nat} {l : List Seg} {vs : List Value} (hl : vs.length = l.length * 3) (h : ∀ j, j < l.length → ∃ y, vs[j * 3]? = some (.int .i64 (l.getD j seg0).first) ∧ vs[j * 3 + 1]? = some (.int .i64 (l.getD j seg0).count) ∧ vs[j * 3 + 2]? = some y ∧ PkM τ N w k j y (l.getD j seg0).packed) : ∀ u ∈ vs, u.oneCell' = true := by
  intro u hu
  obtain ⟨i, hi, rfl⟩ := List.mem_iff_getElem.1 hu
  have hi' := List.getElem?_eq_getElem hi
  have e : i = i / 3 * 3 + i % 3 := by omega
  have hj : i / 3 < l.length := by omega
  obtain ⟨y, h0, h1, h2, h3⟩ := h (i / 3) hj
  have hm : i % 3 = 0 ∨ i % 3 = 1 ∨ i % 3 = 2 := by omega
  rcases hm with hm | hm | hm
  · rw [hm, Nat.add_zero] at e
    rw [← e, hi'] at h0
    rw [Option.some.inj h0]; rfl
  · rw [hm] at e
    rw [← e, hi'] at h1
    rw [Option.some.inj h1]; rfl
  · rw [hm] at e
    rw [← e, hi'] at h2
    rw [Option.some.inj h2]
    obtain ⟨pa, pc, rfl⟩ := own_form' h3.2.1
    rfl
theorem own_at0 {w : World} {base n : Nat} {e : TypeId} {v : Value} {xs : List Value} (h : w.ownsRow base e 1 v n xs) (hn : 0 < n) : ∃ g c, v = .slice (some ⟨g, 0, none⟩) n c ∧ base ≤ g ∧ g < w.heap.size := by
  rcases h.2 with ⟨-, h0⟩ | ⟨g, cap, cur, e, hb, hg, -⟩
  · omega
  · exact ⟨g, cap, e, hb, lt_heap hg⟩
set_option maxRecDepth 1000000 in
set_option maxHeartbeats 4000000 in
theorem refSpoilTail {Q : Exit → Act → World → Prop} {f : Flt} {d : Dd} {k m o : Nat} {τ : Nat → Tag} {N gp sb sc bc gb gc pg qc NP NG : Nat} {da ba : Option Addr} {dc : Nat} {w w0 wT w4 : World} {V : Nat → ShV} {X : Shd} {S0 S1 : Int} {PX : List Int} {vs : List Value} {RES : Flt × Ans}
    (hQ : Hid (StepEnd Q τ N gp (w.heap.size + 1) w RES)) (hN : N ≤ w.heap.size) (b0 : Below w.heap.size w w0) (K0 : Keep τ (ext τ w.heap.size tNo) N w w0) (hB0 : RfB (ext τ w.heap.size tNo) N w0 gp (.slice (some ⟨sb, 0, none⟩) f.shards.length sc) (.slice ba f.book.length bc) f.book) (hS0 : ShM (ext τ w.heap.size tNo) N w0 (.slice (some ⟨sb, 0, none⟩) f.shards.length sc) f.shards V) (hk : k < f.shards.length) (hX : f.shards.getD k shd0 = X)
    (hR0 : ext τ w.heap.size tNo (w.heap.size + 1) = tNo) (htb : ext τ w.heap.size tNo sb = tSh) (hsb : sb < w0.heap.size) (hfz : ∀ i, w0.frozen? ⟨sb, i, none⟩ = false)
    (x0 : w0.heap[w.heap.size]? = some (.cells #[.int .i64 5, .int .i64 (k : Int), .int .i64 d.time, .slice da d.entry.length dc, .int .i64 (m : Int), .int .i64 (o : Int), .int .u8 d.by'] 56 (0, 0)))
    (z0 : w0.heap[w.heap.size + 1]? = some (.cells #[.int .i64 0, .int .i64 0, .int .i64 0, .int .i64 0, .slice none 0 0] 41 (0, 0)))
    (k6' : w0.cell? ⟨sb, k * 7 + 6, none⟩ = some (.slice (some ⟨gb, 0, none⟩) NG gc)) (HNG : Hid (X.man.segs.length = NG)) (hgn : NG ≤ 1000000) (hm : m < NG) (hrow : w0.ownsRow N 104 3 (.slice (some ⟨gb, 0, none⟩) NG gc) NG vs) (HVO : Hid (∀ u ∈ vs, u.oneCell' = true))
    (HVS : Hid (∀ i, i < X.man.segs.length → ∃ y, vs[i * 3]? = some (.int .i64 (X.man.segs.getD i seg0).first) ∧ vs[i * 3 + 1]? = some (.int .i64 (X.man.segs.getD i seg0).count) ∧ vs[i * 3 + 2]? = some y ∧ PkM (ext τ w.heap.size tNo) N w0 k i y (X.man.segs.getD i seg0).packed))
    (c4 : Below w0.heap.size w0 wT) (b4 : Below wT.heap.size wT w4) (ow4 : w4.ownsRow wT.heap.size 5 1 (.slice (some ⟨pg, 0, none⟩) NP qc) NP (PX.map (Value.int .u8))) (hbs : Bytes PX)
    (bx4 : w4.heap[wT.heap.size]? = some (.cells #[.int .i64 S0, .int .i64 S1, .slice (some ⟨pg, 0, none⟩) NP qc] 104 (0, 0)))
    (HRES : Hid (RES = (⟨f.shards.set k { X with man := { X.man with segs := X.man.segs.set m ⟨S0, S1, PX⟩ } }, f.book⟩, ⟨0, (k : Int), 0, 0, []⟩)))
    {c0 c1 c2 c5 c6 c7 c8 c9 c11 c12 c13 c14 c15 c16 c18 c19 c20 c21 c22 c23 c24 c25 c26 c27 c28 c29 c30 c31 c32 c33 c34 c35 c36 c37 c38 c39 c40 c41 c42 c43 c44 c45 c46 c47 c48 c49 c50 c51 c52 c53 c54 c55 c56 c57 c58 c59 c60 c61 c62 c63 c64 c65 c66 c67 c68 c69 c70 c71 c72 c73 c74 c75 c76 c77 c78 c79 c80 c81 c82 c83 c84 c85 c86 c87 c88 c89 c90 c91 c92 c93 c94 c95 c96 c97 c98 c99 c100 c101 c102 c103 c104 c105 c106 c107 c108 c109 c110 c111 c112 c113 c114 c115 c116 c117 c118 c119 c120 c121 c122 c123 c124 c125 c126 c127 c128 c129 c130 c131 c132 c133 c134 c135 c136 c137 c138 c139 c140 c141 c142 c143 c144 c145 c146 c147 c148 c149 c150 c151 c152 c153 c154 c155 c156 c157 c158 c159 c160 c161 c162 c163 c164 c165 c166 c167 c168 c169 c170 c171 c172 c173 c174 c175 c176 c177 c178 c179 c180 c181 c182 c183 c184 c185 c186 c187 c188 c189 c190 c191 c192 c193 c194 c195 c196 c197 c198 c199 c200 c201 c202 c203 c204 c205 c206 c207 c208 c209 c210 c211 c212 c213 c214 c215 c216 c217 c218 c219 c220 c221 c222 c223 c224 c225 c226 c227 c228 c229 c230 c231 c232 c233 c234 c235 c236 c237 c238 c239 c240 c241 c242 c243 c244 c245 c246 c247 c248 c249 c250 c251 c252 c253 c254 c255 c256 c257 c258 c259 c260 c261 c262 c263 c264 c265 c266 c267 c268 c269 c270 c271 c272 c273 c274 c275 c276 c277 c278 c279 c280 c281 c282 c283 c284 c285 c286 c287 c288 c289 c290 c291 c292 c293 c294 c295 c296 c297 c298 c299 c300 c301 c302 c303 c304 c305 c306 c307 c308 c309 c310 c311 c312 c313 c314 c315 c316 c317 c318 c319 c320 c321 c322 c323 c324 c325 c326 c327 c328 c329 c330 c331 c332 c333 c334 c335 c336 c337 c338 c339 c340 c341 c342 c343 c344 c345 : Value} : Code.wp Tryz.prog (stepFrom 57) Q ⟨#[c0, c1, c2, .pointer (some ⟨w.heap.size, 0, none⟩), .pointer (some ⟨w.heap.size + 1, 0, none⟩), c5, c6, c7, c8, c9, .pointer (some ⟨sb, k * 7, none⟩), c11, c12, c13, c14, c15, c16, .pointer (some ⟨wT.heap.size, 0, none⟩), c18, c19, c20, c21, c22, c23, c24, c25, c26, c27, c28, c29, c30, c31, c32, c33, c34, c35, c36, c37, c38, c39, c40, c41, c42, c43, c44, c45, c46, c47, c48, c49, c50, c51, c52, c53, c54, c55, c56, c57, c58, c59, c60, c61, c62, c63, c64, c65, c66, c67, c68, c69, c70, c71, c72, c73, c74, c75, c76, c77, c78, c79, c80, c81, c82, c83, c84, c85, c86, c87, c88, c89, c90, c91, c92, c93, c94, c95, c96, c97, c98, c99, c100, c101, c102, c103, c104, c105, c106, c107, c108, c109, c110, c111, c112, c113, c114, c115, c116, c117, c118, c119, c120, c121, c122, c123, c124, c125, c126, c127, c128, c129, c130, c131, c132, c133, c134, c135, c136, c137, c138, c139, c140, c141, c142, c143, c144, c145, c146, c147, c148, c149, c150, c151, c152, c153, c154, c155, c156, c157, c158, c159, c160, c161, c162, c163, c164, c165, c166, c167, c168, c169, c170, c171, c172, c173, c174, c175, c176, c177, c178, c179, c180, c181, c182, c183, c184, c185, c186, c187, c188, c189, c190, c191, c192, c193, c194, c195, c196, c197, c198, c199, c200, c201, c202, c203, c204, c205, c206, c207, c208, c209, c210, c211, c212, c213, c214, c215, c216, c217, c218, c219, c220, c221, c222, c223, c224, c225, c226, c227, c228, c229, c230, c231, c232, c233, c234, c235, c236, c237, c238, c239, c240, c241, c242, c243, c244, c245, c246, c247, c248, c249, c250, c251, c252, c253, c254, c255, c256, c257, c258, c259, c260, c261, c262, c263, c264, c265, c266, c267, c268, c269, c270, c271, c272, c273, c274, c275, c276, c277, c278, c279, c280, c281, c282, c283, c284, c285, c286, c287, c288, c289, c290, c291, c292, c293, c294, c295, c296, c297, c298, c299, c300, c301, c302, c303, c304, c305, c306, c307, c308, c309, c310, c311, c312, c313, c314, c315, c316, c317, c318, c319, c320, c321, c322, c323, c324, c325, c326, c327, c328, c329, c330, c331, c332, c333, c334, c335, c336, c337, c338, c339, c340, c341, c342, c343, c344, c345], []⟩ w4 := by
  obtain ⟨i0, hi0, hz0, hz1, hz2⟩ := info_parts Tryz.info104b
  have o3 : (0 : Int) ≤ m := by omega
  have o4 : (m : Int) < NG := by omega
  have q3 : (0 : Int) ≤ k := by omega
  have q4 : (k : Int) < f.shards.length := by omega
  conv => arg 2; whnf
  have c7 := c4.trans (b4.mono c4.size)
  have bE4 : Below w4.heap.size w4 (w4.alloc (.cells #[] 104)) := (Below.refl _ _).alloc (Nat.le_refl _) _
  have c8 := c7.trans (bE4.mono c7.size)
  have i6 := (c8.cell (p := ⟨sb, k * 7 + 6, none⟩) hsb).trans k6'
  have hrow8 := hrow.kept (grown_below c8) (by cases (Value.slice (some ⟨gb, 0, none⟩) NG gc).ownBlock <;> simp)
  have hlit := own_empty (size := 3) (base := w4.heap.size) (box_new w4 #[] 104) (Nat.le_refl _)
  have HO6 : ∀ (w6 : World) (gg gcap : Nat), Hid (w6.ownsRow w4.heap.size 104 3 (.slice (some ⟨gg, 0, none⟩) (0 + NG) gcap) (0 + NG) ([] ++ vs) → w6.ownsRow w4.heap.size 104 3 (.slice (some ⟨gg, 0, none⟩) NG gcap) NG vs) := fun w6 gg gcap h => by rw [Nat.zero_add, List.nil_append] at h; exact h
  have HF6 : ∀ (w6 : World), Hid ((w4.alloc (.cells #[] 104)).grownBy w6 (some w4.heap.size) → w6.cell? ⟨sb, k * 7 + 6, none⟩ = some (.slice (some ⟨gb, 0, none⟩) NG gc) ∧ w6.frozen? ⟨sb, k * 7 + 6, none⟩ = false) := fun w6 hg => by
    have hlt : sb < (w4.alloc (.cells #[] 104)).heap.size := Nat.lt_of_lt_of_le hsb c8.size
    have hne : some sb ≠ some w4.heap.size := fun e => by have h := Option.some.inj e; have := c7.size; omega
    exact ⟨(hg.cell_far ⟨sb, k * 7 + 6, none⟩ hlt hne).trans i6, (hg.frozen_far ⟨sb, k * 7 + 6, none⟩ hlt hne).trans ((World.frozen?_of_block (c8.block sb hsb)).trans (hfz (k * 7 + 6)))⟩
  go_wp2_with (at_builtin; refine wpList_append_src rfl (.tmp 324) (.tmp 329) 61 rfl w4.heap.size N 104 104 i0 _ 3 40 Tryz.underlying61 hi0 hz0 hz1 hz2 rfl (by decide) w4.heap.size 0 0 [] rfl hlit (some ⟨gb, 0, none⟩) NG gc vs rfl hrow8 HVO.out (by unfold maxLen; omega) (by omega) (by simp) ?_; intro gg gcap w6 ho6' hg6; have ho6 := (HO6 w6 gg gcap).out ho6'; obtain ⟨hc6, hf6⟩ := (HF6 w6).out hg6; rw [Nat.zero_add])
  have hb6T : Below wT.heap.size wT w6 := b4.trans ((bE4.grown hg6 bE4.size (fun b hb => by cases hb; exact Nat.le_refl _)).mono b4.size)
  have ho6T := ownsRow_base ho6 b4.size
  have hpg4 : pg < w4.heap.size := (ow4.lt pg rfl).2
  have hp6 : w6.ownsRow wT.heap.size 5 1 (.slice (some ⟨pg, 0, none⟩) NP qc) NP ((PX).map (Value.int .u8)) := (own_below ow4 bE4 (Nat.le_refl _)).kept hg6 (.inr (fun e => by have h : pg = w4.heap.size := Option.some.inj e; omega))
  have hgg := ho6T.lt gg rfl
  have hsbT : sb < wT.heap.size := Nat.lt_of_lt_of_le hsb c4.size
  have hxT : w.heap.size < wT.heap.size := Nat.lt_of_lt_of_le (lt_heap x0) c4.size
  have hzT : w.heap.size + 1 < wT.heap.size := Nat.lt_of_lt_of_le (lt_heap z0) c4.size
  have hnx : w.heap.size ≠ sb := fun e => by have h2 : ext τ w.heap.size tNo sb = tNo := ext_new (Nat.le_of_eq e); rw [htb] at h2; simp [tSh, tNo] at h2
  have hnz : w.heap.size + 1 ≠ sb := fun e => by rw [e, htb] at hR0; simp [tSh, tNo] at hR0
  have HW : Hid (∀ u0 u1 u2 u3 u4, RfWent τ N gp w (((((((((w6.setCell ⟨sb, k * 7 + 4 + 2, none⟩ (.slice (some ⟨gg, 0, none⟩) NG gcap)).setCell ⟨gg, m * 3, none⟩ (.int .i64 S0)).setCell ⟨gg, m * 3 + 1, none⟩ (.int .i64 S1)).setCell ⟨gg, m * 3 + 2, none⟩ (.slice (some ⟨pg, 0, none⟩) NP qc)).setCell ⟨w.heap.size + 1, 0, none⟩ u0).setCell ⟨w.heap.size + 1, 1, none⟩ u1).setCell ⟨w.heap.size + 1, 2, none⟩ u2).setCell ⟨w.heap.size + 1, 3, none⟩ u3).setCell ⟨w.heap.size + 1, 4, none⟩ u4) (.agg #[.int .i64 0, .int .i64 (k : Int), .int .i64 0, .int .i64 0, .slice none 0 0]) RES) := fun u0 u1 u2 u3 u4 => by
    rw [HRES.out]
    exact refspoil_end (s := ⟨S0, S1, PX⟩) hB0 hS0 rfl hk hX K0 hN (Nat.le_trans hN b0.size) c4 hb6T (by rw [HNG.out]; exact hm) HVS.out HNG.out ho6T hp6 hbs hR0 (by omega) (lt_heap z0) u0 u1 u2 u3 u4
  have l6 := World.cell?_setCell_same w6 ⟨sb, k * 7 + 6, none⟩ (Value.slice (some ⟨gg, 0, none⟩) NG gcap) hc6
  have ho7 := ho6T.kept (grown_set w6 sb (k * 7 + 6) (Value.slice (some ⟨gg, 0, none⟩) NG gcap)) (.inr (fun e => by have h : gg = sb := Option.some.inj e; omega))
  have bx6 : w6.heap[wT.heap.size]? = _ := (hg6.block wT.heap.size (lt_heap (box_kept bx4 bE4)) (fun e => by have h : wT.heap.size = w4.heap.size := Option.some.inj e; have := lt_heap bx4; omega)).trans (box_kept bx4 bE4)
  have bx7 := box_set_far (v := .slice (some ⟨gg, 0, none⟩) NG gcap) (o := k * 7 + 6) bx6 (Nat.ne_of_gt hsbT)
  have x7 := box_set_far (v := .slice (some ⟨gg, 0, none⟩) NG gcap) (o := k * 7 + 6) (box_kept x0 (c4.trans (hb6T.mono c4.size))) hnx
  have z7 := box_set_far (v := .slice (some ⟨gg, 0, none⟩) NG gcap) (o := k * 7 + 6) (box_kept z0 (c4.trans (hb6T.mono c4.size))) hnz
  obtain ⟨yy, g0, g1, g2, -⟩ := HVS.out m (by rw [HNG.out]; exact hm)
  have cg0 := (ho7.cellAt (m * 3) (by omega)).trans g0
  have cg1 := (ho7.cellAt (m * 3 + 1) (by omega)).trans g1
  have cg2 := (ho7.cellAt (m * 3 + 2) (by omega)).trans g2
  have fg0 := ho7.frozenAt (m * 3)
  have fg1 := ho7.frozenAt (m * 3 + 1)
  have fg2 := ho7.frozenAt (m * 3 + 2)
  clear HVS hB0 hS0 K0 hc6 hf6 ho6 ho6' hg6 bx6 bx4 ow4 hrow hrow8 hlit HO6 HF6 ho7 hp6 ho6T g0 g1 g2 i6 hb6T c8 bE4 b4 k6' hbs
  generalize w6.setCell ⟨sb, k * 7 + 4 + 2, none⟩ (.slice (some ⟨gg, 0, none⟩) NG gcap) = w7 at *
  clear x0 z0
  obtain ⟨v0, v1, -, -, v4, v5, v6⟩ := box_seven x7
  obtain ⟨y0, y1, y2, -, -, -⟩ := box_three bx7
  go_region
  have x8 := box_set_far (j := gg) (v := .slice (some ⟨pg, 0, none⟩) NP qc) (o := m * 3 + 2) (box_set_far (j := gg) (v := .int .i64 S1) (o := m * 3 + 1) (box_set_far (v := .int .i64 S0) (o := m * 3) x7 (j := gg) (by omega)) (by omega)) (by omega)
  have z8 := box_set_far (j := gg) (v := .slice (some ⟨pg, 0, none⟩) NP qc) (o := m * 3 + 2) (box_set_far (j := gg) (v := .int .i64 S1) (o := m * 3 + 1) (box_set_far (v := .int .i64 S0) (o := m * 3) z7 (j := gg) (by omega)) (by omega)) (by omega)
  clear v0 v1 v4 v5 v6 y0 y1 y2 x7 z7 bx7 cg0 cg1 cg2 fg0 fg1 fg2 l6
  generalize ((w7.setCell ⟨gg, m * 3, none⟩ (.int .i64 S0)).setCell ⟨gg, m * 3 + 1, none⟩ (.int .i64 S1)).setCell ⟨gg, m * 3 + 2, none⟩ (.slice (some ⟨pg, 0, none⟩) NP qc) = w8 at *
  obtain ⟨v0, v1, -, -, -, -, -⟩ := box_seven x8
  obtain ⟨t0, t1, t2, t3, t4⟩ := box_five z8
  obtain ⟨r0, r1, r2, r3, r4⟩ := five_free z8
  have z9 := five_set z8 (.int .i64 0) (.int .i64 (k : Int)) (.int .i64 0) (.int .i64 0) (.slice none 0 0)
  have HW2 : Hid _ := HW.out (.int .i64 0) (.int .i64 (k : Int)) (.int .i64 0) (.int .i64 0) (.slice none 0 0)
  clear HW x8 z8 hnx hnz hgg hpg4 hsbT hxT hzT
  go_wp2_with fail
  exact hQ.out _ _ _ _ _ _ _ rfl z9 (RfWent.drew HW2.out hN)

end Go.Proofs.YtkjlchfmplcobaeGreatDoor

/- The walk of the reference's Step where a byte is spoilt: package yearref5. -/
namespace Go.Proofs.YtkjlchfmplcobaeGreatDoor
open Go.RowKit

set_option maxRecDepth 100000 in
set_option maxHeartbeats 4000000 in
theorem refSpoil_any (f : Flt) (d : Dd) (k : Nat) (τ : Nat → Tag) (N gp : Nat) (da : Option Addr) (dc : Nat) (w : World) (hF : RfF τ N w gp f) (hN : N ≤ w.heap.size) (hk : k < f.shards.length) (hst : (f.shards.getD k shd0).state = 3) (m o : Nat) (hseg : d.segment = m) (hat : d.at' = o) (hm : m < (f.shards.getD k shd0).man.segs.length) (ho : o < ((f.shards.getD k shd0).man.segs.getD m seg0).packed.length) (hpl : ((f.shards.getD k shd0).man.segs.getD m seg0).packed.length ≤ 1000000) (hgn : (f.shards.getD k shd0).man.segs.length ≤ 1000000) (hby : 0 ≤ d.by' ∧ d.by' < 256) :
    Calls Tryz.prog 18 #[.pointer (some ⟨gp, 0, none⟩), .agg #[.int .i64 5, .int .i64 (k : Int), .int .i64 d.time, .slice da d.entry.length dc, .int .i64 d.segment, .int .i64 d.at', .int .u8 d.by']] w fun e w' => ∃ av, e = .returned av ∧ RfWent τ N gp w w' av (spoilL f k d) := by
  have b0 : Below w.heap.size w ((w.alloc (.cells #[.int .i64 5, .int .i64 (k : Int), .int .i64 d.time, .slice da d.entry.length dc, .int .i64 d.segment, .int .i64 d.at', .int .u8 d.by'] 56)).alloc (.cells #[.int .i64 0, .int .i64 0, .int .i64 0, .int .i64 0, .slice none 0 0] 41)) := ((Below.refl _ _).alloc (Nat.le_refl _) _).alloc (by simp) _
  have x0 := box_one w #[.int .i64 5, .int .i64 (k : Int), .int .i64 d.time, .slice da d.entry.length dc, .int .i64 d.segment, .int .i64 d.at', .int .u8 d.by'] 56 (.cells #[.int .i64 0, .int .i64 0, .int .i64 0, .int .i64 0, .slice none 0 0] 41)
  have z0 := box_last w (.cells #[.int .i64 5, .int .i64 (k : Int), .int .i64 d.time, .slice da d.entry.length dc, .int .i64 d.segment, .int .i64 d.at', .int .u8 d.by'] 56) #[.int .i64 0, .int .i64 0, .int .i64 0, .int .i64 0, .slice none 0 0] 41
  have HNO : ∀ (w1 : World) (x : Ans) (u0 u1 u2 u3 u4 : Value), Hid (Below w.heap.size w w1 → x.root = [] → RfWent τ N gp w (((((w1.setCell ⟨w.heap.size + 1, 0, none⟩ u0).setCell ⟨w.heap.size + 1, 1, none⟩ u1).setCell ⟨w.heap.size + 1, 2, none⟩ u2).setCell ⟨w.heap.size + 1, 3, none⟩ u3).setCell ⟨w.heap.size + 1, 4, none⟩ u4) (.agg #[.int .i64 x.err, .int .i64 x.shard, .int .i64 x.place, .int .i64 x.size, .slice none 0 0]) (f, x)) := fun w1 x u0 u1 u2 u3 u4 h1 h2 => rfwent_no hF hN h1 (by omega) h2 _ _ _ _ _
  obtain ⟨sa, sc, ba, bc, V, hB, hS⟩ := hF.open
  have U0 := upd_call (τ := τ) b0 tNo
  have hB0 := hB.upd U0 no_row
  have hS0 := hS.upd U0 no_row
  have K0 := keep_call (τ := τ) b0 hN tNo
  have hR0 : ext τ w.heap.size tNo (w.heap.size + 1) = tNo := ext_new (by omega)
  have hsl : f.shards.length ≤ 9223372036854775807 := by obtain ⟨vs, h1, -⟩ := hS.row; have := own_small h1; unfold maxLen at this; omega
  obtain ⟨g0, g1, -, -⟩ := box_two hB0.box
  obtain ⟨u0, u1, -, -, -, -, -⟩ := box_seven x0
  obtain ⟨sb, rfl, hNs, hsb, htb, hfz, hcs⟩ := (hS0.out k).cells rfl hk
  have q1 : ¬ (k : Int) < 0 := by omega
  have q2 : ¬ (f.shards.length : Int) ≤ (k : Int) := by omega
  have q1' : decide ((k : Int) < 0) = false := decide_eq_false q1
  have q2' : decide ((f.shards.length : Int) ≤ (k : Int)) = false := decide_eq_false q2
  have q3 : (0 : Int) ≤ k := by omega
  have q4 : (k : Int) < f.shards.length := by omega
  have k2 : _ = some (Value.int .i64 (f.shards.getD k shd0).state) := hcs 2 (by omega)
  rw [hst] at k2
  obtain ⟨j0, hj, hj0, hj1, hj2⟩ := info_parts Tryz.info5b
  obtain ⟨i0, hi0, hz0, hz1, hz2⟩ := info_parts Tryz.info104b
  obtain ⟨ga, gc, hVg⟩ := (hS0.seg k hk).form
  have k6 : _ = some (V k).2.2 := hcs 6 (by omega)
  have hSg := hS0.seg k hk
  rw [hVg] at k6 hSg
  have hgl : (f.shards.getD k shd0).man.segs.length ≤ 9223372036854775807 := by obtain ⟨vs, h1, -⟩ := hSg.2; have := own_small h1; unfold maxLen at this; omega
  obtain ⟨gb, pa, pc, rfl, hgb, m0, m1, m2, hpk⟩ := hSg.three rfl hm
  obtain ⟨-, vs, hrow, hvs⟩ := hS0.seg k hk
  rw [hVg] at hrow
  have hvo := segs_one hrow.1 hvs
  have hpkb := hpk.2.2 o
  have HPB : Hid (Bytes ((f.shards.getD k shd0).man.segs.getD m seg0).packed) := hpk.2.2
  have hpb := fun W (h : Below _ _ W) => (bytesAt_own (own_below hpk.2.1 h (Nat.le_refl _)))
  have HSP : Hid (spoilL f k d = (⟨f.shards.set k { (f.shards.getD k shd0) with man := { (f.shards.getD k shd0).man with segs := (f.shards.getD k shd0).man.segs.set m (spoilSeg ((f.shards.getD k shd0).man.segs.getD m seg0) (o : Int) d.by') } }, f.book⟩, ⟨0, (k : Int), 0, 0, []⟩)) := by
    show _ = _; unfold spoilL; rw [hseg, hat, Int.toNat_natCast, if_neg (by omega), if_neg (by omega)]
  obtain ⟨X, HX⟩ : ∃ X, Hid (f.shards.getD k shd0 = X) := ⟨_, rfl⟩
  rw [HX.out] at m0 m1 m2 hpl ho hm hgl hpb k6 hgn hrow hvs hpkb HPB
  generalize spoilL f k d = SL at *
  obtain ⟨SGM, HSG⟩ : ∃ SGM, Hid (X.man.segs.getD m seg0 = SGM) := ⟨_, rfl⟩
  rw [HSG.out] at m0 m1 m2 hpl ho hpb hpkb HPB
  obtain ⟨PK, HPK⟩ : ∃ PK, Hid (SGM.packed = PK) := ⟨_, rfl⟩
  rw [HPK.out] at m2 hpl ho hpb hpkb HPB
  obtain ⟨NP, HNP⟩ : ∃ NP, Hid (PK.length = NP) := ⟨_, rfl⟩
  rw [HNP.out] at m2 hpl ho hpb
  have HX7 : Hid (f.shards.getD k shd0 = X) := HX
  obtain ⟨S0, HS0⟩ : ∃ S0, Hid (SGM.first = S0) := ⟨_, rfl⟩
  obtain ⟨S1, HS1⟩ : ∃ S1, Hid (SGM.count = S1) := ⟨_, rfl⟩
  obtain ⟨NG, HNG⟩ : ∃ NG, Hid (X.man.segs.length = NG) := ⟨_, rfl⟩
  rw [HS0.out] at m0
  rw [HS1.out] at m1
  rw [HNG.out] at hm hgl hgn k6 hrow
  have HVS : Hid _ := hvs
  have HVO : Hid _ := hvo
  clear hvs hvo hSg hpk hVg
  clear hF hB hS U0 hcs hst
  generalize d.segment = SG at *
  subst hseg
  generalize d.at' = AT at *
  subst hat
  have o1 : ¬ (m : Int) < 0 := by omega
  have o2 : ¬ (NG : Int) ≤ (m : Int) := by omega
  have o1' : decide ((m : Int) < 0) = false := decide_eq_false o1
  have o2' : decide ((NG : Int) ≤ (m : Int)) = false := decide_eq_false o2
  have o3 : (0 : Int) ≤ m := by omega
  have o4 : (m : Int) < NG := by omega
  have a1 : ¬ (o : Int) < 0 := by omega
  have a2 : ¬ (NP : Int) ≤ (o : Int) := by omega
  go_enter Tryz.func18, Tryz.ntmps18
  go_wp2_with fail
  generalize (w.alloc (.cells #[.int .i64 5, .int .i64 (k : Int), .int .i64 d.time, .slice da d.entry.length dc, .int .i64 (m : Int), .int .i64 (o : Int), .int .u8 d.by'] 56)).alloc (.cells #[.int .i64 0, .int .i64 0, .int .i64 0, .int .i64 0, .slice none 0 0] 41) = w0 at *
  go_quiet (fail)
  have c1 := below_drewN' (Below.refl w0.heap.size w0) nq
  obtain ⟨v0, v1, -, -, -, -, -⟩ := box_seven (box_kept x0 c1)
  obtain ⟨p0, p1, -, -⟩ := box_two (box_kept hB0.box c1)
  generalize w0.drewN nq = wQ at *
  clear u0 u1 g0 g1
  go_wp2_with fail
  go_quiet (fail)
  have c2 := c1.trans ((below_drewN' (Below.refl wQ.heap.size wQ) nq).mono c1.size)
  generalize wQ.drewN nq = wR at *
  have c3 : Below w0.heap.size w0 (wR.alloc (.cells #[.int .i64 0, .int .i64 0, .int .i64 1, .int .i64 2, .int .i64 3, .int .i64 3] 3)) := c2.alloc c2.size _
  obtain ⟨v0, v1, -, -, v4, v5, v6⟩ := box_seven (box_kept x0 c3)
  have j2 := (c3.cell (p := ⟨sb, k * 7 + 2, none⟩) hsb).trans k2
  have six := cell_of_row _ _ 5 _ _ _ (box_new wR #[.int .i64 0, .int .i64 0, .int .i64 1, .int .i64 2, .int .i64 3, .int .i64 3] 3)
  have j6 := (c3.cell (p := ⟨sb, k * 7 + 6, none⟩) hsb).trans k6
  clear k2 p0 p1
  go_wp2_with fail
  generalize wR.alloc (.cells #[.int .i64 0, .int .i64 0, .int .i64 1, .int .i64 2, .int .i64 3, .int .i64 3] 3) = wS at *
  go_quiet (fail)
  have c4 := c3.trans ((below_drewN' (Below.refl wS.heap.size wS) nq).mono c3.size)
  obtain ⟨v0, v1, -, -, v4, v5, v6⟩ := box_seven (box_kept x0 c4)
  have i6 := (c4.cell (p := ⟨sb, k * 7 + 6, none⟩) hsb).trans k6
  have n0 := (c4.cell (p := ⟨gb, m * 3, none⟩) hgb).trans m0
  have n1 := (c4.cell (p := ⟨gb, m * 3 + 1, none⟩) hgb).trans m1
  have n2 := (c4.cell (p := ⟨gb, m * 3 + 2, none⟩) hgb).trans m2
  generalize wS.drewN nq = wT at *
  have cz : Below w0.heap.size w0 (wT.alloc (.cells #[.int .i64 0, .int .i64 0, .slice none 0 0] 104)) := c4.alloc c4.size _
  obtain ⟨-, -, -, -, l4, -, -⟩ := box_seven (box_kept x0 cz)
  have l6 := (cz.cell (p := ⟨sb, k * 7 + 6, none⟩) hsb).trans k6
  have l0 := (cz.cell (p := ⟨gb, m * 3, none⟩) hgb).trans m0
  have l1 := (cz.cell (p := ⟨gb, m * 3 + 1, none⟩) hgb).trans m1
  have l2 := (cz.cell (p := ⟨gb, m * 3 + 2, none⟩) hgb).trans m2
  clear cz
  have k6' := k6
  clear j2 j6 six k6 m0 m1 m2
  go_wp2_with fail
  go_region
  have c5 : Below w0.heap.size w0 (wT.alloc (.cells #[.int .i64 S0, .int .i64 S1, .slice pa NP pc] 104)).drew := (c4.alloc c4.size _).drew
  have c5T : Below wT.heap.size wT (wT.alloc (.cells #[.int .i64 S0, .int .i64 S1, .slice pa NP pc] 104)).drew := ((Below.refl _ _).alloc (Nat.le_refl _) _).drew
  have bx : (wT.alloc (.cells #[.int .i64 S0, .int .i64 S1, .slice pa NP pc] 104)).drew.heap[wT.heap.size]? = some (.cells #[.int .i64 S0, .int .i64 S1, .slice pa NP pc] 104 (0, 0)) := box_new wT #[.int .i64 S0, .int .i64 S1, .slice pa NP pc] 104
  generalize (wT.alloc (.cells #[.int .i64 S0, .int .i64 S1, .slice pa NP pc] 104)).drew = wV at *
  clear l0 l1 l2 l4 l6 n0 n1 n2 i6 v0 v1 v4 v5 v6
  obtain ⟨v0, v1, -, -, v4, v5, v6⟩ := box_seven (box_kept x0 c5)
  obtain ⟨y0, y1, y2, -, -, -⟩ := box_three bx
  have bE : Below wV.heap.size wV (wV.alloc (.cells #[] 5)) := (Below.refl _ _).alloc (Nat.le_refl _) _
  obtain ⟨e0, e1, e2, -, -, e5⟩ := box_three (box_old _ (.cells #[] 5) bx)
  have hBy := hpb _ (c5.trans (bE.mono c5.size))
  have HO2 : ∀ (w2 : World) (xx : Value), w2.ownsRow wV.heap.size 5 1 xx (0 + PK.length) ([] ++ PK.map (Value.int .u8)) → w2.ownsRow wV.heap.size 5 1 xx NP (PK.map (Value.int .u8)) := fun w2 xx h => by rw [HNP.out, Nat.zero_add] at h; exact h
  have HB2 : ∀ (w2 : World), (wV.alloc (.cells #[] 5)).grownBy w2 (some wV.heap.size) → w2.heap[wT.heap.size]? = some (.cells #[.int .i64 S0, .int .i64 S1, .slice pa NP pc] 104 (0, 0)) := fun w2 h => (h.block wT.heap.size (lt_heap (box_old _ (.cells #[] 5) bx)) (fun e => by have q1 := lt_heap bx; have q2 := Option.some.inj e; omega)).trans (box_old _ (.cells #[] 5) bx)
  go_wp2_with (at_builtin; refine wpList_append_bytes rfl (.tmp 304) (.tmp 306) 37 rfl wV.heap.size 5 j0 (.int .u8 0) Tryz.underlying37 hj hj0 hj1 hj2 rfl _ 0 [] rfl (World.ownsRow_lit wV #[] 0 (Nat.le_refl _) (by unfold maxLen; omega) rfl) pa NP pc PK rfl hBy (by have := HNP.out; unfold maxLen; omega) (by have := HNP.out; omega) (by simp) ?_; intro xx w2 ho' hg; have ho2 : w2.ownsRow wV.heap.size 5 1 xx NP (PK.map (Value.int .u8)) := HO2 _ _ ho'; obtain ⟨pg, qc, rfl, hpg, hplt⟩ := own_at0 ho2 (Nat.lt_of_le_of_lt (Nat.zero_le o) ho); have bx2 : w2.heap[wT.heap.size]? = some (.cells #[.int .i64 S0, .int .i64 S1, .slice pa NP pc] 104 (0, 0)) := HB2 _ hg; obtain ⟨d0, d1, d2, -, -, d5⟩ := box_three bx2)
  have ltT : wT.heap.size < wV.heap.size := lt_heap bx
  have hbV2 : Below wV.heap.size wV w2 := bE.grown hg bE.size (fun b hb => by cases hb; exact Nat.le_refl _)
  have hbT3 : Below wT.heap.size wT (w2.setCell ⟨wT.heap.size, 2, none⟩ (.slice (some ⟨pg, 0, none⟩) NP qc)) := (c5T.trans (hbV2.mono c5T.size)).setCell (Nat.le_refl _) _
  have ow3 : (w2.setCell ⟨wT.heap.size, 2, none⟩ (.slice (some ⟨pg, 0, none⟩) NP qc)).ownsRow wT.heap.size 5 1 (.slice (some ⟨pg, 0, none⟩) NP qc) NP (PK.map (Value.int .u8)) := ownsRow_base (ho2.kept (grown_set w2 wT.heap.size 2 _) (.inr (fun e => by have h : pg = wT.heap.size := Option.some.inj e; omega))) (Nat.le_of_lt ltT)
  have bx3 : (w2.setCell ⟨wT.heap.size, 2, none⟩ (.slice (some ⟨pg, 0, none⟩) NP qc)).heap[wT.heap.size]? = some (.cells #[.int .i64 S0, .int .i64 S1, .slice (some ⟨pg, 0, none⟩) NP qc] 104 (0, 0)) := heap_setCell_same _ _ 2 _ _ _ bx2
  clear v0 v1 v4 v5 v6 y0 y1 y2 e0 e1 e2 e5 hBy HO2 HB2 d0 d1 d2 d5 ho' ho2 hg bx2 bx hbV2 bE c5 c5T hplt
  generalize w2.setCell ⟨wT.heap.size, 2, none⟩ (.slice (some ⟨pg, 0, none⟩) NP qc) = w3 at *
  have c6 := c4.trans (hbT3.mono c4.size)
  obtain ⟨v0, v1, -, -, v4, v5, v6⟩ := box_seven (box_kept x0 c6)
  obtain ⟨y0, y1, y2, -, -, -⟩ := box_three bx3
  obtain ⟨pg', e', hcp, hfp, -⟩ := own_get (z := 0) ow3 o ho
  cases e'
  obtain ⟨PO, HPO⟩ : ∃ PO, Hid (PK.getD o 0 = PO) := ⟨_, rfl⟩
  rw [HPO.out] at hcp
  have a3 : (0 : Int) ≤ o := by omega
  have a4 : (o : Int) < NP := by omega
  obtain ⟨PX, HPX⟩ : ∃ PX, Hid (xorI PO d.by' = PX) := ⟨_, rfl⟩
  have HXO : Hid (bits .xor .u8 PO d.by' = PX) := by show _ = _; rw [← HPX.out]; exact bits_xor_u8 (by rw [← HPO.out]; exact hpkb) hby
  have hPXb : 0 ≤ PX ∧ PX < 256 := by rw [← HPX.out]; exact xorI_bound (by rw [← HPO.out]; exact hpkb) hby
  have hpgT : wT.heap.size ≤ pg := by omega
  go_region
  rw [HXO.out]
  have b4 : Below wT.heap.size wT (w3.setCell ⟨pg, o, none⟩ (.int .u8 PX)).drew := (hbT3.setCell hpgT _).drew
  have ow4 : (w3.setCell ⟨pg, o, none⟩ (.int .u8 PX)).drew.ownsRow wT.heap.size 5 1 (.slice (some ⟨pg, 0, none⟩) NP qc) NP ((PK.set o PX).map (Value.int .u8)) := by
    have := (ow3.stored o (.int .u8 PX)).1
    rw [← List.map_set] at this
    exact this
  have bx4 : (w3.setCell ⟨pg, o, none⟩ (.int .u8 PX)).drew.heap[wT.heap.size]? = some (.cells #[.int .i64 S0, .int .i64 S1, .slice (some ⟨pg, 0, none⟩) NP qc] 104 (0, 0)) := box_set_far (o := o) (v := .int .u8 PX) bx3 (by omega)
  have HW4 : Hid (SL = (⟨f.shards.set k { X with man := { X.man with segs := X.man.segs.set m ⟨S0, S1, PK.set o PX⟩ } }, f.book⟩, ⟨0, (k : Int), 0, 0, []⟩)) := by
    show _ = _
    rw [HSP.out, HX.out, HSG.out]
    unfold spoilSeg
    rw [HPK.out, Int.toNat_natCast, HPO.out, HPX.out, HS0.out, HS1.out]
  have hbs : Bytes (PK.set o PX) := by
    refine bytes_of_mem (fun y hy => ?_)
    rcases List.mem_or_eq_of_mem_set hy with h | rfl
    · exact bytes_forall HPB.out y h
    · exact hPXb
  rename (∀ (a : Act) (w : World), Code.wp _ _ _ a w → _) => hKK
  refine hKK _ _ ?_
  exact refSpoilTail (stepEnd_body _ _ _ _ _ _) hN b0 K0 hB0 hS0 hk HX.out hR0 htb hsb hfz x0 z0 k6' HNG hgn hm hrow HVO HVS c4 b4 ow4 hbs bx4 HW4

end Go.Proofs.YtkjlchfmplcobaeGreatDoor

/- The walk of yearref5.WrongWindows. -/
namespace Go.Proofs.YtkjlchfmplcobaeGreatDoor
open Go.RowKit

theorem WinsAt.get {w : World} {a : Option Addr} {n c : Nat} {l : List Win} (h : WinsAt w (.slice a n c) l) (hn : l.length = n) {j : Nat} (hj : j < n) : ∃ b o, a = some ⟨b, o, none⟩ ∧ b < w.heap.size ∧ ∀ i, i < n → WinCells w b (o + i * 2) (l.getD i win0) := by
  obtain ⟨a', c', e, -, -, -, h5⟩ := h
  rw [hn] at e h5
  cases e
  obtain ⟨b, off, h6, h7, h8⟩ := h5.resolve_left (by omega)
  exact ⟨b, off, h6, h7, h8⟩
set_option maxRecDepth 100000 in
set_option maxHeartbeats 4000000 in
theorem refWins_any (l : List Win) (a : Option Addr) (n c : Nat) (w : World) (hl : WinsAt w (.slice a n c) l) (hn : l.length = n) :
    Calls Tryz.prog 8 #[.slice a n c] w fun e w' => e = .returned (faultV (wrongWins l)) ∧ Below w.heap.size w w' := by
  have hcap : n ≤ maxLen := by obtain ⟨a', c', e, h2, h3, -⟩ := hl; cases e; omega
  unfold maxLen at hcap
  have b0 : Below w.heap.size w (w.alloc (.cells #[.int .i64 0, .int .i64 0] 31)) := (Below.refl _ _).alloc (Nat.le_refl _) _
  have x0 := box_new w #[.int .i64 0, .int .i64 0] 31
  by_cases h8 : 8 < n
  · have HE : Hid (wrongWins l = (5, 0)) := wrongWins_many (by omega)
    have h8' : (8 : Int) < n := by omega
    clear hl
    go_enter Tryz.func8, Tryz.ntmps8
    go_wp2_with fail
    exact bodyPost_ret (v := faultV (5, 0)) (by simp [results, Tryz.results8, go_sem]) rfl ⟨by rw [HE.out], (Below.refl _ _).alloc (Nat.le_refl _) _⟩
  · have h8' : ¬ (8 : Int) < n := by omega
    have HW1 : ∀ k : Nat, Hid (k < n → (∀ j, j < k → wrongWin l j = 0) → wrongWin l k ≠ 0 → wrongWins l = (wrongWin l k, (k : Int))) := fun k h1 h2 h3 => wrongWins_at (by omega) (by omega) h2 h3
    have HW2 : Hid ((∀ j, j < n → wrongWin l j = 0) → wrongWins l = (0, 0)) := fun h => wrongWins_none (by omega) (fun j hj => h j (by omega))
    go_enter Tryz.func8, Tryz.ntmps8
    go_wp2_with fail
    generalize w.alloc (.cells #[.int .i64 0, .int .i64 0] 31) = w0 at *
    go_loopw [11] (fun kv wr => ∃ k : Nat, k ≤ n ∧ kv = .int .i64 k ∧ Hid (∀ j, j < k → wrongWin l j = 0) ∧ wr.heap[w.heap.size]? = some (.cells #[.int .i64 0, .int .i64 0] 31 (0, 0)) ∧ Below w.heap.size w wr) (fun kv _ => n - (intOf kv).toNat)
    case atStart => exact ⟨0, Nat.zero_le _, rfl, fun _ hj => absurd hj (Nat.not_lt_zero _), x0, b0⟩
    case round =>
      obtain ⟨wo, rfl⟩ : ∃ x, x = wr := ⟨wr, rfl⟩
      obtain ⟨k, hk, rfl, HO, xo, hbr⟩ := hrel
      have hsr := hbr.size
      clear x0 b0
      by_cases hlt : k < n
      · have hlt' : (k : Int) < n := by omega
        obtain ⟨g, o, rfl, hg, hcs⟩ := (hl.below hbr).get hn hlt
        obtain ⟨d0, d1⟩ := hcs k hlt
        have HV := HW1 k
        have HWk : Hid (wrongWin l k = if (l.getD k win0).a < 0 ∨ (l.getD k win0).b ≤ (l.getD k win0).a ∨ 1000000 < (l.getD k win0).b then 3 else if 0 < k ∧ (l.getD k win0).a < (l.getD (k - 1) win0).b then 7 else 0) := rfl
        have HF : Hid (wrongWin l k = 0 → ∀ j, j < k + 1 → wrongWin l j = 0) := fun h j hj => by
          by_cases e : j = k
          · rw [e]; exact h
          · exact HO.out j (by omega)
        have hprev := fun (h : 0 < k) => (hcs (k - 1) (by omega)).2
        clear hcs HW1 HW2
        have hd5 : Below wo.heap.size wo (wo.alloc (.cells #[.int .i64 (l.getD k win0).a, .int .i64 (l.getD k win0).b] 60)) := (Below.refl _ _).alloc (Nat.le_refl _) _
        have b5 := hbr.trans (hd5.mono hsr)
        have x5 := box_kept xo hd5
        have y5 := box_new wo #[.int .i64 (l.getD k win0).a, .int .i64 (l.getD k win0).b] 60
        have hprev5 := fun (h : 0 < k) => (hd5.cell (p := ⟨g, o + (k - 1) * 2 + 1, none⟩) hg).trans (hprev h)
        obtain ⟨t0, t1, -, -⟩ := box_two y5
        obtain ⟨u0, u1, u2, u3⟩ := box_two x5
        clear hprev
        generalize (l.getD k win0).a = A at *
        generalize (l.getD k win0).b = B at *
        generalize (l.getD (k - 1) win0).b = C at *
        have fin3 : A < 0 ∨ B ≤ A ∨ 1000000 < B → Hid (wrongWins l = (3, (k : Int))) := fun h => by
          show _ = _
          have h3 : wrongWin l k = 3 := by rw [HWk.out, if_pos h]
          rw [HV.out hlt HO.out (by rw [h3]; decide), h3]
        have bE := fun (e : Int) => two_below b5 (Nat.le_refl w.heap.size) (.int .i64 e) (.int .i64 (k : Int))
        have rE := fun (e : Int) => box_two (two_set x5 (.int .i64 e) (.int .i64 (k : Int)))
        by_cases q1 : A < 0
        · have HE := fin3 (.inl q1)
          obtain ⟨r0, r1, -, -⟩ := rE 3
          clear fin3 HV HWk HF hprev5 rE
          go_wp2_with fail
          exact bodyPost_ret (v := faultV (3, (k : Int))) (by simp [results, Tryz.results8, go_sem, r0, r1]) rfl ⟨by rw [HE.out], bE 3⟩
        by_cases q2 : B ≤ A
        · have HE := fin3 (.inr (.inl q2))
          obtain ⟨r0, r1, -, -⟩ := rE 3
          clear fin3 HV HWk HF hprev5 rE
          go_wp2_with fail
          exact bodyPost_ret (v := faultV (3, (k : Int))) (by simp [results, Tryz.results8, go_sem, r0, r1]) rfl ⟨by rw [HE.out], bE 3⟩
        by_cases q3 : 1000000 < B
        · have HE := fin3 (.inr (.inr q3))
          obtain ⟨r0, r1, -, -⟩ := rE 3
          clear fin3 HV HWk HF hprev5 rE
          go_wp2_with fail
          exact bodyPost_ret (v := faultV (3, (k : Int))) (by simp [results, Tryz.results8, go_sem, r0, r1]) rfl ⟨by rw [HE.out], bE 3⟩
        have HWk2 : Hid (wrongWin l k = if 0 < k ∧ A < C then 7 else 0) := by show _ = _; rw [HWk.out, if_neg (by omega)]
        clear fin3 HWk
        by_cases q4 : 0 < k
        · have q4' : (0 : Int) < k := by omega
          have q5 : (1 : Int) ≤ k := by omega
          have hp := hprev5 q4
          have hk1 : ((k : Int) - 1) < n := by omega
          by_cases q6 : A < C
          · have HE : Hid (wrongWins l = (7, (k : Int))) := by
              show _ = _
              have h7 : wrongWin l k = 7 := by rw [HWk2.out, if_pos ⟨q4, q6⟩]
              rw [HV.out hlt HO.out (by rw [h7]; decide), h7]
            clear HV HWk2 HF hprev5 rE
            go_wp2_with fail
            go_quiet (fail)
            go_wp2_with fail
            have dq := below_drewN' (Below.refl (wo.alloc (.cells #[.int .i64 A, .int .i64 B] 60)).heap.size (wo.alloc (.cells #[.int .i64 A, .int .i64 B] 60))) nq
            have x6 := box_kept x5 dq
            obtain ⟨s0, s1, -, -⟩ := box_two (two_set x6 (.int .i64 7) (.int .i64 (k : Int)))
            have b6 := two_below (b5.trans (dq.mono b5.size)) (Nat.le_refl w.heap.size) (.int .i64 7) (.int .i64 (k : Int))
            exact bodyPost_ret (v := faultV (7, (k : Int))) (by simp [results, Tryz.results8, go_sem, s0, s1]) rfl ⟨by rw [HE.out], b6⟩
          · have H0 : wrongWin l k = 0 := by rw [HWk2.out, if_neg (fun h => q6 h.2)]
            have HF2 : Hid (∀ j, j < k + 1 → wrongWin l j = 0) := HF.out H0
            clear HV HWk2 HF hprev5 rE H0
            go_wp2_with fail
            go_quiet (fail)
            go_wp2_with fail
            go_roundw
            case rel => exact ⟨k + 1, by omega, by go_num, HF2, x5, below_drewN' b5 _⟩
            case measure => simp [intOf]; omega
        · obtain rfl : k = 0 := by omega
          have H0 : wrongWin l 0 = 0 := by rw [HWk2.out, if_neg (fun h => absurd h.1 (Nat.lt_irrefl _))]
          have HF2 : Hid (∀ j, j < 0 + 1 → wrongWin l j = 0) := HF.out H0
          rw [Nat.zero_mul, Nat.add_zero] at d0 d1
          clear HV HWk2 HF hprev5 rE H0
          go_wp2_with fail
          go_quiet (fail)
          go_wp2_with fail
          go_roundw
          case rel => exact ⟨0 + 1, by omega, by go_num, HF2, x5, below_drewN' b5 _⟩
          case measure => simp [intOf]; omega
      · obtain rfl : k = n := by omega
        have hnl : ¬ (k : Int) < k := by omega
        have HE : Hid (wrongWins l = (0, 0)) := HW2.out HO.out
        obtain ⟨u0, u1, u2, u3⟩ := box_two xo
        obtain ⟨r0, r1, -, -⟩ := box_two (two_set xo (.int .i64 0) (.int .i64 0))
        have bE := two_below hbr (Nat.le_refl w.heap.size) (.int .i64 0) (.int .i64 0)
        clear HW1 HW2 HO hl
        go_wp2_with fail
        exact bodyPost_ret (v := faultV (0, 0)) (by simp [results, Tryz.results8, go_sem, r0, r1]) rfl ⟨by rw [HE.out], bE⟩

end Go.Proofs.YtkjlchfmplcobaeGreatDoor

/- The walk of begin: package fleet as it landed. -/
namespace Go.Proofs.YtkjlchfmplcobaeGreatDoor
open Go.RowKit

theorem Tryz.info65b : (Tryz.prog.info? 65).map (fun i => (i.zero, i.size, i.bytes)) = some (some (.agg #[.int .i64 0, .int .i64 0, .int .i64 0, .slice none 0 0, .int .i64 0, .slice none 0 0, .slice none 0 0]), 7, 104) := by kernel_rfl
def nilV : ShV := (.slice none 0 0, .slice none 0 0, .slice none 0 0)
theorem start_get {ws : List Win} {k : Nat} (hk : k < ws.length) : (startL ws).shards.getD k shd0 = ⟨(ws.getD k win0).a, (ws.getD k win0).b, 1, [], man0⟩ := wins_get ws hk
/-- The shards' cells, so far. -/
def Beg (ws : List Win) (vs : List Value) (j : Nat) : Prop := ∀ k, k < j → ∀ i, i < 7 → vs[k * 7 + i]? = (shdV ⟨(ws.getD k win0).a, (ws.getD k win0).b, 1, [], man0⟩ nilV)[i]?
theorem beg_nil (ws : List Win) : Beg ws [] 0 := fun _ h => absurd h (Nat.not_lt_zero _)
theorem Beg.snoc {ws : List Win} {vs : List Value} {j : Nat} (h : Beg ws vs j) (hl : vs.length = j * 7) : Beg ws (vs ++ shdV ⟨(ws.getD j win0).a, (ws.getD j win0).b, 1, [], man0⟩ nilV) (j + 1) := fun k hk i hi => by
  by_cases e : k < j
  · rw [List.getElem?_append_left (by omega)]; exact h k e i hi
  · obtain rfl : k = j := by omega
    rw [List.getElem?_append_right (by omega), hl, show k * 7 + i - k * 7 = i by omega]
theorem beg_fleet {ws : List Win} {N gp n c : Nat} {w : World} {sa : Option Addr} {vs : List Value} (hn : ws.length = n) (hrow : w.ownsRow N 65 7 (.slice sa n c) n vs) (hB : Beg ws vs n) (hbox : w.heap[gp]? = some (.cells #[.slice sa n c, .slice none 0 0] 59 (0, 0))) (hgp : N ≤ gp) :
    ∃ τ : Nat → Tag, GoF τ N w gp (startL ws) ∧ ∀ b, b < N → τ b = tNo := by
  have hlen : (startL ws).shards.length = n := by simp [startL, hn]
  have hne : (Value.slice sa n c).ownBlock ≠ some gp := fun h => by
    rcases hrow.2 with ⟨e, -⟩ | ⟨g, cap, cur, e, -, hh, -⟩
    · rw [e] at h; cases h
    · rw [e] at h
      cases h
      rw [hh] at hbox
      cases hbox
  refine ⟨fun b => if b = gp then tFl else if (Value.slice sa n c).ownBlock = some b then tSh else tNo, ⟨hgp, if_pos rfl, .slice sa n c, .slice none 0 0, fun _ => nilV, hbox, ⟨fun b hb => ?_, ⟨vs, by rw [hlen]; exact hrow, fun k hk i hi => ?_⟩, fun k hk => ?_, fun k hk => ?_, fun k hk => ?_⟩, bkM_nil _ _ _⟩, fun b hb => ?_⟩
  · refine ⟨(hrow.lt b hb).2, ?_⟩
    have : b ≠ gp := fun e => hne (by rw [← e]; exact hb)
    show (if b = gp then _ else _) = _
    rw [if_neg this, if_pos hb]
  · rw [hlen] at hk
    rw [start_get (by omega)]
    exact hB k hk i hi
  · rw [hlen] at hk
    rw [start_get (by omega)]
    exact entM_nil _ _ _ _
  · rw [hlen] at hk
    rw [start_get (by omega)]
    exact byM_nil _ _
  · rw [hlen] at hk
    rw [start_get (by omega)]
    exact segM_nil _ _ _ _
  · have h1 : b ≠ gp := by omega
    have h2 : (Value.slice sa n c).ownBlock ≠ some b := fun h => by have := (hrow.lt b h).1; omega
    show (if b = gp then _ else _) = _
    rw [if_neg h1, if_neg h2]
theorem lit_shd (w : World) (s : Shd) (v : ShV) (t : TypeId) : ∀ (j : Nat) (u : Value), (shdV s v)[j]? = some u → (w.alloc (.cells #[.int .i64 s.from', .int .i64 s.to', .int .i64 s.state, v.1, .int .i64 s.man.size, v.2.1, v.2.2] t)).cell? ((⟨w.heap.size, 0, none⟩ : Addr).add j) = some u := fun j u hj => by
  have hadd : (⟨w.heap.size, 0, none⟩ : Addr).add j = ⟨w.heap.size, 0 + j, none⟩ := Addr.add_mid _ _ _
  rw [hadd, Nat.zero_add]
  rw [cell_of_row _ _ j _ t _ (box_new w _ t), ← hj]
  simp [shdV]
set_option maxRecDepth 100000 in
set_option maxHeartbeats 2000000 in
theorem fleetBegin_any (ws : List Win) (wa : Option Addr) (n c : Nat) (w : World) (hW : WinsAt w (.slice wa n c) ws) (hn : ws.length = n) (h8 : n ≤ 8) :
    Calls Tryz.prog 16 #[.slice wa n c] w fun e w' => ∃ gp, e = .returned (.pointer (some ⟨gp, 0, none⟩)) ∧ (∃ τ : Nat → Tag, GoF τ w.heap.size w' gp (startL ws) ∧ ∀ b, b < w.heap.size → τ b = tNo) ∧ Below w.heap.size w w' := by
  obtain ⟨i0, hi0, hz0, hz1, hz2⟩ := info_parts Tryz.info65b
  obtain ⟨wa', wc', e, hc1, hc2, -, hWc⟩ := hW
  rw [hn] at e hc1 hWc
  cases e
  unfold maxLen at hc2
  go_enter Tryz.func16, Tryz.ntmps16
  go_wp2_with (at_make; refine wpList_make_own _ rfl _ _ 24 rfl w.heap.size 65 i0 _ 7 Tryz.underlying24 hi0 hz0 hz1 .i64 .i64 _ n rfl rfl rfl (by rw [hz2]; omega) (by unfold maxLen; omega) (Nat.le_refl _) ?_; intro w1 hown hgrow)
  have b1 : Below w.heap.size w w1 := (Below.refl _ _).grown hgrow (Nat.le_refl _) (fun _ h => by cases h)
  go_loopw [3, 11] (fun gv kv wr => ∃ (j : Nat) (va : Option Addr) (vc : Nat) (vs : List Value), j ≤ n ∧ kv = .int .i64 j ∧ gv = .slice va j vc ∧ wr.ownsRow w.heap.size 65 7 (.slice va j vc) j vs ∧ Hid (Beg ws vs j) ∧ Below w.heap.size w wr) (fun _ kv _ => n - (intOf kv).toNat)
  case atStart => exact ⟨0, _, n, [], Nat.zero_le _, rfl, rfl, hown, beg_nil ws, b1⟩
  case round =>
    obtain ⟨wo, rfl⟩ : ∃ x, x = wr := ⟨wr, rfl⟩
    obtain ⟨j, va, vc, vs, hj, rfl, rfl, hrow, HB, hbr⟩ := hrel
    have hsr := hbr.size
    clear hown hgrow b1
    by_cases hlt : j < n
    · have hlt' : (j : Int) < n := by omega
      obtain ⟨p1, o1, rfl, hp1, hcs1⟩ := hWc.resolve_left (by omega)
      obtain ⟨d0, d1⟩ := hcs1 j hlt
      replace d0 := (hbr.cell (p := ⟨p1, o1 + j * 2, none⟩) hp1).trans d0
      replace d1 := (hbr.cell (p := ⟨p1, o1 + j * 2 + 1, none⟩) hp1).trans d1
      have HB2 : Hid (Beg ws (vs ++ shdV ⟨(ws.getD j win0).a, (ws.getD j win0).b, 1, [], man0⟩ nilV) (j + 1)) := HB.out.snoc hrow.1
      clear hcs1 hWc HB
      generalize (ws.getD j win0).a = A at *
      generalize (ws.getD j win0).b = B at *
      have bV : Below w.heap.size w (wo.alloc (.cells #[.int .i64 A, .int .i64 B] 60)) := hbr.alloc hsr _
      obtain ⟨t0, t1, -, -⟩ := box_two (box_new wo #[.int .i64 A, .int .i64 B] 60)
      have hrowV := hrow.alloc (.cells #[.int .i64 A, .int .i64 B] 60)
      have hsV : (wo.alloc (.cells #[.int .i64 A, .int .i64 B] 60)).heap.size = wo.heap.size + 1 := by simp
      clear hrow hbr
      have hrowA := hrowV.alloc (.cells #[.int .i64 A, .int .i64 B, .int .i64 1, .slice none 0 0, .int .i64 0, .slice none 0 0, .slice none 0 0] 65)
      have hnew := lit_shd (wo.alloc (.cells #[.int .i64 A, .int .i64 B] 60)) ⟨A, B, 1, [], man0⟩ nilV 65
      rw [hsV] at hnew
      have bA := bV.alloc bV.size (.cells #[.int .i64 A, .int .i64 B, .int .i64 1, .slice none 0 0, .int .i64 0, .slice none 0 0, .slice none 0 0] 65)
      have hsA := bA.size
      have hone : ∀ u ∈ shdV ⟨A, B, 1, [], man0⟩ nilV, u.oneCell' = true := by intro u hu; simp [shdV, nilV] at hu; rcases hu with rfl | rfl | rfl | rfl | rfl | rfl | rfl <;> rfl
      go_wp2_with (at_builtin; refine wpList_append_own _ rfl (.tmp 15) (.tmp 21) 24 rfl w.heap.size 65 i0 _ 7 104 Tryz.underlying24 hi0 hz0 hz1 hz2 rfl (by decide) _ _ _ rfl hrowA ⟨wo.heap.size + 1, 0, none⟩ 1 1 _ rfl rfl hnew hone (by unfold maxLen; omega) (by omega) hsA ?_; intro v7 w7 ho7 hg7 _; obtain ⟨ga, gc, rfl⟩ := own7_form ho7)
      have b7 : Below w.heap.size w w7 := bA.grown hg7 hsA (fun _ h => own7_block hrowA h)
      go_roundw
      case rel => exact ⟨j + 1, ga, gc, _, by omega, by go_num, rfl, ho7, HB2, b7⟩
      case measure => simp [intOf]; omega
    · obtain rfl : j = n := by omega
      have hnl : ¬ (j : Int) < j := by omega
      have xg := box_new wo #[.slice va j vc, .slice none 0 0] 59
      have HG : Hid (∃ τ : Nat → Tag, GoF τ w.heap.size (wo.alloc (.cells #[.slice va j vc, .slice none 0 0] 59)) wo.heap.size (startL ws) ∧ ∀ b, b < w.heap.size → τ b = tNo) := beg_fleet hn (hrow.alloc _) HB.out xg hsr
      have bE : Below w.heap.size w (wo.alloc (.cells #[.slice va j vc, .slice none 0 0] 59)) := hbr.alloc hsr _
      clear hrow HB hWc xg
      go_wp2_with fail
      go_ret
      exact ⟨_, rfl, HG.out, bE⟩

end Go.Proofs.YtkjlchfmplcobaeGreatDoor

/- The walk of Wrong: package fleet as it landed. -/
namespace Go.Proofs.YtkjlchfmplcobaeGreatDoor
open Go.RowKit

theorem WinsAt.get2 {w : World} {a : Option Addr} {n c : Nat} {l : List Win} (h : WinsAt w (.slice a n c) l) (hn : l.length = n) {j : Nat} (hj : j < n) : ∃ b o, a = some ⟨b, o, none⟩ ∧ b < w.heap.size ∧ ∀ i, i < n → WinCells w b (o + i * 2) (l.getD i win0) := by
  obtain ⟨a', c', e, -, -, -, h5⟩ := h
  rw [hn] at e h5
  cases e
  obtain ⟨b, off, h6, h7, h8⟩ := h5.resolve_left (by omega)
  exact ⟨b, off, h6, h7, h8⟩
set_option maxRecDepth 100000 in
set_option maxHeartbeats 4000000 in
theorem goWrong_any (l : List Win) (a : Option Addr) (n c : Nat) (w : World) (hl : WinsAt w (.slice a n c) l) (hn : l.length = n) :
    Calls Tryz.prog 7 #[.slice a n c] w fun e w' => e = .returned (faultV (wrongWins l)) ∧ Below w.heap.size w w' := by
  have hcap : n ≤ maxLen := by obtain ⟨a', c', e, h2, h3, -⟩ := hl; cases e; omega
  unfold maxLen at hcap
  have b0 : Below w.heap.size w (w.alloc (.cells #[.int .i64 0, .int .i64 0] 31)) := (Below.refl _ _).alloc (Nat.le_refl _) _
  have x0 := box_new w #[.int .i64 0, .int .i64 0] 31
  by_cases h8 : 8 < n
  · have HE : Hid (wrongWins l = (5, 0)) := wrongWins_many (by omega)
    have h8' : (8 : Int) < n := by omega
    clear hl
    go_enter Tryz.func7, Tryz.ntmps7
    go_wp2_with fail
    exact bodyPost_ret (v := faultV (5, 0)) (by simp [results, Tryz.results7, go_sem]) rfl ⟨by rw [HE.out], (Below.refl _ _).alloc (Nat.le_refl _) _⟩
  · have h8' : ¬ (8 : Int) < n := by omega
    have HW1 : ∀ k : Nat, Hid (k < n → (∀ j, j < k → wrongWin l j = 0) → wrongWin l k ≠ 0 → wrongWins l = (wrongWin l k, (k : Int))) := fun k h1 h2 h3 => wrongWins_at (by omega) (by omega) h2 h3
    have HW2 : Hid ((∀ j, j < n → wrongWin l j = 0) → wrongWins l = (0, 0)) := fun h => wrongWins_none (by omega) (fun j hj => h j (by omega))
    go_enter Tryz.func7, Tryz.ntmps7
    go_wp2_with fail
    generalize w.alloc (.cells #[.int .i64 0, .int .i64 0] 31) = w0 at *
    go_loopw [11] (fun kv wr => ∃ k : Nat, k ≤ n ∧ kv = .int .i64 k ∧ Hid (∀ j, j < k → wrongWin l j = 0) ∧ wr.heap[w.heap.size]? = some (.cells #[.int .i64 0, .int .i64 0] 31 (0, 0)) ∧ Below w.heap.size w wr) (fun kv _ => n - (intOf kv).toNat)
    case atStart => exact ⟨0, Nat.zero_le _, rfl, fun _ hj => absurd hj (Nat.not_lt_zero _), x0, b0⟩
    case round =>
      obtain ⟨wo, rfl⟩ : ∃ x, x = wr := ⟨wr, rfl⟩
      obtain ⟨k, hk, rfl, HO, xo, hbr⟩ := hrel
      have hsr := hbr.size
      clear x0 b0
      by_cases hlt : k < n
      · have hlt' : (k : Int) < n := by omega
        obtain ⟨g, o, rfl, hg, hcs⟩ := (hl.below hbr).get2 hn hlt
        obtain ⟨d0, d1⟩ := hcs k hlt
        have HV := HW1 k
        have HWk : Hid (wrongWin l k = if (l.getD k win0).a < 0 ∨ (l.getD k win0).b ≤ (l.getD k win0).a ∨ 1000000 < (l.getD k win0).b then 3 else if 0 < k ∧ (l.getD k win0).a < (l.getD (k - 1) win0).b then 7 else 0) := rfl
        have HF : Hid (wrongWin l k = 0 → ∀ j, j < k + 1 → wrongWin l j = 0) := fun h j hj => by
          by_cases e : j = k
          · rw [e]; exact h
          · exact HO.out j (by omega)
        have hprev := fun (h : 0 < k) => (hcs (k - 1) (by omega)).2
        clear hcs HW1 HW2
        have hd5 : Below wo.heap.size wo (wo.alloc (.cells #[.int .i64 (l.getD k win0).a, .int .i64 (l.getD k win0).b] 60)) := (Below.refl _ _).alloc (Nat.le_refl _) _
        have b5 := hbr.trans (hd5.mono hsr)
        have x5 := box_kept xo hd5
        have y5 := box_new wo #[.int .i64 (l.getD k win0).a, .int .i64 (l.getD k win0).b] 60
        have hprev5 := fun (h : 0 < k) => (hd5.cell (p := ⟨g, o + (k - 1) * 2 + 1, none⟩) hg).trans (hprev h)
        obtain ⟨t0, t1, -, -⟩ := box_two y5
        obtain ⟨u0, u1, u2, u3⟩ := box_two x5
        clear hprev
        generalize (l.getD k win0).a = A at *
        generalize (l.getD k win0).b = B at *
        generalize (l.getD (k - 1) win0).b = C at *
        have fin3 : A < 0 ∨ B ≤ A ∨ 1000000 < B → Hid (wrongWins l = (3, (k : Int))) := fun h => by
          show _ = _
          have h3 : wrongWin l k = 3 := by rw [HWk.out, if_pos h]
          rw [HV.out hlt HO.out (by rw [h3]; decide), h3]
        have bE := fun (e : Int) => two_below b5 (Nat.le_refl w.heap.size) (.int .i64 e) (.int .i64 (k : Int))
        have rE := fun (e : Int) => box_two (two_set x5 (.int .i64 e) (.int .i64 (k : Int)))
        by_cases q1 : A < 0
        · have HE := fin3 (.inl q1)
          obtain ⟨r0, r1, -, -⟩ := rE 3
          clear fin3 HV HWk HF hprev5 rE
          go_wp2_with fail
          exact bodyPost_ret (v := faultV (3, (k : Int))) (by simp [results, Tryz.results7, go_sem, r0, r1]) rfl ⟨by rw [HE.out], bE 3⟩
        by_cases q2 : B ≤ A
        · have HE := fin3 (.inr (.inl q2))
          obtain ⟨r0, r1, -, -⟩ := rE 3
          clear fin3 HV HWk HF hprev5 rE
          go_wp2_with fail
          exact bodyPost_ret (v := faultV (3, (k : Int))) (by simp [results, Tryz.results7, go_sem, r0, r1]) rfl ⟨by rw [HE.out], bE 3⟩
        by_cases q3 : 1000000 < B
        · have HE := fin3 (.inr (.inr q3))
          obtain ⟨r0, r1, -, -⟩ := rE 3
          clear fin3 HV HWk HF hprev5 rE
          go_wp2_with fail
          exact bodyPost_ret (v := faultV (3, (k : Int))) (by simp [results, Tryz.results7, go_sem, r0, r1]) rfl ⟨by rw [HE.out], bE 3⟩
        have HWk2 : Hid (wrongWin l k = if 0 < k ∧ A < C then 7 else 0) := by show _ = _; rw [HWk.out, if_neg (by omega)]
        clear fin3 HWk
        by_cases q4 : 0 < k
        · have q4' : (0 : Int) < k := by omega
          have q5 : (1 : Int) ≤ k := by omega
          have hp := hprev5 q4
          have hk1 : ((k : Int) - 1) < n := by omega
          by_cases q6 : A < C
          · have HE : Hid (wrongWins l = (7, (k : Int))) := by
              show _ = _
              have h7 : wrongWin l k = 7 := by rw [HWk2.out, if_pos ⟨q4, q6⟩]
              rw [HV.out hlt HO.out (by rw [h7]; decide), h7]
            clear HV HWk2 HF hprev5 rE
            go_wp2_with fail
            go_quiet (fail)
            go_wp2_with fail
            have dq := below_drewN' (Below.refl (wo.alloc (.cells #[.int .i64 A, .int .i64 B] 60)).heap.size (wo.alloc (.cells #[.int .i64 A, .int .i64 B] 60))) nq
            have x6 := box_kept x5 dq
            obtain ⟨s0, s1, -, -⟩ := box_two (two_set x6 (.int .i64 7) (.int .i64 (k : Int)))
            have b6 := two_below (b5.trans (dq.mono b5.size)) (Nat.le_refl w.heap.size) (.int .i64 7) (.int .i64 (k : Int))
            exact bodyPost_ret (v := faultV (7, (k : Int))) (by simp [results, Tryz.results7, go_sem, s0, s1]) rfl ⟨by rw [HE.out], b6⟩
          · have H0 : wrongWin l k = 0 := by rw [HWk2.out, if_neg (fun h => q6 h.2)]
            have HF2 : Hid (∀ j, j < k + 1 → wrongWin l j = 0) := HF.out H0
            clear HV HWk2 HF hprev5 rE H0
            go_wp2_with fail
            go_quiet (fail)
            go_wp2_with fail
            go_roundw
            case rel => exact ⟨k + 1, by omega, by go_num, HF2, x5, below_drewN' b5 _⟩
            case measure => simp [intOf]; omega
        · obtain rfl : k = 0 := by omega
          have H0 : wrongWin l 0 = 0 := by rw [HWk2.out, if_neg (fun h => absurd h.1 (Nat.lt_irrefl _))]
          have HF2 : Hid (∀ j, j < 0 + 1 → wrongWin l j = 0) := HF.out H0
          rw [Nat.zero_mul, Nat.add_zero] at d0 d1
          clear HV HWk2 HF hprev5 rE H0
          go_wp2_with fail
          go_quiet (fail)
          go_wp2_with fail
          go_roundw
          case rel => exact ⟨0 + 1, by omega, by go_num, HF2, x5, below_drewN' b5 _⟩
          case measure => simp [intOf]; omega
      · obtain rfl : k = n := by omega
        have hnl : ¬ (k : Int) < k := by omega
        have HE : Hid (wrongWins l = (0, 0)) := HW2.out HO.out
        obtain ⟨u0, u1, u2, u3⟩ := box_two xo
        obtain ⟨r0, r1, -, -⟩ := box_two (two_set xo (.int .i64 0) (.int .i64 0))
        have bE := two_below hbr (Nat.le_refl w.heap.size) (.int .i64 0) (.int .i64 0)
        clear HW1 HW2 HO hl
        go_wp2_with fail
        exact bodyPost_ret (v := faultV (0, 0)) (by simp [results, Tryz.results7, go_sem, r0, r1]) rfl ⟨by rw [HE.out], bE⟩

end Go.Proofs.YtkjlchfmplcobaeGreatDoor
