/- FleetGoRetire, FleetGoSpoil, FleetRefFew, FleetRefMem, FleetRefNo, FleetRefMem2, FleetRefMem3, FleetRefAppend, as one text. -/
import Derived.Test.YtkjlchfmplcobaeGreatDoorProg
import Derived.Test.YtkjlchfmplcobaeGreatDoorRunAD
import Derived.Test.YtkjlchfmplcobaeGreatDoorRunAE
import Derived.WalkKit
import Derived.WalkSpells
import Derived.WalkLawsBesides
import Derived.Deep.QuietTactic
import Derived.BigQuiet
import Derived.BigRegion
import Derived.Test.YtkjlchfmplcobaeGreatDoorRunAB
import Derived.Test.YtkjlchfmplcobaeGreatDoorRunAI
import Derived.Deep.RegionHeld3
import Derived.Deep.RegionWith
import Derived.Laws.AppendOwnNone
import Derived.Deep.AppendLies
import Derived.Maps.AppendAt
/- The walk of retire: package fleet as it landed. -/
namespace Go.Proofs.YtkjlchfmplcobaeGreatDoor
open Go.RowKit

def retireL (f : Flt) (k : Nat) : Flt × Ans :=
  if (verifyL (f.shards.getD k shd0).man).2.1 ≠ 0 then (f, no (verifyL (f.shards.getD k shd0).man).2.1) else
  (⟨f.shards.set k { (f.shards.getD k shd0) with state := 4, entries := [] }, f.book⟩, ⟨0, (k : Int), 0, (f.shards.getD k shd0).man.size, (f.shards.getD k shd0).man.root⟩)
set_option maxRecDepth 100000 in
set_option maxHeartbeats 2000000 in
theorem retire_any (hVer : VerifyC) (f : Flt) (k : Nat) (τ : Nat → Tag) (N gp : Nat) (w : World) (hF : GoF τ N w gp f) (hN : N ≤ w.heap.size) (hr : Ready w) (hk : k < f.shards.length) (hrl : (f.shards.getD k shd0).man.root.length ≤ 1000000) :
    Calls Tryz.prog 49 #[.pointer (some ⟨gp, 0, none⟩), .int .i64 (k : Int)] w fun e w' => ∃ av, e = .returned av ∧ Went τ N gp w w' av (retireL f k) := by
  have b0 : Below w.heap.size w (w.alloc (.cells #[.int .i64 0, .int .i64 0, .int .i64 0, .int .i64 0, .slice none 0 0] 41)) := (Below.refl _ _).alloc (Nat.le_refl _) _
  have z0 := box_new w #[.int .i64 0, .int .i64 0, .int .i64 0, .int .i64 0, .slice none 0 0] 41
  have HNO : ∀ (w1 : World) (x : Ans) (u0 u1 u2 u3 u4 : Value), Hid (Below w.heap.size w w1 → x.root = [] → Went τ N gp w (((((w1.setCell ⟨w.heap.size, 0, none⟩ u0).setCell ⟨w.heap.size, 1, none⟩ u1).setCell ⟨w.heap.size, 2, none⟩ u2).setCell ⟨w.heap.size, 3, none⟩ u3).setCell ⟨w.heap.size, 4, none⟩ u4) (.agg #[.int .i64 x.err, .int .i64 x.shard, .int .i64 x.place, .int .i64 x.size, .slice none 0 0]) (f, x)) := fun w1 x u0 u1 u2 u3 u4 h1 h2 => went_no hF hN h1 (Nat.le_refl _) h2 _ _ _ _ _
  obtain ⟨sa, sc, ba, bc, V, hB, hS⟩ := hF.open
  have U0 := upd_call (τ := τ) b0 tNo
  have hB0 := hB.upd U0 no_row
  have hS0 := hS.upd U0 no_row
  have K0 := keep_call (τ := τ) b0 hN tNo
  have hR0 : ext τ w.heap.size tNo w.heap.size = tNo := ext_new (Nat.le_refl _)
  have hsl : f.shards.length ≤ 9223372036854775807 := by obtain ⟨vs, h1, -⟩ := hS.row; have := own_small h1; unfold maxLen at this; omega
  obtain ⟨g0, g1, -, -⟩ := box_two hB0.box
  obtain ⟨sb, rfl, hNs, hsb, htb, hfz, hcs⟩ := (hS0.out k).cells rfl hk
  obtain ⟨ra, rc, hVr⟩ := (hS0.root k hk).here.at'.form
  obtain ⟨ga, gc, hVg⟩ := (hS0.seg k hk).form
  have hMan : ManAt _ (.agg #[.int .i64 (f.shards.getD k shd0).man.size, (V k).2.1, (V k).2.2]) (f.shards.getD k shd0).man := ⟨_, _, rfl, (hS0.root k hk).here, (hS0.seg k hk).segs⟩
  have k4 : _ = some (Value.int .i64 (f.shards.getD k shd0).man.size) := hcs 4 (by omega)
  have k5 : _ = some (V k).2.1 := hcs 5 (by omega)
  have k6 : _ = some (V k).2.2 := hcs 6 (by omega)
  have k2 : _ = some (Value.int .i64 (f.shards.getD k shd0).state) := hcs 2 (by omega)
  have k3 : _ = some (V k).1 := hcs 3 (by omega)
  rw [hVr, hVg] at hMan
  rw [hVr] at k5
  rw [hVg] at k6
  have hVf := hVer _ _ _ (hr.below b0) hMan
  have hk1 : (k : Int) < f.shards.length := by omega
  have hk0 : (0 : Int) ≤ k := by omega
  have HRL : Hid (retireL f k = if (verifyL (f.shards.getD k shd0).man).2.1 ≠ 0 then (f, no (verifyL (f.shards.getD k shd0).man).2.1) else (⟨f.shards.set k { (f.shards.getD k shd0) with state := 4, entries := [] }, f.book⟩, ⟨0, (k : Int), 0, (f.shards.getD k shd0).man.size, (f.shards.getD k shd0).man.root⟩)) := rfl
  have hmb := (hS0.root k hk).here.bytes
  obtain ⟨X, HX⟩ : ∃ X, Hid (f.shards.getD k shd0 = X) := ⟨_, rfl⟩
  rw [HX.out] at hVr hVg k2 k4 k5 k6 hVf HRL hrl hmb
  generalize retireL f k = RL at *
  generalize hvf : verifyL X.man = VF at *
  obtain ⟨VL, E1, E2⟩ := VF
  dsimp only at HRL hVf
  generalize hT : ext τ w.heap.size tNo = τ1 at *
  clear hF hB hS U0 hMan hcs hvf
  by_cases hE : E1 = 0
  · subst hE
    have HE : Hid (RL = (⟨f.shards.set k { X with state := 4, entries := [] }, f.book⟩, ⟨0, (k : Int), 0, X.man.size, X.man.root⟩)) := by show _ = _; rw [HRL.out, if_neg (fun h => h rfl)]
    rw [HE.out]
    clear HE HRL HNO
    go_enter Tryz.func49, Tryz.ntmps49
    go_wp2_with fail
    generalize w.alloc (.cells #[.int .i64 0, .int .i64 0, .int .i64 0, .int .i64 0, .slice none 0 0] 41) = w0 at *
    refine hVf.mono ?_
    rintro e w1 ⟨xa, xn, xc, rfl, -, hb1⟩
    have d1 : Below w1.heap.size w1 (w1.alloc (.cells #[.int .i64 0, .int .i64 E2] 31)) := (Below.refl _ _).alloc (Nat.le_refl _) _
    have c1 := hb1.trans (d1.mono hb1.size)
    have hN0 : N ≤ w0.heap.size := Nat.le_trans hN b0.size
    have hS1 := hS0.upd (upd_same c1) no_row
    have hB1 := hB0.upd (upd_same c1) no_row
    have K1 := K0.trans (keep_upd (upd_same c1) hN0 no_row)
    have z1 := box_kept z0 c1
    have f1 := box_new w1 #[.int .i64 0, .int .i64 E2] 31
    have hsb1 : sb < (w1.alloc (.cells #[.int .i64 0, .int .i64 E2] 31)).heap.size := Nat.lt_of_lt_of_le hsb c1.size
    have j2 := (c1.cell (p := ⟨sb, k * 7 + 2, none⟩) hsb).trans k2
    have j3 := (c1.cell (p := ⟨sb, k * 7 + 3, none⟩) hsb).trans k3
    have j4 := (c1.cell (p := ⟨sb, k * 7 + 4, none⟩) hsb).trans k4
    have j5 := (c1.cell (p := ⟨sb, k * 7 + 5, none⟩) hsb).trans k5
    obtain ⟨sb', e', -, -, -, hfz1, -⟩ := (hS1.out k).cells rfl hk
    cases e'
    have hN1 : N ≤ (w1.alloc (.cells #[.int .i64 0, .int .i64 E2] 31)).heap.size := Nat.le_trans hN0 c1.size
    clear hVf g0 g1 k2 k3 k4 k5 k6 hS0 hB0 K0 hfz d1
    obtain ⟨p0, p1, -, -⟩ := box_two f1
    have j2f := hfz1 (k * 7 + 2)
    have j3f := hfz1 (k * 7 + 3)
    have hEnt := hS1.ent k hk
    have hRoo := hS1.root k hk
    have hSeg := hS1.seg k hk
    rw [HX.out] at hEnt hRoo hSeg
    have hS2 := hS1.turn (i := 2) (u := .int .i64 4) (s' := { X with state := 4 }) (v' := V k) rfl hk (by omega) (by rw [HX.out]; rfl) hEnt hRoo hSeg
    have htb1 : τ1 sb = tSh := htb
    have hB2 := hB1.turn (o := k * 7 + 2) (u := .int .i64 4) htb1
    have hN2 : N ≤ ((w1.alloc (.cells #[.int .i64 0, .int .i64 E2] 31)).setCell ⟨sb, k * 7 + 2, none⟩ (.int .i64 4)).heap.size := by simpa using hN1
    have hEn2 := entM_nil τ1 N ((w1.alloc (.cells #[.int .i64 0, .int .i64 E2] 31)).setCell ⟨sb, k * 7 + 2, none⟩ (.int .i64 4)) k
    have ne : ∀ t : Tag, t ≠ tSh → ∀ b, some sb = some b → τ1 b ≠ t := fun t h1 b hb e => by cases hb; exact h1 (e.symm.trans htb1)
    have hRo2 := hRoo.upd (upd_set τ1 _ sb (k * 7 + 2) (.int .i64 4)) (ne _ (by decide))
    have hSe2 := hSeg.upd (upd_set τ1 _ sb (k * 7 + 2) (.int .i64 4)) (ne _ (by simp [tSeg, tSh])) (fun j => ne _ (by simp [tPk, tSh]))
    have hS3 := hS2.turn (i := 3) (u := .slice none 0 0) (s' := { X with state := 4, entries := [] }) (v' := (.slice none 0 0, (V k).2.1, (V k).2.2)) (by rw [List.length_set]) hk (by omega) (by rw [getD_set_same hk, if_pos rfl]; rfl) hEn2 hRo2 hSe2
    rw [List.set_set] at hS3
    have hB3 := hB2.turn (o := k * 7 + 3) (u := .slice none 0 0) htb1
    have K3 := (K1.trans (keep_turn (o := k * 7 + 2) (u := .int .i64 4) hN1 hNs htb1)).trans (keep_turn (o := k * 7 + 3) (u := .slice none 0 0) hN2 hNs htb1)
    have hF3 := hB3.goF hS3
    have hne : w.heap.size ≠ sb := fun e => by rw [e, htb1] at hR0; simp [tSh, tNo] at hR0
    have z3 := box_set_far (v := .slice none 0 0) (o := k * 7 + 3) (box_set_far (v := .int .i64 4) (o := k * 7 + 2) z1 hne) hne
    have hr3 := hRo2.upd (upd_set τ1 _ sb (k * 7 + 3) (.slice none 0 0)) (ne _ (by decide))
    rw [hVr] at hr3
    have hTk := taken_any (k : Int) X.man.size X.man.root _ _ hr3.here hrl
    clear hS1 hB1 K1 hS2 hB2 hEn2 hRo2 hSe2 hS3 hB3 hEnt hRoo hSeg z1 f1 hfz1 hr3
    go_wp2_with fail
    generalize ((w1.alloc (.cells #[.int .i64 0, .int .i64 E2] 31)).setCell ⟨sb, k * 7 + 2, none⟩ (.int .i64 4)).setCell ⟨sb, k * 7 + 3, none⟩ (.slice none 0 0) = W3 at *
    refine hTk.mono ?_
    rintro e w8 ⟨ta, tc, rfl, ho8, hb8⟩
    have HW : Hid _ := went_head (k := (k : Int)) (n := X.man.size) hF3 K3 hN hR0 (lt_heap z3) (Nat.le_refl _) hb8 ho8 hmb (.int .i64 0) (.int .i64 (k : Int)) (.int .i64 0) (.int .i64 X.man.size) (.slice ta X.man.root.length tc)
    have z8 := box_kept z3 hb8
    obtain ⟨t0, t1, t2, t3, t4⟩ := box_five z8
    obtain ⟨r0, r1, r2, r3, r4⟩ := five_free z8
    obtain ⟨s0, s1, s2, s3, s4⟩ := box_five (five_set z8 (.int .i64 0) (.int .i64 (k : Int)) (.int .i64 0) (.int .i64 X.man.size) (.slice ta X.man.root.length tc))
    clear hTk z3 ho8 hF3 K3 j2 j3 j4 j5 p0 p1
    go_wp2_with fail
    exact bodyPost_ret (v := .agg #[.int .i64 0, .int .i64 (k : Int), .int .i64 0, .int .i64 X.man.size, .slice ta X.man.root.length tc]) (by simp [results, Tryz.results49, go_sem, s0, s1, s2, s3, s4]) rfl ⟨_, rfl, HW.out⟩
  · have HE : Hid (RL = (f, no E1)) := by show _ = _; rw [HRL.out, if_pos hE]
    have hE' : (E1 != 0) = true := by simpa using hE
    rw [HE.out]
    clear HE HRL hE
    go_enter Tryz.func49, Tryz.ntmps49
    go_wp2_with fail
    generalize w.alloc (.cells #[.int .i64 0, .int .i64 0, .int .i64 0, .int .i64 0, .slice none 0 0] 41) = w0 at *
    refine hVf.mono ?_
    rintro e w1 ⟨xa, xn, xc, rfl, -, hb1⟩
    have d1 : Below w1.heap.size w1 (w1.alloc (.cells #[.int .i64 E1, .int .i64 E2] 31)) := (Below.refl _ _).alloc (Nat.le_refl _) _
    have c1 := hb1.trans (d1.mono hb1.size)
    obtain ⟨p0, p1, -, -⟩ := box_two (box_new w1 #[.int .i64 E1, .int .i64 E2] 31)
    clear hVf g0 g1 k2 k3 k4 k5 k6 hS0 hB0 K0 hfz d1
    go_wp2_with fail
    generalize w1.alloc (.cells #[.int .i64 E1, .int .i64 E2] 31) = W at *
    refine (refused_any E1 W).mono ?_
    rintro e w2 ⟨rfl, hb2⟩
    have c2 := c1.trans (hb2.mono c1.size)
    have b2 := b0.trans (c2.mono b0.size)
    have z1 := box_kept z0 c2
    obtain ⟨t0, t1, t2, t3, t4⟩ := box_five z1
    obtain ⟨r0, r1, r2, r3, r4⟩ := five_free z1
    obtain ⟨s0, s1, s2, s3, s4⟩ := box_five (five_set z1 (.int .i64 E1) (.int .i64 0) (.int .i64 0) (.int .i64 0) (.slice none 0 0))
    have HG := HNO w2 (no E1) (.int .i64 E1) (.int .i64 0) (.int .i64 0) (.int .i64 0) (.slice none 0 0)
    clear HNO z0 p0 p1
    go_wp2_with fail
    exact bodyPost_ret (v := .agg #[.int .i64 E1, .int .i64 0, .int .i64 0, .int .i64 0, .slice none 0 0]) (by simp [results, Tryz.results49, go_sem, s0, s1, s2, s3, s4]) rfl ⟨_, rfl, HG.out b2 rfl⟩

end Go.Proofs.YtkjlchfmplcobaeGreatDoor

/- The walk of spoil: package fleet as it landed. -/
namespace Go.Proofs.YtkjlchfmplcobaeGreatDoor
open Go.RowKit

theorem SegM.at' {τ : Nat → Tag} {N : Nat} {w : World} {k n c j : Nat} {ga : Option Addr} {l : List Seg} (h : SegM τ N w k (.slice ga n c) l) (hn : l.length = n) (hj : j < n) :
    ∃ b pa pc, ga = some ⟨b, 0, none⟩ ∧ w.cell? ⟨b, j * 3 + 2, none⟩ = some (.slice pa (l.getD j seg0).packed.length pc) ∧ PkM τ N w k j (.slice pa (l.getD j seg0).packed.length pc) (l.getD j seg0).packed := by
  obtain ⟨-, vs, h1, h2⟩ := h
  rw [hn] at h1 h2
  rcases h1.2 with ⟨-, h0⟩ | ⟨g, cap, cur, e, hb, hg, -⟩
  · omega
  · simp only [Value.slice.injEq, true_and] at e
    obtain ⟨rfl, rfl⟩ := e
    obtain ⟨y, -, -, g2, g3⟩ := h2 j hj
    obtain ⟨pa, pc, rfl⟩ := own_form' g3.2.1
    exact ⟨g, pa, pc, rfl, (h1.cellAt (j * 3 + 2) (by omega)).trans g2, g3⟩
/-- A byte is turned. -/
theorem SegM.spoil {τ : Nat → Tag} {N : Nat} {w : World} {k n c j o b g pc : Nat} {l : List Seg} (h : SegM τ N w k (.slice (some ⟨b, 0, none⟩) n c) l) (hn : l.length = n) (hj : j < n) (hc : w.cell? ⟨b, j * 3 + 2, none⟩ = some (.slice (some ⟨g, 0, none⟩) (l.getD j seg0).packed.length pc)) (x : Int) (hx : 0 ≤ x ∧ x < 256) :
    SegM τ N (w.setCell ⟨g, o, none⟩ (.int .u8 x)) k (.slice (some ⟨b, 0, none⟩) n c) (l.set j { (l.getD j seg0) with packed := (l.getD j seg0).packed.set o x }) := by
  have h' := h
  obtain ⟨h0, vs, h1, h2⟩ := h
  rw [hn] at h1 h2
  obtain ⟨y, -, -, g2, g3⟩ := h2 j hj
  have ey : y = .slice (some ⟨g, 0, none⟩) (l.getD j seg0).packed.length pc := by
    have := (h1.cellAt (j * 3 + 2) (by omega)).trans g2
    rw [hc] at this
    exact (Option.some.inj this).symm
  subst ey
  have ht := (g3.1 g rfl).2
  have U := upd_set τ w g o (.int .u8 x)
  have ne : ∀ t : Tag, t ≠ tPk k j → ∀ b, some g = some b → τ b ≠ t := fun t h1 b hb e => by cases hb; exact h1 (e.symm.trans ht)
  have hlen : (l.set j { (l.getD j seg0) with packed := (l.getD j seg0).packed.set o x }).length = l.length := List.length_set
  refine ⟨h0.upd U, vs, by rw [hlen, hn]; exact h1.kept U.grow (h0.off (ne _ (by simp [tSeg, tPk]))), fun i hi => ?_⟩
  rw [hlen, hn] at hi
  obtain ⟨z, q0, q1, q2, q3⟩ := h2 i hi
  by_cases e : i = j
  · subst e
    rw [getD_set_same (by omega)]
    rw [q2] at g2
    cases g2
    refine ⟨_, q0, q1, q2, g3.1.upd U, ?_, ?_⟩
    · have := (g3.2.1.stored o (.int .u8 x)).1
      rw [← List.map_set] at this
      simpa using this
    · refine bytes_of_mem (fun y hy => ?_)
      rcases List.mem_or_eq_of_mem_set hy with h | rfl
      · exact bytes_forall g3.2.2 y h
      · exact hx
  · rw [getD_set_other (fun h => e h.symm)]
    exact ⟨z, q0, q1, q2, q3.upd U (ne _ (by simp [tPk]; exact fun h => e h))⟩
def spoilL (f : Flt) (k : Nat) (d : Dd) : Flt × Ans :=
  if d.segment < 0 ∨ ((f.shards.getD k shd0).man.segs.length : Int) ≤ d.segment then (f, no 6) else
  if d.at' < 0 ∨ (((f.shards.getD k shd0).man.segs.getD d.segment.toNat seg0).packed.length : Int) ≤ d.at' then (f, no 3) else
  (⟨f.shards.set k { (f.shards.getD k shd0) with man := { (f.shards.getD k shd0).man with segs := (f.shards.getD k shd0).man.segs.set d.segment.toNat (spoilSeg ((f.shards.getD k shd0).man.segs.getD d.segment.toNat seg0) d.at' d.by') } }, f.book⟩, ⟨0, (k : Int), 0, 0, []⟩)
/-- The shard k's segments are turned, and nothing else. -/
theorem ShM.segs {τ : Nat → Tag} {N k : Nat} {w w' : World} {g : Nat} {sv : Value} {ss : List Shd} {V : Nat → ShV} {l' : List Seg} (h : ShM τ N w sv ss V) (hk : k < ss.length) (u : Upd τ τ w w' (some g)) {j : Nat} (ht : τ g = tPk k j) (hs : SegM τ N w' k (V k).2.2 l') : ShM τ N w' sv (ss.set k { (ss.getD k shd0) with man := { (ss.getD k shd0).man with segs := l' } }) V := by
  have ne : ∀ t : Tag, t ≠ tPk k j → ∀ b, some g = some b → τ b ≠ t := fun t h1 b hb e => by cases hb; exact h1 (e.symm.trans ht)
  have hO := (h.out k).upd u (fun b hb => by cases hb; rw [ht]; exact .inr (.inr (.inr (.inr (.inr (.inr ⟨j, rfl⟩))))))
  obtain ⟨vs, h1, h2⟩ := hO.row
  have hlen : (ss.set k { (ss.getD k shd0) with man := { (ss.getD k shd0).man with segs := l' } }).length = ss.length := List.length_set
  have hg : ∀ i, (ss.set k { (ss.getD k shd0) with man := { (ss.getD k shd0).man with segs := l' } }).getD i shd0 = if i = k then { (ss.getD k shd0) with man := { (ss.getD k shd0).man with segs := l' } } else ss.getD i shd0 := fun i => by
    by_cases e : i = k
    · subst e; rw [if_pos rfl, getD_set_same hk]
    · rw [if_neg e, getD_set_other (fun h => e h.symm)]
  refine ⟨hO.tag, ⟨vs, by rw [hlen]; exact h1, fun i hi q hq => ?_⟩, fun i hi => ?_, fun i hi => ?_, fun i hi => ?_⟩
  all_goals rw [hlen] at hi
  · rw [h2 i hi q hq, hg]
    by_cases e : i = k
    · subst e; rw [if_pos rfl]; rfl
    · rw [if_neg e]
  · rw [hg]
    by_cases e : i = k
    · subst e; rw [if_pos rfl]; exact (h.ent i hi).upd u (ne _ (by simp [tFix, tPk])) (ne _ (by simp [tEnt, tPk]))
    · rw [if_neg e]; exact hO.ent i hi e
  · rw [hg]
    by_cases e : i = k
    · subst e; rw [if_pos rfl]; exact (h.root i hi).upd u (ne _ (by simp [tFix, tPk]))
    · rw [if_neg e]; exact hO.root i hi e
  · rw [hg]
    by_cases e : i = k
    · subst e; rw [if_pos rfl]; exact hs
    · rw [if_neg e]; exact hO.seg i hi e

theorem Keep.call {τ τ1 : Nat → Tag} {N : Nat} {w w0 w1 : World} (h : Keep τ τ1 N w w0) (hN : N ≤ w.heap.size) (hb : Below w0.heap.size w0 w1) : Keep τ τ1 N w w1 := h.trans (keep_upd (upd_same hb) (Nat.le_trans hN h.size) no_row)
theorem bits_xor_u8 {x y : Int} (hx : 0 ≤ x ∧ x < 256) (hy : 0 ≤ y ∧ y < 256) : bits .xor .u8 x y = xorI x y := by
  obtain ⟨a, rfl⟩ : ∃ a : Nat, x = a := ⟨x.toNat, by omega⟩
  obtain ⟨b, rfl⟩ : ∃ b : Nat, y = b := ⟨y.toNat, by omega⟩
  have ha : a < 256 := by omega
  have hb : b < 256 := by omega
  have hxx : a ^^^ b < 2 ^ 8 := Nat.xor_lt_two_pow (by omega) (by omega)
  have h1 : (BitVec.ofInt 8 (a : Int)).toNat = a := by rw [BitVec.ofInt_natCast, BitVec.toNat_ofNat]; exact Nat.mod_eq_of_lt (by omega)
  have h2 : (BitVec.ofInt 8 (b : Int)).toNat = b := by rw [BitVec.ofInt_natCast, BitVec.toNat_ofNat]; exact Nat.mod_eq_of_lt (by omega)
  show IntKind.u8.wrap ((BitVec.ofInt 8 (a : Int) ^^^ BitVec.ofInt 8 (b : Int)).toNat : Int) = _
  rw [BitVec.toNat_xor, h1, h2]
  unfold xorI
  rw [Int.toNat_natCast, Int.toNat_natCast]
  have e : Nat.xor a b = a ^^^ b := rfl
  rw [e]
  simp [IntKind.wrap, IntKind.bits, IntKind.signed]
  omega
theorem xorI_bound {x y : Int} (hx : 0 ≤ x ∧ x < 256) (hy : 0 ≤ y ∧ y < 256) : 0 ≤ xorI x y ∧ xorI x y < 256 := by
  unfold xorI
  have h1 : x.toNat < 2 ^ 8 := by omega
  have h2 : y.toNat < 2 ^ 8 := by omega
  have := Nat.xor_lt_two_pow h1 h2
  have e : Nat.xor x.toNat y.toNat = x.toNat ^^^ y.toNat := rfl
  rw [e]
  omega
set_option maxRecDepth 100000 in
set_option maxHeartbeats 2000000 in
theorem spoil_any (f : Flt) (d : Dd) (k : Nat) (τ : Nat → Tag) (N gp : Nat) (pv : Value) (w : World) (hF : GoF τ N w gp f) (hN : N ≤ w.heap.size) (hk : k < f.shards.length) (hdn : d.n = k) (hby : 0 ≤ d.by' ∧ d.by' < 256) :
    Calls Tryz.prog 50 #[.pointer (some ⟨gp, 0, none⟩), .agg #[.int .i64 d.kind, .int .i64 d.n, .int .i64 d.time, pv, .int .i64 d.segment, .int .i64 d.at', .int .u8 d.by']] w fun e w' => ∃ av, e = .returned av ∧ Went τ N gp w w' av (spoilL f k d) := by
  rw [hdn]
  have b0 : Below w.heap.size w ((w.alloc (.cells #[.int .i64 d.kind, .int .i64 (k : Int), .int .i64 d.time, pv, .int .i64 d.segment, .int .i64 d.at', .int .u8 d.by'] 56)).alloc (.cells #[.int .i64 0, .int .i64 0, .int .i64 0, .int .i64 0, .slice none 0 0] 41)) := ((Below.refl _ _).alloc (Nat.le_refl _) _).alloc (by simp) _
  have x0 := box_one w #[.int .i64 d.kind, .int .i64 (k : Int), .int .i64 d.time, pv, .int .i64 d.segment, .int .i64 d.at', .int .u8 d.by'] 56 (.cells #[.int .i64 0, .int .i64 0, .int .i64 0, .int .i64 0, .slice none 0 0] 41)
  have z0 := box_last w (.cells #[.int .i64 d.kind, .int .i64 (k : Int), .int .i64 d.time, pv, .int .i64 d.segment, .int .i64 d.at', .int .u8 d.by'] 56) #[.int .i64 0, .int .i64 0, .int .i64 0, .int .i64 0, .slice none 0 0] 41
  have HNO : ∀ (w1 : World) (x : Ans) (u0 u1 u2 u3 u4 : Value), Hid (Below w.heap.size w w1 → x.root = [] → Went τ N gp w (((((w1.setCell ⟨w.heap.size + 1, 0, none⟩ u0).setCell ⟨w.heap.size + 1, 1, none⟩ u1).setCell ⟨w.heap.size + 1, 2, none⟩ u2).setCell ⟨w.heap.size + 1, 3, none⟩ u3).setCell ⟨w.heap.size + 1, 4, none⟩ u4) (.agg #[.int .i64 x.err, .int .i64 x.shard, .int .i64 x.place, .int .i64 x.size, .slice none 0 0]) (f, x)) := fun w1 x u0 u1 u2 u3 u4 h1 h2 => went_no hF hN h1 (by omega) h2 _ _ _ _ _
  obtain ⟨sa, sc, ba, bc, V, hB, hS⟩ := hF.open
  have U0 := upd_call (τ := τ) b0 tNo
  have hB0 := hB.upd U0 no_row
  have hS0 := hS.upd U0 no_row
  have K0 := keep_call (τ := τ) b0 hN tNo
  have hR0 : ext τ w.heap.size tNo (w.heap.size + 1) = tNo := ext_new (by omega)
  have hX0 : ext τ w.heap.size tNo w.heap.size = tNo := ext_new (by omega)
  have hsl : f.shards.length ≤ 9223372036854775807 := by obtain ⟨vs, h1, -⟩ := hS.row; have := own_small h1; unfold maxLen at this; omega
  obtain ⟨g0, g1, -, -⟩ := box_two hB0.box
  obtain ⟨u0, u1, u2, u3, u4, u5, u6⟩ := box_seven x0
  obtain ⟨sb, rfl, hNs, hsb, htb, hfz, hcs⟩ := (hS0.out k).cells rfl hk
  have hG0 := hS0.seg k hk
  obtain ⟨ga, gc, hVg⟩ := hG0.form
  have k6 : _ = some (V k).2.2 := hcs 6 (by omega)
  rw [hVg] at k6 hG0
  have hk1 : (k : Int) < f.shards.length := by omega
  have hk0 : (0 : Int) ≤ k := by omega
  have HSL : Hid (spoilL f k d = if d.segment < 0 ∨ ((f.shards.getD k shd0).man.segs.length : Int) ≤ d.segment then (f, no 6) else if d.at' < 0 ∨ (((f.shards.getD k shd0).man.segs.getD d.segment.toNat seg0).packed.length : Int) ≤ d.at' then (f, no 3) else (⟨f.shards.set k { (f.shards.getD k shd0) with man := { (f.shards.getD k shd0).man with segs := (f.shards.getD k shd0).man.segs.set d.segment.toNat (spoilSeg ((f.shards.getD k shd0).man.segs.getD d.segment.toNat seg0) d.at' d.by') } }, f.book⟩, ⟨0, (k : Int), 0, 0, []⟩)) := rfl
  obtain ⟨X, HX⟩ : ∃ X, Hid (f.shards.getD k shd0 = X) := ⟨_, rfl⟩
  have hgl : (f.shards.getD k shd0).man.segs.length ≤ 9223372036854775807 := by obtain ⟨-, vs, h1, -⟩ := hS.seg k hk; have := own_small h1; unfold maxLen at this; omega
  rw [HX.out] at hVg k6 hG0 HSL hgl
  generalize spoilL f k d = SL at *
  generalize hT : ext τ w.heap.size tNo = τ1 at *
  clear hF hB hS U0 hcs
  by_cases q1 : d.segment < 0
  · have HE : Hid (SL = (f, no 6)) := by show _ = _; rw [HSL.out, if_pos (.inl q1)]
    rw [HE.out]
    clear HE HSL hG0
    generalize X.man.segs.length = NG at *
    go_enter Tryz.func50, Tryz.ntmps50
    go_wp2_with fail
    generalize (w.alloc (.cells #[.int .i64 d.kind, .int .i64 (k : Int), .int .i64 d.time, pv, .int .i64 d.segment, .int .i64 d.at', .int .u8 d.by'] 56)).alloc (.cells #[.int .i64 0, .int .i64 0, .int .i64 0, .int .i64 0, .slice none 0 0] 41) = w0 at *
    go_quiet (fail)
    go_wp2_with fail
    refine (refused_any 6 _).mono ?_
    rintro e w2 ⟨rfl, hb2⟩
    have c2 := (below_drewN' (Below.refl _ w0) nq).trans hb2
    have b2 := b0.trans (c2.mono b0.size)
    have z1 := box_kept z0 c2
    obtain ⟨t0, t1, t2, t3, t4⟩ := box_five z1
    obtain ⟨r0, r1, r2, r3, r4⟩ := five_free z1
    obtain ⟨s0, s1, s2, s3, s4⟩ := box_five (five_set z1 (.int .i64 6) (.int .i64 0) (.int .i64 0) (.int .i64 0) (.slice none 0 0))
    have HG := HNO w2 (no 6) (.int .i64 6) (.int .i64 0) (.int .i64 0) (.int .i64 0) (.slice none 0 0)
    clear HNO z0 x0 u0 u1 u2 u3 u4 u5 u6 g0 g1 k6
    go_wp2_with fail
    exact bodyPost_ret (v := .agg #[.int .i64 6, .int .i64 0, .int .i64 0, .int .i64 0, .slice none 0 0]) (by simp [results, Tryz.results50, go_sem, s0, s1, s2, s3, s4]) rfl ⟨_, rfl, HG.out b2 rfl⟩
  have q1' : decide (d.segment < 0) = false := decide_eq_false q1
  by_cases q2 : (X.man.segs.length : Int) ≤ d.segment
  · have HE : Hid (SL = (f, no 6)) := by show _ = _; rw [HSL.out, if_pos (.inr q2)]
    rw [HE.out]
    clear HE HSL hG0
    generalize X.man.segs.length = NG at *
    go_enter Tryz.func50, Tryz.ntmps50
    go_wp2_with fail
    generalize (w.alloc (.cells #[.int .i64 d.kind, .int .i64 (k : Int), .int .i64 d.time, pv, .int .i64 d.segment, .int .i64 d.at', .int .u8 d.by'] 56)).alloc (.cells #[.int .i64 0, .int .i64 0, .int .i64 0, .int .i64 0, .slice none 0 0] 41) = w0 at *
    go_quiet (fail)
    go_wp2_with fail
    refine (refused_any 6 _).mono ?_
    rintro e w2 ⟨rfl, hb2⟩
    have c2 := (below_drewN' (Below.refl _ w0) nq).trans hb2
    have b2 := b0.trans (c2.mono b0.size)
    have z1 := box_kept z0 c2
    obtain ⟨t0, t1, t2, t3, t4⟩ := box_five z1
    obtain ⟨r0, r1, r2, r3, r4⟩ := five_free z1
    obtain ⟨s0, s1, s2, s3, s4⟩ := box_five (five_set z1 (.int .i64 6) (.int .i64 0) (.int .i64 0) (.int .i64 0) (.slice none 0 0))
    have HG := HNO w2 (no 6) (.int .i64 6) (.int .i64 0) (.int .i64 0) (.int .i64 0) (.slice none 0 0)
    clear HNO z0 x0 u0 u1 u2 u3 u4 u5 u6 g0 g1 k6
    go_wp2_with fail
    exact bodyPost_ret (v := .agg #[.int .i64 6, .int .i64 0, .int .i64 0, .int .i64 0, .slice none 0 0]) (by simp [results, Tryz.results50, go_sem, s0, s1, s2, s3, s4]) rfl ⟨_, rfl, HG.out b2 rfl⟩
  have q2' : decide ((X.man.segs.length : Int) ≤ d.segment) = false := decide_eq_false q2
  obtain ⟨m, hm⟩ : ∃ m : Nat, d.segment = m := ⟨d.segment.toNat, by omega⟩
  rw [hm] at u4 x0 z0 b0 hB0 hS0 hG0 g0 u0 u1 u2 u3 u5 u6 q1 q1' q2 q2' HSL k6 K0 hsb hfz
  rw [hm]
  rw [Int.toNat_natCast] at HSL
  have hmn : m < X.man.segs.length := by omega
  have hm0 : (0 : Int) ≤ m := by omega
  have hm1 : (m : Int) < X.man.segs.length := by omega
  obtain ⟨gb, pa, pc, rfl, hc6, hPk⟩ := hG0.at' rfl hmn
  have hgbl : gb < _ := World.block_lt_of_cell? _ _ hc6
  replace HSL : Hid (SL = if d.at' < 0 ∨ ((X.man.segs.getD m seg0).packed.length : Int) ≤ d.at' then (f, no 3) else (⟨f.shards.set k { X with man := { X.man with segs := X.man.segs.set m (spoilSeg (X.man.segs.getD m seg0) d.at' d.by') } }, f.book⟩, ⟨0, (k : Int), 0, 0, []⟩)) := by show _ = _; rw [HSL.out, if_neg (by omega)]
  have hpl : (X.man.segs.getD m seg0).packed.length ≤ 9223372036854775807 := by have := own_small hPk.2.1; unfold maxLen at this; omega
  by_cases q3 : d.at' < 0
  · have HE : Hid (SL = (f, no 3)) := by show _ = _; rw [HSL.out, if_pos (.inl q3)]
    rw [HE.out]
    clear HE HSL hG0 hPk
    generalize (X.man.segs.getD m seg0).packed.length = NP at *
    generalize X.man.segs.length = NG at *
    go_enter Tryz.func50, Tryz.ntmps50
    go_wp2_with fail
    generalize (w.alloc (.cells #[.int .i64 d.kind, .int .i64 (k : Int), .int .i64 d.time, pv, .int .i64 (m : Int), .int .i64 d.at', .int .u8 d.by'] 56)).alloc (.cells #[.int .i64 0, .int .i64 0, .int .i64 0, .int .i64 0, .slice none 0 0] 41) = w0 at *
    go_quiet (fail)
    go_wp2_with fail
    refine (refused_any 3 _).mono ?_
    rintro e w2 ⟨rfl, hb2⟩
    have c2 := (below_drewN' (Below.refl _ w0) nq).trans hb2
    have b2 := b0.trans (c2.mono b0.size)
    have z1 := box_kept z0 c2
    obtain ⟨t0, t1, t2, t3, t4⟩ := box_five z1
    obtain ⟨r0, r1, r2, r3, r4⟩ := five_free z1
    obtain ⟨s0, s1, s2, s3, s4⟩ := box_five (five_set z1 (.int .i64 3) (.int .i64 0) (.int .i64 0) (.int .i64 0) (.slice none 0 0))
    have HG := HNO w2 (no 3) (.int .i64 3) (.int .i64 0) (.int .i64 0) (.int .i64 0) (.slice none 0 0)
    clear HNO z0 x0 u0 u1 u2 u3 u4 u5 u6 g0 g1 k6 hc6
    go_wp2_with fail
    exact bodyPost_ret (v := .agg #[.int .i64 3, .int .i64 0, .int .i64 0, .int .i64 0, .slice none 0 0]) (by simp [results, Tryz.results50, go_sem, s0, s1, s2, s3, s4]) rfl ⟨_, rfl, HG.out b2 rfl⟩
  have q3' : decide (d.at' < 0) = false := decide_eq_false q3
  by_cases q4 : ((X.man.segs.getD m seg0).packed.length : Int) ≤ d.at'
  · have HE : Hid (SL = (f, no 3)) := by show _ = _; rw [HSL.out, if_pos (.inr q4)]
    rw [HE.out]
    clear HE HSL hG0 hPk
    generalize (X.man.segs.getD m seg0).packed.length = NP at *
    generalize X.man.segs.length = NG at *
    go_enter Tryz.func50, Tryz.ntmps50
    go_wp2_with fail
    generalize (w.alloc (.cells #[.int .i64 d.kind, .int .i64 (k : Int), .int .i64 d.time, pv, .int .i64 (m : Int), .int .i64 d.at', .int .u8 d.by'] 56)).alloc (.cells #[.int .i64 0, .int .i64 0, .int .i64 0, .int .i64 0, .slice none 0 0] 41) = w0 at *
    go_quiet (fail)
    go_wp2_with fail
    refine (refused_any 3 _).mono ?_
    rintro e w2 ⟨rfl, hb2⟩
    have c2 := (below_drewN' (Below.refl _ w0) nq).trans hb2
    have b2 := b0.trans (c2.mono b0.size)
    have z1 := box_kept z0 c2
    obtain ⟨t0, t1, t2, t3, t4⟩ := box_five z1
    obtain ⟨r0, r1, r2, r3, r4⟩ := five_free z1
    obtain ⟨s0, s1, s2, s3, s4⟩ := box_five (five_set z1 (.int .i64 3) (.int .i64 0) (.int .i64 0) (.int .i64 0) (.slice none 0 0))
    have HG := HNO w2 (no 3) (.int .i64 3) (.int .i64 0) (.int .i64 0) (.int .i64 0) (.slice none 0 0)
    clear HNO z0 x0 u0 u1 u2 u3 u4 u5 u6 g0 g1 k6 hc6
    go_wp2_with fail
    exact bodyPost_ret (v := .agg #[.int .i64 3, .int .i64 0, .int .i64 0, .int .i64 0, .slice none 0 0]) (by simp [results, Tryz.results50, go_sem, s0, s1, s2, s3, s4]) rfl ⟨_, rfl, HG.out b2 rfl⟩
  have q4' : decide (((X.man.segs.getD m seg0).packed.length : Int) ≤ d.at') = false := decide_eq_false q4
  obtain ⟨o, ho⟩ : ∃ o : Nat, d.at' = o := ⟨d.at'.toNat, by omega⟩
  rw [ho] at u5 x0 z0 b0 hB0 hS0 hG0 g0 u0 u1 u2 u3 u4 u6 q3 q3' q4 q4' HSL k6 K0 hsb hfz hc6 hPk hgbl
  rw [ho]
  have hon : o < (X.man.segs.getD m seg0).packed.length := by omega
  have ho0 : (0 : Int) ≤ o := by omega
  have ho1 : (o : Int) < (X.man.segs.getD m seg0).packed.length := by omega
  replace HSL : Hid (SL = (⟨f.shards.set k { X with man := { X.man with segs := X.man.segs.set m { (X.man.segs.getD m seg0) with packed := (X.man.segs.getD m seg0).packed.set o (xorI ((X.man.segs.getD m seg0).packed.getD o 0) d.by') } } }, f.book⟩, ⟨0, (k : Int), 0, 0, []⟩)) := by show _ = _; rw [HSL.out, if_neg (by omega)]; unfold spoilSeg; rw [Int.toNat_natCast]
  obtain ⟨pg, rfl, hcp, hfp, hNp⟩ := own_get (z := 0) hPk.2.1 o hon
  have htp := (hPk.1 pg rfl).2
  have hpb := hPk.2.2 o
  have HXO : Hid (bits .xor .u8 ((X.man.segs.getD m seg0).packed.getD o 0) d.by' = xorI ((X.man.segs.getD m seg0).packed.getD o 0) d.by') := bits_xor_u8 hpb hby
  have HEnd : Hid (∀ (W : World), Below _ _ W → ∃ F', GoF τ1 N (W.setCell ⟨pg, o, none⟩ (.int .u8 (xorI ((X.man.segs.getD m seg0).packed.getD o 0) d.by'))) gp F' ∧ F' = _ ∧ Keep τ τ1 N w (W.setCell ⟨pg, o, none⟩ (.int .u8 (xorI ((X.man.segs.getD m seg0).packed.getD o 0) d.by')))) := fun W hb => by
    have hS1 := hS0.upd (upd_same hb) no_row
    have hB1 := hB0.upd (upd_same hb) no_row
    have hG1 := hG0.upd (upd_same hb) no_row (fun _ => no_row)
    have hc1 := (hb.cell (p := ⟨gb, m * 3 + 2, none⟩) hgbl).trans hc6
    have hSp := hG1.spoil (o := o) rfl hmn hc1 (xorI ((X.man.segs.getD m seg0).packed.getD o 0) d.by') (xorI_bound hpb hby)
    rw [← hVg] at hSp
    have U := upd_set τ1 W pg o (.int .u8 (xorI ((X.man.segs.getD m seg0).packed.getD o 0) d.by'))
    have hS2 := hS1.segs hk U htp hSp
    rw [HX.out] at hS2
    have hB2 := hB1.upd U (fun b hb => by cases hb; rw [htp]; simp [tPk, tFl, tBk, tFix])
    refine ⟨_, hB2.goF hS2, rfl, (K0.call hN hb).trans (keep_upd U (Nat.le_trans hN (Nat.le_trans b0.size hb.size)) (fun b hb => by cases hb; rw [htp]; exact ⟨hNp, by simp [tPk, tFix, tNo, tAn]⟩))⟩
  go_enter Tryz.func50, Tryz.ntmps50
  go_wp2_with fail
  generalize (w.alloc (.cells #[.int .i64 d.kind, .int .i64 (k : Int), .int .i64 d.time, pv, .int .i64 (m : Int), .int .i64 (o : Int), .int .u8 d.by'] 56)).alloc (.cells #[.int .i64 0, .int .i64 0, .int .i64 0, .int .i64 0, .slice none 0 0] 41) = w0 at *
  generalize (X.man.segs.getD m seg0).packed.length = NP at *
  generalize X.man.segs.length = NG at *
  generalize (X.man.segs.getD m seg0).packed.getD o 0 = PO at *
  go_quiet (fail)
  go_wp2_with fail
  go_region
  all_goals
    rw [HXO.out]
    obtain ⟨F', hF7, rfl, hK7⟩ := HEnd.out _ (below_drewN' (Below.refl _ w0) (nq + 1))
    have z1 : (w0.drewN (nq + 1)).heap[w.heap.size + 1]? = _ := z0
    have hne : w.heap.size + 1 ≠ pg := fun e => by rw [e, htp] at hR0; simp [tPk, tNo] at hR0
    have hne2 : w.heap.size ≠ pg := fun e => by rw [e, htp] at hX0; simp [tPk, tNo] at hX0
    have z7 := box_set_far (v := .int .u8 (xorI PO d.by')) (o := o) z1 hne
    have x1 : (w0.drewN (nq + 1)).heap[w.heap.size]? = _ := x0
    obtain ⟨-, v1, -⟩ := box_seven (box_set_far (v := .int .u8 (xorI PO d.by')) (o := o) x1 hne2)
    have HW : Hid (∀ a0 a1 a2 a3 a4, Went τ N gp w ((((((((w0.drewN (nq + 1)).setCell ⟨pg, o, none⟩ (.int .u8 (xorI PO d.by'))).setCell ⟨w.heap.size + 1, 0, none⟩ a0).setCell ⟨w.heap.size + 1, 1, none⟩ a1).setCell ⟨w.heap.size + 1, 2, none⟩ a2).setCell ⟨w.heap.size + 1, 3, none⟩ a3).setCell ⟨w.heap.size + 1, 4, none⟩ a4)) (.agg #[.int .i64 0, .int .i64 (k : Int), .int .i64 0, .int .i64 0, .slice none 0 0]) (_, ⟨0, (k : Int), 0, 0, []⟩)) := fun a0 a1 a2 a3 a4 => ⟨τ1, ⟨_, rfl, byM_nil _ _⟩, hF7.five hR0 _ _ _ _ _, hK7.five hN (by omega) _ _ _ _ _⟩
    clear hF7 hK7 HEnd HNO HXO x0 z0 x1 z1 u0 u1 u2 u3 u4 u5 u6 g0 g1 k6 hc6 hcp hfp hS0 hB0 hG0 K0 hPk
    generalize (w0.drewN (nq + 1)).setCell ⟨pg, o, none⟩ (.int .u8 (xorI PO d.by')) = W7 at *
    obtain ⟨t0, t1, t2, t3, t4⟩ := box_five z7
    obtain ⟨r0, r1, r2, r3, r4⟩ := five_free z7
    obtain ⟨s0, s1, s2, s3, s4⟩ := box_five (five_set z7 (.int .i64 0) (.int .i64 (k : Int)) (.int .i64 0) (.int .i64 0) (.slice none 0 0))
    have HW2 : Hid _ := HW.out (.int .i64 0) (.int .i64 (k : Int)) (.int .i64 0) (.int .i64 0) (.slice none 0 0)
    clear HW
    go_wp2_with fail
    exact bodyPost_ret (v := .agg #[.int .i64 0, .int .i64 (k : Int), .int .i64 0, .int .i64 0, .slice none 0 0]) (by simp [results, Tryz.results50, go_sem, s0, s1, s2, s3, s4]) rfl ⟨_, rfl, by rw [HSL.out]; exact HW2.out⟩

end Go.Proofs.YtkjlchfmplcobaeGreatDoor

/- What is laid away is not long: of every fleet that is come to. Nothing of the program is in it. -/
namespace Go.Proofs.YtkjlchfmplcobaeGreatDoor

def ManFew (m : Man) : Prop := m.segs.length ≤ 1000 ∧ ∀ j, (m.segs.getD j seg0).packed.length ≤ 1000000
def SegFew (f : Flt) : Prop := ∀ k, k < f.shards.length → ManFew (f.shards.getD k shd0).man
theorem man0_few : ManFew man0 := ⟨by decide, fun j => by show ((([] : List Seg).getD j seg0).packed.length ≤ _); simp [seg0]⟩
theorem export_few {w : Win} {s : Shd} (h : ShdOk w s) : ManFew (exportL s.entries) := by
  unfold exportL
  split
  · exact man0_few
  · have hf := h.few
    refine ⟨by show (segsL s.entries).length ≤ 1000; unfold segsL; rw [segsN_length]; omega, fun j => ?_⟩
    show ((segsL s.entries).getD j seg0).packed.length ≤ 1000000
    unfold segsL
    by_cases hj : j < (s.entries.length + 7) / 8
    · rw [segsN_get _ _ _ hj]
      show (packL (layL ((s.entries.drop (8 * j)).take 8))).length ≤ 1000000
      have h1 := pack_length (layL ((s.entries.drop (8 * j)).take 8))
      have h2 := layL_length ((s.entries.drop (8 * j)).take 8) (fun e he => h.short e (List.mem_of_mem_drop (List.mem_of_mem_take he)))
      have h3 : ((s.entries.drop (8 * j)).take 8).length ≤ 8 := by rw [List.length_take]; omega
      omega
    · rw [List.getD_eq_getElem?_getD, List.getElem?_eq_none (by rw [segsN_length]; omega)]
      simp [seg0]
theorem SegFew.set {f : Flt} (h : SegFew f) {k : Nat} {s : Shd} {l : List Rec} (hs : ManFew s.man) : SegFew ⟨f.shards.set k s, l⟩ := fun j hj => by
  have hj' : j < f.shards.length := by simpa using hj
  show ManFew ((f.shards.set k s).getD j shd0).man
  by_cases e : k = j
  · subst e; rw [getD_set_same hj']; exact hs
  · rw [getD_set_other e]; exact h j hj'
theorem start_few (ws : List Win) : SegFew (startL ws) := fun k hk => by
  rw [wins_get ws (by simpa [startL] using hk)]
  exact man0_few
theorem step_few {ws : List Win} {f : Flt} (hok : FltOk ws f) (h : SegFew f) (d : Dd) : SegFew (stepL f d).1 := by
  unfold stepL
  split
  · unfold submitL
    split
    · exact h
    · cases hh : homeOf f.shards d.time with
      | none => exact h
      | some k =>
        dsimp only
        have hk := (home_some hh).1
        split
        · exact h
        · cases placeOf (f.shards.getD k shd0).entries d.entry with
          | some i => exact h
          | none =>
            dsimp only
            split
            · exact h
            · exact h.set (h k hk)
  · split
    · exact h
    · split
      · exact h
      · rename_i h2
        split
        · exact h
        · have hk : d.n.toNat < f.shards.length := by omega
          have hm := h d.n.toNat hk
          have hs := hok.each d.n.toNat (by rw [← hok.len]; exact hk)
          unfold stepAt
          dsimp only
          split
          · exact h.set hm
          · split
            · split
              · exact h
              · exact h.set (export_few hs)
            · split
              · split
                · exact h
                · exact h.set hm
              · split
                · exact h
                · split
                  · exact h
                  · refine h.set ⟨by show (List.set _ _ _).length ≤ 1000; rw [List.length_set]; exact hm.1, fun j => ?_⟩
                    show ((List.set _ _ _).getD j seg0).packed.length ≤ 1000000
                    rename_i h6 h7
                    by_cases e : d.segment.toNat = j
                    · subst e
                      rw [getD_set_same (by omega)]
                      show (List.set _ _ _).length ≤ 1000000
                      rw [List.length_set]
                      exact hm.2 _
                    · rw [getD_set_other e]
                      exact hm.2 j

end Go.Proofs.YtkjlchfmplcobaeGreatDoor

/- The reference's fleet, in memory: how it is changed. Nothing of the program's functions is in it. -/
namespace Go.Proofs.YtkjlchfmplcobaeGreatDoor
open Go.RowKit

structure RfF (τ : Nat → Tag) (N : Nat) (w : World) (gp : Nat) (f : Flt) : Prop where
  low : N ≤ gp
  tag : τ gp = tFl
  parts : ∃ sv bv V, w.heap[gp]? = some (.cells #[sv, bv] 27 (0, 0)) ∧ ShM τ N w sv f.shards V ∧ BkM τ N w bv f.book
theorem RfF.upd {τ τ' : Nat → Tag} {N : Nat} {w w' : World} {gp : Nat} {f : Flt} {row : Option Nat} (h : RfF τ N w gp f) (u : Upd τ τ' w w' row) (hr : ∀ b, row = some b → τ b = tNo ∨ τ b = tAn) : RfF τ' N w' gp f := by
  obtain ⟨h0, h1, sv, bv, V, h2, h3, h4⟩ := h
  have ne : ∀ t : Tag, t ≠ tNo → t ≠ tAn → ∀ b, row = some b → τ b ≠ t := fun t h1 h4 b hb e => by
    rcases hr b hb with g | g
    · exact h1 (e.symm.trans g)
    · exact h4 (e.symm.trans g)
  have hg : w'.heap[gp]? = w.heap[gp]? := u.grow.block gp (lt_heap h2) (fun e => ne tFl (by decide) (by decide) gp e.symm h1)
  exact ⟨h0, (u.same gp (lt_heap h2)).trans h1, sv, bv, V, hg.trans h2, h3.upd u (fun b hb => (hr b hb).elim .inl (fun h => .inr (.inr (.inr h)))), h4.upd u (ne tFix (by decide) (by decide)) (ne tBk (by decide) (by decide))⟩
structure RfB (τ : Nat → Tag) (N : Nat) (w : World) (gp : Nat) (sv bv : Value) (l : List Rec) : Prop where
  low : N ≤ gp
  tag : τ gp = tFl
  box : w.heap[gp]? = some (.cells #[sv, bv] 27 (0, 0))
  bk : BkM τ N w bv l
theorem RfB.upd {τ τ' : Nat → Tag} {N : Nat} {w w' : World} {gp : Nat} {sv bv : Value} {l : List Rec} {row : Option Nat} (h : RfB τ N w gp sv bv l) (u : Upd τ τ' w w' row) (hr : ∀ b, row = some b → τ b ≠ tFl ∧ τ b ≠ tBk ∧ τ b ≠ tFix) : RfB τ' N w' gp sv bv l :=
  ⟨h.low, (u.same gp (lt_heap h.box)).trans h.tag, (u.grow.block gp (lt_heap h.box) (fun e => (hr gp e.symm).1 h.tag)).trans h.box, h.bk.upd u (fun b hb => (hr b hb).2.2) (fun b hb => (hr b hb).2.1)⟩
theorem RfB.rfF {τ : Nat → Tag} {N : Nat} {w : World} {gp : Nat} {sv bv : Value} {l : List Rec} {ss : List Shd} {V : Nat → ShV} (h : RfB τ N w gp sv bv l) (hS : ShM τ N w sv ss V) : RfF τ N w gp ⟨ss, l⟩ := ⟨h.low, h.tag, sv, bv, V, h.box, hS, h.bk⟩
theorem RfF.open {τ : Nat → Tag} {N : Nat} {w : World} {gp : Nat} {f : Flt} (h : RfF τ N w gp f) : ∃ sa sc ba bc V, RfB τ N w gp (.slice sa f.shards.length sc) (.slice ba f.book.length bc) f.book ∧ ShM τ N w (.slice sa f.shards.length sc) f.shards V := by
  obtain ⟨h0, h1, sv, bv, V, h2, h3, h4⟩ := h
  obtain ⟨sa, sc, e1, -⟩ := h3.shards
  obtain ⟨ba, bc, e2, -⟩ := h4.recs
  subst e1
  subst e2
  exact ⟨sa, sc, ba, bc, V, ⟨h0, h1, h2, h4⟩, h3⟩
theorem RfF.five {τ : Nat → Tag} {N : Nat} {w : World} {gp R : Nat} {f : Flt} (h : RfF τ N w gp f) (hR : τ R = tNo) (u0 u1 u2 u3 u4 : Value) : RfF τ N (((((w.setCell ⟨R, 0, none⟩ u0).setCell ⟨R, 1, none⟩ u1).setCell ⟨R, 2, none⟩ u2).setCell ⟨R, 3, none⟩ u3).setCell ⟨R, 4, none⟩ u4) gp f := by
  have hr : ∀ b, some R = some b → τ b = tNo ∨ τ b = tAn := fun b hb => by cases hb; exact .inl hR
  exact ((((h.upd (upd_set τ _ R 0 u0) hr).upd (upd_set τ _ R 1 u1) hr).upd (upd_set τ _ R 2 u2) hr).upd (upd_set τ _ R 3 u3) hr).upd (upd_set τ _ R 4 u4) hr
def RfWent (τ : Nat → Tag) (N gp : Nat) (w w' : World) (av : Value) (fa : Flt × Ans) : Prop := ∃ τ', AnV τ' w' av fa.2 ∧ RfF τ' N w' gp fa.1 ∧ Keep τ τ' N w w'
theorem rfwent_no {τ : Nat → Tag} {N gp R : Nat} {w w1 : World} {f : Flt} {x : Ans} (h : RfF τ N w gp f) (hN : N ≤ w.heap.size) (hb : Below w.heap.size w w1) (hR : w.heap.size ≤ R) (hx : x.root = []) (u0 u1 u2 u3 u4 : Value) :
    RfWent τ N gp w (((((w1.setCell ⟨R, 0, none⟩ u0).setCell ⟨R, 1, none⟩ u1).setCell ⟨R, 2, none⟩ u2).setCell ⟨R, 3, none⟩ u3).setCell ⟨R, 4, none⟩ u4) (.agg #[.int .i64 x.err, .int .i64 x.shard, .int .i64 x.place, .int .i64 x.size, .slice none 0 0]) (f, x) :=
  ⟨ext τ w.heap.size tNo, ⟨_, rfl, by rw [hx]; exact byM_nil _ _⟩, (h.upd (upd_call hb tNo) no_row).five (ext_new hR) _ _ _ _ _, (keep_call hb hN tNo).five hN hR _ _ _ _ _⟩
theorem RfB.turn {τ : Nat → Tag} {N gp sb o : Nat} {w : World} {sv bv u : Value} {l : List Rec} (h : RfB τ N w gp sv bv l) (ht : τ sb = tSh) : RfB τ N (w.setCell ⟨sb, o, none⟩ u) gp sv bv l := h.upd (upd_set τ w sb o u) (fun b hb => by cases hb; rw [ht]; decide)
/-- An answer is told, its root bytes that nobody writes any more. -/
theorem rfwent_by {τ τ' : Nat → Tag} {N gp R : Nat} {w W : World} {f' : Flt} {k n : Int} {d : List Int} {v : Value} (hF : RfF τ' N W gp f') (hK : Keep τ τ' N w W) (hN : N ≤ w.heap.size) (hR : τ' R = tNo) (hRw : w.heap.size ≤ R) (hd : ByM τ' W v d) (u0 u1 u2 u3 u4 : Value) :
    RfWent τ N gp w (((((W.setCell ⟨R, 0, none⟩ u0).setCell ⟨R, 1, none⟩ u1).setCell ⟨R, 2, none⟩ u2).setCell ⟨R, 3, none⟩ u3).setCell ⟨R, 4, none⟩ u4) (.agg #[.int .i64 0, .int .i64 k, .int .i64 0, .int .i64 n, v]) (f', ⟨0, k, 0, n, d⟩) :=
  ⟨τ', ⟨_, rfl, hd.five hR _ _ _ _ _⟩, hF.five hR _ _ _ _ _, hK.five hN hRw _ _ _ _ _⟩
theorem RfWent.drew {τ : Nat → Tag} {N gp : Nat} {w w' : World} {av : Value} {fa : Flt × Ans} (h : RfWent τ N gp w w' av fa) (hN : N ≤ w.heap.size) : RfWent τ N gp w w'.drew av fa := by
  obtain ⟨τ', ⟨rv, e, hrv⟩, hF, hk⟩ := h
  have u := upd_same (τ := τ') ((Below.refl w'.heap.size w').drew)
  exact ⟨τ', ⟨rv, e, hrv.upd u no_row⟩, hF.upd u no_row, hk.trans (keep_upd u (Nat.le_trans hN hk.size) no_row)⟩

end Go.Proofs.YtkjlchfmplcobaeGreatDoor

/- The walk of the reference's Step where nothing is done but by its kind: package yearref5. -/
namespace Go.Proofs.YtkjlchfmplcobaeGreatDoor
open Go.RowKit

set_option maxRecDepth 100000 in
theorem refNo_any (x : Int) (w : World) : Calls Tryz.prog 51 #[.int .i64 x] w fun e w' => e = .returned (.agg #[.int .i64 x, .int .i64 0, .int .i64 0, .int .i64 0, .slice none 0 0]) ∧ Below w.heap.size w w' := by
  have b0 : Below w.heap.size w (w.alloc (.cells #[.int .i64 x, .int .i64 0, .int .i64 0, .int .i64 0, .slice none 0 0] 41)) := (Below.refl _ _).alloc (Nat.le_refl _) _
  go_enter Tryz.func51, Tryz.ntmps51
  go_wp2_with fail
  exact bodyPost_ret (v := .agg #[.int .i64 x, .int .i64 0, .int .i64 0, .int .i64 0, .slice none 0 0]) (by simp [results, Tryz.results51, go_sem]) rfl ⟨rfl, b0⟩
set_option maxRecDepth 100000 in
set_option maxHeartbeats 2000000 in
theorem refStepNo_any (f : Flt) (d : Dd) (τ : Nat → Tag) (N gp : Nat) (da : Option Addr) (dc : Nat) (w : World) (hF : RfF τ N w gp f) (hN : N ≤ w.heap.size) (h1 : d.kind ≠ 1) (hre : refL f.shards d ≠ 0) :
    Calls Tryz.prog 18 #[.pointer (some ⟨gp, 0, none⟩), .agg #[.int .i64 d.kind, .int .i64 d.n, .int .i64 d.time, .slice da d.entry.length dc, .int .i64 d.segment, .int .i64 d.at', .int .u8 d.by']] w fun e w' => ∃ av, e = .returned av ∧ RfWent τ N gp w w' av (f, no (refL f.shards d)) := by
  have b0 : Below w.heap.size w ((w.alloc (.cells #[.int .i64 d.kind, .int .i64 d.n, .int .i64 d.time, .slice da d.entry.length dc, .int .i64 d.segment, .int .i64 d.at', .int .u8 d.by'] 56)).alloc (.cells #[.int .i64 0, .int .i64 0, .int .i64 0, .int .i64 0, .slice none 0 0] 41)) := ((Below.refl _ _).alloc (Nat.le_refl _) _).alloc (by simp) _
  have x0 := box_one w #[.int .i64 d.kind, .int .i64 d.n, .int .i64 d.time, .slice da d.entry.length dc, .int .i64 d.segment, .int .i64 d.at', .int .u8 d.by'] 56 (.cells #[.int .i64 0, .int .i64 0, .int .i64 0, .int .i64 0, .slice none 0 0] 41)
  have z0 := box_last w (.cells #[.int .i64 d.kind, .int .i64 d.n, .int .i64 d.time, .slice da d.entry.length dc, .int .i64 d.segment, .int .i64 d.at', .int .u8 d.by'] 56) #[.int .i64 0, .int .i64 0, .int .i64 0, .int .i64 0, .slice none 0 0] 41
  have hF0 := hF.upd (upd_call (τ := τ) b0 tNo) no_row
  obtain ⟨sa, sc, ba, bc, V, hB, hS⟩ := hF0.open
  obtain ⟨g0, g1, -, -⟩ := box_two hB.box
  have HNO : ∀ (w1 : World) (x : Ans) (u0 u1 u2 u3 u4 : Value), Hid (Below w.heap.size w w1 → x.root = [] → RfWent τ N gp w (((((w1.setCell ⟨w.heap.size + 1, 0, none⟩ u0).setCell ⟨w.heap.size + 1, 1, none⟩ u1).setCell ⟨w.heap.size + 1, 2, none⟩ u2).setCell ⟨w.heap.size + 1, 3, none⟩ u3).setCell ⟨w.heap.size + 1, 4, none⟩ u4) (.agg #[.int .i64 x.err, .int .i64 x.shard, .int .i64 x.place, .int .i64 x.size, .slice none 0 0]) (f, x)) := fun w1 x u0 u1 u2 u3 u4 h1 h2 => rfwent_no hF hN h1 (by omega) h2 _ _ _ _ _
  have HR : Hid (refL f.shards d = if d.kind < 2 ∨ 5 < d.kind then 1 else if d.n < 0 ∨ (f.shards.length : Int) ≤ d.n then 6 else if (f.shards.getD d.n.toNat shd0).state ≠ wantL d.kind then 7 else 0) := rfl
  have h1' : (d.kind == 1) = false := by simpa using h1
  have hsl : f.shards.length ≤ 9223372036854775807 := by obtain ⟨vs, h1, -⟩ := hS.row; have := own_small h1; unfold maxLen at this; omega
  have hG := hB.box
  clear hF hF0 hB
  generalize refL f.shards d = RF at *
  obtain ⟨u0, u1, -, -, -, -, -⟩ := box_seven x0
  by_cases ha : d.kind < 2
  · obtain rfl : RF = 1 := by rw [HR.out, if_pos (.inl ha)]
    clear HR hS hre h1
    generalize d.kind = KD at *
    go_enter Tryz.func18, Tryz.ntmps18
    go_wp2_with fail
    generalize (w.alloc (.cells #[.int .i64 KD, .int .i64 d.n, .int .i64 d.time, .slice da d.entry.length dc, .int .i64 d.segment, .int .i64 d.at', .int .u8 d.by'] 56)).alloc (.cells #[.int .i64 0, .int .i64 0, .int .i64 0, .int .i64 0, .slice none 0 0] 41) = w0 at *
    refine (refNo_any 1 _).mono ?_
    rintro e w2 ⟨rfl, hb2⟩
    have b2 := b0.trans (hb2.mono b0.size)
    have z1 := box_kept z0 hb2
    obtain ⟨t0, t1, t2, t3, t4⟩ := box_five z1
    obtain ⟨r0, r1, r2, r3, r4⟩ := five_free z1
    obtain ⟨s0, s1, s2, s3, s4⟩ := box_five (five_set z1 (.int .i64 1) (.int .i64 0) (.int .i64 0) (.int .i64 0) (.slice none 0 0))
    have HG := HNO w2 (no 1) (.int .i64 1) (.int .i64 0) (.int .i64 0) (.int .i64 0) (.slice none 0 0)
    clear HNO z0 x0 u0 u1 g0 g1
    go_wp2_with fail
    exact bodyPost_ret (v := .agg #[.int .i64 1, .int .i64 0, .int .i64 0, .int .i64 0, .slice none 0 0]) (by simp [results, Tryz.results18, go_sem, s0, s1, s2, s3, s4]) rfl ⟨_, rfl, HG.out b2 rfl⟩
  by_cases hb : 5 < d.kind
  · obtain rfl : RF = 1 := by rw [HR.out, if_pos (.inr hb)]
    clear HR hS hre h1
    generalize d.kind = KD at *
    go_enter Tryz.func18, Tryz.ntmps18
    go_wp2_with fail
    generalize (w.alloc (.cells #[.int .i64 KD, .int .i64 d.n, .int .i64 d.time, .slice da d.entry.length dc, .int .i64 d.segment, .int .i64 d.at', .int .u8 d.by'] 56)).alloc (.cells #[.int .i64 0, .int .i64 0, .int .i64 0, .int .i64 0, .slice none 0 0] 41) = w0 at *
    refine (refNo_any 1 _).mono ?_
    rintro e w2 ⟨rfl, hb2⟩
    have b2 := b0.trans (hb2.mono b0.size)
    have z1 := box_kept z0 hb2
    obtain ⟨t0, t1, t2, t3, t4⟩ := box_five z1
    obtain ⟨r0, r1, r2, r3, r4⟩ := five_free z1
    obtain ⟨s0, s1, s2, s3, s4⟩ := box_five (five_set z1 (.int .i64 1) (.int .i64 0) (.int .i64 0) (.int .i64 0) (.slice none 0 0))
    have HG := HNO w2 (no 1) (.int .i64 1) (.int .i64 0) (.int .i64 0) (.int .i64 0) (.slice none 0 0)
    clear HNO z0 x0 u0 u1 g0 g1
    go_wp2_with fail
    exact bodyPost_ret (v := .agg #[.int .i64 1, .int .i64 0, .int .i64 0, .int .i64 0, .slice none 0 0]) (by simp [results, Tryz.results18, go_sem, s0, s1, s2, s3, s4]) rfl ⟨_, rfl, HG.out b2 rfl⟩
  replace HR : Hid (RF = if d.n < 0 ∨ (f.shards.length : Int) ≤ d.n then 6 else if (f.shards.getD d.n.toNat shd0).state ≠ wantL d.kind then 7 else 0) := by show _ = _; rw [HR.out, if_neg (by omega)]
  by_cases q : d.n < 0 ∨ (f.shards.length : Int) ≤ d.n
  · obtain rfl : RF = 6 := by rw [HR.out, if_pos q]
    clear HR hS hre h1
    generalize f.shards.length = n at *
    generalize d.kind = KD at *
    generalize d.n = ND at *
    rcases q with q | q
    · go_enter Tryz.func18, Tryz.ntmps18
      go_wp2_with fail
      generalize (w.alloc (.cells #[.int .i64 KD, .int .i64 ND, .int .i64 d.time, .slice da d.entry.length dc, .int .i64 d.segment, .int .i64 d.at', .int .u8 d.by'] 56)).alloc (.cells #[.int .i64 0, .int .i64 0, .int .i64 0, .int .i64 0, .slice none 0 0] 41) = w0 at *
      go_quiet (fail)
      go_wp2_with fail
      refine (refNo_any 6 _).mono ?_
      rintro e w2 ⟨rfl, hb2⟩
      have c2 := (below_drewN' (Below.refl w0.heap.size w0) _).trans hb2
      have b2 := b0.trans (c2.mono b0.size)
      have z1 := box_kept z0 c2
      obtain ⟨t0, t1, t2, t3, t4⟩ := box_five z1
      obtain ⟨r0, r1, r2, r3, r4⟩ := five_free z1
      obtain ⟨s0, s1, s2, s3, s4⟩ := box_five (five_set z1 (.int .i64 6) (.int .i64 0) (.int .i64 0) (.int .i64 0) (.slice none 0 0))
      have HG := HNO w2 (no 6) (.int .i64 6) (.int .i64 0) (.int .i64 0) (.int .i64 0) (.slice none 0 0)
      clear HNO z0 x0 u0 u1 g0 g1
      go_wp2_with fail
      exact bodyPost_ret (v := .agg #[.int .i64 6, .int .i64 0, .int .i64 0, .int .i64 0, .slice none 0 0]) (by simp [results, Tryz.results18, go_sem, s0, s1, s2, s3, s4]) rfl ⟨_, rfl, HG.out b2 rfl⟩
    · have q1 : ¬ ND < 0 := by omega
      have q1' : decide (ND < 0) = false := decide_eq_false q1
      go_enter Tryz.func18, Tryz.ntmps18
      go_wp2_with fail
      generalize (w.alloc (.cells #[.int .i64 KD, .int .i64 ND, .int .i64 d.time, .slice da d.entry.length dc, .int .i64 d.segment, .int .i64 d.at', .int .u8 d.by'] 56)).alloc (.cells #[.int .i64 0, .int .i64 0, .int .i64 0, .int .i64 0, .slice none 0 0] 41) = w0 at *
      go_quiet (fail)
      go_wp2_with fail
      refine (refNo_any 6 _).mono ?_
      rintro e w2 ⟨rfl, hb2⟩
      have c2 := (below_drewN' (Below.refl w0.heap.size w0) _).trans hb2
      have b2 := b0.trans (c2.mono b0.size)
      have z1 := box_kept z0 c2
      obtain ⟨t0, t1, t2, t3, t4⟩ := box_five z1
      obtain ⟨r0, r1, r2, r3, r4⟩ := five_free z1
      obtain ⟨s0, s1, s2, s3, s4⟩ := box_five (five_set z1 (.int .i64 6) (.int .i64 0) (.int .i64 0) (.int .i64 0) (.slice none 0 0))
      have HG := HNO w2 (no 6) (.int .i64 6) (.int .i64 0) (.int .i64 0) (.int .i64 0) (.slice none 0 0)
      clear HNO z0 x0 u0 u1 g0 g1
      go_wp2_with fail
      exact bodyPost_ret (v := .agg #[.int .i64 6, .int .i64 0, .int .i64 0, .int .i64 0, .slice none 0 0]) (by simp [results, Tryz.results18, go_sem, s0, s1, s2, s3, s4]) rfl ⟨_, rfl, HG.out b2 rfl⟩
  obtain ⟨m, hm⟩ : ∃ m : Nat, d.n = m := ⟨d.n.toNat, by omega⟩
  replace HR : Hid (RF = if (f.shards.getD m shd0).state ≠ wantL d.kind then 7 else 0) := by show _ = _; rw [HR.out, if_neg q, hm, Int.toNat_natCast]
  have q5 : (f.shards.getD m shd0).state ≠ wantL d.kind := fun h => hre (by rw [HR.out, if_neg (fun g => g h)])
  obtain rfl : RF = 7 := by rw [HR.out, if_pos q5]
  have hmn : m < f.shards.length := by omega
  obtain ⟨sb, rfl, -, hsb, -, -, hcs⟩ := (hS.out m).cells rfl hmn
  have k2 := hcs 2 (by omega)
  replace k2 : _ = some (Value.int .i64 (f.shards.getD m shd0).state) := k2
  clear HR hS hre h1 hcs
  have q1 : ¬ (m : Int) < 0 := by omega
  have q2 : ¬ (f.shards.length : Int) ≤ (m : Int) := by omega
  have q1' : decide ((m : Int) < 0) = false := decide_eq_false q1
  have q2' : decide ((f.shards.length : Int) ≤ (m : Int)) = false := decide_eq_false q2
  have q3 : (0 : Int) ≤ m := by omega
  have q4 : (m : Int) < f.shards.length := by omega
  have h4 : d.kind = 2 ∨ d.kind = 3 ∨ d.kind = 4 ∨ d.kind = 5 := by omega
  generalize (f.shards.getD m shd0).state = ST at *
  generalize f.shards.length = n at *
  generalize d.kind = KD at *
  generalize d.n = ND at *
  subst hm
  clear q
  rcases h4 with rfl | rfl | rfl | rfl
  · have q5' : (ST != 1) = true := by simpa [wantL] using q5
    clear q5 h1' ha hb
    go_enter Tryz.func18, Tryz.ntmps18
    go_wp2_with fail
    generalize (w.alloc (.cells #[.int .i64 2, .int .i64 (m : Int), .int .i64 d.time, .slice da d.entry.length dc, .int .i64 d.segment, .int .i64 d.at', .int .u8 d.by'] 56)).alloc (.cells #[.int .i64 0, .int .i64 0, .int .i64 0, .int .i64 0, .slice none 0 0] 41) = w0 at *
    go_quiet (fail)
    have c1 := below_drewN' (Below.refl w0.heap.size w0) nq
    obtain ⟨v0, v1, -, -, -, -, -⟩ := box_seven (box_kept x0 c1)
    obtain ⟨p0, p1, -, -⟩ := box_two (box_kept hG c1)
    generalize w0.drewN nq = wQ at *
    clear u0 u1 g0 g1
    go_wp2_with fail
    go_quiet (fail)
    have c2 := c1.trans ((below_drewN' (Below.refl wQ.heap.size wQ) nq).mono c1.size)
    generalize wQ.drewN nq = wR at *
    have c3 : Below w0.heap.size w0 (wR.alloc (.cells #[.int .i64 0, .int .i64 0, .int .i64 1, .int .i64 2, .int .i64 3, .int .i64 3] 3)) := c2.alloc c2.size _
    obtain ⟨v0, -, -, -, -, -, -⟩ := box_seven (box_kept x0 c3)
    have k2' := (c3.cell (p := ⟨sb, m * 7 + 2, none⟩) hsb).trans k2
    have six := cell_of_row _ _ 2 _ _ _ (box_new wR #[.int .i64 0, .int .i64 0, .int .i64 1, .int .i64 2, .int .i64 3, .int .i64 3] 3)
    clear k2
    go_wp2_with fail
    refine (refNo_any 7 _).mono ?_
    rintro e w2 ⟨rfl, hb2⟩
    have c4 := c3.trans (hb2.mono c3.size)
    have b2 := b0.trans (c4.mono b0.size)
    have z1 := box_kept z0 c4
    obtain ⟨t0, t1, t2, t3, t4⟩ := box_five z1
    obtain ⟨r0, r1, r2, r3, r4⟩ := five_free z1
    obtain ⟨s0, s1, s2, s3, s4⟩ := box_five (five_set z1 (.int .i64 7) (.int .i64 0) (.int .i64 0) (.int .i64 0) (.slice none 0 0))
    have HG := HNO w2 (no 7) (.int .i64 7) (.int .i64 0) (.int .i64 0) (.int .i64 0) (.slice none 0 0)
    clear HNO z0 x0 v0 p0 p1
    go_wp2_with fail
    exact bodyPost_ret (v := .agg #[.int .i64 7, .int .i64 0, .int .i64 0, .int .i64 0, .slice none 0 0]) (by simp [results, Tryz.results18, go_sem, s0, s1, s2, s3, s4]) rfl ⟨_, rfl, HG.out b2 rfl⟩
  · have q5' : (ST != 2) = true := by simpa [wantL] using q5
    clear q5 h1' ha hb
    go_enter Tryz.func18, Tryz.ntmps18
    go_wp2_with fail
    generalize (w.alloc (.cells #[.int .i64 3, .int .i64 (m : Int), .int .i64 d.time, .slice da d.entry.length dc, .int .i64 d.segment, .int .i64 d.at', .int .u8 d.by'] 56)).alloc (.cells #[.int .i64 0, .int .i64 0, .int .i64 0, .int .i64 0, .slice none 0 0] 41) = w0 at *
    go_quiet (fail)
    have c1 := below_drewN' (Below.refl w0.heap.size w0) nq
    obtain ⟨v0, v1, -, -, -, -, -⟩ := box_seven (box_kept x0 c1)
    obtain ⟨p0, p1, -, -⟩ := box_two (box_kept hG c1)
    generalize w0.drewN nq = wQ at *
    clear u0 u1 g0 g1
    go_wp2_with fail
    go_quiet (fail)
    have c2 := c1.trans ((below_drewN' (Below.refl wQ.heap.size wQ) nq).mono c1.size)
    generalize wQ.drewN nq = wR at *
    have c3 : Below w0.heap.size w0 (wR.alloc (.cells #[.int .i64 0, .int .i64 0, .int .i64 1, .int .i64 2, .int .i64 3, .int .i64 3] 3)) := c2.alloc c2.size _
    obtain ⟨v0, -, -, -, -, -, -⟩ := box_seven (box_kept x0 c3)
    have k2' := (c3.cell (p := ⟨sb, m * 7 + 2, none⟩) hsb).trans k2
    have six := cell_of_row _ _ 3 _ _ _ (box_new wR #[.int .i64 0, .int .i64 0, .int .i64 1, .int .i64 2, .int .i64 3, .int .i64 3] 3)
    clear k2
    go_wp2_with fail
    refine (refNo_any 7 _).mono ?_
    rintro e w2 ⟨rfl, hb2⟩
    have c4 := c3.trans (hb2.mono c3.size)
    have b2 := b0.trans (c4.mono b0.size)
    have z1 := box_kept z0 c4
    obtain ⟨t0, t1, t2, t3, t4⟩ := box_five z1
    obtain ⟨r0, r1, r2, r3, r4⟩ := five_free z1
    obtain ⟨s0, s1, s2, s3, s4⟩ := box_five (five_set z1 (.int .i64 7) (.int .i64 0) (.int .i64 0) (.int .i64 0) (.slice none 0 0))
    have HG := HNO w2 (no 7) (.int .i64 7) (.int .i64 0) (.int .i64 0) (.int .i64 0) (.slice none 0 0)
    clear HNO z0 x0 v0 p0 p1
    go_wp2_with fail
    exact bodyPost_ret (v := .agg #[.int .i64 7, .int .i64 0, .int .i64 0, .int .i64 0, .slice none 0 0]) (by simp [results, Tryz.results18, go_sem, s0, s1, s2, s3, s4]) rfl ⟨_, rfl, HG.out b2 rfl⟩
  · have q5' : (ST != 3) = true := by simpa [wantL] using q5
    clear q5 h1' ha hb
    go_enter Tryz.func18, Tryz.ntmps18
    go_wp2_with fail
    generalize (w.alloc (.cells #[.int .i64 4, .int .i64 (m : Int), .int .i64 d.time, .slice da d.entry.length dc, .int .i64 d.segment, .int .i64 d.at', .int .u8 d.by'] 56)).alloc (.cells #[.int .i64 0, .int .i64 0, .int .i64 0, .int .i64 0, .slice none 0 0] 41) = w0 at *
    go_quiet (fail)
    have c1 := below_drewN' (Below.refl w0.heap.size w0) nq
    obtain ⟨v0, v1, -, -, -, -, -⟩ := box_seven (box_kept x0 c1)
    obtain ⟨p0, p1, -, -⟩ := box_two (box_kept hG c1)
    generalize w0.drewN nq = wQ at *
    clear u0 u1 g0 g1
    go_wp2_with fail
    go_quiet (fail)
    have c2 := c1.trans ((below_drewN' (Below.refl wQ.heap.size wQ) nq).mono c1.size)
    generalize wQ.drewN nq = wR at *
    have c3 : Below w0.heap.size w0 (wR.alloc (.cells #[.int .i64 0, .int .i64 0, .int .i64 1, .int .i64 2, .int .i64 3, .int .i64 3] 3)) := c2.alloc c2.size _
    obtain ⟨v0, -, -, -, -, -, -⟩ := box_seven (box_kept x0 c3)
    have k2' := (c3.cell (p := ⟨sb, m * 7 + 2, none⟩) hsb).trans k2
    have six := cell_of_row _ _ 4 _ _ _ (box_new wR #[.int .i64 0, .int .i64 0, .int .i64 1, .int .i64 2, .int .i64 3, .int .i64 3] 3)
    clear k2
    go_wp2_with fail
    refine (refNo_any 7 _).mono ?_
    rintro e w2 ⟨rfl, hb2⟩
    have c4 := c3.trans (hb2.mono c3.size)
    have b2 := b0.trans (c4.mono b0.size)
    have z1 := box_kept z0 c4
    obtain ⟨t0, t1, t2, t3, t4⟩ := box_five z1
    obtain ⟨r0, r1, r2, r3, r4⟩ := five_free z1
    obtain ⟨s0, s1, s2, s3, s4⟩ := box_five (five_set z1 (.int .i64 7) (.int .i64 0) (.int .i64 0) (.int .i64 0) (.slice none 0 0))
    have HG := HNO w2 (no 7) (.int .i64 7) (.int .i64 0) (.int .i64 0) (.int .i64 0) (.slice none 0 0)
    clear HNO z0 x0 v0 p0 p1
    go_wp2_with fail
    exact bodyPost_ret (v := .agg #[.int .i64 7, .int .i64 0, .int .i64 0, .int .i64 0, .slice none 0 0]) (by simp [results, Tryz.results18, go_sem, s0, s1, s2, s3, s4]) rfl ⟨_, rfl, HG.out b2 rfl⟩
  · have q5' : (ST != 3) = true := by simpa [wantL] using q5
    clear q5 h1' ha hb
    go_enter Tryz.func18, Tryz.ntmps18
    go_wp2_with fail
    generalize (w.alloc (.cells #[.int .i64 5, .int .i64 (m : Int), .int .i64 d.time, .slice da d.entry.length dc, .int .i64 d.segment, .int .i64 d.at', .int .u8 d.by'] 56)).alloc (.cells #[.int .i64 0, .int .i64 0, .int .i64 0, .int .i64 0, .slice none 0 0] 41) = w0 at *
    go_quiet (fail)
    have c1 := below_drewN' (Below.refl w0.heap.size w0) nq
    obtain ⟨v0, v1, -, -, -, -, -⟩ := box_seven (box_kept x0 c1)
    obtain ⟨p0, p1, -, -⟩ := box_two (box_kept hG c1)
    generalize w0.drewN nq = wQ at *
    clear u0 u1 g0 g1
    go_wp2_with fail
    go_quiet (fail)
    have c2 := c1.trans ((below_drewN' (Below.refl wQ.heap.size wQ) nq).mono c1.size)
    generalize wQ.drewN nq = wR at *
    have c3 : Below w0.heap.size w0 (wR.alloc (.cells #[.int .i64 0, .int .i64 0, .int .i64 1, .int .i64 2, .int .i64 3, .int .i64 3] 3)) := c2.alloc c2.size _
    obtain ⟨v0, -, -, -, -, -, -⟩ := box_seven (box_kept x0 c3)
    have k2' := (c3.cell (p := ⟨sb, m * 7 + 2, none⟩) hsb).trans k2
    have six := cell_of_row _ _ 5 _ _ _ (box_new wR #[.int .i64 0, .int .i64 0, .int .i64 1, .int .i64 2, .int .i64 3, .int .i64 3] 3)
    clear k2
    go_wp2_with fail
    refine (refNo_any 7 _).mono ?_
    rintro e w2 ⟨rfl, hb2⟩
    have c4 := c3.trans (hb2.mono c3.size)
    have b2 := b0.trans (c4.mono b0.size)
    have z1 := box_kept z0 c4
    obtain ⟨t0, t1, t2, t3, t4⟩ := box_five z1
    obtain ⟨r0, r1, r2, r3, r4⟩ := five_free z1
    obtain ⟨s0, s1, s2, s3, s4⟩ := box_five (five_set z1 (.int .i64 7) (.int .i64 0) (.int .i64 0) (.int .i64 0) (.slice none 0 0))
    have HG := HNO w2 (no 7) (.int .i64 7) (.int .i64 0) (.int .i64 0) (.int .i64 0) (.slice none 0 0)
    clear HNO z0 x0 v0 p0 p1
    go_wp2_with fail
    exact bodyPost_ret (v := .agg #[.int .i64 7, .int .i64 0, .int .i64 0, .int .i64 0, .slice none 0 0]) (by simp [results, Tryz.results18, go_sem, s0, s1, s2, s3, s4]) rfl ⟨_, rfl, HG.out b2 rfl⟩

end Go.Proofs.YtkjlchfmplcobaeGreatDoor

/- The reference's fleet, in memory: what is laid anew. Nothing of the program's functions is in it. -/
namespace Go.Proofs.YtkjlchfmplcobaeGreatDoor
open Go.RowKit

/-- The book, copied, has a row more. -/
theorem BkM.fresh {τ : Nat → Tag} {N : Nat} {A w6 : World} {v rv : Value} {l : List Rec} {r : Rec} {ys : List Value} (hN : N ≤ A.heap.size) (hl : ys.length = l.length * 5) (hx : ∀ j, j < l.length → ∃ rv, (∀ i, i < 5 → ys[j * 5 + i]? = (recCs (l.getD j rec0) rv)[i]?) ∧ ByM τ A rv (l.getD j rec0).root)
    (ho : w6.ownsRow A.heap.size 45 5 v (l.length + 1) (ys ++ recCs r rv)) (hb : Below A.heap.size A w6) (hy : ByM τ A rv r.root) : BkM (ext τ A.heap.size tBk) N w6 v (l ++ [r]) := by
  have U := upd_call (τ := τ) hb tBk
  refine ⟨fun b hv => ⟨(ho.lt b hv).2, ext_new (ho.lt b hv).1⟩, ys ++ recCs r rv, by rw [List.length_append]; exact ownsRow_base ho hN, ?_⟩
  exact rows_snoc (F := fun _ x v => recCs x v) (R := fun x v => ByM (ext τ A.heap.size tBk) w6 v x.root) hl (fun j hj => by obtain ⟨q, h1, h2⟩ := hx j hj; exact ⟨q, h1, h2.upd U no_row⟩) (fun i hi => rfl) (hy.upd U no_row)
/-- Another book is laid into the fleet. -/
theorem RfB.rebook {τ τ' : Nat → Tag} {N gp : Nat} {A w6 : World} {sv bv bv' : Value} {ss : List Shd} {V : Nat → ShV} {l l' : List Rec} (hB : RfB τ N A gp sv bv l) (hS : ShM τ N A sv ss V) (hN : N ≤ A.heap.size) (u : Upd τ τ' A w6 none) (hK : BkM τ' N w6 bv' l') :
    RfF τ' N (w6.setCell ⟨gp, 1, none⟩ bv') gp ⟨ss, l'⟩ ∧ Keep τ τ' N A (w6.setCell ⟨gp, 1, none⟩ bv') ∧ w6.cell? ⟨gp, 1, none⟩ = some bv ∧ w6.frozen? ⟨gp, 1, none⟩ = false := by
  have hB6 := hB.upd u no_row
  have U2 := upd_set τ' w6 gp 1 bv'
  have ne : ∀ t : Tag, t ≠ tFl → ∀ b, some gp = some b → τ' b ≠ t := fun t h1 b hb e => by cases hb; exact h1 (e.symm.trans hB6.tag)
  obtain ⟨-, q1, -, q3⟩ := box_two hB6.box
  refine ⟨⟨hB6.low, hB6.tag, _, _, V, heap_setCell_same _ _ 1 _ _ _ hB6.box, (hS.upd u no_row).upd U2 (fun b hb => by cases hb; exact .inr (.inl hB6.tag)), hK.upd U2 (ne _ (by decide)) (ne _ (by decide))⟩, ?_, q1, q3⟩
  exact (keep_upd u hN no_row).trans (keep_upd U2 (Nat.le_trans hN u.grow.size) (fun b hb => by cases hb; exact ⟨hB6.low, by rw [hB6.tag]; decide⟩))
/-- Entries, copied, and one more. -/
theorem entM_fresh {τ : Nat → Tag} {N k n : Nat} {A w6 : World} {v y : Value} {es : List (List Int)} {e : List Int} {xs : List Value} (hN : N ≤ A.heap.size) (hl : xs.length = es.length) (hx : ∀ j, j < es.length → ∃ y, xs[j]? = some y ∧ ByM τ A y (es.getD j []))
    (ho : w6.ownsRow A.heap.size 37 1 v (es.length + 1) (xs ++ [y])) (hb : Below A.heap.size A w6) (hy : w6.ownsRow A.heap.size 5 1 y n (e.map (Value.int .u8))) (he : Bytes e) (hne : ∀ b, y.ownBlock = some b → v.ownBlock ≠ some b) :
    ∃ τ' : Nat → Tag, (∀ b, b < A.heap.size → τ' b = τ b) ∧ EntM τ' N w6 k v (es ++ [e]) := by
  let τ' : Nat → Tag := fun b => if b < A.heap.size then τ b else if v.ownBlock = some b then tEnt k else tFix
  have hτ : ∀ b, b < A.heap.size → τ' b = τ b := fun b hb => if_pos hb
  have U : Upd τ τ' A w6 none := ⟨grown_below hb, hτ⟩
  have hlen : e.length = n := by simpa using hy.1
  have hyb : ByM τ' w6 y e := by
    refine ⟨⟨bytesAt_own hy, he, by rw [hlen]; exact own_small hy⟩, fun b hv => ⟨(hy.lt b hv).2, ?_⟩⟩
    show (if b < A.heap.size then _ else _) = _
    have := (hy.lt b hv).1
    rw [if_neg (by omega), if_neg (hne b hv)]
  refine ⟨τ', hτ, fun b hv => ⟨(ho.lt b hv).2, ?_⟩, xs ++ [y], by rw [List.length_append]; exact ownsRow_base ho hN, fun j hj => ?_⟩
  · show (if b < A.heap.size then _ else _) = _
    have := (ho.lt b hv).1
    rw [if_neg (by omega), if_pos hv]
  by_cases q : j < es.length
  · obtain ⟨z, h1, h2⟩ := hx j q
    refine ⟨z, by rw [List.getElem?_append_left (by omega)]; exact h1, ?_⟩
    rw [snoc_get, if_pos q]
    exact h2.upd U no_row
  · obtain rfl : j = es.length := by simp at hj; omega
    refine ⟨y, by rw [List.getElem?_append_right (by omega), hl, Nat.sub_self]; rfl, ?_⟩
    rw [snoc_get, if_neg (Nat.lt_irrefl _), if_pos rfl]
    exact hyb
/-- Segments, copied, and the bytes of one anew. -/
theorem segM_fresh {τ : Nat → Tag} {N k j n : Nat} {A w6 : World} {v y : Value} {l : List Seg} {s : Seg} {vs : List Value} (hN : N ≤ A.heap.size) (hj : j < l.length) (hx : ∀ i, i < l.length → i ≠ j → ∃ y, vs[i * 3]? = some (.int .i64 (l.getD i seg0).first) ∧ vs[i * 3 + 1]? = some (.int .i64 (l.getD i seg0).count) ∧ vs[i * 3 + 2]? = some y ∧ PkM τ N A k i y (l.getD i seg0).packed)
    (hs : vs[j * 3]? = some (.int .i64 s.first) ∧ vs[j * 3 + 1]? = some (.int .i64 s.count) ∧ vs[j * 3 + 2]? = some y)
    (ho : w6.ownsRow A.heap.size 104 3 v l.length vs) (hb : Below A.heap.size A w6) (hy : w6.ownsRow A.heap.size 5 1 y n (s.packed.map (Value.int .u8))) (he : Bytes s.packed) :
    ∃ τ' : Nat → Tag, (∀ b, b < A.heap.size → τ' b = τ b) ∧ SegM τ' N w6 k v (l.set j s) := by
  let τ' : Nat → Tag := fun b => if b < A.heap.size then τ b else if v.ownBlock = some b then tSeg k else tPk k j
  have hτ : ∀ b, b < A.heap.size → τ' b = τ b := fun b hb => if_pos hb
  have U : Upd τ τ' A w6 none := ⟨grown_below hb, hτ⟩
  have hlen : s.packed.length = n := by simpa using hy.1
  refine ⟨τ', hτ, fun b hv => ⟨(ho.lt b hv).2, ?_⟩, vs, by rw [List.length_set]; exact ownsRow_base ho hN, fun i hi => ?_⟩
  · show (if b < A.heap.size then _ else _) = _
    have := (ho.lt b hv).1
    rw [if_neg (by omega), if_pos hv]
  rw [List.length_set] at hi
  by_cases e : i = j
  · subst e
    rw [getD_set_same hi]
    refine ⟨y, hs.1, hs.2.1, hs.2.2, fun b hv => ⟨(hy.lt b hv).2, ?_⟩, by rw [hlen]; exact ownsRow_base hy hN, he⟩
    show (if b < A.heap.size then _ else _) = _
    have := (hy.lt b hv).1
    rw [if_neg (by omega), if_neg (own_ne3 hy ho (by decide) b hv)]
  · rw [getD_set_other (fun h => e h.symm)]
    obtain ⟨z, q0, q1, q2, q3⟩ := hx i hi e
    exact ⟨z, q0, q1, q2, q3.upd U no_row⟩

end Go.Proofs.YtkjlchfmplcobaeGreatDoor

/- The reference's fleet, in memory: a byte is spoilt, on copies. Nothing of the program's functions is in it. -/
namespace Go.Proofs.YtkjlchfmplcobaeGreatDoor
open Go.RowKit

theorem setCell_comm (w : World) (a b o p : Nat) (u v : Value) (h : a ≠ b) : (w.setCell ⟨a, o, none⟩ u).setCell ⟨b, p, none⟩ v = (w.setCell ⟨b, p, none⟩ v).setCell ⟨a, o, none⟩ u := by
  unfold World.setCell
  simp only [World.mk.injEq, and_true]
  apply Array.ext_getElem?
  intro i
  simp only [Array.getElem?_modify]
  by_cases h1 : b = i
  · subst h1
    rw [if_pos rfl, if_neg h, if_neg h, if_pos rfl]
  · by_cases h2 : a = i
    · subst h2
      rw [if_neg h1, if_pos rfl, if_pos rfl, if_neg h1]
    · rw [if_neg h1, if_neg h2, if_neg h2, if_neg h1]
theorem refspoil_end {τ τ1 : Nat → Tag} {N gp sb n c k m R pg qc gg gcap NP L : Nat} {w w0 wT w6 : World} {ss : List Shd} {V : Nat → ShV} {l : List Rec} {bv : Value} {s : Seg} {vs : List Value} {X : Shd}
    (hB : RfB τ1 N w0 gp (.slice (some ⟨sb, 0, none⟩) n c) bv l) (hS : ShM τ1 N w0 (.slice (some ⟨sb, 0, none⟩) n c) ss V) (hn : ss.length = n) (hk : k < n) (hX : ss.getD k shd0 = X) (K0 : Keep τ τ1 N w w0) (hN : N ≤ w.heap.size) (hN0 : N ≤ w0.heap.size) (c4 : Below w0.heap.size w0 wT) (hb6 : Below wT.heap.size wT w6)
    (hm : m < X.man.segs.length) (hvs : ∀ i, i < X.man.segs.length → ∃ y, vs[i * 3]? = some (.int .i64 (X.man.segs.getD i seg0).first) ∧ vs[i * 3 + 1]? = some (.int .i64 (X.man.segs.getD i seg0).count) ∧ vs[i * 3 + 2]? = some y ∧ PkM τ1 N w0 k i y (X.man.segs.getD i seg0).packed)
    (hL : X.man.segs.length = L) (ho6 : w6.ownsRow wT.heap.size 104 3 (.slice (some ⟨gg, 0, none⟩) L gcap) L vs) (hp6 : w6.ownsRow wT.heap.size 5 1 (.slice (some ⟨pg, 0, none⟩) NP qc) NP (s.packed.map (Value.int .u8))) (hbs : Bytes s.packed) (hR : τ1 R = tNo) (hRw : w.heap.size ≤ R) (hRl : R < w0.heap.size) (u0 u1 u2 u3 u4 : Value) :
    RfWent τ N gp w (((((((((w6.setCell ⟨sb, k * 7 + 6, none⟩ (.slice (some ⟨gg, 0, none⟩) L gcap)).setCell ⟨gg, m * 3, none⟩ (.int .i64 s.first)).setCell ⟨gg, m * 3 + 1, none⟩ (.int .i64 s.count)).setCell ⟨gg, m * 3 + 2, none⟩ (.slice (some ⟨pg, 0, none⟩) NP qc)).setCell ⟨R, 0, none⟩ u0).setCell ⟨R, 1, none⟩ u1).setCell ⟨R, 2, none⟩ u2).setCell ⟨R, 3, none⟩ u3).setCell ⟨R, 4, none⟩ u4) (.agg #[.int .i64 0, .int .i64 (k : Int), .int .i64 0, .int .i64 0, .slice none 0 0])
      (⟨ss.set k { X with man := { X.man with segs := X.man.segs.set m s } }, l⟩, ⟨0, (k : Int), 0, 0, []⟩) := by
  subst hX
  obtain ⟨sb', e', hNs, hsb, htb, -, -⟩ := (hS.out k).cells hn hk
  cases e'
  obtain ⟨q1, q2⟩ := ho6.lt gg rfl
  have hne : sb ≠ gg := by have := c4.size; omega
  rw [setCell_comm w6 sb gg _ _ _ _ hne, setCell_comm _ sb gg _ _ _ _ hne, setCell_comm _ sb gg _ _ _ _ hne]
  have hlen : vs.length = L * 3 := ho6.1
  have o1 := (ho6.stored (m * 3) (.int .i64 s.first)).1
  have o2 := (o1.stored (m * 3 + 1) (.int .i64 s.count)).1
  have o3 := (o2.stored (m * 3 + 2) (.slice (some ⟨pg, 0, none⟩) NP qc)).1
  have hpg := own_ne3 hp6 ho6 (by decide)
  have hpgn : pg ≠ gg := fun e => hpg pg rfl (by rw [e]; rfl)
  have p1 := hp6.kept (grown_set w6 gg (m * 3) (.int .i64 s.first)) (.inr (fun e => hpgn (Option.some.inj e)))
  have p2 := p1.kept (grown_set _ gg (m * 3 + 1) (.int .i64 s.count)) (.inr (fun e => hpgn (Option.some.inj e)))
  have p3 := p2.kept (grown_set _ gg (m * 3 + 2) (.slice (some ⟨pg, 0, none⟩) NP qc)) (.inr (fun e => hpgn (Option.some.inj e)))
  have b7 : Below wT.heap.size wT (((w6.setCell ⟨gg, m * 3, none⟩ (.int .i64 s.first)).setCell ⟨gg, m * 3 + 1, none⟩ (.int .i64 s.count)).setCell ⟨gg, m * 3 + 2, none⟩ (.slice (some ⟨pg, 0, none⟩) NP qc)) := ((hb6.setCell q1 _).setCell q1 _).setCell q1 _
  generalize ((w6.setCell ⟨gg, m * 3, none⟩ (.int .i64 s.first)).setCell ⟨gg, m * 3 + 1, none⟩ (.int .i64 s.count)).setCell ⟨gg, m * 3 + 2, none⟩ (.slice (some ⟨pg, 0, none⟩) NP qc) = W at *
  have hNT : N ≤ wT.heap.size := Nat.le_trans hN0 c4.size
  subst hL
  obtain ⟨τ', hτ, hSeg⟩ := segM_fresh (τ := τ1) (N := N) (k := k) (j := m) (A := wT) (w6 := W) (l := (ss.getD k shd0).man.segs) (s := s) hNT hm (fun i hi hne => by
      obtain ⟨y, h1, h2, h3, h4⟩ := hvs i hi
      refine ⟨y, ?_, ?_, ?_, h4.upd (upd_same c4) no_row⟩
      · rw [List.getElem?_set_ne (by omega), List.getElem?_set_ne (by omega), List.getElem?_set_ne (by omega)]; exact h1
      · rw [List.getElem?_set_ne (by omega), List.getElem?_set_ne (by omega), List.getElem?_set_ne (by omega)]; exact h2
      · rw [List.getElem?_set_ne (by omega), List.getElem?_set_ne (by omega), List.getElem?_set_ne (by omega)]; exact h3)
    ⟨by rw [List.getElem?_set_ne (by omega), List.getElem?_set_ne (by omega), List.getElem?_set_self (by omega)], by rw [List.getElem?_set_ne (by omega), List.getElem?_set_self (by rw [List.length_set]; omega)], by rw [List.getElem?_set_self (by rw [List.length_set, List.length_set]; omega)]⟩ o3 b7 p3 hbs
  have U : Upd τ1 τ' wT W none := ⟨grown_below b7, hτ⟩
  have hS1 := (hS.upd (upd_same c4) no_row).upd U no_row
  have hB1 := (hB.upd (upd_same c4) no_row).upd U no_row
  have K1 := (K0.trans (keep_upd (upd_same c4) hN0 no_row)).trans (keep_upd U hNT no_row)
  have hsT : sb < wT.heap.size := Nat.lt_of_lt_of_le hsb c4.size
  have htb1 : τ' sb = tSh := (hτ sb hsT).trans htb
  have hR1 : τ' R = tNo := (hτ R (Nat.lt_of_lt_of_le hRl c4.size)).trans hR
  have hNW : N ≤ W.heap.size := Nat.le_trans hNT b7.size
  have hS2 := hS1.turn (i := 6) (u := .slice (some ⟨gg, 0, none⟩) (ss.getD k shd0).man.segs.length gcap) (s' := { (ss.getD k shd0) with man := { (ss.getD k shd0).man with segs := (ss.getD k shd0).man.segs.set m s } }) (v' := ((V k).1, (V k).2.1, .slice (some ⟨gg, 0, none⟩) (ss.getD k shd0).man.segs.length gcap)) hn hk (by omega) rfl (hS1.ent k (by omega)) (hS1.root k (by omega)) hSeg
  have hB2 := hB1.turn (o := k * 7 + 6) (u := .slice (some ⟨gg, 0, none⟩) (ss.getD k shd0).man.segs.length gcap) htb1
  have K2 := K1.trans (keep_turn (o := k * 7 + 6) (u := .slice (some ⟨gg, 0, none⟩) (ss.getD k shd0).man.segs.length gcap) hNW hNs htb1)
  have hF2 := hB2.rfF hS2
  exact rfwent_by (k := (k : Int)) (n := 0) hF2 K2 hN hR1 hRw (byM_nil _ _) u0 u1 u2 u3 u4

end Go.Proofs.YtkjlchfmplcobaeGreatDoor

/- append onto a literal, of whatever lies in a row: nil or not. Nothing of the program is in it. -/
namespace Go.Proofs.YtkjlchfmplcobaeGreatDoor
open Go.RowKit
variable {P : Program} {w : World}

/-- append(dst, src...): dst a row of the call's own that is not nil, src any row. -/
theorem run_append_src (t ty : TypeId) (base b2 : Nat) (e e2 : TypeId) (i : TypeInfo) (z : Value) (size bytes : Nat) (ht : P.underlying t = some (.slice e)) (hi : P.info? e = some i) (hz : i.zero = some z)
    (hsize : i.size = size) (hby : i.bytes = bytes) (hzs : z.cells.size = size) (hsz : 0 < size)
    (B n c0 : Nat) (xs : List Value) (hown : w.ownsRow base e size (.slice (some ⟨B, 0, none⟩) n c0) n xs)
    (ao : Option Addr) (m c : Nat) (news : List Value) (hsrc : w.ownsRow b2 e2 size (.slice ao m c) m news) (h1 : ∀ u ∈ news, u.oneCell' = true)
    (h63 : n + m ≤ maxLen) (hbytes : (n + m) * bytes ≤ 140737488355328) (hbase : base ≤ w.heap.size) :
    ∃ g cap w', (Builtin.append_ #[t, t] ty #[.slice (some ⟨B, 0, none⟩) n c0, .slice ao m c]).run P w = .ok (.slice (some ⟨g, 0, none⟩) (n + m) cap) w' ∧
      w'.ownsRow base e size (.slice (some ⟨g, 0, none⟩) (n + m) cap) (n + m) (xs ++ news) ∧ w.grownBy w' (some B) := by
  rcases hsrc.2 with ⟨hv, hm0⟩ | ⟨g, cap, cur, hv, -⟩
  · subst hm0
    cases hv
    obtain rfl : news = [] := List.eq_nil_of_length_eq_zero (by simpa using hsrc.1)
    exact ⟨B, c0, w, run_append_owned_none (P := P) (w := w) base t ty e i size ht hi _ n xs hown, by simpa using hown, World.grownBy.refl _ _⟩
  · simp only [Value.slice.injEq, true_and] at hv
    obtain ⟨rfl, rfl⟩ := hv
    obtain ⟨v', w', hr, r1, r2, r3⟩ := run_append_own (P := P) w base t ty e i z size bytes ht hi hz hsize hby hzs hsz _ n xs hown ⟨g, 0, none⟩ m c news hsrc.1 (hsrc.cells (g := g) rfl) h1 h63 hbytes hbase
    have hv' : ∃ g cap, v' = .slice (some ⟨g, 0, none⟩) (n + m) cap := by
      rcases r1.2 with ⟨hv, -⟩ | ⟨g, cap, cur, hv, -⟩
      · have := (r3.1 hv).1
        simp at this
      · exact ⟨g, cap, hv⟩
    obtain ⟨g', cap', rfl⟩ := hv'
    exact ⟨g', cap', w', hr, r1, r2⟩
theorem wp_append_src {o : Oper} {a : Act} {K : Act → World → Prop} {Q : Exit → Act → World → Prop} (s x : Operand) (t : TypeId)
    (ho : o.op = .call { callee := .builtin .append, args := #[s, x], argTypes := #[t, t] })
    (base b2 : Nat) (e e2 : TypeId) (i : TypeInfo) (z : Value) (size bytes : Nat) (ht : P.underlying t = some (.slice e)) (hi : P.info? e = some i) (hz : i.zero = some z)
    (hsize : i.size = size) (hby : i.bytes = bytes) (hzs : z.cells.size = size) (hsz : 0 < size)
    (B n c0 : Nat) (xs : List Value) (hs : a.eval s = .slice (some ⟨B, 0, none⟩) n c0) (hown : w.ownsRow base e size (.slice (some ⟨B, 0, none⟩) n c0) n xs)
    (ao : Option Addr) (m c : Nat) (news : List Value) (hx : a.eval x = .slice ao m c) (hsrc : w.ownsRow b2 e2 size (.slice ao m c) m news) (h1 : ∀ u ∈ news, u.oneCell' = true)
    (h63 : n + m ≤ maxLen) (hbytes : (n + m) * bytes ≤ 140737488355328) (hbase : base ≤ w.heap.size)
    (h : ∀ g cap w', w'.ownsRow base e size (.slice (some ⟨g, 0, none⟩) (n + m) cap) (n + m) (xs ++ news) → w.grownBy w' (some B) → K (a.put o.dst (.slice (some ⟨g, 0, none⟩) (n + m) cap)) w') : o.wp P a w K Q := by
  obtain ⟨g, cap, w', hr, r1, r2⟩ := run_append_src (P := P) (w := w) t o.type base b2 e e2 i z size bytes ht hi hz hsize hby hzs hsz B n c0 xs hown ao m c news hsrc h1 h63 hbytes hbase
  unfold Oper.wp execOp
  simp only [ho, resolve, invoke, builtin, Sem.run_bind, Sem.run_pure, Result.andThen_ok, List.map_toArray, List.map_cons, List.map_nil, hs, hx, hr]
  exact h g cap w' r1 r2
theorem wpList_append_src {ops : Array Oper} {rest : List Oper} {o : Oper} {a : Act} {Q : Exit → Act → World → Prop} (hgd : o.guard = none) (s x : Operand) (t : TypeId)
    (ho : o.op = .call { callee := .builtin .append, args := #[s, x], argTypes := #[t, t] })
    (base b2 : Nat) (e e2 : TypeId) (i : TypeInfo) (z : Value) (size bytes : Nat) (ht : P.underlying t = some (.slice e)) (hi : P.info? e = some i) (hz : i.zero = some z)
    (hsize : i.size = size) (hby : i.bytes = bytes) (hzs : z.cells.size = size) (hsz : 0 < size)
    (B n c0 : Nat) (xs : List Value) (hs : a.eval s = .slice (some ⟨B, 0, none⟩) n c0) (hown : w.ownsRow base e size (.slice (some ⟨B, 0, none⟩) n c0) n xs)
    (ao : Option Addr) (m c : Nat) (news : List Value) (hx : a.eval x = .slice ao m c) (hsrc : w.ownsRow b2 e2 size (.slice ao m c) m news) (h1 : ∀ u ∈ news, u.oneCell' = true)
    (h63 : n + m ≤ maxLen) (hbytes : (n + m) * bytes ≤ 140737488355328) (hbase : base ≤ w.heap.size)
    (h : ∀ g cap w', w'.ownsRow base e size (.slice (some ⟨g, 0, none⟩) (n + m) cap) (n + m) (xs ++ news) → w.grownBy w' (some B) → wpList P ops Q rest (a.put o.dst (.slice (some ⟨g, 0, none⟩) (n + m) cap)) w') : wpList P ops Q (o :: rest) a w :=
  wpList_plain hgd fun _ hK => wp_append_src s x t ho base b2 e e2 i z size bytes ht hi hz hsize hby hzs hsz B n c0 xs hs hown ao m c news hx hsrc h1 h63 hbytes hbase fun g cap w' h2 h3 => hK _ _ (h g cap w' h2 h3)
/-- The same, and where the grown row lies. -/
theorem wp_append_src2 {o : Oper} {a : Act} {K : Act → World → Prop} {Q : Exit → Act → World → Prop} (s x : Operand) (t : TypeId)
    (ho : o.op = .call { callee := .builtin .append, args := #[s, x], argTypes := #[t, t] })
    (base b2 : Nat) (e e2 : TypeId) (i : TypeInfo) (z : Value) (size bytes : Nat) (ht : P.underlying t = some (.slice e)) (hi : P.info? e = some i) (hz : i.zero = some z)
    (hsize : i.size = size) (hby : i.bytes = bytes) (hzs : z.cells.size = size) (hsz : 0 < size)
    (B n c0 : Nat) (xs : List Value) (hs : a.eval s = .slice (some ⟨B, 0, none⟩) n c0) (hown : w.ownsRow base e size (.slice (some ⟨B, 0, none⟩) n c0) n xs)
    (ao : Option Addr) (m c : Nat) (news : List Value) (hx : a.eval x = .slice ao m c) (hsrc : w.ownsRow b2 e2 size (.slice ao m c) m news) (h1 : ∀ u ∈ news, u.oneCell' = true)
    (h63 : n + m ≤ maxLen) (hbytes : (n + m) * bytes ≤ 140737488355328) (hbase : base ≤ w.heap.size)
    (h : ∀ g cap w', w'.ownsRow base e size (.slice (some ⟨g, 0, none⟩) (n + m) cap) (n + m) (xs ++ news) → w.grownBy w' (some B) → (g = B ∨ g = w.heap.size) → K (a.put o.dst (.slice (some ⟨g, 0, none⟩) (n + m) cap)) w') : o.wp P a w K Q := by
  have key : ∃ g cap w', (Builtin.append_ #[t, t] o.type #[.slice (some ⟨B, 0, none⟩) n c0, .slice ao m c]).run P w = .ok (.slice (some ⟨g, 0, none⟩) (n + m) cap) w' ∧ w'.ownsRow base e size (.slice (some ⟨g, 0, none⟩) (n + m) cap) (n + m) (xs ++ news) ∧ w.grownBy w' (some B) ∧ (g = B ∨ g = w.heap.size) := by
    rcases hsrc.2 with ⟨hv, hm0⟩ | ⟨g, cap, cur, hv, -⟩
    · subst hm0
      cases hv
      obtain rfl : news = [] := List.eq_nil_of_length_eq_zero (by simpa using hsrc.1)
      exact ⟨B, c0, w, run_append_owned_none (P := P) (w := w) base t o.type e i size ht hi _ n xs hown, by simpa using hown, World.grownBy.refl _ _, .inl rfl⟩
    · simp only [Value.slice.injEq, true_and] at hv
      obtain ⟨rfl, rfl⟩ := hv
      obtain ⟨v', w', hr, r1, r2, r3, r4⟩ := run_append_own_at (P := P) w base t o.type e i z size bytes ht hi hz hsize hby hzs hsz _ n xs hown ⟨g, 0, none⟩ m c news hsrc.1 (hsrc.cells (g := g) rfl) h1 h63 hbytes hbase
      have hv' : ∃ g cap, v' = .slice (some ⟨g, 0, none⟩) (n + m) cap := by
        rcases r1.2 with ⟨hv, -⟩ | ⟨g, cap, cur, hv, -⟩
        · have := (r3.1 hv).1
          simp at this
        · exact ⟨g, cap, hv⟩
      obtain ⟨g', cap', rfl⟩ := hv'
      refine ⟨g', cap', w', hr, r1, r2, ?_⟩
      rcases r4 with h | h
      · exact .inl (Option.some.inj h)
      · exact .inr (Option.some.inj h)
  obtain ⟨g, cap, w', hr, r1, r2, r3⟩ := key
  unfold Oper.wp execOp
  simp only [ho, resolve, invoke, builtin, Sem.run_bind, Sem.run_pure, Result.andThen_ok, List.map_toArray, List.map_cons, List.map_nil, hs, hx, hr]
  exact h g cap w' r1 r2 r3
/-- A literal of no elements is a row of the call's own. -/
theorem own_empty {base q size : Nat} {e : TypeId} (h : w.heap[q]? = some (.cells #[] e (0, 0))) (hb : base ≤ q) : w.ownsRow base e size (.slice (some ⟨q, 0, none⟩) 0 0) 0 [] :=
  ⟨by first | rfl | simp, .inr ⟨q, 0, #[], rfl, hb, h, Nat.le_refl _, Nat.zero_le _, by first | rfl | simp, by first | rfl | simp⟩⟩
/-- A literal of one element. -/
theorem own_one {base q size : Nat} {e : TypeId} {cs : Array Value} (h : w.heap[q]? = some (.cells cs e (0, 0))) (hb : base ≤ q) (hs : cs.size = size) : w.ownsRow base e size (.slice (some ⟨q, 0, none⟩) 1 1) 1 cs.toList :=
  ⟨by simp [hs], .inr ⟨q, 1, cs, rfl, hb, h, Nat.le_refl _, by unfold maxLen; omega, by omega, List.take_of_length_le (by rw [Array.length_toList, hs, Nat.one_mul]; exact Nat.le_refl _)⟩⟩

end Go.Proofs.YtkjlchfmplcobaeGreatDoor
