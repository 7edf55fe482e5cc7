/- The walk of spoil: package fleet as it landed. -/
import Derived.Test.YtkjlchfmplcobagGreatDoorProg
import Derived.Test.YtkjlchfmplcobagGreatDoorRunAF
import Derived.Test.YtkjlchfmplcobagGreatDoorFleetGoAsked
import Derived.WalkKit
import Derived.WalkSpells
import Derived.WalkLawsBesides
import Derived.Deep.QuietTactic
import Derived.BigQuiet
import Derived.BigRegion
namespace Go.Proofs.YtkjlchfmplcobagGreatDoor
open Go.RowKit

theorem SegM.at' {τ : Nat → Tag} {N : Nat} {w : World} {k n c j : Nat} {ga : Option Addr} {l : List Seg} (h : SegM τ N w k (.slice ga n c) l) (hn : l.length = n) (hj : j < n) :
    ∃ b pa pc, ga = some ⟨b, 0, none⟩ ∧ w.cell? ⟨b, j * 3 + 2, none⟩ = some (.slice pa (l.getD j seg0).packed.length pc) ∧ PkM τ N w k j (.slice pa (l.getD j seg0).packed.length pc) (l.getD j seg0).packed := by
  obtain ⟨-, vs, h1, h2⟩ := h
  rw [hn] at h1 h2
  rcases h1.2 with ⟨-, h0⟩ | ⟨g, cap, cur, e, hb, hg, -⟩
  · omega
  · simp only [Value.slice.injEq, true_and] at e
    obtain ⟨rfl, rfl⟩ := e
    obtain ⟨y, -, -, g2, g3⟩ := h2 j hj
    obtain ⟨pa, pc, rfl⟩ := own_form' g3.2.1
    exact ⟨g, pa, pc, rfl, (h1.cellAt (j * 3 + 2) (by omega)).trans g2, g3⟩
/-- A byte is turned. -/
theorem SegM.spoil {τ : Nat → Tag} {N : Nat} {w : World} {k n c j o b g pc : Nat} {l : List Seg} (h : SegM τ N w k (.slice (some ⟨b, 0, none⟩) n c) l) (hn : l.length = n) (hj : j < n) (hc : w.cell? ⟨b, j * 3 + 2, none⟩ = some (.slice (some ⟨g, 0, none⟩) (l.getD j seg0).packed.length pc)) (x : Int) (hx : 0 ≤ x ∧ x < 256) :
    SegM τ N (w.setCell ⟨g, o, none⟩ (.int .u8 x)) k (.slice (some ⟨b, 0, none⟩) n c) (l.set j { (l.getD j seg0) with packed := (l.getD j seg0).packed.set o x }) := by
  have h' := h
  obtain ⟨h0, vs, h1, h2⟩ := h
  rw [hn] at h1 h2
  obtain ⟨y, -, -, g2, g3⟩ := h2 j hj
  have ey : y = .slice (some ⟨g, 0, none⟩) (l.getD j seg0).packed.length pc := by
    have := (h1.cellAt (j * 3 + 2) (by omega)).trans g2
    rw [hc] at this
    exact (Option.some.inj this).symm
  subst ey
  have ht := (g3.1 g rfl).2
  have U := upd_set τ w g o (.int .u8 x)
  have ne : ∀ t : Tag, t ≠ tPk k j → ∀ b, some g = some b → τ b ≠ t := fun t h1 b hb e => by cases hb; exact h1 (e.symm.trans ht)
  have hlen : (l.set j { (l.getD j seg0) with packed := (l.getD j seg0).packed.set o x }).length = l.length := List.length_set
  refine ⟨h0.upd U, vs, by rw [hlen, hn]; exact h1.kept U.grow (h0.off (ne _ (by simp [tSeg, tPk]))), fun i hi => ?_⟩
  rw [hlen, hn] at hi
  obtain ⟨z, q0, q1, q2, q3⟩ := h2 i hi
  by_cases e : i = j
  · subst e
    rw [getD_set_same (by omega)]
    rw [q2] at g2
    cases g2
    refine ⟨_, q0, q1, q2, g3.1.upd U, ?_, ?_⟩
    · have := (g3.2.1.stored o (.int .u8 x)).1
      rw [← List.map_set] at this
      simpa using this
    · refine bytes_of_mem (fun y hy => ?_)
      rcases List.mem_or_eq_of_mem_set hy with h | rfl
      · exact bytes_forall g3.2.2 y h
      · exact hx
  · rw [getD_set_other (fun h => e h.symm)]
    exact ⟨z, q0, q1, q2, q3.upd U (ne _ (by simp [tPk]; exact fun h => e h))⟩
def spoilL (f : Flt) (k : Nat) (d : Dd) : Flt × Ans :=
  if d.segment < 0 ∨ ((f.shards.getD k shd0).man.segs.length : Int) ≤ d.segment then (f, no 6) else
  if d.at' < 0 ∨ (((f.shards.getD k shd0).man.segs.getD d.segment.toNat seg0).packed.length : Int) ≤ d.at' then (f, no 3) else
  (⟨f.shards.set k { (f.shards.getD k shd0) with man := { (f.shards.getD k shd0).man with segs := (f.shards.getD k shd0).man.segs.set d.segment.toNat (spoilSeg ((f.shards.getD k shd0).man.segs.getD d.segment.toNat seg0) d.at' d.by') } }, f.book⟩, ⟨0, (k : Int), 0, 0, []⟩)
/-- The shard k's segments are turned, and nothing else. -/
theorem ShM.segs {τ : Nat → Tag} {N k : Nat} {w w' : World} {g : Nat} {sv : Value} {ss : List Shd} {V : Nat → ShV} {l' : List Seg} (h : ShM τ N w sv ss V) (hk : k < ss.length) (u : Upd τ τ w w' (some g)) {j : Nat} (ht : τ g = tPk k j) (hs : SegM τ N w' k (V k).2.2 l') : ShM τ N w' sv (ss.set k { (ss.getD k shd0) with man := { (ss.getD k shd0).man with segs := l' } }) V := by
  have ne : ∀ t : Tag, t ≠ tPk k j → ∀ b, some g = some b → τ b ≠ t := fun t h1 b hb e => by cases hb; exact h1 (e.symm.trans ht)
  have hO := (h.out k).upd u (fun b hb => by cases hb; rw [ht]; exact .inr (.inr (.inr (.inr (.inr (.inr ⟨j, rfl⟩))))))
  obtain ⟨vs, h1, h2⟩ := hO.row
  have hlen : (ss.set k { (ss.getD k shd0) with man := { (ss.getD k shd0).man with segs := l' } }).length = ss.length := List.length_set
  have hg : ∀ i, (ss.set k { (ss.getD k shd0) with man := { (ss.getD k shd0).man with segs := l' } }).getD i shd0 = if i = k then { (ss.getD k shd0) with man := { (ss.getD k shd0).man with segs := l' } } else ss.getD i shd0 := fun i => by
    by_cases e : i = k
    · subst e; rw [if_pos rfl, getD_set_same hk]
    · rw [if_neg e, getD_set_other (fun h => e h.symm)]
  refine ⟨hO.tag, ⟨vs, by rw [hlen]; exact h1, fun i hi q hq => ?_⟩, fun i hi => ?_, fun i hi => ?_, fun i hi => ?_⟩
  all_goals rw [hlen] at hi
  · rw [h2 i hi q hq, hg]
    by_cases e : i = k
    · subst e; rw [if_pos rfl]; rfl
    · rw [if_neg e]
  · rw [hg]
    by_cases e : i = k
    · subst e; rw [if_pos rfl]; exact (h.ent i hi).upd u (ne _ (by simp [tFix, tPk])) (ne _ (by simp [tEnt, tPk]))
    · rw [if_neg e]; exact hO.ent i hi e
  · rw [hg]
    by_cases e : i = k
    · subst e; rw [if_pos rfl]; exact (h.root i hi).upd u (ne _ (by simp [tFix, tPk]))
    · rw [if_neg e]; exact hO.root i hi e
  · rw [hg]
    by_cases e : i = k
    · subst e; rw [if_pos rfl]; exact hs
    · rw [if_neg e]; exact hO.seg i hi e

theorem Keep.call {τ τ1 : Nat → Tag} {N : Nat} {w w0 w1 : World} (h : Keep τ τ1 N w w0) (hN : N ≤ w.heap.size) (hb : Below w0.heap.size w0 w1) : Keep τ τ1 N w w1 := h.trans (keep_upd (upd_same hb) (Nat.le_trans hN h.size) no_row)
theorem bits_xor_u8 {x y : Int} (hx : 0 ≤ x ∧ x < 256) (hy : 0 ≤ y ∧ y < 256) : bits .xor .u8 x y = xorI x y := by
  obtain ⟨a, rfl⟩ : ∃ a : Nat, x = a := ⟨x.toNat, by omega⟩
  obtain ⟨b, rfl⟩ : ∃ b : Nat, y = b := ⟨y.toNat, by omega⟩
  have ha : a < 256 := by omega
  have hb : b < 256 := by omega
  have hxx : a ^^^ b < 2 ^ 8 := Nat.xor_lt_two_pow (by omega) (by omega)
  have h1 : (BitVec.ofInt 8 (a : Int)).toNat = a := by rw [BitVec.ofInt_natCast, BitVec.toNat_ofNat]; exact Nat.mod_eq_of_lt (by omega)
  have h2 : (BitVec.ofInt 8 (b : Int)).toNat = b := by rw [BitVec.ofInt_natCast, BitVec.toNat_ofNat]; exact Nat.mod_eq_of_lt (by omega)
  show IntKind.u8.wrap ((BitVec.ofInt 8 (a : Int) ^^^ BitVec.ofInt 8 (b : Int)).toNat : Int) = _
  rw [BitVec.toNat_xor, h1, h2]
  unfold xorI
  rw [Int.toNat_natCast, Int.toNat_natCast]
  have e : Nat.xor a b = a ^^^ b := rfl
  rw [e]
  simp [IntKind.wrap, IntKind.bits, IntKind.signed]
  omega
theorem xorI_bound {x y : Int} (hx : 0 ≤ x ∧ x < 256) (hy : 0 ≤ y ∧ y < 256) : 0 ≤ xorI x y ∧ xorI x y < 256 := by
  unfold xorI
  have h1 : x.toNat < 2 ^ 8 := by omega
  have h2 : y.toNat < 2 ^ 8 := by omega
  have := Nat.xor_lt_two_pow h1 h2
  have e : Nat.xor x.toNat y.toNat = x.toNat ^^^ y.toNat := rfl
  rw [e]
  omega
set_option maxRecDepth 100000 in
set_option maxHeartbeats 2000000 in
theorem spoil_any (f : Flt) (d : Dd) (k : Nat) (τ : Nat → Tag) (N gp : Nat) (pv : Value) (w : World) (hF : GoF τ N w gp f) (hN : N ≤ w.heap.size) (hk : k < f.shards.length) (hdn : d.n = k) (hby : 0 ≤ d.by' ∧ d.by' < 256) :
    Calls Tryz.prog 47 #[.pointer (some ⟨gp, 0, none⟩), .agg #[.int .i64 d.kind, .int .i64 d.n, .int .i64 d.time, pv, .int .i64 d.segment, .int .i64 d.at', .int .u8 d.by']] w fun e w' => ∃ av, e = .returned av ∧ Went τ N gp w w' av (spoilL f k d) := by
  rw [hdn]
  have b0 : Below w.heap.size w ((w.alloc (.cells #[.int .i64 d.kind, .int .i64 (k : Int), .int .i64 d.time, pv, .int .i64 d.segment, .int .i64 d.at', .int .u8 d.by'] 56)).alloc (.cells #[.int .i64 0, .int .i64 0, .int .i64 0, .int .i64 0, .slice none 0 0] 40)) := ((Below.refl _ _).alloc (Nat.le_refl _) _).alloc (by simp) _
  have x0 := box_one w #[.int .i64 d.kind, .int .i64 (k : Int), .int .i64 d.time, pv, .int .i64 d.segment, .int .i64 d.at', .int .u8 d.by'] 56 (.cells #[.int .i64 0, .int .i64 0, .int .i64 0, .int .i64 0, .slice none 0 0] 40)
  have z0 := box_last w (.cells #[.int .i64 d.kind, .int .i64 (k : Int), .int .i64 d.time, pv, .int .i64 d.segment, .int .i64 d.at', .int .u8 d.by'] 56) #[.int .i64 0, .int .i64 0, .int .i64 0, .int .i64 0, .slice none 0 0] 40
  have HNO : ∀ (w1 : World) (x : Ans) (u0 u1 u2 u3 u4 : Value), Hid (Below w.heap.size w w1 → x.root = [] → Went τ N gp w (((((w1.setCell ⟨w.heap.size + 1, 0, none⟩ u0).setCell ⟨w.heap.size + 1, 1, none⟩ u1).setCell ⟨w.heap.size + 1, 2, none⟩ u2).setCell ⟨w.heap.size + 1, 3, none⟩ u3).setCell ⟨w.heap.size + 1, 4, none⟩ u4) (.agg #[.int .i64 x.err, .int .i64 x.shard, .int .i64 x.place, .int .i64 x.size, .slice none 0 0]) (f, x)) := fun w1 x u0 u1 u2 u3 u4 h1 h2 => went_no hF hN h1 (by omega) h2 _ _ _ _ _
  obtain ⟨sa, sc, ba, bc, V, hB, hS⟩ := hF.open
  have U0 := upd_call (τ := τ) b0 tNo
  have hB0 := hB.upd U0 no_row
  have hS0 := hS.upd U0 no_row
  have K0 := keep_call (τ := τ) b0 hN tNo
  have hR0 : ext τ w.heap.size tNo (w.heap.size + 1) = tNo := ext_new (by omega)
  have hX0 : ext τ w.heap.size tNo w.heap.size = tNo := ext_new (by omega)
  have hsl : f.shards.length ≤ 9223372036854775807 := by obtain ⟨vs, h1, -⟩ := hS.row; have := own_small h1; unfold maxLen at this; omega
  obtain ⟨g0, g1, -, -⟩ := box_two hB0.box
  obtain ⟨u0, u1, u2, u3, u4, u5, u6⟩ := box_seven x0
  obtain ⟨sb, rfl, hNs, hsb, htb, hfz, hcs⟩ := (hS0.out k).cells rfl hk
  have hG0 := hS0.seg k hk
  obtain ⟨ga, gc, hVg⟩ := hG0.form
  have k6 : _ = some (V k).2.2 := hcs 6 (by omega)
  rw [hVg] at k6 hG0
  have hk1 : (k : Int) < f.shards.length := by omega
  have hk0 : (0 : Int) ≤ k := by omega
  have HSL : Hid (spoilL f k d = if d.segment < 0 ∨ ((f.shards.getD k shd0).man.segs.length : Int) ≤ d.segment then (f, no 6) else if d.at' < 0 ∨ (((f.shards.getD k shd0).man.segs.getD d.segment.toNat seg0).packed.length : Int) ≤ d.at' then (f, no 3) else (⟨f.shards.set k { (f.shards.getD k shd0) with man := { (f.shards.getD k shd0).man with segs := (f.shards.getD k shd0).man.segs.set d.segment.toNat (spoilSeg ((f.shards.getD k shd0).man.segs.getD d.segment.toNat seg0) d.at' d.by') } }, f.book⟩, ⟨0, (k : Int), 0, 0, []⟩)) := rfl
  obtain ⟨X, HX⟩ : ∃ X, Hid (f.shards.getD k shd0 = X) := ⟨_, rfl⟩
  have hgl : (f.shards.getD k shd0).man.segs.length ≤ 9223372036854775807 := by obtain ⟨-, vs, h1, -⟩ := hS.seg k hk; have := own_small h1; unfold maxLen at this; omega
  rw [HX.out] at hVg k6 hG0 HSL hgl
  generalize spoilL f k d = SL at *
  generalize hT : ext τ w.heap.size tNo = τ1 at *
  clear hF hB hS U0 hcs
  by_cases q1 : d.segment < 0
  · have HE : Hid (SL = (f, no 6)) := by show _ = _; rw [HSL.out, if_pos (.inl q1)]
    rw [HE.out]
    clear HE HSL hG0
    generalize X.man.segs.length = NG at *
    go_enter Tryz.func47, Tryz.ntmps47
    go_wp2_with fail
    generalize (w.alloc (.cells #[.int .i64 d.kind, .int .i64 (k : Int), .int .i64 d.time, pv, .int .i64 d.segment, .int .i64 d.at', .int .u8 d.by'] 56)).alloc (.cells #[.int .i64 0, .int .i64 0, .int .i64 0, .int .i64 0, .slice none 0 0] 40) = w0 at *
    go_quiet (fail)
    go_wp2_with fail
    refine (refused_any 6 _).mono ?_
    rintro e w2 ⟨rfl, hb2⟩
    have c2 := (below_drewN' (Below.refl _ w0) nq).trans hb2
    have b2 := b0.trans (c2.mono b0.size)
    have z1 := box_kept z0 c2
    obtain ⟨t0, t1, t2, t3, t4⟩ := box_five z1
    obtain ⟨r0, r1, r2, r3, r4⟩ := five_free z1
    obtain ⟨s0, s1, s2, s3, s4⟩ := box_five (five_set z1 (.int .i64 6) (.int .i64 0) (.int .i64 0) (.int .i64 0) (.slice none 0 0))
    have HG := HNO w2 (no 6) (.int .i64 6) (.int .i64 0) (.int .i64 0) (.int .i64 0) (.slice none 0 0)
    clear HNO z0 x0 u0 u1 u2 u3 u4 u5 u6 g0 g1 k6
    go_wp2_with fail
    exact bodyPost_ret (v := .agg #[.int .i64 6, .int .i64 0, .int .i64 0, .int .i64 0, .slice none 0 0]) (by simp [results, Tryz.results47, go_sem, s0, s1, s2, s3, s4]) rfl ⟨_, rfl, HG.out b2 rfl⟩
  have q1' : decide (d.segment < 0) = false := decide_eq_false q1
  by_cases q2 : (X.man.segs.length : Int) ≤ d.segment
  · have HE : Hid (SL = (f, no 6)) := by show _ = _; rw [HSL.out, if_pos (.inr q2)]
    rw [HE.out]
    clear HE HSL hG0
    generalize X.man.segs.length = NG at *
    go_enter Tryz.func47, Tryz.ntmps47
    go_wp2_with fail
    generalize (w.alloc (.cells #[.int .i64 d.kind, .int .i64 (k : Int), .int .i64 d.time, pv, .int .i64 d.segment, .int .i64 d.at', .int .u8 d.by'] 56)).alloc (.cells #[.int .i64 0, .int .i64 0, .int .i64 0, .int .i64 0, .slice none 0 0] 40) = w0 at *
    go_quiet (fail)
    go_wp2_with fail
    refine (refused_any 6 _).mono ?_
    rintro e w2 ⟨rfl, hb2⟩
    have c2 := (below_drewN' (Below.refl _ w0) nq).trans hb2
    have b2 := b0.trans (c2.mono b0.size)
    have z1 := box_kept z0 c2
    obtain ⟨t0, t1, t2, t3, t4⟩ := box_five z1
    obtain ⟨r0, r1, r2, r3, r4⟩ := five_free z1
    obtain ⟨s0, s1, s2, s3, s4⟩ := box_five (five_set z1 (.int .i64 6) (.int .i64 0) (.int .i64 0) (.int .i64 0) (.slice none 0 0))
    have HG := HNO w2 (no 6) (.int .i64 6) (.int .i64 0) (.int .i64 0) (.int .i64 0) (.slice none 0 0)
    clear HNO z0 x0 u0 u1 u2 u3 u4 u5 u6 g0 g1 k6
    go_wp2_with fail
    exact bodyPost_ret (v := .agg #[.int .i64 6, .int .i64 0, .int .i64 0, .int .i64 0, .slice none 0 0]) (by simp [results, Tryz.results47, go_sem, s0, s1, s2, s3, s4]) rfl ⟨_, rfl, HG.out b2 rfl⟩
  have q2' : decide ((X.man.segs.length : Int) ≤ d.segment) = false := decide_eq_false q2
  obtain ⟨m, hm⟩ : ∃ m : Nat, d.segment = m := ⟨d.segment.toNat, by omega⟩
  rw [hm] at u4 x0 z0 b0 hB0 hS0 hG0 g0 u0 u1 u2 u3 u5 u6 q1 q1' q2 q2' HSL k6 K0 hsb hfz
  rw [hm]
  rw [Int.toNat_natCast] at HSL
  have hmn : m < X.man.segs.length := by omega
  have hm0 : (0 : Int) ≤ m := by omega
  have hm1 : (m : Int) < X.man.segs.length := by omega
  obtain ⟨gb, pa, pc, rfl, hc6, hPk⟩ := hG0.at' rfl hmn
  have hgbl : gb < _ := World.block_lt_of_cell? _ _ hc6
  replace HSL : Hid (SL = if d.at' < 0 ∨ ((X.man.segs.getD m seg0).packed.length : Int) ≤ d.at' then (f, no 3) else (⟨f.shards.set k { X with man := { X.man with segs := X.man.segs.set m (spoilSeg (X.man.segs.getD m seg0) d.at' d.by') } }, f.book⟩, ⟨0, (k : Int), 0, 0, []⟩)) := by show _ = _; rw [HSL.out, if_neg (by omega)]
  have hpl : (X.man.segs.getD m seg0).packed.length ≤ 9223372036854775807 := by have := own_small hPk.2.1; unfold maxLen at this; omega
  by_cases q3 : d.at' < 0
  · have HE : Hid (SL = (f, no 3)) := by show _ = _; rw [HSL.out, if_pos (.inl q3)]
    rw [HE.out]
    clear HE HSL hG0 hPk
    generalize (X.man.segs.getD m seg0).packed.length = NP at *
    generalize X.man.segs.length = NG at *
    go_enter Tryz.func47, Tryz.ntmps47
    go_wp2_with fail
    generalize (w.alloc (.cells #[.int .i64 d.kind, .int .i64 (k : Int), .int .i64 d.time, pv, .int .i64 (m : Int), .int .i64 d.at', .int .u8 d.by'] 56)).alloc (.cells #[.int .i64 0, .int .i64 0, .int .i64 0, .int .i64 0, .slice none 0 0] 40) = w0 at *
    go_quiet (fail)
    go_wp2_with fail
    refine (refused_any 3 _).mono ?_
    rintro e w2 ⟨rfl, hb2⟩
    have c2 := (below_drewN' (Below.refl _ w0) nq).trans hb2
    have b2 := b0.trans (c2.mono b0.size)
    have z1 := box_kept z0 c2
    obtain ⟨t0, t1, t2, t3, t4⟩ := box_five z1
    obtain ⟨r0, r1, r2, r3, r4⟩ := five_free z1
    obtain ⟨s0, s1, s2, s3, s4⟩ := box_five (five_set z1 (.int .i64 3) (.int .i64 0) (.int .i64 0) (.int .i64 0) (.slice none 0 0))
    have HG := HNO w2 (no 3) (.int .i64 3) (.int .i64 0) (.int .i64 0) (.int .i64 0) (.slice none 0 0)
    clear HNO z0 x0 u0 u1 u2 u3 u4 u5 u6 g0 g1 k6 hc6
    go_wp2_with fail
    exact bodyPost_ret (v := .agg #[.int .i64 3, .int .i64 0, .int .i64 0, .int .i64 0, .slice none 0 0]) (by simp [results, Tryz.results47, go_sem, s0, s1, s2, s3, s4]) rfl ⟨_, rfl, HG.out b2 rfl⟩
  have q3' : decide (d.at' < 0) = false := decide_eq_false q3
  by_cases q4 : ((X.man.segs.getD m seg0).packed.length : Int) ≤ d.at'
  · have HE : Hid (SL = (f, no 3)) := by show _ = _; rw [HSL.out, if_pos (.inr q4)]
    rw [HE.out]
    clear HE HSL hG0 hPk
    generalize (X.man.segs.getD m seg0).packed.length = NP at *
    generalize X.man.segs.length = NG at *
    go_enter Tryz.func47, Tryz.ntmps47
    go_wp2_with fail
    generalize (w.alloc (.cells #[.int .i64 d.kind, .int .i64 (k : Int), .int .i64 d.time, pv, .int .i64 (m : Int), .int .i64 d.at', .int .u8 d.by'] 56)).alloc (.cells #[.int .i64 0, .int .i64 0, .int .i64 0, .int .i64 0, .slice none 0 0] 40) = w0 at *
    go_quiet (fail)
    go_wp2_with fail
    refine (refused_any 3 _).mono ?_
    rintro e w2 ⟨rfl, hb2⟩
    have c2 := (below_drewN' (Below.refl _ w0) nq).trans hb2
    have b2 := b0.trans (c2.mono b0.size)
    have z1 := box_kept z0 c2
    obtain ⟨t0, t1, t2, t3, t4⟩ := box_five z1
    obtain ⟨r0, r1, r2, r3, r4⟩ := five_free z1
    obtain ⟨s0, s1, s2, s3, s4⟩ := box_five (five_set z1 (.int .i64 3) (.int .i64 0) (.int .i64 0) (.int .i64 0) (.slice none 0 0))
    have HG := HNO w2 (no 3) (.int .i64 3) (.int .i64 0) (.int .i64 0) (.int .i64 0) (.slice none 0 0)
    clear HNO z0 x0 u0 u1 u2 u3 u4 u5 u6 g0 g1 k6 hc6
    go_wp2_with fail
    exact bodyPost_ret (v := .agg #[.int .i64 3, .int .i64 0, .int .i64 0, .int .i64 0, .slice none 0 0]) (by simp [results, Tryz.results47, go_sem, s0, s1, s2, s3, s4]) rfl ⟨_, rfl, HG.out b2 rfl⟩
  have q4' : decide (((X.man.segs.getD m seg0).packed.length : Int) ≤ d.at') = false := decide_eq_false q4
  obtain ⟨o, ho⟩ : ∃ o : Nat, d.at' = o := ⟨d.at'.toNat, by omega⟩
  rw [ho] at u5 x0 z0 b0 hB0 hS0 hG0 g0 u0 u1 u2 u3 u4 u6 q3 q3' q4 q4' HSL k6 K0 hsb hfz hc6 hPk hgbl
  rw [ho]
  have hon : o < (X.man.segs.getD m seg0).packed.length := by omega
  have ho0 : (0 : Int) ≤ o := by omega
  have ho1 : (o : Int) < (X.man.segs.getD m seg0).packed.length := by omega
  replace HSL : Hid (SL = (⟨f.shards.set k { X with man := { X.man with segs := X.man.segs.set m { (X.man.segs.getD m seg0) with packed := (X.man.segs.getD m seg0).packed.set o (xorI ((X.man.segs.getD m seg0).packed.getD o 0) d.by') } } }, f.book⟩, ⟨0, (k : Int), 0, 0, []⟩)) := by show _ = _; rw [HSL.out, if_neg (by omega)]; unfold spoilSeg; rw [Int.toNat_natCast]
  obtain ⟨pg, rfl, hcp, hfp, hNp⟩ := own_get (z := 0) hPk.2.1 o hon
  have htp := (hPk.1 pg rfl).2
  have hpb := hPk.2.2 o
  have HXO : Hid (bits .xor .u8 ((X.man.segs.getD m seg0).packed.getD o 0) d.by' = xorI ((X.man.segs.getD m seg0).packed.getD o 0) d.by') := bits_xor_u8 hpb hby
  have HEnd : Hid (∀ (W : World), Below _ _ W → ∃ F', GoF τ1 N (W.setCell ⟨pg, o, none⟩ (.int .u8 (xorI ((X.man.segs.getD m seg0).packed.getD o 0) d.by'))) gp F' ∧ F' = _ ∧ Keep τ τ1 N w (W.setCell ⟨pg, o, none⟩ (.int .u8 (xorI ((X.man.segs.getD m seg0).packed.getD o 0) d.by')))) := fun W hb => by
    have hS1 := hS0.upd (upd_same hb) no_row
    have hB1 := hB0.upd (upd_same hb) no_row
    have hG1 := hG0.upd (upd_same hb) no_row (fun _ => no_row)
    have hc1 := (hb.cell (p := ⟨gb, m * 3 + 2, none⟩) hgbl).trans hc6
    have hSp := hG1.spoil (o := o) rfl hmn hc1 (xorI ((X.man.segs.getD m seg0).packed.getD o 0) d.by') (xorI_bound hpb hby)
    rw [← hVg] at hSp
    have U := upd_set τ1 W pg o (.int .u8 (xorI ((X.man.segs.getD m seg0).packed.getD o 0) d.by'))
    have hS2 := hS1.segs hk U htp hSp
    rw [HX.out] at hS2
    have hB2 := hB1.upd U (fun b hb => by cases hb; rw [htp]; simp [tPk, tFl, tBk, tFix])
    refine ⟨_, hB2.goF hS2, rfl, (K0.call hN hb).trans (keep_upd U (Nat.le_trans hN (Nat.le_trans b0.size hb.size)) (fun b hb => by cases hb; rw [htp]; exact ⟨hNp, by simp [tPk, tFix, tNo, tAn]⟩))⟩
  go_enter Tryz.func47, Tryz.ntmps47
  go_wp2_with fail
  generalize (w.alloc (.cells #[.int .i64 d.kind, .int .i64 (k : Int), .int .i64 d.time, pv, .int .i64 (m : Int), .int .i64 (o : Int), .int .u8 d.by'] 56)).alloc (.cells #[.int .i64 0, .int .i64 0, .int .i64 0, .int .i64 0, .slice none 0 0] 40) = w0 at *
  generalize (X.man.segs.getD m seg0).packed.length = NP at *
  generalize X.man.segs.length = NG at *
  generalize (X.man.segs.getD m seg0).packed.getD o 0 = PO at *
  go_quiet (fail)
  go_wp2_with fail
  go_region
  all_goals
    rw [HXO.out]
    obtain ⟨F', hF7, rfl, hK7⟩ := HEnd.out _ (below_drewN' (Below.refl _ w0) (nq + 1))
    have z1 : (w0.drewN (nq + 1)).heap[w.heap.size + 1]? = _ := z0
    have hne : w.heap.size + 1 ≠ pg := fun e => by rw [e, htp] at hR0; simp [tPk, tNo] at hR0
    have hne2 : w.heap.size ≠ pg := fun e => by rw [e, htp] at hX0; simp [tPk, tNo] at hX0
    have z7 := box_set_far (v := .int .u8 (xorI PO d.by')) (o := o) z1 hne
    have x1 : (w0.drewN (nq + 1)).heap[w.heap.size]? = _ := x0
    obtain ⟨-, v1, -⟩ := box_seven (box_set_far (v := .int .u8 (xorI PO d.by')) (o := o) x1 hne2)
    have HW : Hid (∀ a0 a1 a2 a3 a4, Went τ N gp w ((((((((w0.drewN (nq + 1)).setCell ⟨pg, o, none⟩ (.int .u8 (xorI PO d.by'))).setCell ⟨w.heap.size + 1, 0, none⟩ a0).setCell ⟨w.heap.size + 1, 1, none⟩ a1).setCell ⟨w.heap.size + 1, 2, none⟩ a2).setCell ⟨w.heap.size + 1, 3, none⟩ a3).setCell ⟨w.heap.size + 1, 4, none⟩ a4)) (.agg #[.int .i64 0, .int .i64 (k : Int), .int .i64 0, .int .i64 0, .slice none 0 0]) (_, ⟨0, (k : Int), 0, 0, []⟩)) := fun a0 a1 a2 a3 a4 => ⟨τ1, ⟨_, rfl, byM_nil _ _⟩, hF7.five hR0 _ _ _ _ _, hK7.five hN (by omega) _ _ _ _ _⟩
    clear hF7 hK7 HEnd HNO HXO x0 z0 x1 z1 u0 u1 u2 u3 u4 u5 u6 g0 g1 k6 hc6 hcp hfp hS0 hB0 hG0 K0 hPk
    generalize (w0.drewN (nq + 1)).setCell ⟨pg, o, none⟩ (.int .u8 (xorI PO d.by')) = W7 at *
    obtain ⟨t0, t1, t2, t3, t4⟩ := box_five z7
    obtain ⟨r0, r1, r2, r3, r4⟩ := five_free z7
    obtain ⟨s0, s1, s2, s3, s4⟩ := box_five (five_set z7 (.int .i64 0) (.int .i64 (k : Int)) (.int .i64 0) (.int .i64 0) (.slice none 0 0))
    have HW2 : Hid _ := HW.out (.int .i64 0) (.int .i64 (k : Int)) (.int .i64 0) (.int .i64 0) (.slice none 0 0)
    clear HW
    go_wp2_with fail
    exact bodyPost_ret (v := .agg #[.int .i64 0, .int .i64 (k : Int), .int .i64 0, .int .i64 0, .slice none 0 0]) (by simp [results, Tryz.results47, go_sem, s0, s1, s2, s3, s4]) rfl ⟨_, rfl, by rw [HSL.out]; exact HW2.out⟩

end Go.Proofs.YtkjlchfmplcobagGreatDoor
