/- FleetGoRetire, FleetGoBegin, FleetGoWrong, ShelfMem, FleetOff, as one text. -/
import Derived.Test.YtkjlchfmplcobahDoorProg
import Derived.Test.YtkjlchfmplcobahDoorRunAH
import Derived.WalkKit
import Derived.WalkSpells
import Derived.WalkLawsBesides
import Derived.Test.YtkjlchfmplcobahDoorRunAE
import Derived.Deep.QuietTactic
import Derived.BigQuiet
/- The walk of retire: package fleet as it landed. -/
namespace Go.Proofs.YtkjlchfmplcobahDoor
open Go.RowKit

def retireL (f : Flt) (k : Nat) : Flt × Ans :=
  if (verifyL (f.shards.getD k shd0).man).2.1 ≠ 0 then (f, no (verifyL (f.shards.getD k shd0).man).2.1) else
  (⟨f.shards.set k { (f.shards.getD k shd0) with state := 4, entries := [] }, f.book⟩, ⟨0, (k : Int), 0, (f.shards.getD k shd0).man.size, (f.shards.getD k shd0).man.root⟩)
set_option maxRecDepth 100000 in
set_option maxHeartbeats 2000000 in
theorem retire_any (hVer : VerifyC) (f : Flt) (k : Nat) (τ : Nat → Tag) (N gp : Nat) (w : World) (hF : GoF τ N w gp f) (hN : N ≤ w.heap.size) (hr : Ready w) (hk : k < f.shards.length) (hrl : (f.shards.getD k shd0).man.root.length ≤ 1000000) :
    Calls Tryd.prog 24 #[.pointer (some ⟨gp, 0, none⟩), .int .i64 (k : Int)] w fun e w' => ∃ av, e = .returned av ∧ Went τ N gp w w' av (retireL f k) := by
  have b0 : Below w.heap.size w (w.alloc (.cells #[.int .i64 0, .int .i64 0, .int .i64 0, .int .i64 0, .slice none 0 0] 44)) := (Below.refl _ _).alloc (Nat.le_refl _) _
  have z0 := box_new w #[.int .i64 0, .int .i64 0, .int .i64 0, .int .i64 0, .slice none 0 0] 44
  have HNO : ∀ (w1 : World) (x : Ans) (u0 u1 u2 u3 u4 : Value), Hid (Below w.heap.size w w1 → x.root = [] → Went τ N gp w (((((w1.setCell ⟨w.heap.size, 0, none⟩ u0).setCell ⟨w.heap.size, 1, none⟩ u1).setCell ⟨w.heap.size, 2, none⟩ u2).setCell ⟨w.heap.size, 3, none⟩ u3).setCell ⟨w.heap.size, 4, none⟩ u4) (.agg #[.int .i64 x.err, .int .i64 x.shard, .int .i64 x.place, .int .i64 x.size, .slice none 0 0]) (f, x)) := fun w1 x u0 u1 u2 u3 u4 h1 h2 => went_no hF hN h1 (Nat.le_refl _) h2 _ _ _ _ _
  obtain ⟨sa, sc, ba, bc, V, hB, hS⟩ := hF.open
  have U0 := upd_call (τ := τ) b0 tNo
  have hB0 := hB.upd U0 no_row
  have hS0 := hS.upd U0 no_row
  have K0 := keep_call (τ := τ) b0 hN tNo
  have hR0 : ext τ w.heap.size tNo w.heap.size = tNo := ext_new (Nat.le_refl _)
  have hsl : f.shards.length ≤ 9223372036854775807 := by obtain ⟨vs, h1, -⟩ := hS.row; have := own_small h1; unfold maxLen at this; omega
  obtain ⟨g0, g1, -, -⟩ := box_two hB0.box
  obtain ⟨sb, rfl, hNs, hsb, htb, hfz, hcs⟩ := (hS0.out k).cells rfl hk
  obtain ⟨ra, rc, hVr⟩ := (hS0.root k hk).here.at'.form
  obtain ⟨ga, gc, hVg⟩ := (hS0.seg k hk).form
  have hMan : ManAt _ (.agg #[.int .i64 (f.shards.getD k shd0).man.size, (V k).2.1, (V k).2.2]) (f.shards.getD k shd0).man := ⟨_, _, rfl, (hS0.root k hk).here, (hS0.seg k hk).segs⟩
  have k4 : _ = some (Value.int .i64 (f.shards.getD k shd0).man.size) := hcs 4 (by omega)
  have k5 : _ = some (V k).2.1 := hcs 5 (by omega)
  have k6 : _ = some (V k).2.2 := hcs 6 (by omega)
  have k2 : _ = some (Value.int .i64 (f.shards.getD k shd0).state) := hcs 2 (by omega)
  have k3 : _ = some (V k).1 := hcs 3 (by omega)
  rw [hVr, hVg] at hMan
  rw [hVr] at k5
  rw [hVg] at k6
  have hVf := hVer _ _ _ (hr.below b0) hMan
  have hk1 : (k : Int) < f.shards.length := by omega
  have hk0 : (0 : Int) ≤ k := by omega
  have HRL : Hid (retireL f k = if (verifyL (f.shards.getD k shd0).man).2.1 ≠ 0 then (f, no (verifyL (f.shards.getD k shd0).man).2.1) else (⟨f.shards.set k { (f.shards.getD k shd0) with state := 4, entries := [] }, f.book⟩, ⟨0, (k : Int), 0, (f.shards.getD k shd0).man.size, (f.shards.getD k shd0).man.root⟩)) := rfl
  have hmb := (hS0.root k hk).here.bytes
  obtain ⟨X, HX⟩ : ∃ X, Hid (f.shards.getD k shd0 = X) := ⟨_, rfl⟩
  rw [HX.out] at hVr hVg k2 k4 k5 k6 hVf HRL hrl hmb
  generalize retireL f k = RL at *
  generalize hvf : verifyL X.man = VF at *
  obtain ⟨VL, E1, E2⟩ := VF
  dsimp only at HRL hVf
  generalize hT : ext τ w.heap.size tNo = τ1 at *
  clear hF hB hS U0 hMan hcs hvf
  by_cases hE : E1 = 0
  · subst hE
    have HE : Hid (RL = (⟨f.shards.set k { X with state := 4, entries := [] }, f.book⟩, ⟨0, (k : Int), 0, X.man.size, X.man.root⟩)) := by show _ = _; rw [HRL.out, if_neg (fun h => h rfl)]
    rw [HE.out]
    clear HE HRL HNO
    go_enter Tryd.func24, Tryd.ntmps24
    go_wp2_with fail
    generalize w.alloc (.cells #[.int .i64 0, .int .i64 0, .int .i64 0, .int .i64 0, .slice none 0 0] 44) = w0 at *
    refine hVf.mono ?_
    rintro e w1 ⟨xa, xn, xc, rfl, -, hb1⟩
    have d1 : Below w1.heap.size w1 (w1.alloc (.cells #[.int .i64 0, .int .i64 E2] 36)) := (Below.refl _ _).alloc (Nat.le_refl _) _
    have c1 := hb1.trans (d1.mono hb1.size)
    have hN0 : N ≤ w0.heap.size := Nat.le_trans hN b0.size
    have hS1 := hS0.upd (upd_same c1) no_row
    have hB1 := hB0.upd (upd_same c1) no_row
    have K1 := K0.trans (keep_upd (upd_same c1) hN0 no_row)
    have z1 := box_kept z0 c1
    have f1 := box_new w1 #[.int .i64 0, .int .i64 E2] 36
    have hsb1 : sb < (w1.alloc (.cells #[.int .i64 0, .int .i64 E2] 36)).heap.size := Nat.lt_of_lt_of_le hsb c1.size
    have j2 := (c1.cell (p := ⟨sb, k * 7 + 2, none⟩) hsb).trans k2
    have j3 := (c1.cell (p := ⟨sb, k * 7 + 3, none⟩) hsb).trans k3
    have j4 := (c1.cell (p := ⟨sb, k * 7 + 4, none⟩) hsb).trans k4
    have j5 := (c1.cell (p := ⟨sb, k * 7 + 5, none⟩) hsb).trans k5
    obtain ⟨sb', e', -, -, -, hfz1, -⟩ := (hS1.out k).cells rfl hk
    cases e'
    have hN1 : N ≤ (w1.alloc (.cells #[.int .i64 0, .int .i64 E2] 36)).heap.size := Nat.le_trans hN0 c1.size
    clear hVf g0 g1 k2 k3 k4 k5 k6 hS0 hB0 K0 hfz d1
    obtain ⟨p0, p1, -, -⟩ := box_two f1
    have j2f := hfz1 (k * 7 + 2)
    have j3f := hfz1 (k * 7 + 3)
    have hEnt := hS1.ent k hk
    have hRoo := hS1.root k hk
    have hSeg := hS1.seg k hk
    rw [HX.out] at hEnt hRoo hSeg
    have hS2 := hS1.turn (i := 2) (u := .int .i64 4) (s' := { X with state := 4 }) (v' := V k) rfl hk (by omega) (by rw [HX.out]; rfl) hEnt hRoo hSeg
    have htb1 : τ1 sb = tSh := htb
    have hB2 := hB1.turn (o := k * 7 + 2) (u := .int .i64 4) htb1
    have hN2 : N ≤ ((w1.alloc (.cells #[.int .i64 0, .int .i64 E2] 36)).setCell ⟨sb, k * 7 + 2, none⟩ (.int .i64 4)).heap.size := by simpa using hN1
    have hEn2 := entM_nil τ1 N ((w1.alloc (.cells #[.int .i64 0, .int .i64 E2] 36)).setCell ⟨sb, k * 7 + 2, none⟩ (.int .i64 4)) k
    have ne : ∀ t : Tag, t ≠ tSh → ∀ b, some sb = some b → τ1 b ≠ t := fun t h1 b hb e => by cases hb; exact h1 (e.symm.trans htb1)
    have hRo2 := hRoo.upd (upd_set τ1 _ sb (k * 7 + 2) (.int .i64 4)) (ne _ (by decide))
    have hSe2 := hSeg.upd (upd_set τ1 _ sb (k * 7 + 2) (.int .i64 4)) (ne _ (by simp [tSeg, tSh])) (fun j => ne _ (by simp [tPk, tSh]))
    have hS3 := hS2.turn (i := 3) (u := .slice none 0 0) (s' := { X with state := 4, entries := [] }) (v' := (.slice none 0 0, (V k).2.1, (V k).2.2)) (by rw [List.length_set]) hk (by omega) (by rw [getD_set_same hk, if_pos rfl]; rfl) hEn2 hRo2 hSe2
    rw [List.set_set] at hS3
    have hB3 := hB2.turn (o := k * 7 + 3) (u := .slice none 0 0) htb1
    have K3 := (K1.trans (keep_turn (o := k * 7 + 2) (u := .int .i64 4) hN1 hNs htb1)).trans (keep_turn (o := k * 7 + 3) (u := .slice none 0 0) hN2 hNs htb1)
    have hF3 := hB3.goF hS3
    have hne : w.heap.size ≠ sb := fun e => by rw [e, htb1] at hR0; simp [tSh, tNo] at hR0
    have z3 := box_set_far (v := .slice none 0 0) (o := k * 7 + 3) (box_set_far (v := .int .i64 4) (o := k * 7 + 2) z1 hne) hne
    have hr3 := hRo2.upd (upd_set τ1 _ sb (k * 7 + 3) (.slice none 0 0)) (ne _ (by decide))
    rw [hVr] at hr3
    have hTk := taken_any (k : Int) X.man.size X.man.root _ _ hr3.here hrl
    clear hS1 hB1 K1 hS2 hB2 hEn2 hRo2 hSe2 hS3 hB3 hEnt hRoo hSeg z1 f1 hfz1 hr3
    go_wp2_with fail
    generalize ((w1.alloc (.cells #[.int .i64 0, .int .i64 E2] 36)).setCell ⟨sb, k * 7 + 2, none⟩ (.int .i64 4)).setCell ⟨sb, k * 7 + 3, none⟩ (.slice none 0 0) = W3 at *
    refine hTk.mono ?_
    rintro e w8 ⟨ta, tc, rfl, ho8, hb8⟩
    have HW : Hid _ := went_head (k := (k : Int)) (n := X.man.size) hF3 K3 hN hR0 (lt_heap z3) (Nat.le_refl _) hb8 ho8 hmb (.int .i64 0) (.int .i64 (k : Int)) (.int .i64 0) (.int .i64 X.man.size) (.slice ta X.man.root.length tc)
    have z8 := box_kept z3 hb8
    obtain ⟨t0, t1, t2, t3, t4⟩ := box_five z8
    obtain ⟨r0, r1, r2, r3, r4⟩ := five_free z8
    obtain ⟨s0, s1, s2, s3, s4⟩ := box_five (five_set z8 (.int .i64 0) (.int .i64 (k : Int)) (.int .i64 0) (.int .i64 X.man.size) (.slice ta X.man.root.length tc))
    clear hTk z3 ho8 hF3 K3 j2 j3 j4 j5 p0 p1
    go_wp2_with fail
    exact bodyPost_ret (v := .agg #[.int .i64 0, .int .i64 (k : Int), .int .i64 0, .int .i64 X.man.size, .slice ta X.man.root.length tc]) (by simp [results, Tryd.results24, go_sem, s0, s1, s2, s3, s4]) rfl ⟨_, rfl, HW.out⟩
  · have HE : Hid (RL = (f, no E1)) := by show _ = _; rw [HRL.out, if_pos hE]
    have hE' : (E1 != 0) = true := by simpa using hE
    rw [HE.out]
    clear HE HRL hE
    go_enter Tryd.func24, Tryd.ntmps24
    go_wp2_with fail
    generalize w.alloc (.cells #[.int .i64 0, .int .i64 0, .int .i64 0, .int .i64 0, .slice none 0 0] 44) = w0 at *
    refine hVf.mono ?_
    rintro e w1 ⟨xa, xn, xc, rfl, -, hb1⟩
    have d1 : Below w1.heap.size w1 (w1.alloc (.cells #[.int .i64 E1, .int .i64 E2] 36)) := (Below.refl _ _).alloc (Nat.le_refl _) _
    have c1 := hb1.trans (d1.mono hb1.size)
    obtain ⟨p0, p1, -, -⟩ := box_two (box_new w1 #[.int .i64 E1, .int .i64 E2] 36)
    clear hVf g0 g1 k2 k3 k4 k5 k6 hS0 hB0 K0 hfz d1
    go_wp2_with fail
    generalize w1.alloc (.cells #[.int .i64 E1, .int .i64 E2] 36) = W at *
    refine (refused_any E1 W).mono ?_
    rintro e w2 ⟨rfl, hb2⟩
    have c2 := c1.trans (hb2.mono c1.size)
    have b2 := b0.trans (c2.mono b0.size)
    have z1 := box_kept z0 c2
    obtain ⟨t0, t1, t2, t3, t4⟩ := box_five z1
    obtain ⟨r0, r1, r2, r3, r4⟩ := five_free z1
    obtain ⟨s0, s1, s2, s3, s4⟩ := box_five (five_set z1 (.int .i64 E1) (.int .i64 0) (.int .i64 0) (.int .i64 0) (.slice none 0 0))
    have HG := HNO w2 (no E1) (.int .i64 E1) (.int .i64 0) (.int .i64 0) (.int .i64 0) (.slice none 0 0)
    clear HNO z0 p0 p1
    go_wp2_with fail
    exact bodyPost_ret (v := .agg #[.int .i64 E1, .int .i64 0, .int .i64 0, .int .i64 0, .slice none 0 0]) (by simp [results, Tryd.results24, go_sem, s0, s1, s2, s3, s4]) rfl ⟨_, rfl, HG.out b2 rfl⟩

end Go.Proofs.YtkjlchfmplcobahDoor

/- The walk of begin: package fleet as it landed. -/
namespace Go.Proofs.YtkjlchfmplcobahDoor
open Go.RowKit

theorem Tryd.info57b : (Tryd.prog.info? 57).map (fun i => (i.zero, i.size, i.bytes)) = some (some (.agg #[.int .i64 0, .int .i64 0, .int .i64 0, .slice none 0 0, .int .i64 0, .slice none 0 0, .slice none 0 0]), 7, 104) := by kernel_rfl
def nilV : ShV := (.slice none 0 0, .slice none 0 0, .slice none 0 0)
theorem start_get {ws : List Win} {k : Nat} (hk : k < ws.length) : (startL ws).shards.getD k shd0 = ⟨(ws.getD k win0).a, (ws.getD k win0).b, 1, [], man0⟩ := wins_get ws hk
/-- The shards' cells, so far. -/
def Beg (ws : List Win) (vs : List Value) (j : Nat) : Prop := ∀ k, k < j → ∀ i, i < 7 → vs[k * 7 + i]? = (shdV ⟨(ws.getD k win0).a, (ws.getD k win0).b, 1, [], man0⟩ nilV)[i]?
theorem beg_nil (ws : List Win) : Beg ws [] 0 := fun _ h => absurd h (Nat.not_lt_zero _)
theorem Beg.snoc {ws : List Win} {vs : List Value} {j : Nat} (h : Beg ws vs j) (hl : vs.length = j * 7) : Beg ws (vs ++ shdV ⟨(ws.getD j win0).a, (ws.getD j win0).b, 1, [], man0⟩ nilV) (j + 1) := fun k hk i hi => by
  by_cases e : k < j
  · rw [List.getElem?_append_left (by omega)]; exact h k e i hi
  · obtain rfl : k = j := by omega
    rw [List.getElem?_append_right (by omega), hl, show k * 7 + i - k * 7 = i by omega]
theorem beg_fleet {ws : List Win} {N gp n c : Nat} {w : World} {sa : Option Addr} {vs : List Value} (hn : ws.length = n) (hrow : w.ownsRow N 57 7 (.slice sa n c) n vs) (hB : Beg ws vs n) (hbox : w.heap[gp]? = some (.cells #[.slice sa n c, .slice none 0 0] 63 (0, 0))) (hgp : N ≤ gp) :
    ∃ τ : Nat → Tag, GoF τ N w gp (startL ws) ∧ ∀ b, b < N → τ b = tNo := by
  have hlen : (startL ws).shards.length = n := by simp [startL, hn]
  have hne : (Value.slice sa n c).ownBlock ≠ some gp := fun h => by
    rcases hrow.2 with ⟨e, -⟩ | ⟨g, cap, cur, e, -, hh, -⟩
    · rw [e] at h; cases h
    · rw [e] at h
      cases h
      rw [hh] at hbox
      cases hbox
  refine ⟨fun b => if b = gp then tFl else if (Value.slice sa n c).ownBlock = some b then tSh else tNo, ⟨hgp, if_pos rfl, .slice sa n c, .slice none 0 0, fun _ => nilV, hbox, ⟨fun b hb => ?_, ⟨vs, by rw [hlen]; exact hrow, fun k hk i hi => ?_⟩, fun k hk => ?_, fun k hk => ?_, fun k hk => ?_⟩, bkM_nil _ _ _⟩, fun b hb => ?_⟩
  · refine ⟨(hrow.lt b hb).2, ?_⟩
    have : b ≠ gp := fun e => hne (by rw [← e]; exact hb)
    show (if b = gp then _ else _) = _
    rw [if_neg this, if_pos hb]
  · rw [hlen] at hk
    rw [start_get (by omega)]
    exact hB k hk i hi
  · rw [hlen] at hk
    rw [start_get (by omega)]
    exact entM_nil _ _ _ _
  · rw [hlen] at hk
    rw [start_get (by omega)]
    exact byM_nil _ _
  · rw [hlen] at hk
    rw [start_get (by omega)]
    exact segM_nil _ _ _ _
  · have h1 : b ≠ gp := by omega
    have h2 : (Value.slice sa n c).ownBlock ≠ some b := fun h => by have := (hrow.lt b h).1; omega
    show (if b = gp then _ else _) = _
    rw [if_neg h1, if_neg h2]
theorem lit_shd (w : World) (s : Shd) (v : ShV) (t : TypeId) : ∀ (j : Nat) (u : Value), (shdV s v)[j]? = some u → (w.alloc (.cells #[.int .i64 s.from', .int .i64 s.to', .int .i64 s.state, v.1, .int .i64 s.man.size, v.2.1, v.2.2] t)).cell? ((⟨w.heap.size, 0, none⟩ : Addr).add j) = some u := fun j u hj => by
  have hadd : (⟨w.heap.size, 0, none⟩ : Addr).add j = ⟨w.heap.size, 0 + j, none⟩ := Addr.add_mid _ _ _
  rw [hadd, Nat.zero_add]
  rw [cell_of_row _ _ j _ t _ (box_new w _ t), ← hj]
  simp [shdV]
set_option maxRecDepth 100000 in
set_option maxHeartbeats 2000000 in
theorem fleetBegin_any (ws : List Win) (wa : Option Addr) (n c : Nat) (w : World) (hW : WinsAt w (.slice wa n c) ws) (hn : ws.length = n) (h8 : n ≤ 8) :
    Calls Tryd.prog 15 #[.slice wa n c] w fun e w' => ∃ gp, e = .returned (.pointer (some ⟨gp, 0, none⟩)) ∧ (∃ τ : Nat → Tag, GoF τ w.heap.size w' gp (startL ws) ∧ ∀ b, b < w.heap.size → τ b = tNo) ∧ Below w.heap.size w w' := by
  obtain ⟨i0, hi0, hz0, hz1, hz2⟩ := info_parts Tryd.info57b
  obtain ⟨wa', wc', e, hc1, hc2, -, hWc⟩ := hW
  rw [hn] at e hc1 hWc
  cases e
  unfold maxLen at hc2
  go_enter Tryd.func15, Tryd.ntmps15
  go_wp2_with (at_make; refine wpList_make_own _ rfl _ _ 29 rfl w.heap.size 57 i0 _ 7 Tryd.underlying29 hi0 hz0 hz1 .i64 .i64 _ n rfl rfl rfl (by rw [hz2]; omega) (by unfold maxLen; omega) (Nat.le_refl _) ?_; intro w1 hown hgrow)
  have b1 : Below w.heap.size w w1 := (Below.refl _ _).grown hgrow (Nat.le_refl _) (fun _ h => by cases h)
  go_loopw [3, 11] (fun gv kv wr => ∃ (j : Nat) (va : Option Addr) (vc : Nat) (vs : List Value), j ≤ n ∧ kv = .int .i64 j ∧ gv = .slice va j vc ∧ wr.ownsRow w.heap.size 57 7 (.slice va j vc) j vs ∧ Hid (Beg ws vs j) ∧ Below w.heap.size w wr) (fun _ kv _ => n - (intOf kv).toNat)
  case atStart => exact ⟨0, _, n, [], Nat.zero_le _, rfl, rfl, hown, beg_nil ws, b1⟩
  case round =>
    obtain ⟨wo, rfl⟩ : ∃ x, x = wr := ⟨wr, rfl⟩
    obtain ⟨j, va, vc, vs, hj, rfl, rfl, hrow, HB, hbr⟩ := hrel
    have hsr := hbr.size
    clear hown hgrow b1
    by_cases hlt : j < n
    · have hlt' : (j : Int) < n := by omega
      obtain ⟨p1, o1, rfl, hp1, hcs1⟩ := hWc.resolve_left (by omega)
      obtain ⟨d0, d1⟩ := hcs1 j hlt
      replace d0 := (hbr.cell (p := ⟨p1, o1 + j * 2, none⟩) hp1).trans d0
      replace d1 := (hbr.cell (p := ⟨p1, o1 + j * 2 + 1, none⟩) hp1).trans d1
      have HB2 : Hid (Beg ws (vs ++ shdV ⟨(ws.getD j win0).a, (ws.getD j win0).b, 1, [], man0⟩ nilV) (j + 1)) := HB.out.snoc hrow.1
      clear hcs1 hWc HB
      generalize (ws.getD j win0).a = A at *
      generalize (ws.getD j win0).b = B at *
      have bV : Below w.heap.size w (wo.alloc (.cells #[.int .i64 A, .int .i64 B] 64)) := hbr.alloc hsr _
      obtain ⟨t0, t1, -, -⟩ := box_two (box_new wo #[.int .i64 A, .int .i64 B] 64)
      have hrowV := hrow.alloc (.cells #[.int .i64 A, .int .i64 B] 64)
      have hsV : (wo.alloc (.cells #[.int .i64 A, .int .i64 B] 64)).heap.size = wo.heap.size + 1 := by simp
      clear hrow hbr
      have hrowA := hrowV.alloc (.cells #[.int .i64 A, .int .i64 B, .int .i64 1, .slice none 0 0, .int .i64 0, .slice none 0 0, .slice none 0 0] 57)
      have hnew := lit_shd (wo.alloc (.cells #[.int .i64 A, .int .i64 B] 64)) ⟨A, B, 1, [], man0⟩ nilV 57
      rw [hsV] at hnew
      have bA := bV.alloc bV.size (.cells #[.int .i64 A, .int .i64 B, .int .i64 1, .slice none 0 0, .int .i64 0, .slice none 0 0, .slice none 0 0] 57)
      have hsA := bA.size
      have hone : ∀ u ∈ shdV ⟨A, B, 1, [], man0⟩ nilV, u.oneCell' = true := by intro u hu; simp [shdV, nilV] at hu; rcases hu with rfl | rfl | rfl | rfl | rfl | rfl | rfl <;> rfl
      go_wp2_with (at_builtin; refine wpList_append_own _ rfl (.tmp 15) (.tmp 21) 29 rfl w.heap.size 57 i0 _ 7 104 Tryd.underlying29 hi0 hz0 hz1 hz2 rfl (by decide) _ _ _ rfl hrowA ⟨wo.heap.size + 1, 0, none⟩ 1 1 _ rfl rfl hnew hone (by unfold maxLen; omega) (by omega) hsA ?_; intro v7 w7 ho7 hg7 _; obtain ⟨ga, gc, rfl⟩ := own7_form ho7)
      have b7 : Below w.heap.size w w7 := bA.grown hg7 hsA (fun _ h => own7_block hrowA h)
      go_roundw
      case rel => exact ⟨j + 1, ga, gc, _, by omega, by go_num, rfl, ho7, HB2, b7⟩
      case measure => simp [intOf]; omega
    · obtain rfl : j = n := by omega
      have hnl : ¬ (j : Int) < j := by omega
      have xg := box_new wo #[.slice va j vc, .slice none 0 0] 63
      have HG : Hid (∃ τ : Nat → Tag, GoF τ w.heap.size (wo.alloc (.cells #[.slice va j vc, .slice none 0 0] 63)) wo.heap.size (startL ws) ∧ ∀ b, b < w.heap.size → τ b = tNo) := beg_fleet hn (hrow.alloc _) HB.out xg hsr
      have bE : Below w.heap.size w (wo.alloc (.cells #[.slice va j vc, .slice none 0 0] 63)) := hbr.alloc hsr _
      clear hrow HB hWc xg
      go_wp2_with fail
      go_ret
      exact ⟨_, rfl, HG.out, bE⟩

end Go.Proofs.YtkjlchfmplcobahDoor

/- The walk of Wrong: package fleet as it landed. -/
namespace Go.Proofs.YtkjlchfmplcobahDoor
open Go.RowKit

theorem WinsAt.get2 {w : World} {a : Option Addr} {n c : Nat} {l : List Win} (h : WinsAt w (.slice a n c) l) (hn : l.length = n) {j : Nat} (hj : j < n) : ∃ b o, a = some ⟨b, o, none⟩ ∧ b < w.heap.size ∧ ∀ i, i < n → WinCells w b (o + i * 2) (l.getD i win0) := by
  obtain ⟨a', c', e, -, -, -, h5⟩ := h
  rw [hn] at e h5
  cases e
  obtain ⟨b, off, h6, h7, h8⟩ := h5.resolve_left (by omega)
  exact ⟨b, off, h6, h7, h8⟩
set_option maxRecDepth 100000 in
set_option maxHeartbeats 4000000 in
theorem goWrong_any (l : List Win) (a : Option Addr) (n c : Nat) (w : World) (hl : WinsAt w (.slice a n c) l) (hn : l.length = n) :
    Calls Tryd.prog 14 #[.slice a n c] w fun e w' => e = .returned (faultV (wrongWins l)) ∧ Below w.heap.size w w' := by
  have hcap : n ≤ maxLen := by obtain ⟨a', c', e, h2, h3, -⟩ := hl; cases e; omega
  unfold maxLen at hcap
  have b0 : Below w.heap.size w (w.alloc (.cells #[.int .i64 0, .int .i64 0] 36)) := (Below.refl _ _).alloc (Nat.le_refl _) _
  have x0 := box_new w #[.int .i64 0, .int .i64 0] 36
  by_cases h8 : 8 < n
  · have HE : Hid (wrongWins l = (5, 0)) := wrongWins_many (by omega)
    have h8' : (8 : Int) < n := by omega
    clear hl
    go_enter Tryd.func14, Tryd.ntmps14
    go_wp2_with fail
    exact bodyPost_ret (v := faultV (5, 0)) (by simp [results, Tryd.results14, go_sem]) rfl ⟨by rw [HE.out], (Below.refl _ _).alloc (Nat.le_refl _) _⟩
  · have h8' : ¬ (8 : Int) < n := by omega
    have HW1 : ∀ k : Nat, Hid (k < n → (∀ j, j < k → wrongWin l j = 0) → wrongWin l k ≠ 0 → wrongWins l = (wrongWin l k, (k : Int))) := fun k h1 h2 h3 => wrongWins_at (by omega) (by omega) h2 h3
    have HW2 : Hid ((∀ j, j < n → wrongWin l j = 0) → wrongWins l = (0, 0)) := fun h => wrongWins_none (by omega) (fun j hj => h j (by omega))
    go_enter Tryd.func14, Tryd.ntmps14
    go_wp2_with fail
    generalize w.alloc (.cells #[.int .i64 0, .int .i64 0] 36) = w0 at *
    go_loopw [11] (fun kv wr => ∃ k : Nat, k ≤ n ∧ kv = .int .i64 k ∧ Hid (∀ j, j < k → wrongWin l j = 0) ∧ wr.heap[w.heap.size]? = some (.cells #[.int .i64 0, .int .i64 0] 36 (0, 0)) ∧ Below w.heap.size w wr) (fun kv _ => n - (intOf kv).toNat)
    case atStart => exact ⟨0, Nat.zero_le _, rfl, fun _ hj => absurd hj (Nat.not_lt_zero _), x0, b0⟩
    case round =>
      obtain ⟨wo, rfl⟩ : ∃ x, x = wr := ⟨wr, rfl⟩
      obtain ⟨k, hk, rfl, HO, xo, hbr⟩ := hrel
      have hsr := hbr.size
      clear x0 b0
      by_cases hlt : k < n
      · have hlt' : (k : Int) < n := by omega
        obtain ⟨g, o, rfl, hg, hcs⟩ := (hl.below hbr).get2 hn hlt
        obtain ⟨d0, d1⟩ := hcs k hlt
        have HV := HW1 k
        have HWk : Hid (wrongWin l k = if (l.getD k win0).a < 0 ∨ (l.getD k win0).b ≤ (l.getD k win0).a ∨ 1000000 < (l.getD k win0).b then 3 else if 0 < k ∧ (l.getD k win0).a < (l.getD (k - 1) win0).b then 7 else 0) := rfl
        have HF : Hid (wrongWin l k = 0 → ∀ j, j < k + 1 → wrongWin l j = 0) := fun h j hj => by
          by_cases e : j = k
          · rw [e]; exact h
          · exact HO.out j (by omega)
        have hprev := fun (h : 0 < k) => (hcs (k - 1) (by omega)).2
        clear hcs HW1 HW2
        have hd5 : Below wo.heap.size wo (wo.alloc (.cells #[.int .i64 (l.getD k win0).a, .int .i64 (l.getD k win0).b] 64)) := (Below.refl _ _).alloc (Nat.le_refl _) _
        have b5 := hbr.trans (hd5.mono hsr)
        have x5 := box_kept xo hd5
        have y5 := box_new wo #[.int .i64 (l.getD k win0).a, .int .i64 (l.getD k win0).b] 64
        have hprev5 := fun (h : 0 < k) => (hd5.cell (p := ⟨g, o + (k - 1) * 2 + 1, none⟩) hg).trans (hprev h)
        obtain ⟨t0, t1, -, -⟩ := box_two y5
        obtain ⟨u0, u1, u2, u3⟩ := box_two x5
        clear hprev
        generalize (l.getD k win0).a = A at *
        generalize (l.getD k win0).b = B at *
        generalize (l.getD (k - 1) win0).b = C at *
        have fin3 : A < 0 ∨ B ≤ A ∨ 1000000 < B → Hid (wrongWins l = (3, (k : Int))) := fun h => by
          show _ = _
          have h3 : wrongWin l k = 3 := by rw [HWk.out, if_pos h]
          rw [HV.out hlt HO.out (by rw [h3]; decide), h3]
        have bE := fun (e : Int) => two_below b5 (Nat.le_refl w.heap.size) (.int .i64 e) (.int .i64 (k : Int))
        have rE := fun (e : Int) => box_two (two_set x5 (.int .i64 e) (.int .i64 (k : Int)))
        by_cases q1 : A < 0
        · have HE := fin3 (.inl q1)
          obtain ⟨r0, r1, -, -⟩ := rE 3
          clear fin3 HV HWk HF hprev5 rE
          go_wp2_with fail
          exact bodyPost_ret (v := faultV (3, (k : Int))) (by simp [results, Tryd.results14, go_sem, r0, r1]) rfl ⟨by rw [HE.out], bE 3⟩
        by_cases q2 : B ≤ A
        · have HE := fin3 (.inr (.inl q2))
          obtain ⟨r0, r1, -, -⟩ := rE 3
          clear fin3 HV HWk HF hprev5 rE
          go_wp2_with fail
          exact bodyPost_ret (v := faultV (3, (k : Int))) (by simp [results, Tryd.results14, go_sem, r0, r1]) rfl ⟨by rw [HE.out], bE 3⟩
        by_cases q3 : 1000000 < B
        · have HE := fin3 (.inr (.inr q3))
          obtain ⟨r0, r1, -, -⟩ := rE 3
          clear fin3 HV HWk HF hprev5 rE
          go_wp2_with fail
          exact bodyPost_ret (v := faultV (3, (k : Int))) (by simp [results, Tryd.results14, go_sem, r0, r1]) rfl ⟨by rw [HE.out], bE 3⟩
        have HWk2 : Hid (wrongWin l k = if 0 < k ∧ A < C then 7 else 0) := by show _ = _; rw [HWk.out, if_neg (by omega)]
        clear fin3 HWk
        by_cases q4 : 0 < k
        · have q4' : (0 : Int) < k := by omega
          have q5 : (1 : Int) ≤ k := by omega
          have hp := hprev5 q4
          have hk1 : ((k : Int) - 1) < n := by omega
          by_cases q6 : A < C
          · have HE : Hid (wrongWins l = (7, (k : Int))) := by
              show _ = _
              have h7 : wrongWin l k = 7 := by rw [HWk2.out, if_pos ⟨q4, q6⟩]
              rw [HV.out hlt HO.out (by rw [h7]; decide), h7]
            clear HV HWk2 HF hprev5 rE
            go_wp2_with fail
            go_quiet (fail)
            go_wp2_with fail
            have dq := below_drewN' (Below.refl (wo.alloc (.cells #[.int .i64 A, .int .i64 B] 64)).heap.size (wo.alloc (.cells #[.int .i64 A, .int .i64 B] 64))) nq
            have x6 := box_kept x5 dq
            obtain ⟨s0, s1, -, -⟩ := box_two (two_set x6 (.int .i64 7) (.int .i64 (k : Int)))
            have b6 := two_below (b5.trans (dq.mono b5.size)) (Nat.le_refl w.heap.size) (.int .i64 7) (.int .i64 (k : Int))
            exact bodyPost_ret (v := faultV (7, (k : Int))) (by simp [results, Tryd.results14, go_sem, s0, s1]) rfl ⟨by rw [HE.out], b6⟩
          · have H0 : wrongWin l k = 0 := by rw [HWk2.out, if_neg (fun h => q6 h.2)]
            have HF2 : Hid (∀ j, j < k + 1 → wrongWin l j = 0) := HF.out H0
            clear HV HWk2 HF hprev5 rE H0
            go_wp2_with fail
            go_quiet (fail)
            go_wp2_with fail
            go_roundw
            case rel => exact ⟨k + 1, by omega, by go_num, HF2, x5, below_drewN' b5 _⟩
            case measure => simp [intOf]; omega
        · obtain rfl : k = 0 := by omega
          have H0 : wrongWin l 0 = 0 := by rw [HWk2.out, if_neg (fun h => absurd h.1 (Nat.lt_irrefl _))]
          have HF2 : Hid (∀ j, j < 0 + 1 → wrongWin l j = 0) := HF.out H0
          rw [Nat.zero_mul, Nat.add_zero] at d0 d1
          clear HV HWk2 HF hprev5 rE H0
          go_wp2_with fail
          go_quiet (fail)
          go_wp2_with fail
          go_roundw
          case rel => exact ⟨0 + 1, by omega, by go_num, HF2, x5, below_drewN' b5 _⟩
          case measure => simp [intOf]; omega
      · obtain rfl : k = n := by omega
        have hnl : ¬ (k : Int) < k := by omega
        have HE : Hid (wrongWins l = (0, 0)) := HW2.out HO.out
        obtain ⟨u0, u1, u2, u3⟩ := box_two xo
        obtain ⟨r0, r1, -, -⟩ := box_two (two_set xo (.int .i64 0) (.int .i64 0))
        have bE := two_below hbr (Nat.le_refl w.heap.size) (.int .i64 0) (.int .i64 0)
        clear HW1 HW2 HO hl
        go_wp2_with fail
        exact bodyPost_ret (v := faultV (0, 0)) (by simp [results, Tryd.results14, go_sem, r0, r1]) rfl ⟨by rw [HE.out], bE⟩

end Go.Proofs.YtkjlchfmplcobahDoor

/- Variables that are set, and lists that lie elsewhere. -/
namespace Go.Proofs.YtkjlchfmplcobahDoor
open Go.RowKit

/-- Setting a variable that is no row of bytes, nor of slices of them. -/
theorem Laid.set {w : World} {a : Option Addr} {n c k o : Nat} {L : List (List Int)} {cs : Array Value} {t : TypeId} {mk : Nat × Nat} (h : Laid w a n c L) (hk : w.heap[k]? = some (.cells cs t mk)) (h1 : 5 ≠ t) (h2 : n ≠ 0 → ∀ g off, a = some ⟨g, off, none⟩ → g ≠ k) (u : Value) : Laid (w.setCell ⟨k, o, none⟩ u) a n c L := by
  obtain ⟨hl, vs, he, hc⟩ := h
  have hB : ∀ y d, ByteEl w y d → ByteEl (w.setCell ⟨k, o, none⟩ u) y d := fun y d hy => hy.same (fun g cur mk' hg => by
    rw [heap_setCell_other w ⟨k, o, none⟩ g u (fun e => ?_)]
    have e : g = k := e
    subst e
    rw [hg] at hk
    cases hk
    exact h1 rfl)
  have he' : Els (w.setCell ⟨k, o, none⟩ u) vs L := ⟨he.1, fun j hj => by obtain ⟨y, q1, q2⟩ := he.2 j hj; exact ⟨y, q1, hB _ _ q2⟩⟩
  have hcell : n ≠ 0 → ∀ b off, a = some ⟨b, off, none⟩ → ∀ j, (w.setCell ⟨k, o, none⟩ u).cell? ⟨b, off + j, none⟩ = w.cell? ⟨b, off + j, none⟩ := fun hn b off ha j => World.cell?_setCell_far _ _ _ _ (show k ≠ b from fun e => h2 hn b off ha e.symm)
  refine ⟨⟨hl.len, ?_, hl.room, hl.cap, hl.nil, hl.bytes, hl.short⟩, vs, he', fun ad ha j v hv => ?_⟩
  · rcases hl.at' with h | ⟨b, off, cp, e, hb, hp⟩
    · exact .inl h
    · cases e
      refine .inr ⟨b, off, c, rfl, by simpa using hb, fun j hj => ?_⟩
      obtain ⟨y, q1, q2⟩ := he'.2 j hj
      obtain ⟨ya, yc, rfl⟩ := q2.bytes.form
      refine ⟨ya, _, yc, ?_, q2.bytes⟩
      rw [hcell (by have := hl.len; omega) b off rfl]
      have := hc _ rfl j _ q1
      have e2 : (⟨b, off, none⟩ : Addr).add j = ⟨b, off + j, none⟩ := Addr.add_mid _ _ _
      rwa [e2] at this
  · have h3 := hc ad ha j v hv
    rcases hl.at' with ⟨rfl, -⟩ | ⟨b, off, cp, e, hb, hp⟩
    · have := (List.getElem?_eq_some_iff.1 hv).1
      rw [he.1] at this
      simp at this
    · cases e
      cases ha
      have e2 : (⟨b, off, none⟩ : Addr).add j = ⟨b, off + j, none⟩ := Addr.add_mid _ _ _
      rw [e2] at h3 ⊢
      rw [hcell (by have h4 := (List.getElem?_eq_some_iff.1 hv).1; rw [he.1, hl.len] at h4; omega) b off rfl]
      exact h3
end Go.Proofs.YtkjlchfmplcobahDoor

/- A variable of numbers is written: fleets and answers are as they were, wherever they lie. -/
namespace Go.Proofs.YtkjlchfmplcobahDoor
open Go.RowKit

/-- The block F holds numbers alone; and all other memory is as it was. -/
structure Off (F : Nat) (w w' : World) : Prop where
  nums : ∀ x v, w.cell? ⟨F, x, none⟩ = some v → ∃ z, v = .int .i64 z
  size : w.heap.size ≤ w'.heap.size
  kept : ∀ b x, b ≠ F → w'.cell? ⟨b, x, none⟩ = w.cell? ⟨b, x, none⟩
theorem Off.slice {F : Nat} {w w' : World} (h : Off F w w') {b x : Nat} {a : Option Addr} {n c : Nat} (hc : w.cell? ⟨b, x, none⟩ = some (.slice a n c)) : b ≠ F := fun e => by
  subst e
  obtain ⟨z, hz⟩ := h.nums _ _ hc
  cases hz
theorem BytesAt.off {F : Nat} {w w' : World} (ho : Off F w w') {v : Value} {zs : List Int} (h : BytesAt w v zs) : BytesAt w' v zs := by
  rcases h with h | ⟨b, off, cp, h1, h2, h3⟩
  · exact .inl h
  · by_cases hl : zs.length = 0
    · have : zs = [] := List.eq_nil_of_length_eq_zero hl
      subst this
      exact .inl ⟨rfl, _, _, h1, fun e => by cases e⟩
    · have hbF : b ≠ F := fun e => by
        subst e
        obtain ⟨z, hz⟩ := ho.nums _ _ (h3 0 (by omega))
        cases hz
      exact .inr ⟨b, off, cp, h1, Nat.lt_of_lt_of_le h2 ho.size, fun j hj => by rw [ho.kept _ _ hbF]; exact h3 j hj⟩
theorem Some'.off {F : Nat} {w w' : World} (ho : Off F w w') {v : Value} {b : List Int} (h : Some' w v b) : Some' w' v b := ⟨h.at'.off ho, h.bytes, h.short⟩
theorem PartsAt.off {F : Nat} {w w' : World} (ho : Off F w w') {v : Value} {L : List (List Int)} (h : PartsAt w v L) : PartsAt w' v L := by
  rcases h with h | ⟨b, off, cp, h1, h2, h3⟩
  · exact .inl h
  · refine .inr ⟨b, off, cp, h1, Nat.lt_of_lt_of_le h2 ho.size, fun j hj => ?_⟩
    obtain ⟨a, m, c, hc, hB⟩ := h3 j hj
    exact ⟨a, m, c, by rw [ho.kept _ _ (ho.slice hc)]; exact hc, hB.off ho⟩
theorem Lists.off {F : Nat} {w w' : World} (ho : Off F w w') {a : Option Addr} {n c : Nat} {L : List (List Int)} (h : Lists w a n c L) : Lists w' a n c L := ⟨h.len, h.at'.off ho, h.room, h.cap, h.nil, h.bytes, h.short⟩
theorem RecCells.off {F : Nat} {w w' : World} (ho : Off F w w') {b o : Nat} {r : Rec} (h : RecCells w b o r) : RecCells w' b o r := by
  obtain ⟨h0, h1, h2, h3, ra, rc, h4, h5⟩ := h
  have hb := ho.slice h4
  exact ⟨by rw [ho.kept _ _ hb]; exact h0, by rw [ho.kept _ _ hb]; exact h1, by rw [ho.kept _ _ hb]; exact h2, by rw [ho.kept _ _ hb]; exact h3, ra, rc, by rw [ho.kept _ _ hb]; exact h4, h5.off ho⟩
theorem RecsAt.off {F : Nat} {w w' : World} (ho : Off F w w') {v : Value} {l : List Rec} (h : RecsAt w v l) : RecsAt w' v l := by
  obtain ⟨a, c, h1, h2, h3, h4, h5⟩ := h
  refine ⟨a, c, h1, h2, h3, h4, ?_⟩
  rcases h5 with h5 | ⟨b, off, h6, h7, h8⟩
  · exact .inl h5
  · exact .inr ⟨b, off, h6, Nat.lt_of_lt_of_le h7 ho.size, fun j hj => (h8 j hj).off ho⟩
theorem SegsAt.off {F : Nat} {w w' : World} (ho : Off F w w') {v : Value} {l : List Seg} (h : SegsAt w v l) : SegsAt w' v l := by
  obtain ⟨a, c, h1, h2, h3, h4, h5⟩ := h
  refine ⟨a, c, h1, h2, h3, h4, ?_⟩
  rcases h5 with h5 | ⟨b, off, h6, h7, h8⟩
  · exact .inl h5
  · refine .inr ⟨b, off, h6, Nat.lt_of_lt_of_le h7 ho.size, fun j hj => ?_⟩
    obtain ⟨c0, c1, pa, pc, c2, c3, c4⟩ := h8 j hj
    have hb := ho.slice c2
    exact ⟨by rw [ho.kept _ _ hb]; exact c0, by rw [ho.kept _ _ hb]; exact c1, pa, pc, by rw [ho.kept _ _ hb]; exact c2, c3.off ho, c4⟩
theorem ShdCells.off {F : Nat} {w w' : World} (ho : Off F w w') {b o : Nat} {s : Shd} (h : ShdCells w b o s) : ShdCells w' b o s := by
  obtain ⟨h1, h2, h3, ⟨ea, ec, h4, h4'⟩, h5, ⟨ra, rc, h6, h6'⟩, ⟨ga, gc, h7, h7'⟩⟩ := h
  have hb := ho.slice h4
  exact ⟨by rw [ho.kept _ _ hb]; exact h1, by rw [ho.kept _ _ hb]; exact h2, by rw [ho.kept _ _ hb]; exact h3, ⟨ea, ec, by rw [ho.kept _ _ hb]; exact h4, h4'.off ho⟩, by rw [ho.kept _ _ hb]; exact h5, ⟨ra, rc, by rw [ho.kept _ _ hb]; exact h6, h6'.off ho⟩, ⟨ga, gc, by rw [ho.kept _ _ hb]; exact h7, h7'.off ho⟩⟩
theorem RowAt.off {F : Nat} {w w' : World} (ho : Off F w w') {α : Type} {n : Nat} {P : World → Nat → Nat → α → Prop} {z : α} {v : Value} {l : List α} (h : RowAt n P z w v l) (hP : ∀ b o x, P w b o x → P w' b o x) : RowAt n P z w' v l := by
  obtain ⟨a, c, h1, h2, h3, h4, h5⟩ := h
  refine ⟨a, c, h1, h2, h3, h4, ?_⟩
  rcases h5 with h5 | ⟨b, off, h6, h7, h8⟩
  · exact .inl h5
  · exact .inr ⟨b, off, h6, Nat.lt_of_lt_of_le h7 ho.size, fun j hj => hP _ _ _ (h8 j hj)⟩
theorem FltV.off {F : Nat} {w w' : World} (ho : Off F w w') {v : Value} {f : Flt} (h : FltV w v f) : FltV w' v f := by
  obtain ⟨sa, sc, ba, bc, h1, h2, h3⟩ := h
  exact ⟨sa, sc, ba, bc, h1, RowAt.off ho h2 (fun _ _ _ hx => hx.off ho), h3.off ho⟩
theorem AnsCells.off {F : Nat} {w w' : World} (ho : Off F w w') {b o : Nat} {x : Ans} (h : AnsCells w b o x) : AnsCells w' b o x := by
  obtain ⟨h0, h1, h2, h3, ra, rc, h4, h5⟩ := h
  have hb := ho.slice h4
  exact ⟨by rw [ho.kept _ _ hb]; exact h0, by rw [ho.kept _ _ hb]; exact h1, by rw [ho.kept _ _ hb]; exact h2, by rw [ho.kept _ _ hb]; exact h3, ra, rc, by rw [ho.kept _ _ hb]; exact h4, h5.off ho⟩
theorem AnssAt.off {F : Nat} {w w' : World} (ho : Off F w w') {v : Value} {l : List Ans} (h : AnssAt w v l) : AnssAt w' v l := RowAt.off ho h (fun _ _ _ hx => hx.off ho)

end Go.Proofs.YtkjlchfmplcobahDoor
