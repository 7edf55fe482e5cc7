/- The walk of export: package fleet as it landed. -/
import Derived.Test.YtkjlchfmplcobaeGreatDoorProg
import Derived.Test.YtkjlchfmplcobaeGreatDoorRunAD
import Derived.Test.YtkjlchfmplcobaeGreatDoorRunAE
import Derived.Test.YtkjlchfmplcobaeGreatDoorShelfGoExport
import Derived.WalkKit
import Derived.WalkSpells
import Derived.WalkLawsBesides
namespace Go.Proofs.YtkjlchfmplcobaeGreatDoor
open Go.RowKit

/-- What each new block of a manifest is for. -/
theorem tag_segs {τ : Nat → Tag} {N k n : Nat} {w w' : World} {rv gv : Value} {vs : List Value} {l : List Seg} {d : List Int} (h1 : w'.ownsRow w.heap.size 104 3 gv l.length vs) (h2 : SegEls w' w.heap.size vs l) (hri : RiseV vs l.length) (hrv : w'.ownsRow w.heap.size 5 1 rv n (d.map (Value.int .u8))) (hap : ∀ j y g, vs[j * 3 + 2]? = some y → j < l.length → y.ownBlock = some g → rv.ownBlock ≠ some g) (hby : SegsBytes l) (hd : Bytes d) (hN : N ≤ w.heap.size) :
    ∃ τ' : Nat → Tag, (∀ b, b < w.heap.size → τ' b = τ b) ∧ SegM τ' N w' k gv l ∧ ByM τ' w' rv d := by
  classical
  let τ' : Nat → Tag := fun b => if b < w.heap.size then τ b else if h : ∃ j, j < l.length ∧ ∃ y, vs[j * 3 + 2]? = some y ∧ y.ownBlock = some b then tPk k (Classical.choose h) else if gv.ownBlock = some b then tSeg k else tFix
  refine ⟨τ', fun b hb => if_pos hb, ⟨fun b hb => ?_, vs, ownsRow_base h1 hN, fun j hj => ?_⟩, ?_⟩
  · obtain ⟨q1, q2⟩ := h1.lt b hb
    refine ⟨q2, ?_⟩
    have hno : ¬ ∃ j, j < l.length ∧ ∃ y, vs[j * 3 + 2]? = some y ∧ y.ownBlock = some b := fun ⟨j, hj, y, hy, hb'⟩ => by
      obtain ⟨-, -, z, h3, h4⟩ := h2.2 j hj
      rw [hy] at h3
      cases h3
      exact own_ne3 h4 h1 (by decide) b hb' hb
    show (if b < w.heap.size then _ else _) = _
    rw [if_neg (by omega), dif_neg hno, if_pos hb]
  · obtain ⟨g0, g1, y, g2, g3⟩ := h2.2 j hj
    refine ⟨y, g0, g1, g2, fun b hb => ?_, ownsRow_base g3 hN, hby j⟩
    obtain ⟨q1, q2⟩ := g3.lt b hb
    refine ⟨q2, ?_⟩
    have hex : ∃ j, j < l.length ∧ ∃ y, vs[j * 3 + 2]? = some y ∧ y.ownBlock = some b := ⟨j, hj, y, g2, hb⟩
    have hch : Classical.choose hex = j := by
      obtain ⟨c1, z, c2, c3⟩ := Classical.choose_spec hex
      rcases Nat.lt_trichotomy (Classical.choose hex) j with h | h | h
      · exact absurd (hri _ _ h hj z y b b c2 g2 c3 hb) (Nat.lt_irrefl _)
      · exact h
      · exact absurd (hri _ _ h c1 y z b b g2 c2 hb c3) (Nat.lt_irrefl _)
    show (if b < w.heap.size then _ else _) = _
    rw [if_neg (by omega), dif_pos hex, hch]
  · have hl : d.length = n := by simpa using hrv.1
    refine ⟨⟨bytesAt_own hrv, hd, by rw [hl]; exact own_small hrv⟩, fun b hb => ?_⟩
    obtain ⟨q1, q2⟩ := hrv.lt b hb
    refine ⟨q2, ?_⟩
    have hno : ¬ ∃ j, j < l.length ∧ ∃ y, vs[j * 3 + 2]? = some y ∧ y.ownBlock = some b := fun ⟨j, hj, y, hy, hb'⟩ => hap j y b hy hj hb' hb
    have hng : ¬ gv.ownBlock = some b := fun h => own_ne3 hrv h1 (by decide) b hb h
    show (if b < w.heap.size then _ else _) = _
    rw [if_neg (by omega), dif_neg hno, if_neg hng]
/-- A shard's manifest and its state are written. -/
theorem ShO.man {τ : Nat → Tag} {N sb n c k : Nat} {w : World} {ss : List Shd} {V : Nat → ShV} (h : ShO τ N w (.slice (some ⟨sb, 0, none⟩) n c) ss V k) (hn : ss.length = n) (hk : k < n) (m : Man) (st : Int) (rv gv : Value) :
    ShO τ N ((((w.setCell ⟨sb, k * 7 + 4, none⟩ (.int .i64 m.size)).setCell ⟨sb, k * 7 + 5, none⟩ rv).setCell ⟨sb, k * 7 + 6, none⟩ gv).setCell ⟨sb, k * 7 + 2, none⟩ (.int .i64 st)) (.slice (some ⟨sb, 0, none⟩) n c) (ss.set k { (ss.getD k shd0) with state := st, man := m }) (fun j => if j = k then ((V k).1, rv, gv) else V j) k := by
  have hl : ∀ s, (ss.set k s).length = n := fun s => by rw [List.length_set]; exact hn
  have hg : ∀ s, (ss.set k s).getD k shd0 = s := fun s => getD_set_same (by omega)
  have h1 := h.store (i := 4) (u := .int .i64 m.size) (s' := { (ss.getD k shd0) with man := { (ss.getD k shd0).man with size := m.size } }) (v' := V k) hn hk (by omega) rfl
  have h2 := h1.store (i := 5) (u := rv) (s' := { (ss.getD k shd0) with man := { (ss.getD k shd0).man with size := m.size, root := m.root } }) (v' := ((V k).1, rv, (V k).2.2)) (hl _) hk (by omega) (by rw [hg, if_pos rfl]; rfl)
  have h3 := h2.store (i := 6) (u := gv) (s' := { (ss.getD k shd0) with man := m }) (v' := ((V k).1, rv, gv)) (by rw [List.length_set]; exact hl _) hk (by omega) (by rw [List.set_set, hg, if_pos rfl]; rfl)
  have h4 := h3.store (i := 2) (u := .int .i64 st) (s' := { (ss.getD k shd0) with state := st, man := m }) (v' := ((V k).1, rv, gv)) (by rw [List.length_set, List.length_set]; exact hl _) hk (by omega) (by rw [List.set_set, List.set_set, hg, if_pos rfl]; rfl)
  rw [List.set_set, List.set_set, List.set_set] at h4
  have e : (fun j => if j = k then ((V k).1, rv, gv) else (fun j => if j = k then ((V k).1, rv, gv) else (fun j => if j = k then ((V k).1, rv, (V k).2.2) else (fun j => if j = k then V k else V j) j) j) j) = (fun j => if j = k then ((V k).1, rv, gv) else V j) := by
    funext j
    by_cases e : j = k
    · simp only [if_pos e]
    · simp only [if_neg e]
  rw [← e]
  exact h4
/-- Four cells of the shards are written: what else there is stays. -/
theorem four_upd {τ : Nat → Tag} {sb a b c d : Nat} {w : World} (u0 u1 u2 u3 : Value) : Upd τ τ w ((((w.setCell ⟨sb, a, none⟩ u0).setCell ⟨sb, b, none⟩ u1).setCell ⟨sb, c, none⟩ u2).setCell ⟨sb, d, none⟩ u3) (some sb) :=
  ⟨((((grown_set w sb a u0).trans (grown_set _ sb b u1)).trans (grown_set _ sb c u2)).trans (grown_set _ sb d u3)), fun _ _ => rfl⟩
def exportS (f : Flt) (k : Nat) : Flt × Ans :=
  (⟨f.shards.set k { (f.shards.getD k shd0) with state := 3, man := exportL (f.shards.getD k shd0).entries }, f.book⟩, ⟨0, (k : Int), 0, (exportL (f.shards.getD k shd0).entries).size, (exportL (f.shards.getD k shd0).entries).root⟩)
set_option maxRecDepth 100000 in
set_option maxHeartbeats 2000000 in
theorem export_any (hEx : ExportOC) (f : Flt) (k : Nat) (τ : Nat → Tag) (N gp : Nat) (w : World) (hF : GoF τ N w gp f) (hN : N ≤ w.heap.size) (hr : Ready w) (hk : k < f.shards.length) (h0 : (wrongL (f.shards.getD k shd0).entries).1 = 0) :
    Calls Tryz.prog 48 #[.pointer (some ⟨gp, 0, none⟩), .int .i64 (k : Int)] w fun e w' => ∃ av, e = .returned av ∧ Went τ N gp w w' av (exportS f k) := by
  have b0 : Below w.heap.size w (w.alloc (.cells #[.int .i64 0, .int .i64 0, .int .i64 0, .int .i64 0, .slice none 0 0] 41)) := (Below.refl _ _).alloc (Nat.le_refl _) _
  have z0 := box_new w #[.int .i64 0, .int .i64 0, .int .i64 0, .int .i64 0, .slice none 0 0] 41
  obtain ⟨sa, sc, ba, bc, V, hB, hS⟩ := hF.open
  have U0 := upd_call (τ := τ) b0 tNo
  have hB0 := hB.upd U0 no_row
  have hS0 := hS.upd U0 no_row
  have K0 := keep_call (τ := τ) b0 hN tNo
  have hR0 : ext τ w.heap.size tNo w.heap.size = tNo := ext_new (Nat.le_refl _)
  have hsl : f.shards.length ≤ 9223372036854775807 := by obtain ⟨vs, h1, -⟩ := hS.row; have := own_small h1; unfold maxLen at this; omega
  obtain ⟨g0, g1, -, -⟩ := box_two hB0.box
  obtain ⟨sb, rfl, hNs, hsb, htb, hfz, hcs⟩ := (hS0.out k).cells rfl hk
  have hE0 := hS0.ent k hk
  obtain ⟨ea, ec, hVe⟩ := hE0.form
  have hEl := hE0
  rw [hVe] at hEl
  replace hEl := hEl.lists rfl
  obtain ⟨h100, h200⟩ := wrong_ok h0
  have hsb' : SegsBytes (segsL (f.shards.getD k shd0).entries) := segsL_bytes hEl.bytes (mem_short h200)
  have k3 : _ = some (V k).1 := hcs 3 (by omega)
  rw [hVe] at k3
  have hm32 := mth_length (f.shards.getD k shd0).entries
  have hmb := bytes_mth (f.shards.getD k shd0).entries
  have hEE := hEx _ _ _ _ _ (hr.below b0) hEl h0
  have hk1 : (k : Int) < f.shards.length := by omega
  have hk0 : (0 : Int) ≤ k := by omega
  have hXL : exportL (f.shards.getD k shd0).entries = ⟨(f.shards.getD k shd0).entries.length, mth (f.shards.getD k shd0).entries, segsL (f.shards.getD k shd0).entries⟩ := by unfold exportL; rw [if_neg (fun h => h h0)]
  have HRES : Hid ((⟨f.shards.set k { (f.shards.getD k shd0) with state := 3, man := ⟨(f.shards.getD k shd0).entries.length, mth (f.shards.getD k shd0).entries, segsL (f.shards.getD k shd0).entries⟩ }, f.book⟩, ⟨0, (k : Int), 0, ((f.shards.getD k shd0).entries.length : Int), mth (f.shards.getD k shd0).entries⟩) = exportS f k) := by show _ = _; unfold exportS; rw [hXL]
  obtain ⟨X, HX⟩ : ∃ X, Hid (f.shards.getD k shd0 = X) := ⟨_, rfl⟩
  rw [HX.out] at hVe k3 hm32 hmb hEE HRES hsb'
  generalize exportS f k = RES at *
  generalize hT : ext τ w.heap.size tNo = τ1 at *
  clear hF hB hS U0 hE0 hEl hXL h100 h200 hcs
  go_enter Tryz.func48, Tryz.ntmps48
  go_wp2_with fail
  generalize w.alloc (.cells #[.int .i64 0, .int .i64 0, .int .i64 0, .int .i64 0, .slice none 0 0] 41) = w0 at *
  refine hEE.mono ?_
  rintro e w1 ⟨xa, xc, va, vc, vs, rfl, ho1, ⟨hs1, hs2⟩, hri, hap, hb1⟩
  have hN0 : N ≤ w0.heap.size := Nat.le_trans hN b0.size
  obtain ⟨τ2, ht2, hSg1, hRo1⟩ := tag_segs (τ := τ1) (N := N) (k := k) hs1 hs2 hri ho1 hap hsb' hmb hN0
  have U1 : Upd τ1 τ2 w0 w1 none := ⟨grown_below hb1, ht2⟩
  have hS1 := hS0.upd U1 no_row
  have hB1 := hB0.upd U1 no_row
  have K1 := K0.trans (keep_upd U1 hN0 no_row)
  have z1 := box_kept z0 hb1
  have hR1 : τ2 w.heap.size = tNo := (ht2 _ (lt_heap z0)).trans hR0
  have htb1 : τ2 sb = tSh := (ht2 _ hsb).trans htb
  have hsb1 : sb < w1.heap.size := Nat.lt_of_lt_of_le hsb hb1.size
  have hN1 : N ≤ w1.heap.size := Nat.le_trans hN0 hb1.size
  obtain ⟨sb', e, -, -, -, hfz1, hcs1⟩ := (hS1.out k).cells rfl hk
  cases e
  have j2 : w1.cell? ⟨sb, k * 7 + 2, none⟩ = some (Value.int .i64 (f.shards.getD k shd0).state) := hcs1 2 (by omega)
  have j4 : w1.cell? ⟨sb, k * 7 + 4, none⟩ = some (Value.int .i64 (f.shards.getD k shd0).man.size) := hcs1 4 (by omega)
  have j5 : w1.cell? ⟨sb, k * 7 + 5, none⟩ = some (V k).2.1 := hcs1 5 (by omega)
  have j6 : w1.cell? ⟨sb, k * 7 + 6, none⟩ = some (V k).2.2 := hcs1 6 (by omega)
  have f2 := hfz1 (k * 7 + 2)
  have f4 := hfz1 (k * 7 + 4)
  have f5 := hfz1 (k * 7 + 5)
  have f6 := hfz1 (k * 7 + 6)
  have hO5 := (hS1.out k).man rfl hk ⟨(X.entries.length : Int), mth X.entries, segsL X.entries⟩ 3 (.slice xa 32 xc) (.slice va (segsL X.entries).length vc)
  have U5 := four_upd (τ := τ2) (sb := sb) (a := k * 7 + 4) (b := k * 7 + 5) (c := k * 7 + 6) (d := k * 7 + 2) (w := w1) (.int .i64 (X.entries.length : Int)) (.slice xa 32 xc) (.slice va (segsL X.entries).length vc) (.int .i64 3)
  have ne : ∀ t : Tag, t ≠ tSh → ∀ b, some sb = some b → τ2 b ≠ t := fun t h1 b hb e => by cases hb; exact h1 (e.symm.trans htb1)
  have hEn5 := (hS1.ent k hk).upd U5 (ne _ (by decide)) (ne _ (by simp [tEnt, tSh]))
  have hRo5 := hRo1.upd U5 (ne _ (by decide))
  have hSg5 := hSg1.upd U5 (ne _ (by simp [tSeg, tSh])) (fun j => ne _ (by simp [tPk, tSh]))
  have hS5 := hO5.back (by rw [if_pos rfl, getD_set_same hk]; exact hEn5) (by rw [if_pos rfl, getD_set_same hk]; exact hRo5) (by rw [if_pos rfl, getD_set_same hk]; exact hSg5)
  have hB5 := hB1.upd U5 (fun b hb => ⟨ne _ (by decide) b hb, ne _ (by decide) b hb, ne _ (by decide) b hb⟩)
  have K5 := K1.trans (keep_upd U5 hN1 (fun b hb => by cases hb; rw [htb1]; exact ⟨hNs, by decide⟩))
  have hF5 := hB5.goF hS5
  rw [HX.out] at hF5
  have hne : some w.heap.size ≠ some sb := fun e => by cases e; rw [htb1] at hR1; simp [tSh, tNo] at hR1
  have z5 := (U5.grow.block _ (lt_heap z1) hne).trans z1
  have hTk := taken_any (k : Int) (X.entries.length : Int) (mth X.entries) _ _ hRo5.here (by rw [hm32]; omega)
  have HFW : Hid (∀ w8 ta tc u0 u1 u2 u3 u4, Below _ _ w8 → w8.ownsRow _ 5 1 (.slice ta (mth X.entries).length tc) (mth X.entries).length ((mth X.entries).map (Value.int .u8)) → Went τ N gp w (((((w8.setCell ⟨w.heap.size, 0, none⟩ u0).setCell ⟨w.heap.size, 1, none⟩ u1).setCell ⟨w.heap.size, 2, none⟩ u2).setCell ⟨w.heap.size, 3, none⟩ u3).setCell ⟨w.heap.size, 4, none⟩ u4) (.agg #[.int .i64 0, .int .i64 (k : Int), .int .i64 0, .int .i64 (X.entries.length : Int), .slice ta (mth X.entries).length tc]) RES) := fun w8 ta tc u0 u1 u2 u3 u4 hb8 ho8 => by
    rw [← HRES.out]
    exact went_head hF5 K5 hN hR1 (lt_heap z5) (Nat.le_refl _) hb8 ho8 hmb _ _ _ _ _
  rw [hm32] at HFW hTk
  clear hEE hcs1 hfz1 hS0 hB0 K0 hS1 hB1 K1 hSg1 hRo1 U1 hO5 U5 hEn5 hRo5 hSg5 hS5 hB5 K5 hF5 hs1 hs2 hri hap ho1 g0 g1 k3 hfz z1 hm32 hmb hsb' HRES
  generalize mth X.entries = M at *
  generalize (segsL X.entries).length = NS at *
  generalize X.entries.length = NE at *
  go_wp2_with fail
  generalize (((w1.setCell ⟨sb, k * 7 + 4, none⟩ (.int .i64 (NE : Int))).setCell ⟨sb, k * 7 + 5, none⟩ (.slice xa 32 xc)).setCell ⟨sb, k * 7 + 6, none⟩ (.slice va NS vc)).setCell ⟨sb, k * 7 + 2, none⟩ (.int .i64 3) = W5 at *
  refine hTk.mono ?_
  rintro e w8 ⟨ta, tc, rfl, ho8, hb8⟩
  have HW3 : Hid _ := HFW.out w8 ta tc (.int .i64 0) (.int .i64 (k : Int)) (.int .i64 0) (.int .i64 (NE : Int)) (.slice ta 32 tc) hb8 ho8
  have z8 := box_kept z5 hb8
  obtain ⟨t0, t1, t2, t3, t4⟩ := box_five z8
  obtain ⟨r0, r1, r2, r3, r4⟩ := five_free z8
  obtain ⟨s0, s1, s2, s3, s4⟩ := box_five (five_set z8 (.int .i64 0) (.int .i64 (k : Int)) (.int .i64 0) (.int .i64 (NE : Int)) (.slice ta 32 tc))
  clear HFW hTk z5 ho8 j2 j4 j5 j6 f2 f4 f5 f6
  go_wp2_with fail
  exact bodyPost_ret (v := .agg #[.int .i64 0, .int .i64 (k : Int), .int .i64 0, .int .i64 (NE : Int), .slice ta 32 tc]) (by simp [results, Tryz.results48, go_sem, s0, s1, s2, s3, s4]) rfl ⟨_, rfl, HW3.out⟩

end Go.Proofs.YtkjlchfmplcobaeGreatDoor
