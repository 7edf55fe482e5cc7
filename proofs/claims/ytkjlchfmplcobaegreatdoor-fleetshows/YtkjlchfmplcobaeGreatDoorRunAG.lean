/- FleetRefSpoil, FleetRefWins, FleetGoBegin, FleetPlayT, FleetAlive, FleetThirteen, BookRefRow, FleetPlayM, FleetOff, FleetOffZ, as one text. -/
import Derived.Test.YtkjlchfmplcobaeGreatDoorRunAF
/- The walk of the reference's Step where a byte is spoilt: package yearref5. -/
namespace Go.Proofs.YtkjlchfmplcobaeGreatDoor
open Go.RowKit

set_option maxRecDepth 100000 in
set_option maxHeartbeats 4000000 in
theorem refSpoil_any (f : Flt) (d : Dd) (k : Nat) (τ : Nat → Tag) (N gp : Nat) (da : Option Addr) (dc : Nat) (w : World) (hF : RfF τ N w gp f) (hN : N ≤ w.heap.size) (hk : k < f.shards.length) (hst : (f.shards.getD k shd0).state = 3) (m o : Nat) (hseg : d.segment = m) (hat : d.at' = o) (hm : m < (f.shards.getD k shd0).man.segs.length) (ho : o < ((f.shards.getD k shd0).man.segs.getD m seg0).packed.length) (hpl : ((f.shards.getD k shd0).man.segs.getD m seg0).packed.length ≤ 1000000) (hgn : (f.shards.getD k shd0).man.segs.length ≤ 1000000) (hby : 0 ≤ d.by' ∧ d.by' < 256) :
  Calls Tryz.prog 18 #[.pointer (some ⟨gp, 0, none⟩), .agg #[.int .i64 5, .int .i64 (k : Int), .int .i64 d.time, .slice da d.entry.length dc, .int .i64 d.segment, .int .i64 d.at', .int .u8 d.by']] w fun e w' => ∃ av, e = .returned av ∧ RfWent τ N gp w w' av (spoilL f k d) := by
 have b0 : Below w.heap.size w ((w.alloc (.cells #[.int .i64 5, .int .i64 (k : Int), .int .i64 d.time, .slice da d.entry.length dc, .int .i64 d.segment, .int .i64 d.at', .int .u8 d.by'] 56)).alloc (.cells #[.int .i64 0, .int .i64 0, .int .i64 0, .int .i64 0, .slice none 0 0] 41)) := ((Below.refl _ _).alloc (Nat.le_refl _) _).alloc (by simp) _
 have x0 := box_one w #[.int .i64 5, .int .i64 (k : Int), .int .i64 d.time, .slice da d.entry.length dc, .int .i64 d.segment, .int .i64 d.at', .int .u8 d.by'] 56 (.cells #[.int .i64 0, .int .i64 0, .int .i64 0, .int .i64 0, .slice none 0 0] 41)
 have z0 := box_last w (.cells #[.int .i64 5, .int .i64 (k : Int), .int .i64 d.time, .slice da d.entry.length dc, .int .i64 d.segment, .int .i64 d.at', .int .u8 d.by'] 56) #[.int .i64 0, .int .i64 0, .int .i64 0, .int .i64 0, .slice none 0 0] 41
 have HNO : ∀ (w1 : World) (x : Ans) (u0 u1 u2 u3 u4 : Value), Hid (Below w.heap.size w w1 → x.root = [] → RfWent τ N gp w (((((w1.setCell ⟨w.heap.size + 1, 0, none⟩ u0).setCell ⟨w.heap.size + 1, 1, none⟩ u1).setCell ⟨w.heap.size + 1, 2, none⟩ u2).setCell ⟨w.heap.size + 1, 3, none⟩ u3).setCell ⟨w.heap.size + 1, 4, none⟩ u4) (.agg #[.int .i64 x.err, .int .i64 x.shard, .int .i64 x.place, .int .i64 x.size, .slice none 0 0]) (f, x)) := fun w1 x u0 u1 u2 u3 u4 h1 h2 => rfwent_no hF hN h1 (by omega) h2 _ _ _ _ _
 obtain ⟨sa, sc, ba, bc, V, hB, hS⟩ := hF.open
 have U0 := upd_call (τ := τ) b0 tNo
 have hB0 := hB.upd U0 no_row
 have hS0 := hS.upd U0 no_row
 have K0 := keep_call (τ := τ) b0 hN tNo
 have hR0 : ext τ w.heap.size tNo (w.heap.size + 1) = tNo := ext_new (by omega)
 have hsl : f.shards.length ≤ 9223372036854775807 := by obtain ⟨vs, h1, -⟩ := hS.row; have := own_small h1; unfold maxLen at this; omega
 obtain ⟨g0, g1, -, -⟩ := box_two hB0.box
 obtain ⟨u0, u1, -, -, -, -, -⟩ := box_seven x0
 obtain ⟨sb, rfl, hNs, hsb, htb, hfz, hcs⟩ := (hS0.out k).cells rfl hk
 have q1 : ¬ (k : Int) < 0 := by omega
 have q2 : ¬ (f.shards.length : Int) ≤ (k : Int) := by omega
 have q1' : decide ((k : Int) < 0) = false := decide_eq_false q1
 have q2' : decide ((f.shards.length : Int) ≤ (k : Int)) = false := decide_eq_false q2
 have q3 : (0 : Int) ≤ k := by omega
 have q4 : (k : Int) < f.shards.length := by omega
 have k2 : _ = some (Value.int .i64 (f.shards.getD k shd0).state) := hcs 2 (by omega)
 rw [hst] at k2
 obtain ⟨j0, hj, hj0, hj1, hj2⟩ := info_parts Tryz.info5b
 obtain ⟨i0, hi0, hz0, hz1, hz2⟩ := info_parts Tryz.info104b
 obtain ⟨ga, gc, hVg⟩ := (hS0.seg k hk).form
 have k6 : _ = some (V k).2.2 := hcs 6 (by omega)
 have hSg := hS0.seg k hk
 rw [hVg] at k6 hSg
 have hgl : (f.shards.getD k shd0).man.segs.length ≤ 9223372036854775807 := by obtain ⟨vs, h1, -⟩ := hSg.2; have := own_small h1; unfold maxLen at this; omega
 obtain ⟨gb, pa, pc, rfl, hgb, m0, m1, m2, hpk⟩ := hSg.three rfl hm
 obtain ⟨-, vs, hrow, hvs⟩ := hS0.seg k hk
 rw [hVg] at hrow
 have hvo := segs_one hrow.1 hvs
 have hpkb := hpk.2.2 o
 have HPB : Hid (Bytes ((f.shards.getD k shd0).man.segs.getD m seg0).packed) := hpk.2.2
 have hpb := fun W (h : Below _ _ W) => (bytesAt_own (own_below hpk.2.1 h (Nat.le_refl _)))
 have HSP : Hid (spoilL f k d = (⟨f.shards.set k { (f.shards.getD k shd0) with man := { (f.shards.getD k shd0).man with segs := (f.shards.getD k shd0).man.segs.set m (spoilSeg ((f.shards.getD k shd0).man.segs.getD m seg0) (o : Int) d.by') } }, f.book⟩, ⟨0, (k : Int), 0, 0, []⟩)) := by
  show _ = _; unfold spoilL; rw [hseg, hat, Int.toNat_natCast, if_neg (by omega), if_neg (by omega)]
 obtain ⟨X, HX⟩ : ∃ X, Hid (f.shards.getD k shd0 = X) := ⟨_, rfl⟩
 rw [HX.out] at m0 m1 m2 hpl ho hm hgl hpb k6 hgn hrow hvs hpkb HPB
 generalize spoilL f k d = SL at *
 obtain ⟨SGM, HSG⟩ : ∃ SGM, Hid (X.man.segs.getD m seg0 = SGM) := ⟨_, rfl⟩
 rw [HSG.out] at m0 m1 m2 hpl ho hpb hpkb HPB
 obtain ⟨PK, HPK⟩ : ∃ PK, Hid (SGM.packed = PK) := ⟨_, rfl⟩
 rw [HPK.out] at m2 hpl ho hpb hpkb HPB
 obtain ⟨NP, HNP⟩ : ∃ NP, Hid (PK.length = NP) := ⟨_, rfl⟩
 rw [HNP.out] at m2 hpl ho hpb
 have HX7 : Hid (f.shards.getD k shd0 = X) := HX
 obtain ⟨S0, HS0⟩ : ∃ S0, Hid (SGM.first = S0) := ⟨_, rfl⟩
 obtain ⟨S1, HS1⟩ : ∃ S1, Hid (SGM.count = S1) := ⟨_, rfl⟩
 obtain ⟨NG, HNG⟩ : ∃ NG, Hid (X.man.segs.length = NG) := ⟨_, rfl⟩
 rw [HS0.out] at m0
 rw [HS1.out] at m1
 rw [HNG.out] at hm hgl hgn k6 hrow
 have HVS : Hid _ := hvs
 have HVO : Hid _ := hvo
 clear hvs hvo hSg hpk hVg
 clear hF hB hS U0 hcs hst
 generalize d.segment = SG at *
 subst hseg
 generalize d.at' = AT at *
 subst hat
 have o1 : ¬ (m : Int) < 0 := by omega
 have o2 : ¬ (NG : Int) ≤ (m : Int) := by omega
 have o1' : decide ((m : Int) < 0) = false := decide_eq_false o1
 have o2' : decide ((NG : Int) ≤ (m : Int)) = false := decide_eq_false o2
 have o3 : (0 : Int) ≤ m := by omega
 have o4 : (m : Int) < NG := by omega
 have a1 : ¬ (o : Int) < 0 := by omega
 have a2 : ¬ (NP : Int) ≤ (o : Int) := by omega
 go_enter Tryz.func18, Tryz.ntmps18
 go_wp2_with fail
 generalize (w.alloc (.cells #[.int .i64 5, .int .i64 (k : Int), .int .i64 d.time, .slice da d.entry.length dc, .int .i64 (m : Int), .int .i64 (o : Int), .int .u8 d.by'] 56)).alloc (.cells #[.int .i64 0, .int .i64 0, .int .i64 0, .int .i64 0, .slice none 0 0] 41) = w0 at *
 go_quiet (fail)
 have c1 := below_drewN' (Below.refl w0.heap.size w0) nq
 obtain ⟨v0, v1, -, -, -, -, -⟩ := box_seven (box_kept x0 c1)
 obtain ⟨p0, p1, -, -⟩ := box_two (box_kept hB0.box c1)
 generalize w0.drewN nq = wQ at *
 clear u0 u1 g0 g1
 go_wp2_with fail
 go_quiet (fail)
 have c2 := c1.trans ((below_drewN' (Below.refl wQ.heap.size wQ) nq).mono c1.size)
 generalize wQ.drewN nq = wR at *
 have c3 : Below w0.heap.size w0 (wR.alloc (.cells #[.int .i64 0, .int .i64 0, .int .i64 1, .int .i64 2, .int .i64 3, .int .i64 3] 3)) := c2.alloc c2.size _
 obtain ⟨v0, v1, -, -, v4, v5, v6⟩ := box_seven (box_kept x0 c3)
 have j2 := (c3.cell (p := ⟨sb, k * 7 + 2, none⟩) hsb).trans k2
 have six := cell_of_row _ _ 5 _ _ _ (box_new wR #[.int .i64 0, .int .i64 0, .int .i64 1, .int .i64 2, .int .i64 3, .int .i64 3] 3)
 have j6 := (c3.cell (p := ⟨sb, k * 7 + 6, none⟩) hsb).trans k6
 clear k2 p0 p1
 go_wp2_with fail
 generalize wR.alloc (.cells #[.int .i64 0, .int .i64 0, .int .i64 1, .int .i64 2, .int .i64 3, .int .i64 3] 3) = wS at *
 go_quiet (fail)
 have c4 := c3.trans ((below_drewN' (Below.refl wS.heap.size wS) nq).mono c3.size)
 obtain ⟨v0, v1, -, -, v4, v5, v6⟩ := box_seven (box_kept x0 c4)
 have i6 := (c4.cell (p := ⟨sb, k * 7 + 6, none⟩) hsb).trans k6
 have n0 := (c4.cell (p := ⟨gb, m * 3, none⟩) hgb).trans m0
 have n1 := (c4.cell (p := ⟨gb, m * 3 + 1, none⟩) hgb).trans m1
 have n2 := (c4.cell (p := ⟨gb, m * 3 + 2, none⟩) hgb).trans m2
 generalize wS.drewN nq = wT at *
 have cz : Below w0.heap.size w0 (wT.alloc (.cells #[.int .i64 0, .int .i64 0, .slice none 0 0] 104)) := c4.alloc c4.size _
 obtain ⟨-, -, -, -, l4, -, -⟩ := box_seven (box_kept x0 cz)
 have l6 := (cz.cell (p := ⟨sb, k * 7 + 6, none⟩) hsb).trans k6
 have l0 := (cz.cell (p := ⟨gb, m * 3, none⟩) hgb).trans m0
 have l1 := (cz.cell (p := ⟨gb, m * 3 + 1, none⟩) hgb).trans m1
 have l2 := (cz.cell (p := ⟨gb, m * 3 + 2, none⟩) hgb).trans m2
 clear cz
 have k6' := k6
 clear j2 j6 six k6 m0 m1 m2
 go_wp2_with fail
 go_region
 have c5 : Below w0.heap.size w0 (wT.alloc (.cells #[.int .i64 S0, .int .i64 S1, .slice pa NP pc] 104)).drew := (c4.alloc c4.size _).drew
 have c5T : Below wT.heap.size wT (wT.alloc (.cells #[.int .i64 S0, .int .i64 S1, .slice pa NP pc] 104)).drew := ((Below.refl _ _).alloc (Nat.le_refl _) _).drew
 have bx : (wT.alloc (.cells #[.int .i64 S0, .int .i64 S1, .slice pa NP pc] 104)).drew.heap[wT.heap.size]? = some (.cells #[.int .i64 S0, .int .i64 S1, .slice pa NP pc] 104 (0, 0)) := box_new wT #[.int .i64 S0, .int .i64 S1, .slice pa NP pc] 104
 generalize (wT.alloc (.cells #[.int .i64 S0, .int .i64 S1, .slice pa NP pc] 104)).drew = wV at *
 clear l0 l1 l2 l4 l6 n0 n1 n2 i6 v0 v1 v4 v5 v6
 obtain ⟨v0, v1, -, -, v4, v5, v6⟩ := box_seven (box_kept x0 c5)
 obtain ⟨y0, y1, y2, -, -, -⟩ := box_three bx
 have bE : Below wV.heap.size wV (wV.alloc (.cells #[] 5)) := (Below.refl _ _).alloc (Nat.le_refl _) _
 obtain ⟨e0, e1, e2, -, -, e5⟩ := box_three (box_old _ (.cells #[] 5) bx)
 have hBy := hpb _ (c5.trans (bE.mono c5.size))
 have HO2 : ∀ (w2 : World) (xx : Value), w2.ownsRow wV.heap.size 5 1 xx (0 + PK.length) ([] ++ PK.map (Value.int .u8)) → w2.ownsRow wV.heap.size 5 1 xx NP (PK.map (Value.int .u8)) := fun w2 xx h => by rw [HNP.out, Nat.zero_add] at h; exact h
 have HB2 : ∀ (w2 : World), (wV.alloc (.cells #[] 5)).grownBy w2 (some wV.heap.size) → w2.heap[wT.heap.size]? = some (.cells #[.int .i64 S0, .int .i64 S1, .slice pa NP pc] 104 (0, 0)) := fun w2 h => (h.block wT.heap.size (lt_heap (box_old _ (.cells #[] 5) bx)) (fun e => by have q1 := lt_heap bx; have q2 := Option.some.inj e; omega)).trans (box_old _ (.cells #[] 5) bx)
 go_wp2_with (at_builtin; refine wpList_append_bytes rfl (.tmp 304) (.tmp 306) 37 rfl wV.heap.size 5 j0 (.int .u8 0) Tryz.underlying37 hj hj0 hj1 hj2 rfl _ 0 [] rfl (World.ownsRow_lit wV #[] 0 (Nat.le_refl _) (by unfold maxLen; omega) rfl) pa NP pc PK rfl hBy (by have := HNP.out; unfold maxLen; omega) (by have := HNP.out; omega) (by simp) ?_; intro xx w2 ho' hg; have ho2 : w2.ownsRow wV.heap.size 5 1 xx NP (PK.map (Value.int .u8)) := HO2 _ _ ho'; obtain ⟨pg, qc, rfl, hpg, hplt⟩ := own_at0 ho2 (Nat.lt_of_le_of_lt (Nat.zero_le o) ho); have bx2 : w2.heap[wT.heap.size]? = some (.cells #[.int .i64 S0, .int .i64 S1, .slice pa NP pc] 104 (0, 0)) := HB2 _ hg; obtain ⟨d0, d1, d2, -, -, d5⟩ := box_three bx2)
 have ltT : wT.heap.size < wV.heap.size := lt_heap bx
 have hbV2 : Below wV.heap.size wV w2 := bE.grown hg bE.size (fun b hb => by cases hb; exact Nat.le_refl _)
 have hbT3 : Below wT.heap.size wT (w2.setCell ⟨wT.heap.size, 2, none⟩ (.slice (some ⟨pg, 0, none⟩) NP qc)) := (c5T.trans (hbV2.mono c5T.size)).setCell (Nat.le_refl _) _
 have ow3 : (w2.setCell ⟨wT.heap.size, 2, none⟩ (.slice (some ⟨pg, 0, none⟩) NP qc)).ownsRow wT.heap.size 5 1 (.slice (some ⟨pg, 0, none⟩) NP qc) NP (PK.map (Value.int .u8)) := ownsRow_base (ho2.kept (grown_set w2 wT.heap.size 2 _) (.inr (fun e => by have h : pg = wT.heap.size := Option.some.inj e; omega))) (Nat.le_of_lt ltT)
 have bx3 : (w2.setCell ⟨wT.heap.size, 2, none⟩ (.slice (some ⟨pg, 0, none⟩) NP qc)).heap[wT.heap.size]? = some (.cells #[.int .i64 S0, .int .i64 S1, .slice (some ⟨pg, 0, none⟩) NP qc] 104 (0, 0)) := heap_setCell_same _ _ 2 _ _ _ bx2
 clear v0 v1 v4 v5 v6 y0 y1 y2 e0 e1 e2 e5 hBy HO2 HB2 d0 d1 d2 d5 ho' ho2 hg bx2 bx hbV2 bE c5 c5T hplt
 generalize w2.setCell ⟨wT.heap.size, 2, none⟩ (.slice (some ⟨pg, 0, none⟩) NP qc) = w3 at *
 have c6 := c4.trans (hbT3.mono c4.size)
 obtain ⟨v0, v1, -, -, v4, v5, v6⟩ := box_seven (box_kept x0 c6)
 obtain ⟨y0, y1, y2, -, -, -⟩ := box_three bx3
 obtain ⟨pg', e', hcp, hfp, -⟩ := own_get (z := 0) ow3 o ho
 cases e'
 obtain ⟨PO, HPO⟩ : ∃ PO, Hid (PK.getD o 0 = PO) := ⟨_, rfl⟩
 rw [HPO.out] at hcp
 have a3 : (0 : Int) ≤ o := by omega
 have a4 : (o : Int) < NP := by omega
 obtain ⟨PX, HPX⟩ : ∃ PX, Hid (xorI PO d.by' = PX) := ⟨_, rfl⟩
 have HXO : Hid (bits .xor .u8 PO d.by' = PX) := by show _ = _; rw [← HPX.out]; exact bits_xor_u8 (by rw [← HPO.out]; exact hpkb) hby
 have hPXb : 0 ≤ PX ∧ PX < 256 := by rw [← HPX.out]; exact xorI_bound (by rw [← HPO.out]; exact hpkb) hby
 have hpgT : wT.heap.size ≤ pg := by omega
 go_region
 rw [HXO.out]
 have b4 : Below wT.heap.size wT (w3.setCell ⟨pg, o, none⟩ (.int .u8 PX)).drew := (hbT3.setCell hpgT _).drew
 have ow4 : (w3.setCell ⟨pg, o, none⟩ (.int .u8 PX)).drew.ownsRow wT.heap.size 5 1 (.slice (some ⟨pg, 0, none⟩) NP qc) NP ((PK.set o PX).map (Value.int .u8)) := by
  have := (ow3.stored o (.int .u8 PX)).1
  rw [← List.map_set] at this
  exact this
 have bx4 : (w3.setCell ⟨pg, o, none⟩ (.int .u8 PX)).drew.heap[wT.heap.size]? = some (.cells #[.int .i64 S0, .int .i64 S1, .slice (some ⟨pg, 0, none⟩) NP qc] 104 (0, 0)) := box_set_far (o := o) (v := .int .u8 PX) bx3 (by omega)
 have HW4 : Hid (SL = (⟨f.shards.set k { X with man := { X.man with segs := X.man.segs.set m ⟨S0, S1, PK.set o PX⟩ } }, f.book⟩, ⟨0, (k : Int), 0, 0, []⟩)) := by
  show _ = _
  rw [HSP.out, HX.out, HSG.out]
  unfold spoilSeg
  rw [HPK.out, Int.toNat_natCast, HPO.out, HPX.out, HS0.out, HS1.out]
 have hbs : Bytes (PK.set o PX) := by
  refine bytes_of_mem (fun y hy => ?_)
  rcases List.mem_or_eq_of_mem_set hy with h | rfl
  ·exact bytes_forall HPB.out y h
  ·exact hPXb
 rename (∀ (a : Act) (w : World), Code.wp _ _ _ a w → _) => hKK
 refine hKK _ _ ?_
 exact refSpoilTail (stepEnd_body _ _ _ _ _ _) hN b0 K0 hB0 hS0 hk HX.out hR0 htb hsb hfz x0 z0 k6' HNG hgn hm hrow HVO HVS c4 b4 ow4 hbs bx4 HW4

end Go.Proofs.YtkjlchfmplcobaeGreatDoor

/- The walk of yearref5.WrongWindows. -/
namespace Go.Proofs.YtkjlchfmplcobaeGreatDoor
open Go.RowKit

theorem WinsAt.get {w : World} {a : Option Addr} {n c : Nat} {l : List Win} (h : WinsAt w (.slice a n c) l) (hn : l.length = n) {j : Nat} (hj : j < n) : ∃ b o, a = some ⟨b, o, none⟩ ∧ b < w.heap.size ∧ ∀ i, i < n → WinCells w b (o + i * 2) (l.getD i win0) := by
 obtain ⟨a', c', e, -, -, -, h5⟩ := h
 rw [hn] at e h5
 cases e
 obtain ⟨b, off, h6, h7, h8⟩ := h5.resolve_left (by omega)
 exact ⟨b, off, h6, h7, h8⟩
set_option maxRecDepth 100000 in
set_option maxHeartbeats 4000000 in
theorem refWins_any (l : List Win) (a : Option Addr) (n c : Nat) (w : World) (hl : WinsAt w (.slice a n c) l) (hn : l.length = n) :
  Calls Tryz.prog 8 #[.slice a n c] w fun e w' => e = .returned (faultV (wrongWins l)) ∧ Below w.heap.size w w' := by
 have hcap : n ≤ maxLen := by obtain ⟨a', c', e, h2, h3, -⟩ := hl; cases e; omega
 unfold maxLen at hcap
 have b0 : Below w.heap.size w (w.alloc (.cells #[.int .i64 0, .int .i64 0] 31)) := (Below.refl _ _).alloc (Nat.le_refl _) _
 have x0 := box_new w #[.int .i64 0, .int .i64 0] 31
 by_cases h8 : 8 < n
 ·have HE : Hid (wrongWins l = (5, 0)) := wrongWins_many (by omega)
  have h8' : (8 : Int) < n := by omega
  clear hl
  go_enter Tryz.func8, Tryz.ntmps8
  go_wp2_with fail
  exact bodyPost_ret (v := faultV (5, 0)) (by simp [results, Tryz.results8, go_sem]) rfl ⟨by rw [HE.out], (Below.refl _ _).alloc (Nat.le_refl _) _⟩
 ·have h8' : ¬ (8 : Int) < n := by omega
  have HW1 : ∀ k : Nat, Hid (k < n → (∀ j, j < k → wrongWin l j = 0) → wrongWin l k ≠ 0 → wrongWins l = (wrongWin l k, (k : Int))) := fun k h1 h2 h3 => wrongWins_at (by omega) (by omega) h2 h3
  have HW2 : Hid ((∀ j, j < n → wrongWin l j = 0) → wrongWins l = (0, 0)) := fun h => wrongWins_none (by omega) (fun j hj => h j (by omega))
  go_enter Tryz.func8, Tryz.ntmps8
  go_wp2_with fail
  generalize w.alloc (.cells #[.int .i64 0, .int .i64 0] 31) = w0 at *
  go_loopw [11] (fun kv wr => ∃ k : Nat, k ≤ n ∧ kv = .int .i64 k ∧ Hid (∀ j, j < k → wrongWin l j = 0) ∧ wr.heap[w.heap.size]? = some (.cells #[.int .i64 0, .int .i64 0] 31 (0, 0)) ∧ Below w.heap.size w wr) (fun kv _ => n - (intOf kv).toNat)
  case atStart => exact ⟨0, Nat.zero_le _, rfl, fun _ hj => absurd hj (Nat.not_lt_zero _), x0, b0⟩
  case round =>
   obtain ⟨wo, rfl⟩ : ∃ x, x = wr := ⟨wr, rfl⟩
   obtain ⟨k, hk, rfl, HO, xo, hbr⟩ := hrel
   have hsr := hbr.size
   clear x0 b0
   by_cases hlt : k < n
   ·have hlt' : (k : Int) < n := by omega
    obtain ⟨g, o, rfl, hg, hcs⟩ := (hl.below hbr).get hn hlt
    obtain ⟨d0, d1⟩ := hcs k hlt
    have HV := HW1 k
    have HWk : Hid (wrongWin l k = if (l.getD k win0).a < 0 ∨ (l.getD k win0).b ≤ (l.getD k win0).a ∨ 1000000 < (l.getD k win0).b then 3 else if 0 < k ∧ (l.getD k win0).a < (l.getD (k - 1) win0).b then 7 else 0) := rfl
    have HF : Hid (wrongWin l k = 0 → ∀ j, j < k + 1 → wrongWin l j = 0) := fun h j hj => by
     by_cases e : j = k
     ·rw [e]; exact h
     ·exact HO.out j (by omega)
    have hprev := fun (h : 0 < k) => (hcs (k - 1) (by omega)).2
    clear hcs HW1 HW2
    have hd5 : Below wo.heap.size wo (wo.alloc (.cells #[.int .i64 (l.getD k win0).a, .int .i64 (l.getD k win0).b] 60)) := (Below.refl _ _).alloc (Nat.le_refl _) _
    have b5 := hbr.trans (hd5.mono hsr)
    have x5 := box_kept xo hd5
    have y5 := box_new wo #[.int .i64 (l.getD k win0).a, .int .i64 (l.getD k win0).b] 60
    have hprev5 := fun (h : 0 < k) => (hd5.cell (p := ⟨g, o + (k - 1) * 2 + 1, none⟩) hg).trans (hprev h)
    obtain ⟨t0, t1, -, -⟩ := box_two y5
    obtain ⟨u0, u1, u2, u3⟩ := box_two x5
    clear hprev
    generalize (l.getD k win0).a = A at *
    generalize (l.getD k win0).b = B at *
    generalize (l.getD (k - 1) win0).b = C at *
    have fin3 : A < 0 ∨ B ≤ A ∨ 1000000 < B → Hid (wrongWins l = (3, (k : Int))) := fun h => by
     show _ = _
     have h3 : wrongWin l k = 3 := by rw [HWk.out, if_pos h]
     rw [HV.out hlt HO.out (by rw [h3]; decide), h3]
    have bE := fun (e : Int) => two_below b5 (Nat.le_refl w.heap.size) (.int .i64 e) (.int .i64 (k : Int))
    have rE := fun (e : Int) => box_two (two_set x5 (.int .i64 e) (.int .i64 (k : Int)))
    by_cases q1 : A < 0
    ·have HE := fin3 (.inl q1)
     obtain ⟨r0, r1, -, -⟩ := rE 3
     clear fin3 HV HWk HF hprev5 rE
     go_wp2_with fail
     exact bodyPost_ret (v := faultV (3, (k : Int))) (by simp [results, Tryz.results8, go_sem, r0, r1]) rfl ⟨by rw [HE.out], bE 3⟩
    by_cases q2 : B ≤ A
    ·have HE := fin3 (.inr (.inl q2))
     obtain ⟨r0, r1, -, -⟩ := rE 3
     clear fin3 HV HWk HF hprev5 rE
     go_wp2_with fail
     exact bodyPost_ret (v := faultV (3, (k : Int))) (by simp [results, Tryz.results8, go_sem, r0, r1]) rfl ⟨by rw [HE.out], bE 3⟩
    by_cases q3 : 1000000 < B
    ·have HE := fin3 (.inr (.inr q3))
     obtain ⟨r0, r1, -, -⟩ := rE 3
     clear fin3 HV HWk HF hprev5 rE
     go_wp2_with fail
     exact bodyPost_ret (v := faultV (3, (k : Int))) (by simp [results, Tryz.results8, go_sem, r0, r1]) rfl ⟨by rw [HE.out], bE 3⟩
    have HWk2 : Hid (wrongWin l k = if 0 < k ∧ A < C then 7 else 0) := by show _ = _; rw [HWk.out, if_neg (by omega)]
    clear fin3 HWk
    by_cases q4 : 0 < k
    ·have q4' : (0 : Int) < k := by omega
     have q5 : (1 : Int) ≤ k := by omega
     have hp := hprev5 q4
     have hk1 : ((k : Int) - 1) < n := by omega
     by_cases q6 : A < C
     ·have HE : Hid (wrongWins l = (7, (k : Int))) := by
       show _ = _
       have h7 : wrongWin l k = 7 := by rw [HWk2.out, if_pos ⟨q4, q6⟩]
       rw [HV.out hlt HO.out (by rw [h7]; decide), h7]
      clear HV HWk2 HF hprev5 rE
      go_wp2_with fail
      go_quiet (fail)
      go_wp2_with fail
      have dq := below_drewN' (Below.refl (wo.alloc (.cells #[.int .i64 A, .int .i64 B] 60)).heap.size (wo.alloc (.cells #[.int .i64 A, .int .i64 B] 60))) nq
      have x6 := box_kept x5 dq
      obtain ⟨s0, s1, -, -⟩ := box_two (two_set x6 (.int .i64 7) (.int .i64 (k : Int)))
      have b6 := two_below (b5.trans (dq.mono b5.size)) (Nat.le_refl w.heap.size) (.int .i64 7) (.int .i64 (k : Int))
      exact bodyPost_ret (v := faultV (7, (k : Int))) (by simp [results, Tryz.results8, go_sem, s0, s1]) rfl ⟨by rw [HE.out], b6⟩
     ·have H0 : wrongWin l k = 0 := by rw [HWk2.out, if_neg (fun h => q6 h.2)]
      have HF2 : Hid (∀ j, j < k + 1 → wrongWin l j = 0) := HF.out H0
      clear HV HWk2 HF hprev5 rE H0
      go_wp2_with fail
      go_quiet (fail)
      go_wp2_with fail
      go_roundw
      case rel => exact ⟨k + 1, by omega, by go_num, HF2, x5, below_drewN' b5 _⟩
      case measure => simp [intOf]; omega
    ·obtain rfl : k = 0 := by omega
     have H0 : wrongWin l 0 = 0 := by rw [HWk2.out, if_neg (fun h => absurd h.1 (Nat.lt_irrefl _))]
     have HF2 : Hid (∀ j, j < 0 + 1 → wrongWin l j = 0) := HF.out H0
     rw [Nat.zero_mul, Nat.add_zero] at d0 d1
     clear HV HWk2 HF hprev5 rE H0
     go_wp2_with fail
     go_quiet (fail)
     go_wp2_with fail
     go_roundw
     case rel => exact ⟨0 + 1, by omega, by go_num, HF2, x5, below_drewN' b5 _⟩
     case measure => simp [intOf]; omega
   ·obtain rfl : k = n := by omega
    have hnl : ¬ (k : Int) < k := by omega
    have HE : Hid (wrongWins l = (0, 0)) := HW2.out HO.out
    obtain ⟨u0, u1, u2, u3⟩ := box_two xo
    obtain ⟨r0, r1, -, -⟩ := box_two (two_set xo (.int .i64 0) (.int .i64 0))
    have bE := two_below hbr (Nat.le_refl w.heap.size) (.int .i64 0) (.int .i64 0)
    clear HW1 HW2 HO hl
    go_wp2_with fail
    exact bodyPost_ret (v := faultV (0, 0)) (by simp [results, Tryz.results8, go_sem, r0, r1]) rfl ⟨by rw [HE.out], bE⟩

end Go.Proofs.YtkjlchfmplcobaeGreatDoor

/- The walk of begin: package fleet as it landed. -/
namespace Go.Proofs.YtkjlchfmplcobaeGreatDoor
open Go.RowKit

theorem Tryz.info65b : (Tryz.prog.info? 65).map (fun i => (i.zero, i.size, i.bytes)) = some (some (.agg #[.int .i64 0, .int .i64 0, .int .i64 0, .slice none 0 0, .int .i64 0, .slice none 0 0, .slice none 0 0]), 7, 104) := by kernel_rfl
def nilV : ShV := (.slice none 0 0, .slice none 0 0, .slice none 0 0)
theorem start_get {ws : List Win} {k : Nat} (hk : k < ws.length) : (startL ws).shards.getD k shd0 = ⟨(ws.getD k win0).a, (ws.getD k win0).b, 1, [], man0⟩ := wins_get ws hk
/-- The shards' cells, so far. -/
def Beg (ws : List Win) (vs : List Value) (j : Nat) : Prop := ∀ k, k < j → ∀ i, i < 7 → vs[k * 7 + i]? = (shdV ⟨(ws.getD k win0).a, (ws.getD k win0).b, 1, [], man0⟩ nilV)[i]?
theorem beg_nil (ws : List Win) : Beg ws [] 0 := fun _ h => absurd h (Nat.not_lt_zero _)
theorem Beg.snoc {ws : List Win} {vs : List Value} {j : Nat} (h : Beg ws vs j) (hl : vs.length = j * 7) : Beg ws (vs ++ shdV ⟨(ws.getD j win0).a, (ws.getD j win0).b, 1, [], man0⟩ nilV) (j + 1) := fun k hk i hi => by
 by_cases e : k < j
 ·rw [List.getElem?_append_left (by omega)]; exact h k e i hi
 ·obtain rfl : k = j := by omega
  rw [List.getElem?_append_right (by omega), hl, show k * 7 + i - k * 7 = i by omega]
end Go.Proofs.YtkjlchfmplcobaeGreatDoor

/- What Play tells, and where it lies. -/
namespace Go.Proofs.YtkjlchfmplcobaeGreatDoor
open Go.RowKit

/-- A fleet, and where all of it lies. -/
def FltM (τ : Nat → Tag) (N : Nat) (w : World) (fv : Value) (f : Flt) : Prop := ∃ sa sc ba bc V, fv = .agg #[.slice sa f.shards.length sc, .slice ba f.book.length bc] ∧ ShM τ N w (.slice sa f.shards.length sc) f.shards V ∧ BkM τ N w (.slice ba f.book.length bc) f.book
theorem FltM.flt {τ : Nat → Tag} {N : Nat} {w : World} {fv : Value} {f : Flt} (h : FltM τ N w fv f) : FltV w fv f := by
 obtain ⟨sa, sc, ba, bc, V, e, h1, h2⟩ := h
 exact ⟨sa, sc, ba, bc, e, h1.shards, h2.recs⟩
theorem FltM.upd {τ τ' : Nat → Tag} {N : Nat} {w w' : World} {fv : Value} {f : Flt} {row : Option Nat} (h : FltM τ N w fv f) (u : Upd τ τ' w w' row) (hr : ∀ b, row = some b → τ b = tNo) : FltM τ' N w' fv f := by
 obtain ⟨sa, sc, ba, bc, V, e, h1, h2⟩ := h
 exact ⟨sa, sc, ba, bc, V, e, h1.upd u (fun b hb => .inl (hr b hb)), h2.upd u (fun b hb => by rw [hr b hb]; decide) (fun b hb => by rw [hr b hb]; decide)⟩
theorem fltM_nil (τ : Nat → Tag) (N : Nat) (w : World) : FltM τ N w (.agg #[.slice none 0 0, .slice none 0 0]) flt0 := ⟨none, 0, none, 0, fun _ => (.slice none 0 0, .slice none 0 0, .slice none 0 0), rfl, ⟨tg_nil _ _ _ _ _, ⟨[], World.ownsRow_nil _ _ _ _, fun _ hj => absurd hj (Nat.not_lt_zero _)⟩, fun _ hj => absurd hj (Nat.not_lt_zero _), fun _ hj => absurd hj (Nat.not_lt_zero _), fun _ hj => absurd hj (Nat.not_lt_zero _)⟩, bkM_nil _ _ _⟩
theorem anM_nilT (τ : Nat → Tag) (N : Nat) (w : World) : AnM τ N w (.slice none 0 0) [] := ⟨tg_nil _ _ _ _ _, [], World.ownsRow_nil _ _ _ _, fun _ hj => absurd hj (Nat.not_lt_zero _)⟩
end Go.Proofs.YtkjlchfmplcobaeGreatDoor

/- The walks of yearlaw7.do, yearlaw7.submit and yearlaw7.alive, over package fleet's faces. -/
namespace Go.Proofs.YtkjlchfmplcobaeGreatDoor
open Go.RowKit

/-- What a variable of thirteen cells holds. -/
theorem box_13 {w : World} {k : Nat} {v0 v1 v2 v3 v4 v5 v6 v7 v8 v9 v10 v11 v12 : Value} {t : TypeId} (h : w.heap[k]? = some (.cells #[v0, v1, v2, v3, v4, v5, v6, v7, v8, v9, v10, v11, v12] t (0, 0))) :
  w.cell? ⟨k, 0, none⟩ = some v0 ∧ w.cell? ⟨k, 1, none⟩ = some v1 ∧ w.cell? ⟨k, 2, none⟩ = some v2 ∧ w.cell? ⟨k, 3, none⟩ = some v3 ∧ w.cell? ⟨k, 4, none⟩ = some v4 ∧ w.cell? ⟨k, 5, none⟩ = some v5 ∧ w.cell? ⟨k, 6, none⟩ = some v6 ∧ w.cell? ⟨k, 7, none⟩ = some v7 ∧ w.cell? ⟨k, 8, none⟩ = some v8 ∧ w.cell? ⟨k, 9, none⟩ = some v9 ∧ w.cell? ⟨k, 10, none⟩ = some v10 ∧ w.cell? ⟨k, 11, none⟩ = some v11 ∧ w.cell? ⟨k, 12, none⟩ = some v12 :=
 ⟨cell_of_row w k 0 _ t _ h, cell_of_row w k 1 _ t _ h, cell_of_row w k 2 _ t _ h, cell_of_row w k 3 _ t _ h, cell_of_row w k 4 _ t _ h, cell_of_row w k 5 _ t _ h, cell_of_row w k 6 _ t _ h, cell_of_row w k 7 _ t _ h, cell_of_row w k 8 _ t _ h, cell_of_row w k 9 _ t _ h, cell_of_row w k 10 _ t _ h, cell_of_row w k 11 _ t _ h, cell_of_row w k 12 _ t _ h⟩
end Go.Proofs.YtkjlchfmplcobaeGreatDoor

/- Thirteen cells written. Nothing of the program's functions is in it. -/
namespace Go.Proofs.YtkjlchfmplcobaeGreatDoor
open Go.RowKit

theorem free_13 {w : World} {k : Nat} {v0 v1 v2 v3 v4 v5 v6 v7 v8 v9 v10 v11 v12 : Value} {t : TypeId} (h : w.heap[k]? = some (.cells #[v0, v1, v2, v3, v4, v5, v6, v7, v8, v9, v10, v11, v12] t (0, 0))) :
  w.frozen? ⟨k, 0, none⟩ = false ∧ w.frozen? ⟨k, 1, none⟩ = false ∧ w.frozen? ⟨k, 2, none⟩ = false ∧ w.frozen? ⟨k, 3, none⟩ = false ∧ w.frozen? ⟨k, 4, none⟩ = false ∧ w.frozen? ⟨k, 5, none⟩ = false ∧ w.frozen? ⟨k, 6, none⟩ = false ∧ w.frozen? ⟨k, 7, none⟩ = false ∧ w.frozen? ⟨k, 8, none⟩ = false ∧ w.frozen? ⟨k, 9, none⟩ = false ∧ w.frozen? ⟨k, 10, none⟩ = false ∧ w.frozen? ⟨k, 11, none⟩ = false ∧ w.frozen? ⟨k, 12, none⟩ = false :=
 ⟨frozen_of_row w k 0 _ t h, frozen_of_row w k 1 _ t h, frozen_of_row w k 2 _ t h, frozen_of_row w k 3 _ t h, frozen_of_row w k 4 _ t h, frozen_of_row w k 5 _ t h, frozen_of_row w k 6 _ t h, frozen_of_row w k 7 _ t h, frozen_of_row w k 8 _ t h, frozen_of_row w k 9 _ t h, frozen_of_row w k 10 _ t h, frozen_of_row w k 11 _ t h, frozen_of_row w k 12 _ t h⟩
theorem thirteen_set {w : World} {R : Nat} {v0 v1 v2 v3 v4 v5 v6 v7 v8 v9 v10 v11 v12 : Value} {t : TypeId} (h : w.heap[R]? = some (.cells #[v0, v1, v2, v3, v4, v5, v6, v7, v8, v9, v10, v11, v12] t (0, 0))) (u0 u1 u2 u3 u4 u5 u6 u7 u8 u9 u10 u11 u12 : Value) : (((((((((((((w.setCell ⟨R, 0, none⟩ u0).setCell ⟨R, 1, none⟩ u1).setCell ⟨R, 2, none⟩ u2).setCell ⟨R, 3, none⟩ u3).setCell ⟨R, 4, none⟩ u4).setCell ⟨R, 5, none⟩ u5).setCell ⟨R, 6, none⟩ u6).setCell ⟨R, 7, none⟩ u7).setCell ⟨R, 8, none⟩ u8).setCell ⟨R, 9, none⟩ u9).setCell ⟨R, 10, none⟩ u10).setCell ⟨R, 11, none⟩ u11).setCell ⟨R, 12, none⟩ u12).heap[R]? = some (.cells #[u0, u1, u2, u3, u4, u5, u6, u7, u8, u9, u10, u11, u12] t (0, 0)) := by
 have h0 : (w.setCell ⟨R, 0, none⟩ u0).heap[R]? = some (.cells #[u0, v1, v2, v3, v4, v5, v6, v7, v8, v9, v10, v11, v12] t (0, 0)) := heap_setCell_same w R 0 _ t u0 h
 generalize w.setCell ⟨R, 0, none⟩ u0 = w0 at *
 have h1 : (w0.setCell ⟨R, 1, none⟩ u1).heap[R]? = some (.cells #[u0, u1, v2, v3, v4, v5, v6, v7, v8, v9, v10, v11, v12] t (0, 0)) := heap_setCell_same w0 R 1 _ t u1 h0
 generalize w0.setCell ⟨R, 1, none⟩ u1 = w1 at *
 have h2 : (w1.setCell ⟨R, 2, none⟩ u2).heap[R]? = some (.cells #[u0, u1, u2, v3, v4, v5, v6, v7, v8, v9, v10, v11, v12] t (0, 0)) := heap_setCell_same w1 R 2 _ t u2 h1
 generalize w1.setCell ⟨R, 2, none⟩ u2 = w2 at *
 have h3 : (w2.setCell ⟨R, 3, none⟩ u3).heap[R]? = some (.cells #[u0, u1, u2, u3, v4, v5, v6, v7, v8, v9, v10, v11, v12] t (0, 0)) := heap_setCell_same w2 R 3 _ t u3 h2
 generalize w2.setCell ⟨R, 3, none⟩ u3 = w3 at *
 have h4 : (w3.setCell ⟨R, 4, none⟩ u4).heap[R]? = some (.cells #[u0, u1, u2, u3, u4, v5, v6, v7, v8, v9, v10, v11, v12] t (0, 0)) := heap_setCell_same w3 R 4 _ t u4 h3
 generalize w3.setCell ⟨R, 4, none⟩ u4 = w4 at *
 have h5 : (w4.setCell ⟨R, 5, none⟩ u5).heap[R]? = some (.cells #[u0, u1, u2, u3, u4, u5, v6, v7, v8, v9, v10, v11, v12] t (0, 0)) := heap_setCell_same w4 R 5 _ t u5 h4
 generalize w4.setCell ⟨R, 5, none⟩ u5 = w5 at *
 have h6 : (w5.setCell ⟨R, 6, none⟩ u6).heap[R]? = some (.cells #[u0, u1, u2, u3, u4, u5, u6, v7, v8, v9, v10, v11, v12] t (0, 0)) := heap_setCell_same w5 R 6 _ t u6 h5
 generalize w5.setCell ⟨R, 6, none⟩ u6 = w6 at *
 have h7 : (w6.setCell ⟨R, 7, none⟩ u7).heap[R]? = some (.cells #[u0, u1, u2, u3, u4, u5, u6, u7, v8, v9, v10, v11, v12] t (0, 0)) := heap_setCell_same w6 R 7 _ t u7 h6
 generalize w6.setCell ⟨R, 7, none⟩ u7 = w7 at *
 have h8 : (w7.setCell ⟨R, 8, none⟩ u8).heap[R]? = some (.cells #[u0, u1, u2, u3, u4, u5, u6, u7, u8, v9, v10, v11, v12] t (0, 0)) := heap_setCell_same w7 R 8 _ t u8 h7
 generalize w7.setCell ⟨R, 8, none⟩ u8 = w8 at *
 have h9 : (w8.setCell ⟨R, 9, none⟩ u9).heap[R]? = some (.cells #[u0, u1, u2, u3, u4, u5, u6, u7, u8, u9, v10, v11, v12] t (0, 0)) := heap_setCell_same w8 R 9 _ t u9 h8
 generalize w8.setCell ⟨R, 9, none⟩ u9 = w9 at *
 have h10 : (w9.setCell ⟨R, 10, none⟩ u10).heap[R]? = some (.cells #[u0, u1, u2, u3, u4, u5, u6, u7, u8, u9, u10, v11, v12] t (0, 0)) := heap_setCell_same w9 R 10 _ t u10 h9
 generalize w9.setCell ⟨R, 10, none⟩ u10 = w10 at *
 have h11 : (w10.setCell ⟨R, 11, none⟩ u11).heap[R]? = some (.cells #[u0, u1, u2, u3, u4, u5, u6, u7, u8, u9, u10, u11, v12] t (0, 0)) := heap_setCell_same w10 R 11 _ t u11 h10
 generalize w10.setCell ⟨R, 11, none⟩ u11 = w11 at *
 have h12 : (w11.setCell ⟨R, 12, none⟩ u12).heap[R]? = some (.cells #[u0, u1, u2, u3, u4, u5, u6, u7, u8, u9, u10, u11, u12] t (0, 0)) := heap_setCell_same w11 R 12 _ t u12 h11
 exact h12
theorem thirteen_below {B R : Nat} {wz w : World} (h : Below B wz w) (hR : B ≤ R) (u0 u1 u2 u3 u4 u5 u6 u7 u8 u9 u10 u11 u12 : Value) : Below B wz (((((((((((((w.setCell ⟨R, 0, none⟩ u0).setCell ⟨R, 1, none⟩ u1).setCell ⟨R, 2, none⟩ u2).setCell ⟨R, 3, none⟩ u3).setCell ⟨R, 4, none⟩ u4).setCell ⟨R, 5, none⟩ u5).setCell ⟨R, 6, none⟩ u6).setCell ⟨R, 7, none⟩ u7).setCell ⟨R, 8, none⟩ u8).setCell ⟨R, 9, none⟩ u9).setCell ⟨R, 10, none⟩ u10).setCell ⟨R, 11, none⟩ u11).setCell ⟨R, 12, none⟩ u12) := by
 have h0 : Below B wz (w.setCell ⟨R, 0, none⟩ u0) := h.setCell hR _
 generalize w.setCell ⟨R, 0, none⟩ u0 = w0 at *
 have h1 : Below B wz (w0.setCell ⟨R, 1, none⟩ u1) := h0.setCell hR _
 generalize w0.setCell ⟨R, 1, none⟩ u1 = w1 at *
 have h2 : Below B wz (w1.setCell ⟨R, 2, none⟩ u2) := h1.setCell hR _
 generalize w1.setCell ⟨R, 2, none⟩ u2 = w2 at *
 have h3 : Below B wz (w2.setCell ⟨R, 3, none⟩ u3) := h2.setCell hR _
 generalize w2.setCell ⟨R, 3, none⟩ u3 = w3 at *
 have h4 : Below B wz (w3.setCell ⟨R, 4, none⟩ u4) := h3.setCell hR _
 generalize w3.setCell ⟨R, 4, none⟩ u4 = w4 at *
 have h5 : Below B wz (w4.setCell ⟨R, 5, none⟩ u5) := h4.setCell hR _
 generalize w4.setCell ⟨R, 5, none⟩ u5 = w5 at *
 have h6 : Below B wz (w5.setCell ⟨R, 6, none⟩ u6) := h5.setCell hR _
 generalize w5.setCell ⟨R, 6, none⟩ u6 = w6 at *
 have h7 : Below B wz (w6.setCell ⟨R, 7, none⟩ u7) := h6.setCell hR _
 generalize w6.setCell ⟨R, 7, none⟩ u7 = w7 at *
 have h8 : Below B wz (w7.setCell ⟨R, 8, none⟩ u8) := h7.setCell hR _
 generalize w7.setCell ⟨R, 8, none⟩ u8 = w8 at *
 have h9 : Below B wz (w8.setCell ⟨R, 9, none⟩ u9) := h8.setCell hR _
 generalize w8.setCell ⟨R, 9, none⟩ u9 = w9 at *
 have h10 : Below B wz (w9.setCell ⟨R, 10, none⟩ u10) := h9.setCell hR _
 generalize w9.setCell ⟨R, 10, none⟩ u10 = w10 at *
 have h11 : Below B wz (w10.setCell ⟨R, 11, none⟩ u11) := h10.setCell hR _
 generalize w10.setCell ⟨R, 11, none⟩ u11 = w11 at *
 have h12 : Below B wz (w11.setCell ⟨R, 12, none⟩ u12) := h11.setCell hR _
 exact h12
end Go.Proofs.YtkjlchfmplcobaeGreatDoor

/- The walk of yearref5.Row. -/
namespace Go.Proofs.YtkjlchfmplcobaeGreatDoor
open Go.RowKit

theorem three_new (w : World) (u v x : Value) (t : TypeId) : ∀ (j : Nat) (y : Value), [u, v, x][j]? = some y → (w.alloc (.cells #[u, v, x] t)).cell? ((⟨w.heap.size, 0, none⟩ : Addr).add j) = some y := fun j y hj => by
 have hadd : (⟨w.heap.size, 0, none⟩ : Addr).add j = ⟨w.heap.size, 0 + j, none⟩ := Addr.add_mid _ _ _
 rw [hadd, Nat.zero_add]
 match j, hj with
 | 0, hj => rw [new_cell w t _ 0 (by simp)]; simpa using hj
 | 1, hj => rw [new_cell w t _ 1 (by simp)]; simpa using hj
 | 2, hj => rw [new_cell w t _ 2 (by simp)]; simpa using hj
 | j + 3, hj => simp at hj
theorem bytesAt_news {w : World} {ad : Addr} {n c : Nat} {zs : List Int} (h : BytesAt w (.slice (some ad) n c) zs) : ∀ j u, (zs.map (Value.int .u8))[j]? = some u → w.cell? (ad.add j) = some u := by
 obtain ⟨-, h | ⟨a, e, h⟩⟩ := h.src
 ·cases h.1
 ·cases e; exact h
set_option maxRecDepth 100000 in
set_option maxHeartbeats 4000000 in
theorem refRow_any (r : Rec) (v : Value) (w : World) (hv : RecV w v r) (hw : wrongRec r = 0) :
  Calls Tryz.prog 43 #[v] w fun e w' => ∃ xa xc, e = .returned (.slice xa 40 xc) ∧ w'.ownsRow w.heap.size 5 1 (.slice xa 40 xc) 40 ((rowL r).map (Value.int .u8)) ∧ Below w.heap.size w w' := by
 obtain ⟨i0, hi0, hz0, hz1, hz2⟩ := info_parts Tryz.info5b
 obtain ⟨ra, rc, rfl, hr⟩ := hv
 obtain ⟨h1, h2, h3, h4, h5, h6, h7, h8⟩ := wrongRec_ok hw
 obtain ⟨s, f, t, z, root⟩ := r
 dsimp only at hr h1 h2 h3 h4 h5 h6 h7 h8 ⊢
 rw [h8] at hr ⊢
 have hro := hr.at'
 obtain ⟨g, o, cR, eR⟩ := hro.some (by rw [h8]; omega)
 rw [h8] at eR
 cases eR
 have b0 : Below w.heap.size w (w.alloc (.cells #[.int .i64 s, .int .i64 f, .int .i64 t, .int .i64 z, .slice (some ⟨g, o, none⟩) 32 rc] 45)) := (Below.refl _ _).alloc (Nat.le_refl _) _
 have x0 := box_new w #[.int .i64 s, .int .i64 f, .int .i64 t, .int .i64 z, .slice (some ⟨g, o, none⟩) 32 rc] 45
 obtain ⟨s0, s1, s2, s3, s4⟩ := box_five x0
 clear hw
 go_enter Tryz.func43, Tryz.ntmps43
 go_wp2_with fail
 have hs0 : (w.alloc (.cells #[.int .i64 s, .int .i64 f, .int .i64 t, .int .i64 z, .slice (some ⟨g, o, none⟩) 32 rc] 45)).heap.size = w.heap.size + 1 := by simp
 have hlit := (World.ownsRow_lit (size := 1) (e := 5) (base := w.heap.size) (w.alloc (.cells #[.int .i64 s, .int .i64 f, .int .i64 t, .int .i64 z, .slice (some ⟨g, o, none⟩) 32 rc] 45)) #[.int .u8 s] 1 (by rw [hs0]; omega) (by unfold maxLen; omega) rfl).alloc (.cells #[.int .i64 f, .int .i64 t] 3)
 have x2 := box_old _ (.cells #[.int .i64 f, .int .i64 t] 3) (box_old _ (.cells #[.int .u8 s] 5) x0)
 have y2 := box_last (w.alloc (.cells #[.int .i64 s, .int .i64 f, .int .i64 t, .int .i64 z, .slice (some ⟨g, o, none⟩) 32 rc] 45)) (.cells #[.int .u8 s] 5) #[.int .i64 f, .int .i64 t] 3
 have b2 : Below w.heap.size w (((w.alloc (.cells #[.int .i64 s, .int .i64 f, .int .i64 t, .int .i64 z, .slice (some ⟨g, o, none⟩) 32 rc] 45)).alloc (.cells #[.int .u8 s] 5)).alloc (.cells #[.int .i64 f, .int .i64 t] 3)) := (b0.alloc (by rw [hs0]; omega) _).alloc (by simp; omega) _
 rw [hs0] at hlit y2
 generalize ((w.alloc (.cells #[.int .i64 s, .int .i64 f, .int .i64 t, .int .i64 z, .slice (some ⟨g, o, none⟩) 32 rc] 45)).alloc (.cells #[.int .u8 s] 5)).alloc (.cells #[.int .i64 f, .int .i64 t] 3) = w2 at *
 clear s0 s1 s2 s3 s4 x0 b0 hs0
 go_loopw [3, 16] (fun bv kv wr => ∃ (k : Nat) (va : Option Addr) (vc : Nat), k ≤ 2 ∧ kv = .int .i64 k ∧ bv = .slice va (1 + 3 * k) vc ∧ wr.ownsRow w.heap.size 5 1 (.slice va (1 + 3 * k) vc) (1 + 3 * k) ((s :: (threeB f ++ threeB t).take (3 * k)).map (Value.int .u8)) ∧ wr.heap[w.heap.size]? = some (.cells #[.int .i64 s, .int .i64 f, .int .i64 t, .int .i64 z, .slice (some ⟨g, o, none⟩) 32 rc] 45 (0, 0)) ∧ wr.heap[w.heap.size + 1 + 1]? = some (.cells #[.int .i64 f, .int .i64 t] 3 (0, 0)) ∧ Below w.heap.size w wr) (fun _ kv _ => 2 - (intOf kv).toNat)
 case atStart => exact ⟨0, _, _, by omega, rfl, rfl, hlit, x2, y2, b2⟩
 case round =>
  obtain ⟨wo, rfl⟩ : ∃ x, x = wr := ⟨wr, rfl⟩
  obtain ⟨k, va, vc, hk, rfl, rfl, hrow, xo, yo, hbr⟩ := hrel
  have hsr := hbr.size
  clear hlit x2 y2 b2
  obtain ⟨p0, p1, -, -⟩ := box_two yo
  rcases (show k = 0 ∨ k = 1 ∨ k = 2 by omega) with rfl | rfl | rfl
  ·have hrowA := hrow.alloc (.cells #[.int .u8 (f / 65536), .int .u8 (f / 256 % 256), .int .u8 (f % 256)] 5)
   have hnew := three_new wo (.int .u8 (f / 65536)) (.int .u8 (f / 256 % 256)) (.int .u8 (f % 256)) 5
   have hone : ∀ y ∈ [Value.int .u8 (f / 65536), .int .u8 (f / 256 % 256), .int .u8 (f % 256)], y.oneCell' = true := by intro y hy; simp at hy; rcases hy with rfl | rfl | rfl <;> rfl
   have xA := box_old _ (.cells #[.int .u8 (f / 65536), .int .u8 (f / 256 % 256), .int .u8 (f % 256)] 5) xo
   have yA := box_old _ (.cells #[.int .u8 (f / 65536), .int .u8 (f / 256 % 256), .int .u8 (f % 256)] 5) yo
   have bA : Below w.heap.size w (wo.alloc (.cells #[.int .u8 (f / 65536), .int .u8 (f / 256 % 256), .int .u8 (f % 256)] 5)) := hbr.alloc hsr _
   have hsA := bA.size
   clear hrow
   go_wp2_with (at_builtin; refine wpList_append_own _ rfl (.tmp 20) (.tmp 31) 37 rfl w.heap.size 5 i0 _ 1 1 Tryz.underlying37 hi0 hz0 hz1 hz2 rfl (by decide) _ _ _ rfl hrowA _ 3 3 [.int .u8 (f / 65536), .int .u8 (f / 256 % 256), .int .u8 (f % 256)] rfl rfl hnew hone (by unfold maxLen; omega) (by omega) hsA ?_; intro v7 w7 ho7 hg7 _; obtain ⟨sa, sc, rfl⟩ := own_form' ho7)
   have b7 : Below w.heap.size w w7 := bA.grown hg7 hsA (fun _ h => own_block hrowA h)
   go_roundw
   case rel => exact ⟨1, sa, sc, by omega, rfl, rfl, ho7, grown_box hg7 hrowA xA (by decide), grown_box hg7 hrowA yA (by decide), b7⟩
   case measure => simp [intOf]
  ·have hrowA := hrow.alloc (.cells #[.int .u8 (t / 65536), .int .u8 (t / 256 % 256), .int .u8 (t % 256)] 5)
   have hnew := three_new wo (.int .u8 (t / 65536)) (.int .u8 (t / 256 % 256)) (.int .u8 (t % 256)) 5
   have hone : ∀ y ∈ [Value.int .u8 (t / 65536), .int .u8 (t / 256 % 256), .int .u8 (t % 256)], y.oneCell' = true := by intro y hy; simp at hy; rcases hy with rfl | rfl | rfl <;> rfl
   have xA := box_old _ (.cells #[.int .u8 (t / 65536), .int .u8 (t / 256 % 256), .int .u8 (t % 256)] 5) xo
   have yA := box_old _ (.cells #[.int .u8 (t / 65536), .int .u8 (t / 256 % 256), .int .u8 (t % 256)] 5) yo
   have bA : Below w.heap.size w (wo.alloc (.cells #[.int .u8 (t / 65536), .int .u8 (t / 256 % 256), .int .u8 (t % 256)] 5)) := hbr.alloc hsr _
   have hsA := bA.size
   have ht0 : 0 ≤ t := by omega
   clear hrow
   go_wp2_with (at_builtin; refine wpList_append_own _ rfl (.tmp 20) (.tmp 31) 37 rfl w.heap.size 5 i0 _ 1 1 Tryz.underlying37 hi0 hz0 hz1 hz2 rfl (by decide) _ _ _ rfl hrowA _ 3 3 [.int .u8 (t / 65536), .int .u8 (t / 256 % 256), .int .u8 (t % 256)] rfl rfl hnew hone (by unfold maxLen; omega) (by omega) hsA ?_; intro v7 w7 ho7 hg7 _; obtain ⟨sa, sc, rfl⟩ := own_form' ho7)
   have b7 : Below w.heap.size w w7 := bA.grown hg7 hsA (fun _ h => own_block hrowA h)
   go_roundw
   case rel => exact ⟨2, sa, sc, by omega, rfl, rfl, ho7, grown_box hg7 hrowA xA (by decide), grown_box hg7 hrowA yA (by decide), b7⟩
   case measure => simp [intOf]
  ·obtain ⟨s0, s1, s2, s3, s4⟩ := box_five xo
   have hbw := hbr
   go_wp2_with fail
   have hRow8 : (s :: (threeB f ++ threeB t).take (3 * 2)) ++ [z] ++ root = rowL ⟨s, f, t, z, root⟩ := by unfold rowL threeB; simp
   have HR8 : Hid ((s :: (threeB f ++ threeB t).take (3 * 2)) ++ [z] ++ root = rowL ⟨s, f, t, z, root⟩) := hRow8
   clear hRow8
   generalize (s :: (threeB f ++ threeB t).take (3 * 2)) = pre at *
   have HZ : Hid (IntKind.u8.wrap z = z) := by show _ = _; rw [IntKind.wrap_u8]; omega
   have hbz : Below w.heap.size w (wo.alloc (.cells #[.int .u8 (IntKind.u8.wrap z)] 5)).drew := (hbr.alloc hsr _).drew
   have hrowZ : (wo.alloc (.cells #[.int .u8 (IntKind.u8.wrap z)] 5)).drew.ownsRow w.heap.size 5 1 (.slice va 7 vc) 7 (pre.map (Value.int .u8)) := hrow.alloc (.cells #[.int .u8 (IntKind.u8.wrap z)] 5)
   have xZ : (wo.alloc (.cells #[.int .u8 (IntKind.u8.wrap z)] 5)).drew.heap[w.heap.size]? = _ := box_old _ (.cells #[.int .u8 (IntKind.u8.wrap z)] 5) xo
   have hsZ := hbz.size
   go_region_held3 (fun w' => w'.cell? ⟨w.heap.size, 3, none⟩ = some (.int .i64 z) ∧ w'.cell? ⟨w.heap.size, 4, none⟩ = some (.slice (some ⟨g, o, none⟩) 32 rc)) (first | exact ⟨s3, s4⟩ | exact ⟨q3, q4⟩ | exact ⟨q3', q4'⟩ | exact ⟨(old_cell _ _ _ _ (lt_heap xo)).trans s3, (old_cell _ _ _ _ (lt_heap xo)).trans s4⟩) (first | (refine step_append_kept _ rfl (.tmp 34) (.tmp 39) 37 rfl w.heap.size 5 i0 (.int .u8 0) 1 Tryz.underlying37 hi0 hz0 hz1 hz2 rfl _ _ _ rfl hrowZ _ 1 1 [.int .u8 (IntKind.u8.wrap z)] rfl rfl (cell_one_new _ _ _) (by intro u hu; simp at hu; subst hu; rfl) (by unfold maxLen; omega) (by omega) hsZ ?_; intro v6 w6 ho6 hg6 hk6; have x6 := grown_box hg6 hrowZ xZ (by decide); obtain ⟨-, -, -, q3, q4⟩ := box_five x6; have b6 : Below w.heap.size w w6 := hbz.grown hg6 hsZ (fun _ h => own_block hrowZ h); have hn6 := bytesAt_news (hro.below (Nat.le_refl _) b6); obtain ⟨ya, yc, rfl⟩ := own_form' ho6) | (refine step_append_kept _ rfl (.tmp 40) (.tmp 43) 37 rfl w.heap.size 5 i0 (.int .u8 0) 1 Tryz.underlying37 hi0 hz0 hz1 hz2 rfl _ _ _ rfl ho6 ⟨g, o, none⟩ 32 rc (root.map (Value.int .u8)) rfl (by rw [List.length_map, h8]) hn6 (by intro u hu; obtain ⟨y, -, rfl⟩ := List.mem_map.1 hu; rfl) (by unfold maxLen; omega) (by omega) b6.size ?_; intro v8 w8 ho8 hg8 hk8; have x8 := grown_box hg8 ho6 x6 (by decide); obtain ⟨-, -, -, q3', q4'⟩ := box_five x8))
   all_goals
    have b8 : Below w.heap.size w w8 := b6.grown hg8 b6.size (fun _ h => own_block ho6 h)
    obtain ⟨xa, xc, rfl⟩ := own_form' ho8
    go_wp2_with fail
    go_ret
    refine ⟨xa, xc, rfl, ?_, b8⟩
    rw [← HR8.out, List.map_append, List.map_append]
    rw [HZ.out] at ho8
    exact ho8

end Go.Proofs.YtkjlchfmplcobaeGreatDoor

/- What Play tells, by what is wrong: mathematics. -/
namespace Go.Proofs.YtkjlchfmplcobaeGreatDoor

theorem play_ok {ws : List Win} {l : List Dd} (h : (playF ws l).1 = 0) : playL ws l = runL (startL ws) l ∧ (wrongWins ws).1 = 0 ∧ l.length ≤ 120 := by
 refine ⟨by unfold playL; rw [if_neg (fun g => g h)], ?_, ?_⟩
 ·unfold playF at h
  by_cases hw : (wrongWins ws).1 ≠ 0
  ·rw [if_pos hw] at h; exact absurd h hw
  ·simpa using hw
 ·unfold playF at h
  by_cases hw : (wrongWins ws).1 ≠ 0
  ·rw [if_pos hw] at h; exact absurd h hw
  ·rw [if_neg hw] at h
   by_cases hl : 120 < l.length
   ·rw [if_pos hl] at h; exact absurd h (by decide)
   ·omega
end Go.Proofs.YtkjlchfmplcobaeGreatDoor

/- A variable of numbers is written: fleets and answers are as they were, wherever they lie. -/
namespace Go.Proofs.YtkjlchfmplcobaeGreatDoor
open Go.RowKit

/-- The block F holds numbers alone; and all other memory is as it was. -/
structure Off (F : Nat) (w w' : World) : Prop where
 nums : ∀ x v, w.cell? ⟨F, x, none⟩ = some v → ∃ z, v = .int .i64 z
 size : w.heap.size ≤ w'.heap.size
 kept : ∀ b x, b ≠ F → w'.cell? ⟨b, x, none⟩ = w.cell? ⟨b, x, none⟩
theorem off_set {w : World} {F o : Nat} {a b : Int} {t : TypeId} (h : w.heap[F]? = some (.cells #[.int .i64 a, .int .i64 b] t (0, 0))) (u : Value) : Off F w (w.setCell ⟨F, o, none⟩ u) := by
 refine ⟨fun x v hx => ?_, by simp, fun c x hc => ?_⟩
 ·rw [cell_of_row w F x _ t _ h] at hx
  match x, hx with
  | 0, hx => exact ⟨a, by simpa using hx.symm⟩
  | 1, hx => exact ⟨b, by simpa using hx.symm⟩
  | x + 2, hx => simp at hx
 ·exact World.cell?_setCell_far _ _ _ _ (fun e => hc e.symm)
theorem Off.slice {F : Nat} {w w' : World} (h : Off F w w') {b x : Nat} {a : Option Addr} {n c : Nat} (hc : w.cell? ⟨b, x, none⟩ = some (.slice a n c)) : b ≠ F := fun e => by
 subst e
 obtain ⟨z, hz⟩ := h.nums _ _ hc
 cases hz
theorem BytesAt.off {F : Nat} {w w' : World} (ho : Off F w w') {v : Value} {zs : List Int} (h : BytesAt w v zs) : BytesAt w' v zs := by
 rcases h with h | ⟨b, off, cp, h1, h2, h3⟩
 ·exact .inl h
 ·by_cases hl : zs.length = 0
  ·have : zs = [] := List.eq_nil_of_length_eq_zero hl
   subst this
   exact .inl ⟨rfl, _, _, h1, fun e => by cases e⟩
  ·have hbF : b ≠ F := fun e => by
    subst e
    obtain ⟨z, hz⟩ := ho.nums _ _ (h3 0 (by omega))
    cases hz
   exact .inr ⟨b, off, cp, h1, Nat.lt_of_lt_of_le h2 ho.size, fun j hj => by rw [ho.kept _ _ hbF]; exact h3 j hj⟩
theorem Some'.off {F : Nat} {w w' : World} (ho : Off F w w') {v : Value} {b : List Int} (h : Some' w v b) : Some' w' v b := ⟨h.at'.off ho, h.bytes, h.short⟩
theorem PartsAt.off {F : Nat} {w w' : World} (ho : Off F w w') {v : Value} {L : List (List Int)} (h : PartsAt w v L) : PartsAt w' v L := by
 rcases h with h | ⟨b, off, cp, h1, h2, h3⟩
 ·exact .inl h
 ·refine .inr ⟨b, off, cp, h1, Nat.lt_of_lt_of_le h2 ho.size, fun j hj => ?_⟩
  obtain ⟨a, m, c, hc, hB⟩ := h3 j hj
  exact ⟨a, m, c, by rw [ho.kept _ _ (ho.slice hc)]; exact hc, hB.off ho⟩
theorem Lists.off {F : Nat} {w w' : World} (ho : Off F w w') {a : Option Addr} {n c : Nat} {L : List (List Int)} (h : Lists w a n c L) : Lists w' a n c L := ⟨h.len, h.at'.off ho, h.room, h.cap, h.nil, h.bytes, h.short⟩
theorem RecCells.off {F : Nat} {w w' : World} (ho : Off F w w') {b o : Nat} {r : Rec} (h : RecCells w b o r) : RecCells w' b o r := by
 obtain ⟨h0, h1, h2, h3, ra, rc, h4, h5⟩ := h
 have hb := ho.slice h4
 exact ⟨by rw [ho.kept _ _ hb]; exact h0, by rw [ho.kept _ _ hb]; exact h1, by rw [ho.kept _ _ hb]; exact h2, by rw [ho.kept _ _ hb]; exact h3, ra, rc, by rw [ho.kept _ _ hb]; exact h4, h5.off ho⟩
theorem RecsAt.off {F : Nat} {w w' : World} (ho : Off F w w') {v : Value} {l : List Rec} (h : RecsAt w v l) : RecsAt w' v l := by
 obtain ⟨a, c, h1, h2, h3, h4, h5⟩ := h
 refine ⟨a, c, h1, h2, h3, h4, ?_⟩
 rcases h5 with h5 | ⟨b, off, h6, h7, h8⟩
 ·exact .inl h5
 ·exact .inr ⟨b, off, h6, Nat.lt_of_lt_of_le h7 ho.size, fun j hj => (h8 j hj).off ho⟩
theorem SegsAt.off {F : Nat} {w w' : World} (ho : Off F w w') {v : Value} {l : List Seg} (h : SegsAt w v l) : SegsAt w' v l := by
 obtain ⟨a, c, h1, h2, h3, h4, h5⟩ := h
 refine ⟨a, c, h1, h2, h3, h4, ?_⟩
 rcases h5 with h5 | ⟨b, off, h6, h7, h8⟩
 ·exact .inl h5
 ·refine .inr ⟨b, off, h6, Nat.lt_of_lt_of_le h7 ho.size, fun j hj => ?_⟩
  obtain ⟨c0, c1, pa, pc, c2, c3, c4⟩ := h8 j hj
  have hb := ho.slice c2
  exact ⟨by rw [ho.kept _ _ hb]; exact c0, by rw [ho.kept _ _ hb]; exact c1, pa, pc, by rw [ho.kept _ _ hb]; exact c2, c3.off ho, c4⟩
theorem ShdCells.off {F : Nat} {w w' : World} (ho : Off F w w') {b o : Nat} {s : Shd} (h : ShdCells w b o s) : ShdCells w' b o s := by
 obtain ⟨h1, h2, h3, ⟨ea, ec, h4, h4'⟩, h5, ⟨ra, rc, h6, h6'⟩, ⟨ga, gc, h7, h7'⟩⟩ := h
 have hb := ho.slice h4
 exact ⟨by rw [ho.kept _ _ hb]; exact h1, by rw [ho.kept _ _ hb]; exact h2, by rw [ho.kept _ _ hb]; exact h3, ⟨ea, ec, by rw [ho.kept _ _ hb]; exact h4, h4'.off ho⟩, by rw [ho.kept _ _ hb]; exact h5, ⟨ra, rc, by rw [ho.kept _ _ hb]; exact h6, h6'.off ho⟩, ⟨ga, gc, by rw [ho.kept _ _ hb]; exact h7, h7'.off ho⟩⟩
theorem RowAt.off {F : Nat} {w w' : World} (ho : Off F w w') {α : Type} {n : Nat} {P : World → Nat → Nat → α → Prop} {z : α} {v : Value} {l : List α} (h : RowAt n P z w v l) (hP : ∀ b o x, P w b o x → P w' b o x) : RowAt n P z w' v l := by
 obtain ⟨a, c, h1, h2, h3, h4, h5⟩ := h
 refine ⟨a, c, h1, h2, h3, h4, ?_⟩
 rcases h5 with h5 | ⟨b, off, h6, h7, h8⟩
 ·exact .inl h5
 ·exact .inr ⟨b, off, h6, Nat.lt_of_lt_of_le h7 ho.size, fun j hj => hP _ _ _ (h8 j hj)⟩
theorem FltV.off {F : Nat} {w w' : World} (ho : Off F w w') {v : Value} {f : Flt} (h : FltV w v f) : FltV w' v f := by
 obtain ⟨sa, sc, ba, bc, h1, h2, h3⟩ := h
 exact ⟨sa, sc, ba, bc, h1, RowAt.off ho h2 (fun _ _ _ hx => hx.off ho), h3.off ho⟩
theorem AnsCells.off {F : Nat} {w w' : World} (ho : Off F w w') {b o : Nat} {x : Ans} (h : AnsCells w b o x) : AnsCells w' b o x := by
 obtain ⟨h0, h1, h2, h3, ra, rc, h4, h5⟩ := h
 have hb := ho.slice h4
 exact ⟨by rw [ho.kept _ _ hb]; exact h0, by rw [ho.kept _ _ hb]; exact h1, by rw [ho.kept _ _ hb]; exact h2, by rw [ho.kept _ _ hb]; exact h3, ra, rc, by rw [ho.kept _ _ hb]; exact h4, h5.off ho⟩
theorem AnssAt.off {F : Nat} {w w' : World} (ho : Off F w w') {v : Value} {l : List Ans} (h : AnssAt w v l) : AnssAt w' v l := RowAt.off ho h (fun _ _ _ hx => hx.off ho)

end Go.Proofs.YtkjlchfmplcobaeGreatDoor

/- A variable that holds nothing yet is written: what was shown is as it was, wherever it lies. -/
namespace Go.Proofs.YtkjlchfmplcobaeGreatDoor
open Go.RowKit

structure OffZ (R : Nat) (w w' : World) : Prop where
 noughts : ∀ x v, w.cell? ⟨R, x, none⟩ = some v → (∃ z, v = .int .i64 z) ∨ v = .slice none 0 0
 size : w.heap.size ≤ w'.heap.size
 kept : ∀ b x, b ≠ R → w'.cell? ⟨b, x, none⟩ = w.cell? ⟨b, x, none⟩
theorem BytesAt.offZ {R : Nat} {w w' : World} (ho : OffZ R w w') {v : Value} {zs : List Int} (h : BytesAt w v zs) : BytesAt w' v zs := by
 rcases h with h | ⟨b, off, cp, h1, h2, h3⟩
 ·exact .inl h
 ·by_cases hl : zs.length = 0
  ·have : zs = [] := List.eq_nil_of_length_eq_zero hl
   subst this
   exact .inl ⟨rfl, _, _, h1, fun e => by cases e⟩
  ·have hbR : b ≠ R := fun e => by
    subst e
    rcases ho.noughts _ _ (h3 0 (by omega)) with ⟨z, hz⟩ | hz <;> cases hz
   exact .inr ⟨b, off, cp, h1, Nat.lt_of_lt_of_le h2 ho.size, fun j hj => by rw [ho.kept _ _ hbR]; exact h3 j hj⟩
theorem Some'.offZ {R : Nat} {w w' : World} (ho : OffZ R w w') {v : Value} {b : List Int} (h : Some' w v b) : Some' w' v b := ⟨h.at'.offZ ho, h.bytes, h.short⟩
theorem PartsAt.offZ {R : Nat} {w w' : World} (ho : OffZ R w w') {v : Value} {L : List (List Int)} (h : PartsAt w v L) (hd : Digs L) : PartsAt w' v L := by
 rcases h with h | ⟨b, off, cp, h1, h2, h3⟩
 ·exact .inl h
 ·refine .inr ⟨b, off, cp, h1, Nat.lt_of_lt_of_le h2 ho.size, fun j hj => ?_⟩
  obtain ⟨a, m, c, hc, hB⟩ := h3 j hj
  have hbR : b ≠ R := fun e => by
   subst e
   rcases ho.noughts _ _ hc with ⟨z, hz⟩ | hz
   ·cases hz
   ·cases hz
    obtain ⟨a', c', e'⟩ := hB.form
    have h32 : (L.getD j []).length = 32 := by rw [List.getD_eq_getElem?_getD, List.getElem?_eq_getElem hj]; exact hd _ (List.getElem_mem hj)
    rw [h32] at e'
    cases e'
  exact ⟨a, m, c, by rw [ho.kept _ _ hbR]; exact hc, hB.offZ ho⟩
theorem ShwV.offZ {R : Nat} {w w' : World} (ho : OffZ R w w') {v : Value} {s : Shw} (h : ShwV w v s) (h1 : Digs s.path) (h2 : Digs s.bookPath) : ShwV w' v s := by
 obtain ⟨ea, ec, pa, pc, ra, rc, ba, bc, ha, hc, g1, g2, g3, g4, g5, g6⟩ := h.form
 exact ⟨ea, ec, pa, pc, ra, rc, ba, bc, ha, hc, g1, g2.offZ ho, ⟨g3.len, g3.at'.offZ ho h1, g3.room, g3.cap, g3.nil, g3.bytes, g3.short⟩, g4.offZ ho, ⟨g5.len, g5.at'.offZ ho h2, g5.room, g5.cap, g5.nil, g5.bytes, g5.short⟩, g6.offZ ho⟩
theorem show_digs (f : Flt) (k i : Int) : Digs (showL f k i).1.path ∧ Digs (showL f k i).1.bookPath := by
 have h0 : Digs shw0.path ∧ Digs shw0.bookPath := ⟨fun _ h => absurd h (by simp [shw0]), fun _ h => absurd h (by simp [shw0])⟩
 unfold showL
 split
 ·exact h0
 split
 ·exact h0
 split
 ·exact h0
 split
 ·exact h0
 split
 ·exact h0
 ·exact ⟨path_digs _ _, path_digs _ _⟩
theorem offZ_13 {w : World} {R : Nat} {t : TypeId} (h : w.heap[R]? = some (.cells #[.slice none 0 0, .int .i64 0, .int .i64 0, .slice none 0 0, .int .i64 0, .int .i64 0, .int .i64 0, .int .i64 0, .slice none 0 0, .int .i64 0, .slice none 0 0, .int .i64 0, .slice none 0 0] t (0, 0))) (u0 u1 u2 u3 u4 u5 u6 u7 u8 u9 u10 u11 u12 : Value) : OffZ R w (((((((((((((w.setCell ⟨R, 0, none⟩ u0).setCell ⟨R, 1, none⟩ u1).setCell ⟨R, 2, none⟩ u2).setCell ⟨R, 3, none⟩ u3).setCell ⟨R, 4, none⟩ u4).setCell ⟨R, 5, none⟩ u5).setCell ⟨R, 6, none⟩ u6).setCell ⟨R, 7, none⟩ u7).setCell ⟨R, 8, none⟩ u8).setCell ⟨R, 9, none⟩ u9).setCell ⟨R, 10, none⟩ u10).setCell ⟨R, 11, none⟩ u11).setCell ⟨R, 12, none⟩ u12) := by
 refine ⟨fun x v hx => ?_, by simp, fun b x hb => ?_⟩
 ·rw [cell_of_row w R x _ t _ h] at hx
  match x, hx with
  | 0, hx => exact .inr (by simpa using hx.symm)
  | 1, hx => exact .inl ⟨0, by simpa using hx.symm⟩
  | 2, hx => exact .inl ⟨0, by simpa using hx.symm⟩
  | 3, hx => exact .inr (by simpa using hx.symm)
  | 4, hx => exact .inl ⟨0, by simpa using hx.symm⟩
  | 5, hx => exact .inl ⟨0, by simpa using hx.symm⟩
  | 6, hx => exact .inl ⟨0, by simpa using hx.symm⟩
  | 7, hx => exact .inl ⟨0, by simpa using hx.symm⟩
  | 8, hx => exact .inr (by simpa using hx.symm)
  | 9, hx => exact .inl ⟨0, by simpa using hx.symm⟩
  | 10, hx => exact .inr (by simpa using hx.symm)
  | 11, hx => exact .inl ⟨0, by simpa using hx.symm⟩
  | 12, hx => exact .inr (by simpa using hx.symm)
  | x + 13, hx => simp at hx
 ·have hn : R ≠ b := fun e => hb e.symm
  have k0 : (w.setCell ⟨R, 0, none⟩ u0).cell? ⟨b, x, none⟩ = w.cell? ⟨b, x, none⟩ := (World.cell?_setCell_far _ _ _ _ hn)
  generalize w.setCell ⟨R, 0, none⟩ u0 = w0 at *
  have k1 : (w0.setCell ⟨R, 1, none⟩ u1).cell? ⟨b, x, none⟩ = w.cell? ⟨b, x, none⟩ := (World.cell?_setCell_far _ _ _ _ hn).trans k0
  generalize w0.setCell ⟨R, 1, none⟩ u1 = w1 at *
  have k2 : (w1.setCell ⟨R, 2, none⟩ u2).cell? ⟨b, x, none⟩ = w.cell? ⟨b, x, none⟩ := (World.cell?_setCell_far _ _ _ _ hn).trans k1
  generalize w1.setCell ⟨R, 2, none⟩ u2 = w2 at *
  have k3 : (w2.setCell ⟨R, 3, none⟩ u3).cell? ⟨b, x, none⟩ = w.cell? ⟨b, x, none⟩ := (World.cell?_setCell_far _ _ _ _ hn).trans k2
  generalize w2.setCell ⟨R, 3, none⟩ u3 = w3 at *
  have k4 : (w3.setCell ⟨R, 4, none⟩ u4).cell? ⟨b, x, none⟩ = w.cell? ⟨b, x, none⟩ := (World.cell?_setCell_far _ _ _ _ hn).trans k3
  generalize w3.setCell ⟨R, 4, none⟩ u4 = w4 at *
  have k5 : (w4.setCell ⟨R, 5, none⟩ u5).cell? ⟨b, x, none⟩ = w.cell? ⟨b, x, none⟩ := (World.cell?_setCell_far _ _ _ _ hn).trans k4
  generalize w4.setCell ⟨R, 5, none⟩ u5 = w5 at *
  have k6 : (w5.setCell ⟨R, 6, none⟩ u6).cell? ⟨b, x, none⟩ = w.cell? ⟨b, x, none⟩ := (World.cell?_setCell_far _ _ _ _ hn).trans k5
  generalize w5.setCell ⟨R, 6, none⟩ u6 = w6 at *
  have k7 : (w6.setCell ⟨R, 7, none⟩ u7).cell? ⟨b, x, none⟩ = w.cell? ⟨b, x, none⟩ := (World.cell?_setCell_far _ _ _ _ hn).trans k6
  generalize w6.setCell ⟨R, 7, none⟩ u7 = w7 at *
  have k8 : (w7.setCell ⟨R, 8, none⟩ u8).cell? ⟨b, x, none⟩ = w.cell? ⟨b, x, none⟩ := (World.cell?_setCell_far _ _ _ _ hn).trans k7
  generalize w7.setCell ⟨R, 8, none⟩ u8 = w8 at *
  have k9 : (w8.setCell ⟨R, 9, none⟩ u9).cell? ⟨b, x, none⟩ = w.cell? ⟨b, x, none⟩ := (World.cell?_setCell_far _ _ _ _ hn).trans k8
  generalize w8.setCell ⟨R, 9, none⟩ u9 = w9 at *
  have k10 : (w9.setCell ⟨R, 10, none⟩ u10).cell? ⟨b, x, none⟩ = w.cell? ⟨b, x, none⟩ := (World.cell?_setCell_far _ _ _ _ hn).trans k9
  generalize w9.setCell ⟨R, 10, none⟩ u10 = w10 at *
  have k11 : (w10.setCell ⟨R, 11, none⟩ u11).cell? ⟨b, x, none⟩ = w.cell? ⟨b, x, none⟩ := (World.cell?_setCell_far _ _ _ _ hn).trans k10
  generalize w10.setCell ⟨R, 11, none⟩ u11 = w11 at *
  have k12 : (w11.setCell ⟨R, 12, none⟩ u12).cell? ⟨b, x, none⟩ = w.cell? ⟨b, x, none⟩ := (World.cell?_setCell_far _ _ _ _ hn).trans k11
  exact k12

end Go.Proofs.YtkjlchfmplcobaeGreatDoor
