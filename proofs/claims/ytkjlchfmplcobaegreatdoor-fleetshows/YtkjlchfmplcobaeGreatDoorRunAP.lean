/- BookRefRows, ShelfGoSegment, BookGoRec, as one text. -/
import Derived.Test.YtkjlchfmplcobaeGreatDoorRunAG
/- The walk of yearref5.Rows. -/
namespace Go.Proofs.YtkjlchfmplcobaeGreatDoor
open Go.RowKit

theorem refRows_snoc {l : List Rec} {k : Nat} (hk : k < l.length) : (rowsOf l).take (k + 1) = (rowsOf l).take k ++ [rowL (l.getD k rec0)] := by
 have h := rows_length l
 rw [List.take_succ_eq_append_getElem (by omega)]
 congr 2
 have := rows_get hk
 rwa [List.getD_eq_getElem?_getD, List.getElem?_eq_getElem (by omega)] at this
theorem OwnParts.far {w : World} {base k o : Nat} {v : Value} {L : List (List Int)} {c : Array Value} {t : TypeId} (h : OwnParts w base v L) (hk : w.heap[k]? = some (.cells c t (0, 0))) (h1 : t ≠ 5) (h2 : t ≠ 37) (u : Value) : OwnParts (w.setCell ⟨k, o, none⟩ u) base v L := by
 obtain ⟨vs, hr, he⟩ := h
 refine ⟨vs, ownsRow_setCell_other hr (a := ⟨k, o, none⟩) (own_box hr hk h2) u, fun j hj => ?_⟩
 obtain ⟨y, q1, q2⟩ := he j hj
 exact ⟨y, q1, ownsRow_setCell_other q2 (a := ⟨k, o, none⟩) (own_box q2 hk h1) u⟩
set_option maxRecDepth 100000 in
set_option maxHeartbeats 4000000 in
theorem refRows_any (l : List Rec) (a : Option Addr) (n c : Nat) (w : World) (hl : RecsAt w (.slice a n c) l) (hn : l.length = n) :
  Calls Tryz.prog 33 #[.slice a n c] w fun e w' => ∃ xa xn xc, e = .returned (.tuple #[.slice xa xn xc, faultV (wrongRecs l)]) ∧ ((wrongRecs l).1 = 0 → OwnParts w' w.heap.size (.slice xa xn xc) (rowsOf l)) ∧ Below w.heap.size w w' := by
 obtain ⟨i0, hi0, hz0, hz1, hz2⟩ := info_parts Tryz.info37b
 have hcap : n ≤ maxLen := by obtain ⟨a', c', e, h2, h3, -⟩ := hl; cases e; omega
 unfold maxLen at hcap
 have b0 : Below w.heap.size w (w.alloc (.cells #[.int .i64 0, .int .i64 0] 31)) := (Below.refl _ _).alloc (Nat.le_refl _) _
 have x0 := box_new w #[.int .i64 0, .int .i64 0] 31
 by_cases h8 : 8 < n
 ·have HE : Hid (wrongRecs l = (5, 0)) := wrongRecs_many (by omega)
  have h8' : (8 : Int) < n := by omega
  clear hl
  go_enter Tryz.func33, Tryz.ntmps33
  go_wp2_with fail
  exact bodyPost_ret (v := .tuple #[.slice none 0 0, faultV (5, 0)]) (by simp [results, Tryz.results33, go_sem]) rfl ⟨none, 0, 0, by rw [HE.out], by rw [HE.out]; exact fun h => absurd h (by decide), (Below.refl _ _).alloc (Nat.le_refl _) _⟩
 ·have h8' : ¬ (8 : Int) < n := by omega
  have hrl := rows_length l
  have HW1 : ∀ k : Nat, Hid (k < n → (∀ j, j < k → wrongRec (l.getD j rec0) = 0) → wrongRec (l.getD k rec0) ≠ 0 → wrongRecs l = (wrongRec (l.getD k rec0), (k : Int))) := fun k h1 h2 h3 => wrongRecs_at (by omega) (by omega) h2 h3
  have HW2 : Hid ((∀ j, j < n → wrongRec (l.getD j rec0) = 0) → wrongRecs l = (0, 0)) := fun h => wrongRecs_none (by omega) (fun j hj => h j (by omega))
  go_enter Tryz.func33, Tryz.ntmps33
  go_wp2_with fail
  generalize w.alloc (.cells #[.int .i64 0, .int .i64 0] 31) = w0 at *
  go_loopw [4, 14] (fun ov kv wr => ∃ (k : Nat) (va : Option Addr) (vc : Nat) (vs : List Value), k ≤ n ∧ kv = .int .i64 k ∧ ov = .slice va k vc ∧ wr.ownsRow w.heap.size 37 1 (.slice va k vc) k vs ∧ OwnEls wr w.heap.size vs ((rowsOf l).take k) ∧ Hid (∀ j, j < k → wrongRec (l.getD j rec0) = 0) ∧ wr.heap[w.heap.size]? = some (.cells #[.int .i64 0, .int .i64 0] 31 (0, 0)) ∧ Below w.heap.size w wr) (fun _ kv _ => n - (intOf kv).toNat)
  case atStart => exact ⟨0, none, 0, [], Nat.zero_le _, rfl, rfl, World.ownsRow_nil _ _ _ _, fun _ hj => absurd hj (by simp), fun _ hj => absurd hj (Nat.not_lt_zero _), x0, b0⟩
  case round =>
   obtain ⟨wo, rfl⟩ : ∃ x, x = wr := ⟨wr, rfl⟩
   obtain ⟨k, va, vc, vs, hk, rfl, rfl, hrow, hels, HO, xo, hbr⟩ := hrel
   have hsr := hbr.size
   clear x0 b0
   by_cases hlt : k < n
   ·have hlt' : (k : Int) < n := by omega
    have hlo := hl.below hbr
    obtain ⟨a0, c0, e0, hn1, hn2, hn3, hcells⟩ := hlo
    rw [hn] at e0 hn1 hcells
    cases e0
    obtain ⟨g, o, rfl, hg, hcs⟩ := hcells.resolve_left (by omega)
    obtain ⟨d0, d1, d2, d3, qa, qc, d4, hroot⟩ := hcs k hlt
    have HV := HW1 k
    have HS : Hid ((rowsOf l).take (k + 1) = (rowsOf l).take k ++ [rowL (l.getD k rec0)]) := refRows_snoc (by omega)
    have hrl40 := fun h => row_length (r := l.getD k rec0) h
    have HF : Hid (wrongRec (l.getD k rec0) = 0 → ∀ j, j < k + 1 → wrongRec (l.getD j rec0) = 0) := fun h j hj => by
     by_cases e : j = k
     ·rw [e]; exact h
     ·exact HO.out j (by omega)
    clear hcells hcs HW1 HW2
    have hrt : ((rowsOf l).take k).length = k := by rw [List.length_take]; omega
    generalize (rowsOf l).take k = done at *
    generalize l.getD k rec0 = R at *
    have d5 : Below wo.heap.size wo (wo.alloc (.cells #[.int .i64 R.shard, .int .i64 R.from', .int .i64 R.to', .int .i64 R.size, .slice qa R.root.length qc] 45)) := (Below.refl _ _).alloc (Nat.le_refl _) _
    have y5 := box_new wo #[.int .i64 R.shard, .int .i64 R.from', .int .i64 R.to', .int .i64 R.size, .slice qa R.root.length qc] 45
    have hRV : RecV (wo.alloc (.cells #[.int .i64 R.shard, .int .i64 R.from', .int .i64 R.to', .int .i64 R.size, .slice qa R.root.length qc] 45)) (.agg #[.int .i64 R.shard, .int .i64 R.from', .int .i64 R.to', .int .i64 R.size, .slice qa R.root.length qc]) R := ⟨qa, qc, rfl, hroot.below d5⟩
    have cW := refRecWrong_any R _ _ hRV
    obtain ⟨s0, s1, s2, s3, s4⟩ := box_five y5
    have b5 := hbr.trans (d5.mono hsr)
    have hrow5 := own_below hrow d5 (Nat.le_refl _)
    have hels5 := hels.below d5 (Nat.le_refl _)
    have x5 := box_kept xo d5
    clear hrow hels xo hroot
    go_wp2_with fail
    generalize wo.alloc (.cells #[.int .i64 R.shard, .int .i64 R.from', .int .i64 R.to', .int .i64 R.size, .slice qa R.root.length qc] 45) = w5 at *
    refine cW.mono ?_
    rintro e w6 ⟨rfl, hb6⟩
    have b6 := b5.trans (hb6.mono b5.size)
    have hrow6 := own_below hrow5 hb6 (Nat.le_refl _)
    have hels6 := hels5.below hb6 (Nat.le_refl _)
    have x6 := box_kept x5 hb6
    obtain ⟨t0, t1, t2, t3, t4⟩ := box_five (box_kept y5 hb6)
    clear cW s0 s1 s2 s3 s4 y5 d0 d1 d2 d3 d4 hrow5 hels5 x5
    by_cases hw : wrongRec R = 0
    ·have cR := refRow_any R _ w6 (hRV.below hb6) hw
     have h40 := hrl40 hw
     have HF2 := HF.out hw
     have HFh : Hid (∀ j, j < k + 1 → wrongRec (l.getD j rec0) = 0) := HF2
     rw [hw]
     clear HV hw hRV HF HF2 hrl40
     go_wp2_with fail
     refine cR.mono ?_
     rintro e w7 ⟨xa, xc, rfl, hx, hb7⟩
     have b7 := b6.trans (hb7.mono b6.size)
     have hrow7 := own_below hrow6 hb7 (Nat.le_refl _)
     have hels7 := hels6.below hb7 (Nat.le_refl _)
     have x7 := box_kept x6 hb7
     have hvl : vs.length = done.length := by rw [hrt]; simpa using hrow7.1
     have hy : w7.ownsRow w.heap.size 5 1 (.slice xa 40 xc) (rowL R).length ((rowL R).map (Value.int .u8)) := by rw [h40]; exact ownsRow_base hx b6.size
     have hsn := (hels7.snoc hvl hy).alloc (.cells #[.slice xa 40 xc] 37)
     have hrowA := hrow7.alloc (.cells #[.slice xa 40 xc] 37)
     have hnew := cell_one_new w7 (.slice xa 40 xc) 37
     have xA := box_old _ (.cells #[.slice xa 40 xc] 37) x7
     have bA : Below w.heap.size w (w7.alloc (.cells #[.slice xa 40 xc] 37)) := b7.alloc b7.size _
     have hsA := bA.size
     clear cR hx hy hrow6 hels6 hrow7 hels7 x6 x7 t0 t1 t2 t3 t4
     go_wp2_with (at_builtin; refine wpList_append_own _ rfl (.tmp 26) (.tmp 29) 43 rfl w.heap.size 37 i0 _ 1 24 Tryz.underlying43 hi0 hz0 hz1 hz2 rfl (by decide) _ _ _ rfl hrowA _ 1 1 [.slice xa 40 xc] rfl rfl hnew (by intro u hu; simp at hu; subst hu; rfl) (by unfold maxLen; omega) (by omega) hsA ?_; intro v8 w8 ho8 hg8 _; obtain ⟨sa, sc, rfl⟩ := own_form' ho8)
     have b8 : Below w.heap.size w w8 := bA.grown hg8 hsA (fun _ h => own_block hrowA h)
     have hels8 := hsn.kept hrowA hg8
     have x8 := grown_box hg8 hrowA xA (by decide)
     go_roundw
     case rel => exact ⟨k + 1, sa, sc, _, by omega, by go_num, rfl, ho8, by rw [HS.out]; exact hels8, HFh, x8, b8⟩
     case measure => simp [intOf]; omega
    ·have HE : Hid (wrongRecs l = (wrongRec R, (k : Int))) := HV.out hlt HO.out hw
     have hw' : (wrongRec R != 0) = true := by simpa using hw
     have HNE : Hid (wrongRec R ≠ 0) := hw
     generalize wrongRec R = er at *
     obtain ⟨u0, u1, u2, u3⟩ := box_two x6
     clear HV HF hw hrow6 hels6
     go_wp2_with fail
     exact bodyPost_ret (v := .tuple #[.slice none 0 0, faultV (er, (k : Int))]) (by simp [results, Tryz.results33, go_sem, u0, u1]) rfl ⟨none, 0, 0, by rw [HE.out], by rw [HE.out]; exact fun h => absurd h HNE.out, (b6.setCell (Nat.le_refl _) _).setCell (Nat.le_refl _) _⟩
   ·obtain rfl : k = n := by omega
    have hnl : ¬ (k : Int) < k := by omega
    have HE : Hid (wrongRecs l = (0, 0)) := HW2.out HO.out
    rw [List.take_of_length_le (by omega)] at hels
    have hO : OwnParts wo w.heap.size (.slice va k vc) (rowsOf l) := ⟨vs, by rw [hrl, hn]; exact hrow, hels⟩
    obtain ⟨u0, u1, u2, u3⟩ := box_two xo
    have hO2 := (hO.far (o := 0) xo (by decide) (by decide) (.int .i64 0)).far (o := 1) (heap_setCell_same _ _ 0 _ _ (.int .i64 0) xo) (by decide) (by decide) (.int .i64 0)
    clear HW1 HW2 HO hrow hels hl hn hrl
    go_wp2_with fail
    exact bodyPost_ret (v := .tuple #[.slice va k vc, faultV (0, 0)]) (by simp [results, Tryz.results33, go_sem, u0, u1]) rfl ⟨va, k, vc, by rw [HE.out], fun _ => hO2, (hbr.setCell (Nat.le_refl _) _).setCell (Nat.le_refl _) _⟩

end Go.Proofs.YtkjlchfmplcobaeGreatDoor

/- The walks of Segment and Entry: package shelf as it landed. -/
namespace Go.Proofs.YtkjlchfmplcobaeGreatDoor
open Go.RowKit

set_option maxRecDepth 100000 in
set_option maxHeartbeats 4000000 in
theorem segmentC_of (hUn : UnpackRC) : SegmentC := by
 intro m k mv w hM
 obtain ⟨rv, sv, rfl, hr, a, c, rfl, hN1, hN2, hN3, hcell⟩ := hM
 unfold maxLen at hN2
 have x0 := box_new w #[.int .i64 m.size, rv, .slice a m.segs.length c] 63
 have b0 : Below w.heap.size w (w.alloc (.cells #[.int .i64 m.size, rv, .slice a m.segs.length c] 63)) := (Below.refl _ _).alloc (Nat.le_refl _) _
 obtain ⟨u0, u1, u2, -, -, -⟩ := box_three x0
 by_cases hk : k < 0 ∨ (m.segs.length : Int) ≤ k
 ·have HE : Hid (segmentL m k = ([], 6)) := by show _ = _; unfold segmentL; rw [if_pos hk]
  clear hcell hr
  generalize m.segs.length = N at *
  rcases (show k < 0 ∨ (¬ k < 0 ∧ (N : Int) ≤ k) by omega) with hk | ⟨hk1, hk⟩
  all_goals
   go_enter Tryz.func86, Tryz.ntmps86
   go_wp2_with fail
   exact bodyPost_ret (v := .tuple #[.slice none 0 0, .int .i64 6]) (by simp [results, Tryz.results86, go_sem]) rfl ⟨none, 0, 0, by rw [HE.out], by rw [HE.out]; exact laid_nil _, b0⟩
 ·obtain ⟨i, rfl⟩ : ∃ i : Nat, k = (i : Int) := ⟨k.toNat, by omega⟩
  have hi : i < m.segs.length := by omega
  replace hcell := hcell.resolve_left (by omega)
  obtain ⟨b, off, rfl, hb0, hcell⟩ := hcell
  obtain ⟨c0, c1, pa, pc, c2, hp, hp1, hp2⟩ := hcell i hi
  have HE : Hid (segmentL m (i : Int) = if fitB m.size (i : Int) (m.segs.getD i seg0) = false then ([], 7) else readSeg (m.segs.getD i seg0)) := by
   show _ = _
   unfold segmentL
   rw [if_neg hk, Int.toNat_natCast]
  have hj1 : ¬ (i : Int) < 0 := by omega
  have hj2 : (i : Int) < m.segs.length := by omega
  have hj3 : (0 : Int) ≤ (i : Int) := by omega
  clear hcell hk
  generalize m.segs.length = N at *
  generalize m.segs.getD i seg0 = s at *
  obtain ⟨f, ct, pk⟩ := s
  dsimp only at c0 c1 c2 hp hp1
  replace c0 := (old_cell w (.cells #[.int .i64 m.size, rv, .slice (some ⟨b, off, none⟩) N c] 63) b (off + i * 3) hb0).trans c0
  replace c1 := (old_cell w (.cells #[.int .i64 m.size, rv, .slice (some ⟨b, off, none⟩) N c] 63) b (off + i * 3 + 1) hb0).trans c1
  replace c2 := (old_cell w (.cells #[.int .i64 m.size, rv, .slice (some ⟨b, off, none⟩) N c] 63) b (off + i * 3 + 2) hb0).trans c2
  have hp0 := hp.below b0
  generalize m.size = size at *
  have x1 := box_old (w.alloc (.cells #[.int .i64 size, rv, .slice (some ⟨b, off, none⟩) N c] 63)) (.cells #[.int .i64 f, .int .i64 ct, .slice pa pk.length pc] 104) x0
  have y1 := box_new (w.alloc (.cells #[.int .i64 size, rv, .slice (some ⟨b, off, none⟩) N c] 63)) #[.int .i64 f, .int .i64 ct, .slice pa pk.length pc] 104
  have d1 : Below (w.alloc (.cells #[.int .i64 size, rv, .slice (some ⟨b, off, none⟩) N c] 63)).heap.size (w.alloc (.cells #[.int .i64 size, rv, .slice (some ⟨b, off, none⟩) N c] 63)) ((w.alloc (.cells #[.int .i64 size, rv, .slice (some ⟨b, off, none⟩) N c] 63)).alloc (.cells #[.int .i64 f, .int .i64 ct, .slice pa pk.length pc] 104)) := (Below.refl _ _).alloc (Nat.le_refl _) _
  have hp1' := hp0.below d1
  have b1 := b0.trans (d1.mono b0.size)
  have hF := segFits_any f ct i size (.slice pa pk.length pc) pk ((w.alloc (.cells #[.int .i64 size, rv, .slice (some ⟨b, off, none⟩) N c] 63)).alloc (.cells #[.int .i64 f, .int .i64 ct, .slice pa pk.length pc] 104)) hj3
  have e1 : (w.alloc (.cells #[.int .i64 size, rv, .slice (some ⟨b, off, none⟩) N c] 63)).heap.size = w.heap.size + 1 := by simp
  rw [e1] at y1
  obtain ⟨z0, z1, z2, -, -, -⟩ := box_three x1
  obtain ⟨t0, t1, t2, -, -, -⟩ := box_three y1
  clear x0 e1 d1 hp0
  go_enter Tryz.func86, Tryz.ntmps86
  go_wp2_with fail
  generalize (w.alloc (.cells #[.int .i64 size, rv, .slice (some ⟨b, off, none⟩) N c] 63)).alloc (.cells #[.int .i64 f, .int .i64 ct, .slice pa pk.length pc] 104) = w1 at *
  refine hF.mono ?_
  rintro e w2 ⟨rfl, hb2⟩
  have b2 := b1.trans (hb2.mono b1.size)
  obtain ⟨t0', t1', t2', -, -, -⟩ := box_three (box_kept y1 hb2)
  have hp2' := hp1'.below hb2
  have y2 := box_kept y1 hb2
  clear hF c0 c1 c2 u0 u1 u2 z0 z1 z2 t0 t1 t2 x1 y1
  cases hfit : fitB size (i : Int) ⟨f, ct, pk⟩ with
  | false =>
   have HE2 : Hid (segmentL m (i : Int) = ([], 7)) := by show _ = _; rw [HE.out, if_pos hfit]
   clear HE hfit
   go_wp2_with fail
   exact bodyPost_ret (v := .tuple #[.slice none 0 0, .int .i64 7]) (by simp [results, Tryz.results86, go_sem]) rfl ⟨none, 0, 0, by rw [HE2.out], by rw [HE2.out]; exact laid_nil _, b2⟩
  | true =>
   have hft := fitB_iff.1 hfit
   dsimp only at hft
   have HE2 : Hid (segmentL m (i : Int) = readSeg ⟨f, ct, pk⟩) := by show _ = _; rw [HE.out, if_neg (by rw [hfit]; decide)]
   obtain ⟨cnt, rfl⟩ : ∃ cnt : Nat, ct = (cnt : Int) := ⟨ct.toNat, by omega⟩
   have hc8 : cnt ≤ 8 := by omega
   have hU := hUn pk _ w2 hp2' ⟨_, _, rfl, hp1, hp2⟩
   have hub := unpack_bytes hp2'.bytes
   have hul := unpack_len pk
   have HR : Hid (readSeg ⟨f, (cnt : Int), pk⟩ = if (unpackL pk).2 ≠ 0 then ([], (unpackL pk).2) else match takeL cnt (unpackL pk).1 with | none => ([], 2) | some l => (l, 0)) := by show _ = _; unfold readSeg; dsimp only; rw [Int.toNat_natCast]; rfl
   clear HE hfit hft
   generalize unpackL pk = U at *
   obtain ⟨T, ue⟩ := U
   dsimp only at hU hub hul HR
   go_wp2_with fail
   refine hU.mono ?_
   rintro e w3 ⟨tv, rfl, hT, hb3⟩
   have b3 := b2.trans (hb3.mono b2.size)
   obtain ⟨t0'', t1'', t2'', -, -, -⟩ := box_three (box_kept y2 hb3)
   clear hU t0' t1' t2' y2
   by_cases hue : ue = 0
   ·subst hue
    have hRd := readEntries_any T hub hul cnt hc8 tv w3 hT
    have HR2 : Hid (segmentL m (i : Int) = match takeL cnt T with | none => ([], 2) | some l => (l, 0)) := by show _ = _; rw [HE2.out, HR.out, if_neg (fun h => h rfl)]
    obtain ⟨ta, tc, rfl⟩ := hT.1.form
    clear HE2 HR hub hT
    go_wp2_with fail
    refine hRd.mono ?_
    rintro e w4 ⟨v, rfl, hok, hb4⟩
    have b4 := b3.trans (hb4.mono b3.size)
    clear hRd
    cases htk : takeL cnt T with
    | none =>
     rw [htk] at hok HR2
     have HR3 : Hid (segmentL m (i : Int) = ([], 2)) := HR2.out
     clear HR2 htk hok
     dsimp only [Option.isSome]
     go_wp2_with fail
     exact bodyPost_ret (v := .tuple #[.slice none 0 0, .int .i64 2]) (by simp [results, Tryz.results86, go_sem]) rfl ⟨none, 0, 0, by rw [HR3.out], by rw [HR3.out]; exact laid_nil _, b4⟩
    | some l =>
     rw [htk] at hok HR2
     have HR3 : Hid (segmentL m (i : Int) = (l, 0)) := HR2.out
     obtain ⟨xa, xn, xc, rfl, hl⟩ := hok l rfl
     clear HR2 htk hok
     dsimp only [Option.isSome]
     go_wp2_with fail
     exact bodyPost_ret (v := .tuple #[.slice xa xn xc, .int .i64 0]) (by simp [results, Tryz.results86, go_sem]) rfl ⟨xa, xn, xc, by rw [HR3.out], by rw [HR3.out]; exact hl, b4⟩
   ·have hue' : (ue != 0) = true := by simpa using hue
    have HR2 : Hid (segmentL m (i : Int) = ([], ue)) := by show _ = _; rw [HE2.out, HR.out, if_pos hue]
    clear HE2 HR hub hT hue
    go_wp2_with fail
    exact bodyPost_ret (v := .tuple #[.slice none 0 0, .int .i64 ue]) (by simp [results, Tryz.results86, go_sem]) rfl ⟨none, 0, 0, by rw [HR2.out], by rw [HR2.out]; exact laid_nil _, b3⟩

end Go.Proofs.YtkjlchfmplcobaeGreatDoor

/- The walks of inRange, Wrong, putTime and timeOf: package book as it landed. -/
namespace Go.Proofs.YtkjlchfmplcobaeGreatDoor
open Go.RowKit

/-- Whether each number of a record is one that it may have. -/
def inR (r : Rec) : Bool := decide (¬ (r.shard < 0 ∨ 7 < r.shard ∨ r.from' < 0 ∨ r.to' ≤ r.from' ∨ 1000000 < r.to' ∨ r.size < 0 ∨ 100 < r.size))
set_option maxRecDepth 100000 in
set_option maxHeartbeats 2000000 in
theorem inRange_any (r : Rec) (v : Value) (w : World) (h : RecV w v r) :
  Calls Tryz.prog 97 #[v] w fun e w' => e = .returned (.bool (inR r)) ∧ Below w.heap.size w w' := by
 obtain ⟨ra, rc, rfl, hr⟩ := h
 obtain ⟨s, f, t, z, root⟩ := r
 dsimp only at hr ⊢
 have b0 : Below w.heap.size w (w.alloc (.cells #[.int .i64 s, .int .i64 f, .int .i64 t, .int .i64 z, .slice ra root.length rc] 45)) := (Below.refl _ _).alloc (Nat.le_refl _) _
 obtain ⟨x0, x1, x2, x3, x4⟩ := box_five (box_new w #[.int .i64 s, .int .i64 f, .int .i64 t, .int .i64 z, .slice ra root.length rc] 45)
 by_cases hw : s < 0 ∨ 7 < s ∨ f < 0 ∨ t ≤ f ∨ 1000000 < t ∨ z < 0 ∨ 100 < z
 ·have HE : Hid (inR ⟨s, f, t, z, root⟩ = false) := by show _ = _; unfold inR; exact decide_eq_false (fun h => h hw)
  have hc : ¬ 0 ≤ s ∨ (0 ≤ s ∧ ¬ s < 8) ∨ (0 ≤ s ∧ s < 8 ∧ ¬ 0 ≤ f) ∨ (0 ≤ s ∧ s < 8 ∧ 0 ≤ f ∧ ¬ f < t) ∨ (0 ≤ s ∧ s < 8 ∧ 0 ≤ f ∧ f < t ∧ ¬ t ≤ 1000000) ∨ (0 ≤ s ∧ s < 8 ∧ 0 ≤ f ∧ f < t ∧ t ≤ 1000000 ∧ ¬ 0 ≤ z) ∨ (0 ≤ s ∧ s < 8 ∧ 0 ≤ f ∧ f < t ∧ t ≤ 1000000 ∧ 0 ≤ z ∧ ¬ z ≤ 100) := by omega
  clear hw hr
  generalize root.length = n at *
  rcases hc with q1 | ⟨q1, q2⟩ | ⟨q1, q2, q3⟩ | ⟨q1, q2, q3, q4⟩ | ⟨q1, q2, q3, q4, q5⟩ | ⟨q1, q2, q3, q4, q5, q6⟩ | ⟨q1, q2, q3, q4, q5, q6, q7⟩
  all_goals
   go_enter Tryz.func97, Tryz.ntmps97
   go_wp2_with fail
   go_ret
   exact ⟨by rw [HE.out]; rfl, b0⟩
 ·have HE : Hid (inR ⟨s, f, t, z, root⟩ = true) := by show _ = _; unfold inR; exact decide_eq_true hw
  have q1 : 0 ≤ s := by omega
  have q2 : s < 8 := by omega
  have q3 : 0 ≤ f := by omega
  have q4 : f < t := by omega
  have q5 : t ≤ 1000000 := by omega
  have q6 : 0 ≤ z := by omega
  have q7 : z ≤ 100 := by omega
  clear hw hr
  generalize root.length = n at *
  go_enter Tryz.func97, Tryz.ntmps97
  go_wp2_with fail
  go_ret
  exact ⟨by rw [HE.out]; rfl, b0⟩
theorem wrong_inR (r : Rec) : wrongRec r = if inR r = true then (if r.root.length ≠ 32 then 2 else 0) else 3 := by
 unfold wrongRec inR
 by_cases h : r.shard < 0 ∨ 7 < r.shard ∨ r.from' < 0 ∨ r.to' ≤ r.from' ∨ 1000000 < r.to' ∨ r.size < 0 ∨ 100 < r.size
 ·rw [if_pos h, decide_eq_false (fun g => g h), if_neg (by decide)]
 ·rw [if_neg h, decide_eq_true h, if_pos rfl]
set_option maxRecDepth 100000 in
set_option maxHeartbeats 2000000 in
theorem recWrongC_holds : RecWrongC := fun r v w h => by
 have cI := fun w' (hb : Below w.heap.size w w') => inRange_any r v w' (h.below hb)
 have HW : Hid (wrongRec r = if inR r = true then (if r.root.length ≠ 32 then 2 else 0) else 3) := wrong_inR r
 obtain ⟨ra, rc, rfl, hr⟩ := h
 have hsh := hr.short
 unfold maxLen at hsh
 have b0 : Below w.heap.size w (w.alloc (.cells #[.int .i64 r.shard, .int .i64 r.from', .int .i64 r.to', .int .i64 r.size, .slice ra r.root.length rc] 45)) := (Below.refl _ _).alloc (Nat.le_refl _) _
 have x0 := box_new w #[.int .i64 r.shard, .int .i64 r.from', .int .i64 r.to', .int .i64 r.size, .slice ra r.root.length rc] 45
 have cI0 := cI _ b0
 clear cI hr
 generalize wrongRec r = er at *
 generalize inR r = ok at *
 generalize r.root.length = n at *
 generalize r.shard = s at *
 generalize r.from' = f at *
 generalize r.to' = t at *
 generalize r.size = z at *
 obtain ⟨s0, s1, s2, s3, s4⟩ := box_five x0
 go_enter Tryz.func65, Tryz.ntmps65
 go_wp2_with fail
 generalize w.alloc (.cells #[.int .i64 s, .int .i64 f, .int .i64 t, .int .i64 z, .slice ra n rc] 45) = w0 at *
 refine cI0.mono ?_
 rintro e w1 ⟨rfl, hb1⟩
 have b1 := b0.trans (hb1.mono b0.size)
 obtain ⟨u0, u1, u2, u3, u4⟩ := box_five (box_kept x0 hb1)
 clear s0 s1 s2 s3 s4 cI0
 cases ok
 ·go_wp2_with fail
  go_ret
  exact ⟨by rw [HW.out]; rfl, b1⟩
 ·by_cases h32 : n = 32
  ·subst h32
   go_wp2_with fail
   go_ret
   exact ⟨by rw [HW.out]; rfl, b1⟩
  ·have h32' : ((n : Int) != 32) = true := by simp; omega
   have HN : Hid (n ≠ 32) := h32
   clear h32
   go_wp2_with fail
   go_ret
   exact ⟨by rw [HW.out, if_pos trivial, if_pos HN.out]; rfl, b1⟩
/-- A row with three bytes written. -/
def putL (xs : List Value) (o : Nat) (t : Int) (k : Nat) : List Value :=
 match k with
 | 0 => xs
 | 1 => xs.set (o + 2) (.int .u8 (t % 256))
 | 2 => (xs.set (o + 2) (.int .u8 (t % 256))).set (o + 1) (.int .u8 (t / 256 % 256))
 | _ => ((xs.set (o + 2) (.int .u8 (t % 256))).set (o + 1) (.int .u8 (t / 256 % 256))).set o (.int .u8 (t / 65536))
/-- Where putTime stands. -/
def PutAt (xs : List Value) (o : Nat) (t : Int) (iv tv : Value) (ys : List Value) : Prop :=
 (iv = .int .i64 2 ∧ tv = .int .i64 t ∧ ys = putL xs o t 0) ∨ (iv = .int .i64 1 ∧ tv = .int .i64 (t / 256) ∧ ys = putL xs o t 1) ∨ (iv = .int .i64 0 ∧ tv = .int .i64 (t / 65536) ∧ ys = putL xs o t 2) ∨ (iv = .int .i64 (-1) ∧ tv = .int .i64 (t / 16777216) ∧ ys = putL xs o t 3)
set_option maxRecDepth 100000 in
set_option maxHeartbeats 2000000 in
theorem putTime_any (base g o n c0 c : Nat) (t : Int) (xs : List Value) (w : World) (ho : o + 3 ≤ n) (ht0 : 0 ≤ t) (ht : t < 16777216) (hrow : w.ownsRow base 5 1 (.slice (some ⟨g, 0, none⟩) n c0) n xs) :
  Calls Tryz.prog 66 #[.slice (some ⟨g, o, none⟩) 3 c, .int .i64 t] w fun e w' => e = .returned (.tuple #[]) ∧ w'.ownsRow base 5 1 (.slice (some ⟨g, 0, none⟩) n c0) n (putL xs o t 3) ∧ w.grownBy w' (some g) := by
 go_enter Tryz.func66, Tryz.ntmps66
 go_wp2_with fail
 go_loopw [4, 1] (fun iv tv wr => ∃ ys, PutAt xs o t iv tv ys ∧ wr.ownsRow base 5 1 (.slice (some ⟨g, 0, none⟩) n c0) n ys ∧ w.grownBy wr (some g)) (fun iv _ _ => (intOf iv + 1).toNat)
 case atStart => exact ⟨xs, .inl ⟨rfl, rfl, rfl⟩, hrow, World.grownBy.refl _ _⟩
 case round =>
  obtain ⟨ys, hP, hr, hg⟩ := hrel
  clear hrow
  have f0 := hr.frozenAt (o + 2)
  have f1 := hr.frozenAt (o + 1)
  have f2 := hr.frozenAt o
  have hl : ys.length = n := by simpa using hr.1
  obtain ⟨v0, k0⟩ : ∃ v, wr.cell? ⟨g, o + 2, none⟩ = some v := ⟨_, (hr.cellAt (o + 2) (by omega)).trans (List.getElem?_eq_getElem (by omega))⟩
  obtain ⟨v1, k1⟩ : ∃ v, wr.cell? ⟨g, o + 1, none⟩ = some v := ⟨_, (hr.cellAt (o + 1) (by omega)).trans (List.getElem?_eq_getElem (by omega))⟩
  obtain ⟨v2, k2⟩ : ∃ v, wr.cell? ⟨g, o, none⟩ = some v := ⟨_, (hr.cellAt o (by omega)).trans (List.getElem?_eq_getElem (by omega))⟩
  clear hl
  rcases hP with ⟨rfl, rfl, HY⟩ | ⟨rfl, rfl, HY⟩ | ⟨rfl, rfl, HY⟩ | ⟨rfl, rfl, HY⟩
  ·have hs := hr.stored (o + 2) (.int .u8 (t % 256))
   have hg2 := hg.trans hs.2
   have hs1 := hs.1
   have HH : Hid (ys.set (o + 2) (.int .u8 (t % 256)) = putL xs o t 1) := by show _ = _; rw [HY]; rfl
   have HYh : Hid (ys = putL xs o t 0) := HY
   clear HY hs
   go_wp2_with fail
   go_roundw
   case rel => exact ⟨_, .inr (.inl ⟨rfl, rfl, HH.out⟩), hs1, hg2⟩
   case measure => simp [intOf]
  ·have hs := hr.stored (o + 1) (.int .u8 ((t / 256) % 256))
   have hg2 := hg.trans hs.2
   have hs1 := hs.1
   have HH : Hid (ys.set (o + 1) (.int .u8 ((t / 256) % 256)) = putL xs o t 2) := by show _ = _; rw [HY]; rfl
   have HYh : Hid (ys = putL xs o t 1) := HY
   clear HY hs
   go_wp2_with fail
   go_roundw
   case rel => exact ⟨_, .inr (.inr (.inl ⟨rfl, by congr 1; omega, HH.out⟩)), hs1, hg2⟩
   case measure => simp [intOf]
  ·have hs := hr.stored (o) (.int .u8 (t / 65536))
   have hg2 := hg.trans hs.2
   have hs1 := hs.1
   have HH : Hid (ys.set (o) (.int .u8 (t / 65536)) = putL xs o t 3) := by show _ = _; rw [HY]; rfl
   have HYh : Hid (ys = putL xs o t 2) := HY
   clear HY hs
   go_wp2_with fail
   go_roundw
   case rel => exact ⟨_, .inr (.inr (.inr ⟨rfl, by congr 1; omega, HH.out⟩)), hs1, hg2⟩
   case measure => simp [intOf]
  ·go_wp2_with fail
   go_end0
   exact ⟨rfl, by rw [← HY]; exact hr, hg⟩

end Go.Proofs.YtkjlchfmplcobaeGreatDoor
