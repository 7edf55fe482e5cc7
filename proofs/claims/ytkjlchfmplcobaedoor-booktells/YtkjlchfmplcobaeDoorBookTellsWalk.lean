/- The walk of the law BookTells, over the faces of package book and the document's own answer. -/
import Derived.Test.YtkjlchfmplcobaeDoorProg
import Derived.Test.YtkjlchfmplcobaeDoorRunAD
import Derived.Test.YtkjlchfmplcobaeDoorRunAE
import Derived.Test.YtkjlchfmplcobaeDoorTreeRefPath
import Derived.Test.YtkjlchfmplcobaeDoorTreeRefProof
import Derived.WalkKit
import Derived.WalkSpells
import Derived.WalkLawsBesides
import Derived.Deep.RegionHeld3
import Derived.BigRegion
import Derived.Deep.DeepCutAuto
namespace Go.Proofs.YtkjlchfmplcobaeDoor
open Go.RowKit

set_option maxRecDepth 100000 in
set_option maxHeartbeats 8000000 in
theorem bookTells_any (hWr : RecWrongC) (hBy : RecBytesC) (hPa : RecParseC) (hHe : BookHeadC) (hBP : BookPathC) (hBG : BookGrowsC)
    (r : Rec) (b : List Int) (l : List Rec) (row m : Int) (rv : Value) (ba : Option Addr) (bc : Nat) (la : Option Addr) (ln lc : Nat) (w : World)
    (hR : Ready w) (hr : RecV w rv r) (hb : Some' w (.slice ba b.length bc) b) (hb1 : b.length ≤ bc) (hb2 : bc ≤ maxLen) (hl : RecsAt w (.slice la ln lc) l) (hn : l.length = ln) :
    Calls Tryd.prog 4 #[rv, .slice ba b.length bc, .slice la ln lc, .int .i64 row, .int .i64 m] w fun e w' => e = .returned (.bool true) ∧ Below w.heap.size w w' := by
  have cB := fun w' (h : Below w.heap.size w w') => hBy r rv w' (hr.below h)
  have cRow := fun w' (h : Below w.heap.size w w') (hw : wrongRec r = 0) => refRow_any r rv w' (hr.below h) hw
  have cP := fun w' (h : Below w.heap.size w w') => hPa b ba bc w' (hb.below h) hb1 hb2
  have rP := fun w' (h : Below w.heap.size w w') => refParse_any b ba bc w' (hb.below h) hb1 hb2
  have rR := fun w' (h : Below w.heap.size w w') => refRows_any l la ln lc w' (hl.below h) hn
  have cH := fun w' (h : Below w.heap.size w w') => hHe l _ w' (hR.below h) (hl.below h)
  have cY := fun w' (h : Below w.heap.size w w') => hBP l row _ w' (hR.below h) (hl.below h)
  have cG := fun w' (h : Below w.heap.size w w') => hBG l m _ w' (hR.below h) (hl.below h)
  have hlb := hl.bytes
  have hrb : Bytes r.root := by obtain ⟨_, _, -, h⟩ := hr; exact h.bytes
  have HE1 : Hid (wrongRec r = 0 → bytesE r = rowL r ∧ (rowL r).length = 40 ∧ Bytes (rowL r)) := fun h => ⟨by unfold bytesE; rw [if_neg (fun e => e h)], row_length h, row_bytes h hrb⟩
  have HE2 : Hid (wrongRec r ≠ 0 → bytesE r = []) := fun h => by unfold bytesE; rw [if_pos h]
  have cW1 := fun w' (h : Below w.heap.size w w') => hWr r rv w' (hr.below h)
  have cW2 := fun w' (h : Below w.heap.size w w') => refRecWrong_any r rv w' (hr.below h)
  obtain ⟨ra, rc, rfl, hr0⟩ := hr
  have x0 := box_new w #[.int .i64 r.shard, .int .i64 r.from', .int .i64 r.to', .int .i64 r.size, .slice ra r.root.length rc] 40
  have b0 : Below w.heap.size w (w.alloc (.cells #[.int .i64 r.shard, .int .i64 r.from', .int .i64 r.to', .int .i64 r.size, .slice ra r.root.length rc] 40)) := (Below.refl _ _).alloc (Nat.le_refl _) _
  obtain ⟨s0, s1, s2, s3, s4⟩ := box_five x0
  clear hr0
  generalize r.root.length = rn at *
  generalize r.shard = rs at *
  generalize r.from' = rf at *
  generalize r.to' = rt at *
  generalize r.size = rz at *
  generalize wrongRec r = er at *
  go_enter Tryd.func4, Tryd.ntmps4
  go_wp2_with fail
  generalize w.alloc (.cells #[.int .i64 rs, .int .i64 rf, .int .i64 rt, .int .i64 rz, .slice ra rn rc] 40) = w0 at *
  have kr : w.heap.size < w0.heap.size := lt_heap x0
  have hW1 : ∀ w', (Below w0.heap.size w0 w' ∧ ∀ b o, b < w0.heap.size → w'.cell? ⟨b, o, none⟩ = w0.cell? ⟨b, o, none⟩) → _ := fun w' h => cW1 w' (b0.trans (h.1.mono b0.size))
  have hW2 : ∀ w', (Below w0.heap.size w0 w' ∧ ∀ b o, b < w0.heap.size → w'.cell? ⟨b, o, none⟩ = w0.cell? ⟨b, o, none⟩) → _ := fun w' h => cW2 w' (b0.trans (h.1.mono b0.size))
  have z0 : (er != er) = false := by simp
  go_region_held3 (fun w' => Below w0.heap.size w0 w' ∧ ∀ b o, b < w0.heap.size → w'.cell? ⟨b, o, none⟩ = w0.cell? ⟨b, o, none⟩) (first | (with_reducible assumption) | (with_reducible exact hK) | (with_reducible exact keptB_drew w0)) (first | (go_at_call 11; refine (hW1 _ (by assumption)).mono ?_; rintro e w1 ⟨rfl, hb1'⟩; have hK := keptB_below (w0 := w0) (by assumption) hb1') | (go_at_call 12; refine (hW2 _ (by assumption)).mono ?_; rintro e w2 ⟨rfl, hb2'⟩; have hK := keptB_below (w0 := w0) (by assumption) hb2'))
  have b2 := b0.trans (hK.1.mono b0.size)
  have x2 := box_below x0 hK.1 kr
  clear hK hb1' hb2' z0 hW1 hW2 cW1 s0 s1 s2 s3 s4 x0 b0 kr
  obtain ⟨s0, s1, s2, s3, s4⟩ := box_five x2
  go_wp2_with fail
  refine (cB _ b2).mono ?_
  rintro e w3 ⟨xa, xn, xc, rfl, hx, hb3⟩
  have b3 := b2.trans (hb3.mono b2.size)
  have x3 := box_kept x2 hb3
  clear s0 s1 s2 s3 s4 x2 cB
  obtain ⟨s0, s1, s2, s3, s4⟩ := box_five x3
  go_upto_region 4 with fail
  go_cut [57] (fun s57 wx => s57 = .bool false ∧ Below w.heap.size w wx)
  case first =>
    have cW := cW2 _ b3
    have z1 : (er != er) = false := by simp
    by_cases hw : er = 0
    · obtain ⟨hE, h40, hby⟩ := HE1.out hw
      rw [hE] at hx
      obtain rfl : xn = 40 := by have := hx.1; rw [List.length_map, h40] at this; omega
      have cR := fun w' h => cRow w' h hw
      subst hw
      clear HE1 HE2 hE cRow
      go_wp2_with fail
      refine cW.mono ?_
      rintro e w4 ⟨rfl, hb4⟩
      have b4 := b3.trans (hb4.mono b3.size)
      have x4 := box_kept x3 hb4
      have hx4 := (bytesAt_own hx).below (Nat.le_refl _) hb4
      clear s0 s1 s2 s3 s4 cW x3
      obtain ⟨s0, s1, s2, s3, s4⟩ := box_five x4
      go_wp2_with fail
      refine (cR _ b4).mono ?_
      rintro e w5 ⟨ya, yc, rfl, hy, hb5⟩
      have b5 := b4.trans (hb5.mono b4.size)
      have sE := same_any (rowL r) (rowL r) _ _ w5 (hx4.below (Nat.le_refl _) hb5) (bytesAt_own hy) (by rw [h40]; unfold maxLen; omega)
      rw [decide_eq_true rfl] at sE
      clear s0 s1 s2 s3 s4 x4 cR
      go_wp2_with fail
      refine sE.mono ?_
      rintro e w6 ⟨rfl, q6, rfl⟩
      have b6 := below_drewN' b5 q6
      clear sE
      go_wp2_with fail
      go_meet
      case rel => exact ⟨rfl, b6⟩
    · have hE := HE2.out hw
      rw [hE] at hx
      obtain rfl : xn = 0 := by have := hx.1; simp at this; omega
      have hw1 : (er == 0) = false := by simpa using hw
      have hw2 : (er != 0) = true := by simpa using hw
      clear HE1 HE2 hE cRow hw
      go_wp2_with fail
      refine cW.mono ?_
      rintro e w4 ⟨rfl, hb4⟩
      have b4 := b3.trans (hb4.mono b3.size)
      go_wp2_with fail
      go_meet
      case rel => exact ⟨rfl, b4⟩
  case rest =>
    obtain ⟨rfl, hcut⟩ := hcut
    clear HE1 HE2 cRow cW2 hx hb3 b2 b3 x3 s0 s1 s2 s3 s4
    have HB1 : Hid ((wrongRecs l).1 ≠ 0 → bookSize l = 0 ∧ bookRoot l = [] ∧ bookPathF l row = wrongRecs l ∧ bookGrowF l m = wrongRecs l) := fun h => ⟨by unfold bookSize; rw [if_pos h], by unfold bookRoot; rw [if_pos h], if_pos h, if_pos h⟩
    have HB2 : Hid ((wrongRecs l).1 = 0 → (wrongRecs l).2 = 0 ∧ bookSize l = (ln : Int) ∧ bookRoot l = mth (rowsOf l)) := fun h => ⟨by rw [wrongRecs_whole h], by unfold bookSize; rw [if_neg (fun g => g h), hn], by unfold bookRoot; rw [if_neg (fun g => g h)]⟩
    have HY1 : Hid ((wrongRecs l).1 = 0 → (row < 0 ∨ (ln : Int) ≤ row) → bookPathF l row = (6, 0)) := fun h h2 => by unfold bookPathF pathF; rw [if_neg (fun g => g h), rows_wrong h, if_neg (fun g => g rfl), rows_length, hn, if_pos h2]
    have HY2 : Hid ((wrongRecs l).1 = 0 → ¬ (row < 0 ∨ (ln : Int) ≤ row) → bookPathF l row = (0, 0)) := fun h h2 => by unfold bookPathF pathF; rw [if_neg (fun g => g h), rows_wrong h, if_neg (fun g => g rfl), rows_length, hn, if_neg h2]
    have HG1 : Hid ((wrongRecs l).1 = 0 → (m < 1 ∨ (ln : Int) < m) → bookGrowF l m = (3, 0)) := fun h h2 => by unfold bookGrowF growF; rw [if_neg (fun g => g h), rows_wrong h, if_neg (fun g => g rfl), rows_length, hn, if_pos h2]
    have HG2 : Hid ((wrongRecs l).1 = 0 → ¬ (m < 1 ∨ (ln : Int) < m) → bookGrowF l m = (0, 0)) := fun h h2 => by unfold bookGrowF growF; rw [if_neg (fun g => g h), rows_wrong h, if_neg (fun g => g rfl), rows_length, hn, if_neg h2]
    have HLS : Hid ((wrongRecs l).1 = 0 → ln ≤ 8 ∧ (rowsOf l).length = ln ∧ (∀ j, Bytes ((rowsOf l).getD j [])) ∧ (∀ j, ((rowsOf l).getD j []).length ≤ 1000000)) := fun h => ⟨by have := (wrongRecs_ok h).1; omega, by rw [rows_length, hn], rows_bytes h hlb, fun j => by have := rows_short h j; omega⟩
    clear hlb hrb hl hn hb hb1 hb2 hWr hBy hPa hHe hBP hBG hR
    generalize parseL b = Q at *
    generalize wrongRecs l = F at *
    generalize bookPathF l row = PF at *
    generalize bookGrowF l m = GF at *
    generalize bookSize l = bs at *
    generalize bookRoot l = br at *
    generalize rowsOf l = RL at *
    obtain ⟨q, qe⟩ := Q
    obtain ⟨F1, F2⟩ := F
    obtain ⟨PF1, PF2⟩ := PF
    obtain ⟨GF1, GF2⟩ := GF
    dsimp only [faultV] at cP rP rR cH cY cG HB1 HB2 HY1 HY2 HG1 HG2 HLS
    go_wp2_with fail
    refine (cP _ hcut).mono ?_
    rintro e w4 ⟨v4, rfl, ⟨pa, pc, rfl, hp⟩, hb4⟩
    have b4 := hcut.trans (hb4.mono hcut.size)
    have d5 : Below w4.heap.size w4 (w4.alloc (.cells #[.int .i64 q.shard, .int .i64 q.from', .int .i64 q.to', .int .i64 q.size, .slice pa q.root.length pc] 40)) := (Below.refl _ _).alloc (Nat.le_refl _) _
    have b5 := b4.trans (d5.mono b4.size)
    have p5 := box_new w4 #[.int .i64 q.shard, .int .i64 q.from', .int .i64 q.to', .int .i64 q.size, .slice pa q.root.length pc] 40
    have hp5 := hp.below d5
    clear cP hp hb4 d5 b4
    go_wp2_with fail
    generalize w4.alloc (.cells #[.int .i64 q.shard, .int .i64 q.from', .int .i64 q.to', .int .i64 q.size, .slice pa q.root.length pc] 40) = w5 at *
    refine (rP _ b5).mono ?_
    rintro e w6 ⟨v6, rfl, ⟨qa, qc, rfl, hq⟩, hb6⟩
    have d7 : Below w6.heap.size w6 (w6.alloc (.cells #[.int .i64 q.shard, .int .i64 q.from', .int .i64 q.to', .int .i64 q.size, .slice qa q.root.length qc] 40)) := (Below.refl _ _).alloc (Nat.le_refl _) _
    have d57 := hb6.trans (d7.mono hb6.size)
    have b7 := b5.trans (d57.mono b5.size)
    have sR := sameRec_yes q _ _ (w6.alloc (.cells #[.int .i64 q.shard, .int .i64 q.from', .int .i64 q.to', .int .i64 q.size, .slice qa q.root.length qc] 40)) ⟨pa, pc, rfl, hp5.below d57⟩ ⟨qa, qc, rfl, hq.below d7⟩
    obtain ⟨s0, s1, s2, s3, s4⟩ := box_five (box_kept p5 d57)
    obtain ⟨t0, t1, t2, t3, t4⟩ := box_five (box_new w6 #[.int .i64 q.shard, .int .i64 q.from', .int .i64 q.to', .int .i64 q.size, .slice qa q.root.length qc] 40)
    have z1 : (qe != qe) = false := by simp
    clear rP hp5 hq hb6 d7 d57 b5 p5
    go_wp2_with fail
    generalize w6.alloc (.cells #[.int .i64 q.shard, .int .i64 q.from', .int .i64 q.to', .int .i64 q.size, .slice qa q.root.length qc] 40) = w7 at *
    refine sR.mono ?_
    rintro e w8 ⟨rfl, hb8⟩
    have b8 := b7.trans (hb8.mono b7.size)
    clear sR hb8 b7 s0 s1 s2 s3 s4 t0 t1 t2 t3 t4 z1
    go_wp2_with fail
    refine (rR _ b8).mono ?_
    rintro e w9 ⟨oa, on, oc, rfl, hO, hb9⟩
    have b9 := b8.trans (hb9.mono b8.size)
    have d10 : Below w9.heap.size w9 (w9.alloc (.cells #[.int .i64 F1, .int .i64 F2] 32)) := (Below.refl _ _).alloc (Nat.le_refl _) _
    have b10 := b9.trans (d10.mono b9.size)
    have x10 := box_new w9 #[.int .i64 F1, .int .i64 F2] 32
    have hO10 : F1 = 0 → OwnParts (w9.alloc (.cells #[.int .i64 F1, .int .i64 F2] 32)) w8.heap.size (.slice oa on oc) RL := fun h => (hO h).below d10 (Nat.le_refl _)
    clear rR hO hb9 d10 b9 b8
    go_wp2_with fail
    generalize w9.alloc (.cells #[.int .i64 F1, .int .i64 F2] 32) = w10 at *
    refine (cH _ b10).mono ?_
    rintro e w11 ⟨ha, hc, rfl, hh, hb11⟩
    have d12 : Below w11.heap.size w11 ((w11.alloc (.cells #[.int .i64 bs, .slice ha br.length hc] 24)).alloc (.cells #[.int .i64 F1, .int .i64 F2] 32)) := ((Below.refl _ _).alloc (Nat.le_refl _) _).alloc (by simp) _
    have e12 := hb11.trans (d12.mono hb11.size)
    have b12 := b10.trans (e12.mono b10.size)
    have x12 := box_kept x10 e12
    have h12 := box_one w11 #[.int .i64 bs, .slice ha br.length hc] 24 (.cells #[.int .i64 F1, .int .i64 F2] 32)
    have f12 := box_last w11 (.cells #[.int .i64 bs, .slice ha br.length hc] 24) #[.int .i64 F1, .int .i64 F2] 32
    have hO12 : F1 = 0 → OwnParts ((w11.alloc (.cells #[.int .i64 bs, .slice ha br.length hc] 24)).alloc (.cells #[.int .i64 F1, .int .i64 F2] 32)) w8.heap.size (.slice oa on oc) RL := fun h => (hO10 h).below e12 (Nat.le_refl _)
    have hh12 := hh.below d12
    clear cH hO10 hb11 d12 e12 b10 x10 hh
    go_wp2_with fail
    generalize (w11.alloc (.cells #[.int .i64 bs, .slice ha br.length hc] 24)).alloc (.cells #[.int .i64 F1, .int .i64 F2] 32) = w12 at *
    refine (cY _ b12).mono ?_
    rintro e w13 ⟨ya, yn, yc, rfl, hy1, hy2, hb13⟩
    have d14 : Below w13.heap.size w13 (w13.alloc (.cells #[.int .i64 PF1, .int .i64 PF2] 32)) := (Below.refl _ _).alloc (Nat.le_refl _) _
    have e14 := hb13.trans (d14.mono hb13.size)
    have b14 := b12.trans (e14.mono b12.size)
    have x14 := box_kept x12 e14
    have h14 := box_kept h12 e14
    have f14 := box_kept f12 e14
    have g14 := box_new w13 #[.int .i64 PF1, .int .i64 PF2] 32
    have hO14 : F1 = 0 → OwnParts (w13.alloc (.cells #[.int .i64 PF1, .int .i64 PF2] 32)) w8.heap.size (.slice oa on oc) RL := fun h => (hO12 h).below e14 (Nat.le_refl _)
    have hh14 := hh12.below e14
    have hy14 : PF1 = 0 → PartsAt (w13.alloc (.cells #[.int .i64 PF1, .int .i64 PF2] 32)) (.slice ya yn yc) (pathL RL row.toNat) := fun h => ((hy1 h).parts).below (Nat.le_refl _) d14
    clear cY hO12 hb13 d14 e14 b12 x12 h12 f12 hh12 hy1
    go_wp2_with fail
    generalize w13.alloc (.cells #[.int .i64 PF1, .int .i64 PF2] 32) = w14 at *
    refine (cG _ b14).mono ?_
    rintro e w15 ⟨za, zn, zc, rfl, hz1, hz2, hb15⟩
    have d16 : Below w15.heap.size w15 (w15.alloc (.cells #[.int .i64 GF1, .int .i64 GF2] 32)) := (Below.refl _ _).alloc (Nat.le_refl _) _
    have e16 := hb15.trans (d16.mono hb15.size)
    have b16 := b14.trans (e16.mono b14.size)
    have x16 := box_kept x14 e16
    have h16 := box_kept h14 e16
    have f16 := box_kept f14 e16
    have g16 := box_kept g14 e16
    have k16 := box_new w15 #[.int .i64 GF1, .int .i64 GF2] 32
    have hO16 : F1 = 0 → OwnParts (w15.alloc (.cells #[.int .i64 GF1, .int .i64 GF2] 32)) w8.heap.size (.slice oa on oc) RL := fun h => (hO14 h).below e16 (Nat.le_refl _)
    have hh16 := hh14.below e16
    have hy16 : PF1 = 0 → PartsAt (w15.alloc (.cells #[.int .i64 GF1, .int .i64 GF2] 32)) (.slice ya yn yc) (pathL RL row.toNat) := fun h => (hy14 h).below (Nat.le_refl _) e16
    have hz16 : GF1 = 0 → PartsAt (w15.alloc (.cells #[.int .i64 GF1, .int .i64 GF2] 32)) (.slice za zn zc) (proofL RL m.toNat true) := fun h => ((hz1 h).parts).below (Nat.le_refl _) d16
    clear cG hO14 hb15 d16 e16 b14 x14 h14 f14 g14 hh14 hy14 hz1
    obtain ⟨i0, i1, -, -⟩ := box_two x16
    obtain ⟨i2, i3, -, -⟩ := box_two h16
    obtain ⟨i4, i5, -, -⟩ := box_two f16
    obtain ⟨i6, i7, -, -⟩ := box_two g16
    obtain ⟨i8, i9, -, -⟩ := box_two k16
    by_cases hF : F1 ≠ 0
    · obtain ⟨rfl, rfl, hPF, hGF⟩ := HB1.out hF
      obtain ⟨rfl, rfl⟩ : F1 = PF1 ∧ F2 = PF2 := by simp at hPF; exact ⟨hPF.1.symm, hPF.2.symm⟩
      obtain ⟨rfl, rfl⟩ : F1 = GF1 ∧ F2 = GF2 := by simp at hGF; exact ⟨hGF.1.symm, hGF.2.symm⟩
      obtain rfl := hy2 hF
      obtain rfl := hz2 hF
      have hF' : (F1 != 0) = true := by simpa using hF
      have sH := sameHead_yes 0 [] _ _ _ hh16 ⟨bytesAt_nil _, nil_bytes, Nat.zero_le _⟩
      clear HB1 HB2 HY1 HY2 HG1 HG2 HLS hO16 hy16 hz16 hPF hGF hF hy2 hz2
      go_wp2_with fail
      refine sH.mono ?_
      rintro e w17 ⟨rfl, hb17⟩
      go_wp2_with fail
      go_ret
      exact ⟨rfl, b16.trans (hb17.mono b16.size)⟩
    · obtain rfl : F1 = 0 := by simpa using hF
      obtain ⟨rfl, rfl, rfl⟩ := HB2.out rfl
      obtain ⟨h8, hlen, hby, hsh⟩ := HLS.out rfl
      have hO17 := hO16 rfl
      have hml := mth_length RL
      have hmb := bytes_mth RL
      clear HB1 HB2 HLS hO16 hF
      go_wp2_with fail
      generalize w15.alloc (.cells #[.int .i64 GF1, .int .i64 GF2] 32) = W at *
      obtain ⟨oa', oc', eO, ho1, ho2⟩ := hO17.form
      rw [hlen] at eO ho1
      cases eO
      have hLv : ∀ w', Below W.heap.size W w' → Leaves w' oa ln oc RL := fun w' h => ⟨hlen, (hO17.parts).below (Nat.le_refl _) h, ho1, ho2, hby, hsh⟩
      have hM : ∀ w', (Below W.heap.size W w' ∧ ∀ b o, b < W.heap.size → w'.cell? ⟨b, o, none⟩ = W.cell? ⟨b, o, none⟩) → _ := fun w' h => (hLv w' h.1).mth (by omega)
      rw [hml] at hh16 i3 h16
      have hH : ∀ w' ma mc, (Below W.heap.size W w' ∧ ∀ b o, b < W.heap.size → w'.cell? ⟨b, o, none⟩ = W.cell? ⟨b, o, none⟩) → BytesAt w' (.slice ma 32 mc) (mth RL) → _ := fun w' ma mc h hB => sameHead_yes ln (mth RL) (.slice ha 32 hc) (.slice ma 32 mc) w' (hh16.below h.1) ⟨hB, hmb, by rw [hml]; unfold maxLen; omega⟩
      have k0 : w11.heap.size < W.heap.size := lt_heap h16
      have k1 : w11.heap.size + 1 < W.heap.size := lt_heap f16
      go_region_held3 (fun w' => Below W.heap.size W w' ∧ ∀ b o, b < W.heap.size → w'.cell? ⟨b, o, none⟩ = W.cell? ⟨b, o, none⟩) (first | (with_reducible assumption) | (with_reducible exact hK) | (with_reducible exact keptB_drew W)) (first | (go_at_call 23; refine (hM _ (by assumption)).mono ?_; rintro e w17 ⟨ma, mc, rfl, ho17, hb17⟩; have hK := keptB_below (w0 := W) (by assumption) hb17) | (go_at_call 22; refine (hH _ _ _ (by assumption) (bytesAt_own ho17)).mono ?_; rintro e w18 ⟨rfl, hb18⟩; have hK := keptB_below (w0 := W) (by assumption) hb18))
      have dE := hK.1
      have bE := b16.trans (dE.mono b16.size)
      have g18 := box_below g16 dE (lt_heap g16)
      have k18 := box_below k16 dE (lt_heap k16)
      have hy18 : PF1 = 0 → PartsAt w18 (.slice ya yn yc) (pathL RL row.toNat) := fun h => (hy16 h).below (Nat.le_refl _) dE
      have hz18 : GF1 = 0 → PartsAt w18 (.slice za zn zc) (proofL RL m.toNat true) := fun h => (hz16 h).below (Nat.le_refl _) dE
      have hL18 : ∀ w', Below w18.heap.size w18 w' → Leaves w' oa ln oc RL := fun w' h => hLv w' (dE.trans (h.mono dE.size))
      clear hK hM hH hLv hy16 hz16 i0 i1 i2 i3 i4 i5 i6 i7 i8 i9 x16 h16 f16 g16 k16 hh16 hO17 b16 dE hb17 hb18 ho17 k0 k1 ho1 ho2
      go_upto_region 18 with fail
      go_cut [148] (fun s148 wx => s148 = .bool (decide (row < 0 ∨ (ln : Int) ≤ row)) ∧ wx = w18)
      case first =>
        clear hy18 hz18 hL18 g18 k18 HY1 HY2 HG1 HG2 hy2 hz2
        by_cases h1 : row < 0
        · have HD : Hid (decide (row < 0 ∨ (ln : Int) ≤ row) = true) := decide_eq_true (.inl h1)
          go_wp2_with fail
          go_meet
          case rel => exact ⟨by rw [HD.out], rfl⟩
        · by_cases h2 : (ln : Int) ≤ row
          · have HD : Hid (decide (row < 0 ∨ (ln : Int) ≤ row) = true) := decide_eq_true (.inr h2)
            go_wp2_with fail
            go_meet
            case rel => exact ⟨by rw [HD.out], rfl⟩
          · have HD : Hid (decide (row < 0 ∨ (ln : Int) ≤ row) = false) := decide_eq_false (fun h => h.elim h1 h2)
            go_wp2_with fail
            go_meet
            case rel => exact ⟨by rw [HD.out], rfl⟩
      case rest =>
        obtain ⟨rfl, rfl⟩ := hcut
        obtain ⟨wB, rfl⟩ : ∃ x, x = wc := ⟨wc, rfl⟩
        go_upto_if 148 with fail
        go_cut [] (fun wx => Below wB.heap.size wB wx)
        case first =>
          obtain ⟨j0, j1, -, -⟩ := box_two g18
          clear HG1 HG2 hz18 hz2 k18
          by_cases hD : row < 0 ∨ (ln : Int) ≤ row
          · obtain ⟨rfl, rfl⟩ : PF1 = 6 ∧ PF2 = 0 := by simpa using HY1.out trivial hD
            obtain rfl : yn = 0 := hy2 (by simp)
            rw [decide_eq_true hD]
            clear HY1 HY2 hy18 hy2 hD
            go_wp2_with fail
            go_meet
            case rel => exact Below.refl _ _
          · obtain ⟨rfl, rfl⟩ : PF1 = 0 ∧ PF2 = 0 := by simpa using HY2.out trivial hD
            have hyP := hy18 rfl
            obtain ⟨ii, rfl⟩ := Int.eq_ofNat_of_zero_le (show 0 ≤ row by omega)
            rw [Int.toNat_natCast] at hyP
            have hql : (pathL RL ii).length ≤ 20 := path_short _ _ 20 (by omega)
            have hqd := path_digs RL ii
            have hii : ii < 1000000 := by omega
            rw [decide_eq_false hD]
            clear HY1 HY2 hy18 hy2 hD
            go_wp2_with fail
            refine (refPath_any ln RL ii ii oa oc _ rfl (by omega) hii (hL18 _ (Below.refl _ _))).mono ?_
            rintro e w30 ⟨x30, rfl, ho30, hb30⟩
            have hyP2 := hyP.below (Nat.le_refl _) hb30
            have sY := refSame_any _ _ _ _ _ hyP2 ho30.parts (by unfold maxLen; omega) (short_mem (fun x hx => by rw [hqd x hx]; unfold maxLen; omega))
            rw [decide_eq_true rfl] at sY
            clear hyP hyP2 ho30 hqd hql
            go_wp2_with fail
            refine sY.mono ?_
            rintro e w31 ⟨rfl, q31, rfl⟩
            have b31 := below_drewN' hb30 q31
            clear sY
            go_wp2_with fail
            go_meet
            case rel => exact b31
        case rest =>
          have bF := bE.trans (hcut.mono bE.size)
          have kF := box_kept k18 hcut
          obtain ⟨j0, j1, -, -⟩ := box_two kF
          clear HY1 HY2 hy18 hy2 g18
          by_cases hD : m < 1 ∨ (ln : Int) < m
          · obtain ⟨rfl, rfl⟩ : GF1 = 3 ∧ GF2 = 0 := by simpa using HG1.out trivial hD
            obtain rfl : zn = 0 := hz2 (by simp)
            clear HG1 HG2 hz18 hz2
            by_cases h1 : m < 1
            · clear hD
              go_wp2_with fail
              go_ret
              exact ⟨rfl, bF⟩
            · have h2 : (ln : Int) < m := by omega
              clear hD
              go_wp2_with fail
              go_ret
              exact ⟨rfl, bF⟩
          · obtain ⟨rfl, rfl⟩ : GF1 = 0 ∧ GF2 = 0 := by simpa using HG2.out trivial hD
            have hzP := (hz18 rfl).below (Nat.le_refl _) hcut
            obtain ⟨mm, rfl⟩ := Int.eq_ofNat_of_zero_le (show 0 ≤ m by omega)
            rw [Int.toNat_natCast] at hzP
            have hpl : (proofL RL mm true).length ≤ 20 + 1 := proof_short _ _ 20 _ (by omega)
            have hpd := proof_digs RL mm true
            have h1 : ¬ (mm : Int) < 1 := by omega
            have h2 : ¬ (ln : Int) < mm := by omega
            have h1' : 1 ≤ mm := by omega
            have h2' : mm ≤ ln := by omega
            clear HG1 HG2 hz18 hz2 hD
            go_wp2_with fail
            refine (refProof_any ln RL mm mm true oa oc _ rfl (by omega) h1' h2' (hL18 _ hcut)).mono ?_
            rintro e w40 ⟨x40, rfl, ho40, hb40⟩
            have hzP2 := hzP.below (Nat.le_refl _) hb40
            have sZ := refSame_any _ _ _ _ _ hzP2 ho40.parts (by unfold maxLen; omega) (short_mem (fun x hx => by rw [hpd x hx]; unfold maxLen; omega))
            rw [decide_eq_true rfl] at sZ
            have b40 := bF.trans (hb40.mono bF.size)
            clear hzP hzP2 ho40 hpd hpl
            go_wp2_with fail
            refine sZ.mono ?_
            rintro e w41 ⟨rfl, q41, rfl⟩
            have b41 := below_drewN' b40 q41
            clear sZ
            go_wp2_with fail
            go_ret
            exact ⟨rfl, b41⟩

end Go.Proofs.YtkjlchfmplcobaeDoor
