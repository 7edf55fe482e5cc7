/- ShelfGoVerify, FleetGoShow, FleetGoCheck, as one text. -/
import Derived.Test.YtkjlchfmplcobaeGreatDoorRunAM
import Derived.Test.YtkjlchfmplcobaeGreatDoorRunAG
/- The walk of Verify: package shelf as it landed. -/
namespace Go.Proofs.YtkjlchfmplcobaeGreatDoor
open Go.RowKit

/-- What Verify tells, and that it lies in new memory. -/
def VerifyOC : Prop := ∀ (m : Man) (mv : Value) (w : World), Ready w → ManAt w mv m →
 Calls Tryz.prog 53 #[mv] w fun e w' => ∃ xa xn xc, e = .returned (.tuple #[.slice xa xn xc, faultV (verifyL m).2]) ∧ Laid w' xa xn xc (verifyL m).1 ∧ (∀ b off, xa = some ⟨b, off, none⟩ → w.heap.size ≤ b) ∧ Below w.heap.size w w'
set_option maxRecDepth 100000 in
set_option maxHeartbeats 4000000 in
theorem verifyO_of (hSeg : SegmentC) (hRoot : RootC) : VerifyOC := by
 intro m mv w hrd hM
 obtain ⟨i0, hi0, hz0, hz1, hz2⟩ := info_parts Tryz.info37b
 have hS : ∀ w' (k : Nat), Below w.heap.size w w' → _ := fun w' k h => hSeg m k mv w' (hM.below h)
 obtain ⟨rv, sv, rfl, hr, a, c, rfl, hN1, hN2, hN3, hcell⟩ := hM
 have hsb : SegsBytes m.segs := SegsAt.bytes ⟨a, c, rfl, hN1, hN2, hN3, hcell⟩
 unfold maxLen at hN2
 clear hcell
 have x0 := box_old _ (.cells #[.int .i64 0, .int .i64 0] 31) (box_new w #[.int .i64 m.size, rv, .slice a m.segs.length c] 63)
 have y0 := box_last w (.cells #[.int .i64 m.size, rv, .slice a m.segs.length c] 63) #[.int .i64 0, .int .i64 0] 31
 have b0 : Below w.heap.size w ((w.alloc (.cells #[.int .i64 m.size, rv, .slice a m.segs.length c] 63)).alloc (.cells #[.int .i64 0, .int .i64 0] 31)) := ((Below.refl _ _).alloc (Nat.le_refl _) _).alloc (by simp) _
 obtain ⟨u0, u1, u2, -, -, -⟩ := box_three x0
 obtain ⟨v0, v1, v2, v3⟩ := box_two y0
 have hI := isSize_any m.size
 by_cases h1 : 0 ≤ m.size ∧ m.size ≤ 100
 ·have hF := fun W => segmentsFor_any m.size W h1.1 h1.2
  rw [sizeB_true h1.1 h1.2] at hI
  by_cases h2 : (m.segs.length : Int) = (m.size + 7) / 8
  ·have hmany : manyB m = true := decide_eq_true ⟨h1.1, h1.2, h2⟩
   have hF' : ∀ W, Calls Tryz.prog 85 #[.int .i64 m.size] W fun e w' => e = .returned (.int .i64 (m.segs.length : Int)) ∧ w' = W := fun W => by rw [h2]; exact hF W
   have hnn : ((m.segs.length : Int) != (m.segs.length : Int)) = false := by simp
   have hN13 : m.segs.length ≤ 13 := by omega
   have hUL := upTo_few m
   have hUS := upTo_succ m
   have hUB := upTo_bytes hsb
   have HV1 : ∀ k : Nat, Hid (k < m.segs.length → (∀ j : Nat, j < k → (segmentL m (j : Int)).2 = 0) → (segmentL m (k : Int)).2 ≠ 0 → verifyL m = ([], (segmentL m (k : Int)).2, (k : Int))) := fun k h3 h4 h5 => verify_bad hmany h3 h4 h5
   have HV2 : Hid ((∀ j : Nat, j < m.segs.length → (segmentL m (j : Int)).2 = 0) → verifyL m = if mth (upTo m m.segs.length) ≠ m.root then ([], 9, 0) else (upTo m m.segs.length, 0, 0)) := fun h => verify_good hmany h
   have HU100 : Hid ((∀ j : Nat, j < m.segs.length → (segmentL m (j : Int)).2 = 0) → (upTo m m.segs.length).length ≤ 100) := fun h => by have := upTo_length hmany _ (Nat.le_refl _) h; omega
   clear hF h2 hmany h1
   generalize m.segs.length = N at *
   generalize m.size = size at *
   go_enter Tryz.func53, Tryz.ntmps53
   go_wp2_with fail
   go_quiet ((first | (go_at_call 84; exact Calls.quiet_of_same (hI _)) | (go_at_call 85; exact Calls.quiet_of_same (hF' _))))
   replace b0 := below_drewN' b0 nq
   have x1 : (((w.alloc (.cells #[.int .i64 size, rv, .slice a N c] 63)).alloc (.cells #[.int .i64 0, .int .i64 0] 31)).drewN nq).heap[w.heap.size]? = _ := x0
   have y1 : (((w.alloc (.cells #[.int .i64 size, rv, .slice a N c] 63)).alloc (.cells #[.int .i64 0, .int .i64 0] 31)).drewN nq).heap[w.heap.size + 1]? = _ := y0
   generalize ((w.alloc (.cells #[.int .i64 size, rv, .slice a N c] 63)).alloc (.cells #[.int .i64 0, .int .i64 0] 31)).drewN nq = w1 at *
   clear x0 y0 u0 u1 u2 v0 v1 v2 v3 hI hF' hnn
   obtain ⟨u0, u1, u2, -, -, -⟩ := box_three x1
   obtain ⟨v0, v1, v2, v3⟩ := box_two y1
   go_wp2_with fail
   clear u0 u1 u2 v0 v1 v2 v3
   go_loopw [4, 29] (fun av kv wr => ∃ (k : Nat) (va : Option Addr) (vn vc : Nat) (vs : List Value), k ≤ N ∧ kv = .int .i64 k ∧ av = .slice va vn vc ∧ Hid (vn = (upTo m k).length) ∧ wr.ownsRow w.heap.size 37 1 (.slice va vn vc) vn vs ∧ Els wr vs (upTo m k) ∧ Hid (∀ j : Nat, j < k → (segmentL m (j : Int)).2 = 0) ∧ wr.heap[w.heap.size]? = some (.cells #[.int .i64 size, rv, .slice a N c] 63 (0, 0)) ∧ wr.heap[w.heap.size + 1]? = some (.cells #[.int .i64 0, .int .i64 0] 31 (0, 0)) ∧ Below w.heap.size w wr) (fun _ kv _ => N - (intOf kv).toNat)
   case atStart => exact ⟨0, none, 0, 0, [], Nat.zero_le _, rfl, rfl, rfl, World.ownsRow_nil _ _ _ _, els_nil _, fun j hj => absurd hj (Nat.not_lt_zero _), x1, y1, b0⟩
   case round =>
    obtain ⟨wo, rfl⟩ : ∃ x, x = wr := ⟨wr, rfl⟩
    obtain ⟨k, va, vn, vc, vs, hk, rfl, rfl, HN, hrow, hels, HO, xo, yo, hbr⟩ := hrel
    have hsr := hbr.size
    clear x1 y1 b0
    have hlenk := (hUL k).1
    rw [← HN.out] at hlenk
    obtain ⟨u0, u1, u2, -, -, -⟩ := box_three xo
    obtain ⟨v0, v1, v2, v3⟩ := box_two yo
    by_cases hlt : k < N
    ·have hlt' : (k : Int) < N := by omega
     have hS1 := hS wo k hbr
     have HV := HV1 k
     have hsu := hUS k
     have HF : Hid ((segmentL m (k : Int)).2 = 0 → ∀ j : Nat, j < k + 1 → (segmentL m (j : Int)).2 = 0) := fun h j hj => by
      by_cases e : j = k
      ·rw [e]; exact h
      ·exact HO.out j (by omega)
     have hl8 := (segment_few m (k : Int)).1
     have HSU : Hid (upTo m (k + 1) = upTo m k ++ (segmentL m (k : Int)).1) := hsu
     clear hsu HV1 HV2 HU100 hUS hUB hUL hS
     generalize segmentL m (k : Int) = R at *
     obtain ⟨l, er⟩ := R
     dsimp only at hS1 HV HF HSU hl8
     go_wp2_with fail
     refine hS1.mono ?_
     rintro e w2 ⟨xa, xn, xc, rfl, hl, hb2⟩
     have b2 := hbr.trans (hb2.mono hsr)
     have x2 := box_kept xo hb2
     have y2 := box_kept yo hb2
     have hrow2 := own_below hrow hb2 (Nat.le_refl _)
     have hels2 := hels.below hb2 (Nat.le_refl _)
     clear hS1 hrow hels xo yo u0 u1 u2 v0 v1 v2 v3
     by_cases her : er = 0
     ·subst her
      obtain ⟨us, hu1, hu2⟩ := hl.els
      have hln := hl.lists.len
      have hnil := hl.lists.nil
      have hone := hu1.one
      have hul : us.length = xn := by rw [hu1.1, hln]
      clear HV
      go_wp2_with (at_builtin; refine wpList_append_parts rfl (.tmp 43) (.tmp 44) 43 rfl w.heap.size 37 i0 (.slice none 0 0) 24 Tryz.underlying43 hi0 hz0 hz1 hz2 rfl _ _ _ rfl hrow2 xa xn xc us rfl hnil hul hu2 hone (by unfold maxLen; omega) (by omega) b2.size ?_; intro v7 w7 ho7 hg7; obtain ⟨sa, sc, rfl⟩ := own_form' ho7)
      have b7 : Below w.heap.size w w7 := b2.grown hg7 b2.size (fun _ h => own_block hrow2 h)
      have hels7 : Els w7 (vs ++ us) (upTo m (k + 1)) := by rw [HSU.out]; exact (hels2.append hu1).kept hrow2 (by decide) hg7
      have x7 := grown_box hg7 hrow2 x2 (by decide)
      have y7 := grown_box hg7 hrow2 y2 (by decide)
      go_roundw
      case rel => exact ⟨k + 1, sa, _, sc, vs ++ us, by omega, by go_num, rfl, by show _ = _; rw [HSU.out, List.length_append, hln, HN.out], ho7, hels7, HF.out (by trivial), x7, y7, b7⟩
      case measure => simp [intOf]; omega
     ·have her' : (er != 0) = true := by simpa using her
      have HV2 : Hid (verifyL m = ([], er, (k : Int))) := HV.out hlt HO.out her
      obtain ⟨v0, v1, v2, v3⟩ := box_two y2
      clear HV HF hl hels2 hrow2 her
      go_wp2_with fail
      exact bodyPost_ret (v := .tuple #[.slice none 0 0, faultV (er, (k : Int))]) (by simp [results, Tryz.results53, go_sem, v0, v1]) rfl ⟨none, 0, 0, by rw [HV2.out], by rw [HV2.out]; exact laid_nil _, (fun _ _ h => by cases h), (b2.setCell (Nat.le_succ _) _).setCell (Nat.le_succ _) _⟩
    ·obtain rfl : k = N := by omega
     have hnl : ¬ (k : Int) < k := by omega
     have HV := HV2.out HO.out
     have h100 := HU100.out HO.out
     have h200 := (hUL k).2
     have hby := hUB k
     have hw := wrong_zero (L := upTo m k) h100 (short_mem h200)
     have hla : Laid wo va vn vc (upTo m k) := laid_own hrow hels HN.out.symm hby (fun x hx => by have := h200 x hx; unfold maxLen; omega)
     have hR := hRoot (upTo m k) va vn vc wo (hrd.below hbr) hla.lists
     rw [hw] at hR
     have hml := mth_length (upTo m k)
     have hmb := bytes_mth (upTo m k)
     have HVR : Hid (verifyL m = if mth (upTo m k) ≠ m.root then ([], 9, 0) else (upTo m k, 0, 0)) := HV
     have hroot := fun w' (h : Below w.heap.size w w') => hr.below h
     clear HV HV1 HV2 HU100 hUL hUS hUB hS HO hw hels h200 hby
     generalize upTo m k = UL at *
     generalize mth UL = M at *
     go_wp2_with fail
     refine hR.mono ?_
     rintro e w2 ⟨xa, xn, xc, rfl, ho, -, hb2⟩
     replace ho := ho trivial
     obtain rfl := own_len ho
     have b2 := hbr.trans (hb2.mono hsr)
     have x2 := box_old _ (.cells #[.int .i64 0, .int .i64 0] 31) (box_kept xo hb2)
     have y2 := box_old _ (.cells #[.int .i64 0, .int .i64 0] 31) (box_kept yo hb2)
     have b3 : Below w.heap.size w (w2.alloc (.cells #[.int .i64 0, .int .i64 0] 31)) := b2.alloc b2.size _
     have hl3 := (hla.below hb2).below ((Below.refl _ _).alloc (Nat.le_refl _) (.cells #[.int .i64 0, .int .i64 0] 31))
     have hr3 := hroot _ b3
     have ho3 := bytesAt_own (ho.alloc (.cells #[.int .i64 0, .int .i64 0] 31))
     have hE := equal_any M m.root (.slice xa 32 xc) rv _ ho3 hr3.at' hmb hr3.bytes
     obtain ⟨u0', u1', u2', -, -, -⟩ := box_three x2
     obtain ⟨v0', v1', v2', v3'⟩ := box_two y2
     have hne : vn ≠ 0 → ∀ g off, va = some ⟨g, off, none⟩ → g ≠ w.heap.size + 1 := fun _ g off e h => own_apart hrow (t := 31) (by decide) yo (by subst e; rw [← h]; rfl)
     have hlow : ∀ b off, va = some ⟨b, off, none⟩ → w.heap.size ≤ b := fun b off e => by subst e; exact (hrow.lt b rfl).1
     have HLow : Hid (∀ b off, va = some ⟨b, off, none⟩ → w.heap.size ≤ b) := hlow
     clear hlow
     clear hR hla hrow xo yo hroot u0 u1 u2 v0 v1 v2 v3 ho
     go_wp2_with fail
     generalize hw3 : w2.alloc (.cells #[.int .i64 0, .int .i64 0] 31) = w3 at *
     refine hE.mono ?_
     rintro e w4 ⟨rfl, rfl⟩
     clear hE
     by_cases hq : M = m.root
     ·rw [decide_eq_true hq]
      have HV2 : Hid (verifyL m = (UL, 0, 0)) := by show _ = _; rw [HVR.out, if_neg (fun h => h hq)]
      have hl4 := (hl3.set (o := 0) y2 (by decide) hne (.int .i64 0)).set (o := 1) (heap_setCell_same _ _ 0 _ _ (.int .i64 0) y2) (by decide) hne (.int .i64 0)
      go_wp2_with fail
      exact bodyPost_ret (v := .tuple #[.slice va vn vc, faultV (0, 0)]) (by simp [results, Tryz.results53, go_sem, v0', v1']) rfl ⟨va, vn, vc, by rw [HV2.out], by rw [HV2.out]; exact hl4, HLow.out, (b3.setCell (Nat.le_succ _) _).setCell (Nat.le_succ _) _⟩
     ·rw [decide_eq_false hq]
      have HV2 : Hid (verifyL m = ([], 9, 0)) := by show _ = _; rw [HVR.out, if_pos hq]
      go_wp2_with fail
      exact bodyPost_ret (v := .tuple #[.slice none 0 0, faultV (9, 0)]) (by simp [results, Tryz.results53, go_sem, v0', v1']) rfl ⟨none, 0, 0, by rw [HV2.out], by rw [HV2.out]; exact laid_nil _, (fun _ _ h => by cases h), (b3.setCell (Nat.le_succ _) _).setCell (Nat.le_succ _) _⟩
  ·have HE : Hid (verifyL m = ([], 5, 0)) := verify_many (decide_eq_false (fun h => h2 h.2.2))
   have h2' : ((m.segs.length : Int) != (m.size + 7) / 8) = true := by simpa using h2
   clear hS h2 h1
   generalize m.segs.length = N at *
   generalize m.size = size at *
   generalize (size + 7) / 8 = Q at *
   go_enter Tryz.func53, Tryz.ntmps53
   go_wp2_with fail
   go_quiet ((first | (go_at_call 84; exact Calls.quiet_of_same (hI _)) | (go_at_call 85; exact Calls.quiet_of_same (hF _))))
   go_wp2_with fail
   exact bodyPost_ret (v := .tuple #[.slice none 0 0, faultV (5, 0)]) (by simp [results, Tryz.results53, go_sem, v0, v1]) rfl ⟨none, 0, 0, by rw [HE.out], by rw [HE.out]; exact laid_nil _, (fun _ _ h => by cases h), (((below_drewN' b0 _).setCell (Nat.le_succ _) _).setCell (Nat.le_succ _) _)⟩
 ·have HE : Hid (verifyL m = ([], 5, 0)) := verify_many (decide_eq_false (fun h => h1 ⟨h.1, h.2.1⟩))
  rw [sizeB_false h1] at hI
  clear hS h1
  generalize m.segs.length = N at *
  generalize m.size = size at *
  go_enter Tryz.func53, Tryz.ntmps53
  go_wp2_with fail
  go_quiet ((first | (go_at_call 84; exact Calls.quiet_of_same (hI _))))
  go_wp2_with fail
  exact bodyPost_ret (v := .tuple #[.slice none 0 0, faultV (5, 0)]) (by simp [results, Tryz.results53, go_sem, v0, v1]) rfl ⟨none, 0, 0, by rw [HE.out], by rw [HE.out]; exact laid_nil _, (fun _ _ h => by cases h), (((below_drewN' b0 _).setCell (Nat.le_succ _) _).setCell (Nat.le_succ _) _)⟩

end Go.Proofs.YtkjlchfmplcobaeGreatDoor

/- The walks of entriesOf, copyOfRecord, slices.IndexFunc over records: package fleet as it landed. -/
namespace Go.Proofs.YtkjlchfmplcobaeGreatDoor
open Go.RowKit

set_option maxRecDepth 100000 in
set_option maxHeartbeats 1000000 in
theorem entriesOf_any (hVer : VerifyOC) (s : Shd) (ea ra ga : Option Addr) (ec rc gc : Nat) (w : World) (hR : Ready w) (hE : Lists w ea s.entries.length ec s.entries) (hr : Some' w (.slice ra s.man.root.length rc) s.man.root) (hg : SegsAt w (.slice ga s.man.segs.length gc) s.man.segs) :
  Calls Tryz.prog 25 #[.agg #[.int .i64 s.from', .int .i64 s.to', .int .i64 s.state, .slice ea s.entries.length ec, .int .i64 s.man.size, .slice ra s.man.root.length rc, .slice ga s.man.segs.length gc]] w fun e w' => ∃ xa xn xc, e = .returned (.tuple #[.slice xa xn xc, .int .i64 (contentL s).2]) ∧ Lists w' xa xn xc (contentL s).1 ∧ (xa = ea ∧ (contentL s).1 = s.entries ∨ ∀ b off, xa = some ⟨b, off, none⟩ → w.heap.size ≤ b) ∧ Below w.heap.size w w' := by
 have b0 : Below w.heap.size w (w.alloc (.cells #[.int .i64 s.from', .int .i64 s.to', .int .i64 s.state, .slice ea s.entries.length ec, .int .i64 s.man.size, .slice ra s.man.root.length rc, .slice ga s.man.segs.length gc] 65)) := (Below.refl _ _).alloc (Nat.le_refl _) _
 obtain ⟨u0, u1, u2, u3, u4, u5, u6⟩ := box_seven (box_new w #[.int .i64 s.from', .int .i64 s.to', .int .i64 s.state, .slice ea s.entries.length ec, .int .i64 s.man.size, .slice ra s.man.root.length rc, .slice ga s.man.segs.length gc] 65)
 have hV := hVer s.man _ _ (hR.below b0) ⟨_, _, rfl, hr.below b0, hg.below b0⟩
 by_cases h4 : s.state = 4
 ·have HC : Hid (contentL s = ((verifyL s.man).1, (verifyL s.man).2.1)) := by show _ = _; unfold contentL; rw [if_pos h4]
  rw [HC.out]
  rw [h4] at u2 b0 hV u0 u1 u3 u4 u5 u6
  rw [h4]
  generalize verifyL s.man = VF at *
  obtain ⟨VL, E1, E2⟩ := VF
  dsimp only at hV ⊢
  clear HC
  go_enter Tryz.func25, Tryz.ntmps25
  go_wp2_with fail
  generalize w.alloc (.cells #[.int .i64 s.from', .int .i64 s.to', .int .i64 4, .slice ea s.entries.length ec, .int .i64 s.man.size, .slice ra s.man.root.length rc, .slice ga s.man.segs.length gc] 65) = w0 at *
  refine hV.mono ?_
  rintro e w1 ⟨xa, xn, xc, rfl, hL, hlow, hb1⟩
  have HLow : Hid (∀ b off, xa = some ⟨b, off, none⟩ → w.heap.size ≤ b) := fun b off h => Nat.le_trans b0.size (hlow b off h)
  clear hlow
  have d2 : Below w1.heap.size w1 (w1.alloc (.cells #[.int .i64 E1, .int .i64 E2] 31)) := (Below.refl _ _).alloc (Nat.le_refl _) _
  have b1 := b0.trans (hb1.mono b0.size)
  have b2 := b1.trans (d2.mono b1.size)
  have hL2 := hL.lists.below d2
  obtain ⟨f0, f1, -, -⟩ := box_two (box_new w1 #[.int .i64 E1, .int .i64 E2] 31)
  clear hV u0 u1 u2 u3 u4 u5 u6 hL
  go_wp2_with fail
  generalize w1.alloc (.cells #[.int .i64 E1, .int .i64 E2] 31) = w2 at *
  go_quiet (fail)
  go_wp2_with fail
  go_ret2
  exact ⟨xa, xn, xc, rfl, hL2.below (below_drewN' (Below.refl _ _) _), .inr HLow.out, below_drewN' b2 _⟩
 ·have HC : Hid (contentL s = (s.entries, 0)) := by show _ = _; unfold contentL; rw [if_neg h4]
  have h4' : (s.state != 4) = true := by simpa using h4
  rw [HC.out]
  have hE0 := hE.below b0
  clear HC h4 hV
  go_enter Tryz.func25, Tryz.ntmps25
  go_wp2_with fail
  go_ret2
  exact ⟨ea, _, ec, rfl, hE0, .inl ⟨rfl, by trivial⟩, b0⟩
set_option maxRecDepth 100000 in
set_option maxHeartbeats 1000000 in
theorem copyOfRecord_any (r : Rec) (v : Value) (w : World) (h : Some' w v r.root) (hd : r.root.length ≤ 1000000) :
  Calls Tryz.prog 30 #[.agg #[.int .i64 r.shard, .int .i64 r.from', .int .i64 r.to', .int .i64 r.size, v]] w fun e w' => ∃ xa xc, e = .returned (.agg #[.int .i64 r.shard, .int .i64 r.from', .int .i64 r.to', .int .i64 r.size, .slice xa r.root.length xc]) ∧ w'.ownsRow w.heap.size 5 1 (.slice xa r.root.length xc) r.root.length (r.root.map (Value.int .u8)) ∧ Below w.heap.size w w' := by
 obtain ⟨va, vc, rfl⟩ := h.at'.form
 have b0 : Below w.heap.size w ((w.alloc (.cells #[.int .i64 r.shard, .int .i64 r.from', .int .i64 r.to', .int .i64 r.size, .slice va r.root.length vc] 45)).alloc (.cells #[.int .i64 0, .int .i64 0, .int .i64 0, .int .i64 0, .slice none 0 0] 45)) := ((Below.refl _ _).alloc (Nat.le_refl _) _).alloc (by simp) _
 have x0 := box_one w #[.int .i64 r.shard, .int .i64 r.from', .int .i64 r.to', .int .i64 r.size, .slice va r.root.length vc] 45 (.cells #[.int .i64 0, .int .i64 0, .int .i64 0, .int .i64 0, .slice none 0 0] 45)
 have y0 := box_last w (.cells #[.int .i64 r.shard, .int .i64 r.from', .int .i64 r.to', .int .i64 r.size, .slice va r.root.length vc] 45) #[.int .i64 0, .int .i64 0, .int .i64 0, .int .i64 0, .slice none 0 0] 45
 have z0 : ((w.alloc (.cells #[.int .i64 r.shard, .int .i64 r.from', .int .i64 r.to', .int .i64 r.size, .slice va r.root.length vc] 45)).alloc (.cells #[.int .i64 0, .int .i64 0, .int .i64 0, .int .i64 0, .slice none 0 0] 45)).heap.size = w.heap.size + 2 := by simp
 have hC := copyOf_any r.size r.root _ _ (h.below b0) hd
 obtain ⟨u0, u1, u2, u3, u4⟩ := box_five x0
 go_enter Tryz.func30, Tryz.ntmps30
 go_wp2_with fail
 generalize (w.alloc (.cells #[.int .i64 r.shard, .int .i64 r.from', .int .i64 r.to', .int .i64 r.size, .slice va r.root.length vc] 45)).alloc (.cells #[.int .i64 0, .int .i64 0, .int .i64 0, .int .i64 0, .slice none 0 0] 45) = w0 at *
 refine hC.mono ?_
 rintro e w1 ⟨xa, xc, rfl, ho1, hb1⟩
 have b1 := b0.trans (hb1.mono b0.size)
 have x1 := box_kept x0 hb1
 have y1 := box_kept y0 hb1
 rw [z0] at ho1
 obtain ⟨p0, p1, p2, p3, p4⟩ := box_five x1
 obtain ⟨f0, f1, f2, f3, f4⟩ := five_free x1
 have x2 : ((w1.setCell ⟨w.heap.size, 3, none⟩ (.int .i64 r.size)).setCell ⟨w.heap.size, 4, none⟩ (.slice xa r.root.length xc)).heap[w.heap.size]? = some (.cells #[.int .i64 r.shard, .int .i64 r.from', .int .i64 r.to', .int .i64 r.size, .slice xa r.root.length xc] 45 (0, 0)) := by
  have h0 := heap_setCell_same w1 w.heap.size 3 _ _ (.int .i64 r.size) x1
  exact heap_setCell_same _ w.heap.size 4 _ _ (.slice xa r.root.length xc) h0
 have y2 : ((w1.setCell ⟨w.heap.size, 3, none⟩ (.int .i64 r.size)).setCell ⟨w.heap.size, 4, none⟩ (.slice xa r.root.length xc)).heap[w.heap.size + 1]? = some (.cells #[.int .i64 0, .int .i64 0, .int .i64 0, .int .i64 0, .slice none 0 0] 45 (0, 0)) := box_set_far (box_set_far y1 (by omega)) (by omega)
 have ho2 := ownsRow_setCell_below (ownsRow_setCell_below ho1 (a := ⟨w.heap.size, 3, none⟩) (show w.heap.size < _ by omega) (.int .i64 r.size)) (a := ⟨w.heap.size, 4, none⟩) (show w.heap.size < _ by omega) (.slice xa r.root.length xc)
 have b2 := (b1.setCell (p := ⟨w.heap.size, 3, none⟩) (Nat.le_refl _) (.int .i64 r.size)).setCell (p := ⟨w.heap.size, 4, none⟩) (Nat.le_refl _) (.slice xa r.root.length xc)
 clear hC u0 u1 u2 u3 u4 x0 y0 x1 y1 ho1
 obtain ⟨a0, a1, a2, a3, a4⟩ := box_five x2
 obtain ⟨t0, t1, t2, t3, t4⟩ := box_five y2
 obtain ⟨g0, g1, g2, g3, g4⟩ := five_free y2
 obtain ⟨s0, s1, s2, s3, s4⟩ := box_five (five_set y2 (.int .i64 r.shard) (.int .i64 r.from') (.int .i64 r.to') (.int .i64 r.size) (.slice xa r.root.length xc))
 have ho3 := five_own ho2 (show w.heap.size + 1 < w.heap.size + 2 by omega) (.int .i64 r.shard) (.int .i64 r.from') (.int .i64 r.to') (.int .i64 r.size) (.slice xa r.root.length xc)
 have b3 := five_below b2 (Nat.le_succ w.heap.size) (.int .i64 r.shard) (.int .i64 r.from') (.int .i64 r.to') (.int .i64 r.size) (.slice xa r.root.length xc)
 go_wp2_with fail
 exact bodyPost_ret (v := .agg #[.int .i64 r.shard, .int .i64 r.from', .int .i64 r.to', .int .i64 r.size, .slice xa r.root.length xc]) (by simp [results, Tryz.results30, go_sem, s0, s1, s2, s3, s4]) rfl ⟨xa, xc, rfl, ownsRow_base ho3 (by omega), b3⟩
theorem idx_row {b : List Rec} {k : Int} {j : Nat} (hj : j < b.length) (h : (b.getD j rec0).shard = k) (hb : ∀ i, i < j → ¬ (b.getD i rec0).shard = k) : rowOf b k = some j :=
 find_range hj (decide_eq_true h) (fun i hi => decide_eq_false (hb i hi))
theorem idx_norow {b : List Rec} {k : Int} (h : ∀ j, j < b.length → ¬ (b.getD j rec0).shard = k) : rowOf b k = none :=
 List.find?_eq_none.2 (fun j hj => by rw [decide_eq_true_eq]; exact h j (List.mem_range.1 hj))
set_option maxRecDepth 100000 in
set_option maxHeartbeats 1000000 in
theorem row1_any (a k : Int) (r : Bool) (hr : r = (a == k)) (v1 v2 v3 v4 : Value) (B : Nat) (w : World) (hB : w.heap[B]? = some (.cells #[.int .i64 k] 3 (0, 0))) :
  Calls Tryz.prog 24 #[.agg #[.int .i64 a, v1, v2, v3, v4], .pointer (some ⟨B, 0, none⟩)] w fun e w' => e = .returned (.bool r) ∧ Below w.heap.size w w' := by
 have b0 : Below w.heap.size w (w.alloc (.cells #[.int .i64 a, v1, v2, v3, v4] 45)) := (Below.refl _ _).alloc (Nat.le_refl _) _
 obtain ⟨h0, h1⟩ := box_cell (box_kept hB b0)
 have HR : Hid (r = (a == k)) := hr
 clear hr
 go_enter Tryz.func24, Tryz.ntmps24
 go_wp2_with fail
 go_ret
 exact ⟨by rw [HR.out]; rfl, b0⟩
set_option maxRecDepth 100000 in
set_option maxHeartbeats 2000000 in
theorem row_any (b : List Rec) (k : Int) (ba : Option Addr) (n c B : Nat) (w : World) (hS : RecsAt w (.slice ba n c) b) (hn : b.length = n) (hB : w.heap[B]? = some (.cells #[.int .i64 k] 3 (0, 0))) :
  Calls Tryz.prog 23 #[.slice ba n c, .func (.func 24) #[] #[.pointer (some ⟨B, 0, none⟩)]] w fun e w' => e = .returned (.int .i64 (idxOf (rowOf b k))) ∧ Below w.heap.size w w' := by
 obtain ⟨sa', sc', e, hc1, hc2, -, hS⟩ := hS
 rw [hn] at e hc1 hS
 cases e
 unfold maxLen at hc2
 have H1 : ∀ j : Nat, Hid (j < n → (b.getD j rec0).shard = k → (∀ i, i < j → ¬ (b.getD i rec0).shard = k) → rowOf b k = some j) := fun j h1 h2 h3 => idx_row (by omega) h2 h3
 have H2 : Hid ((∀ j, j < n → ¬ (b.getD j rec0).shard = k) → rowOf b k = none) := fun h => idx_norow (fun j hj => h j (by omega))
 go_enter Tryz.func23, Tryz.ntmps23
 go_wp2_with fail
 go_loopw [8] (fun kv wr => ∃ j : Nat, j ≤ n ∧ kv = .int .i64 j ∧ Hid (∀ i, i < j → ¬ (b.getD i rec0).shard = k) ∧ Below w.heap.size w wr) (fun kv _ => n - (intOf kv).toNat)
 case atStart => exact ⟨0, Nat.zero_le _, rfl, fun _ hj => absurd hj (Nat.not_lt_zero _), Below.refl _ _⟩
 case round =>
  obtain ⟨wo, rfl⟩ : ∃ x, x = wr := ⟨wr, rfl⟩
  obtain ⟨j, hj, rfl, HO, hbr⟩ := hrel
  have hsr := hbr.size
  by_cases hlt : j < n
  ·have hlt' : (j : Int) < n := by omega
   obtain ⟨g, o, rfl, hg, hcs⟩ := hS.resolve_left (by omega)
   obtain ⟨d0, d1, d2, d3, ra, rc, d4, -⟩ := (hcs j hlt).below hg hbr
   have hC := fun r hr v1 v2 v3 v4 => row1_any (b.getD j rec0).shard k r hr v1 v2 v3 v4 B wo (box_kept hB hbr)
   have HV := H1 j
   have HF : Hid (¬ (b.getD j rec0).shard = k → ∀ i, i < j + 1 → ¬ (b.getD i rec0).shard = k) := fun h i hi => by
    by_cases e : i = j
    ·rw [e]; exact h
    ·exact HO.out i (by omega)
   clear hcs hS H1 H2
   by_cases hin : (b.getD j rec0).shard = k
   ·have HE : Hid (rowOf b k = some j) := HV.out hlt hin HO.out
    replace hC := hC true (by simpa using hin)
    clear hin HF HV HO
    generalize b.getD j rec0 = X at *
    go_wp2_with fail
    refine (hC _ _ _ _).mono ?_
    rintro e w5 ⟨rfl, hb5⟩
    go_wp2_with fail
    go_ret
    exact ⟨by rw [HE.out]; rfl, hbr.trans (hb5.mono hsr)⟩
   ·replace hC := hC false (by simpa using hin)
    have HF2 : Hid (∀ i, i < j + 1 → ¬ (b.getD i rec0).shard = k) := HF.out hin
    clear hin HF HV HO
    generalize b.getD j rec0 = X at *
    go_wp2_with fail
    refine (hC _ _ _ _).mono ?_
    rintro e w5 ⟨rfl, hb5⟩
    go_wp2_with fail
    go_roundw
    case rel => exact ⟨j + 1, by omega, by go_num, HF2, hbr.trans (hb5.mono hsr)⟩
    case measure => simp [intOf]; omega
  ·obtain rfl : j = n := by omega
   have hnl : ¬ (j : Int) < j := by omega
   have HE : Hid (rowOf b k = none) := H2.out HO.out
   clear H1 H2 HO hS
   go_wp2_with fail
   go_ret
   exact ⟨by rw [HE.out]; rfl, hbr⟩

end Go.Proofs.YtkjlchfmplcobaeGreatDoor

/- The walks of isHead and Check: package fleet as it landed. -/
namespace Go.Proofs.YtkjlchfmplcobaeGreatDoor
open Go.RowKit

set_option maxRecDepth 100000 in
set_option maxHeartbeats 1000000 in
theorem isHead_any (n1 n2 : Int) (r1 r2 : List Int) (v1 v2 : Value) (r : Bool) (hr : r = decide (n1 = n2 ∧ r1 = r2)) (w : World) (h1 : Some' w v1 r1) (h2 : Some' w v2 r2) :
  Calls Tryz.prog 39 #[.agg #[.int .i64 n1, v1], .agg #[.int .i64 n2, v2]] w fun e w' => e = .returned (.bool r) ∧ Below w.heap.size w w' := by
 have b0 : Below w.heap.size w ((w.alloc (.cells #[.int .i64 n1, v1] 39)).alloc (.cells #[.int .i64 n2, v2] 39)) := ((Below.refl _ _).alloc (Nat.le_refl _) _).alloc (by simp) _
 obtain ⟨x0, x1, -, -⟩ := box_two (box_one w #[.int .i64 n1, v1] 39 (.cells #[.int .i64 n2, v2] 39))
 obtain ⟨y0, y1, -, -⟩ := box_two (box_last w (.cells #[.int .i64 n1, v1] 39) #[.int .i64 n2, v2] 39)
 have hE := equal_any r1 r2 v1 v2 _ (h1.below b0).at' (h2.below b0).at' h1.bytes h2.bytes
 by_cases q1 : n1 = n2
 ·have hr2 : r = decide (r1 = r2) := by rw [hr]; simp [q1]
  rw [← hr2] at hE
  subst q1
  clear hr hr2
  go_enter Tryz.func39, Tryz.ntmps39
  go_wp2_with fail
  generalize (w.alloc (.cells #[.int .i64 n1, v1] 39)).alloc (.cells #[.int .i64 n1, v2] 39) = w0 at *
  refine hE.mono ?_
  rintro e w1 ⟨rfl, rfl⟩
  go_wp2_with fail
  go_ret
  exact ⟨rfl, b0⟩
 ·obtain rfl : r = false := by rw [hr, decide_eq_false (fun h => q1 h.1)]
  have q1' : (n1 == n2) = false := by simpa using q1
  clear hr q1
  go_enter Tryz.func39, Tryz.ntmps39
  go_wp2_with fail
  go_ret
  exact ⟨rfl, b0⟩

set_option maxRecDepth 100000 in
set_option maxHeartbeats 2000000 in
theorem checkC_of (hBy : RecBytesC) (hSt : StandsC) : CheckC := by
 intro s hs hr sv hv w hR hS hh
 obtain ⟨ea, ec, pa, pc, ra, rc, ba, bc, ha, hc, rfl, h1, h2, h3, h4, h5⟩ := hS.form
 obtain ⟨va, vc, rfl⟩ := hh.at'.form
 have b0 : Below w.heap.size w ((w.alloc (.cells #[.slice ea s.entry.length ec, .int .i64 s.place, .int .i64 s.shard, .slice pa s.path.length pc, .int .i64 s.rcd.shard, .int .i64 s.rcd.from', .int .i64 s.rcd.to', .int .i64 s.rcd.size, .slice ra s.rcd.root.length rc, .int .i64 s.row, .slice ba s.bookPath.length bc, .int .i64 s.hsize, .slice ha s.hroot.length hc] 47)).alloc (.cells #[.int .i64 hs, .slice va hr.length vc] 39)) := ((Below.refl _ _).alloc (Nat.le_refl _) _).alloc (by simp) _
 have x0 := box_one w #[.slice ea s.entry.length ec, .int .i64 s.place, .int .i64 s.shard, .slice pa s.path.length pc, .int .i64 s.rcd.shard, .int .i64 s.rcd.from', .int .i64 s.rcd.to', .int .i64 s.rcd.size, .slice ra s.rcd.root.length rc, .int .i64 s.row, .slice ba s.bookPath.length bc, .int .i64 s.hsize, .slice ha s.hroot.length hc] 47 (.cells #[.int .i64 hs, .slice va hr.length vc] 39)
 have y0 := box_last w (.cells #[.slice ea s.entry.length ec, .int .i64 s.place, .int .i64 s.shard, .slice pa s.path.length pc, .int .i64 s.rcd.shard, .int .i64 s.rcd.from', .int .i64 s.rcd.to', .int .i64 s.rcd.size, .slice ra s.rcd.root.length rc, .int .i64 s.row, .slice ba s.bookPath.length bc, .int .i64 s.hsize, .slice ha s.hroot.length hc] 47) #[.int .i64 hs, .slice va hr.length vc] 39
 have hRec := hBy s.rcd _ _ ⟨ra, rc, rfl, h3.below b0⟩
 have HC : Hid (checkL s hs hr = (decide (wrongRec s.rcd = 0) && (decide (s.rcd.shard = s.shard) && (decide (s.hsize = hs ∧ s.hroot = hr) && (standsL s.rcd.size s.rcd.root s.entry s.place s.path && standsL hs hr (rowL s.rcd) s.row s.bookPath))))) := rfl
 have hI := fun w' (h : Below w.heap.size w w') => isHead_any s.hsize hs s.hroot hr _ _ _ rfl w' (h5.below h) (hh.below h)
 have hS1 := fun w' (h : Below w.heap.size w w') => hSt s.rcd.size s.rcd.root s.entry s.place s.path _ _ _ _ _ w' (hR.below h) (h3.below h) (h1.below h) (h2.below h)
 have hS2 := fun w' (xv : Value) (h : Below w.heap.size w w') (hx : Some' w' xv (rowL s.rcd)) => hSt hs hr (rowL s.rcd) s.row s.bookPath _ xv _ _ _ w' (hR.below h) (hh.below h) hx (h4.below h)
 have hrb := row_bytes (r := s.rcd)
 have hrl := row_length (r := s.rcd)
 have h3b := h3.bytes
 generalize checkL s hs hr = CL at *
 unfold bytesE at hRec
 obtain ⟨k0, k1, k2, k3, k4, k5, k6, k7, k8, k9, k10, k11, k12⟩ := box_13 x0
 by_cases q0 : wrongRec s.rcd = 0
 ·rw [q0, if_neg (fun h => h rfl)] at hRec
  replace hrb := hrb q0 h3b
  replace hrl := hrl q0
  replace HC : Hid (CL = (decide (s.rcd.shard = s.shard) && (decide (s.hsize = hs ∧ s.hroot = hr) && (standsL s.rcd.size s.rcd.root s.entry s.place s.path && standsL hs hr (rowL s.rcd) s.row s.bookPath)))) := by show _ = _; rw [HC.out, decide_eq_true q0]; rfl
  generalize rowL s.rcd = ROW at *
  generalize standsL s.rcd.size s.rcd.root s.entry s.place s.path = B1 at *
  generalize standsL hs hr ROW s.row s.bookPath = B2 at *
  generalize decide (s.hsize = hs ∧ s.hroot = hr) = B0 at *
  clear q0 hS h1 h2 h3 h4 h5 h3b
  by_cases q1 : s.rcd.shard = s.shard
  ·replace HC : Hid (CL = (B0 && (B1 && B2))) := by show _ = _; rw [HC.out, decide_eq_true q1]; rfl
   rw [q1] at b0 x0 y0 hRec k4
   rw [q1]
   go_enter Tryz.func14, Tryz.ntmps14
   go_wp2_with fail
   generalize (w.alloc (.cells #[.slice ea s.entry.length ec, .int .i64 s.place, .int .i64 s.shard, .slice pa s.path.length pc, .int .i64 s.shard, .int .i64 s.rcd.from', .int .i64 s.rcd.to', .int .i64 s.rcd.size, .slice ra s.rcd.root.length rc, .int .i64 s.row, .slice ba s.bookPath.length bc, .int .i64 s.hsize, .slice ha s.hroot.length hc] 47)).alloc (.cells #[.int .i64 hs, .slice va hr.length vc] 39) = w0 at *
   refine hRec.mono ?_
   rintro e w1 ⟨xa, xn, xc, rfl, ho1, hb1⟩
   have b1 := b0.trans (hb1.mono b0.size)
   have x1 := box_kept x0 hb1
   have y1 := box_kept y0 hb1
   obtain ⟨j0, j1, j2, j3, j4, j5, j6, j7, j8, j9, j10, j11, j12⟩ := box_13 x1
   obtain ⟨m0, m1, -, -⟩ := box_two y1
   have hX1 : Some' w1 (.slice xa xn xc) ROW := ⟨bytesAt_own ho1, hrb, by rw [hrl]; unfold maxLen; omega⟩
   replace hI := hI w1 b1
   clear hRec k0 k1 k2 k3 k4 k5 k6 k7 k8 k9 k10 k11 k12 x0 y0 ho1
   go_wp2_with fail
   refine hI.mono ?_
   rintro e w2 ⟨rfl, hb2⟩
   have b2 := b1.trans (hb2.mono b1.size)
   clear hI
   cases B0 with
   | false =>
    have HC2 : Hid (CL = false) := by show _ = _; rw [HC.out]; rfl
    clear HC
    go_wp2_with fail
    go_ret
    exact ⟨by rw [HC2.out]; rfl, b2⟩
   | true =>
    have HC2 : Hid (CL = (B1 && B2)) := by show _ = _; rw [HC.out]; rfl
    have x2 := box_kept x1 hb2
    have y2 := box_kept y1 hb2
    replace hS1 := hS1 w2 b2
    have hX2 := hX1.below hb2
    clear HC j0 j1 j2 j3 j4 j5 j6 j7 j8 j9 j10 j11 j12 m0 m1 x1 y1 hX1
    obtain ⟨j0, j1, j2, j3, j4, j5, j6, j7, j8, j9, j10, j11, j12⟩ := box_13 x2
    obtain ⟨m0, m1, -, -⟩ := box_two y2
    go_wp2_with fail
    refine hS1.mono ?_
    rintro e w3 ⟨rfl, hb3⟩
    have b3 := b2.trans (hb3.mono b2.size)
    clear hS1
    cases B1 with
    | false =>
     have HC3 : Hid (CL = false) := by show _ = _; rw [HC2.out]; rfl
     clear HC2
     go_wp2_with fail
     go_ret
     exact ⟨by rw [HC3.out]; rfl, b3⟩
    | true =>
     have HC3 : Hid (CL = B2) := by show _ = _; rw [HC2.out]; rfl
     have x3 := box_kept x2 hb3
     have y3 := box_kept y2 hb3
     replace hS2 := hS2 w3 _ b3 (hX2.below hb3)
     clear HC2 j0 j1 j2 j3 j4 j5 j6 j7 j8 j9 j10 j11 j12 m0 m1 x2 y2 hX2
     obtain ⟨j0, j1, j2, j3, j4, j5, j6, j7, j8, j9, j10, j11, j12⟩ := box_13 x3
     obtain ⟨m0, m1, -, -⟩ := box_two y3
     go_wp2_with fail
     refine hS2.mono ?_
     rintro e w4 ⟨rfl, hb4⟩
     have b4 := b3.trans (hb4.mono b3.size)
     go_wp2_with fail
     go_ret
     exact ⟨by rw [HC3.out]; rfl, b4⟩
  ·have HC2 : Hid (CL = false) := by show _ = _; rw [HC.out, decide_eq_false q1]; rfl
   have q1' : (s.rcd.shard == s.shard) = false := by simpa using q1
   clear HC q1
   go_enter Tryz.func14, Tryz.ntmps14
   go_wp2_with fail
   generalize (w.alloc (.cells #[.slice ea s.entry.length ec, .int .i64 s.place, .int .i64 s.shard, .slice pa s.path.length pc, .int .i64 s.rcd.shard, .int .i64 s.rcd.from', .int .i64 s.rcd.to', .int .i64 s.rcd.size, .slice ra s.rcd.root.length rc, .int .i64 s.row, .slice ba s.bookPath.length bc, .int .i64 s.hsize, .slice ha s.hroot.length hc] 47)).alloc (.cells #[.int .i64 hs, .slice va hr.length vc] 39) = w0 at *
   refine hRec.mono ?_
   rintro e w1 ⟨xa, xn, xc, rfl, ho1, hb1⟩
   have b1 := b0.trans (hb1.mono b0.size)
   obtain ⟨j0, j1, j2, j3, j4, j5, j6, j7, j8, j9, j10, j11, j12⟩ := box_13 (box_kept x0 hb1)
   clear hRec k0 k1 k2 k3 k4 k5 k6 k7 k8 k9 k10 k11 k12 x0 y0
   go_wp2_with fail
   go_ret
   exact ⟨by rw [HC2.out]; rfl, b1⟩
 ·have HC2 : Hid (CL = false) := by show _ = _; rw [HC.out, decide_eq_false q0]; rfl
  have q0' : (wrongRec s.rcd != 0) = true := by simpa using q0
  clear HC q0 hrb hrl
  generalize wrongRec s.rcd = WR at *
  go_enter Tryz.func14, Tryz.ntmps14
  go_wp2_with fail
  generalize (w.alloc (.cells #[.slice ea s.entry.length ec, .int .i64 s.place, .int .i64 s.shard, .slice pa s.path.length pc, .int .i64 s.rcd.shard, .int .i64 s.rcd.from', .int .i64 s.rcd.to', .int .i64 s.rcd.size, .slice ra s.rcd.root.length rc, .int .i64 s.row, .slice ba s.bookPath.length bc, .int .i64 s.hsize, .slice ha s.hroot.length hc] 47)).alloc (.cells #[.int .i64 hs, .slice va hr.length vc] 39) = w0 at *
  refine hRec.mono ?_
  rintro e w1 ⟨xa, xn, xc, rfl, ho1, hb1⟩
  have b1 := b0.trans (hb1.mono b0.size)
  clear hRec k0 k1 k2 k3 k4 k5 k6 k7 k8 k9 k10 k11 k12 x0 y0
  go_wp2_with fail
  go_ret
  exact ⟨by rw [HC2.out]; rfl, b1⟩

end Go.Proofs.YtkjlchfmplcobaeGreatDoor
