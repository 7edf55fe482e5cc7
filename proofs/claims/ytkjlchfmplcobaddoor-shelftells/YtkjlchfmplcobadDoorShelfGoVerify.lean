/- The walk of Verify: package shelf as it landed. -/
import Derived.Test.YtkjlchfmplcobadDoorProg
import Derived.Test.YtkjlchfmplcobadDoorRunAA
import Derived.Test.YtkjlchfmplcobadDoorTreeGoShow
import Derived.WalkKit
import Derived.WalkSpells
import Derived.WalkLawsBesides
import Derived.Deep.QuietTactic
import Derived.BigQuiet
namespace Go.Proofs.YtkjlchfmplcobadDoor
open Go.RowKit

/-- What Verify tells, and that it lies in new memory. -/
def VerifyOC : Prop := ∀ (m : Man) (mv : Value) (w : World), Ready w → ManAt w mv m →
  Calls Tryd.prog 16 #[mv] w fun e w' => ∃ xa xn xc, e = .returned (.tuple #[.slice xa xn xc, faultV (verifyL m).2]) ∧ Laid w' xa xn xc (verifyL m).1 ∧ (∀ b off, xa = some ⟨b, off, none⟩ → w.heap.size ≤ b) ∧ Below w.heap.size w w'
set_option maxRecDepth 100000 in
set_option maxHeartbeats 4000000 in
theorem verifyO_of (hSeg : SegmentC) (hRoot : RootC) : VerifyOC := by
  intro m mv w hrd hM
  obtain ⟨i0, hi0, hz0, hz1, hz2⟩ := info_parts Tryd.info23b
  have hS : ∀ w' (k : Nat), Below w.heap.size w w' → _ := fun w' k h => hSeg m k mv w' (hM.below h)
  obtain ⟨rv, sv, rfl, hr, a, c, rfl, hN1, hN2, hN3, hcell⟩ := hM
  have hsb : SegsBytes m.segs := SegsAt.bytes ⟨a, c, rfl, hN1, hN2, hN3, hcell⟩
  unfold maxLen at hN2
  clear hcell
  have x0 := box_old _ (.cells #[.int .i64 0, .int .i64 0] 31) (box_new w #[.int .i64 m.size, rv, .slice a m.segs.length c] 28)
  have y0 := box_last w (.cells #[.int .i64 m.size, rv, .slice a m.segs.length c] 28) #[.int .i64 0, .int .i64 0] 31
  have b0 : Below w.heap.size w ((w.alloc (.cells #[.int .i64 m.size, rv, .slice a m.segs.length c] 28)).alloc (.cells #[.int .i64 0, .int .i64 0] 31)) := ((Below.refl _ _).alloc (Nat.le_refl _) _).alloc (by simp) _
  obtain ⟨u0, u1, u2, -, -, -⟩ := box_three x0
  obtain ⟨v0, v1, v2, v3⟩ := box_two y0
  have hI := isSize_any m.size
  by_cases h1 : 0 ≤ m.size ∧ m.size ≤ 100
  · have hF := fun W => segmentsFor_any m.size W h1.1 h1.2
    rw [sizeB_true h1.1 h1.2] at hI
    by_cases h2 : (m.segs.length : Int) = (m.size + 7) / 8
    · have hmany : manyB m = true := decide_eq_true ⟨h1.1, h1.2, h2⟩
      have hF' : ∀ W, Calls Tryd.prog 36 #[.int .i64 m.size] W fun e w' => e = .returned (.int .i64 (m.segs.length : Int)) ∧ w' = W := fun W => by rw [h2]; exact hF W
      have hnn : ((m.segs.length : Int) != (m.segs.length : Int)) = false := by simp
      have hN13 : m.segs.length ≤ 13 := by omega
      have hUL := upTo_few m
      have hUS := upTo_succ m
      have hUB := upTo_bytes hsb
      have HV1 : ∀ k : Nat, Hid (k < m.segs.length → (∀ j : Nat, j < k → (segmentL m (j : Int)).2 = 0) → (segmentL m (k : Int)).2 ≠ 0 → verifyL m = ([], (segmentL m (k : Int)).2, (k : Int))) := fun k h3 h4 h5 => verify_bad hmany h3 h4 h5
      have HV2 : Hid ((∀ j : Nat, j < m.segs.length → (segmentL m (j : Int)).2 = 0) → verifyL m = if mth (upTo m m.segs.length) ≠ m.root then ([], 9, 0) else (upTo m m.segs.length, 0, 0)) := fun h => verify_good hmany h
      have HU100 : Hid ((∀ j : Nat, j < m.segs.length → (segmentL m (j : Int)).2 = 0) → (upTo m m.segs.length).length ≤ 100) := fun h => by have := upTo_length hmany _ (Nat.le_refl _) h; omega
      clear hF h2 hmany h1
      generalize m.segs.length = N at *
      generalize m.size = size at *
      go_enter Tryd.func16, Tryd.ntmps16
      go_wp2_with fail
      go_quiet ((first | (go_at_call 35; exact Calls.quiet_of_same (hI _)) | (go_at_call 36; exact Calls.quiet_of_same (hF' _))))
      replace b0 := below_drewN' b0 nq
      have x1 : (((w.alloc (.cells #[.int .i64 size, rv, .slice a N c] 28)).alloc (.cells #[.int .i64 0, .int .i64 0] 31)).drewN nq).heap[w.heap.size]? = _ := x0
      have y1 : (((w.alloc (.cells #[.int .i64 size, rv, .slice a N c] 28)).alloc (.cells #[.int .i64 0, .int .i64 0] 31)).drewN nq).heap[w.heap.size + 1]? = _ := y0
      generalize ((w.alloc (.cells #[.int .i64 size, rv, .slice a N c] 28)).alloc (.cells #[.int .i64 0, .int .i64 0] 31)).drewN nq = w1 at *
      clear x0 y0 u0 u1 u2 v0 v1 v2 v3 hI hF' hnn
      obtain ⟨u0, u1, u2, -, -, -⟩ := box_three x1
      obtain ⟨v0, v1, v2, v3⟩ := box_two y1
      go_wp2_with fail
      clear u0 u1 u2 v0 v1 v2 v3
      go_loopw [4, 29] (fun av kv wr => ∃ (k : Nat) (va : Option Addr) (vn vc : Nat) (vs : List Value), k ≤ N ∧ kv = .int .i64 k ∧ av = .slice va vn vc ∧ Hid (vn = (upTo m k).length) ∧ wr.ownsRow w.heap.size 23 1 (.slice va vn vc) vn vs ∧ Els wr vs (upTo m k) ∧ Hid (∀ j : Nat, j < k → (segmentL m (j : Int)).2 = 0) ∧ wr.heap[w.heap.size]? = some (.cells #[.int .i64 size, rv, .slice a N c] 28 (0, 0)) ∧ wr.heap[w.heap.size + 1]? = some (.cells #[.int .i64 0, .int .i64 0] 31 (0, 0)) ∧ Below w.heap.size w wr) (fun _ kv _ => N - (intOf kv).toNat)
      case atStart => exact ⟨0, none, 0, 0, [], Nat.zero_le _, rfl, rfl, rfl, World.ownsRow_nil _ _ _ _, els_nil _, fun j hj => absurd hj (Nat.not_lt_zero _), x1, y1, b0⟩
      case round =>
        obtain ⟨wo, rfl⟩ : ∃ x, x = wr := ⟨wr, rfl⟩
        obtain ⟨k, va, vn, vc, vs, hk, rfl, rfl, HN, hrow, hels, HO, xo, yo, hbr⟩ := hrel
        have hsr := hbr.size
        clear x1 y1 b0
        have hlenk := (hUL k).1
        rw [← HN.out] at hlenk
        obtain ⟨u0, u1, u2, -, -, -⟩ := box_three xo
        obtain ⟨v0, v1, v2, v3⟩ := box_two yo
        by_cases hlt : k < N
        · have hlt' : (k : Int) < N := by omega
          have hS1 := hS wo k hbr
          have HV := HV1 k
          have hsu := hUS k
          have HF : Hid ((segmentL m (k : Int)).2 = 0 → ∀ j : Nat, j < k + 1 → (segmentL m (j : Int)).2 = 0) := fun h j hj => by
            by_cases e : j = k
            · rw [e]; exact h
            · exact HO.out j (by omega)
          have hl8 := (segment_few m (k : Int)).1
          have HSU : Hid (upTo m (k + 1) = upTo m k ++ (segmentL m (k : Int)).1) := hsu
          clear hsu HV1 HV2 HU100 hUS hUB hUL hS
          generalize segmentL m (k : Int) = R at *
          obtain ⟨l, er⟩ := R
          dsimp only at hS1 HV HF HSU hl8
          go_wp2_with fail
          refine hS1.mono ?_
          rintro e w2 ⟨xa, xn, xc, rfl, hl, hb2⟩
          have b2 := hbr.trans (hb2.mono hsr)
          have x2 := box_kept xo hb2
          have y2 := box_kept yo hb2
          have hrow2 := own_below hrow hb2 (Nat.le_refl _)
          have hels2 := hels.below hb2 (Nat.le_refl _)
          clear hS1 hrow hels xo yo u0 u1 u2 v0 v1 v2 v3
          by_cases her : er = 0
          · subst her
            obtain ⟨us, hu1, hu2⟩ := hl.els
            have hln := hl.lists.len
            have hnil := hl.lists.nil
            have hone := hu1.one
            have hul : us.length = xn := by rw [hu1.1, hln]
            clear HV
            go_wp2_with (at_builtin; refine wpList_append_parts rfl (.tmp 43) (.tmp 44) 22 rfl w.heap.size 23 i0 (.slice none 0 0) 24 Tryd.underlying22 hi0 hz0 hz1 hz2 rfl _ _ _ rfl hrow2 xa xn xc us rfl hnil hul hu2 hone (by unfold maxLen; omega) (by omega) b2.size ?_; intro v7 w7 ho7 hg7; obtain ⟨sa, sc, rfl⟩ := own_form' ho7)
            have b7 : Below w.heap.size w w7 := b2.grown hg7 b2.size (fun _ h => own_block hrow2 h)
            have hels7 : Els w7 (vs ++ us) (upTo m (k + 1)) := by rw [HSU.out]; exact (hels2.append hu1).kept hrow2 (by decide) hg7
            have x7 := grown_box hg7 hrow2 x2 (by decide)
            have y7 := grown_box hg7 hrow2 y2 (by decide)
            go_roundw
            case rel => exact ⟨k + 1, sa, _, sc, vs ++ us, by omega, by go_num, rfl, by show _ = _; rw [HSU.out, List.length_append, hln, HN.out], ho7, hels7, HF.out (by trivial), x7, y7, b7⟩
            case measure => simp [intOf]; omega
          · have her' : (er != 0) = true := by simpa using her
            have HV2 : Hid (verifyL m = ([], er, (k : Int))) := HV.out hlt HO.out her
            obtain ⟨v0, v1, v2, v3⟩ := box_two y2
            clear HV HF hl hels2 hrow2 her
            go_wp2_with fail
            exact bodyPost_ret (v := .tuple #[.slice none 0 0, faultV (er, (k : Int))]) (by simp [results, Tryd.results16, go_sem, v0, v1]) rfl ⟨none, 0, 0, by rw [HV2.out], by rw [HV2.out]; exact laid_nil _, (fun _ _ h => by cases h), (b2.setCell (Nat.le_succ _) _).setCell (Nat.le_succ _) _⟩
        · obtain rfl : k = N := by omega
          have hnl : ¬ (k : Int) < k := by omega
          have HV := HV2.out HO.out
          have h100 := HU100.out HO.out
          have h200 := (hUL k).2
          have hby := hUB k
          have hw := wrong_zero (L := upTo m k) h100 (short_mem h200)
          have hla : Laid wo va vn vc (upTo m k) := laid_own hrow hels HN.out.symm hby (fun x hx => by have := h200 x hx; unfold maxLen; omega)
          have hR := hRoot (upTo m k) va vn vc wo (hrd.below hbr) hla.lists
          rw [hw] at hR
          have hml := mth_length (upTo m k)
          have hmb := bytes_mth (upTo m k)
          have HVR : Hid (verifyL m = if mth (upTo m k) ≠ m.root then ([], 9, 0) else (upTo m k, 0, 0)) := HV
          have hroot := fun w' (h : Below w.heap.size w w') => hr.below h
          clear HV HV1 HV2 HU100 hUL hUS hUB hS HO hw hels h200 hby
          generalize upTo m k = UL at *
          generalize mth UL = M at *
          go_wp2_with fail
          refine hR.mono ?_
          rintro e w2 ⟨xa, xn, xc, rfl, ho, -, hb2⟩
          replace ho := ho trivial
          obtain rfl := own_len ho
          have b2 := hbr.trans (hb2.mono hsr)
          have x2 := box_old _ (.cells #[.int .i64 0, .int .i64 0] 31) (box_kept xo hb2)
          have y2 := box_old _ (.cells #[.int .i64 0, .int .i64 0] 31) (box_kept yo hb2)
          have b3 : Below w.heap.size w (w2.alloc (.cells #[.int .i64 0, .int .i64 0] 31)) := b2.alloc b2.size _
          have hl3 := (hla.below hb2).below ((Below.refl _ _).alloc (Nat.le_refl _) (.cells #[.int .i64 0, .int .i64 0] 31))
          have hr3 := hroot _ b3
          have ho3 := bytesAt_own (ho.alloc (.cells #[.int .i64 0, .int .i64 0] 31))
          have hE := equal_any M m.root (.slice xa 32 xc) rv _ ho3 hr3.at' hmb hr3.bytes
          obtain ⟨u0', u1', u2', -, -, -⟩ := box_three x2
          obtain ⟨v0', v1', v2', v3'⟩ := box_two y2
          have hne : vn ≠ 0 → ∀ g off, va = some ⟨g, off, none⟩ → g ≠ w.heap.size + 1 := fun _ g off e h => own_apart hrow (t := 31) (by decide) yo (by subst e; rw [← h]; rfl)
          have hlow : ∀ b off, va = some ⟨b, off, none⟩ → w.heap.size ≤ b := fun b off e => by subst e; exact (hrow.lt b rfl).1
          have HLow : Hid (∀ b off, va = some ⟨b, off, none⟩ → w.heap.size ≤ b) := hlow
          clear hlow
          clear hR hla hrow xo yo hroot u0 u1 u2 v0 v1 v2 v3 ho
          go_wp2_with fail
          generalize hw3 : w2.alloc (.cells #[.int .i64 0, .int .i64 0] 31) = w3 at *
          refine hE.mono ?_
          rintro e w4 ⟨rfl, rfl⟩
          clear hE
          by_cases hq : M = m.root
          · rw [decide_eq_true hq]
            have HV2 : Hid (verifyL m = (UL, 0, 0)) := by show _ = _; rw [HVR.out, if_neg (fun h => h hq)]
            have hl4 := (hl3.set (o := 0) y2 (by decide) hne (.int .i64 0)).set (o := 1) (heap_setCell_same _ _ 0 _ _ (.int .i64 0) y2) (by decide) hne (.int .i64 0)
            go_wp2_with fail
            exact bodyPost_ret (v := .tuple #[.slice va vn vc, faultV (0, 0)]) (by simp [results, Tryd.results16, go_sem, v0', v1']) rfl ⟨va, vn, vc, by rw [HV2.out], by rw [HV2.out]; exact hl4, HLow.out, (b3.setCell (Nat.le_succ _) _).setCell (Nat.le_succ _) _⟩
          · rw [decide_eq_false hq]
            have HV2 : Hid (verifyL m = ([], 9, 0)) := by show _ = _; rw [HVR.out, if_pos hq]
            go_wp2_with fail
            exact bodyPost_ret (v := .tuple #[.slice none 0 0, faultV (9, 0)]) (by simp [results, Tryd.results16, go_sem, v0', v1']) rfl ⟨none, 0, 0, by rw [HV2.out], by rw [HV2.out]; exact laid_nil _, (fun _ _ h => by cases h), (b3.setCell (Nat.le_succ _) _).setCell (Nat.le_succ _) _⟩
    · have HE : Hid (verifyL m = ([], 5, 0)) := verify_many (decide_eq_false (fun h => h2 h.2.2))
      have h2' : ((m.segs.length : Int) != (m.size + 7) / 8) = true := by simpa using h2
      clear hS h2 h1
      generalize m.segs.length = N at *
      generalize m.size = size at *
      generalize (size + 7) / 8 = Q at *
      go_enter Tryd.func16, Tryd.ntmps16
      go_wp2_with fail
      go_quiet ((first | (go_at_call 35; exact Calls.quiet_of_same (hI _)) | (go_at_call 36; exact Calls.quiet_of_same (hF _))))
      go_wp2_with fail
      exact bodyPost_ret (v := .tuple #[.slice none 0 0, faultV (5, 0)]) (by simp [results, Tryd.results16, go_sem, v0, v1]) rfl ⟨none, 0, 0, by rw [HE.out], by rw [HE.out]; exact laid_nil _, (fun _ _ h => by cases h), (((below_drewN' b0 _).setCell (Nat.le_succ _) _).setCell (Nat.le_succ _) _)⟩
  · have HE : Hid (verifyL m = ([], 5, 0)) := verify_many (decide_eq_false (fun h => h1 ⟨h.1, h.2.1⟩))
    rw [sizeB_false h1] at hI
    clear hS h1
    generalize m.segs.length = N at *
    generalize m.size = size at *
    go_enter Tryd.func16, Tryd.ntmps16
    go_wp2_with fail
    go_quiet ((first | (go_at_call 35; exact Calls.quiet_of_same (hI _))))
    go_wp2_with fail
    exact bodyPost_ret (v := .tuple #[.slice none 0 0, faultV (5, 0)]) (by simp [results, Tryd.results16, go_sem, v0, v1]) rfl ⟨none, 0, 0, by rw [HE.out], by rw [HE.out]; exact laid_nil _, (fun _ _ h => by cases h), (((below_drewN' b0 _).setCell (Nat.le_succ _) _).setCell (Nat.le_succ _) _)⟩

theorem verifyC_of (hSeg : SegmentC) (hRoot : RootC) : VerifyC := fun m mv w hrd hM => (verifyO_of hSeg hRoot m mv w hrd hM).mono (by
  rintro e w' ⟨xa, xn, xc, h1, h2, -, h3⟩
  exact ⟨xa, xn, xc, h1, h2, h3⟩)

end Go.Proofs.YtkjlchfmplcobadDoor
