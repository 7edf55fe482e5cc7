/- The walk of yearref5.Verify. -/
import Derived.Test.YtkjlchfmplcobadDoorProg
import Derived.Test.YtkjlchfmplcobadDoorShelfRefSegment
import Derived.Test.YtkjlchfmplcobadDoorRunAA
import Derived.Test.YtkjlchfmplcobadDoorRunAF
import Derived.Test.YtkjlchfmplcobadDoorRunAC
import Derived.WalkKit
import Derived.WalkSpells
import Derived.WalkLawsBesides
import Derived.Deep.RegionWith
import Derived.BigRegion
namespace Go.Proofs.YtkjlchfmplcobadDoor
open Go.RowKit

set_option maxRecDepth 100000 in
set_option maxHeartbeats 4000000 in
theorem refVerifyO_any (m : Man) (mv : Value) (w : World) (hM : ManAt w mv m) :
    Calls Tryd.prog 17 #[mv] w fun e w' => ∃ xa xn xc, e = .returned (.tuple #[.slice xa xn xc, faultV (verifyL m).2]) ∧ Laid w' xa xn xc (verifyL m).1 ∧ (∀ b off, xa = some ⟨b, off, none⟩ → w.heap.size ≤ b) ∧ Below w.heap.size w w' := by
  obtain ⟨i0, hi0, hz0, hz1, hz2⟩ := info_parts Tryd.info23b
  have hS : ∀ w' (k : Nat), Below w.heap.size w w' → _ := fun w' k h => refSegment_any m k mv w' (hM.below h)
  obtain ⟨rv, sv, rfl, hr, a, c, rfl, hN1, hN2, hN3, hcell⟩ := hM
  have hsb : SegsBytes m.segs := SegsAt.bytes ⟨a, c, rfl, hN1, hN2, hN3, hcell⟩
  unfold maxLen at hN2
  clear hcell
  have x0 := box_old _ (.cells #[.int .i64 0, .int .i64 0] 31) (box_new w #[.int .i64 m.size, rv, .slice a m.segs.length c] 28)
  have y0 := box_last w (.cells #[.int .i64 m.size, rv, .slice a m.segs.length c] 28) #[.int .i64 0, .int .i64 0] 31
  have b0 : Below w.heap.size w ((w.alloc (.cells #[.int .i64 m.size, rv, .slice a m.segs.length c] 28)).alloc (.cells #[.int .i64 0, .int .i64 0] 31)) := ((Below.refl _ _).alloc (Nat.le_refl _) _).alloc (by simp) _
  obtain ⟨u0, u1, u2, -, -, -⟩ := box_three x0
  obtain ⟨v0, v1, v2, v3⟩ := box_two y0
  by_cases h1 : 0 ≤ m.size ∧ m.size ≤ 100
  · have p1 : ¬ m.size < 0 := by omega
    have p2 : ¬ 100 < m.size := by omega
    have p3 : (0 : Int) ≤ m.size := h1.1
    by_cases h2 : (m.segs.length : Int) = (m.size + 7) / 8
    · have hmany : manyB m = true := decide_eq_true ⟨h1.1, h1.2, h2⟩
      have hnn : (1 < m.size % 8 ∧ ((m.segs.length : Int) != m.size / 8 + 1) = false) ∨ (¬ 1 < m.size % 8 ∧ ((m.segs.length : Int) != m.size / 8 + m.size % 8) = false) := by
        by_cases h : 1 < m.size % 8
        · exact .inl ⟨h, by simp; omega⟩
        · exact .inr ⟨h, by simp; omega⟩
      have hN13 : m.segs.length ≤ 13 := by omega
      have hUL := upTo_few m
      have hUS := upTo_succ m
      have hUB := upTo_bytes hsb
      have HV1 : ∀ k : Nat, Hid (k < m.segs.length → (∀ j : Nat, j < k → (segmentL m (j : Int)).2 = 0) → (segmentL m (k : Int)).2 ≠ 0 → verifyL m = ([], (segmentL m (k : Int)).2, (k : Int))) := fun k h3 h4 h5 => verify_bad hmany h3 h4 h5
      have HV2 : Hid ((∀ j : Nat, j < m.segs.length → (segmentL m (j : Int)).2 = 0) → verifyL m = if mth (upTo m m.segs.length) ≠ m.root then ([], 9, 0) else (upTo m m.segs.length, 0, 0)) := fun h => verify_good hmany h
      have HU100 : Hid ((∀ j : Nat, j < m.segs.length → (segmentL m (j : Int)).2 = 0) → (upTo m m.segs.length).length ≤ 100) := fun h => by have := upTo_length hmany _ (Nat.le_refl _) h; omega
      clear h2 hmany h1
      generalize m.segs.length = N at *
      generalize m.size = size at *
      rcases hnn with ⟨hmn, hnn⟩ | ⟨hmn, hnn⟩
      all_goals
        go_enter Tryd.func17, Tryd.ntmps17
        go_wp2_with fail
        generalize (w.alloc (.cells #[.int .i64 size, rv, .slice a N c] 28)).alloc (.cells #[.int .i64 0, .int .i64 0] 31) = w1 at *
        obtain ⟨x1, y1⟩ := (⟨x0, y0⟩ : _ ∧ _)
        clear x0 y0 u0 u1 u2 v0 v1 v2 v3 hmn hnn
        go_loopw [5, 34] (fun av kv wr => ∃ (k : Nat) (va : Option Addr) (vn vc : Nat) (vs : List Value), k ≤ N ∧ kv = .int .i64 k ∧ av = .slice va vn vc ∧ Hid (vn = (upTo m k).length) ∧ wr.ownsRow w.heap.size 23 1 (.slice va vn vc) vn vs ∧ Els wr vs (upTo m k) ∧ Hid (∀ j : Nat, j < k → (segmentL m (j : Int)).2 = 0) ∧ wr.heap[w.heap.size]? = some (.cells #[.int .i64 size, rv, .slice a N c] 28 (0, 0)) ∧ wr.heap[w.heap.size + 1]? = some (.cells #[.int .i64 0, .int .i64 0] 31 (0, 0)) ∧ Below w.heap.size w wr) (fun _ kv _ => N - (intOf kv).toNat)
        case atStart => exact ⟨0, none, 0, 0, [], Nat.zero_le _, rfl, rfl, rfl, World.ownsRow_nil _ _ _ _, els_nil _, fun j hj => absurd hj (Nat.not_lt_zero _), x1, y1, b0⟩
        case round =>
          obtain ⟨wo, rfl⟩ : ∃ x, x = wr := ⟨wr, rfl⟩
          obtain ⟨k, va, vn, vc, vs, hk, rfl, rfl, HN, hrow, hels, HO, xo, yo, hbr⟩ := hrel
          have hsr := hbr.size
          clear x1 y1 b0
          have hlenk := (hUL k).1
          rw [← HN.out] at hlenk
          obtain ⟨u0, u1, u2, -, -, -⟩ := box_three xo
          obtain ⟨v0, v1, v2, v3⟩ := box_two yo
          by_cases hlt : k < N
          · have hlt' : (k : Int) < N := by omega
            have hS1 := hS wo k hbr
            have HV := HV1 k
            have hsu := hUS k
            have HF : Hid ((segmentL m (k : Int)).2 = 0 → ∀ j : Nat, j < k + 1 → (segmentL m (j : Int)).2 = 0) := fun h j hj => by
              by_cases e : j = k
              · rw [e]; exact h
              · exact HO.out j (by omega)
            have hl8 := (segment_few m (k : Int)).1
            have HSU : Hid (upTo m (k + 1) = upTo m k ++ (segmentL m (k : Int)).1) := hsu
            clear hsu HV1 HV2 HU100 hUS hUB hUL hS
            generalize segmentL m (k : Int) = R at *
            obtain ⟨l, er⟩ := R
            dsimp only at hS1 HV HF HSU hl8
            go_wp2_with fail
            refine hS1.mono ?_
            rintro e w2 ⟨xa, xn, xc, rfl, hl, hb2⟩
            have b2 := hbr.trans (hb2.mono hsr)
            have x2 := box_kept xo hb2
            have y2 := box_kept yo hb2
            have hrow2 := own_below hrow hb2 (Nat.le_refl _)
            have hels2 := hels.below hb2 (Nat.le_refl _)
            clear hS1 hrow hels xo yo u0 u1 u2 v0 v1 v2 v3
            by_cases her : er = 0
            · subst her
              obtain ⟨us, hu1, hu2⟩ := hl.els
              have hln := hl.lists.len
              have hnil := hl.lists.nil
              have hone := hu1.one
              have hul : us.length = xn := by rw [hu1.1, hln]
              clear HV
              go_wp2_with (at_builtin; refine wpList_append_parts rfl (.tmp 48) (.tmp 49) 22 rfl w.heap.size 23 i0 (.slice none 0 0) 24 Tryd.underlying22 hi0 hz0 hz1 hz2 rfl _ _ _ rfl hrow2 xa xn xc us rfl hnil hul hu2 hone (by unfold maxLen; omega) (by omega) b2.size ?_; intro v7 w7 ho7 hg7; obtain ⟨sa, sc, rfl⟩ := own_form' ho7)
              have b7 : Below w.heap.size w w7 := b2.grown hg7 b2.size (fun _ h => own_block hrow2 h)
              have hels7 : Els w7 (vs ++ us) (upTo m (k + 1)) := by rw [HSU.out]; exact (hels2.append hu1).kept hrow2 (by decide) hg7
              have x7 := grown_box hg7 hrow2 x2 (by decide)
              have y7 := grown_box hg7 hrow2 y2 (by decide)
              go_roundw
              case rel => exact ⟨k + 1, sa, _, sc, vs ++ us, by omega, by go_num, rfl, by show _ = _; rw [HSU.out, List.length_append, hln, HN.out], ho7, hels7, HF.out (by trivial), x7, y7, b7⟩
              case measure => simp [intOf]; omega
            · have her' : (er != 0) = true := by simpa using her
              have HV2 : Hid (verifyL m = ([], er, (k : Int))) := HV.out hlt HO.out her
              obtain ⟨v0, v1, v2, v3⟩ := box_two y2
              clear HV HF hl hels2 hrow2 her
              go_wp2_with fail
              exact bodyPost_ret (v := .tuple #[.slice none 0 0, faultV (er, (k : Int))]) (by simp [results, Tryd.results17, go_sem, v0, v1]) rfl ⟨none, 0, 0, by rw [HV2.out], by rw [HV2.out]; exact laid_nil _, fun _ _ h => (by cases h), (b2.setCell (Nat.le_succ _) _).setCell (Nat.le_succ _) _⟩
          · obtain rfl : k = N := by omega
            have hnl : ¬ (k : Int) < k := by omega
            have HV := HV2.out HO.out
            have h100 := HU100.out HO.out
            have h200 := (hUL k).2
            have hby := hUB k
            have hw := wrong_zero (L := upTo m k) h100 (short_mem h200)
            have hla : Laid wo va vn vc (upTo m k) := laid_own hrow hels HN.out.symm hby (fun x hx => by have := h200 x hx; unfold maxLen; omega)
            have HLow : Hid (∀ b off, va = some ⟨b, off, none⟩ → w.heap.size ≤ b) := fun b off e => own_block hrow (by subst e; rfl)
            have hml := mth_length (upTo m k)
            have hmb := bytes_mth (upTo m k)
            have hvn : vn ≤ 100 := by have := HN.out; omega
            have hR := fun w' (h : Below w.heap.size w w') (h2 : Below wo.heap.size wo w') => mth_any vn (upTo m k) va vc w' HN.out.symm (by omega) (hla.below h2).lists.at' hla.lists.room hla.lists.cap hla.lists.bytes (short_mem (fun x hx => by have := h200 x hx; omega))
            have HVR : Hid (verifyL m = if mth (upTo m k) ≠ m.root then ([], 9, 0) else (upTo m k, 0, 0)) := HV
            have hroot := fun w' (h : Below w.heap.size w w') => hr.below h
            have hne : vn ≠ 0 → ∀ g off, va = some ⟨g, off, none⟩ → g ≠ w.heap.size + 1 := fun _ g off e h => own_apart hrow (t := 31) (by decide) yo (by subst e; rw [← h]; rfl)
            clear HV HV1 HV2 HU100 hUL hUS hUB hS HO hw hels h200 hby
            generalize upTo m k = UL at *
            generalize mth UL = M at *
            go_wp2_with fail
            have hR0 := hR _ hbr.drew (Below.refl _ _).drew
            have hSm := fun w' x (h : Below w.heap.size w w') (hx : BytesAt w' x M) => same_any M m.root x rv w' hx (hroot w' h).at' (by rw [hml]; unfold maxLen; omega)
            have hld := hla.below (Below.refl _ _).drew
            have hbd := hbr.drew
            by_cases hq : M = m.root
            · rw [decide_eq_true hq] at hSm
              have HV2 : Hid (verifyL m = (UL, 0, 0)) := by show _ = _; rw [HVR.out, if_neg (fun h => h hq)]
              clear hq HVR hR hla hrow
              go_region_with (first | (go_at_call 26; refine hR0.mono ?_; rintro e w2 ⟨x, rfl, ho, hb2⟩; have b2 := hbd.trans (hb2.mono hbd.size); have u1' := (hb2.cell (p := ⟨w.heap.size, 1, none⟩) (by exact lt_heap (w := wo) xo)).trans u1; have sE := hSm w2 x b2 (bytesAt_own ho); obtain ⟨xa, xc, rfl⟩ := own_form' ho) | (go_at_call 15; refine sE.mono ?_; rintro e w3 ⟨rfl, q3, rfl⟩))
              all_goals
                have d3 := below_drewN' (Below.refl w2.heap.size w2) q3
                have b3 := b2.trans (d3.mono b2.size)
                have y3 := box_kept (box_kept (w := wo.drew) yo hb2) d3
                have hl3 := (hld.below hb2).below d3
                generalize w2.drewN q3 = w3 at *
                obtain ⟨v0', v1', v2', v3'⟩ := box_two y3
                have hl4 := (hl3.set (o := 0) y3 (by decide) hne (.int .i64 0)).set (o := 1) (heap_setCell_same _ _ 0 _ _ (.int .i64 0) y3) (by decide) hne (.int .i64 0)
                clear sE hSm hR0 ho
                go_wp2_with fail
                exact bodyPost_ret (v := .tuple #[.slice va vn vc, faultV (0, 0)]) (by simp [results, Tryd.results17, go_sem, v0', v1']) rfl ⟨va, vn, vc, by rw [HV2.out], by rw [HV2.out]; exact hl4, HLow.out, (b3.setCell (Nat.le_succ _) _).setCell (Nat.le_succ _) _⟩
            · rw [decide_eq_false hq] at hSm
              have HV2 : Hid (verifyL m = ([], 9, 0)) := by show _ = _; rw [HVR.out, if_pos hq]
              clear hq HVR hR hla hrow
              go_region_with (first | (go_at_call 26; refine hR0.mono ?_; rintro e w2 ⟨x, rfl, ho, hb2⟩; have b2 := hbd.trans (hb2.mono hbd.size); have u1' := (hb2.cell (p := ⟨w.heap.size, 1, none⟩) (by exact lt_heap (w := wo) xo)).trans u1; have sE := hSm w2 x b2 (bytesAt_own ho); obtain ⟨xa, xc, rfl⟩ := own_form' ho) | (go_at_call 15; refine sE.mono ?_; rintro e w3 ⟨rfl, q3, rfl⟩))
              all_goals
                have d3 := below_drewN' (Below.refl w2.heap.size w2) q3
                have b3 := b2.trans (d3.mono b2.size)
                have y3 := box_kept (box_kept (w := wo.drew) yo hb2) d3
                generalize w2.drewN q3 = w3 at *
                obtain ⟨v0', v1', v2', v3'⟩ := box_two y3
                clear sE hSm hR0 ho
                go_wp2_with fail
                exact bodyPost_ret (v := .tuple #[.slice none 0 0, faultV (9, 0)]) (by simp [results, Tryd.results17, go_sem, v0', v1']) rfl ⟨none, 0, 0, by rw [HV2.out], by rw [HV2.out]; exact laid_nil _, fun _ _ h => (by cases h), (b3.setCell (Nat.le_succ _) _).setCell (Nat.le_succ _) _⟩
    · have HE : Hid (verifyL m = ([], 5, 0)) := verify_many (decide_eq_false (fun h => h2 h.2.2))
      have hnn : (1 < m.size % 8 ∧ ((m.segs.length : Int) != m.size / 8 + 1) = true) ∨ (¬ 1 < m.size % 8 ∧ ((m.segs.length : Int) != m.size / 8 + m.size % 8) = true) := by
        by_cases h : 1 < m.size % 8
        · exact .inl ⟨h, by simp; omega⟩
        · exact .inr ⟨h, by simp; omega⟩
      clear hS h2 h1
      generalize m.segs.length = N at *
      generalize m.size = size at *
      rcases hnn with ⟨hmn, hnn⟩ | ⟨hmn, hnn⟩
      all_goals
        go_enter Tryd.func17, Tryd.ntmps17
        go_wp2_with fail
        exact bodyPost_ret (v := .tuple #[.slice none 0 0, faultV (5, 0)]) (by simp [results, Tryd.results17, go_sem]) rfl ⟨none, 0, 0, by rw [HE.out], by rw [HE.out]; exact laid_nil _, fun _ _ h => (by cases h), ((Below.refl _ _).alloc (Nat.le_refl _) _).alloc (by simp) _⟩
  · have HE : Hid (verifyL m = ([], 5, 0)) := verify_many (decide_eq_false (fun h => h1 ⟨h.1, h.2.1⟩))
    have hcs : m.size < 0 ∨ (¬ m.size < 0 ∧ 100 < m.size) := by omega
    clear hS h1
    generalize m.segs.length = N at *
    generalize m.size = size at *
    rcases hcs with q1 | ⟨q1, q2⟩
    all_goals
      go_enter Tryd.func17, Tryd.ntmps17
      go_wp2_with fail
      exact bodyPost_ret (v := .tuple #[.slice none 0 0, faultV (5, 0)]) (by simp [results, Tryd.results17, go_sem]) rfl ⟨none, 0, 0, by rw [HE.out], by rw [HE.out]; exact laid_nil _, fun _ _ h => (by cases h), ((Below.refl _ _).alloc (Nat.le_refl _) _).alloc (by simp) _⟩
theorem refVerify_any (m : Man) (mv : Value) (w : World) (hM : ManAt w mv m) :
    Calls Tryd.prog 17 #[mv] w fun e w' => ∃ xa xn xc, e = .returned (.tuple #[.slice xa xn xc, faultV (verifyL m).2]) ∧ Laid w' xa xn xc (verifyL m).1 ∧ Below w.heap.size w w' :=
  (refVerifyO_any m mv w hM).mono fun _ _ ⟨xa, xn, xc, h1, h2, _, h3⟩ => ⟨xa, xn, xc, h1, h2, h3⟩

end Go.Proofs.YtkjlchfmplcobadDoor
