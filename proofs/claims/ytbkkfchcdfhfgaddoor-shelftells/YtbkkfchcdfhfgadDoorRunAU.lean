/- ShelfRefVerify, ShelfTellsWalk, ShelfGoLay, as one text. -/
import Derived.Test.YtbkkfchcdfhfgadDoorProg
import Derived.Test.YtbkkfchcdfhfgadDoorRunAP
import Derived.Test.YtbkkfchcdfhfgadDoorRunAJ
import Derived.Test.YtbkkfchcdfhfgadDoorRunAL
import Derived.WalkKit
import Derived.WalkSpells
import Derived.WalkLawsBesides
import Derived.Deep.RegionWith
import Derived.BigRegion
import Derived.Test.YtbkkfchcdfhfgadDoorRunAN
import Derived.Test.YtbkkfchcdfhfgadDoorRunAT
import Derived.Test.YtbkkfchcdfhfgadDoorRunAI
/- The walk of yearref5.Verify. -/
namespace Go.Proofs.YtbkkfchcdfhfgadDoor
open Go.RowKit

set_option maxRecDepth 100000 in
set_option maxHeartbeats 4000000 in
theorem refVerify_any (m : Man) (mv : Value) (w : World) (hM : ManAt w mv m) :
    Calls Tryd.prog 17 #[mv] w fun e w' => ∃ xa xn xc, e = .returned (.tuple #[.slice xa xn xc, faultV (verifyL m).2]) ∧ Laid w' xa xn xc (verifyL m).1 ∧ Below w.heap.size w w' := by
  obtain ⟨i0, hi0, hz0, hz1, hz2⟩ := info_parts Tryd.info23b
  have hS : ∀ w' (k : Nat), Below w.heap.size w w' → _ := fun w' k h => refSegment_any m k mv w' (hM.below h)
  obtain ⟨rv, sv, rfl, hr, a, c, rfl, hN1, hN2, hN3, hcell⟩ := hM
  have hsb : SegsBytes m.segs := SegsAt.bytes ⟨a, c, rfl, hN1, hN2, hN3, hcell⟩
  unfold maxLen at hN2
  clear hcell
  have x0 := box_old _ (.cells #[.int .i64 0, .int .i64 0] 31) (box_new w #[.int .i64 m.size, rv, .slice a m.segs.length c] 28)
  have y0 := box_last w (.cells #[.int .i64 m.size, rv, .slice a m.segs.length c] 28) #[.int .i64 0, .int .i64 0] 31
  have b0 : Below w.heap.size w ((w.alloc (.cells #[.int .i64 m.size, rv, .slice a m.segs.length c] 28)).alloc (.cells #[.int .i64 0, .int .i64 0] 31)) := ((Below.refl _ _).alloc (Nat.le_refl _) _).alloc (by simp) _
  obtain ⟨u0, u1, u2, -, -, -⟩ := box_three x0
  obtain ⟨v0, v1, v2, v3⟩ := box_two y0
  by_cases h1 : 0 ≤ m.size ∧ m.size ≤ 100
  · have p1 : ¬ m.size < 0 := by omega
    have p2 : ¬ 100 < m.size := by omega
    have p3 : (0 : Int) ≤ m.size := h1.1
    by_cases h2 : (m.segs.length : Int) = (m.size + 7) / 8
    · have hmany : manyB m = true := decide_eq_true ⟨h1.1, h1.2, h2⟩
      have hnn : (1 < m.size % 8 ∧ ((m.segs.length : Int) != m.size / 8 + 1) = false) ∨ (¬ 1 < m.size % 8 ∧ ((m.segs.length : Int) != m.size / 8 + m.size % 8) = false) := by
        by_cases h : 1 < m.size % 8
        · exact .inl ⟨h, by simp; omega⟩
        · exact .inr ⟨h, by simp; omega⟩
      have hN13 : m.segs.length ≤ 13 := by omega
      have hUL := upTo_few m
      have hUS := upTo_succ m
      have hUB := upTo_bytes hsb
      have HV1 : ∀ k : Nat, Hid (k < m.segs.length → (∀ j : Nat, j < k → (segmentL m (j : Int)).2 = 0) → (segmentL m (k : Int)).2 ≠ 0 → verifyL m = ([], (segmentL m (k : Int)).2, (k : Int))) := fun k h3 h4 h5 => verify_bad hmany h3 h4 h5
      have HV2 : Hid ((∀ j : Nat, j < m.segs.length → (segmentL m (j : Int)).2 = 0) → verifyL m = if mth (upTo m m.segs.length) ≠ m.root then ([], 9, 0) else (upTo m m.segs.length, 0, 0)) := fun h => verify_good hmany h
      have HU100 : Hid ((∀ j : Nat, j < m.segs.length → (segmentL m (j : Int)).2 = 0) → (upTo m m.segs.length).length ≤ 100) := fun h => by have := upTo_length hmany _ (Nat.le_refl _) h; omega
      clear h2 hmany h1
      generalize m.segs.length = N at *
      generalize m.size = size at *
      rcases hnn with ⟨hmn, hnn⟩ | ⟨hmn, hnn⟩
      all_goals
        go_enter Tryd.func17, Tryd.ntmps17
        go_wp2_with fail
        generalize (w.alloc (.cells #[.int .i64 size, rv, .slice a N c] 28)).alloc (.cells #[.int .i64 0, .int .i64 0] 31) = w1 at *
        obtain ⟨x1, y1⟩ := (⟨x0, y0⟩ : _ ∧ _)
        clear x0 y0 u0 u1 u2 v0 v1 v2 v3 hmn hnn
        go_loopw [5, 34] (fun av kv wr => ∃ (k : Nat) (va : Option Addr) (vn vc : Nat) (vs : List Value), k ≤ N ∧ kv = .int .i64 k ∧ av = .slice va vn vc ∧ Hid (vn = (upTo m k).length) ∧ wr.ownsRow w.heap.size 23 1 (.slice va vn vc) vn vs ∧ Els wr vs (upTo m k) ∧ Hid (∀ j : Nat, j < k → (segmentL m (j : Int)).2 = 0) ∧ wr.heap[w.heap.size]? = some (.cells #[.int .i64 size, rv, .slice a N c] 28 (0, 0)) ∧ wr.heap[w.heap.size + 1]? = some (.cells #[.int .i64 0, .int .i64 0] 31 (0, 0)) ∧ Below w.heap.size w wr) (fun _ kv _ => N - (intOf kv).toNat)
        case atStart => exact ⟨0, none, 0, 0, [], Nat.zero_le _, rfl, rfl, rfl, World.ownsRow_nil _ _ _ _, els_nil _, fun j hj => absurd hj (Nat.not_lt_zero _), x1, y1, b0⟩
        case round =>
          obtain ⟨wo, rfl⟩ : ∃ x, x = wr := ⟨wr, rfl⟩
          obtain ⟨k, va, vn, vc, vs, hk, rfl, rfl, HN, hrow, hels, HO, xo, yo, hbr⟩ := hrel
          have hsr := hbr.size
          clear x1 y1 b0
          have hlenk := (hUL k).1
          rw [← HN.out] at hlenk
          obtain ⟨u0, u1, u2, -, -, -⟩ := box_three xo
          obtain ⟨v0, v1, v2, v3⟩ := box_two yo
          by_cases hlt : k < N
          · have hlt' : (k : Int) < N := by omega
            have hS1 := hS wo k hbr
            have HV := HV1 k
            have hsu := hUS k
            have HF : Hid ((segmentL m (k : Int)).2 = 0 → ∀ j : Nat, j < k + 1 → (segmentL m (j : Int)).2 = 0) := fun h j hj => by
              by_cases e : j = k
              · rw [e]; exact h
              · exact HO.out j (by omega)
            have hl8 := (segment_few m (k : Int)).1
            have HSU : Hid (upTo m (k + 1) = upTo m k ++ (segmentL m (k : Int)).1) := hsu
            clear hsu HV1 HV2 HU100 hUS hUB hUL hS
            generalize segmentL m (k : Int) = R at *
            obtain ⟨l, er⟩ := R
            dsimp only at hS1 HV HF HSU hl8
            go_wp2_with fail
            refine hS1.mono ?_
            rintro e w2 ⟨xa, xn, xc, rfl, hl, hb2⟩
            have b2 := hbr.trans (hb2.mono hsr)
            have x2 := box_kept xo hb2
            have y2 := box_kept yo hb2
            have hrow2 := own_below hrow hb2 (Nat.le_refl _)
            have hels2 := hels.below hb2 (Nat.le_refl _)
            clear hS1 hrow hels xo yo u0 u1 u2 v0 v1 v2 v3
            by_cases her : er = 0
            · subst her
              obtain ⟨us, hu1, hu2⟩ := hl.els
              have hln := hl.lists.len
              have hnil := hl.lists.nil
              have hone := hu1.one
              have hul : us.length = xn := by rw [hu1.1, hln]
              clear HV
              go_wp2_with (at_builtin; refine wpList_append_parts rfl (.tmp 48) (.tmp 49) 22 rfl w.heap.size 23 i0 (.slice none 0 0) 24 Tryd.underlying22 hi0 hz0 hz1 hz2 rfl _ _ _ rfl hrow2 xa xn xc us rfl hnil hul hu2 hone (by unfold maxLen; omega) (by omega) b2.size ?_; intro v7 w7 ho7 hg7; obtain ⟨sa, sc, rfl⟩ := own_form' ho7)
              have b7 : Below w.heap.size w w7 := b2.grown hg7 b2.size (fun _ h => own_block hrow2 h)
              have hels7 : Els w7 (vs ++ us) (upTo m (k + 1)) := by rw [HSU.out]; exact (hels2.append hu1).kept hrow2 (by decide) hg7
              have x7 := grown_box hg7 hrow2 x2 (by decide)
              have y7 := grown_box hg7 hrow2 y2 (by decide)
              go_roundw
              case rel => exact ⟨k + 1, sa, _, sc, vs ++ us, by omega, by go_num, rfl, by show _ = _; rw [HSU.out, List.length_append, hln, HN.out], ho7, hels7, HF.out (by trivial), x7, y7, b7⟩
              case measure => simp [intOf]; omega
            · have her' : (er != 0) = true := by simpa using her
              have HV2 : Hid (verifyL m = ([], er, (k : Int))) := HV.out hlt HO.out her
              obtain ⟨v0, v1, v2, v3⟩ := box_two y2
              clear HV HF hl hels2 hrow2 her
              go_wp2_with fail
              exact bodyPost_ret (v := .tuple #[.slice none 0 0, faultV (er, (k : Int))]) (by simp [results, Tryd.results17, go_sem, v0, v1]) rfl ⟨none, 0, 0, by rw [HV2.out], by rw [HV2.out]; exact laid_nil _, (b2.setCell (Nat.le_succ _) _).setCell (Nat.le_succ _) _⟩
          · obtain rfl : k = N := by omega
            have hnl : ¬ (k : Int) < k := by omega
            have HV := HV2.out HO.out
            have h100 := HU100.out HO.out
            have h200 := (hUL k).2
            have hby := hUB k
            have hw := wrong_zero (L := upTo m k) h100 (short_mem h200)
            have hla : Laid wo va vn vc (upTo m k) := laid_own hrow hels HN.out.symm hby (fun x hx => by have := h200 x hx; unfold maxLen; omega)
            have hml := mth_length (upTo m k)
            have hmb := bytes_mth (upTo m k)
            have hvn : vn ≤ 100 := by have := HN.out; omega
            have hR := fun w' (h : Below w.heap.size w w') (h2 : Below wo.heap.size wo w') => mth_any vn (upTo m k) va vc w' HN.out.symm (by omega) (hla.below h2).lists.at' hla.lists.room hla.lists.cap hla.lists.bytes (short_mem (fun x hx => by have := h200 x hx; omega))
            have HVR : Hid (verifyL m = if mth (upTo m k) ≠ m.root then ([], 9, 0) else (upTo m k, 0, 0)) := HV
            have hroot := fun w' (h : Below w.heap.size w w') => hr.below h
            have hne : vn ≠ 0 → ∀ g off, va = some ⟨g, off, none⟩ → g ≠ w.heap.size + 1 := fun _ g off e h => own_apart hrow (t := 31) (by decide) yo (by subst e; rw [← h]; rfl)
            clear HV HV1 HV2 HU100 hUL hUS hUB hS HO hw hels h200 hby
            generalize upTo m k = UL at *
            generalize mth UL = M at *
            go_wp2_with fail
            have hR0 := hR _ hbr.drew (Below.refl _ _).drew
            have hSm := fun w' x (h : Below w.heap.size w w') (hx : BytesAt w' x M) => same_any M m.root x rv w' hx (hroot w' h).at' (by rw [hml]; unfold maxLen; omega)
            have hld := hla.below (Below.refl _ _).drew
            have hbd := hbr.drew
            by_cases hq : M = m.root
            · rw [decide_eq_true hq] at hSm
              have HV2 : Hid (verifyL m = (UL, 0, 0)) := by show _ = _; rw [HVR.out, if_neg (fun h => h hq)]
              clear hq HVR hR hla hrow
              go_region_with (first | (go_at_call 26; refine hR0.mono ?_; rintro e w2 ⟨x, rfl, ho, hb2⟩; have b2 := hbd.trans (hb2.mono hbd.size); have u1' := (hb2.cell (p := ⟨w.heap.size, 1, none⟩) (by exact lt_heap (w := wo) xo)).trans u1; have sE := hSm w2 x b2 (bytesAt_own ho); obtain ⟨xa, xc, rfl⟩ := own_form' ho) | (go_at_call 15; refine sE.mono ?_; rintro e w3 ⟨rfl, q3, rfl⟩))
              all_goals
                have d3 := below_drewN' (Below.refl w2.heap.size w2) q3
                have b3 := b2.trans (d3.mono b2.size)
                have y3 := box_kept (box_kept (w := wo.drew) yo hb2) d3
                have hl3 := (hld.below hb2).below d3
                generalize w2.drewN q3 = w3 at *
                obtain ⟨v0', v1', v2', v3'⟩ := box_two y3
                have hl4 := (hl3.set (o := 0) y3 (by decide) hne (.int .i64 0)).set (o := 1) (heap_setCell_same _ _ 0 _ _ (.int .i64 0) y3) (by decide) hne (.int .i64 0)
                clear sE hSm hR0 ho
                go_wp2_with fail
                exact bodyPost_ret (v := .tuple #[.slice va vn vc, faultV (0, 0)]) (by simp [results, Tryd.results17, go_sem, v0', v1']) rfl ⟨va, vn, vc, by rw [HV2.out], by rw [HV2.out]; exact hl4, (b3.setCell (Nat.le_succ _) _).setCell (Nat.le_succ _) _⟩
            · rw [decide_eq_false hq] at hSm
              have HV2 : Hid (verifyL m = ([], 9, 0)) := by show _ = _; rw [HVR.out, if_pos hq]
              clear hq HVR hR hla hrow
              go_region_with (first | (go_at_call 26; refine hR0.mono ?_; rintro e w2 ⟨x, rfl, ho, hb2⟩; have b2 := hbd.trans (hb2.mono hbd.size); have u1' := (hb2.cell (p := ⟨w.heap.size, 1, none⟩) (by exact lt_heap (w := wo) xo)).trans u1; have sE := hSm w2 x b2 (bytesAt_own ho); obtain ⟨xa, xc, rfl⟩ := own_form' ho) | (go_at_call 15; refine sE.mono ?_; rintro e w3 ⟨rfl, q3, rfl⟩))
              all_goals
                have d3 := below_drewN' (Below.refl w2.heap.size w2) q3
                have b3 := b2.trans (d3.mono b2.size)
                have y3 := box_kept (box_kept (w := wo.drew) yo hb2) d3
                generalize w2.drewN q3 = w3 at *
                obtain ⟨v0', v1', v2', v3'⟩ := box_two y3
                clear sE hSm hR0 ho
                go_wp2_with fail
                exact bodyPost_ret (v := .tuple #[.slice none 0 0, faultV (9, 0)]) (by simp [results, Tryd.results17, go_sem, v0', v1']) rfl ⟨none, 0, 0, by rw [HV2.out], by rw [HV2.out]; exact laid_nil _, (b3.setCell (Nat.le_succ _) _).setCell (Nat.le_succ _) _⟩
    · have HE : Hid (verifyL m = ([], 5, 0)) := verify_many (decide_eq_false (fun h => h2 h.2.2))
      have hnn : (1 < m.size % 8 ∧ ((m.segs.length : Int) != m.size / 8 + 1) = true) ∨ (¬ 1 < m.size % 8 ∧ ((m.segs.length : Int) != m.size / 8 + m.size % 8) = true) := by
        by_cases h : 1 < m.size % 8
        · exact .inl ⟨h, by simp; omega⟩
        · exact .inr ⟨h, by simp; omega⟩
      clear hS h2 h1
      generalize m.segs.length = N at *
      generalize m.size = size at *
      rcases hnn with ⟨hmn, hnn⟩ | ⟨hmn, hnn⟩
      all_goals
        go_enter Tryd.func17, Tryd.ntmps17
        go_wp2_with fail
        exact bodyPost_ret (v := .tuple #[.slice none 0 0, faultV (5, 0)]) (by simp [results, Tryd.results17, go_sem]) rfl ⟨none, 0, 0, by rw [HE.out], by rw [HE.out]; exact laid_nil _, ((Below.refl _ _).alloc (Nat.le_refl _) _).alloc (by simp) _⟩
  · have HE : Hid (verifyL m = ([], 5, 0)) := verify_many (decide_eq_false (fun h => h1 ⟨h.1, h.2.1⟩))
    have hcs : m.size < 0 ∨ (¬ m.size < 0 ∧ 100 < m.size) := by omega
    clear hS h1
    generalize m.segs.length = N at *
    generalize m.size = size at *
    rcases hcs with q1 | ⟨q1, q2⟩
    all_goals
      go_enter Tryd.func17, Tryd.ntmps17
      go_wp2_with fail
      exact bodyPost_ret (v := .tuple #[.slice none 0 0, faultV (5, 0)]) (by simp [results, Tryd.results17, go_sem]) rfl ⟨none, 0, 0, by rw [HE.out], by rw [HE.out]; exact laid_nil _, ((Below.refl _ _).alloc (Nat.le_refl _) _).alloc (by simp) _⟩

end Go.Proofs.YtbkkfchcdfhfgadDoor

/- The walk of the law ShelfTells, over the faces of package shelf and the document's own answer. -/
namespace Go.Proofs.YtbkkfchcdfhfgadDoor
open Go.RowKit

set_option maxRecDepth 100000 in
set_option maxHeartbeats 4000000 in
theorem shelfTells_any (hEx : ExportC) (hSeg : SegmentC) (hEn : EntryC) (hVe : VerifyC) (L : List (List Int)) (m : Man) (k i : Int) (a : Option Addr) (n c : Nat) (mv : Value) (w : World) (hR : Ready w) (hL : Lists w a n c L) (hM : ManAt w mv m) (hi : i ≤ 9223372036854775807) :
    Calls Tryd.prog 3 #[.slice a n c, mv, .int .i64 k, .int .i64 i] w fun e w' => e = .returned (.bool true) ∧ Below w.heap.size w w' := by
  have cE := fun w' (h : Below w.heap.size w w') => hEx L a n c w' (hR.below h) (hL.below h)
  have rE := fun w' (h : Below w.heap.size w w') => refExport_any L a n c w' (hL.below h)
  have cS := fun w' (h : Below w.heap.size w w') => hSeg m k mv w' (hM.below h)
  have rS := fun w' (h : Below w.heap.size w w') => refSegment_any m k mv w' (hM.below h)
  have cN := fun w' (h : Below w.heap.size w w') => hEn m i mv w' (hM.below h) hi
  have rN := fun w' (h : Below w.heap.size w w') => refEntry_any m i mv w' (hM.below h) hi
  have cV := fun w' (h : Below w.heap.size w w') => hVe m mv w' (hR.below h) (hM.below h)
  have rV := fun w' (h : Below w.heap.size w w') => refVerify_any m mv w' (hM.below h)
  have hs8 := segment_few m k
  have hv1 := verify_few (m := m)
  obtain ⟨rv, sv, rfl, hr, sa, sc, rfl, hN1, hN2, hN3, hcell⟩ := hM
  have x0 := box_new w #[.int .i64 m.size, rv, .slice sa m.segs.length sc] 28
  have b0 : Below w.heap.size w (w.alloc (.cells #[.int .i64 m.size, rv, .slice sa m.segs.length sc] 28)) := (Below.refl _ _).alloc (Nat.le_refl _) _
  clear hcell hr hN1 hN2 hN3
  generalize m.segs.length = sn at *
  generalize m.size = size at *
  generalize wrongL L = F at *
  generalize exportL L = E at *
  generalize segmentL m k = SS at *
  generalize entryL m i = EN at *
  generalize verifyL m = V at *
  obtain ⟨F1, F2⟩ := F
  obtain ⟨S0, S1⟩ := SS
  obtain ⟨N0, N1⟩ := EN
  obtain ⟨V0, V1, V2⟩ := V
  dsimp only [faultV] at cE rE cS rS cN rN cV rV hs8 hv1
  have cE0 := cE _ b0
  go_enter Tryd.func3, Tryd.ntmps3
  go_wp2_with fail
  generalize w.alloc (.cells #[.int .i64 size, rv, .slice sa sn sc] 28) = w0 at *
  refine cE0.mono ?_
  rintro e w1 ⟨m1, rfl, hM1, hb1⟩
  have b1 := b0.trans (hb1.mono b0.size)
  have hw1 := b1.size
  obtain ⟨r1, s1, rfl, hr1, a1, c1, rfl, p1, p2, p3, p4⟩ := hM1
  obtain ⟨ra1, rc1, rfl⟩ := hr1.at'.form
  have hM1 : ManAt w1 (.agg #[.int .i64 E.size, .slice ra1 E.root.length rc1, .slice a1 E.segs.length c1]) E := ⟨_, _, rfl, hr1, a1, c1, rfl, p1, p2, p3, p4⟩
  clear p1 p2 p3 p4 hr1 cE cE0
  have d2 : Below w1.heap.size w1 ((w1.alloc (.cells #[.int .i64 E.size, .slice ra1 E.root.length rc1, .slice a1 E.segs.length c1] 28)).alloc (.cells #[.int .i64 F1, .int .i64 F2] 31)) := ((Below.refl _ _).alloc (Nat.le_refl _) _).alloc (by simp) _
  have b2 := b1.trans (d2.mono b1.size)
  have x2 := box_old _ (.cells #[.int .i64 F1, .int .i64 F2] 31) (box_old _ (.cells #[.int .i64 E.size, .slice ra1 E.root.length rc1, .slice a1 E.segs.length c1] 28) (box_kept x0 hb1))
  have g2 := box_old _ (.cells #[.int .i64 F1, .int .i64 F2] 31) (box_new w1 #[.int .i64 E.size, .slice ra1 E.root.length rc1, .slice a1 E.segs.length c1] 28)
  have f2 := box_last w1 (.cells #[.int .i64 E.size, .slice ra1 E.root.length rc1, .slice a1 E.segs.length c1] 28) #[.int .i64 F1, .int .i64 F2] 31
  have hM2 := hM1.below d2
  clear hM1 x0 b0 b1 hb1
  go_wp2_with fail
  generalize (w1.alloc (.cells #[.int .i64 E.size, .slice ra1 E.root.length rc1, .slice a1 E.segs.length c1] 28)).alloc (.cells #[.int .i64 F1, .int .i64 F2] 31) = w2 at *
  refine (rE _ b2).mono ?_
  rintro e w3 ⟨m3, rfl, hM3, hb3⟩
  have b3 := b2.trans (hb3.mono b2.size)
  obtain ⟨r3, s3, rfl, hr3, a3, c3, rfl, p1, p2, p3, p4⟩ := hM3
  obtain ⟨ra3, rc3, rfl⟩ := hr3.at'.form
  have hM3 : ManAt w3 (.agg #[.int .i64 E.size, .slice ra3 E.root.length rc3, .slice a3 E.segs.length c3]) E := ⟨_, _, rfl, hr3, a3, c3, rfl, p1, p2, p3, p4⟩
  clear p1 p2 p3 p4 hr3 rE
  have d4 : Below w3.heap.size w3 ((w3.alloc (.cells #[.int .i64 E.size, .slice ra3 E.root.length rc3, .slice a3 E.segs.length c3] 28)).alloc (.cells #[.int .i64 F1, .int .i64 F2] 31)) := ((Below.refl _ _).alloc (Nat.le_refl _) _).alloc (by simp) _
  have c4 := hb3.trans (d4.mono hb3.size)
  have b4 := b2.trans (c4.mono b2.size)
  have x4 := box_kept x2 c4
  have g4 := box_kept g2 c4
  have f4 := box_kept f2 c4
  have g4' := box_old _ (.cells #[.int .i64 F1, .int .i64 F2] 31) (box_new w3 #[.int .i64 E.size, .slice ra3 E.root.length rc3, .slice a3 E.segs.length c3] 28)
  have f4' := box_last w3 (.cells #[.int .i64 E.size, .slice ra3 E.root.length rc3, .slice a3 E.segs.length c3] 28) #[.int .i64 F1, .int .i64 F2] 31
  have sM := sameMan_yes E _ _ _ (hM2.below c4) (hM3.below d4)
  have hgs : w1.heap.size + 1 < w2.heap.size := lt_heap f2
  have hs3 := hb3.size
  obtain ⟨t0, t1, t2, -, -, -⟩ := box_three g4
  obtain ⟨t3, t4, -, -⟩ := box_two f4
  obtain ⟨q0, q1, q2, -, -, -⟩ := box_three g4'
  obtain ⟨q3, q4, -, -⟩ := box_two f4'
  clear hM2 hM3 x2 g2 f2 g4 g4' d4 b3 hb3 c4 d2
  go_wp2_with fail
  generalize (w3.alloc (.cells #[.int .i64 E.size, .slice ra3 E.root.length rc3, .slice a3 E.segs.length c3] 28)).alloc (.cells #[.int .i64 F1, .int .i64 F2] 31) = w4 at *
  refine sM.mono ?_
  rintro e w5 ⟨rfl, hb5⟩
  have b5 := b4.trans (hb5.mono b4.size)
  have x5 := box_kept x4 hb5
  have f5 := box_kept f4 hb5
  have f5' := box_kept f4' hb5
  obtain ⟨u0, u1, u2, -, -, -⟩ := box_three x5
  clear sM t0 t1 t2 t3 t4 q0 q1 q2 q3 q4 x4 f4 f4' b4 hb5
  go_wp2_with fail
  refine (cS _ b5).mono ?_
  rintro e w6 ⟨xa, xn, xc, rfl, hx, hb6⟩
  have b6 := b5.trans (hb6.mono b5.size)
  have x6 := box_kept x5 hb6
  obtain ⟨u0', u1', u2', -, -, -⟩ := box_three x6
  clear cS u0 u1 u2
  go_wp2_with fail
  refine (rS _ b6).mono ?_
  rintro e w7 ⟨ya, yn, yc, rfl, hy, hb7⟩
  have b7 := b6.trans (hb7.mono b6.size)
  have x7 := box_kept x6 hb7
  have hsame := refSame_any S0 S0 (.slice xa xn xc) (.slice ya yn yc) w7 (hx.below hb7).lists.at' hy.lists.at' (by have := hs8.1; unfold maxLen; omega) hx.lists.short
  rw [decide_eq_true rfl] at hsame
  have z1 : (S1 != S1) = false := by simp
  have f7 := box_kept (box_kept f5 hb6) hb7
  have f7' := box_kept (box_kept f5' hb6) hb7
  clear rS u0' u1' u2' hx hy x5 x6 f5 f5' b5 b6 hb6 hb7
  go_wp2_with fail
  refine hsame.mono ?_
  rintro e w8 ⟨rfl, q8, rfl⟩
  have d8 := below_drewN' (Below.refl w7.heap.size w7) q8
  have b8 := b7.trans (d8.mono b7.size)
  have x8 := box_kept x7 d8
  have f8 := box_kept f7 d8
  have f8' := box_kept f7' d8
  clear hsame z1 x7 f7 f7' b7
  generalize w7.drewN q8 = w8 at *
  clear d8
  obtain ⟨u0, u1, u2, -, -, -⟩ := box_three x8
  go_wp2_with fail
  refine (cN _ b8).mono ?_
  rintro e w9 ⟨v9, rfl, hn, hb9⟩
  have b9 := b8.trans (hb9.mono b8.size)
  have x9 := box_kept x8 hb9
  obtain ⟨u0', u1', u2', -, -, -⟩ := box_three x9
  clear cN u0 u1 u2
  go_wp2_with fail
  refine (rN _ b9).mono ?_
  rintro e wa ⟨va, rfl, hn', hba⟩
  have ba := b9.trans (hba.mono b9.size)
  have xa' := box_kept x9 hba
  have hsN := same_any N0 N0 v9 va wa (hn.below hba).at' hn'.at' hn.short
  rw [decide_eq_true rfl] at hsN
  have z2 : (N1 != N1) = false := by simp
  have fa := box_kept (box_kept f8 hb9) hba
  have fa' := box_kept (box_kept f8' hb9) hba
  obtain ⟨ea, ec, rfl⟩ := hn.at'.form
  obtain ⟨ea', ec', rfl⟩ := hn'.at'.form
  clear rN u0' u1' u2' hn hn' x8 x9 f8 f8' b8 b9 hb9 hba
  go_wp2_with fail
  refine hsN.mono ?_
  rintro e wb ⟨rfl, qb, rfl⟩
  have db := below_drewN' (Below.refl wa.heap.size wa) qb
  have bb := ba.trans (db.mono ba.size)
  have xb := box_kept xa' db
  have fb := box_kept fa db
  have fb' := box_kept fa' db
  clear hsN z2 xa' fa fa' ba
  generalize wa.drewN qb = wb at *
  clear db
  obtain ⟨u0, u1, u2, -, -, -⟩ := box_three xb
  go_wp2_with fail
  refine (cV _ bb).mono ?_
  rintro e wc ⟨xa, xn, xc, rfl, hx, hbc⟩
  have bc := bb.trans (hbc.mono bb.size)
  have xc' := box_kept xb hbc
  have fc := box_kept fb hbc
  have fc' := box_kept fb' hbc
  have hne1 : w1.heap.size + 1 ≠ w3.heap.size + 1 := by omega
  have hne0 : w.heap.size ≠ w1.heap.size + 1 := by omega
  have hne2 : w.heap.size ≠ w3.heap.size + 1 := by omega
  have fd := box2_set (u' := .int .i64 V1) (v' := .int .i64 V2) fc
  have fd' := box_set_far (j := w1.heap.size + 1) (o := 1) (v := .int .i64 V2) (box_set_far (j := w1.heap.size + 1) (o := 0) (v := .int .i64 V1) fc' (by omega)) (by omega)
  have xd := box_set_far (j := w1.heap.size + 1) (o := 1) (v := .int .i64 V2) (box_set_far (j := w1.heap.size + 1) (o := 0) (v := .int .i64 V1) xc' hne0) hne0
  have hxd := (hx.set (o := 0) fc (by decide) (hx.lists.apart fc) (.int .i64 V1)).set (o := 1) (heap_setCell_same _ _ 0 _ _ (.int .i64 V1) fc) (by decide) (hx.lists.apart fc) (.int .i64 V2)
  have bd := (bc.setCell (p := ⟨w1.heap.size + 1, 0, none⟩) (by show w.heap.size ≤ w1.heap.size + 1; omega) (.int .i64 V1)).setCell (p := ⟨w1.heap.size + 1, 1, none⟩) (by show w.heap.size ≤ w1.heap.size + 1; omega) (.int .i64 V2)
  obtain ⟨s0, s1, s2, s3⟩ := box_two fc
  obtain ⟨u0', u1', u2', -, -, -⟩ := box_three xd
  clear cV u0 u1 u2 xb fb fb' bb hbc fc xc' fc' bc hx
  go_wp2_with fail
  generalize (wc.setCell ⟨w1.heap.size + 1, 0, none⟩ (.int .i64 V1)).setCell ⟨w1.heap.size + 1, 1, none⟩ (.int .i64 V2) = wd at *
  clear s0 s1 s2 s3
  refine (rV _ bd).mono ?_
  rintro e we ⟨ya, yn, yc, rfl, hy, hbe⟩
  have be := bd.trans (hbe.mono bd.size)
  have fe := box_kept fd hbe
  have fe' := box_kept fd' hbe
  have hxe := hxd.below hbe
  have ff := box_set_far (j := w3.heap.size + 1) (o := 1) (v := .int .i64 V2) (box_set_far (j := w3.heap.size + 1) (o := 0) (v := .int .i64 V1) fe hne1) hne1
  have ff' := box2_set (u' := .int .i64 V1) (v' := .int .i64 V2) fe'
  have hxf := (hxe.set (o := 0) fe' (by decide) (hxe.lists.apart fe') (.int .i64 V1)).set (o := 1) (heap_setCell_same _ _ 0 _ _ (.int .i64 V1) fe') (by decide) (hxe.lists.apart fe') (.int .i64 V2)
  have hyf := (hy.set (o := 0) fe' (by decide) (hy.lists.apart fe') (.int .i64 V1)).set (o := 1) (heap_setCell_same _ _ 0 _ _ (.int .i64 V1) fe') (by decide) (hy.lists.apart fe') (.int .i64 V2)
  have bf := (be.setCell (p := ⟨w3.heap.size + 1, 0, none⟩) (by show w.heap.size ≤ w3.heap.size + 1; omega) (.int .i64 V1)).setCell (p := ⟨w3.heap.size + 1, 1, none⟩) (by show w.heap.size ≤ w3.heap.size + 1; omega) (.int .i64 V2)
  obtain ⟨s0, s1, s2, s3⟩ := box_two fe'
  obtain ⟨l0, l1, -, -⟩ := box_two ff
  obtain ⟨l2, l3, -, -⟩ := box_two ff'
  have hsV := refSame_any V0 V0 (.slice xa xn xc) (.slice ya yn yc) _ hxf.lists.at' hyf.lists.at' (by have := hv1.1; unfold maxLen; omega) hxf.lists.short
  rw [decide_eq_true rfl] at hsV
  clear rV u0' u1' u2' xd fd fd' hxd bd hbe fe fe' hxe ff ff' hxf hyf hy be
  go_wp2_with fail
  generalize (we.setCell ⟨w3.heap.size + 1, 0, none⟩ (.int .i64 V1)).setCell ⟨w3.heap.size + 1, 1, none⟩ (.int .i64 V2) = wf at *
  refine hsV.mono ?_
  rintro e wg ⟨rfl, qg, rfl⟩
  go_wp2_with fail
  go_ret
  exact ⟨rfl, below_drewN' bf _⟩

end Go.Proofs.YtbkkfchcdfhfgadDoor

/- The walk of writeEntries: package shelf as it landed. -/
namespace Go.Proofs.YtbkkfchcdfhfgadDoor
open Go.RowKit

set_option maxRecDepth 100000 in
set_option maxHeartbeats 2000000 in
theorem writeEntries_any (L : List (List Int)) (a : Option Addr) (n c : Nat) (w : World) (hL : Lists w a n c L) (h200 : ∀ j, (L.getD j []).length ≤ 200) (h8 : n ≤ 8) :
    Calls Tryd.prog 49 #[.slice a n c] w fun e w' => ∃ va vc, e = .returned (.slice va (layL L).length vc) ∧ w'.ownsRow w.heap.size 5 1 (.slice va (layL L).length vc) (layL L).length ((layL L).map (Value.int .u8)) ∧ Below w.heap.size w w' := by
  obtain ⟨i0, hi0, hz0, hz1, hz2⟩ := info_parts Tryd.info5b
  have hlen := hL.len
  have h201 : ∀ k, (layL (L.take k)).length ≤ 2000 := fun k => by
    have h1 := layL_length (L.take k) (fun e he => mem_short h200 e (List.mem_of_mem_take he))
    have h2 : (L.take k).length ≤ 8 := by rw [List.length_take]; omega
    omega
  go_enter Tryd.func49, Tryd.ntmps49
  go_wp2_with fail
  go_loopw [3, 8] (fun ov kv wr => ∃ (k : Nat) (va : Option Addr) (m vc : Nat), k ≤ n ∧ kv = .int .i64 k ∧ ov = .slice va m vc ∧ Hid (m = (layL (L.take k)).length) ∧ wr.ownsRow w.heap.size 5 1 (.slice va m vc) m ((layL (L.take k)).map (Value.int .u8)) ∧ Below w.heap.size w wr) (fun _ kv _ => n - (intOf kv).toNat)
  case atStart => exact ⟨0, none, 0, 0, Nat.zero_le _, rfl, rfl, rfl, ⟨rfl, .inl ⟨rfl, rfl⟩⟩, Below.refl _ _⟩
  case round =>
    obtain ⟨wo, rfl⟩ : ∃ x, x = wr := ⟨wr, rfl⟩
    obtain ⟨k, va, m, vc, hk, rfl, rfl, HM, hrow, hbr⟩ := hrel
    have hm := h201 k
    rw [← HM.out] at hm
    have hsr := hbr.size
    by_cases hlt : k < n
    · obtain ⟨b, off, pa, pc, rfl, hcell, hsome⟩ := hL.get k hlt
      have hb0 : b < w.heap.size := World.block_lt_of_cell? w ⟨b, off + k, none⟩ hcell
      have hcell1 := (hbr.cell (p := ⟨b, off + k, none⟩) hb0).trans hcell
      have HS : Hid (layL (L.take (k + 1)) = layL (L.take k) ++ ((L.getD k []).length : Int) :: L.getD k []) := by
        show _ = _
        rw [List.take_succ_eq_append_getElem (by omega), layL_snoc, List.getD_eq_getElem?_getD, List.getElem?_eq_getElem (by omega)]
        rfl
      have hd2 := h200 k
      have hB0 := hsome.at'
      obtain ⟨D, hD⟩ : ∃ D, D = L.getD k [] := ⟨_, rfl⟩
      rw [← hD] at hcell1 HS hd2 hB0
      obtain ⟨d, hd⟩ : ∃ d, d = D.length := ⟨_, rfl⟩
      rw [← hd] at hcell1 HS hd2 hB0
      have Hd : Hid (d = D.length) := hd
      have hlt' : (k : Int) < n := by omega
      have hd' : (d : Int) ≤ 200 := by omega
      have hrowA := hrow.alloc (.cells #[.int .u8 d] 5)
      have hnew := cell_one_new wo (.int .u8 d) 5
      have bA : Below w.heap.size w (wo.alloc (.cells #[.int .u8 d] 5)) := hbr.alloc hsr _
      have hsA : w.heap.size ≤ (wo.alloc (.cells #[.int .u8 d] 5)).heap.size := by simp; omega
      have hdm : m + 1 + D.length ≤ 3000 := by omega
      clear hcell hsome hrow h200 hD hd h201
      go_wp2_with (first
        | (at_builtin; refine wpList_append_own _ rfl (.tmp 12) (.tmp 16) 23 rfl w.heap.size 5 i0 _ 1 1 Tryd.underlying23 hi0 hz0 hz1 hz2 rfl (by decide) _ _ _ rfl hrowA _ 1 1 [.int .u8 d] rfl rfl hnew (by intro u hu; simp at hu; subst hu; rfl) (by unfold maxLen; omega) (by omega) hsA ?_; intro v7 w7 ho7 hg7 _; obtain ⟨ta, tc, rfl⟩ := own_form' ho7; have b7 : Below w.heap.size w w7 := bA.grown hg7 hsA (fun _ h => own_block hrowA h); have hB7 := hB0.below (Nat.le_refl _) b7; clear hg7)
        | (at_builtin; refine wpList_append_bytes rfl (.tmp 18) (.tmp 19) 23 rfl w.heap.size 5 i0 _ Tryd.underlying23 hi0 hz0 hz1 hz2 rfl _ _ _ rfl ho7 pa d pc D rfl hB7 (by unfold maxLen; omega) (by omega) b7.size ?_; intro v8 w8 ho8 hg8; obtain ⟨sa, sc, rfl⟩ := own_form' ho8))
      have b8 : Below w.heap.size w w8 := b7.grown hg8 b7.size (fun _ h => own_block ho7 h)
      go_roundw
      case rel =>
        refine ⟨k + 1, sa, _, sc, by omega, by go_num, rfl, ?_, ?_, b8⟩
        · show _ = _; rw [HS.out, List.length_append, List.length_cons, ← HM.out]; omega
        · rw [HS.out, List.map_append, List.map_cons]; simpa using ho8
      case measure => simp [intOf]; omega
    · obtain rfl : k = n := by omega
      rw [List.take_of_length_le (by omega)] at HM hrow
      go_wp2_with fail
      go_ret
      refine ⟨va, vc, by rw [← HM.out]; rfl, by rw [← HM.out]; exact hrow, hbr⟩

end Go.Proofs.YtbkkfchcdfhfgadDoor
