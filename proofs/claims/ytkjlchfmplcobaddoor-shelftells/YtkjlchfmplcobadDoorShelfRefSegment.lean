/- The walk of yearref5.Segment. -/
import Derived.Test.YtkjlchfmplcobadDoorProg
import Derived.Test.YtkjlchfmplcobadDoorRunAJ
import Derived.Test.YtkjlchfmplcobadDoorPackRefUnpack
import Derived.WalkKit
import Derived.WalkSpells
import Derived.WalkLawsBesides
namespace Go.Proofs.YtkjlchfmplcobadDoor
open Go.RowKit

set_option maxRecDepth 100000 in
set_option maxHeartbeats 4000000 in
theorem refSegment_any (m : Man) (k : Int) (mv : Value) (w : World) (hM : ManAt w mv m) :
    Calls Tryd.prog 11 #[mv, .int .i64 k] w fun e w' => ∃ xa xn xc, e = .returned (.tuple #[.slice xa xn xc, .int .i64 (segmentL m k).2]) ∧ Laid w' xa xn xc (segmentL m k).1 ∧ Below w.heap.size w w' := by
  obtain ⟨rv, sv, rfl, hr, a, c, rfl, hN1, hN2, hN3, hcell⟩ := hM
  unfold maxLen at hN2
  have x0 := box_new w #[.int .i64 m.size, rv, .slice a m.segs.length c] 28
  have b0 : Below w.heap.size w (w.alloc (.cells #[.int .i64 m.size, rv, .slice a m.segs.length c] 28)) := (Below.refl _ _).alloc (Nat.le_refl _) _
  obtain ⟨u0, u1, u2, -, -, -⟩ := box_three x0
  by_cases hk : k < 0 ∨ (m.segs.length : Int) ≤ k
  · have HE : Hid (segmentL m k = ([], 6)) := by show _ = _; unfold segmentL; rw [if_pos hk]
    clear hcell hr
    generalize m.segs.length = N at *
    rcases (show k < 0 ∨ (¬ k < 0 ∧ (N : Int) ≤ k) by omega) with hk | ⟨hk1, hk⟩
    all_goals
      go_enter Tryd.func11, Tryd.ntmps11
      go_wp2_with fail
      exact bodyPost_ret (v := .tuple #[.slice none 0 0, .int .i64 6]) (by simp [results, Tryd.results11, go_sem]) rfl ⟨none, 0, 0, by rw [HE.out], by rw [HE.out]; exact laid_nil _, b0⟩
  · obtain ⟨i, rfl⟩ : ∃ i : Nat, k = (i : Int) := ⟨k.toNat, by omega⟩
    have hi : i < m.segs.length := by omega
    replace hcell := hcell.resolve_left (by omega)
    obtain ⟨b, off, rfl, hb0, hcell⟩ := hcell
    obtain ⟨c0, c1, pa, pc, c2, hp, hp1, hp2⟩ := hcell i hi
    have HE : Hid (segmentL m (i : Int) = if fitB m.size (i : Int) (m.segs.getD i seg0) = false then ([], 7) else readSeg (m.segs.getD i seg0)) := by
      show _ = _
      unfold segmentL
      rw [if_neg hk, Int.toNat_natCast]
    have hj1 : ¬ (i : Int) < 0 := by omega
    have hj2 : (i : Int) < m.segs.length := by omega
    have hj3 : (0 : Int) ≤ (i : Int) := by omega
    clear hcell hk
    generalize m.segs.length = N at *
    generalize m.segs.getD i seg0 = s at *
    obtain ⟨f, ct, pk⟩ := s
    dsimp only at c0 c1 c2 hp hp1
    replace c0 := (old_cell w (.cells #[.int .i64 m.size, rv, .slice (some ⟨b, off, none⟩) N c] 28) b (off + i * 3) hb0).trans c0
    replace c1 := (old_cell w (.cells #[.int .i64 m.size, rv, .slice (some ⟨b, off, none⟩) N c] 28) b (off + i * 3 + 1) hb0).trans c1
    replace c2 := (old_cell w (.cells #[.int .i64 m.size, rv, .slice (some ⟨b, off, none⟩) N c] 28) b (off + i * 3 + 2) hb0).trans c2
    have hp0 := hp.below b0
    generalize m.size = size at *
    have x1 := box_old (w.alloc (.cells #[.int .i64 size, rv, .slice (some ⟨b, off, none⟩) N c] 28)) (.cells #[.int .i64 f, .int .i64 ct, .slice pa pk.length pc] 55) x0
    have y1 := box_new (w.alloc (.cells #[.int .i64 size, rv, .slice (some ⟨b, off, none⟩) N c] 28)) #[.int .i64 f, .int .i64 ct, .slice pa pk.length pc] 55
    have d1 : Below (w.alloc (.cells #[.int .i64 size, rv, .slice (some ⟨b, off, none⟩) N c] 28)).heap.size (w.alloc (.cells #[.int .i64 size, rv, .slice (some ⟨b, off, none⟩) N c] 28)) ((w.alloc (.cells #[.int .i64 size, rv, .slice (some ⟨b, off, none⟩) N c] 28)).alloc (.cells #[.int .i64 f, .int .i64 ct, .slice pa pk.length pc] 55)) := (Below.refl _ _).alloc (Nat.le_refl _) _
    have hp1' := hp0.below d1
    have b1 := b0.trans (d1.mono b0.size)
    have e1 : (w.alloc (.cells #[.int .i64 size, rv, .slice (some ⟨b, off, none⟩) N c] 28)).heap.size = w.heap.size + 1 := by simp
    rw [e1] at y1
    obtain ⟨z0, z1, z2, -, -, -⟩ := box_three x1
    obtain ⟨t0, t1, t2, -, -, -⟩ := box_three y1
    clear x0 e1 d1 hp0 x1
    cases hfit : fitB size (i : Int) ⟨f, ct, pk⟩ with
    | false =>
      have HE2 : Hid (segmentL m (i : Int) = ([], 7)) := by show _ = _; rw [HE.out, if_pos hfit]
      have hno : ¬ (0 ≤ size ∧ size ≤ 100 ∧ (i : Int) ≤ 100 ∧ f = (i : Int) * 8 ∧ 1 ≤ ct ∧ ct = min 8 (size - f)) := fun h => by rw [fitB_iff.2 h] at hfit; cases hfit
      have hcs : size < 0 ∨ (¬ size < 0 ∧ 100 < size) ∨ (¬ size < 0 ∧ ¬ 100 < size ∧ 100 < (i : Int)) ∨ (¬ size < 0 ∧ ¬ 100 < size ∧ ¬ 100 < (i : Int) ∧ f ≠ 8 * (i : Int)) ∨ (¬ size < 0 ∧ ¬ 100 < size ∧ ¬ 100 < (i : Int) ∧ f = 8 * (i : Int) ∧ (ct < 1 ∨ (¬ ct < 1 ∧ 8 < ct) ∨ (¬ ct < 1 ∧ ¬ 8 < ct ∧ size < 8 * (i : Int) + ct) ∨ (¬ ct < 1 ∧ ¬ 8 < ct ∧ ¬ size < 8 * (i : Int) + ct ∧ ct < 8 ∧ 8 * (i : Int) + ct ≠ size))) := by omega
      clear HE hfit hno
      rcases hcs with q1 | ⟨q1, q2⟩ | ⟨q1, q2, q3⟩ | ⟨q1, q2, q3, q4⟩ | ⟨q1, q2, q3, rfl, q5⟩
      · go_enter Tryd.func11, Tryd.ntmps11
        go_wp2_with fail
        exact bodyPost_ret (v := .tuple #[.slice none 0 0, .int .i64 7]) (by simp [results, Tryd.results11, go_sem]) rfl ⟨none, 0, 0, by rw [HE2.out], by rw [HE2.out]; exact laid_nil _, b1⟩
      · go_enter Tryd.func11, Tryd.ntmps11
        go_wp2_with fail
        exact bodyPost_ret (v := .tuple #[.slice none 0 0, .int .i64 7]) (by simp [results, Tryd.results11, go_sem]) rfl ⟨none, 0, 0, by rw [HE2.out], by rw [HE2.out]; exact laid_nil _, b1⟩
      · go_enter Tryd.func11, Tryd.ntmps11
        go_wp2_with fail
        exact bodyPost_ret (v := .tuple #[.slice none 0 0, .int .i64 7]) (by simp [results, Tryd.results11, go_sem]) rfl ⟨none, 0, 0, by rw [HE2.out], by rw [HE2.out]; exact laid_nil _, b1⟩
      · have q4' : (f != 8 * (i : Int)) = true := by simpa using q4
        clear q4
        go_enter Tryd.func11, Tryd.ntmps11
        go_wp2_with fail
        exact bodyPost_ret (v := .tuple #[.slice none 0 0, .int .i64 7]) (by simp [results, Tryd.results11, go_sem]) rfl ⟨none, 0, 0, by rw [HE2.out], by rw [HE2.out]; exact laid_nil _, b1⟩
      · rcases q5 with q5 | ⟨q5, q6⟩ | ⟨q5, q6, q7⟩ | ⟨q5, q6, q7, q8, q9⟩
        · go_enter Tryd.func11, Tryd.ntmps11
          go_wp2_with fail
          exact bodyPost_ret (v := .tuple #[.slice none 0 0, .int .i64 7]) (by simp [results, Tryd.results11, go_sem]) rfl ⟨none, 0, 0, by rw [HE2.out], by rw [HE2.out]; exact laid_nil _, b1⟩
        · go_enter Tryd.func11, Tryd.ntmps11
          go_wp2_with fail
          exact bodyPost_ret (v := .tuple #[.slice none 0 0, .int .i64 7]) (by simp [results, Tryd.results11, go_sem]) rfl ⟨none, 0, 0, by rw [HE2.out], by rw [HE2.out]; exact laid_nil _, b1⟩
        · go_enter Tryd.func11, Tryd.ntmps11
          go_wp2_with fail
          exact bodyPost_ret (v := .tuple #[.slice none 0 0, .int .i64 7]) (by simp [results, Tryd.results11, go_sem]) rfl ⟨none, 0, 0, by rw [HE2.out], by rw [HE2.out]; exact laid_nil _, b1⟩
        · have q9' : ((8 * (i : Int) + ct) != size) = true := by simpa using q9
          clear q9
          go_enter Tryd.func11, Tryd.ntmps11
          go_wp2_with fail
          exact bodyPost_ret (v := .tuple #[.slice none 0 0, .int .i64 7]) (by simp [results, Tryd.results11, go_sem]) rfl ⟨none, 0, 0, by rw [HE2.out], by rw [HE2.out]; exact laid_nil _, b1⟩
    | true =>
      have hft := fitB_iff.1 hfit
      dsimp only at hft
      have HE2 : Hid (segmentL m (i : Int) = readSeg ⟨f, ct, pk⟩) := by show _ = _; rw [HE.out, if_neg (by rw [hfit]; decide)]
      obtain ⟨cnt, rfl⟩ : ∃ cnt : Nat, ct = (cnt : Int) := ⟨ct.toNat, by omega⟩
      have hc8 : cnt ≤ 8 := by omega
      have hub := unpack_bytes hp1'.bytes
      have hul := unpack_len pk
      have HR : Hid (readSeg ⟨f, (cnt : Int), pk⟩ = if (unpackL pk).2 ≠ 0 then ([], (unpackL pk).2) else match takeL cnt (unpackL pk).1 with | none => ([], 2) | some l => (l, 0)) := by show _ = _; unfold readSeg; dsimp only; rw [Int.toNat_natCast]; rfl
      have hU := refUnpackO_any pk _ _ hp1'
      obtain ⟨h1, h2, h3, hf, h5, hcm⟩ := hft
      obtain rfl : f = 8 * (i : Int) := by omega
      have q1 : ¬ size < 0 := by omega
      have q2 : ¬ 100 < size := by omega
      have q3 : ¬ 100 < (i : Int) := by omega
      have q4 : ((8 * (i : Int)) != 8 * (i : Int)) = false := by simp
      have q5 : ¬ (cnt : Int) < 1 := by omega
      have q6 : ¬ 8 < (cnt : Int) := by omega
      have q7 : ¬ size < 8 * (i : Int) + cnt := by omega
      have q8 : (¬ (cnt : Int) < 8) ∨ ((cnt : Int) < 8 ∧ ((8 * (i : Int) + (cnt : Int)) != size) = false) := by
        by_cases h : (cnt : Int) < 8
        · exact .inr ⟨h, by simp; omega⟩
        · exact .inl h
      clear HE hfit hf hcm
      generalize unpackL pk = U at *
      obtain ⟨T, ue⟩ := U
      dsimp only at hU hub hul HR
      rcases q8 with q8 | ⟨q8, q9⟩
      all_goals
        go_enter Tryd.func11, Tryd.ntmps11
        go_wp2_with fail
        generalize (w.alloc (.cells #[.int .i64 size, rv, .slice (some ⟨b, off, none⟩) N c] 28)).alloc (.cells #[.int .i64 (8 * (i : Int)), .int .i64 (cnt : Int), .slice pa pk.length pc] 55) = w2 at *
        refine hU.mono ?_
        rintro e w3 ⟨tv, rfl, hT, hb3⟩
        have b3 := b1.trans (hb3.mono b1.size)
        obtain ⟨t0'', t1'', t2'', -, -, -⟩ := box_three (box_kept y1 hb3)
        obtain ⟨ta, tc, rfl⟩ := own_form' hT
        clear hU t0 t1 t2 z0 z1 z2 c0 c1 c2 u0 u1 u2
        by_cases hue : ue = 0
        · subst hue
          have hRd := refTake_any T hub hul cnt hc8 _ ta T.length tc w3 hT rfl
          have HR2 : Hid (segmentL m (i : Int) = match takeL cnt T with | none => ([], 2) | some l => (l, 0)) := by show _ = _; rw [HE2.out, HR.out, if_neg (fun h => h rfl)]
          clear HE2 HR hub hT
          go_wp2_with fail
          refine hRd.mono ?_
          rintro e w4 ⟨v, rfl, hok, hb4⟩
          have b4 := b3.trans (hb4.mono b3.size)
          clear hRd
          cases htk : takeL cnt T with
          | none =>
            rw [htk] at hok HR2
            have HR3 : Hid (segmentL m (i : Int) = ([], 2)) := HR2.out
            clear HR2 htk hok
            dsimp only [Option.isSome]
            go_wp2_with fail
            exact bodyPost_ret (v := .tuple #[.slice none 0 0, .int .i64 2]) (by simp [results, Tryd.results11, go_sem]) rfl ⟨none, 0, 0, by rw [HR3.out], by rw [HR3.out]; exact laid_nil _, b4⟩
          | some l =>
            rw [htk] at hok HR2
            have HR3 : Hid (segmentL m (i : Int) = (l, 0)) := HR2.out
            obtain ⟨xa, xn, xc, rfl, hl⟩ := hok l rfl
            clear HR2 htk hok
            dsimp only [Option.isSome]
            go_wp2_with fail
            exact bodyPost_ret (v := .tuple #[.slice xa xn xc, .int .i64 0]) (by simp [results, Tryd.results11, go_sem]) rfl ⟨xa, xn, xc, by rw [HR3.out], by rw [HR3.out]; exact hl, b4⟩
        · have hue' : (ue != 0) = true := by simpa using hue
          have HR2 : Hid (segmentL m (i : Int) = ([], ue)) := by show _ = _; rw [HE2.out, HR.out, if_pos hue]
          clear HE2 HR hub hT hue
          go_wp2_with fail
          exact bodyPost_ret (v := .tuple #[.slice none 0 0, .int .i64 ue]) (by simp [results, Tryd.results11, go_sem]) rfl ⟨none, 0, 0, by rw [HR2.out], by rw [HR2.out]; exact laid_nil _, b3⟩

end Go.Proofs.YtkjlchfmplcobadDoor
