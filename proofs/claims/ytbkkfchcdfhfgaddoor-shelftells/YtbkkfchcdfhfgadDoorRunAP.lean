/- ShelfRefSegment, ShelfGoSmall, ShelfGoSegment, as one text. -/
import Derived.Test.YtbkkfchcdfhfgadDoorProg
import Derived.Test.YtbkkfchcdfhfgadDoorShelfRefTake
import Derived.Test.YtbkkfchcdfhfgadDoorPackRefUnpack
import Derived.WalkKit
import Derived.WalkSpells
import Derived.WalkLawsBesides
import Derived.Test.YtbkkfchcdfhfgadDoorRunAI
import Derived.Deep.QuietTactic
import Derived.BigQuiet
import Derived.Test.YtbkkfchcdfhfgadDoorShelfGoRead
/- The walk of yearref5.Segment. -/
namespace Go.Proofs.YtbkkfchcdfhfgadDoor
open Go.RowKit

set_option maxRecDepth 100000 in
set_option maxHeartbeats 4000000 in
theorem refSegment_any (m : Man) (k : Int) (mv : Value) (w : World) (hM : ManAt w mv m) :
    Calls Tryd.prog 11 #[mv, .int .i64 k] w fun e w' => ∃ xa xn xc, e = .returned (.tuple #[.slice xa xn xc, .int .i64 (segmentL m k).2]) ∧ Laid w' xa xn xc (segmentL m k).1 ∧ Below w.heap.size w w' := by
  obtain ⟨rv, sv, rfl, hr, a, c, rfl, hN1, hN2, hN3, hcell⟩ := hM
  unfold maxLen at hN2
  have x0 := box_new w #[.int .i64 m.size, rv, .slice a m.segs.length c] 28
  have b0 : Below w.heap.size w (w.alloc (.cells #[.int .i64 m.size, rv, .slice a m.segs.length c] 28)) := (Below.refl _ _).alloc (Nat.le_refl _) _
  obtain ⟨u0, u1, u2, -, -, -⟩ := box_three x0
  by_cases hk : k < 0 ∨ (m.segs.length : Int) ≤ k
  · have HE : Hid (segmentL m k = ([], 6)) := by show _ = _; unfold segmentL; rw [if_pos hk]
    clear hcell hr
    generalize m.segs.length = N at *
    rcases (show k < 0 ∨ (¬ k < 0 ∧ (N : Int) ≤ k) by omega) with hk | ⟨hk1, hk⟩
    all_goals
      go_enter Tryd.func11, Tryd.ntmps11
      go_wp2_with fail
      exact bodyPost_ret (v := .tuple #[.slice none 0 0, .int .i64 6]) (by simp [results, Tryd.results11, go_sem]) rfl ⟨none, 0, 0, by rw [HE.out], by rw [HE.out]; exact laid_nil _, b0⟩
  · obtain ⟨i, rfl⟩ : ∃ i : Nat, k = (i : Int) := ⟨k.toNat, by omega⟩
    have hi : i < m.segs.length := by omega
    replace hcell := hcell.resolve_left (by omega)
    obtain ⟨b, off, rfl, hb0, hcell⟩ := hcell
    obtain ⟨c0, c1, pa, pc, c2, hp, hp1, hp2⟩ := hcell i hi
    have HE : Hid (segmentL m (i : Int) = if fitB m.size (i : Int) (m.segs.getD i seg0) = false then ([], 7) else readSeg (m.segs.getD i seg0)) := by
      show _ = _
      unfold segmentL
      rw [if_neg hk, Int.toNat_natCast]
    have hj1 : ¬ (i : Int) < 0 := by omega
    have hj2 : (i : Int) < m.segs.length := by omega
    have hj3 : (0 : Int) ≤ (i : Int) := by omega
    clear hcell hk
    generalize m.segs.length = N at *
    generalize m.segs.getD i seg0 = s at *
    obtain ⟨f, ct, pk⟩ := s
    dsimp only at c0 c1 c2 hp hp1
    replace c0 := (old_cell w (.cells #[.int .i64 m.size, rv, .slice (some ⟨b, off, none⟩) N c] 28) b (off + i * 3) hb0).trans c0
    replace c1 := (old_cell w (.cells #[.int .i64 m.size, rv, .slice (some ⟨b, off, none⟩) N c] 28) b (off + i * 3 + 1) hb0).trans c1
    replace c2 := (old_cell w (.cells #[.int .i64 m.size, rv, .slice (some ⟨b, off, none⟩) N c] 28) b (off + i * 3 + 2) hb0).trans c2
    have hp0 := hp.below b0
    generalize m.size = size at *
    have x1 := box_old (w.alloc (.cells #[.int .i64 size, rv, .slice (some ⟨b, off, none⟩) N c] 28)) (.cells #[.int .i64 f, .int .i64 ct, .slice pa pk.length pc] 55) x0
    have y1 := box_new (w.alloc (.cells #[.int .i64 size, rv, .slice (some ⟨b, off, none⟩) N c] 28)) #[.int .i64 f, .int .i64 ct, .slice pa pk.length pc] 55
    have d1 : Below (w.alloc (.cells #[.int .i64 size, rv, .slice (some ⟨b, off, none⟩) N c] 28)).heap.size (w.alloc (.cells #[.int .i64 size, rv, .slice (some ⟨b, off, none⟩) N c] 28)) ((w.alloc (.cells #[.int .i64 size, rv, .slice (some ⟨b, off, none⟩) N c] 28)).alloc (.cells #[.int .i64 f, .int .i64 ct, .slice pa pk.length pc] 55)) := (Below.refl _ _).alloc (Nat.le_refl _) _
    have hp1' := hp0.below d1
    have b1 := b0.trans (d1.mono b0.size)
    have e1 : (w.alloc (.cells #[.int .i64 size, rv, .slice (some ⟨b, off, none⟩) N c] 28)).heap.size = w.heap.size + 1 := by simp
    rw [e1] at y1
    obtain ⟨z0, z1, z2, -, -, -⟩ := box_three x1
    obtain ⟨t0, t1, t2, -, -, -⟩ := box_three y1
    clear x0 e1 d1 hp0 x1
    cases hfit : fitB size (i : Int) ⟨f, ct, pk⟩ with
    | false =>
      have HE2 : Hid (segmentL m (i : Int) = ([], 7)) := by show _ = _; rw [HE.out, if_pos hfit]
      have hno : ¬ (0 ≤ size ∧ size ≤ 100 ∧ (i : Int) ≤ 100 ∧ f = (i : Int) * 8 ∧ 1 ≤ ct ∧ ct = min 8 (size - f)) := fun h => by rw [fitB_iff.2 h] at hfit; cases hfit
      have hcs : size < 0 ∨ (¬ size < 0 ∧ 100 < size) ∨ (¬ size < 0 ∧ ¬ 100 < size ∧ 100 < (i : Int)) ∨ (¬ size < 0 ∧ ¬ 100 < size ∧ ¬ 100 < (i : Int) ∧ f ≠ 8 * (i : Int)) ∨ (¬ size < 0 ∧ ¬ 100 < size ∧ ¬ 100 < (i : Int) ∧ f = 8 * (i : Int) ∧ (ct < 1 ∨ (¬ ct < 1 ∧ 8 < ct) ∨ (¬ ct < 1 ∧ ¬ 8 < ct ∧ size < 8 * (i : Int) + ct) ∨ (¬ ct < 1 ∧ ¬ 8 < ct ∧ ¬ size < 8 * (i : Int) + ct ∧ ct < 8 ∧ 8 * (i : Int) + ct ≠ size))) := by omega
      clear HE hfit hno
      rcases hcs with q1 | ⟨q1, q2⟩ | ⟨q1, q2, q3⟩ | ⟨q1, q2, q3, q4⟩ | ⟨q1, q2, q3, rfl, q5⟩
      · go_enter Tryd.func11, Tryd.ntmps11
        go_wp2_with fail
        exact bodyPost_ret (v := .tuple #[.slice none 0 0, .int .i64 7]) (by simp [results, Tryd.results11, go_sem]) rfl ⟨none, 0, 0, by rw [HE2.out], by rw [HE2.out]; exact laid_nil _, b1⟩
      · go_enter Tryd.func11, Tryd.ntmps11
        go_wp2_with fail
        exact bodyPost_ret (v := .tuple #[.slice none 0 0, .int .i64 7]) (by simp [results, Tryd.results11, go_sem]) rfl ⟨none, 0, 0, by rw [HE2.out], by rw [HE2.out]; exact laid_nil _, b1⟩
      · go_enter Tryd.func11, Tryd.ntmps11
        go_wp2_with fail
        exact bodyPost_ret (v := .tuple #[.slice none 0 0, .int .i64 7]) (by simp [results, Tryd.results11, go_sem]) rfl ⟨none, 0, 0, by rw [HE2.out], by rw [HE2.out]; exact laid_nil _, b1⟩
      · have q4' : (f != 8 * (i : Int)) = true := by simpa using q4
        clear q4
        go_enter Tryd.func11, Tryd.ntmps11
        go_wp2_with fail
        exact bodyPost_ret (v := .tuple #[.slice none 0 0, .int .i64 7]) (by simp [results, Tryd.results11, go_sem]) rfl ⟨none, 0, 0, by rw [HE2.out], by rw [HE2.out]; exact laid_nil _, b1⟩
      · rcases q5 with q5 | ⟨q5, q6⟩ | ⟨q5, q6, q7⟩ | ⟨q5, q6, q7, q8, q9⟩
        · go_enter Tryd.func11, Tryd.ntmps11
          go_wp2_with fail
          exact bodyPost_ret (v := .tuple #[.slice none 0 0, .int .i64 7]) (by simp [results, Tryd.results11, go_sem]) rfl ⟨none, 0, 0, by rw [HE2.out], by rw [HE2.out]; exact laid_nil _, b1⟩
        · go_enter Tryd.func11, Tryd.ntmps11
          go_wp2_with fail
          exact bodyPost_ret (v := .tuple #[.slice none 0 0, .int .i64 7]) (by simp [results, Tryd.results11, go_sem]) rfl ⟨none, 0, 0, by rw [HE2.out], by rw [HE2.out]; exact laid_nil _, b1⟩
        · go_enter Tryd.func11, Tryd.ntmps11
          go_wp2_with fail
          exact bodyPost_ret (v := .tuple #[.slice none 0 0, .int .i64 7]) (by simp [results, Tryd.results11, go_sem]) rfl ⟨none, 0, 0, by rw [HE2.out], by rw [HE2.out]; exact laid_nil _, b1⟩
        · have q9' : ((8 * (i : Int) + ct) != size) = true := by simpa using q9
          clear q9
          go_enter Tryd.func11, Tryd.ntmps11
          go_wp2_with fail
          exact bodyPost_ret (v := .tuple #[.slice none 0 0, .int .i64 7]) (by simp [results, Tryd.results11, go_sem]) rfl ⟨none, 0, 0, by rw [HE2.out], by rw [HE2.out]; exact laid_nil _, b1⟩
    | true =>
      have hft := fitB_iff.1 hfit
      dsimp only at hft
      have HE2 : Hid (segmentL m (i : Int) = readSeg ⟨f, ct, pk⟩) := by show _ = _; rw [HE.out, if_neg (by rw [hfit]; decide)]
      obtain ⟨cnt, rfl⟩ : ∃ cnt : Nat, ct = (cnt : Int) := ⟨ct.toNat, by omega⟩
      have hc8 : cnt ≤ 8 := by omega
      have hub := unpack_bytes hp1'.bytes
      have hul := unpack_len pk
      have HR : Hid (readSeg ⟨f, (cnt : Int), pk⟩ = if (unpackL pk).2 ≠ 0 then ([], (unpackL pk).2) else match takeL cnt (unpackL pk).1 with | none => ([], 2) | some l => (l, 0)) := by show _ = _; unfold readSeg; dsimp only; rw [Int.toNat_natCast]; rfl
      have hU := refUnpackO_any pk _ _ hp1'
      obtain ⟨h1, h2, h3, hf, h5, hcm⟩ := hft
      obtain rfl : f = 8 * (i : Int) := by omega
      have q1 : ¬ size < 0 := by omega
      have q2 : ¬ 100 < size := by omega
      have q3 : ¬ 100 < (i : Int) := by omega
      have q4 : ((8 * (i : Int)) != 8 * (i : Int)) = false := by simp
      have q5 : ¬ (cnt : Int) < 1 := by omega
      have q6 : ¬ 8 < (cnt : Int) := by omega
      have q7 : ¬ size < 8 * (i : Int) + cnt := by omega
      have q8 : (¬ (cnt : Int) < 8) ∨ ((cnt : Int) < 8 ∧ ((8 * (i : Int) + (cnt : Int)) != size) = false) := by
        by_cases h : (cnt : Int) < 8
        · exact .inr ⟨h, by simp; omega⟩
        · exact .inl h
      clear HE hfit hf hcm
      generalize unpackL pk = U at *
      obtain ⟨T, ue⟩ := U
      dsimp only at hU hub hul HR
      rcases q8 with q8 | ⟨q8, q9⟩
      all_goals
        go_enter Tryd.func11, Tryd.ntmps11
        go_wp2_with fail
        generalize (w.alloc (.cells #[.int .i64 size, rv, .slice (some ⟨b, off, none⟩) N c] 28)).alloc (.cells #[.int .i64 (8 * (i : Int)), .int .i64 (cnt : Int), .slice pa pk.length pc] 55) = w2 at *
        refine hU.mono ?_
        rintro e w3 ⟨tv, rfl, hT, hb3⟩
        have b3 := b1.trans (hb3.mono b1.size)
        obtain ⟨t0'', t1'', t2'', -, -, -⟩ := box_three (box_kept y1 hb3)
        obtain ⟨ta, tc, rfl⟩ := own_form' hT
        clear hU t0 t1 t2 z0 z1 z2 c0 c1 c2 u0 u1 u2
        by_cases hue : ue = 0
        · subst hue
          have hRd := refTake_any T hub hul cnt hc8 _ ta T.length tc w3 hT rfl
          have HR2 : Hid (segmentL m (i : Int) = match takeL cnt T with | none => ([], 2) | some l => (l, 0)) := by show _ = _; rw [HE2.out, HR.out, if_neg (fun h => h rfl)]
          clear HE2 HR hub hT
          go_wp2_with fail
          refine hRd.mono ?_
          rintro e w4 ⟨v, rfl, hok, hb4⟩
          have b4 := b3.trans (hb4.mono b3.size)
          clear hRd
          cases htk : takeL cnt T with
          | none =>
            rw [htk] at hok HR2
            have HR3 : Hid (segmentL m (i : Int) = ([], 2)) := HR2.out
            clear HR2 htk hok
            dsimp only [Option.isSome]
            go_wp2_with fail
            exact bodyPost_ret (v := .tuple #[.slice none 0 0, .int .i64 2]) (by simp [results, Tryd.results11, go_sem]) rfl ⟨none, 0, 0, by rw [HR3.out], by rw [HR3.out]; exact laid_nil _, b4⟩
          | some l =>
            rw [htk] at hok HR2
            have HR3 : Hid (segmentL m (i : Int) = (l, 0)) := HR2.out
            obtain ⟨xa, xn, xc, rfl, hl⟩ := hok l rfl
            clear HR2 htk hok
            dsimp only [Option.isSome]
            go_wp2_with fail
            exact bodyPost_ret (v := .tuple #[.slice xa xn xc, .int .i64 0]) (by simp [results, Tryd.results11, go_sem]) rfl ⟨xa, xn, xc, by rw [HR3.out], by rw [HR3.out]; exact hl, b4⟩
        · have hue' : (ue != 0) = true := by simpa using hue
          have HR2 : Hid (segmentL m (i : Int) = ([], ue)) := by show _ = _; rw [HE2.out, HR.out, if_pos hue]
          clear HE2 HR hub hT hue
          go_wp2_with fail
          exact bodyPost_ret (v := .tuple #[.slice none 0 0, .int .i64 ue]) (by simp [results, Tryd.results11, go_sem]) rfl ⟨none, 0, 0, by rw [HR2.out], by rw [HR2.out]; exact laid_nil _, b3⟩

end Go.Proofs.YtbkkfchcdfhfgadDoor

/- The walks of isSize, segmentsFor, countFrom and fits: package shelf as it landed. -/
namespace Go.Proofs.YtbkkfchcdfhfgadDoor
open Go.RowKit

def sizeB (n : Int) : Bool := decide (0 ≤ n ∧ n ≤ 100)
theorem sizeB_true {n : Int} (h0 : 0 ≤ n) (h1 : n ≤ 100) : sizeB n = true := decide_eq_true ⟨h0, h1⟩
theorem sizeB_false {n : Int} (h : ¬ (0 ≤ n ∧ n ≤ 100)) : sizeB n = false := decide_eq_false h
set_option maxRecDepth 100000 in
theorem isSize_any (n : Int) (w : World) : Calls Tryd.prog 35 #[.int .i64 n] w fun e w' => e = .returned (.bool (sizeB n)) ∧ w' = w := by
  by_cases h0 : 0 ≤ n
  · by_cases h1 : n ≤ 100
    · have e : sizeB n = true := sizeB_true h0 h1
      rw [e]
      clear e
      go_enter Tryd.func35, Tryd.ntmps35
      go_wp2
      go_ret
      exact ⟨rfl, rfl⟩
    · have e : sizeB n = false := sizeB_false (by omega)
      rw [e]
      clear e
      go_enter Tryd.func35, Tryd.ntmps35
      go_wp2
      go_ret
      exact ⟨rfl, rfl⟩
  · have e : sizeB n = false := sizeB_false (by omega)
    rw [e]
    clear e
    go_enter Tryd.func35, Tryd.ntmps35
    go_wp2
    go_ret
    exact ⟨rfl, rfl⟩
theorem ret_int' {k : IntKind} {a b : Int} (h : a = b) : Ending.returned (.int k a) = .returned (.int k b) := by rw [h]
set_option maxRecDepth 100000 in
theorem segmentsFor_any (n : Int) (w : World) (h0 : 0 ≤ n) (h1 : n ≤ 100) : Calls Tryd.prog 36 #[.int .i64 n] w fun e w' => e = .returned (.int .i64 ((n + 7) / 8)) ∧ w' = w := by
  go_enter Tryd.func36, Tryd.ntmps36
  go_wp2
  go_ret
  exact ⟨ret_int' (by omega), rfl⟩
set_option maxRecDepth 100000 in
theorem countFrom_any (f s : Int) (w : World) (h0 : 0 ≤ f) (h1 : f ≤ 1000) (h2 : 0 ≤ s) (h3 : s ≤ 1000) : Calls Tryd.prog 47 #[.int .i64 f, .int .i64 s] w fun e w' => e = .returned (.int .i64 (min 8 (s - f))) ∧ w' = w := by
  by_cases h : s - f < 8
  · rw [show min 8 (s - f) = s - f by omega]
    go_enter Tryd.func47, Tryd.ntmps47
    go_wp2
    go_ret
    exact ⟨rfl, rfl⟩
  · rw [show min 8 (s - f) = 8 by omega]
    go_enter Tryd.func47, Tryd.ntmps47
    go_wp2
    go_ret
    exact ⟨rfl, rfl⟩
set_option maxRecDepth 100000 in
set_option maxHeartbeats 2000000 in
theorem segFits_any (f c k size : Int) (pv : Value) (p : List Int) (w : World) (hk : 0 ≤ k) : Calls Tryd.prog 30 #[.agg #[.int .i64 f, .int .i64 c, pv], .int .i64 k, .int .i64 size] w fun e w' => e = .returned (.bool (fitB size k ⟨f, c, p⟩)) ∧ Below w.heap.size w w' := by
  have hS := isSize_any size
  have hb := box_new w #[.int .i64 f, .int .i64 c, pv] 55
  obtain ⟨x0, x1, x2, -, -, -⟩ := box_three hb
  have bW : Below w.heap.size w (w.alloc (.cells #[.int .i64 f, .int .i64 c, pv] 55)) := (Below.refl _ _).alloc (Nat.le_refl _) _
  clear hb
  by_cases h1 : 0 ≤ size ∧ size ≤ 100
  · rw [sizeB_true h1.1 h1.2] at hS
    by_cases h2 : k ≤ 100
    · by_cases h3 : f = k * 8
      · subst h3
        by_cases h4 : 1 ≤ c
        · have hC := fun W => countFrom_any (k * 8) size W (by omega) (by omega) h1.1 (by omega)
          by_cases h5 : c = min 8 (size - k * 8)
          · have e : fitB size k ⟨k * 8, c, p⟩ = true := fitB_iff.2 ⟨h1.1, h1.2, h2, rfl, h4, h5⟩
            have hC' : ∀ W, Calls Tryd.prog 47 #[.int .i64 (k * 8), .int .i64 size] W fun e w' => e = .returned (.int .i64 c) ∧ w' = W := fun W => by have := hC W; rwa [← h5] at this
            have hcc : (c == c) = true := by simp
            rw [e]
            clear e h5 hC
            go_enter Tryd.func30, Tryd.ntmps30
            go_wp2_with fail
            go_quiet ((first | (go_at_call 35; exact Calls.quiet_of_same (hS _)) | (go_at_call 47; exact Calls.quiet_of_same (hC' _))))
            go_wp2_with fail
            go_ret
            exact ⟨rfl, below_drewN' bW _⟩
          · have e : fitB size k ⟨k * 8, c, p⟩ = false := by rw [Bool.eq_false_iff]; intro h; exact h5 (fitB_iff.1 h).2.2.2.2.2
            obtain ⟨q, hq⟩ : ∃ q, q = min 8 (size - k * 8) := ⟨_, rfl⟩
            rw [← hq] at hC h5
            have h5' : (c == q) = false := by simpa using h5
            rw [e]
            clear e h5 hq
            go_enter Tryd.func30, Tryd.ntmps30
            go_wp2_with fail
            go_quiet ((first | (go_at_call 35; exact Calls.quiet_of_same (hS _)) | (go_at_call 47; exact Calls.quiet_of_same (hC _))))
            go_wp2_with fail
            go_ret
            exact ⟨rfl, below_drewN' bW _⟩
        · have e : fitB size k ⟨k * 8, c, p⟩ = false := by rw [Bool.eq_false_iff]; intro h; exact h4 (fitB_iff.1 h).2.2.2.2.1
          have h4' : decide (1 ≤ c) = false := decide_eq_false h4
          rw [e]
          clear e
          go_enter Tryd.func30, Tryd.ntmps30
          go_wp2_with fail
          go_quiet ((go_at_call 35; exact Calls.quiet_of_same (hS _)))
          go_wp2_with fail
          go_ret
          exact ⟨rfl, below_drewN' bW _⟩
      · have e : fitB size k ⟨f, c, p⟩ = false := by rw [Bool.eq_false_iff]; intro h; exact h3 (fitB_iff.1 h).2.2.2.1
        have h3' : (f == k * 8) = false := by simpa using h3
        rw [e]
        clear e h3
        go_enter Tryd.func30, Tryd.ntmps30
        go_wp2_with fail
        go_quiet ((go_at_call 35; exact Calls.quiet_of_same (hS _)))
        go_wp2_with fail
        go_ret
        exact ⟨rfl, below_drewN' bW _⟩
    · have e : fitB size k ⟨f, c, p⟩ = false := by rw [Bool.eq_false_iff]; intro h; exact h2 (fitB_iff.1 h).2.2.1
      have h2' : decide (k ≤ 100) = false := decide_eq_false h2
      rw [e]
      clear e
      go_enter Tryd.func30, Tryd.ntmps30
      go_wp2_with fail
      go_quiet ((go_at_call 35; exact Calls.quiet_of_same (hS _)))
      go_wp2_with fail
      go_ret
      exact ⟨rfl, below_drewN' bW _⟩
  · rw [sizeB_false h1] at hS
    have e : fitB size k ⟨f, c, p⟩ = false := by rw [Bool.eq_false_iff]; intro h; have := fitB_iff.1 h; exact h1 ⟨this.1, this.2.1⟩
    rw [e]
    clear e h1
    go_enter Tryd.func30, Tryd.ntmps30
    go_wp2_with fail
    go_quiet ((go_at_call 35; exact Calls.quiet_of_same (hS _)))
    go_wp2_with fail
    go_ret
    exact ⟨rfl, below_drewN' bW _⟩

end Go.Proofs.YtbkkfchcdfhfgadDoor

/- The walks of Segment and Entry: package shelf as it landed. -/
namespace Go.Proofs.YtbkkfchcdfhfgadDoor
open Go.RowKit

set_option maxRecDepth 100000 in
set_option maxHeartbeats 4000000 in
theorem segmentC_of (hUn : UnpackRC) : SegmentC := by
  intro m k mv w hM
  obtain ⟨rv, sv, rfl, hr, a, c, rfl, hN1, hN2, hN3, hcell⟩ := hM
  unfold maxLen at hN2
  have x0 := box_new w #[.int .i64 m.size, rv, .slice a m.segs.length c] 28
  have b0 : Below w.heap.size w (w.alloc (.cells #[.int .i64 m.size, rv, .slice a m.segs.length c] 28)) := (Below.refl _ _).alloc (Nat.le_refl _) _
  obtain ⟨u0, u1, u2, -, -, -⟩ := box_three x0
  by_cases hk : k < 0 ∨ (m.segs.length : Int) ≤ k
  · have HE : Hid (segmentL m k = ([], 6)) := by show _ = _; unfold segmentL; rw [if_pos hk]
    clear hcell hr
    generalize m.segs.length = N at *
    rcases (show k < 0 ∨ (¬ k < 0 ∧ (N : Int) ≤ k) by omega) with hk | ⟨hk1, hk⟩
    all_goals
      go_enter Tryd.func10, Tryd.ntmps10
      go_wp2_with fail
      exact bodyPost_ret (v := .tuple #[.slice none 0 0, .int .i64 6]) (by simp [results, Tryd.results10, go_sem]) rfl ⟨none, 0, 0, by rw [HE.out], by rw [HE.out]; exact laid_nil _, b0⟩
  · obtain ⟨i, rfl⟩ : ∃ i : Nat, k = (i : Int) := ⟨k.toNat, by omega⟩
    have hi : i < m.segs.length := by omega
    replace hcell := hcell.resolve_left (by omega)
    obtain ⟨b, off, rfl, hb0, hcell⟩ := hcell
    obtain ⟨c0, c1, pa, pc, c2, hp, hp1, hp2⟩ := hcell i hi
    have HE : Hid (segmentL m (i : Int) = if fitB m.size (i : Int) (m.segs.getD i seg0) = false then ([], 7) else readSeg (m.segs.getD i seg0)) := by
      show _ = _
      unfold segmentL
      rw [if_neg hk, Int.toNat_natCast]
    have hj1 : ¬ (i : Int) < 0 := by omega
    have hj2 : (i : Int) < m.segs.length := by omega
    have hj3 : (0 : Int) ≤ (i : Int) := by omega
    clear hcell hk
    generalize m.segs.length = N at *
    generalize m.segs.getD i seg0 = s at *
    obtain ⟨f, ct, pk⟩ := s
    dsimp only at c0 c1 c2 hp hp1
    replace c0 := (old_cell w (.cells #[.int .i64 m.size, rv, .slice (some ⟨b, off, none⟩) N c] 28) b (off + i * 3) hb0).trans c0
    replace c1 := (old_cell w (.cells #[.int .i64 m.size, rv, .slice (some ⟨b, off, none⟩) N c] 28) b (off + i * 3 + 1) hb0).trans c1
    replace c2 := (old_cell w (.cells #[.int .i64 m.size, rv, .slice (some ⟨b, off, none⟩) N c] 28) b (off + i * 3 + 2) hb0).trans c2
    have hp0 := hp.below b0
    generalize m.size = size at *
    have x1 := box_old (w.alloc (.cells #[.int .i64 size, rv, .slice (some ⟨b, off, none⟩) N c] 28)) (.cells #[.int .i64 f, .int .i64 ct, .slice pa pk.length pc] 55) x0
    have y1 := box_new (w.alloc (.cells #[.int .i64 size, rv, .slice (some ⟨b, off, none⟩) N c] 28)) #[.int .i64 f, .int .i64 ct, .slice pa pk.length pc] 55
    have d1 : Below (w.alloc (.cells #[.int .i64 size, rv, .slice (some ⟨b, off, none⟩) N c] 28)).heap.size (w.alloc (.cells #[.int .i64 size, rv, .slice (some ⟨b, off, none⟩) N c] 28)) ((w.alloc (.cells #[.int .i64 size, rv, .slice (some ⟨b, off, none⟩) N c] 28)).alloc (.cells #[.int .i64 f, .int .i64 ct, .slice pa pk.length pc] 55)) := (Below.refl _ _).alloc (Nat.le_refl _) _
    have hp1' := hp0.below d1
    have b1 := b0.trans (d1.mono b0.size)
    have hF := segFits_any f ct i size (.slice pa pk.length pc) pk ((w.alloc (.cells #[.int .i64 size, rv, .slice (some ⟨b, off, none⟩) N c] 28)).alloc (.cells #[.int .i64 f, .int .i64 ct, .slice pa pk.length pc] 55)) hj3
    have e1 : (w.alloc (.cells #[.int .i64 size, rv, .slice (some ⟨b, off, none⟩) N c] 28)).heap.size = w.heap.size + 1 := by simp
    rw [e1] at y1
    obtain ⟨z0, z1, z2, -, -, -⟩ := box_three x1
    obtain ⟨t0, t1, t2, -, -, -⟩ := box_three y1
    clear x0 e1 d1 hp0
    go_enter Tryd.func10, Tryd.ntmps10
    go_wp2_with fail
    generalize (w.alloc (.cells #[.int .i64 size, rv, .slice (some ⟨b, off, none⟩) N c] 28)).alloc (.cells #[.int .i64 f, .int .i64 ct, .slice pa pk.length pc] 55) = w1 at *
    refine hF.mono ?_
    rintro e w2 ⟨rfl, hb2⟩
    have b2 := b1.trans (hb2.mono b1.size)
    obtain ⟨t0', t1', t2', -, -, -⟩ := box_three (box_kept y1 hb2)
    have hp2' := hp1'.below hb2
    have y2 := box_kept y1 hb2
    clear hF c0 c1 c2 u0 u1 u2 z0 z1 z2 t0 t1 t2 x1 y1
    cases hfit : fitB size (i : Int) ⟨f, ct, pk⟩ with
    | false =>
      have HE2 : Hid (segmentL m (i : Int) = ([], 7)) := by show _ = _; rw [HE.out, if_pos hfit]
      clear HE hfit
      go_wp2_with fail
      exact bodyPost_ret (v := .tuple #[.slice none 0 0, .int .i64 7]) (by simp [results, Tryd.results10, go_sem]) rfl ⟨none, 0, 0, by rw [HE2.out], by rw [HE2.out]; exact laid_nil _, b2⟩
    | true =>
      have hft := fitB_iff.1 hfit
      dsimp only at hft
      have HE2 : Hid (segmentL m (i : Int) = readSeg ⟨f, ct, pk⟩) := by show _ = _; rw [HE.out, if_neg (by rw [hfit]; decide)]
      obtain ⟨cnt, rfl⟩ : ∃ cnt : Nat, ct = (cnt : Int) := ⟨ct.toNat, by omega⟩
      have hc8 : cnt ≤ 8 := by omega
      have hU := hUn pk _ w2 hp2' ⟨_, _, rfl, hp1, hp2⟩
      have hub := unpack_bytes hp2'.bytes
      have hul := unpack_len pk
      have HR : Hid (readSeg ⟨f, (cnt : Int), pk⟩ = if (unpackL pk).2 ≠ 0 then ([], (unpackL pk).2) else match takeL cnt (unpackL pk).1 with | none => ([], 2) | some l => (l, 0)) := by show _ = _; unfold readSeg; dsimp only; rw [Int.toNat_natCast]; rfl
      clear HE hfit hft
      generalize unpackL pk = U at *
      obtain ⟨T, ue⟩ := U
      dsimp only at hU hub hul HR
      go_wp2_with fail
      refine hU.mono ?_
      rintro e w3 ⟨tv, rfl, hT, hb3⟩
      have b3 := b2.trans (hb3.mono b2.size)
      obtain ⟨t0'', t1'', t2'', -, -, -⟩ := box_three (box_kept y2 hb3)
      clear hU t0' t1' t2' y2
      by_cases hue : ue = 0
      · subst hue
        have hRd := readEntries_any T hub hul cnt hc8 tv w3 hT
        have HR2 : Hid (segmentL m (i : Int) = match takeL cnt T with | none => ([], 2) | some l => (l, 0)) := by show _ = _; rw [HE2.out, HR.out, if_neg (fun h => h rfl)]
        obtain ⟨ta, tc, rfl⟩ := hT.1.form
        clear HE2 HR hub hT
        go_wp2_with fail
        refine hRd.mono ?_
        rintro e w4 ⟨v, rfl, hok, hb4⟩
        have b4 := b3.trans (hb4.mono b3.size)
        clear hRd
        cases htk : takeL cnt T with
        | none =>
          rw [htk] at hok HR2
          have HR3 : Hid (segmentL m (i : Int) = ([], 2)) := HR2.out
          clear HR2 htk hok
          dsimp only [Option.isSome]
          go_wp2_with fail
          exact bodyPost_ret (v := .tuple #[.slice none 0 0, .int .i64 2]) (by simp [results, Tryd.results10, go_sem]) rfl ⟨none, 0, 0, by rw [HR3.out], by rw [HR3.out]; exact laid_nil _, b4⟩
        | some l =>
          rw [htk] at hok HR2
          have HR3 : Hid (segmentL m (i : Int) = (l, 0)) := HR2.out
          obtain ⟨xa, xn, xc, rfl, hl⟩ := hok l rfl
          clear HR2 htk hok
          dsimp only [Option.isSome]
          go_wp2_with fail
          exact bodyPost_ret (v := .tuple #[.slice xa xn xc, .int .i64 0]) (by simp [results, Tryd.results10, go_sem]) rfl ⟨xa, xn, xc, by rw [HR3.out], by rw [HR3.out]; exact hl, b4⟩
      · have hue' : (ue != 0) = true := by simpa using hue
        have HR2 : Hid (segmentL m (i : Int) = ([], ue)) := by show _ = _; rw [HE2.out, HR.out, if_pos hue]
        clear HE2 HR hub hT hue
        go_wp2_with fail
        exact bodyPost_ret (v := .tuple #[.slice none 0 0, .int .i64 ue]) (by simp [results, Tryd.results10, go_sem]) rfl ⟨none, 0, 0, by rw [HR2.out], by rw [HR2.out]; exact laid_nil _, b3⟩

end Go.Proofs.YtbkkfchcdfhfgadDoor
