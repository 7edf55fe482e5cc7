/- The walk of Stands. -/
import Derived.Test.YtkjlchfmplcobadDoorProg
import Derived.Test.YtkjlchfmplcobadDoorTreeGoAlong
import Derived.Test.YtkjlchfmplcobadDoorRunAK
import Derived.WalkKit
import Derived.WalkSpells
import Derived.WalkLawsBesides
namespace Go.Proofs.YtkjlchfmplcobadDoor
open Go.RowKit

theorem stepUp_bytes (i : Nat) (d : List Int) (x : (Nat × Nat) × List Int) : Bytes (stepUp i d x) ∧ (stepUp i d x).length = 32 := by
  unfold stepUp
  split
  · exact ⟨nodeL_bytes _ _, nodeL_length _ _⟩
  · exact ⟨nodeL_bytes _ _, nodeL_length _ _⟩
theorem foldl_up (i : Nat) (l : List ((Nat × Nat) × List Int)) : ∀ d : List Int, Bytes d ∧ d.length = 32 → Bytes (l.foldl (stepUp i) d) ∧ (l.foldl (stepUp i) d).length = 32 := by
  induction l with
  | nil => intro d h; exact h
  | cons x l ih => intro d _; exact ih _ (stepUp_bytes i d x)
theorem foldUp_bytes (i : Nat) (b : List Int) (ps : List (Nat × Nat)) (p : List (List Int)) : Bytes (foldUp i (leafL b) ps p) ∧ (foldUp i (leafL b) ps p).length = 32 := foldl_up i _ _ ⟨leafL_bytes b, shaL_len _⟩
/-- What Stands has made of the parts that were visited. -/
def StandsI (wb : World) (bi bh bm i : Nat) (hv1 hv2 : Value) (b : List Int) (p : List (List Int)) (done : List (Nat × Nat)) (w : World) : Prop :=
  Below wb.heap.size wb w ∧ w.heap[bi]? = some (.cells #[.int .i64 (i : Int)] 3 (0, 0)) ∧ w.heap[bh]? = some (.cells #[hv1, hv2] 25 (0, 0)) ∧ ∃ a c, w.heap[bm]? = some (.cells #[.slice a 32 c] 23 (0, 0)) ∧ w.ownsRow wb.heap.size 5 1 (.slice a 32 c) 32 ((foldUp i (leafL b) done p).map (Value.int .u8))
set_option maxRecDepth 100000 in
set_option maxHeartbeats 1000000 in
theorem stands1_call {wb : World} {bi bh bm i : Nat} {hv1 hv2 : Value} {b : List Int} {p : List (List Int)} {ps : List (Nat × Nat)} (hr : Ready wb) (hbm : wb.heap.size ≤ bm) (hpz : ∀ j, Bytes (p.getD j [])) (hg : goodL p = true) (hpl : p.length = ps.length)
    (done : List (Nat × Nat)) (f e : Nat) (w : World) (v : Value) (hp : (done ++ [(f, e)]) <+: ps) (hJ : StandsI wb bi bh bm i hv1 hv2 b p done w) (hv0 : BytesAt wb v (p.getD done.length [])) (hB : wb.heap.size ≤ w.heap.size) :
    Calls Tryd.prog 69 #[partV f e, v, .pointer (some ⟨bi, 0, none⟩), .pointer (some ⟨bm, 0, none⟩)] w fun r w' => r = .returned (.tuple #[]) ∧ StandsI wb bi bh bm i hv1 hv2 b p (done ++ [(f, e)]) w' ∧ MidT (fun t => t ≠ 23) wb.heap.size w w' := by
  obtain ⟨hb, hi, hh, a, c, hm, ho⟩ := hJ
  have hv := hv0.below (Nat.le_refl _) hb
  clear hv0
  have hd : done.length < p.length := by have := hp.length_le; simp at this; omega
  have hd32 : (p.getD done.length []).length = 32 := goodL_get hg _ hd
  have hdz := hpz done.length
  have HS : foldUp i (leafL b) (done ++ [(f, e)]) p = stepUp i (foldUp i (leafL b) done p) ((f, e), p.getD done.length []) := foldUp_snoc _ _ _ _ _ hd
  obtain ⟨hfz, hf32⟩ := foldUp_bytes i b done p
  unfold StandsI
  rw [HS]
  clear HS
  generalize foldUp i (leafL b) done p = F at *
  generalize p.getD done.length [] = D at *
  have bW : Below w.heap.size w (w.alloc (.cells #[.int .i64 f, .int .i64 e] 96)) := (Below.refl _ _).alloc (Nat.le_refl _) _
  have bWW := hb.trans (bW.mono hB)
  have hiW := box_kept hi bW
  have hhW := box_kept hh bW
  have hmW := box_kept hm bW
  have hoW := ho.alloc (.cells #[.int .i64 f, .int .i64 e] 96)
  have hvW := hv.below (Nat.le_refl _) bW
  have hMW : MidT (fun t => t ≠ 23) wb.heap.size w (w.alloc (.cells #[.int .i64 f, .int .i64 e] 96)) := MidT.of_below bW hB
  have y1 := (box_cell hiW).1
  have y2 := (box_cell hmW).1
  obtain ⟨va, vc, ev⟩ := hv.form
  subst ev
  have sD : Some' (w.alloc (.cells #[.int .i64 f, .int .i64 e] 96)) (.slice va D.length vc) D := ⟨hvW, hdz, by rw [hd32]; unfold maxLen; omega⟩
  have sF := some_own hoW hfz
  have n1 := nodeC_holds D F _ _ _ (hr.below bWW) sD sF (by omega)
  have n2 := nodeC_holds F D _ _ _ (hr.below bWW) sF sD (by omega)
  have hs2 := bWW.size
  -- what follows the Node
  have fin : ∀ (x : Value) (w1 : World) (R : List Int), w1.ownsRow (w.alloc (.cells #[.int .i64 f, .int .i64 e] 96)).heap.size 5 1 x 32 (R.map (Value.int .u8)) → Below (w.alloc (.cells #[.int .i64 f, .int .i64 e] 96)).heap.size (w.alloc (.cells #[.int .i64 f, .int .i64 e] 96)) w1 →
      ∃ xa xc, x = .slice xa 32 xc ∧ w1.cell? ⟨bm, 0, none⟩ = some (.slice a 32 c) ∧ w1.frozen? ⟨bm, 0, none⟩ = false ∧ (Below wb.heap.size wb (w1.setCell ⟨bm, 0, none⟩ (.slice xa 32 xc)) ∧ (w1.setCell ⟨bm, 0, none⟩ (.slice xa 32 xc)).heap[bi]? = some (.cells #[.int .i64 (i : Int)] 3 (0, 0)) ∧ (w1.setCell ⟨bm, 0, none⟩ (.slice xa 32 xc)).heap[bh]? = some (.cells #[hv1, hv2] 25 (0, 0)) ∧
        ∃ a c, (w1.setCell ⟨bm, 0, none⟩ (.slice xa 32 xc)).heap[bm]? = some (.cells #[.slice a 32 c] 23 (0, 0)) ∧ (w1.setCell ⟨bm, 0, none⟩ (.slice xa 32 xc)).ownsRow wb.heap.size 5 1 (.slice a 32 c) 32 (R.map (Value.int .u8))) ∧ MidT (fun t => t ≠ 23) wb.heap.size w (w1.setCell ⟨bm, 0, none⟩ (.slice xa 32 xc)) := by
    intro x w1 R hx hb1
    obtain ⟨xa, xc, rfl⟩ := own_form' hx
    have m1 := box_kept hmW hb1
    have ne1 : bi ≠ bm := fun h => by subst h; rw [hi] at hm; cases hm
    have ne2 : bh ≠ bm := fun h => by subst h; rw [hh] at hm; cases hm
    exact ⟨xa, xc, rfl, (box_cell m1).1, (box_cell m1).2, ⟨(bWW.trans (hb1.mono hs2)).setCell hbm _, box_set_far (box_kept hiW hb1) ne1, box_set_far (box_kept hhW hb1) ne2, xa, xc, box_set m1, own_set (ownsRow_base hx hs2) m1 (by decide) _⟩,
      (hMW.trans (MidT.of_below hb1 hs2)).trans (MidT.set m1 (by decide) hbm _)⟩
  by_cases hfi : f < i
  · have HT : stepUp i F ((f, e), D) = nodeL D F := by unfold stepUp; rw [if_pos hfi]
    rw [HT]
    have j1 : (f : Int) < (i : Int) := by omega
    clear HT hfi n2 hMW hoW hvW sD sF hv ho hd hd32 hf32
    go_enter Tryd.func69, Tryd.ntmps69
    go_wp2_with fail
    refine n1.mono ?_
    rintro r w1 ⟨x, rfl, hx, hb1⟩
    obtain ⟨xa, xc, rfl, u1, u2, u3, u4⟩ := fin x w1 _ hx hb1
    clear n1 fin hx
    go_wp2_with fail
    go_end0
    exact ⟨rfl, u3, u4⟩
  · have HT : stepUp i F ((f, e), D) = nodeL F D := by unfold stepUp; rw [if_neg hfi]
    rw [HT]
    have j1 : ¬ (f : Int) < (i : Int) := by omega
    clear HT hfi n1 hMW hoW hvW sD sF hv ho hd hd32 hf32
    go_enter Tryd.func69, Tryd.ntmps69
    go_wp2_with fail
    refine n2.mono ?_
    rintro r w1 ⟨x, rfl, hx, hb1⟩
    obtain ⟨xa, xc, rfl, u1, u2, u3, u4⟩ := fin x w1 _ hx hb1
    clear n2 fin hx
    go_wp2_with fail
    go_end0
    exact ⟨rfl, u3, u4⟩

theorem stands1_marks {wb : World} {N bi bh bm i : Nat} {hv1 hv2 : Value} {b : List Int} {p : List (List Int)} {ps : List (Nat × Nat)} (hr : Ready wb) (hN : wb.heap.size ≤ N) (hbm : wb.heap.size ≤ bm) (h1 : bi < N) (h2 : bh < N) (h3 : bm < N) (hpz : ∀ j, Bytes (p.getD j [])) (hg : goodL p = true) (hpl : p.length = ps.length) :
    Marks wb N 69 #[.pointer (some ⟨bi, 0, none⟩), .pointer (some ⟨bm, 0, none⟩)] ps p (StandsI wb bi bh bm i hv1 hv2 b p) := by
  refine ⟨fun _ _ => by simp [go_sem], fun done w w' h hb => ?_, fun done w k x u h hk hx => ?_, fun done f e w v hp hJ hv hB => stands1_call hr hbm hpz hg hpl done f e w v hp hJ hv hB⟩
  · obtain ⟨q1, q2, q3, a, c, q4, q5⟩ := h
    exact ⟨q1.trans (hb.mono q1.size), box_kept q2 hb, box_kept q3 hb, a, c, box_kept q4 hb, own_below q5 hb (Nat.le_refl _)⟩
  · obtain ⟨q1, q2, q3, a, c, q4, q5⟩ := h
    exact ⟨q1.setCell (Nat.le_trans hN hk) _, box_set_far q2 (by omega), box_set_far q3 (by omega), a, c, box_set_far q4 (by omega), own_set q5 hx (by decide) _⟩
theorem stands_no {size : Int} {root b : List Int} {i : Int} {p : List (List Int)} (h : size < 1 ∨ 100 < size ∨ i < 0 ∨ size ≤ i ∨ 200 < b.length ∨ goodL p = false) : standsL size root b i p = false := by unfold standsL; rw [if_pos h]
theorem stands_fit {sz j : Nat} {root b : List Int} {p : List (List Int)} (h1 : 1 ≤ sz) (h2 : sz ≤ 100) (h3 : j < sz) (h4 : b.length ≤ 200) (hf : (decide (p.length = (pathP 0 sz j).length) && goodL p) = false) : standsL sz root b j p = false := by
  by_cases hg : goodL p = true
  · unfold standsL
    rw [if_neg (by rw [hg]; simp; omega)]
    rw [hg, Bool.and_true] at hf
    have := (up_all (leafL b) sz 0 sz j p (by omega) (by omega) h3).1
    rw [Nat.sub_zero, Nat.sub_zero, hf] at this
    simp only [Int.toNat_natCast]
    rw [this]; rfl
  · exact stands_no (by simp at hg; simp [hg])
theorem stands_yes {sz j : Nat} {root b : List Int} {p : List (List Int)} (h1 : 1 ≤ sz) (h2 : sz ≤ 100) (h3 : j < sz) (h4 : b.length ≤ 200) (hg : goodL p = true) (hf : p.length = (pathP 0 sz j).length) : standsL sz root b j p = decide (foldUp j (leafL b) (pathP 0 sz j) p = root) := by
  unfold standsL
  rw [if_neg (by rw [hg]; simp; omega)]
  obtain ⟨u1, u2⟩ := up_all (leafL b) sz 0 sz j p (by omega) (by omega) h3
  rw [Nat.sub_zero, Nat.sub_zero] at u1 u2
  simp only [Int.toNat_natCast]
  rw [u1, decide_eq_true hf, Bool.true_and]
  exact decide_eq_decide.2 (by rw [u2 hf])
set_option maxRecDepth 100000 in
set_option maxHeartbeats 1000000 in
theorem standsC_holds : StandsC := by
  intro size root b i p rv bv a n c w hr hrv hbv hL
  obtain ⟨ra, rc, er⟩ := hrv.at'.form
  obtain ⟨ba, bc, eb⟩ := hbv.at'.form
  subst er eb
  have hbl := hbv.short
  unfold maxLen at hbl
  have bW : Below w.heap.size w ((w.alloc (.cells #[.int .i64 size, .slice ra root.length rc] 25)).alloc (.cells #[.int .i64 i] 3)) := ((Below.refl _ _).alloc (Nat.le_refl _) _).alloc (by simp) _
  by_cases h1 : size < 1
  · rw [stands_no (.inl h1)]
    go_enter Tryd.func41, Tryd.ntmps41
    go_wp2_with fail
    go_ret
    exact ⟨rfl, bW⟩
  by_cases h2 : 100 < size
  · rw [stands_no (.inr (.inl h2))]
    go_enter Tryd.func41, Tryd.ntmps41
    go_wp2_with fail
    go_ret
    exact ⟨rfl, bW⟩
  by_cases h3 : i < 0
  · rw [stands_no (.inr (.inr (.inl h3)))]
    go_enter Tryd.func41, Tryd.ntmps41
    go_wp2_with fail
    go_ret
    exact ⟨rfl, bW⟩
  by_cases h4 : size ≤ i
  · rw [stands_no (.inr (.inr (.inr (.inl h4))))]
    go_enter Tryd.func41, Tryd.ntmps41
    go_wp2_with fail
    go_ret
    exact ⟨rfl, bW⟩
  by_cases h5 : 200 < b.length
  · rw [stands_no (.inr (.inr (.inr (.inr (.inl h5)))))]
    have i5 : (200 : Int) < (b.length : Int) := by omega
    go_enter Tryd.func41, Tryd.ntmps41
    go_wp2_with fail
    go_ret
    exact ⟨rfl, bW⟩
  have i5 : ¬ (200 : Int) < (b.length : Int) := by omega
  obtain ⟨sz, rfl⟩ : ∃ sz : Nat, size = (sz : Int) := ⟨size.toNat, by omega⟩
  obtain ⟨j, rfl⟩ : ∃ j : Nat, i = (j : Int) := ⟨i.toNat, by omega⟩
  have hpo : ∀ w', _ := fun w' => pathOf_any sz j w' (by omega) (by omega)
  have hfew := pathP_few sz 0 sz j (by omega)
  have hln := hL.len
  have hfi : ∀ w' (_ : Below w.heap.size w w') kw cw (_ : Walker w' kw cw (pathP 0 sz j)), _ := fun w' h kw cw hk => fits_any hk (hL.below h) (by omega)
  have hb0 := box_one w #[.int .i64 sz, .slice ra root.length rc] 25 (.cells #[.int .i64 (j : Int)] 3)
  have hb1 := box_last w (.cells #[.int .i64 sz, .slice ra root.length rc] 25) #[.int .i64 (j : Int)] 3
  have hsW := bW.size
  have hqs : w.heap.size + 1 < ((w.alloc (.cells #[.int .i64 sz, .slice ra root.length rc] 25)).alloc (.cells #[.int .i64 (j : Int)] 3)).heap.size := by simp
  by_cases hfit : (decide (p.length = (pathP 0 sz j).length) && goodL p) = false
  · rw [stands_fit (by omega) (by omega) (by omega) (by omega) hfit]
    rw [hfit] at hfi
    go_enter Tryd.func41, Tryd.ntmps41
    go_wp2_with fail
    refine (hpo _).mono ?_
    rintro r w1 ⟨kw, cw, rfl, hk, b1⟩
    have b1' := bW.trans (b1.mono hsW)
    go_wp2_with fail
    refine (hfi _ b1' kw cw hk).mono ?_
    rintro r w2 ⟨rfl, b2⟩
    have b2' := b1'.trans (b2.mono b1'.size)
    go_wp2_with fail
    go_ret
    exact ⟨rfl, b2'⟩
  · simp only [Bool.not_eq_false] at hfit
    rw [hfit] at hfi
    simp only [Bool.and_eq_true, decide_eq_true_eq] at hfit
    obtain ⟨hpl, hg⟩ := hfit
    rw [stands_yes (by omega) (by omega) (by omega) (by omega) hg hpl]
    have hlf : ∀ w' (_ : Below w.heap.size w w'), _ := fun w' h => leafC_holds b _ w' (hr.below h) (hbv.below h) (by omega)
    have hal : ∀ (w' : World) (_ : Below w.heap.size w w') kw cw (_ : Walker w' kw cw (pathP 0 sz j)) (M : Nat) (_ : w.heap.size ≤ M) (_ : M < w'.heap.size) (_ : w.heap.size + 1 < w'.heap.size) (_ : StandsI w (w.heap.size + 1) w.heap.size M j (.int .i64 sz) (.slice ra root.length rc) b p [] w'), _ := fun w' h kw cw hk M hM hM2 hM3 hJ =>
      along_any hk (stands1_marks hr h.size hM hM3 (Nat.lt_of_succ_lt hM3) hM2 hL.bytes hg hpl) hL (hln ▸ hpl) (by omega) h hJ
    have hq : ∀ (w' : World) (_ : Below w.heap.size w w') xa xc (_ : w'.ownsRow w.heap.size 5 1 (.slice xa 32 xc) 32 ((foldUp j (leafL b) (pathP 0 sz j) p).map (Value.int .u8))), _ := fun w' h xa xc ho =>
      equal_any _ root _ (.slice ra root.length rc) w' (bytesAt_own ho) (hrv.at'.below (Nat.le_refl _) h) (foldUp_bytes j b _ p).1 hrv.bytes
    have h320 := foldUp_nil j (leafL b) p
    clear hpl hln
    go_enter Tryd.func41, Tryd.ntmps41
    go_wp2_with fail
    refine (hpo _).mono ?_
    rintro r w1 ⟨kw, cw, rfl, hk, b1⟩
    have b1' := bW.trans (b1.mono hsW)
    have p0 := box_kept hb0 b1
    have p1 := box_kept hb1 b1
    go_wp2_with fail
    refine (hfi _ b1' kw cw hk).mono ?_
    rintro r w2 ⟨rfl, b2⟩
    have b2' := b1'.trans (b2.mono b1'.size)
    replace p0 := box_kept p0 b2
    replace p1 := box_kept p1 b2
    go_wp2_with fail
    refine (hlf _ b2').mono ?_
    rintro r w3 ⟨x, rfl, ho, b3⟩
    obtain ⟨xa, xc, rfl⟩ := own_form' ho
    have b3' := b2'.trans (b3.mono b2'.size)
    replace p0 := box_kept p0 b3
    replace p1 := box_kept p1 b3
    have hs3 := b3'.size
    have b4 : Below w3.heap.size w3 (w3.alloc (.cells #[.slice xa 32 xc] 23)) := (Below.refl _ _).alloc (Nat.le_refl _) _
    have b4' := b3'.trans (b4.mono hs3)
    have hJ0 : StandsI w (w.heap.size + 1) w.heap.size w3.heap.size j (.int .i64 sz) (.slice ra root.length rc) b p [] (w3.alloc (.cells #[.slice xa 32 xc] 23)) :=
      ⟨b4', box_kept p1 b4, box_kept p0 b4, xa, xc, box_new _ _ _, by rw [h320]; exact (ownsRow_base ho b2'.size).alloc _⟩
    have hk4 := ((hk.below b2).below b3).below b4
    have hA := hal _ b4' kw cw hk4 w3.heap.size hs3 (by simp) (by have := lt_heap p1; simp; omega) hJ0
    clear hJ0 hal hlf hfi hpo
    go_wp2_with fail
    refine hA.mono ?_
    rintro r w5 ⟨rfl, c1, c2, c3, ya, yc, c4, c5⟩
    have z1 := (box_cell c4).1
    obtain ⟨-, z2, -, -⟩ := box_two c3
    have hQ := hq _ c1 ya yc c5
    clear hA hq c4 c5 c2 c3
    go_wp2_with fail
    refine hQ.mono ?_
    rintro r w6 ⟨rfl, rfl⟩
    go_wp2_with fail
    go_ret
    exact ⟨rfl, c1⟩

end Go.Proofs.YtkjlchfmplcobadDoor
