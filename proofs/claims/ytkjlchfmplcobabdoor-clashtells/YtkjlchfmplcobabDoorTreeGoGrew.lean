/- The walk of Grew. -/
import Derived.Test.YtkjlchfmplcobabDoorProg
import Derived.Test.YtkjlchfmplcobabDoorTreeGoAlong
import Derived.Test.YtkjlchfmplcobabDoorTreeGoRoot
import Derived.WalkKit
import Derived.WalkSpells
import Derived.WalkLawsBesides
import Derived.Deep.RegionWith
import Derived.Deep.RegionHeld3
import Derived.BigRegion
namespace Go.Proofs.YtkjlchfmplcobabDoor
open Go.RowKit

/-- A digest that came in, or one that the call has made. -/
def RowOr (wb w : World) (a : Option Addr) (c : Nat) (F : List Int) : Prop := BytesAt wb (.slice a 32 c) F ∨ w.ownsRow wb.heap.size 5 1 (.slice a 32 c) 32 (F.map (Value.int .u8))
theorem RowOr.at' {wb w : World} {a : Option Addr} {c : Nat} {F : List Int} (h : RowOr wb w a c F) (hb : Below wb.heap.size wb w) : BytesAt w (.slice a 32 c) F := by
  rcases h with h | h
  · exact h.below (Nat.le_refl _) hb
  · exact bytesAt_own h
theorem RowOr.below {wb w w' : World} {a : Option Addr} {c : Nat} {F : List Int} (h : RowOr wb w a c F) (hb : Below w.heap.size w w') : RowOr wb w' a c F := by
  rcases h with h | h
  · exact .inl h
  · exact .inr (own_below h hb (Nat.le_refl _))
theorem RowOr.set {wb w : World} {a : Option Addr} {c k : Nat} {F : List Int} {x u : Value} {t : TypeId} (h : RowOr wb w a c F) (hk : w.heap[k]? = some (.cells #[x] t (0, 0))) (ht : t ≠ 5) : RowOr wb (w.setCell ⟨k, 0, none⟩ u) a c F := by
  rcases h with h | h
  · exact .inl h
  · exact .inr (own_set h hk ht u)
theorem foldl_two (m : Nat) (l : List ((Nat × Nat) × List Int)) : ∀ d : List Int × List Int, (∀ x ∈ l, Bytes x.2 ∧ x.2.length = 32) → (Bytes d.1 ∧ d.1.length = 32) → (Bytes d.2 ∧ d.2.length = 32) → (Bytes (l.foldl (stepTwo m) d).1 ∧ (l.foldl (stepTwo m) d).1.length = 32) ∧ (Bytes (l.foldl (stepTwo m) d).2 ∧ (l.foldl (stepTwo m) d).2.length = 32) := by
  induction l with
  | nil => intro d _ h1 h2; exact ⟨h1, h2⟩
  | cons x l ih =>
    intro d hl h1 h2
    have hx := hl x (by simp)
    rw [List.foldl_cons]
    refine ih _ (fun y hy => hl y (by simp [hy])) ?_ ?_
    · unfold stepTwo
      split
      · exact hx
      · split
        · exact ⟨nodeL_bytes _ _, nodeL_length _ _⟩
        · exact h1
    · unfold stepTwo
      split
      · exact hx
      · split
        · exact ⟨nodeL_bytes _ _, nodeL_length _ _⟩
        · exact ⟨nodeL_bytes _ _, nodeL_length _ _⟩
theorem mem_bytes {p : List (List Int)} (hz : ∀ j, Bytes (p.getD j [])) : ∀ x ∈ p, Bytes x := fun x hx => by
  obtain ⟨j, hj, rfl⟩ := List.mem_iff_getElem.1 hx
  have := hz j
  rwa [List.getD_eq_getElem?_getD, List.getElem?_eq_getElem hj] at this
theorem foldTwo_bytes (m : Nat) {old : List Int} {p : List (List Int)} (ho : Bytes old) (h32 : old.length = 32) (hz : ∀ j, Bytes (p.getD j [])) (hg : goodL p = true) (ps : List (Nat × Nat)) :
    (Bytes (foldTwo m (old, old) ps p).1 ∧ (foldTwo m (old, old) ps p).1.length = 32) ∧ (Bytes (foldTwo m (old, old) ps p).2 ∧ (foldTwo m (old, old) ps p).2.length = 32) :=
  foldl_two m _ _ (fun x hx => by
    have h := (List.of_mem_zip (a := x.1) (b := x.2) hx).2
    exact ⟨mem_bytes hz _ h, goodL_digs.1 hg _ h⟩) ⟨ho, h32⟩ ⟨ho, h32⟩
/-- What Grew has made of the parts that were visited. -/
def GrewI (wb : World) (bo bn bb ba m : Nat) (ov nv1 nv2 : Value) (old : List Int) (p : List (List Int)) (done : List (Nat × Nat)) (w : World) : Prop :=
  Below wb.heap.size wb w ∧ w.heap[bo]? = some (.cells #[.int .i64 (m : Int), ov] 34 (0, 0)) ∧ w.heap[bn]? = some (.cells #[nv1, nv2] 34 (0, 0)) ∧
    ∃ a1 c1 a2 c2, w.heap[bb]? = some (.cells #[.slice a1 32 c1] 24 (0, 0)) ∧ w.heap[ba]? = some (.cells #[.slice a2 32 c2] 24 (0, 0)) ∧ RowOr wb w a1 c1 (foldTwo m (old, old) done p).1 ∧ RowOr wb w a2 c2 (foldTwo m (old, old) done p).2
set_option maxRecDepth 100000 in
set_option maxHeartbeats 1000000 in
theorem grew1_call {wb : World} {bo bn bb ba m : Nat} {ov nv1 nv2 : Value} {old : List Int} {p : List (List Int)} {ps : List (Nat × Nat)} (hr : Ready wb) (hbb : wb.heap.size ≤ bb) (hba : wb.heap.size ≤ ba) (hne : bb ≠ ba) (hoz : Bytes old) (ho32 : old.length = 32) (hpz : ∀ j, Bytes (p.getD j [])) (hg : goodL p = true) (hpl : p.length = ps.length)
    (done : List (Nat × Nat)) (f e : Nat) (w : World) (v : Value) (hp : (done ++ [(f, e)]) <+: ps) (hJ : GrewI wb bo bn bb ba m ov nv1 nv2 old p done w) (hv0 : BytesAt wb v (p.getD done.length [])) (hB : wb.heap.size ≤ w.heap.size) :
    Calls Tryd.prog 35 #[partV f e, v, .pointer (some ⟨bo, 0, none⟩), .pointer (some ⟨bb, 0, none⟩), .pointer (some ⟨ba, 0, none⟩)] w fun r w' => r = .returned (.tuple #[]) ∧ GrewI wb bo bn bb ba m ov nv1 nv2 old p (done ++ [(f, e)]) w' ∧ MidT (fun t => t ≠ 24) wb.heap.size w w' := by
  obtain ⟨hb, hbo, hbn, a1, c1, a2, c2, h1, h2, r1, r2⟩ := hJ
  have hd : done.length < p.length := by have := hp.length_le; simp at this; omega
  have hd32 : (p.getD done.length []).length = 32 := goodL_get hg _ hd
  have hdz := hpz done.length
  have HS : foldTwo m (old, old) (done ++ [(f, e)]) p = stepTwo m (foldTwo m (old, old) done p) ((f, e), p.getD done.length []) := foldTwo_snoc _ _ _ _ _ hd
  obtain ⟨⟨f1z, f132⟩, f2z, f232⟩ := foldTwo_bytes m hoz ho32 hpz hg done
  unfold GrewI
  rw [HS]
  clear HS
  generalize foldTwo m (old, old) done p = F at *
  obtain ⟨F1, F2⟩ := F
  generalize p.getD done.length [] = D at *
  dsimp only at f1z f132 f2z f232 r1 r2
  have bW : Below w.heap.size w (w.alloc (.cells #[.int .i64 f, .int .i64 e] 63)) := (Below.refl _ _).alloc (Nat.le_refl _) _
  have bWW := hb.trans (bW.mono hB)
  have oW := box_kept hbo bW
  have nW := box_kept hbn bW
  have g1 := box_kept h1 bW
  have g2 := box_kept h2 bW
  replace r1 := r1.below bW
  replace r2 := r2.below bW
  have hMW : MidT (fun t => t ≠ 24) wb.heap.size w (w.alloc (.cells #[.int .i64 f, .int .i64 e] 63)) := MidT.of_below bW hB
  obtain ⟨va, vc, ev⟩ := hv0.form
  rw [hd32] at ev
  subst ev
  have hs2 := bWW.size
  have bq := box_new w #[.int .i64 f, .int .i64 e] 63
  have nb1 : bo ≠ bb := fun h => by subst h; rw [hbo] at h1; cases h1
  have nb2 : bo ≠ ba := fun h => by subst h; rw [hbo] at h2; cases h2
  have nb3 : bn ≠ bb := fun h => by subst h; rw [hbn] at h1; cases h1
  have nb4 : bn ≠ ba := fun h => by subst h; rw [hbn] at h2; cases h2
  clear hb hbo hbn h1 h2 bW
  have fin : ∀ (w1 : World) (x1 x2 : Option Addr) (y1 y2 : Nat) (R1 R2 : List Int), Below (w.alloc (.cells #[.int .i64 f, .int .i64 e] 63)).heap.size (w.alloc (.cells #[.int .i64 f, .int .i64 e] 63)) w1 → RowOr wb w1 x1 y1 R1 → RowOr wb w1 x2 y2 R2 →
      (w1.cell? ⟨bb, 0, none⟩ = some (.slice a1 32 c1) ∧ w1.frozen? ⟨bb, 0, none⟩ = false ∧ (w1.setCell ⟨bb, 0, none⟩ (.slice x1 32 y1)).cell? ⟨ba, 0, none⟩ = some (.slice a2 32 c2) ∧ (w1.setCell ⟨bb, 0, none⟩ (.slice x1 32 y1)).frozen? ⟨ba, 0, none⟩ = false) ∧
      (Below wb.heap.size wb ((w1.setCell ⟨bb, 0, none⟩ (.slice x1 32 y1)).setCell ⟨ba, 0, none⟩ (.slice x2 32 y2)) ∧ ((w1.setCell ⟨bb, 0, none⟩ (.slice x1 32 y1)).setCell ⟨ba, 0, none⟩ (.slice x2 32 y2)).heap[bo]? = some (.cells #[.int .i64 (m : Int), ov] 34 (0, 0)) ∧ ((w1.setCell ⟨bb, 0, none⟩ (.slice x1 32 y1)).setCell ⟨ba, 0, none⟩ (.slice x2 32 y2)).heap[bn]? = some (.cells #[nv1, nv2] 34 (0, 0)) ∧
        ∃ a1 c1 a2 c2, ((w1.setCell ⟨bb, 0, none⟩ (.slice x1 32 y1)).setCell ⟨ba, 0, none⟩ (.slice x2 32 y2)).heap[bb]? = some (.cells #[.slice a1 32 c1] 24 (0, 0)) ∧ ((w1.setCell ⟨bb, 0, none⟩ (.slice x1 32 y1)).setCell ⟨ba, 0, none⟩ (.slice x2 32 y2)).heap[ba]? = some (.cells #[.slice a2 32 c2] 24 (0, 0)) ∧
          RowOr wb ((w1.setCell ⟨bb, 0, none⟩ (.slice x1 32 y1)).setCell ⟨ba, 0, none⟩ (.slice x2 32 y2)) a1 c1 R1 ∧ RowOr wb ((w1.setCell ⟨bb, 0, none⟩ (.slice x1 32 y1)).setCell ⟨ba, 0, none⟩ (.slice x2 32 y2)) a2 c2 R2) ∧
      MidT (fun t => t ≠ 24) wb.heap.size w ((w1.setCell ⟨bb, 0, none⟩ (.slice x1 32 y1)).setCell ⟨ba, 0, none⟩ (.slice x2 32 y2)) := by
    intro w1 x1 x2 y1 y2 R1 R2 hb1 hx1 hx2
    have m1 := box_kept g1 hb1
    have m2 := box_kept g2 hb1
    have m2' := box_set_far (j := bb) (o := 0) (v := .slice x1 32 y1) m2 hne.symm
    refine ⟨⟨(box_cell m1).1, (box_cell m1).2, (box_cell m2').1, (box_cell m2').2⟩, ⟨((bWW.trans (hb1.mono hs2)).setCell hbb _).setCell hba _, box_set_far (box_set_far (box_kept oW hb1) nb1) nb2, box_set_far (box_set_far (box_kept nW hb1) nb3) nb4, x1, y1, x2, y2, box_set_far (box_set m1) hne, box_set m2', (hx1.set m1 (by decide)).set m2' (by decide), (hx2.set m1 (by decide)).set m2' (by decide)⟩, ?_⟩
    exact ((hMW.trans (MidT.of_below hb1 hs2)).trans (MidT.set m1 (by decide) hbb _)).trans (MidT.set m2' (by decide) hba _)
  have fin1 : ∀ (w1 : World) (x2 : Option Addr) (y2 : Nat) (R2 : List Int), Below (w.alloc (.cells #[.int .i64 f, .int .i64 e] 63)).heap.size (w.alloc (.cells #[.int .i64 f, .int .i64 e] 63)) w1 → RowOr wb w1 x2 y2 R2 →
      (w1.cell? ⟨ba, 0, none⟩ = some (.slice a2 32 c2) ∧ w1.frozen? ⟨ba, 0, none⟩ = false) ∧
      (Below wb.heap.size wb (w1.setCell ⟨ba, 0, none⟩ (.slice x2 32 y2)) ∧ (w1.setCell ⟨ba, 0, none⟩ (.slice x2 32 y2)).heap[bo]? = some (.cells #[.int .i64 (m : Int), ov] 34 (0, 0)) ∧ (w1.setCell ⟨ba, 0, none⟩ (.slice x2 32 y2)).heap[bn]? = some (.cells #[nv1, nv2] 34 (0, 0)) ∧
        ∃ a1 c1 a2 c2, (w1.setCell ⟨ba, 0, none⟩ (.slice x2 32 y2)).heap[bb]? = some (.cells #[.slice a1 32 c1] 24 (0, 0)) ∧ (w1.setCell ⟨ba, 0, none⟩ (.slice x2 32 y2)).heap[ba]? = some (.cells #[.slice a2 32 c2] 24 (0, 0)) ∧
          RowOr wb (w1.setCell ⟨ba, 0, none⟩ (.slice x2 32 y2)) a1 c1 F1 ∧ RowOr wb (w1.setCell ⟨ba, 0, none⟩ (.slice x2 32 y2)) a2 c2 R2) ∧
      MidT (fun t => t ≠ 24) wb.heap.size w (w1.setCell ⟨ba, 0, none⟩ (.slice x2 32 y2)) := by
    intro w1 x2 y2 R2 hb1 hx2
    have m1 := box_kept g1 hb1
    have m2 := box_kept g2 hb1
    refine ⟨⟨(box_cell m2).1, (box_cell m2).2⟩, ⟨(bWW.trans (hb1.mono hs2)).setCell hba _, box_set_far (box_kept oW hb1) nb2, box_set_far (box_kept nW hb1) nb4, a1, c1, x2, y2, box_set_far m1 hne, box_set m2, (r1.below hb1).set m2 (by decide), hx2.set m2 (by decide)⟩, ?_⟩
    exact (hMW.trans (MidT.of_below hb1 hs2)).trans (MidT.set m2 (by decide) hba _)
  have sD : ∀ w1, Below wb.heap.size wb w1 → Some' w1 (.slice va 32 vc) D := fun w1 h => ⟨hv0.below (Nat.le_refl _) h, hdz, by rw [hd32]; unfold maxLen; omega⟩
  have s1 : Some' (w.alloc (.cells #[.int .i64 f, .int .i64 e] 63)) (.slice a1 32 c1) F1 := ⟨r1.at' bWW, f1z, by rw [f132]; unfold maxLen; omega⟩
  have s2 : Some' (w.alloc (.cells #[.int .i64 f, .int .i64 e] 63)) (.slice a2 32 c2) F2 := ⟨r2.at' bWW, f2z, by rw [f232]; unfold maxLen; omega⟩
  have z1 := (box_cell g1).1
  have z2 := (box_cell g2).1
  obtain ⟨z3, -, -, -⟩ := box_two oW
  by_cases he : e = m
  · have HT : stepTwo m (F1, F2) ((f, e), D) = (D, D) := by unfold stepTwo; rw [if_pos he]
    rw [HT]
    subst he
    obtain ⟨⟨u1, u2, u3, u4⟩, u5, u6⟩ := fin (w.alloc (.cells #[.int .i64 f, .int .i64 e] 63)) va va vc vc D D (Below.refl _ _) (.inl hv0) (.inl hv0)
    clear fin fin1 sD s1 s2 hMW HT
    go_enter Tryd.func35, Tryd.ntmps35
    go_wp2_with fail
    go_end0
    exact ⟨rfl, u5, u6⟩
  · have i1 : (e : Int) ≠ (m : Int) := by omega
    by_cases hl : e < m
    · have HT : stepTwo m (F1, F2) ((f, e), D) = (nodeL D F1, nodeL D F2) := by unfold stepTwo; rw [if_neg he, if_pos hl]
      rw [HT]
      have i2 : (e : Int) < (m : Int) := by omega
      have n1 := nodeC_holds D F1 _ _ _ (hr.below bWW.drew) (sD _ bWW.drew) (s1.below (Below.refl _ _).drew) (by omega)
      have n2 : ∀ w1, Below (w.alloc (.cells #[.int .i64 f, .int .i64 e] 63)).heap.size (w.alloc (.cells #[.int .i64 f, .int .i64 e] 63)) w1 → _ := fun w1 h => nodeC_holds D F2 _ _ w1 (hr.below (bWW.trans (h.mono hs2))) (sD _ (bWW.trans (h.mono hs2))) (s2.below h) (by omega)
      clear fin1 sD s1 s2 hMW HT r1 r2
      go_enter Tryd.func35, Tryd.ntmps35
      go_wp2_with fail
      generalize w.alloc (.cells #[.int .i64 f, .int .i64 e] 63) = W at *
      go_region_with (first
        | (go_at_call_of 31 (Value.slice a1 32 c1); refine n1.mono ?_; rintro r w1 ⟨x, rfl, hx, hb1⟩; obtain ⟨xa, xc, rfl⟩ := own_form' hx; have b1 := (Below.refl _ _).drew.trans hb1; have k1 := (box_cell (box_kept g2 b1)).1)
        | (go_at_call_of 31 (Value.slice a2 32 c2); refine (n2 _ b1).mono ?_; rintro r w2 ⟨y, rfl, hy, hb2⟩; obtain ⟨ya, yc, rfl⟩ := own_form' hy; have b2 := b1.trans (hb2.mono b1.size); obtain ⟨⟨u1, u2, u3, u4⟩, u5, u6⟩ := fin w2 xa ya xc yc _ _ b2 (.inr (ownsRow_base (own_below hx hb2 (Nat.le_refl _)) hs2)) (.inr (ownsRow_base hy (Nat.le_trans hs2 b1.size)))))
      all_goals (go_wp2_with fail; go_end0; exact ⟨rfl, u5, u6⟩)
    · have HT : stepTwo m (F1, F2) ((f, e), D) = (F1, nodeL F2 D) := by unfold stepTwo; rw [if_neg he, if_neg hl]
      rw [HT]
      have i2 : ¬ (e : Int) < (m : Int) := by omega
      have n1 := nodeC_holds F2 D _ _ _ (hr.below bWW) s2 (sD _ bWW) (by omega)
      clear fin sD s1 s2 hMW HT
      go_enter Tryd.func35, Tryd.ntmps35
      go_wp2_with fail
      refine n1.mono ?_
      rintro r w1 ⟨x, rfl, hx, hb1⟩
      obtain ⟨xa, xc, rfl⟩ := own_form' hx
      obtain ⟨⟨u1, u2⟩, u5, u6⟩ := fin1 w1 xa xc _ hb1 (.inr (ownsRow_base hx hs2))
      clear fin1 n1 hx
      go_wp2_with fail
      go_end0
      exact ⟨rfl, u5, u6⟩

theorem grew1_marks {wb : World} {N bo bn bb ba m : Nat} {ov nv1 nv2 : Value} {old : List Int} {p : List (List Int)} {ps : List (Nat × Nat)} (hr : Ready wb) (hN : wb.heap.size ≤ N) (hbb : wb.heap.size ≤ bb) (hba : wb.heap.size ≤ ba) (hne : bb ≠ ba) (h1 : bo < N) (h2 : bn < N) (h3 : bb < N) (h4 : ba < N) (hoz : Bytes old) (ho32 : old.length = 32) (hpz : ∀ j, Bytes (p.getD j [])) (hg : goodL p = true) (hpl : p.length = ps.length) :
    Marks wb N 35 #[.pointer (some ⟨bo, 0, none⟩), .pointer (some ⟨bb, 0, none⟩), .pointer (some ⟨ba, 0, none⟩)] ps p (GrewI wb bo bn bb ba m ov nv1 nv2 old p) := by
  refine ⟨fun _ _ => by simp [go_sem], fun done w w' h hb => ?_, fun done w k x u h hk hx => ?_, fun done f e w v hp hJ hv hB => grew1_call hr hbb hba hne hoz ho32 hpz hg hpl done f e w v hp hJ hv hB⟩
  · obtain ⟨q1, q2, q3, a1, c1, a2, c2, q4, q5, q6, q7⟩ := h
    exact ⟨q1.trans (hb.mono q1.size), box_kept q2 hb, box_kept q3 hb, a1, c1, a2, c2, box_kept q4 hb, box_kept q5 hb, q6.below hb, q7.below hb⟩
  · obtain ⟨q1, q2, q3, a1, c1, a2, c2, q4, q5, q6, q7⟩ := h
    exact ⟨q1.setCell (Nat.le_trans hN hk) _, box_set_far q2 (by omega), box_set_far q3 (by omega), a1, c1, a2, c2, box_set_far q4 (by omega), box_set_far q5 (by omega), q6.set hx (by decide), q7.set hx (by decide)⟩
theorem grew_no {os : Int} {oroot : List Int} {ns : Int} {nroot : List Int} {p : List (List Int)} (h : os < 1 ∨ ns < os ∨ 100 < ns ∨ goodL p = false ∨ oroot.length ≠ 32) : grewL os oroot ns nroot p = false := by unfold grewL; rw [if_pos h]
theorem grew_fit {m sz : Nat} {oroot nroot : List Int} {p : List (List Int)} (h1 : 1 ≤ m) (h2 : m ≤ sz) (h3 : sz ≤ 100) (h4 : oroot.length = 32) (hf : (decide (p.length = (proofP 0 sz m true).length) && goodL p) = false) : grewL m oroot sz nroot p = false := by
  by_cases hg : goodL p = true
  · unfold grewL
    rw [if_neg (by rw [hg]; simp; omega)]
    rw [hg, Bool.and_true] at hf
    have := (two_all oroot sz 0 sz m true p (by omega) (by omega) h2).1
    rw [Nat.sub_zero, Nat.sub_zero, hf] at this
    simp only [Int.toNat_natCast]
    rw [this]; rfl
  · exact grew_no (by simp at hg; simp [hg])
theorem grew_yes {m sz : Nat} {oroot nroot : List Int} {p : List (List Int)} (h1 : 1 ≤ m) (h2 : m ≤ sz) (h3 : sz ≤ 100) (h4 : oroot.length = 32) (hg : goodL p = true) (hf : p.length = (proofP 0 sz m true).length) :
    grewL m oroot sz nroot p = (decide ((foldTwo m (oroot, oroot) (proofP 0 sz m true) p).1 = oroot) && decide ((foldTwo m (oroot, oroot) (proofP 0 sz m true) p).2 = nroot)) := by
  unfold grewL
  rw [if_neg (by rw [hg]; simp; omega)]
  obtain ⟨u1, u2⟩ := two_all oroot sz 0 sz m true p (by omega) (by omega) h2
  rw [Nat.sub_zero, Nat.sub_zero] at u1 u2
  obtain ⟨u3, u4⟩ := u2 hf
  simp only [Int.toNat_natCast]
  rw [u1, decide_eq_true hf, Bool.true_and]
  congr 1
  · exact decide_eq_decide.2 (by rw [u3])
  · exact decide_eq_decide.2 (by rw [u4])
set_option maxRecDepth 100000 in
set_option maxHeartbeats 1000000 in
theorem grewC_holds : GrewC := by
  intro os oroot ns nroot p ov nv a n c w hr hov hnv hL
  obtain ⟨oa, oc, eo⟩ := hov.at'.form
  obtain ⟨na, nc, en⟩ := hnv.at'.form
  subst eo en
  have bW : Below w.heap.size w ((w.alloc (.cells #[.int .i64 os, .slice oa oroot.length oc] 34)).alloc (.cells #[.int .i64 ns, .slice na nroot.length nc] 34)) := ((Below.refl _ _).alloc (Nat.le_refl _) _).alloc (by simp) _
  by_cases h1 : os < 1
  · rw [grew_no (.inl h1)]
    go_enter Tryd.func14, Tryd.ntmps14
    go_wp2_with fail
    go_ret
    exact ⟨rfl, bW⟩
  by_cases h2 : ns < os
  · rw [grew_no (.inr (.inl h2))]
    go_enter Tryd.func14, Tryd.ntmps14
    go_wp2_with fail
    go_ret
    exact ⟨rfl, bW⟩
  by_cases h3 : 100 < ns
  · rw [grew_no (.inr (.inr (.inl h3)))]
    go_enter Tryd.func14, Tryd.ntmps14
    go_wp2_with fail
    go_ret
    exact ⟨rfl, bW⟩
  have hdg : ∀ w', Below w.heap.size w w' → _ := fun w' h => isDigest_any oroot _ w' (hov.at'.below (Nat.le_refl _) h)
  by_cases h5 : oroot.length = 32
  case neg =>
    rw [grew_no (.inr (.inr (.inr (.inr h5))))]
    rw [decide_eq_false h5] at hdg
    go_enter Tryd.func14, Tryd.ntmps14
    go_wp2_with (go_at_call 34; refine (hdg _ bW).mono ?_; rintro r w' ⟨rfl, rfl⟩)
    go_ret
    exact ⟨rfl, bW⟩
  rw [decide_eq_true h5] at hdg
  obtain ⟨m, rfl⟩ : ∃ m : Nat, os = (m : Int) := ⟨os.toNat, by omega⟩
  obtain ⟨sz, rfl⟩ : ∃ sz : Nat, ns = (sz : Int) := ⟨ns.toNat, by omega⟩
  have hpo : ∀ w', _ := fun w' => proofOf_any sz m w' (by omega) (by omega) (by omega)
  have hfew := proofP_few sz 0 sz m true (by omega) (by omega) (by omega)
  have hln := hL.len
  have hfi : ∀ w' (_ : Below w.heap.size w w') kw cw (_ : Walker w' kw cw (proofP 0 sz m true)), _ := fun w' h kw cw hk => fits_any hk (hL.below h) (by omega)
  have hb0 := box_one w #[.int .i64 m, .slice oa oroot.length oc] 34 (.cells #[.int .i64 sz, .slice na nroot.length nc] 34)
  have hb1 := box_last w (.cells #[.int .i64 m, .slice oa oroot.length oc] 34) #[.int .i64 sz, .slice na nroot.length nc] 34
  have hsW := bW.size
  by_cases hfit : (decide (p.length = (proofP 0 sz m true).length) && goodL p) = false
  · rw [grew_fit (by omega) (by omega) (by omega) h5 hfit]
    rw [hfit] at hfi
    rw [h5] at hdg bW hsW ⊢
    go_enter Tryd.func14, Tryd.ntmps14
    go_wp2_with (go_at_call 34; refine (hdg _ bW).mono ?_; rintro r w' ⟨rfl, rfl⟩)
    refine (hpo _).mono ?_
    rintro r w1 ⟨kw, cw, rfl, hk, b1⟩
    have b1' := bW.trans (b1.mono hsW)
    go_wp2_with fail
    refine (hfi _ b1' kw cw hk).mono ?_
    rintro r w2 ⟨rfl, b2⟩
    have b2' := b1'.trans (b2.mono b1'.size)
    go_wp2_with fail
    go_ret
    exact ⟨rfl, b2'⟩
  · simp only [Bool.not_eq_false] at hfit
    rw [hfit] at hfi
    simp only [Bool.and_eq_true, decide_eq_true_eq] at hfit
    obtain ⟨hpl, hg⟩ := hfit
    rw [grew_yes (by omega) (by omega) (by omega) h5 hg hpl]
    rw [h5] at hb0 bW hsW hb1 hdg ⊢
    have hov' : BytesAt w (.slice oa 32 oc) oroot := by have := hov.at'; rw [h5] at this; exact this
    have hal : ∀ (w' : World) (_ : Below w.heap.size w w') kw cw (_ : Walker w' kw cw (proofP 0 sz m true)) (b1 b2 : Nat) (_ : w.heap.size ≤ b1) (_ : w.heap.size ≤ b2) (_ : b1 ≠ b2) (_ : b1 < w'.heap.size) (_ : b2 < w'.heap.size) (_ : w.heap.size + 1 < w'.heap.size) (_ : GrewI w w.heap.size (w.heap.size + 1) b1 b2 m (.slice oa 32 oc) (.int .i64 sz) (.slice na nroot.length nc) oroot p [] w'), _ := fun w' h kw cw hk b1 b2 g1 g2 g3 g4 g5 g6 hJ =>
      along_any hk (grew1_marks hr h.size g1 g2 g3 (Nat.lt_of_succ_lt g6) g6 g4 g5 hov.bytes h5 hL.bytes hg hpl) hL (hln ▸ hpl) (by omega) h hJ
    obtain ⟨⟨G1z, -⟩, G2z, -⟩ := foldTwo_bytes m hov.bytes h5 hL.bytes hg (proofP 0 sz m true)
    have hq1 : ∀ (w' : World) (_ : Below w.heap.size w w') xa xc (_ : RowOr w w' xa xc (foldTwo m (oroot, oroot) (proofP 0 sz m true) p).1), _ := fun w' h xa xc ho => equal_any _ oroot _ (.slice oa 32 oc) w' (ho.at' h) (hov'.below (Nat.le_refl _) h) G1z hov.bytes
    have hq2 : ∀ (w' : World) (_ : Below w.heap.size w w') xa xc (_ : RowOr w w' xa xc (foldTwo m (oroot, oroot) (proofP 0 sz m true) p).2), _ := fun w' h xa xc ho => equal_any _ nroot _ (.slice na nroot.length nc) w' (ho.at' h) (hnv.at'.below (Nat.le_refl _) h) G2z hnv.bytes
    clear hpl hln hov hnv
    go_enter Tryd.func14, Tryd.ntmps14
    go_wp2_with (go_at_call 34; refine (hdg _ bW).mono ?_; rintro r w' ⟨rfl, rfl⟩)
    refine (hpo _).mono ?_
    rintro r w1 ⟨kw, cw, rfl, hk, b1⟩
    have b1' := bW.trans (b1.mono hsW)
    have p0 := box_kept hb0 b1
    have p1 := box_kept hb1 b1
    obtain ⟨p00, p01, -, -⟩ := box_two p0
    go_wp2_with fail
    refine (hfi _ b1' kw cw hk).mono ?_
    rintro r w2 ⟨rfl, b2⟩
    have b2' := b1'.trans (b2.mono b1'.size)
    replace p0 := box_kept p0 b2
    replace p1 := box_kept p1 b2
    obtain ⟨q00, q01, -, -⟩ := box_two p0
    have hN2 := Nat.ne_of_gt (lt_heap p0)
    go_wp2_with fail
    go_region_held3 (fun w' => w'.cell? ⟨w.heap.size, 1, none⟩ = some (.slice oa 32 oc)) (first | exact q01 | (go_keep; done)) (fail)
    all_goals
      have b4 : Below w2.heap.size w2 ((w2.alloc (.cells #[.slice oa 32 oc] 24)).alloc (.cells #[.slice oa 32 oc] 24)).drew := (((Below.refl _ _).alloc (Nat.le_refl _) _).alloc (by simp) _).drew
      have b4' := b2'.trans (b4.mono b2'.size)
      have hs2 := b2'.size
      have o1 : ((w2.alloc (.cells #[.slice oa 32 oc] 24)).alloc (.cells #[.slice oa 32 oc] 24)).drew.heap[w2.heap.size]? = some (.cells #[.slice oa 32 oc] 24 (0, 0)) := box_one _ _ _ _
      have o2 : ((w2.alloc (.cells #[.slice oa 32 oc] 24)).alloc (.cells #[.slice oa 32 oc] 24)).drew.heap[w2.heap.size + 1]? = some (.cells #[.slice oa 32 oc] 24 (0, 0)) := box_last _ _ _ _
      have hk4 := (hk.below b2).below b4
      have q4 := box_kept p0 b4
      have q5 := box_kept p1 b4
      have l1 := lt_heap o1
      have l2 := lt_heap o2
      have l5 := lt_heap q5
    · have hA := hal _ b4' kw cw hk4 (w2.heap.size) (w2.heap.size + 1) (by omega) (by omega) (by omega) l1 l2 l5 ⟨b4', q4, q5, oa, oc, oa, oc, o1, o2, .inl hov', .inl hov'⟩
      clear hal hfi hpo o1 o2 q4 q5 hk hk4 p0 p1
      generalize ((w2.alloc (.cells #[.slice oa 32 oc] 24)).alloc (.cells #[.slice oa 32 oc] 24)).drew = W at *
      go_wp2_with fail
      refine hA.mono ?_
      rintro r w5 ⟨rfl, c1, c2, c3, xa, xc, ya, yc, c4, c5, c6, c7⟩
      have z1 := (box_cell c4).1
      have z2 := (box_cell c5).1
      obtain ⟨-, z3, -, -⟩ := box_two c2
      obtain ⟨-, z4, -, -⟩ := box_two c3
      have hQ1 := hq1 _ c1 xa xc c6
      have hQ2 := hq2 _ c1 ya yc c7
      clear hA hq1 hq2 c4 c5 c2 c3 c6 c7
      by_cases hG : (foldTwo m (oroot, oroot) (proofP 0 sz m true) p).1 = oroot
      · rw [decide_eq_true hG] at hQ1
        have HG : Hid ((foldTwo m (oroot, oroot) (proofP 0 sz m true) p).1 = oroot) := hG
        clear hG
        go_wp2_with (first | (go_at_call_of 32 (Value.slice xa 32 xc); refine hQ1.mono ?_; rintro r w6 ⟨rfl, rfl⟩) | (go_at_call_of 32 (Value.slice ya 32 yc); refine hQ2.mono ?_; rintro r w6 ⟨rfl, rfl⟩))
        go_ret
        exact ⟨by rw [decide_eq_true HG.out, Bool.true_and]; rfl, c1⟩
      · rw [decide_eq_false hG] at hQ1
        go_wp2_with (first | (go_at_call_of 32 (Value.slice xa 32 xc); refine hQ1.mono ?_; rintro r w6 ⟨rfl, rfl⟩))
        go_ret
        exact ⟨by rw [decide_eq_false hG, Bool.false_and]; rfl, c1⟩
    · have hA := hal _ b4' kw cw hk4 (w2.heap.size + 1) (w2.heap.size) (by omega) (by omega) (by omega) l2 l1 l5 ⟨b4', q4, q5, oa, oc, oa, oc, o2, o1, .inl hov', .inl hov'⟩
      clear hal hfi hpo o1 o2 q4 q5 hk hk4 p0 p1
      generalize ((w2.alloc (.cells #[.slice oa 32 oc] 24)).alloc (.cells #[.slice oa 32 oc] 24)).drew = W at *
      go_wp2_with fail
      refine hA.mono ?_
      rintro r w5 ⟨rfl, c1, c2, c3, xa, xc, ya, yc, c4, c5, c6, c7⟩
      have z1 := (box_cell c4).1
      have z2 := (box_cell c5).1
      obtain ⟨-, z3, -, -⟩ := box_two c2
      obtain ⟨-, z4, -, -⟩ := box_two c3
      have hQ1 := hq1 _ c1 xa xc c6
      have hQ2 := hq2 _ c1 ya yc c7
      clear hA hq1 hq2 c4 c5 c2 c3 c6 c7
      by_cases hG : (foldTwo m (oroot, oroot) (proofP 0 sz m true) p).1 = oroot
      · rw [decide_eq_true hG] at hQ1
        have HG : Hid ((foldTwo m (oroot, oroot) (proofP 0 sz m true) p).1 = oroot) := hG
        clear hG
        go_wp2_with (first | (go_at_call_of 32 (Value.slice xa 32 xc); refine hQ1.mono ?_; rintro r w6 ⟨rfl, rfl⟩) | (go_at_call_of 32 (Value.slice ya 32 yc); refine hQ2.mono ?_; rintro r w6 ⟨rfl, rfl⟩))
        go_ret
        exact ⟨by rw [decide_eq_true HG.out, Bool.true_and]; rfl, c1⟩
      · rw [decide_eq_false hG] at hQ1
        go_wp2_with (first | (go_at_call_of 32 (Value.slice xa 32 xc); refine hQ1.mono ?_; rintro r w6 ⟨rfl, rfl⟩))
        go_ret
        exact ⟨by rw [decide_eq_false hG, Bool.false_and]; rfl, c1⟩

end Go.Proofs.YtkjlchfmplcobabDoor
