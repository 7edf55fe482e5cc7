/- The walk of Pack: package pack as it landed. -/
import Derived.Test.YtkjlchfmplcobadDoorPackGoChunk
import Derived.Test.YtkjlchfmplcobadDoorPackGoWrite
import Derived.Test.YtkjlchfmplcobadDoorPackGoTokens
namespace Go.Proofs.YtkjlchfmplcobadDoor
open Go.RowKit Go.Shelf

attribute [local go_sem] Oper.semAt_some

theorem groupQ_get (l : List Tok) (q j : Nat) (h : j < (groupQ l q).length) : (groupQ l q).getD j tok0 = l.getD (8 * q + j) tok0 ∧ 8 * q + j < l.length := by
  unfold groupQ at *
  rw [List.length_take, List.length_drop] at h
  refine ⟨?_, by omega⟩
  rw [List.getD_eq_getElem?_getD, List.getElem?_take, if_pos (by omega), List.getElem?_drop, ← List.getD_eq_getElem?_getD]
theorem groupQ_length (l : List Tok) (q : Nat) : (groupQ l q).length = cnt8 l.length (8 * q) := by
  unfold groupQ cnt8; rw [List.length_take, List.length_drop]
theorem groupB_le (g : List Tok) (h : g.length ≤ 8) : (groupB g).length ≤ 17 := by
  unfold groupB
  have : ∀ l : List Tok, (l.flatMap bodyT).length ≤ 2 * l.length := fun l => by
    induction l with
    | nil => exact Nat.le_refl _
    | cons t l ih => rw [List.flatMap_cons, List.length_append, List.length_cons]; have := (bodyT_le t).1; omega
  have := this g
  rw [List.length_cons]
  omega
theorem tokens_good {b : List Int} (hb : Bytes b) {j : Nat} (h : j < (tokensL b).length) : goodTok ((tokensL b).getD j tok0) := by
  rw [List.getD_eq_getElem?_getD, List.getElem?_eq_getElem h]
  exact tokFrom_bytes hb _ 0 rfl _ (List.getElem_mem h)
theorem tokens_few (b : List Int) : (tokensL b).length ≤ b.length := (tok_few b b.length 0 (by omega)).1

theorem boxOwn {β : Type} (B : Nat) (t : TypeId) (v : Value) : Own (fun (_ : β) W => Boxed W B t v) := by
  rintro s X Y row hv hg hrow
  refine hv.kept hg (fun e' => ?_)
  obtain ⟨o, ho, hc⟩ := hrow B e'.symm
  rw [show X.heap[B]? = _ from hv] at ho; cases ho; cases hc
/-- What is written when the eights of pre are over. -/
def curL (n : Int) (T : List Tok) (pre : List (At8 T.length)) : List Int := [n / 256, n % 256] ++ pre.flatMap fun x => groupB (groupQ T (x.1 / 8))
theorem curL_snoc (n : Int) (T : List Tok) (pre : List (At8 T.length)) (x : At8 T.length) : curL n T (pre ++ [x]) = curL n T pre ++ groupB (groupQ T (x.1 / 8)) := by
  unfold curL; rw [List.flatMap_append, ← List.append_assoc]; simp
theorem curL_le (n : Int) (T : List Tok) (pre : List (At8 T.length)) : (curL n T pre).length ≤ 2 + 17 * pre.length := by
  unfold curL
  rw [List.length_append]
  have h : (pre.flatMap fun x => groupB (groupQ T (x.1 / 8))).length ≤ 17 * pre.length := by
    induction pre with
    | nil => exact Nat.le_refl _
    | cons x pre ih =>
      rw [List.flatMap_cons, List.length_append, List.length_cons]
      have := groupB_le (groupQ T (x.1 / 8)) (by unfold groupQ; rw [List.length_take]; omega)
      omega
  show 2 + _ ≤ _
  omega
theorem curL_all {n : Int} {T : List Tok} {pre : List (At8 T.length)} (h : to8 T.length ((T.length + 7) / 8) pre) : curL n T pre = [n / 256, n % 256] ++ groupsL T := by
  unfold curL
  congr 1
  have e : (pre.flatMap fun x => groupB (groupQ T (x.1 / 8))) = (pre.map (·.1)).flatMap fun i => groupB (groupQ T (i / 8)) := by rw [List.flatMap_map]
  rw [e, h, List.flatMap_map, groups_all (q := (T.length + 7) / 8) (by omega) (by omega)]
  unfold groupsTo
  congr 1
  funext q
  rw [show 8 * q / 8 = q by omega]

set_option maxRecDepth 100000 in
set_option maxHeartbeats 8000000 in
theorem packOC_holds : PackOC := fun b bv w hb => by
  have hT := tokensC_holds b bv w hb
  have hsh := hb.short
  have hby := hb.bytes
  unfold maxLen at hsh
  obtain ⟨ba, bc, eb⟩ := hb.at'.form
  subst eb
  clear hb
  refine (callsIn_wide (n := 5)).1 ?_
  by_cases h4 : 4000 < b.length
  · have hm : muchE b = 4 := by unfold muchE; rw [if_pos h4]
    have hx : packE b = [] := by unfold packE; rw [if_pos h4]
    rw [hm, hx]
    rw [hm] at hT
    clear hm hx
    refine callsIn_of_wp_marks Tryd.func48 rfl trivial ?_ rfl
    simp only [Tryd.ntmps48, List.size_toArray, List.length_cons, List.length_nil, Nat.reduceAdd, Nat.reduceSub, Array.replicate_succ, Array.replicate_zero, List.push_toArray, List.append_toArray, List.nil_append, List.cons_append]
    gi_wp2
    refine ⟨trivial, (callsIn_wide.2 hT).mono ?_⟩
    rintro e w1 ⟨v, rfl, -, b1⟩
    gi_wp2
    exact ⟨_, by simp [results, Tryd.results48, go_sem], _, rfl, World.ownsRow_nil _ _ _ _, b1⟩
  · have hm : muchE b = 0 := by unfold muchE; rw [if_neg h4]
    have hx : packE b = packL b := by unfold packE; rw [if_neg h4]
    have hx2 : toksE b = tokensL b := by unfold toksE; rw [if_neg h4]
    rw [hm, hx]
    rw [hm, hx2] at hT
    clear hm hx hx2
    refine callsIn_of_wp_marks Tryd.func48 rfl trivial ?_ rfl
    simp only [Tryd.ntmps48, List.size_toArray, List.length_cons, List.length_nil, Nat.reduceAdd, Nat.reduceSub, Array.replicate_succ, Array.replicate_zero, List.push_toArray, List.append_toArray, List.nil_append, List.cons_append]
    gi_wp2
    refine ⟨trivial, (callsIn_wide.2 hT).mono ?_⟩
    rintro e w1 ⟨v, rfl, hA, b1⟩
    obtain ⟨la, lc, rfl, hr1, hr2, hcell⟩ := hA.form
    have hfew := tokens_few b
    have hgk : ∀ j, j < (tokensL b).length → goodTok ((tokensL b).getD j tok0) := fun j hj => tokens_good hby hj
    have HPk : Hid (packL b = [((b.length : Nat) : Int) / 256, ((b.length : Nat) : Int) % 256] ++ groupsL (tokensL b)) := by show _ = _; unfold packL writeL; simp
    have hW := writePair_any [] (b.length : Int) w1.heap.size none 0 w1 (Nat.le_refl _) (World.ownsRow_nil _ _ _ _) (by omega) (by omega) (by simp)
    simp only [List.length_nil, Nat.zero_add, List.nil_append] at hW
    generalize tokensL b = T at *
    gi_wp2
    refine ⟨trivial, (callsIn_wide.2 hW).mono ?_⟩
    rintro e w2 ⟨ta, tc, rfl, ho2, b2, hk2⟩
    gi_wp2
    refine ⟨trivial, (chunk_in _ la T.length lc _).mono ?_⟩
    rintro e w' ⟨rfl, rfl⟩
    gi_wp2
    have hs2 := b2.size
    have bO := Boxed.new w2 23 (.slice ta 2 tc)
    have bS := Boxed.new (w2.alloc (.cells #[.slice ta 2 tc] 23)) 87 (.slice la T.length lc)
    have bN := Boxed.new ((w2.alloc (.cells #[.slice ta 2 tc] 23)).alloc (.cells #[.slice la T.length lc] 87)) 3 (.int .i64 8)
    simp only [World.size_alloc] at bS bN
    have bO5 := (bO.alloc (.cells #[.slice la T.length lc] 87)).alloc (.cells #[.int .i64 8] 3)
    have bS5 := bS.alloc (.cells #[.int .i64 8] 3)
    have ho5 := ((ho2.alloc (.cells #[.slice ta 2 tc] 23)).alloc (.cells #[.slice la T.length lc] 87)).alloc (.cells #[.int .i64 8] 3)
    have b5 : Below w1.heap.size w1 (((w2.alloc (.cells #[.slice ta 2 tc] 23)).alloc (.cells #[.slice la T.length lc] 87)).alloc (.cells #[.int .i64 8] 3)) := ((b2.alloc hs2 _).alloc (by simp; omega) _).alloc (by simp; omega) _
    have hz5 : (((w2.alloc (.cells #[.slice ta 2 tc] 23)).alloc (.cells #[.slice la T.length lc] 87)).alloc (.cells #[.int .i64 8] 3)).heap.size = w2.heap.size + 3 := by simp
    generalize ((w2.alloc (.cells #[.slice ta 2 tc] 23)).alloc (.cells #[.slice la T.length lc] 87)).alloc (.cells #[.int .i64 8] 3) = w5 at *
    clear bO bS ho2 hW hT
    obtain ⟨tb, to, hseq, hcl⟩ : ∃ tb to, SeqStopsK Fence.wide (5 - 1) Tryd.prog 97 #[.pointer (some ⟨w2.heap.size + 1, 0, none⟩), .pointer (some ⟨w2.heap.size + 1 + 1, 0, none⟩)] (enc8 tb to T.length) (KeepsTwo (w2.heap.size + 1) (w2.heap.size + 1 + 1)) (to8 T.length ((T.length + 7) / 8)) (fun _ => True) ((T.length + 7) / 8) w5 ∧
        ∀ j, j < T.length → tb < w1.heap.size ∧ w1.cell? ⟨tb, to + j * 3, none⟩ = some (.int .i64 (T.getD j tok0).len) ∧ w1.cell? ⟨tb, to + j * 3 + 1, none⟩ = some (.int .i64 (T.getD j tok0).back) ∧ w1.cell? ⟨tb, to + j * 3 + 2, none⟩ = some (.int .u8 (T.getD j tok0).byte) := by
      rcases hcell with h0 | ⟨tb, to, rfl, htb, hcell⟩
      · obtain rfl : T = [] := List.eq_nil_of_length_eq_zero h0
        exact ⟨0, 0, chunk_stops_nil _ _ _ 0 0 la lc w5 (by omega) bS5.cell, fun j hj => absurd hj (Nat.not_lt_zero _)⟩
      · exact ⟨tb, to, chunk_stops _ (by decide) _ _ tb to T.length lc hr1 (by omega) w5 (by omega) (by omega) bS5.cell bN.cell, fun j hj => ⟨htb, hcell j hj⟩⟩
    clear hcell
    refine wpIn_rangeFunc_ownG rfl (by decide) (gf := 97) (lb := #[.pointer (some ⟨w2.heap.size + 1, 0, none⟩), .pointer (some ⟨w2.heap.size + 1 + 1, 0, none⟩)]) rfl trivial (enters_of Tryd.func97 (by kernel_rfl) rfl)
      hseq KeepsTwo.trans (keepsTwo_b (by omega) (by omega)) (Below.refl _ _) (fun _ => rfl)
      (fun pre W => (∃ v, Boxed W w2.heap.size 23 v ∧ W.ownsRow w1.heap.size 5 1 v (curL (b.length : Int) T pre).length ((curL (b.length : Int) T pre).map (Value.int .u8)) ∧ True) ∧ Below w1.heap.size w1 W ∧ (Boxed W (w2.heap.size + 1) 87 (.slice la T.length lc) ∧ Boxed W (w2.heap.size + 1 + 1) 3 (.int .i64 8)))
      (fun _ _ _ => False)
      (OwnFrom.and (Own.from (holdsRow_own w1.heap.size w2.heap.size 23 5 1 (fun pre => (curL (b.length : Int) T pre).length) (fun pre => (curL (b.length : Int) T pre).map (Value.int .u8)) (fun _ _ => True)) _) (OwnFrom.and (ownFrom_below (Nat.le_refl _) (by omega)) (OwnFrom.and (Own.from (boxOwn _ _ _) _) (Own.from (boxOwn _ _ _) _))))
      (fun _ _ _ _ _ hs _ _ => hs)
      ⟨⟨_, bO5, ho5, trivial⟩, b5, bS5, bN⟩
      (fun x => { tmps := #[.slice ba b.length bc, undef, .slice none 0 0, .int .i64 0, .slice la T.length lc, .int .i64 0, .pointer (some ⟨w2.heap.size, 0, none⟩), .slice (some ⟨tb, to + x.1 * 3, none⟩) (cnt8 T.length x.1) (cnt8 T.length x.1), .tuple #[.slice la T.length lc, .int .i64 0], .slice ba b.length bc, .tuple #[.slice la T.length lc, .int .i64 0], .slice la T.length lc, .int .i64 0, .int .i64 0, .bool false, undef, .slice ba b.length bc, .int .i64 b.length, .slice ta 2 tc, .slice la T.length lc, .func (.func 97) #[] #[.pointer (some ⟨w2.heap.size + 1, 0, none⟩), .pointer (some ⟨w2.heap.size + 1 + 1, 0, none⟩)], .slice (some ⟨tb, to + x.1 * 3, none⟩) (cnt8 T.length x.1) (cnt8 T.length x.1), undef, undef, undef, undef], defers := [] }) ?assign ?body ?done ?stop
    case assign =>
      intro l x W K hK
      gi_wp2
      exact hK
    case body =>
      rintro l pre x W ⟨⟨v, hv, hrow, -⟩, hB, hS, hN⟩ hlt
      have hcr := curL_le (b.length : Int) T pre
      have hcs := curL_snoc (b.length : Int) T pre x
      generalize curL (b.length : Int) T pre = cur at *
      obtain ⟨va, vc, rfl⟩ := own_form' hrow
      obtain ⟨i, hi, hi8⟩ := x
      obtain ⟨q, rfl⟩ : ∃ q, i = 8 * q := ⟨i / 8, by omega⟩
      rw [show 8 * q / 8 = q by omega] at hcs
      have hl8 := groupQ_length T q
      have hG := writeGroup_any cur (groupQ T q) tb (to + 8 * q * 3) (cnt8 T.length (8 * q)) w1.heap.size va vc W hB.size hrow (by omega) (hcl (8 * q) hi).1 (fun j hj => by
        obtain ⟨e1, e2⟩ := groupQ_get T q j hj
        obtain ⟨-, c0, c1, c2⟩ := hcl (8 * q + j) e2
        have htb := (hcl (8 * q) hi).1
        rw [e1, show to + 8 * q * 3 + j * 3 = to + (8 * q + j) * 3 by omega]
        exact ⟨(hB.cell (p := ⟨tb, to + (8 * q + j) * 3, none⟩) htb).trans c0, (hB.cell (p := ⟨tb, to + (8 * q + j) * 3 + 1, none⟩) htb).trans c1, (hB.cell (p := ⟨tb, to + (8 * q + j) * 3 + 2, none⟩) htb).trans c2⟩)
        (by rw [hl8]; unfold cnt8; omega) (fun j hj => by obtain ⟨e1, e2⟩ := groupQ_get T q j hj; rw [e1]; exact hgk _ e2)
      rw [hl8] at hG
      obtain ⟨cur2, H2⟩ : ∃ c, Hid (cur ++ groupB (groupQ T q) = c) := ⟨_, rfl⟩
      rw [H2.out] at hG hcs
      have HCS : Hid (curL (b.length : Int) T (pre ++ [⟨8 * q, hi, hi8⟩]) = cur2) := hcs
      clear hcs
      have hc := hv.cell
      have hf := hv.frozen
      dsimp only
      gi_wp2
      refine ⟨trivial, (CallsIn.inRound l (callsIn_wide.2 hG)).mono ?_⟩
      rintro e W1 ⟨pa, pc, rfl, ho1, hb1, hk1⟩
      have hv1 : Boxed W1 w2.heap.size 23 (.slice va cur.length vc) := hk1.boxes _ _ _ hv (by decide)
      have hS1 : Boxed W1 (w2.heap.size + 1) 87 (.slice la T.length lc) := hk1.boxes _ _ _ hS (by decide)
      have hN1 : Boxed W1 (w2.heap.size + 1 + 1) 3 (.int .i64 8) := hk1.boxes _ _ _ hN (by decide)
      have hc1 := hv1.cell
      have hf1 := hv1.frozen
      have hS2 : Boxed (W1.setCell ⟨w2.heap.size, 0, none⟩ (.slice pa cur2.length pc)) (w2.heap.size + 1) 87 (.slice la T.length lc) := box_set_far hS1 (by omega)
      have hN2 : Boxed (W1.setCell ⟨w2.heap.size, 0, none⟩ (.slice pa cur2.length pc)) (w2.heap.size + 1 + 1) 3 (.int .i64 8) := box_set_far hN1 (by omega)
      have hk2' := (hk1.others.trans (KeepsOthers.setCell W1 ⟨w2.heap.size, 0, none⟩ (.slice pa cur2.length pc))).from w5.heap.size
      have hb2' := (hB.trans hb1).setCell (p := ⟨w2.heap.size, 0, none⟩) hs2 (.slice pa cur2.length pc)
      have ho2' := own_set ho1 hv1 (by decide) (.slice pa cur2.length pc)
      have hv2' := hv1.set (.slice pa cur2.length pc)
      clear hG hk1 hb1
      gi_wp2
      exact ⟨hk2', ⟨hS2.cell.trans hS.cell.symm, hN2.cell.trans hN.cell.symm⟩, ⟨_, hv2', by rw [HCS.out]; exact ho2', trivial⟩, hb2', hS2, hN2⟩
    case done =>
      rintro D ys W hD hys ⟨⟨v, hv, hrow, -⟩, hB, -, -⟩ hK
      have hc := hv.cell
      rw [curL_all hys, ← HPk.out] at hrow
      have hb9 := b1.trans (hB.mono b1.size)
      gi_wp2
      refine ⟨by simp, .inl ⟨_, _, rfl, run_takeDeferred hK, ?_⟩⟩
      exact ⟨_, by simp [results, Tryd.results48, go_sem], v, rfl, ownsRow_base (ownsRow_putObj hrow _ hK rfl) b1.size, hb9.trans (belowK_b (w := w) (Nat.le_refl _) W D _ _ (by have := b1.size; omega) hK rfl rfl)⟩
    case stop =>
      rintro D c pre W _ _ h _
      exact h.elim
end Go.Proofs.YtkjlchfmplcobadDoor
