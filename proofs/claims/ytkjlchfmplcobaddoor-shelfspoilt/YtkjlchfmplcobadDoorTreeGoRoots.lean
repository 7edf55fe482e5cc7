/- The walks of roots, Path and Grows. -/
import Derived.Test.YtkjlchfmplcobadDoorProg
import Derived.Test.YtkjlchfmplcobadDoorRunAF
import Derived.Test.YtkjlchfmplcobadDoorRunAK
import Derived.WalkKit
import Derived.WalkSpells
import Derived.WalkLawsBesides
import Derived.Deep.RegionLaw
import Derived.Deep.RegionHeld3
import Derived.BigRegion
namespace Go.Proofs.YtkjlchfmplcobadDoor
open Go.RowKit

/-- The roots of the parts that were visited lie in the variable bo; the leaves in bl. -/
def RootsI (w0 : World) (bo bl : Nat) (a : Option Addr) (n c : Nat) (L : List (List Int)) (done : List (Nat × Nat)) (w : World) : Prop :=
  Below w0.heap.size w0 w ∧ w.heap[bl]? = some (.cells #[.slice a n c] 22 (0, 0)) ∧ ∃ v, w.heap[bo]? = some (.cells #[v] 22 (0, 0)) ∧ OwnParts w w0.heap.size v (done.map (fun p => mth (seg L p)))
theorem RootsI.keep {w0 : World} {bo bl : Nat} {a : Option Addr} {n c : Nat} {L : List (List Int)} {done : List (Nat × Nat)} {w w' : World} (h : RootsI w0 bo bl a n c L done w) (hb : Below w.heap.size w w') : RootsI w0 bo bl a n c L done w' := by
  obtain ⟨h1, h2, v, h3, h4⟩ := h
  exact ⟨h1.trans (hb.mono h1.size), box_kept h2 hb, v, box_kept h3 hb, h4.below hb (Nat.le_refl _)⟩
theorem OwnEls.set {w : World} {base k : Nat} {t : TypeId} {vs : List Value} {L : List (List Int)} {c : Array Value} (h : OwnEls w base vs L) (hk : w.heap[k]? = some (.cells c t (0, 0))) (ht : t ≠ 5) (u : Value) : OwnEls (w.setCell ⟨k, 0, none⟩ u) base vs L := fun j hj => by
  obtain ⟨y, h1, h2⟩ := h j hj
  exact ⟨y, h1, own_set h2 hk ht u⟩

theorem roots1_end {w0 w W w2 w6 : World} {bo bl B1 : Nat} {D : List (List Int)} {M : List Int} {vs : List Value} {va xa ta : Option Addr} {vc xc tc : Nat} {lv : Value} (hbW0 : Below w0.heap.size w0 W) (hMW : Mid w0.heap.size w W) (b2 : Below W.heap.size W w2)
    (bl1 : W.heap[bl]? = some (.cells #[lv] 22 (0, 0))) (bo1 : W.heap[bo]? = some (.cells #[.slice va D.length vc] 22 (0, 0))) (hrow1 : W.ownsRow w0.heap.size 23 1 (.slice va D.length vc) D.length vs) (hels1 : OwnEls W w0.heap.size vs D) (hvl : vs.length = D.length)
    (ho2 : w2.ownsRow B1 5 1 (.slice xa 32 xc) 32 (M.map (Value.int .u8))) (hB1 : w0.heap.size ≤ B1) (hm32 : M.length = 32)
    (hg6 : (w2.alloc (.cells #[.slice xa 32 xc] 23)).grownBy w6 (Value.slice va D.length vc).ownBlock) (ho6 : w6.ownsRow w0.heap.size 23 1 (.slice ta (D.length + 1) tc) (D.length + 1) (vs ++ [.slice xa 32 xc])) (hne : bl ≠ bo) (hbo : w0.heap.size ≤ bo) :
    (Below w0.heap.size w0 (w6.setCell ⟨bo, 0, none⟩ (.slice ta (D.length + 1) tc)) ∧ (w6.setCell ⟨bo, 0, none⟩ (.slice ta (D.length + 1) tc)).heap[bl]? = some (.cells #[lv] 22 (0, 0)) ∧
      ∃ v, (w6.setCell ⟨bo, 0, none⟩ (.slice ta (D.length + 1) tc)).heap[bo]? = some (.cells #[v] 22 (0, 0)) ∧ OwnParts (w6.setCell ⟨bo, 0, none⟩ (.slice ta (D.length + 1) tc)) w0.heap.size v (D ++ [M])) ∧ Mid w0.heap.size w (w6.setCell ⟨bo, 0, none⟩ (.slice ta (D.length + 1) tc)) := by
  have hs0 := hbW0.size
  have hrow2 := (own_below hrow1 b2 (Nat.le_refl _)).alloc (.cells #[.slice xa 32 xc] 23)
  have hels2 := (hels1.below b2 (Nat.le_refl _)).alloc (.cells #[.slice xa 32 xc] 23)
  have o6 := grown_box hg6 hrow2 (box_old _ _ (box_kept bo1 b2)) (by decide)
  have l6 := grown_box hg6 hrow2 (box_old _ _ (box_kept bl1 b2)) (by decide)
  have bA : Below W.heap.size W (w2.alloc (.cells #[.slice xa 32 xc] 23)) := b2.alloc b2.size _
  have hM6 : Mid w0.heap.size w w6 := (hMW.trans (MidT.of_below bA hs0)).trans (MidT.grown hrow2 hg6 (fun t ht => by rw [ht]; decide) (by have := bA.size; omega))
  have hM7 : Mid w0.heap.size w (w6.setCell ⟨bo, 0, none⟩ (.slice ta (D.length + 1) tc)) := hM6.trans (MidT.set o6 (by decide) hbo _)
  have bA0 : Below w0.heap.size w0 (w2.alloc (.cells #[.slice xa 32 xc] 23)) := hbW0.trans (bA.mono hs0)
  have b6 : Below w0.heap.size w0 w6 := bA0.grown hg6 bA0.size (fun _ h => own_block hrow2 h)
  refine ⟨⟨b6.setCell hbo _, box_set_far l6 hne, _, box_set o6, ⟨vs ++ [.slice xa 32 xc], ?_, ?_⟩⟩, hM7⟩
  · rw [List.length_append]
    exact own_set ho6 o6 (by decide) _
  · exact ((hels2.snoc hvl (by rw [hm32]; exact (ownsRow_base ho2 hB1).alloc _)).kept hrow2 hg6).set o6 (by decide) _

set_option maxRecDepth 100000 in
set_option maxHeartbeats 2000000 in
theorem roots1_call {w0 : World} {bo bl b off n c : Nat} {L : List (List Int)} {done : List (Nat × Nat)} (f e : Nat) (w : World) (hr : Ready w0) (hL : Leaves w0 (some ⟨b, off, none⟩) n c L) (hn : n ≤ 100) (hfe : f < e) (hen : e ≤ n) (hdn : done.length ≤ 1000) (hne : bl ≠ bo) (hbo : w0.heap.size ≤ bo)
    (h : RootsI w0 bo bl (some ⟨b, off, none⟩) n c L done w) :
    Calls Tryd.prog 64 #[partV f e, .pointer (some ⟨bo, 0, none⟩), .pointer (some ⟨bl, 0, none⟩)] w fun r w' => r = .returned (.tuple #[]) ∧ RootsI w0 bo bl (some ⟨b, off, none⟩) n c L (done ++ [(f, e)]) w' ∧ Mid w0.heap.size w w' := by
  obtain ⟨hb0, hl, v, ho, vs, hrow, hels⟩ := h
  obtain ⟨i0, hi0, hz0, hz1, hz2⟩ := info_parts Tryd.info23b
  have hsz := hb0.size
  have hnc := hL.room
  have hvl : vs.length = (done.map (fun p => mth (seg L p))).length := by simpa using hrow.1
  have hdl : (done.map (fun p => mth (seg L p))).length ≤ 1000 := by rw [List.length_map]; exact hdn
  have HM : Hid ((done ++ [(f, e)]).map (fun p => mth (seg L p)) = done.map (fun p => mth (seg L p)) ++ [mth (seg L (f, e))]) := by rw [List.map_append]; rfl
  have hof : ∀ w1, _ := fun w1 => of_any f e b off n c w1 hfe hen hnc
  have hro : ∀ w1, Below w0.heap.size w0 w1 → _ := fun w1 hb => treeRoot_any (e - f) (seg L (f, e)) (some ⟨b, off + f, none⟩) (c - f) w1 (hr.below hb) (by omega) (((hL.take hen (by omega)).drop (k := f) (by omega) (by omega)).below hb)
  have hm32 := mth_length (seg L (f, e))
  unfold RootsI
  rw [HM.out]
  generalize done.map (fun p => mth (seg L p)) = D at *
  generalize mth (seg L (f, e)) = M at *
  clear HM
  -- the part's own variable
  have bq := box_new w #[.int .i64 f, .int .i64 e] 96
  have bl1 := box_old w (.cells #[.int .i64 f, .int .i64 e] 96) hl
  have bo1 := box_old w (.cells #[.int .i64 f, .int .i64 e] 96) ho
  have hbW : Below w.heap.size w (w.alloc (.cells #[.int .i64 f, .int .i64 e] 96)) := (Below.refl _ _).alloc (Nat.le_refl _) _
  have hrow1 := hrow.alloc (.cells #[.int .i64 f, .int .i64 e] 96)
  have hels1 := hels.alloc (.cells #[.int .i64 f, .int .i64 e] 96)
  obtain ⟨va, vc, rfl⟩ := own_form' hrow
  clear hrow hels hl
  go_enter Tryd.func64, Tryd.ntmps64
  go_wp2_with fail
  have hMW : Mid w0.heap.size w (w.alloc (.cells #[.int .i64 f, .int .i64 e] 96)) := MidT.of_below hbW hsz
  have hqs : w.heap.size < (w.alloc (.cells #[.int .i64 f, .int .i64 e] 96)).heap.size := by simp
  generalize w.alloc (.cells #[.int .i64 f, .int .i64 e] 96) = W at *
  generalize w.heap.size = q at *
  obtain ⟨z0, z1, -, -⟩ := box_two bq
  obtain ⟨z2, -⟩ := box_cell bl1
  obtain ⟨z3, z4⟩ := box_cell bo1
  have k0 : ∀ w', Below W.heap.size W w' → w'.cell? ⟨bl, 0, none⟩ = some (.slice (some ⟨b, off, none⟩) n c) ∧ w'.cell? ⟨q, 0, none⟩ = some (.int .i64 f) ∧ w'.cell? ⟨q, 1, none⟩ = some (.int .i64 e) := fun w' h =>
    ⟨(box_cell (box_kept bl1 h)).1, (box_two (box_kept bq h)).1, (box_two (box_kept bq h)).2.1⟩
  have hbW0 : Below w0.heap.size w0 W := hb0.trans (hbW.mono hsz)
  have hs0 : w0.heap.size ≤ W.heap.size := hbW0.size
  go_region_law (first
    | (refine step_append_kept _ rfl (.tmp 4) (.tmp 9) 22 rfl w0.heap.size 23 i0 (.slice none 0 0) 24 Tryd.underlying22 hi0 hz0 hz1 hz2 rfl _ _ _ rfl (World.ownsRow.alloc (by exact hrow2) _) _ 1 1 [.slice xa 32 xc] rfl rfl (cell_one_new _ _ _) (by intro u hu; simp at hu; subst hu; rfl) (by unfold maxLen; omega) (by omega) (by simp; omega) ?_; intro v6 w6 ho6 hg6 hk6; obtain ⟨ta, tc, rfl⟩ := own_form' ho6; have o6 := grown_box hg6 (hrow2.alloc _) (box_old _ _ (box_kept bo1 b2)) (by decide); obtain ⟨y60, y61⟩ := box_cell o6)
    | (go_simp; go_at_call 63; refine (hof _).mono ?_; rintro r w1 ⟨rfl, hb1⟩; have b1 := (Below.refl _ _).drew.trans hb1; obtain ⟨y10, y11, y12⟩ := k0 _ b1; have y13 := (box_cell (box_kept bo1 b1)).1; dsimp only)
    | (go_simp; go_at_call 38; refine (hro _ (hbW0.trans (b1.mono hs0))).mono ?_; rintro r w2 ⟨x2, rfl, ho2, hb2⟩; obtain ⟨xa, xc, rfl⟩ := own_form' ho2; have b2 := b1.trans (hb2.mono b1.size); have y23 := (box_cell (box_kept bo1 b2)).1; have sz2 := lt_heap (box_kept bo1 b2); have hrow2 := own_below hrow1 b2 (Nat.le_refl _); have hels2 := hels1.below b2 (Nat.le_refl _); have hs2 := b2.size; dsimp only))
  all_goals (go_end0; exact ⟨rfl, roots1_end hbW0 hMW b2 bl1 bo1 hrow1 hels1 hvl ho2 (Nat.le_trans hs0 b1.size) hm32 hg6 ho6 hne hbo⟩)

theorem roots1_visits {w0 : World} {bo bl b off n c : Nat} {L : List (List Int)} {ps : List (Nat × Nat)} (hr : Ready w0) (hL : Leaves w0 (some ⟨b, off, none⟩) n c L) (hn : n ≤ 100) (hps : ∀ p ∈ ps, p.1 < p.2 ∧ p.2 ≤ n) (hpl : ps.length ≤ 1000) (hne : bl ≠ bo) (hbo : w0.heap.size ≤ bo) :
    Visits w0.heap.size 64 #[.pointer (some ⟨bo, 0, none⟩), .pointer (some ⟨bl, 0, none⟩)] ps (RootsI w0 bo bl (some ⟨b, off, none⟩) n c L) := by
  refine ⟨fun _ _ => by simp [go_sem], fun done w w' h hb => h.keep hb, fun done f e w hp h hB => ?_⟩
  have hm : (f, e) ∈ ps := hp.subset (by simp)
  have hd : done.length ≤ 1000 := by have := hp.length_le; simp at this; omega
  obtain ⟨h1, h2⟩ := hps _ hm
  exact roots1_call f e w hr hL hn h1 h2 hd hne hbo h
set_option maxRecDepth 100000 in
set_option maxHeartbeats 1000000 in
theorem roots_any {w : World} {kw b off n c : Nat} {cw : Array Value} {L : List (List Int)} {ps : List (Nat × Nat)} (hW : Walker w kw cw ps) (hr : Ready w) (hL : Leaves w (some ⟨b, off, none⟩) n c L) (hn : n ≤ 100) (hps : ∀ p ∈ ps, p.1 < p.2 ∧ p.2 ≤ n) (hpl : ps.length ≤ 1000) :
    Calls Tryd.prog 39 #[.slice (some ⟨b, off, none⟩) n c, .func (.func kw) #[] cw] w fun r w' => ∃ v, r = .returned v ∧ OwnParts w' w.heap.size v (ps.map (fun p => mth (seg L p))) ∧ Below w.heap.size w w' := by
  have V := roots1_visits (bo := w.heap.size + 1) (bl := w.heap.size) hr hL hn hps hpl (by omega) (by omega)
  have hb : Below w.heap.size w ((w.alloc (.cells #[.slice (some ⟨b, off, none⟩) n c] 22)).alloc (.cells #[.slice none 0 0] 22)) := ((Below.refl _ _).alloc (Nat.le_refl _) _).alloc (by simp) _
  have hI : RootsI w (w.heap.size + 1) w.heap.size (some ⟨b, off, none⟩) n c L [] ((w.alloc (.cells #[.slice (some ⟨b, off, none⟩) n c] 22)).alloc (.cells #[.slice none 0 0] 22)) :=
    ⟨hb, box_one _ _ _ _, _, box_last _ _ _ _, OwnParts.nil _ _⟩
  have hC := hW.call _ _ _ _ _ V hb hb.size hI
  have eg := hW.enters
  clear V hI hL
  go_enter Tryd.func39, Tryd.ntmps39
  go_wp2_with fail
  refine hC.mono ?_
  rintro r w1 ⟨rfl, ⟨h1, h2, v, h3, h4⟩, hM⟩
  have y := (box_cell h3).1
  obtain ⟨va, vc, e, -⟩ := h4.form
  subst e
  clear hC hM h2 h3 eg
  go_wp2_with fail
  go_ret
  exact ⟨_, rfl, by rw [List.length_map] at h4; exact h4, h1⟩

theorem OwnParts.setBelow {w : World} {base : Nat} {v : Value} {L : List (List Int)} (h : OwnParts w base v L) {a : Addr} (ha : a.block < base) (u : Value) : OwnParts (w.setCell a u) base v L := by
  obtain ⟨vs, h1, h2⟩ := h
  refine ⟨vs, ownsRow_setCell_below h1 ha u, fun j hj => ?_⟩
  obtain ⟨y, h3, h4⟩ := h2 j hj
  exact ⟨y, h3, ownsRow_setCell_below h4 ha u⟩
set_option maxRecDepth 100000 in
set_option maxHeartbeats 1000000 in
theorem pathC_holds : PathC := by
  intro L i a n c w hr hL
  have b0 : Below w.heap.size w (w.alloc (.cells #[.int .i64 0, .int .i64 0] 31)) := (Below.refl _ _).alloc (Nat.le_refl _) _
  have hW := wrongC_holds L a n c _ (hL.below b0)
  have hnn : n ≤ 9223372036854775807 := by have := hL.room; have := hL.cap; unfold maxLen at this; omega
  by_cases h0 : (wrongL L).1 = 0
  · obtain ⟨hv, hn, he⟩ := leaves_of hL h0
    by_cases hi : i < 0 ∨ (L.length : Int) ≤ i
    · have HF : pathF L i = (6, 0) := by unfold pathF; rw [if_neg (by rw [h0]; decide), if_pos hi]
      rw [HF]
      rw [he] at hW
      rw [hv.len] at hi
      have hi' : (i < 0 ∨ ¬ i < 0 ∧ (n : Int) ≤ i) := by omega
      clear h0 he hL hv hr HF hi
      rcases hi' with hi | ⟨hi, hi2⟩
      all_goals
        go_enter Tryd.func21, Tryd.ntmps21
        go_wp2_with fail
        refine hW.mono ?_
        rintro e w1 ⟨rfl, hb1⟩
        have b1 : Below w.heap.size w w1 := b0.trans (hb1.mono b0.size)
        have b2 : Below w.heap.size w (w1.alloc (.cells #[.int .i64 0, .int .i64 0] 31)) := b1.alloc b1.size _
        obtain ⟨q20, q21, q22, q23⟩ := box_two (box_old w1 (.cells #[.int .i64 0, .int .i64 0] 31) (box_kept (box_new w #[.int .i64 0, .int .i64 0] 31) hb1))
        go_wp2_with fail
        exact bodyPost_ret (v := .tuple #[.slice none 0 0, faultV (6, 0)]) (by simp [results, Tryd.results21, go_sem, q20, q21]) rfl ⟨none, 0, 0, rfl, fun h => absurd h (by decide), fun _ => rfl, (b2.setCell (Nat.le_refl _) _).setCell (Nat.le_refl _) _⟩
    · have HF : pathF L i = (0, 0) := by unfold pathF; rw [if_neg (by rw [h0]; decide), if_neg hi]
      rw [HF]
      rw [he] at hW
      rw [hv.len] at hi
      obtain ⟨j, rfl⟩ : ∃ j : Nat, i = (j : Int) := ⟨i.toNat, by omega⟩
      have hj : j < n := by omega
      obtain ⟨b, off, rfl⟩ := hv.addr (by omega)
      have HP : (pathP 0 n j).map (fun p => mth (seg L p)) = pathL L ((j : Int).toNat) := by
        have h := path_seg L n 0 n j (by omega) (by omega) hj (by rw [hv.len]; exact Nat.le_refl _)
        rw [← hv.len, seg_all, hv.len] at h
        simpa using h
      have hpo : ∀ w', _ := fun w' => pathOf_any n j w' hn (by omega)
      have hro : ∀ w' (h : Below w.heap.size w w') kw cw, Walker w' kw cw (pathP 0 n j) → _ := fun w' h kw cw hk => roots_any hk (hr.below h) (hv.below h) hn (fun p hp => (pathP_in n 0 n j (by omega) p hp).2) (by have := pathP_few n 0 n j (by omega); omega)
      have i1 : ¬ (j : Int) < 0 := by omega
      have i2 : ¬ (n : Int) ≤ (j : Int) := by omega
      rw [← HP]
      generalize (pathP 0 n j).map (fun p => mth (seg L p)) = R at *
      clear h0 he hL hv hr HF hi HP
      go_enter Tryd.func21, Tryd.ntmps21
      go_wp2_with fail
      refine hW.mono ?_
      rintro e w1 ⟨rfl, hb1⟩
      have b1 : Below w.heap.size w w1 := b0.trans (hb1.mono b0.size)
      have b2 : Below w.heap.size w (w1.alloc (.cells #[.int .i64 0, .int .i64 0] 31)) := b1.alloc b1.size _
      have q2 := box_old w1 (.cells #[.int .i64 0, .int .i64 0] 31) (box_kept (box_new w #[.int .i64 0, .int .i64 0] 31) hb1)
      go_wp2_with fail
      refine (hpo _).mono ?_
      rintro e w2 ⟨kw, cw, rfl, hk, hb3⟩
      have b3 := b2.trans (hb3.mono b2.size)
      go_wp2_with fail
      refine (hro _ b3 kw cw hk).mono ?_
      rintro e w3 ⟨v, rfl, ho, hb4⟩
      have b4 := b3.trans (hb4.mono b3.size)
      obtain ⟨q20, q21, q22, q23⟩ := box_two (box_kept (box_kept q2 hb3) hb4)
      have hs2 : w.heap.size < w2.heap.size := by have := b1.size; have := hb3.size; simp at this; omega
      obtain ⟨va, vc, e, -⟩ := ho.form
      subst e
      have hoF := (((ho.setBelow (a := ⟨w.heap.size, 0, none⟩) hs2 (.int .i64 0)).setBelow (a := ⟨w.heap.size, 1, none⟩) hs2 (.int .i64 0))).base (Nat.le_of_lt hs2)
      clear hW hpo hro hb1 hb3 hb4 b0 b1 b2 b3 hk q2
      go_wp2_with fail
      exact bodyPost_ret (v := .tuple #[.slice va R.length vc, faultV (0, 0)]) (by simp [results, Tryd.results21, go_sem, q20, q21]) rfl ⟨va, _, vc, rfl, fun _ => hoF, fun h => absurd rfl h, (b4.setCell (Nat.le_refl _) _).setCell (Nat.le_refl _) _⟩
  · have i1 : ((wrongL L).1 != 0) = true := by simpa using h0
    have HF : pathF L i = wrongL L := by unfold pathF; rw [if_pos h0]
    rw [HF]
    clear HF
    generalize wrongL L = p at *
    obtain ⟨x, y⟩ := p
    dsimp only at h0 i1 ⊢
    go_enter Tryd.func21, Tryd.ntmps21
    go_wp2_with fail
    refine hW.mono ?_
    rintro e w1 ⟨rfl, hb1⟩
    have b1 : Below w.heap.size w w1 := b0.trans (hb1.mono b0.size)
    obtain ⟨q20, q21, q22, q23⟩ := box_two (box_old w1 (.cells #[.int .i64 x, .int .i64 y] 31) (box_kept (box_new w #[.int .i64 0, .int .i64 0] 31) hb1))
    have b2 : Below w.heap.size w (w1.alloc (.cells #[.int .i64 x, .int .i64 y] 31)) := b1.alloc b1.size _
    go_wp2_with fail
    obtain ⟨p0, p1, -, -⟩ := box_two (box_new w1 #[.int .i64 x, .int .i64 y] 31)
    have n1 : w.heap.size ≠ w1.heap.size := by have := hb1.size; simp at this; omega
    generalize w1.alloc (.cells #[.int .i64 x, .int .i64 y] 31) = W at *
    generalize w1.heap.size = q1 at *
    go_region_held3 (fun w' => w'.cell? ⟨q1, 0, none⟩ = some (.int .i64 x) ∧ w'.cell? ⟨q1, 1, none⟩ = some (.int .i64 y)) (first | exact ⟨p0, p1⟩ | exact ⟨(World.cell?_setCell_far _ _ _ _ n1).trans ((World.cell?_setCell_far _ _ _ _ n1).trans p0), (World.cell?_setCell_far _ _ _ _ n1).trans ((World.cell?_setCell_far _ _ _ _ n1).trans p1)⟩) (fail)
    go_wp2_with fail
    exact bodyPost_ret (v := .tuple #[.slice none 0 0, faultV (x, y)]) (by simp [results, Tryd.results21, go_sem, q20, q21]) rfl ⟨none, 0, 0, rfl, fun h => absurd h h0, fun _ => rfl, ((b2.setCell (Nat.le_refl _) _).setCell (Nat.le_refl _) _).drew⟩

end Go.Proofs.YtkjlchfmplcobadDoor
