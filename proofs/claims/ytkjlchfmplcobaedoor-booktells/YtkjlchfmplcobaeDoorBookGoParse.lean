/- The walk of Parse: package book as it landed. -/
import Derived.Test.YtkjlchfmplcobaeDoorProg
import Derived.Test.YtkjlchfmplcobaeDoorBookGoRec
import Derived.Test.YtkjlchfmplcobaeDoorByteClone
import Derived.Test.YtkjlchfmplcobaeDoorRunAE
import Derived.WalkKit
import Derived.WalkSpells
import Derived.WalkLawsBesides
import Derived.Deep.RegionHeld3
import Derived.BigRegion
namespace Go.Proofs.YtkjlchfmplcobaeDoor
open Go.RowKit

theorem oldKept_below {w0 w' w'' : World} (h : w0.heap.size ≤ w'.heap.size ∧ ∀ b o, b < w0.heap.size → w'.cell? ⟨b, o, none⟩ = w0.cell? ⟨b, o, none⟩) (hb : Below w'.heap.size w' w'') : w0.heap.size ≤ w''.heap.size ∧ ∀ b o, b < w0.heap.size → w''.cell? ⟨b, o, none⟩ = w0.cell? ⟨b, o, none⟩ :=
  ⟨Nat.le_trans h.1 hb.size, fun b o hlt => (hb.cell (p := ⟨b, o, none⟩) (Nat.lt_of_lt_of_le hlt h.1)).trans (h.2 b o hlt)⟩
theorem oldKept_set {w0 w' : World} {R : Nat} (h : w0.heap.size ≤ w'.heap.size ∧ ∀ b o, b < w0.heap.size → w'.cell? ⟨b, o, none⟩ = w0.cell? ⟨b, o, none⟩) (hR : w0.heap.size ≤ R) (u0 u1 u2 u3 u4 : Value) : w0.heap.size ≤ (((((w'.setCell ⟨R, 0, none⟩ u0).setCell ⟨R, 1, none⟩ u1).setCell ⟨R, 2, none⟩ u2).setCell ⟨R, 3, none⟩ u3).setCell ⟨R, 4, none⟩ u4).heap.size ∧ ∀ b o, b < w0.heap.size → (((((w'.setCell ⟨R, 0, none⟩ u0).setCell ⟨R, 1, none⟩ u1).setCell ⟨R, 2, none⟩ u2).setCell ⟨R, 3, none⟩ u3).setCell ⟨R, 4, none⟩ u4).cell? ⟨b, o, none⟩ = w0.cell? ⟨b, o, none⟩ := by
  have hb : Below w0.heap.size w' (((((w'.setCell ⟨R, 0, none⟩ u0).setCell ⟨R, 1, none⟩ u1).setCell ⟨R, 2, none⟩ u2).setCell ⟨R, 3, none⟩ u3).setCell ⟨R, 4, none⟩ u4) := (((((Below.refl _ _).setCell hR _).setCell hR _).setCell hR _).setCell hR _).setCell hR _
  exact ⟨Nat.le_trans h.1 hb.size, fun b o hlt => (hb.cell (p := ⟨b, o, none⟩) hlt).trans (h.2 b o hlt)⟩
theorem oldKept_drew (w0 : World) : w0.heap.size ≤ w0.drew.heap.size ∧ ∀ b o, b < w0.heap.size → w0.drew.cell? ⟨b, o, none⟩ = w0.cell? ⟨b, o, none⟩ := ⟨Nat.le_refl _, fun _ _ _ => rfl⟩
theorem oldKept_new (w0 : World) (x : Obj) : w0.heap.size ≤ (w0.alloc x).drew.heap.size ∧ ∀ b o, b < w0.heap.size → (w0.alloc x).drew.cell? ⟨b, o, none⟩ = w0.cell? ⟨b, o, none⟩ := oldKept_below (w' := w0) ⟨Nat.le_refl _, fun _ _ _ => rfl⟩ ((Below.refl _ _).alloc (Nat.le_refl _) _).drew
theorem oldKept_alloc {w0 w' : World} (h : w0.heap.size ≤ w'.heap.size ∧ ∀ b o, b < w0.heap.size → w'.cell? ⟨b, o, none⟩ = w0.cell? ⟨b, o, none⟩) (x : Obj) : w0.heap.size ≤ (w'.alloc x).heap.size ∧ ∀ b o, b < w0.heap.size → (w'.alloc x).cell? ⟨b, o, none⟩ = w0.cell? ⟨b, o, none⟩ := oldKept_below h ((Below.refl _ _).alloc (Nat.le_refl _) _)
def pickO (o O : Nat) (a b : Int) : Int := if O = o + 1 then a else b
theorem pickO_one (o : Nat) (a b : Int) : pickO o (o + 1) a b = a := if_pos rfl
theorem pickO_four (o : Nat) (a b : Int) : pickO o (o + 4) a b = b := if_neg (by omega)
set_option maxRecDepth 100000 in
set_option maxHeartbeats 4000000 in
theorem recParseC_holds : RecParseC := fun b ba bc w hb hb1 hb2 => by
  unfold maxLen at hb2
  have b0 : Below w.heap.size w (w.alloc (.cells #[.int .i64 0, .int .i64 0, .int .i64 0, .int .i64 0, .slice none 0 0] 40)) := (Below.refl _ _).alloc (Nat.le_refl _) _
  have y0 := box_new w #[.int .i64 0, .int .i64 0, .int .i64 0, .int .i64 0, .slice none 0 0] 40
  by_cases h40 : b.length = 40
  · have HP : Hid (parseL b = if wrongRec (recL b) ≠ 0 then (rec0, wrongRec (recL b)) else (recL b, 0)) := by show _ = _; unfold parseL; rw [if_neg (fun e => e h40)]
    rw [h40] at hb hb1 ⊢
    have hby := hb.bytes
    obtain ⟨g, o, rfl, hg, hcell⟩ : ∃ g o, ba = some ⟨g, o, none⟩ ∧ g < w.heap.size ∧ ∀ j, j < 40 → w.cell? ⟨g, o + j, none⟩ = some (.int .u8 (b.getD j 0)) := by
      rcases hb.at' with ⟨e, -⟩ | ⟨g, o, c, e, h1, h2⟩
      · rw [e] at h40; cases h40
      · rw [h40] at e h2; cases e; exact ⟨g, o, rfl, h1, h2⟩
    have hrl : (b.drop 8).length = 32 := by rw [List.length_drop]; omega
    have hrootB : BytesAt w (.slice (some ⟨g, o + 8, none⟩) 32 (bc - 8)) (b.drop 8) := by
      refine .inr ⟨g, o + 8, bc - 8, by rw [hrl], hg, fun j hj => ?_⟩
      rw [Nat.add_assoc, hcell (8 + j) (by omega), List.getD_eq_getElem?_getD, List.getD_eq_getElem?_getD, List.getElem?_drop]
    have hrootY : Bytes (b.drop 8) := fun j => by rw [List.getD_eq_getElem?_getD, List.getElem?_drop, ← List.getD_eq_getElem?_getD]; exact hby _
    go_enter Tryd.func15, Tryd.ntmps15
    go_wp2_with fail
    generalize w.alloc (.cells #[.int .i64 0, .int .i64 0, .int .i64 0, .int .i64 0, .slice none 0 0] 40) = w0 at *
    have hc0 : ∀ j, j < 40 → w0.cell? ⟨g, o + j, none⟩ = some (.int .u8 (b.getD j 0)) := fun j hj => (b0.cell (p := ⟨g, o + j, none⟩) hg).trans (hcell j hj)
    have kg : g < w0.heap.size := by have := b0.size; omega
    have hT : ∀ (k : Nat) (hk : k + 2 < 40) (C : Nat) w', (w0.heap.size ≤ w'.heap.size ∧ ∀ b o, b < w0.heap.size → w'.cell? ⟨b, o, none⟩ = w0.cell? ⟨b, o, none⟩) → Calls Tryd.prog 38 #[.slice (some ⟨g, o + k, none⟩) 3 C] w' fun e w'' => e = .returned (.int .i64 (65536 * b.getD k 0 + 256 * b.getD (k + 1) 0 + b.getD (k + 2) 0)) ∧ w'' = w' := fun k hk C w' h =>
      timeOf_any _ _ _ g (o + k) C w' ((h.2 g (o + k) kg).trans (hc0 k (by omega))) ((h.2 g (o + k + 1) kg).trans (hc0 (k + 1) (by omega))) ((h.2 g (o + k + 2) kg).trans (hc0 (k + 2) (by omega))) (hby k) (hby (k + 1)) (hby (k + 2))
    have hTk : ∀ (O C : Nat) w', (O = o + 1 ∨ O = o + 4) → (w0.heap.size ≤ w'.heap.size ∧ ∀ b o, b < w0.heap.size → w'.cell? ⟨b, o, none⟩ = w0.cell? ⟨b, o, none⟩) → Calls Tryd.prog 38 #[.slice (some ⟨g, O, none⟩) 3 C] w' fun e w'' => e = .returned (.int .i64 (pickO o O (65536 * b.getD 1 0 + 256 * b.getD (1 + 1) 0 + b.getD (1 + 2) 0) (65536 * b.getD 4 0 + 256 * b.getD (4 + 1) 0 + b.getD (4 + 2) 0))) ∧ w'' = w' := fun O C w' h1 h => by
      rcases h1 with rfl | rfl
      · rw [pickO_one]; exact hT 1 (by omega) C w' h
      · rw [pickO_four]; exact hT 4 (by omega) C w' h
    have hCl : ∀ w', (w0.heap.size ≤ w'.heap.size ∧ ∀ b o, b < w0.heap.size → w'.cell? ⟨b, o, none⟩ = w0.cell? ⟨b, o, none⟩) → Calls Tryd.prog 39 #[.slice (some ⟨g, o + 8, none⟩) 32 (bc - 8)] w' fun e w'' => ∃ xa xc, e = .returned (.slice xa 32 xc) ∧ w''.ownsRow w'.heap.size 5 1 (.slice xa 32 xc) 32 ((b.drop 8).map (Value.int .u8)) ∧ Below w'.heap.size w' w'' := fun w' h =>
      cloneB_any (b.drop 8) _ 32 _ w' (by
        refine .inr ⟨g, o + 8, bc - 8, by rw [hrl], Nat.lt_of_lt_of_le kg h.1, fun j hj => ?_⟩
        rw [h.2 _ _ kg, Nat.add_assoc, hc0 (8 + j) (by omega), List.getD_eq_getElem?_getD, List.getD_eq_getElem?_getD, List.getElem?_drop]) hrl (by omega)
    have z0 := hc0 0 (by omega)
    have z7 := hc0 7 (by omega)
    have n0 := hby 0
    have n7 := hby 7
    rw [Nat.add_zero] at z0
    have hnc : ¬ bc = 8 := by omega
    have hnc1 : ¬ bc = 1 := by omega
    have hnc4 : ¬ bc = 4 := by omega
    have hbc : (8 : Int) ≤ bc := by omega
    have hbc4 : (4 : Int) ≤ bc := by omega
    have hbc7 : (7 : Int) ≤ bc := by omega
    have HRec : Hid (recL b = ⟨b.getD 0 0, 65536 * b.getD 1 0 + 256 * b.getD (1 + 1) 0 + b.getD (1 + 2) 0, 65536 * b.getD 4 0 + 256 * b.getD (4 + 1) 0 + b.getD (4 + 2) 0, b.getD 7 0, b.drop 8⟩) := rfl
    clear hc0 hcell hT hrootB
    generalize b.drop 8 = root at *
    generalize b.getD 0 0 = e0 at *
    generalize b.getD 7 0 = e7 at *
    generalize 65536 * b.getD 1 0 + 256 * b.getD (1 + 1) 0 + b.getD (1 + 2) 0 = eF at *
    generalize 65536 * b.getD 4 0 + 256 * b.getD (4 + 1) 0 + b.getD (4 + 2) 0 = eT at *
    obtain ⟨n00, n01⟩ := n0
    obtain ⟨n70, n71⟩ := n7
    have hw0' : IntKind.i64.wrap e0 = e0 := by rw [IntKind.wrap_i64]; omega
    have hw7' : IntKind.i64.wrap e7 = e7 := by rw [IntKind.wrap_i64]; omega
    have hv1 := pickO_one o eF eT
    have hv4 := pickO_four o eF eT
    have hnewR : (w0.alloc (.cells #[.int .i64 0, .int .i64 0, .int .i64 0, .int .i64 0, .slice none 0 0] 40)).drew.heap[w0.heap.size]? = some (.cells #[.int .i64 0, .int .i64 0, .int .i64 0, .int .i64 0, .slice none 0 0] 40 (0, 0)) := box_new w0 #[.int .i64 0, .int .i64 0, .int .i64 0, .int .i64 0, .slice none 0 0] 40
    go_region_held3 (fun w' => w0.heap.size ≤ w'.heap.size ∧ ∀ b o, b < w0.heap.size → w'.cell? ⟨b, o, none⟩ = w0.cell? ⟨b, o, none⟩) (first | (with_reducible assumption) | (with_reducible exact hK5) | (with_reducible exact oldKept_drew w0) | (with_reducible exact oldKept_new w0 _) | (with_reducible exact oldKept_alloc hK5 _) | (with_reducible exact oldKept_set hK5 (Nat.le_refl _) _ _ _ _ _)) (first | (go_at_call 38; refine (hTk _ _ _ (by first | exact .inl rfl | exact .inr rfl) (by assumption)).mono ?_; rintro e w' ⟨rfl, rfl⟩) | (go_at_call 39; refine (hCl _ (by assumption)).mono ?_; rintro e w5 ⟨xa, xc, rfl, ho5, hb5⟩; have hK5 := oldKept_below (w0 := w0) (by assumption) hb5; first | (have xB : w5.heap[w0.heap.size]? = some (.cells #[.int .i64 0, .int .i64 0, .int .i64 0, .int .i64 0, .slice none 0 0] 40 (0, 0)) := (by with_reducible exact box_kept (w := (w0.alloc (.cells #[.int .i64 0, .int .i64 0, .int .i64 0, .int .i64 0, .slice none 0 0] 40)).drew) hnewR hb5); obtain ⟨q0, q1, q2, q3, q4⟩ := box_five xB; have f0 := frozen_of_row _ w0.heap.size 0 _ _ xB; have f1 := frozen_of_row _ w0.heap.size 1 _ _ xB; have f2 := frozen_of_row _ w0.heap.size 2 _ _ xB; have f3 := frozen_of_row _ w0.heap.size 3 _ _ xB; have f4 := frozen_of_row _ w0.heap.size 4 _ _ xB) | (have xB := box_new w5 #[.int .i64 0, .int .i64 0, .int .i64 0, .int .i64 0, .slice none 0 0] 40; obtain ⟨q0, q1, q2, q3, q4⟩ := box_five xB; have f0 := frozen_of_row _ w5.heap.size 0 _ _ xB; have f1 := frozen_of_row _ w5.heap.size 1 _ _ xB; have f2 := frozen_of_row _ w5.heap.size 2 _ _ xB; have f3 := frozen_of_row _ w5.heap.size 3 _ _ xB; have f4 := frozen_of_row _ w5.heap.size 4 _ _ xB)))
    · have xR := box_new w5 #[.int .i64 e0, .int .i64 eF, .int .i64 eT, .int .i64 e7, .slice xa 32 xc] 40
      have d5 : Below w0.heap.size w0 w5 := (Below.refl _ _).drew.trans (hb5.mono (Nat.le_refl _))
      have dW : Below w0.heap.size w0 (w5.alloc (.cells #[.int .i64 e0, .int .i64 eF, .int .i64 eT, .int .i64 e7, .slice xa 32 xc] 40)) := d5.alloc hK5.1 _
      obtain ⟨base, hbase, hoW⟩ : ∃ base, w0.heap.size ≤ base ∧ (w5.alloc (.cells #[.int .i64 e0, .int .i64 eF, .int .i64 eT, .int .i64 e7, .slice xa 32 xc] 40)).ownsRow base 5 1 (.slice xa 32 xc) 32 (root.map (Value.int .u8)) := ⟨w0.drew.heap.size, Nat.le_refl _, ho5.alloc _⟩
      clear d5
      generalize w5.alloc (.cells #[.int .i64 e0, .int .i64 eF, .int .i64 eT, .int .i64 e7, .slice xa 32 xc] 40) = W at *
      have hKR : w.heap.size < w0.heap.size := lt_heap y0
      have yW := box_below y0 dW hKR
      have bW := b0.trans (dW.mono b0.size)
      have cW := recWrongC_holds (recL b) (.agg #[.int .i64 e0, .int .i64 eF, .int .i64 eT, .int .i64 e7, .slice xa 32 xc]) W (by rw [HRec.out]; exact ⟨xa, xc, by rw [hrl], by rw [hrl]; exact ⟨bytesAt_own hoW, hrootY, by rw [hrl]; unfold maxLen; omega⟩⟩)
      obtain ⟨r0, r1, r2, r3, r4⟩ := box_five xR
      clear hCl hTk hnewR xB q0 q1 q2 q3 q4 f0 f1 f2 f3 f4 hK5 z0 z7 hv1 hv4 hw0' hw7' hbc hbc4 hbc7 hnc hnc1 hnc4 hb5 ho5 dW y0 b0
      go_wp2_with fail
      refine cW.mono ?_
      rintro e w6 ⟨rfl, hb6⟩
      have b6 := bW.trans (hb6.mono bW.size)
      have y6 := box_kept yW hb6
      have x6 := box_kept xR hb6
      have ho6 := own_below hoW hb6 (Nat.le_refl _)
      obtain ⟨p0, p1, p2, p3, p4⟩ := box_five y6
      have g0 := frozen_of_row _ w.heap.size 0 _ _ y6
      have g1 := frozen_of_row _ w.heap.size 1 _ _ y6
      have g2 := frozen_of_row _ w.heap.size 2 _ _ y6
      have g3 := frozen_of_row _ w.heap.size 3 _ _ y6
      have g4 := frozen_of_row _ w.heap.size 4 _ _ y6
      obtain ⟨t0, t1, t2, t3, t4⟩ := box_five x6
      have hKb : w.heap.size < base := by omega
      clear cW r0 r1 r2 r3 r4 hb6 hoW yW xR
      by_cases hwr : wrongRec (recL b) = 0
      · have HP2 : Hid (parseL b = (recL b, 0)) := by show _ = _; rw [HP.out, if_neg (fun e => e hwr)]
        rw [hwr]
        clear HP hwr
        go_wp2_with fail
        obtain ⟨d0, d1, d2, d3, d4⟩ := box_five (five_set y6 (.int .i64 e0) (.int .i64 eF) (.int .i64 eT) (.int .i64 e7) (.slice xa 32 xc))
        have ho7 := five_own ho6 hKb (.int .i64 e0) (.int .i64 eF) (.int .i64 eT) (.int .i64 e7) (.slice xa 32 xc)
        have b7 := five_below b6 (Nat.le_refl w.heap.size) (.int .i64 e0) (.int .i64 eF) (.int .i64 eT) (.int .i64 e7) (.slice xa 32 xc)
        exact bodyPost_ret (v := .tuple #[.agg #[.int .i64 e0, .int .i64 eF, .int .i64 eT, .int .i64 e7, .slice xa 32 xc], .int .i64 0]) (by simp [results, Tryd.results15, go_sem, d0, d1, d2, d3, d4]) rfl ⟨.agg #[.int .i64 e0, .int .i64 eF, .int .i64 eT, .int .i64 e7, .slice xa 32 xc], by rw [HP2.out], by rw [HP2.out]; dsimp only; rw [HRec.out]; exact ⟨xa, xc, by rw [hrl], by rw [hrl]; exact ⟨bytesAt_own ho7, hrootY, by rw [hrl]; unfold maxLen; omega⟩⟩, b7⟩
      · have HP2 : Hid (parseL b = (rec0, wrongRec (recL b))) := by show _ = _; rw [HP.out, if_pos hwr]
        have hwr' : (wrongRec (recL b) != 0) = true := by simpa using hwr
        generalize wrongRec (recL b) = er at *
        clear HP hwr
        go_wp2_with fail
        obtain ⟨d0, d1, d2, d3, d4⟩ := box_five (five_set y6 (.int .i64 0) (.int .i64 0) (.int .i64 0) (.int .i64 0) (.slice none 0 0))
        have b7 := five_below b6 (Nat.le_refl w.heap.size) (.int .i64 0) (.int .i64 0) (.int .i64 0) (.int .i64 0) (.slice none 0 0)
        exact bodyPost_ret (v := .tuple #[.agg #[.int .i64 0, .int .i64 0, .int .i64 0, .int .i64 0, .slice none 0 0], .int .i64 er]) (by simp [results, Tryd.results15, go_sem, d0, d1, d2, d3, d4]) rfl ⟨_, by rw [HP2.out], by rw [HP2.out]; exact recV_zero _, b7⟩
    · have xR := five_set xB (.int .i64 e0) (.int .i64 eF) (.int .i64 eT) (.int .i64 e7) (.slice xa 32 xc)
      have d5 : Below w0.heap.size w0 w5 := ((Below.refl w0.heap.size w0).alloc (Nat.le_refl _) _).drew.trans (hb5.mono (by show w0.heap.size ≤ (w0.alloc _).heap.size; simp))
      have dW := five_below d5 (Nat.le_refl w0.heap.size) (.int .i64 e0) (.int .i64 eF) (.int .i64 eT) (.int .i64 e7) (.slice xa 32 xc)
      have hlt : w0.heap.size < (w0.alloc (.cells #[.int .i64 0, .int .i64 0, .int .i64 0, .int .i64 0, .slice none 0 0] 40)).drew.heap.size := by show w0.heap.size < (w0.alloc _).heap.size; simp
      obtain ⟨base, hbase, hoW⟩ : ∃ base, w0.heap.size ≤ base ∧ (((((w5.setCell ⟨w0.heap.size, 0, none⟩ (.int .i64 e0)).setCell ⟨w0.heap.size, 1, none⟩ (.int .i64 eF)).setCell ⟨w0.heap.size, 2, none⟩ (.int .i64 eT)).setCell ⟨w0.heap.size, 3, none⟩ (.int .i64 e7)).setCell ⟨w0.heap.size, 4, none⟩ (.slice xa 32 xc)).ownsRow base 5 1 (.slice xa 32 xc) 32 (root.map (Value.int .u8)) := ⟨_, Nat.le_of_lt hlt, five_own ho5 hlt _ _ _ _ _⟩
      clear d5 hlt
      generalize ((((w5.setCell ⟨w0.heap.size, 0, none⟩ (.int .i64 e0)).setCell ⟨w0.heap.size, 1, none⟩ (.int .i64 eF)).setCell ⟨w0.heap.size, 2, none⟩ (.int .i64 eT)).setCell ⟨w0.heap.size, 3, none⟩ (.int .i64 e7)).setCell ⟨w0.heap.size, 4, none⟩ (.slice xa 32 xc) = W at *
      have hKR : w.heap.size < w0.heap.size := lt_heap y0
      have yW := box_below y0 dW hKR
      have bW := b0.trans (dW.mono b0.size)
      have cW := recWrongC_holds (recL b) (.agg #[.int .i64 e0, .int .i64 eF, .int .i64 eT, .int .i64 e7, .slice xa 32 xc]) W (by rw [HRec.out]; exact ⟨xa, xc, by rw [hrl], by rw [hrl]; exact ⟨bytesAt_own hoW, hrootY, by rw [hrl]; unfold maxLen; omega⟩⟩)
      obtain ⟨r0, r1, r2, r3, r4⟩ := box_five xR
      clear hCl hTk hnewR xB q0 q1 q2 q3 q4 f0 f1 f2 f3 f4 hK5 z0 z7 hv1 hv4 hw0' hw7' hbc hbc4 hbc7 hnc hnc1 hnc4 hb5 ho5 dW y0 b0
      go_wp2_with fail
      refine cW.mono ?_
      rintro e w6 ⟨rfl, hb6⟩
      have b6 := bW.trans (hb6.mono bW.size)
      have y6 := box_kept yW hb6
      have x6 := box_kept xR hb6
      have ho6 := own_below hoW hb6 (Nat.le_refl _)
      obtain ⟨p0, p1, p2, p3, p4⟩ := box_five y6
      have g0 := frozen_of_row _ w.heap.size 0 _ _ y6
      have g1 := frozen_of_row _ w.heap.size 1 _ _ y6
      have g2 := frozen_of_row _ w.heap.size 2 _ _ y6
      have g3 := frozen_of_row _ w.heap.size 3 _ _ y6
      have g4 := frozen_of_row _ w.heap.size 4 _ _ y6
      obtain ⟨t0, t1, t2, t3, t4⟩ := box_five x6
      have hKb : w.heap.size < base := by omega
      clear cW r0 r1 r2 r3 r4 hb6 hoW yW xR
      by_cases hwr : wrongRec (recL b) = 0
      · have HP2 : Hid (parseL b = (recL b, 0)) := by show _ = _; rw [HP.out, if_neg (fun e => e hwr)]
        rw [hwr]
        clear HP hwr
        go_wp2_with fail
        obtain ⟨d0, d1, d2, d3, d4⟩ := box_five (five_set y6 (.int .i64 e0) (.int .i64 eF) (.int .i64 eT) (.int .i64 e7) (.slice xa 32 xc))
        have ho7 := five_own ho6 hKb (.int .i64 e0) (.int .i64 eF) (.int .i64 eT) (.int .i64 e7) (.slice xa 32 xc)
        have b7 := five_below b6 (Nat.le_refl w.heap.size) (.int .i64 e0) (.int .i64 eF) (.int .i64 eT) (.int .i64 e7) (.slice xa 32 xc)
        exact bodyPost_ret (v := .tuple #[.agg #[.int .i64 e0, .int .i64 eF, .int .i64 eT, .int .i64 e7, .slice xa 32 xc], .int .i64 0]) (by simp [results, Tryd.results15, go_sem, d0, d1, d2, d3, d4]) rfl ⟨.agg #[.int .i64 e0, .int .i64 eF, .int .i64 eT, .int .i64 e7, .slice xa 32 xc], by rw [HP2.out], by rw [HP2.out]; dsimp only; rw [HRec.out]; exact ⟨xa, xc, by rw [hrl], by rw [hrl]; exact ⟨bytesAt_own ho7, hrootY, by rw [hrl]; unfold maxLen; omega⟩⟩, b7⟩
      · have HP2 : Hid (parseL b = (rec0, wrongRec (recL b))) := by show _ = _; rw [HP.out, if_pos hwr]
        have hwr' : (wrongRec (recL b) != 0) = true := by simpa using hwr
        generalize wrongRec (recL b) = er at *
        clear HP hwr
        go_wp2_with fail
        obtain ⟨d0, d1, d2, d3, d4⟩ := box_five (five_set y6 (.int .i64 0) (.int .i64 0) (.int .i64 0) (.int .i64 0) (.slice none 0 0))
        have b7 := five_below b6 (Nat.le_refl w.heap.size) (.int .i64 0) (.int .i64 0) (.int .i64 0) (.int .i64 0) (.slice none 0 0)
        exact bodyPost_ret (v := .tuple #[.agg #[.int .i64 0, .int .i64 0, .int .i64 0, .int .i64 0, .slice none 0 0], .int .i64 er]) (by simp [results, Tryd.results15, go_sem, d0, d1, d2, d3, d4]) rfl ⟨_, by rw [HP2.out], by rw [HP2.out]; exact recV_zero _, b7⟩
    · have xR := five_set xB (.int .i64 e0) (.int .i64 eF) (.int .i64 eT) (.int .i64 e7) (.slice xa 32 xc)
      have d5 : Below w0.heap.size w0 w5 := ((Below.refl w0.heap.size w0).alloc (Nat.le_refl _) _).drew.trans (hb5.mono (by show w0.heap.size ≤ (w0.alloc _).heap.size; simp))
      have dW := five_below d5 (Nat.le_refl w0.heap.size) (.int .i64 e0) (.int .i64 eF) (.int .i64 eT) (.int .i64 e7) (.slice xa 32 xc)
      have hlt : w0.heap.size < (w0.alloc (.cells #[.int .i64 0, .int .i64 0, .int .i64 0, .int .i64 0, .slice none 0 0] 40)).drew.heap.size := by show w0.heap.size < (w0.alloc _).heap.size; simp
      obtain ⟨base, hbase, hoW⟩ : ∃ base, w0.heap.size ≤ base ∧ (((((w5.setCell ⟨w0.heap.size, 0, none⟩ (.int .i64 e0)).setCell ⟨w0.heap.size, 1, none⟩ (.int .i64 eF)).setCell ⟨w0.heap.size, 2, none⟩ (.int .i64 eT)).setCell ⟨w0.heap.size, 3, none⟩ (.int .i64 e7)).setCell ⟨w0.heap.size, 4, none⟩ (.slice xa 32 xc)).ownsRow base 5 1 (.slice xa 32 xc) 32 (root.map (Value.int .u8)) := ⟨_, Nat.le_of_lt hlt, five_own ho5 hlt _ _ _ _ _⟩
      clear d5 hlt
      generalize ((((w5.setCell ⟨w0.heap.size, 0, none⟩ (.int .i64 e0)).setCell ⟨w0.heap.size, 1, none⟩ (.int .i64 eF)).setCell ⟨w0.heap.size, 2, none⟩ (.int .i64 eT)).setCell ⟨w0.heap.size, 3, none⟩ (.int .i64 e7)).setCell ⟨w0.heap.size, 4, none⟩ (.slice xa 32 xc) = W at *
      have hKR : w.heap.size < w0.heap.size := lt_heap y0
      have yW := box_below y0 dW hKR
      have bW := b0.trans (dW.mono b0.size)
      have cW := recWrongC_holds (recL b) (.agg #[.int .i64 e0, .int .i64 eF, .int .i64 eT, .int .i64 e7, .slice xa 32 xc]) W (by rw [HRec.out]; exact ⟨xa, xc, by rw [hrl], by rw [hrl]; exact ⟨bytesAt_own hoW, hrootY, by rw [hrl]; unfold maxLen; omega⟩⟩)
      obtain ⟨r0, r1, r2, r3, r4⟩ := box_five xR
      clear hCl hTk hnewR xB q0 q1 q2 q3 q4 f0 f1 f2 f3 f4 hK5 z0 z7 hv1 hv4 hw0' hw7' hbc hbc4 hbc7 hnc hnc1 hnc4 hb5 ho5 dW y0 b0
      go_wp2_with fail
      refine cW.mono ?_
      rintro e w6 ⟨rfl, hb6⟩
      have b6 := bW.trans (hb6.mono bW.size)
      have y6 := box_kept yW hb6
      have x6 := box_kept xR hb6
      have ho6 := own_below hoW hb6 (Nat.le_refl _)
      obtain ⟨p0, p1, p2, p3, p4⟩ := box_five y6
      have g0 := frozen_of_row _ w.heap.size 0 _ _ y6
      have g1 := frozen_of_row _ w.heap.size 1 _ _ y6
      have g2 := frozen_of_row _ w.heap.size 2 _ _ y6
      have g3 := frozen_of_row _ w.heap.size 3 _ _ y6
      have g4 := frozen_of_row _ w.heap.size 4 _ _ y6
      obtain ⟨t0, t1, t2, t3, t4⟩ := box_five x6
      have hKb : w.heap.size < base := by omega
      clear cW r0 r1 r2 r3 r4 hb6 hoW yW xR
      by_cases hwr : wrongRec (recL b) = 0
      · have HP2 : Hid (parseL b = (recL b, 0)) := by show _ = _; rw [HP.out, if_neg (fun e => e hwr)]
        rw [hwr]
        clear HP hwr
        go_wp2_with fail
        obtain ⟨d0, d1, d2, d3, d4⟩ := box_five (five_set y6 (.int .i64 e0) (.int .i64 eF) (.int .i64 eT) (.int .i64 e7) (.slice xa 32 xc))
        have ho7 := five_own ho6 hKb (.int .i64 e0) (.int .i64 eF) (.int .i64 eT) (.int .i64 e7) (.slice xa 32 xc)
        have b7 := five_below b6 (Nat.le_refl w.heap.size) (.int .i64 e0) (.int .i64 eF) (.int .i64 eT) (.int .i64 e7) (.slice xa 32 xc)
        exact bodyPost_ret (v := .tuple #[.agg #[.int .i64 e0, .int .i64 eF, .int .i64 eT, .int .i64 e7, .slice xa 32 xc], .int .i64 0]) (by simp [results, Tryd.results15, go_sem, d0, d1, d2, d3, d4]) rfl ⟨.agg #[.int .i64 e0, .int .i64 eF, .int .i64 eT, .int .i64 e7, .slice xa 32 xc], by rw [HP2.out], by rw [HP2.out]; dsimp only; rw [HRec.out]; exact ⟨xa, xc, by rw [hrl], by rw [hrl]; exact ⟨bytesAt_own ho7, hrootY, by rw [hrl]; unfold maxLen; omega⟩⟩, b7⟩
      · have HP2 : Hid (parseL b = (rec0, wrongRec (recL b))) := by show _ = _; rw [HP.out, if_pos hwr]
        have hwr' : (wrongRec (recL b) != 0) = true := by simpa using hwr
        generalize wrongRec (recL b) = er at *
        clear HP hwr
        go_wp2_with fail
        obtain ⟨d0, d1, d2, d3, d4⟩ := box_five (five_set y6 (.int .i64 0) (.int .i64 0) (.int .i64 0) (.int .i64 0) (.slice none 0 0))
        have b7 := five_below b6 (Nat.le_refl w.heap.size) (.int .i64 0) (.int .i64 0) (.int .i64 0) (.int .i64 0) (.slice none 0 0)
        exact bodyPost_ret (v := .tuple #[.agg #[.int .i64 0, .int .i64 0, .int .i64 0, .int .i64 0, .slice none 0 0], .int .i64 er]) (by simp [results, Tryd.results15, go_sem, d0, d1, d2, d3, d4]) rfl ⟨_, by rw [HP2.out], by rw [HP2.out]; exact recV_zero _, b7⟩
    · have xR := five_set xB (.int .i64 e0) (.int .i64 eF) (.int .i64 eT) (.int .i64 e7) (.slice xa 32 xc)
      have d5 : Below w0.heap.size w0 w5 := ((Below.refl w0.heap.size w0).alloc (Nat.le_refl _) _).drew.trans (hb5.mono (by show w0.heap.size ≤ (w0.alloc _).heap.size; simp))
      have dW := five_below d5 (Nat.le_refl w0.heap.size) (.int .i64 e0) (.int .i64 eF) (.int .i64 eT) (.int .i64 e7) (.slice xa 32 xc)
      have hlt : w0.heap.size < (w0.alloc (.cells #[.int .i64 0, .int .i64 0, .int .i64 0, .int .i64 0, .slice none 0 0] 40)).drew.heap.size := by show w0.heap.size < (w0.alloc _).heap.size; simp
      obtain ⟨base, hbase, hoW⟩ : ∃ base, w0.heap.size ≤ base ∧ (((((w5.setCell ⟨w0.heap.size, 0, none⟩ (.int .i64 e0)).setCell ⟨w0.heap.size, 1, none⟩ (.int .i64 eF)).setCell ⟨w0.heap.size, 2, none⟩ (.int .i64 eT)).setCell ⟨w0.heap.size, 3, none⟩ (.int .i64 e7)).setCell ⟨w0.heap.size, 4, none⟩ (.slice xa 32 xc)).ownsRow base 5 1 (.slice xa 32 xc) 32 (root.map (Value.int .u8)) := ⟨_, Nat.le_of_lt hlt, five_own ho5 hlt _ _ _ _ _⟩
      clear d5 hlt
      generalize ((((w5.setCell ⟨w0.heap.size, 0, none⟩ (.int .i64 e0)).setCell ⟨w0.heap.size, 1, none⟩ (.int .i64 eF)).setCell ⟨w0.heap.size, 2, none⟩ (.int .i64 eT)).setCell ⟨w0.heap.size, 3, none⟩ (.int .i64 e7)).setCell ⟨w0.heap.size, 4, none⟩ (.slice xa 32 xc) = W at *
      have hKR : w.heap.size < w0.heap.size := lt_heap y0
      have yW := box_below y0 dW hKR
      have bW := b0.trans (dW.mono b0.size)
      have cW := recWrongC_holds (recL b) (.agg #[.int .i64 e0, .int .i64 eF, .int .i64 eT, .int .i64 e7, .slice xa 32 xc]) W (by rw [HRec.out]; exact ⟨xa, xc, by rw [hrl], by rw [hrl]; exact ⟨bytesAt_own hoW, hrootY, by rw [hrl]; unfold maxLen; omega⟩⟩)
      obtain ⟨r0, r1, r2, r3, r4⟩ := box_five xR
      clear hCl hTk hnewR xB q0 q1 q2 q3 q4 f0 f1 f2 f3 f4 hK5 z0 z7 hv1 hv4 hw0' hw7' hbc hbc4 hbc7 hnc hnc1 hnc4 hb5 ho5 dW y0 b0
      go_wp2_with fail
      refine cW.mono ?_
      rintro e w6 ⟨rfl, hb6⟩
      have b6 := bW.trans (hb6.mono bW.size)
      have y6 := box_kept yW hb6
      have x6 := box_kept xR hb6
      have ho6 := own_below hoW hb6 (Nat.le_refl _)
      obtain ⟨p0, p1, p2, p3, p4⟩ := box_five y6
      have g0 := frozen_of_row _ w.heap.size 0 _ _ y6
      have g1 := frozen_of_row _ w.heap.size 1 _ _ y6
      have g2 := frozen_of_row _ w.heap.size 2 _ _ y6
      have g3 := frozen_of_row _ w.heap.size 3 _ _ y6
      have g4 := frozen_of_row _ w.heap.size 4 _ _ y6
      obtain ⟨t0, t1, t2, t3, t4⟩ := box_five x6
      have hKb : w.heap.size < base := by omega
      clear cW r0 r1 r2 r3 r4 hb6 hoW yW xR
      by_cases hwr : wrongRec (recL b) = 0
      · have HP2 : Hid (parseL b = (recL b, 0)) := by show _ = _; rw [HP.out, if_neg (fun e => e hwr)]
        rw [hwr]
        clear HP hwr
        go_wp2_with fail
        obtain ⟨d0, d1, d2, d3, d4⟩ := box_five (five_set y6 (.int .i64 e0) (.int .i64 eF) (.int .i64 eT) (.int .i64 e7) (.slice xa 32 xc))
        have ho7 := five_own ho6 hKb (.int .i64 e0) (.int .i64 eF) (.int .i64 eT) (.int .i64 e7) (.slice xa 32 xc)
        have b7 := five_below b6 (Nat.le_refl w.heap.size) (.int .i64 e0) (.int .i64 eF) (.int .i64 eT) (.int .i64 e7) (.slice xa 32 xc)
        exact bodyPost_ret (v := .tuple #[.agg #[.int .i64 e0, .int .i64 eF, .int .i64 eT, .int .i64 e7, .slice xa 32 xc], .int .i64 0]) (by simp [results, Tryd.results15, go_sem, d0, d1, d2, d3, d4]) rfl ⟨.agg #[.int .i64 e0, .int .i64 eF, .int .i64 eT, .int .i64 e7, .slice xa 32 xc], by rw [HP2.out], by rw [HP2.out]; dsimp only; rw [HRec.out]; exact ⟨xa, xc, by rw [hrl], by rw [hrl]; exact ⟨bytesAt_own ho7, hrootY, by rw [hrl]; unfold maxLen; omega⟩⟩, b7⟩
      · have HP2 : Hid (parseL b = (rec0, wrongRec (recL b))) := by show _ = _; rw [HP.out, if_pos hwr]
        have hwr' : (wrongRec (recL b) != 0) = true := by simpa using hwr
        generalize wrongRec (recL b) = er at *
        clear HP hwr
        go_wp2_with fail
        obtain ⟨d0, d1, d2, d3, d4⟩ := box_five (five_set y6 (.int .i64 0) (.int .i64 0) (.int .i64 0) (.int .i64 0) (.slice none 0 0))
        have b7 := five_below b6 (Nat.le_refl w.heap.size) (.int .i64 0) (.int .i64 0) (.int .i64 0) (.int .i64 0) (.slice none 0 0)
        exact bodyPost_ret (v := .tuple #[.agg #[.int .i64 0, .int .i64 0, .int .i64 0, .int .i64 0, .slice none 0 0], .int .i64 er]) (by simp [results, Tryd.results15, go_sem, d0, d1, d2, d3, d4]) rfl ⟨_, by rw [HP2.out], by rw [HP2.out]; exact recV_zero _, b7⟩
  · have HE : Hid (parseL b = (rec0, 2)) := by show _ = _; unfold parseL; rw [if_pos h40]
    have h40' : ((b.length : Int) != 40) = true := by simp; omega
    obtain ⟨v0, v1, v2, v3, v4⟩ := box_five y0
    clear h40 hb
    generalize b.length = n at *
    go_enter Tryd.func15, Tryd.ntmps15
    go_wp2_with fail
    exact bodyPost_ret (v := .tuple #[.agg #[.int .i64 0, .int .i64 0, .int .i64 0, .int .i64 0, .slice none 0 0], .int .i64 2]) (by simp [results, Tryd.results15, go_sem]) rfl ⟨_, by rw [HE.out], by rw [HE.out]; exact recV_zero _, b0⟩

end Go.Proofs.YtkjlchfmplcobaeDoor
