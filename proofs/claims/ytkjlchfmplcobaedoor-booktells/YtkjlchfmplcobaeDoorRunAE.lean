/- BookFive, BookRefParse, TreeSame, as one text. -/
import Derived.Test.YtkjlchfmplcobaeDoorRunAD
import Derived.Test.YtkjlchfmplcobaeDoorProg
import Derived.WalkKit
import Derived.WalkSpells
import Derived.WalkLawsBesides
import Derived.Deep.QuietTactic
import Derived.BigQuiet
import Derived.Deep.RegionHeld3
import Derived.BigRegion
import Derived.Test.YtkjlchfmplcobaeDoorShaSame
import Derived.Test.YtkjlchfmplcobaeDoorRunAB
/- Five cells written; old memory kept. Nothing of the program's functions is in it. -/
namespace Go.Proofs.YtkjlchfmplcobaeDoor
open Go.RowKit

/-- Five cells written. -/
theorem five_set {w : World} {R : Nat} {a b c d e : Value} {t : TypeId} (h : w.heap[R]? = some (.cells #[a, b, c, d, e] t (0, 0))) (u0 u1 u2 u3 u4 : Value) : (((((w.setCell ⟨R, 0, none⟩ u0).setCell ⟨R, 1, none⟩ u1).setCell ⟨R, 2, none⟩ u2).setCell ⟨R, 3, none⟩ u3).setCell ⟨R, 4, none⟩ u4).heap[R]? = some (.cells #[u0, u1, u2, u3, u4] t (0, 0)) := by
  have h0 := heap_setCell_same w R 0 _ t u0 h
  have h1 := heap_setCell_same _ R 1 _ t u1 h0
  have h2 := heap_setCell_same _ R 2 _ t u2 h1
  have h3 := heap_setCell_same _ R 3 _ t u3 h2
  exact heap_setCell_same _ R 4 _ t u4 h3
theorem five_below {B R : Nat} {w0 w : World} (h : Below B w0 w) (hR : B ≤ R) (u0 u1 u2 u3 u4 : Value) : Below B w0 (((((w.setCell ⟨R, 0, none⟩ u0).setCell ⟨R, 1, none⟩ u1).setCell ⟨R, 2, none⟩ u2).setCell ⟨R, 3, none⟩ u3).setCell ⟨R, 4, none⟩ u4) := ((((h.setCell hR _).setCell hR _).setCell hR _).setCell hR _).setCell hR _
theorem five_own {w : World} {base R n : Nat} {e : TypeId} {v : Value} {xs : List Value} (h : w.ownsRow base e 1 v n xs) (hR : R < base) (u0 u1 u2 u3 u4 : Value) : (((((w.setCell ⟨R, 0, none⟩ u0).setCell ⟨R, 1, none⟩ u1).setCell ⟨R, 2, none⟩ u2).setCell ⟨R, 3, none⟩ u3).setCell ⟨R, 4, none⟩ u4).ownsRow base e 1 v n xs :=
  ownsRow_setCell_below (ownsRow_setCell_below (ownsRow_setCell_below (ownsRow_setCell_below (ownsRow_setCell_below h hR _) hR _) hR _) hR _) hR _
/-- Two cells written. -/
theorem two_set {w : World} {R : Nat} {a b : Value} {t : TypeId} (h : w.heap[R]? = some (.cells #[a, b] t (0, 0))) (u0 u1 : Value) : ((w.setCell ⟨R, 0, none⟩ u0).setCell ⟨R, 1, none⟩ u1).heap[R]? = some (.cells #[u0, u1] t (0, 0)) := by
  have h0 := heap_setCell_same w R 0 _ t u0 h
  exact heap_setCell_same _ R 1 _ t u1 h0
theorem two_below {B R : Nat} {w0 w : World} (h : Below B w0 w) (hR : B ≤ R) (u0 u1 : Value) : Below B w0 ((w.setCell ⟨R, 0, none⟩ u0).setCell ⟨R, 1, none⟩ u1) := (h.setCell hR _).setCell hR _
theorem two_own {w : World} {base R n : Nat} {e : TypeId} {v : Value} {xs : List Value} (h : w.ownsRow base e 1 v n xs) (hR : R < base) (u0 u1 : Value) : ((w.setCell ⟨R, 0, none⟩ u0).setCell ⟨R, 1, none⟩ u1).ownsRow base e 1 v n xs := ownsRow_setCell_below (ownsRow_setCell_below h hR _) hR _
theorem two_far {w : World} {R k : Nat} {x : Obj} (h : w.heap[k]? = some x) (hk : k ≠ R) (u0 u1 : Value) : ((w.setCell ⟨R, 0, none⟩ u0).setCell ⟨R, 1, none⟩ u1).heap[k]? = some x := box_set_far (box_set_far h hk) hk
theorem keptB_of {w0 w' : World} (h : Below w0.heap.size w0 w') : Below w0.heap.size w0 w' ∧ ∀ b o, b < w0.heap.size → w'.cell? ⟨b, o, none⟩ = w0.cell? ⟨b, o, none⟩ := ⟨h, fun b o hlt => h.cell (p := ⟨b, o, none⟩) hlt⟩
theorem keptB_drew (w0 : World) : Below w0.heap.size w0 w0.drew ∧ ∀ b o, b < w0.heap.size → w0.drew.cell? ⟨b, o, none⟩ = w0.cell? ⟨b, o, none⟩ := keptB_of (Below.refl _ _).drew
theorem keptB_new (w0 : World) (x : Obj) : Below w0.heap.size w0 (w0.alloc x).drew ∧ ∀ b o, b < w0.heap.size → (w0.alloc x).drew.cell? ⟨b, o, none⟩ = w0.cell? ⟨b, o, none⟩ := keptB_of ((Below.refl _ _).alloc (Nat.le_refl _) _).drew
theorem keptB_below {w0 w' w'' : World} (h : Below w0.heap.size w0 w' ∧ ∀ b o, b < w0.heap.size → w'.cell? ⟨b, o, none⟩ = w0.cell? ⟨b, o, none⟩) (hb : Below w'.heap.size w' w'') : Below w0.heap.size w0 w'' ∧ ∀ b o, b < w0.heap.size → w''.cell? ⟨b, o, none⟩ = w0.cell? ⟨b, o, none⟩ := keptB_of (h.1.trans (hb.mono h.1.size))
theorem keptB_alloc {w0 w' : World} (h : Below w0.heap.size w0 w' ∧ ∀ b o, b < w0.heap.size → w'.cell? ⟨b, o, none⟩ = w0.cell? ⟨b, o, none⟩) (x : Obj) : Below w0.heap.size w0 (w'.alloc x) ∧ ∀ b o, b < w0.heap.size → (w'.alloc x).cell? ⟨b, o, none⟩ = w0.cell? ⟨b, o, none⟩ := keptB_of (h.1.alloc h.1.size _)
theorem keptB_five {w0 w : World} {R : Nat} (h : Below w0.heap.size w0 w ∧ ∀ b o, b < w0.heap.size → w.cell? ⟨b, o, none⟩ = w0.cell? ⟨b, o, none⟩) (hR : w0.heap.size ≤ R) (u0 u1 u2 u3 u4 : Value) : Below w0.heap.size w0 (((((w.setCell ⟨R, 0, none⟩ u0).setCell ⟨R, 1, none⟩ u1).setCell ⟨R, 2, none⟩ u2).setCell ⟨R, 3, none⟩ u3).setCell ⟨R, 4, none⟩ u4) ∧ ∀ b o, b < w0.heap.size → (((((w.setCell ⟨R, 0, none⟩ u0).setCell ⟨R, 1, none⟩ u1).setCell ⟨R, 2, none⟩ u2).setCell ⟨R, 3, none⟩ u3).setCell ⟨R, 4, none⟩ u4).cell? ⟨b, o, none⟩ = w0.cell? ⟨b, o, none⟩ := keptB_of (five_below h.1 hR _ _ _ _ _)

end Go.Proofs.YtkjlchfmplcobaeDoor

/- The walk of yearref5.ParseRow. -/
namespace Go.Proofs.YtkjlchfmplcobaeDoor
open Go.RowKit

set_option maxRecDepth 100000 in
set_option maxHeartbeats 1000000 in
theorem threeAt_any (b : List Int) (hby : Bytes b) (g o n c B : Nat) (k : Nat) (w : World) (hn : b.length = n) (hk : k + 2 < n) (hn4 : n ≤ 1000) (hcell : ∀ j, j < n → w.cell? ⟨g, o + j, none⟩ = some (.int .u8 (b.getD j 0))) (hB : w.cell? ⟨B, 0, none⟩ = some (.slice (some ⟨g, o, none⟩) n c)) :
    Calls Tryd.prog 40 #[.int .i64 (k : Int), .pointer (some ⟨B, 0, none⟩)] w fun e w' => e = .returned (.int .i64 (65536 * b.getD k 0 + 256 * b.getD (k + 1) 0 + b.getD (k + 2) 0)) ∧ ∃ q, w' = w.drewN q := by
  have c0 := hcell k (by omega)
  have c1 := hcell (k + 1) (by omega)
  have c2 := hcell (k + 2) (by omega)
  have y0 := hby k
  have y1 := hby (k + 1)
  have y2 := hby (k + 2)
  have j0 : (k : Int) < n := by omega
  have j1 : (k : Int) + 1 < n := by omega
  have j2 : (k : Int) + 2 < n := by omega
  clear hcell hby
  generalize b.getD k 0 = x0 at *
  generalize b.getD (k + 1) 0 = x1 at *
  generalize b.getD (k + 2) 0 = x2 at *
  obtain ⟨a0, a1⟩ := y0
  obtain ⟨a2, a3⟩ := y1
  obtain ⟨a4, a5⟩ := y2
  go_enter Tryd.func40, Tryd.ntmps40
  go_wp2_with fail
  go_quiet (fail)
  go_wp2_with fail
  go_ret
  exact ⟨rfl, _, rfl⟩
def pickV (k a b : Int) : Int := if k = 1 then a else b
set_option maxRecDepth 100000 in
set_option maxHeartbeats 4000000 in
theorem refParse_any (b : List Int) (ba : Option Addr) (bc : Nat) (w : World) (hb : Some' w (.slice ba b.length bc) b) (hb1 : b.length ≤ bc) (hb2 : bc ≤ maxLen) :
    Calls Tryd.prog 16 #[.slice ba b.length bc] w fun e w' => ∃ v, e = .returned (.tuple #[v, .int .i64 (parseL b).2]) ∧ RecV w' v (parseL b).1 ∧ Below w.heap.size w w' := by
  unfold maxLen at hb2
  have b0 : Below w.heap.size w ((w.alloc (.cells #[.slice ba b.length bc] 22)).alloc (.cells #[.int .i64 0, .int .i64 0, .int .i64 0, .int .i64 0, .slice none 0 0] 40)) := ((Below.refl _ _).alloc (Nat.le_refl _) _).alloc (by simp) _
  have x0 := box_old _ (.cells #[.int .i64 0, .int .i64 0, .int .i64 0, .int .i64 0, .slice none 0 0] 40) (box_new w #[.slice ba b.length bc] 22)
  have y0 := box_last w (.cells #[.slice ba b.length bc] 22) #[.int .i64 0, .int .i64 0, .int .i64 0, .int .i64 0, .slice none 0 0] 40
  obtain ⟨u0, -⟩ := box_cell x0
  by_cases h40 : b.length = 40
  · have HP : Hid (parseL b = if wrongRec (recL b) ≠ 0 then (rec0, wrongRec (recL b)) else (recL b, 0)) := by show _ = _; unfold parseL; rw [if_neg (fun e => e h40)]
    rw [h40] at hb hb1 b0 x0 y0 u0 ⊢
    have hby := hb.bytes
    obtain ⟨g, o, rfl, hg, hcell⟩ : ∃ g o, ba = some ⟨g, o, none⟩ ∧ g < w.heap.size ∧ ∀ j, j < 40 → w.cell? ⟨g, o + j, none⟩ = some (.int .u8 (b.getD j 0)) := by
      rcases hb.at' with ⟨e, -⟩ | ⟨g, o, c, e, h1, h2⟩
      · rw [e] at h40; cases h40
      · rw [h40] at e h2; cases e; exact ⟨g, o, rfl, h1, h2⟩
    have hrootB : ∀ C, BytesAt w (.slice (some ⟨g, o + 8, none⟩) 32 C) (b.drop 8) := fun C => by
      have hl : (b.drop 8).length = 32 := by rw [List.length_drop]; omega
      refine .inr ⟨g, o + 8, C, by rw [hl], hg, fun j hj => ?_⟩
      rw [Nat.add_assoc, hcell (8 + j) (by omega), List.getD_eq_getElem?_getD, List.getD_eq_getElem?_getD, List.getElem?_drop]
    have hrootY : Bytes (b.drop 8) := fun j => by rw [List.getD_eq_getElem?_getD, List.getElem?_drop, ← List.getD_eq_getElem?_getD]; exact hby _
    have hrl : (recL b).root.length = 32 := by unfold recL; dsimp only; rw [List.length_drop]; omega
    go_enter Tryd.func16, Tryd.ntmps16
    go_wp2_with fail
    generalize (w.alloc (.cells #[.slice (some ⟨g, o, none⟩) 40 bc] 22)).alloc (.cells #[.int .i64 0, .int .i64 0, .int .i64 0, .int .i64 0, .slice none 0 0] 40) = w0 at *
    have hc0 : ∀ j, j < 40 → w0.cell? ⟨g, o + j, none⟩ = some (.int .u8 (b.getD j 0)) := fun j hj => (b0.cell (p := ⟨g, o + j, none⟩) hg).trans (hcell j hj)
    have hT := fun (k : Nat) (hk : k + 2 < 40) w' (h : (Below w0.heap.size w0 w' ∧ ∀ b o, b < w0.heap.size → w'.cell? ⟨b, o, none⟩ = w0.cell? ⟨b, o, none⟩)) => (threeAt_any b hby g o 40 bc w.heap.size k w' h40 hk (by omega) (fun j hj => (h.2 g (o + j) (by have := b0.size; omega)).trans (hc0 j hj)) ((h.2 w.heap.size 0 (lt_heap x0)).trans u0)).mono (R' := fun e w'' => e = .returned (.int .i64 (65536 * b.getD k 0 + 256 * b.getD (k + 1) 0 + b.getD (k + 2) 0)) ∧ Below w'.heap.size w' w'') (by rintro e w'' ⟨rfl, q, rfl⟩; exact ⟨rfl, below_drewN' (Below.refl _ _) q⟩)
    have hTk : ∀ (kv : Int) w', (kv = 1 ∨ kv = 4) → (Below w0.heap.size w0 w' ∧ ∀ b o, b < w0.heap.size → w'.cell? ⟨b, o, none⟩ = w0.cell? ⟨b, o, none⟩) → Calls Tryd.prog 40 #[.int .i64 kv, .pointer (some ⟨w.heap.size, 0, none⟩)] w' fun e w'' => e = .returned (.int .i64 (pickV kv (65536 * b.getD 1 0 + 256 * b.getD (1 + 1) 0 + b.getD (1 + 2) 0) (65536 * b.getD 4 0 + 256 * b.getD (4 + 1) 0 + b.getD (4 + 2) 0))) ∧ Below w'.heap.size w' w'' := fun kv w' h1 h => by
      rcases h1 with rfl | rfl
      · exact hT 1 (by omega) w' h
      · exact hT 4 (by omega) w' h
    have z0 := hc0 0 (by omega)
    have z7 := hc0 7 (by omega)
    have n0 := hby 0
    have n7 := hby 7
    rw [Nat.add_zero] at z0
    have kg : g < w0.heap.size := by have := b0.size; omega
    have kb : w.heap.size < w0.heap.size := lt_heap x0
    have hnc : ¬ bc = 8 := by omega
    have hbc : (8 : Int) ≤ bc := by omega
    have HRec : Hid (recL b = ⟨b.getD 0 0, 65536 * b.getD 1 0 + 256 * b.getD (1 + 1) 0 + b.getD (1 + 2) 0, 65536 * b.getD 4 0 + 256 * b.getD (4 + 1) 0 + b.getD (4 + 2) 0, b.getD 7 0, b.drop 8⟩) := rfl
    clear hc0 hcell hT
    generalize b.getD 0 0 = e0 at *
    generalize b.getD 7 0 = e7 at *
    generalize 65536 * b.getD 1 0 + 256 * b.getD (1 + 1) 0 + b.getD (1 + 2) 0 = eF at *
    generalize 65536 * b.getD 4 0 + 256 * b.getD (4 + 1) 0 + b.getD (4 + 2) 0 = eT at *
    obtain ⟨n00, n01⟩ := n0
    obtain ⟨n70, n71⟩ := n7
    have hv1 : pickV 1 eF eT = eF := rfl
    have hw0' : IntKind.i64.wrap e0 = e0 := by rw [IntKind.wrap_i64]; omega
    have hw7' : IntKind.i64.wrap e7 = e7 := by rw [IntKind.wrap_i64]; omega
    have hv4 : pickV 4 eF eT = eT := rfl
    have hrl' : (b.drop 8).length = 32 := by rw [List.length_drop]; omega
    have hnewR : (w0.alloc (.cells #[.int .i64 0, .int .i64 0, .int .i64 0, .int .i64 0, .slice none 0 0] 40)).drew.heap[w0.heap.size]? = some (.cells #[.int .i64 0, .int .i64 0, .int .i64 0, .int .i64 0, .slice none 0 0] 40 (0, 0)) := box_new w0 #[.int .i64 0, .int .i64 0, .int .i64 0, .int .i64 0, .slice none 0 0] 40
    go_region_held3 (fun w' => Below w0.heap.size w0 w' ∧ ∀ b o, b < w0.heap.size → w'.cell? ⟨b, o, none⟩ = w0.cell? ⟨b, o, none⟩) (first | (with_reducible assumption) | (with_reducible exact hK) | (with_reducible exact keptB_drew w0) | (with_reducible exact keptB_new w0 _) | (with_reducible exact keptB_alloc hK _) | (with_reducible exact keptB_five hK (Nat.le_refl _) _ _ _ _ _) | (with_reducible exact keptB_five hK hK0.1.size _ _ _ _ _)) (first | (go_at_call_of 40 (Value.int IntKind.i64 1); refine (hTk _ _ (.inl rfl) (by assumption)).mono ?_; rintro e w4 ⟨rfl, hb4⟩; have hK0 := keptB_below (w0 := w0) (by assumption) hb4; have hK := hK0; first | (have xA := (by with_reducible exact box_kept (w := (w0.alloc (.cells #[.int .i64 0, .int .i64 0, .int .i64 0, .int .i64 0, .slice none 0 0] 40)).drew) hnewR hb4)) | (have xA := box_new w4 #[.int .i64 0, .int .i64 0, .int .i64 0, .int .i64 0, .slice none 0 0] 40)) | (go_at_call_of 40 (Value.int IntKind.i64 4); refine (hTk _ _ (.inr rfl) (by assumption)).mono ?_; rintro e w5 ⟨rfl, hb5⟩; have hK := keptB_below (w0 := w0) (by assumption) hb5; first | (have xB := (by with_reducible exact box_kept xA hb5); obtain ⟨q0, q1, q2, q3, q4⟩ := box_five xB; have f0 := frozen_of_row _ _ 0 _ _ xB; have f1 := frozen_of_row _ _ 1 _ _ xB; have f2 := frozen_of_row _ _ 2 _ _ xB; have f3 := frozen_of_row _ _ 3 _ _ xB; have f4 := frozen_of_row _ _ 4 _ _ xB) | (have xB := box_new w5 #[.int .i64 0, .int .i64 0, .int .i64 0, .int .i64 0, .slice none 0 0] 40; obtain ⟨q0, q1, q2, q3, q4⟩ := box_five xB; have f0 := frozen_of_row _ _ 0 _ _ xB; have f1 := frozen_of_row _ _ 1 _ _ xB; have f2 := frozen_of_row _ _ 2 _ _ xB; have f3 := frozen_of_row _ _ 3 _ _ xB; have f4 := frozen_of_row _ _ 4 _ _ xB)))
    · have xR := box_new w5 #[.int .i64 e0, .int .i64 eF, .int .i64 eT, .int .i64 e7, .slice (some ⟨g, o + 8, none⟩) 32 (bc - 8)] 40
      have dW : Below w0.heap.size w0 (w5.alloc (.cells #[.int .i64 e0, .int .i64 eF, .int .i64 eT, .int .i64 e7, .slice (some ⟨g, o + 8, none⟩) 32 (bc - 8)] 40)) := hK.1.alloc hK.1.size _
      generalize w5.alloc (.cells #[.int .i64 e0, .int .i64 eF, .int .i64 eT, .int .i64 e7, .slice (some ⟨g, o + 8, none⟩) 32 (bc - 8)] 40) = W at *
      have hKR : w.heap.size + 1 < w0.heap.size := lt_heap y0
      have yW := box_below y0 dW hKR
      have bW := b0.trans (dW.mono b0.size)
      have hrW : ∀ w', Below w.heap.size w w' → RecV w' (.agg #[.int .i64 e0, .int .i64 eF, .int .i64 eT, .int .i64 e7, .slice (some ⟨g, o + 8, none⟩) 32 (bc - 8)]) (recL b) := fun w' h => by
        rw [HRec.out]
        exact ⟨_, bc - 8, by rw [hrl'], by rw [hrl']; exact ⟨(hrootB _).below (Nat.le_refl _) h, hrootY, by rw [hrl']; unfold maxLen; omega⟩⟩
      have cW := refRecWrong_any (recL b) (.agg #[.int .i64 e0, .int .i64 eF, .int .i64 eT, .int .i64 e7, .slice (some ⟨g, o + 8, none⟩) 32 (bc - 8)]) W (hrW _ bW)
      obtain ⟨r0, r1, r2, r3, r4⟩ := box_five xR
      clear hTk hnewR xA xB q0 q1 q2 q3 q4 f0 f1 f2 f3 f4 hK z0 z7 hv1 hv4 hw0' hw7' hbc hnc hb5 dW y0 b0 x0 u0
      go_wp2_with fail
      refine cW.mono ?_
      rintro e w6 ⟨rfl, hb6⟩
      have b6 := bW.trans (hb6.mono bW.size)
      have y6 := box_kept yW hb6
      have x6 := box_kept xR hb6
      obtain ⟨p0, p1, p2, p3, p4⟩ := box_five y6
      have g0 := frozen_of_row _ (w.heap.size + 1) 0 _ _ y6
      have g1 := frozen_of_row _ (w.heap.size + 1) 1 _ _ y6
      have g2 := frozen_of_row _ (w.heap.size + 1) 2 _ _ y6
      have g3 := frozen_of_row _ (w.heap.size + 1) 3 _ _ y6
      have g4 := frozen_of_row _ (w.heap.size + 1) 4 _ _ y6
      obtain ⟨t0, t1, t2, t3, t4⟩ := box_five x6
      clear cW r0 r1 r2 r3 r4 hb6 yW xR
      by_cases hwr : wrongRec (recL b) = 0
      · have HP2 : Hid (parseL b = (recL b, 0)) := by show _ = _; rw [HP.out, if_neg (fun e => e hwr)]
        rw [hwr]
        clear HP hwr
        go_wp2_with fail
        obtain ⟨d0, d1, d2, d3, d4⟩ := box_five (five_set y6 (.int .i64 e0) (.int .i64 eF) (.int .i64 eT) (.int .i64 e7) (.slice (some ⟨g, o + 8, none⟩) 32 (bc - 8)))
        have b7 := five_below b6 (Nat.le_succ w.heap.size) (.int .i64 e0) (.int .i64 eF) (.int .i64 eT) (.int .i64 e7) (.slice (some ⟨g, o + 8, none⟩) 32 (bc - 8))
        exact bodyPost_ret (v := .tuple #[.agg #[.int .i64 e0, .int .i64 eF, .int .i64 eT, .int .i64 e7, .slice (some ⟨g, o + 8, none⟩) 32 (bc - 8)], .int .i64 0]) (by simp [results, Tryd.results16, go_sem, d0, d1, d2, d3, d4]) rfl ⟨.agg #[.int .i64 e0, .int .i64 eF, .int .i64 eT, .int .i64 e7, .slice (some ⟨g, o + 8, none⟩) 32 (bc - 8)], by rw [HP2.out], by rw [HP2.out]; exact hrW _ b7, b7⟩
      · have HP2 : Hid (parseL b = (rec0, wrongRec (recL b))) := by show _ = _; rw [HP.out, if_pos hwr]
        have hwr' : (wrongRec (recL b) != 0) = true := by simpa using hwr
        generalize wrongRec (recL b) = er at *
        clear HP hwr
        go_wp2_with fail
        obtain ⟨d0, d1, d2, d3, d4⟩ := box_five (five_set y6 (.int .i64 0) (.int .i64 0) (.int .i64 0) (.int .i64 0) (.slice none 0 0))
        have b7 := five_below b6 (Nat.le_succ w.heap.size) (.int .i64 0) (.int .i64 0) (.int .i64 0) (.int .i64 0) (.slice none 0 0)
        exact bodyPost_ret (v := .tuple #[.agg #[.int .i64 0, .int .i64 0, .int .i64 0, .int .i64 0, .slice none 0 0], .int .i64 er]) (by simp [results, Tryd.results16, go_sem, d0, d1, d2, d3, d4]) rfl ⟨_, by rw [HP2.out], by rw [HP2.out]; exact recV_zero _, b7⟩
    · have xR := five_set xB (.int .i64 e0) (.int .i64 eF) (.int .i64 eT) (.int .i64 e7) (.slice (some ⟨g, o + 8, none⟩) 32 (bc - 8))
      have dW := five_below hK.1 hK0.1.size (.int .i64 e0) (.int .i64 eF) (.int .i64 eT) (.int .i64 e7) (.slice (some ⟨g, o + 8, none⟩) 32 (bc - 8))
      generalize ((((w5.setCell ⟨w4.heap.size, 0, none⟩ (.int .i64 e0)).setCell ⟨w4.heap.size, 1, none⟩ (.int .i64 eF)).setCell ⟨w4.heap.size, 2, none⟩ (.int .i64 eT)).setCell ⟨w4.heap.size, 3, none⟩ (.int .i64 e7)).setCell ⟨w4.heap.size, 4, none⟩ (.slice (some ⟨g, o + 8, none⟩) 32 (bc - 8)) = W at *
      have hKR : w.heap.size + 1 < w0.heap.size := lt_heap y0
      have yW := box_below y0 dW hKR
      have bW := b0.trans (dW.mono b0.size)
      have hrW : ∀ w', Below w.heap.size w w' → RecV w' (.agg #[.int .i64 e0, .int .i64 eF, .int .i64 eT, .int .i64 e7, .slice (some ⟨g, o + 8, none⟩) 32 (bc - 8)]) (recL b) := fun w' h => by
        rw [HRec.out]
        exact ⟨_, bc - 8, by rw [hrl'], by rw [hrl']; exact ⟨(hrootB _).below (Nat.le_refl _) h, hrootY, by rw [hrl']; unfold maxLen; omega⟩⟩
      have cW := refRecWrong_any (recL b) (.agg #[.int .i64 e0, .int .i64 eF, .int .i64 eT, .int .i64 e7, .slice (some ⟨g, o + 8, none⟩) 32 (bc - 8)]) W (hrW _ bW)
      obtain ⟨r0, r1, r2, r3, r4⟩ := box_five xR
      clear hTk hnewR xA xB q0 q1 q2 q3 q4 f0 f1 f2 f3 f4 hK z0 z7 hv1 hv4 hw0' hw7' hbc hnc hb5 dW y0 b0 x0 u0
      go_wp2_with fail
      refine cW.mono ?_
      rintro e w6 ⟨rfl, hb6⟩
      have b6 := bW.trans (hb6.mono bW.size)
      have y6 := box_kept yW hb6
      have x6 := box_kept xR hb6
      obtain ⟨p0, p1, p2, p3, p4⟩ := box_five y6
      have g0 := frozen_of_row _ (w.heap.size + 1) 0 _ _ y6
      have g1 := frozen_of_row _ (w.heap.size + 1) 1 _ _ y6
      have g2 := frozen_of_row _ (w.heap.size + 1) 2 _ _ y6
      have g3 := frozen_of_row _ (w.heap.size + 1) 3 _ _ y6
      have g4 := frozen_of_row _ (w.heap.size + 1) 4 _ _ y6
      obtain ⟨t0, t1, t2, t3, t4⟩ := box_five x6
      clear cW r0 r1 r2 r3 r4 hb6 yW xR
      by_cases hwr : wrongRec (recL b) = 0
      · have HP2 : Hid (parseL b = (recL b, 0)) := by show _ = _; rw [HP.out, if_neg (fun e => e hwr)]
        rw [hwr]
        clear HP hwr
        go_wp2_with fail
        obtain ⟨d0, d1, d2, d3, d4⟩ := box_five (five_set y6 (.int .i64 e0) (.int .i64 eF) (.int .i64 eT) (.int .i64 e7) (.slice (some ⟨g, o + 8, none⟩) 32 (bc - 8)))
        have b7 := five_below b6 (Nat.le_succ w.heap.size) (.int .i64 e0) (.int .i64 eF) (.int .i64 eT) (.int .i64 e7) (.slice (some ⟨g, o + 8, none⟩) 32 (bc - 8))
        exact bodyPost_ret (v := .tuple #[.agg #[.int .i64 e0, .int .i64 eF, .int .i64 eT, .int .i64 e7, .slice (some ⟨g, o + 8, none⟩) 32 (bc - 8)], .int .i64 0]) (by simp [results, Tryd.results16, go_sem, d0, d1, d2, d3, d4]) rfl ⟨.agg #[.int .i64 e0, .int .i64 eF, .int .i64 eT, .int .i64 e7, .slice (some ⟨g, o + 8, none⟩) 32 (bc - 8)], by rw [HP2.out], by rw [HP2.out]; exact hrW _ b7, b7⟩
      · have HP2 : Hid (parseL b = (rec0, wrongRec (recL b))) := by show _ = _; rw [HP.out, if_pos hwr]
        have hwr' : (wrongRec (recL b) != 0) = true := by simpa using hwr
        generalize wrongRec (recL b) = er at *
        clear HP hwr
        go_wp2_with fail
        obtain ⟨d0, d1, d2, d3, d4⟩ := box_five (five_set y6 (.int .i64 0) (.int .i64 0) (.int .i64 0) (.int .i64 0) (.slice none 0 0))
        have b7 := five_below b6 (Nat.le_succ w.heap.size) (.int .i64 0) (.int .i64 0) (.int .i64 0) (.int .i64 0) (.slice none 0 0)
        exact bodyPost_ret (v := .tuple #[.agg #[.int .i64 0, .int .i64 0, .int .i64 0, .int .i64 0, .slice none 0 0], .int .i64 er]) (by simp [results, Tryd.results16, go_sem, d0, d1, d2, d3, d4]) rfl ⟨_, by rw [HP2.out], by rw [HP2.out]; exact recV_zero _, b7⟩
    · have xR := five_set xB (.int .i64 e0) (.int .i64 eF) (.int .i64 eT) (.int .i64 e7) (.slice (some ⟨g, o + 8, none⟩) 32 (bc - 8))
      have dW := five_below hK.1 (Nat.le_refl w0.heap.size) (.int .i64 e0) (.int .i64 eF) (.int .i64 eT) (.int .i64 e7) (.slice (some ⟨g, o + 8, none⟩) 32 (bc - 8))
      generalize ((((w5.setCell ⟨w0.heap.size, 0, none⟩ (.int .i64 e0)).setCell ⟨w0.heap.size, 1, none⟩ (.int .i64 eF)).setCell ⟨w0.heap.size, 2, none⟩ (.int .i64 eT)).setCell ⟨w0.heap.size, 3, none⟩ (.int .i64 e7)).setCell ⟨w0.heap.size, 4, none⟩ (.slice (some ⟨g, o + 8, none⟩) 32 (bc - 8)) = W at *
      have hKR : w.heap.size + 1 < w0.heap.size := lt_heap y0
      have yW := box_below y0 dW hKR
      have bW := b0.trans (dW.mono b0.size)
      have hrW : ∀ w', Below w.heap.size w w' → RecV w' (.agg #[.int .i64 e0, .int .i64 eF, .int .i64 eT, .int .i64 e7, .slice (some ⟨g, o + 8, none⟩) 32 (bc - 8)]) (recL b) := fun w' h => by
        rw [HRec.out]
        exact ⟨_, bc - 8, by rw [hrl'], by rw [hrl']; exact ⟨(hrootB _).below (Nat.le_refl _) h, hrootY, by rw [hrl']; unfold maxLen; omega⟩⟩
      have cW := refRecWrong_any (recL b) (.agg #[.int .i64 e0, .int .i64 eF, .int .i64 eT, .int .i64 e7, .slice (some ⟨g, o + 8, none⟩) 32 (bc - 8)]) W (hrW _ bW)
      obtain ⟨r0, r1, r2, r3, r4⟩ := box_five xR
      clear hTk hnewR xA xB q0 q1 q2 q3 q4 f0 f1 f2 f3 f4 hK z0 z7 hv1 hv4 hw0' hw7' hbc hnc hb5 dW y0 b0 x0 u0
      go_wp2_with fail
      refine cW.mono ?_
      rintro e w6 ⟨rfl, hb6⟩
      have b6 := bW.trans (hb6.mono bW.size)
      have y6 := box_kept yW hb6
      have x6 := box_kept xR hb6
      obtain ⟨p0, p1, p2, p3, p4⟩ := box_five y6
      have g0 := frozen_of_row _ (w.heap.size + 1) 0 _ _ y6
      have g1 := frozen_of_row _ (w.heap.size + 1) 1 _ _ y6
      have g2 := frozen_of_row _ (w.heap.size + 1) 2 _ _ y6
      have g3 := frozen_of_row _ (w.heap.size + 1) 3 _ _ y6
      have g4 := frozen_of_row _ (w.heap.size + 1) 4 _ _ y6
      obtain ⟨t0, t1, t2, t3, t4⟩ := box_five x6
      clear cW r0 r1 r2 r3 r4 hb6 yW xR
      by_cases hwr : wrongRec (recL b) = 0
      · have HP2 : Hid (parseL b = (recL b, 0)) := by show _ = _; rw [HP.out, if_neg (fun e => e hwr)]
        rw [hwr]
        clear HP hwr
        go_wp2_with fail
        obtain ⟨d0, d1, d2, d3, d4⟩ := box_five (five_set y6 (.int .i64 e0) (.int .i64 eF) (.int .i64 eT) (.int .i64 e7) (.slice (some ⟨g, o + 8, none⟩) 32 (bc - 8)))
        have b7 := five_below b6 (Nat.le_succ w.heap.size) (.int .i64 e0) (.int .i64 eF) (.int .i64 eT) (.int .i64 e7) (.slice (some ⟨g, o + 8, none⟩) 32 (bc - 8))
        exact bodyPost_ret (v := .tuple #[.agg #[.int .i64 e0, .int .i64 eF, .int .i64 eT, .int .i64 e7, .slice (some ⟨g, o + 8, none⟩) 32 (bc - 8)], .int .i64 0]) (by simp [results, Tryd.results16, go_sem, d0, d1, d2, d3, d4]) rfl ⟨.agg #[.int .i64 e0, .int .i64 eF, .int .i64 eT, .int .i64 e7, .slice (some ⟨g, o + 8, none⟩) 32 (bc - 8)], by rw [HP2.out], by rw [HP2.out]; exact hrW _ b7, b7⟩
      · have HP2 : Hid (parseL b = (rec0, wrongRec (recL b))) := by show _ = _; rw [HP.out, if_pos hwr]
        have hwr' : (wrongRec (recL b) != 0) = true := by simpa using hwr
        generalize wrongRec (recL b) = er at *
        clear HP hwr
        go_wp2_with fail
        obtain ⟨d0, d1, d2, d3, d4⟩ := box_five (five_set y6 (.int .i64 0) (.int .i64 0) (.int .i64 0) (.int .i64 0) (.slice none 0 0))
        have b7 := five_below b6 (Nat.le_succ w.heap.size) (.int .i64 0) (.int .i64 0) (.int .i64 0) (.int .i64 0) (.slice none 0 0)
        exact bodyPost_ret (v := .tuple #[.agg #[.int .i64 0, .int .i64 0, .int .i64 0, .int .i64 0, .slice none 0 0], .int .i64 er]) (by simp [results, Tryd.results16, go_sem, d0, d1, d2, d3, d4]) rfl ⟨_, by rw [HP2.out], by rw [HP2.out]; exact recV_zero _, b7⟩
  · have HE : Hid (parseL b = (rec0, 2)) := by show _ = _; unfold parseL; rw [if_pos h40]
    have h40' : ((b.length : Int) != 40) = true := by simp; omega
    have q := recV_zero
    obtain ⟨v0, v1, v2, v3, v4⟩ := box_five y0
    clear h40 hb
    generalize b.length = n at *
    go_enter Tryd.func16, Tryd.ntmps16
    go_wp2_with fail
    exact bodyPost_ret (v := .tuple #[.agg #[.int .i64 0, .int .i64 0, .int .i64 0, .int .i64 0, .slice none 0 0], .int .i64 2]) (by simp [results, Tryd.results16, go_sem]) rfl ⟨_, by rw [HE.out], by rw [HE.out]; exact recV_zero _, b0⟩

end Go.Proofs.YtkjlchfmplcobaeDoor

/- The walk of yearref2.Same: two lists of bytes' lists. -/
namespace Go.Proofs.YtkjlchfmplcobaeDoor
open Go.RowKit

set_option maxRecDepth 100000 in
set_option maxHeartbeats 1000000 in
theorem refSame_any (L1 L2 : List (List Int)) (v1 v2 : Value) (w : World) (h1 : PartsAt w v1 L1) (h2 : PartsAt w v2 L2) (hm1 : L1.length ≤ maxLen) (hs1 : ∀ j, (L1.getD j []).length ≤ maxLen) :
    Calls Tryd.prog 24 #[v1, v2] w fun e w' => e = .returned (.bool (decide (L1 = L2))) ∧ ∃ q, w' = w.drewN q := by
  obtain ⟨a1, c1, rfl, hc1⟩ := h1.form
  obtain ⟨a2, c2, rfl, hc2⟩ := h2.form
  unfold maxLen at hm1
  by_cases hne : L1.length = L2.length
  · have hq : ((L1.length : Int) != (L2.length : Int)) = false := by rw [hne]; simp
    obtain ⟨n, hn⟩ : ∃ n, L1.length = n := ⟨_, rfl⟩
    have hn2 : L2.length = n := by omega
    have HN1 : Hid (L1.length = n) := hn
    have HN2 : Hid (L2.length = n) := hn2
    rw [hn] at hm1 hc1 hq
    rw [hn2] at hc2 hq
    rw [hn, hn2]
    clear hn hn2 hne h1 h2
    go_enter Tryd.func24, Tryd.ntmps24
    go_wp2
    go_loopw [13] (fun i wr => ∃ k : Nat, k ≤ n ∧ i = .int .i64 k ∧ Hid (∀ j, j < k → L1.getD j [] = L2.getD j []) ∧ Dr w wr) (fun i _ => n - (intOf i).toNat)
    case atStart => exact ⟨0, Nat.zero_le _, rfl, (fun j hj => absurd hj (Nat.not_lt_zero _)), ⟨0, rfl⟩⟩
    case round =>
      obtain ⟨k, hk, rfl, HE, HD⟩ := hrel
      by_cases hlt : k < n
      · obtain ⟨b1, o1, rfl, -, hp1⟩ := hc1.resolve_left (by omega)
        obtain ⟨b2, o2, rfl, -, hp2⟩ := hc2.resolve_left (by omega)
        obtain ⟨pa, pc, x1, B1⟩ := hp1 k hlt
        obtain ⟨ra, rc, x2, B2⟩ := hp2 k hlt
        have y1 : wr.cell? ⟨b1, o1 + k, none⟩ = some (.slice pa (L1.getD k []).length pc) := by obtain ⟨q, e⟩ := HD; rw [e]; exact x1
        have y2 : wr.cell? ⟨b2, o2 + k, none⟩ = some (.slice ra (L2.getD k []).length rc) := by obtain ⟨q, e⟩ := HD; rw [e]; exact x2
        have D1 : ∀ q, BytesAt (wr.drewN q) (.slice pa (L1.getD k []).length pc) (L1.getD k []) := fun q => by obtain ⟨q1, e⟩ := HD; rw [e]; exact B1.below (Nat.le_refl _) (below_drewN (below_drewN (Below.refl _ _) q1) q)
        have D2 : ∀ q, BytesAt (wr.drewN q) (.slice ra (L2.getD k []).length rc) (L2.getD k []) := fun q => by obtain ⟨q1, e⟩ := HD; rw [e]; exact B2.below (Nat.le_refl _) (below_drewN (below_drewN (Below.refl _ _) q1) q)
        have hl1 := hs1 k
        have HN : Hid (L1.getD k [] = L2.getD k [] → ∀ j, j < k + 1 → L1.getD j [] = L2.getD j []) := fun h j hj => by
          by_cases e : j = k
          · rw [e]; exact h
          · exact HE.out j (by omega)
        have HF : Hid (L1.getD k [] ≠ L2.getD k [] → decide (L1 = L2) = false) := fun h => by
          rw [decide_eq_false_iff_not]; intro e; exact h (by rw [e])
        clear hc1 hc2 hp1 hp2 x1 x2 B1 B2 HE hs1
        generalize L1.getD k [] = z1 at *
        generalize L2.getD k [] = z2 at *
        have i1 : (k : Int) < (n : Int) := by omega
        by_cases hzz : z1 = z2
        · have hd : decide (z1 = z2) = true := by simpa using hzz
          have HN' : Hid (∀ j, j < k + 1 → L1.getD j [] = L2.getD j []) := HN.out hzz
          have HS : ∀ q, Calls Tryd.prog 10 #[.slice pa z1.length pc, .slice ra z2.length rc] (wr.drewN q) (fun e w' => e = .returned (.bool true) ∧ ∃ m, w' = (wr.drewN q).drewN m) := fun q => by
            have := same_any z1 z2 _ _ _ (D1 q) (D2 q) hl1
            rwa [hd] at this
          clear HN HF hd hzz D1 D2
          go_wp2_with fail
          go_quiet ((go_at_call 10; exact Calls.quiet_of (HS _)))
          go_wp2_with fail
          go_roundw
          case rel => exact ⟨k + 1, by omega, by go_num, HN', HD.step _⟩
          case measure => simp [intOf]; omega
        · have hd : decide (z1 = z2) = false := by simpa using hzz
          have HF' : Hid (decide (L1 = L2) = false) := HF.out hzz
          have HS : ∀ q, Calls Tryd.prog 10 #[.slice pa z1.length pc, .slice ra z2.length rc] (wr.drewN q) (fun e w' => e = .returned (.bool false) ∧ ∃ m, w' = (wr.drewN q).drewN m) := fun q => by
            have := same_any z1 z2 _ _ _ (D1 q) (D2 q) hl1
            rwa [hd] at this
          clear HN HF hd hzz D1 D2
          go_wp2_with fail
          go_quiet ((go_at_call 10; exact Calls.quiet_of (HS _)))
          go_wp2_with fail
          go_ret
          exact ⟨by rw [HF'.out]; rfl, HD.step _⟩
      · obtain rfl : k = n := by omega
        obtain ⟨q0, rfl⟩ := HD
        have HT : decide (L1 = L2) = true := by
          rw [decide_eq_true_iff]
          apply List.ext_getElem (by have := HN1.out; have := HN2.out; omega)
          intro j hj1 hj2
          have := HE.out j (by have := HN1.out; omega)
          rwa [List.getD_eq_getElem?_getD, List.getElem?_eq_getElem hj1, List.getD_eq_getElem?_getD, List.getElem?_eq_getElem hj2] at this
        clear HE
        go_wp2
        go_ret
        exact ⟨by rw [HT]; rfl, q0, rfl⟩
  · have hq : ((L1.length : Int) != (L2.length : Int)) = true := by simp; omega
    have HF : decide (L1 = L2) = false := by rw [decide_eq_false_iff_not]; intro e; exact hne (by rw [e])
    rw [HF]
    go_enter Tryd.func24, Tryd.ntmps24
    go_wp2
    go_ret
    exact ⟨rfl, 0, rfl⟩

end Go.Proofs.YtkjlchfmplcobaeDoor
