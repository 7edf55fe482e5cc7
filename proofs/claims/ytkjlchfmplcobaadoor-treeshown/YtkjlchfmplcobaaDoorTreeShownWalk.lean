/- The walk of the law TreeShown. -/
import Derived.Test.YtkjlchfmplcobaaDoorProg
import Derived.Test.YtkjlchfmplcobaaDoorTreeFace
import Derived.Test.YtkjlchfmplcobaaDoorTreeRefShow
import Derived.WalkKit
import Derived.WalkSpells
import Derived.WalkLawsBesides
import Derived.Deep.RegionHeld3
import Derived.BigRegion
namespace Go.Proofs.YtkjlchfmplcobaaDoor
open Go.RowKit

set_option maxRecDepth 100000 in
set_option maxHeartbeats 2000000 in
theorem shown_any (hS : StandsC) (hG : GrewC) (size : Int) (root b : List Int) (i : Int) (p : List (List Int)) (osz : Int) (oroot : List Int) (q : List (List Int)) (ra : Option Addr) (rc : Nat) (bv : Value) (a : Option Addr) (n c : Nat) (oa : Option Addr) (oc : Nat) (qa : Option Addr) (qn qc : Nat) (w : World)
    (hR : Ready w) (hr : Some' w (.slice ra root.length rc) root) (hb : Some' w bv b) (hp : Lists w a n c p) (ho : Some' w (.slice oa oroot.length oc) oroot) (hq : Lists w qa qn qc q) :
    Calls Tryd.prog 8 #[.agg #[.int .i64 size, .slice ra root.length rc], bv, .int .i64 i, .slice a n c, .agg #[.int .i64 osz, .slice oa oroot.length oc], .slice qa qn qc] w fun e w' => e = .returned (.bool true) ∧ Below w.heap.size w w' := by
  have hW : Below w.heap.size w ((w.alloc (.cells #[.int .i64 size, .slice ra root.length rc] 54)).alloc (.cells #[.int .i64 osz, .slice oa oroot.length oc] 54)) := ((Below.refl _ _).alloc (Nat.le_refl _) _).alloc (by simp) _
  have z0 : ((w.alloc (.cells #[.int .i64 size, .slice ra root.length rc] 54)).alloc (.cells #[.int .i64 osz, .slice oa oroot.length oc] 54)).cell? ⟨w.heap.size, 0, none⟩ = some (.int .i64 size) := by rw [old_cell _ _ _ _ (by simp), new_cell _ _ _ 0 (by simp)]; rfl
  have z1 : ((w.alloc (.cells #[.int .i64 size, .slice ra root.length rc] 54)).alloc (.cells #[.int .i64 osz, .slice oa oroot.length oc] 54)).cell? ⟨w.heap.size, 1, none⟩ = some (.slice ra root.length rc) := by rw [old_cell _ _ _ _ (by simp), new_cell _ _ _ 1 (by simp)]; rfl
  have z2 : ((w.alloc (.cells #[.int .i64 size, .slice ra root.length rc] 54)).alloc (.cells #[.int .i64 osz, .slice oa oroot.length oc] 54)).cell? ⟨w.heap.size + 1, 0, none⟩ = some (.int .i64 osz) := by simp
  have z3 : ((w.alloc (.cells #[.int .i64 size, .slice ra root.length rc] 54)).alloc (.cells #[.int .i64 osz, .slice oa oroot.length oc] 54)).cell? ⟨w.heap.size + 1, 1, none⟩ = some (.slice oa oroot.length oc) := by simp
  have hsz : w.heap.size + 1 < ((w.alloc (.cells #[.int .i64 size, .slice ra root.length rc] 54)).alloc (.cells #[.int .i64 osz, .slice oa oroot.length oc] 54)).heap.size := by simp
  go_enter Tryd.func8, Tryd.ntmps8
  go_wp2_with fail
  generalize ((w.alloc (.cells #[.int .i64 size, .slice ra root.length rc] 54)).alloc (.cells #[.int .i64 osz, .slice oa oroot.length oc] 54)) = W at *
  have c1 : ∀ w1, Below W.heap.size W w1 → _ := fun w1 h => hS size root b i p (.slice ra root.length rc) bv a n c w1 (hR.below (hW.trans (h.mono (by omega)))) (hr.below (hW.trans (h.mono (by omega)))) (hb.below (hW.trans (h.mono (by omega)))) (hp.below (hW.trans (h.mono (by omega))))
  have c2 : ∀ w1, Below W.heap.size W w1 → _ := fun w1 h => refStands_any size root b i p (.slice ra root.length rc) bv a n c w1 (hr.below (hW.trans (h.mono (by omega)))).at' (hb.below (hW.trans (h.mono (by omega)))).at' hb.bytes hb.short hp.len (hp.below (hW.trans (h.mono (by omega)))).at' hp.room hp.cap hp.bytes hp.short
  have c3 : ∀ w1, Below W.heap.size W w1 → _ := fun w1 h => hG osz oroot size root q (.slice oa oroot.length oc) (.slice ra root.length rc) qa qn qc w1 (hR.below (hW.trans (h.mono (by omega)))) (ho.below (hW.trans (h.mono (by omega)))) (hr.below (hW.trans (h.mono (by omega)))) (hq.below (hW.trans (h.mono (by omega))))
  have c4 : ∀ w1, Below W.heap.size W w1 → _ := fun w1 h => refGrew_any osz oroot size root q (.slice oa oroot.length oc) (.slice ra root.length rc) qa qn qc w1 (ho.below (hW.trans (h.mono (by omega)))).at' ho.bytes (hr.below (hW.trans (h.mono (by omega)))).at' hq.len (hq.below (hW.trans (h.mono (by omega)))).at' hq.room hq.cap hq.bytes hq.short
  have k : ∀ w1, Below W.heap.size W w1 → w1.cell? ⟨w.heap.size, 0, none⟩ = some (.int .i64 size) ∧ w1.cell? ⟨w.heap.size, 1, none⟩ = some (.slice ra root.length rc) ∧ w1.cell? ⟨w.heap.size + 1, 0, none⟩ = some (.int .i64 osz) ∧ w1.cell? ⟨w.heap.size + 1, 1, none⟩ = some (.slice oa oroot.length oc) := fun w1 h =>
    ⟨(h.cell (p := ⟨w.heap.size, 0, none⟩) (by show w.heap.size < _; omega)).trans z0, (h.cell (p := ⟨w.heap.size, 1, none⟩) (by show w.heap.size < _; omega)).trans z1, (h.cell (p := ⟨w.heap.size + 1, 0, none⟩) hsz).trans z2, (h.cell (p := ⟨w.heap.size + 1, 1, none⟩) hsz).trans z3⟩
  clear hS hG hr hb hp ho hq hR
  generalize standsL size root b i p = S at *
  generalize grewL osz oroot size root q = G at *
  have d1 : (S == S) = true := by simp
  have d2 : (G == G) = true := by simp
  go_region_held3 (fun w' => w'.cell? ⟨w.heap.size, 0, none⟩ = some (.int .i64 size) ∧ w'.cell? ⟨w.heap.size, 1, none⟩ = some (.slice ra root.length rc) ∧ w'.cell? ⟨w.heap.size + 1, 0, none⟩ = some (.int .i64 osz) ∧ w'.cell? ⟨w.heap.size + 1, 1, none⟩ = some (.slice oa oroot.length oc)) (first | exact ⟨z0, z1, z2, z3⟩ | exact k _ b1 | exact k _ b2 | exact k _ b3 | exact k _ b4) (first | (go_at_call 33; refine (c1 _ (Below.refl _ _).drew).mono ?_; rintro e w1 ⟨rfl, hb1⟩; have b1 := (Below.refl _ _).drew.trans hb1; obtain ⟨y10, y11, y12, y13⟩ := k _ b1) | (go_at_call 34; refine (c2 _ b1).mono ?_; rintro e w2 ⟨rfl, hb2⟩; have b2 := b1.trans (hb2.mono b1.size); obtain ⟨y20, y21, y22, y23⟩ := k _ b2) | (go_at_call 35; refine (c3 _ b2).mono ?_; rintro e w3 ⟨rfl, hb3⟩; have b3 := b2.trans (hb3.mono b2.size); obtain ⟨y30, y31, y32, y33⟩ := k _ b3) | (go_at_call 36; refine (c4 _ b3).mono ?_; rintro e w4 ⟨rfl, hb4⟩; have b4 := b3.trans (hb4.mono b3.size); obtain ⟨y40, y41, y42, y43⟩ := k _ b4))
  have hbE : Below w.heap.size w w4 := hW.trans ((show Below W.heap.size W w4 from b4).mono (by omega))
  go_wp2_with fail
  go_ret
  exact ⟨rfl, hbE⟩

end Go.Proofs.YtkjlchfmplcobaaDoor
