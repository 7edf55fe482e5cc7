/- The walks of yearref2.Stands and Grew. -/
import Derived.Test.YtkjlchfmplcobaaDoorProg
import Derived.Test.YtkjlchfmplcobaaDoorShaSame
import Derived.Test.YtkjlchfmplcobaaDoorShaSum
import Derived.Test.YtkjlchfmplcobaaDoorTreeRefTwo
import Derived.WalkKit
import Derived.WalkSpells
import Derived.WalkLawsBesides
import Derived.Deep.RegionHeld3
import Derived.BigRegion
import Derived.Test.YtkjlchfmplcobaaDoorTreeMem
namespace Go.Proofs.YtkjlchfmplcobaaDoor
open Go.RowKit

set_option maxRecDepth 100000 in
set_option maxHeartbeats 2000000 in
theorem refStands_any (size : Int) (root b : List Int) (i : Int) (p : List (List Int)) (rv bv : Value) (a : Option Addr) (m c : Nat) (w : World)
    (hr : BytesAt w rv root) (hb : BytesAt w bv b) (hbb : Bytes b) (hbl : b.length ≤ maxLen) (hm : p.length = m) (hv : PartsAt w (.slice a m c) p) (hc : m ≤ c) (hcm : c ≤ maxLen) (hz : ∀ j, Bytes (p.getD j [])) (hl : ∀ j, (p.getD j []).length ≤ maxLen) :
    Calls Tryd.prog 34 #[.agg #[.int .i64 size, rv], bv, .int .i64 i, .slice a m c] w fun e w' => e = .returned (.bool (standsL size root b i p)) ∧ Below w.heap.size w w' := by
  have hcm' := hcm
  unfold maxLen at hcm hbl
  have HIF : Hid (size < 1 ∨ 100 < size ∨ i < 0 ∨ size ≤ i ∨ 200 < b.length ∨ goodL p = false → standsL size root b i p = false) := fun h => by unfold standsL; rw [if_pos h]
  have HELSE : Hid (¬ (size < 1 ∨ 100 < size ∨ i < 0 ∨ size ≤ i ∨ 200 < b.length ∨ goodL p = false) → standsL size root b i p = ((upL (leafL b) i.toNat size.toNat p).2 && decide ((upL (leafL b) i.toNat size.toNat p).1 = root))) := fun h => by unfold standsL; rw [if_neg h]
  generalize standsL size root b i p = S at *
  obtain ⟨ba, bc, rfl⟩ := hb.form
  obtain ⟨ra, rc, rfl⟩ := hr.form
  by_cases h1 : size < 1
  · rw [HIF.out (.inl h1)]
    go_enter Tryd.func34, Tryd.ntmps34
    go_wp2_with fail
    go_ret
    exact ⟨rfl, (Below.refl _ _).alloc (Nat.le_refl _) _⟩
  by_cases h2 : 100 < size
  · rw [HIF.out (.inr (.inl h2))]
    go_enter Tryd.func34, Tryd.ntmps34
    go_wp2_with fail
    go_ret
    exact ⟨rfl, (Below.refl _ _).alloc (Nat.le_refl _) _⟩
  by_cases h3 : i < 0
  · rw [HIF.out (.inr (.inr (.inl h3)))]
    go_enter Tryd.func34, Tryd.ntmps34
    go_wp2_with fail
    go_ret
    exact ⟨rfl, (Below.refl _ _).alloc (Nat.le_refl _) _⟩
  by_cases h4 : size ≤ i
  · rw [HIF.out (.inr (.inr (.inr (.inl h4))))]
    go_enter Tryd.func34, Tryd.ntmps34
    go_wp2_with fail
    go_ret
    exact ⟨rfl, (Below.refl _ _).alloc (Nat.le_refl _) _⟩
  by_cases h5 : 200 < b.length
  · rw [HIF.out (.inr (.inr (.inr (.inr (.inl h5)))))]
    go_enter Tryd.func34, Tryd.ntmps34
    go_wp2_with fail
    go_ret
    exact ⟨rfl, (Below.refl _ _).alloc (Nat.le_refl _) _⟩
  have hv1 : PartsAt (w.alloc (.cells #[.int .i64 size, .slice ra root.length rc] 54)) (.slice a m c) p := hv.below (Nat.le_refl _) ((Below.refl _ _).alloc (Nat.le_refl _) _)
  have hgood := good_any p _ _ hv1 (by unfold maxLen; omega) hl
  by_cases h6 : goodL p = false
  · rw [HIF.out (.inr (.inr (.inr (.inr (.inr h6)))))]
    rw [h6] at hgood
    go_enter Tryd.func34, Tryd.ntmps34
    go_wp2_with fail
    refine hgood.mono ?_
    rintro e w1 ⟨rfl, rfl⟩
    go_wp2_with fail
    go_ret
    exact ⟨rfl, (Below.refl _ _).alloc (Nat.le_refl _) _⟩
  have h6' : goodL p = true := by simpa using h6
  rw [HELSE.out (fun h => by rcases h with h | h | h | h | h | h <;> first | omega | exact h6 h)]
  rw [h6'] at hgood
  clear HIF HELSE h6
  have i5 : ¬ (200 : Int) < (b.length : Int) := by omega
  have hlb : (leafL b).length = 32 := leafL_length b
  have hlz : Bytes (leafL b) := leafL_bytes b
  generalize hLB : leafL b = LB at *
  have HLB : Hid (shaL (0 :: b) = LB) := hLB
  clear hLB
  obtain ⟨sz, rfl⟩ := Int.eq_ofNat_of_zero_le (by omega : 0 ≤ size)
  obtain ⟨ix, rfl⟩ := Int.eq_ofNat_of_zero_le (by omega : 0 ≤ i)
  rw [Int.toNat_natCast, Int.toNat_natCast]
  have cu : ∀ (w2 : World) (x : Value), PartsAt w2 (.slice a m c) p → BytesAt w2 x LB → _ := fun w2 x hB hx => refUp_any sz p LB ix ix sz x a m c w2 rfl rfl (by omega) (by omega) hx hlz (by omega) hm hB hc hcm' hz (goodL_le h6')
  have hfl := (up_fit sz LB ix p hlz (by omega)).2
  generalize upL LB ix sz p = R at *
  clear hz hl
  have hW : Below w.heap.size w (w.alloc (.cells #[.int .i64 sz, .slice ra root.length rc] 54)) := (Below.refl _ _).alloc (Nat.le_refl _) _
  have hz0 : (w.alloc (.cells #[.int .i64 sz, .slice ra root.length rc] 54)).cell? ⟨w.heap.size, 0, none⟩ = some (.int .i64 sz) := new_cell _ _ _ 0 (by simp)
  have hz1 : (w.alloc (.cells #[.int .i64 sz, .slice ra root.length rc] 54)).cell? ⟨w.heap.size, 1, none⟩ = some (.slice ra root.length rc) := new_cell _ _ _ 1 (by simp)
  have hsz : w.heap.size < (w.alloc (.cells #[.int .i64 sz, .slice ra root.length rc] 54)).heap.size := by simp
  go_enter Tryd.func34, Tryd.ntmps34
  go_wp2_with fail
  refine hgood.mono ?_
  rintro e w1 ⟨rfl, rfl⟩
  generalize w.alloc (.cells #[.int .i64 sz, .slice ra root.length rc] 54) = W at *
  have hr1 := hr.below (Nat.le_refl _) hW
  have hb1 := hb.below (Nat.le_refl _) hW
  clear hgood hv hr hb
  go_wp2_with fail
  go_region_held3 (fun w' => w'.cell? ⟨w.heap.size, 0, none⟩ = some (.int .i64 (sz : Int))) (first | exact hz0 | exact y0 | exact y1 | exact y2) (first | (go_at_call 18; refine (in_any b _ _ (hb1.below (Nat.le_refl _) (Below.refl _ _).drew) (by omega)).mono ?_; rintro e w1 ⟨x1, rfl, ho1, hbI⟩; have hb2 := (Below.refl _ _).drew.trans hbI; have y0 := (hb2.cell (p := ⟨w.heap.size, 0, none⟩) hsz).trans hz0) | (go_at_call 11; refine (refSum_any (0 :: b) _ _ (bytesAt_own ho1) (by simp; omega) (bytes_cons (by decide) (by decide) hbb)).mono ?_; rintro e w2 ⟨x2, rfl, ho2, hbS⟩; have hb3 := hb2.trans (hbS.mono hb2.size); have y1 := (hb3.cell (p := ⟨w.heap.size, 0, none⟩) hsz).trans hz0; rw [HLB.out] at ho2) | (go_at_call 57; refine (cu _ _ (hv1.below (Nat.le_refl _) hb3) (bytesAt_own ho2)).mono ?_; rintro e w3 ⟨x3, rfl, hx3, hbU⟩; have hb4 := hb3.trans (hbU.mono hb3.size); have y2 := (hb4.cell (p := ⟨w.heap.size, 0, none⟩) hsz).trans hz0))
  have hbE : Below W.heap.size W w3 := hb4
  have z1 : w3.cell? ⟨w.heap.size, 1, none⟩ = some (.slice ra root.length rc) := (hbE.cell (p := ⟨w.heap.size, 1, none⟩) hsz).trans hz1
  have hr3 := hr1.below (Nat.le_refl _) hbE
  have hbW : Below w.heap.size w w3 := hW.trans (hbE.mono (by omega))
  clear y0 y1 y2 hb4 hbU hb3 hbS hbI hb2 ho1 ho2 hr1 hb1 hv1 cu hz0 hz1 hbE
  cases hR : R.2 with
  | false =>
    go_wp2_with fail
    go_ret
    exact ⟨by rw [hR]; rfl, hbW⟩
  | true =>
    go_wp2_with fail
    refine (same_any _ _ _ _ _ hx3 hr3 (by unfold maxLen; omega)).mono ?_
    rintro e w4 ⟨rfl, q, rfl⟩
    go_wp2_with fail
    go_ret
    exact ⟨by rw [hR, Bool.true_and]; rfl, below_drewN hbW q⟩
set_option maxRecDepth 100000 in
set_option maxHeartbeats 2000000 in
theorem refGrew_any (os : Int) (oroot : List Int) (ns : Int) (nroot : List Int) (p : List (List Int)) (ov nv : Value) (a : Option Addr) (m c : Nat) (w : World)
    (ho : BytesAt w ov oroot) (hob : Bytes oroot) (hn : BytesAt w nv nroot) (hm : p.length = m) (hv : PartsAt w (.slice a m c) p) (hc : m ≤ c) (hcm : c ≤ maxLen) (hz : ∀ j, Bytes (p.getD j [])) (hl : ∀ j, (p.getD j []).length ≤ maxLen) :
    Calls Tryd.prog 36 #[.agg #[.int .i64 os, ov], .agg #[.int .i64 ns, nv], .slice a m c] w fun e w' => e = .returned (.bool (grewL os oroot ns nroot p)) ∧ Below w.heap.size w w' := by
  have hcm' := hcm
  unfold maxLen at hcm
  have HIF : Hid (os < 1 ∨ ns < os ∨ 100 < ns ∨ goodL p = false ∨ oroot.length ≠ 32 → grewL os oroot ns nroot p = false) := fun h => by unfold grewL; rw [if_pos h]
  have HELSE : Hid (¬ (os < 1 ∨ ns < os ∨ 100 < ns ∨ goodL p = false ∨ oroot.length ≠ 32) → grewL os oroot ns nroot p = ((twoL os.toNat ns.toNat true oroot p).2.2 && decide ((twoL os.toNat ns.toNat true oroot p).1 = oroot) && decide ((twoL os.toNat ns.toNat true oroot p).2.1 = nroot))) := fun h => by unfold grewL; rw [if_neg h]
  generalize grewL os oroot ns nroot p = S at *
  obtain ⟨oa, oc, rfl⟩ := ho.form
  obtain ⟨na, nc, rfl⟩ := hn.form
  have hW : Below w.heap.size w ((w.alloc (.cells #[.int .i64 os, .slice oa oroot.length oc] 54)).alloc (.cells #[.int .i64 ns, .slice na nroot.length nc] 54)) := ((Below.refl _ _).alloc (Nat.le_refl _) _).alloc (by simp) _
  by_cases h1 : os < 1
  · rw [HIF.out (.inl h1)]
    go_enter Tryd.func36, Tryd.ntmps36
    go_wp2_with fail
    go_ret
    exact ⟨rfl, hW⟩
  by_cases h2 : ns < os
  · rw [HIF.out (.inr (.inl h2))]
    go_enter Tryd.func36, Tryd.ntmps36
    go_wp2_with fail
    go_ret
    exact ⟨rfl, hW⟩
  by_cases h3 : 100 < ns
  · rw [HIF.out (.inr (.inr (.inl h3)))]
    go_enter Tryd.func36, Tryd.ntmps36
    go_wp2_with fail
    go_ret
    exact ⟨rfl, hW⟩
  have hv1 : PartsAt ((w.alloc (.cells #[.int .i64 os, .slice oa oroot.length oc] 54)).alloc (.cells #[.int .i64 ns, .slice na nroot.length nc] 54)) (.slice a m c) p := hv.below (Nat.le_refl _) hW
  have hgood := good_any p _ _ hv1 (by unfold maxLen; omega) hl
  by_cases h4 : goodL p = false
  · rw [HIF.out (.inr (.inr (.inr (.inl h4))))]
    rw [h4] at hgood
    go_enter Tryd.func36, Tryd.ntmps36
    go_wp2_with fail
    refine hgood.mono ?_
    rintro e w1 ⟨rfl, rfl⟩
    go_wp2_with fail
    go_ret
    exact ⟨rfl, hW⟩
  have h4' : goodL p = true := by simpa using h4
  rw [h4'] at hgood
  by_cases h5 : oroot.length ≠ 32
  · rw [HIF.out (.inr (.inr (.inr (.inr h5))))]
    have i5 : (oroot.length : Int) ≠ 32 := by omega
    go_enter Tryd.func36, Tryd.ntmps36
    go_wp2_with fail
    refine hgood.mono ?_
    rintro e w1 ⟨rfl, rfl⟩
    go_wp2_with fail
    go_ret
    exact ⟨rfl, hW⟩
  rw [HELSE.out (fun h => by rcases h with h | h | h | h | h <;> first | omega | exact h4 h)]
  clear HIF HELSE h4
  have i5 : (oroot.length : Int) = 32 := by omega
  obtain ⟨nm, rfl⟩ := Int.eq_ofNat_of_zero_le (by omega : 0 ≤ ns)
  obtain ⟨om, rfl⟩ := Int.eq_ofNat_of_zero_le (by omega : 0 ≤ os)
  rw [Int.toNat_natCast, Int.toNat_natCast]
  have ct : ∀ (w2 : World), PartsAt w2 (.slice a m c) p → BytesAt w2 (.slice oa oroot.length oc) oroot → _ := fun w2 hB hx => refTwo_any nm p oroot om true om nm (.slice oa oroot.length oc) a m c w2 rfl rfl (by omega) (by omega) (by omega) hx hob (by omega) hm hB hc hcm' hz (goodL_le h4')
  have hfl := two_fit nm om true oroot p hob (by omega) hz (goodL_le h4')
  generalize twoL om nm true oroot p = R at *
  obtain ⟨⟨-, hf1⟩, -, hf2⟩ := hfl
  clear hz hl
  have hz0 : ((w.alloc (.cells #[.int .i64 om, .slice oa oroot.length oc] 54)).alloc (.cells #[.int .i64 nm, .slice na nroot.length nc] 54)).cell? ⟨w.heap.size, 0, none⟩ = some (.int .i64 om) := by rw [old_cell _ _ _ _ (by simp), new_cell _ _ _ 0 (by simp)]; rfl
  have hz1 : ((w.alloc (.cells #[.int .i64 om, .slice oa oroot.length oc] 54)).alloc (.cells #[.int .i64 nm, .slice na nroot.length nc] 54)).cell? ⟨w.heap.size, 1, none⟩ = some (.slice oa oroot.length oc) := by rw [old_cell _ _ _ _ (by simp), new_cell _ _ _ 1 (by simp)]; rfl
  have hz2 : ((w.alloc (.cells #[.int .i64 om, .slice oa oroot.length oc] 54)).alloc (.cells #[.int .i64 nm, .slice na nroot.length nc] 54)).cell? ⟨w.heap.size + 1, 0, none⟩ = some (.int .i64 nm) := by simp
  have hz3 : ((w.alloc (.cells #[.int .i64 om, .slice oa oroot.length oc] 54)).alloc (.cells #[.int .i64 nm, .slice na nroot.length nc] 54)).cell? ⟨w.heap.size + 1, 1, none⟩ = some (.slice na nroot.length nc) := by simp
  have hsz : w.heap.size + 1 < ((w.alloc (.cells #[.int .i64 om, .slice oa oroot.length oc] 54)).alloc (.cells #[.int .i64 nm, .slice na nroot.length nc] 54)).heap.size := by simp
  go_enter Tryd.func36, Tryd.ntmps36
  go_wp2_with fail
  refine hgood.mono ?_
  rintro e w1 ⟨rfl, rfl⟩
  generalize ((w.alloc (.cells #[.int .i64 om, .slice oa oroot.length oc] 54)).alloc (.cells #[.int .i64 nm, .slice na nroot.length nc] 54)) = W at *
  have ho1 := ho.below (Nat.le_refl _) hW
  have hn1 := hn.below (Nat.le_refl _) hW
  clear hgood hv ho hn
  go_wp2_with fail
  refine (ct _ hv1 ho1).mono ?_
  rintro e w2 ⟨x2, y2, rfl, hx2, hy2, hb2⟩
  have z1 : w2.cell? ⟨w.heap.size, 1, none⟩ = some (.slice oa oroot.length oc) := (hb2.cell (p := ⟨w.heap.size, 1, none⟩) (by show w.heap.size < _; omega)).trans hz1
  have z3 : w2.cell? ⟨w.heap.size + 1, 1, none⟩ = some (.slice na nroot.length nc) := (hb2.cell (p := ⟨w.heap.size + 1, 1, none⟩) hsz).trans hz3
  have ho2 := ho1.below (Nat.le_refl _) hb2
  have hn2 := hn1.below (Nat.le_refl _) hb2
  have hbW : Below w.heap.size w w2 := hW.trans (hb2.mono (by omega))
  clear ct hv1 ho1 hn1 hz0 hz1 hz2 hz3 hb2
  cases hR : R.2.2 with
  | false =>
    go_wp2_with fail
    go_ret
    exact ⟨by rw [hR]; rfl, hbW⟩
  | true =>
    go_wp2_with fail
    refine (same_any _ _ _ _ _ hx2 ho2 (by unfold maxLen; omega)).mono ?_
    rintro e w4 ⟨rfl, q, rfl⟩
    by_cases hq : R.1 = oroot
    · have hqd : decide (R.1 = oroot) = true := by simpa using hq
      rw [hqd]
      go_wp2_with fail
      refine (same_any _ _ _ _ _ (hy2.below (Nat.le_refl _) (below_drewN (Below.refl _ _) q)) (hn2.below (Nat.le_refl _) (below_drewN (Below.refl _ _) q)) (by unfold maxLen; omega)).mono ?_
      rintro e w5 ⟨rfl, q2, rfl⟩
      go_wp2_with fail
      go_ret
      exact ⟨by rw [hR, hqd]; rfl, below_drewN hbW _⟩
    · have hqd : decide (R.1 = oroot) = false := by simpa using hq
      rw [hqd]
      go_wp2_with fail
      go_ret
      exact ⟨by rw [hR, hqd]; rfl, below_drewN hbW q⟩

end Go.Proofs.YtkjlchfmplcobaaDoor
