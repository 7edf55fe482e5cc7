/- BookFive, ShelfRefSame, TreeSame, FleetSame, FleetDos, ShelfSegs, FleetMem, FleetMem2, as one text. -/
import Derived.Test.YtkjlchfmplcobaeGreatDoorRunAC
import Derived.Test.YtkjlchfmplcobaeGreatDoorProg
import Derived.Test.YtkjlchfmplcobaeGreatDoorRunAS
import Derived.WalkKit
import Derived.WalkSpells
import Derived.WalkLawsBesides
import Derived.Deep.RegionHeld3
import Derived.BigRegion
import Derived.Test.YtkjlchfmplcobaeGreatDoorRunAB
import Derived.Deep.QuietTactic
import Derived.BigQuiet
import Derived.Deep.AppendLies
import Derived.Laws.AppendOwnNone
/- Five cells written; old memory kept. Nothing of the program's functions is in it. -/
namespace Go.Proofs.YtkjlchfmplcobaeGreatDoor
open Go.RowKit

/-- Five cells written. -/
theorem five_set {w : World} {R : Nat} {a b c d e : Value} {t : TypeId} (h : w.heap[R]? = some (.cells #[a, b, c, d, e] t (0, 0))) (u0 u1 u2 u3 u4 : Value) : (((((w.setCell ⟨R, 0, none⟩ u0).setCell ⟨R, 1, none⟩ u1).setCell ⟨R, 2, none⟩ u2).setCell ⟨R, 3, none⟩ u3).setCell ⟨R, 4, none⟩ u4).heap[R]? = some (.cells #[u0, u1, u2, u3, u4] t (0, 0)) := by
  have h0 := heap_setCell_same w R 0 _ t u0 h
  have h1 := heap_setCell_same _ R 1 _ t u1 h0
  have h2 := heap_setCell_same _ R 2 _ t u2 h1
  have h3 := heap_setCell_same _ R 3 _ t u3 h2
  exact heap_setCell_same _ R 4 _ t u4 h3
theorem five_below {B R : Nat} {w0 w : World} (h : Below B w0 w) (hR : B ≤ R) (u0 u1 u2 u3 u4 : Value) : Below B w0 (((((w.setCell ⟨R, 0, none⟩ u0).setCell ⟨R, 1, none⟩ u1).setCell ⟨R, 2, none⟩ u2).setCell ⟨R, 3, none⟩ u3).setCell ⟨R, 4, none⟩ u4) := ((((h.setCell hR _).setCell hR _).setCell hR _).setCell hR _).setCell hR _
theorem five_own {w : World} {base R n : Nat} {e : TypeId} {v : Value} {xs : List Value} (h : w.ownsRow base e 1 v n xs) (hR : R < base) (u0 u1 u2 u3 u4 : Value) : (((((w.setCell ⟨R, 0, none⟩ u0).setCell ⟨R, 1, none⟩ u1).setCell ⟨R, 2, none⟩ u2).setCell ⟨R, 3, none⟩ u3).setCell ⟨R, 4, none⟩ u4).ownsRow base e 1 v n xs :=
  ownsRow_setCell_below (ownsRow_setCell_below (ownsRow_setCell_below (ownsRow_setCell_below (ownsRow_setCell_below h hR _) hR _) hR _) hR _) hR _
/-- Two cells written. -/
theorem two_set {w : World} {R : Nat} {a b : Value} {t : TypeId} (h : w.heap[R]? = some (.cells #[a, b] t (0, 0))) (u0 u1 : Value) : ((w.setCell ⟨R, 0, none⟩ u0).setCell ⟨R, 1, none⟩ u1).heap[R]? = some (.cells #[u0, u1] t (0, 0)) := by
  have h0 := heap_setCell_same w R 0 _ t u0 h
  exact heap_setCell_same _ R 1 _ t u1 h0
theorem two_below {B R : Nat} {w0 w : World} (h : Below B w0 w) (hR : B ≤ R) (u0 u1 : Value) : Below B w0 ((w.setCell ⟨R, 0, none⟩ u0).setCell ⟨R, 1, none⟩ u1) := (h.setCell hR _).setCell hR _
theorem two_far {w : World} {R k : Nat} {x : Obj} (h : w.heap[k]? = some x) (hk : k ≠ R) (u0 u1 : Value) : ((w.setCell ⟨R, 0, none⟩ u0).setCell ⟨R, 1, none⟩ u1).heap[k]? = some x := box_set_far (box_set_far h hk) hk
theorem keptB_of {w0 w' : World} (h : Below w0.heap.size w0 w') : Below w0.heap.size w0 w' ∧ ∀ b o, b < w0.heap.size → w'.cell? ⟨b, o, none⟩ = w0.cell? ⟨b, o, none⟩ := ⟨h, fun b o hlt => h.cell (p := ⟨b, o, none⟩) hlt⟩
theorem keptB_drew (w0 : World) : Below w0.heap.size w0 w0.drew ∧ ∀ b o, b < w0.heap.size → w0.drew.cell? ⟨b, o, none⟩ = w0.cell? ⟨b, o, none⟩ := keptB_of (Below.refl _ _).drew
theorem keptB_new (w0 : World) (x : Obj) : Below w0.heap.size w0 (w0.alloc x).drew ∧ ∀ b o, b < w0.heap.size → (w0.alloc x).drew.cell? ⟨b, o, none⟩ = w0.cell? ⟨b, o, none⟩ := keptB_of ((Below.refl _ _).alloc (Nat.le_refl _) _).drew
theorem keptB_below {w0 w' w'' : World} (h : Below w0.heap.size w0 w' ∧ ∀ b o, b < w0.heap.size → w'.cell? ⟨b, o, none⟩ = w0.cell? ⟨b, o, none⟩) (hb : Below w'.heap.size w' w'') : Below w0.heap.size w0 w'' ∧ ∀ b o, b < w0.heap.size → w''.cell? ⟨b, o, none⟩ = w0.cell? ⟨b, o, none⟩ := keptB_of (h.1.trans (hb.mono h.1.size))
theorem keptB_alloc {w0 w' : World} (h : Below w0.heap.size w0 w' ∧ ∀ b o, b < w0.heap.size → w'.cell? ⟨b, o, none⟩ = w0.cell? ⟨b, o, none⟩) (x : Obj) : Below w0.heap.size w0 (w'.alloc x) ∧ ∀ b o, b < w0.heap.size → (w'.alloc x).cell? ⟨b, o, none⟩ = w0.cell? ⟨b, o, none⟩ := keptB_of (h.1.alloc h.1.size _)
end Go.Proofs.YtkjlchfmplcobaeGreatDoor

/- The walk of yearref5.SameManifest. -/
namespace Go.Proofs.YtkjlchfmplcobaeGreatDoor
open Go.RowKit

theorem keepC {wo w' : World} (h : Below wo.heap.size wo w') : ∀ b o, b < wo.heap.size → w'.cell? ⟨b, o, none⟩ = wo.cell? ⟨b, o, none⟩ := fun b o hb => h.cell (p := ⟨b, o, none⟩) hb
set_option maxRecDepth 100000 in
set_option maxHeartbeats 4000000 in
theorem sameMan_yes (m : Man) (v1 v2 : Value) (w : World) (h1 : ManAt w v1 m) (h2 : ManAt w v2 m) :
    Calls Tryz.prog 21 #[v1, v2] w fun e w' => e = .returned (.bool true) ∧ Below w.heap.size w w' := by
  obtain ⟨r1, s1, rfl, hr1, a1, c1, rfl, n1, n2, n3, hc1⟩ := h1
  obtain ⟨r2, s2, rfl, hr2, a2, c2, rfl, p1, p2, p3, hc2⟩ := h2
  unfold maxLen at n2
  have b0 : Below w.heap.size w ((w.alloc (.cells #[.int .i64 m.size, r1, .slice a1 m.segs.length c1] 63)).alloc (.cells #[.int .i64 m.size, r2, .slice a2 m.segs.length c2] 63)) := ((Below.refl _ _).alloc (Nat.le_refl _) _).alloc (by simp) _
  have x0 := box_one w #[.int .i64 m.size, r1, .slice a1 m.segs.length c1] 63 (.cells #[.int .i64 m.size, r2, .slice a2 m.segs.length c2] 63)
  have y0 := box_last w (.cells #[.int .i64 m.size, r1, .slice a1 m.segs.length c1] 63) #[.int .i64 m.size, r2, .slice a2 m.segs.length c2] 63
  obtain ⟨u0, u1, u2, -, -, -⟩ := box_three x0
  obtain ⟨v0, v1, v2, -, -, -⟩ := box_three y0
  have sH := sameHead_yes m.size m.root r1 r2 _ (hr1.below b0) (hr2.below b0)
  have hnn : ((m.segs.length : Int) != (m.segs.length : Int)) = false := by simp
  generalize hN : m.segs.length = N at *
  generalize m.size = size at *
  go_enter Tryz.func21, Tryz.ntmps21
  go_wp2_with fail
  generalize (w.alloc (.cells #[.int .i64 size, r1, .slice a1 N c1] 63)).alloc (.cells #[.int .i64 size, r2, .slice a2 N c2] 63) = w0 at *
  refine sH.mono ?_
  rintro e w1 ⟨rfl, hb1⟩
  have b1 := b0.trans (hb1.mono b0.size)
  have x1 := box_kept x0 hb1
  have y1 := box_kept y0 hb1
  clear sH x0 y0 u0 u1 u2 v0 v1 v2 hr1 hr2
  obtain ⟨u0, u1, u2, -, -, -⟩ := box_three x1
  obtain ⟨v0, v1, v2, -, -, -⟩ := box_three y1
  go_wp2_with fail
  clear u0 u1 u2 v0 v1 v2 hnn
  go_loopw [26] (fun kv wr => ∃ k : Nat, k ≤ N ∧ kv = .int .i64 k ∧ Below w1.heap.size w1 wr) (fun kv _ => N - (intOf kv).toNat)
  case atStart => exact ⟨0, Nat.zero_le _, rfl, Below.refl _ _⟩
  case round =>
    obtain ⟨wo, rfl⟩ : ∃ x, x = wr := ⟨wr, rfl⟩
    obtain ⟨k, hk, rfl, hbr⟩ := hrel
    have hbw := b1.trans (hbr.mono b1.size)
    have hsr := hbr.size
    by_cases hlt : k < N
    · have hlt' : (k : Int) < N := by omega
      obtain ⟨g1, o1, rfl, hg1, hcs1⟩ := hc1.resolve_left (by omega)
      obtain ⟨g2, o2, rfl, hg2, hcs2⟩ := hc2.resolve_left (by omega)
      obtain ⟨d0, d1, qa, qc, d2, hq, -⟩ := hcs1 k hlt
      obtain ⟨e0, e1, ta, tc, e2, ht, -⟩ := hcs2 k hlt
      have hs1 := b1.size
      replace d0 := (hbw.cell (p := ⟨g1, o1 + k * 3, none⟩) hg1).trans d0
      replace d1 := (hbw.cell (p := ⟨g1, o1 + k * 3 + 1, none⟩) hg1).trans d1
      replace d2 := (hbw.cell (p := ⟨g1, o1 + k * 3 + 2, none⟩) hg1).trans d2
      replace e0 := (hbw.cell (p := ⟨g2, o2 + k * 3, none⟩) hg2).trans e0
      replace e1 := (hbw.cell (p := ⟨g2, o2 + k * 3 + 1, none⟩) hg2).trans e1
      replace e2 := (hbw.cell (p := ⟨g2, o2 + k * 3 + 2, none⟩) hg2).trans e2
      obtain ⟨u0, u1, u2, -, -, -⟩ := box_three (box_kept x1 hbr)
      obtain ⟨v0, v1, v2, -, -, -⟩ := box_three (box_kept y1 hbr)
      clear hcs1 hcs2 hc1 hc2
      generalize m.segs.getD k seg0 = s at *
      obtain ⟨sf, sc, sp⟩ := s
      dsimp only at d0 d1 d2 e0 e1 e2 hq ht
      go_wp2_with fail
      have k1 : g1 < wo.heap.size := by omega
      have k2 : g2 < wo.heap.size := by omega
      have k3 : w.heap.size < wo.heap.size := lt_heap (box_kept x1 hbr)
      have k4 : w.heap.size + 1 < wo.heap.size := lt_heap (box_kept y1 hbr)
      go_region_held3 (fun w' => ∀ b o, b < wo.heap.size → w'.cell? ⟨b, o, none⟩ = wo.cell? ⟨b, o, none⟩) (first | exact fun _ _ _ => rfl | exact keepC (by repeat (first | with_reducible exact Below.refl _ _ | with_reducible refine Below.setCell ?_ (by first | exact Nat.le_refl _ | exact Nat.le_succ _) _ | with_reducible refine Below.alloc ?_ (by first | exact Nat.le_refl _ | exact Nat.le_succ _ | simp) _ | with_reducible refine Below.drew ?_))) (fail)
      · obtain ⟨f0, f1, f2, -, -, -⟩ := box_three (w := ((wo.alloc (.cells #[.int .i64 sf, .int .i64 sc, .slice qa sp.length qc] 104)).alloc (.cells #[.int .i64 sf, .int .i64 sc, .slice ta sp.length tc] 104)).drew) (box_one wo #[.int .i64 sf, .int .i64 sc, .slice qa sp.length qc] 104 (.cells #[.int .i64 sf, .int .i64 sc, .slice ta sp.length tc] 104))
        obtain ⟨h0, h1, h2, -, -, -⟩ := box_three (w := ((wo.alloc (.cells #[.int .i64 sf, .int .i64 sc, .slice qa sp.length qc] 104)).alloc (.cells #[.int .i64 sf, .int .i64 sc, .slice ta sp.length tc] 104)).drew) (box_last wo (.cells #[.int .i64 sf, .int .i64 sc, .slice qa sp.length qc] 104) #[.int .i64 sf, .int .i64 sc, .slice ta sp.length tc] 104)
        have cA : Below w1.heap.size w1 ((wo.alloc (.cells #[.int .i64 sf, .int .i64 sc, .slice qa sp.length qc] 104)).alloc (.cells #[.int .i64 sf, .int .i64 sc, .slice ta sp.length tc] 104)).drew := ((hbr.alloc hsr _).alloc (by simp; omega) _).drew
        have cA0 := (hbr.alloc hsr (.cells #[.int .i64 sf, .int .i64 sc, .slice qa sp.length qc] 104)).alloc (by simp; omega) (.cells #[.int .i64 sf, .int .i64 sc, .slice ta sp.length tc] 104)
        have bA := b1.trans (cA.mono b1.size)
        have sE := same_any sp sp (.slice qa sp.length qc) (.slice ta sp.length tc) _ (hq.below bA).at' (ht.below bA).at' hq.short
        rw [decide_eq_true rfl] at sE
        generalize sp.length = dn at *
        clear d0 d1 d2 e0 e1 e2 u0 u1 u2 v0 v1 v2 hq ht
        have z1 : (sf != sf) = false := by simp
        have z2 : (sc != sc) = false := by simp
        go_wp2_with fail
        refine sE.mono ?_
        rintro e w5 ⟨rfl, q, rfl⟩
        go_wp2_with fail
        go_roundw
        case rel => exact ⟨k + 1, by omega, by go_num, below_drewN' cA0 _⟩
        case measure => simp [intOf]; omega
      · obtain ⟨f0, f1, f2, -, -, -⟩ := box_three (w := ((wo.alloc (.cells #[.int .i64 sf, .int .i64 sc, .slice ta sp.length tc] 104)).alloc (.cells #[.int .i64 sf, .int .i64 sc, .slice qa sp.length qc] 104)).drew) (box_one wo #[.int .i64 sf, .int .i64 sc, .slice ta sp.length tc] 104 (.cells #[.int .i64 sf, .int .i64 sc, .slice qa sp.length qc] 104))
        obtain ⟨h0, h1, h2, -, -, -⟩ := box_three (w := ((wo.alloc (.cells #[.int .i64 sf, .int .i64 sc, .slice ta sp.length tc] 104)).alloc (.cells #[.int .i64 sf, .int .i64 sc, .slice qa sp.length qc] 104)).drew) (box_last wo (.cells #[.int .i64 sf, .int .i64 sc, .slice ta sp.length tc] 104) #[.int .i64 sf, .int .i64 sc, .slice qa sp.length qc] 104)
        have cA : Below w1.heap.size w1 ((wo.alloc (.cells #[.int .i64 sf, .int .i64 sc, .slice ta sp.length tc] 104)).alloc (.cells #[.int .i64 sf, .int .i64 sc, .slice qa sp.length qc] 104)).drew := ((hbr.alloc hsr _).alloc (by simp; omega) _).drew
        have cA0 := (hbr.alloc hsr (.cells #[.int .i64 sf, .int .i64 sc, .slice ta sp.length tc] 104)).alloc (by simp; omega) (.cells #[.int .i64 sf, .int .i64 sc, .slice qa sp.length qc] 104)
        have bA := b1.trans (cA.mono b1.size)
        have sE := same_any sp sp (.slice qa sp.length qc) (.slice ta sp.length tc) _ (hq.below bA).at' (ht.below bA).at' hq.short
        rw [decide_eq_true rfl] at sE
        generalize sp.length = dn at *
        clear d0 d1 d2 e0 e1 e2 u0 u1 u2 v0 v1 v2 hq ht
        have z1 : (sf != sf) = false := by simp
        have z2 : (sc != sc) = false := by simp
        go_wp2_with fail
        refine sE.mono ?_
        rintro e w5 ⟨rfl, q, rfl⟩
        go_wp2_with fail
        go_roundw
        case rel => exact ⟨k + 1, by omega, by go_num, below_drewN' cA0 _⟩
        case measure => simp [intOf]; omega
    · obtain rfl : k = N := by omega
      have hnl : ¬ (k : Int) < k := by omega
      clear hc1 hc2
      go_wp2_with fail
      go_ret
      exact ⟨rfl, hbw⟩

end Go.Proofs.YtkjlchfmplcobaeGreatDoor

/- The walk of yearref2.Same: two lists of bytes' lists. -/
namespace Go.Proofs.YtkjlchfmplcobaeGreatDoor
open Go.RowKit

set_option maxRecDepth 100000 in
set_option maxHeartbeats 1000000 in
theorem refSame_any (L1 L2 : List (List Int)) (v1 v2 : Value) (w : World) (h1 : PartsAt w v1 L1) (h2 : PartsAt w v2 L2) (hm1 : L1.length ≤ maxLen) (hs1 : ∀ j, (L1.getD j []).length ≤ maxLen) :
    Calls Tryz.prog 20 #[v1, v2] w fun e w' => e = .returned (.bool (decide (L1 = L2))) ∧ ∃ q, w' = w.drewN q := by
  obtain ⟨a1, c1, rfl, hc1⟩ := h1.form
  obtain ⟨a2, c2, rfl, hc2⟩ := h2.form
  unfold maxLen at hm1
  by_cases hne : L1.length = L2.length
  · have hq : ((L1.length : Int) != (L2.length : Int)) = false := by rw [hne]; simp
    obtain ⟨n, hn⟩ : ∃ n, L1.length = n := ⟨_, rfl⟩
    have hn2 : L2.length = n := by omega
    have HN1 : Hid (L1.length = n) := hn
    have HN2 : Hid (L2.length = n) := hn2
    rw [hn] at hm1 hc1 hq
    rw [hn2] at hc2 hq
    rw [hn, hn2]
    clear hn hn2 hne h1 h2
    go_enter Tryz.func20, Tryz.ntmps20
    go_wp2
    go_loopw [13] (fun i wr => ∃ k : Nat, k ≤ n ∧ i = .int .i64 k ∧ Hid (∀ j, j < k → L1.getD j [] = L2.getD j []) ∧ Dr w wr) (fun i _ => n - (intOf i).toNat)
    case atStart => exact ⟨0, Nat.zero_le _, rfl, (fun j hj => absurd hj (Nat.not_lt_zero _)), ⟨0, rfl⟩⟩
    case round =>
      obtain ⟨k, hk, rfl, HE, HD⟩ := hrel
      by_cases hlt : k < n
      · obtain ⟨b1, o1, rfl, -, hp1⟩ := hc1.resolve_left (by omega)
        obtain ⟨b2, o2, rfl, -, hp2⟩ := hc2.resolve_left (by omega)
        obtain ⟨pa, pc, x1, B1⟩ := hp1 k hlt
        obtain ⟨ra, rc, x2, B2⟩ := hp2 k hlt
        have y1 : wr.cell? ⟨b1, o1 + k, none⟩ = some (.slice pa (L1.getD k []).length pc) := by obtain ⟨q, e⟩ := HD; rw [e]; exact x1
        have y2 : wr.cell? ⟨b2, o2 + k, none⟩ = some (.slice ra (L2.getD k []).length rc) := by obtain ⟨q, e⟩ := HD; rw [e]; exact x2
        have D1 : ∀ q, BytesAt (wr.drewN q) (.slice pa (L1.getD k []).length pc) (L1.getD k []) := fun q => by obtain ⟨q1, e⟩ := HD; rw [e]; exact B1.below (Nat.le_refl _) (below_drewN (below_drewN (Below.refl _ _) q1) q)
        have D2 : ∀ q, BytesAt (wr.drewN q) (.slice ra (L2.getD k []).length rc) (L2.getD k []) := fun q => by obtain ⟨q1, e⟩ := HD; rw [e]; exact B2.below (Nat.le_refl _) (below_drewN (below_drewN (Below.refl _ _) q1) q)
        have hl1 := hs1 k
        have HN : Hid (L1.getD k [] = L2.getD k [] → ∀ j, j < k + 1 → L1.getD j [] = L2.getD j []) := fun h j hj => by
          by_cases e : j = k
          · rw [e]; exact h
          · exact HE.out j (by omega)
        have HF : Hid (L1.getD k [] ≠ L2.getD k [] → decide (L1 = L2) = false) := fun h => by
          rw [decide_eq_false_iff_not]; intro e; exact h (by rw [e])
        clear hc1 hc2 hp1 hp2 x1 x2 B1 B2 HE hs1
        generalize L1.getD k [] = z1 at *
        generalize L2.getD k [] = z2 at *
        have i1 : (k : Int) < (n : Int) := by omega
        by_cases hzz : z1 = z2
        · have hd : decide (z1 = z2) = true := by simpa using hzz
          have HN' : Hid (∀ j, j < k + 1 → L1.getD j [] = L2.getD j []) := HN.out hzz
          have HS : ∀ q, Calls Tryz.prog 36 #[.slice pa z1.length pc, .slice ra z2.length rc] (wr.drewN q) (fun e w' => e = .returned (.bool true) ∧ ∃ m, w' = (wr.drewN q).drewN m) := fun q => by
            have := same_any z1 z2 _ _ _ (D1 q) (D2 q) hl1
            rwa [hd] at this
          clear HN HF hd hzz D1 D2
          go_wp2_with fail
          go_quiet ((go_at_call 36; exact Calls.quiet_of (HS _)))
          go_wp2_with fail
          go_roundw
          case rel => exact ⟨k + 1, by omega, by go_num, HN', HD.step _⟩
          case measure => simp [intOf]; omega
        · have hd : decide (z1 = z2) = false := by simpa using hzz
          have HF' : Hid (decide (L1 = L2) = false) := HF.out hzz
          have HS : ∀ q, Calls Tryz.prog 36 #[.slice pa z1.length pc, .slice ra z2.length rc] (wr.drewN q) (fun e w' => e = .returned (.bool false) ∧ ∃ m, w' = (wr.drewN q).drewN m) := fun q => by
            have := same_any z1 z2 _ _ _ (D1 q) (D2 q) hl1
            rwa [hd] at this
          clear HN HF hd hzz D1 D2
          go_wp2_with fail
          go_quiet ((go_at_call 36; exact Calls.quiet_of (HS _)))
          go_wp2_with fail
          go_ret
          exact ⟨by rw [HF'.out]; rfl, HD.step _⟩
      · obtain rfl : k = n := by omega
        obtain ⟨q0, rfl⟩ := HD
        have HT : decide (L1 = L2) = true := by
          rw [decide_eq_true_iff]
          apply List.ext_getElem (by have := HN1.out; have := HN2.out; omega)
          intro j hj1 hj2
          have := HE.out j (by have := HN1.out; omega)
          rwa [List.getD_eq_getElem?_getD, List.getElem?_eq_getElem hj1, List.getD_eq_getElem?_getD, List.getElem?_eq_getElem hj2] at this
        clear HE
        go_wp2
        go_ret
        exact ⟨by rw [HT]; rfl, q0, rfl⟩
  · have hq : ((L1.length : Int) != (L2.length : Int)) = true := by simp; omega
    have HF : decide (L1 = L2) = false := by rw [decide_eq_false_iff_not]; intro e; exact hne (by rw [e])
    rw [HF]
    go_enter Tryz.func20, Tryz.ntmps20
    go_wp2
    go_ret
    exact ⟨rfl, 0, rfl⟩

end Go.Proofs.YtkjlchfmplcobaeGreatDoor

/- The walks of yearref5.SameAnswer, SameBook and SameFleet at what is the same. -/
namespace Go.Proofs.YtkjlchfmplcobaeGreatDoor
open Go.RowKit

/-- An answer as the walks meet it. -/
def AnsV (w : World) (v : Value) (x : Ans) : Prop := ∃ ra rc, v = .agg #[.int .i64 x.err, .int .i64 x.shard, .int .i64 x.place, .int .i64 x.size, .slice ra x.root.length rc] ∧ Some' w (.slice ra x.root.length rc) x.root
theorem AnsV.below {w w' : World} {v : Value} {x : Ans} (h : AnsV w v x) (hb : Below w.heap.size w w') : AnsV w' v x := by
  obtain ⟨ra, rc, h1, h2⟩ := h
  exact ⟨ra, rc, h1, h2.below hb⟩
set_option maxRecDepth 100000 in
set_option maxHeartbeats 2000000 in
theorem sameAns_yes (x : Ans) (v1 v2 : Value) (w : World) (h1 : AnsV w v1 x) (h2 : AnsV w v2 x) :
    Calls Tryz.prog 10 #[v1, v2] w fun e w' => e = .returned (.bool true) ∧ Below w.heap.size w w' := by
  obtain ⟨ra, rc, rfl, hr⟩ := h1
  obtain ⟨ta, tc, rfl, ht⟩ := h2
  obtain ⟨s, f, t, z, root⟩ := x
  dsimp only at hr ht ⊢
  have b0 : Below w.heap.size w ((w.alloc (.cells #[.int .i64 s, .int .i64 f, .int .i64 t, .int .i64 z, .slice ra root.length rc] 41)).alloc (.cells #[.int .i64 s, .int .i64 f, .int .i64 t, .int .i64 z, .slice ta root.length tc] 41)) := ((Below.refl _ _).alloc (Nat.le_refl _) _).alloc (by simp) _
  obtain ⟨x0, x1, x2, x3, x4⟩ := box_five (box_one w #[.int .i64 s, .int .i64 f, .int .i64 t, .int .i64 z, .slice ra root.length rc] 41 (.cells #[.int .i64 s, .int .i64 f, .int .i64 t, .int .i64 z, .slice ta root.length tc] 41))
  obtain ⟨y0, y1, y2, y3, y4⟩ := box_five (box_last w (.cells #[.int .i64 s, .int .i64 f, .int .i64 t, .int .i64 z, .slice ra root.length rc] 41) #[.int .i64 s, .int .i64 f, .int .i64 t, .int .i64 z, .slice ta root.length tc] 41)
  have sE := sameHead_yes z root _ _ _ (hr.below b0) (ht.below b0)
  have q1 : (s == s) = true := by simp
  have q2 : (f == f) = true := by simp
  have q3 : (t == t) = true := by simp
  clear hr ht
  generalize root.length = n at *
  go_enter Tryz.func10, Tryz.ntmps10
  go_wp2_with fail
  refine sE.mono ?_
  rintro e w3 ⟨rfl, hb3⟩
  go_wp2_with fail
  go_ret
  exact ⟨rfl, b0.trans (hb3.mono b0.size)⟩
set_option maxRecDepth 100000 in
set_option maxHeartbeats 4000000 in
theorem sameBook_yes (l : List Rec) (a1 a2 : Option Addr) (n c1 c2 : Nat) (w : World) (h1 : RecsAt w (.slice a1 n c1) l) (h2 : RecsAt w (.slice a2 n c2) l) (hn : l.length = n) :
    Calls Tryz.prog 19 #[.slice a1 n c1, .slice a2 n c2] w fun e w' => e = .returned (.bool true) ∧ Below w.heap.size w w' := by
  obtain ⟨a1', c1', e1, hn1, hm1, -, hc1⟩ := h1
  obtain ⟨a2', c2', e2, hn2, hm2, -, hc2⟩ := h2
  rw [hn] at e1 e2 hn1 hn2 hc1 hc2
  cases e1
  cases e2
  unfold maxLen at hm1 hm2
  have hnn : ((n : Int) != n) = false := by simp
  go_enter Tryz.func19, Tryz.ntmps19
  go_wp2_with fail
  clear hnn
  go_loopw [13] (fun kv wr => ∃ k : Nat, k ≤ n ∧ kv = .int .i64 k ∧ Below w.heap.size w wr) (fun kv _ => n - (intOf kv).toNat)
  case atStart => exact ⟨0, Nat.zero_le _, rfl, Below.refl _ _⟩
  case round =>
    obtain ⟨wo, rfl⟩ : ∃ x, x = wr := ⟨wr, rfl⟩
    obtain ⟨k, hk, rfl, hbr⟩ := hrel
    have hsr := hbr.size
    by_cases hlt : k < n
    · have hlt' : (k : Int) < n := by omega
      obtain ⟨g1, o1, rfl, hg1, hcs1⟩ := hc1.resolve_left (by omega)
      obtain ⟨g2, o2, rfl, hg2, hcs2⟩ := hc2.resolve_left (by omega)
      obtain ⟨d0, d1, d2, d3, qa, qc, d4, hq⟩ := (hcs1 k hlt).below hg1 hbr
      obtain ⟨e0, e1, e2, e3, ta, tc, e4, ht⟩ := (hcs2 k hlt).below hg2 hbr
      clear hcs1 hcs2 hc1 hc2
      generalize l.getD k rec0 = R at *
      have hS : ∀ w', (Below wo.heap.size wo w' ∧ ∀ b o, b < wo.heap.size → w'.cell? ⟨b, o, none⟩ = wo.cell? ⟨b, o, none⟩) → _ := fun w' h => sameRec_yes R (.agg #[.int .i64 R.shard, .int .i64 R.from', .int .i64 R.to', .int .i64 R.size, .slice qa R.root.length qc]) (.agg #[.int .i64 R.shard, .int .i64 R.from', .int .i64 R.to', .int .i64 R.size, .slice ta R.root.length tc]) w' ⟨qa, qc, rfl, hq.below h.1⟩ ⟨ta, tc, rfl, ht.below h.1⟩
      have k1 : g1 < wo.heap.size := by omega
      have k2 : g2 < wo.heap.size := by omega
      clear hq ht
      generalize R.root.length = dn at *
      generalize R.shard = rs at *
      generalize R.from' = rf at *
      generalize R.to' = rt at *
      generalize R.size = rz at *
      go_wp2_with fail
      go_region_held3 (fun w' => Below wo.heap.size wo w' ∧ ∀ b o, b < wo.heap.size → w'.cell? ⟨b, o, none⟩ = wo.cell? ⟨b, o, none⟩) (first | (with_reducible assumption) | (with_reducible exact hK) | (with_reducible exact keptB_drew wo)) (first | (go_at_call 37; refine (hS _ (by assumption)).mono ?_; rintro e w5 ⟨rfl, hb5⟩; have hK := keptB_below (w0 := wo) (by assumption) hb5))
      have b5 := hbr.trans (hK.1.mono hsr)
      clear hK hS d0 d1 d2 d3 d4 e0 e1 e2 e3 e4
      go_wp2_with fail
      go_roundw
      case rel => exact ⟨k + 1, by omega, by go_num, b5⟩
      case measure => simp [intOf]; omega
    · obtain rfl : k = n := by omega
      have hnl : ¬ (k : Int) < k := by omega
      go_wp2_with fail
      go_ret
      exact ⟨rfl, hbr⟩
/-- What a variable of seven cells holds. -/
theorem box_7 {w : World} {k : Nat} {v0 v1 v2 v3 v4 v5 v6 : Value} {t : TypeId} (h : w.heap[k]? = some (.cells #[v0, v1, v2, v3, v4, v5, v6] t (0, 0))) :
    w.cell? ⟨k, 0, none⟩ = some v0 ∧ w.cell? ⟨k, 1, none⟩ = some v1 ∧ w.cell? ⟨k, 2, none⟩ = some v2 ∧ w.cell? ⟨k, 3, none⟩ = some v3 ∧ w.cell? ⟨k, 4, none⟩ = some v4 ∧ w.cell? ⟨k, 5, none⟩ = some v5 ∧ w.cell? ⟨k, 6, none⟩ = some v6 :=
  ⟨cell_of_row w k 0 _ t _ h, cell_of_row w k 1 _ t _ h, cell_of_row w k 2 _ t _ h, cell_of_row w k 3 _ t _ h, cell_of_row w k 4 _ t _ h, cell_of_row w k 5 _ t _ h, cell_of_row w k 6 _ t _ h⟩

set_option maxRecDepth 100000 in
set_option maxHeartbeats 8000000 in
theorem sameFleet_yes (F : Flt) (v1 v2 : Value) (w : World) (h1 : FltV w v1 F) (h2 : FltV w v2 F) :
    Calls Tryz.prog 9 #[v1, v2] w fun e w' => e = .returned (.bool true) ∧ Below w.heap.size w w' := by
  obtain ⟨sa1, sc1, ba1, bc1, rfl, hS1, hB1⟩ := h1
  obtain ⟨sa2, sc2, ba2, bc2, rfl, hS2, hB2⟩ := h2
  have b0 : Below w.heap.size w ((w.alloc (.cells #[.slice sa1 F.shards.length sc1, .slice ba1 F.book.length bc1] 27)).alloc (.cells #[.slice sa2 F.shards.length sc2, .slice ba2 F.book.length bc2] 27)) := ((Below.refl _ _).alloc (Nat.le_refl _) _).alloc (by simp) _
  have x0 := box_one w #[.slice sa1 F.shards.length sc1, .slice ba1 F.book.length bc1] 27 (.cells #[.slice sa2 F.shards.length sc2, .slice ba2 F.book.length bc2] 27)
  have y0 := box_last w (.cells #[.slice sa1 F.shards.length sc1, .slice ba1 F.book.length bc1] 27) #[.slice sa2 F.shards.length sc2, .slice ba2 F.book.length bc2] 27
  have sB := sameBook_yes F.book ba1 ba2 F.book.length bc1 bc2 _ (hB1.below b0) (hB2.below b0) rfl
  obtain ⟨a1', c1', e1, hn1, hm1, -, hc1⟩ := hS1
  obtain ⟨a2', c2', e2, hn2, hm2, -, hc2⟩ := hS2
  cases e1
  cases e2
  unfold maxLen at hm1 hm2
  obtain ⟨p0, p1, -, -⟩ := box_two x0
  obtain ⟨q0, q1, -, -⟩ := box_two y0
  have hnn : ((F.shards.length : Int) != F.shards.length) = false := by simp
  clear hB1 hB2
  generalize F.book.length = bn at *
  generalize F.shards.length = n at *
  go_enter Tryz.func9, Tryz.ntmps9
  go_wp2_with fail
  generalize (w.alloc (.cells #[.slice sa1 n sc1, .slice ba1 bn bc1] 27)).alloc (.cells #[.slice sa2 n sc2, .slice ba2 bn bc2] 27) = w0 at *
  refine sB.mono ?_
  rintro e w1 ⟨rfl, hb1⟩
  have b1 := b0.trans (hb1.mono b0.size)
  have x1 := box_kept x0 hb1
  have y1 := box_kept y0 hb1
  clear p0 p1 q0 q1 sB x0 y0 b0 hb1
  obtain ⟨p0, p1, -, -⟩ := box_two x1
  obtain ⟨q0, q1, -, -⟩ := box_two y1
  go_wp2_with fail
  clear hnn p0 p1 q0 q1
  go_loopw [26] (fun kv wr => ∃ k : Nat, k ≤ n ∧ kv = .int .i64 k ∧ Below w1.heap.size w1 wr) (fun kv _ => n - (intOf kv).toNat)
  case atStart => exact ⟨0, Nat.zero_le _, rfl, Below.refl _ _⟩
  case round =>
    obtain ⟨wo, rfl⟩ : ∃ x, x = wr := ⟨wr, rfl⟩
    obtain ⟨k, hk, rfl, hbr⟩ := hrel
    have hbw := b1.trans (hbr.mono b1.size)
    have hsr := hbr.size
    by_cases hlt : k < n
    · have hlt' : (k : Int) < n := by omega
      obtain ⟨g1, o1, rfl, hg1, hcs1⟩ := hc1.resolve_left (by omega)
      obtain ⟨g2, o2, rfl, hg2, hcs2⟩ := hc2.resolve_left (by omega)
      obtain ⟨d0, d1, d2, ⟨ea1, ec1, d3, hE1⟩, d4, ⟨ra1, rc1, d5, hr1⟩, ⟨ga1, gc1, d6, hG1⟩⟩ := (hcs1 k hlt).below hg1 hbw
      obtain ⟨e0, e1, e2, ⟨ea2, ec2, e3, hE2⟩, e4, ⟨ra2, rc2, e5, hr2⟩, ⟨ga2, gc2, e6, hG2⟩⟩ := (hcs2 k hlt).below hg2 hbw
      have hM1 : ManAt wo (.agg #[.int .i64 (F.shards.getD k shd0).man.size, .slice ra1 (F.shards.getD k shd0).man.root.length rc1, .slice ga1 (F.shards.getD k shd0).man.segs.length gc1]) (F.shards.getD k shd0).man := ⟨_, _, rfl, hr1, hG1⟩
      have hM2 : ManAt wo (.agg #[.int .i64 (F.shards.getD k shd0).man.size, .slice ra2 (F.shards.getD k shd0).man.root.length rc2, .slice ga2 (F.shards.getD k shd0).man.segs.length gc2]) (F.shards.getD k shd0).man := ⟨_, _, rfl, hr2, hG2⟩
      obtain ⟨u0, u1, -, -⟩ := box_two (box_kept x1 hbr)
      obtain ⟨v0, v1, -, -⟩ := box_two (box_kept y1 hbr)
      have k1 : g1 < wo.heap.size := by have := hbw.size; omega
      have k2 : g2 < wo.heap.size := by have := hbw.size; omega
      have k3 : w.heap.size < wo.heap.size := lt_heap (box_kept x1 hbr)
      have k4 : w.heap.size + 1 < wo.heap.size := lt_heap (box_kept y1 hbr)
      clear hcs1 hcs2 hc1 hc2 hr1 hr2 hG1 hG2
      generalize (F.shards.getD k shd0).man = M at *
      generalize (F.shards.getD k shd0).entries = ES at *
      generalize (F.shards.getD k shd0).from' = sf at *
      generalize (F.shards.getD k shd0).to' = st at *
      generalize (F.shards.getD k shd0).state = ss at *
      generalize ES.length = en at *
      generalize M.size = sz at *
      generalize M.root.length = rn at *
      generalize M.segs.length = gn at *
      go_wp2_with fail
      go_region_held3 (fun w' => ∀ b o, b < wo.heap.size → w'.cell? ⟨b, o, none⟩ = wo.cell? ⟨b, o, none⟩) (first | exact fun _ _ _ => rfl | exact keepC (by repeat (first | with_reducible exact Below.refl _ _ | with_reducible refine Below.setCell ?_ (by first | exact Nat.le_refl _ | exact Nat.le_succ _) _ | with_reducible refine Below.alloc ?_ (by first | exact Nat.le_refl _ | exact Nat.le_succ _ | simp) _ | with_reducible refine Below.drew ?_))) (fail)
      · have hx := box_7 (w := ((wo.alloc (.cells #[.int .i64 sf, .int .i64 st, .int .i64 ss, .slice ea1 en ec1, .int .i64 sz, .slice ra1 rn rc1, .slice ga1 gn gc1] 65)).alloc (.cells #[.int .i64 sf, .int .i64 st, .int .i64 ss, .slice ea2 en ec2, .int .i64 sz, .slice ra2 rn rc2, .slice ga2 gn gc2] 65)).drew) (box_one wo #[.int .i64 sf, .int .i64 st, .int .i64 ss, .slice ea1 en ec1, .int .i64 sz, .slice ra1 rn rc1, .slice ga1 gn gc1] 65 (.cells #[.int .i64 sf, .int .i64 st, .int .i64 ss, .slice ea2 en ec2, .int .i64 sz, .slice ra2 rn rc2, .slice ga2 gn gc2] 65))
        have hy := box_7 (w := ((wo.alloc (.cells #[.int .i64 sf, .int .i64 st, .int .i64 ss, .slice ea1 en ec1, .int .i64 sz, .slice ra1 rn rc1, .slice ga1 gn gc1] 65)).alloc (.cells #[.int .i64 sf, .int .i64 st, .int .i64 ss, .slice ea2 en ec2, .int .i64 sz, .slice ra2 rn rc2, .slice ga2 gn gc2] 65)).drew) (box_last wo (.cells #[.int .i64 sf, .int .i64 st, .int .i64 ss, .slice ea1 en ec1, .int .i64 sz, .slice ra1 rn rc1, .slice ga1 gn gc1] 65) #[.int .i64 sf, .int .i64 st, .int .i64 ss, .slice ea2 en ec2, .int .i64 sz, .slice ra2 rn rc2, .slice ga2 gn gc2] 65)
        obtain ⟨f0, f1, f2, f3, f4, f5, f6⟩ := hx
        obtain ⟨h0, h1, h2, h3, h4, h5, h6⟩ := hy
        have cA : Below w1.heap.size w1 ((wo.alloc (.cells #[.int .i64 sf, .int .i64 st, .int .i64 ss, .slice ea1 en ec1, .int .i64 sz, .slice ra1 rn rc1, .slice ga1 gn gc1] 65)).alloc (.cells #[.int .i64 sf, .int .i64 st, .int .i64 ss, .slice ea2 en ec2, .int .i64 sz, .slice ra2 rn rc2, .slice ga2 gn gc2] 65)).drew := ((hbr.alloc hsr _).alloc (by simp; omega) _).drew
        have cO : Below wo.heap.size wo ((wo.alloc (.cells #[.int .i64 sf, .int .i64 st, .int .i64 ss, .slice ea1 en ec1, .int .i64 sz, .slice ra1 rn rc1, .slice ga1 gn gc1] 65)).alloc (.cells #[.int .i64 sf, .int .i64 st, .int .i64 ss, .slice ea2 en ec2, .int .i64 sz, .slice ra2 rn rc2, .slice ga2 gn gc2] 65)).drew := (((Below.refl _ _).alloc (Nat.le_refl _) _).alloc (by simp) _).drew
        have sE := refSame_any ES ES _ _ _ ((hE1.below cO).at') ((hE2.below cO).at') (by rw [hE1.len]; exact Nat.le_trans hE1.room hE1.cap) hE1.short
        rw [decide_eq_true rfl] at sE
        have sM := fun q => sameMan_yes M _ _ (((wo.alloc (.cells #[.int .i64 sf, .int .i64 st, .int .i64 ss, .slice ea1 en ec1, .int .i64 sz, .slice ra1 rn rc1, .slice ga1 gn gc1] 65)).alloc (.cells #[.int .i64 sf, .int .i64 st, .int .i64 ss, .slice ea2 en ec2, .int .i64 sz, .slice ra2 rn rc2, .slice ga2 gn gc2] 65)).drew.drewN q) ((hM1.below cO).below (below_drewN' (Below.refl _ _) q)) ((hM2.below cO).below (below_drewN' (Below.refl _ _) q))
        clear d0 d1 d2 d3 d4 d5 d6 e0 e1 e2 e3 e4 e5 e6 u0 u1 v0 v1 hE1 hE2 hM1 hM2 cO
        have z1 : (sf != sf) = false := by simp
        have z2 : (st != st) = false := by simp
        have z3 : (ss != ss) = false := by simp
        go_wp2_with fail
        generalize ((wo.alloc (.cells #[.int .i64 sf, .int .i64 st, .int .i64 ss, .slice ea1 en ec1, .int .i64 sz, .slice ra1 rn rc1, .slice ga1 gn gc1] 65)).alloc (.cells #[.int .i64 sf, .int .i64 st, .int .i64 ss, .slice ea2 en ec2, .int .i64 sz, .slice ra2 rn rc2, .slice ga2 gn gc2] 65)).drew = wA at *
        refine sE.mono ?_
        rintro e w5 ⟨rfl, q5, rfl⟩
        have dq := below_drewN' (Below.refl wA.heap.size wA) q5
        replace f0 := (dq.cell (p := ⟨_, 0, none⟩) (World.block_lt_of_cell? wA _ f0)).trans f0
        replace f4 := (dq.cell (p := ⟨_, 4, none⟩) (World.block_lt_of_cell? wA _ f4)).trans f4
        replace f5 := (dq.cell (p := ⟨_, 5, none⟩) (World.block_lt_of_cell? wA _ f5)).trans f5
        replace f6 := (dq.cell (p := ⟨_, 6, none⟩) (World.block_lt_of_cell? wA _ f6)).trans f6
        replace h4 := (dq.cell (p := ⟨_, 4, none⟩) (World.block_lt_of_cell? wA _ h4)).trans h4
        replace h5 := (dq.cell (p := ⟨_, 5, none⟩) (World.block_lt_of_cell? wA _ h5)).trans h5
        replace h6 := (dq.cell (p := ⟨_, 6, none⟩) (World.block_lt_of_cell? wA _ h6)).trans h6
        have sM5 := sM q5
        have cB := below_drewN' cA q5
        clear sE sM dq
        generalize wA.drewN q5 = wB at *
        go_wp2_with fail
        refine sM5.mono ?_
        rintro e w6 ⟨rfl, hb6⟩
        have b6 := cB.trans (hb6.mono cB.size)
        clear sM5
        go_wp2_with fail
        go_roundw
        case rel => exact ⟨k + 1, by omega, by go_num, b6⟩
        case measure => simp [intOf]; omega
      · have hx := box_7 (w := ((wo.alloc (.cells #[.int .i64 sf, .int .i64 st, .int .i64 ss, .slice ea2 en ec2, .int .i64 sz, .slice ra2 rn rc2, .slice ga2 gn gc2] 65)).alloc (.cells #[.int .i64 sf, .int .i64 st, .int .i64 ss, .slice ea1 en ec1, .int .i64 sz, .slice ra1 rn rc1, .slice ga1 gn gc1] 65)).drew) (box_last wo (.cells #[.int .i64 sf, .int .i64 st, .int .i64 ss, .slice ea2 en ec2, .int .i64 sz, .slice ra2 rn rc2, .slice ga2 gn gc2] 65) #[.int .i64 sf, .int .i64 st, .int .i64 ss, .slice ea1 en ec1, .int .i64 sz, .slice ra1 rn rc1, .slice ga1 gn gc1] 65)
        have hy := box_7 (w := ((wo.alloc (.cells #[.int .i64 sf, .int .i64 st, .int .i64 ss, .slice ea2 en ec2, .int .i64 sz, .slice ra2 rn rc2, .slice ga2 gn gc2] 65)).alloc (.cells #[.int .i64 sf, .int .i64 st, .int .i64 ss, .slice ea1 en ec1, .int .i64 sz, .slice ra1 rn rc1, .slice ga1 gn gc1] 65)).drew) (box_one wo #[.int .i64 sf, .int .i64 st, .int .i64 ss, .slice ea2 en ec2, .int .i64 sz, .slice ra2 rn rc2, .slice ga2 gn gc2] 65 (.cells #[.int .i64 sf, .int .i64 st, .int .i64 ss, .slice ea1 en ec1, .int .i64 sz, .slice ra1 rn rc1, .slice ga1 gn gc1] 65))
        obtain ⟨f0, f1, f2, f3, f4, f5, f6⟩ := hx
        obtain ⟨h0, h1, h2, h3, h4, h5, h6⟩ := hy
        have cA : Below w1.heap.size w1 ((wo.alloc (.cells #[.int .i64 sf, .int .i64 st, .int .i64 ss, .slice ea2 en ec2, .int .i64 sz, .slice ra2 rn rc2, .slice ga2 gn gc2] 65)).alloc (.cells #[.int .i64 sf, .int .i64 st, .int .i64 ss, .slice ea1 en ec1, .int .i64 sz, .slice ra1 rn rc1, .slice ga1 gn gc1] 65)).drew := ((hbr.alloc hsr _).alloc (by simp; omega) _).drew
        have cO : Below wo.heap.size wo ((wo.alloc (.cells #[.int .i64 sf, .int .i64 st, .int .i64 ss, .slice ea2 en ec2, .int .i64 sz, .slice ra2 rn rc2, .slice ga2 gn gc2] 65)).alloc (.cells #[.int .i64 sf, .int .i64 st, .int .i64 ss, .slice ea1 en ec1, .int .i64 sz, .slice ra1 rn rc1, .slice ga1 gn gc1] 65)).drew := (((Below.refl _ _).alloc (Nat.le_refl _) _).alloc (by simp) _).drew
        have sE := refSame_any ES ES _ _ _ ((hE1.below cO).at') ((hE2.below cO).at') (by rw [hE1.len]; exact Nat.le_trans hE1.room hE1.cap) hE1.short
        rw [decide_eq_true rfl] at sE
        have sM := fun q => sameMan_yes M _ _ (((wo.alloc (.cells #[.int .i64 sf, .int .i64 st, .int .i64 ss, .slice ea2 en ec2, .int .i64 sz, .slice ra2 rn rc2, .slice ga2 gn gc2] 65)).alloc (.cells #[.int .i64 sf, .int .i64 st, .int .i64 ss, .slice ea1 en ec1, .int .i64 sz, .slice ra1 rn rc1, .slice ga1 gn gc1] 65)).drew.drewN q) ((hM1.below cO).below (below_drewN' (Below.refl _ _) q)) ((hM2.below cO).below (below_drewN' (Below.refl _ _) q))
        clear d0 d1 d2 d3 d4 d5 d6 e0 e1 e2 e3 e4 e5 e6 u0 u1 v0 v1 hE1 hE2 hM1 hM2 cO
        have z1 : (sf != sf) = false := by simp
        have z2 : (st != st) = false := by simp
        have z3 : (ss != ss) = false := by simp
        go_wp2_with fail
        generalize ((wo.alloc (.cells #[.int .i64 sf, .int .i64 st, .int .i64 ss, .slice ea2 en ec2, .int .i64 sz, .slice ra2 rn rc2, .slice ga2 gn gc2] 65)).alloc (.cells #[.int .i64 sf, .int .i64 st, .int .i64 ss, .slice ea1 en ec1, .int .i64 sz, .slice ra1 rn rc1, .slice ga1 gn gc1] 65)).drew = wA at *
        refine sE.mono ?_
        rintro e w5 ⟨rfl, q5, rfl⟩
        have dq := below_drewN' (Below.refl wA.heap.size wA) q5
        replace f0 := (dq.cell (p := ⟨_, 0, none⟩) (World.block_lt_of_cell? wA _ f0)).trans f0
        replace f4 := (dq.cell (p := ⟨_, 4, none⟩) (World.block_lt_of_cell? wA _ f4)).trans f4
        replace f5 := (dq.cell (p := ⟨_, 5, none⟩) (World.block_lt_of_cell? wA _ f5)).trans f5
        replace f6 := (dq.cell (p := ⟨_, 6, none⟩) (World.block_lt_of_cell? wA _ f6)).trans f6
        replace h4 := (dq.cell (p := ⟨_, 4, none⟩) (World.block_lt_of_cell? wA _ h4)).trans h4
        replace h5 := (dq.cell (p := ⟨_, 5, none⟩) (World.block_lt_of_cell? wA _ h5)).trans h5
        replace h6 := (dq.cell (p := ⟨_, 6, none⟩) (World.block_lt_of_cell? wA _ h6)).trans h6
        have sM5 := sM q5
        have cB := below_drewN' cA q5
        clear sE sM dq
        generalize wA.drewN q5 = wB at *
        go_wp2_with fail
        refine sM5.mono ?_
        rintro e w6 ⟨rfl, hb6⟩
        have b6 := cB.trans (hb6.mono cB.size)
        clear sM5
        go_wp2_with fail
        go_roundw
        case rel => exact ⟨k + 1, by omega, by go_num, b6⟩
        case measure => simp [intOf]; omega
    · obtain rfl : k = n := by omega
      have hnl : ¬ (k : Int) < k := by omega
      go_wp2_with fail
      go_ret
      exact ⟨rfl, hbw⟩

end Go.Proofs.YtkjlchfmplcobaeGreatDoor

/- Things that are done, as rows of a call's own. -/
namespace Go.Proofs.YtkjlchfmplcobaeGreatDoor
open Go.RowKit

theorem own7_form {w : World} {base : Nat} {e : TypeId} {v : Value} {n : Nat} {xs : List Value} (h : w.ownsRow base e 7 v n xs) : ∃ a c, v = .slice a n c := by
  rcases h.2 with ⟨hv, rfl⟩ | ⟨g, cap, cur, hv, -⟩
  · exact ⟨none, 0, hv⟩
  · exact ⟨_, cap, hv⟩
theorem own7_block {w : World} {base : Nat} {e : TypeId} {v : Value} {n : Nat} {xs : List Value} (h : w.ownsRow base e 7 v n xs) {q : Nat} (hq : v.ownBlock = some q) : base ≤ q := by
  rcases h.2 with ⟨e, -⟩ | ⟨g, cap, cur, e, hg, -⟩
  · rw [e] at hq; cases hq
  · rw [e] at hq; cases hq; exact hg
/-- The values of one thing that is done. -/
def ddV (x : Dd) (pa : Option Addr) (pc : Nat) : List Value := [.int .i64 x.kind, .int .i64 x.n, .int .i64 x.time, .slice pa x.entry.length pc, .int .i64 x.segment, .int .i64 x.at', .int .u8 x.by']
/-- The values of several, whose entries lie in the world w. -/
def DoEls (w : World) (vs : List Value) (l : List Dd) : Prop :=
  vs.length = l.length * 7 ∧ ∀ j, j < l.length → ∃ pa pc, Some' w (.slice pa (l.getD j dd0).entry.length pc) (l.getD j dd0).entry ∧ DdFit (l.getD j dd0) ∧ ∀ i, i < 7 → vs[j * 7 + i]? = (ddV (l.getD j dd0) pa pc)[i]?
theorem DoEls.snoc {w : World} {vs : List Value} {l : List Dd} {x : Dd} {pa : Option Addr} {pc : Nat} (h : DoEls w vs l) (hx : Some' w (.slice pa x.entry.length pc) x.entry) (hb : DdFit x) : DoEls w (vs ++ ddV x pa pc) (l ++ [x]) := by
  obtain ⟨hl, h⟩ := h
  refine ⟨by rw [List.length_append, List.length_append, hl]; show l.length * 7 + 7 = (l.length + 1) * 7; omega, fun j hj => ?_⟩
  by_cases e : j < l.length
  · obtain ⟨qa, qc, h1, h2, h3⟩ := h j e
    have eg : (l ++ [x]).getD j dd0 = l.getD j dd0 := by rw [snoc_get, if_pos e]
    rw [eg]
    refine ⟨qa, qc, h1, h2, fun i hi => ?_⟩
    rw [List.getElem?_append_left (by omega)]
    exact h3 i hi
  · obtain rfl : j = l.length := by simp at hj; omega
    have eg : (l ++ [x]).getD l.length dd0 = x := by rw [snoc_get, if_neg (Nat.lt_irrefl _), if_pos rfl]
    rw [eg]
    refine ⟨pa, pc, hx, hb, fun i hi => ?_⟩
    rw [List.getElem?_append_right (by omega), hl, show l.length * 7 + i - l.length * 7 = i by omega]
end Go.Proofs.YtkjlchfmplcobaeGreatDoor

/- Segments as rows of a call's own; parts of lists. -/
namespace Go.Proofs.YtkjlchfmplcobaeGreatDoor
open Go.RowKit

theorem Tryz.info104b : (Tryz.prog.info? 104).map (fun i => (i.zero, i.size, i.bytes)) = some (some (.agg #[.int .i64 0, .int .i64 0, .slice none 0 0]), 3, 40) := by kernel_rfl
theorem Lists.part {w : World} {b off n c i m : Nat} {L : List (List Int)} (h : Lists w (some ⟨b, off, none⟩) n c L) (hi : i + m ≤ n) (hm : 1 ≤ m) : Lists w (some ⟨b, off + i, none⟩) m (c - i) ((L.drop i).take m) := by
  have hl := h.len
  have hr := h.room
  have hc := h.cap
  have hd := h.at'.drop (k := i) hl (by omega) (by omega) (c - i)
  refine ⟨by rw [List.length_take, List.length_drop]; omega, hd.take (by rw [List.length_drop]; omega) (by omega) (by omega) _, by omega, by omega, fun e => (by cases e), ?_, ?_⟩
  · refine take_bytes (fun j => ?_) m
    rw [List.getD_eq_getElem?_getD, List.getElem?_drop, ← List.getD_eq_getElem?_getD]; exact h.bytes _
  · refine take_short (fun j => ?_) m
    rw [List.getD_eq_getElem?_getD, List.getElem?_drop, ← List.getD_eq_getElem?_getD]; exact h.short _
theorem own3_below {w w' : World} {base : Nat} {e : TypeId} {v : Value} {n N : Nat} {xs : List Value} (h : w.ownsRow base e 3 v n xs) (hb : Below N w w') (hN : w.heap.size ≤ N) : w'.ownsRow base e 3 v n xs :=
  h.kept (w' := w') (row := none) ⟨hb.os, hb.tape, hb.output, hb.size, fun k hk _ => hb.block k (Nat.lt_of_lt_of_le hk hN)⟩ (by cases v.ownBlock <;> simp)
theorem own_ne3 {w : World} {base b2 : Nat} {e1 e2 : TypeId} {v1 v2 : Value} {n1 n2 : Nat} {xs1 xs2 : List Value} (h1 : w.ownsRow base e1 1 v1 n1 xs1) (h2 : w.ownsRow b2 e2 3 v2 n2 xs2) (hne : e1 ≠ e2) : Sep v1 v2 := fun g hg1 hg2 => by
  rcases h1.2 with ⟨rfl, -⟩ | ⟨g1, c1, cur1, rfl, -, hh1, -⟩
  · cases hg1
  rcases h2.2 with ⟨rfl, -⟩ | ⟨g2, c2, cur2, rfl, -, hh2, -⟩
  · cases hg2
  cases hg1
  cases hg2
  rw [hh1] at hh2
  cases hh2
  exact hne rfl
/-- The values of segments, each with bytes of the call's own. -/
def SegEls (w : World) (base : Nat) (vs : List Value) (l : List Seg) : Prop :=
  vs.length = l.length * 3 ∧ ∀ j, j < l.length → vs[j * 3]? = some (.int .i64 (l.getD j seg0).first) ∧ vs[j * 3 + 1]? = some (.int .i64 (l.getD j seg0).count) ∧
    ∃ y, vs[j * 3 + 2]? = some y ∧ w.ownsRow base 5 1 y (l.getD j seg0).packed.length ((l.getD j seg0).packed.map (Value.int .u8))
theorem SegEls.kept {w w' : World} {base b2 : Nat} {vs : List Value} {l : List Seg} {v : Value} {n : Nat} {xs : List Value} (h : SegEls w base vs l) (hr : w.ownsRow b2 104 3 v n xs) (hg : w.grownBy w' v.ownBlock) : SegEls w' base vs l :=
  ⟨h.1, fun j hj => by
    obtain ⟨h0, h1, y, h2, h3⟩ := h.2 j hj
    exact ⟨h0, h1, y, h2, h3.kept hg (own_ne3 h3 hr (by decide)).or⟩⟩
theorem SegEls.alloc {w : World} {base : Nat} {vs : List Value} {l : List Seg} (h : SegEls w base vs l) (o : Obj) : SegEls (w.alloc o) base vs l :=
  ⟨h.1, fun j hj => by
    obtain ⟨h0, h1, y, h2, h3⟩ := h.2 j hj
    exact ⟨h0, h1, y, h2, h3.alloc o⟩⟩
theorem SegEls.below {w w' : World} {base N : Nat} {vs : List Value} {l : List Seg} (h : SegEls w base vs l) (hb : Below N w w') (hN : w.heap.size ≤ N) : SegEls w' base vs l :=
  ⟨h.1, fun j hj => by
    obtain ⟨h0, h1, y, h2, h3⟩ := h.2 j hj
    exact ⟨h0, h1, y, h2, own_below h3 hb hN⟩⟩
theorem SegEls.snoc {w : World} {base : Nat} {vs : List Value} {l : List Seg} {s : Seg} {y : Value} (h : SegEls w base vs l) (hy : w.ownsRow base 5 1 y s.packed.length (s.packed.map (Value.int .u8))) : SegEls w base (vs ++ [.int .i64 s.first, .int .i64 s.count, y]) (l ++ [s]) := by
  obtain ⟨hl, h⟩ := h
  refine ⟨by simp; omega, fun j hj => ?_⟩
  by_cases e : j < l.length
  · obtain ⟨h0, h1, z, h2, h3⟩ := h j e
    have eg : (l ++ [s]).getD j seg0 = l.getD j seg0 := by rw [List.getD_eq_getElem?_getD, List.getElem?_append_left e, ← List.getD_eq_getElem?_getD]
    rw [eg, List.getElem?_append_left (by omega), List.getElem?_append_left (by omega), List.getElem?_append_left (by omega)]
    exact ⟨h0, h1, z, h2, h3⟩
  · obtain rfl : j = l.length := by simp at hj; omega
    have eg : (l ++ [s]).getD l.length seg0 = s := by rw [List.getD_eq_getElem?_getD, List.getElem?_append_right (Nat.le_refl _), Nat.sub_self]; rfl
    rw [eg, List.getElem?_append_right (by omega), List.getElem?_append_right (by omega), List.getElem?_append_right (by omega), hl, Nat.sub_self, show l.length * 3 + 1 - l.length * 3 = 1 by omega, show l.length * 3 + 2 - l.length * 3 = 2 by omega]
    exact ⟨rfl, rfl, y, rfl, hy⟩
theorem segEls_nil (w : World) (base : Nat) : SegEls w base [] [] := ⟨rfl, fun _ hj => absurd hj (Nat.not_lt_zero _)⟩
/-- Segments, all of them the call's own. -/
def OwnSegs (w : World) (base : Nat) (v : Value) (l : List Seg) : Prop := ∃ vs, w.ownsRow base 104 3 v l.length vs ∧ SegEls w base vs l
theorem OwnSegs.below {w w' : World} {base N : Nat} {v : Value} {l : List Seg} (h : OwnSegs w base v l) (hb : Below N w w') (hN : w.heap.size ≤ N) : OwnSegs w' base v l := by
  obtain ⟨vs, h1, h2⟩ := h
  exact ⟨vs, own3_below h1 hb hN, h2.below hb hN⟩
theorem OwnSegs.set {w : World} {base k o : Nat} {v : Value} {l : List Seg} (h : OwnSegs w base v l) (hk : k < base) (u : Value) : OwnSegs (w.setCell ⟨k, o, none⟩ u) base v l := by
  obtain ⟨vs, h1, h2, h3⟩ := h
  refine ⟨vs, ownsRow_setCell_below h1 (a := ⟨k, o, none⟩) hk u, h2, fun j hj => ?_⟩
  obtain ⟨g0, g1, y, g2, g3⟩ := h3 j hj
  exact ⟨g0, g1, y, g2, ownsRow_setCell_below g3 (a := ⟨k, o, none⟩) hk u⟩
theorem OwnSegs.segs {w : World} {base : Nat} {v : Value} {l : List Seg} (h : OwnSegs w base v l) (hby : SegsBytes l) : SegsAt w v l := by
  obtain ⟨vs, h1, -, h2⟩ := h
  rcases h1.2 with ⟨hv, hn⟩ | ⟨g, cap, cur, rfl, -, hg, h3, h4, -⟩
  · exact ⟨none, 0, by rw [hv, hn], by omega, Nat.zero_le _, fun _ => rfl, .inl hn⟩
  · refine ⟨_, cap, rfl, h3, h4, (fun e => by cases e), .inr ⟨g, 0, rfl, lt_heap hg, fun j hj => ?_⟩⟩
    obtain ⟨g0, g1, y, g2, g3⟩ := h2 j hj
    rw [Nat.zero_add]
    refine ⟨(h1.cellAt (j * 3) (by omega)).trans g0, (h1.cellAt (j * 3 + 1) (by omega)).trans g1, ?_⟩
    obtain ⟨pa, pc, rfl, q1, q2⟩ := own_cap g3
    exact ⟨pa, pc, (h1.cellAt (j * 3 + 2) (by omega)).trans g2, ⟨bytesAt_own g3, hby j, by omega⟩, q1, q2⟩
/-- Each segment's bytes lie in a later block than those of the one ahead. -/
def RiseV (vs : List Value) (m : Nat) : Prop := ∀ i j, i < j → j < m → ∀ y z g h, vs[i * 3 + 2]? = some y → vs[j * 3 + 2]? = some z → y.ownBlock = some g → z.ownBlock = some h → g < h
theorem riseV_nil : RiseV [] 0 := fun _ _ _ h => absurd h (Nat.not_lt_zero _)
theorem RiseV.snoc {w : World} {base m : Nat} {vs : List Value} {l : List Seg} {a b y : Value} (h : RiseV vs m) (he : SegEls w base vs l) (hm : l.length = m) (hy : ∀ g, y.ownBlock = some g → w.heap.size ≤ g) : RiseV (vs ++ [a, b, y]) (m + 1) := fun i j hij hj u z g q hu hz hg hq => by
  have hl : vs.length = m * 3 := by rw [← hm]; exact he.1
  rw [List.getElem?_append_left (by omega)] at hu
  by_cases e : j < m
  · rw [List.getElem?_append_left (by omega)] at hz
    exact h i j hij e u z g q hu hz hg hq
  · obtain rfl : j = m := by omega
    rw [List.getElem?_append_right (by omega), hl, show j * 3 + 2 - j * 3 = 2 by omega] at hz
    cases hz
    obtain ⟨-, -, x, h1, h2⟩ := he.2 i (by omega)
    rw [hu] at h1
    cases h1
    have := (h2.lt g hg).2
    have := hy q hq
    omega
theorem lit_seg (w : World) (x y : Int) (pv : Value) (t : TypeId) : ∀ (j : Nat) (u : Value), [Value.int .i64 x, .int .i64 y, pv][j]? = some u → (w.alloc (.cells #[.int .i64 x, .int .i64 y, pv] t)).cell? ((⟨w.heap.size, 0, none⟩ : Addr).add j) = some u := fun j u hj => by
  have hadd : (⟨w.heap.size, 0, none⟩ : Addr).add j = ⟨w.heap.size, 0 + j, none⟩ := Addr.add_mid _ _ _
  rw [hadd, Nat.zero_add]
  match j, hj with
  | 0, hj => rw [new_cell w t _ 0 (by simp)]; simpa using hj
  | 1, hj => rw [new_cell w t _ 1 (by simp)]; simpa using hj
  | 2, hj => rw [new_cell w t _ 2 (by simp)]; simpa using hj
  | j + 3, hj => simp at hj
theorem segK_bytes {L : List (List Int)} (hb : ∀ j, Bytes (L.getD j [])) (h : ∀ e ∈ L, e.length ≤ 200) (k : Nat) : Bytes (segK L k).packed := by
  refine pack_bytes ?_ (lay_part h k)
  refine bytes_of_mem (fun x hx => ?_)
  unfold layL at hx
  obtain ⟨e, he, hx⟩ := List.mem_flatMap.1 hx
  have h200 := short_part h k e he
  rcases List.mem_cons.1 hx with rfl | hx
  · omega
  · obtain ⟨j, hj, rfl⟩ := List.mem_iff_getElem.1 (List.mem_of_mem_drop (List.mem_of_mem_take he))
    have := hb j
    rw [List.getD_eq_getElem?_getD, List.getElem?_eq_getElem hj] at this
    exact bytes_forall this x hx
theorem segsL_bytes {L : List (List Int)} (hb : ∀ j, Bytes (L.getD j [])) (h : ∀ e ∈ L, e.length ≤ 200) : SegsBytes (segsL L) := fun j => by
  by_cases hj : j < (L.length + 7) / 8
  · unfold segsL; rw [segsN_get _ _ _ hj]; exact segK_bytes hb h j
  · rw [List.getD_eq_getElem?_getD, List.getElem?_eq_none (by unfold segsL; rw [segsN_length]; omega)]; exact nil_bytes
/-- The text of a part. -/
theorem lay_bytes {l : List (List Int)} (hb : ∀ j, Bytes (l.getD j [])) (h : ∀ j, (l.getD j []).length ≤ 200) : Bytes (layL l) := by
  refine bytes_of_mem (fun x hx => ?_)
  unfold layL at hx
  obtain ⟨e, he, hx⟩ := List.mem_flatMap.1 hx
  obtain ⟨j, hj, rfl⟩ := List.mem_iff_getElem.1 he
  have h1 := hb j
  have h2 := h j
  rw [List.getD_eq_getElem?_getD, List.getElem?_eq_getElem hj] at h1 h2
  rcases List.mem_cons.1 hx with rfl | hx
  · simp at h2; omega
  · exact bytes_forall h1 x hx

end Go.Proofs.YtkjlchfmplcobaeGreatDoor

/- A fleet that goes on, in memory: what each block of it is for. Nothing of the program's functions is in it. -/
namespace Go.Proofs.YtkjlchfmplcobaeGreatDoor
open Go.RowKit

theorem five_free {w : World} {k : Nat} {a b c d e : Value} {t : TypeId} (h : w.heap[k]? = some (.cells #[a, b, c, d, e] t (0, 0))) : w.frozen? ⟨k, 0, none⟩ = false ∧ w.frozen? ⟨k, 1, none⟩ = false ∧ w.frozen? ⟨k, 2, none⟩ = false ∧ w.frozen? ⟨k, 3, none⟩ = false ∧ w.frozen? ⟨k, 4, none⟩ = false :=
  ⟨frozen_of_row w k 0 _ t h, frozen_of_row w k 1 _ t h, frozen_of_row w k 2 _ t h, frozen_of_row w k 3 _ t h, frozen_of_row w k 4 _ t h⟩
/-- What a block is for. -/
abbrev Tag := Nat × Nat × Nat
def tNo : Tag := (0, 0, 0)
def tFix : Tag := (1, 0, 0)
def tSh : Tag := (2, 0, 0)
def tFl : Tag := (3, 0, 0)
def tBk : Tag := (4, 0, 0)
def tAn : Tag := (5, 0, 0)
def tEnt (k : Nat) : Tag := (6, k, 0)
def tSeg (k : Nat) : Tag := (7, k, 0)
def tPk (k j : Nat) : Tag := (8, k, j)
/-- From n on all blocks are for t. -/
def ext (τ : Nat → Tag) (n : Nat) (t : Tag) : Nat → Tag := fun b => if b < n then τ b else t
theorem ext_old {τ : Nat → Tag} {n b : Nat} {t : Tag} (h : b < n) : ext τ n t b = τ b := if_pos h
theorem ext_new {τ : Nat → Tag} {n b : Nat} {t : Tag} (h : n ≤ b) : ext τ n t b = t := if_neg (by omega)
/-- A value's block is there, and is for t. -/
def Tg (τ : Nat → Tag) (w : World) (t : Tag) (v : Value) : Prop := ∀ b, v.ownBlock = some b → b < w.heap.size ∧ τ b = t
/-- But for one block all is as it was; and what blocks were for stays. -/
structure Upd (τ τ' : Nat → Tag) (w w' : World) (row : Option Nat) : Prop where
  grow : w.grownBy w' row
  same : ∀ b, b < w.heap.size → τ' b = τ b
theorem grown_below {w w' : World} (h : Below w.heap.size w w') : w.grownBy w' none := ⟨h.os, h.tape, h.output, h.size, fun k hk _ => h.block k hk⟩
theorem grown_set (w : World) (k o : Nat) (u : Value) : w.grownBy (w.setCell ⟨k, o, none⟩ u) (some k) := ⟨rfl, rfl, rfl, by simp, fun j _ hj => heap_setCell_other w ⟨k, o, none⟩ j u (fun e => hj (by simp [e]))⟩
theorem Upd.refl (τ : Nat → Tag) (w : World) (row : Option Nat) : Upd τ τ w w row := ⟨World.grownBy.refl _ _, fun _ _ => rfl⟩
theorem upd_call {τ : Nat → Tag} {w w' : World} (h : Below w.heap.size w w') (t : Tag) : Upd τ (ext τ w.heap.size t) w w' none := ⟨grown_below h, fun _ hb => ext_old hb⟩
theorem upd_same {τ : Nat → Tag} {w w' : World} (h : Below w.heap.size w w') : Upd τ τ w w' none := ⟨grown_below h, fun _ _ => rfl⟩
theorem upd_set (τ : Nat → Tag) (w : World) (k o : Nat) (u : Value) : Upd τ τ w (w.setCell ⟨k, o, none⟩ u) (some k) := ⟨grown_set w k o u, fun _ _ => rfl⟩
theorem Tg.upd {τ τ' : Nat → Tag} {w w' : World} {t : Tag} {v : Value} {row : Option Nat} (h : Tg τ w t v) (u : Upd τ τ' w w' row) : Tg τ' w' t v := fun b hb => by
  obtain ⟨h1, h2⟩ := h b hb
  exact ⟨Nat.lt_of_lt_of_le h1 u.grow.size, (u.same b h1).trans h2⟩
theorem Tg.off {τ : Nat → Tag} {w : World} {t : Tag} {v : Value} {row : Option Nat} (h : Tg τ w t v) (hne : ∀ b, row = some b → τ b ≠ t) : v.ownBlock = none ∨ v.ownBlock ≠ row := by
  cases e : v.ownBlock with
  | none => exact .inl rfl
  | some g => exact .inr (fun h' => hne g h'.symm (h g e).2)
theorem tg_nil (τ : Nat → Tag) (w : World) (t : Tag) (n c : Nat) : Tg τ w t (.slice none n c) := fun b hb => by cases hb
theorem Some'.grown {w w' : World} {v : Value} {d : List Int} {row : Option Nat} (h : Some' w v d) (g : w.grownBy w' row) (hne : v.ownBlock = none ∨ v.ownBlock ≠ row) : Some' w' v d := by
  refine ⟨?_, h.bytes, h.short⟩
  rcases h.at' with h1 | ⟨b, off, cp, h1, h2, h3⟩
  · exact .inl h1
  · refine .inr ⟨b, off, cp, h1, Nat.lt_of_lt_of_le h2 g.size, fun j hj => ?_⟩
    rw [World.cell?_of_block (a := ⟨b, off + j, none⟩) (g.block b h2 (by subst h1; simpa [Value.ownBlock] using hne))]
    exact h3 j hj
/-- Bytes that nobody writes any more. -/
structure ByM (τ : Nat → Tag) (w : World) (v : Value) (d : List Int) : Prop where
  here : Some' w v d
  tag : Tg τ w tFix v
theorem ByM.upd {τ τ' : Nat → Tag} {w w' : World} {v : Value} {d : List Int} {row : Option Nat} (h : ByM τ w v d) (u : Upd τ τ' w w' row) (hf : ∀ b, row = some b → τ b ≠ tFix) : ByM τ' w' v d := ⟨h.here.grown u.grow (h.tag.off hf), h.tag.upd u⟩
theorem byM_nil (τ : Nat → Tag) (w : World) : ByM τ w (.slice none 0 0) [] := ⟨some_nil w, tg_nil _ _ _ _ _⟩
theorem own_small {w : World} {base : Nat} {e : TypeId} {size : Nat} {v : Value} {n : Nat} {xs : List Value} (h : w.ownsRow base e size v n xs) : n ≤ maxLen := by
  rcases h.2 with ⟨-, rfl⟩ | ⟨g, cap, cur, -, -, -, h1, h2, -⟩
  · exact Nat.zero_le _
  · exact Nat.le_trans h1 h2
theorem byM_own {τ : Nat → Tag} {w w' : World} {v : Value} {d : List Int} {n : Nat} (h : w'.ownsRow w.heap.size 5 1 v n (d.map (Value.int .u8))) (hb : Bytes d) : ByM (ext τ w.heap.size tFix) w' v d := by
  have hl : d.length = n := by simpa using h.1
  refine ⟨⟨bytesAt_own h, hb, by rw [hl]; exact own_small h⟩, fun b hv => ?_⟩
  obtain ⟨h1, h2⟩ := h.lt b hv
  exact ⟨h2, ext_new h1⟩
/-- A shard's entries. -/
def EntM (τ : Nat → Tag) (N : Nat) (w : World) (k : Nat) (v : Value) (es : List (List Int)) : Prop :=
  Tg τ w (tEnt k) v ∧ ∃ xs, w.ownsRow N 37 1 v es.length xs ∧ ∀ j, j < es.length → ∃ y, xs[j]? = some y ∧ ByM τ w y (es.getD j [])
theorem EntM.upd {τ τ' : Nat → Tag} {N : Nat} {w w' : World} {k : Nat} {v : Value} {es : List (List Int)} {row : Option Nat} (h : EntM τ N w k v es) (u : Upd τ τ' w w' row) (hf : ∀ b, row = some b → τ b ≠ tFix) (he : ∀ b, row = some b → τ b ≠ tEnt k) : EntM τ' N w' k v es := by
  obtain ⟨h1, xs, h2, h3⟩ := h
  refine ⟨h1.upd u, xs, h2.kept u.grow (h1.off he), fun j hj => ?_⟩
  obtain ⟨y, h4, h5⟩ := h3 j hj
  exact ⟨y, h4, h5.upd u hf⟩
theorem entM_nil (τ : Nat → Tag) (N : Nat) (w : World) (k : Nat) : EntM τ N w k (.slice none 0 0) [] := ⟨tg_nil _ _ _ _ _, [], World.ownsRow_nil _ _ _ _, fun _ hj => absurd hj (Nat.not_lt_zero _)⟩
theorem EntM.form {τ : Nat → Tag} {N : Nat} {w : World} {k : Nat} {v : Value} {es : List (List Int)} (h : EntM τ N w k v es) : ∃ a c, v = .slice a es.length c := by
  obtain ⟨-, xs, h2, -⟩ := h
  exact own_form' h2
theorem EntM.lists {τ : Nat → Tag} {N : Nat} {w : World} {k : Nat} {a : Option Addr} {n c : Nat} {es : List (List Int)} (h : EntM τ N w k (.slice a n c) es) (hn : es.length = n) : Lists w a n c es := by
  obtain ⟨-, xs, h2, h3⟩ := h
  rw [hn] at h2 h3
  obtain ⟨a', c', e, hc1, hc2⟩ := own_cap h2
  cases e
  refine ⟨hn, ?_, hc1, hc2, own_nil h2, fun j => ?_, fun j => ?_⟩
  · refine parts_of_row h2 hn (fun j hj => ?_)
    obtain ⟨y, h4, h5⟩ := h3 j hj
    obtain ⟨ya, yc, rfl⟩ := h5.here.at'.form
    exact ⟨ya, _, yc, h4, h5.here.at'⟩
  · by_cases hj : j < n
    · obtain ⟨y, -, h5⟩ := h3 j hj; exact h5.here.bytes
    · rw [List.getD_eq_getElem?_getD, List.getElem?_eq_none (by omega)]; exact nil_bytes
  · by_cases hj : j < n
    · obtain ⟨y, -, h5⟩ := h3 j hj; exact h5.here.short
    · rw [List.getD_eq_getElem?_getD, List.getElem?_eq_none (by omega)]; exact Nat.zero_le _
/-- A segment's bytes. -/
def PkM (τ : Nat → Tag) (N : Nat) (w : World) (k j : Nat) (v : Value) (d : List Int) : Prop := Tg τ w (tPk k j) v ∧ w.ownsRow N 5 1 v d.length (d.map (Value.int .u8)) ∧ Bytes d
/-- A shard's segments. -/
def SegM (τ : Nat → Tag) (N : Nat) (w : World) (k : Nat) (v : Value) (l : List Seg) : Prop :=
  Tg τ w (tSeg k) v ∧ ∃ vs, w.ownsRow N 104 3 v l.length vs ∧ ∀ j, j < l.length → ∃ y, vs[j * 3]? = some (.int .i64 (l.getD j seg0).first) ∧ vs[j * 3 + 1]? = some (.int .i64 (l.getD j seg0).count) ∧ vs[j * 3 + 2]? = some y ∧ PkM τ N w k j y (l.getD j seg0).packed
theorem PkM.upd {τ τ' : Nat → Tag} {N : Nat} {w w' : World} {k j : Nat} {v : Value} {d : List Int} {row : Option Nat} (h : PkM τ N w k j v d) (u : Upd τ τ' w w' row) (hp : ∀ b, row = some b → τ b ≠ tPk k j) : PkM τ' N w' k j v d := ⟨h.1.upd u, h.2.1.kept u.grow (h.1.off hp), h.2.2⟩
theorem SegM.upd {τ τ' : Nat → Tag} {N : Nat} {w w' : World} {k : Nat} {v : Value} {l : List Seg} {row : Option Nat} (h : SegM τ N w k v l) (u : Upd τ τ' w w' row) (hs : ∀ b, row = some b → τ b ≠ tSeg k) (hp : ∀ j b, row = some b → τ b ≠ tPk k j) : SegM τ' N w' k v l := by
  obtain ⟨h1, vs, h2, h3⟩ := h
  refine ⟨h1.upd u, vs, h2.kept u.grow (h1.off hs), fun j hj => ?_⟩
  obtain ⟨y, h4, h5, h6, h7⟩ := h3 j hj
  exact ⟨y, h4, h5, h6, h7.upd u (hp j)⟩
theorem segM_nil (τ : Nat → Tag) (N : Nat) (w : World) (k : Nat) : SegM τ N w k (.slice none 0 0) [] := ⟨tg_nil _ _ _ _ _, [], World.ownsRow_nil _ _ _ _, fun _ hj => absurd hj (Nat.not_lt_zero _)⟩
theorem SegM.segs {τ : Nat → Tag} {N : Nat} {w : World} {k : Nat} {v : Value} {l : List Seg} (h : SegM τ N w k v l) : SegsAt w v l := by
  obtain ⟨-, vs, h1, h2⟩ := h
  rcases h1.2 with ⟨hv, hn⟩ | ⟨g, cap, cur, rfl, -, hg, h3, h4, -⟩
  · exact ⟨none, 0, by rw [hv, hn], by omega, Nat.zero_le _, fun _ => rfl, .inl hn⟩
  · refine ⟨_, cap, rfl, h3, h4, (fun e => by cases e), .inr ⟨g, 0, rfl, lt_heap hg, fun j hj => ?_⟩⟩
    obtain ⟨y, g0, g1, g2, -, g3, g4⟩ := h2 j hj
    rw [Nat.zero_add]
    refine ⟨(h1.cellAt (j * 3) (by omega)).trans g0, (h1.cellAt (j * 3 + 1) (by omega)).trans g1, ?_⟩
    obtain ⟨pa, pc, rfl, q1, q2⟩ := own_cap g3
    exact ⟨pa, pc, (h1.cellAt (j * 3 + 2) (by omega)).trans g2, ⟨bytesAt_own g3, g4, by omega⟩, q1, q2⟩
theorem SegM.form {τ : Nat → Tag} {N : Nat} {w : World} {k : Nat} {v : Value} {l : List Seg} (h : SegM τ N w k v l) : ∃ a c, v = .slice a l.length c := by
  obtain ⟨a, c, e, -⟩ := h.segs
  exact ⟨a, c, e⟩
/-- A shard's cells. -/
abbrev ShV := Value × Value × Value
def shdV (s : Shd) (v : ShV) : List Value := [.int .i64 s.from', .int .i64 s.to', .int .i64 s.state, v.1, .int .i64 s.man.size, v.2.1, v.2.2]
/-- The shards. -/
structure ShM (τ : Nat → Tag) (N : Nat) (w : World) (sv : Value) (ss : List Shd) (V : Nat → ShV) : Prop where
  tag : Tg τ w tSh sv
  row : ∃ vs, w.ownsRow N 65 7 sv ss.length vs ∧ ∀ k, k < ss.length → ∀ i, i < 7 → vs[k * 7 + i]? = (shdV (ss.getD k shd0) (V k))[i]?
  ent : ∀ k, k < ss.length → EntM τ N w k (V k).1 (ss.getD k shd0).entries
  root : ∀ k, k < ss.length → ByM τ w (V k).2.1 (ss.getD k shd0).man.root
  seg : ∀ k, k < ss.length → SegM τ N w k (V k).2.2 (ss.getD k shd0).man.segs
theorem ShM.upd {τ τ' : Nat → Tag} {N : Nat} {w w' : World} {sv : Value} {ss : List Shd} {V : Nat → ShV} {row : Option Nat} (h : ShM τ N w sv ss V) (u : Upd τ τ' w w' row) (hr : ∀ b, row = some b → τ b = tNo ∨ τ b = tFl ∨ τ b = tBk ∨ τ b = tAn) : ShM τ' N w' sv ss V := by
  have ne : ∀ t : Tag, t ≠ tNo → t ≠ tFl → t ≠ tBk → t ≠ tAn → ∀ b, row = some b → τ b ≠ t := fun t h1 h2 h3 h4 b hb e => by
    rcases hr b hb with g | g | g | g
    · exact h1 (e.symm.trans g)
    · exact h2 (e.symm.trans g)
    · exact h3 (e.symm.trans g)
    · exact h4 (e.symm.trans g)
  have n1 := ne tFix (by decide) (by decide) (by decide) (by decide)
  have n2 := ne tSh (by decide) (by decide) (by decide) (by decide)
  have n3 := fun k => ne (tEnt k) (by simp [tEnt, tNo]) (by simp [tEnt, tFl]) (by simp [tEnt, tBk]) (by simp [tEnt, tAn])
  have n4 := fun k => ne (tSeg k) (by simp [tSeg, tNo]) (by simp [tSeg, tFl]) (by simp [tSeg, tBk]) (by simp [tSeg, tAn])
  have n5 := fun k j => ne (tPk k j) (by simp [tPk, tNo]) (by simp [tPk, tFl]) (by simp [tPk, tBk]) (by simp [tPk, tAn])
  obtain ⟨vs, h1, h2⟩ := h.row
  exact ⟨h.tag.upd u, ⟨vs, h1.kept u.grow (h.tag.off n2), h2⟩, fun k hk => (h.ent k hk).upd u n1 (n3 k), fun k hk => (h.root k hk).upd u n1, fun k hk => (h.seg k hk).upd u (n4 k) (n5 k)⟩
theorem ShM.shards {τ : Nat → Tag} {N : Nat} {w : World} {sv : Value} {ss : List Shd} {V : Nat → ShV} (h : ShM τ N w sv ss V) : ShdsAt w sv ss := by
  obtain ⟨vs, h1, h2⟩ := h.row
  rcases h1.2 with ⟨hv, hn⟩ | ⟨g, cap, cur, rfl, -, hg, h3, h4, -⟩
  · exact ⟨none, 0, by rw [hv, hn], by omega, Nat.zero_le _, fun _ => rfl, .inl hn⟩
  · refine ⟨_, cap, rfl, h3, h4, (fun e => by cases e), .inr ⟨g, 0, rfl, lt_heap hg, fun k hk => ?_⟩⟩
    have hc : ∀ i, i < 7 → w.cell? ⟨g, 0 + k * 7 + i, none⟩ = (shdV (ss.getD k shd0) (V k))[i]? := fun i hi => by rw [Nat.zero_add]; exact (h1.cellAt (k * 7 + i) (by omega)).trans (h2 k hk i hi)
    have hE := h.ent k hk
    obtain ⟨ea, ec, e1⟩ := hE.form
    obtain ⟨ra, rc, e2⟩ := (h.root k hk).here.at'.form
    obtain ⟨ga, gc, e3⟩ := (h.seg k hk).form
    rw [e1] at hE
    refine ⟨hc 0 (by omega), hc 1 (by omega), hc 2 (by omega), ⟨ea, ec, ?_, hE.lists rfl⟩, hc 4 (by omega), ⟨ra, rc, ?_, by rw [← e2]; exact (h.root k hk).here⟩, ⟨ga, gc, ?_, by rw [← e3]; exact (h.seg k hk).segs⟩⟩
    · rw [hc 3 (by omega), ← e1]; rfl
    · rw [hc 5 (by omega), ← e2]; rfl
    · rw [hc 6 (by omega), ← e3]; rfl
/-- A record's cells. -/
def recCs (r : Rec) (v : Value) : List Value := [.int .i64 r.shard, .int .i64 r.from', .int .i64 r.to', .int .i64 r.size, v]
/-- The book. -/
def BkM (τ : Nat → Tag) (N : Nat) (w : World) (bv : Value) (l : List Rec) : Prop :=
  Tg τ w tBk bv ∧ ∃ ys, w.ownsRow N 45 5 bv l.length ys ∧ ∀ j, j < l.length → ∃ rv, (∀ i, i < 5 → ys[j * 5 + i]? = (recCs (l.getD j rec0) rv)[i]?) ∧ ByM τ w rv (l.getD j rec0).root
theorem BkM.upd {τ τ' : Nat → Tag} {N : Nat} {w w' : World} {bv : Value} {l : List Rec} {row : Option Nat} (h : BkM τ N w bv l) (u : Upd τ τ' w w' row) (hf : ∀ b, row = some b → τ b ≠ tFix) (hb : ∀ b, row = some b → τ b ≠ tBk) : BkM τ' N w' bv l := by
  obtain ⟨h1, ys, h2, h3⟩ := h
  refine ⟨h1.upd u, ys, h2.kept u.grow (h1.off hb), fun j hj => ?_⟩
  obtain ⟨rv, h4, h5⟩ := h3 j hj
  exact ⟨rv, h4, h5.upd u hf⟩
theorem bkM_nil (τ : Nat → Tag) (N : Nat) (w : World) : BkM τ N w (.slice none 0 0) [] := ⟨tg_nil _ _ _ _ _, [], World.ownsRow_nil _ _ _ _, fun _ hj => absurd hj (Nat.not_lt_zero _)⟩
theorem BkM.recs {τ : Nat → Tag} {N : Nat} {w : World} {bv : Value} {l : List Rec} (h : BkM τ N w bv l) : RecsAt w bv l := by
  obtain ⟨-, ys, h1, h2⟩ := h
  rcases h1.2 with ⟨hv, hn⟩ | ⟨g, cap, cur, rfl, -, hg, h3, h4, -⟩
  · exact ⟨none, 0, by rw [hv, hn], by omega, Nat.zero_le _, fun _ => rfl, .inl hn⟩
  · refine ⟨_, cap, rfl, h3, h4, (fun e => by cases e), .inr ⟨g, 0, rfl, lt_heap hg, fun k hk => ?_⟩⟩
    obtain ⟨rv, h5, h6⟩ := h2 k hk
    have hc : ∀ i, i < 5 → w.cell? ⟨g, 0 + k * 5 + i, none⟩ = (recCs (l.getD k rec0) rv)[i]? := fun i hi => by rw [Nat.zero_add]; exact (h1.cellAt (k * 5 + i) (by omega)).trans (h5 i hi)
    obtain ⟨ra, rc, e2⟩ := h6.here.at'.form
    subst e2
    exact ⟨hc 0 (by omega), hc 1 (by omega), hc 2 (by omega), hc 3 (by omega), ra, rc, hc 4 (by omega), h6.here⟩
/-- The answers. -/
def ansV (x : Ans) (v : Value) : List Value := [.int .i64 x.err, .int .i64 x.shard, .int .i64 x.place, .int .i64 x.size, v]
def AnM (τ : Nat → Tag) (N : Nat) (w : World) (av : Value) (l : List Ans) : Prop :=
  Tg τ w tAn av ∧ ∃ ys, w.ownsRow N 41 5 av l.length ys ∧ ∀ j, j < l.length → ∃ rv, (∀ i, i < 5 → ys[j * 5 + i]? = (ansV (l.getD j ans0) rv)[i]?) ∧ ByM τ w rv (l.getD j ans0).root
theorem AnM.upd {τ τ' : Nat → Tag} {N : Nat} {w w' : World} {bv : Value} {l : List Ans} {row : Option Nat} (h : AnM τ N w bv l) (u : Upd τ τ' w w' row) (hf : ∀ b, row = some b → τ b ≠ tFix) (hb : ∀ b, row = some b → τ b ≠ tAn) : AnM τ' N w' bv l := by
  obtain ⟨h1, ys, h2, h3⟩ := h
  refine ⟨h1.upd u, ys, h2.kept u.grow (h1.off hb), fun j hj => ?_⟩
  obtain ⟨rv, h4, h5⟩ := h3 j hj
  exact ⟨rv, h4, h5.upd u hf⟩
theorem AnM.anss {τ : Nat → Tag} {N : Nat} {w : World} {bv : Value} {l : List Ans} (h : AnM τ N w bv l) : AnssAt w bv l := by
  obtain ⟨-, ys, h1, h2⟩ := h
  rcases h1.2 with ⟨hv, hn⟩ | ⟨g, cap, cur, rfl, -, hg, h3, h4, -⟩
  · exact ⟨none, 0, by rw [hv, hn], by omega, Nat.zero_le _, fun _ => rfl, .inl hn⟩
  · refine ⟨_, cap, rfl, h3, h4, (fun e => by cases e), .inr ⟨g, 0, rfl, lt_heap hg, fun k hk => ?_⟩⟩
    obtain ⟨rv, h5, h6⟩ := h2 k hk
    have hc : ∀ i, i < 5 → w.cell? ⟨g, 0 + k * 5 + i, none⟩ = (ansV (l.getD k ans0) rv)[i]? := fun i hi => by rw [Nat.zero_add]; exact (h1.cellAt (k * 5 + i) (by omega)).trans (h5 i hi)
    obtain ⟨ra, rc, e2⟩ := h6.here.at'.form
    subst e2
    exact ⟨hc 0 (by omega), hc 1 (by omega), hc 2 (by omega), hc 3 (by omega), ra, rc, hc 4 (by omega), h6.here⟩
/-- An answer by itself. -/
def AnV (τ : Nat → Tag) (w : World) (v : Value) (x : Ans) : Prop := ∃ rv, v = .agg #[.int .i64 x.err, .int .i64 x.shard, .int .i64 x.place, .int .i64 x.size, rv] ∧ ByM τ w rv x.root
/-- The fleet. -/
structure GoF (τ : Nat → Tag) (N : Nat) (w : World) (gp : Nat) (f : Flt) : Prop where
  low : N ≤ gp
  tag : τ gp = tFl
  parts : ∃ sv bv V, w.heap[gp]? = some (.cells #[sv, bv] 59 (0, 0)) ∧ ShM τ N w sv f.shards V ∧ BkM τ N w bv f.book
theorem GoF.upd {τ τ' : Nat → Tag} {N : Nat} {w w' : World} {gp : Nat} {f : Flt} {row : Option Nat} (h : GoF τ N w gp f) (u : Upd τ τ' w w' row) (hr : ∀ b, row = some b → τ b = tNo ∨ τ b = tAn) : GoF τ' N w' gp f := by
  obtain ⟨h0, h1, sv, bv, V, h2, h3, h4⟩ := h
  have ne : ∀ t : Tag, t ≠ tNo → t ≠ tAn → ∀ b, row = some b → τ b ≠ t := fun t h1 h4 b hb e => by
    rcases hr b hb with g | g
    · exact h1 (e.symm.trans g)
    · exact h4 (e.symm.trans g)
  have hg : w'.heap[gp]? = w.heap[gp]? := u.grow.block gp (lt_heap h2) (fun e => ne tFl (by decide) (by decide) gp e.symm h1)
  exact ⟨h0, (u.same gp (lt_heap h2)).trans h1, sv, bv, V, hg.trans h2, h3.upd u (fun b hb => (hr b hb).elim .inl (fun h => .inr (.inr (.inr h)))), h4.upd u (ne tFix (by decide) (by decide)) (ne tBk (by decide) (by decide))⟩
/-- What a call leaves as it was. -/
structure Keep (τ τ' : Nat → Tag) (N : Nat) (w w' : World) : Prop where
  low : Below N w w'
  size : w.heap.size ≤ w'.heap.size
  same : ∀ b, b < w.heap.size → τ' b = τ b
  block : ∀ b, b < w.heap.size → (τ b = tFix ∨ τ b = tNo ∨ τ b = tAn) → w'.heap[b]? = w.heap[b]?
theorem keep_upd {τ τ' : Nat → Tag} {N : Nat} {w w' : World} {row : Option Nat} (u : Upd τ τ' w w' row) (hN : N ≤ w.heap.size) (hr : ∀ b, row = some b → N ≤ b ∧ τ b ≠ tFix ∧ τ b ≠ tNo ∧ τ b ≠ tAn) : Keep τ τ' N w w' :=
  ⟨(Below.refl _ _).grown u.grow hN (fun b hb => (hr b hb).1), u.grow.size, u.same, fun b hb ht => u.grow.block b hb (fun e => by
    obtain ⟨-, n1, n2, n3⟩ := hr b e.symm
    rcases ht with h | h | h
    · exact n1 h
    · exact n2 h
    · exact n3 h)⟩
theorem Keep.trans {τ τ1 τ2 : Nat → Tag} {N : Nat} {a b c : World} (h : Keep τ τ1 N a b) (g : Keep τ1 τ2 N b c) : Keep τ τ2 N a c :=
  ⟨h.low.trans g.low, Nat.le_trans h.size g.size, fun k hk => (g.same k (Nat.lt_of_lt_of_le hk h.size)).trans (h.same k hk), fun k hk ht => (g.block k (Nat.lt_of_lt_of_le hk h.size) (by rw [h.same k hk]; exact ht)).trans (h.block k hk ht)⟩
theorem keep_call {τ : Nat → Tag} {N : Nat} {w w' : World} (h : Below w.heap.size w w') (hN : N ≤ w.heap.size) (t : Tag) : Keep τ (ext τ w.heap.size t) N w w' := keep_upd (upd_call h t) hN (fun _ hb => by cases hb)
/-- A new block of the call's own is written. -/
theorem keep_set {τ τ' : Nat → Tag} {N : Nat} {w0 w : World} (h : Keep τ τ' N w0 w) (hN : N ≤ w0.heap.size) {k : Nat} (hk : w0.heap.size ≤ k) (o : Nat) (u : Value) : Keep τ τ' N w0 (w.setCell ⟨k, o, none⟩ u) :=
  ⟨h.low.setCell (Nat.le_trans hN hk) _, by simpa using h.size, h.same, fun b hb ht => by
    rw [heap_setCell_other w ⟨k, o, none⟩ b u (fun e => by have e : b = k := e; omega)]
    exact h.block b hb ht⟩
theorem Keep.byM {τ τ' : Nat → Tag} {N : Nat} {w w' : World} {v : Value} {d : List Int} (h : Keep τ τ' N w w') (hb : ByM τ w v d) : ByM τ' w' v d := by
  refine ⟨⟨?_, hb.here.bytes, hb.here.short⟩, fun b hv => ?_⟩
  · rcases hb.here.at' with h1 | ⟨b, off, cp, h1, h2, h3⟩
    · exact .inl h1
    · refine .inr ⟨b, off, cp, h1, Nat.lt_of_lt_of_le h2 h.size, fun j hj => ?_⟩
      rw [World.cell?_of_block (a := ⟨b, off + j, none⟩) (h.block b h2 (.inl (hb.tag b (by subst h1; rfl)).2))]
      exact h3 j hj
  · obtain ⟨h1, h2⟩ := hb.tag b hv
    exact ⟨Nat.lt_of_lt_of_le h1 h.size, (h.same b h1).trans h2⟩
theorem Keep.anM {τ τ' : Nat → Tag} {N : Nat} {w w' : World} {v : Value} {l : List Ans} (h : Keep τ τ' N w w') (hb : AnM τ N w v l) : AnM τ' N w' v l := by
  obtain ⟨h1, ys, h2, h3⟩ := hb
  refine ⟨fun b hv => ?_, ys, ?_, fun j hj => ?_⟩
  · obtain ⟨g1, g2⟩ := h1 b hv
    exact ⟨Nat.lt_of_lt_of_le g1 h.size, (h.same b g1).trans g2⟩
  · refine ⟨h2.1, ?_⟩
    rcases h2.2 with hn | ⟨g, cap, cur, rfl, hb, hgg, rest⟩
    · exact .inl hn
    · exact .inr ⟨g, cap, cur, rfl, hb, (h.block g (lt_heap hgg) (.inr (.inr (h1 g rfl).2))).trans hgg, rest⟩
  · obtain ⟨rv, h4, h5⟩ := h3 j hj
    exact ⟨rv, h4, h.byM h5⟩
theorem Keep.box {τ τ' : Nat → Tag} {N : Nat} {w w' : World} {k : Nat} {x : Obj} (h : Keep τ τ' N w w') (ht : τ k = tNo) (hk : w.heap[k]? = some x) : w'.heap[k]? = some x := (h.block k (lt_heap hk) (.inr (.inl ht))).trans hk

end Go.Proofs.YtkjlchfmplcobaeGreatDoor

/- A fleet that goes on, in memory: how it is changed. Nothing of the program's functions is in it. -/
namespace Go.Proofs.YtkjlchfmplcobaeGreatDoor
open Go.RowKit

theorem shdV_length (s : Shd) (v : ShV) : (shdV s v).length = 7 := rfl
/-- The shards but for what the one of number k leads to. -/
structure ShO (τ : Nat → Tag) (N : Nat) (w : World) (sv : Value) (ss : List Shd) (V : Nat → ShV) (k : Nat) : Prop where
  tag : Tg τ w tSh sv
  row : ∃ vs, w.ownsRow N 65 7 sv ss.length vs ∧ ∀ k, k < ss.length → ∀ i, i < 7 → vs[k * 7 + i]? = (shdV (ss.getD k shd0) (V k))[i]?
  ent : ∀ j, j < ss.length → j ≠ k → EntM τ N w j (V j).1 (ss.getD j shd0).entries
  root : ∀ j, j < ss.length → j ≠ k → ByM τ w (V j).2.1 (ss.getD j shd0).man.root
  seg : ∀ j, j < ss.length → j ≠ k → SegM τ N w j (V j).2.2 (ss.getD j shd0).man.segs
theorem ShM.out {τ : Nat → Tag} {N : Nat} {w : World} {sv : Value} {ss : List Shd} {V : Nat → ShV} (h : ShM τ N w sv ss V) (k : Nat) : ShO τ N w sv ss V k := ⟨h.tag, h.row, fun j hj _ => h.ent j hj, fun j hj _ => h.root j hj, fun j hj _ => h.seg j hj⟩
theorem ShO.back {τ : Nat → Tag} {N : Nat} {w : World} {sv : Value} {ss : List Shd} {V : Nat → ShV} {k : Nat} (h : ShO τ N w sv ss V k) (h1 : EntM τ N w k (V k).1 (ss.getD k shd0).entries) (h2 : ByM τ w (V k).2.1 (ss.getD k shd0).man.root) (h3 : SegM τ N w k (V k).2.2 (ss.getD k shd0).man.segs) : ShM τ N w sv ss V := by
  refine ⟨h.tag, h.row, fun j hj => ?_, fun j hj => ?_, fun j hj => ?_⟩
  · by_cases e : j = k
    · subst e; exact h1
    · exact h.ent j hj e
  · by_cases e : j = k
    · subst e; exact h2
    · exact h.root j hj e
  · by_cases e : j = k
    · subst e; exact h3
    · exact h.seg j hj e
/-- What may be written while the shard k is turned. -/
def mine (k : Nat) (t : Tag) : Prop := t = tNo ∨ t = tFl ∨ t = tBk ∨ t = tAn ∨ t = tEnt k ∨ t = tSeg k ∨ ∃ j, t = tPk k j
theorem mine_fix {k : Nat} {t : Tag} (h : mine k t) : t ≠ tFix ∧ t ≠ tSh := by
  rcases h with rfl | rfl | rfl | rfl | rfl | rfl | ⟨j, rfl⟩ <;> simp [tNo, tFl, tBk, tAn, tEnt, tSeg, tPk, tFix, tSh]
theorem mine_other {k j : Nat} {t : Tag} (h : mine k t) (hj : j ≠ k) : t ≠ tEnt j ∧ t ≠ tSeg j ∧ ∀ i, t ≠ tPk j i := by
  rcases h with rfl | rfl | rfl | rfl | rfl | rfl | ⟨q, rfl⟩ <;> simp [tNo, tFl, tBk, tAn, tEnt, tSeg, tPk] <;> omega
theorem ShO.upd {τ τ' : Nat → Tag} {N : Nat} {w w' : World} {sv : Value} {ss : List Shd} {V : Nat → ShV} {k : Nat} {row : Option Nat} (h : ShO τ N w sv ss V k) (u : Upd τ τ' w w' row) (hr : ∀ b, row = some b → mine k (τ b)) : ShO τ' N w' sv ss V k := by
  obtain ⟨vs, h1, h2⟩ := h.row
  have n1 : ∀ b, row = some b → τ b ≠ tFix := fun b hb => (mine_fix (hr b hb)).1
  exact ⟨h.tag.upd u, ⟨vs, h1.kept u.grow (h.tag.off (fun b hb => (mine_fix (hr b hb)).2)), h2⟩, fun j hj hk => (h.ent j hj hk).upd u n1 (fun b hb => (mine_other (hr b hb) hk).1), fun j hj hk => (h.root j hj hk).upd u n1, fun j hj hk => (h.seg j hj hk).upd u (fun b hb => (mine_other (hr b hb) hk).2.1) (fun i b hb => (mine_other (hr b hb) hk).2.2 i)⟩
/-- Where a shard's cells lie. -/
theorem ShO.cells {τ : Nat → Tag} {N : Nat} {w : World} {sa : Option Addr} {n c k : Nat} {ss : List Shd} {V : Nat → ShV} (h : ShO τ N w (.slice sa n c) ss V k) (hn : ss.length = n) (hk : k < n) :
    ∃ sb, sa = some ⟨sb, 0, none⟩ ∧ N ≤ sb ∧ sb < w.heap.size ∧ τ sb = tSh ∧ (∀ i, w.frozen? ⟨sb, i, none⟩ = false) ∧ ∀ i, i < 7 → w.cell? ⟨sb, k * 7 + i, none⟩ = (shdV (ss.getD k shd0) (V k))[i]? := by
  obtain ⟨vs, h1, h2⟩ := h.row
  rw [hn] at h1 h2
  rcases h1.2 with ⟨-, h0⟩ | ⟨g, cap, cur, e, hb, hg, -⟩
  · omega
  · simp only [Value.slice.injEq, true_and] at e
    obtain ⟨rfl, rfl⟩ := e
    obtain ⟨t1, t2⟩ := h.tag g rfl
    exact ⟨g, rfl, hb, t1, t2, fun i => h1.frozenAt i, fun i hi => (h1.cellAt (k * 7 + i) (by omega)).trans (h2 k hk i hi)⟩
/-- One of its cells is written. -/
theorem ShO.store {τ : Nat → Tag} {N : Nat} {w : World} {sb n c k i : Nat} {ss : List Shd} {V : Nat → ShV} {s' : Shd} {v' : ShV} {u : Value} (h : ShO τ N w (.slice (some ⟨sb, 0, none⟩) n c) ss V k) (hn : ss.length = n) (hk : k < n) (hi : i < 7) (hs : shdV s' v' = (shdV (ss.getD k shd0) (V k)).set i u) :
    ShO τ N (w.setCell ⟨sb, k * 7 + i, none⟩ u) (.slice (some ⟨sb, 0, none⟩) n c) (ss.set k s') (fun j => if j = k then v' else V j) k := by
  obtain ⟨vs, h1, h2⟩ := h.row
  have ht := (h.tag sb rfl).2
  have U := upd_set τ w sb (k * 7 + i) u
  have ne : ∀ t : Tag, t ≠ tSh → ∀ b, some sb = some b → τ b ≠ t := fun t h1 b hb e => by cases hb; exact h1 (e.symm.trans ht)
  have hlen : (ss.set k s').length = ss.length := List.length_set
  rw [hn] at h1 h2
  obtain ⟨h3, -⟩ := h1.stored (k * 7 + i) u
  refine ⟨h.tag.upd U, ⟨vs.set (k * 7 + i) u, by rw [hlen, hn]; exact h3, fun j hj q hq => ?_⟩, fun j hj hjk => ?_, fun j hj hjk => ?_, fun j hj hjk => ?_⟩
  · rw [hlen, hn] at hj
    by_cases e : j = k
    · subst e
      rw [if_pos rfl, getD_set_same (by omega), hs]
      by_cases e2 : q = i
      · subst e2
        rw [List.getElem?_set_self (by rw [h1.1]; omega), List.getElem?_set_self (by rw [shdV_length]; exact hi)]
      · rw [List.getElem?_set_ne (by omega), List.getElem?_set_ne (by omega)]
        exact h2 j hj q hq
    · rw [if_neg e, getD_set_other (fun h => e h.symm), List.getElem?_set_ne (by omega)]
      exact h2 j hj q hq
  · rw [hlen] at hj
    rw [if_neg hjk, getD_set_other (fun h => hjk h.symm)]
    exact (h.ent j hj hjk).upd U (ne _ (by decide)) (ne _ (by simp [tEnt, tSh]))
  · rw [hlen] at hj
    rw [if_neg hjk, getD_set_other (fun h => hjk h.symm)]
    exact (h.root j hj hjk).upd U (ne _ (by decide))
  · rw [hlen] at hj
    rw [if_neg hjk, getD_set_other (fun h => hjk h.symm)]
    exact (h.seg j hj hjk).upd U (ne _ (by simp [tSeg, tSh])) (fun q => ne _ (by simp [tPk, tSh]))
theorem set_set {α : Type} (l : List α) (k : Nat) (x y : α) : (l.set k x).set k y = l.set k y := List.set_set ..
/-- A list of values, m for each of a list's elements, one element more. -/
theorem rows_snoc {α : Type} {m : Nat} {l : List α} {x d : α} {ys news : List Value} {F : Nat → α → Value → List Value} {R : α → Value → Prop} {v : Value} (hl : ys.length = l.length * m) (h : ∀ j, j < l.length → ∃ rv, (∀ i, i < m → ys[j * m + i]? = (F j (l.getD j d) rv)[i]?) ∧ R (l.getD j d) rv) (hn : ∀ i, i < m → news[i]? = (F l.length x v)[i]?) (hR : R x v) :
    ∀ j, j < (l ++ [x]).length → ∃ rv, (∀ i, i < m → (ys ++ news)[j * m + i]? = (F j ((l ++ [x]).getD j d) rv)[i]?) ∧ R ((l ++ [x]).getD j d) rv := fun j hj => by
  by_cases e : j < l.length
  · obtain ⟨rv, h1, h2⟩ := h j e
    have eg : (l ++ [x]).getD j d = l.getD j d := by rw [snoc_get, if_pos e]
    rw [eg]
    refine ⟨rv, fun i hi => ?_, h2⟩
    have hlt : j * m + i < ys.length := by
      rw [hl]
      have : (j + 1) * m ≤ l.length * m := Nat.mul_le_mul_right m e
      rw [Nat.add_mul, Nat.one_mul] at this
      omega
    rw [List.getElem?_append_left hlt]
    exact h1 i hi
  · obtain rfl : j = l.length := by simp at hj; omega
    have eg : (l ++ [x]).getD l.length d = x := by rw [snoc_get, if_neg (Nat.lt_irrefl _), if_pos rfl]
    rw [eg]
    refine ⟨v, fun i hi => ?_, hR⟩
    rw [List.getElem?_append_right (by rw [hl]; omega), hl, show l.length * m + i - l.length * m = i by omega]
    exact hn i hi
/-- A block to which a row has grown is for what it was for, or is new. -/
theorem grown_tag {τ : Nat → Tag} {w w' : World} {t : Tag} {v : Value} {g n cap : Nat} (h : Tg τ w t v) (hg : v.ownBlock = some g ∨ g = w.heap.size) (hlt : g < w'.heap.size) : Tg (ext τ w.heap.size t) w' t (.slice (some ⟨g, 0, none⟩) n cap) := fun b hb => by
  cases hb
  refine ⟨hlt, ?_⟩
  rcases hg with hg | rfl
  · obtain ⟨h1, h2⟩ := h g hg
    rw [ext_old h1]; exact h2
  · exact ext_new (Nat.le_refl _)
/-- The entries have grown by one. -/
theorem EntM.snoc {τ : Nat → Tag} {N k : Nat} {w w' : World} {v y : Value} {es : List (List Int)} {e : List Int} {g cap : Nat} {xs : List Value} (hT : Tg τ w (tEnt k) v) (hx : ∀ j, j < es.length → ∃ y, xs[j]? = some y ∧ ByM τ w y (es.getD j [])) (hl : xs.length = es.length)
    (ho : w'.ownsRow N 37 1 (.slice (some ⟨g, 0, none⟩) (es.length + 1) cap) (es.length + 1) (xs ++ [y])) (hg : w.grownBy w' v.ownBlock) (ha : v.ownBlock = some g ∨ g = w.heap.size) (hlt : g < w'.heap.size) (hy : ByM τ w y e) :
    EntM (ext τ w.heap.size (tEnt k)) N w' k (.slice (some ⟨g, 0, none⟩) (es.length + 1) cap) (es ++ [e]) := by
  have U : Upd τ (ext τ w.heap.size (tEnt k)) w w' v.ownBlock := ⟨hg, fun _ hb => ext_old hb⟩
  have nf : ∀ b, v.ownBlock = some b → τ b ≠ tFix := fun b hb e => by have := (hT b hb).2; rw [e] at this; simp [tFix, tEnt] at this
  refine ⟨grown_tag hT ha hlt, xs ++ [y], by rw [List.length_append]; exact ho, fun j hj => ?_⟩
  by_cases q : j < es.length
  · obtain ⟨z, h1, h2⟩ := hx j q
    refine ⟨z, by rw [List.getElem?_append_left (by omega)]; exact h1, ?_⟩
    rw [snoc_get, if_pos q]
    exact h2.upd U nf
  · obtain rfl : j = es.length := by simp at hj; omega
    refine ⟨y, by rw [List.getElem?_append_right (by omega), hl, Nat.sub_self]; rfl, ?_⟩
    rw [snoc_get, if_neg (Nat.lt_irrefl _), if_pos rfl]
    exact hy.upd U nf
/-- So has the book. -/
theorem BkM.snoc {τ : Nat → Tag} {N : Nat} {w w' : World} {v rv : Value} {l : List Rec} {r : Rec} {g cap : Nat} {ys : List Value} (hT : Tg τ w tBk v) (hl : ys.length = l.length * 5) (hx : ∀ j, j < l.length → ∃ rv, (∀ i, i < 5 → ys[j * 5 + i]? = (recCs (l.getD j rec0) rv)[i]?) ∧ ByM τ w rv (l.getD j rec0).root)
    (ho : w'.ownsRow N 45 5 (.slice (some ⟨g, 0, none⟩) (l.length + 1) cap) (l.length + 1) (ys ++ recCs r rv)) (hg : w.grownBy w' v.ownBlock) (ha : v.ownBlock = some g ∨ g = w.heap.size) (hlt : g < w'.heap.size) (hy : ByM τ w rv r.root) :
    BkM (ext τ w.heap.size tBk) N w' (.slice (some ⟨g, 0, none⟩) (l.length + 1) cap) (l ++ [r]) := by
  have U : Upd τ (ext τ w.heap.size tBk) w w' v.ownBlock := ⟨hg, fun _ hb => ext_old hb⟩
  have nf : ∀ b, v.ownBlock = some b → τ b ≠ tFix := fun b hb e => by have := (hT b hb).2; rw [e] at this; simp [tFix, tBk] at this
  refine ⟨grown_tag hT ha hlt, ys ++ recCs r rv, by rw [List.length_append]; exact ho, ?_⟩
  exact rows_snoc (F := fun _ x v => recCs x v) (R := fun x v => ByM (ext τ w.heap.size tBk) w' v x.root) hl (fun j hj => by obtain ⟨q, h1, h2⟩ := hx j hj; exact ⟨q, h1, h2.upd U nf⟩) (fun i hi => rfl) (hy.upd U nf)
/-- And the answers. -/
theorem AnM.snoc {τ : Nat → Tag} {N : Nat} {w w' : World} {v rv : Value} {l : List Ans} {r : Ans} {g cap : Nat} {ys : List Value} (hT : Tg τ w tAn v) (hl : ys.length = l.length * 5) (hx : ∀ j, j < l.length → ∃ rv, (∀ i, i < 5 → ys[j * 5 + i]? = (ansV (l.getD j ans0) rv)[i]?) ∧ ByM τ w rv (l.getD j ans0).root)
    (ho : w'.ownsRow N 41 5 (.slice (some ⟨g, 0, none⟩) (l.length + 1) cap) (l.length + 1) (ys ++ ansV r rv)) (hg : w.grownBy w' v.ownBlock) (ha : v.ownBlock = some g ∨ g = w.heap.size) (hlt : g < w'.heap.size) (hy : ByM τ w rv r.root) :
    AnM (ext τ w.heap.size tAn) N w' (.slice (some ⟨g, 0, none⟩) (l.length + 1) cap) (l ++ [r]) := by
  have U : Upd τ (ext τ w.heap.size tAn) w w' v.ownBlock := ⟨hg, fun _ hb => ext_old hb⟩
  have nf : ∀ b, v.ownBlock = some b → τ b ≠ tFix := fun b hb e => by have := (hT b hb).2; rw [e] at this; simp [tFix, tAn] at this
  refine ⟨grown_tag hT ha hlt, ys ++ ansV r rv, by rw [List.length_append]; exact ho, ?_⟩
  exact rows_snoc (F := fun _ x v => ansV x v) (R := fun x v => ByM (ext τ w.heap.size tAn) w' v x.root) hl (fun j hj => by obtain ⟨q, h1, h2⟩ := hx j hj; exact ⟨q, h1, h2.upd U nf⟩) (fun i hi => rfl) (hy.upd U nf)

/-- The fleet but for its shards. -/
structure GoB (τ : Nat → Tag) (N : Nat) (w : World) (gp : Nat) (sv bv : Value) (l : List Rec) : Prop where
  low : N ≤ gp
  tag : τ gp = tFl
  box : w.heap[gp]? = some (.cells #[sv, bv] 59 (0, 0))
  bk : BkM τ N w bv l
theorem GoB.upd {τ τ' : Nat → Tag} {N : Nat} {w w' : World} {gp : Nat} {sv bv : Value} {l : List Rec} {row : Option Nat} (h : GoB τ N w gp sv bv l) (u : Upd τ τ' w w' row) (hr : ∀ b, row = some b → τ b ≠ tFl ∧ τ b ≠ tBk ∧ τ b ≠ tFix) : GoB τ' N w' gp sv bv l :=
  ⟨h.low, (u.same gp (lt_heap h.box)).trans h.tag, (u.grow.block gp (lt_heap h.box) (fun e => (hr gp e.symm).1 h.tag)).trans h.box, h.bk.upd u (fun b hb => (hr b hb).2.2) (fun b hb => (hr b hb).2.1)⟩
theorem GoB.goF {τ : Nat → Tag} {N : Nat} {w : World} {gp : Nat} {sv bv : Value} {l : List Rec} {ss : List Shd} {V : Nat → ShV} (h : GoB τ N w gp sv bv l) (hS : ShM τ N w sv ss V) : GoF τ N w gp ⟨ss, l⟩ := ⟨h.low, h.tag, sv, bv, V, h.box, hS, h.bk⟩
theorem GoF.open {τ : Nat → Tag} {N : Nat} {w : World} {gp : Nat} {f : Flt} (h : GoF τ N w gp f) : ∃ sa sc ba bc V, GoB τ N w gp (.slice sa f.shards.length sc) (.slice ba f.book.length bc) f.book ∧ ShM τ N w (.slice sa f.shards.length sc) f.shards V := by
  obtain ⟨h0, h1, sv, bv, V, h2, h3, h4⟩ := h
  obtain ⟨sa, sc, e1, -⟩ := h3.shards
  obtain ⟨ba, bc, e2, -⟩ := h4.recs
  subst e1
  subst e2
  exact ⟨sa, sc, ba, bc, V, ⟨h0, h1, h2, h4⟩, h3⟩
theorem no_row {P : Nat → Prop} : ∀ b, (none : Option Nat) = some b → P b := fun _ hb => by cases hb
/-- A call that only makes memory has ended, and an answer is written into a variable of the caller's own. -/
theorem GoF.five {τ : Nat → Tag} {N : Nat} {w : World} {gp R : Nat} {f : Flt} (h : GoF τ N w gp f) (hR : τ R = tNo) (u0 u1 u2 u3 u4 : Value) : GoF τ N (((((w.setCell ⟨R, 0, none⟩ u0).setCell ⟨R, 1, none⟩ u1).setCell ⟨R, 2, none⟩ u2).setCell ⟨R, 3, none⟩ u3).setCell ⟨R, 4, none⟩ u4) gp f := by
  have hr : ∀ b, some R = some b → τ b = tNo ∨ τ b = tAn := fun b hb => by cases hb; exact .inl hR
  exact ((((h.upd (upd_set τ _ R 0 u0) hr).upd (upd_set τ _ R 1 u1) hr).upd (upd_set τ _ R 2 u2) hr).upd (upd_set τ _ R 3 u3) hr).upd (upd_set τ _ R 4 u4) hr
theorem ByM.five {τ : Nat → Tag} {w : World} {R : Nat} {v : Value} {d : List Int} (h : ByM τ w v d) (hR : τ R = tNo) (u0 u1 u2 u3 u4 : Value) : ByM τ (((((w.setCell ⟨R, 0, none⟩ u0).setCell ⟨R, 1, none⟩ u1).setCell ⟨R, 2, none⟩ u2).setCell ⟨R, 3, none⟩ u3).setCell ⟨R, 4, none⟩ u4) v d := by
  have hr : ∀ b, some R = some b → τ b ≠ tFix := fun b hb => by cases hb; rw [hR]; decide
  exact ((((h.upd (upd_set τ _ R 0 u0) hr).upd (upd_set τ _ R 1 u1) hr).upd (upd_set τ _ R 2 u2) hr).upd (upd_set τ _ R 3 u3) hr).upd (upd_set τ _ R 4 u4) hr
theorem Keep.five {τ τ' : Nat → Tag} {N R : Nat} {w0 w : World} (h : Keep τ τ' N w0 w) (hN : N ≤ w0.heap.size) (hR : w0.heap.size ≤ R) (u0 u1 u2 u3 u4 : Value) : Keep τ τ' N w0 (((((w.setCell ⟨R, 0, none⟩ u0).setCell ⟨R, 1, none⟩ u1).setCell ⟨R, 2, none⟩ u2).setCell ⟨R, 3, none⟩ u3).setCell ⟨R, 4, none⟩ u4) :=
  keep_set (keep_set (keep_set (keep_set (keep_set h hN hR 0 u0) hN hR 1 u1) hN hR 2 u2) hN hR 3 u3) hN hR 4 u4
/-- What a step leaves: an answer, and the fleet. -/
def Went (τ : Nat → Tag) (N gp : Nat) (w w' : World) (av : Value) (fa : Flt × Ans) : Prop := ∃ τ', AnV τ' w' av fa.2 ∧ GoF τ' N w' gp fa.1 ∧ Keep τ τ' N w w'
/-- Nothing was done. -/
theorem went_no {τ : Nat → Tag} {N gp R : Nat} {w w1 : World} {f : Flt} {x : Ans} (h : GoF τ N w gp f) (hN : N ≤ w.heap.size) (hb : Below w.heap.size w w1) (hR : w.heap.size ≤ R) (hx : x.root = []) (u0 u1 u2 u3 u4 : Value) :
    Went τ N gp w (((((w1.setCell ⟨R, 0, none⟩ u0).setCell ⟨R, 1, none⟩ u1).setCell ⟨R, 2, none⟩ u2).setCell ⟨R, 3, none⟩ u3).setCell ⟨R, 4, none⟩ u4) (.agg #[.int .i64 x.err, .int .i64 x.shard, .int .i64 x.place, .int .i64 x.size, .slice none 0 0]) (f, x) :=
  ⟨ext τ w.heap.size tNo, ⟨_, rfl, by rw [hx]; exact byM_nil _ _⟩, (h.upd (upd_call hb tNo) no_row).five (ext_new hR) _ _ _ _ _, (keep_call hb hN tNo).five hN hR _ _ _ _ _⟩

/-- A shard's cell is written that leads nowhere, or to what is there. -/
theorem ShM.turn {τ : Nat → Tag} {N sb n c k i : Nat} {w : World} {ss : List Shd} {V : Nat → ShV} {s' : Shd} {v' : ShV} {u : Value} (h : ShM τ N w (.slice (some ⟨sb, 0, none⟩) n c) ss V) (hn : ss.length = n) (hk : k < n) (hi : i < 7) (hs : shdV s' v' = (shdV (ss.getD k shd0) (V k)).set i u) (h1 : EntM τ N w k v'.1 s'.entries) (h2 : ByM τ w v'.2.1 s'.man.root) (h3 : SegM τ N w k v'.2.2 s'.man.segs) :
    ShM τ N (w.setCell ⟨sb, k * 7 + i, none⟩ u) (.slice (some ⟨sb, 0, none⟩) n c) (ss.set k s') (fun j => if j = k then v' else V j) := by
  have ht := (h.tag sb rfl).2
  have U := upd_set τ w sb (k * 7 + i) u
  have ne : ∀ t : Tag, t ≠ tSh → ∀ b, some sb = some b → τ b ≠ t := fun t h1 b hb e => by cases hb; exact h1 (e.symm.trans ht)
  refine ((h.out k).store (i := i) (u := u) (s' := s') (v' := v') hn hk hi hs).back ?_ ?_ ?_
  · rw [if_pos rfl, getD_set_same (by omega)]; exact h1.upd U (ne _ (by decide)) (ne _ (by simp [tEnt, tSh]))
  · rw [if_pos rfl, getD_set_same (by omega)]; exact h2.upd U (ne _ (by decide))
  · rw [if_pos rfl, getD_set_same (by omega)]; exact h3.upd U (ne _ (by simp [tSeg, tSh])) (fun j => ne _ (by simp [tPk, tSh]))
theorem GoB.turn {τ : Nat → Tag} {N gp sb o : Nat} {w : World} {sv bv u : Value} {l : List Rec} (h : GoB τ N w gp sv bv l) (ht : τ sb = tSh) : GoB τ N (w.setCell ⟨sb, o, none⟩ u) gp sv bv l := h.upd (upd_set τ w sb o u) (fun b hb => by cases hb; rw [ht]; decide)
theorem keep_turn {τ : Nat → Tag} {N sb o : Nat} {w : World} {u : Value} (hN : N ≤ w.heap.size) (hs : N ≤ sb) (ht : τ sb = tSh) : Keep τ τ N w (w.setCell ⟨sb, o, none⟩ u) := keep_upd (upd_set τ w sb o u) hN (fun b hb => by cases hb; rw [ht]; exact ⟨hs, by decide⟩)
/-- A shard's answer is told, its head copied. -/
theorem went_head {τ τ' : Nat → Tag} {N gp R : Nat} {w W w8 : World} {f' : Flt} {k n : Int} {d : List Int} {ta : Option Addr} {tc : Nat} (hF : GoF τ' N W gp f') (hK : Keep τ τ' N w W) (hN : N ≤ w.heap.size) (hR : τ' R = tNo) (hRl : R < W.heap.size) (hRw : w.heap.size ≤ R) (hb8 : Below W.heap.size W w8) (ho8 : w8.ownsRow W.heap.size 5 1 (.slice ta d.length tc) d.length (d.map (Value.int .u8))) (hd : Bytes d) (u0 u1 u2 u3 u4 : Value) :
    Went τ N gp w (((((w8.setCell ⟨R, 0, none⟩ u0).setCell ⟨R, 1, none⟩ u1).setCell ⟨R, 2, none⟩ u2).setCell ⟨R, 3, none⟩ u3).setCell ⟨R, 4, none⟩ u4) (.agg #[.int .i64 0, .int .i64 k, .int .i64 0, .int .i64 n, .slice ta d.length tc]) (f', ⟨0, k, 0, n, d⟩) := by
  have hN7 : N ≤ W.heap.size := Nat.le_trans hN hK.size
  have hr8 : ext τ' W.heap.size tFix R = tNo := (ext_old hRl).trans hR
  exact ⟨ext τ' W.heap.size tFix, ⟨_, rfl, (byM_own ho8 hd).five hr8 _ _ _ _ _⟩, (hF.upd (upd_call hb8 tFix) no_row).five hr8 _ _ _ _ _, (hK.trans (keep_call hb8 hN7 tFix)).five hN hRw _ _ _ _ _⟩

end Go.Proofs.YtkjlchfmplcobaeGreatDoor
