/- ShelfNine, ShelfAlive, TreeSame, as one text. -/
import Derived.Test.YtkjlchfmplcobadDoorProg
import Derived.Test.YtkjlchfmplcobadDoorRunAD
import Derived.WalkKit
import Derived.WalkSpells
import Derived.WalkLawsBesides
import Derived.Test.YtkjlchfmplcobadDoorShaSame
import Derived.Test.YtkjlchfmplcobadDoorRunAC
import Derived.Deep.QuietTactic
import Derived.BigQuiet
/- Nine entries, as a law lays them; the walk of yearlaw5.alive, over package shelf's faces. -/
namespace Go.Proofs.YtkjlchfmplcobadDoor
open Go.RowKit

def nine : List (List Int) := [[1], [2], [3], [4], [5], [6], [7], [8], [9]]
theorem nine_wrong : wrongL nine = (0, 0) := rfl
theorem nine_short : ∀ e ∈ nine, e.length ≤ 200 := by decide
theorem nine_export : exportL nine = ⟨9, mth nine, segsL nine⟩ := by unfold exportL; rw [nine_wrong, if_neg (fun h => h rfl)]; rfl
theorem nine_segs : (segsL nine).length = 2 := segsN_length _ _
theorem nine_verify : verifyL ⟨9, mth nine, segsL nine⟩ = (nine, 0, 0) := verify_export (L := nine) (by decide) nine_short
theorem nine_entry : entryL ⟨9, mth nine, segsL nine⟩ 8 = ([9], 0) := entry_export (L := nine) (i := 8) (by decide) nine_short (by decide)
/-- Blocks of one byte each, one behind the other. -/
def litW (w : World) (zs : List Int) : World := zs.foldl (fun w z => w.alloc (.cells #[.int .u8 z] 5)) w
theorem litW_cons (w : World) (z : Int) (zs : List Int) : litW w (z :: zs) = litW (w.alloc (.cells #[.int .u8 z] 5)) zs := rfl
theorem litW_spec : ∀ (zs : List Int) (w : World), (litW w zs).heap.size = w.heap.size + zs.length ∧ Below w.heap.size w (litW w zs) ∧ ∀ j, j < zs.length → (litW w zs).cell? ⟨w.heap.size + j, 0, none⟩ = some (.int .u8 (zs.getD j 0))
  | [], w => ⟨rfl, Below.refl _ _, fun j hj => absurd hj (Nat.not_lt_zero _)⟩
  | z :: zs, w => by
    obtain ⟨h1, h2, h3⟩ := litW_spec zs (w.alloc (.cells #[.int .u8 z] 5))
    rw [litW_cons]
    have hs : (w.alloc (.cells #[.int .u8 z] 5)).heap.size = w.heap.size + 1 := by simp
    rw [hs] at h1 h2 h3
    refine ⟨by rw [h1, List.length_cons]; omega, ((Below.refl _ _).alloc (Nat.le_refl _) _).trans (h2.mono (Nat.le_succ _)), fun j hj => ?_⟩
    cases j with
    | zero =>
      rw [h2.cell (p := ⟨w.heap.size + 0, 0, none⟩) (by show w.heap.size < w.heap.size + 1; omega)]
      exact new_cell w _ _ 0 (by simp)
    | succ j =>
      have := h3 j (by simpa using hj)
      rw [show w.heap.size + (j + 1) = w.heap.size + 1 + j by omega]
      simpa using this
def nineRow (w : World) : Obj := .cells #[.slice (some ⟨w.heap.size, 0, none⟩) 1 1, .slice (some ⟨w.heap.size + 1, 0, none⟩) 1 1, .slice (some ⟨w.heap.size + 1 + 1, 0, none⟩) 1 1, .slice (some ⟨w.heap.size + 1 + 1 + 1, 0, none⟩) 1 1, .slice (some ⟨w.heap.size + 1 + 1 + 1 + 1, 0, none⟩) 1 1, .slice (some ⟨w.heap.size + 1 + 1 + 1 + 1 + 1, 0, none⟩) 1 1, .slice (some ⟨w.heap.size + 1 + 1 + 1 + 1 + 1 + 1, 0, none⟩) 1 1, .slice (some ⟨w.heap.size + 1 + 1 + 1 + 1 + 1 + 1 + 1, 0, none⟩) 1 1, .slice (some ⟨w.heap.size + 1 + 1 + 1 + 1 + 1 + 1 + 1 + 1, 0, none⟩) 1 1] 23
theorem nine_at (w : World) : Below w.heap.size w ((litW w [1, 2, 3, 4, 5, 6, 7, 8, 9]).alloc (nineRow w)) ∧ Lists ((litW w [1, 2, 3, 4, 5, 6, 7, 8, 9]).alloc (nineRow w)) (some ⟨w.heap.size + 1 + 1 + 1 + 1 + 1 + 1 + 1 + 1 + 1, 0, none⟩) 9 9 nine := by
  obtain ⟨h1, h2, h3⟩ := litW_spec [1, 2, 3, 4, 5, 6, 7, 8, 9] w
  generalize litW w [1, 2, 3, 4, 5, 6, 7, 8, 9] = W at *
  have h1' : W.heap.size = w.heap.size + 9 := h1
  have bA : Below W.heap.size W (W.alloc (nineRow w)) := (Below.refl _ _).alloc (Nat.le_refl _) _
  refine ⟨h2.trans (bA.mono h2.size), rfl, ?_, Nat.le_refl _, by unfold maxLen; omega, (fun h => by cases h), bytes_mem (fun x hx => ?_), short_mem (fun x hx => ?_)⟩
  · have e9 : w.heap.size + 1 + 1 + 1 + 1 + 1 + 1 + 1 + 1 + 1 = W.heap.size := by rw [h1']
    rw [e9]
    refine .inr ⟨W.heap.size, 0, 9, rfl, by simp, fun j hj => ?_⟩
    have hj' : j < 9 := hj
    have hc : (W.alloc (nineRow w)).cell? ⟨W.heap.size, 0 + j, none⟩ = some (.slice (some ⟨w.heap.size + j, 0, none⟩) 1 1) := by
      rw [Nat.zero_add]
      match j, hj' with
      | 0, _ => exact new_cell W _ _ 0 (by simp)
      | 1, _ => exact new_cell W _ _ 1 (by simp)
      | 2, _ => exact new_cell W _ _ 2 (by simp)
      | 3, _ => exact new_cell W _ _ 3 (by simp)
      | 4, _ => exact new_cell W _ _ 4 (by simp)
      | 5, _ => exact new_cell W _ _ 5 (by simp)
      | 6, _ => exact new_cell W _ _ 6 (by simp)
      | 7, _ => exact new_cell W _ _ 7 (by simp)
      | 8, _ => exact new_cell W _ _ 8 (by simp)
      | j + 9, h => omega
    refine ⟨_, _, _, hc, .inr ⟨w.heap.size + j, 0, 1, ?_, by simp; omega, fun i hi => ?_⟩⟩
    · match j, hj' with
      | 0, _ => rfl
      | 1, _ => rfl
      | 2, _ => rfl
      | 3, _ => rfl
      | 4, _ => rfl
      | 5, _ => rfl
      | 6, _ => rfl
      | 7, _ => rfl
      | 8, _ => rfl
      | j + 9, h => omega
    · have hi0 : i = 0 := by
        match j, hj' with
        | 0, _ => have : i < 1 := hi; omega
        | 1, _ => have : i < 1 := hi; omega
        | 2, _ => have : i < 1 := hi; omega
        | 3, _ => have : i < 1 := hi; omega
        | 4, _ => have : i < 1 := hi; omega
        | 5, _ => have : i < 1 := hi; omega
        | 6, _ => have : i < 1 := hi; omega
        | 7, _ => have : i < 1 := hi; omega
        | 8, _ => have : i < 1 := hi; omega
        | j + 9, h => omega
      subst hi0
      have := h3 j hj
      rw [Nat.add_zero, old_cell W (nineRow w) _ 0 (by omega), this]
      match j, hj' with
      | 0, _ => rfl
      | 1, _ => rfl
      | 2, _ => rfl
      | 3, _ => rfl
      | 4, _ => rfl
      | 5, _ => rfl
      | 6, _ => rfl
      | 7, _ => rfl
      | 8, _ => rfl
      | j + 9, h => omega
  · have hall : ∀ x ∈ nine, ∀ y ∈ x, 0 ≤ y ∧ y < 256 := by decide
    exact bytes_of_mem (hall x hx)
  · have : x.length ≤ 200 := nine_short x hx
    unfold maxLen; omega

end Go.Proofs.YtkjlchfmplcobadDoor

/- The walk of yearlaw5.alive, over package shelf's faces. -/
namespace Go.Proofs.YtkjlchfmplcobadDoor
open Go.RowKit

set_option maxRecDepth 100000 in
set_option maxHeartbeats 2000000 in
theorem alive5_any (hEx : ExportC) (hVe : VerifyC) (hEn : EntryC) (w : World) (hR : Ready w) :
    Calls Tryd.prog 18 #[] w fun e w' => e = .returned (.bool true) ∧ Below w.heap.size w w' := by
  obtain ⟨b0, hL⟩ := nine_at w
  have cE := hEx nine _ 9 9 _ (hR.below b0) hL
  rw [nine_wrong, nine_export] at cE
  dsimp only [faultV] at cE
  have hsg := nine_segs
  have cV : ∀ w' mv, Below w.heap.size w w' → ManAt w' mv ⟨9, mth nine, segsL nine⟩ → _ := fun w' mv h hm => hVe _ mv w' (hR.below h) hm
  have cN : ∀ w' mv, ManAt w' mv ⟨9, mth nine, segsL nine⟩ → _ := fun w' mv hm => hEn _ 8 mv w' hm (by decide)
  rw [nine_verify] at cV
  rw [nine_entry] at cN
  dsimp only [faultV] at cV cN
  clear hL
  generalize mth nine = M at *
  generalize segsL nine = SG at *
  simp only [litW, List.foldl, nineRow] at b0 cE
  go_enter Tryd.func18, Tryd.ntmps18
  go_wp2_with fail
  refine cE.mono ?_
  rintro e w1 ⟨mv, rfl, hM, hb1⟩
  have b1 := b0.trans (hb1.mono b0.size)
  clear cE hb1 b0
  obtain ⟨rv, sv, rfl, hr, a, c, rfl, hN1, hN2, hN3, hcell⟩ := hM
  obtain ⟨ra, rc, rfl⟩ := hr.at'.form
  dsimp only at hr
  have hM : ManAt w1 (.agg #[.int .i64 9, .slice ra M.length rc, .slice a SG.length c]) ⟨9, M, SG⟩ := ⟨_, _, rfl, hr, a, c, rfl, hN1, hN2, hN3, hcell⟩
  clear hcell hr
  rw [hsg] at hM
  have d2 : Below w1.heap.size w1 ((w1.alloc (.cells #[.int .i64 9, (.slice ra M.length rc), .slice a 2 c] 28)).alloc (.cells #[.int .i64 0, .int .i64 0] 31)) := ((Below.refl _ _).alloc (Nat.le_refl _) _).alloc (by simp) _
  have b2 := b1.trans (d2.mono b1.size)
  have x2 := box_old _ (.cells #[.int .i64 0, .int .i64 0] 31) (box_new w1 #[.int .i64 9, (.slice ra M.length rc), .slice a 2 c] 28)
  have y2 := box_last w1 (.cells #[.int .i64 9, (.slice ra M.length rc), .slice a 2 c] 28) #[.int .i64 0, .int .i64 0] 31
  have hM2 := hM.below d2
  obtain ⟨u0, u1, u2, -, -, -⟩ := box_three x2
  rw [hsg]
  go_wp2_with fail
  generalize ((w1.alloc (.cells #[.int .i64 9, (.slice ra M.length rc), .slice a 2 c] 28)).alloc (.cells #[.int .i64 0, .int .i64 0] 31)) = w2 at *
  refine (cV _ _ b2 hM2).mono ?_
  rintro e w3 ⟨xa, xn, xc, rfl, hl, hb3⟩
  have b3 := b2.trans (hb3.mono b2.size)
  obtain rfl : xn = 9 := hl.lists.len.symm
  have d4 : Below w3.heap.size w3 (w3.alloc (.cells #[.int .i64 0, .int .i64 0] 31)) := (Below.refl _ _).alloc (Nat.le_refl _) _
  have b4 := b3.trans (d4.mono b3.size)
  have hM4 := (hM2.below hb3).below d4
  have x4 := box_old _ (.cells #[.int .i64 0, .int .i64 0] 31) (box_kept x2 hb3)
  have y4 := box_old _ (.cells #[.int .i64 0, .int .i64 0] 31) (box_kept y2 hb3)
  have z4 := box_new w3 #[.int .i64 0, .int .i64 0] 31
  obtain ⟨u0', u1', u2', -, -, -⟩ := box_three x4
  clear cV hl u0 u1 u2 x2 y2 hM hM2 hb3 d2 d4 b2 b3
  go_wp2_with fail
  generalize w3.alloc (.cells #[.int .i64 0, .int .i64 0] 31) = w4 at *
  refine (cN _ _ hM4).mono ?_
  rintro e w5 ⟨v, rfl, hs, hb5⟩
  have b5 := b4.trans (hb5.mono b4.size)
  obtain ⟨t0, t1, t2, -, -, -⟩ := box_three (box_kept x4 hb5)
  obtain ⟨p0, p1, -, -⟩ := box_two (box_kept y4 hb5)
  obtain ⟨q0, q1, -, -⟩ := box_two (box_kept z4 hb5)
  rcases hs.at' with ⟨hx, -⟩ | ⟨g, off, cp, rfl, hg, hc9⟩
  · cases hx
  have h9 := hc9 0 (by decide)
  rw [Nat.add_zero] at h9
  replace h9 : w5.cell? ⟨g, off, none⟩ = some (.int .u8 9) := h9
  clear hc9 hs hM4 cN x4 y4 z4 hb5 u0' u1' u2'
  dsimp only [List.length_cons, List.length_nil]
  go_wp2_with fail
  go_ret
  exact ⟨rfl, b5⟩

end Go.Proofs.YtkjlchfmplcobadDoor

/- The walk of yearref2.Same: two lists of bytes' lists. -/
namespace Go.Proofs.YtkjlchfmplcobadDoor
open Go.RowKit

set_option maxRecDepth 100000 in
set_option maxHeartbeats 1000000 in
theorem refSame_any (L1 L2 : List (List Int)) (v1 v2 : Value) (w : World) (h1 : PartsAt w v1 L1) (h2 : PartsAt w v2 L2) (hm1 : L1.length ≤ maxLen) (hs1 : ∀ j, (L1.getD j []).length ≤ maxLen) :
    Calls Tryd.prog 12 #[v1, v2] w fun e w' => e = .returned (.bool (decide (L1 = L2))) ∧ ∃ q, w' = w.drewN q := by
  obtain ⟨a1, c1, rfl, hc1⟩ := h1.form
  obtain ⟨a2, c2, rfl, hc2⟩ := h2.form
  unfold maxLen at hm1
  by_cases hne : L1.length = L2.length
  · have hq : ((L1.length : Int) != (L2.length : Int)) = false := by rw [hne]; simp
    obtain ⟨n, hn⟩ : ∃ n, L1.length = n := ⟨_, rfl⟩
    have hn2 : L2.length = n := by omega
    have HN1 : Hid (L1.length = n) := hn
    have HN2 : Hid (L2.length = n) := hn2
    rw [hn] at hm1 hc1 hq
    rw [hn2] at hc2 hq
    rw [hn, hn2]
    clear hn hn2 hne h1 h2
    go_enter Tryd.func12, Tryd.ntmps12
    go_wp2
    go_loopw [13] (fun i wr => ∃ k : Nat, k ≤ n ∧ i = .int .i64 k ∧ Hid (∀ j, j < k → L1.getD j [] = L2.getD j []) ∧ Dr w wr) (fun i _ => n - (intOf i).toNat)
    case atStart => exact ⟨0, Nat.zero_le _, rfl, (fun j hj => absurd hj (Nat.not_lt_zero _)), ⟨0, rfl⟩⟩
    case round =>
      obtain ⟨k, hk, rfl, HE, HD⟩ := hrel
      by_cases hlt : k < n
      · obtain ⟨b1, o1, rfl, -, hp1⟩ := hc1.resolve_left (by omega)
        obtain ⟨b2, o2, rfl, -, hp2⟩ := hc2.resolve_left (by omega)
        obtain ⟨pa, pc, x1, B1⟩ := hp1 k hlt
        obtain ⟨ra, rc, x2, B2⟩ := hp2 k hlt
        have y1 : wr.cell? ⟨b1, o1 + k, none⟩ = some (.slice pa (L1.getD k []).length pc) := by obtain ⟨q, e⟩ := HD; rw [e]; exact x1
        have y2 : wr.cell? ⟨b2, o2 + k, none⟩ = some (.slice ra (L2.getD k []).length rc) := by obtain ⟨q, e⟩ := HD; rw [e]; exact x2
        have D1 : ∀ q, BytesAt (wr.drewN q) (.slice pa (L1.getD k []).length pc) (L1.getD k []) := fun q => by obtain ⟨q1, e⟩ := HD; rw [e]; exact B1.below (Nat.le_refl _) (below_drewN (below_drewN (Below.refl _ _) q1) q)
        have D2 : ∀ q, BytesAt (wr.drewN q) (.slice ra (L2.getD k []).length rc) (L2.getD k []) := fun q => by obtain ⟨q1, e⟩ := HD; rw [e]; exact B2.below (Nat.le_refl _) (below_drewN (below_drewN (Below.refl _ _) q1) q)
        have hl1 := hs1 k
        have HN : Hid (L1.getD k [] = L2.getD k [] → ∀ j, j < k + 1 → L1.getD j [] = L2.getD j []) := fun h j hj => by
          by_cases e : j = k
          · rw [e]; exact h
          · exact HE.out j (by omega)
        have HF : Hid (L1.getD k [] ≠ L2.getD k [] → decide (L1 = L2) = false) := fun h => by
          rw [decide_eq_false_iff_not]; intro e; exact h (by rw [e])
        clear hc1 hc2 hp1 hp2 x1 x2 B1 B2 HE hs1
        generalize L1.getD k [] = z1 at *
        generalize L2.getD k [] = z2 at *
        have i1 : (k : Int) < (n : Int) := by omega
        by_cases hzz : z1 = z2
        · have hd : decide (z1 = z2) = true := by simpa using hzz
          have HN' : Hid (∀ j, j < k + 1 → L1.getD j [] = L2.getD j []) := HN.out hzz
          have HS : ∀ q, Calls Tryd.prog 15 #[.slice pa z1.length pc, .slice ra z2.length rc] (wr.drewN q) (fun e w' => e = .returned (.bool true) ∧ ∃ m, w' = (wr.drewN q).drewN m) := fun q => by
            have := same_any z1 z2 _ _ _ (D1 q) (D2 q) hl1
            rwa [hd] at this
          clear HN HF hd hzz D1 D2
          go_wp2_with fail
          go_quiet ((go_at_call 15; exact Calls.quiet_of (HS _)))
          go_wp2_with fail
          go_roundw
          case rel => exact ⟨k + 1, by omega, by go_num, HN', HD.step _⟩
          case measure => simp [intOf]; omega
        · have hd : decide (z1 = z2) = false := by simpa using hzz
          have HF' : Hid (decide (L1 = L2) = false) := HF.out hzz
          have HS : ∀ q, Calls Tryd.prog 15 #[.slice pa z1.length pc, .slice ra z2.length rc] (wr.drewN q) (fun e w' => e = .returned (.bool false) ∧ ∃ m, w' = (wr.drewN q).drewN m) := fun q => by
            have := same_any z1 z2 _ _ _ (D1 q) (D2 q) hl1
            rwa [hd] at this
          clear HN HF hd hzz D1 D2
          go_wp2_with fail
          go_quiet ((go_at_call 15; exact Calls.quiet_of (HS _)))
          go_wp2_with fail
          go_ret
          exact ⟨by rw [HF'.out]; rfl, HD.step _⟩
      · obtain rfl : k = n := by omega
        obtain ⟨q0, rfl⟩ := HD
        have HT : decide (L1 = L2) = true := by
          rw [decide_eq_true_iff]
          apply List.ext_getElem (by have := HN1.out; have := HN2.out; omega)
          intro j hj1 hj2
          have := HE.out j (by have := HN1.out; omega)
          rwa [List.getD_eq_getElem?_getD, List.getElem?_eq_getElem hj1, List.getD_eq_getElem?_getD, List.getElem?_eq_getElem hj2] at this
        clear HE
        go_wp2
        go_ret
        exact ⟨by rw [HT]; rfl, q0, rfl⟩
  · have hq : ((L1.length : Int) != (L2.length : Int)) = true := by simp; omega
    have HF : decide (L1 = L2) = false := by rw [decide_eq_false_iff_not]; intro e; exact hne (by rw [e])
    rw [HF]
    go_enter Tryd.func12, Tryd.ntmps12
    go_wp2
    go_ret
    exact ⟨rfl, 0, rfl⟩

end Go.Proofs.YtkjlchfmplcobadDoor
