/- ShelfNine, ShelfAlive, ShelfEntriesWalk, as one text. -/
import Derived.Test.YtkjlchfmplcobaeDoorProg
import Derived.Test.YtkjlchfmplcobaeDoorRunAD
import Derived.WalkKit
import Derived.WalkSpells
import Derived.WalkLawsBesides
import Derived.Test.YtkjlchfmplcobaeDoorShaSame
/- Nine entries, as a law lays them; the walk of yearlaw5.alive, over package shelf's faces. -/
namespace Go.Proofs.YtkjlchfmplcobaeDoor
open Go.RowKit

def nine : List (List Int) := [[1], [2], [3], [4], [5], [6], [7], [8], [9]]
theorem nine_wrong : wrongL nine = (0, 0) := rfl
theorem nine_short : ∀ e ∈ nine, e.length ≤ 200 := by decide
theorem nine_export : exportL nine = ⟨9, mth nine, segsL nine⟩ := by unfold exportL; rw [nine_wrong, if_neg (fun h => h rfl)]; rfl
theorem nine_segs : (segsL nine).length = 2 := segsN_length _ _
theorem nine_verify : verifyL ⟨9, mth nine, segsL nine⟩ = (nine, 0, 0) := verify_export (L := nine) (by decide) nine_short
theorem nine_entry : entryL ⟨9, mth nine, segsL nine⟩ 8 = ([9], 0) := entry_export (L := nine) (i := 8) (by decide) nine_short (by decide)
/-- Blocks of one byte each, one behind the other. -/
def litW (w : World) (zs : List Int) : World := zs.foldl (fun w z => w.alloc (.cells #[.int .u8 z] 5)) w
theorem litW_cons (w : World) (z : Int) (zs : List Int) : litW w (z :: zs) = litW (w.alloc (.cells #[.int .u8 z] 5)) zs := rfl
theorem litW_spec : ∀ (zs : List Int) (w : World), (litW w zs).heap.size = w.heap.size + zs.length ∧ Below w.heap.size w (litW w zs) ∧ ∀ j, j < zs.length → (litW w zs).cell? ⟨w.heap.size + j, 0, none⟩ = some (.int .u8 (zs.getD j 0))
  | [], w => ⟨rfl, Below.refl _ _, fun j hj => absurd hj (Nat.not_lt_zero _)⟩
  | z :: zs, w => by
    obtain ⟨h1, h2, h3⟩ := litW_spec zs (w.alloc (.cells #[.int .u8 z] 5))
    rw [litW_cons]
    have hs : (w.alloc (.cells #[.int .u8 z] 5)).heap.size = w.heap.size + 1 := by simp
    rw [hs] at h1 h2 h3
    refine ⟨by rw [h1, List.length_cons]; omega, ((Below.refl _ _).alloc (Nat.le_refl _) _).trans (h2.mono (Nat.le_succ _)), fun j hj => ?_⟩
    cases j with
    | zero =>
      rw [h2.cell (p := ⟨w.heap.size + 0, 0, none⟩) (by show w.heap.size < w.heap.size + 1; omega)]
      exact new_cell w _ _ 0 (by simp)
    | succ j =>
      have := h3 j (by simpa using hj)
      rw [show w.heap.size + (j + 1) = w.heap.size + 1 + j by omega]
      simpa using this
def nineRow (w : World) : Obj := .cells #[.slice (some ⟨w.heap.size, 0, none⟩) 1 1, .slice (some ⟨w.heap.size + 1, 0, none⟩) 1 1, .slice (some ⟨w.heap.size + 1 + 1, 0, none⟩) 1 1, .slice (some ⟨w.heap.size + 1 + 1 + 1, 0, none⟩) 1 1, .slice (some ⟨w.heap.size + 1 + 1 + 1 + 1, 0, none⟩) 1 1, .slice (some ⟨w.heap.size + 1 + 1 + 1 + 1 + 1, 0, none⟩) 1 1, .slice (some ⟨w.heap.size + 1 + 1 + 1 + 1 + 1 + 1, 0, none⟩) 1 1, .slice (some ⟨w.heap.size + 1 + 1 + 1 + 1 + 1 + 1 + 1, 0, none⟩) 1 1, .slice (some ⟨w.heap.size + 1 + 1 + 1 + 1 + 1 + 1 + 1 + 1, 0, none⟩) 1 1] 22
theorem nine_at (w : World) : Below w.heap.size w ((litW w [1, 2, 3, 4, 5, 6, 7, 8, 9]).alloc (nineRow w)) ∧ Lists ((litW w [1, 2, 3, 4, 5, 6, 7, 8, 9]).alloc (nineRow w)) (some ⟨w.heap.size + 1 + 1 + 1 + 1 + 1 + 1 + 1 + 1 + 1, 0, none⟩) 9 9 nine := by
  obtain ⟨h1, h2, h3⟩ := litW_spec [1, 2, 3, 4, 5, 6, 7, 8, 9] w
  generalize litW w [1, 2, 3, 4, 5, 6, 7, 8, 9] = W at *
  have h1' : W.heap.size = w.heap.size + 9 := h1
  have bA : Below W.heap.size W (W.alloc (nineRow w)) := (Below.refl _ _).alloc (Nat.le_refl _) _
  refine ⟨h2.trans (bA.mono h2.size), rfl, ?_, Nat.le_refl _, by unfold maxLen; omega, (fun h => by cases h), bytes_mem (fun x hx => ?_), short_mem (fun x hx => ?_)⟩
  · have e9 : w.heap.size + 1 + 1 + 1 + 1 + 1 + 1 + 1 + 1 + 1 = W.heap.size := by rw [h1']
    rw [e9]
    refine .inr ⟨W.heap.size, 0, 9, rfl, by simp, fun j hj => ?_⟩
    have hj' : j < 9 := hj
    have hc : (W.alloc (nineRow w)).cell? ⟨W.heap.size, 0 + j, none⟩ = some (.slice (some ⟨w.heap.size + j, 0, none⟩) 1 1) := by
      rw [Nat.zero_add]
      match j, hj' with
      | 0, _ => exact new_cell W _ _ 0 (by simp)
      | 1, _ => exact new_cell W _ _ 1 (by simp)
      | 2, _ => exact new_cell W _ _ 2 (by simp)
      | 3, _ => exact new_cell W _ _ 3 (by simp)
      | 4, _ => exact new_cell W _ _ 4 (by simp)
      | 5, _ => exact new_cell W _ _ 5 (by simp)
      | 6, _ => exact new_cell W _ _ 6 (by simp)
      | 7, _ => exact new_cell W _ _ 7 (by simp)
      | 8, _ => exact new_cell W _ _ 8 (by simp)
      | j + 9, h => omega
    refine ⟨_, _, _, hc, .inr ⟨w.heap.size + j, 0, 1, ?_, by simp; omega, fun i hi => ?_⟩⟩
    · match j, hj' with
      | 0, _ => rfl
      | 1, _ => rfl
      | 2, _ => rfl
      | 3, _ => rfl
      | 4, _ => rfl
      | 5, _ => rfl
      | 6, _ => rfl
      | 7, _ => rfl
      | 8, _ => rfl
      | j + 9, h => omega
    · have hi0 : i = 0 := by
        match j, hj' with
        | 0, _ => have : i < 1 := hi; omega
        | 1, _ => have : i < 1 := hi; omega
        | 2, _ => have : i < 1 := hi; omega
        | 3, _ => have : i < 1 := hi; omega
        | 4, _ => have : i < 1 := hi; omega
        | 5, _ => have : i < 1 := hi; omega
        | 6, _ => have : i < 1 := hi; omega
        | 7, _ => have : i < 1 := hi; omega
        | 8, _ => have : i < 1 := hi; omega
        | j + 9, h => omega
      subst hi0
      have := h3 j hj
      rw [Nat.add_zero, old_cell W (nineRow w) _ 0 (by omega), this]
      match j, hj' with
      | 0, _ => rfl
      | 1, _ => rfl
      | 2, _ => rfl
      | 3, _ => rfl
      | 4, _ => rfl
      | 5, _ => rfl
      | 6, _ => rfl
      | 7, _ => rfl
      | 8, _ => rfl
      | j + 9, h => omega
  · have hall : ∀ x ∈ nine, ∀ y ∈ x, 0 ≤ y ∧ y < 256 := by decide
    exact bytes_of_mem (hall x hx)
  · have : x.length ≤ 200 := nine_short x hx
    unfold maxLen; omega

end Go.Proofs.YtkjlchfmplcobaeDoor

/- The walk of yearlaw5.alive, over package shelf's faces. -/
namespace Go.Proofs.YtkjlchfmplcobaeDoor
open Go.RowKit

set_option maxRecDepth 100000 in
set_option maxHeartbeats 2000000 in
theorem alive5_any (hEx : ExportC) (hVe : VerifyC) (hEn : EntryC) (w : World) (hR : Ready w) :
    Calls Tryd.prog 7 #[] w fun e w' => e = .returned (.bool true) ∧ Below w.heap.size w w' := by
  obtain ⟨b0, hL⟩ := nine_at w
  have cE := hEx nine _ 9 9 _ (hR.below b0) hL
  rw [nine_wrong, nine_export] at cE
  dsimp only [faultV] at cE
  have hsg := nine_segs
  have cV : ∀ w' mv, Below w.heap.size w w' → ManAt w' mv ⟨9, mth nine, segsL nine⟩ → _ := fun w' mv h hm => hVe _ mv w' (hR.below h) hm
  have cN : ∀ w' mv, ManAt w' mv ⟨9, mth nine, segsL nine⟩ → _ := fun w' mv hm => hEn _ 8 mv w' hm (by decide)
  rw [nine_verify] at cV
  rw [nine_entry] at cN
  dsimp only [faultV] at cV cN
  clear hL
  generalize mth nine = M at *
  generalize segsL nine = SG at *
  simp only [litW, List.foldl, nineRow] at b0 cE
  go_enter Tryd.func7, Tryd.ntmps7
  go_wp2_with fail
  refine cE.mono ?_
  rintro e w1 ⟨mv, rfl, hM, hb1⟩
  have b1 := b0.trans (hb1.mono b0.size)
  clear cE hb1 b0
  obtain ⟨rv, sv, rfl, hr, a, c, rfl, hN1, hN2, hN3, hcell⟩ := hM
  obtain ⟨ra, rc, rfl⟩ := hr.at'.form
  dsimp only at hr
  have hM : ManAt w1 (.agg #[.int .i64 9, .slice ra M.length rc, .slice a SG.length c]) ⟨9, M, SG⟩ := ⟨_, _, rfl, hr, a, c, rfl, hN1, hN2, hN3, hcell⟩
  clear hcell hr
  rw [hsg] at hM
  have d2 : Below w1.heap.size w1 ((w1.alloc (.cells #[.int .i64 9, (.slice ra M.length rc), .slice a 2 c] 27)).alloc (.cells #[.int .i64 0, .int .i64 0] 32)) := ((Below.refl _ _).alloc (Nat.le_refl _) _).alloc (by simp) _
  have b2 := b1.trans (d2.mono b1.size)
  have x2 := box_old _ (.cells #[.int .i64 0, .int .i64 0] 32) (box_new w1 #[.int .i64 9, (.slice ra M.length rc), .slice a 2 c] 27)
  have y2 := box_last w1 (.cells #[.int .i64 9, (.slice ra M.length rc), .slice a 2 c] 27) #[.int .i64 0, .int .i64 0] 32
  have hM2 := hM.below d2
  obtain ⟨u0, u1, u2, -, -, -⟩ := box_three x2
  rw [hsg]
  go_wp2_with fail
  generalize ((w1.alloc (.cells #[.int .i64 9, (.slice ra M.length rc), .slice a 2 c] 27)).alloc (.cells #[.int .i64 0, .int .i64 0] 32)) = w2 at *
  refine (cV _ _ b2 hM2).mono ?_
  rintro e w3 ⟨xa, xn, xc, rfl, hl, hb3⟩
  have b3 := b2.trans (hb3.mono b2.size)
  obtain rfl : xn = 9 := hl.lists.len.symm
  have d4 : Below w3.heap.size w3 (w3.alloc (.cells #[.int .i64 0, .int .i64 0] 32)) := (Below.refl _ _).alloc (Nat.le_refl _) _
  have b4 := b3.trans (d4.mono b3.size)
  have hM4 := (hM2.below hb3).below d4
  have x4 := box_old _ (.cells #[.int .i64 0, .int .i64 0] 32) (box_kept x2 hb3)
  have y4 := box_old _ (.cells #[.int .i64 0, .int .i64 0] 32) (box_kept y2 hb3)
  have z4 := box_new w3 #[.int .i64 0, .int .i64 0] 32
  obtain ⟨u0', u1', u2', -, -, -⟩ := box_three x4
  clear cV hl u0 u1 u2 x2 y2 hM hM2 hb3 d2 d4 b2 b3
  go_wp2_with fail
  generalize w3.alloc (.cells #[.int .i64 0, .int .i64 0] 32) = w4 at *
  refine (cN _ _ hM4).mono ?_
  rintro e w5 ⟨v, rfl, hs, hb5⟩
  have b5 := b4.trans (hb5.mono b4.size)
  obtain ⟨t0, t1, t2, -, -, -⟩ := box_three (box_kept x4 hb5)
  obtain ⟨p0, p1, -, -⟩ := box_two (box_kept y4 hb5)
  obtain ⟨q0, q1, -, -⟩ := box_two (box_kept z4 hb5)
  rcases hs.at' with ⟨hx, -⟩ | ⟨g, off, cp, rfl, hg, hc9⟩
  · cases hx
  have h9 := hc9 0 (by decide)
  rw [Nat.add_zero] at h9
  replace h9 : w5.cell? ⟨g, off, none⟩ = some (.int .u8 9) := h9
  clear hc9 hs hM4 cN x4 y4 z4 hb5 u0' u1' u2'
  dsimp only [List.length_cons, List.length_nil]
  go_wp2_with fail
  go_ret
  exact ⟨rfl, b5⟩

end Go.Proofs.YtkjlchfmplcobaeDoor

/- The walk of the law ShelfEntries, over the faces of package shelf. -/
namespace Go.Proofs.YtkjlchfmplcobaeDoor
open Go.RowKit

set_option maxRecDepth 100000 in
set_option maxHeartbeats 2000000 in
theorem shelfEntries_any (hEx : ExportC) (hVe : VerifyC) (hEn : EntryC) (m : Man) (i : Int) (mv : Value) (w : World) (hR : Ready w) (hM : ManAt w mv m) (hi63 : i ≤ 9223372036854775807) :
    Calls Tryd.prog 3 #[mv, .int .i64 i] w fun e w' => e = .returned (.bool true) ∧ Below w.heap.size w w' := by
  have cA := fun w' (h : Below w.heap.size w w') => alive5_any hEx hVe hEn w' (hR.below h)
  have cV := fun w' (h : Below w.heap.size w w') => hVe m mv w' (hR.below h) (hM.below h)
  have cN := fun w' (h : Below w.heap.size w w') => hEn m i mv w' (hM.below h) hi63
  obtain ⟨rv, sv, rfl, hr, a, c, rfl, hN1, hN2, hN3, hcell⟩ := hM
  have HV : Hid ((verifyL m).2.1 = 0 → entryL m i = if i < 0 ∨ ((verifyL m).1.length : Int) ≤ i then ([], 6) else ((verifyL m).1.getD i.toNat [], 0)) := fun h => by
    have h1 := (verify_spec h).1
    rw [entry_verified h, h1]
  have x0 := box_new w #[.int .i64 m.size, rv, .slice a m.segs.length c] 27
  have b0 : Below w.heap.size w (w.alloc (.cells #[.int .i64 m.size, rv, .slice a m.segs.length c] 27)) := (Below.refl _ _).alloc (Nat.le_refl _) _
  have cA0 := cA _ b0
  clear hcell hr cA
  generalize m.segs.length = N at *
  generalize m.size = size at *
  generalize verifyL m = V at *
  generalize entryL m i = EN at *
  obtain ⟨X, F1, F2⟩ := V
  obtain ⟨E0, E1⟩ := EN
  dsimp only [faultV] at cV cN HV
  go_enter Tryd.func3, Tryd.ntmps3
  go_wp2_with fail
  generalize w.alloc (.cells #[.int .i64 size, rv, .slice a N c] 27) = w0 at *
  refine cA0.mono ?_
  rintro e w1 ⟨rfl, hb1⟩
  have b1 := b0.trans (hb1.mono b0.size)
  have x1 := box_kept x0 hb1
  obtain ⟨u0, u1, u2, -, -, -⟩ := box_three x1
  clear cA0 x0 b0 hb1
  go_wp2_with fail
  refine (cV _ b1).mono ?_
  rintro e w2 ⟨xa, xn, xc, rfl, hl, hb2⟩
  have x2 := box_old _ (.cells #[.int .i64 F1, .int .i64 F2] 32) (box_kept x1 hb2)
  obtain ⟨c2, f0, -, sf⟩ := box_cells w2 (.int .i64 F1) (.int .i64 F2) 32
  have b2 := b1.trans (hb2.mono b1.size)
  have b3 := b2.trans (c2.mono b2.size)
  have hl3 := hl.lists.below c2
  obtain ⟨u0', u1', u2', -, -, -⟩ := box_three x2
  clear cV x1 u0 u1 u2 hl hb2 b2 c2
  by_cases hF : F1 = 0
  case neg =>
    have i1 : (F1 != 0) = true := by simpa using hF
    clear HV cN
    go_wp2_with fail
    go_ret
    exact ⟨rfl, b3⟩
  subst hF
  replace HV := HV.out rfl
  go_wp2_with fail
  generalize w2.alloc (.cells #[.int .i64 0, .int .i64 F2] 32) = w3 at *
  refine (cN _ b3).mono ?_
  rintro e w4 ⟨v, rfl, hs, hb4⟩
  have b4 := b3.trans (hb4.mono b3.size)
  have hl4 := hl3.below hb4
  have hlen := hl4.len
  rw [hlen] at HV
  obtain ⟨ea, ec, rfl⟩ := hs.at'.form
  clear cN u0' u1' u2' x2 hl3 f0 sf b3
  by_cases hi : i < 0 ∨ (xn : Int) ≤ i
  · rw [if_pos hi] at HV
    obtain ⟨rfl, rfl⟩ := Prod.mk.inj HV
    clear HV hs
    rcases (show i < 0 ∨ (¬ i < 0 ∧ (xn : Int) ≤ i) by omega) with hk | ⟨hk1, hk⟩
    all_goals
      clear hi
      dsimp only [List.length_nil]
      go_wp2_with fail
      go_ret
      exact ⟨rfl, b4⟩
  · rw [if_neg hi] at HV
    obtain ⟨rfl, rfl⟩ := Prod.mk.inj HV
    obtain ⟨j, rfl⟩ : ∃ j : Nat, i = (j : Int) := ⟨i.toNat, by omega⟩
    rw [Int.toNat_natCast] at hs ⊢
    obtain ⟨b, off, pa, pc, rfl, hcj, hsj⟩ := hl4.get j (by omega)
    have sS := same_any (X.getD j []) (X.getD j []) _ _ w4 hs.at' hsj.at' hs.short
    rw [decide_eq_true rfl] at sS
    have j1 : ¬ (j : Int) < 0 := by omega
    have j2 : (j : Int) < xn := by omega
    clear HV hs hsj hl4 hi
    generalize (X.getD j []).length = dn at *
    go_wp2_with fail
    refine sS.mono ?_
    rintro e w5 ⟨rfl, q, rfl⟩
    go_wp2_with fail
    go_ret
    exact ⟨rfl, below_drewN' b4 _⟩

end Go.Proofs.YtkjlchfmplcobaeDoor
