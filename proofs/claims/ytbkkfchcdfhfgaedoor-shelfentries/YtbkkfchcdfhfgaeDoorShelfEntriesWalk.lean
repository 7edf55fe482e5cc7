/- The walk of the law ShelfEntries, over the faces of package shelf. -/
import Derived.Test.YtbkkfchcdfhfgaeDoorProg
import Derived.Test.YtbkkfchcdfhfgaeDoorRunAJ
import Derived.WalkKit
import Derived.WalkSpells
import Derived.WalkLawsBesides
namespace Go.Proofs.YtbkkfchcdfhfgaeDoor
open Go.RowKit

set_option maxRecDepth 100000 in
set_option maxHeartbeats 2000000 in
theorem shelfEntries_any (hEx : ExportC) (hVe : VerifyC) (hEn : EntryC) (m : Man) (i : Int) (mv : Value) (w : World) (hR : Ready w) (hM : ManAt w mv m) (hi63 : i ≤ 9223372036854775807) :
    Calls Tryd.prog 3 #[mv, .int .i64 i] w fun e w' => e = .returned (.bool true) ∧ Below w.heap.size w w' := by
  have cA := fun w' (h : Below w.heap.size w w') => alive5_any hEx hVe hEn w' (hR.below h)
  have cV := fun w' (h : Below w.heap.size w w') => hVe m mv w' (hR.below h) (hM.below h)
  have cN := fun w' (h : Below w.heap.size w w') => hEn m i mv w' (hM.below h) hi63
  obtain ⟨rv, sv, rfl, hr, a, c, rfl, hN1, hN2, hN3, hcell⟩ := hM
  have HV : Hid ((verifyL m).2.1 = 0 → entryL m i = if i < 0 ∨ ((verifyL m).1.length : Int) ≤ i then ([], 6) else ((verifyL m).1.getD i.toNat [], 0)) := fun h => by
    have h1 := (verify_spec h).1
    rw [entry_verified h, h1]
  have x0 := box_new w #[.int .i64 m.size, rv, .slice a m.segs.length c] 27
  have b0 : Below w.heap.size w (w.alloc (.cells #[.int .i64 m.size, rv, .slice a m.segs.length c] 27)) := (Below.refl _ _).alloc (Nat.le_refl _) _
  have cA0 := cA _ b0
  clear hcell hr cA
  generalize m.segs.length = N at *
  generalize m.size = size at *
  generalize verifyL m = V at *
  generalize entryL m i = EN at *
  obtain ⟨X, F1, F2⟩ := V
  obtain ⟨E0, E1⟩ := EN
  dsimp only [faultV] at cV cN HV
  go_enter Tryd.func3, Tryd.ntmps3
  go_wp2_with fail
  generalize w.alloc (.cells #[.int .i64 size, rv, .slice a N c] 27) = w0 at *
  refine cA0.mono ?_
  rintro e w1 ⟨rfl, hb1⟩
  have b1 := b0.trans (hb1.mono b0.size)
  have x1 := box_kept x0 hb1
  obtain ⟨u0, u1, u2, -, -, -⟩ := box_three x1
  clear cA0 x0 b0 hb1
  go_wp2_with fail
  refine (cV _ b1).mono ?_
  rintro e w2 ⟨xa, xn, xc, rfl, hl, hb2⟩
  have x2 := box_old _ (.cells #[.int .i64 F1, .int .i64 F2] 32) (box_kept x1 hb2)
  obtain ⟨c2, f0, -, sf⟩ := box_cells w2 (.int .i64 F1) (.int .i64 F2) 32
  have b2 := b1.trans (hb2.mono b1.size)
  have b3 := b2.trans (c2.mono b2.size)
  have hl3 := hl.lists.below c2
  obtain ⟨u0', u1', u2', -, -, -⟩ := box_three x2
  clear cV x1 u0 u1 u2 hl hb2 b2 c2
  by_cases hF : F1 = 0
  case neg =>
    have i1 : (F1 != 0) = true := by simpa using hF
    clear HV cN
    go_wp2_with fail
    go_ret
    exact ⟨rfl, b3⟩
  subst hF
  replace HV := HV.out rfl
  go_wp2_with fail
  generalize w2.alloc (.cells #[.int .i64 0, .int .i64 F2] 32) = w3 at *
  refine (cN _ b3).mono ?_
  rintro e w4 ⟨v, rfl, hs, hb4⟩
  have b4 := b3.trans (hb4.mono b3.size)
  have hl4 := hl3.below hb4
  have hlen := hl4.len
  rw [hlen] at HV
  obtain ⟨ea, ec, rfl⟩ := hs.at'.form
  clear cN u0' u1' u2' x2 hl3 f0 sf b3
  by_cases hi : i < 0 ∨ (xn : Int) ≤ i
  · rw [if_pos hi] at HV
    obtain ⟨rfl, rfl⟩ := Prod.mk.inj HV
    clear HV hs
    rcases (show i < 0 ∨ (¬ i < 0 ∧ (xn : Int) ≤ i) by omega) with hk | ⟨hk1, hk⟩
    all_goals
      clear hi
      dsimp only [List.length_nil]
      go_wp2_with fail
      go_ret
      exact ⟨rfl, b4⟩
  · rw [if_neg hi] at HV
    obtain ⟨rfl, rfl⟩ := Prod.mk.inj HV
    obtain ⟨j, rfl⟩ : ∃ j : Nat, i = (j : Int) := ⟨i.toNat, by omega⟩
    rw [Int.toNat_natCast] at hs ⊢
    obtain ⟨b, off, pa, pc, rfl, hcj, hsj⟩ := hl4.get j (by omega)
    have sS := same_any (X.getD j []) (X.getD j []) _ _ w4 hs.at' hsj.at' hs.short
    rw [decide_eq_true rfl] at sS
    have j1 : ¬ (j : Int) < 0 := by omega
    have j2 : (j : Int) < xn := by omega
    clear HV hs hsj hl4 hi
    generalize (X.getD j []).length = dn at *
    go_wp2_with fail
    refine sS.mono ?_
    rintro e w5 ⟨rfl, q, rfl⟩
    go_wp2_with fail
    go_ret
    exact ⟨rfl, below_drewN' b4 _⟩

end Go.Proofs.YtbkkfchcdfhfgaeDoor
