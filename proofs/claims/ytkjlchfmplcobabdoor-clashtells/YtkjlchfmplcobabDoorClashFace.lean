/- What the laws of chapter 3 ask of package clash's faces, as propositions: each is shown of the landed code elsewhere; and the walk of yearlaw3.two. -/
import Derived.Test.YtkjlchfmplcobabDoorProg
import Derived.Test.YtkjlchfmplcobabDoorShaSame
import Derived.Test.YtkjlchfmplcobabDoorShaSum
import Derived.Test.YtkjlchfmplcobabDoorTreeLawBase
import Derived.WalkKit
import Derived.WalkSpells
import Derived.WalkLawsBesides
namespace Go.Proofs.YtkjlchfmplcobabDoor
open Go.RowKit

/-- Another leaf than that which is there is shown. -/
def clashS (L : List (List Int)) (b : List Int) (i : Int) (p : List (List Int)) : Bool := decide ((wrongL L).1 = 0) && standsL L.length (mth L) b i p && decide (L.getD i.toNat [] ≠ b)
/-- Another past than that which was is shown. -/
def clashG (L : List (List Int)) (os : Int) (oroot : List Int) (p : List (List Int)) : Bool := decide ((wrongL L).1 = 0) && grewL os oroot L.length (mth L) p && decide (mth (L.take os.toNat) ≠ oroot)
/-- Two texts, unlike, with one digest; or none. -/
def Told (w : World) (vx vy : Value) (ok : Bool) : Prop := ∃ x y, Some' w vx x ∧ Some' w vy y ∧ x.length ≤ 1000000 ∧ y.length ≤ 1000000 ∧ (ok = true → x ≠ y ∧ shaL x = shaL y) ∧ (ok = false → x = [] ∧ y = [])
def ClashStandsC : Prop := ∀ (L : List (List Int)) (b : List Int) (i : Int) (p : List (List Int)) (bv : Value) (a : Option Addr) (n c : Nat) (pa : Option Addr) (pn pc : Nat) (w : World), Ready w → Lists w a n c L → Some' w bv b → Lists w pa pn pc p →
  Calls Tryd.prog 21 #[.slice a n c, bv, .int .i64 i, .slice pa pn pc] w fun e w' => ∃ vx vy, e = .returned (.tuple #[vx, vy, .bool (clashS L b i p)]) ∧ Told w' vx vy (clashS L b i p) ∧ Below w.heap.size w w'
def ClashGrewC : Prop := ∀ (L : List (List Int)) (os : Int) (oroot : List Int) (p : List (List Int)) (ov : Value) (a : Option Addr) (n c : Nat) (pa : Option Addr) (pn pc : Nat) (w : World), Ready w → Lists w a n c L → Some' w ov oroot → Lists w pa pn pc p →
  Calls Tryd.prog 23 #[.slice a n c, .agg #[.int .i64 os, ov], .slice pa pn pc] w fun e w' => ∃ vx vy, e = .returned (.tuple #[vx, vy, .bool (clashG L os oroot p)]) ∧ Told w' vx vy (clashG L os oroot p) ∧ Below w.heap.size w w'

set_option maxRecDepth 100000 in
set_option maxHeartbeats 1000000 in
theorem two_any (x y : List Int) (vx vy : Value) (w : World) (hr : Ready w) (hx : Some' w vx x) (hy : Some' w vy y) (h1 : x.length ≤ 1000000) (h2 : y.length ≤ 1000000) :
    Calls Tryd.prog 22 #[vx, vy] w fun e w' => e = .returned (.bool (decide (x ≠ y) && decide (shaL x = shaL y))) ∧ Below w.heap.size w w' := by
  have s1 := same_any x y vx vy w hx.at' hy.at' (by unfold maxLen; omega)
  have u1 : ∀ w', Below w.heap.size w w' → _ := fun w' h => sum_any x vx w' (hx.below h).at' (by omega) hx.bytes (hr.below h).tab (hr.below h).big
  have u2 : ∀ w', Below w.heap.size w w' → _ := fun w' h => sum_any y vy w' (hy.below h).at' (by omega) hy.bytes (hr.below h).tab (hr.below h).big
  obtain ⟨xa, xc, ex⟩ := hx.at'.form
  obtain ⟨ya, yc, ey⟩ := hy.at'.form
  by_cases hq : x = y
  · rw [decide_eq_true hq] at s1
    rw [decide_eq_false (p := x ≠ y) (fun h => h hq), Bool.false_and]
    clear u1 u2 hq ex ey
    go_enter Tryd.func22, Tryd.ntmps22
    go_wp2_with (go_at_call 18; refine s1.mono ?_; rintro e w' ⟨rfl, q, rfl⟩)
    go_ret
    exact ⟨rfl, below_drewN' (Below.refl _ _) _⟩
  · rw [decide_eq_false hq] at s1
    rw [decide_eq_true (p := x ≠ y) hq, Bool.true_and]
    have hl : (shaL x).length ≤ maxLen := by rw [shaL_len]; unfold maxLen; omega
    clear hq ex ey
    go_enter Tryd.func22, Tryd.ntmps22
    go_wp2_with fail
    refine s1.mono ?_
    rintro e w1 ⟨rfl, q, rfl⟩
    have b1 := below_drewN' (Below.refl w.heap.size w) q
    go_wp2_with fail
    refine (u1 _ b1).mono ?_
    rintro e w2 ⟨g2, rfl, ho2, hb2⟩
    have b2 := b1.trans (hb2.mono b1.size)
    go_wp2_with fail
    refine (u2 _ b2).mono ?_
    rintro e w3 ⟨g3, rfl, ho3, hb3⟩
    have b3 := b2.trans (hb3.mono b2.size)
    have s2 := same_any (shaL x) (shaL y) _ _ w3 ((bytesAt_own ho2).below (Nat.le_refl _) hb3) (bytesAt_own ho3) hl
    clear s1 u1 u2 ho2 ho3
    go_wp2_with fail
    refine s2.mono ?_
    rintro e w4 ⟨rfl, q4, rfl⟩
    go_wp2_with fail
    go_ret
    exact ⟨rfl, below_drewN' b3 _⟩
theorem told_two {w : World} {vx vy : Value} {ok : Bool} (h : Told w vx vy ok) : ∃ x y, Some' w vx x ∧ Some' w vy y ∧ x.length ≤ 1000000 ∧ y.length ≤ 1000000 ∧ (decide (x ≠ y) && decide (shaL x = shaL y)) = ok ∧ (ok = false → x = [] ∧ y = []) := by
  obtain ⟨x, y, hx, hy, l1, l2, h1, h2⟩ := h
  refine ⟨x, y, hx, hy, l1, l2, ?_, h2⟩
  cases ok with
  | true => obtain ⟨q1, q2⟩ := h1 rfl; rw [decide_eq_true q1, decide_eq_true q2]; rfl
  | false => obtain ⟨rfl, rfl⟩ := h2 rfl; simp

end Go.Proofs.YtkjlchfmplcobabDoor
