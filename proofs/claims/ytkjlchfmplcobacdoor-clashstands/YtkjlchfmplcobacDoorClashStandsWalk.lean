/- The walk of the law ClashStands, over the faces of packages tree and clash. -/
import Derived.Test.YtkjlchfmplcobacDoorProg
import Derived.Test.YtkjlchfmplcobacDoorClashAlive
import Derived.WalkKit
import Derived.WalkSpells
import Derived.WalkLawsBesides
namespace Go.Proofs.YtkjlchfmplcobacDoor
open Go.RowKit

theorem stands_place {size : Int} {root b : List Int} {i : Int} {p : List (List Int)} (h : standsL size root b i p = true) : 0 ≤ i ∧ i < size ∧ b.length ≤ 200 := by
  unfold standsL at h
  split at h
  · cases h
  · omega
/-- What is told, as two sees it. -/
theorem told_call {w w' : World} {vx vy : Value} {ok : Bool} (hR : Ready w) (h : Below w.heap.size w w') (ht : Told w' vx vy ok) : ∃ x y xa xc ya yc, vx = .slice xa x xc ∧ vy = .slice ya y yc ∧ (ok = false → x = 0 ∧ y = 0) ∧ Calls Tryd.prog 11 #[vx, vy] w' fun e w2 => e = .returned (.bool ok) ∧ Below w'.heap.size w' w2 := by
  obtain ⟨x, y, hx, hy, l1, l2, h1, h2⟩ := told_two ht
  obtain ⟨xa, xc, rfl⟩ := hx.at'.form
  obtain ⟨ya, yc, rfl⟩ := hy.at'.form
  have t := two_any x y _ _ w' (hR.below h) hx hy l1 l2
  rw [h1] at t
  exact ⟨_, _, xa, xc, ya, yc, rfl, rfl, fun e => by obtain ⟨rfl, rfl⟩ := h2 e; exact ⟨rfl, rfl⟩, t⟩
set_option maxRecDepth 100000 in
set_option maxHeartbeats 2000000 in
theorem clashStands_any (hRoot : RootC) (hPath : PathC) (hStands : StandsC) (hClash : ClashStandsC) (L : List (List Int)) (b : List Int) (i : Int) (p : List (List Int)) (bv : Value) (a : Option Addr) (n c : Nat) (pa : Option Addr) (pn pc : Nat) (w : World)
    (hR : Ready w) (hL : Lists w a n c L) (hb : Some' w bv b) (hp : Lists w pa pn pc p) :
    Calls Tryd.prog 3 #[.slice a n c, bv, .int .i64 i, .slice pa pn pc] w fun e w' => e = .returned (.bool true) ∧ Below w.heap.size w w' := by
  have hcap := hL.cap
  have hroom := hL.room
  unfold maxLen at hcap
  have cA := alive3_any hRoot hPath hClash w hR
  have cR : ∀ w', Below w.heap.size w w' → _ := fun w' h => hRoot L a n c w' (hR.below h) (hL.below h)
  have cC : ∀ w', Below w.heap.size w w' → _ := fun w' h => hClash L b i p bv a n c pa pn pc w' (hR.below h) (hL.below h) (hb.below h) (hp.below h)
  have cS : ∀ w' rv, Below w.heap.size w w' → Some' w' rv (mth L) → _ := fun w' rv h hr => hStands n (mth L) b i p rv bv pa pn pc w' (hR.below h) hr (hb.below h) (hp.below h)
  have HN : Hid (L.length = n) := hL.len
  have hm32 := mth_length L
  have HC0 : Hid ((wrongL L).1 ≠ 0 → clashS L b i p = false) := fun h => by unfold clashS; rw [decide_eq_false h, Bool.false_and, Bool.false_and]
  have HC1 : Hid (standsL n (mth L) b i p = false → clashS L b i p = false) := fun h => by unfold clashS; rw [hL.len, h, Bool.and_false, Bool.false_and]
  have HC2 : Hid (L.getD i.toNat [] = b → clashS L b i p = false) := fun h => by unfold clashS; rw [decide_eq_false (p := L.getD i.toNat [] ≠ b) (fun g => g h), Bool.and_false]
  have HC3 : Hid ((wrongL L).1 = 0 → standsL n (mth L) b i p = true → L.getD i.toNat [] ≠ b → clashS L b i p = true) := fun h1 h2 h3 => by unfold clashS; rw [hL.len, decide_eq_true h1, h2, decide_eq_true h3]; rfl
  have HPL : Hid (standsL n (mth L) b i p = true → 0 ≤ i ∧ i < n) := fun h => by obtain ⟨h1, h2, -⟩ := stands_place h; exact ⟨h1, h2⟩
  generalize standsL n (mth L) b i p = st at *
  generalize clashS L b i p = ok at *
  generalize wrongL L = F at *
  obtain ⟨F1, F2⟩ := F
  dsimp only [faultV] at cR HC0 HC3
  go_enter Tryd.func3, Tryd.ntmps3
  go_wp2_with fail
  refine cA.mono ?_
  rintro e w1 ⟨rfl, b1⟩
  go_wp2_with fail
  refine (cR _ b1).mono ?_
  rintro e w2 ⟨ra, rn, rc, rfl, hr, -, hb2⟩
  obtain ⟨c2, f0, -, sf⟩ := box_cells w2 (.int .i64 F1) (.int .i64 F2) 27
  have b3 := (b1.trans (hb2.mono b1.size)).trans (c2.mono (b1.trans (hb2.mono b1.size)).size)
  clear cA cR
  by_cases hF : F1 = 0
  case neg =>
    have i1 : (F1 != 0) = true := by simpa using hF
    obtain rfl := HC0.out hF
    clear HC0 HC1 HC2 HC3 HPL cS hr
    go_wp2_with fail
    refine (cC _ b3).mono ?_
    rintro e w4 ⟨vx, vy, rfl, -, hb4⟩
    have b4 := b3.trans (hb4.mono b3.size)
    go_wp2_with fail
    go_ret
    exact ⟨rfl, b4⟩
  subst hF
  replace hr := hr rfl
  obtain rfl : rn = 32 := own_len hr
  have hrS : Some' (w2.alloc (.cells #[.int .i64 0, .int .i64 F2] 27)) (.slice ra 32 rc) (mth L) := ⟨(bytesAt_own hr).below (Nat.le_refl _) c2, bytes_mth _, by rw [hm32]; unfold maxLen; omega⟩
  have cS' := cS _ _ b3 hrS
  clear hr c2 hb2 cS hrS b1
  cases hst : st with
  | false =>
    rw [hst] at cS'
    obtain rfl := HC1.out hst
    subst hst
    clear HC0 HC1 HC2 HC3 HPL
    go_wp2_with fail
    refine cS'.mono ?_
    rintro e w4 ⟨rfl, hb4⟩
    have b4 := b3.trans (hb4.mono b3.size)
    go_wp2_with fail
    refine (cC _ b4).mono ?_
    rintro e w5 ⟨vx, vy, rfl, -, hb5⟩
    have b5 := b4.trans (hb5.mono b4.size)
    go_wp2_with fail
    go_ret
    exact ⟨rfl, b5⟩
  | true =>
    rw [hst] at cS'
    obtain ⟨hi0, hin⟩ := HPL.out hst
    obtain ⟨j, rfl⟩ : ∃ j : Nat, i = (j : Int) := ⟨i.toNat, by omega⟩
    have hjn : j < n := by omega
    rw [Int.toNat_natCast] at HC2 HC3
    have HC3' : Hid (L.getD j [] ≠ b → ok = true) := HC3.out rfl hst
    subst hst
    clear HC0 HC1 HC3 HPL
    obtain ⟨lb, lo, qa, qc, rfl, -, -⟩ := hL.get j hjn
    have cE : ∀ w', Below w.heap.size w w' → ∃ qa qc, w'.cell? ⟨lb, lo + j, none⟩ = some (.slice qa (L.getD j []).length qc) ∧ Calls Tryd.prog 9 #[.slice qa (L.getD j []).length qc, bv] w' fun e w2 => e = .returned (.bool (decide (L.getD j [] = b))) ∧ ∃ n, w2 = w'.drewN n := fun w' h => by
      obtain ⟨lb', lo', pa', pc', e, hc, hs⟩ := (hL.below h).get j hjn
      cases e
      exact ⟨pa', pc', hc, same_any _ _ _ _ w' hs.at' (hb.below h).at' hs.short⟩
    generalize L.getD j [] = z at *
    go_wp2_with fail
    refine cS'.mono ?_
    rintro e w4 ⟨rfl, hb4⟩
    have b4 := b3.trans (hb4.mono b3.size)
    obtain ⟨ea, ec, hcj, hE⟩ := cE _ b4
    clear cS' cE
    have j1 : (j : Int) < (n : Int) := by omega
    by_cases hz : z = b
    · rw [decide_eq_true hz] at hE
      obtain rfl := HC2.out hz
      clear HC2 HC3' hz
      go_wp2_with fail
      refine hE.mono ?_
      rintro e w5 ⟨rfl, q5, rfl⟩
      have b5 := below_drewN' b4 q5
      go_wp2_with fail
      refine (cC _ b5).mono ?_
      rintro e w6 ⟨vx, vy, rfl, -, hb6⟩
      have b6 := b5.trans (hb6.mono b5.size)
      go_wp2_with fail
      go_ret
      exact ⟨rfl, b6⟩
    · rw [decide_eq_false hz] at hE
      obtain rfl := HC3'.out hz
      clear HC2 HC3' hz
      go_wp2_with fail
      refine hE.mono ?_
      rintro e w5 ⟨rfl, q5, rfl⟩
      have b5 := below_drewN' b4 q5
      go_wp2_with fail
      refine (cC _ b5).mono ?_
      rintro e w6 ⟨vx, vy, rfl, ht, hb6⟩
      have b6 := b5.trans (hb6.mono b5.size)
      obtain ⟨x, y, xa, xc, ya, yc, rfl, rfl, -, t⟩ := told_call hR b6 ht
      clear ht
      go_wp2_with fail
      refine t.mono ?_
      rintro e w7 ⟨rfl, hb7⟩
      have b7 := b6.trans (hb7.mono b6.size)
      go_wp2_with fail
      go_ret
      exact ⟨rfl, b7⟩

end Go.Proofs.YtkjlchfmplcobacDoor
