/- The walk of yearref2.Two. -/
import Derived.Test.YtkjlchfmplcobaaDoorProg
import Derived.Test.YtkjlchfmplcobaaDoorTreeRefUp
import Derived.WalkKit
import Derived.WalkSpells
import Derived.WalkLawsBesides
import Derived.Deep.QuietTactic
import Derived.BigQuiet
import Derived.Test.YtkjlchfmplcobaaDoorTreeMem
namespace Go.Proofs.YtkjlchfmplcobaaDoor
open Go.RowKit

set_option maxRecDepth 100000 in
set_option maxHeartbeats 2000000 in
theorem refTwo_any (n : Nat) : ∀ (p : List (List Int)) (old : List Int) (m : Nat) (whole : Bool) (mv nv : Int) (ov : Value) (a : Option Addr) (l c : Nat) (w : World), mv = m → nv = n → 1 ≤ m → m ≤ n → n ≤ 1000000 → BytesAt w ov old → Bytes old → old.length ≤ 32 → p.length = l → PartsAt w (.slice a l c) p → l ≤ c → c ≤ maxLen →
    (∀ j, Bytes (p.getD j [])) → (∀ j, (p.getD j []).length ≤ 32) →
    Calls Tryd.prog 60 #[.int .i64 mv, .int .i64 nv, .bool whole, ov, .slice a l c] w fun e w' => ∃ x y, e = .returned (.tuple #[x, y, .bool (twoL m n whole old p).2.2]) ∧ BytesAt w' x (twoL m n whole old p).1 ∧ BytesAt w' y (twoL m n whole old p).2.1 ∧ Below w.heap.size w w' := by
  induction n using Nat.strongRecOn with
  | ind n ih =>
    intro p old m whole mv nv ov a l c w hmv hnv h1m hmn hn hd hdb hdl hm hv hc hcm hz hl
    have hcm' := hcm
    unfold maxLen at hcm
    subst hmv hnv
    by_cases he : m = n
    · subst he
      have q1 : ((m : Int) == (m : Int)) = true := by simp
      cases whole with
      | true =>
        rw [twoL_whole, hm]
        go_enter Tryd.func60, Tryd.ntmps60
        go_wp2_with fail
        go_ret3
        refine ⟨ov, ov, ?_, hd, hd, Below.refl _ _⟩
        by_cases h0 : l = 0
        · subst h0; rfl
        · have : (decide (l = 0)) = false := by simpa using h0
          rw [this]
          simp
          omega
      | false =>
        by_cases h1 : l = 1
        · subst h1
          rw [twoL_part hm]
          obtain ⟨b, off, ta, tc, rfl, hb0, hcl, hB⟩ := hv.last hm (by omega)
          rw [Nat.sub_self] at hcl hB
          rw [Nat.add_zero] at hcl
          clear hz hl hv ih
          generalize p.getD 0 [] = top at *
          go_enter Tryd.func60, Tryd.ntmps60
          go_wp2_with fail
          go_quiet (fail)
          go_wp2_with fail
          go_ret3
          exact ⟨_, _, rfl, hB.below (Nat.le_refl _) (below_drewN (Below.refl _ _) _), hB.below (Nat.le_refl _) (below_drewN (Below.refl _ _) _), below_drewN (Below.refl _ _) _⟩
        · rw [twoL_other (by omega)]
          have j1 : (l : Int) ≠ 1 := by omega
          go_enter Tryd.func60, Tryd.ntmps60
          go_wp2_with fail
          go_ret3
          exact ⟨_, _, rfl, bytesAt_nil _, bytesAt_nil _, Below.refl _ _⟩
    · have j0 : (m : Int) ≠ (n : Int) := by omega
      by_cases h0 : l = 0
      · subst h0
        rw [twoL_none he hm]
        go_enter Tryd.func60, Tryd.ntmps60
        go_wp2_with fail
        go_ret3
        exact ⟨_, _, rfl, bytesAt_nil _, bytesAt_nil _, Below.refl _ _⟩
      · have hs := splitN_spec (n := n) (by omega)
        obtain ⟨b, off, ta, tc, rfl, hb0, hcl, hB⟩ := hv.last hm h0
        have hvt := hv.take hm (Nat.sub_le l 1) (by omega) c
        have hzt := take_bytes hz (l - 1)
        have hlt := take_short hl (l - 1)
        have htl : (p.take (l - 1)).length = l - 1 := by rw [List.length_take]; omega
        have hsp := split_any n w (by omega) hn
        have HL : Hid (m ≤ splitN n → twoL m n whole old p = ((twoL m (splitN n) whole old (p.take (l - 1))).1, nodeL (twoL m (splitN n) whole old (p.take (l - 1))).2.1 (p.getD (l - 1) []), (twoL m (splitN n) whole old (p.take (l - 1))).2.2)) := fun h => by
          have := twoL_left (whole := whole) (old := old) (p := p) he (by omega) (by omega) h
          rwa [dropLast_take, hm] at this
        have HR : Hid (¬ m ≤ splitN n → twoL m n whole old p = (nodeL (p.getD (l - 1) []) (twoL (m - splitN n) (n - splitN n) false old (p.take (l - 1))).1, nodeL (p.getD (l - 1) []) (twoL (m - splitN n) (n - splitN n) false old (p.take (l - 1))).2.1, (twoL (m - splitN n) (n - splitN n) false old (p.take (l - 1))).2.2)) := fun h => by
          have := twoL_right (whole := whole) (old := old) (p := p) he (by omega) (by omega) h
          rwa [dropLast_take, hm] at this
        have hzl := hz (l - 1)
        have hll := hl (l - 1)
        clear hz hl hv hm
        generalize p.getD (l - 1) [] = top at *
        generalize p.take (l - 1) = q at *
        generalize twoL m n whole old p = R at *
        obtain ⟨k, hk⟩ : ∃ k, splitN n = k := ⟨_, rfl⟩
        rw [hk] at hs HL HR hsp
        clear hk
        have i1 : (1 : Int) ≤ (l : Int) := by omega
        have i2 : (l : Int) - 1 ≤ (c : Int) := by omega
        have i3 : (l : Int) - 1 < (l : Int) := by omega
        have e1 : IntKind.i64.wrap ((l : Int) - 1) = (l : Int) - 1 := by rw [IntKind.wrap_i64]; omega
        have t1 : ((l : Int) - 1).toNat = l - 1 := by omega
        by_cases hlt1 : m ≤ k
        · have HU := HL.out hlt1
          have hfit := two_fit k m whole old q hdb hdl hzt hlt
          rw [HU]
          clear HL HR HU
          have j1 : (m : Int) ≤ (k : Int) := by omega
          have cu : ∀ w1, Below w.heap.size w w1 → _ := fun w1 hb => ih k (by omega) q old m whole m k ov (some ⟨b, off, none⟩) (l - 1) c w1 rfl rfl h1m hlt1 (by omega) (hd.below (Nat.le_refl _) hb) hdb hdl htl (hvt.below (Nat.le_refl _) hb) (by omega) hcm' hzt hlt
          clear ih hzt hlt
          generalize twoL m k whole old q = R1 at *
          obtain ⟨-, hf1, hf2⟩ := hfit
          go_enter Tryd.func60, Tryd.ntmps60
          go_wp2_with fail
          refine hsp.mono ?_
          rintro e w0 ⟨rfl, rfl⟩
          go_wp2_with fail
          go_quiet (fail)
          go_wp2_with fail
          refine (cu _ (below_drewN (Below.refl _ _) _)).mono ?_
          rintro e w1 ⟨x1, y1, rfl, hx1, hy1, hb1⟩
          have hbA : Below w0.heap.size w0 w1 := Below.trans (below_drewN (Below.refl _ _) _) hb1
          have hs1 := hbA.size
          have hT1 := hB.below (Nat.le_refl _) hbA
          go_wp2_with fail
          refine (pair_any R1.2.1 top _ _ _ hy1 hT1 (by omega)).mono ?_
          rintro e w2 ⟨x2, rfl, ho2, hb2⟩
          have hs2 := hb2.size
          go_wp2_with fail
          refine (refSum_any (1 :: (R1.2.1 ++ top)) _ _ (bytesAt_own ho2) (by simp; omega) (bytes_cons (by decide) (by decide) (bytes_append hf1 hzl))).mono ?_
          rintro e w3 ⟨x3, rfl, ho3, hb3⟩
          go_wp2_with fail
          go_ret3
          exact ⟨x1, x3, rfl, hx1.below (Nat.le_refl _) (hb2.trans (hb3.mono hs2)), bytesAt_own ho3, (hbA.trans (hb2.mono hs1)).trans (hb3.mono (by omega))⟩
        · have HU := HR.out hlt1
          have hfit := two_fit (n - k) (m - k) false old q hdb hdl hzt hlt
          rw [HU]
          clear HL HR HU
          have j1 : ¬ (m : Int) ≤ (k : Int) := by omega
          have cu : ∀ w1, Below w.heap.size w w1 → _ := fun w1 hb => ih (n - k) (by omega) q old (m - k) false ((m : Int) - k) ((n : Int) - k) ov (some ⟨b, off, none⟩) (l - 1) c w1 (by omega) (by omega) (by omega) (by omega) (by omega) (hd.below (Nat.le_refl _) hb) hdb hdl htl (hvt.below (Nat.le_refl _) hb) (by omega) hcm' hzt hlt
          clear ih hzt hlt
          generalize twoL (m - k) (n - k) false old q = R1 at *
          obtain ⟨⟨hg1, hg2⟩, hf1, hf2⟩ := hfit
          go_enter Tryd.func60, Tryd.ntmps60
          go_wp2_with fail
          refine hsp.mono ?_
          rintro e w0 ⟨rfl, rfl⟩
          go_wp2_with fail
          go_quiet (fail)
          go_wp2_with fail
          refine (cu _ (below_drewN (Below.refl _ _) _)).mono ?_
          rintro e w1 ⟨x1, y1, rfl, hx1, hy1, hb1⟩
          have hbA : Below w0.heap.size w0 w1 := Below.trans (below_drewN (Below.refl _ _) _) hb1
          have hs1 := hbA.size
          have hT1 := hB.below (Nat.le_refl _) hbA
          go_wp2_with fail
          refine (pair_any top R1.1 _ _ _ hT1 hx1 (by omega)).mono ?_
          rintro e w2 ⟨x2, rfl, ho2, hb2⟩
          have hs2 := hb2.size
          go_wp2_with fail
          refine (refSum_any (1 :: (top ++ R1.1)) _ _ (bytesAt_own ho2) (by simp; omega) (bytes_cons (by decide) (by decide) (bytes_append hzl hg1))).mono ?_
          rintro e w3 ⟨x3, rfl, ho3, hb3⟩
          have hs3 := hb3.size
          have hbC : Below w1.heap.size w1 w3 := hb2.trans (hb3.mono hs2)
          have hsC := hbC.size
          go_wp2_with fail
          refine (pair_any top R1.2.1 _ _ _ (hT1.below (Nat.le_refl _) hbC) (hy1.below (Nat.le_refl _) hbC) (by omega)).mono ?_
          rintro e w4 ⟨x4, rfl, ho4, hb4⟩
          have hs4 := hb4.size
          go_wp2_with fail
          refine (refSum_any (1 :: (top ++ R1.2.1)) _ _ (bytesAt_own ho4) (by simp; omega) (bytes_cons (by decide) (by decide) (bytes_append hzl hf1))).mono ?_
          rintro e w5 ⟨x5, rfl, ho5, hb5⟩
          go_wp2_with fail
          go_ret3
          exact ⟨x3, x5, rfl, (bytesAt_own ho3).below (Nat.le_refl _) (hb4.trans (hb5.mono hs4)), bytesAt_own ho5, (hbA.trans (hbC.mono hs1)).trans ((hb4.mono (by omega)).trans (hb5.mono (by omega)))⟩

end Go.Proofs.YtkjlchfmplcobaaDoor
