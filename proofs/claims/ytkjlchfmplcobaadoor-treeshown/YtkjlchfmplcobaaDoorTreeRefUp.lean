/- The walks of yearref2.Up and Stands. -/
import Derived.Test.YtkjlchfmplcobaaDoorProg
import Derived.Test.YtkjlchfmplcobaaDoorTreeRefSmall
import Derived.WalkKit
import Derived.WalkSpells
import Derived.WalkLawsBesides
import Derived.Deep.RegionHeld3
import Derived.BigRegion
import Derived.Test.YtkjlchfmplcobaaDoorTreeMem
import Derived.Deep.QuietTactic
import Derived.BigQuiet
namespace Go.Proofs.YtkjlchfmplcobaaDoor
open Go.RowKit

set_option maxRecDepth 100000 in
set_option maxHeartbeats 2000000 in
theorem refUp_any (n : Nat) : ∀ (p : List (List Int)) (d : List Int) (i : Nat) (iv nv : Int) (dv : Value) (a : Option Addr) (m c : Nat) (w : World), iv = i → nv = n → i < n → n ≤ 1000000 → BytesAt w dv d → Bytes d → d.length ≤ 32 → p.length = m → PartsAt w (.slice a m c) p → m ≤ c → c ≤ maxLen →
    (∀ j, Bytes (p.getD j [])) → (∀ j, (p.getD j []).length ≤ 32) →
    Calls Tryd.prog 57 #[dv, .int .i64 iv, .int .i64 nv, .slice a m c] w fun e w' => ∃ x, e = .returned (.tuple #[x, .bool (upL d i n p).2]) ∧ BytesAt w' x (upL d i n p).1 ∧ Below w.heap.size w w' := by
  induction n using Nat.strongRecOn with
  | ind n ih =>
    intro p d i iv nv dv a m c w hiv hnv hi hn hd hdb hdl hm hv hc hcm hz hl
    have hcm' := hcm
    unfold maxLen at hcm
    subst hiv hnv
    by_cases h1 : n = 1
    · subst h1
      rw [upL_one (Nat.le_refl _), hm]
      go_enter Tryd.func57, Tryd.ntmps57
      go_wp2_with fail
      go_ret2
      refine ⟨dv, ?_, hd, Below.refl _ _⟩
      by_cases h0 : m = 0
      · subst h0; rfl
      · have : (decide (m = 0)) = false := by simpa using h0
        rw [this]
        simp
        omega
    · by_cases h0 : m = 0
      · subst h0
        rw [upL_none (by omega) hm]
        go_enter Tryd.func57, Tryd.ntmps57
        go_wp2_with fail
        go_ret2
        exact ⟨_, rfl, bytesAt_nil _, Below.refl _ _⟩
      · have hs := splitN_spec (n := n) (by omega)
        obtain ⟨b, off, ta, tc, rfl, hb0, hcl, hB⟩ := hv.last hm h0
        have hvt := hv.take hm (Nat.sub_le m 1) (by omega) c
        have hzt := take_bytes hz (m - 1)
        have hlt := take_short hl (m - 1)
        have htl : (p.take (m - 1)).length = m - 1 := by rw [List.length_take]; omega
        have hsp := split_any n w (by omega) hn
        have HL : Hid (i < splitN n → upL d i n p = (nodeL (upL d i (splitN n) (p.take (m - 1))).1 (p.getD (m - 1) []), (upL d i (splitN n) (p.take (m - 1))).2)) := fun h => by
          have := upL_left (d := d) (i := i) (n := n) (p := p) (by omega) (by omega) h
          rwa [dropLast_take, hm] at this
        have HR : Hid (¬ i < splitN n → upL d i n p = (nodeL (p.getD (m - 1) []) (upL d (i - splitN n) (n - splitN n) (p.take (m - 1))).1, (upL d (i - splitN n) (n - splitN n) (p.take (m - 1))).2)) := fun h => by
          have := upL_right (d := d) (i := i) (n := n) (p := p) (by omega) (by omega) h
          rwa [dropLast_take, hm] at this
        have hzl := hz (m - 1)
        have hll := hl (m - 1)
        clear hz hl hv hm
        generalize p.getD (m - 1) [] = top at *
        generalize p.take (m - 1) = q at *
        generalize upL d i n p = R at *
        obtain ⟨k, hk⟩ : ∃ k, splitN n = k := ⟨_, rfl⟩
        rw [hk] at hs HL HR hsp
        clear hk
        have i1 : (1 : Int) ≤ (m : Int) := by omega
        have i2 : (m : Int) - 1 ≤ (c : Int) := by omega
        have i3 : (m : Int) - 1 < (m : Int) := by omega
        have e1 : IntKind.i64.wrap ((m : Int) - 1) = (m : Int) - 1 := by rw [IntKind.wrap_i64]; omega
        have t1 : ((m : Int) - 1).toNat = m - 1 := by omega
        by_cases hlt1 : i < k
        · have HU := HL.out hlt1
          have hfit := up_fit k d i q hdb hdl
          rw [HU]
          clear HL HR HU
          have j1 : (i : Int) < (k : Int) := by omega
          have cu : ∀ w1, Below w.heap.size w w1 → _ := fun w1 hb => ih k (by omega) q d i i k dv (some ⟨b, off, none⟩) (m - 1) c w1 rfl rfl hlt1 (by omega) (hd.below (Nat.le_refl _) hb) hdb hdl htl (hvt.below (Nat.le_refl _) hb) (by omega) hcm' hzt hlt
          clear ih hzt hlt
          generalize upL d i k q = R1 at *
          obtain ⟨hf1, hf2⟩ := hfit
          go_enter Tryd.func57, Tryd.ntmps57
          go_wp2_with fail
          refine hsp.mono ?_
          rintro e w0 ⟨rfl, rfl⟩
          go_wp2_with fail
          go_quiet (fail)
          go_wp2_with fail
          refine (cu _ (below_drewN (Below.refl _ _) _)).mono ?_
          rintro e w1 ⟨x1, rfl, hx1, hb1⟩
          have hbA : Below w0.heap.size w0 w1 := Below.trans (below_drewN (Below.refl _ _) _) hb1
          have hs1 := hbA.size
          have hT1 := hB.below (Nat.le_refl _) hbA
          go_wp2_with fail
          refine (pair_any R1.1 top _ _ _ hx1 hT1 (by omega)).mono ?_
          rintro e w2 ⟨x2, rfl, ho2, hb2⟩
          have hs2 := hb2.size
          go_wp2_with fail
          refine (refSum_any (1 :: (R1.1 ++ top)) _ _ (bytesAt_own ho2) (by simp; omega) (bytes_cons (by decide) (by decide) (bytes_append hf1 hzl))).mono ?_
          rintro e w3 ⟨x3, rfl, ho3, hb3⟩
          go_wp2_with fail
          go_ret2
          exact ⟨x3, rfl, bytesAt_own ho3, (hbA.trans (hb2.mono hs1)).trans (hb3.mono (by omega))⟩
        · have HU := HR.out hlt1
          have hfit := up_fit (n - k) d (i - k) q hdb hdl
          rw [HU]
          clear HL HR HU
          have j1 : ¬ (i : Int) < (k : Int) := by omega
          have cu : ∀ w1, Below w.heap.size w w1 → _ := fun w1 hb => ih (n - k) (by omega) q d (i - k) ((i : Int) - k) ((n : Int) - k) dv (some ⟨b, off, none⟩) (m - 1) c w1 (by omega) (by omega) (by omega) (by omega) (hd.below (Nat.le_refl _) hb) hdb hdl htl (hvt.below (Nat.le_refl _) hb) (by omega) hcm' hzt hlt
          clear ih hzt hlt
          generalize upL d (i - k) (n - k) q = R1 at *
          obtain ⟨hf1, hf2⟩ := hfit
          go_enter Tryd.func57, Tryd.ntmps57
          go_wp2_with fail
          refine hsp.mono ?_
          rintro e w0 ⟨rfl, rfl⟩
          go_wp2_with fail
          go_quiet (fail)
          go_wp2_with fail
          refine (cu _ (below_drewN (Below.refl _ _) _)).mono ?_
          rintro e w1 ⟨x1, rfl, hx1, hb1⟩
          have hbA : Below w0.heap.size w0 w1 := Below.trans (below_drewN (Below.refl _ _) _) hb1
          have hs1 := hbA.size
          have hT1 := hB.below (Nat.le_refl _) hbA
          go_wp2_with fail
          refine (pair_any top R1.1 _ _ _ hT1 hx1 (by omega)).mono ?_
          rintro e w2 ⟨x2, rfl, ho2, hb2⟩
          have hs2 := hb2.size
          go_wp2_with fail
          refine (refSum_any (1 :: (top ++ R1.1)) _ _ (bytesAt_own ho2) (by simp; omega) (bytes_cons (by decide) (by decide) (bytes_append hzl hf1))).mono ?_
          rintro e w3 ⟨x3, rfl, ho3, hb3⟩
          go_wp2_with fail
          go_ret2
          exact ⟨x3, rfl, bytesAt_own ho3, (hbA.trans (hb2.mono hs1)).trans (hb3.mono (by omega))⟩

end Go.Proofs.YtkjlchfmplcobaaDoor
