/- The walk of yearref2.MTH: the root of leaves. -/
import Derived.Test.YtkjlchfmplcobaaDoorProg
import Derived.Test.YtkjlchfmplcobaaDoorTreeRefSmall
import Derived.WalkKit
import Derived.WalkSpells
import Derived.WalkLawsBesides
import Derived.Deep.RegionHeld3
import Derived.BigRegion
import Derived.Test.YtkjlchfmplcobaaDoorRunAB
namespace Go.Proofs.YtkjlchfmplcobaaDoor
open Go.RowKit

set_option maxRecDepth 100000 in
set_option maxHeartbeats 1000000 in
theorem mth_any (n : Nat) : ∀ (L : List (List Int)) (a : Option Addr) (c : Nat) (w : World), L.length = n → n ≤ 1000000 → PartsAt w (.slice a n c) L → n ≤ c → c ≤ maxLen → (∀ j, Bytes (L.getD j [])) → (∀ j, (L.getD j []).length ≤ 1000000) →
    Calls Tryd.prog 29 #[.slice a n c] w fun e w' => ∃ x, e = .returned x ∧ w'.ownsRow w.heap.size 5 1 x 32 ((mth L).map (Value.int .u8)) ∧ Below w.heap.size w w' := by
  induction n using Nat.strongRecOn with
  | ind n ih =>
    intro L a c w hn hm hv hc hcm hz hl
    unfold maxLen at hcm
    by_cases h0 : n = 0
    · subst h0
      rw [mth_nil hn]
      go_enter Tryd.func29, Tryd.ntmps29
      go_wp2_with fail
      refine (refSum_any [] (.slice none 0 0) _ (.inl ⟨rfl, none, 0, rfl, fun _ => rfl⟩) (by simp) (fun j => by simp)).mono ?_
      rintro e w1 ⟨x, rfl, ho, hb⟩
      go_wp2_with fail
      go_ret
      exact ⟨x, rfl, ho, hb⟩
    by_cases h1 : n = 1
    · subst h1
      rw [mth_one hn]
      obtain ⟨a0, c0, e0, hcell⟩ := hv.form
      rw [hn] at e0
      cases e0
      obtain ⟨b, off, rfl, hb0, hcl⟩ := hcell.resolve_left (by omega)
      obtain ⟨pa, pc, hc0, hB0⟩ := hcl 0 (by omega)
      rw [Nat.add_zero] at hc0
      have hl0 := hl 0
      have hz0 := hz 0
      clear hcell hcl hv ih hz hl
      have HL : Hid (leafL (L.getD 0 []) = shaL (0 :: L.getD 0 [])) := rfl
      rw [HL.out]
      clear HL
      generalize L.getD 0 [] = zs at *
      go_enter Tryd.func29, Tryd.ntmps29
      go_wp2_with fail
      refine (in_any zs _ _ hB0 (by omega)).mono ?_
      rintro e w1 ⟨x, rfl, ho, hb⟩
      go_wp2_with fail
      refine (refSum_any (0 :: zs) x _ (bytesAt_own ho) (by simp; omega) (bytes_cons (by decide) (by decide) hz0)).mono ?_
      rintro e w2 ⟨y, rfl, ho2, hb2⟩
      have hs := hb.size
      go_wp2_with fail
      go_ret
      exact ⟨y, rfl, ownsRow_base ho2 hs, hb.trans (hb2.mono hs)⟩
    · have hs := splitN_spec (n := n) (by omega)
      have HM : Hid (mth L = nodeL (mth (L.take (splitN n))) (mth (L.drop (splitN n)))) := by
        have h := mth_more (ls := L) (by omega)
        rw [hn] at h
        exact h
      obtain ⟨a0, c0, e0, hcell⟩ := hv.form
      rw [hn] at e0
      cases e0
      obtain ⟨b, off, rfl, hb0, -⟩ := hcell.resolve_left (by omega)
      clear hcell
      have hsp := split_any n w (by omega) hm
      obtain ⟨k, hk⟩ : ∃ k, splitN n = k := ⟨_, rfl⟩
      rw [hk] at hs HM hsp
      clear hk
      have hvt : PartsAt w (.slice (some ⟨b, off, none⟩) k c) (L.take k) := hv.take hn (by omega) (by omega) _
      have hvd : PartsAt w (.slice (some ⟨b, off + k, none⟩) (n - k) (c - k)) (L.drop k) := hv.drop hn (by omega) (by omega) _
      have hlt : (L.take k).length = k := by rw [List.length_take]; omega
      have hld : (L.drop k).length = n - k := by rw [List.length_drop]; omega
      have gt : ∀ j, (L.take k).getD j [] = L.getD j [] ∨ (L.take k).getD j [] = [] := fun j => by
        by_cases h : j < k
        · left; rw [List.getD_eq_getElem?_getD, List.getElem?_take, if_pos h, ← List.getD_eq_getElem?_getD]
        · right; rw [List.getD_eq_getElem?_getD, List.getElem?_take, if_neg h]; rfl
      have gd : ∀ j, (L.drop k).getD j [] = L.getD (k + j) [] := fun j => by
        rw [List.getD_eq_getElem?_getD, List.getElem?_drop, ← List.getD_eq_getElem?_getD]
      have hzt : ∀ j, Bytes ((L.take k).getD j []) := fun j => by
        rcases gt j with e | e <;> rw [e]
        · exact hz j
        · intro q; simp
      have hzd : ∀ j, Bytes ((L.drop k).getD j []) := fun j => by rw [gd j]; exact hz _
      have hlt2 : ∀ j, ((L.take k).getD j []).length ≤ 1000000 := fun j => by
        rcases gt j with e | e <;> rw [e]
        · exact hl j
        · simp
      have hld2 : ∀ j, ((L.drop k).getD j []).length ≤ 1000000 := fun j => by rw [gd j]; exact hl _
      have c1 : ∀ w1, Below w.heap.size w w1 → _ := fun w1 hb => ih k (by omega) (L.take k) (some ⟨b, off, none⟩) c w1 hlt (by omega) (hvt.below (Nat.le_refl _) hb) (by omega) (by unfold maxLen; omega) hzt hlt2
      have c2 : ∀ w1, Below w.heap.size w w1 → _ := fun w1 hb => ih (n - k) (by omega) (L.drop k) (some ⟨b, off + k, none⟩) (c - k) w1 hld (by omega) (hvd.below (Nat.le_refl _) hb) (by omega) (by unfold maxLen; omega) hzd hld2
      have HB1 : Hid (Bytes (mth (L.take k)) ∧ (mth (L.take k)).length = 32) := ⟨bytes_mth _, mth_length _⟩
      have HB2 : Hid (Bytes (mth (L.drop k)) ∧ (mth (L.drop k)).length = 32) := ⟨bytes_mth _, mth_length _⟩
      clear hz hl hzt hzd hlt2 hld2 gt gd hvt hvd hv ih hlt hld
      generalize mth (L.take k) = M1 at *
      generalize mth (L.drop k) = M2 at *
      have HMM : Hid (mth L = shaL (1 :: (M1 ++ M2))) := HM.out
      clear HM
      rw [HMM.out]
      have i1 : (k : Int) ≤ (n : Int) := by omega
      have i2 : ¬ (c = k) := by omega
      have i3 : (k : Int) ≤ (c : Int) := by omega
      go_enter Tryd.func29, Tryd.ntmps29
      go_wp2_with fail
      refine hsp.mono ?_
      rintro e w0 ⟨rfl, rfl⟩
      go_wp2_with fail
      have l1 := HB1.out.2
      have l2 := HB2.out.2
      have HBB : Hid (Bytes (1 :: (M1 ++ M2))) := bytes_cons (by decide) (by decide) (bytes_append HB1.out.1 HB2.out.1)
      go_region_held3 (fun _ => True) (exact True.intro) (first | (go_at_call_of 29 (Value.slice (some ⟨b, off, none⟩) k c); refine (c1 _ (Below.refl _ _).drew).mono ?_; rintro e w1 ⟨x1, rfl, ho1, hb1⟩; have hb1' := (Below.refl _ _).drew.trans hb1) | (go_at_call_of 29 (Value.slice (some ⟨b, off + k, none⟩) (n - k) (c - k)); refine (c2 _ hb1').mono ?_; rintro e w2 ⟨x2, rfl, ho2, hb2⟩) | (go_at_call 20; refine (pair_any M1 M2 _ _ _ ((bytesAt_own ho1).below (Nat.le_refl _) hb2) (bytesAt_own ho2) (by rw [l1, l2]; omega)).mono ?_; rintro e w3 ⟨x3, rfl, ho3, hb3⟩) | (go_at_call 11; refine (refSum_any (1 :: (M1 ++ M2)) _ _ (bytesAt_own ho3) (by simp [l1, l2]) HBB.out).mono ?_; rintro e w4 ⟨x4, rfl, ho4, hb4⟩))
      have hbA : Below w0.heap.size w0 w1 := hb1'
      have hs1 : w0.heap.size ≤ w1.heap.size := hb1'.size
      have hs2 := hb2.size
      have hs3 := hb3.size
      go_wp2_with fail
      go_ret
      exact ⟨x4, rfl, ownsRow_base ho4 (by omega), ((hbA.trans (hb2.mono hs1)).trans (hb3.mono (by omega))).trans (hb4.mono (by omega))⟩

end Go.Proofs.YtkjlchfmplcobaaDoor
