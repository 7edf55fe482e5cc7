/- TreeRefSmall, TreeRefMth, TreeRefWrong, as one text. -/
import Derived.Test.YtkjlchfmplcobadDoorProg
import Derived.Test.YtkjlchfmplcobadDoorShaRefSum
import Derived.WalkKit
import Derived.WalkSpells
import Derived.WalkLawsBesides
import Derived.Test.YtkjlchfmplcobadDoorRunAA
import Derived.Deep.RegionHeld3
import Derived.BigRegion
import Derived.Test.YtkjlchfmplcobadDoorRunAC
import Derived.Test.YtkjlchfmplcobadDoorShaSum
import Derived.Deep.QuietTactic
import Derived.BigQuiet
/- The walks of yearref2's small functions: In, Pair, Split, Good, Ones, Wrong. -/
namespace Go.Proofs.YtkjlchfmplcobadDoor
open Go.RowKit

set_option maxRecDepth 100000 in
theorem in_any (zs : List Int) (v : Value) (w : World) (hv : BytesAt w v zs) (hm : zs.length + 1 ≤ 140737488355328) :
    Calls Tryd.prog 51 #[v] w fun e w' => ∃ x, e = .returned x ∧ w'.ownsRow w.heap.size 5 1 x (1 + zs.length) ((0 :: zs).map (Value.int .u8)) ∧ Below w.heap.size w w' := by
  obtain ⟨va, vc, rfl⟩ := hv.form
  obtain ⟨i0, hi, hz0, hz1, hz2⟩ := info_parts Tryd.info5b
  go_enter Tryd.func51, Tryd.ntmps51
  go_wp2_with (at_builtin; refine wpList_append_bytes rfl (.tmp 3) (.tmp 4) 23 rfl w.heap.size 5 i0 (.int .u8 0) Tryd.underlying23 hi hz0 hz1 hz2 rfl _ 1 [.int .u8 0] rfl (World.ownsRow_lit w #[.int .u8 0] 1 (Nat.le_refl _) (by unfold maxLen; omega) rfl) va _ vc zs rfl (hv.below (Nat.le_refl _) ((Below.refl _ _).alloc (Nat.le_refl _) _)) (by unfold maxLen; omega) (by omega) (by simp) ?_; intro x w2 ho hg)
  go_ret
  exact ⟨x, rfl, ho, ((Below.refl _ _).alloc (Nat.le_refl _) _).grown hg (by simp) (fun q h => Nat.le_of_eq (Option.some.inj h))⟩
set_option maxRecDepth 100000 in
theorem pair_any (xs ys : List Int) (v1 v2 : Value) (w : World) (h1 : BytesAt w v1 xs) (h2 : BytesAt w v2 ys) (hm : xs.length + ys.length + 1 ≤ 140737488355328) :
    Calls Tryd.prog 53 #[v1, v2] w fun e w' => ∃ x, e = .returned x ∧ w'.ownsRow w.heap.size 5 1 x (1 + xs.length + ys.length) ((1 :: (xs ++ ys)).map (Value.int .u8)) ∧ Below w.heap.size w w' := by
  obtain ⟨va, vc, rfl⟩ := h1.form
  obtain ⟨ua, uc, rfl⟩ := h2.form
  obtain ⟨i0, hi, hz0, hz1, hz2⟩ := info_parts Tryd.info5b
  go_enter Tryd.func53, Tryd.ntmps53
  go_wp2_with (first | (at_builtin; refine wpList_append_bytes rfl (.tmp 5) (.tmp 6) 23 rfl w.heap.size 5 i0 (.int .u8 0) Tryd.underlying23 hi hz0 hz1 hz2 rfl _ 1 [.int .u8 1] rfl (World.ownsRow_lit w #[.int .u8 1] 1 (Nat.le_refl _) (by unfold maxLen; omega) rfl) va _ vc xs rfl (h1.below (Nat.le_refl _) ((Below.refl _ _).alloc (Nat.le_refl _) _)) (by unfold maxLen; omega) (by omega) (by simp) ?_; intro x w2 ho hg; have hb2 : Below w.heap.size w w2 := ((Below.refl _ _).alloc (Nat.le_refl _) _).grown hg (by simp) (fun q h => Nat.le_of_eq (Option.some.inj h)); have hs2 := hb2.size; clear hg) | (at_builtin; refine wpList_append_bytes rfl (.tmp 7) (.tmp 8) 23 rfl w.heap.size 5 i0 (.int .u8 0) Tryd.underlying23 hi hz0 hz1 hz2 rfl _ _ _ rfl ho ua _ uc ys rfl (h2.below (Nat.le_refl _) hb2) (by unfold maxLen; omega) (by omega) hs2 ?_; intro y w3 ho3 hg3))
  go_ret
  refine ⟨y, rfl, ?_, hb2.grown hg3 hs2 (fun q h => own_block ho h)⟩
  have e : ((1 :: (xs ++ ys)).map (Value.int .u8)) = [Value.int .u8 1] ++ xs.map (Value.int .u8) ++ ys.map (Value.int .u8) := by simp
  rw [e]; exact ho3
set_option maxRecDepth 100000 in
theorem split_any (n : Nat) (w : World) (h1 : 1 ≤ n) (hm : n ≤ 1000000) :
    Calls Tryd.prog 52 #[.int .i64 n] w fun e w' => e = .returned (.int .i64 (splitN n)) ∧ w' = w := by
  go_enter Tryd.func52, Tryd.ntmps52
  go_wp2
  go_loop [3] (fun kv => ∃ k : Nat, 1 ≤ k ∧ k ≤ n ∧ Hid (splitFrom k n = splitN n) ∧ kv = .int .i64 k) (fun kv => n - (intOf kv).toNat)
  case atStart => exact ⟨1, by omega, h1, rfl, rfl⟩
  case round =>
    obtain ⟨k, hk1, hkn, HS, rfl⟩ := hrel
    by_cases hlt : 2 * k < n
    · have HS2 : Hid (splitFrom (2 * k) n = splitN n) := by rw [← HS.out]; exact (splitFrom_next (by omega) hlt).symm
      have i1 : 2 * (k : Int) < (n : Int) := by omega
      go_wp2
      go_round
      case rel => exact ⟨2 * k, by omega, by omega, HS2, by go_num⟩
      case measure => simp [intOf]; omega
    · have HE : splitN n = k := by rw [← HS.out]; exact splitFrom_end hlt
      have i1 : ¬ 2 * (k : Int) < (n : Int) := by omega
      go_wp2
      go_ret
      exact ⟨by first | rfl | (rw [HE]; rfl), rfl⟩
end Go.Proofs.YtkjlchfmplcobadDoor

/- The walk of yearref2.MTH: the root of leaves. -/
namespace Go.Proofs.YtkjlchfmplcobadDoor
open Go.RowKit

set_option maxRecDepth 100000 in
set_option maxHeartbeats 1000000 in
theorem mth_any (n : Nat) : ∀ (L : List (List Int)) (a : Option Addr) (c : Nat) (w : World), L.length = n → n ≤ 1000000 → PartsAt w (.slice a n c) L → n ≤ c → c ≤ maxLen → (∀ j, Bytes (L.getD j [])) → (∀ j, (L.getD j []).length ≤ 1000000) →
    Calls Tryd.prog 26 #[.slice a n c] w fun e w' => ∃ x, e = .returned x ∧ w'.ownsRow w.heap.size 5 1 x 32 ((mth L).map (Value.int .u8)) ∧ Below w.heap.size w w' := by
  induction n using Nat.strongRecOn with
  | ind n ih =>
    intro L a c w hn hm hv hc hcm hz hl
    unfold maxLen at hcm
    by_cases h0 : n = 0
    · subst h0
      rw [mth_nil hn]
      go_enter Tryd.func26, Tryd.ntmps26
      go_wp2_with fail
      refine (refSum_any [] (.slice none 0 0) _ (.inl ⟨rfl, none, 0, rfl, fun _ => rfl⟩) (by simp) (fun j => by simp)).mono ?_
      rintro e w1 ⟨x, rfl, ho, hb⟩
      go_wp2_with fail
      go_ret
      exact ⟨x, rfl, ho, hb⟩
    by_cases h1 : n = 1
    · subst h1
      rw [mth_one hn]
      obtain ⟨a0, c0, e0, hcell⟩ := hv.form
      rw [hn] at e0
      cases e0
      obtain ⟨b, off, rfl, hb0, hcl⟩ := hcell.resolve_left (by omega)
      obtain ⟨pa, pc, hc0, hB0⟩ := hcl 0 (by omega)
      rw [Nat.add_zero] at hc0
      have hl0 := hl 0
      have hz0 := hz 0
      clear hcell hcl hv ih hz hl
      have HL : Hid (leafL (L.getD 0 []) = shaL (0 :: L.getD 0 [])) := rfl
      rw [HL.out]
      clear HL
      generalize L.getD 0 [] = zs at *
      go_enter Tryd.func26, Tryd.ntmps26
      go_wp2_with fail
      refine (in_any zs _ _ hB0 (by omega)).mono ?_
      rintro e w1 ⟨x, rfl, ho, hb⟩
      go_wp2_with fail
      refine (refSum_any (0 :: zs) x _ (bytesAt_own ho) (by simp; omega) (bytes_cons (by decide) (by decide) hz0)).mono ?_
      rintro e w2 ⟨y, rfl, ho2, hb2⟩
      have hs := hb.size
      go_wp2_with fail
      go_ret
      exact ⟨y, rfl, ownsRow_base ho2 hs, hb.trans (hb2.mono hs)⟩
    · have hs := splitN_spec (n := n) (by omega)
      have HM : Hid (mth L = nodeL (mth (L.take (splitN n))) (mth (L.drop (splitN n)))) := by
        have h := mth_more (ls := L) (by omega)
        rw [hn] at h
        exact h
      obtain ⟨a0, c0, e0, hcell⟩ := hv.form
      rw [hn] at e0
      cases e0
      obtain ⟨b, off, rfl, hb0, -⟩ := hcell.resolve_left (by omega)
      clear hcell
      have hsp := split_any n w (by omega) hm
      obtain ⟨k, hk⟩ : ∃ k, splitN n = k := ⟨_, rfl⟩
      rw [hk] at hs HM hsp
      clear hk
      have hvt : PartsAt w (.slice (some ⟨b, off, none⟩) k c) (L.take k) := hv.take hn (by omega) (by omega) _
      have hvd : PartsAt w (.slice (some ⟨b, off + k, none⟩) (n - k) (c - k)) (L.drop k) := hv.drop hn (by omega) (by omega) _
      have hlt : (L.take k).length = k := by rw [List.length_take]; omega
      have hld : (L.drop k).length = n - k := by rw [List.length_drop]; omega
      have gt : ∀ j, (L.take k).getD j [] = L.getD j [] ∨ (L.take k).getD j [] = [] := fun j => by
        by_cases h : j < k
        · left; rw [List.getD_eq_getElem?_getD, List.getElem?_take, if_pos h, ← List.getD_eq_getElem?_getD]
        · right; rw [List.getD_eq_getElem?_getD, List.getElem?_take, if_neg h]; rfl
      have gd : ∀ j, (L.drop k).getD j [] = L.getD (k + j) [] := fun j => by
        rw [List.getD_eq_getElem?_getD, List.getElem?_drop, ← List.getD_eq_getElem?_getD]
      have hzt : ∀ j, Bytes ((L.take k).getD j []) := fun j => by
        rcases gt j with e | e <;> rw [e]
        · exact hz j
        · intro q; simp
      have hzd : ∀ j, Bytes ((L.drop k).getD j []) := fun j => by rw [gd j]; exact hz _
      have hlt2 : ∀ j, ((L.take k).getD j []).length ≤ 1000000 := fun j => by
        rcases gt j with e | e <;> rw [e]
        · exact hl j
        · simp
      have hld2 : ∀ j, ((L.drop k).getD j []).length ≤ 1000000 := fun j => by rw [gd j]; exact hl _
      have c1 : ∀ w1, Below w.heap.size w w1 → _ := fun w1 hb => ih k (by omega) (L.take k) (some ⟨b, off, none⟩) c w1 hlt (by omega) (hvt.below (Nat.le_refl _) hb) (by omega) (by unfold maxLen; omega) hzt hlt2
      have c2 : ∀ w1, Below w.heap.size w w1 → _ := fun w1 hb => ih (n - k) (by omega) (L.drop k) (some ⟨b, off + k, none⟩) (c - k) w1 hld (by omega) (hvd.below (Nat.le_refl _) hb) (by omega) (by unfold maxLen; omega) hzd hld2
      have HB1 : Hid (Bytes (mth (L.take k)) ∧ (mth (L.take k)).length = 32) := ⟨bytes_mth _, mth_length _⟩
      have HB2 : Hid (Bytes (mth (L.drop k)) ∧ (mth (L.drop k)).length = 32) := ⟨bytes_mth _, mth_length _⟩
      clear hz hl hzt hzd hlt2 hld2 gt gd hvt hvd hv ih hlt hld
      generalize mth (L.take k) = M1 at *
      generalize mth (L.drop k) = M2 at *
      have HMM : Hid (mth L = shaL (1 :: (M1 ++ M2))) := HM.out
      clear HM
      rw [HMM.out]
      have i1 : (k : Int) ≤ (n : Int) := by omega
      have i2 : ¬ (c = k) := by omega
      have i3 : (k : Int) ≤ (c : Int) := by omega
      go_enter Tryd.func26, Tryd.ntmps26
      go_wp2_with fail
      refine hsp.mono ?_
      rintro e w0 ⟨rfl, rfl⟩
      go_wp2_with fail
      have l1 := HB1.out.2
      have l2 := HB2.out.2
      have HBB : Hid (Bytes (1 :: (M1 ++ M2))) := bytes_cons (by decide) (by decide) (bytes_append HB1.out.1 HB2.out.1)
      go_region_held3 (fun _ => True) (exact True.intro) (first | (go_at_call_of 26 (Value.slice (some ⟨b, off, none⟩) k c); refine (c1 _ (Below.refl _ _).drew).mono ?_; rintro e w1 ⟨x1, rfl, ho1, hb1⟩; have hb1' := (Below.refl _ _).drew.trans hb1) | (go_at_call_of 26 (Value.slice (some ⟨b, off + k, none⟩) (n - k) (c - k)); refine (c2 _ hb1').mono ?_; rintro e w2 ⟨x2, rfl, ho2, hb2⟩) | (go_at_call 53; refine (pair_any M1 M2 _ _ _ ((bytesAt_own ho1).below (Nat.le_refl _) hb2) (bytesAt_own ho2) (by rw [l1, l2]; omega)).mono ?_; rintro e w3 ⟨x3, rfl, ho3, hb3⟩) | (go_at_call 50; refine (refSum_any (1 :: (M1 ++ M2)) _ _ (bytesAt_own ho3) (by simp [l1, l2]) HBB.out).mono ?_; rintro e w4 ⟨x4, rfl, ho4, hb4⟩))
      have hbA : Below w0.heap.size w0 w1 := hb1'
      have hs1 : w0.heap.size ≤ w1.heap.size := hb1'.size
      have hs2 := hb2.size
      have hs3 := hb3.size
      go_wp2_with fail
      go_ret
      exact ⟨x4, rfl, ownsRow_base ho4 (by omega), ((hbA.trans (hb2.mono hs1)).trans (hb3.mono (by omega))).trans (hb4.mono (by omega))⟩

end Go.Proofs.YtkjlchfmplcobadDoor

/- The walk of yearref2.Wrong. -/
namespace Go.Proofs.YtkjlchfmplcobadDoor
open Go.RowKit

set_option maxRecDepth 100000 in
set_option maxHeartbeats 1000000 in
theorem refWrong_any (L : List (List Int)) (v : Value) (w : World) (hv : PartsAt w v L) (hm : L.length ≤ maxLen) (hs : ∀ j, (L.getD j []).length ≤ maxLen) :
    Calls Tryd.prog 25 #[v] w fun e w' => e = .returned (.agg #[.int .i64 (wrongL L).1, .int .i64 (wrongL L).2]) ∧ Below w.heap.size w w' := by
  obtain ⟨a0, c0, rfl, hcell⟩ := hv.form
  unfold maxLen at hm
  by_cases h100 : 100 < L.length
  · have HW : wrongL L = (5, 0) := if_pos h100
    rw [HW]
    have i1 : (100 : Int) < (L.length : Int) := by omega
    go_enter Tryd.func25, Tryd.ntmps25
    go_wp2
    exact bodyPost_ret (v := .agg #[.int .i64 5, .int .i64 0]) (by simp [results, Tryd.results25, go_sem]) rfl ⟨rfl, (Below.refl _ _).alloc (Nat.le_refl _) _⟩
  · have HW : wrongL L = wrongFrom L 0 := if_neg h100
    rw [HW]
    clear HW
    have i1 : ¬ (100 : Int) < (L.length : Int) := by omega
    go_enter Tryd.func25, Tryd.ntmps25
    go_wp2
    go_loop [11] (fun i => ∃ k : Nat, k ≤ L.length ∧ i = .int .i64 k ∧ Hid (∀ j, j < k → (L.getD j []).length ≤ 200)) (fun i => L.length - (intOf i).toNat)
    case atStart => exact ⟨0, Nat.zero_le _, rfl, fun j hj => absurd hj (Nat.not_lt_zero _)⟩
    case round =>
      obtain ⟨k, hk, rfl, HG⟩ := hrel
      by_cases hlt : k < L.length
      · obtain ⟨b, off, rfl, hb, hc⟩ := hcell.resolve_left (by omega)
        obtain ⟨pa, pc, hcj, -⟩ := hc k hlt
        have hcj' : (w.alloc (.cells #[.int .i64 0, .int .i64 0] 31)).cell? ⟨b, off + k, none⟩ = some (.slice pa (L.getD k []).length pc) := by rw [old_cell _ _ _ _ hb]; exact hcj
        have hl := hs k
        unfold maxLen at hl
        have HB : Hid (200 < (L.getD k []).length → wrongFrom L 0 = (4, ((0 + k : Nat) : Int))) := wrong_at 0 hlt HG.out
        have HN : Hid ((L.getD k []).length ≤ 200 → ∀ j, j < k + 1 → (L.getD j []).length ≤ 200) := fun h j hj => by
          by_cases e : j = k
          · rw [e]; exact h
          · exact HG.out j (by omega)
        clear hcell hc hv HG hs hcj
        generalize (L.getD k []).length = m at *
        have i2 : (k : Int) < (L.length : Int) := by omega
        by_cases h200 : 200 < m
        · have HB' := HB.out h200
          rw [Nat.zero_add] at HB'
          have HBB : Hid (wrongFrom L 0 = (4, (k : Int))) := HB'
          clear HN HB HB'
          have i3 : (200 : Int) < (m : Int) := by omega
          go_wp2
          refine bodyPost_ret (v := .agg #[.int .i64 4, .int .i64 k]) (by simp [results, Tryd.results25, go_sem]) rfl ⟨by rw [HBB.out], (Below.refl _ _).alloc (Nat.le_refl _) _⟩
        · have HN' : Hid (∀ j, j < k + 1 → (L.getD j []).length ≤ 200) := HN.out (by omega)
          clear HN HB
          have i3 : ¬ (200 : Int) < (m : Int) := by omega
          go_wp2
          go_round
          case rel => exact ⟨k + 1, by omega, by go_num, HN'⟩
          case measure => simp [intOf]; omega
      · obtain rfl : k = L.length := by omega
        have HA : Hid (wrongFrom L 0 = (0, 0)) := wrong_none 0 HG.out
        clear HG
        go_wp2
        exact bodyPost_ret (v := .agg #[.int .i64 0, .int .i64 0]) (by simp [results, Tryd.results25, go_sem]) rfl ⟨by rw [HA.out], (Below.refl _ _).alloc (Nat.le_refl _) _⟩

end Go.Proofs.YtkjlchfmplcobadDoor
