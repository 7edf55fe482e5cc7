/- TreeRefSmall, TreeRefMth, TreeRefWrong, TreeRefUp, TreeRefShow, FleetRefCheckRg, FleetRefCheck, FleetShownSame, TreeRefPath, as one text. -/
import Derived.Test.YtkjlchfmplcobaeGreatDoorShaRefSum
import Derived.Test.YtkjlchfmplcobaeGreatDoorRunAG
/- The walks of yearref2's small functions: In, Pair, Split, Good, Ones, Wrong. -/
namespace Go.Proofs.YtkjlchfmplcobaeGreatDoor
open Go.RowKit

set_option maxRecDepth 100000 in
theorem in_any (zs : List Int) (v : Value) (w : World) (hv : BytesAt w v zs) (hm : zs.length + 1 ≤ 140737488355328) :
  Calls Tryz.prog 63 #[v] w fun e w' => ∃ x, e = .returned x ∧ w'.ownsRow w.heap.size 5 1 x (1 + zs.length) ((0 :: zs).map (Value.int .u8)) ∧ Below w.heap.size w w' := by
 obtain ⟨va, vc, rfl⟩ := hv.form
 obtain ⟨i0, hi, hz0, hz1, hz2⟩ := info_parts Tryz.info5b
 go_enter Tryz.func63, Tryz.ntmps63
 go_wp2_with (at_builtin; refine wpList_append_bytes rfl (.tmp 3) (.tmp 4) 37 rfl w.heap.size 5 i0 (.int .u8 0) Tryz.underlying37 hi hz0 hz1 hz2 rfl _ 1 [.int .u8 0] rfl (World.ownsRow_lit w #[.int .u8 0] 1 (Nat.le_refl _) (by unfold maxLen; omega) rfl) va _ vc zs rfl (hv.below (Nat.le_refl _) ((Below.refl _ _).alloc (Nat.le_refl _) _)) (by unfold maxLen; omega) (by omega) (by simp) ?_; intro x w2 ho hg)
 go_ret
 exact ⟨x, rfl, ho, ((Below.refl _ _).alloc (Nat.le_refl _) _).grown hg (by simp) (fun q h => Nat.le_of_eq (Option.some.inj h))⟩
set_option maxRecDepth 100000 in
theorem pair_any (xs ys : List Int) (v1 v2 : Value) (w : World) (h1 : BytesAt w v1 xs) (h2 : BytesAt w v2 ys) (hm : xs.length + ys.length + 1 ≤ 140737488355328) :
  Calls Tryz.prog 64 #[v1, v2] w fun e w' => ∃ x, e = .returned x ∧ w'.ownsRow w.heap.size 5 1 x (1 + xs.length + ys.length) ((1 :: (xs ++ ys)).map (Value.int .u8)) ∧ Below w.heap.size w w' := by
 obtain ⟨va, vc, rfl⟩ := h1.form
 obtain ⟨ua, uc, rfl⟩ := h2.form
 obtain ⟨i0, hi, hz0, hz1, hz2⟩ := info_parts Tryz.info5b
 go_enter Tryz.func64, Tryz.ntmps64
 go_wp2_with (first | (at_builtin; refine wpList_append_bytes rfl (.tmp 5) (.tmp 6) 37 rfl w.heap.size 5 i0 (.int .u8 0) Tryz.underlying37 hi hz0 hz1 hz2 rfl _ 1 [.int .u8 1] rfl (World.ownsRow_lit w #[.int .u8 1] 1 (Nat.le_refl _) (by unfold maxLen; omega) rfl) va _ vc xs rfl (h1.below (Nat.le_refl _) ((Below.refl _ _).alloc (Nat.le_refl _) _)) (by unfold maxLen; omega) (by omega) (by simp) ?_; intro x w2 ho hg; have hb2 : Below w.heap.size w w2 := ((Below.refl _ _).alloc (Nat.le_refl _) _).grown hg (by simp) (fun q h => Nat.le_of_eq (Option.some.inj h)); have hs2 := hb2.size; clear hg) | (at_builtin; refine wpList_append_bytes rfl (.tmp 7) (.tmp 8) 37 rfl w.heap.size 5 i0 (.int .u8 0) Tryz.underlying37 hi hz0 hz1 hz2 rfl _ _ _ rfl ho ua _ uc ys rfl (h2.below (Nat.le_refl _) hb2) (by unfold maxLen; omega) (by omega) hs2 ?_; intro y w3 ho3 hg3))
 go_ret
 refine ⟨y, rfl, ?_, hb2.grown hg3 hs2 (fun q h => own_block ho h)⟩
 have e : ((1 :: (xs ++ ys)).map (Value.int .u8)) = [Value.int .u8 1] ++ xs.map (Value.int .u8) ++ ys.map (Value.int .u8) := by simp
 rw [e]; exact ho3
set_option maxRecDepth 100000 in
theorem split_any (n : Nat) (w : World) (h1 : 1 ≤ n) (hm : n ≤ 1000000) :
  Calls Tryz.prog 61 #[.int .i64 n] w fun e w' => e = .returned (.int .i64 (splitN n)) ∧ w' = w := by
 go_enter Tryz.func61, Tryz.ntmps61
 go_wp2
 go_loop [3] (fun kv => ∃ k : Nat, 1 ≤ k ∧ k ≤ n ∧ Hid (splitFrom k n = splitN n) ∧ kv = .int .i64 k) (fun kv => n - (intOf kv).toNat)
 case atStart => exact ⟨1, by omega, h1, rfl, rfl⟩
 case round =>
  obtain ⟨k, hk1, hkn, HS, rfl⟩ := hrel
  by_cases hlt : 2 * k < n
  ·have HS2 : Hid (splitFrom (2 * k) n = splitN n) := by rw [← HS.out]; exact (splitFrom_next (by omega) hlt).symm
   have i1 : 2 * (k : Int) < (n : Int) := by omega
   go_wp2
   go_round
   case rel => exact ⟨2 * k, by omega, by omega, HS2, by go_num⟩
   case measure => simp [intOf]; omega
  ·have HE : splitN n = k := by rw [← HS.out]; exact splitFrom_end hlt
   have i1 : ¬ 2 * (k : Int) < (n : Int) := by omega
   go_wp2
   go_ret
   exact ⟨by first | rfl | (rw [HE]; rfl), rfl⟩
set_option maxRecDepth 100000 in
theorem good_any (L : List (List Int)) (v : Value) (w : World) (hv : PartsAt w v L) (hm : L.length ≤ maxLen) (hm2 : ∀ j, (L.getD j []).length ≤ maxLen) :
  Calls Tryz.prog 73 #[v] w fun e w' => e = .returned (.bool (goodL L)) ∧ w' = w := by
 obtain ⟨a0, c0, rfl, hcell⟩ := hv.form
 unfold maxLen at hm
 go_enter Tryz.func73, Tryz.ntmps73
 go_wp2
 go_loop [7] (fun i => ∃ k : Nat, k ≤ L.length ∧ i = .int .i64 k ∧ Hid (∀ j, j < k → (L.getD j []).length = 32)) (fun i => L.length - (intOf i).toNat)
 case atStart => exact ⟨0, Nat.zero_le _, rfl, fun j hj => absurd hj (Nat.not_lt_zero _)⟩
 case round =>
  obtain ⟨k, hk, rfl, HG⟩ := hrel
  by_cases hlt : k < L.length
  ·obtain ⟨b, off, rfl, hb, hc⟩ : ∃ b off, a0 = some ⟨b, off, none⟩ ∧ b < w.heap.size ∧ ∀ j, j < L.length → ∃ a c, w.cell? ⟨b, off + j, none⟩ = some (.slice a (L.getD j []).length c) ∧ BytesAt w (.slice a (L.getD j []).length c) (L.getD j []) := by
    rcases hcell with h | h
    ·omega
    ·exact h
   obtain ⟨pa, pc, hcj, -⟩ := hc k hlt
   have hl := hm2 k
   unfold maxLen at hl
   have HB : Hid ((L.getD k []).length ≠ 32 → goodL L = false) := goodL_bad hlt
   have HN : Hid ((L.getD k []).length = 32 → ∀ j, j < k + 1 → (L.getD j []).length = 32) := fun h j hj => by
    by_cases e : j = k
    ·rw [e]; exact h
    ·exact HG.out j (by omega)
   clear hcell hc hv HG hm2
   generalize (L.getD k []).length = m at *
   by_cases h32 : m = 32
   ·have HN' : Hid (∀ j, j < k + 1 → (L.getD j []).length = 32) := HN.out h32
    clear HN HB
    subst h32
    go_wp2
    go_round
    case rel => exact ⟨k + 1, by omega, by go_num, HN'⟩
    case measure => simp [intOf]; omega
   ·have HB' := HB.out h32
    have i1 : (m : Int) ≠ 32 := by omega
    clear HN HB
    go_wp2
    go_ret
    exact ⟨by first | rfl | (rw [HB']; rfl), rfl⟩
  ·obtain rfl : k = L.length := by omega
   have HA := goodL_all HG.out
   clear HG
   go_wp2
   go_ret
   exact ⟨by first | rfl | (rw [HA]; rfl), rfl⟩

end Go.Proofs.YtkjlchfmplcobaeGreatDoor

/- The walk of yearref2.MTH: the root of leaves. -/
namespace Go.Proofs.YtkjlchfmplcobaeGreatDoor
open Go.RowKit

set_option maxRecDepth 100000 in
set_option maxHeartbeats 1000000 in
theorem mth_any (n : Nat) : ∀ (L : List (List Int)) (a : Option Addr) (c : Nat) (w : World), L.length = n → n ≤ 1000000 → PartsAt w (.slice a n c) L → n ≤ c → c ≤ maxLen → (∀ j, Bytes (L.getD j [])) → (∀ j, (L.getD j []).length ≤ 1000000) →
  Calls Tryz.prog 35 #[.slice a n c] w fun e w' => ∃ x, e = .returned x ∧ w'.ownsRow w.heap.size 5 1 x 32 ((mth L).map (Value.int .u8)) ∧ Below w.heap.size w w' := by
 induction n using Nat.strongRecOn with
 | ind n ih =>
  intro L a c w hn hm hv hc hcm hz hl
  unfold maxLen at hcm
  by_cases h0 : n = 0
  ·subst h0
   rw [mth_nil hn]
   go_enter Tryz.func35, Tryz.ntmps35
   go_wp2_with fail
   refine (refSum_any [] (.slice none 0 0) _ (.inl ⟨rfl, none, 0, rfl, fun _ => rfl⟩) (by simp) (fun j => by simp)).mono ?_
   rintro e w1 ⟨x, rfl, ho, hb⟩
   go_wp2_with fail
   go_ret
   exact ⟨x, rfl, ho, hb⟩
  by_cases h1 : n = 1
  ·subst h1
   rw [mth_one hn]
   obtain ⟨a0, c0, e0, hcell⟩ := hv.form
   rw [hn] at e0
   cases e0
   obtain ⟨b, off, rfl, hb0, hcl⟩ := hcell.resolve_left (by omega)
   obtain ⟨pa, pc, hc0, hB0⟩ := hcl 0 (by omega)
   rw [Nat.add_zero] at hc0
   have hl0 := hl 0
   have hz0 := hz 0
   clear hcell hcl hv ih hz hl
   have HL : Hid (leafL (L.getD 0 []) = shaL (0 :: L.getD 0 [])) := rfl
   rw [HL.out]
   clear HL
   generalize L.getD 0 [] = zs at *
   go_enter Tryz.func35, Tryz.ntmps35
   go_wp2_with fail
   refine (in_any zs _ _ hB0 (by omega)).mono ?_
   rintro e w1 ⟨x, rfl, ho, hb⟩
   go_wp2_with fail
   refine (refSum_any (0 :: zs) x _ (bytesAt_own ho) (by simp; omega) (bytes_cons (by decide) (by decide) hz0)).mono ?_
   rintro e w2 ⟨y, rfl, ho2, hb2⟩
   have hs := hb.size
   go_wp2_with fail
   go_ret
   exact ⟨y, rfl, ownsRow_base ho2 hs, hb.trans (hb2.mono hs)⟩
  ·have hs := splitN_spec (n := n) (by omega)
   have HM : Hid (mth L = nodeL (mth (L.take (splitN n))) (mth (L.drop (splitN n)))) := by
    have h := mth_more (ls := L) (by omega)
    rw [hn] at h
    exact h
   obtain ⟨a0, c0, e0, hcell⟩ := hv.form
   rw [hn] at e0
   cases e0
   obtain ⟨b, off, rfl, hb0, -⟩ := hcell.resolve_left (by omega)
   clear hcell
   have hsp := split_any n w (by omega) hm
   obtain ⟨k, hk⟩ : ∃ k, splitN n = k := ⟨_, rfl⟩
   rw [hk] at hs HM hsp
   clear hk
   have hvt : PartsAt w (.slice (some ⟨b, off, none⟩) k c) (L.take k) := hv.take hn (by omega) (by omega) _
   have hvd : PartsAt w (.slice (some ⟨b, off + k, none⟩) (n - k) (c - k)) (L.drop k) := hv.drop hn (by omega) (by omega) _
   have hlt : (L.take k).length = k := by rw [List.length_take]; omega
   have hld : (L.drop k).length = n - k := by rw [List.length_drop]; omega
   have gt : ∀ j, (L.take k).getD j [] = L.getD j [] ∨ (L.take k).getD j [] = [] := fun j => by
    by_cases h : j < k
    ·left; rw [List.getD_eq_getElem?_getD, List.getElem?_take, if_pos h, ← List.getD_eq_getElem?_getD]
    ·right; rw [List.getD_eq_getElem?_getD, List.getElem?_take, if_neg h]; rfl
   have gd : ∀ j, (L.drop k).getD j [] = L.getD (k + j) [] := fun j => by
    rw [List.getD_eq_getElem?_getD, List.getElem?_drop, ← List.getD_eq_getElem?_getD]
   have hzt : ∀ j, Bytes ((L.take k).getD j []) := fun j => by
    rcases gt j with e | e <;> rw [e]
    ·exact hz j
    ·intro q; simp
   have hzd : ∀ j, Bytes ((L.drop k).getD j []) := fun j => by rw [gd j]; exact hz _
   have hlt2 : ∀ j, ((L.take k).getD j []).length ≤ 1000000 := fun j => by
    rcases gt j with e | e <;> rw [e]
    ·exact hl j
    ·simp
   have hld2 : ∀ j, ((L.drop k).getD j []).length ≤ 1000000 := fun j => by rw [gd j]; exact hl _
   have c1 : ∀ w1, Below w.heap.size w w1 → _ := fun w1 hb => ih k (by omega) (L.take k) (some ⟨b, off, none⟩) c w1 hlt (by omega) (hvt.below (Nat.le_refl _) hb) (by omega) (by unfold maxLen; omega) hzt hlt2
   have c2 : ∀ w1, Below w.heap.size w w1 → _ := fun w1 hb => ih (n - k) (by omega) (L.drop k) (some ⟨b, off + k, none⟩) (c - k) w1 hld (by omega) (hvd.below (Nat.le_refl _) hb) (by omega) (by unfold maxLen; omega) hzd hld2
   have HB1 : Hid (Bytes (mth (L.take k)) ∧ (mth (L.take k)).length = 32) := ⟨bytes_mth _, mth_length _⟩
   have HB2 : Hid (Bytes (mth (L.drop k)) ∧ (mth (L.drop k)).length = 32) := ⟨bytes_mth _, mth_length _⟩
   clear hz hl hzt hzd hlt2 hld2 gt gd hvt hvd hv ih hlt hld
   generalize mth (L.take k) = M1 at *
   generalize mth (L.drop k) = M2 at *
   have HMM : Hid (mth L = shaL (1 :: (M1 ++ M2))) := HM.out
   clear HM
   rw [HMM.out]
   have i1 : (k : Int) ≤ (n : Int) := by omega
   have i2 : ¬ (c = k) := by omega
   have i3 : (k : Int) ≤ (c : Int) := by omega
   go_enter Tryz.func35, Tryz.ntmps35
   go_wp2_with fail
   refine hsp.mono ?_
   rintro e w0 ⟨rfl, rfl⟩
   go_wp2_with fail
   have l1 := HB1.out.2
   have l2 := HB2.out.2
   have HBB : Hid (Bytes (1 :: (M1 ++ M2))) := bytes_cons (by decide) (by decide) (bytes_append HB1.out.1 HB2.out.1)
   go_region_held3 (fun _ => True) (exact True.intro) (first | (go_at_call_of 35 (Value.slice (some ⟨b, off, none⟩) k c); refine (c1 _ (Below.refl _ _).drew).mono ?_; rintro e w1 ⟨x1, rfl, ho1, hb1⟩; have hb1' := (Below.refl _ _).drew.trans hb1) | (go_at_call_of 35 (Value.slice (some ⟨b, off + k, none⟩) (n - k) (c - k)); refine (c2 _ hb1').mono ?_; rintro e w2 ⟨x2, rfl, ho2, hb2⟩) | (go_at_call 64; refine (pair_any M1 M2 _ _ _ ((bytesAt_own ho1).below (Nat.le_refl _) hb2) (bytesAt_own ho2) (by rw [l1, l2]; omega)).mono ?_; rintro e w3 ⟨x3, rfl, ho3, hb3⟩) | (go_at_call 62; refine (refSum_any (1 :: (M1 ++ M2)) _ _ (bytesAt_own ho3) (by simp [l1, l2]) HBB.out).mono ?_; rintro e w4 ⟨x4, rfl, ho4, hb4⟩))
   have hbA : Below w0.heap.size w0 w1 := hb1'
   have hs1 : w0.heap.size ≤ w1.heap.size := hb1'.size
   have hs2 := hb2.size
   have hs3 := hb3.size
   go_wp2_with fail
   go_ret
   exact ⟨x4, rfl, ownsRow_base ho4 (by omega), ((hbA.trans (hb2.mono hs1)).trans (hb3.mono (by omega))).trans (hb4.mono (by omega))⟩

end Go.Proofs.YtkjlchfmplcobaeGreatDoor

/- The walk of yearref2.Wrong. -/
namespace Go.Proofs.YtkjlchfmplcobaeGreatDoor
open Go.RowKit

set_option maxRecDepth 100000 in
set_option maxHeartbeats 1000000 in
theorem refWrong_any (L : List (List Int)) (v : Value) (w : World) (hv : PartsAt w v L) (hm : L.length ≤ maxLen) (hs : ∀ j, (L.getD j []).length ≤ maxLen) :
  Calls Tryz.prog 32 #[v] w fun e w' => e = .returned (.agg #[.int .i64 (wrongL L).1, .int .i64 (wrongL L).2]) ∧ Below w.heap.size w w' := by
 obtain ⟨a0, c0, rfl, hcell⟩ := hv.form
 unfold maxLen at hm
 by_cases h100 : 100 < L.length
 ·have HW : wrongL L = (5, 0) := if_pos h100
  rw [HW]
  have i1 : (100 : Int) < (L.length : Int) := by omega
  go_enter Tryz.func32, Tryz.ntmps32
  go_wp2
  exact bodyPost_ret (v := .agg #[.int .i64 5, .int .i64 0]) (by simp [results, Tryz.results32, go_sem]) rfl ⟨rfl, (Below.refl _ _).alloc (Nat.le_refl _) _⟩
 ·have HW : wrongL L = wrongFrom L 0 := if_neg h100
  rw [HW]
  clear HW
  have i1 : ¬ (100 : Int) < (L.length : Int) := by omega
  go_enter Tryz.func32, Tryz.ntmps32
  go_wp2
  go_loop [11] (fun i => ∃ k : Nat, k ≤ L.length ∧ i = .int .i64 k ∧ Hid (∀ j, j < k → (L.getD j []).length ≤ 200)) (fun i => L.length - (intOf i).toNat)
  case atStart => exact ⟨0, Nat.zero_le _, rfl, fun j hj => absurd hj (Nat.not_lt_zero _)⟩
  case round =>
   obtain ⟨k, hk, rfl, HG⟩ := hrel
   by_cases hlt : k < L.length
   ·obtain ⟨b, off, rfl, hb, hc⟩ := hcell.resolve_left (by omega)
    obtain ⟨pa, pc, hcj, -⟩ := hc k hlt
    have hcj' : (w.alloc (.cells #[.int .i64 0, .int .i64 0] 31)).cell? ⟨b, off + k, none⟩ = some (.slice pa (L.getD k []).length pc) := by rw [old_cell _ _ _ _ hb]; exact hcj
    have hl := hs k
    unfold maxLen at hl
    have HB : Hid (200 < (L.getD k []).length → wrongFrom L 0 = (4, ((0 + k : Nat) : Int))) := wrong_at 0 hlt HG.out
    have HN : Hid ((L.getD k []).length ≤ 200 → ∀ j, j < k + 1 → (L.getD j []).length ≤ 200) := fun h j hj => by
     by_cases e : j = k
     ·rw [e]; exact h
     ·exact HG.out j (by omega)
    clear hcell hc hv HG hs hcj
    generalize (L.getD k []).length = m at *
    have i2 : (k : Int) < (L.length : Int) := by omega
    by_cases h200 : 200 < m
    ·have HB' := HB.out h200
     rw [Nat.zero_add] at HB'
     have HBB : Hid (wrongFrom L 0 = (4, (k : Int))) := HB'
     clear HN HB HB'
     have i3 : (200 : Int) < (m : Int) := by omega
     go_wp2
     refine bodyPost_ret (v := .agg #[.int .i64 4, .int .i64 k]) (by simp [results, Tryz.results32, go_sem]) rfl ⟨by rw [HBB.out], (Below.refl _ _).alloc (Nat.le_refl _) _⟩
    ·have HN' : Hid (∀ j, j < k + 1 → (L.getD j []).length ≤ 200) := HN.out (by omega)
     clear HN HB
     have i3 : ¬ (200 : Int) < (m : Int) := by omega
     go_wp2
     go_round
     case rel => exact ⟨k + 1, by omega, by go_num, HN'⟩
     case measure => simp [intOf]; omega
   ·obtain rfl : k = L.length := by omega
    have HA : Hid (wrongFrom L 0 = (0, 0)) := wrong_none 0 HG.out
    clear HG
    go_wp2
    exact bodyPost_ret (v := .agg #[.int .i64 0, .int .i64 0]) (by simp [results, Tryz.results32, go_sem]) rfl ⟨by rw [HA.out], (Below.refl _ _).alloc (Nat.le_refl _) _⟩

end Go.Proofs.YtkjlchfmplcobaeGreatDoor

/- The walks of yearref2.Up and Stands. -/
namespace Go.Proofs.YtkjlchfmplcobaeGreatDoor
open Go.RowKit

set_option maxRecDepth 100000 in
set_option maxHeartbeats 2000000 in
theorem refUp_any (n : Nat) : ∀ (p : List (List Int)) (d : List Int) (i : Nat) (iv nv : Int) (dv : Value) (a : Option Addr) (m c : Nat) (w : World), iv = i → nv = n → i < n → n ≤ 1000000 → BytesAt w dv d → Bytes d → d.length ≤ 32 → p.length = m → PartsAt w (.slice a m c) p → m ≤ c → c ≤ maxLen →
  (∀ j, Bytes (p.getD j [])) → (∀ j, (p.getD j []).length ≤ 32) →
  Calls Tryz.prog 74 #[dv, .int .i64 iv, .int .i64 nv, .slice a m c] w fun e w' => ∃ x, e = .returned (.tuple #[x, .bool (upL d i n p).2]) ∧ BytesAt w' x (upL d i n p).1 ∧ Below w.heap.size w w' := by
 induction n using Nat.strongRecOn with
 | ind n ih =>
  intro p d i iv nv dv a m c w hiv hnv hi hn hd hdb hdl hm hv hc hcm hz hl
  have hcm' := hcm
  unfold maxLen at hcm
  subst hiv hnv
  by_cases h1 : n = 1
  ·subst h1
   rw [upL_one (Nat.le_refl _), hm]
   go_enter Tryz.func74, Tryz.ntmps74
   go_wp2_with fail
   go_ret2
   refine ⟨dv, ?_, hd, Below.refl _ _⟩
   by_cases h0 : m = 0
   ·subst h0; rfl
   ·have : (decide (m = 0)) = false := by simpa using h0
    rw [this]
    simp
    omega
  ·by_cases h0 : m = 0
   ·subst h0
    rw [upL_none (by omega) hm]
    go_enter Tryz.func74, Tryz.ntmps74
    go_wp2_with fail
    go_ret2
    exact ⟨_, rfl, bytesAt_nil _, Below.refl _ _⟩
   ·have hs := splitN_spec (n := n) (by omega)
    obtain ⟨b, off, ta, tc, rfl, hb0, hcl, hB⟩ := hv.last hm h0
    have hvt := hv.take hm (Nat.sub_le m 1) (by omega) c
    have hzt := take_bytes hz (m - 1)
    have hlt := take_short hl (m - 1)
    have htl : (p.take (m - 1)).length = m - 1 := by rw [List.length_take]; omega
    have hsp := split_any n w (by omega) hn
    have HL : Hid (i < splitN n → upL d i n p = (nodeL (upL d i (splitN n) (p.take (m - 1))).1 (p.getD (m - 1) []), (upL d i (splitN n) (p.take (m - 1))).2)) := fun h => by
     have := upL_left (d := d) (i := i) (n := n) (p := p) (by omega) (by omega) h
     rwa [dropLast_take, hm] at this
    have HR : Hid (¬ i < splitN n → upL d i n p = (nodeL (p.getD (m - 1) []) (upL d (i - splitN n) (n - splitN n) (p.take (m - 1))).1, (upL d (i - splitN n) (n - splitN n) (p.take (m - 1))).2)) := fun h => by
     have := upL_right (d := d) (i := i) (n := n) (p := p) (by omega) (by omega) h
     rwa [dropLast_take, hm] at this
    have hzl := hz (m - 1)
    have hll := hl (m - 1)
    clear hz hl hv hm
    generalize p.getD (m - 1) [] = top at *
    generalize p.take (m - 1) = q at *
    generalize upL d i n p = R at *
    obtain ⟨k, hk⟩ : ∃ k, splitN n = k := ⟨_, rfl⟩
    rw [hk] at hs HL HR hsp
    clear hk
    have i1 : (1 : Int) ≤ (m : Int) := by omega
    have i2 : (m : Int) - 1 ≤ (c : Int) := by omega
    have i3 : (m : Int) - 1 < (m : Int) := by omega
    have e1 : IntKind.i64.wrap ((m : Int) - 1) = (m : Int) - 1 := by rw [IntKind.wrap_i64]; omega
    have t1 : ((m : Int) - 1).toNat = m - 1 := by omega
    by_cases hlt1 : i < k
    ·have HU := HL.out hlt1
     have hfit := up_fit k d i q hdb hdl
     rw [HU]
     clear HL HR HU
     have j1 : (i : Int) < (k : Int) := by omega
     have cu : ∀ w1, Below w.heap.size w w1 → _ := fun w1 hb => ih k (by omega) q d i i k dv (some ⟨b, off, none⟩) (m - 1) c w1 rfl rfl hlt1 (by omega) (hd.below (Nat.le_refl _) hb) hdb hdl htl (hvt.below (Nat.le_refl _) hb) (by omega) hcm' hzt hlt
     clear ih hzt hlt
     generalize upL d i k q = R1 at *
     obtain ⟨hf1, hf2⟩ := hfit
     go_enter Tryz.func74, Tryz.ntmps74
     go_wp2_with fail
     refine hsp.mono ?_
     rintro e w0 ⟨rfl, rfl⟩
     go_wp2_with fail
     go_quiet (fail)
     go_wp2_with fail
     refine (cu _ (below_drewN (Below.refl _ _) _)).mono ?_
     rintro e w1 ⟨x1, rfl, hx1, hb1⟩
     have hbA : Below w0.heap.size w0 w1 := Below.trans (below_drewN (Below.refl _ _) _) hb1
     have hs1 := hbA.size
     have hT1 := hB.below (Nat.le_refl _) hbA
     go_wp2_with fail
     refine (pair_any R1.1 top _ _ _ hx1 hT1 (by omega)).mono ?_
     rintro e w2 ⟨x2, rfl, ho2, hb2⟩
     have hs2 := hb2.size
     go_wp2_with fail
     refine (refSum_any (1 :: (R1.1 ++ top)) _ _ (bytesAt_own ho2) (by simp; omega) (bytes_cons (by decide) (by decide) (bytes_append hf1 hzl))).mono ?_
     rintro e w3 ⟨x3, rfl, ho3, hb3⟩
     go_wp2_with fail
     go_ret2
     exact ⟨x3, rfl, bytesAt_own ho3, (hbA.trans (hb2.mono hs1)).trans (hb3.mono (by omega))⟩
    ·have HU := HR.out hlt1
     have hfit := up_fit (n - k) d (i - k) q hdb hdl
     rw [HU]
     clear HL HR HU
     have j1 : ¬ (i : Int) < (k : Int) := by omega
     have cu : ∀ w1, Below w.heap.size w w1 → _ := fun w1 hb => ih (n - k) (by omega) q d (i - k) ((i : Int) - k) ((n : Int) - k) dv (some ⟨b, off, none⟩) (m - 1) c w1 (by omega) (by omega) (by omega) (by omega) (hd.below (Nat.le_refl _) hb) hdb hdl htl (hvt.below (Nat.le_refl _) hb) (by omega) hcm' hzt hlt
     clear ih hzt hlt
     generalize upL d (i - k) (n - k) q = R1 at *
     obtain ⟨hf1, hf2⟩ := hfit
     go_enter Tryz.func74, Tryz.ntmps74
     go_wp2_with fail
     refine hsp.mono ?_
     rintro e w0 ⟨rfl, rfl⟩
     go_wp2_with fail
     go_quiet (fail)
     go_wp2_with fail
     refine (cu _ (below_drewN (Below.refl _ _) _)).mono ?_
     rintro e w1 ⟨x1, rfl, hx1, hb1⟩
     have hbA : Below w0.heap.size w0 w1 := Below.trans (below_drewN (Below.refl _ _) _) hb1
     have hs1 := hbA.size
     have hT1 := hB.below (Nat.le_refl _) hbA
     go_wp2_with fail
     refine (pair_any top R1.1 _ _ _ hT1 hx1 (by omega)).mono ?_
     rintro e w2 ⟨x2, rfl, ho2, hb2⟩
     have hs2 := hb2.size
     go_wp2_with fail
     refine (refSum_any (1 :: (top ++ R1.1)) _ _ (bytesAt_own ho2) (by simp; omega) (bytes_cons (by decide) (by decide) (bytes_append hzl hf1))).mono ?_
     rintro e w3 ⟨x3, rfl, ho3, hb3⟩
     go_wp2_with fail
     go_ret2
     exact ⟨x3, rfl, bytesAt_own ho3, (hbA.trans (hb2.mono hs1)).trans (hb3.mono (by omega))⟩

end Go.Proofs.YtkjlchfmplcobaeGreatDoor

/- The walks of yearref2.Stands and Grew. -/
namespace Go.Proofs.YtkjlchfmplcobaeGreatDoor
open Go.RowKit

set_option maxRecDepth 100000 in
set_option maxHeartbeats 2000000 in
theorem refStands_any (size : Int) (root b : List Int) (i : Int) (p : List (List Int)) (rv bv : Value) (a : Option Addr) (m c : Nat) (w : World)
  (hr : BytesAt w rv root) (hb : BytesAt w bv b) (hbb : Bytes b) (hbl : b.length ≤ maxLen) (hm : p.length = m) (hv : PartsAt w (.slice a m c) p) (hc : m ≤ c) (hcm : c ≤ maxLen) (hz : ∀ j, Bytes (p.getD j [])) (hl : ∀ j, (p.getD j []).length ≤ maxLen) :
  Calls Tryz.prog 42 #[.agg #[.int .i64 size, rv], bv, .int .i64 i, .slice a m c] w fun e w' => e = .returned (.bool (standsL size root b i p)) ∧ Below w.heap.size w w' := by
 have hcm' := hcm
 unfold maxLen at hcm hbl
 have HIF : Hid (size < 1 ∨ 100 < size ∨ i < 0 ∨ size ≤ i ∨ 200 < b.length ∨ goodL p = false → standsL size root b i p = false) := fun h => by unfold standsL; rw [if_pos h]
 have HELSE : Hid (¬ (size < 1 ∨ 100 < size ∨ i < 0 ∨ size ≤ i ∨ 200 < b.length ∨ goodL p = false) → standsL size root b i p = ((upL (leafL b) i.toNat size.toNat p).2 && decide ((upL (leafL b) i.toNat size.toNat p).1 = root))) := fun h => by unfold standsL; rw [if_neg h]
 generalize standsL size root b i p = S at *
 obtain ⟨ba, bc, rfl⟩ := hb.form
 obtain ⟨ra, rc, rfl⟩ := hr.form
 by_cases h1 : size < 1
 ·rw [HIF.out (.inl h1)]
  go_enter Tryz.func42, Tryz.ntmps42
  go_wp2_with fail
  go_ret
  exact ⟨rfl, (Below.refl _ _).alloc (Nat.le_refl _) _⟩
 by_cases h2 : 100 < size
 ·rw [HIF.out (.inr (.inl h2))]
  go_enter Tryz.func42, Tryz.ntmps42
  go_wp2_with fail
  go_ret
  exact ⟨rfl, (Below.refl _ _).alloc (Nat.le_refl _) _⟩
 by_cases h3 : i < 0
 ·rw [HIF.out (.inr (.inr (.inl h3)))]
  go_enter Tryz.func42, Tryz.ntmps42
  go_wp2_with fail
  go_ret
  exact ⟨rfl, (Below.refl _ _).alloc (Nat.le_refl _) _⟩
 by_cases h4 : size ≤ i
 ·rw [HIF.out (.inr (.inr (.inr (.inl h4))))]
  go_enter Tryz.func42, Tryz.ntmps42
  go_wp2_with fail
  go_ret
  exact ⟨rfl, (Below.refl _ _).alloc (Nat.le_refl _) _⟩
 by_cases h5 : 200 < b.length
 ·rw [HIF.out (.inr (.inr (.inr (.inr (.inl h5)))))]
  go_enter Tryz.func42, Tryz.ntmps42
  go_wp2_with fail
  go_ret
  exact ⟨rfl, (Below.refl _ _).alloc (Nat.le_refl _) _⟩
 have hv1 : PartsAt (w.alloc (.cells #[.int .i64 size, .slice ra root.length rc] 39)) (.slice a m c) p := hv.below (Nat.le_refl _) ((Below.refl _ _).alloc (Nat.le_refl _) _)
 have hgood := good_any p _ _ hv1 (by unfold maxLen; omega) hl
 by_cases h6 : goodL p = false
 ·rw [HIF.out (.inr (.inr (.inr (.inr (.inr h6)))))]
  rw [h6] at hgood
  go_enter Tryz.func42, Tryz.ntmps42
  go_wp2_with fail
  refine hgood.mono ?_
  rintro e w1 ⟨rfl, rfl⟩
  go_wp2_with fail
  go_ret
  exact ⟨rfl, (Below.refl _ _).alloc (Nat.le_refl _) _⟩
 have h6' : goodL p = true := by simpa using h6
 rw [HELSE.out (fun h => by rcases h with h | h | h | h | h | h <;> first | omega | exact h6 h)]
 rw [h6'] at hgood
 clear HIF HELSE h6
 have i5 : ¬ (200 : Int) < (b.length : Int) := by omega
 have hlb : (leafL b).length = 32 := leafL_length b
 have hlz : Bytes (leafL b) := leafL_bytes b
 generalize hLB : leafL b = LB at *
 have HLB : Hid (shaL (0 :: b) = LB) := hLB
 clear hLB
 obtain ⟨sz, rfl⟩ := Int.eq_ofNat_of_zero_le (by omega : 0 ≤ size)
 obtain ⟨ix, rfl⟩ := Int.eq_ofNat_of_zero_le (by omega : 0 ≤ i)
 rw [Int.toNat_natCast, Int.toNat_natCast]
 have cu : ∀ (w2 : World) (x : Value), PartsAt w2 (.slice a m c) p → BytesAt w2 x LB → _ := fun w2 x hB hx => refUp_any sz p LB ix ix sz x a m c w2 rfl rfl (by omega) (by omega) hx hlz (by omega) hm hB hc hcm' hz (goodL_le h6')
 have hfl := (up_fit sz LB ix p hlz (by omega)).2
 generalize upL LB ix sz p = R at *
 clear hz hl
 have hW : Below w.heap.size w (w.alloc (.cells #[.int .i64 sz, .slice ra root.length rc] 39)) := (Below.refl _ _).alloc (Nat.le_refl _) _
 have hz0 : (w.alloc (.cells #[.int .i64 sz, .slice ra root.length rc] 39)).cell? ⟨w.heap.size, 0, none⟩ = some (.int .i64 sz) := new_cell _ _ _ 0 (by simp)
 have hz1 : (w.alloc (.cells #[.int .i64 sz, .slice ra root.length rc] 39)).cell? ⟨w.heap.size, 1, none⟩ = some (.slice ra root.length rc) := new_cell _ _ _ 1 (by simp)
 have hsz : w.heap.size < (w.alloc (.cells #[.int .i64 sz, .slice ra root.length rc] 39)).heap.size := by simp
 go_enter Tryz.func42, Tryz.ntmps42
 go_wp2_with fail
 refine hgood.mono ?_
 rintro e w1 ⟨rfl, rfl⟩
 generalize w.alloc (.cells #[.int .i64 sz, .slice ra root.length rc] 39) = W at *
 have hr1 := hr.below (Nat.le_refl _) hW
 have hb1 := hb.below (Nat.le_refl _) hW
 clear hgood hv hr hb
 go_wp2_with fail
 go_region_held3 (fun w' => w'.cell? ⟨w.heap.size, 0, none⟩ = some (.int .i64 (sz : Int))) (first | exact hz0 | exact y0 | exact y1 | exact y2) (first | (go_at_call 63; refine (in_any b _ _ (hb1.below (Nat.le_refl _) (Below.refl _ _).drew) (by omega)).mono ?_; rintro e w1 ⟨x1, rfl, ho1, hbI⟩; have hb2 := (Below.refl _ _).drew.trans hbI; have y0 := (hb2.cell (p := ⟨w.heap.size, 0, none⟩) hsz).trans hz0) | (go_at_call 62; refine (refSum_any (0 :: b) _ _ (bytesAt_own ho1) (by simp; omega) (bytes_cons (by decide) (by decide) hbb)).mono ?_; rintro e w2 ⟨x2, rfl, ho2, hbS⟩; have hb3 := hb2.trans (hbS.mono hb2.size); have y1 := (hb3.cell (p := ⟨w.heap.size, 0, none⟩) hsz).trans hz0; rw [HLB.out] at ho2) | (go_at_call 74; refine (cu _ _ (hv1.below (Nat.le_refl _) hb3) (bytesAt_own ho2)).mono ?_; rintro e w3 ⟨x3, rfl, hx3, hbU⟩; have hb4 := hb3.trans (hbU.mono hb3.size); have y2 := (hb4.cell (p := ⟨w.heap.size, 0, none⟩) hsz).trans hz0))
 have hbE : Below W.heap.size W w3 := hb4
 have z1 : w3.cell? ⟨w.heap.size, 1, none⟩ = some (.slice ra root.length rc) := (hbE.cell (p := ⟨w.heap.size, 1, none⟩) hsz).trans hz1
 have hr3 := hr1.below (Nat.le_refl _) hbE
 have hbW : Below w.heap.size w w3 := hW.trans (hbE.mono (by omega))
 clear y0 y1 y2 hb4 hbU hb3 hbS hbI hb2 ho1 ho2 hr1 hb1 hv1 cu hz0 hz1 hbE
 cases hR : R.2 with
 | false =>
  go_wp2_with fail
  go_ret
  exact ⟨by rw [hR]; rfl, hbW⟩
 | true =>
  go_wp2_with fail
  refine (same_any _ _ _ _ _ hx3 hr3 (by unfold maxLen; omega)).mono ?_
  rintro e w4 ⟨rfl, q, rfl⟩
  go_wp2_with fail
  go_ret
  exact ⟨by rw [hR, Bool.true_and]; rfl, below_drewN hbW q⟩
end Go.Proofs.YtkjlchfmplcobaeGreatDoor

/- The walks of yearref5.SameHead at whatever heads, and of yearref5.Check: its one region by what holds in every order. -/
namespace Go.Proofs.YtkjlchfmplcobaeGreatDoor
open Go.RowKit

set_option maxRecDepth 100000 in
theorem sameHead_any (s1 s2 : Int) (r1 r2 : List Int) (v1 v2 : Value) (w : World) (h1 : Some' w v1 r1) (h2 : Some' w v2 r2) :
  Calls Tryz.prog 22 #[.agg #[.int .i64 s1, v1], .agg #[.int .i64 s2, v2]] w fun e w' => e = .returned (.bool (decide (s1 = s2 ∧ r1 = r2))) ∧ Below w.heap.size w w' := by
 have b0 : Below w.heap.size w ((w.alloc (.cells #[.int .i64 s1, v1] 39)).alloc (.cells #[.int .i64 s2, v2] 39)) := ((Below.refl _ _).alloc (Nat.le_refl _) _).alloc (by simp) _
 obtain ⟨x0, x1, -, -⟩ := box_two (box_one w #[.int .i64 s1, v1] 39 (.cells #[.int .i64 s2, v2] 39))
 obtain ⟨y0, y1, -, -⟩ := box_two (box_last w (.cells #[.int .i64 s1, v1] 39) #[.int .i64 s2, v2] 39)
 have sE := same_any r1 r2 v1 v2 _ (h1.below b0).at' (h2.below b0).at' h1.short
 by_cases hs : s1 = s2
 ·have HE : Hid (decide (s1 = s2 ∧ r1 = r2) = decide (r1 = r2)) := by show _ = _; by_cases hr : r1 = r2 <;> simp [hs, hr]
  generalize decide (s1 = s2 ∧ r1 = r2) = D at *
  generalize decide (r1 = r2) = D2 at *
  subst hs
  have hs' : (s1 == s1) = true := by simp
  go_enter Tryz.func22, Tryz.ntmps22
  go_wp2_with fail
  refine sE.mono ?_
  rintro e w3 ⟨rfl, q, rfl⟩
  go_wp2_with fail
  go_ret
  exact ⟨by rw [HE.out]; rfl, below_drewN' b0 _⟩
 ·have HE : Hid (decide (s1 = s2 ∧ r1 = r2) = false) := decide_eq_false (fun h => hs h.1)
  generalize decide (s1 = s2 ∧ r1 = r2) = D at *
  have hs' : (s1 == s2) = false := by simpa using hs
  clear hs
  go_enter Tryz.func22, Tryz.ntmps22
  go_wp2_with fail
  go_ret
  exact ⟨by rw [HE.out]; rfl, b0⟩
/-- A code's rest, from a region on. -/
def ckRest (n : Nat) : Code → Option Code
 | .region m ops d => if m = n then some (.region m ops d) else none
 | .seq a b => match ckRest n a with
  | some x => some (.seq x b)
  | none => ckRest n b
 | .block _ c => ckRest n c
 | .scope c => ckRest n c
 | _ => none
def firstOf2 : Code → Code
 | .seq a _ => a
 | c => c
noncomputable def ckFrom (n : Nat) : Code := ((Tryz.f15.body.bind (ckRest n)).getD .skip)
def ckDst (i : Nat) : Option Nat := if i < 41 then some (5 + i) else if i = 41 then some 4 else none
def ckGd (i : Nat) : Option (Nat × Bool) := if 5 ≤ i ∧ i ≤ 10 then some (4, true) else if 13 ≤ i ∧ i ≤ 16 then some (12, true) else if 19 ≤ i ∧ i ≤ 28 then some (18, true) else if 31 ≤ i ∧ i ≤ 39 then some (30, true) else none
def ckDep : Nat → List Nat
 | 1 => [0]
 | 2 => [1]
 | 3 => [2]
 | 4 => [3]
 | 5 => [4]
 | 6 => [4, 5]
 | 7 => [4, 6]
 | 8 => [4]
 | 9 => [4, 8]
 | 10 => [4, 7, 9]
 | 11 => [4, 10]
 | 12 => [11]
 | 13 => [12]
 | 14 => [12, 13]
 | 15 => [12]
 | 16 => [12, 14, 15]
 | 17 => [12, 16]
 | 18 => [17]
 | 19 => [18]
 | 20 => [18, 19]
 | 21 => [18, 20]
 | 22 => [18]
 | 23 => [18, 22]
 | 24 => [18]
 | 25 => [18, 24]
 | 26 => [18]
 | 27 => [18, 26]
 | 28 => [18, 21, 23, 25, 27]
 | 29 => [18, 28]
 | 30 => [29]
 | 31 => [30]
 | 32 => [30]
 | 33 => [30, 32]
 | 34 => [30, 33]
 | 35 => [30]
 | 36 => [30, 35]
 | 37 => [30]
 | 38 => [30, 37]
 | 39 => [30, 31, 34, 36, 38]
 | 40 => [30, 39]
 | 41 => [40]
 | _ => []
def ckPv (X : Nat) (er rs rf rt rz sh hz hs pl rw : Int) (rv hrv hv env pav bpv : Value) (B1 B2 B3 B4 B5 : Bool) : Nat → Option Value
 | 0 => some (.pointer (some ⟨X, 4, none⟩))
 | 1 => some (.agg #[.int .i64 rs, .int .i64 rf, .int .i64 rt, .int .i64 rz, rv])
 | 2 => some (.int .i64 er)
 | 3 => some (.bool B1)
 | 4 => some (.bool B1)
 | 5 => some (bif (B1) then .pointer (some ⟨X, 4, none⟩) else undef)
 | 6 => some (bif (B1) then .pointer (some ⟨X, 4, none⟩) else undef)
 | 7 => some (bif (B1) then .int .i64 rs else undef)
 | 8 => some (bif (B1) then .pointer (some ⟨X, 2, none⟩) else undef)
 | 9 => some (bif (B1) then .int .i64 sh else undef)
 | 10 => some (bif (B1) then .bool B2 else undef)
 | 11 => some (.bool (B1 && B2))
 | 12 => some (.bool (B1 && B2))
 | 13 => some (bif (B1 && B2) then .pointer (some ⟨X, 11, none⟩) else undef)
 | 14 => some (bif (B1 && B2) then .agg #[.int .i64 hz, hrv] else undef)
 | 15 => some (bif (B1 && B2) then .agg #[.int .i64 hs, hv] else undef)
 | 16 => some (bif (B1 && B2) then .bool B3 else undef)
 | 17 => some (.bool (B1 && B2 && B3))
 | 18 => some (.bool (B1 && B2 && B3))
 | 19 => some (bif (B1 && B2 && B3) then .pointer (some ⟨X, 4, none⟩) else undef)
 | 20 => some (bif (B1 && B2 && B3) then .pointer (some ⟨X, 7, none⟩) else undef)
 | 21 => some (bif (B1 && B2 && B3) then .agg #[.int .i64 rz, rv] else undef)
 | 22 => some (bif (B1 && B2 && B3) then .pointer (some ⟨X, 0, none⟩) else undef)
 | 23 => some (bif (B1 && B2 && B3) then env else undef)
 | 24 => some (bif (B1 && B2 && B3) then .pointer (some ⟨X, 1, none⟩) else undef)
 | 25 => some (bif (B1 && B2 && B3) then .int .i64 pl else undef)
 | 26 => some (bif (B1 && B2 && B3) then .pointer (some ⟨X, 3, none⟩) else undef)
 | 27 => some (bif (B1 && B2 && B3) then pav else undef)
 | 28 => some (bif (B1 && B2 && B3) then .bool B4 else undef)
 | 29 => some (.bool (B1 && B2 && B3 && B4))
 | 30 => some (.bool (B1 && B2 && B3 && B4))
 | 31 => some (bif (B1 && B2 && B3 && B4) then .agg #[.int .i64 hs, hv] else undef)
 | 32 => some (bif (B1 && B2 && B3 && B4) then .pointer (some ⟨X, 4, none⟩) else undef)
 | 33 => some (bif (B1 && B2 && B3 && B4) then .agg #[.int .i64 rs, .int .i64 rf, .int .i64 rt, .int .i64 rz, rv] else undef)
 | 35 => some (bif (B1 && B2 && B3 && B4) then .pointer (some ⟨X, 9, none⟩) else undef)
 | 36 => some (bif (B1 && B2 && B3 && B4) then .int .i64 rw else undef)
 | 37 => some (bif (B1 && B2 && B3 && B4) then .pointer (some ⟨X, 10, none⟩) else undef)
 | 38 => some (bif (B1 && B2 && B3 && B4) then bpv else undef)
 | 39 => some (bif (B1 && B2 && B3 && B4) then .bool B5 else undef)
 | 40 => some (.bool (B1 && B2 && B3 && B4 && B5))
 | 41 => some (.bool (B1 && B2 && B3 && B4 && B5))
 | _ => none
theorem ck_inj : ∀ i j k, i < 42 → j < 42 → ckDst i = some k → ckDst j = some k → i = j := fun i j k hi hj h1 h2 => by
 unfold ckDst at h1 h2
 by_cases a : i < 41
 ·rw [if_pos a] at h1
  by_cases b : j < 41
  ·rw [if_pos b] at h2
   have := Option.some.inj (h1.trans h2.symm)
   omega
  ·rw [if_neg b, if_pos (by omega)] at h2
   have := Option.some.inj (h1.trans h2.symm)
   omega
 ·rw [if_neg a, if_pos (by omega)] at h1
  by_cases b : j < 41
  ·rw [if_pos b] at h2
   have := Option.some.inj (h1.trans h2.symm)
   omega
  ·omega
set_option maxRecDepth 1000000 in
set_option maxHeartbeats 8000000 in
theorem ck_region {Q : Exit → Act → World → Prop} {X Y : Nat} {er rs rf rt rz sh hz hs pl rw : Int} {pn bn rl hl hrl en : Nat} {ra ha ta ea pa ba : Option Addr} {rc hc' tc ec pc bc : Nat} {rv hrv hv env pav bpv : Value} {B1 B2 B3 B4 B5 : Bool} {ROW : List Int} {w0 : World} {a0 : Act}
  (hrv1 : rv = .slice ra rl rc) (hrv2 : hrv = .slice ha hrl hc') (hrv3 : hv = .slice ta hl tc) (hrv4 : env = .slice ea en ec) (hrv5 : pav = .slice pa pn pc) (hrv6 : bpv = .slice ba bn bc)
  (x0 : w0.heap[X]? = some (.cells #[env, .int .i64 pl, .int .i64 sh, pav, .int .i64 rs, .int .i64 rf, .int .i64 rt, .int .i64 rz, rv, .int .i64 rw, bpv, .int .i64 hz, hrv] 47 (0, 0))) (y0 : w0.heap[Y]? = some (.cells #[.int .i64 hs, hv] 39 (0, 0)))
  (hB1 : (er == 0) = B1) (hB2 : (rs == sh) = B2)
  (A1 : ∀ w', Below w0.heap.size w0 w' → Calls Tryz.prog 41 #[.agg #[.int .i64 rs, .int .i64 rf, .int .i64 rt, .int .i64 rz, rv]] w' fun e w'' => e = .returned (.int .i64 er) ∧ Below w'.heap.size w' w'')
  (A2 : ∀ w', Below w0.heap.size w0 w' → Calls Tryz.prog 22 #[.agg #[.int .i64 hz, hrv], .agg #[.int .i64 hs, hv]] w' fun e w'' => e = .returned (.bool B3) ∧ Below w'.heap.size w' w'')
  (A3 : ∀ w', Below w0.heap.size w0 w' → Calls Tryz.prog 42 #[.agg #[.int .i64 rz, rv], env, .int .i64 pl, pav] w' fun e w'' => e = .returned (.bool B4) ∧ Below w'.heap.size w' w'')
  (A4 : B1 = true → ∀ w', Below w0.heap.size w0 w' → Calls Tryz.prog 43 #[.agg #[.int .i64 rs, .int .i64 rf, .int .i64 rt, .int .i64 rz, rv]] w' fun e w'' => ∃ ya yc, e = .returned (.slice ya 40 yc) ∧ BytesAt w'' (.slice ya 40 yc) ROW ∧ Below w'.heap.size w' w'')
  (A5 : B1 = true → ∀ w' ya yc, Below w0.heap.size w0 w' → BytesAt w' (.slice ya 40 yc) ROW → Calls Tryz.prog 42 #[.agg #[.int .i64 hs, hv], .slice ya 40 yc, .int .i64 rw, bpv] w' fun e w'' => e = .returned (.bool B5) ∧ Below w'.heap.size w' w'')
  (t2 : a0.tmps.getD 2 undef = .pointer (some ⟨X, 0, none⟩)) (t3 : a0.tmps.getD 3 undef = .pointer (some ⟨Y, 0, none⟩)) (hsz : a0.tmps.size = 46)
  (fin : ∀ σ wx, σ 41 = .bool (B1 && B2 && B3 && B4 && B5) → Below w0.heap.size w0 wx → Q .normal ⟨setAll a0.tmps (putsOf 42 ckDst σ), a0.defers⟩ wx) :
  Code.wp Tryz.prog (firstOf2 (ckFrom 1)) Q a0 w0 := by
 subst hrv1
 subst hrv2
 subst hrv3
 subst hrv4
 subst hrv5
 subst hrv6
 have HC6 : ∀ w6, Hid (Below w0.heap.size w0 w6 → w6.cell? ⟨X, 0, none⟩ = some (.slice ea en ec) ∧ w6.cell? ⟨X, 1, none⟩ = some (.int .i64 pl) ∧ w6.cell? ⟨X, 2, none⟩ = some (.int .i64 sh) ∧ w6.cell? ⟨X, 3, none⟩ = some (.slice pa pn pc) ∧ w6.cell? ⟨X, 4, none⟩ = some (.int .i64 rs) ∧ w6.cell? ⟨X, 5, none⟩ = some (.int .i64 rf) ∧ w6.cell? ⟨X, 6, none⟩ = some (.int .i64 rt) ∧ w6.cell? ⟨X, 7, none⟩ = some (.int .i64 rz) ∧ w6.cell? ⟨X, 8, none⟩ = some (.slice ra rl rc) ∧ w6.cell? ⟨X, 9, none⟩ = some (.int .i64 rw) ∧ w6.cell? ⟨X, 10, none⟩ = some (.slice ba bn bc) ∧ w6.cell? ⟨X, 11, none⟩ = some (.int .i64 hz) ∧ w6.cell? ⟨X, 12, none⟩ = some (.slice ha hrl hc') ∧ w6.cell? ⟨Y, 0, none⟩ = some (.int .i64 hs) ∧ w6.cell? ⟨Y, 1, none⟩ = some (.slice ta hl tc)) := fun w6 h => by
  obtain ⟨v0, v1, v2, v3, v4, v5, v6, v7, v8, v9, v10, v11, v12⟩ := box_13 (box_kept x0 h)
  obtain ⟨u0, u1, -, -⟩ := box_two (box_kept y0 h)
  exact ⟨v0, v1, v2, v3, v4, v5, v6, v7, v8, v9, v10, v11, v12, u0, u1⟩
 clear x0 y0
 conv => arg 2; whnf
 refine region_by (n := 42) (dst := ckDst) (gd := ckGd) (dep := ckDep) (by kernel_rfl) (RgOps.of (by kernel_rfl) (by kernel_rfl) (by kernel_rfl) (by kernel_rfl)) (by decide) (fun i j h => ?_) (fun ℓ σ wx => PV (ckPv X er rs rf rt rz sh hz hs pl rw (.slice ra rl rc) (.slice ha hrl hc') (.slice ta hl tc) (.slice ea en ec) (.slice pa pn pc) (.slice ba bn bc) B1 B2 B3 B4 B5) ℓ σ ∧ Below w0.heap.size w0 wx ∧ (ℓ 34 = true → (B1 && B2 && B3 && B4) = true → ∃ ya yc, σ 34 = .slice ya 40 yc ∧ BytesAt wx (.slice ya 40 yc) ROW)) ⟨fun j v _ q => (by cases q), (Below.refl _ _).drew, fun q => (by cases q)⟩ ck_inj (fun ℓ σ w i g b hM hi hg hl => ?_) (fun ℓ σ w i g b b' hM hi hg hl hs hbb hli hdp => ?_) ?_ (fun σ wx hM => fin σ wx (hM.1 41 _ rfl rfl) hM.2.1)
 ·unfold ckDst at h
  split at h
  ·cases h; rw [hsz]; omega
  ·split at h
   ·cases h; rw [hsz]; omega
   ·cases h
 ·have hg4 : g = 4 ∨ g = 12 ∨ g = 18 ∨ g = 30 := by
   unfold ckGd at hg
   split at hg
   ·cases hg; exact .inl rfl
   ·split at hg
    ·cases hg; exact .inr (.inl rfl)
    ·split at hg
     ·cases hg; exact .inr (.inr (.inl rfl))
     ·split at hg
      ·cases hg; exact .inr (.inr (.inr rfl))
      ·cases hg
  rcases hg4 with rfl | rfl | rfl | rfl
  ·exact ⟨_, hM.1 4 _ rfl hl⟩
  ·exact ⟨_, hM.1 12 _ rfl hl⟩
  ·exact ⟨_, hM.1 18 _ rfl hl⟩
  ·exact ⟨_, hM.1 30 _ rfl hl⟩
 ·obtain ⟨hP, hF, hR⟩ := hM
  have hfalse : ∀ c : Bool, σ g = .bool c → b = true → c = false := fun c h1 h2 => by rw [hs] at h1; cases h1; rw [h2] at hbb; simpa using hbb
  rcases (show i = 5 ∨ i = 6 ∨ i = 7 ∨ i = 8 ∨ i = 9 ∨ i = 10 ∨ i = 13 ∨ i = 14 ∨ i = 15 ∨ i = 16 ∨ i = 19 ∨ i = 20 ∨ i = 21 ∨ i = 22 ∨ i = 23 ∨ i = 24 ∨ i = 25 ∨ i = 26 ∨ i = 27 ∨ i = 28 ∨ i = 31 ∨ i = 32 ∨ i = 33 ∨ i = 34 ∨ i = 35 ∨ i = 36 ∨ i = 37 ∨ i = 38 ∨ i = 39 by
   unfold ckGd at hg
   split at hg
   ·omega
   ·split at hg
    ·omega
    ·split at hg
     ·omega
     ·split at hg
      ·omega
      ·cases hg) with rfl | rfl | rfl | rfl | rfl | rfl | rfl | rfl | rfl | rfl | rfl | rfl | rfl | rfl | rfl | rfl | rfl | rfl | rfl | rfl | rfl | rfl | rfl | rfl | rfl | rfl | rfl | rfl | rfl
  ·cases hg
   have hc : (B1) = false := hfalse _ (hP 4 _ rfl hl) rfl
   exact ⟨hP.step (fun u hu => by rw [← Option.some.inj hu, hc]; rfl), hF, fun q => hR (show ℓ 34 = true from q)⟩
  ·cases hg
   have hc : (B1) = false := hfalse _ (hP 4 _ rfl hl) rfl
   exact ⟨hP.step (fun u hu => by rw [← Option.some.inj hu, hc]; rfl), hF, fun q => hR (show ℓ 34 = true from q)⟩
  ·cases hg
   have hc : (B1) = false := hfalse _ (hP 4 _ rfl hl) rfl
   exact ⟨hP.step (fun u hu => by rw [← Option.some.inj hu, hc]; rfl), hF, fun q => hR (show ℓ 34 = true from q)⟩
  ·cases hg
   have hc : (B1) = false := hfalse _ (hP 4 _ rfl hl) rfl
   exact ⟨hP.step (fun u hu => by rw [← Option.some.inj hu, hc]; rfl), hF, fun q => hR (show ℓ 34 = true from q)⟩
  ·cases hg
   have hc : (B1) = false := hfalse _ (hP 4 _ rfl hl) rfl
   exact ⟨hP.step (fun u hu => by rw [← Option.some.inj hu, hc]; rfl), hF, fun q => hR (show ℓ 34 = true from q)⟩
  ·cases hg
   have hc : (B1) = false := hfalse _ (hP 4 _ rfl hl) rfl
   exact ⟨hP.step (fun u hu => by rw [← Option.some.inj hu, hc]; rfl), hF, fun q => hR (show ℓ 34 = true from q)⟩
  ·cases hg
   have hc : (B1 && B2) = false := hfalse _ (hP 12 _ rfl hl) rfl
   exact ⟨hP.step (fun u hu => by rw [← Option.some.inj hu, hc]; rfl), hF, fun q => hR (show ℓ 34 = true from q)⟩
  ·cases hg
   have hc : (B1 && B2) = false := hfalse _ (hP 12 _ rfl hl) rfl
   exact ⟨hP.step (fun u hu => by rw [← Option.some.inj hu, hc]; rfl), hF, fun q => hR (show ℓ 34 = true from q)⟩
  ·cases hg
   have hc : (B1 && B2) = false := hfalse _ (hP 12 _ rfl hl) rfl
   exact ⟨hP.step (fun u hu => by rw [← Option.some.inj hu, hc]; rfl), hF, fun q => hR (show ℓ 34 = true from q)⟩
  ·cases hg
   have hc : (B1 && B2) = false := hfalse _ (hP 12 _ rfl hl) rfl
   exact ⟨hP.step (fun u hu => by rw [← Option.some.inj hu, hc]; rfl), hF, fun q => hR (show ℓ 34 = true from q)⟩
  ·cases hg
   have hc : (B1 && B2 && B3) = false := hfalse _ (hP 18 _ rfl hl) rfl
   exact ⟨hP.step (fun u hu => by rw [← Option.some.inj hu, hc]; rfl), hF, fun q => hR (show ℓ 34 = true from q)⟩
  ·cases hg
   have hc : (B1 && B2 && B3) = false := hfalse _ (hP 18 _ rfl hl) rfl
   exact ⟨hP.step (fun u hu => by rw [← Option.some.inj hu, hc]; rfl), hF, fun q => hR (show ℓ 34 = true from q)⟩
  ·cases hg
   have hc : (B1 && B2 && B3) = false := hfalse _ (hP 18 _ rfl hl) rfl
   exact ⟨hP.step (fun u hu => by rw [← Option.some.inj hu, hc]; rfl), hF, fun q => hR (show ℓ 34 = true from q)⟩
  ·cases hg
   have hc : (B1 && B2 && B3) = false := hfalse _ (hP 18 _ rfl hl) rfl
   exact ⟨hP.step (fun u hu => by rw [← Option.some.inj hu, hc]; rfl), hF, fun q => hR (show ℓ 34 = true from q)⟩
  ·cases hg
   have hc : (B1 && B2 && B3) = false := hfalse _ (hP 18 _ rfl hl) rfl
   exact ⟨hP.step (fun u hu => by rw [← Option.some.inj hu, hc]; rfl), hF, fun q => hR (show ℓ 34 = true from q)⟩
  ·cases hg
   have hc : (B1 && B2 && B3) = false := hfalse _ (hP 18 _ rfl hl) rfl
   exact ⟨hP.step (fun u hu => by rw [← Option.some.inj hu, hc]; rfl), hF, fun q => hR (show ℓ 34 = true from q)⟩
  ·cases hg
   have hc : (B1 && B2 && B3) = false := hfalse _ (hP 18 _ rfl hl) rfl
   exact ⟨hP.step (fun u hu => by rw [← Option.some.inj hu, hc]; rfl), hF, fun q => hR (show ℓ 34 = true from q)⟩
  ·cases hg
   have hc : (B1 && B2 && B3) = false := hfalse _ (hP 18 _ rfl hl) rfl
   exact ⟨hP.step (fun u hu => by rw [← Option.some.inj hu, hc]; rfl), hF, fun q => hR (show ℓ 34 = true from q)⟩
  ·cases hg
   have hc : (B1 && B2 && B3) = false := hfalse _ (hP 18 _ rfl hl) rfl
   exact ⟨hP.step (fun u hu => by rw [← Option.some.inj hu, hc]; rfl), hF, fun q => hR (show ℓ 34 = true from q)⟩
  ·cases hg
   have hc : (B1 && B2 && B3) = false := hfalse _ (hP 18 _ rfl hl) rfl
   exact ⟨hP.step (fun u hu => by rw [← Option.some.inj hu, hc]; rfl), hF, fun q => hR (show ℓ 34 = true from q)⟩
  ·cases hg
   have hc : (B1 && B2 && B3 && B4) = false := hfalse _ (hP 30 _ rfl hl) rfl
   exact ⟨hP.step (fun u hu => by rw [← Option.some.inj hu, hc]; rfl), hF, fun q => hR (show ℓ 34 = true from q)⟩
  ·cases hg
   have hc : (B1 && B2 && B3 && B4) = false := hfalse _ (hP 30 _ rfl hl) rfl
   exact ⟨hP.step (fun u hu => by rw [← Option.some.inj hu, hc]; rfl), hF, fun q => hR (show ℓ 34 = true from q)⟩
  ·cases hg
   have hc : (B1 && B2 && B3 && B4) = false := hfalse _ (hP 30 _ rfl hl) rfl
   exact ⟨hP.step (fun u hu => by rw [← Option.some.inj hu, hc]; rfl), hF, fun q => hR (show ℓ 34 = true from q)⟩
  ·cases hg
   have hc : (B1 && B2 && B3 && B4) = false := hfalse _ (hP 30 _ rfl hl) rfl
   exact ⟨hP.step (fun u hu => by cases hu), hF, fun _ q2 => by rw [hc] at q2; cases q2⟩
  ·cases hg
   have hc : (B1 && B2 && B3 && B4) = false := hfalse _ (hP 30 _ rfl hl) rfl
   exact ⟨hP.step (fun u hu => by rw [← Option.some.inj hu, hc]; rfl), hF, fun q => hR (show ℓ 34 = true from q)⟩
  ·cases hg
   have hc : (B1 && B2 && B3 && B4) = false := hfalse _ (hP 30 _ rfl hl) rfl
   exact ⟨hP.step (fun u hu => by rw [← Option.some.inj hu, hc]; rfl), hF, fun q => hR (show ℓ 34 = true from q)⟩
  ·cases hg
   have hc : (B1 && B2 && B3 && B4) = false := hfalse _ (hP 30 _ rfl hl) rfl
   exact ⟨hP.step (fun u hu => by rw [← Option.some.inj hu, hc]; rfl), hF, fun q => hR (show ℓ 34 = true from q)⟩
  ·cases hg
   have hc : (B1 && B2 && B3 && B4) = false := hfalse _ (hP 30 _ rfl hl) rfl
   exact ⟨hP.step (fun u hu => by rw [← Option.some.inj hu, hc]; rfl), hF, fun q => hR (show ℓ 34 = true from q)⟩
  ·cases hg
   have hc : (B1 && B2 && B3 && B4) = false := hfalse _ (hP 30 _ rfl hl) rfl
   exact ⟨hP.step (fun u hu => by rw [← Option.some.inj hu, hc]; rfl), hF, fun q => hR (show ℓ 34 = true from q)⟩
 ·intro ℓ σ w1 a i o ho hi hE hM hli hdep hgd K hK
  obtain ⟨hP, hF, hR⟩ := hM
  have ev : ∀ j u, j < 42 → ℓ j = true → ckPv X er rs rf rt rz sh hz hs pl rw (.slice ra rl rc) (.slice ha hrl hc') (.slice ta hl tc) (.slice ea en ec) (.slice pa pn pc) (.slice ba bn bc) B1 B2 B3 B4 B5 j = some u → ∀ kk, ckDst j = some kk → a.eval (.tmp kk) = u := fun j u hj hl hp kk hk => (hE.val j hj hl kk hk).trans (hP j u hp hl)
  have eo : ∀ kk, kk < 4 → ∀ j, j < 42 → ckDst j ≠ some kk := fun kk hk j _ e => by
   unfold ckDst at e
   split at e
   ·simp only [Option.some.injEq] at e; omega
   ·split at e
    ·simp only [Option.some.injEq] at e; omega
    ·cases e
  rcases (show i = 0 ∨ i = 1 ∨ i = 2 ∨ i = 3 ∨ i = 4 ∨ i = 5 ∨ i = 6 ∨ i = 7 ∨ i = 8 ∨ i = 9 ∨ i = 10 ∨ i = 11 ∨ i = 12 ∨ i = 13 ∨ i = 14 ∨ i = 15 ∨ i = 16 ∨ i = 17 ∨ i = 18 ∨ i = 19 ∨ i = 20 ∨ i = 21 ∨ i = 22 ∨ i = 23 ∨ i = 24 ∨ i = 25 ∨ i = 26 ∨ i = 27 ∨ i = 28 ∨ i = 29 ∨ i = 30 ∨ i = 31 ∨ i = 32 ∨ i = 33 ∨ i = 34 ∨ i = 35 ∨ i = 36 ∨ i = 37 ∨ i = 38 ∨ i = 39 ∨ i = 40 ∨ i = 41 by omega) with rfl | rfl | rfl | rfl | rfl | rfl | rfl | rfl | rfl | rfl | rfl | rfl | rfl | rfl | rfl | rfl | rfl | rfl | rfl | rfl | rfl | rfl | rfl | rfl | rfl | rfl | rfl | rfl | rfl | rfl | rfl | rfl | rfl | rfl | rfl | rfl | rfl | rfl | rfl | rfl | rfl | rfl
  ·obtain rfl := Option.some.inj ho
   have q0 : a.eval (.tmp 2) = .pointer (some ⟨X, 0, none⟩) := (hE.out 2 (eo 2 (by omega))).trans t2
   exact wp_of_run (v := .pointer (some ⟨X, 4, none⟩)) (w' := w1) (by generalize a.eval = evv at q0 ⊢; simp only [execOp]; go_simp) (hK _ _ ⟨hP.step (fun u hu => (Option.some.inj hu).symm), hF, fun q => hR (show ℓ 34 = true from q)⟩)
  ·obtain rfl := Option.some.inj ho
   have e0 : a.eval (.tmp 5) = .pointer (some ⟨X, 4, none⟩) := ev 0 _ (by omega) (hdep 0 (by simp [ckDep])) rfl 5 rfl
   obtain ⟨l0, l1, l2, l3, l4, l5, l6, l7, l8, l9, l10, l11, l12, l13, l14⟩ := (HC6 w1).out hF
   exact wp_of_run (v := .agg #[.int .i64 rs, .int .i64 rf, .int .i64 rt, .int .i64 rz, (.slice ra rl rc)]) (w' := w1) (by generalize a.eval = evv at e0 ⊢; simp only [execOp]; go_simp) (hK _ _ ⟨hP.step (fun u hu => (Option.some.inj hu).symm), hF, fun q => hR (show ℓ 34 = true from q)⟩)
  ·obtain rfl := Option.some.inj ho
   have e0 : a.eval (.tmp 6) = .agg #[.int .i64 rs, .int .i64 rf, .int .i64 rt, .int .i64 rz, (.slice ra rl rc)] := ev 1 _ (by omega) (hdep 1 (by simp [ckDep])) rfl 6 rfl
   have qf : a.eval (.func 41) = .func (.func 41) #[] #[] := rfl
   refine wp_of_enter (w' := w1) (by generalize a.eval = evv at e0 qf ⊢; simp only [execOp]; go_simp) (A1 w1 hF) ?_
   rintro e w' ⟨rfl, hb⟩
   exact ⟨_, rfl, hK _ _ ⟨hP.step (fun u hu => (Option.some.inj hu).symm), hF.trans (hb.mono hF.size), fun q q2 => by obtain ⟨ya, yc, h1, h2⟩ := hR (show ℓ 34 = true from q) q2; exact ⟨ya, yc, h1, h2.below (Nat.le_refl _) hb⟩⟩⟩
  ·obtain rfl := Option.some.inj ho
   have e0 : a.eval (.tmp 7) = .int .i64 er := ev 2 _ (by omega) (hdep 2 (by simp [ckDep])) rfl 7 rfl
   have qk : a.eval (.const (.int .i64 0)) = .int .i64 0 := rfl
   exact wp_of_run (v := .bool B1) (w' := w1) (by generalize a.eval = evv at e0 qk ⊢; simp only [execOp]; go_simp) (hK _ _ ⟨hP.step (fun u hu => (Option.some.inj hu).symm), hF, fun q => hR (show ℓ 34 = true from q)⟩)
  ·obtain rfl := Option.some.inj ho
   have e0 : a.eval (.tmp 8) = .bool B1 := ev 3 _ (by omega) (hdep 3 (by simp [ckDep])) rfl 8 rfl
   exact wp_of_run (v := .bool B1) (w' := w1) (by generalize a.eval = evv at e0 ⊢; simp only [execOp]; go_simp) (hK _ _ ⟨hP.step (fun u hu => (Option.some.inj hu).symm), hF, fun q => hR (show ℓ 34 = true from q)⟩)
  ·obtain rfl := Option.some.inj ho
   have hc : (B1) = true := by have h1 := hgd 4 true rfl; have h2 := hP 4 _ rfl (hdep 4 (by simp [ckDep])); rw [h2] at h1; simpa using h1
   have q0 : a.eval (.tmp 2) = .pointer (some ⟨X, 0, none⟩) := (hE.out 2 (eo 2 (by omega))).trans t2
   exact wp_of_run (v := .pointer (some ⟨X, 4, none⟩)) (w' := w1) (by generalize a.eval = evv at q0 ⊢; simp only [execOp]; go_simp) (hK _ _ ⟨hP.step (fun u hu => by rw [← Option.some.inj hu, hc]; rfl), hF, fun q => hR (show ℓ 34 = true from q)⟩)
  ·obtain rfl := Option.some.inj ho
   have hc : (B1) = true := by have h1 := hgd 4 true rfl; have h2 := hP 4 _ rfl (hdep 4 (by simp [ckDep])); rw [h2] at h1; simpa using h1
   have e0 : a.eval (.tmp 10) = .pointer (some ⟨X, 4, none⟩) := by have h3 := ev 5 _ (by omega) (hdep 5 (by simp [ckDep])) rfl 10 rfl; rw [hc] at h3; exact h3
   exact wp_of_run (v := .pointer (some ⟨X, 4, none⟩)) (w' := w1) (by generalize a.eval = evv at e0 ⊢; simp only [execOp]; go_simp) (hK _ _ ⟨hP.step (fun u hu => by rw [← Option.some.inj hu, hc]; rfl), hF, fun q => hR (show ℓ 34 = true from q)⟩)
  ·obtain rfl := Option.some.inj ho
   have hc : (B1) = true := by have h1 := hgd 4 true rfl; have h2 := hP 4 _ rfl (hdep 4 (by simp [ckDep])); rw [h2] at h1; simpa using h1
   have e0 : a.eval (.tmp 11) = .pointer (some ⟨X, 4, none⟩) := by have h3 := ev 6 _ (by omega) (hdep 6 (by simp [ckDep])) rfl 11 rfl; rw [hc] at h3; exact h3
   obtain ⟨l0, l1, l2, l3, l4, l5, l6, l7, l8, l9, l10, l11, l12, l13, l14⟩ := (HC6 w1).out hF
   exact wp_of_run (v := .int .i64 rs) (w' := w1) (by generalize a.eval = evv at e0 ⊢; simp only [execOp]; go_simp) (hK _ _ ⟨hP.step (fun u hu => by rw [← Option.some.inj hu, hc]; rfl), hF, fun q => hR (show ℓ 34 = true from q)⟩)
  ·obtain rfl := Option.some.inj ho
   have hc : (B1) = true := by have h1 := hgd 4 true rfl; have h2 := hP 4 _ rfl (hdep 4 (by simp [ckDep])); rw [h2] at h1; simpa using h1
   have q0 : a.eval (.tmp 2) = .pointer (some ⟨X, 0, none⟩) := (hE.out 2 (eo 2 (by omega))).trans t2
   exact wp_of_run (v := .pointer (some ⟨X, 2, none⟩)) (w' := w1) (by generalize a.eval = evv at q0 ⊢; simp only [execOp]; go_simp) (hK _ _ ⟨hP.step (fun u hu => by rw [← Option.some.inj hu, hc]; rfl), hF, fun q => hR (show ℓ 34 = true from q)⟩)
  ·obtain rfl := Option.some.inj ho
   have hc : (B1) = true := by have h1 := hgd 4 true rfl; have h2 := hP 4 _ rfl (hdep 4 (by simp [ckDep])); rw [h2] at h1; simpa using h1
   have e0 : a.eval (.tmp 13) = .pointer (some ⟨X, 2, none⟩) := by have h3 := ev 8 _ (by omega) (hdep 8 (by simp [ckDep])) rfl 13 rfl; rw [hc] at h3; exact h3
   obtain ⟨l0, l1, l2, l3, l4, l5, l6, l7, l8, l9, l10, l11, l12, l13, l14⟩ := (HC6 w1).out hF
   exact wp_of_run (v := .int .i64 sh) (w' := w1) (by generalize a.eval = evv at e0 ⊢; simp only [execOp]; go_simp) (hK _ _ ⟨hP.step (fun u hu => by rw [← Option.some.inj hu, hc]; rfl), hF, fun q => hR (show ℓ 34 = true from q)⟩)
  ·obtain rfl := Option.some.inj ho
   have hc : (B1) = true := by have h1 := hgd 4 true rfl; have h2 := hP 4 _ rfl (hdep 4 (by simp [ckDep])); rw [h2] at h1; simpa using h1
   have e0 : a.eval (.tmp 12) = .int .i64 rs := by have h3 := ev 7 _ (by omega) (hdep 7 (by simp [ckDep])) rfl 12 rfl; rw [hc] at h3; exact h3
   have e1 : a.eval (.tmp 14) = .int .i64 sh := by have h3 := ev 9 _ (by omega) (hdep 9 (by simp [ckDep])) rfl 14 rfl; rw [hc] at h3; exact h3
   exact wp_of_run (v := .bool B2) (w' := w1) (by generalize a.eval = evv at e0 e1 ⊢; simp only [execOp]; go_simp) (hK _ _ ⟨hP.step (fun u hu => by rw [← Option.some.inj hu, hc]; rfl), hF, fun q => hR (show ℓ 34 = true from q)⟩)
  ·obtain rfl := Option.some.inj ho
   have e0 : a.eval (.tmp 9) = .bool B1 := ev 4 _ (by omega) (hdep 4 (by simp [ckDep])) rfl 9 rfl
   have e1 : a.eval (.tmp 15) = (bif (B1) then .bool B2 else undef) := ev 10 _ (by omega) (hdep 10 (by simp [ckDep])) rfl 15 rfl
   refine wp_of_run (v := .bool (B1 && B2)) (w' := w1) ?_ (hK _ _ ⟨hP.step (fun u hu => (Option.some.inj hu).symm), hF, fun q => hR (show ℓ 34 = true from q)⟩)
   have qk : a.eval (.const (.bool false)) = .bool false := rfl
   generalize a.eval = evv at e0 e1 qk ⊢
   revert e0 e1
   generalize B1 = c
   intro e0 e1
   cases c
   ·simp only [execOp]
    simp only [cond_false, Bool.false_and] at e1 ⊢
    go_simp
   ·simp only [execOp]
    simp only [cond_true, Bool.true_and] at e1 ⊢
    go_simp
  ·obtain rfl := Option.some.inj ho
   have e0 : a.eval (.tmp 16) = .bool (B1 && B2) := ev 11 _ (by omega) (hdep 11 (by simp [ckDep])) rfl 16 rfl
   exact wp_of_run (v := .bool (B1 && B2)) (w' := w1) (by generalize a.eval = evv at e0 ⊢; simp only [execOp]; go_simp) (hK _ _ ⟨hP.step (fun u hu => (Option.some.inj hu).symm), hF, fun q => hR (show ℓ 34 = true from q)⟩)
  ·obtain rfl := Option.some.inj ho
   have hc : (B1 && B2) = true := by have h1 := hgd 12 true rfl; have h2 := hP 12 _ rfl (hdep 12 (by simp [ckDep])); rw [h2] at h1; simpa using h1
   have q0 : a.eval (.tmp 2) = .pointer (some ⟨X, 0, none⟩) := (hE.out 2 (eo 2 (by omega))).trans t2
   exact wp_of_run (v := .pointer (some ⟨X, 11, none⟩)) (w' := w1) (by generalize a.eval = evv at q0 ⊢; simp only [execOp]; go_simp) (hK _ _ ⟨hP.step (fun u hu => by rw [← Option.some.inj hu, hc]; rfl), hF, fun q => hR (show ℓ 34 = true from q)⟩)
  ·obtain rfl := Option.some.inj ho
   have hc : (B1 && B2) = true := by have h1 := hgd 12 true rfl; have h2 := hP 12 _ rfl (hdep 12 (by simp [ckDep])); rw [h2] at h1; simpa using h1
   have e0 : a.eval (.tmp 18) = .pointer (some ⟨X, 11, none⟩) := by have h3 := ev 13 _ (by omega) (hdep 13 (by simp [ckDep])) rfl 18 rfl; rw [hc] at h3; exact h3
   obtain ⟨l0, l1, l2, l3, l4, l5, l6, l7, l8, l9, l10, l11, l12, l13, l14⟩ := (HC6 w1).out hF
   exact wp_of_run (v := .agg #[.int .i64 hz, (.slice ha hrl hc')]) (w' := w1) (by generalize a.eval = evv at e0 ⊢; simp only [execOp]; go_simp) (hK _ _ ⟨hP.step (fun u hu => by rw [← Option.some.inj hu, hc]; rfl), hF, fun q => hR (show ℓ 34 = true from q)⟩)
  ·obtain rfl := Option.some.inj ho
   have hc : (B1 && B2) = true := by have h1 := hgd 12 true rfl; have h2 := hP 12 _ rfl (hdep 12 (by simp [ckDep])); rw [h2] at h1; simpa using h1
   have q0 : a.eval (.tmp 3) = .pointer (some ⟨Y, 0, none⟩) := (hE.out 3 (eo 3 (by omega))).trans t3
   obtain ⟨l0, l1, l2, l3, l4, l5, l6, l7, l8, l9, l10, l11, l12, l13, l14⟩ := (HC6 w1).out hF
   exact wp_of_run (v := .agg #[.int .i64 hs, (.slice ta hl tc)]) (w' := w1) (by generalize a.eval = evv at q0 ⊢; simp only [execOp]; go_simp) (hK _ _ ⟨hP.step (fun u hu => by rw [← Option.some.inj hu, hc]; rfl), hF, fun q => hR (show ℓ 34 = true from q)⟩)
  ·obtain rfl := Option.some.inj ho
   have hc : (B1 && B2) = true := by have h1 := hgd 12 true rfl; have h2 := hP 12 _ rfl (hdep 12 (by simp [ckDep])); rw [h2] at h1; simpa using h1
   have e0 : a.eval (.tmp 19) = .agg #[.int .i64 hz, (.slice ha hrl hc')] := by have h3 := ev 14 _ (by omega) (hdep 14 (by simp [ckDep])) rfl 19 rfl; rw [hc] at h3; exact h3
   have e1 : a.eval (.tmp 20) = .agg #[.int .i64 hs, (.slice ta hl tc)] := by have h3 := ev 15 _ (by omega) (hdep 15 (by simp [ckDep])) rfl 20 rfl; rw [hc] at h3; exact h3
   have qf : a.eval (.func 22) = .func (.func 22) #[] #[] := rfl
   refine wp_of_enter (w' := w1) (by generalize a.eval = evv at e0 e1 qf ⊢; simp only [execOp]; go_simp) (A2 w1 hF) ?_
   rintro e w' ⟨rfl, hb⟩
   exact ⟨_, rfl, hK _ _ ⟨hP.step (fun u hu => by rw [← Option.some.inj hu, hc]; rfl), hF.trans (hb.mono hF.size), fun q q2 => by obtain ⟨ya, yc, h1, h2⟩ := hR (show ℓ 34 = true from q) q2; exact ⟨ya, yc, h1, h2.below (Nat.le_refl _) hb⟩⟩⟩
  ·obtain rfl := Option.some.inj ho
   have e0 : a.eval (.tmp 17) = .bool (B1 && B2) := ev 12 _ (by omega) (hdep 12 (by simp [ckDep])) rfl 17 rfl
   have e1 : a.eval (.tmp 21) = (bif (B1 && B2) then .bool B3 else undef) := ev 16 _ (by omega) (hdep 16 (by simp [ckDep])) rfl 21 rfl
   refine wp_of_run (v := .bool (B1 && B2 && B3)) (w' := w1) ?_ (hK _ _ ⟨hP.step (fun u hu => (Option.some.inj hu).symm), hF, fun q => hR (show ℓ 34 = true from q)⟩)
   have qk : a.eval (.const (.bool false)) = .bool false := rfl
   generalize a.eval = evv at e0 e1 qk ⊢
   revert e0 e1
   generalize (B1 && B2) = c
   intro e0 e1
   cases c
   ·simp only [execOp]
    simp only [cond_false, Bool.false_and] at e1 ⊢
    go_simp
   ·simp only [execOp]
    simp only [cond_true, Bool.true_and] at e1 ⊢
    go_simp
  ·obtain rfl := Option.some.inj ho
   have e0 : a.eval (.tmp 22) = .bool (B1 && B2 && B3) := ev 17 _ (by omega) (hdep 17 (by simp [ckDep])) rfl 22 rfl
   exact wp_of_run (v := .bool (B1 && B2 && B3)) (w' := w1) (by generalize a.eval = evv at e0 ⊢; simp only [execOp]; go_simp) (hK _ _ ⟨hP.step (fun u hu => (Option.some.inj hu).symm), hF, fun q => hR (show ℓ 34 = true from q)⟩)
  ·obtain rfl := Option.some.inj ho
   have hc : (B1 && B2 && B3) = true := by have h1 := hgd 18 true rfl; have h2 := hP 18 _ rfl (hdep 18 (by simp [ckDep])); rw [h2] at h1; simpa using h1
   have q0 : a.eval (.tmp 2) = .pointer (some ⟨X, 0, none⟩) := (hE.out 2 (eo 2 (by omega))).trans t2
   exact wp_of_run (v := .pointer (some ⟨X, 4, none⟩)) (w' := w1) (by generalize a.eval = evv at q0 ⊢; simp only [execOp]; go_simp) (hK _ _ ⟨hP.step (fun u hu => by rw [← Option.some.inj hu, hc]; rfl), hF, fun q => hR (show ℓ 34 = true from q)⟩)
  ·obtain rfl := Option.some.inj ho
   have hc : (B1 && B2 && B3) = true := by have h1 := hgd 18 true rfl; have h2 := hP 18 _ rfl (hdep 18 (by simp [ckDep])); rw [h2] at h1; simpa using h1
   have e0 : a.eval (.tmp 24) = .pointer (some ⟨X, 4, none⟩) := by have h3 := ev 19 _ (by omega) (hdep 19 (by simp [ckDep])) rfl 24 rfl; rw [hc] at h3; exact h3
   exact wp_of_run (v := .pointer (some ⟨X, 7, none⟩)) (w' := w1) (by generalize a.eval = evv at e0 ⊢; simp only [execOp]; go_simp) (hK _ _ ⟨hP.step (fun u hu => by rw [← Option.some.inj hu, hc]; rfl), hF, fun q => hR (show ℓ 34 = true from q)⟩)
  ·obtain rfl := Option.some.inj ho
   have hc : (B1 && B2 && B3) = true := by have h1 := hgd 18 true rfl; have h2 := hP 18 _ rfl (hdep 18 (by simp [ckDep])); rw [h2] at h1; simpa using h1
   have e0 : a.eval (.tmp 25) = .pointer (some ⟨X, 7, none⟩) := by have h3 := ev 20 _ (by omega) (hdep 20 (by simp [ckDep])) rfl 25 rfl; rw [hc] at h3; exact h3
   obtain ⟨l0, l1, l2, l3, l4, l5, l6, l7, l8, l9, l10, l11, l12, l13, l14⟩ := (HC6 w1).out hF
   exact wp_of_run (v := .agg #[.int .i64 rz, (.slice ra rl rc)]) (w' := w1) (by generalize a.eval = evv at e0 ⊢; simp only [execOp]; go_simp) (hK _ _ ⟨hP.step (fun u hu => by rw [← Option.some.inj hu, hc]; rfl), hF, fun q => hR (show ℓ 34 = true from q)⟩)
  ·obtain rfl := Option.some.inj ho
   have hc : (B1 && B2 && B3) = true := by have h1 := hgd 18 true rfl; have h2 := hP 18 _ rfl (hdep 18 (by simp [ckDep])); rw [h2] at h1; simpa using h1
   have q0 : a.eval (.tmp 2) = .pointer (some ⟨X, 0, none⟩) := (hE.out 2 (eo 2 (by omega))).trans t2
   exact wp_of_run (v := .pointer (some ⟨X, 0, none⟩)) (w' := w1) (by generalize a.eval = evv at q0 ⊢; simp only [execOp]; go_simp) (hK _ _ ⟨hP.step (fun u hu => by rw [← Option.some.inj hu, hc]; rfl), hF, fun q => hR (show ℓ 34 = true from q)⟩)
  ·obtain rfl := Option.some.inj ho
   have hc : (B1 && B2 && B3) = true := by have h1 := hgd 18 true rfl; have h2 := hP 18 _ rfl (hdep 18 (by simp [ckDep])); rw [h2] at h1; simpa using h1
   have e0 : a.eval (.tmp 27) = .pointer (some ⟨X, 0, none⟩) := by have h3 := ev 22 _ (by omega) (hdep 22 (by simp [ckDep])) rfl 27 rfl; rw [hc] at h3; exact h3
   obtain ⟨l0, l1, l2, l3, l4, l5, l6, l7, l8, l9, l10, l11, l12, l13, l14⟩ := (HC6 w1).out hF
   exact wp_of_run (v := (.slice ea en ec)) (w' := w1) (by generalize a.eval = evv at e0 ⊢; simp only [execOp]; go_simp) (hK _ _ ⟨hP.step (fun u hu => by rw [← Option.some.inj hu, hc]; rfl), hF, fun q => hR (show ℓ 34 = true from q)⟩)
  ·obtain rfl := Option.some.inj ho
   have hc : (B1 && B2 && B3) = true := by have h1 := hgd 18 true rfl; have h2 := hP 18 _ rfl (hdep 18 (by simp [ckDep])); rw [h2] at h1; simpa using h1
   have q0 : a.eval (.tmp 2) = .pointer (some ⟨X, 0, none⟩) := (hE.out 2 (eo 2 (by omega))).trans t2
   exact wp_of_run (v := .pointer (some ⟨X, 1, none⟩)) (w' := w1) (by generalize a.eval = evv at q0 ⊢; simp only [execOp]; go_simp) (hK _ _ ⟨hP.step (fun u hu => by rw [← Option.some.inj hu, hc]; rfl), hF, fun q => hR (show ℓ 34 = true from q)⟩)
  ·obtain rfl := Option.some.inj ho
   have hc : (B1 && B2 && B3) = true := by have h1 := hgd 18 true rfl; have h2 := hP 18 _ rfl (hdep 18 (by simp [ckDep])); rw [h2] at h1; simpa using h1
   have e0 : a.eval (.tmp 29) = .pointer (some ⟨X, 1, none⟩) := by have h3 := ev 24 _ (by omega) (hdep 24 (by simp [ckDep])) rfl 29 rfl; rw [hc] at h3; exact h3
   obtain ⟨l0, l1, l2, l3, l4, l5, l6, l7, l8, l9, l10, l11, l12, l13, l14⟩ := (HC6 w1).out hF
   exact wp_of_run (v := .int .i64 pl) (w' := w1) (by generalize a.eval = evv at e0 ⊢; simp only [execOp]; go_simp) (hK _ _ ⟨hP.step (fun u hu => by rw [← Option.some.inj hu, hc]; rfl), hF, fun q => hR (show ℓ 34 = true from q)⟩)
  ·obtain rfl := Option.some.inj ho
   have hc : (B1 && B2 && B3) = true := by have h1 := hgd 18 true rfl; have h2 := hP 18 _ rfl (hdep 18 (by simp [ckDep])); rw [h2] at h1; simpa using h1
   have q0 : a.eval (.tmp 2) = .pointer (some ⟨X, 0, none⟩) := (hE.out 2 (eo 2 (by omega))).trans t2
   exact wp_of_run (v := .pointer (some ⟨X, 3, none⟩)) (w' := w1) (by generalize a.eval = evv at q0 ⊢; simp only [execOp]; go_simp) (hK _ _ ⟨hP.step (fun u hu => by rw [← Option.some.inj hu, hc]; rfl), hF, fun q => hR (show ℓ 34 = true from q)⟩)
  ·obtain rfl := Option.some.inj ho
   have hc : (B1 && B2 && B3) = true := by have h1 := hgd 18 true rfl; have h2 := hP 18 _ rfl (hdep 18 (by simp [ckDep])); rw [h2] at h1; simpa using h1
   have e0 : a.eval (.tmp 31) = .pointer (some ⟨X, 3, none⟩) := by have h3 := ev 26 _ (by omega) (hdep 26 (by simp [ckDep])) rfl 31 rfl; rw [hc] at h3; exact h3
   obtain ⟨l0, l1, l2, l3, l4, l5, l6, l7, l8, l9, l10, l11, l12, l13, l14⟩ := (HC6 w1).out hF
   exact wp_of_run (v := (.slice pa pn pc)) (w' := w1) (by generalize a.eval = evv at e0 ⊢; simp only [execOp]; go_simp) (hK _ _ ⟨hP.step (fun u hu => by rw [← Option.some.inj hu, hc]; rfl), hF, fun q => hR (show ℓ 34 = true from q)⟩)
  ·obtain rfl := Option.some.inj ho
   have hc : (B1 && B2 && B3) = true := by have h1 := hgd 18 true rfl; have h2 := hP 18 _ rfl (hdep 18 (by simp [ckDep])); rw [h2] at h1; simpa using h1
   have e0 : a.eval (.tmp 26) = .agg #[.int .i64 rz, (.slice ra rl rc)] := by have h3 := ev 21 _ (by omega) (hdep 21 (by simp [ckDep])) rfl 26 rfl; rw [hc] at h3; exact h3
   have e1 : a.eval (.tmp 28) = (.slice ea en ec) := by have h3 := ev 23 _ (by omega) (hdep 23 (by simp [ckDep])) rfl 28 rfl; rw [hc] at h3; exact h3
   have e2 : a.eval (.tmp 30) = .int .i64 pl := by have h3 := ev 25 _ (by omega) (hdep 25 (by simp [ckDep])) rfl 30 rfl; rw [hc] at h3; exact h3
   have e3 : a.eval (.tmp 32) = (.slice pa pn pc) := by have h3 := ev 27 _ (by omega) (hdep 27 (by simp [ckDep])) rfl 32 rfl; rw [hc] at h3; exact h3
   have qf : a.eval (.func 42) = .func (.func 42) #[] #[] := rfl
   refine wp_of_enter (w' := w1) (by generalize a.eval = evv at e0 e1 e2 e3 qf ⊢; simp only [execOp]; go_simp) (A3 w1 hF) ?_
   rintro e w' ⟨rfl, hb⟩
   exact ⟨_, rfl, hK _ _ ⟨hP.step (fun u hu => by rw [← Option.some.inj hu, hc]; rfl), hF.trans (hb.mono hF.size), fun q q2 => by obtain ⟨ya, yc, h1, h2⟩ := hR (show ℓ 34 = true from q) q2; exact ⟨ya, yc, h1, h2.below (Nat.le_refl _) hb⟩⟩⟩
  ·obtain rfl := Option.some.inj ho
   have e0 : a.eval (.tmp 23) = .bool (B1 && B2 && B3) := ev 18 _ (by omega) (hdep 18 (by simp [ckDep])) rfl 23 rfl
   have e1 : a.eval (.tmp 33) = (bif (B1 && B2 && B3) then .bool B4 else undef) := ev 28 _ (by omega) (hdep 28 (by simp [ckDep])) rfl 33 rfl
   refine wp_of_run (v := .bool (B1 && B2 && B3 && B4)) (w' := w1) ?_ (hK _ _ ⟨hP.step (fun u hu => (Option.some.inj hu).symm), hF, fun q => hR (show ℓ 34 = true from q)⟩)
   have qk : a.eval (.const (.bool false)) = .bool false := rfl
   generalize a.eval = evv at e0 e1 qk ⊢
   revert e0 e1
   generalize (B1 && B2 && B3) = c
   intro e0 e1
   cases c
   ·simp only [execOp]
    simp only [cond_false, Bool.false_and] at e1 ⊢
    go_simp
   ·simp only [execOp]
    simp only [cond_true, Bool.true_and] at e1 ⊢
    go_simp
  ·obtain rfl := Option.some.inj ho
   have e0 : a.eval (.tmp 34) = .bool (B1 && B2 && B3 && B4) := ev 29 _ (by omega) (hdep 29 (by simp [ckDep])) rfl 34 rfl
   exact wp_of_run (v := .bool (B1 && B2 && B3 && B4)) (w' := w1) (by generalize a.eval = evv at e0 ⊢; simp only [execOp]; go_simp) (hK _ _ ⟨hP.step (fun u hu => (Option.some.inj hu).symm), hF, fun q => hR (show ℓ 34 = true from q)⟩)
  ·obtain rfl := Option.some.inj ho
   have hc : (B1 && B2 && B3 && B4) = true := by have h1 := hgd 30 true rfl; have h2 := hP 30 _ rfl (hdep 30 (by simp [ckDep])); rw [h2] at h1; simpa using h1
   have q0 : a.eval (.tmp 3) = .pointer (some ⟨Y, 0, none⟩) := (hE.out 3 (eo 3 (by omega))).trans t3
   obtain ⟨l0, l1, l2, l3, l4, l5, l6, l7, l8, l9, l10, l11, l12, l13, l14⟩ := (HC6 w1).out hF
   exact wp_of_run (v := .agg #[.int .i64 hs, (.slice ta hl tc)]) (w' := w1) (by generalize a.eval = evv at q0 ⊢; simp only [execOp]; go_simp) (hK _ _ ⟨hP.step (fun u hu => by rw [← Option.some.inj hu, hc]; rfl), hF, fun q => hR (show ℓ 34 = true from q)⟩)
  ·obtain rfl := Option.some.inj ho
   have hc : (B1 && B2 && B3 && B4) = true := by have h1 := hgd 30 true rfl; have h2 := hP 30 _ rfl (hdep 30 (by simp [ckDep])); rw [h2] at h1; simpa using h1
   have q0 : a.eval (.tmp 2) = .pointer (some ⟨X, 0, none⟩) := (hE.out 2 (eo 2 (by omega))).trans t2
   exact wp_of_run (v := .pointer (some ⟨X, 4, none⟩)) (w' := w1) (by generalize a.eval = evv at q0 ⊢; simp only [execOp]; go_simp) (hK _ _ ⟨hP.step (fun u hu => by rw [← Option.some.inj hu, hc]; rfl), hF, fun q => hR (show ℓ 34 = true from q)⟩)
  ·obtain rfl := Option.some.inj ho
   have hc : (B1 && B2 && B3 && B4) = true := by have h1 := hgd 30 true rfl; have h2 := hP 30 _ rfl (hdep 30 (by simp [ckDep])); rw [h2] at h1; simpa using h1
   have e0 : a.eval (.tmp 37) = .pointer (some ⟨X, 4, none⟩) := by have h3 := ev 32 _ (by omega) (hdep 32 (by simp [ckDep])) rfl 37 rfl; rw [hc] at h3; exact h3
   obtain ⟨l0, l1, l2, l3, l4, l5, l6, l7, l8, l9, l10, l11, l12, l13, l14⟩ := (HC6 w1).out hF
   exact wp_of_run (v := .agg #[.int .i64 rs, .int .i64 rf, .int .i64 rt, .int .i64 rz, (.slice ra rl rc)]) (w' := w1) (by generalize a.eval = evv at e0 ⊢; simp only [execOp]; go_simp) (hK _ _ ⟨hP.step (fun u hu => by rw [← Option.some.inj hu, hc]; rfl), hF, fun q => hR (show ℓ 34 = true from q)⟩)
  ·obtain rfl := Option.some.inj ho
   have hc : (B1 && B2 && B3 && B4) = true := by have h1 := hgd 30 true rfl; have h2 := hP 30 _ rfl (hdep 30 (by simp [ckDep])); rw [h2] at h1; simpa using h1
   have e0 : a.eval (.tmp 38) = .agg #[.int .i64 rs, .int .i64 rf, .int .i64 rt, .int .i64 rz, (.slice ra rl rc)] := by have h3 := ev 33 _ (by omega) (hdep 33 (by simp [ckDep])) rfl 38 rfl; rw [hc] at h3; exact h3
   have qf : a.eval (.func 43) = .func (.func 43) #[] #[] := rfl
   refine wp_of_enter (w' := w1) (by generalize a.eval = evv at e0 qf ⊢; simp only [execOp]; go_simp) (A4 (by revert hc; cases B1 <;> simp) w1 hF) ?_
   rintro e w' ⟨ya, yc, rfl, hy, hb⟩
   exact ⟨_, rfl, hK _ _ ⟨hP.step (fun u hu => by cases hu), hF.trans (hb.mono hF.size), fun _ _ => ⟨ya, yc, rfl, hy⟩⟩⟩
  ·obtain rfl := Option.some.inj ho
   have hc : (B1 && B2 && B3 && B4) = true := by have h1 := hgd 30 true rfl; have h2 := hP 30 _ rfl (hdep 30 (by simp [ckDep])); rw [h2] at h1; simpa using h1
   have q0 : a.eval (.tmp 2) = .pointer (some ⟨X, 0, none⟩) := (hE.out 2 (eo 2 (by omega))).trans t2
   exact wp_of_run (v := .pointer (some ⟨X, 9, none⟩)) (w' := w1) (by generalize a.eval = evv at q0 ⊢; simp only [execOp]; go_simp) (hK _ _ ⟨hP.step (fun u hu => by rw [← Option.some.inj hu, hc]; rfl), hF, fun q => hR (show ℓ 34 = true from q)⟩)
  ·obtain rfl := Option.some.inj ho
   have hc : (B1 && B2 && B3 && B4) = true := by have h1 := hgd 30 true rfl; have h2 := hP 30 _ rfl (hdep 30 (by simp [ckDep])); rw [h2] at h1; simpa using h1
   have e0 : a.eval (.tmp 40) = .pointer (some ⟨X, 9, none⟩) := by have h3 := ev 35 _ (by omega) (hdep 35 (by simp [ckDep])) rfl 40 rfl; rw [hc] at h3; exact h3
   obtain ⟨l0, l1, l2, l3, l4, l5, l6, l7, l8, l9, l10, l11, l12, l13, l14⟩ := (HC6 w1).out hF
   exact wp_of_run (v := .int .i64 rw) (w' := w1) (by generalize a.eval = evv at e0 ⊢; simp only [execOp]; go_simp) (hK _ _ ⟨hP.step (fun u hu => by rw [← Option.some.inj hu, hc]; rfl), hF, fun q => hR (show ℓ 34 = true from q)⟩)
  ·obtain rfl := Option.some.inj ho
   have hc : (B1 && B2 && B3 && B4) = true := by have h1 := hgd 30 true rfl; have h2 := hP 30 _ rfl (hdep 30 (by simp [ckDep])); rw [h2] at h1; simpa using h1
   have q0 : a.eval (.tmp 2) = .pointer (some ⟨X, 0, none⟩) := (hE.out 2 (eo 2 (by omega))).trans t2
   exact wp_of_run (v := .pointer (some ⟨X, 10, none⟩)) (w' := w1) (by generalize a.eval = evv at q0 ⊢; simp only [execOp]; go_simp) (hK _ _ ⟨hP.step (fun u hu => by rw [← Option.some.inj hu, hc]; rfl), hF, fun q => hR (show ℓ 34 = true from q)⟩)
  ·obtain rfl := Option.some.inj ho
   have hc : (B1 && B2 && B3 && B4) = true := by have h1 := hgd 30 true rfl; have h2 := hP 30 _ rfl (hdep 30 (by simp [ckDep])); rw [h2] at h1; simpa using h1
   have e0 : a.eval (.tmp 42) = .pointer (some ⟨X, 10, none⟩) := by have h3 := ev 37 _ (by omega) (hdep 37 (by simp [ckDep])) rfl 42 rfl; rw [hc] at h3; exact h3
   obtain ⟨l0, l1, l2, l3, l4, l5, l6, l7, l8, l9, l10, l11, l12, l13, l14⟩ := (HC6 w1).out hF
   exact wp_of_run (v := (.slice ba bn bc)) (w' := w1) (by generalize a.eval = evv at e0 ⊢; simp only [execOp]; go_simp) (hK _ _ ⟨hP.step (fun u hu => by rw [← Option.some.inj hu, hc]; rfl), hF, fun q => hR (show ℓ 34 = true from q)⟩)
  ·obtain rfl := Option.some.inj ho
   have hc : (B1 && B2 && B3 && B4) = true := by have h1 := hgd 30 true rfl; have h2 := hP 30 _ rfl (hdep 30 (by simp [ckDep])); rw [h2] at h1; simpa using h1
   have e0 : a.eval (.tmp 36) = .agg #[.int .i64 hs, (.slice ta hl tc)] := by have h3 := ev 31 _ (by omega) (hdep 31 (by simp [ckDep])) rfl 36 rfl; rw [hc] at h3; exact h3
   have e2 : a.eval (.tmp 41) = .int .i64 rw := by have h3 := ev 36 _ (by omega) (hdep 36 (by simp [ckDep])) rfl 41 rfl; rw [hc] at h3; exact h3
   have e3 : a.eval (.tmp 43) = (.slice ba bn bc) := by have h3 := ev 38 _ (by omega) (hdep 38 (by simp [ckDep])) rfl 43 rfl; rw [hc] at h3; exact h3
   obtain ⟨ya, yc, hs34, hby⟩ := hR (hdep 34 (by simp [ckDep])) hc
   have e1 : a.eval (.tmp 39) = .slice ya 40 yc := (hE.val 34 (by omega) (hdep 34 (by simp [ckDep])) 39 rfl).trans hs34
   have qf : a.eval (.func 42) = .func (.func 42) #[] #[] := rfl
   refine wp_of_enter (w' := w1) (by generalize a.eval = evv at e0 e1 e2 e3 qf ⊢; simp only [execOp]; go_simp) (A5 (by revert hc; cases B1 <;> simp) w1 ya yc hF hby) ?_
   rintro e w' ⟨rfl, hb⟩
   exact ⟨_, rfl, hK _ _ ⟨hP.step (fun u hu => by rw [← Option.some.inj hu, hc]; rfl), hF.trans (hb.mono hF.size), fun q q2 => by obtain ⟨ya, yc, h1, h2⟩ := hR (show ℓ 34 = true from q) q2; exact ⟨ya, yc, h1, h2.below (Nat.le_refl _) hb⟩⟩⟩
  ·obtain rfl := Option.some.inj ho
   have e0 : a.eval (.tmp 35) = .bool (B1 && B2 && B3 && B4) := ev 30 _ (by omega) (hdep 30 (by simp [ckDep])) rfl 35 rfl
   have e1 : a.eval (.tmp 44) = (bif (B1 && B2 && B3 && B4) then .bool B5 else undef) := ev 39 _ (by omega) (hdep 39 (by simp [ckDep])) rfl 44 rfl
   refine wp_of_run (v := .bool (B1 && B2 && B3 && B4 && B5)) (w' := w1) ?_ (hK _ _ ⟨hP.step (fun u hu => (Option.some.inj hu).symm), hF, fun q => hR (show ℓ 34 = true from q)⟩)
   have qk : a.eval (.const (.bool false)) = .bool false := rfl
   generalize a.eval = evv at e0 e1 qk ⊢
   revert e0 e1
   generalize (B1 && B2 && B3 && B4) = c
   intro e0 e1
   cases c
   ·simp only [execOp]
    simp only [cond_false, Bool.false_and] at e1 ⊢
    go_simp
   ·simp only [execOp]
    simp only [cond_true, Bool.true_and] at e1 ⊢
    go_simp
  ·obtain rfl := Option.some.inj ho
   have e0 : a.eval (.tmp 45) = .bool (B1 && B2 && B3 && B4 && B5) := ev 40 _ (by omega) (hdep 40 (by simp [ckDep])) rfl 45 rfl
   exact wp_of_run (v := .bool (B1 && B2 && B3 && B4 && B5)) (w' := w1) (by generalize a.eval = evv at e0 ⊢; simp only [execOp]; go_simp) (hK _ _ ⟨hP.step (fun u hu => (Option.some.inj hu).symm), hF, fun q => hR (show ℓ 34 = true from q)⟩)

end Go.Proofs.YtkjlchfmplcobaeGreatDoor

/- The walk of yearref5.Check. -/
namespace Go.Proofs.YtkjlchfmplcobaeGreatDoor
open Go.RowKit

set_option maxRecDepth 100000 in
set_option maxHeartbeats 8000000 in
theorem refCheck_any (s : Shw) (hs : Int) (hr : List Int) (sv : Value) (ta : Option Addr) (tc : Nat) (w : World) (hS : ShwV w sv s) (hH : Some' w (.slice ta hr.length tc) hr) :
  Calls Tryz.prog 15 #[sv, .agg #[.int .i64 hs, .slice ta hr.length tc]] w fun e w' => e = .returned (.bool (checkL s hs hr)) ∧ Below w.heap.size w w' := by
 obtain ⟨ea, ec, pa, pc, ra, rc, ba, bc, ha, hc, rfl, g1, g2, g3, g4, g5⟩ := hS.form
 have b0 : Below w.heap.size w ((w.alloc (.cells #[.slice ea s.entry.length ec, .int .i64 s.place, .int .i64 s.shard, .slice pa s.path.length pc, .int .i64 s.rcd.shard, .int .i64 s.rcd.from', .int .i64 s.rcd.to', .int .i64 s.rcd.size, .slice ra s.rcd.root.length rc, .int .i64 s.row, .slice ba s.bookPath.length bc, .int .i64 s.hsize, .slice ha s.hroot.length hc] 47)).alloc (.cells #[.int .i64 hs, .slice ta hr.length tc] 39)) := ((Below.refl _ _).alloc (Nat.le_refl _) _).alloc (by simp) _
 have x0 := box_one w #[.slice ea s.entry.length ec, .int .i64 s.place, .int .i64 s.shard, .slice pa s.path.length pc, .int .i64 s.rcd.shard, .int .i64 s.rcd.from', .int .i64 s.rcd.to', .int .i64 s.rcd.size, .slice ra s.rcd.root.length rc, .int .i64 s.row, .slice ba s.bookPath.length bc, .int .i64 s.hsize, .slice ha s.hroot.length hc] 47 (.cells #[.int .i64 hs, .slice ta hr.length tc] 39)
 have y0 := box_last w (.cells #[.slice ea s.entry.length ec, .int .i64 s.place, .int .i64 s.shard, .slice pa s.path.length pc, .int .i64 s.rcd.shard, .int .i64 s.rcd.from', .int .i64 s.rcd.to', .int .i64 s.rcd.size, .slice ra s.rcd.root.length rc, .int .i64 s.row, .slice ba s.bookPath.length bc, .int .i64 s.hsize, .slice ha s.hroot.length hc] 47) #[.int .i64 hs, .slice ta hr.length tc] 39
 have up : ∀ {w0 w' : World}, Below w.heap.size w w0 → Below w0.heap.size w0 w' → Below w.heap.size w w' := fun h1 h2 => h1.trans (h2.mono h1.size)
 have hRV : ∀ w', Below w.heap.size w w' → RecV w' (.agg #[.int .i64 s.rcd.shard, .int .i64 s.rcd.from', .int .i64 s.rcd.to', .int .i64 s.rcd.size, .slice ra s.rcd.root.length rc]) s.rcd := fun w' h => ⟨ra, rc, rfl, g3.below h⟩
 have A1 : ∀ w', Below w.heap.size w w' → _ := fun w' h => refRecWrong_any s.rcd _ w' (hRV w' h)
 have A2 : ∀ w', Below w.heap.size w w' → _ := fun w' h => sameHead_any s.hsize hs s.hroot hr (.slice ha s.hroot.length hc) (.slice ta hr.length tc) w' (g5.below h) (hH.below h)
 have A3 : ∀ w', Below w.heap.size w w' → _ := fun w' h => refStands_any s.rcd.size s.rcd.root s.entry s.place s.path (.slice ra s.rcd.root.length rc) (.slice ea s.entry.length ec) pa s.path.length pc w' (g3.below h).at' (g1.below h).at' g1.bytes g1.short rfl (g2.below h).at' g2.room g2.cap g2.bytes g2.short
 have A4 : wrongRec s.rcd = 0 → ∀ w', Below w.heap.size w w' → _ := fun hw w' h => refRow_any s.rcd (.agg #[.int .i64 s.rcd.shard, .int .i64 s.rcd.from', .int .i64 s.rcd.to', .int .i64 s.rcd.size, .slice ra s.rcd.root.length rc]) w' (hRV w' h) hw
 have A5 : wrongRec s.rcd = 0 → ∀ w' ya yc, Below w.heap.size w w' → BytesAt w' (.slice ya 40 yc) (rowL s.rcd) → _ := fun hw w' ya yc h hy => refStands_any hs hr (rowL s.rcd) s.row s.bookPath (.slice ta hr.length tc) (.slice ya 40 yc) ba s.bookPath.length bc w' (hH.below h).at' hy (row_bytes hw g3.bytes) (by rw [row_length hw]; unfold maxLen; omega) rfl (g4.below h).at' g4.room g4.cap g4.bytes g4.short
 have HC : Hid (checkL s hs hr = ((wrongRec s.rcd == 0) && (s.rcd.shard == s.shard) && decide (s.hsize = hs ∧ s.hroot = hr) && standsL s.rcd.size s.rcd.root s.entry s.place s.path && standsL hs hr (rowL s.rcd) s.row s.bookPath)) := by
  show _ = _
  have : checkL s hs hr = (decide (wrongRec s.rcd = 0) && (decide (s.rcd.shard = s.shard) && (decide (s.hsize = hs ∧ s.hroot = hr) && (standsL s.rcd.size s.rcd.root s.entry s.place s.path && standsL hs hr (rowL s.rcd) s.row s.bookPath)))) := rfl
  rw [this, ← Bool.and_assoc, ← Bool.and_assoc, ← Bool.and_assoc]
  rfl
 clear g1 g2 g3 g4 g5 hS hH hRV
 go_enter Tryz.func15, Tryz.ntmps15
 go_wp2_with fail
 generalize (w.alloc (.cells #[.slice ea s.entry.length ec, .int .i64 s.place, .int .i64 s.shard, .slice pa s.path.length pc, .int .i64 s.rcd.shard, .int .i64 s.rcd.from', .int .i64 s.rcd.to', .int .i64 s.rcd.size, .slice ra s.rcd.root.length rc, .int .i64 s.row, .slice ba s.bookPath.length bc, .int .i64 s.hsize, .slice ha s.hroot.length hc] 47)).alloc (.cells #[.int .i64 hs, .slice ta hr.length tc] 39) = w0 at *
 refine ck_region (B1 := (wrongRec s.rcd == 0)) (B2 := (s.rcd.shard == s.shard)) (ROW := rowL s.rcd) rfl rfl rfl rfl rfl rfl x0 y0 rfl rfl (fun w' h => A1 w' (up b0 h)) (fun w' h => A2 w' (up b0 h)) (fun w' h => A3 w' (up b0 h)) (fun hb w' h => (A4 (by simpa using hb) w' (up b0 h)).mono (by rintro e w'' ⟨ya, yc, rfl, hy, hb2⟩; exact ⟨ya, yc, rfl, bytesAt_own hy, hb2⟩)) (fun hb w' ya yc h hy => A5 (by simpa using hb) w' ya yc (up b0 h) hy) rfl rfl rfl (fun σ wx hσ hb => ?_)
 simp only [putsOf, List.range, List.range.loop, List.filterMap_cons, List.filterMap_nil, ckDst, Option.map_some, Nat.reduceAdd, Nat.reduceLT, ↓reduceIte, setAll, List.setIfInBounds_toArray, List.set_cons_succ, List.set_cons_zero, hσ]
 have bZ := up b0 hb
 clear A1 A2 A3 A4 A5
 go_wp2_with fail
 go_ret
 exact ⟨by rw [HC.out]; rfl, bZ⟩

end Go.Proofs.YtkjlchfmplcobaeGreatDoor

/- The walk of yearref5.SameShown at what is the same. -/
namespace Go.Proofs.YtkjlchfmplcobaeGreatDoor
open Go.RowKit

set_option maxRecDepth 100000 in
set_option maxHeartbeats 4000000 in
theorem sameShown_yes (s : Shw) (v1 v2 : Value) (w : World) (h1 : ShwV w v1 s) (h2 : ShwV w v2 s) :
  Calls Tryz.prog 13 #[v1, v2] w fun e w' => e = .returned (.bool true) ∧ Below w.heap.size w w' := by
 obtain ⟨ea, ec, pa, pc, ra, rc, ba, bc, ha, hc, rfl, g1, g2, g3, g4, g5⟩ := h1.form
 obtain ⟨ea', ec', pa', pc', ra', rc', ba', bc', ha', hc', rfl, k1, k2, k3, k4, k5⟩ := h2.form
 have b0 : Below w.heap.size w ((w.alloc (.cells #[.slice ea s.entry.length ec, .int .i64 s.place, .int .i64 s.shard, .slice pa s.path.length pc, .int .i64 s.rcd.shard, .int .i64 s.rcd.from', .int .i64 s.rcd.to', .int .i64 s.rcd.size, .slice ra s.rcd.root.length rc, .int .i64 s.row, .slice ba s.bookPath.length bc, .int .i64 s.hsize, .slice ha s.hroot.length hc] 47)).alloc (.cells #[.slice ea' s.entry.length ec', .int .i64 s.place, .int .i64 s.shard, .slice pa' s.path.length pc', .int .i64 s.rcd.shard, .int .i64 s.rcd.from', .int .i64 s.rcd.to', .int .i64 s.rcd.size, .slice ra' s.rcd.root.length rc', .int .i64 s.row, .slice ba' s.bookPath.length bc', .int .i64 s.hsize, .slice ha' s.hroot.length hc'] 47)) := ((Below.refl _ _).alloc (Nat.le_refl _) _).alloc (by simp) _
 have x0 := box_one w #[.slice ea s.entry.length ec, .int .i64 s.place, .int .i64 s.shard, .slice pa s.path.length pc, .int .i64 s.rcd.shard, .int .i64 s.rcd.from', .int .i64 s.rcd.to', .int .i64 s.rcd.size, .slice ra s.rcd.root.length rc, .int .i64 s.row, .slice ba s.bookPath.length bc, .int .i64 s.hsize, .slice ha s.hroot.length hc] 47 (.cells #[.slice ea' s.entry.length ec', .int .i64 s.place, .int .i64 s.shard, .slice pa' s.path.length pc', .int .i64 s.rcd.shard, .int .i64 s.rcd.from', .int .i64 s.rcd.to', .int .i64 s.rcd.size, .slice ra' s.rcd.root.length rc', .int .i64 s.row, .slice ba' s.bookPath.length bc', .int .i64 s.hsize, .slice ha' s.hroot.length hc'] 47)
 have y0 := box_last w (.cells #[.slice ea s.entry.length ec, .int .i64 s.place, .int .i64 s.shard, .slice pa s.path.length pc, .int .i64 s.rcd.shard, .int .i64 s.rcd.from', .int .i64 s.rcd.to', .int .i64 s.rcd.size, .slice ra s.rcd.root.length rc, .int .i64 s.row, .slice ba s.bookPath.length bc, .int .i64 s.hsize, .slice ha s.hroot.length hc] 47) #[.slice ea' s.entry.length ec', .int .i64 s.place, .int .i64 s.shard, .slice pa' s.path.length pc', .int .i64 s.rcd.shard, .int .i64 s.rcd.from', .int .i64 s.rcd.to', .int .i64 s.rcd.size, .slice ra' s.rcd.root.length rc', .int .i64 s.row, .slice ba' s.bookPath.length bc', .int .i64 s.hsize, .slice ha' s.hroot.length hc'] 47
 have c1 : ∀ w', Below w.heap.size w w' → _ := fun w' h => same_any s.entry s.entry _ _ w' (g1.below h).at' (k1.below h).at' g1.short
 have c2 : ∀ w', Below w.heap.size w w' → _ := fun w' h => refSame_any s.path s.path (.slice pa s.path.length pc) (.slice pa' s.path.length pc') w' (g2.below h).at' (k2.below h).at' (Nat.le_trans g2.room g2.cap) g2.short
 have c3 : ∀ w', Below w.heap.size w w' → _ := fun w' h => sameRec_yes s.rcd (.agg #[.int .i64 s.rcd.shard, .int .i64 s.rcd.from', .int .i64 s.rcd.to', .int .i64 s.rcd.size, .slice ra s.rcd.root.length rc]) (.agg #[.int .i64 s.rcd.shard, .int .i64 s.rcd.from', .int .i64 s.rcd.to', .int .i64 s.rcd.size, .slice ra' s.rcd.root.length rc']) w' ⟨ra, rc, rfl, g3.below h⟩ ⟨ra', rc', rfl, k3.below h⟩
 have c4 : ∀ w', Below w.heap.size w w' → _ := fun w' h => refSame_any s.bookPath s.bookPath (.slice ba s.bookPath.length bc) (.slice ba' s.bookPath.length bc') w' (g4.below h).at' (k4.below h).at' (Nat.le_trans g4.room g4.cap) g4.short
 have c5 : ∀ w', Below w.heap.size w w' → _ := fun w' h => sameHead_any s.hsize s.hsize s.hroot s.hroot _ _ w' (g5.below h) (k5.below h)
 rw [decide_eq_true (rfl : s.entry = s.entry)] at c1
 rw [decide_eq_true (rfl : s.path = s.path)] at c2
 rw [decide_eq_true (rfl : s.bookPath = s.bookPath)] at c4
 rw [decide_eq_true (⟨rfl, rfl⟩ : s.hsize = s.hsize ∧ s.hroot = s.hroot)] at c5
 clear h1 h2 g1 g2 g3 g4 g5 k1 k2 k3 k4 k5
 obtain ⟨u0, u1, u2, u3, u4, u5, u6, u7, u8, u9, u10, u11, u12⟩ := box_13 x0
 obtain ⟨v0, v1, v2, v3, v4, v5, v6, v7, v8, v9, v10, v11, v12⟩ := box_13 y0
 go_enter Tryz.func13, Tryz.ntmps13
 go_wp2_with fail
 generalize (w.alloc (.cells #[.slice ea s.entry.length ec, .int .i64 s.place, .int .i64 s.shard, .slice pa s.path.length pc, .int .i64 s.rcd.shard, .int .i64 s.rcd.from', .int .i64 s.rcd.to', .int .i64 s.rcd.size, .slice ra s.rcd.root.length rc, .int .i64 s.row, .slice ba s.bookPath.length bc, .int .i64 s.hsize, .slice ha s.hroot.length hc] 47)).alloc (.cells #[.slice ea' s.entry.length ec', .int .i64 s.place, .int .i64 s.shard, .slice pa' s.path.length pc', .int .i64 s.rcd.shard, .int .i64 s.rcd.from', .int .i64 s.rcd.to', .int .i64 s.rcd.size, .slice ra' s.rcd.root.length rc', .int .i64 s.row, .slice ba' s.bookPath.length bc', .int .i64 s.hsize, .slice ha' s.hroot.length hc'] 47) = w0 at *
 refine (c1 w0 b0).mono ?_
 rintro e w1 ⟨rfl, q, rfl⟩
 have d1 := below_drewN' (Below.refl w0.heap.size w0) q
 generalize w0.drewN q = w1 at *
 clear u0 u1 u2 u3 u4 u5 u6 u7 u8 u9 u10 u11 u12 v0 v1 v2 v3 v4 v5 v6 v7 v8 v9 v10 v11 v12
 obtain ⟨u0, u1, u2, u3, u4, u5, u6, u7, u8, u9, u10, u11, u12⟩ := box_13 (box_kept x0 d1)
 obtain ⟨v0, v1, v2, v3, v4, v5, v6, v7, v8, v9, v10, v11, v12⟩ := box_13 (box_kept y0 d1)
 have b1 := b0.trans (d1.mono b0.size)
 go_wp2_with fail
 refine (c2 w1 b1).mono ?_
 rintro e w2 ⟨rfl, q, rfl⟩
 have d2 := d1.trans ((below_drewN' (Below.refl w1.heap.size w1) q).mono d1.size)
 generalize w1.drewN q = w2 at *
 clear u0 u1 u2 u3 u4 u5 u6 u7 u8 u9 u10 u11 u12 v0 v1 v2 v3 v4 v5 v6 v7 v8 v9 v10 v11 v12
 obtain ⟨u0, u1, u2, u3, u4, u5, u6, u7, u8, u9, u10, u11, u12⟩ := box_13 (box_kept x0 d2)
 obtain ⟨v0, v1, v2, v3, v4, v5, v6, v7, v8, v9, v10, v11, v12⟩ := box_13 (box_kept y0 d2)
 have b2 := b0.trans (d2.mono b0.size)
 go_wp2_with fail
 refine (c3 w2 b2).mono ?_
 rintro e w3 ⟨rfl, hb3⟩
 have d3 := d2.trans (hb3.mono d2.size)
 clear u0 u1 u2 u3 u4 u5 u6 u7 u8 u9 u10 u11 u12 v0 v1 v2 v3 v4 v5 v6 v7 v8 v9 v10 v11 v12
 obtain ⟨u0, u1, u2, u3, u4, u5, u6, u7, u8, u9, u10, u11, u12⟩ := box_13 (box_kept x0 d3)
 obtain ⟨v0, v1, v2, v3, v4, v5, v6, v7, v8, v9, v10, v11, v12⟩ := box_13 (box_kept y0 d3)
 have b3 := b0.trans (d3.mono b0.size)
 go_wp2_with fail
 refine (c4 w3 b3).mono ?_
 rintro e w4 ⟨rfl, q, rfl⟩
 have d4 := d3.trans ((below_drewN' (Below.refl w3.heap.size w3) q).mono d3.size)
 generalize w3.drewN q = w4 at *
 clear u0 u1 u2 u3 u4 u5 u6 u7 u8 u9 u10 u11 u12 v0 v1 v2 v3 v4 v5 v6 v7 v8 v9 v10 v11 v12
 obtain ⟨u0, u1, u2, u3, u4, u5, u6, u7, u8, u9, u10, u11, u12⟩ := box_13 (box_kept x0 d4)
 obtain ⟨v0, v1, v2, v3, v4, v5, v6, v7, v8, v9, v10, v11, v12⟩ := box_13 (box_kept y0 d4)
 have b4 := b0.trans (d4.mono b0.size)
 go_wp2_with fail
 refine (c5 w4 b4).mono ?_
 rintro e w5 ⟨rfl, hb5⟩
 go_wp2_with fail
 go_ret
 exact ⟨rfl, b4.trans (hb5.mono b4.size)⟩

end Go.Proofs.YtkjlchfmplcobaeGreatDoor

/- The walks of yearref2.Path and Proof. -/
namespace Go.Proofs.YtkjlchfmplcobaeGreatDoor
open Go.RowKit

theorem Leaves.mth {w : World} {a : Option Addr} {n c : Nat} {L : List (List Int)} (h : Leaves w a n c L) (hn : n ≤ 1000000) :
  Calls Tryz.prog 35 #[.slice a n c] w fun e w' => ∃ xa xc, e = .returned (.slice xa 32 xc) ∧ w'.ownsRow w.heap.size 5 1 (.slice xa 32 xc) 32 ((mth L).map (Value.int .u8)) ∧ Below w.heap.size w w' :=
 (mth_any n L a c w h.len hn h.at' h.room h.cap h.bytes h.short).mono fun _ _ ⟨x, he, ho, hb⟩ => by
  obtain ⟨xa, xc, hx⟩ := own_form' ho
  exact ⟨xa, xc, by rw [he, hx], by rw [← hx]; exact ho, hb⟩
set_option maxRecDepth 100000 in
set_option maxHeartbeats 2000000 in
theorem refPath_any (n : Nat) : ∀ (L : List (List Int)) (i : Nat) (iv : Int) (a : Option Addr) (c : Nat) (w : World), iv = i → n ≤ 1000000 → i < 1000000 → Leaves w a n c L →
  Calls Tryz.prog 34 #[.slice a n c, .int .i64 iv] w fun e w' => ∃ x, e = .returned x ∧ OwnParts w' w.heap.size x (pathL L i) ∧ Below w.heap.size w w' := by
 induction n using Nat.strongRecOn with
 | ind n ih =>
  intro L i iv a c w hiv hn hi hL
  subst hiv
  by_cases h1 : n ≤ 1
  ·rw [pathL_one (by rw [hL.len]; exact h1)]
   go_enter Tryz.func34, Tryz.ntmps34
   go_wp2_with fail
   go_ret
   exact ⟨_, rfl, OwnParts.nil _ _, Below.refl _ _⟩
  ·obtain ⟨i0, hi0, hz0, hz1, hz2⟩ := info_parts Tryz.info37b
   obtain ⟨b, off, rfl⟩ := hL.addr (by omega)
   have hs := splitN_spec (n := n) (by omega)
   have hsp := split_any n w (by omega) hn
   have hlen := hL.len
   have HL : Hid (i < splitN n → pathL L i = pathL (L.take (splitN n)) i ++ [mth (L.drop (splitN n))]) := fun h => by
    have := pathL_left (ls := L) (i := i) (by omega) (by rw [hlen]; exact h)
    rwa [hlen] at this
   have HR : Hid (¬ i < splitN n → pathL L i = pathL (L.drop (splitN n)) (i - splitN n) ++ [mth (L.take (splitN n))]) := fun h => by
    have := pathL_right (ls := L) (i := i) (by omega) (by rw [hlen]; exact h)
    rwa [hlen] at this
   have hroom := hL.room
   have hcap := hL.cap
   unfold maxLen at hcap
   obtain ⟨k, hk⟩ : ∃ k, splitN n = k := ⟨_, rfl⟩
   rw [hk] at hs HL HR hsp
   clear hk
   have hLt := hL.take (k := k) (by omega) (by omega)
   have hLd := hL.drop (k := k) (by omega) (by omega)
   have m1 : (mth (L.drop k)).length = 32 := mth_length _
   have m2 : (mth (L.take k)).length = 32 := mth_length _
   have p1 : (pathL (L.take k) i).length ≤ 20 := path_short _ _ 20 (by rw [hLt.len]; omega)
   have p2 : (pathL (L.drop k) (i - k)).length ≤ 20 := path_short _ _ 20 (by rw [hLd.len]; omega)
   have c1 : ∀ w1, Below w.heap.size w w1 → _ := fun w1 hb => ih k (by omega) (L.take k) i i (some ⟨b, off, none⟩) c w1 rfl (by omega) hi (hLt.below hb)
   have c2 : ∀ w1, Below w.heap.size w w1 → _ := fun w1 hb => (hLd.below hb).mth (by omega)
   have c3 : ∀ w1, Below w.heap.size w w1 → ¬ i < k → _ := fun w1 hb hik => ih (n - k) (by omega) (L.drop k) (i - k) (IntKind.i64.wrap ((i : Int) - k)) (some ⟨b, off + k, none⟩) (c - k) w1 (by rw [IntKind.wrap_i64]; omega) (by omega) (by omega) (hLd.below hb)
   have c4 : ∀ w1, Below w.heap.size w w1 → _ := fun w1 hb => (hLt.below hb).mth (by omega)
   clear ih hLt hLd hL hlen
   generalize pathL (L.take k) i = P1 at *
   generalize pathL (L.drop k) (i - k) = P2 at *
   generalize mth (L.drop k) = M1 at *
   generalize mth (L.take k) = M2 at *
   have i1 : (k : Int) ≤ (n : Int) := by omega
   have i2 : ¬ (c = k) := by omega
   have i3 : (k : Int) ≤ (c : Int) := by omega
   by_cases hik : i < k
   ·have j1 : (i : Int) < (k : Int) := by omega
    rw [HL.out hik]
    clear HL HR c3 c4
    go_enter Tryz.func34, Tryz.ntmps34
    go_wp2_with fail
    refine hsp.mono ?_
    rintro e w0 ⟨rfl, rfl⟩
    go_wp2_with fail
    go_region_held3 (fun _ => True) (exact True.intro) (first | (go_at_call 34; refine (c1 _ (Below.refl _ _).drew).mono ?_; rintro e w1 ⟨x1, rfl, ⟨vs, hrow, hels⟩, hb1⟩; have hb1' := (Below.refl _ _).drew.trans hb1) | (go_at_call 35; refine (c2 _ hb1').mono ?_; rintro e w2 ⟨xa, xc, rfl, ho2, hb2⟩; have hrow2 := own_below hrow hb2 (Nat.le_refl _); have hels2 := hels.below hb2 (Nat.le_refl _); have hs1 := hb1.size; have hs2 := hb2.size) | (refine step_append_kept _ rfl (.tmp 19) (.tmp 24) 43 rfl w0.heap.size 37 i0 (.slice none 0 0) 24 Tryz.underlying43 hi0 hz0 hz1 hz2 rfl _ _ _ rfl (World.ownsRow.alloc (by exact hrow2) _) _ 1 1 [.slice xa 32 xc] rfl rfl (cell_one_new _ _ _) (by intro u hu; simp at hu; subst hu; rfl) (by unfold maxLen; omega) (by omega) (by simp at hs1 ⊢; omega) ?_; intro v6 w6 ho6 hg6 hk6))
    have hbA : Below w0.heap.size w0 w1 := hb1'
    have hsA := hbA.size
    have hb6 : Below w0.heap.size w0 w6 := ((hbA.trans (hb2.mono hsA)).alloc (by omega) _).grown hg6 (by simp; omega) (fun q h => own_block hrow2 h)
    have hvl : vs.length = P1.length := by simpa using hrow2.1
    have hel6 : OwnEls w6 w0.heap.size (vs ++ [.slice xa 32 xc]) (P1 ++ [M1]) := ((hels2.alloc _).snoc hvl (by rw [m1]; exact (ownsRow_base ho2 hsA).alloc _)).kept (hrow2.alloc _) hg6
    have hrow6 : w6.ownsRow w0.heap.size 37 1 v6 (P1 ++ [M1]).length (vs ++ [.slice xa 32 xc]) := by rw [List.length_append]; exact ho6
    clear hrow hels hrow2 hels2 ho6 hg6 hk6 ho2 hb1' hb1 hb2 hbA
    go_wp2_with fail
    go_ret
    exact ⟨v6, rfl, ⟨_, hrow6, hel6⟩, hb6⟩
   ·have j1 : ¬ (i : Int) < (k : Int) := by omega
    rw [HR.out hik]
    clear HL HR c1 c2
    go_enter Tryz.func34, Tryz.ntmps34
    go_wp2_with fail
    refine hsp.mono ?_
    rintro e w0 ⟨rfl, rfl⟩
    go_wp2_with fail
    go_region_held3 (fun _ => True) (exact True.intro) (first | (go_at_call 34; refine (c3 _ (Below.refl _ _).drew hik).mono ?_; rintro e w1 ⟨x1, rfl, ⟨vs, hrow, hels⟩, hb1⟩; have hb1' := (Below.refl _ _).drew.trans hb1) | (go_at_call 35; refine (c4 _ hb1').mono ?_; rintro e w2 ⟨xa, xc, rfl, ho2, hb2⟩; have hrow2 := own_below hrow hb2 (Nat.le_refl _); have hels2 := hels.below hb2 (Nat.le_refl _); have hs1 := hb1.size; have hs2 := hb2.size) | (refine step_append_kept _ rfl (.tmp 32) (.tmp 37) 43 rfl w0.heap.size 37 i0 (.slice none 0 0) 24 Tryz.underlying43 hi0 hz0 hz1 hz2 rfl _ _ _ rfl (World.ownsRow.alloc (by exact hrow2) _) _ 1 1 [.slice xa 32 xc] rfl rfl (cell_one_new _ _ _) (by intro u hu; simp at hu; subst hu; rfl) (by unfold maxLen; omega) (by omega) (by simp at hs1 ⊢; omega) ?_; intro v6 w6 ho6 hg6 hk6))
    have hbA : Below w0.heap.size w0 w1 := hb1'
    have hsA := hbA.size
    have hb6 : Below w0.heap.size w0 w6 := ((hbA.trans (hb2.mono hsA)).alloc (by omega) _).grown hg6 (by simp; omega) (fun q h => own_block hrow2 h)
    have hvl : vs.length = P2.length := by simpa using hrow2.1
    have hel6 : OwnEls w6 w0.heap.size (vs ++ [.slice xa 32 xc]) (P2 ++ [M2]) := ((hels2.alloc _).snoc hvl (by rw [m2]; exact (ownsRow_base ho2 hsA).alloc _)).kept (hrow2.alloc _) hg6
    have hrow6 : w6.ownsRow w0.heap.size 37 1 v6 (P2 ++ [M2]).length (vs ++ [.slice xa 32 xc]) := by rw [List.length_append]; exact ho6
    clear hrow hels hrow2 hels2 ho6 hg6 hk6 ho2 hb1' hb1 hb2 hbA
    go_wp2_with fail
    go_ret
    exact ⟨v6, rfl, ⟨_, hrow6, hel6⟩, hb6⟩

end Go.Proofs.YtkjlchfmplcobaeGreatDoor
