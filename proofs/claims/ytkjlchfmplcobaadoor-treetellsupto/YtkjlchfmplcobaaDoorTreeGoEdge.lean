/- The walks of isFormed, bytes.Clone, copies, Top and Push. -/
import Derived.Test.YtkjlchfmplcobaaDoorProg
import Derived.Test.YtkjlchfmplcobaaDoorRunAB
import Derived.Test.YtkjlchfmplcobaaDoorTreeGoOnes
import Derived.Test.YtkjlchfmplcobaaDoorTreeGoSmall
import Derived.WalkKit
import Derived.WalkSpells
import Derived.WalkLawsBesides
import Derived.Deep.QuietTactic
import Derived.BigQuiet
import Derived.Lib.Walk
import Derived.Deep.RegionHeld3
import Derived.BigRegion
namespace Go.Proofs.YtkjlchfmplcobaaDoor
open Go.RowKit

theorem below_drewN {B : Nat} {a w : World} (h : Below B a w) (n : Nat) : Below B a (w.drewN n) := ⟨h.os, h.tape, h.output, h.size, h.block⟩
theorem right_size {size most : Int} {ps : List (List Int)} (h : ¬ (0 ≤ size ∧ size ≤ most)) : rightL size most ps = false := by
  unfold rightL
  by_cases h1 : 0 ≤ size
  · rw [decide_eq_false (p := size ≤ most) (fun h2 => h ⟨h1, h2⟩), Bool.and_false, Bool.false_and, Bool.false_and]
  · rw [decide_eq_false h1, Bool.false_and, Bool.false_and, Bool.false_and]
theorem right_many {size most : Int} {ps : List (List Int)} (h : ps.length ≠ onesN size.toNat) : rightL size most ps = false := by
  unfold rightL; rw [decide_eq_false (p := ps.length = _) h, Bool.and_false, Bool.false_and]
theorem right_good {size most : Int} {ps : List (List Int)} (h1 : 0 ≤ size) (h2 : size ≤ most) (h : ps.length = onesN size.toNat) : rightL size most ps = goodL ps := by
  unfold rightL; rw [decide_eq_true h1, decide_eq_true h2, decide_eq_true h, Bool.true_and, Bool.true_and, Bool.true_and]
set_option maxRecDepth 100000 in
set_option maxHeartbeats 1000000 in
theorem isFormed_any (size : Int) (ps : List (List Int)) (a : Option Addr) (n c : Nat) (w : World) (hL : Lists w a n c ps) :
    Calls Tryd.prog 43 #[.agg #[.int .i64 size, .slice a n c]] w fun e w' => e = .returned (.bool (rightL size 100 ps)) ∧ Below w.heap.size w w' := by
  have hnn : n ≤ 9223372036854775807 := by have := hL.room; have := hL.cap; unfold maxLen at this; omega
  have hln := hL.len
  have bW : Below w.heap.size w (w.alloc (.cells #[.int .i64 size, .slice a n c] 34)) := (Below.refl _ _).alloc (Nat.le_refl _) _
  have hA : ∀ w1, Below w.heap.size w w1 → _ := fun w1 h => areDigests_any ps (.slice a n c) w1 (hL.below h).at' (by have := hL.room; have := hL.cap; rw [hL.len]; omega) hL.short
  by_cases h0 : 0 ≤ size
  case neg =>
    rw [right_size (fun h => h0 h.1)]
    have g0 : decide (0 ≤ size) = false := decide_eq_false h0
    clear hA hL
    go_enter Tryd.func43, Tryd.ntmps43
    go_wp2_with fail
    go_quiet ((fail))
    go_wp2_with fail
    go_ret
    exact ⟨rfl, below_drewN bW _⟩
  have g0 : decide (0 ≤ size) = true := decide_eq_true h0
  by_cases h1 : size ≤ 100
  case neg =>
    rw [right_size (fun h => h1 h.2)]
    have g1 : decide (size ≤ 100) = false := decide_eq_false h1
    clear hA hL
    go_enter Tryd.func43, Tryd.ntmps43
    go_wp2_with fail
    go_quiet ((fail))
    go_wp2_with fail
    go_ret
    exact ⟨rfl, below_drewN bW _⟩
  have g1 : decide (size ≤ 100) = true := decide_eq_true h1
  have hO : ∀ w', _ := fun w' => ones_any size w' h0 h1
  by_cases h2 : n = onesN size.toNat
  case neg =>
    rw [right_many (by rw [hln]; exact h2)]
    have g2 : ((n : Int) == (onesN size.toNat : Int)) = false := by rw [beq_eq_false_iff_ne]; omega
    clear hA hL hln
    generalize onesN size.toNat = k at *
    go_enter Tryd.func43, Tryd.ntmps43
    go_wp2_with fail
    go_quiet ((go_at_call 64; exact Calls.quiet_of_same (hO _)))
    go_wp2_with fail
    go_ret
    exact ⟨rfl, below_drewN bW _⟩
  rw [right_good h0 h1 (by rw [hln]; exact h2)]
  rw [← h2] at hO
  clear hL hln h2
  go_enter Tryd.func43, Tryd.ntmps43
  go_wp2_with fail
  go_quiet ((first | (go_at_call 64; exact Calls.quiet_of_same (hO _)) | (go_at_call 65; exact Calls.quiet_of_same (hA _ (below_drewN bW _)))))
  go_wp2_with fail
  go_ret
  exact ⟨rfl, below_drewN bW _⟩

set_option maxRecDepth 100000 in
theorem clone_any (d : List Int) (b off c : Nat) (w : World) (hv : BytesAt w (.slice (some ⟨b, off, none⟩) 32 c) d) (hd : d.length = 32) :
    Calls Tryd.prog 46 #[.slice (some ⟨b, off, none⟩) 32 c] w fun e w' => ∃ x, e = .returned x ∧ w'.ownsRow w.heap.size 5 1 x 32 (d.map (Value.int .u8)) ∧ Below w.heap.size w w' := by
  obtain ⟨i0, hi, hz0, hz1, hz2⟩ := info_parts Tryd.info5b
  have hbb : Below w.heap.size w (w.alloc (.cells #[] 5)) := (Below.refl _ _).alloc (Nat.le_refl _) _
  have qs : ∀ (W : World) (ad : Addr) (n c : Nat), (binOp .eql 22 (.slice (some ad) n c) (.slice none 0 0)).run Tryd.prog W = .ok (.bool false) W := fun W ad n c => Lib.run_eql_slice_nil W _ _ (some ad) n c 0 0 Tryd.underlying22
  go_enter Tryd.func46, Tryd.ntmps46
  go_wp2_with (at_builtin; refine wpList_append_bytes rfl (.tmp 5) (.tmp 6) 22 rfl w.heap.size 5 i0 (.int .u8 0) Tryd.underlying22 hi hz0 hz1 hz2 rfl _ 0 [] rfl (World.ownsRow_lit w #[] 0 (Nat.le_refl _) (by unfold maxLen; omega) rfl) (some ⟨b, off, none⟩) _ c d rfl (hv.below (Nat.le_refl _) hbb) (by unfold maxLen; omega) (by omega) (by simp) ?_; intro x w2 ho hg)
  go_ret
  refine ⟨x, rfl, ?_, hbb.grown hg (by simp) (fun q h => Nat.le_of_eq (Option.some.inj h))⟩
  rw [hd] at ho
  simpa using ho

theorem onesN_pos {n : Nat} (h : n ≠ 0) : onesN n ≠ 0 := by
  induction n using Nat.strongRecOn with
  | ind n ih =>
    rw [onesN_more h]
    by_cases h2 : n % 2 = 1
    · omega
    · have := ih (n / 2) (by omega) (by omega)
      omega
theorem right_parts {size : Int} {most : Int} {ps : List (List Int)} (h : rightL size most ps = true) : 0 ≤ size ∧ size ≤ most ∧ ps.length = onesN size.toNat ∧ goodL ps = true := by
  unfold rightL at h
  simp only [Bool.and_eq_true, decide_eq_true_eq] at h
  exact ⟨h.1.1.1, h.1.1.2, h.1.2, h.2⟩
/-- One of a list's digests, as a walk meets it. -/
theorem part_at {w : World} {a : Option Addr} {n c k : Nat} {ps : List (List Int)} (hv : PartsAt w (.slice a n c) ps) (hl : ps.length = n) (hk : k < n) (h32 : (ps.getD k []).length = 32) :
    ∃ b off b2 o2 c2, a = some ⟨b, off, none⟩ ∧ w.cell? ⟨b, off + k, none⟩ = some (.slice (some ⟨b2, o2, none⟩) 32 c2) ∧ BytesAt w (.slice (some ⟨b2, o2, none⟩) 32 c2) (ps.getD k []) := by
  obtain ⟨a0, c0, e0, hcell⟩ := hv.form
  rw [hl] at e0 hcell
  cases e0
  obtain ⟨b, off, rfl, -, hcl⟩ := hcell.resolve_left (by omega)
  obtain ⟨pa, pc, hcj, hB⟩ := hcl k hk
  obtain ⟨b2, o2, c2, e2⟩ := hB.some (by omega)
  rw [h32] at e2 hcj hB
  cases e2
  exact ⟨b, off, b2, o2, _, rfl, hcj, hB⟩
set_option maxRecDepth 100000 in
set_option maxHeartbeats 2000000 in
theorem topC_holds : TopC := by
  intro size ps a n c w hr hL
  have hnn : n ≤ 9223372036854775807 := by have := hL.room; have := hL.cap; unfold maxLen at this; omega
  have bW : Below w.heap.size w (w.alloc (.cells #[.int .i64 size, .slice a n c] 34)) := (Below.refl _ _).alloc (Nat.le_refl _) _
  have hF := isFormed_any size ps a n c _ (hL.below bW)
  have hb0 := box_new w #[.int .i64 size, .slice a n c] 34
  by_cases hR : rightL size 100 ps = true
  case neg =>
    rw [if_neg hR, if_neg hR]
    simp only [Bool.not_eq_true] at hR
    rw [hR] at hF
    clear hR
    go_enter Tryd.func23, Tryd.ntmps23
    go_wp2_with fail
    refine hF.mono ?_
    rintro e w1 ⟨rfl, hb1⟩
    have b1 := bW.trans (hb1.mono bW.size)
    go_wp2_with fail
    go_ret2
    exact ⟨_, rfl, bytesAt_nil _, b1⟩
  rw [if_pos hR, if_pos hR]
  rw [hR] at hF
  obtain ⟨h0, h1, hcount, hg⟩ := right_parts hR
  have hln := hL.len
  clear hR
  by_cases hz : size = 0
  · subst hz
    rw [show (0 : Int).toNat = 0 from rfl, onesN_zero] at hcount
    obtain rfl : ps = [] := List.eq_nil_of_length_eq_zero hcount
    rw [topL_nil]
    have hS : ∀ w', Below w.heap.size w w' → _ := fun w' h => sum_any [] (.slice none 0 0) w' (bytesAt_nil w') (by simp) nil_bytes (hr.below h).tab (hr.below h).big
    clear hcount hg hln
    go_enter Tryd.func23, Tryd.ntmps23
    go_wp2_with fail
    refine hF.mono ?_
    rintro e w1 ⟨rfl, hb1⟩
    have b1 := bW.trans (hb1.mono bW.size)
    obtain ⟨z0, z1, -, -⟩ := box_two (box_kept hb0 hb1)
    go_wp2_with fail
    refine (hS _ b1).mono ?_
    rintro e w2 ⟨g, rfl, ho, hb2⟩
    have b2 := b1.trans (hb2.mono b1.size)
    go_wp2_with fail
    go_ret2
    exact ⟨_, rfl, bytesAt_own ho, b2⟩
  · have hpos : 1 ≤ n := by have := onesN_pos (n := size.toNat) (by omega); omega
    have i0 : (size == 0) = false := by rw [beq_eq_false_iff_ne]; exact hz
    have hg32 := goodL_get hg
    rw [hln] at hg32
    have HTL : Hid (topL (ps.drop (n - 1)) = ps.getD (n - 1) []) := top_last ps n hln (by omega)
    have HLN : Hid (ps.length = n) := hln
    have hbz := hL.bytes
    clear hcount hg hz hln
    go_enter Tryd.func23, Tryd.ntmps23
    go_wp2_with fail
    refine hF.mono ?_
    rintro e w1 ⟨rfl, hb1⟩
    have b1 := bW.trans (hb1.mono bW.size)
    have o1 := box_kept hb0 hb1
    obtain ⟨z0, z1, -, -⟩ := box_two o1
    have hv1 := (hL.below b1).at'
    obtain ⟨b, off, b2, o2, c2, rfl, hcj, hB⟩ := part_at (k := n - 1) hv1 HLN.out (by omega) (hg32 _ (by omega))
    have hC := clone_any _ b2 o2 c2 w1 hB (hg32 _ (by omega))
    rw [← HTL.out] at hC
    have t1 : ((n : Int) - 1).toNat = n - 1 := by omega
    have j1 : 0 ≤ (n : Int) - 1 := by omega
    have j2 : (n : Int) - 1 < (n : Int) := by omega
    clear hF hb1 hb0 bW hB HTL
    go_wp2_with fail
    refine hC.mono ?_
    rintro e w2 ⟨x, rfl, ho, hb2⟩
    clear hC hcj
    go_wp2_with fail
    go_loopw [5, 6] (fun t i wr => ∃ k : Nat, k < n ∧ i = .int .i64 ((k : Int) - 1) ∧ (∃ ta tc, t = .slice ta 32 tc ∧ BytesAt wr (.slice ta 32 tc) (topL (ps.drop k))) ∧ Below w1.heap.size w1 wr) (fun _ i _ => (intOf i + 1).toNat)
    case atStart =>
      obtain ⟨xa, xc, rfl⟩ := own_form' ho
      exact ⟨n - 1, by omega, by go_num, ⟨xa, xc, rfl, bytesAt_own ho⟩, hb2⟩
    case round =>
      obtain ⟨k, hk, rfl, ⟨ta, tc, rfl, hT⟩, hb⟩ := hrel
      have br := b1.trans (hb.mono b1.size)
      obtain ⟨y0, y1, -, -⟩ := box_two (box_kept o1 hb)
      obtain ⟨hf1, hf2⟩ := drop_fit hbz (fun j hj => hg32 j (by rw [← HLN.out]; exact hj)) k
      clear ho hb2 z0 z1
      by_cases hk0 : k = 0
      · subst hk0
        rw [List.drop_zero] at hT
        go_wp2_with fail
        go_ret2
        exact ⟨_, rfl, hT, br⟩
      · obtain ⟨b', off', b3, o3, c3, e, hcj, hB⟩ := part_at (k := k - 1) (hL.below br).at' HLN.out (by omega) (hg32 _ (by omega))
        cases e
        have h32 := hg32 (k - 1) (by omega)
        have HT : Hid (topL (ps.drop (k - 1)) = nodeL (ps.getD (k - 1) []) (topL (ps.drop k))) := by
          have := top_step ps (k - 1) (by have := HLN.out; omega)
          rw [show k - 1 + 1 = k by omega] at this
          exact this
        have hN := nodeC_holds _ _ _ _ wr (hr.below br) ⟨hB, hbz _, by rw [h32]; unfold maxLen; omega⟩ ⟨hT, hf1, by rw [hf2]; unfold maxLen; omega⟩ (by rw [h32, hf2]; omega)
        have i1 : 0 ≤ (k : Int) - 1 := by omega
        have i2 : (k : Int) - 1 < (n : Int) := by omega
        have i3 : ((k : Int) - 1).toNat = k - 1 := by omega
        clear hT hB
        go_wp2_with fail
        refine hN.mono ?_
        rintro e w3 ⟨x3, rfl, ho3, hb3⟩
        have b3' := hb.trans (hb3.mono hb.size)
        obtain ⟨xa, xc, rfl⟩ := own_form' ho3
        clear hN hcj
        go_wp2_with fail
        go_roundw
        case rel => exact ⟨k - 1, by omega, by go_num, ⟨xa, xc, rfl, by rw [HT.out]; exact bytesAt_own ho3⟩, b3'⟩
        case measure => simp [intOf]; omega

end Go.Proofs.YtkjlchfmplcobaaDoor
