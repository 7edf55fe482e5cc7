/- The walks of isSize, segmentsFor, countFrom and fits: package shelf as it landed. -/
import Derived.Test.YtbkkfchcdfhfgadDoorProg
import Derived.Test.YtbkkfchcdfhfgadDoorRunAI
import Derived.WalkKit
import Derived.WalkSpells
import Derived.WalkLawsBesides
import Derived.Deep.QuietTactic
import Derived.BigQuiet
namespace Go.Proofs.YtbkkfchcdfhfgadDoor
open Go.RowKit

def sizeB (n : Int) : Bool := decide (0 ≤ n ∧ n ≤ 100)
theorem sizeB_true {n : Int} (h0 : 0 ≤ n) (h1 : n ≤ 100) : sizeB n = true := decide_eq_true ⟨h0, h1⟩
theorem sizeB_false {n : Int} (h : ¬ (0 ≤ n ∧ n ≤ 100)) : sizeB n = false := decide_eq_false h
set_option maxRecDepth 100000 in
theorem isSize_any (n : Int) (w : World) : Calls Tryd.prog 35 #[.int .i64 n] w fun e w' => e = .returned (.bool (sizeB n)) ∧ w' = w := by
  by_cases h0 : 0 ≤ n
  · by_cases h1 : n ≤ 100
    · have e : sizeB n = true := sizeB_true h0 h1
      rw [e]
      clear e
      go_enter Tryd.func35, Tryd.ntmps35
      go_wp2
      go_ret
      exact ⟨rfl, rfl⟩
    · have e : sizeB n = false := sizeB_false (by omega)
      rw [e]
      clear e
      go_enter Tryd.func35, Tryd.ntmps35
      go_wp2
      go_ret
      exact ⟨rfl, rfl⟩
  · have e : sizeB n = false := sizeB_false (by omega)
    rw [e]
    clear e
    go_enter Tryd.func35, Tryd.ntmps35
    go_wp2
    go_ret
    exact ⟨rfl, rfl⟩
theorem ret_int' {k : IntKind} {a b : Int} (h : a = b) : Ending.returned (.int k a) = .returned (.int k b) := by rw [h]
set_option maxRecDepth 100000 in
theorem segmentsFor_any (n : Int) (w : World) (h0 : 0 ≤ n) (h1 : n ≤ 100) : Calls Tryd.prog 36 #[.int .i64 n] w fun e w' => e = .returned (.int .i64 ((n + 7) / 8)) ∧ w' = w := by
  go_enter Tryd.func36, Tryd.ntmps36
  go_wp2
  go_ret
  exact ⟨ret_int' (by omega), rfl⟩
set_option maxRecDepth 100000 in
theorem countFrom_any (f s : Int) (w : World) (h0 : 0 ≤ f) (h1 : f ≤ 1000) (h2 : 0 ≤ s) (h3 : s ≤ 1000) : Calls Tryd.prog 47 #[.int .i64 f, .int .i64 s] w fun e w' => e = .returned (.int .i64 (min 8 (s - f))) ∧ w' = w := by
  by_cases h : s - f < 8
  · rw [show min 8 (s - f) = s - f by omega]
    go_enter Tryd.func47, Tryd.ntmps47
    go_wp2
    go_ret
    exact ⟨rfl, rfl⟩
  · rw [show min 8 (s - f) = 8 by omega]
    go_enter Tryd.func47, Tryd.ntmps47
    go_wp2
    go_ret
    exact ⟨rfl, rfl⟩
set_option maxRecDepth 100000 in
set_option maxHeartbeats 2000000 in
theorem segFits_any (f c k size : Int) (pv : Value) (p : List Int) (w : World) (hk : 0 ≤ k) : Calls Tryd.prog 30 #[.agg #[.int .i64 f, .int .i64 c, pv], .int .i64 k, .int .i64 size] w fun e w' => e = .returned (.bool (fitB size k ⟨f, c, p⟩)) ∧ Below w.heap.size w w' := by
  have hS := isSize_any size
  have hb := box_new w #[.int .i64 f, .int .i64 c, pv] 55
  obtain ⟨x0, x1, x2, -, -, -⟩ := box_three hb
  have bW : Below w.heap.size w (w.alloc (.cells #[.int .i64 f, .int .i64 c, pv] 55)) := (Below.refl _ _).alloc (Nat.le_refl _) _
  clear hb
  by_cases h1 : 0 ≤ size ∧ size ≤ 100
  · rw [sizeB_true h1.1 h1.2] at hS
    by_cases h2 : k ≤ 100
    · by_cases h3 : f = k * 8
      · subst h3
        by_cases h4 : 1 ≤ c
        · have hC := fun W => countFrom_any (k * 8) size W (by omega) (by omega) h1.1 (by omega)
          by_cases h5 : c = min 8 (size - k * 8)
          · have e : fitB size k ⟨k * 8, c, p⟩ = true := fitB_iff.2 ⟨h1.1, h1.2, h2, rfl, h4, h5⟩
            have hC' : ∀ W, Calls Tryd.prog 47 #[.int .i64 (k * 8), .int .i64 size] W fun e w' => e = .returned (.int .i64 c) ∧ w' = W := fun W => by have := hC W; rwa [← h5] at this
            have hcc : (c == c) = true := by simp
            rw [e]
            clear e h5 hC
            go_enter Tryd.func30, Tryd.ntmps30
            go_wp2_with fail
            go_quiet ((first | (go_at_call 35; exact Calls.quiet_of_same (hS _)) | (go_at_call 47; exact Calls.quiet_of_same (hC' _))))
            go_wp2_with fail
            go_ret
            exact ⟨rfl, below_drewN' bW _⟩
          · have e : fitB size k ⟨k * 8, c, p⟩ = false := by rw [Bool.eq_false_iff]; intro h; exact h5 (fitB_iff.1 h).2.2.2.2.2
            obtain ⟨q, hq⟩ : ∃ q, q = min 8 (size - k * 8) := ⟨_, rfl⟩
            rw [← hq] at hC h5
            have h5' : (c == q) = false := by simpa using h5
            rw [e]
            clear e h5 hq
            go_enter Tryd.func30, Tryd.ntmps30
            go_wp2_with fail
            go_quiet ((first | (go_at_call 35; exact Calls.quiet_of_same (hS _)) | (go_at_call 47; exact Calls.quiet_of_same (hC _))))
            go_wp2_with fail
            go_ret
            exact ⟨rfl, below_drewN' bW _⟩
        · have e : fitB size k ⟨k * 8, c, p⟩ = false := by rw [Bool.eq_false_iff]; intro h; exact h4 (fitB_iff.1 h).2.2.2.2.1
          have h4' : decide (1 ≤ c) = false := decide_eq_false h4
          rw [e]
          clear e
          go_enter Tryd.func30, Tryd.ntmps30
          go_wp2_with fail
          go_quiet ((go_at_call 35; exact Calls.quiet_of_same (hS _)))
          go_wp2_with fail
          go_ret
          exact ⟨rfl, below_drewN' bW _⟩
      · have e : fitB size k ⟨f, c, p⟩ = false := by rw [Bool.eq_false_iff]; intro h; exact h3 (fitB_iff.1 h).2.2.2.1
        have h3' : (f == k * 8) = false := by simpa using h3
        rw [e]
        clear e h3
        go_enter Tryd.func30, Tryd.ntmps30
        go_wp2_with fail
        go_quiet ((go_at_call 35; exact Calls.quiet_of_same (hS _)))
        go_wp2_with fail
        go_ret
        exact ⟨rfl, below_drewN' bW _⟩
    · have e : fitB size k ⟨f, c, p⟩ = false := by rw [Bool.eq_false_iff]; intro h; exact h2 (fitB_iff.1 h).2.2.1
      have h2' : decide (k ≤ 100) = false := decide_eq_false h2
      rw [e]
      clear e
      go_enter Tryd.func30, Tryd.ntmps30
      go_wp2_with fail
      go_quiet ((go_at_call 35; exact Calls.quiet_of_same (hS _)))
      go_wp2_with fail
      go_ret
      exact ⟨rfl, below_drewN' bW _⟩
  · rw [sizeB_false h1] at hS
    have e : fitB size k ⟨f, c, p⟩ = false := by rw [Bool.eq_false_iff]; intro h; have := fitB_iff.1 h; exact h1 ⟨this.1, this.2.1⟩
    rw [e]
    clear e h1
    go_enter Tryd.func30, Tryd.ntmps30
    go_wp2_with fail
    go_quiet ((go_at_call 35; exact Calls.quiet_of_same (hS _)))
    go_wp2_with fail
    go_ret
    exact ⟨rfl, below_drewN' bW _⟩

end Go.Proofs.YtbkkfchcdfhfgadDoor
