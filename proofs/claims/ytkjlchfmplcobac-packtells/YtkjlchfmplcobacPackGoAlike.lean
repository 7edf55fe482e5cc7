/- The walks of package pack's small functions: width, alike, longest, tokenAt. -/
import Derived.Test.YtkjlchfmplcobacProg
import Derived.Test.YtkjlchfmplcobacPackTake
import Derived.Test.YtkjlchfmplcobacPackLong
import Derived.WalkKit
import Derived.Deep.AppendLies
import Derived.WalkSpells
import Derived.WalkLawsBesides
import Derived.Deep.QuietTactic
import Derived.BigQuiet
namespace Go.Proofs.Ytkjlchfmplcobac
open Go.RowKit

@[reducible] def tokV (t : Tok) : Value := .agg #[.int .i64 t.len, .int .i64 t.back, .int .u8 t.byte]
def widI (t : Tok) : Int := if t.len = 0 then 1 else t.len
set_option maxRecDepth 100000 in
set_option maxHeartbeats 1000000 in
theorem width_any (x y z : Int) (w : World) :
    Calls Try.prog 18 #[.agg #[.int .i64 x, .int .i64 y, .int .u8 z]] w fun e w' => e = .returned (.int .i64 (widI ⟨x, y, z⟩)) ∧ Below w.heap.size w w' := by
  obtain ⟨x0, x1, x2, -, -, -⟩ := box_three (box_new w #[.int .i64 x, .int .i64 y, .int .u8 z] 40)
  have bW : Below w.heap.size w (w.alloc (.cells #[.int .i64 x, .int .i64 y, .int .u8 z] 40)) := (Below.refl _ _).alloc (Nat.le_refl _) _
  by_cases hx : x = 0
  · subst hx
    go_enter Try.func18, Try.ntmps18
    go_wp2_with fail
    go_ret
    exact ⟨rfl, bW⟩
  · have hx' : (x == 0) = false := by simpa using hx
    have hw : widI ⟨x, y, z⟩ = x := by unfold widI; rw [if_neg hx]
    rw [hw]
    clear hw
    go_enter Try.func18, Try.ntmps18
    go_wp2_with fail
    go_ret
    exact ⟨rfl, bW⟩
set_option maxRecDepth 100000 in
set_option maxHeartbeats 4000000 in
theorem alike_any (b : List Int) (g o bc a f : Nat) (w : World) (hg : g < w.heap.size) (hcell : ∀ j, j < b.length → w.cell? ⟨g, o + j, none⟩ = some (.int .u8 (b.getD j 0))) (hbl : b.length ≤ 4000) (ha : a < b.length) (hf1 : 1 ≤ f) (hfa : f ≤ a) :
    Calls Try.prog 34 #[.slice (some ⟨g, o, none⟩) b.length bc, .int .i64 a, .int .i64 f] w fun e w' => e = .returned (.int .i64 (matchN b (a - f) a)) ∧ Below w.heap.size w w' := by
  obtain ⟨M, hM⟩ : ∃ M : Nat, M = min (b.length - a) 66 := ⟨_, rfl⟩
  obtain ⟨p, hp⟩ : ∃ p : Nat, p = a - f := ⟨_, rfl⟩
  rw [← hp]
  have hpi : (p : Int) = a - f := by omega
  have hpa : p < a := by omega
  have HP : Hid ((p : Int) = a - f) := hpi
  clear hp hpi
  rcases (show (66 : Int) < (b.length : Int) - a ∨ ¬ (66 : Int) < (b.length : Int) - a by omega) with h66 | h66
  all_goals
    go_enter Try.func34, Try.ntmps34
    go_wp2_with fail
    go_loopw [8] (fun nv wi => ∃ k : Nat, k ≤ M ∧ nv = .int .i64 k ∧ Hid (∀ j, j < k → b.getD (p + j) 0 = b.getD (a + j) 0) ∧ Below w.heap.size w wi) (fun nv _ => M - (intOf nv).toNat)
    case atStart => exact ⟨0, Nat.zero_le _, rfl, fun j hj => absurd hj (Nat.not_lt_zero _), Below.refl _ _⟩
    case round =>
      obtain ⟨wi, rfl⟩ : ∃ x, x = wr := ⟨wr, rfl⟩
      obtain ⟨k, hkM, rfl, HK, hbi⟩ := hrel
      have w1 : IntKind.i64.wrap ((a : Int) + k) = (a : Int) + k := by rw [IntKind.wrap_i64]; omega
      have w2 : IntKind.i64.wrap ((a : Int) + k - f) = (p : Int) + k := by have := HP.out; rw [IntKind.wrap_i64]; omega
      by_cases c1 : k < M
      · have e1 := (hbi.cell (p := ⟨g, o + (p + k), none⟩) hg).trans (hcell (p + k) (by omega))
        have e2 := (hbi.cell (p := ⟨g, o + (a + k), none⟩) hg).trans (hcell (a + k) (by omega))
        rw [show o + (p + k) = o + ((p : Int) + k).toNat by omega] at e1
        rw [show o + (a + k) = o + ((a : Int) + k).toNat by omega] at e2
        have j0 : (a : Int) + k < b.length := by omega
        have j1 : (p : Int) + k < b.length := by omega
        have j2 : (k : Int) < 66 := by omega
        have j2' : (k : Int) < (b.length : Int) - a := by omega
        have j3 : 0 ≤ (p : Int) + k := by omega
        have j4 : 0 ≤ (a : Int) + k := by omega
        by_cases c3 : b.getD (p + k) 0 = b.getD (a + k) 0
        · have HK2 : Hid (∀ j, j < k + 1 → b.getD (p + j) 0 = b.getD (a + j) 0) := fun j hj => by
            by_cases hjk : j = k
            · rw [hjk]; exact c3
            · exact HK.out j (by omega)
          rw [c3] at e1
          clear c3 HK hcell
          generalize b.getD (a + k) 0 = y at *
          go_wp2
          go_quiet (fail)
          go_wp2
          exact ⟨⟨k + 1, by omega, by go_num, HK2, below_drewN' hbi nq⟩, by simp [intOf]; omega⟩
        · have d3 : (b.getD (p + k) 0 == b.getD (a + k) 0) = false := by simpa using c3
          have HC3 : Hid (matchN b p a = k) := match_end (by omega) HK.out (by omega) (by omega) (.inr (.inr c3))
          clear c3 HK
          obtain ⟨y1, Hy1⟩ : ∃ y, Hid (b.getD (p + k) 0 = y) := ⟨_, rfl⟩
          obtain ⟨y2, Hy2⟩ : ∃ y, Hid (b.getD (a + k) 0 = y) := ⟨_, rfl⟩
          rw [Hy1.out] at d3 e1
          rw [Hy2.out] at d3 e2
          have d4 : decide (y1 = y2) = false := decide_eq_false (by simpa using d3)
          clear hcell
          go_wp2
          go_quiet (fail)
          go_wp2
          go_ret
          exact ⟨by rw [HC3.out]; rfl, below_drewN' hbi nq⟩
      · have HC3 : Hid (matchN b p a = k) := match_end (by omega) HK.out (by omega) (by omega) (by omega)
        have hd : ((66 : Int) < (b.length : Int) - a → decide ((k : Int) < 66) = false) ∧ (¬ (66 : Int) < (b.length : Int) - a → decide ((k : Int) < (b.length : Int) - a) = false) := ⟨fun _ => decide_eq_false (by omega), fun _ => decide_eq_false (by omega)⟩
        clear HK hcell
        have d2 := hd
        first
          | replace d2 := hd.1 h66
          | replace d2 := hd.2 (by omega)
        clear hd
        go_wp2
        go_quiet (fail)
        go_wp2
        go_ret
        exact ⟨by rw [HC3.out]; rfl, below_drewN' hbi nq⟩

end Go.Proofs.Ytkjlchfmplcobac
