/- The walk of yearref4.Same: two lists of tokens. -/
import Derived.Test.YtkjlchfmplcobacProg
import Derived.Test.YtkjlchfmplcobacPackFace
import Derived.Test.YtkjlchfmplcobacShaSame
import Derived.WalkKit
import Derived.WalkSpells
import Derived.WalkLawsBesides
import Derived.Deep.QuietTactic
import Derived.BigQuiet
namespace Go.Proofs.Ytkjlchfmplcobac
open Go.RowKit

set_option maxRecDepth 100000 in
set_option maxHeartbeats 400000 in
theorem toks_len (a1 a2 : Option Addr) (n1 n2 c1 c2 : Nat) (w : World) (h : n1 ≠ n2) :
    Calls Try.prog 8 #[.slice a1 n1 c1, .slice a2 n2 c2] w fun e w' => e = .returned (.bool false) ∧ w' = w := by
  have h' : ((n1 : Int) != (n2 : Int)) = true := by rw [bne_iff_ne]; omega
  go_enter Try.func8, Try.ntmps8
  go_wp2
  go_ret
  exact ⟨rfl, rfl⟩
set_option maxRecDepth 100000 in
set_option maxHeartbeats 400000 in
theorem toks_zero (a1 a2 : Option Addr) (c1 c2 : Nat) (w : World) :
    Calls Try.prog 8 #[.slice a1 0 c1, .slice a2 0 c2] w fun e w' => e = .returned (.bool true) ∧ w' = w := by
  go_enter Try.func8, Try.ntmps8
  go_wp2
  go_loop [13] (fun i => i = .int .i64 0) (fun _ => 0)
  case atStart => rfl
  case round =>
    subst hrel
    go_wp2
    go_ret
    exact ⟨rfl, rfl⟩
theorem toks_ext {l1 l2 : List Tok} {n : Nat} (h1 : l1.length = n) (h2 : l2.length = n) (h : ∀ j, j < n → l1.getD j tok0 = l2.getD j tok0) : l1 = l2 := by
  apply List.ext_getElem (by omega)
  intro j g1 g2
  have := h j (by omega)
  rw [List.getD_eq_getElem?_getD, List.getElem?_eq_getElem g1, List.getD_eq_getElem?_getD, List.getElem?_eq_getElem g2] at this
  exact this
set_option maxRecDepth 100000 in
set_option maxHeartbeats 1000000 in
theorem toks_eq (l1 l2 : List Tok) (n b1 o1 c1 b2 o2 c2 : Nat) (w : World) (hl1 : Hid (l1.length = n)) (hl2 : Hid (l2.length = n)) (hm : n ≤ maxLen)
    (h1 : ∀ j, j < n → w.cell? ⟨b1, o1 + j * 3, none⟩ = some (.int .i64 (l1.getD j tok0).len) ∧ w.cell? ⟨b1, o1 + j * 3 + 1, none⟩ = some (.int .i64 (l1.getD j tok0).back) ∧ w.cell? ⟨b1, o1 + j * 3 + 2, none⟩ = some (.int .u8 (l1.getD j tok0).byte))
    (h2 : ∀ j, j < n → w.cell? ⟨b2, o2 + j * 3, none⟩ = some (.int .i64 (l2.getD j tok0).len) ∧ w.cell? ⟨b2, o2 + j * 3 + 1, none⟩ = some (.int .i64 (l2.getD j tok0).back) ∧ w.cell? ⟨b2, o2 + j * 3 + 2, none⟩ = some (.int .u8 (l2.getD j tok0).byte)) :
    Calls Try.prog 8 #[.slice (some ⟨b1, o1, none⟩) n c1, .slice (some ⟨b2, o2, none⟩) n c2] w fun e w' => e = .returned (.bool (decide (l1 = l2))) ∧ ∃ n, w' = w.drewN n := by
  unfold maxLen at hm
  have h' : ((n : Int) != (n : Int)) = false := by simp
  go_enter Try.func8, Try.ntmps8
  go_wp2
  go_loopw [13] (fun i wr => ∃ k : Nat, k ≤ n ∧ i = .int .i64 k ∧ Hid (∀ j, j < k → l1.getD j tok0 = l2.getD j tok0) ∧ ∃ n, wr = w.drewN n) (fun i _ => n - (intOf i).toNat)
  case atStart => exact ⟨0, Nat.zero_le _, rfl, fun j hj => absurd hj (by omega), 0, rfl⟩
  case round =>
    obtain ⟨k, hk, rfl, HE, m, rfl⟩ := hrel
    by_cases hlt : k < n
    · obtain ⟨d1, d2, d3⟩ := h1 k hlt
      obtain ⟨e1, e2, e3⟩ := h2 k hlt
      clear h1 h2
      by_cases hx : l1.getD k tok0 = l2.getD k tok0
      · have HE2 : Hid (∀ j, j < k + 1 → l1.getD j tok0 = l2.getD j tok0) := fun j hj => by
          by_cases hjk : j = k
          · rw [hjk]; exact hx
          · exact HE.out j (by omega)
        rw [hx] at d1 d2 d3
        clear hx HE
        generalize l2.getD k tok0 = t at *
        obtain ⟨x, y, z⟩ := t
        dsimp only at d1 d2 d3 e1 e2 e3
        go_wp2
        go_quiet (fail)
        go_wp2
        go_roundw
        case rel => exact ⟨k + 1, by omega, by go_num, HE2, m + nq, rfl⟩
        case measure => simp [intOf]; omega
      · have HN : Hid (decide (l1 = l2) = false) := decide_eq_false (fun e => hx (by rw [e]))
        clear HE
        generalize l1.getD k tok0 = s at *
        generalize l2.getD k tok0 = t at *
        obtain ⟨x, y, z⟩ := s
        obtain ⟨x', y', z'⟩ := t
        dsimp only at d1 d2 d3 e1 e2 e3
        have hx' : x ≠ x' ∨ (x = x' ∧ y ≠ y') ∨ (x = x' ∧ y = y' ∧ z ≠ z') := by
          by_cases h1 : x = x'
          · by_cases h2 : y = y'
            · exact .inr (.inr ⟨h1, h2, fun h3 => hx (by rw [h1, h2, h3])⟩)
            · exact .inr (.inl ⟨h1, h2⟩)
          · exact .inl h1
        clear hx
        rcases hx' with h | ⟨rfl, h⟩ | ⟨rfl, rfl, h⟩
        · have hb : (x == x') = false := by simpa using h
          go_wp2
          go_quiet (fail)
          go_wp2
          go_ret
          exact ⟨by rw [HN.out]; rfl, m + nq, drewN_two _ _ _⟩
        · have hb : (y == y') = false := by simpa using h
          go_wp2
          go_quiet (fail)
          go_wp2
          go_ret
          exact ⟨by rw [HN.out]; rfl, m + nq, drewN_two _ _ _⟩
        · have hb : (z == z') = false := by simpa using h
          go_wp2
          go_quiet (fail)
          go_wp2
          go_ret
          exact ⟨by rw [HN.out]; rfl, m + nq, drewN_two _ _ _⟩
    · have HN : Hid (decide (l1 = l2) = true) := decide_eq_true (toks_ext hl1.out hl2.out (fun j hj => HE.out j (by omega)))
      clear h1 h2 HE
      go_wp2
      go_ret
      exact ⟨by rw [HN.out]; rfl, _, rfl⟩

theorem tokSame_any (l1 l2 : List Tok) (v1 v2 : Value) (w : World) (h1 : ToksAt w v1 l1) (h2 : ToksAt w v2 l2) :
    Calls Try.prog 8 #[v1, v2] w fun e w' => e = .returned (.bool (decide (l1 = l2))) ∧ ∃ n, w' = w.drewN n := by
  obtain ⟨a1, c1, rfl, r1, m1, k1⟩ := h1.form
  obtain ⟨a2, c2, rfl, r2, m2, k2⟩ := h2.form
  by_cases hl : l1.length = l2.length
  · rcases k1 with k1 | ⟨b1, o1, rfl, -, k1⟩
    · have e1 : l1 = [] := List.eq_nil_of_length_eq_zero k1
      have e2 : l2 = [] := List.eq_nil_of_length_eq_zero (by omega)
      subst e1 e2
      refine (toks_zero a1 a2 c1 c2 w).mono ?_
      rintro e w' ⟨rfl, rfl⟩
      exact ⟨rfl, 0, rfl⟩
    · rcases k2 with k2 | ⟨b2, o2, rfl, -, k2⟩
      · have e2 : l2 = [] := List.eq_nil_of_length_eq_zero k2
        have e1 : l1 = [] := List.eq_nil_of_length_eq_zero (by omega)
        subst e1 e2
        refine (toks_zero _ a2 c1 c2 w).mono ?_
        rintro e w' ⟨rfl, rfl⟩
        exact ⟨rfl, 0, rfl⟩
      · rw [← hl]
        exact toks_eq l1 l2 l1.length b1 o1 c1 b2 o2 c2 w rfl hl.symm (by omega) k1 (fun j hj => k2 j (by omega))
  · refine (toks_len a1 a2 _ _ c1 c2 w hl).mono ?_
    rintro e w' ⟨rfl, rfl⟩
    exact ⟨by rw [decide_eq_false (fun e => hl (by rw [e]))], 0, rfl⟩

end Go.Proofs.Ytkjlchfmplcobac
