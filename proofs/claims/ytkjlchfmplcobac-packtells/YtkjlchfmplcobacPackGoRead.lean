/- The walks of readPair and readToken: package pack as it landed. -/
import Derived.Test.YtkjlchfmplcobacProg
import Derived.Test.YtkjlchfmplcobacPackGoAlike
import Derived.Test.YtkjlchfmplcobacPackRead
import Derived.Lib.EndianBits
import Derived.WalkKit
import Derived.WalkSpells
import Derived.WalkLawsBesides
import Derived.Deep.QuietTactic
import Derived.BigQuiet
namespace Go.Proofs.Ytkjlchfmplcobac
open Go.RowKit

theorem pair_or {x y : Int} (hx0 : 0 ≤ x) (hx : x < 256) (hy0 : 0 ≤ y) (hy : y < 256) : bits .or .i64 (x * 256) y = 256 * x + y := by
  have h := bits_join .i64 16 (by decide) (fun n h0 h1 => by rw [IntKind.wrap_i64]; omega) 8 (x * 256) y (by omega) (by omega) (by omega) hy0 (by omega) (by omega)
  rw [h]; omega
set_option maxRecDepth 100000 in
set_option maxHeartbeats 2000000 in
theorem readPair_any (b : List Int) (hby : Bytes b) (g o a n c : Nat) (w : World) (hcell : ∀ j, j < b.length → w.cell? ⟨g, o + j, none⟩ = some (.int .u8 (b.getD j 0))) (hn : n = b.length - a) (h2 : a + 1 < b.length) :
    Calls Try.prog 26 #[.slice (some ⟨g, o + a, none⟩) n c] w fun e w' => e = .returned (.int .i64 (256 * b.getD a 0 + b.getD (a + 1) 0)) ∧ Below w.heap.size w w' := by
  have e1 := hcell a (by omega)
  have e2 := hcell (a + 1) h2
  rw [← Nat.add_assoc] at e2
  have hx := hby a
  have hy := hby (a + 1)
  have j1 : (0 : Int) < n := by omega
  have j2 : (1 : Int) < n := by omega
  have j1' : 0 < n := by omega
  have j2' : 1 < n := by omega
  generalize b.getD a 0 = x at *
  generalize b.getD (a + 1) 0 = y at *
  have HO : Hid (bits .or .i64 (x * 256) y = 256 * x + y) := pair_or hx.1 hx.2 hy.1 hy.2
  obtain ⟨hx0, hx1⟩ := hx
  obtain ⟨hy0, hy1⟩ := hy
  clear hcell hby hn
  go_enter Try.func26, Try.ntmps26
  go_wp2
  go_quiet (fail)
  go_wp2
  go_ret
  exact ⟨by rw [← HO.out]; rfl, below_drewN' (Below.refl _ _) nq⟩
theorem and_one : ∀ f : Fin 256, bits BinOp.and IntKind.u8 (f.val : Int) 1 = ((f.val % 2 : Nat) : Int) := by decide +kernel
/-- What is left of b, from a on. -/
def RestAt (v : Value) (b : List Int) (g o a : Nat) : Prop := ∃ A c, v = .slice A (b.length - a) c ∧ b.length - a ≤ c ∧ (A = some ⟨g, o + a, none⟩ ∨ b.length - a = 0)
def tokRes (b : List Int) (g o : Nat) (r : Option (Tok × Nat)) (v : Value) : Prop :=
  match r with
  | none => v = .tuple #[.agg #[.int .i64 0, .int .i64 0, .int .u8 0], .slice none 0 0, .bool false]
  | some (t, a2) => ∃ rv, v = .tuple #[tokV t, rv, .bool true] ∧ RestAt rv b g o a2
set_option maxRecDepth 100000 in
set_option maxHeartbeats 4000000 in
theorem readToken_any (b : List Int) (hby : Bytes b) (g o a f : Nat) (rv : Value) (w : World) (hg : b.length - a = 0 ∨ g < w.heap.size) (hcell : ∀ j, j < b.length → w.cell? ⟨g, o + j, none⟩ = some (.int .u8 (b.getD j 0))) (hr : RestAt rv b g o a) :
    Calls Try.prog 33 #[rv, .bool (decide (f % 2 ≠ 0))] w fun e w' => ∃ v, e = .returned v ∧ tokRes b g o (unTok b a f) v ∧ Below w.heap.size w w' := by
  obtain ⟨A, c, rfl, hrc, hA⟩ := hr
  have b0 : Below w.heap.size w (w.alloc (.cells #[.int .i64 0, .int .i64 0, .int .u8 0] 40)) := (Below.refl _ _).alloc (Nat.le_refl _) _
  have hx := box_new w #[.int .i64 0, .int .i64 0, .int .u8 0] 40
  obtain ⟨x0, x1, x2, fz0, fz1, fz2⟩ := box_three hx
  by_cases hf : f % 2 = 0
  · rw [show decide (f % 2 ≠ 0) = false from decide_eq_false (fun h => h hf)]
    by_cases ha : a < b.length
    · have hu : unTok b a f = some (⟨0, 0, b.getD a 0⟩, a + 1) := by rw [unTok, if_pos hf, if_pos ha]
      rw [hu]
      obtain rfl : A = some ⟨g, o + a, none⟩ := hA.resolve_right (by omega)
      have hg' := hg.resolve_left (by omega)
      have e1 := (b0.cell (p := ⟨g, o + a, none⟩) hg').trans (hcell a ha)
      generalize b.getD a 0 = y at *
      obtain ⟨n, hn⟩ : ∃ n, n = b.length - a := ⟨_, rfl⟩
      have HN : Hid (n = b.length - a) := hn
      have hnc : n ≤ c := by omega
      have j1 : (0 : Int) < n := by omega
      have j1' : 0 < n := by omega
      have j2 : (1 : Int) ≤ n := by omega
      have j3 : (1 : Int) ≤ c := by omega
      have hne : ¬ (n : Int) = 0 := by omega
      rw [← hn]
      clear hcell hby hg hu hrc hn hx b0 hA
      have bY : Below w.heap.size w (w.alloc (.cells #[.int .i64 0, .int .i64 0, .int .u8 y] 40)).drew := ((Below.refl _ _).alloc (Nat.le_refl _) _).drew
      by_cases hc : c = 1
      · subst hc
        obtain rfl : n = 1 := by omega
        have HR : Hid (RestAt (.slice (some ⟨g, o + a, none⟩) 0 0) b g o (a + 1)) := by
          have := HN.out
          exact ⟨_, 0, by rw [show b.length - (a + 1) = 0 by omega], by omega, .inr (by omega)⟩
        go_enter Try.func33, Try.ntmps33
        go_wp2
        go_region
        all_goals
          go_wp2
          exact bodyPost_ret (v := .tuple #[.agg #[.int .i64 0, .int .i64 0, .int .u8 y], .slice (some ⟨g, o + a, none⟩) 0 0, .bool true]) (by simp [results, Try.results33, go_sem]) rfl ⟨_, rfl, ⟨_, rfl, HR.out⟩, bY⟩
      · have HR : Hid (RestAt (.slice (some ⟨g, o + a + 1, none⟩) (n - 1) (c - 1)) b g o (a + 1)) := by
          have := HN.out
          exact ⟨some ⟨g, o + (a + 1), none⟩, c - 1, by rw [show b.length - (a + 1) = n - 1 by omega]; rfl, by omega, .inl rfl⟩
        go_enter Try.func33, Try.ntmps33
        go_wp2
        go_region
        all_goals
          go_wp2
          exact bodyPost_ret (v := .tuple #[.agg #[.int .i64 0, .int .i64 0, .int .u8 y], .slice (some ⟨g, o + a + 1, none⟩) (n - 1) (c - 1), .bool true]) (by simp [results, Try.results33, go_sem]) rfl ⟨_, rfl, ⟨_, rfl, HR.out⟩, bY⟩
    · have hu : unTok b a f = none := by rw [unTok, if_pos hf, if_neg ha]
      rw [hu]
      obtain ⟨n, hn⟩ : ∃ n, n = b.length - a := ⟨_, rfl⟩
      rw [← hn]
      obtain rfl : n = 0 := by omega
      clear hcell hby hg hu hrc hn hA
      go_enter Try.func33, Try.ntmps33
      go_wp2
      exact bodyPost_ret (v := .tuple #[.agg #[.int .i64 0, .int .i64 0, .int .u8 0], .slice none 0 0, .bool false]) (by simp [results, Try.results33, go_sem]) rfl ⟨_, rfl, rfl, b0⟩
  · rw [show decide (f % 2 ≠ 0) = true from decide_eq_true hf]
    by_cases ha : a + 1 < b.length
    · obtain ⟨X, hX⟩ : ∃ X : Nat, (X : Int) = 256 * b.getD a 0 + b.getD (a + 1) 0 := ⟨(256 * b.getD a 0 + b.getD (a + 1) 0).toNat, by have := hby a; have := hby (a + 1); omega⟩
      have hu : unTok b a f = some (⟨(X : Int) / 1024 + 3, (X : Int) % 1024 + 1, 0⟩, a + 2) := by rw [unTok, if_neg hf, if_pos ha, ← hX, Int.toNat_natCast, show ((X / 1024 + 3 : Nat) : Int) = (X : Int) / 1024 + 3 by omega, show ((X % 1024 + 1 : Nat) : Int) = (X : Int) % 1024 + 1 by omega]
      rw [hu]
      have hX6 : X < 65536 := by have := hby a; have := hby (a + 1); omega
      obtain rfl : A = some ⟨g, o + a, none⟩ := hA.resolve_right (by omega)
      have hg' := hg.resolve_left (by omega)
      have hP := readPair_any b hby g o a (b.length - a) c (w.alloc (.cells #[.int .i64 0, .int .i64 0, .int .u8 0] 40)) (fun j hj => (b0.cell (p := ⟨g, o + j, none⟩) hg').trans (hcell j hj)) rfl ha
      rw [← hX] at hP
      obtain ⟨n, hn⟩ : ∃ n, n = b.length - a := ⟨_, rfl⟩
      have HN : Hid (n = b.length - a) := hn
      have hnc : n ≤ c := by omega
      have j1 : ¬ (n : Int) < 2 := by omega
      have j2 : (2 : Int) ≤ n := by omega
      have j3 : (2 : Int) ≤ c := by omega
      rw [← hn]
      rw [← hn] at hP
      clear hcell hby hg hu hrc hn hX
      rcases (show (c = 2 ∧ n = 2) ∨ ¬ c = 2 by omega) with ⟨rfl, rfl⟩ | hc
      · have HR : Hid (RestAt (.slice (some ⟨g, o + a, none⟩) 0 0) b g o (a + 2)) := by
          have := HN.out
          exact ⟨_, 0, by rw [show b.length - (a + 2) = 0 by omega], by omega, .inr (by omega)⟩
        go_enter Try.func33, Try.ntmps33
        go_wp2_with fail
        refine hP.mono ?_
        rintro r w1 ⟨rfl, hb1⟩
        have hx1 := box_kept hx hb1
        have b1 := b0.trans (hb1.mono b0.size)
        obtain ⟨y0, y1, y2, gz0, gz1, gz2⟩ := box_three hx1
        obtain ⟨q0, q1, q2, -, -, -⟩ := box_three (box3_set (u' := .int .i64 ((X : Int) / 1024 + 3)) (v' := .int .i64 ((X : Int) % 1024 + 1)) (x' := .int .u8 0) hx1)
        have bY := (((b1.setCell (p := ⟨w.heap.size, 0, none⟩) (Nat.le_refl _) (.int .i64 ((X : Int) / 1024 + 3))).setCell (p := ⟨w.heap.size, 1, none⟩) (Nat.le_refl _) (.int .i64 ((X : Int) % 1024 + 1))).setCell (p := ⟨w.heap.size, 2, none⟩) (Nat.le_refl _) (.int .u8 0)).drew
        have z0 := World.cell?_setCell_same' w1 ⟨w.heap.size, 0, none⟩ (.int .i64 ((X : Int) / 1024 + 3)) (by rw [y0]; rfl)
        clear hP hb1 hx x0 x1 x2 fz0 fz1 fz2 hx1
        go_wp2_with fail
        go_region
        all_goals
          go_wp2_with fail
          exact bodyPost_ret (v := .tuple #[.agg #[.int .i64 ((X : Int) / 1024 + 3), .int .i64 ((X : Int) % 1024 + 1), .int .u8 0], .slice (some ⟨g, o + a, none⟩) 0 0, .bool true]) (by simp [results, Try.results33, go_sem, q0, q1, q2]) rfl ⟨_, rfl, ⟨_, rfl, HR.out⟩, bY⟩
      · have HR : Hid (RestAt (.slice (some ⟨g, o + a + 2, none⟩) (n - 2) (c - 2)) b g o (a + 2)) := by
          have := HN.out
          exact ⟨some ⟨g, o + (a + 2), none⟩, c - 2, by rw [show b.length - (a + 2) = n - 2 by omega]; rfl, by omega, .inl rfl⟩
        go_enter Try.func33, Try.ntmps33
        go_wp2_with fail
        refine hP.mono ?_
        rintro r w1 ⟨rfl, hb1⟩
        have hx1 := box_kept hx hb1
        have b1 := b0.trans (hb1.mono b0.size)
        obtain ⟨y0, y1, y2, gz0, gz1, gz2⟩ := box_three hx1
        obtain ⟨q0, q1, q2, -, -, -⟩ := box_three (box3_set (u' := .int .i64 ((X : Int) / 1024 + 3)) (v' := .int .i64 ((X : Int) % 1024 + 1)) (x' := .int .u8 0) hx1)
        have bY := (((b1.setCell (p := ⟨w.heap.size, 0, none⟩) (Nat.le_refl _) (.int .i64 ((X : Int) / 1024 + 3))).setCell (p := ⟨w.heap.size, 1, none⟩) (Nat.le_refl _) (.int .i64 ((X : Int) % 1024 + 1))).setCell (p := ⟨w.heap.size, 2, none⟩) (Nat.le_refl _) (.int .u8 0)).drew
        have z0 := World.cell?_setCell_same' w1 ⟨w.heap.size, 0, none⟩ (.int .i64 ((X : Int) / 1024 + 3)) (by rw [y0]; rfl)
        clear hP hb1 hx x0 x1 x2 fz0 fz1 fz2 hx1
        go_wp2_with fail
        go_region
        all_goals
          go_wp2_with fail
          exact bodyPost_ret (v := .tuple #[.agg #[.int .i64 ((X : Int) / 1024 + 3), .int .i64 ((X : Int) % 1024 + 1), .int .u8 0], .slice (some ⟨g, o + a + 2, none⟩) (n - 2) (c - 2), .bool true]) (by simp [results, Try.results33, go_sem, q0, q1, q2]) rfl ⟨_, rfl, ⟨_, rfl, HR.out⟩, bY⟩
    · have hu : unTok b a f = none := by rw [unTok, if_neg hf, if_neg ha]
      rw [hu]
      obtain ⟨n, hn⟩ : ∃ n, n = b.length - a := ⟨_, rfl⟩
      rw [← hn]
      have hn2 : (n : Int) < 2 := by omega
      clear hcell hby hg hu hrc hn hA
      go_enter Try.func33, Try.ntmps33
      go_wp2
      exact bodyPost_ret (v := .tuple #[.agg #[.int .i64 0, .int .i64 0, .int .u8 0], .slice none 0 0, .bool false]) (by simp [results, Try.results33, go_sem]) rfl ⟨_, rfl, rfl, b0⟩

end Go.Proofs.Ytkjlchfmplcobac
