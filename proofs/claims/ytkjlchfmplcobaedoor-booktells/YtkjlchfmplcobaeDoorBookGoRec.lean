/- The walks of inRange, Wrong, putTime and timeOf: package book as it landed. -/
import Derived.Test.YtkjlchfmplcobaeDoorProg
import Derived.Test.YtkjlchfmplcobaeDoorRunAD
import Derived.WalkKit
import Derived.WalkSpells
import Derived.WalkLawsBesides
namespace Go.Proofs.YtkjlchfmplcobaeDoor
open Go.RowKit

/-- Whether each number of a record is one that it may have. -/
def inR (r : Rec) : Bool := decide (¬ (r.shard < 0 ∨ 7 < r.shard ∨ r.from' < 0 ∨ r.to' ≤ r.from' ∨ 1000000 < r.to' ∨ r.size < 0 ∨ 100 < r.size))
set_option maxRecDepth 100000 in
set_option maxHeartbeats 2000000 in
theorem inRange_any (r : Rec) (v : Value) (w : World) (h : RecV w v r) :
    Calls Tryd.prog 36 #[v] w fun e w' => e = .returned (.bool (inR r)) ∧ Below w.heap.size w w' := by
  obtain ⟨ra, rc, rfl, hr⟩ := h
  obtain ⟨s, f, t, z, root⟩ := r
  dsimp only at hr ⊢
  have b0 : Below w.heap.size w (w.alloc (.cells #[.int .i64 s, .int .i64 f, .int .i64 t, .int .i64 z, .slice ra root.length rc] 40)) := (Below.refl _ _).alloc (Nat.le_refl _) _
  obtain ⟨x0, x1, x2, x3, x4⟩ := box_five (box_new w #[.int .i64 s, .int .i64 f, .int .i64 t, .int .i64 z, .slice ra root.length rc] 40)
  by_cases hw : s < 0 ∨ 7 < s ∨ f < 0 ∨ t ≤ f ∨ 1000000 < t ∨ z < 0 ∨ 100 < z
  · have HE : Hid (inR ⟨s, f, t, z, root⟩ = false) := by show _ = _; unfold inR; exact decide_eq_false (fun h => h hw)
    have hc : ¬ 0 ≤ s ∨ (0 ≤ s ∧ ¬ s < 8) ∨ (0 ≤ s ∧ s < 8 ∧ ¬ 0 ≤ f) ∨ (0 ≤ s ∧ s < 8 ∧ 0 ≤ f ∧ ¬ f < t) ∨ (0 ≤ s ∧ s < 8 ∧ 0 ≤ f ∧ f < t ∧ ¬ t ≤ 1000000) ∨ (0 ≤ s ∧ s < 8 ∧ 0 ≤ f ∧ f < t ∧ t ≤ 1000000 ∧ ¬ 0 ≤ z) ∨ (0 ≤ s ∧ s < 8 ∧ 0 ≤ f ∧ f < t ∧ t ≤ 1000000 ∧ 0 ≤ z ∧ ¬ z ≤ 100) := by omega
    clear hw hr
    generalize root.length = n at *
    rcases hc with q1 | ⟨q1, q2⟩ | ⟨q1, q2, q3⟩ | ⟨q1, q2, q3, q4⟩ | ⟨q1, q2, q3, q4, q5⟩ | ⟨q1, q2, q3, q4, q5, q6⟩ | ⟨q1, q2, q3, q4, q5, q6, q7⟩
    all_goals
      go_enter Tryd.func36, Tryd.ntmps36
      go_wp2_with fail
      go_ret
      exact ⟨by rw [HE.out]; rfl, b0⟩
  · have HE : Hid (inR ⟨s, f, t, z, root⟩ = true) := by show _ = _; unfold inR; exact decide_eq_true hw
    have q1 : 0 ≤ s := by omega
    have q2 : s < 8 := by omega
    have q3 : 0 ≤ f := by omega
    have q4 : f < t := by omega
    have q5 : t ≤ 1000000 := by omega
    have q6 : 0 ≤ z := by omega
    have q7 : z ≤ 100 := by omega
    clear hw hr
    generalize root.length = n at *
    go_enter Tryd.func36, Tryd.ntmps36
    go_wp2_with fail
    go_ret
    exact ⟨by rw [HE.out]; rfl, b0⟩
theorem wrong_inR (r : Rec) : wrongRec r = if inR r = true then (if r.root.length ≠ 32 then 2 else 0) else 3 := by
  unfold wrongRec inR
  by_cases h : r.shard < 0 ∨ 7 < r.shard ∨ r.from' < 0 ∨ r.to' ≤ r.from' ∨ 1000000 < r.to' ∨ r.size < 0 ∨ 100 < r.size
  · rw [if_pos h, decide_eq_false (fun g => g h), if_neg (by decide)]
  · rw [if_neg h, decide_eq_true h, if_pos rfl]
set_option maxRecDepth 100000 in
set_option maxHeartbeats 2000000 in
theorem recWrongC_holds : RecWrongC := fun r v w h => by
  have cI := fun w' (hb : Below w.heap.size w w') => inRange_any r v w' (h.below hb)
  have HW : Hid (wrongRec r = if inR r = true then (if r.root.length ≠ 32 then 2 else 0) else 3) := wrong_inR r
  obtain ⟨ra, rc, rfl, hr⟩ := h
  have hsh := hr.short
  unfold maxLen at hsh
  have b0 : Below w.heap.size w (w.alloc (.cells #[.int .i64 r.shard, .int .i64 r.from', .int .i64 r.to', .int .i64 r.size, .slice ra r.root.length rc] 40)) := (Below.refl _ _).alloc (Nat.le_refl _) _
  have x0 := box_new w #[.int .i64 r.shard, .int .i64 r.from', .int .i64 r.to', .int .i64 r.size, .slice ra r.root.length rc] 40
  have cI0 := cI _ b0
  clear cI hr
  generalize wrongRec r = er at *
  generalize inR r = ok at *
  generalize r.root.length = n at *
  generalize r.shard = s at *
  generalize r.from' = f at *
  generalize r.to' = t at *
  generalize r.size = z at *
  obtain ⟨s0, s1, s2, s3, s4⟩ := box_five x0
  go_enter Tryd.func11, Tryd.ntmps11
  go_wp2_with fail
  generalize w.alloc (.cells #[.int .i64 s, .int .i64 f, .int .i64 t, .int .i64 z, .slice ra n rc] 40) = w0 at *
  refine cI0.mono ?_
  rintro e w1 ⟨rfl, hb1⟩
  have b1 := b0.trans (hb1.mono b0.size)
  obtain ⟨u0, u1, u2, u3, u4⟩ := box_five (box_kept x0 hb1)
  clear s0 s1 s2 s3 s4 cI0
  cases ok
  · go_wp2_with fail
    go_ret
    exact ⟨by rw [HW.out]; rfl, b1⟩
  · by_cases h32 : n = 32
    · subst h32
      go_wp2_with fail
      go_ret
      exact ⟨by rw [HW.out]; rfl, b1⟩
    · have h32' : ((n : Int) != 32) = true := by simp; omega
      have HN : Hid (n ≠ 32) := h32
      clear h32
      go_wp2_with fail
      go_ret
      exact ⟨by rw [HW.out, if_pos trivial, if_pos HN.out]; rfl, b1⟩
/-- A row with three bytes written. -/
def putL (xs : List Value) (o : Nat) (t : Int) (k : Nat) : List Value :=
  match k with
  | 0 => xs
  | 1 => xs.set (o + 2) (.int .u8 (t % 256))
  | 2 => (xs.set (o + 2) (.int .u8 (t % 256))).set (o + 1) (.int .u8 (t / 256 % 256))
  | _ => ((xs.set (o + 2) (.int .u8 (t % 256))).set (o + 1) (.int .u8 (t / 256 % 256))).set o (.int .u8 (t / 65536))
/-- Where putTime stands. -/
def PutAt (xs : List Value) (o : Nat) (t : Int) (iv tv : Value) (ys : List Value) : Prop :=
  (iv = .int .i64 2 ∧ tv = .int .i64 t ∧ ys = putL xs o t 0) ∨ (iv = .int .i64 1 ∧ tv = .int .i64 (t / 256) ∧ ys = putL xs o t 1) ∨ (iv = .int .i64 0 ∧ tv = .int .i64 (t / 65536) ∧ ys = putL xs o t 2) ∨ (iv = .int .i64 (-1) ∧ tv = .int .i64 (t / 16777216) ∧ ys = putL xs o t 3)
set_option maxRecDepth 100000 in
set_option maxHeartbeats 2000000 in
theorem putTime_any (base g o n c0 c : Nat) (t : Int) (xs : List Value) (w : World) (ho : o + 3 ≤ n) (ht0 : 0 ≤ t) (ht : t < 16777216) (hrow : w.ownsRow base 5 1 (.slice (some ⟨g, 0, none⟩) n c0) n xs) :
    Calls Tryd.prog 37 #[.slice (some ⟨g, o, none⟩) 3 c, .int .i64 t] w fun e w' => e = .returned (.tuple #[]) ∧ w'.ownsRow base 5 1 (.slice (some ⟨g, 0, none⟩) n c0) n (putL xs o t 3) ∧ w.grownBy w' (some g) := by
  go_enter Tryd.func37, Tryd.ntmps37
  go_wp2_with fail
  go_loopw [4, 1] (fun iv tv wr => ∃ ys, PutAt xs o t iv tv ys ∧ wr.ownsRow base 5 1 (.slice (some ⟨g, 0, none⟩) n c0) n ys ∧ w.grownBy wr (some g)) (fun iv _ _ => (intOf iv + 1).toNat)
  case atStart => exact ⟨xs, .inl ⟨rfl, rfl, rfl⟩, hrow, World.grownBy.refl _ _⟩
  case round =>
    obtain ⟨ys, hP, hr, hg⟩ := hrel
    clear hrow
    have f0 := hr.frozenAt (o + 2)
    have f1 := hr.frozenAt (o + 1)
    have f2 := hr.frozenAt o
    have hl : ys.length = n := by simpa using hr.1
    obtain ⟨v0, k0⟩ : ∃ v, wr.cell? ⟨g, o + 2, none⟩ = some v := ⟨_, (hr.cellAt (o + 2) (by omega)).trans (List.getElem?_eq_getElem (by omega))⟩
    obtain ⟨v1, k1⟩ : ∃ v, wr.cell? ⟨g, o + 1, none⟩ = some v := ⟨_, (hr.cellAt (o + 1) (by omega)).trans (List.getElem?_eq_getElem (by omega))⟩
    obtain ⟨v2, k2⟩ : ∃ v, wr.cell? ⟨g, o, none⟩ = some v := ⟨_, (hr.cellAt o (by omega)).trans (List.getElem?_eq_getElem (by omega))⟩
    clear hl
    rcases hP with ⟨rfl, rfl, HY⟩ | ⟨rfl, rfl, HY⟩ | ⟨rfl, rfl, HY⟩ | ⟨rfl, rfl, HY⟩
    · have hs := hr.stored (o + 2) (.int .u8 (t % 256))
      have hg2 := hg.trans hs.2
      have hs1 := hs.1
      have HH : Hid (ys.set (o + 2) (.int .u8 (t % 256)) = putL xs o t 1) := by show _ = _; rw [HY]; rfl
      have HYh : Hid (ys = putL xs o t 0) := HY
      clear HY hs
      go_wp2_with fail
      go_roundw
      case rel => exact ⟨_, .inr (.inl ⟨rfl, rfl, HH.out⟩), hs1, hg2⟩
      case measure => simp [intOf]
    · have hs := hr.stored (o + 1) (.int .u8 ((t / 256) % 256))
      have hg2 := hg.trans hs.2
      have hs1 := hs.1
      have HH : Hid (ys.set (o + 1) (.int .u8 ((t / 256) % 256)) = putL xs o t 2) := by show _ = _; rw [HY]; rfl
      have HYh : Hid (ys = putL xs o t 1) := HY
      clear HY hs
      go_wp2_with fail
      go_roundw
      case rel => exact ⟨_, .inr (.inr (.inl ⟨rfl, by congr 1; omega, HH.out⟩)), hs1, hg2⟩
      case measure => simp [intOf]
    · have hs := hr.stored (o) (.int .u8 (t / 65536))
      have hg2 := hg.trans hs.2
      have hs1 := hs.1
      have HH : Hid (ys.set (o) (.int .u8 (t / 65536)) = putL xs o t 3) := by show _ = _; rw [HY]; rfl
      have HYh : Hid (ys = putL xs o t 2) := HY
      clear HY hs
      go_wp2_with fail
      go_roundw
      case rel => exact ⟨_, .inr (.inr (.inr ⟨rfl, by congr 1; omega, HH.out⟩)), hs1, hg2⟩
      case measure => simp [intOf]
    · go_wp2_with fail
      go_end0
      exact ⟨rfl, by rw [← HY]; exact hr, hg⟩

theorem join_or {x y : Int} (hx0 : 0 ≤ x) (hx : x < 65536) (hy0 : 0 ≤ y) (hy : y < 256) : bits .or .i64 (x * 256) y = 256 * x + y := by
  have h := bits_join .i64 24 (by decide) (fun n h0 h1 => by rw [IntKind.wrap_i64]; omega) 8 (x * 256) y (by omega) (by omega) (by omega) hy0 (by omega) (by omega)
  rw [h]; omega
/-- Where timeOf stands. -/
def TimeAt (x0 x1 x2 : Int) (tv kv : Value) : Prop :=
  (kv = .int .i64 0 ∧ tv = .int .i64 0) ∨ (kv = .int .i64 1 ∧ tv = .int .i64 x0) ∨ (kv = .int .i64 2 ∧ tv = .int .i64 (256 * x0 + x1)) ∨ (kv = .int .i64 3 ∧ tv = .int .i64 (65536 * x0 + 256 * x1 + x2))
set_option maxRecDepth 100000 in
set_option maxHeartbeats 2000000 in
theorem timeOf_any (x0 x1 x2 : Int) (g o c : Nat) (w : World) (c0 : w.cell? ⟨g, o, none⟩ = some (.int .u8 x0)) (c1 : w.cell? ⟨g, o + 1, none⟩ = some (.int .u8 x1)) (c2 : w.cell? ⟨g, o + 2, none⟩ = some (.int .u8 x2))
    (h0 : 0 ≤ x0 ∧ x0 < 256) (h1 : 0 ≤ x1 ∧ x1 < 256) (h2 : 0 ≤ x2 ∧ x2 < 256) :
    Calls Tryd.prog 38 #[.slice (some ⟨g, o, none⟩) 3 c] w fun e w' => e = .returned (.int .i64 (65536 * x0 + 256 * x1 + x2)) ∧ w' = w := by
  have HO0 : Hid (bits .or .i64 0 x0 = x0) := by show _ = _; have := join_or (x := 0) (y := x0) (by omega) (by omega) h0.1 h0.2; simpa using this
  have HO1 : Hid (bits .or .i64 (x0 * 256) x1 = 256 * x0 + x1) := join_or h0.1 (by omega) h1.1 h1.2
  have HO2 : Hid (bits .or .i64 ((256 * x0 + x1) * 256) x2 = 256 * (256 * x0 + x1) + x2) := join_or (by omega) (by omega) h2.1 h2.2
  obtain ⟨a0, a1⟩ := h0
  obtain ⟨a2, a3⟩ := h1
  obtain ⟨a4, a5⟩ := h2
  go_enter Tryd.func38, Tryd.ntmps38
  go_wp2_with fail
  go_loopw [3, 8] (fun tv kv wr => TimeAt x0 x1 x2 tv kv ∧ wr = w) (fun _ kv _ => (3 - intOf kv).toNat)
  case atStart => exact ⟨.inl ⟨rfl, rfl⟩, rfl⟩
  case round =>
    obtain ⟨hT, rfl⟩ := hrel
    rcases hT with ⟨rfl, rfl⟩ | ⟨rfl, rfl⟩ | ⟨rfl, rfl⟩ | ⟨rfl, rfl⟩
    · have hO := HO0.out
      go_wp2_with fail
      go_roundw
      case rel => exact ⟨.inr (.inl ⟨rfl, rfl⟩), trivial⟩
      case measure => simp [intOf]
    · have hO := HO1.out
      go_wp2_with fail
      go_roundw
      case rel => exact ⟨.inr (.inr (.inl ⟨rfl, rfl⟩)), trivial⟩
      case measure => simp [intOf]
    · have hO := HO2.out
      have HE : Hid (256 * (256 * x0 + x1) + x2 = 65536 * x0 + 256 * x1 + x2) := by show _ = _; omega
      go_wp2_with fail
      go_roundw
      case rel => exact ⟨.inr (.inr (.inr ⟨rfl, by rw [← HE.out]⟩)), trivial⟩
      case measure => simp [intOf]
    · go_wp2_with fail
      go_ret
      exact ⟨rfl, rfl⟩

end Go.Proofs.YtkjlchfmplcobaeDoor
