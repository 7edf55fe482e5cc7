/- PackRead, PackGoRead, as one text. -/
import Derived.Test.YtbkkfchcdfhfgadDoorRunAF
import Derived.Test.YtbkkfchcdfhfgadDoorProg
import Derived.Test.YtbkkfchcdfhfgadDoorRunAN
import Derived.Lib.EndianBits
import Derived.WalkKit
import Derived.WalkSpells
import Derived.WalkLawsBesides
import Derived.Deep.QuietTactic
import Derived.BigQuiet
/- The plain mathematics of chapter 4, third part: reading the tokens first, and telling their text then, is unpacking as one goes. -/
namespace Go.Proofs.YtbkkfchcdfhfgadDoor

/-- The token that stands at a, told by its flag; and where it ends. -/
def unTok (b : List Int) (a f : Nat) : Option (Tok × Nat) :=
  if f % 2 = 0 then (if a < b.length then some (⟨0, 0, b.getD a 0⟩, a + 1) else none)
  else if a + 1 < b.length then some (⟨(((256 * b.getD a 0 + b.getD (a + 1) 0).toNat / 1024 + 3 : Nat) : Int), (((256 * b.getD a 0 + b.getD (a + 1) 0).toNat % 1024 + 1 : Nat) : Int), 0⟩, a + 2) else none
def wid (t : Tok) : Int := max 1 t.len
/-- Tokens read till their widths are size: the tokens, what is left of size, how far, the flags that are left. -/
def readGo (b : List Int) (size : Int) (n a f : Nat) : Option (List Tok × Int × Nat × Nat) :=
  if _h : 0 < size then
    if n % 8 = 0 ∧ ¬ a < b.length then none else
    match unTok b (if n % 8 = 0 then a + 1 else a) (if n % 8 = 0 then (b.getD a 0).toNat else f) with
    | none => none
    | some (t, a2) => (readGo b (size - wid t) (n + 1) a2 ((if n % 8 = 0 then (b.getD a 0).toNat else f) / 2)).map fun r => (t :: r.1, r.2)
  else some ([], size, a, f)
termination_by size.toNat
decreasing_by unfold wid; omega
theorem readGo_end {b : List Int} {size : Int} {n a f : Nat} (h : ¬ 0 < size) : readGo b size n a f = some ([], size, a, f) := by rw [readGo, dif_neg h]
theorem readGo_short {b : List Int} {size : Int} {n a f : Nat} (h : 0 < size) (hn : n % 8 = 0) (ha : ¬ a < b.length) : readGo b size n a f = none := by
  rw [readGo, dif_pos h, if_pos ⟨hn, ha⟩]
theorem readGo_none {b : List Int} {size : Int} {n a f : Nat} (h : 0 < size) (hu : unTok b (if n % 8 = 0 then a + 1 else a) (if n % 8 = 0 then (b.getD a 0).toNat else f) = none) : readGo b size n a f = none := by
  rw [readGo, dif_pos h]
  split
  · rfl
  · rw [hu]
theorem readGo_more {b : List Int} {size : Int} {n a f : Nat} {t : Tok} {a2 : Nat} (h : 0 < size) (hs : ¬ (n % 8 = 0 ∧ ¬ a < b.length)) (hu : unTok b (if n % 8 = 0 then a + 1 else a) (if n % 8 = 0 then (b.getD a 0).toNat else f) = some (t, a2)) :
    readGo b size n a f = (readGo b (size - wid t) (n + 1) a2 ((if n % 8 = 0 then (b.getD a 0).toNat else f) / 2)).map fun r => (t :: r.1, r.2) := by
  conv => lhs; rw [readGo]
  rw [dif_pos h, if_neg hs, hu]
/-- What comes of it at the end. -/
def unFin (b : List Int) (S : Nat) : Option (List Int × Nat × Nat) → List Int × Int
  | none => ([], 2)
  | some (out, a, f) => if a ≠ b.length ∨ out.length ≠ S ∨ f ≠ 0 then ([], 2) else (out, 0)
def readFin (b : List Int) (out : List Int) (i : Nat) : Option (List Tok × Int × Nat × Nat) → List Int × Int
  | none => ([], 2)
  | some (l, s, a, f) => if s ≠ 0 ∨ f ≠ 0 ∨ a ≠ b.length then ([], 2) else if (textFrom out i l).2.1 ≠ 0 then ([], 2) else ((textFrom out i l).1, 0)
theorem readFin_cons_bad {b out : List Int} {i : Nat} {t : Tok} (h : tokBad out.length t ≠ 0) (r : Option (List Tok × Int × Nat × Nat)) : readFin b out i (r.map fun r => (t :: r.1, r.2)) = ([], 2) := by
  cases r with
  | none => rfl
  | some r =>
    obtain ⟨l, s, a, f⟩ := r
    simp only [Option.map_some, readFin]
    split
    · rfl
    · rw [textFrom, if_pos h, if_pos h]
theorem readFin_cons {b out : List Int} {i : Nat} {t : Tok} (h : tokBad out.length t = 0) (r : Option (List Tok × Int × Nat × Nat)) : readFin b out i (r.map fun r => (t :: r.1, r.2)) = readFin b (tokPut out t) (i + 1) r := by
  cases r with
  | none => rfl
  | some r =>
    obtain ⟨l, s, a, f⟩ := r
    simp only [Option.map_some, readFin]
    have e : textFrom out i (t :: l) = textFrom (tokPut out t) (i + 1) l := by rw [textFrom, if_neg (fun h' => h' h)]
    rw [e]
theorem read_text {b : List Int} (hB : ∀ j, 0 ≤ b.getD j 0 ∧ b.getD j 0 < 256) {S : Nat} (hS : S ≤ 4000) (d : Nat) : ∀ (out : List Int) (i n a f l : Nat), S - out.length = d → l = (8 - n % 8) % 8 → unFin b S (unGo b S out a f l) = readFin b out i (readGo b ((S : Int) - out.length) n a f) := by
  induction d using Nat.strongRecOn with
  | ind d ih =>
    intro out i n a f l hd hl
    by_cases h : out.length < S
    · have hz : (l = 0) ↔ (n % 8 = 0) := by omega
      by_cases hs : n % 8 = 0 ∧ ¬ a < b.length
      · rw [readGo_short (by omega) hs.1 hs.2, unGo, dif_pos h, if_pos ⟨hz.2 hs.1, hs.2⟩]
        rfl
      · rw [unGo, dif_pos h, if_neg (fun e => hs ⟨hz.1 e.1, e.2⟩)]
        have e1 : (if l = 0 then a + 1 else a) = (if n % 8 = 0 then a + 1 else a) := by simp only [hz]
        have e2 : (if l = 0 then (b.getD a 0).toNat else f) = (if n % 8 = 0 then (b.getD a 0).toNat else f) := by simp only [hz]
        dsimp only
        rw [e1, e2]
        obtain ⟨a1, ha1⟩ : ∃ x, x = (if n % 8 = 0 then a + 1 else a) := ⟨_, rfl⟩
        obtain ⟨f1, hf1⟩ : ∃ x, x = (if n % 8 = 0 then (b.getD a 0).toNat else f) := ⟨_, rfl⟩
        rw [← ha1, ← hf1]
        have hl2 : (if l = 0 then 8 else l) - 1 = (8 - (n + 1) % 8) % 8 := by split <;> omega
        rw [hl2]
        by_cases hf : f1 % 2 = 0
        · rw [if_pos hf]
          by_cases ha : a1 < b.length
          · have hu : unTok b (if n % 8 = 0 then a + 1 else a) (if n % 8 = 0 then (b.getD a 0).toNat else f) = some (⟨0, 0, b.getD a1 0⟩, a1 + 1) := by rw [← ha1, ← hf1, unTok, if_pos hf, if_pos ha]
            rw [readGo_more (by omega) hs hu, ← hf1, if_pos ha, readFin_cons (by simp only [tokBad]; rw [if_pos trivial, if_neg (by omega)])]
            have e3 : (S : Int) - out.length - wid ⟨0, 0, b.getD a1 0⟩ = (S : Int) - (out ++ [b.getD a1 0]).length := by
              unfold wid; rw [List.length_append, List.length_singleton]; simp only; omega
            rw [e3, show tokPut out ⟨0, 0, b.getD a1 0⟩ = out ++ [b.getD a1 0] by simp [tokPut]]
            exact ih (S - (out ++ [b.getD a1 0]).length) (by rw [List.length_append, List.length_singleton]; omega) _ (i + 1) (n + 1) _ _ _ rfl rfl
          · have hu : unTok b (if n % 8 = 0 then a + 1 else a) (if n % 8 = 0 then (b.getD a 0).toNat else f) = none := by rw [← ha1, ← hf1, unTok, if_pos hf, if_neg ha]
            rw [readGo_none (by omega) hu, if_neg ha]
            rfl
        · rw [if_neg hf]
          by_cases ha : a1 + 1 < b.length
          · obtain ⟨x, hx⟩ : ∃ x, x = (256 * b.getD a1 0 + b.getD (a1 + 1) 0).toNat := ⟨_, rfl⟩
            have hu : unTok b (if n % 8 = 0 then a + 1 else a) (if n % 8 = 0 then (b.getD a 0).toNat else f) = some (⟨((x / 1024 + 3 : Nat) : Int), ((x % 1024 + 1 : Nat) : Int), 0⟩, a1 + 2) := by rw [← ha1, ← hf1, unTok, if_neg hf, if_pos ha, hx]
            rw [readGo_more (by omega) hs hu, ← hf1, if_pos ha, ← hx]
            by_cases hb : out.length < x % 1024 + 1
            · rw [if_pos hb, readFin_cons_bad]
              · rfl
              · simp only [tokBad]
                rw [if_neg (by omega)]
                split
                · decide
                · rw [if_pos (by omega)]; decide
            · rw [if_neg hb]
              by_cases hm : 4000 < out.length + (x / 1024 + 3)
              · rw [unGo_end (by rw [copyL_length]; omega), readGo_end (by unfold wid; simp only; omega)]
                simp only [unFin, readFin, Option.map_some]
                rw [if_pos (.inr (.inl (by rw [copyL_length]; omega))), if_pos (.inl (by unfold wid; simp only; omega))]
              · have h66 : x / 1024 + 3 ≤ 66 := by have := hB a1; have := hB (a1 + 1); omega
                rw [readFin_cons (by simp only [tokBad]; rw [if_neg (by omega), if_neg (by omega), if_neg (by omega), if_neg (by omega)])]
                have e3 : (S : Int) - out.length - wid ⟨((x / 1024 + 3 : Nat) : Int), ((x % 1024 + 1 : Nat) : Int), 0⟩ = (S : Int) - (copyL (x / 1024 + 3) out (x % 1024 + 1)).length := by
                  unfold wid; rw [copyL_length]; simp only; omega
                have e4 : tokPut out ⟨((x / 1024 + 3 : Nat) : Int), ((x % 1024 + 1 : Nat) : Int), 0⟩ = copyL (x / 1024 + 3) out (x % 1024 + 1) := by
                  simp only [tokPut]; rw [if_neg (by omega), Int.toNat_natCast, Int.toNat_natCast]
                rw [e3, e4]
                exact ih (S - (copyL (x / 1024 + 3) out (x % 1024 + 1)).length) (by rw [copyL_length]; omega) _ (i + 1) (n + 1) _ _ _ rfl rfl
          · have hu : unTok b (if n % 8 = 0 then a + 1 else a) (if n % 8 = 0 then (b.getD a 0).toNat else f) = none := by rw [← ha1, ← hf1, unTok, if_neg hf, if_neg ha]
            rw [readGo_none (by omega) hu, if_neg ha]
            rfl
    · rw [unGo_end h, readGo_end (by omega)]
      have e0 : readFin b out i (some ([], (S : Int) - out.length, a, f)) = if (S : Int) - out.length ≠ 0 ∨ f ≠ 0 ∨ a ≠ b.length then ([], 2) else (out, 0) := rfl
      rw [e0]
      simp only [unFin]
      by_cases hc : a ≠ b.length ∨ out.length ≠ S ∨ f ≠ 0
      · rw [if_pos hc, if_pos (by omega)]
      · rw [if_neg hc, if_neg (by omega)]
theorem unpack_read (b : List Int) (hB : ∀ j, 0 ≤ b.getD j 0 ∧ b.getD j 0 < 256) (hb : ¬ b.length < 2) (hS : ¬ 4000 < (256 * b.getD 0 0 + b.getD 1 0).toNat) : unpackL b = readFin b [] 0 (readGo b ((256 * b.getD 0 0 + b.getD 1 0).toNat : Int) 0 2 0) := by
  have h := read_text (b := b) hB (S := (256 * b.getD 0 0 + b.getD 1 0).toNat) (by omega) _ [] 0 0 2 0 0 rfl rfl
  rw [show (((256 * b.getD 0 0 + b.getD 1 0).toNat : Nat) : Int) - (([] : List Int).length : Int) = (((256 * b.getD 0 0 + b.getD 1 0).toNat : Nat) : Int) by simp] at h
  rw [← h, unpackL, if_neg hb, if_neg hS]
  rfl

end Go.Proofs.YtbkkfchcdfhfgadDoor

/- The walks of readPair and readToken: package pack as it landed. -/
namespace Go.Proofs.YtbkkfchcdfhfgadDoor
open Go.RowKit

theorem pair_or {x y : Int} (hx0 : 0 ≤ x) (hx : x < 256) (hy0 : 0 ≤ y) (hy : y < 256) : bits .or .i64 (x * 256) y = 256 * x + y := by
  have h := bits_join .i64 16 (by decide) (fun n h0 h1 => by rw [IntKind.wrap_i64]; omega) 8 (x * 256) y (by omega) (by omega) (by omega) hy0 (by omega) (by omega)
  rw [h]; omega
set_option maxRecDepth 100000 in
set_option maxHeartbeats 2000000 in
theorem readPair_any (b : List Int) (hby : Bytes b) (g o a n c : Nat) (w : World) (hcell : ∀ j, j < b.length → w.cell? ⟨g, o + j, none⟩ = some (.int .u8 (b.getD j 0))) (hn : n = b.length - a) (h2 : a + 1 < b.length) :
    Calls Tryd.prog 56 #[.slice (some ⟨g, o + a, none⟩) n c] w fun e w' => e = .returned (.int .i64 (256 * b.getD a 0 + b.getD (a + 1) 0)) ∧ Below w.heap.size w w' := by
  have e1 := hcell a (by omega)
  have e2 := hcell (a + 1) h2
  rw [← Nat.add_assoc] at e2
  have hx := hby a
  have hy := hby (a + 1)
  have j1 : (0 : Int) < n := by omega
  have j2 : (1 : Int) < n := by omega
  have j1' : 0 < n := by omega
  have j2' : 1 < n := by omega
  generalize b.getD a 0 = x at *
  generalize b.getD (a + 1) 0 = y at *
  have HO : Hid (bits .or .i64 (x * 256) y = 256 * x + y) := pair_or hx.1 hx.2 hy.1 hy.2
  obtain ⟨hx0, hx1⟩ := hx
  obtain ⟨hy0, hy1⟩ := hy
  clear hcell hby hn
  go_enter Tryd.func56, Tryd.ntmps56
  go_wp2
  go_quiet (fail)
  go_wp2
  go_ret
  exact ⟨by rw [← HO.out]; rfl, below_drewN' (Below.refl _ _) nq⟩
theorem and_one : ∀ f : Fin 256, bits BinOp.and IntKind.u8 (f.val : Int) 1 = ((f.val % 2 : Nat) : Int) := by decide +kernel
/-- What is left of b, from a on. -/
def RestAt (v : Value) (b : List Int) (g o a : Nat) : Prop := ∃ A c, v = .slice A (b.length - a) c ∧ b.length - a ≤ c ∧ (A = some ⟨g, o + a, none⟩ ∨ b.length - a = 0)
def tokRes (b : List Int) (g o : Nat) (r : Option (Tok × Nat)) (v : Value) : Prop :=
  match r with
  | none => v = .tuple #[.agg #[.int .i64 0, .int .i64 0, .int .u8 0], .slice none 0 0, .bool false]
  | some (t, a2) => ∃ rv, v = .tuple #[tokV t, rv, .bool true] ∧ RestAt rv b g o a2
set_option maxRecDepth 100000 in
set_option maxHeartbeats 4000000 in
theorem readToken_any (b : List Int) (hby : Bytes b) (g o a f : Nat) (rv : Value) (w : World) (hg : b.length - a = 0 ∨ g < w.heap.size) (hcell : ∀ j, j < b.length → w.cell? ⟨g, o + j, none⟩ = some (.int .u8 (b.getD j 0))) (hr : RestAt rv b g o a) :
    Calls Tryd.prog 82 #[rv, .bool (decide (f % 2 ≠ 0))] w fun e w' => ∃ v, e = .returned v ∧ tokRes b g o (unTok b a f) v ∧ Below w.heap.size w w' := by
  obtain ⟨A, c, rfl, hrc, hA⟩ := hr
  have b0 : Below w.heap.size w (w.alloc (.cells #[.int .i64 0, .int .i64 0, .int .u8 0] 117)) := (Below.refl _ _).alloc (Nat.le_refl _) _
  have hx := box_new w #[.int .i64 0, .int .i64 0, .int .u8 0] 117
  obtain ⟨x0, x1, x2, fz0, fz1, fz2⟩ := box_three hx
  by_cases hf : f % 2 = 0
  · rw [show decide (f % 2 ≠ 0) = false from decide_eq_false (fun h => h hf)]
    by_cases ha : a < b.length
    · have hu : unTok b a f = some (⟨0, 0, b.getD a 0⟩, a + 1) := by rw [unTok, if_pos hf, if_pos ha]
      rw [hu]
      obtain rfl : A = some ⟨g, o + a, none⟩ := hA.resolve_right (by omega)
      have hg' := hg.resolve_left (by omega)
      have e1 := (b0.cell (p := ⟨g, o + a, none⟩) hg').trans (hcell a ha)
      generalize b.getD a 0 = y at *
      obtain ⟨n, hn⟩ : ∃ n, n = b.length - a := ⟨_, rfl⟩
      have HN : Hid (n = b.length - a) := hn
      have hnc : n ≤ c := by omega
      have j1 : (0 : Int) < n := by omega
      have j1' : 0 < n := by omega
      have j2 : (1 : Int) ≤ n := by omega
      have j3 : (1 : Int) ≤ c := by omega
      have hne : ¬ (n : Int) = 0 := by omega
      rw [← hn]
      clear hcell hby hg hu hrc hn hx b0 hA
      have bY : Below w.heap.size w (w.alloc (.cells #[.int .i64 0, .int .i64 0, .int .u8 y] 117)).drew := ((Below.refl _ _).alloc (Nat.le_refl _) _).drew
      by_cases hc : c = 1
      · subst hc
        obtain rfl : n = 1 := by omega
        have HR : Hid (RestAt (.slice (some ⟨g, o + a, none⟩) 0 0) b g o (a + 1)) := by
          have := HN.out
          exact ⟨_, 0, by rw [show b.length - (a + 1) = 0 by omega], by omega, .inr (by omega)⟩
        go_enter Tryd.func82, Tryd.ntmps82
        go_wp2
        go_region
        all_goals
          go_wp2
          exact bodyPost_ret (v := .tuple #[.agg #[.int .i64 0, .int .i64 0, .int .u8 y], .slice (some ⟨g, o + a, none⟩) 0 0, .bool true]) (by simp [results, Tryd.results82, go_sem]) rfl ⟨_, rfl, ⟨_, rfl, HR.out⟩, bY⟩
      · have HR : Hid (RestAt (.slice (some ⟨g, o + a + 1, none⟩) (n - 1) (c - 1)) b g o (a + 1)) := by
          have := HN.out
          exact ⟨some ⟨g, o + (a + 1), none⟩, c - 1, by rw [show b.length - (a + 1) = n - 1 by omega]; rfl, by omega, .inl rfl⟩
        go_enter Tryd.func82, Tryd.ntmps82
        go_wp2
        go_region
        all_goals
          go_wp2
          exact bodyPost_ret (v := .tuple #[.agg #[.int .i64 0, .int .i64 0, .int .u8 y], .slice (some ⟨g, o + a + 1, none⟩) (n - 1) (c - 1), .bool true]) (by simp [results, Tryd.results82, go_sem]) rfl ⟨_, rfl, ⟨_, rfl, HR.out⟩, bY⟩
    · have hu : unTok b a f = none := by rw [unTok, if_pos hf, if_neg ha]
      rw [hu]
      obtain ⟨n, hn⟩ : ∃ n, n = b.length - a := ⟨_, rfl⟩
      rw [← hn]
      obtain rfl : n = 0 := by omega
      clear hcell hby hg hu hrc hn hA
      go_enter Tryd.func82, Tryd.ntmps82
      go_wp2
      exact bodyPost_ret (v := .tuple #[.agg #[.int .i64 0, .int .i64 0, .int .u8 0], .slice none 0 0, .bool false]) (by simp [results, Tryd.results82, go_sem]) rfl ⟨_, rfl, rfl, b0⟩
  · rw [show decide (f % 2 ≠ 0) = true from decide_eq_true hf]
    by_cases ha : a + 1 < b.length
    · obtain ⟨X, hX⟩ : ∃ X : Nat, (X : Int) = 256 * b.getD a 0 + b.getD (a + 1) 0 := ⟨(256 * b.getD a 0 + b.getD (a + 1) 0).toNat, by have := hby a; have := hby (a + 1); omega⟩
      have hu : unTok b a f = some (⟨(X : Int) / 1024 + 3, (X : Int) % 1024 + 1, 0⟩, a + 2) := by rw [unTok, if_neg hf, if_pos ha, ← hX, Int.toNat_natCast, show ((X / 1024 + 3 : Nat) : Int) = (X : Int) / 1024 + 3 by omega, show ((X % 1024 + 1 : Nat) : Int) = (X : Int) % 1024 + 1 by omega]
      rw [hu]
      have hX6 : X < 65536 := by have := hby a; have := hby (a + 1); omega
      obtain rfl : A = some ⟨g, o + a, none⟩ := hA.resolve_right (by omega)
      have hg' := hg.resolve_left (by omega)
      have hP := readPair_any b hby g o a (b.length - a) c (w.alloc (.cells #[.int .i64 0, .int .i64 0, .int .u8 0] 117)) (fun j hj => (b0.cell (p := ⟨g, o + j, none⟩) hg').trans (hcell j hj)) rfl ha
      rw [← hX] at hP
      obtain ⟨n, hn⟩ : ∃ n, n = b.length - a := ⟨_, rfl⟩
      have HN : Hid (n = b.length - a) := hn
      have hnc : n ≤ c := by omega
      have j1 : ¬ (n : Int) < 2 := by omega
      have j2 : (2 : Int) ≤ n := by omega
      have j3 : (2 : Int) ≤ c := by omega
      rw [← hn]
      rw [← hn] at hP
      clear hcell hby hg hu hrc hn hX
      rcases (show (c = 2 ∧ n = 2) ∨ ¬ c = 2 by omega) with ⟨rfl, rfl⟩ | hc
      · have HR : Hid (RestAt (.slice (some ⟨g, o + a, none⟩) 0 0) b g o (a + 2)) := by
          have := HN.out
          exact ⟨_, 0, by rw [show b.length - (a + 2) = 0 by omega], by omega, .inr (by omega)⟩
        go_enter Tryd.func82, Tryd.ntmps82
        go_wp2_with fail
        refine hP.mono ?_
        rintro r w1 ⟨rfl, hb1⟩
        have hx1 := box_kept hx hb1
        have b1 := b0.trans (hb1.mono b0.size)
        obtain ⟨y0, y1, y2, gz0, gz1, gz2⟩ := box_three hx1
        obtain ⟨q0, q1, q2, -, -, -⟩ := box_three (box3_set (u' := .int .i64 ((X : Int) / 1024 + 3)) (v' := .int .i64 ((X : Int) % 1024 + 1)) (x' := .int .u8 0) hx1)
        have bY := (((b1.setCell (p := ⟨w.heap.size, 0, none⟩) (Nat.le_refl _) (.int .i64 ((X : Int) / 1024 + 3))).setCell (p := ⟨w.heap.size, 1, none⟩) (Nat.le_refl _) (.int .i64 ((X : Int) % 1024 + 1))).setCell (p := ⟨w.heap.size, 2, none⟩) (Nat.le_refl _) (.int .u8 0)).drew
        have z0 := World.cell?_setCell_same' w1 ⟨w.heap.size, 0, none⟩ (.int .i64 ((X : Int) / 1024 + 3)) (by rw [y0]; rfl)
        clear hP hb1 hx x0 x1 x2 fz0 fz1 fz2 hx1
        go_wp2_with fail
        go_region
        all_goals
          go_wp2_with fail
          exact bodyPost_ret (v := .tuple #[.agg #[.int .i64 ((X : Int) / 1024 + 3), .int .i64 ((X : Int) % 1024 + 1), .int .u8 0], .slice (some ⟨g, o + a, none⟩) 0 0, .bool true]) (by simp [results, Tryd.results82, go_sem, q0, q1, q2]) rfl ⟨_, rfl, ⟨_, rfl, HR.out⟩, bY⟩
      · have HR : Hid (RestAt (.slice (some ⟨g, o + a + 2, none⟩) (n - 2) (c - 2)) b g o (a + 2)) := by
          have := HN.out
          exact ⟨some ⟨g, o + (a + 2), none⟩, c - 2, by rw [show b.length - (a + 2) = n - 2 by omega]; rfl, by omega, .inl rfl⟩
        go_enter Tryd.func82, Tryd.ntmps82
        go_wp2_with fail
        refine hP.mono ?_
        rintro r w1 ⟨rfl, hb1⟩
        have hx1 := box_kept hx hb1
        have b1 := b0.trans (hb1.mono b0.size)
        obtain ⟨y0, y1, y2, gz0, gz1, gz2⟩ := box_three hx1
        obtain ⟨q0, q1, q2, -, -, -⟩ := box_three (box3_set (u' := .int .i64 ((X : Int) / 1024 + 3)) (v' := .int .i64 ((X : Int) % 1024 + 1)) (x' := .int .u8 0) hx1)
        have bY := (((b1.setCell (p := ⟨w.heap.size, 0, none⟩) (Nat.le_refl _) (.int .i64 ((X : Int) / 1024 + 3))).setCell (p := ⟨w.heap.size, 1, none⟩) (Nat.le_refl _) (.int .i64 ((X : Int) % 1024 + 1))).setCell (p := ⟨w.heap.size, 2, none⟩) (Nat.le_refl _) (.int .u8 0)).drew
        have z0 := World.cell?_setCell_same' w1 ⟨w.heap.size, 0, none⟩ (.int .i64 ((X : Int) / 1024 + 3)) (by rw [y0]; rfl)
        clear hP hb1 hx x0 x1 x2 fz0 fz1 fz2 hx1
        go_wp2_with fail
        go_region
        all_goals
          go_wp2_with fail
          exact bodyPost_ret (v := .tuple #[.agg #[.int .i64 ((X : Int) / 1024 + 3), .int .i64 ((X : Int) % 1024 + 1), .int .u8 0], .slice (some ⟨g, o + a + 2, none⟩) (n - 2) (c - 2), .bool true]) (by simp [results, Tryd.results82, go_sem, q0, q1, q2]) rfl ⟨_, rfl, ⟨_, rfl, HR.out⟩, bY⟩
    · have hu : unTok b a f = none := by rw [unTok, if_neg hf, if_neg ha]
      rw [hu]
      obtain ⟨n, hn⟩ : ∃ n, n = b.length - a := ⟨_, rfl⟩
      rw [← hn]
      have hn2 : (n : Int) < 2 := by omega
      clear hcell hby hg hu hrc hn hA
      go_enter Tryd.func82, Tryd.ntmps82
      go_wp2
      exact bodyPost_ret (v := .tuple #[.agg #[.int .i64 0, .int .i64 0, .int .u8 0], .slice none 0 0, .bool false]) (by simp [results, Tryd.results82, go_sem]) rfl ⟨_, rfl, rfl, b0⟩

end Go.Proofs.YtbkkfchcdfhfgadDoor
