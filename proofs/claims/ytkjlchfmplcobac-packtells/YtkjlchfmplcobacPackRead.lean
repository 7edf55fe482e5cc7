/- The plain mathematics of chapter 4, third part: reading the tokens first, and telling their text then, is unpacking as one goes. -/
import Derived.Test.YtkjlchfmplcobacPackWrite
namespace Go.Proofs.Ytkjlchfmplcobac

/-- The token that stands at a, told by its flag; and where it ends. -/
def unTok (b : List Int) (a f : Nat) : Option (Tok × Nat) :=
  if f % 2 = 0 then (if a < b.length then some (⟨0, 0, b.getD a 0⟩, a + 1) else none)
  else if a + 1 < b.length then some (⟨(((256 * b.getD a 0 + b.getD (a + 1) 0).toNat / 1024 + 3 : Nat) : Int), (((256 * b.getD a 0 + b.getD (a + 1) 0).toNat % 1024 + 1 : Nat) : Int), 0⟩, a + 2) else none
def wid (t : Tok) : Int := max 1 t.len
/-- Tokens read till their widths are size: the tokens, what is left of size, how far, the flags that are left. -/
def readGo (b : List Int) (size : Int) (n a f : Nat) : Option (List Tok × Int × Nat × Nat) :=
  if _h : 0 < size then
    if n % 8 = 0 ∧ ¬ a < b.length then none else
    match unTok b (if n % 8 = 0 then a + 1 else a) (if n % 8 = 0 then (b.getD a 0).toNat else f) with
    | none => none
    | some (t, a2) => (readGo b (size - wid t) (n + 1) a2 ((if n % 8 = 0 then (b.getD a 0).toNat else f) / 2)).map fun r => (t :: r.1, r.2)
  else some ([], size, a, f)
termination_by size.toNat
decreasing_by unfold wid; omega
theorem readGo_end {b : List Int} {size : Int} {n a f : Nat} (h : ¬ 0 < size) : readGo b size n a f = some ([], size, a, f) := by rw [readGo, dif_neg h]
theorem readGo_short {b : List Int} {size : Int} {n a f : Nat} (h : 0 < size) (hn : n % 8 = 0) (ha : ¬ a < b.length) : readGo b size n a f = none := by
  rw [readGo, dif_pos h, if_pos ⟨hn, ha⟩]
theorem readGo_none {b : List Int} {size : Int} {n a f : Nat} (h : 0 < size) (hu : unTok b (if n % 8 = 0 then a + 1 else a) (if n % 8 = 0 then (b.getD a 0).toNat else f) = none) : readGo b size n a f = none := by
  rw [readGo, dif_pos h]
  split
  · rfl
  · rw [hu]
theorem readGo_more {b : List Int} {size : Int} {n a f : Nat} {t : Tok} {a2 : Nat} (h : 0 < size) (hs : ¬ (n % 8 = 0 ∧ ¬ a < b.length)) (hu : unTok b (if n % 8 = 0 then a + 1 else a) (if n % 8 = 0 then (b.getD a 0).toNat else f) = some (t, a2)) :
    readGo b size n a f = (readGo b (size - wid t) (n + 1) a2 ((if n % 8 = 0 then (b.getD a 0).toNat else f) / 2)).map fun r => (t :: r.1, r.2) := by
  conv => lhs; rw [readGo]
  rw [dif_pos h, if_neg hs, hu]
/-- What comes of it at the end. -/
def unFin (b : List Int) (S : Nat) : Option (List Int × Nat × Nat) → List Int × Int
  | none => ([], 2)
  | some (out, a, f) => if a ≠ b.length ∨ out.length ≠ S ∨ f ≠ 0 then ([], 2) else (out, 0)
def readFin (b : List Int) (out : List Int) (i : Nat) : Option (List Tok × Int × Nat × Nat) → List Int × Int
  | none => ([], 2)
  | some (l, s, a, f) => if s ≠ 0 ∨ f ≠ 0 ∨ a ≠ b.length then ([], 2) else if (textFrom out i l).2.1 ≠ 0 then ([], 2) else ((textFrom out i l).1, 0)
theorem readFin_cons_bad {b out : List Int} {i : Nat} {t : Tok} (h : tokBad out.length t ≠ 0) (r : Option (List Tok × Int × Nat × Nat)) : readFin b out i (r.map fun r => (t :: r.1, r.2)) = ([], 2) := by
  cases r with
  | none => rfl
  | some r =>
    obtain ⟨l, s, a, f⟩ := r
    simp only [Option.map_some, readFin]
    split
    · rfl
    · rw [textFrom, if_pos h, if_pos h]
theorem readFin_cons {b out : List Int} {i : Nat} {t : Tok} (h : tokBad out.length t = 0) (r : Option (List Tok × Int × Nat × Nat)) : readFin b out i (r.map fun r => (t :: r.1, r.2)) = readFin b (tokPut out t) (i + 1) r := by
  cases r with
  | none => rfl
  | some r =>
    obtain ⟨l, s, a, f⟩ := r
    simp only [Option.map_some, readFin]
    have e : textFrom out i (t :: l) = textFrom (tokPut out t) (i + 1) l := by rw [textFrom, if_neg (fun h' => h' h)]
    rw [e]
theorem read_text {b : List Int} (hB : ∀ j, 0 ≤ b.getD j 0 ∧ b.getD j 0 < 256) {S : Nat} (hS : S ≤ 4000) (d : Nat) : ∀ (out : List Int) (i n a f l : Nat), S - out.length = d → l = (8 - n % 8) % 8 → unFin b S (unGo b S out a f l) = readFin b out i (readGo b ((S : Int) - out.length) n a f) := by
  induction d using Nat.strongRecOn with
  | ind d ih =>
    intro out i n a f l hd hl
    by_cases h : out.length < S
    · have hz : (l = 0) ↔ (n % 8 = 0) := by omega
      by_cases hs : n % 8 = 0 ∧ ¬ a < b.length
      · rw [readGo_short (by omega) hs.1 hs.2, unGo, dif_pos h, if_pos ⟨hz.2 hs.1, hs.2⟩]
        rfl
      · rw [unGo, dif_pos h, if_neg (fun e => hs ⟨hz.1 e.1, e.2⟩)]
        have e1 : (if l = 0 then a + 1 else a) = (if n % 8 = 0 then a + 1 else a) := by simp only [hz]
        have e2 : (if l = 0 then (b.getD a 0).toNat else f) = (if n % 8 = 0 then (b.getD a 0).toNat else f) := by simp only [hz]
        dsimp only
        rw [e1, e2]
        obtain ⟨a1, ha1⟩ : ∃ x, x = (if n % 8 = 0 then a + 1 else a) := ⟨_, rfl⟩
        obtain ⟨f1, hf1⟩ : ∃ x, x = (if n % 8 = 0 then (b.getD a 0).toNat else f) := ⟨_, rfl⟩
        rw [← ha1, ← hf1]
        have hl2 : (if l = 0 then 8 else l) - 1 = (8 - (n + 1) % 8) % 8 := by split <;> omega
        rw [hl2]
        by_cases hf : f1 % 2 = 0
        · rw [if_pos hf]
          by_cases ha : a1 < b.length
          · have hu : unTok b (if n % 8 = 0 then a + 1 else a) (if n % 8 = 0 then (b.getD a 0).toNat else f) = some (⟨0, 0, b.getD a1 0⟩, a1 + 1) := by rw [← ha1, ← hf1, unTok, if_pos hf, if_pos ha]
            rw [readGo_more (by omega) hs hu, ← hf1, if_pos ha, readFin_cons (by simp only [tokBad]; rw [if_pos trivial, if_neg (by omega)])]
            have e3 : (S : Int) - out.length - wid ⟨0, 0, b.getD a1 0⟩ = (S : Int) - (out ++ [b.getD a1 0]).length := by
              unfold wid; rw [List.length_append, List.length_singleton]; simp only; omega
            rw [e3, show tokPut out ⟨0, 0, b.getD a1 0⟩ = out ++ [b.getD a1 0] by simp [tokPut]]
            exact ih (S - (out ++ [b.getD a1 0]).length) (by rw [List.length_append, List.length_singleton]; omega) _ (i + 1) (n + 1) _ _ _ rfl rfl
          · have hu : unTok b (if n % 8 = 0 then a + 1 else a) (if n % 8 = 0 then (b.getD a 0).toNat else f) = none := by rw [← ha1, ← hf1, unTok, if_pos hf, if_neg ha]
            rw [readGo_none (by omega) hu, if_neg ha]
            rfl
        · rw [if_neg hf]
          by_cases ha : a1 + 1 < b.length
          · obtain ⟨x, hx⟩ : ∃ x, x = (256 * b.getD a1 0 + b.getD (a1 + 1) 0).toNat := ⟨_, rfl⟩
            have hu : unTok b (if n % 8 = 0 then a + 1 else a) (if n % 8 = 0 then (b.getD a 0).toNat else f) = some (⟨((x / 1024 + 3 : Nat) : Int), ((x % 1024 + 1 : Nat) : Int), 0⟩, a1 + 2) := by rw [← ha1, ← hf1, unTok, if_neg hf, if_pos ha, hx]
            rw [readGo_more (by omega) hs hu, ← hf1, if_pos ha, ← hx]
            by_cases hb : out.length < x % 1024 + 1
            · rw [if_pos hb, readFin_cons_bad]
              · rfl
              · simp only [tokBad]
                rw [if_neg (by omega)]
                split
                · decide
                · rw [if_pos (by omega)]; decide
            · rw [if_neg hb]
              by_cases hm : 4000 < out.length + (x / 1024 + 3)
              · rw [unGo_end (by rw [copyL_length]; omega), readGo_end (by unfold wid; simp only; omega)]
                simp only [unFin, readFin, Option.map_some]
                rw [if_pos (.inr (.inl (by rw [copyL_length]; omega))), if_pos (.inl (by unfold wid; simp only; omega))]
              · have h66 : x / 1024 + 3 ≤ 66 := by have := hB a1; have := hB (a1 + 1); omega
                rw [readFin_cons (by simp only [tokBad]; rw [if_neg (by omega), if_neg (by omega), if_neg (by omega), if_neg (by omega)])]
                have e3 : (S : Int) - out.length - wid ⟨((x / 1024 + 3 : Nat) : Int), ((x % 1024 + 1 : Nat) : Int), 0⟩ = (S : Int) - (copyL (x / 1024 + 3) out (x % 1024 + 1)).length := by
                  unfold wid; rw [copyL_length]; simp only; omega
                have e4 : tokPut out ⟨((x / 1024 + 3 : Nat) : Int), ((x % 1024 + 1 : Nat) : Int), 0⟩ = copyL (x / 1024 + 3) out (x % 1024 + 1) := by
                  simp only [tokPut]; rw [if_neg (by omega), Int.toNat_natCast, Int.toNat_natCast]
                rw [e3, e4]
                exact ih (S - (copyL (x / 1024 + 3) out (x % 1024 + 1)).length) (by rw [copyL_length]; omega) _ (i + 1) (n + 1) _ _ _ rfl rfl
          · have hu : unTok b (if n % 8 = 0 then a + 1 else a) (if n % 8 = 0 then (b.getD a 0).toNat else f) = none := by rw [← ha1, ← hf1, unTok, if_neg hf, if_neg ha]
            rw [readGo_none (by omega) hu, if_neg ha]
            rfl
    · rw [unGo_end h, readGo_end (by omega)]
      have e0 : readFin b out i (some ([], (S : Int) - out.length, a, f)) = if (S : Int) - out.length ≠ 0 ∨ f ≠ 0 ∨ a ≠ b.length then ([], 2) else (out, 0) := rfl
      rw [e0]
      simp only [unFin]
      by_cases hc : a ≠ b.length ∨ out.length ≠ S ∨ f ≠ 0
      · rw [if_pos hc, if_pos (by omega)]
      · rw [if_neg hc, if_neg (by omega)]
theorem unpack_read (b : List Int) (hB : ∀ j, 0 ≤ b.getD j 0 ∧ b.getD j 0 < 256) (hb : ¬ b.length < 2) (hS : ¬ 4000 < (256 * b.getD 0 0 + b.getD 1 0).toNat) : unpackL b = readFin b [] 0 (readGo b ((256 * b.getD 0 0 + b.getD 1 0).toNat : Int) 0 2 0) := by
  have h := read_text (b := b) hB (S := (256 * b.getD 0 0 + b.getD 1 0).toNat) (by omega) _ [] 0 0 2 0 0 rfl rfl
  rw [show (((256 * b.getD 0 0 + b.getD 1 0).toNat : Nat) : Int) - (([] : List Int).length : Int) = (((256 * b.getD 0 0 + b.getD 1 0).toNat : Nat) : Int) by simp] at h
  rw [← h, unpackL, if_neg hb, if_neg hS]
  rfl

end Go.Proofs.Ytkjlchfmplcobac
