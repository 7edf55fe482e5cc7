/- The plain mathematics of chapter 4: tokens, texts, what is packed and unpacked. Nothing of the program is in it. -/
import Derived.WalkSmall
namespace Go.Proofs.Ytkjlchfmplcobac

/-- A token: so many bytes, that stood so many ahead; or, with no length, a byte. -/
structure Tok where
  len : Int
  back : Int
  byte : Int
deriving DecidableEq

/-- How many there are alike at the beginning of both. -/
def lcp : List Int → List Int → Nat
  | x :: xs, y :: ys => if x = y then lcp xs ys + 1 else 0
  | [], _ => 0
  | _ :: _, [] => 0
/-- How long a stretch from f on is that stands at a, too; MaxLength at most. -/
def matchN (b : List Int) (f a : Nat) : Nat := min 66 (lcp (b.drop f) (b.drop a))
/-- The longest one so far, or a longer one that stands back bytes ahead. -/
def bestStep (b : List Int) (a : Nat) (best : Nat × Nat) (k : Nat) : Nat × Nat :=
  if 3 ≤ matchN b (a - (k + 1)) a ∧ best.1 < matchN b (a - (k + 1)) a then (matchN b (a - (k + 1)) a, k + 1) else best
/-- The longest one of those that stand m ahead at most, the nearest one. -/
def bestTo (b : List Int) (a m : Nat) : Nat × Nat := (List.range m).foldl (bestStep b a) (0, 0)
def bestL (b : List Int) (a : Nat) : Nat × Nat := bestTo b a (min a 1024)
theorem bestTo_zero (b : List Int) (a : Nat) : bestTo b a 0 = (0, 0) := rfl
theorem bestTo_succ (b : List Int) (a m : Nat) : bestTo b a (m + 1) = bestStep b a (bestTo b a m) m := by
  unfold bestTo; rw [List.range_succ, List.foldl_append]; rfl
theorem lcp_le_right : ∀ (xs ys : List Int), lcp xs ys ≤ ys.length
  | [], ys => Nat.zero_le _
  | _ :: _, [] => Nat.zero_le _
  | x :: xs, y :: ys => by
    unfold lcp
    split
    · have := lcp_le_right xs ys; simp; omega
    · exact Nat.zero_le _
theorem lcp_get : ∀ (xs ys : List Int) (j : Nat), j < lcp xs ys → xs.getD j 0 = ys.getD j 0
  | [], _, j, h => by simp [lcp] at h
  | _ :: _, [], j, h => by simp [lcp] at h
  | x :: xs, y :: ys, j, h => by
    unfold lcp at h
    split at h
    · rename_i e
      cases j with
      | zero => simpa using e
      | succ j => simpa using lcp_get xs ys j (by omega)
    · omega
theorem lcp_more : ∀ (xs ys : List Int) (n : Nat), n ≤ xs.length → n ≤ ys.length → (∀ j, j < n → xs.getD j 0 = ys.getD j 0) → n ≤ lcp xs ys
  | [], _, n, h, _, _ => by simp at h; omega
  | _ :: _, [], n, _, h, _ => by simp at h; omega
  | x :: xs, y :: ys, n, h1, h2, h => by
    cases n with
    | zero => exact Nat.zero_le _
    | succ n =>
      have e : x = y := by simpa using h 0 (by omega)
      unfold lcp
      rw [if_pos e]
      have := lcp_more xs ys n (by simpa using h1) (by simpa using h2) (fun j hj => by simpa using h (j + 1) (by omega))
      omega
theorem drop_get (b : List Int) (f j : Nat) : (b.drop f).getD j 0 = b.getD (f + j) 0 := by rw [List.getD_eq_getElem?_getD, List.getElem?_drop, ← List.getD_eq_getElem?_getD]
theorem matchN_le (b : List Int) (f a : Nat) : matchN b f a ≤ 66 ∧ matchN b f a ≤ b.length - a := by
  have := lcp_le_right (b.drop f) (b.drop a)
  rw [List.length_drop] at this
  unfold matchN
  omega
theorem matchN_get {b : List Int} {f a j : Nat} (h : j < matchN b f a) : b.getD (f + j) 0 = b.getD (a + j) 0 := by
  have := lcp_get (b.drop f) (b.drop a) j (by unfold matchN at h; omega)
  rwa [drop_get, drop_get] at this
theorem matchN_more {b : List Int} {f a n : Nat} (hn : n ≤ 66) (hfa : f ≤ a) (ha : a + n ≤ b.length) (h : ∀ j, j < n → b.getD (f + j) 0 = b.getD (a + j) 0) : n ≤ matchN b f a := by
  have := lcp_more (b.drop f) (b.drop a) n (by rw [List.length_drop]; omega) (by rw [List.length_drop]; omega) (fun j hj => by rw [drop_get, drop_get]; exact h j hj)
  unfold matchN
  omega
/-- What is the best: nothing, or a stretch of at least three that stands so many ahead. -/
theorem bestTo_spec (b : List Int) (a m : Nat) : bestTo b a m = (0, 0) ∨ (3 ≤ (bestTo b a m).1 ∧ 1 ≤ (bestTo b a m).2 ∧ (bestTo b a m).2 ≤ m ∧ (bestTo b a m).1 = matchN b (a - (bestTo b a m).2) a) := by
  induction m with
  | zero => left; rfl
  | succ m ih =>
    rw [bestTo_succ]
    unfold bestStep
    split
    · rename_i h
      right
      exact ⟨h.1, by simp, by simp, rfl⟩
    · rcases ih with h | h
      · exact .inl h
      · right
        exact ⟨h.1, h.2.1, by omega, h.2.2.2⟩
theorem best_spec (b : List Int) (a : Nat) : bestL b a = (0, 0) ∨ (3 ≤ (bestL b a).1 ∧ (bestL b a).1 ≤ 66 ∧ (bestL b a).1 ≤ b.length - a ∧ 1 ≤ (bestL b a).2 ∧ (bestL b a).2 ≤ a ∧ (bestL b a).2 ≤ 1024 ∧ (bestL b a).1 = matchN b (a - (bestL b a).2) a) := by
  rcases bestTo_spec b a (min a 1024) with h | ⟨h1, h2, h3, h4⟩
  · exact .inl h
  · right
    have := matchN_le b (a - (bestTo b a (min a 1024)).2) a
    unfold bestL
    refine ⟨h1, by omega, by omega, h2, by omega, by omega, h4⟩
/-- From the left: a stretch that stood ahead, or a byte. -/
def tokFrom (b : List Int) (a : Nat) : List Tok :=
  if _h : a < b.length then
    if (bestL b a).1 = 0 then ⟨0, 0, b.getD a 0⟩ :: tokFrom b (a + 1) else ⟨((bestL b a).1 : Int), ((bestL b a).2 : Int), 0⟩ :: tokFrom b (a + (bestL b a).1)
  else []
termination_by b.length - a
def tokensL (b : List Int) : List Tok := tokFrom b 0
theorem tokFrom_end {b : List Int} {a : Nat} (h : ¬ a < b.length) : tokFrom b a = [] := by rw [tokFrom, dif_neg h]
theorem tokFrom_byte {b : List Int} {a : Nat} (h : a < b.length) (h0 : (bestL b a).1 = 0) : tokFrom b a = ⟨0, 0, b.getD a 0⟩ :: tokFrom b (a + 1) := by
  conv => lhs; rw [tokFrom]
  rw [dif_pos h, if_pos h0]
theorem tokFrom_more {b : List Int} {a : Nat} (h : a < b.length) (h0 : (bestL b a).1 ≠ 0) : tokFrom b a = ⟨((bestL b a).1 : Int), ((bestL b a).2 : Int), 0⟩ :: tokFrom b (a + (bestL b a).1) := by
  conv => lhs; rw [tokFrom]
  rw [dif_pos h, if_neg h0]
/-- As often as n, the byte that stands back ahead. -/
def copyL : Nat → List Int → Nat → List Int
  | 0, out, _ => out
  | n + 1, out, back => copyL n (out ++ [out.getD (out.length - back) 0]) back
theorem copyL_length : ∀ (n : Nat) (out : List Int) (back : Nat), (copyL n out back).length = out.length + n
  | 0, _, _ => rfl
  | n + 1, out, back => by rw [copyL, copyL_length n]; simp; omega
/-- What is wrong with a token behind so many bytes: nothing (0), or the errno. -/
def tokBad (have' : Nat) (t : Tok) : Int :=
  if t.len = 0 then (if 4000 ≤ have' then 4 else 0)
  else if t.len < 3 ∨ 66 < t.len ∨ t.back < 1 ∨ 1024 < t.back then 3
  else if (have' : Int) < t.back then 7
  else if 4000 < (have' : Int) + t.len then 4 else 0
/-- What comes of a token. -/
def tokPut (out : List Int) (t : Tok) : List Int := if t.len = 0 then out ++ [t.byte] else copyL t.len.toNat out t.back.toNat
/-- The text of tokens: all of it, and the fault (its errno, and where). -/
def textFrom (out : List Int) (i : Nat) : List Tok → List Int × Int × Int
  | [] => (out, 0, 0)
  | t :: l => if tokBad out.length t ≠ 0 then ([], tokBad out.length t, (i : Int)) else textFrom (tokPut out t) (i + 1) l
def textL (l : List Tok) : List Int × Int × Int := textFrom [] 0 l
theorem take_snoc (b : List Int) (a : Nat) (h : a < b.length) : b.take (a + 1) = b.take a ++ [b.getD a 0] := by
  rw [List.take_succ_eq_append_getElem h, List.getD_eq_getElem?_getD, List.getElem?_eq_getElem h]; rfl
theorem take_getD {b : List Int} {a j : Nat} (h : j < a) : (b.take a).getD j 0 = b.getD j 0 := by
  rw [List.getD_eq_getElem?_getD, List.getElem?_take, if_pos h, ← List.getD_eq_getElem?_getD]
/-- A stretch that lies over itself is written byte by byte. -/
theorem copy_match (b : List Int) (back : Nat) (hb : 1 ≤ back) : ∀ (n a : Nat), back ≤ a → a + n ≤ b.length → (∀ j, j < n → b.getD (a - back + j) 0 = b.getD (a + j) 0) → copyL n (b.take a) back = b.take (a + n)
  | 0, a, _, _, _ => rfl
  | n + 1, a, h1, h2, h => by
    have h0 := h 0 (by omega)
    rw [Nat.add_zero, Nat.add_zero] at h0
    have hl : (b.take a).length = a := by rw [List.length_take]; omega
    rw [copyL, hl, take_getD (by omega), h0, ← take_snoc b a (by omega), copy_match b back hb n (a + 1) (by omega) (by omega) (fun j hj => by
      have := h (j + 1) (by omega)
      rwa [show a - back + (j + 1) = a + 1 - back + j by omega, show a + (j + 1) = a + 1 + j by omega] at this)]
    congr 1
    omega
/-- WHAT IS PACKED IS UNPACKED: a text comes back from its tokens. -/
theorem text_tokens (b : List Int) (hb : b.length ≤ 4000) (d : Nat) : ∀ (a i : Nat), b.length - a = d → a ≤ b.length → textFrom (b.take a) i (tokFrom b a) = (b, 0, 0) := by
  induction d using Nat.strongRecOn with
  | ind d ih =>
    intro a i hd ha
    by_cases h : a < b.length
    · have hl : (b.take a).length = a := by rw [List.length_take]; omega
      rcases best_spec b a with hs | ⟨s1, s2, s3, s4, s5, s6, s7⟩
      · rw [tokFrom_byte h (by rw [hs]), textFrom]
        have hk : tokBad (b.take a).length ⟨0, 0, b.getD a 0⟩ = 0 := by unfold tokBad; rw [if_pos rfl, if_neg (by rw [hl]; omega)]
        rw [hk, if_neg (fun e => e rfl)]
        have hp : tokPut (b.take a) ⟨0, 0, b.getD a 0⟩ = b.take (a + 1) := by unfold tokPut; rw [if_pos rfl, take_snoc b a h]
        rw [hp]
        exact ih (b.length - (a + 1)) (by omega) (a + 1) (i + 1) rfl (by omega)
      · rw [tokFrom_more h (by omega), textFrom]
        generalize hn : (bestL b a).1 = n at *
        generalize hk : (bestL b a).2 = k at *
        have h0 : tokBad (b.take a).length ⟨(n : Int), (k : Int), 0⟩ = 0 := by
          unfold tokBad
          simp only
          rw [if_neg (by omega), if_neg (by omega), hl, if_neg (by omega), if_neg (by omega)]
        rw [h0, if_neg (fun e => e rfl)]
        have hp : tokPut (b.take a) ⟨(n : Int), (k : Int), 0⟩ = b.take (a + n) := by
          unfold tokPut
          simp only
          rw [if_neg (by omega), Int.toNat_natCast, Int.toNat_natCast]
          exact copy_match b k s4 n a s5 (by omega) (fun j hj => matchN_get (by omega))
        rw [hp]
        exact ih (b.length - (a + n)) (by omega) (a + n) (i + 1) rfl (by omega)
    · rw [tokFrom_end h, textFrom, List.take_of_length_le (by omega)]
theorem text_of_tokens {b : List Int} (hb : b.length ≤ 4000) : textL (tokensL b) = (b, 0, 0) := text_tokens b hb b.length 0 0 (by omega) (by omega)

end Go.Proofs.Ytkjlchfmplcobac
