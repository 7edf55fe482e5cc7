/- PackMath, PackWrite, PackSizes, as one text. -/
import Derived.WalkSmall
/- The plain mathematics of chapter 4: tokens, texts, what is packed and unpacked. Nothing of the program is in it. -/
namespace Go.Proofs.YtkjlchfmplcobaeDoor

/-- A token: so many bytes, that stood so many ahead; or, with no length, a byte. -/
structure Tok where
  len : Int
  back : Int
  byte : Int
deriving DecidableEq

/-- How many there are alike at the beginning of both. -/
def lcp : List Int → List Int → Nat
  | x :: xs, y :: ys => if x = y then lcp xs ys + 1 else 0
  | [], _ => 0
  | _ :: _, [] => 0
/-- How long a stretch from f on is that stands at a, too; MaxLength at most. -/
def matchN (b : List Int) (f a : Nat) : Nat := min 66 (lcp (b.drop f) (b.drop a))
/-- The longest one so far, or a longer one that stands back bytes ahead. -/
def bestStep (b : List Int) (a : Nat) (best : Nat × Nat) (k : Nat) : Nat × Nat :=
  if 3 ≤ matchN b (a - (k + 1)) a ∧ best.1 < matchN b (a - (k + 1)) a then (matchN b (a - (k + 1)) a, k + 1) else best
/-- The longest one of those that stand m ahead at most, the nearest one. -/
def bestTo (b : List Int) (a m : Nat) : Nat × Nat := (List.range m).foldl (bestStep b a) (0, 0)
def bestL (b : List Int) (a : Nat) : Nat × Nat := bestTo b a (min a 1024)
theorem bestTo_succ (b : List Int) (a m : Nat) : bestTo b a (m + 1) = bestStep b a (bestTo b a m) m := by
  unfold bestTo; rw [List.range_succ, List.foldl_append]; rfl
theorem lcp_le_right : ∀ (xs ys : List Int), lcp xs ys ≤ ys.length
  | [], ys => Nat.zero_le _
  | _ :: _, [] => Nat.zero_le _
  | x :: xs, y :: ys => by
    unfold lcp
    split
    · have := lcp_le_right xs ys; simp; omega
    · exact Nat.zero_le _
theorem lcp_get : ∀ (xs ys : List Int) (j : Nat), j < lcp xs ys → xs.getD j 0 = ys.getD j 0
  | [], _, j, h => by simp [lcp] at h
  | _ :: _, [], j, h => by simp [lcp] at h
  | x :: xs, y :: ys, j, h => by
    unfold lcp at h
    split at h
    · rename_i e
      cases j with
      | zero => simpa using e
      | succ j => simpa using lcp_get xs ys j (by omega)
    · omega
theorem lcp_more : ∀ (xs ys : List Int) (n : Nat), n ≤ xs.length → n ≤ ys.length → (∀ j, j < n → xs.getD j 0 = ys.getD j 0) → n ≤ lcp xs ys
  | [], _, n, h, _, _ => by simp at h; omega
  | _ :: _, [], n, _, h, _ => by simp at h; omega
  | x :: xs, y :: ys, n, h1, h2, h => by
    cases n with
    | zero => exact Nat.zero_le _
    | succ n =>
      have e : x = y := by simpa using h 0 (by omega)
      unfold lcp
      rw [if_pos e]
      have := lcp_more xs ys n (by simpa using h1) (by simpa using h2) (fun j hj => by simpa using h (j + 1) (by omega))
      omega
theorem drop_get (b : List Int) (f j : Nat) : (b.drop f).getD j 0 = b.getD (f + j) 0 := by rw [List.getD_eq_getElem?_getD, List.getElem?_drop, ← List.getD_eq_getElem?_getD]
theorem matchN_le (b : List Int) (f a : Nat) : matchN b f a ≤ 66 ∧ matchN b f a ≤ b.length - a := by
  have := lcp_le_right (b.drop f) (b.drop a)
  rw [List.length_drop] at this
  unfold matchN
  omega
theorem matchN_get {b : List Int} {f a j : Nat} (h : j < matchN b f a) : b.getD (f + j) 0 = b.getD (a + j) 0 := by
  have := lcp_get (b.drop f) (b.drop a) j (by unfold matchN at h; omega)
  rwa [drop_get, drop_get] at this
theorem matchN_more {b : List Int} {f a n : Nat} (hn : n ≤ 66) (hfa : f ≤ a) (ha : a + n ≤ b.length) (h : ∀ j, j < n → b.getD (f + j) 0 = b.getD (a + j) 0) : n ≤ matchN b f a := by
  have := lcp_more (b.drop f) (b.drop a) n (by rw [List.length_drop]; omega) (by rw [List.length_drop]; omega) (fun j hj => by rw [drop_get, drop_get]; exact h j hj)
  unfold matchN
  omega
/-- What is the best: nothing, or a stretch of at least three that stands so many ahead. -/
theorem bestTo_spec (b : List Int) (a m : Nat) : bestTo b a m = (0, 0) ∨ (3 ≤ (bestTo b a m).1 ∧ 1 ≤ (bestTo b a m).2 ∧ (bestTo b a m).2 ≤ m ∧ (bestTo b a m).1 = matchN b (a - (bestTo b a m).2) a) := by
  induction m with
  | zero => left; rfl
  | succ m ih =>
    rw [bestTo_succ]
    unfold bestStep
    split
    · rename_i h
      right
      exact ⟨h.1, by simp, by simp, rfl⟩
    · rcases ih with h | h
      · exact .inl h
      · right
        exact ⟨h.1, h.2.1, by omega, h.2.2.2⟩
theorem best_spec (b : List Int) (a : Nat) : bestL b a = (0, 0) ∨ (3 ≤ (bestL b a).1 ∧ (bestL b a).1 ≤ 66 ∧ (bestL b a).1 ≤ b.length - a ∧ 1 ≤ (bestL b a).2 ∧ (bestL b a).2 ≤ a ∧ (bestL b a).2 ≤ 1024 ∧ (bestL b a).1 = matchN b (a - (bestL b a).2) a) := by
  rcases bestTo_spec b a (min a 1024) with h | ⟨h1, h2, h3, h4⟩
  · exact .inl h
  · right
    have := matchN_le b (a - (bestTo b a (min a 1024)).2) a
    unfold bestL
    refine ⟨h1, by omega, by omega, h2, by omega, by omega, h4⟩
/-- From the left: a stretch that stood ahead, or a byte. -/
def tokFrom (b : List Int) (a : Nat) : List Tok :=
  if _h : a < b.length then
    if (bestL b a).1 = 0 then ⟨0, 0, b.getD a 0⟩ :: tokFrom b (a + 1) else ⟨((bestL b a).1 : Int), ((bestL b a).2 : Int), 0⟩ :: tokFrom b (a + (bestL b a).1)
  else []
termination_by b.length - a
def tokensL (b : List Int) : List Tok := tokFrom b 0
theorem tokFrom_end {b : List Int} {a : Nat} (h : ¬ a < b.length) : tokFrom b a = [] := by rw [tokFrom, dif_neg h]
theorem tokFrom_byte {b : List Int} {a : Nat} (h : a < b.length) (h0 : (bestL b a).1 = 0) : tokFrom b a = ⟨0, 0, b.getD a 0⟩ :: tokFrom b (a + 1) := by
  conv => lhs; rw [tokFrom]
  rw [dif_pos h, if_pos h0]
theorem tokFrom_more {b : List Int} {a : Nat} (h : a < b.length) (h0 : (bestL b a).1 ≠ 0) : tokFrom b a = ⟨((bestL b a).1 : Int), ((bestL b a).2 : Int), 0⟩ :: tokFrom b (a + (bestL b a).1) := by
  conv => lhs; rw [tokFrom]
  rw [dif_pos h, if_neg h0]
/-- As often as n, the byte that stands back ahead. -/
def copyL : Nat → List Int → Nat → List Int
  | 0, out, _ => out
  | n + 1, out, back => copyL n (out ++ [out.getD (out.length - back) 0]) back
theorem copyL_length : ∀ (n : Nat) (out : List Int) (back : Nat), (copyL n out back).length = out.length + n
  | 0, _, _ => rfl
  | n + 1, out, back => by rw [copyL, copyL_length n]; simp; omega
/-- What is wrong with a token behind so many bytes: nothing (0), or the errno. -/
def tokBad (have' : Nat) (t : Tok) : Int :=
  if t.len = 0 then (if 4000 ≤ have' then 4 else 0)
  else if t.len < 3 ∨ 66 < t.len ∨ t.back < 1 ∨ 1024 < t.back then 3
  else if (have' : Int) < t.back then 7
  else if 4000 < (have' : Int) + t.len then 4 else 0
/-- What comes of a token. -/
def tokPut (out : List Int) (t : Tok) : List Int := if t.len = 0 then out ++ [t.byte] else copyL t.len.toNat out t.back.toNat
/-- The text of tokens: all of it, and the fault (its errno, and where). -/
def textFrom (out : List Int) (i : Nat) : List Tok → List Int × Int × Int
  | [] => (out, 0, 0)
  | t :: l => if tokBad out.length t ≠ 0 then ([], tokBad out.length t, (i : Int)) else textFrom (tokPut out t) (i + 1) l
def textL (l : List Tok) : List Int × Int × Int := textFrom [] 0 l
theorem take_snoc (b : List Int) (a : Nat) (h : a < b.length) : b.take (a + 1) = b.take a ++ [b.getD a 0] := by
  rw [List.take_succ_eq_append_getElem h, List.getD_eq_getElem?_getD, List.getElem?_eq_getElem h]; rfl
theorem take_getD {b : List Int} {a j : Nat} (h : j < a) : (b.take a).getD j 0 = b.getD j 0 := by
  rw [List.getD_eq_getElem?_getD, List.getElem?_take, if_pos h, ← List.getD_eq_getElem?_getD]
/-- A stretch that lies over itself is written byte by byte. -/
theorem copy_match (b : List Int) (back : Nat) (hb : 1 ≤ back) : ∀ (n a : Nat), back ≤ a → a + n ≤ b.length → (∀ j, j < n → b.getD (a - back + j) 0 = b.getD (a + j) 0) → copyL n (b.take a) back = b.take (a + n)
  | 0, a, _, _, _ => rfl
  | n + 1, a, h1, h2, h => by
    have h0 := h 0 (by omega)
    rw [Nat.add_zero, Nat.add_zero] at h0
    have hl : (b.take a).length = a := by rw [List.length_take]; omega
    rw [copyL, hl, take_getD (by omega), h0, ← take_snoc b a (by omega), copy_match b back hb n (a + 1) (by omega) (by omega) (fun j hj => by
      have := h (j + 1) (by omega)
      rwa [show a - back + (j + 1) = a + 1 - back + j by omega, show a + (j + 1) = a + 1 + j by omega] at this)]
    congr 1
    omega
/-- WHAT IS PACKED IS UNPACKED: a text comes back from its tokens. -/
theorem text_tokens (b : List Int) (hb : b.length ≤ 4000) (d : Nat) : ∀ (a i : Nat), b.length - a = d → a ≤ b.length → textFrom (b.take a) i (tokFrom b a) = (b, 0, 0) := by
  induction d using Nat.strongRecOn with
  | ind d ih =>
    intro a i hd ha
    by_cases h : a < b.length
    · have hl : (b.take a).length = a := by rw [List.length_take]; omega
      rcases best_spec b a with hs | ⟨s1, s2, s3, s4, s5, s6, s7⟩
      · rw [tokFrom_byte h (by rw [hs]), textFrom]
        have hk : tokBad (b.take a).length ⟨0, 0, b.getD a 0⟩ = 0 := by unfold tokBad; rw [if_pos rfl, if_neg (by rw [hl]; omega)]
        rw [hk, if_neg (fun e => e rfl)]
        have hp : tokPut (b.take a) ⟨0, 0, b.getD a 0⟩ = b.take (a + 1) := by unfold tokPut; rw [if_pos rfl, take_snoc b a h]
        rw [hp]
        exact ih (b.length - (a + 1)) (by omega) (a + 1) (i + 1) rfl (by omega)
      · rw [tokFrom_more h (by omega), textFrom]
        generalize hn : (bestL b a).1 = n at *
        generalize hk : (bestL b a).2 = k at *
        have h0 : tokBad (b.take a).length ⟨(n : Int), (k : Int), 0⟩ = 0 := by
          unfold tokBad
          simp only
          rw [if_neg (by omega), if_neg (by omega), hl, if_neg (by omega), if_neg (by omega)]
        rw [h0, if_neg (fun e => e rfl)]
        have hp : tokPut (b.take a) ⟨(n : Int), (k : Int), 0⟩ = b.take (a + n) := by
          unfold tokPut
          simp only
          rw [if_neg (by omega), Int.toNat_natCast, Int.toNat_natCast]
          exact copy_match b k s4 n a s5 (by omega) (fun j hj => matchN_get (by omega))
        rw [hp]
        exact ih (b.length - (a + n)) (by omega) (a + n) (i + 1) rfl (by omega)
    · rw [tokFrom_end h, textFrom, List.take_of_length_le (by omega)]
theorem text_of_tokens {b : List Int} (hb : b.length ≤ 4000) : textL (tokensL b) = (b, 0, 0) := text_tokens b hb b.length 0 0 (by omega) (by omega)

end Go.Proofs.YtkjlchfmplcobaeDoor

/- The plain mathematics of chapter 4, second part: what is packed is unpacked. -/
namespace Go.Proofs.YtkjlchfmplcobaeDoor

/-- What is written of a token. -/
def tokX (t : Tok) : Int := 1024 * (t.len - 3) + t.back - 1
def bodyT (t : Tok) : List Int := if t.len = 0 then [t.byte] else [tokX t / 256, tokX t % 256]
/-- Which tokens have a length, the first one lowest. -/
def flagsN : List Tok → Nat
  | [] => 0
  | t :: l => (if t.len = 0 then 0 else 1) + 2 * flagsN l
/-- By eights. -/
def groupsL (l : List Tok) : List Int :=
  if _h : l.length = 0 then [] else (flagsN (l.take 8) : Int) :: ((l.take 8).flatMap bodyT ++ groupsL (l.drop 8))
termination_by l.length
decreasing_by rw [List.length_drop]; omega
theorem groupsL_none {l : List Tok} (h : l.length = 0) : groupsL l = [] := by rw [groupsL, dif_pos h]
theorem groupsL_more {l : List Tok} (h : l.length ≠ 0) : groupsL l = (flagsN (l.take 8) : Int) :: ((l.take 8).flatMap bodyT ++ groupsL (l.drop 8)) := by
  conv => lhs; rw [groupsL]
  rw [dif_neg h]
def writeL (l : List Tok) (size : Nat) : List Int := [((size / 256 : Nat) : Int), ((size % 256 : Nat) : Int)] ++ groupsL l
def packL (b : List Int) : List Int := writeL (tokensL b) b.length
theorem flagsN_cons (t : Tok) (l : List Tok) : flagsN (t :: l) = (if t.len = 0 then 0 else 1) + 2 * flagsN l := rfl
theorem flagsN_lt : ∀ (l : List Tok), flagsN l < 2 ^ l.length
  | [] => by decide
  | t :: l => by
    have := flagsN_lt l
    rw [List.length_cons, Nat.pow_succ]
    unfold flagsN
    split <;> omega
theorem flagsN_byte (l : List Tok) : flagsN (l.take 8) < 256 := by
  have h := flagsN_lt (l.take 8)
  have h2 : 2 ^ (l.take 8).length ≤ 2 ^ 8 := Nat.pow_le_pow_right (by decide) (by rw [List.length_take]; omega)
  omega
/-- Bytes gone through, till so many came: what came, how far, and the flags that are left. -/
def unGo (b : List Int) (size : Nat) (out : List Int) (at' flags left : Nat) : Option (List Int × Nat × Nat) :=
  if _h : out.length < size then
    if left = 0 ∧ ¬ at' < b.length then none else
    let a := if left = 0 then at' + 1 else at'
    let f := if left = 0 then (b.getD at' 0).toNat else flags
    let l := if left = 0 then 8 else left
    if f % 2 = 0 then
      (if a < b.length then unGo b size (out ++ [b.getD a 0]) (a + 1) (f / 2) (l - 1) else none)
    else if a + 1 < b.length then
      (let x := (256 * b.getD a 0 + b.getD (a + 1) 0).toNat
       if out.length < x % 1024 + 1 then none else unGo b size (copyL (x / 1024 + 3) out (x % 1024 + 1)) (a + 2) (f / 2) (l - 1))
    else none
  else some (out, at', flags)
termination_by size - out.length
decreasing_by
  · simp only [List.length_append, List.length_singleton]; omega
  · rw [copyL_length]; omega
def unpackL (b : List Int) : List Int × Int :=
  if b.length < 2 then ([], 2) else
  if 4000 < (256 * b.getD 0 0 + b.getD 1 0).toNat then ([], 4) else
  match unGo b (256 * b.getD 0 0 + b.getD 1 0).toNat [] 2 0 0 with
  | none => ([], 2)
  | some (out, at', flags) => if at' ≠ b.length ∨ out.length ≠ (256 * b.getD 0 0 + b.getD 1 0).toNat ∨ flags ≠ 0 then ([], 2) else (out, 0)
theorem unGo_end {b : List Int} {size : Nat} {out : List Int} {a f l : Nat} (h : ¬ out.length < size) : unGo b size out a f l = some (out, a, f) := by rw [unGo, dif_neg h]
theorem unGo_flags {b : List Int} {size : Nat} {out : List Int} {a f : Nat} (h : out.length < size) (ha : a < b.length) : unGo b size out a f 0 = unGo b size out (a + 1) (b.getD a 0).toNat 8 := by
  conv => lhs; rw [unGo]
  conv => rhs; rw [unGo]
  have e1 : ¬ ((0 : Nat) = 0 ∧ ¬ a < b.length) := by omega
  have e2 : ¬ ((8 : Nat) = 0 ∧ ¬ a + 1 < b.length) := by omega
  rw [dif_pos h, dif_pos h, if_neg e1, if_neg e2]
  simp
theorem unGo_byte {b : List Int} {size : Nat} {out : List Int} {a f l : Nat} (h : out.length < size) (hl : l ≠ 0) (hf : f % 2 = 0) (ha : a < b.length) : unGo b size out a f l = unGo b size (out ++ [b.getD a 0]) (a + 1) (f / 2) (l - 1) := by
  conv => lhs; rw [unGo]
  rw [dif_pos h, if_neg (by omega)]
  simp only [if_neg hl]
  rw [if_pos hf, if_pos ha]
theorem unGo_more {b : List Int} {size : Nat} {out : List Int} {a f l : Nat} (h : out.length < size) (hl : l ≠ 0) (hf : f % 2 ≠ 0) (ha : a + 1 < b.length) (hx : ¬ out.length < (256 * b.getD a 0 + b.getD (a + 1) 0).toNat % 1024 + 1) :
    unGo b size out a f l = unGo b size (copyL ((256 * b.getD a 0 + b.getD (a + 1) 0).toNat / 1024 + 3) out ((256 * b.getD a 0 + b.getD (a + 1) 0).toNat % 1024 + 1)) (a + 2) (f / 2) (l - 1) := by
  conv => lhs; rw [unGo]
  rw [dif_pos h, if_neg (by omega)]
  simp only [if_neg hl]
  rw [if_neg hf, if_pos ha, if_neg hx]
theorem mid_get {pre x post : List Int} {j : Nat} (hj : j < x.length) : (pre ++ x ++ post).getD (pre.length + j) 0 = x.getD j 0 := by
  rw [List.append_assoc, List.getD_eq_getElem?_getD, List.getElem?_append_right (by omega), Nat.add_sub_cancel_left, List.getElem?_append_left hj, ← List.getD_eq_getElem?_getD]
theorem tokPut_length (out : List Int) (t : Tok) : out.length < (tokPut out t).length ∨ t.len < 0 := by
  unfold tokPut
  split
  · left; simp
  · rw [copyL_length]; omega
theorem bad_len {n : Nat} {t : Tok} (h : tokBad n t = 0) : t.len = 0 ∨ (3 ≤ t.len ∧ t.len ≤ 66 ∧ 1 ≤ t.back ∧ t.back ≤ 1024 ∧ t.back ≤ (n : Int) ∧ (n : Int) + t.len ≤ 4000) := by
  unfold tokBad at h
  split at h
  · left; assumption
  · right
    split at h
    · cases h
    · split at h
      · cases h
      · split at h
        · cases h
        · omega
theorem textFrom_cons {out : List Int} {i : Nat} {t : Tok} {l : List Tok} {fin : List Int} (h : textFrom out i (t :: l) = (fin, 0, 0)) : tokBad out.length t = 0 ∧ textFrom (tokPut out t) (i + 1) l = (fin, 0, 0) := by
  rw [textFrom] at h
  split at h
  · rename_i hb
    simp only [Prod.mk.injEq] at h
    exact absurd h.2.1 hb
  · rename_i hb
    exact ⟨Decidable.not_not.1 hb, h⟩
theorem put_grows {out : List Int} {t : Tok} (h : tokBad out.length t = 0) : out.length + 1 ≤ (tokPut out t).length := by
  rcases tokPut_length out t with h1 | h1
  · omega
  · rcases bad_len h with h2 | h2 <;> omega
theorem text_grows : ∀ (l : List Tok) (out : List Int) (i : Nat) (fin : List Int), textFrom out i l = (fin, 0, 0) → out.length + l.length ≤ fin.length
  | [], out, i, fin, h => by
    rw [textFrom] at h
    cases h
    simp
  | t :: l, out, i, fin, h => by
    obtain ⟨h1, h2⟩ := textFrom_cons h
    have := text_grows l _ _ _ h2
    have := put_grows h1
    simp
    omega
/-- One token more. -/
theorem unGo_step {pre post : List Int} {size : Nat} {out : List Int} {t : Tok} {gs : List Tok} {l : Nat} (h : out.length < size) (hl : l ≠ 0) (hb : tokBad out.length t = 0) :
    unGo (pre ++ bodyT t ++ post) size out pre.length (flagsN (t :: gs)) l = unGo (pre ++ bodyT t ++ post) size (tokPut out t) (pre.length + (bodyT t).length) (flagsN gs) (l - 1) := by
  by_cases h0 : t.len = 0
  · have hB : bodyT t = [t.byte] := by unfold bodyT; rw [if_pos h0]
    have hf : flagsN (t :: gs) = 2 * flagsN gs := by rw [flagsN_cons, if_pos h0]; omega
    have hg : (pre ++ bodyT t ++ post).getD pre.length 0 = t.byte := by
      have := mid_get (pre := pre) (x := bodyT t) (post := post) (j := 0) (by rw [hB]; simp)
      rw [Nat.add_zero] at this
      rw [this, hB]; rfl
    rw [hf, unGo_byte h hl (by omega) (by rw [hB]; simp), hg, show 2 * flagsN gs / 2 = flagsN gs by omega, hB]
    unfold tokPut
    rw [if_pos h0]
    rfl
  · have hB : bodyT t = [tokX t / 256, tokX t % 256] := by unfold bodyT; rw [if_neg h0]
    have hf : flagsN (t :: gs) = 1 + 2 * flagsN gs := by rw [flagsN_cons, if_neg h0]
    have hg0 : (pre ++ bodyT t ++ post).getD pre.length 0 = tokX t / 256 := by
      have := mid_get (pre := pre) (x := bodyT t) (post := post) (j := 0) (by rw [hB]; simp)
      rw [Nat.add_zero] at this
      rw [this, hB]; rfl
    have hg1 : (pre ++ bodyT t ++ post).getD (pre.length + 1) 0 = tokX t % 256 := by
      rw [mid_get (pre := pre) (x := bodyT t) (post := post) (j := 1) (by rw [hB]; simp), hB]; rfl
    have hx : 256 * (pre ++ bodyT t ++ post).getD pre.length 0 + (pre ++ bodyT t ++ post).getD (pre.length + 1) 0 = tokX t := by rw [hg0, hg1]; omega
    obtain ⟨b1, b2, b3, b4, b5, b6⟩ := (bad_len hb).resolve_left h0
    have hX : tokX t = 1024 * (t.len - 3) + t.back - 1 := rfl
    have e1 : (tokX t).toNat % 1024 + 1 = t.back.toNat := by omega
    have e2 : (tokX t).toNat / 1024 + 3 = t.len.toNat := by omega
    have hm := unGo_more (b := pre ++ bodyT t ++ post) (size := size) (out := out) (a := pre.length) (f := flagsN (t :: gs)) (l := l) h hl (by rw [hf]; omega) (by rw [hB]; simp) (by rw [hx, e1]; omega)
    rw [hx, e1, e2] at hm
    rw [hm, hf, show (1 + 2 * flagsN gs) / 2 = flagsN gs by omega, hB]
    unfold tokPut
    rw [if_neg h0]
    rfl
theorem unGo_all (m : Nat) : ∀ (gs ts : List Tok) (pre out : List Int) (i l : Nat) (fin : List Int), gs.length + ts.length = m → gs.length ≤ l → (ts.length ≠ 0 → l = gs.length) → textFrom out i (gs ++ ts) = (fin, 0, 0) →
    unGo (pre ++ gs.flatMap bodyT ++ groupsL ts) fin.length out pre.length (flagsN gs) l = some (fin, (pre ++ gs.flatMap bodyT ++ groupsL ts).length, 0) := by
  induction m using Nat.strongRecOn with
  | ind m ih =>
    have step : ∀ (t : Tok) (gs ts : List Tok) (pre out : List Int) (i l : Nat) (fin : List Int), (t :: gs).length + ts.length = m → (t :: gs).length ≤ l → (ts.length ≠ 0 → l = (t :: gs).length) → textFrom out i (t :: gs ++ ts) = (fin, 0, 0) →
        unGo (pre ++ (t :: gs).flatMap bodyT ++ groupsL ts) fin.length out pre.length (flagsN (t :: gs)) l = some (fin, (pre ++ (t :: gs).flatMap bodyT ++ groupsL ts).length, 0) := by
      intro t gs ts pre out i l fin hm hl ht hx
      obtain ⟨h1, h2⟩ := textFrom_cons hx
      have hlen := text_grows _ _ _ _ hx
      rw [List.length_append, List.length_cons] at hlen
      rw [List.length_cons] at hm hl ht
      have e : pre ++ (t :: gs).flatMap bodyT ++ groupsL ts = pre ++ bodyT t ++ (gs.flatMap bodyT ++ groupsL ts) := by simp [List.flatMap_cons]
      rw [e, unGo_step (by omega) (by omega) h1]
      have e2 : pre ++ bodyT t ++ (gs.flatMap bodyT ++ groupsL ts) = (pre ++ bodyT t) ++ gs.flatMap bodyT ++ groupsL ts := by simp
      rw [e2, show pre.length + (bodyT t).length = (pre ++ bodyT t).length by rw [List.length_append]]
      exact ih (gs.length + ts.length) (by omega) gs ts (pre ++ bodyT t) (tokPut out t) (i + 1) (l - 1) fin rfl (by omega) (fun h => by have := ht h; omega) h2
    intro gs ts pre out i l fin hm hl ht hx
    match gs, hm, hl, ht, hx with
    | t :: gs, hm, hl, ht, hx => exact step t gs ts pre out i l fin hm hl ht hx
    | [], hm, hl, ht, hx =>
      by_cases h0 : ts.length = 0
      · have e0 : ts = [] := List.length_eq_zero_iff.1 h0
        subst e0
        rw [List.append_nil, textFrom] at hx
        cases hx
        rw [unGo_end (by omega), groupsL_none rfl]
        simp [flagsN]
      · have hl0 := ht h0
        rw [List.length_nil] at hl0
        subst hl0
        have hlen := text_grows _ _ _ _ hx
        rw [List.nil_append] at hlen hx
        have e : pre ++ ([] : List Tok).flatMap bodyT ++ groupsL ts = (pre ++ [(flagsN (ts.take 8) : Int)]) ++ (ts.take 8).flatMap bodyT ++ groupsL (ts.drop 8) := by
          rw [groupsL_more h0]; simp
        have hg : ((pre ++ [(flagsN (ts.take 8) : Int)]) ++ (ts.take 8).flatMap bodyT ++ groupsL (ts.drop 8)).getD pre.length 0 = (flagsN (ts.take 8) : Int) := by
          have := mid_get (pre := pre) (x := [(flagsN (ts.take 8) : Int)]) (post := (ts.take 8).flatMap bodyT ++ groupsL (ts.drop 8)) (j := 0) (by simp)
          rw [Nat.add_zero] at this
          rw [List.append_assoc]
          exact this
        rw [e, show flagsN [] = 0 from rfl, unGo_flags (by omega) (by simp), hg, Int.toNat_natCast, show pre.length + 1 = (pre ++ [(flagsN (ts.take 8) : Int)]).length by simp]
        have hsp : ts = ts.take 8 ++ ts.drop 8 := (List.take_append_drop 8 ts).symm
        match hts : ts.take 8 with
        | [] =>
          have h1 : (ts.take 8).length = 0 := by rw [hts]; rfl
          rw [List.length_take] at h1
          omega
        | t :: g =>
          have hl8 : (t :: g).length ≤ 8 := by rw [← hts, List.length_take]; omega
          have hx2 : textFrom out i (t :: g ++ ts.drop 8) = (fin, 0, 0) := by rw [← hts, ← hsp]; exact hx
          refine step t g (ts.drop 8) (pre ++ [(flagsN (t :: g) : Int)]) out i 8 fin ?_ hl8 (fun h => ?_) hx2
          · rw [← hts, List.length_take, List.length_drop]; rw [List.length_nil] at hm; omega
          · rw [← hts, List.length_take]; rw [List.length_drop] at h; omega
/-- WHAT IS PACKED IS UNPACKED. -/
theorem unpack_write {l : List Tok} {fin : List Int} (h : textL l = (fin, 0, 0)) (hn : fin.length ≤ 4000) : unpackL (writeL l fin.length) = (fin, 0) := by
  have e0 : (writeL l fin.length).getD 0 0 = ((fin.length / 256 : Nat) : Int) := rfl
  have e1 : (writeL l fin.length).getD 1 0 = ((fin.length % 256 : Nat) : Int) := rfl
  have hs : (256 * (writeL l fin.length).getD 0 0 + (writeL l fin.length).getD 1 0).toNat = fin.length := by rw [e0, e1]; omega
  have hl2 : 2 ≤ (writeL l fin.length).length := by unfold writeL; simp
  have hu := unGo_all l.length [] l [((fin.length / 256 : Nat) : Int), ((fin.length % 256 : Nat) : Int)] [] 0 0 fin (by simp) (by simp) (fun _ => rfl) h
  have hw : [((fin.length / 256 : Nat) : Int), ((fin.length % 256 : Nat) : Int)] ++ ([] : List Tok).flatMap bodyT ++ groupsL l = writeL l fin.length := by unfold writeL; simp
  rw [hw] at hu
  unfold unpackL
  rw [if_neg (by omega), hs, if_neg (by omega)]
  have hu' : unGo (writeL l fin.length) fin.length [] 2 0 0 = some (fin, (writeL l fin.length).length, 0) := hu
  rw [hu']
  simp
theorem unpack_pack {b : List Int} (hb : b.length ≤ 4000) : unpackL (packL b) = (b, 0) := unpack_write (text_of_tokens hb) hb

end Go.Proofs.YtkjlchfmplcobaeDoor

/- The plain mathematics of chapter 4, third part: how long what is packed is; a text's beginning; tokens one behind the other. -/
namespace Go.Proofs.YtkjlchfmplcobaeDoor

theorem bodyT_le (t : Tok) : (bodyT t).length ≤ 2 ∧ (t.len = 0 → (bodyT t).length = 1) := by
  unfold bodyT
  split
  · simp
  · rename_i h; exact ⟨by simp, fun e => absurd e h⟩
/-- Tokens, and what is written of them, are no more than the bytes that they stand for. -/
theorem tok_few (b : List Int) (d : Nat) : ∀ a, b.length - a = d → (tokFrom b a).length ≤ d ∧ ((tokFrom b a).flatMap bodyT).length ≤ d := by
  induction d using Nat.strongRecOn with
  | ind d ih =>
    intro a hd
    by_cases h : a < b.length
    · rcases best_spec b a with hs | ⟨s1, s2, s3, -⟩
      · obtain ⟨i1, i2⟩ := ih (b.length - (a + 1)) (by omega) (a + 1) rfl
        rw [tokFrom_byte h (by rw [hs]), List.length_cons, List.flatMap_cons, List.length_append, (bodyT_le _).2 rfl]
        omega
      · obtain ⟨i1, i2⟩ := ih (b.length - (a + (bestL b a).1)) (by omega) (a + (bestL b a).1) rfl
        rw [tokFrom_more h (by omega), List.length_cons, List.flatMap_cons, List.length_append]
        have := (bodyT_le ⟨((bestL b a).1 : Int), ((bestL b a).2 : Int), 0⟩).1
        omega
    · rw [tokFrom_end h]; simp
end Go.Proofs.YtkjlchfmplcobaeDoor
