/- PackMath, PackWrite, PackSizes, ShelfLay, TreeGoBox, PackLong, PackRead, as one text. -/
import Derived.WalkSmall
import Derived.WalkKit
import Derived.OneCell
import Derived.Laws.Rows
/- The plain mathematics of chapter 4: tokens, texts, what is packed and unpacked. Nothing of the program is in it. -/
namespace Go.Proofs.YtkjlchfmplcobadDoor

/-- A token: so many bytes, that stood so many ahead; or, with no length, a byte. -/
structure Tok where
  len : Int
  back : Int
  byte : Int
deriving DecidableEq

/-- How many there are alike at the beginning of both. -/
def lcp : List Int → List Int → Nat
  | x :: xs, y :: ys => if x = y then lcp xs ys + 1 else 0
  | [], _ => 0
  | _ :: _, [] => 0
/-- How long a stretch from f on is that stands at a, too; MaxLength at most. -/
def matchN (b : List Int) (f a : Nat) : Nat := min 66 (lcp (b.drop f) (b.drop a))
/-- The longest one so far, or a longer one that stands back bytes ahead. -/
def bestStep (b : List Int) (a : Nat) (best : Nat × Nat) (k : Nat) : Nat × Nat :=
  if 3 ≤ matchN b (a - (k + 1)) a ∧ best.1 < matchN b (a - (k + 1)) a then (matchN b (a - (k + 1)) a, k + 1) else best
/-- The longest one of those that stand m ahead at most, the nearest one. -/
def bestTo (b : List Int) (a m : Nat) : Nat × Nat := (List.range m).foldl (bestStep b a) (0, 0)
def bestL (b : List Int) (a : Nat) : Nat × Nat := bestTo b a (min a 1024)
theorem bestTo_zero (b : List Int) (a : Nat) : bestTo b a 0 = (0, 0) := rfl
theorem bestTo_succ (b : List Int) (a m : Nat) : bestTo b a (m + 1) = bestStep b a (bestTo b a m) m := by
  unfold bestTo; rw [List.range_succ, List.foldl_append]; rfl
theorem lcp_le_right : ∀ (xs ys : List Int), lcp xs ys ≤ ys.length
  | [], ys => Nat.zero_le _
  | _ :: _, [] => Nat.zero_le _
  | x :: xs, y :: ys => by
    unfold lcp
    split
    · have := lcp_le_right xs ys; simp; omega
    · exact Nat.zero_le _
theorem lcp_get : ∀ (xs ys : List Int) (j : Nat), j < lcp xs ys → xs.getD j 0 = ys.getD j 0
  | [], _, j, h => by simp [lcp] at h
  | _ :: _, [], j, h => by simp [lcp] at h
  | x :: xs, y :: ys, j, h => by
    unfold lcp at h
    split at h
    · rename_i e
      cases j with
      | zero => simpa using e
      | succ j => simpa using lcp_get xs ys j (by omega)
    · omega
theorem lcp_more : ∀ (xs ys : List Int) (n : Nat), n ≤ xs.length → n ≤ ys.length → (∀ j, j < n → xs.getD j 0 = ys.getD j 0) → n ≤ lcp xs ys
  | [], _, n, h, _, _ => by simp at h; omega
  | _ :: _, [], n, _, h, _ => by simp at h; omega
  | x :: xs, y :: ys, n, h1, h2, h => by
    cases n with
    | zero => exact Nat.zero_le _
    | succ n =>
      have e : x = y := by simpa using h 0 (by omega)
      unfold lcp
      rw [if_pos e]
      have := lcp_more xs ys n (by simpa using h1) (by simpa using h2) (fun j hj => by simpa using h (j + 1) (by omega))
      omega
theorem drop_get (b : List Int) (f j : Nat) : (b.drop f).getD j 0 = b.getD (f + j) 0 := by rw [List.getD_eq_getElem?_getD, List.getElem?_drop, ← List.getD_eq_getElem?_getD]
theorem matchN_le (b : List Int) (f a : Nat) : matchN b f a ≤ 66 ∧ matchN b f a ≤ b.length - a := by
  have := lcp_le_right (b.drop f) (b.drop a)
  rw [List.length_drop] at this
  unfold matchN
  omega
theorem matchN_get {b : List Int} {f a j : Nat} (h : j < matchN b f a) : b.getD (f + j) 0 = b.getD (a + j) 0 := by
  have := lcp_get (b.drop f) (b.drop a) j (by unfold matchN at h; omega)
  rwa [drop_get, drop_get] at this
theorem matchN_more {b : List Int} {f a n : Nat} (hn : n ≤ 66) (hfa : f ≤ a) (ha : a + n ≤ b.length) (h : ∀ j, j < n → b.getD (f + j) 0 = b.getD (a + j) 0) : n ≤ matchN b f a := by
  have := lcp_more (b.drop f) (b.drop a) n (by rw [List.length_drop]; omega) (by rw [List.length_drop]; omega) (fun j hj => by rw [drop_get, drop_get]; exact h j hj)
  unfold matchN
  omega
/-- What is the best: nothing, or a stretch of at least three that stands so many ahead. -/
theorem bestTo_spec (b : List Int) (a m : Nat) : bestTo b a m = (0, 0) ∨ (3 ≤ (bestTo b a m).1 ∧ 1 ≤ (bestTo b a m).2 ∧ (bestTo b a m).2 ≤ m ∧ (bestTo b a m).1 = matchN b (a - (bestTo b a m).2) a) := by
  induction m with
  | zero => left; rfl
  | succ m ih =>
    rw [bestTo_succ]
    unfold bestStep
    split
    · rename_i h
      right
      exact ⟨h.1, by simp, by simp, rfl⟩
    · rcases ih with h | h
      · exact .inl h
      · right
        exact ⟨h.1, h.2.1, by omega, h.2.2.2⟩
theorem best_spec (b : List Int) (a : Nat) : bestL b a = (0, 0) ∨ (3 ≤ (bestL b a).1 ∧ (bestL b a).1 ≤ 66 ∧ (bestL b a).1 ≤ b.length - a ∧ 1 ≤ (bestL b a).2 ∧ (bestL b a).2 ≤ a ∧ (bestL b a).2 ≤ 1024 ∧ (bestL b a).1 = matchN b (a - (bestL b a).2) a) := by
  rcases bestTo_spec b a (min a 1024) with h | ⟨h1, h2, h3, h4⟩
  · exact .inl h
  · right
    have := matchN_le b (a - (bestTo b a (min a 1024)).2) a
    unfold bestL
    refine ⟨h1, by omega, by omega, h2, by omega, by omega, h4⟩
/-- From the left: a stretch that stood ahead, or a byte. -/
def tokFrom (b : List Int) (a : Nat) : List Tok :=
  if _h : a < b.length then
    if (bestL b a).1 = 0 then ⟨0, 0, b.getD a 0⟩ :: tokFrom b (a + 1) else ⟨((bestL b a).1 : Int), ((bestL b a).2 : Int), 0⟩ :: tokFrom b (a + (bestL b a).1)
  else []
termination_by b.length - a
def tokensL (b : List Int) : List Tok := tokFrom b 0
theorem tokFrom_end {b : List Int} {a : Nat} (h : ¬ a < b.length) : tokFrom b a = [] := by rw [tokFrom, dif_neg h]
theorem tokFrom_byte {b : List Int} {a : Nat} (h : a < b.length) (h0 : (bestL b a).1 = 0) : tokFrom b a = ⟨0, 0, b.getD a 0⟩ :: tokFrom b (a + 1) := by
  conv => lhs; rw [tokFrom]
  rw [dif_pos h, if_pos h0]
theorem tokFrom_more {b : List Int} {a : Nat} (h : a < b.length) (h0 : (bestL b a).1 ≠ 0) : tokFrom b a = ⟨((bestL b a).1 : Int), ((bestL b a).2 : Int), 0⟩ :: tokFrom b (a + (bestL b a).1) := by
  conv => lhs; rw [tokFrom]
  rw [dif_pos h, if_neg h0]
/-- As often as n, the byte that stands back ahead. -/
def copyL : Nat → List Int → Nat → List Int
  | 0, out, _ => out
  | n + 1, out, back => copyL n (out ++ [out.getD (out.length - back) 0]) back
theorem copyL_length : ∀ (n : Nat) (out : List Int) (back : Nat), (copyL n out back).length = out.length + n
  | 0, _, _ => rfl
  | n + 1, out, back => by rw [copyL, copyL_length n]; simp; omega
/-- What is wrong with a token behind so many bytes: nothing (0), or the errno. -/
def tokBad (have' : Nat) (t : Tok) : Int :=
  if t.len = 0 then (if 4000 ≤ have' then 4 else 0)
  else if t.len < 3 ∨ 66 < t.len ∨ t.back < 1 ∨ 1024 < t.back then 3
  else if (have' : Int) < t.back then 7
  else if 4000 < (have' : Int) + t.len then 4 else 0
/-- What comes of a token. -/
def tokPut (out : List Int) (t : Tok) : List Int := if t.len = 0 then out ++ [t.byte] else copyL t.len.toNat out t.back.toNat
/-- The text of tokens: all of it, and the fault (its errno, and where). -/
def textFrom (out : List Int) (i : Nat) : List Tok → List Int × Int × Int
  | [] => (out, 0, 0)
  | t :: l => if tokBad out.length t ≠ 0 then ([], tokBad out.length t, (i : Int)) else textFrom (tokPut out t) (i + 1) l
def textL (l : List Tok) : List Int × Int × Int := textFrom [] 0 l
end Go.Proofs.YtkjlchfmplcobadDoor

/- The plain mathematics of chapter 4, second part: what is packed is unpacked. -/
namespace Go.Proofs.YtkjlchfmplcobadDoor

/-- What is written of a token. -/
def tokX (t : Tok) : Int := 1024 * (t.len - 3) + t.back - 1
def bodyT (t : Tok) : List Int := if t.len = 0 then [t.byte] else [tokX t / 256, tokX t % 256]
/-- Which tokens have a length, the first one lowest. -/
def flagsN : List Tok → Nat
  | [] => 0
  | t :: l => (if t.len = 0 then 0 else 1) + 2 * flagsN l
/-- By eights. -/
def groupsL (l : List Tok) : List Int :=
  if _h : l.length = 0 then [] else (flagsN (l.take 8) : Int) :: ((l.take 8).flatMap bodyT ++ groupsL (l.drop 8))
termination_by l.length
decreasing_by rw [List.length_drop]; omega
theorem groupsL_none {l : List Tok} (h : l.length = 0) : groupsL l = [] := by rw [groupsL, dif_pos h]
theorem groupsL_more {l : List Tok} (h : l.length ≠ 0) : groupsL l = (flagsN (l.take 8) : Int) :: ((l.take 8).flatMap bodyT ++ groupsL (l.drop 8)) := by
  conv => lhs; rw [groupsL]
  rw [dif_neg h]
def writeL (l : List Tok) (size : Nat) : List Int := [((size / 256 : Nat) : Int), ((size % 256 : Nat) : Int)] ++ groupsL l
def packL (b : List Int) : List Int := writeL (tokensL b) b.length
theorem flagsN_cons (t : Tok) (l : List Tok) : flagsN (t :: l) = (if t.len = 0 then 0 else 1) + 2 * flagsN l := rfl
theorem flagsN_lt : ∀ (l : List Tok), flagsN l < 2 ^ l.length
  | [] => by decide
  | t :: l => by
    have := flagsN_lt l
    rw [List.length_cons, Nat.pow_succ]
    unfold flagsN
    split <;> omega
theorem flagsN_byte (l : List Tok) : flagsN (l.take 8) < 256 := by
  have h := flagsN_lt (l.take 8)
  have h2 : 2 ^ (l.take 8).length ≤ 2 ^ 8 := Nat.pow_le_pow_right (by decide) (by rw [List.length_take]; omega)
  omega
/-- Bytes gone through, till so many came: what came, how far, and the flags that are left. -/
def unGo (b : List Int) (size : Nat) (out : List Int) (at' flags left : Nat) : Option (List Int × Nat × Nat) :=
  if _h : out.length < size then
    if left = 0 ∧ ¬ at' < b.length then none else
    let a := if left = 0 then at' + 1 else at'
    let f := if left = 0 then (b.getD at' 0).toNat else flags
    let l := if left = 0 then 8 else left
    if f % 2 = 0 then
      (if a < b.length then unGo b size (out ++ [b.getD a 0]) (a + 1) (f / 2) (l - 1) else none)
    else if a + 1 < b.length then
      (let x := (256 * b.getD a 0 + b.getD (a + 1) 0).toNat
       if out.length < x % 1024 + 1 then none else unGo b size (copyL (x / 1024 + 3) out (x % 1024 + 1)) (a + 2) (f / 2) (l - 1))
    else none
  else some (out, at', flags)
termination_by size - out.length
decreasing_by
  · simp only [List.length_append, List.length_singleton]; omega
  · rw [copyL_length]; omega
def unpackL (b : List Int) : List Int × Int :=
  if b.length < 2 then ([], 2) else
  if 4000 < (256 * b.getD 0 0 + b.getD 1 0).toNat then ([], 4) else
  match unGo b (256 * b.getD 0 0 + b.getD 1 0).toNat [] 2 0 0 with
  | none => ([], 2)
  | some (out, at', flags) => if at' ≠ b.length ∨ out.length ≠ (256 * b.getD 0 0 + b.getD 1 0).toNat ∨ flags ≠ 0 then ([], 2) else (out, 0)
theorem unGo_end {b : List Int} {size : Nat} {out : List Int} {a f l : Nat} (h : ¬ out.length < size) : unGo b size out a f l = some (out, a, f) := by rw [unGo, dif_neg h]
theorem unGo_flags {b : List Int} {size : Nat} {out : List Int} {a f : Nat} (h : out.length < size) (ha : a < b.length) : unGo b size out a f 0 = unGo b size out (a + 1) (b.getD a 0).toNat 8 := by
  conv => lhs; rw [unGo]
  conv => rhs; rw [unGo]
  have e1 : ¬ ((0 : Nat) = 0 ∧ ¬ a < b.length) := by omega
  have e2 : ¬ ((8 : Nat) = 0 ∧ ¬ a + 1 < b.length) := by omega
  rw [dif_pos h, dif_pos h, if_neg e1, if_neg e2]
  simp
theorem unGo_byte {b : List Int} {size : Nat} {out : List Int} {a f l : Nat} (h : out.length < size) (hl : l ≠ 0) (hf : f % 2 = 0) (ha : a < b.length) : unGo b size out a f l = unGo b size (out ++ [b.getD a 0]) (a + 1) (f / 2) (l - 1) := by
  conv => lhs; rw [unGo]
  rw [dif_pos h, if_neg (by omega)]
  simp only [if_neg hl]
  rw [if_pos hf, if_pos ha]
theorem unGo_more {b : List Int} {size : Nat} {out : List Int} {a f l : Nat} (h : out.length < size) (hl : l ≠ 0) (hf : f % 2 ≠ 0) (ha : a + 1 < b.length) (hx : ¬ out.length < (256 * b.getD a 0 + b.getD (a + 1) 0).toNat % 1024 + 1) :
    unGo b size out a f l = unGo b size (copyL ((256 * b.getD a 0 + b.getD (a + 1) 0).toNat / 1024 + 3) out ((256 * b.getD a 0 + b.getD (a + 1) 0).toNat % 1024 + 1)) (a + 2) (f / 2) (l - 1) := by
  conv => lhs; rw [unGo]
  rw [dif_pos h, if_neg (by omega)]
  simp only [if_neg hl]
  rw [if_neg hf, if_pos ha, if_neg hx]
theorem bad_len {n : Nat} {t : Tok} (h : tokBad n t = 0) : t.len = 0 ∨ (3 ≤ t.len ∧ t.len ≤ 66 ∧ 1 ≤ t.back ∧ t.back ≤ 1024 ∧ t.back ≤ (n : Int) ∧ (n : Int) + t.len ≤ 4000) := by
  unfold tokBad at h
  split at h
  · left; assumption
  · right
    split at h
    · cases h
    · split at h
      · cases h
      · split at h
        · cases h
        · omega
end Go.Proofs.YtkjlchfmplcobadDoor

/- The plain mathematics of chapter 4, third part: how long what is packed is; a text's beginning; tokens one behind the other. -/
namespace Go.Proofs.YtkjlchfmplcobadDoor

theorem bodyT_le (t : Tok) : (bodyT t).length ≤ 2 ∧ (t.len = 0 → (bodyT t).length = 1) := by
  unfold bodyT
  split
  · simp
  · rename_i h; exact ⟨by simp, fun e => absurd e h⟩
/-- Tokens, and what is written of them, are no more than the bytes that they stand for. -/
theorem tok_few (b : List Int) (d : Nat) : ∀ a, b.length - a = d → (tokFrom b a).length ≤ d ∧ ((tokFrom b a).flatMap bodyT).length ≤ d := by
  induction d using Nat.strongRecOn with
  | ind d ih =>
    intro a hd
    by_cases h : a < b.length
    · rcases best_spec b a with hs | ⟨s1, s2, s3, -⟩
      · obtain ⟨i1, i2⟩ := ih (b.length - (a + 1)) (by omega) (a + 1) rfl
        rw [tokFrom_byte h (by rw [hs]), List.length_cons, List.flatMap_cons, List.length_append, (bodyT_le _).2 rfl]
        omega
      · obtain ⟨i1, i2⟩ := ih (b.length - (a + (bestL b a).1)) (by omega) (a + (bestL b a).1) rfl
        rw [tokFrom_more h (by omega), List.length_cons, List.flatMap_cons, List.length_append]
        have := (bodyT_le ⟨((bestL b a).1 : Int), ((bestL b a).2 : Int), 0⟩).1
        omega
    · rw [tokFrom_end h]; simp
end Go.Proofs.YtkjlchfmplcobadDoor

/- Chapter 5's mathematics: entries one behind the other, each with its length ahead, and read again. Nothing of the program is in it. -/
namespace Go.Proofs.YtkjlchfmplcobadDoor

/-- Entries, each with how many bytes it has ahead. -/
def layL (l : List (List Int)) : List Int := l.flatMap (fun e => (e.length : Int) :: e)
/-- So many entries, and nothing behind them. -/
def takeL : Nat → List Int → Option (List (List Int))
  | 0, b => if b.length = 0 then some [] else none
  | _ + 1, [] => none
  | n + 1, x :: r => if 200 < x ∨ (r.length : Int) < x then none else (takeL n (r.drop x.toNat)).map (r.take x.toNat :: ·)
theorem layL_nil : layL [] = [] := rfl
theorem layL_snoc (l : List (List Int)) (e : List Int) : layL (l ++ [e]) = layL l ++ (e.length : Int) :: e := by
  unfold layL; rw [List.flatMap_append]; simp
theorem layL_cons (e : List Int) (l : List (List Int)) : layL (e :: l) = (e.length : Int) :: (e ++ layL l) := by
  unfold layL; rw [List.flatMap_cons]; simp
theorem layL_length : ∀ (l : List (List Int)), (∀ e ∈ l, e.length ≤ 200) → (layL l).length ≤ 201 * l.length
  | [], _ => by simp [layL_nil]
  | e :: l, h => by
    rw [layL_cons]
    have h1 := h e (by simp)
    have h2 := layL_length l (fun x hx => h x (by simp [hx]))
    simp only [List.length_cons, List.length_append]
    omega
theorem takeL_len : ∀ (n : Nat) (b : List Int) (l : List (List Int)), takeL n b = some l → l.length = n ∧ ∀ e ∈ l, e.length ≤ 200
  | 0, b, l, h => by
    rw [takeL] at h
    split at h
    · cases h; exact ⟨rfl, by simp⟩
    · cases h
  | n + 1, [], l, h => by rw [takeL] at h; cases h
  | n + 1, x :: r, l, h => by
    rw [takeL] at h
    split at h
    · cases h
    · rename_i hx
      obtain ⟨l2, h2, rfl⟩ := Option.map_eq_some_iff.1 h
      obtain ⟨h3, h4⟩ := takeL_len n _ l2 h2
      refine ⟨by rw [List.length_cons, h3], fun e he => ?_⟩
      rcases List.mem_cons.1 he with rfl | he
      · rw [List.length_take]; omega
      · exact h4 e he
theorem takeL_mem : ∀ (n : Nat) (b : List Int) (l : List (List Int)), takeL n b = some l → ∀ e ∈ l, ∀ x ∈ e, x ∈ b
  | 0, b, l, h => by
    rw [takeL] at h
    split at h
    · cases h; simp
    · cases h
  | n + 1, [], l, h => by rw [takeL] at h; cases h
  | n + 1, x :: r, l, h => by
    rw [takeL] at h
    split at h
    · cases h
    · obtain ⟨l2, h2, rfl⟩ := Option.map_eq_some_iff.1 h
      intro e he y hy
      rcases List.mem_cons.1 he with rfl | he
      · exact List.mem_cons_of_mem _ (List.mem_of_mem_take hy)
      · exact List.mem_cons_of_mem _ (List.mem_of_mem_drop (takeL_mem n _ l2 h2 e he y hy))
/-- A round of reading, by places. -/
theorem drop_headD {b : List Int} {a : Nat} (h : a < b.length) : b.drop a = b.getD a 0 :: b.drop (a + 1) := by
  rw [List.drop_eq_getElem_cons h, List.getD_eq_getElem?_getD, List.getElem?_eq_getElem h]; rfl
theorem takeL_none {b : List Int} {a n : Nat} (h : ¬ a < b.length) : takeL (n + 1) (b.drop a) = none := by
  rw [List.drop_eq_nil_of_le (by omega)]; rfl
theorem takeL_much {b : List Int} {a n : Nat} (h : a < b.length) (hx : 200 < b.getD a 0) : takeL (n + 1) (b.drop a) = none := by
  rw [drop_headD h, takeL, if_pos (.inl hx)]
theorem takeL_short {b : List Int} {a n : Nat} (h : a < b.length) (hx : ((b.length - (a + 1) : Nat) : Int) < b.getD a 0) : takeL (n + 1) (b.drop a) = none := by
  rw [drop_headD h, takeL, if_pos (.inr (by rw [List.length_drop]; exact hx))]
theorem takeL_more {b : List Int} {a n x : Nat} (h : a < b.length) (hx : b.getD a 0 = (x : Int)) (h1 : x ≤ 200) (h2 : a + 1 + x ≤ b.length) :
    takeL (n + 1) (b.drop a) = (takeL n (b.drop (a + 1 + x))).map ((b.drop (a + 1)).take x :: ·) := by
  rw [drop_headD h, takeL, if_neg (by rw [List.length_drop]; omega), hx, Int.toNat_natCast, List.drop_drop]
theorem takeL_last {b : List Int} {a : Nat} (h : a ≤ b.length) : takeL 0 (b.drop a) = if a = b.length then some [] else none := by
  rw [takeL, List.length_drop]
  by_cases e : a = b.length
  · rw [if_pos (by omega), if_pos e]
  · rw [if_neg (by omega), if_neg e]

/-- What Unpack tells is of bytes, and not too much. -/
theorem copy_mem : ∀ (n : Nat) (out : List Int) (back : Nat), ∀ x ∈ copyL n out back, x ∈ out ∨ x = 0
  | 0, out, back => fun x hx => .inl hx
  | n + 1, out, back => fun x hx => by
    rcases copy_mem n _ back x hx with h | h
    · rcases List.mem_append.1 h with h | h
      · exact .inl h
      · rw [List.mem_singleton.1 h, List.getD_eq_getElem?_getD]
        by_cases hj : out.length - back < out.length
        · rw [List.getElem?_eq_getElem hj]; exact .inl (List.getElem_mem hj)
        · rw [List.getElem?_eq_none (by omega)]; exact .inr rfl
    · exact .inr h
theorem getD_mem0 (b : List Int) (a : Nat) : b.getD a 0 ∈ b ∨ b.getD a 0 = 0 := by
  rw [List.getD_eq_getElem?_getD]
  by_cases hj : a < b.length
  · rw [List.getElem?_eq_getElem hj]; exact .inl (List.getElem_mem hj)
  · rw [List.getElem?_eq_none (by omega)]; exact .inr rfl
theorem unGo_mem {b : List Int} {size : Nat} (d : Nat) : ∀ (out : List Int) (a f l : Nat) (r : List Int × Nat × Nat), size - out.length = d → unGo b size out a f l = some r → ∀ x ∈ r.1, x ∈ out ∨ x ∈ b ∨ x = 0 := by
  induction d using Nat.strongRecOn with
  | ind d ih =>
    intro out a f l r hd h
    rw [unGo] at h
    by_cases hlt : out.length < size
    · rw [dif_pos hlt] at h
      split at h
      · cases h
      · dsimp only at h
        generalize (if l = 0 then a + 1 else a) = a2 at h
        generalize (if l = 0 then (b.getD a 0).toNat else f) = f2 at h
        generalize (if l = 0 then 8 else l) = l2 at h
        split at h
        · split at h
          · intro x hx
            rcases ih _ (by simp only [List.length_append, List.length_singleton]; omega) _ _ _ _ r rfl h x hx with g | g | g
            · rcases List.mem_append.1 g with g | g
              · exact .inl g
              · rw [List.mem_singleton.1 g]; rcases getD_mem0 b a2 with q | q
                · exact .inr (.inl q)
                · exact .inr (.inr q)
            · exact .inr (.inl g)
            · exact .inr (.inr g)
          · cases h
        · split at h
          · split at h
            · cases h
            · intro x hx
              rcases ih _ (by rw [copyL_length]; omega) _ _ _ _ r rfl h x hx with g | g | g
              · rcases copy_mem _ _ _ x g with g | g
                · exact .inl g
                · exact .inr (.inr g)
              · exact .inr (.inl g)
              · exact .inr (.inr g)
          · cases h
    · rw [dif_neg hlt] at h
      cases h
      exact fun x hx => .inl hx
theorem unpack_mem (b : List Int) : ∀ x ∈ (unpackL b).1, x ∈ b ∨ x = 0 := by
  intro x hx
  unfold unpackL at hx
  split at hx
  · cases hx
  · split at hx
    · cases hx
    · split at hx
      · cases hx
      · rename_i out at' flags he
        split at hx
        · cases hx
        · rcases unGo_mem _ _ _ _ _ _ rfl he x hx with g | g | g
          · cases g
          · exact .inl g
          · exact .inr g
theorem unpack_len (b : List Int) : (unpackL b).1.length ≤ 4000 := by
  unfold unpackL
  split
  · exact Nat.zero_le _
  · split
    · exact Nat.zero_le _
    · split
      · exact Nat.zero_le _
      · split
        · exact Nat.zero_le _
        · rename_i hS out at' flags he hc
          show out.length ≤ 4000
          omega

end Go.Proofs.YtkjlchfmplcobadDoor

/- Variables as blocks of memory: what they hold, and what becomes of them. Nothing of the program is in it. -/
namespace Go.Proofs.YtkjlchfmplcobadDoor
open Go.RowKit

theorem lt_heap {w : World} {k : Nat} {o : Obj} (h : w.heap[k]? = some o) : k < w.heap.size := by
  rcases Nat.lt_or_ge k w.heap.size with h' | h'
  · exact h'
  · rw [Array.getElem?_eq_none h'] at h; cases h
theorem box_new (w : World) (c : Array Value) (t : TypeId) : (w.alloc (.cells c t)).heap[w.heap.size]? = some (.cells c t (0, 0)) := heap_alloc_new w _
theorem box_old (w : World) (o : Obj) {k : Nat} {x : Obj} (h : w.heap[k]? = some x) : (w.alloc o).heap[k]? = some x := by
  have := ((Below.refl w.heap.size w).alloc (Nat.le_refl _) o).block k (lt_heap h)
  rw [this]; exact h
theorem box_one (w : World) (c : Array Value) (t : TypeId) (o : Obj) : ((w.alloc (.cells c t)).alloc o).heap[w.heap.size]? = some (.cells c t (0, 0)) := box_old _ _ (box_new _ _ _)
theorem box_last (w : World) (o : Obj) (c : Array Value) (t : TypeId) : ((w.alloc o).alloc (.cells c t)).heap[w.heap.size + 1]? = some (.cells c t (0, 0)) := by
  have := box_new (w.alloc o) c t
  rwa [World.size_alloc] at this
theorem box_below {B k : Nat} {w w' : World} {x : Obj} (h : w.heap[k]? = some x) (hb : Below B w w') (hk : k < B) : w'.heap[k]? = some x := by rw [hb.block k hk]; exact h
theorem box_kept {k : Nat} {w w' : World} {x : Obj} (h : w.heap[k]? = some x) (hb : Below w.heap.size w w') : w'.heap[k]? = some x := box_below h hb (lt_heap h)
/-- What a variable of two cells holds. -/
theorem box_two {w : World} {k : Nat} {u v : Value} {t : TypeId} (h : w.heap[k]? = some (.cells #[u, v] t (0, 0))) :
    w.cell? ⟨k, 0, none⟩ = some u ∧ w.cell? ⟨k, 1, none⟩ = some v ∧ w.frozen? ⟨k, 0, none⟩ = false ∧ w.frozen? ⟨k, 1, none⟩ = false :=
  ⟨cell_of_row w k 0 _ t _ h, cell_of_row w k 1 _ t _ h, frozen_of_row w k 0 _ t h, frozen_of_row w k 1 _ t h⟩
theorem box_set_far {w : World} {k j o : Nat} {v : Value} {x : Obj} (h : w.heap[k]? = some x) (hj : k ≠ j) : (w.setCell ⟨j, o, none⟩ v).heap[k]? = some x := by rw [heap_setCell_other w ⟨j, o, none⟩ k v hj]; exact h
/-- A row of the call's own has grown: variables of other types are as they were. -/
theorem own_box {w : World} {base k n : Nat} {e t : TypeId} {v : Value} {xs : List Value} {c : Array Value} (ho : w.ownsRow base e 1 v n xs) (hk : w.heap[k]? = some (.cells c t (0, 0))) (ht : t ≠ e) : v.ownBlock ≠ some k := fun h => by
  rcases ho.2 with ⟨rfl, -⟩ | ⟨g, cap, cur, rfl, -, hh, -⟩
  · cases h
  · cases h
    rw [hh] at hk
    cases hk
    exact ht rfl
theorem grown_box {w w' : World} {base k n : Nat} {e t : TypeId} {v : Value} {xs : List Value} {c : Array Value} (hg : w.grownBy w' v.ownBlock) (ho : w.ownsRow base e 1 v n xs) (hk : w.heap[k]? = some (.cells c t (0, 0))) (ht : t ≠ e) : w'.heap[k]? = some (.cells c t (0, 0)) := by
  rw [hg.block k (lt_heap hk) (fun h => own_box ho hk ht h.symm)]; exact hk
theorem own_set {w : World} {base k n : Nat} {e t : TypeId} {v : Value} {xs : List Value} {c : Array Value} (ho : w.ownsRow base e 1 v n xs) (hk : w.heap[k]? = some (.cells c t (0, 0))) (ht : t ≠ e) (u : Value) : (w.setCell ⟨k, 0, none⟩ u).ownsRow base e 1 v n xs :=
  ownsRow_setCell_other ho (a := ⟨k, 0, none⟩) (own_box ho hk ht) u

end Go.Proofs.YtkjlchfmplcobadDoor

/- The plain mathematics of chapter 4, fourth part: the longest stretch, whatever its length; the groups of tokens one by one. -/
namespace Go.Proofs.YtkjlchfmplcobadDoor

def longStep (b : List Int) (a : Nat) (p : Nat × Nat) (k : Nat) : Nat × Nat := if p.1 < matchN b (a - (k + 1)) a then (matchN b (a - (k + 1)) a, k + 1) else p
def longTo (b : List Int) (a m : Nat) : Nat × Nat := (List.range m).foldl (longStep b a) (0, 0)
theorem longTo_zero (b : List Int) (a : Nat) : longTo b a 0 = (0, 0) := rfl
theorem longTo_succ (b : List Int) (a m : Nat) : longTo b a (m + 1) = longStep b a (longTo b a m) m := by
  unfold longTo; rw [List.range_succ, List.foldl_append]; rfl
theorem long_best (b : List Int) (a : Nat) : ∀ m, bestTo b a m = if 3 ≤ (longTo b a m).1 then longTo b a m else (0, 0)
  | 0 => rfl
  | m + 1 => by
    rw [bestTo_succ, longTo_succ, long_best b a m]
    unfold bestStep longStep
    by_cases h3 : 3 ≤ (longTo b a m).1
    · rw [if_pos h3]
      by_cases hn : (longTo b a m).1 < matchN b (a - (m + 1)) a
      · rw [if_pos ⟨by omega, hn⟩, if_pos hn, if_pos (by simp only; omega)]
      · rw [if_neg (fun h => hn h.2), if_neg hn, if_pos h3]
    · rw [if_neg h3]
      by_cases hn : 3 ≤ matchN b (a - (m + 1)) a
      · have hk : (longTo b a m).1 < matchN b (a - (m + 1)) a := by omega
        rw [if_pos ⟨hn, by simp only; omega⟩, if_pos hk, if_pos (by simp only; omega)]
      · rw [if_neg (fun h => hn h.1)]
        by_cases hk : (longTo b a m).1 < matchN b (a - (m + 1)) a
        · rw [if_pos hk, if_neg (by simp only; omega)]
        · rw [if_neg hk, if_neg h3]
theorem longTo_le (b : List Int) (a : Nat) : ∀ m, (longTo b a m).1 ≤ 66 ∧ (longTo b a m).2 ≤ m
  | 0 => by rw [longTo_zero]; exact ⟨by decide, by decide⟩
  | m + 1 => by
    have h := longTo_le b a m
    have h2 := (matchN_le b (a - (m + 1)) a).1
    rw [longTo_succ]
    unfold longStep
    split
    · exact ⟨h2, Nat.le_refl _⟩
    · exact ⟨h.1, by omega⟩
/-- The token at a. -/
def tokAtL (b : List Int) (a : Nat) : Tok := if (longTo b a (min a 1024)).1 < 3 then ⟨0, 0, b.getD a 0⟩ else ⟨((longTo b a (min a 1024)).1 : Int), ((longTo b a (min a 1024)).2 : Int), 0⟩
def widN (t : Tok) : Nat := if t.len = 0 then 1 else t.len.toNat
theorem tok_here {b : List Int} {a : Nat} (h : a < b.length) : tokFrom b a = tokAtL b a :: tokFrom b (a + widN (tokAtL b a)) ∧ 1 ≤ widN (tokAtL b a) ∧ a + widN (tokAtL b a) ≤ b.length ∧ ((tokAtL b a).len = 0 ∨ (3 ≤ (tokAtL b a).len ∧ (tokAtL b a).len ≤ 66)) := by
  have hb : bestL b a = if 3 ≤ (longTo b a (min a 1024)).1 then longTo b a (min a 1024) else (0, 0) := long_best b a _
  unfold tokAtL
  by_cases h3 : (longTo b a (min a 1024)).1 < 3
  · rw [if_neg (by omega)] at hb
    rw [if_pos h3, tokFrom_byte h (by rw [hb])]
    exact ⟨rfl, Nat.le_refl _, h, .inl rfl⟩
  · rw [if_pos (by omega)] at hb
    rw [if_neg h3, tokFrom_more h (by rw [hb]; omega), hb]
    have hw : widN ⟨((longTo b a (min a 1024)).1 : Int), ((longTo b a (min a 1024)).2 : Int), 0⟩ = (longTo b a (min a 1024)).1 := by
      unfold widN; rw [if_neg (by simp only; omega)]; simp
    rw [hw]
    have hs := best_spec b a
    rw [hb] at hs
    have h66 := (longTo_le b a (min a 1024)).1
    refine ⟨rfl, by omega, ?_, .inr ⟨by simp only; omega, by simp only; omega⟩⟩
    rcases hs with hs | hs
    · rw [hs] at h3; simp at h3
    · omega
/-- The groups of the first q eights. -/
def groupQ (l : List Tok) (q : Nat) : List Tok := (l.drop (8 * q)).take 8
def groupB (g : List Tok) : List Int := (flagsN g : Int) :: g.flatMap bodyT
def groupsTo (l : List Tok) (q : Nat) : List Int := (List.range q).flatMap fun j => groupB (groupQ l j)
theorem groupsTo_succ (l : List Tok) (q : Nat) : groupsTo l (q + 1) = groupsTo l q ++ groupB (groupQ l q) := by
  unfold groupsTo; rw [List.range_succ, List.flatMap_append]; simp
theorem groups_here (l : List Tok) (q : Nat) (h : 8 * q < l.length) : groupsL (l.drop (8 * q)) = groupB (groupQ l q) ++ groupsL (l.drop (8 * (q + 1))) := by
  rw [groupsL_more (by rw [List.length_drop]; omega), List.drop_drop]
  rfl
theorem groups_to (l : List Tok) : ∀ q, 8 * q ≤ l.length + 7 → groupsL l = groupsTo l q ++ groupsL (l.drop (8 * q))
  | 0, _ => rfl
  | q + 1, h => by
    rw [groups_to l q (by omega), groups_here l q (by omega), groupsTo_succ, List.append_assoc]
theorem groups_all {l : List Tok} {q : Nat} (h : l.length ≤ 8 * q) (h2 : 8 * q ≤ l.length + 7) : groupsL l = groupsTo l q := by
  rw [groups_to l q h2, groupsL_none (by rw [List.length_drop]; omega), List.append_nil]

end Go.Proofs.YtkjlchfmplcobadDoor

/- The plain mathematics of chapter 4, third part: reading the tokens first, and telling their text then, is unpacking as one goes. -/
namespace Go.Proofs.YtkjlchfmplcobadDoor

/-- The token that stands at a, told by its flag; and where it ends. -/
def unTok (b : List Int) (a f : Nat) : Option (Tok × Nat) :=
  if f % 2 = 0 then (if a < b.length then some (⟨0, 0, b.getD a 0⟩, a + 1) else none)
  else if a + 1 < b.length then some (⟨(((256 * b.getD a 0 + b.getD (a + 1) 0).toNat / 1024 + 3 : Nat) : Int), (((256 * b.getD a 0 + b.getD (a + 1) 0).toNat % 1024 + 1 : Nat) : Int), 0⟩, a + 2) else none
def wid (t : Tok) : Int := max 1 t.len
/-- Tokens read till their widths are size: the tokens, what is left of size, how far, the flags that are left. -/
def readGo (b : List Int) (size : Int) (n a f : Nat) : Option (List Tok × Int × Nat × Nat) :=
  if _h : 0 < size then
    if n % 8 = 0 ∧ ¬ a < b.length then none else
    match unTok b (if n % 8 = 0 then a + 1 else a) (if n % 8 = 0 then (b.getD a 0).toNat else f) with
    | none => none
    | some (t, a2) => (readGo b (size - wid t) (n + 1) a2 ((if n % 8 = 0 then (b.getD a 0).toNat else f) / 2)).map fun r => (t :: r.1, r.2)
  else some ([], size, a, f)
termination_by size.toNat
decreasing_by unfold wid; omega
theorem readGo_end {b : List Int} {size : Int} {n a f : Nat} (h : ¬ 0 < size) : readGo b size n a f = some ([], size, a, f) := by rw [readGo, dif_neg h]
theorem readGo_short {b : List Int} {size : Int} {n a f : Nat} (h : 0 < size) (hn : n % 8 = 0) (ha : ¬ a < b.length) : readGo b size n a f = none := by
  rw [readGo, dif_pos h, if_pos ⟨hn, ha⟩]
theorem readGo_none {b : List Int} {size : Int} {n a f : Nat} (h : 0 < size) (hu : unTok b (if n % 8 = 0 then a + 1 else a) (if n % 8 = 0 then (b.getD a 0).toNat else f) = none) : readGo b size n a f = none := by
  rw [readGo, dif_pos h]
  split
  · rfl
  · rw [hu]
theorem readGo_more {b : List Int} {size : Int} {n a f : Nat} {t : Tok} {a2 : Nat} (h : 0 < size) (hs : ¬ (n % 8 = 0 ∧ ¬ a < b.length)) (hu : unTok b (if n % 8 = 0 then a + 1 else a) (if n % 8 = 0 then (b.getD a 0).toNat else f) = some (t, a2)) :
    readGo b size n a f = (readGo b (size - wid t) (n + 1) a2 ((if n % 8 = 0 then (b.getD a 0).toNat else f) / 2)).map fun r => (t :: r.1, r.2) := by
  conv => lhs; rw [readGo]
  rw [dif_pos h, if_neg hs, hu]
/-- What comes of it at the end. -/
def unFin (b : List Int) (S : Nat) : Option (List Int × Nat × Nat) → List Int × Int
  | none => ([], 2)
  | some (out, a, f) => if a ≠ b.length ∨ out.length ≠ S ∨ f ≠ 0 then ([], 2) else (out, 0)
def readFin (b : List Int) (out : List Int) (i : Nat) : Option (List Tok × Int × Nat × Nat) → List Int × Int
  | none => ([], 2)
  | some (l, s, a, f) => if s ≠ 0 ∨ f ≠ 0 ∨ a ≠ b.length then ([], 2) else if (textFrom out i l).2.1 ≠ 0 then ([], 2) else ((textFrom out i l).1, 0)
theorem readFin_cons_bad {b out : List Int} {i : Nat} {t : Tok} (h : tokBad out.length t ≠ 0) (r : Option (List Tok × Int × Nat × Nat)) : readFin b out i (r.map fun r => (t :: r.1, r.2)) = ([], 2) := by
  cases r with
  | none => rfl
  | some r =>
    obtain ⟨l, s, a, f⟩ := r
    simp only [Option.map_some, readFin]
    split
    · rfl
    · rw [textFrom, if_pos h, if_pos h]
theorem readFin_cons {b out : List Int} {i : Nat} {t : Tok} (h : tokBad out.length t = 0) (r : Option (List Tok × Int × Nat × Nat)) : readFin b out i (r.map fun r => (t :: r.1, r.2)) = readFin b (tokPut out t) (i + 1) r := by
  cases r with
  | none => rfl
  | some r =>
    obtain ⟨l, s, a, f⟩ := r
    simp only [Option.map_some, readFin]
    have e : textFrom out i (t :: l) = textFrom (tokPut out t) (i + 1) l := by rw [textFrom, if_neg (fun h' => h' h)]
    rw [e]
theorem read_text {b : List Int} (hB : ∀ j, 0 ≤ b.getD j 0 ∧ b.getD j 0 < 256) {S : Nat} (hS : S ≤ 4000) (d : Nat) : ∀ (out : List Int) (i n a f l : Nat), S - out.length = d → l = (8 - n % 8) % 8 → unFin b S (unGo b S out a f l) = readFin b out i (readGo b ((S : Int) - out.length) n a f) := by
  induction d using Nat.strongRecOn with
  | ind d ih =>
    intro out i n a f l hd hl
    by_cases h : out.length < S
    · have hz : (l = 0) ↔ (n % 8 = 0) := by omega
      by_cases hs : n % 8 = 0 ∧ ¬ a < b.length
      · rw [readGo_short (by omega) hs.1 hs.2, unGo, dif_pos h, if_pos ⟨hz.2 hs.1, hs.2⟩]
        rfl
      · rw [unGo, dif_pos h, if_neg (fun e => hs ⟨hz.1 e.1, e.2⟩)]
        have e1 : (if l = 0 then a + 1 else a) = (if n % 8 = 0 then a + 1 else a) := by simp only [hz]
        have e2 : (if l = 0 then (b.getD a 0).toNat else f) = (if n % 8 = 0 then (b.getD a 0).toNat else f) := by simp only [hz]
        dsimp only
        rw [e1, e2]
        obtain ⟨a1, ha1⟩ : ∃ x, x = (if n % 8 = 0 then a + 1 else a) := ⟨_, rfl⟩
        obtain ⟨f1, hf1⟩ : ∃ x, x = (if n % 8 = 0 then (b.getD a 0).toNat else f) := ⟨_, rfl⟩
        rw [← ha1, ← hf1]
        have hl2 : (if l = 0 then 8 else l) - 1 = (8 - (n + 1) % 8) % 8 := by split <;> omega
        rw [hl2]
        by_cases hf : f1 % 2 = 0
        · rw [if_pos hf]
          by_cases ha : a1 < b.length
          · have hu : unTok b (if n % 8 = 0 then a + 1 else a) (if n % 8 = 0 then (b.getD a 0).toNat else f) = some (⟨0, 0, b.getD a1 0⟩, a1 + 1) := by rw [← ha1, ← hf1, unTok, if_pos hf, if_pos ha]
            rw [readGo_more (by omega) hs hu, ← hf1, if_pos ha, readFin_cons (by simp only [tokBad]; rw [if_pos trivial, if_neg (by omega)])]
            have e3 : (S : Int) - out.length - wid ⟨0, 0, b.getD a1 0⟩ = (S : Int) - (out ++ [b.getD a1 0]).length := by
              unfold wid; rw [List.length_append, List.length_singleton]; simp only; omega
            rw [e3, show tokPut out ⟨0, 0, b.getD a1 0⟩ = out ++ [b.getD a1 0] by simp [tokPut]]
            exact ih (S - (out ++ [b.getD a1 0]).length) (by rw [List.length_append, List.length_singleton]; omega) _ (i + 1) (n + 1) _ _ _ rfl rfl
          · have hu : unTok b (if n % 8 = 0 then a + 1 else a) (if n % 8 = 0 then (b.getD a 0).toNat else f) = none := by rw [← ha1, ← hf1, unTok, if_pos hf, if_neg ha]
            rw [readGo_none (by omega) hu, if_neg ha]
            rfl
        · rw [if_neg hf]
          by_cases ha : a1 + 1 < b.length
          · obtain ⟨x, hx⟩ : ∃ x, x = (256 * b.getD a1 0 + b.getD (a1 + 1) 0).toNat := ⟨_, rfl⟩
            have hu : unTok b (if n % 8 = 0 then a + 1 else a) (if n % 8 = 0 then (b.getD a 0).toNat else f) = some (⟨((x / 1024 + 3 : Nat) : Int), ((x % 1024 + 1 : Nat) : Int), 0⟩, a1 + 2) := by rw [← ha1, ← hf1, unTok, if_neg hf, if_pos ha, hx]
            rw [readGo_more (by omega) hs hu, ← hf1, if_pos ha, ← hx]
            by_cases hb : out.length < x % 1024 + 1
            · rw [if_pos hb, readFin_cons_bad]
              · rfl
              · simp only [tokBad]
                rw [if_neg (by omega)]
                split
                · decide
                · rw [if_pos (by omega)]; decide
            · rw [if_neg hb]
              by_cases hm : 4000 < out.length + (x / 1024 + 3)
              · rw [unGo_end (by rw [copyL_length]; omega), readGo_end (by unfold wid; simp only; omega)]
                simp only [unFin, readFin, Option.map_some]
                rw [if_pos (.inr (.inl (by rw [copyL_length]; omega))), if_pos (.inl (by unfold wid; simp only; omega))]
              · have h66 : x / 1024 + 3 ≤ 66 := by have := hB a1; have := hB (a1 + 1); omega
                rw [readFin_cons (by simp only [tokBad]; rw [if_neg (by omega), if_neg (by omega), if_neg (by omega), if_neg (by omega)])]
                have e3 : (S : Int) - out.length - wid ⟨((x / 1024 + 3 : Nat) : Int), ((x % 1024 + 1 : Nat) : Int), 0⟩ = (S : Int) - (copyL (x / 1024 + 3) out (x % 1024 + 1)).length := by
                  unfold wid; rw [copyL_length]; simp only; omega
                have e4 : tokPut out ⟨((x / 1024 + 3 : Nat) : Int), ((x % 1024 + 1 : Nat) : Int), 0⟩ = copyL (x / 1024 + 3) out (x % 1024 + 1) := by
                  simp only [tokPut]; rw [if_neg (by omega), Int.toNat_natCast, Int.toNat_natCast]
                rw [e3, e4]
                exact ih (S - (copyL (x / 1024 + 3) out (x % 1024 + 1)).length) (by rw [copyL_length]; omega) _ (i + 1) (n + 1) _ _ _ rfl rfl
          · have hu : unTok b (if n % 8 = 0 then a + 1 else a) (if n % 8 = 0 then (b.getD a 0).toNat else f) = none := by rw [← ha1, ← hf1, unTok, if_neg hf, if_neg ha]
            rw [readGo_none (by omega) hu, if_neg ha]
            rfl
    · rw [unGo_end h, readGo_end (by omega)]
      have e0 : readFin b out i (some ([], (S : Int) - out.length, a, f)) = if (S : Int) - out.length ≠ 0 ∨ f ≠ 0 ∨ a ≠ b.length then ([], 2) else (out, 0) := rfl
      rw [e0]
      simp only [unFin]
      by_cases hc : a ≠ b.length ∨ out.length ≠ S ∨ f ≠ 0
      · rw [if_pos hc, if_pos (by omega)]
      · rw [if_neg hc, if_neg (by omega)]
theorem unpack_read (b : List Int) (hB : ∀ j, 0 ≤ b.getD j 0 ∧ b.getD j 0 < 256) (hb : ¬ b.length < 2) (hS : ¬ 4000 < (256 * b.getD 0 0 + b.getD 1 0).toNat) : unpackL b = readFin b [] 0 (readGo b ((256 * b.getD 0 0 + b.getD 1 0).toNat : Int) 0 2 0) := by
  have h := read_text (b := b) hB (S := (256 * b.getD 0 0 + b.getD 1 0).toNat) (by omega) _ [] 0 0 2 0 0 rfl rfl
  rw [show (((256 * b.getD 0 0 + b.getD 1 0).toNat : Nat) : Int) - (([] : List Int).length : Int) = (((256 * b.getD 0 0 + b.getD 1 0).toNat : Nat) : Int) by simp] at h
  rw [← h, unpackL, if_neg hb, if_neg hS]
  rfl

end Go.Proofs.YtkjlchfmplcobadDoor
