/- The plain mathematics of chapter 4, second part: what is packed is unpacked. -/
import Derived.Test.YtkjlchfmplcobacPackMath
namespace Go.Proofs.Ytkjlchfmplcobac

/-- What is written of a token. -/
def tokX (t : Tok) : Int := 1024 * (t.len - 3) + t.back - 1
def bodyT (t : Tok) : List Int := if t.len = 0 then [t.byte] else [tokX t / 256, tokX t % 256]
/-- Which tokens have a length, the first one lowest. -/
def flagsN : List Tok → Nat
  | [] => 0
  | t :: l => (if t.len = 0 then 0 else 1) + 2 * flagsN l
/-- By eights. -/
def groupsL (l : List Tok) : List Int :=
  if _h : l.length = 0 then [] else (flagsN (l.take 8) : Int) :: ((l.take 8).flatMap bodyT ++ groupsL (l.drop 8))
termination_by l.length
decreasing_by rw [List.length_drop]; omega
theorem groupsL_none {l : List Tok} (h : l.length = 0) : groupsL l = [] := by rw [groupsL, dif_pos h]
theorem groupsL_more {l : List Tok} (h : l.length ≠ 0) : groupsL l = (flagsN (l.take 8) : Int) :: ((l.take 8).flatMap bodyT ++ groupsL (l.drop 8)) := by
  conv => lhs; rw [groupsL]
  rw [dif_neg h]
def writeL (l : List Tok) (size : Nat) : List Int := [((size / 256 : Nat) : Int), ((size % 256 : Nat) : Int)] ++ groupsL l
def packL (b : List Int) : List Int := writeL (tokensL b) b.length
theorem flagsN_cons (t : Tok) (l : List Tok) : flagsN (t :: l) = (if t.len = 0 then 0 else 1) + 2 * flagsN l := rfl
theorem flagsN_lt : ∀ (l : List Tok), flagsN l < 2 ^ l.length
  | [] => by decide
  | t :: l => by
    have := flagsN_lt l
    rw [List.length_cons, Nat.pow_succ]
    unfold flagsN
    split <;> omega
/-- Bytes gone through, till so many came: what came, how far, and the flags that are left. -/
def unGo (b : List Int) (size : Nat) (out : List Int) (at' flags left : Nat) : Option (List Int × Nat × Nat) :=
  if _h : out.length < size then
    if left = 0 ∧ ¬ at' < b.length then none else
    let a := if left = 0 then at' + 1 else at'
    let f := if left = 0 then (b.getD at' 0).toNat else flags
    let l := if left = 0 then 8 else left
    if f % 2 = 0 then
      (if a < b.length then unGo b size (out ++ [b.getD a 0]) (a + 1) (f / 2) (l - 1) else none)
    else if a + 1 < b.length then
      (let x := (256 * b.getD a 0 + b.getD (a + 1) 0).toNat
       if out.length < x % 1024 + 1 then none else unGo b size (copyL (x / 1024 + 3) out (x % 1024 + 1)) (a + 2) (f / 2) (l - 1))
    else none
  else some (out, at', flags)
termination_by size - out.length
decreasing_by
  · simp only [List.length_append, List.length_singleton]; omega
  · rw [copyL_length]; omega
def unpackL (b : List Int) : List Int × Int :=
  if b.length < 2 then ([], 2) else
  if 4000 < (256 * b.getD 0 0 + b.getD 1 0).toNat then ([], 4) else
  match unGo b (256 * b.getD 0 0 + b.getD 1 0).toNat [] 2 0 0 with
  | none => ([], 2)
  | some (out, at', flags) => if at' ≠ b.length ∨ out.length ≠ (256 * b.getD 0 0 + b.getD 1 0).toNat ∨ flags ≠ 0 then ([], 2) else (out, 0)
theorem unGo_end {b : List Int} {size : Nat} {out : List Int} {a f l : Nat} (h : ¬ out.length < size) : unGo b size out a f l = some (out, a, f) := by rw [unGo, dif_neg h]
theorem unGo_flags {b : List Int} {size : Nat} {out : List Int} {a f : Nat} (h : out.length < size) (ha : a < b.length) : unGo b size out a f 0 = unGo b size out (a + 1) (b.getD a 0).toNat 8 := by
  conv => lhs; rw [unGo]
  conv => rhs; rw [unGo]
  have e1 : ¬ ((0 : Nat) = 0 ∧ ¬ a < b.length) := by omega
  have e2 : ¬ ((8 : Nat) = 0 ∧ ¬ a + 1 < b.length) := by omega
  rw [dif_pos h, dif_pos h, if_neg e1, if_neg e2]
  simp
theorem unGo_byte {b : List Int} {size : Nat} {out : List Int} {a f l : Nat} (h : out.length < size) (hl : l ≠ 0) (hf : f % 2 = 0) (ha : a < b.length) : unGo b size out a f l = unGo b size (out ++ [b.getD a 0]) (a + 1) (f / 2) (l - 1) := by
  conv => lhs; rw [unGo]
  rw [dif_pos h, if_neg (by omega)]
  simp only [if_neg hl]
  rw [if_pos hf, if_pos ha]
theorem unGo_more {b : List Int} {size : Nat} {out : List Int} {a f l : Nat} (h : out.length < size) (hl : l ≠ 0) (hf : f % 2 ≠ 0) (ha : a + 1 < b.length) (hx : ¬ out.length < (256 * b.getD a 0 + b.getD (a + 1) 0).toNat % 1024 + 1) :
    unGo b size out a f l = unGo b size (copyL ((256 * b.getD a 0 + b.getD (a + 1) 0).toNat / 1024 + 3) out ((256 * b.getD a 0 + b.getD (a + 1) 0).toNat % 1024 + 1)) (a + 2) (f / 2) (l - 1) := by
  conv => lhs; rw [unGo]
  rw [dif_pos h, if_neg (by omega)]
  simp only [if_neg hl]
  rw [if_neg hf, if_pos ha, if_neg hx]
theorem bad_len {n : Nat} {t : Tok} (h : tokBad n t = 0) : t.len = 0 ∨ (3 ≤ t.len ∧ t.len ≤ 66 ∧ 1 ≤ t.back ∧ t.back ≤ 1024 ∧ t.back ≤ (n : Int) ∧ (n : Int) + t.len ≤ 4000) := by
  unfold tokBad at h
  split at h
  · left; assumption
  · right
    split at h
    · cases h
    · split at h
      · cases h
      · split at h
        · cases h
        · omega
end Go.Proofs.Ytkjlchfmplcobac
