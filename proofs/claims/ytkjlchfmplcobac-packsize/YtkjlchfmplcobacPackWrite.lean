/- The plain mathematics of chapter 4, second part: what is packed is unpacked. -/
import Derived.Test.YtkjlchfmplcobacPackMath
namespace Go.Proofs.Ytkjlchfmplcobac

/-- What is written of a token. -/
def tokX (t : Tok) : Int := 1024 * (t.len - 3) + t.back - 1
def bodyT (t : Tok) : List Int := if t.len = 0 then [t.byte] else [tokX t / 256, tokX t % 256]
/-- Which tokens have a length, the first one lowest. -/
def flagsN : List Tok → Nat
  | [] => 0
  | t :: l => (if t.len = 0 then 0 else 1) + 2 * flagsN l
/-- By eights. -/
def groupsL (l : List Tok) : List Int :=
  if _h : l.length = 0 then [] else (flagsN (l.take 8) : Int) :: ((l.take 8).flatMap bodyT ++ groupsL (l.drop 8))
termination_by l.length
decreasing_by rw [List.length_drop]; omega
theorem groupsL_none {l : List Tok} (h : l.length = 0) : groupsL l = [] := by rw [groupsL, dif_pos h]
theorem groupsL_more {l : List Tok} (h : l.length ≠ 0) : groupsL l = (flagsN (l.take 8) : Int) :: ((l.take 8).flatMap bodyT ++ groupsL (l.drop 8)) := by
  conv => lhs; rw [groupsL]
  rw [dif_neg h]
def writeL (l : List Tok) (size : Nat) : List Int := [((size / 256 : Nat) : Int), ((size % 256 : Nat) : Int)] ++ groupsL l
def packL (b : List Int) : List Int := writeL (tokensL b) b.length
theorem flagsN_cons (t : Tok) (l : List Tok) : flagsN (t :: l) = (if t.len = 0 then 0 else 1) + 2 * flagsN l := rfl
theorem flagsN_lt : ∀ (l : List Tok), flagsN l < 2 ^ l.length
  | [] => by decide
  | t :: l => by
    have := flagsN_lt l
    rw [List.length_cons, Nat.pow_succ]
    unfold flagsN
    split <;> omega
theorem flagsN_byte (l : List Tok) : flagsN (l.take 8) < 256 := by
  have h := flagsN_lt (l.take 8)
  have h2 : 2 ^ (l.take 8).length ≤ 2 ^ 8 := Nat.pow_le_pow_right (by decide) (by rw [List.length_take]; omega)
  omega
/-- Bytes gone through, till so many came: what came, how far, and the flags that are left. -/
def unGo (b : List Int) (size : Nat) (out : List Int) (at' flags left : Nat) : Option (List Int × Nat × Nat) :=
  if _h : out.length < size then
    if left = 0 ∧ ¬ at' < b.length then none else
    let a := if left = 0 then at' + 1 else at'
    let f := if left = 0 then (b.getD at' 0).toNat else flags
    let l := if left = 0 then 8 else left
    if f % 2 = 0 then
      (if a < b.length then unGo b size (out ++ [b.getD a 0]) (a + 1) (f / 2) (l - 1) else none)
    else if a + 1 < b.length then
      (let x := (256 * b.getD a 0 + b.getD (a + 1) 0).toNat
       if out.length < x % 1024 + 1 then none else unGo b size (copyL (x / 1024 + 3) out (x % 1024 + 1)) (a + 2) (f / 2) (l - 1))
    else none
  else some (out, at', flags)
termination_by size - out.length
decreasing_by
  · simp only [List.length_append, List.length_singleton]; omega
  · rw [copyL_length]; omega
def unpackL (b : List Int) : List Int × Int :=
  if b.length < 2 then ([], 2) else
  if 4000 < (256 * b.getD 0 0 + b.getD 1 0).toNat then ([], 4) else
  match unGo b (256 * b.getD 0 0 + b.getD 1 0).toNat [] 2 0 0 with
  | none => ([], 2)
  | some (out, at', flags) => if at' ≠ b.length ∨ out.length ≠ (256 * b.getD 0 0 + b.getD 1 0).toNat ∨ flags ≠ 0 then ([], 2) else (out, 0)
theorem unGo_end {b : List Int} {size : Nat} {out : List Int} {a f l : Nat} (h : ¬ out.length < size) : unGo b size out a f l = some (out, a, f) := by rw [unGo, dif_neg h]
theorem unGo_flags {b : List Int} {size : Nat} {out : List Int} {a f : Nat} (h : out.length < size) (ha : a < b.length) : unGo b size out a f 0 = unGo b size out (a + 1) (b.getD a 0).toNat 8 := by
  conv => lhs; rw [unGo]
  conv => rhs; rw [unGo]
  have e1 : ¬ ((0 : Nat) = 0 ∧ ¬ a < b.length) := by omega
  have e2 : ¬ ((8 : Nat) = 0 ∧ ¬ a + 1 < b.length) := by omega
  rw [dif_pos h, dif_pos h, if_neg e1, if_neg e2]
  simp
theorem unGo_byte {b : List Int} {size : Nat} {out : List Int} {a f l : Nat} (h : out.length < size) (hl : l ≠ 0) (hf : f % 2 = 0) (ha : a < b.length) : unGo b size out a f l = unGo b size (out ++ [b.getD a 0]) (a + 1) (f / 2) (l - 1) := by
  conv => lhs; rw [unGo]
  rw [dif_pos h, if_neg (by omega)]
  simp only [if_neg hl]
  rw [if_pos hf, if_pos ha]
theorem unGo_more {b : List Int} {size : Nat} {out : List Int} {a f l : Nat} (h : out.length < size) (hl : l ≠ 0) (hf : f % 2 ≠ 0) (ha : a + 1 < b.length) (hx : ¬ out.length < (256 * b.getD a 0 + b.getD (a + 1) 0).toNat % 1024 + 1) :
    unGo b size out a f l = unGo b size (copyL ((256 * b.getD a 0 + b.getD (a + 1) 0).toNat / 1024 + 3) out ((256 * b.getD a 0 + b.getD (a + 1) 0).toNat % 1024 + 1)) (a + 2) (f / 2) (l - 1) := by
  conv => lhs; rw [unGo]
  rw [dif_pos h, if_neg (by omega)]
  simp only [if_neg hl]
  rw [if_neg hf, if_pos ha, if_neg hx]
theorem mid_get {pre x post : List Int} {j : Nat} (hj : j < x.length) : (pre ++ x ++ post).getD (pre.length + j) 0 = x.getD j 0 := by
  rw [List.append_assoc, List.getD_eq_getElem?_getD, List.getElem?_append_right (by omega), Nat.add_sub_cancel_left, List.getElem?_append_left hj, ← List.getD_eq_getElem?_getD]
theorem tokPut_length (out : List Int) (t : Tok) : out.length < (tokPut out t).length ∨ t.len < 0 := by
  unfold tokPut
  split
  · left; simp
  · rw [copyL_length]; omega
theorem bad_len {n : Nat} {t : Tok} (h : tokBad n t = 0) : t.len = 0 ∨ (3 ≤ t.len ∧ t.len ≤ 66 ∧ 1 ≤ t.back ∧ t.back ≤ 1024 ∧ t.back ≤ (n : Int) ∧ (n : Int) + t.len ≤ 4000) := by
  unfold tokBad at h
  split at h
  · left; assumption
  · right
    split at h
    · cases h
    · split at h
      · cases h
      · split at h
        · cases h
        · omega
theorem textFrom_cons {out : List Int} {i : Nat} {t : Tok} {l : List Tok} {fin : List Int} (h : textFrom out i (t :: l) = (fin, 0, 0)) : tokBad out.length t = 0 ∧ textFrom (tokPut out t) (i + 1) l = (fin, 0, 0) := by
  rw [textFrom] at h
  split at h
  · rename_i hb
    simp only [Prod.mk.injEq] at h
    exact absurd h.2.1 hb
  · rename_i hb
    exact ⟨Decidable.not_not.1 hb, h⟩
theorem put_grows {out : List Int} {t : Tok} (h : tokBad out.length t = 0) : out.length + 1 ≤ (tokPut out t).length := by
  rcases tokPut_length out t with h1 | h1
  · omega
  · rcases bad_len h with h2 | h2 <;> omega
theorem text_grows : ∀ (l : List Tok) (out : List Int) (i : Nat) (fin : List Int), textFrom out i l = (fin, 0, 0) → out.length + l.length ≤ fin.length
  | [], out, i, fin, h => by
    rw [textFrom] at h
    cases h
    simp
  | t :: l, out, i, fin, h => by
    obtain ⟨h1, h2⟩ := textFrom_cons h
    have := text_grows l _ _ _ h2
    have := put_grows h1
    simp
    omega
/-- One token more. -/
theorem unGo_step {pre post : List Int} {size : Nat} {out : List Int} {t : Tok} {gs : List Tok} {l : Nat} (h : out.length < size) (hl : l ≠ 0) (hb : tokBad out.length t = 0) :
    unGo (pre ++ bodyT t ++ post) size out pre.length (flagsN (t :: gs)) l = unGo (pre ++ bodyT t ++ post) size (tokPut out t) (pre.length + (bodyT t).length) (flagsN gs) (l - 1) := by
  by_cases h0 : t.len = 0
  · have hB : bodyT t = [t.byte] := by unfold bodyT; rw [if_pos h0]
    have hf : flagsN (t :: gs) = 2 * flagsN gs := by rw [flagsN_cons, if_pos h0]; omega
    have hg : (pre ++ bodyT t ++ post).getD pre.length 0 = t.byte := by
      have := mid_get (pre := pre) (x := bodyT t) (post := post) (j := 0) (by rw [hB]; simp)
      rw [Nat.add_zero] at this
      rw [this, hB]; rfl
    rw [hf, unGo_byte h hl (by omega) (by rw [hB]; simp), hg, show 2 * flagsN gs / 2 = flagsN gs by omega, hB]
    unfold tokPut
    rw [if_pos h0]
    rfl
  · have hB : bodyT t = [tokX t / 256, tokX t % 256] := by unfold bodyT; rw [if_neg h0]
    have hf : flagsN (t :: gs) = 1 + 2 * flagsN gs := by rw [flagsN_cons, if_neg h0]
    have hg0 : (pre ++ bodyT t ++ post).getD pre.length 0 = tokX t / 256 := by
      have := mid_get (pre := pre) (x := bodyT t) (post := post) (j := 0) (by rw [hB]; simp)
      rw [Nat.add_zero] at this
      rw [this, hB]; rfl
    have hg1 : (pre ++ bodyT t ++ post).getD (pre.length + 1) 0 = tokX t % 256 := by
      rw [mid_get (pre := pre) (x := bodyT t) (post := post) (j := 1) (by rw [hB]; simp), hB]; rfl
    have hx : 256 * (pre ++ bodyT t ++ post).getD pre.length 0 + (pre ++ bodyT t ++ post).getD (pre.length + 1) 0 = tokX t := by rw [hg0, hg1]; omega
    obtain ⟨b1, b2, b3, b4, b5, b6⟩ := (bad_len hb).resolve_left h0
    have hX : tokX t = 1024 * (t.len - 3) + t.back - 1 := rfl
    have e1 : (tokX t).toNat % 1024 + 1 = t.back.toNat := by omega
    have e2 : (tokX t).toNat / 1024 + 3 = t.len.toNat := by omega
    have hm := unGo_more (b := pre ++ bodyT t ++ post) (size := size) (out := out) (a := pre.length) (f := flagsN (t :: gs)) (l := l) h hl (by rw [hf]; omega) (by rw [hB]; simp) (by rw [hx, e1]; omega)
    rw [hx, e1, e2] at hm
    rw [hm, hf, show (1 + 2 * flagsN gs) / 2 = flagsN gs by omega, hB]
    unfold tokPut
    rw [if_neg h0]
    rfl
theorem unGo_all (m : Nat) : ∀ (gs ts : List Tok) (pre out : List Int) (i l : Nat) (fin : List Int), gs.length + ts.length = m → gs.length ≤ l → (ts.length ≠ 0 → l = gs.length) → textFrom out i (gs ++ ts) = (fin, 0, 0) →
    unGo (pre ++ gs.flatMap bodyT ++ groupsL ts) fin.length out pre.length (flagsN gs) l = some (fin, (pre ++ gs.flatMap bodyT ++ groupsL ts).length, 0) := by
  induction m using Nat.strongRecOn with
  | ind m ih =>
    have step : ∀ (t : Tok) (gs ts : List Tok) (pre out : List Int) (i l : Nat) (fin : List Int), (t :: gs).length + ts.length = m → (t :: gs).length ≤ l → (ts.length ≠ 0 → l = (t :: gs).length) → textFrom out i (t :: gs ++ ts) = (fin, 0, 0) →
        unGo (pre ++ (t :: gs).flatMap bodyT ++ groupsL ts) fin.length out pre.length (flagsN (t :: gs)) l = some (fin, (pre ++ (t :: gs).flatMap bodyT ++ groupsL ts).length, 0) := by
      intro t gs ts pre out i l fin hm hl ht hx
      obtain ⟨h1, h2⟩ := textFrom_cons hx
      have hlen := text_grows _ _ _ _ hx
      rw [List.length_append, List.length_cons] at hlen
      rw [List.length_cons] at hm hl ht
      have e : pre ++ (t :: gs).flatMap bodyT ++ groupsL ts = pre ++ bodyT t ++ (gs.flatMap bodyT ++ groupsL ts) := by simp [List.flatMap_cons]
      rw [e, unGo_step (by omega) (by omega) h1]
      have e2 : pre ++ bodyT t ++ (gs.flatMap bodyT ++ groupsL ts) = (pre ++ bodyT t) ++ gs.flatMap bodyT ++ groupsL ts := by simp
      rw [e2, show pre.length + (bodyT t).length = (pre ++ bodyT t).length by rw [List.length_append]]
      exact ih (gs.length + ts.length) (by omega) gs ts (pre ++ bodyT t) (tokPut out t) (i + 1) (l - 1) fin rfl (by omega) (fun h => by have := ht h; omega) h2
    intro gs ts pre out i l fin hm hl ht hx
    match gs, hm, hl, ht, hx with
    | t :: gs, hm, hl, ht, hx => exact step t gs ts pre out i l fin hm hl ht hx
    | [], hm, hl, ht, hx =>
      by_cases h0 : ts.length = 0
      · have e0 : ts = [] := List.length_eq_zero_iff.1 h0
        subst e0
        rw [List.append_nil, textFrom] at hx
        cases hx
        rw [unGo_end (by omega), groupsL_none rfl]
        simp [flagsN]
      · have hl0 := ht h0
        rw [List.length_nil] at hl0
        subst hl0
        have hlen := text_grows _ _ _ _ hx
        rw [List.nil_append] at hlen hx
        have e : pre ++ ([] : List Tok).flatMap bodyT ++ groupsL ts = (pre ++ [(flagsN (ts.take 8) : Int)]) ++ (ts.take 8).flatMap bodyT ++ groupsL (ts.drop 8) := by
          rw [groupsL_more h0]; simp
        have hg : ((pre ++ [(flagsN (ts.take 8) : Int)]) ++ (ts.take 8).flatMap bodyT ++ groupsL (ts.drop 8)).getD pre.length 0 = (flagsN (ts.take 8) : Int) := by
          have := mid_get (pre := pre) (x := [(flagsN (ts.take 8) : Int)]) (post := (ts.take 8).flatMap bodyT ++ groupsL (ts.drop 8)) (j := 0) (by simp)
          rw [Nat.add_zero] at this
          rw [List.append_assoc]
          exact this
        rw [e, show flagsN [] = 0 from rfl, unGo_flags (by omega) (by simp), hg, Int.toNat_natCast, show pre.length + 1 = (pre ++ [(flagsN (ts.take 8) : Int)]).length by simp]
        have hsp : ts = ts.take 8 ++ ts.drop 8 := (List.take_append_drop 8 ts).symm
        match hts : ts.take 8 with
        | [] =>
          have h1 : (ts.take 8).length = 0 := by rw [hts]; rfl
          rw [List.length_take] at h1
          omega
        | t :: g =>
          have hl8 : (t :: g).length ≤ 8 := by rw [← hts, List.length_take]; omega
          have hx2 : textFrom out i (t :: g ++ ts.drop 8) = (fin, 0, 0) := by rw [← hts, ← hsp]; exact hx
          refine step t g (ts.drop 8) (pre ++ [(flagsN (t :: g) : Int)]) out i 8 fin ?_ hl8 (fun h => ?_) hx2
          · rw [← hts, List.length_take, List.length_drop]; rw [List.length_nil] at hm; omega
          · rw [← hts, List.length_take]; rw [List.length_drop] at h; omega
/-- WHAT IS PACKED IS UNPACKED. -/
theorem unpack_write {l : List Tok} {fin : List Int} (h : textL l = (fin, 0, 0)) (hn : fin.length ≤ 4000) : unpackL (writeL l fin.length) = (fin, 0) := by
  have e0 : (writeL l fin.length).getD 0 0 = ((fin.length / 256 : Nat) : Int) := rfl
  have e1 : (writeL l fin.length).getD 1 0 = ((fin.length % 256 : Nat) : Int) := rfl
  have hs : (256 * (writeL l fin.length).getD 0 0 + (writeL l fin.length).getD 1 0).toNat = fin.length := by rw [e0, e1]; omega
  have hl2 : 2 ≤ (writeL l fin.length).length := by unfold writeL; simp
  have hu := unGo_all l.length [] l [((fin.length / 256 : Nat) : Int), ((fin.length % 256 : Nat) : Int)] [] 0 0 fin (by simp) (by simp) (fun _ => rfl) h
  have hw : [((fin.length / 256 : Nat) : Int), ((fin.length % 256 : Nat) : Int)] ++ ([] : List Tok).flatMap bodyT ++ groupsL l = writeL l fin.length := by unfold writeL; simp
  rw [hw] at hu
  unfold unpackL
  rw [if_neg (by omega), hs, if_neg (by omega)]
  have hu' : unGo (writeL l fin.length) fin.length [] 2 0 0 = some (fin, (writeL l fin.length).length, 0) := hu
  rw [hu']
  simp
theorem unpack_pack {b : List Int} (hb : b.length ≤ 4000) : unpackL (packL b) = (b, 0) := unpack_write (text_of_tokens hb) hb

end Go.Proofs.Ytkjlchfmplcobac
