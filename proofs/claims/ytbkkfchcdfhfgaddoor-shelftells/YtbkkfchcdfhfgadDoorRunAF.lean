/- PackWrite, PackSizes, ShelfLay, as one text. -/
import Derived.Test.YtbkkfchcdfhfgadDoorRunAE
/- The plain mathematics of chapter 4, second part: what is packed is unpacked. -/
namespace Go.Proofs.YtbkkfchcdfhfgadDoor

/-- What is written of a token. -/
def tokX (t : Tok) : Int := 1024 * (t.len - 3) + t.back - 1
def bodyT (t : Tok) : List Int := if t.len = 0 then [t.byte] else [tokX t / 256, tokX t % 256]
/-- Which tokens have a length, the first one lowest. -/
def flagsN : List Tok → Nat
  | [] => 0
  | t :: l => (if t.len = 0 then 0 else 1) + 2 * flagsN l
/-- By eights. -/
def groupsL (l : List Tok) : List Int :=
  if _h : l.length = 0 then [] else (flagsN (l.take 8) : Int) :: ((l.take 8).flatMap bodyT ++ groupsL (l.drop 8))
termination_by l.length
decreasing_by rw [List.length_drop]; omega
theorem groupsL_none {l : List Tok} (h : l.length = 0) : groupsL l = [] := by rw [groupsL, dif_pos h]
theorem groupsL_more {l : List Tok} (h : l.length ≠ 0) : groupsL l = (flagsN (l.take 8) : Int) :: ((l.take 8).flatMap bodyT ++ groupsL (l.drop 8)) := by
  conv => lhs; rw [groupsL]
  rw [dif_neg h]
def writeL (l : List Tok) (size : Nat) : List Int := [((size / 256 : Nat) : Int), ((size % 256 : Nat) : Int)] ++ groupsL l
def packL (b : List Int) : List Int := writeL (tokensL b) b.length
theorem flagsN_cons (t : Tok) (l : List Tok) : flagsN (t :: l) = (if t.len = 0 then 0 else 1) + 2 * flagsN l := rfl
theorem flagsN_lt : ∀ (l : List Tok), flagsN l < 2 ^ l.length
  | [] => by decide
  | t :: l => by
    have := flagsN_lt l
    rw [List.length_cons, Nat.pow_succ]
    unfold flagsN
    split <;> omega
theorem flagsN_byte (l : List Tok) : flagsN (l.take 8) < 256 := by
  have h := flagsN_lt (l.take 8)
  have h2 : 2 ^ (l.take 8).length ≤ 2 ^ 8 := Nat.pow_le_pow_right (by decide) (by rw [List.length_take]; omega)
  omega
/-- Bytes gone through, till so many came: what came, how far, and the flags that are left. -/
def unGo (b : List Int) (size : Nat) (out : List Int) (at' flags left : Nat) : Option (List Int × Nat × Nat) :=
  if _h : out.length < size then
    if left = 0 ∧ ¬ at' < b.length then none else
    let a := if left = 0 then at' + 1 else at'
    let f := if left = 0 then (b.getD at' 0).toNat else flags
    let l := if left = 0 then 8 else left
    if f % 2 = 0 then
      (if a < b.length then unGo b size (out ++ [b.getD a 0]) (a + 1) (f / 2) (l - 1) else none)
    else if a + 1 < b.length then
      (let x := (256 * b.getD a 0 + b.getD (a + 1) 0).toNat
       if out.length < x % 1024 + 1 then none else unGo b size (copyL (x / 1024 + 3) out (x % 1024 + 1)) (a + 2) (f / 2) (l - 1))
    else none
  else some (out, at', flags)
termination_by size - out.length
decreasing_by
  · simp only [List.length_append, List.length_singleton]; omega
  · rw [copyL_length]; omega
def unpackL (b : List Int) : List Int × Int :=
  if b.length < 2 then ([], 2) else
  if 4000 < (256 * b.getD 0 0 + b.getD 1 0).toNat then ([], 4) else
  match unGo b (256 * b.getD 0 0 + b.getD 1 0).toNat [] 2 0 0 with
  | none => ([], 2)
  | some (out, at', flags) => if at' ≠ b.length ∨ out.length ≠ (256 * b.getD 0 0 + b.getD 1 0).toNat ∨ flags ≠ 0 then ([], 2) else (out, 0)
theorem unGo_end {b : List Int} {size : Nat} {out : List Int} {a f l : Nat} (h : ¬ out.length < size) : unGo b size out a f l = some (out, a, f) := by rw [unGo, dif_neg h]
theorem unGo_flags {b : List Int} {size : Nat} {out : List Int} {a f : Nat} (h : out.length < size) (ha : a < b.length) : unGo b size out a f 0 = unGo b size out (a + 1) (b.getD a 0).toNat 8 := by
  conv => lhs; rw [unGo]
  conv => rhs; rw [unGo]
  have e1 : ¬ ((0 : Nat) = 0 ∧ ¬ a < b.length) := by omega
  have e2 : ¬ ((8 : Nat) = 0 ∧ ¬ a + 1 < b.length) := by omega
  rw [dif_pos h, dif_pos h, if_neg e1, if_neg e2]
  simp
theorem unGo_byte {b : List Int} {size : Nat} {out : List Int} {a f l : Nat} (h : out.length < size) (hl : l ≠ 0) (hf : f % 2 = 0) (ha : a < b.length) : unGo b size out a f l = unGo b size (out ++ [b.getD a 0]) (a + 1) (f / 2) (l - 1) := by
  conv => lhs; rw [unGo]
  rw [dif_pos h, if_neg (by omega)]
  simp only [if_neg hl]
  rw [if_pos hf, if_pos ha]
theorem unGo_more {b : List Int} {size : Nat} {out : List Int} {a f l : Nat} (h : out.length < size) (hl : l ≠ 0) (hf : f % 2 ≠ 0) (ha : a + 1 < b.length) (hx : ¬ out.length < (256 * b.getD a 0 + b.getD (a + 1) 0).toNat % 1024 + 1) :
    unGo b size out a f l = unGo b size (copyL ((256 * b.getD a 0 + b.getD (a + 1) 0).toNat / 1024 + 3) out ((256 * b.getD a 0 + b.getD (a + 1) 0).toNat % 1024 + 1)) (a + 2) (f / 2) (l - 1) := by
  conv => lhs; rw [unGo]
  rw [dif_pos h, if_neg (by omega)]
  simp only [if_neg hl]
  rw [if_neg hf, if_pos ha, if_neg hx]
theorem mid_get {pre x post : List Int} {j : Nat} (hj : j < x.length) : (pre ++ x ++ post).getD (pre.length + j) 0 = x.getD j 0 := by
  rw [List.append_assoc, List.getD_eq_getElem?_getD, List.getElem?_append_right (by omega), Nat.add_sub_cancel_left, List.getElem?_append_left hj, ← List.getD_eq_getElem?_getD]
theorem tokPut_length (out : List Int) (t : Tok) : out.length < (tokPut out t).length ∨ t.len < 0 := by
  unfold tokPut
  split
  · left; simp
  · rw [copyL_length]; omega
theorem bad_len {n : Nat} {t : Tok} (h : tokBad n t = 0) : t.len = 0 ∨ (3 ≤ t.len ∧ t.len ≤ 66 ∧ 1 ≤ t.back ∧ t.back ≤ 1024 ∧ t.back ≤ (n : Int) ∧ (n : Int) + t.len ≤ 4000) := by
  unfold tokBad at h
  split at h
  · left; assumption
  · right
    split at h
    · cases h
    · split at h
      · cases h
      · split at h
        · cases h
        · omega
theorem textFrom_cons {out : List Int} {i : Nat} {t : Tok} {l : List Tok} {fin : List Int} (h : textFrom out i (t :: l) = (fin, 0, 0)) : tokBad out.length t = 0 ∧ textFrom (tokPut out t) (i + 1) l = (fin, 0, 0) := by
  rw [textFrom] at h
  split at h
  · rename_i hb
    simp only [Prod.mk.injEq] at h
    exact absurd h.2.1 hb
  · rename_i hb
    exact ⟨Decidable.not_not.1 hb, h⟩
theorem put_grows {out : List Int} {t : Tok} (h : tokBad out.length t = 0) : out.length + 1 ≤ (tokPut out t).length := by
  rcases tokPut_length out t with h1 | h1
  · omega
  · rcases bad_len h with h2 | h2 <;> omega
theorem text_grows : ∀ (l : List Tok) (out : List Int) (i : Nat) (fin : List Int), textFrom out i l = (fin, 0, 0) → out.length + l.length ≤ fin.length
  | [], out, i, fin, h => by
    rw [textFrom] at h
    cases h
    simp
  | t :: l, out, i, fin, h => by
    obtain ⟨h1, h2⟩ := textFrom_cons h
    have := text_grows l _ _ _ h2
    have := put_grows h1
    simp
    omega
/-- One token more. -/
theorem unGo_step {pre post : List Int} {size : Nat} {out : List Int} {t : Tok} {gs : List Tok} {l : Nat} (h : out.length < size) (hl : l ≠ 0) (hb : tokBad out.length t = 0) :
    unGo (pre ++ bodyT t ++ post) size out pre.length (flagsN (t :: gs)) l = unGo (pre ++ bodyT t ++ post) size (tokPut out t) (pre.length + (bodyT t).length) (flagsN gs) (l - 1) := by
  by_cases h0 : t.len = 0
  · have hB : bodyT t = [t.byte] := by unfold bodyT; rw [if_pos h0]
    have hf : flagsN (t :: gs) = 2 * flagsN gs := by rw [flagsN_cons, if_pos h0]; omega
    have hg : (pre ++ bodyT t ++ post).getD pre.length 0 = t.byte := by
      have := mid_get (pre := pre) (x := bodyT t) (post := post) (j := 0) (by rw [hB]; simp)
      rw [Nat.add_zero] at this
      rw [this, hB]; rfl
    rw [hf, unGo_byte h hl (by omega) (by rw [hB]; simp), hg, show 2 * flagsN gs / 2 = flagsN gs by omega, hB]
    unfold tokPut
    rw [if_pos h0]
    rfl
  · have hB : bodyT t = [tokX t / 256, tokX t % 256] := by unfold bodyT; rw [if_neg h0]
    have hf : flagsN (t :: gs) = 1 + 2 * flagsN gs := by rw [flagsN_cons, if_neg h0]
    have hg0 : (pre ++ bodyT t ++ post).getD pre.length 0 = tokX t / 256 := by
      have := mid_get (pre := pre) (x := bodyT t) (post := post) (j := 0) (by rw [hB]; simp)
      rw [Nat.add_zero] at this
      rw [this, hB]; rfl
    have hg1 : (pre ++ bodyT t ++ post).getD (pre.length + 1) 0 = tokX t % 256 := by
      rw [mid_get (pre := pre) (x := bodyT t) (post := post) (j := 1) (by rw [hB]; simp), hB]; rfl
    have hx : 256 * (pre ++ bodyT t ++ post).getD pre.length 0 + (pre ++ bodyT t ++ post).getD (pre.length + 1) 0 = tokX t := by rw [hg0, hg1]; omega
    obtain ⟨b1, b2, b3, b4, b5, b6⟩ := (bad_len hb).resolve_left h0
    have hX : tokX t = 1024 * (t.len - 3) + t.back - 1 := rfl
    have e1 : (tokX t).toNat % 1024 + 1 = t.back.toNat := by omega
    have e2 : (tokX t).toNat / 1024 + 3 = t.len.toNat := by omega
    have hm := unGo_more (b := pre ++ bodyT t ++ post) (size := size) (out := out) (a := pre.length) (f := flagsN (t :: gs)) (l := l) h hl (by rw [hf]; omega) (by rw [hB]; simp) (by rw [hx, e1]; omega)
    rw [hx, e1, e2] at hm
    rw [hm, hf, show (1 + 2 * flagsN gs) / 2 = flagsN gs by omega, hB]
    unfold tokPut
    rw [if_neg h0]
    rfl
theorem unGo_all (m : Nat) : ∀ (gs ts : List Tok) (pre out : List Int) (i l : Nat) (fin : List Int), gs.length + ts.length = m → gs.length ≤ l → (ts.length ≠ 0 → l = gs.length) → textFrom out i (gs ++ ts) = (fin, 0, 0) →
    unGo (pre ++ gs.flatMap bodyT ++ groupsL ts) fin.length out pre.length (flagsN gs) l = some (fin, (pre ++ gs.flatMap bodyT ++ groupsL ts).length, 0) := by
  induction m using Nat.strongRecOn with
  | ind m ih =>
    have step : ∀ (t : Tok) (gs ts : List Tok) (pre out : List Int) (i l : Nat) (fin : List Int), (t :: gs).length + ts.length = m → (t :: gs).length ≤ l → (ts.length ≠ 0 → l = (t :: gs).length) → textFrom out i (t :: gs ++ ts) = (fin, 0, 0) →
        unGo (pre ++ (t :: gs).flatMap bodyT ++ groupsL ts) fin.length out pre.length (flagsN (t :: gs)) l = some (fin, (pre ++ (t :: gs).flatMap bodyT ++ groupsL ts).length, 0) := by
      intro t gs ts pre out i l fin hm hl ht hx
      obtain ⟨h1, h2⟩ := textFrom_cons hx
      have hlen := text_grows _ _ _ _ hx
      rw [List.length_append, List.length_cons] at hlen
      rw [List.length_cons] at hm hl ht
      have e : pre ++ (t :: gs).flatMap bodyT ++ groupsL ts = pre ++ bodyT t ++ (gs.flatMap bodyT ++ groupsL ts) := by simp [List.flatMap_cons]
      rw [e, unGo_step (by omega) (by omega) h1]
      have e2 : pre ++ bodyT t ++ (gs.flatMap bodyT ++ groupsL ts) = (pre ++ bodyT t) ++ gs.flatMap bodyT ++ groupsL ts := by simp
      rw [e2, show pre.length + (bodyT t).length = (pre ++ bodyT t).length by rw [List.length_append]]
      exact ih (gs.length + ts.length) (by omega) gs ts (pre ++ bodyT t) (tokPut out t) (i + 1) (l - 1) fin rfl (by omega) (fun h => by have := ht h; omega) h2
    intro gs ts pre out i l fin hm hl ht hx
    match gs, hm, hl, ht, hx with
    | t :: gs, hm, hl, ht, hx => exact step t gs ts pre out i l fin hm hl ht hx
    | [], hm, hl, ht, hx =>
      by_cases h0 : ts.length = 0
      · have e0 : ts = [] := List.length_eq_zero_iff.1 h0
        subst e0
        rw [List.append_nil, textFrom] at hx
        cases hx
        rw [unGo_end (by omega), groupsL_none rfl]
        simp [flagsN]
      · have hl0 := ht h0
        rw [List.length_nil] at hl0
        subst hl0
        have hlen := text_grows _ _ _ _ hx
        rw [List.nil_append] at hlen hx
        have e : pre ++ ([] : List Tok).flatMap bodyT ++ groupsL ts = (pre ++ [(flagsN (ts.take 8) : Int)]) ++ (ts.take 8).flatMap bodyT ++ groupsL (ts.drop 8) := by
          rw [groupsL_more h0]; simp
        have hg : ((pre ++ [(flagsN (ts.take 8) : Int)]) ++ (ts.take 8).flatMap bodyT ++ groupsL (ts.drop 8)).getD pre.length 0 = (flagsN (ts.take 8) : Int) := by
          have := mid_get (pre := pre) (x := [(flagsN (ts.take 8) : Int)]) (post := (ts.take 8).flatMap bodyT ++ groupsL (ts.drop 8)) (j := 0) (by simp)
          rw [Nat.add_zero] at this
          rw [List.append_assoc]
          exact this
        rw [e, show flagsN [] = 0 from rfl, unGo_flags (by omega) (by simp), hg, Int.toNat_natCast, show pre.length + 1 = (pre ++ [(flagsN (ts.take 8) : Int)]).length by simp]
        have hsp : ts = ts.take 8 ++ ts.drop 8 := (List.take_append_drop 8 ts).symm
        match hts : ts.take 8 with
        | [] =>
          have h1 : (ts.take 8).length = 0 := by rw [hts]; rfl
          rw [List.length_take] at h1
          omega
        | t :: g =>
          have hl8 : (t :: g).length ≤ 8 := by rw [← hts, List.length_take]; omega
          have hx2 : textFrom out i (t :: g ++ ts.drop 8) = (fin, 0, 0) := by rw [← hts, ← hsp]; exact hx
          refine step t g (ts.drop 8) (pre ++ [(flagsN (t :: g) : Int)]) out i 8 fin ?_ hl8 (fun h => ?_) hx2
          · rw [← hts, List.length_take, List.length_drop]; rw [List.length_nil] at hm; omega
          · rw [← hts, List.length_take]; rw [List.length_drop] at h; omega
/-- WHAT IS PACKED IS UNPACKED. -/
theorem unpack_write {l : List Tok} {fin : List Int} (h : textL l = (fin, 0, 0)) (hn : fin.length ≤ 4000) : unpackL (writeL l fin.length) = (fin, 0) := by
  have e0 : (writeL l fin.length).getD 0 0 = ((fin.length / 256 : Nat) : Int) := rfl
  have e1 : (writeL l fin.length).getD 1 0 = ((fin.length % 256 : Nat) : Int) := rfl
  have hs : (256 * (writeL l fin.length).getD 0 0 + (writeL l fin.length).getD 1 0).toNat = fin.length := by rw [e0, e1]; omega
  have hl2 : 2 ≤ (writeL l fin.length).length := by unfold writeL; simp
  have hu := unGo_all l.length [] l [((fin.length / 256 : Nat) : Int), ((fin.length % 256 : Nat) : Int)] [] 0 0 fin (by simp) (by simp) (fun _ => rfl) h
  have hw : [((fin.length / 256 : Nat) : Int), ((fin.length % 256 : Nat) : Int)] ++ ([] : List Tok).flatMap bodyT ++ groupsL l = writeL l fin.length := by unfold writeL; simp
  rw [hw] at hu
  unfold unpackL
  rw [if_neg (by omega), hs, if_neg (by omega)]
  have hu' : unGo (writeL l fin.length) fin.length [] 2 0 0 = some (fin, (writeL l fin.length).length, 0) := hu
  rw [hu']
  simp
theorem unpack_pack {b : List Int} (hb : b.length ≤ 4000) : unpackL (packL b) = (b, 0) := unpack_write (text_of_tokens hb) hb

end Go.Proofs.YtbkkfchcdfhfgadDoor

/- The plain mathematics of chapter 4, third part: how long what is packed is; a text's beginning; tokens one behind the other. -/
namespace Go.Proofs.YtbkkfchcdfhfgadDoor

theorem bodyT_le (t : Tok) : (bodyT t).length ≤ 2 ∧ (t.len = 0 → (bodyT t).length = 1) := by
  unfold bodyT
  split
  · simp
  · rename_i h; exact ⟨by simp, fun e => absurd e h⟩
theorem groups_length (m : Nat) : ∀ l : List Tok, l.length = m → (groupsL l).length = (l.length + 7) / 8 + (l.flatMap bodyT).length := by
  induction m using Nat.strongRecOn with
  | ind m ih =>
    intro l hl
    by_cases h : l.length = 0
    · rw [groupsL_none h, List.length_eq_zero_iff.1 h]; rfl
    · rw [groupsL_more h, List.length_cons, List.length_append, ih (l.drop 8).length (by rw [List.length_drop]; omega) (l.drop 8) rfl, List.length_drop]
      have e : (l.flatMap bodyT).length = ((l.take 8).flatMap bodyT).length + ((l.drop 8).flatMap bodyT).length := by
        rw [← List.length_append, ← List.flatMap_append, List.take_append_drop]
      rw [e]
      omega
theorem write_length (l : List Tok) (n : Nat) : (writeL l n).length = 2 + ((l.length + 7) / 8 + (l.flatMap bodyT).length) := by
  unfold writeL
  rw [List.length_append, groups_length l.length l rfl]
  rfl
/-- Tokens, and what is written of them, are no more than the bytes that they stand for. -/
theorem tok_few (b : List Int) (d : Nat) : ∀ a, b.length - a = d → (tokFrom b a).length ≤ d ∧ ((tokFrom b a).flatMap bodyT).length ≤ d := by
  induction d using Nat.strongRecOn with
  | ind d ih =>
    intro a hd
    by_cases h : a < b.length
    · rcases best_spec b a with hs | ⟨s1, s2, s3, -⟩
      · obtain ⟨i1, i2⟩ := ih (b.length - (a + 1)) (by omega) (a + 1) rfl
        rw [tokFrom_byte h (by rw [hs]), List.length_cons, List.flatMap_cons, List.length_append, (bodyT_le _).2 rfl]
        omega
      · obtain ⟨i1, i2⟩ := ih (b.length - (a + (bestL b a).1)) (by omega) (a + (bestL b a).1) rfl
        rw [tokFrom_more h (by omega), List.length_cons, List.flatMap_cons, List.length_append]
        have := (bodyT_le ⟨((bestL b a).1 : Int), ((bestL b a).2 : Int), 0⟩).1
        omega
    · rw [tokFrom_end h]; simp
theorem pack_length (b : List Int) : (packL b).length ≤ 2 + b.length + (b.length + 7) / 8 := by
  unfold packL tokensL
  rw [write_length]
  have := tok_few b b.length 0 (by omega)
  omega
/-- A text of one byte many times. -/
theorem rep_get {n : Nat} {c : Int} {j : Nat} (h : j < n) : (List.replicate n c).getD j 0 = c := by
  rw [List.getD_eq_getElem?_getD, List.getElem?_replicate, if_pos h]; rfl
theorem rep_match {n : Nat} {c : Int} {f a : Nat} (hf : f < a) (ha : a ≤ n) : matchN (List.replicate n c) f a = min 66 (n - a) := by
  have h1 := matchN_le (List.replicate n c) f a
  rw [List.length_replicate] at h1
  have h2 := matchN_more (b := List.replicate n c) (f := f) (a := a) (n := min 66 (n - a)) (by omega) (by omega) (by rw [List.length_replicate]; omega) (fun j hj => by rw [rep_get (by omega), rep_get (by omega)])
  omega
theorem rep_bestTo {n : Nat} {c : Int} {a : Nat} (ha : a ≤ n) : ∀ m, m + 1 ≤ a → bestTo (List.replicate n c) a (m + 1) = if 3 ≤ n - a then (min 66 (n - a), 1) else (0, 0)
  | 0, h => by
    rw [bestTo_succ, bestTo_zero]
    unfold bestStep
    rw [rep_match (by omega) ha]
    by_cases h3 : 3 ≤ n - a
    · rw [if_pos ⟨by omega, by show 0 < _; omega⟩, if_pos h3]
    · rw [if_neg (fun h => by omega), if_neg h3]
  | m + 1, h => by
    rw [bestTo_succ, rep_bestTo ha m (by omega)]
    unfold bestStep
    rw [rep_match (by omega) ha]
    by_cases h3 : 3 ≤ n - a
    · rw [if_pos h3, if_neg (fun h => by have := h.2; simp only at this; omega)]
    · rw [if_neg h3, if_neg (fun h => by omega)]
theorem rep_best {n : Nat} {c : Int} {a : Nat} (h1 : 1 ≤ a) (ha : a ≤ n) : bestL (List.replicate n c) a = if 3 ≤ n - a then (min 66 (n - a), 1) else (0, 0) := by
  unfold bestL
  obtain ⟨m, hm⟩ : ∃ m, min a 1024 = m + 1 := ⟨min a 1024 - 1, by omega⟩
  rw [hm]
  exact rep_bestTo ha m (by omega)
theorem rep_few {n : Nat} {c : Int} (d : Nat) : ∀ a, n - a = d → 1 ≤ a → (tokFrom (List.replicate n c) a).length ≤ d / 66 + 2 ∧ ((tokFrom (List.replicate n c) a).flatMap bodyT).length ≤ 2 * (d / 66) + 2 ∧ (d < 3 → (tokFrom (List.replicate n c) a).length ≤ d ∧ ((tokFrom (List.replicate n c) a).flatMap bodyT).length ≤ d) ∧ (3 ≤ d → d ≤ 66 → (tokFrom (List.replicate n c) a).length ≤ 1 ∧ ((tokFrom (List.replicate n c) a).flatMap bodyT).length ≤ 2) := by
  induction d using Nat.strongRecOn with
  | ind d ih =>
    intro a hd h1
    by_cases h : a < (List.replicate n c).length
    · have hn : a < n := by rwa [List.length_replicate] at h
      have hb := rep_best (c := c) h1 (Nat.le_of_lt hn)
      by_cases h3 : 3 ≤ n - a
      · rw [if_pos h3] at hb
        rw [tokFrom_more h (by rw [hb]; show min 66 (n - a) ≠ 0; omega), hb, List.length_cons, List.flatMap_cons, List.length_append]
        have hB := (bodyT_le ⟨((min 66 (n - a) : Nat) : Int), ((1 : Nat) : Int), 0⟩).1
        obtain ⟨i1, i2, i3, i4⟩ := ih (n - (a + min 66 (n - a))) (by omega) (a + min 66 (n - a)) rfl (by omega)
        simp only
        refine ⟨?_, ?_, fun h => by omega, fun _ h66 => ?_⟩
        · by_cases hq : d ≤ 66
          · have := i3 (by omega); omega
          · omega
        · by_cases hq : d ≤ 66
          · have := i3 (by omega); omega
          · omega
        · have := i3 (by omega); omega
      · rw [if_neg h3] at hb
        rw [tokFrom_byte h (by rw [hb]), List.length_cons, List.flatMap_cons, List.length_append, (bodyT_le _).2 rfl]
        obtain ⟨i1, i2, i3, i4⟩ := ih (n - (a + 1)) (by omega) (a + 1) rfl (by omega)
        have := i3 (by omega)
        refine ⟨by omega, by omega, fun _ => by omega, fun h => by omega⟩
    · rw [tokFrom_end h]
      simp
theorem rep_length (n : Nat) (c : Int) : (packL (List.replicate n c)).length ≤ 6 + n / 25 := by
  unfold packL tokensL
  rw [write_length]
  by_cases h : 0 < (List.replicate n c).length
  · have hn : 0 < n := by rwa [List.length_replicate] at h
    have hb : bestL (List.replicate n c) 0 = (0, 0) := rfl
    rw [tokFrom_byte h (by rw [hb]), Nat.zero_add, List.length_cons, List.flatMap_cons, List.length_append, (bodyT_le _).2 rfl]
    obtain ⟨i1, i2, i3, i4⟩ := rep_few (n := n) (c := c) (n - 1) 1 rfl (Nat.le_refl _)
    by_cases h3 : n - 1 < 3
    · have := i3 h3; omega
    · by_cases h66 : n - 1 ≤ 66
      · have := i4 (by omega) h66; omega
      · omega
  · rw [tokFrom_end h]
    show 2 + ((0 + 7) / 8 + 0) ≤ 6 + n / 25
    omega
/-- A text's beginning. -/
theorem take_match {b : List Int} {e f a : Nat} (hf : f < a) (ha : a ≤ e) (he : e ≤ b.length) : matchN (b.take e) f a = min (matchN b f a) (e - a) := by
  have hl : (b.take e).length = e := by rw [List.length_take]; omega
  have h1 := matchN_le (b.take e) f a
  have h2 := matchN_le b f a
  rw [hl] at h1
  have h3 := matchN_more (b := b.take e) (f := f) (a := a) (n := min (matchN b f a) (e - a)) (by omega) (by omega) (by omega) (fun j hj => by
    rw [take_getD (by omega), take_getD (by omega)]; exact matchN_get (by omega))
  have h4 := matchN_more (b := b) (f := f) (a := a) (n := matchN (b.take e) f a) (by omega) (by omega) (by omega) (fun j hj => by
    have := matchN_get (b := b.take e) (f := f) (a := a) hj
    rwa [take_getD (by omega), take_getD (by omega)] at this)
  omega
theorem bestTo_mono (b : List Int) (a m : Nat) : (bestTo b a m).1 ≤ (bestTo b a (m + 1)).1 := by
  rw [bestTo_succ]
  unfold bestStep
  split
  · rename_i h; exact Nat.le_of_lt h.2
  · exact Nat.le_refl _
theorem take_bestTo {b : List Int} {e a : Nat} (ha : a ≤ e) (he : e ≤ b.length) : ∀ m, m ≤ a → (bestTo b a m).1 ≤ e - a → bestTo (b.take e) a m = bestTo b a m
  | 0, _, _ => rfl
  | m + 1, hm, h => by
    have ih := take_bestTo ha he m (by omega) (Nat.le_trans (bestTo_mono b a m) h)
    rw [bestTo_succ] at h
    rw [bestTo_succ, bestTo_succ, ih]
    unfold bestStep at h ⊢
    rw [take_match (by omega) ha he]
    by_cases hc : 3 ≤ matchN b (a - (m + 1)) a ∧ (bestTo b a m).1 < matchN b (a - (m + 1)) a
    · rw [if_pos hc] at h ⊢
      simp only at h
      rw [Nat.min_eq_left h, if_pos hc]
    · rw [if_neg hc, if_neg (fun hd => hc ⟨by omega, by omega⟩)]
theorem take_best {b : List Int} {e a : Nat} (ha : a ≤ e) (he : e ≤ b.length) (h : (bestL b a).1 ≤ e - a) : bestL (b.take e) a = bestL b a := take_bestTo ha he _ (by omega) h
/-- How many bytes tokens stand for. -/
def tokSum : List Tok → Nat
  | [] => 0
  | t :: l => max t.len.toNat 1 + tokSum l
theorem tok_sum (b : List Int) (d : Nat) : ∀ a, b.length - a = d → a ≤ b.length → a + tokSum (tokFrom b a) = b.length := by
  induction d using Nat.strongRecOn with
  | ind d ih =>
    intro a hd ha
    by_cases h : a < b.length
    · rcases best_spec b a with hs | ⟨s1, s2, s3, -⟩
      · have := ih (b.length - (a + 1)) (by omega) (a + 1) rfl (by omega)
        rw [tokFrom_byte h (by rw [hs])]
        show a + (max (0 : Int).toNat 1 + tokSum (tokFrom b (a + 1))) = b.length
        simp
        omega
      · have := ih (b.length - (a + (bestL b a).1)) (by omega) (a + (bestL b a).1) rfl (by omega)
        rw [tokFrom_more h (by omega)]
        show a + (max ((bestL b a).1 : Int).toNat 1 + tokSum (tokFrom b (a + (bestL b a).1))) = b.length
        rw [Int.toNat_natCast]
        omega
    · rw [tokFrom_end h]
      show a + 0 = b.length
      omega
theorem tokSum_append (l m : List Tok) : tokSum (l ++ m) = tokSum l + tokSum m := by
  induction l with
  | nil => show tokSum m = 0 + tokSum m; omega
  | cons t l ih => show max t.len.toNat 1 + tokSum (l ++ m) = max t.len.toNat 1 + tokSum l + tokSum m; omega
theorem tokSum_take (l : List Tok) (n : Nat) : tokSum (l.take n) ≤ tokSum l := by
  have : tokSum l = tokSum (l.take n) + tokSum (l.drop n) := by rw [← tokSum_append, List.take_append_drop]
  omega
/-- WHAT IS AHEAD DOES NOT LOOK BEHIND. -/
theorem tok_first (b : List Int) (n : Nat) : ∀ a, a ≤ b.length → n ≤ (tokFrom b a).length → tokFrom (b.take (a + tokSum ((tokFrom b a).take n))) a = (tokFrom b a).take n := by
  induction n with
  | zero =>
    intro a ha _
    rw [List.take_zero]
    exact tokFrom_end (by rw [List.length_take]; show ¬ a < min (a + 0) b.length; omega)
  | succ n ih =>
    intro a ha hn
    have hsum := tok_sum b _ a rfl ha
    have htake := tokSum_take (tokFrom b a) (n + 1)
    by_cases h : a < b.length
    · rcases best_spec b a with hs | ⟨s1, s2, s3, -⟩
      · rw [tokFrom_byte h (by rw [hs])] at hn hsum htake ⊢
        rw [List.take_succ_cons] at htake ⊢
        rw [List.length_cons] at hn
        have he : a + tokSum (⟨0, 0, b.getD a 0⟩ :: (tokFrom b (a + 1)).take n) = a + 1 + tokSum ((tokFrom b (a + 1)).take n) := by
          show a + (max (0 : Int).toNat 1 + _) = _
          simp
          omega
        have i := ih (a + 1) (by omega) (by omega)
        have hle : a + tokSum (⟨0, 0, b.getD a 0⟩ :: (tokFrom b (a + 1)).take n) ≤ b.length := by omega
        rw [he] at hle ⊢
        generalize hE : a + 1 + tokSum ((tokFrom b (a + 1)).take n) = e at *
        have hae : a + 1 ≤ e := by omega
        have heb : e ≤ b.length := by omega
        have hb := take_best (b := b) (e := e) (a := a) (by omega) heb (by rw [hs]; omega)
        rw [tokFrom_byte (by rw [List.length_take]; omega) (by rw [hb, hs]), take_getD (by omega), i]
      · rw [tokFrom_more h (by omega)] at hn hsum htake ⊢
        rw [List.take_succ_cons] at htake ⊢
        rw [List.length_cons] at hn
        have he : a + tokSum (⟨((bestL b a).1 : Int), ((bestL b a).2 : Int), 0⟩ :: (tokFrom b (a + (bestL b a).1)).take n) = a + (bestL b a).1 + tokSum ((tokFrom b (a + (bestL b a).1)).take n) := by
          show a + (max ((bestL b a).1 : Int).toNat 1 + _) = _
          rw [Int.toNat_natCast]
          omega
        have i := ih (a + (bestL b a).1) (by omega) (by omega)
        have hle : a + tokSum (⟨((bestL b a).1 : Int), ((bestL b a).2 : Int), 0⟩ :: (tokFrom b (a + (bestL b a).1)).take n) ≤ b.length := by omega
        rw [he] at hle ⊢
        generalize hE : a + (bestL b a).1 + tokSum ((tokFrom b (a + (bestL b a).1)).take n) = e at *
        have hae : a + (bestL b a).1 ≤ e := by omega
        have heb : e ≤ b.length := by omega
        have hb := take_best (b := b) (e := e) (a := a) (by omega) heb (by omega)
        rw [tokFrom_more (by rw [List.length_take]; omega) (by rw [hb]; omega), hb, i]
    · rw [tokFrom_end h] at hn
      simp at hn
theorem first_tokens {b : List Int} {n : Nat} (hn : n ≤ (tokensL b).length) : tokensL (b.take (tokSum ((tokensL b).take n))) = (tokensL b).take n ∧ tokSum ((tokensL b).take n) ≤ b.length := by
  have h := tok_first b n 0 (Nat.zero_le _) hn
  rw [Nat.zero_add] at h
  have h1 := tok_sum b _ 0 rfl (Nat.zero_le _)
  have h2 := tokSum_take (tokFrom b 0) n
  exact ⟨h, by unfold tokensL; omega⟩
/-- TOKENS ONE BEHIND THE OTHER. -/
theorem text_more : ∀ (l : List Tok) (out : List Int) (i : Nat) (m : List Tok), textFrom out i (l ++ m) = if (textFrom out i l).2.1 = 0 then textFrom (textFrom out i l).1 (i + l.length) m else textFrom out i l
  | [], out, i, m => by simp [textFrom]
  | t :: l, out, i, m => by
    show textFrom out i (t :: (l ++ m)) = _
    rw [textFrom, textFrom]
    by_cases h : tokBad out.length t ≠ 0
    · rw [if_pos h, if_pos h, if_neg h]
    · rw [if_neg h, if_neg h, text_more l _ _ m, List.length_cons, show i + 1 + l.length = i + (l.length + 1) by omega]
theorem copy_prefix : ∀ (n : Nat) (out : List Int) (back : Nat), out <+: copyL n out back
  | 0, out, _ => List.prefix_refl out
  | n + 1, _, back => (List.prefix_append _ _).trans (copy_prefix n _ back)
theorem put_prefix (out : List Int) (t : Tok) : out <+: tokPut out t := by
  unfold tokPut
  split
  · exact List.prefix_append _ _
  · exact copy_prefix _ _ _
theorem text_prefix : ∀ (l : List Tok) (out : List Int) (i : Nat), (textFrom out i l).2.1 = 0 → out <+: (textFrom out i l).1
  | [], out, i, _ => List.prefix_refl out
  | t :: l, out, i, h => by
    rw [textFrom] at h ⊢
    by_cases hb : tokBad out.length t ≠ 0
    · rw [if_pos hb] at h; exact absurd h hb
    · rw [if_neg hb] at h ⊢
      exact (put_prefix out t).trans (text_prefix l _ _ h)
theorem text_where : ∀ (l : List Tok) (out : List Int) (i : Nat), (textFrom out i l).2.1 ≠ 0 → (i : Int) ≤ (textFrom out i l).2.2 ∧ (textFrom out i l).1 = []
  | [], out, i, h => by simp [textFrom] at h
  | t :: l, out, i, h => by
    rw [textFrom] at h ⊢
    by_cases hb : tokBad out.length t ≠ 0
    · rw [if_pos hb]; exact ⟨Int.le_refl _, rfl⟩
    · rw [if_neg hb] at h ⊢
      have := text_where l _ _ h
      exact ⟨by omega, this.2⟩

end Go.Proofs.YtbkkfchcdfhfgadDoor

/- Chapter 5's mathematics: entries one behind the other, each with its length ahead, and read again. Nothing of the program is in it. -/
namespace Go.Proofs.YtbkkfchcdfhfgadDoor

/-- Entries, each with how many bytes it has ahead. -/
def layL (l : List (List Int)) : List Int := l.flatMap (fun e => (e.length : Int) :: e)
/-- So many entries, and nothing behind them. -/
def takeL : Nat → List Int → Option (List (List Int))
  | 0, b => if b.length = 0 then some [] else none
  | _ + 1, [] => none
  | n + 1, x :: r => if 200 < x ∨ (r.length : Int) < x then none else (takeL n (r.drop x.toNat)).map (r.take x.toNat :: ·)
theorem layL_nil : layL [] = [] := rfl
theorem layL_snoc (l : List (List Int)) (e : List Int) : layL (l ++ [e]) = layL l ++ (e.length : Int) :: e := by
  unfold layL; rw [List.flatMap_append]; simp
theorem layL_cons (e : List Int) (l : List (List Int)) : layL (e :: l) = (e.length : Int) :: (e ++ layL l) := by
  unfold layL; rw [List.flatMap_cons]; simp
theorem layL_length : ∀ (l : List (List Int)), (∀ e ∈ l, e.length ≤ 200) → (layL l).length ≤ 201 * l.length
  | [], _ => by simp [layL_nil]
  | e :: l, h => by
    rw [layL_cons]
    have h1 := h e (by simp)
    have h2 := layL_length l (fun x hx => h x (by simp [hx]))
    simp only [List.length_cons, List.length_append]
    omega
theorem takeL_lay : ∀ (l : List (List Int)), (∀ e ∈ l, e.length ≤ 200) → takeL l.length (layL l) = some l
  | [], _ => rfl
  | e :: l, h => by
    have h1 := h e (by simp)
    have h2 := takeL_lay l (fun x hx => h x (by simp [hx]))
    rw [layL_cons, List.length_cons, takeL, if_neg (by rw [List.length_append]; omega)]
    rw [Int.toNat_natCast, List.drop_left, h2, List.take_left]
    rfl
theorem takeL_len : ∀ (n : Nat) (b : List Int) (l : List (List Int)), takeL n b = some l → l.length = n ∧ ∀ e ∈ l, e.length ≤ 200
  | 0, b, l, h => by
    rw [takeL] at h
    split at h
    · cases h; exact ⟨rfl, by simp⟩
    · cases h
  | n + 1, [], l, h => by rw [takeL] at h; cases h
  | n + 1, x :: r, l, h => by
    rw [takeL] at h
    split at h
    · cases h
    · rename_i hx
      obtain ⟨l2, h2, rfl⟩ := Option.map_eq_some_iff.1 h
      obtain ⟨h3, h4⟩ := takeL_len n _ l2 h2
      refine ⟨by rw [List.length_cons, h3], fun e he => ?_⟩
      rcases List.mem_cons.1 he with rfl | he
      · rw [List.length_take]; omega
      · exact h4 e he
theorem takeL_mem : ∀ (n : Nat) (b : List Int) (l : List (List Int)), takeL n b = some l → ∀ e ∈ l, ∀ x ∈ e, x ∈ b
  | 0, b, l, h => by
    rw [takeL] at h
    split at h
    · cases h; simp
    · cases h
  | n + 1, [], l, h => by rw [takeL] at h; cases h
  | n + 1, x :: r, l, h => by
    rw [takeL] at h
    split at h
    · cases h
    · obtain ⟨l2, h2, rfl⟩ := Option.map_eq_some_iff.1 h
      intro e he y hy
      rcases List.mem_cons.1 he with rfl | he
      · exact List.mem_cons_of_mem _ (List.mem_of_mem_take hy)
      · exact List.mem_cons_of_mem _ (List.mem_of_mem_drop (takeL_mem n _ l2 h2 e he y hy))
/-- A round of reading, by places. -/
theorem drop_headD {b : List Int} {a : Nat} (h : a < b.length) : b.drop a = b.getD a 0 :: b.drop (a + 1) := by
  rw [List.drop_eq_getElem_cons h, List.getD_eq_getElem?_getD, List.getElem?_eq_getElem h]; rfl
theorem takeL_none {b : List Int} {a n : Nat} (h : ¬ a < b.length) : takeL (n + 1) (b.drop a) = none := by
  rw [List.drop_eq_nil_of_le (by omega)]; rfl
theorem takeL_much {b : List Int} {a n : Nat} (h : a < b.length) (hx : 200 < b.getD a 0) : takeL (n + 1) (b.drop a) = none := by
  rw [drop_headD h, takeL, if_pos (.inl hx)]
theorem takeL_short {b : List Int} {a n : Nat} (h : a < b.length) (hx : ((b.length - (a + 1) : Nat) : Int) < b.getD a 0) : takeL (n + 1) (b.drop a) = none := by
  rw [drop_headD h, takeL, if_pos (.inr (by rw [List.length_drop]; exact hx))]
theorem takeL_more {b : List Int} {a n x : Nat} (h : a < b.length) (hx : b.getD a 0 = (x : Int)) (h1 : x ≤ 200) (h2 : a + 1 + x ≤ b.length) :
    takeL (n + 1) (b.drop a) = (takeL n (b.drop (a + 1 + x))).map ((b.drop (a + 1)).take x :: ·) := by
  rw [drop_headD h, takeL, if_neg (by rw [List.length_drop]; omega), hx, Int.toNat_natCast, List.drop_drop]
theorem takeL_last {b : List Int} {a : Nat} (h : a ≤ b.length) : takeL 0 (b.drop a) = if a = b.length then some [] else none := by
  rw [takeL, List.length_drop]
  by_cases e : a = b.length
  · rw [if_pos (by omega), if_pos e]
  · rw [if_neg (by omega), if_neg e]

/-- What Unpack tells is of bytes, and not too much. -/
theorem copy_mem : ∀ (n : Nat) (out : List Int) (back : Nat), ∀ x ∈ copyL n out back, x ∈ out ∨ x = 0
  | 0, out, back => fun x hx => .inl hx
  | n + 1, out, back => fun x hx => by
    rcases copy_mem n _ back x hx with h | h
    · rcases List.mem_append.1 h with h | h
      · exact .inl h
      · rw [List.mem_singleton.1 h, List.getD_eq_getElem?_getD]
        by_cases hj : out.length - back < out.length
        · rw [List.getElem?_eq_getElem hj]; exact .inl (List.getElem_mem hj)
        · rw [List.getElem?_eq_none (by omega)]; exact .inr rfl
    · exact .inr h
theorem getD_mem0 (b : List Int) (a : Nat) : b.getD a 0 ∈ b ∨ b.getD a 0 = 0 := by
  rw [List.getD_eq_getElem?_getD]
  by_cases hj : a < b.length
  · rw [List.getElem?_eq_getElem hj]; exact .inl (List.getElem_mem hj)
  · rw [List.getElem?_eq_none (by omega)]; exact .inr rfl
theorem unGo_mem {b : List Int} {size : Nat} (d : Nat) : ∀ (out : List Int) (a f l : Nat) (r : List Int × Nat × Nat), size - out.length = d → unGo b size out a f l = some r → ∀ x ∈ r.1, x ∈ out ∨ x ∈ b ∨ x = 0 := by
  induction d using Nat.strongRecOn with
  | ind d ih =>
    intro out a f l r hd h
    rw [unGo] at h
    by_cases hlt : out.length < size
    · rw [dif_pos hlt] at h
      split at h
      · cases h
      · dsimp only at h
        generalize (if l = 0 then a + 1 else a) = a2 at h
        generalize (if l = 0 then (b.getD a 0).toNat else f) = f2 at h
        generalize (if l = 0 then 8 else l) = l2 at h
        split at h
        · split at h
          · intro x hx
            rcases ih _ (by simp only [List.length_append, List.length_singleton]; omega) _ _ _ _ r rfl h x hx with g | g | g
            · rcases List.mem_append.1 g with g | g
              · exact .inl g
              · rw [List.mem_singleton.1 g]; rcases getD_mem0 b a2 with q | q
                · exact .inr (.inl q)
                · exact .inr (.inr q)
            · exact .inr (.inl g)
            · exact .inr (.inr g)
          · cases h
        · split at h
          · split at h
            · cases h
            · intro x hx
              rcases ih _ (by rw [copyL_length]; omega) _ _ _ _ r rfl h x hx with g | g | g
              · rcases copy_mem _ _ _ x g with g | g
                · exact .inl g
                · exact .inr (.inr g)
              · exact .inr (.inl g)
              · exact .inr (.inr g)
          · cases h
    · rw [dif_neg hlt] at h
      cases h
      exact fun x hx => .inl hx
theorem unpack_mem (b : List Int) : ∀ x ∈ (unpackL b).1, x ∈ b ∨ x = 0 := by
  intro x hx
  unfold unpackL at hx
  split at hx
  · cases hx
  · split at hx
    · cases hx
    · split at hx
      · cases hx
      · rename_i out at' flags he
        split at hx
        · cases hx
        · rcases unGo_mem _ _ _ _ _ _ rfl he x hx with g | g | g
          · cases g
          · exact .inl g
          · exact .inr g
theorem unpack_len (b : List Int) : (unpackL b).1.length ≤ 4000 := by
  unfold unpackL
  split
  · exact Nat.zero_le _
  · split
    · exact Nat.zero_le _
    · split
      · exact Nat.zero_le _
      · split
        · exact Nat.zero_le _
        · rename_i hS out at' flags he hc
          show out.length ≤ 4000
          omega

end Go.Proofs.YtbkkfchcdfhfgadDoor
