/- Chapter 5's mathematics: entries one behind the other, each with its length ahead, and read again. Nothing of the program is in it. -/
import Derived.Test.YtbkkfchcdfhfgacPackSizes
namespace Go.Proofs.Ytbkkfchcdfhfgac

/-- Entries, each with how many bytes it has ahead. -/
def layL (l : List (List Int)) : List Int := l.flatMap (fun e => (e.length : Int) :: e)
/-- So many entries, and nothing behind them. -/
def takeL : Nat → List Int → Option (List (List Int))
  | 0, b => if b.length = 0 then some [] else none
  | _ + 1, [] => none
  | n + 1, x :: r => if 200 < x ∨ (r.length : Int) < x then none else (takeL n (r.drop x.toNat)).map (r.take x.toNat :: ·)
theorem layL_nil : layL [] = [] := rfl
theorem layL_snoc (l : List (List Int)) (e : List Int) : layL (l ++ [e]) = layL l ++ (e.length : Int) :: e := by
  unfold layL; rw [List.flatMap_append]; simp
theorem layL_cons (e : List Int) (l : List (List Int)) : layL (e :: l) = (e.length : Int) :: (e ++ layL l) := by
  unfold layL; rw [List.flatMap_cons]; simp
theorem layL_length : ∀ (l : List (List Int)), (∀ e ∈ l, e.length ≤ 200) → (layL l).length ≤ 201 * l.length
  | [], _ => by simp [layL_nil]
  | e :: l, h => by
    rw [layL_cons]
    have h1 := h e (by simp)
    have h2 := layL_length l (fun x hx => h x (by simp [hx]))
    simp only [List.length_cons, List.length_append]
    omega
theorem takeL_lay : ∀ (l : List (List Int)), (∀ e ∈ l, e.length ≤ 200) → takeL l.length (layL l) = some l
  | [], _ => rfl
  | e :: l, h => by
    have h1 := h e (by simp)
    have h2 := takeL_lay l (fun x hx => h x (by simp [hx]))
    rw [layL_cons, List.length_cons, takeL, if_neg (by rw [List.length_append]; omega)]
    rw [Int.toNat_natCast, List.drop_left, h2, List.take_left]
    rfl
theorem takeL_len : ∀ (n : Nat) (b : List Int) (l : List (List Int)), takeL n b = some l → l.length = n ∧ ∀ e ∈ l, e.length ≤ 200
  | 0, b, l, h => by
    rw [takeL] at h
    split at h
    · cases h; exact ⟨rfl, by simp⟩
    · cases h
  | n + 1, [], l, h => by rw [takeL] at h; cases h
  | n + 1, x :: r, l, h => by
    rw [takeL] at h
    split at h
    · cases h
    · rename_i hx
      obtain ⟨l2, h2, rfl⟩ := Option.map_eq_some_iff.1 h
      obtain ⟨h3, h4⟩ := takeL_len n _ l2 h2
      refine ⟨by rw [List.length_cons, h3], fun e he => ?_⟩
      rcases List.mem_cons.1 he with rfl | he
      · rw [List.length_take]; omega
      · exact h4 e he
theorem takeL_mem : ∀ (n : Nat) (b : List Int) (l : List (List Int)), takeL n b = some l → ∀ e ∈ l, ∀ x ∈ e, x ∈ b
  | 0, b, l, h => by
    rw [takeL] at h
    split at h
    · cases h; simp
    · cases h
  | n + 1, [], l, h => by rw [takeL] at h; cases h
  | n + 1, x :: r, l, h => by
    rw [takeL] at h
    split at h
    · cases h
    · obtain ⟨l2, h2, rfl⟩ := Option.map_eq_some_iff.1 h
      intro e he y hy
      rcases List.mem_cons.1 he with rfl | he
      · exact List.mem_cons_of_mem _ (List.mem_of_mem_take hy)
      · exact List.mem_cons_of_mem _ (List.mem_of_mem_drop (takeL_mem n _ l2 h2 e he y hy))
/-- A round of reading, by places. -/
theorem drop_headD {b : List Int} {a : Nat} (h : a < b.length) : b.drop a = b.getD a 0 :: b.drop (a + 1) := by
  rw [List.drop_eq_getElem_cons h, List.getD_eq_getElem?_getD, List.getElem?_eq_getElem h]; rfl
theorem takeL_none {b : List Int} {a n : Nat} (h : ¬ a < b.length) : takeL (n + 1) (b.drop a) = none := by
  rw [List.drop_eq_nil_of_le (by omega)]; rfl
theorem takeL_much {b : List Int} {a n : Nat} (h : a < b.length) (hx : 200 < b.getD a 0) : takeL (n + 1) (b.drop a) = none := by
  rw [drop_headD h, takeL, if_pos (.inl hx)]
theorem takeL_short {b : List Int} {a n : Nat} (h : a < b.length) (hx : ((b.length - (a + 1) : Nat) : Int) < b.getD a 0) : takeL (n + 1) (b.drop a) = none := by
  rw [drop_headD h, takeL, if_pos (.inr (by rw [List.length_drop]; exact hx))]
theorem takeL_more {b : List Int} {a n x : Nat} (h : a < b.length) (hx : b.getD a 0 = (x : Int)) (h1 : x ≤ 200) (h2 : a + 1 + x ≤ b.length) :
    takeL (n + 1) (b.drop a) = (takeL n (b.drop (a + 1 + x))).map ((b.drop (a + 1)).take x :: ·) := by
  rw [drop_headD h, takeL, if_neg (by rw [List.length_drop]; omega), hx, Int.toNat_natCast, List.drop_drop]
theorem takeL_last {b : List Int} {a : Nat} (h : a ≤ b.length) : takeL 0 (b.drop a) = if a = b.length then some [] else none := by
  rw [takeL, List.length_drop]
  by_cases e : a = b.length
  · rw [if_pos (by omega), if_pos e]
  · rw [if_neg (by omega), if_neg e]

/-- What Unpack tells is of bytes, and not too much. -/
theorem copy_mem : ∀ (n : Nat) (out : List Int) (back : Nat), ∀ x ∈ copyL n out back, x ∈ out ∨ x = 0
  | 0, out, back => fun x hx => .inl hx
  | n + 1, out, back => fun x hx => by
    rcases copy_mem n _ back x hx with h | h
    · rcases List.mem_append.1 h with h | h
      · exact .inl h
      · rw [List.mem_singleton.1 h, List.getD_eq_getElem?_getD]
        by_cases hj : out.length - back < out.length
        · rw [List.getElem?_eq_getElem hj]; exact .inl (List.getElem_mem hj)
        · rw [List.getElem?_eq_none (by omega)]; exact .inr rfl
    · exact .inr h
theorem getD_mem0 (b : List Int) (a : Nat) : b.getD a 0 ∈ b ∨ b.getD a 0 = 0 := by
  rw [List.getD_eq_getElem?_getD]
  by_cases hj : a < b.length
  · rw [List.getElem?_eq_getElem hj]; exact .inl (List.getElem_mem hj)
  · rw [List.getElem?_eq_none (by omega)]; exact .inr rfl
theorem unGo_mem {b : List Int} {size : Nat} (d : Nat) : ∀ (out : List Int) (a f l : Nat) (r : List Int × Nat × Nat), size - out.length = d → unGo b size out a f l = some r → ∀ x ∈ r.1, x ∈ out ∨ x ∈ b ∨ x = 0 := by
  induction d using Nat.strongRecOn with
  | ind d ih =>
    intro out a f l r hd h
    rw [unGo] at h
    by_cases hlt : out.length < size
    · rw [dif_pos hlt] at h
      split at h
      · cases h
      · dsimp only at h
        generalize (if l = 0 then a + 1 else a) = a2 at h
        generalize (if l = 0 then (b.getD a 0).toNat else f) = f2 at h
        generalize (if l = 0 then 8 else l) = l2 at h
        split at h
        · split at h
          · intro x hx
            rcases ih _ (by simp only [List.length_append, List.length_singleton]; omega) _ _ _ _ r rfl h x hx with g | g | g
            · rcases List.mem_append.1 g with g | g
              · exact .inl g
              · rw [List.mem_singleton.1 g]; rcases getD_mem0 b a2 with q | q
                · exact .inr (.inl q)
                · exact .inr (.inr q)
            · exact .inr (.inl g)
            · exact .inr (.inr g)
          · cases h
        · split at h
          · split at h
            · cases h
            · intro x hx
              rcases ih _ (by rw [copyL_length]; omega) _ _ _ _ r rfl h x hx with g | g | g
              · rcases copy_mem _ _ _ x g with g | g
                · exact .inl g
                · exact .inr (.inr g)
              · exact .inr (.inl g)
              · exact .inr (.inr g)
          · cases h
    · rw [dif_neg hlt] at h
      cases h
      exact fun x hx => .inl hx
theorem unpack_mem (b : List Int) : ∀ x ∈ (unpackL b).1, x ∈ b ∨ x = 0 := by
  intro x hx
  unfold unpackL at hx
  split at hx
  · cases hx
  · split at hx
    · cases hx
    · split at hx
      · cases hx
      · rename_i out at' flags he
        split at hx
        · cases hx
        · rcases unGo_mem _ _ _ _ _ _ rfl he x hx with g | g | g
          · cases g
          · exact .inl g
          · exact .inr g
theorem unpack_len (b : List Int) : (unpackL b).1.length ≤ 4000 := by
  unfold unpackL
  split
  · exact Nat.zero_le _
  · split
    · exact Nat.zero_le _
    · split
      · exact Nat.zero_le _
      · split
        · exact Nat.zero_le _
        · rename_i hS out at' flags he hc
          show out.length ≤ 4000
          omega

end Go.Proofs.Ytbkkfchcdfhfgac
