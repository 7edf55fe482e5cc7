/- ShelfLay, TreeGoBox, PackLong, as one text. -/
import Derived.Test.YtkjlchfmplcobaeDoorRunAA
import Derived.WalkKit
import Derived.WalkSmall
import Derived.OneCell
import Derived.Laws.Rows
/- Chapter 5's mathematics: entries one behind the other, each with its length ahead, and read again. Nothing of the program is in it. -/
namespace Go.Proofs.YtkjlchfmplcobaeDoor

/-- Entries, each with how many bytes it has ahead. -/
def layL (l : List (List Int)) : List Int := l.flatMap (fun e => (e.length : Int) :: e)
/-- So many entries, and nothing behind them. -/
def takeL : Nat → List Int → Option (List (List Int))
  | 0, b => if b.length = 0 then some [] else none
  | _ + 1, [] => none
  | n + 1, x :: r => if 200 < x ∨ (r.length : Int) < x then none else (takeL n (r.drop x.toNat)).map (r.take x.toNat :: ·)
theorem layL_nil : layL [] = [] := rfl
theorem layL_snoc (l : List (List Int)) (e : List Int) : layL (l ++ [e]) = layL l ++ (e.length : Int) :: e := by
  unfold layL; rw [List.flatMap_append]; simp
theorem layL_cons (e : List Int) (l : List (List Int)) : layL (e :: l) = (e.length : Int) :: (e ++ layL l) := by
  unfold layL; rw [List.flatMap_cons]; simp
theorem layL_length : ∀ (l : List (List Int)), (∀ e ∈ l, e.length ≤ 200) → (layL l).length ≤ 201 * l.length
  | [], _ => by simp [layL_nil]
  | e :: l, h => by
    rw [layL_cons]
    have h1 := h e (by simp)
    have h2 := layL_length l (fun x hx => h x (by simp [hx]))
    simp only [List.length_cons, List.length_append]
    omega
theorem takeL_lay : ∀ (l : List (List Int)), (∀ e ∈ l, e.length ≤ 200) → takeL l.length (layL l) = some l
  | [], _ => rfl
  | e :: l, h => by
    have h1 := h e (by simp)
    have h2 := takeL_lay l (fun x hx => h x (by simp [hx]))
    rw [layL_cons, List.length_cons, takeL, if_neg (by rw [List.length_append]; omega)]
    rw [Int.toNat_natCast, List.drop_left, h2, List.take_left]
    rfl
theorem takeL_len : ∀ (n : Nat) (b : List Int) (l : List (List Int)), takeL n b = some l → l.length = n ∧ ∀ e ∈ l, e.length ≤ 200
  | 0, b, l, h => by
    rw [takeL] at h
    split at h
    · cases h; exact ⟨rfl, by simp⟩
    · cases h
  | n + 1, [], l, h => by rw [takeL] at h; cases h
  | n + 1, x :: r, l, h => by
    rw [takeL] at h
    split at h
    · cases h
    · rename_i hx
      obtain ⟨l2, h2, rfl⟩ := Option.map_eq_some_iff.1 h
      obtain ⟨h3, h4⟩ := takeL_len n _ l2 h2
      refine ⟨by rw [List.length_cons, h3], fun e he => ?_⟩
      rcases List.mem_cons.1 he with rfl | he
      · rw [List.length_take]; omega
      · exact h4 e he
theorem takeL_mem : ∀ (n : Nat) (b : List Int) (l : List (List Int)), takeL n b = some l → ∀ e ∈ l, ∀ x ∈ e, x ∈ b
  | 0, b, l, h => by
    rw [takeL] at h
    split at h
    · cases h; simp
    · cases h
  | n + 1, [], l, h => by rw [takeL] at h; cases h
  | n + 1, x :: r, l, h => by
    rw [takeL] at h
    split at h
    · cases h
    · obtain ⟨l2, h2, rfl⟩ := Option.map_eq_some_iff.1 h
      intro e he y hy
      rcases List.mem_cons.1 he with rfl | he
      · exact List.mem_cons_of_mem _ (List.mem_of_mem_take hy)
      · exact List.mem_cons_of_mem _ (List.mem_of_mem_drop (takeL_mem n _ l2 h2 e he y hy))
/-- A round of reading, by places. -/
theorem drop_headD {b : List Int} {a : Nat} (h : a < b.length) : b.drop a = b.getD a 0 :: b.drop (a + 1) := by
  rw [List.drop_eq_getElem_cons h, List.getD_eq_getElem?_getD, List.getElem?_eq_getElem h]; rfl
theorem takeL_none {b : List Int} {a n : Nat} (h : ¬ a < b.length) : takeL (n + 1) (b.drop a) = none := by
  rw [List.drop_eq_nil_of_le (by omega)]; rfl
theorem takeL_much {b : List Int} {a n : Nat} (h : a < b.length) (hx : 200 < b.getD a 0) : takeL (n + 1) (b.drop a) = none := by
  rw [drop_headD h, takeL, if_pos (.inl hx)]
theorem takeL_short {b : List Int} {a n : Nat} (h : a < b.length) (hx : ((b.length - (a + 1) : Nat) : Int) < b.getD a 0) : takeL (n + 1) (b.drop a) = none := by
  rw [drop_headD h, takeL, if_pos (.inr (by rw [List.length_drop]; exact hx))]
theorem takeL_more {b : List Int} {a n x : Nat} (h : a < b.length) (hx : b.getD a 0 = (x : Int)) (h1 : x ≤ 200) (h2 : a + 1 + x ≤ b.length) :
    takeL (n + 1) (b.drop a) = (takeL n (b.drop (a + 1 + x))).map ((b.drop (a + 1)).take x :: ·) := by
  rw [drop_headD h, takeL, if_neg (by rw [List.length_drop]; omega), hx, Int.toNat_natCast, List.drop_drop]
theorem takeL_last {b : List Int} {a : Nat} (h : a ≤ b.length) : takeL 0 (b.drop a) = if a = b.length then some [] else none := by
  rw [takeL, List.length_drop]
  by_cases e : a = b.length
  · rw [if_pos (by omega), if_pos e]
  · rw [if_neg (by omega), if_neg e]

/-- What Unpack tells is of bytes, and not too much. -/
theorem copy_mem : ∀ (n : Nat) (out : List Int) (back : Nat), ∀ x ∈ copyL n out back, x ∈ out ∨ x = 0
  | 0, out, back => fun x hx => .inl hx
  | n + 1, out, back => fun x hx => by
    rcases copy_mem n _ back x hx with h | h
    · rcases List.mem_append.1 h with h | h
      · exact .inl h
      · rw [List.mem_singleton.1 h, List.getD_eq_getElem?_getD]
        by_cases hj : out.length - back < out.length
        · rw [List.getElem?_eq_getElem hj]; exact .inl (List.getElem_mem hj)
        · rw [List.getElem?_eq_none (by omega)]; exact .inr rfl
    · exact .inr h
theorem getD_mem0 (b : List Int) (a : Nat) : b.getD a 0 ∈ b ∨ b.getD a 0 = 0 := by
  rw [List.getD_eq_getElem?_getD]
  by_cases hj : a < b.length
  · rw [List.getElem?_eq_getElem hj]; exact .inl (List.getElem_mem hj)
  · rw [List.getElem?_eq_none (by omega)]; exact .inr rfl
theorem unGo_mem {b : List Int} {size : Nat} (d : Nat) : ∀ (out : List Int) (a f l : Nat) (r : List Int × Nat × Nat), size - out.length = d → unGo b size out a f l = some r → ∀ x ∈ r.1, x ∈ out ∨ x ∈ b ∨ x = 0 := by
  induction d using Nat.strongRecOn with
  | ind d ih =>
    intro out a f l r hd h
    rw [unGo] at h
    by_cases hlt : out.length < size
    · rw [dif_pos hlt] at h
      split at h
      · cases h
      · dsimp only at h
        generalize (if l = 0 then a + 1 else a) = a2 at h
        generalize (if l = 0 then (b.getD a 0).toNat else f) = f2 at h
        generalize (if l = 0 then 8 else l) = l2 at h
        split at h
        · split at h
          · intro x hx
            rcases ih _ (by simp only [List.length_append, List.length_singleton]; omega) _ _ _ _ r rfl h x hx with g | g | g
            · rcases List.mem_append.1 g with g | g
              · exact .inl g
              · rw [List.mem_singleton.1 g]; rcases getD_mem0 b a2 with q | q
                · exact .inr (.inl q)
                · exact .inr (.inr q)
            · exact .inr (.inl g)
            · exact .inr (.inr g)
          · cases h
        · split at h
          · split at h
            · cases h
            · intro x hx
              rcases ih _ (by rw [copyL_length]; omega) _ _ _ _ r rfl h x hx with g | g | g
              · rcases copy_mem _ _ _ x g with g | g
                · exact .inl g
                · exact .inr (.inr g)
              · exact .inr (.inl g)
              · exact .inr (.inr g)
          · cases h
    · rw [dif_neg hlt] at h
      cases h
      exact fun x hx => .inl hx
theorem unpack_mem (b : List Int) : ∀ x ∈ (unpackL b).1, x ∈ b ∨ x = 0 := by
  intro x hx
  unfold unpackL at hx
  split at hx
  · cases hx
  · split at hx
    · cases hx
    · split at hx
      · cases hx
      · rename_i out at' flags he
        split at hx
        · cases hx
        · rcases unGo_mem _ _ _ _ _ _ rfl he x hx with g | g | g
          · cases g
          · exact .inl g
          · exact .inr g
theorem unpack_len (b : List Int) : (unpackL b).1.length ≤ 4000 := by
  unfold unpackL
  split
  · exact Nat.zero_le _
  · split
    · exact Nat.zero_le _
    · split
      · exact Nat.zero_le _
      · split
        · exact Nat.zero_le _
        · rename_i hS out at' flags he hc
          show out.length ≤ 4000
          omega

end Go.Proofs.YtkjlchfmplcobaeDoor

/- Variables as blocks of memory: what they hold, and what becomes of them. Nothing of the program is in it. -/
namespace Go.Proofs.YtkjlchfmplcobaeDoor
open Go.RowKit

theorem lt_heap {w : World} {k : Nat} {o : Obj} (h : w.heap[k]? = some o) : k < w.heap.size := by
  rcases Nat.lt_or_ge k w.heap.size with h' | h'
  · exact h'
  · rw [Array.getElem?_eq_none h'] at h; cases h
theorem box_new (w : World) (c : Array Value) (t : TypeId) : (w.alloc (.cells c t)).heap[w.heap.size]? = some (.cells c t (0, 0)) := heap_alloc_new w _
theorem box_old (w : World) (o : Obj) {k : Nat} {x : Obj} (h : w.heap[k]? = some x) : (w.alloc o).heap[k]? = some x := by
  have := ((Below.refl w.heap.size w).alloc (Nat.le_refl _) o).block k (lt_heap h)
  rw [this]; exact h
theorem box_one (w : World) (c : Array Value) (t : TypeId) (o : Obj) : ((w.alloc (.cells c t)).alloc o).heap[w.heap.size]? = some (.cells c t (0, 0)) := box_old _ _ (box_new _ _ _)
theorem box_last (w : World) (o : Obj) (c : Array Value) (t : TypeId) : ((w.alloc o).alloc (.cells c t)).heap[w.heap.size + 1]? = some (.cells c t (0, 0)) := by
  have := box_new (w.alloc o) c t
  rwa [World.size_alloc] at this
theorem box_below {B k : Nat} {w w' : World} {x : Obj} (h : w.heap[k]? = some x) (hb : Below B w w') (hk : k < B) : w'.heap[k]? = some x := by rw [hb.block k hk]; exact h
theorem box_kept {k : Nat} {w w' : World} {x : Obj} (h : w.heap[k]? = some x) (hb : Below w.heap.size w w') : w'.heap[k]? = some x := box_below h hb (lt_heap h)
/-- What a variable of two cells holds. -/
theorem box_two {w : World} {k : Nat} {u v : Value} {t : TypeId} (h : w.heap[k]? = some (.cells #[u, v] t (0, 0))) :
    w.cell? ⟨k, 0, none⟩ = some u ∧ w.cell? ⟨k, 1, none⟩ = some v ∧ w.frozen? ⟨k, 0, none⟩ = false ∧ w.frozen? ⟨k, 1, none⟩ = false :=
  ⟨cell_of_row w k 0 _ t _ h, cell_of_row w k 1 _ t _ h, frozen_of_row w k 0 _ t h, frozen_of_row w k 1 _ t h⟩
theorem box_set_far {w : World} {k j o : Nat} {v : Value} {x : Obj} (h : w.heap[k]? = some x) (hj : k ≠ j) : (w.setCell ⟨j, o, none⟩ v).heap[k]? = some x := by rw [heap_setCell_other w ⟨j, o, none⟩ k v hj]; exact h
/-- A row of the call's own has grown: variables of other types are as they were. -/
theorem own_box {w : World} {base k n : Nat} {e t : TypeId} {v : Value} {xs : List Value} {c : Array Value} (ho : w.ownsRow base e 1 v n xs) (hk : w.heap[k]? = some (.cells c t (0, 0))) (ht : t ≠ e) : v.ownBlock ≠ some k := fun h => by
  rcases ho.2 with ⟨rfl, -⟩ | ⟨g, cap, cur, rfl, -, hh, -⟩
  · cases h
  · cases h
    rw [hh] at hk
    cases hk
    exact ht rfl
theorem grown_box {w w' : World} {base k n : Nat} {e t : TypeId} {v : Value} {xs : List Value} {c : Array Value} (hg : w.grownBy w' v.ownBlock) (ho : w.ownsRow base e 1 v n xs) (hk : w.heap[k]? = some (.cells c t (0, 0))) (ht : t ≠ e) : w'.heap[k]? = some (.cells c t (0, 0)) := by
  rw [hg.block k (lt_heap hk) (fun h => own_box ho hk ht h.symm)]; exact hk
theorem own_set {w : World} {base k n : Nat} {e t : TypeId} {v : Value} {xs : List Value} {c : Array Value} (ho : w.ownsRow base e 1 v n xs) (hk : w.heap[k]? = some (.cells c t (0, 0))) (ht : t ≠ e) (u : Value) : (w.setCell ⟨k, 0, none⟩ u).ownsRow base e 1 v n xs :=
  ownsRow_setCell_other ho (a := ⟨k, 0, none⟩) (own_box ho hk ht) u

end Go.Proofs.YtkjlchfmplcobaeDoor

/- The plain mathematics of chapter 4, fourth part: the longest stretch, whatever its length; the groups of tokens one by one. -/
namespace Go.Proofs.YtkjlchfmplcobaeDoor

def longStep (b : List Int) (a : Nat) (p : Nat × Nat) (k : Nat) : Nat × Nat := if p.1 < matchN b (a - (k + 1)) a then (matchN b (a - (k + 1)) a, k + 1) else p
def longTo (b : List Int) (a m : Nat) : Nat × Nat := (List.range m).foldl (longStep b a) (0, 0)
theorem longTo_zero (b : List Int) (a : Nat) : longTo b a 0 = (0, 0) := rfl
theorem longTo_succ (b : List Int) (a m : Nat) : longTo b a (m + 1) = longStep b a (longTo b a m) m := by
  unfold longTo; rw [List.range_succ, List.foldl_append]; rfl
theorem long_best (b : List Int) (a : Nat) : ∀ m, bestTo b a m = if 3 ≤ (longTo b a m).1 then longTo b a m else (0, 0)
  | 0 => rfl
  | m + 1 => by
    rw [bestTo_succ, longTo_succ, long_best b a m]
    unfold bestStep longStep
    by_cases h3 : 3 ≤ (longTo b a m).1
    · rw [if_pos h3]
      by_cases hn : (longTo b a m).1 < matchN b (a - (m + 1)) a
      · rw [if_pos ⟨by omega, hn⟩, if_pos hn, if_pos (by simp only; omega)]
      · rw [if_neg (fun h => hn h.2), if_neg hn, if_pos h3]
    · rw [if_neg h3]
      by_cases hn : 3 ≤ matchN b (a - (m + 1)) a
      · have hk : (longTo b a m).1 < matchN b (a - (m + 1)) a := by omega
        rw [if_pos ⟨hn, by simp only; omega⟩, if_pos hk, if_pos (by simp only; omega)]
      · rw [if_neg (fun h => hn h.1)]
        by_cases hk : (longTo b a m).1 < matchN b (a - (m + 1)) a
        · rw [if_pos hk, if_neg (by simp only; omega)]
        · rw [if_neg hk, if_neg h3]
theorem longTo_le (b : List Int) (a : Nat) : ∀ m, (longTo b a m).1 ≤ 66 ∧ (longTo b a m).2 ≤ m
  | 0 => by rw [longTo_zero]; exact ⟨by decide, by decide⟩
  | m + 1 => by
    have h := longTo_le b a m
    have h2 := (matchN_le b (a - (m + 1)) a).1
    rw [longTo_succ]
    unfold longStep
    split
    · exact ⟨h2, Nat.le_refl _⟩
    · exact ⟨h.1, by omega⟩
/-- The token at a. -/
def tokAtL (b : List Int) (a : Nat) : Tok := if (longTo b a (min a 1024)).1 < 3 then ⟨0, 0, b.getD a 0⟩ else ⟨((longTo b a (min a 1024)).1 : Int), ((longTo b a (min a 1024)).2 : Int), 0⟩
def widN (t : Tok) : Nat := if t.len = 0 then 1 else t.len.toNat
theorem tok_here {b : List Int} {a : Nat} (h : a < b.length) : tokFrom b a = tokAtL b a :: tokFrom b (a + widN (tokAtL b a)) ∧ 1 ≤ widN (tokAtL b a) ∧ a + widN (tokAtL b a) ≤ b.length ∧ ((tokAtL b a).len = 0 ∨ (3 ≤ (tokAtL b a).len ∧ (tokAtL b a).len ≤ 66)) := by
  have hb : bestL b a = if 3 ≤ (longTo b a (min a 1024)).1 then longTo b a (min a 1024) else (0, 0) := long_best b a _
  unfold tokAtL
  by_cases h3 : (longTo b a (min a 1024)).1 < 3
  · rw [if_neg (by omega)] at hb
    rw [if_pos h3, tokFrom_byte h (by rw [hb])]
    exact ⟨rfl, Nat.le_refl _, h, .inl rfl⟩
  · rw [if_pos (by omega)] at hb
    rw [if_neg h3, tokFrom_more h (by rw [hb]; omega), hb]
    have hw : widN ⟨((longTo b a (min a 1024)).1 : Int), ((longTo b a (min a 1024)).2 : Int), 0⟩ = (longTo b a (min a 1024)).1 := by
      unfold widN; rw [if_neg (by simp only; omega)]; simp
    rw [hw]
    have hs := best_spec b a
    rw [hb] at hs
    have h66 := (longTo_le b a (min a 1024)).1
    refine ⟨rfl, by omega, ?_, .inr ⟨by simp only; omega, by simp only; omega⟩⟩
    rcases hs with hs | hs
    · rw [hs] at h3; simp at h3
    · omega
/-- The groups of the first q eights. -/
def groupQ (l : List Tok) (q : Nat) : List Tok := (l.drop (8 * q)).take 8
def groupB (g : List Tok) : List Int := (flagsN g : Int) :: g.flatMap bodyT
def groupsTo (l : List Tok) (q : Nat) : List Int := (List.range q).flatMap fun j => groupB (groupQ l j)
theorem groupsTo_succ (l : List Tok) (q : Nat) : groupsTo l (q + 1) = groupsTo l q ++ groupB (groupQ l q) := by
  unfold groupsTo; rw [List.range_succ, List.flatMap_append]; simp
theorem groups_here (l : List Tok) (q : Nat) (h : 8 * q < l.length) : groupsL (l.drop (8 * q)) = groupB (groupQ l q) ++ groupsL (l.drop (8 * (q + 1))) := by
  rw [groupsL_more (by rw [List.length_drop]; omega), List.drop_drop]
  rfl
theorem groups_to (l : List Tok) : ∀ q, 8 * q ≤ l.length + 7 → groupsL l = groupsTo l q ++ groupsL (l.drop (8 * q))
  | 0, _ => rfl
  | q + 1, h => by
    rw [groups_to l q (by omega), groups_here l q (by omega), groupsTo_succ, List.append_assoc]
theorem groups_all {l : List Tok} {q : Nat} (h : l.length ≤ 8 * q) (h2 : 8 * q ≤ l.length + 7) : groupsL l = groupsTo l q := by
  rw [groups_to l q h2, groupsL_none (by rw [List.length_drop]; omega), List.append_nil]

end Go.Proofs.YtkjlchfmplcobaeDoor
