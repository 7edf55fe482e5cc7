/- TreeGoBox, PackLong, PackRead, as one text. -/
import Derived.WalkKit
import Derived.WalkSmall
import Derived.OneCell
import Derived.Laws.Rows
import Derived.Test.YtkjlchfmplcobadDoorRunAA
/- Variables as blocks of memory: what they hold, and what becomes of them. Nothing of the program is in it. -/
namespace Go.Proofs.YtkjlchfmplcobadDoor
open Go.RowKit

theorem lt_heap {w : World} {k : Nat} {o : Obj} (h : w.heap[k]? = some o) : k < w.heap.size := by
  rcases Nat.lt_or_ge k w.heap.size with h' | h'
  · exact h'
  · rw [Array.getElem?_eq_none h'] at h; cases h
theorem box_new (w : World) (c : Array Value) (t : TypeId) : (w.alloc (.cells c t)).heap[w.heap.size]? = some (.cells c t (0, 0)) := heap_alloc_new w _
theorem box_old (w : World) (o : Obj) {k : Nat} {x : Obj} (h : w.heap[k]? = some x) : (w.alloc o).heap[k]? = some x := by
  have := ((Below.refl w.heap.size w).alloc (Nat.le_refl _) o).block k (lt_heap h)
  rw [this]; exact h
theorem box_one (w : World) (c : Array Value) (t : TypeId) (o : Obj) : ((w.alloc (.cells c t)).alloc o).heap[w.heap.size]? = some (.cells c t (0, 0)) := box_old _ _ (box_new _ _ _)
theorem box_last (w : World) (o : Obj) (c : Array Value) (t : TypeId) : ((w.alloc o).alloc (.cells c t)).heap[w.heap.size + 1]? = some (.cells c t (0, 0)) := by
  have := box_new (w.alloc o) c t
  rwa [World.size_alloc] at this
theorem box_below {B k : Nat} {w w' : World} {x : Obj} (h : w.heap[k]? = some x) (hb : Below B w w') (hk : k < B) : w'.heap[k]? = some x := by rw [hb.block k hk]; exact h
theorem box_kept {k : Nat} {w w' : World} {x : Obj} (h : w.heap[k]? = some x) (hb : Below w.heap.size w w') : w'.heap[k]? = some x := box_below h hb (lt_heap h)
/-- What a variable of two cells holds. -/
theorem box_two {w : World} {k : Nat} {u v : Value} {t : TypeId} (h : w.heap[k]? = some (.cells #[u, v] t (0, 0))) :
    w.cell? ⟨k, 0, none⟩ = some u ∧ w.cell? ⟨k, 1, none⟩ = some v ∧ w.frozen? ⟨k, 0, none⟩ = false ∧ w.frozen? ⟨k, 1, none⟩ = false :=
  ⟨cell_of_row w k 0 _ t _ h, cell_of_row w k 1 _ t _ h, frozen_of_row w k 0 _ t h, frozen_of_row w k 1 _ t h⟩
theorem box_cell {w : World} {k : Nat} {u : Value} {t : TypeId} (h : w.heap[k]? = some (.cells #[u] t (0, 0))) : w.cell? ⟨k, 0, none⟩ = some u ∧ w.frozen? ⟨k, 0, none⟩ = false := ⟨cell_of_one h, free_of_one h⟩
theorem box_set {w : World} {k : Nat} {u v : Value} {t : TypeId} (h : w.heap[k]? = some (.cells #[u] t (0, 0))) : (w.setCell ⟨k, 0, none⟩ v).heap[k]? = some (.cells #[v] t (0, 0)) := one_setCell h
theorem box_set_far {w : World} {k j o : Nat} {v : Value} {x : Obj} (h : w.heap[k]? = some x) (hj : k ≠ j) : (w.setCell ⟨j, o, none⟩ v).heap[k]? = some x := by rw [heap_setCell_other w ⟨j, o, none⟩ k v hj]; exact h
/-- A row of the call's own has grown: variables of other types are as they were. -/
theorem own_box {w : World} {base k n : Nat} {e t : TypeId} {v : Value} {xs : List Value} {c : Array Value} (ho : w.ownsRow base e 1 v n xs) (hk : w.heap[k]? = some (.cells c t (0, 0))) (ht : t ≠ e) : v.ownBlock ≠ some k := fun h => by
  rcases ho.2 with ⟨rfl, -⟩ | ⟨g, cap, cur, rfl, -, hh, -⟩
  · cases h
  · cases h
    rw [hh] at hk
    cases hk
    exact ht rfl
theorem grown_box {w w' : World} {base k n : Nat} {e t : TypeId} {v : Value} {xs : List Value} {c : Array Value} (hg : w.grownBy w' v.ownBlock) (ho : w.ownsRow base e 1 v n xs) (hk : w.heap[k]? = some (.cells c t (0, 0))) (ht : t ≠ e) : w'.heap[k]? = some (.cells c t (0, 0)) := by
  rw [hg.block k (lt_heap hk) (fun h => own_box ho hk ht h.symm)]; exact hk
theorem own_set {w : World} {base k n : Nat} {e t : TypeId} {v : Value} {xs : List Value} {c : Array Value} (ho : w.ownsRow base e 1 v n xs) (hk : w.heap[k]? = some (.cells c t (0, 0))) (ht : t ≠ e) (u : Value) : (w.setCell ⟨k, 0, none⟩ u).ownsRow base e 1 v n xs :=
  ownsRow_setCell_other ho (a := ⟨k, 0, none⟩) (own_box ho hk ht) u

end Go.Proofs.YtkjlchfmplcobadDoor

/- The plain mathematics of chapter 4, fourth part: the longest stretch, whatever its length; the groups of tokens one by one. -/
namespace Go.Proofs.YtkjlchfmplcobadDoor

def longStep (b : List Int) (a : Nat) (p : Nat × Nat) (k : Nat) : Nat × Nat := if p.1 < matchN b (a - (k + 1)) a then (matchN b (a - (k + 1)) a, k + 1) else p
def longTo (b : List Int) (a m : Nat) : Nat × Nat := (List.range m).foldl (longStep b a) (0, 0)
theorem longTo_zero (b : List Int) (a : Nat) : longTo b a 0 = (0, 0) := rfl
theorem longTo_succ (b : List Int) (a m : Nat) : longTo b a (m + 1) = longStep b a (longTo b a m) m := by
  unfold longTo; rw [List.range_succ, List.foldl_append]; rfl
theorem long_best (b : List Int) (a : Nat) : ∀ m, bestTo b a m = if 3 ≤ (longTo b a m).1 then longTo b a m else (0, 0)
  | 0 => rfl
  | m + 1 => by
    rw [bestTo_succ, longTo_succ, long_best b a m]
    unfold bestStep longStep
    by_cases h3 : 3 ≤ (longTo b a m).1
    · rw [if_pos h3]
      by_cases hn : (longTo b a m).1 < matchN b (a - (m + 1)) a
      · rw [if_pos ⟨by omega, hn⟩, if_pos hn, if_pos (by simp only; omega)]
      · rw [if_neg (fun h => hn h.2), if_neg hn, if_pos h3]
    · rw [if_neg h3]
      by_cases hn : 3 ≤ matchN b (a - (m + 1)) a
      · have hk : (longTo b a m).1 < matchN b (a - (m + 1)) a := by omega
        rw [if_pos ⟨hn, by simp only; omega⟩, if_pos hk, if_pos (by simp only; omega)]
      · rw [if_neg (fun h => hn h.1)]
        by_cases hk : (longTo b a m).1 < matchN b (a - (m + 1)) a
        · rw [if_pos hk, if_neg (by simp only; omega)]
        · rw [if_neg hk, if_neg h3]
theorem longTo_le (b : List Int) (a : Nat) : ∀ m, (longTo b a m).1 ≤ 66 ∧ (longTo b a m).2 ≤ m
  | 0 => by rw [longTo_zero]; exact ⟨by decide, by decide⟩
  | m + 1 => by
    have h := longTo_le b a m
    have h2 := (matchN_le b (a - (m + 1)) a).1
    rw [longTo_succ]
    unfold longStep
    split
    · exact ⟨h2, Nat.le_refl _⟩
    · exact ⟨h.1, by omega⟩
/-- The token at a. -/
def tokAtL (b : List Int) (a : Nat) : Tok := if (longTo b a (min a 1024)).1 < 3 then ⟨0, 0, b.getD a 0⟩ else ⟨((longTo b a (min a 1024)).1 : Int), ((longTo b a (min a 1024)).2 : Int), 0⟩
def widN (t : Tok) : Nat := if t.len = 0 then 1 else t.len.toNat
theorem tok_here {b : List Int} {a : Nat} (h : a < b.length) : tokFrom b a = tokAtL b a :: tokFrom b (a + widN (tokAtL b a)) ∧ 1 ≤ widN (tokAtL b a) ∧ a + widN (tokAtL b a) ≤ b.length ∧ ((tokAtL b a).len = 0 ∨ (3 ≤ (tokAtL b a).len ∧ (tokAtL b a).len ≤ 66)) := by
  have hb : bestL b a = if 3 ≤ (longTo b a (min a 1024)).1 then longTo b a (min a 1024) else (0, 0) := long_best b a _
  unfold tokAtL
  by_cases h3 : (longTo b a (min a 1024)).1 < 3
  · rw [if_neg (by omega)] at hb
    rw [if_pos h3, tokFrom_byte h (by rw [hb])]
    exact ⟨rfl, Nat.le_refl _, h, .inl rfl⟩
  · rw [if_pos (by omega)] at hb
    rw [if_neg h3, tokFrom_more h (by rw [hb]; omega), hb]
    have hw : widN ⟨((longTo b a (min a 1024)).1 : Int), ((longTo b a (min a 1024)).2 : Int), 0⟩ = (longTo b a (min a 1024)).1 := by
      unfold widN; rw [if_neg (by simp only; omega)]; simp
    rw [hw]
    have hs := best_spec b a
    rw [hb] at hs
    have h66 := (longTo_le b a (min a 1024)).1
    refine ⟨rfl, by omega, ?_, .inr ⟨by simp only; omega, by simp only; omega⟩⟩
    rcases hs with hs | hs
    · rw [hs] at h3; simp at h3
    · omega
/-- The groups of the first q eights. -/
def groupQ (l : List Tok) (q : Nat) : List Tok := (l.drop (8 * q)).take 8
def groupB (g : List Tok) : List Int := (flagsN g : Int) :: g.flatMap bodyT
def groupsTo (l : List Tok) (q : Nat) : List Int := (List.range q).flatMap fun j => groupB (groupQ l j)
theorem groupsTo_succ (l : List Tok) (q : Nat) : groupsTo l (q + 1) = groupsTo l q ++ groupB (groupQ l q) := by
  unfold groupsTo; rw [List.range_succ, List.flatMap_append]; simp
theorem groups_here (l : List Tok) (q : Nat) (h : 8 * q < l.length) : groupsL (l.drop (8 * q)) = groupB (groupQ l q) ++ groupsL (l.drop (8 * (q + 1))) := by
  rw [groupsL_more (by rw [List.length_drop]; omega), List.drop_drop]
  rfl
theorem groups_to (l : List Tok) : ∀ q, 8 * q ≤ l.length + 7 → groupsL l = groupsTo l q ++ groupsL (l.drop (8 * q))
  | 0, _ => rfl
  | q + 1, h => by
    rw [groups_to l q (by omega), groups_here l q (by omega), groupsTo_succ, List.append_assoc]
theorem groups_all {l : List Tok} {q : Nat} (h : l.length ≤ 8 * q) (h2 : 8 * q ≤ l.length + 7) : groupsL l = groupsTo l q := by
  rw [groups_to l q h2, groupsL_none (by rw [List.length_drop]; omega), List.append_nil]

end Go.Proofs.YtkjlchfmplcobadDoor

/- The plain mathematics of chapter 4, third part: reading the tokens first, and telling their text then, is unpacking as one goes. -/
namespace Go.Proofs.YtkjlchfmplcobadDoor

/-- The token that stands at a, told by its flag; and where it ends. -/
def unTok (b : List Int) (a f : Nat) : Option (Tok × Nat) :=
  if f % 2 = 0 then (if a < b.length then some (⟨0, 0, b.getD a 0⟩, a + 1) else none)
  else if a + 1 < b.length then some (⟨(((256 * b.getD a 0 + b.getD (a + 1) 0).toNat / 1024 + 3 : Nat) : Int), (((256 * b.getD a 0 + b.getD (a + 1) 0).toNat % 1024 + 1 : Nat) : Int), 0⟩, a + 2) else none
def wid (t : Tok) : Int := max 1 t.len
/-- Tokens read till their widths are size: the tokens, what is left of size, how far, the flags that are left. -/
def readGo (b : List Int) (size : Int) (n a f : Nat) : Option (List Tok × Int × Nat × Nat) :=
  if _h : 0 < size then
    if n % 8 = 0 ∧ ¬ a < b.length then none else
    match unTok b (if n % 8 = 0 then a + 1 else a) (if n % 8 = 0 then (b.getD a 0).toNat else f) with
    | none => none
    | some (t, a2) => (readGo b (size - wid t) (n + 1) a2 ((if n % 8 = 0 then (b.getD a 0).toNat else f) / 2)).map fun r => (t :: r.1, r.2)
  else some ([], size, a, f)
termination_by size.toNat
decreasing_by unfold wid; omega
theorem readGo_end {b : List Int} {size : Int} {n a f : Nat} (h : ¬ 0 < size) : readGo b size n a f = some ([], size, a, f) := by rw [readGo, dif_neg h]
theorem readGo_short {b : List Int} {size : Int} {n a f : Nat} (h : 0 < size) (hn : n % 8 = 0) (ha : ¬ a < b.length) : readGo b size n a f = none := by
  rw [readGo, dif_pos h, if_pos ⟨hn, ha⟩]
theorem readGo_none {b : List Int} {size : Int} {n a f : Nat} (h : 0 < size) (hu : unTok b (if n % 8 = 0 then a + 1 else a) (if n % 8 = 0 then (b.getD a 0).toNat else f) = none) : readGo b size n a f = none := by
  rw [readGo, dif_pos h]
  split
  · rfl
  · rw [hu]
theorem readGo_more {b : List Int} {size : Int} {n a f : Nat} {t : Tok} {a2 : Nat} (h : 0 < size) (hs : ¬ (n % 8 = 0 ∧ ¬ a < b.length)) (hu : unTok b (if n % 8 = 0 then a + 1 else a) (if n % 8 = 0 then (b.getD a 0).toNat else f) = some (t, a2)) :
    readGo b size n a f = (readGo b (size - wid t) (n + 1) a2 ((if n % 8 = 0 then (b.getD a 0).toNat else f) / 2)).map fun r => (t :: r.1, r.2) := by
  conv => lhs; rw [readGo]
  rw [dif_pos h, if_neg hs, hu]
/-- What comes of it at the end. -/
def unFin (b : List Int) (S : Nat) : Option (List Int × Nat × Nat) → List Int × Int
  | none => ([], 2)
  | some (out, a, f) => if a ≠ b.length ∨ out.length ≠ S ∨ f ≠ 0 then ([], 2) else (out, 0)
def readFin (b : List Int) (out : List Int) (i : Nat) : Option (List Tok × Int × Nat × Nat) → List Int × Int
  | none => ([], 2)
  | some (l, s, a, f) => if s ≠ 0 ∨ f ≠ 0 ∨ a ≠ b.length then ([], 2) else if (textFrom out i l).2.1 ≠ 0 then ([], 2) else ((textFrom out i l).1, 0)
theorem readFin_cons_bad {b out : List Int} {i : Nat} {t : Tok} (h : tokBad out.length t ≠ 0) (r : Option (List Tok × Int × Nat × Nat)) : readFin b out i (r.map fun r => (t :: r.1, r.2)) = ([], 2) := by
  cases r with
  | none => rfl
  | some r =>
    obtain ⟨l, s, a, f⟩ := r
    simp only [Option.map_some, readFin]
    split
    · rfl
    · rw [textFrom, if_pos h, if_pos h]
theorem readFin_cons {b out : List Int} {i : Nat} {t : Tok} (h : tokBad out.length t = 0) (r : Option (List Tok × Int × Nat × Nat)) : readFin b out i (r.map fun r => (t :: r.1, r.2)) = readFin b (tokPut out t) (i + 1) r := by
  cases r with
  | none => rfl
  | some r =>
    obtain ⟨l, s, a, f⟩ := r
    simp only [Option.map_some, readFin]
    have e : textFrom out i (t :: l) = textFrom (tokPut out t) (i + 1) l := by rw [textFrom, if_neg (fun h' => h' h)]
    rw [e]
theorem read_text {b : List Int} (hB : ∀ j, 0 ≤ b.getD j 0 ∧ b.getD j 0 < 256) {S : Nat} (hS : S ≤ 4000) (d : Nat) : ∀ (out : List Int) (i n a f l : Nat), S - out.length = d → l = (8 - n % 8) % 8 → unFin b S (unGo b S out a f l) = readFin b out i (readGo b ((S : Int) - out.length) n a f) := by
  induction d using Nat.strongRecOn with
  | ind d ih =>
    intro out i n a f l hd hl
    by_cases h : out.length < S
    · have hz : (l = 0) ↔ (n % 8 = 0) := by omega
      by_cases hs : n % 8 = 0 ∧ ¬ a < b.length
      · rw [readGo_short (by omega) hs.1 hs.2, unGo, dif_pos h, if_pos ⟨hz.2 hs.1, hs.2⟩]
        rfl
      · rw [unGo, dif_pos h, if_neg (fun e => hs ⟨hz.1 e.1, e.2⟩)]
        have e1 : (if l = 0 then a + 1 else a) = (if n % 8 = 0 then a + 1 else a) := by simp only [hz]
        have e2 : (if l = 0 then (b.getD a 0).toNat else f) = (if n % 8 = 0 then (b.getD a 0).toNat else f) := by simp only [hz]
        dsimp only
        rw [e1, e2]
        obtain ⟨a1, ha1⟩ : ∃ x, x = (if n % 8 = 0 then a + 1 else a) := ⟨_, rfl⟩
        obtain ⟨f1, hf1⟩ : ∃ x, x = (if n % 8 = 0 then (b.getD a 0).toNat else f) := ⟨_, rfl⟩
        rw [← ha1, ← hf1]
        have hl2 : (if l = 0 then 8 else l) - 1 = (8 - (n + 1) % 8) % 8 := by split <;> omega
        rw [hl2]
        by_cases hf : f1 % 2 = 0
        · rw [if_pos hf]
          by_cases ha : a1 < b.length
          · have hu : unTok b (if n % 8 = 0 then a + 1 else a) (if n % 8 = 0 then (b.getD a 0).toNat else f) = some (⟨0, 0, b.getD a1 0⟩, a1 + 1) := by rw [← ha1, ← hf1, unTok, if_pos hf, if_pos ha]
            rw [readGo_more (by omega) hs hu, ← hf1, if_pos ha, readFin_cons (by simp only [tokBad]; rw [if_pos trivial, if_neg (by omega)])]
            have e3 : (S : Int) - out.length - wid ⟨0, 0, b.getD a1 0⟩ = (S : Int) - (out ++ [b.getD a1 0]).length := by
              unfold wid; rw [List.length_append, List.length_singleton]; simp only; omega
            rw [e3, show tokPut out ⟨0, 0, b.getD a1 0⟩ = out ++ [b.getD a1 0] by simp [tokPut]]
            exact ih (S - (out ++ [b.getD a1 0]).length) (by rw [List.length_append, List.length_singleton]; omega) _ (i + 1) (n + 1) _ _ _ rfl rfl
          · have hu : unTok b (if n % 8 = 0 then a + 1 else a) (if n % 8 = 0 then (b.getD a 0).toNat else f) = none := by rw [← ha1, ← hf1, unTok, if_pos hf, if_neg ha]
            rw [readGo_none (by omega) hu, if_neg ha]
            rfl
        · rw [if_neg hf]
          by_cases ha : a1 + 1 < b.length
          · obtain ⟨x, hx⟩ : ∃ x, x = (256 * b.getD a1 0 + b.getD (a1 + 1) 0).toNat := ⟨_, rfl⟩
            have hu : unTok b (if n % 8 = 0 then a + 1 else a) (if n % 8 = 0 then (b.getD a 0).toNat else f) = some (⟨((x / 1024 + 3 : Nat) : Int), ((x % 1024 + 1 : Nat) : Int), 0⟩, a1 + 2) := by rw [← ha1, ← hf1, unTok, if_neg hf, if_pos ha, hx]
            rw [readGo_more (by omega) hs hu, ← hf1, if_pos ha, ← hx]
            by_cases hb : out.length < x % 1024 + 1
            · rw [if_pos hb, readFin_cons_bad]
              · rfl
              · simp only [tokBad]
                rw [if_neg (by omega)]
                split
                · decide
                · rw [if_pos (by omega)]; decide
            · rw [if_neg hb]
              by_cases hm : 4000 < out.length + (x / 1024 + 3)
              · rw [unGo_end (by rw [copyL_length]; omega), readGo_end (by unfold wid; simp only; omega)]
                simp only [unFin, readFin, Option.map_some]
                rw [if_pos (.inr (.inl (by rw [copyL_length]; omega))), if_pos (.inl (by unfold wid; simp only; omega))]
              · have h66 : x / 1024 + 3 ≤ 66 := by have := hB a1; have := hB (a1 + 1); omega
                rw [readFin_cons (by simp only [tokBad]; rw [if_neg (by omega), if_neg (by omega), if_neg (by omega), if_neg (by omega)])]
                have e3 : (S : Int) - out.length - wid ⟨((x / 1024 + 3 : Nat) : Int), ((x % 1024 + 1 : Nat) : Int), 0⟩ = (S : Int) - (copyL (x / 1024 + 3) out (x % 1024 + 1)).length := by
                  unfold wid; rw [copyL_length]; simp only; omega
                have e4 : tokPut out ⟨((x / 1024 + 3 : Nat) : Int), ((x % 1024 + 1 : Nat) : Int), 0⟩ = copyL (x / 1024 + 3) out (x % 1024 + 1) := by
                  simp only [tokPut]; rw [if_neg (by omega), Int.toNat_natCast, Int.toNat_natCast]
                rw [e3, e4]
                exact ih (S - (copyL (x / 1024 + 3) out (x % 1024 + 1)).length) (by rw [copyL_length]; omega) _ (i + 1) (n + 1) _ _ _ rfl rfl
          · have hu : unTok b (if n % 8 = 0 then a + 1 else a) (if n % 8 = 0 then (b.getD a 0).toNat else f) = none := by rw [← ha1, ← hf1, unTok, if_neg hf, if_neg ha]
            rw [readGo_none (by omega) hu, if_neg ha]
            rfl
    · rw [unGo_end h, readGo_end (by omega)]
      have e0 : readFin b out i (some ([], (S : Int) - out.length, a, f)) = if (S : Int) - out.length ≠ 0 ∨ f ≠ 0 ∨ a ≠ b.length then ([], 2) else (out, 0) := rfl
      rw [e0]
      simp only [unFin]
      by_cases hc : a ≠ b.length ∨ out.length ≠ S ∨ f ≠ 0
      · rw [if_pos hc, if_pos (by omega)]
      · rw [if_neg hc, if_neg (by omega)]
theorem unpack_read (b : List Int) (hB : ∀ j, 0 ≤ b.getD j 0 ∧ b.getD j 0 < 256) (hb : ¬ b.length < 2) (hS : ¬ 4000 < (256 * b.getD 0 0 + b.getD 1 0).toNat) : unpackL b = readFin b [] 0 (readGo b ((256 * b.getD 0 0 + b.getD 1 0).toNat : Int) 0 2 0) := by
  have h := read_text (b := b) hB (S := (256 * b.getD 0 0 + b.getD 1 0).toNat) (by omega) _ [] 0 0 2 0 0 rfl rfl
  rw [show (((256 * b.getD 0 0 + b.getD 1 0).toNat : Nat) : Int) - (([] : List Int).length : Int) = (((256 * b.getD 0 0 + b.getD 1 0).toNat : Nat) : Int) by simp] at h
  rw [← h, unpackL, if_neg hb, if_neg hS]
  rfl

end Go.Proofs.YtkjlchfmplcobadDoor
