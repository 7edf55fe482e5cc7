/- PackTake, ByteClone, as one text. -/
import Derived.Test.YtkjlchfmplcobadDoorProg
import Derived.Test.YtkjlchfmplcobadDoorRunAH
import Derived.WalkKit
import Derived.WalkSpells
import Derived.WalkLawsBesides
import Derived.Test.YtkjlchfmplcobadDoorRunAG
/- Beginnings of what lies in memory; boxes of a token; small facts of chapter 4. -/
namespace Go.Proofs.YtkjlchfmplcobadDoor
open Go.RowKit

/-- What a variable of three cells holds. -/
theorem box_three {w : World} {k : Nat} {u v x : Value} {t : TypeId} (h : w.heap[k]? = some (.cells #[u, v, x] t (0, 0))) :
    w.cell? ⟨k, 0, none⟩ = some u ∧ w.cell? ⟨k, 1, none⟩ = some v ∧ w.cell? ⟨k, 2, none⟩ = some x ∧ w.frozen? ⟨k, 0, none⟩ = false ∧ w.frozen? ⟨k, 1, none⟩ = false ∧ w.frozen? ⟨k, 2, none⟩ = false :=
  ⟨cell_of_row w k 0 _ t _ h, cell_of_row w k 1 _ t _ h, cell_of_row w k 2 _ t _ h, frozen_of_row w k 0 _ t h, frozen_of_row w k 1 _ t h, frozen_of_row w k 2 _ t h⟩
theorem box3_set {w : World} {k : Nat} {u v x u' v' x' : Value} {t : TypeId} (h : w.heap[k]? = some (.cells #[u, v, x] t (0, 0))) :
    (((w.setCell ⟨k, 0, none⟩ u').setCell ⟨k, 1, none⟩ v').setCell ⟨k, 2, none⟩ x').heap[k]? = some (.cells #[u', v', x'] t (0, 0)) := by
  have h0 := heap_setCell_same _ _ 0 _ _ u' h
  have h1 := heap_setCell_same _ _ 1 _ _ v' h0
  have h2 := heap_setCell_same _ _ 2 _ _ x' h1
  exact h2
/-- How far the stretch goes. -/
theorem match_end {b : List Int} {f a k : Nat} (hfa : f < a) (hk : ∀ j, j < k → b.getD (f + j) 0 = b.getD (a + j) 0) (h66 : k ≤ 66) (hl : a + k ≤ b.length) (he : ¬ (a + k < b.length) ∨ ¬ k < 66 ∨ b.getD (f + k) 0 ≠ b.getD (a + k) 0) : matchN b f a = k := by
  have h1 := matchN_more (b := b) (f := f) (a := a) (n := k) h66 (by omega) hl hk
  have h2 := matchN_le b f a
  rcases Nat.lt_or_ge k (matchN b f a) with h | h
  · exfalso
    rcases he with e | e | e
    · omega
    · omega
    · exact e (matchN_get h)
  · omega
theorem own3_lt {w : World} {base : Nat} {e : TypeId} {v : Value} {n : Nat} {xs : List Value} (h : w.ownsRow base e 3 v n xs) {q : Nat} (hq : v.ownBlock = some q) : q < w.heap.size := by
  rcases h.2 with ⟨e, -⟩ | ⟨g, cap, cur, e, -, hg, -⟩
  · rw [e] at hq; cases hq
  · rw [e] at hq
    cases hq
    exact lt_heap hg
theorem lit_three (w : World) (x y z : Int) (t : TypeId) : ∀ (j : Nat) (u : Value), (tokC ⟨x, y, z⟩)[j]? = some u → (w.alloc (.cells #[.int .i64 x, .int .i64 y, .int .u8 z] t)).cell? ((⟨w.heap.size, 0, none⟩ : Addr).add j) = some u := fun j u hj => by
  have hadd : (⟨w.heap.size, 0, none⟩ : Addr).add j = ⟨w.heap.size, 0 + j, none⟩ := Addr.add_mid _ _ _
  rw [hadd, Nat.zero_add]
  match j, hj with
  | 0, hj => rw [new_cell w t _ 0 (by simp)]; simpa [tokC] using hj
  | 1, hj => rw [new_cell w t _ 1 (by simp)]; simpa [tokC] using hj
  | 2, hj => rw [new_cell w t _ 2 (by simp)]; simpa [tokC] using hj
  | j + 3, hj => simp [tokC] at hj
theorem flagsN_snoc : ∀ (ts : List Tok) (t : Tok), flagsN (ts ++ [t]) = flagsN ts + (if t.len = 0 then 0 else 2 ^ ts.length)
  | [], t => by
    show flagsN [t] = 0 + _
    rw [flagsN_cons]
    split <;> simp [flagsN]
  | x :: ts, t => by
    show flagsN (x :: (ts ++ [t])) = flagsN (x :: ts) + _
    rw [flagsN_cons, flagsN_cons, flagsN_snoc ts t, List.length_cons, Nat.pow_succ]
    split <;> split <;> omega
theorem take_snocT (l : List Tok) (k : Nat) (h : k < l.length) : l.take (k + 1) = l.take k ++ [l.getD k tok0] := by
  rw [List.take_succ_eq_append_getElem h, List.getD_eq_getElem?_getD, List.getElem?_eq_getElem h]; rfl
theorem dropT_get (l : List Tok) (i k : Nat) : (l.drop i).getD k tok0 = l.getD (i + k) tok0 := by rw [List.getD_eq_getElem?_getD, List.getElem?_drop, ← List.getD_eq_getElem?_getD]
theorem pow_wrap : ∀ k : Fin 8, wrap64 ((2 : Int) ^ k.val) = ((2 ^ k.val : Nat) : Int) ∧ 2 ^ k.val ≤ 128 := by decide +kernel
theorem wrap_small {n : Int} (h0 : 0 ≤ n) (h1 : n < 1000) : wrap64 n = n := by unfold wrap64; omega
theorem one_at2 (w : World) (o : Obj) (v : Value) (t : TypeId) : ∀ (j : Nat) (u : Value), [v][j]? = some u → ((w.alloc o).alloc (.cells #[v] t)).cell? ((⟨w.heap.size + 1, 0, none⟩ : Addr).add j) = some u := by
  have := cell_one_new (w.alloc o) v t
  rwa [World.size_alloc] at this
theorem two_at2 (w : World) (o : Obj) (v v' : Value) (t : TypeId) : ∀ (j : Nat) (u : Value), [v, v'][j]? = some u → ((w.alloc o).alloc (.cells #[v, v'] t)).cell? ((⟨w.heap.size + 1, 0, none⟩ : Addr).add j) = some u := fun j u hj => by
  have hadd : (⟨w.heap.size + 1, 0, none⟩ : Addr).add j = ⟨w.heap.size + 1, 0 + j, none⟩ := Addr.add_mid _ _ _
  have e : w.heap.size + 1 = (w.alloc o).heap.size := by simp
  rw [hadd, Nat.zero_add, e]
  match j, hj with
  | 0, hj => rw [new_cell _ t _ 0 (by simp)]; simpa using hj
  | 1, hj => rw [new_cell _ t _ 1 (by simp)]; simpa using hj
  | j + 2, hj => simp at hj
def goodTok (t : Tok) : Prop := 0 ≤ t.byte ∧ t.byte < 256 ∧ (t.len = 0 ∨ (3 ≤ t.len ∧ t.len ≤ 66 ∧ 1 ≤ t.back ∧ t.back ≤ 1024))
theorem BytesAt.take {w : World} {a : Option Addr} {n c k : Nat} {zs : List Int} (h : BytesAt w (.slice a n c) zs) (hn : zs.length = n) (hk : k ≤ n) : BytesAt w (.slice a k c) (zs.take k) := by
  rcases h with ⟨rfl, a', c', e, h1⟩ | ⟨b, off, cp, e, h2, h3⟩
  · cases e
    obtain rfl : k = 0 := by omega
    exact .inl ⟨rfl, _, _, rfl, h1⟩
  · cases e
    have hl : (zs.take k).length = k := by rw [List.length_take]; omega
    refine .inr ⟨b, off, c, by rw [hl], h2, fun j hj => ?_⟩
    rw [h3 j (by omega), List.getD_eq_getElem?_getD, List.getD_eq_getElem?_getD, List.getElem?_take, if_pos (by omega)]
theorem ToksAt.take {w : World} {a : Option Addr} {n c k : Nat} {l : List Tok} (h : ToksAt w (.slice a n c) l) (hn : l.length = n) (hk : k ≤ n) : ToksAt w (.slice a k c) (l.take k) := by
  rcases h with ⟨rfl, a', c', e, h1, h2⟩ | ⟨b, off, cp, e, h1, h2, h3, h4⟩
  · cases e
    obtain rfl : k = 0 := by omega
    exact .inl ⟨rfl, _, _, rfl, h1, h2⟩
  · cases e
    have hl : (l.take k).length = k := by rw [List.length_take]; omega
    refine .inr ⟨b, off, c, by rw [hl], by omega, h2, h3, fun j hj => ?_⟩
    have e2 : (l.take k).getD j tok0 = l.getD j tok0 := by rw [List.getD_eq_getElem?_getD, List.getElem?_take, if_pos (by omega), ← List.getD_eq_getElem?_getD]
    rw [e2]
    exact h4 j (by omega)
theorem put_le {out : List Int} {t : Tok} (h : tokBad out.length t = 0) : (tokPut out t).length ≤ 4000 := by
  unfold tokBad at h
  unfold tokPut
  split at h
  · rename_i h0
    rw [if_pos h0]
    split at h
    · cases h
    · simp; omega
  · rename_i h0
    rw [if_neg h0, copyL_length]
    split at h
    · cases h
    · split at h
      · cases h
      · split at h
        · cases h
        · omega
theorem copy_snoc : ∀ (q : Nat) (out : List Int) (back : Nat), copyL (q + 1) out back = copyL q out back ++ [(copyL q out back).getD ((copyL q out back).length - back) 0]
  | 0, _, _ => rfl
  | q + 1, out, back => by
    show copyL (q + 1) (out ++ [out.getD (out.length - back) 0]) back = _
    rw [copy_snoc q]
    rfl

end Go.Proofs.YtkjlchfmplcobadDoor

/- The walk of bytes.Clone at a slice that is not nil. -/
namespace Go.Proofs.YtkjlchfmplcobadDoor
open Go.RowKit

set_option maxRecDepth 100000 in
theorem cloneB_any (d : List Int) (ad : Addr) (n c : Nat) (w : World) (hv : BytesAt w (.slice (some ad) n c) d) (hd : d.length = n) (hn : n ≤ 1000000) :
    Calls Tryd.prog 59 #[.slice (some ad) n c] w fun e w' => ∃ xa xc, e = .returned (.slice xa n xc) ∧ w'.ownsRow w.heap.size 5 1 (.slice xa n xc) n (d.map (Value.int .u8)) ∧ Below w.heap.size w w' := by
  obtain ⟨i0, hi, hz0, hz1, hz2⟩ := info_parts Tryd.info5b
  have hbb : Below w.heap.size w (w.alloc (.cells #[] 5)) := (Below.refl _ _).alloc (Nat.le_refl _) _
  have qs : ∀ (W : World) (ad : Addr) (n c : Nat), (binOp .eql 23 (.slice (some ad) n c) (.slice none 0 0)).run Tryd.prog W = .ok (.bool false) W := fun W ad n c => Lib.run_eql_slice_nil W _ _ (some ad) n c 0 0 Tryd.underlying23
  have hlit := World.ownsRow_lit (size := 1) (e := 5) (base := w.heap.size) w #[] 0 (Nat.le_refl _) (by unfold maxLen; omega) rfl
  have hvb := hv.below (Nat.le_refl _) hbb
  clear hv
  go_enter Tryd.func59, Tryd.ntmps59
  go_wp2_with (at_builtin; refine wpList_append_bytes rfl (.tmp 5) (.tmp 6) 23 rfl w.heap.size 5 i0 (.int .u8 0) Tryd.underlying23 hi hz0 hz1 hz2 rfl _ 0 [] rfl hlit (some ad) n c d rfl hvb (by unfold maxLen; omega) (by omega) (by simp) ?_; intro x w2 ho hg)
  rw [hd, Nat.zero_add, List.nil_append] at ho
  obtain ⟨xa, xc, rfl⟩ := own_form' ho
  go_ret
  exact ⟨xa, xc, rfl, ho, hbb.grown hg (by simp) (fun q h => Nat.le_of_eq (Option.some.inj h))⟩

end Go.Proofs.YtkjlchfmplcobadDoor
