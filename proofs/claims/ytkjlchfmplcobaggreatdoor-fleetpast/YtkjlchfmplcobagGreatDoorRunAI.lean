/- PackToks, PackTake, ShelfFace, FleetFace, as one text. -/
import Derived.Test.YtkjlchfmplcobagGreatDoorProg
import Derived.Test.YtkjlchfmplcobagGreatDoorRunAH
import Derived.WalkKit
import Derived.Deep.AppendLies
import Derived.Laws.AppendOwnNone
import Derived.WalkSpells
import Derived.WalkLawsBesides
import Derived.Test.YtkjlchfmplcobagGreatDoorRunAF
/- Tokens as a row of a call's own; append of tokens. -/
namespace Go.Proofs.YtkjlchfmplcobagGreatDoor
open Go.RowKit

theorem Tryz.info174b : (Tryz.prog.info? 174).map (fun i => (i.zero, i.size, i.bytes)) = some (some (.agg #[.int .i64 0, .int .i64 0, .int .u8 0]), 3, 24) := by kernel_rfl
/-- A token's cells. -/
def tokC (t : Tok) : List Value := [.int .i64 t.len, .int .i64 t.back, .int .u8 t.byte]
def tokCs (l : List Tok) : List Value := l.flatMap tokC
theorem tokCs_length (l : List Tok) : (tokCs l).length = l.length * 3 := by
  unfold tokCs
  induction l with
  | nil => rfl
  | cons t l ih => rw [List.flatMap_cons, List.length_append, ih, List.length_cons]; show 3 + _ = _; omega
theorem tokCs_append (l m : List Tok) : tokCs (l ++ m) = tokCs l ++ tokCs m := List.flatMap_append
theorem tokCs_get (l : List Tok) : ∀ q, q < l.length → (tokCs l)[q * 3]? = some (.int .i64 (l.getD q tok0).len) ∧ (tokCs l)[q * 3 + 1]? = some (.int .i64 (l.getD q tok0).back) ∧ (tokCs l)[q * 3 + 2]? = some (.int .u8 (l.getD q tok0).byte) := by
  induction l with
  | nil => intro q h; simp at h
  | cons t l ih =>
    intro q h
    have e : tokCs (t :: l) = .int .i64 t.len :: .int .i64 t.back :: .int .u8 t.byte :: tokCs l := rfl
    cases q with
    | zero => rw [e]; exact ⟨rfl, rfl, rfl⟩
    | succ q =>
      obtain ⟨h0, h1, h2⟩ := ih q (by simpa using h)
      rw [e, show (q + 1) * 3 = q * 3 + 1 + 1 + 1 by omega]
      exact ⟨h0, h1, h2⟩
theorem tokCs_one (l : List Tok) : ∀ u ∈ tokCs l, u.oneCell' = true := fun u hu => by
  obtain ⟨t, -, ht⟩ := List.mem_flatMap.1 hu
  simp only [tokC, List.mem_cons, List.not_mem_nil, or_false] at ht
  rcases ht with rfl | rfl | rfl <;> rfl
/-- A row of a call's own reads as its tokens. -/
theorem toksAt_own {w : World} {base : Nat} {e : TypeId} {v : Value} {l : List Tok} (h : w.ownsRow base e 3 v l.length (tokCs l)) : ToksAt w v l := by
  rcases h.2 with ⟨hv, hn⟩ | ⟨g, cap, cur, hv, -, hg, h1, h2, -⟩
  · exact .inl ⟨List.eq_nil_of_length_eq_zero hn, none, 0, hv, fun _ => rfl, Nat.zero_le _⟩
  · refine .inr ⟨g, 0, cap, hv, h1, h2, ?_, fun j hj => ?_⟩
    · rcases Nat.lt_or_ge g w.heap.size with h' | h'
      · exact h'
      · rw [Array.getElem?_eq_none h'] at hg; cases hg
    · subst hv
      obtain ⟨g0, g1, g2⟩ := tokCs_get l j hj
      rw [Nat.zero_add]
      exact ⟨(h.cellAt (j * 3) (by omega)).trans g0, (h.cellAt (j * 3 + 1) (by omega)).trans g1, (h.cellAt (j * 3 + 2) (by omega)).trans g2⟩
theorem ToksAt.src {w : World} {a : Option Addr} {n c : Nat} {l : List Tok} (h : ToksAt w (.slice a n c) l) :
    n = l.length ∧ ((a = none ∧ n = 0 ∧ c = 0 ∧ l = []) ∨ ∃ ad, a = some ad ∧ ∀ j u, (tokCs l)[j]? = some u → w.cell? (ad.add j) = some u) := by
  rcases h with ⟨rfl, x, c', h, hc, -⟩ | ⟨b, off, cp, h, -, -, -, hc⟩
  · simp only [Value.slice.injEq] at h
    obtain ⟨rfl, rfl, rfl⟩ := h
    refine ⟨rfl, ?_⟩
    cases a with
    | none => exact .inl ⟨rfl, rfl, hc rfl, rfl⟩
    | some ad => exact .inr ⟨ad, rfl, fun j u hj => by simp [tokCs] at hj⟩
  · simp only [Value.slice.injEq] at h
    obtain ⟨rfl, rfl, rfl⟩ := h
    refine ⟨rfl, .inr ⟨_, rfl, fun j u hj => ?_⟩⟩
    have hlt : j < l.length * 3 := by have := (List.getElem?_eq_some_iff.1 hj).1; rwa [tokCs_length] at this
    have hadd : (⟨b, off, none⟩ : Addr).add j = ⟨b, off + j, none⟩ := Addr.add_mid _ _ _
    obtain ⟨c0, c1, c2⟩ := hc (j / 3) (by omega)
    obtain ⟨g0, g1, g2⟩ := tokCs_get l (j / 3) (by omega)
    rw [hadd]
    rcases (show j = j / 3 * 3 ∨ j = j / 3 * 3 + 1 ∨ j = j / 3 * 3 + 2 by omega) with e | e | e
    · rw [e] at hj ⊢
      rw [g0] at hj; rw [c0]; exact hj
    · rw [e] at hj ⊢
      rw [g1] at hj; rw [← Nat.add_assoc, c1]; exact hj
    · rw [e] at hj ⊢
      rw [g2] at hj; rw [← Nat.add_assoc, c2]; exact hj
theorem own3_block {w : World} {base : Nat} {e : TypeId} {v : Value} {n : Nat} {xs : List Value} (h : w.ownsRow base e 3 v n xs) {q : Nat} (hq : v.ownBlock = some q) : base ≤ q := by
  rcases h.2 with ⟨e, -⟩ | ⟨g, cap, cur, e, hg, -⟩
  · rw [e] at hq; cases hq
  · rw [e] at hq; cases hq; exact hg
theorem own3_form {w : World} {base : Nat} {e : TypeId} {v : Value} {n : Nat} {xs : List Value} (h : w.ownsRow base e 3 v n xs) : ∃ a c, v = .slice a n c := by
  rcases h.2 with ⟨hv, rfl⟩ | ⟨g, cap, cur, hv, -⟩
  · exact ⟨none, 0, hv⟩
  · exact ⟨_, cap, hv⟩

end Go.Proofs.YtkjlchfmplcobagGreatDoor

/- Beginnings of what lies in memory; boxes of a token; small facts of chapter 4. -/
namespace Go.Proofs.YtkjlchfmplcobagGreatDoor
open Go.RowKit

/-- What a variable of three cells holds. -/
theorem box_three {w : World} {k : Nat} {u v x : Value} {t : TypeId} (h : w.heap[k]? = some (.cells #[u, v, x] t (0, 0))) :
    w.cell? ⟨k, 0, none⟩ = some u ∧ w.cell? ⟨k, 1, none⟩ = some v ∧ w.cell? ⟨k, 2, none⟩ = some x ∧ w.frozen? ⟨k, 0, none⟩ = false ∧ w.frozen? ⟨k, 1, none⟩ = false ∧ w.frozen? ⟨k, 2, none⟩ = false :=
  ⟨cell_of_row w k 0 _ t _ h, cell_of_row w k 1 _ t _ h, cell_of_row w k 2 _ t _ h, frozen_of_row w k 0 _ t h, frozen_of_row w k 1 _ t h, frozen_of_row w k 2 _ t h⟩
theorem box3_set {w : World} {k : Nat} {u v x u' v' x' : Value} {t : TypeId} (h : w.heap[k]? = some (.cells #[u, v, x] t (0, 0))) :
    (((w.setCell ⟨k, 0, none⟩ u').setCell ⟨k, 1, none⟩ v').setCell ⟨k, 2, none⟩ x').heap[k]? = some (.cells #[u', v', x'] t (0, 0)) := by
  have h0 := heap_setCell_same _ _ 0 _ _ u' h
  have h1 := heap_setCell_same _ _ 1 _ _ v' h0
  have h2 := heap_setCell_same _ _ 2 _ _ x' h1
  exact h2
/-- How far the stretch goes. -/
theorem match_end {b : List Int} {f a k : Nat} (hfa : f < a) (hk : ∀ j, j < k → b.getD (f + j) 0 = b.getD (a + j) 0) (h66 : k ≤ 66) (hl : a + k ≤ b.length) (he : ¬ (a + k < b.length) ∨ ¬ k < 66 ∨ b.getD (f + k) 0 ≠ b.getD (a + k) 0) : matchN b f a = k := by
  have h1 := matchN_more (b := b) (f := f) (a := a) (n := k) h66 (by omega) hl hk
  have h2 := matchN_le b f a
  rcases Nat.lt_or_ge k (matchN b f a) with h | h
  · exfalso
    rcases he with e | e | e
    · omega
    · omega
    · exact e (matchN_get h)
  · omega
theorem own3_lt {w : World} {base : Nat} {e : TypeId} {v : Value} {n : Nat} {xs : List Value} (h : w.ownsRow base e 3 v n xs) {q : Nat} (hq : v.ownBlock = some q) : q < w.heap.size := by
  rcases h.2 with ⟨e, -⟩ | ⟨g, cap, cur, e, -, hg, -⟩
  · rw [e] at hq; cases hq
  · rw [e] at hq
    cases hq
    exact lt_heap hg
theorem lit_three (w : World) (x y z : Int) (t : TypeId) : ∀ (j : Nat) (u : Value), (tokC ⟨x, y, z⟩)[j]? = some u → (w.alloc (.cells #[.int .i64 x, .int .i64 y, .int .u8 z] t)).cell? ((⟨w.heap.size, 0, none⟩ : Addr).add j) = some u := fun j u hj => by
  have hadd : (⟨w.heap.size, 0, none⟩ : Addr).add j = ⟨w.heap.size, 0 + j, none⟩ := Addr.add_mid _ _ _
  rw [hadd, Nat.zero_add]
  match j, hj with
  | 0, hj => rw [new_cell w t _ 0 (by simp)]; simpa [tokC] using hj
  | 1, hj => rw [new_cell w t _ 1 (by simp)]; simpa [tokC] using hj
  | 2, hj => rw [new_cell w t _ 2 (by simp)]; simpa [tokC] using hj
  | j + 3, hj => simp [tokC] at hj
theorem flagsN_snoc : ∀ (ts : List Tok) (t : Tok), flagsN (ts ++ [t]) = flagsN ts + (if t.len = 0 then 0 else 2 ^ ts.length)
  | [], t => by
    show flagsN [t] = 0 + _
    rw [flagsN_cons]
    split <;> simp [flagsN]
  | x :: ts, t => by
    show flagsN (x :: (ts ++ [t])) = flagsN (x :: ts) + _
    rw [flagsN_cons, flagsN_cons, flagsN_snoc ts t, List.length_cons, Nat.pow_succ]
    split <;> split <;> omega
theorem take_snocT (l : List Tok) (k : Nat) (h : k < l.length) : l.take (k + 1) = l.take k ++ [l.getD k tok0] := by
  rw [List.take_succ_eq_append_getElem h, List.getD_eq_getElem?_getD, List.getElem?_eq_getElem h]; rfl
theorem one_at2 (w : World) (o : Obj) (v : Value) (t : TypeId) : ∀ (j : Nat) (u : Value), [v][j]? = some u → ((w.alloc o).alloc (.cells #[v] t)).cell? ((⟨w.heap.size + 1, 0, none⟩ : Addr).add j) = some u := by
  have := cell_one_new (w.alloc o) v t
  rwa [World.size_alloc] at this
def goodTok (t : Tok) : Prop := 0 ≤ t.byte ∧ t.byte < 256 ∧ (t.len = 0 ∨ (3 ≤ t.len ∧ t.len ≤ 66 ∧ 1 ≤ t.back ∧ t.back ≤ 1024))
theorem BytesAt.take {w : World} {a : Option Addr} {n c k : Nat} {zs : List Int} (h : BytesAt w (.slice a n c) zs) (hn : zs.length = n) (hk : k ≤ n) : BytesAt w (.slice a k c) (zs.take k) := by
  rcases h with ⟨rfl, a', c', e, h1⟩ | ⟨b, off, cp, e, h2, h3⟩
  · cases e
    obtain rfl : k = 0 := by omega
    exact .inl ⟨rfl, _, _, rfl, h1⟩
  · cases e
    have hl : (zs.take k).length = k := by rw [List.length_take]; omega
    refine .inr ⟨b, off, c, by rw [hl], h2, fun j hj => ?_⟩
    rw [h3 j (by omega), List.getD_eq_getElem?_getD, List.getD_eq_getElem?_getD, List.getElem?_take, if_pos (by omega)]
theorem ToksAt.take {w : World} {a : Option Addr} {n c k : Nat} {l : List Tok} (h : ToksAt w (.slice a n c) l) (hn : l.length = n) (hk : k ≤ n) : ToksAt w (.slice a k c) (l.take k) := by
  rcases h with ⟨rfl, a', c', e, h1, h2⟩ | ⟨b, off, cp, e, h1, h2, h3, h4⟩
  · cases e
    obtain rfl : k = 0 := by omega
    exact .inl ⟨rfl, _, _, rfl, h1, h2⟩
  · cases e
    have hl : (l.take k).length = k := by rw [List.length_take]; omega
    refine .inr ⟨b, off, c, by rw [hl], by omega, h2, h3, fun j hj => ?_⟩
    have e2 : (l.take k).getD j tok0 = l.getD j tok0 := by rw [List.getD_eq_getElem?_getD, List.getElem?_take, if_pos (by omega), ← List.getD_eq_getElem?_getD]
    rw [e2]
    exact h4 j (by omega)
theorem put_le {out : List Int} {t : Tok} (h : tokBad out.length t = 0) : (tokPut out t).length ≤ 4000 := by
  unfold tokBad at h
  unfold tokPut
  split at h
  · rename_i h0
    rw [if_pos h0]
    split at h
    · cases h
    · simp; omega
  · rename_i h0
    rw [if_neg h0, copyL_length]
    split at h
    · cases h
    · split at h
      · cases h
      · split at h
        · cases h
        · omega
theorem copy_snoc : ∀ (q : Nat) (out : List Int) (back : Nat), copyL (q + 1) out back = copyL q out back ++ [(copyL q out back).getD ((copyL q out back).length - back) 0]
  | 0, _, _ => rfl
  | q + 1, out, back => by
    show copyL (q + 1) (out ++ [out.getD (out.length - back) 0]) back = _
    rw [copy_snoc q]
    rfl

end Go.Proofs.YtkjlchfmplcobagGreatDoor

/- What the laws of chapter 5 ask of package shelf's faces, as propositions: each is shown of the landed code elsewhere. Manifests in memory. -/
namespace Go.Proofs.YtkjlchfmplcobagGreatDoor
open Go.RowKit

/-- A segment's bytes as the walks meet them. -/
def PackedAt (w : World) (b o : Nat) (d : List Int) : Prop := ∃ pa pc, w.cell? ⟨b, o, none⟩ = some (.slice pa d.length pc) ∧ Some' w (.slice pa d.length pc) d ∧ d.length ≤ pc ∧ pc ≤ maxLen
/-- Segments as the walks meet them. -/
def SegsAt (w : World) (v : Value) (l : List Seg) : Prop :=
  ∃ a c, v = .slice a l.length c ∧ l.length ≤ c ∧ c ≤ maxLen ∧ (a = none → c = 0) ∧ (l.length = 0 ∨ ∃ b off, a = some ⟨b, off, none⟩ ∧ b < w.heap.size ∧
    ∀ j, j < l.length → w.cell? ⟨b, off + j * 3, none⟩ = some (.int .i64 (l.getD j seg0).first) ∧ w.cell? ⟨b, off + j * 3 + 1, none⟩ = some (.int .i64 (l.getD j seg0).count) ∧ PackedAt w b (off + j * 3 + 2) (l.getD j seg0).packed)
theorem PackedAt.below {w w' : World} {b o : Nat} {d : List Int} (h : PackedAt w b o d) (hb : b < w.heap.size) (hw : Below w.heap.size w w') : PackedAt w' b o d := by
  obtain ⟨pa, pc, h1, h2, h3⟩ := h
  exact ⟨pa, pc, by rw [hw.cell (p := ⟨b, o, none⟩) hb]; exact h1, h2.below hw, h3⟩
theorem SegsAt.below {w w' : World} {v : Value} {l : List Seg} (h : SegsAt w v l) (hw : Below w.heap.size w w') : SegsAt w' v l := by
  obtain ⟨a, c, h1, h2, h3, h4, h5⟩ := h
  refine ⟨a, c, h1, h2, h3, h4, ?_⟩
  rcases h5 with h5 | ⟨b, off, h6, h7, h8⟩
  · exact .inl h5
  · refine .inr ⟨b, off, h6, Nat.lt_of_lt_of_le h7 hw.size, fun j hj => ?_⟩
    obtain ⟨c0, c1, c2⟩ := h8 j hj
    exact ⟨by rw [hw.cell (p := ⟨b, off + j * 3, none⟩) h7]; exact c0, by rw [hw.cell (p := ⟨b, off + j * 3 + 1, none⟩) h7]; exact c1, c2.below h7 hw⟩
/-- A manifest as the walks meet it. -/
def ManAt (w : World) (v : Value) (m : Man) : Prop := ∃ rv sv, v = .agg #[.int .i64 m.size, rv, sv] ∧ Some' w rv m.root ∧ SegsAt w sv m.segs
theorem ManAt.below {w w' : World} {v : Value} {m : Man} (h : ManAt w v m) (hw : Below w.heap.size w w') : ManAt w' v m := by
  obtain ⟨rv, sv, h1, h2, h3⟩ := h
  exact ⟨rv, sv, h1, h2.below hw, h3.below hw⟩
theorem some_nil (w : World) : Some' w (.slice none 0 0) [] := ⟨bytesAt_nil w, nil_bytes, Nat.zero_le _⟩
theorem lists_nil (w : World) : Lists w none 0 0 [] := ⟨rfl, .inl ⟨rfl, none, 0, rfl⟩, Nat.le_refl _, Nat.zero_le _, fun _ => ⟨rfl, rfl⟩, fun j => by simp; exact nil_bytes, fun j => by simp⟩
/-- What is read of bytes is bytes. -/
theorem bytes_forall {l : List Int} (h : Bytes l) : ∀ x ∈ l, 0 ≤ x ∧ x < 256 := fun x hx => by
  obtain ⟨j, hj, rfl⟩ := List.mem_iff_getElem.1 hx
  have := h j
  rwa [List.getD_eq_getElem?_getD, List.getElem?_eq_getElem hj] at this
theorem unpack_bytes {b : List Int} (h : Bytes b) : Bytes (unpackL b).1 := bytes_of_mem (fun x hx => by
  rcases unpack_mem b x hx with g | g
  · exact bytes_forall h x g
  · omega)
theorem takeL_bytes {b : List Int} (h : Bytes b) {n : Nat} {l : List (List Int)} (hl : takeL n b = some l) : ∀ j, Bytes (l.getD j []) := bytes_mem (fun e he => bytes_of_mem (fun x hx => bytes_forall h x (takeL_mem n b l hl e he x hx)))
def SegsBytes (l : List Seg) : Prop := ∀ j, Bytes (l.getD j seg0).packed
theorem SegsAt.bytes {w : World} {v : Value} {l : List Seg} (h : SegsAt w v l) : SegsBytes l := fun j => by
  obtain ⟨a, c, -, -, -, -, h5⟩ := h
  by_cases hj : j < l.length
  · rcases h5 with h5 | ⟨b, off, -, -, h8⟩
    · omega
    · obtain ⟨-, -, pa, pc, -, h2, -⟩ := h8 j hj
      exact h2.bytes
  · rw [List.getD_eq_getElem?_getD, List.getElem?_eq_none (by omega)]; exact nil_bytes
theorem segment_bytes {m : Man} (h : SegsBytes m.segs) (k : Int) : ∀ j, Bytes ((segmentL m k).1.getD j []) := bytes_mem (fun e he => bytes_of_mem (fun x hx => by
  rcases segment_mem m k e he x hx with g | g
  · exact bytes_forall (h k.toNat) x g
  · omega))
theorem upTo_bytes {m : Man} (h : SegsBytes m.segs) (k : Nat) : ∀ e ∈ upTo m k, Bytes e := fun e he => by
  unfold upTo at he
  obtain ⟨j, -, hj⟩ := List.mem_flatMap.1 he
  obtain ⟨i, hi, rfl⟩ := List.mem_iff_getElem.1 hj
  have := segment_bytes h (j : Int) i
  rwa [List.getD_eq_getElem?_getD, List.getElem?_eq_getElem hi] at this
/-- A slice of bytes that lies in a block of bytes. -/
def ByteEl (w : World) (y : Value) (d : List Int) : Prop :=
  (d = [] ∧ ∃ a c, y = .slice a 0 c ∧ (a = none → c = 0)) ∨ ∃ g off c cur mk, y = .slice (some ⟨g, off, none⟩) d.length c ∧ w.heap[g]? = some (.cells cur 5 mk) ∧ ∀ j, j < d.length → w.cell? ⟨g, off + j, none⟩ = some (.int .u8 (d.getD j 0))
theorem ByteEl.bytes {w : World} {y : Value} {d : List Int} (h : ByteEl w y d) : BytesAt w y d := by
  rcases h with h | ⟨g, off, c, cur, mk, h1, h2, h3⟩
  · exact .inl h
  · exact .inr ⟨g, off, c, h1, lt_heap h2, h3⟩
theorem ByteEl.one {w : World} {y : Value} {d : List Int} (h : ByteEl w y d) : y.oneCell' = true := by
  rcases h with ⟨-, a, c, rfl, -⟩ | ⟨g, off, c, cur, mk, rfl, -⟩ <;> rfl
theorem ByteEl.below {w w' : World} {y : Value} {d : List Int} {N : Nat} (h : ByteEl w y d) (hb : Below N w w') (hN : w.heap.size ≤ N) : ByteEl w' y d := by
  rcases h with h | ⟨g, off, c, cur, mk, h1, h2, h3⟩
  · exact .inl h
  · have hg := lt_heap h2
    exact .inr ⟨g, off, c, cur, mk, h1, by rw [hb.block g (by omega)]; exact h2, fun j hj => by rw [hb.cell (p := ⟨g, off + j, none⟩) (show g < N by omega)]; exact h3 j hj⟩
theorem ByteEl.same {w w' : World} {y : Value} {d : List Int} (h : ByteEl w y d) (hs : ∀ (g : Nat) (cur : Array Value) (mk : Nat × Nat), w.heap[g]? = some (Obj.cells cur 5 mk) → w'.heap[g]? = w.heap[g]?) : ByteEl w' y d := by
  rcases h with h | ⟨g, off, c, cur, mk, h1, h2, h3⟩
  · exact .inl h
  · have h4 := (hs g cur mk h2).trans h2
    exact .inr ⟨g, off, c, cur, mk, h1, h4, fun j hj => by rw [cell_of_row w' g (off + j) cur _ mk h4, ← cell_of_row w g (off + j) cur _ mk h2]; exact h3 j hj⟩
theorem own_apart {w : World} {base g n size : Nat} {e t : TypeId} {v : Value} {xs : List Value} {cur : Array Value} {mk : Nat × Nat} (h : w.ownsRow base e size v n xs) (hne : t ≠ e) (hg : w.heap[g]? = some (.cells cur t mk)) : some g ≠ v.ownBlock := fun hh => by
  rcases h.2 with ⟨rfl, -⟩ | ⟨k, cap, cu, rfl, -, hk, -⟩
  · cases hh
  · cases hh
    rw [hk] at hg
    cases hg
    exact hne rfl
theorem ByteEl.kept {w w' : World} {base n size : Nat} {e : TypeId} {v : Value} {xs : List Value} {y : Value} {d : List Int} (h : ByteEl w y d) (hr : w.ownsRow base e size v n xs) (hne : 5 ≠ e) (hg : w.grownBy w' v.ownBlock) : ByteEl w' y d :=
  h.same (fun g _ _ h2 => hg.block g (lt_heap h2) (own_apart hr hne h2))
theorem byteEl_own {w : World} {base n : Nat} {v : Value} {d : List Int} (h : w.ownsRow base 5 1 v n (d.map (Value.int .u8))) : ByteEl w v d := by
  have hl : d.length = n := by simpa using h.1
  rcases h.2 with ⟨hv, hn⟩ | ⟨g, cap, cur, hv, -, hg, -⟩
  · subst hn
    exact .inl ⟨List.eq_nil_of_length_eq_zero hl, none, 0, hv, fun _ => rfl⟩
  · subst hl
    subst hv
    refine .inr ⟨g, 0, cap, cur, _, rfl, hg, fun j hj => ?_⟩
    rw [Nat.zero_add, h.cellAt j (by omega), List.getElem?_map, List.getElem?_eq_getElem hj, List.getD_eq_getElem?_getD, List.getElem?_eq_getElem hj]
    rfl
/-- Values, each of them such a slice. -/
def Els (w : World) (vs : List Value) (L : List (List Int)) : Prop := vs.length = L.length ∧ ∀ j, j < L.length → ∃ y, vs[j]? = some y ∧ ByteEl w y (L.getD j [])
theorem els_nil (w : World) : Els w [] [] := ⟨rfl, fun _ h => absurd h (Nat.not_lt_zero _)⟩
theorem Els.below {w w' : World} {vs : List Value} {L : List (List Int)} {N : Nat} (h : Els w vs L) (hb : Below N w w') (hN : w.heap.size ≤ N) : Els w' vs L := ⟨h.1, fun j hj => by obtain ⟨y, h1, h2⟩ := h.2 j hj; exact ⟨y, h1, h2.below hb hN⟩⟩
theorem Els.kept {w w' : World} {base n size : Nat} {e : TypeId} {v : Value} {xs vs : List Value} {L : List (List Int)} (h : Els w vs L) (hr : w.ownsRow base e size v n xs) (hne : 5 ≠ e) (hg : w.grownBy w' v.ownBlock) : Els w' vs L := ⟨h.1, fun j hj => by obtain ⟨y, h1, h2⟩ := h.2 j hj; exact ⟨y, h1, h2.kept hr hne hg⟩⟩
theorem Els.append {w : World} {vs us : List Value} {L M : List (List Int)} (h : Els w vs L) (k : Els w us M) : Els w (vs ++ us) (L ++ M) := by
  refine ⟨by rw [List.length_append, List.length_append, h.1, k.1], fun j hj => ?_⟩
  by_cases hlt : j < L.length
  · obtain ⟨y, h1, h2⟩ := h.2 j hlt
    exact ⟨y, by rw [List.getElem?_append_left (by rw [h.1]; exact hlt)]; exact h1, by rw [List.getD_eq_getElem?_getD, List.getElem?_append_left hlt, ← List.getD_eq_getElem?_getD]; exact h2⟩
  · obtain ⟨y, h1, h2⟩ := k.2 (j - L.length) (by rw [List.length_append] at hj; omega)
    exact ⟨y, by rw [List.getElem?_append_right (by rw [h.1]; omega), h.1]; exact h1, by rw [List.getD_eq_getElem?_getD, List.getElem?_append_right (by omega), ← List.getD_eq_getElem?_getD]; exact h2⟩
theorem Els.one {w : World} {vs : List Value} {L : List (List Int)} (h : Els w vs L) : ∀ u ∈ vs, u.oneCell' = true := fun u hu => by
  obtain ⟨j, hj, rfl⟩ := List.mem_iff_getElem.1 hu
  obtain ⟨y, h1, h2⟩ := h.2 j (by rw [← h.1]; exact hj)
  rw [List.getElem?_eq_getElem hj] at h1
  cases h1
  exact h2.one
/-- A list as it comes in whose bytes lie in blocks of bytes. -/
structure Laid (w : World) (a : Option Addr) (n c : Nat) (L : List (List Int)) : Prop where
  lists : Lists w a n c L
  els : ∃ vs, Els w vs L ∧ ∀ ad, a = some ad → ∀ j u, vs[j]? = some u → w.cell? (ad.add j) = some u
theorem laid_nil (w : World) : Laid w none 0 0 [] := ⟨lists_nil w, [], els_nil w, fun _ _ j u h => by simp at h⟩
theorem Laid.below {w w' : World} {a : Option Addr} {n c : Nat} {L : List (List Int)} (h : Laid w a n c L) (hb : Below w.heap.size w w') : Laid w' a n c L := by
  obtain ⟨vs, h1, h2⟩ := h.els
  refine ⟨h.lists.below hb, vs, h1.below hb (Nat.le_refl _), fun ad ha j u hu => ?_⟩
  have hc := h2 ad ha j u hu
  rw [hb.cell (p := ad.add j) (World.block_lt_of_cell? w _ hc)]
  exact hc
theorem laid_own {w : World} {base : Nat} {a : Option Addr} {n c : Nat} {vs : List Value} {L : List (List Int)} (hr : w.ownsRow base 36 1 (.slice a n c) n vs) (he : Els w vs L) (hl : L.length = n) (hb : ∀ x ∈ L, Bytes x) (hs : ∀ x ∈ L, x.length ≤ maxLen) : Laid w a n c L := by
  have hcell : ∀ ad, a = some ad → ∀ j u, vs[j]? = some u → w.cell? (ad.add j) = some u := fun ad ha j u hu => by
    have hj : j < n := by have := (List.getElem?_eq_some_iff.1 hu).1; rw [he.1, hl] at this; exact this
    obtain ⟨g, hg, -⟩ := own_some hr (by omega)
    subst ha
    cases hg
    have e : (⟨g, 0, none⟩ : Addr).add j = ⟨g, 0 + j, none⟩ := Addr.add_mid _ _ _
    rw [e, Nat.zero_add, hr.cellAt j (by omega)]
    exact hu
  obtain ⟨a', c', e', h1, h2⟩ := own_cap hr
  cases e'
  refine ⟨⟨hl, ?_, h1, h2, own_nil hr, bytes_mem hb, short_mem hs⟩, vs, he, hcell⟩
  by_cases h0 : n = 0
  · subst h0
    exact .inl ⟨List.eq_nil_of_length_eq_zero hl, _, _, rfl⟩
  · obtain ⟨g, rfl, -, hg, -⟩ := own_some hr h0
    refine .inr ⟨g, 0, c, by rw [hl], hg, fun j hj => ?_⟩
    obtain ⟨y, h3, h4⟩ := he.2 j hj
    obtain ⟨ya, yc, rfl⟩ := h4.bytes.form
    have e : (⟨g, 0, none⟩ : Addr).add j = ⟨g, 0 + j, none⟩ := Addr.add_mid _ _ _
    have := hcell _ rfl j _ h3
    rw [e] at this
    exact ⟨_, _, _, this, h4.bytes⟩
def SegmentC : Prop := ∀ (m : Man) (k : Int) (mv : Value) (w : World), ManAt w mv m →
  Calls Tryz.prog 72 #[mv, .int .i64 k] w fun e w' => ∃ xa xn xc, e = .returned (.tuple #[.slice xa xn xc, .int .i64 (segmentL m k).2]) ∧ Laid w' xa xn xc (segmentL m k).1 ∧ Below w.heap.size w w'
def VerifyC : Prop := ∀ (m : Man) (mv : Value) (w : World), Ready w → ManAt w mv m →
  Calls Tryz.prog 48 #[mv] w fun e w' => ∃ xa xn xc, e = .returned (.tuple #[.slice xa xn xc, faultV (verifyL m).2]) ∧ Laid w' xa xn xc (verifyL m).1 ∧ Below w.heap.size w w'

end Go.Proofs.YtkjlchfmplcobagGreatDoor

/- What the laws of chapter 7 ask of package fleet's faces, as propositions: each is shown of the landed code elsewhere. Fleets in memory. -/
namespace Go.Proofs.YtkjlchfmplcobagGreatDoor
open Go.RowKit

/-- A slice of elements of n cells each, as the walks meet it. -/
def RowAt {α : Type} (n : Nat) (P : World → Nat → Nat → α → Prop) (z : α) (w : World) (v : Value) (l : List α) : Prop :=
  ∃ a c, v = .slice a l.length c ∧ l.length ≤ c ∧ c ≤ maxLen ∧ (a = none → c = 0) ∧ (l.length = 0 ∨ ∃ b off, a = some ⟨b, off, none⟩ ∧ b < w.heap.size ∧ ∀ j, j < l.length → P w b (off + j * n) (l.getD j z))
theorem RowAt.below {α : Type} {n : Nat} {P : World → Nat → Nat → α → Prop} {z : α} {w w' : World} {v : Value} {l : List α} (h : RowAt n P z w v l) (hw : Below w.heap.size w w') (hP : ∀ b o x, b < w.heap.size → P w b o x → P w' b o x) : RowAt n P z w' v l := by
  obtain ⟨a, c, h1, h2, h3, h4, h5⟩ := h
  refine ⟨a, c, h1, h2, h3, h4, ?_⟩
  rcases h5 with h5 | ⟨b, off, h6, h7, h8⟩
  · exact .inl h5
  · exact .inr ⟨b, off, h6, Nat.lt_of_lt_of_le h7 hw.size, fun j hj => hP _ _ _ h7 (h8 j hj)⟩
theorem RowAt.form {α : Type} {n : Nat} {P : World → Nat → Nat → α → Prop} {z : α} {w : World} {v : Value} {l : List α} (h : RowAt n P z w v l) : ∃ a c, v = .slice a l.length c := by
  obtain ⟨a, c, e, -⟩ := h; exact ⟨a, c, e⟩
theorem RowAt.nil {α : Type} (n : Nat) (P : World → Nat → Nat → α → Prop) (z : α) (w : World) : RowAt n P z w (.slice none 0 0) [] := ⟨none, 0, rfl, Nat.le_refl _, Nat.zero_le _, fun _ => rfl, .inl rfl⟩
theorem RowAt.first {α : Type} {n : Nat} {P : World → Nat → Nat → α → Prop} {z : α} {w : World} {a : Option Addr} {m c k : Nat} {l : List α} (h : RowAt n P z w (.slice a m c) l) (hm : l.length = m) (hk : k ≤ m) : RowAt n P z w (.slice a k c) (l.take k) := by
  obtain ⟨a', c', e, h2, h3, h4, h5⟩ := h
  rw [hm] at e h2 h5
  cases e
  have hl : (l.take k).length = k := by rw [List.length_take]; omega
  refine ⟨a, c, by rw [hl], by omega, h3, h4, ?_⟩
  by_cases hk0 : k = 0
  · exact .inl (by omega)
  obtain ⟨b, off, h6, h7, h8⟩ := h5.resolve_left (by omega)
  refine .inr ⟨b, off, h6, h7, fun j hj => ?_⟩
  rw [hl] at hj
  rw [List.getD_eq_getElem?_getD, List.getElem?_take, if_pos hj, ← List.getD_eq_getElem?_getD]
  exact h8 j (by omega)
def WinCells (w : World) (b o : Nat) (x : Win) : Prop := w.cell? ⟨b, o, none⟩ = some (.int .i64 x.a) ∧ w.cell? ⟨b, o + 1, none⟩ = some (.int .i64 x.b)
def WinsAt (w : World) (v : Value) (l : List Win) : Prop := RowAt 2 WinCells win0 w v l
theorem WinsAt.below {w w' : World} {v : Value} {l : List Win} (h : WinsAt w v l) (hw : Below w.heap.size w w') : WinsAt w' v l :=
  RowAt.below h hw (fun b o _ hb ⟨h1, h2⟩ => ⟨by rw [hw.cell (p := ⟨b, o, none⟩) hb]; exact h1, by rw [hw.cell (p := ⟨b, o + 1, none⟩) hb]; exact h2⟩)
/-- Numbers that their types hold. -/
abbrev DdFit (x : Dd) : Prop := (0 ≤ x.by' ∧ x.by' < 256) ∧ (-9223372036854775808 ≤ x.kind ∧ x.kind ≤ 9223372036854775807)
structure DdCells (w : World) (b o : Nat) (x : Dd) : Prop where
  kind : w.cell? ⟨b, o, none⟩ = some (.int .i64 x.kind)
  n : w.cell? ⟨b, o + 1, none⟩ = some (.int .i64 x.n)
  time : w.cell? ⟨b, o + 2, none⟩ = some (.int .i64 x.time)
  entry : ∃ pa pc, w.cell? ⟨b, o + 3, none⟩ = some (.slice pa x.entry.length pc) ∧ Some' w (.slice pa x.entry.length pc) x.entry
  segment : w.cell? ⟨b, o + 4, none⟩ = some (.int .i64 x.segment)
  at' : w.cell? ⟨b, o + 5, none⟩ = some (.int .i64 x.at')
  by' : w.cell? ⟨b, o + 6, none⟩ = some (.int .u8 x.by')
  byte : DdFit x
theorem DdCells.below {w w' : World} {b o : Nat} {x : Dd} (h : DdCells w b o x) (hb : b < w.heap.size) (hw : Below w.heap.size w w') : DdCells w' b o x := by
  obtain ⟨h1, h2, h3, ⟨pa, pc, h4, h4'⟩, h5, h6, h7, h8⟩ := h
  exact ⟨by rw [hw.cell (p := ⟨b, o, none⟩) hb]; exact h1, by rw [hw.cell (p := ⟨b, o + 1, none⟩) hb]; exact h2, by rw [hw.cell (p := ⟨b, o + 2, none⟩) hb]; exact h3, ⟨pa, pc, by rw [hw.cell (p := ⟨b, o + 3, none⟩) hb]; exact h4, h4'.below hw⟩, by rw [hw.cell (p := ⟨b, o + 4, none⟩) hb]; exact h5, by rw [hw.cell (p := ⟨b, o + 5, none⟩) hb]; exact h6, by rw [hw.cell (p := ⟨b, o + 6, none⟩) hb]; exact h7, h8⟩
def DosAt (w : World) (v : Value) (l : List Dd) : Prop := RowAt 7 DdCells dd0 w v l
theorem DosAt.below {w w' : World} {v : Value} {l : List Dd} (h : DosAt w v l) (hw : Below w.heap.size w w') : DosAt w' v l := RowAt.below h hw (fun _ _ _ hb hx => hx.below hb hw)
structure ShdCells (w : World) (b o : Nat) (s : Shd) : Prop where
  from' : w.cell? ⟨b, o, none⟩ = some (.int .i64 s.from')
  to' : w.cell? ⟨b, o + 1, none⟩ = some (.int .i64 s.to')
  state : w.cell? ⟨b, o + 2, none⟩ = some (.int .i64 s.state)
  entries : ∃ ea ec, w.cell? ⟨b, o + 3, none⟩ = some (.slice ea s.entries.length ec) ∧ Lists w ea s.entries.length ec s.entries
  size : w.cell? ⟨b, o + 4, none⟩ = some (.int .i64 s.man.size)
  root : ∃ ra rc, w.cell? ⟨b, o + 5, none⟩ = some (.slice ra s.man.root.length rc) ∧ Some' w (.slice ra s.man.root.length rc) s.man.root
  segs : ∃ ga gc, w.cell? ⟨b, o + 6, none⟩ = some (.slice ga s.man.segs.length gc) ∧ SegsAt w (.slice ga s.man.segs.length gc) s.man.segs
theorem ShdCells.below {w w' : World} {b o : Nat} {s : Shd} (h : ShdCells w b o s) (hb : b < w.heap.size) (hw : Below w.heap.size w w') : ShdCells w' b o s := by
  obtain ⟨h1, h2, h3, ⟨ea, ec, h4, h4'⟩, h5, ⟨ra, rc, h6, h6'⟩, ⟨ga, gc, h7, h7'⟩⟩ := h
  exact ⟨by rw [hw.cell (p := ⟨b, o, none⟩) hb]; exact h1, by rw [hw.cell (p := ⟨b, o + 1, none⟩) hb]; exact h2, by rw [hw.cell (p := ⟨b, o + 2, none⟩) hb]; exact h3, ⟨ea, ec, by rw [hw.cell (p := ⟨b, o + 3, none⟩) hb]; exact h4, h4'.below hw⟩, by rw [hw.cell (p := ⟨b, o + 4, none⟩) hb]; exact h5, ⟨ra, rc, by rw [hw.cell (p := ⟨b, o + 5, none⟩) hb]; exact h6, h6'.below hw⟩, ⟨ga, gc, by rw [hw.cell (p := ⟨b, o + 6, none⟩) hb]; exact h7, h7'.below hw⟩⟩
def ShdsAt (w : World) (v : Value) (l : List Shd) : Prop := RowAt 7 ShdCells shd0 w v l
theorem ShdsAt.below {w w' : World} {v : Value} {l : List Shd} (h : ShdsAt w v l) (hw : Below w.heap.size w w') : ShdsAt w' v l := RowAt.below h hw (fun _ _ _ hb hx => hx.below hb hw)
/-- A fleet as the walks meet it. -/
def FltV (w : World) (v : Value) (f : Flt) : Prop := ∃ sa sc ba bc, v = .agg #[.slice sa f.shards.length sc, .slice ba f.book.length bc] ∧ ShdsAt w (.slice sa f.shards.length sc) f.shards ∧ RecsAt w (.slice ba f.book.length bc) f.book
theorem FltV.below {w w' : World} {v : Value} {f : Flt} (h : FltV w v f) (hw : Below w.heap.size w w') : FltV w' v f := by
  obtain ⟨sa, sc, ba, bc, h1, h2, h3⟩ := h
  exact ⟨sa, sc, ba, bc, h1, h2.below hw, h3.below hw⟩
def AnsCells (w : World) (b o : Nat) (x : Ans) : Prop := w.cell? ⟨b, o, none⟩ = some (.int .i64 x.err) ∧ w.cell? ⟨b, o + 1, none⟩ = some (.int .i64 x.shard) ∧ w.cell? ⟨b, o + 2, none⟩ = some (.int .i64 x.place) ∧ w.cell? ⟨b, o + 3, none⟩ = some (.int .i64 x.size) ∧
  ∃ ra rc, w.cell? ⟨b, o + 4, none⟩ = some (.slice ra x.root.length rc) ∧ Some' w (.slice ra x.root.length rc) x.root
theorem AnsCells.below {w w' : World} {b o : Nat} {x : Ans} (h : AnsCells w b o x) (hb : b < w.heap.size) (hw : Below w.heap.size w w') : AnsCells w' b o x := by
  obtain ⟨h0, h1, h2, h3, ra, rc, h4, h5⟩ := h
  exact ⟨by rw [hw.cell (p := ⟨b, o, none⟩) hb]; exact h0, by rw [hw.cell (p := ⟨b, o + 1, none⟩) hb]; exact h1, by rw [hw.cell (p := ⟨b, o + 2, none⟩) hb]; exact h2, by rw [hw.cell (p := ⟨b, o + 3, none⟩) hb]; exact h3, ra, rc, by rw [hw.cell (p := ⟨b, o + 4, none⟩) hb]; exact h4, h5.below hw⟩
def AnssAt (w : World) (v : Value) (l : List Ans) : Prop := RowAt 5 AnsCells ans0 w v l
theorem AnssAt.below {w w' : World} {v : Value} {l : List Ans} (h : AnssAt w v l) (hw : Below w.heap.size w w') : AnssAt w' v l := RowAt.below h hw (fun _ _ _ hb hx => hx.below hb hw)
/-- What is shown, as the walks meet it. -/
structure ShwV (w : World) (v : Value) (s : Shw) : Prop where
  form : ∃ ea ec pa pc ra rc ba bc ha hc, v = .agg #[.slice ea s.entry.length ec, .int .i64 s.place, .int .i64 s.shard, .slice pa s.path.length pc, .int .i64 s.rcd.shard, .int .i64 s.rcd.from', .int .i64 s.rcd.to', .int .i64 s.rcd.size, .slice ra s.rcd.root.length rc, .int .i64 s.row, .slice ba s.bookPath.length bc, .int .i64 s.hsize, .slice ha s.hroot.length hc] ∧
    Some' w (.slice ea s.entry.length ec) s.entry ∧ Lists w pa s.path.length pc s.path ∧ Some' w (.slice ra s.rcd.root.length rc) s.rcd.root ∧ Lists w ba s.bookPath.length bc s.bookPath ∧ Some' w (.slice ha s.hroot.length hc) s.hroot
theorem ShwV.below {w w' : World} {v : Value} {s : Shw} (h : ShwV w v s) (hw : Below w.heap.size w w') : ShwV w' v s := by
  obtain ⟨ea, ec, pa, pc, ra, rc, ba, bc, ha, hc, h1, h2, h3, h4, h5, h6⟩ := h.form
  exact ⟨ea, ec, pa, pc, ra, rc, ba, bc, ha, hc, h1, h2.below hw, h3.below hw, h4.below hw, h5.below hw, h6.below hw⟩
def PlayC : Prop := ∀ (ws : List Win) (l : List Dd) (wv dv : Value) (w : World), Ready w → WinsAt w wv ws → DosAt w dv l →
  Calls Tryz.prog 8 #[wv, dv] w fun e w' => ∃ fv av, e = .returned (.tuple #[fv, av, faultV (playF ws l)]) ∧ FltV w' fv (playL ws l).1 ∧ AnssAt w' av (playL ws l).2 ∧ Below w.heap.size w w'
def ShowC : Prop := ∀ (ws : List Win) (f : Flt) (k i : Int) (fv : Value) (w : World), (wrongWins ws).1 = 0 → FltOk ws f → Ready w → FltV w fv f →
  Calls Tryz.prog 10 #[fv, .int .i64 k, .int .i64 i] w fun e w' => ∃ sv, e = .returned (.tuple #[sv, .int .i64 (showL f k i).2]) ∧ ShwV w' sv (showL f k i).1 ∧ Below w.heap.size w w'
def CheckC : Prop := ∀ (s : Shw) (hs : Int) (hr : List Int) (sv hv : Value) (w : World), Ready w → ShwV w sv s → Some' w hv hr →
  Calls Tryz.prog 18 #[sv, .agg #[.int .i64 hs, hv]] w fun e w' => e = .returned (.bool (checkL s hs hr)) ∧ Below w.heap.size w w'

end Go.Proofs.YtkjlchfmplcobagGreatDoor
