/- PackFace, PackToks, PackTake, as one text. -/
import Derived.Test.YtbkkfchcdfhfgadDoorProg
import Derived.Test.YtbkkfchcdfhfgadDoorRunAB
import Derived.Test.YtbkkfchcdfhfgadDoorRunAG
import Derived.Test.YtbkkfchcdfhfgadDoorRunAF
import Derived.WalkKit
import Derived.Deep.AppendLies
import Derived.Laws.AppendOwnNone
import Derived.WalkSpells
import Derived.WalkLawsBesides
/- What the laws of chapter 4 ask of package pack's faces, as propositions: each is shown of the landed code elsewhere. Tokens in memory. -/
namespace Go.Proofs.YtbkkfchcdfhfgadDoor
open Go.RowKit

def tok0 : Tok := ⟨0, 0, 0⟩
/-- Tokens as the walks meet them. -/
def ToksAt (w : World) (v : Value) (l : List Tok) : Prop :=
  (l = [] ∧ ∃ a c, v = .slice a 0 c ∧ (a = none → c = 0) ∧ c ≤ maxLen) ∨ ∃ b off cp, v = .slice (some ⟨b, off, none⟩) l.length cp ∧ l.length ≤ cp ∧ cp ≤ maxLen ∧ b < w.heap.size ∧
    ∀ j, j < l.length → w.cell? ⟨b, off + j * 3, none⟩ = some (.int .i64 (l.getD j tok0).len) ∧ w.cell? ⟨b, off + j * 3 + 1, none⟩ = some (.int .i64 (l.getD j tok0).back) ∧ w.cell? ⟨b, off + j * 3 + 2, none⟩ = some (.int .u8 (l.getD j tok0).byte)
theorem ToksAt.below {w w' : World} {v : Value} {l : List Tok} {n : Nat} (h : ToksAt w v l) (hn : w.heap.size ≤ n) (hb : Below n w w') : ToksAt w' v l := by
  rcases h with h | ⟨b, off, cp, h1, h2, h3, h4, h5⟩
  · exact .inl h
  · refine .inr ⟨b, off, cp, h1, h2, h3, Nat.lt_of_lt_of_le h4 hb.size, fun j hj => ?_⟩
    obtain ⟨c0, c1, c2⟩ := h5 j hj
    exact ⟨by rw [hb.cell (p := ⟨b, off + j * 3, none⟩) (by show b < n; omega)]; exact c0, by rw [hb.cell (p := ⟨b, off + j * 3 + 1, none⟩) (by show b < n; omega)]; exact c1, by rw [hb.cell (p := ⟨b, off + j * 3 + 2, none⟩) (by show b < n; omega)]; exact c2⟩
theorem ToksAt.form {w : World} {v : Value} {l : List Tok} (h : ToksAt w v l) : ∃ a c, v = .slice a l.length c ∧ l.length ≤ c ∧ c ≤ maxLen ∧ (l.length = 0 ∨ ∃ b off, a = some ⟨b, off, none⟩ ∧ b < w.heap.size ∧ ∀ j, j < l.length → w.cell? ⟨b, off + j * 3, none⟩ = some (.int .i64 (l.getD j tok0).len) ∧ w.cell? ⟨b, off + j * 3 + 1, none⟩ = some (.int .i64 (l.getD j tok0).back) ∧ w.cell? ⟨b, off + j * 3 + 2, none⟩ = some (.int .u8 (l.getD j tok0).byte)) := by
  rcases h with ⟨rfl, a, c, h1, h2, h3⟩ | ⟨b, off, cp, h1, h2, h3, h4, h5⟩
  · exact ⟨a, c, h1, Nat.zero_le _, h3, .inl rfl⟩
  · exact ⟨_, cp, h1, h2, h3, .inr ⟨b, off, rfl, h4, h5⟩⟩
/-- A slice that has room for what it has. -/
def RoomV (v : Value) (n : Nat) : Prop := ∃ a c, v = .slice a n c ∧ n ≤ c ∧ c ≤ maxLen
@[reducible] def faultV4 (p : Int × Int) : Value := .agg #[.int .i64 p.1, .int .i64 p.2]
/-- What Tokens and Pack say. -/
def muchE (b : List Int) : Int := if 4000 < b.length then 4 else 0
def toksE (b : List Int) : List Tok := if 4000 < b.length then [] else tokensL b
def packE (b : List Int) : List Int := if 4000 < b.length then [] else packL b
def TokensC : Prop := ∀ (b : List Int) (bv : Value) (w : World), Some' w bv b →
  Calls Tryd.prog 75 #[bv] w fun e w' => ∃ v, e = .returned (.tuple #[v, .int .i64 (muchE b)]) ∧ ToksAt w' v (toksE b) ∧ Below w.heap.size w w'
def TextC : Prop := ∀ (l : List Tok) (lv : Value) (w : World), ToksAt w lv l →
  Calls Tryd.prog 58 #[lv] w fun e w' => ∃ v, e = .returned (.tuple #[v, faultV4 (textL l).2]) ∧ BytesAt w' v (textL l).1 ∧ RoomV v (textL l).1.length ∧ Below w.heap.size w w'
def PackC : Prop := ∀ (b : List Int) (bv : Value) (w : World), Some' w bv b →
  Calls Tryd.prog 48 #[bv] w fun e w' => ∃ v, e = .returned (.tuple #[v, .int .i64 (muchE b)]) ∧ BytesAt w' v (packE b) ∧ RoomV v (packE b).length ∧ Below w.heap.size w w'
def UnpackC : Prop := ∀ (b : List Int) (bv : Value) (w : World), Some' w bv b → RoomV bv b.length →
  Calls Tryd.prog 31 #[bv] w fun e w' => ∃ v, e = .returned (.tuple #[v, .int .i64 (unpackL b).2]) ∧ BytesAt w' v (unpackL b).1 ∧ Below w.heap.size w w'

/-- Bytes that have room for what there is. -/
def RoomAt (w : World) (v : Value) (zs : List Int) : Prop := BytesAt w v zs ∧ RoomV v zs.length
theorem roomAt_nil (w : World) : RoomAt w (.slice none 0 0) [] := ⟨bytesAt_nil w, none, 0, rfl, Nat.le_refl _, Nat.zero_le _⟩
def PackOC : Prop := ∀ (b : List Int) (bv : Value) (w : World), Some' w bv b →
  Calls Tryd.prog 48 #[bv] w fun e w' => ∃ v, e = .returned (.tuple #[v, .int .i64 (muchE b)]) ∧ w'.ownsRow w.heap.size 5 1 v (packE b).length ((packE b).map (Value.int .u8)) ∧ Below w.heap.size w w'
theorem PackOC.packC (h : PackOC) : PackC := fun b bv w hb => (h b bv w hb).mono fun _ _ ⟨v, h1, h2, h3⟩ => ⟨v, h1, bytesAt_own h2, own_cap h2, h3⟩
def UnpackRC : Prop := ∀ (b : List Int) (bv : Value) (w : World), Some' w bv b → RoomV bv b.length →
  Calls Tryd.prog 31 #[bv] w fun e w' => ∃ v, e = .returned (.tuple #[v, .int .i64 (unpackL b).2]) ∧ RoomAt w' v (unpackL b).1 ∧ Below w.heap.size w w'
theorem UnpackRC.unpackC (h : UnpackRC) : UnpackC := fun b bv w hb hr => (h b bv w hb hr).mono fun _ _ ⟨v, h1, h2, h3⟩ => ⟨v, h1, h2.1, h3⟩

/-- What is packed is bytes. -/
theorem tokFrom_bytes {b : List Int} (hb : Bytes b) (d : Nat) : ∀ a, b.length - a = d → ∀ t ∈ tokFrom b a, 0 ≤ t.byte ∧ t.byte < 256 ∧ (t.len = 0 ∨ (3 ≤ t.len ∧ t.len ≤ 66 ∧ 1 ≤ t.back ∧ t.back ≤ 1024)) := by
  induction d using Nat.strongRecOn with
  | ind d ih =>
    intro a hd t ht
    by_cases h : a < b.length
    · rcases best_spec b a with hs | ⟨s1, s2, s3, s4, s5, s6, -⟩
      · rw [tokFrom_byte h (by rw [hs])] at ht
        rcases List.mem_cons.1 ht with rfl | ht
        · exact ⟨(hb a).1, (hb a).2, .inl rfl⟩
        · exact ih (b.length - (a + 1)) (by omega) (a + 1) rfl t ht
      · rw [tokFrom_more h (by omega)] at ht
        rcases List.mem_cons.1 ht with rfl | ht
        · refine ⟨by simp, by simp, .inr ?_⟩
          simp only
          omega
        · exact ih (b.length - (a + (bestL b a).1)) (by omega) (a + (bestL b a).1) rfl t ht
    · rw [tokFrom_end h] at ht
      cases ht
theorem bytes_of_mem {l : List Int} (h : ∀ x ∈ l, 0 ≤ x ∧ x < 256) : Bytes l := fun j => by
  rw [List.getD_eq_getElem?_getD]
  by_cases hj : j < l.length
  · rw [List.getElem?_eq_getElem hj]; exact h _ (List.getElem_mem hj)
  · rw [List.getElem?_eq_none (by omega)]; exact ⟨by decide, by decide⟩
theorem bodyT_bytes {t : Tok} (h0 : 0 ≤ t.byte) (h1 : t.byte < 256) (h : t.len = 0 ∨ (3 ≤ t.len ∧ t.len ≤ 66 ∧ 1 ≤ t.back ∧ t.back ≤ 1024)) : ∀ x ∈ bodyT t, 0 ≤ x ∧ x < 256 := fun x hx => by
  unfold bodyT at hx
  split at hx
  · rw [List.mem_singleton.1 hx]; exact ⟨h0, h1⟩
  · rename_i hn
    have := h.resolve_left hn
    unfold tokX at hx
    simp only [List.mem_cons, List.not_mem_nil, or_false] at hx
    omega
theorem groups_bytes (m : Nat) : ∀ l : List Tok, l.length = m → (∀ t ∈ l, 0 ≤ t.byte ∧ t.byte < 256 ∧ (t.len = 0 ∨ (3 ≤ t.len ∧ t.len ≤ 66 ∧ 1 ≤ t.back ∧ t.back ≤ 1024))) → ∀ x ∈ groupsL l, 0 ≤ x ∧ x < 256 := by
  induction m using Nat.strongRecOn with
  | ind m ih =>
    intro l hl hb x hx
    by_cases h : l.length = 0
    · rw [groupsL_none h] at hx; cases hx
    · rw [groupsL_more h] at hx
      rcases List.mem_cons.1 hx with rfl | hx
      · have := flagsN_byte l; omega
      · rcases List.mem_append.1 hx with hx | hx
        · obtain ⟨t, ht, hx⟩ := List.mem_flatMap.1 hx
          obtain ⟨h0, h1, h2⟩ := hb t (List.mem_of_mem_take ht)
          exact bodyT_bytes h0 h1 h2 x hx
        · exact ih (l.drop 8).length (by rw [List.length_drop]; omega) (l.drop 8) rfl (fun t ht => hb t (List.mem_of_mem_drop ht)) x hx
theorem pack_bytes {b : List Int} (hb : Bytes b) (hn : b.length ≤ 4000) : Bytes (packL b) := by
  refine bytes_of_mem (fun x hx => ?_)
  unfold packL writeL at hx
  rcases List.mem_append.1 hx with hx | hx
  · simp only [List.mem_cons, List.not_mem_nil, or_false] at hx
    omega
  · exact groups_bytes _ _ rfl (tokFrom_bytes hb _ 0 rfl) x hx
theorem pack_short {b : List Int} (hn : b.length ≤ 4000) : (packL b).length ≤ 5000 := by have := pack_length b; omega
theorem packE_some {w : World} {v : Value} {b : List Int} (h : BytesAt w v (packE b)) (hb : Bytes b) : Some' w v (packE b) := by
  refine ⟨h, ?_, ?_⟩
  · unfold packE; split
    · exact nil_bytes
    · exact pack_bytes hb (by omega)
  · unfold packE; split
    · exact Nat.zero_le _
    · have := pack_short (b := b) (by omega); unfold maxLen; omega

end Go.Proofs.YtbkkfchcdfhfgadDoor

/- Tokens as a row of a call's own; append of tokens. -/
namespace Go.Proofs.YtbkkfchcdfhfgadDoor
open Go.RowKit

theorem Tryd.info117b : (Tryd.prog.info? 117).map (fun i => (i.zero, i.size, i.bytes)) = some (some (.agg #[.int .i64 0, .int .i64 0, .int .u8 0]), 3, 24) := by kernel_rfl
/-- A token's cells. -/
def tokC (t : Tok) : List Value := [.int .i64 t.len, .int .i64 t.back, .int .u8 t.byte]
def tokCs (l : List Tok) : List Value := l.flatMap tokC
theorem tokCs_length (l : List Tok) : (tokCs l).length = l.length * 3 := by
  unfold tokCs
  induction l with
  | nil => rfl
  | cons t l ih => rw [List.flatMap_cons, List.length_append, ih, List.length_cons]; show 3 + _ = _; omega
theorem tokCs_append (l m : List Tok) : tokCs (l ++ m) = tokCs l ++ tokCs m := List.flatMap_append
theorem tokCs_get (l : List Tok) : ∀ q, q < l.length → (tokCs l)[q * 3]? = some (.int .i64 (l.getD q tok0).len) ∧ (tokCs l)[q * 3 + 1]? = some (.int .i64 (l.getD q tok0).back) ∧ (tokCs l)[q * 3 + 2]? = some (.int .u8 (l.getD q tok0).byte) := by
  induction l with
  | nil => intro q h; simp at h
  | cons t l ih =>
    intro q h
    have e : tokCs (t :: l) = .int .i64 t.len :: .int .i64 t.back :: .int .u8 t.byte :: tokCs l := rfl
    cases q with
    | zero => rw [e]; exact ⟨rfl, rfl, rfl⟩
    | succ q =>
      obtain ⟨h0, h1, h2⟩ := ih q (by simpa using h)
      rw [e, show (q + 1) * 3 = q * 3 + 1 + 1 + 1 by omega]
      exact ⟨h0, h1, h2⟩
theorem tokCs_one (l : List Tok) : ∀ u ∈ tokCs l, u.oneCell' = true := fun u hu => by
  obtain ⟨t, -, ht⟩ := List.mem_flatMap.1 hu
  simp only [tokC, List.mem_cons, List.not_mem_nil, or_false] at ht
  rcases ht with rfl | rfl | rfl <;> rfl
/-- A row of a call's own reads as its tokens. -/
theorem toksAt_own {w : World} {base : Nat} {e : TypeId} {v : Value} {l : List Tok} (h : w.ownsRow base e 3 v l.length (tokCs l)) : ToksAt w v l := by
  rcases h.2 with ⟨hv, hn⟩ | ⟨g, cap, cur, hv, -, hg, h1, h2, -⟩
  · exact .inl ⟨List.eq_nil_of_length_eq_zero hn, none, 0, hv, fun _ => rfl, Nat.zero_le _⟩
  · refine .inr ⟨g, 0, cap, hv, h1, h2, ?_, fun j hj => ?_⟩
    · rcases Nat.lt_or_ge g w.heap.size with h' | h'
      · exact h'
      · rw [Array.getElem?_eq_none h'] at hg; cases hg
    · subst hv
      obtain ⟨g0, g1, g2⟩ := tokCs_get l j hj
      rw [Nat.zero_add]
      exact ⟨(h.cellAt (j * 3) (by omega)).trans g0, (h.cellAt (j * 3 + 1) (by omega)).trans g1, (h.cellAt (j * 3 + 2) (by omega)).trans g2⟩
theorem ToksAt.src {w : World} {a : Option Addr} {n c : Nat} {l : List Tok} (h : ToksAt w (.slice a n c) l) :
    n = l.length ∧ ((a = none ∧ n = 0 ∧ c = 0 ∧ l = []) ∨ ∃ ad, a = some ad ∧ ∀ j u, (tokCs l)[j]? = some u → w.cell? (ad.add j) = some u) := by
  rcases h with ⟨rfl, x, c', h, hc, -⟩ | ⟨b, off, cp, h, -, -, -, hc⟩
  · simp only [Value.slice.injEq] at h
    obtain ⟨rfl, rfl, rfl⟩ := h
    refine ⟨rfl, ?_⟩
    cases a with
    | none => exact .inl ⟨rfl, rfl, hc rfl, rfl⟩
    | some ad => exact .inr ⟨ad, rfl, fun j u hj => by simp [tokCs] at hj⟩
  · simp only [Value.slice.injEq] at h
    obtain ⟨rfl, rfl, rfl⟩ := h
    refine ⟨rfl, .inr ⟨_, rfl, fun j u hj => ?_⟩⟩
    have hlt : j < l.length * 3 := by have := (List.getElem?_eq_some_iff.1 hj).1; rwa [tokCs_length] at this
    have hadd : (⟨b, off, none⟩ : Addr).add j = ⟨b, off + j, none⟩ := Addr.add_mid _ _ _
    obtain ⟨c0, c1, c2⟩ := hc (j / 3) (by omega)
    obtain ⟨g0, g1, g2⟩ := tokCs_get l (j / 3) (by omega)
    rw [hadd]
    rcases (show j = j / 3 * 3 ∨ j = j / 3 * 3 + 1 ∨ j = j / 3 * 3 + 2 by omega) with e | e | e
    · rw [e] at hj ⊢
      rw [g0] at hj; rw [c0]; exact hj
    · rw [e] at hj ⊢
      rw [g1] at hj; rw [← Nat.add_assoc, c1]; exact hj
    · rw [e] at hj ⊢
      rw [g2] at hj; rw [← Nat.add_assoc, c2]; exact hj
/-- append(dst, src...), dst the call's own, src tokens as they came. -/
theorem wpList_append_toks {P : Program} {w : World} {ops : Array Oper} {rest : List Oper} {o : Oper} {a : Act} {Q : Exit → Act → World → Prop} (hgd : o.guard = none) (s x : Operand) (t : TypeId)
    (ho : o.op = .call { callee := .builtin .append, args := #[s, x], argTypes := #[t, t] })
    (base : Nat) (e : TypeId) (i : TypeInfo) (z : Value) (ht : P.underlying t = some (.slice e)) (hi : P.info? e = some i) (hz : i.zero = some z)
    (hsize : i.size = 3) (hby : i.bytes = 24) (hzs : z.cells.size = 3)
    (v : Value) (n : Nat) (xs : List Value) (hs : a.eval s = v) (hown : w.ownsRow base e 3 v n xs)
    (ao : Option Addr) (m c : Nat) (l : List Tok) (hx : a.eval x = .slice ao m c) (hB : ToksAt w (.slice ao m c) l)
    (h63 : n + l.length ≤ 1000000000) (hbase : base ≤ w.heap.size)
    (h : ∀ v' w', w'.ownsRow base e 3 v' (n + l.length) (xs ++ tokCs l) → w.grownBy w' v.ownBlock → wpList P ops Q rest (a.put o.dst v') w') : wpList P ops Q (o :: rest) a w := by
  obtain ⟨hm, hsrc⟩ := hB.src
  rcases hsrc with ⟨rfl, rfl, rfl, rfl⟩ | ⟨ad, rfl, hnews⟩
  · exact wpList_append_own_none hgd s x t ho base e i 3 ht hi v n xs hs hown hx (h v w (by simpa [tokCs] using hown) (World.grownBy.refl _ _))
  · exact wpList_append_own _ hgd s x t ho base e i z 3 24 ht hi hz hsize hby hzs (by decide) v n xs hs hown ad m c (tokCs l) hx (by rw [tokCs_length, hm]) hnews (tokCs_one l) (by unfold maxLen; omega) (by omega) hbase
      (fun v' w' h1 h2 _ => h v' w' (by rw [← hm]; exact h1) h2)
theorem own3_block {w : World} {base : Nat} {e : TypeId} {v : Value} {n : Nat} {xs : List Value} (h : w.ownsRow base e 3 v n xs) {q : Nat} (hq : v.ownBlock = some q) : base ≤ q := by
  rcases h.2 with ⟨e, -⟩ | ⟨g, cap, cur, e, hg, -⟩
  · rw [e] at hq; cases hq
  · rw [e] at hq; cases hq; exact hg
theorem own3_form {w : World} {base : Nat} {e : TypeId} {v : Value} {n : Nat} {xs : List Value} (h : w.ownsRow base e 3 v n xs) : ∃ a c, v = .slice a n c := by
  rcases h.2 with ⟨hv, rfl⟩ | ⟨g, cap, cur, hv, -⟩
  · exact ⟨none, 0, hv⟩
  · exact ⟨_, cap, hv⟩

end Go.Proofs.YtbkkfchcdfhfgadDoor

/- Beginnings of what lies in memory; boxes of a token; small facts of chapter 4. -/
namespace Go.Proofs.YtbkkfchcdfhfgadDoor
open Go.RowKit

/-- What a variable of three cells holds. -/
theorem box_three {w : World} {k : Nat} {u v x : Value} {t : TypeId} (h : w.heap[k]? = some (.cells #[u, v, x] t (0, 0))) :
    w.cell? ⟨k, 0, none⟩ = some u ∧ w.cell? ⟨k, 1, none⟩ = some v ∧ w.cell? ⟨k, 2, none⟩ = some x ∧ w.frozen? ⟨k, 0, none⟩ = false ∧ w.frozen? ⟨k, 1, none⟩ = false ∧ w.frozen? ⟨k, 2, none⟩ = false :=
  ⟨cell_of_row w k 0 _ t _ h, cell_of_row w k 1 _ t _ h, cell_of_row w k 2 _ t _ h, frozen_of_row w k 0 _ t h, frozen_of_row w k 1 _ t h, frozen_of_row w k 2 _ t h⟩
theorem box3_set {w : World} {k : Nat} {u v x u' v' x' : Value} {t : TypeId} (h : w.heap[k]? = some (.cells #[u, v, x] t (0, 0))) :
    (((w.setCell ⟨k, 0, none⟩ u').setCell ⟨k, 1, none⟩ v').setCell ⟨k, 2, none⟩ x').heap[k]? = some (.cells #[u', v', x'] t (0, 0)) := by
  have h0 := heap_setCell_same _ _ 0 _ _ u' h
  have h1 := heap_setCell_same _ _ 1 _ _ v' h0
  have h2 := heap_setCell_same _ _ 2 _ _ x' h1
  exact h2
/-- How far the stretch goes. -/
theorem match_end {b : List Int} {f a k : Nat} (hfa : f < a) (hk : ∀ j, j < k → b.getD (f + j) 0 = b.getD (a + j) 0) (h66 : k ≤ 66) (hl : a + k ≤ b.length) (he : ¬ (a + k < b.length) ∨ ¬ k < 66 ∨ b.getD (f + k) 0 ≠ b.getD (a + k) 0) : matchN b f a = k := by
  have h1 := matchN_more (b := b) (f := f) (a := a) (n := k) h66 (by omega) hl hk
  have h2 := matchN_le b f a
  rcases Nat.lt_or_ge k (matchN b f a) with h | h
  · exfalso
    rcases he with e | e | e
    · omega
    · omega
    · exact e (matchN_get h)
  · omega
theorem own3_lt {w : World} {base : Nat} {e : TypeId} {v : Value} {n : Nat} {xs : List Value} (h : w.ownsRow base e 3 v n xs) {q : Nat} (hq : v.ownBlock = some q) : q < w.heap.size := by
  rcases h.2 with ⟨e, -⟩ | ⟨g, cap, cur, e, -, hg, -⟩
  · rw [e] at hq; cases hq
  · rw [e] at hq
    cases hq
    exact lt_heap hg
theorem lit_three (w : World) (x y z : Int) (t : TypeId) : ∀ (j : Nat) (u : Value), (tokC ⟨x, y, z⟩)[j]? = some u → (w.alloc (.cells #[.int .i64 x, .int .i64 y, .int .u8 z] t)).cell? ((⟨w.heap.size, 0, none⟩ : Addr).add j) = some u := fun j u hj => by
  have hadd : (⟨w.heap.size, 0, none⟩ : Addr).add j = ⟨w.heap.size, 0 + j, none⟩ := Addr.add_mid _ _ _
  rw [hadd, Nat.zero_add]
  match j, hj with
  | 0, hj => rw [new_cell w t _ 0 (by simp)]; simpa [tokC] using hj
  | 1, hj => rw [new_cell w t _ 1 (by simp)]; simpa [tokC] using hj
  | 2, hj => rw [new_cell w t _ 2 (by simp)]; simpa [tokC] using hj
  | j + 3, hj => simp [tokC] at hj
theorem flagsN_snoc : ∀ (ts : List Tok) (t : Tok), flagsN (ts ++ [t]) = flagsN ts + (if t.len = 0 then 0 else 2 ^ ts.length)
  | [], t => by
    show flagsN [t] = 0 + _
    rw [flagsN_cons]
    split <;> simp [flagsN]
  | x :: ts, t => by
    show flagsN (x :: (ts ++ [t])) = flagsN (x :: ts) + _
    rw [flagsN_cons, flagsN_cons, flagsN_snoc ts t, List.length_cons, Nat.pow_succ]
    split <;> split <;> omega
theorem take_snocT (l : List Tok) (k : Nat) (h : k < l.length) : l.take (k + 1) = l.take k ++ [l.getD k tok0] := by
  rw [List.take_succ_eq_append_getElem h, List.getD_eq_getElem?_getD, List.getElem?_eq_getElem h]; rfl
theorem dropT_get (l : List Tok) (i k : Nat) : (l.drop i).getD k tok0 = l.getD (i + k) tok0 := by rw [List.getD_eq_getElem?_getD, List.getElem?_drop, ← List.getD_eq_getElem?_getD]
theorem pow_wrap : ∀ k : Fin 8, wrap64 ((2 : Int) ^ k.val) = ((2 ^ k.val : Nat) : Int) ∧ 2 ^ k.val ≤ 128 := by decide +kernel
theorem wrap_small {n : Int} (h0 : 0 ≤ n) (h1 : n < 1000) : wrap64 n = n := by unfold wrap64; omega
theorem one_at2 (w : World) (o : Obj) (v : Value) (t : TypeId) : ∀ (j : Nat) (u : Value), [v][j]? = some u → ((w.alloc o).alloc (.cells #[v] t)).cell? ((⟨w.heap.size + 1, 0, none⟩ : Addr).add j) = some u := by
  have := cell_one_new (w.alloc o) v t
  rwa [World.size_alloc] at this
theorem two_at2 (w : World) (o : Obj) (v v' : Value) (t : TypeId) : ∀ (j : Nat) (u : Value), [v, v'][j]? = some u → ((w.alloc o).alloc (.cells #[v, v'] t)).cell? ((⟨w.heap.size + 1, 0, none⟩ : Addr).add j) = some u := fun j u hj => by
  have hadd : (⟨w.heap.size + 1, 0, none⟩ : Addr).add j = ⟨w.heap.size + 1, 0 + j, none⟩ := Addr.add_mid _ _ _
  have e : w.heap.size + 1 = (w.alloc o).heap.size := by simp
  rw [hadd, Nat.zero_add, e]
  match j, hj with
  | 0, hj => rw [new_cell _ t _ 0 (by simp)]; simpa using hj
  | 1, hj => rw [new_cell _ t _ 1 (by simp)]; simpa using hj
  | j + 2, hj => simp at hj
def goodTok (t : Tok) : Prop := 0 ≤ t.byte ∧ t.byte < 256 ∧ (t.len = 0 ∨ (3 ≤ t.len ∧ t.len ≤ 66 ∧ 1 ≤ t.back ∧ t.back ≤ 1024))
theorem BytesAt.take {w : World} {a : Option Addr} {n c k : Nat} {zs : List Int} (h : BytesAt w (.slice a n c) zs) (hn : zs.length = n) (hk : k ≤ n) : BytesAt w (.slice a k c) (zs.take k) := by
  rcases h with ⟨rfl, a', c', e, h1⟩ | ⟨b, off, cp, e, h2, h3⟩
  · cases e
    obtain rfl : k = 0 := by omega
    exact .inl ⟨rfl, _, _, rfl, h1⟩
  · cases e
    have hl : (zs.take k).length = k := by rw [List.length_take]; omega
    refine .inr ⟨b, off, c, by rw [hl], h2, fun j hj => ?_⟩
    rw [h3 j (by omega), List.getD_eq_getElem?_getD, List.getD_eq_getElem?_getD, List.getElem?_take, if_pos (by omega)]
theorem take_bytes1 {zs : List Int} (h : Bytes zs) (k : Nat) : Bytes (zs.take k) := fun j => by
  rw [List.getD_eq_getElem?_getD, List.getElem?_take]
  split
  · have := h j; rwa [List.getD_eq_getElem?_getD] at this
  · exact ⟨by decide, by decide⟩
theorem ToksAt.take {w : World} {a : Option Addr} {n c k : Nat} {l : List Tok} (h : ToksAt w (.slice a n c) l) (hn : l.length = n) (hk : k ≤ n) : ToksAt w (.slice a k c) (l.take k) := by
  rcases h with ⟨rfl, a', c', e, h1, h2⟩ | ⟨b, off, cp, e, h1, h2, h3, h4⟩
  · cases e
    obtain rfl : k = 0 := by omega
    exact .inl ⟨rfl, _, _, rfl, h1, h2⟩
  · cases e
    have hl : (l.take k).length = k := by rw [List.length_take]; omega
    refine .inr ⟨b, off, c, by rw [hl], by omega, h2, h3, fun j hj => ?_⟩
    have e2 : (l.take k).getD j tok0 = l.getD j tok0 := by rw [List.getD_eq_getElem?_getD, List.getElem?_take, if_pos (by omega), ← List.getD_eq_getElem?_getD]
    rw [e2]
    exact h4 j (by omega)
theorem tokSum_step {l : List Tok} {k : Nat} (h : k < l.length) : tokSum (l.take (k + 1)) = tokSum (l.take k) + max (l.getD k tok0).len.toNat 1 := by
  rw [List.take_succ_eq_append_getElem h, tokSum_append, List.getD_eq_getElem?_getD, List.getElem?_eq_getElem h]
  rfl
theorem tok_get {b : List Int} (hb : Bytes b) {k : Nat} (h : k < (tokensL b).length) : 0 ≤ ((tokensL b).getD k tok0).len ∧ ((tokensL b).getD k tok0).len ≤ 66 := by
  rw [List.getD_eq_getElem?_getD, List.getElem?_eq_getElem h]
  have := tokFrom_bytes hb _ 0 rfl ((tokensL b)[k]) (List.getElem_mem h)
  show 0 ≤ ((tokensL b)[k]).len ∧ ((tokensL b)[k]).len ≤ 66
  omega
/-- What comes of more tokens: the same fault, or one behind them, or a longer text. -/
theorem more_text (l m : List Tok) : ((textL l).2.1 ≠ 0 → textL (l ++ m) = textL l ∧ (textL l).1 = []) ∧ ((textL l).2.1 = 0 → ((textL (l ++ m)).2.1 ≠ 0 → (l.length : Int) ≤ (textL (l ++ m)).2.2) ∧ ((textL (l ++ m)).2.1 = 0 → (textL l).1 <+: (textL (l ++ m)).1)) := by
  unfold textL
  rw [text_more l [] 0 m]
  refine ⟨fun h => ?_, fun h => ?_⟩
  · rw [if_neg h]
    exact ⟨rfl, (text_where l [] 0 h).2⟩
  · rw [if_pos h]
    refine ⟨fun h2 => ?_, fun h2 => ?_⟩
    · have := (text_where m _ _ h2).1
      omega
    · exact text_prefix m _ _ h2
theorem put_le {out : List Int} {t : Tok} (h : tokBad out.length t = 0) : (tokPut out t).length ≤ 4000 := by
  unfold tokBad at h
  unfold tokPut
  split at h
  · rename_i h0
    rw [if_pos h0]
    split at h
    · cases h
    · simp; omega
  · rename_i h0
    rw [if_neg h0, copyL_length]
    split at h
    · cases h
    · split at h
      · cases h
      · split at h
        · cases h
        · omega
theorem text_le : ∀ (l : List Tok) (out : List Int) (i : Nat), out.length ≤ 4000 → (textFrom out i l).1.length ≤ 4000
  | [], out, i, h => h
  | t :: l, out, i, h => by
    rw [textFrom]
    split
    · simp
    · rename_i hb
      exact text_le l _ _ (put_le (Decidable.not_not.1 hb))
theorem copy_snoc : ∀ (q : Nat) (out : List Int) (back : Nat), copyL (q + 1) out back = copyL q out back ++ [(copyL q out back).getD ((copyL q out back).length - back) 0]
  | 0, _, _ => rfl
  | q + 1, out, back => by
    show copyL (q + 1) (out ++ [out.getD (out.length - back) 0]) back = _
    rw [copy_snoc q]
    rfl

end Go.Proofs.YtbkkfchcdfhfgadDoor
