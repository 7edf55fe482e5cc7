/- PackFace, PackToks, as one text. -/
import Derived.Test.YtkjlchfmplcobadDoorProg
import Derived.Test.YtkjlchfmplcobadDoorRunAG
import Derived.Test.YtkjlchfmplcobadDoorRunAB
import Derived.WalkKit
import Derived.Deep.AppendLies
import Derived.Laws.AppendOwnNone
/- What the laws of chapter 4 ask of package pack's faces, as propositions: each is shown of the landed code elsewhere. Tokens in memory. -/
namespace Go.Proofs.YtkjlchfmplcobadDoor
open Go.RowKit

def tok0 : Tok := ⟨0, 0, 0⟩
/-- Tokens as the walks meet them. -/
def ToksAt (w : World) (v : Value) (l : List Tok) : Prop :=
  (l = [] ∧ ∃ a c, v = .slice a 0 c ∧ (a = none → c = 0) ∧ c ≤ maxLen) ∨ ∃ b off cp, v = .slice (some ⟨b, off, none⟩) l.length cp ∧ l.length ≤ cp ∧ cp ≤ maxLen ∧ b < w.heap.size ∧
    ∀ j, j < l.length → w.cell? ⟨b, off + j * 3, none⟩ = some (.int .i64 (l.getD j tok0).len) ∧ w.cell? ⟨b, off + j * 3 + 1, none⟩ = some (.int .i64 (l.getD j tok0).back) ∧ w.cell? ⟨b, off + j * 3 + 2, none⟩ = some (.int .u8 (l.getD j tok0).byte)
theorem ToksAt.below {w w' : World} {v : Value} {l : List Tok} {n : Nat} (h : ToksAt w v l) (hn : w.heap.size ≤ n) (hb : Below n w w') : ToksAt w' v l := by
  rcases h with h | ⟨b, off, cp, h1, h2, h3, h4, h5⟩
  · exact .inl h
  · refine .inr ⟨b, off, cp, h1, h2, h3, Nat.lt_of_lt_of_le h4 hb.size, fun j hj => ?_⟩
    obtain ⟨c0, c1, c2⟩ := h5 j hj
    exact ⟨by rw [hb.cell (p := ⟨b, off + j * 3, none⟩) (by show b < n; omega)]; exact c0, by rw [hb.cell (p := ⟨b, off + j * 3 + 1, none⟩) (by show b < n; omega)]; exact c1, by rw [hb.cell (p := ⟨b, off + j * 3 + 2, none⟩) (by show b < n; omega)]; exact c2⟩
theorem ToksAt.form {w : World} {v : Value} {l : List Tok} (h : ToksAt w v l) : ∃ a c, v = .slice a l.length c ∧ l.length ≤ c ∧ c ≤ maxLen ∧ (l.length = 0 ∨ ∃ b off, a = some ⟨b, off, none⟩ ∧ b < w.heap.size ∧ ∀ j, j < l.length → w.cell? ⟨b, off + j * 3, none⟩ = some (.int .i64 (l.getD j tok0).len) ∧ w.cell? ⟨b, off + j * 3 + 1, none⟩ = some (.int .i64 (l.getD j tok0).back) ∧ w.cell? ⟨b, off + j * 3 + 2, none⟩ = some (.int .u8 (l.getD j tok0).byte)) := by
  rcases h with ⟨rfl, a, c, h1, h2, h3⟩ | ⟨b, off, cp, h1, h2, h3, h4, h5⟩
  · exact ⟨a, c, h1, Nat.zero_le _, h3, .inl rfl⟩
  · exact ⟨_, cp, h1, h2, h3, .inr ⟨b, off, rfl, h4, h5⟩⟩
/-- A slice that has room for what it has. -/
def RoomV (v : Value) (n : Nat) : Prop := ∃ a c, v = .slice a n c ∧ n ≤ c ∧ c ≤ maxLen
@[reducible] def faultV4 (p : Int × Int) : Value := .agg #[.int .i64 p.1, .int .i64 p.2]
/-- What Tokens and Pack say. -/
def muchE (b : List Int) : Int := if 4000 < b.length then 4 else 0
def toksE (b : List Int) : List Tok := if 4000 < b.length then [] else tokensL b
def packE (b : List Int) : List Int := if 4000 < b.length then [] else packL b
def TokensC : Prop := ∀ (b : List Int) (bv : Value) (w : World), Some' w bv b →
  Calls Tryd.prog 75 #[bv] w fun e w' => ∃ v, e = .returned (.tuple #[v, .int .i64 (muchE b)]) ∧ ToksAt w' v (toksE b) ∧ Below w.heap.size w w'
def TextC : Prop := ∀ (l : List Tok) (lv : Value) (w : World), ToksAt w lv l →
  Calls Tryd.prog 58 #[lv] w fun e w' => ∃ v, e = .returned (.tuple #[v, faultV4 (textL l).2]) ∧ BytesAt w' v (textL l).1 ∧ RoomV v (textL l).1.length ∧ Below w.heap.size w w'
/-- Bytes that have room for what there is. -/
def RoomAt (w : World) (v : Value) (zs : List Int) : Prop := BytesAt w v zs ∧ RoomV v zs.length
theorem roomAt_nil (w : World) : RoomAt w (.slice none 0 0) [] := ⟨bytesAt_nil w, none, 0, rfl, Nat.le_refl _, Nat.zero_le _⟩
def PackOC : Prop := ∀ (b : List Int) (bv : Value) (w : World), Some' w bv b →
  Calls Tryd.prog 48 #[bv] w fun e w' => ∃ v, e = .returned (.tuple #[v, .int .i64 (muchE b)]) ∧ w'.ownsRow w.heap.size 5 1 v (packE b).length ((packE b).map (Value.int .u8)) ∧ Below w.heap.size w w'
def UnpackRC : Prop := ∀ (b : List Int) (bv : Value) (w : World), Some' w bv b → RoomV bv b.length →
  Calls Tryd.prog 31 #[bv] w fun e w' => ∃ v, e = .returned (.tuple #[v, .int .i64 (unpackL b).2]) ∧ RoomAt w' v (unpackL b).1 ∧ Below w.heap.size w w'
/-- What is packed is bytes. -/
theorem tokFrom_bytes {b : List Int} (hb : Bytes b) (d : Nat) : ∀ a, b.length - a = d → ∀ t ∈ tokFrom b a, 0 ≤ t.byte ∧ t.byte < 256 ∧ (t.len = 0 ∨ (3 ≤ t.len ∧ t.len ≤ 66 ∧ 1 ≤ t.back ∧ t.back ≤ 1024)) := by
  induction d using Nat.strongRecOn with
  | ind d ih =>
    intro a hd t ht
    by_cases h : a < b.length
    · rcases best_spec b a with hs | ⟨s1, s2, s3, s4, s5, s6, -⟩
      · rw [tokFrom_byte h (by rw [hs])] at ht
        rcases List.mem_cons.1 ht with rfl | ht
        · exact ⟨(hb a).1, (hb a).2, .inl rfl⟩
        · exact ih (b.length - (a + 1)) (by omega) (a + 1) rfl t ht
      · rw [tokFrom_more h (by omega)] at ht
        rcases List.mem_cons.1 ht with rfl | ht
        · refine ⟨by simp, by simp, .inr ?_⟩
          simp only
          omega
        · exact ih (b.length - (a + (bestL b a).1)) (by omega) (a + (bestL b a).1) rfl t ht
    · rw [tokFrom_end h] at ht
      cases ht
theorem bytes_of_mem {l : List Int} (h : ∀ x ∈ l, 0 ≤ x ∧ x < 256) : Bytes l := fun j => by
  rw [List.getD_eq_getElem?_getD]
  by_cases hj : j < l.length
  · rw [List.getElem?_eq_getElem hj]; exact h _ (List.getElem_mem hj)
  · rw [List.getElem?_eq_none (by omega)]; exact ⟨by decide, by decide⟩
theorem bodyT_bytes {t : Tok} (h0 : 0 ≤ t.byte) (h1 : t.byte < 256) (h : t.len = 0 ∨ (3 ≤ t.len ∧ t.len ≤ 66 ∧ 1 ≤ t.back ∧ t.back ≤ 1024)) : ∀ x ∈ bodyT t, 0 ≤ x ∧ x < 256 := fun x hx => by
  unfold bodyT at hx
  split at hx
  · rw [List.mem_singleton.1 hx]; exact ⟨h0, h1⟩
  · rename_i hn
    have := h.resolve_left hn
    unfold tokX at hx
    simp only [List.mem_cons, List.not_mem_nil, or_false] at hx
    omega
theorem groups_bytes (m : Nat) : ∀ l : List Tok, l.length = m → (∀ t ∈ l, 0 ≤ t.byte ∧ t.byte < 256 ∧ (t.len = 0 ∨ (3 ≤ t.len ∧ t.len ≤ 66 ∧ 1 ≤ t.back ∧ t.back ≤ 1024))) → ∀ x ∈ groupsL l, 0 ≤ x ∧ x < 256 := by
  induction m using Nat.strongRecOn with
  | ind m ih =>
    intro l hl hb x hx
    by_cases h : l.length = 0
    · rw [groupsL_none h] at hx; cases hx
    · rw [groupsL_more h] at hx
      rcases List.mem_cons.1 hx with rfl | hx
      · have := flagsN_byte l; omega
      · rcases List.mem_append.1 hx with hx | hx
        · obtain ⟨t, ht, hx⟩ := List.mem_flatMap.1 hx
          obtain ⟨h0, h1, h2⟩ := hb t (List.mem_of_mem_take ht)
          exact bodyT_bytes h0 h1 h2 x hx
        · exact ih (l.drop 8).length (by rw [List.length_drop]; omega) (l.drop 8) rfl (fun t ht => hb t (List.mem_of_mem_drop ht)) x hx
theorem pack_bytes {b : List Int} (hb : Bytes b) (hn : b.length ≤ 4000) : Bytes (packL b) := by
  refine bytes_of_mem (fun x hx => ?_)
  unfold packL writeL at hx
  rcases List.mem_append.1 hx with hx | hx
  · simp only [List.mem_cons, List.not_mem_nil, or_false] at hx
    omega
  · exact groups_bytes _ _ rfl (tokFrom_bytes hb _ 0 rfl) x hx
end Go.Proofs.YtkjlchfmplcobadDoor

/- Tokens as a row of a call's own; append of tokens. -/
namespace Go.Proofs.YtkjlchfmplcobadDoor
open Go.RowKit

theorem Tryd.info117b : (Tryd.prog.info? 117).map (fun i => (i.zero, i.size, i.bytes)) = some (some (.agg #[.int .i64 0, .int .i64 0, .int .u8 0]), 3, 24) := by kernel_rfl
/-- A token's cells. -/
def tokC (t : Tok) : List Value := [.int .i64 t.len, .int .i64 t.back, .int .u8 t.byte]
def tokCs (l : List Tok) : List Value := l.flatMap tokC
theorem tokCs_length (l : List Tok) : (tokCs l).length = l.length * 3 := by
  unfold tokCs
  induction l with
  | nil => rfl
  | cons t l ih => rw [List.flatMap_cons, List.length_append, ih, List.length_cons]; show 3 + _ = _; omega
theorem tokCs_append (l m : List Tok) : tokCs (l ++ m) = tokCs l ++ tokCs m := List.flatMap_append
theorem tokCs_get (l : List Tok) : ∀ q, q < l.length → (tokCs l)[q * 3]? = some (.int .i64 (l.getD q tok0).len) ∧ (tokCs l)[q * 3 + 1]? = some (.int .i64 (l.getD q tok0).back) ∧ (tokCs l)[q * 3 + 2]? = some (.int .u8 (l.getD q tok0).byte) := by
  induction l with
  | nil => intro q h; simp at h
  | cons t l ih =>
    intro q h
    have e : tokCs (t :: l) = .int .i64 t.len :: .int .i64 t.back :: .int .u8 t.byte :: tokCs l := rfl
    cases q with
    | zero => rw [e]; exact ⟨rfl, rfl, rfl⟩
    | succ q =>
      obtain ⟨h0, h1, h2⟩ := ih q (by simpa using h)
      rw [e, show (q + 1) * 3 = q * 3 + 1 + 1 + 1 by omega]
      exact ⟨h0, h1, h2⟩
theorem tokCs_one (l : List Tok) : ∀ u ∈ tokCs l, u.oneCell' = true := fun u hu => by
  obtain ⟨t, -, ht⟩ := List.mem_flatMap.1 hu
  simp only [tokC, List.mem_cons, List.not_mem_nil, or_false] at ht
  rcases ht with rfl | rfl | rfl <;> rfl
/-- A row of a call's own reads as its tokens. -/
theorem toksAt_own {w : World} {base : Nat} {e : TypeId} {v : Value} {l : List Tok} (h : w.ownsRow base e 3 v l.length (tokCs l)) : ToksAt w v l := by
  rcases h.2 with ⟨hv, hn⟩ | ⟨g, cap, cur, hv, -, hg, h1, h2, -⟩
  · exact .inl ⟨List.eq_nil_of_length_eq_zero hn, none, 0, hv, fun _ => rfl, Nat.zero_le _⟩
  · refine .inr ⟨g, 0, cap, hv, h1, h2, ?_, fun j hj => ?_⟩
    · rcases Nat.lt_or_ge g w.heap.size with h' | h'
      · exact h'
      · rw [Array.getElem?_eq_none h'] at hg; cases hg
    · subst hv
      obtain ⟨g0, g1, g2⟩ := tokCs_get l j hj
      rw [Nat.zero_add]
      exact ⟨(h.cellAt (j * 3) (by omega)).trans g0, (h.cellAt (j * 3 + 1) (by omega)).trans g1, (h.cellAt (j * 3 + 2) (by omega)).trans g2⟩
theorem ToksAt.src {w : World} {a : Option Addr} {n c : Nat} {l : List Tok} (h : ToksAt w (.slice a n c) l) :
    n = l.length ∧ ((a = none ∧ n = 0 ∧ c = 0 ∧ l = []) ∨ ∃ ad, a = some ad ∧ ∀ j u, (tokCs l)[j]? = some u → w.cell? (ad.add j) = some u) := by
  rcases h with ⟨rfl, x, c', h, hc, -⟩ | ⟨b, off, cp, h, -, -, -, hc⟩
  · simp only [Value.slice.injEq] at h
    obtain ⟨rfl, rfl, rfl⟩ := h
    refine ⟨rfl, ?_⟩
    cases a with
    | none => exact .inl ⟨rfl, rfl, hc rfl, rfl⟩
    | some ad => exact .inr ⟨ad, rfl, fun j u hj => by simp [tokCs] at hj⟩
  · simp only [Value.slice.injEq] at h
    obtain ⟨rfl, rfl, rfl⟩ := h
    refine ⟨rfl, .inr ⟨_, rfl, fun j u hj => ?_⟩⟩
    have hlt : j < l.length * 3 := by have := (List.getElem?_eq_some_iff.1 hj).1; rwa [tokCs_length] at this
    have hadd : (⟨b, off, none⟩ : Addr).add j = ⟨b, off + j, none⟩ := Addr.add_mid _ _ _
    obtain ⟨c0, c1, c2⟩ := hc (j / 3) (by omega)
    obtain ⟨g0, g1, g2⟩ := tokCs_get l (j / 3) (by omega)
    rw [hadd]
    rcases (show j = j / 3 * 3 ∨ j = j / 3 * 3 + 1 ∨ j = j / 3 * 3 + 2 by omega) with e | e | e
    · rw [e] at hj ⊢
      rw [g0] at hj; rw [c0]; exact hj
    · rw [e] at hj ⊢
      rw [g1] at hj; rw [← Nat.add_assoc, c1]; exact hj
    · rw [e] at hj ⊢
      rw [g2] at hj; rw [← Nat.add_assoc, c2]; exact hj
theorem own3_block {w : World} {base : Nat} {e : TypeId} {v : Value} {n : Nat} {xs : List Value} (h : w.ownsRow base e 3 v n xs) {q : Nat} (hq : v.ownBlock = some q) : base ≤ q := by
  rcases h.2 with ⟨e, -⟩ | ⟨g, cap, cur, e, hg, -⟩
  · rw [e] at hq; cases hq
  · rw [e] at hq; cases hq; exact hg
theorem own3_form {w : World} {base : Nat} {e : TypeId} {v : Value} {n : Nat} {xs : List Value} (h : w.ownsRow base e 3 v n xs) : ∃ a c, v = .slice a n c := by
  rcases h.2 with ⟨hv, rfl⟩ | ⟨g, cap, cur, hv, -⟩
  · exact ⟨none, 0, hv⟩
  · exact ⟨_, cap, hv⟩

end Go.Proofs.YtkjlchfmplcobadDoor
