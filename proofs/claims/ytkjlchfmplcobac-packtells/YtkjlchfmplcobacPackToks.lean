/- Tokens as a row of a call's own; append of tokens. -/
import Derived.Test.YtkjlchfmplcobacProg
import Derived.Test.YtkjlchfmplcobacPackFace
import Derived.WalkKit
import Derived.Deep.AppendLies
import Derived.Laws.AppendOwnNone
namespace Go.Proofs.Ytkjlchfmplcobac
open Go.RowKit

theorem Try.info40b : (Try.prog.info? 40).map (fun i => (i.zero, i.size, i.bytes)) = some (some (.agg #[.int .i64 0, .int .i64 0, .int .u8 0]), 3, 24) := by kernel_rfl
/-- A token's cells. -/
def tokC (t : Tok) : List Value := [.int .i64 t.len, .int .i64 t.back, .int .u8 t.byte]
def tokCs (l : List Tok) : List Value := l.flatMap tokC
theorem tokCs_length (l : List Tok) : (tokCs l).length = l.length * 3 := by
  unfold tokCs
  induction l with
  | nil => rfl
  | cons t l ih => rw [List.flatMap_cons, List.length_append, ih, List.length_cons]; show 3 + _ = _; omega
theorem tokCs_append (l m : List Tok) : tokCs (l ++ m) = tokCs l ++ tokCs m := List.flatMap_append
theorem tokCs_get (l : List Tok) : ∀ q, q < l.length → (tokCs l)[q * 3]? = some (.int .i64 (l.getD q tok0).len) ∧ (tokCs l)[q * 3 + 1]? = some (.int .i64 (l.getD q tok0).back) ∧ (tokCs l)[q * 3 + 2]? = some (.int .u8 (l.getD q tok0).byte) := by
  induction l with
  | nil => intro q h; simp at h
  | cons t l ih =>
    intro q h
    have e : tokCs (t :: l) = .int .i64 t.len :: .int .i64 t.back :: .int .u8 t.byte :: tokCs l := rfl
    cases q with
    | zero => rw [e]; exact ⟨rfl, rfl, rfl⟩
    | succ q =>
      obtain ⟨h0, h1, h2⟩ := ih q (by simpa using h)
      rw [e, show (q + 1) * 3 = q * 3 + 1 + 1 + 1 by omega]
      exact ⟨h0, h1, h2⟩
theorem tokCs_one (l : List Tok) : ∀ u ∈ tokCs l, u.oneCell' = true := fun u hu => by
  obtain ⟨t, -, ht⟩ := List.mem_flatMap.1 hu
  simp only [tokC, List.mem_cons, List.not_mem_nil, or_false] at ht
  rcases ht with rfl | rfl | rfl <;> rfl
/-- A row of a call's own reads as its tokens. -/
theorem toksAt_own {w : World} {base : Nat} {e : TypeId} {v : Value} {l : List Tok} (h : w.ownsRow base e 3 v l.length (tokCs l)) : ToksAt w v l := by
  rcases h.2 with ⟨hv, hn⟩ | ⟨g, cap, cur, hv, -, hg, h1, h2, -⟩
  · exact .inl ⟨List.eq_nil_of_length_eq_zero hn, none, 0, hv, fun _ => rfl, Nat.zero_le _⟩
  · refine .inr ⟨g, 0, cap, hv, h1, h2, ?_, fun j hj => ?_⟩
    · rcases Nat.lt_or_ge g w.heap.size with h' | h'
      · exact h'
      · rw [Array.getElem?_eq_none h'] at hg; cases hg
    · subst hv
      obtain ⟨g0, g1, g2⟩ := tokCs_get l j hj
      rw [Nat.zero_add]
      exact ⟨(h.cellAt (j * 3) (by omega)).trans g0, (h.cellAt (j * 3 + 1) (by omega)).trans g1, (h.cellAt (j * 3 + 2) (by omega)).trans g2⟩
theorem ToksAt.src {w : World} {a : Option Addr} {n c : Nat} {l : List Tok} (h : ToksAt w (.slice a n c) l) :
    n = l.length ∧ ((a = none ∧ n = 0 ∧ c = 0 ∧ l = []) ∨ ∃ ad, a = some ad ∧ ∀ j u, (tokCs l)[j]? = some u → w.cell? (ad.add j) = some u) := by
  rcases h with ⟨rfl, x, c', h, hc, -⟩ | ⟨b, off, cp, h, -, -, -, hc⟩
  · simp only [Value.slice.injEq] at h
    obtain ⟨rfl, rfl, rfl⟩ := h
    refine ⟨rfl, ?_⟩
    cases a with
    | none => exact .inl ⟨rfl, rfl, hc rfl, rfl⟩
    | some ad => exact .inr ⟨ad, rfl, fun j u hj => by simp [tokCs] at hj⟩
  · simp only [Value.slice.injEq] at h
    obtain ⟨rfl, rfl, rfl⟩ := h
    refine ⟨rfl, .inr ⟨_, rfl, fun j u hj => ?_⟩⟩
    have hlt : j < l.length * 3 := by have := (List.getElem?_eq_some_iff.1 hj).1; rwa [tokCs_length] at this
    have hadd : (⟨b, off, none⟩ : Addr).add j = ⟨b, off + j, none⟩ := Addr.add_mid _ _ _
    obtain ⟨c0, c1, c2⟩ := hc (j / 3) (by omega)
    obtain ⟨g0, g1, g2⟩ := tokCs_get l (j / 3) (by omega)
    rw [hadd]
    rcases (show j = j / 3 * 3 ∨ j = j / 3 * 3 + 1 ∨ j = j / 3 * 3 + 2 by omega) with e | e | e
    · rw [e] at hj ⊢
      rw [g0] at hj; rw [c0]; exact hj
    · rw [e] at hj ⊢
      rw [g1] at hj; rw [← Nat.add_assoc, c1]; exact hj
    · rw [e] at hj ⊢
      rw [g2] at hj; rw [← Nat.add_assoc, c2]; exact hj
theorem own3_block {w : World} {base : Nat} {e : TypeId} {v : Value} {n : Nat} {xs : List Value} (h : w.ownsRow base e 3 v n xs) {q : Nat} (hq : v.ownBlock = some q) : base ≤ q := by
  rcases h.2 with ⟨e, -⟩ | ⟨g, cap, cur, e, hg, -⟩
  · rw [e] at hq; cases hq
  · rw [e] at hq; cases hq; exact hg
theorem own3_form {w : World} {base : Nat} {e : TypeId} {v : Value} {n : Nat} {xs : List Value} (h : w.ownsRow base e 3 v n xs) : ∃ a c, v = .slice a n c := by
  rcases h.2 with ⟨hv, rfl⟩ | ⟨g, cap, cur, hv, -⟩
  · exact ⟨none, 0, hv⟩
  · exact ⟨_, cap, hv⟩

end Go.Proofs.Ytkjlchfmplcobac
