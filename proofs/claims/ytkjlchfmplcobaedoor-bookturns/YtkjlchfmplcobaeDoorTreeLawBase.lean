/- What the laws of chapter 2 that go without the document's answer lean on. -/
import Derived.Test.YtkjlchfmplcobaeDoorProg
import Derived.Test.YtkjlchfmplcobaeDoorTreeFace
import Derived.WalkKit
namespace Go.Proofs.YtkjlchfmplcobaeDoor
open Go.RowKit

theorem bytes_mem {L : List (List Int)} (h : ∀ x ∈ L, Bytes x) (j : Nat) : Bytes (L.getD j []) := by
  rw [List.getD_eq_getElem?_getD]
  by_cases hj : j < L.length
  · rw [List.getElem?_eq_getElem hj]; exact h _ (List.getElem_mem hj)
  · rw [List.getElem?_eq_none (by omega)]; exact nil_bytes
theorem own_nil {w : World} {base : Nat} {e : TypeId} {a : Option Addr} {n c m : Nat} {xs : List Value} (h : w.ownsRow base e 1 (.slice a n c) m xs) (ha : a = none) : n = 0 ∧ c = 0 := by
  subst ha
  rcases h.2 with ⟨h1, -⟩ | ⟨g, cap, cur, h1, -⟩
  · simp at h1; exact h1
  · simp at h1
/-- What a face answers is what a face is given. -/
theorem OwnParts.lists {w : World} {base : Nat} {xa : Option Addr} {xn xc : Nat} {L : List (List Int)} (h : OwnParts w base (.slice xa xn xc) L) (hb : ∀ x ∈ L, Bytes x) (hs : ∀ j, (L.getD j []).length ≤ maxLen) : Lists w xa xn xc L := by
  have hp := h.parts
  obtain ⟨a, c, e, h1, h2⟩ := h.form
  cases e
  obtain ⟨vs, hr, -⟩ := h
  exact ⟨rfl, hp, h1, h2, own_nil hr, bytes_mem hb, hs⟩
theorem own_len {w : World} {base : Nat} {e : TypeId} {a : Option Addr} {n c m : Nat} {xs : List Value} (h : w.ownsRow base e 1 (.slice a n c) m xs) : n = m := by
  obtain ⟨a', c', e'⟩ := own_form' h
  cases e'
  rfl
theorem Lists.take {w : World} {a : Option Addr} {n c k : Nat} {L : List (List Int)} (h : Lists w a n c L) (hk : k ≤ n) (h0 : 0 < n) : Lists w a k c (L.take k) :=
  ⟨by rw [List.length_take]; have := h.len; omega, h.at'.take h.len hk h0 _, by have := h.room; omega, h.cap, fun ha => by have := h.nil ha; omega, take_bytes h.bytes k, take_short h.short k⟩
theorem wrong_zero {L : List (List Int)} (h1 : L.length ≤ 100) (h2 : ∀ j, (L.getD j []).length ≤ 200) : wrongL L = (0, 0) := by
  unfold wrongL; rw [if_neg (by omega)]; exact wrong_none 0 (fun j _ => h2 j)

/-- The three leaves. -/
def three : List (List Int) := [[1], [2], [3]]
end Go.Proofs.YtkjlchfmplcobaeDoor
