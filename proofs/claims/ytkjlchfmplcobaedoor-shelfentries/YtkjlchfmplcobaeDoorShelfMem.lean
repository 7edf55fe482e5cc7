/- Variables that are set, and lists that lie elsewhere. -/
import Derived.Test.YtkjlchfmplcobaeDoorProg
import Derived.Test.YtkjlchfmplcobaeDoorRunAD
import Derived.WalkKit
namespace Go.Proofs.YtkjlchfmplcobaeDoor
open Go.RowKit

/-- Setting a variable that is no row of bytes, nor of slices of them. -/
theorem Laid.set {w : World} {a : Option Addr} {n c k o : Nat} {L : List (List Int)} {cs : Array Value} {t : TypeId} {mk : Nat × Nat} (h : Laid w a n c L) (hk : w.heap[k]? = some (.cells cs t mk)) (h1 : 5 ≠ t) (h2 : n ≠ 0 → ∀ g off, a = some ⟨g, off, none⟩ → g ≠ k) (u : Value) : Laid (w.setCell ⟨k, o, none⟩ u) a n c L := by
  obtain ⟨hl, vs, he, hc⟩ := h
  have hB : ∀ y d, ByteEl w y d → ByteEl (w.setCell ⟨k, o, none⟩ u) y d := fun y d hy => hy.same (fun g cur mk' hg => by
    rw [heap_setCell_other w ⟨k, o, none⟩ g u (fun e => ?_)]
    have e : g = k := e
    subst e
    rw [hg] at hk
    cases hk
    exact h1 rfl)
  have he' : Els (w.setCell ⟨k, o, none⟩ u) vs L := ⟨he.1, fun j hj => by obtain ⟨y, q1, q2⟩ := he.2 j hj; exact ⟨y, q1, hB _ _ q2⟩⟩
  have hcell : n ≠ 0 → ∀ b off, a = some ⟨b, off, none⟩ → ∀ j, (w.setCell ⟨k, o, none⟩ u).cell? ⟨b, off + j, none⟩ = w.cell? ⟨b, off + j, none⟩ := fun hn b off ha j => World.cell?_setCell_far _ _ _ _ (show k ≠ b from fun e => h2 hn b off ha e.symm)
  refine ⟨⟨hl.len, ?_, hl.room, hl.cap, hl.nil, hl.bytes, hl.short⟩, vs, he', fun ad ha j v hv => ?_⟩
  · rcases hl.at' with h | ⟨b, off, cp, e, hb, hp⟩
    · exact .inl h
    · cases e
      refine .inr ⟨b, off, c, rfl, by simpa using hb, fun j hj => ?_⟩
      obtain ⟨y, q1, q2⟩ := he'.2 j hj
      obtain ⟨ya, yc, rfl⟩ := q2.bytes.form
      refine ⟨ya, _, yc, ?_, q2.bytes⟩
      rw [hcell (by have := hl.len; omega) b off rfl]
      have := hc _ rfl j _ q1
      have e2 : (⟨b, off, none⟩ : Addr).add j = ⟨b, off + j, none⟩ := Addr.add_mid _ _ _
      rwa [e2] at this
  · have h3 := hc ad ha j v hv
    rcases hl.at' with ⟨rfl, -⟩ | ⟨b, off, cp, e, hb, hp⟩
    · have := (List.getElem?_eq_some_iff.1 hv).1
      rw [he.1] at this
      simp at this
    · cases e
      cases ha
      have e2 : (⟨b, off, none⟩ : Addr).add j = ⟨b, off + j, none⟩ := Addr.add_mid _ _ _
      rw [e2] at h3 ⊢
      rw [hcell (by have h4 := (List.getElem?_eq_some_iff.1 hv).1; rw [he.1, hl.len] at h4; omega) b off rfl]
      exact h3
end Go.Proofs.YtkjlchfmplcobaeDoor
