/- FleetThirteen, ShelfMem, as one text. -/
import Derived.Test.YtkjlchfmplcobagGreatDoorRunAK
import Derived.Test.YtkjlchfmplcobagGreatDoorProg
import Derived.Test.YtkjlchfmplcobagGreatDoorRunAI
import Derived.WalkKit
/- Thirteen cells written. Nothing of the program's functions is in it. -/
namespace Go.Proofs.YtkjlchfmplcobagGreatDoor
open Go.RowKit

theorem free_13 {w : World} {k : Nat} {v0 v1 v2 v3 v4 v5 v6 v7 v8 v9 v10 v11 v12 : Value} {t : TypeId} (h : w.heap[k]? = some (.cells #[v0, v1, v2, v3, v4, v5, v6, v7, v8, v9, v10, v11, v12] t (0, 0))) :
    w.frozen? ⟨k, 0, none⟩ = false ∧ w.frozen? ⟨k, 1, none⟩ = false ∧ w.frozen? ⟨k, 2, none⟩ = false ∧ w.frozen? ⟨k, 3, none⟩ = false ∧ w.frozen? ⟨k, 4, none⟩ = false ∧ w.frozen? ⟨k, 5, none⟩ = false ∧ w.frozen? ⟨k, 6, none⟩ = false ∧ w.frozen? ⟨k, 7, none⟩ = false ∧ w.frozen? ⟨k, 8, none⟩ = false ∧ w.frozen? ⟨k, 9, none⟩ = false ∧ w.frozen? ⟨k, 10, none⟩ = false ∧ w.frozen? ⟨k, 11, none⟩ = false ∧ w.frozen? ⟨k, 12, none⟩ = false :=
  ⟨frozen_of_row w k 0 _ t h, frozen_of_row w k 1 _ t h, frozen_of_row w k 2 _ t h, frozen_of_row w k 3 _ t h, frozen_of_row w k 4 _ t h, frozen_of_row w k 5 _ t h, frozen_of_row w k 6 _ t h, frozen_of_row w k 7 _ t h, frozen_of_row w k 8 _ t h, frozen_of_row w k 9 _ t h, frozen_of_row w k 10 _ t h, frozen_of_row w k 11 _ t h, frozen_of_row w k 12 _ t h⟩
theorem thirteen_set {w : World} {R : Nat} {v0 v1 v2 v3 v4 v5 v6 v7 v8 v9 v10 v11 v12 : Value} {t : TypeId} (h : w.heap[R]? = some (.cells #[v0, v1, v2, v3, v4, v5, v6, v7, v8, v9, v10, v11, v12] t (0, 0))) (u0 u1 u2 u3 u4 u5 u6 u7 u8 u9 u10 u11 u12 : Value) : (((((((((((((w.setCell ⟨R, 0, none⟩ u0).setCell ⟨R, 1, none⟩ u1).setCell ⟨R, 2, none⟩ u2).setCell ⟨R, 3, none⟩ u3).setCell ⟨R, 4, none⟩ u4).setCell ⟨R, 5, none⟩ u5).setCell ⟨R, 6, none⟩ u6).setCell ⟨R, 7, none⟩ u7).setCell ⟨R, 8, none⟩ u8).setCell ⟨R, 9, none⟩ u9).setCell ⟨R, 10, none⟩ u10).setCell ⟨R, 11, none⟩ u11).setCell ⟨R, 12, none⟩ u12).heap[R]? = some (.cells #[u0, u1, u2, u3, u4, u5, u6, u7, u8, u9, u10, u11, u12] t (0, 0)) := by
  have h0 : (w.setCell ⟨R, 0, none⟩ u0).heap[R]? = some (.cells #[u0, v1, v2, v3, v4, v5, v6, v7, v8, v9, v10, v11, v12] t (0, 0)) := heap_setCell_same w R 0 _ t u0 h
  generalize w.setCell ⟨R, 0, none⟩ u0 = w0 at *
  have h1 : (w0.setCell ⟨R, 1, none⟩ u1).heap[R]? = some (.cells #[u0, u1, v2, v3, v4, v5, v6, v7, v8, v9, v10, v11, v12] t (0, 0)) := heap_setCell_same w0 R 1 _ t u1 h0
  generalize w0.setCell ⟨R, 1, none⟩ u1 = w1 at *
  have h2 : (w1.setCell ⟨R, 2, none⟩ u2).heap[R]? = some (.cells #[u0, u1, u2, v3, v4, v5, v6, v7, v8, v9, v10, v11, v12] t (0, 0)) := heap_setCell_same w1 R 2 _ t u2 h1
  generalize w1.setCell ⟨R, 2, none⟩ u2 = w2 at *
  have h3 : (w2.setCell ⟨R, 3, none⟩ u3).heap[R]? = some (.cells #[u0, u1, u2, u3, v4, v5, v6, v7, v8, v9, v10, v11, v12] t (0, 0)) := heap_setCell_same w2 R 3 _ t u3 h2
  generalize w2.setCell ⟨R, 3, none⟩ u3 = w3 at *
  have h4 : (w3.setCell ⟨R, 4, none⟩ u4).heap[R]? = some (.cells #[u0, u1, u2, u3, u4, v5, v6, v7, v8, v9, v10, v11, v12] t (0, 0)) := heap_setCell_same w3 R 4 _ t u4 h3
  generalize w3.setCell ⟨R, 4, none⟩ u4 = w4 at *
  have h5 : (w4.setCell ⟨R, 5, none⟩ u5).heap[R]? = some (.cells #[u0, u1, u2, u3, u4, u5, v6, v7, v8, v9, v10, v11, v12] t (0, 0)) := heap_setCell_same w4 R 5 _ t u5 h4
  generalize w4.setCell ⟨R, 5, none⟩ u5 = w5 at *
  have h6 : (w5.setCell ⟨R, 6, none⟩ u6).heap[R]? = some (.cells #[u0, u1, u2, u3, u4, u5, u6, v7, v8, v9, v10, v11, v12] t (0, 0)) := heap_setCell_same w5 R 6 _ t u6 h5
  generalize w5.setCell ⟨R, 6, none⟩ u6 = w6 at *
  have h7 : (w6.setCell ⟨R, 7, none⟩ u7).heap[R]? = some (.cells #[u0, u1, u2, u3, u4, u5, u6, u7, v8, v9, v10, v11, v12] t (0, 0)) := heap_setCell_same w6 R 7 _ t u7 h6
  generalize w6.setCell ⟨R, 7, none⟩ u7 = w7 at *
  have h8 : (w7.setCell ⟨R, 8, none⟩ u8).heap[R]? = some (.cells #[u0, u1, u2, u3, u4, u5, u6, u7, u8, v9, v10, v11, v12] t (0, 0)) := heap_setCell_same w7 R 8 _ t u8 h7
  generalize w7.setCell ⟨R, 8, none⟩ u8 = w8 at *
  have h9 : (w8.setCell ⟨R, 9, none⟩ u9).heap[R]? = some (.cells #[u0, u1, u2, u3, u4, u5, u6, u7, u8, u9, v10, v11, v12] t (0, 0)) := heap_setCell_same w8 R 9 _ t u9 h8
  generalize w8.setCell ⟨R, 9, none⟩ u9 = w9 at *
  have h10 : (w9.setCell ⟨R, 10, none⟩ u10).heap[R]? = some (.cells #[u0, u1, u2, u3, u4, u5, u6, u7, u8, u9, u10, v11, v12] t (0, 0)) := heap_setCell_same w9 R 10 _ t u10 h9
  generalize w9.setCell ⟨R, 10, none⟩ u10 = w10 at *
  have h11 : (w10.setCell ⟨R, 11, none⟩ u11).heap[R]? = some (.cells #[u0, u1, u2, u3, u4, u5, u6, u7, u8, u9, u10, u11, v12] t (0, 0)) := heap_setCell_same w10 R 11 _ t u11 h10
  generalize w10.setCell ⟨R, 11, none⟩ u11 = w11 at *
  have h12 : (w11.setCell ⟨R, 12, none⟩ u12).heap[R]? = some (.cells #[u0, u1, u2, u3, u4, u5, u6, u7, u8, u9, u10, u11, u12] t (0, 0)) := heap_setCell_same w11 R 12 _ t u12 h11
  exact h12
theorem thirteen_below {B R : Nat} {wz w : World} (h : Below B wz w) (hR : B ≤ R) (u0 u1 u2 u3 u4 u5 u6 u7 u8 u9 u10 u11 u12 : Value) : Below B wz (((((((((((((w.setCell ⟨R, 0, none⟩ u0).setCell ⟨R, 1, none⟩ u1).setCell ⟨R, 2, none⟩ u2).setCell ⟨R, 3, none⟩ u3).setCell ⟨R, 4, none⟩ u4).setCell ⟨R, 5, none⟩ u5).setCell ⟨R, 6, none⟩ u6).setCell ⟨R, 7, none⟩ u7).setCell ⟨R, 8, none⟩ u8).setCell ⟨R, 9, none⟩ u9).setCell ⟨R, 10, none⟩ u10).setCell ⟨R, 11, none⟩ u11).setCell ⟨R, 12, none⟩ u12) := by
  have h0 : Below B wz (w.setCell ⟨R, 0, none⟩ u0) := h.setCell hR _
  generalize w.setCell ⟨R, 0, none⟩ u0 = w0 at *
  have h1 : Below B wz (w0.setCell ⟨R, 1, none⟩ u1) := h0.setCell hR _
  generalize w0.setCell ⟨R, 1, none⟩ u1 = w1 at *
  have h2 : Below B wz (w1.setCell ⟨R, 2, none⟩ u2) := h1.setCell hR _
  generalize w1.setCell ⟨R, 2, none⟩ u2 = w2 at *
  have h3 : Below B wz (w2.setCell ⟨R, 3, none⟩ u3) := h2.setCell hR _
  generalize w2.setCell ⟨R, 3, none⟩ u3 = w3 at *
  have h4 : Below B wz (w3.setCell ⟨R, 4, none⟩ u4) := h3.setCell hR _
  generalize w3.setCell ⟨R, 4, none⟩ u4 = w4 at *
  have h5 : Below B wz (w4.setCell ⟨R, 5, none⟩ u5) := h4.setCell hR _
  generalize w4.setCell ⟨R, 5, none⟩ u5 = w5 at *
  have h6 : Below B wz (w5.setCell ⟨R, 6, none⟩ u6) := h5.setCell hR _
  generalize w5.setCell ⟨R, 6, none⟩ u6 = w6 at *
  have h7 : Below B wz (w6.setCell ⟨R, 7, none⟩ u7) := h6.setCell hR _
  generalize w6.setCell ⟨R, 7, none⟩ u7 = w7 at *
  have h8 : Below B wz (w7.setCell ⟨R, 8, none⟩ u8) := h7.setCell hR _
  generalize w7.setCell ⟨R, 8, none⟩ u8 = w8 at *
  have h9 : Below B wz (w8.setCell ⟨R, 9, none⟩ u9) := h8.setCell hR _
  generalize w8.setCell ⟨R, 9, none⟩ u9 = w9 at *
  have h10 : Below B wz (w9.setCell ⟨R, 10, none⟩ u10) := h9.setCell hR _
  generalize w9.setCell ⟨R, 10, none⟩ u10 = w10 at *
  have h11 : Below B wz (w10.setCell ⟨R, 11, none⟩ u11) := h10.setCell hR _
  generalize w10.setCell ⟨R, 11, none⟩ u11 = w11 at *
  have h12 : Below B wz (w11.setCell ⟨R, 12, none⟩ u12) := h11.setCell hR _
  exact h12
end Go.Proofs.YtkjlchfmplcobagGreatDoor

/- Variables that are set, and lists that lie elsewhere. -/
namespace Go.Proofs.YtkjlchfmplcobagGreatDoor
open Go.RowKit

/-- Setting a variable that is no row of bytes, nor of slices of them. -/
theorem Laid.set {w : World} {a : Option Addr} {n c k o : Nat} {L : List (List Int)} {cs : Array Value} {t : TypeId} {mk : Nat × Nat} (h : Laid w a n c L) (hk : w.heap[k]? = some (.cells cs t mk)) (h1 : 5 ≠ t) (h2 : n ≠ 0 → ∀ g off, a = some ⟨g, off, none⟩ → g ≠ k) (u : Value) : Laid (w.setCell ⟨k, o, none⟩ u) a n c L := by
  obtain ⟨hl, vs, he, hc⟩ := h
  have hB : ∀ y d, ByteEl w y d → ByteEl (w.setCell ⟨k, o, none⟩ u) y d := fun y d hy => hy.same (fun g cur mk' hg => by
    rw [heap_setCell_other w ⟨k, o, none⟩ g u (fun e => ?_)]
    have e : g = k := e
    subst e
    rw [hg] at hk
    cases hk
    exact h1 rfl)
  have he' : Els (w.setCell ⟨k, o, none⟩ u) vs L := ⟨he.1, fun j hj => by obtain ⟨y, q1, q2⟩ := he.2 j hj; exact ⟨y, q1, hB _ _ q2⟩⟩
  have hcell : n ≠ 0 → ∀ b off, a = some ⟨b, off, none⟩ → ∀ j, (w.setCell ⟨k, o, none⟩ u).cell? ⟨b, off + j, none⟩ = w.cell? ⟨b, off + j, none⟩ := fun hn b off ha j => World.cell?_setCell_far _ _ _ _ (show k ≠ b from fun e => h2 hn b off ha e.symm)
  refine ⟨⟨hl.len, ?_, hl.room, hl.cap, hl.nil, hl.bytes, hl.short⟩, vs, he', fun ad ha j v hv => ?_⟩
  · rcases hl.at' with h | ⟨b, off, cp, e, hb, hp⟩
    · exact .inl h
    · cases e
      refine .inr ⟨b, off, c, rfl, by simpa using hb, fun j hj => ?_⟩
      obtain ⟨y, q1, q2⟩ := he'.2 j hj
      obtain ⟨ya, yc, rfl⟩ := q2.bytes.form
      refine ⟨ya, _, yc, ?_, q2.bytes⟩
      rw [hcell (by have := hl.len; omega) b off rfl]
      have := hc _ rfl j _ q1
      have e2 : (⟨b, off, none⟩ : Addr).add j = ⟨b, off + j, none⟩ := Addr.add_mid _ _ _
      rwa [e2] at this
  · have h3 := hc ad ha j v hv
    rcases hl.at' with ⟨rfl, -⟩ | ⟨b, off, cp, e, hb, hp⟩
    · have := (List.getElem?_eq_some_iff.1 hv).1
      rw [he.1] at this
      simp at this
    · cases e
      cases ha
      have e2 : (⟨b, off, none⟩ : Addr).add j = ⟨b, off + j, none⟩ := Addr.add_mid _ _ _
      rw [e2] at h3 ⊢
      rw [hcell (by have h4 := (List.getElem?_eq_some_iff.1 hv).1; rw [he.1, hl.len] at h4; omega) b off rfl]
      exact h3
end Go.Proofs.YtkjlchfmplcobagGreatDoor
