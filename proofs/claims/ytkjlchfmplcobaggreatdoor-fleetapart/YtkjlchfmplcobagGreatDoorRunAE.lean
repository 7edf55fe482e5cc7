/- FleetPastWalk, FleetEarlyWalk, FleetThirteen, FleetOff, FleetOffZ, FleetDos, FleetApartOps, FleetApartOrd, as one text. -/
import Derived.Test.YtkjlchfmplcobagGreatDoorProg
import Derived.Test.YtkjlchfmplcobagGreatDoorRunAD
import Derived.WalkKit
import Derived.WalkSpells
import Derived.WalkLawsBesides
import Derived.Deep.RegionHeld3
import Derived.BigRegion
import Derived.Deep.AppendLies
import Derived.Laws.AppendOwnNone
/- The walk of the law FleetPast, over the faces of package fleet. -/
namespace Go.Proofs.YtkjlchfmplcobagGreatDoor
open Go.RowKit

theorem play_ok {ws : List Win} {l : List Dd} (h : (playF ws l).1 = 0) : playL ws l = runL (startL ws) l ∧ (wrongWins ws).1 = 0 ∧ l.length ≤ 120 := by
  refine ⟨by unfold playL; rw [if_neg (fun g => g h)], ?_, ?_⟩
  · unfold playF at h
    by_cases hw : (wrongWins ws).1 ≠ 0
    · rw [if_pos hw] at h; exact absurd h hw
    · simpa using hw
  · unfold playF at h
    by_cases hw : (wrongWins ws).1 ≠ 0
    · rw [if_pos hw] at h; exact absurd h hw
    · rw [if_neg hw] at h
      by_cases hl : 120 < l.length
      · rw [if_pos hl] at h; exact absurd h (by decide)
      · omega
end Go.Proofs.YtkjlchfmplcobagGreatDoor

/- The walk of the law FleetEarly, over the faces of package fleet. -/
namespace Go.Proofs.YtkjlchfmplcobagGreatDoor
open Go.RowKit

theorem ShdsAt.get {w : World} {a : Option Addr} {n c : Nat} {l : List Shd} (h : ShdsAt w (.slice a n c) l) (hn : l.length = n) {j : Nat} (hj : j < n) : ∃ b o, a = some ⟨b, o, none⟩ ∧ b < w.heap.size ∧ ShdCells w b (o + j * 7) (l.getD j shd0) := by
  obtain ⟨a', c', e, -, -, -, h5⟩ := h
  rw [hn] at e h5
  cases e
  obtain ⟨b, off, h6, h7, h8⟩ := h5.resolve_left (by omega)
  exact ⟨b, off, h6, h7, h8 j hj⟩
end Go.Proofs.YtkjlchfmplcobagGreatDoor

/- Thirteen cells written. Nothing of the program's functions is in it. -/
namespace Go.Proofs.YtkjlchfmplcobagGreatDoor
open Go.RowKit

theorem free_13 {w : World} {k : Nat} {v0 v1 v2 v3 v4 v5 v6 v7 v8 v9 v10 v11 v12 : Value} {t : TypeId} (h : w.heap[k]? = some (.cells #[v0, v1, v2, v3, v4, v5, v6, v7, v8, v9, v10, v11, v12] t (0, 0))) :
    w.frozen? ⟨k, 0, none⟩ = false ∧ w.frozen? ⟨k, 1, none⟩ = false ∧ w.frozen? ⟨k, 2, none⟩ = false ∧ w.frozen? ⟨k, 3, none⟩ = false ∧ w.frozen? ⟨k, 4, none⟩ = false ∧ w.frozen? ⟨k, 5, none⟩ = false ∧ w.frozen? ⟨k, 6, none⟩ = false ∧ w.frozen? ⟨k, 7, none⟩ = false ∧ w.frozen? ⟨k, 8, none⟩ = false ∧ w.frozen? ⟨k, 9, none⟩ = false ∧ w.frozen? ⟨k, 10, none⟩ = false ∧ w.frozen? ⟨k, 11, none⟩ = false ∧ w.frozen? ⟨k, 12, none⟩ = false :=
  ⟨frozen_of_row w k 0 _ t h, frozen_of_row w k 1 _ t h, frozen_of_row w k 2 _ t h, frozen_of_row w k 3 _ t h, frozen_of_row w k 4 _ t h, frozen_of_row w k 5 _ t h, frozen_of_row w k 6 _ t h, frozen_of_row w k 7 _ t h, frozen_of_row w k 8 _ t h, frozen_of_row w k 9 _ t h, frozen_of_row w k 10 _ t h, frozen_of_row w k 11 _ t h, frozen_of_row w k 12 _ t h⟩
theorem thirteen_set {w : World} {R : Nat} {v0 v1 v2 v3 v4 v5 v6 v7 v8 v9 v10 v11 v12 : Value} {t : TypeId} (h : w.heap[R]? = some (.cells #[v0, v1, v2, v3, v4, v5, v6, v7, v8, v9, v10, v11, v12] t (0, 0))) (u0 u1 u2 u3 u4 u5 u6 u7 u8 u9 u10 u11 u12 : Value) : (((((((((((((w.setCell ⟨R, 0, none⟩ u0).setCell ⟨R, 1, none⟩ u1).setCell ⟨R, 2, none⟩ u2).setCell ⟨R, 3, none⟩ u3).setCell ⟨R, 4, none⟩ u4).setCell ⟨R, 5, none⟩ u5).setCell ⟨R, 6, none⟩ u6).setCell ⟨R, 7, none⟩ u7).setCell ⟨R, 8, none⟩ u8).setCell ⟨R, 9, none⟩ u9).setCell ⟨R, 10, none⟩ u10).setCell ⟨R, 11, none⟩ u11).setCell ⟨R, 12, none⟩ u12).heap[R]? = some (.cells #[u0, u1, u2, u3, u4, u5, u6, u7, u8, u9, u10, u11, u12] t (0, 0)) := by
  have h0 : (w.setCell ⟨R, 0, none⟩ u0).heap[R]? = some (.cells #[u0, v1, v2, v3, v4, v5, v6, v7, v8, v9, v10, v11, v12] t (0, 0)) := heap_setCell_same w R 0 _ t u0 h
  generalize w.setCell ⟨R, 0, none⟩ u0 = w0 at *
  have h1 : (w0.setCell ⟨R, 1, none⟩ u1).heap[R]? = some (.cells #[u0, u1, v2, v3, v4, v5, v6, v7, v8, v9, v10, v11, v12] t (0, 0)) := heap_setCell_same w0 R 1 _ t u1 h0
  generalize w0.setCell ⟨R, 1, none⟩ u1 = w1 at *
  have h2 : (w1.setCell ⟨R, 2, none⟩ u2).heap[R]? = some (.cells #[u0, u1, u2, v3, v4, v5, v6, v7, v8, v9, v10, v11, v12] t (0, 0)) := heap_setCell_same w1 R 2 _ t u2 h1
  generalize w1.setCell ⟨R, 2, none⟩ u2 = w2 at *
  have h3 : (w2.setCell ⟨R, 3, none⟩ u3).heap[R]? = some (.cells #[u0, u1, u2, u3, v4, v5, v6, v7, v8, v9, v10, v11, v12] t (0, 0)) := heap_setCell_same w2 R 3 _ t u3 h2
  generalize w2.setCell ⟨R, 3, none⟩ u3 = w3 at *
  have h4 : (w3.setCell ⟨R, 4, none⟩ u4).heap[R]? = some (.cells #[u0, u1, u2, u3, u4, v5, v6, v7, v8, v9, v10, v11, v12] t (0, 0)) := heap_setCell_same w3 R 4 _ t u4 h3
  generalize w3.setCell ⟨R, 4, none⟩ u4 = w4 at *
  have h5 : (w4.setCell ⟨R, 5, none⟩ u5).heap[R]? = some (.cells #[u0, u1, u2, u3, u4, u5, v6, v7, v8, v9, v10, v11, v12] t (0, 0)) := heap_setCell_same w4 R 5 _ t u5 h4
  generalize w4.setCell ⟨R, 5, none⟩ u5 = w5 at *
  have h6 : (w5.setCell ⟨R, 6, none⟩ u6).heap[R]? = some (.cells #[u0, u1, u2, u3, u4, u5, u6, v7, v8, v9, v10, v11, v12] t (0, 0)) := heap_setCell_same w5 R 6 _ t u6 h5
  generalize w5.setCell ⟨R, 6, none⟩ u6 = w6 at *
  have h7 : (w6.setCell ⟨R, 7, none⟩ u7).heap[R]? = some (.cells #[u0, u1, u2, u3, u4, u5, u6, u7, v8, v9, v10, v11, v12] t (0, 0)) := heap_setCell_same w6 R 7 _ t u7 h6
  generalize w6.setCell ⟨R, 7, none⟩ u7 = w7 at *
  have h8 : (w7.setCell ⟨R, 8, none⟩ u8).heap[R]? = some (.cells #[u0, u1, u2, u3, u4, u5, u6, u7, u8, v9, v10, v11, v12] t (0, 0)) := heap_setCell_same w7 R 8 _ t u8 h7
  generalize w7.setCell ⟨R, 8, none⟩ u8 = w8 at *
  have h9 : (w8.setCell ⟨R, 9, none⟩ u9).heap[R]? = some (.cells #[u0, u1, u2, u3, u4, u5, u6, u7, u8, u9, v10, v11, v12] t (0, 0)) := heap_setCell_same w8 R 9 _ t u9 h8
  generalize w8.setCell ⟨R, 9, none⟩ u9 = w9 at *
  have h10 : (w9.setCell ⟨R, 10, none⟩ u10).heap[R]? = some (.cells #[u0, u1, u2, u3, u4, u5, u6, u7, u8, u9, u10, v11, v12] t (0, 0)) := heap_setCell_same w9 R 10 _ t u10 h9
  generalize w9.setCell ⟨R, 10, none⟩ u10 = w10 at *
  have h11 : (w10.setCell ⟨R, 11, none⟩ u11).heap[R]? = some (.cells #[u0, u1, u2, u3, u4, u5, u6, u7, u8, u9, u10, u11, v12] t (0, 0)) := heap_setCell_same w10 R 11 _ t u11 h10
  generalize w10.setCell ⟨R, 11, none⟩ u11 = w11 at *
  have h12 : (w11.setCell ⟨R, 12, none⟩ u12).heap[R]? = some (.cells #[u0, u1, u2, u3, u4, u5, u6, u7, u8, u9, u10, u11, u12] t (0, 0)) := heap_setCell_same w11 R 12 _ t u12 h11
  exact h12
theorem thirteen_below {B R : Nat} {wz w : World} (h : Below B wz w) (hR : B ≤ R) (u0 u1 u2 u3 u4 u5 u6 u7 u8 u9 u10 u11 u12 : Value) : Below B wz (((((((((((((w.setCell ⟨R, 0, none⟩ u0).setCell ⟨R, 1, none⟩ u1).setCell ⟨R, 2, none⟩ u2).setCell ⟨R, 3, none⟩ u3).setCell ⟨R, 4, none⟩ u4).setCell ⟨R, 5, none⟩ u5).setCell ⟨R, 6, none⟩ u6).setCell ⟨R, 7, none⟩ u7).setCell ⟨R, 8, none⟩ u8).setCell ⟨R, 9, none⟩ u9).setCell ⟨R, 10, none⟩ u10).setCell ⟨R, 11, none⟩ u11).setCell ⟨R, 12, none⟩ u12) := by
  have h0 : Below B wz (w.setCell ⟨R, 0, none⟩ u0) := h.setCell hR _
  generalize w.setCell ⟨R, 0, none⟩ u0 = w0 at *
  have h1 : Below B wz (w0.setCell ⟨R, 1, none⟩ u1) := h0.setCell hR _
  generalize w0.setCell ⟨R, 1, none⟩ u1 = w1 at *
  have h2 : Below B wz (w1.setCell ⟨R, 2, none⟩ u2) := h1.setCell hR _
  generalize w1.setCell ⟨R, 2, none⟩ u2 = w2 at *
  have h3 : Below B wz (w2.setCell ⟨R, 3, none⟩ u3) := h2.setCell hR _
  generalize w2.setCell ⟨R, 3, none⟩ u3 = w3 at *
  have h4 : Below B wz (w3.setCell ⟨R, 4, none⟩ u4) := h3.setCell hR _
  generalize w3.setCell ⟨R, 4, none⟩ u4 = w4 at *
  have h5 : Below B wz (w4.setCell ⟨R, 5, none⟩ u5) := h4.setCell hR _
  generalize w4.setCell ⟨R, 5, none⟩ u5 = w5 at *
  have h6 : Below B wz (w5.setCell ⟨R, 6, none⟩ u6) := h5.setCell hR _
  generalize w5.setCell ⟨R, 6, none⟩ u6 = w6 at *
  have h7 : Below B wz (w6.setCell ⟨R, 7, none⟩ u7) := h6.setCell hR _
  generalize w6.setCell ⟨R, 7, none⟩ u7 = w7 at *
  have h8 : Below B wz (w7.setCell ⟨R, 8, none⟩ u8) := h7.setCell hR _
  generalize w7.setCell ⟨R, 8, none⟩ u8 = w8 at *
  have h9 : Below B wz (w8.setCell ⟨R, 9, none⟩ u9) := h8.setCell hR _
  generalize w8.setCell ⟨R, 9, none⟩ u9 = w9 at *
  have h10 : Below B wz (w9.setCell ⟨R, 10, none⟩ u10) := h9.setCell hR _
  generalize w9.setCell ⟨R, 10, none⟩ u10 = w10 at *
  have h11 : Below B wz (w10.setCell ⟨R, 11, none⟩ u11) := h10.setCell hR _
  generalize w10.setCell ⟨R, 11, none⟩ u11 = w11 at *
  have h12 : Below B wz (w11.setCell ⟨R, 12, none⟩ u12) := h11.setCell hR _
  exact h12
end Go.Proofs.YtkjlchfmplcobagGreatDoor

/- A variable of numbers is written: fleets and answers are as they were, wherever they lie. -/
namespace Go.Proofs.YtkjlchfmplcobagGreatDoor
open Go.RowKit

/-- The block F holds numbers alone; and all other memory is as it was. -/
structure Off (F : Nat) (w w' : World) : Prop where
  nums : ∀ x v, w.cell? ⟨F, x, none⟩ = some v → ∃ z, v = .int .i64 z
  size : w.heap.size ≤ w'.heap.size
  kept : ∀ b x, b ≠ F → w'.cell? ⟨b, x, none⟩ = w.cell? ⟨b, x, none⟩
theorem off_set {w : World} {F o : Nat} {a b : Int} {t : TypeId} (h : w.heap[F]? = some (.cells #[.int .i64 a, .int .i64 b] t (0, 0))) (u : Value) : Off F w (w.setCell ⟨F, o, none⟩ u) := by
  refine ⟨fun x v hx => ?_, by simp, fun c x hc => ?_⟩
  · rw [cell_of_row w F x _ t _ h] at hx
    match x, hx with
    | 0, hx => exact ⟨a, by simpa using hx.symm⟩
    | 1, hx => exact ⟨b, by simpa using hx.symm⟩
    | x + 2, hx => simp at hx
  · exact World.cell?_setCell_far _ _ _ _ (fun e => hc e.symm)
theorem Off.slice {F : Nat} {w w' : World} (h : Off F w w') {b x : Nat} {a : Option Addr} {n c : Nat} (hc : w.cell? ⟨b, x, none⟩ = some (.slice a n c)) : b ≠ F := fun e => by
  subst e
  obtain ⟨z, hz⟩ := h.nums _ _ hc
  cases hz
theorem BytesAt.off {F : Nat} {w w' : World} (ho : Off F w w') {v : Value} {zs : List Int} (h : BytesAt w v zs) : BytesAt w' v zs := by
  rcases h with h | ⟨b, off, cp, h1, h2, h3⟩
  · exact .inl h
  · by_cases hl : zs.length = 0
    · have : zs = [] := List.eq_nil_of_length_eq_zero hl
      subst this
      exact .inl ⟨rfl, _, _, h1, fun e => by cases e⟩
    · have hbF : b ≠ F := fun e => by
        subst e
        obtain ⟨z, hz⟩ := ho.nums _ _ (h3 0 (by omega))
        cases hz
      exact .inr ⟨b, off, cp, h1, Nat.lt_of_lt_of_le h2 ho.size, fun j hj => by rw [ho.kept _ _ hbF]; exact h3 j hj⟩
theorem Some'.off {F : Nat} {w w' : World} (ho : Off F w w') {v : Value} {b : List Int} (h : Some' w v b) : Some' w' v b := ⟨h.at'.off ho, h.bytes, h.short⟩
theorem PartsAt.off {F : Nat} {w w' : World} (ho : Off F w w') {v : Value} {L : List (List Int)} (h : PartsAt w v L) : PartsAt w' v L := by
  rcases h with h | ⟨b, off, cp, h1, h2, h3⟩
  · exact .inl h
  · refine .inr ⟨b, off, cp, h1, Nat.lt_of_lt_of_le h2 ho.size, fun j hj => ?_⟩
    obtain ⟨a, m, c, hc, hB⟩ := h3 j hj
    exact ⟨a, m, c, by rw [ho.kept _ _ (ho.slice hc)]; exact hc, hB.off ho⟩
theorem Lists.off {F : Nat} {w w' : World} (ho : Off F w w') {a : Option Addr} {n c : Nat} {L : List (List Int)} (h : Lists w a n c L) : Lists w' a n c L := ⟨h.len, h.at'.off ho, h.room, h.cap, h.nil, h.bytes, h.short⟩
theorem RecCells.off {F : Nat} {w w' : World} (ho : Off F w w') {b o : Nat} {r : Rec} (h : RecCells w b o r) : RecCells w' b o r := by
  obtain ⟨h0, h1, h2, h3, ra, rc, h4, h5⟩ := h
  have hb := ho.slice h4
  exact ⟨by rw [ho.kept _ _ hb]; exact h0, by rw [ho.kept _ _ hb]; exact h1, by rw [ho.kept _ _ hb]; exact h2, by rw [ho.kept _ _ hb]; exact h3, ra, rc, by rw [ho.kept _ _ hb]; exact h4, h5.off ho⟩
theorem RecsAt.off {F : Nat} {w w' : World} (ho : Off F w w') {v : Value} {l : List Rec} (h : RecsAt w v l) : RecsAt w' v l := by
  obtain ⟨a, c, h1, h2, h3, h4, h5⟩ := h
  refine ⟨a, c, h1, h2, h3, h4, ?_⟩
  rcases h5 with h5 | ⟨b, off, h6, h7, h8⟩
  · exact .inl h5
  · exact .inr ⟨b, off, h6, Nat.lt_of_lt_of_le h7 ho.size, fun j hj => (h8 j hj).off ho⟩
theorem SegsAt.off {F : Nat} {w w' : World} (ho : Off F w w') {v : Value} {l : List Seg} (h : SegsAt w v l) : SegsAt w' v l := by
  obtain ⟨a, c, h1, h2, h3, h4, h5⟩ := h
  refine ⟨a, c, h1, h2, h3, h4, ?_⟩
  rcases h5 with h5 | ⟨b, off, h6, h7, h8⟩
  · exact .inl h5
  · refine .inr ⟨b, off, h6, Nat.lt_of_lt_of_le h7 ho.size, fun j hj => ?_⟩
    obtain ⟨c0, c1, pa, pc, c2, c3, c4⟩ := h8 j hj
    have hb := ho.slice c2
    exact ⟨by rw [ho.kept _ _ hb]; exact c0, by rw [ho.kept _ _ hb]; exact c1, pa, pc, by rw [ho.kept _ _ hb]; exact c2, c3.off ho, c4⟩
theorem ShdCells.off {F : Nat} {w w' : World} (ho : Off F w w') {b o : Nat} {s : Shd} (h : ShdCells w b o s) : ShdCells w' b o s := by
  obtain ⟨h1, h2, h3, ⟨ea, ec, h4, h4'⟩, h5, ⟨ra, rc, h6, h6'⟩, ⟨ga, gc, h7, h7'⟩⟩ := h
  have hb := ho.slice h4
  exact ⟨by rw [ho.kept _ _ hb]; exact h1, by rw [ho.kept _ _ hb]; exact h2, by rw [ho.kept _ _ hb]; exact h3, ⟨ea, ec, by rw [ho.kept _ _ hb]; exact h4, h4'.off ho⟩, by rw [ho.kept _ _ hb]; exact h5, ⟨ra, rc, by rw [ho.kept _ _ hb]; exact h6, h6'.off ho⟩, ⟨ga, gc, by rw [ho.kept _ _ hb]; exact h7, h7'.off ho⟩⟩
theorem RowAt.off {F : Nat} {w w' : World} (ho : Off F w w') {α : Type} {n : Nat} {P : World → Nat → Nat → α → Prop} {z : α} {v : Value} {l : List α} (h : RowAt n P z w v l) (hP : ∀ b o x, P w b o x → P w' b o x) : RowAt n P z w' v l := by
  obtain ⟨a, c, h1, h2, h3, h4, h5⟩ := h
  refine ⟨a, c, h1, h2, h3, h4, ?_⟩
  rcases h5 with h5 | ⟨b, off, h6, h7, h8⟩
  · exact .inl h5
  · exact .inr ⟨b, off, h6, Nat.lt_of_lt_of_le h7 ho.size, fun j hj => hP _ _ _ (h8 j hj)⟩
theorem FltV.off {F : Nat} {w w' : World} (ho : Off F w w') {v : Value} {f : Flt} (h : FltV w v f) : FltV w' v f := by
  obtain ⟨sa, sc, ba, bc, h1, h2, h3⟩ := h
  exact ⟨sa, sc, ba, bc, h1, RowAt.off ho h2 (fun _ _ _ hx => hx.off ho), h3.off ho⟩
theorem AnsCells.off {F : Nat} {w w' : World} (ho : Off F w w') {b o : Nat} {x : Ans} (h : AnsCells w b o x) : AnsCells w' b o x := by
  obtain ⟨h0, h1, h2, h3, ra, rc, h4, h5⟩ := h
  have hb := ho.slice h4
  exact ⟨by rw [ho.kept _ _ hb]; exact h0, by rw [ho.kept _ _ hb]; exact h1, by rw [ho.kept _ _ hb]; exact h2, by rw [ho.kept _ _ hb]; exact h3, ra, rc, by rw [ho.kept _ _ hb]; exact h4, h5.off ho⟩
theorem AnssAt.off {F : Nat} {w w' : World} (ho : Off F w w') {v : Value} {l : List Ans} (h : AnssAt w v l) : AnssAt w' v l := RowAt.off ho h (fun _ _ _ hx => hx.off ho)

end Go.Proofs.YtkjlchfmplcobagGreatDoor

/- A variable that holds nothing yet is written: what was shown is as it was, wherever it lies. -/
namespace Go.Proofs.YtkjlchfmplcobagGreatDoor
open Go.RowKit

structure OffZ (R : Nat) (w w' : World) : Prop where
  noughts : ∀ x v, w.cell? ⟨R, x, none⟩ = some v → (∃ z, v = .int .i64 z) ∨ v = .slice none 0 0
  size : w.heap.size ≤ w'.heap.size
  kept : ∀ b x, b ≠ R → w'.cell? ⟨b, x, none⟩ = w.cell? ⟨b, x, none⟩
theorem BytesAt.offZ {R : Nat} {w w' : World} (ho : OffZ R w w') {v : Value} {zs : List Int} (h : BytesAt w v zs) : BytesAt w' v zs := by
  rcases h with h | ⟨b, off, cp, h1, h2, h3⟩
  · exact .inl h
  · by_cases hl : zs.length = 0
    · have : zs = [] := List.eq_nil_of_length_eq_zero hl
      subst this
      exact .inl ⟨rfl, _, _, h1, fun e => by cases e⟩
    · have hbR : b ≠ R := fun e => by
        subst e
        rcases ho.noughts _ _ (h3 0 (by omega)) with ⟨z, hz⟩ | hz <;> cases hz
      exact .inr ⟨b, off, cp, h1, Nat.lt_of_lt_of_le h2 ho.size, fun j hj => by rw [ho.kept _ _ hbR]; exact h3 j hj⟩
theorem Some'.offZ {R : Nat} {w w' : World} (ho : OffZ R w w') {v : Value} {b : List Int} (h : Some' w v b) : Some' w' v b := ⟨h.at'.offZ ho, h.bytes, h.short⟩
theorem PartsAt.offZ {R : Nat} {w w' : World} (ho : OffZ R w w') {v : Value} {L : List (List Int)} (h : PartsAt w v L) (hd : Digs L) : PartsAt w' v L := by
  rcases h with h | ⟨b, off, cp, h1, h2, h3⟩
  · exact .inl h
  · refine .inr ⟨b, off, cp, h1, Nat.lt_of_lt_of_le h2 ho.size, fun j hj => ?_⟩
    obtain ⟨a, m, c, hc, hB⟩ := h3 j hj
    have hbR : b ≠ R := fun e => by
      subst e
      rcases ho.noughts _ _ hc with ⟨z, hz⟩ | hz
      · cases hz
      · cases hz
        obtain ⟨a', c', e'⟩ := hB.form
        have h32 : (L.getD j []).length = 32 := by rw [List.getD_eq_getElem?_getD, List.getElem?_eq_getElem hj]; exact hd _ (List.getElem_mem hj)
        rw [h32] at e'
        cases e'
    exact ⟨a, m, c, by rw [ho.kept _ _ hbR]; exact hc, hB.offZ ho⟩
theorem ShwV.offZ {R : Nat} {w w' : World} (ho : OffZ R w w') {v : Value} {s : Shw} (h : ShwV w v s) (h1 : Digs s.path) (h2 : Digs s.bookPath) : ShwV w' v s := by
  obtain ⟨ea, ec, pa, pc, ra, rc, ba, bc, ha, hc, g1, g2, g3, g4, g5, g6⟩ := h.form
  exact ⟨ea, ec, pa, pc, ra, rc, ba, bc, ha, hc, g1, g2.offZ ho, ⟨g3.len, g3.at'.offZ ho h1, g3.room, g3.cap, g3.nil, g3.bytes, g3.short⟩, g4.offZ ho, ⟨g5.len, g5.at'.offZ ho h2, g5.room, g5.cap, g5.nil, g5.bytes, g5.short⟩, g6.offZ ho⟩
theorem show_digs (f : Flt) (k i : Int) : Digs (showL f k i).1.path ∧ Digs (showL f k i).1.bookPath := by
  have h0 : Digs shw0.path ∧ Digs shw0.bookPath := ⟨fun _ h => absurd h (by simp [shw0]), fun _ h => absurd h (by simp [shw0])⟩
  unfold showL
  split
  · exact h0
  split
  · exact h0
  split
  · exact h0
  split
  · exact h0
  split
  · exact h0
  · exact ⟨path_digs _ _, path_digs _ _⟩
theorem offZ_13 {w : World} {R : Nat} {t : TypeId} (h : w.heap[R]? = some (.cells #[.slice none 0 0, .int .i64 0, .int .i64 0, .slice none 0 0, .int .i64 0, .int .i64 0, .int .i64 0, .int .i64 0, .slice none 0 0, .int .i64 0, .slice none 0 0, .int .i64 0, .slice none 0 0] t (0, 0))) (u0 u1 u2 u3 u4 u5 u6 u7 u8 u9 u10 u11 u12 : Value) : OffZ R w (((((((((((((w.setCell ⟨R, 0, none⟩ u0).setCell ⟨R, 1, none⟩ u1).setCell ⟨R, 2, none⟩ u2).setCell ⟨R, 3, none⟩ u3).setCell ⟨R, 4, none⟩ u4).setCell ⟨R, 5, none⟩ u5).setCell ⟨R, 6, none⟩ u6).setCell ⟨R, 7, none⟩ u7).setCell ⟨R, 8, none⟩ u8).setCell ⟨R, 9, none⟩ u9).setCell ⟨R, 10, none⟩ u10).setCell ⟨R, 11, none⟩ u11).setCell ⟨R, 12, none⟩ u12) := by
  refine ⟨fun x v hx => ?_, by simp, fun b x hb => ?_⟩
  · rw [cell_of_row w R x _ t _ h] at hx
    match x, hx with
    | 0, hx => exact .inr (by simpa using hx.symm)
    | 1, hx => exact .inl ⟨0, by simpa using hx.symm⟩
    | 2, hx => exact .inl ⟨0, by simpa using hx.symm⟩
    | 3, hx => exact .inr (by simpa using hx.symm)
    | 4, hx => exact .inl ⟨0, by simpa using hx.symm⟩
    | 5, hx => exact .inl ⟨0, by simpa using hx.symm⟩
    | 6, hx => exact .inl ⟨0, by simpa using hx.symm⟩
    | 7, hx => exact .inl ⟨0, by simpa using hx.symm⟩
    | 8, hx => exact .inr (by simpa using hx.symm)
    | 9, hx => exact .inl ⟨0, by simpa using hx.symm⟩
    | 10, hx => exact .inr (by simpa using hx.symm)
    | 11, hx => exact .inl ⟨0, by simpa using hx.symm⟩
    | 12, hx => exact .inr (by simpa using hx.symm)
    | x + 13, hx => simp at hx
  · have hn : R ≠ b := fun e => hb e.symm
    have k0 : (w.setCell ⟨R, 0, none⟩ u0).cell? ⟨b, x, none⟩ = w.cell? ⟨b, x, none⟩ := (World.cell?_setCell_far _ _ _ _ hn)
    generalize w.setCell ⟨R, 0, none⟩ u0 = w0 at *
    have k1 : (w0.setCell ⟨R, 1, none⟩ u1).cell? ⟨b, x, none⟩ = w.cell? ⟨b, x, none⟩ := (World.cell?_setCell_far _ _ _ _ hn).trans k0
    generalize w0.setCell ⟨R, 1, none⟩ u1 = w1 at *
    have k2 : (w1.setCell ⟨R, 2, none⟩ u2).cell? ⟨b, x, none⟩ = w.cell? ⟨b, x, none⟩ := (World.cell?_setCell_far _ _ _ _ hn).trans k1
    generalize w1.setCell ⟨R, 2, none⟩ u2 = w2 at *
    have k3 : (w2.setCell ⟨R, 3, none⟩ u3).cell? ⟨b, x, none⟩ = w.cell? ⟨b, x, none⟩ := (World.cell?_setCell_far _ _ _ _ hn).trans k2
    generalize w2.setCell ⟨R, 3, none⟩ u3 = w3 at *
    have k4 : (w3.setCell ⟨R, 4, none⟩ u4).cell? ⟨b, x, none⟩ = w.cell? ⟨b, x, none⟩ := (World.cell?_setCell_far _ _ _ _ hn).trans k3
    generalize w3.setCell ⟨R, 4, none⟩ u4 = w4 at *
    have k5 : (w4.setCell ⟨R, 5, none⟩ u5).cell? ⟨b, x, none⟩ = w.cell? ⟨b, x, none⟩ := (World.cell?_setCell_far _ _ _ _ hn).trans k4
    generalize w4.setCell ⟨R, 5, none⟩ u5 = w5 at *
    have k6 : (w5.setCell ⟨R, 6, none⟩ u6).cell? ⟨b, x, none⟩ = w.cell? ⟨b, x, none⟩ := (World.cell?_setCell_far _ _ _ _ hn).trans k5
    generalize w5.setCell ⟨R, 6, none⟩ u6 = w6 at *
    have k7 : (w6.setCell ⟨R, 7, none⟩ u7).cell? ⟨b, x, none⟩ = w.cell? ⟨b, x, none⟩ := (World.cell?_setCell_far _ _ _ _ hn).trans k6
    generalize w6.setCell ⟨R, 7, none⟩ u7 = w7 at *
    have k8 : (w7.setCell ⟨R, 8, none⟩ u8).cell? ⟨b, x, none⟩ = w.cell? ⟨b, x, none⟩ := (World.cell?_setCell_far _ _ _ _ hn).trans k7
    generalize w7.setCell ⟨R, 8, none⟩ u8 = w8 at *
    have k9 : (w8.setCell ⟨R, 9, none⟩ u9).cell? ⟨b, x, none⟩ = w.cell? ⟨b, x, none⟩ := (World.cell?_setCell_far _ _ _ _ hn).trans k8
    generalize w8.setCell ⟨R, 9, none⟩ u9 = w9 at *
    have k10 : (w9.setCell ⟨R, 10, none⟩ u10).cell? ⟨b, x, none⟩ = w.cell? ⟨b, x, none⟩ := (World.cell?_setCell_far _ _ _ _ hn).trans k9
    generalize w9.setCell ⟨R, 10, none⟩ u10 = w10 at *
    have k11 : (w10.setCell ⟨R, 11, none⟩ u11).cell? ⟨b, x, none⟩ = w.cell? ⟨b, x, none⟩ := (World.cell?_setCell_far _ _ _ _ hn).trans k10
    generalize w10.setCell ⟨R, 11, none⟩ u11 = w11 at *
    have k12 : (w11.setCell ⟨R, 12, none⟩ u12).cell? ⟨b, x, none⟩ = w.cell? ⟨b, x, none⟩ := (World.cell?_setCell_far _ _ _ _ hn).trans k11
    exact k12

end Go.Proofs.YtkjlchfmplcobagGreatDoor

/- Things that are done, as rows of a call's own. -/
namespace Go.Proofs.YtkjlchfmplcobagGreatDoor
open Go.RowKit

theorem Tryz.info56b : (Tryz.prog.info? 56).map (fun i => (i.zero, i.size, i.bytes)) = some (some (.agg #[.int .i64 0, .int .i64 0, .int .i64 0, .slice none 0 0, .int .i64 0, .int .i64 0, .int .u8 0]), 7, 72) := by kernel_rfl
theorem own7_below {w w' : World} {base : Nat} {e : TypeId} {v : Value} {n N : Nat} {xs : List Value} (h : w.ownsRow base e 7 v n xs) (hb : Below N w w') (hN : w.heap.size ≤ N) : w'.ownsRow base e 7 v n xs :=
  h.kept (w' := w') (row := none) ⟨hb.os, hb.tape, hb.output, hb.size, fun k hk _ => hb.block k (Nat.lt_of_lt_of_le hk hN)⟩ (by cases v.ownBlock <;> simp)
theorem own7_form {w : World} {base : Nat} {e : TypeId} {v : Value} {n : Nat} {xs : List Value} (h : w.ownsRow base e 7 v n xs) : ∃ a c, v = .slice a n c := by
  rcases h.2 with ⟨hv, rfl⟩ | ⟨g, cap, cur, hv, -⟩
  · exact ⟨none, 0, hv⟩
  · exact ⟨_, cap, hv⟩
theorem own7_block {w : World} {base : Nat} {e : TypeId} {v : Value} {n : Nat} {xs : List Value} (h : w.ownsRow base e 7 v n xs) {q : Nat} (hq : v.ownBlock = some q) : base ≤ q := by
  rcases h.2 with ⟨e, -⟩ | ⟨g, cap, cur, e, hg, -⟩
  · rw [e] at hq; cases hq
  · rw [e] at hq; cases hq; exact hg
/-- A block of another type is no part of such a row. -/
theorem own7_apart {w : World} {base k n : Nat} {e t : TypeId} {v : Value} {xs : List Value} {c : Array Value} (ho : w.ownsRow base e 7 v n xs) (ht : t ≠ e) (hk : w.heap[k]? = some (.cells c t (0, 0))) : some k ≠ v.ownBlock := fun h => by
  rcases ho.2 with ⟨rfl, -⟩ | ⟨g, cap, cur, rfl, -, hh, -⟩
  · cases h
  · cases h
    rw [hh] at hk
    cases hk
    exact ht rfl
/-- The values of one thing that is done. -/
def ddV (x : Dd) (pa : Option Addr) (pc : Nat) : List Value := [.int .i64 x.kind, .int .i64 x.n, .int .i64 x.time, .slice pa x.entry.length pc, .int .i64 x.segment, .int .i64 x.at', .int .u8 x.by']
theorem ddV_one (x : Dd) (pa : Option Addr) (pc : Nat) : ∀ u ∈ ddV x pa pc, u.oneCell' = true := by
  intro u hu
  simp [ddV] at hu
  rcases hu with rfl | rfl | rfl | rfl | rfl | rfl | rfl <;> rfl
/-- The values of several, whose entries lie in the world w. -/
def DoEls (w : World) (vs : List Value) (l : List Dd) : Prop :=
  vs.length = l.length * 7 ∧ ∀ j, j < l.length → ∃ pa pc, Some' w (.slice pa (l.getD j dd0).entry.length pc) (l.getD j dd0).entry ∧ DdFit (l.getD j dd0) ∧ ∀ i, i < 7 → vs[j * 7 + i]? = (ddV (l.getD j dd0) pa pc)[i]?
theorem doEls_nil (w : World) : DoEls w [] [] := ⟨rfl, fun _ hj => absurd hj (Nat.not_lt_zero _)⟩
theorem DoEls.snoc {w : World} {vs : List Value} {l : List Dd} {x : Dd} {pa : Option Addr} {pc : Nat} (h : DoEls w vs l) (hx : Some' w (.slice pa x.entry.length pc) x.entry) (hb : DdFit x) : DoEls w (vs ++ ddV x pa pc) (l ++ [x]) := by
  obtain ⟨hl, h⟩ := h
  refine ⟨by rw [List.length_append, List.length_append, hl]; show l.length * 7 + 7 = (l.length + 1) * 7; omega, fun j hj => ?_⟩
  by_cases e : j < l.length
  · obtain ⟨qa, qc, h1, h2, h3⟩ := h j e
    have eg : (l ++ [x]).getD j dd0 = l.getD j dd0 := by rw [snoc_get, if_pos e]
    rw [eg]
    refine ⟨qa, qc, h1, h2, fun i hi => ?_⟩
    rw [List.getElem?_append_left (by omega)]
    exact h3 i hi
  · obtain rfl : j = l.length := by simp at hj; omega
    have eg : (l ++ [x]).getD l.length dd0 = x := by rw [snoc_get, if_neg (Nat.lt_irrefl _), if_pos rfl]
    rw [eg]
    refine ⟨pa, pc, hx, hb, fun i hi => ?_⟩
    rw [List.getElem?_append_right (by omega), hl, show l.length * 7 + i - l.length * 7 = i by omega]
/-- A row of a call's own, read as things that are done. -/
theorem DoEls.dos {w w' : World} {base : Nat} {v : Value} {vs : List Value} {l : List Dd} (h : DoEls w vs l) (ho : w'.ownsRow base 56 7 v l.length vs) (hb : Below w.heap.size w w') : DosAt w' v l := by
  obtain ⟨hl, h⟩ := h
  rcases ho.2 with ⟨hv, hn⟩ | ⟨g, cap, cur, rfl, -, hg, h3, h4, -⟩
  · exact ⟨none, 0, by rw [hv, hn], by omega, Nat.zero_le _, fun _ => rfl, .inl hn⟩
  · refine ⟨_, cap, rfl, h3, h4, (fun e => by cases e), .inr ⟨g, 0, rfl, lt_heap hg, fun j hj => ?_⟩⟩
    obtain ⟨pa, pc, h1, h2, h5⟩ := h j hj
    have hc : ∀ i, i < 7 → w'.cell? ⟨g, 0 + j * 7 + i, none⟩ = (ddV (l.getD j dd0) pa pc)[i]? := fun i hi => by rw [Nat.zero_add]; exact (ho.cellAt (j * 7 + i) (by omega)).trans (h5 i hi)
    exact ⟨hc 0 (by omega), hc 1 (by omega), hc 2 (by omega), ⟨pa, pc, hc 3 (by omega), h1.below hb⟩, hc 4 (by omega), hc 5 (by omega), hc 6 (by omega), h2⟩
end Go.Proofs.YtkjlchfmplcobagGreatDoor

/- Operations by themselves, on a frame that is a letter: for the law FleetApart. -/
namespace Go.Proofs.YtkjlchfmplcobagGreatDoor
open Go.RowKit

theorem wp_of_run {P : Program} {o : Oper} {a : Act} {w w' : World} {K : Act → World → Prop} {Q : Exit → Act → World → Prop} {v : Value} (h : (execOp a.eval o).run P w = .ok (.value v) w') (hK : K (a.put o.dst v) w') : o.wp P a w K Q := by
  unfold Oper.wp; rw [h]; exact hK
theorem wp_of_skip {P : Program} {o : Oper} {a : Act} {w w' : World} {K : Act → World → Prop} {Q : Exit → Act → World → Prop} (h : (execOp a.eval o).run P w = .ok .skip w') (hK : K (a.put o.dst undef) w') : o.wp P a w K Q := by
  unfold Oper.wp; rw [h]; exact hK
theorem wp_of_enter {P : Program} {o : Oper} {a : Act} {w w' : World} {K : Act → World → Prop} {Q : Exit → Act → World → Prop} {f : FuncId} {args : Array Value} (h : (execOp a.eval o).run P w = .ok (.enter f args) w') {R : Ending → World → Prop} (hc : Calls P f args w' R) (hR : ∀ e w'', R e w'' → ∃ v, e = .returned v ∧ K (a.put o.dst v) w'') : o.wp P a w K Q := by
  unfold Oper.wp; rw [h]
  refine hc.mono fun e w'' hr => ?_
  obtain ⟨v, rfl, hk⟩ := hR e w'' hr
  exact hk
variable {o : Oper} {ev : Operand → Value} {w : World}
theorem ex_move (x : Operand) (h : o.op = .move x) : (execOp ev o).run Tryz.prog w = .ok (.value (ev x)) w := by simp [execOp, h]
theorem ex_assign (x : Operand) (h : o.op = .assign x) : (execOp ev o).run Tryz.prog w = .ok (.value (ev x)) w := by simp [execOp, h]
theorem ex_extract3 (x : Operand) (i : Nat) (h : o.op = .extract x i) {u0 u1 u2 v : Value} (hx : ev x = .tuple #[u0, u1, u2]) (hv : #[u0, u1, u2][i]? = some v) : (execOp ev o).run Tryz.prog w = .ok (.value v) w := by
  simp [execOp, h, hx, hv, go_sem]
theorem ex_alloc_flt (h : o.op = .alloc 28) : (execOp ev o).run Tryz.prog w = .ok (.value (.pointer (some ⟨w.heap.size, 0, none⟩))) (w.alloc (.cells #[.slice none 0 0, .slice none 0 0] 28)) := by
  simp only [execOp, h]
  go_simp
theorem ex_alloc_fault (h : o.op = .alloc 32) : (execOp ev o).run Tryz.prog w = .ok (.value (.pointer (some ⟨w.heap.size, 0, none⟩))) (w.alloc (.cells #[.int .i64 0, .int .i64 0] 32)) := by
  simp only [execOp, h]
  go_simp
theorem ex_store_flt (p x : Operand) (h : o.op = .store 28 p x) {g : Nat} {u0 u1 : Value} {sa ka : Option Addr} {sn sc kn kc : Nat} (hp : ev p = .pointer (some ⟨g, 0, none⟩)) (hx : ev x = .agg #[.slice sa sn sc, .slice ka kn kc]) (hg : w.heap[g]? = some (.cells #[u0, u1] 28 (0, 0))) : (execOp ev o).run Tryz.prog w = .ok .skip ((w.setCell ⟨g, 0, none⟩ (.slice sa sn sc)).setCell ⟨g, 1, none⟩ (.slice ka kn kc)) := by
  obtain ⟨c0, c1, f0, f1⟩ := box_two hg
  simp only [execOp, h]
  go_simp
theorem ex_store_fault (p x : Operand) (h : o.op = .store 32 p x) {g : Nat} {u0 u1 : Value} {n0 n1 : Int} (hp : ev p = .pointer (some ⟨g, 0, none⟩)) (hx : ev x = .agg #[.int .i64 n0, .int .i64 n1]) (hg : w.heap[g]? = some (.cells #[u0, u1] 32 (0, 0))) : (execOp ev o).run Tryz.prog w = .ok .skip ((w.setCell ⟨g, 0, none⟩ (.int .i64 n0)).setCell ⟨g, 1, none⟩ (.int .i64 n1)) := by
  obtain ⟨c0, c1, f0, f1⟩ := box_two hg
  simp only [execOp, h]
  go_simp
theorem ex_load_do (p : Operand) (h : o.op = .load 56 p) {g : Nat} {v0 v1 v2 v3 v4 v5 v6 : Value} (hp : ev p = .pointer (some ⟨g, 0, none⟩)) (hg : w.heap[g]? = some (.cells #[v0, v1, v2, v3, v4, v5, v6] 56 (0, 0))) : (execOp ev o).run Tryz.prog w = .ok (.value (.agg #[v0, v1, v2, v3, v4, v5, v6])) w := by
  obtain ⟨c0, c1, c2, c3, c4, c5, c6⟩ := box_7 hg
  simp only [execOp, h]
  go_simp
theorem ex_build0 (h : o.op = .buildSlice 23 0 #[]) : (execOp ev o).run Tryz.prog w = .ok (.value (.slice (some ⟨w.heap.size, 0, none⟩) 0 0)) (w.alloc (.cells #[] 56)) := by
  simp only [execOp, h]
  go_simp
theorem ex_build2 (x y : Operand) (h : o.op = .buildSlice 23 2 #[(0, x), (1, y)]) {v0 v1 v2 v3 v4 v5 v6 u0 u1 u2 u3 u4 u5 u6 : Value} (hx : ev x = .agg #[v0, v1, v2, v3, v4, v5, v6]) (hy : ev y = .agg #[u0, u1, u2, u3, u4, u5, u6]) : (execOp ev o).run Tryz.prog w = .ok (.value (.slice (some ⟨w.heap.size, 0, none⟩) 2 2)) (w.alloc (.cells #[v0, v1, v2, v3, v4, v5, v6, u0, u1, u2, u3, u4, u5, u6] 56)) := by
  simp only [execOp, h]
  go_simp
theorem ex_append0 (x y : Operand) (h : o.op = .call { callee := .builtin .append, args := #[x, y], argTypes := #[23, 23] }) {g : Nat} {a : Option Addr} {c : Nat} (hx : ev x = .slice (some ⟨g, 0, none⟩) 0 0) (hy : ev y = .slice a 0 c) : (execOp ev o).run Tryz.prog w = .ok (.value (.slice (some ⟨g, 0, none⟩) 0 0)) w := by
  simp only [execOp, h]
  cases a with
  | none => go_simp
  | some ad => go_simp
theorem ex_play (x y : Operand) (t1 t2 : TypeId) (h : o.op = .call { callee := .value (.func 8), args := #[x, y], argTypes := #[t1, t2] }) (hf : ev (.func 8) = .func (.func 8) #[] #[]) : (execOp ev o).run Tryz.prog w = .ok (.enter 8 #[ev x, ev y]) w := by
  simp only [execOp, h]
  go_simp

end Go.Proofs.YtkjlchfmplcobagGreatDoor

/- Regions that draw their order, by what holds whatever has been carried out so far. -/
namespace Go.Proofs.YtkjlchfmplcobagGreatDoor
open Go.RowKit

theorem countF_set : ∀ (l : List Bool) (i : Nat), l[i]? = some false → (l.set i true).countP (fun b => !b) + 1 = l.countP (fun b => !b)
  | [], i, h => by simp at h
  | b :: l, 0, h => by simp at h; subst h; simp
  | b :: l, i + 1, h => by
    simp only [List.getElem?_cons_succ] at h
    have := countF_set l i h
    simp only [List.set_cons_succ, List.countP_cons]
    omega
theorem countF_pos : ∀ (l : List Bool) (i : Nat), l[i]? = some false → 0 < l.countP (fun b => !b) := fun l i h => by have := countF_set l i h; omega
theorem ready_inv {md : Region.Mode} {ops : Array Oper} {listed : Array Bool} {i : Nat} (h : i ∈ Region.ready md ops listed) : i < ops.size ∧ listed[i]? = some false ∧ ∀ o, ops[i]? = some o → ∀ e ∈ o.after, Region.binds md e = true → listed.getD e.on false = true := by
  unfold Region.ready at h
  rw [List.mem_filter] at h
  obtain ⟨h1, h2⟩ := h
  rw [Bool.and_eq_true] at h2
  obtain ⟨h2, h3⟩ := h2
  refine ⟨List.mem_range.1 h1, ?_, fun o ho e he hb => ?_⟩
  · cases hq : listed[i]? with
    | none => simp [Array.getD_eq_getD_getElem?, hq] at h2
    | some b => simp [Array.getD_eq_getD_getElem?, hq] at h2; rw [h2]
  · rw [ho] at h3
    simp only [Option.map_some, Option.getD_some, Array.all_eq_true_iff_forall_mem] at h3
    have := h3 e he
    rw [hb] at this
    simpa using this
/-- Whatever order is picked. -/
theorem wpAny_inv {P : Program} {md : Region.Mode} {ops : Array Oper} {Q : Exit → Act → World → Prop} (I : Array Bool → Act → World → Prop)
    (hs : ∀ listed a w i, I listed a w → i ∈ Region.ready md ops listed → wpOp P ops Q i (I (listed.setIfInBounds i true)) a w)
    (he : ∀ listed a w, I listed a w → Region.ready md ops listed = [] → Q .normal a w) : ∀ (fuel : Nat) (listed : Array Bool) (a : Act) (w : World), I listed a w → listed.toList.countP (fun b => !b) ≤ fuel → wpAny P md ops Q fuel listed a w
  | 0, listed, a, w, hI, hc => by
    have hr : Region.ready md ops listed = [] := by
      cases h : Region.ready md ops listed with
      | nil => rfl
      | cons i r =>
        obtain ⟨-, h2, -⟩ := ready_inv (md := md) (ops := ops) (listed := listed) (i := i) (by rw [h]; simp)
        have := countF_pos listed.toList i (by simpa using h2)
        omega
    exact ⟨hr, he _ _ _ hI hr⟩
  | fuel + 1, listed, a, w, hI, hc => ⟨fun hr => he _ _ _ hI hr, fun i hi => wpOp_mono (fun a' w' h' => wpAny_inv I hs he fuel _ a' w' h' (by
      obtain ⟨h1, h2, -⟩ := ready_inv hi
      have := countF_set listed.toList i (by simpa using h2)
      rw [Array.toList_setIfInBounds]
      omega)) (hs _ _ _ i hI hi)⟩
theorem wpOp_of {P : Program} {ops : Array Oper} {Q : Exit → Act → World → Prop} {i : Nat} {o : Oper} {K : Act → World → Prop} {a : Act} {w : World} (ho : ops[i]? = some o) (hg : o.guard = none) (h : o.wp P a w K Q) : wpOp P ops Q i K a w := by
  unfold wpOp
  rw [ho]
  simp only [Region.wanted, hg]
  exact .inl h
/-- Nothing is ready: all has been carried out, if each operation waits for earlier ones alone. -/
theorem all_listed {ops : Array Oper} {listed : Array Bool} (hsz : listed.size = ops.size) (hlow : ∀ i o, ops[i]? = some o → ∀ e ∈ o.after, Region.binds .any e = true → e.on < i) (hr : Region.ready .any ops listed = []) : ∀ i, i < ops.size → listed.getD i false = true := by
  intro i
  induction i using Nat.strongRecOn with
  | ind i ih =>
    intro hi
    cases hq : listed[i]? with
    | none => rw [Array.getElem?_eq_none_iff] at hq; omega
    | some b =>
      cases b with
      | true => simp [Array.getD_eq_getD_getElem?, hq]
      | false =>
        exfalso
        have : i ∈ Region.ready .any ops listed := by
          unfold Region.ready
          rw [List.mem_filter]
          refine ⟨List.mem_range.2 hi, ?_⟩
          have ho : ops[i]? = some ops[i] := Array.getElem?_eq_getElem hi
          rw [ho]
          simp only [Array.getD_eq_getD_getElem?, hq, Option.getD_some, Bool.not_false, Bool.true_and, Option.map_some, Array.all_eq_true_iff_forall_mem]
          intro e he
          cases hb : Region.binds .any e with
          | false => rfl
          | true =>
            have h1 := hlow i _ ho e he hb
            have := ih e.on h1 (by omega)
            rw [Array.getD_eq_getD_getElem?] at this
            simp [this]
        rw [hr] at this
        cases this
theorem flag_set {listed : Array Bool} {i j : Nat} (hi : i < listed.size) : (listed.setIfInBounds i true).getD j false = (j == i || listed.getD j false) := by
  simp only [Array.getD_eq_getD_getElem?, Array.getElem?_setIfInBounds]
  by_cases h : i = j
  · subst h
    simp [hi]
  · rw [if_neg h]
    have : (j == i) = false := by simpa using fun e => h e.symm
    rw [this, Bool.false_or]

end Go.Proofs.YtkjlchfmplcobagGreatDoor
