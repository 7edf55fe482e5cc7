/- TreeFaceLeaf, TreeGoSmall, ShelfMem, as one text. -/
import Derived.Test.YtkjlchfmplcobadDoorProg
import Derived.Test.YtkjlchfmplcobadDoorRunAC
import Derived.Test.YtkjlchfmplcobadDoorRunAG
import Derived.WalkKit
import Derived.WalkSpells
import Derived.WalkLawsBesides
import Derived.Test.YtkjlchfmplcobadDoorRunAB
import Derived.Test.YtkjlchfmplcobadDoorRunAD
/- What TreeTells asks of tree.Leaf and tree.Node. -/
namespace Go.Proofs.YtkjlchfmplcobadDoor
open Go.RowKit

def LeafC : Prop := ∀ (b : List Int) (v : Value) (w : World), Ready w → Some' w v b → b.length ≤ 70368744177664 →
  Calls Tryd.prog 60 #[v] w fun e w' => ∃ x, e = .returned x ∧ w'.ownsRow w.heap.size 5 1 x 32 ((leafL b).map (Value.int .u8)) ∧ Below w.heap.size w w'
def NodeC : Prop := ∀ (b1 b2 : List Int) (v1 v2 : Value) (w : World), Ready w → Some' w v1 b1 → Some' w v2 b2 → b1.length + b2.length ≤ 70368744177664 →
  Calls Tryd.prog 62 #[v1, v2] w fun e w' => ∃ x, e = .returned x ∧ w'.ownsRow w.heap.size 5 1 x 32 ((nodeL b1 b2).map (Value.int .u8)) ∧ Below w.heap.size w w'

end Go.Proofs.YtkjlchfmplcobadDoor

/- The walks of package tree's small functions: Leaf, Node, isDigest, areDigests. -/
namespace Go.Proofs.YtkjlchfmplcobadDoor
open Go.RowKit

theorem bytesAt_new (w : World) (z : Int) (t : TypeId) : BytesAt (w.alloc (.cells #[.int .u8 z] t)) (.slice (some ⟨w.heap.size, 0, none⟩) 1 1) [z] := by
  refine .inr ⟨_, 0, 1, rfl, by simp, fun j hj => ?_⟩
  obtain rfl : j = 0 := by simp at hj; omega
  rw [Nat.add_zero, new_cell w t #[.int .u8 z] 0 (by simp)]; rfl
theorem parts_two {w : World} {v : Value} {b : List Int} (h : BytesAt w v b) (z : Int) (t s : TypeId) :
    PartsAt ((w.alloc (.cells #[.int .u8 z] t)).alloc (.cells #[.slice (some ⟨w.heap.size, 0, none⟩) 1 1, v] s)) (.slice (some ⟨w.heap.size + 1, 0, none⟩) 2 2) [[z], b] := by
  obtain ⟨a, c, rfl⟩ := h.form
  refine .inr ⟨_, 0, 2, rfl, by simp, fun j hj => ?_⟩
  have hb0 : Below w.heap.size w ((w.alloc (.cells #[.int .u8 z] t)).alloc (.cells #[.slice (some ⟨w.heap.size, 0, none⟩) 1 1, .slice a b.length c] s)) := ((Below.refl _ _).alloc (Nat.le_refl _) _).alloc (by simp) _
  have hb1 : Below (w.alloc (.cells #[.int .u8 z] t)).heap.size (w.alloc (.cells #[.int .u8 z] t)) ((w.alloc (.cells #[.int .u8 z] t)).alloc (.cells #[.slice (some ⟨w.heap.size, 0, none⟩) 1 1, .slice a b.length c] s)) := (Below.refl _ _).alloc (Nat.le_refl _) _
  have hj' : j = 0 ∨ j = 1 := by simp at hj; omega
  rcases hj' with rfl | rfl
  · exact ⟨_, _, _, by simp, (bytesAt_new w z t).below (Nat.le_refl _) hb1⟩
  · exact ⟨_, _, _, by simp, h.below (Nat.le_refl _) hb0⟩
theorem parts_three {w : World} {v u : Value} {b d : List Int} (h : BytesAt w v b) (h2 : BytesAt w u d) (z : Int) (t s : TypeId) :
    PartsAt ((w.alloc (.cells #[.int .u8 z] t)).alloc (.cells #[.slice (some ⟨w.heap.size, 0, none⟩) 1 1, v, u] s)) (.slice (some ⟨w.heap.size + 1, 0, none⟩) 3 3) [[z], b, d] := by
  obtain ⟨a, c, rfl⟩ := h.form
  obtain ⟨a2, c2, rfl⟩ := h2.form
  refine .inr ⟨_, 0, 3, rfl, by simp, fun j hj => ?_⟩
  have hb0 : Below w.heap.size w ((w.alloc (.cells #[.int .u8 z] t)).alloc (.cells #[.slice (some ⟨w.heap.size, 0, none⟩) 1 1, .slice a b.length c, .slice a2 d.length c2] s)) := ((Below.refl _ _).alloc (Nat.le_refl _) _).alloc (by simp) _
  have hb1 : Below (w.alloc (.cells #[.int .u8 z] t)).heap.size (w.alloc (.cells #[.int .u8 z] t)) ((w.alloc (.cells #[.int .u8 z] t)).alloc (.cells #[.slice (some ⟨w.heap.size, 0, none⟩) 1 1, .slice a b.length c, .slice a2 d.length c2] s)) := (Below.refl _ _).alloc (Nat.le_refl _) _
  have hj' : j = 0 ∨ j = 1 ∨ j = 2 := by simp at hj; omega
  rcases hj' with rfl | rfl | rfl
  · exact ⟨_, _, _, by simp, (bytesAt_new w z t).below (Nat.le_refl _) hb1⟩
  · exact ⟨_, _, _, by simp, h.below (Nat.le_refl _) hb0⟩
  · exact ⟨_, _, _, by simp, h2.below (Nat.le_refl _) hb0⟩
theorem two_bytes {z : Int} {b : List Int} (h0 : 0 ≤ z) (h1 : z < 256) (h : Bytes b) : ∀ j, Bytes (([[z], b] : List (List Int)).getD j []) := fun j => by
  match j with
  | 0 => exact bytes_cons h0 h1 nil_bytes
  | 1 => exact h
  | j + 2 => exact nil_bytes
theorem three_bytes {z : Int} {b d : List Int} (h0 : 0 ≤ z) (h1 : z < 256) (h : Bytes b) (h2 : Bytes d) : ∀ j, Bytes (([[z], b, d] : List (List Int)).getD j []) := fun j => by
  match j with
  | 0 => exact bytes_cons h0 h1 nil_bytes
  | 1 => exact h
  | 2 => exact h2
  | j + 3 => exact nil_bytes

set_option maxRecDepth 100000 in
set_option maxHeartbeats 1000000 in
theorem leafC_holds : LeafC := by
  intro b v w hr hv hm
  have hp := parts_two hv.at' 0 5 23
  have hb : Below w.heap.size w ((w.alloc (.cells #[.int .u8 0] 5)).alloc (.cells #[.slice (some ⟨w.heap.size, 0, none⟩) 1 1, v] 23)) := ((Below.refl _ _).alloc (Nat.le_refl _) _).alloc (by simp) _
  have hK := tab_below hr.tab hb hr.big
  have h0 := Nat.lt_of_lt_of_le hr.big hb.size
  have hc := parts_any [[0], b] _ _ hp (by unfold maxLen; simp) (by simp; omega) (two_bytes (by decide) (by decide) hv.bytes) hK h0
  obtain ⟨a, c, e⟩ := hv.at'.form
  subst e
  go_enter Tryd.func60, Tryd.ntmps60
  go_wp2_with fail
  refine hc.mono ?_
  rintro e w1 ⟨g, rfl, ho, hb1⟩
  have hs := hb.size
  go_wp2_with fail
  go_ret
  refine ⟨_, rfl, ?_, hb.trans (hb1.mono hs)⟩
  have := ownsRow_base ho hs
  rwa [show ([[0], b] : List (List Int)).flatten = 0 :: b by simp] at this
set_option maxRecDepth 100000 in
set_option maxHeartbeats 1000000 in
theorem nodeC_holds : NodeC := by
  intro b1 b2 v1 v2 w hr hv1 hv2 hm
  have hp := parts_three hv1.at' hv2.at' 1 5 23
  have hb : Below w.heap.size w ((w.alloc (.cells #[.int .u8 1] 5)).alloc (.cells #[.slice (some ⟨w.heap.size, 0, none⟩) 1 1, v1, v2] 23)) := ((Below.refl _ _).alloc (Nat.le_refl _) _).alloc (by simp) _
  have hK := tab_below hr.tab hb hr.big
  have h0 := Nat.lt_of_lt_of_le hr.big hb.size
  have hc := parts_any [[1], b1, b2] _ _ hp (by unfold maxLen; simp) (by simp; omega) (three_bytes (by decide) (by decide) hv1.bytes hv2.bytes) hK h0
  obtain ⟨a, c, e⟩ := hv1.at'.form
  subst e
  obtain ⟨a2, c2, e⟩ := hv2.at'.form
  subst e
  go_enter Tryd.func62, Tryd.ntmps62
  go_wp2_with fail
  refine hc.mono ?_
  rintro e w1 ⟨g, rfl, ho, hb1⟩
  have hs := hb.size
  go_wp2_with fail
  go_ret
  refine ⟨_, rfl, ?_, hb.trans (hb1.mono hs)⟩
  have := ownsRow_base ho hs
  rwa [show ([[1], b1, b2] : List (List Int)).flatten = 1 :: (b1 ++ b2) by simp] at this

end Go.Proofs.YtkjlchfmplcobadDoor

/- Variables that are set, and lists that lie elsewhere. -/
namespace Go.Proofs.YtkjlchfmplcobadDoor
open Go.RowKit

/-- Setting a variable that is no row of bytes, nor of slices of them. -/
theorem Laid.set {w : World} {a : Option Addr} {n c k o : Nat} {L : List (List Int)} {cs : Array Value} {t : TypeId} {mk : Nat × Nat} (h : Laid w a n c L) (hk : w.heap[k]? = some (.cells cs t mk)) (h1 : 5 ≠ t) (h2 : n ≠ 0 → ∀ g off, a = some ⟨g, off, none⟩ → g ≠ k) (u : Value) : Laid (w.setCell ⟨k, o, none⟩ u) a n c L := by
  obtain ⟨hl, vs, he, hc⟩ := h
  have hB : ∀ y d, ByteEl w y d → ByteEl (w.setCell ⟨k, o, none⟩ u) y d := fun y d hy => hy.same (fun g cur mk' hg => by
    rw [heap_setCell_other w ⟨k, o, none⟩ g u (fun e => ?_)]
    have e : g = k := e
    subst e
    rw [hg] at hk
    cases hk
    exact h1 rfl)
  have he' : Els (w.setCell ⟨k, o, none⟩ u) vs L := ⟨he.1, fun j hj => by obtain ⟨y, q1, q2⟩ := he.2 j hj; exact ⟨y, q1, hB _ _ q2⟩⟩
  have hcell : n ≠ 0 → ∀ b off, a = some ⟨b, off, none⟩ → ∀ j, (w.setCell ⟨k, o, none⟩ u).cell? ⟨b, off + j, none⟩ = w.cell? ⟨b, off + j, none⟩ := fun hn b off ha j => World.cell?_setCell_far _ _ _ _ (show k ≠ b from fun e => h2 hn b off ha e.symm)
  refine ⟨⟨hl.len, ?_, hl.room, hl.cap, hl.nil, hl.bytes, hl.short⟩, vs, he', fun ad ha j v hv => ?_⟩
  · rcases hl.at' with h | ⟨b, off, cp, e, hb, hp⟩
    · exact .inl h
    · cases e
      refine .inr ⟨b, off, c, rfl, by simpa using hb, fun j hj => ?_⟩
      obtain ⟨y, q1, q2⟩ := he'.2 j hj
      obtain ⟨ya, yc, rfl⟩ := q2.bytes.form
      refine ⟨ya, _, yc, ?_, q2.bytes⟩
      rw [hcell (by have := hl.len; omega) b off rfl]
      have := hc _ rfl j _ q1
      have e2 : (⟨b, off, none⟩ : Addr).add j = ⟨b, off + j, none⟩ := Addr.add_mid _ _ _
      rwa [e2] at this
  · have h3 := hc ad ha j v hv
    rcases hl.at' with ⟨rfl, -⟩ | ⟨b, off, cp, e, hb, hp⟩
    · have := (List.getElem?_eq_some_iff.1 hv).1
      rw [he.1] at this
      simp at this
    · cases e
      cases ha
      have e2 : (⟨b, off, none⟩ : Addr).add j = ⟨b, off + j, none⟩ := Addr.add_mid _ _ _
      rw [e2] at h3 ⊢
      rw [hcell (by have h4 := (List.getElem?_eq_some_iff.1 hv).1; rw [he.1, hl.len] at h4; omega) b off rfl]
      exact h3
end Go.Proofs.YtkjlchfmplcobadDoor
