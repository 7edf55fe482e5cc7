/- Boxes of records; the walks of yearref5.SameRecord and yearref5.WrongRecord. -/
import Derived.Test.YtkjlchfmplcobaeDoorProg
import Derived.Test.YtkjlchfmplcobaeDoorBookFace
import Derived.Test.YtkjlchfmplcobaeDoorHeadSame
import Derived.WalkKit
import Derived.WalkSpells
import Derived.WalkLawsBesides
namespace Go.Proofs.YtkjlchfmplcobaeDoor
open Go.RowKit

/-- What a variable of five cells holds. -/
theorem box_five {w : World} {k : Nat} {a b c d e : Value} {t : TypeId} (h : w.heap[k]? = some (.cells #[a, b, c, d, e] t (0, 0))) :
    w.cell? ⟨k, 0, none⟩ = some a ∧ w.cell? ⟨k, 1, none⟩ = some b ∧ w.cell? ⟨k, 2, none⟩ = some c ∧ w.cell? ⟨k, 3, none⟩ = some d ∧ w.cell? ⟨k, 4, none⟩ = some e :=
  ⟨cell_of_row w k 0 _ t _ h, cell_of_row w k 1 _ t _ h, cell_of_row w k 2 _ t _ h, cell_of_row w k 3 _ t _ h, cell_of_row w k 4 _ t _ h⟩
set_option maxRecDepth 100000 in
set_option maxHeartbeats 2000000 in
theorem sameRec_yes (r : Rec) (v1 v2 : Value) (w : World) (h1 : RecV w v1 r) (h2 : RecV w v2 r) :
    Calls Tryd.prog 17 #[v1, v2] w fun e w' => e = .returned (.bool true) ∧ Below w.heap.size w w' := by
  obtain ⟨ra, rc, rfl, hr⟩ := h1
  obtain ⟨ta, tc, rfl, ht⟩ := h2
  obtain ⟨s, f, t, z, root⟩ := r
  dsimp only at hr ht ⊢
  have b0 : Below w.heap.size w ((w.alloc (.cells #[.int .i64 s, .int .i64 f, .int .i64 t, .int .i64 z, .slice ra root.length rc] 40)).alloc (.cells #[.int .i64 s, .int .i64 f, .int .i64 t, .int .i64 z, .slice ta root.length tc] 40)) := ((Below.refl _ _).alloc (Nat.le_refl _) _).alloc (by simp) _
  obtain ⟨x0, x1, x2, x3, x4⟩ := box_five (box_one w #[.int .i64 s, .int .i64 f, .int .i64 t, .int .i64 z, .slice ra root.length rc] 40 (.cells #[.int .i64 s, .int .i64 f, .int .i64 t, .int .i64 z, .slice ta root.length tc] 40))
  obtain ⟨y0, y1, y2, y3, y4⟩ := box_five (box_last w (.cells #[.int .i64 s, .int .i64 f, .int .i64 t, .int .i64 z, .slice ra root.length rc] 40) #[.int .i64 s, .int .i64 f, .int .i64 t, .int .i64 z, .slice ta root.length tc] 40)
  have sE := sameHead_yes z root _ _ _ (hr.below b0) (ht.below b0)
  have q1 : (s == s) = true := by simp
  have q2 : (f == f) = true := by simp
  have q3 : (t == t) = true := by simp
  clear hr ht
  generalize root.length = n at *
  go_enter Tryd.func17, Tryd.ntmps17
  go_wp2_with fail
  refine sE.mono ?_
  rintro e w3 ⟨rfl, hb3⟩
  go_wp2_with fail
  go_ret
  exact ⟨rfl, b0.trans (hb3.mono b0.size)⟩
end Go.Proofs.YtkjlchfmplcobaeDoor
