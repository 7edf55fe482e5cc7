/- The walk of yearref5.SameHead. -/
import Derived.Test.YtkjlchfmplcobaeDoorProg
import Derived.Test.YtkjlchfmplcobaeDoorByteMem
import Derived.Test.YtkjlchfmplcobaeDoorTreeGoBox
import Derived.Test.YtkjlchfmplcobaeDoorShaSame
import Derived.WalkKit
import Derived.WalkSpells
import Derived.WalkLawsBesides
namespace Go.Proofs.YtkjlchfmplcobaeDoor
open Go.RowKit

set_option maxRecDepth 100000 in
theorem sameHead_yes (s : Int) (r : List Int) (v1 v2 : Value) (w : World) (h1 : Some' w v1 r) (h2 : Some' w v2 r) :
    Calls Tryd.prog 22 #[.agg #[.int .i64 s, v1], .agg #[.int .i64 s, v2]] w fun e w' => e = .returned (.bool true) ∧ Below w.heap.size w w' := by
  have b0 : Below w.heap.size w ((w.alloc (.cells #[.int .i64 s, v1] 24)).alloc (.cells #[.int .i64 s, v2] 24)) := ((Below.refl _ _).alloc (Nat.le_refl _) _).alloc (by simp) _
  obtain ⟨x0, x1, -, -⟩ := box_two (box_one w #[.int .i64 s, v1] 24 (.cells #[.int .i64 s, v2] 24))
  obtain ⟨y0, y1, -, -⟩ := box_two (box_last w (.cells #[.int .i64 s, v1] 24) #[.int .i64 s, v2] 24)
  have sE := same_any r r v1 v2 _ (h1.below b0).at' (h2.below b0).at' h1.short
  rw [decide_eq_true rfl] at sE
  have hs : (s == s) = true := by simp
  go_enter Tryd.func22, Tryd.ntmps22
  go_wp2_with fail
  refine sE.mono ?_
  rintro e w3 ⟨rfl, q, rfl⟩
  go_wp2_with fail
  go_ret
  exact ⟨rfl, below_drewN' b0 _⟩

end Go.Proofs.YtkjlchfmplcobaeDoor
