/- The walks of pathOf and proofOf: function values that go to the parts of a path, or of a proof. -/
import Derived.Test.YtkjlchfmplcobaaDoorProg
import Derived.Test.YtkjlchfmplcobaaDoorTreeGoWalk
import Derived.WalkKit
import Derived.WalkSpells
import Derived.WalkLawsBesides
namespace Go.Proofs.YtkjlchfmplcobaaDoor
open Go.RowKit

/-- The function value kw with what it captured goes to the parts of ps, whatever it is handed to visit them. -/
structure Walker (w0 : World) (kw : Nat) (cw : Array Value) (ps : List (Nat × Nat)) : Prop where
  enters : ∀ args w, (callFunc kw args).run Tryd.prog w = .ok (.enter kw args) w
  call : ∀ (B k : Nat) (cap : Array Value) (I : List (Nat × Nat) → World → Prop) (w : World), Visits B k cap ps I → Below w0.heap.size w0 w → B ≤ w.heap.size → I [] w →
    Calls Tryd.prog kw (#[.func (.func k) #[] cap] ++ cw) w fun r w' => r = .returned (.tuple #[]) ∧ I ps w' ∧ Mid B w w'
theorem Walker.below {w0 w1 : World} {kw : Nat} {cw : Array Value} {ps : List (Nat × Nat)} (h : Walker w0 kw cw ps) (hb : Below w0.heap.size w0 w1) : Walker w1 kw cw ps :=
  ⟨h.enters, fun B k cap I w V hb2 => h.call B k cap I w V (hb.trans (hb2.mono hb.size))⟩

set_option maxRecDepth 100000 in
set_option maxHeartbeats 1000000 in
theorem pathOf1_any (size i b1 b2 : Nat) (w0 : World) (h1 : b1 < w0.heap.size) (h2 : b2 < w0.heap.size) (c1 : w0.cell? ⟨b1, 0, none⟩ = some (.int .i64 size)) (c2 : w0.cell? ⟨b2, 0, none⟩ = some (.int .i64 i)) (hs : size ≤ 100) (hi : i ≤ 100) :
    Walker w0 70 #[.pointer (some ⟨b1, 0, none⟩), .pointer (some ⟨b2, 0, none⟩)] (pathP 0 size i) := by
  refine ⟨fun _ _ => by simp [go_sem], fun B k cap I w V hb hB hI => ?_⟩
  have d1 := (hb.cell (p := ⟨b1, 0, none⟩) h1).trans c1
  have d2 := (hb.cell (p := ⟨b2, 0, none⟩) h2).trans c2
  have hW := walkPath_any V (size - 0) 0 size i [] w rfl (by omega) hs hi (by simp) hI hB
  rw [List.nil_append] at hW
  clear c1 c2
  go_enter Tryd.func70, Tryd.ntmps70
  go_wp2_with fail
  refine hW.mono ?_
  rintro r w1 ⟨rfl, hI1, hM⟩
  go_wp2_with fail
  go_end0
  exact ⟨rfl, hI1, hM⟩
set_option maxRecDepth 100000 in
set_option maxHeartbeats 1000000 in
theorem proofOf1_any (size m b1 b2 : Nat) (w0 : World) (h1 : b1 < w0.heap.size) (h2 : b2 < w0.heap.size) (c1 : w0.cell? ⟨b1, 0, none⟩ = some (.int .i64 size)) (c2 : w0.cell? ⟨b2, 0, none⟩ = some (.int .i64 m)) (hs : size ≤ 100) (h0 : 0 < m) (hm : m ≤ size) :
    Walker w0 72 #[.pointer (some ⟨b1, 0, none⟩), .pointer (some ⟨b2, 0, none⟩)] (proofP 0 size m true) := by
  refine ⟨fun _ _ => by simp [go_sem], fun B k cap I w V hb hB hI => ?_⟩
  have d1 := (hb.cell (p := ⟨b1, 0, none⟩) h1).trans c1
  have d2 := (hb.cell (p := ⟨b2, 0, none⟩) h2).trans c2
  have hW := walkProof_any V (size - 0) 0 size m true [] w rfl h0 hm hs (by simp) hI hB
  rw [List.nil_append] at hW
  clear c1 c2
  go_enter Tryd.func72, Tryd.ntmps72
  go_wp2_with fail
  refine hW.mono ?_
  rintro r w1 ⟨rfl, hI1, hM⟩
  go_wp2_with fail
  go_end0
  exact ⟨rfl, hI1, hM⟩
set_option maxRecDepth 100000 in
theorem pathOf_any (size i : Nat) (w : World) (hs : size ≤ 100) (hi : i ≤ 100) :
    Calls Tryd.prog 49 #[.int .i64 size, .int .i64 i] w fun r w' => ∃ kw cw, r = .returned (.func (.func kw) #[] cw) ∧ Walker w' kw cw (pathP 0 size i) ∧ Below w.heap.size w w' := by
  have hW := pathOf1_any size i w.heap.size (w.heap.size + 1) ((w.alloc (.cells #[.int .i64 size] 3)).alloc (.cells #[.int .i64 i] 3)) (by simp; omega) (by simp) (by simp) (by simp) hs hi
  go_enter Tryd.func49, Tryd.ntmps49
  go_wp2_with fail
  go_ret
  exact ⟨_, _, rfl, hW, ((Below.refl _ _).alloc (Nat.le_refl _) _).alloc (by simp) _⟩
set_option maxRecDepth 100000 in
theorem proofOf_any (size m : Nat) (w : World) (hs : size ≤ 100) (h0 : 0 < m) (hm : m ≤ size) :
    Calls Tryd.prog 50 #[.int .i64 size, .int .i64 m] w fun r w' => ∃ kw cw, r = .returned (.func (.func kw) #[] cw) ∧ Walker w' kw cw (proofP 0 size m true) ∧ Below w.heap.size w w' := by
  have hW := proofOf1_any size m w.heap.size (w.heap.size + 1) ((w.alloc (.cells #[.int .i64 size] 3)).alloc (.cells #[.int .i64 m] 3)) (by simp; omega) (by simp) (by simp) (by simp) hs h0 hm
  go_enter Tryd.func50, Tryd.ntmps50
  go_wp2_with fail
  go_ret
  exact ⟨_, _, rfl, hW, ((Below.refl _ _).alloc (Nat.le_refl _) _).alloc (by simp) _⟩

end Go.Proofs.YtkjlchfmplcobaaDoor
