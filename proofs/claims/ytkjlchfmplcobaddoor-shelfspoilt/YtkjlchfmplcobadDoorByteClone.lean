/- The walk of bytes.Clone at a slice that is not nil. -/
import Derived.Test.YtkjlchfmplcobadDoorProg
import Derived.Test.YtkjlchfmplcobadDoorRunAL
import Derived.WalkKit
import Derived.WalkSpells
import Derived.WalkLawsBesides
namespace Go.Proofs.YtkjlchfmplcobadDoor
open Go.RowKit

set_option maxRecDepth 100000 in
theorem cloneB_any (d : List Int) (ad : Addr) (n c : Nat) (w : World) (hv : BytesAt w (.slice (some ad) n c) d) (hd : d.length = n) (hn : n ≤ 1000000) :
    Calls Tryd.prog 59 #[.slice (some ad) n c] w fun e w' => ∃ xa xc, e = .returned (.slice xa n xc) ∧ w'.ownsRow w.heap.size 5 1 (.slice xa n xc) n (d.map (Value.int .u8)) ∧ Below w.heap.size w w' := by
  obtain ⟨i0, hi, hz0, hz1, hz2⟩ := info_parts Tryd.info5b
  have hbb : Below w.heap.size w (w.alloc (.cells #[] 5)) := (Below.refl _ _).alloc (Nat.le_refl _) _
  have qs : ∀ (W : World) (ad : Addr) (n c : Nat), (binOp .eql 23 (.slice (some ad) n c) (.slice none 0 0)).run Tryd.prog W = .ok (.bool false) W := fun W ad n c => Lib.run_eql_slice_nil W _ _ (some ad) n c 0 0 Tryd.underlying23
  have hlit := World.ownsRow_lit (size := 1) (e := 5) (base := w.heap.size) w #[] 0 (Nat.le_refl _) (by unfold maxLen; omega) rfl
  have hvb := hv.below (Nat.le_refl _) hbb
  clear hv
  go_enter Tryd.func59, Tryd.ntmps59
  go_wp2_with (at_builtin; refine wpList_append_bytes rfl (.tmp 5) (.tmp 6) 23 rfl w.heap.size 5 i0 (.int .u8 0) Tryd.underlying23 hi hz0 hz1 hz2 rfl _ 0 [] rfl hlit (some ad) n c d rfl hvb (by unfold maxLen; omega) (by omega) (by simp) ?_; intro x w2 ho hg)
  rw [hd, Nat.zero_add, List.nil_append] at ho
  obtain ⟨xa, xc, rfl⟩ := own_form' ho
  go_ret
  exact ⟨xa, xc, rfl, ho, hbb.grown hg (by simp) (fun q h => Nat.le_of_eq (Option.some.inj h))⟩

end Go.Proofs.YtkjlchfmplcobadDoor
