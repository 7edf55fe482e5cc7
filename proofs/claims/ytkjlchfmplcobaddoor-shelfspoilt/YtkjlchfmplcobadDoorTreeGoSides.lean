/- The walks of PathSides and ProofSides: on which side of what is made each digest is put. -/
import Derived.Test.YtkjlchfmplcobadDoorProg
import Derived.Test.YtkjlchfmplcobadDoorTreeGoRoots
import Derived.Test.YtkjlchfmplcobadDoorRunAK
import Derived.WalkKit
import Derived.WalkSpells
import Derived.WalkLawsBesides
import Derived.Deep.RegionLaw
import Derived.Deep.RegionHeld3
import Derived.BigRegion
namespace Go.Proofs.YtkjlchfmplcobadDoor
open Go.RowKit

theorem Tryd.info4b : (Tryd.prog.info? 4).map (fun i => (i.zero, i.size, i.bytes)) = some (some (.bool false), 1, 1) := by kernel_rfl
/-- What was told of the parts that were visited lies in the variable bo; the place in bi. -/
def SidesI (w0 : World) (bo bi i : Nat) (g : List (Nat × Nat) → List Bool) (done : List (Nat × Nat)) (w : World) : Prop :=
  Below w0.heap.size w0 w ∧ w.heap[bi]? = some (.cells #[.int .i64 i] 3 (0, 0)) ∧ ∃ v, w.heap[bo]? = some (.cells #[v] 71 (0, 0)) ∧ w.ownsRow w0.heap.size 4 1 v (g done).length ((g done).map Value.bool)
theorem SidesI.keep {w0 : World} {bo bi i : Nat} {g : List (Nat × Nat) → List Bool} {done : List (Nat × Nat)} {w w' : World} (h : SidesI w0 bo bi i g done w) (hb : Below w.heap.size w w') : SidesI w0 bo bi i g done w' := by
  obtain ⟨h1, h2, v, h3, h4⟩ := h
  exact ⟨h1.trans (hb.mono h1.size), box_kept h2 hb, v, box_kept h3 hb, own_below h4 hb (Nat.le_refl _)⟩
theorem one_new2 (w : World) (o : Obj) (v : Value) (t : TypeId) : ∀ (j : Nat) (u : Value), [v][j]? = some u → ((w.alloc o).alloc (.cells #[v] t)).cell? ((⟨w.heap.size + 1, 0, none⟩ : Addr).add j) = some u := by
  have := cell_one_new (w.alloc o) v t
  rwa [World.size_alloc] at this
theorem sides1_end {w0 w W w6 : World} {bo bi i : Nat} {D : List Bool} {x : Bool} {va ta : Option Addr} {vc tc : Nat} {o : Obj} (hbW0 : Below w0.heap.size w0 W) (hMW : Mid w0.heap.size w W)
    (bi1 : W.heap[bi]? = some (.cells #[.int .i64 i] 3 (0, 0))) (bo1 : W.heap[bo]? = some (.cells #[.slice va D.length vc] 71 (0, 0))) (hrow1 : W.ownsRow w0.heap.size 4 1 (.slice va D.length vc) D.length (D.map Value.bool))
    (hg6 : (W.alloc o).grownBy w6 (Value.slice va D.length vc).ownBlock) (ho6 : w6.ownsRow w0.heap.size 4 1 (.slice ta (D.length + 1) tc) (D.length + 1) (D.map Value.bool ++ [.bool x])) (hne : bi ≠ bo) (hbo : w0.heap.size ≤ bo) :
    (Below w0.heap.size w0 (w6.setCell ⟨bo, 0, none⟩ (.slice ta (D.length + 1) tc)) ∧ (w6.setCell ⟨bo, 0, none⟩ (.slice ta (D.length + 1) tc)).heap[bi]? = some (.cells #[.int .i64 i] 3 (0, 0)) ∧
      ∃ v, (w6.setCell ⟨bo, 0, none⟩ (.slice ta (D.length + 1) tc)).heap[bo]? = some (.cells #[v] 71 (0, 0)) ∧ (w6.setCell ⟨bo, 0, none⟩ (.slice ta (D.length + 1) tc)).ownsRow w0.heap.size 4 1 v (D.length + 1) (D.map Value.bool ++ [.bool x])) ∧ Mid w0.heap.size w (w6.setCell ⟨bo, 0, none⟩ (.slice ta (D.length + 1) tc)) := by
  have hs0 := hbW0.size
  have hrow2 := hrow1.alloc o
  have o6 := grown_box hg6 hrow2 (box_old _ _ bo1) (by decide)
  have l6 := grown_box hg6 hrow2 (box_old _ _ bi1) (by decide)
  have bA : Below W.heap.size W (W.alloc o) := (Below.refl _ _).alloc (Nat.le_refl _) _
  have hM6 : Mid w0.heap.size w w6 := (hMW.trans (MidT.of_below bA hs0)).trans (MidT.grown hrow2 hg6 (fun t ht => by rw [ht]; decide) (by have := bA.size; omega))
  have hM7 : Mid w0.heap.size w (w6.setCell ⟨bo, 0, none⟩ (.slice ta (D.length + 1) tc)) := hM6.trans (MidT.set o6 (by decide) hbo _)
  have bA0 : Below w0.heap.size w0 (W.alloc o) := hbW0.trans (bA.mono hs0)
  have b6 : Below w0.heap.size w0 w6 := bA0.grown hg6 bA0.size (fun _ h => own_block hrow2 h)
  refine ⟨⟨b6.setCell hbo _, box_set_far l6 hne, _, box_set o6, ?_⟩, hM7⟩
  exact own_set ho6 o6 (by decide) _

set_option maxRecDepth 100000 in
set_option maxHeartbeats 2000000 in
theorem pathSides1_call {w0 : World} {bo bi i : Nat} {done : List (Nat × Nat)} (f e : Nat) (w : World) (hdn : done.length ≤ 1000) (hne : bi ≠ bo) (hbo : w0.heap.size ≤ bo)
    (h : SidesI w0 bo bi i (fun ps => pathSides ps i) done w) :
    Calls Tryd.prog 70 #[partV f e, .pointer (some ⟨bo, 0, none⟩), .pointer (some ⟨bi, 0, none⟩)] w fun r w' => r = .returned (.tuple #[]) ∧ SidesI w0 bo bi i (fun ps => pathSides ps i) (done ++ [(f, e)]) w' ∧ Mid w0.heap.size w w' := by
  obtain ⟨hb0, hl, v, ho, hrow⟩ := h
  obtain ⟨i0, hi0, hz0, hz1, hz2⟩ := info_parts Tryd.info4b
  have hsz := hb0.size
  have HM : Hid (pathSides (done ++ [(f, e)]) i = pathSides done i ++ [decide (e ≤ i)]) := by unfold pathSides; rw [List.map_append]; rfl
  have hDl : (pathSides done i).length ≤ 1000 := by unfold pathSides; rw [List.length_map]; exact hdn
  unfold SidesI
  simp only at hrow ⊢
  rw [HM.out, List.length_append, List.length_singleton, List.map_append, List.map_singleton]
  obtain ⟨x, hx⟩ : ∃ x, decide (e ≤ i) = x := ⟨_, rfl⟩
  rw [hx]
  generalize pathSides done i = D at *
  clear HM
  have bq := box_new w #[.int .i64 f, .int .i64 e] 96
  have bl1 := box_old w (.cells #[.int .i64 f, .int .i64 e] 96) hl
  have bo1 := box_old w (.cells #[.int .i64 f, .int .i64 e] 96) ho
  have hbW : Below w.heap.size w (w.alloc (.cells #[.int .i64 f, .int .i64 e] 96)) := (Below.refl _ _).alloc (Nat.le_refl _) _
  have hrow1 := hrow.alloc (.cells #[.int .i64 f, .int .i64 e] 96)
  obtain ⟨va, vc, rfl⟩ := own_form' hrow
  clear hrow hl
  have hMW : Mid w0.heap.size w (w.alloc (.cells #[.int .i64 f, .int .i64 e] 96)) := MidT.of_below hbW hsz
  have hbW0 : Below w0.heap.size w0 (w.alloc (.cells #[.int .i64 f, .int .i64 e] 96)) := hb0.trans (hbW.mono hsz)
  obtain ⟨z0, z1, -, -⟩ := box_two bq
  obtain ⟨z2, -⟩ := box_cell bl1
  obtain ⟨z3, z4⟩ := box_cell bo1
  cases x with
  | true =>
    have hq : (e : Int) ≤ (i : Int) := by have := of_decide_eq_true hx; omega
    have hone := one_new2 w (.cells #[.int .i64 f, .int .i64 e] 96) (.bool true) 4
    clear hx
    go_enter Tryd.func70, Tryd.ntmps70
    go_wp2_with (at_builtin; refine wpList_append_own _ rfl (.tmp 4) (.tmp 9) 71 rfl w0.heap.size 4 i0 (.bool false) 1 1 Tryd.underlying71 hi0 hz0 hz1 hz2 rfl (by decide) _ _ _ rfl (hrow1.alloc _) _ 1 1 [.bool true] rfl rfl hone (by intro u hu; simp at hu; subst hu; rfl) (by unfold maxLen; omega) (by omega) (by simp; omega) ?_; intro v6 w6 ho6 hg6 _; obtain ⟨ta, tc, rfl⟩ := own_form' ho6; have o6 := grown_box hg6 (hrow1.alloc _) (box_old _ _ bo1) (by decide); obtain ⟨y60, y61⟩ := box_cell o6)
    go_end0
    exact ⟨rfl, sides1_end hbW0 hMW bl1 bo1 hrow1 hg6 ho6 hne hbo⟩
  | false =>
    have hq : ¬ (e : Int) ≤ (i : Int) := by have := of_decide_eq_false hx; omega
    have hone := one_new2 w (.cells #[.int .i64 f, .int .i64 e] 96) (.bool false) 4
    clear hx
    go_enter Tryd.func70, Tryd.ntmps70
    go_wp2_with (at_builtin; refine wpList_append_own _ rfl (.tmp 4) (.tmp 9) 71 rfl w0.heap.size 4 i0 (.bool false) 1 1 Tryd.underlying71 hi0 hz0 hz1 hz2 rfl (by decide) _ _ _ rfl (hrow1.alloc _) _ 1 1 [.bool false] rfl rfl hone (by intro u hu; simp at hu; subst hu; rfl) (by unfold maxLen; omega) (by omega) (by simp; omega) ?_; intro v6 w6 ho6 hg6 _; obtain ⟨ta, tc, rfl⟩ := own_form' ho6; have o6 := grown_box hg6 (hrow1.alloc _) (box_old _ _ bo1) (by decide); obtain ⟨y60, y61⟩ := box_cell o6)
    go_end0
    exact ⟨rfl, sides1_end hbW0 hMW bl1 bo1 hrow1 hg6 ho6 hne hbo⟩

theorem pathSides1_visits {w0 : World} {bo bi i : Nat} {ps : List (Nat × Nat)} (hpl : ps.length ≤ 1000) (hne : bi ≠ bo) (hbo : w0.heap.size ≤ bo) :
    Visits w0.heap.size 70 #[.pointer (some ⟨bo, 0, none⟩), .pointer (some ⟨bi, 0, none⟩)] ps (SidesI w0 bo bi i (fun ps => pathSides ps i)) := by
  refine ⟨fun _ _ => by simp [go_sem], fun done w w' h hb => h.keep hb, fun done f e w hp h hB => ?_⟩
  have hd : done.length ≤ 1000 := by have := hp.length_le; simp at this; omega
  exact pathSides1_call f e w hd hne hbo h
set_option maxRecDepth 100000 in
set_option maxHeartbeats 1000000 in
theorem pathSides_any (n i : Nat) (w : World) (hn : n ≤ 100) (hi : i < n) :
    Calls Tryd.prog 42 #[.int .i64 n, .int .i64 i] w fun r w' => ∃ v, r = .returned v ∧ w'.ownsRow w.heap.size 4 1 v (pathSides (pathP 0 n i) i).length ((pathSides (pathP 0 n i) i).map Value.bool) ∧ Below w.heap.size w w' := by
  have hpo : ∀ w', _ := fun w' => pathOf_any n i w' hn (by omega)
  have hfew := pathP_few n 0 n i (by omega)
  have i1 : ¬ (i : Int) < 0 := by omega
  have i2 : ¬ (n : Int) ≤ (i : Int) := by omega
  have V := pathSides1_visits (w0 := w) (bo := w.heap.size + 1) (bi := w.heap.size) (i := i) (ps := pathP 0 n i) (by omega) (by omega) (by omega)
  have hb : Below w.heap.size w ((w.alloc (.cells #[.int .i64 i] 3)).alloc (.cells #[.slice none 0 0] 71)) := ((Below.refl _ _).alloc (Nat.le_refl _) _).alloc (by simp) _
  have hI : SidesI w (w.heap.size + 1) w.heap.size i (fun ps => pathSides ps i) [] ((w.alloc (.cells #[.int .i64 i] 3)).alloc (.cells #[.slice none 0 0] 71)) :=
    ⟨hb, box_one _ _ _ _, _, box_last _ _ _ _, World.ownsRow_nil _ _ _ _⟩
  go_enter Tryd.func42, Tryd.ntmps42
  go_wp2_with fail
  refine (hpo _).mono ?_
  rintro e w1 ⟨kw, cw, rfl, hk, hb1⟩
  have hC := hk.call _ _ _ _ w1 V (Below.refl _ _) (Nat.le_trans hb.size hb1.size) (hI.keep hb1)
  have eg := hk.enters
  clear hI V hpo hk
  go_wp2_with fail
  refine hC.mono ?_
  rintro r w2 ⟨rfl, ⟨h1, h2, v, h3, h4⟩, hM⟩
  have y := (box_cell h3).1
  obtain ⟨va, vc, rfl⟩ := own_form' h4
  clear hC hM h2 h3 eg
  go_wp2_with fail
  go_ret
  exact ⟨_, rfl, h4, h1⟩
end Go.Proofs.YtkjlchfmplcobadDoor
