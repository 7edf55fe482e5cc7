/- FleetRefSubmitMem, FleetRefRet, FleetRefFreezeMem, ShaRefPrimes, ShaRefMath, ShelfRefLay, ShelfGoRead, ShelfRefTake, as one text. -/
import Derived.Test.YtkjlchfmplcobaeGreatDoorProg
import Derived.Test.YtkjlchfmplcobaeGreatDoorRunAF
import Derived.Test.YtkjlchfmplcobaeGreatDoorDrawnInv
import Derived.WalkKit
import Derived.WalkSpells
import Derived.WalkLawsBesides
import Derived.Test.YtkjlchfmplcobaeGreatDoorRunAK
import Derived.Test.YtkjlchfmplcobaeGreatDoorShaOwn
import Derived.Test.YtkjlchfmplcobaeGreatDoorRunAC
import Derived.Test.YtkjlchfmplcobaeGreatDoorRunAJ
import Derived.Test.YtkjlchfmplcobaeGreatDoorRunAR
import Derived.Deep.QuietTactic
import Derived.BigQuiet
/- What holds, whatever has been carried out, of s.Entries = append(append([][]byte{}, s.Entries...), append([]byte{}, d.Entry...)): for the reference's Step. -/
namespace Go.Proofs.YtkjlchfmplcobaeGreatDoor
open Go.RowKit

theorem own_type {w : World} {base size n g : Nat} {e t : TypeId} {v : Value} {xs : List Value} {cs : Array Value} {fr : Nat × Nat} (h : w.ownsRow base e size v n xs) (hv : v.ownBlock = some g) (hg : w.heap[g]? = some (.cells cs t fr)) : e = t := by
  rcases h.2 with ⟨e1, -⟩ | ⟨q, cap, cur, e1, -, hq, -⟩
  · rw [e1] at hv; cases hv
  · rw [e1] at hv
    have : q = g := Option.some.inj hv
    subst this
    rw [hq] at hg
    simp only [Option.some.injEq, Obj.cells.injEq] at hg
    exact hg.2.1
/-- b: which of the seven operations that change memory have been carried out; s: what they gave. -/
structure SbM (A : World) (NE L p o : Nat) (xs es : List Value) (b1 b6 b7 b10 b11 b12 b15 : Bool) (s1 s6 s7 s10 s11 s12 : Value) (w : World) : Prop where
  bel : b15 = false → Below A.heap.size A w
  c6 : b6 = true → b1 = true
  c10 : b10 = true → b7 = true
  c11 : b11 = true → b10 = true
  c12 : b12 = true → b6 = true ∧ b11 = true
  c15 : b15 = true → b12 = true
  f1 : b1 = true → b6 = false → ∃ g, s1 = .slice (some ⟨g, 0, none⟩) 0 0 ∧ w.heap[g]? = some (.cells #[] 37 (0, 0)) ∧ A.heap.size ≤ g
  f6 : b6 = true → b12 = false → ∃ g cp, s6 = .slice (some ⟨g, 0, none⟩) NE cp ∧ w.ownsRow A.heap.size 37 1 (.slice (some ⟨g, 0, none⟩) NE cp) NE xs
  f7 : b7 = true → b10 = false → ∃ g, s7 = .slice (some ⟨g, 0, none⟩) 0 0 ∧ w.heap[g]? = some (.cells #[] 5 (0, 0)) ∧ A.heap.size ≤ g
  f10 : b10 = true → b15 = false → ∃ g cp, s10 = .slice (some ⟨g, 0, none⟩) L cp ∧ w.ownsRow A.heap.size 5 1 (.slice (some ⟨g, 0, none⟩) L cp) L es
  f11 : b11 = true → b12 = false → ∃ g, s11 = .slice (some ⟨g, 0, none⟩) 1 1 ∧ w.heap[g]? = some (.cells #[s10] 37 (0, 0)) ∧ A.heap.size ≤ g ∧ (b1 = true → b6 = false → s1.ownBlock ≠ some g) ∧ (b6 = true → s6.ownBlock ≠ some g)
  f12 : b12 = true → b15 = false → ∃ g cp, s12 = .slice (some ⟨g, 0, none⟩) (NE + 1) cp ∧ w.ownsRow A.heap.size 37 1 (.slice (some ⟨g, 0, none⟩) (NE + 1) cp) (NE + 1) (xs ++ [s10])
  f15 : b15 = true → ∃ g cp g2 cp2 w7, s12 = .slice (some ⟨g, 0, none⟩) (NE + 1) cp ∧ s10 = .slice (some ⟨g2, 0, none⟩) L cp2 ∧ w7.ownsRow A.heap.size 37 1 (.slice (some ⟨g, 0, none⟩) (NE + 1) cp) (NE + 1) (xs ++ [.slice (some ⟨g2, 0, none⟩) L cp2]) ∧ w7.ownsRow A.heap.size 5 1 (.slice (some ⟨g2, 0, none⟩) L cp2) L es ∧ Below A.heap.size A w7 ∧ w = w7.setCell ⟨p, o, none⟩ (.slice (some ⟨g, 0, none⟩) (NE + 1) cp)
theorem sb_start {A w : World} {NE L p o : Nat} {xs es : List Value} {s1 s6 s7 s10 s11 s12 : Value} (h : Below A.heap.size A w) : SbM A NE L p o xs es false false false false false false false s1 s6 s7 s10 s11 s12 w :=
  ⟨fun _ => h, fun q => (by cases q), fun q => (by cases q), fun q => (by cases q), fun q => (by cases q), fun q => (by cases q), fun q => (by cases q), fun q => (by cases q), fun q => (by cases q), fun q => (by cases q), fun q => (by cases q), fun q => (by cases q), fun q => (by cases q)⟩
variable {A w w' : World} {NE L p o : Nat} {xs es : List Value} {b1 b6 b7 b10 b11 b12 b15 : Bool} {s1 s6 s7 s10 s11 s12 : Value}
theorem SbM.no12 (h : SbM A NE L p o xs es b1 b6 b7 b10 b11 b12 b15 s1 s6 s7 s10 s11 s12 w) (q : b6 = false ∨ b11 = false) : b12 = false := by
  cases b12 with
  | false => rfl
  | true =>
    obtain ⟨h1, h2⟩ := h.c12 rfl
    rcases q with q | q
    · rw [h1] at q; cases q
    · rw [h2] at q; cases q
theorem SbM.no15 (h : SbM A NE L p o xs es b1 b6 b7 b10 b11 b12 b15 s1 s6 s7 s10 s11 s12 w) (q : b12 = false) : b15 = false := by
  cases b15 with
  | false => rfl
  | true => have := h.c15 rfl; rw [q] at this; cases this
theorem SbM.no11 (h : SbM A NE L p o xs es b1 b6 b7 b10 b11 b12 b15 s1 s6 s7 s10 s11 s12 w) (q : b10 = false) : b11 = false := by
  cases b11 with
  | false => rfl
  | true => have := h.c11 rfl; rw [q] at this; cases this
theorem SbM.no10 (h : SbM A NE L p o xs es b1 b6 b7 b10 b11 b12 b15 s1 s6 s7 s10 s11 s12 w) (q : b7 = false) : b10 = false := by
  cases b10 with
  | false => rfl
  | true => have := h.c10 rfl; rw [q] at this; cases this
theorem SbM.no6 (h : SbM A NE L p o xs es b1 b6 b7 b10 b11 b12 b15 s1 s6 s7 s10 s11 s12 w) (q : b1 = false) : b6 = false := by
  cases b6 with
  | false => rfl
  | true => have := h.c6 rfl; rw [q] at this; cases this
theorem SbM.op1 (h : SbM A NE L p o xs es false b6 b7 b10 b11 b12 b15 s1 s6 s7 s10 s11 s12 w) : SbM A NE L p o xs es true b6 b7 b10 b11 b12 b15 (.slice (some ⟨w.heap.size, 0, none⟩) 0 0) s6 s7 s10 s11 s12 (w.alloc (.cells #[] 37)) := by
  obtain rfl := h.no6 rfl
  obtain rfl := h.no12 (.inl rfl)
  obtain rfl := h.no15 rfl
  have hb := h.bel rfl
  refine ⟨fun _ => hb.alloc hb.size _, fun q => (by cases q), h.c10, h.c11, fun q => (by cases q), fun q => (by cases q), fun _ _ => ⟨_, rfl, box_new w #[] 37, hb.size⟩, fun q => (by cases q), fun q1 q2 => ?_, fun q1 q2 => ?_, fun q1 q2 => ?_, fun q => (by cases q), fun q => (by cases q)⟩
  · obtain ⟨g, e, hg, hA⟩ := h.f7 q1 q2
    exact ⟨g, e, box_old _ _ hg, hA⟩
  · obtain ⟨g, cp, e, ho⟩ := h.f10 q1 rfl
    exact ⟨g, cp, e, ho.alloc _⟩
  · obtain ⟨g, e, hg, hA, -, -⟩ := h.f11 q1 rfl
    exact ⟨g, e, box_old _ _ hg, hA, fun _ _ e2 => by have h2 : w.heap.size = g := Option.some.inj e2; have := lt_heap hg; omega, fun q => (by cases q)⟩
theorem SbM.op6 (h : SbM A NE L p o xs es b1 false b7 b10 b11 b12 b15 s1 s6 s7 s10 s11 s12 w) {B g cap : Nat} (h1 : b1 = true) (hs : s1 = .slice (some ⟨B, 0, none⟩) 0 0) (hBt : w.heap[B]? = some (.cells #[] 37 (0, 0))) (hB : A.heap.size ≤ B) (ho : w'.ownsRow A.heap.size 37 1 (.slice (some ⟨g, 0, none⟩) NE cap) NE xs) (hg : w.grownBy w' (some B)) (hl : g = B ∨ g = w.heap.size) :
    SbM A NE L p o xs es b1 true b7 b10 b11 b12 b15 s1 (.slice (some ⟨g, 0, none⟩) NE cap) s7 s10 s11 s12 w' := by
  obtain rfl := h.no12 (.inl rfl)
  obtain rfl := h.no15 rfl
  have hb := h.bel rfl
  refine ⟨fun _ => hb.grown hg hb.size (fun b q => by cases q; exact hB), fun _ => h1, h.c10, h.c11, fun q => (by cases q), fun q => (by cases q), fun _ q => (by cases q), fun _ _ => ⟨g, cap, rfl, ho⟩, fun q1 q2 => ?_, fun q1 q2 => ?_, fun q1 q2 => ?_, fun q => (by cases q), fun q => (by cases q)⟩
  · obtain ⟨g7, e, h7, hA⟩ := h.f7 q1 q2
    refine ⟨g7, e, (hg.block g7 (lt_heap h7) (fun e2 => ?_)).trans h7, hA⟩
    have h2 : g7 = B := Option.some.inj e2
    rw [h2, hBt] at h7
    simp at h7
  · obtain ⟨g7, cp, e, ho7⟩ := h.f10 q1 rfl
    refine ⟨g7, cp, e, ho7.kept hg (.inr (fun e2 => ?_))⟩
    have h2 : g7 = B := Option.some.inj e2
    have := own_type ho7 (by rw [h2]; rfl) hBt
    exact absurd this (by decide)
  · obtain ⟨g9, e, h9, hA, hn, -⟩ := h.f11 q1 rfl
    have hne : B ≠ g9 := fun e2 => hn h1 rfl (by rw [hs, e2]; rfl)
    have hlt := lt_heap h9
    refine ⟨g9, e, (hg.block g9 hlt (fun e2 => hne (Option.some.inj e2).symm)).trans h9, hA, fun _ q => (by cases q), fun _ e2 => ?_⟩
    have h2 : g = g9 := Option.some.inj e2
    rcases hl with hl | hl
    · exact hne (hl.symm.trans h2)
    · omega
theorem SbM.op7 (h : SbM A NE L p o xs es b1 b6 false b10 b11 b12 b15 s1 s6 s7 s10 s11 s12 w) : SbM A NE L p o xs es b1 b6 true b10 b11 b12 b15 s1 s6 (.slice (some ⟨w.heap.size, 0, none⟩) 0 0) s10 s11 s12 (w.alloc (.cells #[] 5)) := by
  obtain rfl := h.no10 rfl
  obtain rfl := h.no11 rfl
  obtain rfl := h.no12 (.inr rfl)
  obtain rfl := h.no15 rfl
  have hb := h.bel rfl
  refine ⟨fun _ => hb.alloc hb.size _, h.c6, fun q => (by cases q), fun q => (by cases q), fun q => (by cases q), fun q => (by cases q), fun q1 q2 => ?_, fun q1 q2 => ?_, fun _ _ => ⟨_, rfl, box_new w #[] 5, hb.size⟩, fun q => (by cases q), fun q => (by cases q), fun q => (by cases q), fun q => (by cases q)⟩
  · obtain ⟨g, e, hg, hA⟩ := h.f1 q1 q2
    exact ⟨g, e, box_old _ _ hg, hA⟩
  · obtain ⟨g, cp, e, ho⟩ := h.f6 q1 rfl
    exact ⟨g, cp, e, ho.alloc _⟩
theorem SbM.op10 (h : SbM A NE L p o xs es b1 b6 b7 false b11 b12 b15 s1 s6 s7 s10 s11 s12 w) {B g cap : Nat} (h7 : b7 = true) (hBt : w.heap[B]? = some (.cells #[] 5 (0, 0))) (hB : A.heap.size ≤ B) (ho : w'.ownsRow A.heap.size 5 1 (.slice (some ⟨g, 0, none⟩) L cap) L es) (hg : w.grownBy w' (some B)) :
    SbM A NE L p o xs es b1 b6 b7 true b11 b12 b15 s1 s6 s7 (.slice (some ⟨g, 0, none⟩) L cap) s11 s12 w' := by
  obtain rfl := h.no11 rfl
  obtain rfl := h.no12 (.inr rfl)
  obtain rfl := h.no15 rfl
  have hb := h.bel rfl
  refine ⟨fun _ => hb.grown hg hb.size (fun b q => by cases q; exact hB), h.c6, fun _ => h7, fun q => (by cases q), fun q => (by cases q), fun q => (by cases q), fun q1 q2 => ?_, fun q1 q2 => ?_, fun _ q => (by cases q), fun _ _ => ⟨g, cap, rfl, ho⟩, fun q => (by cases q), fun q => (by cases q), fun q => (by cases q)⟩
  · obtain ⟨g1, e, h1, hA⟩ := h.f1 q1 q2
    refine ⟨g1, e, (hg.block g1 (lt_heap h1) (fun e2 => ?_)).trans h1, hA⟩
    have h2 : g1 = B := Option.some.inj e2
    rw [h2, hBt] at h1
    simp at h1
  · obtain ⟨g6, cp, e, ho6⟩ := h.f6 q1 rfl
    refine ⟨g6, cp, e, ho6.kept hg (.inr (fun e2 => ?_))⟩
    have h2 : g6 = B := Option.some.inj e2
    have := own_type ho6 (by rw [h2]; rfl) hBt
    exact absurd this (by decide)
theorem SbM.op11 (h : SbM A NE L p o xs es b1 b6 b7 b10 false b12 b15 s1 s6 s7 s10 s11 s12 w) (h10 : b10 = true) : SbM A NE L p o xs es b1 b6 b7 b10 true b12 b15 s1 s6 s7 s10 (.slice (some ⟨w.heap.size, 0, none⟩) 1 1) s12 (w.alloc (.cells #[s10] 37)) := by
  obtain rfl := h.no12 (.inr rfl)
  obtain rfl := h.no15 rfl
  have hb := h.bel rfl
  refine ⟨fun _ => hb.alloc hb.size _, h.c6, h.c10, fun _ => h10, fun q => (by cases q), fun q => (by cases q), fun q1 q2 => ?_, fun q1 q2 => ?_, fun q1 q2 => ?_, fun q1 q2 => ?_, fun _ _ => ⟨_, rfl, box_new w #[s10] 37, hb.size, fun q1 q2 e2 => ?_, fun q1 e2 => ?_⟩, fun q => (by cases q), fun q => (by cases q)⟩
  · obtain ⟨g, e, hg, hA⟩ := h.f1 q1 q2
    exact ⟨g, e, box_old _ _ hg, hA⟩
  · obtain ⟨g, cp, e, ho⟩ := h.f6 q1 rfl
    exact ⟨g, cp, e, ho.alloc _⟩
  · obtain ⟨g, e, hg, hA⟩ := h.f7 q1 q2
    exact ⟨g, e, box_old _ _ hg, hA⟩
  · obtain ⟨g, cp, e, ho⟩ := h.f10 q1 rfl
    exact ⟨g, cp, e, ho.alloc _⟩
  · obtain ⟨g, e, hg, hA⟩ := h.f1 q1 q2
    rw [e] at e2
    have h2 : g = w.heap.size := Option.some.inj e2
    have := lt_heap hg
    omega
  · obtain ⟨g, cp, e, ho⟩ := h.f6 q1 rfl
    rw [e] at e2
    have h2 : g = w.heap.size := Option.some.inj e2
    have := (ho.lt g rfl).2
    omega
theorem SbM.op12 (h : SbM A NE L p o xs es b1 b6 b7 b10 b11 false b15 s1 s6 s7 s10 s11 s12 w) {B g cap cp : Nat} (h6 : b6 = true) (h11 : b11 = true) (hoB : w.ownsRow A.heap.size 37 1 (.slice (some ⟨B, 0, none⟩) NE cp) NE xs) (ho : w'.ownsRow A.heap.size 37 1 (.slice (some ⟨g, 0, none⟩) (NE + 1) cap) (NE + 1) (xs ++ [s10])) (hg : w.grownBy w' (some B)) :
    SbM A NE L p o xs es b1 b6 b7 b10 b11 true b15 s1 s6 s7 s10 s11 (.slice (some ⟨g, 0, none⟩) (NE + 1) cap) w' := by
  obtain rfl := h.no15 rfl
  have hb := h.bel rfl
  have hB := (hoB.lt B rfl).1
  refine ⟨fun _ => hb.grown hg hb.size (fun b q => by cases q; exact hB), h.c6, h.c10, h.c11, fun _ => ⟨h6, h11⟩, fun q => (by cases q), fun _ q => (by rw [h6] at q; cases q), fun _ q => (by cases q), fun _ q => (by rw [h.c11 h11] at q; cases q), fun q1 q2 => ?_, fun _ q => (by cases q), fun _ _ => ⟨g, cap, rfl, ho⟩, fun q => (by cases q)⟩
  obtain ⟨g7, cp7, e, ho7⟩ := h.f10 q1 rfl
  refine ⟨g7, cp7, e, ho7.kept hg (.inr (fun e2 => ?_))⟩
  have h2 : g7 = B := Option.some.inj e2
  subst h2
  rcases ho7.2 with ⟨q, -⟩ | ⟨x, c, cur, q, -, hx, -⟩
  · cases q
  · simp only [Value.slice.injEq, true_and, Option.some.injEq, Addr.mk.injEq, and_true] at q
    have := own_type hoB rfl (by rw [q.1]; exact hx)
    exact absurd this (by decide)
theorem SbM.op15 (h : SbM A NE L p o xs es b1 b6 b7 b10 b11 b12 false s1 s6 s7 s10 s11 s12 w) (h12 : b12 = true) : SbM A NE L p o xs es b1 b6 b7 b10 b11 b12 true s1 s6 s7 s10 s11 s12 (w.setCell ⟨p, o, none⟩ s12) := by
  obtain ⟨g, cp, e, ho⟩ := h.f12 h12 rfl
  obtain ⟨q6, q11⟩ := h.c12 h12
  have q10 := h.c11 q11
  obtain ⟨g2, cp2, e2, ho2⟩ := h.f10 q10 rfl
  exact ⟨fun q => (by cases q), h.c6, h.c10, h.c11, h.c12, fun _ => h12, fun _ q => (by rw [q6] at q; cases q), fun _ q => (by rw [h12] at q; cases q), fun _ q => (by rw [q10] at q; cases q), fun _ q => (by cases q), fun _ q => (by rw [h12] at q; cases q), fun _ q => (by cases q), fun _ => ⟨g, cp, g2, cp2, w, e, e2, by rw [← e2]; exact ho, ho2, h.bel rfl, by rw [e]⟩⟩

end Go.Proofs.YtkjlchfmplcobaeGreatDoor

/- What the reference's Step tells, off the box of its answer; and its code from a region on. -/
namespace Go.Proofs.YtkjlchfmplcobaeGreatDoor
open Go.RowKit

set_option maxRecDepth 100000 in
theorem refRet {tmps : Array Value} {W : World} {R : Nat} {a b c d e : Value} (hp : tmps.getD 4 undef = .pointer (some ⟨R, 0, none⟩)) (h : W.heap[R]? = some (.cells #[a, b, c, d, e] 41 (0, 0))) :
    (results Tryz.f18 tmps).run Tryz.prog W = .ok (.agg #[a, b, c, d, e]) W := by
  obtain ⟨s0, s1, s2, s3, s4⟩ := box_five h
  have hp' : tmps[4]?.getD undef = .pointer (some ⟨R, 0, none⟩) := by simpa using hp
  simp [results, Tryz.results18, go_sem, s0, s1, s2, s3, s4, hp']
/-- A code's rest, from a region on. -/
def fromRegion (n : Nat) : Code → Option Code
  | .region m ops d => if m = n then some (.region m ops d) else none
  | .seq a b => match a with
    | .region m ops d => if m = n then some (.seq (.region m ops d) b) else fromRegion n b
    | .block _ c => match fromRegion n c with
      | some x => some x
      | none => fromRegion n b
    | .loop c => match fromRegion n c with
      | some x => some x
      | none => fromRegion n b
    | .scope c => match fromRegion n c with
      | some x => some x
      | none => fromRegion n b
    | .cond _ x y => match fromRegion n x with
      | some z => some z
      | none => match fromRegion n y with
        | some z => some z
        | none => fromRegion n b
    | .seq x y => match fromRegion n x with
      | some z => some z
      | none => match fromRegion n y with
        | some z => some z
        | none => fromRegion n b
    | _ => fromRegion n b
  | .block _ c => fromRegion n c
  | .scope c => fromRegion n c
  | .loop c => fromRegion n c
  | .cond _ a b => match fromRegion n a with
    | some c => some c
    | none => fromRegion n b
  | _ => none
noncomputable def stepFrom (n : Nat) : Code := ((Tryz.f18.body.bind (fromRegion n)).getD .skip)
/-- A code's first part. -/
def firstOf : Code → Code
  | .seq a _ => a
  | c => c
/-- What is left of Step is right, if it is so at its end. -/
def StepEnd (Q : Exit → Act → World → Prop) (τ : Nat → Tag) (N gp R : Nat) (w : World) (RES : Flt × Ans) : Prop :=
  ∀ (tmps : Array Value) (W : World) (a b c d e : Value), tmps.getD 4 undef = .pointer (some ⟨R, 0, none⟩) → W.heap[R]? = some (.cells #[a, b, c, d, e] 41 (0, 0)) → RfWent τ N gp w W (.agg #[a, b, c, d, e]) RES → Q .ret ⟨tmps, []⟩ W
theorem stepEnd_body (τ : Nat → Tag) (N gp R : Nat) (w : World) (RES : Flt × Ans) : StepEnd (bodyPost Tryz.prog Tryz.f18 fun e w' => ∃ av, e = .returned av ∧ RfWent τ N gp w w' av RES) τ N gp R w RES := fun _ _ _ _ _ _ _ h1 h2 h3 => bodyPost_ret (refRet h1 h2) rfl ⟨_, rfl, h3⟩
theorem stepEnd_in {Q : Exit → Act → World → Prop} {K : Act → World → Prop} {b : Nat} {τ : Nat → Tag} {N gp R : Nat} {w : World} {RES : Flt × Ans} (h : StepEnd Q τ N gp R w RES) : StepEnd (Exit.inBlock b (Exit.then K Q)) τ N gp R w RES := fun t W a b c d e h1 h2 h3 => h t W a b c d e h1 h2 h3

end Go.Proofs.YtkjlchfmplcobaeGreatDoor

/- What holds, whatever has been carried out, of f.Book = append(append([]api.Record{}, f.Book...), r): for the reference's Step. -/
namespace Go.Proofs.YtkjlchfmplcobaeGreatDoor
open Go.RowKit

/-- b: which of the five operations that change memory have been carried out; s: what they gave. -/
structure FzM (A : World) (NB : Nat) (ys : List Value) (lit : Array Value) (gp : Nat) (b1 b6 b19 b20 b23 : Bool) (s1 s6 s19 s20 : Value) (w : World) : Prop where
  bel : b23 = false → Below A.heap.size A w
  c6 : b6 = true → b1 = true
  c20 : b20 = true → b6 = true ∧ b19 = true
  c23 : b23 = true → b20 = true
  f1 : b1 = true → b6 = false → ∃ g, s1 = .slice (some ⟨g, 0, none⟩) 0 0 ∧ w.heap[g]? = some (.cells #[] 45 (0, 0)) ∧ A.heap.size ≤ g
  f6 : b6 = true → b20 = false → ∃ g cp, s6 = .slice (some ⟨g, 0, none⟩) NB cp ∧ w.ownsRow A.heap.size 45 5 (.slice (some ⟨g, 0, none⟩) NB cp) NB ys
  f19 : b19 = true → b20 = false → ∃ g, s19 = .slice (some ⟨g, 0, none⟩) 1 1 ∧ w.heap[g]? = some (.cells lit 45 (0, 0)) ∧ A.heap.size ≤ g ∧ (b1 = true → b6 = false → s1.ownBlock ≠ some g) ∧ (b6 = true → s6.ownBlock ≠ some g)
  f20 : b20 = true → b23 = false → ∃ g cp, s20 = .slice (some ⟨g, 0, none⟩) (NB + 1) cp ∧ w.ownsRow A.heap.size 45 5 (.slice (some ⟨g, 0, none⟩) (NB + 1) cp) (NB + 1) (ys ++ lit.toList)
  f23 : b23 = true → ∃ g cp w7, s20 = .slice (some ⟨g, 0, none⟩) (NB + 1) cp ∧ w7.ownsRow A.heap.size 45 5 (.slice (some ⟨g, 0, none⟩) (NB + 1) cp) (NB + 1) (ys ++ lit.toList) ∧ Below A.heap.size A w7 ∧ w = w7.setCell ⟨gp, 1, none⟩ (.slice (some ⟨g, 0, none⟩) (NB + 1) cp)
theorem fz_start {A w : World} {NB gp : Nat} {ys : List Value} {lit : Array Value} {s1 s6 s19 s20 : Value} (h : Below A.heap.size A w) : FzM A NB ys lit gp false false false false false s1 s6 s19 s20 w :=
  ⟨fun _ => h, fun q => (by cases q), fun q => (by cases q), fun q => (by cases q), fun q => (by cases q), fun q => (by cases q), fun q => (by cases q), fun q => (by cases q), fun q => (by cases q)⟩
variable {A w w' : World} {NB gp : Nat} {ys : List Value} {lit : Array Value} {b1 b6 b19 b20 b23 : Bool} {s1 s6 s19 s20 : Value}
theorem FzM.no6 (h : FzM A NB ys lit gp false b6 b19 b20 b23 s1 s6 s19 s20 w) : b6 = false := by
  cases b6 with
  | false => rfl
  | true => exact absurd (h.c6 rfl) (by decide)
theorem FzM.no20 (h : FzM A NB ys lit gp b1 false b19 b20 b23 s1 s6 s19 s20 w) : b20 = false := by
  cases b20 with
  | false => rfl
  | true => exact absurd (h.c20 rfl).1 (by decide)
theorem FzM.no20' (h : FzM A NB ys lit gp b1 b6 false b20 b23 s1 s6 s19 s20 w) : b20 = false := by
  cases b20 with
  | false => rfl
  | true => exact absurd (h.c20 rfl).2 (by decide)
theorem FzM.no23 (h : FzM A NB ys lit gp b1 b6 b19 false b23 s1 s6 s19 s20 w) : b23 = false := by
  cases b23 with
  | false => rfl
  | true => exact absurd (h.c23 rfl) (by decide)
theorem FzM.op1 (h : FzM A NB ys lit gp false b6 b19 b20 b23 s1 s6 s19 s20 w) : FzM A NB ys lit gp true b6 b19 b20 b23 (.slice (some ⟨w.heap.size, 0, none⟩) 0 0) s6 s19 s20 (w.alloc (.cells #[] 45)) := by
  obtain rfl := h.no6
  obtain rfl := h.no20
  obtain rfl := h.no23
  have hb := h.bel rfl
  refine ⟨fun _ => hb.alloc hb.size _, fun q => (by cases q), fun q => (by cases q), fun q => (by cases q), fun _ _ => ⟨_, rfl, box_new w #[] 45, hb.size⟩, fun q => (by cases q), fun q _ => ?_, fun q => (by cases q), fun q => (by cases q)⟩
  obtain ⟨g, e, hg, hA, -, -⟩ := h.f19 q rfl
  exact ⟨g, e, box_old _ _ hg, hA, fun _ _ e2 => by have h2 : w.heap.size = g := Option.some.inj e2; have := lt_heap hg; omega, fun q => (by cases q)⟩
theorem FzM.op6 (h : FzM A NB ys lit gp b1 false b19 b20 b23 s1 s6 s19 s20 w) {B g cap : Nat} (h1 : b1 = true) (hs : s1 = .slice (some ⟨B, 0, none⟩) 0 0) (hB : A.heap.size ≤ B) (ho : w'.ownsRow A.heap.size 45 5 (.slice (some ⟨g, 0, none⟩) NB cap) NB ys) (hg : w.grownBy w' (some B)) (hl : g = B ∨ g = w.heap.size) :
    FzM A NB ys lit gp b1 true b19 b20 b23 s1 (.slice (some ⟨g, 0, none⟩) NB cap) s19 s20 w' := by
  obtain rfl := h.no20
  obtain rfl := h.no23
  have hb := h.bel rfl
  refine ⟨fun _ => hb.grown hg hb.size (fun b q => by cases q; exact hB), fun _ => h1, fun q => (by cases q), fun q => (by cases q), fun _ q => (by cases q), fun _ _ => ⟨g, cap, rfl, ho⟩, fun q _ => ?_, fun q => (by cases q), fun q => (by cases q)⟩
  obtain ⟨g9, e, h9, hA, hn, -⟩ := h.f19 q rfl
  have hne : B ≠ g9 := fun e2 => hn h1 rfl (by rw [hs, e2]; rfl)
  have hlt := lt_heap h9
  refine ⟨g9, e, (hg.block g9 hlt (fun e2 => hne (Option.some.inj e2).symm)).trans h9, hA, fun _ q => (by cases q), fun _ e2 => ?_⟩
  have h2 : g = g9 := Option.some.inj e2
  rcases hl with hl | hl
  · exact hne (hl.symm.trans h2)
  · omega
theorem FzM.op19 (h : FzM A NB ys lit gp b1 b6 false b20 b23 s1 s6 s19 s20 w) : FzM A NB ys lit gp b1 b6 true b20 b23 s1 s6 (.slice (some ⟨w.heap.size, 0, none⟩) 1 1) s20 (w.alloc (.cells lit 45)) := by
  obtain rfl := h.no20'
  obtain rfl := h.no23
  have hb := h.bel rfl
  refine ⟨fun _ => hb.alloc hb.size _, h.c6, fun q => (by cases q), fun q => (by cases q), fun q1 q2 => ?_, fun q1 q2 => ?_, fun _ _ => ⟨_, rfl, box_new w lit 45, hb.size, fun q1 q2 e2 => ?_, fun q1 e2 => ?_⟩, fun q => (by cases q), fun q => (by cases q)⟩
  · obtain ⟨g, e, hg, hA⟩ := h.f1 q1 q2
    exact ⟨g, e, box_old _ _ hg, hA⟩
  · obtain ⟨g, cp, e, ho⟩ := h.f6 q1 rfl
    exact ⟨g, cp, e, ho.alloc _⟩
  · obtain ⟨g, e, hg, hA⟩ := h.f1 q1 q2
    rw [e] at e2
    have h2 : g = w.heap.size := Option.some.inj e2
    have := lt_heap hg
    omega
  · obtain ⟨g, cp, e, ho⟩ := h.f6 q1 rfl
    rw [e] at e2
    have h2 : g = w.heap.size := Option.some.inj e2
    have := (ho.lt g rfl).2
    omega
theorem FzM.op20 (h : FzM A NB ys lit gp b1 b6 b19 false b23 s1 s6 s19 s20 w) {B g cap : Nat} (h6 : b6 = true) (h19 : b19 = true) (hB : A.heap.size ≤ B) (ho : w'.ownsRow A.heap.size 45 5 (.slice (some ⟨g, 0, none⟩) (NB + 1) cap) (NB + 1) (ys ++ lit.toList)) (hg : w.grownBy w' (some B)) :
    FzM A NB ys lit gp b1 b6 b19 true b23 s1 s6 s19 (.slice (some ⟨g, 0, none⟩) (NB + 1) cap) w' := by
  obtain rfl := h.no23
  have hb := h.bel rfl
  exact ⟨fun _ => hb.grown hg hb.size (fun b q => by cases q; exact hB), h.c6, fun _ => ⟨h6, h19⟩, fun q => (by cases q), fun _ q => (by rw [h6] at q; cases q), fun _ q => (by cases q), fun _ q => (by cases q), fun _ _ => ⟨g, cap, rfl, ho⟩, fun q => (by cases q)⟩
theorem FzM.op23 (h : FzM A NB ys lit gp b1 b6 b19 b20 false s1 s6 s19 s20 w) (h20 : b20 = true) : FzM A NB ys lit gp b1 b6 b19 b20 true s1 s6 s19 s20 (w.setCell ⟨gp, 1, none⟩ s20) := by
  obtain ⟨g, cp, e, ho⟩ := h.f20 h20 rfl
  obtain ⟨q6, q19⟩ := h.c20 h20
  exact ⟨fun q => (by cases q), h.c6, h.c20, fun _ => h20, fun _ q => (by rw [q6] at q; cases q), fun _ q => (by rw [h20] at q; cases q), fun _ q => (by rw [h20] at q; cases q), fun _ q => (by cases q), fun _ => ⟨g, cp, w, e, ho, h.bel rfl, by rw [e]⟩⟩

end Go.Proofs.YtkjlchfmplcobaeGreatDoor

/- The walk of yearref1.Primes, at sixty-four. -/
namespace Go.Proofs.YtkjlchfmplcobaeGreatDoor
open Go.RowKit

def noDiv (p : Int) (l : List Int) : Bool := l.all fun q => p % q != 0
def prTo : Nat → List Int
  | 0 => []
  | j + 1 => if noDiv (2 + (j : Int)) (prTo j) then prTo j ++ [2 + (j : Int)] else prTo j
theorem prTo_ge (j : Nat) : ∀ q ∈ prTo j, 2 ≤ q ∧ q ≤ 2 + (j : Int) := by
  induction j with
  | zero => intro q hq; simp [prTo] at hq
  | succ j ih =>
    intro q hq
    rw [prTo] at hq
    split at hq
    · rcases List.mem_append.1 hq with h | h
      · have := ih q h; omega
      · have e := List.mem_singleton.1 h; omega
    · have := ih q hq; omega
theorem prTo_mono (j k : Nat) (h : j ≤ k) : (prTo j).length ≤ (prTo k).length := by
  induction k with
  | zero => obtain rfl : j = 0 := by omega
            exact Nat.le_refl _
  | succ k ih =>
    by_cases e : j = k + 1
    · rw [e]; exact Nat.le_refl _
    · refine Nat.le_trans (ih (by omega)) ?_
      rw [prTo]
      split
      · simp
      · exact Nat.le_refl _
set_option maxRecDepth 100000 in
theorem prTo_end : prTo 310 = primeL := by decide +kernel
set_option maxRecDepth 100000 in
theorem prTo_near : (prTo 309).length = 63 := by decide +kernel
theorem prTo_lt (j : Nat) (h : j < 310) : (prTo j).length < 64 := by
  have := prTo_mono j 309 (by omega)
  rw [prTo_near] at this
  omega
theorem noDiv_snoc (p : Int) (l : List Int) (i : Nat) (h : i < l.length) : noDiv p (l.take (i + 1)) = (noDiv p (l.take i) && (p % l.getD i 0 != 0)) := by
  unfold noDiv
  rw [take_next l i h, List.all_append]
  simp
theorem Tryz.info142b : (Tryz.prog.info? 142).map (fun i => (i.zero, i.size, i.bytes)) = some (some (.int .u64 0), 1, 8) := by kernel_rfl
set_option maxRecDepth 100000 in
set_option maxHeartbeats 1000000 in
theorem primes_any (w : World) :
    Calls Tryz.prog 94 #[.int .i64 64] w fun e w' => ∃ a c, e = .returned (.slice a 64 c) ∧ w'.ownsRow w.heap.size 142 1 (.slice a 64 c) 64 (primeL.map (Value.int .u64)) ∧ Below w.heap.size w w' := by
  obtain ⟨i0, hi, hz0, hz1, hz2⟩ := info_parts Tryz.info142b
  go_enter Tryz.func94, Tryz.ntmps94
  go_wp2
  go_loopw [3, 4] (fun v p wr => ∃ (j : Nat) (a : Option Addr) (m c : Nat) (l : List Int), j ≤ 310 ∧ p = .int .u64 (2 + (j : Int)) ∧ v = .slice a m c ∧ Hid (l = prTo j) ∧ Hid (l.length = m) ∧ wr.ownsRow w.heap.size 142 1 (.slice a m c) m (l.map (Value.int .u64)) ∧ Below w.heap.size w wr) (fun _ p _ => (312 - intOf p).toNat)
  case atStart => exact ⟨0, none, 0, 0, [], by omega, rfl, rfl, rfl, rfl, World.ownsRow_nil _ _ _ _, Below.refl _ _⟩
  case round =>
    obtain ⟨j, a, m, c, l, hj, rfl, rfl, HL, HM, ho, hb⟩ := hrel
    have hsz := hb.size
    by_cases hlt : j < 310
    · have hm : m < 64 := by have := prTo_lt j hlt; rw [← HL.out, HM.out] at this; exact this
      have HG : Hid (∀ q ∈ l, 2 ≤ q ∧ q ≤ 2 + (j : Int)) := by rw [HL.out]; exact prTo_ge j
      have HS : Hid (prTo (j + 1) = if noDiv (2 + (j : Int)) l then l ++ [2 + (j : Int)] else l) := by rw [HL.out]; rfl
      clear HL
      go_wp2
      go_loop [5, 16] (fun ok i => ∃ k : Nat, k ≤ m ∧ i = .int .i64 k ∧ ok = .bool (noDiv (2 + (j : Int)) (l.take k))) (fun _ i => m - (intOf i).toNat)
      case atStart => exact ⟨0, Nat.zero_le _, rfl, rfl⟩
      case round =>
        obtain ⟨k, hk, rfl, rfl⟩ := hrel
        by_cases hkm : k < m
        · obtain ⟨g, rfl, hcell, -, -⟩ := own_get (z := 0) ho k hkm
          have HN : Hid (noDiv (2 + (j : Int)) (l.take (k + 1)) = (noDiv (2 + (j : Int)) (l.take k) && ((2 + (j : Int)) % l.getD k 0 != 0))) := noDiv_snoc _ l k (by have := HM.out; omega)
          have hq : 2 ≤ l.getD k 0 := by
            have hkl : k < l.length := by have := HM.out; omega
            rw [List.getD_eq_getElem?_getD, List.getElem?_eq_getElem hkl]
            exact (HG.out _ (List.getElem_mem hkl)).1
          generalize l.getD k 0 = q at *
          cases hok : noDiv (2 + (j : Int)) (l.take k)
          · have HN2 : Hid (noDiv (2 + (j : Int)) (l.take (k + 1)) = false) := by rw [HN.out, hok]; rfl
            go_wp2
            go_round
            case rel => exact ⟨k + 1, by omega, by go_num, by rw [HN2.out]⟩
            case measure => simp [intOf]; omega
          · cases hd : ((2 + (j : Int)) % q != 0)
            · have HN2 : Hid (noDiv (2 + (j : Int)) (l.take (k + 1)) = false) := by rw [HN.out, hok, hd]; rfl
              go_wp2
              go_round
              case rel => exact ⟨k + 1, by omega, by go_num, by rw [HN2.out]⟩
              case measure => simp [intOf]; omega
            · have HN2 : Hid (noDiv (2 + (j : Int)) (l.take (k + 1)) = true) := by rw [HN.out, hok, hd]; rfl
              go_wp2
              go_round
              case rel => exact ⟨k + 1, by omega, by go_num, by rw [HN2.out]⟩
              case measure => simp [intOf]; omega
        · have e : l.take k = l := List.take_of_length_le (by have := HM.out; omega)
          rw [e]
          clear e
          cases hok : noDiv (2 + (j : Int)) l
          · have HS2 : Hid (l = prTo (j + 1)) := by
              have := HS.out
              rw [hok] at this
              exact this.symm
            go_wp2
            go_roundw
            case rel => exact ⟨j + 1, a, m, c, l, by omega, by go_num, rfl, HS2, HM, ho, hb⟩
            case measure => simp [intOf]; omega
          · have HS2 : Hid (l ++ [2 + (j : Int)] = prTo (j + 1)) := by
              have := HS.out
              rw [hok] at this
              exact this.symm
            go_wp2_with (at_builtin; refine wpList_append_own _ rfl (.tmp 29) (.tmp 31) 139 rfl w.heap.size 142 i0 (.int .u64 0) 1 8 Tryz.underlying139 hi hz0 hz1 hz2 rfl (by decide) _ _ _ rfl (ho.alloc _) ⟨wr.heap.size, 0, none⟩ 1 1 [.int .u64 (2 + (j : Int))] rfl rfl (cell_one_new _ _ _) (by intro u hu; simp at hu; subst hu; rfl) (by unfold maxLen; omega) (by omega) (by simp; omega) ?_)
            intro v2 w2 ho2 hg2 _
            obtain ⟨a3, c3, hv3⟩ := own_form' ho2
            have ho3 : w2.ownsRow w.heap.size 142 1 (.slice a3 (m + 1) c3) (m + 1) ((l ++ [2 + (j : Int)]).map (Value.int .u64)) := by
              rw [List.map_append, ← hv3]; exact ho2
            have HM3 : Hid ((l ++ [2 + (j : Int)]).length = m + 1) := by rw [List.length_append, HM.out]; rfl
            have hb3 : Below w.heap.size w w2 := (hb.alloc hsz _).grown hg2 (by simp; omega) (fun q h => own_block ho h)
            rw [hv3]
            clear ho2 hg2 hv3 ho
            go_wp2
            go_roundw
            case rel => exact ⟨j + 1, a3, m + 1, c3, l ++ [2 + (j : Int)], by omega, by go_num, rfl, HS2, HM3, ho3, hb3⟩
            case measure => simp [intOf]; omega
    · obtain rfl : j = 310 := by omega
      have hl : l = primeL := HL.out.trans prTo_end
      have hm : m = 64 := by rw [← HM.out, hl]; rfl
      subst hm
      rw [hl] at ho
      clear HL HM hl
      go_wp2
      go_ret
      exact ⟨a, c, rfl, ho, hb⟩

end Go.Proofs.YtkjlchfmplcobaeGreatDoor

/- The plain mathematics between the two digests: block by block, and byte by byte. Nothing of the program is in it. -/
namespace Go.Proofs.YtkjlchfmplcobaeGreatDoor
open Go.RowKit

/-- The words behind t blocks of M. -/
def stB (M : List Int) : Nat → St
  | 0 => st0
  | t + 1 => (stB M t).mix ((M.drop (64 * t)).take 64)
theorem set_next (b0 B : List Int) (i : Nat) (h0 : b0.length = 64) (hB : B.length = 64) (hi : i < 64) : (B.take i ++ b0.drop i).set i (B.getD i 0) = B.take (i + 1) ++ b0.drop (i + 1) := by
  have hl : (B.take i).length = i := by rw [List.length_take]; omega
  rw [List.set_append, if_neg (by omega), hl, Nat.sub_self, take_next B i (by omega), List.append_assoc]
  congr 1
  rw [List.drop_eq_getElem_cons (by omega), List.set_cons_zero]
  rfl
/-- One block, byte by byte. -/
theorem block_partly (r : Rn) (B : List Int) (hc : r.c % 64 = 0) (h0 : r.blk.length = 64) (hB : B.length = 64) (i : Nat) (hi : i < 64) : r.all (B.take i) = ⟨r.s, B.take i ++ r.blk.drop i, r.c + i⟩ := by
  induction i with
  | zero => simp [Rn.all]
  | succ i ih =>
    have hm : (r.c + i) % 64 = i := by omega
    rw [take_next B i (by omega), Rn.all_snoc, ih (by omega), Rn.push]
    simp only [hm]
    rw [if_neg (by omega), set_next r.blk B i h0 hB (by omega), ← take_next B i (by omega)]
    rfl
theorem block_whole (r : Rn) (B : List Int) (hc : r.c % 64 = 0) (h0 : r.blk.length = 64) (hB : B.length = 64) : r.all B = ⟨r.s.mix B, B, r.c + 64⟩ := by
  have h := block_partly r B hc h0 hB 63 (by omega)
  have hm : (r.c + 63) % 64 = 63 := by omega
  have e : B = B.take 63 ++ [B.getD 63 0] := by rw [← take_next B 63 (by omega), List.take_of_length_le (by omega)]
  have hs := set_next r.blk B 63 h0 hB (by omega)
  rw [show B.take (63 + 1) = B from List.take_of_length_le (by omega), show r.blk.drop (63 + 1) = [] from List.drop_eq_nil_of_le (by omega), List.append_nil] at hs
  conv => lhs; rw [e]
  rw [Rn.all_snoc, h, Rn.push]
  simp only [hm]
  rw [if_pos (by omega), hs]
theorem all_blocks (M : List Int) (T : Nat) (hM : M.length = 64 * T) (t : Nat) (ht : t ≤ T) : (rn0.all (M.take (64 * t))).s = stB M t ∧ (rn0.all (M.take (64 * t))).c = 64 * t ∧ (rn0.all (M.take (64 * t))).blk.length = 64 := by
  induction t with
  | zero => exact ⟨by simp [Rn.all, stB, rn0], by simp [Rn.all, rn0], by simp [Rn.all, rn0]⟩
  | succ t ih =>
    obtain ⟨h1, h2, h3⟩ := ih (by omega)
    have hl : ((M.drop (64 * t)).take 64).length = 64 := by rw [List.length_take, List.length_drop]; omega
    have e : M.take (64 * (t + 1)) = M.take (64 * t) ++ (M.drop (64 * t)).take 64 := by
      rw [show 64 * (t + 1) = 64 * t + 64 by omega, List.take_add]
    rw [e, Rn.all_append, block_whole _ _ (by rw [h2]; omega) h3 hl]
    exact ⟨by show St.mix _ _ = _; rw [h1]; rfl, by show _ + 64 = _; rw [h2]; omega, hl⟩
theorem shaL_blocks (zs : List Int) (T : Nat) (hM : (zs ++ padL zs.length).length = 64 * T) : shaL zs = (stB (zs ++ padL zs.length) T).out := by
  have := (all_blocks (zs ++ padL zs.length) T hM T (Nat.le_refl _)).1
  rw [← hM, List.take_length, Rn.all_append] at this
  show ((rn0.all zs).all (padL zs.length)).s.out = _
  rw [this]
/-- A word, byte by byte. -/
def accI (f : Nat → Int) : Nat → Int
  | 0 => 0
  | j + 1 => accI f j * 256 + f j
theorem acc_word (f : Nat → Int) (h : ∀ j, 0 ≤ f j ∧ f j < 256) : accI f 4 = U (word (f 0) (f 1) (f 2) (f 3)) := by
  have h0 := h 0
  have h1 := h 1
  have h2 := h 2
  have h3 := h 3
  simp only [accI]
  unfold U word
  obtain ⟨a, ha⟩ := Int.eq_ofNat_of_zero_le (by omega : 0 ≤ f 0 * 16777216 + f 1 * 65536 + f 2 * 256 + f 3)
  rw [ha, BitVec.ofInt_natCast, BitVec.toNat_ofNat]
  omega
theorem acc_bd (f : Nat → Int) (h : ∀ j, 0 ≤ f j ∧ f j < 256) (q : Nat) (hq : q ≤ 4) : 0 ≤ accI f q ∧ accI f q < 4294967296 ∧ (q < 4 → accI f q < 16777216) := by
  have h0 := h 0
  have h1 := h 1
  have h2 := h 2
  have h3 := h 3
  have e : q = 0 ∨ q = 1 ∨ q = 2 ∨ q = 3 ∨ q = 4 := by omega
  rcases e with rfl | rfl | rfl | rfl | rfl <;> simp only [accI] <;> omega
theorem block_get (M : List Int) (t i : Nat) (hi : i < 64) : ((M.drop (64 * t)).take 64).getD i 0 = M.getD (64 * t + i) 0 := by
  rw [List.getD_eq_getElem?_getD, List.getD_eq_getElem?_getD, List.getElem?_take, if_pos hi, List.getElem?_drop]
theorem set_word (l m : List (BitVec 32)) (i : Nat) (hl : l.length = 8) (hm : m.length = 8) (hi : i < 8) : (m.take i ++ l.drop i).set i (m.getD i 0) = m.take (i + 1) ++ l.drop (i + 1) := by
  have h1 : (m.take i).length = i := by rw [List.length_take]; omega
  rw [List.set_append, if_neg (by omega), h1, Nat.sub_self, List.take_succ_eq_append_getElem (by omega), List.append_assoc]
  congr 1
  rw [List.drop_eq_getElem_cons (by omega), List.set_cons_zero, List.getD_eq_getElem?_getD, List.getElem?_eq_getElem (by omega)]
  rfl
theorem mid_word (l m : List (BitVec 32)) (i : Nat) (hm : m.length = 8) (hi : i < 8) : (m.take i ++ l.drop i).getD i 0 = l.getD i 0 := by
  have h1 : (m.take i).length = i := by rw [List.length_take]; omega
  rw [List.getD_eq_getElem?_getD, List.getElem?_append_right (by omega), h1, Nat.sub_self, List.getElem?_drop, Nat.add_zero, List.getD_eq_getElem?_getD]
theorem add_word (s r : St) (i : Nat) (hi : i < 8) : (s.add r).list.getD i 0 = s.list.getD i 0 + r.list.getD i 0 := by
  have h : i = 0 ∨ i = 1 ∨ i = 2 ∨ i = 3 ∨ i = 4 ∨ i = 5 ∨ i = 6 ∨ i = 7 := by omega
  rcases h with rfl | rfl | rfl | rfl | rfl | rfl | rfl | rfl <;> rfl
theorem byte_take (x : BitVec 32) (e : Nat) (he : e < 4) : (byte4 x).take (e + 1) = (byte4 x).take e ++ [U x / 2 ^ (24 - 8 * e) % 256] := by
  have h : e = 0 ∨ e = 1 ∨ e = 2 ∨ e = 3 := by omega
  rcases h with rfl | rfl | rfl | rfl
  · rfl
  · rfl
  · rfl
  · simp [byte4]
theorem choose_eq (e f g : BitVec 32) : (f &&& e ||| g &&& ~~~e) = ((e &&& f) ^^^ (~~~e &&& g)) := by
  apply BitVec.eq_of_getLsbD_eq
  intro i hi
  simp only [BitVec.getLsbD_or, BitVec.getLsbD_and, BitVec.getLsbD_not, BitVec.getLsbD_xor, hi, decide_true, Bool.true_and]
  cases e.getLsbD i <;> cases f.getLsbD i <;> cases g.getLsbD i <;> rfl
theorem most_eq (a b c : BitVec 32) : (a &&& b ||| a &&& c ||| b &&& c) = ((a &&& b) ^^^ (a &&& c) ^^^ (b &&& c)) := by
  apply BitVec.eq_of_getLsbD_eq
  intro i hi
  simp only [BitVec.getLsbD_or, BitVec.getLsbD_and, BitVec.getLsbD_xor]
  cases a.getLsbD i <;> cases b.getLsbD i <;> cases c.getLsbD i <;> rfl

end Go.Proofs.YtkjlchfmplcobaeGreatDoor

/- The walk of yearref5.Lay. -/
namespace Go.Proofs.YtkjlchfmplcobaeGreatDoor
open Go.RowKit

set_option maxRecDepth 100000 in
set_option maxHeartbeats 2000000 in
theorem refLay_any (L : List (List Int)) (a : Option Addr) (n c : Nat) (w : World) (hL : Lists w a n c L) (h200 : ∀ j, (L.getD j []).length ≤ 200) (h8 : n ≤ 8) :
    Calls Tryz.prog 83 #[.slice a n c] w fun e w' => ∃ va vc, e = .returned (.slice va (layL L).length vc) ∧ w'.ownsRow w.heap.size 5 1 (.slice va (layL L).length vc) (layL L).length ((layL L).map (Value.int .u8)) ∧ Below w.heap.size w w' := by
  obtain ⟨i0, hi0, hz0, hz1, hz2⟩ := info_parts Tryz.info5b
  have hlen := hL.len
  have h201 : ∀ k, (layL (L.take k)).length ≤ 2000 := fun k => by
    have h1 := layL_length (L.take k) (fun e he => mem_short h200 e (List.mem_of_mem_take he))
    have h2 : (L.take k).length ≤ 8 := by rw [List.length_take]; omega
    omega
  go_enter Tryz.func83, Tryz.ntmps83
  go_wp2_with fail
  go_loopw [3, 8] (fun ov kv wr => ∃ (k : Nat) (va : Option Addr) (m vc : Nat), k ≤ n ∧ kv = .int .i64 k ∧ ov = .slice va m vc ∧ Hid (m = (layL (L.take k)).length) ∧ wr.ownsRow w.heap.size 5 1 (.slice va m vc) m ((layL (L.take k)).map (Value.int .u8)) ∧ Below w.heap.size w wr) (fun _ kv _ => n - (intOf kv).toNat)
  case atStart => exact ⟨0, none, 0, 0, Nat.zero_le _, rfl, rfl, rfl, ⟨rfl, .inl ⟨rfl, rfl⟩⟩, Below.refl _ _⟩
  case round =>
    obtain ⟨wo, rfl⟩ : ∃ x, x = wr := ⟨wr, rfl⟩
    obtain ⟨k, va, m, vc, hk, rfl, rfl, HM, hrow, hbr⟩ := hrel
    have hm := h201 k
    rw [← HM.out] at hm
    have hsr := hbr.size
    by_cases hlt : k < n
    · obtain ⟨b, off, pa, pc, rfl, hcell, hsome⟩ := hL.get k hlt
      have hb0 : b < w.heap.size := World.block_lt_of_cell? w ⟨b, off + k, none⟩ hcell
      have hcell1 := (hbr.cell (p := ⟨b, off + k, none⟩) hb0).trans hcell
      have HS : Hid (layL (L.take (k + 1)) = layL (L.take k) ++ ((L.getD k []).length : Int) :: L.getD k []) := by
        show _ = _
        rw [List.take_succ_eq_append_getElem (by omega), layL_snoc, List.getD_eq_getElem?_getD, List.getElem?_eq_getElem (by omega)]
        rfl
      have hd2 := h200 k
      have hB0 := hsome.at'
      obtain ⟨D, hD⟩ : ∃ D, D = L.getD k [] := ⟨_, rfl⟩
      rw [← hD] at hcell1 HS hd2 hB0
      obtain ⟨d, hd⟩ : ∃ d, d = D.length := ⟨_, rfl⟩
      rw [← hd] at hcell1 HS hd2 hB0
      have Hd : Hid (d = D.length) := hd
      have hlt' : (k : Int) < n := by omega
      have hd' : (d : Int) ≤ 200 := by omega
      have hrowA := hrow.alloc (.cells #[.int .u8 d] 5)
      have hnew := cell_one_new wo (.int .u8 d) 5
      have bA : Below w.heap.size w (wo.alloc (.cells #[.int .u8 d] 5)) := hbr.alloc hsr _
      have hsA : w.heap.size ≤ (wo.alloc (.cells #[.int .u8 d] 5)).heap.size := by simp; omega
      have hdm : m + 1 + D.length ≤ 3000 := by omega
      clear hcell hsome hrow h200 hD hd h201
      go_wp2_with (first
        | (at_builtin; refine wpList_append_own _ rfl (.tmp 12) (.tmp 16) 37 rfl w.heap.size 5 i0 _ 1 1 Tryz.underlying37 hi0 hz0 hz1 hz2 rfl (by decide) _ _ _ rfl hrowA _ 1 1 [.int .u8 d] rfl rfl hnew (by intro u hu; simp at hu; subst hu; rfl) (by unfold maxLen; omega) (by omega) hsA ?_; intro v7 w7 ho7 hg7 _; obtain ⟨ta, tc, rfl⟩ := own_form' ho7; have b7 : Below w.heap.size w w7 := bA.grown hg7 hsA (fun _ h => own_block hrowA h); have hB7 := hB0.below (Nat.le_refl _) b7; clear hg7)
        | (at_builtin; refine wpList_append_bytes rfl (.tmp 18) (.tmp 19) 37 rfl w.heap.size 5 i0 _ Tryz.underlying37 hi0 hz0 hz1 hz2 rfl _ _ _ rfl ho7 pa d pc D rfl hB7 (by unfold maxLen; omega) (by omega) b7.size ?_; intro v8 w8 ho8 hg8; obtain ⟨sa, sc, rfl⟩ := own_form' ho8))
      have b8 : Below w.heap.size w w8 := b7.grown hg8 b7.size (fun _ h => own_block ho7 h)
      go_roundw
      case rel =>
        refine ⟨k + 1, sa, _, sc, by omega, by go_num, rfl, ?_, ?_, b8⟩
        · show _ = _; rw [HS.out, List.length_append, List.length_cons, ← HM.out]; omega
        · rw [HS.out, List.map_append, List.map_cons]; simpa using ho8
      case measure => simp [intOf]; omega
    · obtain rfl : k = n := by omega
      rw [List.take_of_length_le (by omega)] at HM hrow
      go_wp2_with fail
      go_ret
      refine ⟨va, vc, by rw [← HM.out]; rfl, by rw [← HM.out]; exact hrow, hbr⟩

end Go.Proofs.YtkjlchfmplcobaeGreatDoor

/- The walk of readEntries: package shelf as it landed. -/
namespace Go.Proofs.YtkjlchfmplcobaeGreatDoor
open Go.RowKit

/-- A round of reading. -/
theorem take_round {T : List Int} {cnt k a X : Nat} {done : List (List Int)} (hD : takeL cnt T = (takeL (cnt - k) (T.drop a)).map (done ++ ·)) (hk : k < cnt) (ha : a < T.length) (hx : T.getD a 0 = (X : Int)) (h1 : X ≤ 200) (h2 : a + 1 + X ≤ T.length) :
    takeL cnt T = (takeL (cnt - (k + 1)) (T.drop (a + 1 + X))).map ((done ++ [(T.drop (a + 1)).take X]) ++ ·) := by
  rw [hD, show cnt - k = (cnt - (k + 1)) + 1 by omega, takeL_more ha hx h1 h2]
  cases takeL (cnt - (k + 1)) (T.drop (a + 1 + X)) with
  | none => rfl
  | some r => simp
theorem take_stop {T : List Int} {cnt k a : Nat} {done : List (List Int)} (hD : takeL cnt T = (takeL (cnt - k) (T.drop a)).map (done ++ ·)) (hk : k < cnt) (h : ∀ n, takeL (n + 1) (T.drop a) = none) : takeL cnt T = none := by
  rw [hD, show cnt - k = (cnt - (k + 1)) + 1 by omega, h]; rfl
theorem cells_part {w : World} {g o a X c m : Nat} {T : List Int} (hg : g < w.heap.size) (hcell : ∀ j, j < T.length → w.cell? ⟨g, o + j, none⟩ = some (.int .u8 (T.getD j 0))) (h : a + X ≤ T.length) (hm : m = X) : BytesAt w (.slice (some ⟨g, o + a, none⟩) m c) ((T.drop a).take X) := by
  subst hm
  have hl : ((T.drop a).take m).length = m := by rw [List.length_take, List.length_drop]; omega
  refine .inr ⟨g, o + a, c, by rw [hl], hg, fun j hj => ?_⟩
  rw [hl] at hj
  rw [Nat.add_assoc, hcell (a + j) (by omega), List.getD_eq_getElem?_getD, List.getD_eq_getElem?_getD, List.getElem?_take, if_pos hj, List.getElem?_drop]
/-- What is read, or nothing. -/
def readOk (w : World) (v : Value) (r : Option (List (List Int))) : Prop := ∀ l, r = some l → ∃ xa xn xc, v = .slice xa xn xc ∧ Laid w xa xn xc l
theorem readOk_none (w : World) (v : Value) : readOk w v none := fun _ h => by cases h
theorem readOk_some {w : World} {xa : Option Addr} {xn xc : Nat} {l : List (List Int)} (h : Laid w xa xn xc l) : readOk w (.slice xa xn xc) (some l) := fun l' e => by cases e; exact ⟨_, _, _, rfl, h⟩
set_option maxRecDepth 100000 in
set_option maxHeartbeats 8000000 in
theorem readEntries_any (T : List Int) (hby : Bytes T) (hT4 : T.length ≤ 4000) (cnt : Nat) (hc8 : cnt ≤ 8) (tv : Value) (w : World) (hT : RoomAt w tv T) :
    Calls Tryz.prog 107 #[tv, .int .i64 cnt] w fun e w' => ∃ v, e = .returned (.tuple #[v, .bool (takeL cnt T).isSome]) ∧ readOk w' v (takeL cnt T) ∧ Below w.heap.size w w' := by
  obtain ⟨i0, hi0, hz0, hz1, hz2⟩ := info_parts Tryz.info37b
  obtain ⟨hB, ra, rc, rfl, hr1, hr2⟩ := hT
  obtain ⟨g, o, hrest, hgc⟩ : ∃ g o, RestAt (.slice ra T.length rc) T g o 0 ∧ (T.length = 0 ∨ (g < w.heap.size ∧ ∀ j, j < T.length → w.cell? ⟨g, o + j, none⟩ = some (.int .u8 (T.getD j 0)))) := by
    rcases hB with ⟨rfl, -⟩ | ⟨g, o, cp, e, h1, h2⟩
    · exact ⟨0, 0, ⟨ra, rc, rfl, by simp, .inr rfl⟩, .inl rfl⟩
    · cases e
      exact ⟨g, o, ⟨_, rc, rfl, by omega, .inl rfl⟩, .inr ⟨h1, h2⟩⟩
  have HD0 : Hid (takeL cnt T = (takeL (cnt - 0) (T.drop 0)).map (([] : List (List Int)) ++ ·)) := by
    show _ = _
    simp
  clear hB hr1 hr2
  go_enter Tryz.func107, Tryz.ntmps107
  go_wp2_with (at_make; refine wpList_make_own _ rfl _ _ 43 rfl w.heap.size 37 i0 (.slice none 0 0) 1 Tryz.underlying43 hi0 hz0 hz1 .i64 .i64 _ cnt rfl rfl rfl (by rw [hz2]; omega) (by unfold maxLen; omega) (Nat.le_refl _) ?_; intro w1 hown hgrow)
  have b1 : Below w.heap.size w w1 := (Below.refl _ _).grown hgrow (Nat.le_refl _) (fun q h => by cases h)
  clear hgrow
  go_loopw [0, 6, 12] (fun tv lv kv wr => ∃ (k a : Nat) (done : List (List Int)) (va : Option Addr) (vc : Nat) (vs : List Value), k ≤ cnt ∧ a ≤ T.length ∧ kv = .int .i64 k ∧ done.length = k ∧ lv = .slice va k vc ∧ wr.ownsRow w.heap.size 37 1 (.slice va k vc) k vs ∧ OwnEls wr w.heap.size vs done ∧ RestAt tv T g o a ∧ Hid (takeL cnt T = (takeL (cnt - k) (T.drop a)).map (done ++ ·)) ∧ Below w.heap.size w wr) (fun _ _ kv _ => cnt - (intOf kv).toNat)
  case atStart => exact ⟨0, 0, [], _, _, [], Nat.zero_le _, Nat.zero_le _, rfl, rfl, rfl, hown, fun _ hj => absurd hj (Nat.not_lt_zero _), hrest, HD0, b1⟩
  case round =>
    obtain ⟨wo, rfl⟩ : ∃ x, x = wr := ⟨wr, rfl⟩
    obtain ⟨k, a, done, va, vc, vs, hk, ha, rfl, hdl, rfl, hrow, hels, ⟨A, c, rfl, hac, hA⟩, HD, hbr⟩ := hrel
    have hsr := hbr.size
    clear hown b1 HD0 hrest
    by_cases hlt : k < cnt
    · have hlt' : (k : Int) < cnt := by omega
      by_cases hz : a < T.length
      · obtain ⟨hg, hcell⟩ := hgc.resolve_left (by omega)
        obtain rfl := hA.resolve_right (by omega)
        have hgo : g < wo.heap.size := by omega
        have hco : ∀ j, j < T.length → wo.cell? ⟨g, o + j, none⟩ = some (.int .u8 (T.getD j 0)) := fun j hj => (hbr.cell (p := ⟨g, o + j, none⟩) hg).trans (hcell j hj)
        have hx0 := hco a hz
        obtain ⟨X, HX⟩ : ∃ X : Nat, Hid (T.getD a 0 = (X : Int)) := ⟨(T.getD a 0).toNat, by show _ = _; have := hby a; omega⟩
        have hX256 : X < 256 := by have := hby a; have := HX.out; omega
        rw [HX.out] at hx0
        obtain ⟨m, HM⟩ : ∃ m, Hid (T.length - a = m) := ⟨_, rfl⟩
        rw [HM.out] at hac ⊢
        have hm1 : 1 ≤ m := by have := HM.out; omega
        have hm4 : m ≤ 4000 := by have := HM.out; omega
        have hmz : ((m : Int) == 0) = false := by simp; omega
        have hc1 : (1 : Int) ≤ c := by omega
        have hm1' : (1 : Int) ≤ m := by omega
        clear hA hgc hcell
        by_cases hx200 : 200 < X
        · have HN : Hid (takeL cnt T = none) := take_stop HD.out hlt (fun n => takeL_much hz (by rw [HX.out]; omega))
          have hx200' : (200 : Int) < X := by omega
          clear HD hels hrow hco
          rcases (show c = 1 ∨ ¬ c = 1 by omega) with rfl | hc
          all_goals
            go_wp2_with fail
            go_quiet (fail)
            go_wp2_with fail
            exact bodyPost_ret (v := .tuple #[.slice none 0 0, .bool false]) (by simp [results, Tryz.results107, go_sem]) rfl ⟨_, by rw [HN.out]; rfl, by rw [HN.out]; exact readOk_none _ _, below_drewN' hbr _⟩
        · have hx200' : ¬ (200 : Int) < X := by omega
          by_cases hxm : m - 1 < X
          · have HN : Hid (takeL cnt T = none) := take_stop HD.out hlt (fun n => takeL_short hz (by rw [HX.out]; have := HM.out; omega))
            clear HD hels hrow hco
            rcases (show c = 1 ∨ ¬ c = 1 by omega) with rfl | hc
            · obtain rfl : m = 1 := by omega
              have hxp : (0 : Int) < X := by omega
              go_wp2_with fail
              go_quiet (fail)
              go_wp2_with fail
              exact bodyPost_ret (v := .tuple #[.slice none 0 0, .bool false]) (by simp [results, Tryz.results107, go_sem]) rfl ⟨_, by rw [HN.out]; rfl, by rw [HN.out]; exact readOk_none _ _, below_drewN' hbr _⟩
            · have hxp : ((m - 1 : Nat) : Int) < X := by omega
              go_wp2_with fail
              go_quiet (fail)
              go_wp2_with fail
              exact bodyPost_ret (v := .tuple #[.slice none 0 0, .bool false]) (by simp [results, Tryz.results107, go_sem]) rfl ⟨_, by rw [HN.out]; rfl, by rw [HN.out]; exact readOk_none _ _, below_drewN' hbr _⟩
          · have hxle : a + 1 + X ≤ T.length := by have := HM.out; omega
            have HD2 : Hid (takeL cnt T = (takeL (cnt - (k + 1)) (T.drop (a + 1 + X))).map ((done ++ [(T.drop (a + 1)).take X]) ++ ·)) := take_round HD.out hlt hz HX.out (by omega) hxle
            have hdl2 : ((T.drop (a + 1)).take X).length = X := by rw [List.length_take, List.length_drop]; omega
            have hX200 : X ≤ 200 := by omega
            rcases (show c = 1 ∨ ¬ c = 1 by omega) with rfl | hc
            · obtain rfl : m = 1 := by omega
              obtain rfl : X = 0 := by omega
              have hBX : ∀ C, BytesAt wo (.slice (some ⟨g, o + a, none⟩) 0 C) ((T.drop (a + 1)).take 0) := fun C => .inl ⟨by simp, _, _, rfl, fun h => by cases h⟩
              have hR2 : RestAt (.slice (some ⟨g, o + a, none⟩) 0 0) T g o (a + 1 + 0) := ⟨some ⟨g, o + a, none⟩, 0, by rw [show T.length - (a + 1 + 0) = 0 by have := HM.out; omega], by have := HM.out; omega, .inr (by have := HM.out; omega)⟩
              generalize (T.drop (a + 1)).take 0 = D at *
              clear hco HD HX hx200 hxm
              go_wp2_with fail
              go_quiet (fail)
              replace hrow : (wo.drewN nq).ownsRow w.heap.size 37 1 (.slice va k vc) k vs := hrow
              have hbq : Below wo.heap.size wo (wo.drewN nq) := below_drewN' (Below.refl _ _) nq
              have hels2 := hels.below hbq (Nat.le_refl _)
              have hB2 := fun C => (hBX C).below (Nat.le_refl _) hbq
              have hbq2 := hbr.trans (hbq.mono hsr)
              clear hbq hels hBX
              generalize wo.drewN nq = wq at *
              have hC := cloneB_any D ⟨g, o + a, none⟩ 0 0 wq (hB2 _) hdl2 (by omega)
              go_wp2_with fail
              refine hC.mono ?_
              rintro r w2 ⟨ya, yc, rfl, ho2, hb2⟩
              have b2 := hbq2.trans (hb2.mono hbq2.size)
              have hrow2 := own_below hrow hb2 (Nat.le_refl _)
              have hels3 := hels2.below hb2 (Nat.le_refl _)
              have hvl : vs.length = done.length := by rw [hdl]; simpa using hrow.1
              have hy2 : w2.ownsRow w.heap.size 5 1 (.slice ya 0 yc) D.length (D.map (Value.int .u8)) := by rw [hdl2]; exact ownsRow_base ho2 hbq2.size
              have hsn := hels3.snoc hvl hy2
              have hrowA := hrow2.alloc (.cells #[.slice ya 0 yc] 37)
              have hsnA := hsn.alloc (.cells #[.slice ya 0 yc] 37)
              have hnew := cell_one_new w2 (.slice ya 0 yc) 37
              have bA : Below w.heap.size w (w2.alloc (.cells #[.slice ya 0 yc] 37)) := b2.alloc b2.size _
              have hsA := bA.size
              clear hC hrow hels2 hels3 hsn hrow2 ho2 hy2 hB2 hb2
              go_wp2_with (at_builtin; refine wpList_append_own _ rfl (.tmp 31) (.tmp 36) 43 rfl w.heap.size 37 i0 _ 1 24 Tryz.underlying43 hi0 hz0 hz1 hz2 rfl (by decide) _ _ _ rfl hrowA _ 1 1 [.slice ya 0 yc] rfl rfl hnew (by intro u hu; simp at hu; subst hu; rfl) (by unfold maxLen; omega) (by omega) hsA ?_; intro v7 w7 ho7 hg7 _; obtain ⟨sa, sc, rfl⟩ := own_form' ho7)
              have b7 : Below w.heap.size w w7 := bA.grown hg7 hsA (fun _ h => own_block hrowA h)
              have hels7 := hsnA.kept hrowA hg7
              go_roundw
              case rel => exact ⟨k + 1, a + 1 + 0, done ++ [D], sa, sc, _, by omega, hxle, by go_num, by rw [List.length_append, hdl]; rfl, rfl, ho7, hels7, hR2, HD2, b7⟩
              case measure => simp [intOf]; omega
            · have hxp : ¬ ((m - 1 : Nat) : Int) < X := by omega
              have hBX : ∀ C, BytesAt wo (.slice (some ⟨g, o + (a + 1), none⟩) X C) ((T.drop (a + 1)).take X) := fun C => cells_part hgo hco (by omega) rfl
              rw [show o + (a + 1) = o + a + 1 by omega] at hBX
              rcases (show c - 1 = X ∨ ¬ c - 1 = X by omega) with hcx | hcx
              · obtain rfl : c = X + 1 := by omega
                obtain rfl : m = X + 1 := by omega
                have hR2 : RestAt (.slice (some ⟨g, o + a + 1, none⟩) 0 0) T g o (a + 1 + X) := ⟨some ⟨g, o + a + 1, none⟩, 0, by rw [show T.length - (a + 1 + X) = 0 by have := HM.out; omega], by have := HM.out; omega, .inr (by have := HM.out; omega)⟩
                generalize (T.drop (a + 1)).take X = D at *
                clear hco HD HX hx200 hxm
                go_wp2_with fail
                go_quiet (fail)
                replace hrow : (wo.drewN nq).ownsRow w.heap.size 37 1 (.slice va k vc) k vs := hrow
                have hbq : Below wo.heap.size wo (wo.drewN nq) := below_drewN' (Below.refl _ _) nq
                have hels2 := hels.below hbq (Nat.le_refl _)
                have hB2 := fun C => (hBX C).below (Nat.le_refl _) hbq
                have hbq2 := hbr.trans (hbq.mono hsr)
                clear hbq hels hBX
                generalize wo.drewN nq = wq at *
                have hC := cloneB_any D ⟨g, o + a + 1, none⟩ X X wq (hB2 _) hdl2 (by omega)
                go_wp2_with fail
                refine hC.mono ?_
                rintro r w2 ⟨ya, yc, rfl, ho2, hb2⟩
                have b2 := hbq2.trans (hb2.mono hbq2.size)
                have hrow2 := own_below hrow hb2 (Nat.le_refl _)
                have hels3 := hels2.below hb2 (Nat.le_refl _)
                have hvl : vs.length = done.length := by rw [hdl]; simpa using hrow.1
                have hy2 : w2.ownsRow w.heap.size 5 1 (.slice ya X yc) D.length (D.map (Value.int .u8)) := by rw [hdl2]; exact ownsRow_base ho2 hbq2.size
                have hsn := hels3.snoc hvl hy2
                have hrowA := hrow2.alloc (.cells #[.slice ya X yc] 37)
                have hsnA := hsn.alloc (.cells #[.slice ya X yc] 37)
                have hnew := cell_one_new w2 (.slice ya X yc) 37
                have bA : Below w.heap.size w (w2.alloc (.cells #[.slice ya X yc] 37)) := b2.alloc b2.size _
                have hsA := bA.size
                clear hC hrow hels2 hels3 hsn hrow2 ho2 hy2 hB2 hb2
                go_wp2_with (at_builtin; refine wpList_append_own _ rfl (.tmp 31) (.tmp 36) 43 rfl w.heap.size 37 i0 _ 1 24 Tryz.underlying43 hi0 hz0 hz1 hz2 rfl (by decide) _ _ _ rfl hrowA _ 1 1 [.slice ya X yc] rfl rfl hnew (by intro u hu; simp at hu; subst hu; rfl) (by unfold maxLen; omega) (by omega) hsA ?_; intro v7 w7 ho7 hg7 _; obtain ⟨sa, sc, rfl⟩ := own_form' ho7)
                have b7 : Below w.heap.size w w7 := bA.grown hg7 hsA (fun _ h => own_block hrowA h)
                have hels7 := hsnA.kept hrowA hg7
                go_roundw
                case rel => exact ⟨k + 1, a + 1 + X, done ++ [D], sa, sc, _, by omega, hxle, by go_num, by rw [List.length_append, hdl]; rfl, rfl, ho7, hels7, hR2, HD2, b7⟩
                case measure => simp [intOf]; omega
              · have hR2 : RestAt (.slice (some ⟨g, o + a + 1 + X, none⟩) (m - 1 - X) (c - 1 - X)) T g o (a + 1 + X) := ⟨some ⟨g, o + (a + 1 + X), none⟩, c - 1 - X, by rw [show T.length - (a + 1 + X) = m - 1 - X by have := HM.out; omega, show o + (a + 1 + X) = o + a + 1 + X by omega], by have := HM.out; omega, .inl rfl⟩
                generalize (T.drop (a + 1)).take X = D at *
                clear hco HD HX hx200 hxm
                go_wp2_with fail
                go_quiet (fail)
                replace hrow : (wo.drewN nq).ownsRow w.heap.size 37 1 (.slice va k vc) k vs := hrow
                have hbq : Below wo.heap.size wo (wo.drewN nq) := below_drewN' (Below.refl _ _) nq
                have hels2 := hels.below hbq (Nat.le_refl _)
                have hB2 := fun C => (hBX C).below (Nat.le_refl _) hbq
                have hbq2 := hbr.trans (hbq.mono hsr)
                clear hbq hels hBX
                generalize wo.drewN nq = wq at *
                have hC := cloneB_any D ⟨g, o + a + 1, none⟩ X (c - 1) wq (hB2 _) hdl2 (by omega)
                go_wp2_with fail
                refine hC.mono ?_
                rintro r w2 ⟨ya, yc, rfl, ho2, hb2⟩
                have b2 := hbq2.trans (hb2.mono hbq2.size)
                have hrow2 := own_below hrow hb2 (Nat.le_refl _)
                have hels3 := hels2.below hb2 (Nat.le_refl _)
                have hvl : vs.length = done.length := by rw [hdl]; simpa using hrow.1
                have hy2 : w2.ownsRow w.heap.size 5 1 (.slice ya X yc) D.length (D.map (Value.int .u8)) := by rw [hdl2]; exact ownsRow_base ho2 hbq2.size
                have hsn := hels3.snoc hvl hy2
                have hrowA := hrow2.alloc (.cells #[.slice ya X yc] 37)
                have hsnA := hsn.alloc (.cells #[.slice ya X yc] 37)
                have hnew := cell_one_new w2 (.slice ya X yc) 37
                have bA : Below w.heap.size w (w2.alloc (.cells #[.slice ya X yc] 37)) := b2.alloc b2.size _
                have hsA := bA.size
                clear hC hrow hels2 hels3 hsn hrow2 ho2 hy2 hB2 hb2
                go_wp2_with (at_builtin; refine wpList_append_own _ rfl (.tmp 31) (.tmp 36) 43 rfl w.heap.size 37 i0 _ 1 24 Tryz.underlying43 hi0 hz0 hz1 hz2 rfl (by decide) _ _ _ rfl hrowA _ 1 1 [.slice ya X yc] rfl rfl hnew (by intro u hu; simp at hu; subst hu; rfl) (by unfold maxLen; omega) (by omega) hsA ?_; intro v7 w7 ho7 hg7 _; obtain ⟨sa, sc, rfl⟩ := own_form' ho7)
                have b7 : Below w.heap.size w w7 := bA.grown hg7 hsA (fun _ h => own_block hrowA h)
                have hels7 := hsnA.kept hrowA hg7
                go_roundw
                case rel => exact ⟨k + 1, a + 1 + X, done ++ [D], sa, sc, _, by omega, hxle, by go_num, by rw [List.length_append, hdl]; rfl, rfl, ho7, hels7, hR2, HD2, b7⟩
                case measure => simp [intOf]; omega
      · have hm0 : T.length - a = 0 := by omega
        have HN : Hid (takeL cnt T = none) := take_stop HD.out hlt (fun n => takeL_none hz)
        rw [hm0] at hac ⊢
        clear HD hels hrow hA hgc
        go_wp2_with fail
        exact bodyPost_ret (v := .tuple #[.slice none 0 0, .bool false]) (by simp [results, Tryz.results107, go_sem]) rfl ⟨_, by rw [HN.out]; rfl, by rw [HN.out]; exact readOk_none _ _, hbr⟩
    · obtain rfl : k = cnt := by omega
      have hnl : ¬ (k : Int) < k := by omega
      have HL : Hid (takeL k T = if a = T.length then some done else none) := by
        show _ = _
        rw [HD.out, Nat.sub_self, takeL_last ha]
        split <;> simp
      by_cases hz : a = T.length
      · have HS : Hid (takeL k T = some done) := by show _ = _; rw [HL.out, if_pos hz]
        have hel : Els wo vs done := ⟨by rw [hdl]; simpa using hrow.1, fun j hj => by obtain ⟨y, h1, h2⟩ := hels j hj; exact ⟨y, h1, byteEl_own h2⟩⟩
        have hli : Laid wo va k vc done := laid_own hrow hel hdl (fun x hx => by obtain ⟨j, hj, rfl⟩ := List.mem_iff_getElem.1 hx; have := takeL_bytes hby HS.out j; rwa [List.getD_eq_getElem?_getD, List.getElem?_eq_getElem hj] at this) (fun x hx => by have := (takeL_len _ _ _ HS.out).2 x hx; unfold maxLen; omega)
        have hm0 : T.length - a = 0 := by omega
        rw [hm0] at hac ⊢
        clear HD HL hel hels hrow hA hgc
        go_wp2_with fail
        exact bodyPost_ret (v := .tuple #[.slice va k vc, .bool true]) (by simp [results, Tryz.results107, go_sem]) rfl ⟨_, by rw [HS.out]; rfl, by rw [HS.out]; exact readOk_some hli, hbr⟩
      · have HS : Hid (takeL k T = none) := by show _ = _; rw [HL.out, if_neg hz]
        obtain ⟨m, HM⟩ : ∃ m, Hid (T.length - a = m) := ⟨_, rfl⟩
        have hm0 : ((m : Int) == 0) = false := by have := HM.out; simp; omega
        rw [HM.out] at hac ⊢
        clear HD HL hels hrow hA hgc
        go_wp2_with fail
        exact bodyPost_ret (v := .tuple #[.slice va k vc, .bool false]) (by simp [results, Tryz.results107, go_sem]) rfl ⟨_, by rw [HS.out]; rfl, by rw [HS.out]; exact readOk_none _ _, hbr⟩

end Go.Proofs.YtkjlchfmplcobaeGreatDoor

/- The walk of yearref5.Take. -/
namespace Go.Proofs.YtkjlchfmplcobaeGreatDoor
open Go.RowKit

/-- A part of a row of bytes. -/
theorem own_part {w : World} {base g n c a X C : Nat} {T : List Int} (h : w.ownsRow base 5 1 (.slice (some ⟨g, 0, none⟩) n c) n (T.map (Value.int .u8))) (hl : T.length = n) (h2 : a + X ≤ n) : ByteEl w (.slice (some ⟨g, a, none⟩) X C) ((T.drop a).take X) := by
  have hl2 : ((T.drop a).take X).length = X := by rw [List.length_take, List.length_drop]; omega
  rcases h.2 with ⟨e, -⟩ | ⟨g', cap, cur, e, -, hg, -⟩
  · cases e
  · cases e
    refine .inr ⟨g, a, C, cur, _, by rw [hl2], hg, fun j hj => ?_⟩
    rw [hl2] at hj
    rw [h.cellAt (a + j) (by omega), List.getElem?_map, List.getElem?_eq_getElem (by omega), List.getD_eq_getElem?_getD, List.getElem?_take, if_pos hj, List.getElem?_drop, List.getElem?_eq_getElem (by omega)]
    rfl
set_option maxRecDepth 100000 in
set_option maxHeartbeats 8000000 in
theorem refTake_any (T : List Int) (hby : Bytes T) (hT4 : T.length ≤ 4000) (cnt : Nat) (hc8 : cnt ≤ 8) (base : Nat) (ta : Option Addr) (tn tc : Nat) (w : World) (hT : w.ownsRow base 5 1 (.slice ta tn tc) tn (T.map (Value.int .u8))) (htn : T.length = tn) :
    Calls Tryz.prog 93 #[.slice ta tn tc, .int .i64 cnt] w fun e w' => ∃ v, e = .returned (.tuple #[v, .bool (takeL cnt T).isSome]) ∧ readOk w' v (takeL cnt T) ∧ Below w.heap.size w w' := by
  obtain ⟨i0, hi0, hz0, hz1, hz2⟩ := info_parts Tryz.info37b
  obtain ⟨ra, rc, er, hr1, hr2⟩ := own_cap hT
  cases er
  unfold maxLen at hr2
  have HD0 : Hid (takeL cnt T = (takeL (cnt - 0) (T.drop 0)).map (([] : List (List Int)) ++ ·)) := by
    show _ = _
    simp
  go_enter Tryz.func93, Tryz.ntmps93
  go_wp2_with fail
  go_loopw [6, 7, 8] (fun lv av kv wr => ∃ (k a : Nat) (done : List (List Int)) (va : Option Addr) (vc : Nat) (vs : List Value), k ≤ cnt ∧ a ≤ tn ∧ kv = .int .i64 k ∧ av = .int .i64 a ∧ done.length = k ∧ lv = .slice va k vc ∧ wr.ownsRow w.heap.size 37 1 (.slice va k vc) k vs ∧ Els wr vs done ∧ wr.ownsRow base 5 1 (.slice ta tn tc) tn (T.map (Value.int .u8)) ∧ Hid (takeL cnt T = (takeL (cnt - k) (T.drop a)).map (done ++ ·)) ∧ Below w.heap.size w wr) (fun _ _ kv _ => cnt - (intOf kv).toNat)
  case atStart => exact ⟨0, 0, [], none, 0, [], Nat.zero_le _, Nat.zero_le _, rfl, rfl, rfl, rfl, World.ownsRow_nil _ _ _ _, els_nil _, hT, HD0, Below.refl _ _⟩
  case round =>
    obtain ⟨wo, rfl⟩ : ∃ x, x = wr := ⟨wr, rfl⟩
    obtain ⟨k, a, done, va, vc, vs, hk, ha, rfl, rfl, hdl, rfl, hrow, hels, hTo, HD, hbr⟩ := hrel
    have hsr := hbr.size
    clear HD0 hT
    by_cases hlt : k < cnt
    · have hlt' : (k : Int) < cnt := by omega
      by_cases hz : a < tn
      · have hzT : a < T.length := by omega
        obtain ⟨g, hg0, hcell, -, -⟩ := own_get (z := 0) hTo a hz
        subst hg0
        have hz' : ¬ (tn : Int) ≤ a := by omega
        have hzj : (a : Int) < tn := by omega
        obtain ⟨X, HX⟩ : ∃ X : Nat, Hid (T.getD a 0 = (X : Int)) := ⟨(T.getD a 0).toNat, by show _ = _; have := hby a; omega⟩
        have hX256 : X < 256 := by have := hby a; have := HX.out; omega
        rw [HX.out] at hcell
        by_cases hx200 : 200 < X
        · have HN : Hid (takeL cnt T = none) := take_stop HD.out hlt (fun n => takeL_much hzT (by rw [HX.out]; omega))
          have hx200' : (200 : Int) < X := by omega
          clear HD hels hrow hTo
          go_wp2_with fail
          exact bodyPost_ret (v := .tuple #[.slice none 0 0, .bool false]) (by simp [results, Tryz.results93, go_sem]) rfl ⟨_, by rw [HN.out]; rfl, by rw [HN.out]; exact readOk_none _ _, hbr⟩
        · have hx200' : ¬ (200 : Int) < X := by omega
          by_cases hxm : tn < a + 1 + X
          · have HN : Hid (takeL cnt T = none) := take_stop HD.out hlt (fun n => takeL_short hzT (by rw [HX.out]; omega))
            have hxm' : (tn : Int) < (a : Int) + 1 + X := by omega
            clear HD hels hrow hTo
            go_wp2_with fail
            exact bodyPost_ret (v := .tuple #[.slice none 0 0, .bool false]) (by simp [results, Tryz.results93, go_sem]) rfl ⟨_, by rw [HN.out]; rfl, by rw [HN.out]; exact readOk_none _ _, hbr⟩
          · have hxm' : ¬ (tn : Int) < (a : Int) + 1 + X := by omega
            have HD2 : Hid (takeL cnt T = (takeL (cnt - (k + 1)) (T.drop (a + 1 + X))).map ((done ++ [(T.drop (a + 1)).take X]) ++ ·)) := take_round HD.out hlt hzT HX.out (by omega) (by omega)
            have j1 : (a : Int) + 1 + X ≤ tn := by omega
            have j2 : (a : Int) + 1 + X ≤ tc := by omega
            rcases (show tc = a + 1 ∨ ¬ tc = a + 1 by omega) with hc | hc
            · obtain rfl : X = 0 := by omega
              obtain rfl : tn = a + 1 := by omega
              subst hc
              have hE : ∀ C, ByteEl wo (.slice (some ⟨g, 0, none⟩) 0 C) ((T.drop (a + 1)).take 0) := fun C => .inl ⟨by simp, _, _, rfl, fun h => by cases h⟩
              have hEA := (hE 0).below ((Below.refl _ wo).alloc (Nat.le_refl _) (.cells #[.slice (some ⟨g, 0, none⟩) 0 0] 37)) (Nat.le_refl _)
              have helA := hels.below ((Below.refl _ wo).alloc (Nat.le_refl _) (.cells #[.slice (some ⟨g, 0, none⟩) 0 0] 37)) (Nat.le_refl _)
              have hsn := helA.append (byteEls_one hEA)
              have hrowA := hrow.alloc (.cells #[.slice (some ⟨g, 0, none⟩) 0 0] 37)
              have hTA := hTo.alloc (.cells #[.slice (some ⟨g, 0, none⟩) 0 0] 37)
              have hnew := cell_one_new wo (.slice (some ⟨g, 0, none⟩) 0 0) 37
              have bA : Below w.heap.size w (wo.alloc (.cells #[.slice (some ⟨g, 0, none⟩) 0 0] 37)) := hbr.alloc hsr _
              have hsA := bA.size
              generalize (T.drop (a + 1)).take 0 = D at *
              clear HD hels hrow hTo hE hEA helA HX hx200 hxm
              go_wp2_with (at_builtin; refine wpList_append_own _ rfl (.tmp 47) (.tmp 53) 43 rfl w.heap.size 37 i0 _ 1 24 Tryz.underlying43 hi0 hz0 hz1 hz2 rfl (by decide) _ _ _ rfl hrowA _ 1 1 [.slice (some ⟨g, 0, none⟩) 0 0] rfl rfl hnew (by intro u hu; simp at hu; subst hu; rfl) (by unfold maxLen; omega) (by omega) hsA ?_; intro v7 w7 ho7 hg7 _; obtain ⟨sa, sc, rfl⟩ := own_form' ho7)
              have b7 : Below w.heap.size w w7 := bA.grown hg7 hsA (fun _ h => own_block hrowA h)
              have hels7 := hsn.kept hrowA (by decide) hg7
              have hT7 := hTA.kept hg7 (own_ne hTA hrowA (by decide)).or
              go_roundw
              case rel => exact ⟨k + 1, a + 1 + 0, done ++ [D], sa, sc, _, by omega, by omega, by go_num, by go_num, by rw [List.length_append, hdl]; rfl, rfl, ho7, hels7, hT7, HD2, b7⟩
              case measure => simp [intOf]; omega
            · have hE := fun C => own_part (C := C) (a := a + 1) (X := X) hTo htn (by omega)
              have hEA := (hE (tc - (a + 1))).below ((Below.refl _ wo).alloc (Nat.le_refl _) (.cells #[.slice (some ⟨g, a + 1, none⟩) X (tc - (a + 1))] 37)) (Nat.le_refl _)
              have helA := hels.below ((Below.refl _ wo).alloc (Nat.le_refl _) (.cells #[.slice (some ⟨g, a + 1, none⟩) X (tc - (a + 1))] 37)) (Nat.le_refl _)
              have hsn := helA.append (byteEls_one hEA)
              have hrowA := hrow.alloc (.cells #[.slice (some ⟨g, a + 1, none⟩) X (tc - (a + 1))] 37)
              have hTA := hTo.alloc (.cells #[.slice (some ⟨g, a + 1, none⟩) X (tc - (a + 1))] 37)
              have hnew := cell_one_new wo (.slice (some ⟨g, a + 1, none⟩) X (tc - (a + 1))) 37
              have bA : Below w.heap.size w (wo.alloc (.cells #[.slice (some ⟨g, a + 1, none⟩) X (tc - (a + 1))] 37)) := hbr.alloc hsr _
              have hsA := bA.size
              generalize (T.drop (a + 1)).take X = D at *
              clear HD hels hrow hTo hE hEA helA HX hx200 hxm
              go_wp2_with (at_builtin; refine wpList_append_own _ rfl (.tmp 47) (.tmp 53) 43 rfl w.heap.size 37 i0 _ 1 24 Tryz.underlying43 hi0 hz0 hz1 hz2 rfl (by decide) _ _ _ rfl hrowA _ 1 1 [.slice (some ⟨g, a + 1, none⟩) X (tc - (a + 1))] rfl rfl hnew (by intro u hu; simp at hu; subst hu; rfl) (by unfold maxLen; omega) (by omega) hsA ?_; intro v7 w7 ho7 hg7 _; obtain ⟨sa, sc, rfl⟩ := own_form' ho7)
              have b7 : Below w.heap.size w w7 := bA.grown hg7 hsA (fun _ h => own_block hrowA h)
              have hels7 := hsn.kept hrowA (by decide) hg7
              have hT7 := hTA.kept hg7 (own_ne hTA hrowA (by decide)).or
              go_roundw
              case rel => exact ⟨k + 1, a + 1 + X, done ++ [D], sa, sc, _, by omega, by omega, by go_num, by go_num, by rw [List.length_append, hdl]; rfl, rfl, ho7, hels7, hT7, HD2, b7⟩
              case measure => simp [intOf]; omega
      · have HN : Hid (takeL cnt T = none) := take_stop HD.out hlt (fun n => takeL_none (by omega))
        have hz' : (tn : Int) ≤ a := by omega
        clear HD hels hrow hTo
        go_wp2_with fail
        exact bodyPost_ret (v := .tuple #[.slice none 0 0, .bool false]) (by simp [results, Tryz.results93, go_sem]) rfl ⟨_, by rw [HN.out]; rfl, by rw [HN.out]; exact readOk_none _ _, hbr⟩
    · obtain rfl : k = cnt := by omega
      have hnl : ¬ (k : Int) < k := by omega
      have HL : Hid (takeL k T = if a = T.length then some done else none) := by
        show _ = _
        rw [HD.out, Nat.sub_self, takeL_last (by omega)]
        split <;> simp
      by_cases hz : a = tn
      · have HS : Hid (takeL k T = some done) := by show _ = _; rw [HL.out, if_pos (by omega)]
        have hli : Laid wo va k vc done := laid_own hrow hels hdl (fun x hx => by obtain ⟨j, hj, rfl⟩ := List.mem_iff_getElem.1 hx; have := takeL_bytes hby HS.out j; rwa [List.getD_eq_getElem?_getD, List.getElem?_eq_getElem hj] at this) (fun x hx => by have := (takeL_len _ _ _ HS.out).2 x hx; unfold maxLen; omega)
        have hzb : ((a : Int) == (tn : Int)) = true := by simp [hz]
        clear HD HL hels hrow hTo
        go_wp2_with fail
        exact bodyPost_ret (v := .tuple #[.slice va k vc, .bool true]) (by simp [results, Tryz.results93, go_sem]) rfl ⟨_, by rw [HS.out]; rfl, by rw [HS.out]; exact readOk_some hli, hbr⟩
      · have HS : Hid (takeL k T = none) := by show _ = _; rw [HL.out, if_neg (by omega)]
        have hzb : ((a : Int) == (tn : Int)) = false := by simp; omega
        clear HD HL hels hrow hTo
        go_wp2_with fail
        exact bodyPost_ret (v := .tuple #[.slice va k vc, .bool false]) (by simp [results, Tryz.results93, go_sem]) rfl ⟨_, by rw [HS.out]; rfl, by rw [HS.out]; exact readOk_none _ _, hbr⟩

end Go.Proofs.YtkjlchfmplcobaeGreatDoor
