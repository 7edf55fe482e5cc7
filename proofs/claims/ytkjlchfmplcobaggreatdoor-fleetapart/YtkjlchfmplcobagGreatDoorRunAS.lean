/- FleetApartWF, FleetApartRegion, as one text. -/
import Derived.Test.YtkjlchfmplcobagGreatDoorRunAE
import Derived.Test.YtkjlchfmplcobagGreatDoorRunAF
import Derived.Test.YtkjlchfmplcobagGreatDoorFleetShownWalk
/- What holds whatever has been carried out of append(append([]api.Do{}, l...), x, y) and Play: for the law FleetApart. -/
namespace Go.Proofs.YtkjlchfmplcobagGreatDoor
open Go.RowKit

/-- The values of two things that are done, in one row. -/
abbrev lit2 (X Y : Dd) (xa ya : Option Addr) (xc yc : Nat) : Array Value := #[.int .i64 X.kind, .int .i64 X.n, .int .i64 X.time, .slice xa X.entry.length xc, .int .i64 X.segment, .int .i64 X.at', .int .u8 X.by', .int .i64 Y.kind, .int .i64 Y.n, .int .i64 Y.time, .slice ya Y.entry.length yc, .int .i64 Y.segment, .int .i64 Y.at', .int .u8 Y.by']
abbrev lit1d (X : Dd) (xa : Option Addr) (xc : Nat) : Value := .agg #[.int .i64 X.kind, .int .i64 X.n, .int .i64 X.time, .slice xa X.entry.length xc, .int .i64 X.segment, .int .i64 X.at', .int .u8 X.by']
/-- What is known of the two things and of the others. -/
structure ApC where
  w1 : World
  l : List Dd
  X : Dd
  Y : Dd
  wv : Value
  da : Option Addr
  dn : Nat
  dc : Nat
  xa : Option Addr
  xc : Nat
  ya : Option Addr
  yc : Nat
  fl : Value
  F : Int × Int
  P : Flt
  A : List Ans
/-- What holds. ℓ: what has been carried out; σ: what each operation gave. -/
structure WF (c : ApC) (ℓ : Nat → Bool) (σ : Nat → Value) (fv av : Value) (τ : Nat → Tag) (N : Nat) (w : World) : Prop where
  bel : Below c.w1.heap.size c.w1 w
  c3 : ℓ 3 = true → ℓ 1 = true ∧ ℓ 2 = true
  c6 : ℓ 6 = true → ℓ 4 = true ∧ ℓ 5 = true
  c7 : ℓ 7 = true → ℓ 3 = true ∧ ℓ 6 = true
  c8 : ℓ 8 = true → ℓ 0 = true ∧ ℓ 7 = true
  c9 : ℓ 9 = true → ℓ 8 = true
  c10 : ℓ 10 = true → ℓ 9 = true
  c11 : ℓ 11 = true → ℓ 9 = true
  c12 : ℓ 12 = true → ℓ 9 = true
  c15 : ℓ 15 = true → ℓ 13 = true ∧ ℓ 10 = true
  c17 : ℓ 17 = true → ℓ 14 = true ∧ ℓ 12 = true
  e0 : ℓ 0 = true → σ 0 = c.wv
  e2 : ℓ 2 = true → σ 2 = .slice c.da c.dn c.dc
  e4 : ℓ 4 = true → σ 4 = lit1d c.X c.xa c.xc
  e5 : ℓ 5 = true → σ 5 = lit1d c.Y c.ya c.yc
  f1 : ℓ 1 = true → ℓ 3 = false → ∃ g, σ 1 = .slice (some ⟨g, 0, none⟩) 0 0 ∧ w.heap[g]? = some (.cells #[] 56 (0, 0)) ∧ c.w1.heap.size ≤ g
  f3 : ℓ 3 = true → ℓ 7 = false → ∃ g cp vs, σ 3 = .slice (some ⟨g, 0, none⟩) c.dn cp ∧ w.ownsRow c.w1.heap.size 56 7 (.slice (some ⟨g, 0, none⟩) c.dn cp) c.dn vs ∧ DoEls c.w1 vs c.l
  f6 : ℓ 6 = true → ℓ 7 = false → ∃ g, σ 6 = .slice (some ⟨g, 0, none⟩) 2 2 ∧ w.heap[g]? = some (.cells (lit2 c.X c.Y c.xa c.ya c.xc c.yc) 56 (0, 0)) ∧ c.w1.heap.size ≤ g ∧ (ℓ 1 = true → ℓ 3 = false → σ 1 ≠ .slice (some ⟨g, 0, none⟩) 0 0) ∧ (ℓ 3 = true → ∀ cp, σ 3 ≠ .slice (some ⟨g, 0, none⟩) c.dn cp)
  f7 : ℓ 7 = true → ℓ 8 = false → ∃ va cp, σ 7 = .slice va (c.dn + 2) cp ∧ DosAt w (.slice va (c.dn + 2) cp) (c.l ++ [c.X] ++ [c.Y])
  f8 : ℓ 8 = true → σ 8 = .tuple #[fv, av, faultV c.F] ∧ FltM τ N w fv c.P ∧ AnM τ N w av c.A
  e9 : ℓ 9 = true → σ 9 = .tuple #[fv, av, faultV c.F]
  e10 : ℓ 10 = true → σ 10 = fv
  e11 : ℓ 11 = true → σ 11 = av
  e12 : ℓ 12 = true → σ 12 = faultV c.F
  f13 : ℓ 13 = true → ∃ g u0 u1, σ 13 = .pointer (some ⟨g, 0, none⟩) ∧ w.heap[g]? = some (.cells #[u0, u1] 28 (0, 0)) ∧ c.w1.heap.size ≤ g ∧ (ℓ 8 = true → τ g = tNo) ∧ (ℓ 15 = true → fv = .agg #[u0, u1])
  f14 : ℓ 14 = true → ∃ g u0 u1, σ 14 = .pointer (some ⟨g, 0, none⟩) ∧ w.heap[g]? = some (.cells #[u0, u1] 32 (0, 0)) ∧ c.w1.heap.size ≤ g ∧ (ℓ 8 = true → τ g = tNo) ∧ (ℓ 17 = true → faultV c.F = .agg #[u0, u1])
  e16 : ℓ 16 = true → σ 16 = av
def setL (ℓ : Nat → Bool) (i : Nat) : Nat → Bool := fun j => j == i || ℓ j
def updS (σ : Nat → Value) (i : Nat) (v : Value) : Nat → Value := fun j => if j = i then v else σ j
/-- What is made new leaves all as it was. -/
theorem WF.grow {c : ApC} {ℓ : Nat → Bool} {σ : Nat → Value} {fv av : Value} {τ : Nat → Tag} {N : Nat} {w w' : World} (h : WF c ℓ σ fv av τ N w) (hb : Below w.heap.size w w') : WF c ℓ σ fv av (ext τ w.heap.size tNo) N w' where
  bel := h.bel.trans (hb.mono h.bel.size)
  c3 := h.c3
  c6 := h.c6
  c7 := h.c7
  c8 := h.c8
  c9 := h.c9
  c10 := h.c10
  c11 := h.c11
  c12 := h.c12
  c15 := h.c15
  c17 := h.c17
  e0 := h.e0
  e2 := h.e2
  e4 := h.e4
  e5 := h.e5
  f1 := fun h1 h2 => by obtain ⟨g, q1, q2, q3⟩ := h.f1 h1 h2; exact ⟨g, q1, box_kept q2 hb, q3⟩
  f3 := fun h1 h2 => by obtain ⟨g, cp, vs, q1, q2, q3⟩ := h.f3 h1 h2; exact ⟨g, cp, vs, q1, own7_below q2 hb (Nat.le_refl _), q3⟩
  f6 := fun h1 h2 => by obtain ⟨g, q1, q2, q3, q4⟩ := h.f6 h1 h2; exact ⟨g, q1, box_kept q2 hb, q3, q4⟩
  f7 := fun h1 h2 => by obtain ⟨va, cp, q1, q2⟩ := h.f7 h1 h2; exact ⟨va, cp, q1, q2.below hb⟩
  f8 := fun h1 => by
    obtain ⟨q1, q2, q3⟩ := h.f8 h1
    exact ⟨q1, q2.upd (upd_call hb tNo) (fun b hb => by cases hb), q3.upd (upd_call hb tNo) (fun b hb => by cases hb) (fun b hb => by cases hb)⟩
  e9 := h.e9
  e10 := h.e10
  e11 := h.e11
  e12 := h.e12
  f13 := fun h1 => by
    obtain ⟨g, u0, u1, q1, q2, q3, q4, q5⟩ := h.f13 h1
    exact ⟨g, u0, u1, q1, box_kept q2 hb, q3, fun h8 => by rw [ext_old (lt_heap q2)]; exact q4 h8, q5⟩
  f14 := fun h1 => by
    obtain ⟨g, u0, u1, q1, q2, q3, q4, q5⟩ := h.f14 h1
    exact ⟨g, u0, u1, q1, box_kept q2 hb, q3, fun h8 => by rw [ext_old (lt_heap q2)]; exact q4 h8, q5⟩
  e16 := h.e16
theorem own7_empty {w : World} {base q : Nat} (h : w.heap[q]? = some (.cells #[] 56 (0, 0))) (hb : base ≤ q) : w.ownsRow base 56 7 (.slice (some ⟨q, 0, none⟩) 0 0) 0 [] :=
  ⟨rfl, .inr ⟨q, 0, #[], rfl, hb, h, Nat.le_refl _, Nat.zero_le _, rfl, rfl⟩⟩
theorem WF.op0 {c : ApC} {ℓ : Nat → Bool} {σ : Nat → Value} {fv av : Value} {τ : Nat → Tag} {N : Nat} {w : World} (h : WF c ℓ σ fv av τ N w) : WF c (setL ℓ 0) (updS σ 0 c.wv) fv av τ N w := by
  refine ⟨h.bel, ?_, ?_, ?_, ?_, ?_, ?_, ?_, ?_, ?_, ?_, ?_, ?_, ?_, ?_, ?_, ?_, ?_, ?_, ?_, ?_, ?_, ?_, ?_, ?_, ?_, ?_⟩
  · exact h.c3
  · exact h.c6
  · exact h.c7
  · exact fun q => ⟨rfl, (h.c8 q).2⟩
  · exact h.c9
  · exact h.c10
  · exact h.c11
  · exact h.c12
  · exact h.c15
  · exact h.c17
  · exact fun _ => rfl
  · exact h.e2
  · exact h.e4
  · exact h.e5
  · exact h.f1
  · exact h.f3
  · exact h.f6
  · exact h.f7
  · exact h.f8
  · exact h.e9
  · exact h.e10
  · exact h.e11
  · exact h.e12
  · exact h.f13
  · exact h.f14
  · exact h.e16
theorem WF.op2 {c : ApC} {ℓ : Nat → Bool} {σ : Nat → Value} {fv av : Value} {τ : Nat → Tag} {N : Nat} {w : World} (h : WF c ℓ σ fv av τ N w) : WF c (setL ℓ 2) (updS σ 2 (.slice c.da c.dn c.dc)) fv av τ N w := by
  refine ⟨h.bel, ?_, ?_, ?_, ?_, ?_, ?_, ?_, ?_, ?_, ?_, ?_, ?_, ?_, ?_, ?_, ?_, ?_, ?_, ?_, ?_, ?_, ?_, ?_, ?_, ?_, ?_⟩
  · exact fun q => ⟨(h.c3 q).1, rfl⟩
  · exact h.c6
  · exact h.c7
  · exact h.c8
  · exact h.c9
  · exact h.c10
  · exact h.c11
  · exact h.c12
  · exact h.c15
  · exact h.c17
  · exact h.e0
  · exact fun _ => rfl
  · exact h.e4
  · exact h.e5
  · exact h.f1
  · exact h.f3
  · exact h.f6
  · exact h.f7
  · exact h.f8
  · exact h.e9
  · exact h.e10
  · exact h.e11
  · exact h.e12
  · exact h.f13
  · exact h.f14
  · exact h.e16
theorem WF.op4 {c : ApC} {ℓ : Nat → Bool} {σ : Nat → Value} {fv av : Value} {τ : Nat → Tag} {N : Nat} {w : World} (h : WF c ℓ σ fv av τ N w) : WF c (setL ℓ 4) (updS σ 4 (lit1d c.X c.xa c.xc)) fv av τ N w := by
  refine ⟨h.bel, ?_, ?_, ?_, ?_, ?_, ?_, ?_, ?_, ?_, ?_, ?_, ?_, ?_, ?_, ?_, ?_, ?_, ?_, ?_, ?_, ?_, ?_, ?_, ?_, ?_, ?_⟩
  · exact h.c3
  · exact fun q => ⟨rfl, (h.c6 q).2⟩
  · exact h.c7
  · exact h.c8
  · exact h.c9
  · exact h.c10
  · exact h.c11
  · exact h.c12
  · exact h.c15
  · exact h.c17
  · exact h.e0
  · exact h.e2
  · exact fun _ => rfl
  · exact h.e5
  · exact h.f1
  · exact h.f3
  · exact h.f6
  · exact h.f7
  · exact h.f8
  · exact h.e9
  · exact h.e10
  · exact h.e11
  · exact h.e12
  · exact h.f13
  · exact h.f14
  · exact h.e16
theorem WF.op5 {c : ApC} {ℓ : Nat → Bool} {σ : Nat → Value} {fv av : Value} {τ : Nat → Tag} {N : Nat} {w : World} (h : WF c ℓ σ fv av τ N w) : WF c (setL ℓ 5) (updS σ 5 (lit1d c.Y c.ya c.yc)) fv av τ N w := by
  refine ⟨h.bel, ?_, ?_, ?_, ?_, ?_, ?_, ?_, ?_, ?_, ?_, ?_, ?_, ?_, ?_, ?_, ?_, ?_, ?_, ?_, ?_, ?_, ?_, ?_, ?_, ?_, ?_⟩
  · exact h.c3
  · exact fun q => ⟨(h.c6 q).1, rfl⟩
  · exact h.c7
  · exact h.c8
  · exact h.c9
  · exact h.c10
  · exact h.c11
  · exact h.c12
  · exact h.c15
  · exact h.c17
  · exact h.e0
  · exact h.e2
  · exact h.e4
  · exact fun _ => rfl
  · exact h.f1
  · exact h.f3
  · exact h.f6
  · exact h.f7
  · exact h.f8
  · exact h.e9
  · exact h.e10
  · exact h.e11
  · exact h.e12
  · exact h.f13
  · exact h.f14
  · exact h.e16
theorem WF.op9 {c : ApC} {ℓ : Nat → Bool} {σ : Nat → Value} {fv av : Value} {τ : Nat → Tag} {N : Nat} {w : World} (h : WF c ℓ σ fv av τ N w) (h8 : ℓ 8 = true) : WF c (setL ℓ 9) (updS σ 9 (σ 8)) fv av τ N w := by
  refine ⟨h.bel, ?_, ?_, ?_, ?_, ?_, ?_, ?_, ?_, ?_, ?_, ?_, ?_, ?_, ?_, ?_, ?_, ?_, ?_, ?_, ?_, ?_, ?_, ?_, ?_, ?_, ?_⟩
  · exact h.c3
  · exact h.c6
  · exact h.c7
  · exact h.c8
  · exact fun _ => h8
  · exact fun _ => rfl
  · exact fun _ => rfl
  · exact fun _ => rfl
  · exact h.c15
  · exact h.c17
  · exact h.e0
  · exact h.e2
  · exact h.e4
  · exact h.e5
  · exact h.f1
  · exact h.f3
  · exact h.f6
  · exact h.f7
  · exact h.f8
  · exact fun _ => (h.f8 h8).1
  · exact h.e10
  · exact h.e11
  · exact h.e12
  · exact h.f13
  · exact h.f14
  · exact h.e16
theorem WF.op10 {c : ApC} {ℓ : Nat → Bool} {σ : Nat → Value} {fv av : Value} {τ : Nat → Tag} {N : Nat} {w : World} (h : WF c ℓ σ fv av τ N w) (h9 : ℓ 9 = true) : WF c (setL ℓ 10) (updS σ 10 fv) fv av τ N w := by
  refine ⟨h.bel, ?_, ?_, ?_, ?_, ?_, ?_, ?_, ?_, ?_, ?_, ?_, ?_, ?_, ?_, ?_, ?_, ?_, ?_, ?_, ?_, ?_, ?_, ?_, ?_, ?_, ?_⟩
  · exact h.c3
  · exact h.c6
  · exact h.c7
  · exact h.c8
  · exact h.c9
  · exact fun _ => h9
  · exact h.c11
  · exact h.c12
  · exact fun q => ⟨(h.c15 q).1, rfl⟩
  · exact h.c17
  · exact h.e0
  · exact h.e2
  · exact h.e4
  · exact h.e5
  · exact h.f1
  · exact h.f3
  · exact h.f6
  · exact h.f7
  · exact h.f8
  · exact h.e9
  · exact fun _ => rfl
  · exact h.e11
  · exact h.e12
  · exact h.f13
  · exact h.f14
  · exact h.e16
theorem WF.op11 {c : ApC} {ℓ : Nat → Bool} {σ : Nat → Value} {fv av : Value} {τ : Nat → Tag} {N : Nat} {w : World} (h : WF c ℓ σ fv av τ N w) (h9 : ℓ 9 = true) : WF c (setL ℓ 11) (updS σ 11 av) fv av τ N w := by
  refine ⟨h.bel, ?_, ?_, ?_, ?_, ?_, ?_, ?_, ?_, ?_, ?_, ?_, ?_, ?_, ?_, ?_, ?_, ?_, ?_, ?_, ?_, ?_, ?_, ?_, ?_, ?_, ?_⟩
  · exact h.c3
  · exact h.c6
  · exact h.c7
  · exact h.c8
  · exact h.c9
  · exact h.c10
  · exact fun _ => h9
  · exact h.c12
  · exact h.c15
  · exact h.c17
  · exact h.e0
  · exact h.e2
  · exact h.e4
  · exact h.e5
  · exact h.f1
  · exact h.f3
  · exact h.f6
  · exact h.f7
  · exact h.f8
  · exact h.e9
  · exact h.e10
  · exact fun _ => rfl
  · exact h.e12
  · exact h.f13
  · exact h.f14
  · exact h.e16
theorem WF.op12 {c : ApC} {ℓ : Nat → Bool} {σ : Nat → Value} {fv av : Value} {τ : Nat → Tag} {N : Nat} {w : World} (h : WF c ℓ σ fv av τ N w) (h9 : ℓ 9 = true) : WF c (setL ℓ 12) (updS σ 12 (faultV c.F)) fv av τ N w := by
  refine ⟨h.bel, ?_, ?_, ?_, ?_, ?_, ?_, ?_, ?_, ?_, ?_, ?_, ?_, ?_, ?_, ?_, ?_, ?_, ?_, ?_, ?_, ?_, ?_, ?_, ?_, ?_, ?_⟩
  · exact h.c3
  · exact h.c6
  · exact h.c7
  · exact h.c8
  · exact h.c9
  · exact h.c10
  · exact h.c11
  · exact fun _ => h9
  · exact h.c15
  · exact fun q => ⟨(h.c17 q).1, rfl⟩
  · exact h.e0
  · exact h.e2
  · exact h.e4
  · exact h.e5
  · exact h.f1
  · exact h.f3
  · exact h.f6
  · exact h.f7
  · exact h.f8
  · exact h.e9
  · exact h.e10
  · exact h.e11
  · exact fun _ => rfl
  · exact h.f13
  · exact h.f14
  · exact h.e16
theorem WF.op16 {c : ApC} {ℓ : Nat → Bool} {σ : Nat → Value} {fv av : Value} {τ : Nat → Tag} {N : Nat} {w : World} (h : WF c ℓ σ fv av τ N w) : WF c (setL ℓ 16) (updS σ 16 av) fv av τ N w := by
  refine ⟨h.bel, ?_, ?_, ?_, ?_, ?_, ?_, ?_, ?_, ?_, ?_, ?_, ?_, ?_, ?_, ?_, ?_, ?_, ?_, ?_, ?_, ?_, ?_, ?_, ?_, ?_, ?_⟩
  · exact h.c3
  · exact h.c6
  · exact h.c7
  · exact h.c8
  · exact h.c9
  · exact h.c10
  · exact h.c11
  · exact h.c12
  · exact h.c15
  · exact h.c17
  · exact h.e0
  · exact h.e2
  · exact h.e4
  · exact h.e5
  · exact h.f1
  · exact h.f3
  · exact h.f6
  · exact h.f7
  · exact h.f8
  · exact h.e9
  · exact h.e10
  · exact h.e11
  · exact h.e12
  · exact h.f13
  · exact h.f14
  · exact fun _ => rfl
theorem WF.op1 {c : ApC} {ℓ : Nat → Bool} {σ : Nat → Value} {fv av : Value} {τ : Nat → Tag} {N : Nat} {w : World} (h : WF c ℓ σ fv av τ N w) : WF c (setL ℓ 1) (updS σ 1 (.slice (some ⟨w.heap.size, 0, none⟩) 0 0)) fv av (ext τ w.heap.size tNo) N (w.alloc (.cells #[] 56)) := by
  have G := h.grow (w' := w.alloc (.cells #[] 56)) ((Below.refl _ _).alloc (Nat.le_refl _) _)
  refine ⟨G.bel, ?_, ?_, ?_, ?_, ?_, ?_, ?_, ?_, ?_, ?_, ?_, ?_, ?_, ?_, ?_, ?_, ?_, ?_, ?_, ?_, ?_, ?_, ?_, ?_, ?_, ?_⟩
  · exact fun q => ⟨rfl, (h.c3 q).2⟩
  · exact G.c6
  · exact G.c7
  · exact G.c8
  · exact G.c9
  · exact G.c10
  · exact G.c11
  · exact G.c12
  · exact G.c15
  · exact G.c17
  · exact G.e0
  · exact G.e2
  · exact G.e4
  · exact G.e5
  · exact fun _ _ => ⟨w.heap.size, rfl, box_new w #[] _, h.bel.size⟩
  · exact G.f3
  · intro h6 h7
    obtain ⟨g, q1, q2, q3, -, q5⟩ := h.f6 h6 h7
    refine ⟨g, q1, box_old _ _ q2, q3, fun _ _ e => ?_, q5⟩
    have e' : Value.slice (some ⟨w.heap.size, 0, none⟩) 0 0 = .slice (some ⟨g, 0, none⟩) 0 0 := e
    have hl := lt_heap q2
    simp at e'
    all_goals omega
  · exact G.f7
  · exact G.f8
  · exact G.e9
  · exact G.e10
  · exact G.e11
  · exact G.e12
  · exact G.f13
  · exact G.f14
  · exact G.e16
theorem WF.op6 {c : ApC} {ℓ : Nat → Bool} {σ : Nat → Value} {fv av : Value} {τ : Nat → Tag} {N : Nat} {w : World} (h : WF c ℓ σ fv av τ N w) (h4 : ℓ 4 = true) (h5 : ℓ 5 = true) : WF c (setL ℓ 6) (updS σ 6 (.slice (some ⟨w.heap.size, 0, none⟩) 2 2)) fv av (ext τ w.heap.size tNo) N (w.alloc (.cells (lit2 c.X c.Y c.xa c.ya c.xc c.yc) 56)) := by
  have G := h.grow (w' := w.alloc (.cells (lit2 c.X c.Y c.xa c.ya c.xc c.yc) 56)) ((Below.refl _ _).alloc (Nat.le_refl _) _)
  refine ⟨G.bel, ?_, ?_, ?_, ?_, ?_, ?_, ?_, ?_, ?_, ?_, ?_, ?_, ?_, ?_, ?_, ?_, ?_, ?_, ?_, ?_, ?_, ?_, ?_, ?_, ?_, ?_⟩
  · exact G.c3
  · exact fun _ => ⟨h4, h5⟩
  · exact fun q => ⟨(h.c7 q).1, rfl⟩
  · exact G.c8
  · exact G.c9
  · exact G.c10
  · exact G.c11
  · exact G.c12
  · exact G.c15
  · exact G.c17
  · exact G.e0
  · exact G.e2
  · exact G.e4
  · exact G.e5
  · exact G.f1
  · exact G.f3
  · intro _ h7
    have h7' : ℓ 7 = false := h7
    refine ⟨w.heap.size, rfl, box_new w _ _, h.bel.size, fun h1 h3 e => ?_, fun h3 cp e => ?_⟩
    · obtain ⟨g, q1, q2, -⟩ := h.f1 h1 h3
      have e' : σ 1 = .slice (some ⟨w.heap.size, 0, none⟩) 0 0 := e
      have hl := lt_heap q2
      rw [q1] at e'
      simp at e'
      all_goals omega
    · obtain ⟨g, cp', vs, q1, q2, -⟩ := h.f3 h3 h7'
      have e' : σ 3 = .slice (some ⟨w.heap.size, 0, none⟩) c.dn cp := e
      have hl := (q2.lt g rfl).2
      rw [q1] at e'
      simp at e'
      all_goals omega
  · exact G.f7
  · exact G.f8
  · exact G.e9
  · exact G.e10
  · exact G.e11
  · exact G.e12
  · exact G.f13
  · exact G.f14
  · exact G.e16
theorem WF.op13 {c : ApC} {ℓ : Nat → Bool} {σ : Nat → Value} {fv av : Value} {τ : Nat → Tag} {N : Nat} {w : World} (h : WF c ℓ σ fv av τ N w) (hi : ℓ 13 = false) : WF c (setL ℓ 13) (updS σ 13 (.pointer (some ⟨w.heap.size, 0, none⟩))) fv av (ext τ w.heap.size tNo) N (w.alloc (.cells #[.slice none 0 0, .slice none 0 0] 28)) := by
  have G := h.grow (w' := w.alloc (.cells #[.slice none 0 0, .slice none 0 0] 28)) ((Below.refl _ _).alloc (Nat.le_refl _) _)
  refine ⟨G.bel, ?_, ?_, ?_, ?_, ?_, ?_, ?_, ?_, ?_, ?_, ?_, ?_, ?_, ?_, ?_, ?_, ?_, ?_, ?_, ?_, ?_, ?_, ?_, ?_, ?_, ?_⟩
  · exact G.c3
  · exact G.c6
  · exact G.c7
  · exact G.c8
  · exact G.c9
  · exact G.c10
  · exact G.c11
  · exact G.c12
  · exact fun q => ⟨rfl, (h.c15 q).2⟩
  · exact G.c17
  · exact G.e0
  · exact G.e2
  · exact G.e4
  · exact G.e5
  · exact G.f1
  · exact G.f3
  · exact G.f6
  · exact G.f7
  · exact G.f8
  · exact G.e9
  · exact G.e10
  · exact G.e11
  · exact G.e12
  · exact fun _ => ⟨w.heap.size, _, _, rfl, box_new w _ _, h.bel.size, fun _ => ext_new (Nat.le_refl _), fun q => absurd (h.c15 q).1 (by rw [hi]; decide)⟩
  · exact G.f14
  · exact G.e16
theorem WF.op14 {c : ApC} {ℓ : Nat → Bool} {σ : Nat → Value} {fv av : Value} {τ : Nat → Tag} {N : Nat} {w : World} (h : WF c ℓ σ fv av τ N w) (hi : ℓ 14 = false) : WF c (setL ℓ 14) (updS σ 14 (.pointer (some ⟨w.heap.size, 0, none⟩))) fv av (ext τ w.heap.size tNo) N (w.alloc (.cells #[.int .i64 0, .int .i64 0] 32)) := by
  have G := h.grow (w' := w.alloc (.cells #[.int .i64 0, .int .i64 0] 32)) ((Below.refl _ _).alloc (Nat.le_refl _) _)
  refine ⟨G.bel, ?_, ?_, ?_, ?_, ?_, ?_, ?_, ?_, ?_, ?_, ?_, ?_, ?_, ?_, ?_, ?_, ?_, ?_, ?_, ?_, ?_, ?_, ?_, ?_, ?_, ?_⟩
  · exact G.c3
  · exact G.c6
  · exact G.c7
  · exact G.c8
  · exact G.c9
  · exact G.c10
  · exact G.c11
  · exact G.c12
  · exact G.c15
  · exact fun q => ⟨rfl, (h.c17 q).2⟩
  · exact G.e0
  · exact G.e2
  · exact G.e4
  · exact G.e5
  · exact G.f1
  · exact G.f3
  · exact G.f6
  · exact G.f7
  · exact G.f8
  · exact G.e9
  · exact G.e10
  · exact G.e11
  · exact G.e12
  · exact G.f13
  · exact fun _ => ⟨w.heap.size, _, _, rfl, box_new w _ _, h.bel.size, fun _ => ext_new (Nat.le_refl _), fun q => absurd (h.c17 q).1 (by rw [hi]; decide)⟩
  · exact G.e16
/-- A row of a call's own has grown: what else lies there lies as it did. -/
theorem grown_box7 {w w' : World} {q k : Nat} {x : Obj} (hg : w.grownBy w' (some q)) (h : w.heap[k]? = some x) (hk : k ≠ q) : w'.heap[k]? = some x := by
  rw [hg.block k (lt_heap h) (fun e => hk (Option.some.inj e))]; exact h
theorem WF.op3 {c : ApC} {ℓ : Nat → Bool} {σ : Nat → Value} {fv av : Value} {τ : Nat → Tag} {N : Nat} {w w' : World} (h : WF c ℓ σ fv av τ N w) (hi : ℓ 3 = false) (h1 : ℓ 1 = true) (h2 : ℓ 2 = true) {q0 g cp : Nat} {vs : List Value} (hq : σ 1 = .slice (some ⟨q0, 0, none⟩) 0 0) (hg : w.grownBy w' (some q0)) (hat : q0 = g ∨ g = w.heap.size) (ho : w'.ownsRow c.w1.heap.size 56 7 (.slice (some ⟨g, 0, none⟩) c.dn cp) c.dn vs) (hE : DoEls c.w1 vs c.l) : WF c (setL ℓ 3) (updS σ 3 (.slice (some ⟨g, 0, none⟩) c.dn cp)) fv av τ N w' := by
  have h7 : ℓ 7 = false := by
    cases h7 : ℓ 7 with
    | false => rfl
    | true => have := (h.c7 h7).1; rw [hi] at this; cases this
  have h8 : ℓ 8 = false := by
    cases h8 : ℓ 8 with
    | false => rfl
    | true => have := (h.c8 h8).2; rw [h7] at this; cases this
  obtain ⟨q0', e0', hb0, hl0⟩ := h.f1 h1 hi
  rw [hq] at e0'
  obtain rfl : q0 = q0' := by simpa using e0'
  refine ⟨?_, ?_, ?_, ?_, ?_, ?_, ?_, ?_, ?_, ?_, ?_, ?_, ?_, ?_, ?_, ?_, ?_, ?_, ?_, ?_, ?_, ?_, ?_, ?_, ?_, ?_, ?_⟩
  · exact h.bel.grown hg h.bel.size (fun b hb => by cases hb; exact hl0)
  · exact fun _ => ⟨h1, h2⟩
  · exact h.c6
  · exact fun q => ⟨rfl, (h.c7 q).2⟩
  · exact h.c8
  · exact h.c9
  · exact h.c10
  · exact h.c11
  · exact h.c12
  · exact h.c15
  · exact h.c17
  · exact h.e0
  · exact h.e2
  · exact h.e4
  · exact h.e5
  · exact fun _ q => absurd (show setL ℓ 3 3 = true from rfl) (by rw [q]; decide)
  · exact fun _ _ => ⟨g, cp, vs, rfl, ho, hE⟩
  · intro h6 _
    obtain ⟨b, q1, q2, q3, q4, -⟩ := h.f6 h6 h7
    have hne : b ≠ q0 := fun e => q4 h1 hi (by rw [hq, e])
    refine ⟨b, q1, grown_box7 hg q2 hne, q3, fun _ q => absurd (show setL ℓ 3 3 = true from rfl) (by rw [q]; decide), fun _ cp' e => ?_⟩
    have e' : Value.slice (some ⟨g, 0, none⟩) c.dn cp = .slice (some ⟨b, 0, none⟩) c.dn cp' := e
    have hl := lt_heap q2
    simp at e'
    all_goals (rcases hat with hat | hat <;> omega)
  · exact fun q => absurd (show ℓ 7 = true from q) (by rw [h7]; decide)
  · exact fun q => absurd (show ℓ 8 = true from q) (by rw [h8]; decide)
  · exact h.e9
  · exact h.e10
  · exact h.e11
  · exact h.e12
  · intro q
    obtain ⟨b, u0, u1, q1, q2, q3, q4, q5⟩ := h.f13 q
    have hne : b ≠ q0 := fun e => by rw [e, hb0] at q2; cases q2
    exact ⟨b, u0, u1, q1, grown_box7 hg q2 hne, q3, q4, q5⟩
  · intro q
    obtain ⟨b, u0, u1, q1, q2, q3, q4, q5⟩ := h.f14 q
    have hne : b ≠ q0 := fun e => by rw [e, hb0] at q2; cases q2
    exact ⟨b, u0, u1, q1, grown_box7 hg q2 hne, q3, q4, q5⟩
  · exact h.e16
theorem WF.op3z {c : ApC} {ℓ : Nat → Bool} {σ : Nat → Value} {fv av : Value} {τ : Nat → Tag} {N : Nat} {w : World} (h : WF c ℓ σ fv av τ N w) (hi : ℓ 3 = false) (h1 : ℓ 1 = true) (h2 : ℓ 2 = true) (hd : c.dn = 0) (hl : c.l = []) : WF c (setL ℓ 3) (updS σ 3 (σ 1)) fv av τ N w := by
  have h7 : ℓ 7 = false := by
    cases h7 : ℓ 7 with
    | false => rfl
    | true => have := (h.c7 h7).1; rw [hi] at this; cases this
  have h8 : ℓ 8 = false := by
    cases h8 : ℓ 8 with
    | false => rfl
    | true => have := (h.c8 h8).2; rw [h7] at this; cases this
  obtain ⟨q0, hq, hb0, hl0⟩ := h.f1 h1 hi
  refine ⟨?_, ?_, ?_, ?_, ?_, ?_, ?_, ?_, ?_, ?_, ?_, ?_, ?_, ?_, ?_, ?_, ?_, ?_, ?_, ?_, ?_, ?_, ?_, ?_, ?_, ?_, ?_⟩
  · exact h.bel
  · exact fun _ => ⟨h1, h2⟩
  · exact h.c6
  · exact fun q => ⟨rfl, (h.c7 q).2⟩
  · exact h.c8
  · exact h.c9
  · exact h.c10
  · exact h.c11
  · exact h.c12
  · exact h.c15
  · exact h.c17
  · exact h.e0
  · exact h.e2
  · exact h.e4
  · exact h.e5
  · exact fun _ q => absurd (show setL ℓ 3 3 = true from rfl) (by rw [q]; decide)
  · intro _ _
    refine ⟨q0, 0, [], by rw [hd]; exact hq, ?_, by rw [hl]; exact doEls_nil _⟩
    rw [hd]
    exact own7_empty hb0 hl0
  · intro h6 _
    obtain ⟨b, q1, q2, q3, q4, -⟩ := h.f6 h6 h7
    refine ⟨b, q1, q2, q3, fun _ q => absurd (show setL ℓ 3 3 = true from rfl) (by rw [q]; decide), fun _ cp' e => ?_⟩
    have e' : σ 1 = .slice (some ⟨b, 0, none⟩) c.dn cp' := e
    apply q4 h1 hi
    rw [hq] at e' ⊢
    simp at e' ⊢
    exact e'.1
  · exact fun q => absurd (show ℓ 7 = true from q) (by rw [h7]; decide)
  · exact fun q => absurd (show ℓ 8 = true from q) (by rw [h8]; decide)
  · exact h.e9
  · exact h.e10
  · exact h.e11
  · exact h.e12
  · exact h.f13
  · exact h.f14
  · exact h.e16
theorem WF.op7 {c : ApC} {ℓ : Nat → Bool} {σ : Nat → Value} {fv av : Value} {τ : Nat → Tag} {N : Nat} {w w' : World} (h : WF c ℓ σ fv av τ N w) (hi : ℓ 7 = false) (h3 : ℓ 3 = true) (h6 : ℓ 6 = true) {q0 cp0 : Nat} {vs : List Value} {va : Option Addr} {cp : Nat} (ho : w.ownsRow c.w1.heap.size 56 7 (.slice (some ⟨q0, 0, none⟩) c.dn cp0) c.dn vs) (hg : w.grownBy w' (some q0)) (hD : DosAt w' (.slice va (c.dn + 2) cp) (c.l ++ [c.X] ++ [c.Y])) : WF c (setL ℓ 7) (updS σ 7 (.slice va (c.dn + 2) cp)) fv av τ N w' := by
  have h8 : ℓ 8 = false := by
    cases h8 : ℓ 8 with
    | false => rfl
    | true => have := (h.c8 h8).2; rw [hi] at this; cases this
  have hl0 : c.w1.heap.size ≤ q0 := own7_block ho rfl
  refine ⟨?_, ?_, ?_, ?_, ?_, ?_, ?_, ?_, ?_, ?_, ?_, ?_, ?_, ?_, ?_, ?_, ?_, ?_, ?_, ?_, ?_, ?_, ?_, ?_, ?_, ?_, ?_⟩
  · exact h.bel.grown hg h.bel.size (fun b hb => by cases hb; exact hl0)
  · exact h.c3
  · exact h.c6
  · exact fun _ => ⟨h3, h6⟩
  · exact fun q => ⟨(h.c8 q).1, rfl⟩
  · exact h.c9
  · exact h.c10
  · exact h.c11
  · exact h.c12
  · exact h.c15
  · exact h.c17
  · exact h.e0
  · exact h.e2
  · exact h.e4
  · exact h.e5
  · exact fun _ q => absurd (show ℓ 3 = false from q) (by rw [h3]; decide)
  · exact fun _ q => absurd (show setL ℓ 7 7 = true from rfl) (by rw [q]; decide)
  · exact fun _ q => absurd (show setL ℓ 7 7 = true from rfl) (by rw [q]; decide)
  · exact fun _ _ => ⟨va, cp, rfl, hD⟩
  · exact fun q => absurd (show ℓ 8 = true from q) (by rw [h8]; decide)
  · exact h.e9
  · exact h.e10
  · exact h.e11
  · exact h.e12
  · intro q
    obtain ⟨b, u0, u1, q1, q2, q3, q4, q5⟩ := h.f13 q
    have hne : b ≠ q0 := fun e => own7_apart ho (by decide) q2 (by rw [e]; rfl)
    exact ⟨b, u0, u1, q1, grown_box7 hg q2 hne, q3, q4, q5⟩
  · intro q
    obtain ⟨b, u0, u1, q1, q2, q3, q4, q5⟩ := h.f14 q
    have hne : b ≠ q0 := fun e => own7_apart ho (by decide) q2 (by rw [e]; rfl)
    exact ⟨b, u0, u1, q1, grown_box7 hg q2 hne, q3, q4, q5⟩
  · exact h.e16
theorem WF.op8 {c : ApC} {ℓ : Nat → Bool} {σ : Nat → Value} {fv av : Value} {τ : Nat → Tag} {N : Nat} {w w' : World} (h : WF c ℓ σ fv av τ N w) (hi : ℓ 8 = false) (h0 : ℓ 0 = true) (h7 : ℓ 7 = true) (h16 : ℓ 16 = true → ℓ 11 = true) {fv' av' : Value} {τ' : Nat → Tag} {N' : Nat} (hb : Below w.heap.size w w') (hF : FltM τ' N' w' fv' c.P) (hA : AnM τ' N' w' av' c.A) (hlow : ∀ b, b < w.heap.size → τ' b = tNo) : WF c (setL ℓ 8) (updS σ 8 (.tuple #[fv', av', faultV c.F])) fv' av' τ' N' w' := by
  have G := h.grow hb
  have h9 : ℓ 9 ≠ true := fun q => by have := h.c9 q; rw [hi] at this; cases this
  have h10 : ℓ 10 ≠ true := fun q => h9 (h.c10 q)
  have h11 : ℓ 11 ≠ true := fun q => h9 (h.c11 q)
  have h12 : ℓ 12 ≠ true := fun q => h9 (h.c12 q)
  refine ⟨?_, ?_, ?_, ?_, ?_, ?_, ?_, ?_, ?_, ?_, ?_, ?_, ?_, ?_, ?_, ?_, ?_, ?_, ?_, ?_, ?_, ?_, ?_, ?_, ?_, ?_, ?_⟩
  · exact G.bel
  · exact G.c3
  · exact G.c6
  · exact G.c7
  · exact fun _ => ⟨h0, h7⟩
  · exact fun _ => rfl
  · exact G.c10
  · exact G.c11
  · exact G.c12
  · exact G.c15
  · exact G.c17
  · exact G.e0
  · exact G.e2
  · exact G.e4
  · exact G.e5
  · exact G.f1
  · exact G.f3
  · exact G.f6
  · exact fun _ q => absurd (show setL ℓ 8 8 = true from rfl) (by rw [q]; decide)
  · exact fun _ => ⟨rfl, hF, hA⟩
  · exact fun q => absurd q h9
  · exact fun q => absurd q h10
  · exact fun q => absurd q h11
  · exact fun q => absurd q h12
  · intro q
    obtain ⟨b, u0, u1, q1, q2, q3, -, -⟩ := h.f13 q
    exact ⟨b, u0, u1, q1, box_kept q2 hb, q3, fun _ => hlow b (lt_heap q2), fun q => absurd (h.c15 q).2 h10⟩
  · intro q
    obtain ⟨b, u0, u1, q1, q2, q3, -, -⟩ := h.f14 q
    exact ⟨b, u0, u1, q1, box_kept q2 hb, q3, fun _ => hlow b (lt_heap q2), fun q => absurd (h.c17 q).2 h12⟩
  · exact fun q => absurd (h16 q) h11
theorem WF.op15 {c : ApC} {ℓ : Nat → Bool} {σ : Nat → Value} {fv av : Value} {τ : Nat → Tag} {N : Nat} {w : World} (h : WF c ℓ σ fv av τ N w) (h13 : ℓ 13 = true) (h10 : ℓ 10 = true) {g : Nat} {u0 u1 : Value} (hs : σ 13 = .pointer (some ⟨g, 0, none⟩)) (hv : fv = .agg #[u0, u1]) : WF c (setL ℓ 15) (updS σ 15 undef) fv av τ N ((w.setCell ⟨g, 0, none⟩ u0).setCell ⟨g, 1, none⟩ u1) := by
  have h9 : ℓ 9 = true := h.c10 h10
  have h8 := h.c9 h9
  have h7 := (h.c8 h8).2
  have h3 := (h.c7 h7).1
  obtain ⟨g', v0, v1, q1, q2, q3, q4, -⟩ := h.f13 h13
  rw [hs] at q1
  obtain rfl : g = g' := by simpa using q1
  have hx := two_set q2 u0 u1
  have ht := q4 h8
  have hr : ∀ b, some g = some b → τ b = tNo := fun b hb => by cases hb; exact ht
  refine ⟨?_, ?_, ?_, ?_, ?_, ?_, ?_, ?_, ?_, ?_, ?_, ?_, ?_, ?_, ?_, ?_, ?_, ?_, ?_, ?_, ?_, ?_, ?_, ?_, ?_, ?_, ?_⟩
  · exact two_below h.bel q3 u0 u1
  · exact h.c3
  · exact h.c6
  · exact h.c7
  · exact h.c8
  · exact h.c9
  · exact h.c10
  · exact h.c11
  · exact h.c12
  · exact fun _ => ⟨h13, h10⟩
  · exact h.c17
  · exact h.e0
  · exact h.e2
  · exact h.e4
  · exact h.e5
  · exact fun _ q => absurd (show ℓ 3 = false from q) (by rw [h3]; decide)
  · exact fun _ q => absurd (show ℓ 7 = false from q) (by rw [h7]; decide)
  · exact fun _ q => absurd (show ℓ 7 = false from q) (by rw [h7]; decide)
  · exact fun _ q => absurd (show ℓ 8 = false from q) (by rw [h8]; decide)
  · intro q
    obtain ⟨k1, k2, k3⟩ := h.f8 q
    refine ⟨k1, (k2.upd (upd_set τ w g 0 u0) hr).upd (upd_set τ _ g 1 u1) hr, (k3.upd (upd_set τ w g 0 u0) (fun b hb => by rw [hr b hb]; decide) (fun b hb => by rw [hr b hb]; decide)).upd (upd_set τ _ g 1 u1) (fun b hb => by rw [hr b hb]; decide) (fun b hb => by rw [hr b hb]; decide)⟩
  · exact h.e9
  · exact h.e10
  · exact h.e11
  · exact h.e12
  · exact fun _ => ⟨g, u0, u1, hs, hx, q3, fun _ => ht, fun _ => hv⟩
  · intro q
    obtain ⟨b, y0, y1, k1, k2, k3, k4, k5⟩ := h.f14 q
    have hne : b ≠ g := fun e => by rw [e, q2] at k2; simp at k2
    exact ⟨b, y0, y1, k1, two_far k2 hne u0 u1, k3, k4, k5⟩
  · exact h.e16
theorem WF.op17 {c : ApC} {ℓ : Nat → Bool} {σ : Nat → Value} {fv av : Value} {τ : Nat → Tag} {N : Nat} {w : World} (h : WF c ℓ σ fv av τ N w) (h14 : ℓ 14 = true) (h12 : ℓ 12 = true) {g : Nat} {u0 u1 : Value} (hs : σ 14 = .pointer (some ⟨g, 0, none⟩)) (hv : faultV c.F = .agg #[u0, u1]) : WF c (setL ℓ 17) (updS σ 17 undef) fv av τ N ((w.setCell ⟨g, 0, none⟩ u0).setCell ⟨g, 1, none⟩ u1) := by
  have h9 : ℓ 9 = true := h.c12 h12
  have h8 := h.c9 h9
  have h7 := (h.c8 h8).2
  have h3 := (h.c7 h7).1
  obtain ⟨g', v0, v1, q1, q2, q3, q4, -⟩ := h.f14 h14
  rw [hs] at q1
  obtain rfl : g = g' := by simpa using q1
  have hx := two_set q2 u0 u1
  have ht := q4 h8
  have hr : ∀ b, some g = some b → τ b = tNo := fun b hb => by cases hb; exact ht
  refine ⟨?_, ?_, ?_, ?_, ?_, ?_, ?_, ?_, ?_, ?_, ?_, ?_, ?_, ?_, ?_, ?_, ?_, ?_, ?_, ?_, ?_, ?_, ?_, ?_, ?_, ?_, ?_⟩
  · exact two_below h.bel q3 u0 u1
  · exact h.c3
  · exact h.c6
  · exact h.c7
  · exact h.c8
  · exact h.c9
  · exact h.c10
  · exact h.c11
  · exact h.c12
  · exact h.c15
  · exact fun _ => ⟨h14, h12⟩
  · exact h.e0
  · exact h.e2
  · exact h.e4
  · exact h.e5
  · exact fun _ q => absurd (show ℓ 3 = false from q) (by rw [h3]; decide)
  · exact fun _ q => absurd (show ℓ 7 = false from q) (by rw [h7]; decide)
  · exact fun _ q => absurd (show ℓ 7 = false from q) (by rw [h7]; decide)
  · exact fun _ q => absurd (show ℓ 8 = false from q) (by rw [h8]; decide)
  · intro q
    obtain ⟨k1, k2, k3⟩ := h.f8 q
    refine ⟨k1, (k2.upd (upd_set τ w g 0 u0) hr).upd (upd_set τ _ g 1 u1) hr, (k3.upd (upd_set τ w g 0 u0) (fun b hb => by rw [hr b hb]; decide) (fun b hb => by rw [hr b hb]; decide)).upd (upd_set τ _ g 1 u1) (fun b hb => by rw [hr b hb]; decide) (fun b hb => by rw [hr b hb]; decide)⟩
  · exact h.e9
  · exact h.e10
  · exact h.e11
  · exact h.e12
  · intro q
    obtain ⟨b, y0, y1, k1, k2, k3, k4, k5⟩ := h.f13 q
    have hne : b ≠ g := fun e => by rw [e, q2] at k2; simp at k2
    exact ⟨b, y0, y1, k1, two_far k2 hne u0 u1, k3, k4, k5⟩
  · exact fun _ => ⟨g, u0, u1, hs, hx, q3, fun _ => ht, fun _ => hv⟩
  · exact h.e16

end Go.Proofs.YtkjlchfmplcobagGreatDoor

/- The region of append(append([]api.Do{}, l...), x, y) and Play, whatever order is picked: for the law FleetApart. -/
namespace Go.Proofs.YtkjlchfmplcobagGreatDoor
open Go.RowKit

/-- Where the operations' values go. -/
def apDst (s d : Nat) : Nat → Option Nat
  | 0 => some s
  | 1 => some (s + 1)
  | 2 => some (s + 2)
  | 3 => some (s + 3)
  | 4 => some (s + 4)
  | 5 => some (s + 5)
  | 6 => some (s + 6)
  | 7 => some (s + 7)
  | 8 => some (s + 8)
  | 9 => some (s - 1)
  | 10 => some (s + 9)
  | 11 => some (s + 10)
  | 12 => some (s + 11)
  | 13 => some d
  | 14 => some (d + 2)
  | 16 => some (d + 1)
  | _ => none
def apOp (s d x y : Nat) : Nat → Op
  | 0 => .move (.tmp 0)
  | 1 => .buildSlice 23 0 #[]
  | 2 => .move (.tmp 1)
  | 3 => .call { callee := .builtin .append, args := #[.tmp (s + 1), .tmp (s + 2)], argTypes := #[23, 23] }
  | 4 => .load 56 (.tmp x)
  | 5 => .load 56 (.tmp y)
  | 6 => .buildSlice 23 2 #[(0, .tmp (s + 4)), (1, .tmp (s + 5))]
  | 7 => .call { callee := .builtin .append, args := #[.tmp (s + 3), .tmp (s + 6)], argTypes := #[23, 23] }
  | 8 => .call { callee := .value (.func 8), args := #[.tmp s, .tmp (s + 7)], argTypes := #[22, 23] }
  | 9 => .move (.tmp (s + 8))
  | 10 => .extract (.tmp (s - 1)) 0
  | 11 => .extract (.tmp (s - 1)) 1
  | 12 => .extract (.tmp (s - 1)) 2
  | 13 => .alloc 28
  | 14 => .alloc 32
  | 15 => .store 28 (.tmp d) (.tmp (s + 9))
  | 16 => .assign (.tmp (s + 10))
  | _ => .store 32 (.tmp (d + 2)) (.tmp (s + 11))
def apDep : Nat → List Nat
  | 3 => [1, 2]
  | 6 => [4, 5]
  | 7 => [3, 6]
  | 8 => [0, 7]
  | 9 => [8]
  | 10 => [9]
  | 11 => [9]
  | 12 => [9]
  | 15 => [13, 10]
  | 16 => [11]
  | 17 => [14, 12]
  | _ => []
structure ApOps (ops : Array Oper) (s d x y : Nat) : Prop where
  size : ops.size = 18
  low : ∀ i o, ops[i]? = some o → ∀ e ∈ o.after, Region.binds .any e = true → e.on < i
  op : ∀ i, i < 18 → ∃ o, ops[i]? = some o ∧ o.guard = none ∧ o.dst = apDst s d i ∧ o.op = apOp s d x y i ∧ ∀ j ∈ apDep i, ∃ e ∈ o.after, e.on = j ∧ Region.binds .any e = true
/-- What is known of the slots. -/
structure ApS (c : ApC) (a0 : Act) (s d x y bx by' : Nat) : Prop where
  inj : ∀ i j k, i < 18 → j < 18 → apDst s d i = some k → apDst s d j = some k → i = j
  bnd : ∀ i k, apDst s d i = some k → k < a0.tmps.size
  out : ∀ k, k = 0 ∨ k = 1 ∨ k = x ∨ k = y → ∀ i, i < 18 → apDst s d i ≠ some k
  t0 : a0.tmps.getD 0 undef = c.wv
  t1 : a0.tmps.getD 1 undef = .slice c.da c.dn c.dc
  tx : a0.tmps.getD x undef = .pointer (some ⟨bx, 0, none⟩)
  ty : a0.tmps.getD y undef = .pointer (some ⟨by', 0, none⟩)
  hx : c.w1.heap[bx]? = some (.cells #[.int .i64 c.X.kind, .int .i64 c.X.n, .int .i64 c.X.time, .slice c.xa c.X.entry.length c.xc, .int .i64 c.X.segment, .int .i64 c.X.at', .int .u8 c.X.by'] 56 (0, 0))
  hy : c.w1.heap[by']? = some (.cells #[.int .i64 c.Y.kind, .int .i64 c.Y.n, .int .i64 c.Y.time, .slice c.ya c.Y.entry.length c.yc, .int .i64 c.Y.segment, .int .i64 c.Y.at', .int .u8 c.Y.by'] 56 (0, 0))
  dos : DosAt c.w1 (.slice c.da c.dn c.dc) c.l
  len : c.l.length = c.dn
  few : c.dn ≤ 1000
  ex : Some' c.w1 (.slice c.xa c.X.entry.length c.xc) c.X.entry
  ey : Some' c.w1 (.slice c.ya c.Y.entry.length c.yc) c.Y.entry
  fx : DdFit c.X
  fy : DdFit c.Y
  play : ∀ va cp w, Below c.w1.heap.size c.w1 w → DosAt w (.slice va (c.dn + 2) cp) (c.l ++ [c.X] ++ [c.Y]) → Calls Tryz.prog 8 #[c.wv, .slice va (c.dn + 2) cp] w fun e w' => ∃ fv av τ N, e = .returned (.tuple #[fv, av, faultV c.F]) ∧ FltM τ N w' fv c.P ∧ AnM τ N w' av c.A ∧ (∀ b, b < w.heap.size → τ b = tNo) ∧ Below w.heap.size w w'
structure ApI (c : ApC) (a0 : Act) (s d : Nat) (σ : Nat → Value) (fv av : Value) (τ : Nat → Tag) (N : Nat) (listed : Array Bool) (a : Act) (w : World) : Prop where
  sz : listed.size = 18
  asz : a.tmps.size = a0.tmps.size
  df : a.defers = a0.defers
  fr : ∀ k, (∀ i, i < 18 → apDst s d i ≠ some k) → a.tmps.getD k undef = a0.tmps.getD k undef
  val : ∀ i, i < 18 → listed.getD i false = true → ∀ k, apDst s d i = some k → a.tmps.getD k undef = σ i
  c16 : listed.getD 16 false = true → listed.getD 11 false = true
  wf : WF c (fun j => listed.getD j false) σ fv av τ N w
theorem getD_put (t : Array Value) (k j : Nat) (v : Value) (hk : k < t.size) : (t.setIfInBounds k v).getD j undef = if k = j then v else t.getD j undef := by
  simp only [Array.getD_eq_getD_getElem?, Array.getElem?_setIfInBounds]
  by_cases h : k = j
  · subst h; simp [hk]
  · rw [if_neg h, if_neg h]
/-- An operation was carried out. -/
theorem ApI.step {c : ApC} {a0 : Act} {s d x y bx by' : Nat} {σ : Nat → Value} {fv av fv' av' : Value} {τ τ' : Nat → Tag} {N N' : Nat} {listed : Array Bool} {a : Act} {w w' : World} (hS : ApS c a0 s d x y bx by') (h : ApI c a0 s d σ fv av τ N listed a w) {i : Nat} (hi : i < 18) (hl : listed[i]? = some false) (v : Value)
    (h16 : i = 16 → listed.getD 11 false = true) (hwf : WF c (setL (fun j => listed.getD j false) i) (updS σ i v) fv' av' τ' N' w') : ApI c a0 s d (updS σ i v) fv' av' τ' N' (listed.setIfInBounds i true) (a.put (apDst s d i) v) w' := by
  have hsz : i < listed.size := by rw [h.sz]; exact hi
  have hfl : ∀ j, (listed.setIfInBounds i true).getD j false = setL (fun j => listed.getD j false) i j := fun j => flag_set hsz
  have hself : listed.getD i false = false := by simp [Array.getD_eq_getD_getElem?, hl]
  cases hd : apDst s d i with
  | none =>
    refine ⟨by rw [Array.size_setIfInBounds]; exact h.sz, h.asz, h.df, h.fr, fun j hj hq k hk => ?_, ?_, ?_⟩
    · by_cases e : j = i
      · rw [e, hd] at hk; cases hk
      · rw [hfl] at hq
        have hq' : listed.getD j false = true := by
          have e' : (j == i) = false := by simpa using e
          unfold setL at hq
          rw [e', Bool.false_or] at hq
          exact hq
        show a.tmps.getD k undef = updS σ i v j
        unfold updS
        rw [if_neg e]
        exact h.val j hj hq' k hk
    · rw [hfl, hfl]
      unfold setL
      dsimp only
      by_cases e : i = 16
      · subst e; intro _; rw [h16 rfl, Bool.or_true]
      · have e' : (16 == i) = false := by simpa using fun q => e q.symm
        rw [e', Bool.false_or]
        intro q
        rw [h.c16 q, Bool.or_true]
    · have : (fun j => (listed.setIfInBounds i true).getD j false) = setL (fun j => listed.getD j false) i := funext hfl
      rw [this]; exact hwf
  | some k0 =>
    have hb := hS.bnd i k0 hd
    have hk0 : k0 < a.tmps.size := by rw [h.asz]; exact hb
    refine ⟨by rw [Array.size_setIfInBounds]; exact h.sz, by show (a.tmps.setIfInBounds k0 v).size = _; rw [Array.size_setIfInBounds]; exact h.asz, h.df, fun k hk => ?_, fun j hj hq k hk => ?_, ?_, ?_⟩
    · show (a.tmps.setIfInBounds k0 v).getD k undef = _
      rw [getD_put _ _ _ _ hk0, if_neg (fun e => hk i hi (by rw [hd, e]))]
      exact h.fr k hk
    · show (a.tmps.setIfInBounds k0 v).getD k undef = updS σ i v j
      rw [getD_put _ _ _ _ hk0]
      unfold updS
      by_cases e : j = i
      · subst e
        rw [hd] at hk
        cases hk
        rw [if_pos rfl, if_pos rfl]
      · rw [if_neg e, if_neg (fun q => e (hS.inj j i k hj hi hk (by rw [hd, q])))]
        rw [hfl] at hq
        have hq' : listed.getD j false = true := by
          have e' : (j == i) = false := by simpa using e
          unfold setL at hq
          rw [e', Bool.false_or] at hq
          exact hq
        exact h.val j hj hq' k hk
    · rw [hfl, hfl]
      unfold setL
      dsimp only
      by_cases e : i = 16
      · subst e; intro _; rw [h16 rfl, Bool.or_true]
      · have e' : (16 == i) = false := by simpa using fun q => e q.symm
        rw [e', Bool.false_or]
        intro q
        rw [h.c16 q, Bool.or_true]
    · have : (fun j => (listed.setIfInBounds i true).getD j false) = setL (fun j => listed.getD j false) i := funext hfl
      rw [this]; exact hwf
/-- The values of things that came in, one behind the other. -/
theorem dos_news {w : World} {b off n c : Nat} {l : List Dd} (h : DosAt w (.slice (some ⟨b, off, none⟩) n c) l) (hn : l.length = n) : ∃ vs, DoEls w vs l ∧ (∀ u ∈ vs, u.oneCell' = true) ∧ ∀ j u, vs[j]? = some u → w.cell? ((⟨b, off, none⟩ : Addr).add j) = some u := by
  have key : ∀ k, k ≤ n → ∃ vs, DoEls w vs (l.take k) ∧ (∀ u ∈ vs, u.oneCell' = true) ∧ ∀ j u, vs[j]? = some u → w.cell? ((⟨b, off, none⟩ : Addr).add j) = some u := by
    intro k
    induction k with
    | zero => exact fun _ => ⟨[], by rw [List.take_zero]; exact doEls_nil w, fun u hu => absurd hu (by simp), fun j u hj => by simp at hj⟩
    | succ k ih =>
      intro hk
      obtain ⟨vs, h1, h2, h3⟩ := ih (by omega)
      obtain ⟨b', o', e, -, hX⟩ := h.get hn (show k < n by omega)
      cases e
      obtain ⟨q0, q1, q2, ⟨pa, pc, q3, q3'⟩, q4, q5, q6, q7⟩ := hX
      have ht : l.take (k + 1) = l.take k ++ [l.getD k dd0] := take_snoc_dd (by omega)
      have hl : vs.length = k * 7 := by rw [h1.1, List.length_take]; congr 1; omega
      refine ⟨vs ++ ddV (l.getD k dd0) pa pc, by rw [ht]; exact h1.snoc q3' q7, fun u hu => ?_, fun j u hj => ?_⟩
      · rcases List.mem_append.1 hu with hu | hu
        · exact h2 u hu
        · exact ddV_one _ _ _ u hu
      · by_cases hjl : j < vs.length
        · rw [List.getElem?_append_left hjl] at hj; exact h3 j u hj
        · rw [List.getElem?_append_right (by omega)] at hj
          rw [Addr.add_mid]
          obtain ⟨r, hr⟩ : ∃ r, j = k * 7 + r := ⟨j - k * 7, by omega⟩
          rw [hl, hr, show k * 7 + r - k * 7 = r by omega] at hj
          rw [hr, show off + (k * 7 + r) = off + k * 7 + r by omega]
          match r, hj with
          | 0, hj => simp [ddV] at hj; subst hj; exact q0
          | 1, hj => simp [ddV] at hj; subst hj; exact q1
          | 2, hj => simp [ddV] at hj; subst hj; exact q2
          | 3, hj => simp [ddV] at hj; subst hj; exact q3
          | 4, hj => simp [ddV] at hj; subst hj; exact q4
          | 5, hj => simp [ddV] at hj; subst hj; exact q5
          | 6, hj => simp [ddV] at hj; subst hj; exact q6
          | r + 7, hj => simp [ddV] at hj
  obtain ⟨vs, h1, h2, h3⟩ := key n (Nat.le_refl _)
  rw [List.take_of_length_le (by omega)] at h1
  exact ⟨vs, h1, h2, h3⟩

theorem lit2_one (X Y : Dd) (xa ya : Option Addr) (xc yc : Nat) : ∀ u ∈ (lit2 X Y xa ya xc yc).toList, u.oneCell' = true := by
  intro u hu
  simp at hu
  rcases hu with rfl | rfl | rfl | rfl | rfl | rfl | rfl | rfl | rfl | rfl | rfl | rfl | rfl | rfl <;> rfl
theorem ap_step {c : ApC} {a0 : Act} {s d x y bx by' : Nat} {ops : Array Oper} {Q : Exit → Act → World → Prop} (hO : ApOps ops s d x y) (hS : ApS c a0 s d x y bx by') :
    ∀ listed a w i, (∃ σ fv av τ N, ApI c a0 s d σ fv av τ N listed a w) → i ∈ Region.ready .any ops listed → wpOp Tryz.prog ops Q i (fun a' w' => ∃ σ fv av τ N, ApI c a0 s d σ fv av τ N (listed.setIfInBounds i true) a' w') a w := by
  obtain ⟨i0, hi0, hz0, hz1, hz2⟩ := info_parts Tryz.info56b
  rintro listed a w i ⟨σ, fv, av, τ, N, h⟩ hi
  obtain ⟨hi1, hl, hdep⟩ := ready_inv hi
  rw [hO.size] at hi1
  obtain ⟨o, ho, hg, hd, hop, hdp⟩ := hO.op i hi1
  have hdeps : ∀ j ∈ apDep i, listed.getD j false = true := fun j hj => by
    obtain ⟨e, he, rfl, hb⟩ := hdp j hj
    exact hdep o ho e he hb
  have hself : listed.getD i false = false := by simp [Array.getD_eq_getD_getElem?, hl]
  have val : ∀ j, j < 18 → listed.getD j false = true → ∀ k, apDst s d j = some k → a.eval (.tmp k) = σ j := fun j hj hq k hk => h.val j hj hq k hk
  have fin : ∀ (v fv' av' : Value) (τ' : Nat → Tag) (N' : Nat) (w' : World), (i = 16 → listed.getD 11 false = true) → WF c (setL (fun j => listed.getD j false) i) (updS σ i v) fv' av' τ' N' w' → ∃ σ fv av τ N, ApI c a0 s d σ fv av τ N (listed.setIfInBounds i true) (a.put o.dst v) w' := fun v fv' av' τ' N' w' h16 hwf => ⟨_, _, _, _, _, by rw [hd]; exact h.step hS hi1 hl v h16 hwf⟩
  have W := h.wf
  refine wpOp_of ho hg ?_
  rcases (show i = 0 ∨ i = 1 ∨ i = 2 ∨ i = 3 ∨ i = 4 ∨ i = 5 ∨ i = 6 ∨ i = 7 ∨ i = 8 ∨ i = 9 ∨ i = 10 ∨ i = 11 ∨ i = 12 ∨ i = 13 ∨ i = 14 ∨ i = 15 ∨ i = 16 ∨ i = 17 by omega) with rfl | rfl | rfl | rfl | rfl | rfl | rfl | rfl | rfl | rfl | rfl | rfl | rfl | rfl | rfl | rfl | rfl | rfl
  · have e : a.eval (.tmp 0) = c.wv := (h.fr 0 (hS.out 0 (.inl rfl))).trans hS.t0
    exact wp_of_run (v := c.wv) (by rw [ex_move (.tmp 0) hop, e]) (fin _ _ _ _ _ _ (by omega) W.op0)
  · exact wp_of_run (ex_build0 hop) (fin _ _ _ _ _ _ (by omega) W.op1)
  · have e : a.eval (.tmp 1) = .slice c.da c.dn c.dc := (h.fr 1 (hS.out 1 (.inr (.inl rfl)))).trans hS.t1
    exact wp_of_run (v := .slice c.da c.dn c.dc) (by rw [ex_move (.tmp 1) hop, e]) (fin _ _ _ _ _ _ (by omega) W.op2)
  · have h1 := hdeps 1 (by simp [apDep])
    have h2 := hdeps 2 (by simp [apDep])
    have v1 := val 1 (by omega) h1 _ rfl
    have v2 := (val 2 (by omega) h2 _ rfl).trans (W.e2 h2)
    obtain ⟨g, q1, q2, q3⟩ := W.f1 h1 hself
    by_cases hz : c.dn = 0
    · rw [hz] at v2
      refine wp_of_run (v := σ 1) (by rw [ex_append0 _ _ hop (v1.trans q1) v2, q1]) (fin _ _ _ _ _ _ (by omega) (W.op3z hself h1 h2 hz (List.eq_nil_of_length_eq_zero (by rw [hS.len]; exact hz))))
    · obtain ⟨db, doff, hda⟩ : ∃ db doff, c.da = some ⟨db, doff, none⟩ := by obtain ⟨b, of, e, -⟩ := hS.dos.get hS.len (show 0 < c.dn by omega); exact ⟨b, of, e⟩
      have hdos := hS.dos
      rw [hda] at hdos
      obtain ⟨vs, n1, n2, n3⟩ := dos_news hdos hS.len
      have hb' : db < c.w1.heap.size := by obtain ⟨b, of, e, hb, -⟩ := hdos.get hS.len (show 0 < c.dn by omega); cases e; exact hb
      rw [hda] at v2
      have hf := hS.few
      refine wp_append_lies w (.tmp (s + 1)) (.tmp (s + 2)) 23 hop c.w1.heap.size 56 i0 _ 7 72 Tryz.underlying23 hi0 hz0 hz1 hz2 rfl (by decide) (.slice (some ⟨g, 0, none⟩) 0 0) 0 [] (v1.trans q1) (own7_empty q2 q3) ⟨db, doff, none⟩ c.dn c.dc vs v2 (by rw [n1.1, hS.len]) (fun j u hj => ?_) n2 (by omega) (by unfold maxLen; omega) (by omega) W.bel.size w.heap.size rfl (fun g' cap w' o1 o2 o3 o4 => ?_)
      · have := n3 j u hj
        rw [Addr.add_mid] at this ⊢
        exact (W.bel.cell (p := ⟨db, doff + j, none⟩) hb').trans this
      · rw [Nat.zero_add, List.nil_append] at o1
        rw [Nat.zero_add]
        refine fin _ _ _ _ _ _ (by omega) (W.op3 hself h1 h2 q1 o2 ?_ o1 n1)
        rcases o3 with o3 | o3
        · exact .inl (by simpa [Value.ownBlock] using o3)
        · exact .inr o3
  · have e : a.eval (.tmp x) = .pointer (some ⟨bx, 0, none⟩) := (h.fr x (hS.out x (.inr (.inr (.inl rfl))))).trans hS.tx
    exact wp_of_run (ex_load_do (.tmp x) hop e (box_kept hS.hx W.bel)) (fin _ _ _ _ _ _ (by omega) W.op4)
  · have e : a.eval (.tmp y) = .pointer (some ⟨by', 0, none⟩) := (h.fr y (hS.out y (.inr (.inr (.inr rfl))))).trans hS.ty
    exact wp_of_run (ex_load_do (.tmp y) hop e (box_kept hS.hy W.bel)) (fin _ _ _ _ _ _ (by omega) W.op5)
  · have h4 := hdeps 4 (by simp [apDep])
    have h5 := hdeps 5 (by simp [apDep])
    have v4 := (val 4 (by omega) h4 _ rfl).trans (W.e4 h4)
    have v5 := (val 5 (by omega) h5 _ rfl).trans (W.e5 h5)
    exact wp_of_run (ex_build2 _ _ hop v4 v5) (fin _ _ _ _ _ _ (by omega) (W.op6 h4 h5))
  · have h3 := hdeps 3 (by simp [apDep])
    have h6 := hdeps 6 (by simp [apDep])
    have v3 := val 3 (by omega) h3 _ rfl
    have v6 := val 6 (by omega) h6 _ rfl
    obtain ⟨q0, cp0, vs, q1, q2, q3⟩ := W.f3 h3 hself
    obtain ⟨g6, k1, k2, k3, -, -⟩ := W.f6 h6 hself
    have hf := hS.few
    refine wp_append_lies w (.tmp (s + 3)) (.tmp (s + 6)) 23 hop c.w1.heap.size 56 i0 _ 7 72 Tryz.underlying23 hi0 hz0 hz1 hz2 rfl (by decide) (.slice (some ⟨q0, 0, none⟩) c.dn cp0) c.dn vs (v3.trans q1) q2 ⟨g6, 0, none⟩ 2 2 (lit2 c.X c.Y c.xa c.ya c.xc c.yc).toList (v6.trans k1) rfl (fun j u hj => ?_) (lit2_one _ _ _ _ _ _) (by decide) (by unfold maxLen; omega) (by omega) W.bel.size w.heap.size rfl (fun g' cap w' o1 o2 o3 o4 => ?_)
    · rw [Addr.add_mid, Nat.zero_add, cell_of_row _ _ j _ _ _ k2]
      simpa using hj
    · have hbel : Below c.w1.heap.size c.w1 w' := W.bel.grown o2 W.bel.size (fun b hb => own7_block q2 hb)
      have hD : DosAt w' (.slice (some ⟨g', 0, none⟩) (c.dn + 2) cap) (c.l ++ [c.X] ++ [c.Y]) := by
        have e1 : DoEls c.w1 ((vs ++ ddV c.X c.xa c.xc) ++ ddV c.Y c.ya c.yc) (c.l ++ [c.X] ++ [c.Y]) := (q3.snoc hS.ex hS.fx).snoc hS.ey hS.fy
        have e2 : (vs ++ ddV c.X c.xa c.xc) ++ ddV c.Y c.ya c.yc = vs ++ (lit2 c.X c.Y c.xa c.ya c.xc c.yc).toList := by rw [List.append_assoc]; rfl
        rw [e2] at e1
        have e3 : (c.l ++ [c.X] ++ [c.Y]).length = c.dn + 2 := by rw [List.length_append, List.length_append, hS.len]; rfl
        exact e1.dos (by rw [e3]; exact o1) hbel
      exact fin _ _ _ _ _ _ (by omega) (W.op7 hself h3 h6 q2 o2 hD)
  · have h0 := hdeps 0 (by simp [apDep])
    have h7 := hdeps 7 (by simp [apDep])
    have v0 := (val 0 (by omega) h0 _ rfl).trans (W.e0 h0)
    have v7 := val 7 (by omega) h7 _ rfl
    obtain ⟨va, cp, q1, q2⟩ := W.f7 h7 hself
    have hrun := ex_play (w := w) (ev := a.eval) _ _ _ _ hop rfl
    rw [v0, v7, q1] at hrun
    refine wp_of_enter hrun (hS.play va cp w W.bel q2) ?_
    rintro e w' ⟨fv', av', τ', N', rfl, k1, k2, k3, k4⟩
    exact ⟨_, rfl, fin _ _ _ _ _ _ (by omega) (W.op8 hself h0 h7 h.c16 k4 k1 k2 k3)⟩
  · have h8 := hdeps 8 (by simp [apDep])
    have v8 := val 8 (by omega) h8 _ rfl
    exact wp_of_run (v := σ 8) (by rw [ex_move _ hop, v8]) (fin _ _ _ _ _ _ (by omega) (W.op9 h8))
  · have h9 := hdeps 9 (by simp [apDep])
    have v9 := (val 9 (by omega) h9 _ rfl).trans (W.e9 h9)
    exact wp_of_run (ex_extract3 _ 0 hop v9 rfl) (fin _ _ _ _ _ _ (by omega) (W.op10 h9))
  · have h9 := hdeps 9 (by simp [apDep])
    have v9 := (val 9 (by omega) h9 _ rfl).trans (W.e9 h9)
    exact wp_of_run (ex_extract3 _ 1 hop v9 rfl) (fin _ _ _ _ _ _ (by omega) (W.op11 h9))
  · have h9 := hdeps 9 (by simp [apDep])
    have v9 := (val 9 (by omega) h9 _ rfl).trans (W.e9 h9)
    exact wp_of_run (ex_extract3 _ 2 hop v9 rfl) (fin _ _ _ _ _ _ (by omega) (W.op12 h9))
  · exact wp_of_run (ex_alloc_flt hop) (fin _ _ _ _ _ _ (by omega) (W.op13 hself))
  · exact wp_of_run (ex_alloc_fault hop) (fin _ _ _ _ _ _ (by omega) (W.op14 hself))
  · have h13 := hdeps 13 (by simp [apDep])
    have h10 := hdeps 10 (by simp [apDep])
    have v13 := val 13 (by omega) h13 _ rfl
    have v10 := (val 10 (by omega) h10 _ rfl).trans (W.e10 h10)
    obtain ⟨g, u0, u1, q1, q2, -, -, -⟩ := W.f13 h13
    obtain ⟨-, ⟨sa, sc, ba, bc, V, ef, -, -⟩, -⟩ := W.f8 (W.c9 (W.c10 h10))
    refine wp_of_skip (ex_store_flt _ _ hop (v13.trans q1) (v10.trans ef) q2) (fin undef _ _ _ _ _ (by omega) (W.op15 h13 h10 q1 ef))
  · have h11 := hdeps 11 (by simp [apDep])
    have v11 := (val 11 (by omega) h11 _ rfl).trans (W.e11 h11)
    exact wp_of_run (v := av) (by rw [ex_assign _ hop, v11]) (fin _ _ _ _ _ _ (fun _ => h11) W.op16)
  · have h14 := hdeps 14 (by simp [apDep])
    have h12 := hdeps 12 (by simp [apDep])
    have v14 := val 14 (by omega) h14 _ rfl
    have v12 := (val 12 (by omega) h12 _ rfl).trans (W.e12 h12)
    obtain ⟨g, u0, u1, q1, q2, -, -, -⟩ := W.f14 h14
    exact wp_of_skip (ex_store_fault _ _ hop (v14.trans q1) v12 q2) (fin undef _ _ _ _ _ (by omega) (W.op17 h14 h12 q1 rfl))
/-- What is put into slots, one behind the other. -/
def setAll : Array Value → List (Nat × Value) → Array Value
  | t, [] => t
  | t, p :: ps => setAll (t.setIfInBounds p.1 p.2) ps
theorem setAll_size : ∀ (ps : List (Nat × Value)) (t : Array Value), (setAll t ps).size = t.size
  | [], _ => rfl
  | p :: ps, t => by rw [setAll, setAll_size ps, Array.size_setIfInBounds]
theorem setAll_out : ∀ (ps : List (Nat × Value)) (t : Array Value) (k : Nat), (∀ p ∈ ps, p.1 ≠ k) → (setAll t ps).getD k undef = t.getD k undef
  | [], _, _, _ => rfl
  | p :: ps, t, k, h => by
    rw [setAll, setAll_out ps _ k (fun q hq => h q (List.mem_cons_of_mem _ hq))]
    simp only [Array.getD_eq_getD_getElem?, Array.getElem?_setIfInBounds]
    rw [if_neg (h p (List.mem_cons_self ..))]
theorem setAll_in : ∀ (ps : List (Nat × Value)) (t : Array Value) (k : Nat) (v : Value), (k, v) ∈ ps → ps.Pairwise (fun p q => p.1 ≠ q.1) → k < t.size → (setAll t ps).getD k undef = v
  | [], _, _, _, h, _, _ => by cases h
  | p :: ps, t, k, v, h, hp, hk => by
    rw [setAll]
    rcases List.mem_cons.1 h with h | h
    · subst h
      rw [setAll_out ps _ k (fun q hq e => (List.pairwise_cons.1 hp).1 q hq e.symm), getD_put _ _ _ _ hk, if_pos rfl]
    · exact setAll_in ps _ k v h (List.pairwise_cons.1 hp).2 (by rw [Array.size_setIfInBounds]; exact hk)
theorem array_same {A B : Array Value} (h : A.size = B.size) (hg : ∀ k, A.getD k undef = B.getD k undef) : A = B := by
  apply Array.ext h
  intro k h1 h2
  have := hg k
  simpa [Array.getD_eq_getD_getElem?, Array.getElem?_eq_getElem h1, Array.getElem?_eq_getElem h2] using this
/-- All slots that are written. -/
def apPut (s d : Nat) (σ : Nat → Value) : List (Nat × Value) := (List.range 18).filterMap (fun i => (apDst s d i).map (fun k => (k, σ i)))
/-- Whatever order is picked: what holds in the end. -/
theorem ap_region {c : ApC} {a0 : Act} {s d x y bx by' id : Nat} {ops : Array Oper} {Q : Exit → Act → World → Prop} (hO : ApOps ops s d x y) (hS : ApS c a0 s d x y bx by') (hpw : ∀ σ, (apPut s d σ).Pairwise (fun p q => p.1 ≠ q.1))
    (hQ : ∀ (σ : Nat → Value) (sa ka aa : Option Addr) (sc kc ac g13 g14 : Nat) (w : World), σ 11 = .slice aa c.A.length ac → σ 16 = .slice aa c.A.length ac → σ 13 = .pointer (some ⟨g13, 0, none⟩) → σ 14 = .pointer (some ⟨g14, 0, none⟩) → w.heap[g13]? = some (.cells #[.slice sa c.P.shards.length sc, .slice ka c.P.book.length kc] 28 (0, 0)) → w.heap[g14]? = some (.cells #[.int .i64 c.F.1, .int .i64 c.F.2] 32 (0, 0)) → FltV w (.agg #[.slice sa c.P.shards.length sc, .slice ka c.P.book.length kc]) c.P → AnssAt w (.slice aa c.A.length ac) c.A → Below c.w1.heap.size c.w1 w → Q .normal ⟨setAll a0.tmps (apPut s d σ), a0.defers⟩ w)
    (hm : Tryz.prog.follows .mixedOrders = true) (w : World) (hw : { w with drawn := w.drawn + 1 } = c.w1) : (Code.region id ops true).wp Tryz.prog Q a0 w := by
  refine wp_region_any hm ?_
  rw [hw]
  refine wpAny_inv (fun listed a w => ∃ σ fv av τ N, ApI c a0 s d σ fv av τ N listed a w) (ap_step hO hS) ?_ _ _ _ _ ⟨fun _ => undef, undef, undef, fun _ => tNo, 0, ?_⟩ ?_
  · rintro listed a w' ⟨σ, fv, av, τ, N, h⟩ hr
    have hall := all_listed (by rw [h.sz, hO.size]) hO.low hr
    rw [hO.size] at hall
    have W := h.wf
    obtain ⟨-, hF, hA⟩ := W.f8 (hall 8 (by omega))
    obtain ⟨g13, u0, u1, q1, q2, -, -, q5⟩ := W.f13 (hall 13 (by omega))
    obtain ⟨g14, v0, v1, k1, k2, -, -, k5⟩ := W.f14 (hall 14 (by omega))
    have hFV := hF.flt
    have hAA := hA.anss
    obtain ⟨aa, ac, rfl⟩ := hAA.form
    obtain ⟨sa, sc, ka, kc, V, ef, -, -⟩ := hF
    have e13 := q5 (hall 15 (by omega))
    have e14 := k5 (hall 17 (by omega))
    rw [ef] at e13 hFV
    simp only [Value.agg.injEq, Array.mk.injEq, List.cons.injEq, and_true] at e13 e14
    obtain ⟨rfl, rfl⟩ := e13
    obtain ⟨rfl, rfl⟩ := e14
    have ha : a = ⟨setAll a0.tmps (apPut s d σ), a0.defers⟩ := by
      obtain ⟨at', ad⟩ := a
      have hdf := h.df
      have : at' = setAll a0.tmps (apPut s d σ) := array_same (by rw [setAll_size]; exact h.asz) (fun k => by
        by_cases hk : ∃ i, i < 18 ∧ apDst s d i = some k
        · obtain ⟨i, hi, hik⟩ := hk
          rw [setAll_in (apPut s d σ) a0.tmps k (σ i) (List.mem_filterMap.2 ⟨i, List.mem_range.2 hi, by rw [hik]; rfl⟩) (hpw σ) (hS.bnd i k hik)]
          exact h.val i hi (hall i hi) k hik
        · have hk' : ∀ i, i < 18 → apDst s d i ≠ some k := fun i hi e => hk ⟨i, hi, e⟩
          rw [setAll_out (apPut s d σ) a0.tmps k (fun p hp e => by
            obtain ⟨i, hi, q⟩ := List.mem_filterMap.1 hp
            cases hdd : apDst s d i with
            | none => rw [hdd] at q; cases q
            | some k' =>
              rw [hdd] at q
              cases q
              exact hk' i (List.mem_range.1 hi) (by rw [hdd]; exact congrArg some e))]
          exact h.fr k hk')
      rw [this]
      exact congrArg _ hdf
    rw [ha]
    exact hQ σ sa ka aa sc kc ac g13 g14 w' (W.e11 (hall 11 (by omega))) (W.e16 (hall 16 (by omega))) q1 k1 q2 k2 hFV hAA W.bel
  · have hf : ∀ j, (Array.replicate ops.size false).getD j false = false := fun j => by
      simp only [Array.getD_eq_getD_getElem?, Array.getElem?_replicate]
      split <;> rfl
    have no : ∀ j, (Array.replicate ops.size false).getD j false ≠ true := fun j => by rw [hf]; decide
    refine ⟨by rw [Array.size_replicate, hO.size], rfl, rfl, fun _ _ => rfl, fun i _ q => absurd q (no i), fun q => absurd q (no 16), ?_⟩
    exact ⟨Below.refl _ _, fun q => absurd q (no 3), fun q => absurd q (no 6), fun q => absurd q (no 7), fun q => absurd q (no 8), fun q => absurd q (no 9), fun q => absurd q (no 10), fun q => absurd q (no 11), fun q => absurd q (no 12), fun q => absurd q (no 15), fun q => absurd q (no 17), fun q => absurd q (no 0), fun q => absurd q (no 2), fun q => absurd q (no 4), fun q => absurd q (no 5), fun q => absurd q (no 1), fun q => absurd q (no 3), fun q => absurd q (no 6), fun q => absurd q (no 7), fun q => absurd q (no 8), fun q => absurd q (no 9), fun q => absurd q (no 10), fun q => absurd q (no 11), fun q => absurd q (no 12), fun q => absurd q (no 13), fun q => absurd q (no 14), fun q => absurd q (no 16)⟩
  · rw [Array.toList_replicate]
    exact Nat.le_trans List.countP_le_length (by simp)

theorem ApOps.of {ops : Array Oper} {s d x y : Nat} (h1 : ops.size = 18) (h2 : ((List.range 18).all fun i => ((ops[i]?).map fun o => o.after.all fun e => !Region.binds .any e || decide (e.on < i)).getD true) = true)
    (h3 : ∀ i, i < 18 → ∃ o, ops[i]? = some o ∧ o.guard = none ∧ o.dst = apDst s d i ∧ o.op = apOp s d x y i ∧ ((apDep i).all fun j => o.after.any fun e => e.on == j && Region.binds .any e) = true) : ApOps ops s d x y := by
  refine ⟨h1, fun i o ho e he hb => ?_, fun i hi => ?_⟩
  · have hi : i < 18 := by rw [← h1]; exact (Array.getElem?_eq_some_iff.1 ho).1
    have := List.all_eq_true.1 h2 i (List.mem_range.2 hi)
    rw [ho] at this
    simp only [Option.map_some, Option.getD_some, Array.all_eq_true_iff_forall_mem] at this
    have h := this e he
    rw [hb] at h
    simpa using h
  · obtain ⟨o, q1, q2, q3, q4, q5⟩ := h3 i hi
    refine ⟨o, q1, q2, q3, q4, fun j hj => ?_⟩
    have := List.all_eq_true.1 q5 j hj
    rw [Array.any_eq_true] at this
    obtain ⟨n, hn, h⟩ := this
    rw [Bool.and_eq_true] at h
    exact ⟨_, Array.getElem_mem hn, by simpa using h.1, h.2⟩
theorem apDst_le {s d i k : Nat} (h : apDst s d i = some k) : k ≤ s + 11 ∨ k ≤ d + 2 := by
  revert h
  unfold apDst
  split <;> intro h <;> first | (cases h; omega) | cases h
theorem ap_inj {s d : Nat} (h : ∀ i, i < 18 → ∀ j, j < 18 → apDst s d i = apDst s d j → apDst s d i ≠ none → i = j) : ∀ i j k, i < 18 → j < 18 → apDst s d i = some k → apDst s d j = some k → i = j := fun i j k hi hj h1 h2 => h i hi j hj (by rw [h1, h2]) (by rw [h1]; simp)
theorem ap_pw {s d : Nat} (h : ((List.range 18).filterMap (apDst s d)).Pairwise (· ≠ ·)) (σ : Nat → Value) : (apPut s d σ).Pairwise (fun p q => p.1 ≠ q.1) := by
  have : (apPut s d σ).map Prod.fst = (List.range 18).filterMap (apDst s d) := by
    unfold apPut
    rw [List.map_filterMap]
    congr 1
    funext i
    cases apDst s d i <;> rfl
  rw [← this, List.pairwise_map] at h
  exact h

end Go.Proofs.YtkjlchfmplcobagGreatDoor
