/- Laws on a region that draws its order: which operation comes up, and a whole row loaded or stored there. Nothing of the program is in it. -/
import Derived.WalkKit
import Derived.Deep.MidRow
import Derived.Deep.RegionWith
namespace Go.Proofs.YtkjlchfmplcobadDoor
open Go.RowKit
variable {P : Program} {ops : Array Oper} {Q : Exit → Act → World → Prop} {md : Region.Mode}

theorem any_one {i fuel : Nat} {listed : Array Bool} {a : Act} {w : World} (hr : Region.ready md ops listed = [i]) (h : wpOp P ops Q i (wpAny P md ops Q fuel (listed.setIfInBounds i true)) a w) : wpAny P md ops Q (fuel + 1) listed a w :=
  wpAny_all hr (by simp) (fun j hj => by have e : j = i := by simpa using hj
                                         subst e; exact h)
theorem any_two {i k fuel : Nat} {listed : Array Bool} {a : Act} {w : World} (hr : Region.ready md ops listed = [i, k]) (h : wpOp P ops Q i (wpAny P md ops Q fuel (listed.setIfInBounds i true)) a w)
    (h2 : wpOp P ops Q k (wpAny P md ops Q fuel (listed.setIfInBounds k true)) a w) : wpAny P md ops Q (fuel + 1) listed a w :=
  wpAny_all hr (by simp) (fun j hj => by
    have e : j = i ∨ j = k := by simpa using hj
    rcases e with e | e
    · subst e; exact h
    · subst e; exact h2)

theorem wanted_plain {o : Oper} {y : Nat → Option Bool} (h : o.guard = none) : Region.wanted o y = true := by unfold Region.wanted; rw [h]

theorem wpOp_load_mid {i : Nat} {d : Option Tmp} {a : Act} {w : World} {K : Act → World → Prop} (ty : TypeId) (x : Operand) (ho : (ops[i]?).map (fun p => (p.op, p.dst, p.guard)) = some (.load ty x, d, none))
    (b o : Nat) (hx : a.eval x = .pointer (some ⟨b, o, none⟩)) (cs : List Value) (e : TypeDesc) (hc : w.rangeAt b o cs)
    (hu : P.underlying ty = some e) (hd : e.isRow = true) (hi : (P.info? ty).map (·.size) = some cs.length) (h : K (a.put d (.agg cs.toArray)) w) : wpOp P ops Q i K a w := by
  cases hq : ops[i]? with
  | none => simp [hq] at ho
  | some p =>
    rw [hq] at ho
    simp only [Option.map_some, Option.some.injEq, Prod.mk.injEq] at ho
    obtain ⟨h1, h2, h3⟩ := ho
    unfold wpOp
    rw [hq]
    simp only
    rw [if_pos (wanted_plain h3)]
    exact .inl (wp_load_mid ty x h1 b o hx cs e hc hu hd hi (by rw [h2]; exact h))

theorem wpOp_store_mid {i : Nat} {d : Option Tmp} {a : Act} {w : World} {K : Act → World → Prop} (ty : TypeId) (x y : Operand) (ho : (ops[i]?).map (fun p => (p.op, p.dst, p.guard)) = some (.store ty x y, d, none))
    (b o : Nat) (cells : Array Value) (hx : a.eval x = .pointer (some ⟨b, o, none⟩)) (hy : a.eval y = .agg cells)
    (ht : w.there b o cells.size) (hi : (P.info? ty).map (·.size) = some cells.size) (h1c : cells.all (·.oneCell') = true)
    (h : K (a.put d undef) (w.setCells b o cells.toList)) : wpOp P ops Q i K a w := by
  cases hq : ops[i]? with
  | none => simp [hq] at ho
  | some p =>
    rw [hq] at ho
    simp only [Option.map_some, Option.some.injEq, Prod.mk.injEq] at ho
    obtain ⟨h1, h2, h3⟩ := ho
    unfold wpOp
    rw [hq]
    simp only
    rw [if_pos (wanted_plain h3)]
    exact .inl (wp_store_mid ty x y h1 b o cells hx hy ht hi h1c (by rw [h2]; exact h))

end Go.Proofs.YtkjlchfmplcobadDoor
