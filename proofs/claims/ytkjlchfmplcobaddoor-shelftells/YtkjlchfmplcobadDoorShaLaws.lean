/- Small laws on worlds that the walks of package sha want; nothing of the program is in it. -/
import Derived.WalkKit
import Derived.WalkSmall
import Derived.Deep.MidRow
import Derived.Deep.Draws
namespace Go.Proofs.YtkjlchfmplcobadDoor
open Go.RowKit

/-- One result, that lies in memory. -/
theorem results_cell1 {fn : Func} {p : Tmp} {ty : TypeId} (h : fn.results = #[.cell p ty]) (tmps : Array Value) (P : Program) (w : World) (b o : Nat) (hp : tmps.getD p undef = .pointer (some ⟨b, o, none⟩))
    (cs : List Value) (d : TypeDesc) (hc : w.rangeAt b o cs) (hu : P.underlying ty = some d) (hd : d.isRow = true) (hi : (P.info? ty).map (·.size) = some cs.length) :
    (results fn tmps).run P w = .ok (.agg cs.toArray) w := by
  have hl := run_loadVar_mid (P := P) w b o ty cs d hc hu hd hi
  have hp' : tmps[p]?.getD undef = .pointer (some ⟨b, o, none⟩) := by simpa using hp
  simp only [results, h]
  simp [hp', asAddr, hl]

theorem below_setCells {B : Nat} {a : World} (b : Nat) (hb : B ≤ b) : ∀ (vs : List Value) (o : Nat) (w : World), Below B a w → Below B a (w.setCells b o vs)
  | [], _, _, h => h
  | v :: r, o, w, h => by
    rw [World.setCells]
    exact below_setCells b hb r (o + 1) _ (h.setCell (p := ⟨b, o, none⟩) hb v)

theorem size_setCells (b : Nat) : ∀ (vs : List Value) (o : Nat) (w : World), (w.setCells b o vs).heap.size = w.heap.size
  | [], _, _ => rfl
  | v :: r, o, w => by
    rw [World.setCells, size_setCells b r (o + 1) _]
    simp

/-- A block that was laid. -/
theorem new_cell (w : World) (t : TypeId) (C : Array Value) (j : Nat) (hj : j < C.size) : (w.alloc (.cells C t)).cell? ⟨w.heap.size, j, none⟩ = some C[j] := by
  rw [cell_of_row (w.alloc (.cells C t)) w.heap.size j C t (0, 0) (by show (w.heap.push _)[w.heap.size]? = _; simp)]
  simp [hj]

theorem old_cell (w : World) (o : Obj) (b j : Nat) (hb : b < w.heap.size) : (w.alloc o).cell? ⟨b, j, none⟩ = w.cell? ⟨b, j, none⟩ :=
  World.cell?_alloc_lt _ _ _ hb

theorem there_new (w : World) (t : TypeId) (C : Array Value) (n : Nat) (hn : C.size = n) : (w.alloc (.cells C t)).there w.heap.size 0 n := fun j hj => by
  refine ⟨by rw [Nat.zero_add, new_cell w t C j (by omega)]; rfl, ?_⟩
  simp

theorem cell_off {w : World} {b k j : Nat} {v u : Value} (hj : j ≠ k) (h : w.cell? ⟨b, j, none⟩ = some u) : ((w.setCell ⟨b, k, none⟩ v).drew).cell? ⟨b, j, none⟩ = some u := by
  show (w.setCell ⟨b, k, none⟩ v).cell? ⟨b, j, none⟩ = some u
  rw [World.cell?_setCell_other _ _ _ _ (by intro e; injection e; omega)]
  exact h

end Go.Proofs.YtkjlchfmplcobadDoor
