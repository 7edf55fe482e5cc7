/- Manifests that came in, opened. -/
import Derived.Test.YtkjlchfmplcobadDoorProg
import Derived.Test.YtkjlchfmplcobadDoorRunAA
import Derived.Test.YtkjlchfmplcobadDoorFieldOpen
namespace Go.Proofs.YtkjlchfmplcobadDoor
open Go.ChangeShapes Go.WideShapes Go.ChangeAt Go.WideMaps Go.WideElems Go.RowKit

theorem segs_cells5 : Tryd.prog.cellsOf 26 = 1 := by kernel_rfl
theorem seg_cells5 : Tryd.prog.cellsOf 55 = 3 := by kernel_rfl
theorem man_cells5 : Tryd.prog.cellsOf 28 = 3 := by kernel_rfl
set_option maxRecDepth 100000 in
theorem open_segs {H : Type} {enc : TypeId × Value → H} {W : World} {base fuel : Nat} {spare : Nat → Bool} {held : Bool} {a : Option Addr} {len cap : Nat} {x : DataW H × List MemPlace}
    (hf : DataW.trod enc Tryd.prog W base spare held fuel 26 [.slice a len cap] = some x) : ∃ l : List Seg, SegsAt W (.slice a len cap) l := by
  rcases Deep.open_slice Tryd.underlying26 hf with ⟨hcs, _⟩ | ⟨x, l, c, m, n, D, Pl, hcs, hb, hl, hm, hmm, hx, hr⟩
  · simp at hcs
    obtain ⟨rfl, rfl, rfl⟩ := hcs
    exact ⟨[], segsAt_nil W⟩
  · simp at hcs
    obtain ⟨rfl, rfl, rfl⟩ := hcs
    have hlm : len ≤ m := by rw [hmm]; split <;> omega
    have each : ∀ i, i < m → ∃ (t : Seg) (pa : Option Addr) (pc : Nat), W.cell? (x.add (i * 3)) = some (.int .i64 t.first) ∧ W.cell? (x.add (i * 3 + 1)) = some (.int .i64 t.count) ∧ W.cell? (x.add (i * 3 + 2)) = some (.slice pa t.packed.length pc) ∧ Some' W (.slice pa t.packed.length pc) t.packed ∧ t.packed.length ≤ pc ∧ pc ≤ maxLen := by
      intro i hi
      obtain ⟨cs', h1, h2⟩ := hr i hi
      rw [seg_cells5] at h1
      obtain ⟨_, hlen, hcell⟩ := World.cells?_some h1
      obtain ⟨y0, y1, y2, k, _, _, g0, g1, g2⟩ := Deep.trod_struct3 Tryd.underlying55 h2
      match cs', hlen with
      | [v0, v1, v2], _ =>
        simp only [int_cells5, bytes_cells5, List.drop, List.take] at g0 g1 g2
        obtain ⟨z0, e0, -, -⟩ := DataW.trod_int Tryd.underlying3 g0
        obtain ⟨z1, e1, -, -⟩ := DataW.trod_int Tryd.underlying3 g1
        obtain ⟨b, pa, pc, e2, h3, h4, h5⟩ := open_packed g2
        simp at e0 e1
        subst e0 e1 e2
        have c0 := hcell 0 (by omega)
        have c1 := hcell 1 (by omega)
        have c2 := hcell 2 (by omega)
        rw [Deep.add_add] at c0 c1 c2
        exact ⟨⟨z0, z1, b⟩, pa, pc, by simpa using c0, by simpa using c1, by simpa using c2, h3, h4, h5⟩
    have each' : ∀ i, ∃ t : Seg, i < m → ∃ (pa : Option Addr) (pc : Nat), W.cell? (x.add (i * 3)) = some (.int .i64 t.first) ∧ W.cell? (x.add (i * 3 + 1)) = some (.int .i64 t.count) ∧ W.cell? (x.add (i * 3 + 2)) = some (.slice pa t.packed.length pc) ∧ Some' W (.slice pa t.packed.length pc) t.packed ∧ t.packed.length ≤ pc ∧ pc ≤ maxLen := fun i => by
      by_cases hi : i < m
      · obtain ⟨t, ht⟩ := each i hi; exact ⟨t, fun _ => ht⟩
      · exact ⟨seg0, fun h => absurd h hi⟩
    generalize hTT : (fun i => Classical.choose (each' i)) = T
    have hT2 : ∀ i, i < m → ∃ (pa : Option Addr) (pc : Nat), W.cell? (x.add (i * 3)) = some (.int .i64 (T i).first) ∧ W.cell? (x.add (i * 3 + 1)) = some (.int .i64 (T i).count) ∧ W.cell? (x.add (i * 3 + 2)) = some (.slice pa (T i).packed.length pc) ∧ Some' W (.slice pa (T i).packed.length pc) (T i).packed ∧ (T i).packed.length ≤ pc ∧ pc ≤ maxLen := fun i hi => by
      rw [← hTT]; exact Classical.choose_spec (each' i) hi
    have hget : ∀ j, j < len → ((List.range len).map T).getD j seg0 = T j := fun j hj => by
      rw [List.getD_eq_getElem?_getD, List.getElem?_map, List.getElem?_range hj]; rfl
    refine ⟨(List.range len).map T, some x, cap, by simp, by simpa using hl, hm, (fun e => by cases e), ?_⟩
    by_cases hpos : 0 < len
    · obtain ⟨_, _, q0, -⟩ := hT2 0 (by omega)
      have hsp : x.spot = none := by simpa [Addr.add] using World.cell?_spot q0
      obtain ⟨b, off, spot⟩ := x
      subst hsp
      refine .inr ⟨b, off, rfl, World.block_lt_of_cell? W ⟨b, off, none⟩ (by simpa [Addr.add] using q0), fun j hj => ?_⟩
      have hj' : j < len := by simpa using hj
      rw [hget j hj']
      obtain ⟨pa, pc, d0, d1, d2, d3⟩ := hT2 j (by omega)
      rw [Addr.add_mid] at d0 d1 d2
      exact ⟨d0, by rw [Nat.add_assoc]; exact d1, pa, pc, by rw [Nat.add_assoc]; exact d2, d3⟩
    · obtain rfl : len = 0 := by omega
      exact .inl (by simp)
set_option maxRecDepth 100000 in
theorem open_man {H : Type} {enc : TypeId × Value → H} {W : World} {r : Reach} {b0 base : Nat} {spare : Nat → Bool} {held : Bool} {v : Value} {d : DataW H} {p : List MemPlace}
    (hv : Value.okWide Tryd.prog W r b0 28 v) (h : DataW.Trod enc Tryd.prog W base spare held 28 v d p) : ∃ m : Man, ManAt W v m := by
  obtain ⟨cs, rfl, hsz⟩ := okWide_struct Tryd.underlying28 hv
  obtain ⟨c0, c1, c2, rfl⟩ := Go.Joins.array3 (hsz.trans man_cells5)
  obtain ⟨fuel, hf⟩ := h
  obtain ⟨y0, y1, n, -, -, h0, h1⟩ := trod_struct2 Tryd.underlying28 hf
  simp only [head_cells5, segs_cells5, Value.cells, List.drop, List.take] at h0 h1
  obtain ⟨z0, z1, k, -, -, g0, g1⟩ := trod_struct2 Tryd.underlying25 h0
  simp only [int_cells5, bytes_cells5, List.drop, List.take] at g0 g1
  obtain ⟨size, e0, -, -⟩ := DataW.trod_int Tryd.underlying3 g0
  obtain ⟨b, pa, pc, e1, h3, -, -⟩ := open_packed g1
  obtain ⟨sa, sl, sc, e2⟩ := Go.Joins.slice_form Tryd.underlying26 h1
  simp at e0 e2
  subst e0 e1 e2
  obtain ⟨l, hl⟩ := open_segs h1
  exact ⟨⟨size, b, l⟩, _, _, rfl, h3, hl⟩

end Go.Proofs.YtkjlchfmplcobadDoor
