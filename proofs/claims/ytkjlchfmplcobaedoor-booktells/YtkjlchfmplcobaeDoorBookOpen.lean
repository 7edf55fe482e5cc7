/- Records that came in, opened. -/
import Derived.Test.YtkjlchfmplcobaeDoorProg
import Derived.Test.YtkjlchfmplcobaeDoorRunAC
import Derived.Test.YtkjlchfmplcobaeDoorFieldOpen
namespace Go.Proofs.YtkjlchfmplcobaeDoor
open Go.ChangeShapes Go.WideShapes Go.ChangeAt Go.WideMaps Go.WideElems Go.RowKit

theorem rec_cells6 : Tryd.prog.cellsOf 40 = 5 := by kernel_rfl
theorem array5' {α : Type} {cs : Array α} (h : cs.size = 5) : ∃ c0 c1 c2 c3 c4, cs = #[c0, c1, c2, c3, c4] := by
  obtain ⟨l⟩ := cs
  match l, h with
  | [c0, c1, c2, c3, c4], _ => exact ⟨c0, c1, c2, c3, c4, rfl⟩
theorem list5' {α : Type} {cs : List α} (h : cs.length = 5) : ∃ c0 c1 c2 c3 c4, cs = [c0, c1, c2, c3, c4] := by
  match cs, h with
  | [c0, c1, c2, c3, c4], _ => exact ⟨c0, c1, c2, c3, c4, rfl⟩
set_option maxRecDepth 100000 in
theorem open_rec_cells {H : Type} {enc : TypeId × Value → H} {W : World} {base fuel : Nat} {spare : Nat → Bool} {held : Bool} {c0 c1 c2 c3 c4 : Value} {x : DataW H × List MemPlace}
    (hf : DataW.trod enc Tryd.prog W base spare held fuel 40 [c0, c1, c2, c3, c4] = some x) :
    ∃ (r : Rec) (ra : Option Addr) (rc : Nat), c0 = .int .i64 r.shard ∧ c1 = .int .i64 r.from' ∧ c2 = .int .i64 r.to' ∧ c3 = .int .i64 r.size ∧ c4 = .slice ra r.root.length rc ∧ Some' W (.slice ra r.root.length rc) r.root := by
  obtain ⟨y0, y1, y2, y3, n, -, -, h0, h1, h2, h3⟩ := Go.Joins.trod_struct4 Tryd.underlying40 hf
  simp only [int_cells5, head_cells5, List.drop, List.take] at h0 h1 h2 h3
  obtain ⟨z0, z1, k, -, -, g0, g1⟩ := trod_struct2 Tryd.underlying24 h3
  simp only [int_cells5, bytes_cells5, List.drop, List.take] at g0 g1
  obtain ⟨s, e0, -, -⟩ := DataW.trod_int Tryd.underlying3 h0
  obtain ⟨f, e1, -, -⟩ := DataW.trod_int Tryd.underlying3 h1
  obtain ⟨t, e2, -, -⟩ := DataW.trod_int Tryd.underlying3 h2
  obtain ⟨z, e3, -, -⟩ := DataW.trod_int Tryd.underlying3 g0
  obtain ⟨b, pa, pc, e4, h5, -, -⟩ := open_packed g1
  simp at e0 e1 e2 e3
  exact ⟨⟨s, f, t, z, b⟩, pa, pc, e0, e1, e2, e3, e4, h5⟩
set_option maxRecDepth 100000 in
theorem open_rec {H : Type} {enc : TypeId × Value → H} {W : World} {r : Reach} {b0 base : Nat} {spare : Nat → Bool} {held : Bool} {v : Value} {d : DataW H} {p : List MemPlace}
    (hv : Value.okWide Tryd.prog W r b0 40 v) (h : DataW.Trod enc Tryd.prog W base spare held 40 v d p) : ∃ r : Rec, RecV W v r := by
  obtain ⟨cs, rfl, hsz⟩ := okWide_struct Tryd.underlying40 hv
  obtain ⟨c0, c1, c2, c3, c4, rfl⟩ := array5' (hsz.trans rec_cells6)
  obtain ⟨fuel, hf⟩ := h
  obtain ⟨r, ra, rc, e0, e1, e2, e3, e4, hS⟩ := open_rec_cells (c0 := c0) (c1 := c1) (c2 := c2) (c3 := c3) (c4 := c4) hf
  subst e0 e1 e2 e3 e4
  exact ⟨r, ra, rc, rfl, hS⟩
set_option maxRecDepth 100000 in
theorem open_recs {H : Type} {enc : TypeId × Value → H} {W : World} {base : Nat} {spare : Nat → Bool} {held : Bool} {v : Value} {d : DataW H} {p : List MemPlace}
    (hv : ∃ a len cap, v = .slice a len cap) (h : DataW.Trod enc Tryd.prog W base spare held 41 v d p) : ∃ (l : List Rec) (a : Option Addr) (n c : Nat), v = .slice a n c ∧ RecsAt W (.slice a n c) l ∧ l.length = n := by
  obtain ⟨a, len, cap, rfl⟩ := hv
  obtain ⟨fuel, hf⟩ := h
  rcases Deep.open_slice Tryd.underlying41 hf with ⟨hcs, _⟩ | ⟨x, l, c, m, n, D, Pl, hcs, hb, hl, hm, hmm, hx, hr⟩
  · simp [Value.cells] at hcs
    obtain ⟨rfl, rfl, rfl⟩ := hcs
    exact ⟨[], none, 0, 0, rfl, ⟨none, 0, rfl, Nat.le_refl _, Nat.zero_le _, fun _ => rfl, .inl rfl⟩, rfl⟩
  · simp [Value.cells] at hcs
    obtain ⟨rfl, rfl, rfl⟩ := hcs
    have hlm : len ≤ m := by rw [hmm]; split <;> omega
    have each : ∀ i, ∃ t : Rec, i < m → ∃ (pa : Option Addr) (pc : Nat), W.cell? (x.add (i * 5)) = some (.int .i64 t.shard) ∧ W.cell? (x.add (i * 5 + 1)) = some (.int .i64 t.from') ∧ W.cell? (x.add (i * 5 + 2)) = some (.int .i64 t.to') ∧ W.cell? (x.add (i * 5 + 3)) = some (.int .i64 t.size) ∧ W.cell? (x.add (i * 5 + 4)) = some (.slice pa t.root.length pc) ∧ Some' W (.slice pa t.root.length pc) t.root := fun i => by
      by_cases hi : i < m
      · obtain ⟨cs', h1, h2⟩ := hr i hi
        rw [rec_cells6] at h1
        obtain ⟨_, hlen, hcell⟩ := World.cells?_some h1
        obtain ⟨v0, v1, v2, v3, v4, rfl⟩ := list5' hlen
        obtain ⟨t, ra, rc, e0, e1, e2, e3, e4, hS⟩ := open_rec_cells h2
        subst e0 e1 e2 e3 e4
        have c0 := hcell 0 (by omega)
        have c1 := hcell 1 (by omega)
        have c2 := hcell 2 (by omega)
        have c3 := hcell 3 (by omega)
        have c4 := hcell 4 (by omega)
        rw [Deep.add_add] at c0 c1 c2 c3 c4
        exact ⟨t, fun _ => ⟨ra, rc, by simpa using c0, by simpa using c1, by simpa using c2, by simpa using c3, by simpa using c4, hS⟩⟩
      · exact ⟨rec0, fun h => absurd h hi⟩
    generalize hTT : (fun i => Classical.choose (each i)) = T
    have hT2 : ∀ i, i < m → ∃ (pa : Option Addr) (pc : Nat), W.cell? (x.add (i * 5)) = some (.int .i64 (T i).shard) ∧ W.cell? (x.add (i * 5 + 1)) = some (.int .i64 (T i).from') ∧ W.cell? (x.add (i * 5 + 2)) = some (.int .i64 (T i).to') ∧ W.cell? (x.add (i * 5 + 3)) = some (.int .i64 (T i).size) ∧ W.cell? (x.add (i * 5 + 4)) = some (.slice pa (T i).root.length pc) ∧ Some' W (.slice pa (T i).root.length pc) (T i).root := fun i hi => by
      rw [← hTT]; exact Classical.choose_spec (each i) hi
    have hget : ∀ j, j < len → ((List.range len).map T).getD j rec0 = T j := fun j hj => by
      rw [List.getD_eq_getElem?_getD, List.getElem?_map, List.getElem?_range hj]; rfl
    refine ⟨(List.range len).map T, some x, len, cap, rfl, ⟨some x, cap, by simp, by simpa using hl, hm, (fun e => by cases e), ?_⟩, by simp⟩
    by_cases hpos : 0 < len
    · obtain ⟨_, _, q0, -⟩ := hT2 0 (by omega)
      have hsp : x.spot = none := by simpa [Addr.add] using World.cell?_spot q0
      obtain ⟨b, off, spot⟩ := x
      subst hsp
      refine .inr ⟨b, off, rfl, World.block_lt_of_cell? W ⟨b, off, none⟩ (by simpa [Addr.add] using q0), fun j hj => ?_⟩
      have hj' : j < len := by simpa using hj
      rw [hget j hj']
      obtain ⟨pa, pc, d0, d1, d2, d3, d4, d5⟩ := hT2 j (by omega)
      rw [Addr.add_mid] at d0 d1 d2 d3 d4
      exact ⟨d0, by rw [Nat.add_assoc]; exact d1, by rw [Nat.add_assoc]; exact d2, by rw [Nat.add_assoc]; exact d3, pa, pc, by rw [Nat.add_assoc]; exact d4, d5⟩
    · obtain rfl : len = 0 := by omega
      exact .inl (by simp)

end Go.Proofs.YtkjlchfmplcobaeDoor
