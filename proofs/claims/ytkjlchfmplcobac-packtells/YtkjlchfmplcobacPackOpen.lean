/- A slice of tokens that came in, opened: three cells each. -/
import Derived.Test.YtkjlchfmplcobacPackFace
import Derived.WalkKit
import Derived.ProofKit
import Derived.OpenShut
import Derived.Deep.Slices
import Derived.Deep.Strs
import Derived.ChangeArms
namespace Go.Proofs.Ytkjlchfmplcobac
open Go.ChangeShapes Go.WideShapes Go.ChangeAt Go.WideMaps Go.WideElems Go.RowKit

theorem tok_cells : Try.prog.cellsOf 40 = 3 := by kernel_rfl
theorem int_cells : Try.prog.cellsOf 3 = 1 := by kernel_rfl
theorem byte_cells : Try.prog.cellsOf 5 = 1 := by kernel_rfl
theorem open_toks {H : Type} {enc : TypeId × Value → H} {W : World} {base : Nat} {spare : Nat → Bool} {held : Bool} {v : Value} {d : DataW H} {p : List MemPlace}
    (hv : ∃ a len cap, v = .slice a len cap) (h : DataW.Trod enc Try.prog W base spare held 23 v d p) :
    ∃ l : List Tok, ToksAt W v l ∧ (l = [] ∨ ∃ elems sp : List (DataW H), d = .slice elems sp ∧ elems.length = l.length) := by
  obtain ⟨a, len, cap, rfl⟩ := hv
  obtain ⟨fuel, hf⟩ := h
  rcases Deep.open_slice Try.underlying23 hf with ⟨hcs, _⟩ | ⟨x, l, c, m, n, D, Pl, hcs, hb, hl, hm, hmm, hx, hr⟩
  · simp [Value.cells] at hcs
    obtain ⟨rfl, rfl, rfl⟩ := hcs
    exact ⟨[], .inl ⟨rfl, none, 0, rfl, fun _ => rfl, Nat.zero_le _⟩, .inl rfl⟩
  · simp [Value.cells] at hcs
    obtain ⟨rfl, rfl, rfl⟩ := hcs
    have hlm : len ≤ m := by rw [hmm]; split <;> omega
    have each : ∀ i, i < m → ∃ t : Tok, W.cell? (x.add (i * 3)) = some (.int .i64 t.len) ∧ W.cell? (x.add (i * 3 + 1)) = some (.int .i64 t.back) ∧ W.cell? (x.add (i * 3 + 2)) = some (.int .u8 t.byte) := by
      intro i hi
      obtain ⟨cs', h1, h2⟩ := hr i hi
      rw [tok_cells] at h1
      obtain ⟨_, hlen, hcell⟩ := World.cells?_some h1
      obtain ⟨y0, y1, y2, k, _, _, g0, g1, g2⟩ := Deep.trod_struct3 Try.underlying40 h2
      match cs', hlen with
      | [v0, v1, v2], _ =>
        simp only [int_cells, byte_cells, List.drop, List.take] at g0 g1 g2
        obtain ⟨z0, e0, -, -⟩ := DataW.trod_int Try.underlying3 g0
        obtain ⟨z1, e1, -, -⟩ := DataW.trod_int Try.underlying3 g1
        obtain ⟨z2, e2, -, -⟩ := DataW.trod_int Try.underlying5 g2
        simp at e0 e1 e2
        subst e0 e1 e2
        have c0 := hcell 0 (by omega)
        have c1 := hcell 1 (by omega)
        have c2 := hcell 2 (by omega)
        rw [Deep.add_add] at c0 c1 c2
        exact ⟨⟨z0, z1, z2⟩, by simpa using c0, by simpa using c1, by simpa using c2⟩
    have each' : ∀ i, ∃ t : Tok, i < m → W.cell? (x.add (i * 3)) = some (.int .i64 t.len) ∧ W.cell? (x.add (i * 3 + 1)) = some (.int .i64 t.back) ∧ W.cell? (x.add (i * 3 + 2)) = some (.int .u8 t.byte) := fun i => by
      by_cases hi : i < m
      · obtain ⟨t, ht⟩ := each i hi; exact ⟨t, fun _ => ht⟩
      · exact ⟨tok0, fun h => absurd h hi⟩
    have hT := fun i => Classical.choose_spec (each' i)
    generalize hTT : (fun i => Classical.choose (each' i)) = T at hT
    have hT2 : ∀ i, i < m → W.cell? (x.add (i * 3)) = some (.int .i64 (T i).len) ∧ W.cell? (x.add (i * 3 + 1)) = some (.int .i64 (T i).back) ∧ W.cell? (x.add (i * 3 + 2)) = some (.int .u8 (T i).byte) := fun i hi => by
      rw [← hTT]; exact Classical.choose_spec (each' i) hi
    have hget : ∀ j, j < len → ((List.range len).map T).getD j tok0 = T j := fun j hj => by
      rw [List.getD_eq_getElem?_getD, List.getElem?_map, List.getElem?_range hj]; rfl
    refine ⟨(List.range len).map T, ?_, .inr ⟨_, _, congrArg Prod.fst hx, by simp⟩⟩
    by_cases hpos : 0 < len
    · have hsp : x.spot = none := by simpa [Addr.add] using World.cell?_spot (hT2 0 (by omega)).1
      obtain ⟨b, off, spot⟩ := x
      subst hsp
      refine .inr ⟨b, off, cap, by simp, by simpa using hl, hm, ?_, fun j hj => ?_⟩
      · exact World.block_lt_of_cell? W ⟨b, off, none⟩ (by simpa [Addr.add] using (hT2 0 (by omega)).1)
      · have hj' : j < len := by simpa using hj
        rw [hget j hj']
        obtain ⟨d0, d1, d2⟩ := hT2 j (by omega)
        rw [Addr.add_mid] at d0 d1 d2
        exact ⟨d0, by rw [Nat.add_assoc]; exact d1, by rw [Nat.add_assoc]; exact d2⟩
    · obtain rfl : len = 0 := by omega
      exact .inl ⟨rfl, _, _, rfl, (fun h => by cases h), hm⟩

end Go.Proofs.Ytkjlchfmplcobac
