/- Windows, and things to be done, that came in, opened. -/
import Derived.Test.YtkjlchfmplcobahDoorProg
import Derived.Test.YtkjlchfmplcobahDoorRunAC
import Derived.Test.YtkjlchfmplcobahDoorFieldOpen
import Derived.OpenShut
namespace Go.Proofs.YtkjlchfmplcobahDoor
open Go.ChangeShapes Go.WideShapes Go.ChangeAt Go.WideMaps Go.WideElems Go.RowKit

/-- A slice of elements of m cells each. -/
theorem open_rows {α : Type} {H : Type} {enc : TypeId × Value → H} {W : World} {base m : Nat} {spare : Nat → Bool} {held : Bool} {v : Value} {d : DataW H} {p : List MemPlace} {t e : TypeId} (z : α) (P : World → Nat → Nat → α → Prop)
    (ht : Tryd.prog.underlying t = some (.slice e)) (hm : Tryd.prog.cellsOf e = m) (hm0 : 0 < m)
    (each : ∀ (cs : List Value) (fuel : Nat) (x : DataW H × List MemPlace), cs.length = m → DataW.trod enc Tryd.prog W base spare held fuel e cs = some x → ∃ y : α, ∀ b o, (∀ i, i < m → W.cell? ⟨b, o + i, none⟩ = cs[i]?) → P W b o y)
    (hv : ∃ a len cap, v = .slice a len cap) (h : DataW.Trod enc Tryd.prog W base spare held t v d p) : ∃ (l : List α) (a : Option Addr) (n c : Nat), v = .slice a n c ∧ RowAt m P z W (.slice a n c) l ∧ l.length = n := by
  obtain ⟨a, len, cap, rfl⟩ := hv
  obtain ⟨fuel, hf⟩ := h
  rcases Deep.open_slice ht hf with ⟨hcs, _⟩ | ⟨x, l, c, k, n, D, Pl, hcs, hb, hl, hcm, hmm, hx, hr⟩
  · simp [Value.cells] at hcs
    obtain ⟨rfl, rfl, rfl⟩ := hcs
    exact ⟨[], none, 0, 0, rfl, RowAt.nil _ _ _ _, rfl⟩
  · simp [Value.cells] at hcs
    obtain ⟨rfl, rfl, rfl⟩ := hcs
    have hlm : len ≤ k := by rw [hmm]; split <;> omega
    have one : ∀ i, ∃ y : α, i < k → ∃ cs : List Value, cs.length = m ∧ (∀ j, j < m → W.cell? (x.add (i * m + j)) = cs[j]?) ∧ ∀ b o, (∀ j, j < m → W.cell? ⟨b, o + j, none⟩ = cs[j]?) → P W b o y := fun i => by
      by_cases hi : i < k
      · obtain ⟨cs', h1, h2⟩ := hr i hi
        rw [hm] at h1
        obtain ⟨_, hlen, hcell⟩ := World.cells?_some h1
        obtain ⟨y, hy⟩ := each cs' _ _ hlen h2
        refine ⟨y, fun _ => ⟨cs', hlen, fun j hj => ?_, hy⟩⟩
        have := hcell j (by omega)
        rw [Deep.add_add] at this
        rw [this, List.getElem?_eq_getElem (by omega)]
      · exact ⟨z, fun h => absurd h hi⟩
    generalize hTT : (fun i => Classical.choose (one i)) = T
    have hT2 : ∀ i, i < k → ∃ cs : List Value, cs.length = m ∧ (∀ j, j < m → W.cell? (x.add (i * m + j)) = cs[j]?) ∧ ∀ b o, (∀ j, j < m → W.cell? ⟨b, o + j, none⟩ = cs[j]?) → P W b o (T i) := fun i hi => by
      rw [← hTT]; exact Classical.choose_spec (one i) hi
    have hget : ∀ j, j < len → ((List.range len).map T).getD j z = T j := fun j hj => by
      rw [List.getD_eq_getElem?_getD, List.getElem?_map, List.getElem?_range hj]; rfl
    refine ⟨(List.range len).map T, some x, len, cap, rfl, ⟨some x, cap, by simp, by simpa using hl, hcm, (fun e => by cases e), ?_⟩, by simp⟩
    by_cases hpos : 0 < len
    · obtain ⟨cs0, hc0, q0, -⟩ := hT2 0 (by omega)
      have q0 := q0 0 hm0
      rw [List.getElem?_eq_getElem (by omega)] at q0
      have hsp : x.spot = none := by simpa [Addr.add] using World.cell?_spot q0
      obtain ⟨b, off, spot⟩ := x
      subst hsp
      refine .inr ⟨b, off, rfl, World.block_lt_of_cell? W ⟨b, off, none⟩ (by simpa [Addr.add] using q0), fun j hj => ?_⟩
      have hj' : j < len := by simpa using hj
      rw [hget j hj']
      obtain ⟨cs, -, hc, hP⟩ := hT2 j (by omega)
      refine hP b _ (fun i hi => ?_)
      have := hc i hi
      rw [Addr.add_mid, ← Nat.add_assoc] at this
      exact this
    · obtain rfl : len = 0 := by omega
      exact .inl (by simp)
end Go.Proofs.YtkjlchfmplcobahDoor
