/- ShaLaid, ShaOpenParts, TreeOpen, ByteOpen, FieldOpen, FleetOpen, ShelfFaces, BookFaces, FleetFaces, BookOpen, ShownOpen, as one text. -/
import Derived.Test.YtkjlchfmplcobaeGreatDoorTie
import Derived.ProofKit
import Derived.LaidMore
import Derived.OpenShut
import Derived.Stop.Joined
import Derived.ShutString
import Derived.ChangeOld
import Derived.SizedLaws
import Derived.Lib.LaidTab
import Derived.Deep.Matrix
import Derived.Lib.SmallJoins
import Derived.Deep.Strs
import Derived.Test.YtkjlchfmplcobaeGreatDoorPackGoChunk
import Derived.Test.YtkjlchfmplcobaeGreatDoorPackGoWrite
import Derived.Test.YtkjlchfmplcobaeGreatDoorPackGoUnpack
import Derived.Test.YtkjlchfmplcobaeGreatDoorRunAQ
import Derived.Test.YtkjlchfmplcobaeGreatDoorTreeGoRoots
import Derived.Test.YtkjlchfmplcobaeGreatDoorRunAX
import Derived.Test.YtkjlchfmplcobaeGreatDoorFleetGoShowC
/- What the row's condition on the table of the rounds' words gives the walks; and how a slice of bytes that came in is opened. -/
namespace Go.Proofs.YtkjlchfmplcobaeGreatDoor
open Go.ChangeShapes Go.WideShapes Go.ChangeAt Go.WideMaps Go.WideElems Go.RowKit

theorem own : ownKnob Tryz.prog.godebug = none := by kernel_rfl
theorem laidOut : laidOutB Tryz.prog = true := by kernel_rfl
abbrev laidK : List (String × DataW Unit) := [("yearbook/sha.roundWords", Rows.laid_yearbook_sha_roundWords)]
def kwI : List Int := kw.map U
theorem laid_tab : (Rows.laid_yearbook_sha_roundWords : DataW Unit) = Lib.tabData .u32 kwI := by kernel_rfl
theorem gK : Tryz.prog.globalNamed "yearbook/sha.roundWords" = some 0 := by kernel_rfl
theorem tK : (Tryz.prog.globals[0]?).map (·.type) = some 189 := by kernel_rfl

/-- The door's own heap meets the condition. -/
theorem door_met (os : Os) (args : Array Value) : laidMetH Tryz.prog laidK ((World.doorLaid Tryz.prog 14 os).forCall (fun _ _ => 0) ⟨#[], args, []⟩).memory :=
 laidMetH_of_parts3 (fuel := 8) (laidMet_of_run' 8 (by kernel_rfl) (by kernel_rfl)) (by kernel_rfl) (by kernel_rfl)

theorem tab_of_laid {W : World} (h : laidMetH Tryz.prog laidK W) : Tab W ∧ 0 < W.heap.size := by
 rw [MakeChecks.laidMetH_plain _ _ _ (by kernel_rfl)] at h
 have h' : laidMet Tryz.prog (("yearbook/sha.roundWords", Lib.tabData .u32 kwI) :: []) W := by rw [← laid_tab]; exact h
 have hT := Lib.tabIs_of_head gK tK Tryz.underlying189 Tryz.underlying143 (by kernel_rfl) (by kernel_rfl) h'
 have hc : Tab W := fun i hi => by
  have h1 := hT.cell gK i (by show i < (kw.map U).length; rw [List.length_map]; exact hi)
  rw [h1]
  congr 2
  show (kw.map U).getD i 0 = U (kw.getD i 0)
  rw [List.getD_eq_getElem?_getD, List.getD_eq_getElem?_getD, List.getElem?_map, List.getElem?_eq_getElem (show i < kw.length from hi)]
  rfl
 exact ⟨hc, World.block_lt_of_cell? _ _ (hc 0 (by omega))⟩

end Go.Proofs.YtkjlchfmplcobaeGreatDoor

/- A slice of slices of bytes that came in, opened. -/
namespace Go.Proofs.YtkjlchfmplcobaeGreatDoor
open Go.ChangeShapes Go.WideShapes Go.ChangeAt Go.WideMaps Go.WideElems Go.RowKit

/-- A slice of slices of bytes that came in, opened. -/
theorem open_parts {H : Type} {enc : TypeId × Value → H} {W : World} {base : Nat} {held : Bool} {v : Value} {d : DataW H} {p : List MemPlace}
  (hv : ∃ a len cap, v = .slice a len cap) (h : DataW.Trod enc Tryz.prog W base (fun _ => true) held 43 v d p) :
  ∃ L : List (List Int), PartsAt W v L ∧ L.length ≤ maxLen ∧ (∀ j, (L.getD j []).length ≤ maxLen) ∧ ∀ j, Bytes (L.getD j []) := by
 obtain ⟨a, len, cap, rfl⟩ := hv
 obtain ⟨fuel, hf⟩ := h
 have nilB : Bytes [] := fun j => by simp
 rcases Deep.open_int_rows Tryz.underlying43 Tryz.underlying37 Tryz.underlying5 (by kernel_rfl) (by kernel_rfl) hf with ⟨hcs, _⟩ | ⟨x, l, c, A, Ln, C, Z, hcs, _, hl, hm, _, hr⟩
 ·simp [Value.cells] at hcs
  obtain ⟨rfl, rfl, rfl⟩ := hcs
  exact ⟨[], .inl ⟨rfl, none, 0, rfl⟩, Nat.zero_le _, fun j => by simp, fun j => by simpa using nilB⟩
 ·simp [Value.cells] at hcs
  obtain ⟨rfl, rfl, rfl⟩ := hcs
  have hget : ∀ j, j < len → ((List.range len).map fun r => (Z r).take (Ln r)).getD j [] = (Z j).take (Ln j) := fun j hj => by
   rw [List.getD_eq_getElem?_getD, List.getElem?_map, List.getElem?_range hj]; rfl
  have hout : ∀ j, ¬ j < len → ((List.range len).map fun r => (Z r).take (Ln r)).getD j [] = [] := fun j hj => by
   rw [List.getD_eq_getElem?_getD, List.getElem?_eq_none (by simpa using hj)]; rfl
  have hby : ∀ j, j < len → Bytes ((Z j).take (Ln j)) := fun j hj q => by
   obtain ⟨-, h1, h2, h3, h4, -⟩ := hr j (by omega)
   by_cases hq : q < Ln j
   ·rw [List.getD_eq_getElem?_getD, List.getElem?_take, if_pos hq, List.getElem?_eq_getElem (by omega)]
    have := bounds_u8 (h4 _ (List.getElem_mem (l := Z j) (n := q) (by omega)))
    exact ⟨this.1, by have := this.2; show (Z j)[q] < 256; omega⟩
   ·rw [List.getD_eq_getElem?_getD, List.getElem?_take, if_neg hq]
    exact ⟨by decide, by decide⟩
  refine ⟨(List.range len).map fun r => (Z r).take (Ln r), ?_, by simp; omega, fun j => ?_, fun j => ?_⟩
  ·by_cases hpos : 0 < len
   ·obtain ⟨h0, -⟩ := hr 0 (by omega)
    have hsp : x.spot = none := by simpa [Addr.add] using World.cell?_spot h0
    obtain ⟨b, off, spot⟩ := x
    subst hsp
    refine .inr ⟨b, off, cap, by simp, ?_, fun j hj => ?_⟩
    ·exact World.block_lt_of_cell? W ⟨b, off, none⟩ (by simpa [Addr.add] using h0)
    ·have hj' : j < len := by simpa using hj
     obtain ⟨h1, h2, h3, h4, h5, h6, h7⟩ := hr j (by omega)
     refine ⟨A j, Ln j, C j, by rw [← Addr.add_mid]; exact h1, ?_⟩
     rw [hget j hj']
     have htl : ((Z j).take (Ln j)).length = Ln j := by rw [List.length_take]; omega
     by_cases hp : 0 < Ln j
     ·cases hA : A j with
      | none => have := h6 hA; omega
      | some a' =>
       obtain ⟨-, h8⟩ := h7 a' hA
       obtain ⟨b2, o2, rfl, hc⟩ := ints_at (a := a') (k := .u8) (zs := Z j) (w := W) (fun i hi => h8 i (by omega)) (by omega)
       refine .inr ⟨b2, o2, C j, by rw [htl], World.block_lt_of_cell? _ _ (hc 0 (by omega)), fun q hq => ?_⟩
       rw [hc q (by omega), List.getD_eq_getElem?_getD, List.getD_eq_getElem?_getD, List.getElem?_take, if_pos (by omega)]
     ·refine .inl ⟨List.eq_nil_of_length_eq_zero (by omega), A j, C j, by rw [show Ln j = 0 by omega], h6⟩
   ·obtain rfl : len = 0 := by omega
    exact .inl ⟨rfl, _, _, rfl⟩
  ·by_cases hj : j < len
   ·rw [hget j hj, List.length_take]
    obtain ⟨-, h1, h2, -⟩ := hr j (by omega)
    omega
   ·rw [hout j hj]; exact Nat.zero_le _
  ·by_cases hj : j < len
   ·rw [hget j hj]; exact hby j hj
   ·rw [hout j hj]; exact nilB

end Go.Proofs.YtkjlchfmplcobaeGreatDoor

/- Lists of bytes that came in, opened as the faces take them. -/
namespace Go.Proofs.YtkjlchfmplcobaeGreatDoor
open Go.ChangeShapes Go.WideShapes Go.ChangeAt Go.WideMaps Go.WideElems Go.RowKit

theorem open_lists {H : Type} {enc : TypeId × Value → H} {W : World} {base : Nat} {held : Bool} {v : Value} {d : DataW H} {p : List MemPlace}
  (hv : ∃ a len cap, v = .slice a len cap) (h : DataW.Trod enc Tryz.prog W base (fun _ => true) held 43 v d p) :
  ∃ (L : List (List Int)) (a : Option Addr) (n c : Nat), v = .slice a n c ∧ Lists W a n c L := by
 obtain ⟨L, hP, hl, hs, hb⟩ := open_parts hv h
 obtain ⟨a, len, cap, rfl⟩ := hv
 have hlen : L.length = len := by
  obtain ⟨a', c', e, -⟩ := hP.form
  injection e with _ h2 _
  exact h2.symm
 obtain ⟨fuel, hf⟩ := h
 rcases Deep.open_int_rows Tryz.underlying43 Tryz.underlying37 Tryz.underlying5 (by kernel_rfl) (by kernel_rfl) hf with ⟨hcs, _⟩ | ⟨x, l, c, A, Ln, C, Z, hcs, _, hl2, hm, _, hr⟩
 ·simp [Value.cells] at hcs
  obtain ⟨rfl, rfl, rfl⟩ := hcs
  exact ⟨L, none, 0, 0, rfl, hlen, hP, Nat.le_refl _, Nat.zero_le _, fun _ => ⟨rfl, rfl⟩, hb, hs⟩
 ·simp [Value.cells] at hcs
  obtain ⟨rfl, rfl, rfl⟩ := hcs
  exact ⟨L, some x, len, cap, rfl, hlen, hP, hl2, hm, (fun h => by cases h), hb, hs⟩
theorem ready_of_laid {W : World} (h : laidMetH Tryz.prog laidK W) : Ready W := by
 obtain ⟨h1, h2⟩ := tab_of_laid h
 exact ⟨h1, h2⟩

end Go.Proofs.YtkjlchfmplcobaeGreatDoor

/- A slice of bytes that came in, opened, with its room. -/
namespace Go.Proofs.YtkjlchfmplcobaeGreatDoor
open Go.ChangeShapes Go.WideShapes Go.ChangeAt Go.WideMaps Go.WideElems Go.RowKit

theorem open_room {H : Type} {enc : TypeId × Value → H} {W : World} {base : Nat} {spare : Nat → Bool} {held : Bool} {v : Value} {d : DataW H} {p : List MemPlace}
  (hv : ∃ a len cap, v = .slice a len cap) (h : DataW.Trod enc Tryz.prog W base spare held 37 v d p) :
  ∃ (b : List Int) (a : Option Addr) (c : Nat), v = .slice a b.length c ∧ Some' W v b ∧ b.length ≤ c ∧ c ≤ maxLen := by
 obtain ⟨a, len, cap, rfl⟩ := hv
 obtain ⟨fuel, hf⟩ := h
 rcases open_ints Tryz.underlying37 Tryz.underlying5 (by kernel_rfl) hf with ⟨hcs, hx⟩ | ⟨x, l, c, zs, hcs, _, hl, hm, hz, hx, hcell, hwz⟩
 ·simp [Value.cells] at hcs
  obtain ⟨rfl, rfl, rfl⟩ := hcs
  exact ⟨[], none, 0, rfl, ⟨.inl ⟨rfl, none, 0, rfl, fun _ => rfl⟩, nil_bytes, Nat.zero_le _⟩, Nat.le_refl _, Nat.zero_le _⟩
 ·simp [Value.cells] at hcs
  obtain ⟨rfl, rfl, rfl⟩ := hcs
  have hlz : len ≤ zs.length := by split at hz <;> omega
  have htl : (zs.take len).length = len := by rw [List.length_take]; omega
  have hget : ∀ j, j < len → (zs.take len).getD j 0 = zs.getD j 0 := fun j hj => by
   rw [List.getD_eq_getElem?_getD, List.getD_eq_getElem?_getD, List.getElem?_take, if_pos hj]
  have hby : Bytes (zs.take len) := fun j => by
   by_cases hj : j < len
   ·rw [hget j hj, List.getD_eq_getElem?_getD, List.getElem?_eq_getElem (by omega)]
    have := hwz _ (List.getElem_mem (l := zs) (n := j) (by omega))
    have := bounds_u8 this
    exact ⟨this.1, by have := this.2; show zs[j] < 256; omega⟩
   ·rw [List.getD_eq_getElem?_getD, List.getElem?_eq_none (by omega)]
    exact ⟨by decide, by decide⟩
  by_cases hpos : 0 < len
  ·obtain ⟨b, off, rfl, hc⟩ := ints_at hcell (by omega)
   refine ⟨zs.take len, _, cap, by rw [htl], ⟨.inr ⟨b, off, cap, by rw [htl], ?_, fun j hj => ?_⟩, hby, by omega⟩, by omega, hm⟩
   ·exact World.block_lt_of_cell? _ _ (hc 0 (by omega))
   ·rw [hget j (by omega)]; exact hc j (by omega)
  ·obtain rfl : len = 0 := by omega
   exact ⟨[], _, cap, rfl, ⟨.inl ⟨rfl, _, _, rfl, fun h => by cases h⟩, nil_bytes, Nat.zero_le _⟩, Nat.zero_le _, hm⟩

end Go.Proofs.YtkjlchfmplcobaeGreatDoor

/- Fields that came in, opened: numbers, bytes, heads. -/
namespace Go.Proofs.YtkjlchfmplcobaeGreatDoor
open Go.ChangeShapes Go.WideShapes Go.ChangeAt Go.WideMaps Go.WideElems Go.RowKit

theorem int_cells5 : Tryz.prog.cellsOf 3 = 1 := by kernel_rfl
theorem bytes_cells5 : Tryz.prog.cellsOf 37 = 1 := by kernel_rfl
theorem head_cells5 : Tryz.prog.cellsOf 39 = 2 := by kernel_rfl
theorem open_packed {H : Type} {enc : TypeId × Value → H} {W : World} {base fuel : Nat} {spare : Nat → Bool} {held : Bool} {v : Value} {x : DataW H × List MemPlace}
  (h : DataW.trod enc Tryz.prog W base spare held fuel 37 [v] = some x) : ∃ (b : List Int) (a : Option Addr) (c : Nat), v = .slice a b.length c ∧ Some' W (.slice a b.length c) b ∧ b.length ≤ c ∧ c ≤ maxLen := by
 obtain ⟨sa, sl, sc, e⟩ := Go.Joins.slice_form Tryz.underlying37 h
 simp at e
 subst e
 obtain ⟨b, a, c, e, h1, h2, h3⟩ := open_room (v := .slice sa sl sc) ⟨_, _, _, rfl⟩ ⟨fuel, h⟩
 rw [e] at h1 ⊢
 exact ⟨b, a, c, rfl, h1, h2, h3⟩

end Go.Proofs.YtkjlchfmplcobaeGreatDoor

/- Windows, and things to be done, that came in, opened. -/
namespace Go.Proofs.YtkjlchfmplcobaeGreatDoor
open Go.ChangeShapes Go.WideShapes Go.ChangeAt Go.WideMaps Go.WideElems Go.RowKit

theorem win_cells7 : Tryz.prog.cellsOf 60 = 2 := by kernel_rfl
theorem do_cells7 : Tryz.prog.cellsOf 56 = 7 := by kernel_rfl
theorem byte_cells7 : Tryz.prog.cellsOf 5 = 1 := by kernel_rfl
/-- A slice of elements of m cells each. -/
theorem open_rows {α : Type} {H : Type} {enc : TypeId × Value → H} {W : World} {base m : Nat} {spare : Nat → Bool} {held : Bool} {v : Value} {d : DataW H} {p : List MemPlace} {t e : TypeId} (z : α) (P : World → Nat → Nat → α → Prop)
  (ht : Tryz.prog.underlying t = some (.slice e)) (hm : Tryz.prog.cellsOf e = m) (hm0 : 0 < m)
  (each : ∀ (cs : List Value) (fuel : Nat) (x : DataW H × List MemPlace), cs.length = m → DataW.trod enc Tryz.prog W base spare held fuel e cs = some x → ∃ y : α, ∀ b o, (∀ i, i < m → W.cell? ⟨b, o + i, none⟩ = cs[i]?) → P W b o y)
  (hv : ∃ a len cap, v = .slice a len cap) (h : DataW.Trod enc Tryz.prog W base spare held t v d p) : ∃ (l : List α) (a : Option Addr) (n c : Nat), v = .slice a n c ∧ RowAt m P z W (.slice a n c) l ∧ l.length = n := by
 obtain ⟨a, len, cap, rfl⟩ := hv
 obtain ⟨fuel, hf⟩ := h
 rcases Deep.open_slice ht hf with ⟨hcs, _⟩ | ⟨x, l, c, k, n, D, Pl, hcs, hb, hl, hcm, hmm, hx, hr⟩
 ·simp [Value.cells] at hcs
  obtain ⟨rfl, rfl, rfl⟩ := hcs
  exact ⟨[], none, 0, 0, rfl, RowAt.nil _ _ _ _, rfl⟩
 ·simp [Value.cells] at hcs
  obtain ⟨rfl, rfl, rfl⟩ := hcs
  have hlm : len ≤ k := by rw [hmm]; split <;> omega
  have one : ∀ i, ∃ y : α, i < k → ∃ cs : List Value, cs.length = m ∧ (∀ j, j < m → W.cell? (x.add (i * m + j)) = cs[j]?) ∧ ∀ b o, (∀ j, j < m → W.cell? ⟨b, o + j, none⟩ = cs[j]?) → P W b o y := fun i => by
   by_cases hi : i < k
   ·obtain ⟨cs', h1, h2⟩ := hr i hi
    rw [hm] at h1
    obtain ⟨_, hlen, hcell⟩ := World.cells?_some h1
    obtain ⟨y, hy⟩ := each cs' _ _ hlen h2
    refine ⟨y, fun _ => ⟨cs', hlen, fun j hj => ?_, hy⟩⟩
    have := hcell j (by omega)
    rw [Deep.add_add] at this
    rw [this, List.getElem?_eq_getElem (by omega)]
   ·exact ⟨z, fun h => absurd h hi⟩
  generalize hTT : (fun i => Classical.choose (one i)) = T
  have hT2 : ∀ i, i < k → ∃ cs : List Value, cs.length = m ∧ (∀ j, j < m → W.cell? (x.add (i * m + j)) = cs[j]?) ∧ ∀ b o, (∀ j, j < m → W.cell? ⟨b, o + j, none⟩ = cs[j]?) → P W b o (T i) := fun i hi => by
   rw [← hTT]; exact Classical.choose_spec (one i) hi
  have hget : ∀ j, j < len → ((List.range len).map T).getD j z = T j := fun j hj => by
   rw [List.getD_eq_getElem?_getD, List.getElem?_map, List.getElem?_range hj]; rfl
  refine ⟨(List.range len).map T, some x, len, cap, rfl, ⟨some x, cap, by simp, by simpa using hl, hcm, (fun e => by cases e), ?_⟩, by simp⟩
  by_cases hpos : 0 < len
  ·obtain ⟨cs0, hc0, q0, -⟩ := hT2 0 (by omega)
   have q0 := q0 0 hm0
   rw [List.getElem?_eq_getElem (by omega)] at q0
   have hsp : x.spot = none := by simpa [Addr.add] using World.cell?_spot q0
   obtain ⟨b, off, spot⟩ := x
   subst hsp
   refine .inr ⟨b, off, rfl, World.block_lt_of_cell? W ⟨b, off, none⟩ (by simpa [Addr.add] using q0), fun j hj => ?_⟩
   have hj' : j < len := by simpa using hj
   rw [hget j hj']
   obtain ⟨cs, -, hc, hP⟩ := hT2 j (by omega)
   refine hP b _ (fun i hi => ?_)
   have := hc i hi
   rw [Addr.add_mid, ← Nat.add_assoc] at this
   exact this
  ·obtain rfl : len = 0 := by omega
   exact .inl (by simp)
theorem list2' {α : Type} {cs : List α} (h : cs.length = 2) : ∃ c0 c1, cs = [c0, c1] := by
 match cs, h with
 | [c0, c1], _ => exact ⟨c0, c1, rfl⟩
theorem list7' {α : Type} {cs : List α} (h : cs.length = 7) : ∃ c0 c1 c2 c3 c4 c5 c6, cs = [c0, c1, c2, c3, c4, c5, c6] := by
 match cs, h with
 | [c0, c1, c2, c3, c4, c5, c6], _ => exact ⟨c0, c1, c2, c3, c4, c5, c6, rfl⟩
theorem trod_struct7 {H : Type} {enc : TypeId × Value → H} {w : World} {base fuel : Nat} {spare : Nat → Bool} {held : Bool} {t : TypeId} {f0 f1 f2 f3 f4 f5 f6 : Field} {cs : List Value} {x : DataW H × List MemPlace} (ht : Tryz.prog.underlying t = some (.struct #[f0, f1, f2, f3, f4, f5, f6])) (h : DataW.trod enc Tryz.prog w base spare held fuel t cs = some x) :
  ∃ y0 y1 y2 y3 y4 y5 y6 n, DataW.trod enc Tryz.prog w base spare held n f0.type ((cs.drop f0.offset).take (Tryz.prog.cellsOf f0.type)) = some y0 ∧ DataW.trod enc Tryz.prog w base spare held n f1.type ((cs.drop f1.offset).take (Tryz.prog.cellsOf f1.type)) = some y1 ∧ DataW.trod enc Tryz.prog w base spare held n f2.type ((cs.drop f2.offset).take (Tryz.prog.cellsOf f2.type)) = some y2 ∧ DataW.trod enc Tryz.prog w base spare held n f3.type ((cs.drop f3.offset).take (Tryz.prog.cellsOf f3.type)) = some y3 ∧ DataW.trod enc Tryz.prog w base spare held n f4.type ((cs.drop f4.offset).take (Tryz.prog.cellsOf f4.type)) = some y4 ∧ DataW.trod enc Tryz.prog w base spare held n f5.type ((cs.drop f5.offset).take (Tryz.prog.cellsOf f5.type)) = some y5 ∧ DataW.trod enc Tryz.prog w base spare held n f6.type ((cs.drop f6.offset).take (Tryz.prog.cellsOf f6.type)) = some y6 := by
 obtain ⟨xs, n, _, rfl, hl, hlen, hf⟩ := DataW.trod_struct ht h
 match xs, hlen with
 | [y0, y1, y2, y3, y4, y5, y6], _ => exact ⟨y0, y1, y2, y3, y4, y5, y6, n, by simpa using hf 0 f0 rfl, by simpa using hf 1 f1 rfl, by simpa using hf 2 f2 rfl, by simpa using hf 3 f3 rfl, by simpa using hf 4 f4 rfl, by simpa using hf 5 f5 rfl, by simpa using hf 6 f6 rfl⟩
theorem trod_struct8 {H : Type} {enc : TypeId × Value → H} {w : World} {base fuel : Nat} {spare : Nat → Bool} {held : Bool} {t : TypeId} {f0 f1 f2 f3 f4 f5 f6 f7 : Field} {cs : List Value} {x : DataW H × List MemPlace} (ht : Tryz.prog.underlying t = some (.struct #[f0, f1, f2, f3, f4, f5, f6, f7])) (h : DataW.trod enc Tryz.prog w base spare held fuel t cs = some x) :
  ∃ y0 y1 y2 y3 y4 y5 y6 y7 n, DataW.trod enc Tryz.prog w base spare held n f0.type ((cs.drop f0.offset).take (Tryz.prog.cellsOf f0.type)) = some y0 ∧ DataW.trod enc Tryz.prog w base spare held n f1.type ((cs.drop f1.offset).take (Tryz.prog.cellsOf f1.type)) = some y1 ∧ DataW.trod enc Tryz.prog w base spare held n f2.type ((cs.drop f2.offset).take (Tryz.prog.cellsOf f2.type)) = some y2 ∧ DataW.trod enc Tryz.prog w base spare held n f3.type ((cs.drop f3.offset).take (Tryz.prog.cellsOf f3.type)) = some y3 ∧ DataW.trod enc Tryz.prog w base spare held n f4.type ((cs.drop f4.offset).take (Tryz.prog.cellsOf f4.type)) = some y4 ∧ DataW.trod enc Tryz.prog w base spare held n f5.type ((cs.drop f5.offset).take (Tryz.prog.cellsOf f5.type)) = some y5 ∧ DataW.trod enc Tryz.prog w base spare held n f6.type ((cs.drop f6.offset).take (Tryz.prog.cellsOf f6.type)) = some y6 ∧ DataW.trod enc Tryz.prog w base spare held n f7.type ((cs.drop f7.offset).take (Tryz.prog.cellsOf f7.type)) = some y7 := by
 obtain ⟨xs, n, _, rfl, hl, hlen, hf⟩ := DataW.trod_struct ht h
 match xs, hlen with
 | [y0, y1, y2, y3, y4, y5, y6, y7], _ => exact ⟨y0, y1, y2, y3, y4, y5, y6, y7, n, by simpa using hf 0 f0 rfl, by simpa using hf 1 f1 rfl, by simpa using hf 2 f2 rfl, by simpa using hf 3 f3 rfl, by simpa using hf 4 f4 rfl, by simpa using hf 5 f5 rfl, by simpa using hf 6 f6 rfl, by simpa using hf 7 f7 rfl⟩
set_option maxRecDepth 100000 in
theorem open_wins {H : Type} {enc : TypeId × Value → H} {W : World} {base : Nat} {spare : Nat → Bool} {held : Bool} {v : Value} {d : DataW H} {p : List MemPlace}
  (hv : ∃ a len cap, v = .slice a len cap) (h : DataW.Trod enc Tryz.prog W base spare held 22 v d p) : ∃ (l : List Win) (a : Option Addr) (n c : Nat), v = .slice a n c ∧ WinsAt W (.slice a n c) l ∧ l.length = n := by
 refine open_rows win0 WinCells Tryz.underlying22 win_cells7 (by decide) (fun cs fuel x hl hx => ?_) hv h
 obtain ⟨c0, c1, rfl⟩ := list2' hl
 obtain ⟨xs, m, -, -, -, hxl, hf⟩ := DataW.trod_array Tryz.underlying60 hx
 have h0 := hf 0 (by omega)
 have h1 := hf 1 (by omega)
 simp only [int_cells5, Nat.zero_mul, Nat.one_mul, List.drop, List.take] at h0 h1
 rw [List.getElem?_eq_getElem (by omega)] at h0 h1
 obtain ⟨a, e0, -, -⟩ := DataW.trod_int Tryz.underlying3 h0
 obtain ⟨b, e1, -, -⟩ := DataW.trod_int Tryz.underlying3 h1
 simp at e0 e1
 subst e0 e1
 refine ⟨⟨a, b⟩, fun g o hc => ⟨hc 0 (by omega), hc 1 (by omega)⟩⟩
set_option maxRecDepth 100000 in
theorem open_dd {H : Type} {enc : TypeId × Value → H} {W : World} {base fuel : Nat} {spare : Nat → Bool} {held : Bool} {c0 c1 c2 c3 c4 c5 c6 : Value} {x : DataW H × List MemPlace}
  (hf : DataW.trod enc Tryz.prog W base spare held fuel 56 [c0, c1, c2, c3, c4, c5, c6] = some x) :
  ∃ (y : Dd) (pa : Option Addr) (pc : Nat), c0 = .int .i64 y.kind ∧ c1 = .int .i64 y.n ∧ c2 = .int .i64 y.time ∧ c3 = .slice pa y.entry.length pc ∧ c4 = .int .i64 y.segment ∧ c5 = .int .i64 y.at' ∧ c6 = .int .u8 y.by' ∧ Some' W (.slice pa y.entry.length pc) y.entry ∧ DdFit y := by
 obtain ⟨y0, y1, y2, y3, y4, y5, y6, n, h0, h1, h2, h3, h4, h5, h6⟩ := trod_struct7 Tryz.underlying56 hf
 simp only [int_cells5, bytes_cells5, byte_cells7, List.drop, List.take] at h0 h1 h2 h3 h4 h5 h6
 obtain ⟨z0, e0, -, w0⟩ := DataW.trod_int Tryz.underlying3 h0
 obtain ⟨z1, e1, -, -⟩ := DataW.trod_int Tryz.underlying3 h1
 obtain ⟨z2, e2, -, -⟩ := DataW.trod_int Tryz.underlying3 h2
 obtain ⟨b, pa, pc, e3, h5', -, -⟩ := open_packed h3
 obtain ⟨z4, e4, -, -⟩ := DataW.trod_int Tryz.underlying3 h4
 obtain ⟨z5, e5, -, -⟩ := DataW.trod_int Tryz.underlying3 h5
 obtain ⟨z6, e6, -, w6⟩ := DataW.trod_int Tryz.underlying5 h6
 simp at e0 e1 e2 e4 e5 e6
 have k0 := bounds_i64 w0
 have k6 := bounds_u8 w6
 exact ⟨⟨z0, z1, z2, b, z4, z5, z6⟩, pa, pc, e0, e1, e2, e3, e4, e5, e6, h5', ⟨⟨k6.1, Int.lt_of_le_of_lt k6.2 (by decide)⟩, k0.1, k0.2⟩⟩
set_option maxRecDepth 100000 in
theorem open_dos {H : Type} {enc : TypeId × Value → H} {W : World} {base : Nat} {spare : Nat → Bool} {held : Bool} {v : Value} {d : DataW H} {p : List MemPlace}
  (hv : ∃ a len cap, v = .slice a len cap) (h : DataW.Trod enc Tryz.prog W base spare held 23 v d p) : ∃ (l : List Dd) (a : Option Addr) (n c : Nat), v = .slice a n c ∧ DosAt W (.slice a n c) l ∧ l.length = n := by
 refine open_rows dd0 DdCells Tryz.underlying23 do_cells7 (by decide) (fun cs fuel x hl hx => ?_) hv h
 obtain ⟨c0, c1, c2, c3, c4, c5, c6, rfl⟩ := list7' hl
 obtain ⟨y, pa, pc, e0, e1, e2, e3, e4, e5, e6, hS, hfit⟩ := open_dd hx
 subst e0 e1 e2 e3 e4 e5 e6
 exact ⟨y, fun g o hc => ⟨hc 0 (by omega), hc 1 (by omega), hc 2 (by omega), ⟨pa, pc, hc 3 (by omega), hS⟩, hc 4 (by omega), hc 5 (by omega), hc 6 (by omega), hfit⟩⟩

end Go.Proofs.YtkjlchfmplcobaeGreatDoor

/- The faces of package shelf, as it landed, are as the laws ask. -/
namespace Go.Proofs.YtkjlchfmplcobaeGreatDoor
open Go.RowKit

theorem segmentC_holds : SegmentC := segmentC_of unpackRC_holds
end Go.Proofs.YtkjlchfmplcobaeGreatDoor

/- What the laws of chapter 6 ask of package book, of the landed packages book and tree. -/
namespace Go.Proofs.YtkjlchfmplcobaeGreatDoor

theorem bookHeadC : BookHeadC := bookHeadC_holds rootC_holds
theorem bookPathC : BookPathC := bookPathC_holds pathC_holds
end Go.Proofs.YtkjlchfmplcobaeGreatDoor

/- The faces of package fleet, as it landed, are as the laws ask. -/
namespace Go.Proofs.YtkjlchfmplcobaeGreatDoor
open Go.RowKit

theorem verifyOC_holds : VerifyOC := verifyO_of segmentC_holds rootC_holds
theorem showC_holds : ShowC := showC_of verifyOC_holds pathC_holds bookPathC bookHeadC
theorem checkC_holds : CheckC := checkC_of recBytesC_holds standsC_holds

end Go.Proofs.YtkjlchfmplcobaeGreatDoor

/- Records that came in, opened. -/
namespace Go.Proofs.YtkjlchfmplcobaeGreatDoor
open Go.ChangeShapes Go.WideShapes Go.ChangeAt Go.WideMaps Go.WideElems Go.RowKit

theorem rec_cells6 : Tryz.prog.cellsOf 45 = 5 := by kernel_rfl
set_option maxRecDepth 100000 in
theorem open_rec_cells {H : Type} {enc : TypeId × Value → H} {W : World} {base fuel : Nat} {spare : Nat → Bool} {held : Bool} {c0 c1 c2 c3 c4 : Value} {x : DataW H × List MemPlace}
  (hf : DataW.trod enc Tryz.prog W base spare held fuel 45 [c0, c1, c2, c3, c4] = some x) :
  ∃ (r : Rec) (ra : Option Addr) (rc : Nat), c0 = .int .i64 r.shard ∧ c1 = .int .i64 r.from' ∧ c2 = .int .i64 r.to' ∧ c3 = .int .i64 r.size ∧ c4 = .slice ra r.root.length rc ∧ Some' W (.slice ra r.root.length rc) r.root := by
 obtain ⟨y0, y1, y2, y3, n, -, -, h0, h1, h2, h3⟩ := Go.Joins.trod_struct4 Tryz.underlying45 hf
 simp only [int_cells5, head_cells5, List.drop, List.take] at h0 h1 h2 h3
 obtain ⟨z0, z1, k, -, -, g0, g1⟩ := trod_struct2 Tryz.underlying39 h3
 simp only [int_cells5, bytes_cells5, List.drop, List.take] at g0 g1
 obtain ⟨s, e0, -, -⟩ := DataW.trod_int Tryz.underlying3 h0
 obtain ⟨f, e1, -, -⟩ := DataW.trod_int Tryz.underlying3 h1
 obtain ⟨t, e2, -, -⟩ := DataW.trod_int Tryz.underlying3 h2
 obtain ⟨z, e3, -, -⟩ := DataW.trod_int Tryz.underlying3 g0
 obtain ⟨b, pa, pc, e4, h5, -, -⟩ := open_packed g1
 simp at e0 e1 e2 e3
 exact ⟨⟨s, f, t, z, b⟩, pa, pc, e0, e1, e2, e3, e4, h5⟩
end Go.Proofs.YtkjlchfmplcobaeGreatDoor

/- What is shown, and a single thing to be done, and a head, that came in, opened. -/
namespace Go.Proofs.YtkjlchfmplcobaeGreatDoor
open Go.ChangeShapes Go.WideShapes Go.ChangeAt Go.WideMaps Go.WideElems Go.RowKit

theorem shown_cells7 : Tryz.prog.cellsOf 47 = 13 := by kernel_rfl
theorem lists_cells7 : Tryz.prog.cellsOf 43 = 1 := by kernel_rfl
theorem array13' {α : Type} {cs : Array α} (h : cs.size = 13) : ∃ c0 c1 c2 c3 c4 c5 c6 c7 c8 c9 c10 c11 c12, cs = #[c0, c1, c2, c3, c4, c5, c6, c7, c8, c9, c10, c11, c12] := by
 obtain ⟨l⟩ := cs
 match l, h with
 | [c0, c1, c2, c3, c4, c5, c6, c7, c8, c9, c10, c11, c12], _ => exact ⟨c0, c1, c2, c3, c4, c5, c6, c7, c8, c9, c10, c11, c12, rfl⟩
/-- A list of lists in a field. -/
theorem open_path {H : Type} {enc : TypeId × Value → H} {W : World} {base fuel : Nat} {held : Bool} {v : Value} {x : DataW H × List MemPlace}
  (h : DataW.trod enc Tryz.prog W base (fun _ => true) held fuel 43 [v] = some x) : ∃ (l : List (List Int)) (a : Option Addr) (c : Nat), v = .slice a l.length c ∧ Lists W a l.length c l := by
 obtain ⟨sa, sl, sc, e⟩ := Go.Joins.slice_form Tryz.underlying43 h
 simp at e
 subst e
 obtain ⟨l, a, n, c, e, hL⟩ := open_lists (v := .slice sa sl sc) ⟨_, _, _, rfl⟩ ⟨fuel, h⟩
 have := hL.len
 rw [← this] at e hL
 exact ⟨l, a, c, e, hL⟩
set_option maxRecDepth 100000 in
theorem open_shw {H : Type} {enc : TypeId × Value → H} {W : World} {r : Reach} {b0 base : Nat} {held : Bool} {v : Value} {d : DataW H} {p : List MemPlace}
  (hv : Value.okWide Tryz.prog W r b0 47 v) (h : DataW.Trod enc Tryz.prog W base (fun _ => true) held 47 v d p) : ∃ s : Shw, ShwV W v s := by
 obtain ⟨cs, rfl, hsz⟩ := okWide_struct Tryz.underlying47 hv
 obtain ⟨c0, c1, c2, c3, c4, c5, c6, c7, c8, c9, c10, c11, c12, rfl⟩ := array13' (hsz.trans shown_cells7)
 obtain ⟨fuel, hf⟩ := h
 obtain ⟨y0, y1, y2, y3, y4, y5, y6, y7, n, h0, h1, h2, h3, h4, h5, h6, h7⟩ := trod_struct8 Tryz.underlying47 hf
 simp only [int_cells5, bytes_cells5, lists_cells7, rec_cells6, head_cells5, Value.cells, List.drop, List.take] at h0 h1 h2 h3 h4 h5 h6 h7
 obtain ⟨eb, ea, ec, e0, g0, -, -⟩ := open_packed h0
 obtain ⟨z1, e1, -, -⟩ := DataW.trod_int Tryz.underlying3 h1
 obtain ⟨z2, e2, -, -⟩ := DataW.trod_int Tryz.underlying3 h2
 obtain ⟨pl, pa, pc, e3, g3⟩ := open_path h3
 obtain ⟨rr, ra, rc, q0, q1, q2, q3, q4, g4⟩ := open_rec_cells h4
 obtain ⟨z5, e5, -, -⟩ := DataW.trod_int Tryz.underlying3 h5
 obtain ⟨bl, ba, bc, e6, g6⟩ := open_path h6
 obtain ⟨w0, w1, k, -, -, k0, k1⟩ := trod_struct2 Tryz.underlying39 h7
 simp only [int_cells5, bytes_cells5, List.drop, List.take] at k0 k1
 obtain ⟨hs, e7, -, -⟩ := DataW.trod_int Tryz.underlying3 k0
 obtain ⟨hb, ha, hc, e8, g8, -, -⟩ := open_packed k1
 simp at e1 e2 e5 e7
 subst e0 e1 e2 e3 e5 e6 e7 e8 q0 q1 q2 q3 q4
 exact ⟨⟨eb, z1, z2, pl, rr, z5, bl, hs, hb⟩, ⟨ea, ec, pa, pc, ra, rc, ba, bc, ha, hc, rfl, g0, g3, g4, g6, g8⟩⟩
set_option maxRecDepth 100000 in
theorem open_head1 {H : Type} {enc : TypeId × Value → H} {W : World} {r : Reach} {b0 base : Nat} {held : Bool} {v : Value} {d : DataW H} {p : List MemPlace}
  (hv : Value.okWide Tryz.prog W r b0 39 v) (h : DataW.Trod enc Tryz.prog W base (fun _ => true) held 39 v d p) :
  ∃ (hs : Int) (hr : List Int) (a : Option Addr) (c : Nat), v = .agg #[.int .i64 hs, .slice a hr.length c] ∧ Some' W (.slice a hr.length c) hr := by
 obtain ⟨cs, rfl, hsz⟩ := okWide_struct Tryz.underlying39 hv
 obtain ⟨c0, c1, rfl⟩ : ∃ c0 c1, cs = #[c0, c1] := by
  obtain ⟨l⟩ := cs
  match l, hsz.trans head_cells5 with
  | [c0, c1], _ => exact ⟨c0, c1, rfl⟩
 obtain ⟨fuel, hf⟩ := h
 obtain ⟨z0, z1, k, -, -, g0, g1⟩ := trod_struct2 Tryz.underlying39 hf
 simp only [int_cells5, bytes_cells5, Value.cells, List.drop, List.take] at g0 g1
 obtain ⟨hs, e0, -, -⟩ := DataW.trod_int Tryz.underlying3 g0
 obtain ⟨b, pa, pc, e1, h5, -, -⟩ := open_packed g1
 simp at e0
 subst e0 e1
 exact ⟨hs, b, pa, pc, rfl, h5⟩

end Go.Proofs.YtkjlchfmplcobaeGreatDoor
