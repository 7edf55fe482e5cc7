/- ShaLaid, TreeOpen, ByteOpen, FieldOpen, FleetOpen, FleetOff, ShelfFaces, BookRefRows, BookGoBook, TreeGoRoots, FleetFaces, as one text. -/
import Derived.Test.YtkjlchfmplcobaeGreatDoorRows
import Derived.Test.YtkjlchfmplcobaeGreatDoorTie
import Derived.Test.YtkjlchfmplcobaeGreatDoorRunAK
import Derived.WalkKit
import Derived.ProofKit
import Derived.LaidMore
import Derived.OpenShut
import Derived.Stop.Joined
import Derived.ShutString
import Derived.ChangeOld
import Derived.SizedLaws
import Derived.Lib.LaidTab
import Derived.Test.YtkjlchfmplcobaeGreatDoorShaOwn
import Derived.Deep.Matrix
import Derived.Test.YtkjlchfmplcobaeGreatDoorRunAB
import Derived.Test.YtkjlchfmplcobaeGreatDoorRunAQ
import Derived.Test.YtkjlchfmplcobaeGreatDoorProg
import Derived.Lib.SmallJoins
import Derived.Deep.Strs
import Derived.Test.YtkjlchfmplcobaeGreatDoorRunAC
import Derived.Test.YtkjlchfmplcobaeGreatDoorRunAD
import Derived.Test.YtkjlchfmplcobaeGreatDoorShelfGoExport
import Derived.Test.YtkjlchfmplcobaeGreatDoorRunAV
import Derived.Test.YtkjlchfmplcobaeGreatDoorRunAU
import Derived.WalkSpells
import Derived.WalkLawsBesides
import Derived.Deep.QuietTactic
import Derived.BigQuiet
import Derived.Test.YtkjlchfmplcobaeGreatDoorShelfGoVerify
import Derived.Test.YtkjlchfmplcobaeGreatDoorRunAL
import Derived.Test.YtkjlchfmplcobaeGreatDoorPackGoPack
import Derived.Test.YtkjlchfmplcobaeGreatDoorPackGoUnpack
import Derived.Test.YtkjlchfmplcobaeGreatDoorRunAM
import Derived.Deep.RegionHeld3
import Derived.BigRegion
import Derived.OwnWalk
import Derived.Laws.CopyOwn
import Derived.Deep.RegionLaw
import Derived.Test.YtkjlchfmplcobaeGreatDoorRunAW
import Derived.Test.YtkjlchfmplcobaeGreatDoorRunAE
import Derived.Deep.RegionWith
import Derived.Test.YtkjlchfmplcobaeGreatDoorRunAR
/- What the row's condition on the table of the rounds' words gives the walks; and how a slice of bytes that came in is opened. -/
namespace Go.Proofs.YtkjlchfmplcobaeGreatDoor
open Go.ChangeShapes Go.WideShapes Go.ChangeAt Go.WideMaps Go.WideElems Go.RowKit

theorem own : ownKnob Tryz.prog.godebug = none := by kernel_rfl
theorem laidOut : laidOutB Tryz.prog = true := by kernel_rfl
abbrev laidK : List (String × DataW Unit) := [("yearbook/sha.roundWords", Rows.laid_yearbook_sha_roundWords)]
def kwI : List Int := kw.map U
theorem laid_tab : (Rows.laid_yearbook_sha_roundWords : DataW Unit) = Lib.tabData .u32 kwI := by kernel_rfl
theorem gK : Tryz.prog.globalNamed "yearbook/sha.roundWords" = some 0 := by kernel_rfl
theorem tK : (Tryz.prog.globals[0]?).map (·.type) = some 189 := by kernel_rfl

/-- The door's own heap meets the condition. -/
theorem door_met (os : Os) (args : Array Value) : laidMetH Tryz.prog laidK ((World.doorLaid Tryz.prog 14 os).forCall (fun _ _ => 0) ⟨#[], args, []⟩).memory :=
  laidMetH_of_parts3 (fuel := 8) (laidMet_of_run' 8 (by kernel_rfl) (by kernel_rfl)) (by kernel_rfl) (by kernel_rfl)

theorem tab_of_laid {W : World} (h : laidMetH Tryz.prog laidK W) : Tab W ∧ 0 < W.heap.size := by
  rw [MakeChecks.laidMetH_plain _ _ _ (by kernel_rfl)] at h
  have h' : laidMet Tryz.prog (("yearbook/sha.roundWords", Lib.tabData .u32 kwI) :: []) W := by rw [← laid_tab]; exact h
  have hT := Lib.tabIs_of_head gK tK Tryz.underlying189 Tryz.underlying143 (by kernel_rfl) (by kernel_rfl) h'
  have hc : Tab W := fun i hi => by
    have h1 := hT.cell gK i (by show i < (kw.map U).length; rw [List.length_map]; exact hi)
    rw [h1]
    congr 2
    show (kw.map U).getD i 0 = U (kw.getD i 0)
    rw [List.getD_eq_getElem?_getD, List.getD_eq_getElem?_getD, List.getElem?_map, List.getElem?_eq_getElem (show i < kw.length from hi)]
    rfl
  exact ⟨hc, World.block_lt_of_cell? _ _ (hc 0 (by omega))⟩

end Go.Proofs.YtkjlchfmplcobaeGreatDoor

/- Lists of bytes that came in, opened as the faces take them. -/
namespace Go.Proofs.YtkjlchfmplcobaeGreatDoor
open Go.ChangeShapes Go.WideShapes Go.ChangeAt Go.WideMaps Go.WideElems Go.RowKit

theorem ready_of_laid {W : World} (h : laidMetH Tryz.prog laidK W) : Ready W := by
  obtain ⟨h1, h2⟩ := tab_of_laid h
  exact ⟨h1, h2⟩

end Go.Proofs.YtkjlchfmplcobaeGreatDoor

/- A slice of bytes that came in, opened, with its room. -/
namespace Go.Proofs.YtkjlchfmplcobaeGreatDoor
open Go.ChangeShapes Go.WideShapes Go.ChangeAt Go.WideMaps Go.WideElems Go.RowKit

theorem open_room {H : Type} {enc : TypeId × Value → H} {W : World} {base : Nat} {spare : Nat → Bool} {held : Bool} {v : Value} {d : DataW H} {p : List MemPlace}
    (hv : ∃ a len cap, v = .slice a len cap) (h : DataW.Trod enc Tryz.prog W base spare held 37 v d p) :
    ∃ (b : List Int) (a : Option Addr) (c : Nat), v = .slice a b.length c ∧ Some' W v b ∧ b.length ≤ c ∧ c ≤ maxLen := by
  obtain ⟨a, len, cap, rfl⟩ := hv
  obtain ⟨fuel, hf⟩ := h
  rcases open_ints Tryz.underlying37 Tryz.underlying5 (by kernel_rfl) hf with ⟨hcs, hx⟩ | ⟨x, l, c, zs, hcs, _, hl, hm, hz, hx, hcell, hwz⟩
  · simp [Value.cells] at hcs
    obtain ⟨rfl, rfl, rfl⟩ := hcs
    exact ⟨[], none, 0, rfl, ⟨.inl ⟨rfl, none, 0, rfl, fun _ => rfl⟩, nil_bytes, Nat.zero_le _⟩, Nat.le_refl _, Nat.zero_le _⟩
  · simp [Value.cells] at hcs
    obtain ⟨rfl, rfl, rfl⟩ := hcs
    have hlz : len ≤ zs.length := by split at hz <;> omega
    have htl : (zs.take len).length = len := by rw [List.length_take]; omega
    have hget : ∀ j, j < len → (zs.take len).getD j 0 = zs.getD j 0 := fun j hj => by
      rw [List.getD_eq_getElem?_getD, List.getD_eq_getElem?_getD, List.getElem?_take, if_pos hj]
    have hby : Bytes (zs.take len) := fun j => by
      by_cases hj : j < len
      · rw [hget j hj, List.getD_eq_getElem?_getD, List.getElem?_eq_getElem (by omega)]
        have := hwz _ (List.getElem_mem (l := zs) (n := j) (by omega))
        have := bounds_u8 this
        exact ⟨this.1, by have := this.2; show zs[j] < 256; omega⟩
      · rw [List.getD_eq_getElem?_getD, List.getElem?_eq_none (by omega)]
        exact ⟨by decide, by decide⟩
    by_cases hpos : 0 < len
    · obtain ⟨b, off, rfl, hc⟩ := ints_at hcell (by omega)
      refine ⟨zs.take len, _, cap, by rw [htl], ⟨.inr ⟨b, off, cap, by rw [htl], ?_, fun j hj => ?_⟩, hby, by omega⟩, by omega, hm⟩
      · exact World.block_lt_of_cell? _ _ (hc 0 (by omega))
      · rw [hget j (by omega)]; exact hc j (by omega)
    · obtain rfl : len = 0 := by omega
      exact ⟨[], _, cap, rfl, ⟨.inl ⟨rfl, _, _, rfl, fun h => by cases h⟩, nil_bytes, Nat.zero_le _⟩, Nat.zero_le _, hm⟩

end Go.Proofs.YtkjlchfmplcobaeGreatDoor

/- Fields that came in, opened: numbers, bytes, heads. -/
namespace Go.Proofs.YtkjlchfmplcobaeGreatDoor
open Go.ChangeShapes Go.WideShapes Go.ChangeAt Go.WideMaps Go.WideElems Go.RowKit

theorem int_cells5 : Tryz.prog.cellsOf 3 = 1 := by kernel_rfl
theorem bytes_cells5 : Tryz.prog.cellsOf 37 = 1 := by kernel_rfl
theorem open_packed {H : Type} {enc : TypeId × Value → H} {W : World} {base fuel : Nat} {spare : Nat → Bool} {held : Bool} {v : Value} {x : DataW H × List MemPlace}
    (h : DataW.trod enc Tryz.prog W base spare held fuel 37 [v] = some x) : ∃ (b : List Int) (a : Option Addr) (c : Nat), v = .slice a b.length c ∧ Some' W (.slice a b.length c) b ∧ b.length ≤ c ∧ c ≤ maxLen := by
  obtain ⟨sa, sl, sc, e⟩ := Go.Joins.slice_form Tryz.underlying37 h
  simp at e
  subst e
  obtain ⟨b, a, c, e, h1, h2, h3⟩ := open_room (v := .slice sa sl sc) ⟨_, _, _, rfl⟩ ⟨fuel, h⟩
  rw [e] at h1 ⊢
  exact ⟨b, a, c, rfl, h1, h2, h3⟩

end Go.Proofs.YtkjlchfmplcobaeGreatDoor

/- Windows, and things to be done, that came in, opened. -/
namespace Go.Proofs.YtkjlchfmplcobaeGreatDoor
open Go.ChangeShapes Go.WideShapes Go.ChangeAt Go.WideMaps Go.WideElems Go.RowKit

theorem win_cells7 : Tryz.prog.cellsOf 60 = 2 := by kernel_rfl
theorem do_cells7 : Tryz.prog.cellsOf 56 = 7 := by kernel_rfl
theorem byte_cells7 : Tryz.prog.cellsOf 5 = 1 := by kernel_rfl
/-- A slice of elements of m cells each. -/
theorem open_rows {α : Type} {H : Type} {enc : TypeId × Value → H} {W : World} {base m : Nat} {spare : Nat → Bool} {held : Bool} {v : Value} {d : DataW H} {p : List MemPlace} {t e : TypeId} (z : α) (P : World → Nat → Nat → α → Prop)
    (ht : Tryz.prog.underlying t = some (.slice e)) (hm : Tryz.prog.cellsOf e = m) (hm0 : 0 < m)
    (each : ∀ (cs : List Value) (fuel : Nat) (x : DataW H × List MemPlace), cs.length = m → DataW.trod enc Tryz.prog W base spare held fuel e cs = some x → ∃ y : α, ∀ b o, (∀ i, i < m → W.cell? ⟨b, o + i, none⟩ = cs[i]?) → P W b o y)
    (hv : ∃ a len cap, v = .slice a len cap) (h : DataW.Trod enc Tryz.prog W base spare held t v d p) : ∃ (l : List α) (a : Option Addr) (n c : Nat), v = .slice a n c ∧ RowAt m P z W (.slice a n c) l ∧ l.length = n := by
  obtain ⟨a, len, cap, rfl⟩ := hv
  obtain ⟨fuel, hf⟩ := h
  rcases Deep.open_slice ht hf with ⟨hcs, _⟩ | ⟨x, l, c, k, n, D, Pl, hcs, hb, hl, hcm, hmm, hx, hr⟩
  · simp [Value.cells] at hcs
    obtain ⟨rfl, rfl, rfl⟩ := hcs
    exact ⟨[], none, 0, 0, rfl, RowAt.nil _ _ _ _, rfl⟩
  · simp [Value.cells] at hcs
    obtain ⟨rfl, rfl, rfl⟩ := hcs
    have hlm : len ≤ k := by rw [hmm]; split <;> omega
    have one : ∀ i, ∃ y : α, i < k → ∃ cs : List Value, cs.length = m ∧ (∀ j, j < m → W.cell? (x.add (i * m + j)) = cs[j]?) ∧ ∀ b o, (∀ j, j < m → W.cell? ⟨b, o + j, none⟩ = cs[j]?) → P W b o y := fun i => by
      by_cases hi : i < k
      · obtain ⟨cs', h1, h2⟩ := hr i hi
        rw [hm] at h1
        obtain ⟨_, hlen, hcell⟩ := World.cells?_some h1
        obtain ⟨y, hy⟩ := each cs' _ _ hlen h2
        refine ⟨y, fun _ => ⟨cs', hlen, fun j hj => ?_, hy⟩⟩
        have := hcell j (by omega)
        rw [Deep.add_add] at this
        rw [this, List.getElem?_eq_getElem (by omega)]
      · exact ⟨z, fun h => absurd h hi⟩
    generalize hTT : (fun i => Classical.choose (one i)) = T
    have hT2 : ∀ i, i < k → ∃ cs : List Value, cs.length = m ∧ (∀ j, j < m → W.cell? (x.add (i * m + j)) = cs[j]?) ∧ ∀ b o, (∀ j, j < m → W.cell? ⟨b, o + j, none⟩ = cs[j]?) → P W b o (T i) := fun i hi => by
      rw [← hTT]; exact Classical.choose_spec (one i) hi
    have hget : ∀ j, j < len → ((List.range len).map T).getD j z = T j := fun j hj => by
      rw [List.getD_eq_getElem?_getD, List.getElem?_map, List.getElem?_range hj]; rfl
    refine ⟨(List.range len).map T, some x, len, cap, rfl, ⟨some x, cap, by simp, by simpa using hl, hcm, (fun e => by cases e), ?_⟩, by simp⟩
    by_cases hpos : 0 < len
    · obtain ⟨cs0, hc0, q0, -⟩ := hT2 0 (by omega)
      have q0 := q0 0 hm0
      rw [List.getElem?_eq_getElem (by omega)] at q0
      have hsp : x.spot = none := by simpa [Addr.add] using World.cell?_spot q0
      obtain ⟨b, off, spot⟩ := x
      subst hsp
      refine .inr ⟨b, off, rfl, World.block_lt_of_cell? W ⟨b, off, none⟩ (by simpa [Addr.add] using q0), fun j hj => ?_⟩
      have hj' : j < len := by simpa using hj
      rw [hget j hj']
      obtain ⟨cs, -, hc, hP⟩ := hT2 j (by omega)
      refine hP b _ (fun i hi => ?_)
      have := hc i hi
      rw [Addr.add_mid, ← Nat.add_assoc] at this
      exact this
    · obtain rfl : len = 0 := by omega
      exact .inl (by simp)
theorem list2' {α : Type} {cs : List α} (h : cs.length = 2) : ∃ c0 c1, cs = [c0, c1] := by
  match cs, h with
  | [c0, c1], _ => exact ⟨c0, c1, rfl⟩
theorem list7' {α : Type} {cs : List α} (h : cs.length = 7) : ∃ c0 c1 c2 c3 c4 c5 c6, cs = [c0, c1, c2, c3, c4, c5, c6] := by
  match cs, h with
  | [c0, c1, c2, c3, c4, c5, c6], _ => exact ⟨c0, c1, c2, c3, c4, c5, c6, rfl⟩
theorem trod_struct7 {H : Type} {enc : TypeId × Value → H} {w : World} {base fuel : Nat} {spare : Nat → Bool} {held : Bool} {t : TypeId} {f0 f1 f2 f3 f4 f5 f6 : Field} {cs : List Value} {x : DataW H × List MemPlace} (ht : Tryz.prog.underlying t = some (.struct #[f0, f1, f2, f3, f4, f5, f6])) (h : DataW.trod enc Tryz.prog w base spare held fuel t cs = some x) :
    ∃ y0 y1 y2 y3 y4 y5 y6 n, DataW.trod enc Tryz.prog w base spare held n f0.type ((cs.drop f0.offset).take (Tryz.prog.cellsOf f0.type)) = some y0 ∧ DataW.trod enc Tryz.prog w base spare held n f1.type ((cs.drop f1.offset).take (Tryz.prog.cellsOf f1.type)) = some y1 ∧ DataW.trod enc Tryz.prog w base spare held n f2.type ((cs.drop f2.offset).take (Tryz.prog.cellsOf f2.type)) = some y2 ∧ DataW.trod enc Tryz.prog w base spare held n f3.type ((cs.drop f3.offset).take (Tryz.prog.cellsOf f3.type)) = some y3 ∧ DataW.trod enc Tryz.prog w base spare held n f4.type ((cs.drop f4.offset).take (Tryz.prog.cellsOf f4.type)) = some y4 ∧ DataW.trod enc Tryz.prog w base spare held n f5.type ((cs.drop f5.offset).take (Tryz.prog.cellsOf f5.type)) = some y5 ∧ DataW.trod enc Tryz.prog w base spare held n f6.type ((cs.drop f6.offset).take (Tryz.prog.cellsOf f6.type)) = some y6 := by
  obtain ⟨xs, n, _, rfl, hl, hlen, hf⟩ := DataW.trod_struct ht h
  match xs, hlen with
  | [y0, y1, y2, y3, y4, y5, y6], _ => exact ⟨y0, y1, y2, y3, y4, y5, y6, n, by simpa using hf 0 f0 rfl, by simpa using hf 1 f1 rfl, by simpa using hf 2 f2 rfl, by simpa using hf 3 f3 rfl, by simpa using hf 4 f4 rfl, by simpa using hf 5 f5 rfl, by simpa using hf 6 f6 rfl⟩
set_option maxRecDepth 100000 in
theorem open_wins {H : Type} {enc : TypeId × Value → H} {W : World} {base : Nat} {spare : Nat → Bool} {held : Bool} {v : Value} {d : DataW H} {p : List MemPlace}
    (hv : ∃ a len cap, v = .slice a len cap) (h : DataW.Trod enc Tryz.prog W base spare held 22 v d p) : ∃ (l : List Win) (a : Option Addr) (n c : Nat), v = .slice a n c ∧ WinsAt W (.slice a n c) l ∧ l.length = n := by
  refine open_rows win0 WinCells Tryz.underlying22 win_cells7 (by decide) (fun cs fuel x hl hx => ?_) hv h
  obtain ⟨c0, c1, rfl⟩ := list2' hl
  obtain ⟨xs, m, -, -, -, hxl, hf⟩ := DataW.trod_array Tryz.underlying60 hx
  have h0 := hf 0 (by omega)
  have h1 := hf 1 (by omega)
  simp only [int_cells5, Nat.zero_mul, Nat.one_mul, List.drop, List.take] at h0 h1
  rw [List.getElem?_eq_getElem (by omega)] at h0 h1
  obtain ⟨a, e0, -, -⟩ := DataW.trod_int Tryz.underlying3 h0
  obtain ⟨b, e1, -, -⟩ := DataW.trod_int Tryz.underlying3 h1
  simp at e0 e1
  subst e0 e1
  refine ⟨⟨a, b⟩, fun g o hc => ⟨hc 0 (by omega), hc 1 (by omega)⟩⟩
set_option maxRecDepth 100000 in
theorem open_dd {H : Type} {enc : TypeId × Value → H} {W : World} {base fuel : Nat} {spare : Nat → Bool} {held : Bool} {c0 c1 c2 c3 c4 c5 c6 : Value} {x : DataW H × List MemPlace}
    (hf : DataW.trod enc Tryz.prog W base spare held fuel 56 [c0, c1, c2, c3, c4, c5, c6] = some x) :
    ∃ (y : Dd) (pa : Option Addr) (pc : Nat), c0 = .int .i64 y.kind ∧ c1 = .int .i64 y.n ∧ c2 = .int .i64 y.time ∧ c3 = .slice pa y.entry.length pc ∧ c4 = .int .i64 y.segment ∧ c5 = .int .i64 y.at' ∧ c6 = .int .u8 y.by' ∧ Some' W (.slice pa y.entry.length pc) y.entry ∧ DdFit y := by
  obtain ⟨y0, y1, y2, y3, y4, y5, y6, n, h0, h1, h2, h3, h4, h5, h6⟩ := trod_struct7 Tryz.underlying56 hf
  simp only [int_cells5, bytes_cells5, byte_cells7, List.drop, List.take] at h0 h1 h2 h3 h4 h5 h6
  obtain ⟨z0, e0, -, w0⟩ := DataW.trod_int Tryz.underlying3 h0
  obtain ⟨z1, e1, -, -⟩ := DataW.trod_int Tryz.underlying3 h1
  obtain ⟨z2, e2, -, -⟩ := DataW.trod_int Tryz.underlying3 h2
  obtain ⟨b, pa, pc, e3, h5', -, -⟩ := open_packed h3
  obtain ⟨z4, e4, -, -⟩ := DataW.trod_int Tryz.underlying3 h4
  obtain ⟨z5, e5, -, -⟩ := DataW.trod_int Tryz.underlying3 h5
  obtain ⟨z6, e6, -, w6⟩ := DataW.trod_int Tryz.underlying5 h6
  simp at e0 e1 e2 e4 e5 e6
  have k0 := bounds_i64 w0
  have k6 := bounds_u8 w6
  exact ⟨⟨z0, z1, z2, b, z4, z5, z6⟩, pa, pc, e0, e1, e2, e3, e4, e5, e6, h5', ⟨⟨k6.1, Int.lt_of_le_of_lt k6.2 (by decide)⟩, k0.1, k0.2⟩⟩
set_option maxRecDepth 100000 in
theorem open_dos {H : Type} {enc : TypeId × Value → H} {W : World} {base : Nat} {spare : Nat → Bool} {held : Bool} {v : Value} {d : DataW H} {p : List MemPlace}
    (hv : ∃ a len cap, v = .slice a len cap) (h : DataW.Trod enc Tryz.prog W base spare held 23 v d p) : ∃ (l : List Dd) (a : Option Addr) (n c : Nat), v = .slice a n c ∧ DosAt W (.slice a n c) l ∧ l.length = n := by
  refine open_rows dd0 DdCells Tryz.underlying23 do_cells7 (by decide) (fun cs fuel x hl hx => ?_) hv h
  obtain ⟨c0, c1, c2, c3, c4, c5, c6, rfl⟩ := list7' hl
  obtain ⟨y, pa, pc, e0, e1, e2, e3, e4, e5, e6, hS, hfit⟩ := open_dd hx
  subst e0 e1 e2 e3 e4 e5 e6
  exact ⟨y, fun g o hc => ⟨hc 0 (by omega), hc 1 (by omega), hc 2 (by omega), ⟨pa, pc, hc 3 (by omega), hS⟩, hc 4 (by omega), hc 5 (by omega), hc 6 (by omega), hfit⟩⟩

end Go.Proofs.YtkjlchfmplcobaeGreatDoor

/- A variable of numbers is written: fleets and answers are as they were, wherever they lie. -/
namespace Go.Proofs.YtkjlchfmplcobaeGreatDoor
open Go.RowKit

/-- The block F holds numbers alone; and all other memory is as it was. -/
structure Off (F : Nat) (w w' : World) : Prop where
  nums : ∀ x v, w.cell? ⟨F, x, none⟩ = some v → ∃ z, v = .int .i64 z
  size : w.heap.size ≤ w'.heap.size
  kept : ∀ b x, b ≠ F → w'.cell? ⟨b, x, none⟩ = w.cell? ⟨b, x, none⟩
theorem Off.slice {F : Nat} {w w' : World} (h : Off F w w') {b x : Nat} {a : Option Addr} {n c : Nat} (hc : w.cell? ⟨b, x, none⟩ = some (.slice a n c)) : b ≠ F := fun e => by
  subst e
  obtain ⟨z, hz⟩ := h.nums _ _ hc
  cases hz
theorem BytesAt.off {F : Nat} {w w' : World} (ho : Off F w w') {v : Value} {zs : List Int} (h : BytesAt w v zs) : BytesAt w' v zs := by
  rcases h with h | ⟨b, off, cp, h1, h2, h3⟩
  · exact .inl h
  · by_cases hl : zs.length = 0
    · have : zs = [] := List.eq_nil_of_length_eq_zero hl
      subst this
      exact .inl ⟨rfl, _, _, h1, fun e => by cases e⟩
    · have hbF : b ≠ F := fun e => by
        subst e
        obtain ⟨z, hz⟩ := ho.nums _ _ (h3 0 (by omega))
        cases hz
      exact .inr ⟨b, off, cp, h1, Nat.lt_of_lt_of_le h2 ho.size, fun j hj => by rw [ho.kept _ _ hbF]; exact h3 j hj⟩
theorem Some'.off {F : Nat} {w w' : World} (ho : Off F w w') {v : Value} {b : List Int} (h : Some' w v b) : Some' w' v b := ⟨h.at'.off ho, h.bytes, h.short⟩
theorem PartsAt.off {F : Nat} {w w' : World} (ho : Off F w w') {v : Value} {L : List (List Int)} (h : PartsAt w v L) : PartsAt w' v L := by
  rcases h with h | ⟨b, off, cp, h1, h2, h3⟩
  · exact .inl h
  · refine .inr ⟨b, off, cp, h1, Nat.lt_of_lt_of_le h2 ho.size, fun j hj => ?_⟩
    obtain ⟨a, m, c, hc, hB⟩ := h3 j hj
    exact ⟨a, m, c, by rw [ho.kept _ _ (ho.slice hc)]; exact hc, hB.off ho⟩
theorem Lists.off {F : Nat} {w w' : World} (ho : Off F w w') {a : Option Addr} {n c : Nat} {L : List (List Int)} (h : Lists w a n c L) : Lists w' a n c L := ⟨h.len, h.at'.off ho, h.room, h.cap, h.nil, h.bytes, h.short⟩
theorem RecCells.off {F : Nat} {w w' : World} (ho : Off F w w') {b o : Nat} {r : Rec} (h : RecCells w b o r) : RecCells w' b o r := by
  obtain ⟨h0, h1, h2, h3, ra, rc, h4, h5⟩ := h
  have hb := ho.slice h4
  exact ⟨by rw [ho.kept _ _ hb]; exact h0, by rw [ho.kept _ _ hb]; exact h1, by rw [ho.kept _ _ hb]; exact h2, by rw [ho.kept _ _ hb]; exact h3, ra, rc, by rw [ho.kept _ _ hb]; exact h4, h5.off ho⟩
theorem RecsAt.off {F : Nat} {w w' : World} (ho : Off F w w') {v : Value} {l : List Rec} (h : RecsAt w v l) : RecsAt w' v l := by
  obtain ⟨a, c, h1, h2, h3, h4, h5⟩ := h
  refine ⟨a, c, h1, h2, h3, h4, ?_⟩
  rcases h5 with h5 | ⟨b, off, h6, h7, h8⟩
  · exact .inl h5
  · exact .inr ⟨b, off, h6, Nat.lt_of_lt_of_le h7 ho.size, fun j hj => (h8 j hj).off ho⟩
theorem SegsAt.off {F : Nat} {w w' : World} (ho : Off F w w') {v : Value} {l : List Seg} (h : SegsAt w v l) : SegsAt w' v l := by
  obtain ⟨a, c, h1, h2, h3, h4, h5⟩ := h
  refine ⟨a, c, h1, h2, h3, h4, ?_⟩
  rcases h5 with h5 | ⟨b, off, h6, h7, h8⟩
  · exact .inl h5
  · refine .inr ⟨b, off, h6, Nat.lt_of_lt_of_le h7 ho.size, fun j hj => ?_⟩
    obtain ⟨c0, c1, pa, pc, c2, c3, c4⟩ := h8 j hj
    have hb := ho.slice c2
    exact ⟨by rw [ho.kept _ _ hb]; exact c0, by rw [ho.kept _ _ hb]; exact c1, pa, pc, by rw [ho.kept _ _ hb]; exact c2, c3.off ho, c4⟩
theorem ShdCells.off {F : Nat} {w w' : World} (ho : Off F w w') {b o : Nat} {s : Shd} (h : ShdCells w b o s) : ShdCells w' b o s := by
  obtain ⟨h1, h2, h3, ⟨ea, ec, h4, h4'⟩, h5, ⟨ra, rc, h6, h6'⟩, ⟨ga, gc, h7, h7'⟩⟩ := h
  have hb := ho.slice h4
  exact ⟨by rw [ho.kept _ _ hb]; exact h1, by rw [ho.kept _ _ hb]; exact h2, by rw [ho.kept _ _ hb]; exact h3, ⟨ea, ec, by rw [ho.kept _ _ hb]; exact h4, h4'.off ho⟩, by rw [ho.kept _ _ hb]; exact h5, ⟨ra, rc, by rw [ho.kept _ _ hb]; exact h6, h6'.off ho⟩, ⟨ga, gc, by rw [ho.kept _ _ hb]; exact h7, h7'.off ho⟩⟩
theorem RowAt.off {F : Nat} {w w' : World} (ho : Off F w w') {α : Type} {n : Nat} {P : World → Nat → Nat → α → Prop} {z : α} {v : Value} {l : List α} (h : RowAt n P z w v l) (hP : ∀ b o x, P w b o x → P w' b o x) : RowAt n P z w' v l := by
  obtain ⟨a, c, h1, h2, h3, h4, h5⟩ := h
  refine ⟨a, c, h1, h2, h3, h4, ?_⟩
  rcases h5 with h5 | ⟨b, off, h6, h7, h8⟩
  · exact .inl h5
  · exact .inr ⟨b, off, h6, Nat.lt_of_lt_of_le h7 ho.size, fun j hj => hP _ _ _ (h8 j hj)⟩
theorem FltV.off {F : Nat} {w w' : World} (ho : Off F w w') {v : Value} {f : Flt} (h : FltV w v f) : FltV w' v f := by
  obtain ⟨sa, sc, ba, bc, h1, h2, h3⟩ := h
  exact ⟨sa, sc, ba, bc, h1, RowAt.off ho h2 (fun _ _ _ hx => hx.off ho), h3.off ho⟩
theorem AnsCells.off {F : Nat} {w w' : World} (ho : Off F w w') {b o : Nat} {x : Ans} (h : AnsCells w b o x) : AnsCells w' b o x := by
  obtain ⟨h0, h1, h2, h3, ra, rc, h4, h5⟩ := h
  have hb := ho.slice h4
  exact ⟨by rw [ho.kept _ _ hb]; exact h0, by rw [ho.kept _ _ hb]; exact h1, by rw [ho.kept _ _ hb]; exact h2, by rw [ho.kept _ _ hb]; exact h3, ra, rc, by rw [ho.kept _ _ hb]; exact h4, h5.off ho⟩
theorem AnssAt.off {F : Nat} {w w' : World} (ho : Off F w w') {v : Value} {l : List Ans} (h : AnssAt w v l) : AnssAt w' v l := RowAt.off ho h (fun _ _ _ hx => hx.off ho)

end Go.Proofs.YtkjlchfmplcobaeGreatDoor

/- The faces of package shelf, as it landed, are as the laws ask. -/
namespace Go.Proofs.YtkjlchfmplcobaeGreatDoor
open Go.RowKit

theorem segmentC_holds : SegmentC := segmentC_of unpackRC_holds
theorem verifyC_holds : VerifyC := verifyC_of segmentC_holds rootC_holds

end Go.Proofs.YtkjlchfmplcobaeGreatDoor

/- The walk of yearref5.Rows. -/
namespace Go.Proofs.YtkjlchfmplcobaeGreatDoor
open Go.RowKit

theorem OwnParts.far {w : World} {base k o : Nat} {v : Value} {L : List (List Int)} {c : Array Value} {t : TypeId} (h : OwnParts w base v L) (hk : w.heap[k]? = some (.cells c t (0, 0))) (h1 : t ≠ 5) (h2 : t ≠ 37) (u : Value) : OwnParts (w.setCell ⟨k, o, none⟩ u) base v L := by
  obtain ⟨vs, hr, he⟩ := h
  refine ⟨vs, ownsRow_setCell_other hr (a := ⟨k, o, none⟩) (own_box hr hk h2) u, fun j hj => ?_⟩
  obtain ⟨y, q1, q2⟩ := he j hj
  exact ⟨y, q1, ownsRow_setCell_other q2 (a := ⟨k, o, none⟩) (own_box q2 hk h1) u⟩
end Go.Proofs.YtkjlchfmplcobaeGreatDoor

/- The walks of Head, Path and Grows: package book as it landed. -/
namespace Go.Proofs.YtkjlchfmplcobaeGreatDoor
open Go.RowKit

theorem RecsAt.form {w : World} {v : Value} {l : List Rec} (h : RecsAt w v l) : ∃ a c, v = .slice a l.length c := by
  obtain ⟨a, c, e, -⟩ := h; exact ⟨a, c, e⟩
end Go.Proofs.YtkjlchfmplcobaeGreatDoor

/- The walks of roots, Path and Grows. -/
namespace Go.Proofs.YtkjlchfmplcobaeGreatDoor
open Go.RowKit

/-- The roots of the parts that were visited lie in the variable bo; the leaves in bl. -/
def RootsI (w0 : World) (bo bl : Nat) (a : Option Addr) (n c : Nat) (L : List (List Int)) (done : List (Nat × Nat)) (w : World) : Prop :=
  Below w0.heap.size w0 w ∧ w.heap[bl]? = some (.cells #[.slice a n c] 43 (0, 0)) ∧ ∃ v, w.heap[bo]? = some (.cells #[v] 43 (0, 0)) ∧ OwnParts w w0.heap.size v (done.map (fun p => mth (seg L p)))
theorem RootsI.keep {w0 : World} {bo bl : Nat} {a : Option Addr} {n c : Nat} {L : List (List Int)} {done : List (Nat × Nat)} {w w' : World} (h : RootsI w0 bo bl a n c L done w) (hb : Below w.heap.size w w') : RootsI w0 bo bl a n c L done w' := by
  obtain ⟨h1, h2, v, h3, h4⟩ := h
  exact ⟨h1.trans (hb.mono h1.size), box_kept h2 hb, v, box_kept h3 hb, h4.below hb (Nat.le_refl _)⟩
theorem OwnEls.set {w : World} {base k : Nat} {t : TypeId} {vs : List Value} {L : List (List Int)} {c : Array Value} (h : OwnEls w base vs L) (hk : w.heap[k]? = some (.cells c t (0, 0))) (ht : t ≠ 5) (u : Value) : OwnEls (w.setCell ⟨k, 0, none⟩ u) base vs L := fun j hj => by
  obtain ⟨y, h1, h2⟩ := h j hj
  exact ⟨y, h1, own_set h2 hk ht u⟩

end Go.Proofs.YtkjlchfmplcobaeGreatDoor

/- The faces of package fleet, as it landed, are as the laws ask. -/
namespace Go.Proofs.YtkjlchfmplcobaeGreatDoor
open Go.RowKit

theorem exportOC_holds : ExportOC := exportO_of rootC_holds packOC_holds
theorem playC_holds : PlayC := playC_of rootC_holds exportOC_holds verifyC_holds
end Go.Proofs.YtkjlchfmplcobaeGreatDoor
