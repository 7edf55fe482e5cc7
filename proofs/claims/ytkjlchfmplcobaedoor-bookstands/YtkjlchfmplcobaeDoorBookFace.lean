/- What the laws of chapter 6 ask of package book's faces, as propositions: each is shown of the landed code elsewhere. Records in memory. -/
import Derived.Test.YtkjlchfmplcobaeDoorProg
import Derived.Test.YtkjlchfmplcobaeDoorBookMath
import Derived.Test.YtkjlchfmplcobaeDoorTreeFaceGrows
import Derived.Test.YtkjlchfmplcobaeDoorTreeGoBox
namespace Go.Proofs.YtkjlchfmplcobaeDoor
open Go.RowKit

/-- A record as the walks meet it. -/
def RecV (w : World) (v : Value) (r : Rec) : Prop := ∃ ra rc, v = .agg #[.int .i64 r.shard, .int .i64 r.from', .int .i64 r.to', .int .i64 r.size, .slice ra r.root.length rc] ∧ Some' w (.slice ra r.root.length rc) r.root
theorem RecV.below {w w' : World} {v : Value} {r : Rec} (h : RecV w v r) (hb : Below w.heap.size w w') : RecV w' v r := by
  obtain ⟨ra, rc, h1, h2⟩ := h
  exact ⟨ra, rc, h1, h2.below hb⟩
theorem recV_zero (w : World) : RecV w (.agg #[.int .i64 0, .int .i64 0, .int .i64 0, .int .i64 0, .slice none 0 0]) rec0 := ⟨none, 0, rfl, ⟨bytesAt_nil w, nil_bytes, Nat.zero_le _⟩⟩
/-- A record's cells. -/
def RecCells (w : World) (b o : Nat) (r : Rec) : Prop := w.cell? ⟨b, o, none⟩ = some (.int .i64 r.shard) ∧ w.cell? ⟨b, o + 1, none⟩ = some (.int .i64 r.from') ∧ w.cell? ⟨b, o + 2, none⟩ = some (.int .i64 r.to') ∧ w.cell? ⟨b, o + 3, none⟩ = some (.int .i64 r.size) ∧
  ∃ ra rc, w.cell? ⟨b, o + 4, none⟩ = some (.slice ra r.root.length rc) ∧ Some' w (.slice ra r.root.length rc) r.root
theorem RecCells.below {w w' : World} {b o : Nat} {r : Rec} (h : RecCells w b o r) (hb : b < w.heap.size) (hw : Below w.heap.size w w') : RecCells w' b o r := by
  obtain ⟨h0, h1, h2, h3, ra, rc, h4, h5⟩ := h
  exact ⟨by rw [hw.cell (p := ⟨b, o, none⟩) hb]; exact h0, by rw [hw.cell (p := ⟨b, o + 1, none⟩) hb]; exact h1, by rw [hw.cell (p := ⟨b, o + 2, none⟩) hb]; exact h2, by rw [hw.cell (p := ⟨b, o + 3, none⟩) hb]; exact h3, ra, rc, by rw [hw.cell (p := ⟨b, o + 4, none⟩) hb]; exact h4, h5.below hw⟩
/-- Records as the walks meet them. -/
def RecsAt (w : World) (v : Value) (l : List Rec) : Prop :=
  ∃ a c, v = .slice a l.length c ∧ l.length ≤ c ∧ c ≤ maxLen ∧ (a = none → c = 0) ∧ (l.length = 0 ∨ ∃ b off, a = some ⟨b, off, none⟩ ∧ b < w.heap.size ∧ ∀ j, j < l.length → RecCells w b (off + j * 5) (l.getD j rec0))
theorem RecsAt.below {w w' : World} {v : Value} {l : List Rec} (h : RecsAt w v l) (hw : Below w.heap.size w w') : RecsAt w' v l := by
  obtain ⟨a, c, h1, h2, h3, h4, h5⟩ := h
  refine ⟨a, c, h1, h2, h3, h4, ?_⟩
  rcases h5 with h5 | ⟨b, off, h6, h7, h8⟩
  · exact .inl h5
  · exact .inr ⟨b, off, h6, Nat.lt_of_lt_of_le h7 hw.size, fun j hj => (h8 j hj).below h7 hw⟩
theorem RecsAt.bytes {w : World} {v : Value} {l : List Rec} (h : RecsAt w v l) (j : Nat) : Bytes (l.getD j rec0).root := by
  obtain ⟨a, c, -, -, -, -, h5⟩ := h
  by_cases hj : j < l.length
  · rcases h5 with h5 | ⟨b, off, -, -, h8⟩
    · omega
    · obtain ⟨-, -, -, -, ra, rc, -, h2⟩ := h8 j hj
      exact h2.bytes
  · rw [List.getD_eq_getElem?_getD, List.getElem?_eq_none (by omega)]; exact nil_bytes
theorem rows_bytes {l : List Rec} (h : (wrongRecs l).1 = 0) (hb : ∀ j, Bytes (l.getD j rec0).root) : ∀ j, Bytes ((rowsOf l).getD j []) := fun j => by
  by_cases hj : j < l.length
  · rw [rows_get hj]; exact row_bytes ((wrongRecs_ok h).2 j hj) (hb j)
  · rw [List.getD_eq_getElem?_getD, List.getElem?_eq_none (by rw [rows_length]; omega)]; exact nil_bytes
/-- What Head tells. -/
def bookSize (l : List Rec) : Int := if (wrongRecs l).1 ≠ 0 then 0 else (l.length : Int)
def bookRoot (l : List Rec) : List Int := if (wrongRecs l).1 ≠ 0 then [] else mth (rowsOf l)
/-- The faces. -/
def RecWrongC : Prop := ∀ (r : Rec) (v : Value) (w : World), RecV w v r →
  Calls Tryd.prog 11 #[v] w fun e w' => e = .returned (.int .i64 (wrongRec r)) ∧ Below w.heap.size w w'
def RecBytesC : Prop := ∀ (r : Rec) (v : Value) (w : World), RecV w v r →
  Calls Tryd.prog 13 #[v] w fun e w' => ∃ xa xn xc, e = .returned (.tuple #[.slice xa xn xc, .int .i64 (wrongRec r)]) ∧ w'.ownsRow w.heap.size 5 1 (.slice xa xn xc) xn ((bytesE r).map (Value.int .u8)) ∧ Below w.heap.size w w'
def RecParseC : Prop := ∀ (b : List Int) (ba : Option Addr) (bc : Nat) (w : World), Some' w (.slice ba b.length bc) b → b.length ≤ bc → bc ≤ maxLen →
  Calls Tryd.prog 15 #[.slice ba b.length bc] w fun e w' => ∃ v, e = .returned (.tuple #[v, .int .i64 (parseL b).2]) ∧ RecV w' v (parseL b).1 ∧ Below w.heap.size w w'
def BookHeadC : Prop := ∀ (l : List Rec) (lv : Value) (w : World), Ready w → RecsAt w lv l →
  Calls Tryd.prog 19 #[lv] w fun e w' => ∃ ra rc, e = .returned (.tuple #[.agg #[.int .i64 (bookSize l), .slice ra (bookRoot l).length rc], faultV (wrongRecs l)]) ∧ Some' w' (.slice ra (bookRoot l).length rc) (bookRoot l) ∧ Below w.heap.size w w'
def BookPathC : Prop := ∀ (l : List Rec) (row : Int) (lv : Value) (w : World), Ready w → RecsAt w lv l →
  Calls Tryd.prog 20 #[lv, .int .i64 row] w fun e w' => ∃ xa xn xc, e = .returned (.tuple #[.slice xa xn xc, faultV (bookPathF l row)]) ∧ ((bookPathF l row).1 = 0 → OwnParts w' w.heap.size (.slice xa xn xc) (pathL (rowsOf l) row.toNat)) ∧ ((bookPathF l row).1 ≠ 0 → xn = 0) ∧ Below w.heap.size w w'
def BookGrowsC : Prop := ∀ (l : List Rec) (m : Int) (lv : Value) (w : World), Ready w → RecsAt w lv l →
  Calls Tryd.prog 21 #[lv, .int .i64 m] w fun e w' => ∃ xa xn xc, e = .returned (.tuple #[.slice xa xn xc, faultV (bookGrowF l m)]) ∧ ((bookGrowF l m).1 = 0 → OwnParts w' w.heap.size (.slice xa xn xc) (proofL (rowsOf l) m.toNat true)) ∧ ((bookGrowF l m).1 ≠ 0 → xn = 0) ∧ Below w.heap.size w w'

end Go.Proofs.YtkjlchfmplcobaeDoor
