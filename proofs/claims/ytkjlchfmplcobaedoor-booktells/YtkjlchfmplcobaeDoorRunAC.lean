/- BookMath, TreeFaceGrows, BookFace, as one text. -/
import Derived.Test.YtkjlchfmplcobaeDoorRunAB
import Derived.Test.YtkjlchfmplcobaeDoorProg
import Derived.Test.YtkjlchfmplcobaeDoorTreeGoBox
/- Chapter 6's mathematics: records, their bytes, and the book's leaves. -/
namespace Go.Proofs.YtkjlchfmplcobaeDoor

structure Rec where
  shard : Int
  from' : Int
  to' : Int
  size : Int
  root : List Int
def rec0 : Rec := ⟨0, 0, 0, 0, []⟩
/-- What is wrong with a record. -/
def wrongRec (r : Rec) : Int :=
  if r.shard < 0 ∨ 7 < r.shard ∨ r.from' < 0 ∨ r.to' ≤ r.from' ∨ 1000000 < r.to' ∨ r.size < 0 ∨ 100 < r.size then 3 else
  if r.root.length ≠ 32 then 2 else 0
def threeB (n : Int) : List Int := [n / 65536, n / 256 % 256, n % 256]
/-- A record's bytes. -/
def rowL (r : Rec) : List Int := r.shard :: (threeB r.from' ++ (threeB r.to' ++ (r.size :: r.root)))
/-- The record that bytes are, if they are one's. -/
def recL (b : List Int) : Rec := ⟨b.getD 0 0, 65536 * b.getD 1 0 + 256 * b.getD 2 0 + b.getD 3 0, 65536 * b.getD 4 0 + 256 * b.getD 5 0 + b.getD 6 0, b.getD 7 0, b.drop 8⟩
/-- What Parse tells. -/
def parseL (b : List Int) : Rec × Int := if b.length ≠ 40 then (rec0, 2) else if wrongRec (recL b) ≠ 0 then (rec0, wrongRec (recL b)) else (recL b, 0)
/-- What Bytes tells. -/
def bytesE (r : Rec) : List Int := if wrongRec r ≠ 0 then [] else rowL r
theorem wrongRec_ok {r : Rec} (h : wrongRec r = 0) : 0 ≤ r.shard ∧ r.shard ≤ 7 ∧ 0 ≤ r.from' ∧ r.from' < r.to' ∧ r.to' ≤ 1000000 ∧ 0 ≤ r.size ∧ r.size ≤ 100 ∧ r.root.length = 32 := by
  unfold wrongRec at h
  split at h
  · cases h
  · split at h
    · cases h
    · rename_i h1 h2
      exact ⟨by omega, by omega, by omega, by omega, by omega, by omega, by omega, by omega⟩
theorem row_length {r : Rec} (h : wrongRec r = 0) : (rowL r).length = 40 := by
  have := wrongRec_ok h
  unfold rowL threeB
  simp
  omega
theorem row_bytes {r : Rec} (h : wrongRec r = 0) (hb : Bytes r.root) : Bytes (rowL r) := by
  have h1 := wrongRec_ok h
  unfold rowL threeB
  refine bytes_cons (by omega) (by omega) (bytes_append ?_ (bytes_append ?_ (bytes_cons (by omega) (by omega) hb)))
  · exact bytes_cons (by omega) (by omega) (bytes_cons (by omega) (by omega) (bytes_cons (by omega) (by omega) nil_bytes))
  · exact bytes_cons (by omega) (by omega) (bytes_cons (by omega) (by omega) (bytes_cons (by omega) (by omega) nil_bytes))
/-- The first record with which something is wrong. -/
def wrongRecs (l : List Rec) : Int × Int :=
  if 8 < l.length then (5, 0) else
  match (List.range l.length).find? (fun i => decide (wrongRec (l.getD i rec0) ≠ 0)) with
  | some i => (wrongRec (l.getD i rec0), (i : Int))
  | none => (0, 0)
def rowsOf (l : List Rec) : List (List Int) := l.map rowL
theorem wrongRecs_many {l : List Rec} (h : 8 < l.length) : wrongRecs l = (5, 0) := by unfold wrongRecs; rw [if_pos h]
theorem find_first {p : Nat → Bool} {n k : Nat} (hk : k < n) (h : p k = true) (hb : ∀ j, j < k → p j = false) : (List.range n).find? p = some k := by
  induction n with
  | zero => omega
  | succ n ih =>
    rw [List.range_succ, List.find?_append]
    by_cases hkn : k < n
    · rw [ih hkn]; rfl
    · obtain rfl : k = n := by omega
      rw [List.find?_eq_none.2 (fun x hx => by have := hb x (List.mem_range.1 hx); simp [this])]
      simp [h]
theorem wrongRecs_at {l : List Rec} {k : Nat} (h8 : l.length ≤ 8) (hk : k < l.length) (hb : ∀ j, j < k → wrongRec (l.getD j rec0) = 0) (h : wrongRec (l.getD k rec0) ≠ 0) : wrongRecs l = (wrongRec (l.getD k rec0), (k : Int)) := by
  unfold wrongRecs
  rw [if_neg (by omega), find_first (p := fun i => decide (wrongRec (l.getD i rec0) ≠ 0)) hk (decide_eq_true h) (fun j hj => decide_eq_false (fun g => g (hb j hj)))]
theorem wrongRecs_none {l : List Rec} (h8 : l.length ≤ 8) (hb : ∀ j, j < l.length → wrongRec (l.getD j rec0) = 0) : wrongRecs l = (0, 0) := by
  unfold wrongRecs
  rw [if_neg (by omega), List.find?_eq_none.2 (fun x hx => by rw [hb x (List.mem_range.1 hx)]; decide)]
theorem wrongRecs_ok {l : List Rec} (h : (wrongRecs l).1 = 0) : l.length ≤ 8 ∧ ∀ j, j < l.length → wrongRec (l.getD j rec0) = 0 := by
  by_cases h8 : 8 < l.length
  · rw [wrongRecs_many h8] at h; exact absurd h (by decide)
  refine ⟨by omega, fun j hj => ?_⟩
  unfold wrongRecs at h
  rw [if_neg h8] at h
  cases hf : (List.range l.length).find? (fun i => decide (wrongRec (l.getD i rec0) ≠ 0)) with
  | none =>
    have := List.find?_eq_none.1 hf j (List.mem_range.2 hj)
    simpa using this
  | some i =>
    rw [hf] at h
    have := List.find?_some hf
    exact absurd h (by simpa using this)
theorem wrongRecs_whole {l : List Rec} (h : (wrongRecs l).1 = 0) : wrongRecs l = (0, 0) := by
  obtain ⟨h1, h2⟩ := wrongRecs_ok h
  exact wrongRecs_none h1 h2
theorem rows_length (l : List Rec) : (rowsOf l).length = l.length := by unfold rowsOf; simp
theorem rows_get {l : List Rec} {j : Nat} (hj : j < l.length) : (rowsOf l).getD j [] = rowL (l.getD j rec0) := by
  unfold rowsOf
  rw [List.getD_eq_getElem?_getD, List.getElem?_map, List.getElem?_eq_getElem hj, List.getD_eq_getElem?_getD, List.getElem?_eq_getElem hj]
  rfl
theorem rows_short {l : List Rec} (h : (wrongRecs l).1 = 0) : ∀ j, ((rowsOf l).getD j []).length ≤ 200 := fun j => by
  by_cases hj : j < l.length
  · rw [rows_get hj, row_length ((wrongRecs_ok h).2 j hj)]; omega
  · rw [List.getD_eq_getElem?_getD, List.getElem?_eq_none (by rw [rows_length]; omega)]; simp
theorem rows_wrong {l : List Rec} (h : (wrongRecs l).1 = 0) : wrongL (rowsOf l) = (0, 0) := wrong_zero (by rw [rows_length]; have := (wrongRecs_ok h).1; omega) (rows_short h)
/-- What Head, Path and Grows say. -/
def bookPathF (l : List Rec) (row : Int) : Int × Int := if (wrongRecs l).1 ≠ 0 then wrongRecs l else pathF (rowsOf l) row
def bookGrowF (l : List Rec) (m : Int) : Int × Int := if (wrongRecs l).1 ≠ 0 then wrongRecs l else growF (rowsOf l) m
end Go.Proofs.YtkjlchfmplcobaeDoor

/- What the laws of chapter 2 ask of tree.Grows. -/
namespace Go.Proofs.YtkjlchfmplcobaeDoor
open Go.RowKit

def GrowsC : Prop := ∀ (L : List (List Int)) (m : Int) (a : Option Addr) (n c : Nat) (w : World), Ready w → Lists w a n c L →
  Calls Tryd.prog 43 #[.slice a n c, .int .i64 m] w fun e w' => ∃ xa xn xc, e = .returned (.tuple #[.slice xa xn xc, faultV (growF L m)]) ∧ ((growF L m).1 = 0 → OwnParts w' w.heap.size (.slice xa xn xc) (proofL L m.toNat true)) ∧ ((growF L m).1 ≠ 0 → xn = 0) ∧ Below w.heap.size w w'

end Go.Proofs.YtkjlchfmplcobaeDoor

/- What the laws of chapter 6 ask of package book's faces, as propositions: each is shown of the landed code elsewhere. Records in memory. -/
namespace Go.Proofs.YtkjlchfmplcobaeDoor
open Go.RowKit

/-- A record as the walks meet it. -/
def RecV (w : World) (v : Value) (r : Rec) : Prop := ∃ ra rc, v = .agg #[.int .i64 r.shard, .int .i64 r.from', .int .i64 r.to', .int .i64 r.size, .slice ra r.root.length rc] ∧ Some' w (.slice ra r.root.length rc) r.root
theorem RecV.below {w w' : World} {v : Value} {r : Rec} (h : RecV w v r) (hb : Below w.heap.size w w') : RecV w' v r := by
  obtain ⟨ra, rc, h1, h2⟩ := h
  exact ⟨ra, rc, h1, h2.below hb⟩
theorem recV_zero (w : World) : RecV w (.agg #[.int .i64 0, .int .i64 0, .int .i64 0, .int .i64 0, .slice none 0 0]) rec0 := ⟨none, 0, rfl, ⟨bytesAt_nil w, nil_bytes, Nat.zero_le _⟩⟩
/-- A record's cells. -/
def RecCells (w : World) (b o : Nat) (r : Rec) : Prop := w.cell? ⟨b, o, none⟩ = some (.int .i64 r.shard) ∧ w.cell? ⟨b, o + 1, none⟩ = some (.int .i64 r.from') ∧ w.cell? ⟨b, o + 2, none⟩ = some (.int .i64 r.to') ∧ w.cell? ⟨b, o + 3, none⟩ = some (.int .i64 r.size) ∧
  ∃ ra rc, w.cell? ⟨b, o + 4, none⟩ = some (.slice ra r.root.length rc) ∧ Some' w (.slice ra r.root.length rc) r.root
theorem RecCells.below {w w' : World} {b o : Nat} {r : Rec} (h : RecCells w b o r) (hb : b < w.heap.size) (hw : Below w.heap.size w w') : RecCells w' b o r := by
  obtain ⟨h0, h1, h2, h3, ra, rc, h4, h5⟩ := h
  exact ⟨by rw [hw.cell (p := ⟨b, o, none⟩) hb]; exact h0, by rw [hw.cell (p := ⟨b, o + 1, none⟩) hb]; exact h1, by rw [hw.cell (p := ⟨b, o + 2, none⟩) hb]; exact h2, by rw [hw.cell (p := ⟨b, o + 3, none⟩) hb]; exact h3, ra, rc, by rw [hw.cell (p := ⟨b, o + 4, none⟩) hb]; exact h4, h5.below hw⟩
/-- Records as the walks meet them. -/
def RecsAt (w : World) (v : Value) (l : List Rec) : Prop :=
  ∃ a c, v = .slice a l.length c ∧ l.length ≤ c ∧ c ≤ maxLen ∧ (a = none → c = 0) ∧ (l.length = 0 ∨ ∃ b off, a = some ⟨b, off, none⟩ ∧ b < w.heap.size ∧ ∀ j, j < l.length → RecCells w b (off + j * 5) (l.getD j rec0))
theorem RecsAt.below {w w' : World} {v : Value} {l : List Rec} (h : RecsAt w v l) (hw : Below w.heap.size w w') : RecsAt w' v l := by
  obtain ⟨a, c, h1, h2, h3, h4, h5⟩ := h
  refine ⟨a, c, h1, h2, h3, h4, ?_⟩
  rcases h5 with h5 | ⟨b, off, h6, h7, h8⟩
  · exact .inl h5
  · exact .inr ⟨b, off, h6, Nat.lt_of_lt_of_le h7 hw.size, fun j hj => (h8 j hj).below h7 hw⟩
theorem RecsAt.bytes {w : World} {v : Value} {l : List Rec} (h : RecsAt w v l) (j : Nat) : Bytes (l.getD j rec0).root := by
  obtain ⟨a, c, -, -, -, -, h5⟩ := h
  by_cases hj : j < l.length
  · rcases h5 with h5 | ⟨b, off, -, -, h8⟩
    · omega
    · obtain ⟨-, -, -, -, ra, rc, -, h2⟩ := h8 j hj
      exact h2.bytes
  · rw [List.getD_eq_getElem?_getD, List.getElem?_eq_none (by omega)]; exact nil_bytes
theorem rows_bytes {l : List Rec} (h : (wrongRecs l).1 = 0) (hb : ∀ j, Bytes (l.getD j rec0).root) : ∀ j, Bytes ((rowsOf l).getD j []) := fun j => by
  by_cases hj : j < l.length
  · rw [rows_get hj]; exact row_bytes ((wrongRecs_ok h).2 j hj) (hb j)
  · rw [List.getD_eq_getElem?_getD, List.getElem?_eq_none (by rw [rows_length]; omega)]; exact nil_bytes
/-- What Head tells. -/
def bookSize (l : List Rec) : Int := if (wrongRecs l).1 ≠ 0 then 0 else (l.length : Int)
def bookRoot (l : List Rec) : List Int := if (wrongRecs l).1 ≠ 0 then [] else mth (rowsOf l)
/-- The faces. -/
def RecWrongC : Prop := ∀ (r : Rec) (v : Value) (w : World), RecV w v r →
  Calls Tryd.prog 11 #[v] w fun e w' => e = .returned (.int .i64 (wrongRec r)) ∧ Below w.heap.size w w'
def RecBytesC : Prop := ∀ (r : Rec) (v : Value) (w : World), RecV w v r →
  Calls Tryd.prog 13 #[v] w fun e w' => ∃ xa xn xc, e = .returned (.tuple #[.slice xa xn xc, .int .i64 (wrongRec r)]) ∧ w'.ownsRow w.heap.size 5 1 (.slice xa xn xc) xn ((bytesE r).map (Value.int .u8)) ∧ Below w.heap.size w w'
def RecParseC : Prop := ∀ (b : List Int) (ba : Option Addr) (bc : Nat) (w : World), Some' w (.slice ba b.length bc) b → b.length ≤ bc → bc ≤ maxLen →
  Calls Tryd.prog 15 #[.slice ba b.length bc] w fun e w' => ∃ v, e = .returned (.tuple #[v, .int .i64 (parseL b).2]) ∧ RecV w' v (parseL b).1 ∧ Below w.heap.size w w'
def BookHeadC : Prop := ∀ (l : List Rec) (lv : Value) (w : World), Ready w → RecsAt w lv l →
  Calls Tryd.prog 19 #[lv] w fun e w' => ∃ ra rc, e = .returned (.tuple #[.agg #[.int .i64 (bookSize l), .slice ra (bookRoot l).length rc], faultV (wrongRecs l)]) ∧ Some' w' (.slice ra (bookRoot l).length rc) (bookRoot l) ∧ Below w.heap.size w w'
def BookPathC : Prop := ∀ (l : List Rec) (row : Int) (lv : Value) (w : World), Ready w → RecsAt w lv l →
  Calls Tryd.prog 20 #[lv, .int .i64 row] w fun e w' => ∃ xa xn xc, e = .returned (.tuple #[.slice xa xn xc, faultV (bookPathF l row)]) ∧ ((bookPathF l row).1 = 0 → OwnParts w' w.heap.size (.slice xa xn xc) (pathL (rowsOf l) row.toNat)) ∧ ((bookPathF l row).1 ≠ 0 → xn = 0) ∧ Below w.heap.size w w'
def BookGrowsC : Prop := ∀ (l : List Rec) (m : Int) (lv : Value) (w : World), Ready w → RecsAt w lv l →
  Calls Tryd.prog 21 #[lv, .int .i64 m] w fun e w' => ∃ xa xn xc, e = .returned (.tuple #[.slice xa xn xc, faultV (bookGrowF l m)]) ∧ ((bookGrowF l m).1 = 0 → OwnParts w' w.heap.size (.slice xa xn xc) (proofL (rowsOf l) m.toNat true)) ∧ ((bookGrowF l m).1 ≠ 0 → xn = 0) ∧ Below w.heap.size w w'

end Go.Proofs.YtkjlchfmplcobaeDoor
