/- Chapter 6's mathematics: records, their bytes, and the book's leaves. -/
import Derived.Test.YtkjlchfmplcobaeDoorTreeLawBase
namespace Go.Proofs.YtkjlchfmplcobaeDoor

structure Rec where
  shard : Int
  from' : Int
  to' : Int
  size : Int
  root : List Int
def rec0 : Rec := ⟨0, 0, 0, 0, []⟩
/-- What is wrong with a record. -/
def wrongRec (r : Rec) : Int :=
  if r.shard < 0 ∨ 7 < r.shard ∨ r.from' < 0 ∨ r.to' ≤ r.from' ∨ 1000000 < r.to' ∨ r.size < 0 ∨ 100 < r.size then 3 else
  if r.root.length ≠ 32 then 2 else 0
def threeB (n : Int) : List Int := [n / 65536, n / 256 % 256, n % 256]
/-- A record's bytes. -/
def rowL (r : Rec) : List Int := r.shard :: (threeB r.from' ++ (threeB r.to' ++ (r.size :: r.root)))
/-- The record that bytes are, if they are one's. -/
def recL (b : List Int) : Rec := ⟨b.getD 0 0, 65536 * b.getD 1 0 + 256 * b.getD 2 0 + b.getD 3 0, 65536 * b.getD 4 0 + 256 * b.getD 5 0 + b.getD 6 0, b.getD 7 0, b.drop 8⟩
/-- What Parse tells. -/
def parseL (b : List Int) : Rec × Int := if b.length ≠ 40 then (rec0, 2) else if wrongRec (recL b) ≠ 0 then (rec0, wrongRec (recL b)) else (recL b, 0)
/-- What Bytes tells. -/
def bytesE (r : Rec) : List Int := if wrongRec r ≠ 0 then [] else rowL r
theorem wrongRec_ok {r : Rec} (h : wrongRec r = 0) : 0 ≤ r.shard ∧ r.shard ≤ 7 ∧ 0 ≤ r.from' ∧ r.from' < r.to' ∧ r.to' ≤ 1000000 ∧ 0 ≤ r.size ∧ r.size ≤ 100 ∧ r.root.length = 32 := by
  unfold wrongRec at h
  split at h
  · cases h
  · split at h
    · cases h
    · rename_i h1 h2
      exact ⟨by omega, by omega, by omega, by omega, by omega, by omega, by omega, by omega⟩
theorem row_length {r : Rec} (h : wrongRec r = 0) : (rowL r).length = 40 := by
  have := wrongRec_ok h
  unfold rowL threeB
  simp
  omega
theorem row_bytes {r : Rec} (h : wrongRec r = 0) (hb : Bytes r.root) : Bytes (rowL r) := by
  have h1 := wrongRec_ok h
  unfold rowL threeB
  refine bytes_cons (by omega) (by omega) (bytes_append ?_ (bytes_append ?_ (bytes_cons (by omega) (by omega) hb)))
  · exact bytes_cons (by omega) (by omega) (bytes_cons (by omega) (by omega) (bytes_cons (by omega) (by omega) nil_bytes))
  · exact bytes_cons (by omega) (by omega) (bytes_cons (by omega) (by omega) (bytes_cons (by omega) (by omega) nil_bytes))
theorem rec_row {r : Rec} (h : wrongRec r = 0) : recL (rowL r) = r := by
  have h1 := wrongRec_ok h
  obtain ⟨s, f, t, z, root⟩ := r
  unfold recL rowL threeB
  simp only [List.cons_append, List.nil_append, List.getD_cons_zero, List.getD_cons_succ, List.drop_succ_cons, List.drop_zero]
  dsimp only at h1
  congr 1
  · omega
  · omega
/-- What is written is read. -/
theorem parse_row {r : Rec} (h : wrongRec r = 0) : parseL (rowL r) = (r, 0) := by
  unfold parseL
  rw [if_neg (fun e => e (row_length h)), rec_row h, if_neg (fun e => e h)]
/-- The first record with which something is wrong. -/
def wrongRecs (l : List Rec) : Int × Int :=
  if 8 < l.length then (5, 0) else
  match (List.range l.length).find? (fun i => decide (wrongRec (l.getD i rec0) ≠ 0)) with
  | some i => (wrongRec (l.getD i rec0), (i : Int))
  | none => (0, 0)
def rowsOf (l : List Rec) : List (List Int) := l.map rowL
theorem wrongRecs_many {l : List Rec} (h : 8 < l.length) : wrongRecs l = (5, 0) := by unfold wrongRecs; rw [if_pos h]
theorem find_first {p : Nat → Bool} {n k : Nat} (hk : k < n) (h : p k = true) (hb : ∀ j, j < k → p j = false) : (List.range n).find? p = some k := by
  induction n with
  | zero => omega
  | succ n ih =>
    rw [List.range_succ, List.find?_append]
    by_cases hkn : k < n
    · rw [ih hkn]; rfl
    · obtain rfl : k = n := by omega
      rw [List.find?_eq_none.2 (fun x hx => by have := hb x (List.mem_range.1 hx); simp [this])]
      simp [h]
theorem wrongRecs_at {l : List Rec} {k : Nat} (h8 : l.length ≤ 8) (hk : k < l.length) (hb : ∀ j, j < k → wrongRec (l.getD j rec0) = 0) (h : wrongRec (l.getD k rec0) ≠ 0) : wrongRecs l = (wrongRec (l.getD k rec0), (k : Int)) := by
  unfold wrongRecs
  rw [if_neg (by omega), find_first (p := fun i => decide (wrongRec (l.getD i rec0) ≠ 0)) hk (decide_eq_true h) (fun j hj => decide_eq_false (fun g => g (hb j hj)))]
theorem wrongRecs_none {l : List Rec} (h8 : l.length ≤ 8) (hb : ∀ j, j < l.length → wrongRec (l.getD j rec0) = 0) : wrongRecs l = (0, 0) := by
  unfold wrongRecs
  rw [if_neg (by omega), List.find?_eq_none.2 (fun x hx => by rw [hb x (List.mem_range.1 hx)]; decide)]
theorem wrongRecs_ok {l : List Rec} (h : (wrongRecs l).1 = 0) : l.length ≤ 8 ∧ ∀ j, j < l.length → wrongRec (l.getD j rec0) = 0 := by
  by_cases h8 : 8 < l.length
  · rw [wrongRecs_many h8] at h; exact absurd h (by decide)
  refine ⟨by omega, fun j hj => ?_⟩
  unfold wrongRecs at h
  rw [if_neg h8] at h
  cases hf : (List.range l.length).find? (fun i => decide (wrongRec (l.getD i rec0) ≠ 0)) with
  | none =>
    have := List.find?_eq_none.1 hf j (List.mem_range.2 hj)
    simpa using this
  | some i =>
    rw [hf] at h
    have := List.find?_some hf
    exact absurd h (by simpa using this)
theorem wrongRecs_whole {l : List Rec} (h : (wrongRecs l).1 = 0) : wrongRecs l = (0, 0) := by
  obtain ⟨h1, h2⟩ := wrongRecs_ok h
  exact wrongRecs_none h1 h2
theorem rows_length (l : List Rec) : (rowsOf l).length = l.length := by unfold rowsOf; simp
theorem rows_get {l : List Rec} {j : Nat} (hj : j < l.length) : (rowsOf l).getD j [] = rowL (l.getD j rec0) := by
  unfold rowsOf
  rw [List.getD_eq_getElem?_getD, List.getElem?_map, List.getElem?_eq_getElem hj, List.getD_eq_getElem?_getD, List.getElem?_eq_getElem hj]
  rfl
theorem rows_short {l : List Rec} (h : (wrongRecs l).1 = 0) : ∀ j, ((rowsOf l).getD j []).length ≤ 200 := fun j => by
  by_cases hj : j < l.length
  · rw [rows_get hj, row_length ((wrongRecs_ok h).2 j hj)]; omega
  · rw [List.getD_eq_getElem?_getD, List.getElem?_eq_none (by rw [rows_length]; omega)]; simp
theorem rows_wrong {l : List Rec} (h : (wrongRecs l).1 = 0) : wrongL (rowsOf l) = (0, 0) := wrong_zero (by rw [rows_length]; have := (wrongRecs_ok h).1; omega) (rows_short h)
theorem rows_take (l : List Rec) (n : Nat) : rowsOf (l.take n) = (rowsOf l).take n := by unfold rowsOf; rw [List.map_take]
/-- What Head, Path and Grows say. -/
def bookPathF (l : List Rec) (row : Int) : Int × Int := if (wrongRecs l).1 ≠ 0 then wrongRecs l else pathF (rowsOf l) row
def bookGrowF (l : List Rec) (m : Int) : Int × Int := if (wrongRecs l).1 ≠ 0 then wrongRecs l else growF (rowsOf l) m
theorem wrongRecs_first {l : List Rec} {n : Nat} (h : (wrongRecs l).1 = 0) : (wrongRecs (l.take n)).1 = 0 := by
  obtain ⟨h1, h2⟩ := wrongRecs_ok h
  rw [wrongRecs_none (by rw [List.length_take]; omega) (fun j hj => ?_)]
  rw [List.length_take] at hj
  rw [List.getD_eq_getElem?_getD, List.getElem?_take, if_pos (by omega), ← List.getD_eq_getElem?_getD]
  exact h2 j (by omega)

end Go.Proofs.YtkjlchfmplcobaeDoor
