/- TreeFace, TreeOpen, TreeLawBase, BookMath, as one text. -/
import Derived.Test.YtkjlchfmplcobagGreatDoorProg
import Derived.Test.YtkjlchfmplcobagGreatDoorRunAC
import Derived.Test.YtkjlchfmplcobagGreatDoorShaSum
import Derived.WalkKit
import Derived.Deep.AppendLies
import Derived.Laws.AppendOwnNone
import Derived.Deep.Matrix
/- What the laws of chapter 2 ask of package tree's faces, as propositions: each is shown of the landed code elsewhere. -/
namespace Go.Proofs.YtkjlchfmplcobagGreatDoor
open Go.RowKit

/-- The world holds the digests' table. -/
structure Ready (w : World) : Prop where
  tab : Tab w
  big : 0 < w.heap.size
theorem Ready.below {w w' : World} (h : Ready w) (hb : Below w.heap.size w w') : Ready w' := ⟨tab_below h.tab hb h.big, Nat.lt_of_lt_of_le h.big hb.size⟩
/-- A list of bytes' lists as it comes in: it can be read, there is room for what there is, and it is bytes. -/
structure Lists (w : World) (a : Option Addr) (n c : Nat) (L : List (List Int)) : Prop where
  len : L.length = n
  at' : PartsAt w (.slice a n c) L
  room : n ≤ c
  cap : c ≤ maxLen
  nil : a = none → n = 0 ∧ c = 0
  bytes : ∀ j, Bytes (L.getD j [])
  short : ∀ j, (L.getD j []).length ≤ maxLen
theorem Lists.below {w w' : World} {a : Option Addr} {n c : Nat} {L : List (List Int)} (h : Lists w a n c L) (hb : Below w.heap.size w w') : Lists w' a n c L :=
  ⟨h.len, h.at'.below (Nat.le_refl _) hb, h.room, h.cap, h.nil, h.bytes, h.short⟩
@[reducible] def faultV (p : Int × Int) : Value := .agg #[.int .i64 p.1, .int .i64 p.2]
/-- What Path and Grows say. -/
def pathF (L : List (List Int)) (i : Int) : Int × Int := if (wrongL L).1 ≠ 0 then wrongL L else if i < 0 ∨ (L.length : Int) ≤ i then (6, 0) else (0, 0)
def WrongC : Prop := ∀ (L : List (List Int)) (a : Option Addr) (n c : Nat) (w : World), Lists w a n c L →
  Calls Tryz.prog 49 #[.slice a n c] w fun e w' => e = .returned (faultV (wrongL L)) ∧ Below w.heap.size w w'
def RootC : Prop := ∀ (L : List (List Int)) (a : Option Addr) (n c : Nat) (w : World), Ready w → Lists w a n c L →
  Calls Tryz.prog 37 #[.slice a n c] w fun e w' => ∃ xa xn xc, e = .returned (.tuple #[.slice xa xn xc, faultV (wrongL L)]) ∧ ((wrongL L).1 = 0 → w'.ownsRow w.heap.size 5 1 (.slice xa xn xc) 32 ((mth L).map (Value.int .u8))) ∧ ((wrongL L).1 ≠ 0 → xn = 0) ∧ Below w.heap.size w w'
def PathC : Prop := ∀ (L : List (List Int)) (i : Int) (a : Option Addr) (n c : Nat) (w : World), Ready w → Lists w a n c L →
  Calls Tryz.prog 28 #[.slice a n c, .int .i64 i] w fun e w' => ∃ xa xn xc, e = .returned (.tuple #[.slice xa xn xc, faultV (pathF L i)]) ∧ ((pathF L i).1 = 0 → OwnParts w' w.heap.size (.slice xa xn xc) (pathL L i.toNat)) ∧ ((pathF L i).1 ≠ 0 → xn = 0) ∧ Below w.heap.size w w'
def StandsC : Prop := ∀ (size : Int) (root b : List Int) (i : Int) (p : List (List Int)) (rv bv : Value) (a : Option Addr) (n c : Nat) (w : World), Ready w → Some' w rv root → Some' w bv b → Lists w a n c p →
  Calls Tryz.prog 40 #[.agg #[.int .i64 size, rv], bv, .int .i64 i, .slice a n c] w fun e w' => e = .returned (.bool (standsL size root b i p)) ∧ Below w.heap.size w w'
end Go.Proofs.YtkjlchfmplcobagGreatDoor

/- Lists of bytes that came in, opened as the faces take them. -/
namespace Go.Proofs.YtkjlchfmplcobagGreatDoor
open Go.ChangeShapes Go.WideShapes Go.ChangeAt Go.WideMaps Go.WideElems Go.RowKit

theorem ready_of_laid {W : World} (h : laidMetH Tryz.prog laidK W) : Ready W := by
  obtain ⟨h1, h2⟩ := tab_of_laid h
  exact ⟨h1, h2⟩

end Go.Proofs.YtkjlchfmplcobagGreatDoor

/- What the laws of chapter 2 that go without the document's answer lean on. -/
namespace Go.Proofs.YtkjlchfmplcobagGreatDoor
open Go.RowKit

theorem path_bytes (ls : List (List Int)) (i : Nat) : ∀ x ∈ pathL ls i, Bytes x := by
  by_cases h1 : ls.length ≤ 1
  · rw [pathL_one h1]; intro d hd; cases hd
  · have hs := splitN_spec (n := ls.length) (by omega)
    by_cases hk : i < splitN ls.length
    · rw [pathL_left (by omega) hk]
      have := path_bytes (ls.take (splitN ls.length)) i
      intro d hd
      rcases List.mem_append.1 hd with h | h
      · exact this d h
      · rw [List.mem_singleton.1 h]; exact bytes_mth _
    · rw [pathL_right (by omega) hk]
      have := path_bytes (ls.drop (splitN ls.length)) (i - splitN ls.length)
      intro d hd
      rcases List.mem_append.1 hd with h | h
      · exact this d h
      · rw [List.mem_singleton.1 h]; exact bytes_mth _
termination_by ls.length
decreasing_by
  · rw [List.length_take]; omega
  · rw [List.length_drop]; omega
theorem bytes_mem {L : List (List Int)} (h : ∀ x ∈ L, Bytes x) (j : Nat) : Bytes (L.getD j []) := by
  rw [List.getD_eq_getElem?_getD]
  by_cases hj : j < L.length
  · rw [List.getElem?_eq_getElem hj]; exact h _ (List.getElem_mem hj)
  · rw [List.getElem?_eq_none (by omega)]; exact nil_bytes
theorem digs_short {L : List (List Int)} (h : Digs L) (j : Nat) : (L.getD j []).length ≤ maxLen := short_mem (fun x hx => by rw [h x hx]; unfold maxLen; omega) j
theorem own_nil {w : World} {base : Nat} {e : TypeId} {a : Option Addr} {n c m : Nat} {xs : List Value} (h : w.ownsRow base e 1 (.slice a n c) m xs) (ha : a = none) : n = 0 ∧ c = 0 := by
  subst ha
  rcases h.2 with ⟨h1, -⟩ | ⟨g, cap, cur, h1, -⟩
  · simp at h1; exact h1
  · simp at h1
/-- What a face answers is what a face is given. -/
theorem OwnParts.lists {w : World} {base : Nat} {xa : Option Addr} {xn xc : Nat} {L : List (List Int)} (h : OwnParts w base (.slice xa xn xc) L) (hb : ∀ x ∈ L, Bytes x) (hs : ∀ j, (L.getD j []).length ≤ maxLen) : Lists w xa xn xc L := by
  have hp := h.parts
  obtain ⟨a, c, e, h1, h2⟩ := h.form
  cases e
  obtain ⟨vs, hr, -⟩ := h
  exact ⟨rfl, hp, h1, h2, own_nil hr, bytes_mem hb, hs⟩
theorem own_len {w : World} {base : Nat} {e : TypeId} {a : Option Addr} {n c m : Nat} {xs : List Value} (h : w.ownsRow base e 1 (.slice a n c) m xs) : n = m := by
  obtain ⟨a', c', e'⟩ := own_form' h
  cases e'
  rfl
theorem Lists.take {w : World} {a : Option Addr} {n c k : Nat} {L : List (List Int)} (h : Lists w a n c L) (hk : k ≤ n) (h0 : 0 < n) : Lists w a k c (L.take k) :=
  ⟨by rw [List.length_take]; have := h.len; omega, h.at'.take h.len hk h0 _, by have := h.room; omega, h.cap, fun ha => by have := h.nil ha; omega, take_bytes h.bytes k, take_short h.short k⟩
theorem Lists.get {w : World} {a : Option Addr} {n c : Nat} {L : List (List Int)} (h : Lists w a n c L) (j : Nat) (hj : j < n) : ∃ b off pa pc, a = some ⟨b, off, none⟩ ∧ w.cell? ⟨b, off + j, none⟩ = some (.slice pa (L.getD j []).length pc) ∧ Some' w (.slice pa (L.getD j []).length pc) (L.getD j []) := by
  obtain ⟨a0, c0, e0, hcell⟩ := h.at'.form
  rw [h.len] at e0 hcell
  cases e0
  obtain ⟨b, off, rfl, -, hc⟩ := hcell.resolve_left (by omega)
  obtain ⟨pa, pc, h1, h2⟩ := hc j hj
  exact ⟨b, off, pa, pc, rfl, h1, h2, h.bytes j, h.short j⟩

/-- WHAT STANDS THERE IS SHOWN. -/
theorem stands_path {L : List (List Int)} {i : Nat} (h2 : L.length ≤ 100) (hi : i < L.length) (h200 : (L.getD i []).length ≤ 200) : standsL L.length (mth L) (L.getD i []) i (pathL L i) = true := by
  have hg : goodL (pathL L i) = true := goodL_digs.2 (path_digs L i)
  unfold standsL
  rw [if_neg (by intro h; rcases h with h | h | h | h | h | h <;> first | omega | (rw [hg] at h; cases h)), Int.toNat_natCast, Int.toNat_natCast, up_path L i hi]
  simp
theorem wrong_zero {L : List (List Int)} (h1 : L.length ≤ 100) (h2 : ∀ j, (L.getD j []).length ≤ 200) : wrongL L = (0, 0) := by
  unfold wrongL; rw [if_neg (by omega)]; exact wrong_none 0 (fun j _ => h2 j)

/-- The three leaves. -/
def three : List (List Int) := [[1], [2], [3]]
end Go.Proofs.YtkjlchfmplcobagGreatDoor

/- Chapter 6's mathematics: records, their bytes, and the book's leaves. -/
namespace Go.Proofs.YtkjlchfmplcobagGreatDoor

structure Rec where
  shard : Int
  from' : Int
  to' : Int
  size : Int
  root : List Int
def rec0 : Rec := ⟨0, 0, 0, 0, []⟩
/-- What is wrong with a record. -/
def wrongRec (r : Rec) : Int :=
  if r.shard < 0 ∨ 7 < r.shard ∨ r.from' < 0 ∨ r.to' ≤ r.from' ∨ 1000000 < r.to' ∨ r.size < 0 ∨ 100 < r.size then 3 else
  if r.root.length ≠ 32 then 2 else 0
def threeB (n : Int) : List Int := [n / 65536, n / 256 % 256, n % 256]
/-- A record's bytes. -/
def rowL (r : Rec) : List Int := r.shard :: (threeB r.from' ++ (threeB r.to' ++ (r.size :: r.root)))
/-- What Bytes tells. -/
def bytesE (r : Rec) : List Int := if wrongRec r ≠ 0 then [] else rowL r
theorem wrongRec_ok {r : Rec} (h : wrongRec r = 0) : 0 ≤ r.shard ∧ r.shard ≤ 7 ∧ 0 ≤ r.from' ∧ r.from' < r.to' ∧ r.to' ≤ 1000000 ∧ 0 ≤ r.size ∧ r.size ≤ 100 ∧ r.root.length = 32 := by
  unfold wrongRec at h
  split at h
  · cases h
  · split at h
    · cases h
    · rename_i h1 h2
      exact ⟨by omega, by omega, by omega, by omega, by omega, by omega, by omega, by omega⟩
theorem row_length {r : Rec} (h : wrongRec r = 0) : (rowL r).length = 40 := by
  have := wrongRec_ok h
  unfold rowL threeB
  simp
  omega
theorem row_bytes {r : Rec} (h : wrongRec r = 0) (hb : Bytes r.root) : Bytes (rowL r) := by
  have h1 := wrongRec_ok h
  unfold rowL threeB
  refine bytes_cons (by omega) (by omega) (bytes_append ?_ (bytes_append ?_ (bytes_cons (by omega) (by omega) hb)))
  · exact bytes_cons (by omega) (by omega) (bytes_cons (by omega) (by omega) (bytes_cons (by omega) (by omega) nil_bytes))
  · exact bytes_cons (by omega) (by omega) (bytes_cons (by omega) (by omega) (bytes_cons (by omega) (by omega) nil_bytes))
/-- The first record with which something is wrong. -/
def wrongRecs (l : List Rec) : Int × Int :=
  if 8 < l.length then (5, 0) else
  match (List.range l.length).find? (fun i => decide (wrongRec (l.getD i rec0) ≠ 0)) with
  | some i => (wrongRec (l.getD i rec0), (i : Int))
  | none => (0, 0)
def rowsOf (l : List Rec) : List (List Int) := l.map rowL
theorem wrongRecs_many {l : List Rec} (h : 8 < l.length) : wrongRecs l = (5, 0) := by unfold wrongRecs; rw [if_pos h]
theorem find_first {p : Nat → Bool} {n k : Nat} (hk : k < n) (h : p k = true) (hb : ∀ j, j < k → p j = false) : (List.range n).find? p = some k := by
  induction n with
  | zero => omega
  | succ n ih =>
    rw [List.range_succ, List.find?_append]
    by_cases hkn : k < n
    · rw [ih hkn]; rfl
    · obtain rfl : k = n := by omega
      rw [List.find?_eq_none.2 (fun x hx => by have := hb x (List.mem_range.1 hx); simp [this])]
      simp [h]
theorem wrongRecs_at {l : List Rec} {k : Nat} (h8 : l.length ≤ 8) (hk : k < l.length) (hb : ∀ j, j < k → wrongRec (l.getD j rec0) = 0) (h : wrongRec (l.getD k rec0) ≠ 0) : wrongRecs l = (wrongRec (l.getD k rec0), (k : Int)) := by
  unfold wrongRecs
  rw [if_neg (by omega), find_first (p := fun i => decide (wrongRec (l.getD i rec0) ≠ 0)) hk (decide_eq_true h) (fun j hj => decide_eq_false (fun g => g (hb j hj)))]
theorem wrongRecs_none {l : List Rec} (h8 : l.length ≤ 8) (hb : ∀ j, j < l.length → wrongRec (l.getD j rec0) = 0) : wrongRecs l = (0, 0) := by
  unfold wrongRecs
  rw [if_neg (by omega), List.find?_eq_none.2 (fun x hx => by rw [hb x (List.mem_range.1 hx)]; decide)]
theorem wrongRecs_ok {l : List Rec} (h : (wrongRecs l).1 = 0) : l.length ≤ 8 ∧ ∀ j, j < l.length → wrongRec (l.getD j rec0) = 0 := by
  by_cases h8 : 8 < l.length
  · rw [wrongRecs_many h8] at h; exact absurd h (by decide)
  refine ⟨by omega, fun j hj => ?_⟩
  unfold wrongRecs at h
  rw [if_neg h8] at h
  cases hf : (List.range l.length).find? (fun i => decide (wrongRec (l.getD i rec0) ≠ 0)) with
  | none =>
    have := List.find?_eq_none.1 hf j (List.mem_range.2 hj)
    simpa using this
  | some i =>
    rw [hf] at h
    have := List.find?_some hf
    exact absurd h (by simpa using this)
theorem wrongRecs_whole {l : List Rec} (h : (wrongRecs l).1 = 0) : wrongRecs l = (0, 0) := by
  obtain ⟨h1, h2⟩ := wrongRecs_ok h
  exact wrongRecs_none h1 h2
theorem rows_length (l : List Rec) : (rowsOf l).length = l.length := by unfold rowsOf; simp
theorem rows_get {l : List Rec} {j : Nat} (hj : j < l.length) : (rowsOf l).getD j [] = rowL (l.getD j rec0) := by
  unfold rowsOf
  rw [List.getD_eq_getElem?_getD, List.getElem?_map, List.getElem?_eq_getElem hj, List.getD_eq_getElem?_getD, List.getElem?_eq_getElem hj]
  rfl
theorem rows_short {l : List Rec} (h : (wrongRecs l).1 = 0) : ∀ j, ((rowsOf l).getD j []).length ≤ 200 := fun j => by
  by_cases hj : j < l.length
  · rw [rows_get hj, row_length ((wrongRecs_ok h).2 j hj)]; omega
  · rw [List.getD_eq_getElem?_getD, List.getElem?_eq_none (by rw [rows_length]; omega)]; simp
theorem rows_wrong {l : List Rec} (h : (wrongRecs l).1 = 0) : wrongL (rowsOf l) = (0, 0) := wrong_zero (by rw [rows_length]; have := (wrongRecs_ok h).1; omega) (rows_short h)
/-- What Head, Path and Grows say. -/
def bookPathF (l : List Rec) (row : Int) : Int × Int := if (wrongRecs l).1 ≠ 0 then wrongRecs l else pathF (rowsOf l) row
end Go.Proofs.YtkjlchfmplcobagGreatDoor
