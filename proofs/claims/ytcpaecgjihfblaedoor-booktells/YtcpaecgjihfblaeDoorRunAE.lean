/- TreeOpen, TreeLawBase, BookMath, as one text. -/
import Derived.Test.YtcpaecgjihfblaeDoorRunAC
import Derived.Test.YtcpaecgjihfblaeDoorRunAD
import Derived.Test.YtcpaecgjihfblaeDoorProg
import Derived.WalkKit
/- Lists of bytes that came in, opened as the faces take them. -/
namespace Go.Proofs.YtcpaecgjihfblaeDoor
open Go.ChangeShapes Go.WideShapes Go.ChangeAt Go.WideMaps Go.WideElems Go.RowKit

theorem open_lists {H : Type} {enc : TypeId × Value → H} {W : World} {base : Nat} {held : Bool} {v : Value} {d : DataW H} {p : List MemPlace}
    (hv : ∃ a len cap, v = .slice a len cap) (h : DataW.Trod enc Tryd.prog W base (fun _ => true) held 29 v d p) :
    ∃ (L : List (List Int)) (a : Option Addr) (n c : Nat), v = .slice a n c ∧ Lists W a n c L := by
  obtain ⟨L, hP, hl, hs, hb⟩ := open_parts hv h
  obtain ⟨a, len, cap, rfl⟩ := hv
  have hlen : L.length = len := by
    obtain ⟨a', c', e, -⟩ := hP.form
    injection e with _ h2 _
    exact h2.symm
  obtain ⟨fuel, hf⟩ := h
  rcases Deep.open_int_rows Tryd.underlying29 Tryd.underlying22 Tryd.underlying5 (by kernel_rfl) (by kernel_rfl) hf with ⟨hcs, _⟩ | ⟨x, l, c, A, Ln, C, Z, hcs, _, hl2, hm, _, hr⟩
  · simp [Value.cells] at hcs
    obtain ⟨rfl, rfl, rfl⟩ := hcs
    exact ⟨L, none, 0, 0, rfl, hlen, hP, Nat.le_refl _, Nat.zero_le _, fun _ => ⟨rfl, rfl⟩, hb, hs⟩
  · simp [Value.cells] at hcs
    obtain ⟨rfl, rfl, rfl⟩ := hcs
    exact ⟨L, some x, len, cap, rfl, hlen, hP, hl2, hm, (fun h => by cases h), hb, hs⟩
theorem ready_of_laid {W : World} (h : laidMetH Tryd.prog laidK W) : Ready W := by
  obtain ⟨h1, h2⟩ := tab_of_laid h
  exact ⟨h1, h2⟩

end Go.Proofs.YtcpaecgjihfblaeDoor

/- What the laws of chapter 2 that go without the document's answer lean on. -/
namespace Go.Proofs.YtcpaecgjihfblaeDoor
open Go.RowKit

theorem path_bytes (ls : List (List Int)) (i : Nat) : ∀ x ∈ pathL ls i, Bytes x := by
  by_cases h1 : ls.length ≤ 1
  · rw [pathL_one h1]; intro d hd; cases hd
  · have hs := splitN_spec (n := ls.length) (by omega)
    by_cases hk : i < splitN ls.length
    · rw [pathL_left (by omega) hk]
      have := path_bytes (ls.take (splitN ls.length)) i
      intro d hd
      rcases List.mem_append.1 hd with h | h
      · exact this d h
      · rw [List.mem_singleton.1 h]; exact bytes_mth _
    · rw [pathL_right (by omega) hk]
      have := path_bytes (ls.drop (splitN ls.length)) (i - splitN ls.length)
      intro d hd
      rcases List.mem_append.1 hd with h | h
      · exact this d h
      · rw [List.mem_singleton.1 h]; exact bytes_mth _
termination_by ls.length
decreasing_by
  · rw [List.length_take]; omega
  · rw [List.length_drop]; omega
theorem proof_bytes (ls : List (List Int)) (m : Nat) (whole : Bool) : ∀ x ∈ proofL ls m whole, Bytes x := by
  by_cases hm : m = ls.length
  · subst hm
    cases whole with
    | true => rw [proofL_whole]; intro d hd; cases hd
    | false => rw [proofL_part]; intro d hd; rw [List.mem_singleton.1 hd]; exact bytes_mth _
  · by_cases h1 : ls.length ≤ 1
    · rw [proofL, if_neg hm, dif_pos h1]; intro d hd; cases hd
    · have hs := splitN_spec (n := ls.length) (by omega)
      by_cases hk : m ≤ splitN ls.length
      · rw [proofL_left hm (by omega) hk]
        have := proof_bytes (ls.take (splitN ls.length)) m whole
        intro d hd
        rcases List.mem_append.1 hd with h | h
        · exact this d h
        · rw [List.mem_singleton.1 h]; exact bytes_mth _
      · rw [proofL_right hm (by omega) hk]
        have := proof_bytes (ls.drop (splitN ls.length)) (m - splitN ls.length) false
        intro d hd
        rcases List.mem_append.1 hd with h | h
        · exact this d h
        · rw [List.mem_singleton.1 h]; exact bytes_mth _
termination_by ls.length
decreasing_by
  · rw [List.length_take]; omega
  · rw [List.length_drop]; omega
theorem bytes_mem {L : List (List Int)} (h : ∀ x ∈ L, Bytes x) (j : Nat) : Bytes (L.getD j []) := by
  rw [List.getD_eq_getElem?_getD]
  by_cases hj : j < L.length
  · rw [List.getElem?_eq_getElem hj]; exact h _ (List.getElem_mem hj)
  · rw [List.getElem?_eq_none (by omega)]; exact nil_bytes
theorem digs_short {L : List (List Int)} (h : Digs L) (j : Nat) : (L.getD j []).length ≤ maxLen := short_mem (fun x hx => by rw [h x hx]; unfold maxLen; omega) j
theorem own_nil {w : World} {base : Nat} {e : TypeId} {a : Option Addr} {n c m : Nat} {xs : List Value} (h : w.ownsRow base e 1 (.slice a n c) m xs) (ha : a = none) : n = 0 ∧ c = 0 := by
  subst ha
  rcases h.2 with ⟨h1, -⟩ | ⟨g, cap, cur, h1, -⟩
  · simp at h1; exact h1
  · simp at h1
/-- What a face answers is what a face is given. -/
theorem OwnParts.lists {w : World} {base : Nat} {xa : Option Addr} {xn xc : Nat} {L : List (List Int)} (h : OwnParts w base (.slice xa xn xc) L) (hb : ∀ x ∈ L, Bytes x) (hs : ∀ j, (L.getD j []).length ≤ maxLen) : Lists w xa xn xc L := by
  have hp := h.parts
  obtain ⟨a, c, e, h1, h2⟩ := h.form
  cases e
  obtain ⟨vs, hr, -⟩ := h
  exact ⟨rfl, hp, h1, h2, own_nil hr, bytes_mem hb, hs⟩
theorem own_len {w : World} {base : Nat} {e : TypeId} {a : Option Addr} {n c m : Nat} {xs : List Value} (h : w.ownsRow base e 1 (.slice a n c) m xs) : n = m := by
  obtain ⟨a', c', e'⟩ := own_form' h
  cases e'
  rfl
theorem Lists.take {w : World} {a : Option Addr} {n c k : Nat} {L : List (List Int)} (h : Lists w a n c L) (hk : k ≤ n) (h0 : 0 < n) : Lists w a k c (L.take k) :=
  ⟨by rw [List.length_take]; have := h.len; omega, h.at'.take h.len hk h0 _, by have := h.room; omega, h.cap, fun ha => by have := h.nil ha; omega, take_bytes h.bytes k, take_short h.short k⟩
theorem Lists.get {w : World} {a : Option Addr} {n c : Nat} {L : List (List Int)} (h : Lists w a n c L) (j : Nat) (hj : j < n) : ∃ b off pa pc, a = some ⟨b, off, none⟩ ∧ w.cell? ⟨b, off + j, none⟩ = some (.slice pa (L.getD j []).length pc) ∧ Some' w (.slice pa (L.getD j []).length pc) (L.getD j []) := by
  obtain ⟨a0, c0, e0, hcell⟩ := h.at'.form
  rw [h.len] at e0 hcell
  cases e0
  obtain ⟨b, off, rfl, -, hc⟩ := hcell.resolve_left (by omega)
  obtain ⟨pa, pc, h1, h2⟩ := hc j hj
  exact ⟨b, off, pa, pc, rfl, h1, h2, h.bytes j, h.short j⟩

/-- WHAT STANDS THERE IS SHOWN. -/
theorem stands_path {L : List (List Int)} {i : Nat} (h2 : L.length ≤ 100) (hi : i < L.length) (h200 : (L.getD i []).length ≤ 200) : standsL L.length (mth L) (L.getD i []) i (pathL L i) = true := by
  have hg : goodL (pathL L i) = true := goodL_digs.2 (path_digs L i)
  unfold standsL
  rw [if_neg (by intro h; rcases h with h | h | h | h | h | h <;> first | omega | (rw [hg] at h; cases h)), Int.toNat_natCast, Int.toNat_natCast, up_path L i hi]
  simp
/-- WHAT GREW IS SHOWN. -/
theorem grew_proof {L : List (List Int)} {m : Nat} (h1 : 1 ≤ m) (hm : m ≤ L.length) (h2 : L.length ≤ 100) : grewL m (mth (L.take m)) L.length (mth L) (proofL L m true) = true := by
  have hg : goodL (proofL L m true) = true := goodL_digs.2 (proof_digs L m true)
  have hl := mth_length (L.take m)
  unfold grewL
  rw [if_neg (by intro h; rcases h with h | h | h | h | h <;> first | omega | (rw [hg] at h; cases h)), Int.toNat_natCast, Int.toNat_natCast, two_proof L m true _ h1 hm (fun _ => rfl)]
  simp
theorem wrong_zero {L : List (List Int)} (h1 : L.length ≤ 100) (h2 : ∀ j, (L.getD j []).length ≤ 200) : wrongL L = (0, 0) := by
  unfold wrongL; rw [if_neg (by omega)]; exact wrong_none 0 (fun j _ => h2 j)

/-- The three leaves. -/
def three : List (List Int) := [[1], [2], [3]]
theorem three_wrong : wrongL three = (0, 0) := rfl
theorem three_path : (pathL three 1).length = 2 := by
  have h3 : splitN three.length = 2 := splitN_unique (a := 1) (by decide) (by decide)
  have h2 : splitN (three.take 2).length = 1 := splitN_unique (a := 0) (by decide) (by decide)
  rw [pathL_left (by decide) (by rw [h3]; omega), h3, pathL_right (by decide) (by rw [h2]; omega), h2, pathL_one (by decide)]
  rfl
theorem three_stands : standsL 3 (mth three) [2] 1 (pathL three 1) = true := stands_path (L := three) (i := 1) (by decide) (by decide) (by decide)
theorem three_not : standsL 3 (mth three) [2] 0 ((pathL three 1).take 1) = false := by
  have h3 : splitN 3 = 2 := splitN_unique (a := 1) (by decide) (by decide)
  have hl : ((pathL three 1).take 1).length = 1 := by rw [List.length_take, three_path]; rfl
  have hd : ((pathL three 1).take 1).dropLast.length = 0 := by rw [List.length_dropLast, hl]
  have h : (upL (leafL [2]) 0 3 ((pathL three 1).take 1)).2 = false := by
    rw [upL_left (by omega) (by omega) (by rw [h3]; omega), h3, upL_none (by omega) hd]
  unfold standsL
  split
  · rfl
  · show ((upL (leafL [2]) 0 3 ((pathL three 1).take 1)).2 && _) = false
    rw [h]; rfl

end Go.Proofs.YtcpaecgjihfblaeDoor

/- Chapter 6's mathematics: records, their bytes, and the book's leaves. -/
namespace Go.Proofs.YtcpaecgjihfblaeDoor

structure Rec where
  shard : Int
  from' : Int
  to' : Int
  size : Int
  root : List Int
def rec0 : Rec := ⟨0, 0, 0, 0, []⟩
/-- What is wrong with a record. -/
def wrongRec (r : Rec) : Int :=
  if r.shard < 0 ∨ 7 < r.shard ∨ r.from' < 0 ∨ r.to' ≤ r.from' ∨ 1000000 < r.to' ∨ r.size < 0 ∨ 100 < r.size then 3 else
  if r.root.length ≠ 32 then 2 else 0
def threeB (n : Int) : List Int := [n / 65536, n / 256 % 256, n % 256]
/-- A record's bytes. -/
def rowL (r : Rec) : List Int := r.shard :: (threeB r.from' ++ (threeB r.to' ++ (r.size :: r.root)))
/-- The record that bytes are, if they are one's. -/
def recL (b : List Int) : Rec := ⟨b.getD 0 0, 65536 * b.getD 1 0 + 256 * b.getD 2 0 + b.getD 3 0, 65536 * b.getD 4 0 + 256 * b.getD 5 0 + b.getD 6 0, b.getD 7 0, b.drop 8⟩
/-- What Parse tells. -/
def parseL (b : List Int) : Rec × Int := if b.length ≠ 40 then (rec0, 2) else if wrongRec (recL b) ≠ 0 then (rec0, wrongRec (recL b)) else (recL b, 0)
/-- What Bytes tells. -/
def bytesE (r : Rec) : List Int := if wrongRec r ≠ 0 then [] else rowL r
theorem wrongRec_ok {r : Rec} (h : wrongRec r = 0) : 0 ≤ r.shard ∧ r.shard ≤ 7 ∧ 0 ≤ r.from' ∧ r.from' < r.to' ∧ r.to' ≤ 1000000 ∧ 0 ≤ r.size ∧ r.size ≤ 100 ∧ r.root.length = 32 := by
  unfold wrongRec at h
  split at h
  · cases h
  · split at h
    · cases h
    · rename_i h1 h2
      exact ⟨by omega, by omega, by omega, by omega, by omega, by omega, by omega, by omega⟩
theorem wrongRec_root {r : Rec} (h : wrongRec r = 2) : ¬ (r.shard < 0 ∨ 7 < r.shard ∨ r.from' < 0 ∨ r.to' ≤ r.from' ∨ 1000000 < r.to' ∨ r.size < 0 ∨ 100 < r.size) ∧ r.root.length ≠ 32 := by
  unfold wrongRec at h
  split at h
  · cases h
  · split at h
    · rename_i h1 h2; exact ⟨h1, h2⟩
    · cases h
theorem row_length {r : Rec} (h : wrongRec r = 0) : (rowL r).length = 40 := by
  have := wrongRec_ok h
  unfold rowL threeB
  simp
  omega
theorem row_bytes {r : Rec} (h : wrongRec r = 0) (hb : Bytes r.root) : Bytes (rowL r) := by
  have h1 := wrongRec_ok h
  unfold rowL threeB
  refine bytes_cons (by omega) (by omega) (bytes_append ?_ (bytes_append ?_ (bytes_cons (by omega) (by omega) hb)))
  · exact bytes_cons (by omega) (by omega) (bytes_cons (by omega) (by omega) (bytes_cons (by omega) (by omega) nil_bytes))
  · exact bytes_cons (by omega) (by omega) (bytes_cons (by omega) (by omega) (bytes_cons (by omega) (by omega) nil_bytes))
theorem rec_row {r : Rec} (h : wrongRec r = 0) : recL (rowL r) = r := by
  have h1 := wrongRec_ok h
  obtain ⟨s, f, t, z, root⟩ := r
  unfold recL rowL threeB
  simp only [List.cons_append, List.nil_append, List.getD_cons_zero, List.getD_cons_succ, List.drop_succ_cons, List.drop_zero]
  dsimp only at h1
  congr 1
  · omega
  · omega
/-- What is written is read. -/
theorem parse_row {r : Rec} (h : wrongRec r = 0) : parseL (rowL r) = (r, 0) := by
  unfold parseL
  rw [if_neg (fun e => e (row_length h)), rec_row h, if_neg (fun e => e h)]
theorem forty {b : List Int} (h : b.length = 40) : ∃ x0 x1 x2 x3 x4 x5 x6 x7 r, b = x0 :: x1 :: x2 :: x3 :: x4 :: x5 :: x6 :: x7 :: r := by
  match b, h with
  | x0 :: x1 :: x2 :: x3 :: x4 :: x5 :: x6 :: x7 :: r, _ => exact ⟨x0, x1, x2, x3, x4, x5, x6, x7, r, rfl⟩
theorem row_rec {b : List Int} (h : b.length = 40) (hb : Bytes b) : rowL (recL b) = b := by
  obtain ⟨x0, x1, x2, x3, x4, x5, x6, x7, r, rfl⟩ := forty h
  have h1 := hb 1
  have h2 := hb 2
  have h3 := hb 3
  have h4 := hb 4
  have h5 := hb 5
  have h6 := hb 6
  unfold recL rowL threeB
  simp only [List.cons_append, List.nil_append, List.getD_cons_zero, List.getD_cons_succ, List.drop_succ_cons, List.drop_zero] at h1 h2 h3 h4 h5 h6 ⊢
  rw [show (65536 * x1 + 256 * x2 + x3) / 65536 = x1 by omega, show (65536 * x1 + 256 * x2 + x3) / 256 % 256 = x2 by omega, show (65536 * x1 + 256 * x2 + x3) % 256 = x3 by omega,
    show (65536 * x4 + 256 * x5 + x6) / 65536 = x4 by omega, show (65536 * x4 + 256 * x5 + x6) / 256 % 256 = x5 by omega, show (65536 * x4 + 256 * x5 + x6) % 256 = x6 by omega]
/-- In one way alone. -/
theorem parse_ok {b : List Int} (h : (parseL b).2 = 0) : b.length = 40 ∧ (parseL b).1 = recL b ∧ wrongRec (recL b) = 0 := by
  unfold parseL at h ⊢
  by_cases h1 : b.length ≠ 40
  · rw [if_pos h1] at h; exact absurd h (by decide)
  rw [if_neg h1] at h ⊢
  by_cases h2 : wrongRec (recL b) ≠ 0
  · rw [if_pos h2] at h; exact absurd h h2
  rw [if_neg h2]
  exact ⟨by omega, rfl, by omega⟩
theorem parse_err {b : List Int} (h : (parseL b).2 ≠ 0) : (parseL b).1 = rec0 := by
  unfold parseL at h ⊢
  by_cases h1 : b.length ≠ 40
  · rw [if_pos h1]
  rw [if_neg h1] at h ⊢
  by_cases h2 : wrongRec (recL b) ≠ 0
  · rw [if_pos h2]
  rw [if_neg h2] at h
  exact absurd rfl h
/-- The first record with which something is wrong. -/
def wrongRecs (l : List Rec) : Int × Int :=
  if 8 < l.length then (5, 0) else
  match (List.range l.length).find? (fun i => decide (wrongRec (l.getD i rec0) ≠ 0)) with
  | some i => (wrongRec (l.getD i rec0), (i : Int))
  | none => (0, 0)
def rowsOf (l : List Rec) : List (List Int) := l.map rowL
theorem wrongRecs_many {l : List Rec} (h : 8 < l.length) : wrongRecs l = (5, 0) := by unfold wrongRecs; rw [if_pos h]
theorem find_first {p : Nat → Bool} {n k : Nat} (hk : k < n) (h : p k = true) (hb : ∀ j, j < k → p j = false) : (List.range n).find? p = some k := by
  induction n with
  | zero => omega
  | succ n ih =>
    rw [List.range_succ, List.find?_append]
    by_cases hkn : k < n
    · rw [ih hkn]; rfl
    · obtain rfl : k = n := by omega
      rw [List.find?_eq_none.2 (fun x hx => by have := hb x (List.mem_range.1 hx); simp [this])]
      simp [h]
theorem wrongRecs_at {l : List Rec} {k : Nat} (h8 : l.length ≤ 8) (hk : k < l.length) (hb : ∀ j, j < k → wrongRec (l.getD j rec0) = 0) (h : wrongRec (l.getD k rec0) ≠ 0) : wrongRecs l = (wrongRec (l.getD k rec0), (k : Int)) := by
  unfold wrongRecs
  rw [if_neg (by omega), find_first (p := fun i => decide (wrongRec (l.getD i rec0) ≠ 0)) hk (decide_eq_true h) (fun j hj => decide_eq_false (fun g => g (hb j hj)))]
theorem wrongRecs_none {l : List Rec} (h8 : l.length ≤ 8) (hb : ∀ j, j < l.length → wrongRec (l.getD j rec0) = 0) : wrongRecs l = (0, 0) := by
  unfold wrongRecs
  rw [if_neg (by omega), List.find?_eq_none.2 (fun x hx => by rw [hb x (List.mem_range.1 hx)]; decide)]
theorem wrongRecs_ok {l : List Rec} (h : (wrongRecs l).1 = 0) : l.length ≤ 8 ∧ ∀ j, j < l.length → wrongRec (l.getD j rec0) = 0 := by
  by_cases h8 : 8 < l.length
  · rw [wrongRecs_many h8] at h; exact absurd h (by decide)
  refine ⟨by omega, fun j hj => ?_⟩
  unfold wrongRecs at h
  rw [if_neg h8] at h
  cases hf : (List.range l.length).find? (fun i => decide (wrongRec (l.getD i rec0) ≠ 0)) with
  | none =>
    have := List.find?_eq_none.1 hf j (List.mem_range.2 hj)
    simpa using this
  | some i =>
    rw [hf] at h
    have := List.find?_some hf
    exact absurd h (by simpa using this)
theorem wrongRecs_whole {l : List Rec} (h : (wrongRecs l).1 = 0) : wrongRecs l = (0, 0) := by
  obtain ⟨h1, h2⟩ := wrongRecs_ok h
  exact wrongRecs_none h1 h2
theorem rows_length (l : List Rec) : (rowsOf l).length = l.length := by unfold rowsOf; simp
theorem rows_get {l : List Rec} {j : Nat} (hj : j < l.length) : (rowsOf l).getD j [] = rowL (l.getD j rec0) := by
  unfold rowsOf
  rw [List.getD_eq_getElem?_getD, List.getElem?_map, List.getElem?_eq_getElem hj, List.getD_eq_getElem?_getD, List.getElem?_eq_getElem hj]
  rfl
theorem rows_short {l : List Rec} (h : (wrongRecs l).1 = 0) : ∀ j, ((rowsOf l).getD j []).length ≤ 200 := fun j => by
  by_cases hj : j < l.length
  · rw [rows_get hj, row_length ((wrongRecs_ok h).2 j hj)]; omega
  · rw [List.getD_eq_getElem?_getD, List.getElem?_eq_none (by rw [rows_length]; omega)]; simp
theorem rows_wrong {l : List Rec} (h : (wrongRecs l).1 = 0) : wrongL (rowsOf l) = (0, 0) := wrong_zero (by rw [rows_length]; have := (wrongRecs_ok h).1; omega) (rows_short h)
theorem rows_take (l : List Rec) (n : Nat) : rowsOf (l.take n) = (rowsOf l).take n := by unfold rowsOf; rw [List.map_take]
/-- What Head, Path and Grows say. -/
def bookPathF (l : List Rec) (row : Int) : Int × Int := if (wrongRecs l).1 ≠ 0 then wrongRecs l else pathF (rowsOf l) row
def bookGrowF (l : List Rec) (m : Int) : Int × Int := if (wrongRecs l).1 ≠ 0 then wrongRecs l else growF (rowsOf l) m
theorem wrongRecs_first {l : List Rec} {n : Nat} (h : (wrongRecs l).1 = 0) : (wrongRecs (l.take n)).1 = 0 := by
  obtain ⟨h1, h2⟩ := wrongRecs_ok h
  rw [wrongRecs_none (by rw [List.length_take]; omega) (fun j hj => ?_)]
  rw [List.length_take] at hj
  rw [List.getD_eq_getElem?_getD, List.getElem?_take, if_pos (by omega), ← List.getD_eq_getElem?_getD]
  exact h2 j (by omega)

end Go.Proofs.YtcpaecgjihfblaeDoor
