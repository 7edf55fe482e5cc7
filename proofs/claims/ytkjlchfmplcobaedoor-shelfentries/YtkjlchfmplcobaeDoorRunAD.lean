/- TreeLawBase, ShelfMath, ShelfFace, as one text. -/
import Derived.Test.YtkjlchfmplcobaeDoorProg
import Derived.Test.YtkjlchfmplcobaeDoorRunAC
import Derived.WalkKit
import Derived.Test.YtkjlchfmplcobaeDoorRunAB
import Derived.Test.YtkjlchfmplcobaeDoorPackFace
import Derived.Test.YtkjlchfmplcobaeDoorPackTake
/- What the laws of chapter 2 that go without the document's answer lean on. -/
namespace Go.Proofs.YtkjlchfmplcobaeDoor
open Go.RowKit

theorem bytes_mem {L : List (List Int)} (h : ∀ x ∈ L, Bytes x) (j : Nat) : Bytes (L.getD j []) := by
  rw [List.getD_eq_getElem?_getD]
  by_cases hj : j < L.length
  · rw [List.getElem?_eq_getElem hj]; exact h _ (List.getElem_mem hj)
  · rw [List.getElem?_eq_none (by omega)]; exact nil_bytes
theorem own_nil {w : World} {base : Nat} {e : TypeId} {a : Option Addr} {n c m : Nat} {xs : List Value} (h : w.ownsRow base e 1 (.slice a n c) m xs) (ha : a = none) : n = 0 ∧ c = 0 := by
  subst ha
  rcases h.2 with ⟨h1, -⟩ | ⟨g, cap, cur, h1, -⟩
  · simp at h1; exact h1
  · simp at h1
/-- What a face answers is what a face is given. -/
theorem OwnParts.lists {w : World} {base : Nat} {xa : Option Addr} {xn xc : Nat} {L : List (List Int)} (h : OwnParts w base (.slice xa xn xc) L) (hb : ∀ x ∈ L, Bytes x) (hs : ∀ j, (L.getD j []).length ≤ maxLen) : Lists w xa xn xc L := by
  have hp := h.parts
  obtain ⟨a, c, e, h1, h2⟩ := h.form
  cases e
  obtain ⟨vs, hr, -⟩ := h
  exact ⟨rfl, hp, h1, h2, own_nil hr, bytes_mem hb, hs⟩
theorem own_len {w : World} {base : Nat} {e : TypeId} {a : Option Addr} {n c m : Nat} {xs : List Value} (h : w.ownsRow base e 1 (.slice a n c) m xs) : n = m := by
  obtain ⟨a', c', e'⟩ := own_form' h
  cases e'
  rfl
theorem Lists.take {w : World} {a : Option Addr} {n c k : Nat} {L : List (List Int)} (h : Lists w a n c L) (hk : k ≤ n) (h0 : 0 < n) : Lists w a k c (L.take k) :=
  ⟨by rw [List.length_take]; have := h.len; omega, h.at'.take h.len hk h0 _, by have := h.room; omega, h.cap, fun ha => by have := h.nil ha; omega, take_bytes h.bytes k, take_short h.short k⟩
theorem Lists.get {w : World} {a : Option Addr} {n c : Nat} {L : List (List Int)} (h : Lists w a n c L) (j : Nat) (hj : j < n) : ∃ b off pa pc, a = some ⟨b, off, none⟩ ∧ w.cell? ⟨b, off + j, none⟩ = some (.slice pa (L.getD j []).length pc) ∧ Some' w (.slice pa (L.getD j []).length pc) (L.getD j []) := by
  obtain ⟨a0, c0, e0, hcell⟩ := h.at'.form
  rw [h.len] at e0 hcell
  cases e0
  obtain ⟨b, off, rfl, -, hc⟩ := hcell.resolve_left (by omega)
  obtain ⟨pa, pc, h1, h2⟩ := hc j hj
  exact ⟨b, off, pa, pc, rfl, h1, h2, h.bytes j, h.short j⟩

theorem wrong_zero {L : List (List Int)} (h1 : L.length ≤ 100) (h2 : ∀ j, (L.getD j []).length ≤ 200) : wrongL L = (0, 0) := by
  unfold wrongL; rw [if_neg (by omega)]; exact wrong_none 0 (fun j _ => h2 j)

/-- The three leaves. -/
def three : List (List Int) := [[1], [2], [3]]
end Go.Proofs.YtkjlchfmplcobaeDoor

/- Chapter 5's mathematics: manifests, what is laid away, and what is read of it. -/
namespace Go.Proofs.YtkjlchfmplcobaeDoor

structure Seg where
  first : Int
  count : Int
  packed : List Int
structure Man where
  size : Int
  root : List Int
  segs : List Seg
def seg0 : Seg := ⟨0, 0, []⟩
def man0 : Man := ⟨0, [], []⟩
/-- Segment k of entries. -/
def segK (L : List (List Int)) (k : Nat) : Seg := ⟨((8 * k : Nat) : Int), ((min 8 (L.length - 8 * k) : Nat) : Int), packL (layL ((L.drop (8 * k)).take 8))⟩
def segsN (L : List (List Int)) (n : Nat) : List Seg := (List.range n).map (segK L)
def segsL (L : List (List Int)) : List Seg := segsN L ((L.length + 7) / 8)
theorem segsN_snoc (L : List (List Int)) (n : Nat) : segsN L (n + 1) = segsN L n ++ [segK L n] := by unfold segsN; rw [List.range_succ, List.map_append]; rfl
theorem segsN_length (L : List (List Int)) (n : Nat) : (segsN L n).length = n := by unfold segsN; simp
theorem segsN_get (L : List (List Int)) (n k : Nat) (h : k < n) : (segsN L n).getD k seg0 = segK L k := by
  unfold segsN; rw [List.getD_eq_getElem?_getD, List.getElem?_map, List.getElem?_range h]; rfl
/-- What Export tells. -/
def exportL (L : List (List Int)) : Man := if (wrongL L).1 ≠ 0 then man0 else ⟨L.length, mth L, segsL L⟩
/-- The segment stands where segment k must. -/
def fitB (size k : Int) (s : Seg) : Bool := decide (0 ≤ size ∧ size ≤ 100 ∧ k ≤ 100 ∧ s.first = k * 8 ∧ 1 ≤ s.count ∧ s.count = min 8 (size - s.first))
theorem fitB_iff {size k : Int} {s : Seg} : fitB size k s = true ↔ 0 ≤ size ∧ size ≤ 100 ∧ k ≤ 100 ∧ s.first = k * 8 ∧ 1 ≤ s.count ∧ s.count = min 8 (size - s.first) := by unfold fitB; simp
/-- What a segment's bytes tell. -/
def readSeg (s : Seg) : List (List Int) × Int :=
  if (unpackL s.packed).2 ≠ 0 then ([], (unpackL s.packed).2) else
  match takeL s.count.toNat (unpackL s.packed).1 with
  | none => ([], 2)
  | some l => (l, 0)
/-- What Segment tells. -/
def segmentL (m : Man) (k : Int) : List (List Int) × Int :=
  if k < 0 ∨ (m.segs.length : Int) ≤ k then ([], 6) else
  if fitB m.size k (m.segs.getD k.toNat seg0) = false then ([], 7) else readSeg (m.segs.getD k.toNat seg0)
/-- What Entry tells. -/
def entryL (m : Man) (i : Int) : List Int × Int :=
  if i < 0 ∨ m.size ≤ i then ([], 6) else
  if (segmentL m (i / 8)).2 ≠ 0 then ([], (segmentL m (i / 8)).2) else ((segmentL m (i / 8)).1.getD (i % 8).toNat [], 0)
/-- The entries of the segments ahead of k. -/
def upTo (m : Man) (k : Nat) : List (List Int) := (List.range k).flatMap (fun (j : Nat) => (segmentL m (j : Int)).1)
theorem upTo_zero (m : Man) : upTo m 0 = [] := rfl
theorem upTo_succ (m : Man) (k : Nat) : upTo m (k + 1) = upTo m k ++ (segmentL m (k : Int)).1 := by unfold upTo; rw [List.range_succ, List.flatMap_append]; simp
def manyB (m : Man) : Bool := decide (0 ≤ m.size ∧ m.size ≤ 100 ∧ (m.segs.length : Int) = (m.size + 7) / 8)
/-- The first segment that is not as it must be. -/
def badK (m : Man) : Option Nat := (List.range m.segs.length).find? (fun (k : Nat) => decide ((segmentL m (k : Int)).2 ≠ 0))
/-- What Verify tells. -/
def verifyL (m : Man) : List (List Int) × Int × Int :=
  if manyB m = false then ([], 5, 0) else
  match badK m with
  | some k => ([], (segmentL m (k : Int)).2, (k : Int))
  | none => if mth (upTo m m.segs.length) ≠ m.root then ([], 9, 0) else (upTo m m.segs.length, 0, 0)
theorem find_range {p : Nat → Bool} {n k : Nat} (hk : k < n) (h : p k = true) (hb : ∀ j, j < k → p j = false) : (List.range n).find? p = some k := by
  induction n with
  | zero => omega
  | succ n ih =>
    rw [List.range_succ, List.find?_append]
    by_cases hkn : k < n
    · rw [ih hkn]; rfl
    · obtain rfl : k = n := by omega
      rw [List.find?_eq_none.2 (fun x hx => by have := hb x (List.mem_range.1 hx); simp [this])]
      simp [h]
theorem find_none {p : Nat → Bool} {n : Nat} (hb : ∀ j, j < n → p j = false) : (List.range n).find? p = none :=
  List.find?_eq_none.2 (fun x hx => by have := hb x (List.mem_range.1 hx); simp [this])
theorem verify_many {m : Man} (h : manyB m = false) : verifyL m = ([], 5, 0) := by rw [verifyL, if_pos h]
theorem verify_bad {m : Man} {k : Nat} (h : manyB m = true) (hk : k < m.segs.length) (hb : ∀ j : Nat, j < k → (segmentL m (j : Int)).2 = 0) (he : (segmentL m (k : Int)).2 ≠ 0) : verifyL m = ([], (segmentL m (k : Int)).2, (k : Int)) := by
  have : badK m = some k := find_range hk (decide_eq_true he) (fun j hj => decide_eq_false (fun h => h (hb j hj)))
  rw [verifyL, if_neg (by rw [h]; decide), this]
theorem verify_good {m : Man} (h : manyB m = true) (hb : ∀ j : Nat, j < m.segs.length → (segmentL m (j : Int)).2 = 0) : verifyL m = if mth (upTo m m.segs.length) ≠ m.root then ([], 9, 0) else (upTo m m.segs.length, 0, 0) := by
  have : badK m = none := find_none (fun j hj => decide_eq_false (fun h => h (hb j hj)))
  rw [verifyL, if_neg (by rw [h]; decide), this]
/-- What is verified. -/
theorem verify_spec {m : Man} (h : (verifyL m).2.1 = 0) : verifyL m = (upTo m m.segs.length, 0, 0) ∧ manyB m = true ∧ (∀ j : Nat, j < m.segs.length → (segmentL m (j : Int)).2 = 0) ∧ mth (upTo m m.segs.length) = m.root := by
  by_cases hm : manyB m = true
  · rcases hK : badK m with _ | k
    · have hb : ∀ j : Nat, j < m.segs.length → (segmentL m (j : Int)).2 = 0 := fun j hj => by
        have := List.find?_eq_none.1 hK j (List.mem_range.2 hj)
        simpa using this
      have e := verify_good hm hb
      by_cases hr : mth (upTo m m.segs.length) ≠ m.root
      · rw [e, if_pos hr] at h; exact absurd h (by decide)
      · rw [e, if_neg hr]
        exact ⟨rfl, hm, hb, by simpa using hr⟩
    · have h1 := List.find?_some hK
      rw [verifyL, if_neg (by rw [hm]; decide), hK] at h
      exact absurd h (by simpa using h1)
  · rw [verify_many (by simpa using hm)] at h; exact absurd h (by decide)
/-- A segment that is read. -/
theorem segment_ok {m : Man} {k : Int} (h : (segmentL m k).2 = 0) : 0 ≤ k ∧ k < m.segs.length ∧ fitB m.size k (m.segs.getD k.toNat seg0) = true ∧ (unpackL (m.segs.getD k.toNat seg0).packed).2 = 0 ∧ takeL (m.segs.getD k.toNat seg0).count.toNat (unpackL (m.segs.getD k.toNat seg0).packed).1 = some (segmentL m k).1 := by
  unfold segmentL at h ⊢
  by_cases h1 : k < 0 ∨ (m.segs.length : Int) ≤ k
  · rw [if_pos h1] at h; exact absurd h (by decide)
  rw [if_neg h1] at h ⊢
  by_cases h2 : fitB m.size k (m.segs.getD k.toNat seg0) = false
  · rw [if_pos h2] at h; exact absurd h (by decide)
  rw [if_neg h2] at h ⊢
  unfold readSeg at h ⊢
  by_cases h3 : (unpackL (m.segs.getD k.toNat seg0).packed).2 ≠ 0
  · rw [if_pos h3] at h; exact absurd h h3
  rw [if_neg h3] at h ⊢
  refine ⟨by omega, by omega, by simpa using h2, by simpa using h3, ?_⟩
  cases h4 : takeL (m.segs.getD k.toNat seg0).count.toNat (unpackL (m.segs.getD k.toNat seg0).packed).1 with
  | none => rw [h4] at h; exact absurd h (by decide)
  | some l => rfl
theorem segment_err {m : Man} {k : Int} (h : (segmentL m k).2 ≠ 0) : (segmentL m k).1 = [] := by
  unfold segmentL at h ⊢
  split
  · rfl
  · rename_i h1
    rw [if_neg h1] at h
    split
    · rfl
    · rename_i h2
      rw [if_neg h2] at h
      unfold readSeg at h ⊢
      split
      · rfl
      · rename_i h3
        rw [if_neg h3] at h
        split
        · rfl
        · rename_i l h4
          rw [h4] at h
          exact absurd rfl h
theorem segment_len {m : Man} {k : Int} (h : (segmentL m k).2 = 0) : ((segmentL m k).1.length : Int) = (m.segs.getD k.toNat seg0).count ∧ ∀ e ∈ (segmentL m k).1, e.length ≤ 200 := by
  obtain ⟨-, -, h3, -, h5⟩ := segment_ok h
  obtain ⟨h6, h7⟩ := takeL_len _ _ _ h5
  have := fitB_iff.1 h3
  exact ⟨by omega, h7⟩
theorem segment_mem (m : Man) (k : Int) : ∀ e ∈ (segmentL m k).1, ∀ x ∈ e, x ∈ (m.segs.getD k.toNat seg0).packed ∨ x = 0 := by
  by_cases h : (segmentL m k).2 = 0
  · obtain ⟨-, -, -, -, h5⟩ := segment_ok h
    intro e he x hx
    exact unpack_mem _ x (takeL_mem _ _ _ h5 e he x hx)
  · rw [segment_err h]; simp
theorem segment_few (m : Man) (k : Int) : (segmentL m k).1.length ≤ 8 ∧ ∀ e ∈ (segmentL m k).1, e.length ≤ 200 := by
  by_cases h : (segmentL m k).2 = 0
  · obtain ⟨h1, h2⟩ := segment_len h
    obtain ⟨-, -, h3, -, -⟩ := segment_ok h
    have := fitB_iff.1 h3
    exact ⟨by omega, h2⟩
  · rw [segment_err h]; simp
/-- How many entries came. -/
theorem upTo_length {m : Man} (hm : manyB m = true) : ∀ k : Nat, k ≤ m.segs.length → (∀ j : Nat, j < k → (segmentL m (j : Int)).2 = 0) → ((upTo m k).length : Int) = min (8 * (k : Int)) m.size
  | 0, _, _ => by unfold manyB at hm; simp at hm; rw [upTo_zero]; simp; omega
  | k + 1, hk, hb => by
    have h1 := upTo_length hm k (by omega) (fun j hj => hb j (by omega))
    obtain ⟨h2, -⟩ := segment_len (hb k (by omega))
    obtain ⟨-, -, h3, -, -⟩ := segment_ok (hb k (by omega))
    have h4 := fitB_iff.1 h3
    unfold manyB at hm
    simp at hm
    rw [upTo_succ, List.length_append]
    omega
theorem upTo_all {m : Man} (h : (verifyL m).2.1 = 0) : ((upTo m m.segs.length).length : Int) = m.size ∧ ∀ k : Nat, k < m.segs.length → (m.segs.getD k seg0).first = (upTo m k).length := by
  obtain ⟨-, hm, hb, -⟩ := verify_spec h
  have hm' := hm
  unfold manyB at hm'
  simp at hm'
  refine ⟨by rw [upTo_length hm _ (Nat.le_refl _) hb]; omega, fun k hk => ?_⟩
  obtain ⟨-, -, h3, -, -⟩ := segment_ok (hb k hk)
  have h4 := fitB_iff.1 h3
  rw [upTo_length hm k (by omega) (fun j hj => hb j (by omega))]
  rw [Int.toNat_natCast] at h4
  omega
theorem upTo_few (m : Man) : ∀ k : Nat, (upTo m k).length ≤ 8 * k ∧ ∀ e ∈ upTo m k, e.length ≤ 200
  | 0 => by rw [upTo_zero]; simp
  | k + 1 => by
    obtain ⟨h1, h2⟩ := upTo_few m k
    obtain ⟨h3, h4⟩ := segment_few m k
    rw [upTo_succ]
    refine ⟨by rw [List.length_append]; omega, fun e he => ?_⟩
    rcases List.mem_append.1 he with he | he
    · exact h2 e he
    · exact h4 e he
theorem upTo_get {m : Man} (h : (verifyL m).2.1 = 0) : ∀ (n i : Nat), n ≤ m.segs.length → i < (upTo m n).length → (upTo m n).getD i [] = (segmentL m ((i / 8 : Nat) : Int)).1.getD (i % 8) []
  | 0, i, _, hi => by rw [upTo_zero] at hi; simp at hi
  | n + 1, i, hn, hi => by
    obtain ⟨-, hm, hb, -⟩ := verify_spec h
    have hl := upTo_length hm n (by omega) (fun j hj => hb j (by omega))
    have hl1 := upTo_length hm (n + 1) hn (fun j hj => hb j (by omega))
    unfold manyB at hm
    simp at hm
    rw [upTo_succ]
    by_cases hlt : i < (upTo m n).length
    · rw [List.getD_eq_getElem?_getD, List.getElem?_append_left hlt, ← List.getD_eq_getElem?_getD]
      exact upTo_get h n i (by omega) hlt
    · have e1 : (upTo m n).length = 8 * n := by omega
      have e2 : i / 8 = n := by omega
      have e3 : i % 8 = i - 8 * n := by omega
      rw [List.getD_eq_getElem?_getD, List.getElem?_append_right (by omega), ← List.getD_eq_getElem?_getD, e1, e2, e3]
/-- Each by itself as all together. -/
theorem entry_verified {m : Man} (h : (verifyL m).2.1 = 0) (i : Int) : entryL m i = if i < 0 ∨ ((upTo m m.segs.length).length : Int) ≤ i then ([], 6) else ((upTo m m.segs.length).getD i.toNat [], 0) := by
  have hl := (upTo_all h).1
  obtain ⟨-, hm, hb, -⟩ := verify_spec h
  unfold entryL
  rw [hl]
  by_cases hi : i < 0 ∨ m.size ≤ i
  · rw [if_pos hi, if_pos hi]
  · rw [if_neg hi, if_neg hi]
    unfold manyB at hm
    simp at hm
    obtain ⟨j, rfl⟩ : ∃ j : Nat, i = (j : Int) := ⟨i.toNat, by omega⟩
    have h8 : ((j : Int) / 8) = ((j / 8 : Nat) : Int) := by omega
    have hs := hb (j / 8) (by omega)
    rw [h8, if_neg (by rw [hs]; decide), upTo_get h _ _ (Nat.le_refl _) (by omega)]
    congr 2

/-- What is laid away is there. -/
theorem short_part {L : List (List Int)} (h : ∀ e ∈ L, e.length ≤ 200) (k : Nat) : ∀ e ∈ (L.drop (8 * k)).take 8, e.length ≤ 200 := fun e he => h e (List.mem_of_mem_drop (List.mem_of_mem_take he))
theorem lay_part {L : List (List Int)} (h : ∀ e ∈ L, e.length ≤ 200) (k : Nat) : (layL ((L.drop (8 * k)).take 8)).length ≤ 4000 := by
  have h1 := layL_length _ (short_part h k)
  have h2 : ((L.drop (8 * k)).take 8).length ≤ 8 := by rw [List.length_take]; omega
  omega
theorem readSeg_k {L : List (List Int)} (h : ∀ e ∈ L, e.length ≤ 200) (k : Nat) : readSeg (segK L k) = ((L.drop (8 * k)).take 8, 0) := by
  have hu := unpack_pack (lay_part h k)
  have hl : ((L.drop (8 * k)).take 8).length = min 8 (L.length - 8 * k) := by rw [List.length_take, List.length_drop]
  unfold readSeg segK
  dsimp only
  rw [hu, if_neg (by simp)]
  dsimp only
  rw [Int.toNat_natCast, ← hl, takeL_lay _ (short_part h k)]
theorem segment_export {L : List (List Int)} (h1 : L.length ≤ 100) (h : ∀ e ∈ L, e.length ≤ 200) {k : Nat} (hk : k < (L.length + 7) / 8) : segmentL ⟨L.length, mth L, segsL L⟩ (k : Int) = ((L.drop (8 * k)).take 8, 0) := by
  unfold segmentL segsL
  dsimp only
  rw [segsN_length, if_neg (by omega), Int.toNat_natCast, segsN_get _ _ _ hk, if_neg, readSeg_k h k]
  rw [Bool.not_eq_false, fitB_iff]
  unfold segK
  dsimp only
  omega
theorem upTo_export {L : List (List Int)} (h1 : L.length ≤ 100) (h : ∀ e ∈ L, e.length ≤ 200) : ∀ k : Nat, k ≤ (L.length + 7) / 8 → upTo ⟨L.length, mth L, segsL L⟩ k = L.take (8 * k)
  | 0, _ => by rw [upTo_zero]; simp
  | k + 1, hk => by rw [upTo_succ, upTo_export h1 h k (by omega), segment_export h1 h (by omega), Nat.mul_add, List.take_add]
theorem verify_export {L : List (List Int)} (h1 : L.length ≤ 100) (h : ∀ e ∈ L, e.length ≤ 200) : verifyL ⟨L.length, mth L, segsL L⟩ = (L, 0, 0) := by
  have hlen : (segsL L).length = (L.length + 7) / 8 := segsN_length _ _
  have hu := upTo_export h1 h ((L.length + 7) / 8) (Nat.le_refl _)
  rw [List.take_of_length_le (by omega)] at hu
  rw [verify_good]
  · dsimp only
    rw [hlen, hu, if_neg (by simp)]
  · unfold manyB
    dsimp only
    rw [hlen]
    exact decide_eq_true (by omega)
  · intro j hj
    dsimp only at hj
    rw [hlen] at hj
    rw [segment_export h1 h hj]
theorem entry_export {L : List (List Int)} (h1 : L.length ≤ 100) (h : ∀ e ∈ L, e.length ≤ 200) {i : Nat} (hi : i < L.length) : entryL ⟨L.length, mth L, segsL L⟩ (i : Int) = (L.getD i [], 0) := by
  have hv := verify_export h1 h
  have hz : (verifyL ⟨L.length, mth L, segsL L⟩).2.1 = 0 := by rw [hv]
  have hu : upTo ⟨L.length, mth L, segsL L⟩ (segsL L).length = L := by
    have := (verify_spec hz).1
    rw [hv] at this
    exact (congrArg Prod.fst this).symm
  rw [entry_verified hz, hu, if_neg (by omega), Int.toNat_natCast]

end Go.Proofs.YtkjlchfmplcobaeDoor

/- What the laws of chapter 5 ask of package shelf's faces, as propositions: each is shown of the landed code elsewhere. Manifests in memory. -/
namespace Go.Proofs.YtkjlchfmplcobaeDoor
open Go.RowKit

/-- A segment's bytes as the walks meet them. -/
def PackedAt (w : World) (b o : Nat) (d : List Int) : Prop := ∃ pa pc, w.cell? ⟨b, o, none⟩ = some (.slice pa d.length pc) ∧ Some' w (.slice pa d.length pc) d ∧ d.length ≤ pc ∧ pc ≤ maxLen
/-- Segments as the walks meet them. -/
def SegsAt (w : World) (v : Value) (l : List Seg) : Prop :=
  ∃ a c, v = .slice a l.length c ∧ l.length ≤ c ∧ c ≤ maxLen ∧ (a = none → c = 0) ∧ (l.length = 0 ∨ ∃ b off, a = some ⟨b, off, none⟩ ∧ b < w.heap.size ∧
    ∀ j, j < l.length → w.cell? ⟨b, off + j * 3, none⟩ = some (.int .i64 (l.getD j seg0).first) ∧ w.cell? ⟨b, off + j * 3 + 1, none⟩ = some (.int .i64 (l.getD j seg0).count) ∧ PackedAt w b (off + j * 3 + 2) (l.getD j seg0).packed)
theorem PackedAt.below {w w' : World} {b o : Nat} {d : List Int} (h : PackedAt w b o d) (hb : b < w.heap.size) (hw : Below w.heap.size w w') : PackedAt w' b o d := by
  obtain ⟨pa, pc, h1, h2, h3⟩ := h
  exact ⟨pa, pc, by rw [hw.cell (p := ⟨b, o, none⟩) hb]; exact h1, h2.below hw, h3⟩
theorem SegsAt.below {w w' : World} {v : Value} {l : List Seg} (h : SegsAt w v l) (hw : Below w.heap.size w w') : SegsAt w' v l := by
  obtain ⟨a, c, h1, h2, h3, h4, h5⟩ := h
  refine ⟨a, c, h1, h2, h3, h4, ?_⟩
  rcases h5 with h5 | ⟨b, off, h6, h7, h8⟩
  · exact .inl h5
  · refine .inr ⟨b, off, h6, Nat.lt_of_lt_of_le h7 hw.size, fun j hj => ?_⟩
    obtain ⟨c0, c1, c2⟩ := h8 j hj
    exact ⟨by rw [hw.cell (p := ⟨b, off + j * 3, none⟩) h7]; exact c0, by rw [hw.cell (p := ⟨b, off + j * 3 + 1, none⟩) h7]; exact c1, c2.below h7 hw⟩
theorem segsAt_nil (w : World) : SegsAt w (.slice none 0 0) [] := ⟨none, 0, rfl, Nat.le_refl _, Nat.zero_le _, fun _ => rfl, .inl rfl⟩
/-- A manifest as the walks meet it. -/
def ManAt (w : World) (v : Value) (m : Man) : Prop := ∃ rv sv, v = .agg #[.int .i64 m.size, rv, sv] ∧ Some' w rv m.root ∧ SegsAt w sv m.segs
theorem ManAt.below {w w' : World} {v : Value} {m : Man} (h : ManAt w v m) (hw : Below w.heap.size w w') : ManAt w' v m := by
  obtain ⟨rv, sv, h1, h2, h3⟩ := h
  exact ⟨rv, sv, h1, h2.below hw, h3.below hw⟩
theorem some_nil (w : World) : Some' w (.slice none 0 0) [] := ⟨bytesAt_nil w, nil_bytes, Nat.zero_le _⟩
theorem man0_at (w : World) : ManAt w (.agg #[.int .i64 0, .slice none 0 0, .slice none 0 0]) man0 := ⟨_, _, rfl, some_nil w, segsAt_nil w⟩
theorem lists_nil (w : World) : Lists w none 0 0 [] := ⟨rfl, .inl ⟨rfl, none, 0, rfl⟩, Nat.le_refl _, Nat.zero_le _, fun _ => ⟨rfl, rfl⟩, fun j => by simp; exact nil_bytes, fun j => by simp⟩
/-- What is read of bytes is bytes. -/
theorem bytes_forall {l : List Int} (h : Bytes l) : ∀ x ∈ l, 0 ≤ x ∧ x < 256 := fun x hx => by
  obtain ⟨j, hj, rfl⟩ := List.mem_iff_getElem.1 hx
  have := h j
  rwa [List.getD_eq_getElem?_getD, List.getElem?_eq_getElem hj] at this
theorem unpack_bytes {b : List Int} (h : Bytes b) : Bytes (unpackL b).1 := bytes_of_mem (fun x hx => by
  rcases unpack_mem b x hx with g | g
  · exact bytes_forall h x g
  · omega)
theorem takeL_bytes {b : List Int} (h : Bytes b) {n : Nat} {l : List (List Int)} (hl : takeL n b = some l) : ∀ j, Bytes (l.getD j []) := bytes_mem (fun e he => bytes_of_mem (fun x hx => bytes_forall h x (takeL_mem n b l hl e he x hx)))
def SegsBytes (l : List Seg) : Prop := ∀ j, Bytes (l.getD j seg0).packed
theorem SegsAt.bytes {w : World} {v : Value} {l : List Seg} (h : SegsAt w v l) : SegsBytes l := fun j => by
  obtain ⟨a, c, -, -, -, -, h5⟩ := h
  by_cases hj : j < l.length
  · rcases h5 with h5 | ⟨b, off, -, -, h8⟩
    · omega
    · obtain ⟨-, -, pa, pc, -, h2, -⟩ := h8 j hj
      exact h2.bytes
  · rw [List.getD_eq_getElem?_getD, List.getElem?_eq_none (by omega)]; exact nil_bytes
theorem segment_bytes {m : Man} (h : SegsBytes m.segs) (k : Int) : ∀ j, Bytes ((segmentL m k).1.getD j []) := bytes_mem (fun e he => bytes_of_mem (fun x hx => by
  rcases segment_mem m k e he x hx with g | g
  · exact bytes_forall (h k.toNat) x g
  · omega))
theorem upTo_bytes {m : Man} (h : SegsBytes m.segs) (k : Nat) : ∀ e ∈ upTo m k, Bytes e := fun e he => by
  unfold upTo at he
  obtain ⟨j, -, hj⟩ := List.mem_flatMap.1 he
  obtain ⟨i, hi, rfl⟩ := List.mem_iff_getElem.1 hj
  have := segment_bytes h (j : Int) i
  rwa [List.getD_eq_getElem?_getD, List.getElem?_eq_getElem hi] at this
/-- A slice of bytes that lies in a block of bytes. -/
def ByteEl (w : World) (y : Value) (d : List Int) : Prop :=
  (d = [] ∧ ∃ a c, y = .slice a 0 c ∧ (a = none → c = 0)) ∨ ∃ g off c cur mk, y = .slice (some ⟨g, off, none⟩) d.length c ∧ w.heap[g]? = some (.cells cur 5 mk) ∧ ∀ j, j < d.length → w.cell? ⟨g, off + j, none⟩ = some (.int .u8 (d.getD j 0))
theorem ByteEl.bytes {w : World} {y : Value} {d : List Int} (h : ByteEl w y d) : BytesAt w y d := by
  rcases h with h | ⟨g, off, c, cur, mk, h1, h2, h3⟩
  · exact .inl h
  · exact .inr ⟨g, off, c, h1, lt_heap h2, h3⟩
theorem ByteEl.one {w : World} {y : Value} {d : List Int} (h : ByteEl w y d) : y.oneCell' = true := by
  rcases h with ⟨-, a, c, rfl, -⟩ | ⟨g, off, c, cur, mk, rfl, -⟩ <;> rfl
theorem ByteEl.below {w w' : World} {y : Value} {d : List Int} {N : Nat} (h : ByteEl w y d) (hb : Below N w w') (hN : w.heap.size ≤ N) : ByteEl w' y d := by
  rcases h with h | ⟨g, off, c, cur, mk, h1, h2, h3⟩
  · exact .inl h
  · have hg := lt_heap h2
    exact .inr ⟨g, off, c, cur, mk, h1, by rw [hb.block g (by omega)]; exact h2, fun j hj => by rw [hb.cell (p := ⟨g, off + j, none⟩) (show g < N by omega)]; exact h3 j hj⟩
theorem ByteEl.same {w w' : World} {y : Value} {d : List Int} (h : ByteEl w y d) (hs : ∀ (g : Nat) (cur : Array Value) (mk : Nat × Nat), w.heap[g]? = some (Obj.cells cur 5 mk) → w'.heap[g]? = w.heap[g]?) : ByteEl w' y d := by
  rcases h with h | ⟨g, off, c, cur, mk, h1, h2, h3⟩
  · exact .inl h
  · have h4 := (hs g cur mk h2).trans h2
    exact .inr ⟨g, off, c, cur, mk, h1, h4, fun j hj => by rw [cell_of_row w' g (off + j) cur _ mk h4, ← cell_of_row w g (off + j) cur _ mk h2]; exact h3 j hj⟩
theorem own_apart {w : World} {base g n size : Nat} {e t : TypeId} {v : Value} {xs : List Value} {cur : Array Value} {mk : Nat × Nat} (h : w.ownsRow base e size v n xs) (hne : t ≠ e) (hg : w.heap[g]? = some (.cells cur t mk)) : some g ≠ v.ownBlock := fun hh => by
  rcases h.2 with ⟨rfl, -⟩ | ⟨k, cap, cu, rfl, -, hk, -⟩
  · cases hh
  · cases hh
    rw [hk] at hg
    cases hg
    exact hne rfl
theorem ByteEl.kept {w w' : World} {base n size : Nat} {e : TypeId} {v : Value} {xs : List Value} {y : Value} {d : List Int} (h : ByteEl w y d) (hr : w.ownsRow base e size v n xs) (hne : 5 ≠ e) (hg : w.grownBy w' v.ownBlock) : ByteEl w' y d :=
  h.same (fun g _ _ h2 => hg.block g (lt_heap h2) (own_apart hr hne h2))
theorem byteEl_own {w : World} {base n : Nat} {v : Value} {d : List Int} (h : w.ownsRow base 5 1 v n (d.map (Value.int .u8))) : ByteEl w v d := by
  have hl : d.length = n := by simpa using h.1
  rcases h.2 with ⟨hv, hn⟩ | ⟨g, cap, cur, hv, -, hg, -⟩
  · subst hn
    exact .inl ⟨List.eq_nil_of_length_eq_zero hl, none, 0, hv, fun _ => rfl⟩
  · subst hl
    subst hv
    refine .inr ⟨g, 0, cap, cur, _, rfl, hg, fun j hj => ?_⟩
    rw [Nat.zero_add, h.cellAt j (by omega), List.getElem?_map, List.getElem?_eq_getElem hj, List.getD_eq_getElem?_getD, List.getElem?_eq_getElem hj]
    rfl
/-- Values, each of them such a slice. -/
def Els (w : World) (vs : List Value) (L : List (List Int)) : Prop := vs.length = L.length ∧ ∀ j, j < L.length → ∃ y, vs[j]? = some y ∧ ByteEl w y (L.getD j [])
theorem els_nil (w : World) : Els w [] [] := ⟨rfl, fun _ h => absurd h (Nat.not_lt_zero _)⟩
theorem Els.below {w w' : World} {vs : List Value} {L : List (List Int)} {N : Nat} (h : Els w vs L) (hb : Below N w w') (hN : w.heap.size ≤ N) : Els w' vs L := ⟨h.1, fun j hj => by obtain ⟨y, h1, h2⟩ := h.2 j hj; exact ⟨y, h1, h2.below hb hN⟩⟩
theorem Els.kept {w w' : World} {base n size : Nat} {e : TypeId} {v : Value} {xs vs : List Value} {L : List (List Int)} (h : Els w vs L) (hr : w.ownsRow base e size v n xs) (hne : 5 ≠ e) (hg : w.grownBy w' v.ownBlock) : Els w' vs L := ⟨h.1, fun j hj => by obtain ⟨y, h1, h2⟩ := h.2 j hj; exact ⟨y, h1, h2.kept hr hne hg⟩⟩
theorem Els.append {w : World} {vs us : List Value} {L M : List (List Int)} (h : Els w vs L) (k : Els w us M) : Els w (vs ++ us) (L ++ M) := by
  refine ⟨by rw [List.length_append, List.length_append, h.1, k.1], fun j hj => ?_⟩
  by_cases hlt : j < L.length
  · obtain ⟨y, h1, h2⟩ := h.2 j hlt
    exact ⟨y, by rw [List.getElem?_append_left (by rw [h.1]; exact hlt)]; exact h1, by rw [List.getD_eq_getElem?_getD, List.getElem?_append_left hlt, ← List.getD_eq_getElem?_getD]; exact h2⟩
  · obtain ⟨y, h1, h2⟩ := k.2 (j - L.length) (by rw [List.length_append] at hj; omega)
    exact ⟨y, by rw [List.getElem?_append_right (by rw [h.1]; omega), h.1]; exact h1, by rw [List.getD_eq_getElem?_getD, List.getElem?_append_right (by omega), ← List.getD_eq_getElem?_getD]; exact h2⟩
theorem Els.one {w : World} {vs : List Value} {L : List (List Int)} (h : Els w vs L) : ∀ u ∈ vs, u.oneCell' = true := fun u hu => by
  obtain ⟨j, hj, rfl⟩ := List.mem_iff_getElem.1 hu
  obtain ⟨y, h1, h2⟩ := h.2 j (by rw [← h.1]; exact hj)
  rw [List.getElem?_eq_getElem hj] at h1
  cases h1
  exact h2.one
/-- A list as it comes in whose bytes lie in blocks of bytes. -/
structure Laid (w : World) (a : Option Addr) (n c : Nat) (L : List (List Int)) : Prop where
  lists : Lists w a n c L
  els : ∃ vs, Els w vs L ∧ ∀ ad, a = some ad → ∀ j u, vs[j]? = some u → w.cell? (ad.add j) = some u
theorem laid_nil (w : World) : Laid w none 0 0 [] := ⟨lists_nil w, [], els_nil w, fun _ _ j u h => by simp at h⟩
theorem Laid.below {w w' : World} {a : Option Addr} {n c : Nat} {L : List (List Int)} (h : Laid w a n c L) (hb : Below w.heap.size w w') : Laid w' a n c L := by
  obtain ⟨vs, h1, h2⟩ := h.els
  refine ⟨h.lists.below hb, vs, h1.below hb (Nat.le_refl _), fun ad ha j u hu => ?_⟩
  have hc := h2 ad ha j u hu
  rw [hb.cell (p := ad.add j) (World.block_lt_of_cell? w _ hc)]
  exact hc
theorem laid_own {w : World} {base : Nat} {a : Option Addr} {n c : Nat} {vs : List Value} {L : List (List Int)} (hr : w.ownsRow base 22 1 (.slice a n c) n vs) (he : Els w vs L) (hl : L.length = n) (hb : ∀ x ∈ L, Bytes x) (hs : ∀ x ∈ L, x.length ≤ maxLen) : Laid w a n c L := by
  have hcell : ∀ ad, a = some ad → ∀ j u, vs[j]? = some u → w.cell? (ad.add j) = some u := fun ad ha j u hu => by
    have hj : j < n := by have := (List.getElem?_eq_some_iff.1 hu).1; rw [he.1, hl] at this; exact this
    obtain ⟨g, hg, -⟩ := own_some hr (by omega)
    subst ha
    cases hg
    have e : (⟨g, 0, none⟩ : Addr).add j = ⟨g, 0 + j, none⟩ := Addr.add_mid _ _ _
    rw [e, Nat.zero_add, hr.cellAt j (by omega)]
    exact hu
  obtain ⟨a', c', e', h1, h2⟩ := own_cap hr
  cases e'
  refine ⟨⟨hl, ?_, h1, h2, own_nil hr, bytes_mem hb, short_mem hs⟩, vs, he, hcell⟩
  by_cases h0 : n = 0
  · subst h0
    exact .inl ⟨List.eq_nil_of_length_eq_zero hl, _, _, rfl⟩
  · obtain ⟨g, rfl, -, hg, -⟩ := own_some hr h0
    refine .inr ⟨g, 0, c, by rw [hl], hg, fun j hj => ?_⟩
    obtain ⟨y, h3, h4⟩ := he.2 j hj
    obtain ⟨ya, yc, rfl⟩ := h4.bytes.form
    have e : (⟨g, 0, none⟩ : Addr).add j = ⟨g, 0 + j, none⟩ := Addr.add_mid _ _ _
    have := hcell _ rfl j _ h3
    rw [e] at this
    exact ⟨_, _, _, this, h4.bytes⟩
/-- The faces. -/
def ExportC : Prop := ∀ (L : List (List Int)) (a : Option Addr) (n c : Nat) (w : World), Ready w → Lists w a n c L →
  Calls Tryd.prog 30 #[.slice a n c] w fun e w' => ∃ mv, e = .returned (.tuple #[mv, faultV (wrongL L)]) ∧ ManAt w' mv (exportL L) ∧ Below w.heap.size w w'
def SegmentC : Prop := ∀ (m : Man) (k : Int) (mv : Value) (w : World), ManAt w mv m →
  Calls Tryd.prog 33 #[mv, .int .i64 k] w fun e w' => ∃ xa xn xc, e = .returned (.tuple #[.slice xa xn xc, .int .i64 (segmentL m k).2]) ∧ Laid w' xa xn xc (segmentL m k).1 ∧ Below w.heap.size w w'
def EntryC : Prop := ∀ (m : Man) (i : Int) (mv : Value) (w : World), ManAt w mv m → i ≤ 9223372036854775807 →
  Calls Tryd.prog 9 #[mv, .int .i64 i] w fun e w' => ∃ v, e = .returned (.tuple #[v, .int .i64 (entryL m i).2]) ∧ Some' w' v (entryL m i).1 ∧ Below w.heap.size w w'
def VerifyC : Prop := ∀ (m : Man) (mv : Value) (w : World), Ready w → ManAt w mv m →
  Calls Tryd.prog 8 #[mv] w fun e w' => ∃ xa xn xc, e = .returned (.tuple #[.slice xa xn xc, faultV (verifyL m).2]) ∧ Laid w' xa xn xc (verifyL m).1 ∧ Below w.heap.size w w'

end Go.Proofs.YtkjlchfmplcobaeDoor
