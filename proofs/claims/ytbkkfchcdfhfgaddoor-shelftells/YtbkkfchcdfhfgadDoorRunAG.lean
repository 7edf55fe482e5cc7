/- TreeLawBase, ShelfMath, TreeGoBox, as one text. -/
import Derived.Test.YtbkkfchcdfhfgadDoorProg
import Derived.Test.YtbkkfchcdfhfgadDoorRunAD
import Derived.WalkKit
import Derived.Test.YtbkkfchcdfhfgadDoorRunAF
import Derived.WalkSmall
import Derived.OneCell
import Derived.Laws.Rows
/- What the laws of chapter 2 that go without the document's answer lean on. -/
namespace Go.Proofs.YtbkkfchcdfhfgadDoor
open Go.RowKit

theorem path_bytes (ls : List (List Int)) (i : Nat) : ∀ x ∈ pathL ls i, Bytes x := by
  by_cases h1 : ls.length ≤ 1
  · rw [pathL_one h1]; intro d hd; cases hd
  · have hs := splitN_spec (n := ls.length) (by omega)
    by_cases hk : i < splitN ls.length
    · rw [pathL_left (by omega) hk]
      have := path_bytes (ls.take (splitN ls.length)) i
      intro d hd
      rcases List.mem_append.1 hd with h | h
      · exact this d h
      · rw [List.mem_singleton.1 h]; exact bytes_mth _
    · rw [pathL_right (by omega) hk]
      have := path_bytes (ls.drop (splitN ls.length)) (i - splitN ls.length)
      intro d hd
      rcases List.mem_append.1 hd with h | h
      · exact this d h
      · rw [List.mem_singleton.1 h]; exact bytes_mth _
termination_by ls.length
decreasing_by
  · rw [List.length_take]; omega
  · rw [List.length_drop]; omega
theorem proof_bytes (ls : List (List Int)) (m : Nat) (whole : Bool) : ∀ x ∈ proofL ls m whole, Bytes x := by
  by_cases hm : m = ls.length
  · subst hm
    cases whole with
    | true => rw [proofL_whole]; intro d hd; cases hd
    | false => rw [proofL_part]; intro d hd; rw [List.mem_singleton.1 hd]; exact bytes_mth _
  · by_cases h1 : ls.length ≤ 1
    · rw [proofL, if_neg hm, dif_pos h1]; intro d hd; cases hd
    · have hs := splitN_spec (n := ls.length) (by omega)
      by_cases hk : m ≤ splitN ls.length
      · rw [proofL_left hm (by omega) hk]
        have := proof_bytes (ls.take (splitN ls.length)) m whole
        intro d hd
        rcases List.mem_append.1 hd with h | h
        · exact this d h
        · rw [List.mem_singleton.1 h]; exact bytes_mth _
      · rw [proofL_right hm (by omega) hk]
        have := proof_bytes (ls.drop (splitN ls.length)) (m - splitN ls.length) false
        intro d hd
        rcases List.mem_append.1 hd with h | h
        · exact this d h
        · rw [List.mem_singleton.1 h]; exact bytes_mth _
termination_by ls.length
decreasing_by
  · rw [List.length_take]; omega
  · rw [List.length_drop]; omega
theorem bytes_mem {L : List (List Int)} (h : ∀ x ∈ L, Bytes x) (j : Nat) : Bytes (L.getD j []) := by
  rw [List.getD_eq_getElem?_getD]
  by_cases hj : j < L.length
  · rw [List.getElem?_eq_getElem hj]; exact h _ (List.getElem_mem hj)
  · rw [List.getElem?_eq_none (by omega)]; exact nil_bytes
theorem digs_short {L : List (List Int)} (h : Digs L) (j : Nat) : (L.getD j []).length ≤ maxLen := short_mem (fun x hx => by rw [h x hx]; unfold maxLen; omega) j
theorem own_nil {w : World} {base : Nat} {e : TypeId} {a : Option Addr} {n c m : Nat} {xs : List Value} (h : w.ownsRow base e 1 (.slice a n c) m xs) (ha : a = none) : n = 0 ∧ c = 0 := by
  subst ha
  rcases h.2 with ⟨h1, -⟩ | ⟨g, cap, cur, h1, -⟩
  · simp at h1; exact h1
  · simp at h1
/-- What a face answers is what a face is given. -/
theorem OwnParts.lists {w : World} {base : Nat} {xa : Option Addr} {xn xc : Nat} {L : List (List Int)} (h : OwnParts w base (.slice xa xn xc) L) (hb : ∀ x ∈ L, Bytes x) (hs : ∀ j, (L.getD j []).length ≤ maxLen) : Lists w xa xn xc L := by
  have hp := h.parts
  obtain ⟨a, c, e, h1, h2⟩ := h.form
  cases e
  obtain ⟨vs, hr, -⟩ := h
  exact ⟨rfl, hp, h1, h2, own_nil hr, bytes_mem hb, hs⟩
theorem own_len {w : World} {base : Nat} {e : TypeId} {a : Option Addr} {n c m : Nat} {xs : List Value} (h : w.ownsRow base e 1 (.slice a n c) m xs) : n = m := by
  obtain ⟨a', c', e'⟩ := own_form' h
  cases e'
  rfl
theorem Lists.take {w : World} {a : Option Addr} {n c k : Nat} {L : List (List Int)} (h : Lists w a n c L) (hk : k ≤ n) (h0 : 0 < n) : Lists w a k c (L.take k) :=
  ⟨by rw [List.length_take]; have := h.len; omega, h.at'.take h.len hk h0 _, by have := h.room; omega, h.cap, fun ha => by have := h.nil ha; omega, take_bytes h.bytes k, take_short h.short k⟩
theorem Lists.get {w : World} {a : Option Addr} {n c : Nat} {L : List (List Int)} (h : Lists w a n c L) (j : Nat) (hj : j < n) : ∃ b off pa pc, a = some ⟨b, off, none⟩ ∧ w.cell? ⟨b, off + j, none⟩ = some (.slice pa (L.getD j []).length pc) ∧ Some' w (.slice pa (L.getD j []).length pc) (L.getD j []) := by
  obtain ⟨a0, c0, e0, hcell⟩ := h.at'.form
  rw [h.len] at e0 hcell
  cases e0
  obtain ⟨b, off, rfl, -, hc⟩ := hcell.resolve_left (by omega)
  obtain ⟨pa, pc, h1, h2⟩ := hc j hj
  exact ⟨b, off, pa, pc, rfl, h1, h2, h.bytes j, h.short j⟩

/-- WHAT STANDS THERE IS SHOWN. -/
theorem stands_path {L : List (List Int)} {i : Nat} (h2 : L.length ≤ 100) (hi : i < L.length) (h200 : (L.getD i []).length ≤ 200) : standsL L.length (mth L) (L.getD i []) i (pathL L i) = true := by
  have hg : goodL (pathL L i) = true := goodL_digs.2 (path_digs L i)
  unfold standsL
  rw [if_neg (by intro h; rcases h with h | h | h | h | h | h <;> first | omega | (rw [hg] at h; cases h)), Int.toNat_natCast, Int.toNat_natCast, up_path L i hi]
  simp
/-- WHAT GREW IS SHOWN. -/
theorem grew_proof {L : List (List Int)} {m : Nat} (h1 : 1 ≤ m) (hm : m ≤ L.length) (h2 : L.length ≤ 100) : grewL m (mth (L.take m)) L.length (mth L) (proofL L m true) = true := by
  have hg : goodL (proofL L m true) = true := goodL_digs.2 (proof_digs L m true)
  have hl := mth_length (L.take m)
  unfold grewL
  rw [if_neg (by intro h; rcases h with h | h | h | h | h <;> first | omega | (rw [hg] at h; cases h)), Int.toNat_natCast, Int.toNat_natCast, two_proof L m true _ h1 hm (fun _ => rfl)]
  simp
theorem wrong_zero {L : List (List Int)} (h1 : L.length ≤ 100) (h2 : ∀ j, (L.getD j []).length ≤ 200) : wrongL L = (0, 0) := by
  unfold wrongL; rw [if_neg (by omega)]; exact wrong_none 0 (fun j _ => h2 j)

/-- The three leaves. -/
def three : List (List Int) := [[1], [2], [3]]
theorem three_wrong : wrongL three = (0, 0) := rfl
theorem three_path : (pathL three 1).length = 2 := by
  have h3 : splitN three.length = 2 := splitN_unique (a := 1) (by decide) (by decide)
  have h2 : splitN (three.take 2).length = 1 := splitN_unique (a := 0) (by decide) (by decide)
  rw [pathL_left (by decide) (by rw [h3]; omega), h3, pathL_right (by decide) (by rw [h2]; omega), h2, pathL_one (by decide)]
  rfl
theorem three_stands : standsL 3 (mth three) [2] 1 (pathL three 1) = true := stands_path (L := three) (i := 1) (by decide) (by decide) (by decide)
theorem three_not : standsL 3 (mth three) [2] 0 ((pathL three 1).take 1) = false := by
  have h3 : splitN 3 = 2 := splitN_unique (a := 1) (by decide) (by decide)
  have hl : ((pathL three 1).take 1).length = 1 := by rw [List.length_take, three_path]; rfl
  have hd : ((pathL three 1).take 1).dropLast.length = 0 := by rw [List.length_dropLast, hl]
  have h : (upL (leafL [2]) 0 3 ((pathL three 1).take 1)).2 = false := by
    rw [upL_left (by omega) (by omega) (by rw [h3]; omega), h3, upL_none (by omega) hd]
  unfold standsL
  split
  · rfl
  · show ((upL (leafL [2]) 0 3 ((pathL three 1).take 1)).2 && _) = false
    rw [h]; rfl

end Go.Proofs.YtbkkfchcdfhfgadDoor

/- Chapter 5's mathematics: manifests, what is laid away, and what is read of it. -/
namespace Go.Proofs.YtbkkfchcdfhfgadDoor

structure Seg where
  first : Int
  count : Int
  packed : List Int
structure Man where
  size : Int
  root : List Int
  segs : List Seg
def seg0 : Seg := ⟨0, 0, []⟩
def man0 : Man := ⟨0, [], []⟩
/-- Segment k of entries. -/
def segK (L : List (List Int)) (k : Nat) : Seg := ⟨((8 * k : Nat) : Int), ((min 8 (L.length - 8 * k) : Nat) : Int), packL (layL ((L.drop (8 * k)).take 8))⟩
def segsN (L : List (List Int)) (n : Nat) : List Seg := (List.range n).map (segK L)
def segsL (L : List (List Int)) : List Seg := segsN L ((L.length + 7) / 8)
theorem segsN_snoc (L : List (List Int)) (n : Nat) : segsN L (n + 1) = segsN L n ++ [segK L n] := by unfold segsN; rw [List.range_succ, List.map_append]; rfl
theorem segsN_length (L : List (List Int)) (n : Nat) : (segsN L n).length = n := by unfold segsN; simp
theorem segsN_get (L : List (List Int)) (n k : Nat) (h : k < n) : (segsN L n).getD k seg0 = segK L k := by
  unfold segsN; rw [List.getD_eq_getElem?_getD, List.getElem?_map, List.getElem?_range h]; rfl
/-- What Export tells. -/
def exportL (L : List (List Int)) : Man := if (wrongL L).1 ≠ 0 then man0 else ⟨L.length, mth L, segsL L⟩
/-- The segment stands where segment k must. -/
def fitB (size k : Int) (s : Seg) : Bool := decide (0 ≤ size ∧ size ≤ 100 ∧ k ≤ 100 ∧ s.first = k * 8 ∧ 1 ≤ s.count ∧ s.count = min 8 (size - s.first))
theorem fitB_iff {size k : Int} {s : Seg} : fitB size k s = true ↔ 0 ≤ size ∧ size ≤ 100 ∧ k ≤ 100 ∧ s.first = k * 8 ∧ 1 ≤ s.count ∧ s.count = min 8 (size - s.first) := by unfold fitB; simp
/-- What a segment's bytes tell. -/
def readSeg (s : Seg) : List (List Int) × Int :=
  if (unpackL s.packed).2 ≠ 0 then ([], (unpackL s.packed).2) else
  match takeL s.count.toNat (unpackL s.packed).1 with
  | none => ([], 2)
  | some l => (l, 0)
/-- What Segment tells. -/
def segmentL (m : Man) (k : Int) : List (List Int) × Int :=
  if k < 0 ∨ (m.segs.length : Int) ≤ k then ([], 6) else
  if fitB m.size k (m.segs.getD k.toNat seg0) = false then ([], 7) else readSeg (m.segs.getD k.toNat seg0)
/-- What Entry tells. -/
def entryL (m : Man) (i : Int) : List Int × Int :=
  if i < 0 ∨ m.size ≤ i then ([], 6) else
  if (segmentL m (i / 8)).2 ≠ 0 then ([], (segmentL m (i / 8)).2) else ((segmentL m (i / 8)).1.getD (i % 8).toNat [], 0)
/-- The entries of the segments ahead of k. -/
def upTo (m : Man) (k : Nat) : List (List Int) := (List.range k).flatMap (fun (j : Nat) => (segmentL m (j : Int)).1)
theorem upTo_zero (m : Man) : upTo m 0 = [] := rfl
theorem upTo_succ (m : Man) (k : Nat) : upTo m (k + 1) = upTo m k ++ (segmentL m (k : Int)).1 := by unfold upTo; rw [List.range_succ, List.flatMap_append]; simp
def manyB (m : Man) : Bool := decide (0 ≤ m.size ∧ m.size ≤ 100 ∧ (m.segs.length : Int) = (m.size + 7) / 8)
/-- The first segment that is not as it must be. -/
def badK (m : Man) : Option Nat := (List.range m.segs.length).find? (fun (k : Nat) => decide ((segmentL m (k : Int)).2 ≠ 0))
/-- What Verify tells. -/
def verifyL (m : Man) : List (List Int) × Int × Int :=
  if manyB m = false then ([], 5, 0) else
  match badK m with
  | some k => ([], (segmentL m (k : Int)).2, (k : Int))
  | none => if mth (upTo m m.segs.length) ≠ m.root then ([], 9, 0) else (upTo m m.segs.length, 0, 0)
theorem find_range {p : Nat → Bool} {n k : Nat} (hk : k < n) (h : p k = true) (hb : ∀ j, j < k → p j = false) : (List.range n).find? p = some k := by
  induction n with
  | zero => omega
  | succ n ih =>
    rw [List.range_succ, List.find?_append]
    by_cases hkn : k < n
    · rw [ih hkn]; rfl
    · obtain rfl : k = n := by omega
      rw [List.find?_eq_none.2 (fun x hx => by have := hb x (List.mem_range.1 hx); simp [this])]
      simp [h]
theorem find_none {p : Nat → Bool} {n : Nat} (hb : ∀ j, j < n → p j = false) : (List.range n).find? p = none :=
  List.find?_eq_none.2 (fun x hx => by have := hb x (List.mem_range.1 hx); simp [this])
theorem verify_many {m : Man} (h : manyB m = false) : verifyL m = ([], 5, 0) := by rw [verifyL, if_pos h]
theorem verify_bad {m : Man} {k : Nat} (h : manyB m = true) (hk : k < m.segs.length) (hb : ∀ j : Nat, j < k → (segmentL m (j : Int)).2 = 0) (he : (segmentL m (k : Int)).2 ≠ 0) : verifyL m = ([], (segmentL m (k : Int)).2, (k : Int)) := by
  have : badK m = some k := find_range hk (decide_eq_true he) (fun j hj => decide_eq_false (fun h => h (hb j hj)))
  rw [verifyL, if_neg (by rw [h]; decide), this]
theorem verify_good {m : Man} (h : manyB m = true) (hb : ∀ j : Nat, j < m.segs.length → (segmentL m (j : Int)).2 = 0) : verifyL m = if mth (upTo m m.segs.length) ≠ m.root then ([], 9, 0) else (upTo m m.segs.length, 0, 0) := by
  have : badK m = none := find_none (fun j hj => decide_eq_false (fun h => h (hb j hj)))
  rw [verifyL, if_neg (by rw [h]; decide), this]
/-- What is verified. -/
theorem verify_spec {m : Man} (h : (verifyL m).2.1 = 0) : verifyL m = (upTo m m.segs.length, 0, 0) ∧ manyB m = true ∧ (∀ j : Nat, j < m.segs.length → (segmentL m (j : Int)).2 = 0) ∧ mth (upTo m m.segs.length) = m.root := by
  by_cases hm : manyB m = true
  · rcases hK : badK m with _ | k
    · have hb : ∀ j : Nat, j < m.segs.length → (segmentL m (j : Int)).2 = 0 := fun j hj => by
        have := List.find?_eq_none.1 hK j (List.mem_range.2 hj)
        simpa using this
      have e := verify_good hm hb
      by_cases hr : mth (upTo m m.segs.length) ≠ m.root
      · rw [e, if_pos hr] at h; exact absurd h (by decide)
      · rw [e, if_neg hr]
        exact ⟨rfl, hm, hb, by simpa using hr⟩
    · have h1 := List.find?_some hK
      rw [verifyL, if_neg (by rw [hm]; decide), hK] at h
      exact absurd h (by simpa using h1)
  · rw [verify_many (by simpa using hm)] at h; exact absurd h (by decide)
theorem verify_err {m : Man} (h : (verifyL m).2.1 ≠ 0) : (verifyL m).1 = [] := by
  unfold verifyL at h ⊢
  by_cases hm : manyB m = false
  · rw [if_pos hm]
  · rw [if_neg hm] at h ⊢
    cases hb : badK m with
    | some k => rfl
    | none =>
      rw [hb] at h
      dsimp only at h ⊢
      by_cases hr : mth (upTo m m.segs.length) ≠ m.root
      · rw [if_pos hr]
      · rw [if_neg hr] at h; exact absurd rfl h
/-- A segment that is read. -/
theorem segment_ok {m : Man} {k : Int} (h : (segmentL m k).2 = 0) : 0 ≤ k ∧ k < m.segs.length ∧ fitB m.size k (m.segs.getD k.toNat seg0) = true ∧ (unpackL (m.segs.getD k.toNat seg0).packed).2 = 0 ∧ takeL (m.segs.getD k.toNat seg0).count.toNat (unpackL (m.segs.getD k.toNat seg0).packed).1 = some (segmentL m k).1 := by
  unfold segmentL at h ⊢
  by_cases h1 : k < 0 ∨ (m.segs.length : Int) ≤ k
  · rw [if_pos h1] at h; exact absurd h (by decide)
  rw [if_neg h1] at h ⊢
  by_cases h2 : fitB m.size k (m.segs.getD k.toNat seg0) = false
  · rw [if_pos h2] at h; exact absurd h (by decide)
  rw [if_neg h2] at h ⊢
  unfold readSeg at h ⊢
  by_cases h3 : (unpackL (m.segs.getD k.toNat seg0).packed).2 ≠ 0
  · rw [if_pos h3] at h; exact absurd h h3
  rw [if_neg h3] at h ⊢
  refine ⟨by omega, by omega, by simpa using h2, by simpa using h3, ?_⟩
  cases h4 : takeL (m.segs.getD k.toNat seg0).count.toNat (unpackL (m.segs.getD k.toNat seg0).packed).1 with
  | none => rw [h4] at h; exact absurd h (by decide)
  | some l => rfl
theorem segment_err {m : Man} {k : Int} (h : (segmentL m k).2 ≠ 0) : (segmentL m k).1 = [] := by
  unfold segmentL at h ⊢
  split
  · rfl
  · rename_i h1
    rw [if_neg h1] at h
    split
    · rfl
    · rename_i h2
      rw [if_neg h2] at h
      unfold readSeg at h ⊢
      split
      · rfl
      · rename_i h3
        rw [if_neg h3] at h
        split
        · rfl
        · rename_i l h4
          rw [h4] at h
          exact absurd rfl h
theorem segment_len {m : Man} {k : Int} (h : (segmentL m k).2 = 0) : ((segmentL m k).1.length : Int) = (m.segs.getD k.toNat seg0).count ∧ ∀ e ∈ (segmentL m k).1, e.length ≤ 200 := by
  obtain ⟨-, -, h3, -, h5⟩ := segment_ok h
  obtain ⟨h6, h7⟩ := takeL_len _ _ _ h5
  have := fitB_iff.1 h3
  exact ⟨by omega, h7⟩
theorem segment_mem (m : Man) (k : Int) : ∀ e ∈ (segmentL m k).1, ∀ x ∈ e, x ∈ (m.segs.getD k.toNat seg0).packed ∨ x = 0 := by
  by_cases h : (segmentL m k).2 = 0
  · obtain ⟨-, -, -, -, h5⟩ := segment_ok h
    intro e he x hx
    exact unpack_mem _ x (takeL_mem _ _ _ h5 e he x hx)
  · rw [segment_err h]; simp
theorem segment_few (m : Man) (k : Int) : (segmentL m k).1.length ≤ 8 ∧ ∀ e ∈ (segmentL m k).1, e.length ≤ 200 := by
  by_cases h : (segmentL m k).2 = 0
  · obtain ⟨h1, h2⟩ := segment_len h
    obtain ⟨-, -, h3, -, -⟩ := segment_ok h
    have := fitB_iff.1 h3
    exact ⟨by omega, h2⟩
  · rw [segment_err h]; simp
/-- How many entries came. -/
theorem upTo_length {m : Man} (hm : manyB m = true) : ∀ k : Nat, k ≤ m.segs.length → (∀ j : Nat, j < k → (segmentL m (j : Int)).2 = 0) → ((upTo m k).length : Int) = min (8 * (k : Int)) m.size
  | 0, _, _ => by unfold manyB at hm; simp at hm; rw [upTo_zero]; simp; omega
  | k + 1, hk, hb => by
    have h1 := upTo_length hm k (by omega) (fun j hj => hb j (by omega))
    obtain ⟨h2, -⟩ := segment_len (hb k (by omega))
    obtain ⟨-, -, h3, -, -⟩ := segment_ok (hb k (by omega))
    have h4 := fitB_iff.1 h3
    unfold manyB at hm
    simp at hm
    rw [upTo_succ, List.length_append]
    omega
theorem upTo_all {m : Man} (h : (verifyL m).2.1 = 0) : ((upTo m m.segs.length).length : Int) = m.size ∧ ∀ k : Nat, k < m.segs.length → (m.segs.getD k seg0).first = (upTo m k).length := by
  obtain ⟨-, hm, hb, -⟩ := verify_spec h
  have hm' := hm
  unfold manyB at hm'
  simp at hm'
  refine ⟨by rw [upTo_length hm _ (Nat.le_refl _) hb]; omega, fun k hk => ?_⟩
  obtain ⟨-, -, h3, -, -⟩ := segment_ok (hb k hk)
  have h4 := fitB_iff.1 h3
  rw [upTo_length hm k (by omega) (fun j hj => hb j (by omega))]
  rw [Int.toNat_natCast] at h4
  omega
theorem upTo_few (m : Man) : ∀ k : Nat, (upTo m k).length ≤ 8 * k ∧ ∀ e ∈ upTo m k, e.length ≤ 200
  | 0 => by rw [upTo_zero]; simp
  | k + 1 => by
    obtain ⟨h1, h2⟩ := upTo_few m k
    obtain ⟨h3, h4⟩ := segment_few m k
    rw [upTo_succ]
    refine ⟨by rw [List.length_append]; omega, fun e he => ?_⟩
    rcases List.mem_append.1 he with he | he
    · exact h2 e he
    · exact h4 e he
theorem verify_few {m : Man} : (verifyL m).1.length ≤ 100 ∧ ∀ e ∈ (verifyL m).1, e.length ≤ 200 := by
  by_cases h : (verifyL m).2.1 = 0
  · obtain ⟨h1, h2, -⟩ := verify_spec h
    have h3 := (upTo_all h).1
    unfold manyB at h2
    simp at h2
    rw [h1]
    exact ⟨by show (upTo m m.segs.length).length ≤ 100; omega, (upTo_few m _).2⟩
  · rw [verify_err h]; simp
theorem upTo_get {m : Man} (h : (verifyL m).2.1 = 0) : ∀ (n i : Nat), n ≤ m.segs.length → i < (upTo m n).length → (upTo m n).getD i [] = (segmentL m ((i / 8 : Nat) : Int)).1.getD (i % 8) []
  | 0, i, _, hi => by rw [upTo_zero] at hi; simp at hi
  | n + 1, i, hn, hi => by
    obtain ⟨-, hm, hb, -⟩ := verify_spec h
    have hl := upTo_length hm n (by omega) (fun j hj => hb j (by omega))
    have hl1 := upTo_length hm (n + 1) hn (fun j hj => hb j (by omega))
    unfold manyB at hm
    simp at hm
    rw [upTo_succ]
    by_cases hlt : i < (upTo m n).length
    · rw [List.getD_eq_getElem?_getD, List.getElem?_append_left hlt, ← List.getD_eq_getElem?_getD]
      exact upTo_get h n i (by omega) hlt
    · have e1 : (upTo m n).length = 8 * n := by omega
      have e2 : i / 8 = n := by omega
      have e3 : i % 8 = i - 8 * n := by omega
      rw [List.getD_eq_getElem?_getD, List.getElem?_append_right (by omega), ← List.getD_eq_getElem?_getD, e1, e2, e3]
/-- Each by itself as all together. -/
theorem entry_verified {m : Man} (h : (verifyL m).2.1 = 0) (i : Int) : entryL m i = if i < 0 ∨ ((upTo m m.segs.length).length : Int) ≤ i then ([], 6) else ((upTo m m.segs.length).getD i.toNat [], 0) := by
  have hl := (upTo_all h).1
  obtain ⟨-, hm, hb, -⟩ := verify_spec h
  unfold entryL
  rw [hl]
  by_cases hi : i < 0 ∨ m.size ≤ i
  · rw [if_pos hi, if_pos hi]
  · rw [if_neg hi, if_neg hi]
    unfold manyB at hm
    simp at hm
    obtain ⟨j, rfl⟩ : ∃ j : Nat, i = (j : Int) := ⟨i.toNat, by omega⟩
    have h8 : ((j : Int) / 8) = ((j / 8 : Nat) : Int) := by omega
    have hs := hb (j / 8) (by omega)
    rw [h8, if_neg (by rw [hs]; decide), upTo_get h _ _ (Nat.le_refl _) (by omega)]
    congr 2

/-- What is laid away is there. -/
theorem short_part {L : List (List Int)} (h : ∀ e ∈ L, e.length ≤ 200) (k : Nat) : ∀ e ∈ (L.drop (8 * k)).take 8, e.length ≤ 200 := fun e he => h e (List.mem_of_mem_drop (List.mem_of_mem_take he))
theorem lay_part {L : List (List Int)} (h : ∀ e ∈ L, e.length ≤ 200) (k : Nat) : (layL ((L.drop (8 * k)).take 8)).length ≤ 4000 := by
  have h1 := layL_length _ (short_part h k)
  have h2 : ((L.drop (8 * k)).take 8).length ≤ 8 := by rw [List.length_take]; omega
  omega
theorem readSeg_k {L : List (List Int)} (h : ∀ e ∈ L, e.length ≤ 200) (k : Nat) : readSeg (segK L k) = ((L.drop (8 * k)).take 8, 0) := by
  have hu := unpack_pack (lay_part h k)
  have hl : ((L.drop (8 * k)).take 8).length = min 8 (L.length - 8 * k) := by rw [List.length_take, List.length_drop]
  unfold readSeg segK
  dsimp only
  rw [hu, if_neg (by simp)]
  dsimp only
  rw [Int.toNat_natCast, ← hl, takeL_lay _ (short_part h k)]
theorem segment_export {L : List (List Int)} (h1 : L.length ≤ 100) (h : ∀ e ∈ L, e.length ≤ 200) {k : Nat} (hk : k < (L.length + 7) / 8) : segmentL ⟨L.length, mth L, segsL L⟩ (k : Int) = ((L.drop (8 * k)).take 8, 0) := by
  unfold segmentL segsL
  dsimp only
  rw [segsN_length, if_neg (by omega), Int.toNat_natCast, segsN_get _ _ _ hk, if_neg, readSeg_k h k]
  rw [Bool.not_eq_false, fitB_iff]
  unfold segK
  dsimp only
  omega
theorem upTo_export {L : List (List Int)} (h1 : L.length ≤ 100) (h : ∀ e ∈ L, e.length ≤ 200) : ∀ k : Nat, k ≤ (L.length + 7) / 8 → upTo ⟨L.length, mth L, segsL L⟩ k = L.take (8 * k)
  | 0, _ => by rw [upTo_zero]; simp
  | k + 1, hk => by rw [upTo_succ, upTo_export h1 h k (by omega), segment_export h1 h (by omega), Nat.mul_add, List.take_add]
theorem verify_export {L : List (List Int)} (h1 : L.length ≤ 100) (h : ∀ e ∈ L, e.length ≤ 200) : verifyL ⟨L.length, mth L, segsL L⟩ = (L, 0, 0) := by
  have hlen : (segsL L).length = (L.length + 7) / 8 := segsN_length _ _
  have hu := upTo_export h1 h ((L.length + 7) / 8) (Nat.le_refl _)
  rw [List.take_of_length_le (by omega)] at hu
  rw [verify_good]
  · dsimp only
    rw [hlen, hu, if_neg (by simp)]
  · unfold manyB
    dsimp only
    rw [hlen]
    exact decide_eq_true (by omega)
  · intro j hj
    dsimp only at hj
    rw [hlen] at hj
    rw [segment_export h1 h hj]
theorem entry_export {L : List (List Int)} (h1 : L.length ≤ 100) (h : ∀ e ∈ L, e.length ≤ 200) {i : Nat} (hi : i < L.length) : entryL ⟨L.length, mth L, segsL L⟩ (i : Int) = (L.getD i [], 0) := by
  have hv := verify_export h1 h
  have hz : (verifyL ⟨L.length, mth L, segsL L⟩).2.1 = 0 := by rw [hv]
  have hu : upTo ⟨L.length, mth L, segsL L⟩ (segsL L).length = L := by
    have := (verify_spec hz).1
    rw [hv] at this
    exact (congrArg Prod.fst this).symm
  rw [entry_verified hz, hu, if_neg (by omega), Int.toNat_natCast]

end Go.Proofs.YtbkkfchcdfhfgadDoor

/- Variables as blocks of memory: what they hold, and what becomes of them. Nothing of the program is in it. -/
namespace Go.Proofs.YtbkkfchcdfhfgadDoor
open Go.RowKit

theorem lt_heap {w : World} {k : Nat} {o : Obj} (h : w.heap[k]? = some o) : k < w.heap.size := by
  rcases Nat.lt_or_ge k w.heap.size with h' | h'
  · exact h'
  · rw [Array.getElem?_eq_none h'] at h; cases h
theorem box_new (w : World) (c : Array Value) (t : TypeId) : (w.alloc (.cells c t)).heap[w.heap.size]? = some (.cells c t (0, 0)) := heap_alloc_new w _
theorem box_old (w : World) (o : Obj) {k : Nat} {x : Obj} (h : w.heap[k]? = some x) : (w.alloc o).heap[k]? = some x := by
  have := ((Below.refl w.heap.size w).alloc (Nat.le_refl _) o).block k (lt_heap h)
  rw [this]; exact h
theorem box_one (w : World) (c : Array Value) (t : TypeId) (o : Obj) : ((w.alloc (.cells c t)).alloc o).heap[w.heap.size]? = some (.cells c t (0, 0)) := box_old _ _ (box_new _ _ _)
theorem box_last (w : World) (o : Obj) (c : Array Value) (t : TypeId) : ((w.alloc o).alloc (.cells c t)).heap[w.heap.size + 1]? = some (.cells c t (0, 0)) := by
  have := box_new (w.alloc o) c t
  rwa [World.size_alloc] at this
theorem box_below {B k : Nat} {w w' : World} {x : Obj} (h : w.heap[k]? = some x) (hb : Below B w w') (hk : k < B) : w'.heap[k]? = some x := by rw [hb.block k hk]; exact h
theorem box_kept {k : Nat} {w w' : World} {x : Obj} (h : w.heap[k]? = some x) (hb : Below w.heap.size w w') : w'.heap[k]? = some x := box_below h hb (lt_heap h)
/-- What a variable of two cells holds. -/
theorem box_two {w : World} {k : Nat} {u v : Value} {t : TypeId} (h : w.heap[k]? = some (.cells #[u, v] t (0, 0))) :
    w.cell? ⟨k, 0, none⟩ = some u ∧ w.cell? ⟨k, 1, none⟩ = some v ∧ w.frozen? ⟨k, 0, none⟩ = false ∧ w.frozen? ⟨k, 1, none⟩ = false :=
  ⟨cell_of_row w k 0 _ t _ h, cell_of_row w k 1 _ t _ h, frozen_of_row w k 0 _ t h, frozen_of_row w k 1 _ t h⟩
theorem box_cell {w : World} {k : Nat} {u : Value} {t : TypeId} (h : w.heap[k]? = some (.cells #[u] t (0, 0))) : w.cell? ⟨k, 0, none⟩ = some u ∧ w.frozen? ⟨k, 0, none⟩ = false := ⟨cell_of_one h, free_of_one h⟩
theorem box_set {w : World} {k : Nat} {u v : Value} {t : TypeId} (h : w.heap[k]? = some (.cells #[u] t (0, 0))) : (w.setCell ⟨k, 0, none⟩ v).heap[k]? = some (.cells #[v] t (0, 0)) := one_setCell h
theorem box_set_far {w : World} {k j o : Nat} {v : Value} {x : Obj} (h : w.heap[k]? = some x) (hj : k ≠ j) : (w.setCell ⟨j, o, none⟩ v).heap[k]? = some x := by rw [heap_setCell_other w ⟨j, o, none⟩ k v hj]; exact h
theorem box_drew {w : World} {k : Nat} {x : Obj} (h : w.heap[k]? = some x) : w.drew.heap[k]? = some x := h
/-- A row of the call's own has grown: variables of other types are as they were. -/
theorem own_box {w : World} {base k n : Nat} {e t : TypeId} {v : Value} {xs : List Value} {c : Array Value} (ho : w.ownsRow base e 1 v n xs) (hk : w.heap[k]? = some (.cells c t (0, 0))) (ht : t ≠ e) : v.ownBlock ≠ some k := fun h => by
  rcases ho.2 with ⟨rfl, -⟩ | ⟨g, cap, cur, rfl, -, hh, -⟩
  · cases h
  · cases h
    rw [hh] at hk
    cases hk
    exact ht rfl
theorem grown_box {w w' : World} {base k n : Nat} {e t : TypeId} {v : Value} {xs : List Value} {c : Array Value} (hg : w.grownBy w' v.ownBlock) (ho : w.ownsRow base e 1 v n xs) (hk : w.heap[k]? = some (.cells c t (0, 0))) (ht : t ≠ e) : w'.heap[k]? = some (.cells c t (0, 0)) := by
  rw [hg.block k (lt_heap hk) (fun h => own_box ho hk ht h.symm)]; exact hk
theorem own_set {w : World} {base k n : Nat} {e t : TypeId} {v : Value} {xs : List Value} {c : Array Value} (ho : w.ownsRow base e 1 v n xs) (hk : w.heap[k]? = some (.cells c t (0, 0))) (ht : t ≠ e) (u : Value) : (w.setCell ⟨k, 0, none⟩ u).ownsRow base e 1 v n xs :=
  ownsRow_setCell_other ho (a := ⟨k, 0, none⟩) (own_box ho hk ht) u

end Go.Proofs.YtbkkfchcdfhfgadDoor
