/- ShelfMem, BookGoRec, BookRefRow, BookRefRows, ClashGoConcat, as one text. -/
import Derived.Test.YtkjlchfmplcobafGreatDoorProg
import Derived.Test.YtkjlchfmplcobafGreatDoorRunAA
import Derived.WalkKit
import Derived.WalkSpells
import Derived.WalkLawsBesides
import Derived.Test.YtkjlchfmplcobafGreatDoorRunAG
import Derived.Deep.RegionHeld3
import Derived.BigRegion
import Derived.Test.YtkjlchfmplcobafGreatDoorRunAB
import Derived.Lib.AppendZerosOnto
/- Variables that are set, and lists that lie elsewhere. -/
namespace Go.Proofs.YtkjlchfmplcobafGreatDoor
open Go.RowKit

/-- Setting a variable that is no row of bytes, nor of slices of them. -/
theorem Laid.set {w : World} {a : Option Addr} {n c k o : Nat} {L : List (List Int)} {cs : Array Value} {t : TypeId} {mk : Nat × Nat} (h : Laid w a n c L) (hk : w.heap[k]? = some (.cells cs t mk)) (h1 : 5 ≠ t) (h2 : n ≠ 0 → ∀ g off, a = some ⟨g, off, none⟩ → g ≠ k) (u : Value) : Laid (w.setCell ⟨k, o, none⟩ u) a n c L := by
  obtain ⟨hl, vs, he, hc⟩ := h
  have hB : ∀ y d, ByteEl w y d → ByteEl (w.setCell ⟨k, o, none⟩ u) y d := fun y d hy => hy.same (fun g cur mk' hg => by
    rw [heap_setCell_other w ⟨k, o, none⟩ g u (fun e => ?_)]
    have e : g = k := e
    subst e
    rw [hg] at hk
    cases hk
    exact h1 rfl)
  have he' : Els (w.setCell ⟨k, o, none⟩ u) vs L := ⟨he.1, fun j hj => by obtain ⟨y, q1, q2⟩ := he.2 j hj; exact ⟨y, q1, hB _ _ q2⟩⟩
  have hcell : n ≠ 0 → ∀ b off, a = some ⟨b, off, none⟩ → ∀ j, (w.setCell ⟨k, o, none⟩ u).cell? ⟨b, off + j, none⟩ = w.cell? ⟨b, off + j, none⟩ := fun hn b off ha j => World.cell?_setCell_far _ _ _ _ (show k ≠ b from fun e => h2 hn b off ha e.symm)
  refine ⟨⟨hl.len, ?_, hl.room, hl.cap, hl.nil, hl.bytes, hl.short⟩, vs, he', fun ad ha j v hv => ?_⟩
  · rcases hl.at' with h | ⟨b, off, cp, e, hb, hp⟩
    · exact .inl h
    · cases e
      refine .inr ⟨b, off, c, rfl, by simpa using hb, fun j hj => ?_⟩
      obtain ⟨y, q1, q2⟩ := he'.2 j hj
      obtain ⟨ya, yc, rfl⟩ := q2.bytes.form
      refine ⟨ya, _, yc, ?_, q2.bytes⟩
      rw [hcell (by have := hl.len; omega) b off rfl]
      have := hc _ rfl j _ q1
      have e2 : (⟨b, off, none⟩ : Addr).add j = ⟨b, off + j, none⟩ := Addr.add_mid _ _ _
      rwa [e2] at this
  · have h3 := hc ad ha j v hv
    rcases hl.at' with ⟨rfl, -⟩ | ⟨b, off, cp, e, hb, hp⟩
    · have := (List.getElem?_eq_some_iff.1 hv).1
      rw [he.1] at this
      simp at this
    · cases e
      cases ha
      have e2 : (⟨b, off, none⟩ : Addr).add j = ⟨b, off + j, none⟩ := Addr.add_mid _ _ _
      rw [e2] at h3 ⊢
      rw [hcell (by have h4 := (List.getElem?_eq_some_iff.1 hv).1; rw [he.1, hl.len] at h4; omega) b off rfl]
      exact h3
end Go.Proofs.YtkjlchfmplcobafGreatDoor

/- The walks of inRange, Wrong, putTime and timeOf: package book as it landed. -/
namespace Go.Proofs.YtkjlchfmplcobafGreatDoor
open Go.RowKit

/-- Whether each number of a record is one that it may have. -/
def inR (r : Rec) : Bool := decide (¬ (r.shard < 0 ∨ 7 < r.shard ∨ r.from' < 0 ∨ r.to' ≤ r.from' ∨ 1000000 < r.to' ∨ r.size < 0 ∨ 100 < r.size))
set_option maxRecDepth 100000 in
set_option maxHeartbeats 2000000 in
theorem inRange_any (r : Rec) (v : Value) (w : World) (h : RecV w v r) :
    Calls Tryz.prog 86 #[v] w fun e w' => e = .returned (.bool (inR r)) ∧ Below w.heap.size w w' := by
  obtain ⟨ra, rc, rfl, hr⟩ := h
  obtain ⟨s, f, t, z, root⟩ := r
  dsimp only at hr ⊢
  have b0 : Below w.heap.size w (w.alloc (.cells #[.int .i64 s, .int .i64 f, .int .i64 t, .int .i64 z, .slice ra root.length rc] 51)) := (Below.refl _ _).alloc (Nat.le_refl _) _
  obtain ⟨x0, x1, x2, x3, x4⟩ := box_five (box_new w #[.int .i64 s, .int .i64 f, .int .i64 t, .int .i64 z, .slice ra root.length rc] 51)
  by_cases hw : s < 0 ∨ 7 < s ∨ f < 0 ∨ t ≤ f ∨ 1000000 < t ∨ z < 0 ∨ 100 < z
  · have HE : Hid (inR ⟨s, f, t, z, root⟩ = false) := by show _ = _; unfold inR; exact decide_eq_false (fun h => h hw)
    have hc : ¬ 0 ≤ s ∨ (0 ≤ s ∧ ¬ s < 8) ∨ (0 ≤ s ∧ s < 8 ∧ ¬ 0 ≤ f) ∨ (0 ≤ s ∧ s < 8 ∧ 0 ≤ f ∧ ¬ f < t) ∨ (0 ≤ s ∧ s < 8 ∧ 0 ≤ f ∧ f < t ∧ ¬ t ≤ 1000000) ∨ (0 ≤ s ∧ s < 8 ∧ 0 ≤ f ∧ f < t ∧ t ≤ 1000000 ∧ ¬ 0 ≤ z) ∨ (0 ≤ s ∧ s < 8 ∧ 0 ≤ f ∧ f < t ∧ t ≤ 1000000 ∧ 0 ≤ z ∧ ¬ z ≤ 100) := by omega
    clear hw hr
    generalize root.length = n at *
    rcases hc with q1 | ⟨q1, q2⟩ | ⟨q1, q2, q3⟩ | ⟨q1, q2, q3, q4⟩ | ⟨q1, q2, q3, q4, q5⟩ | ⟨q1, q2, q3, q4, q5, q6⟩ | ⟨q1, q2, q3, q4, q5, q6, q7⟩
    all_goals
      go_enter Tryz.func86, Tryz.ntmps86
      go_wp2_with fail
      go_ret
      exact ⟨by rw [HE.out]; rfl, b0⟩
  · have HE : Hid (inR ⟨s, f, t, z, root⟩ = true) := by show _ = _; unfold inR; exact decide_eq_true hw
    have q1 : 0 ≤ s := by omega
    have q2 : s < 8 := by omega
    have q3 : 0 ≤ f := by omega
    have q4 : f < t := by omega
    have q5 : t ≤ 1000000 := by omega
    have q6 : 0 ≤ z := by omega
    have q7 : z ≤ 100 := by omega
    clear hw hr
    generalize root.length = n at *
    go_enter Tryz.func86, Tryz.ntmps86
    go_wp2_with fail
    go_ret
    exact ⟨by rw [HE.out]; rfl, b0⟩
theorem wrong_inR (r : Rec) : wrongRec r = if inR r = true then (if r.root.length ≠ 32 then 2 else 0) else 3 := by
  unfold wrongRec inR
  by_cases h : r.shard < 0 ∨ 7 < r.shard ∨ r.from' < 0 ∨ r.to' ≤ r.from' ∨ 1000000 < r.to' ∨ r.size < 0 ∨ 100 < r.size
  · rw [if_pos h, decide_eq_false (fun g => g h), if_neg (by decide)]
  · rw [if_neg h, decide_eq_true h, if_pos rfl]
set_option maxRecDepth 100000 in
set_option maxHeartbeats 2000000 in
theorem recWrongC_holds : RecWrongC := fun r v w h => by
  have cI := fun w' (hb : Below w.heap.size w w') => inRange_any r v w' (h.below hb)
  have HW : Hid (wrongRec r = if inR r = true then (if r.root.length ≠ 32 then 2 else 0) else 3) := wrong_inR r
  obtain ⟨ra, rc, rfl, hr⟩ := h
  have hsh := hr.short
  unfold maxLen at hsh
  have b0 : Below w.heap.size w (w.alloc (.cells #[.int .i64 r.shard, .int .i64 r.from', .int .i64 r.to', .int .i64 r.size, .slice ra r.root.length rc] 51)) := (Below.refl _ _).alloc (Nat.le_refl _) _
  have x0 := box_new w #[.int .i64 r.shard, .int .i64 r.from', .int .i64 r.to', .int .i64 r.size, .slice ra r.root.length rc] 51
  have cI0 := cI _ b0
  clear cI hr
  generalize wrongRec r = er at *
  generalize inR r = ok at *
  generalize r.root.length = n at *
  generalize r.shard = s at *
  generalize r.from' = f at *
  generalize r.to' = t at *
  generalize r.size = z at *
  obtain ⟨s0, s1, s2, s3, s4⟩ := box_five x0
  go_enter Tryz.func56, Tryz.ntmps56
  go_wp2_with fail
  generalize w.alloc (.cells #[.int .i64 s, .int .i64 f, .int .i64 t, .int .i64 z, .slice ra n rc] 51) = w0 at *
  refine cI0.mono ?_
  rintro e w1 ⟨rfl, hb1⟩
  have b1 := b0.trans (hb1.mono b0.size)
  obtain ⟨u0, u1, u2, u3, u4⟩ := box_five (box_kept x0 hb1)
  clear s0 s1 s2 s3 s4 cI0
  cases ok
  · go_wp2_with fail
    go_ret
    exact ⟨by rw [HW.out]; rfl, b1⟩
  · by_cases h32 : n = 32
    · subst h32
      go_wp2_with fail
      go_ret
      exact ⟨by rw [HW.out]; rfl, b1⟩
    · have h32' : ((n : Int) != 32) = true := by simp; omega
      have HN : Hid (n ≠ 32) := h32
      clear h32
      go_wp2_with fail
      go_ret
      exact ⟨by rw [HW.out, if_pos trivial, if_pos HN.out]; rfl, b1⟩
/-- A row with three bytes written. -/
def putL (xs : List Value) (o : Nat) (t : Int) (k : Nat) : List Value :=
  match k with
  | 0 => xs
  | 1 => xs.set (o + 2) (.int .u8 (t % 256))
  | 2 => (xs.set (o + 2) (.int .u8 (t % 256))).set (o + 1) (.int .u8 (t / 256 % 256))
  | _ => ((xs.set (o + 2) (.int .u8 (t % 256))).set (o + 1) (.int .u8 (t / 256 % 256))).set o (.int .u8 (t / 65536))
/-- Where putTime stands. -/
def PutAt (xs : List Value) (o : Nat) (t : Int) (iv tv : Value) (ys : List Value) : Prop :=
  (iv = .int .i64 2 ∧ tv = .int .i64 t ∧ ys = putL xs o t 0) ∨ (iv = .int .i64 1 ∧ tv = .int .i64 (t / 256) ∧ ys = putL xs o t 1) ∨ (iv = .int .i64 0 ∧ tv = .int .i64 (t / 65536) ∧ ys = putL xs o t 2) ∨ (iv = .int .i64 (-1) ∧ tv = .int .i64 (t / 16777216) ∧ ys = putL xs o t 3)
set_option maxRecDepth 100000 in
set_option maxHeartbeats 2000000 in
theorem putTime_any (base g o n c0 c : Nat) (t : Int) (xs : List Value) (w : World) (ho : o + 3 ≤ n) (ht0 : 0 ≤ t) (ht : t < 16777216) (hrow : w.ownsRow base 5 1 (.slice (some ⟨g, 0, none⟩) n c0) n xs) :
    Calls Tryz.prog 57 #[.slice (some ⟨g, o, none⟩) 3 c, .int .i64 t] w fun e w' => e = .returned (.tuple #[]) ∧ w'.ownsRow base 5 1 (.slice (some ⟨g, 0, none⟩) n c0) n (putL xs o t 3) ∧ w.grownBy w' (some g) := by
  go_enter Tryz.func57, Tryz.ntmps57
  go_wp2_with fail
  go_loopw [4, 1] (fun iv tv wr => ∃ ys, PutAt xs o t iv tv ys ∧ wr.ownsRow base 5 1 (.slice (some ⟨g, 0, none⟩) n c0) n ys ∧ w.grownBy wr (some g)) (fun iv _ _ => (intOf iv + 1).toNat)
  case atStart => exact ⟨xs, .inl ⟨rfl, rfl, rfl⟩, hrow, World.grownBy.refl _ _⟩
  case round =>
    obtain ⟨ys, hP, hr, hg⟩ := hrel
    clear hrow
    have f0 := hr.frozenAt (o + 2)
    have f1 := hr.frozenAt (o + 1)
    have f2 := hr.frozenAt o
    have hl : ys.length = n := by simpa using hr.1
    obtain ⟨v0, k0⟩ : ∃ v, wr.cell? ⟨g, o + 2, none⟩ = some v := ⟨_, (hr.cellAt (o + 2) (by omega)).trans (List.getElem?_eq_getElem (by omega))⟩
    obtain ⟨v1, k1⟩ : ∃ v, wr.cell? ⟨g, o + 1, none⟩ = some v := ⟨_, (hr.cellAt (o + 1) (by omega)).trans (List.getElem?_eq_getElem (by omega))⟩
    obtain ⟨v2, k2⟩ : ∃ v, wr.cell? ⟨g, o, none⟩ = some v := ⟨_, (hr.cellAt o (by omega)).trans (List.getElem?_eq_getElem (by omega))⟩
    clear hl
    rcases hP with ⟨rfl, rfl, HY⟩ | ⟨rfl, rfl, HY⟩ | ⟨rfl, rfl, HY⟩ | ⟨rfl, rfl, HY⟩
    · have hs := hr.stored (o + 2) (.int .u8 (t % 256))
      have hg2 := hg.trans hs.2
      have hs1 := hs.1
      have HH : Hid (ys.set (o + 2) (.int .u8 (t % 256)) = putL xs o t 1) := by show _ = _; rw [HY]; rfl
      have HYh : Hid (ys = putL xs o t 0) := HY
      clear HY hs
      go_wp2_with fail
      go_roundw
      case rel => exact ⟨_, .inr (.inl ⟨rfl, rfl, HH.out⟩), hs1, hg2⟩
      case measure => simp [intOf]
    · have hs := hr.stored (o + 1) (.int .u8 ((t / 256) % 256))
      have hg2 := hg.trans hs.2
      have hs1 := hs.1
      have HH : Hid (ys.set (o + 1) (.int .u8 ((t / 256) % 256)) = putL xs o t 2) := by show _ = _; rw [HY]; rfl
      have HYh : Hid (ys = putL xs o t 1) := HY
      clear HY hs
      go_wp2_with fail
      go_roundw
      case rel => exact ⟨_, .inr (.inr (.inl ⟨rfl, by congr 1; omega, HH.out⟩)), hs1, hg2⟩
      case measure => simp [intOf]
    · have hs := hr.stored (o) (.int .u8 (t / 65536))
      have hg2 := hg.trans hs.2
      have hs1 := hs.1
      have HH : Hid (ys.set (o) (.int .u8 (t / 65536)) = putL xs o t 3) := by show _ = _; rw [HY]; rfl
      have HYh : Hid (ys = putL xs o t 2) := HY
      clear HY hs
      go_wp2_with fail
      go_roundw
      case rel => exact ⟨_, .inr (.inr (.inr ⟨rfl, by congr 1; omega, HH.out⟩)), hs1, hg2⟩
      case measure => simp [intOf]
    · go_wp2_with fail
      go_end0
      exact ⟨rfl, by rw [← HY]; exact hr, hg⟩

end Go.Proofs.YtkjlchfmplcobafGreatDoor

/- The walk of yearref5.Row. -/
namespace Go.Proofs.YtkjlchfmplcobafGreatDoor
open Go.RowKit

theorem bytesAt_news {w : World} {ad : Addr} {n c : Nat} {zs : List Int} (h : BytesAt w (.slice (some ad) n c) zs) : ∀ j u, (zs.map (Value.int .u8))[j]? = some u → w.cell? (ad.add j) = some u := by
  obtain ⟨-, h | ⟨a, e, h⟩⟩ := h.src
  · cases h.1
  · cases e; exact h
end Go.Proofs.YtkjlchfmplcobafGreatDoor

/- The walk of yearref5.Rows. -/
namespace Go.Proofs.YtkjlchfmplcobafGreatDoor
open Go.RowKit

theorem refRows_snoc {l : List Rec} {k : Nat} (hk : k < l.length) : (rowsOf l).take (k + 1) = (rowsOf l).take k ++ [rowL (l.getD k rec0)] := by
  have h := rows_length l
  rw [List.take_succ_eq_append_getElem (by omega)]
  congr 2
  have := rows_get hk
  rwa [List.getD_eq_getElem?_getD, List.getElem?_eq_getElem (by omega)] at this
theorem OwnParts.far {w : World} {base k o : Nat} {v : Value} {L : List (List Int)} {c : Array Value} {t : TypeId} (h : OwnParts w base v L) (hk : w.heap[k]? = some (.cells c t (0, 0))) (h1 : t ≠ 5) (h2 : t ≠ 35) (u : Value) : OwnParts (w.setCell ⟨k, o, none⟩ u) base v L := by
  obtain ⟨vs, hr, he⟩ := h
  refine ⟨vs, ownsRow_setCell_other hr (a := ⟨k, o, none⟩) (own_box hr hk h2) u, fun j hj => ?_⟩
  obtain ⟨y, q1, q2⟩ := he j hj
  exact ⟨y, q1, ownsRow_setCell_other q2 (a := ⟨k, o, none⟩) (own_box q2 hk h1) u⟩
end Go.Proofs.YtkjlchfmplcobafGreatDoor

/- The walks of slices.Grow and slices.Concat at bytes, of leafText and nodeText. -/
namespace Go.Proofs.YtkjlchfmplcobafGreatDoor
open Go.RowKit

set_option maxRecDepth 100000 in
set_option maxHeartbeats 2000000 in
theorem grow_any (n : Nat) (w : World) (h0 : 0 < n) (hn : n ≤ 1000000) :
    Calls Tryz.prog 123 #[.slice none 0 0, .int .i64 n] w fun e w' => ∃ g c, e = .returned (.slice (some ⟨g, 0, none⟩) 0 c) ∧ w'.ownsRow w.heap.size 5 1 (.slice (some ⟨g, 0, none⟩) 0 c) 0 [] ∧ Below w.heap.size w w' := by
  obtain ⟨i0, hi0, hz0, hz1, hz2⟩ := info_parts Tryz.info5b
  have hG := grownCap_ge w n 0 5
  have hG2 := grownCap_le_maxLen w n 0 5 (by unfold maxLen; omega)
  have hrz : ∀ ty, (Builtin.append_ #[35, 3] ty #[.slice none 0 0, .int .i64 (n : Int)]).run Tryz.prog w =
      .ok (.slice (some ⟨w.heap.size, 0, none⟩) n (grownCap w n 0 5)) (w.drew.alloc (.cells (Builtin.zeroCells (Value.int .u8 0).cells n ++ Builtin.zeroCells (Value.int .u8 0).cells (grownCap w n 0 5 - n)) 5)) := fun ty => by
    have h := Lib.run_append_grow_zeros w 35 3 ty 5 i0 (.int .u8 0) .i64 .i64 Tryz.underlying35 Tryz.underlying3 hi0 hz0 none 0 0 [] (run_firstCells_none w.drew i0.size 0 0 0) n h0 (by rw [hz1]; decide) (by omega) (by omega) (by rw [hz2]; omega) (growslice_fits (by omega) (by rw [hz2]; omega))
    simpa using h
  have hsz : (Builtin.zeroCells (Value.int .u8 0).cells n ++ Builtin.zeroCells (Value.int .u8 0).cells (grownCap w n 0 5 - n)).size = grownCap w n 0 5 := by
    have hc1 : (Value.int IntKind.u8 0).cells.size = 1 := by kernel_rfl
    simp [Builtin.zeroCells, hc1]
    omega
  generalize (Builtin.zeroCells (Value.int .u8 0).cells n ++ Builtin.zeroCells (Value.int .u8 0).cells (grownCap w n 0 5 - n)) = cs at *
  generalize grownCap w n 0 5 = G at *
  have hbW : Below w.heap.size w (w.drew.alloc (.cells cs 5)) := (Below.refl _ _).drew.alloc (Nat.le_refl _) _
  have hown : (w.drew.alloc (.cells cs 5)).ownsRow w.heap.size 5 1 (.slice (some ⟨w.heap.size, 0, none⟩) 0 G) 0 [] :=
    ⟨rfl, .inr ⟨w.heap.size, G, cs, rfl, Nat.le_refl _, box_new w.drew cs 5, Nat.zero_le _, hG2, by omega, by simp⟩⟩
  unfold maxLen at hG2
  have h1 : ¬ ((n : Int) < 0) := by omega
  have h4 : (n : Int) > 0 := by omega
  go_enter Tryz.func123, Tryz.ntmps123
  go_wp2_with (at_builtin; refine Lib.wpList_append_run _ rfl _ _ _ _ rfl _ _ rfl rfl _ _ (hrz _) ?_)
  all_goals (go_ret; exact ⟨_, _, rfl, hown, hbW⟩)

set_option maxRecDepth 100000 in
set_option maxHeartbeats 2000000 in
theorem concat_any (L : List (List Int)) (a : Option Addr) (n c : Nat) (w : World) (hv : PartsAt w (.slice a n c) L) (hl : L.length = n) (hn : n ≤ 1000) (h0 : 0 < L.flatten.length) (hm : L.flatten.length ≤ 1000000) :
    Calls Tryz.prog 110 #[.slice a n c] w fun e w' => ∃ x, e = .returned x ∧ w'.ownsRow w.heap.size 5 1 x L.flatten.length (L.flatten.map (Value.int .u8)) ∧ Below w.heap.size w w' := by
  obtain ⟨i0, hi0, hz0, hz1, hz2⟩ := info_parts Tryz.info5b
  have HL : Hid (L.length = n) := hl
  obtain ⟨a0, c0, e0, hcell⟩ := hv.form
  rw [hl] at e0 hcell
  cases e0
  clear hv hl
  go_enter Tryz.func110, Tryz.ntmps110
  go_wp2_with fail
  go_loopw [3, 11] (fun s i wr => w = wr ∧ ∃ k : Nat, k ≤ n ∧ i = .int .i64 k ∧ s = .int .i64 ((L.take k).flatten.length : Int)) (fun _ i _ => n - (intOf i).toNat)
  case atStart => exact ⟨rfl, 0, Nat.zero_le _, rfl, rfl⟩
  case round =>
    obtain ⟨rfl, k, hk, rfl, rfl⟩ := hrel
    have hfl := flat_le L k
    by_cases hlt : k < n
    · obtain ⟨b, off, rfl, hb, hc⟩ := hcell.resolve_left (by omega)
      obtain ⟨pa, pc, hcj, hB⟩ := hc k hlt
      have HF : Hid ((L.take (k + 1)).flatten.length = (L.take k).flatten.length + (L.getD k []).length) := by
        show _ = _
        rw [flat_take L k (by rw [HL.out]; exact hlt), List.length_append]
      have hfl2 := flat_le L (k + 1)
      rw [HF.out] at hfl2
      generalize (L.take k).flatten.length = s at *
      generalize (L.getD k []).length = d at *
      clear hB hc
      go_wp2_with fail
      go_roundw
      case rel => exact ⟨trivial, k + 1, by omega, by go_num, by rw [HF.out]; go_num⟩
      case measure => simp [intOf]; omega
    · obtain rfl : k = n := by omega
      have e : L.take k = L := List.take_of_length_le (by rw [HL.out]; exact Nat.le_refl _)
      rw [e]
      have hG := fun w' => grow_any L.flatten.length w' h0 hm
      have h3 : ∀ j, (L.take j).flatten.length ≤ L.flatten.length := flat_le L
      have h4 : ∀ j, j < k → (L.take j).flatten.length + (L.getD j []).length ≤ L.flatten.length := fun j hj => part_le L j (by rw [HL.out]; exact hj)
      have HE : Hid (L.take k = L) := e
      clear e hfl
      generalize hF : L.flatten.length = F at *
      have HF0 : Hid (L.flatten.length = F) := hF
      clear hF
      go_wp2_with fail
      refine (hG _).mono ?_
      rintro e w1 ⟨g, gc, rfl, ho, hb1⟩
      clear hG
      have hcell1 : k = 0 ∨ ∃ b off, a = some ⟨b, off, none⟩ ∧ b < w.heap.size ∧ ∀ j, j < k → ∃ pa pc, w.cell? ⟨b, off + j, none⟩ = some (.slice pa (L.getD j []).length pc) ∧ BytesAt w (.slice pa (L.getD j []).length pc) (L.getD j []) := hcell
      clear hcell
      go_wp2_with fail
      go_loopw [6, 27] (fun v i wr => ∃ q : Nat, q ≤ k ∧ i = .int .i64 q ∧ (∃ va vc, v = .slice va (L.take q).flatten.length vc ∧ wr.ownsRow w.heap.size 5 1 (.slice va (L.take q).flatten.length vc) (L.take q).flatten.length ((L.take q).flatten.map (Value.int .u8))) ∧ Below w.heap.size w wr) (fun _ i _ => k - (intOf i).toNat)
      case atStart => exact ⟨0, Nat.zero_le _, rfl, ⟨_, _, rfl, ho⟩, hb1⟩
      case round =>
        obtain ⟨q, hq, rfl, ⟨va, vc, rfl, hrow⟩, hb⟩ := hrel
        clear ho hb1
        have hsz := hb.size
        by_cases hlt : q < k
        · obtain ⟨b, off, rfl, hbb, hc⟩ := hcell1.resolve_left (by omega)
          obtain ⟨pa, pc, hcj, hB⟩ := hc q hlt
          have hcj' : wr.cell? ⟨b, off + q, none⟩ = some (.slice pa (L.getD q []).length pc) := by rw [hb.cell (p := ⟨b, off + q, none⟩) hbb]; exact hcj
          have hB' := hB.below (Nat.le_refl _) hb
          have hle := h4 q hlt
          have HT : Hid ((L.take (q + 1)).flatten = (L.take q).flatten ++ L.getD q []) := flat_take L q (by rw [HL.out]; exact hlt)
          clear hc hB hcj h4 h3
          generalize (L.take q).flatten = D at *
          generalize L.getD q [] = d at *
          go_wp2_with (at_builtin; refine wpList_append_bytes rfl (.tmp 31) (.tmp 32) 35 rfl w.heap.size 5 i0 (.int .u8 0) Tryz.underlying35 hi0 hz0 hz1 hz2 rfl _ _ _ rfl hrow pa d.length pc d rfl hB' (by unfold maxLen; omega) (by omega) hsz ?_; intro v3 w3 ho3 hg3; obtain ⟨ya, yc, rfl⟩ := own_form' ho3)
          have b3 : Below w.heap.size w w3 := hb.grown hg3 hsz (fun _ h => own_block hrow h)
          clear hg3 hrow hB' hcj'
          go_roundw
          case rel => exact ⟨q + 1, by omega, by go_num, ⟨ya, yc, by rw [HT.out, List.length_append], by rw [HT.out, List.length_append, List.map_append]; exact ho3⟩, b3⟩
          case measure => simp [intOf]; omega
        · obtain rfl : q = k := by omega
          rw [HE.out, HF0.out] at hrow ⊢
          clear h3 h4 hcell1
          go_wp2_with fail
          go_ret
          exact ⟨_, rfl, by rw [HF0.out]; exact hrow, hb⟩

set_option maxRecDepth 100000 in
set_option maxHeartbeats 1000000 in
theorem leafText_any (b : List Int) (v : Value) (w : World) (hv : BytesAt w v b) (hm : b.length ≤ 1000) :
    Calls Tryz.prog 100 #[v] w fun e w' => ∃ x, e = .returned x ∧ w'.ownsRow w.heap.size 5 1 x (b.length + 1) ((0 :: b).map (Value.int .u8)) ∧ Below w.heap.size w w' := by
  have hp := parts_two hv 0 5 35
  have hb : Below w.heap.size w ((w.alloc (.cells #[.int .u8 0] 5)).alloc (.cells #[.slice (some ⟨w.heap.size, 0, none⟩) 1 1, v] 35)) := ((Below.refl _ _).alloc (Nat.le_refl _) _).alloc (by simp) _
  have hc := concat_any [[0], b] _ 2 2 _ hp rfl (by omega) (by simp) (by simp; omega)
  rw [show ([[0], b] : List (List Int)).flatten = 0 :: b by simp] at hc
  obtain ⟨a, c, e⟩ := hv.form
  subst e
  go_enter Tryz.func100, Tryz.ntmps100
  go_wp2_with fail
  refine hc.mono ?_
  rintro e w1 ⟨x, rfl, ho, hb1⟩
  obtain ⟨xa, xc, rfl⟩ := own_form' ho
  have hs := hb.size
  go_wp2_with fail
  go_ret
  exact ⟨_, rfl, ownsRow_base ho hs, hb.trans (hb1.mono hs)⟩
set_option maxRecDepth 100000 in
set_option maxHeartbeats 1000000 in
theorem nodeText_any (b1 b2 : List Int) (v1 v2 : Value) (w : World) (hv1 : BytesAt w v1 b1) (hv2 : BytesAt w v2 b2) (hm : b1.length + b2.length ≤ 1000) :
    Calls Tryz.prog 111 #[v1, v2] w fun e w' => ∃ x, e = .returned x ∧ w'.ownsRow w.heap.size 5 1 x (b1.length + b2.length + 1) ((1 :: (b1 ++ b2)).map (Value.int .u8)) ∧ Below w.heap.size w w' := by
  have hp := parts_three hv1 hv2 1 5 35
  have hb : Below w.heap.size w ((w.alloc (.cells #[.int .u8 1] 5)).alloc (.cells #[.slice (some ⟨w.heap.size, 0, none⟩) 1 1, v1, v2] 35)) := ((Below.refl _ _).alloc (Nat.le_refl _) _).alloc (by simp) _
  have hc := concat_any [[1], b1, b2] _ 3 3 _ hp rfl (by omega) (by simp) (by simp; omega)
  rw [show ([[1], b1, b2] : List (List Int)).flatten = 1 :: (b1 ++ b2) by simp, show (1 :: (b1 ++ b2) : List Int).length = b1.length + b2.length + 1 by simp] at hc
  obtain ⟨a, c, e⟩ := hv1.form
  subst e
  obtain ⟨a2, c2, e⟩ := hv2.form
  subst e
  go_enter Tryz.func111, Tryz.ntmps111
  go_wp2_with fail
  refine hc.mono ?_
  rintro e w1 ⟨x, rfl, ho, hb1⟩
  obtain ⟨xa, xc, rfl⟩ := own_form' ho
  have hs := hb.size
  go_wp2_with fail
  go_ret
  exact ⟨_, rfl, ownsRow_base ho hs, hb.trans (hb1.mono hs)⟩

end Go.Proofs.YtkjlchfmplcobafGreatDoor
