/- The walks of Head, Path and Grows: package book as it landed. -/
import Derived.Test.YtkjlchfmplcobaeDoorProg
import Derived.Test.YtkjlchfmplcobaeDoorBookGoLeaves
import Derived.Test.YtkjlchfmplcobaeDoorRunAE
import Derived.WalkKit
import Derived.WalkSpells
import Derived.WalkLawsBesides
import Derived.Deep.RegionHeld3
import Derived.BigRegion
namespace Go.Proofs.YtkjlchfmplcobaeDoor
open Go.RowKit

theorem RecsAt.form {w : World} {v : Value} {l : List Rec} (h : RecsAt w v l) : ∃ a c, v = .slice a l.length c := by
  obtain ⟨a, c, e, -⟩ := h; exact ⟨a, c, e⟩
theorem rows_mem_bytes {l : List Rec} (h : (wrongRecs l).1 = 0) (hb : ∀ j, Bytes (l.getD j rec0).root) : ∀ x ∈ rowsOf l, Bytes x := fun x hx => by
  obtain ⟨j, hj, rfl⟩ := List.mem_iff_getElem.1 hx
  have := rows_bytes h hb j
  rwa [List.getD_eq_getElem?_getD, List.getElem?_eq_getElem hj] at this
set_option maxRecDepth 100000 in
set_option maxHeartbeats 4000000 in
theorem bookHeadC_holds (hRoot : RootC) : BookHeadC := fun l lv w hR hl => by
  obtain ⟨a, c, rfl⟩ := hl.form
  have hlb := hl.bytes
  obtain ⟨n, hn⟩ : ∃ n, l.length = n := ⟨_, rfl⟩
  have b0 : Below w.heap.size w ((w.alloc (.cells #[.int .i64 0, .slice none 0 0] 24)).alloc (.cells #[.int .i64 0, .int .i64 0] 32)) := ((Below.refl _ _).alloc (Nat.le_refl _) _).alloc (by simp) _
  have y0 := box_one w #[.int .i64 0, .slice none 0 0] 24 (.cells #[.int .i64 0, .int .i64 0] 32)
  have z0 := box_last w (.cells #[.int .i64 0, .slice none 0 0] 24) #[.int .i64 0, .int .i64 0] 32
  rw [hn] at hl ⊢
  have cL := leaves_any l a n c _ (hl.below b0) hn
  have HS1 : Hid ((wrongRecs l).1 ≠ 0 → bookSize l = 0 ∧ bookRoot l = []) := fun h => ⟨by unfold bookSize; rw [if_pos h], by unfold bookRoot; rw [if_pos h]⟩
  have HS2 : Hid ((wrongRecs l).1 = 0 → bookSize l = (n : Int) ∧ bookRoot l = mth (rowsOf l)) := fun h => ⟨by unfold bookSize; rw [if_neg (fun g => g h), hn], by unfold bookRoot; rw [if_neg (fun g => g h)]⟩
  have HRW : Hid ((wrongRecs l).1 = 0 → wrongL (rowsOf l) = (0, 0) ∧ (∀ x ∈ rowsOf l, Bytes x) ∧ ∀ j, ((rowsOf l).getD j []).length ≤ maxLen) := fun h => ⟨rows_wrong h, rows_mem_bytes h hlb, fun j => by have := rows_short h j; unfold maxLen; omega⟩
  have HF0 : Hid ((wrongRecs l).1 = 0 → (wrongRecs l).2 = 0) := fun h => by rw [wrongRecs_whole h]
  have hml := mth_length (rowsOf l)
  have hmb := bytes_mth (rowsOf l)
  have cR := fun (xa : Option Addr) (xn xc : Nat) w' (h1 : Ready w') (h2 : Lists w' xa xn xc (rowsOf l)) => hRoot (rowsOf l) xa xn xc w' h1 h2
  clear hl hlb
  generalize wrongRecs l = F at *
  obtain ⟨F1, F2⟩ := F
  dsimp only [faultV] at *
  go_enter Tryd.func19, Tryd.ntmps19
  go_wp2_with fail
  generalize (w.alloc (.cells #[.int .i64 0, .slice none 0 0] 24)).alloc (.cells #[.int .i64 0, .int .i64 0] 32) = w0 at *
  refine cL.mono ?_
  rintro e w1 ⟨xa, xn, xc, rfl, hO, hb1⟩
  have b1 := b0.trans (hb1.mono b0.size)
  have d2 : Below w1.heap.size w1 (w1.alloc (.cells #[.int .i64 F1, .int .i64 F2] 32)) := (Below.refl _ _).alloc (Nat.le_refl _) _
  have b2 := b1.trans (d2.mono b1.size)
  have y2 := box_kept (box_kept y0 hb1) d2
  have z2 := box_kept (box_kept z0 hb1) d2
  have x2 := box_new w1 #[.int .i64 F1, .int .i64 F2] 32
  have hs01 : w.heap.size + 1 < w1.heap.size := lt_heap (box_kept z0 hb1)
  obtain ⟨p0, p1, -, -⟩ := box_two x2
  obtain ⟨q0, q1, q2, q3⟩ := box_two y2
  obtain ⟨r0, r1, r2, r3⟩ := box_two z2
  clear cL y0 z0 b0 hb1 b1
  by_cases hF : F1 = 0
  · obtain ⟨hbs, hbr⟩ := HS2.out hF
    have HB : Hid (bookSize l = (n : Int) ∧ bookRoot l = mth (rowsOf l)) := ⟨hbs, hbr⟩
    obtain ⟨hw0, hmb', hsh⟩ := HRW.out hF
    obtain ⟨hO', rfl⟩ := hO hF
    obtain rfl : F2 = 0 := HF0.out hF
    subst hF
    have hLs := (hO'.lists hmb' hsh).below d2
    have cR2 := cR _ _ _ _ (hR.below b2) hLs
    rw [hw0] at cR2
    dsimp only [faultV] at cR2
    clear HS1 HS2 HRW hO cR hbs hbr hO' hLs hw0 hmb' hsh HF0
    go_wp2_with fail
    generalize w1.alloc (.cells #[.int .i64 0, .int .i64 0] 32) = w2 at *
    refine cR2.mono ?_
    rintro e w3 ⟨ra, rn, rc, rfl, hr, -, hb3⟩
    replace hr := hr (by trivial)
    obtain rfl := own_len hr
    have b3 := b2.trans (hb3.mono b2.size)
    have d4 : Below w3.heap.size w3 (w3.alloc (.cells #[.int .i64 0, .int .i64 0] 32)) := (Below.refl _ _).alloc (Nat.le_refl _) _
    have b4 := b3.trans (d4.mono b3.size)
    have y4 := box_kept (box_kept y2 hb3) d4
    have z4 := box_kept (box_kept z2 hb3) d4
    have hr4 := own_below hr d4 (Nat.le_refl _)
    have hK : w.heap.size < w2.heap.size := lt_heap y2
    have hK2 : w.heap.size + 1 < w2.heap.size := lt_heap z2
    clear p0 p1 q0 q1 q2 q3 r0 r1 r2 r3 y2 z2 x2 cR2 hr hb3 b2 b3 d2 d4
    obtain ⟨q0, q1, q2, q3⟩ := box_two y4
    obtain ⟨r0, r1, r2, r3⟩ := box_two z4
    go_wp2_with fail
    generalize w3.alloc (.cells #[.int .i64 0, .int .i64 0] 32) = w4 at *
    have yE := two_far (two_set y4 (.int .i64 (xn : Int)) (.slice ra 32 rc)) (Nat.ne_of_lt (Nat.lt_succ_self w.heap.size)) (.int .i64 0) (.int .i64 0)
    have zE := two_set (two_far z4 (Nat.ne_of_gt (Nat.lt_succ_self w.heap.size)) (.int .i64 (xn : Int)) (.slice ra 32 rc)) (.int .i64 0) (.int .i64 0)
    obtain ⟨e0, e1, -, -⟩ := box_two yE
    obtain ⟨e2, e3, -, -⟩ := box_two zE
    have bE := two_below (two_below b4 (Nat.le_refl w.heap.size) (.int .i64 (xn : Int)) (.slice ra 32 rc)) (Nat.le_succ w.heap.size) (.int .i64 0) (.int .i64 0)
    have hrE := two_own (two_own hr4 hK (.int .i64 (xn : Int)) (.slice ra 32 rc)) hK2 (.int .i64 0) (.int .i64 0)
    exact bodyPost_ret (v := .tuple #[.agg #[.int .i64 (xn : Int), .slice ra 32 rc], faultV (0, 0)]) (by simp [results, Tryd.results19, go_sem, e0, e1, e2, e3]) rfl ⟨ra, rc, by rw [HB.out.1, HB.out.2, hml], by rw [HB.out.2, hml]; exact ⟨bytesAt_own hrE, hmb, by rw [hml]; unfold maxLen; omega⟩, bE⟩
  · have hF' : (F1 != 0) = true := by simpa using hF
    obtain ⟨hbs, hbr⟩ := HS1.out hF
    have HB : Hid (bookSize l = 0 ∧ bookRoot l = []) := ⟨hbs, hbr⟩
    have n1 : w.heap.size ≠ w1.heap.size := by omega
    have n2 : w.heap.size + 1 ≠ w1.heap.size := by omega
    clear HS1 HS2 HRW hO cR hF hbs hbr
    go_wp2_with fail
    generalize w1.alloc (.cells #[.int .i64 F1, .int .i64 F2] 32) = w2 at *
    generalize w1.heap.size = B at *
    have t1 := two_far x2 n1.symm (.int .i64 0) (.slice none 0 0)
    have t2 := two_far t1 n2.symm (.int .i64 F1) (.int .i64 F2)
    have hS0 : w2.drew.cell? ⟨B, 0, none⟩ = some (.int .i64 F1) ∧ w2.drew.cell? ⟨B, 1, none⟩ = some (.int .i64 F2) := ⟨(box_two x2).1, (box_two x2).2.1⟩
    have hS1 : ((w2.setCell ⟨w.heap.size, 0, none⟩ (.int .i64 0)).setCell ⟨w.heap.size, 1, none⟩ (.slice none 0 0)).drew.cell? ⟨B, 0, none⟩ = some (.int .i64 F1) ∧ ((w2.setCell ⟨w.heap.size, 0, none⟩ (.int .i64 0)).setCell ⟨w.heap.size, 1, none⟩ (.slice none 0 0)).drew.cell? ⟨B, 1, none⟩ = some (.int .i64 F2) := ⟨(box_two t1).1, (box_two t1).2.1⟩
    have hS2 : ((((w2.setCell ⟨w.heap.size, 0, none⟩ (.int .i64 0)).setCell ⟨w.heap.size, 1, none⟩ (.slice none 0 0)).setCell ⟨w.heap.size + 1, 0, none⟩ (.int .i64 F1)).setCell ⟨w.heap.size + 1, 1, none⟩ (.int .i64 F2)).drew.cell? ⟨B, 0, none⟩ = some (.int .i64 F1) ∧ ((((w2.setCell ⟨w.heap.size, 0, none⟩ (.int .i64 0)).setCell ⟨w.heap.size, 1, none⟩ (.slice none 0 0)).setCell ⟨w.heap.size + 1, 0, none⟩ (.int .i64 F1)).setCell ⟨w.heap.size + 1, 1, none⟩ (.int .i64 F2)).drew.cell? ⟨B, 1, none⟩ = some (.int .i64 F2) := ⟨(box_two t2).1, (box_two t2).2.1⟩
    go_region_held3 (fun w' => w'.cell? ⟨B, 0, none⟩ = some (.int .i64 F1) ∧ w'.cell? ⟨B, 1, none⟩ = some (.int .i64 F2)) (first | (with_reducible exact hS0) | (with_reducible exact hS1) | (with_reducible exact hS2)) (fail)
    have yE := two_far (two_set y2 (.int .i64 0) (.slice none 0 0)) (Nat.ne_of_lt (Nat.lt_succ_self w.heap.size)) (.int .i64 F1) (.int .i64 F2)
    have zE := two_set (two_far z2 (Nat.ne_of_gt (Nat.lt_succ_self w.heap.size)) (.int .i64 0) (.slice none 0 0)) (.int .i64 F1) (.int .i64 F2)
    obtain ⟨e0, e1, -, -⟩ := box_two yE
    obtain ⟨e2, e3, -, -⟩ := box_two zE
    have bE := (two_below (two_below b2 (Nat.le_refl w.heap.size) (.int .i64 0) (.slice none 0 0)) (Nat.le_succ w.heap.size) (.int .i64 F1) (.int .i64 F2)).drew
    clear p0 p1 q0 q1 q2 q3 r0 r1 r2 r3 y2 z2 x2 t1 t2 hS0 hS1 hS2
    go_wp2_with fail
    exact bodyPost_ret (v := .tuple #[.agg #[.int .i64 0, .slice none 0 0], faultV (F1, F2)]) (by simp [results, Tryd.results19, go_sem, e0, e1, e2, e3]) rfl ⟨none, 0, by rw [HB.out.1, HB.out.2]; rfl, by rw [HB.out.2]; exact ⟨bytesAt_nil _, nil_bytes, Nat.zero_le _⟩, bE⟩

set_option maxRecDepth 100000 in
set_option maxHeartbeats 4000000 in
theorem bookPathC_holds (hT : PathC) : BookPathC := fun l m lv w hR hl => by
  obtain ⟨a, c, rfl⟩ := hl.form
  have hlb := hl.bytes
  obtain ⟨n, hn⟩ : ∃ n, l.length = n := ⟨_, rfl⟩
  have b0 : Below w.heap.size w (w.alloc (.cells #[.int .i64 0, .int .i64 0] 32)) := (Below.refl _ _).alloc (Nat.le_refl _) _
  have y0 := box_new w #[.int .i64 0, .int .i64 0] 32
  rw [hn] at hl ⊢
  have cL := leaves_any l a n c _ (hl.below b0) hn
  have HS1 : Hid ((wrongRecs l).1 ≠ 0 → bookPathF l m = wrongRecs l) := fun h => if_pos h
  have HS2 : Hid ((wrongRecs l).1 = 0 → bookPathF l m = pathF (rowsOf l) m) := fun h => if_neg (fun g => g h)
  have HRW : Hid ((wrongRecs l).1 = 0 → (∀ x ∈ rowsOf l, Bytes x) ∧ ∀ j, ((rowsOf l).getD j []).length ≤ maxLen) := fun h => ⟨rows_mem_bytes h hlb, fun j => by have := rows_short h j; unfold maxLen; omega⟩
  have cR := fun (xa : Option Addr) (xn xc : Nat) w' (h1 : Ready w') (h2 : Lists w' xa xn xc (rowsOf l)) => hT (rowsOf l) m xa xn xc w' h1 h2
  clear hl hlb
  generalize wrongRecs l = F at *
  generalize bookPathF l m = PF at *
  obtain ⟨F1, F2⟩ := F
  obtain ⟨PF1, PF2⟩ := PF
  dsimp only [faultV] at *
  go_enter Tryd.func20, Tryd.ntmps20
  go_wp2_with fail
  generalize w.alloc (.cells #[.int .i64 0, .int .i64 0] 32) = w0 at *
  refine cL.mono ?_
  rintro e w1 ⟨xa, xn, xc, rfl, hO, hb1⟩
  have b1 := b0.trans (hb1.mono b0.size)
  have d2 : Below w1.heap.size w1 (w1.alloc (.cells #[.int .i64 F1, .int .i64 F2] 32)) := (Below.refl _ _).alloc (Nat.le_refl _) _
  have b2 := b1.trans (d2.mono b1.size)
  have y2 := box_kept (box_kept y0 hb1) d2
  have x2 := box_new w1 #[.int .i64 F1, .int .i64 F2] 32
  have hs01 : w.heap.size < w1.heap.size := lt_heap (box_kept y0 hb1)
  obtain ⟨p0, p1, -, -⟩ := box_two x2
  obtain ⟨q0, q1, q2, q3⟩ := box_two y2
  clear cL y0 b0 hb1 b1
  by_cases hF : F1 = 0
  · have HE := HS2.out hF
    obtain ⟨hmb', hsh⟩ := HRW.out hF
    obtain ⟨hO', rfl⟩ := hO hF
    have hLs := (hO'.lists hmb' hsh).below d2
    have cR2 := cR _ _ _ _ (hR.below b2) hLs
    rw [← HE] at cR2
    subst hF
    dsimp only [faultV] at cR2
    clear HS1 HS2 HRW hO cR hO' hLs hmb' hsh HE
    go_wp2_with fail
    generalize w1.alloc (.cells #[.int .i64 0, .int .i64 F2] 32) = w2 at *
    refine cR2.mono ?_
    rintro e w3 ⟨pa, pn, pc, rfl, hp1, hp2, hb3⟩
    have b3 := b2.trans (hb3.mono b2.size)
    have y3 := box_kept y2 hb3
    have hK : w.heap.size < w2.heap.size := lt_heap y2
    clear p0 p1 q0 q1 q2 q3 y2 x2 cR2 b2 d2
    obtain ⟨q0, q1, q2, q3⟩ := box_two y3
    go_wp2_with fail
    obtain ⟨e0, e1, -, -⟩ := box_two (two_set y3 (.int .i64 PF1) (.int .i64 PF2))
    have bE := two_below b3 (Nat.le_refl w.heap.size) (.int .i64 PF1) (.int .i64 PF2)
    exact bodyPost_ret (v := .tuple #[.slice pa pn pc, faultV (PF1, PF2)]) (by simp [results, Tryd.results20, go_sem, e0, e1]) rfl ⟨pa, pn, pc, rfl, fun h => ((((hp1 h).far (o := 0) y3 (by decide) (by decide) (.int .i64 PF1)).far (o := 1) (heap_setCell_same _ _ 0 _ _ (.int .i64 PF1) y3) (by decide) (by decide) (.int .i64 PF2)).base (Nat.le_of_lt hK)), hp2, bE⟩
  · have hF' : (F1 != 0) = true := by simpa using hF
    obtain ⟨rfl, rfl⟩ : PF1 = F1 ∧ PF2 = F2 := by have := HS1.out hF; simp at this; exact this
    have HNE : Hid (PF1 ≠ 0) := hF
    have n1 : w.heap.size ≠ w1.heap.size := by omega
    clear HS1 HS2 HRW hO cR hF
    go_wp2_with fail
    generalize w1.alloc (.cells #[.int .i64 PF1, .int .i64 PF2] 32) = w2 at *
    generalize w1.heap.size = B at *
    have t1 := two_far x2 n1.symm (.int .i64 PF1) (.int .i64 PF2)
    have hS0 : w2.drew.cell? ⟨B, 0, none⟩ = some (.int .i64 PF1) ∧ w2.drew.cell? ⟨B, 1, none⟩ = some (.int .i64 PF2) := ⟨(box_two x2).1, (box_two x2).2.1⟩
    have hS1 : ((w2.setCell ⟨w.heap.size, 0, none⟩ (.int .i64 PF1)).setCell ⟨w.heap.size, 1, none⟩ (.int .i64 PF2)).drew.cell? ⟨B, 0, none⟩ = some (.int .i64 PF1) ∧ ((w2.setCell ⟨w.heap.size, 0, none⟩ (.int .i64 PF1)).setCell ⟨w.heap.size, 1, none⟩ (.int .i64 PF2)).drew.cell? ⟨B, 1, none⟩ = some (.int .i64 PF2) := ⟨(box_two t1).1, (box_two t1).2.1⟩
    go_region_held3 (fun w' => w'.cell? ⟨B, 0, none⟩ = some (.int .i64 PF1) ∧ w'.cell? ⟨B, 1, none⟩ = some (.int .i64 PF2)) (first | (with_reducible exact hS0) | (with_reducible exact hS1)) (fail)
    obtain ⟨e0, e1, -, -⟩ := box_two (two_set y2 (.int .i64 PF1) (.int .i64 PF2))
    have bE := (two_below b2 (Nat.le_refl w.heap.size) (.int .i64 PF1) (.int .i64 PF2)).drew
    clear p0 p1 q0 q1 q2 q3 y2 x2 t1 hS0 hS1
    go_wp2_with fail
    exact bodyPost_ret (v := .tuple #[.slice none 0 0, faultV (PF1, PF2)]) (by simp [results, Tryd.results20, go_sem, e0, e1]) rfl ⟨none, 0, 0, rfl, fun h => absurd h HNE.out, fun _ => rfl, bE⟩
set_option maxRecDepth 100000 in
set_option maxHeartbeats 4000000 in
theorem bookGrowsC_holds (hT : GrowsC) : BookGrowsC := fun l m lv w hR hl => by
  obtain ⟨a, c, rfl⟩ := hl.form
  have hlb := hl.bytes
  obtain ⟨n, hn⟩ : ∃ n, l.length = n := ⟨_, rfl⟩
  have b0 : Below w.heap.size w (w.alloc (.cells #[.int .i64 0, .int .i64 0] 32)) := (Below.refl _ _).alloc (Nat.le_refl _) _
  have y0 := box_new w #[.int .i64 0, .int .i64 0] 32
  rw [hn] at hl ⊢
  have cL := leaves_any l a n c _ (hl.below b0) hn
  have HS1 : Hid ((wrongRecs l).1 ≠ 0 → bookGrowF l m = wrongRecs l) := fun h => if_pos h
  have HS2 : Hid ((wrongRecs l).1 = 0 → bookGrowF l m = growF (rowsOf l) m) := fun h => if_neg (fun g => g h)
  have HRW : Hid ((wrongRecs l).1 = 0 → (∀ x ∈ rowsOf l, Bytes x) ∧ ∀ j, ((rowsOf l).getD j []).length ≤ maxLen) := fun h => ⟨rows_mem_bytes h hlb, fun j => by have := rows_short h j; unfold maxLen; omega⟩
  have cR := fun (xa : Option Addr) (xn xc : Nat) w' (h1 : Ready w') (h2 : Lists w' xa xn xc (rowsOf l)) => hT (rowsOf l) m xa xn xc w' h1 h2
  clear hl hlb
  generalize wrongRecs l = F at *
  generalize bookGrowF l m = PF at *
  obtain ⟨F1, F2⟩ := F
  obtain ⟨PF1, PF2⟩ := PF
  dsimp only [faultV] at *
  go_enter Tryd.func21, Tryd.ntmps21
  go_wp2_with fail
  generalize w.alloc (.cells #[.int .i64 0, .int .i64 0] 32) = w0 at *
  refine cL.mono ?_
  rintro e w1 ⟨xa, xn, xc, rfl, hO, hb1⟩
  have b1 := b0.trans (hb1.mono b0.size)
  have d2 : Below w1.heap.size w1 (w1.alloc (.cells #[.int .i64 F1, .int .i64 F2] 32)) := (Below.refl _ _).alloc (Nat.le_refl _) _
  have b2 := b1.trans (d2.mono b1.size)
  have y2 := box_kept (box_kept y0 hb1) d2
  have x2 := box_new w1 #[.int .i64 F1, .int .i64 F2] 32
  have hs01 : w.heap.size < w1.heap.size := lt_heap (box_kept y0 hb1)
  obtain ⟨p0, p1, -, -⟩ := box_two x2
  obtain ⟨q0, q1, q2, q3⟩ := box_two y2
  clear cL y0 b0 hb1 b1
  by_cases hF : F1 = 0
  · have HE := HS2.out hF
    obtain ⟨hmb', hsh⟩ := HRW.out hF
    obtain ⟨hO', rfl⟩ := hO hF
    have hLs := (hO'.lists hmb' hsh).below d2
    have cR2 := cR _ _ _ _ (hR.below b2) hLs
    rw [← HE] at cR2
    subst hF
    dsimp only [faultV] at cR2
    clear HS1 HS2 HRW hO cR hO' hLs hmb' hsh HE
    go_wp2_with fail
    generalize w1.alloc (.cells #[.int .i64 0, .int .i64 F2] 32) = w2 at *
    refine cR2.mono ?_
    rintro e w3 ⟨pa, pn, pc, rfl, hp1, hp2, hb3⟩
    have b3 := b2.trans (hb3.mono b2.size)
    have y3 := box_kept y2 hb3
    have hK : w.heap.size < w2.heap.size := lt_heap y2
    clear p0 p1 q0 q1 q2 q3 y2 x2 cR2 b2 d2
    obtain ⟨q0, q1, q2, q3⟩ := box_two y3
    go_wp2_with fail
    obtain ⟨e0, e1, -, -⟩ := box_two (two_set y3 (.int .i64 PF1) (.int .i64 PF2))
    have bE := two_below b3 (Nat.le_refl w.heap.size) (.int .i64 PF1) (.int .i64 PF2)
    exact bodyPost_ret (v := .tuple #[.slice pa pn pc, faultV (PF1, PF2)]) (by simp [results, Tryd.results21, go_sem, e0, e1]) rfl ⟨pa, pn, pc, rfl, fun h => ((((hp1 h).far (o := 0) y3 (by decide) (by decide) (.int .i64 PF1)).far (o := 1) (heap_setCell_same _ _ 0 _ _ (.int .i64 PF1) y3) (by decide) (by decide) (.int .i64 PF2)).base (Nat.le_of_lt hK)), hp2, bE⟩
  · have hF' : (F1 != 0) = true := by simpa using hF
    obtain ⟨rfl, rfl⟩ : PF1 = F1 ∧ PF2 = F2 := by have := HS1.out hF; simp at this; exact this
    have HNE : Hid (PF1 ≠ 0) := hF
    have n1 : w.heap.size ≠ w1.heap.size := by omega
    clear HS1 HS2 HRW hO cR hF
    go_wp2_with fail
    generalize w1.alloc (.cells #[.int .i64 PF1, .int .i64 PF2] 32) = w2 at *
    generalize w1.heap.size = B at *
    have t1 := two_far x2 n1.symm (.int .i64 PF1) (.int .i64 PF2)
    have hS0 : w2.drew.cell? ⟨B, 0, none⟩ = some (.int .i64 PF1) ∧ w2.drew.cell? ⟨B, 1, none⟩ = some (.int .i64 PF2) := ⟨(box_two x2).1, (box_two x2).2.1⟩
    have hS1 : ((w2.setCell ⟨w.heap.size, 0, none⟩ (.int .i64 PF1)).setCell ⟨w.heap.size, 1, none⟩ (.int .i64 PF2)).drew.cell? ⟨B, 0, none⟩ = some (.int .i64 PF1) ∧ ((w2.setCell ⟨w.heap.size, 0, none⟩ (.int .i64 PF1)).setCell ⟨w.heap.size, 1, none⟩ (.int .i64 PF2)).drew.cell? ⟨B, 1, none⟩ = some (.int .i64 PF2) := ⟨(box_two t1).1, (box_two t1).2.1⟩
    go_region_held3 (fun w' => w'.cell? ⟨B, 0, none⟩ = some (.int .i64 PF1) ∧ w'.cell? ⟨B, 1, none⟩ = some (.int .i64 PF2)) (first | (with_reducible exact hS0) | (with_reducible exact hS1)) (fail)
    obtain ⟨e0, e1, -, -⟩ := box_two (two_set y2 (.int .i64 PF1) (.int .i64 PF2))
    have bE := (two_below b2 (Nat.le_refl w.heap.size) (.int .i64 PF1) (.int .i64 PF2)).drew
    clear p0 p1 q0 q1 q2 q3 y2 x2 t1 hS0 hS1
    go_wp2_with fail
    exact bodyPost_ret (v := .tuple #[.slice none 0 0, faultV (PF1, PF2)]) (by simp [results, Tryd.results21, go_sem, e0, e1]) rfl ⟨none, 0, 0, rfl, fun h => absurd h HNE.out, fun _ => rfl, bE⟩

end Go.Proofs.YtkjlchfmplcobaeDoor
