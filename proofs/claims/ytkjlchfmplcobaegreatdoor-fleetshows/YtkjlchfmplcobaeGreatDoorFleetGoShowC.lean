/- The walk of Show: package fleet as it landed. -/
import Derived.Test.YtkjlchfmplcobaeGreatDoorRunAO
namespace Go.Proofs.YtkjlchfmplcobaeGreatDoor
open Go.RowKit

theorem shwV_nil (w : World) : ShwV w (.agg #[.slice none 0 0, .int .i64 0, .int .i64 0, .slice none 0 0, .int .i64 0, .int .i64 0, .int .i64 0, .int .i64 0, .slice none 0 0, .int .i64 0, .slice none 0 0, .int .i64 0, .slice none 0 0]) shw0 := ⟨none, 0, none, 0, none, 0, none, 0, none, 0, rfl, some_nil w, lists_nil w, some_nil w, lists_nil w, some_nil w⟩
theorem show_out {f : Flt} {k i : Int} (h : k < 0 ∨ (f.shards.length : Int) ≤ k) : showL f k i = (shw0, 6) := by unfold showL; rw [if_pos h]
theorem show_norow {f : Flt} {k i : Int} (h : ¬ (k < 0 ∨ (f.shards.length : Int) ≤ k)) (hr : rowOf f.book k = none) : showL f k i = (shw0, 8) := by unfold showL; rw [if_neg h, hr]
theorem show_path {f : Flt} {k i : Int} {row : Nat} (h : ¬ (k < 0 ∨ (f.shards.length : Int) ≤ k)) (hr : rowOf f.book k = some row) (hc : (contentL (f.shards.getD k.toNat shd0)).2 = 0) (hp : (pathF (contentL (f.shards.getD k.toNat shd0)).1 i).1 ≠ 0) : showL f k i = (shw0, (pathF (contentL (f.shards.getD k.toNat shd0)).1 i).1) := by
 unfold showL
 rw [if_neg h, hr]
 simp only [if_neg (fun g : (contentL (f.shards.getD k.toNat shd0)).2 ≠ 0 => g hc), if_pos hp]
theorem show_ok {f : Flt} {k i : Int} {row : Nat} (h : ¬ (k < 0 ∨ (f.shards.length : Int) ≤ k)) (hr : rowOf f.book k = some row) (hc : (contentL (f.shards.getD k.toNat shd0)).2 = 0) (hp : (pathF (contentL (f.shards.getD k.toNat shd0)).1 i).1 = 0) (hw : (wrongRecs f.book).1 = 0) : showL f k i = (⟨(contentL (f.shards.getD k.toNat shd0)).1.getD i.toNat [], i, k, pathL (contentL (f.shards.getD k.toNat shd0)).1 i.toNat, f.book.getD row rec0, (row : Int), pathL (rowsOf f.book) row, (f.book.length : Int), mth (rowsOf f.book)⟩, 0) := by
 unfold showL
 rw [if_neg h, hr]
 simp only [if_neg (fun g : (contentL (f.shards.getD k.toNat shd0)).2 ≠ 0 => g hc), if_neg (fun g : (pathF (contentL (f.shards.getD k.toNat shd0)).1 i).1 ≠ 0 => g hp), if_neg (fun g : (wrongRecs f.book).1 ≠ 0 => g hw)]
theorem bookPath_right {l : List Rec} {row : Int} (h : wrongRecs l = (0, 0)) (h0 : 0 ≤ row) (h1 : row < (l.length : Int)) : bookPathF l row = (0, 0) := by
 have hl := (wrongRecs_ok (l := l) (by rw [h])).1
 have hr := (wrongRecs_ok (l := l) (by rw [h])).2
 have hw : wrongL (rowsOf l) = (0, 0) := wrong_zero (by rw [rows_length]; omega) (fun j => by
  by_cases hj : j < l.length
  ·rw [rows_get hj, row_length (hr j hj)]; omega
  ·rw [List.getD_eq_getElem?_getD, List.getElem?_eq_none (by rw [rows_length]; omega)]; exact Nat.zero_le _)
 unfold bookPathF pathF
 rw [h, if_neg (fun g => g rfl), hw, if_neg (fun g => g rfl), if_neg (by rw [rows_length]; omega)]
theorem some_keptR {R : Nat} {W w' : World} {v : Value} {d : List Int} (h : Some' W v d) (hR : ∀ o z, W.cell? ⟨R, o, none⟩ ≠ some (.int .u8 z)) (hk : W.heap.size ≤ w'.heap.size ∧ ∀ b o, b < W.heap.size → b ≠ R → w'.cell? ⟨b, o, none⟩ = W.cell? ⟨b, o, none⟩) : Some' w' v d := by
 refine ⟨?_, h.bytes, h.short⟩
 rcases h.at' with h1 | ⟨b, off, cp, h1, h2, h3⟩
 ·exact .inl h1
 ·by_cases hl : d.length = 0
  ·have : d = [] := List.eq_nil_of_length_eq_zero hl
   subst this
   exact .inl ⟨rfl, _, _, h1, fun e => by cases e⟩
  ·have hb : b ≠ R := fun e => by subst e; exact hR _ _ (h3 0 (by omega))
   exact .inr ⟨b, off, cp, h1, Nat.lt_of_lt_of_le h2 hk.1, fun j hj => by rw [hk.2 _ _ h2 hb]; exact h3 j hj⟩
theorem keptR_drew (W : World) (R : Nat) : W.heap.size ≤ W.drew.heap.size ∧ ∀ b o, b < W.heap.size → b ≠ R → W.drew.cell? ⟨b, o, none⟩ = W.cell? ⟨b, o, none⟩ := ⟨Nat.le_refl _, fun _ _ _ _ => rfl⟩
theorem keptR_below {W w' w'' : World} {R : Nat} (h : W.heap.size ≤ w'.heap.size ∧ ∀ b o, b < W.heap.size → b ≠ R → w'.cell? ⟨b, o, none⟩ = W.cell? ⟨b, o, none⟩) (hb : Below w'.heap.size w' w'') : W.heap.size ≤ w''.heap.size ∧ ∀ b o, b < W.heap.size → b ≠ R → w''.cell? ⟨b, o, none⟩ = W.cell? ⟨b, o, none⟩ :=
 ⟨Nat.le_trans h.1 hb.size, fun b o h1 h2 => (hb.cell (p := ⟨b, o, none⟩) (Nat.lt_of_lt_of_le h1 h.1)).trans (h.2 b o h1 h2)⟩
theorem keptR_13 {W w' : World} {R : Nat} (h : W.heap.size ≤ w'.heap.size ∧ ∀ b o, b < W.heap.size → b ≠ R → w'.cell? ⟨b, o, none⟩ = W.cell? ⟨b, o, none⟩) {t : TypeId} (hz : w'.heap[R]? = some (.cells #[.slice none 0 0, .int .i64 0, .int .i64 0, .slice none 0 0, .int .i64 0, .int .i64 0, .int .i64 0, .int .i64 0, .slice none 0 0, .int .i64 0, .slice none 0 0, .int .i64 0, .slice none 0 0] t (0, 0))) (u0 u1 u2 u3 u4 u5 u6 u7 u8 u9 u10 u11 u12 : Value) : W.heap.size ≤ ((((((((((((((w'.setCell ⟨R, 0, none⟩ u0).setCell ⟨R, 1, none⟩ u1).setCell ⟨R, 2, none⟩ u2).setCell ⟨R, 3, none⟩ u3).setCell ⟨R, 4, none⟩ u4).setCell ⟨R, 5, none⟩ u5).setCell ⟨R, 6, none⟩ u6).setCell ⟨R, 7, none⟩ u7).setCell ⟨R, 8, none⟩ u8).setCell ⟨R, 9, none⟩ u9).setCell ⟨R, 10, none⟩ u10).setCell ⟨R, 11, none⟩ u11).setCell ⟨R, 12, none⟩ u12)).heap.size ∧ ∀ b o, b < W.heap.size → b ≠ R → ((((((((((((((w'.setCell ⟨R, 0, none⟩ u0).setCell ⟨R, 1, none⟩ u1).setCell ⟨R, 2, none⟩ u2).setCell ⟨R, 3, none⟩ u3).setCell ⟨R, 4, none⟩ u4).setCell ⟨R, 5, none⟩ u5).setCell ⟨R, 6, none⟩ u6).setCell ⟨R, 7, none⟩ u7).setCell ⟨R, 8, none⟩ u8).setCell ⟨R, 9, none⟩ u9).setCell ⟨R, 10, none⟩ u10).setCell ⟨R, 11, none⟩ u11).setCell ⟨R, 12, none⟩ u12)).cell? ⟨b, o, none⟩ = W.cell? ⟨b, o, none⟩ :=
 ⟨Nat.le_trans h.1 (offZ_13 hz u0 u1 u2 u3 u4 u5 u6 u7 u8 u9 u10 u11 u12).size, fun b o h1 h2 => ((offZ_13 hz u0 u1 u2 u3 u4 u5 u6 u7 u8 u9 u10 u11 u12).kept b o h2).trans (h.2 b o h1 h2)⟩
theorem nought_u8 {w : World} {R : Nat} {t : TypeId} (h : w.heap[R]? = some (.cells #[.slice none 0 0, .int .i64 0, .int .i64 0, .slice none 0 0, .int .i64 0, .int .i64 0, .int .i64 0, .int .i64 0, .slice none 0 0, .int .i64 0, .slice none 0 0, .int .i64 0, .slice none 0 0] t (0, 0))) : ∀ o z, w.cell? ⟨R, o, none⟩ ≠ some (.int .u8 z) := fun o z hx => by
 rcases (offZ_13 h (.slice none 0 0) (.int .i64 0) (.int .i64 0) (.slice none 0 0) (.int .i64 0) (.int .i64 0) (.int .i64 0) (.int .i64 0) (.slice none 0 0) (.int .i64 0) (.slice none 0 0) (.int .i64 0) (.slice none 0 0)).noughts o _ hx with ⟨y, hy⟩ | hy
 ·cases hy
 ·cases hy
set_option maxRecDepth 100000 in
set_option maxHeartbeats 4000000 in
theorem showC_of (hVer : VerifyOC) (hPath : PathC) (hBP : BookPathC) (hBH : BookHeadC) : ShowC := by
 intro ws f k i fv w hws hok hR hF
 obtain ⟨sa, sc, ba, bc, rfl, hSh, hBk⟩ := hF
 have b0 : Below w.heap.size w (((w.alloc (.cells #[.slice sa f.shards.length sc, .slice ba f.book.length bc] 27)).alloc (.cells #[.int .i64 k] 3)).alloc (.cells #[.slice none 0 0, .int .i64 0, .int .i64 0, .slice none 0 0, .int .i64 0, .int .i64 0, .int .i64 0, .int .i64 0, .slice none 0 0, .int .i64 0, .slice none 0 0, .int .i64 0, .slice none 0 0] 47)) := (((Below.refl _ _).alloc (Nat.le_refl _) _).alloc (by simp) _).alloc (by simp; omega) _
 have x0 := box_old _ (.cells #[.slice none 0 0, .int .i64 0, .int .i64 0, .slice none 0 0, .int .i64 0, .int .i64 0, .int .i64 0, .int .i64 0, .slice none 0 0, .int .i64 0, .slice none 0 0, .int .i64 0, .slice none 0 0] 47) (box_one w #[.slice sa f.shards.length sc, .slice ba f.book.length bc] 27 (.cells #[.int .i64 k] 3))
 have y0 := box_old _ (.cells #[.slice none 0 0, .int .i64 0, .int .i64 0, .slice none 0 0, .int .i64 0, .int .i64 0, .int .i64 0, .int .i64 0, .slice none 0 0, .int .i64 0, .slice none 0 0, .int .i64 0, .slice none 0 0] 47) (box_last w (.cells #[.slice sa f.shards.length sc, .slice ba f.book.length bc] 27) #[.int .i64 k] 3)
 have z0 := box_new ((w.alloc (.cells #[.slice sa f.shards.length sc, .slice ba f.book.length bc] 27)).alloc (.cells #[.int .i64 k] 3)) #[.slice none 0 0, .int .i64 0, .int .i64 0, .slice none 0 0, .int .i64 0, .int .i64 0, .int .i64 0, .int .i64 0, .slice none 0 0, .int .i64 0, .slice none 0 0, .int .i64 0, .slice none 0 0] 47
 have hz : ((w.alloc (.cells #[.slice sa f.shards.length sc, .slice ba f.book.length bc] 27)).alloc (.cells #[.int .i64 k] 3)).heap.size = w.heap.size + 2 := by simp
 rw [hz] at z0
 have hs0 : (((w.alloc (.cells #[.slice sa f.shards.length sc, .slice ba f.book.length bc] 27)).alloc (.cells #[.int .i64 k] 3)).alloc (.cells #[.slice none 0 0, .int .i64 0, .int .i64 0, .slice none 0 0, .int .i64 0, .int .i64 0, .int .i64 0, .int .i64 0, .slice none 0 0, .int .i64 0, .slice none 0 0, .int .i64 0, .slice none 0 0] 47)).heap.size = w.heap.size + 3 := by simp
 obtain ⟨g0, g1, -, -⟩ := box_two x0
 obtain ⟨c0, c1⟩ := box_cell y0
 have hsl : f.shards.length ≤ 9223372036854775807 := by obtain ⟨a', c', e, h1, h2, -⟩ := hSh; unfold maxLen at h2; cases e; omega
 by_cases q1 : k < 0
 ·have HE : Hid (showL f k i = (shw0, 6)) := show_out (.inl q1)
  generalize showL f k i = SL at *
  clear hSh hBk hok
  go_enter Tryz.func11, Tryz.ntmps11
  obtain ⟨t0, t1, t2, t3, t4, t5, t6, t7, t8, t9, t10, t11, t12⟩ := box_13 z0
  go_wp2_with fail
  exact bodyPost_ret (v := .tuple #[.agg #[.slice none 0 0, .int .i64 0, .int .i64 0, .slice none 0 0, .int .i64 0, .int .i64 0, .int .i64 0, .int .i64 0, .slice none 0 0, .int .i64 0, .slice none 0 0, .int .i64 0, .slice none 0 0], .int .i64 6]) (by simp [results, Tryz.results11, go_sem, t0, t1, t2, t3, t4, t5, t6, t7, t8, t9, t10, t11, t12]) rfl ⟨_, by rw [HE.out], by rw [HE.out]; exact shwV_nil _, b0⟩
 have q1' : decide (k < 0) = false := decide_eq_false q1
 by_cases q2 : (f.shards.length : Int) ≤ k
 ·have HE : Hid (showL f k i = (shw0, 6)) := show_out (.inr q2)
  generalize showL f k i = SL at *
  clear hSh hBk hok
  obtain ⟨t0, t1, t2, t3, t4, t5, t6, t7, t8, t9, t10, t11, t12⟩ := box_13 z0
  go_enter Tryz.func11, Tryz.ntmps11
  go_wp2_with fail
  exact bodyPost_ret (v := .tuple #[.agg #[.slice none 0 0, .int .i64 0, .int .i64 0, .slice none 0 0, .int .i64 0, .int .i64 0, .int .i64 0, .int .i64 0, .slice none 0 0, .int .i64 0, .slice none 0 0, .int .i64 0, .slice none 0 0], .int .i64 6]) (by simp [results, Tryz.results11, go_sem, t0, t1, t2, t3, t4, t5, t6, t7, t8, t9, t10, t11, t12]) rfl ⟨_, by rw [HE.out], by rw [HE.out]; exact shwV_nil _, b0⟩
 have q2' : decide ((f.shards.length : Int) ≤ k) = false := decide_eq_false q2
 have q3 : ¬ (k < 0 ∨ (f.shards.length : Int) ≤ k) := by omega
 obtain ⟨m, hm⟩ : ∃ m : Nat, k = m := ⟨k.toNat, by omega⟩
 subst hm
 have hRo := row_any f.book (m : Int) ba f.book.length bc (w.heap.size + 1) _ (hBk.below b0) rfl y0
 rcases hrw : rowOf f.book (m : Int) with _ | row
 ·have HE : Hid (showL f (m : Int) i = (shw0, 8)) := show_norow q3 hrw
  rw [hrw] at hRo
  dsimp only [idxOf] at hRo
  generalize showL f (m : Int) i = SL at *
  clear hSh hBk hok hrw
  go_enter Tryz.func11, Tryz.ntmps11
  go_wp2_with fail
  generalize ((w.alloc (.cells #[.slice sa f.shards.length sc, .slice ba f.book.length bc] 27)).alloc (.cells #[.int .i64 (m : Int)] 3)).alloc (.cells #[.slice none 0 0, .int .i64 0, .int .i64 0, .slice none 0 0, .int .i64 0, .int .i64 0, .int .i64 0, .int .i64 0, .slice none 0 0, .int .i64 0, .slice none 0 0, .int .i64 0, .slice none 0 0] 47) = w0 at *
  refine hRo.mono ?_
  rintro e w1 ⟨rfl, hb1⟩
  have b1 := b0.trans (hb1.mono b0.size)
  have z1 := box_kept z0 hb1
  obtain ⟨t0, t1, t2, t3, t4, t5, t6, t7, t8, t9, t10, t11, t12⟩ := box_13 z1
  obtain ⟨r0, r1, r2, r3, r4, r5, r6, r7, r8, r9, r10, r11, r12⟩ := free_13 z1
  obtain ⟨s0, s1, s2, s3, s4, s5, s6, s7, s8, s9, s10, s11, s12⟩ := box_13 (thirteen_set z1 (.slice none 0 0) (.int .i64 0) (.int .i64 0) (.slice none 0 0) (.int .i64 0) (.int .i64 0) (.int .i64 0) (.int .i64 0) (.slice none 0 0) (.int .i64 0) (.slice none 0 0) (.int .i64 0) (.slice none 0 0))
  have bE := thirteen_below b1 (show w.heap.size ≤ w.heap.size + 2 by omega) (.slice none 0 0) (.int .i64 0) (.int .i64 0) (.slice none 0 0) (.int .i64 0) (.int .i64 0) (.int .i64 0) (.int .i64 0) (.slice none 0 0) (.int .i64 0) (.slice none 0 0) (.int .i64 0) (.slice none 0 0)
  clear hRo g0 g1 c0 c1 x0 y0 z0 z1
  go_wp2_with fail
  exact bodyPost_ret (v := .tuple #[.agg #[.slice none 0 0, .int .i64 0, .int .i64 0, .slice none 0 0, .int .i64 0, .int .i64 0, .int .i64 0, .int .i64 0, .slice none 0 0, .int .i64 0, .slice none 0 0, .int .i64 0, .slice none 0 0], .int .i64 8]) (by simp [results, Tryz.results11, go_sem, s0, s1, s2, s3, s4, s5, s6, s7, s8, s9, s10, s11, s12]) rfl ⟨_, by rw [HE.out], by rw [HE.out]; exact shwV_nil _, bE⟩
 have hrl : row < f.book.length := (find_range_some hrw).1
 have hmw : m < ws.length := by have := hok.len; omega
 obtain ⟨cc1, cc2, -, -, cc5, cc6⟩ := content_ok (hok.each m hmw)
 have hbr := book_right hws hok
 have HSP := fun hp => show_path (f := f) (k := (m : Int)) (i := i) q3 hrw (by rw [Int.toNat_natCast]; exact cc1) hp
 have HSO := fun hp => show_ok (f := f) (k := (m : Int)) (i := i) q3 hrw (by rw [Int.toNat_natCast]; exact cc1) hp (by rw [hbr])
 rw [Int.toNat_natCast] at HSP HSO
 rw [hrw] at hRo
 dsimp only [idxOf] at hRo
 obtain ⟨sa', sc', e, hS1, hS2, -, hSc⟩ := hSh
 cases e
 obtain ⟨sb, so, rfl, hsb, hcs⟩ := hSc.resolve_left (by omega)
 have hSd := hcs m (by omega)
 have hEn := fun w' ea ra ga ec rc gc h1 h2 h3 h4 => entriesOf_any hVer (f.shards.getD m shd0) ea ra ga ec rc gc w' h1 h2 h3 h4
 rw [cc1] at hEn
 clear hcs hSc hws hok hrw
 obtain ⟨X, HX⟩ : ∃ X, Hid (f.shards.getD m shd0 = X) := ⟨_, rfl⟩
 rw [HX.out] at hSd hEn cc1 cc2 cc5 cc6 HSP HSO
 obtain ⟨L, HL⟩ : ∃ L, Hid ((contentL X).1 = L) := ⟨_, rfl⟩
 rw [HL.out] at hEn cc2 cc5 cc6 HSP HSO
 have hk1 : (m : Int) < f.shards.length := by omega
 have hk0 : (0 : Int) ≤ m := by omega
 have hr0 : ¬ (row : Int) < 0 := by omega
 have hP := fun w' a n c h1 h2 => hPath L i a n c w' h1 h2
 go_enter Tryz.func11, Tryz.ntmps11
 go_wp2_with fail
 generalize ((w.alloc (.cells #[.slice (some ⟨sb, so, none⟩) f.shards.length sc, .slice ba f.book.length bc] 27)).alloc (.cells #[.int .i64 (m : Int)] 3)).alloc (.cells #[.slice none 0 0, .int .i64 0, .int .i64 0, .slice none 0 0, .int .i64 0, .int .i64 0, .int .i64 0, .int .i64 0, .slice none 0 0, .int .i64 0, .slice none 0 0, .int .i64 0, .slice none 0 0] 47) = w0 at *
 refine hRo.mono ?_
 rintro e w1 ⟨rfl, hb1⟩
 have b1 := b0.trans (hb1.mono b0.size)
 have x1 := box_kept x0 hb1
 have y1 := box_kept y0 hb1
 have z1 := box_kept z0 hb1
 have hs1 := hb1.size
 clear hRo g0 g1 c0 c1 x0 y0 z0
 obtain ⟨g0, g1, -, -⟩ := box_two x1
 obtain ⟨c0, c1⟩ := box_cell y1
 obtain ⟨d0, d1, d2, ⟨ea, ec, d3, hd3⟩, d4, ⟨ra, rc, d5, hd5⟩, ⟨ga, gc, d6, hd6⟩⟩ := hSd.below hsb b1
 have hE1 := hEn w1 ea ra ga ec rc gc (hR.below b1) hd3 hd5 hd6
 have HSD : Hid (ShdCells w sb (so + m * 7) X) := hSd
 have D3 : Hid _ := d3
 clear hSd hd3 hd5 hd6 hEn
 go_wp2_with fail
 refine hE1.mono ?_
 rintro e w2 ⟨xa, xn, xc, rfl, hLs, hwhere, hb2⟩
 have HWH : Hid (∀ n eb eo, n < L.length → xa = some ⟨eb, eo, none⟩ → eb ≠ w.heap.size + 2) := fun n eb eo hn he => by
  have hlt2 : w.heap.size + 2 < w1.heap.size := lt_heap z1
  rcases hwhere with ⟨h1, h2⟩ | h
  ·obtain ⟨ea', ec', d3', hd3'⟩ := HSD.out.entries
   have hd3'' := hd3'
   obtain ⟨eb2, eo2, pa2, pc2, e2, hc2, -⟩ := hd3''.get n (by rw [← h2]; exact hn)
   have hlt := World.block_lt_of_cell? _ _ hc2
   have he3 : ea' = ea := by
    have h5 := (b1.cell (p := ⟨sb, so + m * 7 + 3, none⟩) hsb).trans d3'
    rw [D3.out] at h5
    cases h5
    rfl
   rw [← h1, he] at he3
   rw [he3] at e2
   cases e2
   have hlt' : eb < w.heap.size := hlt
   omega
  ·have := h eb eo he
   omega
 have hxn := hLs.len
 subst hxn
 have b2 := b1.trans (hb2.mono b1.size)
 have x2 := box_kept x1 hb2
 have y2 := box_kept y1 hb2
 have z2 := box_kept z1 hb2
 have hs2 := hb2.size
 replace hP := hP w2 xa _ xc (hR.below b2) hLs
 clear hE1 g0 g1 c0 c1 d0 d1 d2 d3 d4 d5 d6 x1 y1 z1 hwhere HSD D3
 by_cases q4 : (pathF L i).1 = 0
 ·have hin : 0 ≤ i ∧ i < (L.length : Int) := by
   by_cases h : i < 0 ∨ (L.length : Int) ≤ i
   ·unfold pathF at q4; rw [cc2, if_neg (fun g => g rfl), if_pos h] at q4; omega
   ·omega
  obtain ⟨n, rfl⟩ : ∃ n : Nat, i = n := ⟨i.toNat, by omega⟩
  have hPF : pathF L (n : Int) = (0, 0) := by unfold pathF; rw [cc2, if_neg (fun g => g rfl), if_neg (by omega)]
  have HE : Hid (showL f (m : Int) (n : Int) = (⟨L.getD n [], (n : Int), (m : Int), pathL L n, f.book.getD row rec0, (row : Int), pathL (rowsOf f.book) row, (f.book.length : Int), mth (rowsOf f.book)⟩, 0)) := by have := HSO q4; rw [Int.toNat_natCast] at this; exact this
  have HDG := show_digs f (m : Int) (n : Int)
  rw [hPF, Int.toNat_natCast] at hP
  have hBPF : bookPathF f.book (row : Int) = (0, 0) := bookPath_right hbr (by omega) (by omega)
  have hBP' := fun w' h1 h2 => hBP f.book (row : Int) (.slice ba f.book.length bc) w' h1 h2
  have hBH' := fun w' h1 h2 => hBH f.book (.slice ba f.book.length bc) w' h1 h2
  have hbs : bookSize f.book = (f.book.length : Int) := by unfold bookSize; rw [hbr, if_neg (fun h => h rfl)]
  have hbt : bookRoot f.book = mth (rowsOf f.book) := by unfold bookRoot; rw [hbr, if_neg (fun h => h rfl)]
  rw [hBPF, Int.toNat_natCast] at hBP'
  rw [hbr, hbs, hbt, mth_length] at hBH'
  rw [HE.out] at HDG
  dsimp only at HDG
  clear HSP HSO q4 hPF hBPF hbs hbt
  go_wp2_with fail
  refine hP.mono ?_
  rintro e w3 ⟨pa, pn, pc, rfl, hpp, -, hb3⟩
  replace hpp := hpp trivial
  have d3 : Below w3.heap.size w3 (w3.alloc (.cells #[.int .i64 0, .int .i64 0] 31)) := (Below.refl _ _).alloc (Nat.le_refl _) _
  have c3 := hb3.trans (d3.mono hb3.size)
  have b3 := b2.trans (c3.mono b2.size)
  have x3 := box_kept x2 c3
  have y3 := box_kept y2 c3
  have z3 := box_kept z2 c3
  have F3 := box_new w3 #[.int .i64 0, .int .i64 0] 31
  have hL3 := hLs.below c3
  have hpp3 := hpp.below d3 (Nat.le_refl _)
  have hs3 : w2.heap.size ≤ w3.heap.size := hb3.size
  obtain ⟨f0, f1, f2, f3⟩ := box_two F3
  obtain ⟨g0, g1, -, -⟩ := box_two x3
  replace hBP' := hBP' _ (hR.below b3) (hBk.below b3)
  clear hP x2 y2 z2 hLs hb3 d3 c3 hpp
  go_wp2_with fail
  generalize w3.alloc (.cells #[.int .i64 0, .int .i64 0] 31) = w4 at *
  refine hBP'.mono ?_
  rintro e w5 ⟨va, vn, vc, rfl, hvp, -, hb5⟩
  replace hvp := hvp trivial
  have b5 := b3.trans (hb5.mono b3.size)
  have x5 := box_kept x3 hb5
  have y5 := box_kept y3 hb5
  have z5 := box_kept z3 hb5
  have F5 := box_kept F3 hb5
  have hL5 := hL3.below hb5
  have hpp5 := hpp3.below hb5 (Nat.le_refl _)
  have hs4 : w.heap.size + 2 < w2.heap.size := by omega
  obtain ⟨f50, f51, f52, f53⟩ := box_two F5
  have hpL := hpp5.lists (path_bytes L n) (digs_short (path_digs L n))
  have hvL := hvp.lists (path_bytes (rowsOf f.book) row) (digs_short (path_digs (rowsOf f.book) row))
  have o1 := off_set (o := 0) F5 (.int .i64 0)
  have o2 := off_set (o := 1) (heap_setCell_same _ _ 0 _ _ (.int .i64 0) F5) (.int .i64 0)
  have n0 : w.heap.size ≠ w3.heap.size := by omega
  have n1 : w.heap.size + 1 ≠ w3.heap.size := by omega
  have n2 : w.heap.size + 2 ≠ w3.heap.size := by omega
  have x6 := two_far x5 n0 (.int .i64 0) (.int .i64 0)
  have y6 := two_far y5 n1 (.int .i64 0) (.int .i64 0)
  have z6 := two_far z5 n2 (.int .i64 0) (.int .i64 0)
  have b6 := two_below b5 (show w.heap.size ≤ w3.heap.size by omega) (.int .i64 0) (.int .i64 0)
  have hL6 := (hL5.off o1).off o2
  have hpL6 := (hpL.off o1).off o2
  have hvL6 := (hvL.off o1).off o2
  obtain ⟨e0, e1, -, -⟩ := box_two (two_set F5 (.int .i64 0) (.int .i64 0))
  obtain ⟨g60, g61, -, -⟩ := box_two x6
  replace hBH' := hBH' _ (hR.below b6) (hBk.below b6)
  clear hBP' x3 y3 z3 F3 hL3 hpp3 f0 f1 f2 f3 g0 g1 x5 y5 z5 F5 hL5 hpp5 hvp hpL hvL o1 o2 hb5 b5
  go_wp2_with fail
  generalize (w5.setCell ⟨w3.heap.size, 0, none⟩ (.int .i64 0)).setCell ⟨w3.heap.size, 1, none⟩ (.int .i64 0) = w6 at *
  refine hBH'.mono ?_
  rintro e w7 ⟨ha, hc, rfl, hht, hb7⟩
  have d8 : Below w7.heap.size w7 ((w7.alloc (.cells #[.int .i64 (f.book.length : Int), .slice ha 32 hc] 39)).alloc (.cells #[.int .i64 0, .int .i64 0] 31)) := ((Below.refl _ _).alloc (Nat.le_refl _) _).alloc (by simp) _
  have c8 := hb7.trans (d8.mono hb7.size)
  have b8 := b6.trans (c8.mono b6.size)
  have x8 := box_kept x6 c8
  have y8 := box_kept y6 c8
  have z8 := box_kept z6 c8
  have h8 := box_one w7 #[.int .i64 (f.book.length : Int), .slice ha 32 hc] 39 (.cells #[.int .i64 0, .int .i64 0] 31)
  have hL8 := hL6.below c8
  have hpL8 := hpL6.below c8
  have hvL8 := hvL6.below c8
  have hht8 := hht.below d8
  clear hBH' x6 y6 z6 hL6 hpL6 hvL6 hht d8 e0 e1 g60 g61 f50 f51 f52 f53
  go_wp2_with fail
  generalize (w7.alloc (.cells #[.int .i64 (f.book.length : Int), .slice ha 32 hc] 39)).alloc (.cells #[.int .i64 0, .int .i64 0] 31) = W at *
  generalize w7.heap.size = HB at *
  obtain ⟨eb, eo, ya, yc, rfl, hce, hcb⟩ := hL8.get n (by omega)
  have heb : eb < W.heap.size := World.block_lt_of_cell? _ _ hce
  have hebR : eb ≠ w.heap.size + 2 := HWH.out n eb eo (by omega) rfl
  obtain ⟨ba', bc', eB, hB1, hB2, -, hBc⟩ := hBk
  cases eB
  obtain ⟨kb, ko, rfl, hkw, hkc⟩ := hBc.resolve_left (by omega)
  obtain ⟨r0, r1, r2, r3, ra', rc', r4, hrr⟩ := (hkc row hrl).below hkw b8
  have hkb : kb < W.heap.size := Nat.lt_of_lt_of_le hkw b8.size
  have hkbR : kb ≠ w.heap.size + 2 := by omega
  have hrok : (f.book.getD row rec0).root.length ≤ 1000000 := by have := (wrongRec_ok ((wrongRecs_ok (l := f.book) (by rw [hbr])).2 row hrl)); omega
  obtain ⟨RR, HRR⟩ : ∃ RR, Hid (f.book.getD row rec0 = RR) := ⟨_, rfl⟩
  rw [HRR.out] at r0 r1 r2 r3 r4 hrr hrok HE
  have hmb := bytes_mth (rowsOf f.book)
  have HFIN : Hid (∀ (wL : World) (ca ka : Option Addr) (cc kc b1 b2 : Nat), Below W.heap.size W wL → wL.ownsRow b1 5 1 (.slice ca (L.getD n []).length cc) (L.getD n []).length ((L.getD n []).map (Value.int .u8)) → wL.ownsRow b2 5 1 (.slice ka RR.root.length kc) RR.root.length (RR.root.map (Value.int .u8)) → wL.heap[w.heap.size + 2]? = some (.cells #[.slice none 0 0, .int .i64 0, .int .i64 0, .slice none 0 0, .int .i64 0, .int .i64 0, .int .i64 0, .int .i64 0, .slice none 0 0, .int .i64 0, .slice none 0 0, .int .i64 0, .slice none 0 0] 47 (0, 0)) ∧ ShwV ((((((((((((((wL.setCell ⟨w.heap.size + 2, 0, none⟩ (.slice ca (L.getD n []).length cc)).setCell ⟨w.heap.size + 2, 1, none⟩ (.int .i64 (n : Int))).setCell ⟨w.heap.size + 2, 2, none⟩ (.int .i64 (m : Int))).setCell ⟨w.heap.size + 2, 3, none⟩ (.slice pa pn pc)).setCell ⟨w.heap.size + 2, 4, none⟩ (.int .i64 RR.shard)).setCell ⟨w.heap.size + 2, 5, none⟩ (.int .i64 RR.from')).setCell ⟨w.heap.size + 2, 6, none⟩ (.int .i64 RR.to')).setCell ⟨w.heap.size + 2, 7, none⟩ (.int .i64 RR.size)).setCell ⟨w.heap.size + 2, 8, none⟩ (.slice ka RR.root.length kc)).setCell ⟨w.heap.size + 2, 9, none⟩ (.int .i64 (row : Int))).setCell ⟨w.heap.size + 2, 10, none⟩ (.slice va vn vc)).setCell ⟨w.heap.size + 2, 11, none⟩ (.int .i64 (f.book.length : Int))).setCell ⟨w.heap.size + 2, 12, none⟩ (.slice ha 32 hc))) (.agg #[.slice ca (L.getD n []).length cc, .int .i64 (n : Int), .int .i64 (m : Int), .slice pa pn pc, .int .i64 RR.shard, .int .i64 RR.from', .int .i64 RR.to', .int .i64 RR.size, .slice ka RR.root.length kc, .int .i64 (row : Int), .slice va vn vc, .int .i64 (f.book.length : Int), .slice ha 32 hc]) (showL f (m : Int) (n : Int)).1 ∧ Below w.heap.size w ((((((((((((((wL.setCell ⟨w.heap.size + 2, 0, none⟩ (.slice ca (L.getD n []).length cc)).setCell ⟨w.heap.size + 2, 1, none⟩ (.int .i64 (n : Int))).setCell ⟨w.heap.size + 2, 2, none⟩ (.int .i64 (m : Int))).setCell ⟨w.heap.size + 2, 3, none⟩ (.slice pa pn pc)).setCell ⟨w.heap.size + 2, 4, none⟩ (.int .i64 RR.shard)).setCell ⟨w.heap.size + 2, 5, none⟩ (.int .i64 RR.from')).setCell ⟨w.heap.size + 2, 6, none⟩ (.int .i64 RR.to')).setCell ⟨w.heap.size + 2, 7, none⟩ (.int .i64 RR.size)).setCell ⟨w.heap.size + 2, 8, none⟩ (.slice ka RR.root.length kc)).setCell ⟨w.heap.size + 2, 9, none⟩ (.int .i64 (row : Int))).setCell ⟨w.heap.size + 2, 10, none⟩ (.slice va vn vc)).setCell ⟨w.heap.size + 2, 11, none⟩ (.int .i64 (f.book.length : Int))).setCell ⟨w.heap.size + 2, 12, none⟩ (.slice ha 32 hc)))) := fun wL ca ka cc kc b1 b2 hb h1 h2 => by
   have zL := box_kept z8 hb
   have hpl := (hpL8.below hb).len
   have hvl := (hvL8.below hb).len
   subst hpl
   subst hvl
   have hV : ShwV wL (.agg #[.slice ca (L.getD n []).length cc, .int .i64 (n : Int), .int .i64 (m : Int), .slice pa (pathL L n).length pc, .int .i64 RR.shard, .int .i64 RR.from', .int .i64 RR.to', .int .i64 RR.size, .slice ka RR.root.length kc, .int .i64 (row : Int), .slice va (pathL (rowsOf f.book) row).length vc, .int .i64 (f.book.length : Int), .slice ha 32 hc]) ⟨L.getD n [], (n : Int), (m : Int), pathL L n, RR, (row : Int), pathL (rowsOf f.book) row, (f.book.length : Int), mth (rowsOf f.book)⟩ :=
    ⟨ca, cc, pa, pc, ka, kc, va, vc, ha, hc, by rw [mth_length], ⟨bytesAt_own h1, hcb.bytes, hcb.short⟩, hpL8.below hb, ⟨bytesAt_own h2, hrr.bytes, hrr.short⟩, hvL8.below hb, by rw [mth_length]; exact hht8.below hb⟩
   refine ⟨zL, ?_, thirteen_below (b8.trans (hb.mono b8.size)) (show w.heap.size ≤ w.heap.size + 2 by omega) (.slice ca (L.getD n []).length cc) (.int .i64 (n : Int)) (.int .i64 (m : Int)) (.slice pa (pathL L n).length pc) (.int .i64 RR.shard) (.int .i64 RR.from') (.int .i64 RR.to') (.int .i64 RR.size) (.slice ka RR.root.length kc) (.int .i64 (row : Int)) (.slice va (pathL (rowsOf f.book) row).length vc) (.int .i64 (f.book.length : Int)) (.slice ha 32 hc)⟩
   rw [HE.out]
   exact hV.offZ (offZ_13 zL (.slice ca (L.getD n []).length cc) (.int .i64 (n : Int)) (.int .i64 (m : Int)) (.slice pa (pathL L n).length pc) (.int .i64 RR.shard) (.int .i64 RR.from') (.int .i64 RR.to') (.int .i64 RR.size) (.slice ka RR.root.length kc) (.int .i64 (row : Int)) (.slice va (pathL (rowsOf f.book) row).length vc) (.int .i64 (f.book.length : Int)) (.slice ha 32 hc)) HDG.1 HDG.2
  have HCl := fun w' (h : Below W.heap.size W w') => cloneM_any (L.getD n []) _ w' (hcb.below h) (by have := cc6 n; omega)
  have HCr := fun w' (h : Below W.heap.size W w') => copyOfRecord_any RR _ w' (hrr.below h) hrok
  have hcells : ∀ w', Below W.heap.size W w' → w'.cell? ⟨w.heap.size + 1, 0, none⟩ = some (.int .i64 (m : Int)) ∧ w'.cell? ⟨w.heap.size, 1, none⟩ = some (.slice (some ⟨kb, ko, none⟩) f.book.length bc) ∧ w'.cell? ⟨HB, 0, none⟩ = some (.int .i64 (f.book.length : Int)) ∧ w'.cell? ⟨HB, 1, none⟩ = some (.slice ha 32 hc) ∧ w'.cell? ⟨eb, eo + n, none⟩ = some (.slice ya (L.getD n []).length yc) ∧ w'.cell? ⟨kb, ko + row * 5, none⟩ = some (.int .i64 RR.shard) ∧ w'.cell? ⟨kb, ko + row * 5 + 1, none⟩ = some (.int .i64 RR.from') ∧ w'.cell? ⟨kb, ko + row * 5 + 2, none⟩ = some (.int .i64 RR.to') ∧ w'.cell? ⟨kb, ko + row * 5 + 3, none⟩ = some (.int .i64 RR.size) ∧ w'.cell? ⟨kb, ko + row * 5 + 4, none⟩ = some (.slice ra' RR.root.length rc') := fun w' h =>
   ⟨(box_cell (box_kept y8 h)).1, (box_two (box_kept x8 h)).2.1, (box_two (box_kept h8 h)).1, (box_two (box_kept h8 h)).2.1, (h.cell (p := ⟨eb, eo + n, none⟩) heb).trans hce, (h.cell (p := ⟨kb, ko + row * 5, none⟩) hkb).trans r0, (h.cell (p := ⟨kb, ko + row * 5 + 1, none⟩) hkb).trans r1, (h.cell (p := ⟨kb, ko + row * 5 + 2, none⟩) hkb).trans r2, (h.cell (p := ⟨kb, ko + row * 5 + 3, none⟩) hkb).trans r3, (h.cell (p := ⟨kb, ko + row * 5 + 4, none⟩) hkb).trans r4⟩
  have HE2 : Hid ((showL f (m : Int) (n : Int)).2 = 0) := by show _ = _; rw [HE.out]
  have hn1 : (n : Int) < L.length := by omega
  have hn0 : (0 : Int) ≤ n := by omega
  have hw1 : (row : Int) < f.book.length := by omega
  have hw0 : (0 : Int) ≤ row := by omega
  obtain ⟨a0, a1, a2, a3, a4, a5, a6, a7, a8, a9⟩ := hcells W (Below.refl _ _)
  have HZ : Hid (W.heap[w.heap.size + 2]? = some (.cells #[.slice none 0 0, .int .i64 0, .int .i64 0, .slice none 0 0, .int .i64 0, .int .i64 0, .int .i64 0, .int .i64 0, .slice none 0 0, .int .i64 0, .slice none 0 0, .int .i64 0, .slice none 0 0] 47 (0, 0))) := z8
  have HCE : Hid _ := hcells
  have HCL : Hid _ := HCl
  have HCR : Hid _ := HCr
  have lx : w.heap.size < W.heap.size := lt_heap x8
  have ly : w.heap.size + 1 < W.heap.size := lt_heap y8
  have lz : w.heap.size + 2 < W.heap.size := lt_heap z8
  have lh : HB < W.heap.size := lt_heap h8
  have nx : w.heap.size ≠ w.heap.size + 2 := by omega
  have ny : w.heap.size + 1 ≠ w.heap.size + 2 := by omega
  have nh : HB ≠ w.heap.size + 2 := fun e => by rw [e] at h8; rw [h8] at z8; cases z8
  have HNU : Hid (∀ o z, W.cell? ⟨w.heap.size + 2, o, none⟩ ≠ some (.int .u8 z)) := nought_u8 z8
  have HCL2 : ∀ w' : World, (W.heap.size ≤ w'.heap.size ∧ ∀ b o, b < W.heap.size → b ≠ w.heap.size + 2 → w'.cell? ⟨b, o, none⟩ = W.cell? ⟨b, o, none⟩) → Calls Tryz.prog 29 #[.slice ya (L.getD n []).length yc] w' fun e w'' => ∃ xa xc, e = .returned (.slice xa (L.getD n []).length xc) ∧ w''.ownsRow w'.heap.size 5 1 (.slice xa (L.getD n []).length xc) (L.getD n []).length ((L.getD n []).map (Value.int .u8)) ∧ Below w'.heap.size w' w'' := fun w' h => cloneM_any (L.getD n []) _ w' (some_keptR hcb HNU.out h) (by have := cc6 n; omega)
  have HCR2 : ∀ w' : World, (W.heap.size ≤ w'.heap.size ∧ ∀ b o, b < W.heap.size → b ≠ w.heap.size + 2 → w'.cell? ⟨b, o, none⟩ = W.cell? ⟨b, o, none⟩) → _ := fun w' h => copyOfRecord_any RR _ w' (some_keptR hrr HNU.out h) hrok
  clear hcells HCl HCr x8 y8 h8 hL8 hpL8 hvL8 hht8 hR hmb HDG HE r0 r1 r2 r3 r4 hrr hrok hce hcb hkc hBc hB1 hB2 HRR hbr hin c8 b8 b6 b3 b2 b1 b0 hb1 hb2 hb7 hs0 hs1 hs2 hs3 hs4 n0 n1 n2 hz HX HL cc1 cc2 cc5 cc6 hsb hmw hS1 hS2 hsl q3 hk1 hk0 q1' q2' q1 q2 HWH HNU hkw
  clear HCE HCL HCR
  generalize L.getD n [] = EN at *
  have zD : W.drew.heap[w.heap.size + 2]? = some (.cells #[.slice none 0 0, .int .i64 0, .int .i64 0, .slice none 0 0, .int .i64 0, .int .i64 0, .int .i64 0, .int .i64 0, .slice none 0 0, .int .i64 0, .slice none 0 0, .int .i64 0, .slice none 0 0] 47 (0, 0)) := z8
  go_region_held3 (fun w' => W.heap.size ≤ w'.heap.size ∧ ∀ b o, b < W.heap.size → b ≠ w.heap.size + 2 → w'.cell? ⟨b, o, none⟩ = W.cell? ⟨b, o, none⟩) (first | (with_reducible assumption) | (with_reducible exact keptR_drew W _) | (with_reducible exact keptR_13 hK2 zL _ _ _ _ _ _ _ _ _ _ _ _ _))
   (first
   | (go_at_call 29; refine (HCL2 _ (by assumption)).mono ?_; rintro e wC ⟨ca, cc, rfl, hoC, hbC⟩; first | (have zL := box_kept zR hbC; have hK2 := keptR_below hKR hbC; obtain ⟨t0, t1, t2, t3, t4, t5, t6, t7, t8, t9, t10, t11, t12⟩ := box_13 zL; obtain ⟨u0, u1, u2, u3, u4, u5, u6, u7, u8, u9, u10, u11, u12⟩ := free_13 zL) | (have zC := box_kept zD hbC; have hKC := keptR_below (keptR_drew W (w.heap.size + 2)) hbC))
   | (go_at_call 30; refine (HCR2 _ (by assumption)).mono ?_; rintro e wR ⟨ka, kc, rfl, hoR, hbR⟩; first | (have zL := box_kept zC hbR; have hK2 := keptR_below hKC hbR; obtain ⟨t0, t1, t2, t3, t4, t5, t6, t7, t8, t9, t10, t11, t12⟩ := box_13 zL; obtain ⟨u0, u1, u2, u3, u4, u5, u6, u7, u8, u9, u10, u11, u12⟩ := free_13 zL) | (have zR := box_kept zD hbR; have hKR := keptR_below (keptR_drew W (w.heap.size + 2)) hbR)))
  have hoC2 := own_below hoC hbR (Nat.le_refl _)
  have cL : Below W.heap.size W wR := ((Below.refl _ _).drew.trans hbC).trans (hbR.mono hKC.1)
  obtain ⟨-, hV, bL⟩ := HFIN.out wR ca ka cc kc _ _ cL hoC2 hoR
  obtain ⟨s0, s1, s2, s3, s4, s5, s6, s7, s8, s9, s10, s11, s12⟩ := box_13 (thirteen_set zL (.slice ca EN.length cc) (.int .i64 (n : Int)) (.int .i64 (m : Int)) (.slice pa pn pc) (.int .i64 RR.shard) (.int .i64 RR.from') (.int .i64 RR.to') (.int .i64 RR.size) (.slice ka RR.root.length kc) (.int .i64 (row : Int)) (.slice va vn vc) (.int .i64 (f.book.length : Int)) (.slice ha 32 hc))
  have HV : Hid _ := hV
  clear hV HFIN hoC2 cL hoC hoR hbC hbR hKC hK2 zC zL t0 t1 t2 t3 t4 t5 t6 t7 t8 t9 t10 t11 t12 u0 u1 u2 u3 u4 u5 u6 u7 u8 u9 u10 u11 u12
  go_wp2_with fail
  exact bodyPost_ret (v := .tuple #[.agg #[.slice ca EN.length cc, .int .i64 (n : Int), .int .i64 (m : Int), .slice pa pn pc, .int .i64 RR.shard, .int .i64 RR.from', .int .i64 RR.to', .int .i64 RR.size, .slice ka RR.root.length kc, .int .i64 (row : Int), .slice va vn vc, .int .i64 (f.book.length : Int), .slice ha 32 hc], .int .i64 0]) (by simp [results, Tryz.results11, go_sem, s0, s1, s2, s3, s4, s5, s6, s7, s8, s9, s10, s11, s12]) rfl ⟨_, by rw [HE2.out], HV.out, bL⟩
 ·have HE : Hid (showL f (m : Int) i = (shw0, (pathF L i).1)) := HSP q4
  have q4' : ((pathF L i).1 != 0) = true := by simpa using q4
  generalize pathF L i = PF at *
  obtain ⟨E1, E2⟩ := PF
  dsimp only at HE q4' hP q4
  clear HSP HSO
  go_wp2_with fail
  refine hP.mono ?_
  rintro e w3 ⟨pa, pn, pc, rfl, -, -, hb3⟩
  have d3 : Below w3.heap.size w3 (w3.alloc (.cells #[.int .i64 E1, .int .i64 E2] 31)) := (Below.refl _ _).alloc (Nat.le_refl _) _
  have c3 := hb3.trans (d3.mono hb3.size)
  have b3 := b2.trans (c3.mono b2.size)
  have z3 := box_kept z2 c3
  have hs3 : w.heap.size + 2 < w3.heap.size := lt_heap (box_kept z2 hb3)
  obtain ⟨f0, f1, -, -⟩ := box_two (box_new w3 #[.int .i64 E1, .int .i64 E2] 31)
  have n1 : w.heap.size + 2 ≠ w3.heap.size := by omega
  obtain ⟨t0, t1, t2, t3, t4, t5, t6, t7, t8, t9, t10, t11, t12⟩ := box_13 z3
  obtain ⟨r0, r1, r2, r3, r4, r5, r6, r7, r8, r9, r10, r11, r12⟩ := free_13 z3
  obtain ⟨s0, s1, s2, s3, s4, s5, s6, s7, s8, s9, s10, s11, s12⟩ := box_13 (thirteen_set z3 (.slice none 0 0) (.int .i64 0) (.int .i64 0) (.slice none 0 0) (.int .i64 0) (.int .i64 0) (.int .i64 0) (.int .i64 0) (.slice none 0 0) (.int .i64 0) (.slice none 0 0) (.int .i64 0) (.slice none 0 0))
  have bE := thirteen_below b3 (show w.heap.size ≤ w.heap.size + 2 by omega) (.slice none 0 0) (.int .i64 0) (.int .i64 0) (.slice none 0 0) (.int .i64 0) (.int .i64 0) (.int .i64 0) (.int .i64 0) (.slice none 0 0) (.int .i64 0) (.slice none 0 0) (.int .i64 0) (.slice none 0 0)
  clear hP x2 y2 z2 hLs hb3 d3 c3
  go_wp2_with fail
  generalize w3.alloc (.cells #[.int .i64 E1, .int .i64 E2] 31) = w4 at *
  generalize w3.heap.size = qq at *
  go_region
  all_goals
   go_wp2_with fail
   replace bE := bE.drew
   exact bodyPost_ret (v := .tuple #[.agg #[.slice none 0 0, .int .i64 0, .int .i64 0, .slice none 0 0, .int .i64 0, .int .i64 0, .int .i64 0, .int .i64 0, .slice none 0 0, .int .i64 0, .slice none 0 0, .int .i64 0, .slice none 0 0], .int .i64 E1]) (by simp [results, Tryz.results11, go_sem, s0, s1, s2, s3, s4, s5, s6, s7, s8, s9, s10, s11, s12]) rfl ⟨_, by rw [HE.out], by rw [HE.out]; exact shwV_nil _, bE⟩

end Go.Proofs.YtkjlchfmplcobaeGreatDoor
