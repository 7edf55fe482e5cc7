/- The walk of submit: package fleet as it landed. -/
import Derived.Test.YtkjlchfmplcobaeGreatDoorProg
import Derived.Test.YtkjlchfmplcobaeGreatDoorRunAD
import Derived.Test.YtkjlchfmplcobaeGreatDoorRunAU
import Derived.WalkKit
import Derived.WalkSpells
import Derived.WalkLawsBesides
import Derived.Deep.RegionLaw
import Derived.Deep.RegionHeld3
import Derived.BigRegion
namespace Go.Proofs.YtkjlchfmplcobaeGreatDoor
open Go.RowKit

theorem Tryz.info37b' : (Tryz.prog.info? 37).map (fun i => (i.zero, i.size, i.bytes)) = some (some (.slice none 0 0), 1, 24) := by kernel_rfl
/-- The entry was taken. -/
theorem submit_end {τ : Nat → Tag} {N gp sb n c k g cap L yc : Nat} {W w2 w6 : World} {ss : List Shd} {V : Nat → ShV} {l : List Rec} {bv : Value} {d : List Int} {ya : Option Addr} {xs : List Value} (hB : GoB τ N W gp (.slice (some ⟨sb, 0, none⟩) n c) bv l) (hS : ShM τ N W (.slice (some ⟨sb, 0, none⟩) n c) ss V) (hn : ss.length = n) (hk : k < n) (hN : N ≤ W.heap.size)
    (hx : ∀ j, j < (ss.getD k shd0).entries.length → ∃ y, xs[j]? = some y ∧ ByM τ W y ((ss.getD k shd0).entries.getD j [])) (hxl : xs.length = (ss.getD k shd0).entries.length) (hT : Tg τ W (tEnt k) (V k).1)
    (b2 : Below W.heap.size W w2) (ho2 : w2.ownsRow W.heap.size 5 1 (.slice ya L yc) L (d.map (Value.int .u8))) (hd : Bytes d)
    (hg6 : (w2.alloc (.cells #[.slice ya L yc] 37)).grownBy w6 (V k).1.ownBlock) (ho6 : w6.ownsRow N 37 1 (.slice (some ⟨g, 0, none⟩) ((ss.getD k shd0).entries.length + 1) cap) ((ss.getD k shd0).entries.length + 1) (xs ++ [.slice ya L yc])) (ha6 : (V k).1.ownBlock = some g ∨ g = (w2.alloc (.cells #[.slice ya L yc] 37)).heap.size) (hlt6 : g < w6.heap.size) :
    ∃ τ', GoF τ' N (w6.setCell ⟨sb, k * 7 + 3, none⟩ (.slice (some ⟨g, 0, none⟩) ((ss.getD k shd0).entries.length + 1) cap)) gp ⟨ss.set k { (ss.getD k shd0) with entries := (ss.getD k shd0).entries ++ [d] }, l⟩ ∧ Keep τ τ' N W (w6.setCell ⟨sb, k * 7 + 3, none⟩ (.slice (some ⟨g, 0, none⟩) ((ss.getD k shd0).entries.length + 1) cap)) ∧ w6.cell? ⟨sb, k * 7 + 3, none⟩ = some (V k).1 ∧ w6.frozen? ⟨sb, k * 7 + 3, none⟩ = false := by
  have bA : Below W.heap.size W (w2.alloc (.cells #[.slice ya L yc] 37)) := b2.alloc b2.size _
  have hyA : ByM (ext τ W.heap.size tFix) (w2.alloc (.cells #[.slice ya L yc] 37)) (.slice ya L yc) d := byM_own (ho2.alloc _) hd
  generalize w2.alloc (.cells #[.slice ya L yc] 37) = A at *
  have U1 := upd_call (τ := τ) bA tFix
  have U2 : Upd (ext τ W.heap.size tFix) (ext (ext τ W.heap.size tFix) A.heap.size (tEnt k)) A w6 (V k).1.ownBlock := ⟨hg6, fun _ hb => ext_old hb⟩
  have hTA := hT.upd U1
  have hmine : ∀ b, (V k).1.ownBlock = some b → ext τ W.heap.size tFix b = tEnt k := fun b hb => (hTA b hb).2
  have hO6 := ((hS.out k).upd U1 no_row).upd U2 (fun b hb => by rw [hmine b hb]; exact .inr (.inr (.inr (.inr (.inl rfl)))))
  have hB6 := (hB.upd U1 no_row).upd U2 (fun b hb => by rw [hmine b hb]; simp [tEnt, tFl, tBk, tFix])
  have hR6 := ((hS.root k (by omega)).upd U1 no_row).upd U2 (fun b hb => by rw [hmine b hb]; simp [tEnt, tFix])
  have hG6 := ((hS.seg k (by omega)).upd U1 no_row (fun _ => no_row)).upd U2 (fun b hb => by rw [hmine b hb]; simp [tEnt, tSeg]) (fun j b hb => by rw [hmine b hb]; simp [tEnt, tPk])
  have hE6 := EntM.snoc (N := N) hTA (fun j hj => by obtain ⟨y, h1, h2⟩ := hx j hj; exact ⟨y, h1, h2.upd U1 no_row⟩) hxl ho6 hg6 ha6 hlt6 hyA
  obtain ⟨sb', e, hNs, hs6, ht6, hf6, hc6⟩ := hO6.cells hn hk
  cases e
  generalize hev : (Value.slice (some ⟨g, 0, none⟩) ((ss.getD k shd0).entries.length + 1) cap) = ev at *
  have hO7 := hO6.store (i := 3) (u := ev) (s' := { (ss.getD k shd0) with entries := (ss.getD k shd0).entries ++ [d] }) (v' := (ev, (V k).2.1, (V k).2.2)) hn hk (by omega) rfl
  have U3 := upd_set (ext (ext τ W.heap.size tFix) A.heap.size (tEnt k)) w6 sb (k * 7 + 3) ev
  have ne : ∀ t : Tag, t ≠ tSh → ∀ b, some sb = some b → (ext (ext τ W.heap.size tFix) A.heap.size (tEnt k)) b ≠ t := fun t h1 b hb e => by cases hb; exact h1 (e.symm.trans ht6)
  have hS7 : ShM _ N _ _ _ _ := hO7.back (by rw [if_pos rfl, getD_set_same (by omega)]; exact hE6.upd U3 (ne _ (by decide)) (ne _ (by simp [tEnt, tSh]))) (by rw [if_pos rfl, getD_set_same (by omega)]; exact hR6.upd U3 (ne _ (by decide))) (by rw [if_pos rfl, getD_set_same (by omega)]; exact hG6.upd U3 (ne _ (by simp [tSeg, tSh])) (fun j => ne _ (by simp [tPk, tSh])))
  have hB7 := hB6.upd U3 (fun b hb => ⟨ne _ (by decide) b hb, ne _ (by decide) b hb, ne _ (by decide) b hb⟩)
  have hcell : w6.cell? ⟨sb, k * 7 + 3, none⟩ = some (V k).1 := hc6 3 (by omega)
  refine ⟨_, hB7.goF hS7, ?_, hcell, hf6 _⟩
  have K1 := keep_call (τ := τ) bA hN tFix
  have hNA : N ≤ A.heap.size := Nat.le_trans hN bA.size
  have hold : ∀ b, (V k).1.ownBlock = some b → N ≤ b := fun b hb => by
    obtain ⟨-, ys, h1, -⟩ := hS.ent k (by omega)
    exact own_block h1 hb
  have K2 := keep_upd (N := N) U2 hNA (fun b hb => ⟨hold b hb, by rw [hmine b hb]; simp [tEnt, tFix, tNo, tAn]⟩)
  have K3 := keep_upd (N := N) U3 (by have := hg6.size; omega) (fun b hb => by cases hb; exact ⟨hNs, by rw [ht6]; decide⟩)
  exact (K1.trans K2).trans K3

theorem submit_none {f : Flt} {d : Dd} (h : ¬ 200 < d.entry.length) (hh : homeOf f.shards d.time = none) : submitL f d = (f, no 6) := by unfold submitL; rw [if_neg h, hh]
theorem submit_shut {f : Flt} {d : Dd} {k : Nat} (h : ¬ 200 < d.entry.length) (hh : homeOf f.shards d.time = some k) (hs : (f.shards.getD k shd0).state ≠ 1) : submitL f d = (f, no 8) := by unfold submitL; rw [if_neg h, hh]; simp only [if_pos hs]
theorem submit_had {f : Flt} {d : Dd} {k i : Nat} (h : ¬ 200 < d.entry.length) (hh : homeOf f.shards d.time = some k) (hs : (f.shards.getD k shd0).state = 1) (hp : placeOf (f.shards.getD k shd0).entries d.entry = some i) : submitL f d = (f, ⟨0, (k : Int), (i : Int), 0, []⟩) := by
  unfold submitL; rw [if_neg h, hh]; simp only [if_neg (fun g : (f.shards.getD k shd0).state ≠ 1 => g hs), hp]
theorem submit_full {f : Flt} {d : Dd} {k : Nat} (h : ¬ 200 < d.entry.length) (hh : homeOf f.shards d.time = some k) (hs : (f.shards.getD k shd0).state = 1) (hp : placeOf (f.shards.getD k shd0).entries d.entry = none) (hl : 100 ≤ (f.shards.getD k shd0).entries.length) : submitL f d = (f, no 5) := by
  unfold submitL; rw [if_neg h, hh]; simp only [if_neg (fun g : (f.shards.getD k shd0).state ≠ 1 => g hs), hp, if_pos hl]
theorem submit_new {f : Flt} {d : Dd} {k : Nat} (h : ¬ 200 < d.entry.length) (hh : homeOf f.shards d.time = some k) (hs : (f.shards.getD k shd0).state = 1) (hp : placeOf (f.shards.getD k shd0).entries d.entry = none) (hl : ¬ 100 ≤ (f.shards.getD k shd0).entries.length) : submitL f d = (⟨f.shards.set k { (f.shards.getD k shd0) with entries := (f.shards.getD k shd0).entries ++ [d.entry] }, f.book⟩, ⟨0, (k : Int), ((f.shards.getD k shd0).entries.length : Int), 0, []⟩) := by
  unfold submitL; rw [if_neg h, hh]; simp only [if_neg (fun g : (f.shards.getD k shd0).state ≠ 1 => g hs), hp, if_neg hl]; rfl
set_option maxRecDepth 100000 in
set_option maxHeartbeats 1000000 in
theorem submit_any (f : Flt) (d : Dd) (τ : Nat → Tag) (N gp : Nat) (da : Option Addr) (dc : Nat) (w : World) (hF : GoF τ N w gp f) (hN : N ≤ w.heap.size) (hd : Some' w (.slice da d.entry.length dc) d.entry) :
    Calls Tryz.prog 44 #[.pointer (some ⟨gp, 0, none⟩), .int .i64 d.time, .slice da d.entry.length dc] w fun e w' => ∃ av, e = .returned av ∧ Went τ N gp w w' av (submitL f d) := by
  obtain ⟨i0, hi0, hz0, hz1, hz2⟩ := info_parts Tryz.info37b'
  have b0 : Below w.heap.size w (((w.alloc (.cells #[.int .i64 d.time] 3)).alloc (.cells #[.slice da d.entry.length dc] 37)).alloc (.cells #[.int .i64 0, .int .i64 0, .int .i64 0, .int .i64 0, .slice none 0 0] 41)) := (((Below.refl _ _).alloc (Nat.le_refl _) _).alloc (by simp) _).alloc (by simp; omega) _
  have x0 := box_old _ (.cells #[.int .i64 0, .int .i64 0, .int .i64 0, .int .i64 0, .slice none 0 0] 41) (box_one w #[.int .i64 d.time] 3 (.cells #[.slice da d.entry.length dc] 37))
  have y0 := box_old _ (.cells #[.int .i64 0, .int .i64 0, .int .i64 0, .int .i64 0, .slice none 0 0] 41) (box_last w (.cells #[.int .i64 d.time] 3) #[.slice da d.entry.length dc] 37)
  have z0 := box_new ((w.alloc (.cells #[.int .i64 d.time] 3)).alloc (.cells #[.slice da d.entry.length dc] 37)) #[.int .i64 0, .int .i64 0, .int .i64 0, .int .i64 0, .slice none 0 0] 41
  have hz : ((w.alloc (.cells #[.int .i64 d.time] 3)).alloc (.cells #[.slice da d.entry.length dc] 37)).heap.size = w.heap.size + 2 := by simp
  rw [hz] at z0
  have hdl : d.entry.length ≤ 9223372036854775807 := by have := hd.short; unfold maxLen at this; omega
  have HNO : ∀ (w1 : World) (x : Ans) (u0 u1 u2 u3 u4 : Value), Hid (Below w.heap.size w w1 → x.root = [] → Went τ N gp w (((((w1.setCell ⟨w.heap.size + 2, 0, none⟩ u0).setCell ⟨w.heap.size + 2, 1, none⟩ u1).setCell ⟨w.heap.size + 2, 2, none⟩ u2).setCell ⟨w.heap.size + 2, 3, none⟩ u3).setCell ⟨w.heap.size + 2, 4, none⟩ u4) (.agg #[.int .i64 x.err, .int .i64 x.shard, .int .i64 x.place, .int .i64 x.size, .slice none 0 0]) (f, x)) := fun w1 x u0 u1 u2 u3 u4 h1 h2 => went_no hF hN h1 (by omega) h2 _ _ _ _ _
  by_cases h200 : 200 < d.entry.length
  · have HE : Hid (submitL f d = (f, no 4)) := by show _ = _; unfold submitL; rw [if_pos h200]
    have h2' : (200 : Int) < d.entry.length := by omega
    rw [HE.out]
    clear HE hF hd
    obtain ⟨c0, c1⟩ := box_cell y0
    go_enter Tryz.func44, Tryz.ntmps44
    go_wp2_with fail
    generalize ((w.alloc (.cells #[.int .i64 d.time] 3)).alloc (.cells #[.slice da d.entry.length dc] 37)).alloc (.cells #[.int .i64 0, .int .i64 0, .int .i64 0, .int .i64 0, .slice none 0 0] 41) = w0 at *
    refine (refused_any 4 w0).mono ?_
    rintro e w1 ⟨rfl, hb1⟩
    have b1 := b0.trans (hb1.mono b0.size)
    have z1 := box_kept z0 hb1
    obtain ⟨t0, t1, t2, t3, t4⟩ := box_five z1
    obtain ⟨r0, r1, r2, r3, r4⟩ := five_free z1
    obtain ⟨s0, s1, s2, s3, s4⟩ := box_five (five_set z1 (.int .i64 4) (.int .i64 0) (.int .i64 0) (.int .i64 0) (.slice none 0 0))
    have HG := HNO w1 (no 4) (.int .i64 4) (.int .i64 0) (.int .i64 0) (.int .i64 0) (.slice none 0 0)
    clear HNO x0 y0 z0 c0 c1
    go_wp2_with fail
    exact bodyPost_ret (v := .agg #[.int .i64 4, .int .i64 0, .int .i64 0, .int .i64 0, .slice none 0 0]) (by simp [results, Tryz.results44, go_sem, s0, s1, s2, s3, s4]) rfl ⟨_, rfl, HG.out b1 rfl⟩
  have h2' : ¬ (200 : Int) < d.entry.length := by omega
  obtain ⟨sa, sc, ba, bc, V, hB, hS⟩ := hF.open
  have U0 := upd_call (τ := τ) b0 tNo
  have hB0 := hB.upd U0 no_row
  have hS0 := hS.upd U0 no_row
  have hd0 := hd.below b0
  have K0 := keep_call (τ := τ) b0 hN tNo
  have hR0 : ext τ w.heap.size tNo (w.heap.size + 2) = tNo := ext_new (by omega)
  obtain ⟨g0, g1, -, -⟩ := box_two hB0.box
  obtain ⟨c0, c1⟩ := box_cell y0
  have hH := home_any f.shards d.time sa f.shards.length sc w.heap.size _ hS0.shards rfl x0
  have hsl : f.shards.length ≤ 9223372036854775807 := by obtain ⟨vs, h1, -⟩ := hS.row; have := own_small h1; unfold maxLen at this; omega
  generalize hT : ext τ w.heap.size tNo = τ1 at *
  clear hF hB hS U0
  rcases hh : homeOf f.shards d.time with _ | k
  · rw [submit_none h200 hh]
    rw [hh] at hH
    clear hh
    dsimp only [idxOf] at hH
    go_enter Tryz.func44, Tryz.ntmps44
    go_wp2_with fail
    generalize ((w.alloc (.cells #[.int .i64 d.time] 3)).alloc (.cells #[.slice da d.entry.length dc] 37)).alloc (.cells #[.int .i64 0, .int .i64 0, .int .i64 0, .int .i64 0, .slice none 0 0] 41) = w0 at *
    refine hH.mono ?_
    rintro e w1 ⟨rfl, hb1⟩
    clear hH
    go_wp2_with fail
    refine (refused_any 6 w1).mono ?_
    rintro e w2 ⟨rfl, hb2⟩
    have c2 := hb1.trans (hb2.mono hb1.size)
    have b2 := b0.trans (c2.mono b0.size)
    have z1 := box_kept z0 c2
    obtain ⟨t0, t1, t2, t3, t4⟩ := box_five z1
    obtain ⟨r0, r1, r2, r3, r4⟩ := five_free z1
    obtain ⟨s0, s1, s2, s3, s4⟩ := box_five (five_set z1 (.int .i64 6) (.int .i64 0) (.int .i64 0) (.int .i64 0) (.slice none 0 0))
    have HG := HNO w2 (no 6) (.int .i64 6) (.int .i64 0) (.int .i64 0) (.int .i64 0) (.slice none 0 0)
    clear HNO x0 y0 z0 c0 c1 g0 g1
    go_wp2_with fail
    exact bodyPost_ret (v := .agg #[.int .i64 6, .int .i64 0, .int .i64 0, .int .i64 0, .slice none 0 0]) (by simp [results, Tryz.results44, go_sem, s0, s1, s2, s3, s4]) rfl ⟨_, rfl, HG.out b2 rfl⟩
  · have hk := (home_some hh).1
    rw [hh] at hH
    obtain ⟨sb, rfl, hNs, hsb, htb, hfz, hcs⟩ := (hS0.out k).cells rfl hk
    have hE0 := hS0.ent k hk
    obtain ⟨ea, ec, hVe⟩ := hE0.form
    have k2 := hcs 2 (by omega)
    have k3 := hcs 3 (by omega)
    replace k2 : _ = some (Value.int .i64 (f.shards.getD k shd0).state) := k2
    replace k3 : _ = some (V k).1 := k3
    rw [hVe] at k3
    have hk0 : ¬ (k : Int) < 0 := by omega
    have hk1 : (k : Int) < f.shards.length := by omega
    clear hcs
    dsimp only [idxOf] at hH
    by_cases hst : (f.shards.getD k shd0).state = 1
    · rw [hst] at k2
      have hEl := hE0
      rw [hVe] at hEl
      replace hEl := hEl.lists rfl
      have hnl : (f.shards.getD k shd0).entries.length ≤ 9223372036854775807 := by have := hEl.room; have := hEl.cap; unfold maxLen at this; omega
      have HH : Hid (homeOf f.shards d.time = some k) := hh
      have hP := fun w1 (h : Below _ _ w1) => place_any (f.shards.getD k shd0).entries d.entry ea da (f.shards.getD k shd0).entries.length ec dc (w.heap.size + 1) w1 (hEl.below h) (box_kept y0 h) (hd0.below h)
      rcases hp : placeOf (f.shards.getD k shd0).entries d.entry with _ | i
      · rw [hp] at hP
        dsimp only [idxOf] at hP
        by_cases hfull : 100 ≤ (f.shards.getD k shd0).entries.length
        · rw [submit_full h200 HH.out hst hp hfull]
          have hfull' : (100 : Int) ≤ ((f.shards.getD k shd0).entries.length : Int) := by omega
          clear hst hE0 hEl hh HH hp hVe
          generalize (f.shards.getD k shd0).entries.length = NE at *
          go_enter Tryz.func44, Tryz.ntmps44
          go_wp2_with fail
          generalize ((w.alloc (.cells #[.int .i64 d.time] 3)).alloc (.cells #[.slice da d.entry.length dc] 37)).alloc (.cells #[.int .i64 0, .int .i64 0, .int .i64 0, .int .i64 0, .slice none 0 0] 41) = w0 at *
          refine hH.mono ?_
          rintro e w1 ⟨rfl, hb1⟩
          have k2' := (hb1.cell (p := ⟨sb, k * 7 + 2, none⟩) hsb).trans k2
          have k3' := (hb1.cell (p := ⟨sb, k * 7 + 3, none⟩) hsb).trans k3
          obtain ⟨q0, q1, -, -⟩ := box_two (box_kept hB0.box hb1)
          replace hP := hP w1 hb1
          clear hH
          go_wp2_with fail
          refine hP.mono ?_
          rintro e w1' ⟨rfl, rfl⟩
          clear hP
          go_wp2_with fail
          refine (refused_any 5 _).mono ?_
          rintro e w2 ⟨rfl, hb2⟩
          have c2 := hb1.trans (hb2.mono hb1.size)
          have b2 := b0.trans (c2.mono b0.size)
          have z1 := box_kept z0 c2
          obtain ⟨t0, t1, t2, t3, t4⟩ := box_five z1
          obtain ⟨r0, r1, r2, r3, r4⟩ := five_free z1
          obtain ⟨s0, s1, s2, s3, s4⟩ := box_five (five_set z1 (.int .i64 5) (.int .i64 0) (.int .i64 0) (.int .i64 0) (.slice none 0 0))
          have HG := HNO w2 (no 5) (.int .i64 5) (.int .i64 0) (.int .i64 0) (.int .i64 0) (.slice none 0 0)
          clear HNO x0 y0 z0 c0 c1 g0 g1 k2 k3 k2' k3' q0 q1
          go_wp2_with fail
          exact bodyPost_ret (v := .agg #[.int .i64 5, .int .i64 0, .int .i64 0, .int .i64 0, .slice none 0 0]) (by simp [results, Tryz.results44, go_sem, s0, s1, s2, s3, s4]) rfl ⟨_, rfl, HG.out b2 rfl⟩
        · rw [submit_new h200 HH.out hst hp hfull]
          have hfull' : ¬ (100 : Int) ≤ ((f.shards.getD k shd0).entries.length : Int) := by omega
          have hdb := hd.bytes
          clear hE0 hEl hh HH hp HNO hst
          obtain ⟨X, HX⟩ : ∃ X, Hid (f.shards.getD k shd0 = X) := ⟨_, rfl⟩
          rw [HX.out] at hP hVe hfull hfull' k3 hnl ⊢
          go_enter Tryz.func44, Tryz.ntmps44
          go_wp2_with fail
          generalize ((w.alloc (.cells #[.int .i64 d.time] 3)).alloc (.cells #[.slice da d.entry.length dc] 37)).alloc (.cells #[.int .i64 0, .int .i64 0, .int .i64 0, .int .i64 0, .slice none 0 0] 41) = w0 at *
          refine hH.mono ?_
          rintro e w1 ⟨rfl, hb1⟩
          have k2' := (hb1.cell (p := ⟨sb, k * 7 + 2, none⟩) hsb).trans k2
          have k3' := (hb1.cell (p := ⟨sb, k * 7 + 3, none⟩) hsb).trans k3
          obtain ⟨q0, q1, -, -⟩ := box_two (box_kept hB0.box hb1)
          replace hP := hP w1 hb1
          clear hH
          go_wp2_with fail
          refine hP.mono ?_
          rintro e w1' ⟨rfl, rfl⟩
          clear hP
          have hS1 := hS0.upd (upd_same hb1) no_row
          have hB1 := hB0.upd (upd_same hb1) no_row
          have K1 := K0.trans (keep_upd (upd_same hb1) (Nat.le_trans hN b0.size) no_row)
          have z1 := box_kept z0 hb1
          obtain ⟨v0, v1⟩ := box_cell (box_kept y0 hb1)
          have hd1 := hd0.below hb1
          have hCl := fun w' (h : Below w1'.heap.size w1' w') => cloneM_any d.entry _ w' (hd1.below h) (by omega)
          obtain ⟨hTg, xs, hrow1, hx1⟩ := hS1.ent k hk
          have hxl : xs.length = (f.shards.getD k shd0).entries.length := by simpa using hrow1.1
          have hN1 : N ≤ w1'.heap.size := Nat.le_trans hN (Nat.le_trans b0.size hb1.size)
          have hsb1 : sb < w1'.heap.size := Nat.lt_of_lt_of_le hsb hb1.size
          have HEnd := fun w2 w6 ya yc g cap h1 h2 h3 h4 h5 h6 => submit_end (w2 := w2) (w6 := w6) (ya := ya) (L := d.entry.length) (yc := yc) (g := g) (cap := cap) (d := d.entry) hB1 hS1 rfl hk hN1 hx1 hxl hTg h1 h2 hdb h3 h4 h5 h6
          rw [HX.out] at HEnd hrow1
          rw [hVe] at HEnd hrow1
          clear k2 k3 k2' hVe g0 g1 c0 c1 hTg hx1 hxl hd0 hd1 hd hS0 hB0 hb1 z0 x0 y0
          have HG : Hid (∀ (w7 : World) (τ6 : Nat → Tag) (l7 : Nat), l7 = X.entries.length → GoF τ6 N w7 gp ⟨f.shards.set k { X with entries := X.entries ++ [d.entry] }, f.book⟩ → Keep τ1 τ6 N w1' w7 → w7.heap[w.heap.size + 2]? = some (.cells #[.int .i64 0, .int .i64 0, .int .i64 0, .int .i64 0, .slice none 0 0] 41 (0, 0)) ∧ ∀ u0 u1 u2 u3 u4, Went τ N gp w (((((w7.setCell ⟨w.heap.size + 2, 0, none⟩ u0).setCell ⟨w.heap.size + 2, 1, none⟩ u1).setCell ⟨w.heap.size + 2, 2, none⟩ u2).setCell ⟨w.heap.size + 2, 3, none⟩ u3).setCell ⟨w.heap.size + 2, 4, none⟩ u4) (.agg #[.int .i64 0, .int .i64 (k : Int), .int .i64 (l7 : Int), .int .i64 0, .slice none 0 0]) (⟨f.shards.set k { X with entries := X.entries ++ [d.entry] }, f.book⟩, ⟨0, (k : Int), (X.entries.length : Int), 0, []⟩)) := fun w7 τ6 l7 hl7 h1 h2 => by
            have hk7 := K1.trans h2
            have hr7 : τ6 (w.heap.size + 2) = tNo := (h2.same _ (lt_heap z1)).trans hR0
            subst hl7
            exact ⟨h2.box hR0 z1, fun u0 u1 u2 u3 u4 => ⟨τ6, ⟨_, rfl, byM_nil _ _⟩, h1.five hr7 _ _ _ _ _, hk7.five hN (by omega) _ _ _ _ _⟩⟩
          go_wp2_with fail
          go_region_law (first
            | (refine step_append_lies _ rfl (.tmp 59) (.tmp 62) 43 rfl N 37 i0 (.slice none 0 0) 1 24 Tryz.underlying43 hi0 hz0 hz1 hz2 rfl (by decide) _ _ _ rfl (World.ownsRow.alloc (by exact hrow2) _) _ 1 1 [.slice ya d.entry.length yc] rfl rfl (cell_one_new _ _ _) (by intro u hu; simp at hu; subst hu; rfl) (by decide) (by unfold maxLen; omega) (by omega) (by simp; omega) _ rfl ?_; intro g cap w6 ho6 hg6 ha6 hlt6; obtain ⟨τ6, hF6, hK6, hc6, hf6⟩ := HEnd w2 w6 ya yc g cap b2 ho2 hg6 ho6 ha6 hlt6)
            | (go_simp; go_at_call 29; refine (hCl _ (Below.refl _ _).drew).mono ?_; rintro r w2 ⟨ya, yc, rfl, ho2, hb2⟩; have b2 := (Below.refl _ _).drew.trans hb2; have k3'' := (b2.cell (p := ⟨sb, k * 7 + 3, none⟩) hsb1).trans k3'; have k4 := (old_cell w2 (.cells #[.slice ya d.entry.length yc] 37) sb (k * 7 + 3) (Nat.lt_of_lt_of_le hsb1 b2.size)).trans k3''; have hrow2 := own_below hrow1 b2 (Nat.le_refl _); have hN2 : N ≤ w2.heap.size := Nat.le_trans hN1 b2.size; dsimp only))
          all_goals
            obtain ⟨z7, HW⟩ := HG.out _ τ6 _ rfl hF6 hK6
            have HW' := HW (.int .i64 0) (.int .i64 (k : Int)) (.int .i64 (X.entries.length : Int)) (.int .i64 0) (.slice none 0 0)
            have HW2 : Hid _ := HW'
            have k7 := World.cell?_setCell_same w6 ⟨sb, k * 7 + 3, none⟩ (Value.slice (some ⟨g, 0, none⟩) (X.entries.length + 1) cap) hc6
            have hl1 : ((X.entries.length + 1 : Nat) : Int) - 1 = (X.entries.length : Int) := by omega
            clear HW HW' HG hF6 hK6 hc6 hf6 HEnd hg6 ho6 ha6 hrow2 hrow1 ho2 hb2 k4 k3'' k3' hCl z1 K1 K0 hlt6 hS1 hB1
            generalize w6.setCell ⟨sb, k * 7 + 3, none⟩ (.slice (some ⟨g, 0, none⟩) (X.entries.length + 1) cap) = w7 at *
            obtain ⟨t0, t1, t2, t3, t4⟩ := box_five z7
            obtain ⟨r0, r1, r2, r3, r4⟩ := five_free z7
            obtain ⟨s0, s1, s2, s3, s4⟩ := box_five (five_set z7 (.int .i64 0) (.int .i64 (k : Int)) (.int .i64 (X.entries.length : Int)) (.int .i64 0) (.slice none 0 0))
            go_wp2_with fail
            exact bodyPost_ret (v := .agg #[.int .i64 0, .int .i64 (k : Int), .int .i64 (X.entries.length : Int), .int .i64 0, .slice none 0 0]) (by simp [results, Tryz.results44, go_sem, s0, s1, s2, s3, s4]) rfl ⟨_, rfl, HW2.out⟩
      · rw [submit_had h200 HH.out hst hp]
        rw [hp] at hP
        dsimp only [idxOf] at hP
        have hi := (place_some hp).1
        clear hst hE0 hEl hh HH hp hVe
        generalize (f.shards.getD k shd0).entries.length = NE at *
        have hi0' : (0 : Int) ≤ i := by omega
        go_enter Tryz.func44, Tryz.ntmps44
        go_wp2_with fail
        generalize ((w.alloc (.cells #[.int .i64 d.time] 3)).alloc (.cells #[.slice da d.entry.length dc] 37)).alloc (.cells #[.int .i64 0, .int .i64 0, .int .i64 0, .int .i64 0, .slice none 0 0] 41) = w0 at *
        refine hH.mono ?_
        rintro e w1 ⟨rfl, hb1⟩
        have k2' := (hb1.cell (p := ⟨sb, k * 7 + 2, none⟩) hsb).trans k2
        have k3' := (hb1.cell (p := ⟨sb, k * 7 + 3, none⟩) hsb).trans k3
        obtain ⟨q0, q1, -, -⟩ := box_two (box_kept hB0.box hb1)
        replace hP := hP w1 hb1
        clear hH
        go_wp2_with fail
        refine hP.mono ?_
        rintro e w1' ⟨rfl, rfl⟩
        have b2 := b0.trans (hb1.mono b0.size)
        have z1 := box_kept z0 hb1
        obtain ⟨t0, t1, t2, t3, t4⟩ := box_five z1
        obtain ⟨r0, r1, r2, r3, r4⟩ := five_free z1
        obtain ⟨s0, s1, s2, s3, s4⟩ := box_five (five_set z1 (.int .i64 0) (.int .i64 (k : Int)) (.int .i64 (i : Int)) (.int .i64 0) (.slice none 0 0))
        have HG := HNO w1' ⟨0, (k : Int), (i : Int), 0, []⟩ (.int .i64 0) (.int .i64 (k : Int)) (.int .i64 (i : Int)) (.int .i64 0) (.slice none 0 0)
        clear HNO x0 y0 z0 c0 c1 g0 g1 k2 k3 k2' k3' q0 q1 hP
        go_wp2_with fail
        exact bodyPost_ret (v := .agg #[.int .i64 0, .int .i64 (k : Int), .int .i64 (i : Int), .int .i64 0, .slice none 0 0]) (by simp [results, Tryz.results44, go_sem, s0, s1, s2, s3, s4]) rfl ⟨_, rfl, HG.out b2 (by trivial)⟩
    · rw [submit_shut h200 hh hst]
      have hst' : ((f.shards.getD k shd0).state != 1) = true := by simpa using hst
      clear hst hE0 hh
      generalize (f.shards.getD k shd0).state = ST at *
      go_enter Tryz.func44, Tryz.ntmps44
      go_wp2_with fail
      generalize ((w.alloc (.cells #[.int .i64 d.time] 3)).alloc (.cells #[.slice da d.entry.length dc] 37)).alloc (.cells #[.int .i64 0, .int .i64 0, .int .i64 0, .int .i64 0, .slice none 0 0] 41) = w0 at *
      refine hH.mono ?_
      rintro e w1 ⟨rfl, hb1⟩
      have k2' := (hb1.cell (p := ⟨sb, k * 7 + 2, none⟩) hsb).trans k2
      obtain ⟨q0, q1, -, -⟩ := box_two (box_kept hB0.box hb1)
      clear hH
      go_wp2_with fail
      refine (refused_any 8 w1).mono ?_
      rintro e w2 ⟨rfl, hb2⟩
      have c2 := hb1.trans (hb2.mono hb1.size)
      have b2 := b0.trans (c2.mono b0.size)
      have z1 := box_kept z0 c2
      obtain ⟨t0, t1, t2, t3, t4⟩ := box_five z1
      obtain ⟨r0, r1, r2, r3, r4⟩ := five_free z1
      obtain ⟨s0, s1, s2, s3, s4⟩ := box_five (five_set z1 (.int .i64 8) (.int .i64 0) (.int .i64 0) (.int .i64 0) (.slice none 0 0))
      have HG := HNO w2 (no 8) (.int .i64 8) (.int .i64 0) (.int .i64 0) (.int .i64 0) (.slice none 0 0)
      clear HNO x0 y0 z0 c0 c1 g0 g1 k2 k3 k2' q0 q1
      go_wp2_with fail
      exact bodyPost_ret (v := .agg #[.int .i64 8, .int .i64 0, .int .i64 0, .int .i64 0, .slice none 0 0]) (by simp [results, Tryz.results44, go_sem, s0, s1, s2, s3, s4]) rfl ⟨_, rfl, HG.out b2 rfl⟩

end Go.Proofs.YtkjlchfmplcobaeGreatDoor
