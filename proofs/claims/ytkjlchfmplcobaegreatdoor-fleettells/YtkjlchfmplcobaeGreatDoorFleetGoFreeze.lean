/- The walk of freeze: package fleet as it landed. -/
import Derived.Test.YtkjlchfmplcobaeGreatDoorProg
import Derived.Test.YtkjlchfmplcobaeGreatDoorRunAD
import Derived.Test.YtkjlchfmplcobaeGreatDoorRunAE
import Derived.WalkKit
import Derived.WalkSpells
import Derived.WalkLawsBesides
import Derived.Deep.RegionLaw
import Derived.Deep.RegionHeld3
import Derived.BigRegion
namespace Go.Proofs.YtkjlchfmplcobaeGreatDoor
open Go.RowKit

theorem Tryz.info45c : (Tryz.prog.info? 45).map (fun i => (i.zero, i.size, i.bytes)) = some (some (.agg #[.int .i64 0, .int .i64 0, .int .i64 0, .int .i64 0, .slice none 0 0]), 5, 56) := by kernel_rfl
/-- The book has a row more. -/
theorem book_end {τ : Nat → Tag} {N gp g cap bc : Nat} {A w6 : World} {sv : Value} {ba : Option Addr} {ss : List Shd} {V : Nat → ShV} {l : List Rec} {r : Rec} {rv : Value} {ys : List Value} (hB : GoB τ N A gp sv (.slice ba l.length bc) l) (hS : ShM τ N A sv ss V) (hN : N ≤ A.heap.size)
    (hyl : ys.length = l.length * 5) (hx : ∀ j, j < l.length → ∃ rv, (∀ i, i < 5 → ys[j * 5 + i]? = (recCs (l.getD j rec0) rv)[i]?) ∧ ByM τ A rv (l.getD j rec0).root) (hr : ByM τ A rv r.root)
    (hg6 : A.grownBy w6 (Value.slice ba l.length bc).ownBlock) (ho6 : w6.ownsRow N 45 5 (.slice (some ⟨g, 0, none⟩) (l.length + 1) cap) (l.length + 1) (ys ++ recCs r rv)) (ha6 : (Value.slice ba l.length bc).ownBlock = some g ∨ g = A.heap.size) (hlt6 : g < w6.heap.size) :
    ∃ τ', GoF τ' N (w6.setCell ⟨gp, 1, none⟩ (.slice (some ⟨g, 0, none⟩) (l.length + 1) cap)) gp ⟨ss, l ++ [r]⟩ ∧ ByM τ' (w6.setCell ⟨gp, 1, none⟩ (.slice (some ⟨g, 0, none⟩) (l.length + 1) cap)) rv r.root ∧ Keep τ τ' N A (w6.setCell ⟨gp, 1, none⟩ (.slice (some ⟨g, 0, none⟩) (l.length + 1) cap)) ∧ w6.cell? ⟨gp, 1, none⟩ = some (.slice ba l.length bc) ∧ w6.frozen? ⟨gp, 1, none⟩ = false := by
  have hT := hB.bk.1
  have U : Upd τ (ext τ A.heap.size tBk) A w6 (Value.slice ba l.length bc).ownBlock := ⟨hg6, fun _ hb => ext_old hb⟩
  have hmine : ∀ b, (Value.slice ba l.length bc).ownBlock = some b → τ b = tBk := fun b hb => (hT b hb).2
  have hgl := lt_heap hB.box
  have hbox6 : w6.heap[gp]? = some (.cells #[sv, .slice ba l.length bc] 59 (0, 0)) := (hg6.block gp hgl (fun e => by have := hmine gp e.symm; rw [hB.tag] at this; simp [tFl, tBk] at this)).trans hB.box
  have htg : ext τ A.heap.size tBk gp = tFl := (ext_old hgl).trans hB.tag
  have hS6 := hS.upd U (fun b hb => .inr (.inr (.inl (hmine b hb))))
  have hK6 := BkM.snoc hT hyl hx ho6 hg6 ha6 hlt6 hr
  have hr6 := hr.upd U (fun b hb => by rw [hmine b hb]; simp [tBk, tFix])
  have U2 := upd_set (ext τ A.heap.size tBk) w6 gp 1 (.slice (some ⟨g, 0, none⟩) (l.length + 1) cap)
  have ne : ∀ t : Tag, t ≠ tFl → ∀ b, some gp = some b → (ext τ A.heap.size tBk) b ≠ t := fun t h1 b hb e => by cases hb; exact h1 (e.symm.trans htg)
  obtain ⟨-, q1, -, q3⟩ := box_two hbox6
  refine ⟨_, ⟨hB.low, htg, _, _, V, heap_setCell_same _ _ 1 _ _ _ hbox6, hS6.upd U2 (fun b hb => by cases hb; exact .inr (.inl htg)), hK6.upd U2 (ne _ (by decide)) (ne _ (by decide))⟩, hr6.upd U2 (ne _ (by decide)), ?_, q1, q3⟩
  have hold : ∀ b, (Value.slice ba l.length bc).ownBlock = some b → N ≤ b := fun b hb => by
    obtain ⟨-, ys, h1, -⟩ := hB.bk
    exact (h1.lt b hb).1
  have K1 := keep_upd (N := N) U hN (fun b hb => ⟨hold b hb, by rw [hmine b hb]; decide⟩)
  have K2 := keep_upd (N := N) U2 (by have := hg6.size; omega) (fun b hb => by cases hb; exact ⟨hB.low, by rw [htg]; decide⟩)
  exact K1.trans K2

def freezeL (f : Flt) (k : Nat) : Flt × Ans := (⟨f.shards.set k { (f.shards.getD k shd0) with state := 2 }, f.book ++ [⟨(k : Int), (f.shards.getD k shd0).from', (f.shards.getD k shd0).to', ((f.shards.getD k shd0).entries.length : Int), mth (f.shards.getD k shd0).entries⟩]⟩, ⟨0, (k : Int), 0, ((f.shards.getD k shd0).entries.length : Int), mth (f.shards.getD k shd0).entries⟩)
theorem lit_rec (w : World) (r : Rec) (rv : Value) (t : TypeId) : ∀ (j : Nat) (u : Value), (recCs r rv)[j]? = some u → (w.alloc (.cells #[.int .i64 r.shard, .int .i64 r.from', .int .i64 r.to', .int .i64 r.size, rv] t)).cell? ((⟨w.heap.size, 0, none⟩ : Addr).add j) = some u := fun j u hj => by
  have hadd : (⟨w.heap.size, 0, none⟩ : Addr).add j = ⟨w.heap.size, 0 + j, none⟩ := Addr.add_mid _ _ _
  rw [hadd, Nat.zero_add]
  rw [cell_of_row _ _ j _ t _ (box_new w _ t), ← hj]
  simp [recCs]
theorem recCs_one (r : Rec) (a : Option Addr) (n c : Nat) : ∀ u ∈ recCs r (.slice a n c), u.oneCell' = true := by
  intro u hu
  simp [recCs] at hu
  rcases hu with rfl | rfl | rfl | rfl | rfl <;> rfl
set_option maxRecDepth 100000 in
set_option maxHeartbeats 8000000 in
theorem freeze_any (hRoot : RootC) (f : Flt) (k : Nat) (τ : Nat → Tag) (N gp : Nat) (w : World) (hF : GoF τ N w gp f) (hN : N ≤ w.heap.size) (hr : Ready w) (hk : k < f.shards.length) (h0 : wrongL (f.shards.getD k shd0).entries = (0, 0)) (hbl : f.book.length ≤ 1000) :
    Calls Tryz.prog 47 #[.pointer (some ⟨gp, 0, none⟩), .int .i64 (k : Int)] w fun e w' => ∃ av, e = .returned av ∧ Went τ N gp w w' av (freezeL f k) := by
  obtain ⟨i0, hi0, hz0, hz1, hz2⟩ := info_parts Tryz.info45c
  have b0 : Below w.heap.size w (w.alloc (.cells #[.int .i64 0, .int .i64 0, .int .i64 0, .int .i64 0, .slice none 0 0] 41)) := (Below.refl _ _).alloc (Nat.le_refl _) _
  have z0 := box_new w #[.int .i64 0, .int .i64 0, .int .i64 0, .int .i64 0, .slice none 0 0] 41
  obtain ⟨sa, sc, ba, bc, V, hB, hS⟩ := hF.open
  have U0 := upd_call (τ := τ) b0 tNo
  have hB0 := hB.upd U0 no_row
  have hS0 := hS.upd U0 no_row
  have K0 := keep_call (τ := τ) b0 hN tNo
  have hR0 : ext τ w.heap.size tNo w.heap.size = tNo := ext_new (Nat.le_refl _)
  have hsl : f.shards.length ≤ 9223372036854775807 := by obtain ⟨vs, h1, -⟩ := hS.row; have := own_small h1; unfold maxLen at this; omega
  obtain ⟨g0, g1, -, -⟩ := box_two hB0.box
  obtain ⟨sb, rfl, hNs, hsb, htb, hfz, hcs⟩ := (hS0.out k).cells rfl hk
  have hE0 := hS0.ent k hk
  obtain ⟨ea, ec, hVe⟩ := hE0.form
  have hEl := hE0
  rw [hVe] at hEl
  replace hEl := hEl.lists rfl
  have k3 : _ = some (V k).1 := hcs 3 (by omega)
  rw [hVe] at k3
  have hm32 := mth_length (f.shards.getD k shd0).entries
  have hmb := bytes_mth (f.shards.getD k shd0).entries
  have hRt := hRoot _ _ _ _ _ (hr.below b0) hEl
  rw [h0] at hRt
  have hk1 : (k : Int) < f.shards.length := by omega
  have hk0 : (0 : Int) ≤ k := by omega
  obtain ⟨X, HX⟩ : ∃ X, Hid (f.shards.getD k shd0 = X) := ⟨_, rfl⟩
  rw [HX.out] at hVe k3 hm32 hmb hRt
  have HRES : Hid ((⟨f.shards.set k { X with state := 2 }, f.book ++ [⟨(k : Int), X.from', X.to', (X.entries.length : Int), mth X.entries⟩]⟩, ⟨0, (k : Int), 0, (X.entries.length : Int), mth X.entries⟩) = freezeL f k) := by show _ = _; unfold freezeL; rw [HX.out]
  generalize freezeL f k = RES at *
  generalize hT : ext τ w.heap.size tNo = τ1 at *
  clear hF hB hS U0 hE0 hEl hcs
  go_enter Tryz.func47, Tryz.ntmps47
  go_wp2_with fail
  generalize w.alloc (.cells #[.int .i64 0, .int .i64 0, .int .i64 0, .int .i64 0, .slice none 0 0] 41) = w0 at *
  refine hRt.mono ?_
  rintro e w1 ⟨xa, xn, xc, rfl, ho1, -, hb1⟩
  replace ho1 := ho1 trivial
  obtain rfl := own_len ho1
  have d1 : Below w1.heap.size w1 ((w1.alloc (.cells #[.int .i64 0, .int .i64 0] 31)).alloc (.cells #[.int .i64 (X.entries.length : Int), .slice xa 32 xc] 39)) := ((Below.refl _ _).alloc (Nat.le_refl _) _).alloc (by simp) _
  have c1 := hb1.trans (d1.mono hb1.size)
  have U1 := upd_call (τ := τ1) c1 tFix
  have hS1 := hS0.upd U1 no_row
  have hB1 := hB0.upd U1 no_row
  have hN0 : N ≤ w0.heap.size := Nat.le_trans hN b0.size
  have K1 := K0.trans (keep_call (τ := τ1) c1 hN0 tFix)
  have z1 := box_kept z0 c1
  have hR1 : ext τ1 w0.heap.size tFix w.heap.size = tNo := (ext_old (lt_heap z0)).trans hR0
  have hr1 : ByM (ext τ1 w0.heap.size tFix) _ (.slice xa 32 xc) (mth X.entries) := byM_own (own_below ho1 d1 (Nat.le_refl _)) hmb
  have y1 := box_last w1 (.cells #[.int .i64 0, .int .i64 0] 31) #[.int .i64 (X.entries.length : Int), .slice xa 32 xc] 39
  obtain ⟨sb', e, -, hsb1, htb1, hfz1, hcs1⟩ := (hS1.out k).cells rfl hk
  cases e
  have j2 := hcs1 2 (by omega)
  have j3 := hcs1 3 (by omega)
  replace j2 : _ = some (Value.int .i64 (f.shards.getD k shd0).state) := j2
  replace j3 : _ = some (V k).1 := j3
  rw [HX.out] at j2
  rw [hVe] at j3
  have j2f := hfz1 (k * 7 + 2)
  have j4 := (old_cell w1 (.cells #[.int .i64 0, .int .i64 0] 31) sb (k * 7 + 3) (Nat.lt_of_lt_of_le hsb hb1.size)).trans ((hb1.cell (p := ⟨sb, k * 7 + 3, none⟩) hsb).trans k3)
  generalize hT2 : ext τ1 w0.heap.size tFix = τ2 at *
  clear hRt g0 g1 k3 hcs1 U1 hS0 hB0 K0 c1 hfz
  go_wp2_with fail
  have hEnt := hS1.ent k hk
  have hRoo := hS1.root k hk
  have hSeg := hS1.seg k hk
  rw [HX.out] at hEnt hRoo hSeg
  have hS2 := hS1.turn (i := 2) (u := .int .i64 2) (s' := { X with state := 2 }) (v' := V k) rfl hk (by omega) (by rw [HX.out]; rfl) hEnt hRoo hSeg
  have hB2 := hB1.turn (o := k * 7 + 2) (u := .int .i64 2) htb1
  have hN1 : N ≤ ((w1.alloc (.cells #[.int .i64 0, .int .i64 0] 31)).alloc (.cells #[.int .i64 (X.entries.length : Int), .slice xa 32 xc] 39)).heap.size := Nat.le_trans hN0 (Nat.le_trans hb1.size d1.size)
  have K2 := K1.trans (keep_turn (o := k * 7 + 2) (u := .int .i64 2) hN1 hNs htb1)
  have hne1 : w1.heap.size + 1 ≠ sb := by have := hb1.size; omega
  have hne2 : w.heap.size ≠ sb := fun e => by rw [e, htb1] at hR1; simp [tSh, tNo] at hR1
  have y2 := box_set_far (v := .int .i64 2) (o := k * 7 + 2) y1 hne1
  have z2 := box_set_far (v := .int .i64 2) (o := k * 7 + 2) z1 hne2
  have hr2 := hr1.upd (upd_set τ2 _ sb (k * 7 + 2) (.int .i64 2)) (fun b hb => by cases hb; rw [htb1]; decide)
  have htag : τ2 (w1.heap.size + 1) = tFix := by rw [← hT2]; exact ext_new (by have := hb1.size; omega)
  clear hS1 hB1 K1 hr1 y1 z1 hne1 hne2 j2 j3 j2f j4 hEnt hRoo hSeg hsb1 hfz1 d1
  generalize ((w1.alloc (.cells #[.int .i64 0, .int .i64 0] 31)).alloc (.cells #[.int .i64 (X.entries.length : Int), .slice xa 32 xc] 39)).setCell ⟨sb, k * 7 + 2, none⟩ (.int .i64 2) = W at *
  obtain ⟨sb', e, -, hsb2, htb2, hfz2, hcs2⟩ := (hS2.out k).cells (by rw [List.length_set]) hk
  cases e
  rw [getD_set_same hk, if_pos rfl] at hcs2
  have a0 : W.cell? ⟨sb, k * 7, none⟩ = some (Value.int .i64 X.from') := hcs2 0 (by omega)
  have a1 : W.cell? ⟨sb, k * 7 + 1, none⟩ = some (Value.int .i64 X.to') := hcs2 1 (by omega)
  clear hcs2 hfz2
  have hNW : N ≤ W.heap.size := Nat.le_trans hN K2.size
  have hbA : Below W.heap.size W (W.drew.alloc (.cells #[.int .i64 (k : Int), .int .i64 X.from', .int .i64 X.to', .int .i64 (X.entries.length : Int), .slice xa 32 xc] 45)) := (Below.refl _ _).drew.alloc (Nat.le_refl _) _
  have hBA := hB2.upd (upd_same hbA) no_row
  have hSA := hS2.upd (upd_same hbA) no_row
  have hrA := hr2.upd (upd_same hbA) no_row
  have KA := K2.trans (keep_upd (upd_same hbA) hNW no_row)
  have hNA : N ≤ (W.drew.alloc (.cells #[.int .i64 (k : Int), .int .i64 X.from', .int .i64 X.to', .int .i64 (X.entries.length : Int), .slice xa 32 xc] 45)).heap.size := Nat.le_trans hNW hbA.size
  obtain ⟨-, ys, hrowA, hxA⟩ := hBA.bk
  have hyl : ys.length = f.book.length * 5 := hrowA.1
  have HEnd := fun w6 g cap h1 h2 h3 h4 => book_end (w6 := w6) (g := g) (cap := cap) (r := ⟨(k : Int), X.from', X.to', (X.entries.length : Int), mth X.entries⟩) (rv := .slice xa 32 xc) hBA hSA hNA hyl hxA hrA h1 h2 h3 h4
  have hnew := lit_rec W.drew ⟨(k : Int), X.from', X.to', (X.entries.length : Int), mth X.entries⟩ (.slice xa 32 xc) 45
  have hone := recCs_one ⟨(k : Int), X.from', X.to', (X.entries.length : Int), mth X.entries⟩ xa 32 xc
  obtain ⟨g0, g1, g2, g3⟩ := box_two hB2.box
  obtain ⟨p0, p1, -, -⟩ := box_two hBA.box
  have pW := (old_cell W (.cells #[.int .i64 (k : Int), .int .i64 X.from', .int .i64 X.to', .int .i64 (X.entries.length : Int), .slice xa 32 xc] 45) gp 1 (lt_heap hB2.box)).trans g1
  obtain ⟨q0, q1, -, -⟩ := box_two y2
  have zA := box_kept z2 hbA
  have yA := box_kept y2 hbA
  have HG : Hid (∀ (w7 : World) (τ6 : Nat → Tag), GoF τ6 N w7 gp ⟨f.shards.set k { X with state := 2 }, f.book ++ [⟨(k : Int), X.from', X.to', (X.entries.length : Int), mth X.entries⟩]⟩ → ByM τ6 w7 (.slice xa 32 xc) (mth X.entries) → Keep τ2 τ6 N (W.drew.alloc (.cells #[.int .i64 (k : Int), .int .i64 X.from', .int .i64 X.to', .int .i64 (X.entries.length : Int), .slice xa 32 xc] 45)) w7 →
      w7.heap[w.heap.size]? = some (.cells #[.int .i64 0, .int .i64 0, .int .i64 0, .int .i64 0, .slice none 0 0] 41 (0, 0)) ∧ w7.heap[w1.heap.size + 1]? = some (.cells #[.int .i64 (X.entries.length : Int), .slice xa 32 xc] 39 (0, 0)) ∧ Some' w7 (.slice xa 32 xc) (mth X.entries) ∧
      ∀ w8 ta tc u0 u1 u2 u3 u4, Below w7.heap.size w7 w8 → w8.ownsRow w7.heap.size 5 1 (.slice ta (mth X.entries).length tc) (mth X.entries).length ((mth X.entries).map (Value.int .u8)) → Went τ N gp w (((((w8.setCell ⟨w.heap.size, 0, none⟩ u0).setCell ⟨w.heap.size, 1, none⟩ u1).setCell ⟨w.heap.size, 2, none⟩ u2).setCell ⟨w.heap.size, 3, none⟩ u3).setCell ⟨w.heap.size, 4, none⟩ u4) (.agg #[.int .i64 0, .int .i64 (k : Int), .int .i64 0, .int .i64 (X.entries.length : Int), .slice ta (mth X.entries).length tc]) (⟨f.shards.set k { X with state := 2 }, f.book ++ [⟨(k : Int), X.from', X.to', (X.entries.length : Int), mth X.entries⟩]⟩, ⟨0, (k : Int), 0, (X.entries.length : Int), mth X.entries⟩)) := fun w7 τ6 h1 h2 h3 => by
    have hk7 := KA.trans h3
    have hr7 : τ6 w.heap.size = tNo := (h3.same _ (lt_heap zA)).trans hR1
    refine ⟨h3.box hR1 zA, (h3.block _ (lt_heap yA) (.inl htag)).trans yA, h2.here, fun w8 ta tc u0 u1 u2 u3 u4 hb8 ho8 => ?_⟩
    have hN7 : N ≤ w7.heap.size := Nat.le_trans hN hk7.size
    have hr8 : ext τ6 w7.heap.size tFix w.heap.size = tNo := (ext_old (Nat.lt_of_lt_of_le (lt_heap zA) h3.size)).trans hr7
    exact ⟨ext τ6 w7.heap.size tFix, ⟨_, rfl, (byM_own ho8 hmb).five hr8 _ _ _ _ _⟩, (h1.upd (upd_call hb8 tFix) no_row).five hr8 _ _ _ _ _, (hk7.trans (keep_call hb8 hN7 tFix)).five hN (Nat.le_refl _) _ _ _ _ _⟩
  have hAl : (W.drew.alloc (.cells #[.int .i64 (k : Int), .int .i64 X.from', .int .i64 X.to', .int .i64 (X.entries.length : Int), .slice xa 32 xc] 45)).heap.size = W.heap.size + 1 := by simp
  have HFIN : Hid (∀ (w6 : World) (g cap : Nat), (W.drew.alloc (.cells #[.int .i64 (k : Int), .int .i64 X.from', .int .i64 X.to', .int .i64 (X.entries.length : Int), .slice xa 32 xc] 45)).grownBy w6 (Value.slice ba f.book.length bc).ownBlock → w6.ownsRow N 45 5 (.slice (some ⟨g, 0, none⟩) (f.book.length + 1) cap) (f.book.length + 1) (ys ++ recCs ⟨(k : Int), X.from', X.to', (X.entries.length : Int), mth X.entries⟩ (.slice xa 32 xc)) → ((Value.slice ba f.book.length bc).ownBlock = some g ∨ g = (W.drew.alloc (.cells #[.int .i64 (k : Int), .int .i64 X.from', .int .i64 X.to', .int .i64 (X.entries.length : Int), .slice xa 32 xc] 45)).heap.size) → g < w6.heap.size →
      w6.cell? ⟨gp, 1, none⟩ = some (.slice ba f.book.length bc) ∧ w6.frozen? ⟨gp, 1, none⟩ = false ∧ Hid ((w6.setCell ⟨gp, 1, none⟩ (.slice (some ⟨g, 0, none⟩) (f.book.length + 1) cap)).heap[w.heap.size]? = some (.cells #[.int .i64 0, .int .i64 0, .int .i64 0, .int .i64 0, .slice none 0 0] 41 (0, 0)) ∧ (w6.setCell ⟨gp, 1, none⟩ (.slice (some ⟨g, 0, none⟩) (f.book.length + 1) cap)).heap[w1.heap.size + 1]? = some (.cells #[.int .i64 (X.entries.length : Int), .slice xa 32 xc] 39 (0, 0)) ∧ Some' (w6.setCell ⟨gp, 1, none⟩ (.slice (some ⟨g, 0, none⟩) (f.book.length + 1) cap)) (.slice xa 32 xc) (mth X.entries) ∧
        ∀ w8 ta tc u0 u1 u2 u3 u4, Below (w6.setCell ⟨gp, 1, none⟩ (.slice (some ⟨g, 0, none⟩) (f.book.length + 1) cap)).heap.size (w6.setCell ⟨gp, 1, none⟩ (.slice (some ⟨g, 0, none⟩) (f.book.length + 1) cap)) w8 → w8.ownsRow (w6.setCell ⟨gp, 1, none⟩ (.slice (some ⟨g, 0, none⟩) (f.book.length + 1) cap)).heap.size 5 1 (.slice ta 32 tc) 32 ((mth X.entries).map (Value.int .u8)) → Went τ N gp w (((((w8.setCell ⟨w.heap.size, 0, none⟩ u0).setCell ⟨w.heap.size, 1, none⟩ u1).setCell ⟨w.heap.size, 2, none⟩ u2).setCell ⟨w.heap.size, 3, none⟩ u3).setCell ⟨w.heap.size, 4, none⟩ u4) (.agg #[.int .i64 0, .int .i64 (k : Int), .int .i64 0, .int .i64 (X.entries.length : Int), .slice ta 32 tc]) RES)) := fun w6 g cap h1 h2 h3 h4 => by
    obtain ⟨τ6, hF6, hr6, hK6, hc6, hf6⟩ := HEnd w6 g cap h1 h2 h3 h4
    refine ⟨hc6, hf6, ?_⟩
    show _ ∧ _
    have := HG.out _ τ6 hF6 hr6 hK6
    rw [hm32, HRES.out] at this
    exact this
  have HTK := fun w7 h => taken_any (k : Int) (X.entries.length : Int) (mth X.entries) (.slice xa 32 xc) w7 h (by rw [hm32]; omega)
  rw [hm32] at HTK
  have HTK2 : Hid _ := HTK
  have HNW2 : Hid _ := hNA
  have HON : Hid _ := hone
  have HNE : Hid _ := hnew
  have HRO : Hid _ := hrowA
  have hwg : w1.heap.size + 1 = w1.heap.size + 1 := rfl
  clear hB2 hS2 hr2 K2 hBA hSA hrA KA hxA y2 z2 hyl HEnd HG HTK hNA hone hnew hrowA hmb hm32 HRES hr h0 hRoot hk hsl hVe hT hR0 htb hb1 ho1 hN0 hT2 hR1 htb1 hN1 htag hsb2 htb2 hNW hbA g0 g2 g3 p0 p1 zA yA z0 b0 hsb hN hNs HX hwg hAl
  generalize mth X.entries = M at *
  generalize X.from' = XF at *
  generalize X.to' = XT at *
  generalize X.entries.length = NE at *
  generalize f.book.length = NB at *
  generalize f.shards.length = NS at *
  go_region_law (first
    | (refine step_append_lies _ rfl (.tmp 39) (.tmp 51) 25 rfl N 45 i0 _ 5 56 Tryz.underlying25 hi0 hz0 hz1 hz2 rfl (by decide) _ _ _ rfl HRO.out ⟨W.heap.size, 0, none⟩ 1 1 _ rfl rfl HNE.out HON.out (by decide) (by unfold maxLen; omega) (by omega) HNW2.out _ rfl ?_; intro g cap w6 ho6 hg6 ha6 hlt6; obtain ⟨hc6, hf6, HH6⟩ := HFIN.out w6 g cap hg6 ho6 ha6 hlt6; clear ho6 hg6 ha6 hlt6))
  all_goals
    obtain ⟨z7, y7, hs7, HW⟩ := HH6.out
    have HW2 : Hid _ := HW
    have hTk := HTK2.out _ hs7
    clear HW HH6 hc6 hf6 HFIN HTK2 HRO HNE HON HNW2 g1 pW q0 q1 a0 a1 hs7
    generalize w6.setCell ⟨gp, 1, none⟩ (.slice (some ⟨g, 0, none⟩) (NB + 1) cap) = w7 at *
    obtain ⟨v0, v1, -, -⟩ := box_two y7
    go_wp2_with fail
    refine hTk.mono ?_
    rintro e w8 ⟨ta, tc, rfl, ho8, hb8⟩
    have HW3 : Hid _ := HW2.out w8 ta tc (.int .i64 0) (.int .i64 (k : Int)) (.int .i64 0) (.int .i64 (NE : Int)) (.slice ta 32 tc) hb8 ho8
    have z8 := box_kept z7 hb8
    obtain ⟨t0, t1, t2, t3, t4⟩ := box_five z8
    obtain ⟨r0, r1, r2, r3, r4⟩ := five_free z8
    obtain ⟨s0, s1, s2, s3, s4⟩ := box_five (five_set z8 (.int .i64 0) (.int .i64 (k : Int)) (.int .i64 0) (.int .i64 (NE : Int)) (.slice ta 32 tc))
    clear HW2 hTk z7 y7 v0 v1 ho8
    go_wp2_with fail
    exact bodyPost_ret (v := .agg #[.int .i64 0, .int .i64 (k : Int), .int .i64 0, .int .i64 (NE : Int), .slice ta 32 tc]) (by simp [results, Tryz.results47, go_sem, s0, s1, s2, s3, s4]) rfl ⟨_, rfl, HW3.out⟩

end Go.Proofs.YtkjlchfmplcobaeGreatDoor
