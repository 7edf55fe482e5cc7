/- The walk of (*run).add: it takes bytes in. -/
import Derived.Test.YtkjlchfmplcobadDoorProg
import Derived.Test.YtkjlchfmplcobadDoorShaMix
import Derived.Test.YtkjlchfmplcobadDoorRunAG
import Derived.WalkKit
import Derived.WalkSpells
import Derived.WalkLawsBesides
import Derived.Deep.RegionHeld3
import Derived.BigRegion
import Derived.Test.YtkjlchfmplcobadDoorShaOrder
namespace Go.Proofs.YtkjlchfmplcobadDoor
open Go.RowKit

theorem tab_grown {w w' : World} {R : Nat} (h : Tab w) (hg : w.grownBy w' (some R)) (hne : 0 ≠ R) : Tab w' := fun i hi =>
  hg.cell (h i hi) (by intro e; simp at e; exact hne e)
theorem tab_below {w w' : World} {n : Nat} (h : Tab w) (hb : Below n w w') (h0 : 0 < n) : Tab w' := fun i hi => by
  rw [hb.cell (p := ⟨0, i, none⟩) h0]; exact h i hi

/-- What holds in the middle of add. -/
def Ad (r : Rn) (l : List Int) (R : Nat) (w wr : World) : Prop := RunAt wr R (r.all l) ∧ w.grownBy wr (some R)

theorem one8 (v0 v1 v2 v3 v4 v5 v6 v7 : BitVec 32) : #[Value.int .u32 (U v0), Value.int .u32 (U v1), Value.int .u32 (U v2), Value.int .u32 (U v3), Value.int .u32 (U v4), Value.int .u32 (U v5), Value.int .u32 (U v6), Value.int .u32 (U v7)].all (·.oneCell') = true :=
  all_oneCell_toArray (cs := [_, _, _, _, _, _, _, _]) (by
    intro v hv
    simp only [List.mem_cons, List.not_mem_nil, or_false] at hv
    rcases hv with rfl | rfl | rfl | rfl | rfl | rfl | rfl | rfl <;> rfl)

theorem cast_world' {P : Program} {c : Code} {Q : Exit → Act → World → Prop} {a : Act} {w w2 : World} (h : w2 = w) (h2 : c.wp P Q a w2) : c.wp P Q a w := by rw [← h]; exact h2

set_option maxRecDepth 100000 in
set_option maxHeartbeats 1000000 in
theorem add_any (r : Rn) (zs : List Int) (b off R cp : Nat) (w : World) (hm : zs.length ≤ maxLen) (hbR : b ≠ R) (hz : Bytes zs) (hr : RunAt w R r) (hc : ∀ j, j < zs.length → w.cell? ⟨b, off + j, none⟩ = some (.int .u8 (zs.getD j 0)))
    (hK : Tab w) (hR : R < w.heap.size) (h0 : 0 < w.heap.size) (hRg : 0 ≠ R) (hn : r.c + zs.length < 18446744073709551615) :
    Calls Tryd.prog 45 #[.pointer (some ⟨R, 0, none⟩), .slice (some ⟨b, off, none⟩) zs.length cp] w
      fun e w' => e = .returned (.tuple #[]) ∧ RunAt w' R (r.all zs) ∧ w.grownBy w' (some R) := by
  unfold maxLen at hm
  go_enter Tryd.func45, Tryd.ntmps45
  go_wp2
  go_loopw [8] (fun i wr => ∃ k : Nat, k ≤ zs.length ∧ i = .int .i64 k ∧ Ad r (zs.take k) R w wr) (fun i _ => zs.length - (intOf i).toNat)
  case atStart => exact ⟨0, Nat.zero_le _, rfl, hr, World.grownBy.refl _ _⟩
  case round =>
    obtain ⟨k, hk, rfl, hA⟩ := hrel
    by_cases hlt : k < zs.length
    · obtain ⟨hru, hg⟩ := hA
      have hcx : wr.cell? ⟨b, off + k, none⟩ = some (.int .u8 (zs.getD k 0)) := hg.cell (hc k hlt) (by intro e; simp at e; exact hbR e)
      have hT : Hid (Tab wr) := tab_grown hK hg hRg
      have hcc : (r.all (zs.take k)).c < 18446744073709551615 := by rw [Rn.all_c, List.length_take]; omega
      have HS : Hid (r.all (zs.take (k + 1)) = (r.all (zs.take k)).push (zs.getD k 0)) := by rw [take_next zs k hlt, Rn.all_snoc]; rfl
      have hx0 := (hz k).1
      have hx1 := (hz k).2
      have hR2 : R < wr.heap.size := Nat.lt_of_lt_of_le hR hg.size
      have h02 : 0 < wr.heap.size := Nat.lt_of_lt_of_le h0 hg.size
      clear hr hc hK hR hz h0
      generalize zs.getD k 0 = x at *
      generalize r.all (zs.take k) = q at *
      obtain ⟨s, blk, c⟩ := q
      have hst := hru.stored hx0 hx1
      obtain ⟨-, hB, hC, hf, -, -⟩ := hru
      simp only at hB hC hcc
      have hq := hB (c % 64) (by omega)
      have fq := hf (8 + c % 64) (by omega)
      have fc := hf 72 (by omega)
      clear hB hf
      have m0 : ((c : Int) % 64).toNat = c % 64 := by omega
      have m1 : (c : Int) % 64 < 64 := by omega
      have m2 : (0 : Int) ≤ (c : Int) % 64 := by omega
      have m3 : (c : Int).tmod 64 = (c : Int) % 64 := Int.tmod_eq_emod_of_nonneg (by omega)
      have m4 : IntKind.u64.wrap ((c : Int) % 64) = (c : Int) % 64 := by simp [IntKind.wrap, IntKind.bits, IntKind.signed]; omega
      have n0 : ¬ (72 = 8 + c % 64) := by omega
      have n1 : ¬ (8 + c % 64 = 72) := by omega
      have hgW : Hid (w.grownBy (((wr.setCell ⟨R, 8 + c % 64, none⟩ (.int .u8 x)).setCell ⟨R, 72, none⟩ (.int .u64 ((c : Int) + 1))).drew) (some R)) := grownBy_drew (grownBy_setCell (grownBy_setCell hg _ _) _ _)
      have hTW : Hid (Tab (((wr.setCell ⟨R, 8 + c % 64, none⟩ (.int .u8 x)).setCell ⟨R, 72, none⟩ (.int .u64 ((c : Int) + 1))).drew)) := tab_grown hT.out (grownBy_drew (grownBy_setCell (grownBy_setCell (World.grownBy.refl wr (some R)) _ _) _ _)) hRg
      by_cases h64 : (c + 1) % 64 = 0
      · have h6 : (((c : Int) + 1) % 64 == 0) = true := beq_iff_eq.2 (by omega)
        have HP : Hid (r.all (zs.take (k + 1)) = ⟨s.mix (blk.set (c % 64) x), blk.set (c % 64) x, c + 1⟩) := by rw [HS.out]; unfold Rn.push; rw [if_pos h64]; rfl
        clear HS h64
        go_wp2
        go_region_held3 (fun w' => w'.cell? ⟨R, 72, none⟩ = some (.int .u64 (c : Int))) (first | (go_keep; done) | exact cell_off (by omega) hC) (fail)
        go_wp2
        obtain ⟨W, hW⟩ : ∃ W, W = (((wr.setCell ⟨R, 8 + c % 64, none⟩ (.int .u8 x)).setCell ⟨R, 72, none⟩ (.int .u64 ((c : Int) + 1))).drew) := ⟨_, rfl⟩
        have hsW : W.heap.size = wr.heap.size := by rw [hW]; simp [World.setCell, World.drew]
        refine cast_world' (w2 := W) hW ?_
        rw [← hW] at hst hgW hTW
        clear hW hcx hC hq fq fc hT hg
        generalize blk.set (c % 64) x = bk at *
        obtain ⟨⟨p0, p1, p2, p3, p4, p5, p6, p7⟩, hB, hC, hf, hl, hby⟩ := hst
        simp only at p0 p1 p2 p3 p4 p5 p6 p7 hB hC hl hby
        have hrg : W.drew.rangeAt R 8 (bk.map (Value.int .u8)) := fun j v hv => by
          have hj : j < 64 := by have := (List.getElem?_eq_some_iff.1 hv).1; simpa [hl] using this
          rw [List.getElem?_map, List.getElem?_eq_getElem (by omega)] at hv
          show W.cell? _ = _
          rw [hB j hj, List.getD_eq_getElem?_getD, List.getElem?_eq_getElem (by omega)]
          simpa using hv
        have hr8 : W.drew.rangeAt R 0 [Value.int .u32 (U s.a), Value.int .u32 (U s.b), Value.int .u32 (U s.c), Value.int .u32 (U s.d), Value.int .u32 (U s.e), Value.int .u32 (U s.f), Value.int .u32 (U s.g), Value.int .u32 (U s.h)] := fun j v hv => by
          show W.cell? _ = _
          match j, hv with
          | 0, hv => exact p0.trans hv
          | 1, hv => exact p1.trans hv
          | 2, hv => exact p2.trans hv
          | 3, hv => exact p3.trans hv
          | 4, hv => exact p4.trans hv
          | 5, hv => exact p5.trans hv
          | 6, hv => exact p6.trans hv
          | 7, hv => exact p7.trans hv
          | j + 8, hv => simp at hv
        have hi : (Tryd.prog.info? 78).map (·.size) = some (bk.map (Value.int .u8)).length := by rw [List.length_map, hl]; kernel_rfl
        have hi8 : (Tryd.prog.info? 77).map (·.size) = some 8 := by kernel_rfl
        have hru : RunAt W R ⟨s, bk, c + 1⟩ := ⟨⟨p0, p1, p2, p3, p4, p5, p6, p7⟩, hB, hC, hf, hl, hby⟩
        have hTd : Tab W.drew := hTW.out
        have hgd : w.grownBy W.drew (some R) := grownBy_drew hgW.out
        have hfin : ∀ w1, Below W.drew.heap.size W.drew w1 → Ad r (zs.take (k + 1)) R w (w1.setCells R 0 [Value.int .u32 (U (s.mix bk).a), Value.int .u32 (U (s.mix bk).b), Value.int .u32 (U (s.mix bk).c), Value.int .u32 (U (s.mix bk).d), Value.int .u32 (U (s.mix bk).e), Value.int .u32 (U (s.mix bk).f), Value.int .u32 (U (s.mix bk).g), Value.int .u32 (U (s.mix bk).h)]) ∧ w1.there R 0 8 := fun w1 hb => by
          have hr1 : RunAt w1 R ⟨s, bk, c + 1⟩ := RunAt.below (w := W.drew) hru (by show R < W.heap.size; omega) hb
          refine ⟨⟨by rw [HP.out]; exact hr1.words, grownBy_setCells _ _ _ (grownBy_trans hgd (grownBy_below hb))⟩, fun j hj => ?_⟩
          obtain ⟨⟨q0, q1, q2, q3, q4, q5, q6, q7⟩, -, -, hf1, -, -⟩ := hr1
          refine ⟨?_, hf1 _ (by omega)⟩
          rw [Nat.zero_add]
          match j, hj with
          | 0, _ => rw [q0]; rfl
          | 1, _ => rw [q1]; rfl
          | 2, _ => rw [q2]; rfl
          | 3, _ => rw [q3]; rfl
          | 4, _ => rw [q4]; rfl
          | 5, _ => rw [q5]; rfl
          | 6, _ => rw [q6]; rfl
          | 7, _ => rw [q7]; rfl
        have h0d : 0 < W.drew.heap.size := by show _ < W.heap.size; omega
        clear hf hC hB hru hTW hgW hgd p0 p1 p2 p3 p4 p5 p6 p7 HP
        refine wp_region_any (by kernel_rfl) ?_
        change wpAny _ _ _ _ _ _ _ (World.drew _)
        refine wpAny_take (i := 0) (v := .pointer (some ⟨R, 0, none⟩)) rfl (by kernel_rfl) (by kernel_rfl) (by kernel_rfl) (fun _ _ _ h => h) (Or.inl ⟨by rfl, ?_⟩) ?_
        · intro w; go_simp
        refine wpAny_take (i := 1) (v := .pointer (some ⟨R, 0, none⟩)) rfl (by kernel_rfl) (by kernel_rfl) (by kernel_rfl) (fun _ _ _ h => h) (Or.inl ⟨by rfl, ?_⟩) ?_
        · intro w; go_simp
        refine wpAny_take (i := 2) (v := .pointer (some ⟨R, 0, none⟩)) rfl (by kernel_rfl) (by kernel_rfl) (by kernel_rfl) (fun _ _ _ h => h) (Or.inl ⟨by rfl, ?_⟩) ?_
        · intro w; go_simp
        refine wpAny_take (i := 3) (v := .pointer (some ⟨R, 0, none⟩)) rfl (by kernel_rfl) (by kernel_rfl) (by kernel_rfl) (fun _ _ _ h => h) (Or.inl ⟨by rfl, ?_⟩) ?_
        · intro w; go_simp
        refine wpAny_take (i := 5) (v := .pointer (some ⟨R, 0, none⟩)) rfl (by kernel_rfl) (by kernel_rfl) (by kernel_rfl) (fun _ _ _ h => h) (Or.inl ⟨by rfl, ?_⟩) ?_
        · intro w; go_simp
        refine wpAny_take (i := 6) (v := .pointer (some ⟨R, 0, none⟩)) rfl (by kernel_rfl) (by kernel_rfl) (by kernel_rfl) (fun _ _ _ h => h) (Or.inl ⟨by rfl, ?_⟩) ?_
        · intro w; go_simp
        refine wpAny_take (i := 7) (v := .pointer (some ⟨R, 8, none⟩)) rfl (by kernel_rfl) (by kernel_rfl) (by kernel_rfl) (fun _ _ _ h => h) (Or.inl ⟨by rfl, ?_⟩) ?_
        · intro w; go_simp
        refine any_two (i := 4) (k := 8) (by kernel_rfl) ?_ ?_
        · refine wpOp_load_mid 77 (.tmp 38) rfl R 0 (by go_simp) [Value.int .u32 (U s.a), Value.int .u32 (U s.b), Value.int .u32 (U s.c), Value.int .u32 (U s.d), Value.int .u32 (U s.e), Value.int .u32 (U s.f), Value.int .u32 (U s.g), Value.int .u32 (U s.h)] _ hr8 Tryd.underlying77 rfl hi8 ?_
          refine any_one (i := 8) (by kernel_rfl) ?_
          refine wpOp_load_mid 78 (.tmp 42) rfl R 8 (by go_simp) (bk.map (Value.int .u8)) _ hrg Tryd.underlying78 rfl hi ?_
          refine any_one (i := 9) (by kernel_rfl) ?_
          refine wpOp_step rfl (fun K hK => ?_)
          go_simp
          refine (mix_any s bk _ hl hby hTd h0d).mono ?_
          rintro e w1 ⟨rfl, hb1⟩
          refine hK _ _ ?_
          clear hK K
          refine wpAny_take (i := 10) (v := .pointer (some ⟨R, 0, none⟩)) rfl (by kernel_rfl) (by kernel_rfl) (by kernel_rfl) (fun _ _ _ h => h) (Or.inl ⟨by rfl, ?_⟩) ?_
          · intro w; go_simp
          refine wpAny_take (i := 11) (v := .pointer (some ⟨R, 0, none⟩)) rfl (by kernel_rfl) (by kernel_rfl) (by kernel_rfl) (fun _ _ _ h => h) (Or.inl ⟨by rfl, ?_⟩) ?_
          · intro w; go_simp
          refine any_one (i := 12) (by kernel_rfl) ?_
          refine wpOp_store_mid 77 (.tmp 46) (.tmp 44) rfl R 0 #[Value.int .u32 (U (s.mix bk).a), Value.int .u32 (U (s.mix bk).b), Value.int .u32 (U (s.mix bk).c), Value.int .u32 (U (s.mix bk).d), Value.int .u32 (U (s.mix bk).e), Value.int .u32 (U (s.mix bk).f), Value.int .u32 (U (s.mix bk).g), Value.int .u32 (U (s.mix bk).h)] (by go_simp) (by go_simp) (hfin w1 hb1).2 hi8 (one8 _ _ _ _ _ _ _ _) ?_
          refine wpAny_done (by kernel_rfl) ?_ _
          have hend := (hfin w1 hb1).1
          clear hfin hr8 hrg hTd hb1
          go_simp
          go_wp2
          go_roundw
          case rel => exact ⟨k + 1, by omega, by go_num, hend⟩
          case measure => simp [intOf]; omega
        · refine wpOp_load_mid 78 (.tmp 42) rfl R 8 (by go_simp) (bk.map (Value.int .u8)) _ hrg Tryd.underlying78 rfl hi ?_
          refine any_one (i := 4) (by kernel_rfl) ?_
          refine wpOp_load_mid 77 (.tmp 38) rfl R 0 (by go_simp) [Value.int .u32 (U s.a), Value.int .u32 (U s.b), Value.int .u32 (U s.c), Value.int .u32 (U s.d), Value.int .u32 (U s.e), Value.int .u32 (U s.f), Value.int .u32 (U s.g), Value.int .u32 (U s.h)] _ hr8 Tryd.underlying77 rfl hi8 ?_
          refine any_one (i := 9) (by kernel_rfl) ?_
          refine wpOp_step rfl (fun K hK => ?_)
          go_simp
          refine (mix_any s bk _ hl hby hTd h0d).mono ?_
          rintro e w1 ⟨rfl, hb1⟩
          refine hK _ _ ?_
          clear hK K
          refine wpAny_take (i := 10) (v := .pointer (some ⟨R, 0, none⟩)) rfl (by kernel_rfl) (by kernel_rfl) (by kernel_rfl) (fun _ _ _ h => h) (Or.inl ⟨by rfl, ?_⟩) ?_
          · intro w; go_simp
          refine wpAny_take (i := 11) (v := .pointer (some ⟨R, 0, none⟩)) rfl (by kernel_rfl) (by kernel_rfl) (by kernel_rfl) (fun _ _ _ h => h) (Or.inl ⟨by rfl, ?_⟩) ?_
          · intro w; go_simp
          refine any_one (i := 12) (by kernel_rfl) ?_
          refine wpOp_store_mid 77 (.tmp 46) (.tmp 44) rfl R 0 #[Value.int .u32 (U (s.mix bk).a), Value.int .u32 (U (s.mix bk).b), Value.int .u32 (U (s.mix bk).c), Value.int .u32 (U (s.mix bk).d), Value.int .u32 (U (s.mix bk).e), Value.int .u32 (U (s.mix bk).f), Value.int .u32 (U (s.mix bk).g), Value.int .u32 (U (s.mix bk).h)] (by go_simp) (by go_simp) (hfin w1 hb1).2 hi8 (one8 _ _ _ _ _ _ _ _) ?_
          refine wpAny_done (by kernel_rfl) ?_ _
          have hend := (hfin w1 hb1).1
          clear hfin hr8 hrg hTd hb1
          go_simp
          go_wp2
          go_roundw
          case rel => exact ⟨k + 1, by omega, by go_num, hend⟩
          case measure => simp [intOf]; omega
      · have h6 : (((c : Int) + 1) % 64 == 0) = false := beq_eq_false_iff_ne.2 (by omega)
        have hend : Ad r (zs.take (k + 1)) R w (((wr.setCell ⟨R, 8 + c % 64, none⟩ (.int .u8 x)).setCell ⟨R, 72, none⟩ (.int .u64 ((c : Int) + 1))).drew) := by
          refine ⟨?_, hgW.out⟩
          rw [HS.out]
          unfold Rn.push
          rw [if_neg h64]
          exact hst
        clear HS h64 hst hgW hTW hT
        go_wp2
        go_region_held3 (fun w' => w'.cell? ⟨R, 72, none⟩ = some (.int .u64 (c : Int))) (first | (go_keep; done) | exact cell_off (by omega) hC) (fail)
        go_wp2
        go_roundw
        case rel => exact ⟨k + 1, by omega, by go_num, hend⟩
        case measure => simp [intOf]; omega
    · have e : zs.take k = zs := List.take_of_length_le (by omega)
      rw [e] at hA
      clear hr hc hK hR hz h0 e
      go_wp2
      go_end0
      exact ⟨rfl, hA.1, hA.2⟩

end Go.Proofs.YtkjlchfmplcobadDoor
