/- ShaAdd, ShaEnd, ShaSum, TreeMath, ShaRefRoot, as one text. -/
import Derived.Test.YtkjlchfmplcobaeGreatDoorProg
import Derived.Test.YtkjlchfmplcobaeGreatDoorShaMix
import Derived.Test.YtkjlchfmplcobaeGreatDoorRunAQ
import Derived.WalkKit
import Derived.WalkSpells
import Derived.WalkLawsBesides
import Derived.Deep.RegionHeld3
import Derived.BigRegion
import Derived.Test.YtkjlchfmplcobaeGreatDoorShaOrder
import Derived.Test.YtkjlchfmplcobaeGreatDoorRunAR
import Derived.Deep.WholeRow
import Derived.Test.YtkjlchfmplcobaeGreatDoorShaRefSmall
/- The walk of (*run).add: it takes bytes in. -/
namespace Go.Proofs.YtkjlchfmplcobaeGreatDoor
open Go.RowKit

theorem tab_grown {w w' : World} {R : Nat} (h : Tab w) (hg : w.grownBy w' (some R)) (hne : 0 ≠ R) : Tab w' := fun i hi =>
  hg.cell (h i hi) (by intro e; simp at e; exact hne e)
theorem tab_below {w w' : World} {n : Nat} (h : Tab w) (hb : Below n w w') (h0 : 0 < n) : Tab w' := fun i hi => by
  rw [hb.cell (p := ⟨0, i, none⟩) h0]; exact h i hi

/-- What holds in the middle of add. -/
def Ad (r : Rn) (l : List Int) (R : Nat) (w wr : World) : Prop := RunAt wr R (r.all l) ∧ w.grownBy wr (some R)

theorem one8 (v0 v1 v2 v3 v4 v5 v6 v7 : BitVec 32) : #[Value.int .u32 (U v0), Value.int .u32 (U v1), Value.int .u32 (U v2), Value.int .u32 (U v3), Value.int .u32 (U v4), Value.int .u32 (U v5), Value.int .u32 (U v6), Value.int .u32 (U v7)].all (·.oneCell') = true :=
  all_oneCell_toArray (cs := [_, _, _, _, _, _, _, _]) (by
    intro v hv
    simp only [List.mem_cons, List.not_mem_nil, or_false] at hv
    rcases hv with rfl | rfl | rfl | rfl | rfl | rfl | rfl | rfl <;> rfl)

theorem cast_world' {P : Program} {c : Code} {Q : Exit → Act → World → Prop} {a : Act} {w w2 : World} (h : w2 = w) (h2 : c.wp P Q a w2) : c.wp P Q a w := by rw [← h]; exact h2

set_option maxRecDepth 100000 in
set_option maxHeartbeats 1000000 in
theorem add_any (r : Rn) (zs : List Int) (b off R cp : Nat) (w : World) (hm : zs.length ≤ maxLen) (hbR : b ≠ R) (hz : Bytes zs) (hr : RunAt w R r) (hc : ∀ j, j < zs.length → w.cell? ⟨b, off + j, none⟩ = some (.int .u8 (zs.getD j 0)))
    (hK : Tab w) (hR : R < w.heap.size) (h0 : 0 < w.heap.size) (hRg : 0 ≠ R) (hn : r.c + zs.length < 18446744073709551615) :
    Calls Tryz.prog 113 #[.pointer (some ⟨R, 0, none⟩), .slice (some ⟨b, off, none⟩) zs.length cp] w
      fun e w' => e = .returned (.tuple #[]) ∧ RunAt w' R (r.all zs) ∧ w.grownBy w' (some R) := by
  unfold maxLen at hm
  go_enter Tryz.func113, Tryz.ntmps113
  go_wp2
  go_loopw [8] (fun i wr => ∃ k : Nat, k ≤ zs.length ∧ i = .int .i64 k ∧ Ad r (zs.take k) R w wr) (fun i _ => zs.length - (intOf i).toNat)
  case atStart => exact ⟨0, Nat.zero_le _, rfl, hr, World.grownBy.refl _ _⟩
  case round =>
    obtain ⟨k, hk, rfl, hA⟩ := hrel
    by_cases hlt : k < zs.length
    · obtain ⟨hru, hg⟩ := hA
      have hcx : wr.cell? ⟨b, off + k, none⟩ = some (.int .u8 (zs.getD k 0)) := hg.cell (hc k hlt) (by intro e; simp at e; exact hbR e)
      have hT : Hid (Tab wr) := tab_grown hK hg hRg
      have hcc : (r.all (zs.take k)).c < 18446744073709551615 := by rw [Rn.all_c, List.length_take]; omega
      have HS : Hid (r.all (zs.take (k + 1)) = (r.all (zs.take k)).push (zs.getD k 0)) := by rw [take_next zs k hlt, Rn.all_snoc]; rfl
      have hx0 := (hz k).1
      have hx1 := (hz k).2
      have hR2 : R < wr.heap.size := Nat.lt_of_lt_of_le hR hg.size
      have h02 : 0 < wr.heap.size := Nat.lt_of_lt_of_le h0 hg.size
      clear hr hc hK hR hz h0
      generalize zs.getD k 0 = x at *
      generalize r.all (zs.take k) = q at *
      obtain ⟨s, blk, c⟩ := q
      have hst := hru.stored hx0 hx1
      obtain ⟨-, hB, hC, hf, -, -⟩ := hru
      simp only at hB hC hcc
      have hq := hB (c % 64) (by omega)
      have fq := hf (8 + c % 64) (by omega)
      have fc := hf 72 (by omega)
      clear hB hf
      have m0 : ((c : Int) % 64).toNat = c % 64 := by omega
      have m1 : (c : Int) % 64 < 64 := by omega
      have m2 : (0 : Int) ≤ (c : Int) % 64 := by omega
      have m3 : (c : Int).tmod 64 = (c : Int) % 64 := Int.tmod_eq_emod_of_nonneg (by omega)
      have m4 : IntKind.u64.wrap ((c : Int) % 64) = (c : Int) % 64 := by simp [IntKind.wrap, IntKind.bits, IntKind.signed]; omega
      have n0 : ¬ (72 = 8 + c % 64) := by omega
      have n1 : ¬ (8 + c % 64 = 72) := by omega
      have hgW : Hid (w.grownBy (((wr.setCell ⟨R, 8 + c % 64, none⟩ (.int .u8 x)).setCell ⟨R, 72, none⟩ (.int .u64 ((c : Int) + 1))).drew) (some R)) := grownBy_drew (grownBy_setCell (grownBy_setCell hg _ _) _ _)
      have hTW : Hid (Tab (((wr.setCell ⟨R, 8 + c % 64, none⟩ (.int .u8 x)).setCell ⟨R, 72, none⟩ (.int .u64 ((c : Int) + 1))).drew)) := tab_grown hT.out (grownBy_drew (grownBy_setCell (grownBy_setCell (World.grownBy.refl wr (some R)) _ _) _ _)) hRg
      by_cases h64 : (c + 1) % 64 = 0
      · have h6 : (((c : Int) + 1) % 64 == 0) = true := beq_iff_eq.2 (by omega)
        have HP : Hid (r.all (zs.take (k + 1)) = ⟨s.mix (blk.set (c % 64) x), blk.set (c % 64) x, c + 1⟩) := by rw [HS.out]; unfold Rn.push; rw [if_pos h64]; rfl
        clear HS h64
        go_wp2
        go_region_held3 (fun w' => w'.cell? ⟨R, 72, none⟩ = some (.int .u64 (c : Int))) (first | (go_keep; done) | exact cell_off (by omega) hC) (fail)
        go_wp2
        obtain ⟨W, hW⟩ : ∃ W, W = (((wr.setCell ⟨R, 8 + c % 64, none⟩ (.int .u8 x)).setCell ⟨R, 72, none⟩ (.int .u64 ((c : Int) + 1))).drew) := ⟨_, rfl⟩
        have hsW : W.heap.size = wr.heap.size := by rw [hW]; simp [World.setCell, World.drew]
        refine cast_world' (w2 := W) hW ?_
        rw [← hW] at hst hgW hTW
        clear hW hcx hC hq fq fc hT hg
        generalize blk.set (c % 64) x = bk at *
        obtain ⟨⟨p0, p1, p2, p3, p4, p5, p6, p7⟩, hB, hC, hf, hl, hby⟩ := hst
        simp only at p0 p1 p2 p3 p4 p5 p6 p7 hB hC hl hby
        have hrg : W.drew.rangeAt R 8 (bk.map (Value.int .u8)) := fun j v hv => by
          have hj : j < 64 := by have := (List.getElem?_eq_some_iff.1 hv).1; simpa [hl] using this
          rw [List.getElem?_map, List.getElem?_eq_getElem (by omega)] at hv
          show W.cell? _ = _
          rw [hB j hj, List.getD_eq_getElem?_getD, List.getElem?_eq_getElem (by omega)]
          simpa using hv
        have hr8 : W.drew.rangeAt R 0 [Value.int .u32 (U s.a), Value.int .u32 (U s.b), Value.int .u32 (U s.c), Value.int .u32 (U s.d), Value.int .u32 (U s.e), Value.int .u32 (U s.f), Value.int .u32 (U s.g), Value.int .u32 (U s.h)] := fun j v hv => by
          show W.cell? _ = _
          match j, hv with
          | 0, hv => exact p0.trans hv
          | 1, hv => exact p1.trans hv
          | 2, hv => exact p2.trans hv
          | 3, hv => exact p3.trans hv
          | 4, hv => exact p4.trans hv
          | 5, hv => exact p5.trans hv
          | 6, hv => exact p6.trans hv
          | 7, hv => exact p7.trans hv
          | j + 8, hv => simp at hv
        have hi : (Tryz.prog.info? 157).map (·.size) = some (bk.map (Value.int .u8)).length := by rw [List.length_map, hl]; kernel_rfl
        have hi8 : (Tryz.prog.info? 156).map (·.size) = some 8 := by kernel_rfl
        have hru : RunAt W R ⟨s, bk, c + 1⟩ := ⟨⟨p0, p1, p2, p3, p4, p5, p6, p7⟩, hB, hC, hf, hl, hby⟩
        have hTd : Tab W.drew := hTW.out
        have hgd : w.grownBy W.drew (some R) := grownBy_drew hgW.out
        have hfin : ∀ w1, Below W.drew.heap.size W.drew w1 → Ad r (zs.take (k + 1)) R w (w1.setCells R 0 [Value.int .u32 (U (s.mix bk).a), Value.int .u32 (U (s.mix bk).b), Value.int .u32 (U (s.mix bk).c), Value.int .u32 (U (s.mix bk).d), Value.int .u32 (U (s.mix bk).e), Value.int .u32 (U (s.mix bk).f), Value.int .u32 (U (s.mix bk).g), Value.int .u32 (U (s.mix bk).h)]) ∧ w1.there R 0 8 := fun w1 hb => by
          have hr1 : RunAt w1 R ⟨s, bk, c + 1⟩ := RunAt.below (w := W.drew) hru (by show R < W.heap.size; omega) hb
          refine ⟨⟨by rw [HP.out]; exact hr1.words, grownBy_setCells _ _ _ (grownBy_trans hgd (grownBy_below hb))⟩, fun j hj => ?_⟩
          obtain ⟨⟨q0, q1, q2, q3, q4, q5, q6, q7⟩, -, -, hf1, -, -⟩ := hr1
          refine ⟨?_, hf1 _ (by omega)⟩
          rw [Nat.zero_add]
          match j, hj with
          | 0, _ => rw [q0]; rfl
          | 1, _ => rw [q1]; rfl
          | 2, _ => rw [q2]; rfl
          | 3, _ => rw [q3]; rfl
          | 4, _ => rw [q4]; rfl
          | 5, _ => rw [q5]; rfl
          | 6, _ => rw [q6]; rfl
          | 7, _ => rw [q7]; rfl
        have h0d : 0 < W.drew.heap.size := by show _ < W.heap.size; omega
        clear hf hC hB hru hTW hgW hgd p0 p1 p2 p3 p4 p5 p6 p7 HP
        refine wp_region_any (by kernel_rfl) ?_
        change wpAny _ _ _ _ _ _ _ (World.drew _)
        refine wpAny_take (i := 0) (v := .pointer (some ⟨R, 0, none⟩)) rfl (by kernel_rfl) (by kernel_rfl) (by kernel_rfl) (fun _ _ _ h => h) (Or.inl ⟨by rfl, ?_⟩) ?_
        · intro w; go_simp
        refine wpAny_take (i := 1) (v := .pointer (some ⟨R, 0, none⟩)) rfl (by kernel_rfl) (by kernel_rfl) (by kernel_rfl) (fun _ _ _ h => h) (Or.inl ⟨by rfl, ?_⟩) ?_
        · intro w; go_simp
        refine wpAny_take (i := 2) (v := .pointer (some ⟨R, 0, none⟩)) rfl (by kernel_rfl) (by kernel_rfl) (by kernel_rfl) (fun _ _ _ h => h) (Or.inl ⟨by rfl, ?_⟩) ?_
        · intro w; go_simp
        refine wpAny_take (i := 3) (v := .pointer (some ⟨R, 0, none⟩)) rfl (by kernel_rfl) (by kernel_rfl) (by kernel_rfl) (fun _ _ _ h => h) (Or.inl ⟨by rfl, ?_⟩) ?_
        · intro w; go_simp
        refine wpAny_take (i := 5) (v := .pointer (some ⟨R, 0, none⟩)) rfl (by kernel_rfl) (by kernel_rfl) (by kernel_rfl) (fun _ _ _ h => h) (Or.inl ⟨by rfl, ?_⟩) ?_
        · intro w; go_simp
        refine wpAny_take (i := 6) (v := .pointer (some ⟨R, 0, none⟩)) rfl (by kernel_rfl) (by kernel_rfl) (by kernel_rfl) (fun _ _ _ h => h) (Or.inl ⟨by rfl, ?_⟩) ?_
        · intro w; go_simp
        refine wpAny_take (i := 7) (v := .pointer (some ⟨R, 8, none⟩)) rfl (by kernel_rfl) (by kernel_rfl) (by kernel_rfl) (fun _ _ _ h => h) (Or.inl ⟨by rfl, ?_⟩) ?_
        · intro w; go_simp
        refine any_two (i := 4) (k := 8) (by kernel_rfl) ?_ ?_
        · refine wpOp_load_mid 156 (.tmp 38) rfl R 0 (by go_simp) [Value.int .u32 (U s.a), Value.int .u32 (U s.b), Value.int .u32 (U s.c), Value.int .u32 (U s.d), Value.int .u32 (U s.e), Value.int .u32 (U s.f), Value.int .u32 (U s.g), Value.int .u32 (U s.h)] _ hr8 Tryz.underlying156 rfl hi8 ?_
          refine any_one (i := 8) (by kernel_rfl) ?_
          refine wpOp_load_mid 157 (.tmp 42) rfl R 8 (by go_simp) (bk.map (Value.int .u8)) _ hrg Tryz.underlying157 rfl hi ?_
          refine any_one (i := 9) (by kernel_rfl) ?_
          refine wpOp_step rfl (fun K hK => ?_)
          go_simp
          refine (mix_any s bk _ hl hby hTd h0d).mono ?_
          rintro e w1 ⟨rfl, hb1⟩
          refine hK _ _ ?_
          clear hK K
          refine wpAny_take (i := 10) (v := .pointer (some ⟨R, 0, none⟩)) rfl (by kernel_rfl) (by kernel_rfl) (by kernel_rfl) (fun _ _ _ h => h) (Or.inl ⟨by rfl, ?_⟩) ?_
          · intro w; go_simp
          refine wpAny_take (i := 11) (v := .pointer (some ⟨R, 0, none⟩)) rfl (by kernel_rfl) (by kernel_rfl) (by kernel_rfl) (fun _ _ _ h => h) (Or.inl ⟨by rfl, ?_⟩) ?_
          · intro w; go_simp
          refine any_one (i := 12) (by kernel_rfl) ?_
          refine wpOp_store_mid 156 (.tmp 46) (.tmp 44) rfl R 0 #[Value.int .u32 (U (s.mix bk).a), Value.int .u32 (U (s.mix bk).b), Value.int .u32 (U (s.mix bk).c), Value.int .u32 (U (s.mix bk).d), Value.int .u32 (U (s.mix bk).e), Value.int .u32 (U (s.mix bk).f), Value.int .u32 (U (s.mix bk).g), Value.int .u32 (U (s.mix bk).h)] (by go_simp) (by go_simp) (hfin w1 hb1).2 hi8 (one8 _ _ _ _ _ _ _ _) ?_
          refine wpAny_done (by kernel_rfl) ?_ _
          have hend := (hfin w1 hb1).1
          clear hfin hr8 hrg hTd hb1
          go_simp
          go_wp2
          go_roundw
          case rel => exact ⟨k + 1, by omega, by go_num, hend⟩
          case measure => simp [intOf]; omega
        · refine wpOp_load_mid 157 (.tmp 42) rfl R 8 (by go_simp) (bk.map (Value.int .u8)) _ hrg Tryz.underlying157 rfl hi ?_
          refine any_one (i := 4) (by kernel_rfl) ?_
          refine wpOp_load_mid 156 (.tmp 38) rfl R 0 (by go_simp) [Value.int .u32 (U s.a), Value.int .u32 (U s.b), Value.int .u32 (U s.c), Value.int .u32 (U s.d), Value.int .u32 (U s.e), Value.int .u32 (U s.f), Value.int .u32 (U s.g), Value.int .u32 (U s.h)] _ hr8 Tryz.underlying156 rfl hi8 ?_
          refine any_one (i := 9) (by kernel_rfl) ?_
          refine wpOp_step rfl (fun K hK => ?_)
          go_simp
          refine (mix_any s bk _ hl hby hTd h0d).mono ?_
          rintro e w1 ⟨rfl, hb1⟩
          refine hK _ _ ?_
          clear hK K
          refine wpAny_take (i := 10) (v := .pointer (some ⟨R, 0, none⟩)) rfl (by kernel_rfl) (by kernel_rfl) (by kernel_rfl) (fun _ _ _ h => h) (Or.inl ⟨by rfl, ?_⟩) ?_
          · intro w; go_simp
          refine wpAny_take (i := 11) (v := .pointer (some ⟨R, 0, none⟩)) rfl (by kernel_rfl) (by kernel_rfl) (by kernel_rfl) (fun _ _ _ h => h) (Or.inl ⟨by rfl, ?_⟩) ?_
          · intro w; go_simp
          refine any_one (i := 12) (by kernel_rfl) ?_
          refine wpOp_store_mid 156 (.tmp 46) (.tmp 44) rfl R 0 #[Value.int .u32 (U (s.mix bk).a), Value.int .u32 (U (s.mix bk).b), Value.int .u32 (U (s.mix bk).c), Value.int .u32 (U (s.mix bk).d), Value.int .u32 (U (s.mix bk).e), Value.int .u32 (U (s.mix bk).f), Value.int .u32 (U (s.mix bk).g), Value.int .u32 (U (s.mix bk).h)] (by go_simp) (by go_simp) (hfin w1 hb1).2 hi8 (one8 _ _ _ _ _ _ _ _) ?_
          refine wpAny_done (by kernel_rfl) ?_ _
          have hend := (hfin w1 hb1).1
          clear hfin hr8 hrg hTd hb1
          go_simp
          go_wp2
          go_roundw
          case rel => exact ⟨k + 1, by omega, by go_num, hend⟩
          case measure => simp [intOf]; omega
      · have h6 : (((c : Int) + 1) % 64 == 0) = false := beq_eq_false_iff_ne.2 (by omega)
        have hend : Ad r (zs.take (k + 1)) R w (((wr.setCell ⟨R, 8 + c % 64, none⟩ (.int .u8 x)).setCell ⟨R, 72, none⟩ (.int .u64 ((c : Int) + 1))).drew) := by
          refine ⟨?_, hgW.out⟩
          rw [HS.out]
          unfold Rn.push
          rw [if_neg h64]
          exact hst
        clear HS h64 hst hgW hTW hT
        go_wp2
        go_region_held3 (fun w' => w'.cell? ⟨R, 72, none⟩ = some (.int .u64 (c : Int))) (first | (go_keep; done) | exact cell_off (by omega) hC) (fail)
        go_wp2
        go_roundw
        case rel => exact ⟨k + 1, by omega, by go_num, hend⟩
        case measure => simp [intOf]; omega
    · have e : zs.take k = zs := List.take_of_length_le (by omega)
      rw [e] at hA
      clear hr hc hK hR hz h0 e
      go_wp2
      go_end0
      exact ⟨rfl, hA.1, hA.2⟩

end Go.Proofs.YtkjlchfmplcobaeGreatDoor

/- The walk of (*run).end: the digest of what came. -/
namespace Go.Proofs.YtkjlchfmplcobaeGreatDoor
open Go.RowKit

def St.list (s : St) : List (BitVec 32) := [s.a, s.b, s.c, s.d, s.e, s.f, s.g, s.h]
/-- A word's four bytes, the high one first. -/
def byte4 (x : BitVec 32) : List Int := [U x / 16777216 % 256, U x / 65536 % 256, U x / 256 % 256, U x % 256]
def St.outTo (s : St) (k : Nat) : List Int := (s.list.take k).flatMap byte4
/-- The digest's thirty-two bytes. -/
def St.out (s : St) : List Int := s.list.flatMap byte4
theorem outTo_succ (s : St) (k : Nat) (hk : k < 8) : s.outTo (k + 1) = s.outTo k ++ byte4 (s.list.getD k 0) := by
  have h : k < s.list.length := hk
  unfold St.outTo
  rw [List.take_succ_eq_append_getElem h, List.flatMap_append, List.getD_eq_getElem?_getD, List.getElem?_eq_getElem h]
  simp
theorem outTo_length (s : St) (k : Nat) (hk : k ≤ 8) : (s.outTo k).length = 4 * k := by
  induction k with
  | zero => rfl
  | succ k ih => rw [outTo_succ s k (by omega), List.length_append, ih (by omega)]; simp [byte4]; omega

theorem grownBy_far {a b c : World} {row : Option Nat} {g : Nat} (h : a.grownBy b row) (k : b.grownBy c (some g)) (hg : a.heap.size ≤ g) : a.grownBy c row :=
  ⟨k.os.trans h.os, k.tape.trans h.tape, k.output.trans h.output, Nat.le_trans h.size k.size, fun i hi hn => (k.block i (Nat.lt_of_lt_of_le hi h.size) (by intro e; simp at e; omega)).trans (h.block i hi hn)⟩

theorem index8 (s : St) (k : Nat) (hk : k < 8) (w : World) :
    (Instr.index 156 (.agg #[.int .u32 (U s.a), .int .u32 (U s.b), .int .u32 (U s.c), .int .u32 (U s.d), .int .u32 (U s.e), .int .u32 (U s.f), .int .u32 (U s.g), .int .u32 (U s.h)]) (.int .i64 (k : Int))).run Tryz.prog w = .ok (.int .u32 (U (s.list.getD k 0))) w := by
  have h : k = 0 ∨ k = 1 ∨ k = 2 ∨ k = 3 ∨ k = 4 ∨ k = 5 ∨ k = 6 ∨ k = 7 := by omega
  rcases h with rfl | rfl | rfl | rfl | rfl | rfl | rfl | rfl
  · show _ = _; kernel_rfl
  · show _ = _; kernel_rfl
  · show _ = _; kernel_rfl
  · show _ = _; kernel_rfl
  · show _ = _; kernel_rfl
  · show _ = _; kernel_rfl
  · show _ = _; kernel_rfl
  · show _ = _; kernel_rfl

set_option maxRecDepth 100000 in
set_option maxHeartbeats 1000000 in
theorem end_any (r : Rn) (R : Nat) (w : World) (hr : RunAt w R r) (hK : Tab w) (hR : R < w.heap.size) (h0 : 0 < w.heap.size) (hRg : 0 ≠ R) (hn : r.c < 2305843009213693000) :
    Calls Tryz.prog 114 #[.pointer (some ⟨R, 0, none⟩)] w
      fun e w' => ∃ g, e = .returned (.slice (some ⟨g, 0, none⟩) 32 32) ∧ w'.ownsRow w.heap.size 5 1 (.slice (some ⟨g, 0, none⟩) 32 32) 32 ((r.all (padL r.c)).s.out.map (Value.int .u8)) ∧ w.grownBy w' (some R) := by
  obtain ⟨i0, hi, hz0, hz1, hz2⟩ := info_parts Tryz.info5b
  have hC : w.cell? ⟨R, 72, none⟩ = some (.int .u64 (r.c : Int)) := hr.2.2.1
  have hpl : (padL r.c).length < 100 := by
    have := padTo_length r.c 8
    have h2 : nough r.c < 64 := Nat.mod_lt _ (by omega)
    show (padTo r.c 8).length < 100
    omega
  go_enter Tryz.func114, Tryz.ntmps114
  go_wp2_with fail
  refine (padding_any r.c _ (by omega)).mono ?_
  rintro e w1 ⟨cp, rfl, hcell, hb1, hlt1⟩
  go_wp2_with fail
  have hr1 : RunAt w1 R r := hr.below hR hb1
  have hK1 : Tab w1 := tab_below hK hb1 h0
  refine (add_any r (padL r.c) w.heap.size 0 R cp w1 (by unfold maxLen; omega) (by omega) (pad_bytes _) hr1 (fun j hj => by rw [Nat.zero_add]; exact hcell j hj) hK1 (by omega) (by omega) hRg (by omega)).mono ?_
  rintro e w2 ⟨rfl, hr2, hg2⟩
  have hg : w.grownBy w2 (some R) := grownBy_trans (grownBy_below hb1) hg2
  clear hcell hr1 hK1 hC hb1 hg2 hr hK
  obtain ⟨⟨p0, p1, p2, p3, p4, p5, p6, p7⟩, -, -, -, -, -⟩ := hr2
  obtain ⟨s, hs⟩ : ∃ s, (r.all (padL r.c)).s = s := ⟨_, rfl⟩
  rw [hs] at p0 p1 p2 p3 p4 p5 p6 p7
  have HSs : Hid ((r.all (padL r.c)).s = s) := hs
  clear hs
  have hsz := hg.size
  go_wp2_with (at_make; refine wpList_make_part _ rfl _ _ 37 rfl w.heap.size 5 i0 (.int .u8 0) Tryz.underlying37 hi hz0 hz1 rfl .i64 .i64 _ _ 0 32 rfl rfl rfl rfl (by omega) (by rw [hz2]; omega) (by unfold maxLen; omega) (by omega) ?_; intro w3 hown hgrow; have q0 := hgrow.cell p0 (by simp); have q1 := hgrow.cell p1 (by simp); have q2 := hgrow.cell p2 (by simp); have q3 := hgrow.cell p3 (by simp); have q4 := hgrow.cell p4 (by simp); have q5 := hgrow.cell p5 (by simp); have q6 := hgrow.cell p6 (by simp); have q7 := hgrow.cell p7 (by simp))
  have hg3 : w.grownBy w3 (some R) := grownBy_trans hg ⟨hgrow.os, hgrow.tape, hgrow.output, hgrow.size, fun k hk _ => hgrow.block k hk (by simp)⟩
  have hi8 := index8 s
  go_loopw [3, 18] (fun v i wr => ∃ k : Nat, k ≤ 8 ∧ i = .int .i64 k ∧ v = .slice (some ⟨w2.heap.size, 0, none⟩) (4 * k) 32 ∧
      wr.ownsRow w.heap.size 5 1 (.slice (some ⟨w2.heap.size, 0, none⟩) (4 * k) 32) (4 * k) ((s.outTo k).map (Value.int .u8)) ∧ w.grownBy wr (some R)) (fun _ i _ => 8 - (intOf i).toNat)
  case atStart => exact ⟨0, by omega, rfl, rfl, hown, hg3⟩
  case round =>
    obtain ⟨k, hk, rfl, rfl, ho, hgr⟩ := hrel
    clear hown hgrow hg3 p0 p1 p2 p3 p4 p5 p6 p7 q0 q1 q2 q3 q4 q5 q6 q7
    by_cases hlt : k < 8
    · have hix := hi8 k hlt
      have HO : Hid (s.outTo (k + 1) = s.outTo k ++ byte4 (s.list.getD k 0)) := outTo_succ s k hlt
      have hl4 := outTo_length s k hk
      clear hi8
      generalize s.list.getD k 0 = x at *
      go_wp2_with (at_builtin; refine wpList_append_fits _ rfl (.tmp 21) (.tmp 33) 37 rfl w.heap.size 5 i0 1 Tryz.underlying37 hi hz1 w2.heap.size _ _ _ rfl (ho.alloc _) ⟨wr.heap.size, 0, none⟩ 4 4 ((byte4 x).map (Value.int .u8)) rfl rfl ?c1 ?c2 (by omega) ?_)
      case c1 =>
        intro j u hj
        have hlt4 : j < 4 := by have := (List.getElem?_eq_some_iff.1 hj).1; simpa [byte4] using this
        have h : j = 0 ∨ j = 1 ∨ j = 2 ∨ j = 3 := by omega
        have hadd : (⟨wr.heap.size, 0, none⟩ : Addr).add j = ⟨wr.heap.size, j, none⟩ := by unfold Addr.add; split <;> simp_all
        rw [hadd, new_cell _ _ _ _ (by simpa using hlt4)]
        rcases h with rfl | rfl | rfl | rfl <;> exact hj
      case c2 =>
        intro u hu
        obtain ⟨y, -, rfl⟩ := List.mem_map.1 hu
        rfl
      intro w4 ho4 hgrow4
      have hb4 : w.grownBy w4 (some R) := grownBy_far (grownBy_trans hgr (World.grownBy_alloc _ _ _)) hgrow4 hsz
      have ho5 : w4.ownsRow w.heap.size 5 1 (.slice (some ⟨w2.heap.size, 0, none⟩) (4 * (k + 1)) 32) (4 * (k + 1)) ((s.outTo (k + 1)).map (Value.int .u8)) := by
        rw [HO.out, List.map_append]; exact ho4
      clear ho4 hgrow4 ho hl4
      go_wp2
      go_roundw
      case rel => exact ⟨k + 1, by omega, by go_num, rfl, ho5, hb4⟩
      case measure => simp [intOf]; omega
    · obtain rfl : k = 8 := by omega
      clear hlt hk hi8
      go_wp2
      go_ret
      exact ⟨w2.heap.size, rfl, by rw [HSs.out]; exact ho, hgr⟩

end Go.Proofs.YtkjlchfmplcobaeGreatDoor

/- The walks of sha.begin and sha.Sum: the digest of bytes. -/
namespace Go.Proofs.YtkjlchfmplcobaeGreatDoor
open Go.RowKit

/-- The first words. -/
def st0 : St := ⟨0x6a09e667, 0xbb67ae85, 0x3c6ef372, 0xa54ff53a, 0x510e527f, 0x9b05688c, 0x1f83d9ab, 0x5be0cd19⟩
/-- A digest to which nothing came. -/
def rn0 : Rn := ⟨st0, List.replicate 64 0, 0⟩
/-- The digest of bytes. -/
def shaL (zs : List Int) : List Int := ((rn0.all zs).all (padL zs.length)).s.out

/-- The zero value of a digest on its way. -/
def zRun : Array Value := (List.replicate 8 (Value.int .u32 0) ++ List.replicate 64 (Value.int .u8 0) ++ [Value.int .u64 0]).toArray
theorem info_run : (Tryz.prog.info? 159).map (fun i => (i.zero, i.size)) = some (some (.agg zRun), 73) := by kernel_rfl

/-- A digest on its way to which nothing came, its cells. -/
def iniRun : Array Value := ((((((((zRun.setIfInBounds 0 (Value.int .u32 1779033703)).setIfInBounds 1 (Value.int .u32 3144134277)).setIfInBounds 2 (Value.int .u32 1013904242)).setIfInBounds 3 (Value.int .u32 2773480762)).setIfInBounds 4 (Value.int .u32 1359893119)).setIfInBounds 5 (Value.int .u32 2600822924)).setIfInBounds 6 (Value.int .u32 528734635)).setIfInBounds 7 (Value.int .u32 1541459225))
def iniList : List Value := [.int .u32 (U st0.a), .int .u32 (U st0.b), .int .u32 (U st0.c), .int .u32 (U st0.d), .int .u32 (U st0.e), .int .u32 (U st0.f), .int .u32 (U st0.g), .int .u32 (U st0.h)] ++ List.replicate 64 (Value.int .u8 0) ++ [Value.int .u64 0]
theorem ini_list : iniRun.toList = iniList := by kernel_rfl
theorem ini_size : iniRun.size = 73 := by kernel_rfl
theorem zrun_size : zRun.size = 73 := by kernel_rfl
theorem ini_one : iniRun.all (·.oneCell') = true := by
  have h : ∀ v ∈ iniList, v.oneCell' = true := by
    intro v hv
    unfold iniList at hv
    rcases List.mem_append.1 hv with hv | hv
    · rcases List.mem_append.1 hv with hv | hv
      · simp only [List.mem_cons, List.not_mem_nil, or_false] at hv
        rcases hv with rfl | rfl | rfl | rfl | rfl | rfl | rfl | rfl <;> rfl
      · rw [(List.mem_replicate.1 hv).2]; rfl
    · rw [List.mem_singleton.1 hv]; rfl
  exact Array.all_eq_true_iff_forall_mem.2 (fun v hv => h v (by rw [← ini_list]; exact Array.mem_toList_iff.2 hv))

set_option maxRecDepth 100000 in
set_option maxHeartbeats 1000000 in
theorem begin_any (w : World) : Calls Tryz.prog 112 #[] w fun e w' => e = .returned (.agg iniRun) ∧ Below w.heap.size w w' := by
  have hz := (zero_of_info info_run).1
  have hi := (zero_of_info info_run).2
  have hzs := zrun_size
  have hrg := World.rangeAt_setCells_same (w.alloc (.cells zRun 159)) w.heap.size 0 iniRun.toList (by rw [Array.length_toList, ini_size]; exact there_new _ _ _ 73 zrun_size)
  have hb := below_setCells w.heap.size (Nat.le_refl _) iniRun.toList 0 (w.alloc (.cells zRun 159)) ((Below.refl _ _).alloc (Nat.le_refl _) _)
  go_enter Tryz.func112, Tryz.ntmps112
  go_wp2_with (refine wpList_store_mid rfl 159 (.tmp 0) (.tmp 2) rfl w.heap.size 0 iniRun rfl rfl ?_ ?_ ini_one ?_; (rw [ini_size]; exact there_new _ _ _ 73 zrun_size); (rw [ini_size]; exact hi))
  refine bodyPost_ret (results_cell1 Tryz.results112 _ _ _ w.heap.size 0 rfl iniRun.toList _ hrg Tryz.underlying159 rfl (by rw [Array.length_toList, ini_size]; exact hi)) rfl ⟨by simp, hb⟩

theorem run_new (w' : World) (R : Nat) (h : w'.rangeAt R 0 iniRun.toList) (hf : ∀ j, j < 73 → w'.frozen? ⟨R, j, none⟩ = false) : RunAt w' R rn0 := by
  have hc : ∀ j v, iniList[j]? = some v → w'.cell? ⟨R, j, none⟩ = some v := fun j v hv => by
    have := h j v (by rw [ini_list]; exact hv)
    rwa [Nat.zero_add] at this
  refine ⟨⟨hc 0 _ rfl, hc 1 _ rfl, hc 2 _ rfl, hc 3 _ rfl, hc 4 _ rfl, hc 5 _ rfl, hc 6 _ rfl, hc 7 _ rfl⟩, fun j hj => ?_, hc 72 _ rfl, hf, rfl, fun j => ?_⟩
  · refine hc (8 + j) _ ?_
    unfold iniList
    rw [List.getElem?_append_left (by simp; omega), List.getElem?_append_right (by simp)]
    have e : 8 + j - [Value.int .u32 (U st0.a), .int .u32 (U st0.b), .int .u32 (U st0.c), .int .u32 (U st0.d), .int .u32 (U st0.e), .int .u32 (U st0.f), .int .u32 (U st0.g), .int .u32 (U st0.h)].length = j := by
      show 8 + j - 8 = j; omega
    rw [e, List.getElem?_replicate, if_pos hj]
    have e2 : rn0.blk.getD j 0 = 0 := by
      show (List.replicate 64 (0 : Int)).getD j 0 = 0
      rw [List.getD_eq_getElem?_getD, List.getElem?_replicate, if_pos hj]; rfl
    rw [e2]
  · show 0 ≤ (List.replicate 64 (0 : Int)).getD j 0 ∧ (List.replicate 64 (0 : Int)).getD j 0 < 256
    have e2 : (List.replicate 64 (0 : Int)).getD j 0 = 0 := by
      rw [List.getD_eq_getElem?_getD, List.getElem?_replicate]; split <;> rfl
    rw [e2]; omega

/-- What lies in memory when the run is begun. -/
theorem sum_begun {w w1 : World} (t : TypeId) (hb1 : Below w.heap.size w w1) (hK : Tab w) (h0 : 0 < w.heap.size) :
    RunAt ((w1.alloc (.cells zRun t)).setCells w1.heap.size 0 iniRun.toList) w1.heap.size rn0 ∧ Below w.heap.size w ((w1.alloc (.cells zRun t)).setCells w1.heap.size 0 iniRun.toList) ∧
      Tab ((w1.alloc (.cells zRun t)).setCells w1.heap.size 0 iniRun.toList) ∧ w1.heap.size < ((w1.alloc (.cells zRun t)).setCells w1.heap.size 0 iniRun.toList).heap.size := by
  have hth := there_new w1 t zRun 73 zrun_size
  have hb2 : Below w.heap.size w ((w1.alloc (.cells zRun t)).setCells w1.heap.size 0 iniRun.toList) := below_setCells _ hb1.size _ _ _ (hb1.alloc hb1.size _)
  refine ⟨run_new _ _ (World.rangeAt_setCells_same _ _ _ _ (by rw [Array.length_toList, ini_size]; exact hth)) (fun j hj => ?_), hb2, tab_below hK hb2 h0, by rw [size_setCells]; simp⟩
  have := (hth j hj).2
  rw [Nat.zero_add] at this
  rw [World.frozen?_setCells]
  exact this

set_option maxRecDepth 100000 in
set_option maxHeartbeats 400000 in
theorem add_nil (R : Nat) (x : Option Addr) (c : Nat) (w : World) :
    Calls Tryz.prog 113 #[.pointer (some ⟨R, 0, none⟩), .slice x 0 c] w fun e w' => e = .returned (.tuple #[]) ∧ w' = w := by
  go_enter Tryz.func113, Tryz.ntmps113
  go_wp2
  go_loop [8] (fun i => i = .int .i64 0) (fun _ => 0)
  case atStart => rfl
  case round =>
    subst hrel
    go_wp2
    go_end0
    exact ⟨rfl, rfl⟩

theorem add_bytes (r : Rn) (zs : List Int) (v : Value) (R : Nat) (w : World) (hv : BytesAt w v zs) (hR' : ∀ b off cp, v = .slice (some ⟨b, off, none⟩) zs.length cp → 0 < zs.length → b ≠ R) (hm : zs.length ≤ maxLen) (hz : Bytes zs) (hr : RunAt w R r)
    (hK : Tab w) (hR : R < w.heap.size) (h0 : 0 < w.heap.size) (hRg : 0 ≠ R) (hn : r.c + zs.length < 18446744073709551615) :
    Calls Tryz.prog 113 #[.pointer (some ⟨R, 0, none⟩), v] w
      fun e w' => e = .returned (.tuple #[]) ∧ RunAt w' R (r.all zs) ∧ w.grownBy w' (some R) := by
  rcases hv with ⟨rfl, x, c, rfl, -⟩ | ⟨b, off, cp, rfl, hb, hc⟩
  · refine (add_nil R x c w).mono ?_
    rintro e w' ⟨rfl, rfl⟩
    exact ⟨rfl, hr, World.grownBy.refl _ _⟩
  · by_cases hl : 0 < zs.length
    · exact add_any r zs b off R cp w hm (hR' _ _ _ rfl hl) hz hr hc hK hR h0 hRg hn
    · obtain rfl : zs = [] := List.eq_nil_of_length_eq_zero (by omega)
      refine (add_nil R _ cp w).mono ?_
      rintro e w' ⟨rfl, rfl⟩
      exact ⟨rfl, hr, World.grownBy.refl _ _⟩

set_option maxRecDepth 100000 in
set_option maxHeartbeats 1000000 in
theorem sum_any (zs : List Int) (v : Value) (w : World) (hv : BytesAt w v zs) (hm : zs.length ≤ 140737488355328) (hz : Bytes zs) (hK : Tab w) (h0 : 0 < w.heap.size) :
    Calls Tryz.prog 108 #[v] w
      fun e w' => ∃ g, e = .returned (.slice (some ⟨g, 0, none⟩) 32 32) ∧ w'.ownsRow w.heap.size 5 1 (.slice (some ⟨g, 0, none⟩) 32 32) 32 ((shaL zs).map (Value.int .u8)) ∧ Below w.heap.size w w' := by
  have hz0 := (zero_of_info info_run).1
  have hi := (zero_of_info info_run).2
  go_enter Tryz.func108, Tryz.ntmps108
  go_wp2_with fail
  refine (begin_any _).mono ?_
  rintro e w1 ⟨rfl, hb1⟩
  go_wp2_with (refine wpList_store_mid rfl 159 (.tmp 3) (.tmp 4) rfl w1.heap.size 0 iniRun rfl rfl ?_ ?_ ini_one ?_; (rw [ini_size]; exact there_new _ _ _ 73 zrun_size); (rw [ini_size]; exact hi))
  obtain ⟨hrun, hb2, hK2, hlt⟩ := sum_begun 159 hb1 hK h0
  have hv2 := hv.below (Nat.le_refl _) hb2
  have hne : ∀ b off cp, v = .slice (some ⟨b, off, none⟩) zs.length cp → 0 < zs.length → b ≠ w1.heap.size := fun b off cp e hl => by
    rcases hv with ⟨h, -⟩ | ⟨b', off', cp', h, h2, -⟩
    · rw [h] at hl; simp at hl
    · rw [h] at e
      simp only [Value.slice.injEq, Option.some.injEq, Addr.mk.injEq] at e
      have := hb1.size
      omega
  refine (add_bytes rn0 zs v w1.heap.size _ hv2 hne (by unfold maxLen; omega) hz hrun hK2 hlt (Nat.lt_of_lt_of_le h0 hb2.size) (by have := hb1.size; omega) (by show 0 + zs.length < _; omega)).mono ?_
  rintro e w3 ⟨rfl, hr3, hg3⟩
  have hb3 : Below w.heap.size w w3 := hb2.grown hg3 hb2.size (fun k h => by cases h; exact hb1.size)
  have hK3 : Tab w3 := tab_below hK hb3 h0
  have hR3 : w1.heap.size < w3.heap.size := Nat.lt_of_lt_of_le hlt hg3.size
  have hc3 : (rn0.all zs).c = zs.length := by rw [Rn.all_c]; show 0 + zs.length = _; omega
  clear hrun hb2 hK2 hlt hv2 hne hv hg3
  go_wp2_with fail
  refine (end_any (rn0.all zs) w1.heap.size w3 hr3 hK3 hR3 (Nat.lt_of_lt_of_le h0 hb3.size) (by have := hb1.size; omega) (by rw [hc3]; omega)).mono ?_
  rintro e w4 ⟨g, rfl, ho, hg4⟩
  have hb4 : Below w.heap.size w w4 := hb3.grown hg4 hb3.size (fun k h => by cases h; exact hb1.size)
  have ho4 : w4.ownsRow w.heap.size 5 1 (.slice (some ⟨g, 0, none⟩) 32 32) 32 ((shaL zs).map (Value.int .u8)) := by
    have := ownsRow_base ho hb3.size
    rw [hc3] at this
    exact this
  clear ho hg4 hr3 hK3
  go_wp2_with fail
  go_ret
  exact ⟨g, rfl, ho4, hb4⟩

end Go.Proofs.YtkjlchfmplcobaeGreatDoor

/- The plain mathematics of Merkle's trees: roots, paths, proofs, and what they show. Nothing of the program is in it. -/
namespace Go.Proofs.YtkjlchfmplcobaeGreatDoor

/-- What a leaf's digest is, and that of two. -/
def leafL (b : List Int) : List Int := shaL (0 :: b)
def nodeL (a b : List Int) : List Int := shaL (1 :: (a ++ b))

/-- Doubled from k on, while the double is below n. -/
def splitFrom (k n : Nat) : Nat := if h : 0 < k ∧ 2 * k < n then splitFrom (2 * k) n else k
termination_by n - k
decreasing_by omega
/-- The greatest power of two below n. -/
def splitN (n : Nat) : Nat := splitFrom 1 n
theorem splitFrom_next {k n : Nat} (h0 : 0 < k) (h : 2 * k < n) : splitFrom k n = splitFrom (2 * k) n := by
  rw [splitFrom, dif_pos ⟨h0, h⟩]
theorem splitFrom_end {k n : Nat} (h : ¬ 2 * k < n) : splitFrom k n = k := by
  rw [splitFrom, dif_neg (by omega)]
theorem splitFrom_spec (k n : Nat) (h0 : 0 < k) (h : k < n) : k ≤ splitFrom k n ∧ splitFrom k n < n ∧ n ≤ 2 * splitFrom k n := by
  by_cases h2 : 2 * k < n
  · rw [splitFrom_next h0 h2]
    have := splitFrom_spec (2 * k) n (by omega) h2
    omega
  · rw [splitFrom_end h2]; omega
termination_by n - k
theorem splitFrom_pow (e n : Nat) : ∃ d, splitFrom (2 ^ e) n = 2 ^ d := by
  by_cases h2 : 2 * 2 ^ e < n
  · rw [splitFrom_next (Nat.two_pow_pos e) h2, ← Nat.pow_succ']
    exact splitFrom_pow (e + 1) n
  · exact ⟨e, splitFrom_end h2⟩
termination_by n - 2 ^ e
decreasing_by have := Nat.two_pow_pos e; rw [Nat.pow_succ]; omega
theorem splitN_spec {n : Nat} (h : 2 ≤ n) : 1 ≤ splitN n ∧ splitN n < n ∧ n ≤ 2 * splitN n := splitFrom_spec 1 n (by omega) (by omega)
theorem splitN_pow (n : Nat) : ∃ d, splitN n = 2 ^ d := splitFrom_pow 0 n
theorem pow_between {a b n : Nat} (h1 : 2 ^ a < n) (h2 : n ≤ 2 * 2 ^ a) (h3 : 2 ^ b < n) (h4 : n ≤ 2 * 2 ^ b) : a = b := by
  rw [← Nat.pow_succ'] at h2 h4
  have h5 : 2 ^ a < 2 ^ (b + 1) := by omega
  have h6 : 2 ^ b < 2 ^ (a + 1) := by omega
  have := (Nat.pow_lt_pow_iff_right (by decide : 1 < 2)).1 h5
  have := (Nat.pow_lt_pow_iff_right (by decide : 1 < 2)).1 h6
  omega
theorem splitN_unique {a n : Nat} (h1 : 2 ^ a < n) (h2 : n ≤ 2 * 2 ^ a) : splitN n = 2 ^ a := by
  have := Nat.two_pow_pos a
  obtain ⟨d, hd⟩ := splitN_pow n
  have hs := splitN_spec (n := n) (by omega)
  rw [hd] at hs ⊢
  rw [pow_between hs.2.1 hs.2.2 h1 h2]

/-- The root of leaves. -/
def mth (ls : List (List Int)) : List Int :=
  if ls.length = 0 then shaL [] else
  if _h : ls.length ≤ 1 then leafL (ls.getD 0 []) else
    nodeL (mth (ls.take (splitN ls.length))) (mth (ls.drop (splitN ls.length)))
termination_by ls.length
decreasing_by
  · have := splitN_spec (n := ls.length) (by omega); rw [List.length_take]; omega
  · have := splitN_spec (n := ls.length) (by omega); rw [List.length_drop]; omega
theorem mth_nil {ls : List (List Int)} (h : ls.length = 0) : mth ls = shaL [] := by rw [mth, if_pos h]
theorem mth_one {ls : List (List Int)} (h : ls.length = 1) : mth ls = leafL (ls.getD 0 []) := by rw [mth, if_neg (by omega), dif_pos (by omega)]
theorem mth_more {ls : List (List Int)} (h : 2 ≤ ls.length) : mth ls = nodeL (mth (ls.take (splitN ls.length))) (mth (ls.drop (splitN ls.length))) := by
  rw [mth, if_neg (by omega), dif_neg (by omega)]

/-- The path of a leaf. -/
def pathL (ls : List (List Int)) (i : Nat) : List (List Int) :=
  if _h : ls.length ≤ 1 then [] else
  if i < splitN ls.length then pathL (ls.take (splitN ls.length)) i ++ [mth (ls.drop (splitN ls.length))] else
    pathL (ls.drop (splitN ls.length)) (i - splitN ls.length) ++ [mth (ls.take (splitN ls.length))]
termination_by ls.length
decreasing_by
  · have := splitN_spec (n := ls.length) (by omega); rw [List.length_take]; omega
  · have := splitN_spec (n := ls.length) (by omega); rw [List.length_drop]; omega
theorem pathL_one {ls : List (List Int)} {i : Nat} (h : ls.length ≤ 1) : pathL ls i = [] := by rw [pathL, dif_pos h]
theorem pathL_left {ls : List (List Int)} {i : Nat} (h : 2 ≤ ls.length) (hi : i < splitN ls.length) : pathL ls i = pathL (ls.take (splitN ls.length)) i ++ [mth (ls.drop (splitN ls.length))] := by
  rw [pathL, dif_neg (by omega), if_pos hi]
theorem pathL_right {ls : List (List Int)} {i : Nat} (h : 2 ≤ ls.length) (hi : ¬ i < splitN ls.length) : pathL ls i = pathL (ls.drop (splitN ls.length)) (i - splitN ls.length) ++ [mth (ls.take (splitN ls.length))] := by
  rw [pathL, dif_neg (by omega), if_neg hi]

/-- The root with a digest at a place, and a path; and whether the path has the right length. -/
def upL (d : List Int) (i n : Nat) (p : List (List Int)) : List Int × Bool :=
  if _h : n ≤ 1 then (d, decide (p.length = 0)) else
  if p.length = 0 then ([], false) else
  if i < splitN n then (nodeL (upL d i (splitN n) p.dropLast).1 (p.getD (p.length - 1) []), (upL d i (splitN n) p.dropLast).2) else
    (nodeL (p.getD (p.length - 1) []) (upL d (i - splitN n) (n - splitN n) p.dropLast).1, (upL d (i - splitN n) (n - splitN n) p.dropLast).2)
termination_by n
decreasing_by all_goals (have := splitN_spec (n := n) (by omega); omega)
theorem upL_one {d : List Int} {i n : Nat} {p : List (List Int)} (h : n ≤ 1) : upL d i n p = (d, decide (p.length = 0)) := by rw [upL, dif_pos h]
theorem upL_left {d : List Int} {i n : Nat} {p : List (List Int)} (h : 2 ≤ n) (hp : p.length ≠ 0) (hi : i < splitN n) : upL d i n p = (nodeL (upL d i (splitN n) p.dropLast).1 (p.getD (p.length - 1) []), (upL d i (splitN n) p.dropLast).2) := by
  conv => lhs; rw [upL]
  rw [dif_neg (by omega), if_neg hp, if_pos hi]
theorem upL_right {d : List Int} {i n : Nat} {p : List (List Int)} (h : 2 ≤ n) (hp : p.length ≠ 0) (hi : ¬ i < splitN n) : upL d i n p = (nodeL (p.getD (p.length - 1) []) (upL d (i - splitN n) (n - splitN n) p.dropLast).1, (upL d (i - splitN n) (n - splitN n) p.dropLast).2) := by
  conv => lhs; rw [upL]
  rw [dif_neg (by omega), if_neg hp, if_neg hi]

theorem last_snoc (l : List (List Int)) (x : List Int) : (l ++ [x]).getD ((l ++ [x]).length - 1) [] = x := by
  rw [List.getD_eq_getElem?_getD, List.length_append, List.length_singleton, Nat.add_sub_cancel, List.getElem?_append_right (Nat.le_refl _)]
  simp
theorem snoc_ne (l : List (List Int)) (x : List Int) : (l ++ [x]).length ≠ 0 := by simp

/-- WHAT STANDS THERE IS SHOWN. -/
theorem up_path (ls : List (List Int)) (i : Nat) (hi : i < ls.length) : upL (leafL (ls.getD i [])) i ls.length (pathL ls i) = (mth ls, true) := by
  by_cases h1 : ls.length ≤ 1
  · have : ls.length = 1 := by omega
    obtain rfl : i = 0 := by omega
    rw [upL_one h1, pathL_one h1, mth_one this]; rfl
  · have hs := splitN_spec (n := ls.length) (by omega)
    by_cases hk : i < splitN ls.length
    · have hl : (ls.take (splitN ls.length)).length = splitN ls.length := by rw [List.length_take]; omega
      have ih := up_path (ls.take (splitN ls.length)) i (by omega)
      rw [hl] at ih
      have e : (ls.take (splitN ls.length)).getD i [] = ls.getD i [] := by rw [List.getD_eq_getElem?_getD, List.getD_eq_getElem?_getD, List.getElem?_take, if_pos hk]
      rw [e] at ih
      rw [pathL_left (by omega) hk, upL_left (by omega) (snoc_ne _ _) hk, last_snoc, List.dropLast_concat, ih, mth_more (ls := ls) (by omega)]
    · have hl : (ls.drop (splitN ls.length)).length = ls.length - splitN ls.length := by rw [List.length_drop]
      have ih := up_path (ls.drop (splitN ls.length)) (i - splitN ls.length) (by omega)
      rw [hl] at ih
      have e : (ls.drop (splitN ls.length)).getD (i - splitN ls.length) [] = ls.getD i [] := by
        rw [List.getD_eq_getElem?_getD, List.getD_eq_getElem?_getD, List.getElem?_drop]; congr 2; omega
      rw [e] at ih
      rw [pathL_right (by omega) hk, upL_right (by omega) (snoc_ne _ _) hk, last_snoc, List.dropLast_concat, ih, mth_more (ls := ls) (by omega)]
termination_by ls.length

/-- All of them are digests. -/
def Digs (p : List (List Int)) : Prop := ∀ d ∈ p, d.length = 32
theorem shaL_len (zs : List Int) : (shaL zs).length = 32 := outTo_length _ 8 (by omega)
theorem leafL_length (b : List Int) : (leafL b).length = 32 := shaL_len _
theorem nodeL_length (a b : List Int) : (nodeL a b).length = 32 := shaL_len _
theorem mth_length (ls : List (List Int)) : (mth ls).length = 32 := by
  rw [mth]; split
  · exact shaL_len _
  · split
    · exact leafL_length _
    · exact nodeL_length _ _
theorem path_digs (ls : List (List Int)) (i : Nat) : Digs (pathL ls i) := by
  by_cases h1 : ls.length ≤ 1
  · rw [pathL_one h1]; intro d hd; cases hd
  · have hs := splitN_spec (n := ls.length) (by omega)
    by_cases hk : i < splitN ls.length
    · rw [pathL_left (by omega) hk]
      have := path_digs (ls.take (splitN ls.length)) i
      intro d hd
      rcases List.mem_append.1 hd with h | h
      · exact this d h
      · rw [List.mem_singleton.1 h]; exact mth_length _
    · rw [pathL_right (by omega) hk]
      have := path_digs (ls.drop (splitN ls.length)) (i - splitN ls.length)
      intro d hd
      rcases List.mem_append.1 hd with h | h
      · exact this d h
      · rw [List.mem_singleton.1 h]; exact mth_length _
termination_by ls.length
decreasing_by
  · rw [List.length_take]; omega
  · rw [List.length_drop]; omega
end Go.Proofs.YtkjlchfmplcobaeGreatDoor

/- The walk of yearref1.Root: the bits behind the point of a root. -/
namespace Go.Proofs.YtkjlchfmplcobaeGreatDoor
open Go.RowKit

theorem above_any (x p : Int) (two : Bool) (w : World) :
    Calls Tryz.prog 110 #[.int .u64 x, .int .u64 p, .bool two] w fun e w' => e = .returned (.bool (aboveB x p two)) ∧ w' = w := by
  cases two
  · exact above_three x p w
  · exact above_two x p w

/-- With one bit more. -/
def bitOn (x : Int) (k : Nat) : Int := bits BinOp.or IntKind.u64 x (IntKind.u64.wrap (2 ^ k))
/-- What the root is known to be, j bits tried. -/
def rootTo (p : Int) (two : Bool) : Nat → Int
  | 0 => 0
  | j + 1 => if aboveB (bitOn (rootTo p two j) (40 - j)) p two then rootTo p two j else bitOn (rootTo p two j) (40 - j)

set_option maxRecDepth 100000 in
set_option maxHeartbeats 400000 in
theorem root_any (p : Int) (two : Bool) (w : World) :
    Calls Tryz.prog 95 #[.int .u64 p, .bool two] w fun e w' => e = .returned (.int .u32 (IntKind.u32.wrap (rootTo p two 41))) ∧ w' = w := by
  go_enter Tryz.func95, Tryz.ntmps95
  go_wp2
  go_loop [5, 6] (fun x i => ∃ j : Nat, j ≤ 41 ∧ i = .int .i64 (40 - (j : Int)) ∧ x = .int .u64 (rootTo p two j)) (fun _ i => (intOf i + 1).toNat)
  case atStart => exact ⟨0, by omega, rfl, rfl⟩
  case round =>
    obtain ⟨j, hj, rfl, rfl⟩ := hrel
    by_cases hlt : j < 41
    · have HR : Hid (rootTo p two (j + 1) = if aboveB (bitOn (rootTo p two j) (40 - j)) p two then rootTo p two j else bitOn (rootTo p two j) (40 - j)) := rfl
      have i1 : (0 : Int) ≤ 40 - (j : Int) := by omega
      have t1 : (40 - (j : Int)).toNat = 40 - j := by omega
      generalize rootTo p two j = x at *
      obtain ⟨y, hy⟩ : ∃ y, bitOn x (40 - j) = y := ⟨_, rfl⟩
      have hyr : bits BinOp.or IntKind.u64 x (IntKind.u64.wrap (2 ^ (40 - j))) = y := hy
      rw [hy] at HR
      clear hy
      cases hb : aboveB y p two
      · have HR2 : Hid (rootTo p two (j + 1) = y) := HR.out.trans (if_neg (by rw [hb]; decide))
        go_wp2_with (go_at_call 110; refine (above_any y p two _).mono ?_; rintro e w' ⟨rfl, rfl⟩; rw [hb])
        go_round
        case rel => exact ⟨j + 1, by omega, by go_num, by rw [HR2.out]⟩
        case measure => simp [intOf]; omega
      · have HR2 : Hid (rootTo p two (j + 1) = x) := HR.out.trans (if_pos hb)
        go_wp2_with (go_at_call 110; refine (above_any y p two _).mono ?_; rintro e w' ⟨rfl, rfl⟩; rw [hb])
        go_round
        case rel => exact ⟨j + 1, by omega, by go_num, by rw [HR2.out]⟩
        case measure => simp [intOf]; omega
    · obtain rfl : j = 41 := by omega
      go_wp2
      go_ret
      exact ⟨rfl, rfl⟩

/-- The program's constants are the roots' bits. -/
def primeL : List Int := [2, 3, 5, 7, 11, 13, 17, 19, 23, 29, 31, 37, 41, 43, 47, 53, 59, 61, 67, 71, 73, 79, 83, 89, 97, 101, 103, 107, 109, 113, 127, 131, 137, 139, 149, 151, 157, 163, 167, 173, 179, 181, 191, 193, 197, 199, 211, 223, 227, 229, 233, 239, 241, 251, 257, 263, 269, 271, 277, 281, 283, 293, 307, 311]
set_option maxRecDepth 100000 in
theorem roots3 : primeL.map (fun p => IntKind.u32.wrap (rootTo p false 41)) = kw.map U := by decide +kernel
set_option maxRecDepth 100000 in
theorem roots2 : (primeL.take 8).map (fun p => IntKind.u32.wrap (rootTo p true 41)) = st0.list.map U := by decide +kernel

end Go.Proofs.YtkjlchfmplcobaeGreatDoor
