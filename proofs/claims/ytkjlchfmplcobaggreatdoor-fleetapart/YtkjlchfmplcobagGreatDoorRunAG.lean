/- ShelfGoSmall, ShelfGoLay, ShelfGoSegs, FleetGoRetire, FleetGoBegin, FleetGoWrong, ShelfMem, BookGoRec, as one text. -/
import Derived.Test.YtkjlchfmplcobagGreatDoorProg
import Derived.Test.YtkjlchfmplcobagGreatDoorRunAC
import Derived.WalkKit
import Derived.WalkSpells
import Derived.WalkLawsBesides
import Derived.Deep.QuietTactic
import Derived.BigQuiet
import Derived.Test.YtkjlchfmplcobagGreatDoorRunAF
import Derived.Test.YtkjlchfmplcobagGreatDoorRunAD
/- The walks of isSize, segmentsFor, countFrom and fits: package shelf as it landed. -/
namespace Go.Proofs.YtkjlchfmplcobagGreatDoor
open Go.RowKit

def sizeB (n : Int) : Bool := decide (0 ≤ n ∧ n ≤ 100)
theorem sizeB_true {n : Int} (h0 : 0 ≤ n) (h1 : n ≤ 100) : sizeB n = true := decide_eq_true ⟨h0, h1⟩
theorem sizeB_false {n : Int} (h : ¬ (0 ≤ n ∧ n ≤ 100)) : sizeB n = false := decide_eq_false h
set_option maxRecDepth 100000 in
theorem isSize_any (n : Int) (w : World) : Calls Tryz.prog 70 #[.int .i64 n] w fun e w' => e = .returned (.bool (sizeB n)) ∧ w' = w := by
  by_cases h0 : 0 ≤ n
  · by_cases h1 : n ≤ 100
    · have e : sizeB n = true := sizeB_true h0 h1
      rw [e]
      clear e
      go_enter Tryz.func70, Tryz.ntmps70
      go_wp2
      go_ret
      exact ⟨rfl, rfl⟩
    · have e : sizeB n = false := sizeB_false (by omega)
      rw [e]
      clear e
      go_enter Tryz.func70, Tryz.ntmps70
      go_wp2
      go_ret
      exact ⟨rfl, rfl⟩
  · have e : sizeB n = false := sizeB_false (by omega)
    rw [e]
    clear e
    go_enter Tryz.func70, Tryz.ntmps70
    go_wp2
    go_ret
    exact ⟨rfl, rfl⟩
theorem ret_int' {k : IntKind} {a b : Int} (h : a = b) : Ending.returned (.int k a) = .returned (.int k b) := by rw [h]
set_option maxRecDepth 100000 in
theorem segmentsFor_any (n : Int) (w : World) (h0 : 0 ≤ n) (h1 : n ≤ 100) : Calls Tryz.prog 71 #[.int .i64 n] w fun e w' => e = .returned (.int .i64 ((n + 7) / 8)) ∧ w' = w := by
  go_enter Tryz.func71, Tryz.ntmps71
  go_wp2
  go_ret
  exact ⟨ret_int' (by omega), rfl⟩
set_option maxRecDepth 100000 in
theorem countFrom_any (f s : Int) (w : World) (h0 : 0 ≤ f) (h1 : f ≤ 1000) (h2 : 0 ≤ s) (h3 : s ≤ 1000) : Calls Tryz.prog 93 #[.int .i64 f, .int .i64 s] w fun e w' => e = .returned (.int .i64 (min 8 (s - f))) ∧ w' = w := by
  by_cases h : s - f < 8
  · rw [show min 8 (s - f) = s - f by omega]
    go_enter Tryz.func93, Tryz.ntmps93
    go_wp2
    go_ret
    exact ⟨rfl, rfl⟩
  · rw [show min 8 (s - f) = 8 by omega]
    go_enter Tryz.func93, Tryz.ntmps93
    go_wp2
    go_ret
    exact ⟨rfl, rfl⟩
set_option maxRecDepth 100000 in
set_option maxHeartbeats 2000000 in
theorem segFits_any (f c k size : Int) (pv : Value) (p : List Int) (w : World) (hk : 0 ≤ k) : Calls Tryz.prog 85 #[.agg #[.int .i64 f, .int .i64 c, pv], .int .i64 k, .int .i64 size] w fun e w' => e = .returned (.bool (fitB size k ⟨f, c, p⟩)) ∧ Below w.heap.size w w' := by
  have hS := isSize_any size
  have hb := box_new w #[.int .i64 f, .int .i64 c, pv] 111
  obtain ⟨x0, x1, x2, -, -, -⟩ := box_three hb
  have bW : Below w.heap.size w (w.alloc (.cells #[.int .i64 f, .int .i64 c, pv] 111)) := (Below.refl _ _).alloc (Nat.le_refl _) _
  clear hb
  by_cases h1 : 0 ≤ size ∧ size ≤ 100
  · rw [sizeB_true h1.1 h1.2] at hS
    by_cases h2 : k ≤ 100
    · by_cases h3 : f = k * 8
      · subst h3
        by_cases h4 : 1 ≤ c
        · have hC := fun W => countFrom_any (k * 8) size W (by omega) (by omega) h1.1 (by omega)
          by_cases h5 : c = min 8 (size - k * 8)
          · have e : fitB size k ⟨k * 8, c, p⟩ = true := fitB_iff.2 ⟨h1.1, h1.2, h2, rfl, h4, h5⟩
            have hC' : ∀ W, Calls Tryz.prog 93 #[.int .i64 (k * 8), .int .i64 size] W fun e w' => e = .returned (.int .i64 c) ∧ w' = W := fun W => by have := hC W; rwa [← h5] at this
            have hcc : (c == c) = true := by simp
            rw [e]
            clear e h5 hC
            go_enter Tryz.func85, Tryz.ntmps85
            go_wp2_with fail
            go_quiet ((first | (go_at_call 70; exact Calls.quiet_of_same (hS _)) | (go_at_call 93; exact Calls.quiet_of_same (hC' _))))
            go_wp2_with fail
            go_ret
            exact ⟨rfl, below_drewN' bW _⟩
          · have e : fitB size k ⟨k * 8, c, p⟩ = false := by rw [Bool.eq_false_iff]; intro h; exact h5 (fitB_iff.1 h).2.2.2.2.2
            obtain ⟨q, hq⟩ : ∃ q, q = min 8 (size - k * 8) := ⟨_, rfl⟩
            rw [← hq] at hC h5
            have h5' : (c == q) = false := by simpa using h5
            rw [e]
            clear e h5 hq
            go_enter Tryz.func85, Tryz.ntmps85
            go_wp2_with fail
            go_quiet ((first | (go_at_call 70; exact Calls.quiet_of_same (hS _)) | (go_at_call 93; exact Calls.quiet_of_same (hC _))))
            go_wp2_with fail
            go_ret
            exact ⟨rfl, below_drewN' bW _⟩
        · have e : fitB size k ⟨k * 8, c, p⟩ = false := by rw [Bool.eq_false_iff]; intro h; exact h4 (fitB_iff.1 h).2.2.2.2.1
          have h4' : decide (1 ≤ c) = false := decide_eq_false h4
          rw [e]
          clear e
          go_enter Tryz.func85, Tryz.ntmps85
          go_wp2_with fail
          go_quiet ((go_at_call 70; exact Calls.quiet_of_same (hS _)))
          go_wp2_with fail
          go_ret
          exact ⟨rfl, below_drewN' bW _⟩
      · have e : fitB size k ⟨f, c, p⟩ = false := by rw [Bool.eq_false_iff]; intro h; exact h3 (fitB_iff.1 h).2.2.2.1
        have h3' : (f == k * 8) = false := by simpa using h3
        rw [e]
        clear e h3
        go_enter Tryz.func85, Tryz.ntmps85
        go_wp2_with fail
        go_quiet ((go_at_call 70; exact Calls.quiet_of_same (hS _)))
        go_wp2_with fail
        go_ret
        exact ⟨rfl, below_drewN' bW _⟩
    · have e : fitB size k ⟨f, c, p⟩ = false := by rw [Bool.eq_false_iff]; intro h; exact h2 (fitB_iff.1 h).2.2.1
      have h2' : decide (k ≤ 100) = false := decide_eq_false h2
      rw [e]
      clear e
      go_enter Tryz.func85, Tryz.ntmps85
      go_wp2_with fail
      go_quiet ((go_at_call 70; exact Calls.quiet_of_same (hS _)))
      go_wp2_with fail
      go_ret
      exact ⟨rfl, below_drewN' bW _⟩
  · rw [sizeB_false h1] at hS
    have e : fitB size k ⟨f, c, p⟩ = false := by rw [Bool.eq_false_iff]; intro h; have := fitB_iff.1 h; exact h1 ⟨this.1, this.2.1⟩
    rw [e]
    clear e h1
    go_enter Tryz.func85, Tryz.ntmps85
    go_wp2_with fail
    go_quiet ((go_at_call 70; exact Calls.quiet_of_same (hS _)))
    go_wp2_with fail
    go_ret
    exact ⟨rfl, below_drewN' bW _⟩

end Go.Proofs.YtkjlchfmplcobagGreatDoor

/- The walk of writeEntries: package shelf as it landed. -/
namespace Go.Proofs.YtkjlchfmplcobagGreatDoor
open Go.RowKit

set_option maxRecDepth 100000 in
set_option maxHeartbeats 2000000 in
theorem writeEntries_any (L : List (List Int)) (a : Option Addr) (n c : Nat) (w : World) (hL : Lists w a n c L) (h200 : ∀ j, (L.getD j []).length ≤ 200) (h8 : n ≤ 8) :
    Calls Tryz.prog 95 #[.slice a n c] w fun e w' => ∃ va vc, e = .returned (.slice va (layL L).length vc) ∧ w'.ownsRow w.heap.size 5 1 (.slice va (layL L).length vc) (layL L).length ((layL L).map (Value.int .u8)) ∧ Below w.heap.size w w' := by
  obtain ⟨i0, hi0, hz0, hz1, hz2⟩ := info_parts Tryz.info5b
  have hlen := hL.len
  have h201 : ∀ k, (layL (L.take k)).length ≤ 2000 := fun k => by
    have h1 := layL_length (L.take k) (fun e he => mem_short h200 e (List.mem_of_mem_take he))
    have h2 : (L.take k).length ≤ 8 := by rw [List.length_take]; omega
    omega
  go_enter Tryz.func95, Tryz.ntmps95
  go_wp2_with fail
  go_loopw [3, 8] (fun ov kv wr => ∃ (k : Nat) (va : Option Addr) (m vc : Nat), k ≤ n ∧ kv = .int .i64 k ∧ ov = .slice va m vc ∧ Hid (m = (layL (L.take k)).length) ∧ wr.ownsRow w.heap.size 5 1 (.slice va m vc) m ((layL (L.take k)).map (Value.int .u8)) ∧ Below w.heap.size w wr) (fun _ kv _ => n - (intOf kv).toNat)
  case atStart => exact ⟨0, none, 0, 0, Nat.zero_le _, rfl, rfl, rfl, ⟨rfl, .inl ⟨rfl, rfl⟩⟩, Below.refl _ _⟩
  case round =>
    obtain ⟨wo, rfl⟩ : ∃ x, x = wr := ⟨wr, rfl⟩
    obtain ⟨k, va, m, vc, hk, rfl, rfl, HM, hrow, hbr⟩ := hrel
    have hm := h201 k
    rw [← HM.out] at hm
    have hsr := hbr.size
    by_cases hlt : k < n
    · obtain ⟨b, off, pa, pc, rfl, hcell, hsome⟩ := hL.get k hlt
      have hb0 : b < w.heap.size := World.block_lt_of_cell? w ⟨b, off + k, none⟩ hcell
      have hcell1 := (hbr.cell (p := ⟨b, off + k, none⟩) hb0).trans hcell
      have HS : Hid (layL (L.take (k + 1)) = layL (L.take k) ++ ((L.getD k []).length : Int) :: L.getD k []) := by
        show _ = _
        rw [List.take_succ_eq_append_getElem (by omega), layL_snoc, List.getD_eq_getElem?_getD, List.getElem?_eq_getElem (by omega)]
        rfl
      have hd2 := h200 k
      have hB0 := hsome.at'
      obtain ⟨D, hD⟩ : ∃ D, D = L.getD k [] := ⟨_, rfl⟩
      rw [← hD] at hcell1 HS hd2 hB0
      obtain ⟨d, hd⟩ : ∃ d, d = D.length := ⟨_, rfl⟩
      rw [← hd] at hcell1 HS hd2 hB0
      have Hd : Hid (d = D.length) := hd
      have hlt' : (k : Int) < n := by omega
      have hd' : (d : Int) ≤ 200 := by omega
      have hrowA := hrow.alloc (.cells #[.int .u8 d] 5)
      have hnew := cell_one_new wo (.int .u8 d) 5
      have bA : Below w.heap.size w (wo.alloc (.cells #[.int .u8 d] 5)) := hbr.alloc hsr _
      have hsA : w.heap.size ≤ (wo.alloc (.cells #[.int .u8 d] 5)).heap.size := by simp; omega
      have hdm : m + 1 + D.length ≤ 3000 := by omega
      clear hcell hsome hrow h200 hD hd h201
      go_wp2_with (first
        | (at_builtin; refine wpList_append_own _ rfl (.tmp 12) (.tmp 16) 36 rfl w.heap.size 5 i0 _ 1 1 Tryz.underlying36 hi0 hz0 hz1 hz2 rfl (by decide) _ _ _ rfl hrowA _ 1 1 [.int .u8 d] rfl rfl hnew (by intro u hu; simp at hu; subst hu; rfl) (by unfold maxLen; omega) (by omega) hsA ?_; intro v7 w7 ho7 hg7 _; obtain ⟨ta, tc, rfl⟩ := own_form' ho7; have b7 : Below w.heap.size w w7 := bA.grown hg7 hsA (fun _ h => own_block hrowA h); have hB7 := hB0.below (Nat.le_refl _) b7; clear hg7)
        | (at_builtin; refine wpList_append_bytes rfl (.tmp 18) (.tmp 19) 36 rfl w.heap.size 5 i0 _ Tryz.underlying36 hi0 hz0 hz1 hz2 rfl _ _ _ rfl ho7 pa d pc D rfl hB7 (by unfold maxLen; omega) (by omega) b7.size ?_; intro v8 w8 ho8 hg8; obtain ⟨sa, sc, rfl⟩ := own_form' ho8))
      have b8 : Below w.heap.size w w8 := b7.grown hg8 b7.size (fun _ h => own_block ho7 h)
      go_roundw
      case rel =>
        refine ⟨k + 1, sa, _, sc, by omega, by go_num, rfl, ?_, ?_, b8⟩
        · show _ = _; rw [HS.out, List.length_append, List.length_cons, ← HM.out]; omega
        · rw [HS.out, List.map_append, List.map_cons]; simpa using ho8
      case measure => simp [intOf]; omega
    · obtain rfl : k = n := by omega
      rw [List.take_of_length_le (by omega)] at HM hrow
      go_wp2_with fail
      go_ret
      refine ⟨va, vc, by rw [← HM.out]; rfl, by rw [← HM.out]; exact hrow, hbr⟩

end Go.Proofs.YtkjlchfmplcobagGreatDoor

/- The walk of segments: package shelf as it landed. -/
namespace Go.Proofs.YtkjlchfmplcobagGreatDoor
open Go.RowKit

set_option maxRecDepth 100000 in
set_option maxHeartbeats 4000000 in
theorem segments_any (hPack : PackOC) (L : List (List Int)) (a : Option Addr) (n c : Nat) (w : World) (hL : Lists w a n c L) (h100 : L.length ≤ 100) (h200 : ∀ j, (L.getD j []).length ≤ 200) :
    Calls Tryz.prog 84 #[.slice a n c] w fun e w' => ∃ va vc, e = .returned (.slice va (segsL L).length vc) ∧ ∃ vs, (w'.ownsRow w.heap.size 111 3 (.slice va (segsL L).length vc) (segsL L).length vs ∧ SegEls w' w.heap.size vs (segsL L)) ∧ RiseV vs (segsL L).length ∧ Below w.heap.size w w' := by
  obtain ⟨i0, hi0, hz0, hz1, hz2⟩ := info_parts Tryz.info111b
  have hlen := hL.len
  have hroom := hL.room
  have hcap := hL.cap
  unfold maxLen at hcap
  have hm200 := mem_short h200
  go_enter Tryz.func84, Tryz.ntmps84
  go_wp2_with fail
  go_loopw [3, 4] (fun ov fv wr => ∃ (k : Nat) (va : Option Addr) (vc : Nat) (vs : List Value), 8 * k ≤ n + 7 ∧ fv = .int .i64 ((8 * k : Nat) : Int) ∧ ov = .slice va k vc ∧ wr.ownsRow w.heap.size 111 3 (.slice va k vc) k vs ∧ SegEls wr w.heap.size vs (segsN L k) ∧ RiseV vs k ∧ Below w.heap.size w wr) (fun _ fv _ => n + 8 - (intOf fv).toNat)
  case atStart => exact ⟨0, none, 0, [], by omega, rfl, rfl, ⟨rfl, .inl ⟨rfl, rfl⟩⟩, segEls_nil _ _, riseV_nil, Below.refl _ _⟩
  case round =>
    obtain ⟨wo, rfl⟩ : ∃ x, x = wr := ⟨wr, rfl⟩
    obtain ⟨k, va, vc, vs, hk, rfl, rfl, hrow, hels, hrise, hbr⟩ := hrel
    have hsr := hbr.size
    by_cases hlt : 8 * k < n
    · obtain ⟨b, off, pa, pc, rfl, -, -⟩ := hL.get (8 * k) hlt
      obtain ⟨q, Hq⟩ : ∃ q : Nat, Hid (q = min 8 (n - 8 * k)) := ⟨_, rfl⟩
      have hq1 : 1 ≤ q := by have := Hq.out; omega
      have hq8 : q ≤ 8 := by have := Hq.out; omega
      have hqn : 8 * k + q ≤ n := by have := Hq.out; omega
      have hpart : ((L.drop (8 * k)).take q) = ((L.drop (8 * k)).take 8) := by
        rw [Hq.out, ← hlen, ← List.length_drop, Nat.min_comm, ← List.take_take, List.take_of_length_le (by rw [List.length_take]; omega)]
      have HSK : Hid (segK L k = ⟨((8 * k : Nat) : Int), (q : Int), packL (layL ((L.drop (8 * k)).take 8))⟩) := by show _ = _; unfold segK; rw [hlen, ← Hq.out]
      have hLp := (hL.below hbr).part hqn hq1
      rw [hpart] at hLp
      have hdg : ∀ j, (((L.drop (8 * k)).take 8).getD j []).length ≤ 200 := take_short (fun j => by rw [List.getD_eq_getElem?_getD, List.getElem?_drop, ← List.getD_eq_getElem?_getD]; exact h200 _) 8
      have hW := writeEntries_any _ _ _ _ _ hLp hdg hq8
      have hX1 := lay_bytes hLp.bytes hdg
      have hX2 := lay_part hm200 k
      have hsn := segsN_snoc L k
      rw [HSK.out] at hsn
      have HSN : Hid (segsN L (k + 1) = segsN L k ++ [⟨((8 * k : Nat) : Int), (q : Int), packL (layL ((L.drop (8 * k)).take 8))⟩]) := hsn
      generalize layL ((L.drop (8 * k)).take 8) = X at *
      have hP : ∀ w' v, BytesAt w' v X → Calls Tryz.prog 94 #[v] w' fun e w'' => ∃ v', e = .returned (.tuple #[v', .int .i64 0]) ∧ w''.ownsRow w'.heap.size 5 1 v' (packL X).length ((packL X).map (Value.int .u8)) ∧ Below w'.heap.size w' w'' := fun w' v h => by
        have := hPack X v w' ⟨h, hX1, by unfold maxLen; omega⟩
        unfold muchE packE at this
        rwa [if_neg (by omega), if_neg (by omega)] at this
      have hC := countFrom_any ((8 * k : Nat) : Int) n wo (by omega) (by omega) (by omega) (by omega)
      rw [show min 8 ((n : Int) - ((8 * k : Nat) : Int)) = (q : Int) by have := Hq.out; omega] at hC
      generalize packL X = P at *
      clear hsn hpart hLp hdg hX1 hX2 HSK Hq h200 hm200
      obtain ⟨F, HF⟩ : ∃ F, Hid (8 * k = F) := ⟨_, rfl⟩
      rw [HF.out] at hW hC HSN hlt hqn hk ⊢
      have j1 : (F : Int) < n := by omega
      have j2 : (F : Int) + q ≤ n := by omega
      have j3 : (F : Int) + q ≤ c := by omega
      have j4 : ¬ c = F := by omega
      go_wp2_with fail
      refine hC.mono ?_
      rintro e w1 ⟨rfl, rfl⟩
      clear hC
      go_wp2_with fail
      refine hW.mono ?_
      rintro e w1 ⟨ta, tc, rfl, ho1, hb1⟩
      have b1 := hbr.trans (hb1.mono hsr)
      have hP1 := hP _ _ (bytesAt_own ho1)
      clear hW hP ho1
      go_wp2_with fail
      refine hP1.mono ?_
      rintro e w2 ⟨v2, rfl, ho2, hb2⟩
      have b2 := b1.trans (hb2.mono b1.size)
      have hw12 := (hb1.trans (hb2.mono hb1.size))
      have hrow2 := own3_below hrow hw12 (Nat.le_refl _)
      have hels2 := hels.below hw12 (Nat.le_refl _)
      have hs2 := b2.size
      have hri2 : Hid (RiseV (vs ++ [.int .i64 (F : Int), .int .i64 (q : Int), v2]) (k + 1)) := RiseV.snoc hrise hels (segsN_length L k) (fun g hg => Nat.le_trans hb1.size (ho2.lt g hg).1)
      have hsn2 := hels2.snoc (s := ⟨(F : Int), (q : Int), P⟩) (ownsRow_base ho2 b1.size)
      obtain ⟨ya, yc, rfl⟩ := own_form' ho2
      have hnew := lit_seg w2 (F : Int) (q : Int) (.slice ya P.length yc) 111
      have hone : ∀ u ∈ [Value.int .i64 (F : Int), .int .i64 (q : Int), .slice ya P.length yc], u.oneCell' = true := by intro u hu; simp at hu; rcases hu with rfl | rfl | rfl <;> rfl
      have hrowA := hrow2.alloc (.cells #[.int .i64 (F : Int), .int .i64 (q : Int), .slice ya P.length yc] 111)
      have helsA := hsn2.alloc (.cells #[.int .i64 (F : Int), .int .i64 (q : Int), .slice ya P.length yc] 111)
      have bA : Below w.heap.size w (w2.alloc (.cells #[.int .i64 (F : Int), .int .i64 (q : Int), .slice ya P.length yc] 111)) := b2.alloc hs2 _
      have hsA := bA.size
      have hk15 : k ≤ 20 := by have := HF.out; omega
      clear hrow hels hrise hels2 hsn2 hrow2 hP1 ho2 hw12 hb1 hb2
      go_wp2_with (at_builtin; refine wpList_append_own _ rfl (.tmp 29) (.tmp 34) 49 rfl w.heap.size 111 i0 _ 3 40 Tryz.underlying49 hi0 hz0 hz1 hz2 rfl (by decide) _ _ _ rfl hrowA ⟨w2.heap.size, 0, none⟩ 1 1 [.int .i64 (F : Int), .int .i64 (q : Int), .slice ya P.length yc] rfl rfl hnew hone (by unfold maxLen; omega) (by omega) hsA ?_; intro v7 w7 ho7 hg7 _; obtain ⟨sa, sc, rfl⟩ := own3_form ho7)
      have b7 : Below w.heap.size w w7 := bA.grown hg7 hsA (fun _ h => own3_block hrowA h)
      have hels7 := helsA.kept hrowA hg7
      go_roundw
      case rel =>
        refine ⟨k + 1, sa, sc, _, by have := HF.out; omega, ?_, rfl, ho7, by rw [HSN.out]; exact hels7, hri2.out, b7⟩
        have := HF.out
        rw [show ((8 * (k + 1) : Nat) : Int) = (F : Int) + 8 by omega]
      case measure => simp [intOf]; omega
    · have hkk : k = (L.length + 7) / 8 := by omega
      have hj1 : ¬ ((8 * k : Nat) : Int) < n := by omega
      have hN : segsN L k = segsL L := by unfold segsL; rw [hkk]
      rw [hN] at hels
      have hl2 : (segsL L).length = k := by unfold segsL; rw [segsN_length, ← hkk]
      have HL : Hid ((segsL L).length = k) := hl2
      have HO : Hid ((wo.ownsRow w.heap.size 111 3 (.slice va k vc) k vs ∧ SegEls wo w.heap.size vs (segsL L)) ∧ RiseV vs k) := ⟨⟨hrow, hels⟩, hrise⟩
      clear hN hl2 hkk hrow hels hrise hk
      obtain ⟨F, HF⟩ : ∃ F, Hid (8 * k = F) := ⟨_, rfl⟩
      rw [HF.out] at hj1 ⊢
      go_wp2_with fail
      go_ret
      exact ⟨va, vc, by rw [HL.out]; rfl, vs, by rw [HL.out]; exact HO.out.1, by rw [HL.out]; exact HO.out.2, hbr⟩

end Go.Proofs.YtkjlchfmplcobagGreatDoor

/- The walk of retire: package fleet as it landed. -/
namespace Go.Proofs.YtkjlchfmplcobagGreatDoor
open Go.RowKit

def retireL (f : Flt) (k : Nat) : Flt × Ans :=
  if (verifyL (f.shards.getD k shd0).man).2.1 ≠ 0 then (f, no (verifyL (f.shards.getD k shd0).man).2.1) else
  (⟨f.shards.set k { (f.shards.getD k shd0) with state := 4, entries := [] }, f.book⟩, ⟨0, (k : Int), 0, (f.shards.getD k shd0).man.size, (f.shards.getD k shd0).man.root⟩)
set_option maxRecDepth 100000 in
set_option maxHeartbeats 2000000 in
theorem retire_any (hVer : VerifyC) (f : Flt) (k : Nat) (τ : Nat → Tag) (N gp : Nat) (w : World) (hF : GoF τ N w gp f) (hN : N ≤ w.heap.size) (hr : Ready w) (hk : k < f.shards.length) (hrl : (f.shards.getD k shd0).man.root.length ≤ 1000000) :
    Calls Tryz.prog 46 #[.pointer (some ⟨gp, 0, none⟩), .int .i64 (k : Int)] w fun e w' => ∃ av, e = .returned av ∧ Went τ N gp w w' av (retireL f k) := by
  have b0 : Below w.heap.size w (w.alloc (.cells #[.int .i64 0, .int .i64 0, .int .i64 0, .int .i64 0, .slice none 0 0] 40)) := (Below.refl _ _).alloc (Nat.le_refl _) _
  have z0 := box_new w #[.int .i64 0, .int .i64 0, .int .i64 0, .int .i64 0, .slice none 0 0] 40
  have HNO : ∀ (w1 : World) (x : Ans) (u0 u1 u2 u3 u4 : Value), Hid (Below w.heap.size w w1 → x.root = [] → Went τ N gp w (((((w1.setCell ⟨w.heap.size, 0, none⟩ u0).setCell ⟨w.heap.size, 1, none⟩ u1).setCell ⟨w.heap.size, 2, none⟩ u2).setCell ⟨w.heap.size, 3, none⟩ u3).setCell ⟨w.heap.size, 4, none⟩ u4) (.agg #[.int .i64 x.err, .int .i64 x.shard, .int .i64 x.place, .int .i64 x.size, .slice none 0 0]) (f, x)) := fun w1 x u0 u1 u2 u3 u4 h1 h2 => went_no hF hN h1 (Nat.le_refl _) h2 _ _ _ _ _
  obtain ⟨sa, sc, ba, bc, V, hB, hS⟩ := hF.open
  have U0 := upd_call (τ := τ) b0 tNo
  have hB0 := hB.upd U0 no_row
  have hS0 := hS.upd U0 no_row
  have K0 := keep_call (τ := τ) b0 hN tNo
  have hR0 : ext τ w.heap.size tNo w.heap.size = tNo := ext_new (Nat.le_refl _)
  have hsl : f.shards.length ≤ 9223372036854775807 := by obtain ⟨vs, h1, -⟩ := hS.row; have := own_small h1; unfold maxLen at this; omega
  obtain ⟨g0, g1, -, -⟩ := box_two hB0.box
  obtain ⟨sb, rfl, hNs, hsb, htb, hfz, hcs⟩ := (hS0.out k).cells rfl hk
  obtain ⟨ra, rc, hVr⟩ := (hS0.root k hk).here.at'.form
  obtain ⟨ga, gc, hVg⟩ := (hS0.seg k hk).form
  have hMan : ManAt _ (.agg #[.int .i64 (f.shards.getD k shd0).man.size, (V k).2.1, (V k).2.2]) (f.shards.getD k shd0).man := ⟨_, _, rfl, (hS0.root k hk).here, (hS0.seg k hk).segs⟩
  have k4 : _ = some (Value.int .i64 (f.shards.getD k shd0).man.size) := hcs 4 (by omega)
  have k5 : _ = some (V k).2.1 := hcs 5 (by omega)
  have k6 : _ = some (V k).2.2 := hcs 6 (by omega)
  have k2 : _ = some (Value.int .i64 (f.shards.getD k shd0).state) := hcs 2 (by omega)
  have k3 : _ = some (V k).1 := hcs 3 (by omega)
  rw [hVr, hVg] at hMan
  rw [hVr] at k5
  rw [hVg] at k6
  have hVf := hVer _ _ _ (hr.below b0) hMan
  have hk1 : (k : Int) < f.shards.length := by omega
  have hk0 : (0 : Int) ≤ k := by omega
  have HRL : Hid (retireL f k = if (verifyL (f.shards.getD k shd0).man).2.1 ≠ 0 then (f, no (verifyL (f.shards.getD k shd0).man).2.1) else (⟨f.shards.set k { (f.shards.getD k shd0) with state := 4, entries := [] }, f.book⟩, ⟨0, (k : Int), 0, (f.shards.getD k shd0).man.size, (f.shards.getD k shd0).man.root⟩)) := rfl
  have hmb := (hS0.root k hk).here.bytes
  obtain ⟨X, HX⟩ : ∃ X, Hid (f.shards.getD k shd0 = X) := ⟨_, rfl⟩
  rw [HX.out] at hVr hVg k2 k4 k5 k6 hVf HRL hrl hmb
  generalize retireL f k = RL at *
  generalize hvf : verifyL X.man = VF at *
  obtain ⟨VL, E1, E2⟩ := VF
  dsimp only at HRL hVf
  generalize hT : ext τ w.heap.size tNo = τ1 at *
  clear hF hB hS U0 hMan hcs hvf
  by_cases hE : E1 = 0
  · subst hE
    have HE : Hid (RL = (⟨f.shards.set k { X with state := 4, entries := [] }, f.book⟩, ⟨0, (k : Int), 0, X.man.size, X.man.root⟩)) := by show _ = _; rw [HRL.out, if_neg (fun h => h rfl)]
    rw [HE.out]
    clear HE HRL HNO
    go_enter Tryz.func46, Tryz.ntmps46
    go_wp2_with fail
    generalize w.alloc (.cells #[.int .i64 0, .int .i64 0, .int .i64 0, .int .i64 0, .slice none 0 0] 40) = w0 at *
    refine hVf.mono ?_
    rintro e w1 ⟨xa, xn, xc, rfl, -, hb1⟩
    have d1 : Below w1.heap.size w1 (w1.alloc (.cells #[.int .i64 0, .int .i64 E2] 32)) := (Below.refl _ _).alloc (Nat.le_refl _) _
    have c1 := hb1.trans (d1.mono hb1.size)
    have hN0 : N ≤ w0.heap.size := Nat.le_trans hN b0.size
    have hS1 := hS0.upd (upd_same c1) no_row
    have hB1 := hB0.upd (upd_same c1) no_row
    have K1 := K0.trans (keep_upd (upd_same c1) hN0 no_row)
    have z1 := box_kept z0 c1
    have f1 := box_new w1 #[.int .i64 0, .int .i64 E2] 32
    have hsb1 : sb < (w1.alloc (.cells #[.int .i64 0, .int .i64 E2] 32)).heap.size := Nat.lt_of_lt_of_le hsb c1.size
    have j2 := (c1.cell (p := ⟨sb, k * 7 + 2, none⟩) hsb).trans k2
    have j3 := (c1.cell (p := ⟨sb, k * 7 + 3, none⟩) hsb).trans k3
    have j4 := (c1.cell (p := ⟨sb, k * 7 + 4, none⟩) hsb).trans k4
    have j5 := (c1.cell (p := ⟨sb, k * 7 + 5, none⟩) hsb).trans k5
    obtain ⟨sb', e', -, -, -, hfz1, -⟩ := (hS1.out k).cells rfl hk
    cases e'
    have hN1 : N ≤ (w1.alloc (.cells #[.int .i64 0, .int .i64 E2] 32)).heap.size := Nat.le_trans hN0 c1.size
    clear hVf g0 g1 k2 k3 k4 k5 k6 hS0 hB0 K0 hfz d1
    obtain ⟨p0, p1, -, -⟩ := box_two f1
    have j2f := hfz1 (k * 7 + 2)
    have j3f := hfz1 (k * 7 + 3)
    have hEnt := hS1.ent k hk
    have hRoo := hS1.root k hk
    have hSeg := hS1.seg k hk
    rw [HX.out] at hEnt hRoo hSeg
    have hS2 := hS1.turn (i := 2) (u := .int .i64 4) (s' := { X with state := 4 }) (v' := V k) rfl hk (by omega) (by rw [HX.out]; rfl) hEnt hRoo hSeg
    have htb1 : τ1 sb = tSh := htb
    have hB2 := hB1.turn (o := k * 7 + 2) (u := .int .i64 4) htb1
    have hN2 : N ≤ ((w1.alloc (.cells #[.int .i64 0, .int .i64 E2] 32)).setCell ⟨sb, k * 7 + 2, none⟩ (.int .i64 4)).heap.size := by simpa using hN1
    have hEn2 := entM_nil τ1 N ((w1.alloc (.cells #[.int .i64 0, .int .i64 E2] 32)).setCell ⟨sb, k * 7 + 2, none⟩ (.int .i64 4)) k
    have ne : ∀ t : Tag, t ≠ tSh → ∀ b, some sb = some b → τ1 b ≠ t := fun t h1 b hb e => by cases hb; exact h1 (e.symm.trans htb1)
    have hRo2 := hRoo.upd (upd_set τ1 _ sb (k * 7 + 2) (.int .i64 4)) (ne _ (by decide))
    have hSe2 := hSeg.upd (upd_set τ1 _ sb (k * 7 + 2) (.int .i64 4)) (ne _ (by simp [tSeg, tSh])) (fun j => ne _ (by simp [tPk, tSh]))
    have hS3 := hS2.turn (i := 3) (u := .slice none 0 0) (s' := { X with state := 4, entries := [] }) (v' := (.slice none 0 0, (V k).2.1, (V k).2.2)) (by rw [List.length_set]) hk (by omega) (by rw [getD_set_same hk, if_pos rfl]; rfl) hEn2 hRo2 hSe2
    rw [List.set_set] at hS3
    have hB3 := hB2.turn (o := k * 7 + 3) (u := .slice none 0 0) htb1
    have K3 := (K1.trans (keep_turn (o := k * 7 + 2) (u := .int .i64 4) hN1 hNs htb1)).trans (keep_turn (o := k * 7 + 3) (u := .slice none 0 0) hN2 hNs htb1)
    have hF3 := hB3.goF hS3
    have hne : w.heap.size ≠ sb := fun e => by rw [e, htb1] at hR0; simp [tSh, tNo] at hR0
    have z3 := box_set_far (v := .slice none 0 0) (o := k * 7 + 3) (box_set_far (v := .int .i64 4) (o := k * 7 + 2) z1 hne) hne
    have hr3 := hRo2.upd (upd_set τ1 _ sb (k * 7 + 3) (.slice none 0 0)) (ne _ (by decide))
    rw [hVr] at hr3
    have hTk := taken_any (k : Int) X.man.size X.man.root _ _ hr3.here hrl
    clear hS1 hB1 K1 hS2 hB2 hEn2 hRo2 hSe2 hS3 hB3 hEnt hRoo hSeg z1 f1 hfz1 hr3
    go_wp2_with fail
    generalize ((w1.alloc (.cells #[.int .i64 0, .int .i64 E2] 32)).setCell ⟨sb, k * 7 + 2, none⟩ (.int .i64 4)).setCell ⟨sb, k * 7 + 3, none⟩ (.slice none 0 0) = W3 at *
    refine hTk.mono ?_
    rintro e w8 ⟨ta, tc, rfl, ho8, hb8⟩
    have HW : Hid _ := went_head (k := (k : Int)) (n := X.man.size) hF3 K3 hN hR0 (lt_heap z3) (Nat.le_refl _) hb8 ho8 hmb (.int .i64 0) (.int .i64 (k : Int)) (.int .i64 0) (.int .i64 X.man.size) (.slice ta X.man.root.length tc)
    have z8 := box_kept z3 hb8
    obtain ⟨t0, t1, t2, t3, t4⟩ := box_five z8
    obtain ⟨r0, r1, r2, r3, r4⟩ := five_free z8
    obtain ⟨s0, s1, s2, s3, s4⟩ := box_five (five_set z8 (.int .i64 0) (.int .i64 (k : Int)) (.int .i64 0) (.int .i64 X.man.size) (.slice ta X.man.root.length tc))
    clear hTk z3 ho8 hF3 K3 j2 j3 j4 j5 p0 p1
    go_wp2_with fail
    exact bodyPost_ret (v := .agg #[.int .i64 0, .int .i64 (k : Int), .int .i64 0, .int .i64 X.man.size, .slice ta X.man.root.length tc]) (by simp [results, Tryz.results46, go_sem, s0, s1, s2, s3, s4]) rfl ⟨_, rfl, HW.out⟩
  · have HE : Hid (RL = (f, no E1)) := by show _ = _; rw [HRL.out, if_pos hE]
    have hE' : (E1 != 0) = true := by simpa using hE
    rw [HE.out]
    clear HE HRL hE
    go_enter Tryz.func46, Tryz.ntmps46
    go_wp2_with fail
    generalize w.alloc (.cells #[.int .i64 0, .int .i64 0, .int .i64 0, .int .i64 0, .slice none 0 0] 40) = w0 at *
    refine hVf.mono ?_
    rintro e w1 ⟨xa, xn, xc, rfl, -, hb1⟩
    have d1 : Below w1.heap.size w1 (w1.alloc (.cells #[.int .i64 E1, .int .i64 E2] 32)) := (Below.refl _ _).alloc (Nat.le_refl _) _
    have c1 := hb1.trans (d1.mono hb1.size)
    obtain ⟨p0, p1, -, -⟩ := box_two (box_new w1 #[.int .i64 E1, .int .i64 E2] 32)
    clear hVf g0 g1 k2 k3 k4 k5 k6 hS0 hB0 K0 hfz d1
    go_wp2_with fail
    generalize w1.alloc (.cells #[.int .i64 E1, .int .i64 E2] 32) = W at *
    refine (refused_any E1 W).mono ?_
    rintro e w2 ⟨rfl, hb2⟩
    have c2 := c1.trans (hb2.mono c1.size)
    have b2 := b0.trans (c2.mono b0.size)
    have z1 := box_kept z0 c2
    obtain ⟨t0, t1, t2, t3, t4⟩ := box_five z1
    obtain ⟨r0, r1, r2, r3, r4⟩ := five_free z1
    obtain ⟨s0, s1, s2, s3, s4⟩ := box_five (five_set z1 (.int .i64 E1) (.int .i64 0) (.int .i64 0) (.int .i64 0) (.slice none 0 0))
    have HG := HNO w2 (no E1) (.int .i64 E1) (.int .i64 0) (.int .i64 0) (.int .i64 0) (.slice none 0 0)
    clear HNO z0 p0 p1
    go_wp2_with fail
    exact bodyPost_ret (v := .agg #[.int .i64 E1, .int .i64 0, .int .i64 0, .int .i64 0, .slice none 0 0]) (by simp [results, Tryz.results46, go_sem, s0, s1, s2, s3, s4]) rfl ⟨_, rfl, HG.out b2 rfl⟩

end Go.Proofs.YtkjlchfmplcobagGreatDoor

/- The walk of begin: package fleet as it landed. -/
namespace Go.Proofs.YtkjlchfmplcobagGreatDoor
open Go.RowKit

theorem Tryz.info53b : (Tryz.prog.info? 53).map (fun i => (i.zero, i.size, i.bytes)) = some (some (.agg #[.int .i64 0, .int .i64 0, .int .i64 0, .slice none 0 0, .int .i64 0, .slice none 0 0, .slice none 0 0]), 7, 104) := by kernel_rfl
def nilV : ShV := (.slice none 0 0, .slice none 0 0, .slice none 0 0)
theorem start_get {ws : List Win} {k : Nat} (hk : k < ws.length) : (startL ws).shards.getD k shd0 = ⟨(ws.getD k win0).a, (ws.getD k win0).b, 1, [], man0⟩ := wins_get ws hk
/-- The shards' cells, so far. -/
def Beg (ws : List Win) (vs : List Value) (j : Nat) : Prop := ∀ k, k < j → ∀ i, i < 7 → vs[k * 7 + i]? = (shdV ⟨(ws.getD k win0).a, (ws.getD k win0).b, 1, [], man0⟩ nilV)[i]?
theorem beg_nil (ws : List Win) : Beg ws [] 0 := fun _ h => absurd h (Nat.not_lt_zero _)
theorem Beg.snoc {ws : List Win} {vs : List Value} {j : Nat} (h : Beg ws vs j) (hl : vs.length = j * 7) : Beg ws (vs ++ shdV ⟨(ws.getD j win0).a, (ws.getD j win0).b, 1, [], man0⟩ nilV) (j + 1) := fun k hk i hi => by
  by_cases e : k < j
  · rw [List.getElem?_append_left (by omega)]; exact h k e i hi
  · obtain rfl : k = j := by omega
    rw [List.getElem?_append_right (by omega), hl, show k * 7 + i - k * 7 = i by omega]
theorem beg_fleet {ws : List Win} {N gp n c : Nat} {w : World} {sa : Option Addr} {vs : List Value} (hn : ws.length = n) (hrow : w.ownsRow N 53 7 (.slice sa n c) n vs) (hB : Beg ws vs n) (hbox : w.heap[gp]? = some (.cells #[.slice sa n c, .slice none 0 0] 76 (0, 0))) (hgp : N ≤ gp) :
    ∃ τ : Nat → Tag, GoF τ N w gp (startL ws) ∧ ∀ b, b < N → τ b = tNo := by
  have hlen : (startL ws).shards.length = n := by simp [startL, hn]
  have hne : (Value.slice sa n c).ownBlock ≠ some gp := fun h => by
    rcases hrow.2 with ⟨e, -⟩ | ⟨g, cap, cur, e, -, hh, -⟩
    · rw [e] at h; cases h
    · rw [e] at h
      cases h
      rw [hh] at hbox
      cases hbox
  refine ⟨fun b => if b = gp then tFl else if (Value.slice sa n c).ownBlock = some b then tSh else tNo, ⟨hgp, if_pos rfl, .slice sa n c, .slice none 0 0, fun _ => nilV, hbox, ⟨fun b hb => ?_, ⟨vs, by rw [hlen]; exact hrow, fun k hk i hi => ?_⟩, fun k hk => ?_, fun k hk => ?_, fun k hk => ?_⟩, bkM_nil _ _ _⟩, fun b hb => ?_⟩
  · refine ⟨(hrow.lt b hb).2, ?_⟩
    have : b ≠ gp := fun e => hne (by rw [← e]; exact hb)
    show (if b = gp then _ else _) = _
    rw [if_neg this, if_pos hb]
  · rw [hlen] at hk
    rw [start_get (by omega)]
    exact hB k hk i hi
  · rw [hlen] at hk
    rw [start_get (by omega)]
    exact entM_nil _ _ _ _
  · rw [hlen] at hk
    rw [start_get (by omega)]
    exact byM_nil _ _
  · rw [hlen] at hk
    rw [start_get (by omega)]
    exact segM_nil _ _ _ _
  · have h1 : b ≠ gp := by omega
    have h2 : (Value.slice sa n c).ownBlock ≠ some b := fun h => by have := (hrow.lt b h).1; omega
    show (if b = gp then _ else _) = _
    rw [if_neg h1, if_neg h2]
theorem lit_shd (w : World) (s : Shd) (v : ShV) (t : TypeId) : ∀ (j : Nat) (u : Value), (shdV s v)[j]? = some u → (w.alloc (.cells #[.int .i64 s.from', .int .i64 s.to', .int .i64 s.state, v.1, .int .i64 s.man.size, v.2.1, v.2.2] t)).cell? ((⟨w.heap.size, 0, none⟩ : Addr).add j) = some u := fun j u hj => by
  have hadd : (⟨w.heap.size, 0, none⟩ : Addr).add j = ⟨w.heap.size, 0 + j, none⟩ := Addr.add_mid _ _ _
  rw [hadd, Nat.zero_add]
  rw [cell_of_row _ _ j _ t _ (box_new w _ t), ← hj]
  simp [shdV]
set_option maxRecDepth 100000 in
set_option maxHeartbeats 2000000 in
theorem fleetBegin_any (ws : List Win) (wa : Option Addr) (n c : Nat) (w : World) (hW : WinsAt w (.slice wa n c) ws) (hn : ws.length = n) (h8 : n ≤ 8) :
    Calls Tryz.prog 22 #[.slice wa n c] w fun e w' => ∃ gp, e = .returned (.pointer (some ⟨gp, 0, none⟩)) ∧ (∃ τ : Nat → Tag, GoF τ w.heap.size w' gp (startL ws) ∧ ∀ b, b < w.heap.size → τ b = tNo) ∧ Below w.heap.size w w' := by
  obtain ⟨i0, hi0, hz0, hz1, hz2⟩ := info_parts Tryz.info53b
  obtain ⟨wa', wc', e, hc1, hc2, -, hWc⟩ := hW
  rw [hn] at e hc1 hWc
  cases e
  unfold maxLen at hc2
  go_enter Tryz.func22, Tryz.ntmps22
  go_wp2_with (at_make; refine wpList_make_own _ rfl _ _ 25 rfl w.heap.size 53 i0 _ 7 Tryz.underlying25 hi0 hz0 hz1 .i64 .i64 _ n rfl rfl rfl (by rw [hz2]; omega) (by unfold maxLen; omega) (Nat.le_refl _) ?_; intro w1 hown hgrow)
  have b1 : Below w.heap.size w w1 := (Below.refl _ _).grown hgrow (Nat.le_refl _) (fun _ h => by cases h)
  go_loopw [3, 11] (fun gv kv wr => ∃ (j : Nat) (va : Option Addr) (vc : Nat) (vs : List Value), j ≤ n ∧ kv = .int .i64 j ∧ gv = .slice va j vc ∧ wr.ownsRow w.heap.size 53 7 (.slice va j vc) j vs ∧ Hid (Beg ws vs j) ∧ Below w.heap.size w wr) (fun _ kv _ => n - (intOf kv).toNat)
  case atStart => exact ⟨0, _, n, [], Nat.zero_le _, rfl, rfl, hown, beg_nil ws, b1⟩
  case round =>
    obtain ⟨wo, rfl⟩ : ∃ x, x = wr := ⟨wr, rfl⟩
    obtain ⟨j, va, vc, vs, hj, rfl, rfl, hrow, HB, hbr⟩ := hrel
    have hsr := hbr.size
    clear hown hgrow b1
    by_cases hlt : j < n
    · have hlt' : (j : Int) < n := by omega
      obtain ⟨p1, o1, rfl, hp1, hcs1⟩ := hWc.resolve_left (by omega)
      obtain ⟨d0, d1⟩ := hcs1 j hlt
      replace d0 := (hbr.cell (p := ⟨p1, o1 + j * 2, none⟩) hp1).trans d0
      replace d1 := (hbr.cell (p := ⟨p1, o1 + j * 2 + 1, none⟩) hp1).trans d1
      have HB2 : Hid (Beg ws (vs ++ shdV ⟨(ws.getD j win0).a, (ws.getD j win0).b, 1, [], man0⟩ nilV) (j + 1)) := HB.out.snoc hrow.1
      clear hcs1 hWc HB
      generalize (ws.getD j win0).a = A at *
      generalize (ws.getD j win0).b = B at *
      have bV : Below w.heap.size w (wo.alloc (.cells #[.int .i64 A, .int .i64 B] 57)) := hbr.alloc hsr _
      obtain ⟨t0, t1, -, -⟩ := box_two (box_new wo #[.int .i64 A, .int .i64 B] 57)
      have hrowV := hrow.alloc (.cells #[.int .i64 A, .int .i64 B] 57)
      have hsV : (wo.alloc (.cells #[.int .i64 A, .int .i64 B] 57)).heap.size = wo.heap.size + 1 := by simp
      clear hrow hbr
      have hrowA := hrowV.alloc (.cells #[.int .i64 A, .int .i64 B, .int .i64 1, .slice none 0 0, .int .i64 0, .slice none 0 0, .slice none 0 0] 53)
      have hnew := lit_shd (wo.alloc (.cells #[.int .i64 A, .int .i64 B] 57)) ⟨A, B, 1, [], man0⟩ nilV 53
      rw [hsV] at hnew
      have bA := bV.alloc bV.size (.cells #[.int .i64 A, .int .i64 B, .int .i64 1, .slice none 0 0, .int .i64 0, .slice none 0 0, .slice none 0 0] 53)
      have hsA := bA.size
      have hone : ∀ u ∈ shdV ⟨A, B, 1, [], man0⟩ nilV, u.oneCell' = true := by intro u hu; simp [shdV, nilV] at hu; rcases hu with rfl | rfl | rfl | rfl | rfl | rfl | rfl <;> rfl
      go_wp2_with (at_builtin; refine wpList_append_own _ rfl (.tmp 15) (.tmp 21) 25 rfl w.heap.size 53 i0 _ 7 104 Tryz.underlying25 hi0 hz0 hz1 hz2 rfl (by decide) _ _ _ rfl hrowA ⟨wo.heap.size + 1, 0, none⟩ 1 1 _ rfl rfl hnew hone (by unfold maxLen; omega) (by omega) hsA ?_; intro v7 w7 ho7 hg7 _; obtain ⟨ga, gc, rfl⟩ := own7_form ho7)
      have b7 : Below w.heap.size w w7 := bA.grown hg7 hsA (fun _ h => own7_block hrowA h)
      go_roundw
      case rel => exact ⟨j + 1, ga, gc, _, by omega, by go_num, rfl, ho7, HB2, b7⟩
      case measure => simp [intOf]; omega
    · obtain rfl : j = n := by omega
      have hnl : ¬ (j : Int) < j := by omega
      have xg := box_new wo #[.slice va j vc, .slice none 0 0] 76
      have HG : Hid (∃ τ : Nat → Tag, GoF τ w.heap.size (wo.alloc (.cells #[.slice va j vc, .slice none 0 0] 76)) wo.heap.size (startL ws) ∧ ∀ b, b < w.heap.size → τ b = tNo) := beg_fleet hn (hrow.alloc _) HB.out xg hsr
      have bE : Below w.heap.size w (wo.alloc (.cells #[.slice va j vc, .slice none 0 0] 76)) := hbr.alloc hsr _
      clear hrow HB hWc xg
      go_wp2_with fail
      go_ret
      exact ⟨_, rfl, HG.out, bE⟩

end Go.Proofs.YtkjlchfmplcobagGreatDoor

/- The walk of Wrong: package fleet as it landed. -/
namespace Go.Proofs.YtkjlchfmplcobagGreatDoor
open Go.RowKit

theorem WinsAt.get2 {w : World} {a : Option Addr} {n c : Nat} {l : List Win} (h : WinsAt w (.slice a n c) l) (hn : l.length = n) {j : Nat} (hj : j < n) : ∃ b o, a = some ⟨b, o, none⟩ ∧ b < w.heap.size ∧ ∀ i, i < n → WinCells w b (o + i * 2) (l.getD i win0) := by
  obtain ⟨a', c', e, -, -, -, h5⟩ := h
  rw [hn] at e h5
  cases e
  obtain ⟨b, off, h6, h7, h8⟩ := h5.resolve_left (by omega)
  exact ⟨b, off, h6, h7, h8⟩
set_option maxRecDepth 100000 in
set_option maxHeartbeats 4000000 in
theorem goWrong_any (l : List Win) (a : Option Addr) (n c : Nat) (w : World) (hl : WinsAt w (.slice a n c) l) (hn : l.length = n) :
    Calls Tryz.prog 21 #[.slice a n c] w fun e w' => e = .returned (faultV (wrongWins l)) ∧ Below w.heap.size w w' := by
  have hcap : n ≤ maxLen := by obtain ⟨a', c', e, h2, h3, -⟩ := hl; cases e; omega
  unfold maxLen at hcap
  have b0 : Below w.heap.size w (w.alloc (.cells #[.int .i64 0, .int .i64 0] 32)) := (Below.refl _ _).alloc (Nat.le_refl _) _
  have x0 := box_new w #[.int .i64 0, .int .i64 0] 32
  by_cases h8 : 8 < n
  · have HE : Hid (wrongWins l = (5, 0)) := wrongWins_many (by omega)
    have h8' : (8 : Int) < n := by omega
    clear hl
    go_enter Tryz.func21, Tryz.ntmps21
    go_wp2_with fail
    exact bodyPost_ret (v := faultV (5, 0)) (by simp [results, Tryz.results21, go_sem]) rfl ⟨by rw [HE.out], (Below.refl _ _).alloc (Nat.le_refl _) _⟩
  · have h8' : ¬ (8 : Int) < n := by omega
    have HW1 : ∀ k : Nat, Hid (k < n → (∀ j, j < k → wrongWin l j = 0) → wrongWin l k ≠ 0 → wrongWins l = (wrongWin l k, (k : Int))) := fun k h1 h2 h3 => wrongWins_at (by omega) (by omega) h2 h3
    have HW2 : Hid ((∀ j, j < n → wrongWin l j = 0) → wrongWins l = (0, 0)) := fun h => wrongWins_none (by omega) (fun j hj => h j (by omega))
    go_enter Tryz.func21, Tryz.ntmps21
    go_wp2_with fail
    generalize w.alloc (.cells #[.int .i64 0, .int .i64 0] 32) = w0 at *
    go_loopw [11] (fun kv wr => ∃ k : Nat, k ≤ n ∧ kv = .int .i64 k ∧ Hid (∀ j, j < k → wrongWin l j = 0) ∧ wr.heap[w.heap.size]? = some (.cells #[.int .i64 0, .int .i64 0] 32 (0, 0)) ∧ Below w.heap.size w wr) (fun kv _ => n - (intOf kv).toNat)
    case atStart => exact ⟨0, Nat.zero_le _, rfl, fun _ hj => absurd hj (Nat.not_lt_zero _), x0, b0⟩
    case round =>
      obtain ⟨wo, rfl⟩ : ∃ x, x = wr := ⟨wr, rfl⟩
      obtain ⟨k, hk, rfl, HO, xo, hbr⟩ := hrel
      have hsr := hbr.size
      clear x0 b0
      by_cases hlt : k < n
      · have hlt' : (k : Int) < n := by omega
        obtain ⟨g, o, rfl, hg, hcs⟩ := (hl.below hbr).get2 hn hlt
        obtain ⟨d0, d1⟩ := hcs k hlt
        have HV := HW1 k
        have HWk : Hid (wrongWin l k = if (l.getD k win0).a < 0 ∨ (l.getD k win0).b ≤ (l.getD k win0).a ∨ 1000000 < (l.getD k win0).b then 3 else if 0 < k ∧ (l.getD k win0).a < (l.getD (k - 1) win0).b then 7 else 0) := rfl
        have HF : Hid (wrongWin l k = 0 → ∀ j, j < k + 1 → wrongWin l j = 0) := fun h j hj => by
          by_cases e : j = k
          · rw [e]; exact h
          · exact HO.out j (by omega)
        have hprev := fun (h : 0 < k) => (hcs (k - 1) (by omega)).2
        clear hcs HW1 HW2
        have hd5 : Below wo.heap.size wo (wo.alloc (.cells #[.int .i64 (l.getD k win0).a, .int .i64 (l.getD k win0).b] 57)) := (Below.refl _ _).alloc (Nat.le_refl _) _
        have b5 := hbr.trans (hd5.mono hsr)
        have x5 := box_kept xo hd5
        have y5 := box_new wo #[.int .i64 (l.getD k win0).a, .int .i64 (l.getD k win0).b] 57
        have hprev5 := fun (h : 0 < k) => (hd5.cell (p := ⟨g, o + (k - 1) * 2 + 1, none⟩) hg).trans (hprev h)
        obtain ⟨t0, t1, -, -⟩ := box_two y5
        obtain ⟨u0, u1, u2, u3⟩ := box_two x5
        clear hprev
        generalize (l.getD k win0).a = A at *
        generalize (l.getD k win0).b = B at *
        generalize (l.getD (k - 1) win0).b = C at *
        have fin3 : A < 0 ∨ B ≤ A ∨ 1000000 < B → Hid (wrongWins l = (3, (k : Int))) := fun h => by
          show _ = _
          have h3 : wrongWin l k = 3 := by rw [HWk.out, if_pos h]
          rw [HV.out hlt HO.out (by rw [h3]; decide), h3]
        have bE := fun (e : Int) => two_below b5 (Nat.le_refl w.heap.size) (.int .i64 e) (.int .i64 (k : Int))
        have rE := fun (e : Int) => box_two (two_set x5 (.int .i64 e) (.int .i64 (k : Int)))
        by_cases q1 : A < 0
        · have HE := fin3 (.inl q1)
          obtain ⟨r0, r1, -, -⟩ := rE 3
          clear fin3 HV HWk HF hprev5 rE
          go_wp2_with fail
          exact bodyPost_ret (v := faultV (3, (k : Int))) (by simp [results, Tryz.results21, go_sem, r0, r1]) rfl ⟨by rw [HE.out], bE 3⟩
        by_cases q2 : B ≤ A
        · have HE := fin3 (.inr (.inl q2))
          obtain ⟨r0, r1, -, -⟩ := rE 3
          clear fin3 HV HWk HF hprev5 rE
          go_wp2_with fail
          exact bodyPost_ret (v := faultV (3, (k : Int))) (by simp [results, Tryz.results21, go_sem, r0, r1]) rfl ⟨by rw [HE.out], bE 3⟩
        by_cases q3 : 1000000 < B
        · have HE := fin3 (.inr (.inr q3))
          obtain ⟨r0, r1, -, -⟩ := rE 3
          clear fin3 HV HWk HF hprev5 rE
          go_wp2_with fail
          exact bodyPost_ret (v := faultV (3, (k : Int))) (by simp [results, Tryz.results21, go_sem, r0, r1]) rfl ⟨by rw [HE.out], bE 3⟩
        have HWk2 : Hid (wrongWin l k = if 0 < k ∧ A < C then 7 else 0) := by show _ = _; rw [HWk.out, if_neg (by omega)]
        clear fin3 HWk
        by_cases q4 : 0 < k
        · have q4' : (0 : Int) < k := by omega
          have q5 : (1 : Int) ≤ k := by omega
          have hp := hprev5 q4
          have hk1 : ((k : Int) - 1) < n := by omega
          by_cases q6 : A < C
          · have HE : Hid (wrongWins l = (7, (k : Int))) := by
              show _ = _
              have h7 : wrongWin l k = 7 := by rw [HWk2.out, if_pos ⟨q4, q6⟩]
              rw [HV.out hlt HO.out (by rw [h7]; decide), h7]
            clear HV HWk2 HF hprev5 rE
            go_wp2_with fail
            go_quiet (fail)
            go_wp2_with fail
            have dq := below_drewN' (Below.refl (wo.alloc (.cells #[.int .i64 A, .int .i64 B] 57)).heap.size (wo.alloc (.cells #[.int .i64 A, .int .i64 B] 57))) nq
            have x6 := box_kept x5 dq
            obtain ⟨s0, s1, -, -⟩ := box_two (two_set x6 (.int .i64 7) (.int .i64 (k : Int)))
            have b6 := two_below (b5.trans (dq.mono b5.size)) (Nat.le_refl w.heap.size) (.int .i64 7) (.int .i64 (k : Int))
            exact bodyPost_ret (v := faultV (7, (k : Int))) (by simp [results, Tryz.results21, go_sem, s0, s1]) rfl ⟨by rw [HE.out], b6⟩
          · have H0 : wrongWin l k = 0 := by rw [HWk2.out, if_neg (fun h => q6 h.2)]
            have HF2 : Hid (∀ j, j < k + 1 → wrongWin l j = 0) := HF.out H0
            clear HV HWk2 HF hprev5 rE H0
            go_wp2_with fail
            go_quiet (fail)
            go_wp2_with fail
            go_roundw
            case rel => exact ⟨k + 1, by omega, by go_num, HF2, x5, below_drewN' b5 _⟩
            case measure => simp [intOf]; omega
        · obtain rfl : k = 0 := by omega
          have H0 : wrongWin l 0 = 0 := by rw [HWk2.out, if_neg (fun h => absurd h.1 (Nat.lt_irrefl _))]
          have HF2 : Hid (∀ j, j < 0 + 1 → wrongWin l j = 0) := HF.out H0
          rw [Nat.zero_mul, Nat.add_zero] at d0 d1
          clear HV HWk2 HF hprev5 rE H0
          go_wp2_with fail
          go_quiet (fail)
          go_wp2_with fail
          go_roundw
          case rel => exact ⟨0 + 1, by omega, by go_num, HF2, x5, below_drewN' b5 _⟩
          case measure => simp [intOf]; omega
      · obtain rfl : k = n := by omega
        have hnl : ¬ (k : Int) < k := by omega
        have HE : Hid (wrongWins l = (0, 0)) := HW2.out HO.out
        obtain ⟨u0, u1, u2, u3⟩ := box_two xo
        obtain ⟨r0, r1, -, -⟩ := box_two (two_set xo (.int .i64 0) (.int .i64 0))
        have bE := two_below hbr (Nat.le_refl w.heap.size) (.int .i64 0) (.int .i64 0)
        clear HW1 HW2 HO hl
        go_wp2_with fail
        exact bodyPost_ret (v := faultV (0, 0)) (by simp [results, Tryz.results21, go_sem, r0, r1]) rfl ⟨by rw [HE.out], bE⟩

end Go.Proofs.YtkjlchfmplcobagGreatDoor

/- Variables that are set, and lists that lie elsewhere. -/
namespace Go.Proofs.YtkjlchfmplcobagGreatDoor
open Go.RowKit

/-- Setting a variable that is no row of bytes, nor of slices of them. -/
theorem Laid.set {w : World} {a : Option Addr} {n c k o : Nat} {L : List (List Int)} {cs : Array Value} {t : TypeId} {mk : Nat × Nat} (h : Laid w a n c L) (hk : w.heap[k]? = some (.cells cs t mk)) (h1 : 5 ≠ t) (h2 : n ≠ 0 → ∀ g off, a = some ⟨g, off, none⟩ → g ≠ k) (u : Value) : Laid (w.setCell ⟨k, o, none⟩ u) a n c L := by
  obtain ⟨hl, vs, he, hc⟩ := h
  have hB : ∀ y d, ByteEl w y d → ByteEl (w.setCell ⟨k, o, none⟩ u) y d := fun y d hy => hy.same (fun g cur mk' hg => by
    rw [heap_setCell_other w ⟨k, o, none⟩ g u (fun e => ?_)]
    have e : g = k := e
    subst e
    rw [hg] at hk
    cases hk
    exact h1 rfl)
  have he' : Els (w.setCell ⟨k, o, none⟩ u) vs L := ⟨he.1, fun j hj => by obtain ⟨y, q1, q2⟩ := he.2 j hj; exact ⟨y, q1, hB _ _ q2⟩⟩
  have hcell : n ≠ 0 → ∀ b off, a = some ⟨b, off, none⟩ → ∀ j, (w.setCell ⟨k, o, none⟩ u).cell? ⟨b, off + j, none⟩ = w.cell? ⟨b, off + j, none⟩ := fun hn b off ha j => World.cell?_setCell_far _ _ _ _ (show k ≠ b from fun e => h2 hn b off ha e.symm)
  refine ⟨⟨hl.len, ?_, hl.room, hl.cap, hl.nil, hl.bytes, hl.short⟩, vs, he', fun ad ha j v hv => ?_⟩
  · rcases hl.at' with h | ⟨b, off, cp, e, hb, hp⟩
    · exact .inl h
    · cases e
      refine .inr ⟨b, off, c, rfl, by simpa using hb, fun j hj => ?_⟩
      obtain ⟨y, q1, q2⟩ := he'.2 j hj
      obtain ⟨ya, yc, rfl⟩ := q2.bytes.form
      refine ⟨ya, _, yc, ?_, q2.bytes⟩
      rw [hcell (by have := hl.len; omega) b off rfl]
      have := hc _ rfl j _ q1
      have e2 : (⟨b, off, none⟩ : Addr).add j = ⟨b, off + j, none⟩ := Addr.add_mid _ _ _
      rwa [e2] at this
  · have h3 := hc ad ha j v hv
    rcases hl.at' with ⟨rfl, -⟩ | ⟨b, off, cp, e, hb, hp⟩
    · have := (List.getElem?_eq_some_iff.1 hv).1
      rw [he.1] at this
      simp at this
    · cases e
      cases ha
      have e2 : (⟨b, off, none⟩ : Addr).add j = ⟨b, off + j, none⟩ := Addr.add_mid _ _ _
      rw [e2] at h3 ⊢
      rw [hcell (by have h4 := (List.getElem?_eq_some_iff.1 hv).1; rw [he.1, hl.len] at h4; omega) b off rfl]
      exact h3
/-- A list lies in no variable of two numbers. -/
theorem Lists.apart {w : World} {a : Option Addr} {n c k : Nat} {L : List (List Int)} {u v : Int} {t : TypeId} (h : Lists w a n c L) (hk : w.heap[k]? = some (.cells #[.int .i64 u, .int .i64 v] t (0, 0))) : n ≠ 0 → ∀ g off, a = some ⟨g, off, none⟩ → g ≠ k := fun hn g off ha e => by
  obtain ⟨b, o, pa, pc, hb, hc, -⟩ := h.get 0 (by omega)
  rw [ha] at hb
  cases hb
  subst e
  rw [cell_of_row w g (off + 0) _ t _ hk] at hc
  match off, hc with
  | 0, hc => simp at hc
  | 1, hc => simp at hc
  | o + 2, hc => simp at hc

end Go.Proofs.YtkjlchfmplcobagGreatDoor

/- The walks of inRange, Wrong, putTime and timeOf: package book as it landed. -/
namespace Go.Proofs.YtkjlchfmplcobagGreatDoor
open Go.RowKit

/-- Whether each number of a record is one that it may have. -/
def inR (r : Rec) : Bool := decide (¬ (r.shard < 0 ∨ 7 < r.shard ∨ r.from' < 0 ∨ r.to' ≤ r.from' ∨ 1000000 < r.to' ∨ r.size < 0 ∨ 100 < r.size))
set_option maxRecDepth 100000 in
set_option maxHeartbeats 2000000 in
theorem inRange_any (r : Rec) (v : Value) (w : World) (h : RecV w v r) :
    Calls Tryz.prog 79 #[v] w fun e w' => e = .returned (.bool (inR r)) ∧ Below w.heap.size w w' := by
  obtain ⟨ra, rc, rfl, hr⟩ := h
  obtain ⟨s, f, t, z, root⟩ := r
  dsimp only at hr ⊢
  have b0 : Below w.heap.size w (w.alloc (.cells #[.int .i64 s, .int .i64 f, .int .i64 t, .int .i64 z, .slice ra root.length rc] 44)) := (Below.refl _ _).alloc (Nat.le_refl _) _
  obtain ⟨x0, x1, x2, x3, x4⟩ := box_five (box_new w #[.int .i64 s, .int .i64 f, .int .i64 t, .int .i64 z, .slice ra root.length rc] 44)
  by_cases hw : s < 0 ∨ 7 < s ∨ f < 0 ∨ t ≤ f ∨ 1000000 < t ∨ z < 0 ∨ 100 < z
  · have HE : Hid (inR ⟨s, f, t, z, root⟩ = false) := by show _ = _; unfold inR; exact decide_eq_false (fun h => h hw)
    have hc : ¬ 0 ≤ s ∨ (0 ≤ s ∧ ¬ s < 8) ∨ (0 ≤ s ∧ s < 8 ∧ ¬ 0 ≤ f) ∨ (0 ≤ s ∧ s < 8 ∧ 0 ≤ f ∧ ¬ f < t) ∨ (0 ≤ s ∧ s < 8 ∧ 0 ≤ f ∧ f < t ∧ ¬ t ≤ 1000000) ∨ (0 ≤ s ∧ s < 8 ∧ 0 ≤ f ∧ f < t ∧ t ≤ 1000000 ∧ ¬ 0 ≤ z) ∨ (0 ≤ s ∧ s < 8 ∧ 0 ≤ f ∧ f < t ∧ t ≤ 1000000 ∧ 0 ≤ z ∧ ¬ z ≤ 100) := by omega
    clear hw hr
    generalize root.length = n at *
    rcases hc with q1 | ⟨q1, q2⟩ | ⟨q1, q2, q3⟩ | ⟨q1, q2, q3, q4⟩ | ⟨q1, q2, q3, q4, q5⟩ | ⟨q1, q2, q3, q4, q5, q6⟩ | ⟨q1, q2, q3, q4, q5, q6, q7⟩
    all_goals
      go_enter Tryz.func79, Tryz.ntmps79
      go_wp2_with fail
      go_ret
      exact ⟨by rw [HE.out]; rfl, b0⟩
  · have HE : Hid (inR ⟨s, f, t, z, root⟩ = true) := by show _ = _; unfold inR; exact decide_eq_true hw
    have q1 : 0 ≤ s := by omega
    have q2 : s < 8 := by omega
    have q3 : 0 ≤ f := by omega
    have q4 : f < t := by omega
    have q5 : t ≤ 1000000 := by omega
    have q6 : 0 ≤ z := by omega
    have q7 : z ≤ 100 := by omega
    clear hw hr
    generalize root.length = n at *
    go_enter Tryz.func79, Tryz.ntmps79
    go_wp2_with fail
    go_ret
    exact ⟨by rw [HE.out]; rfl, b0⟩
theorem wrong_inR (r : Rec) : wrongRec r = if inR r = true then (if r.root.length ≠ 32 then 2 else 0) else 3 := by
  unfold wrongRec inR
  by_cases h : r.shard < 0 ∨ 7 < r.shard ∨ r.from' < 0 ∨ r.to' ≤ r.from' ∨ 1000000 < r.to' ∨ r.size < 0 ∨ 100 < r.size
  · rw [if_pos h, decide_eq_false (fun g => g h), if_neg (by decide)]
  · rw [if_neg h, decide_eq_true h, if_pos rfl]
set_option maxRecDepth 100000 in
set_option maxHeartbeats 2000000 in
theorem recWrongC_holds : RecWrongC := fun r v w h => by
  have cI := fun w' (hb : Below w.heap.size w w') => inRange_any r v w' (h.below hb)
  have HW : Hid (wrongRec r = if inR r = true then (if r.root.length ≠ 32 then 2 else 0) else 3) := wrong_inR r
  obtain ⟨ra, rc, rfl, hr⟩ := h
  have hsh := hr.short
  unfold maxLen at hsh
  have b0 : Below w.heap.size w (w.alloc (.cells #[.int .i64 r.shard, .int .i64 r.from', .int .i64 r.to', .int .i64 r.size, .slice ra r.root.length rc] 44)) := (Below.refl _ _).alloc (Nat.le_refl _) _
  have x0 := box_new w #[.int .i64 r.shard, .int .i64 r.from', .int .i64 r.to', .int .i64 r.size, .slice ra r.root.length rc] 44
  have cI0 := cI _ b0
  clear cI hr
  generalize wrongRec r = er at *
  generalize inR r = ok at *
  generalize r.root.length = n at *
  generalize r.shard = s at *
  generalize r.from' = f at *
  generalize r.to' = t at *
  generalize r.size = z at *
  obtain ⟨s0, s1, s2, s3, s4⟩ := box_five x0
  go_enter Tryz.func55, Tryz.ntmps55
  go_wp2_with fail
  generalize w.alloc (.cells #[.int .i64 s, .int .i64 f, .int .i64 t, .int .i64 z, .slice ra n rc] 44) = w0 at *
  refine cI0.mono ?_
  rintro e w1 ⟨rfl, hb1⟩
  have b1 := b0.trans (hb1.mono b0.size)
  obtain ⟨u0, u1, u2, u3, u4⟩ := box_five (box_kept x0 hb1)
  clear s0 s1 s2 s3 s4 cI0
  cases ok
  · go_wp2_with fail
    go_ret
    exact ⟨by rw [HW.out]; rfl, b1⟩
  · by_cases h32 : n = 32
    · subst h32
      go_wp2_with fail
      go_ret
      exact ⟨by rw [HW.out]; rfl, b1⟩
    · have h32' : ((n : Int) != 32) = true := by simp; omega
      have HN : Hid (n ≠ 32) := h32
      clear h32
      go_wp2_with fail
      go_ret
      exact ⟨by rw [HW.out, if_pos trivial, if_pos HN.out]; rfl, b1⟩
/-- A row with three bytes written. -/
def putL (xs : List Value) (o : Nat) (t : Int) (k : Nat) : List Value :=
  match k with
  | 0 => xs
  | 1 => xs.set (o + 2) (.int .u8 (t % 256))
  | 2 => (xs.set (o + 2) (.int .u8 (t % 256))).set (o + 1) (.int .u8 (t / 256 % 256))
  | _ => ((xs.set (o + 2) (.int .u8 (t % 256))).set (o + 1) (.int .u8 (t / 256 % 256))).set o (.int .u8 (t / 65536))
/-- Where putTime stands. -/
def PutAt (xs : List Value) (o : Nat) (t : Int) (iv tv : Value) (ys : List Value) : Prop :=
  (iv = .int .i64 2 ∧ tv = .int .i64 t ∧ ys = putL xs o t 0) ∨ (iv = .int .i64 1 ∧ tv = .int .i64 (t / 256) ∧ ys = putL xs o t 1) ∨ (iv = .int .i64 0 ∧ tv = .int .i64 (t / 65536) ∧ ys = putL xs o t 2) ∨ (iv = .int .i64 (-1) ∧ tv = .int .i64 (t / 16777216) ∧ ys = putL xs o t 3)
set_option maxRecDepth 100000 in
set_option maxHeartbeats 2000000 in
theorem putTime_any (base g o n c0 c : Nat) (t : Int) (xs : List Value) (w : World) (ho : o + 3 ≤ n) (ht0 : 0 ≤ t) (ht : t < 16777216) (hrow : w.ownsRow base 5 1 (.slice (some ⟨g, 0, none⟩) n c0) n xs) :
    Calls Tryz.prog 56 #[.slice (some ⟨g, o, none⟩) 3 c, .int .i64 t] w fun e w' => e = .returned (.tuple #[]) ∧ w'.ownsRow base 5 1 (.slice (some ⟨g, 0, none⟩) n c0) n (putL xs o t 3) ∧ w.grownBy w' (some g) := by
  go_enter Tryz.func56, Tryz.ntmps56
  go_wp2_with fail
  go_loopw [4, 1] (fun iv tv wr => ∃ ys, PutAt xs o t iv tv ys ∧ wr.ownsRow base 5 1 (.slice (some ⟨g, 0, none⟩) n c0) n ys ∧ w.grownBy wr (some g)) (fun iv _ _ => (intOf iv + 1).toNat)
  case atStart => exact ⟨xs, .inl ⟨rfl, rfl, rfl⟩, hrow, World.grownBy.refl _ _⟩
  case round =>
    obtain ⟨ys, hP, hr, hg⟩ := hrel
    clear hrow
    have f0 := hr.frozenAt (o + 2)
    have f1 := hr.frozenAt (o + 1)
    have f2 := hr.frozenAt o
    have hl : ys.length = n := by simpa using hr.1
    obtain ⟨v0, k0⟩ : ∃ v, wr.cell? ⟨g, o + 2, none⟩ = some v := ⟨_, (hr.cellAt (o + 2) (by omega)).trans (List.getElem?_eq_getElem (by omega))⟩
    obtain ⟨v1, k1⟩ : ∃ v, wr.cell? ⟨g, o + 1, none⟩ = some v := ⟨_, (hr.cellAt (o + 1) (by omega)).trans (List.getElem?_eq_getElem (by omega))⟩
    obtain ⟨v2, k2⟩ : ∃ v, wr.cell? ⟨g, o, none⟩ = some v := ⟨_, (hr.cellAt o (by omega)).trans (List.getElem?_eq_getElem (by omega))⟩
    clear hl
    rcases hP with ⟨rfl, rfl, HY⟩ | ⟨rfl, rfl, HY⟩ | ⟨rfl, rfl, HY⟩ | ⟨rfl, rfl, HY⟩
    · have hs := hr.stored (o + 2) (.int .u8 (t % 256))
      have hg2 := hg.trans hs.2
      have hs1 := hs.1
      have HH : Hid (ys.set (o + 2) (.int .u8 (t % 256)) = putL xs o t 1) := by show _ = _; rw [HY]; rfl
      have HYh : Hid (ys = putL xs o t 0) := HY
      clear HY hs
      go_wp2_with fail
      go_roundw
      case rel => exact ⟨_, .inr (.inl ⟨rfl, rfl, HH.out⟩), hs1, hg2⟩
      case measure => simp [intOf]
    · have hs := hr.stored (o + 1) (.int .u8 ((t / 256) % 256))
      have hg2 := hg.trans hs.2
      have hs1 := hs.1
      have HH : Hid (ys.set (o + 1) (.int .u8 ((t / 256) % 256)) = putL xs o t 2) := by show _ = _; rw [HY]; rfl
      have HYh : Hid (ys = putL xs o t 1) := HY
      clear HY hs
      go_wp2_with fail
      go_roundw
      case rel => exact ⟨_, .inr (.inr (.inl ⟨rfl, by congr 1; omega, HH.out⟩)), hs1, hg2⟩
      case measure => simp [intOf]
    · have hs := hr.stored (o) (.int .u8 (t / 65536))
      have hg2 := hg.trans hs.2
      have hs1 := hs.1
      have HH : Hid (ys.set (o) (.int .u8 (t / 65536)) = putL xs o t 3) := by show _ = _; rw [HY]; rfl
      have HYh : Hid (ys = putL xs o t 2) := HY
      clear HY hs
      go_wp2_with fail
      go_roundw
      case rel => exact ⟨_, .inr (.inr (.inr ⟨rfl, by congr 1; omega, HH.out⟩)), hs1, hg2⟩
      case measure => simp [intOf]
    · go_wp2_with fail
      go_end0
      exact ⟨rfl, by rw [← HY]; exact hr, hg⟩

end Go.Proofs.YtkjlchfmplcobagGreatDoor
