/- The walks of longest, tokenAt and Tokens: package pack as it landed. -/
import Derived.Test.YtkjlchfmplcobadDoorProg
import Derived.Test.YtkjlchfmplcobadDoorRunAC
import Derived.WalkKit
import Derived.WalkSpells
import Derived.WalkLawsBesides
namespace Go.Proofs.YtkjlchfmplcobadDoor
open Go.RowKit

set_option maxRecDepth 100000 in
set_option maxHeartbeats 4000000 in
theorem longest_any (b : List Int) (g o bc a : Nat) (w : World) (hg : g < w.heap.size) (hcell : ∀ j, j < b.length → w.cell? ⟨g, o + j, none⟩ = some (.int .u8 (b.getD j 0))) (hbl : b.length ≤ 4000) (ha : a < b.length) :
    Calls Tryd.prog 110 #[.slice (some ⟨g, o, none⟩) b.length bc, .int .i64 a] w fun e w' => e = .returned (.tuple #[.int .i64 (longTo b a (min a 1024)).1, .int .i64 (longTo b a (min a 1024)).2]) ∧ Below w.heap.size w w' := by
  obtain ⟨M, hM⟩ : ∃ M : Nat, M = min a 1024 := ⟨_, rfl⟩
  rw [← hM]
  have hM1 : M ≤ a := by omega
  have hM2 : M ≤ 1024 := by omega
  have hM3 : M = a ∨ (M = 1024 ∧ 1024 < a) := by omega
  clear hM
  have HM : Hid (M = a ∨ (M = 1024 ∧ 1024 < a)) := hM3
  clear hM3
  rcases (show (1024 : Int) < (a : Int) ∨ ¬ (1024 : Int) < (a : Int) by omega) with h10 | h10
  all_goals
    go_enter Tryd.func110, Tryd.ntmps110
    go_wp2_with fail
    go_loopw [4, 5, 6] (fun lv kv fv wi => ∃ m L B : Nat, m ≤ M ∧ lv = .int .i64 L ∧ kv = .int .i64 B ∧ fv = .int .i64 ((m : Int) + 1) ∧ Hid (longTo b a m = (L, B)) ∧ L ≤ 66 ∧ Below w.heap.size w wi) (fun _ _ fv _ => M + 1 - (intOf fv).toNat)
    case atStart => exact ⟨0, 0, 0, Nat.zero_le _, rfl, rfl, rfl, rfl, by omega, Below.refl _ _⟩
    case round =>
      obtain ⟨wi, rfl⟩ : ∃ x, x = wr := ⟨wr, rfl⟩
      obtain ⟨m, L, B, hmM, rfl, rfl, rfl, HL, hL, hbi⟩ := hrel
      by_cases c1 : m < M
      · have hsi := hbi.size
        have hA := alike_any b g o bc a (m + 1) wi (by omega) (fun j hj => (hbi.cell (p := ⟨g, o + j, none⟩) hg).trans (hcell j hj)) hbl ha (by omega) (by omega)
        rw [show ((m + 1 : Nat) : Int) = (m : Int) + 1 by omega] at hA
        have HS : Hid (longTo b a (m + 1) = if L < matchN b (a - (m + 1)) a then (matchN b (a - (m + 1)) a, m + 1) else (L, B)) := by
          show _ = _
          rw [longTo_succ, HL.out]; rfl
        have hn66 := (matchN_le b (a - (m + 1)) a).1
        generalize matchN b (a - (m + 1)) a = n at *
        have j1 : (m : Int) + 1 ≤ a := by omega
        have j2 : (m : Int) + 1 ≤ 1024 := by omega
        clear hcell
        go_wp2_with fail
        refine hA.mono ?_
        rintro r w1 ⟨rfl, hb1⟩
        have hb2 : Below w.heap.size w w1 := hbi.trans (hb1.mono hsi)
        by_cases c2 : L < n
        · have j3 : (L : Int) < n := by omega
          have HS2 : Hid (longTo b a (m + 1) = (n, m + 1)) := by show _ = _; rw [HS.out, if_pos c2]
          clear HS HL hA hb1
          go_wp2_with fail
          exact ⟨⟨m + 1, n, m + 1, by omega, rfl, by go_num, by go_num, HS2, hn66, hb2⟩, by simp [intOf]; omega⟩
        · have j3 : ¬ (L : Int) < n := by omega
          have HS2 : Hid (longTo b a (m + 1) = (L, B)) := by show _ = _; rw [HS.out, if_neg c2]
          clear HS HL hA hb1
          go_wp2_with fail
          exact ⟨⟨m + 1, L, B, by omega, rfl, rfl, by go_num, HS2, hL, hb2⟩, by simp [intOf]; omega⟩
      · obtain rfl : m = M := by omega
        have d1 : ¬ (m : Int) + 1 ≤ a ∨ ¬ (m : Int) + 1 ≤ 1024 := by have := HM.out; omega
        have hd : ((1024 : Int) < (a : Int) → ¬ (m : Int) + 1 ≤ 1024) ∧ (¬ (1024 : Int) < (a : Int) → ¬ (m : Int) + 1 ≤ a) := ⟨fun _ => by have := HM.out; omega, fun _ => by have := HM.out; omega⟩
        have d2 := hd
        first
          | replace d2 := hd.1 h10
          | replace d2 := hd.2 (by omega)
        clear hd d1 hcell
        go_wp2_with fail
        exact bodyPost_ret (v := .tuple #[.int .i64 L, .int .i64 B]) (by simp [results, Tryd.results110, go_sem]) rfl ⟨by rw [HL.out], hbi⟩
set_option maxRecDepth 100000 in
set_option maxHeartbeats 4000000 in
theorem tokenAt_any (b : List Int) (g o bc a : Nat) (w : World) (hg : g < w.heap.size) (hcell : ∀ j, j < b.length → w.cell? ⟨g, o + j, none⟩ = some (.int .u8 (b.getD j 0))) (hbl : b.length ≤ 4000) (ha : a < b.length) :
    Calls Tryd.prog 96 #[.slice (some ⟨g, o, none⟩) b.length bc, .int .i64 a] w fun e w' => e = .returned (tokV (tokAtL b a)) ∧ Below w.heap.size w w' := by
  have hA : ∀ w', Below w.heap.size w w' → _ := fun w' hb' => longest_any b g o bc a w' (Nat.lt_of_lt_of_le hg hb'.size) (fun j hj => (hb'.cell (p := ⟨g, o + j, none⟩) hg).trans (hcell j hj)) hbl ha
  have hca := hcell a ha
  have hle := longTo_le b a (min a 1024)
  unfold tokAtL
  generalize longTo b a (min a 1024) = LB at *
  obtain ⟨L, B⟩ := LB
  dsimp only at hle hA ⊢
  have b0 : Below w.heap.size w (w.alloc (.cells #[.int .i64 0, .int .i64 0, .int .u8 0] 117)) := (Below.refl _ _).alloc (Nat.le_refl _) _
  have hx := box_new w #[.int .i64 0, .int .i64 0, .int .u8 0] 117
  have hA0 := hA _ b0
  obtain ⟨y, Hy⟩ : ∃ y, Hid (b.getD a 0 = y) := ⟨_, rfl⟩
  rw [Hy.out] at hca
  rw [Hy.out]
  clear hA
  go_enter Tryd.func96, Tryd.ntmps96
  go_wp2_with fail
  generalize w.alloc (.cells #[.int .i64 0, .int .i64 0, .int .u8 0] 117) = w0 at *
  refine hA0.mono ?_
  rintro r w1 ⟨rfl, hb1⟩
  clear hA0
  have hx1 := box_kept hx hb1
  have b1 : Below w.heap.size w w1 := b0.trans (hb1.mono b0.size)
  have hca1 := (b1.cell (p := ⟨g, o + a, none⟩) hg).trans hca
  obtain ⟨x0, x1, x2, fz0, fz1, fz2⟩ := box_three hx1
  by_cases h3 : L < 3
  · have j1 : (L : Int) < 3 := by omega
    have j2 : (a : Int) < b.length := by omega
    obtain ⟨q0, q1, q2, -, -, -⟩ := box_three (box3_set (u' := .int .i64 0) (v' := .int .i64 0) (x' := .int .u8 y) hx1)
    have b2 := ((b1.setCell (p := ⟨w.heap.size, 0, none⟩) (Nat.le_refl _) (.int .i64 0)).setCell (p := ⟨w.heap.size, 1, none⟩) (Nat.le_refl _) (.int .i64 0)).setCell (p := ⟨w.heap.size, 2, none⟩) (Nat.le_refl _) (.int .u8 y)
    clear hcell hca hx hx1 hb1 b0 b1
    go_wp2_with fail
    exact bodyPost_ret (v := .agg #[.int .i64 0, .int .i64 0, .int .u8 y]) (by simp [results, Tryd.results96, go_sem, q0, q1, q2]) rfl ⟨by simp, b2⟩
  · have j1 : ¬ (L : Int) < 3 := by omega
    obtain ⟨q0, q1, q2, -, -, -⟩ := box_three (box3_set (u' := .int .i64 L) (v' := .int .i64 B) (x' := .int .u8 0) hx1)
    have b2 := ((b1.setCell (p := ⟨w.heap.size, 0, none⟩) (Nat.le_refl _) (.int .i64 L)).setCell (p := ⟨w.heap.size, 1, none⟩) (Nat.le_refl _) (.int .i64 B)).setCell (p := ⟨w.heap.size, 2, none⟩) (Nat.le_refl _) (.int .u8 0)
    clear hcell hca hx hx1 hb1 b0 b1 hca1
    go_wp2_with fail
    exact bodyPost_ret (v := .agg #[.int .i64 L, .int .i64 B, .int .u8 0]) (by simp [results, Tryd.results96, go_sem, q0, q1, q2]) rfl ⟨by simp, b2⟩
set_option maxRecDepth 100000 in
set_option maxHeartbeats 8000000 in
theorem tokensC_holds : TokensC := fun b bv w hb => by
  obtain ⟨i0, hi0, hz0, hz1, hz2⟩ := info_parts Tryd.info117b
  have hsh := hb.short
  unfold maxLen at hsh
  obtain ⟨ba, bc, eb⟩ := hb.at'.form
  subst eb
  by_cases h4 : 4000 < b.length
  · have hm : muchE b = 4 := by unfold muchE; rw [if_pos h4]
    have hx : toksE b = [] := by unfold toksE; rw [if_pos h4]
    rw [hm, hx]
    have h4' : (4000 : Int) < b.length := by omega
    clear hm hx h4 hb
    generalize b.length = n at *
    go_enter Tryd.func75, Tryd.ntmps75
    go_wp2_with fail
    exact bodyPost_ret (v := .tuple #[.slice none 0 0, .int .i64 4]) (by simp [results, Tryd.results75, go_sem]) rfl ⟨_, rfl, .inl ⟨rfl, none, 0, rfl, fun _ => rfl, Nat.zero_le _⟩, Below.refl _ _⟩
  · have hm : muchE b = 0 := by unfold muchE; rw [if_neg h4]
    have hx : toksE b = tokensL b := by unfold toksE; rw [if_neg h4]
    rw [hm, hx]
    have hbl : b.length ≤ 4000 := by omega
    have h4' : ¬ (4000 : Int) < b.length := by omega
    have hcell : b.length = 0 ∨ ∃ g o, ba = some ⟨g, o, none⟩ ∧ g < w.heap.size ∧ ∀ j, j < b.length → w.cell? ⟨g, o + j, none⟩ = some (.int .u8 (b.getD j 0)) := by
      rcases hb.at' with ⟨e, -⟩ | ⟨g, o, c, e, h1, h2⟩
      · left; rw [e]; rfl
      · cases e; exact .inr ⟨g, o, rfl, h1, h2⟩
    clear hm hx h4 hb
    go_enter Tryd.func75, Tryd.ntmps75
    go_wp2_with fail
    go_loopw [4, 5] (fun ov at' wr => ∃ (a : Nat) (done : List Tok), a ≤ b.length ∧ at' = .int .i64 a ∧ Hid (done ++ tokFrom b a = tokensL b) ∧ done.length ≤ a ∧ (∃ va vc, ov = .slice va done.length vc ∧ wr.ownsRow w.heap.size 117 3 (.slice va done.length vc) done.length (tokCs done)) ∧ Below w.heap.size w wr) (fun _ at' _ => b.length - (intOf at').toNat)
    case atStart => exact ⟨0, [], Nat.zero_le _, rfl, rfl, Nat.le_refl _, ⟨none, 0, rfl, rfl, .inl ⟨rfl, rfl⟩⟩, Below.refl _ _⟩
    case round =>
      obtain ⟨wo, rfl⟩ : ∃ x, x = wr := ⟨wr, rfl⟩
      obtain ⟨a, done, ha, rfl, HD, hdl, ⟨va, vc, rfl, hrow⟩, hbr⟩ := hrel
      by_cases hlt : a < b.length
      · replace hcell := hcell.resolve_left (by omega)
        obtain ⟨g, o, rfl, hg, hcell⟩ := hcell
        have hlt' : (a : Int) < b.length := by omega
        have hsr := hbr.size
        have hA := tokenAt_any b g o bc a wo (Nat.lt_of_lt_of_le hg hsr) (fun j hj => (hbr.cell (p := ⟨g, o + j, none⟩) hg).trans (hcell j hj)) hbl hlt
        obtain ⟨t1, t2, t3, t4⟩ := tok_here hlt
        generalize tokAtL b a = t at *
        obtain ⟨qa, qb, qc⟩ := t
        obtain ⟨n, HN⟩ : ∃ n, Hid (widN ⟨qa, qb, qc⟩ = n) := ⟨_, rfl⟩
        rw [HN.out] at t1 t2 t3
        have HT : Hid (tokFrom b a = ⟨qa, qb, qc⟩ :: tokFrom b (a + n)) := t1
        have hwi : widI ⟨qa, qb, qc⟩ = (n : Int) := by
          have := HN.out
          unfold widN at this
          unfold widI
          dsimp only at t4 this ⊢
          by_cases h0 : qa = 0
          · rw [if_pos h0] at this ⊢; omega
          · rw [if_neg h0] at this ⊢; omega
        clear t1 t4 hcell
        go_wp2_with fail
        refine hA.mono ?_
        rintro r w1 ⟨rfl, hb1⟩
        clear hA
        have b1 : Below w.heap.size w w1 := hbr.trans (hb1.mono hsr)
        have hrow1 : w1.ownsRow w.heap.size 117 3 (.slice va done.length vc) done.length (tokCs done) := hrow.kept (w' := w1) (row := none) ⟨hb1.os, hb1.tape, hb1.output, hb1.size, fun k hk _ => hb1.block k hk⟩ (by cases (Value.slice va done.length vc).ownBlock <;> simp)
        have hs1 := hb1.size
        clear hrow hb1
        have e1 : (w1.alloc (.cells #[.int .i64 qa, .int .i64 qb, .int .u8 qc] 117)).heap.size = w1.heap.size + 1 := by simp
        have hnew := lit_three (w1.alloc (.cells #[.int .i64 qa, .int .i64 qb, .int .u8 qc] 117)) qa qb qc 117
        rw [e1] at hnew
        have hone1 := tokCs_one [⟨qa, qb, qc⟩]
        rw [show tokCs [⟨qa, qb, qc⟩] = tokC ⟨qa, qb, qc⟩ by simp [tokCs]] at hone1
        have hbox := box_one w1 #[.int .i64 qa, .int .i64 qb, .int .u8 qc] 117 (.cells #[.int .i64 qa, .int .i64 qb, .int .u8 qc] 117)
        have bA : Below w.heap.size w ((w1.alloc (.cells #[.int .i64 qa, .int .i64 qb, .int .u8 qc] 117)).alloc (.cells #[.int .i64 qa, .int .i64 qb, .int .u8 qc] 117)) := (b1.alloc b1.size _).alloc (by have := b1.size; simp; omega) _
        have hsA := bA.size
        have hrowA := (hrow1.alloc (.cells #[.int .i64 qa, .int .i64 qb, .int .u8 qc] 117)).alloc (.cells #[.int .i64 qa, .int .i64 qb, .int .u8 qc] 117)
        have hol : ∀ k, (Value.slice va done.length vc).ownBlock = some k → k < w1.heap.size := fun k h => own3_lt hrow1 h
        clear hrow1 e1
        go_wp2_with (at_builtin; refine wpList_append_own _ rfl (.tmp 17) (.tmp 19) 87 rfl w.heap.size 117 i0 _ 3 24 Tryd.underlying87 hi0 hz0 hz1 hz2 rfl (by decide) _ _ _ rfl hrowA ⟨w1.heap.size + 1, 0, none⟩ 1 1 (tokC ⟨qa, qb, qc⟩) rfl rfl hnew hone1 (by unfold maxLen; omega) (by omega) hsA ?_; intro v7 w7 ho7 hg7 _; obtain ⟨ta, tc, rfl⟩ := own3_form ho7; have hx7 : w7.heap[w1.heap.size]? = _ := (hg7.block w1.heap.size (lt_heap hbox) (fun h => by have := hol _ h.symm; omega)).trans hbox; obtain ⟨x70, x71, x72, -, -, -⟩ := box_three hx7)
        have b7 : Below w.heap.size w w7 := bA.grown hg7 hsA (fun _ h => own3_block hrowA h)
        refine (width_any qa qb qc w7).mono ?_
        rintro r w8 ⟨rfl, hb8⟩
        rw [hwi]
        have b8 : Below w.heap.size w w8 := b7.trans (hb8.mono b7.size)
        have HD2 : Hid ((done ++ [⟨qa, qb, qc⟩]) ++ tokFrom b (a + n) = tokensL b) := by
          show _ = _
          rw [List.append_assoc, List.singleton_append, ← HT.out]
          exact HD.out
        have ho8 : w8.ownsRow w.heap.size 117 3 (.slice ta (done ++ [(⟨qa, qb, qc⟩ : Tok)]).length tc) (done ++ [(⟨qa, qb, qc⟩ : Tok)]).length (tokCs (done ++ [⟨qa, qb, qc⟩])) := by
          rw [List.length_append, List.length_singleton, tokCs_append, show tokCs [⟨qa, qb, qc⟩] = tokC ⟨qa, qb, qc⟩ by simp [tokCs]]
          exact ho7.kept (w' := w8) (row := none) ⟨hb8.os, hb8.tape, hb8.output, hb8.size, fun k hk _ => hb8.block k hk⟩ (by cases (Value.slice ta (done.length + 1) tc).ownBlock <;> simp)
        clear hwi hnew hone1 hbox bA hsA hrowA hol ho7 hg7 hx7 b7 hb8
        go_wp2_with fail
        exact ⟨⟨a + n, done ++ [⟨qa, qb, qc⟩], by omega, by go_num, HD2, by rw [List.length_append, List.length_singleton]; omega, ⟨ta, tc, by rw [List.length_append, List.length_singleton], ho8⟩, b8⟩, by simp [intOf]; omega⟩
      · obtain rfl : a = b.length := by omega
        have HDe : Hid (done = tokensL b) := by
          have := HD.out
          rw [tokFrom_end (by omega), List.append_nil] at this
          exact this
        have hT' : ToksAt wo (.slice va done.length vc) (tokensL b) := by
          have h0 := toksAt_own hrow
          rw [← HDe.out]
          exact h0
        clear hcell hrow
        go_wp2_with fail
        exact bodyPost_ret (v := .tuple #[.slice va done.length vc, .int .i64 0]) (by simp [results, Tryd.results75, go_sem]) rfl ⟨_, rfl, hT', hbr⟩

end Go.Proofs.YtkjlchfmplcobadDoor
