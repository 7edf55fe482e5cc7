/- PackRefTokens, PackGoAlike, PackGoRead, PackGoTokens, PackGoText, as one text. -/
import Derived.Test.YtkjlchfmplcobaeGreatDoorProg
import Derived.Test.YtkjlchfmplcobaeGreatDoorPackTake
import Derived.Test.YtkjlchfmplcobaeGreatDoorRunAM
import Derived.WalkKit
import Derived.WalkSpells
import Derived.WalkLawsBesides
import Derived.Deep.QuietTactic
import Derived.BigQuiet
import Derived.Test.YtkjlchfmplcobaeGreatDoorRunAI
import Derived.Lib.EndianBits
/- The walk of yearref4.Tokens: the document's own tokens. -/
namespace Go.Proofs.YtkjlchfmplcobaeGreatDoor
open Go.RowKit

/-- What the best one is, in memory: its length, how far back, its byte. -/
def bestV (b : List Int) (a : Nat) (p : Nat × Nat) : Int × Int × Int := if p.1 = 0 then (0, 0, b.getD a 0) else ((p.1 : Int), (p.2 : Int), 0)
def BestAt (w : World) (B : Nat) (q : Int × Int × Int) : Prop := w.heap[B]? = some (.cells #[.int .i64 q.1, .int .i64 q.2.1, .int .u8 q.2.2] 165 (0, 0))
theorem bestV_len (b : List Int) (a : Nat) (p : Nat × Nat) : (bestV b a p).1 = (p.1 : Int) := by
  unfold bestV; split
  · rename_i h; rw [h]; rfl
  · rfl
theorem bestV_step (b : List Int) (a m : Nat) : bestV b a (bestTo b a (m + 1)) = if 3 ≤ matchN b (a - (m + 1)) a ∧ (bestTo b a m).1 < matchN b (a - (m + 1)) a then ((matchN b (a - (m + 1)) a : Int), ((m : Int) + 1), 0) else bestV b a (bestTo b a m) := by
  rw [bestTo_succ]
  unfold bestStep
  split
  · rename_i h
    unfold bestV
    rw [if_neg (by simp only; omega)]
    simp
  · rfl
theorem tok_next {b : List Int} {a : Nat} (h : a < b.length) : ∃ n, 1 ≤ n ∧ a + n ≤ b.length ∧ tokFrom b a = ⟨(bestV b a (bestL b a)).1, (bestV b a (bestL b a)).2.1, (bestV b a (bestL b a)).2.2⟩ :: tokFrom b (a + n) ∧ (((bestL b a).1 = 0 ∧ n = 1) ∨ ((bestL b a).1 ≠ 0 ∧ n = (bestL b a).1)) := by
  rcases best_spec b a with hs | ⟨s1, s2, s3, -⟩
  · refine ⟨1, by omega, by omega, ?_, .inl ⟨by rw [hs], rfl⟩⟩
    rw [tokFrom_byte h (by rw [hs]), hs]
    rfl
  · refine ⟨(bestL b a).1, by omega, by omega, ?_, .inr ⟨by omega, rfl⟩⟩
    rw [tokFrom_more h (by omega)]
    unfold bestV
    rw [if_neg (by omega)]
set_option maxRecDepth 100000 in
set_option maxHeartbeats 8000000 in
theorem refTokens_any (b : List Int) (bv : Value) (w : World) (hb : Some' w bv b) :
    Calls Tryz.prog 103 #[bv] w fun e w' => ∃ v, e = .returned (.tuple #[v, .int .i64 (muchE b)]) ∧ ToksAt w' v (toksE b) ∧ Below w.heap.size w w' := by
  obtain ⟨i0, hi0, hz0, hz1, hz2⟩ := info_parts Tryz.info165b
  have hsh := hb.short
  unfold maxLen at hsh
  obtain ⟨ba, bc, eb⟩ := hb.at'.form
  subst eb
  by_cases h4 : 4000 < b.length
  · have hm : muchE b = 4 := by unfold muchE; rw [if_pos h4]
    have hx : toksE b = [] := by unfold toksE; rw [if_pos h4]
    rw [hm, hx]
    have h4' : (4000 : Int) < b.length := by omega
    clear hm hx h4 hb
    generalize b.length = n at *
    go_enter Tryz.func103, Tryz.ntmps103
    go_wp2_with fail
    exact bodyPost_ret (v := .tuple #[.slice none 0 0, .int .i64 4]) (by simp [results, Tryz.results103, go_sem]) rfl ⟨_, rfl, .inl ⟨rfl, none, 0, rfl, fun _ => rfl, Nat.zero_le _⟩, Below.refl _ _⟩
  · have hm : muchE b = 0 := by unfold muchE; rw [if_neg h4]
    have hx : toksE b = tokensL b := by unfold toksE; rw [if_neg h4]
    rw [hm, hx]
    have hbl : b.length ≤ 4000 := by omega
    have h4' : ¬ (4000 : Int) < b.length := by omega
    have hcell : b.length = 0 ∨ ∃ g o, ba = some ⟨g, o, none⟩ ∧ g < w.heap.size ∧ ∀ j, j < b.length → w.cell? ⟨g, o + j, none⟩ = some (.int .u8 (b.getD j 0)) := by
      rcases hb.at' with ⟨e, -⟩ | ⟨g, o, c, e, h1, h2⟩
      · left; rw [e]; rfl
      · cases e; exact .inr ⟨g, o, rfl, h1, h2⟩
    clear hm hx h4 hb
    go_enter Tryz.func103, Tryz.ntmps103
    go_wp2_with fail
    go_loopw [4, 5] (fun ov at' wr => ∃ (a : Nat) (done : List Tok), a ≤ b.length ∧ at' = .int .i64 a ∧ Hid (done ++ tokFrom b a = tokensL b) ∧ done.length ≤ a ∧ (∃ va vc, ov = .slice va done.length vc ∧ wr.ownsRow w.heap.size 165 3 (.slice va done.length vc) done.length (tokCs done)) ∧ Below w.heap.size w wr) (fun _ at' _ => b.length - (intOf at').toNat)
    case atStart => exact ⟨0, [], Nat.zero_le _, rfl, rfl, Nat.le_refl _, ⟨none, 0, rfl, rfl, .inl ⟨rfl, rfl⟩⟩, Below.refl _ _⟩
    case round =>
      obtain ⟨wo, rfl⟩ : ∃ x, x = wr := ⟨wr, rfl⟩
      obtain ⟨a, done, ha, rfl, HD, hdl, ⟨va, vc, rfl, hrow⟩, hbr⟩ := hrel
      by_cases hlt : a < b.length
      · replace hcell := hcell.resolve_left (by omega)
        obtain ⟨g, o, rfl, hg, hcell⟩ := hcell
        obtain ⟨z, Hz⟩ : ∃ z, Hid (b.getD a 0 = z) := ⟨_, rfl⟩
        have hca := (hbr.cell (p := ⟨g, o + a, none⟩) hg).trans (hcell a hlt)
        rw [Hz.out] at hca
        have hbox := box_new wo #[.int .i64 0, .int .i64 0, .int .u8 z] 165
        have bW : Below wo.heap.size wo (wo.alloc (.cells #[.int .i64 0, .int .i64 0, .int .u8 z] 165)) := (Below.refl _ _).alloc (Nat.le_refl _) _
        have hsr := hbr.size
        have hb0 : BestAt (wo.alloc (.cells #[.int .i64 0, .int .i64 0, .int .u8 z] 165)) wo.heap.size (bestV b a (bestTo b a 0)) := by
          have e : bestV b a (bestTo b a 0) = (0, 0, z) := by rw [bestTo_zero, ← Hz.out]; rfl
          rw [e]
          exact hbox
        have hcr : ∀ j, j < b.length → ∀ w', Below wo.heap.size wo w' → w'.cell? ⟨g, o + j, none⟩ = some (.int .u8 (b.getD j 0)) := fun j hj w' hw' => (hw'.cell (p := ⟨g, o + j, none⟩) (Nat.lt_of_lt_of_le hg hsr)).trans ((hbr.cell (p := ⟨g, o + j, none⟩) hg).trans (hcell j hj))
        clear hbox hcell
        go_wp2_with fail
        go_loopw [7] (fun fr wm => ∃ m : Nat, m ≤ a ∧ m ≤ 1024 ∧ fr = .int .i64 ((a : Int) - 1 - m) ∧ BestAt wm wo.heap.size (bestV b a (bestTo b a m)) ∧ Below wo.heap.size wo wm) (fun fr _ => (intOf fr + 1).toNat)
        case atStart => exact ⟨0, Nat.zero_le _, Nat.zero_le _, by simp, hb0, bW⟩
        case round =>
          obtain ⟨wm, rfl⟩ : ∃ x, x = wr := ⟨wr, rfl⟩
          obtain ⟨m, hma, hm4, rfl, hbm, hbw⟩ := hrel
          clear hb0 bW hca
          by_cases hmm : m < a ∧ m < 1024
          · obtain ⟨hm1, hm2⟩ := hmm
            have i1 : 0 ≤ (a : Int) - 1 - m := by omega
            have i2 : (a : Int) - ((a : Int) - 1 - m) ≤ 1024 := by omega
            obtain ⟨f, hf⟩ : ∃ f, f = a - (m + 1) := ⟨_, rfl⟩
            have hfa : f < a := by omega
            have HS := bestV_step b a m
            rw [← hf] at HS
            have hq1 := bestV_len b a (bestTo b a m)
            have HS' : Hid _ := HS
            have HQ1 : Hid _ := hq1
            clear HS hq1
            obtain ⟨q2, HQ2⟩ : ∃ q2, Hid (bestV b a (bestTo b a (m + 1)) = q2) := ⟨_, rfl⟩
            rw [HQ2.out] at HS'
            generalize bestV b a (bestTo b a m) = q at *
            obtain ⟨qa, qb, qc⟩ := q
            dsimp only at HQ1
            go_wp2_with fail
            have hfe : (a : Int) - 1 - m = (f : Int) := by omega
            simp only [hfe]
            have HF : Hid ((a : Int) - 1 - m = (f : Int)) := hfe
            have HF2 : Hid (f = a - (m + 1)) := hf
            clear hfe hf i1 i2
            go_loopw [8] (fun nv wi => ∃ k : Nat, k ≤ 66 ∧ a + k ≤ b.length ∧ nv = .int .i64 k ∧ Hid (∀ j, j < k → b.getD (f + j) 0 = b.getD (a + j) 0) ∧ BestAt wi wo.heap.size (qa, qb, qc) ∧ Below wo.heap.size wo wi) (fun nv _ => 66 - (intOf nv).toNat)
            case atStart => exact ⟨0, Nat.zero_le _, by omega, rfl, fun j hj => absurd hj (Nat.not_lt_zero _), hbm, hbw⟩
            case round =>
              obtain ⟨wi, rfl⟩ : ∃ x, x = wr := ⟨wr, rfl⟩
              obtain ⟨k, hk66, hkl, rfl, HK, hbi, hbwi⟩ := hrel
              clear hbm hbw
              have w1 : IntKind.i64.wrap ((a : Int) + k) = (a : Int) + k := by rw [IntKind.wrap_i64]; omega
              have w2 : IntKind.i64.wrap ((f : Int) + k) = (f : Int) + k := by rw [IntKind.wrap_i64]; omega
              by_cases c1 : a + k < b.length
              · by_cases c2 : k < 66
                · have e1 := hcr (f + k) (by omega) wi hbwi
                  have e2 := hcr (a + k) c1 wi hbwi
                  have j0 : (a : Int) + k < b.length := by omega
                  have j1 : (f : Int) + k < b.length := by omega
                  have j2 : (k : Int) < 66 := by omega
                  have j3 : 0 ≤ (f : Int) + k := by omega
                  have j4 : 0 ≤ (a : Int) + k := by omega
                  by_cases c3 : b.getD (f + k) 0 = b.getD (a + k) 0
                  · have HK2 : Hid (∀ j, j < k + 1 → b.getD (f + j) 0 = b.getD (a + j) 0) := fun j hj => by
                      by_cases hjk : j = k
                      · rw [hjk]; exact c3
                      · exact HK.out j (by omega)
                    rw [c3] at e1
                    clear c3 HK hcr
                    generalize b.getD (a + k) 0 = y at *
                    go_wp2
                    go_quiet (fail)
                    go_wp2
                    exact ⟨⟨k + 1, by omega, by omega, by go_num, HK2, hbi, below_drewN' hbwi nq⟩, by simp [intOf]; omega⟩
                  · have d3 : (b.getD (f + k) 0 == b.getD (a + k) 0) = false := by simpa using c3
                    have HC3 : Hid (b.getD (f + k) 0 ≠ b.getD (a + k) 0) := c3
                    clear c3
                    obtain ⟨y1, Hy1⟩ : ∃ y, Hid (b.getD (f + k) 0 = y) := ⟨_, rfl⟩
                    obtain ⟨y2, Hy2⟩ : ∃ y, Hid (b.getD (a + k) 0 = y) := ⟨_, rfl⟩
                    rw [Hy1.out] at d3 e1
                    rw [Hy2.out] at d3 e2
                    have d4 : decide (y1 = y2) = false := decide_eq_false (by simpa using d3)
                    clear hcr
                    go_wp2
                    go_quiet (fail)
                    have hmk : matchN b f a = k := match_end hfa HK.out hk66 hkl (.inr (.inr HC3.out))
                    have HS2 := HS'.out
                    rw [hmk] at HS2
                    have hq := HQ1.out
                    have hff := HF.out
                    have hbd := below_drewN' hbwi nq
                    have hbi2 : BestAt (wi.drewN nq) wo.heap.size (qa, qb, qc) := hbi
                    obtain ⟨x0, x1, x2, fz0, fz1, fz2⟩ := box_three hbi2
                    dsimp only at x0 x1 x2
                    clear HK
                    by_cases hc : 3 ≤ k ∧ qa < (k : Int)
                    · have hv : q2 = ((k : Int), (m : Int) + 1, 0) := by rw [HS2, if_pos ⟨hc.1, by omega⟩]
                      have l1 : (3 : Int) ≤ k := by omega
                      have l2 := hc.2
                      have hba : BestAt ((((wi.drewN nq).setCell ⟨wo.heap.size, 0, none⟩ (.int .i64 k)).setCell ⟨wo.heap.size, 1, none⟩ (.int .i64 ((a : Int) - f))).setCell ⟨wo.heap.size, 2, none⟩ (.int .u8 0)) wo.heap.size q2 := by
                        rw [hv, show (m : Int) + 1 = (a : Int) - f by omega]
                        exact box3_set hbi2
                      have hbe := ((hbd.setCell (p := ⟨wo.heap.size, 0, none⟩) (Nat.le_refl _) (.int .i64 k)).setCell (p := ⟨wo.heap.size, 1, none⟩) (Nat.le_refl _) (.int .i64 ((a : Int) - f))).setCell (p := ⟨wo.heap.size, 2, none⟩) (Nat.le_refl _) (.int .u8 0)
                      have HW3 : Hid ((a : Int) - 1 - ((m + 1 : Nat) : Int) = (f : Int) - 1) := by show _ = _; omega
                      clear HS2 hq hff hv hmk hbi hbi2 hbwi hc
                      go_wp2_with fail
                      exact ⟨⟨m + 1, by omega, by omega, by rw [HW3.out], by rw [HQ2.out]; exact hba, hbe⟩, by have := HF.out; simp [intOf]; omega⟩
                    · have hv : q2 = (qa, qb, qc) := by rw [HS2, if_neg (fun h => hc ⟨h.1, by omega⟩)]
                      have HW3 : Hid ((a : Int) - 1 - ((m + 1 : Nat) : Int) = (f : Int) - 1) := by show _ = _; omega
                      rw [hv] at HQ2
                      clear HS2 hq hff hv hmk hbi hbwi
                      rcases (show ¬ (3 : Int) ≤ k ∨ ((3 : Int) ≤ k ∧ ¬ qa < (k : Int)) by omega) with l1 | ⟨l1, l2⟩
                      · go_wp2_with fail
                        exact ⟨⟨m + 1, by omega, by omega, by rw [HW3.out], by rw [HQ2.out]; exact hbi2, hbd⟩, by have := HF.out; simp [intOf]; omega⟩
                      · go_wp2_with fail
                        exact ⟨⟨m + 1, by omega, by omega, by rw [HW3.out], by rw [HQ2.out]; exact hbi2, hbd⟩, by have := HF.out; simp [intOf]; omega⟩
                · have d2 : decide ((k : Int) < 66) = false := decide_eq_false (by omega)
                  have j0 : (a : Int) + k < b.length := by omega
                  clear hcr
                  go_wp2
                  go_quiet (fail)
                  have hmk : matchN b f a = k := match_end hfa HK.out hk66 hkl (.inr (.inl c2))
                  have HS2 := HS'.out
                  rw [hmk] at HS2
                  have hq := HQ1.out
                  have hff := HF.out
                  have hbd := below_drewN' hbwi nq
                  have hbi2 : BestAt (wi.drewN nq) wo.heap.size (qa, qb, qc) := hbi
                  obtain ⟨x0, x1, x2, fz0, fz1, fz2⟩ := box_three hbi2
                  dsimp only at x0 x1 x2
                  clear HK
                  by_cases hc : 3 ≤ k ∧ qa < (k : Int)
                  · have hv : q2 = ((k : Int), (m : Int) + 1, 0) := by rw [HS2, if_pos ⟨hc.1, by omega⟩]
                    have l1 : (3 : Int) ≤ k := by omega
                    have l2 := hc.2
                    have hba : BestAt ((((wi.drewN nq).setCell ⟨wo.heap.size, 0, none⟩ (.int .i64 k)).setCell ⟨wo.heap.size, 1, none⟩ (.int .i64 ((a : Int) - f))).setCell ⟨wo.heap.size, 2, none⟩ (.int .u8 0)) wo.heap.size q2 := by
                      rw [hv, show (m : Int) + 1 = (a : Int) - f by omega]
                      exact box3_set hbi2
                    have hbe := ((hbd.setCell (p := ⟨wo.heap.size, 0, none⟩) (Nat.le_refl _) (.int .i64 k)).setCell (p := ⟨wo.heap.size, 1, none⟩) (Nat.le_refl _) (.int .i64 ((a : Int) - f))).setCell (p := ⟨wo.heap.size, 2, none⟩) (Nat.le_refl _) (.int .u8 0)
                    have HW3 : Hid ((a : Int) - 1 - ((m + 1 : Nat) : Int) = (f : Int) - 1) := by show _ = _; omega
                    clear HS2 hq hff hv hmk hbi hbi2 hbwi hc
                    go_wp2_with fail
                    exact ⟨⟨m + 1, by omega, by omega, by rw [HW3.out], by rw [HQ2.out]; exact hba, hbe⟩, by have := HF.out; simp [intOf]; omega⟩
                  · have hv : q2 = (qa, qb, qc) := by rw [HS2, if_neg (fun h => hc ⟨h.1, by omega⟩)]
                    have HW3 : Hid ((a : Int) - 1 - ((m + 1 : Nat) : Int) = (f : Int) - 1) := by show _ = _; omega
                    rw [hv] at HQ2
                    clear HS2 hq hff hv hmk hbi hbwi
                    rcases (show ¬ (3 : Int) ≤ k ∨ ((3 : Int) ≤ k ∧ ¬ qa < (k : Int)) by omega) with l1 | ⟨l1, l2⟩
                    · go_wp2_with fail
                      exact ⟨⟨m + 1, by omega, by omega, by rw [HW3.out], by rw [HQ2.out]; exact hbi2, hbd⟩, by have := HF.out; simp [intOf]; omega⟩
                    · go_wp2_with fail
                      exact ⟨⟨m + 1, by omega, by omega, by rw [HW3.out], by rw [HQ2.out]; exact hbi2, hbd⟩, by have := HF.out; simp [intOf]; omega⟩
              · have d1 : decide ((a : Int) + k < b.length) = false := decide_eq_false (by omega)
                clear hcr
                go_wp2
                go_quiet (fail)
                have hmk : matchN b f a = k := match_end hfa HK.out hk66 hkl (.inl c1)
                have HS2 := HS'.out
                rw [hmk] at HS2
                have hq := HQ1.out
                have hff := HF.out
                have hbd := below_drewN' hbwi nq
                have hbi2 : BestAt (wi.drewN nq) wo.heap.size (qa, qb, qc) := hbi
                obtain ⟨x0, x1, x2, fz0, fz1, fz2⟩ := box_three hbi2
                dsimp only at x0 x1 x2
                clear HK
                by_cases hc : 3 ≤ k ∧ qa < (k : Int)
                · have hv : q2 = ((k : Int), (m : Int) + 1, 0) := by rw [HS2, if_pos ⟨hc.1, by omega⟩]
                  have l1 : (3 : Int) ≤ k := by omega
                  have l2 := hc.2
                  have hba : BestAt ((((wi.drewN nq).setCell ⟨wo.heap.size, 0, none⟩ (.int .i64 k)).setCell ⟨wo.heap.size, 1, none⟩ (.int .i64 ((a : Int) - f))).setCell ⟨wo.heap.size, 2, none⟩ (.int .u8 0)) wo.heap.size q2 := by
                    rw [hv, show (m : Int) + 1 = (a : Int) - f by omega]
                    exact box3_set hbi2
                  have hbe := ((hbd.setCell (p := ⟨wo.heap.size, 0, none⟩) (Nat.le_refl _) (.int .i64 k)).setCell (p := ⟨wo.heap.size, 1, none⟩) (Nat.le_refl _) (.int .i64 ((a : Int) - f))).setCell (p := ⟨wo.heap.size, 2, none⟩) (Nat.le_refl _) (.int .u8 0)
                  have HW3 : Hid ((a : Int) - 1 - ((m + 1 : Nat) : Int) = (f : Int) - 1) := by show _ = _; omega
                  clear HS2 hq hff hv hmk hbi hbi2 hbwi hc
                  go_wp2_with fail
                  exact ⟨⟨m + 1, by omega, by omega, by rw [HW3.out], by rw [HQ2.out]; exact hba, hbe⟩, by have := HF.out; simp [intOf]; omega⟩
                · have hv : q2 = (qa, qb, qc) := by rw [HS2, if_neg (fun h => hc ⟨h.1, by omega⟩)]
                  have HW3 : Hid ((a : Int) - 1 - ((m + 1 : Nat) : Int) = (f : Int) - 1) := by show _ = _; omega
                  rw [hv] at HQ2
                  clear HS2 hq hff hv hmk hbi hbwi
                  rcases (show ¬ (3 : Int) ≤ k ∨ ((3 : Int) ≤ k ∧ ¬ qa < (k : Int)) by omega) with l1 | ⟨l1, l2⟩
                  · go_wp2_with fail
                    exact ⟨⟨m + 1, by omega, by omega, by rw [HW3.out], by rw [HQ2.out]; exact hbi2, hbd⟩, by have := HF.out; simp [intOf]; omega⟩
                  · go_wp2_with fail
                    exact ⟨⟨m + 1, by omega, by omega, by rw [HW3.out], by rw [HQ2.out]; exact hbi2, hbd⟩, by have := HF.out; simp [intOf]; omega⟩
          · have hmin : m = min a 1024 := by omega
            have HB : Hid (bestV b a (bestTo b a m) = bestV b a (bestL b a)) := by show _ = _; rw [hmin]; rfl
            rw [HB.out] at hbm
            obtain ⟨n1, hn1, hn2, htk, hcase⟩ := tok_next hlt
            have hql := bestV_len b a (bestL b a)
            obtain ⟨q, HQ⟩ : ∃ q, Hid (bestV b a (bestL b a) = q) := ⟨_, rfl⟩
            rw [HQ.out] at hbm htk hql
            obtain ⟨qa, qb, qc⟩ := q
            dsimp only at htk hql
            have HT : Hid (tokFrom b a = ⟨qa, qb, qc⟩ :: tokFrom b (a + n1)) := htk
            have hstop : ¬ 0 ≤ (a : Int) - 1 - m ∨ (0 ≤ (a : Int) - 1 - m ∧ ¬ (a : Int) - ((a : Int) - 1 - m) ≤ 1024) := by omega
            have hqa : (qa = 0 ∧ n1 = 1) ∨ (qa ≠ 0 ∧ (n1 : Int) = qa) := by omega
            obtain ⟨x0, x1, x2, fz0, fz1, fz2⟩ := box_three hbm
            dsimp only at x0 x1 x2
            have bX := hbr.trans (hbw.mono hsr)
            have hrowX : wm.ownsRow w.heap.size 165 3 (.slice va done.length vc) done.length (tokCs done) := hrow.kept (w' := wm) (row := none) ⟨hbw.os, hbw.tape, hbw.output, hbw.size, fun k hk _ => hbw.block k hk⟩ (by cases (Value.slice va done.length vc).ownBlock <;> simp)
            clear hcr htk hcase hmm hmin HB hql
            have hnew : ∀ j u, (tokC ⟨qa, qb, qc⟩)[j]? = some u → (wm.alloc (.cells #[.int .i64 qa, .int .i64 qb, .int .u8 qc] 165)).cell? ((⟨wm.heap.size, 0, none⟩ : Addr).add j) = some u := lit_three wm qa qb qc 165
            have hone1 := tokCs_one [⟨qa, qb, qc⟩]
            rw [show tokCs [⟨qa, qb, qc⟩] = tokC ⟨qa, qb, qc⟩ by simp [tokCs]] at hone1
            have hsA : w.heap.size ≤ (wm.alloc (.cells #[.int .i64 qa, .int .i64 qb, .int .u8 qc] 165)).heap.size := by have := bX.size; simp; omega
            have bXA : Below w.heap.size w (wm.alloc (.cells #[.int .i64 qa, .int .i64 qb, .int .u8 qc] 165)) := bX.alloc bX.size _
            have kept7 : ∀ w7, (wm.alloc (.cells #[.int .i64 qa, .int .i64 qb, .int .u8 qc] 165)).grownBy w7 (Value.slice va done.length vc).ownBlock → w7.heap[wo.heap.size]? = some (.cells #[.int .i64 qa, .int .i64 qb, .int .u8 qc] 165 (0, 0)) := fun w7 hg7 => by
              have hold := box_old wm (.cells #[.int .i64 qa, .int .i64 qb, .int .u8 qc] 165) hbm
              rw [hg7.block wo.heap.size (lt_heap hold) (fun h => by have := own3_lt hrow h.symm; omega)]
              exact hold
            rcases hqa with ⟨rfl, rfl⟩ | ⟨h1, h2⟩
            · rcases hstop with l1 | ⟨l1, l2⟩
              · go_wp2_with (at_builtin; refine wpList_append_own _ rfl (.tmp 73) (.tmp 75) 148 rfl w.heap.size 165 i0 _ 3 24 Tryz.underlying148 hi0 hz0 hz1 hz2 rfl (by decide) _ _ _ rfl (hrowX.alloc _) ⟨wm.heap.size, 0, none⟩ 1 1 (tokC ⟨0, qb, qc⟩) rfl rfl hnew hone1 (by unfold maxLen; omega) (by omega) hsA ?_; intro v7 w7 ho7 hg7 _; obtain ⟨ta, tc, rfl⟩ := own3_form ho7; have hx7 := kept7 w7 hg7; obtain ⟨x70, x71, x72, -, -, -⟩ := box_three hx7)
                have b7 : Below w.heap.size w w7 := bXA.grown hg7 hsA (fun _ h => own3_block hrowX h)
                have HD2 : Hid ((done ++ [⟨0, qb, qc⟩]) ++ tokFrom b (a + 1) = tokensL b) := by
                  show _ = _
                  rw [List.append_assoc, List.singleton_append, ← HT.out]
                  exact HD.out
                have ho8 : w7.ownsRow w.heap.size 165 3 (.slice ta (done ++ [(⟨0, qb, qc⟩ : Tok)]).length tc) (done ++ [(⟨0, qb, qc⟩ : Tok)]).length (tokCs (done ++ [⟨0, qb, qc⟩])) := by
                  rw [List.length_append, List.length_singleton, tokCs_append, show tokCs [⟨0, qb, qc⟩] = tokC ⟨0, qb, qc⟩ by simp [tokCs]]
                  exact ho7
                exact ⟨⟨a + 1, done ++ [⟨0, qb, qc⟩], by omega, by rfl, HD2, by rw [List.length_append, List.length_singleton]; omega, ⟨ta, tc, by rw [List.length_append, List.length_singleton], ho8⟩, b7⟩, by simp [intOf]; omega⟩
              · go_wp2_with (at_builtin; refine wpList_append_own _ rfl (.tmp 73) (.tmp 75) 148 rfl w.heap.size 165 i0 _ 3 24 Tryz.underlying148 hi0 hz0 hz1 hz2 rfl (by decide) _ _ _ rfl (hrowX.alloc _) ⟨wm.heap.size, 0, none⟩ 1 1 (tokC ⟨0, qb, qc⟩) rfl rfl hnew hone1 (by unfold maxLen; omega) (by omega) hsA ?_; intro v7 w7 ho7 hg7 _; obtain ⟨ta, tc, rfl⟩ := own3_form ho7; have hx7 := kept7 w7 hg7; obtain ⟨x70, x71, x72, -, -, -⟩ := box_three hx7)
                have b7 : Below w.heap.size w w7 := bXA.grown hg7 hsA (fun _ h => own3_block hrowX h)
                have HD2 : Hid ((done ++ [⟨0, qb, qc⟩]) ++ tokFrom b (a + 1) = tokensL b) := by
                  show _ = _
                  rw [List.append_assoc, List.singleton_append, ← HT.out]
                  exact HD.out
                have ho8 : w7.ownsRow w.heap.size 165 3 (.slice ta (done ++ [(⟨0, qb, qc⟩ : Tok)]).length tc) (done ++ [(⟨0, qb, qc⟩ : Tok)]).length (tokCs (done ++ [⟨0, qb, qc⟩])) := by
                  rw [List.length_append, List.length_singleton, tokCs_append, show tokCs [⟨0, qb, qc⟩] = tokC ⟨0, qb, qc⟩ by simp [tokCs]]
                  exact ho7
                exact ⟨⟨a + 1, done ++ [⟨0, qb, qc⟩], by omega, by rfl, HD2, by rw [List.length_append, List.length_singleton]; omega, ⟨ta, tc, by rw [List.length_append, List.length_singleton], ho8⟩, b7⟩, by simp [intOf]; omega⟩
            · have i3 : (qa == 0) = false := by simpa using h1
              rcases hstop with l1 | ⟨l1, l2⟩
              · go_wp2_with (at_builtin; refine wpList_append_own _ rfl (.tmp 73) (.tmp 75) 148 rfl w.heap.size 165 i0 _ 3 24 Tryz.underlying148 hi0 hz0 hz1 hz2 rfl (by decide) _ _ _ rfl (hrowX.alloc _) ⟨wm.heap.size, 0, none⟩ 1 1 (tokC ⟨qa, qb, qc⟩) rfl rfl hnew hone1 (by unfold maxLen; omega) (by omega) hsA ?_; intro v7 w7 ho7 hg7 _; obtain ⟨ta, tc, rfl⟩ := own3_form ho7; have hx7 := kept7 w7 hg7; obtain ⟨x70, x71, x72, -, -, -⟩ := box_three hx7)
                have b7 : Below w.heap.size w w7 := bXA.grown hg7 hsA (fun _ h => own3_block hrowX h)
                have HD2 : Hid ((done ++ [⟨qa, qb, qc⟩]) ++ tokFrom b (a + n1) = tokensL b) := by
                  show _ = _
                  rw [List.append_assoc, List.singleton_append, ← HT.out]
                  exact HD.out
                have ho8 : w7.ownsRow w.heap.size 165 3 (.slice ta (done ++ [(⟨qa, qb, qc⟩ : Tok)]).length tc) (done ++ [(⟨qa, qb, qc⟩ : Tok)]).length (tokCs (done ++ [⟨qa, qb, qc⟩])) := by
                  rw [List.length_append, List.length_singleton, tokCs_append, show tokCs [⟨qa, qb, qc⟩] = tokC ⟨qa, qb, qc⟩ by simp [tokCs]]
                  exact ho7
                exact ⟨⟨a + n1, done ++ [⟨qa, qb, qc⟩], by omega, by (rw [← h2]; rfl), HD2, by rw [List.length_append, List.length_singleton]; omega, ⟨ta, tc, by rw [List.length_append, List.length_singleton], ho8⟩, b7⟩, by simp [intOf]; omega⟩
              · go_wp2_with (at_builtin; refine wpList_append_own _ rfl (.tmp 73) (.tmp 75) 148 rfl w.heap.size 165 i0 _ 3 24 Tryz.underlying148 hi0 hz0 hz1 hz2 rfl (by decide) _ _ _ rfl (hrowX.alloc _) ⟨wm.heap.size, 0, none⟩ 1 1 (tokC ⟨qa, qb, qc⟩) rfl rfl hnew hone1 (by unfold maxLen; omega) (by omega) hsA ?_; intro v7 w7 ho7 hg7 _; obtain ⟨ta, tc, rfl⟩ := own3_form ho7; have hx7 := kept7 w7 hg7; obtain ⟨x70, x71, x72, -, -, -⟩ := box_three hx7)
                have b7 : Below w.heap.size w w7 := bXA.grown hg7 hsA (fun _ h => own3_block hrowX h)
                have HD2 : Hid ((done ++ [⟨qa, qb, qc⟩]) ++ tokFrom b (a + n1) = tokensL b) := by
                  show _ = _
                  rw [List.append_assoc, List.singleton_append, ← HT.out]
                  exact HD.out
                have ho8 : w7.ownsRow w.heap.size 165 3 (.slice ta (done ++ [(⟨qa, qb, qc⟩ : Tok)]).length tc) (done ++ [(⟨qa, qb, qc⟩ : Tok)]).length (tokCs (done ++ [⟨qa, qb, qc⟩])) := by
                  rw [List.length_append, List.length_singleton, tokCs_append, show tokCs [⟨qa, qb, qc⟩] = tokC ⟨qa, qb, qc⟩ by simp [tokCs]]
                  exact ho7
                exact ⟨⟨a + n1, done ++ [⟨qa, qb, qc⟩], by omega, by (rw [← h2]; rfl), HD2, by rw [List.length_append, List.length_singleton]; omega, ⟨ta, tc, by rw [List.length_append, List.length_singleton], ho8⟩, b7⟩, by simp [intOf]; omega⟩
      · obtain rfl : a = b.length := by omega
        have HDe : Hid (done = tokensL b) := by
          have := HD.out
          rw [tokFrom_end (by omega), List.append_nil] at this
          exact this
        have hT' : ToksAt wo (.slice va done.length vc) (tokensL b) := by
          have h0 := toksAt_own hrow
          rw [← HDe.out]
          exact h0
        clear hcell hrow
        go_wp2_with fail
        exact bodyPost_ret (v := .tuple #[.slice va done.length vc, .int .i64 0]) (by simp [results, Tryz.results103, go_sem]) rfl ⟨_, rfl, hT', hbr⟩

end Go.Proofs.YtkjlchfmplcobaeGreatDoor

/- The walks of package pack's small functions: width, alike, longest, tokenAt. -/
namespace Go.Proofs.YtkjlchfmplcobaeGreatDoor
open Go.RowKit

@[reducible] def tokV (t : Tok) : Value := .agg #[.int .i64 t.len, .int .i64 t.back, .int .u8 t.byte]
def widI (t : Tok) : Int := if t.len = 0 then 1 else t.len
set_option maxRecDepth 100000 in
set_option maxHeartbeats 1000000 in
theorem width_any (x y z : Int) (w : World) :
    Calls Tryz.prog 131 #[.agg #[.int .i64 x, .int .i64 y, .int .u8 z]] w fun e w' => e = .returned (.int .i64 (widI ⟨x, y, z⟩)) ∧ Below w.heap.size w w' := by
  obtain ⟨x0, x1, x2, -, -, -⟩ := box_three (box_new w #[.int .i64 x, .int .i64 y, .int .u8 z] 165)
  have bW : Below w.heap.size w (w.alloc (.cells #[.int .i64 x, .int .i64 y, .int .u8 z] 165)) := (Below.refl _ _).alloc (Nat.le_refl _) _
  by_cases hx : x = 0
  · subst hx
    go_enter Tryz.func131, Tryz.ntmps131
    go_wp2_with fail
    go_ret
    exact ⟨rfl, bW⟩
  · have hx' : (x == 0) = false := by simpa using hx
    have hw : widI ⟨x, y, z⟩ = x := by unfold widI; rw [if_neg hx]
    rw [hw]
    clear hw
    go_enter Tryz.func131, Tryz.ntmps131
    go_wp2_with fail
    go_ret
    exact ⟨rfl, bW⟩
set_option maxRecDepth 100000 in
set_option maxHeartbeats 4000000 in
theorem alike_any (b : List Int) (g o bc a f : Nat) (w : World) (hg : g < w.heap.size) (hcell : ∀ j, j < b.length → w.cell? ⟨g, o + j, none⟩ = some (.int .u8 (b.getD j 0))) (hbl : b.length ≤ 4000) (ha : a < b.length) (hf1 : 1 ≤ f) (hfa : f ≤ a) :
    Calls Tryz.prog 149 #[.slice (some ⟨g, o, none⟩) b.length bc, .int .i64 a, .int .i64 f] w fun e w' => e = .returned (.int .i64 (matchN b (a - f) a)) ∧ Below w.heap.size w w' := by
  obtain ⟨M, hM⟩ : ∃ M : Nat, M = min (b.length - a) 66 := ⟨_, rfl⟩
  obtain ⟨p, hp⟩ : ∃ p : Nat, p = a - f := ⟨_, rfl⟩
  rw [← hp]
  have hpi : (p : Int) = a - f := by omega
  have hpa : p < a := by omega
  have HP : Hid ((p : Int) = a - f) := hpi
  clear hp hpi
  rcases (show (66 : Int) < (b.length : Int) - a ∨ ¬ (66 : Int) < (b.length : Int) - a by omega) with h66 | h66
  all_goals
    go_enter Tryz.func149, Tryz.ntmps149
    go_wp2_with fail
    go_loopw [8] (fun nv wi => ∃ k : Nat, k ≤ M ∧ nv = .int .i64 k ∧ Hid (∀ j, j < k → b.getD (p + j) 0 = b.getD (a + j) 0) ∧ Below w.heap.size w wi) (fun nv _ => M - (intOf nv).toNat)
    case atStart => exact ⟨0, Nat.zero_le _, rfl, fun j hj => absurd hj (Nat.not_lt_zero _), Below.refl _ _⟩
    case round =>
      obtain ⟨wi, rfl⟩ : ∃ x, x = wr := ⟨wr, rfl⟩
      obtain ⟨k, hkM, rfl, HK, hbi⟩ := hrel
      have w1 : IntKind.i64.wrap ((a : Int) + k) = (a : Int) + k := by rw [IntKind.wrap_i64]; omega
      have w2 : IntKind.i64.wrap ((a : Int) + k - f) = (p : Int) + k := by have := HP.out; rw [IntKind.wrap_i64]; omega
      by_cases c1 : k < M
      · have e1 := (hbi.cell (p := ⟨g, o + (p + k), none⟩) hg).trans (hcell (p + k) (by omega))
        have e2 := (hbi.cell (p := ⟨g, o + (a + k), none⟩) hg).trans (hcell (a + k) (by omega))
        rw [show o + (p + k) = o + ((p : Int) + k).toNat by omega] at e1
        rw [show o + (a + k) = o + ((a : Int) + k).toNat by omega] at e2
        have j0 : (a : Int) + k < b.length := by omega
        have j1 : (p : Int) + k < b.length := by omega
        have j2 : (k : Int) < 66 := by omega
        have j2' : (k : Int) < (b.length : Int) - a := by omega
        have j3 : 0 ≤ (p : Int) + k := by omega
        have j4 : 0 ≤ (a : Int) + k := by omega
        by_cases c3 : b.getD (p + k) 0 = b.getD (a + k) 0
        · have HK2 : Hid (∀ j, j < k + 1 → b.getD (p + j) 0 = b.getD (a + j) 0) := fun j hj => by
            by_cases hjk : j = k
            · rw [hjk]; exact c3
            · exact HK.out j (by omega)
          rw [c3] at e1
          clear c3 HK hcell
          generalize b.getD (a + k) 0 = y at *
          go_wp2
          go_quiet (fail)
          go_wp2
          exact ⟨⟨k + 1, by omega, by go_num, HK2, below_drewN' hbi nq⟩, by simp [intOf]; omega⟩
        · have d3 : (b.getD (p + k) 0 == b.getD (a + k) 0) = false := by simpa using c3
          have HC3 : Hid (matchN b p a = k) := match_end (by omega) HK.out (by omega) (by omega) (.inr (.inr c3))
          clear c3 HK
          obtain ⟨y1, Hy1⟩ : ∃ y, Hid (b.getD (p + k) 0 = y) := ⟨_, rfl⟩
          obtain ⟨y2, Hy2⟩ : ∃ y, Hid (b.getD (a + k) 0 = y) := ⟨_, rfl⟩
          rw [Hy1.out] at d3 e1
          rw [Hy2.out] at d3 e2
          have d4 : decide (y1 = y2) = false := decide_eq_false (by simpa using d3)
          clear hcell
          go_wp2
          go_quiet (fail)
          go_wp2
          go_ret
          exact ⟨by rw [HC3.out]; rfl, below_drewN' hbi nq⟩
      · have HC3 : Hid (matchN b p a = k) := match_end (by omega) HK.out (by omega) (by omega) (by omega)
        have hd : ((66 : Int) < (b.length : Int) - a → decide ((k : Int) < 66) = false) ∧ (¬ (66 : Int) < (b.length : Int) - a → decide ((k : Int) < (b.length : Int) - a) = false) := ⟨fun _ => decide_eq_false (by omega), fun _ => decide_eq_false (by omega)⟩
        clear HK hcell
        have d2 := hd
        first
          | replace d2 := hd.1 h66
          | replace d2 := hd.2 (by omega)
        clear hd
        go_wp2
        go_quiet (fail)
        go_wp2
        go_ret
        exact ⟨by rw [HC3.out]; rfl, below_drewN' hbi nq⟩

end Go.Proofs.YtkjlchfmplcobaeGreatDoor

/- The walks of readPair and readToken: package pack as it landed. -/
namespace Go.Proofs.YtkjlchfmplcobaeGreatDoor
open Go.RowKit

theorem pair_or {x y : Int} (hx0 : 0 ≤ x) (hx : x < 256) (hy0 : 0 ≤ y) (hy : y < 256) : bits .or .i64 (x * 256) y = 256 * x + y := by
  have h := bits_join .i64 16 (by decide) (fun n h0 h1 => by rw [IntKind.wrap_i64]; omega) 8 (x * 256) y (by omega) (by omega) (by omega) hy0 (by omega) (by omega)
  rw [h]; omega
set_option maxRecDepth 100000 in
set_option maxHeartbeats 2000000 in
theorem readPair_any (b : List Int) (hby : Bytes b) (g o a n c : Nat) (w : World) (hcell : ∀ j, j < b.length → w.cell? ⟨g, o + j, none⟩ = some (.int .u8 (b.getD j 0))) (hn : n = b.length - a) (h2 : a + 1 < b.length) :
    Calls Tryz.prog 118 #[.slice (some ⟨g, o + a, none⟩) n c] w fun e w' => e = .returned (.int .i64 (256 * b.getD a 0 + b.getD (a + 1) 0)) ∧ Below w.heap.size w w' := by
  have e1 := hcell a (by omega)
  have e2 := hcell (a + 1) h2
  rw [← Nat.add_assoc] at e2
  have hx := hby a
  have hy := hby (a + 1)
  have j1 : (0 : Int) < n := by omega
  have j2 : (1 : Int) < n := by omega
  have j1' : 0 < n := by omega
  have j2' : 1 < n := by omega
  generalize b.getD a 0 = x at *
  generalize b.getD (a + 1) 0 = y at *
  have HO : Hid (bits .or .i64 (x * 256) y = 256 * x + y) := pair_or hx.1 hx.2 hy.1 hy.2
  obtain ⟨hx0, hx1⟩ := hx
  obtain ⟨hy0, hy1⟩ := hy
  clear hcell hby hn
  go_enter Tryz.func118, Tryz.ntmps118
  go_wp2
  go_quiet (fail)
  go_wp2
  go_ret
  exact ⟨by rw [← HO.out]; rfl, below_drewN' (Below.refl _ _) nq⟩
theorem and_one : ∀ f : Fin 256, bits BinOp.and IntKind.u8 (f.val : Int) 1 = ((f.val % 2 : Nat) : Int) := by decide +kernel
/-- What is left of b, from a on. -/
def RestAt (v : Value) (b : List Int) (g o a : Nat) : Prop := ∃ A c, v = .slice A (b.length - a) c ∧ b.length - a ≤ c ∧ (A = some ⟨g, o + a, none⟩ ∨ b.length - a = 0)
def tokRes (b : List Int) (g o : Nat) (r : Option (Tok × Nat)) (v : Value) : Prop :=
  match r with
  | none => v = .tuple #[.agg #[.int .i64 0, .int .i64 0, .int .u8 0], .slice none 0 0, .bool false]
  | some (t, a2) => ∃ rv, v = .tuple #[tokV t, rv, .bool true] ∧ RestAt rv b g o a2
set_option maxRecDepth 100000 in
set_option maxHeartbeats 4000000 in
theorem readToken_any (b : List Int) (hby : Bytes b) (g o a f : Nat) (rv : Value) (w : World) (hg : b.length - a = 0 ∨ g < w.heap.size) (hcell : ∀ j, j < b.length → w.cell? ⟨g, o + j, none⟩ = some (.int .u8 (b.getD j 0))) (hr : RestAt rv b g o a) :
    Calls Tryz.prog 130 #[rv, .bool (decide (f % 2 ≠ 0))] w fun e w' => ∃ v, e = .returned v ∧ tokRes b g o (unTok b a f) v ∧ Below w.heap.size w w' := by
  obtain ⟨A, c, rfl, hrc, hA⟩ := hr
  have b0 : Below w.heap.size w (w.alloc (.cells #[.int .i64 0, .int .i64 0, .int .u8 0] 165)) := (Below.refl _ _).alloc (Nat.le_refl _) _
  have hx := box_new w #[.int .i64 0, .int .i64 0, .int .u8 0] 165
  obtain ⟨x0, x1, x2, fz0, fz1, fz2⟩ := box_three hx
  by_cases hf : f % 2 = 0
  · rw [show decide (f % 2 ≠ 0) = false from decide_eq_false (fun h => h hf)]
    by_cases ha : a < b.length
    · have hu : unTok b a f = some (⟨0, 0, b.getD a 0⟩, a + 1) := by rw [unTok, if_pos hf, if_pos ha]
      rw [hu]
      obtain rfl : A = some ⟨g, o + a, none⟩ := hA.resolve_right (by omega)
      have hg' := hg.resolve_left (by omega)
      have e1 := (b0.cell (p := ⟨g, o + a, none⟩) hg').trans (hcell a ha)
      generalize b.getD a 0 = y at *
      obtain ⟨n, hn⟩ : ∃ n, n = b.length - a := ⟨_, rfl⟩
      have HN : Hid (n = b.length - a) := hn
      have hnc : n ≤ c := by omega
      have j1 : (0 : Int) < n := by omega
      have j1' : 0 < n := by omega
      have j2 : (1 : Int) ≤ n := by omega
      have j3 : (1 : Int) ≤ c := by omega
      have hne : ¬ (n : Int) = 0 := by omega
      rw [← hn]
      clear hcell hby hg hu hrc hn hx b0 hA
      have bY : Below w.heap.size w (w.alloc (.cells #[.int .i64 0, .int .i64 0, .int .u8 y] 165)).drew := ((Below.refl _ _).alloc (Nat.le_refl _) _).drew
      by_cases hc : c = 1
      · subst hc
        obtain rfl : n = 1 := by omega
        have HR : Hid (RestAt (.slice (some ⟨g, o + a, none⟩) 0 0) b g o (a + 1)) := by
          have := HN.out
          exact ⟨_, 0, by rw [show b.length - (a + 1) = 0 by omega], by omega, .inr (by omega)⟩
        go_enter Tryz.func130, Tryz.ntmps130
        go_wp2
        go_region
        all_goals
          go_wp2
          exact bodyPost_ret (v := .tuple #[.agg #[.int .i64 0, .int .i64 0, .int .u8 y], .slice (some ⟨g, o + a, none⟩) 0 0, .bool true]) (by simp [results, Tryz.results130, go_sem]) rfl ⟨_, rfl, ⟨_, rfl, HR.out⟩, bY⟩
      · have HR : Hid (RestAt (.slice (some ⟨g, o + a + 1, none⟩) (n - 1) (c - 1)) b g o (a + 1)) := by
          have := HN.out
          exact ⟨some ⟨g, o + (a + 1), none⟩, c - 1, by rw [show b.length - (a + 1) = n - 1 by omega]; rfl, by omega, .inl rfl⟩
        go_enter Tryz.func130, Tryz.ntmps130
        go_wp2
        go_region
        all_goals
          go_wp2
          exact bodyPost_ret (v := .tuple #[.agg #[.int .i64 0, .int .i64 0, .int .u8 y], .slice (some ⟨g, o + a + 1, none⟩) (n - 1) (c - 1), .bool true]) (by simp [results, Tryz.results130, go_sem]) rfl ⟨_, rfl, ⟨_, rfl, HR.out⟩, bY⟩
    · have hu : unTok b a f = none := by rw [unTok, if_pos hf, if_neg ha]
      rw [hu]
      obtain ⟨n, hn⟩ : ∃ n, n = b.length - a := ⟨_, rfl⟩
      rw [← hn]
      obtain rfl : n = 0 := by omega
      clear hcell hby hg hu hrc hn hA
      go_enter Tryz.func130, Tryz.ntmps130
      go_wp2
      exact bodyPost_ret (v := .tuple #[.agg #[.int .i64 0, .int .i64 0, .int .u8 0], .slice none 0 0, .bool false]) (by simp [results, Tryz.results130, go_sem]) rfl ⟨_, rfl, rfl, b0⟩
  · rw [show decide (f % 2 ≠ 0) = true from decide_eq_true hf]
    by_cases ha : a + 1 < b.length
    · obtain ⟨X, hX⟩ : ∃ X : Nat, (X : Int) = 256 * b.getD a 0 + b.getD (a + 1) 0 := ⟨(256 * b.getD a 0 + b.getD (a + 1) 0).toNat, by have := hby a; have := hby (a + 1); omega⟩
      have hu : unTok b a f = some (⟨(X : Int) / 1024 + 3, (X : Int) % 1024 + 1, 0⟩, a + 2) := by rw [unTok, if_neg hf, if_pos ha, ← hX, Int.toNat_natCast, show ((X / 1024 + 3 : Nat) : Int) = (X : Int) / 1024 + 3 by omega, show ((X % 1024 + 1 : Nat) : Int) = (X : Int) % 1024 + 1 by omega]
      rw [hu]
      have hX6 : X < 65536 := by have := hby a; have := hby (a + 1); omega
      obtain rfl : A = some ⟨g, o + a, none⟩ := hA.resolve_right (by omega)
      have hg' := hg.resolve_left (by omega)
      have hP := readPair_any b hby g o a (b.length - a) c (w.alloc (.cells #[.int .i64 0, .int .i64 0, .int .u8 0] 165)) (fun j hj => (b0.cell (p := ⟨g, o + j, none⟩) hg').trans (hcell j hj)) rfl ha
      rw [← hX] at hP
      obtain ⟨n, hn⟩ : ∃ n, n = b.length - a := ⟨_, rfl⟩
      have HN : Hid (n = b.length - a) := hn
      have hnc : n ≤ c := by omega
      have j1 : ¬ (n : Int) < 2 := by omega
      have j2 : (2 : Int) ≤ n := by omega
      have j3 : (2 : Int) ≤ c := by omega
      rw [← hn]
      rw [← hn] at hP
      clear hcell hby hg hu hrc hn hX
      rcases (show (c = 2 ∧ n = 2) ∨ ¬ c = 2 by omega) with ⟨rfl, rfl⟩ | hc
      · have HR : Hid (RestAt (.slice (some ⟨g, o + a, none⟩) 0 0) b g o (a + 2)) := by
          have := HN.out
          exact ⟨_, 0, by rw [show b.length - (a + 2) = 0 by omega], by omega, .inr (by omega)⟩
        go_enter Tryz.func130, Tryz.ntmps130
        go_wp2_with fail
        refine hP.mono ?_
        rintro r w1 ⟨rfl, hb1⟩
        have hx1 := box_kept hx hb1
        have b1 := b0.trans (hb1.mono b0.size)
        obtain ⟨y0, y1, y2, gz0, gz1, gz2⟩ := box_three hx1
        obtain ⟨q0, q1, q2, -, -, -⟩ := box_three (box3_set (u' := .int .i64 ((X : Int) / 1024 + 3)) (v' := .int .i64 ((X : Int) % 1024 + 1)) (x' := .int .u8 0) hx1)
        have bY := (((b1.setCell (p := ⟨w.heap.size, 0, none⟩) (Nat.le_refl _) (.int .i64 ((X : Int) / 1024 + 3))).setCell (p := ⟨w.heap.size, 1, none⟩) (Nat.le_refl _) (.int .i64 ((X : Int) % 1024 + 1))).setCell (p := ⟨w.heap.size, 2, none⟩) (Nat.le_refl _) (.int .u8 0)).drew
        have z0 := World.cell?_setCell_same' w1 ⟨w.heap.size, 0, none⟩ (.int .i64 ((X : Int) / 1024 + 3)) (by rw [y0]; rfl)
        clear hP hb1 hx x0 x1 x2 fz0 fz1 fz2 hx1
        go_wp2_with fail
        go_region
        all_goals
          go_wp2_with fail
          exact bodyPost_ret (v := .tuple #[.agg #[.int .i64 ((X : Int) / 1024 + 3), .int .i64 ((X : Int) % 1024 + 1), .int .u8 0], .slice (some ⟨g, o + a, none⟩) 0 0, .bool true]) (by simp [results, Tryz.results130, go_sem, q0, q1, q2]) rfl ⟨_, rfl, ⟨_, rfl, HR.out⟩, bY⟩
      · have HR : Hid (RestAt (.slice (some ⟨g, o + a + 2, none⟩) (n - 2) (c - 2)) b g o (a + 2)) := by
          have := HN.out
          exact ⟨some ⟨g, o + (a + 2), none⟩, c - 2, by rw [show b.length - (a + 2) = n - 2 by omega]; rfl, by omega, .inl rfl⟩
        go_enter Tryz.func130, Tryz.ntmps130
        go_wp2_with fail
        refine hP.mono ?_
        rintro r w1 ⟨rfl, hb1⟩
        have hx1 := box_kept hx hb1
        have b1 := b0.trans (hb1.mono b0.size)
        obtain ⟨y0, y1, y2, gz0, gz1, gz2⟩ := box_three hx1
        obtain ⟨q0, q1, q2, -, -, -⟩ := box_three (box3_set (u' := .int .i64 ((X : Int) / 1024 + 3)) (v' := .int .i64 ((X : Int) % 1024 + 1)) (x' := .int .u8 0) hx1)
        have bY := (((b1.setCell (p := ⟨w.heap.size, 0, none⟩) (Nat.le_refl _) (.int .i64 ((X : Int) / 1024 + 3))).setCell (p := ⟨w.heap.size, 1, none⟩) (Nat.le_refl _) (.int .i64 ((X : Int) % 1024 + 1))).setCell (p := ⟨w.heap.size, 2, none⟩) (Nat.le_refl _) (.int .u8 0)).drew
        have z0 := World.cell?_setCell_same' w1 ⟨w.heap.size, 0, none⟩ (.int .i64 ((X : Int) / 1024 + 3)) (by rw [y0]; rfl)
        clear hP hb1 hx x0 x1 x2 fz0 fz1 fz2 hx1
        go_wp2_with fail
        go_region
        all_goals
          go_wp2_with fail
          exact bodyPost_ret (v := .tuple #[.agg #[.int .i64 ((X : Int) / 1024 + 3), .int .i64 ((X : Int) % 1024 + 1), .int .u8 0], .slice (some ⟨g, o + a + 2, none⟩) (n - 2) (c - 2), .bool true]) (by simp [results, Tryz.results130, go_sem, q0, q1, q2]) rfl ⟨_, rfl, ⟨_, rfl, HR.out⟩, bY⟩
    · have hu : unTok b a f = none := by rw [unTok, if_neg hf, if_neg ha]
      rw [hu]
      obtain ⟨n, hn⟩ : ∃ n, n = b.length - a := ⟨_, rfl⟩
      rw [← hn]
      have hn2 : (n : Int) < 2 := by omega
      clear hcell hby hg hu hrc hn hA
      go_enter Tryz.func130, Tryz.ntmps130
      go_wp2
      exact bodyPost_ret (v := .tuple #[.agg #[.int .i64 0, .int .i64 0, .int .u8 0], .slice none 0 0, .bool false]) (by simp [results, Tryz.results130, go_sem]) rfl ⟨_, rfl, rfl, b0⟩

end Go.Proofs.YtkjlchfmplcobaeGreatDoor

/- The walks of longest, tokenAt and Tokens: package pack as it landed. -/
namespace Go.Proofs.YtkjlchfmplcobaeGreatDoor
open Go.RowKit

set_option maxRecDepth 100000 in
set_option maxHeartbeats 4000000 in
theorem longest_any (b : List Int) (g o bc a : Nat) (w : World) (hg : g < w.heap.size) (hcell : ∀ j, j < b.length → w.cell? ⟨g, o + j, none⟩ = some (.int .u8 (b.getD j 0))) (hbl : b.length ≤ 4000) (ha : a < b.length) :
    Calls Tryz.prog 147 #[.slice (some ⟨g, o, none⟩) b.length bc, .int .i64 a] w fun e w' => e = .returned (.tuple #[.int .i64 (longTo b a (min a 1024)).1, .int .i64 (longTo b a (min a 1024)).2]) ∧ Below w.heap.size w w' := by
  obtain ⟨M, hM⟩ : ∃ M : Nat, M = min a 1024 := ⟨_, rfl⟩
  rw [← hM]
  have hM1 : M ≤ a := by omega
  have hM2 : M ≤ 1024 := by omega
  have hM3 : M = a ∨ (M = 1024 ∧ 1024 < a) := by omega
  clear hM
  have HM : Hid (M = a ∨ (M = 1024 ∧ 1024 < a)) := hM3
  clear hM3
  rcases (show (1024 : Int) < (a : Int) ∨ ¬ (1024 : Int) < (a : Int) by omega) with h10 | h10
  all_goals
    go_enter Tryz.func147, Tryz.ntmps147
    go_wp2_with fail
    go_loopw [4, 5, 6] (fun lv kv fv wi => ∃ m L B : Nat, m ≤ M ∧ lv = .int .i64 L ∧ kv = .int .i64 B ∧ fv = .int .i64 ((m : Int) + 1) ∧ Hid (longTo b a m = (L, B)) ∧ L ≤ 66 ∧ Below w.heap.size w wi) (fun _ _ fv _ => M + 1 - (intOf fv).toNat)
    case atStart => exact ⟨0, 0, 0, Nat.zero_le _, rfl, rfl, rfl, rfl, by omega, Below.refl _ _⟩
    case round =>
      obtain ⟨wi, rfl⟩ : ∃ x, x = wr := ⟨wr, rfl⟩
      obtain ⟨m, L, B, hmM, rfl, rfl, rfl, HL, hL, hbi⟩ := hrel
      by_cases c1 : m < M
      · have hsi := hbi.size
        have hA := alike_any b g o bc a (m + 1) wi (by omega) (fun j hj => (hbi.cell (p := ⟨g, o + j, none⟩) hg).trans (hcell j hj)) hbl ha (by omega) (by omega)
        rw [show ((m + 1 : Nat) : Int) = (m : Int) + 1 by omega] at hA
        have HS : Hid (longTo b a (m + 1) = if L < matchN b (a - (m + 1)) a then (matchN b (a - (m + 1)) a, m + 1) else (L, B)) := by
          show _ = _
          rw [longTo_succ, HL.out]; rfl
        have hn66 := (matchN_le b (a - (m + 1)) a).1
        generalize matchN b (a - (m + 1)) a = n at *
        have j1 : (m : Int) + 1 ≤ a := by omega
        have j2 : (m : Int) + 1 ≤ 1024 := by omega
        clear hcell
        go_wp2_with fail
        refine hA.mono ?_
        rintro r w1 ⟨rfl, hb1⟩
        have hb2 : Below w.heap.size w w1 := hbi.trans (hb1.mono hsi)
        by_cases c2 : L < n
        · have j3 : (L : Int) < n := by omega
          have HS2 : Hid (longTo b a (m + 1) = (n, m + 1)) := by show _ = _; rw [HS.out, if_pos c2]
          clear HS HL hA hb1
          go_wp2_with fail
          exact ⟨⟨m + 1, n, m + 1, by omega, rfl, by go_num, by go_num, HS2, hn66, hb2⟩, by simp [intOf]; omega⟩
        · have j3 : ¬ (L : Int) < n := by omega
          have HS2 : Hid (longTo b a (m + 1) = (L, B)) := by show _ = _; rw [HS.out, if_neg c2]
          clear HS HL hA hb1
          go_wp2_with fail
          exact ⟨⟨m + 1, L, B, by omega, rfl, rfl, by go_num, HS2, hL, hb2⟩, by simp [intOf]; omega⟩
      · obtain rfl : m = M := by omega
        have d1 : ¬ (m : Int) + 1 ≤ a ∨ ¬ (m : Int) + 1 ≤ 1024 := by have := HM.out; omega
        have hd : ((1024 : Int) < (a : Int) → ¬ (m : Int) + 1 ≤ 1024) ∧ (¬ (1024 : Int) < (a : Int) → ¬ (m : Int) + 1 ≤ a) := ⟨fun _ => by have := HM.out; omega, fun _ => by have := HM.out; omega⟩
        have d2 := hd
        first
          | replace d2 := hd.1 h10
          | replace d2 := hd.2 (by omega)
        clear hd d1 hcell
        go_wp2_with fail
        exact bodyPost_ret (v := .tuple #[.int .i64 L, .int .i64 B]) (by simp [results, Tryz.results147, go_sem]) rfl ⟨by rw [HL.out], hbi⟩
set_option maxRecDepth 100000 in
set_option maxHeartbeats 4000000 in
theorem tokenAt_any (b : List Int) (g o bc a : Nat) (w : World) (hg : g < w.heap.size) (hcell : ∀ j, j < b.length → w.cell? ⟨g, o + j, none⟩ = some (.int .u8 (b.getD j 0))) (hbl : b.length ≤ 4000) (ha : a < b.length) :
    Calls Tryz.prog 139 #[.slice (some ⟨g, o, none⟩) b.length bc, .int .i64 a] w fun e w' => e = .returned (tokV (tokAtL b a)) ∧ Below w.heap.size w w' := by
  have hA : ∀ w', Below w.heap.size w w' → _ := fun w' hb' => longest_any b g o bc a w' (Nat.lt_of_lt_of_le hg hb'.size) (fun j hj => (hb'.cell (p := ⟨g, o + j, none⟩) hg).trans (hcell j hj)) hbl ha
  have hca := hcell a ha
  have hle := longTo_le b a (min a 1024)
  unfold tokAtL
  generalize longTo b a (min a 1024) = LB at *
  obtain ⟨L, B⟩ := LB
  dsimp only at hle hA ⊢
  have b0 : Below w.heap.size w (w.alloc (.cells #[.int .i64 0, .int .i64 0, .int .u8 0] 165)) := (Below.refl _ _).alloc (Nat.le_refl _) _
  have hx := box_new w #[.int .i64 0, .int .i64 0, .int .u8 0] 165
  have hA0 := hA _ b0
  obtain ⟨y, Hy⟩ : ∃ y, Hid (b.getD a 0 = y) := ⟨_, rfl⟩
  rw [Hy.out] at hca
  rw [Hy.out]
  clear hA
  go_enter Tryz.func139, Tryz.ntmps139
  go_wp2_with fail
  generalize w.alloc (.cells #[.int .i64 0, .int .i64 0, .int .u8 0] 165) = w0 at *
  refine hA0.mono ?_
  rintro r w1 ⟨rfl, hb1⟩
  clear hA0
  have hx1 := box_kept hx hb1
  have b1 : Below w.heap.size w w1 := b0.trans (hb1.mono b0.size)
  have hca1 := (b1.cell (p := ⟨g, o + a, none⟩) hg).trans hca
  obtain ⟨x0, x1, x2, fz0, fz1, fz2⟩ := box_three hx1
  by_cases h3 : L < 3
  · have j1 : (L : Int) < 3 := by omega
    have j2 : (a : Int) < b.length := by omega
    obtain ⟨q0, q1, q2, -, -, -⟩ := box_three (box3_set (u' := .int .i64 0) (v' := .int .i64 0) (x' := .int .u8 y) hx1)
    have b2 := ((b1.setCell (p := ⟨w.heap.size, 0, none⟩) (Nat.le_refl _) (.int .i64 0)).setCell (p := ⟨w.heap.size, 1, none⟩) (Nat.le_refl _) (.int .i64 0)).setCell (p := ⟨w.heap.size, 2, none⟩) (Nat.le_refl _) (.int .u8 y)
    clear hcell hca hx hx1 hb1 b0 b1
    go_wp2_with fail
    exact bodyPost_ret (v := .agg #[.int .i64 0, .int .i64 0, .int .u8 y]) (by simp [results, Tryz.results139, go_sem, q0, q1, q2]) rfl ⟨by simp, b2⟩
  · have j1 : ¬ (L : Int) < 3 := by omega
    obtain ⟨q0, q1, q2, -, -, -⟩ := box_three (box3_set (u' := .int .i64 L) (v' := .int .i64 B) (x' := .int .u8 0) hx1)
    have b2 := ((b1.setCell (p := ⟨w.heap.size, 0, none⟩) (Nat.le_refl _) (.int .i64 L)).setCell (p := ⟨w.heap.size, 1, none⟩) (Nat.le_refl _) (.int .i64 B)).setCell (p := ⟨w.heap.size, 2, none⟩) (Nat.le_refl _) (.int .u8 0)
    clear hcell hca hx hx1 hb1 b0 b1 hca1
    go_wp2_with fail
    exact bodyPost_ret (v := .agg #[.int .i64 L, .int .i64 B, .int .u8 0]) (by simp [results, Tryz.results139, go_sem, q0, q1, q2]) rfl ⟨by simp, b2⟩
set_option maxRecDepth 100000 in
set_option maxHeartbeats 8000000 in
theorem tokensC_holds : TokensC := fun b bv w hb => by
  obtain ⟨i0, hi0, hz0, hz1, hz2⟩ := info_parts Tryz.info165b
  have hsh := hb.short
  unfold maxLen at hsh
  obtain ⟨ba, bc, eb⟩ := hb.at'.form
  subst eb
  by_cases h4 : 4000 < b.length
  · have hm : muchE b = 4 := by unfold muchE; rw [if_pos h4]
    have hx : toksE b = [] := by unfold toksE; rw [if_pos h4]
    rw [hm, hx]
    have h4' : (4000 : Int) < b.length := by omega
    clear hm hx h4 hb
    generalize b.length = n at *
    go_enter Tryz.func126, Tryz.ntmps126
    go_wp2_with fail
    exact bodyPost_ret (v := .tuple #[.slice none 0 0, .int .i64 4]) (by simp [results, Tryz.results126, go_sem]) rfl ⟨_, rfl, .inl ⟨rfl, none, 0, rfl, fun _ => rfl, Nat.zero_le _⟩, Below.refl _ _⟩
  · have hm : muchE b = 0 := by unfold muchE; rw [if_neg h4]
    have hx : toksE b = tokensL b := by unfold toksE; rw [if_neg h4]
    rw [hm, hx]
    have hbl : b.length ≤ 4000 := by omega
    have h4' : ¬ (4000 : Int) < b.length := by omega
    have hcell : b.length = 0 ∨ ∃ g o, ba = some ⟨g, o, none⟩ ∧ g < w.heap.size ∧ ∀ j, j < b.length → w.cell? ⟨g, o + j, none⟩ = some (.int .u8 (b.getD j 0)) := by
      rcases hb.at' with ⟨e, -⟩ | ⟨g, o, c, e, h1, h2⟩
      · left; rw [e]; rfl
      · cases e; exact .inr ⟨g, o, rfl, h1, h2⟩
    clear hm hx h4 hb
    go_enter Tryz.func126, Tryz.ntmps126
    go_wp2_with fail
    go_loopw [4, 5] (fun ov at' wr => ∃ (a : Nat) (done : List Tok), a ≤ b.length ∧ at' = .int .i64 a ∧ Hid (done ++ tokFrom b a = tokensL b) ∧ done.length ≤ a ∧ (∃ va vc, ov = .slice va done.length vc ∧ wr.ownsRow w.heap.size 165 3 (.slice va done.length vc) done.length (tokCs done)) ∧ Below w.heap.size w wr) (fun _ at' _ => b.length - (intOf at').toNat)
    case atStart => exact ⟨0, [], Nat.zero_le _, rfl, rfl, Nat.le_refl _, ⟨none, 0, rfl, rfl, .inl ⟨rfl, rfl⟩⟩, Below.refl _ _⟩
    case round =>
      obtain ⟨wo, rfl⟩ : ∃ x, x = wr := ⟨wr, rfl⟩
      obtain ⟨a, done, ha, rfl, HD, hdl, ⟨va, vc, rfl, hrow⟩, hbr⟩ := hrel
      by_cases hlt : a < b.length
      · replace hcell := hcell.resolve_left (by omega)
        obtain ⟨g, o, rfl, hg, hcell⟩ := hcell
        have hlt' : (a : Int) < b.length := by omega
        have hsr := hbr.size
        have hA := tokenAt_any b g o bc a wo (Nat.lt_of_lt_of_le hg hsr) (fun j hj => (hbr.cell (p := ⟨g, o + j, none⟩) hg).trans (hcell j hj)) hbl hlt
        obtain ⟨t1, t2, t3, t4⟩ := tok_here hlt
        generalize tokAtL b a = t at *
        obtain ⟨qa, qb, qc⟩ := t
        obtain ⟨n, HN⟩ : ∃ n, Hid (widN ⟨qa, qb, qc⟩ = n) := ⟨_, rfl⟩
        rw [HN.out] at t1 t2 t3
        have HT : Hid (tokFrom b a = ⟨qa, qb, qc⟩ :: tokFrom b (a + n)) := t1
        have hwi : widI ⟨qa, qb, qc⟩ = (n : Int) := by
          have := HN.out
          unfold widN at this
          unfold widI
          dsimp only at t4 this ⊢
          by_cases h0 : qa = 0
          · rw [if_pos h0] at this ⊢; omega
          · rw [if_neg h0] at this ⊢; omega
        clear t1 t4 hcell
        go_wp2_with fail
        refine hA.mono ?_
        rintro r w1 ⟨rfl, hb1⟩
        clear hA
        have b1 : Below w.heap.size w w1 := hbr.trans (hb1.mono hsr)
        have hrow1 : w1.ownsRow w.heap.size 165 3 (.slice va done.length vc) done.length (tokCs done) := hrow.kept (w' := w1) (row := none) ⟨hb1.os, hb1.tape, hb1.output, hb1.size, fun k hk _ => hb1.block k hk⟩ (by cases (Value.slice va done.length vc).ownBlock <;> simp)
        have hs1 := hb1.size
        clear hrow hb1
        have e1 : (w1.alloc (.cells #[.int .i64 qa, .int .i64 qb, .int .u8 qc] 165)).heap.size = w1.heap.size + 1 := by simp
        have hnew := lit_three (w1.alloc (.cells #[.int .i64 qa, .int .i64 qb, .int .u8 qc] 165)) qa qb qc 165
        rw [e1] at hnew
        have hone1 := tokCs_one [⟨qa, qb, qc⟩]
        rw [show tokCs [⟨qa, qb, qc⟩] = tokC ⟨qa, qb, qc⟩ by simp [tokCs]] at hone1
        have hbox := box_one w1 #[.int .i64 qa, .int .i64 qb, .int .u8 qc] 165 (.cells #[.int .i64 qa, .int .i64 qb, .int .u8 qc] 165)
        have bA : Below w.heap.size w ((w1.alloc (.cells #[.int .i64 qa, .int .i64 qb, .int .u8 qc] 165)).alloc (.cells #[.int .i64 qa, .int .i64 qb, .int .u8 qc] 165)) := (b1.alloc b1.size _).alloc (by have := b1.size; simp; omega) _
        have hsA := bA.size
        have hrowA := (hrow1.alloc (.cells #[.int .i64 qa, .int .i64 qb, .int .u8 qc] 165)).alloc (.cells #[.int .i64 qa, .int .i64 qb, .int .u8 qc] 165)
        have hol : ∀ k, (Value.slice va done.length vc).ownBlock = some k → k < w1.heap.size := fun k h => own3_lt hrow1 h
        clear hrow1 e1
        go_wp2_with (at_builtin; refine wpList_append_own _ rfl (.tmp 17) (.tmp 19) 148 rfl w.heap.size 165 i0 _ 3 24 Tryz.underlying148 hi0 hz0 hz1 hz2 rfl (by decide) _ _ _ rfl hrowA ⟨w1.heap.size + 1, 0, none⟩ 1 1 (tokC ⟨qa, qb, qc⟩) rfl rfl hnew hone1 (by unfold maxLen; omega) (by omega) hsA ?_; intro v7 w7 ho7 hg7 _; obtain ⟨ta, tc, rfl⟩ := own3_form ho7; have hx7 : w7.heap[w1.heap.size]? = _ := (hg7.block w1.heap.size (lt_heap hbox) (fun h => by have := hol _ h.symm; omega)).trans hbox; obtain ⟨x70, x71, x72, -, -, -⟩ := box_three hx7)
        have b7 : Below w.heap.size w w7 := bA.grown hg7 hsA (fun _ h => own3_block hrowA h)
        refine (width_any qa qb qc w7).mono ?_
        rintro r w8 ⟨rfl, hb8⟩
        rw [hwi]
        have b8 : Below w.heap.size w w8 := b7.trans (hb8.mono b7.size)
        have HD2 : Hid ((done ++ [⟨qa, qb, qc⟩]) ++ tokFrom b (a + n) = tokensL b) := by
          show _ = _
          rw [List.append_assoc, List.singleton_append, ← HT.out]
          exact HD.out
        have ho8 : w8.ownsRow w.heap.size 165 3 (.slice ta (done ++ [(⟨qa, qb, qc⟩ : Tok)]).length tc) (done ++ [(⟨qa, qb, qc⟩ : Tok)]).length (tokCs (done ++ [⟨qa, qb, qc⟩])) := by
          rw [List.length_append, List.length_singleton, tokCs_append, show tokCs [⟨qa, qb, qc⟩] = tokC ⟨qa, qb, qc⟩ by simp [tokCs]]
          exact ho7.kept (w' := w8) (row := none) ⟨hb8.os, hb8.tape, hb8.output, hb8.size, fun k hk _ => hb8.block k hk⟩ (by cases (Value.slice ta (done.length + 1) tc).ownBlock <;> simp)
        clear hwi hnew hone1 hbox bA hsA hrowA hol ho7 hg7 hx7 b7 hb8
        go_wp2_with fail
        exact ⟨⟨a + n, done ++ [⟨qa, qb, qc⟩], by omega, by go_num, HD2, by rw [List.length_append, List.length_singleton]; omega, ⟨ta, tc, by rw [List.length_append, List.length_singleton], ho8⟩, b8⟩, by simp [intOf]; omega⟩
      · obtain rfl : a = b.length := by omega
        have HDe : Hid (done = tokensL b) := by
          have := HD.out
          rw [tokFrom_end (by omega), List.append_nil] at this
          exact this
        have hT' : ToksAt wo (.slice va done.length vc) (tokensL b) := by
          have h0 := toksAt_own hrow
          rw [← HDe.out]
          exact h0
        clear hcell hrow
        go_wp2_with fail
        exact bodyPost_ret (v := .tuple #[.slice va done.length vc, .int .i64 0]) (by simp [results, Tryz.results126, go_sem]) rfl ⟨_, rfl, hT', hbr⟩

end Go.Proofs.YtkjlchfmplcobaeGreatDoor

/- The walks of isInRange, wrong, spell and Text: package pack as it landed. -/
namespace Go.Proofs.YtkjlchfmplcobaeGreatDoor
open Go.RowKit

def inRP (x y : Int) : Bool := decide (3 ≤ x ∧ x ≤ 66 ∧ 1 ≤ y ∧ y ≤ 1024)
set_option maxRecDepth 100000 in
set_option maxHeartbeats 1000000 in
theorem inRangeP_any (x y z : Int) (w : World) :
    Calls Tryz.prog 143 #[.agg #[.int .i64 x, .int .i64 y, .int .u8 z]] w fun e w' => e = .returned (.bool (inRP x y)) ∧ Below w.heap.size w w' := by
  obtain ⟨x0, x1, x2, -, -, -⟩ := box_three (box_new w #[.int .i64 x, .int .i64 y, .int .u8 z] 165)
  have bW : Below w.heap.size w (w.alloc (.cells #[.int .i64 x, .int .i64 y, .int .u8 z] 165)) := (Below.refl _ _).alloc (Nat.le_refl _) _
  rcases (show (inRP x y = false ∧ ¬ 3 ≤ x) ∨ (inRP x y = false ∧ 3 ≤ x ∧ ¬ x ≤ 66) ∨ (inRP x y = false ∧ 3 ≤ x ∧ x ≤ 66 ∧ ¬ 1 ≤ y) ∨ (inRP x y = false ∧ 3 ≤ x ∧ x ≤ 66 ∧ 1 ≤ y ∧ ¬ y ≤ 1024) ∨ (inRP x y = true ∧ 3 ≤ x ∧ x ≤ 66 ∧ 1 ≤ y ∧ y ≤ 1024) by unfold inRP; simp only [decide_eq_false_iff_not, decide_eq_true_eq]; omega) with ⟨e, c1⟩ | ⟨e, c1, c2⟩ | ⟨e, c1, c2, c3⟩ | ⟨e, c1, c2, c3, c4⟩ | ⟨e, c1, c2, c3, c4⟩
  all_goals
    rw [e]
    clear e
    go_enter Tryz.func143, Tryz.ntmps143
    go_wp2_with fail
    go_ret
    exact ⟨rfl, bW⟩
set_option maxRecDepth 100000 in
set_option maxHeartbeats 2000000 in
theorem wrongTok_any (x y z : Int) (n : Nat) (w : World) (hn : n ≤ 4000) :
    Calls Tryz.prog 132 #[.agg #[.int .i64 x, .int .i64 y, .int .u8 z], .int .i64 n] w fun e w' => e = .returned (.int .i64 (tokBad n ⟨x, y, z⟩)) ∧ Below w.heap.size w w' := by
  have hx := box_new w #[.int .i64 x, .int .i64 y, .int .u8 z] 165
  obtain ⟨x0, x1, x2, -, -, -⟩ := box_three hx
  have bW : Below w.heap.size w (w.alloc (.cells #[.int .i64 x, .int .i64 y, .int .u8 z] 165)) := (Below.refl _ _).alloc (Nat.le_refl _) _
  by_cases h0 : x = 0
  · subst h0
    have hw : widI ⟨0, y, z⟩ = 1 := by unfold widI; rw [if_pos rfl]
    by_cases h4 : 4000 ≤ n
    · have e : tokBad n ⟨0, y, z⟩ = 4 := by unfold tokBad; rw [if_pos rfl, if_pos h4]
      rw [e]
      have j1 : (4000 : Int) < (n : Int) + 1 := by omega
      clear e
      go_enter Tryz.func132, Tryz.ntmps132
      go_wp2_with fail
      generalize w.alloc (.cells #[.int .i64 0, .int .i64 y, .int .u8 z] 165) = W at *
      refine (width_any 0 y z W).mono ?_
      rintro r w1 ⟨rfl, hb1⟩
      rw [hw]
      have b1 := bW.trans (hb1.mono bW.size)
      go_wp2_with fail
      go_ret
      exact ⟨rfl, b1⟩
    · have e : tokBad n ⟨0, y, z⟩ = 0 := by unfold tokBad; rw [if_pos rfl, if_neg h4]
      rw [e]
      have j1 : ¬ (4000 : Int) < (n : Int) + 1 := by omega
      clear e
      go_enter Tryz.func132, Tryz.ntmps132
      go_wp2_with fail
      generalize w.alloc (.cells #[.int .i64 0, .int .i64 y, .int .u8 z] 165) = W at *
      refine (width_any 0 y z W).mono ?_
      rintro r w1 ⟨rfl, hb1⟩
      rw [hw]
      have b1 := bW.trans (hb1.mono bW.size)
      go_wp2_with fail
      go_ret
      exact ⟨rfl, b1⟩
  · have h0' : (x == 0) = false := by simpa using h0
    have hw : widI ⟨x, y, z⟩ = x := by unfold widI; rw [if_neg h0]
    by_cases hr : 3 ≤ x ∧ x ≤ 66 ∧ 1 ≤ y ∧ y ≤ 1024
    · have hi : inRP x y = true := decide_eq_true hr
      by_cases hc : (n : Int) < y
      · have e : tokBad n ⟨x, y, z⟩ = 7 := by unfold tokBad; dsimp only; rw [if_neg h0, if_neg (by omega), if_pos hc]
        rw [e]
        clear e hr
        go_enter Tryz.func132, Tryz.ntmps132
        go_wp2_with fail
        generalize w.alloc (.cells #[.int .i64 x, .int .i64 y, .int .u8 z] 165) = W at *
        refine (inRangeP_any x y z W).mono ?_
        rintro r w1 ⟨rfl, hb1⟩
        rw [hi]
        have b1 := bW.trans (hb1.mono bW.size)
        obtain ⟨z0, z1, z2, -, -, -⟩ := box_three (box_kept hx hb1)
        go_wp2_with fail
        go_ret
        exact ⟨rfl, b1⟩
      · have hc' : ¬ (n : Int) < y := hc
        obtain ⟨e', he⟩ : ∃ e', tokBad n ⟨x, y, z⟩ = e' ∧ ((4000 < (n : Int) + x ∧ e' = 4) ∨ (¬ 4000 < (n : Int) + x ∧ e' = 0)) := by
          refine ⟨_, rfl, ?_⟩
          unfold tokBad
          dsimp only
          rw [if_neg h0, if_neg (by omega), if_neg hc]
          by_cases hm : 4000 < (n : Int) + x
          · rw [if_pos hm]; exact .inl ⟨hm, rfl⟩
          · rw [if_neg hm]; exact .inr ⟨hm, rfl⟩
        rw [he.1]
        have hx66 : x ≤ 66 := hr.2.1
        have hx3 : 3 ≤ x := hr.1
        replace he := he.2
        clear hr
        rcases he with ⟨hm, rfl⟩ | ⟨hm, rfl⟩
        all_goals
          go_enter Tryz.func132, Tryz.ntmps132
          go_wp2_with fail
          generalize w.alloc (.cells #[.int .i64 x, .int .i64 y, .int .u8 z] 165) = W at *
          refine (inRangeP_any x y z W).mono ?_
          rintro r w1 ⟨rfl, hb1⟩
          rw [hi]
          have b1 := bW.trans (hb1.mono bW.size)
          obtain ⟨z0, z1, z2, -, -, -⟩ := box_three (box_kept hx hb1)
          go_wp2_with fail
          refine (width_any x y z w1).mono ?_
          rintro r w2 ⟨rfl, hb2⟩
          rw [hw]
          have b2 := b1.trans (hb2.mono b1.size)
          go_wp2_with fail
          go_ret
          exact ⟨rfl, b2⟩
    · have hi : inRP x y = false := decide_eq_false hr
      have e : tokBad n ⟨x, y, z⟩ = 3 := by unfold tokBad; dsimp only; rw [if_neg h0, if_pos (by omega)]
      rw [e]
      clear e hr
      go_enter Tryz.func132, Tryz.ntmps132
      go_wp2_with fail
      generalize w.alloc (.cells #[.int .i64 x, .int .i64 y, .int .u8 z] 165) = W at *
      refine (inRangeP_any x y z W).mono ?_
      rintro r w1 ⟨rfl, hb1⟩
      rw [hi]
      have b1 := bW.trans (hb1.mono bW.size)
      go_wp2_with fail
      go_ret
      exact ⟨rfl, b1⟩
set_option maxRecDepth 100000 in
set_option maxHeartbeats 4000000 in
theorem spell_any (out : List Int) (x y z : Int) (base : Nat) (va : Option Addr) (vc : Nat) (w : World) (hB : base ≤ w.heap.size) (hrow : w.ownsRow base 5 1 (.slice va out.length vc) out.length (out.map (Value.int .u8))) (hbad : tokBad out.length ⟨x, y, z⟩ = 0) :
    Calls Tryz.prog 133 #[.slice va out.length vc, .agg #[.int .i64 x, .int .i64 y, .int .u8 z]] w fun e w' => ∃ ta tc, e = .returned (.slice ta (tokPut out ⟨x, y, z⟩).length tc) ∧
      w'.ownsRow base 5 1 (.slice ta (tokPut out ⟨x, y, z⟩).length tc) (tokPut out ⟨x, y, z⟩).length ((tokPut out ⟨x, y, z⟩).map (Value.int .u8)) ∧ Below base w w' := by
  obtain ⟨i0, hi0, hz0, hz1, hz2⟩ := info_parts Tryz.info5b
  have hx := box_new w #[.int .i64 x, .int .i64 y, .int .u8 z] 165
  obtain ⟨x0, x1, x2, -, -, -⟩ := box_three hx
  have bW : Below base w (w.alloc (.cells #[.int .i64 x, .int .i64 y, .int .u8 z] 165)) := (Below.refl _ _).alloc hB _
  have hle := put_le hbad
  by_cases h0 : x = 0
  · subst h0
    have HP : Hid (tokPut out ⟨0, y, z⟩ = out ++ [z]) := rfl
    rw [HP.out] at hle ⊢
    rw [List.length_append, List.length_singleton] at hle
    have hnew := one_at2 w (.cells #[.int .i64 0, .int .i64 y, .int .u8 z] 165) (.int .u8 z) 5
    have hrowA := (hrow.alloc (.cells #[.int .i64 0, .int .i64 y, .int .u8 z] 165)).alloc (.cells #[.int .u8 z] 5)
    have bA : Below base w ((w.alloc (.cells #[.int .i64 0, .int .i64 y, .int .u8 z] 165)).alloc (.cells #[.int .u8 z] 5)) := bW.alloc (by simp; omega) _
    have hsA : base ≤ ((w.alloc (.cells #[.int .i64 0, .int .i64 y, .int .u8 z] 165)).alloc (.cells #[.int .u8 z] 5)).heap.size := by simp; omega
    clear hbad hrow
    go_enter Tryz.func133, Tryz.ntmps133
    go_wp2_with (at_builtin; refine wpList_append_own _ rfl (.tmp 8) (.tmp 11) 37 rfl base 5 i0 _ 1 1 Tryz.underlying37 hi0 hz0 hz1 hz2 rfl (by decide) _ _ _ rfl hrowA _ 1 1 [.int .u8 z] rfl rfl hnew (by intro u hu; simp at hu; subst hu; rfl) (by unfold maxLen; omega) (by omega) hsA ?_; intro v7 w7 ho7 hg7 _; obtain ⟨ta, tc, rfl⟩ := own_form' ho7)
    have b7 : Below base w w7 := bA.grown hg7 hsA (fun _ h => own_block hrowA h)
    go_ret
    exact ⟨ta, tc, by rw [List.length_append, List.length_singleton]; rfl, by rw [List.length_append, List.length_singleton, List.map_append]; exact ho7, b7⟩
  · have h0' : (x == 0) = false := by simpa using h0
    have hb2 := (bad_len hbad).resolve_left h0
    dsimp only at hb2
    obtain ⟨X, rfl⟩ : ∃ X : Nat, x = (X : Int) := ⟨x.toNat, by omega⟩
    obtain ⟨Y, rfl⟩ : ∃ Y : Nat, y = (Y : Int) := ⟨y.toNat, by omega⟩
    have HP : Hid (tokPut out ⟨(X : Int), (Y : Int), z⟩ = copyL X out Y) := by show _ = _; unfold tokPut; rw [if_neg h0, Int.toNat_natCast, Int.toNat_natCast]
    rw [HP.out]
    obtain ⟨F, hF⟩ : ∃ F : Nat, F = out.length - Y := ⟨_, rfl⟩
    have hFl : F + Y = out.length := by omega
    have hX66 : X ≤ 66 := by omega
    have hX4 : out.length + X ≤ 4000 := by omega
    have hY1 : 1 ≤ Y := by omega
    clear hbad hF hb2 hle
    have hrowW := hrow.alloc (.cells #[.int .i64 (X : Int), .int .i64 (Y : Int), .int .u8 z] 165)
    clear hrow
    go_enter Tryz.func133, Tryz.ntmps133
    go_wp2_with fail
    go_loopw [0, 15] (fun ov nv wi => ∃ q : Nat, q ≤ X ∧ nv = .int .i64 q ∧ (∃ va vc, ov = .slice va (out.length + q) vc ∧ wi.ownsRow base 5 1 (.slice va (out.length + q) vc) (out.length + q) ((copyL q out Y).map (Value.int .u8))) ∧ wi.heap[w.heap.size]? = some (.cells #[.int .i64 (X : Int), .int .i64 (Y : Int), .int .u8 z] 165 (0, 0)) ∧ Below base w wi) (fun _ nv _ => X - (intOf nv).toNat)
    case atStart => exact ⟨0, Nat.zero_le _, rfl, ⟨va, vc, rfl, hrowW⟩, hx, bW⟩
    case round =>
      obtain ⟨wi, rfl⟩ : ∃ x, x = wr := ⟨wr, rfl⟩
      obtain ⟨q, hq, rfl, ⟨ra, rc, rfl, hri⟩, hti, hbi⟩ := hrel
      clear hrowW hx bW x0 x1 x2
      obtain ⟨y0, y1, y2, -, -, -⟩ := box_three hti
      have hsi := hbi.size
      by_cases hqX : q < X
      · obtain ⟨g, eg, hcg, -, hg1⟩ := own_get (z := 0) hri (F + q) (by omega)
        cases eg
        have HC : Hid (copyL (q + 1) out Y = copyL q out Y ++ [(copyL q out Y).getD (F + q) 0]) := by
          show _ = _
          rw [copy_snoc, copyL_length, show out.length + q - Y = F + q by omega]
        have hnew := cell_one_new wi (.int .u8 ((copyL q out Y).getD (F + q) 0)) 5
        have hqX' : (q : Int) < X := by omega
        have HM : Hid ((copyL (q + 1) out Y).map (Value.int .u8) = (copyL q out Y).map (Value.int .u8) ++ [.int .u8 ((copyL q out Y).getD (F + q) 0)]) := by
          show _ = _
          rw [HC.out, List.map_append]; rfl
        have w1 : IntKind.i64.wrap ((out.length : Int) + q - Y) = (F : Int) + q := by rw [IntKind.wrap_i64]; omega
        have w2 : IntKind.i64.wrap (((out.length + q : Nat) : Int) - Y) = (F : Int) + q := by rw [IntKind.wrap_i64]; omega
        have j1 : (F : Int) + q < ((out.length + q : Nat) : Int) := by omega
        have j1' : (F : Int) + q < (out.length : Int) + q := by omega
        have j2 : 0 ≤ (F : Int) + q := by omega
        generalize (copyL q out Y).getD (F + q) 0 = c at *
        clear HC
        go_wp2_with (at_builtin; refine wpList_append_own _ rfl (.tmp 17) (.tmp 26) 37 rfl base 5 i0 _ 1 1 Tryz.underlying37 hi0 hz0 hz1 hz2 rfl (by decide) _ _ _ rfl (hri.alloc _) _ 1 1 [.int .u8 c] rfl rfl hnew (by intro u hu; simp at hu; subst hu; rfl) (by unfold maxLen; omega) (by omega) (by simp; omega) ?_; intro v7 w7 ho7 hg7 _; obtain ⟨ta, tc, rfl⟩ := own_form' ho7)
        have ht7 := grown_box hg7 (hri.alloc _) (box_old _ _ hti) (by decide)
        have b7 : Below base w w7 := (hbi.alloc (by omega) _).grown hg7 (by simp; omega) (fun _ h => own_block hri h)
        exact ⟨⟨q + 1, by omega, by go_num, ⟨ta, tc, rfl, by rw [HM.out]; exact ho7⟩, ht7, b7⟩, by simp [intOf]; omega⟩
      · obtain rfl : q = X := by omega
        have hcl : (copyL q out Y).length = out.length + q := copyL_length q out Y
        have HCL : Hid ((copyL q out Y).length = out.length + q) := hcl
        clear hcl
        go_wp2_with fail
        go_ret
        exact ⟨ra, rc, by rw [HCL.out]; rfl, by rw [HCL.out]; exact hri, hbi⟩

set_option maxRecDepth 100000 in
set_option maxHeartbeats 8000000 in
theorem textC_holds : TextC := fun l lv w hl => by
  obtain ⟨la, lc, rfl, hr1, hr2, hcell⟩ := hl.form
  unfold maxLen at hr2
  have b0 : Below w.heap.size w (w.alloc (.cells #[.int .i64 0, .int .i64 0] 31)) := (Below.refl _ _).alloc (Nat.le_refl _) _
  have hf0 := box_new w #[.int .i64 0, .int .i64 0] 31
  have HT0 : Hid (textFrom [] 0 (l.drop 0) = textL l) := rfl
  clear hl
  go_enter Tryz.func120, Tryz.ntmps120
  go_wp2_with fail
  go_loopw [4, 10] (fun ov i wr => ∃ (k : Nat) (out : List Int), k ≤ l.length ∧ i = .int .i64 k ∧ Hid (textFrom out k (l.drop k) = textL l) ∧ out.length ≤ 4000 ∧ (∃ va vc, ov = .slice va out.length vc ∧ wr.ownsRow (w.heap.size + 1) 5 1 (.slice va out.length vc) out.length (out.map (Value.int .u8))) ∧ wr.heap[w.heap.size]? = some (.cells #[.int .i64 0, .int .i64 0] 31 (0, 0)) ∧ Below w.heap.size w wr) (fun _ i _ => l.length - (intOf i).toNat)
  case atStart => exact ⟨0, [], Nat.zero_le _, rfl, HT0, Nat.zero_le _, ⟨none, 0, rfl, World.ownsRow_nil _ _ _ _⟩, hf0, b0⟩
  case round =>
    obtain ⟨wo, rfl⟩ : ∃ x, x = wr := ⟨wr, rfl⟩
    obtain ⟨k, out, hk, rfl, HT, hol, ⟨va, vc, rfl, hrow⟩, hfb, hbr⟩ := hrel
    clear b0 hf0 HT0
    by_cases hlt : k < l.length
    · replace hcell := hcell.resolve_left (by omega)
      obtain ⟨tb, to, rfl, htb, hcell⟩ := hcell
      obtain ⟨d0, d1, d2⟩ := hcell k hlt
      replace d0 := (hbr.cell (p := ⟨tb, to + k * 3, none⟩) htb).trans d0
      replace d1 := (hbr.cell (p := ⟨tb, to + k * 3 + 1, none⟩) htb).trans d1
      replace d2 := (hbr.cell (p := ⟨tb, to + k * 3 + 2, none⟩) htb).trans d2
      have HST : Hid (textL l = if tokBad out.length (l.getD k tok0) ≠ 0 then ([], tokBad out.length (l.getD k tok0), (k : Int)) else textFrom (tokPut out (l.getD k tok0)) (k + 1) (l.drop (k + 1))) := by
        show _ = _
        rw [← HT.out, List.drop_eq_getElem_cons hlt, textFrom, List.getD_eq_getElem?_getD, List.getElem?_eq_getElem hlt]
        rfl
      have hlt' : (k : Int) < l.length := by omega
      clear HT hcell
      generalize l.getD k tok0 = t at *
      obtain ⟨x, y, z⟩ := t
      dsimp only at d0 d1 d2
      have hs := lt_heap hfb
      have ht1 := box_new wo #[.int .i64 x, .int .i64 y, .int .u8 z] 165
      obtain ⟨x0, x1, x2, -, -, -⟩ := box_three ht1
      have hf1 := box_old wo (.cells #[.int .i64 x, .int .i64 y, .int .u8 z] 165) hfb
      have bW : Below w.heap.size w (wo.alloc (.cells #[.int .i64 x, .int .i64 y, .int .u8 z] 165)) := hbr.alloc hbr.size _
      have hrowW := hrow.alloc (.cells #[.int .i64 x, .int .i64 y, .int .u8 z] 165)
      have hsW : wo.heap.size < (wo.alloc (.cells #[.int .i64 x, .int .i64 y, .int .u8 z] 165)).heap.size := by simp
      clear hrow hbr hfb
      go_wp2_with fail
      generalize wo.alloc (.cells #[.int .i64 x, .int .i64 y, .int .u8 z] 165) = W at *
      refine (wrongTok_any x y z out.length W hol).mono ?_
      rintro r w1 ⟨rfl, hb1⟩
      have b1 := bW.trans (hb1.mono bW.size)
      have hf2 := box_kept hf1 hb1
      by_cases hbad : tokBad out.length ⟨x, y, z⟩ = 0
      · have HN : Hid (textFrom (tokPut out ⟨x, y, z⟩) (k + 1) (l.drop (k + 1)) = textL l) := by
          show _ = _
          rw [HST.out, if_neg (fun h => h hbad)]
        rw [hbad]
        obtain ⟨z0, z1, z2, -, -, -⟩ := box_three (box_kept ht1 hb1)
        have hrow1 := own_below hrowW hb1 (Nat.le_refl _)
        have hS := spell_any out x y z (w.heap.size + 1) va vc w1 (lt_heap hf2) hrow1 hbad
        have hpl := put_le hbad
        clear hrow1 hrowW HST
        go_wp2_with fail
        refine hS.mono ?_
        rintro r w2 ⟨ta, tc, rfl, ho2, hb2⟩
        have hf3 := box_below hf2 hb2 (Nat.lt_succ_self _)
        have b2 := b1.trans (hb2.mono (Nat.le_succ _))
        generalize tokPut out ⟨x, y, z⟩ = P at *
        clear hS hbad
        go_wp2_with fail
        exact ⟨⟨k + 1, P, by omega, by go_num, HN, hpl, ⟨ta, tc, rfl, ho2⟩, hf3, b2⟩, by simp [intOf]; omega⟩
      · have HB : Hid (textL l = ([], tokBad out.length ⟨x, y, z⟩, (k : Int))) := by
          show _ = _
          rw [HST.out, if_pos hbad]
        generalize tokBad out.length ⟨x, y, z⟩ = E at *
        have hE : (E == 0) = false := by simpa using hbad
        have hE' : ¬ E = 0 := hbad
        obtain ⟨q0, q1, q2, q3⟩ := box_two hf2
        clear HST hrowW hbad
        go_wp2_with fail
        exact bodyPost_ret (v := .tuple #[.slice none 0 0, faultV4 (E, (k : Int))]) (by simp [results, Tryz.results120, go_sem, q0, q1]) rfl ⟨_, by rw [HB.out], by rw [HB.out]; exact bytesAt_nil _, by rw [HB.out]; exact ⟨none, 0, rfl, Nat.le_refl _, Nat.zero_le _⟩, (b1.setCell (p := ⟨w.heap.size, 0, none⟩) (Nat.le_refl _) _).setCell (p := ⟨w.heap.size, 1, none⟩) (Nat.le_refl _) _⟩
    · obtain rfl : k = l.length := by omega
      have HE : Hid (textL l = (out, 0, 0)) := by
        show _ = _
        rw [← HT.out, List.drop_eq_nil_of_le (Nat.le_refl _)]
        rfl
      obtain ⟨q0, q1, q2, q3⟩ := box_two hfb
      have hB := bytesAt_own (ownsRow_setCell_below (ownsRow_setCell_below hrow (a := ⟨w.heap.size, 0, none⟩) (Nat.lt_succ_self _) (.int .i64 0)) (a := ⟨w.heap.size, 1, none⟩) (Nat.lt_succ_self _) (.int .i64 0))
      have bE := (hbr.setCell (p := ⟨w.heap.size, 0, none⟩) (Nat.le_refl _) (.int .i64 0)).setCell (p := ⟨w.heap.size, 1, none⟩) (Nat.le_refl _) (.int .i64 0)
      have hR : RoomV (.slice va out.length vc) out.length := by obtain ⟨a, c, e, h1, h2⟩ := own_cap hrow; exact ⟨a, c, e, h1, h2⟩
      clear hcell hrow HT
      go_wp2_with fail
      exact bodyPost_ret (v := .tuple #[.slice va out.length vc, faultV4 (0, 0)]) (by simp [results, Tryz.results120, go_sem, q0, q1]) rfl ⟨_, by rw [HE.out], by rw [HE.out]; exact hB, by rw [HE.out]; exact hR, bE⟩

end Go.Proofs.YtkjlchfmplcobaeGreatDoor
