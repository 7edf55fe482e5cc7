/- The walk of yearref4.Tokens: the document's own tokens. -/
import Derived.Test.YtkjlchfmplcobadDoorProg
import Derived.Test.YtkjlchfmplcobadDoorRunAI
import Derived.Test.YtkjlchfmplcobadDoorRunAE
import Derived.WalkKit
import Derived.WalkSpells
import Derived.WalkLawsBesides
import Derived.Deep.QuietTactic
import Derived.BigQuiet
namespace Go.Proofs.YtkjlchfmplcobadDoor
open Go.RowKit

/-- What the best one is, in memory: its length, how far back, its byte. -/
def bestV (b : List Int) (a : Nat) (p : Nat × Nat) : Int × Int × Int := if p.1 = 0 then (0, 0, b.getD a 0) else ((p.1 : Int), (p.2 : Int), 0)
def BestAt (w : World) (B : Nat) (q : Int × Int × Int) : Prop := w.heap[B]? = some (.cells #[.int .i64 q.1, .int .i64 q.2.1, .int .u8 q.2.2] 117 (0, 0))
theorem bestV_len (b : List Int) (a : Nat) (p : Nat × Nat) : (bestV b a p).1 = (p.1 : Int) := by
  unfold bestV; split
  · rename_i h; rw [h]; rfl
  · rfl
theorem bestV_step (b : List Int) (a m : Nat) : bestV b a (bestTo b a (m + 1)) = if 3 ≤ matchN b (a - (m + 1)) a ∧ (bestTo b a m).1 < matchN b (a - (m + 1)) a then ((matchN b (a - (m + 1)) a : Int), ((m : Int) + 1), 0) else bestV b a (bestTo b a m) := by
  rw [bestTo_succ]
  unfold bestStep
  split
  · rename_i h
    unfold bestV
    rw [if_neg (by simp only; omega)]
    simp
  · rfl
theorem tok_next {b : List Int} {a : Nat} (h : a < b.length) : ∃ n, 1 ≤ n ∧ a + n ≤ b.length ∧ tokFrom b a = ⟨(bestV b a (bestL b a)).1, (bestV b a (bestL b a)).2.1, (bestV b a (bestL b a)).2.2⟩ :: tokFrom b (a + n) ∧ (((bestL b a).1 = 0 ∧ n = 1) ∨ ((bestL b a).1 ≠ 0 ∧ n = (bestL b a).1)) := by
  rcases best_spec b a with hs | ⟨s1, s2, s3, -⟩
  · refine ⟨1, by omega, by omega, ?_, .inl ⟨by rw [hs], rfl⟩⟩
    rw [tokFrom_byte h (by rw [hs]), hs]
    rfl
  · refine ⟨(bestL b a).1, by omega, by omega, ?_, .inr ⟨by omega, rfl⟩⟩
    rw [tokFrom_more h (by omega)]
    unfold bestV
    rw [if_neg (by omega)]
set_option maxRecDepth 100000 in
set_option maxHeartbeats 8000000 in
theorem refTokens_any (b : List Int) (bv : Value) (w : World) (hb : Some' w bv b) :
    Calls Tryd.prog 54 #[bv] w fun e w' => ∃ v, e = .returned (.tuple #[v, .int .i64 (muchE b)]) ∧ ToksAt w' v (toksE b) ∧ Below w.heap.size w w' := by
  obtain ⟨i0, hi0, hz0, hz1, hz2⟩ := info_parts Tryd.info117b
  have hsh := hb.short
  unfold maxLen at hsh
  obtain ⟨ba, bc, eb⟩ := hb.at'.form
  subst eb
  by_cases h4 : 4000 < b.length
  · have hm : muchE b = 4 := by unfold muchE; rw [if_pos h4]
    have hx : toksE b = [] := by unfold toksE; rw [if_pos h4]
    rw [hm, hx]
    have h4' : (4000 : Int) < b.length := by omega
    clear hm hx h4 hb
    generalize b.length = n at *
    go_enter Tryd.func54, Tryd.ntmps54
    go_wp2_with fail
    exact bodyPost_ret (v := .tuple #[.slice none 0 0, .int .i64 4]) (by simp [results, Tryd.results54, go_sem]) rfl ⟨_, rfl, .inl ⟨rfl, none, 0, rfl, fun _ => rfl, Nat.zero_le _⟩, Below.refl _ _⟩
  · have hm : muchE b = 0 := by unfold muchE; rw [if_neg h4]
    have hx : toksE b = tokensL b := by unfold toksE; rw [if_neg h4]
    rw [hm, hx]
    have hbl : b.length ≤ 4000 := by omega
    have h4' : ¬ (4000 : Int) < b.length := by omega
    have hcell : b.length = 0 ∨ ∃ g o, ba = some ⟨g, o, none⟩ ∧ g < w.heap.size ∧ ∀ j, j < b.length → w.cell? ⟨g, o + j, none⟩ = some (.int .u8 (b.getD j 0)) := by
      rcases hb.at' with ⟨e, -⟩ | ⟨g, o, c, e, h1, h2⟩
      · left; rw [e]; rfl
      · cases e; exact .inr ⟨g, o, rfl, h1, h2⟩
    clear hm hx h4 hb
    go_enter Tryd.func54, Tryd.ntmps54
    go_wp2_with fail
    go_loopw [4, 5] (fun ov at' wr => ∃ (a : Nat) (done : List Tok), a ≤ b.length ∧ at' = .int .i64 a ∧ Hid (done ++ tokFrom b a = tokensL b) ∧ done.length ≤ a ∧ (∃ va vc, ov = .slice va done.length vc ∧ wr.ownsRow w.heap.size 117 3 (.slice va done.length vc) done.length (tokCs done)) ∧ Below w.heap.size w wr) (fun _ at' _ => b.length - (intOf at').toNat)
    case atStart => exact ⟨0, [], Nat.zero_le _, rfl, rfl, Nat.le_refl _, ⟨none, 0, rfl, rfl, .inl ⟨rfl, rfl⟩⟩, Below.refl _ _⟩
    case round =>
      obtain ⟨wo, rfl⟩ : ∃ x, x = wr := ⟨wr, rfl⟩
      obtain ⟨a, done, ha, rfl, HD, hdl, ⟨va, vc, rfl, hrow⟩, hbr⟩ := hrel
      by_cases hlt : a < b.length
      · replace hcell := hcell.resolve_left (by omega)
        obtain ⟨g, o, rfl, hg, hcell⟩ := hcell
        obtain ⟨z, Hz⟩ : ∃ z, Hid (b.getD a 0 = z) := ⟨_, rfl⟩
        have hca := (hbr.cell (p := ⟨g, o + a, none⟩) hg).trans (hcell a hlt)
        rw [Hz.out] at hca
        have hbox := box_new wo #[.int .i64 0, .int .i64 0, .int .u8 z] 117
        have bW : Below wo.heap.size wo (wo.alloc (.cells #[.int .i64 0, .int .i64 0, .int .u8 z] 117)) := (Below.refl _ _).alloc (Nat.le_refl _) _
        have hsr := hbr.size
        have hb0 : BestAt (wo.alloc (.cells #[.int .i64 0, .int .i64 0, .int .u8 z] 117)) wo.heap.size (bestV b a (bestTo b a 0)) := by
          have e : bestV b a (bestTo b a 0) = (0, 0, z) := by rw [bestTo_zero, ← Hz.out]; rfl
          rw [e]
          exact hbox
        have hcr : ∀ j, j < b.length → ∀ w', Below wo.heap.size wo w' → w'.cell? ⟨g, o + j, none⟩ = some (.int .u8 (b.getD j 0)) := fun j hj w' hw' => (hw'.cell (p := ⟨g, o + j, none⟩) (Nat.lt_of_lt_of_le hg hsr)).trans ((hbr.cell (p := ⟨g, o + j, none⟩) hg).trans (hcell j hj))
        clear hbox hcell
        go_wp2_with fail
        go_loopw [7] (fun fr wm => ∃ m : Nat, m ≤ a ∧ m ≤ 1024 ∧ fr = .int .i64 ((a : Int) - 1 - m) ∧ BestAt wm wo.heap.size (bestV b a (bestTo b a m)) ∧ Below wo.heap.size wo wm) (fun fr _ => (intOf fr + 1).toNat)
        case atStart => exact ⟨0, Nat.zero_le _, Nat.zero_le _, by simp, hb0, bW⟩
        case round =>
          obtain ⟨wm, rfl⟩ : ∃ x, x = wr := ⟨wr, rfl⟩
          obtain ⟨m, hma, hm4, rfl, hbm, hbw⟩ := hrel
          clear hb0 bW hca
          by_cases hmm : m < a ∧ m < 1024
          · obtain ⟨hm1, hm2⟩ := hmm
            have i1 : 0 ≤ (a : Int) - 1 - m := by omega
            have i2 : (a : Int) - ((a : Int) - 1 - m) ≤ 1024 := by omega
            obtain ⟨f, hf⟩ : ∃ f, f = a - (m + 1) := ⟨_, rfl⟩
            have hfa : f < a := by omega
            have HS := bestV_step b a m
            rw [← hf] at HS
            have hq1 := bestV_len b a (bestTo b a m)
            have HS' : Hid _ := HS
            have HQ1 : Hid _ := hq1
            clear HS hq1
            obtain ⟨q2, HQ2⟩ : ∃ q2, Hid (bestV b a (bestTo b a (m + 1)) = q2) := ⟨_, rfl⟩
            rw [HQ2.out] at HS'
            generalize bestV b a (bestTo b a m) = q at *
            obtain ⟨qa, qb, qc⟩ := q
            dsimp only at HQ1
            go_wp2_with fail
            have hfe : (a : Int) - 1 - m = (f : Int) := by omega
            simp only [hfe]
            have HF : Hid ((a : Int) - 1 - m = (f : Int)) := hfe
            have HF2 : Hid (f = a - (m + 1)) := hf
            clear hfe hf i1 i2
            go_loopw [8] (fun nv wi => ∃ k : Nat, k ≤ 66 ∧ a + k ≤ b.length ∧ nv = .int .i64 k ∧ Hid (∀ j, j < k → b.getD (f + j) 0 = b.getD (a + j) 0) ∧ BestAt wi wo.heap.size (qa, qb, qc) ∧ Below wo.heap.size wo wi) (fun nv _ => 66 - (intOf nv).toNat)
            case atStart => exact ⟨0, Nat.zero_le _, by omega, rfl, fun j hj => absurd hj (Nat.not_lt_zero _), hbm, hbw⟩
            case round =>
              obtain ⟨wi, rfl⟩ : ∃ x, x = wr := ⟨wr, rfl⟩
              obtain ⟨k, hk66, hkl, rfl, HK, hbi, hbwi⟩ := hrel
              clear hbm hbw
              have w1 : IntKind.i64.wrap ((a : Int) + k) = (a : Int) + k := by rw [IntKind.wrap_i64]; omega
              have w2 : IntKind.i64.wrap ((f : Int) + k) = (f : Int) + k := by rw [IntKind.wrap_i64]; omega
              by_cases c1 : a + k < b.length
              · by_cases c2 : k < 66
                · have e1 := hcr (f + k) (by omega) wi hbwi
                  have e2 := hcr (a + k) c1 wi hbwi
                  have j0 : (a : Int) + k < b.length := by omega
                  have j1 : (f : Int) + k < b.length := by omega
                  have j2 : (k : Int) < 66 := by omega
                  have j3 : 0 ≤ (f : Int) + k := by omega
                  have j4 : 0 ≤ (a : Int) + k := by omega
                  by_cases c3 : b.getD (f + k) 0 = b.getD (a + k) 0
                  · have HK2 : Hid (∀ j, j < k + 1 → b.getD (f + j) 0 = b.getD (a + j) 0) := fun j hj => by
                      by_cases hjk : j = k
                      · rw [hjk]; exact c3
                      · exact HK.out j (by omega)
                    rw [c3] at e1
                    clear c3 HK hcr
                    generalize b.getD (a + k) 0 = y at *
                    go_wp2
                    go_quiet (fail)
                    go_wp2
                    exact ⟨⟨k + 1, by omega, by omega, by go_num, HK2, hbi, below_drewN' hbwi nq⟩, by simp [intOf]; omega⟩
                  · have d3 : (b.getD (f + k) 0 == b.getD (a + k) 0) = false := by simpa using c3
                    have HC3 : Hid (b.getD (f + k) 0 ≠ b.getD (a + k) 0) := c3
                    clear c3
                    obtain ⟨y1, Hy1⟩ : ∃ y, Hid (b.getD (f + k) 0 = y) := ⟨_, rfl⟩
                    obtain ⟨y2, Hy2⟩ : ∃ y, Hid (b.getD (a + k) 0 = y) := ⟨_, rfl⟩
                    rw [Hy1.out] at d3 e1
                    rw [Hy2.out] at d3 e2
                    have d4 : decide (y1 = y2) = false := decide_eq_false (by simpa using d3)
                    clear hcr
                    go_wp2
                    go_quiet (fail)
                    have hmk : matchN b f a = k := match_end hfa HK.out hk66 hkl (.inr (.inr HC3.out))
                    have HS2 := HS'.out
                    rw [hmk] at HS2
                    have hq := HQ1.out
                    have hff := HF.out
                    have hbd := below_drewN' hbwi nq
                    have hbi2 : BestAt (wi.drewN nq) wo.heap.size (qa, qb, qc) := hbi
                    obtain ⟨x0, x1, x2, fz0, fz1, fz2⟩ := box_three hbi2
                    dsimp only at x0 x1 x2
                    clear HK
                    by_cases hc : 3 ≤ k ∧ qa < (k : Int)
                    · have hv : q2 = ((k : Int), (m : Int) + 1, 0) := by rw [HS2, if_pos ⟨hc.1, by omega⟩]
                      have l1 : (3 : Int) ≤ k := by omega
                      have l2 := hc.2
                      have hba : BestAt ((((wi.drewN nq).setCell ⟨wo.heap.size, 0, none⟩ (.int .i64 k)).setCell ⟨wo.heap.size, 1, none⟩ (.int .i64 ((a : Int) - f))).setCell ⟨wo.heap.size, 2, none⟩ (.int .u8 0)) wo.heap.size q2 := by
                        rw [hv, show (m : Int) + 1 = (a : Int) - f by omega]
                        exact box3_set hbi2
                      have hbe := ((hbd.setCell (p := ⟨wo.heap.size, 0, none⟩) (Nat.le_refl _) (.int .i64 k)).setCell (p := ⟨wo.heap.size, 1, none⟩) (Nat.le_refl _) (.int .i64 ((a : Int) - f))).setCell (p := ⟨wo.heap.size, 2, none⟩) (Nat.le_refl _) (.int .u8 0)
                      have HW3 : Hid ((a : Int) - 1 - ((m + 1 : Nat) : Int) = (f : Int) - 1) := by show _ = _; omega
                      clear HS2 hq hff hv hmk hbi hbi2 hbwi hc
                      go_wp2_with fail
                      exact ⟨⟨m + 1, by omega, by omega, by rw [HW3.out], by rw [HQ2.out]; exact hba, hbe⟩, by have := HF.out; simp [intOf]; omega⟩
                    · have hv : q2 = (qa, qb, qc) := by rw [HS2, if_neg (fun h => hc ⟨h.1, by omega⟩)]
                      have HW3 : Hid ((a : Int) - 1 - ((m + 1 : Nat) : Int) = (f : Int) - 1) := by show _ = _; omega
                      rw [hv] at HQ2
                      clear HS2 hq hff hv hmk hbi hbwi
                      rcases (show ¬ (3 : Int) ≤ k ∨ ((3 : Int) ≤ k ∧ ¬ qa < (k : Int)) by omega) with l1 | ⟨l1, l2⟩
                      · go_wp2_with fail
                        exact ⟨⟨m + 1, by omega, by omega, by rw [HW3.out], by rw [HQ2.out]; exact hbi2, hbd⟩, by have := HF.out; simp [intOf]; omega⟩
                      · go_wp2_with fail
                        exact ⟨⟨m + 1, by omega, by omega, by rw [HW3.out], by rw [HQ2.out]; exact hbi2, hbd⟩, by have := HF.out; simp [intOf]; omega⟩
                · have d2 : decide ((k : Int) < 66) = false := decide_eq_false (by omega)
                  have j0 : (a : Int) + k < b.length := by omega
                  clear hcr
                  go_wp2
                  go_quiet (fail)
                  have hmk : matchN b f a = k := match_end hfa HK.out hk66 hkl (.inr (.inl c2))
                  have HS2 := HS'.out
                  rw [hmk] at HS2
                  have hq := HQ1.out
                  have hff := HF.out
                  have hbd := below_drewN' hbwi nq
                  have hbi2 : BestAt (wi.drewN nq) wo.heap.size (qa, qb, qc) := hbi
                  obtain ⟨x0, x1, x2, fz0, fz1, fz2⟩ := box_three hbi2
                  dsimp only at x0 x1 x2
                  clear HK
                  by_cases hc : 3 ≤ k ∧ qa < (k : Int)
                  · have hv : q2 = ((k : Int), (m : Int) + 1, 0) := by rw [HS2, if_pos ⟨hc.1, by omega⟩]
                    have l1 : (3 : Int) ≤ k := by omega
                    have l2 := hc.2
                    have hba : BestAt ((((wi.drewN nq).setCell ⟨wo.heap.size, 0, none⟩ (.int .i64 k)).setCell ⟨wo.heap.size, 1, none⟩ (.int .i64 ((a : Int) - f))).setCell ⟨wo.heap.size, 2, none⟩ (.int .u8 0)) wo.heap.size q2 := by
                      rw [hv, show (m : Int) + 1 = (a : Int) - f by omega]
                      exact box3_set hbi2
                    have hbe := ((hbd.setCell (p := ⟨wo.heap.size, 0, none⟩) (Nat.le_refl _) (.int .i64 k)).setCell (p := ⟨wo.heap.size, 1, none⟩) (Nat.le_refl _) (.int .i64 ((a : Int) - f))).setCell (p := ⟨wo.heap.size, 2, none⟩) (Nat.le_refl _) (.int .u8 0)
                    have HW3 : Hid ((a : Int) - 1 - ((m + 1 : Nat) : Int) = (f : Int) - 1) := by show _ = _; omega
                    clear HS2 hq hff hv hmk hbi hbi2 hbwi hc
                    go_wp2_with fail
                    exact ⟨⟨m + 1, by omega, by omega, by rw [HW3.out], by rw [HQ2.out]; exact hba, hbe⟩, by have := HF.out; simp [intOf]; omega⟩
                  · have hv : q2 = (qa, qb, qc) := by rw [HS2, if_neg (fun h => hc ⟨h.1, by omega⟩)]
                    have HW3 : Hid ((a : Int) - 1 - ((m + 1 : Nat) : Int) = (f : Int) - 1) := by show _ = _; omega
                    rw [hv] at HQ2
                    clear HS2 hq hff hv hmk hbi hbwi
                    rcases (show ¬ (3 : Int) ≤ k ∨ ((3 : Int) ≤ k ∧ ¬ qa < (k : Int)) by omega) with l1 | ⟨l1, l2⟩
                    · go_wp2_with fail
                      exact ⟨⟨m + 1, by omega, by omega, by rw [HW3.out], by rw [HQ2.out]; exact hbi2, hbd⟩, by have := HF.out; simp [intOf]; omega⟩
                    · go_wp2_with fail
                      exact ⟨⟨m + 1, by omega, by omega, by rw [HW3.out], by rw [HQ2.out]; exact hbi2, hbd⟩, by have := HF.out; simp [intOf]; omega⟩
              · have d1 : decide ((a : Int) + k < b.length) = false := decide_eq_false (by omega)
                clear hcr
                go_wp2
                go_quiet (fail)
                have hmk : matchN b f a = k := match_end hfa HK.out hk66 hkl (.inl c1)
                have HS2 := HS'.out
                rw [hmk] at HS2
                have hq := HQ1.out
                have hff := HF.out
                have hbd := below_drewN' hbwi nq
                have hbi2 : BestAt (wi.drewN nq) wo.heap.size (qa, qb, qc) := hbi
                obtain ⟨x0, x1, x2, fz0, fz1, fz2⟩ := box_three hbi2
                dsimp only at x0 x1 x2
                clear HK
                by_cases hc : 3 ≤ k ∧ qa < (k : Int)
                · have hv : q2 = ((k : Int), (m : Int) + 1, 0) := by rw [HS2, if_pos ⟨hc.1, by omega⟩]
                  have l1 : (3 : Int) ≤ k := by omega
                  have l2 := hc.2
                  have hba : BestAt ((((wi.drewN nq).setCell ⟨wo.heap.size, 0, none⟩ (.int .i64 k)).setCell ⟨wo.heap.size, 1, none⟩ (.int .i64 ((a : Int) - f))).setCell ⟨wo.heap.size, 2, none⟩ (.int .u8 0)) wo.heap.size q2 := by
                    rw [hv, show (m : Int) + 1 = (a : Int) - f by omega]
                    exact box3_set hbi2
                  have hbe := ((hbd.setCell (p := ⟨wo.heap.size, 0, none⟩) (Nat.le_refl _) (.int .i64 k)).setCell (p := ⟨wo.heap.size, 1, none⟩) (Nat.le_refl _) (.int .i64 ((a : Int) - f))).setCell (p := ⟨wo.heap.size, 2, none⟩) (Nat.le_refl _) (.int .u8 0)
                  have HW3 : Hid ((a : Int) - 1 - ((m + 1 : Nat) : Int) = (f : Int) - 1) := by show _ = _; omega
                  clear HS2 hq hff hv hmk hbi hbi2 hbwi hc
                  go_wp2_with fail
                  exact ⟨⟨m + 1, by omega, by omega, by rw [HW3.out], by rw [HQ2.out]; exact hba, hbe⟩, by have := HF.out; simp [intOf]; omega⟩
                · have hv : q2 = (qa, qb, qc) := by rw [HS2, if_neg (fun h => hc ⟨h.1, by omega⟩)]
                  have HW3 : Hid ((a : Int) - 1 - ((m + 1 : Nat) : Int) = (f : Int) - 1) := by show _ = _; omega
                  rw [hv] at HQ2
                  clear HS2 hq hff hv hmk hbi hbwi
                  rcases (show ¬ (3 : Int) ≤ k ∨ ((3 : Int) ≤ k ∧ ¬ qa < (k : Int)) by omega) with l1 | ⟨l1, l2⟩
                  · go_wp2_with fail
                    exact ⟨⟨m + 1, by omega, by omega, by rw [HW3.out], by rw [HQ2.out]; exact hbi2, hbd⟩, by have := HF.out; simp [intOf]; omega⟩
                  · go_wp2_with fail
                    exact ⟨⟨m + 1, by omega, by omega, by rw [HW3.out], by rw [HQ2.out]; exact hbi2, hbd⟩, by have := HF.out; simp [intOf]; omega⟩
          · have hmin : m = min a 1024 := by omega
            have HB : Hid (bestV b a (bestTo b a m) = bestV b a (bestL b a)) := by show _ = _; rw [hmin]; rfl
            rw [HB.out] at hbm
            obtain ⟨n1, hn1, hn2, htk, hcase⟩ := tok_next hlt
            have hql := bestV_len b a (bestL b a)
            obtain ⟨q, HQ⟩ : ∃ q, Hid (bestV b a (bestL b a) = q) := ⟨_, rfl⟩
            rw [HQ.out] at hbm htk hql
            obtain ⟨qa, qb, qc⟩ := q
            dsimp only at htk hql
            have HT : Hid (tokFrom b a = ⟨qa, qb, qc⟩ :: tokFrom b (a + n1)) := htk
            have hstop : ¬ 0 ≤ (a : Int) - 1 - m ∨ (0 ≤ (a : Int) - 1 - m ∧ ¬ (a : Int) - ((a : Int) - 1 - m) ≤ 1024) := by omega
            have hqa : (qa = 0 ∧ n1 = 1) ∨ (qa ≠ 0 ∧ (n1 : Int) = qa) := by omega
            obtain ⟨x0, x1, x2, fz0, fz1, fz2⟩ := box_three hbm
            dsimp only at x0 x1 x2
            have bX := hbr.trans (hbw.mono hsr)
            have hrowX : wm.ownsRow w.heap.size 117 3 (.slice va done.length vc) done.length (tokCs done) := hrow.kept (w' := wm) (row := none) ⟨hbw.os, hbw.tape, hbw.output, hbw.size, fun k hk _ => hbw.block k hk⟩ (by cases (Value.slice va done.length vc).ownBlock <;> simp)
            clear hcr htk hcase hmm hmin HB hql
            have hnew : ∀ j u, (tokC ⟨qa, qb, qc⟩)[j]? = some u → (wm.alloc (.cells #[.int .i64 qa, .int .i64 qb, .int .u8 qc] 117)).cell? ((⟨wm.heap.size, 0, none⟩ : Addr).add j) = some u := lit_three wm qa qb qc 117
            have hone1 := tokCs_one [⟨qa, qb, qc⟩]
            rw [show tokCs [⟨qa, qb, qc⟩] = tokC ⟨qa, qb, qc⟩ by simp [tokCs]] at hone1
            have hsA : w.heap.size ≤ (wm.alloc (.cells #[.int .i64 qa, .int .i64 qb, .int .u8 qc] 117)).heap.size := by have := bX.size; simp; omega
            have bXA : Below w.heap.size w (wm.alloc (.cells #[.int .i64 qa, .int .i64 qb, .int .u8 qc] 117)) := bX.alloc bX.size _
            have kept7 : ∀ w7, (wm.alloc (.cells #[.int .i64 qa, .int .i64 qb, .int .u8 qc] 117)).grownBy w7 (Value.slice va done.length vc).ownBlock → w7.heap[wo.heap.size]? = some (.cells #[.int .i64 qa, .int .i64 qb, .int .u8 qc] 117 (0, 0)) := fun w7 hg7 => by
              have hold := box_old wm (.cells #[.int .i64 qa, .int .i64 qb, .int .u8 qc] 117) hbm
              rw [hg7.block wo.heap.size (lt_heap hold) (fun h => by have := own3_lt hrow h.symm; omega)]
              exact hold
            rcases hqa with ⟨rfl, rfl⟩ | ⟨h1, h2⟩
            · rcases hstop with l1 | ⟨l1, l2⟩
              · go_wp2_with (at_builtin; refine wpList_append_own _ rfl (.tmp 73) (.tmp 75) 87 rfl w.heap.size 117 i0 _ 3 24 Tryd.underlying87 hi0 hz0 hz1 hz2 rfl (by decide) _ _ _ rfl (hrowX.alloc _) ⟨wm.heap.size, 0, none⟩ 1 1 (tokC ⟨0, qb, qc⟩) rfl rfl hnew hone1 (by unfold maxLen; omega) (by omega) hsA ?_; intro v7 w7 ho7 hg7 _; obtain ⟨ta, tc, rfl⟩ := own3_form ho7; have hx7 := kept7 w7 hg7; obtain ⟨x70, x71, x72, -, -, -⟩ := box_three hx7)
                have b7 : Below w.heap.size w w7 := bXA.grown hg7 hsA (fun _ h => own3_block hrowX h)
                have HD2 : Hid ((done ++ [⟨0, qb, qc⟩]) ++ tokFrom b (a + 1) = tokensL b) := by
                  show _ = _
                  rw [List.append_assoc, List.singleton_append, ← HT.out]
                  exact HD.out
                have ho8 : w7.ownsRow w.heap.size 117 3 (.slice ta (done ++ [(⟨0, qb, qc⟩ : Tok)]).length tc) (done ++ [(⟨0, qb, qc⟩ : Tok)]).length (tokCs (done ++ [⟨0, qb, qc⟩])) := by
                  rw [List.length_append, List.length_singleton, tokCs_append, show tokCs [⟨0, qb, qc⟩] = tokC ⟨0, qb, qc⟩ by simp [tokCs]]
                  exact ho7
                exact ⟨⟨a + 1, done ++ [⟨0, qb, qc⟩], by omega, by rfl, HD2, by rw [List.length_append, List.length_singleton]; omega, ⟨ta, tc, by rw [List.length_append, List.length_singleton], ho8⟩, b7⟩, by simp [intOf]; omega⟩
              · go_wp2_with (at_builtin; refine wpList_append_own _ rfl (.tmp 73) (.tmp 75) 87 rfl w.heap.size 117 i0 _ 3 24 Tryd.underlying87 hi0 hz0 hz1 hz2 rfl (by decide) _ _ _ rfl (hrowX.alloc _) ⟨wm.heap.size, 0, none⟩ 1 1 (tokC ⟨0, qb, qc⟩) rfl rfl hnew hone1 (by unfold maxLen; omega) (by omega) hsA ?_; intro v7 w7 ho7 hg7 _; obtain ⟨ta, tc, rfl⟩ := own3_form ho7; have hx7 := kept7 w7 hg7; obtain ⟨x70, x71, x72, -, -, -⟩ := box_three hx7)
                have b7 : Below w.heap.size w w7 := bXA.grown hg7 hsA (fun _ h => own3_block hrowX h)
                have HD2 : Hid ((done ++ [⟨0, qb, qc⟩]) ++ tokFrom b (a + 1) = tokensL b) := by
                  show _ = _
                  rw [List.append_assoc, List.singleton_append, ← HT.out]
                  exact HD.out
                have ho8 : w7.ownsRow w.heap.size 117 3 (.slice ta (done ++ [(⟨0, qb, qc⟩ : Tok)]).length tc) (done ++ [(⟨0, qb, qc⟩ : Tok)]).length (tokCs (done ++ [⟨0, qb, qc⟩])) := by
                  rw [List.length_append, List.length_singleton, tokCs_append, show tokCs [⟨0, qb, qc⟩] = tokC ⟨0, qb, qc⟩ by simp [tokCs]]
                  exact ho7
                exact ⟨⟨a + 1, done ++ [⟨0, qb, qc⟩], by omega, by rfl, HD2, by rw [List.length_append, List.length_singleton]; omega, ⟨ta, tc, by rw [List.length_append, List.length_singleton], ho8⟩, b7⟩, by simp [intOf]; omega⟩
            · have i3 : (qa == 0) = false := by simpa using h1
              rcases hstop with l1 | ⟨l1, l2⟩
              · go_wp2_with (at_builtin; refine wpList_append_own _ rfl (.tmp 73) (.tmp 75) 87 rfl w.heap.size 117 i0 _ 3 24 Tryd.underlying87 hi0 hz0 hz1 hz2 rfl (by decide) _ _ _ rfl (hrowX.alloc _) ⟨wm.heap.size, 0, none⟩ 1 1 (tokC ⟨qa, qb, qc⟩) rfl rfl hnew hone1 (by unfold maxLen; omega) (by omega) hsA ?_; intro v7 w7 ho7 hg7 _; obtain ⟨ta, tc, rfl⟩ := own3_form ho7; have hx7 := kept7 w7 hg7; obtain ⟨x70, x71, x72, -, -, -⟩ := box_three hx7)
                have b7 : Below w.heap.size w w7 := bXA.grown hg7 hsA (fun _ h => own3_block hrowX h)
                have HD2 : Hid ((done ++ [⟨qa, qb, qc⟩]) ++ tokFrom b (a + n1) = tokensL b) := by
                  show _ = _
                  rw [List.append_assoc, List.singleton_append, ← HT.out]
                  exact HD.out
                have ho8 : w7.ownsRow w.heap.size 117 3 (.slice ta (done ++ [(⟨qa, qb, qc⟩ : Tok)]).length tc) (done ++ [(⟨qa, qb, qc⟩ : Tok)]).length (tokCs (done ++ [⟨qa, qb, qc⟩])) := by
                  rw [List.length_append, List.length_singleton, tokCs_append, show tokCs [⟨qa, qb, qc⟩] = tokC ⟨qa, qb, qc⟩ by simp [tokCs]]
                  exact ho7
                exact ⟨⟨a + n1, done ++ [⟨qa, qb, qc⟩], by omega, by (rw [← h2]; rfl), HD2, by rw [List.length_append, List.length_singleton]; omega, ⟨ta, tc, by rw [List.length_append, List.length_singleton], ho8⟩, b7⟩, by simp [intOf]; omega⟩
              · go_wp2_with (at_builtin; refine wpList_append_own _ rfl (.tmp 73) (.tmp 75) 87 rfl w.heap.size 117 i0 _ 3 24 Tryd.underlying87 hi0 hz0 hz1 hz2 rfl (by decide) _ _ _ rfl (hrowX.alloc _) ⟨wm.heap.size, 0, none⟩ 1 1 (tokC ⟨qa, qb, qc⟩) rfl rfl hnew hone1 (by unfold maxLen; omega) (by omega) hsA ?_; intro v7 w7 ho7 hg7 _; obtain ⟨ta, tc, rfl⟩ := own3_form ho7; have hx7 := kept7 w7 hg7; obtain ⟨x70, x71, x72, -, -, -⟩ := box_three hx7)
                have b7 : Below w.heap.size w w7 := bXA.grown hg7 hsA (fun _ h => own3_block hrowX h)
                have HD2 : Hid ((done ++ [⟨qa, qb, qc⟩]) ++ tokFrom b (a + n1) = tokensL b) := by
                  show _ = _
                  rw [List.append_assoc, List.singleton_append, ← HT.out]
                  exact HD.out
                have ho8 : w7.ownsRow w.heap.size 117 3 (.slice ta (done ++ [(⟨qa, qb, qc⟩ : Tok)]).length tc) (done ++ [(⟨qa, qb, qc⟩ : Tok)]).length (tokCs (done ++ [⟨qa, qb, qc⟩])) := by
                  rw [List.length_append, List.length_singleton, tokCs_append, show tokCs [⟨qa, qb, qc⟩] = tokC ⟨qa, qb, qc⟩ by simp [tokCs]]
                  exact ho7
                exact ⟨⟨a + n1, done ++ [⟨qa, qb, qc⟩], by omega, by (rw [← h2]; rfl), HD2, by rw [List.length_append, List.length_singleton]; omega, ⟨ta, tc, by rw [List.length_append, List.length_singleton], ho8⟩, b7⟩, by simp [intOf]; omega⟩
      · obtain rfl : a = b.length := by omega
        have HDe : Hid (done = tokensL b) := by
          have := HD.out
          rw [tokFrom_end (by omega), List.append_nil] at this
          exact this
        have hT' : ToksAt wo (.slice va done.length vc) (tokensL b) := by
          have h0 := toksAt_own hrow
          rw [← HDe.out]
          exact h0
        clear hcell hrow
        go_wp2_with fail
        exact bodyPost_ret (v := .tuple #[.slice va done.length vc, .int .i64 0]) (by simp [results, Tryd.results54, go_sem]) rfl ⟨_, rfl, hT', hbr⟩

end Go.Proofs.YtkjlchfmplcobadDoor
