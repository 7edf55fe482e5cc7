/- The walk of the law PackMore, over the faces of package pack, for lists that are not too long. -/
import Derived.Test.YtkjlchfmplcobadProg
import Derived.Test.YtkjlchfmplcobadPackAlive
import Derived.Test.YtkjlchfmplcobadPackToks
import Derived.Test.YtkjlchfmplcobadPackTake
import Derived.Test.YtkjlchfmplcobadShaSame
import Derived.WalkKit
import Derived.WalkSpells
import Derived.WalkLawsBesides
namespace Go.Proofs.Ytkjlchfmplcobad
open Go.RowKit

set_option maxRecDepth 100000 in
set_option maxHeartbeats 2000000 in
theorem packMore_any (hText : TextC) (hPack : PackC) (hUn : UnpackC) (l m : List Tok) (la ma : Option Addr) (lc mc : Nat) (w : World) (hl : ToksAt w (.slice la l.length lc) l) (hm : ToksAt w (.slice ma m.length mc) m) (hs1 : l.length ≤ 2000000) (hs2 : m.length ≤ 2000000) :
    Calls Try.prog 4 #[.slice la l.length lc, .slice ma m.length mc] w fun e w' => e = .returned (.bool true) ∧ Below w.heap.size w w' := by
  obtain ⟨i0, hi0, hz0, hz1, hz2⟩ := info_parts Try.info29b
  have cA := alive4_any hPack hUn w
  have cX : ∀ w', Below w.heap.size w w' → _ := fun w' h => hText l _ w' (hl.below (Nat.le_refl _) h)
  have cY : ∀ w' v, ToksAt w' v (l ++ m) → _ := fun w' v h => hText (l ++ m) v w' h
  have hm1 := more_text l m
  have ht1 : (textL l).1.length ≤ 4000 := text_le l [] 0 (by simp)
  have ht2 : (textL (l ++ m)).1.length ≤ 4000 := text_le (l ++ m) [] 0 (by simp)
  have HLM : Hid ((l ++ m).length = l.length + m.length) := List.length_append
  have HCs : Hid (tokCs (l ++ m) = tokCs l ++ tokCs m) := tokCs_append l m
  obtain ⟨A, hA⟩ : ∃ A, textL l = A := ⟨_, rfl⟩
  obtain ⟨B, hB⟩ : ∃ B, textL (l ++ m) = B := ⟨_, rfl⟩
  rw [hA, hB] at hm1
  rw [hA] at cX ht1
  rw [hB] at cY ht2
  clear hA hB
  obtain ⟨At, A1, A2⟩ := A
  obtain ⟨Bt, B1, B2⟩ := B
  dsimp only [faultV4] at cX cY hm1 ht1 ht2
  have HM1 : Hid _ := hm1
  clear hm1
  go_enter Try.func4, Try.ntmps4
  go_wp2_with fail
  refine cA.mono ?_
  rintro e w1 ⟨rfl, b1⟩
  go_wp2_with fail
  refine (cX _ b1).mono ?_
  rintro e w2 ⟨v2, rfl, h2, hr2, hb2⟩
  have b2 := b1.trans (hb2.mono b1.size)
  obtain ⟨xa, xc, ex, hxc, hxm⟩ := hr2
  subst ex
  obtain ⟨d3, f0, f1, sf⟩ := box_cells w2 (.int .i64 A1) (.int .i64 A2) 33
  have b3 := b2.trans (d3.mono b2.size)
  have h3 := h2.below (Nat.le_refl _) d3
  have hmW := hm.below (Nat.le_refl _) b3
  have hlW := hl.below (Nat.le_refl _) b3
  have hsW : (w2.alloc (.cells #[.int .i64 A1, .int .i64 A2] 33)).heap.size = w2.heap.size + 1 := by simp
  have hown0 : ((w2.alloc (.cells #[.int .i64 A1, .int .i64 A2] 33)).alloc (.cells #[] 29)).ownsRow (w2.heap.size + 1) 29 3 (.slice (some ⟨w2.heap.size + 1, 0, none⟩) 0 0) 0 [] :=
    ⟨rfl, .inr ⟨w2.heap.size + 1, 0, #[], rfl, Nat.le_refl _, box_last w2 _ #[] 29, Nat.le_refl _, Nat.zero_le _, rfl, rfl⟩⟩
  have bE : Below (w2.heap.size + 1) (w2.alloc (.cells #[.int .i64 A1, .int .i64 A2] 33)) ((w2.alloc (.cells #[.int .i64 A1, .int .i64 A2] 33)).alloc (.cells #[] 29)) := (Below.refl _ _).alloc (by rw [hsW]; exact Nat.le_refl _) _
  have hlE := hlW.below (Nat.le_of_eq hsW) bE
  have hsE : w2.heap.size + 1 ≤ ((w2.alloc (.cells #[.int .i64 A1, .int .i64 A2] 33)).alloc (.cells #[] 29)).heap.size := by simp
  clear cA cX h2 hl hm
  go_wp2_with (at_builtin; first
    | (refine wpList_append_toks rfl (.tmp 17) (.tmp 18) 24 rfl (w2.heap.size + 1) 29 i0 _ Try.underlying24 hi0 hz0 hz1 hz2 rfl _ _ _ rfl hown0 la l.length lc l rfl hlE (by omega) hsE ?_; intro v4 w4 ho4 hg4; rw [Nat.zero_add, List.nil_append] at ho4; have b4 := bE.grown hg4 hsE (fun _ h => own3_block hown0 h); have hs4 := Nat.le_trans (Nat.le_of_eq hsW.symm) b4.size; have hm4 := hmW.below (Nat.le_of_eq hsW) b4; obtain ⟨ya, yc, rfl⟩ := own3_form ho4)
    | (refine wpList_append_toks rfl (.tmp 19) (.tmp 20) 24 rfl (w2.heap.size + 1) 29 i0 _ Try.underlying24 hi0 hz0 hz1 hz2 rfl _ _ _ rfl ho4 ma m.length mc m rfl hm4 (by omega) hs4 ?_; intro v5 w5 ho5 hg5; have b5 := b4.grown hg5 hs4 (fun _ h => own3_block ho4 h); obtain ⟨za, zc, rfl⟩ := own3_form ho5))
  have ho5' : w5.ownsRow (w2.heap.size + 1) 29 3 (.slice za (l.length + m.length) zc) (l ++ m).length (tokCs (l ++ m)) := by
    rw [HLM.out, HCs.out]
    exact ho5
  have c5 := cY _ _ (toksAt_own ho5')
  have b6 : Below w.heap.size w w5 := b3.trans (b5.mono (by have := b2.size; omega))
  have h5 := h3.below (Nat.le_of_eq hsW) b5
  have g0 := (b5.cell (p := ⟨w2.heap.size, 0, none⟩) (by show w2.heap.size < w2.heap.size + 1; omega)).trans f0
  have g1 := (b5.cell (p := ⟨w2.heap.size, 1, none⟩) (by show w2.heap.size < w2.heap.size + 1; omega)).trans f1
  clear ho5 ho5' ho4 hg4 hg5 hown0 bE hlE hm4 hmW hlW h3 cY f0 f1 d3 b4 hsE
  refine c5.mono ?_
  rintro e w6 ⟨v6, rfl, h6, hr6, hb6⟩
  obtain ⟨ua, uc, eu, huc, hum⟩ := hr6
  subst eu
  have b7 := b6.trans (hb6.mono b6.size)
  have hlt5 : w2.heap.size < w5.heap.size := Nat.lt_of_lt_of_le sf b5.size
  obtain ⟨d7, k0, k1, sk⟩ := box_cells w6 (.int .i64 B1) (.int .i64 B2) 33
  have b8 := b7.trans (d7.mono b7.size)
  have m0 := (d7.cell (p := ⟨w2.heap.size, 0, none⟩) (Nat.lt_of_lt_of_le hlt5 hb6.size)).trans ((hb6.cell (p := ⟨w2.heap.size, 0, none⟩) hlt5).trans g0)
  have m1 := (d7.cell (p := ⟨w2.heap.size, 1, none⟩) (Nat.lt_of_lt_of_le hlt5 hb6.size)).trans ((hb6.cell (p := ⟨w2.heap.size, 1, none⟩) hlt5).trans g1)
  have h8 := (h5.below (Nat.le_refl _) hb6).below (Nat.le_refl _) d7
  have k8 := h6.below (Nat.le_refl _) d7
  unfold maxLen at hum
  have hne : w2.heap.size ≠ w6.heap.size := by have := hb6.size; omega
  clear c5 g0 g1 h5 h6 d7 hb6
  by_cases hA : A1 = 0
  · subst hA
    obtain ⟨hq1, hq2⟩ := HM1.out.2 rfl
    by_cases hB : B1 = 0
    · subst hB
      have hpre := hq2 rfl
      clear hq1 hq2 HM1
      have hle := hpre.length_le
      have HP : Hid (Bt.take At.length = At) := (List.prefix_iff_eq_take.1 hpre).symm
      have hT := k8.take rfl hle
      rw [HP.out] at hT
      have cS := same_any At At (.slice xa At.length xc) (.slice ua At.length uc) _ h8 hT (by unfold maxLen; omega)
      rw [decide_eq_true rfl] at cS
      have j1 : (At.length : Int) ≤ (Bt.length : Int) := by omega
      have j2 : (At.length : Int) ≤ (uc : Int) := by omega
      clear h8 k8 hT hpre HP
      generalize At.length = an at *
      generalize Bt.length = bn at *
      go_wp2_with fail
      refine cS.mono ?_
      rintro e w9 ⟨rfl, q9, rfl⟩
      go_wp2_with fail
      go_ret
      exact ⟨rfl, below_drewN' b8 q9⟩
    · have hq := hq1 hB
      have i1 : (B1 != 0) = true := by simpa using hB
      clear hq1 hq2 HM1 h8 k8
      generalize At.length = an at *
      generalize Bt.length = bn at *
      go_wp2_with fail
      go_ret
      exact ⟨rfl, b8⟩
  · obtain ⟨hq1, hq2⟩ := HM1.out.1 hA
    simp only [Prod.mk.injEq] at hq1
    obtain ⟨rfl, rfl, rfl⟩ := hq1
    subst hq2
    have i1 : (B1 != 0) = true := by simpa using hA
    clear HM1 h8 k8
    go_wp2_with fail
    go_ret
    exact ⟨rfl, b8⟩

end Go.Proofs.Ytkjlchfmplcobad
