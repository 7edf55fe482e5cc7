/- The walk of the law PackFirst, over the faces of package pack. -/
import Derived.Test.YtkjlchfmplcobadProg
import Derived.Test.YtkjlchfmplcobadPackAlive
import Derived.Test.YtkjlchfmplcobadPackSame
import Derived.Test.YtkjlchfmplcobadPackTake
import Derived.WalkKit
import Derived.WalkSpells
import Derived.WalkLawsBesides
namespace Go.Proofs.Ytkjlchfmplcobad
open Go.RowKit

set_option maxRecDepth 100000 in
set_option maxHeartbeats 2000000 in
theorem packFirst_any (hTok : TokensC) (hPack : PackC) (hUn : UnpackC) (b : List Int) (n : Int) (ba : Option Addr) (bc : Nat) (w : World) (hb : Some' w (.slice ba b.length bc) b) (hc1 : b.length ≤ bc) :
    Calls Try.prog 3 #[.slice ba b.length bc, .int .i64 n] w fun e w' => e = .returned (.bool true) ∧ Below w.heap.size w w' := by
  have cA := alive4_any hPack hUn w
  have cT : ∀ w', Below w.heap.size w w' → _ := fun w' h => hTok b _ w' (hb.below h)
  have hsh := hb.short
  unfold maxLen at hsh
  by_cases h4 : 4000 < b.length
  · have hm : muchE b = 4 := by unfold muchE; rw [if_pos h4]
    rw [hm] at cT
    clear hm
    generalize b.length = bl at *
    go_enter Try.func3, Try.ntmps3
    go_wp2_with fail
    refine cA.mono ?_
    rintro e w1 ⟨rfl, b1⟩
    go_wp2_with fail
    refine (cT _ b1).mono ?_
    rintro e w2 ⟨v2, rfl, h2, hb2⟩
    have b2 := b1.trans (hb2.mono b1.size)
    obtain ⟨ta, tc, e2, -⟩ := h2.form
    subst e2
    clear cA cT h2
    go_wp2_with fail
    go_ret
    exact ⟨rfl, b2⟩
  · have hm : muchE b = 0 := by unfold muchE; rw [if_neg h4]
    have hx : toksE b = tokensL b := by unfold toksE; rw [if_neg h4]
    rw [hm, hx] at cT
    have HF : Hid (∀ m : Nat, m ≤ (tokensL b).length → tokensL (b.take (tokSum ((tokensL b).take m))) = (tokensL b).take m ∧ tokSum ((tokensL b).take m) ≤ b.length) := fun m hm => first_tokens hm
    have HG : Hid (∀ k, k < (tokensL b).length → 0 ≤ ((tokensL b).getD k tok0).len ∧ ((tokensL b).getD k tok0).len ≤ 66) := fun k hk => tok_get hb.bytes hk
    have hTl : (tokensL b).length ≤ 4000 := by have := (tok_few b b.length 0 (by omega)).1; unfold tokensL; omega
    have hTb : (tokensL b).length ≤ b.length := by have := (tok_few b b.length 0 (by omega)).1; unfold tokensL; omega
    have cT2 : ∀ (m : Nat) w', Below w.heap.size w w' → m ≤ (tokensL b).length → Calls Try.prog 6 #[.slice ba (tokSum ((tokensL b).take m)) bc] w' fun e w'' => ∃ v, e = .returned (.tuple #[v, .int .i64 0]) ∧ ToksAt w'' v ((tokensL b).take m) ∧ Below w'.heap.size w' w'' := fun m w' h hml => by
      obtain ⟨f1, f2⟩ := HF.out m hml
      have hl : (b.take (tokSum ((tokensL b).take m))).length = tokSum ((tokensL b).take m) := by rw [List.length_take]; omega
      have hB : Some' w' (.slice ba (tokSum ((tokensL b).take m)) bc) (b.take (tokSum ((tokensL b).take m))) := ⟨(hb.below h).at'.take rfl f2, take_bytes1 hb.bytes _, by rw [hl]; unfold maxLen; omega⟩
      have := hTok _ _ w' hB
      unfold muchE toksE at this
      rw [if_neg (by omega), if_neg (by omega), f1] at this
      exact this
    clear hm hx
    have hbl : b.length ≤ 4000 := by omega
    clear h4
    go_enter Try.func3, Try.ntmps3
    go_wp2_with fail
    refine cA.mono ?_
    rintro e w1 ⟨rfl, b1⟩
    go_wp2_with fail
    refine (cT _ b1).mono ?_
    rintro e w2 ⟨v2, rfl, h2, hb2⟩
    have b2 := b1.trans (hb2.mono b1.size)
    obtain ⟨ta, tc, e2, hr1, hr2, hcl⟩ := h2.form
    subst e2
    unfold maxLen at hr2
    clear cA cT
    by_cases hn1 : n < 1
    · clear HF HG cT2 hcl
      generalize (tokensL b).length = tl at *
      go_wp2_with fail
      go_ret
      exact ⟨rfl, b2⟩
    by_cases hn2 : ((tokensL b).length : Int) < n
    · clear HF HG cT2 hcl
      generalize (tokensL b).length = tl at *
      go_wp2_with fail
      go_ret
      exact ⟨rfl, b2⟩
    obtain ⟨m, rfl⟩ : ∃ m : Nat, n = (m : Int) := ⟨n.toNat, by omega⟩
    have hm1 : 1 ≤ m := by omega
    have hml : m ≤ (tokensL b).length := by omega
    have HN1 : Hid (decide ((m : Int) < 1) = false) := decide_eq_false hn1
    have HN2 : Hid (decide (((tokensL b).length : Int) < (m : Int)) = false) := decide_eq_false hn2
    have hml' : (m : Int) ≤ ((tokensL b).length : Int) := by omega
    have hmc : (m : Int) ≤ (tc : Int) := by omega
    replace hcl := hcl.resolve_left (by omega)
    obtain ⟨tb, to, rfl, htb, hcl⟩ := hcl
    have c2 := fun w' h => cT2 m w' h hml
    have HFm := HF.out m hml
    have hsum : ∀ k, k ≤ m → tokSum ((tokensL b).take k) ≤ 4000 := fun k hk => by
      have := (HF.out k (by omega)).2; omega
    have hTm := h2.take rfl hml
    have HST : Hid (∀ k, k < m → tokSum ((tokensL b).take (k + 1)) = tokSum ((tokensL b).take k) + max ((tokensL b).getD k tok0).len.toNat 1) := fun k hk => tokSum_step (by omega)
    have HG2 : Hid (∀ k, k < m → 0 ≤ ((tokensL b).getD k tok0).len ∧ ((tokensL b).getD k tok0).len ≤ 66) := fun k hk => HG.out k (by omega)
    have hcl2 : ∀ j, j < m → _ := fun j hj => hcl j (by omega)
    have HFm2 : Hid (tokSum ((tokensL b).take m) ≤ b.length) := HFm.2
    clear HF HG cT2 hcl h2 HFm
    generalize tokensL b = T at *
    have hs0 : Hid (tokSum (T.take 0) = 0) := rfl
    go_wp2_with fail
    simp only [HN1.out]
    go_loopw [7, 34] (fun at' i wr => ∃ k : Nat, k ≤ m ∧ i = .int .i64 k ∧ at' = .int .i64 ((tokSum (T.take k) : Nat) : Int) ∧ Below w2.heap.size w2 wr) (fun _ i _ => m - (intOf i).toNat)
    case atStart => exact ⟨0, Nat.zero_le _, rfl, by rw [hs0.out]; rfl, Below.refl _ _⟩
    case round =>
      obtain ⟨k, hk, rfl, rfl, hbk⟩ := hrel
      by_cases hlt : k < m
      · obtain ⟨d0, d1, d2⟩ := hcl2 k hlt
        replace d0 := (hbk.cell (p := ⟨tb, to + k * 3, none⟩) htb).trans d0
        replace d1 := (hbk.cell (p := ⟨tb, to + k * 3 + 1, none⟩) htb).trans d1
        replace d2 := (hbk.cell (p := ⟨tb, to + k * 3 + 2, none⟩) htb).trans d2
        have hst := HST.out k hlt
        have hg := HG2.out k hlt
        have hle := hsum k hk
        have HS2 : Hid (((tokSum (T.take k) : Nat) : Int) + max (T.getD k tok0).len 1 = ((tokSum (T.take (k + 1)) : Nat) : Int)) := by
          show _ = _
          rw [hst]
          omega
        clear hst hcl2 HST HG2 hsum c2 hTm
        generalize tokSum (T.take k) = s0 at *
        generalize T.getD k tok0 = t at *
        obtain ⟨x, y, z⟩ := t
        dsimp only at d0 d1 d2 hg HS2
        have hb9 : Below w2.heap.size w2 (wr.alloc (.cells #[.int .i64 x, .int .i64 y, .int .u8 z] 29)) := hbk.alloc hbk.size _
        go_wp2_with fail
        exact ⟨⟨k + 1, by omega, by go_num, by rw [HS2.out], hb9⟩, by simp [intOf]; omega⟩
      · obtain rfl : k = m := by omega
        have b9 := b2.trans (hbk.mono b2.size)
        have c9 := c2 _ b9
        have hat := HFm2.out
        have hTl2 : (T.take k).length = k := by rw [List.length_take]; omega
        have hTk := hTm.below (Nat.le_refl _) hbk
        clear hcl2 HST HG2 hsum c2 hTm
        obtain ⟨b0, o0, bc0, eb0⟩ := hb.at'.some (by omega)
        cases eb0
        have j1 : ((tokSum (T.take k) : Nat) : Int) ≤ (bc : Int) := by omega
        generalize tokSum (T.take k) = s0 at *
        go_wp2_with fail
        refine c9.mono ?_
        rintro e w10 ⟨v10, rfl, h10, hb10⟩
        have b10 := b9.trans (hb10.mono b9.size)
        have cS := tokSame_any _ _ _ _ w10 h10 (hTk.below (Nat.le_refl _) hb10)
        rw [decide_eq_true rfl] at cS
        obtain ⟨ya, yc, e10, -⟩ := h10.form
        rw [hTl2] at e10
        subst e10
        clear c9 h10 hTk
        go_wp2_with fail
        refine cS.mono ?_
        rintro e w11 ⟨rfl, q11, rfl⟩
        go_wp2_with fail
        go_ret
        exact ⟨rfl, below_drewN' b10 _⟩

end Go.Proofs.Ytkjlchfmplcobad
