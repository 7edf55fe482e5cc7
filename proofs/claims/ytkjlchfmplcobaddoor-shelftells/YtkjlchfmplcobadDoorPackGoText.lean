/- The walks of isInRange, wrong, spell and Text: package pack as it landed. -/
import Derived.Test.YtkjlchfmplcobadDoorProg
import Derived.Test.YtkjlchfmplcobadDoorRunAC
import Derived.WalkKit
import Derived.WalkSpells
import Derived.WalkLawsBesides
namespace Go.Proofs.YtkjlchfmplcobadDoor
open Go.RowKit

def inRP (x y : Int) : Bool := decide (3 ≤ x ∧ x ≤ 66 ∧ 1 ≤ y ∧ y ≤ 1024)
set_option maxRecDepth 100000 in
set_option maxHeartbeats 1000000 in
theorem inRangeP_any (x y z : Int) (w : World) :
    Calls Tryd.prog 101 #[.agg #[.int .i64 x, .int .i64 y, .int .u8 z]] w fun e w' => e = .returned (.bool (inRP x y)) ∧ Below w.heap.size w w' := by
  obtain ⟨x0, x1, x2, -, -, -⟩ := box_three (box_new w #[.int .i64 x, .int .i64 y, .int .u8 z] 117)
  have bW : Below w.heap.size w (w.alloc (.cells #[.int .i64 x, .int .i64 y, .int .u8 z] 117)) := (Below.refl _ _).alloc (Nat.le_refl _) _
  rcases (show (inRP x y = false ∧ ¬ 3 ≤ x) ∨ (inRP x y = false ∧ 3 ≤ x ∧ ¬ x ≤ 66) ∨ (inRP x y = false ∧ 3 ≤ x ∧ x ≤ 66 ∧ ¬ 1 ≤ y) ∨ (inRP x y = false ∧ 3 ≤ x ∧ x ≤ 66 ∧ 1 ≤ y ∧ ¬ y ≤ 1024) ∨ (inRP x y = true ∧ 3 ≤ x ∧ x ≤ 66 ∧ 1 ≤ y ∧ y ≤ 1024) by unfold inRP; simp only [decide_eq_false_iff_not, decide_eq_true_eq]; omega) with ⟨e, c1⟩ | ⟨e, c1, c2⟩ | ⟨e, c1, c2, c3⟩ | ⟨e, c1, c2, c3, c4⟩ | ⟨e, c1, c2, c3, c4⟩
  all_goals
    rw [e]
    clear e
    go_enter Tryd.func101, Tryd.ntmps101
    go_wp2_with fail
    go_ret
    exact ⟨rfl, bW⟩
set_option maxRecDepth 100000 in
set_option maxHeartbeats 2000000 in
theorem wrongTok_any (x y z : Int) (n : Nat) (w : World) (hn : n ≤ 4000) :
    Calls Tryd.prog 84 #[.agg #[.int .i64 x, .int .i64 y, .int .u8 z], .int .i64 n] w fun e w' => e = .returned (.int .i64 (tokBad n ⟨x, y, z⟩)) ∧ Below w.heap.size w w' := by
  have hx := box_new w #[.int .i64 x, .int .i64 y, .int .u8 z] 117
  obtain ⟨x0, x1, x2, -, -, -⟩ := box_three hx
  have bW : Below w.heap.size w (w.alloc (.cells #[.int .i64 x, .int .i64 y, .int .u8 z] 117)) := (Below.refl _ _).alloc (Nat.le_refl _) _
  by_cases h0 : x = 0
  · subst h0
    have hw : widI ⟨0, y, z⟩ = 1 := by unfold widI; rw [if_pos rfl]
    by_cases h4 : 4000 ≤ n
    · have e : tokBad n ⟨0, y, z⟩ = 4 := by unfold tokBad; rw [if_pos rfl, if_pos h4]
      rw [e]
      have j1 : (4000 : Int) < (n : Int) + 1 := by omega
      clear e
      go_enter Tryd.func84, Tryd.ntmps84
      go_wp2_with fail
      generalize w.alloc (.cells #[.int .i64 0, .int .i64 y, .int .u8 z] 117) = W at *
      refine (width_any 0 y z W).mono ?_
      rintro r w1 ⟨rfl, hb1⟩
      rw [hw]
      have b1 := bW.trans (hb1.mono bW.size)
      go_wp2_with fail
      go_ret
      exact ⟨rfl, b1⟩
    · have e : tokBad n ⟨0, y, z⟩ = 0 := by unfold tokBad; rw [if_pos rfl, if_neg h4]
      rw [e]
      have j1 : ¬ (4000 : Int) < (n : Int) + 1 := by omega
      clear e
      go_enter Tryd.func84, Tryd.ntmps84
      go_wp2_with fail
      generalize w.alloc (.cells #[.int .i64 0, .int .i64 y, .int .u8 z] 117) = W at *
      refine (width_any 0 y z W).mono ?_
      rintro r w1 ⟨rfl, hb1⟩
      rw [hw]
      have b1 := bW.trans (hb1.mono bW.size)
      go_wp2_with fail
      go_ret
      exact ⟨rfl, b1⟩
  · have h0' : (x == 0) = false := by simpa using h0
    have hw : widI ⟨x, y, z⟩ = x := by unfold widI; rw [if_neg h0]
    by_cases hr : 3 ≤ x ∧ x ≤ 66 ∧ 1 ≤ y ∧ y ≤ 1024
    · have hi : inRP x y = true := decide_eq_true hr
      by_cases hc : (n : Int) < y
      · have e : tokBad n ⟨x, y, z⟩ = 7 := by unfold tokBad; dsimp only; rw [if_neg h0, if_neg (by omega), if_pos hc]
        rw [e]
        clear e hr
        go_enter Tryd.func84, Tryd.ntmps84
        go_wp2_with fail
        generalize w.alloc (.cells #[.int .i64 x, .int .i64 y, .int .u8 z] 117) = W at *
        refine (inRangeP_any x y z W).mono ?_
        rintro r w1 ⟨rfl, hb1⟩
        rw [hi]
        have b1 := bW.trans (hb1.mono bW.size)
        obtain ⟨z0, z1, z2, -, -, -⟩ := box_three (box_kept hx hb1)
        go_wp2_with fail
        go_ret
        exact ⟨rfl, b1⟩
      · have hc' : ¬ (n : Int) < y := hc
        obtain ⟨e', he⟩ : ∃ e', tokBad n ⟨x, y, z⟩ = e' ∧ ((4000 < (n : Int) + x ∧ e' = 4) ∨ (¬ 4000 < (n : Int) + x ∧ e' = 0)) := by
          refine ⟨_, rfl, ?_⟩
          unfold tokBad
          dsimp only
          rw [if_neg h0, if_neg (by omega), if_neg hc]
          by_cases hm : 4000 < (n : Int) + x
          · rw [if_pos hm]; exact .inl ⟨hm, rfl⟩
          · rw [if_neg hm]; exact .inr ⟨hm, rfl⟩
        rw [he.1]
        have hx66 : x ≤ 66 := hr.2.1
        have hx3 : 3 ≤ x := hr.1
        replace he := he.2
        clear hr
        rcases he with ⟨hm, rfl⟩ | ⟨hm, rfl⟩
        all_goals
          go_enter Tryd.func84, Tryd.ntmps84
          go_wp2_with fail
          generalize w.alloc (.cells #[.int .i64 x, .int .i64 y, .int .u8 z] 117) = W at *
          refine (inRangeP_any x y z W).mono ?_
          rintro r w1 ⟨rfl, hb1⟩
          rw [hi]
          have b1 := bW.trans (hb1.mono bW.size)
          obtain ⟨z0, z1, z2, -, -, -⟩ := box_three (box_kept hx hb1)
          go_wp2_with fail
          refine (width_any x y z w1).mono ?_
          rintro r w2 ⟨rfl, hb2⟩
          rw [hw]
          have b2 := b1.trans (hb2.mono b1.size)
          go_wp2_with fail
          go_ret
          exact ⟨rfl, b2⟩
    · have hi : inRP x y = false := decide_eq_false hr
      have e : tokBad n ⟨x, y, z⟩ = 3 := by unfold tokBad; dsimp only; rw [if_neg h0, if_pos (by omega)]
      rw [e]
      clear e hr
      go_enter Tryd.func84, Tryd.ntmps84
      go_wp2_with fail
      generalize w.alloc (.cells #[.int .i64 x, .int .i64 y, .int .u8 z] 117) = W at *
      refine (inRangeP_any x y z W).mono ?_
      rintro r w1 ⟨rfl, hb1⟩
      rw [hi]
      have b1 := bW.trans (hb1.mono bW.size)
      go_wp2_with fail
      go_ret
      exact ⟨rfl, b1⟩
set_option maxRecDepth 100000 in
set_option maxHeartbeats 4000000 in
theorem spell_any (out : List Int) (x y z : Int) (base : Nat) (va : Option Addr) (vc : Nat) (w : World) (hB : base ≤ w.heap.size) (hrow : w.ownsRow base 5 1 (.slice va out.length vc) out.length (out.map (Value.int .u8))) (hbad : tokBad out.length ⟨x, y, z⟩ = 0) :
    Calls Tryd.prog 85 #[.slice va out.length vc, .agg #[.int .i64 x, .int .i64 y, .int .u8 z]] w fun e w' => ∃ ta tc, e = .returned (.slice ta (tokPut out ⟨x, y, z⟩).length tc) ∧
      w'.ownsRow base 5 1 (.slice ta (tokPut out ⟨x, y, z⟩).length tc) (tokPut out ⟨x, y, z⟩).length ((tokPut out ⟨x, y, z⟩).map (Value.int .u8)) ∧ Below base w w' := by
  obtain ⟨i0, hi0, hz0, hz1, hz2⟩ := info_parts Tryd.info5b
  have hx := box_new w #[.int .i64 x, .int .i64 y, .int .u8 z] 117
  obtain ⟨x0, x1, x2, -, -, -⟩ := box_three hx
  have bW : Below base w (w.alloc (.cells #[.int .i64 x, .int .i64 y, .int .u8 z] 117)) := (Below.refl _ _).alloc hB _
  have hle := put_le hbad
  by_cases h0 : x = 0
  · subst h0
    have HP : Hid (tokPut out ⟨0, y, z⟩ = out ++ [z]) := rfl
    rw [HP.out] at hle ⊢
    rw [List.length_append, List.length_singleton] at hle
    have hnew := one_at2 w (.cells #[.int .i64 0, .int .i64 y, .int .u8 z] 117) (.int .u8 z) 5
    have hrowA := (hrow.alloc (.cells #[.int .i64 0, .int .i64 y, .int .u8 z] 117)).alloc (.cells #[.int .u8 z] 5)
    have bA : Below base w ((w.alloc (.cells #[.int .i64 0, .int .i64 y, .int .u8 z] 117)).alloc (.cells #[.int .u8 z] 5)) := bW.alloc (by simp; omega) _
    have hsA : base ≤ ((w.alloc (.cells #[.int .i64 0, .int .i64 y, .int .u8 z] 117)).alloc (.cells #[.int .u8 z] 5)).heap.size := by simp; omega
    clear hbad hrow
    go_enter Tryd.func85, Tryd.ntmps85
    go_wp2_with (at_builtin; refine wpList_append_own _ rfl (.tmp 8) (.tmp 11) 23 rfl base 5 i0 _ 1 1 Tryd.underlying23 hi0 hz0 hz1 hz2 rfl (by decide) _ _ _ rfl hrowA _ 1 1 [.int .u8 z] rfl rfl hnew (by intro u hu; simp at hu; subst hu; rfl) (by unfold maxLen; omega) (by omega) hsA ?_; intro v7 w7 ho7 hg7 _; obtain ⟨ta, tc, rfl⟩ := own_form' ho7)
    have b7 : Below base w w7 := bA.grown hg7 hsA (fun _ h => own_block hrowA h)
    go_ret
    exact ⟨ta, tc, by rw [List.length_append, List.length_singleton]; rfl, by rw [List.length_append, List.length_singleton, List.map_append]; exact ho7, b7⟩
  · have h0' : (x == 0) = false := by simpa using h0
    have hb2 := (bad_len hbad).resolve_left h0
    dsimp only at hb2
    obtain ⟨X, rfl⟩ : ∃ X : Nat, x = (X : Int) := ⟨x.toNat, by omega⟩
    obtain ⟨Y, rfl⟩ : ∃ Y : Nat, y = (Y : Int) := ⟨y.toNat, by omega⟩
    have HP : Hid (tokPut out ⟨(X : Int), (Y : Int), z⟩ = copyL X out Y) := by show _ = _; unfold tokPut; rw [if_neg h0, Int.toNat_natCast, Int.toNat_natCast]
    rw [HP.out]
    obtain ⟨F, hF⟩ : ∃ F : Nat, F = out.length - Y := ⟨_, rfl⟩
    have hFl : F + Y = out.length := by omega
    have hX66 : X ≤ 66 := by omega
    have hX4 : out.length + X ≤ 4000 := by omega
    have hY1 : 1 ≤ Y := by omega
    clear hbad hF hb2 hle
    have hrowW := hrow.alloc (.cells #[.int .i64 (X : Int), .int .i64 (Y : Int), .int .u8 z] 117)
    clear hrow
    go_enter Tryd.func85, Tryd.ntmps85
    go_wp2_with fail
    go_loopw [0, 15] (fun ov nv wi => ∃ q : Nat, q ≤ X ∧ nv = .int .i64 q ∧ (∃ va vc, ov = .slice va (out.length + q) vc ∧ wi.ownsRow base 5 1 (.slice va (out.length + q) vc) (out.length + q) ((copyL q out Y).map (Value.int .u8))) ∧ wi.heap[w.heap.size]? = some (.cells #[.int .i64 (X : Int), .int .i64 (Y : Int), .int .u8 z] 117 (0, 0)) ∧ Below base w wi) (fun _ nv _ => X - (intOf nv).toNat)
    case atStart => exact ⟨0, Nat.zero_le _, rfl, ⟨va, vc, rfl, hrowW⟩, hx, bW⟩
    case round =>
      obtain ⟨wi, rfl⟩ : ∃ x, x = wr := ⟨wr, rfl⟩
      obtain ⟨q, hq, rfl, ⟨ra, rc, rfl, hri⟩, hti, hbi⟩ := hrel
      clear hrowW hx bW x0 x1 x2
      obtain ⟨y0, y1, y2, -, -, -⟩ := box_three hti
      have hsi := hbi.size
      by_cases hqX : q < X
      · obtain ⟨g, eg, hcg, -, hg1⟩ := own_get (z := 0) hri (F + q) (by omega)
        cases eg
        have HC : Hid (copyL (q + 1) out Y = copyL q out Y ++ [(copyL q out Y).getD (F + q) 0]) := by
          show _ = _
          rw [copy_snoc, copyL_length, show out.length + q - Y = F + q by omega]
        have hnew := cell_one_new wi (.int .u8 ((copyL q out Y).getD (F + q) 0)) 5
        have hqX' : (q : Int) < X := by omega
        have HM : Hid ((copyL (q + 1) out Y).map (Value.int .u8) = (copyL q out Y).map (Value.int .u8) ++ [.int .u8 ((copyL q out Y).getD (F + q) 0)]) := by
          show _ = _
          rw [HC.out, List.map_append]; rfl
        have w1 : IntKind.i64.wrap ((out.length : Int) + q - Y) = (F : Int) + q := by rw [IntKind.wrap_i64]; omega
        have w2 : IntKind.i64.wrap (((out.length + q : Nat) : Int) - Y) = (F : Int) + q := by rw [IntKind.wrap_i64]; omega
        have j1 : (F : Int) + q < ((out.length + q : Nat) : Int) := by omega
        have j1' : (F : Int) + q < (out.length : Int) + q := by omega
        have j2 : 0 ≤ (F : Int) + q := by omega
        generalize (copyL q out Y).getD (F + q) 0 = c at *
        clear HC
        go_wp2_with (at_builtin; refine wpList_append_own _ rfl (.tmp 17) (.tmp 26) 23 rfl base 5 i0 _ 1 1 Tryd.underlying23 hi0 hz0 hz1 hz2 rfl (by decide) _ _ _ rfl (hri.alloc _) _ 1 1 [.int .u8 c] rfl rfl hnew (by intro u hu; simp at hu; subst hu; rfl) (by unfold maxLen; omega) (by omega) (by simp; omega) ?_; intro v7 w7 ho7 hg7 _; obtain ⟨ta, tc, rfl⟩ := own_form' ho7)
        have ht7 := grown_box hg7 (hri.alloc _) (box_old _ _ hti) (by decide)
        have b7 : Below base w w7 := (hbi.alloc (by omega) _).grown hg7 (by simp; omega) (fun _ h => own_block hri h)
        exact ⟨⟨q + 1, by omega, by go_num, ⟨ta, tc, rfl, by rw [HM.out]; exact ho7⟩, ht7, b7⟩, by simp [intOf]; omega⟩
      · obtain rfl : q = X := by omega
        have hcl : (copyL q out Y).length = out.length + q := copyL_length q out Y
        have HCL : Hid ((copyL q out Y).length = out.length + q) := hcl
        clear hcl
        go_wp2_with fail
        go_ret
        exact ⟨ra, rc, by rw [HCL.out]; rfl, by rw [HCL.out]; exact hri, hbi⟩

set_option maxRecDepth 100000 in
set_option maxHeartbeats 8000000 in
theorem textC_holds : TextC := fun l lv w hl => by
  obtain ⟨la, lc, rfl, hr1, hr2, hcell⟩ := hl.form
  unfold maxLen at hr2
  have b0 : Below w.heap.size w (w.alloc (.cells #[.int .i64 0, .int .i64 0] 31)) := (Below.refl _ _).alloc (Nat.le_refl _) _
  have hf0 := box_new w #[.int .i64 0, .int .i64 0] 31
  have HT0 : Hid (textFrom [] 0 (l.drop 0) = textL l) := rfl
  clear hl
  go_enter Tryd.func58, Tryd.ntmps58
  go_wp2_with fail
  go_loopw [4, 10] (fun ov i wr => ∃ (k : Nat) (out : List Int), k ≤ l.length ∧ i = .int .i64 k ∧ Hid (textFrom out k (l.drop k) = textL l) ∧ out.length ≤ 4000 ∧ (∃ va vc, ov = .slice va out.length vc ∧ wr.ownsRow (w.heap.size + 1) 5 1 (.slice va out.length vc) out.length (out.map (Value.int .u8))) ∧ wr.heap[w.heap.size]? = some (.cells #[.int .i64 0, .int .i64 0] 31 (0, 0)) ∧ Below w.heap.size w wr) (fun _ i _ => l.length - (intOf i).toNat)
  case atStart => exact ⟨0, [], Nat.zero_le _, rfl, HT0, Nat.zero_le _, ⟨none, 0, rfl, World.ownsRow_nil _ _ _ _⟩, hf0, b0⟩
  case round =>
    obtain ⟨wo, rfl⟩ : ∃ x, x = wr := ⟨wr, rfl⟩
    obtain ⟨k, out, hk, rfl, HT, hol, ⟨va, vc, rfl, hrow⟩, hfb, hbr⟩ := hrel
    clear b0 hf0 HT0
    by_cases hlt : k < l.length
    · replace hcell := hcell.resolve_left (by omega)
      obtain ⟨tb, to, rfl, htb, hcell⟩ := hcell
      obtain ⟨d0, d1, d2⟩ := hcell k hlt
      replace d0 := (hbr.cell (p := ⟨tb, to + k * 3, none⟩) htb).trans d0
      replace d1 := (hbr.cell (p := ⟨tb, to + k * 3 + 1, none⟩) htb).trans d1
      replace d2 := (hbr.cell (p := ⟨tb, to + k * 3 + 2, none⟩) htb).trans d2
      have HST : Hid (textL l = if tokBad out.length (l.getD k tok0) ≠ 0 then ([], tokBad out.length (l.getD k tok0), (k : Int)) else textFrom (tokPut out (l.getD k tok0)) (k + 1) (l.drop (k + 1))) := by
        show _ = _
        rw [← HT.out, List.drop_eq_getElem_cons hlt, textFrom, List.getD_eq_getElem?_getD, List.getElem?_eq_getElem hlt]
        rfl
      have hlt' : (k : Int) < l.length := by omega
      clear HT hcell
      generalize l.getD k tok0 = t at *
      obtain ⟨x, y, z⟩ := t
      dsimp only at d0 d1 d2
      have hs := lt_heap hfb
      have ht1 := box_new wo #[.int .i64 x, .int .i64 y, .int .u8 z] 117
      obtain ⟨x0, x1, x2, -, -, -⟩ := box_three ht1
      have hf1 := box_old wo (.cells #[.int .i64 x, .int .i64 y, .int .u8 z] 117) hfb
      have bW : Below w.heap.size w (wo.alloc (.cells #[.int .i64 x, .int .i64 y, .int .u8 z] 117)) := hbr.alloc hbr.size _
      have hrowW := hrow.alloc (.cells #[.int .i64 x, .int .i64 y, .int .u8 z] 117)
      have hsW : wo.heap.size < (wo.alloc (.cells #[.int .i64 x, .int .i64 y, .int .u8 z] 117)).heap.size := by simp
      clear hrow hbr hfb
      go_wp2_with fail
      generalize wo.alloc (.cells #[.int .i64 x, .int .i64 y, .int .u8 z] 117) = W at *
      refine (wrongTok_any x y z out.length W hol).mono ?_
      rintro r w1 ⟨rfl, hb1⟩
      have b1 := bW.trans (hb1.mono bW.size)
      have hf2 := box_kept hf1 hb1
      by_cases hbad : tokBad out.length ⟨x, y, z⟩ = 0
      · have HN : Hid (textFrom (tokPut out ⟨x, y, z⟩) (k + 1) (l.drop (k + 1)) = textL l) := by
          show _ = _
          rw [HST.out, if_neg (fun h => h hbad)]
        rw [hbad]
        obtain ⟨z0, z1, z2, -, -, -⟩ := box_three (box_kept ht1 hb1)
        have hrow1 := own_below hrowW hb1 (Nat.le_refl _)
        have hS := spell_any out x y z (w.heap.size + 1) va vc w1 (lt_heap hf2) hrow1 hbad
        have hpl := put_le hbad
        clear hrow1 hrowW HST
        go_wp2_with fail
        refine hS.mono ?_
        rintro r w2 ⟨ta, tc, rfl, ho2, hb2⟩
        have hf3 := box_below hf2 hb2 (Nat.lt_succ_self _)
        have b2 := b1.trans (hb2.mono (Nat.le_succ _))
        generalize tokPut out ⟨x, y, z⟩ = P at *
        clear hS hbad
        go_wp2_with fail
        exact ⟨⟨k + 1, P, by omega, by go_num, HN, hpl, ⟨ta, tc, rfl, ho2⟩, hf3, b2⟩, by simp [intOf]; omega⟩
      · have HB : Hid (textL l = ([], tokBad out.length ⟨x, y, z⟩, (k : Int))) := by
          show _ = _
          rw [HST.out, if_pos hbad]
        generalize tokBad out.length ⟨x, y, z⟩ = E at *
        have hE : (E == 0) = false := by simpa using hbad
        have hE' : ¬ E = 0 := hbad
        obtain ⟨q0, q1, q2, q3⟩ := box_two hf2
        clear HST hrowW hbad
        go_wp2_with fail
        exact bodyPost_ret (v := .tuple #[.slice none 0 0, faultV4 (E, (k : Int))]) (by simp [results, Tryd.results58, go_sem, q0, q1]) rfl ⟨_, by rw [HB.out], by rw [HB.out]; exact bytesAt_nil _, by rw [HB.out]; exact ⟨none, 0, rfl, Nat.le_refl _, Nat.zero_le _⟩, (b1.setCell (p := ⟨w.heap.size, 0, none⟩) (Nat.le_refl _) _).setCell (p := ⟨w.heap.size, 1, none⟩) (Nat.le_refl _) _⟩
    · obtain rfl : k = l.length := by omega
      have HE : Hid (textL l = (out, 0, 0)) := by
        show _ = _
        rw [← HT.out, List.drop_eq_nil_of_le (Nat.le_refl _)]
        rfl
      obtain ⟨q0, q1, q2, q3⟩ := box_two hfb
      have hB := bytesAt_own (ownsRow_setCell_below (ownsRow_setCell_below hrow (a := ⟨w.heap.size, 0, none⟩) (Nat.lt_succ_self _) (.int .i64 0)) (a := ⟨w.heap.size, 1, none⟩) (Nat.lt_succ_self _) (.int .i64 0))
      have bE := (hbr.setCell (p := ⟨w.heap.size, 0, none⟩) (Nat.le_refl _) (.int .i64 0)).setCell (p := ⟨w.heap.size, 1, none⟩) (Nat.le_refl _) (.int .i64 0)
      have hR : RoomV (.slice va out.length vc) out.length := by obtain ⟨a, c, e, h1, h2⟩ := own_cap hrow; exact ⟨a, c, e, h1, h2⟩
      clear hcell hrow HT
      go_wp2_with fail
      exact bodyPost_ret (v := .tuple #[.slice va out.length vc, faultV4 (0, 0)]) (by simp [results, Tryd.results58, go_sem, q0, q1]) rfl ⟨_, by rw [HE.out], by rw [HE.out]; exact hB, by rw [HE.out]; exact hR, bE⟩

end Go.Proofs.YtkjlchfmplcobadDoor
