/- The walk of yearref4.Text: the document's own text of tokens. -/
import Derived.Test.YtkjlchfmplcobacProg
import Derived.Test.YtkjlchfmplcobacPackToks
import Derived.Test.YtkjlchfmplcobacPackRefTokens
import Derived.Test.YtkjlchfmplcobacPackTake
import Derived.WalkKit
import Derived.WalkSpells
import Derived.WalkLawsBesides
import Derived.Deep.RegionHeld3
import Derived.BigRegion
import Derived.Deep.QuietTactic
import Derived.BigQuiet
namespace Go.Proofs.Ytkjlchfmplcobac
open Go.RowKit

set_option maxRecDepth 100000 in
set_option maxHeartbeats 1000000 in
theorem text1_any (e : Int) (k B : Nat) (w : World) (h : w.heap[B]? = some (.cells #[.int .i64 (k : Int)] 3 (0, 0))) :
    Calls Try.prog 21 #[.int .i64 e, .pointer (some ⟨B, 0, none⟩)] w fun r w' => r = .returned (.tuple #[.slice none 0 0, .agg #[.int .i64 e, .int .i64 (k : Int)]]) ∧ Below w.heap.size w w' := by
  have b0 : Below w.heap.size w (w.alloc (.cells #[.int .i64 0, .int .i64 0] 29)) := (Below.refl _ _).alloc (Nat.le_refl _) _
  have hB := lt_heap h
  have z0 := (box_cell (box_old w (.cells #[.int .i64 0, .int .i64 0] 29) h)).1
  obtain ⟨q0, q1, q2, q3⟩ := box_two (box_new w #[.int .i64 0, .int .i64 0] 29)
  have hne : B ≠ w.heap.size := by omega
  go_enter Try.func21, Try.ntmps21
  go_wp2_with fail
  generalize w.alloc (.cells #[.int .i64 0, .int .i64 0] 29) = W at *
  go_region
  all_goals
    go_wp2_with fail
    exact bodyPost_ret (v := .tuple #[.slice none 0 0, .agg #[.int .i64 e, .int .i64 (k : Int)]]) (by simp [results, Try.results21, go_sem, q0, q1]) rfl ⟨rfl, ((b0.setCell (p := ⟨w.heap.size, 0, none⟩) (Nat.le_refl _) _).setCell (p := ⟨w.heap.size, 1, none⟩) (Nat.le_refl _) _).drew⟩

set_option maxRecDepth 100000 in
set_option maxHeartbeats 8000000 in
theorem refText_any (l : List Tok) (lv : Value) (w : World) (hl : ToksAt w lv l) :
    Calls Try.prog 10 #[lv] w fun e w' => ∃ v, e = .returned (.tuple #[v, faultV4 (textL l).2]) ∧ BytesAt w' v (textL l).1 ∧ Below w.heap.size w w' := by
  obtain ⟨i0, hi0, hz0, hz1, hz2⟩ := info_parts Try.info5b
  obtain ⟨la, lc, rfl, hr1, hr2, hcell⟩ := hl.form
  unfold maxLen at hr2
  have b0 : Below w.heap.size w (w.alloc (.cells #[.int .i64 0, .int .i64 0] 29)) := (Below.refl _ _).alloc (Nat.le_refl _) _
  have hf0 := box_new w #[.int .i64 0, .int .i64 0] 29
  have HT0 : Hid (textFrom [] 0 (l.drop 0) = textL l) := rfl
  clear hl
  go_enter Try.func10, Try.ntmps10
  go_wp2_with fail
  go_loopw [4, 12] (fun ov i wr => ∃ (k : Nat) (out : List Int), k ≤ l.length ∧ i = .int .i64 k ∧ Hid (textFrom out k (l.drop k) = textL l) ∧ out.length ≤ 4000 ∧ (∃ va vc, ov = .slice va out.length vc ∧ wr.ownsRow (w.heap.size + 1) 5 1 (.slice va out.length vc) out.length (out.map (Value.int .u8))) ∧ wr.heap[w.heap.size]? = some (.cells #[.int .i64 0, .int .i64 0] 29 (0, 0)) ∧ Below w.heap.size w wr ∧ w.heap.size < wr.heap.size) (fun _ i _ => l.length - (intOf i).toNat)
  case atStart => exact ⟨0, [], Nat.zero_le _, rfl, HT0, Nat.zero_le _, ⟨none, 0, rfl, World.ownsRow_nil _ _ _ _⟩, hf0, b0, by simp⟩
  case round =>
    obtain ⟨wo, rfl⟩ : ∃ x, x = wr := ⟨wr, rfl⟩
    obtain ⟨k, out, hk, rfl, HT, hol, ⟨va, vc, rfl, hrow⟩, hfb, hbr, hsz⟩ := hrel
    clear b0 hf0 HT0
    by_cases hlt : k < l.length
    · replace hcell := hcell.resolve_left (by omega)
      obtain ⟨tb, to, rfl, htb, hcell⟩ := hcell
      obtain ⟨d0, d1, d2⟩ := hcell k hlt
      replace d0 := (hbr.cell (p := ⟨tb, to + k * 3, none⟩) htb).trans d0
      replace d1 := (hbr.cell (p := ⟨tb, to + k * 3 + 1, none⟩) htb).trans d1
      replace d2 := (hbr.cell (p := ⟨tb, to + k * 3 + 2, none⟩) htb).trans d2
      have HST : Hid (textL l = if tokBad out.length (l.getD k tok0) ≠ 0 then ([], tokBad out.length (l.getD k tok0), (k : Int)) else textFrom (tokPut out (l.getD k tok0)) (k + 1) (l.drop (k + 1))) := by
        show _ = _
        rw [← HT.out, List.drop_eq_getElem_cons hlt, textFrom, List.getD_eq_getElem?_getD, List.getElem?_eq_getElem hlt]
        rfl
      clear HT
      generalize l.getD k tok0 = t at *
      obtain ⟨x, y, z⟩ := t
      dsimp only at d0 d1 d2
      -- the round's own variables
      have hi1 := box_one wo #[.int .i64 (k : Int)] 3 (.cells #[.int .i64 x, .int .i64 y, .int .u8 z] 40)
      have ht1 := box_last wo (.cells #[.int .i64 (k : Int)] 3) #[.int .i64 x, .int .i64 y, .int .u8 z] 40
      obtain ⟨x0, x1, x2, -, -, -⟩ := box_three ht1
      have hf1 := box_old _ (.cells #[.int .i64 x, .int .i64 y, .int .u8 z] 40) (box_old wo (.cells #[.int .i64 (k : Int)] 3) hfb)
      have bW : Below wo.heap.size wo ((wo.alloc (.cells #[.int .i64 (k : Int)] 3)).alloc (.cells #[.int .i64 x, .int .i64 y, .int .u8 z] 40)) := ((Below.refl _ _).alloc (Nat.le_refl _) _).alloc (by simp) _
      have bWw := hbr.trans (bW.mono hbr.size)
      have hbad : ∀ e : Int, _ := fun e => text1_any e k wo.heap.size _ hi1
      obtain ⟨f0, f1, f2, f3⟩ := box_two hf1
      have hrowW := (hrow.alloc (.cells #[.int .i64 (k : Int)] 3)).alloc (.cells #[.int .i64 x, .int .i64 y, .int .u8 z] 40)
      by_cases hx : x = 0
      · subst hx
        by_cases h4 : 4000 ≤ out.length
        · have HB : Hid (textL l = ([], 4, (k : Int))) := by
            show _ = _
            rw [HST.out]
            have e : tokBad out.length ⟨0, y, z⟩ = 4 := by unfold tokBad; rw [if_pos rfl, if_pos h4]
            rw [e, if_pos (by decide)]
          have h4' : (4000 : Int) ≤ out.length := by omega
          clear HST hcell
          go_wp2_with fail
          refine (hbad 4).mono ?_
          rintro e w7 ⟨rfl, hb7⟩
          have b7 := bWw.trans (hb7.mono bWw.size)
          obtain ⟨q0, q1, q2, q3⟩ := box_two (box_kept hf1 hb7)
          clear hbad hb7
          go_wp2_with fail
          exact bodyPost_ret (v := .tuple #[.slice none 0 0, faultV4 (4, (k : Int))]) (by simp [results, Try.results10, go_sem, q0, q1]) rfl ⟨_, by rw [HB.out], by rw [HB.out]; exact bytesAt_nil _, (b7.setCell (p := ⟨w.heap.size, 0, none⟩) (Nat.le_refl _) _).setCell (p := ⟨w.heap.size, 1, none⟩) (Nat.le_refl _) _⟩
        · have h4' : ¬ (4000 : Int) ≤ out.length := by omega
          have HN : Hid (textFrom (out ++ [z]) (k + 1) (l.drop (k + 1)) = textL l) := by
            show _ = _
            rw [HST.out]
            have e : tokBad out.length ⟨0, y, z⟩ = 0 := by unfold tokBad; rw [if_pos rfl, if_neg h4]
            rw [e, if_neg (fun h => h rfl)]
            rfl
          have hnew := cell_one_new ((wo.alloc (.cells #[.int .i64 (k : Int)] 3)).alloc (.cells #[.int .i64 0, .int .i64 y, .int .u8 z] 40)) (.int .u8 z) 5
          rw [World.size_alloc, World.size_alloc] at hnew
          clear HST hcell hbad
          go_wp2_with (at_builtin; refine wpList_append_own _ rfl (.tmp 28) (.tmp 31) 22 rfl (w.heap.size + 1) 5 i0 _ 1 1 Try.underlying22 hi0 hz0 hz1 hz2 rfl (by decide) _ _ _ rfl (hrowW.alloc _) _ 1 1 [.int .u8 z] rfl rfl hnew (by intro u hu; simp at hu; subst hu; rfl) (by unfold maxLen; omega) (by omega) (by simp; omega) ?_; intro v7 w7 ho7 hg7 _; obtain ⟨ta, tc, rfl⟩ := own_form' ho7)
          have hf7 := grown_box hg7 (hrowW.alloc _) (box_old _ _ hf1) (by decide)
          have b7 : Below w.heap.size w w7 := (bWw.alloc bWw.size _).grown hg7 (by have := bWw.size; simp at this ⊢; omega) (fun _ h => Nat.le_of_succ_le (own_block hrowW h))
          have hs7 : w.heap.size < w7.heap.size := lt_heap hf7
          have ho8 : w7.ownsRow (w.heap.size + 1) 5 1 (.slice ta (out ++ [z]).length tc) (out ++ [z]).length ((out ++ [z]).map (Value.int .u8)) := by
            rw [List.length_append, List.length_singleton, List.map_append, List.map_singleton]
            exact ho7
          go_roundw
          case rel => exact ⟨k + 1, out ++ [z], by omega, by go_num, HN, by rw [List.length_append, List.length_singleton]; omega, ⟨ta, tc, by rw [List.length_append, List.length_singleton], ho8⟩, hf7, b7, hs7⟩
          case measure => simp [intOf]; omega
      · have hx' : (x == 0) = false := by simpa using hx
        by_cases c1 : x < 3
        · have HB : Hid (textL l = ([], 3, (k : Int))) := by
            show _ = _
            rw [HST.out]
            have e : tokBad out.length ⟨x, y, z⟩ = 3 := by
              unfold tokBad
              simp only
              rw [if_neg hx, if_pos (by omega)]
            rw [e, if_pos (by decide)]
          clear HST hcell
          go_wp2_with fail
          refine (hbad 3).mono ?_
          rintro e w7 ⟨rfl, hb7⟩
          have b7 := bWw.trans (hb7.mono bWw.size)
          obtain ⟨q0, q1, q2, q3⟩ := box_two (box_kept hf1 hb7)
          clear hbad hb7
          go_wp2_with fail
          exact bodyPost_ret (v := .tuple #[.slice none 0 0, faultV4 (3, (k : Int))]) (by simp [results, Try.results10, go_sem, q0, q1]) rfl ⟨_, by rw [HB.out], by rw [HB.out]; exact bytesAt_nil _, (b7.setCell (p := ⟨w.heap.size, 0, none⟩) (Nat.le_refl _) _).setCell (p := ⟨w.heap.size, 1, none⟩) (Nat.le_refl _) _⟩
        by_cases c2 : 66 < x
        · have HB : Hid (textL l = ([], 3, (k : Int))) := by
            show _ = _
            rw [HST.out]
            have e : tokBad out.length ⟨x, y, z⟩ = 3 := by
              unfold tokBad
              simp only
              rw [if_neg hx, if_pos (by omega)]
            rw [e, if_pos (by decide)]
          clear HST hcell
          go_wp2_with fail
          refine (hbad 3).mono ?_
          rintro e w7 ⟨rfl, hb7⟩
          have b7 := bWw.trans (hb7.mono bWw.size)
          obtain ⟨q0, q1, q2, q3⟩ := box_two (box_kept hf1 hb7)
          clear hbad hb7
          go_wp2_with fail
          exact bodyPost_ret (v := .tuple #[.slice none 0 0, faultV4 (3, (k : Int))]) (by simp [results, Try.results10, go_sem, q0, q1]) rfl ⟨_, by rw [HB.out], by rw [HB.out]; exact bytesAt_nil _, (b7.setCell (p := ⟨w.heap.size, 0, none⟩) (Nat.le_refl _) _).setCell (p := ⟨w.heap.size, 1, none⟩) (Nat.le_refl _) _⟩
        by_cases c3 : y < 1
        · have HB : Hid (textL l = ([], 3, (k : Int))) := by
            show _ = _
            rw [HST.out]
            have e : tokBad out.length ⟨x, y, z⟩ = 3 := by
              unfold tokBad
              simp only
              rw [if_neg hx, if_pos (by omega)]
            rw [e, if_pos (by decide)]
          clear HST hcell
          go_wp2_with fail
          refine (hbad 3).mono ?_
          rintro e w7 ⟨rfl, hb7⟩
          have b7 := bWw.trans (hb7.mono bWw.size)
          obtain ⟨q0, q1, q2, q3⟩ := box_two (box_kept hf1 hb7)
          clear hbad hb7
          go_wp2_with fail
          exact bodyPost_ret (v := .tuple #[.slice none 0 0, faultV4 (3, (k : Int))]) (by simp [results, Try.results10, go_sem, q0, q1]) rfl ⟨_, by rw [HB.out], by rw [HB.out]; exact bytesAt_nil _, (b7.setCell (p := ⟨w.heap.size, 0, none⟩) (Nat.le_refl _) _).setCell (p := ⟨w.heap.size, 1, none⟩) (Nat.le_refl _) _⟩
        by_cases c4 : 1024 < y
        · have HB : Hid (textL l = ([], 3, (k : Int))) := by
            show _ = _
            rw [HST.out]
            have e : tokBad out.length ⟨x, y, z⟩ = 3 := by
              unfold tokBad
              simp only
              rw [if_neg hx, if_pos (by omega)]
            rw [e, if_pos (by decide)]
          clear HST hcell
          go_wp2_with fail
          refine (hbad 3).mono ?_
          rintro e w7 ⟨rfl, hb7⟩
          have b7 := bWw.trans (hb7.mono bWw.size)
          obtain ⟨q0, q1, q2, q3⟩ := box_two (box_kept hf1 hb7)
          clear hbad hb7
          go_wp2_with fail
          exact bodyPost_ret (v := .tuple #[.slice none 0 0, faultV4 (3, (k : Int))]) (by simp [results, Try.results10, go_sem, q0, q1]) rfl ⟨_, by rw [HB.out], by rw [HB.out]; exact bytesAt_nil _, (b7.setCell (p := ⟨w.heap.size, 0, none⟩) (Nat.le_refl _) _).setCell (p := ⟨w.heap.size, 1, none⟩) (Nat.le_refl _) _⟩
        by_cases c5 : (out.length : Int) < y
        · have HB : Hid (textL l = ([], 7, (k : Int))) := by
            show _ = _
            rw [HST.out]
            have e : tokBad out.length ⟨x, y, z⟩ = 7 := by
              unfold tokBad
              simp only
              rw [if_neg hx, if_neg (by omega), if_pos c5]
            rw [e, if_pos (by decide)]
          clear HST hcell
          go_wp2_with fail
          refine (hbad 7).mono ?_
          rintro e w7 ⟨rfl, hb7⟩
          have b7 := bWw.trans (hb7.mono bWw.size)
          obtain ⟨q0, q1, q2, q3⟩ := box_two (box_kept hf1 hb7)
          clear hbad hb7
          go_wp2_with fail
          exact bodyPost_ret (v := .tuple #[.slice none 0 0, faultV4 (7, (k : Int))]) (by simp [results, Try.results10, go_sem, q0, q1]) rfl ⟨_, by rw [HB.out], by rw [HB.out]; exact bytesAt_nil _, (b7.setCell (p := ⟨w.heap.size, 0, none⟩) (Nat.le_refl _) _).setCell (p := ⟨w.heap.size, 1, none⟩) (Nat.le_refl _) _⟩
        by_cases c6 : (4000 : Int) < (out.length : Int) + x
        · have HB : Hid (textL l = ([], 4, (k : Int))) := by
            show _ = _
            rw [HST.out]
            have e : tokBad out.length ⟨x, y, z⟩ = 4 := by
              unfold tokBad
              simp only
              rw [if_neg hx, if_neg (by omega), if_neg c5, if_pos c6]
            rw [e, if_pos (by decide)]
          clear HST hcell
          go_wp2_with fail
          refine (hbad 4).mono ?_
          rintro e w7 ⟨rfl, hb7⟩
          have b7 := bWw.trans (hb7.mono bWw.size)
          obtain ⟨q0, q1, q2, q3⟩ := box_two (box_kept hf1 hb7)
          clear hbad hb7
          go_wp2_with fail
          exact bodyPost_ret (v := .tuple #[.slice none 0 0, faultV4 (4, (k : Int))]) (by simp [results, Try.results10, go_sem, q0, q1]) rfl ⟨_, by rw [HB.out], by rw [HB.out]; exact bytesAt_nil _, (b7.setCell (p := ⟨w.heap.size, 0, none⟩) (Nat.le_refl _) _).setCell (p := ⟨w.heap.size, 1, none⟩) (Nat.le_refl _) _⟩
        obtain ⟨X, rfl⟩ : ∃ X : Nat, x = (X : Int) := ⟨x.toNat, by omega⟩
        obtain ⟨Y, rfl⟩ : ∃ Y : Nat, y = (Y : Int) := ⟨y.toNat, by omega⟩
        have HN : Hid (textFrom (copyL X out Y) (k + 1) (l.drop (k + 1)) = textL l) := by
          show _ = _
          rw [HST.out]
          have e : tokBad out.length ⟨(X : Int), (Y : Int), z⟩ = 0 := by
            unfold tokBad
            simp only
            rw [if_neg hx, if_neg (by omega), if_neg c5, if_neg c6]
          rw [e, if_neg (fun h => h rfl)]
          unfold tokPut
          simp only
          rw [if_neg hx, Int.toNat_natCast, Int.toNat_natCast]
        obtain ⟨F, hF⟩ : ∃ F : Nat, F = out.length - Y := ⟨_, rfl⟩
        have hFl : F + Y = out.length := by omega
        have hX66 : X ≤ 66 := by omega
        have hX4 : out.length + X ≤ 4000 := by omega
        have hY1 : 1 ≤ Y := by omega
        have hsW := bWw.size
        clear HST hcell hbad hF
        have hlW : wo.heap.size + 1 < ((wo.alloc (.cells #[.int .i64 (k : Int)] 3)).alloc (.cells #[.int .i64 (X : Int), .int .i64 (Y : Int), .int .u8 z] 40)).heap.size := by simp
        go_wp2_with fail
        have hFe : (out.length : Int) - Y = (F : Int) := by omega
        simp only [hFe]
        clear hFe d0 d1 d2
        go_loopw [4, 9] (fun ov nv wi => ∃ q : Nat, q ≤ X ∧ nv = .int .i64 q ∧ (∃ va vc, ov = .slice va (out.length + q) vc ∧ wi.ownsRow (w.heap.size + 1) 5 1 (.slice va (out.length + q) vc) (out.length + q) ((copyL q out Y).map (Value.int .u8))) ∧ wi.heap[wo.heap.size + 1]? = some (.cells #[.int .i64 (X : Int), .int .i64 (Y : Int), .int .u8 z] 40 (0, 0)) ∧ wi.heap[w.heap.size]? = some (.cells #[.int .i64 0, .int .i64 0] 29 (0, 0)) ∧ Below w.heap.size w wi) (fun _ nv _ => X - (intOf nv).toNat)
        case atStart => exact ⟨0, Nat.zero_le _, rfl, ⟨va, vc, rfl, hrowW⟩, ht1, hf1, bWw⟩
        case round =>
          obtain ⟨wi, rfl⟩ : ∃ x, x = wr := ⟨wr, rfl⟩
          obtain ⟨q, hq, rfl, ⟨ra, rc, rfl, hri⟩, hti, hfi, hbi⟩ := hrel
          clear hrowW ht1 hf1 bWw x0 x1 x2 f0 f1 f2 f3 hi1 bW
          obtain ⟨y0, y1, y2, -, -, -⟩ := box_three hti
          by_cases hqX : q < X
          · obtain ⟨g, eg, hcg, -, hg1⟩ := own_get (z := 0) hri (F + q) (by omega)
            cases eg
            have HC : Hid (copyL (q + 1) out Y = copyL q out Y ++ [(copyL q out Y).getD (F + q) 0]) := by
              show _ = _
              rw [copy_snoc, copyL_length, show out.length + q - Y = F + q by omega]
            have hnew := cell_one_new wi (.int .u8 ((copyL q out Y).getD (F + q) 0)) 5
            have hsi := hbi.size
            have hsi2 : w.heap.size + 1 ≤ wi.heap.size := lt_heap hfi
            have hv : ((copyL q out Y) ++ [(copyL q out Y).getD (F + q) 0]).length = out.length + (q + 1) := by rw [List.length_append, copyL_length]; rfl
            have j1 : (F : Int) + q < ((out.length + q : Nat) : Int) := by omega
            have HM : Hid ((copyL (q + 1) out Y).map (Value.int .u8) = (copyL q out Y).map (Value.int .u8) ++ [.int .u8 ((copyL q out Y).getD (F + q) 0)]) := by
              show _ = _
              rw [HC.out, List.map_append]; rfl
            generalize (copyL q out Y).getD (F + q) 0 = c at *
            go_wp2_with (at_builtin; refine wpList_append_own _ rfl (.tmp 85) (.tmp 92) 22 rfl (w.heap.size + 1) 5 i0 _ 1 1 Try.underlying22 hi0 hz0 hz1 hz2 rfl (by decide) _ _ _ rfl (hri.alloc _) _ 1 1 [.int .u8 c] rfl rfl hnew (by intro u hu; simp at hu; subst hu; rfl) (by unfold maxLen; omega) (by omega) (by simp; omega) ?_; intro v7 w7 ho7 hg7 _; obtain ⟨ta, tc, rfl⟩ := own_form' ho7)
            have ht7 := grown_box hg7 (hri.alloc _) (box_old _ _ hti) (by decide)
            have hf7 := grown_box hg7 (hri.alloc _) (box_old _ _ hfi) (by decide)
            have b7 : Below w.heap.size w w7 := (hbi.alloc hsi _).grown hg7 (by simp; omega) (fun _ h => Nat.le_of_succ_le (own_block hri h))
            exact ⟨⟨q + 1, by omega, by go_num, ⟨ta, tc, rfl, by rw [HM.out]; exact ho7⟩, ht7, hf7, b7⟩, by simp [intOf]; omega⟩
          · obtain rfl : q = X := by omega
            have hs7 : w.heap.size < wi.heap.size := lt_heap hfi
            have hcl : (copyL q out Y).length = out.length + q := copyL_length q out Y
            have ho8 : wi.ownsRow (w.heap.size + 1) 5 1 (.slice ra (copyL q out Y).length rc) (copyL q out Y).length ((copyL q out Y).map (Value.int .u8)) := by rw [hcl]; exact hri
            have HCL : Hid ((copyL q out Y).length = out.length + q) := hcl
            clear hcl
            go_wp2_with fail
            exact ⟨⟨k + 1, copyL q out Y, by omega, by go_num, HN, by rw [HCL.out]; omega, ⟨ra, rc, by rw [HCL.out], ho8⟩, hfi, hbi, hs7⟩, by simp [intOf]; omega⟩
    · obtain rfl : k = l.length := by omega
      have HE : Hid (textL l = (out, 0, 0)) := by
        show _ = _
        rw [← HT.out, List.drop_eq_nil_of_le (Nat.le_refl _)]
        rfl
      obtain ⟨q0, q1, q2, q3⟩ := box_two hfb
      have hB := bytesAt_own (ownsRow_setCell_below (ownsRow_setCell_below hrow (a := ⟨w.heap.size, 0, none⟩) (Nat.lt_succ_self _) (.int .i64 0)) (a := ⟨w.heap.size, 1, none⟩) (Nat.lt_succ_self _) (.int .i64 0))
      have bE := (hbr.setCell (p := ⟨w.heap.size, 0, none⟩) (Nat.le_refl _) (.int .i64 0)).setCell (p := ⟨w.heap.size, 1, none⟩) (Nat.le_refl _) (.int .i64 0)
      clear hcell hrow HT
      go_wp2_with fail
      exact bodyPost_ret (v := .tuple #[.slice va out.length vc, faultV4 (0, 0)]) (by simp [results, Try.results10, go_sem, q0, q1]) rfl ⟨_, by rw [HE.out], by rw [HE.out]; exact hB, bE⟩

end Go.Proofs.Ytkjlchfmplcobac
