/- ShelfRefTake, ShelfGoSegment, as one text. -/
import Derived.Test.YtkjlchfmplcobadDoorProg
import Derived.Test.YtkjlchfmplcobadDoorShelfGoRead
import Derived.WalkKit
import Derived.WalkSpells
import Derived.WalkLawsBesides
import Derived.Deep.QuietTactic
import Derived.BigQuiet
import Derived.Test.YtkjlchfmplcobadDoorRunAA
/- The walk of yearref5.Take. -/
namespace Go.Proofs.YtkjlchfmplcobadDoor
open Go.RowKit

/-- A part of a row of bytes. -/
theorem own_part {w : World} {base g n c a X C : Nat} {T : List Int} (h : w.ownsRow base 5 1 (.slice (some ⟨g, 0, none⟩) n c) n (T.map (Value.int .u8))) (hl : T.length = n) (h2 : a + X ≤ n) : ByteEl w (.slice (some ⟨g, a, none⟩) X C) ((T.drop a).take X) := by
  have hl2 : ((T.drop a).take X).length = X := by rw [List.length_take, List.length_drop]; omega
  rcases h.2 with ⟨e, -⟩ | ⟨g', cap, cur, e, -, hg, -⟩
  · cases e
  · cases e
    refine .inr ⟨g, a, C, cur, _, by rw [hl2], hg, fun j hj => ?_⟩
    rw [hl2] at hj
    rw [h.cellAt (a + j) (by omega), List.getElem?_map, List.getElem?_eq_getElem (by omega), List.getD_eq_getElem?_getD, List.getElem?_take, if_pos hj, List.getElem?_drop, List.getElem?_eq_getElem (by omega)]
    rfl
set_option maxRecDepth 100000 in
set_option maxHeartbeats 8000000 in
theorem refTake_any (T : List Int) (hby : Bytes T) (hT4 : T.length ≤ 4000) (cnt : Nat) (hc8 : cnt ≤ 8) (base : Nat) (ta : Option Addr) (tn tc : Nat) (w : World) (hT : w.ownsRow base 5 1 (.slice ta tn tc) tn (T.map (Value.int .u8))) (htn : T.length = tn) :
    Calls Tryd.prog 34 #[.slice ta tn tc, .int .i64 cnt] w fun e w' => ∃ v, e = .returned (.tuple #[v, .bool (takeL cnt T).isSome]) ∧ readOk w' v (takeL cnt T) ∧ Below w.heap.size w w' := by
  obtain ⟨i0, hi0, hz0, hz1, hz2⟩ := info_parts Tryd.info23b
  obtain ⟨ra, rc, er, hr1, hr2⟩ := own_cap hT
  cases er
  unfold maxLen at hr2
  have HD0 : Hid (takeL cnt T = (takeL (cnt - 0) (T.drop 0)).map (([] : List (List Int)) ++ ·)) := by
    show _ = _
    simp
  go_enter Tryd.func34, Tryd.ntmps34
  go_wp2_with fail
  go_loopw [6, 7, 8] (fun lv av kv wr => ∃ (k a : Nat) (done : List (List Int)) (va : Option Addr) (vc : Nat) (vs : List Value), k ≤ cnt ∧ a ≤ tn ∧ kv = .int .i64 k ∧ av = .int .i64 a ∧ done.length = k ∧ lv = .slice va k vc ∧ wr.ownsRow w.heap.size 23 1 (.slice va k vc) k vs ∧ Els wr vs done ∧ wr.ownsRow base 5 1 (.slice ta tn tc) tn (T.map (Value.int .u8)) ∧ Hid (takeL cnt T = (takeL (cnt - k) (T.drop a)).map (done ++ ·)) ∧ Below w.heap.size w wr) (fun _ _ kv _ => cnt - (intOf kv).toNat)
  case atStart => exact ⟨0, 0, [], none, 0, [], Nat.zero_le _, Nat.zero_le _, rfl, rfl, rfl, rfl, World.ownsRow_nil _ _ _ _, els_nil _, hT, HD0, Below.refl _ _⟩
  case round =>
    obtain ⟨wo, rfl⟩ : ∃ x, x = wr := ⟨wr, rfl⟩
    obtain ⟨k, a, done, va, vc, vs, hk, ha, rfl, rfl, hdl, rfl, hrow, hels, hTo, HD, hbr⟩ := hrel
    have hsr := hbr.size
    clear HD0 hT
    by_cases hlt : k < cnt
    · have hlt' : (k : Int) < cnt := by omega
      by_cases hz : a < tn
      · have hzT : a < T.length := by omega
        obtain ⟨g, hg0, hcell, -, -⟩ := own_get (z := 0) hTo a hz
        subst hg0
        have hz' : ¬ (tn : Int) ≤ a := by omega
        have hzj : (a : Int) < tn := by omega
        obtain ⟨X, HX⟩ : ∃ X : Nat, Hid (T.getD a 0 = (X : Int)) := ⟨(T.getD a 0).toNat, by show _ = _; have := hby a; omega⟩
        have hX256 : X < 256 := by have := hby a; have := HX.out; omega
        rw [HX.out] at hcell
        by_cases hx200 : 200 < X
        · have HN : Hid (takeL cnt T = none) := take_stop HD.out hlt (fun n => takeL_much hzT (by rw [HX.out]; omega))
          have hx200' : (200 : Int) < X := by omega
          clear HD hels hrow hTo
          go_wp2_with fail
          exact bodyPost_ret (v := .tuple #[.slice none 0 0, .bool false]) (by simp [results, Tryd.results34, go_sem]) rfl ⟨_, by rw [HN.out]; rfl, by rw [HN.out]; exact readOk_none _ _, hbr⟩
        · have hx200' : ¬ (200 : Int) < X := by omega
          by_cases hxm : tn < a + 1 + X
          · have HN : Hid (takeL cnt T = none) := take_stop HD.out hlt (fun n => takeL_short hzT (by rw [HX.out]; omega))
            have hxm' : (tn : Int) < (a : Int) + 1 + X := by omega
            clear HD hels hrow hTo
            go_wp2_with fail
            exact bodyPost_ret (v := .tuple #[.slice none 0 0, .bool false]) (by simp [results, Tryd.results34, go_sem]) rfl ⟨_, by rw [HN.out]; rfl, by rw [HN.out]; exact readOk_none _ _, hbr⟩
          · have hxm' : ¬ (tn : Int) < (a : Int) + 1 + X := by omega
            have HD2 : Hid (takeL cnt T = (takeL (cnt - (k + 1)) (T.drop (a + 1 + X))).map ((done ++ [(T.drop (a + 1)).take X]) ++ ·)) := take_round HD.out hlt hzT HX.out (by omega) (by omega)
            have j1 : (a : Int) + 1 + X ≤ tn := by omega
            have j2 : (a : Int) + 1 + X ≤ tc := by omega
            rcases (show tc = a + 1 ∨ ¬ tc = a + 1 by omega) with hc | hc
            · obtain rfl : X = 0 := by omega
              obtain rfl : tn = a + 1 := by omega
              subst hc
              have hE : ∀ C, ByteEl wo (.slice (some ⟨g, 0, none⟩) 0 C) ((T.drop (a + 1)).take 0) := fun C => .inl ⟨by simp, _, _, rfl, fun h => by cases h⟩
              have hEA := (hE 0).below ((Below.refl _ wo).alloc (Nat.le_refl _) (.cells #[.slice (some ⟨g, 0, none⟩) 0 0] 23)) (Nat.le_refl _)
              have helA := hels.below ((Below.refl _ wo).alloc (Nat.le_refl _) (.cells #[.slice (some ⟨g, 0, none⟩) 0 0] 23)) (Nat.le_refl _)
              have hsn := helA.append (byteEls_one hEA)
              have hrowA := hrow.alloc (.cells #[.slice (some ⟨g, 0, none⟩) 0 0] 23)
              have hTA := hTo.alloc (.cells #[.slice (some ⟨g, 0, none⟩) 0 0] 23)
              have hnew := cell_one_new wo (.slice (some ⟨g, 0, none⟩) 0 0) 23
              have bA : Below w.heap.size w (wo.alloc (.cells #[.slice (some ⟨g, 0, none⟩) 0 0] 23)) := hbr.alloc hsr _
              have hsA := bA.size
              generalize (T.drop (a + 1)).take 0 = D at *
              clear HD hels hrow hTo hE hEA helA HX hx200 hxm
              go_wp2_with (at_builtin; refine wpList_append_own _ rfl (.tmp 47) (.tmp 53) 22 rfl w.heap.size 23 i0 _ 1 24 Tryd.underlying22 hi0 hz0 hz1 hz2 rfl (by decide) _ _ _ rfl hrowA _ 1 1 [.slice (some ⟨g, 0, none⟩) 0 0] rfl rfl hnew (by intro u hu; simp at hu; subst hu; rfl) (by unfold maxLen; omega) (by omega) hsA ?_; intro v7 w7 ho7 hg7 _; obtain ⟨sa, sc, rfl⟩ := own_form' ho7)
              have b7 : Below w.heap.size w w7 := bA.grown hg7 hsA (fun _ h => own_block hrowA h)
              have hels7 := hsn.kept hrowA (by decide) hg7
              have hT7 := hTA.kept hg7 (own_ne hTA hrowA (by decide)).or
              go_roundw
              case rel => exact ⟨k + 1, a + 1 + 0, done ++ [D], sa, sc, _, by omega, by omega, by go_num, by go_num, by rw [List.length_append, hdl]; rfl, rfl, ho7, hels7, hT7, HD2, b7⟩
              case measure => simp [intOf]; omega
            · have hE := fun C => own_part (C := C) (a := a + 1) (X := X) hTo htn (by omega)
              have hEA := (hE (tc - (a + 1))).below ((Below.refl _ wo).alloc (Nat.le_refl _) (.cells #[.slice (some ⟨g, a + 1, none⟩) X (tc - (a + 1))] 23)) (Nat.le_refl _)
              have helA := hels.below ((Below.refl _ wo).alloc (Nat.le_refl _) (.cells #[.slice (some ⟨g, a + 1, none⟩) X (tc - (a + 1))] 23)) (Nat.le_refl _)
              have hsn := helA.append (byteEls_one hEA)
              have hrowA := hrow.alloc (.cells #[.slice (some ⟨g, a + 1, none⟩) X (tc - (a + 1))] 23)
              have hTA := hTo.alloc (.cells #[.slice (some ⟨g, a + 1, none⟩) X (tc - (a + 1))] 23)
              have hnew := cell_one_new wo (.slice (some ⟨g, a + 1, none⟩) X (tc - (a + 1))) 23
              have bA : Below w.heap.size w (wo.alloc (.cells #[.slice (some ⟨g, a + 1, none⟩) X (tc - (a + 1))] 23)) := hbr.alloc hsr _
              have hsA := bA.size
              generalize (T.drop (a + 1)).take X = D at *
              clear HD hels hrow hTo hE hEA helA HX hx200 hxm
              go_wp2_with (at_builtin; refine wpList_append_own _ rfl (.tmp 47) (.tmp 53) 22 rfl w.heap.size 23 i0 _ 1 24 Tryd.underlying22 hi0 hz0 hz1 hz2 rfl (by decide) _ _ _ rfl hrowA _ 1 1 [.slice (some ⟨g, a + 1, none⟩) X (tc - (a + 1))] rfl rfl hnew (by intro u hu; simp at hu; subst hu; rfl) (by unfold maxLen; omega) (by omega) hsA ?_; intro v7 w7 ho7 hg7 _; obtain ⟨sa, sc, rfl⟩ := own_form' ho7)
              have b7 : Below w.heap.size w w7 := bA.grown hg7 hsA (fun _ h => own_block hrowA h)
              have hels7 := hsn.kept hrowA (by decide) hg7
              have hT7 := hTA.kept hg7 (own_ne hTA hrowA (by decide)).or
              go_roundw
              case rel => exact ⟨k + 1, a + 1 + X, done ++ [D], sa, sc, _, by omega, by omega, by go_num, by go_num, by rw [List.length_append, hdl]; rfl, rfl, ho7, hels7, hT7, HD2, b7⟩
              case measure => simp [intOf]; omega
      · have HN : Hid (takeL cnt T = none) := take_stop HD.out hlt (fun n => takeL_none (by omega))
        have hz' : (tn : Int) ≤ a := by omega
        clear HD hels hrow hTo
        go_wp2_with fail
        exact bodyPost_ret (v := .tuple #[.slice none 0 0, .bool false]) (by simp [results, Tryd.results34, go_sem]) rfl ⟨_, by rw [HN.out]; rfl, by rw [HN.out]; exact readOk_none _ _, hbr⟩
    · obtain rfl : k = cnt := by omega
      have hnl : ¬ (k : Int) < k := by omega
      have HL : Hid (takeL k T = if a = T.length then some done else none) := by
        show _ = _
        rw [HD.out, Nat.sub_self, takeL_last (by omega)]
        split <;> simp
      by_cases hz : a = tn
      · have HS : Hid (takeL k T = some done) := by show _ = _; rw [HL.out, if_pos (by omega)]
        have hli : Laid wo va k vc done := laid_own hrow hels hdl (fun x hx => by obtain ⟨j, hj, rfl⟩ := List.mem_iff_getElem.1 hx; have := takeL_bytes hby HS.out j; rwa [List.getD_eq_getElem?_getD, List.getElem?_eq_getElem hj] at this) (fun x hx => by have := (takeL_len _ _ _ HS.out).2 x hx; unfold maxLen; omega)
        have hzb : ((a : Int) == (tn : Int)) = true := by simp [hz]
        clear HD HL hels hrow hTo
        go_wp2_with fail
        exact bodyPost_ret (v := .tuple #[.slice va k vc, .bool true]) (by simp [results, Tryd.results34, go_sem]) rfl ⟨_, by rw [HS.out]; rfl, by rw [HS.out]; exact readOk_some hli, hbr⟩
      · have HS : Hid (takeL k T = none) := by show _ = _; rw [HL.out, if_neg (by omega)]
        have hzb : ((a : Int) == (tn : Int)) = false := by simp; omega
        clear HD HL hels hrow hTo
        go_wp2_with fail
        exact bodyPost_ret (v := .tuple #[.slice va k vc, .bool false]) (by simp [results, Tryd.results34, go_sem]) rfl ⟨_, by rw [HS.out]; rfl, by rw [HS.out]; exact readOk_none _ _, hbr⟩

end Go.Proofs.YtkjlchfmplcobadDoor

/- The walks of Segment and Entry: package shelf as it landed. -/
namespace Go.Proofs.YtkjlchfmplcobadDoor
open Go.RowKit

set_option maxRecDepth 100000 in
set_option maxHeartbeats 4000000 in
theorem segmentC_of (hUn : UnpackRC) : SegmentC := by
  intro m k mv w hM
  obtain ⟨rv, sv, rfl, hr, a, c, rfl, hN1, hN2, hN3, hcell⟩ := hM
  unfold maxLen at hN2
  have x0 := box_new w #[.int .i64 m.size, rv, .slice a m.segs.length c] 28
  have b0 : Below w.heap.size w (w.alloc (.cells #[.int .i64 m.size, rv, .slice a m.segs.length c] 28)) := (Below.refl _ _).alloc (Nat.le_refl _) _
  obtain ⟨u0, u1, u2, -, -, -⟩ := box_three x0
  by_cases hk : k < 0 ∨ (m.segs.length : Int) ≤ k
  · have HE : Hid (segmentL m k = ([], 6)) := by show _ = _; unfold segmentL; rw [if_pos hk]
    clear hcell hr
    generalize m.segs.length = N at *
    rcases (show k < 0 ∨ (¬ k < 0 ∧ (N : Int) ≤ k) by omega) with hk | ⟨hk1, hk⟩
    all_goals
      go_enter Tryd.func10, Tryd.ntmps10
      go_wp2_with fail
      exact bodyPost_ret (v := .tuple #[.slice none 0 0, .int .i64 6]) (by simp [results, Tryd.results10, go_sem]) rfl ⟨none, 0, 0, by rw [HE.out], by rw [HE.out]; exact laid_nil _, b0⟩
  · obtain ⟨i, rfl⟩ : ∃ i : Nat, k = (i : Int) := ⟨k.toNat, by omega⟩
    have hi : i < m.segs.length := by omega
    replace hcell := hcell.resolve_left (by omega)
    obtain ⟨b, off, rfl, hb0, hcell⟩ := hcell
    obtain ⟨c0, c1, pa, pc, c2, hp, hp1, hp2⟩ := hcell i hi
    have HE : Hid (segmentL m (i : Int) = if fitB m.size (i : Int) (m.segs.getD i seg0) = false then ([], 7) else readSeg (m.segs.getD i seg0)) := by
      show _ = _
      unfold segmentL
      rw [if_neg hk, Int.toNat_natCast]
    have hj1 : ¬ (i : Int) < 0 := by omega
    have hj2 : (i : Int) < m.segs.length := by omega
    have hj3 : (0 : Int) ≤ (i : Int) := by omega
    clear hcell hk
    generalize m.segs.length = N at *
    generalize m.segs.getD i seg0 = s at *
    obtain ⟨f, ct, pk⟩ := s
    dsimp only at c0 c1 c2 hp hp1
    replace c0 := (old_cell w (.cells #[.int .i64 m.size, rv, .slice (some ⟨b, off, none⟩) N c] 28) b (off + i * 3) hb0).trans c0
    replace c1 := (old_cell w (.cells #[.int .i64 m.size, rv, .slice (some ⟨b, off, none⟩) N c] 28) b (off + i * 3 + 1) hb0).trans c1
    replace c2 := (old_cell w (.cells #[.int .i64 m.size, rv, .slice (some ⟨b, off, none⟩) N c] 28) b (off + i * 3 + 2) hb0).trans c2
    have hp0 := hp.below b0
    generalize m.size = size at *
    have x1 := box_old (w.alloc (.cells #[.int .i64 size, rv, .slice (some ⟨b, off, none⟩) N c] 28)) (.cells #[.int .i64 f, .int .i64 ct, .slice pa pk.length pc] 55) x0
    have y1 := box_new (w.alloc (.cells #[.int .i64 size, rv, .slice (some ⟨b, off, none⟩) N c] 28)) #[.int .i64 f, .int .i64 ct, .slice pa pk.length pc] 55
    have d1 : Below (w.alloc (.cells #[.int .i64 size, rv, .slice (some ⟨b, off, none⟩) N c] 28)).heap.size (w.alloc (.cells #[.int .i64 size, rv, .slice (some ⟨b, off, none⟩) N c] 28)) ((w.alloc (.cells #[.int .i64 size, rv, .slice (some ⟨b, off, none⟩) N c] 28)).alloc (.cells #[.int .i64 f, .int .i64 ct, .slice pa pk.length pc] 55)) := (Below.refl _ _).alloc (Nat.le_refl _) _
    have hp1' := hp0.below d1
    have b1 := b0.trans (d1.mono b0.size)
    have hF := segFits_any f ct i size (.slice pa pk.length pc) pk ((w.alloc (.cells #[.int .i64 size, rv, .slice (some ⟨b, off, none⟩) N c] 28)).alloc (.cells #[.int .i64 f, .int .i64 ct, .slice pa pk.length pc] 55)) hj3
    have e1 : (w.alloc (.cells #[.int .i64 size, rv, .slice (some ⟨b, off, none⟩) N c] 28)).heap.size = w.heap.size + 1 := by simp
    rw [e1] at y1
    obtain ⟨z0, z1, z2, -, -, -⟩ := box_three x1
    obtain ⟨t0, t1, t2, -, -, -⟩ := box_three y1
    clear x0 e1 d1 hp0
    go_enter Tryd.func10, Tryd.ntmps10
    go_wp2_with fail
    generalize (w.alloc (.cells #[.int .i64 size, rv, .slice (some ⟨b, off, none⟩) N c] 28)).alloc (.cells #[.int .i64 f, .int .i64 ct, .slice pa pk.length pc] 55) = w1 at *
    refine hF.mono ?_
    rintro e w2 ⟨rfl, hb2⟩
    have b2 := b1.trans (hb2.mono b1.size)
    obtain ⟨t0', t1', t2', -, -, -⟩ := box_three (box_kept y1 hb2)
    have hp2' := hp1'.below hb2
    have y2 := box_kept y1 hb2
    clear hF c0 c1 c2 u0 u1 u2 z0 z1 z2 t0 t1 t2 x1 y1
    cases hfit : fitB size (i : Int) ⟨f, ct, pk⟩ with
    | false =>
      have HE2 : Hid (segmentL m (i : Int) = ([], 7)) := by show _ = _; rw [HE.out, if_pos hfit]
      clear HE hfit
      go_wp2_with fail
      exact bodyPost_ret (v := .tuple #[.slice none 0 0, .int .i64 7]) (by simp [results, Tryd.results10, go_sem]) rfl ⟨none, 0, 0, by rw [HE2.out], by rw [HE2.out]; exact laid_nil _, b2⟩
    | true =>
      have hft := fitB_iff.1 hfit
      dsimp only at hft
      have HE2 : Hid (segmentL m (i : Int) = readSeg ⟨f, ct, pk⟩) := by show _ = _; rw [HE.out, if_neg (by rw [hfit]; decide)]
      obtain ⟨cnt, rfl⟩ : ∃ cnt : Nat, ct = (cnt : Int) := ⟨ct.toNat, by omega⟩
      have hc8 : cnt ≤ 8 := by omega
      have hU := hUn pk _ w2 hp2' ⟨_, _, rfl, hp1, hp2⟩
      have hub := unpack_bytes hp2'.bytes
      have hul := unpack_len pk
      have HR : Hid (readSeg ⟨f, (cnt : Int), pk⟩ = if (unpackL pk).2 ≠ 0 then ([], (unpackL pk).2) else match takeL cnt (unpackL pk).1 with | none => ([], 2) | some l => (l, 0)) := by show _ = _; unfold readSeg; dsimp only; rw [Int.toNat_natCast]; rfl
      clear HE hfit hft
      generalize unpackL pk = U at *
      obtain ⟨T, ue⟩ := U
      dsimp only at hU hub hul HR
      go_wp2_with fail
      refine hU.mono ?_
      rintro e w3 ⟨tv, rfl, hT, hb3⟩
      have b3 := b2.trans (hb3.mono b2.size)
      obtain ⟨t0'', t1'', t2'', -, -, -⟩ := box_three (box_kept y2 hb3)
      clear hU t0' t1' t2' y2
      by_cases hue : ue = 0
      · subst hue
        have hRd := readEntries_any T hub hul cnt hc8 tv w3 hT
        have HR2 : Hid (segmentL m (i : Int) = match takeL cnt T with | none => ([], 2) | some l => (l, 0)) := by show _ = _; rw [HE2.out, HR.out, if_neg (fun h => h rfl)]
        obtain ⟨ta, tc, rfl⟩ := hT.1.form
        clear HE2 HR hub hT
        go_wp2_with fail
        refine hRd.mono ?_
        rintro e w4 ⟨v, rfl, hok, hb4⟩
        have b4 := b3.trans (hb4.mono b3.size)
        clear hRd
        cases htk : takeL cnt T with
        | none =>
          rw [htk] at hok HR2
          have HR3 : Hid (segmentL m (i : Int) = ([], 2)) := HR2.out
          clear HR2 htk hok
          dsimp only [Option.isSome]
          go_wp2_with fail
          exact bodyPost_ret (v := .tuple #[.slice none 0 0, .int .i64 2]) (by simp [results, Tryd.results10, go_sem]) rfl ⟨none, 0, 0, by rw [HR3.out], by rw [HR3.out]; exact laid_nil _, b4⟩
        | some l =>
          rw [htk] at hok HR2
          have HR3 : Hid (segmentL m (i : Int) = (l, 0)) := HR2.out
          obtain ⟨xa, xn, xc, rfl, hl⟩ := hok l rfl
          clear HR2 htk hok
          dsimp only [Option.isSome]
          go_wp2_with fail
          exact bodyPost_ret (v := .tuple #[.slice xa xn xc, .int .i64 0]) (by simp [results, Tryd.results10, go_sem]) rfl ⟨xa, xn, xc, by rw [HR3.out], by rw [HR3.out]; exact hl, b4⟩
      · have hue' : (ue != 0) = true := by simpa using hue
        have HR2 : Hid (segmentL m (i : Int) = ([], ue)) := by show _ = _; rw [HE2.out, HR.out, if_pos hue]
        clear HE2 HR hub hT hue
        go_wp2_with fail
        exact bodyPost_ret (v := .tuple #[.slice none 0 0, .int .i64 ue]) (by simp [results, Tryd.results10, go_sem]) rfl ⟨none, 0, 0, by rw [HR2.out], by rw [HR2.out]; exact laid_nil _, b3⟩

end Go.Proofs.YtkjlchfmplcobadDoor
