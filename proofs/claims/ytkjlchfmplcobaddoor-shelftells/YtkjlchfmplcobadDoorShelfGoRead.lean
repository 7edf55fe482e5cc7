/- The walk of readEntries: package shelf as it landed. -/
import Derived.Test.YtkjlchfmplcobadDoorProg
import Derived.Test.YtkjlchfmplcobadDoorRunAA
import Derived.Test.YtkjlchfmplcobadDoorRunAC
import Derived.Test.YtkjlchfmplcobadDoorRunAI
import Derived.WalkKit
import Derived.WalkSpells
import Derived.WalkLawsBesides
import Derived.Deep.QuietTactic
import Derived.BigQuiet
namespace Go.Proofs.YtkjlchfmplcobadDoor
open Go.RowKit

/-- A round of reading. -/
theorem take_round {T : List Int} {cnt k a X : Nat} {done : List (List Int)} (hD : takeL cnt T = (takeL (cnt - k) (T.drop a)).map (done ++ ·)) (hk : k < cnt) (ha : a < T.length) (hx : T.getD a 0 = (X : Int)) (h1 : X ≤ 200) (h2 : a + 1 + X ≤ T.length) :
    takeL cnt T = (takeL (cnt - (k + 1)) (T.drop (a + 1 + X))).map ((done ++ [(T.drop (a + 1)).take X]) ++ ·) := by
  rw [hD, show cnt - k = (cnt - (k + 1)) + 1 by omega, takeL_more ha hx h1 h2]
  cases takeL (cnt - (k + 1)) (T.drop (a + 1 + X)) with
  | none => rfl
  | some r => simp
theorem take_stop {T : List Int} {cnt k a : Nat} {done : List (List Int)} (hD : takeL cnt T = (takeL (cnt - k) (T.drop a)).map (done ++ ·)) (hk : k < cnt) (h : ∀ n, takeL (n + 1) (T.drop a) = none) : takeL cnt T = none := by
  rw [hD, show cnt - k = (cnt - (k + 1)) + 1 by omega, h]; rfl
theorem cells_part {w : World} {g o a X c m : Nat} {T : List Int} (hg : g < w.heap.size) (hcell : ∀ j, j < T.length → w.cell? ⟨g, o + j, none⟩ = some (.int .u8 (T.getD j 0))) (h : a + X ≤ T.length) (hm : m = X) : BytesAt w (.slice (some ⟨g, o + a, none⟩) m c) ((T.drop a).take X) := by
  subst hm
  have hl : ((T.drop a).take m).length = m := by rw [List.length_take, List.length_drop]; omega
  refine .inr ⟨g, o + a, c, by rw [hl], hg, fun j hj => ?_⟩
  rw [hl] at hj
  rw [Nat.add_assoc, hcell (a + j) (by omega), List.getD_eq_getElem?_getD, List.getD_eq_getElem?_getD, List.getElem?_take, if_pos hj, List.getElem?_drop]
/-- What is read, or nothing. -/
def readOk (w : World) (v : Value) (r : Option (List (List Int))) : Prop := ∀ l, r = some l → ∃ xa xn xc, v = .slice xa xn xc ∧ Laid w xa xn xc l
theorem readOk_none (w : World) (v : Value) : readOk w v none := fun _ h => by cases h
theorem readOk_some {w : World} {xa : Option Addr} {xn xc : Nat} {l : List (List Int)} (h : Laid w xa xn xc l) : readOk w (.slice xa xn xc) (some l) := fun l' e => by cases e; exact ⟨_, _, _, rfl, h⟩
set_option maxRecDepth 100000 in
set_option maxHeartbeats 8000000 in
theorem readEntries_any (T : List Int) (hby : Bytes T) (hT4 : T.length ≤ 4000) (cnt : Nat) (hc8 : cnt ≤ 8) (tv : Value) (w : World) (hT : RoomAt w tv T) :
    Calls Tryd.prog 32 #[tv, .int .i64 cnt] w fun e w' => ∃ v, e = .returned (.tuple #[v, .bool (takeL cnt T).isSome]) ∧ readOk w' v (takeL cnt T) ∧ Below w.heap.size w w' := by
  obtain ⟨i0, hi0, hz0, hz1, hz2⟩ := info_parts Tryd.info23b
  obtain ⟨hB, ra, rc, rfl, hr1, hr2⟩ := hT
  obtain ⟨g, o, hrest, hgc⟩ : ∃ g o, RestAt (.slice ra T.length rc) T g o 0 ∧ (T.length = 0 ∨ (g < w.heap.size ∧ ∀ j, j < T.length → w.cell? ⟨g, o + j, none⟩ = some (.int .u8 (T.getD j 0)))) := by
    rcases hB with ⟨rfl, -⟩ | ⟨g, o, cp, e, h1, h2⟩
    · exact ⟨0, 0, ⟨ra, rc, rfl, by simp, .inr rfl⟩, .inl rfl⟩
    · cases e
      exact ⟨g, o, ⟨_, rc, rfl, by omega, .inl rfl⟩, .inr ⟨h1, h2⟩⟩
  have HD0 : Hid (takeL cnt T = (takeL (cnt - 0) (T.drop 0)).map (([] : List (List Int)) ++ ·)) := by
    show _ = _
    simp
  clear hB hr1 hr2
  go_enter Tryd.func32, Tryd.ntmps32
  go_wp2_with (at_make; refine wpList_make_own _ rfl _ _ 22 rfl w.heap.size 23 i0 (.slice none 0 0) 1 Tryd.underlying22 hi0 hz0 hz1 .i64 .i64 _ cnt rfl rfl rfl (by rw [hz2]; omega) (by unfold maxLen; omega) (Nat.le_refl _) ?_; intro w1 hown hgrow)
  have b1 : Below w.heap.size w w1 := (Below.refl _ _).grown hgrow (Nat.le_refl _) (fun q h => by cases h)
  clear hgrow
  go_loopw [0, 6, 12] (fun tv lv kv wr => ∃ (k a : Nat) (done : List (List Int)) (va : Option Addr) (vc : Nat) (vs : List Value), k ≤ cnt ∧ a ≤ T.length ∧ kv = .int .i64 k ∧ done.length = k ∧ lv = .slice va k vc ∧ wr.ownsRow w.heap.size 23 1 (.slice va k vc) k vs ∧ OwnEls wr w.heap.size vs done ∧ RestAt tv T g o a ∧ Hid (takeL cnt T = (takeL (cnt - k) (T.drop a)).map (done ++ ·)) ∧ Below w.heap.size w wr) (fun _ _ kv _ => cnt - (intOf kv).toNat)
  case atStart => exact ⟨0, 0, [], _, _, [], Nat.zero_le _, Nat.zero_le _, rfl, rfl, rfl, hown, fun _ hj => absurd hj (Nat.not_lt_zero _), hrest, HD0, b1⟩
  case round =>
    obtain ⟨wo, rfl⟩ : ∃ x, x = wr := ⟨wr, rfl⟩
    obtain ⟨k, a, done, va, vc, vs, hk, ha, rfl, hdl, rfl, hrow, hels, ⟨A, c, rfl, hac, hA⟩, HD, hbr⟩ := hrel
    have hsr := hbr.size
    clear hown b1 HD0 hrest
    by_cases hlt : k < cnt
    · have hlt' : (k : Int) < cnt := by omega
      by_cases hz : a < T.length
      · obtain ⟨hg, hcell⟩ := hgc.resolve_left (by omega)
        obtain rfl := hA.resolve_right (by omega)
        have hgo : g < wo.heap.size := by omega
        have hco : ∀ j, j < T.length → wo.cell? ⟨g, o + j, none⟩ = some (.int .u8 (T.getD j 0)) := fun j hj => (hbr.cell (p := ⟨g, o + j, none⟩) hg).trans (hcell j hj)
        have hx0 := hco a hz
        obtain ⟨X, HX⟩ : ∃ X : Nat, Hid (T.getD a 0 = (X : Int)) := ⟨(T.getD a 0).toNat, by show _ = _; have := hby a; omega⟩
        have hX256 : X < 256 := by have := hby a; have := HX.out; omega
        rw [HX.out] at hx0
        obtain ⟨m, HM⟩ : ∃ m, Hid (T.length - a = m) := ⟨_, rfl⟩
        rw [HM.out] at hac ⊢
        have hm1 : 1 ≤ m := by have := HM.out; omega
        have hm4 : m ≤ 4000 := by have := HM.out; omega
        have hmz : ((m : Int) == 0) = false := by simp; omega
        have hc1 : (1 : Int) ≤ c := by omega
        have hm1' : (1 : Int) ≤ m := by omega
        clear hA hgc hcell
        by_cases hx200 : 200 < X
        · have HN : Hid (takeL cnt T = none) := take_stop HD.out hlt (fun n => takeL_much hz (by rw [HX.out]; omega))
          have hx200' : (200 : Int) < X := by omega
          clear HD hels hrow hco
          rcases (show c = 1 ∨ ¬ c = 1 by omega) with rfl | hc
          all_goals
            go_wp2_with fail
            go_quiet (fail)
            go_wp2_with fail
            exact bodyPost_ret (v := .tuple #[.slice none 0 0, .bool false]) (by simp [results, Tryd.results32, go_sem]) rfl ⟨_, by rw [HN.out]; rfl, by rw [HN.out]; exact readOk_none _ _, below_drewN' hbr _⟩
        · have hx200' : ¬ (200 : Int) < X := by omega
          by_cases hxm : m - 1 < X
          · have HN : Hid (takeL cnt T = none) := take_stop HD.out hlt (fun n => takeL_short hz (by rw [HX.out]; have := HM.out; omega))
            clear HD hels hrow hco
            rcases (show c = 1 ∨ ¬ c = 1 by omega) with rfl | hc
            · obtain rfl : m = 1 := by omega
              have hxp : (0 : Int) < X := by omega
              go_wp2_with fail
              go_quiet (fail)
              go_wp2_with fail
              exact bodyPost_ret (v := .tuple #[.slice none 0 0, .bool false]) (by simp [results, Tryd.results32, go_sem]) rfl ⟨_, by rw [HN.out]; rfl, by rw [HN.out]; exact readOk_none _ _, below_drewN' hbr _⟩
            · have hxp : ((m - 1 : Nat) : Int) < X := by omega
              go_wp2_with fail
              go_quiet (fail)
              go_wp2_with fail
              exact bodyPost_ret (v := .tuple #[.slice none 0 0, .bool false]) (by simp [results, Tryd.results32, go_sem]) rfl ⟨_, by rw [HN.out]; rfl, by rw [HN.out]; exact readOk_none _ _, below_drewN' hbr _⟩
          · have hxle : a + 1 + X ≤ T.length := by have := HM.out; omega
            have HD2 : Hid (takeL cnt T = (takeL (cnt - (k + 1)) (T.drop (a + 1 + X))).map ((done ++ [(T.drop (a + 1)).take X]) ++ ·)) := take_round HD.out hlt hz HX.out (by omega) hxle
            have hdl2 : ((T.drop (a + 1)).take X).length = X := by rw [List.length_take, List.length_drop]; omega
            have hX200 : X ≤ 200 := by omega
            rcases (show c = 1 ∨ ¬ c = 1 by omega) with rfl | hc
            · obtain rfl : m = 1 := by omega
              obtain rfl : X = 0 := by omega
              have hBX : ∀ C, BytesAt wo (.slice (some ⟨g, o + a, none⟩) 0 C) ((T.drop (a + 1)).take 0) := fun C => .inl ⟨by simp, _, _, rfl, fun h => by cases h⟩
              have hR2 : RestAt (.slice (some ⟨g, o + a, none⟩) 0 0) T g o (a + 1 + 0) := ⟨some ⟨g, o + a, none⟩, 0, by rw [show T.length - (a + 1 + 0) = 0 by have := HM.out; omega], by have := HM.out; omega, .inr (by have := HM.out; omega)⟩
              generalize (T.drop (a + 1)).take 0 = D at *
              clear hco HD HX hx200 hxm
              go_wp2_with fail
              go_quiet (fail)
              replace hrow : (wo.drewN nq).ownsRow w.heap.size 23 1 (.slice va k vc) k vs := hrow
              have hbq : Below wo.heap.size wo (wo.drewN nq) := below_drewN' (Below.refl _ _) nq
              have hels2 := hels.below hbq (Nat.le_refl _)
              have hB2 := fun C => (hBX C).below (Nat.le_refl _) hbq
              have hbq2 := hbr.trans (hbq.mono hsr)
              clear hbq hels hBX
              generalize wo.drewN nq = wq at *
              have hC := cloneB_any D ⟨g, o + a, none⟩ 0 0 wq (hB2 _) hdl2 (by omega)
              go_wp2_with fail
              refine hC.mono ?_
              rintro r w2 ⟨ya, yc, rfl, ho2, hb2⟩
              have b2 := hbq2.trans (hb2.mono hbq2.size)
              have hrow2 := own_below hrow hb2 (Nat.le_refl _)
              have hels3 := hels2.below hb2 (Nat.le_refl _)
              have hvl : vs.length = done.length := by rw [hdl]; simpa using hrow.1
              have hy2 : w2.ownsRow w.heap.size 5 1 (.slice ya 0 yc) D.length (D.map (Value.int .u8)) := by rw [hdl2]; exact ownsRow_base ho2 hbq2.size
              have hsn := hels3.snoc hvl hy2
              have hrowA := hrow2.alloc (.cells #[.slice ya 0 yc] 23)
              have hsnA := hsn.alloc (.cells #[.slice ya 0 yc] 23)
              have hnew := cell_one_new w2 (.slice ya 0 yc) 23
              have bA : Below w.heap.size w (w2.alloc (.cells #[.slice ya 0 yc] 23)) := b2.alloc b2.size _
              have hsA := bA.size
              clear hC hrow hels2 hels3 hsn hrow2 ho2 hy2 hB2 hb2
              go_wp2_with (at_builtin; refine wpList_append_own _ rfl (.tmp 31) (.tmp 36) 22 rfl w.heap.size 23 i0 _ 1 24 Tryd.underlying22 hi0 hz0 hz1 hz2 rfl (by decide) _ _ _ rfl hrowA _ 1 1 [.slice ya 0 yc] rfl rfl hnew (by intro u hu; simp at hu; subst hu; rfl) (by unfold maxLen; omega) (by omega) hsA ?_; intro v7 w7 ho7 hg7 _; obtain ⟨sa, sc, rfl⟩ := own_form' ho7)
              have b7 : Below w.heap.size w w7 := bA.grown hg7 hsA (fun _ h => own_block hrowA h)
              have hels7 := hsnA.kept hrowA hg7
              go_roundw
              case rel => exact ⟨k + 1, a + 1 + 0, done ++ [D], sa, sc, _, by omega, hxle, by go_num, by rw [List.length_append, hdl]; rfl, rfl, ho7, hels7, hR2, HD2, b7⟩
              case measure => simp [intOf]; omega
            · have hxp : ¬ ((m - 1 : Nat) : Int) < X := by omega
              have hBX : ∀ C, BytesAt wo (.slice (some ⟨g, o + (a + 1), none⟩) X C) ((T.drop (a + 1)).take X) := fun C => cells_part hgo hco (by omega) rfl
              rw [show o + (a + 1) = o + a + 1 by omega] at hBX
              rcases (show c - 1 = X ∨ ¬ c - 1 = X by omega) with hcx | hcx
              · obtain rfl : c = X + 1 := by omega
                obtain rfl : m = X + 1 := by omega
                have hR2 : RestAt (.slice (some ⟨g, o + a + 1, none⟩) 0 0) T g o (a + 1 + X) := ⟨some ⟨g, o + a + 1, none⟩, 0, by rw [show T.length - (a + 1 + X) = 0 by have := HM.out; omega], by have := HM.out; omega, .inr (by have := HM.out; omega)⟩
                generalize (T.drop (a + 1)).take X = D at *
                clear hco HD HX hx200 hxm
                go_wp2_with fail
                go_quiet (fail)
                replace hrow : (wo.drewN nq).ownsRow w.heap.size 23 1 (.slice va k vc) k vs := hrow
                have hbq : Below wo.heap.size wo (wo.drewN nq) := below_drewN' (Below.refl _ _) nq
                have hels2 := hels.below hbq (Nat.le_refl _)
                have hB2 := fun C => (hBX C).below (Nat.le_refl _) hbq
                have hbq2 := hbr.trans (hbq.mono hsr)
                clear hbq hels hBX
                generalize wo.drewN nq = wq at *
                have hC := cloneB_any D ⟨g, o + a + 1, none⟩ X X wq (hB2 _) hdl2 (by omega)
                go_wp2_with fail
                refine hC.mono ?_
                rintro r w2 ⟨ya, yc, rfl, ho2, hb2⟩
                have b2 := hbq2.trans (hb2.mono hbq2.size)
                have hrow2 := own_below hrow hb2 (Nat.le_refl _)
                have hels3 := hels2.below hb2 (Nat.le_refl _)
                have hvl : vs.length = done.length := by rw [hdl]; simpa using hrow.1
                have hy2 : w2.ownsRow w.heap.size 5 1 (.slice ya X yc) D.length (D.map (Value.int .u8)) := by rw [hdl2]; exact ownsRow_base ho2 hbq2.size
                have hsn := hels3.snoc hvl hy2
                have hrowA := hrow2.alloc (.cells #[.slice ya X yc] 23)
                have hsnA := hsn.alloc (.cells #[.slice ya X yc] 23)
                have hnew := cell_one_new w2 (.slice ya X yc) 23
                have bA : Below w.heap.size w (w2.alloc (.cells #[.slice ya X yc] 23)) := b2.alloc b2.size _
                have hsA := bA.size
                clear hC hrow hels2 hels3 hsn hrow2 ho2 hy2 hB2 hb2
                go_wp2_with (at_builtin; refine wpList_append_own _ rfl (.tmp 31) (.tmp 36) 22 rfl w.heap.size 23 i0 _ 1 24 Tryd.underlying22 hi0 hz0 hz1 hz2 rfl (by decide) _ _ _ rfl hrowA _ 1 1 [.slice ya X yc] rfl rfl hnew (by intro u hu; simp at hu; subst hu; rfl) (by unfold maxLen; omega) (by omega) hsA ?_; intro v7 w7 ho7 hg7 _; obtain ⟨sa, sc, rfl⟩ := own_form' ho7)
                have b7 : Below w.heap.size w w7 := bA.grown hg7 hsA (fun _ h => own_block hrowA h)
                have hels7 := hsnA.kept hrowA hg7
                go_roundw
                case rel => exact ⟨k + 1, a + 1 + X, done ++ [D], sa, sc, _, by omega, hxle, by go_num, by rw [List.length_append, hdl]; rfl, rfl, ho7, hels7, hR2, HD2, b7⟩
                case measure => simp [intOf]; omega
              · have hR2 : RestAt (.slice (some ⟨g, o + a + 1 + X, none⟩) (m - 1 - X) (c - 1 - X)) T g o (a + 1 + X) := ⟨some ⟨g, o + (a + 1 + X), none⟩, c - 1 - X, by rw [show T.length - (a + 1 + X) = m - 1 - X by have := HM.out; omega, show o + (a + 1 + X) = o + a + 1 + X by omega], by have := HM.out; omega, .inl rfl⟩
                generalize (T.drop (a + 1)).take X = D at *
                clear hco HD HX hx200 hxm
                go_wp2_with fail
                go_quiet (fail)
                replace hrow : (wo.drewN nq).ownsRow w.heap.size 23 1 (.slice va k vc) k vs := hrow
                have hbq : Below wo.heap.size wo (wo.drewN nq) := below_drewN' (Below.refl _ _) nq
                have hels2 := hels.below hbq (Nat.le_refl _)
                have hB2 := fun C => (hBX C).below (Nat.le_refl _) hbq
                have hbq2 := hbr.trans (hbq.mono hsr)
                clear hbq hels hBX
                generalize wo.drewN nq = wq at *
                have hC := cloneB_any D ⟨g, o + a + 1, none⟩ X (c - 1) wq (hB2 _) hdl2 (by omega)
                go_wp2_with fail
                refine hC.mono ?_
                rintro r w2 ⟨ya, yc, rfl, ho2, hb2⟩
                have b2 := hbq2.trans (hb2.mono hbq2.size)
                have hrow2 := own_below hrow hb2 (Nat.le_refl _)
                have hels3 := hels2.below hb2 (Nat.le_refl _)
                have hvl : vs.length = done.length := by rw [hdl]; simpa using hrow.1
                have hy2 : w2.ownsRow w.heap.size 5 1 (.slice ya X yc) D.length (D.map (Value.int .u8)) := by rw [hdl2]; exact ownsRow_base ho2 hbq2.size
                have hsn := hels3.snoc hvl hy2
                have hrowA := hrow2.alloc (.cells #[.slice ya X yc] 23)
                have hsnA := hsn.alloc (.cells #[.slice ya X yc] 23)
                have hnew := cell_one_new w2 (.slice ya X yc) 23
                have bA : Below w.heap.size w (w2.alloc (.cells #[.slice ya X yc] 23)) := b2.alloc b2.size _
                have hsA := bA.size
                clear hC hrow hels2 hels3 hsn hrow2 ho2 hy2 hB2 hb2
                go_wp2_with (at_builtin; refine wpList_append_own _ rfl (.tmp 31) (.tmp 36) 22 rfl w.heap.size 23 i0 _ 1 24 Tryd.underlying22 hi0 hz0 hz1 hz2 rfl (by decide) _ _ _ rfl hrowA _ 1 1 [.slice ya X yc] rfl rfl hnew (by intro u hu; simp at hu; subst hu; rfl) (by unfold maxLen; omega) (by omega) hsA ?_; intro v7 w7 ho7 hg7 _; obtain ⟨sa, sc, rfl⟩ := own_form' ho7)
                have b7 : Below w.heap.size w w7 := bA.grown hg7 hsA (fun _ h => own_block hrowA h)
                have hels7 := hsnA.kept hrowA hg7
                go_roundw
                case rel => exact ⟨k + 1, a + 1 + X, done ++ [D], sa, sc, _, by omega, hxle, by go_num, by rw [List.length_append, hdl]; rfl, rfl, ho7, hels7, hR2, HD2, b7⟩
                case measure => simp [intOf]; omega
      · have hm0 : T.length - a = 0 := by omega
        have HN : Hid (takeL cnt T = none) := take_stop HD.out hlt (fun n => takeL_none hz)
        rw [hm0] at hac ⊢
        clear HD hels hrow hA hgc
        go_wp2_with fail
        exact bodyPost_ret (v := .tuple #[.slice none 0 0, .bool false]) (by simp [results, Tryd.results32, go_sem]) rfl ⟨_, by rw [HN.out]; rfl, by rw [HN.out]; exact readOk_none _ _, hbr⟩
    · obtain rfl : k = cnt := by omega
      have hnl : ¬ (k : Int) < k := by omega
      have HL : Hid (takeL k T = if a = T.length then some done else none) := by
        show _ = _
        rw [HD.out, Nat.sub_self, takeL_last ha]
        split <;> simp
      by_cases hz : a = T.length
      · have HS : Hid (takeL k T = some done) := by show _ = _; rw [HL.out, if_pos hz]
        have hel : Els wo vs done := ⟨by rw [hdl]; simpa using hrow.1, fun j hj => by obtain ⟨y, h1, h2⟩ := hels j hj; exact ⟨y, h1, byteEl_own h2⟩⟩
        have hli : Laid wo va k vc done := laid_own hrow hel hdl (fun x hx => by obtain ⟨j, hj, rfl⟩ := List.mem_iff_getElem.1 hx; have := takeL_bytes hby HS.out j; rwa [List.getD_eq_getElem?_getD, List.getElem?_eq_getElem hj] at this) (fun x hx => by have := (takeL_len _ _ _ HS.out).2 x hx; unfold maxLen; omega)
        have hm0 : T.length - a = 0 := by omega
        rw [hm0] at hac ⊢
        clear HD HL hel hels hrow hA hgc
        go_wp2_with fail
        exact bodyPost_ret (v := .tuple #[.slice va k vc, .bool true]) (by simp [results, Tryd.results32, go_sem]) rfl ⟨_, by rw [HS.out]; rfl, by rw [HS.out]; exact readOk_some hli, hbr⟩
      · have HS : Hid (takeL k T = none) := by show _ = _; rw [HL.out, if_neg hz]
        obtain ⟨m, HM⟩ : ∃ m, Hid (T.length - a = m) := ⟨_, rfl⟩
        have hm0 : ((m : Int) == 0) = false := by have := HM.out; simp; omega
        rw [HM.out] at hac ⊢
        clear HD HL hels hrow hA hgc
        go_wp2_with fail
        exact bodyPost_ret (v := .tuple #[.slice va k vc, .bool false]) (by simp [results, Tryd.results32, go_sem]) rfl ⟨_, by rw [HS.out]; rfl, by rw [HS.out]; exact readOk_none _ _, hbr⟩

end Go.Proofs.YtkjlchfmplcobadDoor
