/- The walk of yearref5.Take. -/
import Derived.Test.YtbkkfchcdfhfgadDoorProg
import Derived.Test.YtbkkfchcdfhfgadDoorShelfGoRead
import Derived.WalkKit
import Derived.WalkSpells
import Derived.WalkLawsBesides
import Derived.Deep.QuietTactic
import Derived.BigQuiet
namespace Go.Proofs.YtbkkfchcdfhfgadDoor
open Go.RowKit

/-- A part of a row of bytes. -/
theorem own_part {w : World} {base g n c a X C : Nat} {T : List Int} (h : w.ownsRow base 5 1 (.slice (some ⟨g, 0, none⟩) n c) n (T.map (Value.int .u8))) (hl : T.length = n) (h2 : a + X ≤ n) : ByteEl w (.slice (some ⟨g, a, none⟩) X C) ((T.drop a).take X) := by
  have hl2 : ((T.drop a).take X).length = X := by rw [List.length_take, List.length_drop]; omega
  rcases h.2 with ⟨e, -⟩ | ⟨g', cap, cur, e, -, hg, -⟩
  · cases e
  · cases e
    refine .inr ⟨g, a, C, cur, _, by rw [hl2], hg, fun j hj => ?_⟩
    rw [hl2] at hj
    rw [h.cellAt (a + j) (by omega), List.getElem?_map, List.getElem?_eq_getElem (by omega), List.getD_eq_getElem?_getD, List.getElem?_take, if_pos hj, List.getElem?_drop, List.getElem?_eq_getElem (by omega)]
    rfl
set_option maxRecDepth 100000 in
set_option maxHeartbeats 8000000 in
theorem refTake_any (T : List Int) (hby : Bytes T) (hT4 : T.length ≤ 4000) (cnt : Nat) (hc8 : cnt ≤ 8) (base : Nat) (ta : Option Addr) (tn tc : Nat) (w : World) (hT : w.ownsRow base 5 1 (.slice ta tn tc) tn (T.map (Value.int .u8))) (htn : T.length = tn) :
    Calls Tryd.prog 34 #[.slice ta tn tc, .int .i64 cnt] w fun e w' => ∃ v, e = .returned (.tuple #[v, .bool (takeL cnt T).isSome]) ∧ readOk w' v (takeL cnt T) ∧ Below w.heap.size w w' := by
  obtain ⟨i0, hi0, hz0, hz1, hz2⟩ := info_parts Tryd.info23b
  obtain ⟨ra, rc, er, hr1, hr2⟩ := own_cap hT
  cases er
  unfold maxLen at hr2
  have HD0 : Hid (takeL cnt T = (takeL (cnt - 0) (T.drop 0)).map (([] : List (List Int)) ++ ·)) := by
    show _ = _
    simp
  go_enter Tryd.func34, Tryd.ntmps34
  go_wp2_with fail
  go_loopw [6, 7, 8] (fun lv av kv wr => ∃ (k a : Nat) (done : List (List Int)) (va : Option Addr) (vc : Nat) (vs : List Value), k ≤ cnt ∧ a ≤ tn ∧ kv = .int .i64 k ∧ av = .int .i64 a ∧ done.length = k ∧ lv = .slice va k vc ∧ wr.ownsRow w.heap.size 23 1 (.slice va k vc) k vs ∧ Els wr vs done ∧ wr.ownsRow base 5 1 (.slice ta tn tc) tn (T.map (Value.int .u8)) ∧ Hid (takeL cnt T = (takeL (cnt - k) (T.drop a)).map (done ++ ·)) ∧ Below w.heap.size w wr) (fun _ _ kv _ => cnt - (intOf kv).toNat)
  case atStart => exact ⟨0, 0, [], none, 0, [], Nat.zero_le _, Nat.zero_le _, rfl, rfl, rfl, rfl, World.ownsRow_nil _ _ _ _, els_nil _, hT, HD0, Below.refl _ _⟩
  case round =>
    obtain ⟨wo, rfl⟩ : ∃ x, x = wr := ⟨wr, rfl⟩
    obtain ⟨k, a, done, va, vc, vs, hk, ha, rfl, rfl, hdl, rfl, hrow, hels, hTo, HD, hbr⟩ := hrel
    have hsr := hbr.size
    clear HD0 hT
    by_cases hlt : k < cnt
    · have hlt' : (k : Int) < cnt := by omega
      by_cases hz : a < tn
      · have hzT : a < T.length := by omega
        obtain ⟨g, hg0, hcell, -, -⟩ := own_get (z := 0) hTo a hz
        subst hg0
        have hz' : ¬ (tn : Int) ≤ a := by omega
        have hzj : (a : Int) < tn := by omega
        obtain ⟨X, HX⟩ : ∃ X : Nat, Hid (T.getD a 0 = (X : Int)) := ⟨(T.getD a 0).toNat, by show _ = _; have := hby a; omega⟩
        have hX256 : X < 256 := by have := hby a; have := HX.out; omega
        rw [HX.out] at hcell
        by_cases hx200 : 200 < X
        · have HN : Hid (takeL cnt T = none) := take_stop HD.out hlt (fun n => takeL_much hzT (by rw [HX.out]; omega))
          have hx200' : (200 : Int) < X := by omega
          clear HD hels hrow hTo
          go_wp2_with fail
          exact bodyPost_ret (v := .tuple #[.slice none 0 0, .bool false]) (by simp [results, Tryd.results34, go_sem]) rfl ⟨_, by rw [HN.out]; rfl, by rw [HN.out]; exact readOk_none _ _, hbr⟩
        · have hx200' : ¬ (200 : Int) < X := by omega
          by_cases hxm : tn < a + 1 + X
          · have HN : Hid (takeL cnt T = none) := take_stop HD.out hlt (fun n => takeL_short hzT (by rw [HX.out]; omega))
            have hxm' : (tn : Int) < (a : Int) + 1 + X := by omega
            clear HD hels hrow hTo
            go_wp2_with fail
            exact bodyPost_ret (v := .tuple #[.slice none 0 0, .bool false]) (by simp [results, Tryd.results34, go_sem]) rfl ⟨_, by rw [HN.out]; rfl, by rw [HN.out]; exact readOk_none _ _, hbr⟩
          · have hxm' : ¬ (tn : Int) < (a : Int) + 1 + X := by omega
            have HD2 : Hid (takeL cnt T = (takeL (cnt - (k + 1)) (T.drop (a + 1 + X))).map ((done ++ [(T.drop (a + 1)).take X]) ++ ·)) := take_round HD.out hlt hzT HX.out (by omega) (by omega)
            have j1 : (a : Int) + 1 + X ≤ tn := by omega
            have j2 : (a : Int) + 1 + X ≤ tc := by omega
            rcases (show tc = a + 1 ∨ ¬ tc = a + 1 by omega) with hc | hc
            · obtain rfl : X = 0 := by omega
              obtain rfl : tn = a + 1 := by omega
              subst hc
              have hE : ∀ C, ByteEl wo (.slice (some ⟨g, 0, none⟩) 0 C) ((T.drop (a + 1)).take 0) := fun C => .inl ⟨by simp, _, _, rfl, fun h => by cases h⟩
              have hEA := (hE 0).below ((Below.refl _ wo).alloc (Nat.le_refl _) (.cells #[.slice (some ⟨g, 0, none⟩) 0 0] 23)) (Nat.le_refl _)
              have helA := hels.below ((Below.refl _ wo).alloc (Nat.le_refl _) (.cells #[.slice (some ⟨g, 0, none⟩) 0 0] 23)) (Nat.le_refl _)
              have hsn := helA.append (byteEls_one hEA)
              have hrowA := hrow.alloc (.cells #[.slice (some ⟨g, 0, none⟩) 0 0] 23)
              have hTA := hTo.alloc (.cells #[.slice (some ⟨g, 0, none⟩) 0 0] 23)
              have hnew := cell_one_new wo (.slice (some ⟨g, 0, none⟩) 0 0) 23
              have bA : Below w.heap.size w (wo.alloc (.cells #[.slice (some ⟨g, 0, none⟩) 0 0] 23)) := hbr.alloc hsr _
              have hsA := bA.size
              generalize (T.drop (a + 1)).take 0 = D at *
              clear HD hels hrow hTo hE hEA helA HX hx200 hxm
              go_wp2_with (at_builtin; refine wpList_append_own _ rfl (.tmp 47) (.tmp 53) 22 rfl w.heap.size 23 i0 _ 1 24 Tryd.underlying22 hi0 hz0 hz1 hz2 rfl (by decide) _ _ _ rfl hrowA _ 1 1 [.slice (some ⟨g, 0, none⟩) 0 0] rfl rfl hnew (by intro u hu; simp at hu; subst hu; rfl) (by unfold maxLen; omega) (by omega) hsA ?_; intro v7 w7 ho7 hg7 _; obtain ⟨sa, sc, rfl⟩ := own_form' ho7)
              have b7 : Below w.heap.size w w7 := bA.grown hg7 hsA (fun _ h => own_block hrowA h)
              have hels7 := hsn.kept hrowA (by decide) hg7
              have hT7 := hTA.kept hg7 (own_ne hTA hrowA (by decide)).or
              go_roundw
              case rel => exact ⟨k + 1, a + 1 + 0, done ++ [D], sa, sc, _, by omega, by omega, by go_num, by go_num, by rw [List.length_append, hdl]; rfl, rfl, ho7, hels7, hT7, HD2, b7⟩
              case measure => simp [intOf]; omega
            · have hE := fun C => own_part (C := C) (a := a + 1) (X := X) hTo htn (by omega)
              have hEA := (hE (tc - (a + 1))).below ((Below.refl _ wo).alloc (Nat.le_refl _) (.cells #[.slice (some ⟨g, a + 1, none⟩) X (tc - (a + 1))] 23)) (Nat.le_refl _)
              have helA := hels.below ((Below.refl _ wo).alloc (Nat.le_refl _) (.cells #[.slice (some ⟨g, a + 1, none⟩) X (tc - (a + 1))] 23)) (Nat.le_refl _)
              have hsn := helA.append (byteEls_one hEA)
              have hrowA := hrow.alloc (.cells #[.slice (some ⟨g, a + 1, none⟩) X (tc - (a + 1))] 23)
              have hTA := hTo.alloc (.cells #[.slice (some ⟨g, a + 1, none⟩) X (tc - (a + 1))] 23)
              have hnew := cell_one_new wo (.slice (some ⟨g, a + 1, none⟩) X (tc - (a + 1))) 23
              have bA : Below w.heap.size w (wo.alloc (.cells #[.slice (some ⟨g, a + 1, none⟩) X (tc - (a + 1))] 23)) := hbr.alloc hsr _
              have hsA := bA.size
              generalize (T.drop (a + 1)).take X = D at *
              clear HD hels hrow hTo hE hEA helA HX hx200 hxm
              go_wp2_with (at_builtin; refine wpList_append_own _ rfl (.tmp 47) (.tmp 53) 22 rfl w.heap.size 23 i0 _ 1 24 Tryd.underlying22 hi0 hz0 hz1 hz2 rfl (by decide) _ _ _ rfl hrowA _ 1 1 [.slice (some ⟨g, a + 1, none⟩) X (tc - (a + 1))] rfl rfl hnew (by intro u hu; simp at hu; subst hu; rfl) (by unfold maxLen; omega) (by omega) hsA ?_; intro v7 w7 ho7 hg7 _; obtain ⟨sa, sc, rfl⟩ := own_form' ho7)
              have b7 : Below w.heap.size w w7 := bA.grown hg7 hsA (fun _ h => own_block hrowA h)
              have hels7 := hsn.kept hrowA (by decide) hg7
              have hT7 := hTA.kept hg7 (own_ne hTA hrowA (by decide)).or
              go_roundw
              case rel => exact ⟨k + 1, a + 1 + X, done ++ [D], sa, sc, _, by omega, by omega, by go_num, by go_num, by rw [List.length_append, hdl]; rfl, rfl, ho7, hels7, hT7, HD2, b7⟩
              case measure => simp [intOf]; omega
      · have HN : Hid (takeL cnt T = none) := take_stop HD.out hlt (fun n => takeL_none (by omega))
        have hz' : (tn : Int) ≤ a := by omega
        clear HD hels hrow hTo
        go_wp2_with fail
        exact bodyPost_ret (v := .tuple #[.slice none 0 0, .bool false]) (by simp [results, Tryd.results34, go_sem]) rfl ⟨_, by rw [HN.out]; rfl, by rw [HN.out]; exact readOk_none _ _, hbr⟩
    · obtain rfl : k = cnt := by omega
      have hnl : ¬ (k : Int) < k := by omega
      have HL : Hid (takeL k T = if a = T.length then some done else none) := by
        show _ = _
        rw [HD.out, Nat.sub_self, takeL_last (by omega)]
        split <;> simp
      by_cases hz : a = tn
      · have HS : Hid (takeL k T = some done) := by show _ = _; rw [HL.out, if_pos (by omega)]
        have hli : Laid wo va k vc done := laid_own hrow hels hdl (fun x hx => by obtain ⟨j, hj, rfl⟩ := List.mem_iff_getElem.1 hx; have := takeL_bytes hby HS.out j; rwa [List.getD_eq_getElem?_getD, List.getElem?_eq_getElem hj] at this) (fun x hx => by have := (takeL_len _ _ _ HS.out).2 x hx; unfold maxLen; omega)
        have hzb : ((a : Int) == (tn : Int)) = true := by simp [hz]
        clear HD HL hels hrow hTo
        go_wp2_with fail
        exact bodyPost_ret (v := .tuple #[.slice va k vc, .bool true]) (by simp [results, Tryd.results34, go_sem]) rfl ⟨_, by rw [HS.out]; rfl, by rw [HS.out]; exact readOk_some hli, hbr⟩
      · have HS : Hid (takeL k T = none) := by show _ = _; rw [HL.out, if_neg (by omega)]
        have hzb : ((a : Int) == (tn : Int)) = false := by simp; omega
        clear HD HL hels hrow hTo
        go_wp2_with fail
        exact bodyPost_ret (v := .tuple #[.slice va k vc, .bool false]) (by simp [results, Tryd.results34, go_sem]) rfl ⟨_, by rw [HS.out]; rfl, by rw [HS.out]; exact readOk_none _ _, hbr⟩

end Go.Proofs.YtbkkfchcdfhfgadDoor
