/- The walks of yearref4.Write and yearref4.Pack. -/
import Derived.Test.YtkjlchfmplcobadDoorProg
import Derived.Test.YtkjlchfmplcobadDoorPackRefTokens
import Derived.Test.YtkjlchfmplcobadDoorRunAI
import Derived.WalkKit
import Derived.WalkSpells
import Derived.WalkLawsBesides
namespace Go.Proofs.YtkjlchfmplcobadDoor
open Go.RowKit

set_option maxRecDepth 100000 in
set_option maxHeartbeats 8000000 in
theorem refWrite_any (l : List Tok) (size : Nat) (lv : Value) (w : World) (hl : ToksAt w lv l) (hgood : ∀ t ∈ l, goodTok t) (hll : l.length ≤ 4000) (hs4 : size ≤ 4000) :
    Calls Tryd.prog 55 #[lv, .int .i64 size] w fun e w' => ∃ v, e = .returned v ∧ w'.ownsRow w.heap.size 5 1 v (writeL l size).length ((writeL l size).map (Value.int .u8)) ∧ Below w.heap.size w w' := by
  obtain ⟨i0, hi0, hz0, hz1, hz2⟩ := info_parts Tryd.info5b
  obtain ⟨la, lc, rfl, hr1, hr2, hcell⟩ := hl.form
  unfold maxLen at hr2
  have hgk : ∀ k, k < l.length → goodTok (l.getD k tok0) := fun k hk => by
    rw [List.getD_eq_getElem?_getD, List.getElem?_eq_getElem hk]; exact hgood _ (List.getElem_mem hk)
  clear hl hgood
  go_enter Tryd.func55, Tryd.ntmps55
  go_wp2_with fail
  have b0 : Below w.heap.size w (w.alloc (.cells #[.int .u8 ((size : Int) / 256), .int .u8 ((size : Int) % 256)] 5)) := (Below.refl _ _).alloc (Nat.le_refl _) _
  have hrow0 : (w.alloc (.cells #[.int .u8 ((size : Int) / 256), .int .u8 ((size : Int) % 256)] 5)).ownsRow w.heap.size 5 1 (.slice (some ⟨w.heap.size, 0, none⟩) 2 2) 2 (([((size / 256 : Nat) : Int), ((size % 256 : Nat) : Int)] : List Int).map (Value.int .u8)) :=
    World.ownsRow_lit w #[.int .u8 ((size : Int) / 256), .int .u8 ((size : Int) % 256)] 2 (by omega) (by unfold maxLen; omega) rfl
  have HW0 : Hid ([((size / 256 : Nat) : Int), ((size % 256 : Nat) : Int)] ++ groupsL (l.drop 0) = writeL l size) := rfl
  go_loopw [5, 6] (fun ov iv wr => ∃ (i : Nat) (out : List Int), iv = .int .i64 i ∧ i ≤ l.length + 7 ∧ out.length ≤ 2 + 3 * i ∧ Hid (out ++ groupsL (l.drop i) = writeL l size) ∧ (∃ va vc, ov = .slice va out.length vc ∧ wr.ownsRow w.heap.size 5 1 (.slice va out.length vc) out.length (out.map (Value.int .u8))) ∧ Below w.heap.size w wr) (fun _ iv _ => l.length + 8 - (intOf iv).toNat)
  case atStart => exact ⟨0, _, rfl, Nat.zero_le _, by simp, HW0, ⟨_, _, rfl, hrow0⟩, b0⟩
  case round =>
    obtain ⟨wo, rfl⟩ : ∃ x, x = wr := ⟨wr, rfl⟩
    obtain ⟨i, out, rfl, hi7, hol, HW, ⟨va, vc, rfl, hrow⟩, hbr⟩ := hrel
    clear b0 hrow0 HW0
    by_cases hlt : i < l.length
    · replace hcell := hcell.resolve_left (by omega)
      obtain ⟨tb, to, rfl, htb, hcell⟩ := hcell
      have hlt' : (i : Int) < l.length := by omega
      have hso := hbr.size
      have HG : Hid (groupsL (l.drop i) = (flagsN ((l.drop i).take 8) : Int) :: (((l.drop i).take 8).flatMap bodyT ++ groupsL (l.drop (i + 8)))) := by
        show _ = _
        rw [groupsL_more (by rw [List.length_drop]; omega), List.drop_drop]
      have hcr : ∀ j, j < l.length → ∀ w', Below wo.heap.size wo w' → w'.cell? ⟨tb, to + j * 3, none⟩ = some (.int .i64 (l.getD j tok0).len) ∧ w'.cell? ⟨tb, to + j * 3 + 1, none⟩ = some (.int .i64 (l.getD j tok0).back) ∧ w'.cell? ⟨tb, to + j * 3 + 2, none⟩ = some (.int .u8 (l.getD j tok0).byte) := fun j hj w' hw' => by
        obtain ⟨d0, d1, d2⟩ := hcell j hj
        have hbw := hbr.trans (hw'.mono hso)
        exact ⟨(hbw.cell (p := ⟨tb, to + j * 3, none⟩) htb).trans d0, (hbw.cell (p := ⟨tb, to + j * 3 + 1, none⟩) htb).trans d1, (hbw.cell (p := ⟨tb, to + j * 3 + 2, none⟩) htb).trans d2⟩
      clear hcell
      go_wp2_with fail
      go_loopw [7, 8, 9] (fun fv bv kv wi => ∃ (k F : Nat) (B : List Int), k ≤ 8 ∧ i + k ≤ l.length ∧ kv = .int .i64 k ∧ fv = .int .i64 F ∧ Hid (F = flagsN ((l.drop i).take k)) ∧ F < 256 ∧ Hid (B = ((l.drop i).take k).flatMap bodyT) ∧ B.length ≤ 2 * k ∧ (∃ ya yc, bv = .slice ya B.length yc ∧ wi.ownsRow wo.heap.size 5 1 (.slice ya B.length yc) B.length (B.map (Value.int .u8))) ∧ Below wo.heap.size wo wi) (fun _ _ kv _ => 8 - (intOf kv).toNat)
      case atStart => exact ⟨0, 0, [], Nat.zero_le _, by omega, rfl, rfl, rfl, by omega, rfl, Nat.le_refl _, ⟨none, 0, rfl, World.ownsRow_nil _ _ _ _⟩, Below.refl _ _⟩
      case round =>
        obtain ⟨wi, rfl⟩ : ∃ x, x = wr := ⟨wr, rfl⟩
        obtain ⟨k, F, B, hk8, hkl, rfl, rfl, HF, hF2, HB, hBl, ⟨ya, yc, rfl, hrb⟩, hbi⟩ := hrel
        have wk : IntKind.i64.wrap ((i : Int) + k) = (i : Int) + k := by rw [IntKind.wrap_i64]; omega
        by_cases hk : k < 8 ∧ i + k < l.length
        · obtain ⟨hk1, hk2⟩ := hk
          obtain ⟨d0, d1, d2⟩ := hcr (i + k) hk2 wi hbi
          have hgt := hgk (i + k) hk2
          have j1 : (k : Int) < 8 := by omega
          have j2 : (i : Int) + k < l.length := by omega
          have hdk : k < (l.drop i).length := by rw [List.length_drop]; omega
          have HS : Hid ((l.drop i).take (k + 1) = (l.drop i).take k ++ [l.getD (i + k) tok0]) := by show _ = _; rw [take_snocT _ _ hdk, dropT_get]
          have htl : ((l.drop i).take k).length = k := by rw [List.length_take]; omega
          have HF1 : Hid (flagsN ((l.drop i).take (k + 1)) = F + (if (l.getD (i + k) tok0).len = 0 then 0 else 2 ^ k)) := by show _ = _; rw [HS.out, flagsN_snoc, htl, HF.out]
          have HB1 : Hid (((l.drop i).take (k + 1)).flatMap bodyT = B ++ bodyT (l.getD (i + k) tok0)) := by show _ = _; rw [HS.out, List.flatMap_append, HB.out]; simp
          have hF5 : flagsN ((l.drop i).take (k + 1)) < 256 := by
            have h1 := flagsN_lt ((l.drop i).take (k + 1))
            have h2 : 2 ^ ((l.drop i).take (k + 1)).length ≤ 2 ^ 8 := Nat.pow_le_pow_right (by decide) (by rw [List.length_take]; omega)
            omega
          clear hcr hgk HS htl hdk HW HG
          generalize l.getD (i + k) tok0 = t at *
          obtain ⟨x, y, z⟩ := t
          obtain ⟨hg0, hg1, hg2⟩ := hgt
          dsimp only at d0 d1 d2 hg0 hg1 hg2 HF1
          have hsi := hbi.size
          by_cases hx : x = 0
          · subst hx
            have hnew := one_at2 wi (.cells #[.int .i64 0, .int .i64 y, .int .u8 z] 117) (.int .u8 z) 5
            have hbT : bodyT ⟨0, y, z⟩ = [z] := rfl
            rw [hbT] at HB1
            rw [if_pos rfl, Nat.add_zero] at HF1
            have hF6 : F < 256 := hF2
            clear hF5 hbT
            go_wp2_with (at_builtin; refine wpList_append_own _ rfl (.tmp 46) (.tmp 49) 23 rfl wo.heap.size 5 i0 _ 1 1 Tryd.underlying23 hi0 hz0 hz1 hz2 rfl (by decide) _ _ _ rfl ((hrb.alloc _).alloc _) _ 1 1 [.int .u8 z] rfl rfl hnew (by intro u hu; simp at hu; subst hu; rfl) (by unfold maxLen; omega) (by omega) (by simp; omega) ?_; intro v7 w7 ho7 hg7 _; obtain ⟨ta, tc, rfl⟩ := own_form' ho7)
            have b7 : Below wo.heap.size wo w7 := ((hbi.alloc hsi _).alloc (by simp; omega) _).grown hg7 (by simp; omega) (fun _ h => own_block hrb h)
            have ho8 : w7.ownsRow wo.heap.size 5 1 (.slice ta (B ++ [z]).length tc) (B ++ [z]).length ((B ++ [z]).map (Value.int .u8)) := by
              rw [List.length_append, List.length_singleton, List.map_append, List.map_singleton]
              exact ho7
            go_wp2_with fail
            go_roundw
            case rel => exact ⟨k + 1, F, B ++ [z], by omega, by omega, by go_num, rfl, HF1.out.symm, hF6, HB1.out.symm, by rw [List.length_append, List.length_singleton]; omega, ⟨ta, tc, by rw [List.length_append, List.length_singleton], ho8⟩, b7⟩
            case measure => simp [intOf]; omega
          · have hx' : (x == 0) = false := by simpa using hx
            replace hg2 := hg2.resolve_left hx
            have hbT : bodyT ⟨x, y, z⟩ = [(1024 * (x - 3) + y - 1) / 256, (1024 * (x - 3) + y - 1) % 256] := by unfold bodyT tokX; simp only; rw [if_neg hx]
            rw [hbT] at HB1
            obtain ⟨P, HP⟩ : ∃ P : Nat, Hid (2 ^ k = P) := ⟨_, rfl⟩
            rw [if_neg hx, HP.out] at HF1
            have hF6 : F + P < 256 := by rw [← HF1.out]; exact hF5
            have hp3 : wrap64 ((F : Int) + P) = (F : Int) + P := wrap_small (by omega) (by omega)
            have hn1 : B.length + 2 ≤ maxLen := by unfold maxLen; omega
            have hn2 : (B.length + 2) * 1 ≤ 140737488355328 := by omega
            have hn3 : wo.heap.size ≤ ((wi.alloc (.cells #[.int .i64 x, .int .i64 y, .int .u8 z] 117)).alloc (.cells #[.int .u8 ((1024 * (x - 3) + y - 1) / 256), .int .u8 ((1024 * (x - 3) + y - 1) % 256)] 5)).heap.size := by simp; omega
            have hn4 : wo.heap.size ≤ (wi.alloc (.cells #[.int .i64 x, .int .i64 y, .int .u8 z] 117)).heap.size := by simp; omega
            have hn5 : k + 1 ≤ 8 ∧ i + (k + 1) ≤ l.length ∧ (B ++ [(1024 * (x - 3) + y - 1) / 256, (1024 * (x - 3) + y - 1) % 256]).length ≤ 2 * (k + 1) := by rw [List.length_append]; show _ ∧ _ ∧ B.length + 2 ≤ _; omega
            have hp1 := (pow_wrap ⟨k, hk1⟩).1
            dsimp only at hp1
            rw [HP.out] at hp1
            have hnew := two_at2 wi (.cells #[.int .i64 x, .int .i64 y, .int .u8 z] 117) (.int .u8 ((1024 * (x - 3) + y - 1) / 256)) (.int .u8 ((1024 * (x - 3) + y - 1) % 256)) 5
            clear hF5 hbT
            go_wp2_with (at_builtin; refine wpList_append_own _ rfl (.tmp 63) (.tmp 70) 23 rfl wo.heap.size 5 i0 _ 1 1 Tryd.underlying23 hi0 hz0 hz1 hz2 rfl (by decide) _ _ _ rfl ((hrb.alloc _).alloc _) _ 2 2 [.int .u8 ((1024 * (x - 3) + y - 1) / 256), .int .u8 ((1024 * (x - 3) + y - 1) % 256)] rfl rfl hnew (by intro u hu; simp at hu; rcases hu with rfl | rfl <;> rfl) hn1 hn2 hn3 ?_; intro v7 w7 ho7 hg7 _; obtain ⟨ta, tc, rfl⟩ := own_form' ho7)
            have b7 : Below wo.heap.size wo w7 := ((hbi.alloc hsi _).alloc hn4 _).grown hg7 hn3 (fun _ h => own_block hrb h)
            have ho8 : w7.ownsRow wo.heap.size 5 1 (.slice ta (B ++ [(1024 * (x - 3) + y - 1) / 256, (1024 * (x - 3) + y - 1) % 256]).length tc) (B ++ [(1024 * (x - 3) + y - 1) / 256, (1024 * (x - 3) + y - 1) % 256]).length ((B ++ [(1024 * (x - 3) + y - 1) / 256, (1024 * (x - 3) + y - 1) % 256]).map (Value.int .u8)) := by
              rw [List.length_append, List.map_append]
              exact ho7
            clear hp1
            go_wp2_with fail
            go_roundw
            case rel => exact ⟨k + 1, F + P, B ++ [(1024 * (x - 3) + y - 1) / 256, (1024 * (x - 3) + y - 1) % 256], hn5.1, hn5.2.1, by go_num, rfl, HF1.out.symm, hF6, HB1.out.symm, hn5.2.2, ⟨ta, tc, by rw [List.length_append]; rfl, ho8⟩, b7⟩
            case measure => simp [intOf]; omega
        · have heq : (l.drop i).take k = (l.drop i).take 8 := by
            by_cases h8 : k = 8
            · rw [h8]
            · rw [List.take_of_length_le (by rw [List.length_drop]; omega), List.take_of_length_le (by rw [List.length_drop]; omega)]
          by_cases hk1 : k < 8
          · have j1 : (k : Int) < 8 := by omega
            have j2 : ¬ (i : Int) + k < l.length := by omega
            have hfl : (flagsN ((l.drop i).take 8) : Int) = (F : Int) := by rw [HF.out, heq]
            have HW2 : Hid ((out ++ [(F : Int)] ++ B) ++ groupsL (l.drop (i + 8)) = writeL l size) := by
              show _ = _
              rw [← HW.out, HG.out, hfl, HB.out, heq]
              simp
            have hrowI := own_below hrow hbi (Nat.le_refl _)
            have hlitn := cell_one_new wi (.int .u8 (F : Int)) 5
            have hbI := hbr.trans (hbi.mono hso)
            have hsI := hbI.size
            have hsep : Sep (.slice ya B.length yc) (.slice va out.length vc) := fun q h1 h2 => by
              have a1 := own_block hrb h1
              have a2 := own_lt hrow h2
              omega
            have hF3 : (F : Int) < 256 := by omega
            have hoB : out.length + 1 + B.length ≤ 100000 := by omega
            clear hcr hgk HF HB HW HG hfl heq
            go_wp2_with (at_builtin; first
              | (refine wpList_append_own _ rfl (.tmp 72) (.tmp 75) 23 rfl w.heap.size 5 i0 _ 1 1 Tryd.underlying23 hi0 hz0 hz1 hz2 rfl (by decide) _ _ _ rfl (hrowI.alloc _) _ 1 1 [.int .u8 (F : Int)] rfl rfl hlitn (by intro u hu; simp at hu; subst hu; rfl) (by unfold maxLen; omega) (by omega) (by simp; omega) ?_; intro v7 w7 ho7 hg7 _; have hb7 : Below w.heap.size w w7 := (hbI.alloc hsI _).grown hg7 (by simp; omega) (fun _ h => own_block hrowI h); have hrb7 := bytesAt_own ((hrb.alloc _).kept hg7 hsep.or); obtain ⟨ta, tc, rfl⟩ := own_form' ho7)
              | (refine wpList_append_bytes rfl (.tmp 76) (.tmp 77) 23 rfl w.heap.size 5 i0 _ Tryd.underlying23 hi0 hz0 hz1 hz2 rfl _ _ _ rfl ho7 ya B.length yc B rfl hrb7 (by unfold maxLen; omega) (by omega) hb7.size ?_; intro v8 w8 ho8 hg8; have hb8 := hb7.grown hg8 hb7.size (fun _ h => own_block ho7 h); obtain ⟨ua, uc, rfl⟩ := own_form' ho8))
            have ho9 : w8.ownsRow w.heap.size 5 1 (.slice ua (out ++ [(F : Int)] ++ B).length uc) (out ++ [(F : Int)] ++ B).length ((out ++ [(F : Int)] ++ B).map (Value.int .u8)) := by
              rw [List.length_append, List.length_append, List.length_singleton, List.map_append, List.map_append, List.map_singleton]
              exact ho8
            go_wp2_with fail
            go_roundw
            case rel => exact ⟨i + 8, out ++ [(F : Int)] ++ B, by go_num, by omega, by rw [List.length_append, List.length_append, List.length_singleton]; omega, HW2, ⟨ua, uc, by rw [List.length_append, List.length_append, List.length_singleton], ho9⟩, hb8⟩
            case measure => simp [intOf]; omega
          · have j1 : ¬ (k : Int) < 8 := by omega
            have hfl : (flagsN ((l.drop i).take 8) : Int) = (F : Int) := by rw [HF.out, heq]
            have HW2 : Hid ((out ++ [(F : Int)] ++ B) ++ groupsL (l.drop (i + 8)) = writeL l size) := by
              show _ = _
              rw [← HW.out, HG.out, hfl, HB.out, heq]
              simp
            have hrowI := own_below hrow hbi (Nat.le_refl _)
            have hlitn := cell_one_new wi (.int .u8 (F : Int)) 5
            have hbI := hbr.trans (hbi.mono hso)
            have hsI := hbI.size
            have hsep : Sep (.slice ya B.length yc) (.slice va out.length vc) := fun q h1 h2 => by
              have a1 := own_block hrb h1
              have a2 := own_lt hrow h2
              omega
            have hF3 : (F : Int) < 256 := by omega
            have hoB : out.length + 1 + B.length ≤ 100000 := by omega
            clear hcr hgk HF HB HW HG hfl heq
            go_wp2_with (at_builtin; first
              | (refine wpList_append_own _ rfl (.tmp 72) (.tmp 75) 23 rfl w.heap.size 5 i0 _ 1 1 Tryd.underlying23 hi0 hz0 hz1 hz2 rfl (by decide) _ _ _ rfl (hrowI.alloc _) _ 1 1 [.int .u8 (F : Int)] rfl rfl hlitn (by intro u hu; simp at hu; subst hu; rfl) (by unfold maxLen; omega) (by omega) (by simp; omega) ?_; intro v7 w7 ho7 hg7 _; have hb7 : Below w.heap.size w w7 := (hbI.alloc hsI _).grown hg7 (by simp; omega) (fun _ h => own_block hrowI h); have hrb7 := bytesAt_own ((hrb.alloc _).kept hg7 hsep.or); obtain ⟨ta, tc, rfl⟩ := own_form' ho7)
              | (refine wpList_append_bytes rfl (.tmp 76) (.tmp 77) 23 rfl w.heap.size 5 i0 _ Tryd.underlying23 hi0 hz0 hz1 hz2 rfl _ _ _ rfl ho7 ya B.length yc B rfl hrb7 (by unfold maxLen; omega) (by omega) hb7.size ?_; intro v8 w8 ho8 hg8; have hb8 := hb7.grown hg8 hb7.size (fun _ h => own_block ho7 h); obtain ⟨ua, uc, rfl⟩ := own_form' ho8))
            have ho9 : w8.ownsRow w.heap.size 5 1 (.slice ua (out ++ [(F : Int)] ++ B).length uc) (out ++ [(F : Int)] ++ B).length ((out ++ [(F : Int)] ++ B).map (Value.int .u8)) := by
              rw [List.length_append, List.length_append, List.length_singleton, List.map_append, List.map_append, List.map_singleton]
              exact ho8
            go_wp2_with fail
            go_roundw
            case rel => exact ⟨i + 8, out ++ [(F : Int)] ++ B, by go_num, by omega, by rw [List.length_append, List.length_append, List.length_singleton]; omega, HW2, ⟨ua, uc, by rw [List.length_append, List.length_append, List.length_singleton], ho9⟩, hb8⟩
            case measure => simp [intOf]; omega
    · have hlt' : ¬ (i : Int) < l.length := by omega
      have HE : Hid (out = writeL l size) := by
        have := HW.out
        rw [groupsL_none (by rw [List.length_drop]; omega), List.append_nil] at this
        exact this
      have hrowE : wo.ownsRow w.heap.size 5 1 (.slice va out.length vc) (writeL l size).length ((writeL l size).map (Value.int .u8)) := by
        rw [← HE.out]; exact hrow
      clear hcell hgk hrow HW HE
      go_wp2_with fail
      go_ret
      exact ⟨_, rfl, hrowE, hbr⟩

set_option maxRecDepth 100000 in
set_option maxHeartbeats 1000000 in
theorem refPackO_any (b : List Int) (bv : Value) (w : World) (hb : Some' w bv b) :
    Calls Tryd.prog 27 #[bv] w fun e w' => ∃ v, e = .returned (.tuple #[v, .int .i64 (muchE b)]) ∧ w'.ownsRow w.heap.size 5 1 v (packE b).length ((packE b).map (Value.int .u8)) ∧ Below w.heap.size w w' := by
  have cT := refTokens_any b bv w hb
  have hbz := hb.bytes
  have hsh := hb.short
  unfold maxLen at hsh
  obtain ⟨ba, bc, eb⟩ := hb.at'.form
  subst eb
  by_cases h4 : 4000 < b.length
  · have hm : muchE b = 4 := by unfold muchE; rw [if_pos h4]
    have hx : packE b = [] := by unfold packE; rw [if_pos h4]
    rw [hm] at cT ⊢
    rw [hx]
    clear hm hx hb
    go_enter Tryd.func27, Tryd.ntmps27
    go_wp2_with fail
    refine cT.mono ?_
    rintro e w1 ⟨v1, rfl, h1, b1⟩
    obtain ⟨ta, tc, e1, -⟩ := h1.form
    subst e1
    clear cT h1
    go_wp2_with fail
    exact bodyPost_ret (v := .tuple #[.slice none 0 0, .int .i64 4]) (by simp [results, Tryd.results27, go_sem]) rfl ⟨_, rfl, World.ownsRow_nil _ _ _ _, b1⟩
  · have hm : muchE b = 0 := by unfold muchE; rw [if_neg h4]
    have hx : packE b = packL b := by unfold packE; rw [if_neg h4]
    have ht : toksE b = tokensL b := by unfold toksE; rw [if_neg h4]
    rw [hm, ht] at cT
    rw [hm, hx]
    have hgood : ∀ t ∈ tokensL b, goodTok t := fun t h => tokFrom_bytes hbz _ 0 rfl t h
    have hll : (tokensL b).length ≤ 4000 := by have := (tok_few b b.length 0 (by omega)).1; unfold tokensL; omega
    have cW : ∀ w' v, ToksAt w' v (tokensL b) → _ := fun w' v h => refWrite_any (tokensL b) b.length v w' h hgood hll (by omega)
    have HP : Hid (writeL (tokensL b) b.length = packL b) := rfl
    rw [HP.out] at cW
    clear hm hx ht hb hgood
    generalize tokensL b = T at *
    generalize packL b = P at *
    go_enter Tryd.func27, Tryd.ntmps27
    go_wp2_with fail
    refine cT.mono ?_
    rintro e w1 ⟨v1, rfl, h1, b1⟩
    have c1 := cW _ _ h1
    obtain ⟨ta, tc, e1, -⟩ := h1.form
    subst e1
    clear cT h1 cW
    go_wp2_with fail
    refine c1.mono ?_
    rintro e w2 ⟨v2, rfl, h2, hb2⟩
    have b2 := b1.trans (hb2.mono b1.size)
    have hB := ownsRow_base h2 b1.size
    obtain ⟨pa, pc, rfl⟩ := own_form' h2
    clear c1 h2
    go_wp2_with fail
    exact bodyPost_ret (v := .tuple #[.slice pa P.length pc, .int .i64 0]) (by simp [results, Tryd.results27, go_sem]) rfl ⟨_, rfl, hB, b2⟩
end Go.Proofs.YtkjlchfmplcobadDoor
