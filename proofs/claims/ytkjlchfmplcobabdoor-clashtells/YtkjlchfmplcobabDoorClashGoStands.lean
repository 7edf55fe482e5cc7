/- The walk of clash.Stands as it landed: what ClashFace asks of it holds. -/
import Derived.Test.YtkjlchfmplcobabDoorProg
import Derived.Test.YtkjlchfmplcobabDoorClashGoHigh
import Derived.Test.YtkjlchfmplcobabDoorClashGoPaths
import Derived.Test.YtkjlchfmplcobabDoorTreeGoSides
import Derived.Test.YtkjlchfmplcobabDoorTreeGoStands
import Derived.Test.YtkjlchfmplcobabDoorClashFace
import Derived.WalkKit
import Derived.WalkSpells
import Derived.WalkLawsBesides
namespace Go.Proofs.YtkjlchfmplcobabDoor
open Go.RowKit

theorem told_none (w : World) : Told w (.slice none 0 0) (.slice none 0 0) false :=
  ⟨[], [], ⟨bytesAt_nil w, nil_bytes, by simp⟩, ⟨bytesAt_nil w, nil_bytes, by simp⟩, by simp, by simp, fun h => (by cases h), fun _ => ⟨rfl, rfl⟩⟩
theorem climbT_fit : ∀ (ls : List Bool) (m : List Int) (os : List (List Int)), Bytes m → m.length = 32 → (∀ x ∈ os, Bytes x) → Digs os → ∀ x ∈ climbT ls m os, Bytes x ∧ x.length ≤ 1000
  | [], _, _, _, _, _, _, x, hx => by simp [climbT] at hx
  | _ :: _, _, [], _, _, _, _, x, hx => by simp [climbT] at hx
  | l :: ls, m, o :: os, h1, h2, h3, h4, x, hx => by
    rcases List.mem_cons.1 (show x ∈ nodeT l m o :: climbT ls (shaL (nodeT l m o)) os from hx) with rfl | hx
    · exact ⟨nodeT_bytes h1 (h3 o (by simp)), by rw [nodeT_len h2 (h4 o (by simp))]; omega⟩
    · exact climbT_fit ls _ os (bytes_shaL _) (shaL_len _) (fun y hy => h3 y (by simp [hy])) (fun y hy => h4 y (by simp [hy])) x hx
theorem Lists.mem_bytes {w : World} {a : Option Addr} {n c : Nat} {L : List (List Int)} (h : Lists w a n c L) : ∀ x ∈ L, Bytes x := fun x hx => by
  obtain ⟨j, hj, rfl⟩ := List.getElem_of_mem hx
  have := h.bytes j
  rwa [List.getD_eq_getElem?_getD, List.getElem?_eq_getElem hj] at this
theorem Lists.digs {w : World} {a : Option Addr} {n c : Nat} {L : List (List Int)} (h : Lists w a n c L) (hd : Digs L) : DigsAt w a n c L := ⟨h.len, h.at', h.room, h.cap, h.bytes, hd⟩
/-- What it says that a path shows a leaf. -/
theorem stands_open {n j : Nat} {root b : List Int} {p : List (List Int)} (h : standsL n root b j p = true) : 1 ≤ n ∧ n ≤ 100 ∧ j < n ∧ b.length ≤ 200 ∧ Digs p ∧ p.length = (pathP 0 n j).length ∧ foldUp j (leafL b) (pathP 0 n j) p = root := by
  have h0 := h
  unfold standsL at h0
  split at h0
  · cases h0
  · rename_i hc
    have h1 : 1 ≤ n := by omega
    have h2 : n ≤ 100 := by omega
    have h3 : j < n := by omega
    have h4 : b.length ≤ 200 := by omega
    have hg : goodL p = true := by
      cases e : goodL p with
      | true => rfl
      | false => rw [e] at hc; simp at hc
    have hf : p.length = (pathP 0 n j).length := by
      by_cases e : p.length = (pathP 0 n j).length
      · exact e
      · rw [stands_fit h1 h2 h3 h4 (by rw [decide_eq_false e]; rfl)] at h; cases h
    rw [stands_yes h1 h2 h3 h4 hg hf] at h
    exact ⟨h1, h2, h3, h4, goodL_digs.1 hg, hf, of_decide_eq_true h⟩

theorem path_sides_len {L : List (List Int)} {j : Nat} (hj : j < L.length) : (pathL L j).length = (pathSides (pathP 0 L.length j) j).length := by
  have h := path_seg L L.length 0 L.length j (by omega) (by omega) hj (Nat.le_refl _)
  rw [seg_all] at h
  have := congrArg List.length h
  simpa [pathSides] using this.symm
theorem sides_few (n j : Nat) (hn : n ≤ 100) : (pathSides (pathP 0 n j) j).length ≤ 100 := by
  have := pathP_few n 0 n j (by omega)
  simp only [pathSides, List.length_map]
  omega
/-- The two lists of texts are those that ofPaths asks for. -/
theorem ways_fit {ls : List Bool} {z : List Int} {o : List (List Int)} (hz : Bytes z) (hz2 : z.length ≤ 200) (ho : ∀ x ∈ o, Bytes x) (hd : Digs o) : ∀ x ∈ (0 :: z) :: climbT ls (leafL z) o, Bytes x ∧ x.length ≤ 1000 := fun x hx => by
  rcases List.mem_cons.1 hx with rfl | hx
  · exact ⟨bytes_cons (by decide) (by decide) hz, by simp; omega⟩
  · exact climbT_fit ls _ o (leafL_bytes z) (leafL_length z) ho hd x hx

set_option maxRecDepth 100000 in
set_option maxHeartbeats 4000000 in
theorem clashStandsC_holds : ClashStandsC := by
  intro L b i p bv a n c pa pn pc w hR hL hb hp
  have hcap := hL.cap
  have hroom := hL.room
  unfold maxLen at hcap
  obtain ⟨ba, bc, eb⟩ := hb.at'.form
  subst eb
  have cR := rootC_holds L a n c w hR hL
  have cS : ∀ w' rv, Below w.heap.size w w' → Some' w' rv (mth L) → _ := fun w' rv h hr => standsC_holds n (mth L) b i p rv (.slice ba b.length bc) pa pn pc w' (hR.below h) hr (hb.below h) (hp.below h)
  have hm32 := mth_length L
  have HC0 : Hid ((wrongL L).1 ≠ 0 → clashS L b i p = false) := fun h => by unfold clashS; rw [decide_eq_false h, Bool.false_and, Bool.false_and]
  have HC1 : Hid (standsL n (mth L) b i p = false → clashS L b i p = false) := fun h => by unfold clashS; rw [hL.len, h, Bool.and_false, Bool.false_and]
  have HC2 : Hid (L.getD i.toNat [] = b → clashS L b i p = false) := fun h => by unfold clashS; rw [decide_eq_false (p := L.getD i.toNat [] ≠ b) (fun g => g h), Bool.and_false]
  have HC3 : Hid ((wrongL L).1 = 0 → standsL n (mth L) b i p = true → L.getD i.toNat [] ≠ b → clashS L b i p = true) := fun h1 h2 h3 => by unfold clashS; rw [hL.len, decide_eq_true h1, h2, decide_eq_true h3]; rfl
  have HPL : Hid (standsL n (mth L) b i p = true → 0 ≤ i ∧ i < n ∧ b.length ≤ 200) := fun h => by
    unfold standsL at h
    split at h
    · cases h
    · omega
  have HST : Hid (∀ j : Nat, i = (j : Int) → standsL n (mth L) b i p = true → 1 ≤ n ∧ n ≤ 100 ∧ j < n ∧ b.length ≤ 200 ∧ Digs p ∧ p.length = (pathP 0 n j).length ∧ foldUp j (leafL b) (pathP 0 n j) p = mth L) := fun j e h => by subst e; exact stands_open h
  have HPF : Hid ((wrongL L).1 = 0 → ∀ j : Nat, j < n → pathF L (j : Int) = (0, 0)) := fun h0 j hj => by
    unfold pathF
    rw [if_neg (by rw [h0]; decide), if_neg (by rw [hL.len]; omega)]
  have HWk : Hid ((wrongL L).1 = 0 → ∀ j, (L.getD j []).length ≤ 200) := fun h0 => (wrong_ok h0).2
  generalize standsL n (mth L) b i p = st at *
  generalize clashS L b i p = ok at *
  obtain ⟨F, HF⟩ : ∃ F, Hid (wrongL L = F) := ⟨_, rfl⟩
  rw [HF.out] at cR HC0 HC3 HPF HWk
  obtain ⟨F1, F2⟩ := F
  dsimp only [faultV] at cR HC0 HC3 HPF HWk
  go_enter Tryd.func21, Tryd.ntmps21
  go_wp2_with fail
  refine cR.mono ?_
  rintro e w1 ⟨ra, rn, rc, rfl, hr, -, b1⟩
  obtain ⟨c1, f0, f1, sf⟩ := box_cells w1 (.int .i64 F1) (.int .i64 F2) 27
  have b2 := b1.trans (c1.mono b1.size)
  clear cR
  by_cases hF : F1 = 0
  case neg =>
    have i1 : (F1 != 0) = true := by simpa using hF
    obtain rfl := HC0.out hF
    clear HC0 HC1 HC2 HC3 HPL HST HPF HWk cS hr
    go_wp2_with fail
    exact bodyPost_ret (v := .tuple #[.slice none 0 0, .slice none 0 0, .bool false]) (by simp [results, Tryd.results21, go_sem]) rfl ⟨_, _, rfl, told_none _, b2⟩
  subst hF
  replace hr := hr rfl
  obtain rfl : rn = 32 := own_len hr
  have hr1 := bytesAt_own hr
  obtain ⟨c2, h0, h1, sh⟩ := box_cells (w1.alloc (.cells #[.int .i64 0, .int .i64 F2] 27)) (.int .i64 n) (.slice ra 32 rc) 34
  have b3 := b2.trans (c2.mono b2.size)
  have hrS : Some' ((w1.alloc (.cells #[.int .i64 0, .int .i64 F2] 27)).alloc (.cells #[.int .i64 n, .slice ra 32 rc] 34)) (.slice ra 32 rc) (mth L) := ⟨(hr1.below (Nat.le_refl _) c1).below (Nat.le_refl _) c2, bytes_mth _, by rw [hm32]; unfold maxLen; omega⟩
  have cS' := cS _ _ b3 hrS
  clear hr hr1 c1 c2 cS hrS
  go_wp2_with fail
  cases hst : st with
  | false =>
    rw [hst] at cS'
    obtain rfl := HC1.out hst
    subst hst
    clear HC0 HC1 HC2 HC3 HPL HST HPF HWk
    refine cS'.mono ?_
    rintro e w4 ⟨rfl, hb4⟩
    have b4 := b3.trans (hb4.mono b3.size)
    clear cS'
    go_wp2_with fail
    exact bodyPost_ret (v := .tuple #[.slice none 0 0, .slice none 0 0, .bool false]) (by simp [results, Tryd.results21, go_sem]) rfl ⟨_, _, rfl, told_none _, b4⟩
  | true =>
    rw [hst] at cS'
    obtain ⟨hi0, hin, hb200⟩ := HPL.out hst
    obtain ⟨j, rfl⟩ : ∃ j : Nat, i = (j : Int) := ⟨i.toNat, by omega⟩
    have hjn : j < n := by omega
    rw [Int.toNat_natCast] at HC2 HC3
    have HC3' : Hid (L.getD j [] ≠ b → ok = true) := HC3.out (by trivial) hst
    obtain ⟨-, hn100, -, -, hdg, hpl0, hfold0⟩ := HST.out j rfl hst
    have HWY : Hid (L.getD j [] ≠ b → Linked ((0 :: L.getD j []) :: climbT (pathSides (pathP 0 n j) j) (leafL (L.getD j [])) (pathL L j)) ((0 :: b) :: climbT (pathSides (pathP 0 n j) j) (leafL b) p) ∧ ((0 :: L.getD j []) :: climbT (pathSides (pathP 0 n j) j) (leafL (L.getD j [])) (pathL L j)) ≠ ((0 :: b) :: climbT (pathSides (pathP 0 n j) j) (leafL b) p)) := fun hne => by
      have := stands_ways (L := L) (b := b) (i := j) (p := p) (by rw [hL.len]; exact hjn) (by rw [hL.len]; exact hpl0) hdg (by rw [hL.len]; exact hfold0) hne
      rwa [hL.len] at this
    have HPn : Hid (pn = (pathSides (pathP 0 n j) j).length) := by
      show _ = _
      rw [← hp.len, hpl0]
      simp [pathSides]
    have HXn : Hid ((pathL L j).length = (pathSides (pathP 0 n j) j).length) := by
      have := path_sides_len (L := L) (j := j) (by rw [hL.len]; exact hjn)
      rwa [hL.len] at this
    have hls := sides_few n j hn100
    have cD : ∀ w', _ := fun w' => pathSides_any n j w' hn100 hjn
    have cP : ∀ w', Below w.heap.size w w' → _ := fun w' h => pathC_holds L (j : Int) a n c w' (hR.below h) (hL.below h)
    rw [HPF.out (by trivial) j hjn] at cP
    dsimp only [faultV] at cP
    rw [Int.toNat_natCast] at cP
    have hz200 := HWk.out (by trivial) j
    subst hst
    clear HC0 HC1 HC3 HPL HST HPF HWk hpl0 hfold0
    obtain ⟨lb, lo, qa0, qc0, rfl, -, -⟩ := hL.get j hjn
    have cZ : ∀ w', Below w.heap.size w w' → ∃ qa qc, w'.cell? ⟨lb, lo + j, none⟩ = some (.slice qa (L.getD j []).length qc) ∧ Some' w' (.slice qa (L.getD j []).length qc) (L.getD j []) := fun w' h => by
      obtain ⟨lb', lo', pa', pc', e, hc, hs⟩ := (hL.below h).get j hjn
      cases e
      exact ⟨pa', pc', hc, hs⟩
    have hob := path_bytes L j
    have hod := path_digs L j
    have hpz := hp.mem_bytes
    generalize pathL L j = O at *
    generalize L.getD j [] = z at *
    generalize pathSides (pathP 0 n j) j = ls at *
    refine cS'.mono ?_
    rintro e w4 ⟨rfl, hb4⟩
    have b4 := b3.trans (hb4.mono b3.size)
    obtain ⟨ea, ec, hcj, hsz⟩ := cZ _ b4
    have hE := equal_any b z (.slice ba b.length bc) (.slice ea z.length ec) w4 (hb.below b4).at' hsz.at' hb.bytes hsz.bytes
    clear cS'
    have j1 : (j : Int) < (n : Int) := by omega
    by_cases hz : z = b
    · rw [decide_eq_true hz.symm] at hE
      obtain rfl := HC2.out hz
      clear HC2 HC3' hz HWY cD cP cZ
      go_wp2_with fail
      refine hE.mono ?_
      rintro e w5 ⟨rfl, rfl⟩
      go_wp2_with fail
      exact bodyPost_ret (v := .tuple #[.slice none 0 0, .slice none 0 0, .bool false]) (by simp [results, Tryd.results21, go_sem]) rfl ⟨_, _, rfl, told_none _, b4⟩
    · rw [decide_eq_false (fun e => hz e.symm)] at hE
      obtain rfl := HC3'.out hz
      obtain ⟨hlk, hneq⟩ := HWY.out hz
      clear HC2 HC3' hz HWY
      go_wp2_with fail
      refine hE.mono ?_
      rintro e w5 ⟨rfl, rfl⟩
      clear hE
      go_wp2_with fail
      refine (cP _ b4).mono ?_
      rintro e w6 ⟨xa, xn, xc, rfl, hP6, -, hb6⟩
      replace hP6 := hP6 (by trivial)
      have b6 := b4.trans (hb6.mono b4.size)
      have hpL := hP6.lists hob (digs_short hod)
      obtain ⟨c7, -, -, -⟩ := box_cells w6 (.int .i64 0) (.int .i64 0) 27
      have b7 := b6.trans (c7.mono b6.size)
      have hpL7 := hpL.below c7
      have HXL : Hid (xn = ls.length) := by show _ = _; rw [← hpL.len]; exact HXn.out
      clear cP hP6 hpL
      go_wp2_with fail
      refine (cD _).mono ?_
      rintro e w8 ⟨vD, rfl, hD, hb8⟩
      obtain ⟨la, lc, rfl⟩ := own_form' hD
      have b8 := b7.trans (hb8.mono b7.size)
      have hpL8 := hpL7.below hb8
      obtain ⟨za, zc, hcz, hsz8⟩ := cZ _ b8
      have cO := ofPaths_any (w := w8) (lv := .slice la ls.length lc) (v1 := .slice za z.length zc) (v2 := .slice xa xn xc) (u1 := .slice ba b.length bc) (u2 := .slice pa pn pc)
        (fun w' h => pathTexts_any ls z O la xa lc xn xc _ za zc w' (hR.below (b8.trans (h.mono b8.size))) (own_below hD h (Nat.le_refl _)) (hsz8.below h).at' hsz8.bytes hz200 ((hpL8.below h).digs hod) (by rw [HXL.out]; exact Nat.le_refl _) (by omega))
        (fun w' h => pathTexts_any ls b p la pa lc pn pc _ ba bc w' (hR.below (b8.trans (h.mono b8.size))) (own_below hD h (Nat.le_refl _)) (hb.below (b8.trans (h.mono b8.size))).at' hb.bytes hb200 ((hp.below (b8.trans (h.mono b8.size))).digs hdg) (by rw [HPn.out]; exact Nat.le_refl _) (by omega))
        rfl hlk.1.symm (by rw [List.length_cons, climbT_length ls _ O (by rw [HXn.out]; exact Nat.le_refl _), HXn.out]; omega) (ways_fit hsz8.bytes hz200 hob hod) (ways_fit hb.bytes hb200 hpz hdg) hlk hneq
      clear cD cZ hlk hneq hD hpL7 hpL8 hsz hsz8
      go_wp2_with fail
      refine cO.mono ?_
      rintro e w9 ⟨vx, vy, rfl, hT, hb9⟩
      have b9 := b8.trans (hb9.mono b8.size)
      go_wp2_with fail
      exact bodyPost_ret (v := .tuple #[vx, vy, .bool true]) (by simp [results, Tryd.results21, go_sem]) rfl ⟨vx, vy, rfl, hT, b9⟩

end Go.Proofs.YtkjlchfmplcobabDoor
