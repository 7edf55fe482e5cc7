/- The walk of clash.Grew as it landed: what ClashFace asks of it holds. -/
import Derived.Test.YtkjlchfmplcobabDoorProg
import Derived.Test.YtkjlchfmplcobabDoorClashGoStands
import Derived.Test.YtkjlchfmplcobabDoorTreeGoGrew
import Derived.Test.YtkjlchfmplcobabDoorTreeGoGrows
import Derived.WalkKit
import Derived.WalkSpells
import Derived.WalkLawsBesides
namespace Go.Proofs.YtkjlchfmplcobabDoor
open Go.RowKit

/-- What it says that a proof shows a beginning. -/
theorem grew_open {n m : Nat} {old root : List Int} {p : List (List Int)} (h : grewL m old n root p = true) : 1 ≤ m ∧ m ≤ n ∧ n ≤ 100 ∧ old.length = 32 ∧ Digs p ∧ p.length = (proofP 0 n m true).length ∧ (foldTwo m (old, old) (proofP 0 n m true) p).1 = old ∧ (foldTwo m (old, old) (proofP 0 n m true) p).2 = root := by
  have h0 := h
  unfold grewL at h0
  split at h0
  · cases h0
  · rename_i hc
    have h1 : 1 ≤ m := by omega
    have h2 : m ≤ n := by omega
    have h3 : n ≤ 100 := by omega
    have h4 : old.length = 32 := by omega
    have hg : goodL p = true := by
      cases e : goodL p with
      | true => rfl
      | false => rw [e] at hc; simp at hc
    have hf : p.length = (proofP 0 n m true).length := by
      by_cases e : p.length = (proofP 0 n m true).length
      · exact e
      · rw [grew_fit h1 h2 h3 h4 (by rw [decide_eq_false e]; rfl)] at h; cases h
    rw [grew_yes h1 h2 h3 h4 hg hf, Bool.and_eq_true] at h
    exact ⟨h1, h2, h3, h4, goodL_digs.1 hg, hf, of_decide_eq_true h.1, of_decide_eq_true h.2⟩
theorem proof_len {L : List (List Int)} {m : Nat} (h1 : 1 ≤ m) (hm : m ≤ L.length) : (proofL L m true).length = (proofP 0 L.length m true).length := by
  have h := proof_seg L L.length 0 L.length m true (by omega) (by omega) hm (Nat.le_refl _)
  rw [seg_all] at h
  have := congrArg List.length h
  simpa using this.symm
theorem psides_few (n m : Nat) (hn : n ≤ 100) (h1 : 1 ≤ m) (hm : m ≤ n) : (proofSides (proofP 0 n m true) m).length ≤ 100 := by
  have := proofP_few n 0 n m true (by omega) (by omega) hm
  have h2 := List.length_filter_le (fun q : Nat × Nat => decide (q.2 ≠ m)) (proofP 0 n m true)
  unfold proofSides
  rw [List.length_map]
  omega
theorem proofT_fit {ls : List Bool} {d : List Int} {o : List (List Int)} (hd : Bytes d) (h32 : d.length = 32) (ho : ∀ x ∈ o, Bytes x) (hg : Digs o) (hl : o.length = ls.length ∨ (o.length = ls.length + 1 ∧ 1 ≤ ls.length)) : ∀ x ∈ proofT ls d o, Bytes x ∧ x.length ≤ 1000 := by
  unfold proofT
  by_cases hc : o.length = ls.length
  · rw [if_pos hc]
    exact climbT_fit ls d o hd h32 ho hg
  · rw [if_neg hc]
    match o, hl, ho, hg with
    | x :: o, hl, ho, hg =>
      exact climbT_fit ls x o (ho x (by simp)) (hg x (by simp)) (fun y hy => ho y (by simp [hy])) (fun y hy => hg y (by simp [hy]))
    | [], hl, _, _ =>
      rcases hl with h | ⟨h, -⟩
      · exact absurd h hc
      · simp at h
theorem proofT_few {ls : List Bool} {d : List Int} {o : List (List Int)} (hl : o.length = ls.length ∨ (o.length = ls.length + 1 ∧ 1 ≤ ls.length)) : (proofT ls d o).length ≤ ls.length := by
  unfold proofT
  by_cases hc : o.length = ls.length
  · rw [if_pos hc, climbT_length ls d o (by omega)]; omega
  · rw [if_neg hc, climbT_length ls _ _ (by rw [List.length_drop]; omega), List.length_drop]; omega

set_option maxRecDepth 100000 in
set_option maxHeartbeats 4000000 in
theorem clashGrewC_holds : ClashGrewC := by
  intro L os oroot p ov a n c pa pn pc w hR hL ho hp
  have hcap := hL.cap
  have hroom := hL.room
  unfold maxLen at hcap
  obtain ⟨oa, oc, eo⟩ := ho.at'.form
  subst eo
  have b0 : Below w.heap.size w (w.alloc (.cells #[.int .i64 os, .slice oa oroot.length oc] 34)) := (Below.refl _ _).alloc (Nat.le_refl _) _
  obtain ⟨-, z0, z1, sz⟩ := box_cells w (.int .i64 os) (.slice oa oroot.length oc) 34
  have k0 : ∀ w', Below (w.alloc (.cells #[.int .i64 os, .slice oa oroot.length oc] 34)).heap.size (w.alloc (.cells #[.int .i64 os, .slice oa oroot.length oc] 34)) w' → w'.cell? ⟨w.heap.size, 0, none⟩ = some (.int .i64 os) ∧ w'.cell? ⟨w.heap.size, 1, none⟩ = some (.slice oa oroot.length oc) := fun w' h => ⟨(h.cell (p := ⟨w.heap.size, 0, none⟩) sz).trans z0, (h.cell (p := ⟨w.heap.size, 1, none⟩) sz).trans z1⟩
  have cR := rootC_holds L a n c _ (hR.below b0) (hL.below b0)
  have cG : ∀ w' rv, Below w.heap.size w w' → Some' w' rv (mth L) → _ := fun w' rv h hr => grewC_holds os oroot n (mth L) p _ rv pa pn pc w' (hR.below h) (ho.below h) hr (hp.below h)
  have hm32 := mth_length L
  have HC0 : Hid ((wrongL L).1 ≠ 0 → clashG L os oroot p = false) := fun h => by unfold clashG; rw [decide_eq_false h, Bool.false_and, Bool.false_and]
  have HC1 : Hid (grewL os oroot n (mth L) p = false → clashG L os oroot p = false) := fun h => by unfold clashG; rw [hL.len, h, Bool.and_false, Bool.false_and]
  have HC2 : Hid ((wrongL L).1 = 0 → grewL os oroot n (mth L) p = true → clashG L os oroot p = decide (mth (L.take os.toNat) ≠ oroot)) := fun h1 h2 => by unfold clashG; rw [hL.len, decide_eq_true h1, h2, Bool.true_and, Bool.true_and]
  have HPL : Hid (grewL os oroot n (mth L) p = true → 1 ≤ os ∧ os ≤ n) := fun h => by
    unfold grewL at h
    split at h
    · cases h
    · omega
  have HST : Hid (∀ m : Nat, os = (m : Int) → grewL os oroot n (mth L) p = true → 1 ≤ m ∧ m ≤ n ∧ n ≤ 100 ∧ oroot.length = 32 ∧ Digs p ∧ p.length = (proofP 0 n m true).length ∧ (foldTwo m (oroot, oroot) (proofP 0 n m true) p).1 = oroot ∧ (foldTwo m (oroot, oroot) (proofP 0 n m true) p).2 = mth L) := fun m e h => by subst e; exact grew_open h
  have HOK : Hid ((wrongL L).1 = 0 → L.length ≤ 100 ∧ ∀ j, (L.getD j []).length ≤ 200) := wrong_ok
  have HGF : Hid ((wrongL L).1 = 0 → ∀ m : Nat, 1 ≤ m → m ≤ n → growF L (m : Int) = (0, 0)) := fun h0 m h1 h2 => by
    unfold growF
    rw [if_neg (by rw [h0]; decide), if_neg (by rw [hL.len]; omega)]
  generalize grewL os oroot n (mth L) p = st at *
  generalize clashG L os oroot p = ok at *
  obtain ⟨F, HF⟩ : ∃ F, Hid (wrongL L = F) := ⟨_, rfl⟩
  rw [HF.out] at cR HC0 HC2 HOK HGF
  obtain ⟨F1, F2⟩ := F
  dsimp only [faultV] at cR HC0 HC2 HOK HGF
  clear z0 z1
  generalize hol : oroot.length = ol at *
  have HOL : Hid (oroot.length = ol) := hol
  clear hol
  go_enter Tryd.func23, Tryd.ntmps23
  go_wp2_with fail
  refine cR.mono ?_
  rintro e w1 ⟨ra, rn, rc, rfl, hr, -, d1⟩
  have b1 := b0.trans (d1.mono b0.size)
  obtain ⟨c1, f0, f1, sf⟩ := box_cells w1 (.int .i64 F1) (.int .i64 F2) 27
  have b2 := b1.trans (c1.mono b1.size)
  have d2 := d1.trans (c1.mono d1.size)
  clear cR
  by_cases hF : F1 = 0
  case neg =>
    have i1 : (F1 != 0) = true := by simpa using hF
    obtain rfl := HC0.out hF
    clear HC0 HC1 HC2 HPL HST HOK HGF cG hr
    go_wp2_with fail
    exact bodyPost_ret (v := .tuple #[.slice none 0 0, .slice none 0 0, .bool false]) (by simp [results, Tryd.results23, go_sem]) rfl ⟨_, _, rfl, told_none _, b2⟩
  subst hF
  replace hr := hr rfl
  obtain rfl : rn = 32 := own_len hr
  have hr1 := bytesAt_own hr
  obtain ⟨c2, h0, h1, sh⟩ := box_cells (w1.alloc (.cells #[.int .i64 0, .int .i64 F2] 27)) (.int .i64 n) (.slice ra 32 rc) 34
  have b3 := b2.trans (c2.mono b2.size)
  have d3 := d2.trans (c2.mono d2.size)
  obtain ⟨y0, y1⟩ := k0 _ d3
  have hrS : Some' ((w1.alloc (.cells #[.int .i64 0, .int .i64 F2] 27)).alloc (.cells #[.int .i64 n, .slice ra 32 rc] 34)) (.slice ra 32 rc) (mth L) := ⟨(hr1.below (Nat.le_refl _) c1).below (Nat.le_refl _) c2, bytes_mth _, by rw [hm32]; unfold maxLen; omega⟩
  have cG' := cG _ _ b3 hrS
  clear hr hr1 c1 c2 cG hrS
  go_wp2_with fail
  cases hst : st with
  | false =>
    rw [hst] at cG'
    obtain rfl := HC1.out hst
    subst hst
    clear HC0 HC1 HC2 HPL HST HOK HGF
    refine cG'.mono ?_
    rintro e w4 ⟨rfl, hb4⟩
    have b4 := b3.trans (hb4.mono b3.size)
    clear cG'
    go_wp2_with fail
    exact bodyPost_ret (v := .tuple #[.slice none 0 0, .slice none 0 0, .bool false]) (by simp [results, Tryd.results23, go_sem]) rfl ⟨_, _, rfl, told_none _, b4⟩
  | true =>
    rw [hst] at cG'
    obtain ⟨hp1, hpn⟩ := HPL.out hst
    obtain ⟨m, rfl⟩ : ∃ m : Nat, os = (m : Int) := ⟨os.toNat, by omega⟩
    have hm1 : 1 ≤ m := by omega
    have hmn : m ≤ n := by omega
    have hok := HC2.out (by trivial) hst
    rw [Int.toNat_natCast] at hok
    obtain ⟨hL100, hL200⟩ := HOK.out (by trivial)
    obtain ⟨-, -, hn100, ho32', hdg, hpl0, hf1, hf2⟩ := HST.out m rfl hst
    subst ho32'
    have ho32 := HOL.out
    have HWY : Hid (mth (L.take m) ≠ oroot → Linked (proofT (proofSides (proofP 0 n m true) m) (mth (L.take m)) (proofL L m true)) (proofT (proofSides (proofP 0 n m true) m) oroot p) ∧ proofT (proofSides (proofP 0 n m true) m) (mth (L.take m)) (proofL L m true) ≠ proofT (proofSides (proofP 0 n m true) m) oroot p ∧ (pn = (proofSides (proofP 0 n m true) m).length ∨ (pn = (proofSides (proofP 0 n m true) m).length + 1 ∧ 1 ≤ (proofSides (proofP 0 n m true) m).length))) := fun hne => by
      have := grew_ways (L := L) (m := m) (old := oroot) (p := p) hm1 (by rw [hL.len]; exact hmn) (by rw [hL.len]; exact hpl0) hdg ho32 (by rw [hL.len]; exact hf1) (by rw [hL.len]; exact hf2) hne
      rwa [hL.len, hp.len] at this
    have HPn : Hid ((proofL L m true).length = pn) := by
      have := proof_len (L := L) (m := m) hm1 (by rw [hL.len]; exact hmn)
      show _ = _
      rw [this, hL.len, ← hpl0, hp.len]
    have hls := psides_few n m hn100 hm1 hmn
    have HW : Hid (wrongL (L.take m) = (0, 0)) := wrong_zero (by rw [List.length_take]; omega) (take_short hL200 m)
    have cM : ∀ w', Below w.heap.size w w' → _ := fun w' h => rootC_holds (L.take m) a m c w' (hR.below h) ((hL.below h).take hmn (by omega))
    rw [HW.out] at cM
    dsimp only [faultV] at cM
    have cP : ∀ w', Below w.heap.size w w' → _ := fun w' h => growsC_holds L (m : Int) a n c w' (hR.below h) (hL.below h)
    rw [HGF.out (by trivial) m hm1 hmn] at cP
    dsimp only [faultV] at cP
    rw [Int.toNat_natCast] at cP
    have cD : ∀ w', _ := fun w' => proofSides_any n m w' hn100 hm1 hmn
    have hM32 := mth_length (L.take m)
    have hMz := bytes_mth (L.take m)
    have hob := proof_bytes L m true
    have hod := proof_digs L m true
    have hpz := hp.mem_bytes
    subst hst
    clear HC0 HC1 HC2 HPL HST HOK HGF hpl0 hf1 hf2 HW
    obtain ⟨lb, lo, -, -, rfl, -, -⟩ := hL.get 0 (by omega)
    have j1 : (m : Int) ≤ (n : Int) := by omega
    have j2 : (m : Int) ≤ (c : Int) := by omega
    have hoz := ho.bytes
    have hoA : ∀ w', Below w.heap.size w w' → BytesAt w' (.slice oa 32 oc) oroot := fun w' h => (ho.below h).at'
    clear hL hL100 hL200 hp1 hpn ho
    generalize proofL L m true = O at *
    generalize mth (L.take m) = M at *
    generalize proofSides (proofP 0 n m true) m = ls at *
    refine cG'.mono ?_
    rintro e w4 ⟨rfl, hb4⟩
    have b4 := b3.trans (hb4.mono b3.size)
    have d4 := d3.trans (hb4.mono d3.size)
    obtain ⟨u0, u1⟩ := k0 _ d4
    clear cG'
    go_wp2_with fail
    refine (cM _ b4).mono ?_
    rintro e w5 ⟨xa, xn, xc, rfl, hx, -, hb5⟩
    replace hx := hx (by trivial)
    obtain rfl : xn = 32 := own_len hx
    have b5 := b4.trans (hb5.mono b4.size)
    have d5 := d4.trans (hb5.mono d4.size)
    have hx5 := bytesAt_own hx
    obtain ⟨c6, -, -, -⟩ := box_cells w5 (.int .i64 0) (.int .i64 0) 27
    have b6 := b5.trans (c6.mono b5.size)
    have d6 := d5.trans (c6.mono d5.size)
    have hx6 := hx5.below (Nat.le_refl _) c6
    obtain ⟨v0, v1⟩ := k0 _ d6
    have hE := equal_any M oroot (.slice xa 32 xc) (.slice oa 32 oc) _ hx6 (hoA _ b6) hMz hoz
    clear hx hx5 cM u0 u1
    by_cases hz : M = oroot
    · rw [decide_eq_true hz] at hE
      rw [decide_eq_false (p := M ≠ oroot) (fun g => g hz)] at hok
      subst hok
      clear hz HWY cP cD
      go_wp2_with fail
      refine hE.mono ?_
      rintro e w7 ⟨rfl, rfl⟩
      clear hE
      go_wp2_with fail
      exact bodyPost_ret (v := .tuple #[.slice none 0 0, .slice none 0 0, .bool false]) (by simp [results, Tryd.results23, go_sem]) rfl ⟨_, _, rfl, told_none _, b6⟩
    · rw [decide_eq_false hz] at hE
      rw [decide_eq_true (p := M ≠ oroot) hz] at hok
      subst hok
      obtain ⟨hlk, hneq, hpn'⟩ := HWY.out hz
      clear hz HWY
      go_wp2_with fail
      refine hE.mono ?_
      rintro e w7 ⟨rfl, rfl⟩
      clear hE
      generalize w5.alloc (.cells #[.int .i64 0, .int .i64 0] 27) = w6 at *
      go_wp2_with fail
      refine (cP _ b6).mono ?_
      rintro e w7 ⟨ga, gn, gc, rfl, hP7, -, hb7⟩
      replace hP7 := hP7 (by trivial)
      have b7 := b6.trans (hb7.mono b6.size)
      have d7 := d6.trans (hb7.mono d6.size)
      have hx7 := hx6.below (Nat.le_refl _) hb7
      have hpL := hP7.lists hob (digs_short hod)
      obtain ⟨c8, -, -, -⟩ := box_cells w7 (.int .i64 0) (.int .i64 0) 27
      have b8 := b7.trans (c8.mono b7.size)
      have d8 := d7.trans (c8.mono d7.size)
      have hx8 := hx7.below (Nat.le_refl _) c8
      have hpL8 := hpL.below c8
      have HGn : Hid (gn = pn) := by show _ = _; rw [← hpL.len]; exact HPn.out
      obtain ⟨t0, t1⟩ := k0 _ d8
      clear cP hP7 hpL hx6 hx7 v0 v1
      go_wp2_with fail
      refine (cD _).mono ?_
      rintro e w9 ⟨vD, rfl, hD, hb9⟩
      obtain ⟨la, lc, rfl⟩ := own_form' hD
      have b9 := b8.trans (hb9.mono b8.size)
      have d9 := d8.trans (hb9.mono d8.size)
      have hpL9 := hpL8.below hb9
      have hx9 := hx8.below (Nat.le_refl _) hb9
      obtain ⟨s0, s1⟩ := k0 _ d9
      have hgn' : gn = ls.length ∨ (gn = ls.length + 1 ∧ 1 ≤ ls.length) := by rw [HGn.out]; exact hpn'
      have HPl : Hid (p.length = pn) := hp.len
      have cO := ofProofs_any (w := w9) (lv := .slice la ls.length lc) (v1 := .slice xa 32 xc) (v2 := .slice ga gn gc) (u1 := .slice oa 32 oc) (u2 := .slice pa pn pc)
        (fun w' h => proofTexts_any ls M O la ga lc gn gc _ xa xc w' (hR.below (b9.trans (h.mono b9.size))) (own_below hD h (Nat.le_refl _)) (hx9.below (Nat.le_refl _) h) hMz hM32 ((hpL9.below h).digs hod) hgn' (by omega))
        (fun w' h => proofTexts_any ls oroot p la pa lc pn pc _ oa oc w' (hR.below (b9.trans (h.mono b9.size))) (own_below hD h (Nat.le_refl _)) (hoA _ (b9.trans (h.mono b9.size))) hoz ho32 ((hp.below (b9.trans (h.mono b9.size))).digs hdg) hpn' (by omega))
        rfl hlk.1.symm (by have := proofT_few (ls := ls) (d := M) (o := O) (by rw [HPn.out]; exact hpn'); omega) (proofT_fit hMz hM32 hob hod (by rw [HPn.out]; exact hpn')) (proofT_fit hoz ho32 hpz hdg (by rw [HPl.out]; exact hpn')) hlk hneq
      clear cD hlk hneq hD hpL8 hpL9 hx8 hx9 t0 t1 hgn' hpn'
      go_wp2_with fail
      refine cO.mono ?_
      rintro e w10 ⟨vx, vy, rfl, hT, hb10⟩
      have b10 := b9.trans (hb10.mono b9.size)
      go_wp2_with fail
      exact bodyPost_ret (v := .tuple #[vx, vy, .bool true]) (by simp [results, Tryd.results23, go_sem]) rfl ⟨vx, vy, rfl, hT, b10⟩

end Go.Proofs.YtkjlchfmplcobabDoor
