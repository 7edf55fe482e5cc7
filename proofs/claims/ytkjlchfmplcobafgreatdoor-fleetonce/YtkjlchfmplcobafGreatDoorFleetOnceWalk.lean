/- The walk of the law FleetOnce, over the faces of package fleet. -/
import Derived.Test.YtkjlchfmplcobafGreatDoorProg
import Derived.Test.YtkjlchfmplcobafGreatDoorFleetShownWalk
import Derived.Test.YtkjlchfmplcobafGreatDoorFleetOnceKeys
import Derived.WalkKit
import Derived.WalkSpells
import Derived.WalkLawsBesides
import Derived.Deep.QuietTactic
import Derived.BigQuiet
import Derived.Deep.RegionHeld3
import Derived.BigRegion
import Derived.Deep.DeepCutAuto
namespace Go.Proofs.YtkjlchfmplcobafGreatDoor
open Go.RowKit Go.Maps

theorem turned_belowO {B : Nat} {w0 w w' : World} {b : Nat} (h : Below B w0 w) (ht : w.mapTurned w' b) (hb : B ≤ b) (hB : B ≤ w.heap.size) : Below B w0 w' := h.grown ht.grown hB (fun q hq => by cases hq; exact hb)
abbrev Own1 (w : World) (b n : Nat) (D : DataW Unit) : Prop := w.ownsMap Tryz.prog 3 (plainElem (H := Unit) Tryz.prog 3) b n D
abbrev Own2 (w : World) (b n : Nat) (D : DataW Unit) : Prop := w.ownsMap Tryz.prog 64 (plainElem (H := Unit) Tryz.prog 9) b n D
theorem DosAt.bytes {w : World} {a : Option Addr} {n c : Nat} {l : List Dd} (h : DosAt w (.slice a n c) l) (hn : l.length = n) (j : Nat) : Bytes (l.getD j dd0).entry := by
  by_cases hj : j < n
  · obtain ⟨b, o, -, -, hX⟩ := h.get hn hj
    obtain ⟨pa, pc, -, hS⟩ := hX.entry
    exact hS.bytes
  · rw [List.getD_eq_getElem?_getD, List.getElem?_eq_none (by omega)]; exact nil_bytes
theorem str_eq {s : ByteArray} {e : List Int} (h : s.data.toList = (strOfNums e).data.toList) : s = strOfNums e := by
  obtain ⟨⟨l⟩⟩ := s
  unfold strOfNums at h ⊢
  simp at h
  rw [h]
set_option maxRecDepth 100000 in
set_option maxHeartbeats 4000000 in
theorem fleetOnce_any (hPl : PlayC) (hSh : ShowC) (hCh : CheckC) (hHe : BookHeadC) (ws : List Win) (l : List Dd) (wa da : Option Addr) (wn wc dn dc : Nat) (w : World) (hR : Ready w) (hW : WinsAt w (.slice wa wn wc) ws) (hD : DosAt w (.slice da dn dc) l) (hn : l.length = dn) :
    Calls Tryz.prog 5 #[.slice wa wn wc, .slice da dn dc] w fun e w' => e = .returned (.bool true) ∧ Below w.heap.size w w' := by
  have cA := alive7_any hPl hSh hCh hHe w hR
  have cP := fun w' (h : Below w.heap.size w w') => hPl ws l _ _ w' (hR.below h) (hW.below h) (hD.below h)
  have HP : Hid ((playF ws l).1 = 0 → dn ≤ 120 ∧ (playL ws l).2.length = dn ∧ ∀ i, i < dn → (l.getD i dd0).kind = 1 → ((playL ws l).2.getD i ans0).err = 0 → ∃ k p : Nat, ((playL ws l).2.getD i ans0).shard = (k : Int) ∧ ((playL ws l).2.getD i ans0).place = (p : Int) ∧ k < 8 ∧ p ≤ 100 ∧
      ((p < (hist l (playL ws l).2 i k).length ∧ (hist l (playL ws l).2 i k).getD p [] = (l.getD i dd0).entry) ∨ (p = (hist l (playL ws l).2 i k).length ∧ (l.getD i dd0).entry ∉ hist l (playL ws l).2 i k)) ∧ (hist l (playL ws l).2 i k).Nodup) := fun h => by
    obtain ⟨e, hw, hl⟩ := play_ok h
    rw [e]
    refine ⟨by omega, by rw [runL_length, hn], fun i hi hk he => ?_⟩
    obtain ⟨k, p, h1, h2, h3, h4, h5⟩ := once l (by omega) hk he
    exact ⟨k, p, h1, h2, by have := (wrongWins_ok hw).1; omega, h4, h5⟩
  have hDm : dn ≤ maxLen := by obtain ⟨_, _, e, g2, g3, -⟩ := hD; cases e; omega
  unfold maxLen at hDm
  clear hW
  generalize playF ws l = F at *
  generalize playL ws l = P at *
  obtain ⟨F1, F2⟩ := F
  obtain ⟨P, A⟩ := P
  dsimp only [faultV] at cP HP
  go_enter Tryz.func5, Tryz.ntmps5
  go_wp2_with fail
  refine cA.mono ?_
  rintro e w1 ⟨rfl, b1⟩
  clear cA
  go_wp2_with fail
  refine (cP _ b1).mono ?_
  rintro e w2 ⟨fv, av, rfl, ⟨sa, sc, ka, kc, rfl, -, -⟩, hA, hb2⟩
  have b2 := b1.trans (hb2.mono b1.size)
  obtain ⟨aa, ac, rfl⟩ := hA.form
  have d3 : Below w2.heap.size w2 ((w2.alloc (.cells #[.slice sa P.shards.length sc, .slice ka P.book.length kc] 28)).alloc (.cells #[.int .i64 F1, .int .i64 F2] 32)) := ((Below.refl _ _).alloc (Nat.le_refl _) _).alloc (by simp) _
  have b3 := b2.trans (d3.mono b2.size)
  obtain ⟨f0, f1, -, -⟩ := box_two (box_last w2 (.cells #[.slice sa P.shards.length sc, .slice ka P.book.length kc] 28) #[.int .i64 F1, .int .i64 F2] 32)
  have hA3 := hA.below d3
  have hD3 := hD.below b3
  clear cP hA hb2 b1 b2 d3 hD hPl
  by_cases hF : F1 ≠ 0
  · have hF' : (F1 != 0) = true := by simpa using hF
    clear HP hF hA3 hD3
    go_wp2_with fail
    go_ret
    exact ⟨rfl, b3⟩
  obtain rfl : F1 = 0 := by simpa using hF
  obtain ⟨h120, hAl, hon⟩ := HP.out rfl
  have HON : Hid _ := hon
  rw [hAl] at hA3 ⊢
  clear HP hF hon
  have hmm := @run_makeMap Tryz.prog
  go_upto_region 6 with fail
  generalize (w2.alloc (.cells #[.slice sa P.shards.length sc, .slice ka P.book.length kc] 28)).alloc (.cells #[.int .i64 0, .int .i64 F2] 32) = w3 at *
  clear f0 f1
  have hs3 := b3.size
  have o1 : Own1 (w3.alloc (.map #[] 0)) w3.heap.size 0 (.map []) := World.ownsMap_made w3 Tryz.prog 3 (plainElem (H := Unit) Tryz.prog 3)
  have o2 : Own2 ((w3.alloc (.map #[] 0)).alloc (.map #[] 0)) (w3.alloc (.map #[] 0)).heap.size 0 (.map []) := World.ownsMap_made (w3.alloc (.map #[] 0)) Tryz.prog 64 (plainElem (H := Unit) Tryz.prog 9)
  have o1' := o1.alloc (.map #[] 0)
  have hz : (w3.alloc (.map #[] 0)).heap.size = w3.heap.size + 1 := by simp
  rw [hz] at o2
  have d5 : Below w3.heap.size w3 ((w3.alloc (.map #[] 0)).alloc (.map #[] 0)) := ((Below.refl _ _).alloc (Nat.le_refl _) _).alloc (by simp) _
  have hzi : ∀ W : World, (zeroValue 3).run Tryz.prog W = .ok (.int .i64 0) W := fun W => by kernel_rfl
  have hzs : ∀ W : World, (zeroValue 9).run Tryz.prog W = .ok (.string ⟨#[]⟩) W := fun W => by kernel_rfl
  clear o1 hz
  go_wp2_with fail
  clear hmm
  generalize (w3.alloc (.map #[] 0)).alloc (.map #[] 0) = w5 at *
  go_loopw [33] (fun kv wr => ∃ (i : Nat) (D1 D2 : DataW Unit), i ≤ dn ∧ kv = .int .i64 i ∧ Own1 wr w3.heap.size i D1 ∧ Own2 wr (w3.heap.size + 1) i D2 ∧ Hid (NextM (hist l A i) D1) ∧ Hid (HadM (hist l A i) D2) ∧ Below w3.heap.size w3 wr) (fun kv _ => dn - (intOf kv).toNat)
  case atStart => exact ⟨0, _, _, Nat.zero_le _, rfl, o1', o2, nextM_none, hadM_none, d5⟩
  case round =>
    obtain ⟨wo, rfl⟩ : ∃ x, x = wr := ⟨wr, rfl⟩
    obtain ⟨i, D1, D2, hi, rfl, hO1, hO2, HN, HH, hbr⟩ := hrel
    have hsr := hbr.size
    have hbw := b3.trans (hbr.mono b3.size)
    have hl1 := hO1.lt
    have hl2 := hO2.lt
    by_cases hlt : i < dn
    case neg =>
      obtain rfl : i = dn := by omega
      have hnl : ¬ (i : Int) < i := by omega
      clear HON HN HH
      go_wp2_with fail
      go_ret
      exact ⟨rfl, hbw⟩
    have hlt' : (i : Int) < dn := by omega
    obtain ⟨p1, o1, rfl, hp1, hX⟩ := (hD3.below hbr).get hn hlt
    obtain ⟨e0, e1, e2, ⟨qa, qc, e3, hent⟩, e4, e5, e6, -⟩ := hX
    obtain ⟨p2, o2, rfl, hp2, hY⟩ := (hA3.below hbr).get hAl hlt
    obtain ⟨y0, y1, y2, -, -⟩ := hY
    have HQ : Hid _ := HON.out i hlt
    have HDB : Hid (∀ j, Bytes (l.getD j dd0).entry) := fun j => hD3.bytes hn j
    have HSame : Hid (¬ ((l.getD i dd0).kind = 1 ∧ (A.getD i ans0).err = 0) → hist l A (i + 1) = hist l A i) := hist_same
    have HMore : Hid (∀ k p : Nat, (l.getD i dd0).kind = 1 → (A.getD i ans0).err = 0 → (A.getD i ans0).shard = (k : Int) → (A.getD i ans0).place = (p : Int) → p = (hist l A i k).length → hist l A (i + 1) = more (hist l A i) k (l.getD i dd0).entry) := fun k p a b c d e => hist_more a b c d e
    have HHad : Hid (∀ k p : Nat, (A.getD i ans0).shard = (k : Int) → (A.getD i ans0).place = (p : Int) → p < (hist l A i k).length → hist l A (i + 1) = hist l A i) := fun k p a b c => hist_had a b c
    clear HON hD3 hA3
    generalize l.getD i dd0 = X at *
    generalize A.getD i ans0 = Z at *
    have HB : Hid (∀ s q, Bytes ((hist l A i s).getD q [])) := fun s q => hist_each nil_bytes HDB.out i s q
    obtain ⟨Hs', HE'⟩ : ∃ Hs', Hid (hist l A (i + 1) = Hs') := ⟨_, rfl⟩
    rw [HE'.out] at HSame HMore HHad
    generalize hist l A i = Hs at *
    have hd4 : Below wo.heap.size wo (wo.alloc (.cells #[.int .i64 X.kind, .int .i64 X.n, .int .i64 X.time, .slice qa X.entry.length qc, .int .i64 X.segment, .int .i64 X.at', .int .u8 X.by'] 37)) := (Below.refl _ _).alloc (Nat.le_refl _) _
    have b4 := hbr.alloc hsr (.cells #[.int .i64 X.kind, .int .i64 X.n, .int .i64 X.time, .slice qa X.entry.length qc, .int .i64 X.segment, .int .i64 X.at', .int .u8 X.by'] 37)
    have hO14 := hO1.alloc (.cells #[.int .i64 X.kind, .int .i64 X.n, .int .i64 X.time, .slice qa X.entry.length qc, .int .i64 X.segment, .int .i64 X.at', .int .u8 X.by'] 37)
    have hO24 := hO2.alloc (.cells #[.int .i64 X.kind, .int .i64 X.n, .int .i64 X.time, .slice qa X.entry.length qc, .int .i64 X.segment, .int .i64 X.at', .int .u8 X.by'] 37)
    have z4 := box_new wo #[.int .i64 X.kind, .int .i64 X.n, .int .i64 X.time, .slice qa X.entry.length qc, .int .i64 X.segment, .int .i64 X.at', .int .u8 X.by'] 37
    have hent4 := hent.below hd4
    obtain ⟨t0, t1, t2, t3, t4, t5, t6⟩ := box_7 z4
    replace y0 := (hd4.cell (p := ⟨p2, o2 + i * 5, none⟩) hp2).trans y0
    replace y1 := (hd4.cell (p := ⟨p2, o2 + i * 5 + 1, none⟩) hp2).trans y1
    replace y2 := (hd4.cell (p := ⟨p2, o2 + i * 5 + 2, none⟩) hp2).trans y2
    clear hO1 hO2 hent
    by_cases hk1 : X.kind = 1
    case neg =>
      have hk1' : (X.kind != 1) = true := by simpa using hk1
      have HE := HSame.out (fun h => hk1 h.1)
      subst HE
      clear HQ HMore HHad HSame hk1
      go_wp2_with fail
      go_roundw
      case rel => exact ⟨i + 1, D1, D2, by omega, by go_num, hO14.mono (by omega), hO24.mono (by omega), by rw [HE'.out]; exact HN, by rw [HE'.out]; exact HH, b4⟩
      case measure => simp [intOf]; omega
    by_cases hz0 : Z.err = 0
    case neg =>
      have hz0' : (Z.err != 0) = true := by simpa using hz0
      have HE := HSame.out (fun h => hz0 h.2)
      subst HE
      rw [hk1] at e0 t0 t1 t2 t3 t4 t5 t6 b4 z4 y0 hd4 hO14 hO24
      clear HQ HMore HHad HSame hz0
      go_wp2_with fail
      go_roundw
      case rel => exact ⟨i + 1, D1, D2, by omega, by go_num, hO14.mono (by omega), hO24.mono (by omega), by rw [HE'.out]; exact HN, by rw [HE'.out]; exact HH, b4⟩
      case measure => simp [intOf]; omega
    obtain ⟨k, p, ek, ep, hk8, hp100, hcase, hnd⟩ := HQ.out hk1 hz0
    rw [hk1] at e0 t0 t1 t2 t3 t4 t5 t6 b4 z4 y0 y1 y2 hd4 hO14 hO24 hent4
    rw [hz0] at y0
    rw [ek] at y1
    rw [ep] at y2
    have HM2 : Hid (p = (Hs k).length → Hs' = more Hs k X.entry) := HMore.out k p hk1 hz0 ek ep
    have HM3 : Hid (p < (Hs k).length → Hs' = Hs) := HHad.out k p ek ep
    clear HQ HMore HHad HSame hk1 hz0 ek ep
    have hp2' := Nat.lt_of_lt_of_le hp2 hd4.size
    go_upto_region 12 with fail
    generalize wo.alloc (.cells #[.int .i64 1, .int .i64 X.n, .int .i64 X.time, .slice qa X.entry.length qc, .int .i64 X.segment, .int .i64 X.at', .int .u8 X.by'] 37) = w4 at *
    go_region_held3 (fun w' => Below w4.heap.size w4 w' ∧ ∀ b o, b < w4.heap.size → w'.cell? ⟨b, o, none⟩ = w4.cell? ⟨b, o, none⟩) (first | (with_reducible assumption) | (with_reducible exact keptB_drew w4) | (with_reducible exact keptB_new w4 _)) (fail)
    rename (Below w4.heap.size w4 _ ∧ _) => hHd
    clear hHd
    have z6 : (w4.alloc (.cells #[.int .i64 (k : Int), .int .i64 (p : Int)] 64)).drew.heap[w4.heap.size]? = _ := box_new w4 #[.int .i64 (k : Int), .int .i64 (p : Int)] 64
    have d6 : Below w4.heap.size w4 (w4.alloc (.cells #[.int .i64 (k : Int), .int .i64 (p : Int)] 64)).drew := ((Below.refl _ _).alloc (Nat.le_refl _) _).drew
    have hO16 : Own1 (w4.alloc (.cells #[.int .i64 (k : Int), .int .i64 (p : Int)] 64)).drew w3.heap.size i D1 := (hO14.alloc (.cells #[.int .i64 (k : Int), .int .i64 (p : Int)] 64)).drew
    have hO26 : Own2 (w4.alloc (.cells #[.int .i64 (k : Int), .int .i64 (p : Int)] 64)).drew (w3.heap.size + 1) i D2 := (hO24.alloc (.cells #[.int .i64 (k : Int), .int .i64 (p : Int)] 64)).drew
    generalize (w4.alloc (.cells #[.int .i64 (k : Int), .int .i64 (p : Int)] 64)).drew = w6 at *
    have b6 := b4.trans (d6.mono b4.size)
    obtain ⟨q0, q1, -, -⟩ := box_two z6
    have z46 := box_kept z4 d6
    obtain ⟨t0', t1', t2', t3', t4', t5', t6'⟩ := box_7 z46
    have hent6 := hent4.below d6
    have y16 := (d6.cell (p := ⟨p2, o2 + i * 5 + 1, none⟩) hp2').trans y1
    have y26 := (d6.cell (p := ⟨p2, o2 + i * 5 + 2, none⟩) hp2').trans y2
    have ik : In7 (k : Int) := by omega
    have ip : In7 (p : Int) := by omega
    obtain ⟨v, ps, hlk, hv⟩ := hO26.look_ok Tryz.key2 Tryz.underlying63 (hzs w6) (plainElem_string Tryz.underlying9 (s := ⟨#[]⟩) (by decide)) (key2_mk ik ip)
    obtain ⟨sv, rfl, hsv, -⟩ := plainElem_string_inv Tryz.underlying9 hv
    simp only [Prod.mk.injEq] at hsv
    have hsv1 := hsv.1
    have hhas := HH.out.has (k : Int) (p : Int) ik ip
    rw [Int.toNat_natCast, Int.toNat_natCast] at hhas
    have HL1 : ∀ q, (Instr.lookup 62 (.map (some w3.heap.size)) (.int .i64 (k : Int)) false).run Tryz.prog (w6.drewN q) = .ok (.int .i64 ((Hs k).length : Int)) (w6.drewN q) := fun q => by
      obtain ⟨c, hr, hc, -⟩ := World.ownsMap.lookup_int (w := w6.drewN q) hO16 Tryz.keyIntO Tryz.underlying62 Tryz.underlying3 (hzi _) (keyOf_int_mk Tryz.underlying3 (a := (k : Int)) (WalkArith.wf_i64 ik))
      rw [hr]
      rw [HN.out.had, lenAt_nat] at hc
      simp only [DataW.lit.injEq, Lit.int.injEq, true_and] at hc
      rw [hc]
    have HCv : ∀ q, (convert 35 9 (.slice qa X.entry.length qc)).run Tryz.prog (w6.drewN q) = .ok (.string (strOfNums X.entry)) (w6.drewN q) := fun q => (hent6.below (below_drewN' (Below.refl _ _) q)).at'.conv
    have hpn : (Hs k).length ≤ 9223372036854775806 ∨ True := .inr trivial
    clear hv hsv y0 y1 y2 z4 t0 t1 t2 t3 t4 t5 t6 hent4 hO14 hO24 hpn
    rcases hcase with ⟨hpl, hpe⟩ | ⟨hpl, hpe⟩
    · have hval := HH.out.val k p ik ip hpl (.lit (.string []))
      have hsve : sv = strOfNums X.entry := str_eq (by
        have := hsv1.symm.trans hval
        rw [hpe] at this
        simpa using this)
      subst hsve
      rw [hhas.2 ⟨by omega, by omega, hpl⟩] at hlk
      have hpl' : (p : Int) < ((Hs k).length : Int) := by omega
      have HHs : Hid (Hs' = Hs) := HM3.out hpl
      have HCL : Hid (∀ (a b : Int) (c : ByteArray), In7 a → In7 b → Maps.has D2 (K2 a b) = true → (∀ z, D2.atKey (K2 a b) z = .lit (.string c.data.toList)) → a = (k : Int) → c.toList = (strOfNums X.entry).toList → b = (p : Int)) := fun a b c ha hb hh hat e1 e2 => by
        obtain ⟨a0, b0, hlt⟩ := (HH.out.has a b ha hb).1 hh
        obtain ⟨bb, rfl⟩ := Int.eq_ofNat_of_zero_le b0
        rw [e1, Int.toNat_natCast, Int.toNat_natCast] at hlt
        have hv := HH.out.val k bb (by rw [← e1]; exact ha) hb hlt .nil
        rw [e1] at hat
        rw [hat] at hv
        have h3 : c = strOfNums ((Hs k).getD bb []) := str_eq (by simpa using hv)
        rw [h3] at e2
        have h4 := nums_inj hent6.bytes (HB.out k bb) e2.symm
        have h5 : (Hs k).getD bb [] = (Hs k).getD p [] := by rw [← h4, hpe]
        have : bb = p := by
          rw [List.getD_eq_getElem?_getD, List.getElem?_eq_getElem hlt, List.getD_eq_getElem?_getD, List.getElem?_eq_getElem hpl] at h5
          exact (List.getElem_inj hnd).1 h5
        rw [this]
      clear hval hhas HM2 HM3 hpe hsv1 hnd hpl HB
      generalize (Hs k).length = n at *
      go_upto_region 14 with fail
      clear hlk
      go_quiet (fail)
      have hb66 : Below w6.heap.size w6 (w6.drewN nq) := below_drewN' (Below.refl _ _) nq
      have hO17 : Own1 (w6.drewN nq) w3.heap.size i D1 := hO16
      have hO27 : Own2 (w6.drewN nq) (w3.heap.size + 1) i D2 := hO26
      have z7 := box_kept z6 hb66
      have z47 := box_kept z46 hb66
      have hent7 := hent6.below hb66
      have b7 := b6.trans (hb66.mono b6.size)
      have hl7 : w3.heap.size + 1 < (w6.drewN nq).heap.size := hO27.lt
      have y17 := (hb66.cell (p := ⟨p2, o2 + i * 5 + 1, none⟩) (Nat.lt_of_lt_of_le hp2' d6.size)).trans y16
      have hp27 : p2 < (w6.drewN nq).heap.size := Nat.lt_of_lt_of_le (Nat.lt_of_lt_of_le hp2' d6.size) hb66.size
      clear hO16 hO26 z6 z46 hent6 b6 q0 q1 t0' t1' t2' t3' t4' t5' t6' y16 y26 HL1 HCv hb66
      generalize w6.drewN nq = w7 at *
      go_wp2_with (at_range; refine wpList_range_own _ rfl _ 63 rfl 64 9 Tryz.key2 Tryz.underlying63 _ (w3.heap.size + 1) i D2 rfl hO27 ?_; intro w8 hrg0 hg0 hs0)
      try go_frame
      have d8 : Below w7.heap.size w7 w8 := (Below.refl _ _).grown hg0 (Nat.le_refl _) (fun q hq => by cases hq)
      go_loopw [112] (fun _ wr => ∃ (left : Lit → Bool) (cnt : Nat), wr.ranges Tryz.prog 64 (plainElem (H := Unit) Tryz.prog 9) (w3.heap.size + 1) w7.heap.size i D2 left cnt ∧ Hid (∀ kl, left kl = true → Maps.has D2 kl = true) ∧ Below w7.heap.size w7 wr) (fun _ wr => wr.rangeLeft (w3.heap.size + 1) w7.heap.size)
      case atStart => exact ⟨_, _, hrg0, fun kl h => h, d8⟩
      case round =>
        obtain ⟨wp, rfl⟩ : ∃ x, x = wr := ⟨wr, rfl⟩
        obtain ⟨left, cnt, hrg, HLf, hbp⟩ := hrel
        clear hrg0 hg0 hs0 d8
        have hsp := hbp.size
        go_wp2_with (at_next; refine wpList_next_ranges _ rfl _ rfl 64 Tryz.key2 (plainElem (H := Unit) Tryz.prog 9) (fun x : Int × Int => Value.agg #[.int .i64 x.1, .int .i64 x.2]) Value.string (fun key kl hk => by obtain ⟨x, hx, _⟩ := key2_inv hk; exact ⟨x, hx⟩) (fun v y hv => by obtain ⟨c, rfl, _⟩ := plainElem_string_inv Tryz.underlying9 hv; exact ⟨c, rfl⟩) (w3.heap.size + 1) w7.heap.size i D2 left cnt rfl hrg ?_ ?_)
        · intro hc0 hl0
          have hO2p := hrg.owns
          have hO1p := hO17.kept (row := none) ⟨hbp.os, hbp.tape, hbp.output, hbp.size, fun k hk _ => hbp.block k hk⟩ (by simp)
          have bp := b7.trans (hbp.mono b7.size)
          clear hl0 HLf HCL hrg
          go_wp2_with fail
          go_roundw
          case rel => exact ⟨i + 1, D1, D2, by omega, by go_num, hO1p.mono (by omega), hO2p.mono (by omega), by rw [HE'.out, HHs.out]; exact HN, by rw [HE'.out, HHs.out]; exact HH, bp⟩
          case measure => simp [intOf]; omega
        · intro xa xb c kl y1 y2 w9 cnt' hkey hlk hv hat hrg9 hltc hg9 hs9 hen
          obtain ⟨x', ex, ia, ib, rfl⟩ := key2_inv hkey
          simp only [Value.agg.injEq, Array.mk.injEq, List.cons.injEq, Value.int.injEq, true_and, and_true] at ex
          obtain ⟨e1, e2⟩ := ex
          rw [← e1, ← e2] at hat hlk hrg9
          rw [← e1] at ia
          rw [← e2] at ib
          obtain ⟨c', ec, ey, -⟩ := plainElem_string_inv Tryz.underlying9 hv
          simp only [Prod.mk.injEq] at ey
          obtain ⟨rfl, rfl⟩ := ey
          obtain rfl : c = c' := by simpa using ec
          try dsimp only at hen hat
          have hcl := HCL.out xa xb c ia ib (HLf.out _ hlk) hat
          have HLf9 : Hid (∀ kl, (left kl && !kl.sameKey (K2 xa xb)) = true → Maps.has D2 kl = true) := fun kl h => HLf.out kl (by simp at h; exact h.1)
          have c9 : Below w7.heap.size w7 w9 := hbp.grown hg9 hsp (fun q hq => by cases hq; exact Nat.le_refl _)
          have dA : Below w9.heap.size w9 (w9.alloc (.cells #[.int .i64 xa, .int .i64 xb] 64)) := (Below.refl _ _).alloc (Nat.le_refl _) _
          have cA := c9.trans (dA.mono c9.size)
          obtain ⟨g0, g1, -, -⟩ := box_two (box_new w9 #[.int .i64 xa, .int .i64 xb] 64)
          obtain ⟨q0, q1, -, -⟩ := box_two (box_kept z7 cA)
          obtain ⟨t0, t1, t2, t3, t4, t5, t6⟩ := box_7 (box_kept z47 cA)
          have hcv := (hent7.below cA).at'.conv
          have hrgA := hrg9.alloc (.cells #[.int .i64 xa, .int .i64 xb] 64)
          have HME : Hid ((w9.alloc (.cells #[.int .i64 xa, .int .i64 xb] 64)).rangeLeft (w3.heap.size + 1) w7.heap.size < wp.rangeLeft (w3.heap.size + 1) w7.heap.size) := by show _ < _; rw [hrgA.left_eq, hrg.left_eq]; exact hltc
          clear hkey hlk hv hat hrg9 hltc hg9 HLf HCL e1 e2 hrg ec hs9
          by_cases h1 : xa = (k : Int)
          · by_cases h2 : c.toList = (strOfNums X.entry).toList
            · obtain rfl := hcl h1 h2
              subst h1
              clear hcl
              go_wp2_with fail
              go_roundw
              case rel => exact ⟨_, _, hrgA, HLf9, cA⟩
              case measure => exact HME.out
            · subst h1
              clear hcl
              go_wp2_with fail
              go_roundw
              case rel => exact ⟨_, _, hrgA, HLf9, cA⟩
              case measure => exact HME.out
          · have h1' : (xa == (k : Int)) = false := by simpa using h1
            clear hcl
            go_wp2_with fail
            go_roundw
            case rel => exact ⟨_, _, hrgA, HLf9, cA⟩
            case measure => exact HME.out
    · have HPL : Hid (p = (Hs k).length) := hpl
      have hhas0 : Maps.has D2 (K2 (k : Int) (p : Int)) = false := by
        cases hq : Maps.has D2 (K2 (k : Int) (p : Int)) with
        | false => rfl
        | true => exact absurd (hhas.1 hq).2.2 (by omega)
      rw [hhas0] at hlk
      have HHs : Hid (Hs' = more Hs k X.entry) := HM2.out hpl
      have HCL : Hid (∀ (a b : Int) (c : ByteArray), In7 a → In7 b → Maps.has D2 (K2 a b) = true → (∀ z, D2.atKey (K2 a b) z = .lit (.string c.data.toList)) → a = (k : Int) → c.toList = (strOfNums X.entry).toList → b = (p : Int)) := fun a b c ha hb hh hat e1 e2 => by
        exfalso
        obtain ⟨a0, b0, hlt⟩ := (HH.out.has a b ha hb).1 hh
        obtain ⟨bb, rfl⟩ := Int.eq_ofNat_of_zero_le b0
        rw [e1, Int.toNat_natCast, Int.toNat_natCast] at hlt
        have hv := HH.out.val k bb (by rw [← e1]; exact ha) hb hlt .nil
        rw [e1] at hat
        rw [hat] at hv
        have h3 : c = strOfNums ((Hs k).getD bb []) := str_eq (by simpa using hv)
        rw [h3] at e2
        have h4 := nums_inj hent6.bytes (HB.out k bb) e2.symm
        apply hpe
        rw [h4, List.getD_eq_getElem?_getD, List.getElem?_eq_getElem hlt]
        exact List.getElem_mem hlt
      have hp2ne : p2 ≠ w3.heap.size + 1 := by
        have := hO26.lt
        intro e
        obtain ⟨es, clock, hb, -⟩ := hO26
        rw [← e] at hb
        have := World.cell?_of_block (w := w6) (w' := w6) (a := ⟨p2, o2 + i * 5 + 1, none⟩) rfl
        rw [World.cell?, hb] at y16
        simp at y16
      rw [← hpl] at HL1
      have hpp : ¬ (p : Int) < p := by omega
      clear hhas hhas0 HM2 HM3 hpe hsv1 hnd hpl HB
      go_upto_region 14 with fail
      clear hlk
      go_quiet (fail)
      have hb66 : Below w6.heap.size w6 (w6.drewN nq) := below_drewN' (Below.refl _ _) nq
      have hO17 : Own1 (w6.drewN nq) w3.heap.size i D1 := hO16
      have hO27 : Own2 (w6.drewN nq) (w3.heap.size + 1) i D2 := hO26
      have z7 := box_kept z6 hb66
      have z47 := box_kept z46 hb66
      have hent7 := hent6.below hb66
      have b7 := b6.trans (hb66.mono b6.size)
      have hl7 : w3.heap.size + 1 < (w6.drewN nq).heap.size := hO27.lt
      have y17 := (hb66.cell (p := ⟨p2, o2 + i * 5 + 1, none⟩) (Nat.lt_of_lt_of_le hp2' d6.size)).trans y16
      have hp27 : p2 < (w6.drewN nq).heap.size := Nat.lt_of_lt_of_le (Nat.lt_of_lt_of_le hp2' d6.size) hb66.size
      clear hO16 hO26 z6 z46 hent6 b6 q0 q1 t0' t1' t2' t3' t4' t5' t6' y16 y26 HL1 HCv hb66
      generalize w6.drewN nq = w7 at *
      go_wp2_with (at_range; refine wpList_range_own _ rfl _ 63 rfl 64 9 Tryz.key2 Tryz.underlying63 _ (w3.heap.size + 1) i D2 rfl hO27 ?_; intro w8 hrg0 hg0 hs0)
      try go_frame
      have d8 : Below w7.heap.size w7 w8 := (Below.refl _ _).grown hg0 (Nat.le_refl _) (fun q hq => by cases hq)
      go_loopw [112] (fun _ wr => ∃ (left : Lit → Bool) (cnt : Nat), wr.ranges Tryz.prog 64 (plainElem (H := Unit) Tryz.prog 9) (w3.heap.size + 1) w7.heap.size i D2 left cnt ∧ Hid (∀ kl, left kl = true → Maps.has D2 kl = true) ∧ Below w7.heap.size w7 wr) (fun _ wr => wr.rangeLeft (w3.heap.size + 1) w7.heap.size)
      case atStart => exact ⟨_, _, hrg0, fun kl h => h, d8⟩
      case round =>
        obtain ⟨wp, rfl⟩ : ∃ x, x = wr := ⟨wr, rfl⟩
        obtain ⟨left, cnt, hrg, HLf, hbp⟩ := hrel
        clear hrg0 hg0 hs0 d8
        have hsp := hbp.size
        go_wp2_with (at_next; refine wpList_next_ranges _ rfl _ rfl 64 Tryz.key2 (plainElem (H := Unit) Tryz.prog 9) (fun x : Int × Int => Value.agg #[.int .i64 x.1, .int .i64 x.2]) Value.string (fun key kl hk => by obtain ⟨x, hx, _⟩ := key2_inv hk; exact ⟨x, hx⟩) (fun v y hv => by obtain ⟨c, rfl, _⟩ := plainElem_string_inv Tryz.underlying9 hv; exact ⟨c, rfl⟩) (w3.heap.size + 1) w7.heap.size i D2 left cnt rfl hrg ?_ ?_)
        · intro hc0 hl0
          have hO2p := hrg.owns
          have hO1p := hO17.kept (row := none) ⟨hbp.os, hbp.tape, hbp.output, hbp.size, fun k hk _ => hbp.block k hk⟩ (by simp)
          have bp := b7.trans (hbp.mono b7.size)
          clear hl0 HLf HCL hrg
          obtain ⟨q0, q1, -, -⟩ := box_two (box_kept z7 hbp)
          obtain ⟨t0, t1, t2, t3, t4, t5, t6⟩ := box_7 (box_kept z47 hbp)
          have hcv := (hent7.below hbp).at'.conv
          obtain ⟨wq, hst2, hO2q, ht2⟩ := hO2p.store Tryz.key2 Tryz.underlying63 (by unfold maxLen; omega) (key2_mk ik ip) (plainElem_string Tryz.underlying9 (s := strOfNums X.entry) (by rw [strOfNums_size]; exact hent7.short))
          have hO1q := hO1p.kept ht2.grown (by simp)
          have bq := turned_belowO bp ht2 (by omega) bp.size
          have y1q := (World.cell?_of_block (a := ⟨p2, o2 + i * 5 + 1, none⟩) (ht2.grown.block p2 (Nat.lt_of_lt_of_le hp27 hbp.size) (fun e => by cases e; exact hp2ne rfl))).trans ((hbp.cell (p := ⟨p2, o2 + i * 5 + 1, none⟩) hp27).trans y17)
          have hlk1 : (Instr.lookup 62 (.map (some w3.heap.size)) (.int .i64 (k : Int)) false).run Tryz.prog wq = .ok (.int .i64 (lenAt Hs (k : Int))) wq := by
            obtain ⟨c, hr, hc, -⟩ := hO1q.lookup_int Tryz.keyIntO Tryz.underlying62 Tryz.underlying3 (hzi _) (keyOf_int_mk Tryz.underlying3 (a := (k : Int)) (WalkArith.wf_i64 ik))
            rw [hr]
            rw [HN.out.had] at hc
            simp only [DataW.lit.injEq, Lit.int.injEq, true_and] at hc
            rw [hc]
          have hlenk := lenAt_nat Hs k
          have hl100 : (Hs k).length ≤ 100 := by rw [← HPL.out]; exact hp100
          obtain ⟨wr', hst1, hO1r, ht1⟩ := hO1q.store Tryz.keyIntO Tryz.underlying62 (by unfold maxLen; omega) (keyOf_int_mk Tryz.underlying3 (a := (k : Int)) (WalkArith.wf_i64 ik)) (plainElem_int Tryz.underlying3 (a := lenAt Hs (k : Int) + 1) (WalkArith.wf_i64 (by rw [hlenk]; omega)))
          have hO2r := hO2q.kept ht1.grown (by simp)
          have br := turned_belowO bq ht1 (Nat.le_refl _) bq.size
          have HN2 : Hid _ := HN.out.more k X.entry
          have HH2 : Hid _ := HH.out.more (k := k) (e := X.entry) ik (by rw [← HPL.out]; exact ip)
          rw [← HPL.out] at HH2
          have hwr : IntKind.i64.wrap (lenAt Hs (k : Int) + 1) = lenAt Hs (k : Int) + 1 := by rw [IntKind.wrap_i64]; rw [hlenk]; have := HPL.out; omega
          have hwr2 : wrap64 (lenAt Hs (k : Int) + 1) = lenAt Hs (k : Int) + 1 := by unfold wrap64; rw [hlenk]; have := HPL.out; omega
          clear ht1 ht2 hO1q hO2q hO1p hO2p hlenk
          generalize lenAt Hs (k : Int) = LN at *
          go_wp2_with fail
          go_roundw
          case rel => exact ⟨i + 1, _, _, by omega, by go_num, hO1r, hO2r, by rw [HE'.out, HHs.out]; exact HN2, by rw [HE'.out, HHs.out]; exact HH2, br⟩
          case measure => simp [intOf]; omega
        · intro xa xb c kl y1 y2 w9 cnt' hkey hlk hv hat hrg9 hltc hg9 hs9 hen
          obtain ⟨x', ex, ia, ib, rfl⟩ := key2_inv hkey
          simp only [Value.agg.injEq, Array.mk.injEq, List.cons.injEq, Value.int.injEq, true_and, and_true] at ex
          obtain ⟨e1, e2⟩ := ex
          rw [← e1, ← e2] at hat hlk hrg9
          rw [← e1] at ia
          rw [← e2] at ib
          obtain ⟨c', ec, ey, -⟩ := plainElem_string_inv Tryz.underlying9 hv
          simp only [Prod.mk.injEq] at ey
          obtain ⟨rfl, rfl⟩ := ey
          obtain rfl : c = c' := by simpa using ec
          try dsimp only at hen hat
          have hcl := HCL.out xa xb c ia ib (HLf.out _ hlk) hat
          have HLf9 : Hid (∀ kl, (left kl && !kl.sameKey (K2 xa xb)) = true → Maps.has D2 kl = true) := fun kl h => HLf.out kl (by simp at h; exact h.1)
          have c9 : Below w7.heap.size w7 w9 := hbp.grown hg9 hsp (fun q hq => by cases hq; exact Nat.le_refl _)
          have dA : Below w9.heap.size w9 (w9.alloc (.cells #[.int .i64 xa, .int .i64 xb] 64)) := (Below.refl _ _).alloc (Nat.le_refl _) _
          have cA := c9.trans (dA.mono c9.size)
          obtain ⟨g0, g1, -, -⟩ := box_two (box_new w9 #[.int .i64 xa, .int .i64 xb] 64)
          obtain ⟨q0, q1, -, -⟩ := box_two (box_kept z7 cA)
          obtain ⟨t0, t1, t2, t3, t4, t5, t6⟩ := box_7 (box_kept z47 cA)
          have hcv := (hent7.below cA).at'.conv
          have hrgA := hrg9.alloc (.cells #[.int .i64 xa, .int .i64 xb] 64)
          have HME : Hid ((w9.alloc (.cells #[.int .i64 xa, .int .i64 xb] 64)).rangeLeft (w3.heap.size + 1) w7.heap.size < wp.rangeLeft (w3.heap.size + 1) w7.heap.size) := by show _ < _; rw [hrgA.left_eq, hrg.left_eq]; exact hltc
          clear hkey hlk hv hat hrg9 hltc hg9 HLf HCL e1 e2 hrg ec hs9
          by_cases h1 : xa = (k : Int)
          · by_cases h2 : c.toList = (strOfNums X.entry).toList
            · obtain rfl := hcl h1 h2
              subst h1
              clear hcl
              go_wp2_with fail
              go_roundw
              case rel => exact ⟨_, _, hrgA, HLf9, cA⟩
              case measure => exact HME.out
            · subst h1
              clear hcl
              go_wp2_with fail
              go_roundw
              case rel => exact ⟨_, _, hrgA, HLf9, cA⟩
              case measure => exact HME.out
          · have h1' : (xa == (k : Int)) = false := by simpa using h1
            clear hcl
            go_wp2_with fail
            go_roundw
            case rel => exact ⟨_, _, hrgA, HLf9, cA⟩
            case measure => exact HME.out

end Go.Proofs.YtkjlchfmplcobafGreatDoor
