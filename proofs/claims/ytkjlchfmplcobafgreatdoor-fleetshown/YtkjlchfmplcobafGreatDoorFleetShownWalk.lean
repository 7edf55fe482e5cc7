/- The walk of the law FleetShown, over the faces of package fleet. -/
import Derived.Test.YtkjlchfmplcobafGreatDoorProg
import Derived.Test.YtkjlchfmplcobafGreatDoorRunAA
import Derived.WalkKit
import Derived.WalkSpells
import Derived.WalkLawsBesides
import Derived.Deep.QuietTactic
import Derived.BigQuiet
import Derived.Deep.RegionHeld3
import Derived.BigRegion
namespace Go.Proofs.YtkjlchfmplcobafGreatDoor
open Go.RowKit

theorem AnssAt.get {w : World} {a : Option Addr} {n c : Nat} {l : List Ans} (h : AnssAt w (.slice a n c) l) (hn : l.length = n) {j : Nat} (hj : j < n) : ∃ b o, a = some ⟨b, o, none⟩ ∧ b < w.heap.size ∧ AnsCells w b (o + j * 5) (l.getD j ans0) := by
  obtain ⟨a', c', e, -, -, -, h5⟩ := h
  rw [hn] at e h5
  cases e
  obtain ⟨b, off, h6, h7, h8⟩ := h5.resolve_left (by omega)
  exact ⟨b, off, h6, h7, h8 j hj⟩
theorem DosAt.get {w : World} {a : Option Addr} {n c : Nat} {l : List Dd} (h : DosAt w (.slice a n c) l) (hn : l.length = n) {j : Nat} (hj : j < n) : ∃ b o, a = some ⟨b, o, none⟩ ∧ b < w.heap.size ∧ DdCells w b (o + j * 7) (l.getD j dd0) := by
  obtain ⟨a', c', e, -, -, -, h5⟩ := h
  rw [hn] at e h5
  cases e
  obtain ⟨b, off, h6, h7, h8⟩ := h5.resolve_left (by omega)
  exact ⟨b, off, h6, h7, h8 j hj⟩
set_option maxRecDepth 100000 in
set_option maxHeartbeats 8000000 in
theorem fleetShown_any (hPl : PlayC) (hSh : ShowC) (hCh : CheckC) (hHe : BookHeadC) (ws : List Win) (l : List Dd) (wa da : Option Addr) (wn wc dn dc : Nat) (w : World) (hR : Ready w) (hW : WinsAt w (.slice wa wn wc) ws) (hD : DosAt w (.slice da dn dc) l) (hn : l.length = dn) :
    Calls Tryz.prog 3 #[.slice wa wn wc, .slice da dn dc] w fun e w' => e = .returned (.bool true) ∧ Below w.heap.size w w' := by
  have cA := alive7_any hPl hSh hCh hHe w hR
  have cP := fun w' (h : Below w.heap.size w w') => hPl ws l _ _ w' (hR.below h) (hW.below h) (hD.below h)
  have HP : Hid ((playF ws l).1 = 0 → dn ≤ 120 ∧ (playL ws l).2.length = dn ∧ (wrongWins ws).1 = 0 ∧ FltOk ws (playL ws l).1 ∧ ((∀ d ∈ l, d.kind ≠ 5) → ∀ i, i < dn → (l.getD i dd0).kind = 1 → ((playL ws l).2.getD i ans0).err = 0 → ∃ k p : Nat, ((playL ws l).2.getD i ans0).shard = (k : Int) ∧ ((playL ws l).2.getD i ans0).place = (p : Int) ∧ k < (playL ws l).1.shards.length ∧ (((playL ws l).1.shards.getD k shd0).state ≠ 1 →
      (showL (playL ws l).1 k p).2 = 0 ∧ (showL (playL ws l).1 k p).1.entry = (l.getD i dd0).entry ∧ checkL (showL (playL ws l).1 k p).1 ((playL ws l).1.book.length : Int) (mth (rowsOf (playL ws l).1.book)) = true))) := fun h => by
    obtain ⟨e, hw, hl⟩ := play_ok h
    rw [e]
    have hok := run_ok (start_ok ws) l
    refine ⟨by omega, by rw [runL_length, hn], hw, hok, fun h5 i hi hk he => ?_⟩
    obtain ⟨k, p, e1, e2, e3⟩ := shown hw l h5 (by omega) hk he
    exact ⟨k, p, by rw [e1], by rw [e1], by rw [hok.len]; exact e2, e3⟩
  have HE0 : Hid ((playF ws l).1 ≠ 0 → (playL ws l).2 = []) := fun h => by rw [play_err h]
  have hDm : dn ≤ maxLen := by obtain ⟨_, _, e, g2, g3, -⟩ := hD; cases e; omega
  unfold maxLen at hDm
  clear hW
  generalize playF ws l = F at *
  generalize playL ws l = P at *
  obtain ⟨F1, F2⟩ := F
  obtain ⟨P, A⟩ := P
  dsimp only [faultV] at cP HP HE0
  go_enter Tryz.func3, Tryz.ntmps3
  go_wp2_with fail
  refine cA.mono ?_
  rintro e w1 ⟨rfl, b1⟩
  clear cA
  go_wp2_with fail
  refine (cP _ b1).mono ?_
  rintro e w2 ⟨fv, av, rfl, ⟨sa, sc, ka, kc, rfl, hS, hB⟩, hA, hb2⟩
  have b2 := b1.trans (hb2.mono b1.size)
  obtain ⟨aa, ac, rfl⟩ := hA.form
  have d3 : Below w2.heap.size w2 ((w2.alloc (.cells #[.slice sa P.shards.length sc, .slice ka P.book.length kc] 28)).alloc (.cells #[.int .i64 F1, .int .i64 F2] 32)) := ((Below.refl _ _).alloc (Nat.le_refl _) _).alloc (by simp) _
  have b3 := b2.trans (d3.mono b2.size)
  have x3 := box_one w2 #[.slice sa P.shards.length sc, .slice ka P.book.length kc] 28 (.cells #[.int .i64 F1, .int .i64 F2] 32)
  obtain ⟨f0, f1, -, -⟩ := box_two (box_last w2 (.cells #[.slice sa P.shards.length sc, .slice ka P.book.length kc] 28) #[.int .i64 F1, .int .i64 F2] 32)
  have hA3 := hA.below d3
  have hS3 := hS.below d3
  have hB3 := hB.below d3
  have hF3 := FltV.below (w := w2) (f := P) ⟨sa, sc, ka, kc, rfl, hS, hB⟩ d3
  have hD3 := hD.below b3
  clear cP hA hb2 b1 b2 d3 hS hB hD hPl
  by_cases hF : F1 ≠ 0
  · have hF' : (F1 != 0) = true := by simpa using hF
    obtain rfl := HE0.out hF
    clear HP HE0 hF hF3 hA3 hS3 hB3 hD3
    go_wp2_with fail
    go_ret
    exact ⟨rfl, b3⟩
  obtain rfl : F1 = 0 := by simpa using hF
  obtain ⟨h120, hAl, hw, hok, hshown⟩ := HP.out rfl
  rw [hAl] at hA3 ⊢
  clear HP HE0 hF
  go_wp2_with fail
  generalize (w2.alloc (.cells #[.slice sa P.shards.length sc, .slice ka P.book.length kc] 28)).alloc (.cells #[.int .i64 0, .int .i64 F2] 32) = w3 at *
  clear f0 f1
  have hs3 := b3.size
  have HS : Hid ((∀ d ∈ l, d.kind ≠ 5) → ∀ i, i < dn → (l.getD i dd0).kind = 1 → (A.getD i ans0).err = 0 → ∃ k p : Nat, (A.getD i ans0).shard = (k : Int) ∧ (A.getD i ans0).place = (p : Int) ∧ k < P.shards.length ∧ ((P.shards.getD k shd0).state ≠ 1 →
      (showL P k p).2 = 0 ∧ (showL P k p).1.entry = (l.getD i dd0).entry ∧ checkL (showL P k p).1 (P.book.length : Int) (mth (rowsOf P.book)) = true)) := hshown
  clear hshown
  go_loopw [33] (fun kv wr => ∃ j : Nat, j ≤ dn ∧ kv = .int .i64 j ∧ Hid (∀ i, i < j → (l.getD i dd0).kind ≠ 5) ∧ Below w3.heap.size w3 wr) (fun kv _ => dn - (intOf kv).toNat)
  case atStart => exact ⟨0, Nat.zero_le _, rfl, fun i hi => absurd hi (Nat.not_lt_zero _), Below.refl _ _⟩
  case round =>
    obtain ⟨wo, rfl⟩ : ∃ x, x = wr := ⟨wr, rfl⟩
    obtain ⟨j, hj, rfl, H5, hbr⟩ := hrel
    have hsr := hbr.size
    have hbw := b3.trans (hbr.mono b3.size)
    by_cases hlt : j < dn
    · have hlt' : (j : Int) < dn := by omega
      obtain ⟨p1, o1, rfl, hp1, hX⟩ := (hD3.below hbr).get hn hlt
      obtain ⟨e0, e1, e2, ⟨qa, qc, e3, -⟩, e4, e5, e6, -⟩ := hX
      have H6 : Hid ((l.getD j dd0).kind ≠ 5 → ∀ i, i < j + 1 → (l.getD i dd0).kind ≠ 5) := fun h i hi => by
        by_cases e : i = j
        · rw [e]; exact h
        · exact H5.out i (by omega)
      clear hA3 hS3 hB3 hF3 hD3 HS
      generalize l.getD j dd0 = X at *
      have b4 : Below w3.heap.size w3 (wo.alloc (.cells #[.int .i64 X.kind, .int .i64 X.n, .int .i64 X.time, .slice qa X.entry.length qc, .int .i64 X.segment, .int .i64 X.at', .int .u8 X.by'] 37)) := hbr.alloc hsr _
      obtain ⟨t0, t1, t2, t3, t4, t5, t6⟩ := box_7 (box_new wo #[.int .i64 X.kind, .int .i64 X.n, .int .i64 X.time, .slice qa X.entry.length qc, .int .i64 X.segment, .int .i64 X.at', .int .u8 X.by'] 37)
      by_cases he : X.kind = 5
      · rw [he] at e0 t0 t1 t2 t3 t4 t5 t6 b4
        clear H6
        go_wp2_with fail
        go_ret
        exact ⟨rfl, b3.trans (b4.mono hs3)⟩
      · have he' : (X.kind == 5) = false := by simpa using he
        have H7 := H6.out he
        have H7h : Hid (∀ i, i < j + 1 → (l.getD i dd0).kind ≠ 5) := H7
        clear H6 H7 he
        go_wp2_with fail
        go_roundw
        case rel => exact ⟨j + 1, by omega, by go_num, H7h, b4⟩
        case measure => simp [intOf]; omega
    · obtain rfl : j = dn := by omega
      have hnl : ¬ (j : Int) < j := by omega
      have h5 : ∀ d ∈ l, d.kind ≠ 5 := fun d hd => by
        obtain ⟨i, hi, rfl⟩ := List.mem_iff_getElem.1 hd
        have := H5.out i (by omega)
        rwa [List.getD_eq_getElem?_getD, List.getElem?_eq_getElem hi] at this
      have HS2 : Hid (∀ i, i < j → (l.getD i dd0).kind = 1 → (A.getD i ans0).err = 0 → ∃ k p : Nat, (A.getD i ans0).shard = (k : Int) ∧ (A.getD i ans0).place = (p : Int) ∧ k < P.shards.length ∧ ((P.shards.getD k shd0).state ≠ 1 →
        (showL P k p).2 = 0 ∧ (showL P k p).1.entry = (l.getD i dd0).entry ∧ checkL (showL P k p).1 (P.book.length : Int) (mth (rowsOf P.book)) = true)) := HS.out h5
      have cH := hHe P.book _ wo (hR.below hbw) (hB3.below hbr)
      have hbk : wrongRecs P.book = (0, 0) := book_right hw hok
      have hbs : bookSize P.book = (P.book.length : Int) := by unfold bookSize; rw [hbk, if_neg (fun h => h rfl)]
      have hbrr : bookRoot P.book = mth (rowsOf P.book) := by unfold bookRoot; rw [hbk, if_neg (fun h => h rfl)]
      have hml := mth_length (rowsOf P.book)
      rw [hbk, hbs, hbrr, hml] at cH
      dsimp only [faultV] at cH
      have xo := box_kept x3 hbr
      have hAo := hA3.below hbr
      have hSo := hS3.below hbr
      have hFo := hF3.below hbr
      have hDo := hD3.below hbr
      obtain ⟨g0, g1, -, -⟩ := box_two xo
      clear HS H5 h5 hA3 hS3 hB3 hF3 hD3 hbk hbs hbrr x3 hHe
      go_wp2_with fail
      refine cH.mono ?_
      rintro e w4 ⟨ta, tc, rfl, ht, hb4⟩
      have d5 : Below w4.heap.size w4 ((w4.alloc (.cells #[.int .i64 (P.book.length : Int), .slice ta 32 tc] 39)).alloc (.cells #[.int .i64 0, .int .i64 0] 32)) := ((Below.refl _ _).alloc (Nat.le_refl _) _).alloc (by simp) _
      have c5 := hb4.trans (d5.mono hb4.size)
      have b5 := hbw.trans (c5.mono hbw.size)
      have x5 := box_kept xo c5
      have y5 := box_one w4 #[.int .i64 (P.book.length : Int), .slice ta 32 tc] 39 (.cells #[.int .i64 0, .int .i64 0] 32)
      obtain ⟨f0, f1, -, -⟩ := box_two (box_last w4 (.cells #[.int .i64 (P.book.length : Int), .slice ta 32 tc] 39) #[.int .i64 0, .int .i64 0] 32)
      have hA5 := hAo.below c5
      have hS5 := hSo.below c5
      have hF5 := hFo.below c5
      have hD5 := hDo.below c5
      have ht5 := ht.below d5
      clear cH g0 g1 hAo hSo hFo hDo xo ht hb4 d5 c5 hbw
      go_wp2_with fail
      generalize (w4.alloc (.cells #[.int .i64 (P.book.length : Int), .slice ta 32 tc] 39)).alloc (.cells #[.int .i64 0, .int .i64 0] 32) = w5 at *
      clear f0 f1
      have hs5 := b5.size
      go_loopw [52] (fun kv wr => ∃ q : Nat, q ≤ j ∧ kv = .int .i64 q ∧ Below w5.heap.size w5 wr) (fun kv _ => j - (intOf kv).toNat)
      case atStart => exact ⟨0, Nat.zero_le _, rfl, Below.refl _ _⟩
      case round =>
        obtain ⟨wp, rfl⟩ : ∃ x, x = wr := ⟨wr, rfl⟩
        obtain ⟨q, hq, rfl, hbp⟩ := hrel
        have hsp := hbp.size
        have hbw2 := b5.trans (hbp.mono b5.size)
        by_cases hlt2 : q < j
        · have hlt2' : (q : Int) < j := by omega
          obtain ⟨p1, o1, rfl, hp1, hX⟩ := (hD5.below hbp).get hn hlt2
          obtain ⟨e0, e1, e2, ⟨qa, qc, e3, hq3⟩, e4, e5, e6, -⟩ := hX
          obtain ⟨p2, o2, rfl, hp2, hY⟩ := (hA5.below hbp).get hAl hlt2
          obtain ⟨y0, y1, y2, -, -⟩ := hY
          have HQ := HS2.out q hlt2
          have HQh : Hid ((l.getD q dd0).kind = 1 → (A.getD q ans0).err = 0 → ∃ k p : Nat, (A.getD q ans0).shard = (k : Int) ∧ (A.getD q ans0).place = (p : Int) ∧ k < P.shards.length ∧ ((P.shards.getD k shd0).state ≠ 1 →
            (showL P k p).2 = 0 ∧ (showL P k p).1.entry = (l.getD q dd0).entry ∧ checkL (showL P k p).1 (P.book.length : Int) (mth (rowsOf P.book)) = true)) := HQ
          clear HQ HS2 hD5 hA5
          generalize l.getD q dd0 = X at *
          generalize A.getD q ans0 = Z at *
          have hd6 : Below wp.heap.size wp (wp.alloc (.cells #[.int .i64 X.kind, .int .i64 X.n, .int .i64 X.time, .slice qa X.entry.length qc, .int .i64 X.segment, .int .i64 X.at', .int .u8 X.by'] 37)) := (Below.refl _ _).alloc (Nat.le_refl _) _
          have b6 : Below w5.heap.size w5 (wp.alloc (.cells #[.int .i64 X.kind, .int .i64 X.n, .int .i64 X.time, .slice qa X.entry.length qc, .int .i64 X.segment, .int .i64 X.at', .int .u8 X.by'] 37)) := hbp.alloc hsp _
          have z6 := box_new wp #[.int .i64 X.kind, .int .i64 X.n, .int .i64 X.time, .slice qa X.entry.length qc, .int .i64 X.segment, .int .i64 X.at', .int .u8 X.by'] 37
          have xp := box_old _ (.cells #[.int .i64 X.kind, .int .i64 X.n, .int .i64 X.time, .slice qa X.entry.length qc, .int .i64 X.segment, .int .i64 X.at', .int .u8 X.by'] 37) (box_kept x5 hbp)
          have yp := box_old _ (.cells #[.int .i64 X.kind, .int .i64 X.n, .int .i64 X.time, .slice qa X.entry.length qc, .int .i64 X.segment, .int .i64 X.at', .int .u8 X.by'] 37) (box_kept y5 hbp)
          obtain ⟨t0, t1, t2, t3, t4, t5, t6⟩ := box_7 z6
          obtain ⟨g0, g1, -, -⟩ := box_two xp
          replace y0 := (hd6.cell (p := ⟨p2, o2 + q * 5, none⟩) hp2).trans y0
          replace y1 := (hd6.cell (p := ⟨p2, o2 + q * 5 + 1, none⟩) hp2).trans y1
          replace y2 := (hd6.cell (p := ⟨p2, o2 + q * 5 + 2, none⟩) hp2).trans y2
          by_cases hk1 : X.kind = 1
          · by_cases hz0 : Z.err = 0
            · obtain ⟨k, p, ek, ep, hkl, hshw⟩ := HQh.out hk1 hz0
              rw [ek] at y1
              rw [ep] at y2
              rw [hz0] at y0
              obtain ⟨p3, o3, rfl, hp3, hV⟩ := ((hS5.below hbp).below hd6).get rfl hkl
              have hst := hV.state
              have hpm : P.shards.length ≤ maxLen := by obtain ⟨_, _, e, g2, g3, -⟩ := hS5; cases e; omega
              unfold maxLen at hpm
              have hkl' : (k : Int) < P.shards.length := by omega
              rw [hk1] at e0 t0 t1 t2 t3 t4 t5 t6 b6 z6 xp yp g0 g1 y0 y1 y2 hst hd6
              have HSHW : Hid ((P.shards.getD k shd0).state ≠ 1 → (showL P k p).2 = 0 ∧ (showL P k p).1.entry = X.entry ∧ checkL (showL P k p).1 (P.book.length : Int) (mth (rowsOf P.book)) = true) := hshw
              clear hshw HQh hV
              by_cases hs1 : (P.shards.getD k shd0).state = 1
              · rw [hs1] at hst
                clear HSHW
                go_wp2_with fail
                go_quiet (fail)
                go_wp2_with fail
                go_roundw
                case rel => exact ⟨q + 1, by omega, by go_num, below_drewN' b6 _⟩
                case measure => simp [intOf]; omega
              · have hs1' : ((P.shards.getD k shd0).state == 1) = false := by simpa using hs1
                obtain ⟨r1, r2, r3⟩ := HSHW.out hs1
                have cSh := fun w' (h : Below w5.heap.size w5 w') => hSh ws P k p (.agg #[.slice (some ⟨p3, o3, none⟩) P.shards.length sc, .slice ka P.book.length kc]) w' hw hok (hR.below (b5.trans (h.mono hs5))) (hF5.below h)
                clear HSHW hs1
                generalize (P.shards.getD k shd0).state = sst at *
                go_wp2_with fail
                go_quiet (fail)
                go_wp2_with fail
                obtain ⟨w6, hw6⟩ : ∃ x, x = (wp.alloc (.cells #[.int .i64 1, .int .i64 X.n, .int .i64 X.time, .slice qa X.entry.length qc, .int .i64 X.segment, .int .i64 X.at', .int .u8 X.by'] 37)).drewN nq := ⟨_, rfl⟩
                have d66 : Below (wp.alloc (.cells #[.int .i64 1, .int .i64 X.n, .int .i64 X.time, .slice qa X.entry.length qc, .int .i64 X.segment, .int .i64 X.at', .int .u8 X.by'] 37)).heap.size (wp.alloc (.cells #[.int .i64 1, .int .i64 X.n, .int .i64 X.time, .slice qa X.entry.length qc, .int .i64 X.segment, .int .i64 X.at', .int .u8 X.by'] 37)) w6 := by rw [hw6]; exact below_drewN' (Below.refl _ _) nq
                rw [← hw6]
                have m6 := b6.trans (d66.mono b6.size)
                have x6 := box_kept xp d66
                have hy6 := box_kept yp d66
                have z66 := box_kept z6 d66
                have hp2' : p2 < (wp.alloc (.cells #[.int .i64 1, .int .i64 X.n, .int .i64 X.time, .slice qa X.entry.length qc, .int .i64 X.segment, .int .i64 X.at', .int .u8 X.by'] 37)).heap.size := by simp; omega
                replace y1 := (d66.cell (p := ⟨p2, o2 + q * 5 + 1, none⟩) hp2').trans y1
                replace y2 := (d66.cell (p := ⟨p2, o2 + q * 5 + 2, none⟩) hp2').trans y2
                have hent := ((hq3.below hd6).below d66)
                have k2 : p2 < w6.heap.size := Nat.lt_of_lt_of_le hp2' d66.size
                clear t0 t1 t2 t3 t4 t5 t6 g0 g1 e0 e1 e2 e3 e4 e5 e6 y0 hst hd6 b6 z6 xp yp hq3 d66 hp2' hw6 hF5 hS5
                obtain ⟨g0, g1, -, -⟩ := box_two x6
                have k1 : w2.heap.size < w6.heap.size := lt_heap x6
                have hSw : ∀ w', (Below w6.heap.size w6 w' ∧ ∀ b o, b < w6.heap.size → w'.cell? ⟨b, o, none⟩ = w6.cell? ⟨b, o, none⟩) → _ := fun w' h => cSh w' (m6.trans (h.1.mono m6.size))
                have hnewS : (w6.alloc (.cells #[.slice none 0 0, .int .i64 0, .int .i64 0, .slice none 0 0, .int .i64 0, .int .i64 0, .int .i64 0, .int .i64 0, .slice none 0 0, .int .i64 0, .slice none 0 0, .int .i64 0, .slice none 0 0] 53)).drew.heap[w6.heap.size]? = some (.cells #[.slice none 0 0, .int .i64 0, .int .i64 0, .slice none 0 0, .int .i64 0, .int .i64 0, .int .i64 0, .int .i64 0, .slice none 0 0, .int .i64 0, .slice none 0 0, .int .i64 0, .slice none 0 0] 53 (0, 0)) := box_new w6 #[.slice none 0 0, .int .i64 0, .int .i64 0, .slice none 0 0, .int .i64 0, .int .i64 0, .int .i64 0, .int .i64 0, .slice none 0 0, .int .i64 0, .slice none 0 0, .int .i64 0, .slice none 0 0] 53
                have hdg := show_digs P k p
                clear cSh
                generalize showL P k p = YY at *
                obtain ⟨S, ze⟩ := YY
                dsimp only at hSw r1 r2 r3 hdg
                subst r1
                have HR2 : Hid (S.entry = X.entry) := r2
                have HR3 : Hid (checkL S (P.book.length : Int) (mth (rowsOf P.book)) = true) := r3
                clear r2 r3
                have hSf : ∀ w', (Below w6.heap.size w6 w' ∧ ∀ b o, b < w6.heap.size → w'.cell? ⟨b, o, none⟩ = w6.cell? ⟨b, o, none⟩) → Calls Tryz.prog 12 #[.agg #[.slice (some ⟨p3, o3, none⟩) P.shards.length sc, .slice ka P.book.length kc], .int .i64 (k : Int), .int .i64 (p : Int)] w' fun e w'' => ∃ ea ec pa pc ra rc ba bc ha hc, e = .returned (.tuple #[.agg #[.slice ea S.entry.length ec, .int .i64 S.place, .int .i64 S.shard, .slice pa S.path.length pc, .int .i64 S.rcd.shard, .int .i64 S.rcd.from', .int .i64 S.rcd.to', .int .i64 S.rcd.size, .slice ra S.rcd.root.length rc, .int .i64 S.row, .slice ba S.bookPath.length bc, .int .i64 S.hsize, .slice ha S.hroot.length hc], .int .i64 0]) ∧ ShwV w'' (.agg #[.slice ea S.entry.length ec, .int .i64 S.place, .int .i64 S.shard, .slice pa S.path.length pc, .int .i64 S.rcd.shard, .int .i64 S.rcd.from', .int .i64 S.rcd.to', .int .i64 S.rcd.size, .slice ra S.rcd.root.length rc, .int .i64 S.row, .slice ba S.bookPath.length bc, .int .i64 S.hsize, .slice ha S.hroot.length hc]) S ∧ Below w'.heap.size w' w'' := fun w' h => (hSw w' h).mono (by
                  rintro e w'' ⟨sv, rfl, hV, hb⟩
                  obtain ⟨ea, ec, pa, pc, ra, rc, ba, bc, ha, hc, rfl, -⟩ := hV.form
                  exact ⟨ea, ec, pa, pc, ra, rc, ba, bc, ha, hc, rfl, hV, hb⟩)
                clear hSw
                go_region_held3 (fun w' => Below w6.heap.size w6 w' ∧ ∀ b o, b < w6.heap.size → w'.cell? ⟨b, o, none⟩ = w6.cell? ⟨b, o, none⟩) (first | (with_reducible assumption) | (with_reducible exact hK) | (with_reducible exact keptB_drew w6) | (with_reducible exact keptB_new w6 _) | (with_reducible exact keptB_alloc hK _) | (with_reducible exact keptB_13 hK (Nat.le_refl _) _ _ _ _ _ _ _ _ _ _ _ _ _)) (first | (go_at_call 12; refine (hSf _ (by assumption)).mono ?_; rintro e w7 ⟨ea, ec, pa, pc, ra, rc, ba, bc, ha, hc, rfl, hV, hb7⟩; have hK := keptB_below (w0 := w6) (by assumption) hb7; first | (have xB : w7.heap[w6.heap.size]? = some (.cells #[.slice none 0 0, .int .i64 0, .int .i64 0, .slice none 0 0, .int .i64 0, .int .i64 0, .int .i64 0, .int .i64 0, .slice none 0 0, .int .i64 0, .slice none 0 0, .int .i64 0, .slice none 0 0] 53 (0, 0)) := (by with_reducible exact box_kept (w := (w6.alloc (.cells #[.slice none 0 0, .int .i64 0, .int .i64 0, .slice none 0 0, .int .i64 0, .int .i64 0, .int .i64 0, .int .i64 0, .slice none 0 0, .int .i64 0, .slice none 0 0, .int .i64 0, .slice none 0 0] 53)).drew) hnewS hb7); obtain ⟨cc0, cc1, cc2, cc3, cc4, cc5, cc6, cc7, cc8, cc9, cc10, cc11, cc12⟩ := box_13 xB; obtain ⟨z0, z1, z2, z3, z4, z5, z6, z7, z8, z9, z10, z11, z12⟩ := free_13 xB) | (have xB := box_new w7 #[.slice none 0 0, .int .i64 0, .int .i64 0, .slice none 0 0, .int .i64 0, .int .i64 0, .int .i64 0, .int .i64 0, .slice none 0 0, .int .i64 0, .slice none 0 0, .int .i64 0, .slice none 0 0] 53; obtain ⟨cc0, cc1, cc2, cc3, cc4, cc5, cc6, cc7, cc8, cc9, cc10, cc11, cc12⟩ := box_13 xB; obtain ⟨z0, z1, z2, z3, z4, z5, z6, z7, z8, z9, z10, z11, z12⟩ := free_13 xB)))
                · have xR := box_new w7 #[.slice ea S.entry.length ec, .int .i64 S.place, .int .i64 S.shard, .slice pa S.path.length pc, .int .i64 S.rcd.shard, .int .i64 S.rcd.from', .int .i64 S.rcd.to', .int .i64 S.rcd.size, .slice ra S.rcd.root.length rc, .int .i64 S.row, .slice ba S.bookPath.length bc, .int .i64 S.hsize, .slice ha S.hroot.length hc] 53
                  have dW : Below w6.heap.size w6 (w7.alloc (.cells #[.slice ea S.entry.length ec, .int .i64 S.place, .int .i64 S.shard, .slice pa S.path.length pc, .int .i64 S.rcd.shard, .int .i64 S.rcd.from', .int .i64 S.rcd.to', .int .i64 S.rcd.size, .slice ra S.rcd.root.length rc, .int .i64 S.row, .slice ba S.bookPath.length bc, .int .i64 S.hsize, .slice ha S.hroot.length hc] 53)) := hK.1.alloc hK.1.size _
                  have hVW := hV.below (show Below w7.heap.size w7 (w7.alloc (.cells #[.slice ea S.entry.length ec, .int .i64 S.place, .int .i64 S.shard, .slice pa S.path.length pc, .int .i64 S.rcd.shard, .int .i64 S.rcd.from', .int .i64 S.rcd.to', .int .i64 S.rcd.size, .slice ra S.rcd.root.length rc, .int .i64 S.row, .slice ba S.bookPath.length bc, .int .i64 S.hsize, .slice ha S.hroot.length hc] 53)) from (Below.refl _ _).alloc (Nat.le_refl _) _)
                  generalize w7.alloc (.cells #[.slice ea S.entry.length ec, .int .i64 S.place, .int .i64 S.shard, .slice pa S.path.length pc, .int .i64 S.rcd.shard, .int .i64 S.rcd.from', .int .i64 S.rcd.to', .int .i64 S.rcd.size, .slice ra S.rcd.root.length rc, .int .i64 S.row, .slice ba S.bookPath.length bc, .int .i64 S.hsize, .slice ha S.hroot.length hc] 53) = W at *
                  have xW := box_below x6 dW k1
                  have yW := box_below hy6 dW (lt_heap hy6)
                  have zW := box_below z66 dW (lt_heap z66)
                  have cW := m6.trans (dW.mono m6.size)
                  have bW := b5.trans (cW.mono hs5)
                  have hentW := hent.below dW
                  have htW := ht5.below cW
                  obtain ⟨v1, v2, v3, v4, v5, v6, v7, v8, v9, v10, v11, v12, v13⟩ := box_13 xR
                  obtain ⟨t0, t1, t2, t3, t4, t5, t6⟩ := box_7 zW
                  obtain ⟨h0, h1, -, -⟩ := box_two yW
                  have sE : ∀ ea0 ec0, _ → _ := fun (ea0 : Option Addr) (ec0 : Nat) (h : BytesAt W (.slice ea0 S.entry.length ec0) S.entry) => same_any S.entry X.entry (.slice ea0 S.entry.length ec0) (.slice qa X.entry.length qc) W h hentW.at' (by rw [HR2.out]; exact hentW.short)
                  obtain ⟨ea', ec', pa', pc', ra', rc', ba', bc', ha', hc', eV, hve, -⟩ := hVW.form
                  cases eV
                  have sE1 := sE ea ec hve.at'
                  rw [decide_eq_true HR2.out] at sE1
                  have cC := fun w' (h : Below W.heap.size W w') => hCh S (P.book.length : Int) (mth (rowsOf P.book)) (.agg #[.slice ea S.entry.length ec, .int .i64 S.place, .int .i64 S.shard, .slice pa S.path.length pc, .int .i64 S.rcd.shard, .int .i64 S.rcd.from', .int .i64 S.rcd.to', .int .i64 S.rcd.size, .slice ra S.rcd.root.length rc, .int .i64 S.row, .slice ba S.bookPath.length bc, .int .i64 S.hsize, .slice ha S.hroot.length hc]) (.slice ta 32 tc) w' (hR.below (bW.trans (h.mono bW.size))) (hVW.below h) (htW.below h)
                  rw [HR3.out] at cC
                  clear sE xW zW hK hSf hnewS xB cc0 cc1 cc2 cc3 cc4 cc5 cc6 cc7 cc8 cc9 cc10 cc11 cc12 z0 z1 z2 z3 z4 z5 z6 z7 z8 z9 z10 z11 z12 hV hb7 hent x6 hy6 z66 g0 g1 y1 y2 hdg hve
                  go_wp2_with fail
                  refine sE1.mono ?_
                  rintro e w8 ⟨rfl, q8, rfl⟩
                  have d8 := below_drewN' (Below.refl W.heap.size W) q8
                  have c8 := cW.trans (d8.mono cW.size)
                  obtain ⟨v1', v2', v3', v4', v5', v6', v7', v8', v9', v10', v11', v12', v13'⟩ := box_13 (box_kept xR d8)
                  obtain ⟨h0', h1', -, -⟩ := box_two (box_kept yW d8)
                  have cC8 := cC _ d8
                  clear sE1 v1 v2 v3 v4 v5 v6 v7 v8 v9 v10 v11 v12 v13 h0 h1 t0 t1 t2 t3 t4 t5 t6 cC d8
                  generalize W.drewN q8 = w8 at *
                  go_wp2_with fail
                  refine cC8.mono ?_
                  rintro e w9 ⟨rfl, hb9⟩
                  have c9 := c8.trans (hb9.mono c8.size)
                  clear cC8 v1' v2' v3' v4' v5' v6' v7' v8' v9' v10' v11' v12' v13' h0' h1'
                  go_wp2_with fail
                  go_roundw
                  case rel => exact ⟨q + 1, by omega, by go_num, c9⟩
                  case measure => simp [intOf]; omega
                · have xR := thirteen_set xB (.slice ea S.entry.length ec) (.int .i64 S.place) (.int .i64 S.shard) (.slice pa S.path.length pc) (.int .i64 S.rcd.shard) (.int .i64 S.rcd.from') (.int .i64 S.rcd.to') (.int .i64 S.rcd.size) (.slice ra S.rcd.root.length rc) (.int .i64 S.row) (.slice ba S.bookPath.length bc) (.int .i64 S.hsize) (.slice ha S.hroot.length hc)
                  have dW := thirteen_below hK.1 (Nat.le_refl w6.heap.size) (.slice ea S.entry.length ec) (.int .i64 S.place) (.int .i64 S.shard) (.slice pa S.path.length pc) (.int .i64 S.rcd.shard) (.int .i64 S.rcd.from') (.int .i64 S.rcd.to') (.int .i64 S.rcd.size) (.slice ra S.rcd.root.length rc) (.int .i64 S.row) (.slice ba S.bookPath.length bc) (.int .i64 S.hsize) (.slice ha S.hroot.length hc)
                  have hVW := hV.offZ (offZ_13 xB (.slice ea S.entry.length ec) (.int .i64 S.place) (.int .i64 S.shard) (.slice pa S.path.length pc) (.int .i64 S.rcd.shard) (.int .i64 S.rcd.from') (.int .i64 S.rcd.to') (.int .i64 S.rcd.size) (.slice ra S.rcd.root.length rc) (.int .i64 S.row) (.slice ba S.bookPath.length bc) (.int .i64 S.hsize) (.slice ha S.hroot.length hc)) hdg.1 hdg.2
                  generalize (((((((((((((w7.setCell ⟨w6.heap.size, 0, none⟩ (.slice ea S.entry.length ec)).setCell ⟨w6.heap.size, 1, none⟩ (.int .i64 S.place)).setCell ⟨w6.heap.size, 2, none⟩ (.int .i64 S.shard)).setCell ⟨w6.heap.size, 3, none⟩ (.slice pa S.path.length pc)).setCell ⟨w6.heap.size, 4, none⟩ (.int .i64 S.rcd.shard)).setCell ⟨w6.heap.size, 5, none⟩ (.int .i64 S.rcd.from')).setCell ⟨w6.heap.size, 6, none⟩ (.int .i64 S.rcd.to')).setCell ⟨w6.heap.size, 7, none⟩ (.int .i64 S.rcd.size)).setCell ⟨w6.heap.size, 8, none⟩ (.slice ra S.rcd.root.length rc)).setCell ⟨w6.heap.size, 9, none⟩ (.int .i64 S.row)).setCell ⟨w6.heap.size, 10, none⟩ (.slice ba S.bookPath.length bc)).setCell ⟨w6.heap.size, 11, none⟩ (.int .i64 S.hsize)).setCell ⟨w6.heap.size, 12, none⟩ (.slice ha S.hroot.length hc)) = W at *
                  have xW := box_below x6 dW k1
                  have yW := box_below hy6 dW (lt_heap hy6)
                  have zW := box_below z66 dW (lt_heap z66)
                  have cW := m6.trans (dW.mono m6.size)
                  have bW := b5.trans (cW.mono hs5)
                  have hentW := hent.below dW
                  have htW := ht5.below cW
                  obtain ⟨v1, v2, v3, v4, v5, v6, v7, v8, v9, v10, v11, v12, v13⟩ := box_13 xR
                  obtain ⟨t0, t1, t2, t3, t4, t5, t6⟩ := box_7 zW
                  obtain ⟨h0, h1, -, -⟩ := box_two yW
                  have sE : ∀ ea0 ec0, _ → _ := fun (ea0 : Option Addr) (ec0 : Nat) (h : BytesAt W (.slice ea0 S.entry.length ec0) S.entry) => same_any S.entry X.entry (.slice ea0 S.entry.length ec0) (.slice qa X.entry.length qc) W h hentW.at' (by rw [HR2.out]; exact hentW.short)
                  obtain ⟨ea', ec', pa', pc', ra', rc', ba', bc', ha', hc', eV, hve, -⟩ := hVW.form
                  cases eV
                  have sE1 := sE ea ec hve.at'
                  rw [decide_eq_true HR2.out] at sE1
                  have cC := fun w' (h : Below W.heap.size W w') => hCh S (P.book.length : Int) (mth (rowsOf P.book)) (.agg #[.slice ea S.entry.length ec, .int .i64 S.place, .int .i64 S.shard, .slice pa S.path.length pc, .int .i64 S.rcd.shard, .int .i64 S.rcd.from', .int .i64 S.rcd.to', .int .i64 S.rcd.size, .slice ra S.rcd.root.length rc, .int .i64 S.row, .slice ba S.bookPath.length bc, .int .i64 S.hsize, .slice ha S.hroot.length hc]) (.slice ta 32 tc) w' (hR.below (bW.trans (h.mono bW.size))) (hVW.below h) (htW.below h)
                  rw [HR3.out] at cC
                  clear sE xW zW hK hSf hnewS xB cc0 cc1 cc2 cc3 cc4 cc5 cc6 cc7 cc8 cc9 cc10 cc11 cc12 z0 z1 z2 z3 z4 z5 z6 z7 z8 z9 z10 z11 z12 hV hb7 hent x6 hy6 z66 g0 g1 y1 y2 hdg hve
                  go_wp2_with fail
                  refine sE1.mono ?_
                  rintro e w8 ⟨rfl, q8, rfl⟩
                  have d8 := below_drewN' (Below.refl W.heap.size W) q8
                  have c8 := cW.trans (d8.mono cW.size)
                  obtain ⟨v1', v2', v3', v4', v5', v6', v7', v8', v9', v10', v11', v12', v13'⟩ := box_13 (box_kept xR d8)
                  obtain ⟨h0', h1', -, -⟩ := box_two (box_kept yW d8)
                  have cC8 := cC _ d8
                  clear sE1 v1 v2 v3 v4 v5 v6 v7 v8 v9 v10 v11 v12 v13 h0 h1 t0 t1 t2 t3 t4 t5 t6 cC d8
                  generalize W.drewN q8 = w8 at *
                  go_wp2_with fail
                  refine cC8.mono ?_
                  rintro e w9 ⟨rfl, hb9⟩
                  have c9 := c8.trans (hb9.mono c8.size)
                  clear cC8 v1' v2' v3' v4' v5' v6' v7' v8' v9' v10' v11' v12' v13' h0' h1'
                  go_wp2_with fail
                  go_roundw
                  case rel => exact ⟨q + 1, by omega, by go_num, c9⟩
                  case measure => simp [intOf]; omega
            · have hz0' : (Z.err != 0) = true := by simpa using hz0
              rw [hk1] at e0 t0 t1 t2 t3 t4 t5 t6 b6 z6 xp yp g0 g1 y0 y1 y2 hd6
              clear HQh hz0
              go_wp2_with fail
              go_quiet (fail)
              go_wp2_with fail
              go_roundw
              case rel => exact ⟨q + 1, by omega, by go_num, below_drewN' b6 _⟩
              case measure => simp [intOf]; omega
          · have hk1' : (X.kind != 1) = true := by simpa using hk1
            clear HQh hk1
            go_wp2_with fail
            go_quiet (fail)
            go_wp2_with fail
            go_roundw
            case rel => exact ⟨q + 1, by omega, by go_num, below_drewN' b6 _⟩
            case measure => simp [intOf]; omega
        · obtain rfl : q = j := by omega
          have hnl2 : ¬ (q : Int) < q := by omega
          clear HS2
          go_wp2_with fail
          go_ret
          exact ⟨rfl, hbw2⟩

end Go.Proofs.YtkjlchfmplcobafGreatDoor
