/- The walk of the law BookStands, over the faces of packages tree and book. -/
import Derived.Test.YtkjlchfmplcobaeDoorProg
import Derived.Test.YtkjlchfmplcobaeDoorBookAlive
import Derived.WalkKit
import Derived.WalkSpells
import Derived.WalkLawsBesides
namespace Go.Proofs.YtkjlchfmplcobaeDoor
open Go.RowKit

theorem RecsAt.first {w : World} {a : Option Addr} {n c k : Nat} {l : List Rec} (h : RecsAt w (.slice a n c) l) (hn : l.length = n) (hk : k ≤ n) (h0 : 0 < n) : RecsAt w (.slice a k c) (l.take k) := by
  obtain ⟨a', c', e, h2, h3, h4, h5⟩ := h
  rw [hn] at e h2 h5
  cases e
  have hl : (l.take k).length = k := by rw [List.length_take]; omega
  refine ⟨a, c, by rw [hl], by rw [hl]; omega, h3, h4, ?_⟩
  obtain ⟨b, off, rfl, h7, h8⟩ := h5.resolve_left (by omega)
  refine .inr ⟨b, off, rfl, h7, fun j hj => ?_⟩
  rw [hl] at hj
  rw [List.getD_eq_getElem?_getD, List.getElem?_take, if_pos hj, ← List.getD_eq_getElem?_getD]
  exact h8 j (by omega)
set_option maxRecDepth 100000 in
set_option maxHeartbeats 4000000 in
theorem bookStands_any (hSt : StandsC) (hGr : GrewC) (hBy : RecBytesC) (hPa : RecParseC) (hHe : BookHeadC) (hBP : BookPathC) (hBG : BookGrowsC) (l : List Rec) (a : Option Addr) (n c : Nat) (w : World) (hR : Ready w) (hl : RecsAt w (.slice a n c) l) (hn : l.length = n) :
    Calls Tryd.prog 6 #[.slice a n c] w fun e w' => e = .returned (.bool true) ∧ Below w.heap.size w w' := by
  have cA := alive6_any hBy hPa hHe w hR
  have cH := fun w' (h : Below w.heap.size w w') => hHe l (.slice a n c) w' (hR.below h) (hl.below h)
  by_cases h0 : (wrongRecs l).1 = 0
  case neg =>
    have hbs : bookSize l = 0 := by unfold bookSize; rw [if_pos h0]
    have hbr : bookRoot l = [] := by unfold bookRoot; rw [if_pos h0]
    rw [hbs, hbr] at cH
    clear hbs hbr hl
    generalize wrongRecs l = F at *
    obtain ⟨F1, F2⟩ := F
    dsimp only [faultV] at cH h0
    have i1 : (F1 != 0) = true := by simpa using h0
    go_enter Tryd.func6, Tryd.ntmps6
    go_wp2_with fail
    refine cA.mono ?_
    rintro e w1 ⟨rfl, b1⟩
    go_wp2_with fail
    refine (cH _ b1).mono ?_
    rintro e w2 ⟨ra, rc, rfl, -, hb2⟩
    have b2 := b1.trans (hb2.mono b1.size)
    have b3 : Below w.heap.size w ((w2.alloc (.cells #[.int .i64 0, .slice ra 0 rc] 24)).alloc (.cells #[.int .i64 F1, .int .i64 F2] 32)) := (b2.alloc b2.size _).alloc (by have := b2.size; simp; omega) _
    obtain ⟨u0, u1, -, -⟩ := box_two (box_last w2 (.cells #[.int .i64 0, .slice ra 0 rc] 24) #[.int .i64 F1, .int .i64 F2] 32)
    clear cA cH
    dsimp only [List.length_nil]
    go_wp2_with fail
    go_ret
    exact ⟨rfl, b3⟩
  obtain ⟨h8, hall⟩ := wrongRecs_ok h0
  have hrl := rows_length l
  have hrw := rows_wrong h0
  have hrs := rows_short h0
  have hrb := rows_bytes h0 hl.bytes
  have hbs : bookSize l = n := by unfold bookSize; rw [if_neg (fun h => h h0), hn]
  have hbr : bookRoot l = mth (rowsOf l) := by unfold bookRoot; rw [if_neg (fun h => h h0)]
  have hml := mth_length (rowsOf l)
  rw [wrongRecs_whole h0, hbs, hbr, hml] at cH
  dsimp only [faultV] at cH
  have hsp : ∀ k, k < n → standsL n (mth (rowsOf l)) ((rowsOf l).getD k []) k (pathL (rowsOf l) k) = true := fun k hk => by
    have := stands_path (L := rowsOf l) (i := k) (by omega) (by omega) (hrs k)
    rwa [hrl, hn] at this
  have hgp : ∀ k, k < n → grewL ((k : Int) + 1) (mth ((rowsOf l).take (k + 1))) n (mth (rowsOf l)) (proofL (rowsOf l) (k + 1) true) = true := fun k hk => by
    have := grew_proof (L := rowsOf l) (m := k + 1) (by omega) (by omega) (by omega)
    rw [hrl, hn] at this
    rw [show ((k : Int) + 1) = ((k + 1 : Nat) : Int) by omega]
    exact this
  have hmb := bytes_mth (rowsOf l)
  go_enter Tryd.func6, Tryd.ntmps6
  go_wp2_with fail
  refine cA.mono ?_
  rintro e w1 ⟨rfl, b1⟩
  go_wp2_with fail
  refine (cH _ b1).mono ?_
  rintro e w2 ⟨ra, rc, rfl, hr, hb2⟩
  have b2 := b1.trans (hb2.mono b1.size)
  have d3 : Below w2.heap.size w2 ((w2.alloc (.cells #[.int .i64 n, .slice ra 32 rc] 24)).alloc (.cells #[.int .i64 0, .int .i64 0] 32)) := ((Below.refl _ _).alloc (Nat.le_refl _) _).alloc (by simp) _
  have b3 := b2.trans (d3.mono b2.size)
  have x3 := box_one w2 #[.int .i64 n, .slice ra 32 rc] 24 (.cells #[.int .i64 0, .int .i64 0] 32)
  obtain ⟨u0, u1, -, -⟩ := box_two (box_last w2 (.cells #[.int .i64 n, .slice ra 32 rc] 24) #[.int .i64 0, .int .i64 0] 32)
  have hr3 := hr.below d3
  clear cA cH hr d3 b1 b2 hb2
  go_wp2_with fail
  generalize (w2.alloc (.cells #[.int .i64 n, .slice ra 32 rc] 24)).alloc (.cells #[.int .i64 0, .int .i64 0] 32) = w3 at *
  clear u0 u1
  have hs3 := b3.size
  go_loopw [26] (fun kv wr => ∃ k : Nat, k ≤ n ∧ kv = .int .i64 k ∧ Below w3.heap.size w3 wr) (fun kv _ => n - (intOf kv).toNat)
  case atStart => exact ⟨0, Nat.zero_le _, rfl, Below.refl _ _⟩
  case round =>
    obtain ⟨wo, rfl⟩ : ∃ x, x = wr := ⟨wr, rfl⟩
    obtain ⟨k, hk, rfl, hbr'⟩ := hrel
    have hbw := b3.trans (hbr'.mono hs3)
    have hsr := hbr'.size
    by_cases hlt : k < n
    · have hlt' : (k : Int) < n := by omega
      have hwk := hall k (by omega)
      have hEk : bytesE (l.getD k rec0) = (rowsOf l).getD k [] := by unfold bytesE; rw [if_neg (fun e => e hwk), rows_get (by omega)]
      have h40 : ((rowsOf l).getD k []).length = 40 := by rw [rows_get (by omega), row_length hwk]
      have hpf : bookPathF l (k : Int) = (0, 0) := by unfold bookPathF pathF; rw [if_neg (fun h => h h0), hrw, if_neg (fun h => h rfl), if_neg (by omega)]
      have hgf : bookGrowF l ((k : Int) + 1) = (0, 0) := by unfold bookGrowF growF; rw [if_neg (fun h => h h0), hrw, if_neg (fun h => h rfl), if_neg (by omega)]
      have h0t := wrongRecs_first (n := k + 1) h0
      have hts : bookSize (l.take (k + 1)) = (k : Int) + 1 := by unfold bookSize; rw [if_neg (fun h => h h0t), List.length_take]; omega
      have htr : bookRoot (l.take (k + 1)) = mth ((rowsOf l).take (k + 1)) := by unfold bookRoot; rw [if_neg (fun h => h h0t), rows_take]
      have htl := mth_length ((rowsOf l).take (k + 1))
      have htb := bytes_mth ((rowsOf l).take (k + 1))
      have hSk := hsp k hlt
      have hGk := hgp k hlt
      have hpb := path_bytes (rowsOf l) k
      have hpd := path_digs (rowsOf l) k
      have hqb := proof_bytes (rowsOf l) (k + 1) true
      have hqd := proof_digs (rowsOf l) (k + 1) true
      have hrbk := hrb k
      have hlo := hl.below hbw
      obtain ⟨a0, c0, e0, hn1, hn2, hn3, hcells⟩ := hlo
      rw [hn] at e0 hn1 hcells
      cases e0
      obtain ⟨g, o, rfl, hg, hcs⟩ := hcells.resolve_left (by omega)
      have hlo := hl.below hbw
      obtain ⟨d0, d1, d2, d3, qa, qc, d4, hroot⟩ := hcs k hlt
      have cB := hBy (l.getD k rec0) _ wo ⟨qa, qc, rfl, hroot⟩
      rw [hwk, hEk] at cB
      have cP := fun w' (h : Below wo.heap.size wo w') => hBP l (k : Int) (.slice (some ⟨g, o, none⟩) n c) w' ((hR.below hbw).below h) (hlo.below h)
      rw [hpf, Int.toNat_natCast] at cP
      have cT := fun w' (h : Below wo.heap.size wo w') => hHe (l.take (k + 1)) (.slice (some ⟨g, o, none⟩) (k + 1) c) w' ((hR.below hbw).below h) ((hlo.below h).first hn (by omega) (by omega))
      rw [wrongRecs_whole h0t, hts, htr, htl] at cT
      have cG := fun w' (h : Below wo.heap.size wo w') => hBG l ((k : Int) + 1) (.slice (some ⟨g, o, none⟩) n c) w' ((hR.below hbw).below h) (hlo.below h)
      rw [hgf, show ((k : Int) + 1).toNat = k + 1 by omega] at cG
      dsimp only [faultV] at cP cT cG
      have hrw' := hr3.below hbr'
      clear hsp hgp hall hrs hrb hbs hbr hrl hrw hcells hcs hwk hEk hpf hgf h0t hts htr hroot hr3 h0 h8
      unfold maxLen at hn2
      generalize (rowsOf l).getD k [] = RW at *
      generalize mth ((rowsOf l).take (k + 1)) = M1 at *
      generalize mth (rowsOf l) = M0 at *
      generalize pathL (rowsOf l) k = PL at *
      generalize proofL (rowsOf l) (k + 1) true = QL at *
      generalize l.getD k rec0 = R at *
      obtain ⟨Rs, Rf, Rt, Rz, Rr⟩ := R
      dsimp only at d0 d1 d2 d3 d4 cB
      generalize Rr.length = Rn at *
      have hcap2 : (k : Int) + 1 ≤ c := by omega
      go_wp2_with fail
      refine cB.mono ?_
      rintro e w4 ⟨xa, xn, xc, rfl, hx, hb4⟩
      obtain rfl : xn = 40 := by have := hx.1; rw [List.length_map, h40] at this; omega
      clear cB d0 d1 d2 d3 d4
      go_wp2_with fail
      refine (cP _ hb4).mono ?_
      rintro e w5 ⟨pA, pN, pC, rfl, hp, -, hb5⟩
      replace hp := hp (by trivial)
      have c5 := hb4.trans (hb5.mono hb4.size)
      have e6 : Below w5.heap.size w5 (w5.alloc (.cells #[.int .i64 0, .int .i64 0] 32)) := (Below.refl _ _).alloc (Nat.le_refl _) _
      have c6 := c5.trans (e6.mono c5.size)
      have y6 := box_new w5 #[.int .i64 0, .int .i64 0] 32
      have hp6 := (hp.lists hpb (digs_short hpd)).below e6
      have hx6 := (bytesAt_own hx).below (Nat.le_refl _) (hb5.trans (e6.mono hb5.size))
      clear cP hp hx
      go_wp2_with fail
      generalize w5.alloc (.cells #[.int .i64 0, .int .i64 0] 32) = w6 at *
      refine (cT _ c6).mono ?_
      rintro e w7 ⟨ta, tc, rfl, ht, hb7⟩
      have c7 := c6.trans (hb7.mono c6.size)
      have e8 : Below w7.heap.size w7 ((w7.alloc (.cells #[.int .i64 ((k : Int) + 1), .slice ta 32 tc] 24)).alloc (.cells #[.int .i64 0, .int .i64 0] 32)) := ((Below.refl _ _).alloc (Nat.le_refl _) _).alloc (by simp) _
      have c8 := c7.trans (e8.mono c7.size)
      have h78 := hb7.trans (e8.mono hb7.size)
      have y8 := box_kept y6 h78
      have z8 := box_one w7 #[.int .i64 ((k : Int) + 1), .slice ta 32 tc] 24 (.cells #[.int .i64 0, .int .i64 0] 32)
      have v8 := box_last w7 (.cells #[.int .i64 ((k : Int) + 1), .slice ta 32 tc] 24) #[.int .i64 0, .int .i64 0] 32
      have hp8 := hp6.below h78
      have hx8 := hx6.below (Nat.le_refl _) h78
      have ht8 := ht.below e8
      clear cT hp6 hx6 ht y6
      go_wp2_with fail
      generalize (w7.alloc (.cells #[.int .i64 ((k : Int) + 1), .slice ta 32 tc] 24)).alloc (.cells #[.int .i64 0, .int .i64 0] 32) = w8 at *
      refine (cG _ c8).mono ?_
      rintro e w9 ⟨qA, qN, qC, rfl, hq, -, hb9⟩
      replace hq := hq (by trivial)
      have c9 := c8.trans (hb9.mono c8.size)
      have ea : Below w9.heap.size w9 (w9.alloc (.cells #[.int .i64 0, .int .i64 0] 32)) := (Below.refl _ _).alloc (Nat.le_refl _) _
      have ca := c9.trans (ea.mono c9.size)
      have h9a := hb9.trans (ea.mono hb9.size)
      obtain ⟨i0, i1, -, -⟩ := box_two (box_kept y8 h9a)
      obtain ⟨j0, j1, -, -⟩ := box_two (box_kept z8 h9a)
      obtain ⟨k0, k1, -, -⟩ := box_two (box_kept v8 h9a)
      obtain ⟨l0, l1, -, -⟩ := box_two (box_new w9 #[.int .i64 0, .int .i64 0] 32)
      have xa' := box_kept (box_kept x3 hbr') ca
      obtain ⟨m0, m1, -, -⟩ := box_two xa'
      have hpa := hp8.below h9a
      have hqa := (hq.lists hqb (digs_short hqd)).below ea
      have hxa := hx8.below (Nat.le_refl _) h9a
      have hta := ht8.below h9a
      have hra := hrw'.below ca
      have hRa := (hR.below hbw).below ca
      have sS := hSt n M0 RW k PL (.slice ra 32 rc) (.slice xa 40 xc) pA pN pC _ hRa hra ⟨hxa, hrbk, by rw [h40]; unfold maxLen; omega⟩ hpa
      rw [hSk] at sS
      clear cG hq hp8 hx8 ht8 y8 z8 v8
      go_wp2_with fail
      generalize w9.alloc (.cells #[.int .i64 0, .int .i64 0] 32) = wa at *
      refine sS.mono ?_
      rintro e wb ⟨rfl, hbb⟩
      have cb := ca.trans (hbb.mono ca.size)
      have sG := hGr ((k : Int) + 1) M1 n M0 QL (.slice ta 32 tc) (.slice ra 32 rc) qA qN qC wb (hRa.below hbb) (hta.below hbb) (hra.below hbb) (hqa.below hbb)
      rw [hGk] at sG
      obtain ⟨m0', m1', -, -⟩ := box_two (box_kept xa' hbb)
      have j0' := (hbb.cell (p := ⟨w7.heap.size, 0, none⟩) (World.block_lt_of_cell? wa ⟨w7.heap.size, 0, none⟩ j0)).trans j0
      have j1' := (hbb.cell (p := ⟨w7.heap.size, 1, none⟩) (World.block_lt_of_cell? wa ⟨w7.heap.size, 1, none⟩ j1)).trans j1
      clear sS i0 i1 j0 j1 k0 k1 l0 l1 m0 m1
      go_wp2_with fail
      refine sG.mono ?_
      rintro e wc ⟨rfl, hbc⟩
      have cc := cb.trans (hbc.mono cb.size)
      go_wp2_with fail
      go_roundw
      case rel => exact ⟨k + 1, by omega, by go_num, hbr'.trans (cc.mono hsr)⟩
      case measure => simp [intOf]; omega
    · obtain rfl : k = n := by omega
      have hnl : ¬ (k : Int) < k := by omega
      clear hsp hgp hall hrs hrb hbs hbr hrl hrw hml hl
      go_wp2_with fail
      go_ret
      exact ⟨rfl, hbw⟩

end Go.Proofs.YtkjlchfmplcobaeDoor
