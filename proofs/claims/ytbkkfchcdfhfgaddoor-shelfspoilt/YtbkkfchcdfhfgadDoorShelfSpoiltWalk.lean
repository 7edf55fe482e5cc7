/- The walk of the law ShelfSpoilt, over the faces of packages tree, clash and shelf. -/
import Derived.Test.YtbkkfchcdfhfgadDoorProg
import Derived.Test.YtbkkfchcdfhfgadDoorRunAJ
import Derived.Test.YtbkkfchcdfhfgadDoorRunAK
import Derived.WalkKit
import Derived.WalkSpells
import Derived.WalkLawsBesides
import Derived.Deep.QuietTactic
import Derived.BigQuiet
namespace Go.Proofs.YtbkkfchcdfhfgadDoor
open Go.RowKit

/-- What is verified under the head of entries, but is another, clashes with them. -/
theorem spoilt_clash {L X : List (List Int)} {i : Nat} (hw : (wrongL L).1 = 0) (hl : X.length = L.length) (h200 : ∀ j, (X.getD j []).length ≤ 200) (hm : mth X = mth L) (hi : i < L.length) (hne : X.getD i [] ≠ L.getD i []) : clashS L (X.getD i []) i (pathL X i) = true := by
  obtain ⟨h1, -⟩ := wrong_ok hw
  have hs := stands_path (L := X) (i := i) (by omega) (by omega) (h200 i)
  rw [hl, hm] at hs
  unfold clashS
  rw [decide_eq_true hw, hs, Int.toNat_natCast, decide_eq_true (p := L.getD i [] ≠ X.getD i []) (fun h => hne h.symm)]
  rfl
set_option maxRecDepth 100000 in
set_option maxHeartbeats 4000000 in
theorem shelfSpoilt_any (hRoot : RootC) (hPath : PathC) (hClash : ClashStandsC) (hEx : ExportC) (hVe : VerifyC) (hEn : EntryC) (L : List (List Int)) (m : Man) (a : Option Addr) (n c : Nat) (mv : Value) (w : World) (hR : Ready w) (hL : Lists w a n c L) (hM : ManAt w mv m) :
    Calls Tryd.prog 5 #[.slice a n c, mv] w fun e w' => e = .returned (.bool true) ∧ Below w.heap.size w w' := by
  have hcap := hL.cap
  have hroom := hL.room
  have hlen := hL.len
  unfold maxLen at hcap
  have cA := fun w' (h : Below w.heap.size w w') => alive5_any hEx hVe hEn w' (hR.below h)
  have cR := fun w' (h : Below w.heap.size w w') => hRoot L a n c w' (hR.below h) (hL.below h)
  obtain ⟨rv, sv, rfl, hr, sa, sc, rfl, hN1, hN2, hN3, hcell⟩ := hM
  have hSG : SegsAt w (.slice sa m.segs.length sc) m.segs := ⟨sa, sc, rfl, hN1, hN2, hN3, hcell⟩
  obtain ⟨ra, rc, rfl⟩ := hr.at'.form
  have x0 := box_new w #[.int .i64 m.size, .slice ra m.root.length rc, .slice sa m.segs.length sc] 28
  have b0 : Below w.heap.size w (w.alloc (.cells #[.int .i64 m.size, .slice ra m.root.length rc, .slice sa m.segs.length sc] 28)) := (Below.refl _ _).alloc (Nat.le_refl _) _
  have cA0 := cA _ b0
  clear hcell hr cA hN3
  by_cases h0 : (wrongL L).1 = 0
  case neg =>
    generalize m.segs.length = sn at *
    generalize m.root.length = rn at *
    generalize m.size = size at *
    generalize wrongL L = F at *
    obtain ⟨F1, F2⟩ := F
    dsimp only [faultV] at cR h0
    have i1 : (F1 != 0) = true := by simpa using h0
    clear hSG hL
    go_enter Tryd.func5, Tryd.ntmps5
    go_wp2_with fail
    generalize w.alloc (.cells #[.int .i64 size, .slice ra rn rc, .slice sa sn sc] 28) = w0 at *
    refine cA0.mono ?_
    rintro e w1 ⟨rfl, hb1⟩
    have b1 := b0.trans (hb1.mono b0.size)
    go_wp2_with fail
    refine (cR _ b1).mono ?_
    rintro e w2 ⟨ta, tn, tc, rfl, -, -, hb2⟩
    obtain ⟨c2, f0, -, sf⟩ := box_cells w2 (.int .i64 F1) (.int .i64 F2) 31
    have b2 := b1.trans (hb2.mono b1.size)
    have b3 := b2.trans (c2.mono b2.size)
    clear cR cA0
    go_wp2_with fail
    go_ret
    exact ⟨rfl, b3⟩
  obtain ⟨h100, h200⟩ := wrong_ok h0
  rw [wrong_zero h100 h200] at cR
  dsimp only [faultV] at cR
  have hml := mth_length L
  have hmb := bytes_mth L
  have cV := fun w' tv (h : Below w.heap.size w w') (ht : Some' w' tv (mth L)) => hVe ⟨(n : Int), mth L, m.segs⟩ (.agg #[.int .i64 (n : Int), tv, .slice sa m.segs.length sc]) w' (hR.below h) ⟨_, _, rfl, ht, hSG.below h⟩
  have HVS : Hid ((verifyL ⟨(n : Int), mth L, m.segs⟩).2.1 = 0 → (verifyL ⟨(n : Int), mth L, m.segs⟩).1.length = n ∧ mth (verifyL ⟨(n : Int), mth L, m.segs⟩).1 = mth L ∧ ∀ j, ((verifyL ⟨(n : Int), mth L, m.segs⟩).1.getD j []).length ≤ 200) := fun h => by
    obtain ⟨h1, -, -, h2⟩ := verify_spec h
    have h3 := (upTo_all h).1
    have h4 := (upTo_few ⟨(n : Int), mth L, m.segs⟩ m.segs.length).2
    rw [h1]
    exact ⟨Int.ofNat.inj h3, h2, short_mem h4⟩
  have HVE : Hid ((verifyL ⟨(n : Int), mth L, m.segs⟩).2.1 ≠ 0 → (verifyL ⟨(n : Int), mth L, m.segs⟩).1 = []) := fun h => verify_err h
  clear hSG
  generalize verifyL ⟨(n : Int), mth L, m.segs⟩ = V at *
  generalize m.segs.length = sn at *
  generalize m.root.length = rn at *
  generalize m.size = size at *
  obtain ⟨X, F1, F2⟩ := V
  dsimp only [faultV] at cV HVS HVE
  go_enter Tryd.func5, Tryd.ntmps5
  go_wp2_with fail
  generalize w.alloc (.cells #[.int .i64 size, .slice ra rn rc, .slice sa sn sc] 28) = w0 at *
  refine cA0.mono ?_
  rintro e w1 ⟨rfl, hb1⟩
  have b1 := b0.trans (hb1.mono b0.size)
  have x1 := box_kept x0 hb1
  have hg1 := lt_heap x1
  clear cA0 x0 b0 hb1
  go_wp2_with fail
  refine (cR _ b1).mono ?_
  rintro e w2 ⟨ta, tn, tc, rfl, ht, -, hb2⟩
  replace ht := ht (by trivial)
  obtain rfl := own_len ht
  have b2 := b1.trans (hb2.mono b1.size)
  have x2 := box_old _ (.cells #[.int .i64 0, .int .i64 0] 31) (box_kept x1 hb2)
  have y2 := box_new w2 #[.int .i64 0, .int .i64 0] 31
  have ht2 := ht.alloc (.cells #[.int .i64 0, .int .i64 0] 31)
  have b3 : Below w.heap.size w (w2.alloc (.cells #[.int .i64 0, .int .i64 0] 31)) := b2.alloc b2.size _
  obtain ⟨u0, u1, u2, u3, u4, u5⟩ := box_three x2
  obtain ⟨f0, f1, -, -⟩ := box_two y2
  have hgf : w.heap.size ≠ w2.heap.size := by have := lt_heap (box_kept x1 hb2); omega
  have hs2 := b2.size
  have hxA := heap_setCell_same _ _ 1 _ _ (.slice ta 32 tc) (heap_setCell_same _ _ 0 _ _ (.int .i64 (n : Int)) x2)
  have hyA := box_set_far (j := w.heap.size) (o := 1) (v := .slice ta 32 tc) (box_set_far (j := w.heap.size) (o := 0) (v := .int .i64 (n : Int)) y2 (by omega)) (by omega)
  have htA := ownsRow_setCell_below (a := ⟨w.heap.size, 1, none⟩) (ownsRow_setCell_below (a := ⟨w.heap.size, 0, none⟩) ht2 hg1 (.int .i64 (n : Int))) hg1 (.slice ta 32 tc)
  have bA := (b3.setCell (p := ⟨w.heap.size, 0, none⟩) (Nat.le_refl _) (.int .i64 (n : Int))).setCell (p := ⟨w.heap.size, 1, none⟩) (Nat.le_refl _) (.slice ta 32 tc)
  replace hxA : (((w2.alloc (.cells #[.int .i64 0, .int .i64 0] 31)).setCell ⟨w.heap.size, 0, none⟩ (.int .i64 (n : Int))).setCell ⟨w.heap.size, 1, none⟩ (.slice ta 32 tc)).heap[w.heap.size]? = some (.cells #[.int .i64 (n : Int), .slice ta 32 tc, .slice sa sn sc] 28 (0, 0)) := hxA
  obtain ⟨v0, v1, v2, -, -, -⟩ := box_three hxA
  have htS : Some' _ (.slice ta 32 tc) (mth L) := ⟨bytesAt_own htA, hmb, by rw [hml]; unfold maxLen; omega⟩
  have cV1 := cV _ _ bA htS
  clear cR ht ht2 htA x1 x2 y2 b3 cV htS hb2
  go_wp2_with fail
  generalize ((w2.alloc (.cells #[.int .i64 0, .int .i64 0] 31)).setCell ⟨w.heap.size, 0, none⟩ (.int .i64 (n : Int))).setCell ⟨w.heap.size, 1, none⟩ (.slice ta 32 tc) = w3 at *
  clear u0 u1 u2 u3 u4 u5 f0 f1 v0 v1 v2
  refine cV1.mono ?_
  rintro e w4 ⟨xa, xn, xc, rfl, hX, hb4⟩
  have b4 := bA.trans (hb4.mono bA.size)
  have y4 := box_kept hyA hb4
  obtain ⟨f0, f1, f2, f3⟩ := box_two y4
  have y5 := box2_set (u' := .int .i64 F1) (v' := .int .i64 F2) y4
  have hX5 := (hX.set (o := 0) y4 (by decide) (hX.lists.apart y4) (.int .i64 F1)).set (o := 1) (heap_setCell_same _ _ 0 _ _ (.int .i64 F1) y4) (by decide) (hX.lists.apart y4) (.int .i64 F2)
  have b5 := (b4.setCell (p := ⟨w2.heap.size, 0, none⟩) hs2 (.int .i64 F1)).setCell (p := ⟨w2.heap.size, 1, none⟩) hs2 (.int .i64 F2)
  obtain ⟨g0, g1, -, -⟩ := box_two y5
  have hXl := hX.lists.len
  clear cV1 hxA hyA hX hb4 y4 y5 bA b4
  by_cases hF : F1 = 0
  case neg =>
    have i1 : (F1 != 0) = true := by simpa using hF
    obtain rfl := HVE.out hF
    obtain rfl : xn = 0 := by simpa using hXl.symm
    clear HVE HVS hX5 hF
    go_wp2_with fail
    go_ret
    exact ⟨rfl, b5⟩
  subst hF
  obtain ⟨v1, v2, v3⟩ := HVS.out (by trivial)
  obtain rfl : xn = n := by omega
  have qn : ((xn : Int) != (xn : Int)) = false := by simp
  clear HVE HVS
  go_wp2_with fail
  generalize (w4.setCell ⟨w2.heap.size, 0, none⟩ (.int .i64 0)).setCell ⟨w2.heap.size, 1, none⟩ (.int .i64 F2) = w5 at *
  clear f0 f1 f2 f3 g0 g1 qn
  go_loopw [47] (fun kv wr => ∃ k : Nat, k ≤ xn ∧ kv = .int .i64 k ∧ Below w5.heap.size w5 wr) (fun kv _ => xn - (intOf kv).toNat)
  case atStart => exact ⟨0, Nat.zero_le _, rfl, Below.refl _ _⟩
  case round =>
    obtain ⟨k, hk, rfl, hbr⟩ := hrel
    have hbw := b5.trans (hbr.mono b5.size)
    by_cases hlt : k < xn
    · have hlt' : (k : Int) < xn := by omega
      have hsr := hbr.size
      have hLr := hL.below hbw
      have hXr := hX5.lists.below hbr
      have hRr := hR.below hbw
      obtain ⟨b, off, pa, pc, ea, hcj, hsj⟩ := hXr.get k hlt
      obtain ⟨b', off', qa, qc, eb, hcl, hsl⟩ := hLr.get k hlt
      have HS : ∀ q, Calls Tryd.prog 15 #[.slice pa (X.getD k []).length pc, .slice qa (L.getD k []).length qc] (wr.drewN q) fun e w' => e = .returned (.bool (decide (X.getD k [] = L.getD k []))) ∧ ∃ n, w' = (wr.drewN q).drewN n := fun q => same_any _ _ _ _ _ (hsj.below (below_drewN' (Below.refl _ _) q)).at' (hsl.below (below_drewN' (Below.refl _ _) q)).at' hsj.short
      subst ea eb
      by_cases hq : X.getD k [] = L.getD k []
      · rw [decide_eq_true hq] at HS
        clear hsj hsl hXr hLr hX5 hL v1 v2 v3 h200 hq
        generalize (X.getD k []).length = dn at *
        generalize (L.getD k []).length = en at *
        go_wp2_with fail
        go_quiet ((go_at_call 15; exact Calls.quiet_of (HS _)))
        go_wp2_with fail
        go_roundw
        case rel => exact ⟨k + 1, by omega, by go_num, below_drewN' hbr _⟩
        case measure => simp [intOf]; omega
      · rw [decide_eq_false hq] at HS
        have hcs := spoilt_clash h0 (by omega) v3 v2 (by omega) hq
        have hwx : wrongL X = (0, 0) := wrong_zero (by omega) v3
        have hpf : pathF X (k : Int) = (0, 0) := by unfold pathF; rw [hwx, if_neg (fun h => h rfl), if_neg (by omega)]
        have cP := fun w' (h : Below wr.heap.size wr w') => hPath X k (some ⟨b, off, none⟩) xn xc w' (hRr.below h) (hXr.below h)
        rw [hpf] at cP
        have cC := fun w' pA pN pC (h : Below wr.heap.size wr w') (hp : Lists w' pA pN pC (pathL X k)) => hClash L (X.getD k []) k (pathL X k) (.slice pa (X.getD k []).length pc) (some ⟨b', off', none⟩) xn c pA pN pC w' (hRr.below h) (hLr.below h) (hsj.below h) hp
        rw [hcs] at cC
        dsimp only [faultV] at cP
        have hpb := path_bytes X k
        have hpd := path_digs X k
        rw [Int.toNat_natCast] at cP
        have hb9 : b < wr.heap.size := World.block_lt_of_cell? wr ⟨b, off + k, none⟩ hcj
        have cU := fun w' v (x : List Int) (h : Below wr.heap.size wr w') (hx : Some' w' v x) (hx2 : x.length ≤ 1000000) => sum_any x v w' hx.at' (by omega) hx.bytes (hRr.below h).tab (hRr.below h).big
        have hLs := hXr
        clear hsj hsl hXr hLr hX5 hL v1 v2 v3 h200 hq hcs hwx hpf hLs
        generalize (X.getD k []).length = dn at *
        generalize (L.getD k []).length = en at *
        generalize pathL X k = PL at *
        go_wp2_with fail
        go_quiet ((go_at_call 15; exact Calls.quiet_of (HS _)))
        have d6 : Below wr.heap.size wr (wr.drewN nq) := below_drewN' (Below.refl _ _) nq
        have hcj6 : (wr.drewN nq).cell? ⟨b, off + k, none⟩ = some (.slice pa dn pc) := hcj
        generalize wr.drewN nq = w6 at *
        clear HS hcl
        go_wp2_with fail
        refine (cP _ d6).mono ?_
        rintro e w7 ⟨pA, pN, pC, rfl, hp, -, hb7⟩
        replace hp := hp (by trivial)
        have hpl := hp.lists hpb (digs_short hpd)
        obtain ⟨c7, f0, -, sf⟩ := box_cells w7 (.int .i64 0) (.int .i64 0) 31
        have d7 := d6.trans (hb7.mono d6.size)
        have d8 := d7.trans (c7.mono d7.size)
        have hpl8 := hpl.below c7
        have hcj8 := (d8.cell (p := ⟨b, off + k, none⟩) hb9).trans hcj
        have cC8 := cC _ _ _ _ d8 hpl8
        clear cP hp hpl hcj6 hpb hpd hpl8 cC
        go_wp2_with fail
        generalize w7.alloc (.cells #[.int .i64 0, .int .i64 0] 31) = w8 at *
        refine cC8.mono ?_
        rintro e w9 ⟨vx, vy, rfl, ht, hb9'⟩
        have d9 := d8.trans (hb9'.mono d8.size)
        have f9 := (hb9'.cell (p := ⟨w7.heap.size, 0, none⟩) sf).trans f0
        obtain ⟨x, y, hx, hy, hx2, hy2, hne, -⟩ := ht
        obtain ⟨hne, hsh⟩ := hne rfl
        have sA := same_any x y vx vy w9 hx.at' hy.at' hx.short
        rw [decide_eq_false hne] at sA
        obtain ⟨xA, xC, rfl⟩ := hx.at'.form
        obtain ⟨yA, yC, rfl⟩ := hy.at'.form
        clear cC8 f0 sf hcj8 hne
        go_wp2_with fail
        refine sA.mono ?_
        rintro e wa ⟨rfl, qa', rfl⟩
        have da := below_drewN' d9 qa'
        have hxa := hx.below (below_drewN' (Below.refl _ _) qa')
        have hya := hy.below (below_drewN' (Below.refl _ _) qa')
        generalize w9.drewN qa' = wa at *
        have cU1 := cU wa _ x da hxa hx2
        clear sA hx hy f9
        go_wp2_with fail
        refine cU1.mono ?_
        rintro e wb ⟨gb, rfl, hob, hbb⟩
        have db := da.trans (hbb.mono da.size)
        have cU2 := cU wb _ y db (hya.below hbb) hy2
        clear cU1 cU
        go_wp2_with fail
        refine cU2.mono ?_
        rintro e wc ⟨gc, rfl, hoc, hbc⟩
        have dc := db.trans (hbc.mono db.size)
        have sB := same_any (shaL x) (shaL y) _ _ wc ((bytesAt_own hob).below (Nat.le_refl _) hbc) (bytesAt_own hoc) (by rw [shaL_len]; unfold maxLen; omega)
        rw [decide_eq_true hsh] at sB
        clear cU2 hob hoc
        go_wp2_with fail
        refine sB.mono ?_
        rintro e wd ⟨rfl, qd, rfl⟩
        have dd := below_drewN' dc qd
        go_wp2_with fail
        go_roundw
        case rel => exact ⟨k + 1, by omega, by go_num, hbr.trans (dd.mono hsr)⟩
        case measure => simp [intOf]; omega
    · obtain rfl : k = xn := by omega
      have hnl : ¬ (k : Int) < k := by omega
      clear v1 v2 v3 h200 hX5 hL
      go_wp2_with fail
      go_ret
      exact ⟨rfl, hbw⟩

end Go.Proofs.YtbkkfchcdfhfgadDoor
