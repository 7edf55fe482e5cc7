/- The walk of the law ShelfTurns, over the faces of packages tree and shelf. -/
import Derived.Test.YtbkkfchcdfhfgadDoorProg
import Derived.Test.YtbkkfchcdfhfgadDoorRunAJ
import Derived.Test.YtbkkfchcdfhfgadDoorTreeSame
import Derived.WalkKit
import Derived.WalkSpells
import Derived.WalkLawsBesides
import Derived.Deep.RegionWith
import Derived.BigRegion
namespace Go.Proofs.YtbkkfchcdfhfgadDoor
open Go.RowKit

set_option maxRecDepth 100000 in
set_option maxHeartbeats 4000000 in
theorem shelfTurns_any (hWr : WrongC) (hRoot : RootC) (hEx : ExportC) (hVe : VerifyC) (hEn : EntryC) (L : List (List Int)) (a : Option Addr) (n c : Nat) (w : World) (hR : Ready w) (hL : Lists w a n c L) :
    Calls Tryd.prog 4 #[.slice a n c] w fun e w' => e = .returned (.bool true) ∧ Below w.heap.size w w' := by
  have hcap := hL.cap
  have hroom := hL.room
  have hlen := hL.len
  unfold maxLen at hcap
  have cA := alive5_any hEx hVe hEn w hR
  have cE := fun w' (h : Below w.heap.size w w') => hEx L a n c w' (hR.below h) (hL.below h)
  by_cases h0 : (wrongL L).1 = 0
  · obtain ⟨h100, h200⟩ := wrong_ok h0
    have hm200 := mem_short h200
    have he := wrong_zero h100 h200
    have hE : exportL L = ⟨L.length, mth L, segsL L⟩ := by unfold exportL; rw [if_neg (fun h => h h0)]
    have cR := fun w' (h : Below w.heap.size w w') => hRoot L a n c w' (hR.below h) (hL.below h)
    have cV := fun w' mv (h : Below w.heap.size w w') (hm : ManAt w' mv ⟨L.length, mth L, segsL L⟩) => hVe _ mv w' (hR.below h) hm
    have cN := fun w' mv (i : Nat) (hi : i < L.length) (hm : ManAt w' mv ⟨L.length, mth L, segsL L⟩) => hEn _ i mv w' hm (by omega)
    rw [verify_export h100 hm200] at cV
    have cN' : ∀ w' mv (i : Nat), i < L.length → ManAt w' mv ⟨L.length, mth L, segsL L⟩ → Calls Tryd.prog 13 #[mv, .int .i64 i] w' fun e w'' => ∃ v, e = .returned (.tuple #[v, .int .i64 0]) ∧ Some' w'' v (L.getD i []) ∧ Below w'.heap.size w' w'' := fun w' mv i hi hm => by
      have := cN w' mv i hi hm
      rwa [entry_export h100 hm200 hi] at this
    rw [hE, he] at cE
    rw [he] at cR
    have hml := mth_length L
    have hmb := bytes_mth L
    dsimp only [faultV] at cE cR cV
    clear h0 he hE cN
    rw [hlen] at cE cV cN' h100
    generalize mth L = M at *
    generalize segsL L = SG at *
    go_enter Tryd.func4, Tryd.ntmps4
    go_wp2_with fail
    refine cA.mono ?_
    rintro e w1 ⟨rfl, b1⟩
    go_wp2_with fail
    refine (cE _ b1).mono ?_
    rintro e w2 ⟨mv, rfl, hM, hb2⟩
    have b2 := b1.trans (hb2.mono b1.size)
    obtain ⟨rv, sv, rfl, hr, sa, sc, rfl, hs1, hs2, hs3, hsc⟩ := hM
    obtain ⟨ra, rc, rfl⟩ := hr.at'.form
    have hM : ManAt w2 (.agg #[.int .i64 (n : Int), .slice ra M.length rc, .slice sa SG.length sc]) ⟨(n : Int), M, SG⟩ := ⟨_, _, rfl, hr, sa, sc, rfl, hs1, hs2, hs3, hsc⟩
    dsimp only at hr
    rw [hml] at hM hr ⊢
    generalize SG.length = sn at *
    have d3 : Below w2.heap.size w2 ((w2.alloc (.cells #[.int .i64 (n : Int), .slice ra 32 rc, .slice sa sn sc] 28)).alloc (.cells #[.int .i64 0, .int .i64 0] 31)) := ((Below.refl _ _).alloc (Nat.le_refl _) _).alloc (by simp) _
    have b3 := b2.trans (d3.mono b2.size)
    have x3 := box_old _ (.cells #[.int .i64 0, .int .i64 0] 31) (box_new w2 #[.int .i64 (n : Int), .slice ra 32 rc, .slice sa sn sc] 28)
    obtain ⟨p0, p1, -, -⟩ := box_two (box_last w2 (.cells #[.int .i64 (n : Int), .slice ra 32 rc, .slice sa sn sc] 28) #[.int .i64 0, .int .i64 0] 31)
    have hM3 := hM.below d3
    have hr3 := hr.below d3
    clear hsc hM hr cA cE
    go_wp2_with fail
    generalize (w2.alloc (.cells #[.int .i64 (n : Int), .slice ra 32 rc, .slice sa sn sc] 28)).alloc (.cells #[.int .i64 0, .int .i64 0] 31) = w3 at *
    clear p0 p1 d3
    refine (cR _ b3).mono ?_
    rintro e w4 ⟨ta, tn, tc, rfl, ht, -, hb4⟩
    replace ht := ht (by trivial)
    obtain rfl := own_len ht
    have d5 : Below w4.heap.size w4 (w4.alloc (.cells #[.int .i64 0, .int .i64 0] 31)) := (Below.refl _ _).alloc (Nat.le_refl _) _
    have c5 := hb4.trans (d5.mono hb4.size)
    have b5 := b3.trans (c5.mono b3.size)
    have x5 := box_old _ (.cells #[.int .i64 0, .int .i64 0] 31) (box_kept x3 hb4)
    have hM5 := hM3.below c5
    have hr5 := hr3.below c5
    have ht5 := (bytesAt_own ht).below (Nat.le_refl _) d5
    obtain ⟨u0, u1, u2, -, -, -⟩ := box_three x5
    clear cR ht hM3 hr3 x3 hb4 d5 c5
    go_wp2_with fail
    generalize w4.alloc (.cells #[.int .i64 0, .int .i64 0] 31) = w5 at *
    refine (cV _ _ b5 hM5).mono ?_
    rintro e w6 ⟨xa, xn, xc, rfl, hx, hb6⟩
    have hxl := hx.lists.len
    obtain rfl : xn = n := by omega
    have d7 : Below w6.heap.size w6 (w6.alloc (.cells #[.int .i64 0, .int .i64 0] 31)) := (Below.refl _ _).alloc (Nat.le_refl _) _
    have c7 := hb6.trans (d7.mono hb6.size)
    have b7 := b5.trans (c7.mono b5.size)
    have x7 := box_old _ (.cells #[.int .i64 0, .int .i64 0] 31) (box_kept x5 hb6)
    obtain ⟨f0, -, -, -⟩ := box_two (box_new w6 #[.int .i64 0, .int .i64 0] 31)
    have hM7 := hM5.below c7
    have hr7 := hr5.below c7
    have ht7 := ht5.below (Nat.le_refl _) c7
    have hx7 := hx.lists.below d7
    have sS := refSame_any L L (.slice xa xn xc) (.slice a xn c) (w6.alloc (.cells #[.int .i64 0, .int .i64 0] 31)) (by have := hx7.at'; exact this) (hL.below b7).at' (by unfold maxLen; omega) hL.short
    rw [decide_eq_true rfl] at sS
    clear cV hx hb6 x5 hM5 hr5 ht5 u0 u1 u2 hx7 d7 c7
    go_wp2_with fail
    generalize w6.alloc (.cells #[.int .i64 0, .int .i64 0] 31) = w7 at *
    refine sS.mono ?_
    rintro e w8 ⟨rfl, q8, rfl⟩
    have d8 := below_drewN' (Below.refl w7.heap.size w7) q8
    have b8 := b7.trans (d8.mono b7.size)
    have hM8 := hM7.below d8
    have sR := same_any M M (.slice ra 32 rc) (.slice ta 32 tc) (w7.drewN q8) (hr7.below d8).at' (ht7.below (Nat.le_refl _) d8) (by unfold maxLen; omega)
    rw [decide_eq_true rfl] at sR
    have x8 : (w7.drewN q8).heap[w2.heap.size]? = some (.cells #[.int .i64 (xn : Int), .slice ra 32 rc, .slice sa sn sc] 28 (0, 0)) := x7
    obtain ⟨t0, t1, t2, -, -, -⟩ := box_three x8
    have qn : ((xn : Int) != (xn : Int)) = false := by simp
    clear sS hr7 ht7 x7 hM7 f0
    go_wp2_with fail
    generalize w7.drewN q8 = w8 at *
    refine sR.mono ?_
    rintro e w9 ⟨rfl, q9, rfl⟩
    have d9 := below_drewN' (Below.refl w8.heap.size w8) q9
    have b9 := b8.trans (d9.mono b8.size)
    have hM9 := hM8.below d9
    have x9 : (w8.drewN q9).heap[w2.heap.size]? = some (.cells #[.int .i64 (xn : Int), .slice ra 32 rc, .slice sa sn sc] 28 (0, 0)) := x8
    generalize w8.drewN q9 = w9 at *
    clear sR hM8 x8 t0 t1 t2 d8 d9 qn
    go_wp2_with fail
    go_loopw [69] (fun kv wr => ∃ k : Nat, k ≤ xn ∧ kv = .int .i64 k ∧ Below w9.heap.size w9 wr) (fun kv _ => xn - (intOf kv).toNat)
    case atStart => exact ⟨0, Nat.zero_le _, rfl, Below.refl _ _⟩
    case round =>
      obtain ⟨k, hk, rfl, hbr⟩ := hrel
      have hbw := b9.trans (hbr.mono b9.size)
      have hMr := hM9.below hbr
      obtain ⟨t0, t1, t2, -, -, -⟩ := box_three (box_kept x9 hbr)
      by_cases hlt : k < xn
      · have hlt' : (k : Int) < xn := by omega
        have hN := cN' wr _ k hlt hMr
        obtain ⟨b, off, pa, pc, rfl, hcj, hsj⟩ := hL.get k hlt
        have hb0 : b < w.heap.size := World.block_lt_of_cell? w ⟨b, off + k, none⟩ hcj
        have hsr := hbr.size
        clear cN' hM9 hMr h200 hm200 hL
        generalize L.getD k [] = D at *
        go_wp2_with fail
        refine hN.mono ?_
        rintro e wa ⟨v, rfl, hv, hba⟩
        obtain ⟨ea, ec, rfl⟩ := hv.at'.form
        have ca := hbr.trans (hba.mono hsr)
        have ba := b9.trans (ca.mono b9.size)
        have hcj' := (ba.cell (p := ⟨b, off + k, none⟩) hb0).trans hcj
        have sE := same_any D D _ _ wa hv.at' (hsj.below ba).at' hv.short
        rw [decide_eq_true rfl] at sE
        clear hN hv hsj hcj
        go_wp2_with fail
        refine sE.mono ?_
        rintro e wb ⟨rfl, qb, rfl⟩
        go_wp2_with fail
        go_roundw
        case rel => exact ⟨k + 1, by omega, by go_num, below_drewN' ca qb⟩
        case measure => simp [intOf]; omega
      · obtain rfl : k = xn := by omega
        have hnl : ¬ (k : Int) < k := by omega
        clear cN' hM9 hMr h200 hm200 hL
        go_wp2_with fail
        go_ret
        exact ⟨rfl, hbw⟩
  · have hE : exportL L = man0 := by unfold exportL; rw [if_pos h0]
    have cW := fun w' (h : Below w.heap.size w w') => hWr L a n c w' (hL.below h)
    rw [hE] at cE
    clear hL hlen
    generalize wrongL L = F at *
    obtain ⟨F1, F2⟩ := F
    dsimp only [faultV] at cE cW h0
    have i1 : (F1 != 0) = true := by simpa using h0
    go_enter Tryd.func4, Tryd.ntmps4
    go_wp2_with fail
    refine cA.mono ?_
    rintro e w1 ⟨rfl, b1⟩
    go_wp2_with fail
    refine (cE _ b1).mono ?_
    rintro e w2 ⟨mv, rfl, hM, hb2⟩
    have b2 := b1.trans (hb2.mono b1.size)
    obtain ⟨rv, sv, rfl, hr, sa, sc, rfl, hs1, hs2, hs3, hsc⟩ := hM
    obtain ⟨ra, rc, rfl⟩ := hr.at'.form
    have b3 : Below w.heap.size w ((w2.alloc (.cells #[.int .i64 0, .slice ra 0 rc, .slice sa 0 sc] 28)).alloc (.cells #[.int .i64 F1, .int .i64 F2] 31)) := (b2.alloc b2.size _).alloc (by have := b2.size; simp; omega) _
    have x3 := box_old _ (.cells #[.int .i64 F1, .int .i64 F2] 31) (box_new w2 #[.int .i64 0, .slice ra 0 rc, .slice sa 0 sc] 28)
    have y3 := box_last w2 (.cells #[.int .i64 0, .slice ra 0 rc, .slice sa 0 sc] 28) #[.int .i64 F1, .int .i64 F2] 31
    have z3 : ((w2.alloc (.cells #[.int .i64 0, .slice ra 0 rc, .slice sa 0 sc] 28)).alloc (.cells #[.int .i64 F1, .int .i64 F2] 31)).heap.size = w2.heap.size + 2 := by simp
    obtain ⟨p0, p1, -, -⟩ := box_two y3
    obtain ⟨u0, u1, u2, -, -, -⟩ := box_three x3
    clear hsc hr cA cE
    dsimp only [man0, List.length_nil]
    go_wp2_with fail
    generalize (w2.alloc (.cells #[.int .i64 0, .slice ra 0 rc, .slice sa 0 sc] 28)).alloc (.cells #[.int .i64 F1, .int .i64 F2] 31) = w3 at *
    generalize w2.heap.size = g at *
    go_region_with (first | (go_at_call 19; refine (cW _ b3.drew).mono ?_; rintro e w5 ⟨rfl, hb5⟩; obtain ⟨p0', p1', -, -⟩ := box_two (box_kept (w := w3.drew) y3 hb5); obtain ⟨u0', u1', u2', -, -, -⟩ := box_three (box_kept (w := w3.drew) x3 hb5)))
    all_goals
      have b5 := b3.drew.trans (hb5.mono b3.drew.size)
      go_wp2_with fail
      go_ret
      exact ⟨rfl, b5⟩

end Go.Proofs.YtbkkfchcdfhfgadDoor
