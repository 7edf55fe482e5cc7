/- The walks of yearlaw6.one and yearlaw6.alive, over package book's faces. -/
import Derived.Test.YtkjlchfmplcobaeDoorProg
import Derived.Test.YtkjlchfmplcobaeDoorBookRefRec
import Derived.OwnWalk
import Derived.WalkKit
import Derived.WalkSpells
import Derived.WalkLawsBesides
namespace Go.Proofs.YtkjlchfmplcobaeDoor
open Go.RowKit

def zeros : List Int := List.replicate 32 0
theorem zeros_length : zeros.length = 32 := rfl
theorem zeros_bytes : Bytes zeros := by
  intro j
  unfold zeros
  rw [List.getD_eq_getElem?_getD, List.getElem?_replicate]
  split <;> exact ⟨by decide, by decide⟩
def oneR (n : Nat) : Rec := ⟨(n : Int), 10 * (n : Int), 10 * (n : Int) + 5, (n : Int), zeros⟩
theorem one_wrong {n : Nat} (h : n ≤ 7) : wrongRec (oneR n) = 0 := by
  unfold wrongRec oneR
  dsimp only
  rw [if_neg (by omega), if_neg (fun e => e zeros_length)]
set_option maxRecDepth 100000 in
set_option maxHeartbeats 1000000 in
theorem one_any (n : Nat) (w : World) (hn : n ≤ 100) :
    Calls Tryd.prog 48 #[.int .i64 (n : Int)] w fun e w' => ∃ v, e = .returned v ∧ RecV w' v (oneR n) ∧ Below w.heap.size w w' := by
  obtain ⟨i0, hi0, hz0, hz1, hz2⟩ := info_parts Tryd.info5b
  have b0 : Below w.heap.size w (w.alloc (.cells #[.int .i64 0, .int .i64 0, .int .i64 0, .int .i64 0, .slice none 0 0] 40)) := (Below.refl _ _).alloc (Nat.le_refl _) _
  have x0 := box_new w #[.int .i64 0, .int .i64 0, .int .i64 0, .int .i64 0, .slice none 0 0] 40
  have hs0 : (w.alloc (.cells #[.int .i64 0, .int .i64 0, .int .i64 0, .int .i64 0, .slice none 0 0] 40)).heap.size = w.heap.size + 1 := by simp
  go_enter Tryd.func48, Tryd.ntmps48
  go_wp2_with (at_make; refine wpList_make_full _ rfl _ _ 22 rfl (w.heap.size + 1) 5 i0 (.int .u8 0) 1 Tryd.underlying22 hi0 hz0 hz1 .i64 .i64 _ _ 32 rfl rfl rfl rfl (by rw [hz2]; omega) (by unfold maxLen; omega) (by simp) ?_; intro w3 hown hgrow; have x3 : w3.heap[w.heap.size]? = _ := (hgrow.block w.heap.size (by rw [hs0]; omega) (by simp)).trans x0; obtain ⟨c0, c1, c2, c3, c4⟩ := box_five x3; have f0 := frozen_of_row w3 w.heap.size 0 _ _ x3; have f1 := frozen_of_row w3 w.heap.size 1 _ _ x3; have f2 := frozen_of_row w3 w.heap.size 2 _ _ x3; have f3 := frozen_of_row w3 w.heap.size 3 _ _ x3; have f4 := frozen_of_row w3 w.heap.size 4 _ _ x3)
  have b3 : Below w.heap.size w w3 := b0.grown hgrow (by rw [hs0]; omega) (fun q h => by cases h)
  have hrow0 : w3.ownsRow (w.heap.size + 1) 5 1 (.slice (some ⟨w.heap.size + 1, 0, none⟩) 32 32) 32 (zeros.map (Value.int .u8)) := by
    have e : (madeCells (Value.int IntKind.u8 0).cells (32 * 1)).toList = zeros.map (Value.int .u8) := by
      show (madeCells #[Value.int IntKind.u8 0] (32 * 1)).toList = _
      rw [toList_madeCells_one, Nat.mul_one]
      unfold zeros
      simp
    rw [← e]
    have h := hown
    rw [hs0] at h
    exact h
  have hk : w.heap.size < w.heap.size + 1 := Nat.lt_succ_self _
  refine bodyPost_ret (v := .agg #[.int .i64 (n : Int), .int .i64 (10 * (n : Int)), .int .i64 (10 * (n : Int) + 5), .int .i64 (n : Int), .slice (some ⟨w.heap.size + 1, 0, none⟩) 32 32]) (by simp [results, Tryd.results48, go_sem, c0, c1, c2, c3, c4]) rfl ⟨_, rfl, ⟨_, _, rfl, ⟨?_, zeros_bytes, by show zeros.length ≤ maxLen; rw [zeros_length]; unfold maxLen; omega⟩⟩, ?_⟩
  · refine bytesAt_own (e := 5) (base := w.heap.size + 1) (n := 32) ?_
    exact ownsRow_setCell_below (ownsRow_setCell_below (ownsRow_setCell_below (ownsRow_setCell_below (ownsRow_setCell_below hrow0 hk _) hk _) hk _) hk _) hk _
  · exact ((((b3.setCell (Nat.le_refl _) _).setCell (Nat.le_refl _) _).setCell (Nat.le_refl _) _).setCell (Nat.le_refl _) _).setCell (Nat.le_refl _) _
/-- Two records, one behind the other. -/
theorem recs_two (w : World) (t : TypeId) (r1 r2 : Rec) (a1 a2 : Option Addr) (c1 c2 : Nat) (h1 : Some' w (.slice a1 r1.root.length c1) r1.root) (h2 : Some' w (.slice a2 r2.root.length c2) r2.root) :
    RecsAt (w.alloc (.cells #[.int .i64 r1.shard, .int .i64 r1.from', .int .i64 r1.to', .int .i64 r1.size, .slice a1 r1.root.length c1, .int .i64 r2.shard, .int .i64 r2.from', .int .i64 r2.to', .int .i64 r2.size, .slice a2 r2.root.length c2] t)) (.slice (some ⟨w.heap.size, 0, none⟩) 2 2) [r1, r2] := by
  have hb : Below w.heap.size w (w.alloc (.cells #[.int .i64 r1.shard, .int .i64 r1.from', .int .i64 r1.to', .int .i64 r1.size, .slice a1 r1.root.length c1, .int .i64 r2.shard, .int .i64 r2.from', .int .i64 r2.to', .int .i64 r2.size, .slice a2 r2.root.length c2] t)) := (Below.refl _ _).alloc (Nat.le_refl _) _
  refine ⟨_, 2, rfl, Nat.le_refl _, by unfold maxLen; omega, (fun e => by cases e), .inr ⟨w.heap.size, 0, rfl, by simp, fun j hj => ?_⟩⟩
  have hj2 : j < 2 := hj
  match j, hj2 with
  | 0, _ => exact ⟨new_cell w t _ 0 (by simp), new_cell w t _ 1 (by simp), new_cell w t _ 2 (by simp), new_cell w t _ 3 (by simp), a1, c1, new_cell w t _ 4 (by simp), h1.below hb⟩
  | 1, _ => exact ⟨new_cell w t _ 5 (by simp), new_cell w t _ 6 (by simp), new_cell w t _ 7 (by simp), new_cell w t _ 8 (by simp), a2, c2, new_cell w t _ 9 (by simp), h2.below hb⟩
def twoR : List Rec := [oneR 1, oneR 2]
theorem twoR_ok : wrongRecs twoR = (0, 0) := wrongRecs_none (by decide) (fun j hj => by
  have hj2 : j < 2 := hj
  match j, hj2 with
  | 0, _ => exact one_wrong (n := 1) (by omega)
  | 1, _ => exact one_wrong (n := 2) (by omega))
set_option maxRecDepth 100000 in
set_option maxHeartbeats 2000000 in
theorem alive6_any (hBy : RecBytesC) (hPa : RecParseC) (hHe : BookHeadC) (w : World) (hR : Ready w) :
    Calls Tryd.prog 27 #[] w fun e w' => e = .returned (.bool true) ∧ Below w.heap.size w w' := by
  have h3 := one_wrong (n := 3) (by omega)
  have hE3 : bytesE (oneR 3) = rowL (oneR 3) := by unfold bytesE; rw [if_neg (fun e => e h3)]
  have hl3 := row_length h3
  have hb3 := row_bytes h3 zeros_bytes
  have hp3 := parse_row h3
  have cO1 := one_any 3 w (by omega)
  have cO2 := fun w' => one_any 1 w' (by omega)
  have cO3 := fun w' => one_any 2 w' (by omega)
  have cB := fun w' v (h : RecV w' v (oneR 3)) => hBy (oneR 3) v w' h
  rw [h3, hE3] at cB
  have cP := fun w' ba bc (h : Some' w' (.slice ba (rowL (oneR 3)).length bc) (rowL (oneR 3))) h1 h2 => hPa (rowL (oneR 3)) ba bc w' h h1 h2
  rw [hp3] at cP
  have cH := fun w' lv (hr : Ready w') (h : RecsAt w' lv twoR) => hHe twoR lv w' hr h
  have hbs : bookSize twoR = 2 := by unfold bookSize; rw [twoR_ok, if_neg (fun h => h rfl)]; rfl
  have hbr : (bookRoot twoR).length = 32 := by unfold bookRoot; rw [twoR_ok, if_neg (fun h => h rfl)]; exact mth_length _
  rw [twoR_ok, hbs, hbr] at cH
  dsimp only [faultV] at cH cP
  rw [hl3] at cP
  go_enter Tryd.func27, Tryd.ntmps27
  go_wp2_with fail
  refine cO1.mono ?_
  rintro e w1 ⟨v1, rfl, hv1, b1⟩
  have cB1 := cB _ _ hv1
  clear cO1 cB hv1
  go_wp2_with fail
  refine cB1.mono ?_
  rintro e w2 ⟨xa, xn, xc, rfl, hx, hb2⟩
  have b2 := b1.trans (hb2.mono b1.size)
  obtain rfl : xn = 40 := by have := hx.1; rw [List.length_map, hl3] at this; omega
  obtain ⟨xa', xc', ex, hc1, hc2⟩ := own_cap hx
  cases ex
  have hxs : Some' w2 (.slice xa 40 xc) (rowL (oneR 3)) := ⟨bytesAt_own hx, hb3, by rw [hl3]; unfold maxLen; omega⟩
  have cP1 := cP _ _ _ hxs hc1 hc2
  clear cB1 cP hx hxs
  go_wp2_with fail
  refine cP1.mono ?_
  rintro e w3 ⟨v3, rfl, ⟨ra, rc, rfl, -⟩, hb3'⟩
  have b3 := b2.trans (hb3'.mono b2.size)
  have y3 := box_new w3 #[.int .i64 (oneR 3).shard, .int .i64 (oneR 3).from', .int .i64 (oneR 3).to', .int .i64 (oneR 3).size, .slice ra (oneR 3).root.length rc] 40
  have b4 : Below w.heap.size w (w3.alloc (.cells #[.int .i64 (oneR 3).shard, .int .i64 (oneR 3).from', .int .i64 (oneR 3).to', .int .i64 (oneR 3).size, .slice ra (oneR 3).root.length rc] 40)) := b3.alloc b3.size _
  clear cP1
  go_wp2_with fail
  generalize w3.alloc (.cells #[.int .i64 (oneR 3).shard, .int .i64 (oneR 3).from', .int .i64 (oneR 3).to', .int .i64 (oneR 3).size, .slice ra (oneR 3).root.length rc] 40) = w4 at *
  refine (cO2 w4).mono ?_
  rintro e w5 ⟨v5, rfl, ⟨ra5, rc5, rfl, hr5⟩, hb5⟩
  have b5 := b4.trans (hb5.mono b4.size)
  go_wp2_with fail
  refine (cO3 w5).mono ?_
  rintro e w6 ⟨v6, rfl, ⟨ra6, rc6, rfl, hr6⟩, hb6⟩
  have b6 := b5.trans (hb6.mono b5.size)
  have hrt := recs_two w6 40 (oneR 1) (oneR 2) ra5 ra6 rc5 rc6 (hr5.below hb6) hr6
  have b7 := b6.alloc b6.size (.cells #[.int .i64 (oneR 1).shard, .int .i64 (oneR 1).from', .int .i64 (oneR 1).to', .int .i64 (oneR 1).size, .slice ra5 (oneR 1).root.length rc5, .int .i64 (oneR 2).shard, .int .i64 (oneR 2).from', .int .i64 (oneR 2).to', .int .i64 (oneR 2).size, .slice ra6 (oneR 2).root.length rc6] 40)
  have y7 := box_old _ (.cells #[.int .i64 (oneR 1).shard, .int .i64 (oneR 1).from', .int .i64 (oneR 1).to', .int .i64 (oneR 1).size, .slice ra5 (oneR 1).root.length rc5, .int .i64 (oneR 2).shard, .int .i64 (oneR 2).from', .int .i64 (oneR 2).to', .int .i64 (oneR 2).size, .slice ra6 (oneR 2).root.length rc6] 40) (box_kept (box_kept y3 hb5) hb6)
  have cH1 := cH _ _ (hR.below b7) hrt
  clear cO2 cO3 cH hrt hr5 hr6 b5 b6 hb5 hb6
  go_wp2_with fail
  generalize w6.alloc (.cells #[.int .i64 (oneR 1).shard, .int .i64 (oneR 1).from', .int .i64 (oneR 1).to', .int .i64 (oneR 1).size, .slice ra5 (oneR 1).root.length rc5, .int .i64 (oneR 2).shard, .int .i64 (oneR 2).from', .int .i64 (oneR 2).to', .int .i64 (oneR 2).size, .slice ra6 (oneR 2).root.length rc6] 40) = w7 at *
  refine cH1.mono ?_
  rintro e w8 ⟨ra8, rc8, rfl, -, hb8⟩
  have b8 := b7.trans (hb8.mono b7.size)
  have b9 : Below w.heap.size w ((w8.alloc (.cells #[.int .i64 2, .slice ra8 32 rc8] 24)).alloc (.cells #[.int .i64 0, .int .i64 0] 32)) := (b8.alloc b8.size _).alloc (by have := b8.size; simp; omega) _
  have y9 := box_old _ (.cells #[.int .i64 0, .int .i64 0] 32) (box_old _ (.cells #[.int .i64 2, .slice ra8 32 rc8] 24) (box_kept y7 hb8))
  obtain ⟨t0, t1, -, -⟩ := box_two (box_one w8 #[.int .i64 2, .slice ra8 32 rc8] 24 (.cells #[.int .i64 0, .int .i64 0] 32))
  obtain ⟨u0, u1, -, -⟩ := box_two (box_last w8 (.cells #[.int .i64 2, .slice ra8 32 rc8] 24) #[.int .i64 0, .int .i64 0] 32)
  obtain ⟨s0, s1, -, -, -⟩ := box_five y9
  replace s1 : _ = some (Value.int .i64 30) := s1
  clear cH1 y7 y9 hb8
  go_wp2_with fail
  go_ret
  exact ⟨rfl, b9⟩

end Go.Proofs.YtkjlchfmplcobaeDoor
