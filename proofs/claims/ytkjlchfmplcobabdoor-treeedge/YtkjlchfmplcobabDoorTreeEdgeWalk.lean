/- The walk of the law TreeEdge, over package tree's faces. -/
import Derived.Test.YtkjlchfmplcobabDoorProg
import Derived.Test.YtkjlchfmplcobabDoorTreeFaceEdge
import Derived.Test.YtkjlchfmplcobabDoorTreeAlive
import Derived.Test.YtkjlchfmplcobabDoorTreeGrowsWalk
import Derived.Test.YtkjlchfmplcobabDoorTreeRefOnes
import Derived.Test.YtkjlchfmplcobabDoorShaSame
import Derived.Test.YtkjlchfmplcobabDoorShaSum
import Derived.WalkKit
import Derived.WalkSpells
import Derived.WalkLawsBesides
import Derived.Deep.RegionHeld3
import Derived.BigRegion
import Derived.Deep.QuietTactic
import Derived.BigQuiet
namespace Go.Proofs.YtkjlchfmplcobabDoor
open Go.RowKit

theorem edge_bytes (ls : List (List Int)) : ∀ x ∈ edgeL ls, Bytes x := by
  by_cases h0 : ls.length = 0
  · rw [edgeL_nil h0]; intro d hd; cases hd
  · have hs := bigN_spec (n := ls.length) (by omega)
    have ih := edge_bytes (ls.drop (bigN ls.length))
    rw [edgeL_more h0]
    intro d hd
    rcases List.mem_cons.1 hd with h | h
    · rw [h]; exact bytes_mth _
    · exact ih d h
termination_by ls.length
decreasing_by rw [List.length_drop]; omega
theorem edge_right {ls : List (List Int)} {most : Int} (h : (ls.length : Int) ≤ most) : rightL ls.length most (edgeL ls) = true := by
  unfold rightL
  rw [Int.toNat_natCast, edge_length, goodL_digs.2 (edge_digs ls)]
  simp [h]
theorem push_edge {L : List (List Int)} {k : Nat} (hk : k < L.length) (h99 : k ≤ 99) (h200 : (L.getD k []).length ≤ 200) : pushE k (edgeL (L.take k)) (L.getD k []) = ((k : Int) + 1, 0, edgeL (L.take (k + 1))) := by
  have hl : (L.take k).length = k := by rw [List.length_take]; omega
  have hr := edge_right (ls := L.take k) (most := 99) (by rw [hl]; omega)
  rw [hl] at hr
  have he := edge_leaf (L.take k) (L.getD k [])
  rw [hl] at he
  have ht : L.take k ++ [L.getD k []] = L.take (k + 1) := by
    rw [List.take_succ_eq_append_getElem hk, List.getD_eq_getElem?_getD, List.getElem?_eq_getElem hk]; rfl
  rw [ht] at he
  unfold pushE
  rw [if_neg (by rw [hr]; simp), if_neg (by omega), Int.toNat_natCast, he]
theorem OwnParts.far {w w' : World} {base g : Nat} {v : Value} {L : List (List Int)} (h : OwnParts w base v L) (hg : g < base) (hw : w.grownBy w' (some g)) : OwnParts w' base v L := by
  have key : ∀ {e : TypeId} {x : Value} {n : Nat} {xs : List Value}, w.ownsRow base e 1 x n xs → w'.ownsRow base e 1 x n xs := fun {e x n xs} hr => hr.kept hw (by
    cases hq : x.ownBlock with
    | none => exact .inl rfl
    | some q => right; intro e; have := own_block hr hq; cases e; omega)
  obtain ⟨vs, h1, h2⟩ := h
  exact ⟨vs, key h1, fun j hj => by obtain ⟨y, h3, h4⟩ := h2 j hj; exact ⟨y, h3, key h4⟩⟩

set_option maxRecDepth 100000 in
set_option maxHeartbeats 2000000 in
theorem edge2_any (hRoot : RootC) (hPath : PathC) (hStands : StandsC) (hWrong : WrongC) (hPush : PushC) (hTop : TopC) (L : List (List Int)) (a : Option Addr) (n c : Nat) (w : World) (hR : Ready w) (hL : Lists w a n c L) :
    Calls Tryd.prog 5 #[.slice a n c] w fun e w' => e = .returned (.bool true) ∧ Below w.heap.size w w' := by
  have hcap := hL.cap
  have hroom := hL.room
  unfold maxLen at hcap
  have hfd : ∀ (W : World) (x y : Int), (Instr.field 27 (.agg #[.int .i64 x, .int .i64 y]) 0).run Tryd.prog W = .ok (.int .i64 x) W := fun _ _ _ => by kernel_rfl
  go_enter Tryd.func5, Tryd.ntmps5
  go_wp2_with fail
  refine (alive2_any hRoot hPath hStands _ hR).mono ?_
  rintro e w1 ⟨rfl, b1⟩
  go_wp2_with fail
  have cW := hWrong L a n c _ (hL.below b1)
  have HOK : Hid ((wrongL L).1 = 0 → L.length ≤ 100 ∧ ∀ j, (L.getD j []).length ≤ 200) := wrong_ok
  generalize wrongL L = F at cW HOK
  obtain ⟨F1, F2⟩ := F
  dsimp only [faultV] at cW HOK
  refine cW.mono ?_
  rintro e w2 ⟨rfl, hb2⟩
  have b2 := b1.trans (hb2.mono b1.size)
  by_cases hF : F1 ≠ 0
  · go_wp2_with fail
    go_ret
    exact ⟨rfl, b2⟩
  obtain rfl : F1 = 0 := by simpa using hF
  obtain ⟨hL100, hL200⟩ := HOK.out rfl
  have HN : Hid (L.length = n) := hL.len
  have hn100 : n ≤ 100 := by have := hL.len; omega
  have sw2 := b2.size
  obtain ⟨c2, e0, e1, se⟩ := box_cells w2 (.int .i64 0) (.slice none 0 0) 40
  obtain ⟨z0, z1⟩ := box_frozen w2 (.int .i64 0) (.slice none 0 0) 40
  have b3 := b2.trans (c2.mono sw2)
  clear cW HOK hF hb2
  go_wp2_with fail
  obtain ⟨ge, hge⟩ : ∃ ge, w2.heap.size = ge := ⟨_, rfl⟩
  rw [hge] at e0 e1 se z0 z1 sw2 ⊢
  clear c2 hge
  generalize w2.alloc (.cells #[.int .i64 0, .slice none 0 0] 40) = W at *
  go_loopw [18] (fun i wr => ∃ (k : Nat) (ea : Option Addr) (en ec : Nat), k ≤ n ∧ i = .int .i64 k ∧ wr.cell? ⟨ge, 0, none⟩ = some (.int .i64 k) ∧ wr.cell? ⟨ge, 1, none⟩ = some (.slice ea en ec) ∧ wr.frozen? ⟨ge, 0, none⟩ = false ∧ wr.frozen? ⟨ge, 1, none⟩ = false ∧ ge < wr.heap.size ∧
      Lists wr ea en ec (edgeL (L.take k)) ∧ Below w.heap.size w wr) (fun i _ => n - (intOf i).toNat)
  case atStart => exact ⟨0, none, 0, 0, Nat.zero_le _, rfl, e0, e1, z0, z1, se, by rw [List.take_zero, edgeL_nil rfl]; exact ⟨rfl, .inl ⟨rfl, none, 0, rfl⟩, Nat.le_refl _, Nat.zero_le _, fun _ => ⟨rfl, rfl⟩, fun j => by simpa using nil_bytes, fun j => by simp⟩, b3⟩
  case round =>
    clear e0 e1 z0 z1 se b3
    obtain ⟨k, ea, en, ec, hk, rfl, e0, e1, z0, z1, se, hE, hb⟩ := hrel
    by_cases hlt : k < n
    · have i1 : (k : Int) < (n : Int) := by omega
      obtain ⟨lb, lo, pa, pc, rfl, hcj, hS⟩ := (hL.below hb).get k hlt
      have cP : ∀ w', Below wr.heap.size wr w' → _ := fun w' h => hPush k (edgeL (L.take k)) (L.getD k []) _ ea en ec w' (hR.below (hb.trans (h.mono hb.size))) (hE.below h) (hS.below h)
      rw [push_edge (by have := HN.out; omega) (by omega) (hL200 k)] at cP
      dsimp only at cP
      clear hS hE
      generalize L.getD k [] = z at *
      go_wp2_with fail
      obtain ⟨aB, x0, x1, sx⟩ := box_cells wr (.int .i64 0) (.slice none 0 0) 40
      obtain ⟨v0, v1⟩ := box_frozen wr (.int .i64 0) (.slice none 0 0) 40
      have slb := World.block_lt_of_cell? _ _ hcj
      have n1 : wr.heap.size ≠ ge := by omega
      have n2 : wr.heap.size ≠ lb := by have h : lb < wr.heap.size := slb; omega
      have a0 := (aB.cell (p := ⟨ge, 0, none⟩) se).trans e0
      have a1 := (aB.cell (p := ⟨ge, 1, none⟩) se).trans e1
      have a2 := (aB.cell (p := ⟨lb, lo + k, none⟩) slb).trans hcj
      go_region_held3 (fun w' => w'.cell? ⟨ge, 0, none⟩ = some (.int .i64 (k : Int)) ∧ w'.cell? ⟨ge, 1, none⟩ = some (.slice ea en ec) ∧ w'.cell? ⟨lb, lo + k, none⟩ = some (.slice pa z.length pc)) (first | exact ⟨e0, e1, hcj⟩ | exact ⟨a0, a1, a2⟩ | exact ⟨y0, y1, y2⟩ | exact ⟨(World.cell?_setCell_far _ _ _ _ n1).trans ((World.cell?_setCell_far _ _ _ _ n1).trans y0), (World.cell?_setCell_far _ _ _ _ n1).trans ((World.cell?_setCell_far _ _ _ _ n1).trans y1), (World.cell?_setCell_far _ _ _ _ n2).trans ((World.cell?_setCell_far _ _ _ _ n2).trans y2)⟩ | exact ⟨(old_cell _ _ _ _ (Nat.lt_of_lt_of_le se b4.size)).trans y0, (old_cell _ _ _ _ (Nat.lt_of_lt_of_le se b4.size)).trans y1, (old_cell _ _ _ _ (Nat.lt_of_lt_of_le slb b4.size)).trans y2⟩ | (go_keep; done)) (first | (go_at_call 16; refine (cP _ (Below.refl _ _).drew).mono ?_; rintro e w4 ⟨xa, xn, xc, rfl, hx, hb4⟩; have b4 : Below wr.heap.size wr w4 := (Below.refl _ _).drew.trans hb4; have y0 := (b4.cell (p := ⟨ge, 0, none⟩) se).trans e0; have y1 := (b4.cell (p := ⟨ge, 1, none⟩) se).trans e1; have y2 := (b4.cell (p := ⟨lb, lo + k, none⟩) slb).trans hcj) | (go_at_call 16; refine (cP _ aB.drew).mono ?_; rintro e w4 ⟨xa, xn, xc, rfl, hx, hb4⟩; have b4 : Below wr.heap.size wr w4 := aB.drew.trans (hb4.mono aB.size); have y0 := (b4.cell (p := ⟨ge, 0, none⟩) se).trans e0; have y1 := (b4.cell (p := ⟨ge, 1, none⟩) se).trans e1; have y2 := (b4.cell (p := ⟨lb, lo + k, none⟩) slb).trans hcj; have q0 : w4.cell? ⟨wr.heap.size, 0, none⟩ = some (.int .i64 0) := (hb4.cell (p := ⟨wr.heap.size, 0, none⟩) sx).trans x0; have q1 : w4.cell? ⟨wr.heap.size, 1, none⟩ = some (.slice none 0 0) := (hb4.cell (p := ⟨wr.heap.size, 1, none⟩) sx).trans x1; have u0 : w4.frozen? ⟨wr.heap.size, 0, none⟩ = false := (hb4.frozen (p := ⟨wr.heap.size, 0, none⟩) sx).trans v0; have u1 : w4.frozen? ⟨wr.heap.size, 1, none⟩ = false := (hb4.frozen (p := ⟨wr.heap.size, 1, none⟩) sx).trans v1))
      · obtain ⟨cX, p0, p1, spx⟩ := box_cells w4 (.int .i64 ((k : Int) + 1)) (.slice xa xn xc) 40
        have hX := hx.below cX (Nat.le_refl _)
        have hgb : ge < wr.drew.heap.size := se
        have bX : Below w.heap.size w (w4.alloc (.cells #[.int .i64 ((k : Int) + 1), .slice xa xn xc] 40)) := hb.trans ((b4.trans (cX.mono b4.size)).mono hb.size)
        have sw4 : ge < w4.heap.size := Nat.lt_of_lt_of_le se b4.size
        have g0 := (cX.cell (p := ⟨ge, 0, none⟩) sw4).trans y0
        have g1 := (cX.cell (p := ⟨ge, 1, none⟩) sw4).trans y1
        have f0 := (cX.frozen (p := ⟨ge, 0, none⟩) sw4).trans ((b4.frozen (p := ⟨ge, 0, none⟩) se).trans z0)
        have f1 := (cX.frozen (p := ⟨ge, 1, none⟩) sw4).trans ((b4.frozen (p := ⟨ge, 1, none⟩) se).trans z1)
        have sX := Nat.lt_of_lt_of_le sw4 cX.size
        have hgx : w4.heap.size ≠ ge := by omega
        clear hx cX
        generalize hgX : w4.heap.size = gx at *
        generalize w4.alloc (.cells #[.int .i64 ((k : Int) + 1), .slice xa xn xc] 40) = X at *
        clear cP hb4 b4 y0 y1 y2 a0 a1 a2 aB e0 e1 z0 z1 hcj x0 x1 v0 v1
        have hx' := hX.far hgb (grownBy_setCell (grownBy_setCell (World.grownBy.refl X (some ge)) 0 (.int .i64 ((k : Int) + 1))) 1 (.slice xa xn xc))
        have bY : Below w.heap.size w ((X.setCell ⟨ge, 0, none⟩ (.int .i64 ((k : Int) + 1))).setCell ⟨ge, 1, none⟩ (.slice xa xn xc)) := (bX.setCell (by show w.heap.size ≤ ge; omega) _).setCell (by show w.heap.size ≤ ge; omega) _
        have d0 : ((X.setCell ⟨ge, 0, none⟩ (.int .i64 ((k : Int) + 1))).setCell ⟨ge, 1, none⟩ (.slice xa xn xc)).cell? ⟨ge, 0, none⟩ = some (.int .i64 ((k : Int) + 1)) := by rw [World.cell?_setCell_other _ _ _ _ (by intro e; injection e; omega)]; exact World.cell?_setCell_same _ _ _ g0
        have d1 : ((X.setCell ⟨ge, 0, none⟩ (.int .i64 ((k : Int) + 1))).setCell ⟨ge, 1, none⟩ (.slice xa xn xc)).cell? ⟨ge, 1, none⟩ = some (.slice xa xn xc) := World.cell?_setCell_same _ _ _ (by rw [World.cell?_setCell_other _ _ _ _ (by intro e; injection e; omega)]; exact g1)
        have d2 : ((X.setCell ⟨ge, 0, none⟩ (.int .i64 ((k : Int) + 1))).setCell ⟨ge, 1, none⟩ (.slice xa xn xc)).frozen? ⟨ge, 0, none⟩ = false := by rw [World.frozen?_setCell, World.frozen?_setCell]; exact f0
        have d3 : ((X.setCell ⟨ge, 0, none⟩ (.int .i64 ((k : Int) + 1))).setCell ⟨ge, 1, none⟩ (.slice xa xn xc)).frozen? ⟨ge, 1, none⟩ = false := by rw [World.frozen?_setCell, World.frozen?_setCell]; exact f1
        have sY : ge < ((X.setCell ⟨ge, 0, none⟩ (.int .i64 ((k : Int) + 1))).setCell ⟨ge, 1, none⟩ (.slice xa xn xc)).heap.size := Nat.lt_of_lt_of_le sX (grownBy_setCell (grownBy_setCell (World.grownBy.refl X (some ge)) 0 (.int .i64 ((k : Int) + 1))) 1 (.slice xa xn xc)).size
        clear hX
        go_wp2_with fail
        generalize ((X.setCell ⟨ge, 0, none⟩ (.int .i64 ((k : Int) + 1))).setCell ⟨ge, 1, none⟩ (.slice xa xn xc)) = Y at *
        have htl : (L.take (k + 1)).length = k + 1 := by rw [List.length_take]; have := HN.out; omega
        have cT := hRoot (L.take (k + 1)) _ (k + 1) c Y (hR.below bY) ((hL.below bY).take (by omega) (by omega))
        rw [wrong_zero (by omega) (take_short hL200 (k + 1))] at cT
        dsimp only [faultV] at cT
        have hEL := hx'.lists (edge_bytes _) (digs_short (edge_digs _))
        have hxn : xn = onesN (k + 1) := by
          obtain ⟨a', c', e', -, -⟩ := hx'.form
          have h1 : xn = (edgeL (L.take (k + 1))).length := by injection e'
          rw [h1, edge_length, htl]
        have cp : ∀ w', Below Y.heap.size Y w' → _ := fun w' h => hTop ((k : Int) + 1) (edgeL (L.take (k + 1))) xa xn xc w' (hR.below (bY.trans (h.mono bY.size))) (hEL.below h)
        have hri : rightL ((k : Int) + 1) 100 (edgeL (L.take (k + 1))) = true := by
          have := edge_right (ls := L.take (k + 1)) (most := 100) (by rw [htl]; omega)
          rw [htl] at this
          exact this
        rw [hri, if_pos rfl, if_pos rfl, edge_top] at cp
        have hm32 := mth_length (L.take (k + 1))
        have co : ∀ w1, Calls Tryd.prog 19 #[.int .i64 ((k : Int) + 1)] w1 fun e w' => e = .returned (.int .i64 (onesN (k + 1))) ∧ w' = w1 := fun w1 => refOnes_any (k + 1) w1 (by omega)
        rw [← hxn] at co
        have HEL : Hid (Lists Y xa xn xc (edgeL (L.take (k + 1)))) := hEL
        clear hx' hri hxn hEL
        generalize mth (L.take (k + 1)) = MT at *
        refine cT.mono ?_
        rintro e w5 ⟨oa, on, oc, rfl, ho, -, hb5⟩
        replace ho := ho (by trivial)
        obtain rfl : on = 32 := own_len ho
        obtain ⟨c5, h0, -, s5⟩ := box_cells w5 (.int .i64 0) (.int .i64 0) 27
        have b6 := hb5.trans (c5.mono hb5.size)
        have t0 := (b6.cell (p := ⟨ge, 0, none⟩) sY).trans d0
        have t1 := (b6.cell (p := ⟨ge, 1, none⟩) sY).trans d1
        have hoB := (bytesAt_own ho).below (Nat.le_refl _) c5
        clear cT ho hb5 c5
        go_wp2_with fail
        obtain ⟨gh, hgh⟩ : ∃ gh, w5.heap.size = gh := ⟨_, rfl⟩
        rw [hgh] at h0 s5 ⊢
        clear hgh
        generalize w5.alloc (.cells #[.int .i64 0, .int .i64 0] 27) = Z at *
        refine (cp _ b6).mono ?_
        rintro e w7 ⟨tv, rfl, hT, hb7⟩
        have b8 := b6.trans (hb7.mono b6.size)
        replace hoB := hoB.below (Nat.le_refl _) hb7
        replace h0 := (hb7.cell (p := ⟨gh, 0, none⟩) s5).trans h0
        replace t1 := (b8.cell (p := ⟨ge, 1, none⟩) sY).trans d1
        have cS : ∀ q, Calls Tryd.prog 18 #[.slice oa 32 oc, tv] (w7.drewN q) (fun e w' => e = .returned (.bool true) ∧ ∃ m, w' = (w7.drewN q).drewN m) := fun q => by
          have := same_any MT MT _ _ _ (hoB.below (Nat.le_refl _) (below_drewN (Below.refl _ _) q)) (hT.below (Nat.le_refl _) (below_drewN (Below.refl _ _) q)) (by rw [hm32]; unfold maxLen; omega)
          rwa [show decide (MT = MT) = true by simp] at this
        have k9 : IntKind.i64.wrap ((k : Int) + 1) = (k : Int) + 1 := by rw [IntKind.wrap_i64]; omega
        have j9 : ((xn : Int) != (xn : Int)) = false := by simp
        have m0 := (b8.cell (p := ⟨ge, 0, none⟩) sY).trans d0
        have m2 := (b8.frozen (p := ⟨ge, 0, none⟩) sY).trans d2
        have m3 := (b8.frozen (p := ⟨ge, 1, none⟩) sY).trans d3
        have sw7 := Nat.lt_of_lt_of_le sY b8.size
        have hEW := HEL.out.below b8
        have HEW : Hid (Lists w7 xa xn xc (edgeL (L.take (k + 1)))) := hEW
        have bW := bY.trans (b8.mono bY.size)
        clear cp b6 hb7 hoB hT t0 d0 d1 d2 d3 HEL hEW b8
        go_wp2_with fail
        go_quiet (first | (go_at_call 18; exact Calls.quiet_of (cS _)) | (go_at_call 19; exact Calls.quiet_of_same (co _)))
        go_wp2_with fail
        go_roundw
        case rel => exact ⟨k + 1, xa, xn, xc, by omega, by go_num, m0, t1, m2, m3, sw7, HEW.out.below (below_drewN (Below.refl _ _) _), below_drewN bW _⟩
        case measure => simp [intOf]; omega
      · have gS : w4.grownBy ((w4.setCell ⟨wr.heap.size, 0, none⟩ (.int .i64 ((k : Int) + 1))).setCell ⟨wr.heap.size, 1, none⟩ (.slice xa xn xc)) (some wr.heap.size) := grownBy_setCell (grownBy_setCell (World.grownBy.refl _ _) _ _) _ _
        have hX := hx.far sx gS
        have hgb : ge < (wr.alloc (.cells #[.int .i64 0, .slice none 0 0] 40)).drew.heap.size := Nat.lt_trans se sx
        have bX : Below w.heap.size w ((w4.setCell ⟨wr.heap.size, 0, none⟩ (.int .i64 ((k : Int) + 1))).setCell ⟨wr.heap.size, 1, none⟩ (.slice xa xn xc)) := ((hb.trans (b4.mono hb.size)).setCell hb.size _).setCell hb.size _
        have g0 : ((w4.setCell ⟨wr.heap.size, 0, none⟩ (.int .i64 ((k : Int) + 1))).setCell ⟨wr.heap.size, 1, none⟩ (.slice xa xn xc)).cell? ⟨ge, 0, none⟩ = some (.int .i64 k) := (World.cell?_setCell_far _ _ _ _ n1).trans ((World.cell?_setCell_far _ _ _ _ n1).trans y0)
        have g1 : ((w4.setCell ⟨wr.heap.size, 0, none⟩ (.int .i64 ((k : Int) + 1))).setCell ⟨wr.heap.size, 1, none⟩ (.slice xa xn xc)).cell? ⟨ge, 1, none⟩ = some (.slice ea en ec) := (World.cell?_setCell_far _ _ _ _ n1).trans ((World.cell?_setCell_far _ _ _ _ n1).trans y1)
        have f0 : ((w4.setCell ⟨wr.heap.size, 0, none⟩ (.int .i64 ((k : Int) + 1))).setCell ⟨wr.heap.size, 1, none⟩ (.slice xa xn xc)).frozen? ⟨ge, 0, none⟩ = false := by rw [World.frozen?_setCell, World.frozen?_setCell]; exact (b4.frozen (p := ⟨ge, 0, none⟩) se).trans z0
        have f1 : ((w4.setCell ⟨wr.heap.size, 0, none⟩ (.int .i64 ((k : Int) + 1))).setCell ⟨wr.heap.size, 1, none⟩ (.slice xa xn xc)).frozen? ⟨ge, 1, none⟩ = false := by rw [World.frozen?_setCell, World.frozen?_setCell]; exact (b4.frozen (p := ⟨ge, 1, none⟩) se).trans z1
        have p0 : ((w4.setCell ⟨wr.heap.size, 0, none⟩ (.int .i64 ((k : Int) + 1))).setCell ⟨wr.heap.size, 1, none⟩ (.slice xa xn xc)).cell? ⟨wr.heap.size, 0, none⟩ = some (.int .i64 ((k : Int) + 1)) := by rw [World.cell?_setCell_other _ _ _ _ (by intro e; injection e; omega)]; exact World.cell?_setCell_same _ _ _ q0
        have p1 : ((w4.setCell ⟨wr.heap.size, 0, none⟩ (.int .i64 ((k : Int) + 1))).setCell ⟨wr.heap.size, 1, none⟩ (.slice xa xn xc)).cell? ⟨wr.heap.size, 1, none⟩ = some (.slice xa xn xc) := World.cell?_setCell_same _ _ _ (by rw [World.cell?_setCell_other _ _ _ _ (by intro e; injection e; omega)]; exact q1)
        have sX : ge < ((w4.setCell ⟨wr.heap.size, 0, none⟩ (.int .i64 ((k : Int) + 1))).setCell ⟨wr.heap.size, 1, none⟩ (.slice xa xn xc)).heap.size := Nat.lt_of_lt_of_le (Nat.lt_of_lt_of_le se b4.size) gS.size
        have hgx : wr.heap.size ≠ ge := n1
        clear hx gS q0 q1 u0 u1
        generalize hgX : wr.heap.size = gx at *
        generalize ((w4.setCell ⟨gx, 0, none⟩ (.int .i64 ((k : Int) + 1))).setCell ⟨gx, 1, none⟩ (.slice xa xn xc)) = X at *
        clear cP hb4 b4 y0 y1 y2 a0 a1 a2 aB e0 e1 z0 z1 hcj x0 x1 v0 v1
        have hx' := hX.far hgb (grownBy_setCell (grownBy_setCell (World.grownBy.refl X (some ge)) 0 (.int .i64 ((k : Int) + 1))) 1 (.slice xa xn xc))
        have bY : Below w.heap.size w ((X.setCell ⟨ge, 0, none⟩ (.int .i64 ((k : Int) + 1))).setCell ⟨ge, 1, none⟩ (.slice xa xn xc)) := (bX.setCell (by show w.heap.size ≤ ge; omega) _).setCell (by show w.heap.size ≤ ge; omega) _
        have d0 : ((X.setCell ⟨ge, 0, none⟩ (.int .i64 ((k : Int) + 1))).setCell ⟨ge, 1, none⟩ (.slice xa xn xc)).cell? ⟨ge, 0, none⟩ = some (.int .i64 ((k : Int) + 1)) := by rw [World.cell?_setCell_other _ _ _ _ (by intro e; injection e; omega)]; exact World.cell?_setCell_same _ _ _ g0
        have d1 : ((X.setCell ⟨ge, 0, none⟩ (.int .i64 ((k : Int) + 1))).setCell ⟨ge, 1, none⟩ (.slice xa xn xc)).cell? ⟨ge, 1, none⟩ = some (.slice xa xn xc) := World.cell?_setCell_same _ _ _ (by rw [World.cell?_setCell_other _ _ _ _ (by intro e; injection e; omega)]; exact g1)
        have d2 : ((X.setCell ⟨ge, 0, none⟩ (.int .i64 ((k : Int) + 1))).setCell ⟨ge, 1, none⟩ (.slice xa xn xc)).frozen? ⟨ge, 0, none⟩ = false := by rw [World.frozen?_setCell, World.frozen?_setCell]; exact f0
        have d3 : ((X.setCell ⟨ge, 0, none⟩ (.int .i64 ((k : Int) + 1))).setCell ⟨ge, 1, none⟩ (.slice xa xn xc)).frozen? ⟨ge, 1, none⟩ = false := by rw [World.frozen?_setCell, World.frozen?_setCell]; exact f1
        have sY : ge < ((X.setCell ⟨ge, 0, none⟩ (.int .i64 ((k : Int) + 1))).setCell ⟨ge, 1, none⟩ (.slice xa xn xc)).heap.size := Nat.lt_of_lt_of_le sX (grownBy_setCell (grownBy_setCell (World.grownBy.refl X (some ge)) 0 (.int .i64 ((k : Int) + 1))) 1 (.slice xa xn xc)).size
        clear hX
        go_wp2_with fail
        generalize ((X.setCell ⟨ge, 0, none⟩ (.int .i64 ((k : Int) + 1))).setCell ⟨ge, 1, none⟩ (.slice xa xn xc)) = Y at *
        have htl : (L.take (k + 1)).length = k + 1 := by rw [List.length_take]; have := HN.out; omega
        have cT := hRoot (L.take (k + 1)) _ (k + 1) c Y (hR.below bY) ((hL.below bY).take (by omega) (by omega))
        rw [wrong_zero (by omega) (take_short hL200 (k + 1))] at cT
        dsimp only [faultV] at cT
        have hEL := hx'.lists (edge_bytes _) (digs_short (edge_digs _))
        have hxn : xn = onesN (k + 1) := by
          obtain ⟨a', c', e', -, -⟩ := hx'.form
          have h1 : xn = (edgeL (L.take (k + 1))).length := by injection e'
          rw [h1, edge_length, htl]
        have cp : ∀ w', Below Y.heap.size Y w' → _ := fun w' h => hTop ((k : Int) + 1) (edgeL (L.take (k + 1))) xa xn xc w' (hR.below (bY.trans (h.mono bY.size))) (hEL.below h)
        have hri : rightL ((k : Int) + 1) 100 (edgeL (L.take (k + 1))) = true := by
          have := edge_right (ls := L.take (k + 1)) (most := 100) (by rw [htl]; omega)
          rw [htl] at this
          exact this
        rw [hri, if_pos rfl, if_pos rfl, edge_top] at cp
        have hm32 := mth_length (L.take (k + 1))
        have co : ∀ w1, Calls Tryd.prog 19 #[.int .i64 ((k : Int) + 1)] w1 fun e w' => e = .returned (.int .i64 (onesN (k + 1))) ∧ w' = w1 := fun w1 => refOnes_any (k + 1) w1 (by omega)
        rw [← hxn] at co
        have HEL : Hid (Lists Y xa xn xc (edgeL (L.take (k + 1)))) := hEL
        clear hx' hri hxn hEL
        generalize mth (L.take (k + 1)) = MT at *
        refine cT.mono ?_
        rintro e w5 ⟨oa, on, oc, rfl, ho, -, hb5⟩
        replace ho := ho (by trivial)
        obtain rfl : on = 32 := own_len ho
        obtain ⟨c5, h0, -, s5⟩ := box_cells w5 (.int .i64 0) (.int .i64 0) 27
        have b6 := hb5.trans (c5.mono hb5.size)
        have t0 := (b6.cell (p := ⟨ge, 0, none⟩) sY).trans d0
        have t1 := (b6.cell (p := ⟨ge, 1, none⟩) sY).trans d1
        have hoB := (bytesAt_own ho).below (Nat.le_refl _) c5
        clear cT ho hb5 c5
        go_wp2_with fail
        obtain ⟨gh, hgh⟩ : ∃ gh, w5.heap.size = gh := ⟨_, rfl⟩
        rw [hgh] at h0 s5 ⊢
        clear hgh
        generalize w5.alloc (.cells #[.int .i64 0, .int .i64 0] 27) = Z at *
        refine (cp _ b6).mono ?_
        rintro e w7 ⟨tv, rfl, hT, hb7⟩
        have b8 := b6.trans (hb7.mono b6.size)
        replace hoB := hoB.below (Nat.le_refl _) hb7
        replace h0 := (hb7.cell (p := ⟨gh, 0, none⟩) s5).trans h0
        replace t1 := (b8.cell (p := ⟨ge, 1, none⟩) sY).trans d1
        have cS : ∀ q, Calls Tryd.prog 18 #[.slice oa 32 oc, tv] (w7.drewN q) (fun e w' => e = .returned (.bool true) ∧ ∃ m, w' = (w7.drewN q).drewN m) := fun q => by
          have := same_any MT MT _ _ _ (hoB.below (Nat.le_refl _) (below_drewN (Below.refl _ _) q)) (hT.below (Nat.le_refl _) (below_drewN (Below.refl _ _) q)) (by rw [hm32]; unfold maxLen; omega)
          rwa [show decide (MT = MT) = true by simp] at this
        have k9 : IntKind.i64.wrap ((k : Int) + 1) = (k : Int) + 1 := by rw [IntKind.wrap_i64]; omega
        have j9 : ((xn : Int) != (xn : Int)) = false := by simp
        have m0 := (b8.cell (p := ⟨ge, 0, none⟩) sY).trans d0
        have m2 := (b8.frozen (p := ⟨ge, 0, none⟩) sY).trans d2
        have m3 := (b8.frozen (p := ⟨ge, 1, none⟩) sY).trans d3
        have sw7 := Nat.lt_of_lt_of_le sY b8.size
        have hEW := HEL.out.below b8
        have HEW : Hid (Lists w7 xa xn xc (edgeL (L.take (k + 1)))) := hEW
        have bW := bY.trans (b8.mono bY.size)
        clear cp b6 hb7 hoB hT t0 d0 d1 d2 d3 HEL hEW b8
        go_wp2_with fail
        go_quiet (first | (go_at_call 18; exact Calls.quiet_of (cS _)) | (go_at_call 19; exact Calls.quiet_of_same (co _)))
        go_wp2_with fail
        go_roundw
        case rel => exact ⟨k + 1, xa, xn, xc, by omega, by go_num, m0, t1, m2, m3, sw7, HEW.out.below (below_drewN (Below.refl _ _) _), below_drewN bW _⟩
        case measure => simp [intOf]; omega
    · obtain rfl : k = n := by omega
      go_wp2_with fail
      go_ret
      exact ⟨rfl, hb⟩

end Go.Proofs.YtkjlchfmplcobabDoor
