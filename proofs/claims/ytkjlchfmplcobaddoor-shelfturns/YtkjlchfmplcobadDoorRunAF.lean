/- ShelfTurnsWalk, ShelfSegs, ShelfGoSmall, as one text. -/
import Derived.Test.YtkjlchfmplcobadDoorProg
import Derived.Test.YtkjlchfmplcobadDoorRunAE
import Derived.WalkKit
import Derived.WalkSpells
import Derived.WalkLawsBesides
import Derived.Deep.RegionWith
import Derived.BigRegion
import Derived.Test.YtkjlchfmplcobadDoorRunAD
import Derived.Deep.AppendLies
import Derived.Laws.AppendOwnNone
import Derived.Deep.QuietTactic
import Derived.BigQuiet
/- The walk of the law ShelfTurns, over the faces of packages tree and shelf. -/
namespace Go.Proofs.YtkjlchfmplcobadDoor
open Go.RowKit

set_option maxRecDepth 100000 in
set_option maxHeartbeats 4000000 in
theorem shelfTurns_any (hWr : WrongC) (hRoot : RootC) (hEx : ExportC) (hVe : VerifyC) (hEn : EntryC) (L : List (List Int)) (a : Option Addr) (n c : Nat) (w : World) (hR : Ready w) (hL : Lists w a n c L) :
    Calls Tryd.prog 4 #[.slice a n c] w fun e w' => e = .returned (.bool true) ∧ Below w.heap.size w w' := by
  have hcap := hL.cap
  have hroom := hL.room
  have hlen := hL.len
  unfold maxLen at hcap
  have cA := alive5_any hEx hVe hEn w hR
  have cE := fun w' (h : Below w.heap.size w w') => hEx L a n c w' (hR.below h) (hL.below h)
  by_cases h0 : (wrongL L).1 = 0
  · obtain ⟨h100, h200⟩ := wrong_ok h0
    have hm200 := mem_short h200
    have he := wrong_zero h100 h200
    have hE : exportL L = ⟨L.length, mth L, segsL L⟩ := by unfold exportL; rw [if_neg (fun h => h h0)]
    have cR := fun w' (h : Below w.heap.size w w') => hRoot L a n c w' (hR.below h) (hL.below h)
    have cV := fun w' mv (h : Below w.heap.size w w') (hm : ManAt w' mv ⟨L.length, mth L, segsL L⟩) => hVe _ mv w' (hR.below h) hm
    have cN := fun w' mv (i : Nat) (hi : i < L.length) (hm : ManAt w' mv ⟨L.length, mth L, segsL L⟩) => hEn _ i mv w' hm (by omega)
    rw [verify_export h100 hm200] at cV
    have cN' : ∀ w' mv (i : Nat), i < L.length → ManAt w' mv ⟨L.length, mth L, segsL L⟩ → Calls Tryd.prog 13 #[mv, .int .i64 i] w' fun e w'' => ∃ v, e = .returned (.tuple #[v, .int .i64 0]) ∧ Some' w'' v (L.getD i []) ∧ Below w'.heap.size w' w'' := fun w' mv i hi hm => by
      have := cN w' mv i hi hm
      rwa [entry_export h100 hm200 hi] at this
    rw [hE, he] at cE
    rw [he] at cR
    have hml := mth_length L
    have hmb := bytes_mth L
    dsimp only [faultV] at cE cR cV
    clear h0 he hE cN
    rw [hlen] at cE cV cN' h100
    generalize mth L = M at *
    generalize segsL L = SG at *
    go_enter Tryd.func4, Tryd.ntmps4
    go_wp2_with fail
    refine cA.mono ?_
    rintro e w1 ⟨rfl, b1⟩
    go_wp2_with fail
    refine (cE _ b1).mono ?_
    rintro e w2 ⟨mv, rfl, hM, hb2⟩
    have b2 := b1.trans (hb2.mono b1.size)
    obtain ⟨rv, sv, rfl, hr, sa, sc, rfl, hs1, hs2, hs3, hsc⟩ := hM
    obtain ⟨ra, rc, rfl⟩ := hr.at'.form
    have hM : ManAt w2 (.agg #[.int .i64 (n : Int), .slice ra M.length rc, .slice sa SG.length sc]) ⟨(n : Int), M, SG⟩ := ⟨_, _, rfl, hr, sa, sc, rfl, hs1, hs2, hs3, hsc⟩
    dsimp only at hr
    rw [hml] at hM hr ⊢
    generalize SG.length = sn at *
    have d3 : Below w2.heap.size w2 ((w2.alloc (.cells #[.int .i64 (n : Int), .slice ra 32 rc, .slice sa sn sc] 28)).alloc (.cells #[.int .i64 0, .int .i64 0] 31)) := ((Below.refl _ _).alloc (Nat.le_refl _) _).alloc (by simp) _
    have b3 := b2.trans (d3.mono b2.size)
    have x3 := box_old _ (.cells #[.int .i64 0, .int .i64 0] 31) (box_new w2 #[.int .i64 (n : Int), .slice ra 32 rc, .slice sa sn sc] 28)
    obtain ⟨p0, p1, -, -⟩ := box_two (box_last w2 (.cells #[.int .i64 (n : Int), .slice ra 32 rc, .slice sa sn sc] 28) #[.int .i64 0, .int .i64 0] 31)
    have hM3 := hM.below d3
    have hr3 := hr.below d3
    clear hsc hM hr cA cE
    go_wp2_with fail
    generalize (w2.alloc (.cells #[.int .i64 (n : Int), .slice ra 32 rc, .slice sa sn sc] 28)).alloc (.cells #[.int .i64 0, .int .i64 0] 31) = w3 at *
    clear p0 p1 d3
    refine (cR _ b3).mono ?_
    rintro e w4 ⟨ta, tn, tc, rfl, ht, -, hb4⟩
    replace ht := ht (by trivial)
    obtain rfl := own_len ht
    have d5 : Below w4.heap.size w4 (w4.alloc (.cells #[.int .i64 0, .int .i64 0] 31)) := (Below.refl _ _).alloc (Nat.le_refl _) _
    have c5 := hb4.trans (d5.mono hb4.size)
    have b5 := b3.trans (c5.mono b3.size)
    have x5 := box_old _ (.cells #[.int .i64 0, .int .i64 0] 31) (box_kept x3 hb4)
    have hM5 := hM3.below c5
    have hr5 := hr3.below c5
    have ht5 := (bytesAt_own ht).below (Nat.le_refl _) d5
    obtain ⟨u0, u1, u2, -, -, -⟩ := box_three x5
    clear cR ht hM3 hr3 x3 hb4 d5 c5
    go_wp2_with fail
    generalize w4.alloc (.cells #[.int .i64 0, .int .i64 0] 31) = w5 at *
    refine (cV _ _ b5 hM5).mono ?_
    rintro e w6 ⟨xa, xn, xc, rfl, hx, hb6⟩
    have hxl := hx.lists.len
    obtain rfl : xn = n := by omega
    have d7 : Below w6.heap.size w6 (w6.alloc (.cells #[.int .i64 0, .int .i64 0] 31)) := (Below.refl _ _).alloc (Nat.le_refl _) _
    have c7 := hb6.trans (d7.mono hb6.size)
    have b7 := b5.trans (c7.mono b5.size)
    have x7 := box_old _ (.cells #[.int .i64 0, .int .i64 0] 31) (box_kept x5 hb6)
    obtain ⟨f0, -, -, -⟩ := box_two (box_new w6 #[.int .i64 0, .int .i64 0] 31)
    have hM7 := hM5.below c7
    have hr7 := hr5.below c7
    have ht7 := ht5.below (Nat.le_refl _) c7
    have hx7 := hx.lists.below d7
    have sS := refSame_any L L (.slice xa xn xc) (.slice a xn c) (w6.alloc (.cells #[.int .i64 0, .int .i64 0] 31)) (by have := hx7.at'; exact this) (hL.below b7).at' (by unfold maxLen; omega) hL.short
    rw [decide_eq_true rfl] at sS
    clear cV hx hb6 x5 hM5 hr5 ht5 u0 u1 u2 hx7 d7 c7
    go_wp2_with fail
    generalize w6.alloc (.cells #[.int .i64 0, .int .i64 0] 31) = w7 at *
    refine sS.mono ?_
    rintro e w8 ⟨rfl, q8, rfl⟩
    have d8 := below_drewN' (Below.refl w7.heap.size w7) q8
    have b8 := b7.trans (d8.mono b7.size)
    have hM8 := hM7.below d8
    have sR := same_any M M (.slice ra 32 rc) (.slice ta 32 tc) (w7.drewN q8) (hr7.below d8).at' (ht7.below (Nat.le_refl _) d8) (by unfold maxLen; omega)
    rw [decide_eq_true rfl] at sR
    have x8 : (w7.drewN q8).heap[w2.heap.size]? = some (.cells #[.int .i64 (xn : Int), .slice ra 32 rc, .slice sa sn sc] 28 (0, 0)) := x7
    obtain ⟨t0, t1, t2, -, -, -⟩ := box_three x8
    have qn : ((xn : Int) != (xn : Int)) = false := by simp
    clear sS hr7 ht7 x7 hM7 f0
    go_wp2_with fail
    generalize w7.drewN q8 = w8 at *
    refine sR.mono ?_
    rintro e w9 ⟨rfl, q9, rfl⟩
    have d9 := below_drewN' (Below.refl w8.heap.size w8) q9
    have b9 := b8.trans (d9.mono b8.size)
    have hM9 := hM8.below d9
    have x9 : (w8.drewN q9).heap[w2.heap.size]? = some (.cells #[.int .i64 (xn : Int), .slice ra 32 rc, .slice sa sn sc] 28 (0, 0)) := x8
    generalize w8.drewN q9 = w9 at *
    clear sR hM8 x8 t0 t1 t2 d8 d9 qn
    go_wp2_with fail
    go_loopw [69] (fun kv wr => ∃ k : Nat, k ≤ xn ∧ kv = .int .i64 k ∧ Below w9.heap.size w9 wr) (fun kv _ => xn - (intOf kv).toNat)
    case atStart => exact ⟨0, Nat.zero_le _, rfl, Below.refl _ _⟩
    case round =>
      obtain ⟨k, hk, rfl, hbr⟩ := hrel
      have hbw := b9.trans (hbr.mono b9.size)
      have hMr := hM9.below hbr
      obtain ⟨t0, t1, t2, -, -, -⟩ := box_three (box_kept x9 hbr)
      by_cases hlt : k < xn
      · have hlt' : (k : Int) < xn := by omega
        have hN := cN' wr _ k hlt hMr
        obtain ⟨b, off, pa, pc, rfl, hcj, hsj⟩ := hL.get k hlt
        have hb0 : b < w.heap.size := World.block_lt_of_cell? w ⟨b, off + k, none⟩ hcj
        have hsr := hbr.size
        clear cN' hM9 hMr h200 hm200 hL
        generalize L.getD k [] = D at *
        go_wp2_with fail
        refine hN.mono ?_
        rintro e wa ⟨v, rfl, hv, hba⟩
        obtain ⟨ea, ec, rfl⟩ := hv.at'.form
        have ca := hbr.trans (hba.mono hsr)
        have ba := b9.trans (ca.mono b9.size)
        have hcj' := (ba.cell (p := ⟨b, off + k, none⟩) hb0).trans hcj
        have sE := same_any D D _ _ wa hv.at' (hsj.below ba).at' hv.short
        rw [decide_eq_true rfl] at sE
        clear hN hv hsj hcj
        go_wp2_with fail
        refine sE.mono ?_
        rintro e wb ⟨rfl, qb, rfl⟩
        go_wp2_with fail
        go_roundw
        case rel => exact ⟨k + 1, by omega, by go_num, below_drewN' ca qb⟩
        case measure => simp [intOf]; omega
      · obtain rfl : k = xn := by omega
        have hnl : ¬ (k : Int) < k := by omega
        clear cN' hM9 hMr h200 hm200 hL
        go_wp2_with fail
        go_ret
        exact ⟨rfl, hbw⟩
  · have hE : exportL L = man0 := by unfold exportL; rw [if_pos h0]
    have cW := fun w' (h : Below w.heap.size w w') => hWr L a n c w' (hL.below h)
    rw [hE] at cE
    clear hL hlen
    generalize wrongL L = F at *
    obtain ⟨F1, F2⟩ := F
    dsimp only [faultV] at cE cW h0
    have i1 : (F1 != 0) = true := by simpa using h0
    go_enter Tryd.func4, Tryd.ntmps4
    go_wp2_with fail
    refine cA.mono ?_
    rintro e w1 ⟨rfl, b1⟩
    go_wp2_with fail
    refine (cE _ b1).mono ?_
    rintro e w2 ⟨mv, rfl, hM, hb2⟩
    have b2 := b1.trans (hb2.mono b1.size)
    obtain ⟨rv, sv, rfl, hr, sa, sc, rfl, hs1, hs2, hs3, hsc⟩ := hM
    obtain ⟨ra, rc, rfl⟩ := hr.at'.form
    have b3 : Below w.heap.size w ((w2.alloc (.cells #[.int .i64 0, .slice ra 0 rc, .slice sa 0 sc] 28)).alloc (.cells #[.int .i64 F1, .int .i64 F2] 31)) := (b2.alloc b2.size _).alloc (by have := b2.size; simp; omega) _
    have x3 := box_old _ (.cells #[.int .i64 F1, .int .i64 F2] 31) (box_new w2 #[.int .i64 0, .slice ra 0 rc, .slice sa 0 sc] 28)
    have y3 := box_last w2 (.cells #[.int .i64 0, .slice ra 0 rc, .slice sa 0 sc] 28) #[.int .i64 F1, .int .i64 F2] 31
    have z3 : ((w2.alloc (.cells #[.int .i64 0, .slice ra 0 rc, .slice sa 0 sc] 28)).alloc (.cells #[.int .i64 F1, .int .i64 F2] 31)).heap.size = w2.heap.size + 2 := by simp
    obtain ⟨p0, p1, -, -⟩ := box_two y3
    obtain ⟨u0, u1, u2, -, -, -⟩ := box_three x3
    clear hsc hr cA cE
    dsimp only [man0, List.length_nil]
    go_wp2_with fail
    generalize (w2.alloc (.cells #[.int .i64 0, .slice ra 0 rc, .slice sa 0 sc] 28)).alloc (.cells #[.int .i64 F1, .int .i64 F2] 31) = w3 at *
    generalize w2.heap.size = g at *
    go_region_with (first | (go_at_call 19; refine (cW _ b3.drew).mono ?_; rintro e w5 ⟨rfl, hb5⟩; obtain ⟨p0', p1', -, -⟩ := box_two (box_kept (w := w3.drew) y3 hb5); obtain ⟨u0', u1', u2', -, -, -⟩ := box_three (box_kept (w := w3.drew) x3 hb5)))
    all_goals
      have b5 := b3.drew.trans (hb5.mono b3.drew.size)
      go_wp2_with fail
      go_ret
      exact ⟨rfl, b5⟩

end Go.Proofs.YtkjlchfmplcobadDoor

/- Segments as rows of a call's own; parts of lists. -/
namespace Go.Proofs.YtkjlchfmplcobadDoor
open Go.RowKit

theorem Tryd.info55b : (Tryd.prog.info? 55).map (fun i => (i.zero, i.size, i.bytes)) = some (some (.agg #[.int .i64 0, .int .i64 0, .slice none 0 0]), 3, 40) := by kernel_rfl
theorem Lists.part {w : World} {b off n c i m : Nat} {L : List (List Int)} (h : Lists w (some ⟨b, off, none⟩) n c L) (hi : i + m ≤ n) (hm : 1 ≤ m) : Lists w (some ⟨b, off + i, none⟩) m (c - i) ((L.drop i).take m) := by
  have hl := h.len
  have hr := h.room
  have hc := h.cap
  have hd := h.at'.drop (k := i) hl (by omega) (by omega) (c - i)
  refine ⟨by rw [List.length_take, List.length_drop]; omega, hd.take (by rw [List.length_drop]; omega) (by omega) (by omega) _, by omega, by omega, fun e => (by cases e), ?_, ?_⟩
  · refine take_bytes (fun j => ?_) m
    rw [List.getD_eq_getElem?_getD, List.getElem?_drop, ← List.getD_eq_getElem?_getD]; exact h.bytes _
  · refine take_short (fun j => ?_) m
    rw [List.getD_eq_getElem?_getD, List.getElem?_drop, ← List.getD_eq_getElem?_getD]; exact h.short _
theorem own3_below {w w' : World} {base : Nat} {e : TypeId} {v : Value} {n N : Nat} {xs : List Value} (h : w.ownsRow base e 3 v n xs) (hb : Below N w w') (hN : w.heap.size ≤ N) : w'.ownsRow base e 3 v n xs :=
  h.kept (w' := w') (row := none) ⟨hb.os, hb.tape, hb.output, hb.size, fun k hk _ => hb.block k (Nat.lt_of_lt_of_le hk hN)⟩ (by cases v.ownBlock <;> simp)
theorem own_ne3 {w : World} {base b2 : Nat} {e1 e2 : TypeId} {v1 v2 : Value} {n1 n2 : Nat} {xs1 xs2 : List Value} (h1 : w.ownsRow base e1 1 v1 n1 xs1) (h2 : w.ownsRow b2 e2 3 v2 n2 xs2) (hne : e1 ≠ e2) : Sep v1 v2 := fun g hg1 hg2 => by
  rcases h1.2 with ⟨rfl, -⟩ | ⟨g1, c1, cur1, rfl, -, hh1, -⟩
  · cases hg1
  rcases h2.2 with ⟨rfl, -⟩ | ⟨g2, c2, cur2, rfl, -, hh2, -⟩
  · cases hg2
  cases hg1
  cases hg2
  rw [hh1] at hh2
  cases hh2
  exact hne rfl
/-- The values of segments, each with bytes of the call's own. -/
def SegEls (w : World) (base : Nat) (vs : List Value) (l : List Seg) : Prop :=
  vs.length = l.length * 3 ∧ ∀ j, j < l.length → vs[j * 3]? = some (.int .i64 (l.getD j seg0).first) ∧ vs[j * 3 + 1]? = some (.int .i64 (l.getD j seg0).count) ∧
    ∃ y, vs[j * 3 + 2]? = some y ∧ w.ownsRow base 5 1 y (l.getD j seg0).packed.length ((l.getD j seg0).packed.map (Value.int .u8))
theorem SegEls.kept {w w' : World} {base b2 : Nat} {vs : List Value} {l : List Seg} {v : Value} {n : Nat} {xs : List Value} (h : SegEls w base vs l) (hr : w.ownsRow b2 55 3 v n xs) (hg : w.grownBy w' v.ownBlock) : SegEls w' base vs l :=
  ⟨h.1, fun j hj => by
    obtain ⟨h0, h1, y, h2, h3⟩ := h.2 j hj
    exact ⟨h0, h1, y, h2, h3.kept hg (own_ne3 h3 hr (by decide)).or⟩⟩
theorem SegEls.alloc {w : World} {base : Nat} {vs : List Value} {l : List Seg} (h : SegEls w base vs l) (o : Obj) : SegEls (w.alloc o) base vs l :=
  ⟨h.1, fun j hj => by
    obtain ⟨h0, h1, y, h2, h3⟩ := h.2 j hj
    exact ⟨h0, h1, y, h2, h3.alloc o⟩⟩
theorem SegEls.below {w w' : World} {base N : Nat} {vs : List Value} {l : List Seg} (h : SegEls w base vs l) (hb : Below N w w') (hN : w.heap.size ≤ N) : SegEls w' base vs l :=
  ⟨h.1, fun j hj => by
    obtain ⟨h0, h1, y, h2, h3⟩ := h.2 j hj
    exact ⟨h0, h1, y, h2, own_below h3 hb hN⟩⟩
theorem SegEls.snoc {w : World} {base : Nat} {vs : List Value} {l : List Seg} {s : Seg} {y : Value} (h : SegEls w base vs l) (hy : w.ownsRow base 5 1 y s.packed.length (s.packed.map (Value.int .u8))) : SegEls w base (vs ++ [.int .i64 s.first, .int .i64 s.count, y]) (l ++ [s]) := by
  obtain ⟨hl, h⟩ := h
  refine ⟨by simp; omega, fun j hj => ?_⟩
  by_cases e : j < l.length
  · obtain ⟨h0, h1, z, h2, h3⟩ := h j e
    have eg : (l ++ [s]).getD j seg0 = l.getD j seg0 := by rw [List.getD_eq_getElem?_getD, List.getElem?_append_left e, ← List.getD_eq_getElem?_getD]
    rw [eg, List.getElem?_append_left (by omega), List.getElem?_append_left (by omega), List.getElem?_append_left (by omega)]
    exact ⟨h0, h1, z, h2, h3⟩
  · obtain rfl : j = l.length := by simp at hj; omega
    have eg : (l ++ [s]).getD l.length seg0 = s := by rw [List.getD_eq_getElem?_getD, List.getElem?_append_right (Nat.le_refl _), Nat.sub_self]; rfl
    rw [eg, List.getElem?_append_right (by omega), List.getElem?_append_right (by omega), List.getElem?_append_right (by omega), hl, Nat.sub_self, show l.length * 3 + 1 - l.length * 3 = 1 by omega, show l.length * 3 + 2 - l.length * 3 = 2 by omega]
    exact ⟨rfl, rfl, y, rfl, hy⟩
theorem segEls_nil (w : World) (base : Nat) : SegEls w base [] [] := ⟨rfl, fun _ hj => absurd hj (Nat.not_lt_zero _)⟩
/-- Segments, all of them the call's own. -/
def OwnSegs (w : World) (base : Nat) (v : Value) (l : List Seg) : Prop := ∃ vs, w.ownsRow base 55 3 v l.length vs ∧ SegEls w base vs l
theorem OwnSegs.below {w w' : World} {base N : Nat} {v : Value} {l : List Seg} (h : OwnSegs w base v l) (hb : Below N w w') (hN : w.heap.size ≤ N) : OwnSegs w' base v l := by
  obtain ⟨vs, h1, h2⟩ := h
  exact ⟨vs, own3_below h1 hb hN, h2.below hb hN⟩
theorem OwnSegs.set {w : World} {base k o : Nat} {v : Value} {l : List Seg} (h : OwnSegs w base v l) (hk : k < base) (u : Value) : OwnSegs (w.setCell ⟨k, o, none⟩ u) base v l := by
  obtain ⟨vs, h1, h2, h3⟩ := h
  refine ⟨vs, ownsRow_setCell_below h1 (a := ⟨k, o, none⟩) hk u, h2, fun j hj => ?_⟩
  obtain ⟨g0, g1, y, g2, g3⟩ := h3 j hj
  exact ⟨g0, g1, y, g2, ownsRow_setCell_below g3 (a := ⟨k, o, none⟩) hk u⟩
theorem OwnSegs.segs {w : World} {base : Nat} {v : Value} {l : List Seg} (h : OwnSegs w base v l) (hby : SegsBytes l) : SegsAt w v l := by
  obtain ⟨vs, h1, -, h2⟩ := h
  rcases h1.2 with ⟨hv, hn⟩ | ⟨g, cap, cur, rfl, -, hg, h3, h4, -⟩
  · exact ⟨none, 0, by rw [hv, hn], by omega, Nat.zero_le _, fun _ => rfl, .inl hn⟩
  · refine ⟨_, cap, rfl, h3, h4, (fun e => by cases e), .inr ⟨g, 0, rfl, lt_heap hg, fun j hj => ?_⟩⟩
    obtain ⟨g0, g1, y, g2, g3⟩ := h2 j hj
    rw [Nat.zero_add]
    refine ⟨(h1.cellAt (j * 3) (by omega)).trans g0, (h1.cellAt (j * 3 + 1) (by omega)).trans g1, ?_⟩
    obtain ⟨pa, pc, rfl, q1, q2⟩ := own_cap g3
    exact ⟨pa, pc, (h1.cellAt (j * 3 + 2) (by omega)).trans g2, ⟨bytesAt_own g3, hby j, by omega⟩, q1, q2⟩
/-- Each segment's bytes lie in a later block than those of the one ahead. -/
def RiseV (vs : List Value) (m : Nat) : Prop := ∀ i j, i < j → j < m → ∀ y z g h, vs[i * 3 + 2]? = some y → vs[j * 3 + 2]? = some z → y.ownBlock = some g → z.ownBlock = some h → g < h
theorem riseV_nil : RiseV [] 0 := fun _ _ _ h => absurd h (Nat.not_lt_zero _)
theorem RiseV.snoc {w : World} {base m : Nat} {vs : List Value} {l : List Seg} {a b y : Value} (h : RiseV vs m) (he : SegEls w base vs l) (hm : l.length = m) (hy : ∀ g, y.ownBlock = some g → w.heap.size ≤ g) : RiseV (vs ++ [a, b, y]) (m + 1) := fun i j hij hj u z g q hu hz hg hq => by
  have hl : vs.length = m * 3 := by rw [← hm]; exact he.1
  rw [List.getElem?_append_left (by omega)] at hu
  by_cases e : j < m
  · rw [List.getElem?_append_left (by omega)] at hz
    exact h i j hij e u z g q hu hz hg hq
  · obtain rfl : j = m := by omega
    rw [List.getElem?_append_right (by omega), hl, show j * 3 + 2 - j * 3 = 2 by omega] at hz
    cases hz
    obtain ⟨-, -, x, h1, h2⟩ := he.2 i (by omega)
    rw [hu] at h1
    cases h1
    have := (h2.lt g hg).2
    have := hy q hq
    omega
theorem lit_seg (w : World) (x y : Int) (pv : Value) (t : TypeId) : ∀ (j : Nat) (u : Value), [Value.int .i64 x, .int .i64 y, pv][j]? = some u → (w.alloc (.cells #[.int .i64 x, .int .i64 y, pv] t)).cell? ((⟨w.heap.size, 0, none⟩ : Addr).add j) = some u := fun j u hj => by
  have hadd : (⟨w.heap.size, 0, none⟩ : Addr).add j = ⟨w.heap.size, 0 + j, none⟩ := Addr.add_mid _ _ _
  rw [hadd, Nat.zero_add]
  match j, hj with
  | 0, hj => rw [new_cell w t _ 0 (by simp)]; simpa using hj
  | 1, hj => rw [new_cell w t _ 1 (by simp)]; simpa using hj
  | 2, hj => rw [new_cell w t _ 2 (by simp)]; simpa using hj
  | j + 3, hj => simp at hj
theorem segK_bytes {L : List (List Int)} (hb : ∀ j, Bytes (L.getD j [])) (h : ∀ e ∈ L, e.length ≤ 200) (k : Nat) : Bytes (segK L k).packed := by
  refine pack_bytes ?_ (lay_part h k)
  refine bytes_of_mem (fun x hx => ?_)
  unfold layL at hx
  obtain ⟨e, he, hx⟩ := List.mem_flatMap.1 hx
  have h200 := short_part h k e he
  rcases List.mem_cons.1 hx with rfl | hx
  · omega
  · obtain ⟨j, hj, rfl⟩ := List.mem_iff_getElem.1 (List.mem_of_mem_drop (List.mem_of_mem_take he))
    have := hb j
    rw [List.getD_eq_getElem?_getD, List.getElem?_eq_getElem hj] at this
    exact bytes_forall this x hx
theorem segsL_bytes {L : List (List Int)} (hb : ∀ j, Bytes (L.getD j [])) (h : ∀ e ∈ L, e.length ≤ 200) : SegsBytes (segsL L) := fun j => by
  by_cases hj : j < (L.length + 7) / 8
  · unfold segsL; rw [segsN_get _ _ _ hj]; exact segK_bytes hb h j
  · rw [List.getD_eq_getElem?_getD, List.getElem?_eq_none (by unfold segsL; rw [segsN_length]; omega)]; exact nil_bytes
/-- The text of a part. -/
theorem lay_bytes {l : List (List Int)} (hb : ∀ j, Bytes (l.getD j [])) (h : ∀ j, (l.getD j []).length ≤ 200) : Bytes (layL l) := by
  refine bytes_of_mem (fun x hx => ?_)
  unfold layL at hx
  obtain ⟨e, he, hx⟩ := List.mem_flatMap.1 hx
  obtain ⟨j, hj, rfl⟩ := List.mem_iff_getElem.1 he
  have h1 := hb j
  have h2 := h j
  rw [List.getD_eq_getElem?_getD, List.getElem?_eq_getElem hj] at h1 h2
  rcases List.mem_cons.1 hx with rfl | hx
  · simp at h2; omega
  · exact bytes_forall h1 x hx

end Go.Proofs.YtkjlchfmplcobadDoor

/- The walks of isSize, segmentsFor, countFrom and fits: package shelf as it landed. -/
namespace Go.Proofs.YtkjlchfmplcobadDoor
open Go.RowKit

def sizeB (n : Int) : Bool := decide (0 ≤ n ∧ n ≤ 100)
theorem sizeB_true {n : Int} (h0 : 0 ≤ n) (h1 : n ≤ 100) : sizeB n = true := decide_eq_true ⟨h0, h1⟩
theorem sizeB_false {n : Int} (h : ¬ (0 ≤ n ∧ n ≤ 100)) : sizeB n = false := decide_eq_false h
set_option maxRecDepth 100000 in
theorem isSize_any (n : Int) (w : World) : Calls Tryd.prog 35 #[.int .i64 n] w fun e w' => e = .returned (.bool (sizeB n)) ∧ w' = w := by
  by_cases h0 : 0 ≤ n
  · by_cases h1 : n ≤ 100
    · have e : sizeB n = true := sizeB_true h0 h1
      rw [e]
      clear e
      go_enter Tryd.func35, Tryd.ntmps35
      go_wp2
      go_ret
      exact ⟨rfl, rfl⟩
    · have e : sizeB n = false := sizeB_false (by omega)
      rw [e]
      clear e
      go_enter Tryd.func35, Tryd.ntmps35
      go_wp2
      go_ret
      exact ⟨rfl, rfl⟩
  · have e : sizeB n = false := sizeB_false (by omega)
    rw [e]
    clear e
    go_enter Tryd.func35, Tryd.ntmps35
    go_wp2
    go_ret
    exact ⟨rfl, rfl⟩
theorem ret_int' {k : IntKind} {a b : Int} (h : a = b) : Ending.returned (.int k a) = .returned (.int k b) := by rw [h]
set_option maxRecDepth 100000 in
theorem segmentsFor_any (n : Int) (w : World) (h0 : 0 ≤ n) (h1 : n ≤ 100) : Calls Tryd.prog 36 #[.int .i64 n] w fun e w' => e = .returned (.int .i64 ((n + 7) / 8)) ∧ w' = w := by
  go_enter Tryd.func36, Tryd.ntmps36
  go_wp2
  go_ret
  exact ⟨ret_int' (by omega), rfl⟩
set_option maxRecDepth 100000 in
theorem countFrom_any (f s : Int) (w : World) (h0 : 0 ≤ f) (h1 : f ≤ 1000) (h2 : 0 ≤ s) (h3 : s ≤ 1000) : Calls Tryd.prog 47 #[.int .i64 f, .int .i64 s] w fun e w' => e = .returned (.int .i64 (min 8 (s - f))) ∧ w' = w := by
  by_cases h : s - f < 8
  · rw [show min 8 (s - f) = s - f by omega]
    go_enter Tryd.func47, Tryd.ntmps47
    go_wp2
    go_ret
    exact ⟨rfl, rfl⟩
  · rw [show min 8 (s - f) = 8 by omega]
    go_enter Tryd.func47, Tryd.ntmps47
    go_wp2
    go_ret
    exact ⟨rfl, rfl⟩
set_option maxRecDepth 100000 in
set_option maxHeartbeats 2000000 in
theorem segFits_any (f c k size : Int) (pv : Value) (p : List Int) (w : World) (hk : 0 ≤ k) : Calls Tryd.prog 30 #[.agg #[.int .i64 f, .int .i64 c, pv], .int .i64 k, .int .i64 size] w fun e w' => e = .returned (.bool (fitB size k ⟨f, c, p⟩)) ∧ Below w.heap.size w w' := by
  have hS := isSize_any size
  have hb := box_new w #[.int .i64 f, .int .i64 c, pv] 55
  obtain ⟨x0, x1, x2, -, -, -⟩ := box_three hb
  have bW : Below w.heap.size w (w.alloc (.cells #[.int .i64 f, .int .i64 c, pv] 55)) := (Below.refl _ _).alloc (Nat.le_refl _) _
  clear hb
  by_cases h1 : 0 ≤ size ∧ size ≤ 100
  · rw [sizeB_true h1.1 h1.2] at hS
    by_cases h2 : k ≤ 100
    · by_cases h3 : f = k * 8
      · subst h3
        by_cases h4 : 1 ≤ c
        · have hC := fun W => countFrom_any (k * 8) size W (by omega) (by omega) h1.1 (by omega)
          by_cases h5 : c = min 8 (size - k * 8)
          · have e : fitB size k ⟨k * 8, c, p⟩ = true := fitB_iff.2 ⟨h1.1, h1.2, h2, rfl, h4, h5⟩
            have hC' : ∀ W, Calls Tryd.prog 47 #[.int .i64 (k * 8), .int .i64 size] W fun e w' => e = .returned (.int .i64 c) ∧ w' = W := fun W => by have := hC W; rwa [← h5] at this
            have hcc : (c == c) = true := by simp
            rw [e]
            clear e h5 hC
            go_enter Tryd.func30, Tryd.ntmps30
            go_wp2_with fail
            go_quiet ((first | (go_at_call 35; exact Calls.quiet_of_same (hS _)) | (go_at_call 47; exact Calls.quiet_of_same (hC' _))))
            go_wp2_with fail
            go_ret
            exact ⟨rfl, below_drewN' bW _⟩
          · have e : fitB size k ⟨k * 8, c, p⟩ = false := by rw [Bool.eq_false_iff]; intro h; exact h5 (fitB_iff.1 h).2.2.2.2.2
            obtain ⟨q, hq⟩ : ∃ q, q = min 8 (size - k * 8) := ⟨_, rfl⟩
            rw [← hq] at hC h5
            have h5' : (c == q) = false := by simpa using h5
            rw [e]
            clear e h5 hq
            go_enter Tryd.func30, Tryd.ntmps30
            go_wp2_with fail
            go_quiet ((first | (go_at_call 35; exact Calls.quiet_of_same (hS _)) | (go_at_call 47; exact Calls.quiet_of_same (hC _))))
            go_wp2_with fail
            go_ret
            exact ⟨rfl, below_drewN' bW _⟩
        · have e : fitB size k ⟨k * 8, c, p⟩ = false := by rw [Bool.eq_false_iff]; intro h; exact h4 (fitB_iff.1 h).2.2.2.2.1
          have h4' : decide (1 ≤ c) = false := decide_eq_false h4
          rw [e]
          clear e
          go_enter Tryd.func30, Tryd.ntmps30
          go_wp2_with fail
          go_quiet ((go_at_call 35; exact Calls.quiet_of_same (hS _)))
          go_wp2_with fail
          go_ret
          exact ⟨rfl, below_drewN' bW _⟩
      · have e : fitB size k ⟨f, c, p⟩ = false := by rw [Bool.eq_false_iff]; intro h; exact h3 (fitB_iff.1 h).2.2.2.1
        have h3' : (f == k * 8) = false := by simpa using h3
        rw [e]
        clear e h3
        go_enter Tryd.func30, Tryd.ntmps30
        go_wp2_with fail
        go_quiet ((go_at_call 35; exact Calls.quiet_of_same (hS _)))
        go_wp2_with fail
        go_ret
        exact ⟨rfl, below_drewN' bW _⟩
    · have e : fitB size k ⟨f, c, p⟩ = false := by rw [Bool.eq_false_iff]; intro h; exact h2 (fitB_iff.1 h).2.2.1
      have h2' : decide (k ≤ 100) = false := decide_eq_false h2
      rw [e]
      clear e
      go_enter Tryd.func30, Tryd.ntmps30
      go_wp2_with fail
      go_quiet ((go_at_call 35; exact Calls.quiet_of_same (hS _)))
      go_wp2_with fail
      go_ret
      exact ⟨rfl, below_drewN' bW _⟩
  · rw [sizeB_false h1] at hS
    have e : fitB size k ⟨f, c, p⟩ = false := by rw [Bool.eq_false_iff]; intro h; have := fitB_iff.1 h; exact h1 ⟨this.1, this.2.1⟩
    rw [e]
    clear e h1
    go_enter Tryd.func30, Tryd.ntmps30
    go_wp2_with fail
    go_quiet ((go_at_call 35; exact Calls.quiet_of_same (hS _)))
    go_wp2_with fail
    go_ret
    exact ⟨rfl, below_drewN' bW _⟩

end Go.Proofs.YtkjlchfmplcobadDoor
