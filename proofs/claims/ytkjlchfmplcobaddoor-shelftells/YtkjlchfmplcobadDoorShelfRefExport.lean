/- The walk of yearref5.Export. -/
import Derived.Test.YtkjlchfmplcobadDoorProg
import Derived.Test.YtkjlchfmplcobadDoorRunAA
import Derived.Test.YtkjlchfmplcobadDoorPackRefWrite
import Derived.Test.YtkjlchfmplcobadDoorRunAF
import Derived.WalkKit
import Derived.WalkSpells
import Derived.WalkLawsBesides
import Derived.Deep.RegionWith
import Derived.BigRegion
namespace Go.Proofs.YtkjlchfmplcobadDoor
open Go.RowKit

theorem SegEls.far {w : World} {base k o : Nat} {vs : List Value} {l : List Seg} {cs : Array Value} {t : TypeId} {mk : Nat × Nat} (h : SegEls w base vs l) (hk : w.heap[k]? = some (.cells cs t mk)) (hne : t ≠ 5) (u : Value) : SegEls (w.setCell ⟨k, o, none⟩ u) base vs l :=
  ⟨h.1, fun j hj => by
    obtain ⟨h0, h1, y, h2, h3⟩ := h.2 j hj
    exact ⟨h0, h1, y, h2, ownsRow_setCell_other h3 (a := ⟨k, o, none⟩) (fun e => own_apart h3 hne hk e.symm) u⟩⟩
theorem OwnSegs.far {w : World} {base k o : Nat} {v : Value} {l : List Seg} {cs : Array Value} {t : TypeId} {mk : Nat × Nat} (h : OwnSegs w base v l) (hk : w.heap[k]? = some (.cells cs t mk)) (hne : t ≠ 5) (hns : t ≠ 55) (u : Value) : OwnSegs (w.setCell ⟨k, o, none⟩ u) base v l := by
  obtain ⟨vs, h1, h2⟩ := h
  exact ⟨vs, ownsRow_setCell_other h1 (a := ⟨k, o, none⟩) (fun e => own_apart h1 hns hk e.symm) u, h2.far hk hne u⟩
set_option maxRecDepth 100000 in
set_option maxHeartbeats 8000000 in
theorem refExport_any (L : List (List Int)) (a : Option Addr) (n c : Nat) (w : World) (hL : Lists w a n c L) :
    Calls Tryd.prog 8 #[.slice a n c] w fun e w' => ∃ mv, e = .returned (.tuple #[mv, faultV (wrongL L)]) ∧ ManAt w' mv (exportL L) ∧ Below w.heap.size w w' := by
  obtain ⟨i0, hi0, hz0, hz1, hz2⟩ := info_parts Tryd.info55b
  have hcap := hL.cap
  have hroom := hL.room
  have hlen := hL.len
  unfold maxLen at hcap
  have b0 : Below w.heap.size w ((w.alloc (.cells #[.int .i64 0, .slice none 0 0, .slice none 0 0] 28)).alloc (.cells #[.int .i64 0, .int .i64 0] 31)) := ((Below.refl _ _).alloc (Nat.le_refl _) _).alloc (by simp) _
  have hR := refWrong_any L (.slice a n c) _ (hL.below b0).at' (by rw [hlen]; unfold maxLen; omega) hL.short
  have x0 := box_old _ (.cells #[.int .i64 0, .int .i64 0] 31) (box_new w #[.int .i64 0, .slice none 0 0, .slice none 0 0] 28)
  have y0 := box_last w (.cells #[.int .i64 0, .slice none 0 0, .slice none 0 0] 28) #[.int .i64 0, .int .i64 0] 31
  have z0 : ((w.alloc (.cells #[.int .i64 0, .slice none 0 0, .slice none 0 0] 28)).alloc (.cells #[.int .i64 0, .int .i64 0] 31)).heap.size = w.heap.size + 2 := by simp
  by_cases h0 : (wrongL L).1 = 0
  · obtain ⟨h100, h200⟩ := wrong_ok h0
    have hm200 := mem_short h200
    have he := wrong_zero h100 h200
    have hE : exportL L = ⟨L.length, mth L, segsL L⟩ := by unfold exportL; rw [if_neg (fun h => h h0)]
    rw [he] at hR ⊢
    rw [hE, hlen]
    have hsb : SegsBytes (segsL L) := segsL_bytes hL.bytes hm200
    have hmb := bytes_mth L
    have hml := mth_length L
    have hM := fun w' (h : Below w.heap.size w w') => mth_any n L a c w' hlen (by omega) (hL.below h).at' hroom (by unfold maxLen; omega) hL.bytes (fun j => by have := h200 j; omega)
    clear hE he h0
    dsimp only at hR
    generalize mth L = M at *
    go_enter Tryd.func8, Tryd.ntmps8
    go_wp2_with fail
    generalize (w.alloc (.cells #[.int .i64 0, .slice none 0 0, .slice none 0 0] 28)).alloc (.cells #[.int .i64 0, .int .i64 0] 31) = w0 at *
    refine hR.mono ?_
    rintro e w1 ⟨rfl, hb1⟩
    have b1 : Below w.heap.size w w1 := b0.trans (hb1.mono b0.size)
    have hs1 := hb1.size
    have x1 := box_old _ (.cells #[.int .i64 0, .int .i64 0] 31) (box_kept x0 hb1)
    have y1 := box_old _ (.cells #[.int .i64 0, .int .i64 0] 31) (box_kept y0 hb1)
    have b2 : Below w.heap.size w (w1.alloc (.cells #[.int .i64 0, .int .i64 0] 31)) := b1.alloc b1.size _
    have hM2 := hM _ b2
    clear hR x0 y0 b0 b1 hM
    go_wp2_with fail
    generalize w1.alloc (.cells #[.int .i64 0, .int .i64 0] 31) = w2 at *
    refine hM2.mono ?_
    rintro e w3 ⟨x, rfl, ho, hb3⟩
    obtain ⟨xa, xc, rfl⟩ := own_form' ho
    have b3 := b2.trans (hb3.mono b2.size)
    have x3 := box_old _ (.cells #[.int .i64 n, .slice xa 32 xc, .slice none 0 0] 28) (box_kept x1 hb3)
    have y3 := box_old _ (.cells #[.int .i64 n, .slice xa 32 xc, .slice none 0 0] 28) (box_kept y1 hb3)
    have v3 := box_new w3 #[.int .i64 n, .slice xa 32 xc, .slice none 0 0] 28
    have ho3 := ownsRow_base (ho.alloc (.cells #[.int .i64 n, .slice xa 32 xc, .slice none 0 0] 28)) b2.size
    have hg2 : w.heap.size + 1 < w2.heap.size := lt_heap y1
    have ho4 := ho.alloc (.cells #[.int .i64 n, .slice xa 32 xc, .slice none 0 0] 28)
    have b4 : Below w.heap.size w (w3.alloc (.cells #[.int .i64 n, .slice xa 32 xc, .slice none 0 0] 28)) := b3.alloc b3.size _
    have hg3 : w2.heap.size ≤ w3.heap.size := hb3.size
    clear hM2 x1 y1 b3 ho ho3
    go_wp2_with fail
    generalize w3.alloc (.cells #[.int .i64 n, .slice xa 32 xc, .slice none 0 0] 28) = w4 at *
    obtain ⟨B5, hB5⟩ : ∃ B5, B5 = w3.heap.size := ⟨_, rfl⟩
    rw [← hB5] at v3 hg3 ⊢
    clear hB5
    go_loopw [6] (fun fv wr => ∃ (k : Nat) (va : Option Addr) (vc : Nat) (vs : List Value), 8 * k ≤ n + 7 ∧ fv = .int .i64 ((8 * k : Nat) : Int) ∧ wr.heap[B5]? = some (.cells #[.int .i64 n, .slice xa 32 xc, .slice va k vc] 28 (0, 0)) ∧ wr.ownsRow w.heap.size 55 3 (.slice va k vc) k vs ∧ SegEls wr w.heap.size vs (segsN L k) ∧ wr.ownsRow w2.heap.size 5 1 (.slice xa 32 xc) 32 (M.map (Value.int .u8)) ∧ wr.heap[w.heap.size]? = some (.cells #[.int .i64 0, .slice none 0 0, .slice none 0 0] 28 (0, 0)) ∧ wr.heap[w.heap.size + 1]? = some (.cells #[.int .i64 0, .int .i64 0] 31 (0, 0)) ∧ Below w.heap.size w wr) (fun fv _ => n + 8 - (intOf fv).toNat)
    case atStart => exact ⟨0, none, 0, [], by omega, rfl, v3, World.ownsRow_nil _ _ _ _, segEls_nil _ _, ho4, x3, y3, b4⟩
    case round =>
      obtain ⟨wo, rfl⟩ : ∃ x, x = wr := ⟨wr, rfl⟩
      obtain ⟨k, va, vc, vs, hk, rfl, vo, hrow, hels, hoo, xo, yo, hbr⟩ := hrel
      have hsr := hbr.size
      clear v3 ho4 x3 y3 b4
      by_cases hlt : 8 * k < n
      · obtain ⟨b, off, pa, pc, rfl, -, -⟩ := hL.get (8 * k) hlt
        obtain ⟨q, Hq⟩ : ∃ q : Nat, Hid (q = min 8 (n - 8 * k)) := ⟨_, rfl⟩
        have hq1 : 1 ≤ q := by have := Hq.out; omega
        have hq8 : q ≤ 8 := by have := Hq.out; omega
        have hqn : 8 * k + q ≤ n := by have := Hq.out; omega
        have hpart : ((L.drop (8 * k)).take q) = ((L.drop (8 * k)).take 8) := by
          rw [Hq.out, ← hlen, ← List.length_drop, Nat.min_comm, ← List.take_take, List.take_of_length_le (by rw [List.length_take]; omega)]
        have HSK : Hid (segK L k = ⟨((8 * k : Nat) : Int), (q : Int), packL (layL ((L.drop (8 * k)).take 8))⟩) := by show _ = _; unfold segK; rw [hlen, ← Hq.out]
        have hLp := (hL.below hbr).part hqn hq1
        rw [hpart] at hLp
        have hdg : ∀ j, (((L.drop (8 * k)).take 8).getD j []).length ≤ 200 := take_short (fun j => by rw [List.getD_eq_getElem?_getD, List.getElem?_drop, ← List.getD_eq_getElem?_getD]; exact h200 _) 8
        have hW := refLay_any _ _ _ _ _ hLp hdg hq8
        have hX1 := lay_bytes hLp.bytes hdg
        have hX2 := lay_part hm200 k
        have hsn := segsN_snoc L k
        rw [HSK.out] at hsn
        have HSN : Hid (segsN L (k + 1) = segsN L k ++ [⟨((8 * k : Nat) : Int), (q : Int), packL (layL ((L.drop (8 * k)).take 8))⟩]) := hsn
        generalize layL ((L.drop (8 * k)).take 8) = X at *
        have hP : ∀ w' v, BytesAt w' v X → Calls Tryd.prog 27 #[v] w' fun e w'' => ∃ v', e = .returned (.tuple #[v', .int .i64 0]) ∧ w''.ownsRow w'.heap.size 5 1 v' (packL X).length ((packL X).map (Value.int .u8)) ∧ Below w'.heap.size w' w'' := fun w' v h => by
          have := refPackO_any X v w' ⟨h, hX1, by unfold maxLen; omega⟩
          unfold muchE packE at this
          rwa [if_neg (by omega), if_neg (by omega)] at this
        have hend : ((n : Int) < ((8 * k : Nat) : Int) + 8 ∧ n = 8 * k + q) ∨ (¬ (n : Int) < ((8 * k : Nat) : Int) + 8 ∧ q = 8) := by have := Hq.out; omega
        generalize packL X = P at *
        clear hsn hpart hLp hdg hX1 hX2 HSK Hq h200 hm200
        obtain ⟨F, HF⟩ : ∃ F, Hid (8 * k = F) := ⟨_, rfl⟩
        rw [HF.out] at hW HSN hlt hqn hk hend ⊢
        have j1 : (F : Int) < n := by omega
        have j2 : (F : Int) + q ≤ n := by omega
        have j3 : (F : Int) + q ≤ c := by omega
        have j4 : ¬ c = F := by omega
        have hk15 : k ≤ 20 := by have := HF.out; omega
        rcases hend with ⟨he1, he2⟩ | ⟨he1, rfl⟩
        · have hcn : (n : Int) - (F : Int) = (q : Int) := by omega
          have hnq : n - F = q := by omega
          clear he2
          go_wp2_with fail
          refine hW.mono ?_
          rintro e w5 ⟨ta, tc, rfl, ho1, hb1⟩
          have b1 := hbr.trans (hb1.mono hsr)
          have hP1 := hP _ _ (bytesAt_own ho1)
          clear hW hP ho1
          go_wp2_with fail
          refine hP1.mono ?_
          rintro e w6 ⟨v2, rfl, ho2, hb2⟩
          have b2 := b1.trans (hb2.mono b1.size)
          have hw12 := (hb1.trans (hb2.mono hb1.size))
          have hrow2 := own3_below hrow hw12 (Nat.le_refl _)
          have hels2 := hels.below hw12 (Nat.le_refl _)
          have hoo2 := own_below hoo hw12 (Nat.le_refl _)
          have xo2 := box_kept xo hw12
          have yo2 := box_kept yo hw12
          have vo2 := box_kept vo hw12
          have hs2 := b2.size
          have hsn2 := hels2.snoc (s := ⟨(F : Int), (q : Int), P⟩) (ownsRow_base ho2 b1.size)
          obtain ⟨ya, yc, rfl⟩ := own_form' ho2
          have hnew := lit_seg w6 (F : Int) (q : Int) (.slice ya P.length yc) 55
          have hone : ∀ u ∈ [Value.int .i64 (F : Int), .int .i64 (q : Int), .slice ya P.length yc], u.oneCell' = true := by intro u hu; simp at hu; rcases hu with rfl | rfl | rfl <;> rfl
          have hrowA := hrow2.alloc (.cells #[.int .i64 (F : Int), .int .i64 (q : Int), .slice ya P.length yc] 55)
          have helsA := hsn2.alloc (.cells #[.int .i64 (F : Int), .int .i64 (q : Int), .slice ya P.length yc] 55)
          have hooA := hoo2.alloc (.cells #[.int .i64 (F : Int), .int .i64 (q : Int), .slice ya P.length yc] 55)
          have xoA := box_old _ (.cells #[.int .i64 (F : Int), .int .i64 (q : Int), .slice ya P.length yc] 55) xo2
          have yoA := box_old _ (.cells #[.int .i64 (F : Int), .int .i64 (q : Int), .slice ya P.length yc] 55) yo2
          have voA := box_old _ (.cells #[.int .i64 (F : Int), .int .i64 (q : Int), .slice ya P.length yc] 55) vo2
          have bA : Below w.heap.size w (w6.alloc (.cells #[.int .i64 (F : Int), .int .i64 (q : Int), .slice ya P.length yc] 55)) := b2.alloc hs2 _
          have hsA := bA.size
          obtain ⟨s0, s1, s2, s3, s4, s5⟩ := box_three vo2
          clear hrow hels hels2 hsn2 hrow2 hP1 ho2 hw12 hb1 hb2 hoo hoo2 xo yo vo xo2 yo2 vo2
          go_wp2_with (at_builtin; refine wpList_append_own _ rfl (.tmp 47) (.tmp 54) 26 rfl w.heap.size 55 i0 _ 3 40 Tryd.underlying26 hi0 hz0 hz1 hz2 rfl (by decide) _ _ _ rfl hrowA ⟨w6.heap.size, 0, none⟩ 1 1 [.int .i64 (F : Int), .int .i64 (q : Int), .slice ya P.length yc] rfl rfl hnew hone (by unfold maxLen; omega) (by omega) hsA ?_; intro v7 w7 ho7 hg7 _; obtain ⟨sa, sc, rfl⟩ := own3_form ho7; have vo7 : w7.heap[B5]? = _ := (hg7.block B5 (lt_heap voA) (own_apart hrowA (by decide) voA)).trans voA; obtain ⟨r0, r1, r2, r3, r4, r5⟩ := box_three vo7)
          have b7 : Below w.heap.size w w7 := bA.grown hg7 hsA (fun _ h => own3_block hrowA h)
          have hels7 := helsA.kept hrowA hg7
          have hoo7 := hooA.kept hg7 (own_ne3 hooA hrowA (by decide)).or
          have xo7 := (hg7.block _ (lt_heap xoA) (own_apart hrowA (by decide) xoA)).trans xoA
          have yo7 := (hg7.block _ (lt_heap yoA) (own_apart hrowA (by decide) yoA)).trans yoA
          have hB5 : w.heap.size + 1 < B5 := by omega
          have ho8 := ownsRow_setCell_other ho7 (a := ⟨B5, 2, none⟩) (fun e => own_apart ho7 (by decide) vo7 e.symm) (.slice sa (k + 1) sc)
          have hels8 := hels7.far (o := 2) vo7 (by decide) (.slice sa (k + 1) sc)
          have hoo8 := ownsRow_setCell_other hoo7 (a := ⟨B5, 2, none⟩) (fun e => own_apart hoo7 (by decide) vo7 e.symm) (.slice sa (k + 1) sc)
          have xo8 := box_set_far (j := B5) (o := 2) (v := .slice sa (k + 1) sc) xo7 (by omega)
          have yo8 := box_set_far (j := B5) (o := 2) (v := .slice sa (k + 1) sc) yo7 (by omega)
          have vo8 := heap_setCell_same _ _ 2 _ _ (.slice sa (k + 1) sc) vo7
          have b8 := b7.setCell (p := ⟨B5, 2, none⟩) (by show w.heap.size ≤ B5; omega) (.slice sa (k + 1) sc)
          go_roundw
          case rel =>
            refine ⟨k + 1, sa, sc, _, by have := HF.out; omega, ?_, vo8, ho8, by rw [HSN.out]; exact hels8, hoo8, xo8, yo8, b8⟩
            have := HF.out
            rw [show ((8 * (k + 1) : Nat) : Int) = (F : Int) + 8 by omega]
          case measure => simp [intOf]; omega
        · have j5 : (F : Int) + 8 ≤ n := by omega
          have hcn : (F : Int) + 8 - (F : Int) = 8 := by omega
          go_wp2_with fail
          refine hW.mono ?_
          rintro e w5 ⟨ta, tc, rfl, ho1, hb1⟩
          have b1 := hbr.trans (hb1.mono hsr)
          have hP1 := hP _ _ (bytesAt_own ho1)
          clear hW hP ho1
          go_wp2_with fail
          refine hP1.mono ?_
          rintro e w6 ⟨v2, rfl, ho2, hb2⟩
          have b2 := b1.trans (hb2.mono b1.size)
          have hw12 := (hb1.trans (hb2.mono hb1.size))
          have hrow2 := own3_below hrow hw12 (Nat.le_refl _)
          have hels2 := hels.below hw12 (Nat.le_refl _)
          have hoo2 := own_below hoo hw12 (Nat.le_refl _)
          have xo2 := box_kept xo hw12
          have yo2 := box_kept yo hw12
          have vo2 := box_kept vo hw12
          have hs2 := b2.size
          have hsn2 := hels2.snoc (s := ⟨(F : Int), (8 : Int), P⟩) (ownsRow_base ho2 b1.size)
          obtain ⟨ya, yc, rfl⟩ := own_form' ho2
          have hnew := lit_seg w6 (F : Int) (8 : Int) (.slice ya P.length yc) 55
          have hone : ∀ u ∈ [Value.int .i64 (F : Int), .int .i64 (8 : Int), .slice ya P.length yc], u.oneCell' = true := by intro u hu; simp at hu; rcases hu with rfl | rfl | rfl <;> rfl
          have hrowA := hrow2.alloc (.cells #[.int .i64 (F : Int), .int .i64 (8 : Int), .slice ya P.length yc] 55)
          have helsA := hsn2.alloc (.cells #[.int .i64 (F : Int), .int .i64 (8 : Int), .slice ya P.length yc] 55)
          have hooA := hoo2.alloc (.cells #[.int .i64 (F : Int), .int .i64 (8 : Int), .slice ya P.length yc] 55)
          have xoA := box_old _ (.cells #[.int .i64 (F : Int), .int .i64 (8 : Int), .slice ya P.length yc] 55) xo2
          have yoA := box_old _ (.cells #[.int .i64 (F : Int), .int .i64 (8 : Int), .slice ya P.length yc] 55) yo2
          have voA := box_old _ (.cells #[.int .i64 (F : Int), .int .i64 (8 : Int), .slice ya P.length yc] 55) vo2
          have bA : Below w.heap.size w (w6.alloc (.cells #[.int .i64 (F : Int), .int .i64 (8 : Int), .slice ya P.length yc] 55)) := b2.alloc hs2 _
          have hsA := bA.size
          obtain ⟨s0, s1, s2, s3, s4, s5⟩ := box_three vo2
          clear hrow hels hels2 hsn2 hrow2 hP1 ho2 hw12 hb1 hb2 hoo hoo2 xo yo vo xo2 yo2 vo2
          go_wp2_with (at_builtin; refine wpList_append_own _ rfl (.tmp 47) (.tmp 54) 26 rfl w.heap.size 55 i0 _ 3 40 Tryd.underlying26 hi0 hz0 hz1 hz2 rfl (by decide) _ _ _ rfl hrowA ⟨w6.heap.size, 0, none⟩ 1 1 [.int .i64 (F : Int), .int .i64 (8 : Int), .slice ya P.length yc] rfl rfl hnew hone (by unfold maxLen; omega) (by omega) hsA ?_; intro v7 w7 ho7 hg7 _; obtain ⟨sa, sc, rfl⟩ := own3_form ho7; have vo7 : w7.heap[B5]? = _ := (hg7.block B5 (lt_heap voA) (own_apart hrowA (by decide) voA)).trans voA; obtain ⟨r0, r1, r2, r3, r4, r5⟩ := box_three vo7)
          have b7 : Below w.heap.size w w7 := bA.grown hg7 hsA (fun _ h => own3_block hrowA h)
          have hels7 := helsA.kept hrowA hg7
          have hoo7 := hooA.kept hg7 (own_ne3 hooA hrowA (by decide)).or
          have xo7 := (hg7.block _ (lt_heap xoA) (own_apart hrowA (by decide) xoA)).trans xoA
          have yo7 := (hg7.block _ (lt_heap yoA) (own_apart hrowA (by decide) yoA)).trans yoA
          have hB5 : w.heap.size + 1 < B5 := by omega
          have ho8 := ownsRow_setCell_other ho7 (a := ⟨B5, 2, none⟩) (fun e => own_apart ho7 (by decide) vo7 e.symm) (.slice sa (k + 1) sc)
          have hels8 := hels7.far (o := 2) vo7 (by decide) (.slice sa (k + 1) sc)
          have hoo8 := ownsRow_setCell_other hoo7 (a := ⟨B5, 2, none⟩) (fun e => own_apart hoo7 (by decide) vo7 e.symm) (.slice sa (k + 1) sc)
          have xo8 := box_set_far (j := B5) (o := 2) (v := .slice sa (k + 1) sc) xo7 (by omega)
          have yo8 := box_set_far (j := B5) (o := 2) (v := .slice sa (k + 1) sc) yo7 (by omega)
          have vo8 := heap_setCell_same _ _ 2 _ _ (.slice sa (k + 1) sc) vo7
          have b8 := b7.setCell (p := ⟨B5, 2, none⟩) (by show w.heap.size ≤ B5; omega) (.slice sa (k + 1) sc)
          go_roundw
          case rel =>
            refine ⟨k + 1, sa, sc, _, by have := HF.out; omega, ?_, vo8, ho8, by rw [HSN.out]; exact hels8, hoo8, xo8, yo8, b8⟩
            have := HF.out
            rw [show ((8 * (k + 1) : Nat) : Int) = (F : Int) + 8 by omega]
          case measure => simp [intOf]; omega
      · have hkk : k = (L.length + 7) / 8 := by omega
        have hj1 : ¬ ((8 * k : Nat) : Int) < n := by omega
        have hN : segsN L k = segsL L := by unfold segsL; rw [hkk]
        rw [hN] at hels
        have hl2 : (segsL L).length = k := by unfold segsL; rw [segsN_length, ← hkk]
        have HO : Hid (OwnSegs wo w.heap.size (.slice va k vc) (segsL L)) := ⟨vs, by rw [hl2]; exact hrow, hels⟩
        have HL2 : Hid ((segsL L).length = k) := hl2
        clear hN hl2 hkk hrow hels hk h200 hm200
        obtain ⟨F, HF⟩ : ∃ F, Hid (8 * k = F) := ⟨_, rfl⟩
        rw [HF.out] at hj1 ⊢
        obtain ⟨u0, u1, u2, u3, u4, u5⟩ := box_three xo
        obtain ⟨t0, t1, t2, t3⟩ := box_two yo
        obtain ⟨s0, s1, s2, -, -, -⟩ := box_three vo
        have hne1 : w.heap.size ≠ B5 := by omega
        have hne2 : w.heap.size + 1 ≠ B5 := by omega
        have hb1 : w.heap.size < w2.heap.size := by omega
        go_wp2_with fail
        refine bodyPost_ret (v := .tuple #[.agg #[.int .i64 n, .slice xa 32 xc, .slice va k vc], faultV (0, 0)]) (by simp [results, Tryd.results8, go_sem, u0, u1, u2, t0, t1]) rfl ⟨_, rfl, ⟨_, _, rfl, ⟨?_, hmb, by show M.length ≤ maxLen; rw [hml]; unfold maxLen; omega⟩, ?_⟩, ?_⟩
        · refine bytesAt_own (e := 5) (base := w2.heap.size) (n := 32) ?_
          exact ownsRow_setCell_below (ownsRow_setCell_below (ownsRow_setCell_below (ownsRow_setCell_below (ownsRow_setCell_below hoo hb1 _) hb1 _) hb1 _) hg2 _) hg2 _
        · have hO := HO.out
          have q0 := hO.far (o := 0) xo (by decide) (by decide) (.int .i64 n)
          have x1' := heap_setCell_same _ _ 0 _ _ (.int .i64 (n : Int)) xo
          have q1 := q0.far (o := 1) x1' (by decide) (by decide) (.slice xa 32 xc)
          have x2' := heap_setCell_same _ _ 1 _ _ (.slice xa 32 xc) x1'
          have q2 := q1.far (o := 2) x2' (by decide) (by decide) (.slice va k vc)
          have y1' := box_set_far (j := w.heap.size) (o := 2) (v := .slice va k vc) (box_set_far (j := w.heap.size) (o := 1) (v := .slice xa 32 xc) (box_set_far (j := w.heap.size) (o := 0) (v := .int .i64 (n : Int)) yo (by omega)) (by omega)) (by omega)
          have q3 := q2.far (o := 0) y1' (by decide) (by decide) (.int .i64 0)
          have y2' := heap_setCell_same _ _ 0 _ _ (.int .i64 0) y1'
          have q4 := q3.far (o := 1) y2' (by decide) (by decide) (.int .i64 0)
          refine OwnSegs.segs (base := w.heap.size) ?_ hsb
          exact q4
        · exact ((((hbr.setCell (Nat.le_refl _) _).setCell (Nat.le_refl _) _).setCell (Nat.le_refl _) _).setCell (Nat.le_succ _) _).setCell (Nat.le_succ _) _
  · have hE : exportL L = man0 := by unfold exportL; rw [if_pos h0]
    have i1 : ((wrongL L).1 != 0) = true := by simpa using h0
    rw [hE]
    generalize wrongL L = p at *
    obtain ⟨x, y⟩ := p
    dsimp only at h0 i1 ⊢
    go_enter Tryd.func8, Tryd.ntmps8
    go_wp2_with fail
    generalize (w.alloc (.cells #[.int .i64 0, .slice none 0 0, .slice none 0 0] 28)).alloc (.cells #[.int .i64 0, .int .i64 0] 31) = w0 at *
    refine hR.mono ?_
    rintro e w1 ⟨rfl, hb1⟩
    have b1 : Below w.heap.size w w1 := b0.trans (hb1.mono b0.size)
    have x1 := box_kept x0 hb1
    have y1 := box_kept y0 hb1
    obtain ⟨p0, p1, -, -⟩ := box_two (box_new w1 #[.int .i64 x, .int .i64 y] 31)
    have x2 := box_old _ (.cells #[.int .i64 x, .int .i64 y] 31) x1
    have y2 := box_old _ (.cells #[.int .i64 x, .int .i64 y] 31) y1
    have b2 : Below w.heap.size w (w1.alloc (.cells #[.int .i64 x, .int .i64 y] 31)) := b1.alloc b1.size _
    have n1 : w.heap.size ≠ w1.heap.size := by have := hb1.size; omega
    have n2 : w.heap.size + 1 ≠ w1.heap.size := by have := hb1.size; omega
    obtain ⟨u0, u1, u2, u3, u4, u5⟩ := box_three x2
    obtain ⟨v0, v1, v2, v3⟩ := box_two y2
    clear hR x0 y0 x1 y1 b0 b1
    go_wp2_with fail
    generalize w1.alloc (.cells #[.int .i64 x, .int .i64 y] 31) = W at *
    generalize w1.heap.size = q1 at *
    go_region_with (fail)
    all_goals
      go_wp2_with fail
      exact bodyPost_ret (v := .tuple #[.agg #[.int .i64 0, .slice none 0 0, .slice none 0 0], faultV (x, y)]) (by simp [results, Tryd.results8, go_sem, u0, u1, u2, v0, v1]) rfl ⟨_, rfl, man0_at _, by repeat (first | exact b2 | apply Below.drew | refine Below.setCell ?_ (by first | exact Nat.le_refl _ | exact Nat.le_succ _) _)⟩

end Go.Proofs.YtkjlchfmplcobadDoor
