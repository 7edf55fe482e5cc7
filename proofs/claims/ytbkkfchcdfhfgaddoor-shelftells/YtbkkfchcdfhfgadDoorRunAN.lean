/- ShelfRefExport, PackLong, PackGoAlike, as one text. -/
import Derived.Test.YtbkkfchcdfhfgadDoorProg
import Derived.Test.YtbkkfchcdfhfgadDoorRunAK
import Derived.Test.YtbkkfchcdfhfgadDoorPackRefWrite
import Derived.Test.YtbkkfchcdfhfgadDoorRunAL
import Derived.Test.YtbkkfchcdfhfgadDoorRunAM
import Derived.WalkKit
import Derived.WalkSpells
import Derived.WalkLawsBesides
import Derived.Deep.RegionWith
import Derived.BigRegion
import Derived.Test.YtbkkfchcdfhfgadDoorRunAF
import Derived.Test.YtbkkfchcdfhfgadDoorRunAH
import Derived.Test.YtbkkfchcdfhfgadDoorRunAC
import Derived.Deep.QuietTactic
import Derived.BigQuiet
/- The walk of yearref5.Export. -/
namespace Go.Proofs.YtbkkfchcdfhfgadDoor
open Go.RowKit

theorem SegEls.far {w : World} {base k o : Nat} {vs : List Value} {l : List Seg} {cs : Array Value} {t : TypeId} {mk : Nat × Nat} (h : SegEls w base vs l) (hk : w.heap[k]? = some (.cells cs t mk)) (hne : t ≠ 5) (u : Value) : SegEls (w.setCell ⟨k, o, none⟩ u) base vs l :=
  ⟨h.1, fun j hj => by
    obtain ⟨h0, h1, y, h2, h3⟩ := h.2 j hj
    exact ⟨h0, h1, y, h2, ownsRow_setCell_other h3 (a := ⟨k, o, none⟩) (fun e => own_apart h3 hne hk e.symm) u⟩⟩
theorem OwnSegs.far {w : World} {base k o : Nat} {v : Value} {l : List Seg} {cs : Array Value} {t : TypeId} {mk : Nat × Nat} (h : OwnSegs w base v l) (hk : w.heap[k]? = some (.cells cs t mk)) (hne : t ≠ 5) (hns : t ≠ 55) (u : Value) : OwnSegs (w.setCell ⟨k, o, none⟩ u) base v l := by
  obtain ⟨vs, h1, h2⟩ := h
  exact ⟨vs, ownsRow_setCell_other h1 (a := ⟨k, o, none⟩) (fun e => own_apart h1 hns hk e.symm) u, h2.far hk hne u⟩
set_option maxRecDepth 100000 in
set_option maxHeartbeats 8000000 in
theorem refExport_any (L : List (List Int)) (a : Option Addr) (n c : Nat) (w : World) (hL : Lists w a n c L) :
    Calls Tryd.prog 8 #[.slice a n c] w fun e w' => ∃ mv, e = .returned (.tuple #[mv, faultV (wrongL L)]) ∧ ManAt w' mv (exportL L) ∧ Below w.heap.size w w' := by
  obtain ⟨i0, hi0, hz0, hz1, hz2⟩ := info_parts Tryd.info55b
  have hcap := hL.cap
  have hroom := hL.room
  have hlen := hL.len
  unfold maxLen at hcap
  have b0 : Below w.heap.size w ((w.alloc (.cells #[.int .i64 0, .slice none 0 0, .slice none 0 0] 28)).alloc (.cells #[.int .i64 0, .int .i64 0] 31)) := ((Below.refl _ _).alloc (Nat.le_refl _) _).alloc (by simp) _
  have hR := refWrong_any L (.slice a n c) _ (hL.below b0).at' (by rw [hlen]; unfold maxLen; omega) hL.short
  have x0 := box_old _ (.cells #[.int .i64 0, .int .i64 0] 31) (box_new w #[.int .i64 0, .slice none 0 0, .slice none 0 0] 28)
  have y0 := box_last w (.cells #[.int .i64 0, .slice none 0 0, .slice none 0 0] 28) #[.int .i64 0, .int .i64 0] 31
  have z0 : ((w.alloc (.cells #[.int .i64 0, .slice none 0 0, .slice none 0 0] 28)).alloc (.cells #[.int .i64 0, .int .i64 0] 31)).heap.size = w.heap.size + 2 := by simp
  by_cases h0 : (wrongL L).1 = 0
  · obtain ⟨h100, h200⟩ := wrong_ok h0
    have hm200 := mem_short h200
    have he := wrong_zero h100 h200
    have hE : exportL L = ⟨L.length, mth L, segsL L⟩ := by unfold exportL; rw [if_neg (fun h => h h0)]
    rw [he] at hR ⊢
    rw [hE, hlen]
    have hsb : SegsBytes (segsL L) := segsL_bytes hL.bytes hm200
    have hmb := bytes_mth L
    have hml := mth_length L
    have hM := fun w' (h : Below w.heap.size w w') => mth_any n L a c w' hlen (by omega) (hL.below h).at' hroom (by unfold maxLen; omega) hL.bytes (fun j => by have := h200 j; omega)
    clear hE he h0
    dsimp only at hR
    generalize mth L = M at *
    go_enter Tryd.func8, Tryd.ntmps8
    go_wp2_with fail
    generalize (w.alloc (.cells #[.int .i64 0, .slice none 0 0, .slice none 0 0] 28)).alloc (.cells #[.int .i64 0, .int .i64 0] 31) = w0 at *
    refine hR.mono ?_
    rintro e w1 ⟨rfl, hb1⟩
    have b1 : Below w.heap.size w w1 := b0.trans (hb1.mono b0.size)
    have hs1 := hb1.size
    have x1 := box_old _ (.cells #[.int .i64 0, .int .i64 0] 31) (box_kept x0 hb1)
    have y1 := box_old _ (.cells #[.int .i64 0, .int .i64 0] 31) (box_kept y0 hb1)
    have b2 : Below w.heap.size w (w1.alloc (.cells #[.int .i64 0, .int .i64 0] 31)) := b1.alloc b1.size _
    have hM2 := hM _ b2
    clear hR x0 y0 b0 b1 hM
    go_wp2_with fail
    generalize w1.alloc (.cells #[.int .i64 0, .int .i64 0] 31) = w2 at *
    refine hM2.mono ?_
    rintro e w3 ⟨x, rfl, ho, hb3⟩
    obtain ⟨xa, xc, rfl⟩ := own_form' ho
    have b3 := b2.trans (hb3.mono b2.size)
    have x3 := box_old _ (.cells #[.int .i64 n, .slice xa 32 xc, .slice none 0 0] 28) (box_kept x1 hb3)
    have y3 := box_old _ (.cells #[.int .i64 n, .slice xa 32 xc, .slice none 0 0] 28) (box_kept y1 hb3)
    have v3 := box_new w3 #[.int .i64 n, .slice xa 32 xc, .slice none 0 0] 28
    have ho3 := ownsRow_base (ho.alloc (.cells #[.int .i64 n, .slice xa 32 xc, .slice none 0 0] 28)) b2.size
    have hg2 : w.heap.size + 1 < w2.heap.size := lt_heap y1
    have ho4 := ho.alloc (.cells #[.int .i64 n, .slice xa 32 xc, .slice none 0 0] 28)
    have b4 : Below w.heap.size w (w3.alloc (.cells #[.int .i64 n, .slice xa 32 xc, .slice none 0 0] 28)) := b3.alloc b3.size _
    have hg3 : w2.heap.size ≤ w3.heap.size := hb3.size
    clear hM2 x1 y1 b3 ho ho3
    go_wp2_with fail
    generalize w3.alloc (.cells #[.int .i64 n, .slice xa 32 xc, .slice none 0 0] 28) = w4 at *
    obtain ⟨B5, hB5⟩ : ∃ B5, B5 = w3.heap.size := ⟨_, rfl⟩
    rw [← hB5] at v3 hg3 ⊢
    clear hB5
    go_loopw [6] (fun fv wr => ∃ (k : Nat) (va : Option Addr) (vc : Nat) (vs : List Value), 8 * k ≤ n + 7 ∧ fv = .int .i64 ((8 * k : Nat) : Int) ∧ wr.heap[B5]? = some (.cells #[.int .i64 n, .slice xa 32 xc, .slice va k vc] 28 (0, 0)) ∧ wr.ownsRow w.heap.size 55 3 (.slice va k vc) k vs ∧ SegEls wr w.heap.size vs (segsN L k) ∧ wr.ownsRow w2.heap.size 5 1 (.slice xa 32 xc) 32 (M.map (Value.int .u8)) ∧ wr.heap[w.heap.size]? = some (.cells #[.int .i64 0, .slice none 0 0, .slice none 0 0] 28 (0, 0)) ∧ wr.heap[w.heap.size + 1]? = some (.cells #[.int .i64 0, .int .i64 0] 31 (0, 0)) ∧ Below w.heap.size w wr) (fun fv _ => n + 8 - (intOf fv).toNat)
    case atStart => exact ⟨0, none, 0, [], by omega, rfl, v3, World.ownsRow_nil _ _ _ _, segEls_nil _ _, ho4, x3, y3, b4⟩
    case round =>
      obtain ⟨wo, rfl⟩ : ∃ x, x = wr := ⟨wr, rfl⟩
      obtain ⟨k, va, vc, vs, hk, rfl, vo, hrow, hels, hoo, xo, yo, hbr⟩ := hrel
      have hsr := hbr.size
      clear v3 ho4 x3 y3 b4
      by_cases hlt : 8 * k < n
      · obtain ⟨b, off, pa, pc, rfl, -, -⟩ := hL.get (8 * k) hlt
        obtain ⟨q, Hq⟩ : ∃ q : Nat, Hid (q = min 8 (n - 8 * k)) := ⟨_, rfl⟩
        have hq1 : 1 ≤ q := by have := Hq.out; omega
        have hq8 : q ≤ 8 := by have := Hq.out; omega
        have hqn : 8 * k + q ≤ n := by have := Hq.out; omega
        have hpart : ((L.drop (8 * k)).take q) = ((L.drop (8 * k)).take 8) := by
          rw [Hq.out, ← hlen, ← List.length_drop, Nat.min_comm, ← List.take_take, List.take_of_length_le (by rw [List.length_take]; omega)]
        have HSK : Hid (segK L k = ⟨((8 * k : Nat) : Int), (q : Int), packL (layL ((L.drop (8 * k)).take 8))⟩) := by show _ = _; unfold segK; rw [hlen, ← Hq.out]
        have hLp := (hL.below hbr).part hqn hq1
        rw [hpart] at hLp
        have hdg : ∀ j, (((L.drop (8 * k)).take 8).getD j []).length ≤ 200 := take_short (fun j => by rw [List.getD_eq_getElem?_getD, List.getElem?_drop, ← List.getD_eq_getElem?_getD]; exact h200 _) 8
        have hW := refLay_any _ _ _ _ _ hLp hdg hq8
        have hX1 := lay_bytes hLp.bytes hdg
        have hX2 := lay_part hm200 k
        have hsn := segsN_snoc L k
        rw [HSK.out] at hsn
        have HSN : Hid (segsN L (k + 1) = segsN L k ++ [⟨((8 * k : Nat) : Int), (q : Int), packL (layL ((L.drop (8 * k)).take 8))⟩]) := hsn
        generalize layL ((L.drop (8 * k)).take 8) = X at *
        have hP : ∀ w' v, BytesAt w' v X → Calls Tryd.prog 27 #[v] w' fun e w'' => ∃ v', e = .returned (.tuple #[v', .int .i64 0]) ∧ w''.ownsRow w'.heap.size 5 1 v' (packL X).length ((packL X).map (Value.int .u8)) ∧ Below w'.heap.size w' w'' := fun w' v h => by
          have := refPackO_any X v w' ⟨h, hX1, by unfold maxLen; omega⟩
          unfold muchE packE at this
          rwa [if_neg (by omega), if_neg (by omega)] at this
        have hend : ((n : Int) < ((8 * k : Nat) : Int) + 8 ∧ n = 8 * k + q) ∨ (¬ (n : Int) < ((8 * k : Nat) : Int) + 8 ∧ q = 8) := by have := Hq.out; omega
        generalize packL X = P at *
        clear hsn hpart hLp hdg hX1 hX2 HSK Hq h200 hm200
        obtain ⟨F, HF⟩ : ∃ F, Hid (8 * k = F) := ⟨_, rfl⟩
        rw [HF.out] at hW HSN hlt hqn hk hend ⊢
        have j1 : (F : Int) < n := by omega
        have j2 : (F : Int) + q ≤ n := by omega
        have j3 : (F : Int) + q ≤ c := by omega
        have j4 : ¬ c = F := by omega
        have hk15 : k ≤ 20 := by have := HF.out; omega
        rcases hend with ⟨he1, he2⟩ | ⟨he1, rfl⟩
        · have hcn : (n : Int) - (F : Int) = (q : Int) := by omega
          have hnq : n - F = q := by omega
          clear he2
          go_wp2_with fail
          refine hW.mono ?_
          rintro e w5 ⟨ta, tc, rfl, ho1, hb1⟩
          have b1 := hbr.trans (hb1.mono hsr)
          have hP1 := hP _ _ (bytesAt_own ho1)
          clear hW hP ho1
          go_wp2_with fail
          refine hP1.mono ?_
          rintro e w6 ⟨v2, rfl, ho2, hb2⟩
          have b2 := b1.trans (hb2.mono b1.size)
          have hw12 := (hb1.trans (hb2.mono hb1.size))
          have hrow2 := own3_below hrow hw12 (Nat.le_refl _)
          have hels2 := hels.below hw12 (Nat.le_refl _)
          have hoo2 := own_below hoo hw12 (Nat.le_refl _)
          have xo2 := box_kept xo hw12
          have yo2 := box_kept yo hw12
          have vo2 := box_kept vo hw12
          have hs2 := b2.size
          have hsn2 := hels2.snoc (s := ⟨(F : Int), (q : Int), P⟩) (ownsRow_base ho2 b1.size)
          obtain ⟨ya, yc, rfl⟩ := own_form' ho2
          have hnew := lit_seg w6 (F : Int) (q : Int) (.slice ya P.length yc) 55
          have hone : ∀ u ∈ [Value.int .i64 (F : Int), .int .i64 (q : Int), .slice ya P.length yc], u.oneCell' = true := by intro u hu; simp at hu; rcases hu with rfl | rfl | rfl <;> rfl
          have hrowA := hrow2.alloc (.cells #[.int .i64 (F : Int), .int .i64 (q : Int), .slice ya P.length yc] 55)
          have helsA := hsn2.alloc (.cells #[.int .i64 (F : Int), .int .i64 (q : Int), .slice ya P.length yc] 55)
          have hooA := hoo2.alloc (.cells #[.int .i64 (F : Int), .int .i64 (q : Int), .slice ya P.length yc] 55)
          have xoA := box_old _ (.cells #[.int .i64 (F : Int), .int .i64 (q : Int), .slice ya P.length yc] 55) xo2
          have yoA := box_old _ (.cells #[.int .i64 (F : Int), .int .i64 (q : Int), .slice ya P.length yc] 55) yo2
          have voA := box_old _ (.cells #[.int .i64 (F : Int), .int .i64 (q : Int), .slice ya P.length yc] 55) vo2
          have bA : Below w.heap.size w (w6.alloc (.cells #[.int .i64 (F : Int), .int .i64 (q : Int), .slice ya P.length yc] 55)) := b2.alloc hs2 _
          have hsA := bA.size
          obtain ⟨s0, s1, s2, s3, s4, s5⟩ := box_three vo2
          clear hrow hels hels2 hsn2 hrow2 hP1 ho2 hw12 hb1 hb2 hoo hoo2 xo yo vo xo2 yo2 vo2
          go_wp2_with (at_builtin; refine wpList_append_own _ rfl (.tmp 47) (.tmp 54) 26 rfl w.heap.size 55 i0 _ 3 40 Tryd.underlying26 hi0 hz0 hz1 hz2 rfl (by decide) _ _ _ rfl hrowA ⟨w6.heap.size, 0, none⟩ 1 1 [.int .i64 (F : Int), .int .i64 (q : Int), .slice ya P.length yc] rfl rfl hnew hone (by unfold maxLen; omega) (by omega) hsA ?_; intro v7 w7 ho7 hg7 _; obtain ⟨sa, sc, rfl⟩ := own3_form ho7; have vo7 : w7.heap[B5]? = _ := (hg7.block B5 (lt_heap voA) (own_apart hrowA (by decide) voA)).trans voA; obtain ⟨r0, r1, r2, r3, r4, r5⟩ := box_three vo7)
          have b7 : Below w.heap.size w w7 := bA.grown hg7 hsA (fun _ h => own3_block hrowA h)
          have hels7 := helsA.kept hrowA hg7
          have hoo7 := hooA.kept hg7 (own_ne3 hooA hrowA (by decide)).or
          have xo7 := (hg7.block _ (lt_heap xoA) (own_apart hrowA (by decide) xoA)).trans xoA
          have yo7 := (hg7.block _ (lt_heap yoA) (own_apart hrowA (by decide) yoA)).trans yoA
          have hB5 : w.heap.size + 1 < B5 := by omega
          have ho8 := ownsRow_setCell_other ho7 (a := ⟨B5, 2, none⟩) (fun e => own_apart ho7 (by decide) vo7 e.symm) (.slice sa (k + 1) sc)
          have hels8 := hels7.far (o := 2) vo7 (by decide) (.slice sa (k + 1) sc)
          have hoo8 := ownsRow_setCell_other hoo7 (a := ⟨B5, 2, none⟩) (fun e => own_apart hoo7 (by decide) vo7 e.symm) (.slice sa (k + 1) sc)
          have xo8 := box_set_far (j := B5) (o := 2) (v := .slice sa (k + 1) sc) xo7 (by omega)
          have yo8 := box_set_far (j := B5) (o := 2) (v := .slice sa (k + 1) sc) yo7 (by omega)
          have vo8 := heap_setCell_same _ _ 2 _ _ (.slice sa (k + 1) sc) vo7
          have b8 := b7.setCell (p := ⟨B5, 2, none⟩) (by show w.heap.size ≤ B5; omega) (.slice sa (k + 1) sc)
          go_roundw
          case rel =>
            refine ⟨k + 1, sa, sc, _, by have := HF.out; omega, ?_, vo8, ho8, by rw [HSN.out]; exact hels8, hoo8, xo8, yo8, b8⟩
            have := HF.out
            rw [show ((8 * (k + 1) : Nat) : Int) = (F : Int) + 8 by omega]
          case measure => simp [intOf]; omega
        · have j5 : (F : Int) + 8 ≤ n := by omega
          have hcn : (F : Int) + 8 - (F : Int) = 8 := by omega
          go_wp2_with fail
          refine hW.mono ?_
          rintro e w5 ⟨ta, tc, rfl, ho1, hb1⟩
          have b1 := hbr.trans (hb1.mono hsr)
          have hP1 := hP _ _ (bytesAt_own ho1)
          clear hW hP ho1
          go_wp2_with fail
          refine hP1.mono ?_
          rintro e w6 ⟨v2, rfl, ho2, hb2⟩
          have b2 := b1.trans (hb2.mono b1.size)
          have hw12 := (hb1.trans (hb2.mono hb1.size))
          have hrow2 := own3_below hrow hw12 (Nat.le_refl _)
          have hels2 := hels.below hw12 (Nat.le_refl _)
          have hoo2 := own_below hoo hw12 (Nat.le_refl _)
          have xo2 := box_kept xo hw12
          have yo2 := box_kept yo hw12
          have vo2 := box_kept vo hw12
          have hs2 := b2.size
          have hsn2 := hels2.snoc (s := ⟨(F : Int), (8 : Int), P⟩) (ownsRow_base ho2 b1.size)
          obtain ⟨ya, yc, rfl⟩ := own_form' ho2
          have hnew := lit_seg w6 (F : Int) (8 : Int) (.slice ya P.length yc) 55
          have hone : ∀ u ∈ [Value.int .i64 (F : Int), .int .i64 (8 : Int), .slice ya P.length yc], u.oneCell' = true := by intro u hu; simp at hu; rcases hu with rfl | rfl | rfl <;> rfl
          have hrowA := hrow2.alloc (.cells #[.int .i64 (F : Int), .int .i64 (8 : Int), .slice ya P.length yc] 55)
          have helsA := hsn2.alloc (.cells #[.int .i64 (F : Int), .int .i64 (8 : Int), .slice ya P.length yc] 55)
          have hooA := hoo2.alloc (.cells #[.int .i64 (F : Int), .int .i64 (8 : Int), .slice ya P.length yc] 55)
          have xoA := box_old _ (.cells #[.int .i64 (F : Int), .int .i64 (8 : Int), .slice ya P.length yc] 55) xo2
          have yoA := box_old _ (.cells #[.int .i64 (F : Int), .int .i64 (8 : Int), .slice ya P.length yc] 55) yo2
          have voA := box_old _ (.cells #[.int .i64 (F : Int), .int .i64 (8 : Int), .slice ya P.length yc] 55) vo2
          have bA : Below w.heap.size w (w6.alloc (.cells #[.int .i64 (F : Int), .int .i64 (8 : Int), .slice ya P.length yc] 55)) := b2.alloc hs2 _
          have hsA := bA.size
          obtain ⟨s0, s1, s2, s3, s4, s5⟩ := box_three vo2
          clear hrow hels hels2 hsn2 hrow2 hP1 ho2 hw12 hb1 hb2 hoo hoo2 xo yo vo xo2 yo2 vo2
          go_wp2_with (at_builtin; refine wpList_append_own _ rfl (.tmp 47) (.tmp 54) 26 rfl w.heap.size 55 i0 _ 3 40 Tryd.underlying26 hi0 hz0 hz1 hz2 rfl (by decide) _ _ _ rfl hrowA ⟨w6.heap.size, 0, none⟩ 1 1 [.int .i64 (F : Int), .int .i64 (8 : Int), .slice ya P.length yc] rfl rfl hnew hone (by unfold maxLen; omega) (by omega) hsA ?_; intro v7 w7 ho7 hg7 _; obtain ⟨sa, sc, rfl⟩ := own3_form ho7; have vo7 : w7.heap[B5]? = _ := (hg7.block B5 (lt_heap voA) (own_apart hrowA (by decide) voA)).trans voA; obtain ⟨r0, r1, r2, r3, r4, r5⟩ := box_three vo7)
          have b7 : Below w.heap.size w w7 := bA.grown hg7 hsA (fun _ h => own3_block hrowA h)
          have hels7 := helsA.kept hrowA hg7
          have hoo7 := hooA.kept hg7 (own_ne3 hooA hrowA (by decide)).or
          have xo7 := (hg7.block _ (lt_heap xoA) (own_apart hrowA (by decide) xoA)).trans xoA
          have yo7 := (hg7.block _ (lt_heap yoA) (own_apart hrowA (by decide) yoA)).trans yoA
          have hB5 : w.heap.size + 1 < B5 := by omega
          have ho8 := ownsRow_setCell_other ho7 (a := ⟨B5, 2, none⟩) (fun e => own_apart ho7 (by decide) vo7 e.symm) (.slice sa (k + 1) sc)
          have hels8 := hels7.far (o := 2) vo7 (by decide) (.slice sa (k + 1) sc)
          have hoo8 := ownsRow_setCell_other hoo7 (a := ⟨B5, 2, none⟩) (fun e => own_apart hoo7 (by decide) vo7 e.symm) (.slice sa (k + 1) sc)
          have xo8 := box_set_far (j := B5) (o := 2) (v := .slice sa (k + 1) sc) xo7 (by omega)
          have yo8 := box_set_far (j := B5) (o := 2) (v := .slice sa (k + 1) sc) yo7 (by omega)
          have vo8 := heap_setCell_same _ _ 2 _ _ (.slice sa (k + 1) sc) vo7
          have b8 := b7.setCell (p := ⟨B5, 2, none⟩) (by show w.heap.size ≤ B5; omega) (.slice sa (k + 1) sc)
          go_roundw
          case rel =>
            refine ⟨k + 1, sa, sc, _, by have := HF.out; omega, ?_, vo8, ho8, by rw [HSN.out]; exact hels8, hoo8, xo8, yo8, b8⟩
            have := HF.out
            rw [show ((8 * (k + 1) : Nat) : Int) = (F : Int) + 8 by omega]
          case measure => simp [intOf]; omega
      · have hkk : k = (L.length + 7) / 8 := by omega
        have hj1 : ¬ ((8 * k : Nat) : Int) < n := by omega
        have hN : segsN L k = segsL L := by unfold segsL; rw [hkk]
        rw [hN] at hels
        have hl2 : (segsL L).length = k := by unfold segsL; rw [segsN_length, ← hkk]
        have HO : Hid (OwnSegs wo w.heap.size (.slice va k vc) (segsL L)) := ⟨vs, by rw [hl2]; exact hrow, hels⟩
        have HL2 : Hid ((segsL L).length = k) := hl2
        clear hN hl2 hkk hrow hels hk h200 hm200
        obtain ⟨F, HF⟩ : ∃ F, Hid (8 * k = F) := ⟨_, rfl⟩
        rw [HF.out] at hj1 ⊢
        obtain ⟨u0, u1, u2, u3, u4, u5⟩ := box_three xo
        obtain ⟨t0, t1, t2, t3⟩ := box_two yo
        obtain ⟨s0, s1, s2, -, -, -⟩ := box_three vo
        have hne1 : w.heap.size ≠ B5 := by omega
        have hne2 : w.heap.size + 1 ≠ B5 := by omega
        have hb1 : w.heap.size < w2.heap.size := by omega
        go_wp2_with fail
        refine bodyPost_ret (v := .tuple #[.agg #[.int .i64 n, .slice xa 32 xc, .slice va k vc], faultV (0, 0)]) (by simp [results, Tryd.results8, go_sem, u0, u1, u2, t0, t1]) rfl ⟨_, rfl, ⟨_, _, rfl, ⟨?_, hmb, by show M.length ≤ maxLen; rw [hml]; unfold maxLen; omega⟩, ?_⟩, ?_⟩
        · refine bytesAt_own (e := 5) (base := w2.heap.size) (n := 32) ?_
          exact ownsRow_setCell_below (ownsRow_setCell_below (ownsRow_setCell_below (ownsRow_setCell_below (ownsRow_setCell_below hoo hb1 _) hb1 _) hb1 _) hg2 _) hg2 _
        · have hO := HO.out
          have q0 := hO.far (o := 0) xo (by decide) (by decide) (.int .i64 n)
          have x1' := heap_setCell_same _ _ 0 _ _ (.int .i64 (n : Int)) xo
          have q1 := q0.far (o := 1) x1' (by decide) (by decide) (.slice xa 32 xc)
          have x2' := heap_setCell_same _ _ 1 _ _ (.slice xa 32 xc) x1'
          have q2 := q1.far (o := 2) x2' (by decide) (by decide) (.slice va k vc)
          have y1' := box_set_far (j := w.heap.size) (o := 2) (v := .slice va k vc) (box_set_far (j := w.heap.size) (o := 1) (v := .slice xa 32 xc) (box_set_far (j := w.heap.size) (o := 0) (v := .int .i64 (n : Int)) yo (by omega)) (by omega)) (by omega)
          have q3 := q2.far (o := 0) y1' (by decide) (by decide) (.int .i64 0)
          have y2' := heap_setCell_same _ _ 0 _ _ (.int .i64 0) y1'
          have q4 := q3.far (o := 1) y2' (by decide) (by decide) (.int .i64 0)
          refine OwnSegs.segs (base := w.heap.size) ?_ hsb
          exact q4
        · exact ((((hbr.setCell (Nat.le_refl _) _).setCell (Nat.le_refl _) _).setCell (Nat.le_refl _) _).setCell (Nat.le_succ _) _).setCell (Nat.le_succ _) _
  · have hE : exportL L = man0 := by unfold exportL; rw [if_pos h0]
    have i1 : ((wrongL L).1 != 0) = true := by simpa using h0
    rw [hE]
    generalize wrongL L = p at *
    obtain ⟨x, y⟩ := p
    dsimp only at h0 i1 ⊢
    go_enter Tryd.func8, Tryd.ntmps8
    go_wp2_with fail
    generalize (w.alloc (.cells #[.int .i64 0, .slice none 0 0, .slice none 0 0] 28)).alloc (.cells #[.int .i64 0, .int .i64 0] 31) = w0 at *
    refine hR.mono ?_
    rintro e w1 ⟨rfl, hb1⟩
    have b1 : Below w.heap.size w w1 := b0.trans (hb1.mono b0.size)
    have x1 := box_kept x0 hb1
    have y1 := box_kept y0 hb1
    obtain ⟨p0, p1, -, -⟩ := box_two (box_new w1 #[.int .i64 x, .int .i64 y] 31)
    have x2 := box_old _ (.cells #[.int .i64 x, .int .i64 y] 31) x1
    have y2 := box_old _ (.cells #[.int .i64 x, .int .i64 y] 31) y1
    have b2 : Below w.heap.size w (w1.alloc (.cells #[.int .i64 x, .int .i64 y] 31)) := b1.alloc b1.size _
    have n1 : w.heap.size ≠ w1.heap.size := by have := hb1.size; omega
    have n2 : w.heap.size + 1 ≠ w1.heap.size := by have := hb1.size; omega
    obtain ⟨u0, u1, u2, u3, u4, u5⟩ := box_three x2
    obtain ⟨v0, v1, v2, v3⟩ := box_two y2
    clear hR x0 y0 x1 y1 b0 b1
    go_wp2_with fail
    generalize w1.alloc (.cells #[.int .i64 x, .int .i64 y] 31) = W at *
    generalize w1.heap.size = q1 at *
    go_region_with (fail)
    all_goals
      go_wp2_with fail
      exact bodyPost_ret (v := .tuple #[.agg #[.int .i64 0, .slice none 0 0, .slice none 0 0], faultV (x, y)]) (by simp [results, Tryd.results8, go_sem, u0, u1, u2, v0, v1]) rfl ⟨_, rfl, man0_at _, by repeat (first | exact b2 | apply Below.drew | refine Below.setCell ?_ (by first | exact Nat.le_refl _ | exact Nat.le_succ _) _)⟩

end Go.Proofs.YtbkkfchcdfhfgadDoor

/- The plain mathematics of chapter 4, fourth part: the longest stretch, whatever its length; the groups of tokens one by one. -/
namespace Go.Proofs.YtbkkfchcdfhfgadDoor

def longStep (b : List Int) (a : Nat) (p : Nat × Nat) (k : Nat) : Nat × Nat := if p.1 < matchN b (a - (k + 1)) a then (matchN b (a - (k + 1)) a, k + 1) else p
def longTo (b : List Int) (a m : Nat) : Nat × Nat := (List.range m).foldl (longStep b a) (0, 0)
theorem longTo_zero (b : List Int) (a : Nat) : longTo b a 0 = (0, 0) := rfl
theorem longTo_succ (b : List Int) (a m : Nat) : longTo b a (m + 1) = longStep b a (longTo b a m) m := by
  unfold longTo; rw [List.range_succ, List.foldl_append]; rfl
theorem long_best (b : List Int) (a : Nat) : ∀ m, bestTo b a m = if 3 ≤ (longTo b a m).1 then longTo b a m else (0, 0)
  | 0 => rfl
  | m + 1 => by
    rw [bestTo_succ, longTo_succ, long_best b a m]
    unfold bestStep longStep
    by_cases h3 : 3 ≤ (longTo b a m).1
    · rw [if_pos h3]
      by_cases hn : (longTo b a m).1 < matchN b (a - (m + 1)) a
      · rw [if_pos ⟨by omega, hn⟩, if_pos hn, if_pos (by simp only; omega)]
      · rw [if_neg (fun h => hn h.2), if_neg hn, if_pos h3]
    · rw [if_neg h3]
      by_cases hn : 3 ≤ matchN b (a - (m + 1)) a
      · have hk : (longTo b a m).1 < matchN b (a - (m + 1)) a := by omega
        rw [if_pos ⟨hn, by simp only; omega⟩, if_pos hk, if_pos (by simp only; omega)]
      · rw [if_neg (fun h => hn h.1)]
        by_cases hk : (longTo b a m).1 < matchN b (a - (m + 1)) a
        · rw [if_pos hk, if_neg (by simp only; omega)]
        · rw [if_neg hk, if_neg h3]
theorem longTo_le (b : List Int) (a : Nat) : ∀ m, (longTo b a m).1 ≤ 66 ∧ (longTo b a m).2 ≤ m
  | 0 => by rw [longTo_zero]; exact ⟨by decide, by decide⟩
  | m + 1 => by
    have h := longTo_le b a m
    have h2 := (matchN_le b (a - (m + 1)) a).1
    rw [longTo_succ]
    unfold longStep
    split
    · exact ⟨h2, Nat.le_refl _⟩
    · exact ⟨h.1, by omega⟩
/-- The token at a. -/
def tokAtL (b : List Int) (a : Nat) : Tok := if (longTo b a (min a 1024)).1 < 3 then ⟨0, 0, b.getD a 0⟩ else ⟨((longTo b a (min a 1024)).1 : Int), ((longTo b a (min a 1024)).2 : Int), 0⟩
def widN (t : Tok) : Nat := if t.len = 0 then 1 else t.len.toNat
theorem tok_here {b : List Int} {a : Nat} (h : a < b.length) : tokFrom b a = tokAtL b a :: tokFrom b (a + widN (tokAtL b a)) ∧ 1 ≤ widN (tokAtL b a) ∧ a + widN (tokAtL b a) ≤ b.length ∧ ((tokAtL b a).len = 0 ∨ (3 ≤ (tokAtL b a).len ∧ (tokAtL b a).len ≤ 66)) := by
  have hb : bestL b a = if 3 ≤ (longTo b a (min a 1024)).1 then longTo b a (min a 1024) else (0, 0) := long_best b a _
  unfold tokAtL
  by_cases h3 : (longTo b a (min a 1024)).1 < 3
  · rw [if_neg (by omega)] at hb
    rw [if_pos h3, tokFrom_byte h (by rw [hb])]
    exact ⟨rfl, Nat.le_refl _, h, .inl rfl⟩
  · rw [if_pos (by omega)] at hb
    rw [if_neg h3, tokFrom_more h (by rw [hb]; omega), hb]
    have hw : widN ⟨((longTo b a (min a 1024)).1 : Int), ((longTo b a (min a 1024)).2 : Int), 0⟩ = (longTo b a (min a 1024)).1 := by
      unfold widN; rw [if_neg (by simp only; omega)]; simp
    rw [hw]
    have hs := best_spec b a
    rw [hb] at hs
    have h66 := (longTo_le b a (min a 1024)).1
    refine ⟨rfl, by omega, ?_, .inr ⟨by simp only; omega, by simp only; omega⟩⟩
    rcases hs with hs | hs
    · rw [hs] at h3; simp at h3
    · omega
/-- The groups of the first q eights. -/
def groupQ (l : List Tok) (q : Nat) : List Tok := (l.drop (8 * q)).take 8
def groupB (g : List Tok) : List Int := (flagsN g : Int) :: g.flatMap bodyT
def groupsTo (l : List Tok) (q : Nat) : List Int := (List.range q).flatMap fun j => groupB (groupQ l j)
theorem groupsTo_succ (l : List Tok) (q : Nat) : groupsTo l (q + 1) = groupsTo l q ++ groupB (groupQ l q) := by
  unfold groupsTo; rw [List.range_succ, List.flatMap_append]; simp
theorem groups_here (l : List Tok) (q : Nat) (h : 8 * q < l.length) : groupsL (l.drop (8 * q)) = groupB (groupQ l q) ++ groupsL (l.drop (8 * (q + 1))) := by
  rw [groupsL_more (by rw [List.length_drop]; omega), List.drop_drop]
  rfl
theorem groups_to (l : List Tok) : ∀ q, 8 * q ≤ l.length + 7 → groupsL l = groupsTo l q ++ groupsL (l.drop (8 * q))
  | 0, _ => rfl
  | q + 1, h => by
    rw [groups_to l q (by omega), groups_here l q (by omega), groupsTo_succ, List.append_assoc]
theorem groups_all {l : List Tok} {q : Nat} (h : l.length ≤ 8 * q) (h2 : 8 * q ≤ l.length + 7) : groupsL l = groupsTo l q := by
  rw [groups_to l q h2, groupsL_none (by rw [List.length_drop]; omega), List.append_nil]

end Go.Proofs.YtbkkfchcdfhfgadDoor

/- The walks of package pack's small functions: width, alike, longest, tokenAt. -/
namespace Go.Proofs.YtbkkfchcdfhfgadDoor
open Go.RowKit

@[reducible] def tokV (t : Tok) : Value := .agg #[.int .i64 t.len, .int .i64 t.back, .int .u8 t.byte]
def widI (t : Tok) : Int := if t.len = 0 then 1 else t.len
set_option maxRecDepth 100000 in
set_option maxHeartbeats 1000000 in
theorem width_any (x y z : Int) (w : World) :
    Calls Tryd.prog 83 #[.agg #[.int .i64 x, .int .i64 y, .int .u8 z]] w fun e w' => e = .returned (.int .i64 (widI ⟨x, y, z⟩)) ∧ Below w.heap.size w w' := by
  obtain ⟨x0, x1, x2, -, -, -⟩ := box_three (box_new w #[.int .i64 x, .int .i64 y, .int .u8 z] 117)
  have bW : Below w.heap.size w (w.alloc (.cells #[.int .i64 x, .int .i64 y, .int .u8 z] 117)) := (Below.refl _ _).alloc (Nat.le_refl _) _
  by_cases hx : x = 0
  · subst hx
    go_enter Tryd.func83, Tryd.ntmps83
    go_wp2_with fail
    go_ret
    exact ⟨rfl, bW⟩
  · have hx' : (x == 0) = false := by simpa using hx
    have hw : widI ⟨x, y, z⟩ = x := by unfold widI; rw [if_neg hx]
    rw [hw]
    clear hw
    go_enter Tryd.func83, Tryd.ntmps83
    go_wp2_with fail
    go_ret
    exact ⟨rfl, bW⟩
set_option maxRecDepth 100000 in
set_option maxHeartbeats 4000000 in
theorem alike_any (b : List Int) (g o bc a f : Nat) (w : World) (hg : g < w.heap.size) (hcell : ∀ j, j < b.length → w.cell? ⟨g, o + j, none⟩ = some (.int .u8 (b.getD j 0))) (hbl : b.length ≤ 4000) (ha : a < b.length) (hf1 : 1 ≤ f) (hfa : f ≤ a) :
    Calls Tryd.prog 115 #[.slice (some ⟨g, o, none⟩) b.length bc, .int .i64 a, .int .i64 f] w fun e w' => e = .returned (.int .i64 (matchN b (a - f) a)) ∧ Below w.heap.size w w' := by
  obtain ⟨M, hM⟩ : ∃ M : Nat, M = min (b.length - a) 66 := ⟨_, rfl⟩
  obtain ⟨p, hp⟩ : ∃ p : Nat, p = a - f := ⟨_, rfl⟩
  rw [← hp]
  have hpi : (p : Int) = a - f := by omega
  have hpa : p < a := by omega
  have HP : Hid ((p : Int) = a - f) := hpi
  clear hp hpi
  rcases (show (66 : Int) < (b.length : Int) - a ∨ ¬ (66 : Int) < (b.length : Int) - a by omega) with h66 | h66
  all_goals
    go_enter Tryd.func115, Tryd.ntmps115
    go_wp2_with fail
    go_loopw [8] (fun nv wi => ∃ k : Nat, k ≤ M ∧ nv = .int .i64 k ∧ Hid (∀ j, j < k → b.getD (p + j) 0 = b.getD (a + j) 0) ∧ Below w.heap.size w wi) (fun nv _ => M - (intOf nv).toNat)
    case atStart => exact ⟨0, Nat.zero_le _, rfl, fun j hj => absurd hj (Nat.not_lt_zero _), Below.refl _ _⟩
    case round =>
      obtain ⟨wi, rfl⟩ : ∃ x, x = wr := ⟨wr, rfl⟩
      obtain ⟨k, hkM, rfl, HK, hbi⟩ := hrel
      have w1 : IntKind.i64.wrap ((a : Int) + k) = (a : Int) + k := by rw [IntKind.wrap_i64]; omega
      have w2 : IntKind.i64.wrap ((a : Int) + k - f) = (p : Int) + k := by have := HP.out; rw [IntKind.wrap_i64]; omega
      by_cases c1 : k < M
      · have e1 := (hbi.cell (p := ⟨g, o + (p + k), none⟩) hg).trans (hcell (p + k) (by omega))
        have e2 := (hbi.cell (p := ⟨g, o + (a + k), none⟩) hg).trans (hcell (a + k) (by omega))
        rw [show o + (p + k) = o + ((p : Int) + k).toNat by omega] at e1
        rw [show o + (a + k) = o + ((a : Int) + k).toNat by omega] at e2
        have j0 : (a : Int) + k < b.length := by omega
        have j1 : (p : Int) + k < b.length := by omega
        have j2 : (k : Int) < 66 := by omega
        have j2' : (k : Int) < (b.length : Int) - a := by omega
        have j3 : 0 ≤ (p : Int) + k := by omega
        have j4 : 0 ≤ (a : Int) + k := by omega
        by_cases c3 : b.getD (p + k) 0 = b.getD (a + k) 0
        · have HK2 : Hid (∀ j, j < k + 1 → b.getD (p + j) 0 = b.getD (a + j) 0) := fun j hj => by
            by_cases hjk : j = k
            · rw [hjk]; exact c3
            · exact HK.out j (by omega)
          rw [c3] at e1
          clear c3 HK hcell
          generalize b.getD (a + k) 0 = y at *
          go_wp2
          go_quiet (fail)
          go_wp2
          exact ⟨⟨k + 1, by omega, by go_num, HK2, below_drewN' hbi nq⟩, by simp [intOf]; omega⟩
        · have d3 : (b.getD (p + k) 0 == b.getD (a + k) 0) = false := by simpa using c3
          have HC3 : Hid (matchN b p a = k) := match_end (by omega) HK.out (by omega) (by omega) (.inr (.inr c3))
          clear c3 HK
          obtain ⟨y1, Hy1⟩ : ∃ y, Hid (b.getD (p + k) 0 = y) := ⟨_, rfl⟩
          obtain ⟨y2, Hy2⟩ : ∃ y, Hid (b.getD (a + k) 0 = y) := ⟨_, rfl⟩
          rw [Hy1.out] at d3 e1
          rw [Hy2.out] at d3 e2
          have d4 : decide (y1 = y2) = false := decide_eq_false (by simpa using d3)
          clear hcell
          go_wp2
          go_quiet (fail)
          go_wp2
          go_ret
          exact ⟨by rw [HC3.out]; rfl, below_drewN' hbi nq⟩
      · have HC3 : Hid (matchN b p a = k) := match_end (by omega) HK.out (by omega) (by omega) (by omega)
        have hd : ((66 : Int) < (b.length : Int) - a → decide ((k : Int) < 66) = false) ∧ (¬ (66 : Int) < (b.length : Int) - a → decide ((k : Int) < (b.length : Int) - a) = false) := ⟨fun _ => decide_eq_false (by omega), fun _ => decide_eq_false (by omega)⟩
        clear HK hcell
        have d2 := hd
        first
          | replace d2 := hd.1 h66
          | replace d2 := hd.2 (by omega)
        clear hd
        go_wp2
        go_quiet (fail)
        go_wp2
        go_ret
        exact ⟨by rw [HC3.out]; rfl, below_drewN' hbi nq⟩

end Go.Proofs.YtbkkfchcdfhfgadDoor
