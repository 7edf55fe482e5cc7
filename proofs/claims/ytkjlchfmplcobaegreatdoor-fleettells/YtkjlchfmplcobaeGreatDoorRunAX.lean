/- FleetRefExport, FleetRefExportS, as one text. -/
import Derived.Test.YtkjlchfmplcobaeGreatDoorProg
import Derived.Test.YtkjlchfmplcobaeGreatDoorShelfRefExport
import Derived.WalkKit
import Derived.WalkSpells
import Derived.WalkLawsBesides
import Derived.Deep.RegionWith
import Derived.BigRegion
import Derived.Test.YtkjlchfmplcobaeGreatDoorRunAF
import Derived.Test.YtkjlchfmplcobaeGreatDoorFleetGoExport
import Derived.Deep.RegionHeld3
import Derived.Deep.QuietTactic
import Derived.BigQuiet
/- The walk of yearref5.Export at right entries: where what it tells lies. -/
namespace Go.Proofs.YtkjlchfmplcobaeGreatDoor
open Go.RowKit

/-- Each segment's bytes lie in a later block than B. -/
def HighV (vs : List Value) (m B : Nat) : Prop := ∀ j y g, j < m → vs[j * 3 + 2]? = some y → y.ownBlock = some g → B < g
theorem highV_nil (B : Nat) : HighV [] 0 B := fun _ _ _ h => absurd h (Nat.not_lt_zero _)
theorem HighV.snoc {m B : Nat} {vs : List Value} {a b y : Value} (h : HighV vs m B) (hl : vs.length = m * 3) (hy : ∀ g, y.ownBlock = some g → B < g) : HighV (vs ++ [a, b, y]) (m + 1) B := fun j z g hj hz hg => by
  by_cases e : j < m
  · rw [List.getElem?_append_left (by omega)] at hz
    exact h j z g e hz hg
  · obtain rfl : j = m := by omega
    rw [List.getElem?_append_right (by omega), hl, show j * 3 + 2 - j * 3 = 2 by omega] at hz
    cases hz
    exact hy g hg
theorem ownV_far {w : World} {base k o n : Nat} {v : Value} {vs : List Value} {l : List Seg} {cs : Array Value} {t : TypeId} {mk : Nat × Nat} (h : w.ownsRow base 104 3 v n vs ∧ SegEls w base vs l) (hk : w.heap[k]? = some (.cells cs t mk)) (hne : t ≠ 5) (hns : t ≠ 104) (u : Value) : (w.setCell ⟨k, o, none⟩ u).ownsRow base 104 3 v n vs ∧ SegEls (w.setCell ⟨k, o, none⟩ u) base vs l :=
  ⟨ownsRow_setCell_other h.1 (a := ⟨k, o, none⟩) (fun e => own_apart h.1 hns hk e.symm) u, h.2.far hk hne u⟩
set_option maxRecDepth 100000 in
set_option maxHeartbeats 8000000 in
theorem refExportO_any (L : List (List Int)) (a : Option Addr) (n c : Nat) (w : World) (hL : Lists w a n c L) (h0 : (wrongL L).1 = 0) :
    Calls Tryz.prog 52 #[.slice a n c] w fun e w' => ∃ xa xc va vc vs, e = .returned (.tuple #[.agg #[.int .i64 n, .slice xa 32 xc, .slice va (segsL L).length vc], faultV (0, 0)]) ∧ w'.ownsRow w.heap.size 5 1 (.slice xa 32 xc) 32 ((mth L).map (Value.int .u8)) ∧ (w'.ownsRow w.heap.size 104 3 (.slice va (segsL L).length vc) (segsL L).length vs ∧ SegEls w' w.heap.size vs (segsL L)) ∧ RiseV vs (segsL L).length ∧ (∀ j y g, vs[j * 3 + 2]? = some y → j < (segsL L).length → y.ownBlock = some g → (Value.slice xa 32 xc).ownBlock ≠ some g) ∧ Below w.heap.size w w' := by
  obtain ⟨i0, hi0, hz0, hz1, hz2⟩ := info_parts Tryz.info104b
  have hcap := hL.cap
  have hroom := hL.room
  have hlen := hL.len
  unfold maxLen at hcap
  have b0 : Below w.heap.size w ((w.alloc (.cells #[.int .i64 0, .slice none 0 0, .slice none 0 0] 63)).alloc (.cells #[.int .i64 0, .int .i64 0] 31)) := ((Below.refl _ _).alloc (Nat.le_refl _) _).alloc (by simp) _
  have hR := refWrong_any L (.slice a n c) _ (hL.below b0).at' (by rw [hlen]; unfold maxLen; omega) hL.short
  have x0 := box_old _ (.cells #[.int .i64 0, .int .i64 0] 31) (box_new w #[.int .i64 0, .slice none 0 0, .slice none 0 0] 63)
  have y0 := box_last w (.cells #[.int .i64 0, .slice none 0 0, .slice none 0 0] 63) #[.int .i64 0, .int .i64 0] 31
  have z0 : ((w.alloc (.cells #[.int .i64 0, .slice none 0 0, .slice none 0 0] 63)).alloc (.cells #[.int .i64 0, .int .i64 0] 31)).heap.size = w.heap.size + 2 := by simp
  · obtain ⟨h100, h200⟩ := wrong_ok h0
    have hm200 := mem_short h200
    have he := wrong_zero h100 h200
    have hE : exportL L = ⟨L.length, mth L, segsL L⟩ := by unfold exportL; rw [if_neg (fun h => h h0)]
    rw [he] at hR
    have hsb : SegsBytes (segsL L) := segsL_bytes hL.bytes hm200
    have hmb := bytes_mth L
    have hml := mth_length L
    have hM := fun w' (h : Below w.heap.size w w') => mth_any n L a c w' hlen (by omega) (hL.below h).at' hroom (by unfold maxLen; omega) hL.bytes (fun j => by have := h200 j; omega)
    clear hE he h0
    dsimp only at hR
    generalize mth L = M at *
    go_enter Tryz.func52, Tryz.ntmps52
    go_wp2_with fail
    generalize (w.alloc (.cells #[.int .i64 0, .slice none 0 0, .slice none 0 0] 63)).alloc (.cells #[.int .i64 0, .int .i64 0] 31) = w0 at *
    refine hR.mono ?_
    rintro e w1 ⟨rfl, hb1⟩
    have b1 : Below w.heap.size w w1 := b0.trans (hb1.mono b0.size)
    have hs1 := hb1.size
    have x1 := box_old _ (.cells #[.int .i64 0, .int .i64 0] 31) (box_kept x0 hb1)
    have y1 := box_old _ (.cells #[.int .i64 0, .int .i64 0] 31) (box_kept y0 hb1)
    have b2 : Below w.heap.size w (w1.alloc (.cells #[.int .i64 0, .int .i64 0] 31)) := b1.alloc b1.size _
    have hM2 := hM _ b2
    clear hR x0 y0 b0 b1 hM
    go_wp2_with fail
    generalize w1.alloc (.cells #[.int .i64 0, .int .i64 0] 31) = w2 at *
    refine hM2.mono ?_
    rintro e w3 ⟨x, rfl, ho, hb3⟩
    obtain ⟨xa, xc, rfl⟩ := own_form' ho
    have b3 := b2.trans (hb3.mono b2.size)
    have x3 := box_old _ (.cells #[.int .i64 n, .slice xa 32 xc, .slice none 0 0] 63) (box_kept x1 hb3)
    have y3 := box_old _ (.cells #[.int .i64 n, .slice xa 32 xc, .slice none 0 0] 63) (box_kept y1 hb3)
    have v3 := box_new w3 #[.int .i64 n, .slice xa 32 xc, .slice none 0 0] 63
    have ho3 := ownsRow_base (ho.alloc (.cells #[.int .i64 n, .slice xa 32 xc, .slice none 0 0] 63)) b2.size
    have hg2 : w.heap.size + 1 < w2.heap.size := lt_heap y1
    have ho4 := ho.alloc (.cells #[.int .i64 n, .slice xa 32 xc, .slice none 0 0] 63)
    have b4 : Below w.heap.size w (w3.alloc (.cells #[.int .i64 n, .slice xa 32 xc, .slice none 0 0] 63)) := b3.alloc b3.size _
    have hg3 : w2.heap.size ≤ w3.heap.size := hb3.size
    have hx3 : ∀ g, (Value.slice xa 32 xc).ownBlock = some g → g < w3.heap.size := fun g hg => (ho.lt g hg).2
    clear hM2 x1 y1 b3 ho ho3
    go_wp2_with fail
    generalize w3.alloc (.cells #[.int .i64 n, .slice xa 32 xc, .slice none 0 0] 63) = w4 at *
    obtain ⟨B5, hB5⟩ : ∃ B5, B5 = w3.heap.size := ⟨_, rfl⟩
    rw [← hB5] at v3 hg3 hx3 ⊢
    clear hB5
    go_loopw [6] (fun fv wr => ∃ (k : Nat) (va : Option Addr) (vc : Nat) (vs : List Value), 8 * k ≤ n + 7 ∧ fv = .int .i64 ((8 * k : Nat) : Int) ∧ wr.heap[B5]? = some (.cells #[.int .i64 n, .slice xa 32 xc, .slice va k vc] 63 (0, 0)) ∧ wr.ownsRow w.heap.size 104 3 (.slice va k vc) k vs ∧ SegEls wr w.heap.size vs (segsN L k) ∧ Hid (RiseV vs k ∧ HighV vs k B5) ∧ wr.ownsRow w2.heap.size 5 1 (.slice xa 32 xc) 32 (M.map (Value.int .u8)) ∧ wr.heap[w.heap.size]? = some (.cells #[.int .i64 0, .slice none 0 0, .slice none 0 0] 63 (0, 0)) ∧ wr.heap[w.heap.size + 1]? = some (.cells #[.int .i64 0, .int .i64 0] 31 (0, 0)) ∧ Below w.heap.size w wr) (fun fv _ => n + 8 - (intOf fv).toNat)
    case atStart => exact ⟨0, none, 0, [], by omega, rfl, v3, World.ownsRow_nil _ _ _ _, segEls_nil _ _, ⟨riseV_nil, highV_nil _⟩, ho4, x3, y3, b4⟩
    case round =>
      obtain ⟨wo, rfl⟩ : ∃ x, x = wr := ⟨wr, rfl⟩
      obtain ⟨k, va, vc, vs, hk, rfl, vo, hrow, hels, HRV, hoo, xo, yo, hbr⟩ := hrel
      have hsr := hbr.size
      clear v3 ho4 x3 y3 b4
      by_cases hlt : 8 * k < n
      · obtain ⟨b, off, pa, pc, rfl, -, -⟩ := hL.get (8 * k) hlt
        obtain ⟨q, Hq⟩ : ∃ q : Nat, Hid (q = min 8 (n - 8 * k)) := ⟨_, rfl⟩
        have hq1 : 1 ≤ q := by have := Hq.out; omega
        have hq8 : q ≤ 8 := by have := Hq.out; omega
        have hqn : 8 * k + q ≤ n := by have := Hq.out; omega
        have hpart : ((L.drop (8 * k)).take q) = ((L.drop (8 * k)).take 8) := by
          rw [Hq.out, ← hlen, ← List.length_drop, Nat.min_comm, ← List.take_take, List.take_of_length_le (by rw [List.length_take]; omega)]
        have HSK : Hid (segK L k = ⟨((8 * k : Nat) : Int), (q : Int), packL (layL ((L.drop (8 * k)).take 8))⟩) := by show _ = _; unfold segK; rw [hlen, ← Hq.out]
        have hLp := (hL.below hbr).part hqn hq1
        rw [hpart] at hLp
        have hdg : ∀ j, (((L.drop (8 * k)).take 8).getD j []).length ≤ 200 := take_short (fun j => by rw [List.getD_eq_getElem?_getD, List.getElem?_drop, ← List.getD_eq_getElem?_getD]; exact h200 _) 8
        have hW := refLay_any _ _ _ _ _ hLp hdg hq8
        have hX1 := lay_bytes hLp.bytes hdg
        have hX2 := lay_part hm200 k
        have hsn := segsN_snoc L k
        rw [HSK.out] at hsn
        have HSN : Hid (segsN L (k + 1) = segsN L k ++ [⟨((8 * k : Nat) : Int), (q : Int), packL (layL ((L.drop (8 * k)).take 8))⟩]) := hsn
        generalize layL ((L.drop (8 * k)).take 8) = X at *
        have hP : ∀ w' v, BytesAt w' v X → Calls Tryz.prog 82 #[v] w' fun e w'' => ∃ v', e = .returned (.tuple #[v', .int .i64 0]) ∧ w''.ownsRow w'.heap.size 5 1 v' (packL X).length ((packL X).map (Value.int .u8)) ∧ Below w'.heap.size w' w'' := fun w' v h => by
          have := refPackO_any X v w' ⟨h, hX1, by unfold maxLen; omega⟩
          unfold muchE packE at this
          rwa [if_neg (by omega), if_neg (by omega)] at this
        have hend : ((n : Int) < ((8 * k : Nat) : Int) + 8 ∧ n = 8 * k + q) ∨ (¬ (n : Int) < ((8 * k : Nat) : Int) + 8 ∧ q = 8) := by have := Hq.out; omega
        generalize packL X = P at *
        clear hsn hpart hLp hdg hX1 hX2 HSK Hq h200 hm200
        obtain ⟨F, HF⟩ : ∃ F, Hid (8 * k = F) := ⟨_, rfl⟩
        rw [HF.out] at hW HSN hlt hqn hk hend ⊢
        have j1 : (F : Int) < n := by omega
        have j2 : (F : Int) + q ≤ n := by omega
        have j3 : (F : Int) + q ≤ c := by omega
        have j4 : ¬ c = F := by omega
        have hk15 : k ≤ 20 := by have := HF.out; omega
        rcases hend with ⟨he1, he2⟩ | ⟨he1, rfl⟩
        · have hcn : (n : Int) - (F : Int) = (q : Int) := by omega
          have hnq : n - F = q := by omega
          clear he2
          go_wp2_with fail
          refine hW.mono ?_
          rintro e w5 ⟨ta, tc, rfl, ho1, hb1⟩
          have b1 := hbr.trans (hb1.mono hsr)
          have hP1 := hP _ _ (bytesAt_own ho1)
          clear hW hP ho1
          go_wp2_with fail
          refine hP1.mono ?_
          rintro e w6 ⟨v2, rfl, ho2, hb2⟩
          have b2 := b1.trans (hb2.mono b1.size)
          have hw12 := (hb1.trans (hb2.mono hb1.size))
          have hrow2 := own3_below hrow hw12 (Nat.le_refl _)
          have hels2 := hels.below hw12 (Nat.le_refl _)
          have hoo2 := own_below hoo hw12 (Nat.le_refl _)
          have xo2 := box_kept xo hw12
          have yo2 := box_kept yo hw12
          have vo2 := box_kept vo hw12
          have hs2 := b2.size
          have hsn2 := hels2.snoc (s := ⟨(F : Int), (q : Int), P⟩) (ownsRow_base ho2 b1.size)
          obtain ⟨ya, yc, rfl⟩ := own_form' ho2
          have HRV2 : ∀ a b : Value, Hid (RiseV (vs ++ [a, b, .slice ya P.length yc]) (k + 1) ∧ HighV (vs ++ [a, b, .slice ya P.length yc]) (k + 1) B5) := fun a b => ⟨HRV.out.1.snoc hels (segsN_length L k) (fun g hg => Nat.le_trans hb1.size (ho2.lt g hg).1), HRV.out.2.snoc (by rw [hels.1, segsN_length]) (fun g hg => Nat.lt_of_lt_of_le (lt_heap vo) (Nat.le_trans hb1.size (ho2.lt g hg).1))⟩
          have hnew := lit_seg w6 (F : Int) (q : Int) (.slice ya P.length yc) 104
          have hone : ∀ u ∈ [Value.int .i64 (F : Int), .int .i64 (q : Int), .slice ya P.length yc], u.oneCell' = true := by intro u hu; simp at hu; rcases hu with rfl | rfl | rfl <;> rfl
          have hrowA := hrow2.alloc (.cells #[.int .i64 (F : Int), .int .i64 (q : Int), .slice ya P.length yc] 104)
          have helsA := hsn2.alloc (.cells #[.int .i64 (F : Int), .int .i64 (q : Int), .slice ya P.length yc] 104)
          have hooA := hoo2.alloc (.cells #[.int .i64 (F : Int), .int .i64 (q : Int), .slice ya P.length yc] 104)
          have xoA := box_old _ (.cells #[.int .i64 (F : Int), .int .i64 (q : Int), .slice ya P.length yc] 104) xo2
          have yoA := box_old _ (.cells #[.int .i64 (F : Int), .int .i64 (q : Int), .slice ya P.length yc] 104) yo2
          have voA := box_old _ (.cells #[.int .i64 (F : Int), .int .i64 (q : Int), .slice ya P.length yc] 104) vo2
          have bA : Below w.heap.size w (w6.alloc (.cells #[.int .i64 (F : Int), .int .i64 (q : Int), .slice ya P.length yc] 104)) := b2.alloc hs2 _
          have hsA := bA.size
          obtain ⟨s0, s1, s2, s3, s4, s5⟩ := box_three vo2
          clear hrow hels hels2 hsn2 hrow2 hP1 ho2 hw12 hb1 hb2 hoo hoo2 xo yo vo xo2 yo2 vo2
          go_wp2_with (at_builtin; refine wpList_append_own _ rfl (.tmp 47) (.tmp 54) 61 rfl w.heap.size 104 i0 _ 3 40 Tryz.underlying61 hi0 hz0 hz1 hz2 rfl (by decide) _ _ _ rfl hrowA ⟨w6.heap.size, 0, none⟩ 1 1 [.int .i64 (F : Int), .int .i64 (q : Int), .slice ya P.length yc] rfl rfl hnew hone (by unfold maxLen; omega) (by omega) hsA ?_; intro v7 w7 ho7 hg7 _; obtain ⟨sa, sc, rfl⟩ := own3_form ho7; have vo7 : w7.heap[B5]? = _ := (hg7.block B5 (lt_heap voA) (own_apart hrowA (by decide) voA)).trans voA; obtain ⟨r0, r1, r2, r3, r4, r5⟩ := box_three vo7)
          have b7 : Below w.heap.size w w7 := bA.grown hg7 hsA (fun _ h => own3_block hrowA h)
          have hels7 := helsA.kept hrowA hg7
          have hoo7 := hooA.kept hg7 (own_ne3 hooA hrowA (by decide)).or
          have xo7 := (hg7.block _ (lt_heap xoA) (own_apart hrowA (by decide) xoA)).trans xoA
          have yo7 := (hg7.block _ (lt_heap yoA) (own_apart hrowA (by decide) yoA)).trans yoA
          have hB5 : w.heap.size + 1 < B5 := by omega
          have ho8 := ownsRow_setCell_other ho7 (a := ⟨B5, 2, none⟩) (fun e => own_apart ho7 (by decide) vo7 e.symm) (.slice sa (k + 1) sc)
          have hels8 := hels7.far (o := 2) vo7 (by decide) (.slice sa (k + 1) sc)
          have hoo8 := ownsRow_setCell_other hoo7 (a := ⟨B5, 2, none⟩) (fun e => own_apart hoo7 (by decide) vo7 e.symm) (.slice sa (k + 1) sc)
          have xo8 := box_set_far (j := B5) (o := 2) (v := .slice sa (k + 1) sc) xo7 (by omega)
          have yo8 := box_set_far (j := B5) (o := 2) (v := .slice sa (k + 1) sc) yo7 (by omega)
          have vo8 := heap_setCell_same _ _ 2 _ _ (.slice sa (k + 1) sc) vo7
          have b8 := b7.setCell (p := ⟨B5, 2, none⟩) (by show w.heap.size ≤ B5; omega) (.slice sa (k + 1) sc)
          go_roundw
          case rel =>
            refine ⟨k + 1, sa, sc, _, by have := HF.out; omega, ?_, vo8, ho8, by rw [HSN.out]; exact hels8, HRV2 _ _, hoo8, xo8, yo8, b8⟩
            have := HF.out
            rw [show ((8 * (k + 1) : Nat) : Int) = (F : Int) + 8 by omega]
          case measure => simp [intOf]; omega
        · have j5 : (F : Int) + 8 ≤ n := by omega
          have hcn : (F : Int) + 8 - (F : Int) = 8 := by omega
          go_wp2_with fail
          refine hW.mono ?_
          rintro e w5 ⟨ta, tc, rfl, ho1, hb1⟩
          have b1 := hbr.trans (hb1.mono hsr)
          have hP1 := hP _ _ (bytesAt_own ho1)
          clear hW hP ho1
          go_wp2_with fail
          refine hP1.mono ?_
          rintro e w6 ⟨v2, rfl, ho2, hb2⟩
          have b2 := b1.trans (hb2.mono b1.size)
          have hw12 := (hb1.trans (hb2.mono hb1.size))
          have hrow2 := own3_below hrow hw12 (Nat.le_refl _)
          have hels2 := hels.below hw12 (Nat.le_refl _)
          have hoo2 := own_below hoo hw12 (Nat.le_refl _)
          have xo2 := box_kept xo hw12
          have yo2 := box_kept yo hw12
          have vo2 := box_kept vo hw12
          have hs2 := b2.size
          have hsn2 := hels2.snoc (s := ⟨(F : Int), (8 : Int), P⟩) (ownsRow_base ho2 b1.size)
          obtain ⟨ya, yc, rfl⟩ := own_form' ho2
          have HRV2 : ∀ a b : Value, Hid (RiseV (vs ++ [a, b, .slice ya P.length yc]) (k + 1) ∧ HighV (vs ++ [a, b, .slice ya P.length yc]) (k + 1) B5) := fun a b => ⟨HRV.out.1.snoc hels (segsN_length L k) (fun g hg => Nat.le_trans hb1.size (ho2.lt g hg).1), HRV.out.2.snoc (by rw [hels.1, segsN_length]) (fun g hg => Nat.lt_of_lt_of_le (lt_heap vo) (Nat.le_trans hb1.size (ho2.lt g hg).1))⟩
          have hnew := lit_seg w6 (F : Int) (8 : Int) (.slice ya P.length yc) 104
          have hone : ∀ u ∈ [Value.int .i64 (F : Int), .int .i64 (8 : Int), .slice ya P.length yc], u.oneCell' = true := by intro u hu; simp at hu; rcases hu with rfl | rfl | rfl <;> rfl
          have hrowA := hrow2.alloc (.cells #[.int .i64 (F : Int), .int .i64 (8 : Int), .slice ya P.length yc] 104)
          have helsA := hsn2.alloc (.cells #[.int .i64 (F : Int), .int .i64 (8 : Int), .slice ya P.length yc] 104)
          have hooA := hoo2.alloc (.cells #[.int .i64 (F : Int), .int .i64 (8 : Int), .slice ya P.length yc] 104)
          have xoA := box_old _ (.cells #[.int .i64 (F : Int), .int .i64 (8 : Int), .slice ya P.length yc] 104) xo2
          have yoA := box_old _ (.cells #[.int .i64 (F : Int), .int .i64 (8 : Int), .slice ya P.length yc] 104) yo2
          have voA := box_old _ (.cells #[.int .i64 (F : Int), .int .i64 (8 : Int), .slice ya P.length yc] 104) vo2
          have bA : Below w.heap.size w (w6.alloc (.cells #[.int .i64 (F : Int), .int .i64 (8 : Int), .slice ya P.length yc] 104)) := b2.alloc hs2 _
          have hsA := bA.size
          obtain ⟨s0, s1, s2, s3, s4, s5⟩ := box_three vo2
          clear hrow hels hels2 hsn2 hrow2 hP1 ho2 hw12 hb1 hb2 hoo hoo2 xo yo vo xo2 yo2 vo2
          go_wp2_with (at_builtin; refine wpList_append_own _ rfl (.tmp 47) (.tmp 54) 61 rfl w.heap.size 104 i0 _ 3 40 Tryz.underlying61 hi0 hz0 hz1 hz2 rfl (by decide) _ _ _ rfl hrowA ⟨w6.heap.size, 0, none⟩ 1 1 [.int .i64 (F : Int), .int .i64 (8 : Int), .slice ya P.length yc] rfl rfl hnew hone (by unfold maxLen; omega) (by omega) hsA ?_; intro v7 w7 ho7 hg7 _; obtain ⟨sa, sc, rfl⟩ := own3_form ho7; have vo7 : w7.heap[B5]? = _ := (hg7.block B5 (lt_heap voA) (own_apart hrowA (by decide) voA)).trans voA; obtain ⟨r0, r1, r2, r3, r4, r5⟩ := box_three vo7)
          have b7 : Below w.heap.size w w7 := bA.grown hg7 hsA (fun _ h => own3_block hrowA h)
          have hels7 := helsA.kept hrowA hg7
          have hoo7 := hooA.kept hg7 (own_ne3 hooA hrowA (by decide)).or
          have xo7 := (hg7.block _ (lt_heap xoA) (own_apart hrowA (by decide) xoA)).trans xoA
          have yo7 := (hg7.block _ (lt_heap yoA) (own_apart hrowA (by decide) yoA)).trans yoA
          have hB5 : w.heap.size + 1 < B5 := by omega
          have ho8 := ownsRow_setCell_other ho7 (a := ⟨B5, 2, none⟩) (fun e => own_apart ho7 (by decide) vo7 e.symm) (.slice sa (k + 1) sc)
          have hels8 := hels7.far (o := 2) vo7 (by decide) (.slice sa (k + 1) sc)
          have hoo8 := ownsRow_setCell_other hoo7 (a := ⟨B5, 2, none⟩) (fun e => own_apart hoo7 (by decide) vo7 e.symm) (.slice sa (k + 1) sc)
          have xo8 := box_set_far (j := B5) (o := 2) (v := .slice sa (k + 1) sc) xo7 (by omega)
          have yo8 := box_set_far (j := B5) (o := 2) (v := .slice sa (k + 1) sc) yo7 (by omega)
          have vo8 := heap_setCell_same _ _ 2 _ _ (.slice sa (k + 1) sc) vo7
          have b8 := b7.setCell (p := ⟨B5, 2, none⟩) (by show w.heap.size ≤ B5; omega) (.slice sa (k + 1) sc)
          go_roundw
          case rel =>
            refine ⟨k + 1, sa, sc, _, by have := HF.out; omega, ?_, vo8, ho8, by rw [HSN.out]; exact hels8, HRV2 _ _, hoo8, xo8, yo8, b8⟩
            have := HF.out
            rw [show ((8 * (k + 1) : Nat) : Int) = (F : Int) + 8 by omega]
          case measure => simp [intOf]; omega
      · have hkk : k = (L.length + 7) / 8 := by omega
        have hj1 : ¬ ((8 * k : Nat) : Int) < n := by omega
        have hN : segsN L k = segsL L := by unfold segsL; rw [hkk]
        rw [hN] at hels
        have hl2 : (segsL L).length = k := by unfold segsL; rw [segsN_length, ← hkk]
        have HO : Hid (wo.ownsRow w.heap.size 104 3 (.slice va k vc) k vs ∧ SegEls wo w.heap.size vs (segsL L)) := ⟨hrow, hels⟩
        have HL2 : Hid ((segsL L).length = k) := hl2
        clear hN hl2 hkk hrow hels hk h200 hm200
        obtain ⟨F, HF⟩ : ∃ F, Hid (8 * k = F) := ⟨_, rfl⟩
        rw [HF.out] at hj1 ⊢
        obtain ⟨u0, u1, u2, u3, u4, u5⟩ := box_three xo
        obtain ⟨t0, t1, t2, t3⟩ := box_two yo
        obtain ⟨s0, s1, s2, -, -, -⟩ := box_three vo
        have hne1 : w.heap.size ≠ B5 := by omega
        have hne2 : w.heap.size + 1 ≠ B5 := by omega
        have hb1 : w.heap.size < w2.heap.size := by omega
        go_wp2_with fail
        refine bodyPost_ret (v := .tuple #[.agg #[.int .i64 n, .slice xa 32 xc, .slice va k vc], faultV (0, 0)]) (by simp [results, Tryz.results52, go_sem, u0, u1, u2, t0, t1]) rfl ?_
        rw [HL2.out]
        refine ⟨xa, xc, va, vc, rfl, ?_, vs, ?_, HRV.out.1, fun j y g hy hj hg hx => ?_, ?_⟩
        · exact ownsRow_base (ownsRow_setCell_below (ownsRow_setCell_below (ownsRow_setCell_below (ownsRow_setCell_below (ownsRow_setCell_below hoo hb1 _) hb1 _) hb1 _) hg2 _) hg2 _) (by omega)
        · have q0 := ownV_far HO.out (o := 0) xo (by decide) (by decide) (.int .i64 n)
          have x1' := heap_setCell_same _ _ 0 _ _ (.int .i64 (n : Int)) xo
          have q1 := ownV_far q0 (o := 1) x1' (by decide) (by decide) (.slice xa 32 xc)
          have x2' := heap_setCell_same _ _ 1 _ _ (.slice xa 32 xc) x1'
          have q2 := ownV_far q1 (o := 2) x2' (by decide) (by decide) (.slice va k vc)
          have y1' := box_set_far (j := w.heap.size) (o := 2) (v := .slice va k vc) (box_set_far (j := w.heap.size) (o := 1) (v := .slice xa 32 xc) (box_set_far (j := w.heap.size) (o := 0) (v := .int .i64 (n : Int)) yo (by omega)) (by omega)) (by omega)
          have q3 := ownV_far q2 (o := 0) y1' (by decide) (by decide) (.int .i64 0)
          have y2' := heap_setCell_same _ _ 0 _ _ (.int .i64 0) y1'
          exact ownV_far q3 (o := 1) y2' (by decide) (by decide) (.int .i64 0)
        · have p1 := hx3 g hx
          have p2 := HRV.out.2 j y g hj hy hg
          omega
        · exact ((((hbr.setCell (Nat.le_refl _) _).setCell (Nat.le_refl _) _).setCell (Nat.le_refl _) _).setCell (Nat.le_succ _) _).setCell (Nat.le_succ _) _

end Go.Proofs.YtkjlchfmplcobaeGreatDoor

/- The walk of the reference's Step where a shard is exported: package yearref5. -/
namespace Go.Proofs.YtkjlchfmplcobaeGreatDoor
open Go.RowKit

/-- A shard's state and its manifest are written. -/
theorem ShO.man2 {τ : Nat → Tag} {N sb n c k : Nat} {w : World} {ss : List Shd} {V : Nat → ShV} (h : ShO τ N w (.slice (some ⟨sb, 0, none⟩) n c) ss V k) (hn : ss.length = n) (hk : k < n) (m : Man) (st : Int) (rv gv : Value) :
    ShO τ N ((((w.setCell ⟨sb, k * 7 + 2, none⟩ (.int .i64 st)).setCell ⟨sb, k * 7 + 4, none⟩ (.int .i64 m.size)).setCell ⟨sb, k * 7 + 5, none⟩ rv).setCell ⟨sb, k * 7 + 6, none⟩ gv) (.slice (some ⟨sb, 0, none⟩) n c) (ss.set k { (ss.getD k shd0) with state := st, man := m }) (fun j => if j = k then ((V k).1, rv, gv) else V j) k := by
  have hl : ∀ s, (ss.set k s).length = n := fun s => by rw [List.length_set]; exact hn
  have hg : ∀ s, (ss.set k s).getD k shd0 = s := fun s => getD_set_same (by omega)
  have h1 := h.store (i := 2) (u := .int .i64 st) (s' := { (ss.getD k shd0) with state := st }) (v' := V k) hn hk (by omega) rfl
  have h2 := h1.store (i := 4) (u := .int .i64 m.size) (s' := { (ss.getD k shd0) with state := st, man := { (ss.getD k shd0).man with size := m.size } }) (v' := V k) (hl _) hk (by omega) (by rw [hg, if_pos rfl]; rfl)
  have h3 := h2.store (i := 5) (u := rv) (s' := { (ss.getD k shd0) with state := st, man := { (ss.getD k shd0).man with size := m.size, root := m.root } }) (v' := ((V k).1, rv, (V k).2.2)) (by rw [List.length_set]; exact hl _) hk (by omega) (by rw [List.set_set, hg, if_pos rfl]; rfl)
  have h4 := h3.store (i := 6) (u := gv) (s' := { (ss.getD k shd0) with state := st, man := m }) (v' := ((V k).1, rv, gv)) (by rw [List.length_set, List.length_set]; exact hl _) hk (by omega) (by rw [List.set_set, List.set_set, hg, if_pos rfl]; rfl)
  rw [List.set_set, List.set_set, List.set_set] at h4
  have e : (fun j => if j = k then ((V k).1, rv, gv) else (fun j => if j = k then ((V k).1, rv, (V k).2.2) else (fun j => if j = k then V k else (fun j => if j = k then V k else V j) j) j) j) = (fun j => if j = k then ((V k).1, rv, gv) else V j) := by
    funext j
    by_cases e : j = k
    · simp only [if_pos e]
    · simp only [if_neg e]
  rw [← e]
  exact h4
set_option maxRecDepth 100000 in
set_option maxHeartbeats 4000000 in
theorem refExportS_any (f : Flt) (d : Dd) (k : Nat) (τ : Nat → Tag) (N gp : Nat) (da : Option Addr) (dc : Nat) (w : World) (hF : RfF τ N w gp f) (hN : N ≤ w.heap.size) (hk : k < f.shards.length) (hst : (f.shards.getD k shd0).state = 2) (hwr : wrongL (f.shards.getD k shd0).entries = (0, 0)) :
    Calls Tryz.prog 18 #[.pointer (some ⟨gp, 0, none⟩), .agg #[.int .i64 3, .int .i64 (k : Int), .int .i64 d.time, .slice da d.entry.length dc, .int .i64 d.segment, .int .i64 d.at', .int .u8 d.by']] w fun e w' => ∃ av, e = .returned av ∧ RfWent τ N gp w w' av (exportS f k) := by
  have b0 : Below w.heap.size w ((w.alloc (.cells #[.int .i64 3, .int .i64 (k : Int), .int .i64 d.time, .slice da d.entry.length dc, .int .i64 d.segment, .int .i64 d.at', .int .u8 d.by'] 56)).alloc (.cells #[.int .i64 0, .int .i64 0, .int .i64 0, .int .i64 0, .slice none 0 0] 41)) := ((Below.refl _ _).alloc (Nat.le_refl _) _).alloc (by simp) _
  have x0 := box_one w #[.int .i64 3, .int .i64 (k : Int), .int .i64 d.time, .slice da d.entry.length dc, .int .i64 d.segment, .int .i64 d.at', .int .u8 d.by'] 56 (.cells #[.int .i64 0, .int .i64 0, .int .i64 0, .int .i64 0, .slice none 0 0] 41)
  have z0 := box_last w (.cells #[.int .i64 3, .int .i64 (k : Int), .int .i64 d.time, .slice da d.entry.length dc, .int .i64 d.segment, .int .i64 d.at', .int .u8 d.by'] 56) #[.int .i64 0, .int .i64 0, .int .i64 0, .int .i64 0, .slice none 0 0] 41
  have HNO : ∀ (w1 : World) (x : Ans) (u0 u1 u2 u3 u4 : Value), Hid (Below w.heap.size w w1 → x.root = [] → RfWent τ N gp w (((((w1.setCell ⟨w.heap.size + 1, 0, none⟩ u0).setCell ⟨w.heap.size + 1, 1, none⟩ u1).setCell ⟨w.heap.size + 1, 2, none⟩ u2).setCell ⟨w.heap.size + 1, 3, none⟩ u3).setCell ⟨w.heap.size + 1, 4, none⟩ u4) (.agg #[.int .i64 x.err, .int .i64 x.shard, .int .i64 x.place, .int .i64 x.size, .slice none 0 0]) (f, x)) := fun w1 x u0 u1 u2 u3 u4 h1 h2 => rfwent_no hF hN h1 (by omega) h2 _ _ _ _ _
  obtain ⟨sa, sc, ba, bc, V, hB, hS⟩ := hF.open
  have U0 := upd_call (τ := τ) b0 tNo
  have hB0 := hB.upd U0 no_row
  have hS0 := hS.upd U0 no_row
  have K0 := keep_call (τ := τ) b0 hN tNo
  have hR0 : ext τ w.heap.size tNo (w.heap.size + 1) = tNo := ext_new (by omega)
  have hsl : f.shards.length ≤ 9223372036854775807 := by obtain ⟨vs, h1, -⟩ := hS.row; have := own_small h1; unfold maxLen at this; omega
  obtain ⟨g0, g1, -, -⟩ := box_two hB0.box
  obtain ⟨u0, u1, -, -, -, -, -⟩ := box_seven x0
  obtain ⟨sb, rfl, hNs, hsb, htb, hfz, hcs⟩ := (hS0.out k).cells rfl hk
  have q1 : ¬ (k : Int) < 0 := by omega
  have q2 : ¬ (f.shards.length : Int) ≤ (k : Int) := by omega
  have q1' : decide ((k : Int) < 0) = false := decide_eq_false q1
  have q2' : decide ((f.shards.length : Int) ≤ (k : Int)) = false := decide_eq_false q2
  have q3 : (0 : Int) ≤ k := by omega
  have q4 : (k : Int) < f.shards.length := by omega
  have k2 : _ = some (Value.int .i64 (f.shards.getD k shd0).state) := hcs 2 (by omega)
  rw [hst] at k2
  have h0 : (wrongL (f.shards.getD k shd0).entries).1 = 0 := by rw [hwr]
  have hE0 := hS0.ent k hk
  obtain ⟨ea, ec, hVe⟩ := hE0.form
  have hEl := hE0
  rw [hVe] at hEl
  replace hEl := hEl.lists rfl
  obtain ⟨h100, h200⟩ := wrong_ok h0
  have hsb' : SegsBytes (segsL (f.shards.getD k shd0).entries) := segsL_bytes hEl.bytes (mem_short h200)
  have k3 : _ = some (V k).1 := hcs 3 (by omega)
  rw [hVe] at k3
  have hm32 := mth_length (f.shards.getD k shd0).entries
  have hmb := bytes_mth (f.shards.getD k shd0).entries
  have hEE := fun W (h : Below _ _ W) => refExportO_any _ _ _ _ W (hEl.below h) h0
  have hXL : exportL (f.shards.getD k shd0).entries = ⟨(f.shards.getD k shd0).entries.length, mth (f.shards.getD k shd0).entries, segsL (f.shards.getD k shd0).entries⟩ := by unfold exportL; rw [if_neg (fun h => h h0)]
  have HRES : Hid ((⟨f.shards.set k { (f.shards.getD k shd0) with state := 3, man := ⟨(f.shards.getD k shd0).entries.length, mth (f.shards.getD k shd0).entries, segsL (f.shards.getD k shd0).entries⟩ }, f.book⟩, ⟨0, (k : Int), 0, ((f.shards.getD k shd0).entries.length : Int), mth (f.shards.getD k shd0).entries⟩) = exportS f k) := by show _ = _; unfold exportS; rw [hXL]
  obtain ⟨X, HX⟩ : ∃ X, Hid (f.shards.getD k shd0 = X) := ⟨_, rfl⟩
  rw [HX.out] at hVe k3 hm32 hmb hEE HRES hsb'
  generalize exportS f k = RES at *
  generalize hT : ext τ w.heap.size tNo = τ1 at *
  clear hF hB hS U0 hE0 hEl hXL h100 h200 hcs hst HNO hwr h0
  go_enter Tryz.func18, Tryz.ntmps18
  go_wp2_with fail
  generalize (w.alloc (.cells #[.int .i64 3, .int .i64 (k : Int), .int .i64 d.time, .slice da d.entry.length dc, .int .i64 d.segment, .int .i64 d.at', .int .u8 d.by'] 56)).alloc (.cells #[.int .i64 0, .int .i64 0, .int .i64 0, .int .i64 0, .slice none 0 0] 41) = w0 at *
  go_quiet (fail)
  have c1 := below_drewN' (Below.refl w0.heap.size w0) nq
  obtain ⟨v0, v1, -, -, -, -, -⟩ := box_seven (box_kept x0 c1)
  obtain ⟨p0, p1, -, -⟩ := box_two (box_kept hB0.box c1)
  generalize w0.drewN nq = wQ at *
  clear u0 u1 g0 g1
  go_wp2_with fail
  go_quiet (fail)
  have c2 := c1.trans ((below_drewN' (Below.refl wQ.heap.size wQ) nq).mono c1.size)
  generalize wQ.drewN nq = wR at *
  have c3 : Below w0.heap.size w0 (wR.alloc (.cells #[.int .i64 0, .int .i64 0, .int .i64 1, .int .i64 2, .int .i64 3, .int .i64 3] 3)) := c2.alloc c2.size _
  obtain ⟨v0, v1, -, -, -, -, -⟩ := box_seven (box_kept x0 c3)
  have j2 := (c3.cell (p := ⟨sb, k * 7 + 2, none⟩) hsb).trans k2
  have six := cell_of_row _ _ 3 _ _ _ (box_new wR #[.int .i64 0, .int .i64 0, .int .i64 1, .int .i64 2, .int .i64 3, .int .i64 3] 3)
  have j3 := (c3.cell (p := ⟨sb, k * 7 + 3, none⟩) hsb).trans k3
  replace hEE := hEE _ c3
  clear k2 k3 p0 p1
  go_wp2_with fail
  generalize wR.alloc (.cells #[.int .i64 0, .int .i64 0, .int .i64 1, .int .i64 2, .int .i64 3, .int .i64 3] 3) = wS at *
  refine hEE.mono ?_
  rintro e w1 ⟨xa, xc, va, vc, vs, rfl, ho1, ⟨hs1, hs2⟩, hri, hap, hb1⟩
  have d1 : Below w1.heap.size w1 ((w1.alloc (.cells #[.int .i64 (X.entries.length : Int), .slice xa 32 xc, .slice va (segsL X.entries).length vc] 63)).alloc (.cells #[.int .i64 0, .int .i64 0] 31)) := ((Below.refl _ _).alloc (Nat.le_refl _) _).alloc (by simp) _
  have m1 := box_one w1 #[.int .i64 (X.entries.length : Int), .slice xa 32 xc, .slice va (segsL X.entries).length vc] 63 (.cells #[.int .i64 0, .int .i64 0] 31)
  have f1 := box_last w1 (.cells #[.int .i64 (X.entries.length : Int), .slice xa 32 xc, .slice va (segsL X.entries).length vc] 63) #[.int .i64 0, .int .i64 0] 31
  have e1 := c3.trans ((hb1.trans (d1.mono hb1.size)).mono c3.size)
  have hNS : N ≤ wS.heap.size := Nat.le_trans hN (Nat.le_trans b0.size c3.size)
  obtain ⟨τ2, ht2, hSg1, hRo1⟩ := tag_segs (τ := τ1) (N := N) (k := k) hs1 hs2 hri ho1 hap hsb' hmb hNS
  have U1 : Upd τ1 τ2 wS w1 none := ⟨grown_below hb1, ht2⟩
  have U2 : Upd τ2 τ2 w1 _ none := upd_same d1
  have hN0 : N ≤ w0.heap.size := Nat.le_trans hN b0.size
  have hN1 : N ≤ w1.heap.size := Nat.le_trans hNS hb1.size
  have hS1 := ((hS0.upd (upd_same c3) no_row).upd U1 no_row).upd U2 no_row
  have hB1 := ((hB0.upd (upd_same c3) no_row).upd U1 no_row).upd U2 no_row
  have K1 := ((K0.trans (keep_upd (upd_same c3) hN0 no_row)).trans (keep_upd U1 hNS no_row)).trans (keep_upd U2 hN1 no_row)
  replace hSg1 := hSg1.upd U2 no_row (fun _ => no_row)
  replace hRo1 := hRo1.upd U2 no_row
  have z1 := box_kept z0 e1
  have x1 := box_kept x0 e1
  have hlS : ∀ {b : Nat}, b < w0.heap.size → τ2 b = τ1 b := fun h => ht2 _ (Nat.lt_of_lt_of_le h c3.size)
  have hR1 : τ2 (w.heap.size + 1) = tNo := (hlS (lt_heap z0)).trans hR0
  have hX1 : τ2 w.heap.size = tNo := (hlS (lt_heap x0)).trans (by rw [← hT]; exact ext_new (Nat.le_refl _))
  have htb1 : τ2 sb = tSh := (hlS hsb).trans htb
  generalize hWA : (w1.alloc (.cells #[.int .i64 (X.entries.length : Int), .slice xa 32 xc, .slice va (segsL X.entries).length vc] 63)).alloc (.cells #[.int .i64 0, .int .i64 0] 31) = wA at *
  have hNA : N ≤ wA.heap.size := Nat.le_trans hN1 d1.size
  obtain ⟨sb', e, -, -, -, hfz1, hcs1⟩ := (hS1.out k).cells rfl hk
  cases e
  have i2 : wA.cell? ⟨sb, k * 7 + 2, none⟩ = some (Value.int .i64 (f.shards.getD k shd0).state) := hcs1 2 (by omega)
  have i4 : wA.cell? ⟨sb, k * 7 + 4, none⟩ = some (Value.int .i64 (f.shards.getD k shd0).man.size) := hcs1 4 (by omega)
  have i5 : wA.cell? ⟨sb, k * 7 + 5, none⟩ = some (V k).2.1 := hcs1 5 (by omega)
  have i6 : wA.cell? ⟨sb, k * 7 + 6, none⟩ = some (V k).2.2 := hcs1 6 (by omega)
  have f2 := hfz1 (k * 7 + 2)
  have f4 := hfz1 (k * 7 + 4)
  have f5 := hfz1 (k * 7 + 5)
  have f6 := hfz1 (k * 7 + 6)
  have hO5 := (hS1.out k).man2 rfl hk ⟨(X.entries.length : Int), mth X.entries, segsL X.entries⟩ 3 (.slice xa 32 xc) (.slice va (segsL X.entries).length vc)
  have U5 := four_upd (τ := τ2) (sb := sb) (a := k * 7 + 2) (b := k * 7 + 4) (c := k * 7 + 5) (d := k * 7 + 6) (w := wA) (.int .i64 3) (.int .i64 (X.entries.length : Int)) (.slice xa 32 xc) (.slice va (segsL X.entries).length vc)
  have ne : ∀ t : Tag, t ≠ tSh → ∀ b, some sb = some b → τ2 b ≠ t := fun t h1 b hb e => by cases hb; exact h1 (e.symm.trans htb1)
  have hEn5 := (hS1.ent k hk).upd U5 (ne _ (by decide)) (ne _ (by simp [tEnt, tSh]))
  have hRo5 := hRo1.upd U5 (ne _ (by decide))
  have hSg5 := hSg1.upd U5 (ne _ (by simp [tSeg, tSh])) (fun j => ne _ (by simp [tPk, tSh]))
  have hS5 := hO5.back (by rw [if_pos rfl, getD_set_same hk]; exact hEn5) (by rw [if_pos rfl, getD_set_same hk]; exact hRo5) (by rw [if_pos rfl, getD_set_same hk]; exact hSg5)
  have hB5 := hB1.upd U5 (fun b hb => ⟨ne _ (by decide) b hb, ne _ (by decide) b hb, ne _ (by decide) b hb⟩)
  have K5 := K1.trans (keep_upd U5 hNA (fun b hb => by cases hb; rw [htb1]; exact ⟨hNs, by decide⟩))
  have hF5 := hB5.rfF hS5
  rw [HX.out] at hF5
  have far : ∀ {b : Nat}, τ2 b ≠ tSh → some b ≠ some sb := fun h e => by cases e; exact h htb1
  have z5 := (U5.grow.block _ (lt_heap z1) (far (by rw [hR1]; decide))).trans z1
  have x5 := (U5.grow.block _ (lt_heap x1) (far (by rw [hX1]; decide))).trans x1
  have hsbw : sb < w1.heap.size := Nat.lt_of_lt_of_le hsb (Nat.le_trans c3.size hb1.size)
  have m5 := (U5.grow.block _ (lt_heap m1) (fun e => by cases e; omega)).trans m1
  have HFW : Hid (∀ u0 u1 u2 u3 u4, RfWent τ N gp w _ _ RES) := fun u0 u1 u2 u3 u4 => by
    rw [← HRES.out]
    exact rfwent_by (k := (k : Int)) (n := (X.entries.length : Int)) hF5 K5 hN hR1 (by omega) hRo5 u0 u1 u2 u3 u4
  obtain ⟨y0, y1, y2, -, -, -⟩ := box_three m1
  obtain ⟨a0, a1, -, -⟩ := box_two f1
  obtain ⟨v0, v1, -, -, -, -, -⟩ := box_seven x1
  clear hEE hcs1 hfz1 hS0 hB0 K0 hS1 hB1 K1 hSg1 hRo1 U1 U2 hO5 U5 hEn5 hRo5 hSg5 hS5 hB5 K5 hF5 hs1 hs2 hri hap ho1 hfz z1 hm32 hmb hsb' HRES j2 j3 six
  generalize mth X.entries = M at *
  generalize (segsL X.entries).length = NS at *
  generalize X.entries.length = NE at *
  subst hWA
  go_wp2_with fail
  generalize (w1.alloc (.cells #[.int .i64 (NE : Int), .slice xa 32 xc, .slice va NS vc] 63)).alloc (.cells #[.int .i64 0, .int .i64 0] 31) = wA at *
  clear a0 a1 v0 v1 x0 z0 x1 m1 f1
  go_region
  all_goals
    generalize (((wA.setCell ⟨sb, k * 7 + 2, none⟩ (.int .i64 3)).setCell ⟨sb, k * 7 + 4, none⟩ (.int .i64 (NE : Int))).setCell ⟨sb, k * 7 + 5, none⟩ (.slice xa 32 xc)).setCell ⟨sb, k * 7 + 6, none⟩ (.slice va NS vc) = W5 at *
    obtain ⟨v0, v1, -, -, -, -, -⟩ := box_seven x5
    obtain ⟨y0, y1, y2, -, -, -⟩ := box_three m5
    obtain ⟨t0, t1, t2, t3, t4⟩ := box_five z5
    obtain ⟨r0, r1, r2, r3, r4⟩ := five_free z5
    obtain ⟨s0, s1, s2, s3, s4⟩ := box_five (five_set z5 (.int .i64 0) (.int .i64 (k : Int)) (.int .i64 0) (.int .i64 (NE : Int)) (.slice xa 32 xc))
    clear x5 m5 z5 i2 i4 i5 i6 f2 f4 f5 f6
    have HW2 : Hid _ := HFW.out (.int .i64 0) (.int .i64 (k : Int)) (.int .i64 0) (.int .i64 (NE : Int)) (.slice xa 32 xc)
    clear HFW
    go_wp2_with fail
    exact bodyPost_ret (v := .agg #[.int .i64 0, .int .i64 (k : Int), .int .i64 0, .int .i64 (NE : Int), .slice xa 32 xc]) (by simp [results, Tryz.results18, go_sem, s0, s1, s2, s3, s4]) rfl ⟨_, rfl, RfWent.drew HW2.out hN⟩

end Go.Proofs.YtkjlchfmplcobaeGreatDoor
