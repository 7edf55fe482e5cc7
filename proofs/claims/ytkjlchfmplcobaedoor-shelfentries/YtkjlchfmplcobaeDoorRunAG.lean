/- ShelfGoSegs, ShaPartsC, TreeFaceLeaf, as one text. -/
import Derived.Test.YtkjlchfmplcobaeDoorProg
import Derived.Test.YtkjlchfmplcobaeDoorRunAF
import Derived.WalkKit
import Derived.WalkSpells
import Derived.WalkLawsBesides
import Derived.Test.YtkjlchfmplcobaeDoorShaSum
import Derived.Deep.AppendLies
import Derived.Laws.AppendOwnNone
import Derived.Test.YtkjlchfmplcobaeDoorRunAC
/- The walk of segments: package shelf as it landed. -/
namespace Go.Proofs.YtkjlchfmplcobaeDoor
open Go.RowKit

set_option maxRecDepth 100000 in
set_option maxHeartbeats 4000000 in
theorem segments_any (hPack : PackOC) (L : List (List Int)) (a : Option Addr) (n c : Nat) (w : World) (hL : Lists w a n c L) (h100 : L.length ≤ 100) (h200 : ∀ j, (L.getD j []).length ≤ 200) :
    Calls Tryd.prog 58 #[.slice a n c] w fun e w' => ∃ va vc, e = .returned (.slice va (segsL L).length vc) ∧ ∃ vs, (w'.ownsRow w.heap.size 89 3 (.slice va (segsL L).length vc) (segsL L).length vs ∧ SegEls w' w.heap.size vs (segsL L)) ∧ RiseV vs (segsL L).length ∧ Below w.heap.size w w' := by
  obtain ⟨i0, hi0, hz0, hz1, hz2⟩ := info_parts Tryd.info89b
  have hlen := hL.len
  have hroom := hL.room
  have hcap := hL.cap
  unfold maxLen at hcap
  have hm200 := mem_short h200
  go_enter Tryd.func58, Tryd.ntmps58
  go_wp2_with fail
  go_loopw [3, 4] (fun ov fv wr => ∃ (k : Nat) (va : Option Addr) (vc : Nat) (vs : List Value), 8 * k ≤ n + 7 ∧ fv = .int .i64 ((8 * k : Nat) : Int) ∧ ov = .slice va k vc ∧ wr.ownsRow w.heap.size 89 3 (.slice va k vc) k vs ∧ SegEls wr w.heap.size vs (segsN L k) ∧ RiseV vs k ∧ Below w.heap.size w wr) (fun _ fv _ => n + 8 - (intOf fv).toNat)
  case atStart => exact ⟨0, none, 0, [], by omega, rfl, rfl, ⟨rfl, .inl ⟨rfl, rfl⟩⟩, segEls_nil _ _, riseV_nil, Below.refl _ _⟩
  case round =>
    obtain ⟨wo, rfl⟩ : ∃ x, x = wr := ⟨wr, rfl⟩
    obtain ⟨k, va, vc, vs, hk, rfl, rfl, hrow, hels, hrise, hbr⟩ := hrel
    have hsr := hbr.size
    by_cases hlt : 8 * k < n
    · obtain ⟨b, off, pa, pc, rfl, -, -⟩ := hL.get (8 * k) hlt
      obtain ⟨q, Hq⟩ : ∃ q : Nat, Hid (q = min 8 (n - 8 * k)) := ⟨_, rfl⟩
      have hq1 : 1 ≤ q := by have := Hq.out; omega
      have hq8 : q ≤ 8 := by have := Hq.out; omega
      have hqn : 8 * k + q ≤ n := by have := Hq.out; omega
      have hpart : ((L.drop (8 * k)).take q) = ((L.drop (8 * k)).take 8) := by
        rw [Hq.out, ← hlen, ← List.length_drop, Nat.min_comm, ← List.take_take, List.take_of_length_le (by rw [List.length_take]; omega)]
      have HSK : Hid (segK L k = ⟨((8 * k : Nat) : Int), (q : Int), packL (layL ((L.drop (8 * k)).take 8))⟩) := by show _ = _; unfold segK; rw [hlen, ← Hq.out]
      have hLp := (hL.below hbr).part hqn hq1
      rw [hpart] at hLp
      have hdg : ∀ j, (((L.drop (8 * k)).take 8).getD j []).length ≤ 200 := take_short (fun j => by rw [List.getD_eq_getElem?_getD, List.getElem?_drop, ← List.getD_eq_getElem?_getD]; exact h200 _) 8
      have hW := writeEntries_any _ _ _ _ _ hLp hdg hq8
      have hX1 := lay_bytes hLp.bytes hdg
      have hX2 := lay_part hm200 k
      have hsn := segsN_snoc L k
      rw [HSK.out] at hsn
      have HSN : Hid (segsN L (k + 1) = segsN L k ++ [⟨((8 * k : Nat) : Int), (q : Int), packL (layL ((L.drop (8 * k)).take 8))⟩]) := hsn
      generalize layL ((L.drop (8 * k)).take 8) = X at *
      have hP : ∀ w' v, BytesAt w' v X → Calls Tryd.prog 77 #[v] w' fun e w'' => ∃ v', e = .returned (.tuple #[v', .int .i64 0]) ∧ w''.ownsRow w'.heap.size 5 1 v' (packL X).length ((packL X).map (Value.int .u8)) ∧ Below w'.heap.size w' w'' := fun w' v h => by
        have := hPack X v w' ⟨h, hX1, by unfold maxLen; omega⟩
        unfold muchE packE at this
        rwa [if_neg (by omega), if_neg (by omega)] at this
      have hC := countFrom_any ((8 * k : Nat) : Int) n wo (by omega) (by omega) (by omega) (by omega)
      rw [show min 8 ((n : Int) - ((8 * k : Nat) : Int)) = (q : Int) by have := Hq.out; omega] at hC
      generalize packL X = P at *
      clear hsn hpart hLp hdg hX1 hX2 HSK Hq h200 hm200
      obtain ⟨F, HF⟩ : ∃ F, Hid (8 * k = F) := ⟨_, rfl⟩
      rw [HF.out] at hW hC HSN hlt hqn hk ⊢
      have j1 : (F : Int) < n := by omega
      have j2 : (F : Int) + q ≤ n := by omega
      have j3 : (F : Int) + q ≤ c := by omega
      have j4 : ¬ c = F := by omega
      go_wp2_with fail
      refine hC.mono ?_
      rintro e w1 ⟨rfl, rfl⟩
      clear hC
      go_wp2_with fail
      refine hW.mono ?_
      rintro e w1 ⟨ta, tc, rfl, ho1, hb1⟩
      have b1 := hbr.trans (hb1.mono hsr)
      have hP1 := hP _ _ (bytesAt_own ho1)
      clear hW hP ho1
      go_wp2_with fail
      refine hP1.mono ?_
      rintro e w2 ⟨v2, rfl, ho2, hb2⟩
      have b2 := b1.trans (hb2.mono b1.size)
      have hw12 := (hb1.trans (hb2.mono hb1.size))
      have hrow2 := own3_below hrow hw12 (Nat.le_refl _)
      have hels2 := hels.below hw12 (Nat.le_refl _)
      have hs2 := b2.size
      have hri2 : Hid (RiseV (vs ++ [.int .i64 (F : Int), .int .i64 (q : Int), v2]) (k + 1)) := RiseV.snoc hrise hels (segsN_length L k) (fun g hg => Nat.le_trans hb1.size (ho2.lt g hg).1)
      have hsn2 := hels2.snoc (s := ⟨(F : Int), (q : Int), P⟩) (ownsRow_base ho2 b1.size)
      obtain ⟨ya, yc, rfl⟩ := own_form' ho2
      have hnew := lit_seg w2 (F : Int) (q : Int) (.slice ya P.length yc) 89
      have hone : ∀ u ∈ [Value.int .i64 (F : Int), .int .i64 (q : Int), .slice ya P.length yc], u.oneCell' = true := by intro u hu; simp at hu; rcases hu with rfl | rfl | rfl <;> rfl
      have hrowA := hrow2.alloc (.cells #[.int .i64 (F : Int), .int .i64 (q : Int), .slice ya P.length yc] 89)
      have helsA := hsn2.alloc (.cells #[.int .i64 (F : Int), .int .i64 (q : Int), .slice ya P.length yc] 89)
      have bA : Below w.heap.size w (w2.alloc (.cells #[.int .i64 (F : Int), .int .i64 (q : Int), .slice ya P.length yc] 89)) := b2.alloc hs2 _
      have hsA := bA.size
      have hk15 : k ≤ 20 := by have := HF.out; omega
      clear hrow hels hrise hels2 hsn2 hrow2 hP1 ho2 hw12 hb1 hb2
      go_wp2_with (at_builtin; refine wpList_append_own _ rfl (.tmp 29) (.tmp 34) 25 rfl w.heap.size 89 i0 _ 3 40 Tryd.underlying25 hi0 hz0 hz1 hz2 rfl (by decide) _ _ _ rfl hrowA ⟨w2.heap.size, 0, none⟩ 1 1 [.int .i64 (F : Int), .int .i64 (q : Int), .slice ya P.length yc] rfl rfl hnew hone (by unfold maxLen; omega) (by omega) hsA ?_; intro v7 w7 ho7 hg7 _; obtain ⟨sa, sc, rfl⟩ := own3_form ho7)
      have b7 : Below w.heap.size w w7 := bA.grown hg7 hsA (fun _ h => own3_block hrowA h)
      have hels7 := helsA.kept hrowA hg7
      go_roundw
      case rel =>
        refine ⟨k + 1, sa, sc, _, by have := HF.out; omega, ?_, rfl, ho7, by rw [HSN.out]; exact hels7, hri2.out, b7⟩
        have := HF.out
        rw [show ((8 * (k + 1) : Nat) : Int) = (F : Int) + 8 by omega]
      case measure => simp [intOf]; omega
    · have hkk : k = (L.length + 7) / 8 := by omega
      have hj1 : ¬ ((8 * k : Nat) : Int) < n := by omega
      have hN : segsN L k = segsL L := by unfold segsL; rw [hkk]
      rw [hN] at hels
      have hl2 : (segsL L).length = k := by unfold segsL; rw [segsN_length, ← hkk]
      have HL : Hid ((segsL L).length = k) := hl2
      have HO : Hid ((wo.ownsRow w.heap.size 89 3 (.slice va k vc) k vs ∧ SegEls wo w.heap.size vs (segsL L)) ∧ RiseV vs k) := ⟨⟨hrow, hels⟩, hrise⟩
      clear hN hl2 hkk hrow hels hrise hk
      obtain ⟨F, HF⟩ : ∃ F, Hid (8 * k = F) := ⟨_, rfl⟩
      rw [HF.out] at hj1 ⊢
      go_wp2_with fail
      go_ret
      exact ⟨va, vc, by rw [HL.out]; rfl, vs, by rw [HL.out]; exact HO.out.1, by rw [HL.out]; exact HO.out.2, hbr⟩

end Go.Proofs.YtkjlchfmplcobaeDoor

/- The walk of sha.Parts: the digest of bytes that come in parts. -/
namespace Go.Proofs.YtkjlchfmplcobaeDoor
open Go.RowKit

theorem flat_take (L : List (List Int)) (k : Nat) (h : k < L.length) : (L.take (k + 1)).flatten = (L.take k).flatten ++ L.getD k [] := by
  rw [List.take_succ_eq_append_getElem h, List.flatten_append, List.getD_eq_getElem?_getD, List.getElem?_eq_getElem h]
  simp
theorem flat_le (L : List (List Int)) (k : Nat) : (L.take k).flatten.length ≤ L.flatten.length := by
  have : L.flatten = (L.take k).flatten ++ (L.drop k).flatten := by rw [← List.flatten_append, List.take_append_drop]
  rw [this, List.length_append]; omega
theorem part_le (L : List (List Int)) (k : Nat) (h : k < L.length) : (L.take k).flatten.length + (L.getD k []).length ≤ L.flatten.length := by
  have := flat_le L (k + 1)
  rw [flat_take L k h, List.length_append] at this
  exact this
set_option maxRecDepth 100000 in
set_option maxHeartbeats 1000000 in
theorem parts_any (L : List (List Int)) (v : Value) (w : World) (hv : PartsAt w v L) (hn : L.length ≤ maxLen) (hm : L.flatten.length ≤ 140737488355328) (hz : ∀ j, Bytes (L.getD j [])) (hK : Tab w) (h0 : 0 < w.heap.size) :
    Calls Tryd.prog 72 #[v] w
      fun e w' => ∃ g, e = .returned (.slice (some ⟨g, 0, none⟩) 32 32) ∧ w'.ownsRow w.heap.size 5 1 (.slice (some ⟨g, 0, none⟩) 32 32) 32 ((shaL L.flatten).map (Value.int .u8)) ∧ Below w.heap.size w w' := by
  have hz0 := (zero_of_info info_run).1
  have hi := (zero_of_info info_run).2
  obtain ⟨a0, c0, rfl, hcell⟩ : ∃ a c, v = .slice a L.length c ∧ (L.length = 0 ∨ ∃ b off, a = some ⟨b, off, none⟩ ∧ b < w.heap.size ∧ ∀ j, j < L.length → ∃ a n c, w.cell? ⟨b, off + j, none⟩ = some (.slice a n c) ∧ BytesAt w (.slice a n c) (L.getD j [])) := by
    rcases hv with ⟨rfl, a, c, rfl⟩ | ⟨b, off, cp, rfl, h2, h3⟩
    · exact ⟨a, c, rfl, .inl rfl⟩
    · exact ⟨_, _, rfl, .inr ⟨b, off, rfl, h2, h3⟩⟩
  clear hv
  unfold maxLen at hn
  go_enter Tryd.func72, Tryd.ntmps72
  go_wp2_with fail
  refine (begin_any _).mono ?_
  rintro e w1 ⟨rfl, hb1⟩
  go_wp2_with (refine wpList_store_mid rfl 120 (.tmp 3) (.tmp 6) rfl w1.heap.size 0 iniRun rfl rfl ?_ ?_ ini_one ?_; (rw [ini_size]; exact there_new _ _ _ 73 zrun_size); (rw [ini_size]; exact hi))
  obtain ⟨hrun, hb2, hK2, hlt⟩ := sum_begun 120 hb1 hK h0
  have hs1 := hb1.size
  generalize ((w1.alloc (.cells zRun 120)).setCells w1.heap.size 0 iniRun.toList) = w2 at *
  go_loopw [9] (fun i wr => ∃ k : Nat, k ≤ L.length ∧ i = .int .i64 k ∧ RunAt wr w1.heap.size (rn0.all (L.take k).flatten) ∧ Below w.heap.size w wr ∧ w1.heap.size < wr.heap.size) (fun i _ => L.length - (intOf i).toNat)
  case atStart => exact ⟨0, Nat.zero_le _, rfl, hrun, hb2, hlt⟩
  case round =>
    obtain ⟨k, hk, rfl, hr, hb, hltr⟩ := hrel
    clear hrun hb2 hK2 hlt
    by_cases hlk : k < L.length
    · rcases hcell with hcell | ⟨b, off, rfl, hbb, hcell⟩
      · omega
      obtain ⟨a, n, c, hca, hB⟩ := hcell k hlk
      have hca' : wr.cell? ⟨b, off + k, none⟩ = some (.slice a n c) := by rw [hb.cell (p := ⟨b, off + k, none⟩) hbb]; exact hca
      have hB' := hB.below (Nat.le_refl _) hb
      have hKr := tab_below hK hb h0
      have hpl := part_le L k hlk
      have HF : Hid ((L.take (k + 1)).flatten = (L.take k).flatten ++ L.getD k []) := flat_take L k hlk
      have hc3 : (rn0.all (L.take k).flatten).c = (L.take k).flatten.length := by rw [Rn.all_c]; show 0 + _ = _; omega
      have hsr := hb.size
      have hcs : (rn0.all (L.take k).flatten).c ≤ 140737488355328 := by rw [hc3]; have := flat_le L k; omega
      clear hc3 hcell hca
      go_wp2_with fail
      refine (add_bytes (rn0.all (L.take k).flatten) (L.getD k []) _ w1.heap.size wr hB' (fun b' off' cp' e hpos => by
        rcases hB with ⟨e1, -⟩ | ⟨b2, o2, c2, e2, hb2, -⟩
        · rw [e1] at hpos; simp at hpos
        · rw [e2] at e
          simp only [Value.slice.injEq, Option.some.injEq, Addr.mk.injEq] at e
          omega) (by unfold maxLen; omega) (hz k) hr hKr hltr (by omega) (by omega) (by omega)).mono ?_
      rintro e w3 ⟨rfl, hr3, hg3⟩
      have hb3 : Below w.heap.size w w3 := hb.grown hg3 hsr (fun q h => by cases h; exact hs1)
      have hr4 : RunAt w3 w1.heap.size (rn0.all (L.take (k + 1)).flatten) := by rw [HF.out, Rn.all_append]; exact hr3
      have hlt4 : w1.heap.size < w3.heap.size := Nat.lt_of_lt_of_le hltr hg3.size
      clear hr3 hg3 hr hKr hB hB' hca'
      go_wp2_with fail
      go_roundw
      case rel => exact ⟨k + 1, by omega, by go_num, hr4, hb3, hlt4⟩
      case measure => simp [intOf]; omega
    · have e : L.take k = L := List.take_of_length_le (by omega)
      rw [e] at hr
      have hK3 := tab_below hK hb h0
      have hc3 : (rn0.all L.flatten).c = L.flatten.length := by rw [Rn.all_c]; show 0 + _ = _; omega
      have hsr := hb.size
      clear e hcell
      go_wp2_with fail
      refine (end_any (rn0.all L.flatten) w1.heap.size wr hr hK3 hltr (by omega) (by omega) (by rw [hc3]; omega)).mono ?_
      rintro e w4 ⟨g, rfl, ho, hg4⟩
      have hb4 : Below w.heap.size w w4 := hb.grown hg4 hsr (fun q h => by cases h; exact hs1)
      have ho4 : w4.ownsRow w.heap.size 5 1 (.slice (some ⟨g, 0, none⟩) 32 32) 32 ((shaL L.flatten).map (Value.int .u8)) := by
        have := ownsRow_base ho hsr
        rw [hc3] at this
        exact this
      clear ho hg4 hr hK3
      go_wp2_with fail
      go_ret
      exact ⟨g, rfl, ho4, hb4⟩

end Go.Proofs.YtkjlchfmplcobaeDoor

/- What TreeTells asks of tree.Leaf and tree.Node. -/
namespace Go.Proofs.YtkjlchfmplcobaeDoor
open Go.RowKit

def LeafC : Prop := ∀ (b : List Int) (v : Value) (w : World), Ready w → Some' w v b → b.length ≤ 70368744177664 →
  Calls Tryd.prog 51 #[v] w fun e w' => ∃ x, e = .returned x ∧ w'.ownsRow w.heap.size 5 1 x 32 ((leafL b).map (Value.int .u8)) ∧ Below w.heap.size w w'
def NodeC : Prop := ∀ (b1 b2 : List Int) (v1 v2 : Value) (w : World), Ready w → Some' w v1 b1 → Some' w v2 b2 → b1.length + b2.length ≤ 70368744177664 →
  Calls Tryd.prog 54 #[v1, v2] w fun e w' => ∃ x, e = .returned x ∧ w'.ownsRow w.heap.size 5 1 x 32 ((nodeL b1 b2).map (Value.int .u8)) ∧ Below w.heap.size w w'

end Go.Proofs.YtkjlchfmplcobaeDoor
