/- The walk of segments: package shelf as it landed. -/
import Derived.Test.YtbkkfchcdfhfgadDoorProg
import Derived.Test.YtbkkfchcdfhfgadDoorRunAK
import Derived.Test.YtbkkfchcdfhfgadDoorRunAP
import Derived.Test.YtbkkfchcdfhfgadDoorRunAU
import Derived.WalkKit
import Derived.WalkSpells
import Derived.WalkLawsBesides
namespace Go.Proofs.YtbkkfchcdfhfgadDoor
open Go.RowKit

set_option maxRecDepth 100000 in
set_option maxHeartbeats 4000000 in
theorem segments_any (hPack : PackOC) (L : List (List Int)) (a : Option Addr) (n c : Nat) (w : World) (hL : Lists w a n c L) (h100 : L.length ≤ 100) (h200 : ∀ j, (L.getD j []).length ≤ 200) :
    Calls Tryd.prog 24 #[.slice a n c] w fun e w' => ∃ va vc, e = .returned (.slice va (segsL L).length vc) ∧ OwnSegs w' w.heap.size (.slice va (segsL L).length vc) (segsL L) ∧ Below w.heap.size w w' := by
  obtain ⟨i0, hi0, hz0, hz1, hz2⟩ := info_parts Tryd.info55b
  have hlen := hL.len
  have hroom := hL.room
  have hcap := hL.cap
  unfold maxLen at hcap
  have hm200 := mem_short h200
  go_enter Tryd.func24, Tryd.ntmps24
  go_wp2_with fail
  go_loopw [3, 4] (fun ov fv wr => ∃ (k : Nat) (va : Option Addr) (vc : Nat) (vs : List Value), 8 * k ≤ n + 7 ∧ fv = .int .i64 ((8 * k : Nat) : Int) ∧ ov = .slice va k vc ∧ wr.ownsRow w.heap.size 55 3 (.slice va k vc) k vs ∧ SegEls wr w.heap.size vs (segsN L k) ∧ Below w.heap.size w wr) (fun _ fv _ => n + 8 - (intOf fv).toNat)
  case atStart => exact ⟨0, none, 0, [], by omega, rfl, rfl, ⟨rfl, .inl ⟨rfl, rfl⟩⟩, segEls_nil _ _, Below.refl _ _⟩
  case round =>
    obtain ⟨wo, rfl⟩ : ∃ x, x = wr := ⟨wr, rfl⟩
    obtain ⟨k, va, vc, vs, hk, rfl, rfl, hrow, hels, hbr⟩ := hrel
    have hsr := hbr.size
    by_cases hlt : 8 * k < n
    · obtain ⟨b, off, pa, pc, rfl, -, -⟩ := hL.get (8 * k) hlt
      obtain ⟨q, Hq⟩ : ∃ q : Nat, Hid (q = min 8 (n - 8 * k)) := ⟨_, rfl⟩
      have hq1 : 1 ≤ q := by have := Hq.out; omega
      have hq8 : q ≤ 8 := by have := Hq.out; omega
      have hqn : 8 * k + q ≤ n := by have := Hq.out; omega
      have hpart : ((L.drop (8 * k)).take q) = ((L.drop (8 * k)).take 8) := by
        rw [Hq.out, ← hlen, ← List.length_drop, Nat.min_comm, ← List.take_take, List.take_of_length_le (by rw [List.length_take]; omega)]
      have HSK : Hid (segK L k = ⟨((8 * k : Nat) : Int), (q : Int), packL (layL ((L.drop (8 * k)).take 8))⟩) := by show _ = _; unfold segK; rw [hlen, ← Hq.out]
      have hLp := (hL.below hbr).part hqn hq1
      rw [hpart] at hLp
      have hdg : ∀ j, (((L.drop (8 * k)).take 8).getD j []).length ≤ 200 := take_short (fun j => by rw [List.getD_eq_getElem?_getD, List.getElem?_drop, ← List.getD_eq_getElem?_getD]; exact h200 _) 8
      have hW := writeEntries_any _ _ _ _ _ hLp hdg hq8
      have hX1 := lay_bytes hLp.bytes hdg
      have hX2 := lay_part hm200 k
      have hsn := segsN_snoc L k
      rw [HSK.out] at hsn
      have HSN : Hid (segsN L (k + 1) = segsN L k ++ [⟨((8 * k : Nat) : Int), (q : Int), packL (layL ((L.drop (8 * k)).take 8))⟩]) := hsn
      generalize layL ((L.drop (8 * k)).take 8) = X at *
      have hP : ∀ w' v, BytesAt w' v X → Calls Tryd.prog 48 #[v] w' fun e w'' => ∃ v', e = .returned (.tuple #[v', .int .i64 0]) ∧ w''.ownsRow w'.heap.size 5 1 v' (packL X).length ((packL X).map (Value.int .u8)) ∧ Below w'.heap.size w' w'' := fun w' v h => by
        have := hPack X v w' ⟨h, hX1, by unfold maxLen; omega⟩
        unfold muchE packE at this
        rwa [if_neg (by omega), if_neg (by omega)] at this
      have hC := countFrom_any ((8 * k : Nat) : Int) n wo (by omega) (by omega) (by omega) (by omega)
      rw [show min 8 ((n : Int) - ((8 * k : Nat) : Int)) = (q : Int) by have := Hq.out; omega] at hC
      generalize packL X = P at *
      clear hsn hpart hLp hdg hX1 hX2 HSK Hq h200 hm200
      obtain ⟨F, HF⟩ : ∃ F, Hid (8 * k = F) := ⟨_, rfl⟩
      rw [HF.out] at hW hC HSN hlt hqn hk ⊢
      have j1 : (F : Int) < n := by omega
      have j2 : (F : Int) + q ≤ n := by omega
      have j3 : (F : Int) + q ≤ c := by omega
      have j4 : ¬ c = F := by omega
      go_wp2_with fail
      refine hC.mono ?_
      rintro e w1 ⟨rfl, rfl⟩
      clear hC
      go_wp2_with fail
      refine hW.mono ?_
      rintro e w1 ⟨ta, tc, rfl, ho1, hb1⟩
      have b1 := hbr.trans (hb1.mono hsr)
      have hP1 := hP _ _ (bytesAt_own ho1)
      clear hW hP ho1
      go_wp2_with fail
      refine hP1.mono ?_
      rintro e w2 ⟨v2, rfl, ho2, hb2⟩
      have b2 := b1.trans (hb2.mono b1.size)
      have hw12 := (hb1.trans (hb2.mono hb1.size))
      have hrow2 := own3_below hrow hw12 (Nat.le_refl _)
      have hels2 := hels.below hw12 (Nat.le_refl _)
      have hs2 := b2.size
      have hsn2 := hels2.snoc (s := ⟨(F : Int), (q : Int), P⟩) (ownsRow_base ho2 b1.size)
      obtain ⟨ya, yc, rfl⟩ := own_form' ho2
      have hnew := lit_seg w2 (F : Int) (q : Int) (.slice ya P.length yc) 55
      have hone : ∀ u ∈ [Value.int .i64 (F : Int), .int .i64 (q : Int), .slice ya P.length yc], u.oneCell' = true := by intro u hu; simp at hu; rcases hu with rfl | rfl | rfl <;> rfl
      have hrowA := hrow2.alloc (.cells #[.int .i64 (F : Int), .int .i64 (q : Int), .slice ya P.length yc] 55)
      have helsA := hsn2.alloc (.cells #[.int .i64 (F : Int), .int .i64 (q : Int), .slice ya P.length yc] 55)
      have bA : Below w.heap.size w (w2.alloc (.cells #[.int .i64 (F : Int), .int .i64 (q : Int), .slice ya P.length yc] 55)) := b2.alloc hs2 _
      have hsA := bA.size
      have hk15 : k ≤ 20 := by have := HF.out; omega
      clear hrow hels hels2 hsn2 hrow2 hP1 ho2 hw12 hb1 hb2
      go_wp2_with (at_builtin; refine wpList_append_own _ rfl (.tmp 29) (.tmp 34) 26 rfl w.heap.size 55 i0 _ 3 40 Tryd.underlying26 hi0 hz0 hz1 hz2 rfl (by decide) _ _ _ rfl hrowA ⟨w2.heap.size, 0, none⟩ 1 1 [.int .i64 (F : Int), .int .i64 (q : Int), .slice ya P.length yc] rfl rfl hnew hone (by unfold maxLen; omega) (by omega) hsA ?_; intro v7 w7 ho7 hg7 _; obtain ⟨sa, sc, rfl⟩ := own3_form ho7)
      have b7 : Below w.heap.size w w7 := bA.grown hg7 hsA (fun _ h => own3_block hrowA h)
      have hels7 := helsA.kept hrowA hg7
      go_roundw
      case rel =>
        refine ⟨k + 1, sa, sc, _, by have := HF.out; omega, ?_, rfl, ho7, by rw [HSN.out]; exact hels7, b7⟩
        have := HF.out
        rw [show ((8 * (k + 1) : Nat) : Int) = (F : Int) + 8 by omega]
      case measure => simp [intOf]; omega
    · have hkk : k = (L.length + 7) / 8 := by omega
      have hj1 : ¬ ((8 * k : Nat) : Int) < n := by omega
      have hN : segsN L k = segsL L := by unfold segsL; rw [hkk]
      rw [hN] at hels
      have hl2 : (segsL L).length = k := by unfold segsL; rw [segsN_length, ← hkk]
      have HL : Hid ((segsL L).length = k) := hl2
      have HO : Hid (OwnSegs wo w.heap.size (.slice va k vc) (segsL L)) := ⟨vs, by rw [hl2]; exact hrow, hels⟩
      clear hN hl2 hkk hrow hels hk
      obtain ⟨F, HF⟩ : ∃ F, Hid (8 * k = F) := ⟨_, rfl⟩
      rw [HF.out] at hj1 ⊢
      go_wp2_with fail
      go_ret
      exact ⟨va, vc, by rw [HL.out]; rfl, by rw [HL.out]; exact HO.out, hbr⟩

end Go.Proofs.YtbkkfchcdfhfgadDoor
