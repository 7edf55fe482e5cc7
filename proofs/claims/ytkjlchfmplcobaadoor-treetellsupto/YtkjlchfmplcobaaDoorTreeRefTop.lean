/- The walk of yearref2.Top. -/
import Derived.Test.YtkjlchfmplcobaaDoorProg
import Derived.Test.YtkjlchfmplcobaaDoorTreeRefEdge
import Derived.WalkKit
import Derived.WalkSpells
import Derived.WalkLawsBesides
import Derived.Test.YtkjlchfmplcobaaDoorRunAB
namespace Go.Proofs.YtkjlchfmplcobaaDoor
open Go.RowKit

set_option maxRecDepth 100000 in
set_option maxHeartbeats 2000000 in
theorem refTop_any (size : Int) (ps : List (List Int)) (v : Value) (w : World) (hv : PartsAt w v ps) (hm : ps.length ≤ maxLen) (hs : ∀ j, (ps.getD j []).length ≤ maxLen) (hz : ∀ j, Bytes (ps.getD j [])) :
    Calls Tryd.prog 24 #[.agg #[.int .i64 size, v]] w fun e w' => ∃ x, e = .returned (.tuple #[x, .int .i64 (if rightL size 100 ps = true then 0 else 2)]) ∧ BytesAt w' x (if rightL size 100 ps = true then topL ps else []) ∧ Below w.heap.size w w' := by
  obtain ⟨a0, c0, rfl, hcell⟩ := hv.form
  have qn : ∀ W : World, (binOp .eql 22 (.slice none 0 0) (.slice none 0 0)).run Tryd.prog W = .ok (.bool true) W := fun W => Lib.run_eql_slice_nil W _ _ none 0 0 0 0 Tryd.underlying22
  have qs : ∀ (W : World) (ad : Addr) (n c : Nat), (binOp .eql 22 (.slice (some ad) n c) (.slice none 0 0)).run Tryd.prog W = .ok (.bool false) W := fun W ad n c => Lib.run_eql_slice_nil W _ _ (some ad) n c 0 0 Tryd.underlying22
  have hW : Below w.heap.size w (w.alloc (.cells #[.int .i64 size, .slice a0 ps.length c0] 34)) := (Below.refl _ _).alloc (Nat.le_refl _) _
  have cr := refRight_any size 100 ps _ _ (hv.below (Nat.le_refl _) hW) hm hs (by omega)
  by_cases hR : rightL size 100 ps = true
  · rw [if_pos hR, if_pos hR]
    rw [hR] at cr
    have hg : goodL ps = true := by unfold rightL at hR; simp at hR; exact hR.2
    have hz1 : (w.alloc (.cells #[.int .i64 size, .slice a0 ps.length c0] 34)).cell? ⟨w.heap.size, 1, none⟩ = some (.slice a0 ps.length c0) := new_cell _ _ _ 1 (by simp)
    have hsz : w.heap.size < (w.alloc (.cells #[.int .i64 size, .slice a0 ps.length c0] 34)).heap.size := by simp
    unfold maxLen at hm
    clear hR
    go_enter Tryd.func24, Tryd.ntmps24
    go_wp2_with fail
    refine cr.mono ?_
    rintro e w1 ⟨rfl, hb1⟩
    have zW : w1.cell? ⟨w.heap.size, 1, none⟩ = some (.slice a0 ps.length c0) := (hb1.cell (p := ⟨w.heap.size, 1, none⟩) hsz).trans hz1
    have hbW : Below w.heap.size w w1 := hW.trans (hb1.mono (by omega))
    have hw1 : w.heap.size < w1.heap.size := Nat.lt_of_lt_of_le hsz hb1.size
    have hvW := hv.below (Nat.le_refl _) hbW
    clear cr hb1 hz1 hsz hW hv hcell
    obtain ⟨l, hl⟩ : ∃ l, ps.length = l := ⟨_, rfl⟩
    have HL : Hid (ps.length = l) := hl
    have hg32 := goodL_get hg
    rw [hl] at zW hvW hm hg32 ⊢
    clear hl
    go_wp2_with fail
    go_loopw [4, 5] (fun dv i wr => ∃ k : Nat, k ≤ l ∧ i = .int .i64 ((l : Int) - 1 - k) ∧ ((k = 0 ∧ dv = .slice none 0 0) ∨ (k ≠ 0 ∧ ∃ ad c, dv = .slice (some ad) 32 c ∧ BytesAt wr (.slice (some ad) 32 c) (topL (ps.drop (l - k))))) ∧ Below w1.heap.size w1 wr) (fun _ i _ => (intOf i + 1).toNat)
    case atStart => exact ⟨0, Nat.zero_le _, by go_num, .inl ⟨rfl, rfl⟩, Below.refl _ _⟩
    case round =>
      obtain ⟨k, hk, rfl, hd, hb⟩ := hrel
      have hs1 := hb.size
      have zr : wr.cell? ⟨w.heap.size, 1, none⟩ = some (.slice a0 l c0) := (hb.cell (p := ⟨w.heap.size, 1, none⟩) hw1).trans zW
      by_cases hlt : k < l
      · obtain ⟨a1, c1, e1, hcl⟩ := (hvW.below (Nat.le_refl _) hb).form
        rw [HL.out] at e1 hcl
        cases e1
        obtain ⟨b, off, rfl, hb0, hcl⟩ := hcl.resolve_left (by omega)
        obtain ⟨pa, pc, hcj, hB⟩ := hcl (l - 1 - k) (by omega)
        have h32 := hg32 (l - 1 - k) (by omega)
        have hzk := hz (l - 1 - k)
        rw [h32] at hcj hB
        have i0 : (0 : Int) ≤ (l : Int) - 1 - (k : Int) := by omega
        have i1 : (l : Int) - 1 - (k : Int) < (l : Int) := by omega
        have t1 : ((l : Int) - 1 - (k : Int)).toNat = l - 1 - k := by omega
        rcases hd with ⟨hk0, rfl⟩ | ⟨hk0, ad, dc, rfl, hD⟩
        · subst hk0
          rw [Nat.sub_zero] at hcj hB h32
          obtain ⟨b2, o2, c2, e2⟩ := hB.some (by omega)
          rw [h32] at e2
          have e3 : pa = some ⟨b2, o2, none⟩ := by injection e2
          subst e3
          have hT : BytesAt wr (.slice (some ⟨b2, o2, none⟩) 32 pc) (topL (ps.drop (l - (0 + 1)))) := by
            rw [Nat.zero_add, top_last ps l HL.out (by omega)]; exact hB
          clear hB hcl hg32 hz
          go_wp2_with fail
          go_roundw
          case rel => exact ⟨0 + 1, by omega, by go_num, .inr ⟨by omega, _, _, rfl, hT⟩, hb⟩
          case measure => simp [intOf]; omega
        · have HT : Hid (topL (ps.drop (l - (k + 1))) = nodeL (ps.getD (l - 1 - k) []) (topL (ps.drop (l - k)))) := by
            have := top_step ps (l - 1 - k) (by have := HL.out; omega)
            rw [show l - 1 - k + 1 = l - k by omega] at this
            rw [show l - (k + 1) = l - 1 - k by omega]
            exact this
          obtain ⟨hf1, hf2⟩ := drop_fit hz (fun j hj => hg32 j (by rw [← HL.out]; exact hj)) (l - k)
          clear hcl
          generalize ps.getD (l - 1 - k) [] = z at *
          generalize topL (ps.drop (l - k)) = tp at *
          go_wp2_with fail
          refine (pair_any z tp _ _ _ hB hD (by omega)).mono ?_
          rintro e w2 ⟨x2, rfl, ho2, hb2⟩
          have hs2 := hb2.size
          go_wp2_with fail
          refine (refSum_any (1 :: (z ++ tp)) _ _ (bytesAt_own ho2) (by simp; omega) (bytes_cons (by decide) (by decide) (bytes_append hzk hf1))).mono ?_
          rintro e w3 ⟨x3, rfl, ho3, hb3⟩
          have hl3 : (shaL (1 :: (z ++ tp))).length = 32 := shaL_len _
          obtain ⟨b3, o3, c3, e3⟩ := (bytesAt_own ho3).some (by omega)
          rw [hl3] at e3
          rw [e3]
          have hB3 : BytesAt w3 (.slice (some ⟨b3, o3, none⟩) 32 c3) (topL (ps.drop (l - (k + 1)))) := by
            rw [HT.out, ← e3]; exact bytesAt_own ho3
          have hbE : Below w1.heap.size w1 w3 := (hb.trans (hb2.mono hs1)).trans (hb3.mono (by omega))
          clear ho3 ho2 hb2 hb3 hB hD hb
          go_wp2_with fail
          go_roundw
          case rel => exact ⟨k + 1, by omega, by go_num, .inr ⟨by omega, _, _, rfl, hB3⟩, hbE⟩
          case measure => simp [intOf]; omega
      · obtain rfl : k = l := by omega
        have hbE : Below w.heap.size w wr := hbW.trans (hb.mono (by omega))
        rcases hd with ⟨hk0, rfl⟩ | ⟨hk0, ad, dc, rfl, hD⟩
        · subst hk0
          have HP : Hid (topL ps = shaL []) := by rw [List.eq_nil_of_length_eq_zero HL.out]; exact topL_nil
          go_wp2_with fail
          refine (refSum_any [] (.slice none 0 0) _ (bytesAt_nil _) (by simp) nil_bytes).mono ?_
          rintro e w3 ⟨x3, rfl, ho3, hb3⟩
          go_wp2_with fail
          go_ret2
          exact ⟨_, rfl, by rw [HP.out]; exact bytesAt_own ho3, hbE.trans (hb3.mono (by omega))⟩
        · have hD' : BytesAt wr (.slice (some ad) 32 dc) (topL ps) := by rw [Nat.sub_self, List.drop_zero] at hD; exact hD
          go_wp2_with fail
          go_ret2
          exact ⟨_, rfl, hD', hbE⟩
  · rw [if_neg hR, if_neg hR]
    have hR' : rightL size 100 ps = false := by simpa using hR
    rw [hR'] at cr
    go_enter Tryd.func24, Tryd.ntmps24
    go_wp2_with fail
    refine cr.mono ?_
    rintro e w1 ⟨rfl, hb1⟩
    go_wp2_with fail
    go_ret2
    exact ⟨_, rfl, bytesAt_nil _, hW.trans (hb1.mono (by simp))⟩

end Go.Proofs.YtkjlchfmplcobaaDoor
