/- The walk of sha.Parts: the digest of bytes that come in parts. -/
import Derived.Test.YtkjlchfmplcobabDoorProg
import Derived.Test.YtkjlchfmplcobabDoorShaSum
import Derived.WalkKit
import Derived.WalkSpells
import Derived.WalkLawsBesides
import Derived.Deep.AppendLies
import Derived.Laws.AppendOwnNone
namespace Go.Proofs.YtkjlchfmplcobabDoor
open Go.RowKit

theorem flat_take (L : List (List Int)) (k : Nat) (h : k < L.length) : (L.take (k + 1)).flatten = (L.take k).flatten ++ L.getD k [] := by
  rw [List.take_succ_eq_append_getElem h, List.flatten_append, List.getD_eq_getElem?_getD, List.getElem?_eq_getElem h]
  simp
theorem flat_le (L : List (List Int)) (k : Nat) : (L.take k).flatten.length ≤ L.flatten.length := by
  have : L.flatten = (L.take k).flatten ++ (L.drop k).flatten := by rw [← List.flatten_append, List.take_append_drop]
  rw [this, List.length_append]; omega
theorem part_le (L : List (List Int)) (k : Nat) (h : k < L.length) : (L.take k).flatten.length + (L.getD k []).length ≤ L.flatten.length := by
  have := flat_le L (k + 1)
  rw [flat_take L k h, List.length_append] at this
  exact this
set_option maxRecDepth 100000 in
set_option maxHeartbeats 1000000 in
theorem parts_any (L : List (List Int)) (v : Value) (w : World) (hv : PartsAt w v L) (hn : L.length ≤ maxLen) (hm : L.flatten.length ≤ 140737488355328) (hz : ∀ j, Bytes (L.getD j [])) (hK : Tab w) (h0 : 0 < w.heap.size) :
    Calls Tryd.prog 51 #[v] w
      fun e w' => ∃ g, e = .returned (.slice (some ⟨g, 0, none⟩) 32 32) ∧ w'.ownsRow w.heap.size 5 1 (.slice (some ⟨g, 0, none⟩) 32 32) 32 ((shaL L.flatten).map (Value.int .u8)) ∧ Below w.heap.size w w' := by
  have hz0 := (zero_of_info info_run).1
  have hi := (zero_of_info info_run).2
  obtain ⟨a0, c0, rfl, hcell⟩ : ∃ a c, v = .slice a L.length c ∧ (L.length = 0 ∨ ∃ b off, a = some ⟨b, off, none⟩ ∧ b < w.heap.size ∧ ∀ j, j < L.length → ∃ a n c, w.cell? ⟨b, off + j, none⟩ = some (.slice a n c) ∧ BytesAt w (.slice a n c) (L.getD j [])) := by
    rcases hv with ⟨rfl, a, c, rfl⟩ | ⟨b, off, cp, rfl, h2, h3⟩
    · exact ⟨a, c, rfl, .inl rfl⟩
    · exact ⟨_, _, rfl, .inr ⟨b, off, rfl, h2, h3⟩⟩
  clear hv
  unfold maxLen at hn
  go_enter Tryd.func51, Tryd.ntmps51
  go_wp2_with fail
  refine (begin_any _).mono ?_
  rintro e w1 ⟨rfl, hb1⟩
  go_wp2_with (refine wpList_store_mid rfl 86 (.tmp 3) (.tmp 6) rfl w1.heap.size 0 iniRun rfl rfl ?_ ?_ ini_one ?_; (rw [ini_size]; exact there_new _ _ _ 73 zrun_size); (rw [ini_size]; exact hi))
  obtain ⟨hrun, hb2, hK2, hlt⟩ := sum_begun 86 hb1 hK h0
  have hs1 := hb1.size
  generalize ((w1.alloc (.cells zRun 86)).setCells w1.heap.size 0 iniRun.toList) = w2 at *
  go_loopw [9] (fun i wr => ∃ k : Nat, k ≤ L.length ∧ i = .int .i64 k ∧ RunAt wr w1.heap.size (rn0.all (L.take k).flatten) ∧ Below w.heap.size w wr ∧ w1.heap.size < wr.heap.size) (fun i _ => L.length - (intOf i).toNat)
  case atStart => exact ⟨0, Nat.zero_le _, rfl, hrun, hb2, hlt⟩
  case round =>
    obtain ⟨k, hk, rfl, hr, hb, hltr⟩ := hrel
    clear hrun hb2 hK2 hlt
    by_cases hlk : k < L.length
    · rcases hcell with hcell | ⟨b, off, rfl, hbb, hcell⟩
      · omega
      obtain ⟨a, n, c, hca, hB⟩ := hcell k hlk
      have hca' : wr.cell? ⟨b, off + k, none⟩ = some (.slice a n c) := by rw [hb.cell (p := ⟨b, off + k, none⟩) hbb]; exact hca
      have hB' := hB.below (Nat.le_refl _) hb
      have hKr := tab_below hK hb h0
      have hpl := part_le L k hlk
      have HF : Hid ((L.take (k + 1)).flatten = (L.take k).flatten ++ L.getD k []) := flat_take L k hlk
      have hc3 : (rn0.all (L.take k).flatten).c = (L.take k).flatten.length := by rw [Rn.all_c]; show 0 + _ = _; omega
      have hsr := hb.size
      have hcs : (rn0.all (L.take k).flatten).c ≤ 140737488355328 := by rw [hc3]; have := flat_le L k; omega
      clear hc3 hcell hca
      go_wp2_with fail
      refine (add_bytes (rn0.all (L.take k).flatten) (L.getD k []) _ w1.heap.size wr hB' (fun b' off' cp' e hpos => by
        rcases hB with ⟨e1, -⟩ | ⟨b2, o2, c2, e2, hb2, -⟩
        · rw [e1] at hpos; simp at hpos
        · rw [e2] at e
          simp only [Value.slice.injEq, Option.some.injEq, Addr.mk.injEq] at e
          omega) (by unfold maxLen; omega) (hz k) hr hKr hltr (by omega) (by omega) (by omega)).mono ?_
      rintro e w3 ⟨rfl, hr3, hg3⟩
      have hb3 : Below w.heap.size w w3 := hb.grown hg3 hsr (fun q h => by cases h; exact hs1)
      have hr4 : RunAt w3 w1.heap.size (rn0.all (L.take (k + 1)).flatten) := by rw [HF.out, Rn.all_append]; exact hr3
      have hlt4 : w1.heap.size < w3.heap.size := Nat.lt_of_lt_of_le hltr hg3.size
      clear hr3 hg3 hr hKr hB hB' hca'
      go_wp2_with fail
      go_roundw
      case rel => exact ⟨k + 1, by omega, by go_num, hr4, hb3, hlt4⟩
      case measure => simp [intOf]; omega
    · have e : L.take k = L := List.take_of_length_le (by omega)
      rw [e] at hr
      have hK3 := tab_below hK hb h0
      have hc3 : (rn0.all L.flatten).c = L.flatten.length := by rw [Rn.all_c]; show 0 + _ = _; omega
      have hsr := hb.size
      clear e hcell
      go_wp2_with fail
      refine (end_any (rn0.all L.flatten) w1.heap.size wr hr hK3 hltr (by omega) (by omega) (by rw [hc3]; omega)).mono ?_
      rintro e w4 ⟨g, rfl, ho, hg4⟩
      have hb4 : Below w.heap.size w w4 := hb.grown hg4 hsr (fun q h => by cases h; exact hs1)
      have ho4 : w4.ownsRow w.heap.size 5 1 (.slice (some ⟨g, 0, none⟩) 32 32) 32 ((shaL L.flatten).map (Value.int .u8)) := by
        have := ownsRow_base ho hsr
        rw [hc3] at this
        exact this
      clear ho hg4 hr hK3
      go_wp2_with fail
      go_ret
      exact ⟨g, rfl, ho4, hb4⟩

end Go.Proofs.YtkjlchfmplcobabDoor
