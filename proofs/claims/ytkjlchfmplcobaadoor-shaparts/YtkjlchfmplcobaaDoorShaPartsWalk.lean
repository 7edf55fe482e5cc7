/- The walk of the law ShaParts: it answers true for whatever parts. -/
import Derived.Test.YtkjlchfmplcobaaDoorProg
import Derived.Test.YtkjlchfmplcobaaDoorShaAlive
import Derived.Test.YtkjlchfmplcobaaDoorShaPartsC
import Derived.WalkKit
import Derived.WalkSpells
import Derived.WalkLawsBesides
import Derived.Laws.AppendOwnNone
namespace Go.Proofs.YtkjlchfmplcobaaDoor
open Go.RowKit

theorem own_form {w : World} {base : Nat} {e : TypeId} {v : Value} {n : Nat} {xs : List Value} (h : w.ownsRow base e 1 v n xs) : ∃ a c, v = .slice a n c := by
  rcases h.2 with ⟨hv, rfl⟩ | ⟨g, cap, cur, hv, -⟩
  · exact ⟨none, 0, hv⟩
  · exact ⟨_, cap, hv⟩

theorem flat_bytes (L : List (List Int)) (hz : ∀ j, Bytes (L.getD j [])) : Bytes L.flatten := fun i => by
  by_cases hi : i < L.flatten.length
  · rw [List.getD_eq_getElem?_getD, List.getElem?_eq_getElem hi]
    have hm : L.flatten[i] ∈ L.flatten := List.getElem_mem hi
    obtain ⟨p, hp, hx⟩ := List.mem_flatten.1 hm
    obtain ⟨j, hj, rfl⟩ := List.getElem_of_mem hp
    obtain ⟨q, hq, he⟩ := List.getElem_of_mem hx
    have := hz j q
    rw [show L.getD j [] = L[j] by rw [List.getD_eq_getElem?_getD, List.getElem?_eq_getElem hj]; rfl, List.getD_eq_getElem?_getD, List.getElem?_eq_getElem hq] at this
    show 0 ≤ L.flatten[i] ∧ L.flatten[i] < 256
    rw [← he]
    exact this
  · rw [List.getD_eq_getElem?_getD, List.getElem?_eq_none (by omega)]
    exact ⟨by decide, by decide⟩

set_option maxRecDepth 100000 in
set_option maxHeartbeats 1000000 in
theorem partsLaw_any (L : List (List Int)) (v : Value) (w : World) (hv : PartsAt w v L) (hn : L.length ≤ maxLen) (hpl : ∀ j, (L.getD j []).length ≤ maxLen) (hz : ∀ j, Bytes (L.getD j [])) (hK : Tab w) (h0 : 0 < w.heap.size) :
    Calls Tryd.prog 4 #[v] w fun e w' => e = .returned (.bool true) ∧ Below w.heap.size w w' := by
  obtain ⟨i0, hi, hz0, hz1, hz2⟩ := info_parts Tryd.info5b
  obtain ⟨a0, c0, rfl, hcell⟩ : ∃ a c, v = .slice a L.length c ∧ (L.length = 0 ∨ ∃ b off, a = some ⟨b, off, none⟩ ∧ b < w.heap.size ∧ ∀ j, j < L.length → ∃ a n c, w.cell? ⟨b, off + j, none⟩ = some (.slice a n c) ∧ BytesAt w (.slice a n c) (L.getD j [])) := by
    rcases hv with ⟨rfl, a, c, rfl⟩ | ⟨b, off, cp, rfl, h2, h3⟩
    · exact ⟨a, c, rfl, .inl rfl⟩
    · exact ⟨_, _, rfl, .inr ⟨b, off, rfl, h2, h3⟩⟩
  have hn' := hn
  unfold maxLen at hn
  go_enter Tryd.func4, Tryd.ntmps4
  go_wp2_with fail
  refine (alive_any _ hK h0).mono ?_
  rintro e w1 ⟨rfl, hb1⟩
  have hs1 := hb1.size
  go_wp2_with fail
  go_loopw [3, 10] (fun x i wr => ∃ (k : Nat) (a : Option Addr) (m c : Nat), k ≤ L.length ∧ i = .int .i64 k ∧ x = .slice a m c ∧ Hid (m = (L.take k).flatten.length) ∧ m ≤ 1048576 ∧ wr.ownsRow w1.heap.size 5 1 (.slice a m c) m ((L.take k).flatten.map (Value.int .u8)) ∧ Below w.heap.size w wr ∧ w1.heap.size ≤ wr.heap.size)
    (fun _ i _ => L.length - (intOf i).toNat)
  case atStart => exact ⟨0, none, 0, 0, Nat.zero_le _, rfl, rfl, rfl, by omega, World.ownsRow_nil _ _ _ _, hb1, Nat.le_refl _⟩
  case round =>
    obtain ⟨k, a, m, c, hk, rfl, rfl, HM, hm, ho, hb, hsw⟩ := hrel
    clear hb1
    by_cases hlk : k < L.length
    · rcases hcell with hcell | ⟨b, off, rfl, hbb, hcell⟩
      · omega
      obtain ⟨a2, n, c2, hca, hB⟩ := hcell k hlk
      have hca' : wr.cell? ⟨b, off + k, none⟩ = some (.slice a2 n c2) := by rw [hb.cell (p := ⟨b, off + k, none⟩) hbb]; exact hca
      have hB' := hB.below (Nat.le_refl _) hb
      obtain ⟨hnl, hsrc⟩ := hB'.src
      have hnm : n ≤ 9223372036854775807 := by have := hpl k; unfold maxLen at this; omega
      have HF : Hid ((L.take (k + 1)).flatten = (L.take k).flatten ++ L.getD k []) := flat_take L k hlk
      have HN : Hid (n = (L.getD k []).length) := hnl
      obtain ⟨F, hF⟩ : ∃ F, (L.take k).flatten = F := ⟨_, rfl⟩
      obtain ⟨G, hG⟩ : ∃ G, L.getD k [] = G := ⟨_, rfl⟩
      rw [hG] at HN hsrc HF
      rw [hF] at ho HM HF
      have HFF : Hid ((L.take k).flatten = F) := hF
      clear hF hG
      clear hcell hca hB hB' hnl hv hpl hz
      by_cases hbig : 1048576 - (m : Int) < (n : Int)
      · go_wp2
        go_ret
        exact ⟨rfl, hb⟩
      · rcases hsrc with ⟨rfl, rfl, rfl, hnil⟩ | ⟨ad, rfl, hnews⟩
        · have HE : Hid ((L.take (k + 1)).flatten = F) := by rw [HF.out, hnil, List.append_nil]; rfl
          clear hnil HF HN
          go_wp2_with (at_builtin; refine wpList_append_own_none rfl (.tmp 20) (.tmp 21) 22 rfl w1.heap.size 5 i0 1 Tryd.underlying22 hi _ _ _ rfl ho rfl ?_)
          go_roundw
          case rel => exact ⟨k + 1, a, m, c, by omega, by go_num, rfl, by rw [HE.out]; exact HM, hm, by rw [HE.out]; exact ho, hb, hsw⟩
          case measure => simp [intOf]; omega
        · go_wp2_with (at_builtin; refine wpList_append_own _ rfl (.tmp 20) (.tmp 21) 22 rfl w1.heap.size 5 i0 (.int .u8 0) 1 1 Tryd.underlying22 hi hz0 hz1 hz2 rfl (by decide) _ _ _ rfl ho ad n c2 (G.map (Value.int .u8)) rfl (by rw [List.length_map, HN.out]; omega) hnews (by intro u hu; obtain ⟨y, -, rfl⟩ := List.mem_map.1 hu; rfl) (by unfold maxLen; omega) (by omega) hsw ?_)
          intro v2 w2 ho2 hg2 _
          obtain ⟨a3, c3, hv3⟩ := own_form ho2
          have ho3 : w2.ownsRow w1.heap.size 5 1 (.slice a3 (m + n) c3) (m + n) ((L.take (k + 1)).flatten.map (Value.int .u8)) := by
            rw [HF.out, List.map_append, ← hv3]; exact ho2
          have HM3 : Hid (m + n = (L.take (k + 1)).flatten.length) := by rw [HF.out, List.length_append, ← HM.out, ← HN.out]; rfl
          have hb3 : Below w.heap.size w w2 := hb.grown hg2 (Nat.le_trans hs1 hsw) (fun q h => by
            rcases ho.2 with ⟨e, -⟩ | ⟨g, cap, cur, e, hg, -⟩
            · rw [e] at h; cases h
            · rw [e] at h; cases h; exact Nat.le_trans hs1 hg)
          have hs3 : w1.heap.size ≤ w2.heap.size := Nat.le_trans hsw hg2.size
          rw [hv3]
          clear ho2 hg2 hv3 ho hnews HF HN HM
          go_wp2_with fail
          go_roundw
          case rel => exact ⟨k + 1, a3, m + n, c3, by omega, by go_num, rfl, HM3, by omega, ho3, hb3, hs3⟩
          case measure => simp [intOf]; omega
    · have e : L.take k = L := List.take_of_length_le (by omega)
      rw [e] at ho HM
      have hml : L.flatten.length ≤ 1048576 := by have := HM.out; omega
      have hbs : Bytes L.flatten := flat_bytes L hz
      clear e hcell
      have hszr := hb.size
      go_wp2_with fail
      refine (parts_any L _ wr (hv.below (Nat.le_refl _) hb) hn' (by omega) hz (tab_below hK hb h0) (by omega)).mono ?_
      rintro e w2 ⟨g2, rfl, ho2, hb2⟩
      have hb12 : Below w.heap.size w w2 := hb.trans (hb2.mono hszr)
      have hs2 := hb12.size
      have hall : BytesAt w2 (.slice a m c) L.flatten := (bytesAt_own ho).below (Nat.le_refl _) hb2
      clear ho hb hb2
      go_wp2_with fail
      refine (sum_any L.flatten _ w2 hall (by omega) hbs (tab_below hK hb12 h0) (by omega)).mono ?_
      rintro e w3 ⟨g3, rfl, ho3, hb3⟩
      have hb13 : Below w.heap.size w w3 := hb12.trans (hb3.mono hs2)
      have hx2 : BytesAt w3 (.slice (some ⟨g2, 0, none⟩) 32 32) (shaL L.flatten) := (bytesAt_own ho2).below (Nat.le_refl _) hb3
      have hx3 : BytesAt w3 (.slice (some ⟨g3, 0, none⟩) 32 32) (shaL L.flatten) := bytesAt_own ho3
      have hsl : (shaL L.flatten).length ≤ maxLen := by rw [show (shaL L.flatten).length = 32 from outTo_length _ 8 (by omega)]; unfold maxLen; omega
      clear ho2 ho3 hb12 hb3 hall
      go_wp2_with fail
      refine (same_any _ _ _ _ _ hx2 hx3 hsl).mono ?_
      rintro e w4 ⟨rfl, q, rfl⟩
      go_wp2_with fail
      go_ret
      exact ⟨rfl, below_drewN hb13 q⟩

end Go.Proofs.YtkjlchfmplcobaaDoor
