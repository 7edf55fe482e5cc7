/- The walk of the law ShaAgain: it answers true for whatever bytes. -/
import Derived.Test.YtkjlchfmplcobaaDoorProg
import Derived.Test.YtkjlchfmplcobaaDoorShaAlive
import Derived.WalkKit
import Derived.WalkSpells
import Derived.WalkLawsBesides
namespace Go.Proofs.YtkjlchfmplcobaaDoor
open Go.RowKit

theorem out_length (s : St) : s.out.length = 32 := outTo_length s 8 (by omega)
theorem shaL_length (zs : List Int) : (shaL zs).length = 32 := out_length _

set_option maxRecDepth 100000 in
set_option maxHeartbeats 1000000 in
theorem again_any (zs : List Int) (v : Value) (w : World) (hv : BytesAt w v zs) (hm : zs.length ≤ 140737488355328) (hz : Bytes zs) (hK : Tab w) (h0 : 0 < w.heap.size) :
    Calls Tryd.prog 6 #[v] w fun e w' => e = .returned (.bool true) ∧ Below w.heap.size w w' := by
  obtain ⟨i0, hi, hz0, hz1, hz2⟩ := info_parts Tryd.info5b
  go_enter Tryd.func6, Tryd.ntmps6
  go_wp2_with fail
  refine (alive_any _ hK h0).mono ?_
  rintro e w1 ⟨rfl, hb1⟩
  have hs1 := hb1.size
  go_wp2_with fail
  refine (sum_any zs v w1 (hv.below (Nat.le_refl _) hb1) hm hz (tab_below hK hb1 h0) (by omega)).mono ?_
  rintro e w2 ⟨g, rfl, ho2, hb2⟩
  have hb12 : Below w.heap.size w w2 := hb1.trans (hb2.mono hs1)
  have hs2 := hb12.size
  have hg2 : g < w2.heap.size := by
    rcases ho2.2 with ⟨h, -⟩ | ⟨g', cap, cur, h, -, hg, -⟩
    · simp at h
    · simp only [Value.slice.injEq, Option.some.injEq, Addr.mk.injEq, and_true, true_and] at h
      obtain ⟨rfl, rfl⟩ := h
      rcases Nat.lt_or_ge g w2.heap.size with h' | h'
      · exact h'
      · rw [Array.getElem?_eq_none h'] at hg; cases hg
  have ho2' := ownsRow_base ho2 hs1
  have hl := shaL_length zs
  clear hb1 hb2 ho2
  generalize hX : shaL zs = X at *
  have HX : Hid (shaL zs = X) := hX
  clear hX
  go_wp2_with (at_builtin; (refine wpList_append_own _ rfl (.tmp 10) (.tmp 11) 22 rfl w2.heap.size 5 i0 (.int .u8 0) 1 1 Tryd.underlying22 hi hz0 hz1 hz2 rfl (by decide) _ 0 [] rfl (World.ownsRow_lit w2 #[] 0 (Nat.le_refl _) (by unfold maxLen; omega) rfl) ⟨g, 0, none⟩ 32 32 (X.map (Value.int .u8)) rfl (by simp [hl]) ?c1 ?c2 (by unfold maxLen; omega) (by omega) (by simp) ?_))
  case c1 =>
    intro j u hj
    have hlt : j < 32 := by have := (List.getElem?_eq_some_iff.1 hj).1; simpa [hl] using this
    have hadd : (⟨g, 0, none⟩ : Addr).add j = ⟨g, j, none⟩ := by unfold Addr.add; split <;> simp_all
    rw [hadd, old_cell _ _ _ _ hg2, ho2'.cellAt j (by omega)]
    exact hj
  case c2 =>
    intro u hu
    obtain ⟨y, -, rfl⟩ := List.mem_map.1 hu
    rfl
  intro vy w3 ho3 hgrow3 hnn
  obtain ⟨gy, cy, hvy, hgy⟩ : ∃ gy cy, vy = .slice (some ⟨gy, 0, none⟩) 32 cy ∧ w2.heap.size ≤ gy := by
    rcases ho3.2 with ⟨h, -⟩ | ⟨gy, cap, cur, h, hb, -⟩
    · exact absurd h hnn
    · exact ⟨gy, cap, h, hb⟩
  rw [hvy]
  rw [hvy] at ho3
  have hx3 : w3.ownsRow w.heap.size 5 1 (.slice (some ⟨g, 0, none⟩) 32 32) 32 (X.map (Value.int .u8)) := (ho2'.alloc _).kept hgrow3 (.inr (by simp [Value.ownBlock]; omega))
  have hb3 : Below w.heap.size w w3 := (hb12.alloc hs2 _).grown hgrow3 (by simp; omega) (fun q h => by simp [Value.ownBlock] at h; omega)
  clear hgrow3 hnn hvy ho2' hb12
  go_wp2_with fail
  go_loopw [15] (fun i wr => ∃ (k : Nat) (l : List Int), k ≤ 32 ∧ i = .int .i64 k ∧ Hid (l.length = 32) ∧ wr.ownsRow w.heap.size 5 1 (.slice (some ⟨g, 0, none⟩) 32 32) 32 (l.map (Value.int .u8)) ∧
      wr.ownsRow w2.heap.size 5 1 (.slice (some ⟨gy, 0, none⟩) 32 cy) 32 (X.map (Value.int .u8)) ∧ Below w.heap.size w wr) (fun i _ => 32 - (intOf i).toNat)
  case atStart => exact ⟨0, X, by omega, rfl, hl, hx3, ho3, hb3⟩
  case round =>
    obtain ⟨k, l, hk, rfl, HL, hx, hy, hb⟩ := hrel
    clear ho3 hx3 hb3
    by_cases hlt : k < 32
    · have hcell : wr.cell? ⟨g, k, none⟩ = some (.int .u8 (l.getD k 0)) := by
        have h := HL.out
        rw [hx.cellAt k (by omega), List.getElem?_map, List.getElem?_eq_getElem (by omega), List.getD_eq_getElem?_getD, List.getElem?_eq_getElem (by omega)]; rfl
      have hf := hx.frozenAt k
      have hstep : ∀ x : Int, ∃ l' : List Int, Hid (l'.length = 32) ∧ (wr.setCell ⟨g, k, none⟩ (.int .u8 x)).ownsRow w.heap.size 5 1 (.slice (some ⟨g, 0, none⟩) 32 32) 32 (l'.map (Value.int .u8)) ∧
          (wr.setCell ⟨g, k, none⟩ (.int .u8 x)).ownsRow w2.heap.size 5 1 (.slice (some ⟨gy, 0, none⟩) 32 cy) 32 (X.map (Value.int .u8)) ∧ Below w.heap.size w (wr.setCell ⟨g, k, none⟩ (.int .u8 x)) := fun x => by
        refine ⟨l.set k x, (by rw [List.length_set]; exact HL.out), ?_, ?_, ?_⟩
        · rw [List.map_set]; exact (hx.stored k _).1
        · exact hy.kept (hx.stored k _).2 (.inr (by simp [Value.ownBlock]; omega))
        · exact hb.setCell (by
            rcases hx.2 with ⟨h, -⟩ | ⟨g', cap, cur, h, hbb, -⟩
            · simp at h
            · simp only [Value.slice.injEq, Option.some.injEq, Addr.mk.injEq, and_true, true_and] at h
              obtain ⟨rfl, rfl⟩ := h
              exact hbb) _
      clear hx hy hb
      go_wp2
      go_roundw
      case rel =>
        obtain ⟨l', g1, g2, g3, g4⟩ := hstep _
        exact ⟨k + 1, l', by omega, by go_num, g1, g2, g3, g4⟩
      case measure => simp [intOf]; omega
    · have hs4 := hb.size
      obtain rfl : k = 32 := by omega
      clear hx hlt hk
      go_wp2_with fail
      refine (sum_any zs v wr (hv.below (Nat.le_refl _) hb) hm hz (tab_below hK hb h0) (by omega)).mono ?_
      rintro e w5 ⟨g5, rfl, ho5, hb5⟩
      rw [HX.out] at ho5
      have hy5 : BytesAt w5 (.slice (some ⟨gy, 0, none⟩) 32 cy) X := (bytesAt_own hy).below (Nat.le_refl _) hb5
      have hx5 : BytesAt w5 (.slice (some ⟨g5, 0, none⟩) 32 32) X := bytesAt_own ho5
      have hb15 : Below w.heap.size w w5 := hb.trans (hb5.mono hs4)
      clear ho5 hy hb hb5
      go_wp2_with fail
      refine (same_any _ _ _ _ _ hx5 hy5 (by unfold maxLen; omega)).mono ?_
      rintro e w6 ⟨rfl, n, rfl⟩
      go_wp2_with fail
      go_ret
      exact ⟨rfl, below_drewN hb15 n⟩

end Go.Proofs.YtkjlchfmplcobaaDoor
