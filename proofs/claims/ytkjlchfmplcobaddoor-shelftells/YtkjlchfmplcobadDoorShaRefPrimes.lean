/- The walk of yearref1.Primes, at sixty-four. -/
import Derived.Test.YtkjlchfmplcobadDoorProg
import Derived.Test.YtkjlchfmplcobadDoorShaRefRoot
import Derived.WalkKit
import Derived.WalkSpells
import Derived.WalkLawsBesides
import Derived.Test.YtkjlchfmplcobadDoorShaOwn
namespace Go.Proofs.YtkjlchfmplcobadDoor
open Go.RowKit

def noDiv (p : Int) (l : List Int) : Bool := l.all fun q => p % q != 0
def prTo : Nat → List Int
  | 0 => []
  | j + 1 => if noDiv (2 + (j : Int)) (prTo j) then prTo j ++ [2 + (j : Int)] else prTo j
theorem prTo_ge (j : Nat) : ∀ q ∈ prTo j, 2 ≤ q ∧ q ≤ 2 + (j : Int) := by
  induction j with
  | zero => intro q hq; simp [prTo] at hq
  | succ j ih =>
    intro q hq
    rw [prTo] at hq
    split at hq
    · rcases List.mem_append.1 hq with h | h
      · have := ih q h; omega
      · have e := List.mem_singleton.1 h; omega
    · have := ih q hq; omega
theorem prTo_mono (j k : Nat) (h : j ≤ k) : (prTo j).length ≤ (prTo k).length := by
  induction k with
  | zero => obtain rfl : j = 0 := by omega
            exact Nat.le_refl _
  | succ k ih =>
    by_cases e : j = k + 1
    · rw [e]; exact Nat.le_refl _
    · refine Nat.le_trans (ih (by omega)) ?_
      rw [prTo]
      split
      · simp
      · exact Nat.le_refl _
set_option maxRecDepth 100000 in
theorem prTo_end : prTo 310 = primeL := by decide +kernel
set_option maxRecDepth 100000 in
theorem prTo_near : (prTo 309).length = 63 := by decide +kernel
theorem prTo_lt (j : Nat) (h : j < 310) : (prTo j).length < 64 := by
  have := prTo_mono j 309 (by omega)
  rw [prTo_near] at this
  omega
theorem noDiv_snoc (p : Int) (l : List Int) (i : Nat) (h : i < l.length) : noDiv p (l.take (i + 1)) = (noDiv p (l.take i) && (p % l.getD i 0 != 0)) := by
  unfold noDiv
  rw [take_next l i h, List.all_append]
  simp
theorem Tryd.info79b : (Tryd.prog.info? 79).map (fun i => (i.zero, i.size, i.bytes)) = some (some (.int .u64 0), 1, 8) := by kernel_rfl
set_option maxRecDepth 100000 in
set_option maxHeartbeats 1000000 in
theorem primes_any (w : World) :
    Calls Tryd.prog 79 #[.int .i64 64] w fun e w' => ∃ a c, e = .returned (.slice a 64 c) ∧ w'.ownsRow w.heap.size 79 1 (.slice a 64 c) 64 (primeL.map (Value.int .u64)) ∧ Below w.heap.size w w' := by
  obtain ⟨i0, hi, hz0, hz1, hz2⟩ := info_parts Tryd.info79b
  go_enter Tryd.func79, Tryd.ntmps79
  go_wp2
  go_loopw [3, 4] (fun v p wr => ∃ (j : Nat) (a : Option Addr) (m c : Nat) (l : List Int), j ≤ 310 ∧ p = .int .u64 (2 + (j : Int)) ∧ v = .slice a m c ∧ Hid (l = prTo j) ∧ Hid (l.length = m) ∧ wr.ownsRow w.heap.size 79 1 (.slice a m c) m (l.map (Value.int .u64)) ∧ Below w.heap.size w wr) (fun _ p _ => (312 - intOf p).toNat)
  case atStart => exact ⟨0, none, 0, 0, [], by omega, rfl, rfl, rfl, rfl, World.ownsRow_nil _ _ _ _, Below.refl _ _⟩
  case round =>
    obtain ⟨j, a, m, c, l, hj, rfl, rfl, HL, HM, ho, hb⟩ := hrel
    have hsz := hb.size
    by_cases hlt : j < 310
    · have hm : m < 64 := by have := prTo_lt j hlt; rw [← HL.out, HM.out] at this; exact this
      have HG : Hid (∀ q ∈ l, 2 ≤ q ∧ q ≤ 2 + (j : Int)) := by rw [HL.out]; exact prTo_ge j
      have HS : Hid (prTo (j + 1) = if noDiv (2 + (j : Int)) l then l ++ [2 + (j : Int)] else l) := by rw [HL.out]; rfl
      clear HL
      go_wp2
      go_loop [5, 16] (fun ok i => ∃ k : Nat, k ≤ m ∧ i = .int .i64 k ∧ ok = .bool (noDiv (2 + (j : Int)) (l.take k))) (fun _ i => m - (intOf i).toNat)
      case atStart => exact ⟨0, Nat.zero_le _, rfl, rfl⟩
      case round =>
        obtain ⟨k, hk, rfl, rfl⟩ := hrel
        by_cases hkm : k < m
        · obtain ⟨g, rfl, hcell, -, -⟩ := own_get (z := 0) ho k hkm
          have HN : Hid (noDiv (2 + (j : Int)) (l.take (k + 1)) = (noDiv (2 + (j : Int)) (l.take k) && ((2 + (j : Int)) % l.getD k 0 != 0))) := noDiv_snoc _ l k (by have := HM.out; omega)
          have hq : 2 ≤ l.getD k 0 := by
            have hkl : k < l.length := by have := HM.out; omega
            rw [List.getD_eq_getElem?_getD, List.getElem?_eq_getElem hkl]
            exact (HG.out _ (List.getElem_mem hkl)).1
          generalize l.getD k 0 = q at *
          cases hok : noDiv (2 + (j : Int)) (l.take k)
          · have HN2 : Hid (noDiv (2 + (j : Int)) (l.take (k + 1)) = false) := by rw [HN.out, hok]; rfl
            go_wp2
            go_round
            case rel => exact ⟨k + 1, by omega, by go_num, by rw [HN2.out]⟩
            case measure => simp [intOf]; omega
          · cases hd : ((2 + (j : Int)) % q != 0)
            · have HN2 : Hid (noDiv (2 + (j : Int)) (l.take (k + 1)) = false) := by rw [HN.out, hok, hd]; rfl
              go_wp2
              go_round
              case rel => exact ⟨k + 1, by omega, by go_num, by rw [HN2.out]⟩
              case measure => simp [intOf]; omega
            · have HN2 : Hid (noDiv (2 + (j : Int)) (l.take (k + 1)) = true) := by rw [HN.out, hok, hd]; rfl
              go_wp2
              go_round
              case rel => exact ⟨k + 1, by omega, by go_num, by rw [HN2.out]⟩
              case measure => simp [intOf]; omega
        · have e : l.take k = l := List.take_of_length_le (by have := HM.out; omega)
          rw [e]
          clear e
          cases hok : noDiv (2 + (j : Int)) l
          · have HS2 : Hid (l = prTo (j + 1)) := by
              have := HS.out
              rw [hok] at this
              exact this.symm
            go_wp2
            go_roundw
            case rel => exact ⟨j + 1, a, m, c, l, by omega, by go_num, rfl, HS2, HM, ho, hb⟩
            case measure => simp [intOf]; omega
          · have HS2 : Hid (l ++ [2 + (j : Int)] = prTo (j + 1)) := by
              have := HS.out
              rw [hok] at this
              exact this.symm
            go_wp2_with (at_builtin; refine wpList_append_own _ rfl (.tmp 29) (.tmp 31) 119 rfl w.heap.size 79 i0 (.int .u64 0) 1 8 Tryd.underlying119 hi hz0 hz1 hz2 rfl (by decide) _ _ _ rfl (ho.alloc _) ⟨wr.heap.size, 0, none⟩ 1 1 [.int .u64 (2 + (j : Int))] rfl rfl (cell_one_new _ _ _) (by intro u hu; simp at hu; subst hu; rfl) (by unfold maxLen; omega) (by omega) (by simp; omega) ?_)
            intro v2 w2 ho2 hg2 _
            obtain ⟨a3, c3, hv3⟩ := own_form' ho2
            have ho3 : w2.ownsRow w.heap.size 79 1 (.slice a3 (m + 1) c3) (m + 1) ((l ++ [2 + (j : Int)]).map (Value.int .u64)) := by
              rw [List.map_append, ← hv3]; exact ho2
            have HM3 : Hid ((l ++ [2 + (j : Int)]).length = m + 1) := by rw [List.length_append, HM.out]; rfl
            have hb3 : Below w.heap.size w w2 := (hb.alloc hsz _).grown hg2 (by simp; omega) (fun q h => own_block ho h)
            rw [hv3]
            clear ho2 hg2 hv3 ho
            go_wp2
            go_roundw
            case rel => exact ⟨j + 1, a3, m + 1, c3, l ++ [2 + (j : Int)], by omega, by go_num, rfl, HS2, HM3, ho3, hb3⟩
            case measure => simp [intOf]; omega
    · obtain rfl : j = 310 := by omega
      have hl : l = primeL := HL.out.trans prTo_end
      have hm : m = 64 := by rw [← HM.out, hl]; rfl
      subst hm
      rw [hl] at ho
      clear HL HM hl
      go_wp2
      go_ret
      exact ⟨a, c, rfl, ho, hb⟩

end Go.Proofs.YtkjlchfmplcobadDoor
