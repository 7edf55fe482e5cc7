/- FleetRefFreezeMem, ShaRefPrimes, ShaRefMath, ShelfRefLay, ShelfGoRead, ShelfRefTake, ShelfMem, FleetRefSpoilNo, FleetRefSpoilRange, FleetRefSpoilTail, as one text. -/
import Derived.Test.YtkjlchfmplcobaeGreatDoorRunAE
import Derived.Test.YtkjlchfmplcobaeGreatDoorRunAL
/- What holds, whatever has been carried out, of f.Book = append(append([]api.Record{}, f.Book...), r): for the reference's Step. -/
namespace Go.Proofs.YtkjlchfmplcobaeGreatDoor
open Go.RowKit

/-- b: which of the five operations that change memory have been carried out; s: what they gave. -/
structure FzM (A : World) (NB : Nat) (ys : List Value) (lit : Array Value) (gp : Nat) (b1 b6 b19 b20 b23 : Bool) (s1 s6 s19 s20 : Value) (w : World) : Prop where
 bel : b23 = false → Below A.heap.size A w
 c6 : b6 = true → b1 = true
 c20 : b20 = true → b6 = true ∧ b19 = true
 c23 : b23 = true → b20 = true
 f1 : b1 = true → b6 = false → ∃ g, s1 = .slice (some ⟨g, 0, none⟩) 0 0 ∧ w.heap[g]? = some (.cells #[] 45 (0, 0)) ∧ A.heap.size ≤ g
 f6 : b6 = true → b20 = false → ∃ g cp, s6 = .slice (some ⟨g, 0, none⟩) NB cp ∧ w.ownsRow A.heap.size 45 5 (.slice (some ⟨g, 0, none⟩) NB cp) NB ys
 f19 : b19 = true → b20 = false → ∃ g, s19 = .slice (some ⟨g, 0, none⟩) 1 1 ∧ w.heap[g]? = some (.cells lit 45 (0, 0)) ∧ A.heap.size ≤ g ∧ (b1 = true → b6 = false → s1.ownBlock ≠ some g) ∧ (b6 = true → s6.ownBlock ≠ some g)
 f20 : b20 = true → b23 = false → ∃ g cp, s20 = .slice (some ⟨g, 0, none⟩) (NB + 1) cp ∧ w.ownsRow A.heap.size 45 5 (.slice (some ⟨g, 0, none⟩) (NB + 1) cp) (NB + 1) (ys ++ lit.toList)
 f23 : b23 = true → ∃ g cp w7, s20 = .slice (some ⟨g, 0, none⟩) (NB + 1) cp ∧ w7.ownsRow A.heap.size 45 5 (.slice (some ⟨g, 0, none⟩) (NB + 1) cp) (NB + 1) (ys ++ lit.toList) ∧ Below A.heap.size A w7 ∧ w = w7.setCell ⟨gp, 1, none⟩ (.slice (some ⟨g, 0, none⟩) (NB + 1) cp)
theorem fz_start {A w : World} {NB gp : Nat} {ys : List Value} {lit : Array Value} {s1 s6 s19 s20 : Value} (h : Below A.heap.size A w) : FzM A NB ys lit gp false false false false false s1 s6 s19 s20 w :=
 ⟨fun _ => h, fun q => (by cases q), fun q => (by cases q), fun q => (by cases q), fun q => (by cases q), fun q => (by cases q), fun q => (by cases q), fun q => (by cases q), fun q => (by cases q)⟩
variable {A w w' : World} {NB gp : Nat} {ys : List Value} {lit : Array Value} {b1 b6 b19 b20 b23 : Bool} {s1 s6 s19 s20 : Value}
theorem FzM.no6 (h : FzM A NB ys lit gp false b6 b19 b20 b23 s1 s6 s19 s20 w) : b6 = false := by
 cases b6 with
 | false => rfl
 | true => exact absurd (h.c6 rfl) (by decide)
theorem FzM.no20 (h : FzM A NB ys lit gp b1 false b19 b20 b23 s1 s6 s19 s20 w) : b20 = false := by
 cases b20 with
 | false => rfl
 | true => exact absurd (h.c20 rfl).1 (by decide)
theorem FzM.no20' (h : FzM A NB ys lit gp b1 b6 false b20 b23 s1 s6 s19 s20 w) : b20 = false := by
 cases b20 with
 | false => rfl
 | true => exact absurd (h.c20 rfl).2 (by decide)
theorem FzM.no23 (h : FzM A NB ys lit gp b1 b6 b19 false b23 s1 s6 s19 s20 w) : b23 = false := by
 cases b23 with
 | false => rfl
 | true => exact absurd (h.c23 rfl) (by decide)
theorem FzM.op1 (h : FzM A NB ys lit gp false b6 b19 b20 b23 s1 s6 s19 s20 w) : FzM A NB ys lit gp true b6 b19 b20 b23 (.slice (some ⟨w.heap.size, 0, none⟩) 0 0) s6 s19 s20 (w.alloc (.cells #[] 45)) := by
 obtain rfl := h.no6
 obtain rfl := h.no20
 obtain rfl := h.no23
 have hb := h.bel rfl
 refine ⟨fun _ => hb.alloc hb.size _, fun q => (by cases q), fun q => (by cases q), fun q => (by cases q), fun _ _ => ⟨_, rfl, box_new w #[] 45, hb.size⟩, fun q => (by cases q), fun q _ => ?_, fun q => (by cases q), fun q => (by cases q)⟩
 obtain ⟨g, e, hg, hA, -, -⟩ := h.f19 q rfl
 exact ⟨g, e, box_old _ _ hg, hA, fun _ _ e2 => by have h2 : w.heap.size = g := Option.some.inj e2; have := lt_heap hg; omega, fun q => (by cases q)⟩
theorem FzM.op6 (h : FzM A NB ys lit gp b1 false b19 b20 b23 s1 s6 s19 s20 w) {B g cap : Nat} (h1 : b1 = true) (hs : s1 = .slice (some ⟨B, 0, none⟩) 0 0) (hB : A.heap.size ≤ B) (ho : w'.ownsRow A.heap.size 45 5 (.slice (some ⟨g, 0, none⟩) NB cap) NB ys) (hg : w.grownBy w' (some B)) (hl : g = B ∨ g = w.heap.size) :
  FzM A NB ys lit gp b1 true b19 b20 b23 s1 (.slice (some ⟨g, 0, none⟩) NB cap) s19 s20 w' := by
 obtain rfl := h.no20
 obtain rfl := h.no23
 have hb := h.bel rfl
 refine ⟨fun _ => hb.grown hg hb.size (fun b q => by cases q; exact hB), fun _ => h1, fun q => (by cases q), fun q => (by cases q), fun _ q => (by cases q), fun _ _ => ⟨g, cap, rfl, ho⟩, fun q _ => ?_, fun q => (by cases q), fun q => (by cases q)⟩
 obtain ⟨g9, e, h9, hA, hn, -⟩ := h.f19 q rfl
 have hne : B ≠ g9 := fun e2 => hn h1 rfl (by rw [hs, e2]; rfl)
 have hlt := lt_heap h9
 refine ⟨g9, e, (hg.block g9 hlt (fun e2 => hne (Option.some.inj e2).symm)).trans h9, hA, fun _ q => (by cases q), fun _ e2 => ?_⟩
 have h2 : g = g9 := Option.some.inj e2
 rcases hl with hl | hl
 ·exact hne (hl.symm.trans h2)
 ·omega
theorem FzM.op19 (h : FzM A NB ys lit gp b1 b6 false b20 b23 s1 s6 s19 s20 w) : FzM A NB ys lit gp b1 b6 true b20 b23 s1 s6 (.slice (some ⟨w.heap.size, 0, none⟩) 1 1) s20 (w.alloc (.cells lit 45)) := by
 obtain rfl := h.no20'
 obtain rfl := h.no23
 have hb := h.bel rfl
 refine ⟨fun _ => hb.alloc hb.size _, h.c6, fun q => (by cases q), fun q => (by cases q), fun q1 q2 => ?_, fun q1 q2 => ?_, fun _ _ => ⟨_, rfl, box_new w lit 45, hb.size, fun q1 q2 e2 => ?_, fun q1 e2 => ?_⟩, fun q => (by cases q), fun q => (by cases q)⟩
 ·obtain ⟨g, e, hg, hA⟩ := h.f1 q1 q2
  exact ⟨g, e, box_old _ _ hg, hA⟩
 ·obtain ⟨g, cp, e, ho⟩ := h.f6 q1 rfl
  exact ⟨g, cp, e, ho.alloc _⟩
 ·obtain ⟨g, e, hg, hA⟩ := h.f1 q1 q2
  rw [e] at e2
  have h2 : g = w.heap.size := Option.some.inj e2
  have := lt_heap hg
  omega
 ·obtain ⟨g, cp, e, ho⟩ := h.f6 q1 rfl
  rw [e] at e2
  have h2 : g = w.heap.size := Option.some.inj e2
  have := (ho.lt g rfl).2
  omega
theorem FzM.op20 (h : FzM A NB ys lit gp b1 b6 b19 false b23 s1 s6 s19 s20 w) {B g cap : Nat} (h6 : b6 = true) (h19 : b19 = true) (hB : A.heap.size ≤ B) (ho : w'.ownsRow A.heap.size 45 5 (.slice (some ⟨g, 0, none⟩) (NB + 1) cap) (NB + 1) (ys ++ lit.toList)) (hg : w.grownBy w' (some B)) :
  FzM A NB ys lit gp b1 b6 b19 true b23 s1 s6 s19 (.slice (some ⟨g, 0, none⟩) (NB + 1) cap) w' := by
 obtain rfl := h.no23
 have hb := h.bel rfl
 exact ⟨fun _ => hb.grown hg hb.size (fun b q => by cases q; exact hB), h.c6, fun _ => ⟨h6, h19⟩, fun q => (by cases q), fun _ q => (by rw [h6] at q; cases q), fun _ q => (by cases q), fun _ q => (by cases q), fun _ _ => ⟨g, cap, rfl, ho⟩, fun q => (by cases q)⟩
theorem FzM.op23 (h : FzM A NB ys lit gp b1 b6 b19 b20 false s1 s6 s19 s20 w) (h20 : b20 = true) : FzM A NB ys lit gp b1 b6 b19 b20 true s1 s6 s19 s20 (w.setCell ⟨gp, 1, none⟩ s20) := by
 obtain ⟨g, cp, e, ho⟩ := h.f20 h20 rfl
 obtain ⟨q6, q19⟩ := h.c20 h20
 exact ⟨fun q => (by cases q), h.c6, h.c20, fun _ => h20, fun _ q => (by rw [q6] at q; cases q), fun _ q => (by rw [h20] at q; cases q), fun _ q => (by rw [h20] at q; cases q), fun _ q => (by cases q), fun _ => ⟨g, cp, w, e, ho, h.bel rfl, by rw [e]⟩⟩

end Go.Proofs.YtkjlchfmplcobaeGreatDoor

/- The walk of yearref1.Primes, at sixty-four. -/
namespace Go.Proofs.YtkjlchfmplcobaeGreatDoor
open Go.RowKit

def noDiv (p : Int) (l : List Int) : Bool := l.all fun q => p % q != 0
def prTo : Nat → List Int
  | 0 => []
  | j + 1 => if noDiv (2 + (j : Int)) (prTo j) then prTo j ++ [2 + (j : Int)] else prTo j
theorem prTo_ge (j : Nat) : ∀ q ∈ prTo j, 2 ≤ q ∧ q ≤ 2 + (j : Int) := by
  induction j with
  | zero => intro q hq; simp [prTo] at hq
  | succ j ih =>
    intro q hq
    rw [prTo] at hq
    split at hq
    · rcases List.mem_append.1 hq with h | h
      · have := ih q h; omega
      · have e := List.mem_singleton.1 h; omega
    · have := ih q hq; omega
theorem prTo_mono (j k : Nat) (h : j ≤ k) : (prTo j).length ≤ (prTo k).length := by
  induction k with
  | zero => obtain rfl : j = 0 := by omega
            exact Nat.le_refl _
  | succ k ih =>
    by_cases e : j = k + 1
    · rw [e]; exact Nat.le_refl _
    · refine Nat.le_trans (ih (by omega)) ?_
      rw [prTo]
      split
      · simp
      · exact Nat.le_refl _
set_option maxRecDepth 100000 in
theorem prTo_end : prTo 310 = primeL := by decide +kernel
set_option maxRecDepth 100000 in
theorem prTo_near : (prTo 309).length = 63 := by decide +kernel
theorem prTo_lt (j : Nat) (h : j < 310) : (prTo j).length < 64 := by
  have := prTo_mono j 309 (by omega)
  rw [prTo_near] at this
  omega
theorem noDiv_snoc (p : Int) (l : List Int) (i : Nat) (h : i < l.length) : noDiv p (l.take (i + 1)) = (noDiv p (l.take i) && (p % l.getD i 0 != 0)) := by
  unfold noDiv
  rw [take_next l i h, List.all_append]
  simp
theorem Tryz.info142b : (Tryz.prog.info? 142).map (fun i => (i.zero, i.size, i.bytes)) = some (some (.int .u64 0), 1, 8) := by kernel_rfl
set_option maxRecDepth 100000 in
set_option maxHeartbeats 1000000 in
theorem primes_any (w : World) :
    Calls Tryz.prog 94 #[.int .i64 64] w fun e w' => ∃ a c, e = .returned (.slice a 64 c) ∧ w'.ownsRow w.heap.size 142 1 (.slice a 64 c) 64 (primeL.map (Value.int .u64)) ∧ Below w.heap.size w w' := by
  obtain ⟨i0, hi, hz0, hz1, hz2⟩ := info_parts Tryz.info142b
  go_enter Tryz.func94, Tryz.ntmps94
  go_wp2
  go_loopw [3, 4] (fun v p wr => ∃ (j : Nat) (a : Option Addr) (m c : Nat) (l : List Int), j ≤ 310 ∧ p = .int .u64 (2 + (j : Int)) ∧ v = .slice a m c ∧ Hid (l = prTo j) ∧ Hid (l.length = m) ∧ wr.ownsRow w.heap.size 142 1 (.slice a m c) m (l.map (Value.int .u64)) ∧ Below w.heap.size w wr) (fun _ p _ => (312 - intOf p).toNat)
  case atStart => exact ⟨0, none, 0, 0, [], by omega, rfl, rfl, rfl, rfl, World.ownsRow_nil _ _ _ _, Below.refl _ _⟩
  case round =>
    obtain ⟨j, a, m, c, l, hj, rfl, rfl, HL, HM, ho, hb⟩ := hrel
    have hsz := hb.size
    by_cases hlt : j < 310
    · have hm : m < 64 := by have := prTo_lt j hlt; rw [← HL.out, HM.out] at this; exact this
      have HG : Hid (∀ q ∈ l, 2 ≤ q ∧ q ≤ 2 + (j : Int)) := by rw [HL.out]; exact prTo_ge j
      have HS : Hid (prTo (j + 1) = if noDiv (2 + (j : Int)) l then l ++ [2 + (j : Int)] else l) := by rw [HL.out]; rfl
      clear HL
      go_wp2
      go_loop [5, 16] (fun ok i => ∃ k : Nat, k ≤ m ∧ i = .int .i64 k ∧ ok = .bool (noDiv (2 + (j : Int)) (l.take k))) (fun _ i => m - (intOf i).toNat)
      case atStart => exact ⟨0, Nat.zero_le _, rfl, rfl⟩
      case round =>
        obtain ⟨k, hk, rfl, rfl⟩ := hrel
        by_cases hkm : k < m
        · obtain ⟨g, rfl, hcell, -, -⟩ := own_get (z := 0) ho k hkm
          have HN : Hid (noDiv (2 + (j : Int)) (l.take (k + 1)) = (noDiv (2 + (j : Int)) (l.take k) && ((2 + (j : Int)) % l.getD k 0 != 0))) := noDiv_snoc _ l k (by have := HM.out; omega)
          have hq : 2 ≤ l.getD k 0 := by
            have hkl : k < l.length := by have := HM.out; omega
            rw [List.getD_eq_getElem?_getD, List.getElem?_eq_getElem hkl]
            exact (HG.out _ (List.getElem_mem hkl)).1
          generalize l.getD k 0 = q at *
          cases hok : noDiv (2 + (j : Int)) (l.take k)
          · have HN2 : Hid (noDiv (2 + (j : Int)) (l.take (k + 1)) = false) := by rw [HN.out, hok]; rfl
            go_wp2
            go_round
            case rel => exact ⟨k + 1, by omega, by go_num, by rw [HN2.out]⟩
            case measure => simp [intOf]; omega
          · cases hd : ((2 + (j : Int)) % q != 0)
            · have HN2 : Hid (noDiv (2 + (j : Int)) (l.take (k + 1)) = false) := by rw [HN.out, hok, hd]; rfl
              go_wp2
              go_round
              case rel => exact ⟨k + 1, by omega, by go_num, by rw [HN2.out]⟩
              case measure => simp [intOf]; omega
            · have HN2 : Hid (noDiv (2 + (j : Int)) (l.take (k + 1)) = true) := by rw [HN.out, hok, hd]; rfl
              go_wp2
              go_round
              case rel => exact ⟨k + 1, by omega, by go_num, by rw [HN2.out]⟩
              case measure => simp [intOf]; omega
        · have e : l.take k = l := List.take_of_length_le (by have := HM.out; omega)
          rw [e]
          clear e
          cases hok : noDiv (2 + (j : Int)) l
          · have HS2 : Hid (l = prTo (j + 1)) := by
              have := HS.out
              rw [hok] at this
              exact this.symm
            go_wp2
            go_roundw
            case rel => exact ⟨j + 1, a, m, c, l, by omega, by go_num, rfl, HS2, HM, ho, hb⟩
            case measure => simp [intOf]; omega
          · have HS2 : Hid (l ++ [2 + (j : Int)] = prTo (j + 1)) := by
              have := HS.out
              rw [hok] at this
              exact this.symm
            go_wp2_with (at_builtin; refine wpList_append_own _ rfl (.tmp 29) (.tmp 31) 139 rfl w.heap.size 142 i0 (.int .u64 0) 1 8 Tryz.underlying139 hi hz0 hz1 hz2 rfl (by decide) _ _ _ rfl (ho.alloc _) ⟨wr.heap.size, 0, none⟩ 1 1 [.int .u64 (2 + (j : Int))] rfl rfl (cell_one_new _ _ _) (by intro u hu; simp at hu; subst hu; rfl) (by unfold maxLen; omega) (by omega) (by simp; omega) ?_)
            intro v2 w2 ho2 hg2 _
            obtain ⟨a3, c3, hv3⟩ := own_form' ho2
            have ho3 : w2.ownsRow w.heap.size 142 1 (.slice a3 (m + 1) c3) (m + 1) ((l ++ [2 + (j : Int)]).map (Value.int .u64)) := by
              rw [List.map_append, ← hv3]; exact ho2
            have HM3 : Hid ((l ++ [2 + (j : Int)]).length = m + 1) := by rw [List.length_append, HM.out]; rfl
            have hb3 : Below w.heap.size w w2 := (hb.alloc hsz _).grown hg2 (by simp; omega) (fun q h => own_block ho h)
            rw [hv3]
            clear ho2 hg2 hv3 ho
            go_wp2
            go_roundw
            case rel => exact ⟨j + 1, a3, m + 1, c3, l ++ [2 + (j : Int)], by omega, by go_num, rfl, HS2, HM3, ho3, hb3⟩
            case measure => simp [intOf]; omega
    · obtain rfl : j = 310 := by omega
      have hl : l = primeL := HL.out.trans prTo_end
      have hm : m = 64 := by rw [← HM.out, hl]; rfl
      subst hm
      rw [hl] at ho
      clear HL HM hl
      go_wp2
      go_ret
      exact ⟨a, c, rfl, ho, hb⟩

end Go.Proofs.YtkjlchfmplcobaeGreatDoor

/- The plain mathematics between the two digests: block by block, and byte by byte. Nothing of the program is in it. -/
namespace Go.Proofs.YtkjlchfmplcobaeGreatDoor
open Go.RowKit

/-- The words behind t blocks of M. -/
def stB (M : List Int) : Nat → St
 | 0 => st0
 | t + 1 => (stB M t).mix ((M.drop (64 * t)).take 64)
theorem set_next (b0 B : List Int) (i : Nat) (h0 : b0.length = 64) (hB : B.length = 64) (hi : i < 64) : (B.take i ++ b0.drop i).set i (B.getD i 0) = B.take (i + 1) ++ b0.drop (i + 1) := by
 have hl : (B.take i).length = i := by rw [List.length_take]; omega
 rw [List.set_append, if_neg (by omega), hl, Nat.sub_self, take_next B i (by omega), List.append_assoc]
 congr 1
 rw [List.drop_eq_getElem_cons (by omega), List.set_cons_zero]
 rfl
/-- One block, byte by byte. -/
theorem block_partly (r : Rn) (B : List Int) (hc : r.c % 64 = 0) (h0 : r.blk.length = 64) (hB : B.length = 64) (i : Nat) (hi : i < 64) : r.all (B.take i) = ⟨r.s, B.take i ++ r.blk.drop i, r.c + i⟩ := by
 induction i with
 | zero => simp [Rn.all]
 | succ i ih =>
  have hm : (r.c + i) % 64 = i := by omega
  rw [take_next B i (by omega), Rn.all_snoc, ih (by omega), Rn.push]
  simp only [hm]
  rw [if_neg (by omega), set_next r.blk B i h0 hB (by omega), ← take_next B i (by omega)]
  rfl
theorem block_whole (r : Rn) (B : List Int) (hc : r.c % 64 = 0) (h0 : r.blk.length = 64) (hB : B.length = 64) : r.all B = ⟨r.s.mix B, B, r.c + 64⟩ := by
 have h := block_partly r B hc h0 hB 63 (by omega)
 have hm : (r.c + 63) % 64 = 63 := by omega
 have e : B = B.take 63 ++ [B.getD 63 0] := by rw [← take_next B 63 (by omega), List.take_of_length_le (by omega)]
 have hs := set_next r.blk B 63 h0 hB (by omega)
 rw [show B.take (63 + 1) = B from List.take_of_length_le (by omega), show r.blk.drop (63 + 1) = [] from List.drop_eq_nil_of_le (by omega), List.append_nil] at hs
 conv => lhs; rw [e]
 rw [Rn.all_snoc, h, Rn.push]
 simp only [hm]
 rw [if_pos (by omega), hs]
theorem all_blocks (M : List Int) (T : Nat) (hM : M.length = 64 * T) (t : Nat) (ht : t ≤ T) : (rn0.all (M.take (64 * t))).s = stB M t ∧ (rn0.all (M.take (64 * t))).c = 64 * t ∧ (rn0.all (M.take (64 * t))).blk.length = 64 := by
 induction t with
 | zero => exact ⟨by simp [Rn.all, stB, rn0], by simp [Rn.all, rn0], by simp [Rn.all, rn0]⟩
 | succ t ih =>
  obtain ⟨h1, h2, h3⟩ := ih (by omega)
  have hl : ((M.drop (64 * t)).take 64).length = 64 := by rw [List.length_take, List.length_drop]; omega
  have e : M.take (64 * (t + 1)) = M.take (64 * t) ++ (M.drop (64 * t)).take 64 := by
   rw [show 64 * (t + 1) = 64 * t + 64 by omega, List.take_add]
  rw [e, Rn.all_append, block_whole _ _ (by rw [h2]; omega) h3 hl]
  exact ⟨by show St.mix _ _ = _; rw [h1]; rfl, by show _ + 64 = _; rw [h2]; omega, hl⟩
theorem shaL_blocks (zs : List Int) (T : Nat) (hM : (zs ++ padL zs.length).length = 64 * T) : shaL zs = (stB (zs ++ padL zs.length) T).out := by
 have := (all_blocks (zs ++ padL zs.length) T hM T (Nat.le_refl _)).1
 rw [← hM, List.take_length, Rn.all_append] at this
 show ((rn0.all zs).all (padL zs.length)).s.out = _
 rw [this]
/-- A word, byte by byte. -/
def accI (f : Nat → Int) : Nat → Int
 | 0 => 0
 | j + 1 => accI f j * 256 + f j
theorem acc_word (f : Nat → Int) (h : ∀ j, 0 ≤ f j ∧ f j < 256) : accI f 4 = U (word (f 0) (f 1) (f 2) (f 3)) := by
 have h0 := h 0
 have h1 := h 1
 have h2 := h 2
 have h3 := h 3
 simp only [accI]
 unfold U word
 obtain ⟨a, ha⟩ := Int.eq_ofNat_of_zero_le (by omega : 0 ≤ f 0 * 16777216 + f 1 * 65536 + f 2 * 256 + f 3)
 rw [ha, BitVec.ofInt_natCast, BitVec.toNat_ofNat]
 omega
theorem acc_bd (f : Nat → Int) (h : ∀ j, 0 ≤ f j ∧ f j < 256) (q : Nat) (hq : q ≤ 4) : 0 ≤ accI f q ∧ accI f q < 4294967296 ∧ (q < 4 → accI f q < 16777216) := by
 have h0 := h 0
 have h1 := h 1
 have h2 := h 2
 have h3 := h 3
 have e : q = 0 ∨ q = 1 ∨ q = 2 ∨ q = 3 ∨ q = 4 := by omega
 rcases e with rfl | rfl | rfl | rfl | rfl <;> simp only [accI] <;> omega
theorem block_get (M : List Int) (t i : Nat) (hi : i < 64) : ((M.drop (64 * t)).take 64).getD i 0 = M.getD (64 * t + i) 0 := by
 rw [List.getD_eq_getElem?_getD, List.getD_eq_getElem?_getD, List.getElem?_take, if_pos hi, List.getElem?_drop]
theorem set_word (l m : List (BitVec 32)) (i : Nat) (hl : l.length = 8) (hm : m.length = 8) (hi : i < 8) : (m.take i ++ l.drop i).set i (m.getD i 0) = m.take (i + 1) ++ l.drop (i + 1) := by
 have h1 : (m.take i).length = i := by rw [List.length_take]; omega
 rw [List.set_append, if_neg (by omega), h1, Nat.sub_self, List.take_succ_eq_append_getElem (by omega), List.append_assoc]
 congr 1
 rw [List.drop_eq_getElem_cons (by omega), List.set_cons_zero, List.getD_eq_getElem?_getD, List.getElem?_eq_getElem (by omega)]
 rfl
theorem mid_word (l m : List (BitVec 32)) (i : Nat) (hm : m.length = 8) (hi : i < 8) : (m.take i ++ l.drop i).getD i 0 = l.getD i 0 := by
 have h1 : (m.take i).length = i := by rw [List.length_take]; omega
 rw [List.getD_eq_getElem?_getD, List.getElem?_append_right (by omega), h1, Nat.sub_self, List.getElem?_drop, Nat.add_zero, List.getD_eq_getElem?_getD]
theorem add_word (s r : St) (i : Nat) (hi : i < 8) : (s.add r).list.getD i 0 = s.list.getD i 0 + r.list.getD i 0 := by
 have h : i = 0 ∨ i = 1 ∨ i = 2 ∨ i = 3 ∨ i = 4 ∨ i = 5 ∨ i = 6 ∨ i = 7 := by omega
 rcases h with rfl | rfl | rfl | rfl | rfl | rfl | rfl | rfl <;> rfl
theorem byte_take (x : BitVec 32) (e : Nat) (he : e < 4) : (byte4 x).take (e + 1) = (byte4 x).take e ++ [U x / 2 ^ (24 - 8 * e) % 256] := by
 have h : e = 0 ∨ e = 1 ∨ e = 2 ∨ e = 3 := by omega
 rcases h with rfl | rfl | rfl | rfl
 ·rfl
 ·rfl
 ·rfl
 ·simp [byte4]
theorem choose_eq (e f g : BitVec 32) : (f &&& e ||| g &&& ~~~e) = ((e &&& f) ^^^ (~~~e &&& g)) := by
 apply BitVec.eq_of_getLsbD_eq
 intro i hi
 simp only [BitVec.getLsbD_or, BitVec.getLsbD_and, BitVec.getLsbD_not, BitVec.getLsbD_xor, hi, decide_true, Bool.true_and]
 cases e.getLsbD i <;> cases f.getLsbD i <;> cases g.getLsbD i <;> rfl
theorem most_eq (a b c : BitVec 32) : (a &&& b ||| a &&& c ||| b &&& c) = ((a &&& b) ^^^ (a &&& c) ^^^ (b &&& c)) := by
 apply BitVec.eq_of_getLsbD_eq
 intro i hi
 simp only [BitVec.getLsbD_or, BitVec.getLsbD_and, BitVec.getLsbD_xor]
 cases a.getLsbD i <;> cases b.getLsbD i <;> cases c.getLsbD i <;> rfl

end Go.Proofs.YtkjlchfmplcobaeGreatDoor

/- The walk of yearref5.Lay. -/
namespace Go.Proofs.YtkjlchfmplcobaeGreatDoor
open Go.RowKit

set_option maxRecDepth 100000 in
set_option maxHeartbeats 2000000 in
theorem refLay_any (L : List (List Int)) (a : Option Addr) (n c : Nat) (w : World) (hL : Lists w a n c L) (h200 : ∀ j, (L.getD j []).length ≤ 200) (h8 : n ≤ 8) :
  Calls Tryz.prog 83 #[.slice a n c] w fun e w' => ∃ va vc, e = .returned (.slice va (layL L).length vc) ∧ w'.ownsRow w.heap.size 5 1 (.slice va (layL L).length vc) (layL L).length ((layL L).map (Value.int .u8)) ∧ Below w.heap.size w w' := by
 obtain ⟨i0, hi0, hz0, hz1, hz2⟩ := info_parts Tryz.info5b
 have hlen := hL.len
 have h201 : ∀ k, (layL (L.take k)).length ≤ 2000 := fun k => by
  have h1 := layL_length (L.take k) (fun e he => mem_short h200 e (List.mem_of_mem_take he))
  have h2 : (L.take k).length ≤ 8 := by rw [List.length_take]; omega
  omega
 go_enter Tryz.func83, Tryz.ntmps83
 go_wp2_with fail
 go_loopw [3, 8] (fun ov kv wr => ∃ (k : Nat) (va : Option Addr) (m vc : Nat), k ≤ n ∧ kv = .int .i64 k ∧ ov = .slice va m vc ∧ Hid (m = (layL (L.take k)).length) ∧ wr.ownsRow w.heap.size 5 1 (.slice va m vc) m ((layL (L.take k)).map (Value.int .u8)) ∧ Below w.heap.size w wr) (fun _ kv _ => n - (intOf kv).toNat)
 case atStart => exact ⟨0, none, 0, 0, Nat.zero_le _, rfl, rfl, rfl, ⟨rfl, .inl ⟨rfl, rfl⟩⟩, Below.refl _ _⟩
 case round =>
  obtain ⟨wo, rfl⟩ : ∃ x, x = wr := ⟨wr, rfl⟩
  obtain ⟨k, va, m, vc, hk, rfl, rfl, HM, hrow, hbr⟩ := hrel
  have hm := h201 k
  rw [← HM.out] at hm
  have hsr := hbr.size
  by_cases hlt : k < n
  ·obtain ⟨b, off, pa, pc, rfl, hcell, hsome⟩ := hL.get k hlt
   have hb0 : b < w.heap.size := World.block_lt_of_cell? w ⟨b, off + k, none⟩ hcell
   have hcell1 := (hbr.cell (p := ⟨b, off + k, none⟩) hb0).trans hcell
   have HS : Hid (layL (L.take (k + 1)) = layL (L.take k) ++ ((L.getD k []).length : Int) :: L.getD k []) := by
    show _ = _
    rw [List.take_succ_eq_append_getElem (by omega), layL_snoc, List.getD_eq_getElem?_getD, List.getElem?_eq_getElem (by omega)]
    rfl
   have hd2 := h200 k
   have hB0 := hsome.at'
   obtain ⟨D, hD⟩ : ∃ D, D = L.getD k [] := ⟨_, rfl⟩
   rw [← hD] at hcell1 HS hd2 hB0
   obtain ⟨d, hd⟩ : ∃ d, d = D.length := ⟨_, rfl⟩
   rw [← hd] at hcell1 HS hd2 hB0
   have Hd : Hid (d = D.length) := hd
   have hlt' : (k : Int) < n := by omega
   have hd' : (d : Int) ≤ 200 := by omega
   have hrowA := hrow.alloc (.cells #[.int .u8 d] 5)
   have hnew := cell_one_new wo (.int .u8 d) 5
   have bA : Below w.heap.size w (wo.alloc (.cells #[.int .u8 d] 5)) := hbr.alloc hsr _
   have hsA : w.heap.size ≤ (wo.alloc (.cells #[.int .u8 d] 5)).heap.size := by simp; omega
   have hdm : m + 1 + D.length ≤ 3000 := by omega
   clear hcell hsome hrow h200 hD hd h201
   go_wp2_with (first
    | (at_builtin; refine wpList_append_own _ rfl (.tmp 12) (.tmp 16) 37 rfl w.heap.size 5 i0 _ 1 1 Tryz.underlying37 hi0 hz0 hz1 hz2 rfl (by decide) _ _ _ rfl hrowA _ 1 1 [.int .u8 d] rfl rfl hnew (by intro u hu; simp at hu; subst hu; rfl) (by unfold maxLen; omega) (by omega) hsA ?_; intro v7 w7 ho7 hg7 _; obtain ⟨ta, tc, rfl⟩ := own_form' ho7; have b7 : Below w.heap.size w w7 := bA.grown hg7 hsA (fun _ h => own_block hrowA h); have hB7 := hB0.below (Nat.le_refl _) b7; clear hg7)
    | (at_builtin; refine wpList_append_bytes rfl (.tmp 18) (.tmp 19) 37 rfl w.heap.size 5 i0 _ Tryz.underlying37 hi0 hz0 hz1 hz2 rfl _ _ _ rfl ho7 pa d pc D rfl hB7 (by unfold maxLen; omega) (by omega) b7.size ?_; intro v8 w8 ho8 hg8; obtain ⟨sa, sc, rfl⟩ := own_form' ho8))
   have b8 : Below w.heap.size w w8 := b7.grown hg8 b7.size (fun _ h => own_block ho7 h)
   go_roundw
   case rel =>
    refine ⟨k + 1, sa, _, sc, by omega, by go_num, rfl, ?_, ?_, b8⟩
    ·show _ = _; rw [HS.out, List.length_append, List.length_cons, ← HM.out]; omega
    ·rw [HS.out, List.map_append, List.map_cons]; simpa using ho8
   case measure => simp [intOf]; omega
  ·obtain rfl : k = n := by omega
   rw [List.take_of_length_le (by omega)] at HM hrow
   go_wp2_with fail
   go_ret
   refine ⟨va, vc, by rw [← HM.out]; rfl, by rw [← HM.out]; exact hrow, hbr⟩

end Go.Proofs.YtkjlchfmplcobaeGreatDoor

/- The walk of readEntries: package shelf as it landed. -/
namespace Go.Proofs.YtkjlchfmplcobaeGreatDoor
open Go.RowKit

/-- A round of reading. -/
theorem take_round {T : List Int} {cnt k a X : Nat} {done : List (List Int)} (hD : takeL cnt T = (takeL (cnt - k) (T.drop a)).map (done ++ ·)) (hk : k < cnt) (ha : a < T.length) (hx : T.getD a 0 = (X : Int)) (h1 : X ≤ 200) (h2 : a + 1 + X ≤ T.length) :
  takeL cnt T = (takeL (cnt - (k + 1)) (T.drop (a + 1 + X))).map ((done ++ [(T.drop (a + 1)).take X]) ++ ·) := by
 rw [hD, show cnt - k = (cnt - (k + 1)) + 1 by omega, takeL_more ha hx h1 h2]
 cases takeL (cnt - (k + 1)) (T.drop (a + 1 + X)) with
 | none => rfl
 | some r => simp
theorem take_stop {T : List Int} {cnt k a : Nat} {done : List (List Int)} (hD : takeL cnt T = (takeL (cnt - k) (T.drop a)).map (done ++ ·)) (hk : k < cnt) (h : ∀ n, takeL (n + 1) (T.drop a) = none) : takeL cnt T = none := by
 rw [hD, show cnt - k = (cnt - (k + 1)) + 1 by omega, h]; rfl
theorem cells_part {w : World} {g o a X c m : Nat} {T : List Int} (hg : g < w.heap.size) (hcell : ∀ j, j < T.length → w.cell? ⟨g, o + j, none⟩ = some (.int .u8 (T.getD j 0))) (h : a + X ≤ T.length) (hm : m = X) : BytesAt w (.slice (some ⟨g, o + a, none⟩) m c) ((T.drop a).take X) := by
 subst hm
 have hl : ((T.drop a).take m).length = m := by rw [List.length_take, List.length_drop]; omega
 refine .inr ⟨g, o + a, c, by rw [hl], hg, fun j hj => ?_⟩
 rw [hl] at hj
 rw [Nat.add_assoc, hcell (a + j) (by omega), List.getD_eq_getElem?_getD, List.getD_eq_getElem?_getD, List.getElem?_take, if_pos hj, List.getElem?_drop]
/-- What is read, or nothing. -/
def readOk (w : World) (v : Value) (r : Option (List (List Int))) : Prop := ∀ l, r = some l → ∃ xa xn xc, v = .slice xa xn xc ∧ Laid w xa xn xc l
theorem readOk_none (w : World) (v : Value) : readOk w v none := fun _ h => by cases h
theorem readOk_some {w : World} {xa : Option Addr} {xn xc : Nat} {l : List (List Int)} (h : Laid w xa xn xc l) : readOk w (.slice xa xn xc) (some l) := fun l' e => by cases e; exact ⟨_, _, _, rfl, h⟩
set_option maxRecDepth 100000 in
set_option maxHeartbeats 8000000 in
theorem readEntries_any (T : List Int) (hby : Bytes T) (hT4 : T.length ≤ 4000) (cnt : Nat) (hc8 : cnt ≤ 8) (tv : Value) (w : World) (hT : RoomAt w tv T) :
  Calls Tryz.prog 107 #[tv, .int .i64 cnt] w fun e w' => ∃ v, e = .returned (.tuple #[v, .bool (takeL cnt T).isSome]) ∧ readOk w' v (takeL cnt T) ∧ Below w.heap.size w w' := by
 obtain ⟨i0, hi0, hz0, hz1, hz2⟩ := info_parts Tryz.info37b
 obtain ⟨hB, ra, rc, rfl, hr1, hr2⟩ := hT
 obtain ⟨g, o, hrest, hgc⟩ : ∃ g o, RestAt (.slice ra T.length rc) T g o 0 ∧ (T.length = 0 ∨ (g < w.heap.size ∧ ∀ j, j < T.length → w.cell? ⟨g, o + j, none⟩ = some (.int .u8 (T.getD j 0)))) := by
  rcases hB with ⟨rfl, -⟩ | ⟨g, o, cp, e, h1, h2⟩
  ·exact ⟨0, 0, ⟨ra, rc, rfl, by simp, .inr rfl⟩, .inl rfl⟩
  ·cases e
   exact ⟨g, o, ⟨_, rc, rfl, by omega, .inl rfl⟩, .inr ⟨h1, h2⟩⟩
 have HD0 : Hid (takeL cnt T = (takeL (cnt - 0) (T.drop 0)).map (([] : List (List Int)) ++ ·)) := by
  show _ = _
  simp
 clear hB hr1 hr2
 go_enter Tryz.func107, Tryz.ntmps107
 go_wp2_with (at_make; refine wpList_make_own _ rfl _ _ 43 rfl w.heap.size 37 i0 (.slice none 0 0) 1 Tryz.underlying43 hi0 hz0 hz1 .i64 .i64 _ cnt rfl rfl rfl (by rw [hz2]; omega) (by unfold maxLen; omega) (Nat.le_refl _) ?_; intro w1 hown hgrow)
 have b1 : Below w.heap.size w w1 := (Below.refl _ _).grown hgrow (Nat.le_refl _) (fun q h => by cases h)
 clear hgrow
 go_loopw [0, 6, 12] (fun tv lv kv wr => ∃ (k a : Nat) (done : List (List Int)) (va : Option Addr) (vc : Nat) (vs : List Value), k ≤ cnt ∧ a ≤ T.length ∧ kv = .int .i64 k ∧ done.length = k ∧ lv = .slice va k vc ∧ wr.ownsRow w.heap.size 37 1 (.slice va k vc) k vs ∧ OwnEls wr w.heap.size vs done ∧ RestAt tv T g o a ∧ Hid (takeL cnt T = (takeL (cnt - k) (T.drop a)).map (done ++ ·)) ∧ Below w.heap.size w wr) (fun _ _ kv _ => cnt - (intOf kv).toNat)
 case atStart => exact ⟨0, 0, [], _, _, [], Nat.zero_le _, Nat.zero_le _, rfl, rfl, rfl, hown, fun _ hj => absurd hj (Nat.not_lt_zero _), hrest, HD0, b1⟩
 case round =>
  obtain ⟨wo, rfl⟩ : ∃ x, x = wr := ⟨wr, rfl⟩
  obtain ⟨k, a, done, va, vc, vs, hk, ha, rfl, hdl, rfl, hrow, hels, ⟨A, c, rfl, hac, hA⟩, HD, hbr⟩ := hrel
  have hsr := hbr.size
  clear hown b1 HD0 hrest
  by_cases hlt : k < cnt
  ·have hlt' : (k : Int) < cnt := by omega
   by_cases hz : a < T.length
   ·obtain ⟨hg, hcell⟩ := hgc.resolve_left (by omega)
    obtain rfl := hA.resolve_right (by omega)
    have hgo : g < wo.heap.size := by omega
    have hco : ∀ j, j < T.length → wo.cell? ⟨g, o + j, none⟩ = some (.int .u8 (T.getD j 0)) := fun j hj => (hbr.cell (p := ⟨g, o + j, none⟩) hg).trans (hcell j hj)
    have hx0 := hco a hz
    obtain ⟨X, HX⟩ : ∃ X : Nat, Hid (T.getD a 0 = (X : Int)) := ⟨(T.getD a 0).toNat, by show _ = _; have := hby a; omega⟩
    have hX256 : X < 256 := by have := hby a; have := HX.out; omega
    rw [HX.out] at hx0
    obtain ⟨m, HM⟩ : ∃ m, Hid (T.length - a = m) := ⟨_, rfl⟩
    rw [HM.out] at hac ⊢
    have hm1 : 1 ≤ m := by have := HM.out; omega
    have hm4 : m ≤ 4000 := by have := HM.out; omega
    have hmz : ((m : Int) == 0) = false := by simp; omega
    have hc1 : (1 : Int) ≤ c := by omega
    have hm1' : (1 : Int) ≤ m := by omega
    clear hA hgc hcell
    by_cases hx200 : 200 < X
    ·have HN : Hid (takeL cnt T = none) := take_stop HD.out hlt (fun n => takeL_much hz (by rw [HX.out]; omega))
     have hx200' : (200 : Int) < X := by omega
     clear HD hels hrow hco
     rcases (show c = 1 ∨ ¬ c = 1 by omega) with rfl | hc
     all_goals
      go_wp2_with fail
      go_quiet (fail)
      go_wp2_with fail
      exact bodyPost_ret (v := .tuple #[.slice none 0 0, .bool false]) (by simp [results, Tryz.results107, go_sem]) rfl ⟨_, by rw [HN.out]; rfl, by rw [HN.out]; exact readOk_none _ _, below_drewN' hbr _⟩
    ·have hx200' : ¬ (200 : Int) < X := by omega
     by_cases hxm : m - 1 < X
     ·have HN : Hid (takeL cnt T = none) := take_stop HD.out hlt (fun n => takeL_short hz (by rw [HX.out]; have := HM.out; omega))
      clear HD hels hrow hco
      rcases (show c = 1 ∨ ¬ c = 1 by omega) with rfl | hc
      ·obtain rfl : m = 1 := by omega
       have hxp : (0 : Int) < X := by omega
       go_wp2_with fail
       go_quiet (fail)
       go_wp2_with fail
       exact bodyPost_ret (v := .tuple #[.slice none 0 0, .bool false]) (by simp [results, Tryz.results107, go_sem]) rfl ⟨_, by rw [HN.out]; rfl, by rw [HN.out]; exact readOk_none _ _, below_drewN' hbr _⟩
      ·have hxp : ((m - 1 : Nat) : Int) < X := by omega
       go_wp2_with fail
       go_quiet (fail)
       go_wp2_with fail
       exact bodyPost_ret (v := .tuple #[.slice none 0 0, .bool false]) (by simp [results, Tryz.results107, go_sem]) rfl ⟨_, by rw [HN.out]; rfl, by rw [HN.out]; exact readOk_none _ _, below_drewN' hbr _⟩
     ·have hxle : a + 1 + X ≤ T.length := by have := HM.out; omega
      have HD2 : Hid (takeL cnt T = (takeL (cnt - (k + 1)) (T.drop (a + 1 + X))).map ((done ++ [(T.drop (a + 1)).take X]) ++ ·)) := take_round HD.out hlt hz HX.out (by omega) hxle
      have hdl2 : ((T.drop (a + 1)).take X).length = X := by rw [List.length_take, List.length_drop]; omega
      have hX200 : X ≤ 200 := by omega
      rcases (show c = 1 ∨ ¬ c = 1 by omega) with rfl | hc
      ·obtain rfl : m = 1 := by omega
       obtain rfl : X = 0 := by omega
       have hBX : ∀ C, BytesAt wo (.slice (some ⟨g, o + a, none⟩) 0 C) ((T.drop (a + 1)).take 0) := fun C => .inl ⟨by simp, _, _, rfl, fun h => by cases h⟩
       have hR2 : RestAt (.slice (some ⟨g, o + a, none⟩) 0 0) T g o (a + 1 + 0) := ⟨some ⟨g, o + a, none⟩, 0, by rw [show T.length - (a + 1 + 0) = 0 by have := HM.out; omega], by have := HM.out; omega, .inr (by have := HM.out; omega)⟩
       generalize (T.drop (a + 1)).take 0 = D at *
       clear hco HD HX hx200 hxm
       go_wp2_with fail
       go_quiet (fail)
       replace hrow : (wo.drewN nq).ownsRow w.heap.size 37 1 (.slice va k vc) k vs := hrow
       have hbq : Below wo.heap.size wo (wo.drewN nq) := below_drewN' (Below.refl _ _) nq
       have hels2 := hels.below hbq (Nat.le_refl _)
       have hB2 := fun C => (hBX C).below (Nat.le_refl _) hbq
       have hbq2 := hbr.trans (hbq.mono hsr)
       clear hbq hels hBX
       generalize wo.drewN nq = wq at *
       have hC := cloneB_any D ⟨g, o + a, none⟩ 0 0 wq (hB2 _) hdl2 (by omega)
       go_wp2_with fail
       refine hC.mono ?_
       rintro r w2 ⟨ya, yc, rfl, ho2, hb2⟩
       have b2 := hbq2.trans (hb2.mono hbq2.size)
       have hrow2 := own_below hrow hb2 (Nat.le_refl _)
       have hels3 := hels2.below hb2 (Nat.le_refl _)
       have hvl : vs.length = done.length := by rw [hdl]; simpa using hrow.1
       have hy2 : w2.ownsRow w.heap.size 5 1 (.slice ya 0 yc) D.length (D.map (Value.int .u8)) := by rw [hdl2]; exact ownsRow_base ho2 hbq2.size
       have hsn := hels3.snoc hvl hy2
       have hrowA := hrow2.alloc (.cells #[.slice ya 0 yc] 37)
       have hsnA := hsn.alloc (.cells #[.slice ya 0 yc] 37)
       have hnew := cell_one_new w2 (.slice ya 0 yc) 37
       have bA : Below w.heap.size w (w2.alloc (.cells #[.slice ya 0 yc] 37)) := b2.alloc b2.size _
       have hsA := bA.size
       clear hC hrow hels2 hels3 hsn hrow2 ho2 hy2 hB2 hb2
       go_wp2_with (at_builtin; refine wpList_append_own _ rfl (.tmp 31) (.tmp 36) 43 rfl w.heap.size 37 i0 _ 1 24 Tryz.underlying43 hi0 hz0 hz1 hz2 rfl (by decide) _ _ _ rfl hrowA _ 1 1 [.slice ya 0 yc] rfl rfl hnew (by intro u hu; simp at hu; subst hu; rfl) (by unfold maxLen; omega) (by omega) hsA ?_; intro v7 w7 ho7 hg7 _; obtain ⟨sa, sc, rfl⟩ := own_form' ho7)
       have b7 : Below w.heap.size w w7 := bA.grown hg7 hsA (fun _ h => own_block hrowA h)
       have hels7 := hsnA.kept hrowA hg7
       go_roundw
       case rel => exact ⟨k + 1, a + 1 + 0, done ++ [D], sa, sc, _, by omega, hxle, by go_num, by rw [List.length_append, hdl]; rfl, rfl, ho7, hels7, hR2, HD2, b7⟩
       case measure => simp [intOf]; omega
      ·have hxp : ¬ ((m - 1 : Nat) : Int) < X := by omega
       have hBX : ∀ C, BytesAt wo (.slice (some ⟨g, o + (a + 1), none⟩) X C) ((T.drop (a + 1)).take X) := fun C => cells_part hgo hco (by omega) rfl
       rw [show o + (a + 1) = o + a + 1 by omega] at hBX
       rcases (show c - 1 = X ∨ ¬ c - 1 = X by omega) with hcx | hcx
       ·obtain rfl : c = X + 1 := by omega
        obtain rfl : m = X + 1 := by omega
        have hR2 : RestAt (.slice (some ⟨g, o + a + 1, none⟩) 0 0) T g o (a + 1 + X) := ⟨some ⟨g, o + a + 1, none⟩, 0, by rw [show T.length - (a + 1 + X) = 0 by have := HM.out; omega], by have := HM.out; omega, .inr (by have := HM.out; omega)⟩
        generalize (T.drop (a + 1)).take X = D at *
        clear hco HD HX hx200 hxm
        go_wp2_with fail
        go_quiet (fail)
        replace hrow : (wo.drewN nq).ownsRow w.heap.size 37 1 (.slice va k vc) k vs := hrow
        have hbq : Below wo.heap.size wo (wo.drewN nq) := below_drewN' (Below.refl _ _) nq
        have hels2 := hels.below hbq (Nat.le_refl _)
        have hB2 := fun C => (hBX C).below (Nat.le_refl _) hbq
        have hbq2 := hbr.trans (hbq.mono hsr)
        clear hbq hels hBX
        generalize wo.drewN nq = wq at *
        have hC := cloneB_any D ⟨g, o + a + 1, none⟩ X X wq (hB2 _) hdl2 (by omega)
        go_wp2_with fail
        refine hC.mono ?_
        rintro r w2 ⟨ya, yc, rfl, ho2, hb2⟩
        have b2 := hbq2.trans (hb2.mono hbq2.size)
        have hrow2 := own_below hrow hb2 (Nat.le_refl _)
        have hels3 := hels2.below hb2 (Nat.le_refl _)
        have hvl : vs.length = done.length := by rw [hdl]; simpa using hrow.1
        have hy2 : w2.ownsRow w.heap.size 5 1 (.slice ya X yc) D.length (D.map (Value.int .u8)) := by rw [hdl2]; exact ownsRow_base ho2 hbq2.size
        have hsn := hels3.snoc hvl hy2
        have hrowA := hrow2.alloc (.cells #[.slice ya X yc] 37)
        have hsnA := hsn.alloc (.cells #[.slice ya X yc] 37)
        have hnew := cell_one_new w2 (.slice ya X yc) 37
        have bA : Below w.heap.size w (w2.alloc (.cells #[.slice ya X yc] 37)) := b2.alloc b2.size _
        have hsA := bA.size
        clear hC hrow hels2 hels3 hsn hrow2 ho2 hy2 hB2 hb2
        go_wp2_with (at_builtin; refine wpList_append_own _ rfl (.tmp 31) (.tmp 36) 43 rfl w.heap.size 37 i0 _ 1 24 Tryz.underlying43 hi0 hz0 hz1 hz2 rfl (by decide) _ _ _ rfl hrowA _ 1 1 [.slice ya X yc] rfl rfl hnew (by intro u hu; simp at hu; subst hu; rfl) (by unfold maxLen; omega) (by omega) hsA ?_; intro v7 w7 ho7 hg7 _; obtain ⟨sa, sc, rfl⟩ := own_form' ho7)
        have b7 : Below w.heap.size w w7 := bA.grown hg7 hsA (fun _ h => own_block hrowA h)
        have hels7 := hsnA.kept hrowA hg7
        go_roundw
        case rel => exact ⟨k + 1, a + 1 + X, done ++ [D], sa, sc, _, by omega, hxle, by go_num, by rw [List.length_append, hdl]; rfl, rfl, ho7, hels7, hR2, HD2, b7⟩
        case measure => simp [intOf]; omega
       ·have hR2 : RestAt (.slice (some ⟨g, o + a + 1 + X, none⟩) (m - 1 - X) (c - 1 - X)) T g o (a + 1 + X) := ⟨some ⟨g, o + (a + 1 + X), none⟩, c - 1 - X, by rw [show T.length - (a + 1 + X) = m - 1 - X by have := HM.out; omega, show o + (a + 1 + X) = o + a + 1 + X by omega], by have := HM.out; omega, .inl rfl⟩
        generalize (T.drop (a + 1)).take X = D at *
        clear hco HD HX hx200 hxm
        go_wp2_with fail
        go_quiet (fail)
        replace hrow : (wo.drewN nq).ownsRow w.heap.size 37 1 (.slice va k vc) k vs := hrow
        have hbq : Below wo.heap.size wo (wo.drewN nq) := below_drewN' (Below.refl _ _) nq
        have hels2 := hels.below hbq (Nat.le_refl _)
        have hB2 := fun C => (hBX C).below (Nat.le_refl _) hbq
        have hbq2 := hbr.trans (hbq.mono hsr)
        clear hbq hels hBX
        generalize wo.drewN nq = wq at *
        have hC := cloneB_any D ⟨g, o + a + 1, none⟩ X (c - 1) wq (hB2 _) hdl2 (by omega)
        go_wp2_with fail
        refine hC.mono ?_
        rintro r w2 ⟨ya, yc, rfl, ho2, hb2⟩
        have b2 := hbq2.trans (hb2.mono hbq2.size)
        have hrow2 := own_below hrow hb2 (Nat.le_refl _)
        have hels3 := hels2.below hb2 (Nat.le_refl _)
        have hvl : vs.length = done.length := by rw [hdl]; simpa using hrow.1
        have hy2 : w2.ownsRow w.heap.size 5 1 (.slice ya X yc) D.length (D.map (Value.int .u8)) := by rw [hdl2]; exact ownsRow_base ho2 hbq2.size
        have hsn := hels3.snoc hvl hy2
        have hrowA := hrow2.alloc (.cells #[.slice ya X yc] 37)
        have hsnA := hsn.alloc (.cells #[.slice ya X yc] 37)
        have hnew := cell_one_new w2 (.slice ya X yc) 37
        have bA : Below w.heap.size w (w2.alloc (.cells #[.slice ya X yc] 37)) := b2.alloc b2.size _
        have hsA := bA.size
        clear hC hrow hels2 hels3 hsn hrow2 ho2 hy2 hB2 hb2
        go_wp2_with (at_builtin; refine wpList_append_own _ rfl (.tmp 31) (.tmp 36) 43 rfl w.heap.size 37 i0 _ 1 24 Tryz.underlying43 hi0 hz0 hz1 hz2 rfl (by decide) _ _ _ rfl hrowA _ 1 1 [.slice ya X yc] rfl rfl hnew (by intro u hu; simp at hu; subst hu; rfl) (by unfold maxLen; omega) (by omega) hsA ?_; intro v7 w7 ho7 hg7 _; obtain ⟨sa, sc, rfl⟩ := own_form' ho7)
        have b7 : Below w.heap.size w w7 := bA.grown hg7 hsA (fun _ h => own_block hrowA h)
        have hels7 := hsnA.kept hrowA hg7
        go_roundw
        case rel => exact ⟨k + 1, a + 1 + X, done ++ [D], sa, sc, _, by omega, hxle, by go_num, by rw [List.length_append, hdl]; rfl, rfl, ho7, hels7, hR2, HD2, b7⟩
        case measure => simp [intOf]; omega
   ·have hm0 : T.length - a = 0 := by omega
    have HN : Hid (takeL cnt T = none) := take_stop HD.out hlt (fun n => takeL_none hz)
    rw [hm0] at hac ⊢
    clear HD hels hrow hA hgc
    go_wp2_with fail
    exact bodyPost_ret (v := .tuple #[.slice none 0 0, .bool false]) (by simp [results, Tryz.results107, go_sem]) rfl ⟨_, by rw [HN.out]; rfl, by rw [HN.out]; exact readOk_none _ _, hbr⟩
  ·obtain rfl : k = cnt := by omega
   have hnl : ¬ (k : Int) < k := by omega
   have HL : Hid (takeL k T = if a = T.length then some done else none) := by
    show _ = _
    rw [HD.out, Nat.sub_self, takeL_last ha]
    split <;> simp
   by_cases hz : a = T.length
   ·have HS : Hid (takeL k T = some done) := by show _ = _; rw [HL.out, if_pos hz]
    have hel : Els wo vs done := ⟨by rw [hdl]; simpa using hrow.1, fun j hj => by obtain ⟨y, h1, h2⟩ := hels j hj; exact ⟨y, h1, byteEl_own h2⟩⟩
    have hli : Laid wo va k vc done := laid_own hrow hel hdl (fun x hx => by obtain ⟨j, hj, rfl⟩ := List.mem_iff_getElem.1 hx; have := takeL_bytes hby HS.out j; rwa [List.getD_eq_getElem?_getD, List.getElem?_eq_getElem hj] at this) (fun x hx => by have := (takeL_len _ _ _ HS.out).2 x hx; unfold maxLen; omega)
    have hm0 : T.length - a = 0 := by omega
    rw [hm0] at hac ⊢
    clear HD HL hel hels hrow hA hgc
    go_wp2_with fail
    exact bodyPost_ret (v := .tuple #[.slice va k vc, .bool true]) (by simp [results, Tryz.results107, go_sem]) rfl ⟨_, by rw [HS.out]; rfl, by rw [HS.out]; exact readOk_some hli, hbr⟩
   ·have HS : Hid (takeL k T = none) := by show _ = _; rw [HL.out, if_neg hz]
    obtain ⟨m, HM⟩ : ∃ m, Hid (T.length - a = m) := ⟨_, rfl⟩
    have hm0 : ((m : Int) == 0) = false := by have := HM.out; simp; omega
    rw [HM.out] at hac ⊢
    clear HD HL hels hrow hA hgc
    go_wp2_with fail
    exact bodyPost_ret (v := .tuple #[.slice va k vc, .bool false]) (by simp [results, Tryz.results107, go_sem]) rfl ⟨_, by rw [HS.out]; rfl, by rw [HS.out]; exact readOk_none _ _, hbr⟩

end Go.Proofs.YtkjlchfmplcobaeGreatDoor

/- The walk of yearref5.Take. -/
namespace Go.Proofs.YtkjlchfmplcobaeGreatDoor
open Go.RowKit

/-- A part of a row of bytes. -/
theorem own_part {w : World} {base g n c a X C : Nat} {T : List Int} (h : w.ownsRow base 5 1 (.slice (some ⟨g, 0, none⟩) n c) n (T.map (Value.int .u8))) (hl : T.length = n) (h2 : a + X ≤ n) : ByteEl w (.slice (some ⟨g, a, none⟩) X C) ((T.drop a).take X) := by
 have hl2 : ((T.drop a).take X).length = X := by rw [List.length_take, List.length_drop]; omega
 rcases h.2 with ⟨e, -⟩ | ⟨g', cap, cur, e, -, hg, -⟩
 ·cases e
 ·cases e
  refine .inr ⟨g, a, C, cur, _, by rw [hl2], hg, fun j hj => ?_⟩
  rw [hl2] at hj
  rw [h.cellAt (a + j) (by omega), List.getElem?_map, List.getElem?_eq_getElem (by omega), List.getD_eq_getElem?_getD, List.getElem?_take, if_pos hj, List.getElem?_drop, List.getElem?_eq_getElem (by omega)]
  rfl
set_option maxRecDepth 100000 in
set_option maxHeartbeats 8000000 in
theorem refTake_any (T : List Int) (hby : Bytes T) (hT4 : T.length ≤ 4000) (cnt : Nat) (hc8 : cnt ≤ 8) (base : Nat) (ta : Option Addr) (tn tc : Nat) (w : World) (hT : w.ownsRow base 5 1 (.slice ta tn tc) tn (T.map (Value.int .u8))) (htn : T.length = tn) :
  Calls Tryz.prog 93 #[.slice ta tn tc, .int .i64 cnt] w fun e w' => ∃ v, e = .returned (.tuple #[v, .bool (takeL cnt T).isSome]) ∧ readOk w' v (takeL cnt T) ∧ Below w.heap.size w w' := by
 obtain ⟨i0, hi0, hz0, hz1, hz2⟩ := info_parts Tryz.info37b
 obtain ⟨ra, rc, er, hr1, hr2⟩ := own_cap hT
 cases er
 unfold maxLen at hr2
 have HD0 : Hid (takeL cnt T = (takeL (cnt - 0) (T.drop 0)).map (([] : List (List Int)) ++ ·)) := by
  show _ = _
  simp
 go_enter Tryz.func93, Tryz.ntmps93
 go_wp2_with fail
 go_loopw [6, 7, 8] (fun lv av kv wr => ∃ (k a : Nat) (done : List (List Int)) (va : Option Addr) (vc : Nat) (vs : List Value), k ≤ cnt ∧ a ≤ tn ∧ kv = .int .i64 k ∧ av = .int .i64 a ∧ done.length = k ∧ lv = .slice va k vc ∧ wr.ownsRow w.heap.size 37 1 (.slice va k vc) k vs ∧ Els wr vs done ∧ wr.ownsRow base 5 1 (.slice ta tn tc) tn (T.map (Value.int .u8)) ∧ Hid (takeL cnt T = (takeL (cnt - k) (T.drop a)).map (done ++ ·)) ∧ Below w.heap.size w wr) (fun _ _ kv _ => cnt - (intOf kv).toNat)
 case atStart => exact ⟨0, 0, [], none, 0, [], Nat.zero_le _, Nat.zero_le _, rfl, rfl, rfl, rfl, World.ownsRow_nil _ _ _ _, els_nil _, hT, HD0, Below.refl _ _⟩
 case round =>
  obtain ⟨wo, rfl⟩ : ∃ x, x = wr := ⟨wr, rfl⟩
  obtain ⟨k, a, done, va, vc, vs, hk, ha, rfl, rfl, hdl, rfl, hrow, hels, hTo, HD, hbr⟩ := hrel
  have hsr := hbr.size
  clear HD0 hT
  by_cases hlt : k < cnt
  ·have hlt' : (k : Int) < cnt := by omega
   by_cases hz : a < tn
   ·have hzT : a < T.length := by omega
    obtain ⟨g, hg0, hcell, -, -⟩ := own_get (z := 0) hTo a hz
    subst hg0
    have hz' : ¬ (tn : Int) ≤ a := by omega
    have hzj : (a : Int) < tn := by omega
    obtain ⟨X, HX⟩ : ∃ X : Nat, Hid (T.getD a 0 = (X : Int)) := ⟨(T.getD a 0).toNat, by show _ = _; have := hby a; omega⟩
    have hX256 : X < 256 := by have := hby a; have := HX.out; omega
    rw [HX.out] at hcell
    by_cases hx200 : 200 < X
    ·have HN : Hid (takeL cnt T = none) := take_stop HD.out hlt (fun n => takeL_much hzT (by rw [HX.out]; omega))
     have hx200' : (200 : Int) < X := by omega
     clear HD hels hrow hTo
     go_wp2_with fail
     exact bodyPost_ret (v := .tuple #[.slice none 0 0, .bool false]) (by simp [results, Tryz.results93, go_sem]) rfl ⟨_, by rw [HN.out]; rfl, by rw [HN.out]; exact readOk_none _ _, hbr⟩
    ·have hx200' : ¬ (200 : Int) < X := by omega
     by_cases hxm : tn < a + 1 + X
     ·have HN : Hid (takeL cnt T = none) := take_stop HD.out hlt (fun n => takeL_short hzT (by rw [HX.out]; omega))
      have hxm' : (tn : Int) < (a : Int) + 1 + X := by omega
      clear HD hels hrow hTo
      go_wp2_with fail
      exact bodyPost_ret (v := .tuple #[.slice none 0 0, .bool false]) (by simp [results, Tryz.results93, go_sem]) rfl ⟨_, by rw [HN.out]; rfl, by rw [HN.out]; exact readOk_none _ _, hbr⟩
     ·have hxm' : ¬ (tn : Int) < (a : Int) + 1 + X := by omega
      have HD2 : Hid (takeL cnt T = (takeL (cnt - (k + 1)) (T.drop (a + 1 + X))).map ((done ++ [(T.drop (a + 1)).take X]) ++ ·)) := take_round HD.out hlt hzT HX.out (by omega) (by omega)
      have j1 : (a : Int) + 1 + X ≤ tn := by omega
      have j2 : (a : Int) + 1 + X ≤ tc := by omega
      rcases (show tc = a + 1 ∨ ¬ tc = a + 1 by omega) with hc | hc
      ·obtain rfl : X = 0 := by omega
       obtain rfl : tn = a + 1 := by omega
       subst hc
       have hE : ∀ C, ByteEl wo (.slice (some ⟨g, 0, none⟩) 0 C) ((T.drop (a + 1)).take 0) := fun C => .inl ⟨by simp, _, _, rfl, fun h => by cases h⟩
       have hEA := (hE 0).below ((Below.refl _ wo).alloc (Nat.le_refl _) (.cells #[.slice (some ⟨g, 0, none⟩) 0 0] 37)) (Nat.le_refl _)
       have helA := hels.below ((Below.refl _ wo).alloc (Nat.le_refl _) (.cells #[.slice (some ⟨g, 0, none⟩) 0 0] 37)) (Nat.le_refl _)
       have hsn := helA.append (byteEls_one hEA)
       have hrowA := hrow.alloc (.cells #[.slice (some ⟨g, 0, none⟩) 0 0] 37)
       have hTA := hTo.alloc (.cells #[.slice (some ⟨g, 0, none⟩) 0 0] 37)
       have hnew := cell_one_new wo (.slice (some ⟨g, 0, none⟩) 0 0) 37
       have bA : Below w.heap.size w (wo.alloc (.cells #[.slice (some ⟨g, 0, none⟩) 0 0] 37)) := hbr.alloc hsr _
       have hsA := bA.size
       generalize (T.drop (a + 1)).take 0 = D at *
       clear HD hels hrow hTo hE hEA helA HX hx200 hxm
       go_wp2_with (at_builtin; refine wpList_append_own _ rfl (.tmp 47) (.tmp 53) 43 rfl w.heap.size 37 i0 _ 1 24 Tryz.underlying43 hi0 hz0 hz1 hz2 rfl (by decide) _ _ _ rfl hrowA _ 1 1 [.slice (some ⟨g, 0, none⟩) 0 0] rfl rfl hnew (by intro u hu; simp at hu; subst hu; rfl) (by unfold maxLen; omega) (by omega) hsA ?_; intro v7 w7 ho7 hg7 _; obtain ⟨sa, sc, rfl⟩ := own_form' ho7)
       have b7 : Below w.heap.size w w7 := bA.grown hg7 hsA (fun _ h => own_block hrowA h)
       have hels7 := hsn.kept hrowA (by decide) hg7
       have hT7 := hTA.kept hg7 (own_ne hTA hrowA (by decide)).or
       go_roundw
       case rel => exact ⟨k + 1, a + 1 + 0, done ++ [D], sa, sc, _, by omega, by omega, by go_num, by go_num, by rw [List.length_append, hdl]; rfl, rfl, ho7, hels7, hT7, HD2, b7⟩
       case measure => simp [intOf]; omega
      ·have hE := fun C => own_part (C := C) (a := a + 1) (X := X) hTo htn (by omega)
       have hEA := (hE (tc - (a + 1))).below ((Below.refl _ wo).alloc (Nat.le_refl _) (.cells #[.slice (some ⟨g, a + 1, none⟩) X (tc - (a + 1))] 37)) (Nat.le_refl _)
       have helA := hels.below ((Below.refl _ wo).alloc (Nat.le_refl _) (.cells #[.slice (some ⟨g, a + 1, none⟩) X (tc - (a + 1))] 37)) (Nat.le_refl _)
       have hsn := helA.append (byteEls_one hEA)
       have hrowA := hrow.alloc (.cells #[.slice (some ⟨g, a + 1, none⟩) X (tc - (a + 1))] 37)
       have hTA := hTo.alloc (.cells #[.slice (some ⟨g, a + 1, none⟩) X (tc - (a + 1))] 37)
       have hnew := cell_one_new wo (.slice (some ⟨g, a + 1, none⟩) X (tc - (a + 1))) 37
       have bA : Below w.heap.size w (wo.alloc (.cells #[.slice (some ⟨g, a + 1, none⟩) X (tc - (a + 1))] 37)) := hbr.alloc hsr _
       have hsA := bA.size
       generalize (T.drop (a + 1)).take X = D at *
       clear HD hels hrow hTo hE hEA helA HX hx200 hxm
       go_wp2_with (at_builtin; refine wpList_append_own _ rfl (.tmp 47) (.tmp 53) 43 rfl w.heap.size 37 i0 _ 1 24 Tryz.underlying43 hi0 hz0 hz1 hz2 rfl (by decide) _ _ _ rfl hrowA _ 1 1 [.slice (some ⟨g, a + 1, none⟩) X (tc - (a + 1))] rfl rfl hnew (by intro u hu; simp at hu; subst hu; rfl) (by unfold maxLen; omega) (by omega) hsA ?_; intro v7 w7 ho7 hg7 _; obtain ⟨sa, sc, rfl⟩ := own_form' ho7)
       have b7 : Below w.heap.size w w7 := bA.grown hg7 hsA (fun _ h => own_block hrowA h)
       have hels7 := hsn.kept hrowA (by decide) hg7
       have hT7 := hTA.kept hg7 (own_ne hTA hrowA (by decide)).or
       go_roundw
       case rel => exact ⟨k + 1, a + 1 + X, done ++ [D], sa, sc, _, by omega, by omega, by go_num, by go_num, by rw [List.length_append, hdl]; rfl, rfl, ho7, hels7, hT7, HD2, b7⟩
       case measure => simp [intOf]; omega
   ·have HN : Hid (takeL cnt T = none) := take_stop HD.out hlt (fun n => takeL_none (by omega))
    have hz' : (tn : Int) ≤ a := by omega
    clear HD hels hrow hTo
    go_wp2_with fail
    exact bodyPost_ret (v := .tuple #[.slice none 0 0, .bool false]) (by simp [results, Tryz.results93, go_sem]) rfl ⟨_, by rw [HN.out]; rfl, by rw [HN.out]; exact readOk_none _ _, hbr⟩
  ·obtain rfl : k = cnt := by omega
   have hnl : ¬ (k : Int) < k := by omega
   have HL : Hid (takeL k T = if a = T.length then some done else none) := by
    show _ = _
    rw [HD.out, Nat.sub_self, takeL_last (by omega)]
    split <;> simp
   by_cases hz : a = tn
   ·have HS : Hid (takeL k T = some done) := by show _ = _; rw [HL.out, if_pos (by omega)]
    have hli : Laid wo va k vc done := laid_own hrow hels hdl (fun x hx => by obtain ⟨j, hj, rfl⟩ := List.mem_iff_getElem.1 hx; have := takeL_bytes hby HS.out j; rwa [List.getD_eq_getElem?_getD, List.getElem?_eq_getElem hj] at this) (fun x hx => by have := (takeL_len _ _ _ HS.out).2 x hx; unfold maxLen; omega)
    have hzb : ((a : Int) == (tn : Int)) = true := by simp [hz]
    clear HD HL hels hrow hTo
    go_wp2_with fail
    exact bodyPost_ret (v := .tuple #[.slice va k vc, .bool true]) (by simp [results, Tryz.results93, go_sem]) rfl ⟨_, by rw [HS.out]; rfl, by rw [HS.out]; exact readOk_some hli, hbr⟩
   ·have HS : Hid (takeL k T = none) := by show _ = _; rw [HL.out, if_neg (by omega)]
    have hzb : ((a : Int) == (tn : Int)) = false := by simp; omega
    clear HD HL hels hrow hTo
    go_wp2_with fail
    exact bodyPost_ret (v := .tuple #[.slice va k vc, .bool false]) (by simp [results, Tryz.results93, go_sem]) rfl ⟨_, by rw [HS.out]; rfl, by rw [HS.out]; exact readOk_none _ _, hbr⟩

end Go.Proofs.YtkjlchfmplcobaeGreatDoor

/- Variables that are set, and lists that lie elsewhere. -/
namespace Go.Proofs.YtkjlchfmplcobaeGreatDoor
open Go.RowKit

/-- Setting a variable that is no row of bytes, nor of slices of them. -/
theorem Laid.set {w : World} {a : Option Addr} {n c k o : Nat} {L : List (List Int)} {cs : Array Value} {t : TypeId} {mk : Nat × Nat} (h : Laid w a n c L) (hk : w.heap[k]? = some (.cells cs t mk)) (h1 : 5 ≠ t) (h2 : n ≠ 0 → ∀ g off, a = some ⟨g, off, none⟩ → g ≠ k) (u : Value) : Laid (w.setCell ⟨k, o, none⟩ u) a n c L := by
 obtain ⟨hl, vs, he, hc⟩ := h
 have hB : ∀ y d, ByteEl w y d → ByteEl (w.setCell ⟨k, o, none⟩ u) y d := fun y d hy => hy.same (fun g cur mk' hg => by
  rw [heap_setCell_other w ⟨k, o, none⟩ g u (fun e => ?_)]
  have e : g = k := e
  subst e
  rw [hg] at hk
  cases hk
  exact h1 rfl)
 have he' : Els (w.setCell ⟨k, o, none⟩ u) vs L := ⟨he.1, fun j hj => by obtain ⟨y, q1, q2⟩ := he.2 j hj; exact ⟨y, q1, hB _ _ q2⟩⟩
 have hcell : n ≠ 0 → ∀ b off, a = some ⟨b, off, none⟩ → ∀ j, (w.setCell ⟨k, o, none⟩ u).cell? ⟨b, off + j, none⟩ = w.cell? ⟨b, off + j, none⟩ := fun hn b off ha j => World.cell?_setCell_far _ _ _ _ (show k ≠ b from fun e => h2 hn b off ha e.symm)
 refine ⟨⟨hl.len, ?_, hl.room, hl.cap, hl.nil, hl.bytes, hl.short⟩, vs, he', fun ad ha j v hv => ?_⟩
 ·rcases hl.at' with h | ⟨b, off, cp, e, hb, hp⟩
  ·exact .inl h
  ·cases e
   refine .inr ⟨b, off, c, rfl, by simpa using hb, fun j hj => ?_⟩
   obtain ⟨y, q1, q2⟩ := he'.2 j hj
   obtain ⟨ya, yc, rfl⟩ := q2.bytes.form
   refine ⟨ya, _, yc, ?_, q2.bytes⟩
   rw [hcell (by have := hl.len; omega) b off rfl]
   have := hc _ rfl j _ q1
   have e2 : (⟨b, off, none⟩ : Addr).add j = ⟨b, off + j, none⟩ := Addr.add_mid _ _ _
   rwa [e2] at this
 ·have h3 := hc ad ha j v hv
  rcases hl.at' with ⟨rfl, -⟩ | ⟨b, off, cp, e, hb, hp⟩
  ·have := (List.getElem?_eq_some_iff.1 hv).1
   rw [he.1] at this
   simp at this
  ·cases e
   cases ha
   have e2 : (⟨b, off, none⟩ : Addr).add j = ⟨b, off + j, none⟩ := Addr.add_mid _ _ _
   rw [e2] at h3 ⊢
   rw [hcell (by have h4 := (List.getElem?_eq_some_iff.1 hv).1; rw [he.1, hl.len] at h4; omega) b off rfl]
   exact h3
end Go.Proofs.YtkjlchfmplcobaeGreatDoor

/- The walk of the reference's Step where nothing is spoilt: package yearref5. -/
namespace Go.Proofs.YtkjlchfmplcobaeGreatDoor
open Go.RowKit

set_option maxRecDepth 100000 in
set_option maxHeartbeats 4000000 in
theorem refSpoilNone_any (f : Flt) (d : Dd) (k : Nat) (τ : Nat → Tag) (N gp : Nat) (da : Option Addr) (dc : Nat) (w : World) (hF : RfF τ N w gp f) (hN : N ≤ w.heap.size) (hk : k < f.shards.length) (hst : (f.shards.getD k shd0).state = 3) (hq : d.segment < 0 ∨ ((f.shards.getD k shd0).man.segs.length : Int) ≤ d.segment) :
  Calls Tryz.prog 18 #[.pointer (some ⟨gp, 0, none⟩), .agg #[.int .i64 5, .int .i64 (k : Int), .int .i64 d.time, .slice da d.entry.length dc, .int .i64 d.segment, .int .i64 d.at', .int .u8 d.by']] w fun e w' => ∃ av, e = .returned av ∧ RfWent τ N gp w w' av (f, no 6) := by
 have b0 : Below w.heap.size w ((w.alloc (.cells #[.int .i64 5, .int .i64 (k : Int), .int .i64 d.time, .slice da d.entry.length dc, .int .i64 d.segment, .int .i64 d.at', .int .u8 d.by'] 56)).alloc (.cells #[.int .i64 0, .int .i64 0, .int .i64 0, .int .i64 0, .slice none 0 0] 41)) := ((Below.refl _ _).alloc (Nat.le_refl _) _).alloc (by simp) _
 have x0 := box_one w #[.int .i64 5, .int .i64 (k : Int), .int .i64 d.time, .slice da d.entry.length dc, .int .i64 d.segment, .int .i64 d.at', .int .u8 d.by'] 56 (.cells #[.int .i64 0, .int .i64 0, .int .i64 0, .int .i64 0, .slice none 0 0] 41)
 have z0 := box_last w (.cells #[.int .i64 5, .int .i64 (k : Int), .int .i64 d.time, .slice da d.entry.length dc, .int .i64 d.segment, .int .i64 d.at', .int .u8 d.by'] 56) #[.int .i64 0, .int .i64 0, .int .i64 0, .int .i64 0, .slice none 0 0] 41
 have HNO : ∀ (w1 : World) (x : Ans) (u0 u1 u2 u3 u4 : Value), Hid (Below w.heap.size w w1 → x.root = [] → RfWent τ N gp w (((((w1.setCell ⟨w.heap.size + 1, 0, none⟩ u0).setCell ⟨w.heap.size + 1, 1, none⟩ u1).setCell ⟨w.heap.size + 1, 2, none⟩ u2).setCell ⟨w.heap.size + 1, 3, none⟩ u3).setCell ⟨w.heap.size + 1, 4, none⟩ u4) (.agg #[.int .i64 x.err, .int .i64 x.shard, .int .i64 x.place, .int .i64 x.size, .slice none 0 0]) (f, x)) := fun w1 x u0 u1 u2 u3 u4 h1 h2 => rfwent_no hF hN h1 (by omega) h2 _ _ _ _ _
 obtain ⟨sa, sc, ba, bc, V, hB, hS⟩ := hF.open
 have U0 := upd_call (τ := τ) b0 tNo
 have hB0 := hB.upd U0 no_row
 have hS0 := hS.upd U0 no_row
 have K0 := keep_call (τ := τ) b0 hN tNo
 have hR0 : ext τ w.heap.size tNo (w.heap.size + 1) = tNo := ext_new (by omega)
 have hsl : f.shards.length ≤ 9223372036854775807 := by obtain ⟨vs, h1, -⟩ := hS.row; have := own_small h1; unfold maxLen at this; omega
 obtain ⟨g0, g1, -, -⟩ := box_two hB0.box
 obtain ⟨u0, u1, -, -, -, -, -⟩ := box_seven x0
 obtain ⟨sb, rfl, hNs, hsb, htb, hfz, hcs⟩ := (hS0.out k).cells rfl hk
 have q1 : ¬ (k : Int) < 0 := by omega
 have q2 : ¬ (f.shards.length : Int) ≤ (k : Int) := by omega
 have q1' : decide ((k : Int) < 0) = false := decide_eq_false q1
 have q2' : decide ((f.shards.length : Int) ≤ (k : Int)) = false := decide_eq_false q2
 have q3 : (0 : Int) ≤ k := by omega
 have q4 : (k : Int) < f.shards.length := by omega
 have k2 : _ = some (Value.int .i64 (f.shards.getD k shd0).state) := hcs 2 (by omega)
 rw [hst] at k2
 obtain ⟨ga, gc, hVg⟩ := (hS0.seg k hk).form
 have k6 : _ = some (V k).2.2 := hcs 6 (by omega)
 rw [hVg] at k6
 have hgl : (f.shards.getD k shd0).man.segs.length ≤ 9223372036854775807 := by obtain ⟨-, vs, h1, -⟩ := hS0.seg k hk; have := own_small h1; unfold maxLen at this; omega
 clear hF hB hS U0 hcs hst hS0 K0 hR0 hfz htb hVg
 generalize (f.shards.getD k shd0).man.segs.length = NG at *
 generalize d.segment = SG at *
 rcases hq with hq | hq
 ·have hq' : decide (SG < 0) = true := decide_eq_true hq
  go_enter Tryz.func18, Tryz.ntmps18
  go_wp2_with fail
  generalize (w.alloc (.cells #[.int .i64 5, .int .i64 (k : Int), .int .i64 d.time, .slice da d.entry.length dc, .int .i64 SG, .int .i64 d.at', .int .u8 d.by'] 56)).alloc (.cells #[.int .i64 0, .int .i64 0, .int .i64 0, .int .i64 0, .slice none 0 0] 41) = w0 at *
  go_quiet (fail)
  have c1 := below_drewN' (Below.refl w0.heap.size w0) nq
  obtain ⟨v0, v1, -, -, -, -, -⟩ := box_seven (box_kept x0 c1)
  obtain ⟨p0, p1, -, -⟩ := box_two (box_kept hB0.box c1)
  generalize w0.drewN nq = wQ at *
  clear u0 u1 g0 g1
  go_wp2_with fail
  go_quiet (fail)
  have c2 := c1.trans ((below_drewN' (Below.refl wQ.heap.size wQ) nq).mono c1.size)
  generalize wQ.drewN nq = wR at *
  have c3 : Below w0.heap.size w0 (wR.alloc (.cells #[.int .i64 0, .int .i64 0, .int .i64 1, .int .i64 2, .int .i64 3, .int .i64 3] 3)) := c2.alloc c2.size _
  obtain ⟨v0, v1, -, -, v4, v5, v6⟩ := box_seven (box_kept x0 c3)
  have j2 := (c3.cell (p := ⟨sb, k * 7 + 2, none⟩) hsb).trans k2
  have six := cell_of_row _ _ 5 _ _ _ (box_new wR #[.int .i64 0, .int .i64 0, .int .i64 1, .int .i64 2, .int .i64 3, .int .i64 3] 3)
  have j6 := (c3.cell (p := ⟨sb, k * 7 + 6, none⟩) hsb).trans k6
  clear k2 k6 p0 p1
  go_wp2_with fail
  generalize wR.alloc (.cells #[.int .i64 0, .int .i64 0, .int .i64 1, .int .i64 2, .int .i64 3, .int .i64 3] 3) = wS at *
  go_quiet (fail)
  have c4 := c3.trans ((below_drewN' (Below.refl wS.heap.size wS) nq).mono c3.size)
  generalize wS.drewN nq = wT at *
  go_wp2_with fail
  refine (refNo_any 6 _).mono ?_
  rintro e w2 ⟨rfl, hb2⟩
  have c5 := c4.trans (hb2.mono c4.size)
  have b2 := b0.trans (c5.mono b0.size)
  have z1 := box_kept z0 c5
  obtain ⟨t0, t1, t2, t3, t4⟩ := box_five z1
  obtain ⟨r0, r1, r2, r3, r4⟩ := five_free z1
  obtain ⟨s0, s1, s2, s3, s4⟩ := box_five (five_set z1 (.int .i64 6) (.int .i64 0) (.int .i64 0) (.int .i64 0) (.slice none 0 0))
  have HG := HNO w2 (no 6) (.int .i64 6) (.int .i64 0) (.int .i64 0) (.int .i64 0) (.slice none 0 0)
  clear HNO z0 x0 v0 v1 v4 v5 v6 j2 j6 six
  go_wp2_with fail
  exact bodyPost_ret (v := .agg #[.int .i64 6, .int .i64 0, .int .i64 0, .int .i64 0, .slice none 0 0]) (by simp [results, Tryz.results18, go_sem, s0, s1, s2, s3, s4]) rfl ⟨_, rfl, HG.out b2 rfl⟩
 ·have hq0 : ¬ SG < 0 := by omega
  have hq0' : decide (SG < 0) = false := decide_eq_false hq0
  have hq' : decide ((NG : Int) ≤ SG) = true := decide_eq_true hq
  go_enter Tryz.func18, Tryz.ntmps18
  go_wp2_with fail
  generalize (w.alloc (.cells #[.int .i64 5, .int .i64 (k : Int), .int .i64 d.time, .slice da d.entry.length dc, .int .i64 SG, .int .i64 d.at', .int .u8 d.by'] 56)).alloc (.cells #[.int .i64 0, .int .i64 0, .int .i64 0, .int .i64 0, .slice none 0 0] 41) = w0 at *
  go_quiet (fail)
  have c1 := below_drewN' (Below.refl w0.heap.size w0) nq
  obtain ⟨v0, v1, -, -, -, -, -⟩ := box_seven (box_kept x0 c1)
  obtain ⟨p0, p1, -, -⟩ := box_two (box_kept hB0.box c1)
  generalize w0.drewN nq = wQ at *
  clear u0 u1 g0 g1
  go_wp2_with fail
  go_quiet (fail)
  have c2 := c1.trans ((below_drewN' (Below.refl wQ.heap.size wQ) nq).mono c1.size)
  generalize wQ.drewN nq = wR at *
  have c3 : Below w0.heap.size w0 (wR.alloc (.cells #[.int .i64 0, .int .i64 0, .int .i64 1, .int .i64 2, .int .i64 3, .int .i64 3] 3)) := c2.alloc c2.size _
  obtain ⟨v0, v1, -, -, v4, v5, v6⟩ := box_seven (box_kept x0 c3)
  have j2 := (c3.cell (p := ⟨sb, k * 7 + 2, none⟩) hsb).trans k2
  have six := cell_of_row _ _ 5 _ _ _ (box_new wR #[.int .i64 0, .int .i64 0, .int .i64 1, .int .i64 2, .int .i64 3, .int .i64 3] 3)
  have j6 := (c3.cell (p := ⟨sb, k * 7 + 6, none⟩) hsb).trans k6
  clear k2 k6 p0 p1
  go_wp2_with fail
  generalize wR.alloc (.cells #[.int .i64 0, .int .i64 0, .int .i64 1, .int .i64 2, .int .i64 3, .int .i64 3] 3) = wS at *
  go_quiet (fail)
  have c4 := c3.trans ((below_drewN' (Below.refl wS.heap.size wS) nq).mono c3.size)
  generalize wS.drewN nq = wT at *
  go_wp2_with fail
  refine (refNo_any 6 _).mono ?_
  rintro e w2 ⟨rfl, hb2⟩
  have c5 := c4.trans (hb2.mono c4.size)
  have b2 := b0.trans (c5.mono b0.size)
  have z1 := box_kept z0 c5
  obtain ⟨t0, t1, t2, t3, t4⟩ := box_five z1
  obtain ⟨r0, r1, r2, r3, r4⟩ := five_free z1
  obtain ⟨s0, s1, s2, s3, s4⟩ := box_five (five_set z1 (.int .i64 6) (.int .i64 0) (.int .i64 0) (.int .i64 0) (.slice none 0 0))
  have HG := HNO w2 (no 6) (.int .i64 6) (.int .i64 0) (.int .i64 0) (.int .i64 0) (.slice none 0 0)
  clear HNO z0 x0 v0 v1 v4 v5 v6 j2 j6 six
  go_wp2_with fail
  exact bodyPost_ret (v := .agg #[.int .i64 6, .int .i64 0, .int .i64 0, .int .i64 0, .slice none 0 0]) (by simp [results, Tryz.results18, go_sem, s0, s1, s2, s3, s4]) rfl ⟨_, rfl, HG.out b2 rfl⟩

end Go.Proofs.YtkjlchfmplcobaeGreatDoor

/- The walk of the reference's Step where no byte is there to be spoilt: package yearref5. -/
namespace Go.Proofs.YtkjlchfmplcobaeGreatDoor
open Go.RowKit

theorem SegM.three {τ : Nat → Tag} {N : Nat} {w : World} {k n c j : Nat} {ga : Option Addr} {l : List Seg} (h : SegM τ N w k (.slice ga n c) l) (hn : l.length = n) (hj : j < n) :
  ∃ b pa pc, ga = some ⟨b, 0, none⟩ ∧ b < w.heap.size ∧ w.cell? ⟨b, j * 3, none⟩ = some (.int .i64 (l.getD j seg0).first) ∧ w.cell? ⟨b, j * 3 + 1, none⟩ = some (.int .i64 (l.getD j seg0).count) ∧ w.cell? ⟨b, j * 3 + 2, none⟩ = some (.slice pa (l.getD j seg0).packed.length pc) ∧ PkM τ N w k j (.slice pa (l.getD j seg0).packed.length pc) (l.getD j seg0).packed := by
 obtain ⟨-, vs, h1, h2⟩ := h
 rw [hn] at h1 h2
 rcases h1.2 with ⟨-, h0⟩ | ⟨g, cap, cur, e, hb, hg, -⟩
 ·omega
 ·simp only [Value.slice.injEq, true_and] at e
  obtain ⟨rfl, rfl⟩ := e
  obtain ⟨y, q0, q1, g2, g3⟩ := h2 j hj
  obtain ⟨pa, pc, rfl⟩ := own_form' g3.2.1
  exact ⟨g, pa, pc, rfl, lt_heap hg, (h1.cellAt (j * 3) (by omega)).trans q0, (h1.cellAt (j * 3 + 1) (by omega)).trans q1, (h1.cellAt (j * 3 + 2) (by omega)).trans g2, g3⟩
set_option maxRecDepth 100000 in
set_option maxHeartbeats 4000000 in
theorem refSpoilRange_any (f : Flt) (d : Dd) (k : Nat) (τ : Nat → Tag) (N gp : Nat) (da : Option Addr) (dc : Nat) (w : World) (hF : RfF τ N w gp f) (hN : N ≤ w.heap.size) (hk : k < f.shards.length) (hst : (f.shards.getD k shd0).state = 3) (m : Nat) (hseg : d.segment = m) (hm : m < (f.shards.getD k shd0).man.segs.length) (hq : d.at' < 0 ∨ (((f.shards.getD k shd0).man.segs.getD m seg0).packed.length : Int) ≤ d.at') :
  Calls Tryz.prog 18 #[.pointer (some ⟨gp, 0, none⟩), .agg #[.int .i64 5, .int .i64 (k : Int), .int .i64 d.time, .slice da d.entry.length dc, .int .i64 d.segment, .int .i64 d.at', .int .u8 d.by']] w fun e w' => ∃ av, e = .returned av ∧ RfWent τ N gp w w' av (f, no 3) := by
 have b0 : Below w.heap.size w ((w.alloc (.cells #[.int .i64 5, .int .i64 (k : Int), .int .i64 d.time, .slice da d.entry.length dc, .int .i64 d.segment, .int .i64 d.at', .int .u8 d.by'] 56)).alloc (.cells #[.int .i64 0, .int .i64 0, .int .i64 0, .int .i64 0, .slice none 0 0] 41)) := ((Below.refl _ _).alloc (Nat.le_refl _) _).alloc (by simp) _
 have x0 := box_one w #[.int .i64 5, .int .i64 (k : Int), .int .i64 d.time, .slice da d.entry.length dc, .int .i64 d.segment, .int .i64 d.at', .int .u8 d.by'] 56 (.cells #[.int .i64 0, .int .i64 0, .int .i64 0, .int .i64 0, .slice none 0 0] 41)
 have z0 := box_last w (.cells #[.int .i64 5, .int .i64 (k : Int), .int .i64 d.time, .slice da d.entry.length dc, .int .i64 d.segment, .int .i64 d.at', .int .u8 d.by'] 56) #[.int .i64 0, .int .i64 0, .int .i64 0, .int .i64 0, .slice none 0 0] 41
 have HNO : ∀ (w1 : World) (x : Ans) (u0 u1 u2 u3 u4 : Value), Hid (Below w.heap.size w w1 → x.root = [] → RfWent τ N gp w (((((w1.setCell ⟨w.heap.size + 1, 0, none⟩ u0).setCell ⟨w.heap.size + 1, 1, none⟩ u1).setCell ⟨w.heap.size + 1, 2, none⟩ u2).setCell ⟨w.heap.size + 1, 3, none⟩ u3).setCell ⟨w.heap.size + 1, 4, none⟩ u4) (.agg #[.int .i64 x.err, .int .i64 x.shard, .int .i64 x.place, .int .i64 x.size, .slice none 0 0]) (f, x)) := fun w1 x u0 u1 u2 u3 u4 h1 h2 => rfwent_no hF hN h1 (by omega) h2 _ _ _ _ _
 obtain ⟨sa, sc, ba, bc, V, hB, hS⟩ := hF.open
 have U0 := upd_call (τ := τ) b0 tNo
 have hB0 := hB.upd U0 no_row
 have hS0 := hS.upd U0 no_row
 have K0 := keep_call (τ := τ) b0 hN tNo
 have hR0 : ext τ w.heap.size tNo (w.heap.size + 1) = tNo := ext_new (by omega)
 have hsl : f.shards.length ≤ 9223372036854775807 := by obtain ⟨vs, h1, -⟩ := hS.row; have := own_small h1; unfold maxLen at this; omega
 obtain ⟨g0, g1, -, -⟩ := box_two hB0.box
 obtain ⟨u0, u1, -, -, -, -, -⟩ := box_seven x0
 obtain ⟨sb, rfl, hNs, hsb, htb, hfz, hcs⟩ := (hS0.out k).cells rfl hk
 have q1 : ¬ (k : Int) < 0 := by omega
 have q2 : ¬ (f.shards.length : Int) ≤ (k : Int) := by omega
 have q1' : decide ((k : Int) < 0) = false := decide_eq_false q1
 have q2' : decide ((f.shards.length : Int) ≤ (k : Int)) = false := decide_eq_false q2
 have q3 : (0 : Int) ≤ k := by omega
 have q4 : (k : Int) < f.shards.length := by omega
 have k2 : _ = some (Value.int .i64 (f.shards.getD k shd0).state) := hcs 2 (by omega)
 rw [hst] at k2
 obtain ⟨ga, gc, hVg⟩ := (hS0.seg k hk).form
 have k6 : _ = some (V k).2.2 := hcs 6 (by omega)
 have hSg := hS0.seg k hk
 rw [hVg] at k6 hSg
 have hgl : (f.shards.getD k shd0).man.segs.length ≤ 9223372036854775807 := by obtain ⟨vs, h1, -⟩ := hSg.2; have := own_small h1; unfold maxLen at this; omega
 obtain ⟨gb, pa, pc, rfl, hgb, m0, m1, m2, hpk⟩ := hSg.three rfl hm
 have hpl : ((f.shards.getD k shd0).man.segs.getD m seg0).packed.length ≤ 9223372036854775807 := by have := own_small hpk.2.1; unfold maxLen at this; omega
 clear hF hB hS U0 hcs hst hS0 K0 hR0 hfz htb hVg hSg hpk
 generalize ((f.shards.getD k shd0).man.segs.getD m seg0).packed.length = NP at *
 generalize ((f.shards.getD k shd0).man.segs.getD m seg0).first = S0 at *
 generalize ((f.shards.getD k shd0).man.segs.getD m seg0).count = S1 at *
 generalize (f.shards.getD k shd0).man.segs.length = NG at *
 generalize d.segment = SG at *
 subst hseg
 generalize d.at' = AT at *
 have o1 : ¬ (m : Int) < 0 := by omega
 have o2 : ¬ (NG : Int) ≤ (m : Int) := by omega
 have o1' : decide ((m : Int) < 0) = false := decide_eq_false o1
 have o2' : decide ((NG : Int) ≤ (m : Int)) = false := decide_eq_false o2
 have o3 : (0 : Int) ≤ m := by omega
 have o4 : (m : Int) < NG := by omega
 by_cases ha : AT < 0
 ·have ha' : decide (AT < 0) = true := decide_eq_true ha
  clear hq
  go_enter Tryz.func18, Tryz.ntmps18
  go_wp2_with fail
  generalize (w.alloc (.cells #[.int .i64 5, .int .i64 (k : Int), .int .i64 d.time, .slice da d.entry.length dc, .int .i64 (m : Int), .int .i64 AT, .int .u8 d.by'] 56)).alloc (.cells #[.int .i64 0, .int .i64 0, .int .i64 0, .int .i64 0, .slice none 0 0] 41) = w0 at *
  go_quiet (fail)
  have c1 := below_drewN' (Below.refl w0.heap.size w0) nq
  obtain ⟨v0, v1, -, -, -, -, -⟩ := box_seven (box_kept x0 c1)
  obtain ⟨p0, p1, -, -⟩ := box_two (box_kept hB0.box c1)
  generalize w0.drewN nq = wQ at *
  clear u0 u1 g0 g1
  go_wp2_with fail
  go_quiet (fail)
  have c2 := c1.trans ((below_drewN' (Below.refl wQ.heap.size wQ) nq).mono c1.size)
  generalize wQ.drewN nq = wR at *
  have c3 : Below w0.heap.size w0 (wR.alloc (.cells #[.int .i64 0, .int .i64 0, .int .i64 1, .int .i64 2, .int .i64 3, .int .i64 3] 3)) := c2.alloc c2.size _
  obtain ⟨v0, v1, -, -, v4, v5, v6⟩ := box_seven (box_kept x0 c3)
  have j2 := (c3.cell (p := ⟨sb, k * 7 + 2, none⟩) hsb).trans k2
  have six := cell_of_row _ _ 5 _ _ _ (box_new wR #[.int .i64 0, .int .i64 0, .int .i64 1, .int .i64 2, .int .i64 3, .int .i64 3] 3)
  have j6 := (c3.cell (p := ⟨sb, k * 7 + 6, none⟩) hsb).trans k6
  clear k2 p0 p1
  go_wp2_with fail
  generalize wR.alloc (.cells #[.int .i64 0, .int .i64 0, .int .i64 1, .int .i64 2, .int .i64 3, .int .i64 3] 3) = wS at *
  go_quiet (fail)
  have c4 := c3.trans ((below_drewN' (Below.refl wS.heap.size wS) nq).mono c3.size)
  obtain ⟨v0, v1, -, -, v4, v5, v6⟩ := box_seven (box_kept x0 c4)
  have i6 := (c4.cell (p := ⟨sb, k * 7 + 6, none⟩) hsb).trans k6
  have n0 := (c4.cell (p := ⟨gb, m * 3, none⟩) hgb).trans m0
  have n1 := (c4.cell (p := ⟨gb, m * 3 + 1, none⟩) hgb).trans m1
  have n2 := (c4.cell (p := ⟨gb, m * 3 + 2, none⟩) hgb).trans m2
  generalize wS.drewN nq = wT at *
  have cz : Below w0.heap.size w0 (wT.alloc (.cells #[.int .i64 0, .int .i64 0, .slice none 0 0] 104)) := c4.alloc c4.size _
  obtain ⟨-, -, -, -, l4, -, -⟩ := box_seven (box_kept x0 cz)
  have l6 := (cz.cell (p := ⟨sb, k * 7 + 6, none⟩) hsb).trans k6
  have l0 := (cz.cell (p := ⟨gb, m * 3, none⟩) hgb).trans m0
  have l1 := (cz.cell (p := ⟨gb, m * 3 + 1, none⟩) hgb).trans m1
  have l2 := (cz.cell (p := ⟨gb, m * 3 + 2, none⟩) hgb).trans m2
  clear cz
  clear j2 j6 six k6 m0 m1 m2
  go_wp2_with fail
  go_region
  all_goals
   have c5 : Below w0.heap.size w0 (wT.alloc (.cells #[.int .i64 S0, .int .i64 S1, .slice pa NP pc] 104)) := c4.alloc c4.size _
   obtain ⟨v0, v1, -, -, v4, v5, v6⟩ := box_seven (box_kept x0 c5)
   obtain ⟨y0, y1, y2, -, -, -⟩ := box_three (box_new wT #[.int .i64 S0, .int .i64 S1, .slice pa NP pc] 104)
   generalize wT.alloc (.cells #[.int .i64 S0, .int .i64 S1, .slice pa NP pc] 104) = wU at *
   clear l0 l1 l2 l4 l6 n0 n1 n2 i6
   go_wp2_with fail
   refine (refNo_any 3 _).mono ?_
   rintro e w2 ⟨rfl, hb2⟩
   have c6 := c5.drew.trans (hb2.mono c5.size)
   have b2 := b0.trans (c6.mono b0.size)
   have z1 := box_kept z0 c6
   obtain ⟨t0, t1, t2, t3, t4⟩ := box_five z1
   obtain ⟨r0, r1, r2, r3, r4⟩ := five_free z1
   obtain ⟨s0, s1, s2, s3, s4⟩ := box_five (five_set z1 (.int .i64 3) (.int .i64 0) (.int .i64 0) (.int .i64 0) (.slice none 0 0))
   have HG := HNO w2 (no 3) (.int .i64 3) (.int .i64 0) (.int .i64 0) (.int .i64 0) (.slice none 0 0)
   clear HNO z0 x0 v0 v1 v4 v5 v6 y0 y1 y2
   go_wp2_with fail
   exact bodyPost_ret (v := .agg #[.int .i64 3, .int .i64 0, .int .i64 0, .int .i64 0, .slice none 0 0]) (by simp [results, Tryz.results18, go_sem, s0, s1, s2, s3, s4]) rfl ⟨_, rfl, HG.out b2 rfl⟩
 ·have ha' : decide (AT < 0) = false := decide_eq_false ha
  have hb : (NP : Int) ≤ AT := by omega
  clear hq
  go_enter Tryz.func18, Tryz.ntmps18
  go_wp2_with fail
  generalize (w.alloc (.cells #[.int .i64 5, .int .i64 (k : Int), .int .i64 d.time, .slice da d.entry.length dc, .int .i64 (m : Int), .int .i64 AT, .int .u8 d.by'] 56)).alloc (.cells #[.int .i64 0, .int .i64 0, .int .i64 0, .int .i64 0, .slice none 0 0] 41) = w0 at *
  go_quiet (fail)
  have c1 := below_drewN' (Below.refl w0.heap.size w0) nq
  obtain ⟨v0, v1, -, -, -, -, -⟩ := box_seven (box_kept x0 c1)
  obtain ⟨p0, p1, -, -⟩ := box_two (box_kept hB0.box c1)
  generalize w0.drewN nq = wQ at *
  clear u0 u1 g0 g1
  go_wp2_with fail
  go_quiet (fail)
  have c2 := c1.trans ((below_drewN' (Below.refl wQ.heap.size wQ) nq).mono c1.size)
  generalize wQ.drewN nq = wR at *
  have c3 : Below w0.heap.size w0 (wR.alloc (.cells #[.int .i64 0, .int .i64 0, .int .i64 1, .int .i64 2, .int .i64 3, .int .i64 3] 3)) := c2.alloc c2.size _
  obtain ⟨v0, v1, -, -, v4, v5, v6⟩ := box_seven (box_kept x0 c3)
  have j2 := (c3.cell (p := ⟨sb, k * 7 + 2, none⟩) hsb).trans k2
  have six := cell_of_row _ _ 5 _ _ _ (box_new wR #[.int .i64 0, .int .i64 0, .int .i64 1, .int .i64 2, .int .i64 3, .int .i64 3] 3)
  have j6 := (c3.cell (p := ⟨sb, k * 7 + 6, none⟩) hsb).trans k6
  clear k2 p0 p1
  go_wp2_with fail
  generalize wR.alloc (.cells #[.int .i64 0, .int .i64 0, .int .i64 1, .int .i64 2, .int .i64 3, .int .i64 3] 3) = wS at *
  go_quiet (fail)
  have c4 := c3.trans ((below_drewN' (Below.refl wS.heap.size wS) nq).mono c3.size)
  obtain ⟨v0, v1, -, -, v4, v5, v6⟩ := box_seven (box_kept x0 c4)
  have i6 := (c4.cell (p := ⟨sb, k * 7 + 6, none⟩) hsb).trans k6
  have n0 := (c4.cell (p := ⟨gb, m * 3, none⟩) hgb).trans m0
  have n1 := (c4.cell (p := ⟨gb, m * 3 + 1, none⟩) hgb).trans m1
  have n2 := (c4.cell (p := ⟨gb, m * 3 + 2, none⟩) hgb).trans m2
  generalize wS.drewN nq = wT at *
  have cz : Below w0.heap.size w0 (wT.alloc (.cells #[.int .i64 0, .int .i64 0, .slice none 0 0] 104)) := c4.alloc c4.size _
  obtain ⟨-, -, -, -, l4, -, -⟩ := box_seven (box_kept x0 cz)
  have l6 := (cz.cell (p := ⟨sb, k * 7 + 6, none⟩) hsb).trans k6
  have l0 := (cz.cell (p := ⟨gb, m * 3, none⟩) hgb).trans m0
  have l1 := (cz.cell (p := ⟨gb, m * 3 + 1, none⟩) hgb).trans m1
  have l2 := (cz.cell (p := ⟨gb, m * 3 + 2, none⟩) hgb).trans m2
  clear cz
  clear j2 j6 six k6 m0 m1 m2
  go_wp2_with fail
  go_region
  all_goals
   have c5 : Below w0.heap.size w0 (wT.alloc (.cells #[.int .i64 S0, .int .i64 S1, .slice pa NP pc] 104)) := c4.alloc c4.size _
   obtain ⟨v0, v1, -, -, v4, v5, v6⟩ := box_seven (box_kept x0 c5)
   obtain ⟨y0, y1, y2, -, -, -⟩ := box_three (box_new wT #[.int .i64 S0, .int .i64 S1, .slice pa NP pc] 104)
   generalize wT.alloc (.cells #[.int .i64 S0, .int .i64 S1, .slice pa NP pc] 104) = wU at *
   clear l0 l1 l2 l4 l6 n0 n1 n2 i6
   go_wp2_with fail
   refine (refNo_any 3 _).mono ?_
   rintro e w2 ⟨rfl, hb2⟩
   have c6 := c5.drew.trans (hb2.mono c5.size)
   have b2 := b0.trans (c6.mono b0.size)
   have z1 := box_kept z0 c6
   obtain ⟨t0, t1, t2, t3, t4⟩ := box_five z1
   obtain ⟨r0, r1, r2, r3, r4⟩ := five_free z1
   obtain ⟨s0, s1, s2, s3, s4⟩ := box_five (five_set z1 (.int .i64 3) (.int .i64 0) (.int .i64 0) (.int .i64 0) (.slice none 0 0))
   have HG := HNO w2 (no 3) (.int .i64 3) (.int .i64 0) (.int .i64 0) (.int .i64 0) (.slice none 0 0)
   clear HNO z0 x0 v0 v1 v4 v5 v6 y0 y1 y2
   go_wp2_with fail
   exact bodyPost_ret (v := .agg #[.int .i64 3, .int .i64 0, .int .i64 0, .int .i64 0, .slice none 0 0]) (by simp [results, Tryz.results18, go_sem, s0, s1, s2, s3, s4]) rfl ⟨_, rfl, HG.out b2 rfl⟩

end Go.Proofs.YtkjlchfmplcobaeGreatDoor

/- The walk of the reference's Step where a byte is spoilt: package yearref5. -/
namespace Go.Proofs.YtkjlchfmplcobaeGreatDoor
open Go.RowKit

theorem segs_one {τ : Nat → Tag} {N : Nat} {w : World} {k : Nat} {l : List Seg} {vs : List Value} (hl : vs.length = l.length * 3) (h : ∀ j, j < l.length → ∃ y, vs[j * 3]? = some (.int .i64 (l.getD j seg0).first) ∧ vs[j * 3 + 1]? = some (.int .i64 (l.getD j seg0).count) ∧ vs[j * 3 + 2]? = some y ∧ PkM τ N w k j y (l.getD j seg0).packed) : ∀ u ∈ vs, u.oneCell' = true := by
 intro u hu
 obtain ⟨i, hi, rfl⟩ := List.mem_iff_getElem.1 hu
 have hi' := List.getElem?_eq_getElem hi
 have e : i = i / 3 * 3 + i % 3 := by omega
 have hj : i / 3 < l.length := by omega
 obtain ⟨y, h0, h1, h2, h3⟩ := h (i / 3) hj
 have hm : i % 3 = 0 ∨ i % 3 = 1 ∨ i % 3 = 2 := by omega
 rcases hm with hm | hm | hm
 ·rw [hm, Nat.add_zero] at e
  rw [← e, hi'] at h0
  rw [Option.some.inj h0]; rfl
 ·rw [hm] at e
  rw [← e, hi'] at h1
  rw [Option.some.inj h1]; rfl
 ·rw [hm] at e
  rw [← e, hi'] at h2
  rw [Option.some.inj h2]
  obtain ⟨pa, pc, rfl⟩ := own_form' h3.2.1
  rfl
theorem own_at0 {w : World} {base n : Nat} {e : TypeId} {v : Value} {xs : List Value} (h : w.ownsRow base e 1 v n xs) (hn : 0 < n) : ∃ g c, v = .slice (some ⟨g, 0, none⟩) n c ∧ base ≤ g ∧ g < w.heap.size := by
 rcases h.2 with ⟨-, h0⟩ | ⟨g, cap, cur, e, hb, hg, -⟩
 ·omega
 ·exact ⟨g, cap, e, hb, lt_heap hg⟩
set_option maxRecDepth 1000000 in
set_option maxHeartbeats 4000000 in
theorem refSpoilTail {Q : Exit → Act → World → Prop} {f : Flt} {d : Dd} {k m o : Nat} {τ : Nat → Tag} {N gp sb sc bc gb gc pg qc NP NG : Nat} {da ba : Option Addr} {dc : Nat} {w w0 wT w4 : World} {V : Nat → ShV} {X : Shd} {S0 S1 : Int} {PX : List Int} {vs : List Value} {RES : Flt × Ans}
  (hQ : Hid (StepEnd Q τ N gp (w.heap.size + 1) w RES)) (hN : N ≤ w.heap.size) (b0 : Below w.heap.size w w0) (K0 : Keep τ (ext τ w.heap.size tNo) N w w0) (hB0 : RfB (ext τ w.heap.size tNo) N w0 gp (.slice (some ⟨sb, 0, none⟩) f.shards.length sc) (.slice ba f.book.length bc) f.book) (hS0 : ShM (ext τ w.heap.size tNo) N w0 (.slice (some ⟨sb, 0, none⟩) f.shards.length sc) f.shards V) (hk : k < f.shards.length) (hX : f.shards.getD k shd0 = X)
  (hR0 : ext τ w.heap.size tNo (w.heap.size + 1) = tNo) (htb : ext τ w.heap.size tNo sb = tSh) (hsb : sb < w0.heap.size) (hfz : ∀ i, w0.frozen? ⟨sb, i, none⟩ = false)
  (x0 : w0.heap[w.heap.size]? = some (.cells #[.int .i64 5, .int .i64 (k : Int), .int .i64 d.time, .slice da d.entry.length dc, .int .i64 (m : Int), .int .i64 (o : Int), .int .u8 d.by'] 56 (0, 0)))
  (z0 : w0.heap[w.heap.size + 1]? = some (.cells #[.int .i64 0, .int .i64 0, .int .i64 0, .int .i64 0, .slice none 0 0] 41 (0, 0)))
  (k6' : w0.cell? ⟨sb, k * 7 + 6, none⟩ = some (.slice (some ⟨gb, 0, none⟩) NG gc)) (HNG : Hid (X.man.segs.length = NG)) (hgn : NG ≤ 1000000) (hm : m < NG) (hrow : w0.ownsRow N 104 3 (.slice (some ⟨gb, 0, none⟩) NG gc) NG vs) (HVO : Hid (∀ u ∈ vs, u.oneCell' = true))
  (HVS : Hid (∀ i, i < X.man.segs.length → ∃ y, vs[i * 3]? = some (.int .i64 (X.man.segs.getD i seg0).first) ∧ vs[i * 3 + 1]? = some (.int .i64 (X.man.segs.getD i seg0).count) ∧ vs[i * 3 + 2]? = some y ∧ PkM (ext τ w.heap.size tNo) N w0 k i y (X.man.segs.getD i seg0).packed))
  (c4 : Below w0.heap.size w0 wT) (b4 : Below wT.heap.size wT w4) (ow4 : w4.ownsRow wT.heap.size 5 1 (.slice (some ⟨pg, 0, none⟩) NP qc) NP (PX.map (Value.int .u8))) (hbs : Bytes PX)
  (bx4 : w4.heap[wT.heap.size]? = some (.cells #[.int .i64 S0, .int .i64 S1, .slice (some ⟨pg, 0, none⟩) NP qc] 104 (0, 0)))
  (HRES : Hid (RES = (⟨f.shards.set k { X with man := { X.man with segs := X.man.segs.set m ⟨S0, S1, PX⟩ } }, f.book⟩, ⟨0, (k : Int), 0, 0, []⟩)))
  {c0 c1 c2 c5 c6 c7 c8 c9 c11 c12 c13 c14 c15 c16 c18 c19 c20 c21 c22 c23 c24 c25 c26 c27 c28 c29 c30 c31 c32 c33 c34 c35 c36 c37 c38 c39 c40 c41 c42 c43 c44 c45 c46 c47 c48 c49 c50 c51 c52 c53 c54 c55 c56 c57 c58 c59 c60 c61 c62 c63 c64 c65 c66 c67 c68 c69 c70 c71 c72 c73 c74 c75 c76 c77 c78 c79 c80 c81 c82 c83 c84 c85 c86 c87 c88 c89 c90 c91 c92 c93 c94 c95 c96 c97 c98 c99 c100 c101 c102 c103 c104 c105 c106 c107 c108 c109 c110 c111 c112 c113 c114 c115 c116 c117 c118 c119 c120 c121 c122 c123 c124 c125 c126 c127 c128 c129 c130 c131 c132 c133 c134 c135 c136 c137 c138 c139 c140 c141 c142 c143 c144 c145 c146 c147 c148 c149 c150 c151 c152 c153 c154 c155 c156 c157 c158 c159 c160 c161 c162 c163 c164 c165 c166 c167 c168 c169 c170 c171 c172 c173 c174 c175 c176 c177 c178 c179 c180 c181 c182 c183 c184 c185 c186 c187 c188 c189 c190 c191 c192 c193 c194 c195 c196 c197 c198 c199 c200 c201 c202 c203 c204 c205 c206 c207 c208 c209 c210 c211 c212 c213 c214 c215 c216 c217 c218 c219 c220 c221 c222 c223 c224 c225 c226 c227 c228 c229 c230 c231 c232 c233 c234 c235 c236 c237 c238 c239 c240 c241 c242 c243 c244 c245 c246 c247 c248 c249 c250 c251 c252 c253 c254 c255 c256 c257 c258 c259 c260 c261 c262 c263 c264 c265 c266 c267 c268 c269 c270 c271 c272 c273 c274 c275 c276 c277 c278 c279 c280 c281 c282 c283 c284 c285 c286 c287 c288 c289 c290 c291 c292 c293 c294 c295 c296 c297 c298 c299 c300 c301 c302 c303 c304 c305 c306 c307 c308 c309 c310 c311 c312 c313 c314 c315 c316 c317 c318 c319 c320 c321 c322 c323 c324 c325 c326 c327 c328 c329 c330 c331 c332 c333 c334 c335 c336 c337 c338 c339 c340 c341 c342 c343 c344 c345 : Value} : Code.wp Tryz.prog (stepFrom 57) Q ⟨#[c0, c1, c2, .pointer (some ⟨w.heap.size, 0, none⟩), .pointer (some ⟨w.heap.size + 1, 0, none⟩), c5, c6, c7, c8, c9, .pointer (some ⟨sb, k * 7, none⟩), c11, c12, c13, c14, c15, c16, .pointer (some ⟨wT.heap.size, 0, none⟩), c18, c19, c20, c21, c22, c23, c24, c25, c26, c27, c28, c29, c30, c31, c32, c33, c34, c35, c36, c37, c38, c39, c40, c41, c42, c43, c44, c45, c46, c47, c48, c49, c50, c51, c52, c53, c54, c55, c56, c57, c58, c59, c60, c61, c62, c63, c64, c65, c66, c67, c68, c69, c70, c71, c72, c73, c74, c75, c76, c77, c78, c79, c80, c81, c82, c83, c84, c85, c86, c87, c88, c89, c90, c91, c92, c93, c94, c95, c96, c97, c98, c99, c100, c101, c102, c103, c104, c105, c106, c107, c108, c109, c110, c111, c112, c113, c114, c115, c116, c117, c118, c119, c120, c121, c122, c123, c124, c125, c126, c127, c128, c129, c130, c131, c132, c133, c134, c135, c136, c137, c138, c139, c140, c141, c142, c143, c144, c145, c146, c147, c148, c149, c150, c151, c152, c153, c154, c155, c156, c157, c158, c159, c160, c161, c162, c163, c164, c165, c166, c167, c168, c169, c170, c171, c172, c173, c174, c175, c176, c177, c178, c179, c180, c181, c182, c183, c184, c185, c186, c187, c188, c189, c190, c191, c192, c193, c194, c195, c196, c197, c198, c199, c200, c201, c202, c203, c204, c205, c206, c207, c208, c209, c210, c211, c212, c213, c214, c215, c216, c217, c218, c219, c220, c221, c222, c223, c224, c225, c226, c227, c228, c229, c230, c231, c232, c233, c234, c235, c236, c237, c238, c239, c240, c241, c242, c243, c244, c245, c246, c247, c248, c249, c250, c251, c252, c253, c254, c255, c256, c257, c258, c259, c260, c261, c262, c263, c264, c265, c266, c267, c268, c269, c270, c271, c272, c273, c274, c275, c276, c277, c278, c279, c280, c281, c282, c283, c284, c285, c286, c287, c288, c289, c290, c291, c292, c293, c294, c295, c296, c297, c298, c299, c300, c301, c302, c303, c304, c305, c306, c307, c308, c309, c310, c311, c312, c313, c314, c315, c316, c317, c318, c319, c320, c321, c322, c323, c324, c325, c326, c327, c328, c329, c330, c331, c332, c333, c334, c335, c336, c337, c338, c339, c340, c341, c342, c343, c344, c345], []⟩ w4 := by
 obtain ⟨i0, hi0, hz0, hz1, hz2⟩ := info_parts Tryz.info104b
 have o3 : (0 : Int) ≤ m := by omega
 have o4 : (m : Int) < NG := by omega
 have q3 : (0 : Int) ≤ k := by omega
 have q4 : (k : Int) < f.shards.length := by omega
 conv => arg 2; whnf
 have c7 := c4.trans (b4.mono c4.size)
 have bE4 : Below w4.heap.size w4 (w4.alloc (.cells #[] 104)) := (Below.refl _ _).alloc (Nat.le_refl _) _
 have c8 := c7.trans (bE4.mono c7.size)
 have i6 := (c8.cell (p := ⟨sb, k * 7 + 6, none⟩) hsb).trans k6'
 have hrow8 := hrow.kept (grown_below c8) (by cases (Value.slice (some ⟨gb, 0, none⟩) NG gc).ownBlock <;> simp)
 have hlit := own_empty (size := 3) (base := w4.heap.size) (box_new w4 #[] 104) (Nat.le_refl _)
 have HO6 : ∀ (w6 : World) (gg gcap : Nat), Hid (w6.ownsRow w4.heap.size 104 3 (.slice (some ⟨gg, 0, none⟩) (0 + NG) gcap) (0 + NG) ([] ++ vs) → w6.ownsRow w4.heap.size 104 3 (.slice (some ⟨gg, 0, none⟩) NG gcap) NG vs) := fun w6 gg gcap h => by rw [Nat.zero_add, List.nil_append] at h; exact h
 have HF6 : ∀ (w6 : World), Hid ((w4.alloc (.cells #[] 104)).grownBy w6 (some w4.heap.size) → w6.cell? ⟨sb, k * 7 + 6, none⟩ = some (.slice (some ⟨gb, 0, none⟩) NG gc) ∧ w6.frozen? ⟨sb, k * 7 + 6, none⟩ = false) := fun w6 hg => by
  have hlt : sb < (w4.alloc (.cells #[] 104)).heap.size := Nat.lt_of_lt_of_le hsb c8.size
  have hne : some sb ≠ some w4.heap.size := fun e => by have h := Option.some.inj e; have := c7.size; omega
  exact ⟨(hg.cell_far ⟨sb, k * 7 + 6, none⟩ hlt hne).trans i6, (hg.frozen_far ⟨sb, k * 7 + 6, none⟩ hlt hne).trans ((World.frozen?_of_block (c8.block sb hsb)).trans (hfz (k * 7 + 6)))⟩
 go_wp2_with (at_builtin; refine wpList_append_src rfl (.tmp 324) (.tmp 329) 61 rfl w4.heap.size N 104 104 i0 _ 3 40 Tryz.underlying61 hi0 hz0 hz1 hz2 rfl (by decide) w4.heap.size 0 0 [] rfl hlit (some ⟨gb, 0, none⟩) NG gc vs rfl hrow8 HVO.out (by unfold maxLen; omega) (by omega) (by simp) ?_; intro gg gcap w6 ho6' hg6; have ho6 := (HO6 w6 gg gcap).out ho6'; obtain ⟨hc6, hf6⟩ := (HF6 w6).out hg6; rw [Nat.zero_add])
 have hb6T : Below wT.heap.size wT w6 := b4.trans ((bE4.grown hg6 bE4.size (fun b hb => by cases hb; exact Nat.le_refl _)).mono b4.size)
 have ho6T := ownsRow_base ho6 b4.size
 have hpg4 : pg < w4.heap.size := (ow4.lt pg rfl).2
 have hp6 : w6.ownsRow wT.heap.size 5 1 (.slice (some ⟨pg, 0, none⟩) NP qc) NP ((PX).map (Value.int .u8)) := (own_below ow4 bE4 (Nat.le_refl _)).kept hg6 (.inr (fun e => by have h : pg = w4.heap.size := Option.some.inj e; omega))
 have hgg := ho6T.lt gg rfl
 have hsbT : sb < wT.heap.size := Nat.lt_of_lt_of_le hsb c4.size
 have hxT : w.heap.size < wT.heap.size := Nat.lt_of_lt_of_le (lt_heap x0) c4.size
 have hzT : w.heap.size + 1 < wT.heap.size := Nat.lt_of_lt_of_le (lt_heap z0) c4.size
 have hnx : w.heap.size ≠ sb := fun e => by have h2 : ext τ w.heap.size tNo sb = tNo := ext_new (Nat.le_of_eq e); rw [htb] at h2; simp [tSh, tNo] at h2
 have hnz : w.heap.size + 1 ≠ sb := fun e => by rw [e, htb] at hR0; simp [tSh, tNo] at hR0
 have HW : Hid (∀ u0 u1 u2 u3 u4, RfWent τ N gp w (((((((((w6.setCell ⟨sb, k * 7 + 4 + 2, none⟩ (.slice (some ⟨gg, 0, none⟩) NG gcap)).setCell ⟨gg, m * 3, none⟩ (.int .i64 S0)).setCell ⟨gg, m * 3 + 1, none⟩ (.int .i64 S1)).setCell ⟨gg, m * 3 + 2, none⟩ (.slice (some ⟨pg, 0, none⟩) NP qc)).setCell ⟨w.heap.size + 1, 0, none⟩ u0).setCell ⟨w.heap.size + 1, 1, none⟩ u1).setCell ⟨w.heap.size + 1, 2, none⟩ u2).setCell ⟨w.heap.size + 1, 3, none⟩ u3).setCell ⟨w.heap.size + 1, 4, none⟩ u4) (.agg #[.int .i64 0, .int .i64 (k : Int), .int .i64 0, .int .i64 0, .slice none 0 0]) RES) := fun u0 u1 u2 u3 u4 => by
  rw [HRES.out]
  exact refspoil_end (s := ⟨S0, S1, PX⟩) hB0 hS0 rfl hk hX K0 hN (Nat.le_trans hN b0.size) c4 hb6T (by rw [HNG.out]; exact hm) HVS.out HNG.out ho6T hp6 hbs hR0 (by omega) (lt_heap z0) u0 u1 u2 u3 u4
 have l6 := World.cell?_setCell_same w6 ⟨sb, k * 7 + 6, none⟩ (Value.slice (some ⟨gg, 0, none⟩) NG gcap) hc6
 have ho7 := ho6T.kept (grown_set w6 sb (k * 7 + 6) (Value.slice (some ⟨gg, 0, none⟩) NG gcap)) (.inr (fun e => by have h : gg = sb := Option.some.inj e; omega))
 have bx6 : w6.heap[wT.heap.size]? = _ := (hg6.block wT.heap.size (lt_heap (box_kept bx4 bE4)) (fun e => by have h : wT.heap.size = w4.heap.size := Option.some.inj e; have := lt_heap bx4; omega)).trans (box_kept bx4 bE4)
 have bx7 := box_set_far (v := .slice (some ⟨gg, 0, none⟩) NG gcap) (o := k * 7 + 6) bx6 (Nat.ne_of_gt hsbT)
 have x7 := box_set_far (v := .slice (some ⟨gg, 0, none⟩) NG gcap) (o := k * 7 + 6) (box_kept x0 (c4.trans (hb6T.mono c4.size))) hnx
 have z7 := box_set_far (v := .slice (some ⟨gg, 0, none⟩) NG gcap) (o := k * 7 + 6) (box_kept z0 (c4.trans (hb6T.mono c4.size))) hnz
 obtain ⟨yy, g0, g1, g2, -⟩ := HVS.out m (by rw [HNG.out]; exact hm)
 have cg0 := (ho7.cellAt (m * 3) (by omega)).trans g0
 have cg1 := (ho7.cellAt (m * 3 + 1) (by omega)).trans g1
 have cg2 := (ho7.cellAt (m * 3 + 2) (by omega)).trans g2
 have fg0 := ho7.frozenAt (m * 3)
 have fg1 := ho7.frozenAt (m * 3 + 1)
 have fg2 := ho7.frozenAt (m * 3 + 2)
 clear HVS hB0 hS0 K0 hc6 hf6 ho6 ho6' hg6 bx6 bx4 ow4 hrow hrow8 hlit HO6 HF6 ho7 hp6 ho6T g0 g1 g2 i6 hb6T c8 bE4 b4 k6' hbs
 generalize w6.setCell ⟨sb, k * 7 + 4 + 2, none⟩ (.slice (some ⟨gg, 0, none⟩) NG gcap) = w7 at *
 clear x0 z0
 obtain ⟨v0, v1, -, -, v4, v5, v6⟩ := box_seven x7
 obtain ⟨y0, y1, y2, -, -, -⟩ := box_three bx7
 go_region
 have x8 := box_set_far (j := gg) (v := .slice (some ⟨pg, 0, none⟩) NP qc) (o := m * 3 + 2) (box_set_far (j := gg) (v := .int .i64 S1) (o := m * 3 + 1) (box_set_far (v := .int .i64 S0) (o := m * 3) x7 (j := gg) (by omega)) (by omega)) (by omega)
 have z8 := box_set_far (j := gg) (v := .slice (some ⟨pg, 0, none⟩) NP qc) (o := m * 3 + 2) (box_set_far (j := gg) (v := .int .i64 S1) (o := m * 3 + 1) (box_set_far (v := .int .i64 S0) (o := m * 3) z7 (j := gg) (by omega)) (by omega)) (by omega)
 clear v0 v1 v4 v5 v6 y0 y1 y2 x7 z7 bx7 cg0 cg1 cg2 fg0 fg1 fg2 l6
 generalize ((w7.setCell ⟨gg, m * 3, none⟩ (.int .i64 S0)).setCell ⟨gg, m * 3 + 1, none⟩ (.int .i64 S1)).setCell ⟨gg, m * 3 + 2, none⟩ (.slice (some ⟨pg, 0, none⟩) NP qc) = w8 at *
 obtain ⟨v0, v1, -, -, -, -, -⟩ := box_seven x8
 obtain ⟨t0, t1, t2, t3, t4⟩ := box_five z8
 obtain ⟨r0, r1, r2, r3, r4⟩ := five_free z8
 have z9 := five_set z8 (.int .i64 0) (.int .i64 (k : Int)) (.int .i64 0) (.int .i64 0) (.slice none 0 0)
 have HW2 : Hid _ := HW.out (.int .i64 0) (.int .i64 (k : Int)) (.int .i64 0) (.int .i64 0) (.slice none 0 0)
 clear HW x8 z8 hnx hnz hgg hpg4 hsbT hxT hzT
 go_wp2_with fail
 exact hQ.out _ _ _ _ _ _ _ rfl z9 (RfWent.drew HW2.out hN)

end Go.Proofs.YtkjlchfmplcobaeGreatDoor
