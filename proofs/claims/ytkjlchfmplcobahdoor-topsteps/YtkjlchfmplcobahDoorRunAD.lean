/- TopYear, FleetPastWalk, TopAlive, ShelfSegs, TopStepsM, TopStepsWalk, FleetMem, FleetMem2, as one text. -/
import Derived.Test.YtkjlchfmplcobahDoorProg
import Derived.Test.YtkjlchfmplcobahDoorRunAC
import Derived.WalkKit
import Derived.WalkSpells
import Derived.WalkLawsBesides
import Derived.Deep.RegionHeld3
import Derived.BigRegion
import Derived.Test.YtkjlchfmplcobahDoorRunAB
import Derived.Deep.AppendLies
import Derived.Laws.AppendOwnNone
/- The walks of yeartop.do, yeartop.windows and yeartop.year. -/
namespace Go.Proofs.YtkjlchfmplcobahDoor
open Go.RowKit

set_option maxRecDepth 100000 in
theorem topDo_any (kind n : Int) (w : World) :
    Calls Tryd.prog 7 #[.int .i64 kind, .int .i64 n] w fun e w' => e = .returned (.agg #[.int .i64 kind, .int .i64 n, .int .i64 0, .slice none 0 0, .int .i64 0, .int .i64 0, .int .u8 0]) ∧ Below w.heap.size w w' := by
  have b0 : Below w.heap.size w (w.alloc (.cells #[.int .i64 kind, .int .i64 n, .int .i64 0, .slice none 0 0, .int .i64 0, .int .i64 0, .int .u8 0] 27)) := (Below.refl _ _).alloc (Nat.le_refl _) _
  go_enter Tryd.func7, Tryd.ntmps7
  go_wp2_with fail
  exact bodyPost_ret (v := .agg #[.int .i64 kind, .int .i64 n, .int .i64 0, .slice none 0 0, .int .i64 0, .int .i64 0, .int .u8 0]) (by simp [results, Tryd.results7, go_sem]) rfl ⟨rfl, b0⟩
theorem winsL_length (n : Nat) : (winsL n).length = n := by simp [winsL]
theorem winsL_snoc (n : Nat) : winsL (n + 1) = winsL n ++ [⟨10 * (n : Int), 10 * (n : Int) + 10⟩] := by unfold winsL; rw [List.range_succ, List.map_append]; rfl
set_option maxRecDepth 100000 in
set_option maxHeartbeats 1000000 in
theorem windows_any (n : Nat) (h8 : n ≤ 8) (w : World) :
    Calls Tryd.prog 9 #[.int .i64 (n : Int)] w fun e w' => ∃ va vc, e = .returned (.slice va n vc) ∧ WinsAt w' (.slice va n vc) (winsL n) ∧ Below w.heap.size w w' := by
  obtain ⟨i0, hi0, hz0, hz1, hz2⟩ := info_parts Tryd.info64b
  go_enter Tryd.func9, Tryd.ntmps9
  go_wp2_with fail
  go_loopw [3, 6] (fun gv kv wr => ∃ (j : Nat) (va : Option Addr) (vc : Nat) (vs : List Value), j ≤ n ∧ kv = .int .i64 j ∧ gv = .slice va j vc ∧ wr.ownsRow w.heap.size 64 2 (.slice va j vc) j vs ∧ Hid (WinEls vs (winsL j)) ∧ Below w.heap.size w wr) (fun _ kv _ => n - (intOf kv).toNat)
  case atStart => exact ⟨0, none, 0, [], Nat.zero_le _, rfl, rfl, World.ownsRow_nil _ _ _ _, winEls_nil, Below.refl _ _⟩
  case round =>
    obtain ⟨wo, rfl⟩ : ∃ x, x = wr := ⟨wr, rfl⟩
    obtain ⟨j, va, vc, vs, hj, rfl, rfl, hrow, HW, hbr⟩ := hrel
    have hsr := hbr.size
    by_cases hlt : j < n
    · have hlt' : (j : Int) < n := by omega
      have HW2 : Hid (WinEls (vs ++ winV ⟨10 * (j : Int), 10 * (j : Int) + 10⟩) (winsL (j + 1))) := by show WinEls _ _; rw [winsL_snoc]; exact HW.out.snoc
      have m1 : wrap64 (10 * (j : Int)) = 10 * (j : Int) := by unfold wrap64; omega
      have m2 : wrap64 (10 * (j : Int) + 10) = 10 * (j : Int) + 10 := by unfold wrap64; omega
      have hrowA := hrow.alloc (.cells #[.int .i64 (10 * (j : Int)), .int .i64 (10 * (j : Int) + 10)] 64)
      have hnew := lit_win wo ⟨10 * (j : Int), 10 * (j : Int) + 10⟩ 64
      have bA : Below w.heap.size w (wo.alloc (.cells #[.int .i64 (10 * (j : Int)), .int .i64 (10 * (j : Int) + 10)] 64)) := hbr.alloc hsr _
      have hsA := bA.size
      have hone : ∀ u ∈ winV ⟨10 * (j : Int), 10 * (j : Int) + 10⟩, u.oneCell' = true := by intro u hu; simp [winV] at hu; rcases hu with rfl | rfl <;> rfl
      clear hrow HW
      go_wp2_with (at_builtin; refine wpList_append_own _ rfl (.tmp 9) (.tmp 16) 39 rfl w.heap.size 64 i0 _ 2 16 Tryd.underlying39 hi0 hz0 hz1 hz2 rfl (by decide) _ _ _ rfl hrowA ⟨wo.heap.size, 0, none⟩ 1 1 _ rfl rfl hnew hone (by unfold maxLen; omega) (by omega) hsA ?_; intro v7 w7 ho7 hg7 _; obtain ⟨ga, gc, rfl⟩ := own2_form ho7)
      have b7 : Below w.heap.size w w7 := bA.grown hg7 hsA (fun _ h => (hrowA.lt _ h).1)
      go_roundw
      case rel => exact ⟨j + 1, ga, gc, _, by omega, by go_num, rfl, ho7, HW2, b7⟩
      case measure => simp [intOf]; omega
    · obtain rfl : j = n := by omega
      have hnl : ¬ (j : Int) < j := by omega
      have HG : Hid (WinsAt wo (.slice va j vc) (winsL j)) := HW.out.wins (by rw [winsL_length]; exact hrow)
      clear hrow HW
      go_wp2_with fail
      go_ret
      exact ⟨va, vc, rfl, HG.out, hbr⟩
/-- Entries as they come in, that stay as they are while the row u grows. -/
def Stay (B : Nat) (u : Value) (w : World) (ea : Option Addr) (n c : Nat) (es : List (List Int)) : Prop :=
  ∀ w', Below B w w' → w.heap.size ≤ w'.heap.size → (∀ k, k < w.heap.size → u.ownBlock ≠ some k → w'.heap[k]? = w.heap[k]?) → Lists w' ea n c es ∧ ∀ j b off pa m pc, j < n → ea = some ⟨b, off, none⟩ → w'.cell? ⟨b, off + j, none⟩ = some (.slice pa m pc) → Away B w' (.slice pa m pc) (es.getD j [])
/-- The row so far. -/
def YearI (B : Nat) (w : World) (u : Value) (wr : World) (v : Value) (l : List Dd) : Prop := ∃ va vc vs, v = .slice va l.length vc ∧ wr.ownsRow B 27 7 v l.length vs ∧ DoB B wr vs l ∧ (v.ownBlock = u.ownBlock ∨ ∀ g, v.ownBlock = some g → w.heap.size ≤ g) ∧ (∀ k, k < w.heap.size → u.ownBlock ≠ some k → wr.heap[k]? = w.heap[k]?) ∧ Below B w wr ∧ w.heap.size ≤ wr.heap.size
theorem subs_snoc (t : Int) (es : List (List Int)) {j : Nat} (h : j < es.length) : subsL t (es.take (j + 1)) = subsL t (es.take j) ++ [subD t (es.getD j [])] := by
  unfold subsL
  rw [List.take_add_one, List.getElem?_eq_getElem h, List.map_append, List.getD_eq_getElem?_getD, List.getElem?_eq_getElem h]; rfl

theorem YearI.call {B : Nat} {w wr w' : World} {u v : Value} {l : List Dd} (h : YearI B w u wr v l) (hb : Below wr.heap.size wr w') (hB : B ≤ w.heap.size) : YearI B w u w' v l := by
  obtain ⟨va, vc, vs, h1, h2, h3, h4, h5, h6, h7⟩ := h
  exact ⟨va, vc, vs, h1, own7_below h2 hb (Nat.le_refl _), h3.below hb, h4, fun k hk hu => (hb.block k (Nat.lt_of_lt_of_le hk h7)).trans (h5 k hk hu), h6.trans (hb.mono (Nat.le_trans hB h7)), Nat.le_trans h7 hb.size⟩
/-- One thing more. -/
theorem YearI.more {B : Nat} {w wr w6 : World} {u : Value} {va : Option Addr} {n vc g cap : Nat} {l : List Dd} {x : Dd} {pa : Option Addr} {pc : Nat} {o : Obj} {vs : List Value} (hn : l.length = n) (hrow : wr.ownsRow B 27 7 (.slice va n vc) n vs) (hD : DoB B wr vs l) (hw : (Value.slice va n vc).ownBlock = u.ownBlock ∨ ∀ g, (Value.slice va n vc).ownBlock = some g → w.heap.size ≤ g) (hk : ∀ k, k < w.heap.size → u.ownBlock ≠ some k → wr.heap[k]? = w.heap[k]?) (hb : Below B w wr) (hs : w.heap.size ≤ wr.heap.size) (hB : B ≤ w.heap.size)
    (hx : Some' wr (.slice pa x.entry.length pc) x.entry) (ha : Away B wr (.slice pa x.entry.length pc) x.entry) (hf : DdFit x)
    (hg6 : (wr.alloc o).grownBy w6 (Value.slice va n vc).ownBlock) (ho6 : w6.ownsRow B 27 7 (.slice (some ⟨g, 0, none⟩) (n + 1) cap) (n + 1) (vs ++ ddV x pa pc)) (ha6 : (Value.slice va n vc).ownBlock = some g ∨ g = (wr.alloc o).heap.size) :
    YearI B w u w6 (.slice (some ⟨g, 0, none⟩) (n + 1) cap) (l ++ [x]) := by
  have bA : Below wr.heap.size wr (wr.alloc o) := (Below.refl _ _).alloc (Nat.le_refl _) _
  have hrowA := hrow.alloc o
  have hDA := (hD.below bA).snoc (hx.below bA) (ha.below bA) hf
  have hl1 : (l ++ [x]).length = n + 1 := by rw [List.length_append, hn]; rfl
  refine ⟨_, cap, _, by rw [hl1], by rw [hl1]; exact ho6, hDA.grown hrowA hg6, ?_, fun k hk' hu => ?_, ?_, ?_⟩
  · rcases ha6 with h | h
    · rcases hw with h' | h'
      · exact .inl (by rw [← h', h]; rfl)
      · exact .inr (fun q hq => by cases hq; exact h' g h)
    · exact .inr (fun q hq => by cases hq; show w.heap.size ≤ g; have := bA.size; omega)
  · have hlt : k < (wr.alloc o).heap.size := by have := bA.size; omega
    rw [hg6.block k hlt (fun e => by
      rcases hw with h' | h'
      · exact hu (by rw [← h', ← e])
      · have := h' k e.symm; omega)]
    rw [bA.block k (by omega)]
    exact hk k hk' hu
  · exact (hb.trans (bA.mono (Nat.le_trans hB hs))).grown hg6 (Nat.le_trans hB (Nat.le_trans hs bA.size)) (fun q hq => (hrowA.lt q hq).1)
  · exact Nat.le_trans hs (Nat.le_trans bA.size hg6.size)
theorem doD_fit {k n : Nat} (hk : k ≤ 10) : DdFit (doD (k : Int) (n : Int)) := ⟨⟨show (0 : Int) ≤ 0 by omega, show (0 : Int) < 256 by omega⟩, by show -9223372036854775808 ≤ (k : Int); omega, by show (k : Int) ≤ 9223372036854775807; omega⟩
theorem subD_fit (t : Int) (e : List Int) : DdFit (subD t e) := ⟨⟨show (0 : Int) ≤ 0 by omega, show (0 : Int) < 256 by omega⟩, show (-9223372036854775808 : Int) ≤ 1 by omega, show (1 : Int) ≤ 9223372036854775807 by omega⟩

def stepsT (k : Nat) : List Dd := [doD 2 (k : Int), doD 3 (k : Int), doD 4 (k : Int)]
theorem stepsT_snoc (k : Nat) {j : Nat} (h : j < 3) : (stepsT k).take (j + 1) = (stepsT k).take j ++ [doD ((2 + j : Nat) : Int) (k : Int)] := by
  match j, h with
  | 0, _ => rfl
  | 1, _ => rfl
  | 2, _ => rfl
set_option maxRecDepth 100000 in
set_option maxHeartbeats 2000000 in
theorem year_any (l0 : List Dd) (k far : Nat) (es : List (List Int)) (la ea : Option Addr) (ln lc n c B : Nat) (vs0 : List Value) (w : World) (hl0 : l0.length = ln) (hrow0 : w.ownsRow B 27 7 (.slice la ln lc) ln vs0) (hD0 : DoB B w vs0 l0) (hB : B ≤ w.heap.size) (hS : Stay B (.slice la ln lc) w ea n c es) (hk : k ≤ 8) (hf : far ≤ 3) (hbig : ln + n ≤ 100000) :
    Calls Tryd.prog 11 #[.slice la ln lc, .int .i64 (k : Int), .slice ea n c, .int .i64 (far : Int)] w fun e w' => ∃ v, e = .returned v ∧ YearI B w (.slice la ln lc) w' v (l0 ++ (subsL (10 * (k : Int) + 5) es ++ (stepsT k).take far)) := by
  obtain ⟨i0, hi0, hz0, hz1, hz2⟩ := info_parts Tryd.info27b
  have hLs := (hS w (Below.refl _ _) (Nat.le_refl _) (fun _ _ _ => rfl)).1
  have hlen := hLs.len
  have hroom := hLs.room
  have hcap := hLs.cap
  unfold maxLen at hcap
  have m1 : wrap64 (10 * (k : Int)) = 10 * (k : Int) := by unfold wrap64; omega
  have m2 : wrap64 (10 * (k : Int) + 5) = 10 * (k : Int) + 5 := by unfold wrap64; omega
  clear hLs
  go_enter Tryd.func11, Tryd.ntmps11
  go_wp2_with fail
  go_loopw [0, 15] (fun gv kv wr => ∃ (j : Nat) (va : Option Addr) (vn vc : Nat), j ≤ n ∧ kv = .int .i64 j ∧ gv = .slice va vn vc ∧ Hid (vn = ln + j) ∧ YearI B w (.slice la ln lc) wr (.slice va vn vc) (l0 ++ subsL (10 * (k : Int) + 5) (es.take j))) (fun _ kv _ => n - (intOf kv).toNat)
  case atStart => exact ⟨0, la, ln, lc, Nat.zero_le _, rfl, rfl, rfl, la, lc, vs0, by rw [List.take_zero]; show _ = Value.slice la (l0 ++ []).length lc; rw [List.append_nil, hl0], by rw [List.take_zero]; show World.ownsRow _ _ _ _ _ (l0 ++ []).length _; rw [List.append_nil, hl0]; exact hrow0, by rw [List.take_zero]; show DoB _ _ _ (l0 ++ []); rw [List.append_nil]; exact hD0, .inl rfl, fun _ _ _ => rfl, Below.refl _ _, Nat.le_refl _⟩
  case round =>
    obtain ⟨wo, rfl⟩ : ∃ x, x = wr := ⟨wr, rfl⟩
    obtain ⟨j, va, vn, vc, hj, rfl, rfl, HVN, hI⟩ := hrel
    have hvb : vn ≤ 100000 := by have := HVN.out; omega
    by_cases hlt : j < n
    · have hlt' : (j : Int) < n := by omega
      obtain ⟨va', vc', vs, e1, hrow, hD, hwh, hkp, hbl, hsz⟩ := hI
      have hln : (l0 ++ subsL (10 * (k : Int) + 5) (es.take j)).length = vn := by cases e1; rfl
      rw [hln] at e1 hrow
      cases e1
      obtain ⟨hLw, hAw⟩ := hS wo hbl hsz hkp
      obtain ⟨b, off, pa, pc, rfl, hcell, hP⟩ := hLw.get j hlt
      have hAwy := hAw j b off pa _ pc hlt rfl hcell
      have HM := fun w6 g cap o h1 h2 h3 => YearI.more (w6 := w6) (g := g) (cap := cap) (o := o) (x := subD (10 * (k : Int) + 5) (es.getD j [])) (pa := pa) (pc := pc) hln hrow hD hwh hkp hbl hsz hB hP hAwy (subD_fit _ _) h1 h2 h3
      have HSN : Hid (l0 ++ subsL (10 * (k : Int) + 5) (es.take (j + 1)) = (l0 ++ subsL (10 * (k : Int) + 5) (es.take j)) ++ [subD (10 * (k : Int) + 5) (es.getD j [])]) := by show _ = _; rw [subs_snoc _ _ (by omega), List.append_assoc]
      have HMH : Hid _ := HM
      have hnew := lit_dd wo (subD (10 * (k : Int) + 5) (es.getD j [])) pa pc 27
      have hone := ddV_one (subD (10 * (k : Int) + 5) (es.getD j [])) pa pc
      have hsA : B ≤ (wo.alloc (.cells #[.int .i64 1, .int .i64 0, .int .i64 (10 * (k : Int) + 5), .slice pa (es.getD j []).length pc, .int .i64 0, .int .i64 0, .int .u8 0] 27)).heap.size := by simp; omega
      have hrowA := hrow.alloc (.cells #[.int .i64 1, .int .i64 0, .int .i64 (10 * (k : Int) + 5), .slice pa (es.getD j []).length pc, .int .i64 0, .int .i64 0, .int .u8 0] 27)
      have HNW : Hid _ := hnew
      have HON : Hid _ := hone
      clear HM hnew hone hrow hD hwh hkp hbl hLw hAw hAwy hP
      obtain ⟨EN, HEN⟩ : ∃ EN, Hid (es.getD j [] = EN) := ⟨_, rfl⟩
      rw [HEN.out] at hcell hsA hrowA HMH HSN HNW HON
      go_wp2_with (at_builtin; refine wpList_append_lies _ rfl (.tmp 19) (.tmp 25) 24 rfl B 27 i0 _ 7 72 Tryd.underlying24 hi0 hz0 hz1 hz2 rfl (by decide) _ _ _ rfl hrowA ⟨wo.heap.size, 0, none⟩ 1 1 _ rfl rfl HNW.out HON.out (by decide) (by unfold maxLen; omega) (by omega) hsA _ rfl ?_; intro g cap w6 ho6 hg6 ha6 hlt6)
      have HI6 : Hid _ := HMH.out w6 g cap _ hg6 ho6 ha6
      clear HMH HNW HON hrowA ho6 hg6 ha6 hcell
      go_roundw
      case rel => exact ⟨j + 1, _, vn + 1, cap, by omega, by go_num, rfl, by show _ = _; have := HVN.out; omega, by rw [HSN.out]; exact HI6.out⟩
      case measure => simp [intOf]; omega
    · obtain rfl : j = n := by omega
      have hnl : ¬ (j : Int) < j := by omega
      have hT : es.take j = es := List.take_of_length_le (by omega)
      rw [hT] at hI
      clear hS hT
      obtain ⟨L1, HL1⟩ : ∃ L1, Hid (l0 ++ subsL (10 * (k : Int) + 5) es = L1) := ⟨_, rfl⟩
      rw [HL1.out] at hI
      have HRES : Hid (l0 ++ (subsL (10 * (k : Int) + 5) es ++ (stepsT k).take far) = L1 ++ (stepsT k).take far) := by show _ = _; rw [← HL1.out, List.append_assoc]
      have bX : Below wo.heap.size wo (wo.alloc (.cells #[.int .i64 2, .int .i64 3, .int .i64 4] 3)) := (Below.refl _ _).alloc (Nat.le_refl _) _
      have hIX := hI.call bX hB
      have xX := box_new wo #[.int .i64 2, .int .i64 3, .int .i64 4] 3
      have hf' : (far : Int) ≤ 3 := by omega
      have hf0 : (0 : Int) ≤ far := by omega
      clear hI bX
      go_wp2_with fail
      generalize wo.alloc (.cells #[.int .i64 2, .int .i64 3, .int .i64 4] 3) = wX at *
      obtain ⟨XB, HXB⟩ : ∃ XB, Hid (wo.heap.size = XB) := ⟨_, rfl⟩
      rw [HXB.out] at xX ⊢
      go_loopw [0, 32] (fun gv kv wr => ∃ (q : Nat) (va : Option Addr) (vn vc : Nat), q ≤ far ∧ kv = .int .i64 q ∧ gv = .slice va vn vc ∧ Hid (vn = ln + j + q) ∧ YearI B w (.slice la ln lc) wr (.slice va vn vc) (L1 ++ (stepsT k).take q) ∧ wr.heap[XB]? = some (.cells #[.int .i64 2, .int .i64 3, .int .i64 4] 3 (0, 0))) (fun _ kv _ => far - (intOf kv).toNat)
      case atStart => exact ⟨0, va, vn, vc, Nat.zero_le _, rfl, rfl, HVN, by rw [List.take_zero, List.append_nil]; exact hIX, xX⟩
      case round =>
        obtain ⟨wp, rfl⟩ : ∃ x, x = wr := ⟨wr, rfl⟩
        obtain ⟨q, va, vn, vc, hq, rfl, rfl, HVN2, hI, hx⟩ := hrel
        have hvb2 : vn ≤ 200000 := by have := HVN2.out; omega
        by_cases hlt : q < far
        · have hlt' : (q : Int) < far := by omega
          have hcq : wp.cell? ⟨XB, q, none⟩ = some (.int .i64 ((2 + q : Nat) : Int)) := by
            rw [cell_of_row wp XB q _ _ _ hx]
            match q, (show q < 3 by omega) with
            | 0, _ => rfl
            | 1, _ => rfl
            | 2, _ => rfl
          have HSN : Hid (L1 ++ (stepsT k).take (q + 1) = (L1 ++ (stepsT k).take q) ++ [doD ((2 + q : Nat) : Int) (k : Int)]) := by show _ = _; rw [stepsT_snoc k (by omega), List.append_assoc]
          obtain ⟨kd, HKD⟩ : ∃ kd : Int, Hid (((2 + q : Nat) : Int) = kd) := ⟨_, rfl⟩
          have hfit : DdFit (doD kd (k : Int)) := by rw [← HKD.out]; exact doD_fit (by omega)
          rw [HKD.out] at hcq HSN
          have hDo := topDo_any kd (k : Int) wp
          clear hIX xX
          go_wp2_with fail
          refine hDo.mono ?_
          rintro e w3 ⟨rfl, hb3⟩
          have hI3 := hI.call hb3 hB
          have hx3 := box_kept hx hb3
          obtain ⟨va', vc', vs, e1, hrow, hD, hwh, hkp, hbl, hsz⟩ := hI3
          have hln : (L1 ++ (stepsT k).take q).length = vn := by cases e1; rfl
          rw [hln] at e1 hrow
          cases e1
          have HM := fun w6 g cap o h1 h2 h3 => YearI.more (w6 := w6) (g := g) (cap := cap) (o := o) (x := doD kd (k : Int)) (pa := none) (pc := 0) hln hrow hD hwh hkp hbl hsz hB (some_nil _) (away_nil _ _ _ _) hfit h1 h2 h3
          have HMH : Hid _ := HM
          have hXn : ∀ n' vs', w3.ownsRow B 27 7 (.slice va vn vc) n' vs' → some XB ≠ (Value.slice va vn vc).ownBlock := fun n' vs' h => own7_apart h (by decide) hx3
          have HXN : Hid (some XB ≠ (Value.slice va vn vc).ownBlock) := hXn _ _ hrow
          have hnew := lit_dd w3 (doD kd (k : Int)) none 0 27
          have hone := ddV_one (doD kd (k : Int)) none 0
          have hsA : B ≤ (w3.alloc (.cells #[.int .i64 kd, .int .i64 (k : Int), .int .i64 0, .slice none 0 0, .int .i64 0, .int .i64 0, .int .u8 0] 27)).heap.size := by simp; omega
          have hrowA := hrow.alloc (.cells #[.int .i64 kd, .int .i64 (k : Int), .int .i64 0, .slice none 0 0, .int .i64 0, .int .i64 0, .int .u8 0] 27)
          have HNW : Hid _ := hnew
          have HON : Hid _ := hone
          clear HM hnew hone hrow hD hwh hkp hbl hI hXn hDo
          go_wp2_with (at_builtin; refine wpList_append_lies _ rfl (.tmp 36) (.tmp 40) 24 rfl B 27 i0 _ 7 72 Tryd.underlying24 hi0 hz0 hz1 hz2 rfl (by decide) _ _ _ rfl hrowA ⟨w3.heap.size, 0, none⟩ 1 1 _ rfl rfl HNW.out HON.out (by decide) (by unfold maxLen; omega) (by omega) hsA _ rfl ?_; intro g cap w6 ho6 hg6 ha6 hlt6)
          have HI6 : Hid _ := HMH.out w6 g cap _ hg6 ho6 ha6
          have hx6 : w6.heap[XB]? = some (.cells #[.int .i64 2, .int .i64 3, .int .i64 4] 3 (0, 0)) := (hg6.block XB (by have := lt_heap hx3; simp; omega) HXN.out).trans (box_old _ _ hx3)
          clear HMH HNW HON hrowA ho6 hg6 ha6 hcq HXN
          go_roundw
          case rel => exact ⟨q + 1, _, vn + 1, cap, by omega, by go_num, rfl, by show _ = _; have := HVN2.out; omega, by rw [HSN.out]; exact HI6.out, hx6⟩
          case measure => simp [intOf]; omega
        · obtain rfl : q = far := by omega
          have hnl : ¬ (q : Int) < q := by omega
          have HI : Hid _ := hI
          clear hI hIX xX hx
          go_wp2_with fail
          go_ret
          exact ⟨_, rfl, by rw [HRES.out]; exact HI.out⟩

/-- Entries that were there ahead of the row. -/
theorem stay_low {w0 w : World} {u : Value} {ea : Option Addr} {n c : Nat} {es : List (List Int)} (hL : Lists w0 ea n c es) (hb : Below w0.heap.size w0 w) : Stay w0.heap.size u w ea n c es := fun w' hb' _ _ => by
  have hb2 := hb.trans hb'
  refine ⟨hL.below hb2, fun j b off pa m pc hj he hc => ?_⟩
  obtain ⟨b', off', pa', pc', e', hc', hP⟩ := hL.get j hj
  rw [he] at e'
  cases e'
  rw [hb2.cell (p := ⟨b, off + j, none⟩) (World.block_lt_of_cell? _ _ hc'), hc'] at hc
  cases hc
  rcases hP.at' with ⟨e, -⟩ | ⟨g, o, cp, e, hg, -⟩
  · exact .inl e
  · refine .inr (fun q hq => ?_)
    rw [e] at hq
    cases hq
    exact ⟨Nat.lt_of_lt_of_le hg hb2.size, .inl hg⟩
/-- One byte, as one entry, written out. -/
theorem lit_lists {w : World} {p q : Nat} {x : Int} (hx : 0 ≤ x ∧ x < 256) (h1 : w.heap[p]? = some (.cells #[.int .u8 x] 5 (0, 0))) (h2 : w.heap[q]? = some (.cells #[.slice (some ⟨p, 0, none⟩) 1 1] 25 (0, 0))) : Lists w (some ⟨q, 0, none⟩) 1 1 [[x]] := by
  have hb : Bytes [x] := bytes_cons hx.1 hx.2 nil_bytes
  refine ⟨rfl, .inr ⟨q, 0, 1, rfl, lt_heap h2, fun j hj => ?_⟩, Nat.le_refl _, by unfold maxLen; omega, (fun e => by cases e), fun j => ?_, fun j => ?_⟩
  · obtain rfl : j = 0 := by simpa using hj
    refine ⟨_, 1, 1, cell_of_row w q 0 _ _ _ h2, .inr ⟨p, 0, 1, rfl, lt_heap h1, fun i hi => ?_⟩⟩
    obtain rfl : i = 0 := by simpa using hi
    exact cell_of_row w p 0 _ _ _ h1
  · match j with
    | 0 => exact hb
    | j + 1 => exact nil_bytes
  · match j with
    | 0 => show 1 ≤ maxLen; unfold maxLen; omega
    | j + 1 => exact Nat.zero_le _
theorem lit_lists2 {w : World} {p p' q : Nat} {x y : Int} (hx : 0 ≤ x ∧ x < 256) (hy : 0 ≤ y ∧ y < 256) (h1 : w.heap[p]? = some (.cells #[.int .u8 x] 5 (0, 0))) (h1' : w.heap[p']? = some (.cells #[.int .u8 y] 5 (0, 0))) (h2 : w.heap[q]? = some (.cells #[.slice (some ⟨p, 0, none⟩) 1 1, .slice (some ⟨p', 0, none⟩) 1 1] 25 (0, 0))) : Lists w (some ⟨q, 0, none⟩) 2 2 [[x], [y]] := by
  have hb : Bytes [x] := bytes_cons hx.1 hx.2 nil_bytes
  have hb' : Bytes [y] := bytes_cons hy.1 hy.2 nil_bytes
  refine ⟨rfl, .inr ⟨q, 0, 2, rfl, lt_heap h2, fun j hj => ?_⟩, Nat.le_refl _, by unfold maxLen; omega, (fun e => by cases e), fun j => ?_, fun j => ?_⟩
  · have hj2 : j < 2 := hj
    match j, hj2 with
    | 0, _ =>
      refine ⟨_, 1, 1, cell_of_row w q 0 _ _ _ h2, .inr ⟨p, 0, 1, rfl, lt_heap h1, fun i hi => ?_⟩⟩
      obtain rfl : i = 0 := by simpa using hi
      exact cell_of_row w p 0 _ _ _ h1
    | 1, _ =>
      refine ⟨_, 1, 1, cell_of_row w q 1 _ _ _ h2, .inr ⟨p', 0, 1, rfl, lt_heap h1', fun i hi => ?_⟩⟩
      obtain rfl : i = 0 := by simpa using hi
      exact cell_of_row w p' 0 _ _ _ h1'
  · match j with
    | 0 => exact hb
    | 1 => exact hb'
    | j + 2 => exact nil_bytes
  · match j with
    | 0 => show 1 ≤ maxLen; unfold maxLen; omega
    | 1 => show 1 ≤ maxLen; unfold maxLen; omega
    | j + 2 => exact Nat.zero_le _
theorem stay_lit {B p q : Nat} {w : World} {u : Value} {x : Int} (hx : 0 ≤ x ∧ x < 256) (h1 : w.heap[p]? = some (.cells #[.int .u8 x] 5 (0, 0))) (h2 : w.heap[q]? = some (.cells #[.slice (some ⟨p, 0, none⟩) 1 1] 25 (0, 0))) (hp : u.ownBlock ≠ some p) (hq : u.ownBlock ≠ some q) : Stay B u w (some ⟨q, 0, none⟩) 1 1 [[x]] := fun w' _ _ hk => by
  have g1 := (hk p (lt_heap h1) hp).trans h1
  have g2 := (hk q (lt_heap h2) hq).trans h2
  refine ⟨lit_lists hx g1 g2, fun j b off pa m pc hj he hc => ?_⟩
  obtain rfl : j = 0 := by omega
  cases he
  rw [cell_of_row w' q (0 + 0) _ _ _ g2] at hc
  cases hc
  exact .inr (fun g hg => by cases hg; exact ⟨lt_heap g1, .inr ⟨_, _, g1⟩⟩)

end Go.Proofs.YtkjlchfmplcobahDoor

/- The walk of the law FleetPast, over the faces of package fleet. -/
namespace Go.Proofs.YtkjlchfmplcobahDoor
open Go.RowKit

theorem play_ok {ws : List Win} {l : List Dd} (h : (playF ws l).1 = 0) : playL ws l = runL (startL ws) l ∧ (wrongWins ws).1 = 0 ∧ l.length ≤ 120 := by
  refine ⟨by unfold playL; rw [if_neg (fun g => g h)], ?_, ?_⟩
  · unfold playF at h
    by_cases hw : (wrongWins ws).1 ≠ 0
    · rw [if_pos hw] at h; exact absurd h hw
    · simpa using hw
  · unfold playF at h
    by_cases hw : (wrongWins ws).1 ≠ 0
    · rw [if_pos hw] at h; exact absurd h hw
    · rw [if_neg hw] at h
      by_cases hl : 120 < l.length
      · rw [if_pos hl] at h; exact absurd h (by decide)
      · omega
theorem play_right {ws : List Win} {l : List Dd} (hw : (wrongWins ws).1 = 0) (hl : l.length ≤ 120) : playF ws l = (0, 0) := by
  unfold playF; rw [if_neg (fun g => g hw), if_neg (by omega)]
end Go.Proofs.YtkjlchfmplcobahDoor

/- The walk of yeartop.alive, over package fleet's faces. -/
namespace Go.Proofs.YtkjlchfmplcobahDoor
open Go.RowKit

theorem winsL_get {n k : Nat} (h : k < n) : (winsL n).getD k win0 = ⟨10 * (k : Int), 10 * (k : Int) + 10⟩ := by
  unfold winsL; rw [List.getD_eq_getElem?_getD, List.getElem?_map, List.getElem?_range h]; rfl
theorem winsL_right {n : Nat} (h : n ≤ 8) : wrongWins (winsL n) = (0, 0) := wrongWins_none (by rw [winsL_length]; omega) (fun j hj => by
  rw [winsL_length] at hj
  unfold wrongWin
  rw [winsL_get hj, if_neg (by dsimp only; omega)]
  by_cases h0 : 0 < j
  · rw [winsL_get (show j - 1 < n by omega), if_neg (by dsimp only; omega)]
  · rw [if_neg (fun g => h0 g.1)])
def topD : List Dd := yearL 0 [[1], [2]] 3 ++ yearL 1 [[3]] 1
theorem topD_right : playF (winsL 2) topD = (0, 0) := play_right (by rw [winsL_right (by omega)]) (by decide)
theorem unlike12 : Unlike [[1], [2]] := ⟨by decide, by decide, by decide⟩
theorem unlike3 : Unlike [[3]] := ⟨by decide, by decide, by decide⟩
theorem topD_run : (playL (winsL 2) topD).2.length = 7 ∧ (playL (winsL 2) topD).1.book.length = 2 ∧ (playL (winsL 2) topD).1.shards.length = 2 ∧ ((playL (winsL 2) topD).1.shards.getD 0 shd0).state = 4 ∧ ((playL (winsL 2) topD).2.getD 6 ans0).size = 1 := by
  have hp := (play_ok (ws := winsL 2) (l := topD) (by rw [topD_right])).1
  have y1 := run_year (f := startL (winsL 2)) (k := 0) unlike12 (by rfl) rfl rfl (far := 3) (by omega) (by omega)
  obtain ⟨F1, hF1⟩ : ∃ F1, F1 = (runL (startL (winsL 2)) (yearL 0 [[1], [2]] 3)).1 := ⟨_, rfl⟩
  have hF1' := hF1
  rw [y1] at hF1'
  have y2 := run_year (f := F1) (k := 1) unlike3 (by rw [hF1']; rfl) (by rw [hF1']; rfl) (by rw [hF1']; rfl) (far := 1) (by omega) (by omega)
  rw [hp]
  unfold topD
  rw [runL_append, ← hF1, y1, y2, hF1']
  exact ⟨rfl, rfl, rfl, rfl, rfl⟩

set_option maxRecDepth 100000 in
set_option maxHeartbeats 2000000 in
theorem topAlive_any (hPl : PlayC) (w : World) (hR : Ready w) :
    Calls Tryd.prog 6 #[] w fun e w' => e = .returned (.bool true) ∧ Below w.heap.size w w' := by
  go_enter Tryd.func6, Tryd.ntmps6
  go_wp2_with fail
  refine (windows_any 2 (by omega) w).mono ?_
  rintro e w1 ⟨wa, wc, rfl, hW1, b1⟩
  have dL : Below w1.heap.size w1 (((w1.alloc (.cells #[.int .u8 1] 5)).alloc (.cells #[.int .u8 2] 5)).alloc (.cells #[.slice (some ⟨w1.heap.size, 0, none⟩) 1 1, .slice (some ⟨w1.heap.size + 1, 0, none⟩) 1 1] 25)) := (((Below.refl _ _).alloc (Nat.le_refl _) _).alloc (by simp) _).alloc (by simp; omega) _
  have p1 := box_old _ (.cells #[.slice (some ⟨w1.heap.size, 0, none⟩) 1 1, .slice (some ⟨w1.heap.size + 1, 0, none⟩) 1 1] 25) (box_one w1 #[.int .u8 1] 5 (.cells #[.int .u8 2] 5))
  have p2 := box_old _ (.cells #[.slice (some ⟨w1.heap.size, 0, none⟩) 1 1, .slice (some ⟨w1.heap.size + 1, 0, none⟩) 1 1] 25) (box_last w1 (.cells #[.int .u8 1] 5) #[.int .u8 2] 5)
  have p3 := box_new ((w1.alloc (.cells #[.int .u8 1] 5)).alloc (.cells #[.int .u8 2] 5)) #[.slice (some ⟨w1.heap.size, 0, none⟩) 1 1, .slice (some ⟨w1.heap.size + 1, 0, none⟩) 1 1] 25
  have hz : ((w1.alloc (.cells #[.int .u8 1] 5)).alloc (.cells #[.int .u8 2] 5)).heap.size = w1.heap.size + 2 := by simp
  rw [hz] at p3
  have hLs := lit_lists2 (by omega) (by omega) p1 p2 p3
  have b2 := b1.trans (dL.mono b1.size)
  have hW2 := hW1.below dL
  have hY := year_any [] 0 3 [[1], [2]] none _ 0 0 2 2 _ [] _ rfl (World.ownsRow_nil _ _ _ _) (doB_nil _ _) (Nat.le_refl _) (stay_low hLs (Below.refl _ _)) (by omega) (by omega) (by omega)
  clear hW1 dL p1 p2 p3 hz hLs b1
  go_wp2_with fail
  generalize ((w1.alloc (.cells #[.int .u8 1] 5)).alloc (.cells #[.int .u8 2] 5)).alloc (.cells #[.slice (some ⟨w1.heap.size, 0, none⟩) 1 1, .slice (some ⟨w1.heap.size + 1, 0, none⟩) 1 1] 25) = w2 at *
  refine hY.mono ?_
  rintro e w3 ⟨v3, rfl, va, vc, vs, rfl, hrow, hD, hwh, hkp, hb3, hs3⟩
  have hl1 : ([] ++ (subsL (10 * ((0 : Nat) : Int) + 5) [[1], [2]] ++ (stepsT 0).take 3) : List Dd).length = 5 := rfl
  rw [hl1] at hrow hwh
  clear hY
  have e1 : ([] ++ (subsL (10 * ((0 : Nat) : Int) + 5) [[1], [2]] ++ (stepsT 0).take 3) : List Dd) = yearL 0 [[1], [2]] 3 := rfl
  rw [e1] at hD
  have b3 := b2.trans (hb3.mono b2.size)
  have dM : Below w3.heap.size w3 ((w3.alloc (.cells #[.int .u8 3] 5)).alloc (.cells #[.slice (some ⟨w3.heap.size, 0, none⟩) 1 1] 25)) := ((Below.refl _ _).alloc (Nat.le_refl _) _).alloc (by simp) _
  have q1 := box_one w3 #[.int .u8 3] 5 (.cells #[.slice (some ⟨w3.heap.size, 0, none⟩) 1 1] 25)
  have q2 := box_last w3 (.cells #[.int .u8 3] 5) #[.slice (some ⟨w3.heap.size, 0, none⟩) 1 1] 25
  have hrowM := own7_below hrow dM (Nat.le_refl _)
  have hDM := hD.below dM
  have hlt : ∀ g, (Value.slice va 5 vc).ownBlock = some g → g < w3.heap.size := fun g hg => (hrow.lt g hg).2
  have hSt : Stay w2.heap.size (.slice va 5 vc) ((w3.alloc (.cells #[.int .u8 3] 5)).alloc (.cells #[.slice (some ⟨w3.heap.size, 0, none⟩) 1 1] 25)) (some ⟨w3.heap.size + 1, 0, none⟩) 1 1 [[3]] := stay_lit (by omega) q1 q2 (fun h => by have := hlt _ h; omega) (fun h => by have := hlt _ h; omega)
  have hY := year_any (yearL 0 [[1], [2]] 3) 1 1 [[3]] va _ 5 vc 1 1 w2.heap.size vs _ rfl hrowM hDM (Nat.le_trans hs3 dM.size) hSt (by omega) (by omega) (by omega)
  have c4 : Below w2.heap.size w2 ((w3.alloc (.cells #[.int .u8 3] 5)).alloc (.cells #[.slice (some ⟨w3.heap.size, 0, none⟩) 1 1] 25)) := hb3.trans (dM.mono hs3)
  have hs4 : w2.heap.size ≤ _ := Nat.le_trans hs3 dM.size
  clear hrow hD hwh hkp dM q1 q2 hrowM hDM hlt hSt hl1 e1
  go_wp2_with fail
  generalize (w3.alloc (.cells #[.int .u8 3] 5)).alloc (.cells #[.slice (some ⟨w3.heap.size, 0, none⟩) 1 1] 25) = w4 at *
  refine hY.mono ?_
  rintro e w5 ⟨v5, rfl, va5, vc5, vs5, rfl, hrow5, hD5, -, -, hb5, hs5⟩
  have hDos := hD5.dos hrow5
  have hl5 : (yearL 0 [[1], [2]] 3 ++ (subsL (10 * ((1 : Nat) : Int) + 5) [[3]] ++ (stepsT 1).take 1)).length = 7 := rfl
  have e5 : yearL 0 [[1], [2]] 3 ++ (subsL (10 * ((1 : Nat) : Int) + 5) [[3]] ++ (stepsT 1).take 1) = topD := rfl
  rw [hl5, e5] at hDos
  rw [hl5]
  have c5 := c4.trans hb5
  have b5 := b2.trans (c5.mono b2.size)
  have cP := hPl (winsL 2) topD _ _ w5 (hR.below b5) (hW2.below c5) hDos
  obtain ⟨f1, f2, f3, f4, f5⟩ := topD_run
  rw [topD_right] at cP
  dsimp only [faultV] at cP
  clear hY hrow5 hD5 hDos hl5 e5 hb5 hs5 c4 hW2 hb3 hs3 hs4 hPl b3
  generalize playL (winsL 2) topD = PP at *
  obtain ⟨F, A⟩ := PP
  dsimp only at f1 f2 f3 f4 f5 cP
  go_wp2_with fail
  refine cP.mono ?_
  rintro e w6 ⟨fv, av, rfl, hF, hA, hb6⟩
  have b6 := b5.trans (hb6.mono b5.size)
  obtain ⟨sa, sc, ka, kc, rfl, hSh, hBk⟩ := hF
  obtain ⟨aa, ac, rfl, ha1, ha2, ha3, hAc⟩ := hA
  obtain ⟨ab, ao, rfl, hab, hcs⟩ := hAc.resolve_left (by omega)
  obtain ⟨-, -, -, a3, -⟩ := hcs 6 (by omega)
  obtain ⟨sa', sc', es, -, -, -, hSc⟩ := hSh
  cases es
  obtain ⟨sb, so, rfl, hsb, hsc⟩ := hSc.resolve_left (by omega)
  obtain ⟨-, -, s2, -, -, -, -⟩ := hsc 0 (by omega)
  rw [f5] at a3
  rw [f4] at s2
  rw [Nat.zero_mul, Nat.add_zero] at s2
  rw [f1, f2, f3]
  have d7 : Below w6.heap.size w6 ((w6.alloc (.cells #[.slice (some ⟨sb, so, none⟩) 2 sc, .slice ka 2 kc] 32)).alloc (.cells #[.int .i64 0, .int .i64 0] 36)) := ((Below.refl _ _).alloc (Nat.le_refl _) _).alloc (by simp) _
  obtain ⟨x0, x1, -, -⟩ := box_two (box_one w6 #[.slice (some ⟨sb, so, none⟩) 2 sc, .slice ka 2 kc] 32 (.cells #[.int .i64 0, .int .i64 0] 36))
  obtain ⟨y0, y1, -, -⟩ := box_two (box_last w6 (.cells #[.slice (some ⟨sb, so, none⟩) 2 sc, .slice ka 2 kc] 32) #[.int .i64 0, .int .i64 0] 36)
  have a7 := (d7.cell (p := ⟨ab, ao + 6 * 5 + 3, none⟩) hab).trans a3
  have s7 := (d7.cell (p := ⟨sb, so + 2, none⟩) hsb).trans s2
  have b7 := b6.trans (d7.mono b6.size)
  clear cP hAc hcs hSc hsc hBk a3 s2 d7 f1 f2 f3 f4 f5
  go_wp2_with fail
  go_ret
  exact ⟨rfl, b7⟩

end Go.Proofs.YtkjlchfmplcobahDoor

/- Segments as rows of a call's own; parts of lists. -/
namespace Go.Proofs.YtkjlchfmplcobahDoor
open Go.RowKit

theorem Tryd.info95b : (Tryd.prog.info? 95).map (fun i => (i.zero, i.size, i.bytes)) = some (some (.agg #[.int .i64 0, .int .i64 0, .slice none 0 0]), 3, 40) := by kernel_rfl
theorem Lists.part {w : World} {b off n c i m : Nat} {L : List (List Int)} (h : Lists w (some ⟨b, off, none⟩) n c L) (hi : i + m ≤ n) (hm : 1 ≤ m) : Lists w (some ⟨b, off + i, none⟩) m (c - i) ((L.drop i).take m) := by
  have hl := h.len
  have hr := h.room
  have hc := h.cap
  have hd := h.at'.drop (k := i) hl (by omega) (by omega) (c - i)
  refine ⟨by rw [List.length_take, List.length_drop]; omega, hd.take (by rw [List.length_drop]; omega) (by omega) (by omega) _, by omega, by omega, fun e => (by cases e), ?_, ?_⟩
  · refine take_bytes (fun j => ?_) m
    rw [List.getD_eq_getElem?_getD, List.getElem?_drop, ← List.getD_eq_getElem?_getD]; exact h.bytes _
  · refine take_short (fun j => ?_) m
    rw [List.getD_eq_getElem?_getD, List.getElem?_drop, ← List.getD_eq_getElem?_getD]; exact h.short _
theorem own3_below {w w' : World} {base : Nat} {e : TypeId} {v : Value} {n N : Nat} {xs : List Value} (h : w.ownsRow base e 3 v n xs) (hb : Below N w w') (hN : w.heap.size ≤ N) : w'.ownsRow base e 3 v n xs :=
  h.kept (w' := w') (row := none) ⟨hb.os, hb.tape, hb.output, hb.size, fun k hk _ => hb.block k (Nat.lt_of_lt_of_le hk hN)⟩ (by cases v.ownBlock <;> simp)
theorem own_ne3 {w : World} {base b2 : Nat} {e1 e2 : TypeId} {v1 v2 : Value} {n1 n2 : Nat} {xs1 xs2 : List Value} (h1 : w.ownsRow base e1 1 v1 n1 xs1) (h2 : w.ownsRow b2 e2 3 v2 n2 xs2) (hne : e1 ≠ e2) : Sep v1 v2 := fun g hg1 hg2 => by
  rcases h1.2 with ⟨rfl, -⟩ | ⟨g1, c1, cur1, rfl, -, hh1, -⟩
  · cases hg1
  rcases h2.2 with ⟨rfl, -⟩ | ⟨g2, c2, cur2, rfl, -, hh2, -⟩
  · cases hg2
  cases hg1
  cases hg2
  rw [hh1] at hh2
  cases hh2
  exact hne rfl
/-- The values of segments, each with bytes of the call's own. -/
def SegEls (w : World) (base : Nat) (vs : List Value) (l : List Seg) : Prop :=
  vs.length = l.length * 3 ∧ ∀ j, j < l.length → vs[j * 3]? = some (.int .i64 (l.getD j seg0).first) ∧ vs[j * 3 + 1]? = some (.int .i64 (l.getD j seg0).count) ∧
    ∃ y, vs[j * 3 + 2]? = some y ∧ w.ownsRow base 5 1 y (l.getD j seg0).packed.length ((l.getD j seg0).packed.map (Value.int .u8))
theorem SegEls.kept {w w' : World} {base b2 : Nat} {vs : List Value} {l : List Seg} {v : Value} {n : Nat} {xs : List Value} (h : SegEls w base vs l) (hr : w.ownsRow b2 95 3 v n xs) (hg : w.grownBy w' v.ownBlock) : SegEls w' base vs l :=
  ⟨h.1, fun j hj => by
    obtain ⟨h0, h1, y, h2, h3⟩ := h.2 j hj
    exact ⟨h0, h1, y, h2, h3.kept hg (own_ne3 h3 hr (by decide)).or⟩⟩
theorem SegEls.alloc {w : World} {base : Nat} {vs : List Value} {l : List Seg} (h : SegEls w base vs l) (o : Obj) : SegEls (w.alloc o) base vs l :=
  ⟨h.1, fun j hj => by
    obtain ⟨h0, h1, y, h2, h3⟩ := h.2 j hj
    exact ⟨h0, h1, y, h2, h3.alloc o⟩⟩
theorem SegEls.below {w w' : World} {base N : Nat} {vs : List Value} {l : List Seg} (h : SegEls w base vs l) (hb : Below N w w') (hN : w.heap.size ≤ N) : SegEls w' base vs l :=
  ⟨h.1, fun j hj => by
    obtain ⟨h0, h1, y, h2, h3⟩ := h.2 j hj
    exact ⟨h0, h1, y, h2, own_below h3 hb hN⟩⟩
theorem SegEls.snoc {w : World} {base : Nat} {vs : List Value} {l : List Seg} {s : Seg} {y : Value} (h : SegEls w base vs l) (hy : w.ownsRow base 5 1 y s.packed.length (s.packed.map (Value.int .u8))) : SegEls w base (vs ++ [.int .i64 s.first, .int .i64 s.count, y]) (l ++ [s]) := by
  obtain ⟨hl, h⟩ := h
  refine ⟨by simp; omega, fun j hj => ?_⟩
  by_cases e : j < l.length
  · obtain ⟨h0, h1, z, h2, h3⟩ := h j e
    have eg : (l ++ [s]).getD j seg0 = l.getD j seg0 := by rw [List.getD_eq_getElem?_getD, List.getElem?_append_left e, ← List.getD_eq_getElem?_getD]
    rw [eg, List.getElem?_append_left (by omega), List.getElem?_append_left (by omega), List.getElem?_append_left (by omega)]
    exact ⟨h0, h1, z, h2, h3⟩
  · obtain rfl : j = l.length := by simp at hj; omega
    have eg : (l ++ [s]).getD l.length seg0 = s := by rw [List.getD_eq_getElem?_getD, List.getElem?_append_right (Nat.le_refl _), Nat.sub_self]; rfl
    rw [eg, List.getElem?_append_right (by omega), List.getElem?_append_right (by omega), List.getElem?_append_right (by omega), hl, Nat.sub_self, show l.length * 3 + 1 - l.length * 3 = 1 by omega, show l.length * 3 + 2 - l.length * 3 = 2 by omega]
    exact ⟨rfl, rfl, y, rfl, hy⟩
theorem segEls_nil (w : World) (base : Nat) : SegEls w base [] [] := ⟨rfl, fun _ hj => absurd hj (Nat.not_lt_zero _)⟩
/-- Segments, all of them the call's own. -/
def OwnSegs (w : World) (base : Nat) (v : Value) (l : List Seg) : Prop := ∃ vs, w.ownsRow base 95 3 v l.length vs ∧ SegEls w base vs l
theorem OwnSegs.below {w w' : World} {base N : Nat} {v : Value} {l : List Seg} (h : OwnSegs w base v l) (hb : Below N w w') (hN : w.heap.size ≤ N) : OwnSegs w' base v l := by
  obtain ⟨vs, h1, h2⟩ := h
  exact ⟨vs, own3_below h1 hb hN, h2.below hb hN⟩
theorem OwnSegs.set {w : World} {base k o : Nat} {v : Value} {l : List Seg} (h : OwnSegs w base v l) (hk : k < base) (u : Value) : OwnSegs (w.setCell ⟨k, o, none⟩ u) base v l := by
  obtain ⟨vs, h1, h2, h3⟩ := h
  refine ⟨vs, ownsRow_setCell_below h1 (a := ⟨k, o, none⟩) hk u, h2, fun j hj => ?_⟩
  obtain ⟨g0, g1, y, g2, g3⟩ := h3 j hj
  exact ⟨g0, g1, y, g2, ownsRow_setCell_below g3 (a := ⟨k, o, none⟩) hk u⟩
theorem OwnSegs.segs {w : World} {base : Nat} {v : Value} {l : List Seg} (h : OwnSegs w base v l) (hby : SegsBytes l) : SegsAt w v l := by
  obtain ⟨vs, h1, -, h2⟩ := h
  rcases h1.2 with ⟨hv, hn⟩ | ⟨g, cap, cur, rfl, -, hg, h3, h4, -⟩
  · exact ⟨none, 0, by rw [hv, hn], by omega, Nat.zero_le _, fun _ => rfl, .inl hn⟩
  · refine ⟨_, cap, rfl, h3, h4, (fun e => by cases e), .inr ⟨g, 0, rfl, lt_heap hg, fun j hj => ?_⟩⟩
    obtain ⟨g0, g1, y, g2, g3⟩ := h2 j hj
    rw [Nat.zero_add]
    refine ⟨(h1.cellAt (j * 3) (by omega)).trans g0, (h1.cellAt (j * 3 + 1) (by omega)).trans g1, ?_⟩
    obtain ⟨pa, pc, rfl, q1, q2⟩ := own_cap g3
    exact ⟨pa, pc, (h1.cellAt (j * 3 + 2) (by omega)).trans g2, ⟨bytesAt_own g3, hby j, by omega⟩, q1, q2⟩
/-- Each segment's bytes lie in a later block than those of the one ahead. -/
def RiseV (vs : List Value) (m : Nat) : Prop := ∀ i j, i < j → j < m → ∀ y z g h, vs[i * 3 + 2]? = some y → vs[j * 3 + 2]? = some z → y.ownBlock = some g → z.ownBlock = some h → g < h
theorem riseV_nil : RiseV [] 0 := fun _ _ _ h => absurd h (Nat.not_lt_zero _)
theorem RiseV.snoc {w : World} {base m : Nat} {vs : List Value} {l : List Seg} {a b y : Value} (h : RiseV vs m) (he : SegEls w base vs l) (hm : l.length = m) (hy : ∀ g, y.ownBlock = some g → w.heap.size ≤ g) : RiseV (vs ++ [a, b, y]) (m + 1) := fun i j hij hj u z g q hu hz hg hq => by
  have hl : vs.length = m * 3 := by rw [← hm]; exact he.1
  rw [List.getElem?_append_left (by omega)] at hu
  by_cases e : j < m
  · rw [List.getElem?_append_left (by omega)] at hz
    exact h i j hij e u z g q hu hz hg hq
  · obtain rfl : j = m := by omega
    rw [List.getElem?_append_right (by omega), hl, show j * 3 + 2 - j * 3 = 2 by omega] at hz
    cases hz
    obtain ⟨-, -, x, h1, h2⟩ := he.2 i (by omega)
    rw [hu] at h1
    cases h1
    have := (h2.lt g hg).2
    have := hy q hq
    omega
theorem lit_seg (w : World) (x y : Int) (pv : Value) (t : TypeId) : ∀ (j : Nat) (u : Value), [Value.int .i64 x, .int .i64 y, pv][j]? = some u → (w.alloc (.cells #[.int .i64 x, .int .i64 y, pv] t)).cell? ((⟨w.heap.size, 0, none⟩ : Addr).add j) = some u := fun j u hj => by
  have hadd : (⟨w.heap.size, 0, none⟩ : Addr).add j = ⟨w.heap.size, 0 + j, none⟩ := Addr.add_mid _ _ _
  rw [hadd, Nat.zero_add]
  match j, hj with
  | 0, hj => rw [new_cell w t _ 0 (by simp)]; simpa using hj
  | 1, hj => rw [new_cell w t _ 1 (by simp)]; simpa using hj
  | 2, hj => rw [new_cell w t _ 2 (by simp)]; simpa using hj
  | j + 3, hj => simp at hj
theorem segK_bytes {L : List (List Int)} (hb : ∀ j, Bytes (L.getD j [])) (h : ∀ e ∈ L, e.length ≤ 200) (k : Nat) : Bytes (segK L k).packed := by
  refine pack_bytes ?_ (lay_part h k)
  refine bytes_of_mem (fun x hx => ?_)
  unfold layL at hx
  obtain ⟨e, he, hx⟩ := List.mem_flatMap.1 hx
  have h200 := short_part h k e he
  rcases List.mem_cons.1 hx with rfl | hx
  · omega
  · obtain ⟨j, hj, rfl⟩ := List.mem_iff_getElem.1 (List.mem_of_mem_drop (List.mem_of_mem_take he))
    have := hb j
    rw [List.getD_eq_getElem?_getD, List.getElem?_eq_getElem hj] at this
    exact bytes_forall this x hx
theorem segsL_bytes {L : List (List Int)} (hb : ∀ j, Bytes (L.getD j [])) (h : ∀ e ∈ L, e.length ≤ 200) : SegsBytes (segsL L) := fun j => by
  by_cases hj : j < (L.length + 7) / 8
  · unfold segsL; rw [segsN_get _ _ _ hj]; exact segK_bytes hb h j
  · rw [List.getD_eq_getElem?_getD, List.getElem?_eq_none (by unfold segsL; rw [segsN_length]; omega)]; exact nil_bytes
/-- The text of a part. -/
theorem lay_bytes {l : List (List Int)} (hb : ∀ j, Bytes (l.getD j [])) (h : ∀ j, (l.getD j []).length ≤ 200) : Bytes (layL l) := by
  refine bytes_of_mem (fun x hx => ?_)
  unfold layL at hx
  obtain ⟨e, he, hx⟩ := List.mem_flatMap.1 hx
  obtain ⟨j, hj, rfl⟩ := List.mem_iff_getElem.1 he
  have h1 := hb j
  have h2 := h j
  rw [List.getD_eq_getElem?_getD, List.getElem?_eq_getElem hj] at h1 h2
  rcases List.mem_cons.1 hx with rfl | hx
  · simp at h2; omega
  · exact bytes_forall h1 x hx

end Go.Proofs.YtkjlchfmplcobahDoor

/- The mathematics of the law TopSteps: one step behind the other. -/
namespace Go.Proofs.YtkjlchfmplcobahDoor

structure SInv (f : Flt) (s : Int) : Prop where
  len : f.shards.length = 1
  st : (f.shards.getD 0 shd0).state = s
  rng : 1 ≤ s ∧ s ≤ 4
  ent : (f.shards.getD 0 shd0).entries = [] ∨ (f.shards.getD 0 shd0).entries = [[]]
  man : s = 3 → (f.shards.getD 0 shd0).man = exportL (f.shards.getD 0 shd0).entries
def nextS (s k : Int) : Int := if 2 ≤ k ∧ k ≤ 4 ∧ k = s + 1 then s + 1 else s
theorem nextS_no {s k : Int} (h : ¬ (2 ≤ k ∧ k ≤ 4 ∧ k = s + 1)) : nextS s k = s := if_neg h
theorem nextS_yes {s k : Int} (h : 2 ≤ k ∧ k ≤ 4 ∧ k = s + 1) : nextS s k = s + 1 := if_pos h
theorem unlike_ent {es : List (List Int)} (h : es = [] ∨ es = [[]]) : Unlike es := by
  rcases h with rfl | rfl
  · exact ⟨by decide, by decide, by decide⟩
  · exact ⟨by decide, by decide, by decide⟩
theorem xorI_zero {x : Int} (h : 0 ≤ x) : xorI x 0 = x := by
  unfold xorI
  show ((x.toNat ^^^ (0 : Int).toNat : Nat) : Int) = x
  have : (0 : Int).toNat = 0 := rfl
  rw [this, Nat.xor_zero]
  omega
theorem spoil_none {s : Seg} (h : 0 ≤ s.packed.getD 0 0) : spoilSeg s 0 0 = s := by
  unfold spoilSeg
  have e0 : (0 : Int).toNat = 0 := rfl
  rw [e0, xorI_zero h]
  obtain ⟨a, b, p⟩ := s
  cases p with
  | nil => rfl
  | cons x xs => rfl
theorem step_other {f : Flt} {k : Int} (h1 : k ≠ 1) (h : k < 2 ∨ 5 < k) : stepL f (doD k 0) = (f, no 1) := by
  unfold stepL
  rw [if_neg (show ¬ (doD k 0).kind = 1 from h1), if_pos (show (doD k 0).kind < 2 ∨ 5 < (doD k 0).kind from h)]
theorem step_unfit {f : Flt} {k : Int} (hl : f.shards.length = 1) (h2 : 2 ≤ k) (h5 : k ≤ 5) (hs : (f.shards.getD 0 shd0).state ≠ wantL k) : stepL f (doD k 0) = (f, no 7) := by
  unfold stepL
  rw [if_neg (show ¬ (doD k 0).kind = 1 from show ¬ k = 1 by omega), if_neg (show ¬ ((doD k 0).kind < 2 ∨ 5 < (doD k 0).kind) from show ¬ (k < 2 ∨ 5 < k) by omega), if_neg (show ¬ ((doD k 0).n < 0 ∨ (f.shards.length : Int) ≤ (doD k 0).n) from show ¬ ((0 : Int) < 0 ∨ (f.shards.length : Int) ≤ 0) by omega), if_pos (show (f.shards.getD (doD k 0).n.toNat shd0).state ≠ wantL (doD k 0).kind from hs)]
theorem step_spoil {f : Flt} (hl : f.shards.length = 1) (hs : (f.shards.getD 0 shd0).state = 3) (hm : SegsBytes (f.shards.getD 0 shd0).man.segs) : (stepL f (doD 5 0)).1 = f := by
  unfold stepL
  rw [if_neg (show ¬ (doD 5 0).kind = 1 by decide), if_neg (show ¬ ((doD 5 0).kind < 2 ∨ 5 < (doD 5 0).kind) by decide), if_neg (show ¬ ((doD 5 0).n < 0 ∨ (f.shards.length : Int) ≤ (doD 5 0).n) from show ¬ ((0 : Int) < 0 ∨ (f.shards.length : Int) ≤ 0) by omega), if_neg (show ¬ (f.shards.getD (doD 5 0).n.toNat shd0).state ≠ wantL (doD 5 0).kind from fun h => h hs)]
  show (stepAt f 0 (doD 5 0)).1 = f
  unfold stepAt
  dsimp only
  rw [if_neg (show ¬ (doD 5 0).kind = 2 by decide), if_neg (show ¬ (doD 5 0).kind = 3 by decide), if_neg (show ¬ (doD 5 0).kind = 4 by decide)]
  by_cases g1 : (doD 5 0).segment < 0 ∨ ((f.shards.getD 0 shd0).man.segs.length : Int) ≤ (doD 5 0).segment
  · rw [if_pos g1]
  rw [if_neg g1]
  by_cases g2 : (doD 5 0).at' < 0 ∨ (((f.shards.getD 0 shd0).man.segs.getD (doD 5 0).segment.toNat seg0).packed.length : Int) ≤ (doD 5 0).at'
  · rw [if_pos g2]
  rw [if_neg g2]
  have hp : 0 < (f.shards.getD 0 shd0).man.segs.length := by
    have : ¬ ((0 : Int) < 0 ∨ ((f.shards.getD 0 shd0).man.segs.length : Int) ≤ 0) := g1
    omega
  show Flt.put f 0 _ = f
  have e1 : spoilSeg ((f.shards.getD 0 shd0).man.segs.getD 0 seg0) 0 0 = (f.shards.getD 0 shd0).man.segs.getD 0 seg0 := spoil_none ((hm 0) 0).1
  have e2 : (f.shards.getD 0 shd0).man.segs.set 0 (spoilSeg ((f.shards.getD 0 shd0).man.segs.getD 0 seg0) 0 0) = (f.shards.getD 0 shd0).man.segs := by
    rw [e1]
    generalize (f.shards.getD 0 shd0).man.segs = g at *
    cases g with
    | nil => rfl
    | cons x xs => rfl
  show Flt.put f 0 { (f.shards.getD 0 shd0) with man := { (f.shards.getD 0 shd0).man with segs := (f.shards.getD 0 shd0).man.segs.set 0 (spoilSeg ((f.shards.getD 0 shd0).man.segs.getD 0 seg0) 0 0) } } = f
  rw [e2]
  show Flt.put f 0 (f.shards.getD 0 shd0) = f
  unfold Flt.put
  rw [set_same (by omega)]
theorem step_sub {f : Flt} {s : Int} (h : SInv f s) : SInv (stepL f (doD 1 0)).1 s := by
  unfold stepL
  rw [if_pos (show (doD 1 0).kind = 1 from rfl)]
  unfold submitL
  rw [if_neg (show ¬ 200 < (doD 1 0).entry.length by decide)]
  cases hh : homeOf f.shards (doD 1 0).time with
  | none => exact h
  | some k =>
    dsimp only
    obtain ⟨hk, -, -⟩ := home_some hh
    obtain rfl : k = 0 := by have := h.len; omega
    by_cases h1 : (f.shards.getD 0 shd0).state ≠ 1
    · rw [if_pos h1]; exact h
    rw [if_neg h1]
    have hs1 : s = 1 := by rw [← h.st]; simpa using h1
    cases hp : placeOf (f.shards.getD 0 shd0).entries (doD 1 0).entry with
    | some i => exact h
    | none =>
      dsimp only
      rcases h.ent with he | he
      · rw [he, if_neg (show ¬ 100 ≤ ([] : List (List Int)).length by decide)]
        have e1 : (f.put 0 { (f.shards.getD 0 shd0) with entries := [] ++ [(doD 1 0).entry] }).shards.getD 0 shd0 = { (f.shards.getD 0 shd0) with entries := [[]] } := getD_set_same (by have := h.len; omega)
        refine ⟨by show (f.shards.set 0 _).length = 1; rw [List.length_set]; exact h.len, by rw [e1]; exact h.st, h.rng, .inr (by rw [e1]), fun h3 => absurd h3 (by omega)⟩
      · rw [he] at hp
        exact absurd hp (by decide)
theorem sinv_step {f : Flt} {s : Int} (h : SInv f s) (k : Int) : SInv (stepL f (doD k 0)).1 (nextS s k) ∧ (2 ≤ k → k ≤ 4 → ((stepL f (doD k 0)).2.err = 0 ↔ k = s + 1)) := by
  have hlen := h.len
  have hrng := h.rng
  by_cases k1 : k = 1
  · subst k1
    rw [nextS_no (by omega)]
    exact ⟨step_sub h, fun h2 => absurd h2 (by omega)⟩
  by_cases k2 : k < 2 ∨ 5 < k
  · rw [step_other k1 k2, nextS_no (by omega)]
    exact ⟨h, fun h2 h4 => absurd k2 (by omega)⟩
  by_cases hw : (f.shards.getD 0 shd0).state ≠ wantL k
  · have hks : ¬ (k ≤ 4 ∧ k = s + 1) := fun g => hw (by
      rw [h.st]
      have hc : k = 2 ∨ k = 3 ∨ k = 4 := by omega
      rcases hc with rfl | rfl | rfl
      · show s = 1; omega
      · show s = 2; omega
      · show s = 3; omega)
    rw [step_unfit hlen (by omega) (by omega) hw, nextS_no (fun g => hks ⟨g.2.1, g.2.2⟩)]
    refine ⟨h, fun _ h4 => ⟨fun g => absurd (show (7 : Int) = 0 from g) (by decide), fun g => absurd ⟨h4, g⟩ hks⟩⟩
  have hw' : s = wantL k := by rw [← h.st]; simpa using hw
  have hu := unlike_ent h.ent
  have hlt : 0 < f.shards.length := by omega
  have hc : k = 2 ∨ k = 3 ∨ k = 4 ∨ k = 5 := by omega
  rcases hc with rfl | rfl | rfl | rfl
  · obtain rfl : s = 1 := hw'
    rw [nextS_yes ⟨by omega, by omega, by omega⟩]
    have e := freeze_step (f := f) (k := 0) hlt h.st
    replace e : stepL f (doD 2 0) = _ := e
    rw [e]
    have e1 : (f.shards.set 0 (upd (f.shards.getD 0 shd0) 2 (f.shards.getD 0 shd0).entries (f.shards.getD 0 shd0).man)).getD 0 shd0 = upd (f.shards.getD 0 shd0) 2 (f.shards.getD 0 shd0).entries (f.shards.getD 0 shd0).man := getD_set_same hlt
    exact ⟨⟨by show (f.shards.set 0 _).length = 1; rw [List.length_set]; exact hlen, by dsimp only; rw [e1]; rfl, by omega, by dsimp only; rw [e1]; exact h.ent, fun g => absurd g (by omega)⟩, fun _ _ => ⟨fun _ => by omega, fun _ => rfl⟩⟩
  · obtain rfl : s = 2 := hw'
    rw [nextS_yes ⟨by omega, by omega, by omega⟩]
    have e := export_step (f := f) (k := 0) hlt h.st hu.wrong
    replace e : stepL f (doD 3 0) = _ := e
    rw [e]
    have e1 : (f.put 0 (upd (f.shards.getD 0 shd0) 3 (f.shards.getD 0 shd0).entries (exportL (f.shards.getD 0 shd0).entries))).shards.getD 0 shd0 = upd (f.shards.getD 0 shd0) 3 (f.shards.getD 0 shd0).entries (exportL (f.shards.getD 0 shd0).entries) := getD_set_same hlt
    exact ⟨⟨by show (f.shards.set 0 _).length = 1; rw [List.length_set]; exact hlen, by dsimp only; rw [e1]; rfl, by omega, by dsimp only; rw [e1]; exact h.ent, fun _ => by dsimp only; rw [e1]⟩, fun _ _ => ⟨fun _ => by omega, fun _ => rfl⟩⟩
  · obtain rfl : s = 3 := hw'
    rw [nextS_yes ⟨by omega, by omega, by omega⟩]
    have e := retire_do (f := f) (k := 0) hlt h.st
    replace e : stepL f (doD 4 0) = _ := e
    rw [e, h.man rfl, hu.verify, if_neg (fun g => g rfl)]
    have e1 : (f.put 0 (upd (f.shards.getD 0 shd0) 4 [] (exportL (f.shards.getD 0 shd0).entries))).shards.getD 0 shd0 = upd (f.shards.getD 0 shd0) 4 [] (exportL (f.shards.getD 0 shd0).entries) := getD_set_same hlt
    exact ⟨⟨by show (f.shards.set 0 _).length = 1; rw [List.length_set]; exact hlen, by dsimp only; rw [e1]; rfl, by omega, by dsimp only; rw [e1]; exact .inl rfl, fun g => absurd g (by omega)⟩, fun _ _ => ⟨fun _ => by omega, fun _ => rfl⟩⟩
  · obtain rfl : s = 3 := hw'
    rw [nextS_no (by omega)]
    have hsb : SegsBytes (f.shards.getD 0 shd0).man.segs := by
      rw [h.man rfl, hu.export]
      refine segsL_bytes (fun j => ?_) hu.short
      rcases h.ent with he | he
      · rw [he]; simp only [List.getD_nil]; exact nil_bytes
      · rw [he]
        match j with
        | 0 => exact nil_bytes
        | _ + 1 => exact nil_bytes
    rw [step_spoil hlen h.st hsb]
    exact ⟨h, fun _ h4 => absurd h4 (by omega)⟩
def kdsL (l : List Int) : List Dd := l.map (fun k => doD k 0)
def stateN (l : List Int) : Int := l.foldl nextS 1
theorem sinv_run (l : List Int) : ∀ {f : Flt} {s : Int}, SInv f s → SInv (runL f (kdsL l)).1 (l.foldl nextS s) := by
  induction l with
  | nil => exact fun h => h
  | cons k l ih => exact fun h => ih (sinv_step h k).1
theorem sinv_start : SInv (startL (winsL 1)) 1 := ⟨rfl, rfl, by omega, .inl rfl, fun h => absurd h (by omega)⟩
theorem kdsL_length (l : List Int) : (kdsL l).length = l.length := by simp [kdsL]
theorem kdsL_get {l : List Int} {j : Nat} (h : j < l.length) : (kdsL l).getD j dd0 = doD (l.getD j 0) 0 := by
  unfold kdsL; rw [List.getD_eq_getElem?_getD, List.getElem?_map, List.getElem?_eq_getElem h, List.getD_eq_getElem?_getD, List.getElem?_eq_getElem h]; rfl
theorem kdsL_snoc {l : List Int} {j : Nat} (h : j < l.length) : kdsL (l.take (j + 1)) = kdsL (l.take j) ++ [doD (l.getD j 0) 0] := by
  unfold kdsL; rw [List.take_add_one, List.getElem?_eq_getElem h, List.map_append, List.getD_eq_getElem?_getD, List.getElem?_eq_getElem h]; rfl
theorem kdsL_take (l : List Int) (j : Nat) : (kdsL l).take j = kdsL (l.take j) := by unfold kdsL; rw [List.map_take]
theorem stateN_snoc {l : List Int} {j : Nat} (h : j < l.length) : stateN (l.take (j + 1)) = nextS (stateN (l.take j)) (l.getD j 0) := by
  unfold stateN; rw [List.take_add_one, List.getElem?_eq_getElem h, List.foldl_append, List.getD_eq_getElem?_getD, List.getElem?_eq_getElem h]; rfl
theorem stateN_rng (l : List Int) : 1 ≤ stateN l ∧ stateN l ≤ 4 := (sinv_run l sinv_start).rng
theorem steps_ans {l : List Int} {j : Nat} (h : j < l.length) (h2 : 2 ≤ l.getD j 0) (h4 : l.getD j 0 ≤ 4) : ((runL (startL (winsL 1)) (kdsL l)).2.getD j ans0).err = 0 ↔ l.getD j 0 = stateN (l.take j) + 1 := by
  rw [run_ans _ _ (by rw [kdsL_length]; exact h), kdsL_get h, kdsL_take]
  exact (sinv_step (sinv_run (l.take j) sinv_start) _).2 h2 h4

end Go.Proofs.YtkjlchfmplcobahDoor

/- The walk of the law TopSteps, over package fleet's faces. -/
namespace Go.Proofs.YtkjlchfmplcobahDoor
open Go.RowKit

def IntCell (w : World) (b o : Nat) (x : Int) : Prop := w.cell? ⟨b, o, none⟩ = some (.int .i64 x) ∧ -9223372036854775808 ≤ x ∧ x ≤ 9223372036854775807
def IntsAt (w : World) (v : Value) (l : List Int) : Prop := RowAt 1 IntCell 0 w v l
theorem IntsAt.below {w w' : World} {v : Value} {l : List Int} (h : IntsAt w v l) (hw : Below w.heap.size w w') : IntsAt w' v l :=
  RowAt.below h hw (fun b o _ hb ⟨h1, h2⟩ => ⟨by rw [hw.cell (p := ⟨b, o, none⟩) hb]; exact h1, h2⟩)
theorem IntsAt.get {w : World} {a : Option Addr} {n c : Nat} {l : List Int} (h : IntsAt w (.slice a n c) l) (hn : l.length = n) {j : Nat} (hj : j < n) : ∃ b o, a = some ⟨b, o, none⟩ ∧ b < w.heap.size ∧ w.cell? ⟨b, o + j, none⟩ = some (.int .i64 (l.getD j 0)) ∧ -9223372036854775808 ≤ l.getD j 0 ∧ l.getD j 0 ≤ 9223372036854775807 := by
  obtain ⟨a', c', e, -, -, -, h5⟩ := h
  rw [hn] at e h5
  cases e
  obtain ⟨b, off, h6, h7, h8⟩ := h5.resolve_left (by omega)
  obtain ⟨h9, h10⟩ := h8 j hj
  rw [Nat.mul_one] at h9
  exact ⟨b, off, h6, h7, h9, h10⟩
theorem YearI.kept {w wr : World} {u v : Value} {l : List Dd} (h : YearI w.heap.size w u wr v l) : Below w.heap.size w wr := by obtain ⟨_, _, _, _, _, _, _, _, h6, _⟩ := h; exact h6
theorem AnssAt.at' {w : World} {a : Option Addr} {n c : Nat} {l : List Ans} (h : AnssAt w (.slice a n c) l) (hn : l.length = n) {j : Nat} (hj : j < n) : ∃ b o, a = some ⟨b, o, none⟩ ∧ b < w.heap.size ∧ AnsCells w b (o + j * 5) (l.getD j ans0) := by
  obtain ⟨a', c', e, -, -, -, h5⟩ := h
  rw [hn] at e h5
  cases e
  obtain ⟨b, off, h6, h7, h8⟩ := h5.resolve_left (by omega)
  exact ⟨b, off, h6, h7, h8 j hj⟩
theorem kd_fit {k : Int} (h : -9223372036854775808 ≤ k ∧ k ≤ 9223372036854775807) : DdFit (doD k 0) := ⟨⟨show (0 : Int) ≤ 0 by omega, show (0 : Int) < 256 by omega⟩, h⟩
set_option maxRecDepth 100000 in
set_option maxHeartbeats 4000000 in
theorem topSteps_any (hPl : PlayC) (l : List Int) (ka : Option Addr) (kn kc : Nat) (w : World) (hR : Ready w) (hK : IntsAt w (.slice ka kn kc) l) (hn : l.length = kn) :
    Calls Tryd.prog 3 #[.slice ka kn kc] w fun e w' => e = .returned (.bool true) ∧ Below w.heap.size w w' := by
  obtain ⟨i0, hi0, hz0, hz1, hz2⟩ := info_parts Tryd.info27b
  have cA := topAlive_any hPl w hR
  have hkm : kn ≤ maxLen := by obtain ⟨_, _, e, g2, g3, -⟩ := hK; cases e; omega
  unfold maxLen at hkm
  go_enter Tryd.func3, Tryd.ntmps3
  go_wp2_with fail
  refine cA.mono ?_
  rintro e w1 ⟨rfl, b1⟩
  clear cA
  by_cases h50 : (50 : Int) < kn
  · go_wp2_with fail
    go_ret
    exact ⟨rfl, b1⟩
  have hK1 := hK.below b1
  go_wp2_with fail
  have hk50 : kn ≤ 50 := by omega
  go_loopw [3, 20] (fun gv kv wr => ∃ (j : Nat) (va : Option Addr) (vc : Nat), j ≤ kn ∧ kv = .int .i64 j ∧ gv = .slice va j vc ∧ YearI w1.heap.size w1 (.slice none 0 0) wr (.slice va j vc) (kdsL (l.take j))) (fun _ kv _ => kn - (intOf kv).toNat)
  case atStart => exact ⟨0, none, 0, Nat.zero_le _, rfl, rfl, none, 0, [], rfl, World.ownsRow_nil _ _ _ _, doB_nil _ _, .inl rfl, fun _ _ _ => rfl, Below.refl _ _, Nat.le_refl _⟩
  case round =>
    obtain ⟨wo, rfl⟩ : ∃ x, x = wr := ⟨wr, rfl⟩
    obtain ⟨j, va, vc, hj, rfl, rfl, hI⟩ := hrel
    have hlnj : (kdsL (l.take j)).length = j := by rw [kdsL_length, List.length_take]; omega
    by_cases hlt : j < kn
    · have hlt' : (j : Int) < kn := by omega
      obtain ⟨b, off, rfl, hb, hcell, hfit⟩ := (hK1.below hI.kept).get hn hlt
      have HSN : Hid (kdsL (l.take (j + 1)) = kdsL (l.take j) ++ [doD (l.getD j 0) 0]) := kdsL_snoc (by omega)
      obtain ⟨kd, HKD⟩ : ∃ kd : Int, Hid (l.getD j 0 = kd) := ⟨_, rfl⟩
      rw [HKD.out] at hcell hfit HSN
      have hDo := topDo_any kd 0 wo
      clear hK hK1
      go_wp2_with fail
      refine hDo.mono ?_
      rintro e w3 ⟨rfl, hb3⟩
      have hI3 := hI.call hb3 (Nat.le_refl _)
      obtain ⟨va', vc', vs, e1, hrow, hD, hwh, hkp, hbl, hsz⟩ := hI3
      rw [hlnj] at e1 hrow
      cases e1
      have HM := fun w6 g cap o h1 h2 h3 => YearI.more (w6 := w6) (g := g) (cap := cap) (o := o) (x := doD kd 0) (pa := none) (pc := 0) hlnj hrow hD hwh hkp hbl hsz (Nat.le_refl _) (some_nil _) (away_nil _ _ _ _) (kd_fit hfit) h1 h2 h3
      have HMH : Hid _ := HM
      have hnew := lit_dd w3 (doD kd 0) none 0 27
      have hone := ddV_one (doD kd 0) none 0
      have hsA : w1.heap.size ≤ (w3.alloc (.cells #[.int .i64 kd, .int .i64 0, .int .i64 0, .slice none 0 0, .int .i64 0, .int .i64 0, .int .u8 0] 27)).heap.size := by simp; omega
      have hrowA := hrow.alloc (.cells #[.int .i64 kd, .int .i64 0, .int .i64 0, .slice none 0 0, .int .i64 0, .int .i64 0, .int .u8 0] 27)
      have HNW : Hid _ := hnew
      have HON : Hid _ := hone
      clear HM hnew hone hrow hD hwh hkp hbl hI hDo
      go_wp2_with (at_builtin; refine wpList_append_lies _ rfl (.tmp 24) (.tmp 27) 24 rfl w1.heap.size 27 i0 _ 7 72 Tryd.underlying24 hi0 hz0 hz1 hz2 rfl (by decide) _ _ _ rfl hrowA ⟨w3.heap.size, 0, none⟩ 1 1 _ rfl rfl HNW.out HON.out (by decide) (by unfold maxLen; omega) (by omega) hsA _ rfl ?_; intro g cap w6 ho6 hg6 ha6 hlt6)
      have HI6 : Hid _ := HMH.out w6 g cap _ hg6 ho6 ha6
      clear HMH HNW HON hrowA ho6 hg6 ha6 hcell
      go_roundw
      case rel => exact ⟨j + 1, _, cap, by omega, by go_num, rfl, by rw [HSN.out]; exact HI6.out⟩
      case measure => simp [intOf]; omega
    · obtain rfl : j = kn := by omega
      have hnl : ¬ (j : Int) < j := by omega
      have hT : l.take j = l := List.take_of_length_le (by omega)
      rw [hT] at hI hlnj
      clear hT hK
      obtain ⟨va', vc', vs, e1, hrow, hD, -, -, hbl, -⟩ := hI
      rw [hlnj] at e1
      cases e1
      have hDo := hD.dos hrow
      have hK2 := hK1.below hbl
      have b2 := b1.trans (hbl.mono b1.size)
      clear hD hrow hK1 hbl b1
      go_wp2_with fail
      refine (windows_any 1 (by omega) wo).mono ?_
      rintro e w3 ⟨wa, wc, rfl, hW3, hb3⟩
      have b3 := b2.trans (hb3.mono b2.size)
      have hK3 := hK2.below hb3
      have hpr : playF (winsL 1) (kdsL l) = (0, 0) := play_right (by rw [winsL_right (by omega)]) (by rw [hlnj]; omega)
      have hpo := (play_ok (ws := winsL 1) (l := kdsL l) (by rw [hpr])).1
      have cP := hPl (winsL 1) (kdsL l) _ _ w3 (hR.below b3) hW3 (hDo.below hb3)
      have HAN : Hid (∀ i, i < j → 2 ≤ l.getD i 0 → l.getD i 0 ≤ 4 → (((playL (winsL 1) (kdsL l)).2.getD i ans0).err = 0 ↔ l.getD i 0 = stateN (l.take i) + 1)) := fun i hi h2 h4 => by rw [hpo]; exact steps_ans (by omega) h2 h4
      have hAl : (playL (winsL 1) (kdsL l)).2.length = j := by rw [hpo, runL_length, hlnj]
      rw [hpr] at cP
      dsimp only [faultV] at cP
      clear hpr hpo hDo hW3 hK2 hb3 b2 hPl
      generalize playL (winsL 1) (kdsL l) = PP at *
      obtain ⟨F, A⟩ := PP
      dsimp only at cP HAN hAl
      go_wp2_with fail
      refine cP.mono ?_
      rintro e w4 ⟨fv, av, rfl, hF, hA, hb4⟩
      have b4 := b3.trans (hb4.mono b3.size)
      obtain ⟨sa, sc, ba, bc, rfl, -, -⟩ := hF
      obtain ⟨aa, ac, rfl⟩ := hA.form
      rw [hAl] at hA ⊢
      have d5 : Below w4.heap.size w4 ((w4.alloc (.cells #[.slice sa F.shards.length sc, .slice ba F.book.length bc] 32)).alloc (.cells #[.int .i64 0, .int .i64 0] 36)) := ((Below.refl _ _).alloc (Nat.le_refl _) _).alloc (by simp) _
      obtain ⟨f0, f1, -, -⟩ := box_two (box_last w4 (.cells #[.slice sa F.shards.length sc, .slice ba F.book.length bc] 32) #[.int .i64 0, .int .i64 0] 36)
      have b5 := b4.trans (d5.mono b4.size)
      have hA5 := hA.below d5
      have hK5 := (hK3.below hb4).below d5
      clear cP hA hK3 hb4 b4 d5 b3
      go_wp2_with fail
      generalize (w4.alloc (.cells #[.slice sa F.shards.length sc, .slice ba F.book.length bc] 32)).alloc (.cells #[.int .i64 0, .int .i64 0] 36) = w5 at *
      clear f0 f1
      go_loopw [9, 42] (fun sv kv wr => ∃ (q : Nat) (s : Int), q ≤ j ∧ kv = .int .i64 q ∧ sv = .int .i64 s ∧ Hid (s = stateN (l.take q)) ∧ Below w5.heap.size w5 wr) (fun _ kv _ => j - (intOf kv).toNat)
      case atStart => exact ⟨0, 1, Nat.zero_le _, rfl, rfl, rfl, Below.refl _ _⟩
      case round =>
        obtain ⟨wp, rfl⟩ : ∃ x, x = wr := ⟨wr, rfl⟩
        obtain ⟨q, s, hq, rfl, rfl, HS, hbp⟩ := hrel
        have hrs : 1 ≤ s ∧ s ≤ 4 := by rw [HS.out]; exact stateN_rng _
        have hbw := b5.trans (hbp.mono b5.size)
        by_cases hlt : q < j
        · have hlt' : (q : Int) < j := by omega
          obtain ⟨p1, o1, rfl, hp1, hcell, hfit⟩ := (hK5.below hbp).get hn hlt
          obtain ⟨p2, o2, rfl, hp2, y0, -⟩ := (hA5.below hbp).at' hAl hlt
          have HQ : Hid (2 ≤ l.getD q 0 → l.getD q 0 ≤ 4 → ((A.getD q ans0).err = 0 ↔ l.getD q 0 = s + 1)) := by rw [HS.out]; exact HAN.out q hlt
          have HN : Hid (nextS s (l.getD q 0) = stateN (l.take (q + 1))) := by show _ = _; rw [stateN_snoc (by omega), HS.out]
          clear HAN hA5 hK5
          generalize l.getD q 0 = k at *
          generalize (A.getD q ans0).err = ze at *
          have m1 : wrap64 (s + 1) = s + 1 := by unfold wrap64; omega
          by_cases k2 : k < 2
          · have HN' : Hid (s = stateN (l.take (q + 1))) := by show _ = _; rw [← HN.out, nextS_no (by omega)]
            clear HQ HN HS
            go_wp2_with fail
            go_roundw
            case rel => exact ⟨q + 1, s, by omega, by go_num, rfl, HN', hbp⟩
            case measure => simp [intOf]; omega
          by_cases k4 : 4 < k
          · have HN' : Hid (s = stateN (l.take (q + 1))) := by show _ = _; rw [← HN.out, nextS_no (by omega)]
            clear HQ HN HS
            go_wp2_with fail
            go_roundw
            case rel => exact ⟨q + 1, s, by omega, by go_num, rfl, HN', hbp⟩
            case measure => simp [intOf]; omega
          have hiff := HQ.out (by omega) (by omega)
          by_cases hks : k = s + 1
          · have hz : ze = 0 := hiff.2 hks
            have HN' : Hid (s + 1 = stateN (l.take (q + 1))) := by show _ = _; rw [← HN.out, nextS_yes ⟨by omega, by omega, hks⟩]
            have hke : (k == s + 1) = true := by simpa using hks
            clear HQ HN HS hiff hks
            subst hz
            go_wp2_with fail
            go_roundw
            case rel => exact ⟨q + 1, s + 1, by omega, by go_num, by go_num, HN', hbp⟩
            case measure => simp [intOf]; omega
          · have hz : (ze == 0) = false := by
              have : ¬ ze = 0 := fun g => hks (hiff.1 g)
              simpa using this
            have HN' : Hid (s = stateN (l.take (q + 1))) := by show _ = _; rw [← HN.out, nextS_no (by omega)]
            have hke : (k == s + 1) = false := by simpa using hks
            clear HQ HN HS hiff hks
            go_wp2_with fail
            go_roundw
            case rel => exact ⟨q + 1, s, by omega, by go_num, rfl, HN', hbp⟩
            case measure => simp [intOf]; omega
        · obtain rfl : q = j := by omega
          have hnl : ¬ (q : Int) < q := by omega
          clear HAN hA5 hK5
          go_wp2_with fail
          go_ret
          exact ⟨rfl, hbw⟩

end Go.Proofs.YtkjlchfmplcobahDoor

/- A fleet that goes on, in memory: what each block of it is for. Nothing of the program's functions is in it. -/
namespace Go.Proofs.YtkjlchfmplcobahDoor
open Go.RowKit

theorem five_free {w : World} {k : Nat} {a b c d e : Value} {t : TypeId} (h : w.heap[k]? = some (.cells #[a, b, c, d, e] t (0, 0))) : w.frozen? ⟨k, 0, none⟩ = false ∧ w.frozen? ⟨k, 1, none⟩ = false ∧ w.frozen? ⟨k, 2, none⟩ = false ∧ w.frozen? ⟨k, 3, none⟩ = false ∧ w.frozen? ⟨k, 4, none⟩ = false :=
  ⟨frozen_of_row w k 0 _ t h, frozen_of_row w k 1 _ t h, frozen_of_row w k 2 _ t h, frozen_of_row w k 3 _ t h, frozen_of_row w k 4 _ t h⟩
/-- What a block is for. -/
abbrev Tag := Nat × Nat × Nat
def tNo : Tag := (0, 0, 0)
def tFix : Tag := (1, 0, 0)
def tSh : Tag := (2, 0, 0)
def tFl : Tag := (3, 0, 0)
def tBk : Tag := (4, 0, 0)
def tAn : Tag := (5, 0, 0)
def tEnt (k : Nat) : Tag := (6, k, 0)
def tSeg (k : Nat) : Tag := (7, k, 0)
def tPk (k j : Nat) : Tag := (8, k, j)
/-- From n on all blocks are for t. -/
def ext (τ : Nat → Tag) (n : Nat) (t : Tag) : Nat → Tag := fun b => if b < n then τ b else t
theorem ext_old {τ : Nat → Tag} {n b : Nat} {t : Tag} (h : b < n) : ext τ n t b = τ b := if_pos h
theorem ext_new {τ : Nat → Tag} {n b : Nat} {t : Tag} (h : n ≤ b) : ext τ n t b = t := if_neg (by omega)
/-- A value's block is there, and is for t. -/
def Tg (τ : Nat → Tag) (w : World) (t : Tag) (v : Value) : Prop := ∀ b, v.ownBlock = some b → b < w.heap.size ∧ τ b = t
/-- But for one block all is as it was; and what blocks were for stays. -/
structure Upd (τ τ' : Nat → Tag) (w w' : World) (row : Option Nat) : Prop where
  grow : w.grownBy w' row
  same : ∀ b, b < w.heap.size → τ' b = τ b
theorem grown_below {w w' : World} (h : Below w.heap.size w w') : w.grownBy w' none := ⟨h.os, h.tape, h.output, h.size, fun k hk _ => h.block k hk⟩
theorem grown_set (w : World) (k o : Nat) (u : Value) : w.grownBy (w.setCell ⟨k, o, none⟩ u) (some k) := ⟨rfl, rfl, rfl, by simp, fun j _ hj => heap_setCell_other w ⟨k, o, none⟩ j u (fun e => hj (by simp [e]))⟩
theorem Upd.refl (τ : Nat → Tag) (w : World) (row : Option Nat) : Upd τ τ w w row := ⟨World.grownBy.refl _ _, fun _ _ => rfl⟩
theorem upd_call {τ : Nat → Tag} {w w' : World} (h : Below w.heap.size w w') (t : Tag) : Upd τ (ext τ w.heap.size t) w w' none := ⟨grown_below h, fun _ hb => ext_old hb⟩
theorem upd_same {τ : Nat → Tag} {w w' : World} (h : Below w.heap.size w w') : Upd τ τ w w' none := ⟨grown_below h, fun _ _ => rfl⟩
theorem upd_set (τ : Nat → Tag) (w : World) (k o : Nat) (u : Value) : Upd τ τ w (w.setCell ⟨k, o, none⟩ u) (some k) := ⟨grown_set w k o u, fun _ _ => rfl⟩
theorem Tg.upd {τ τ' : Nat → Tag} {w w' : World} {t : Tag} {v : Value} {row : Option Nat} (h : Tg τ w t v) (u : Upd τ τ' w w' row) : Tg τ' w' t v := fun b hb => by
  obtain ⟨h1, h2⟩ := h b hb
  exact ⟨Nat.lt_of_lt_of_le h1 u.grow.size, (u.same b h1).trans h2⟩
theorem Tg.off {τ : Nat → Tag} {w : World} {t : Tag} {v : Value} {row : Option Nat} (h : Tg τ w t v) (hne : ∀ b, row = some b → τ b ≠ t) : v.ownBlock = none ∨ v.ownBlock ≠ row := by
  cases e : v.ownBlock with
  | none => exact .inl rfl
  | some g => exact .inr (fun h' => hne g h'.symm (h g e).2)
theorem tg_nil (τ : Nat → Tag) (w : World) (t : Tag) (n c : Nat) : Tg τ w t (.slice none n c) := fun b hb => by cases hb
theorem Some'.grown {w w' : World} {v : Value} {d : List Int} {row : Option Nat} (h : Some' w v d) (g : w.grownBy w' row) (hne : v.ownBlock = none ∨ v.ownBlock ≠ row) : Some' w' v d := by
  refine ⟨?_, h.bytes, h.short⟩
  rcases h.at' with h1 | ⟨b, off, cp, h1, h2, h3⟩
  · exact .inl h1
  · refine .inr ⟨b, off, cp, h1, Nat.lt_of_lt_of_le h2 g.size, fun j hj => ?_⟩
    rw [World.cell?_of_block (a := ⟨b, off + j, none⟩) (g.block b h2 (by subst h1; simpa [Value.ownBlock] using hne))]
    exact h3 j hj
/-- Bytes that nobody writes any more. -/
structure ByM (τ : Nat → Tag) (w : World) (v : Value) (d : List Int) : Prop where
  here : Some' w v d
  tag : Tg τ w tFix v
theorem ByM.upd {τ τ' : Nat → Tag} {w w' : World} {v : Value} {d : List Int} {row : Option Nat} (h : ByM τ w v d) (u : Upd τ τ' w w' row) (hf : ∀ b, row = some b → τ b ≠ tFix) : ByM τ' w' v d := ⟨h.here.grown u.grow (h.tag.off hf), h.tag.upd u⟩
theorem byM_nil (τ : Nat → Tag) (w : World) : ByM τ w (.slice none 0 0) [] := ⟨some_nil w, tg_nil _ _ _ _ _⟩
theorem own_small {w : World} {base : Nat} {e : TypeId} {size : Nat} {v : Value} {n : Nat} {xs : List Value} (h : w.ownsRow base e size v n xs) : n ≤ maxLen := by
  rcases h.2 with ⟨-, rfl⟩ | ⟨g, cap, cur, -, -, -, h1, h2, -⟩
  · exact Nat.zero_le _
  · exact Nat.le_trans h1 h2
theorem byM_own {τ : Nat → Tag} {w w' : World} {v : Value} {d : List Int} {n : Nat} (h : w'.ownsRow w.heap.size 5 1 v n (d.map (Value.int .u8))) (hb : Bytes d) : ByM (ext τ w.heap.size tFix) w' v d := by
  have hl : d.length = n := by simpa using h.1
  refine ⟨⟨bytesAt_own h, hb, by rw [hl]; exact own_small h⟩, fun b hv => ?_⟩
  obtain ⟨h1, h2⟩ := h.lt b hv
  exact ⟨h2, ext_new h1⟩
/-- A shard's entries. -/
def EntM (τ : Nat → Tag) (N : Nat) (w : World) (k : Nat) (v : Value) (es : List (List Int)) : Prop :=
  Tg τ w (tEnt k) v ∧ ∃ xs, w.ownsRow N 25 1 v es.length xs ∧ ∀ j, j < es.length → ∃ y, xs[j]? = some y ∧ ByM τ w y (es.getD j [])
theorem EntM.upd {τ τ' : Nat → Tag} {N : Nat} {w w' : World} {k : Nat} {v : Value} {es : List (List Int)} {row : Option Nat} (h : EntM τ N w k v es) (u : Upd τ τ' w w' row) (hf : ∀ b, row = some b → τ b ≠ tFix) (he : ∀ b, row = some b → τ b ≠ tEnt k) : EntM τ' N w' k v es := by
  obtain ⟨h1, xs, h2, h3⟩ := h
  refine ⟨h1.upd u, xs, h2.kept u.grow (h1.off he), fun j hj => ?_⟩
  obtain ⟨y, h4, h5⟩ := h3 j hj
  exact ⟨y, h4, h5.upd u hf⟩
theorem entM_nil (τ : Nat → Tag) (N : Nat) (w : World) (k : Nat) : EntM τ N w k (.slice none 0 0) [] := ⟨tg_nil _ _ _ _ _, [], World.ownsRow_nil _ _ _ _, fun _ hj => absurd hj (Nat.not_lt_zero _)⟩
theorem EntM.form {τ : Nat → Tag} {N : Nat} {w : World} {k : Nat} {v : Value} {es : List (List Int)} (h : EntM τ N w k v es) : ∃ a c, v = .slice a es.length c := by
  obtain ⟨-, xs, h2, -⟩ := h
  exact own_form' h2
theorem EntM.lists {τ : Nat → Tag} {N : Nat} {w : World} {k : Nat} {a : Option Addr} {n c : Nat} {es : List (List Int)} (h : EntM τ N w k (.slice a n c) es) (hn : es.length = n) : Lists w a n c es := by
  obtain ⟨-, xs, h2, h3⟩ := h
  rw [hn] at h2 h3
  obtain ⟨a', c', e, hc1, hc2⟩ := own_cap h2
  cases e
  refine ⟨hn, ?_, hc1, hc2, own_nil h2, fun j => ?_, fun j => ?_⟩
  · refine parts_of_row h2 hn (fun j hj => ?_)
    obtain ⟨y, h4, h5⟩ := h3 j hj
    obtain ⟨ya, yc, rfl⟩ := h5.here.at'.form
    exact ⟨ya, _, yc, h4, h5.here.at'⟩
  · by_cases hj : j < n
    · obtain ⟨y, -, h5⟩ := h3 j hj; exact h5.here.bytes
    · rw [List.getD_eq_getElem?_getD, List.getElem?_eq_none (by omega)]; exact nil_bytes
  · by_cases hj : j < n
    · obtain ⟨y, -, h5⟩ := h3 j hj; exact h5.here.short
    · rw [List.getD_eq_getElem?_getD, List.getElem?_eq_none (by omega)]; exact Nat.zero_le _
/-- A segment's bytes. -/
def PkM (τ : Nat → Tag) (N : Nat) (w : World) (k j : Nat) (v : Value) (d : List Int) : Prop := Tg τ w (tPk k j) v ∧ w.ownsRow N 5 1 v d.length (d.map (Value.int .u8)) ∧ Bytes d
/-- A shard's segments. -/
def SegM (τ : Nat → Tag) (N : Nat) (w : World) (k : Nat) (v : Value) (l : List Seg) : Prop :=
  Tg τ w (tSeg k) v ∧ ∃ vs, w.ownsRow N 95 3 v l.length vs ∧ ∀ j, j < l.length → ∃ y, vs[j * 3]? = some (.int .i64 (l.getD j seg0).first) ∧ vs[j * 3 + 1]? = some (.int .i64 (l.getD j seg0).count) ∧ vs[j * 3 + 2]? = some y ∧ PkM τ N w k j y (l.getD j seg0).packed
theorem PkM.upd {τ τ' : Nat → Tag} {N : Nat} {w w' : World} {k j : Nat} {v : Value} {d : List Int} {row : Option Nat} (h : PkM τ N w k j v d) (u : Upd τ τ' w w' row) (hp : ∀ b, row = some b → τ b ≠ tPk k j) : PkM τ' N w' k j v d := ⟨h.1.upd u, h.2.1.kept u.grow (h.1.off hp), h.2.2⟩
theorem SegM.upd {τ τ' : Nat → Tag} {N : Nat} {w w' : World} {k : Nat} {v : Value} {l : List Seg} {row : Option Nat} (h : SegM τ N w k v l) (u : Upd τ τ' w w' row) (hs : ∀ b, row = some b → τ b ≠ tSeg k) (hp : ∀ j b, row = some b → τ b ≠ tPk k j) : SegM τ' N w' k v l := by
  obtain ⟨h1, vs, h2, h3⟩ := h
  refine ⟨h1.upd u, vs, h2.kept u.grow (h1.off hs), fun j hj => ?_⟩
  obtain ⟨y, h4, h5, h6, h7⟩ := h3 j hj
  exact ⟨y, h4, h5, h6, h7.upd u (hp j)⟩
theorem segM_nil (τ : Nat → Tag) (N : Nat) (w : World) (k : Nat) : SegM τ N w k (.slice none 0 0) [] := ⟨tg_nil _ _ _ _ _, [], World.ownsRow_nil _ _ _ _, fun _ hj => absurd hj (Nat.not_lt_zero _)⟩
theorem SegM.segs {τ : Nat → Tag} {N : Nat} {w : World} {k : Nat} {v : Value} {l : List Seg} (h : SegM τ N w k v l) : SegsAt w v l := by
  obtain ⟨-, vs, h1, h2⟩ := h
  rcases h1.2 with ⟨hv, hn⟩ | ⟨g, cap, cur, rfl, -, hg, h3, h4, -⟩
  · exact ⟨none, 0, by rw [hv, hn], by omega, Nat.zero_le _, fun _ => rfl, .inl hn⟩
  · refine ⟨_, cap, rfl, h3, h4, (fun e => by cases e), .inr ⟨g, 0, rfl, lt_heap hg, fun j hj => ?_⟩⟩
    obtain ⟨y, g0, g1, g2, -, g3, g4⟩ := h2 j hj
    rw [Nat.zero_add]
    refine ⟨(h1.cellAt (j * 3) (by omega)).trans g0, (h1.cellAt (j * 3 + 1) (by omega)).trans g1, ?_⟩
    obtain ⟨pa, pc, rfl, q1, q2⟩ := own_cap g3
    exact ⟨pa, pc, (h1.cellAt (j * 3 + 2) (by omega)).trans g2, ⟨bytesAt_own g3, g4, by omega⟩, q1, q2⟩
theorem SegM.form {τ : Nat → Tag} {N : Nat} {w : World} {k : Nat} {v : Value} {l : List Seg} (h : SegM τ N w k v l) : ∃ a c, v = .slice a l.length c := by
  obtain ⟨a, c, e, -⟩ := h.segs
  exact ⟨a, c, e⟩
/-- A shard's cells. -/
abbrev ShV := Value × Value × Value
def shdV (s : Shd) (v : ShV) : List Value := [.int .i64 s.from', .int .i64 s.to', .int .i64 s.state, v.1, .int .i64 s.man.size, v.2.1, v.2.2]
/-- The shards. -/
structure ShM (τ : Nat → Tag) (N : Nat) (w : World) (sv : Value) (ss : List Shd) (V : Nat → ShV) : Prop where
  tag : Tg τ w tSh sv
  row : ∃ vs, w.ownsRow N 57 7 sv ss.length vs ∧ ∀ k, k < ss.length → ∀ i, i < 7 → vs[k * 7 + i]? = (shdV (ss.getD k shd0) (V k))[i]?
  ent : ∀ k, k < ss.length → EntM τ N w k (V k).1 (ss.getD k shd0).entries
  root : ∀ k, k < ss.length → ByM τ w (V k).2.1 (ss.getD k shd0).man.root
  seg : ∀ k, k < ss.length → SegM τ N w k (V k).2.2 (ss.getD k shd0).man.segs
theorem ShM.upd {τ τ' : Nat → Tag} {N : Nat} {w w' : World} {sv : Value} {ss : List Shd} {V : Nat → ShV} {row : Option Nat} (h : ShM τ N w sv ss V) (u : Upd τ τ' w w' row) (hr : ∀ b, row = some b → τ b = tNo ∨ τ b = tFl ∨ τ b = tBk ∨ τ b = tAn) : ShM τ' N w' sv ss V := by
  have ne : ∀ t : Tag, t ≠ tNo → t ≠ tFl → t ≠ tBk → t ≠ tAn → ∀ b, row = some b → τ b ≠ t := fun t h1 h2 h3 h4 b hb e => by
    rcases hr b hb with g | g | g | g
    · exact h1 (e.symm.trans g)
    · exact h2 (e.symm.trans g)
    · exact h3 (e.symm.trans g)
    · exact h4 (e.symm.trans g)
  have n1 := ne tFix (by decide) (by decide) (by decide) (by decide)
  have n2 := ne tSh (by decide) (by decide) (by decide) (by decide)
  have n3 := fun k => ne (tEnt k) (by simp [tEnt, tNo]) (by simp [tEnt, tFl]) (by simp [tEnt, tBk]) (by simp [tEnt, tAn])
  have n4 := fun k => ne (tSeg k) (by simp [tSeg, tNo]) (by simp [tSeg, tFl]) (by simp [tSeg, tBk]) (by simp [tSeg, tAn])
  have n5 := fun k j => ne (tPk k j) (by simp [tPk, tNo]) (by simp [tPk, tFl]) (by simp [tPk, tBk]) (by simp [tPk, tAn])
  obtain ⟨vs, h1, h2⟩ := h.row
  exact ⟨h.tag.upd u, ⟨vs, h1.kept u.grow (h.tag.off n2), h2⟩, fun k hk => (h.ent k hk).upd u n1 (n3 k), fun k hk => (h.root k hk).upd u n1, fun k hk => (h.seg k hk).upd u (n4 k) (n5 k)⟩
theorem ShM.shards {τ : Nat → Tag} {N : Nat} {w : World} {sv : Value} {ss : List Shd} {V : Nat → ShV} (h : ShM τ N w sv ss V) : ShdsAt w sv ss := by
  obtain ⟨vs, h1, h2⟩ := h.row
  rcases h1.2 with ⟨hv, hn⟩ | ⟨g, cap, cur, rfl, -, hg, h3, h4, -⟩
  · exact ⟨none, 0, by rw [hv, hn], by omega, Nat.zero_le _, fun _ => rfl, .inl hn⟩
  · refine ⟨_, cap, rfl, h3, h4, (fun e => by cases e), .inr ⟨g, 0, rfl, lt_heap hg, fun k hk => ?_⟩⟩
    have hc : ∀ i, i < 7 → w.cell? ⟨g, 0 + k * 7 + i, none⟩ = (shdV (ss.getD k shd0) (V k))[i]? := fun i hi => by rw [Nat.zero_add]; exact (h1.cellAt (k * 7 + i) (by omega)).trans (h2 k hk i hi)
    have hE := h.ent k hk
    obtain ⟨ea, ec, e1⟩ := hE.form
    obtain ⟨ra, rc, e2⟩ := (h.root k hk).here.at'.form
    obtain ⟨ga, gc, e3⟩ := (h.seg k hk).form
    rw [e1] at hE
    refine ⟨hc 0 (by omega), hc 1 (by omega), hc 2 (by omega), ⟨ea, ec, ?_, hE.lists rfl⟩, hc 4 (by omega), ⟨ra, rc, ?_, by rw [← e2]; exact (h.root k hk).here⟩, ⟨ga, gc, ?_, by rw [← e3]; exact (h.seg k hk).segs⟩⟩
    · rw [hc 3 (by omega), ← e1]; rfl
    · rw [hc 5 (by omega), ← e2]; rfl
    · rw [hc 6 (by omega), ← e3]; rfl
/-- A record's cells. -/
def recCs (r : Rec) (v : Value) : List Value := [.int .i64 r.shard, .int .i64 r.from', .int .i64 r.to', .int .i64 r.size, v]
/-- The book. -/
def BkM (τ : Nat → Tag) (N : Nat) (w : World) (bv : Value) (l : List Rec) : Prop :=
  Tg τ w tBk bv ∧ ∃ ys, w.ownsRow N 88 5 bv l.length ys ∧ ∀ j, j < l.length → ∃ rv, (∀ i, i < 5 → ys[j * 5 + i]? = (recCs (l.getD j rec0) rv)[i]?) ∧ ByM τ w rv (l.getD j rec0).root
theorem BkM.upd {τ τ' : Nat → Tag} {N : Nat} {w w' : World} {bv : Value} {l : List Rec} {row : Option Nat} (h : BkM τ N w bv l) (u : Upd τ τ' w w' row) (hf : ∀ b, row = some b → τ b ≠ tFix) (hb : ∀ b, row = some b → τ b ≠ tBk) : BkM τ' N w' bv l := by
  obtain ⟨h1, ys, h2, h3⟩ := h
  refine ⟨h1.upd u, ys, h2.kept u.grow (h1.off hb), fun j hj => ?_⟩
  obtain ⟨rv, h4, h5⟩ := h3 j hj
  exact ⟨rv, h4, h5.upd u hf⟩
theorem bkM_nil (τ : Nat → Tag) (N : Nat) (w : World) : BkM τ N w (.slice none 0 0) [] := ⟨tg_nil _ _ _ _ _, [], World.ownsRow_nil _ _ _ _, fun _ hj => absurd hj (Nat.not_lt_zero _)⟩
theorem BkM.recs {τ : Nat → Tag} {N : Nat} {w : World} {bv : Value} {l : List Rec} (h : BkM τ N w bv l) : RecsAt w bv l := by
  obtain ⟨-, ys, h1, h2⟩ := h
  rcases h1.2 with ⟨hv, hn⟩ | ⟨g, cap, cur, rfl, -, hg, h3, h4, -⟩
  · exact ⟨none, 0, by rw [hv, hn], by omega, Nat.zero_le _, fun _ => rfl, .inl hn⟩
  · refine ⟨_, cap, rfl, h3, h4, (fun e => by cases e), .inr ⟨g, 0, rfl, lt_heap hg, fun k hk => ?_⟩⟩
    obtain ⟨rv, h5, h6⟩ := h2 k hk
    have hc : ∀ i, i < 5 → w.cell? ⟨g, 0 + k * 5 + i, none⟩ = (recCs (l.getD k rec0) rv)[i]? := fun i hi => by rw [Nat.zero_add]; exact (h1.cellAt (k * 5 + i) (by omega)).trans (h5 i hi)
    obtain ⟨ra, rc, e2⟩ := h6.here.at'.form
    subst e2
    exact ⟨hc 0 (by omega), hc 1 (by omega), hc 2 (by omega), hc 3 (by omega), ra, rc, hc 4 (by omega), h6.here⟩
/-- The answers. -/
def ansV (x : Ans) (v : Value) : List Value := [.int .i64 x.err, .int .i64 x.shard, .int .i64 x.place, .int .i64 x.size, v]
def AnM (τ : Nat → Tag) (N : Nat) (w : World) (av : Value) (l : List Ans) : Prop :=
  Tg τ w tAn av ∧ ∃ ys, w.ownsRow N 44 5 av l.length ys ∧ ∀ j, j < l.length → ∃ rv, (∀ i, i < 5 → ys[j * 5 + i]? = (ansV (l.getD j ans0) rv)[i]?) ∧ ByM τ w rv (l.getD j ans0).root
theorem AnM.upd {τ τ' : Nat → Tag} {N : Nat} {w w' : World} {bv : Value} {l : List Ans} {row : Option Nat} (h : AnM τ N w bv l) (u : Upd τ τ' w w' row) (hf : ∀ b, row = some b → τ b ≠ tFix) (hb : ∀ b, row = some b → τ b ≠ tAn) : AnM τ' N w' bv l := by
  obtain ⟨h1, ys, h2, h3⟩ := h
  refine ⟨h1.upd u, ys, h2.kept u.grow (h1.off hb), fun j hj => ?_⟩
  obtain ⟨rv, h4, h5⟩ := h3 j hj
  exact ⟨rv, h4, h5.upd u hf⟩
theorem AnM.anss {τ : Nat → Tag} {N : Nat} {w : World} {bv : Value} {l : List Ans} (h : AnM τ N w bv l) : AnssAt w bv l := by
  obtain ⟨-, ys, h1, h2⟩ := h
  rcases h1.2 with ⟨hv, hn⟩ | ⟨g, cap, cur, rfl, -, hg, h3, h4, -⟩
  · exact ⟨none, 0, by rw [hv, hn], by omega, Nat.zero_le _, fun _ => rfl, .inl hn⟩
  · refine ⟨_, cap, rfl, h3, h4, (fun e => by cases e), .inr ⟨g, 0, rfl, lt_heap hg, fun k hk => ?_⟩⟩
    obtain ⟨rv, h5, h6⟩ := h2 k hk
    have hc : ∀ i, i < 5 → w.cell? ⟨g, 0 + k * 5 + i, none⟩ = (ansV (l.getD k ans0) rv)[i]? := fun i hi => by rw [Nat.zero_add]; exact (h1.cellAt (k * 5 + i) (by omega)).trans (h5 i hi)
    obtain ⟨ra, rc, e2⟩ := h6.here.at'.form
    subst e2
    exact ⟨hc 0 (by omega), hc 1 (by omega), hc 2 (by omega), hc 3 (by omega), ra, rc, hc 4 (by omega), h6.here⟩
/-- An answer by itself. -/
def AnV (τ : Nat → Tag) (w : World) (v : Value) (x : Ans) : Prop := ∃ rv, v = .agg #[.int .i64 x.err, .int .i64 x.shard, .int .i64 x.place, .int .i64 x.size, rv] ∧ ByM τ w rv x.root
/-- The fleet. -/
structure GoF (τ : Nat → Tag) (N : Nat) (w : World) (gp : Nat) (f : Flt) : Prop where
  low : N ≤ gp
  tag : τ gp = tFl
  parts : ∃ sv bv V, w.heap[gp]? = some (.cells #[sv, bv] 63 (0, 0)) ∧ ShM τ N w sv f.shards V ∧ BkM τ N w bv f.book
theorem GoF.upd {τ τ' : Nat → Tag} {N : Nat} {w w' : World} {gp : Nat} {f : Flt} {row : Option Nat} (h : GoF τ N w gp f) (u : Upd τ τ' w w' row) (hr : ∀ b, row = some b → τ b = tNo ∨ τ b = tAn) : GoF τ' N w' gp f := by
  obtain ⟨h0, h1, sv, bv, V, h2, h3, h4⟩ := h
  have ne : ∀ t : Tag, t ≠ tNo → t ≠ tAn → ∀ b, row = some b → τ b ≠ t := fun t h1 h4 b hb e => by
    rcases hr b hb with g | g
    · exact h1 (e.symm.trans g)
    · exact h4 (e.symm.trans g)
  have hg : w'.heap[gp]? = w.heap[gp]? := u.grow.block gp (lt_heap h2) (fun e => ne tFl (by decide) (by decide) gp e.symm h1)
  exact ⟨h0, (u.same gp (lt_heap h2)).trans h1, sv, bv, V, hg.trans h2, h3.upd u (fun b hb => (hr b hb).elim .inl (fun h => .inr (.inr (.inr h)))), h4.upd u (ne tFix (by decide) (by decide)) (ne tBk (by decide) (by decide))⟩
/-- What a call leaves as it was. -/
structure Keep (τ τ' : Nat → Tag) (N : Nat) (w w' : World) : Prop where
  low : Below N w w'
  size : w.heap.size ≤ w'.heap.size
  same : ∀ b, b < w.heap.size → τ' b = τ b
  block : ∀ b, b < w.heap.size → (τ b = tFix ∨ τ b = tNo ∨ τ b = tAn) → w'.heap[b]? = w.heap[b]?
theorem keep_upd {τ τ' : Nat → Tag} {N : Nat} {w w' : World} {row : Option Nat} (u : Upd τ τ' w w' row) (hN : N ≤ w.heap.size) (hr : ∀ b, row = some b → N ≤ b ∧ τ b ≠ tFix ∧ τ b ≠ tNo ∧ τ b ≠ tAn) : Keep τ τ' N w w' :=
  ⟨(Below.refl _ _).grown u.grow hN (fun b hb => (hr b hb).1), u.grow.size, u.same, fun b hb ht => u.grow.block b hb (fun e => by
    obtain ⟨-, n1, n2, n3⟩ := hr b e.symm
    rcases ht with h | h | h
    · exact n1 h
    · exact n2 h
    · exact n3 h)⟩
theorem Keep.trans {τ τ1 τ2 : Nat → Tag} {N : Nat} {a b c : World} (h : Keep τ τ1 N a b) (g : Keep τ1 τ2 N b c) : Keep τ τ2 N a c :=
  ⟨h.low.trans g.low, Nat.le_trans h.size g.size, fun k hk => (g.same k (Nat.lt_of_lt_of_le hk h.size)).trans (h.same k hk), fun k hk ht => (g.block k (Nat.lt_of_lt_of_le hk h.size) (by rw [h.same k hk]; exact ht)).trans (h.block k hk ht)⟩
theorem keep_call {τ : Nat → Tag} {N : Nat} {w w' : World} (h : Below w.heap.size w w') (hN : N ≤ w.heap.size) (t : Tag) : Keep τ (ext τ w.heap.size t) N w w' := keep_upd (upd_call h t) hN (fun _ hb => by cases hb)
/-- A new block of the call's own is written. -/
theorem keep_set {τ τ' : Nat → Tag} {N : Nat} {w0 w : World} (h : Keep τ τ' N w0 w) (hN : N ≤ w0.heap.size) {k : Nat} (hk : w0.heap.size ≤ k) (o : Nat) (u : Value) : Keep τ τ' N w0 (w.setCell ⟨k, o, none⟩ u) :=
  ⟨h.low.setCell (Nat.le_trans hN hk) _, by simpa using h.size, h.same, fun b hb ht => by
    rw [heap_setCell_other w ⟨k, o, none⟩ b u (fun e => by have e : b = k := e; omega)]
    exact h.block b hb ht⟩
theorem Keep.byM {τ τ' : Nat → Tag} {N : Nat} {w w' : World} {v : Value} {d : List Int} (h : Keep τ τ' N w w') (hb : ByM τ w v d) : ByM τ' w' v d := by
  refine ⟨⟨?_, hb.here.bytes, hb.here.short⟩, fun b hv => ?_⟩
  · rcases hb.here.at' with h1 | ⟨b, off, cp, h1, h2, h3⟩
    · exact .inl h1
    · refine .inr ⟨b, off, cp, h1, Nat.lt_of_lt_of_le h2 h.size, fun j hj => ?_⟩
      rw [World.cell?_of_block (a := ⟨b, off + j, none⟩) (h.block b h2 (.inl (hb.tag b (by subst h1; rfl)).2))]
      exact h3 j hj
  · obtain ⟨h1, h2⟩ := hb.tag b hv
    exact ⟨Nat.lt_of_lt_of_le h1 h.size, (h.same b h1).trans h2⟩
theorem Keep.anM {τ τ' : Nat → Tag} {N : Nat} {w w' : World} {v : Value} {l : List Ans} (h : Keep τ τ' N w w') (hb : AnM τ N w v l) : AnM τ' N w' v l := by
  obtain ⟨h1, ys, h2, h3⟩ := hb
  refine ⟨fun b hv => ?_, ys, ?_, fun j hj => ?_⟩
  · obtain ⟨g1, g2⟩ := h1 b hv
    exact ⟨Nat.lt_of_lt_of_le g1 h.size, (h.same b g1).trans g2⟩
  · refine ⟨h2.1, ?_⟩
    rcases h2.2 with hn | ⟨g, cap, cur, rfl, hb, hgg, rest⟩
    · exact .inl hn
    · exact .inr ⟨g, cap, cur, rfl, hb, (h.block g (lt_heap hgg) (.inr (.inr (h1 g rfl).2))).trans hgg, rest⟩
  · obtain ⟨rv, h4, h5⟩ := h3 j hj
    exact ⟨rv, h4, h.byM h5⟩
theorem Keep.box {τ τ' : Nat → Tag} {N : Nat} {w w' : World} {k : Nat} {x : Obj} (h : Keep τ τ' N w w') (ht : τ k = tNo) (hk : w.heap[k]? = some x) : w'.heap[k]? = some x := (h.block k (lt_heap hk) (.inr (.inl ht))).trans hk

end Go.Proofs.YtkjlchfmplcobahDoor

/- A fleet that goes on, in memory: how it is changed. Nothing of the program's functions is in it. -/
namespace Go.Proofs.YtkjlchfmplcobahDoor
open Go.RowKit

theorem shdV_length (s : Shd) (v : ShV) : (shdV s v).length = 7 := rfl
/-- The shards but for what the one of number k leads to. -/
structure ShO (τ : Nat → Tag) (N : Nat) (w : World) (sv : Value) (ss : List Shd) (V : Nat → ShV) (k : Nat) : Prop where
  tag : Tg τ w tSh sv
  row : ∃ vs, w.ownsRow N 57 7 sv ss.length vs ∧ ∀ k, k < ss.length → ∀ i, i < 7 → vs[k * 7 + i]? = (shdV (ss.getD k shd0) (V k))[i]?
  ent : ∀ j, j < ss.length → j ≠ k → EntM τ N w j (V j).1 (ss.getD j shd0).entries
  root : ∀ j, j < ss.length → j ≠ k → ByM τ w (V j).2.1 (ss.getD j shd0).man.root
  seg : ∀ j, j < ss.length → j ≠ k → SegM τ N w j (V j).2.2 (ss.getD j shd0).man.segs
theorem ShM.out {τ : Nat → Tag} {N : Nat} {w : World} {sv : Value} {ss : List Shd} {V : Nat → ShV} (h : ShM τ N w sv ss V) (k : Nat) : ShO τ N w sv ss V k := ⟨h.tag, h.row, fun j hj _ => h.ent j hj, fun j hj _ => h.root j hj, fun j hj _ => h.seg j hj⟩
theorem ShO.back {τ : Nat → Tag} {N : Nat} {w : World} {sv : Value} {ss : List Shd} {V : Nat → ShV} {k : Nat} (h : ShO τ N w sv ss V k) (h1 : EntM τ N w k (V k).1 (ss.getD k shd0).entries) (h2 : ByM τ w (V k).2.1 (ss.getD k shd0).man.root) (h3 : SegM τ N w k (V k).2.2 (ss.getD k shd0).man.segs) : ShM τ N w sv ss V := by
  refine ⟨h.tag, h.row, fun j hj => ?_, fun j hj => ?_, fun j hj => ?_⟩
  · by_cases e : j = k
    · subst e; exact h1
    · exact h.ent j hj e
  · by_cases e : j = k
    · subst e; exact h2
    · exact h.root j hj e
  · by_cases e : j = k
    · subst e; exact h3
    · exact h.seg j hj e
/-- What may be written while the shard k is turned. -/
def mine (k : Nat) (t : Tag) : Prop := t = tNo ∨ t = tFl ∨ t = tBk ∨ t = tAn ∨ t = tEnt k ∨ t = tSeg k ∨ ∃ j, t = tPk k j
theorem mine_fix {k : Nat} {t : Tag} (h : mine k t) : t ≠ tFix ∧ t ≠ tSh := by
  rcases h with rfl | rfl | rfl | rfl | rfl | rfl | ⟨j, rfl⟩ <;> simp [tNo, tFl, tBk, tAn, tEnt, tSeg, tPk, tFix, tSh]
theorem mine_other {k j : Nat} {t : Tag} (h : mine k t) (hj : j ≠ k) : t ≠ tEnt j ∧ t ≠ tSeg j ∧ ∀ i, t ≠ tPk j i := by
  rcases h with rfl | rfl | rfl | rfl | rfl | rfl | ⟨q, rfl⟩ <;> simp [tNo, tFl, tBk, tAn, tEnt, tSeg, tPk] <;> omega
theorem ShO.upd {τ τ' : Nat → Tag} {N : Nat} {w w' : World} {sv : Value} {ss : List Shd} {V : Nat → ShV} {k : Nat} {row : Option Nat} (h : ShO τ N w sv ss V k) (u : Upd τ τ' w w' row) (hr : ∀ b, row = some b → mine k (τ b)) : ShO τ' N w' sv ss V k := by
  obtain ⟨vs, h1, h2⟩ := h.row
  have n1 : ∀ b, row = some b → τ b ≠ tFix := fun b hb => (mine_fix (hr b hb)).1
  exact ⟨h.tag.upd u, ⟨vs, h1.kept u.grow (h.tag.off (fun b hb => (mine_fix (hr b hb)).2)), h2⟩, fun j hj hk => (h.ent j hj hk).upd u n1 (fun b hb => (mine_other (hr b hb) hk).1), fun j hj hk => (h.root j hj hk).upd u n1, fun j hj hk => (h.seg j hj hk).upd u (fun b hb => (mine_other (hr b hb) hk).2.1) (fun i b hb => (mine_other (hr b hb) hk).2.2 i)⟩
/-- Where a shard's cells lie. -/
theorem ShO.cells {τ : Nat → Tag} {N : Nat} {w : World} {sa : Option Addr} {n c k : Nat} {ss : List Shd} {V : Nat → ShV} (h : ShO τ N w (.slice sa n c) ss V k) (hn : ss.length = n) (hk : k < n) :
    ∃ sb, sa = some ⟨sb, 0, none⟩ ∧ N ≤ sb ∧ sb < w.heap.size ∧ τ sb = tSh ∧ (∀ i, w.frozen? ⟨sb, i, none⟩ = false) ∧ ∀ i, i < 7 → w.cell? ⟨sb, k * 7 + i, none⟩ = (shdV (ss.getD k shd0) (V k))[i]? := by
  obtain ⟨vs, h1, h2⟩ := h.row
  rw [hn] at h1 h2
  rcases h1.2 with ⟨-, h0⟩ | ⟨g, cap, cur, e, hb, hg, -⟩
  · omega
  · simp only [Value.slice.injEq, true_and] at e
    obtain ⟨rfl, rfl⟩ := e
    obtain ⟨t1, t2⟩ := h.tag g rfl
    exact ⟨g, rfl, hb, t1, t2, fun i => h1.frozenAt i, fun i hi => (h1.cellAt (k * 7 + i) (by omega)).trans (h2 k hk i hi)⟩
/-- One of its cells is written. -/
theorem ShO.store {τ : Nat → Tag} {N : Nat} {w : World} {sb n c k i : Nat} {ss : List Shd} {V : Nat → ShV} {s' : Shd} {v' : ShV} {u : Value} (h : ShO τ N w (.slice (some ⟨sb, 0, none⟩) n c) ss V k) (hn : ss.length = n) (hk : k < n) (hi : i < 7) (hs : shdV s' v' = (shdV (ss.getD k shd0) (V k)).set i u) :
    ShO τ N (w.setCell ⟨sb, k * 7 + i, none⟩ u) (.slice (some ⟨sb, 0, none⟩) n c) (ss.set k s') (fun j => if j = k then v' else V j) k := by
  obtain ⟨vs, h1, h2⟩ := h.row
  have ht := (h.tag sb rfl).2
  have U := upd_set τ w sb (k * 7 + i) u
  have ne : ∀ t : Tag, t ≠ tSh → ∀ b, some sb = some b → τ b ≠ t := fun t h1 b hb e => by cases hb; exact h1 (e.symm.trans ht)
  have hlen : (ss.set k s').length = ss.length := List.length_set
  rw [hn] at h1 h2
  obtain ⟨h3, -⟩ := h1.stored (k * 7 + i) u
  refine ⟨h.tag.upd U, ⟨vs.set (k * 7 + i) u, by rw [hlen, hn]; exact h3, fun j hj q hq => ?_⟩, fun j hj hjk => ?_, fun j hj hjk => ?_, fun j hj hjk => ?_⟩
  · rw [hlen, hn] at hj
    by_cases e : j = k
    · subst e
      rw [if_pos rfl, getD_set_same (by omega), hs]
      by_cases e2 : q = i
      · subst e2
        rw [List.getElem?_set_self (by rw [h1.1]; omega), List.getElem?_set_self (by rw [shdV_length]; exact hi)]
      · rw [List.getElem?_set_ne (by omega), List.getElem?_set_ne (by omega)]
        exact h2 j hj q hq
    · rw [if_neg e, getD_set_other (fun h => e h.symm), List.getElem?_set_ne (by omega)]
      exact h2 j hj q hq
  · rw [hlen] at hj
    rw [if_neg hjk, getD_set_other (fun h => hjk h.symm)]
    exact (h.ent j hj hjk).upd U (ne _ (by decide)) (ne _ (by simp [tEnt, tSh]))
  · rw [hlen] at hj
    rw [if_neg hjk, getD_set_other (fun h => hjk h.symm)]
    exact (h.root j hj hjk).upd U (ne _ (by decide))
  · rw [hlen] at hj
    rw [if_neg hjk, getD_set_other (fun h => hjk h.symm)]
    exact (h.seg j hj hjk).upd U (ne _ (by simp [tSeg, tSh])) (fun q => ne _ (by simp [tPk, tSh]))
theorem set_set {α : Type} (l : List α) (k : Nat) (x y : α) : (l.set k x).set k y = l.set k y := List.set_set ..
/-- A list of values, m for each of a list's elements, one element more. -/
theorem rows_snoc {α : Type} {m : Nat} {l : List α} {x d : α} {ys news : List Value} {F : Nat → α → Value → List Value} {R : α → Value → Prop} {v : Value} (hl : ys.length = l.length * m) (h : ∀ j, j < l.length → ∃ rv, (∀ i, i < m → ys[j * m + i]? = (F j (l.getD j d) rv)[i]?) ∧ R (l.getD j d) rv) (hn : ∀ i, i < m → news[i]? = (F l.length x v)[i]?) (hR : R x v) :
    ∀ j, j < (l ++ [x]).length → ∃ rv, (∀ i, i < m → (ys ++ news)[j * m + i]? = (F j ((l ++ [x]).getD j d) rv)[i]?) ∧ R ((l ++ [x]).getD j d) rv := fun j hj => by
  by_cases e : j < l.length
  · obtain ⟨rv, h1, h2⟩ := h j e
    have eg : (l ++ [x]).getD j d = l.getD j d := by rw [snoc_get, if_pos e]
    rw [eg]
    refine ⟨rv, fun i hi => ?_, h2⟩
    have hlt : j * m + i < ys.length := by
      rw [hl]
      have : (j + 1) * m ≤ l.length * m := Nat.mul_le_mul_right m e
      rw [Nat.add_mul, Nat.one_mul] at this
      omega
    rw [List.getElem?_append_left hlt]
    exact h1 i hi
  · obtain rfl : j = l.length := by simp at hj; omega
    have eg : (l ++ [x]).getD l.length d = x := by rw [snoc_get, if_neg (Nat.lt_irrefl _), if_pos rfl]
    rw [eg]
    refine ⟨v, fun i hi => ?_, hR⟩
    rw [List.getElem?_append_right (by rw [hl]; omega), hl, show l.length * m + i - l.length * m = i by omega]
    exact hn i hi
/-- A block to which a row has grown is for what it was for, or is new. -/
theorem grown_tag {τ : Nat → Tag} {w w' : World} {t : Tag} {v : Value} {g n cap : Nat} (h : Tg τ w t v) (hg : v.ownBlock = some g ∨ g = w.heap.size) (hlt : g < w'.heap.size) : Tg (ext τ w.heap.size t) w' t (.slice (some ⟨g, 0, none⟩) n cap) := fun b hb => by
  cases hb
  refine ⟨hlt, ?_⟩
  rcases hg with hg | rfl
  · obtain ⟨h1, h2⟩ := h g hg
    rw [ext_old h1]; exact h2
  · exact ext_new (Nat.le_refl _)
/-- The entries have grown by one. -/
theorem EntM.snoc {τ : Nat → Tag} {N k : Nat} {w w' : World} {v y : Value} {es : List (List Int)} {e : List Int} {g cap : Nat} {xs : List Value} (hT : Tg τ w (tEnt k) v) (hx : ∀ j, j < es.length → ∃ y, xs[j]? = some y ∧ ByM τ w y (es.getD j [])) (hl : xs.length = es.length)
    (ho : w'.ownsRow N 25 1 (.slice (some ⟨g, 0, none⟩) (es.length + 1) cap) (es.length + 1) (xs ++ [y])) (hg : w.grownBy w' v.ownBlock) (ha : v.ownBlock = some g ∨ g = w.heap.size) (hlt : g < w'.heap.size) (hy : ByM τ w y e) :
    EntM (ext τ w.heap.size (tEnt k)) N w' k (.slice (some ⟨g, 0, none⟩) (es.length + 1) cap) (es ++ [e]) := by
  have U : Upd τ (ext τ w.heap.size (tEnt k)) w w' v.ownBlock := ⟨hg, fun _ hb => ext_old hb⟩
  have nf : ∀ b, v.ownBlock = some b → τ b ≠ tFix := fun b hb e => by have := (hT b hb).2; rw [e] at this; simp [tFix, tEnt] at this
  refine ⟨grown_tag hT ha hlt, xs ++ [y], by rw [List.length_append]; exact ho, fun j hj => ?_⟩
  by_cases q : j < es.length
  · obtain ⟨z, h1, h2⟩ := hx j q
    refine ⟨z, by rw [List.getElem?_append_left (by omega)]; exact h1, ?_⟩
    rw [snoc_get, if_pos q]
    exact h2.upd U nf
  · obtain rfl : j = es.length := by simp at hj; omega
    refine ⟨y, by rw [List.getElem?_append_right (by omega), hl, Nat.sub_self]; rfl, ?_⟩
    rw [snoc_get, if_neg (Nat.lt_irrefl _), if_pos rfl]
    exact hy.upd U nf
/-- So has the book. -/
theorem BkM.snoc {τ : Nat → Tag} {N : Nat} {w w' : World} {v rv : Value} {l : List Rec} {r : Rec} {g cap : Nat} {ys : List Value} (hT : Tg τ w tBk v) (hl : ys.length = l.length * 5) (hx : ∀ j, j < l.length → ∃ rv, (∀ i, i < 5 → ys[j * 5 + i]? = (recCs (l.getD j rec0) rv)[i]?) ∧ ByM τ w rv (l.getD j rec0).root)
    (ho : w'.ownsRow N 88 5 (.slice (some ⟨g, 0, none⟩) (l.length + 1) cap) (l.length + 1) (ys ++ recCs r rv)) (hg : w.grownBy w' v.ownBlock) (ha : v.ownBlock = some g ∨ g = w.heap.size) (hlt : g < w'.heap.size) (hy : ByM τ w rv r.root) :
    BkM (ext τ w.heap.size tBk) N w' (.slice (some ⟨g, 0, none⟩) (l.length + 1) cap) (l ++ [r]) := by
  have U : Upd τ (ext τ w.heap.size tBk) w w' v.ownBlock := ⟨hg, fun _ hb => ext_old hb⟩
  have nf : ∀ b, v.ownBlock = some b → τ b ≠ tFix := fun b hb e => by have := (hT b hb).2; rw [e] at this; simp [tFix, tBk] at this
  refine ⟨grown_tag hT ha hlt, ys ++ recCs r rv, by rw [List.length_append]; exact ho, ?_⟩
  exact rows_snoc (F := fun _ x v => recCs x v) (R := fun x v => ByM (ext τ w.heap.size tBk) w' v x.root) hl (fun j hj => by obtain ⟨q, h1, h2⟩ := hx j hj; exact ⟨q, h1, h2.upd U nf⟩) (fun i hi => rfl) (hy.upd U nf)
/-- And the answers. -/
theorem AnM.snoc {τ : Nat → Tag} {N : Nat} {w w' : World} {v rv : Value} {l : List Ans} {r : Ans} {g cap : Nat} {ys : List Value} (hT : Tg τ w tAn v) (hl : ys.length = l.length * 5) (hx : ∀ j, j < l.length → ∃ rv, (∀ i, i < 5 → ys[j * 5 + i]? = (ansV (l.getD j ans0) rv)[i]?) ∧ ByM τ w rv (l.getD j ans0).root)
    (ho : w'.ownsRow N 44 5 (.slice (some ⟨g, 0, none⟩) (l.length + 1) cap) (l.length + 1) (ys ++ ansV r rv)) (hg : w.grownBy w' v.ownBlock) (ha : v.ownBlock = some g ∨ g = w.heap.size) (hlt : g < w'.heap.size) (hy : ByM τ w rv r.root) :
    AnM (ext τ w.heap.size tAn) N w' (.slice (some ⟨g, 0, none⟩) (l.length + 1) cap) (l ++ [r]) := by
  have U : Upd τ (ext τ w.heap.size tAn) w w' v.ownBlock := ⟨hg, fun _ hb => ext_old hb⟩
  have nf : ∀ b, v.ownBlock = some b → τ b ≠ tFix := fun b hb e => by have := (hT b hb).2; rw [e] at this; simp [tFix, tAn] at this
  refine ⟨grown_tag hT ha hlt, ys ++ ansV r rv, by rw [List.length_append]; exact ho, ?_⟩
  exact rows_snoc (F := fun _ x v => ansV x v) (R := fun x v => ByM (ext τ w.heap.size tAn) w' v x.root) hl (fun j hj => by obtain ⟨q, h1, h2⟩ := hx j hj; exact ⟨q, h1, h2.upd U nf⟩) (fun i hi => rfl) (hy.upd U nf)

/-- The fleet but for its shards. -/
structure GoB (τ : Nat → Tag) (N : Nat) (w : World) (gp : Nat) (sv bv : Value) (l : List Rec) : Prop where
  low : N ≤ gp
  tag : τ gp = tFl
  box : w.heap[gp]? = some (.cells #[sv, bv] 63 (0, 0))
  bk : BkM τ N w bv l
theorem GoB.upd {τ τ' : Nat → Tag} {N : Nat} {w w' : World} {gp : Nat} {sv bv : Value} {l : List Rec} {row : Option Nat} (h : GoB τ N w gp sv bv l) (u : Upd τ τ' w w' row) (hr : ∀ b, row = some b → τ b ≠ tFl ∧ τ b ≠ tBk ∧ τ b ≠ tFix) : GoB τ' N w' gp sv bv l :=
  ⟨h.low, (u.same gp (lt_heap h.box)).trans h.tag, (u.grow.block gp (lt_heap h.box) (fun e => (hr gp e.symm).1 h.tag)).trans h.box, h.bk.upd u (fun b hb => (hr b hb).2.2) (fun b hb => (hr b hb).2.1)⟩
theorem GoB.goF {τ : Nat → Tag} {N : Nat} {w : World} {gp : Nat} {sv bv : Value} {l : List Rec} {ss : List Shd} {V : Nat → ShV} (h : GoB τ N w gp sv bv l) (hS : ShM τ N w sv ss V) : GoF τ N w gp ⟨ss, l⟩ := ⟨h.low, h.tag, sv, bv, V, h.box, hS, h.bk⟩
theorem GoF.open {τ : Nat → Tag} {N : Nat} {w : World} {gp : Nat} {f : Flt} (h : GoF τ N w gp f) : ∃ sa sc ba bc V, GoB τ N w gp (.slice sa f.shards.length sc) (.slice ba f.book.length bc) f.book ∧ ShM τ N w (.slice sa f.shards.length sc) f.shards V := by
  obtain ⟨h0, h1, sv, bv, V, h2, h3, h4⟩ := h
  obtain ⟨sa, sc, e1, -⟩ := h3.shards
  obtain ⟨ba, bc, e2, -⟩ := h4.recs
  subst e1
  subst e2
  exact ⟨sa, sc, ba, bc, V, ⟨h0, h1, h2, h4⟩, h3⟩
theorem no_row {P : Nat → Prop} : ∀ b, (none : Option Nat) = some b → P b := fun _ hb => by cases hb
/-- A call that only makes memory has ended, and an answer is written into a variable of the caller's own. -/
theorem GoF.five {τ : Nat → Tag} {N : Nat} {w : World} {gp R : Nat} {f : Flt} (h : GoF τ N w gp f) (hR : τ R = tNo) (u0 u1 u2 u3 u4 : Value) : GoF τ N (((((w.setCell ⟨R, 0, none⟩ u0).setCell ⟨R, 1, none⟩ u1).setCell ⟨R, 2, none⟩ u2).setCell ⟨R, 3, none⟩ u3).setCell ⟨R, 4, none⟩ u4) gp f := by
  have hr : ∀ b, some R = some b → τ b = tNo ∨ τ b = tAn := fun b hb => by cases hb; exact .inl hR
  exact ((((h.upd (upd_set τ _ R 0 u0) hr).upd (upd_set τ _ R 1 u1) hr).upd (upd_set τ _ R 2 u2) hr).upd (upd_set τ _ R 3 u3) hr).upd (upd_set τ _ R 4 u4) hr
theorem ByM.five {τ : Nat → Tag} {w : World} {R : Nat} {v : Value} {d : List Int} (h : ByM τ w v d) (hR : τ R = tNo) (u0 u1 u2 u3 u4 : Value) : ByM τ (((((w.setCell ⟨R, 0, none⟩ u0).setCell ⟨R, 1, none⟩ u1).setCell ⟨R, 2, none⟩ u2).setCell ⟨R, 3, none⟩ u3).setCell ⟨R, 4, none⟩ u4) v d := by
  have hr : ∀ b, some R = some b → τ b ≠ tFix := fun b hb => by cases hb; rw [hR]; decide
  exact ((((h.upd (upd_set τ _ R 0 u0) hr).upd (upd_set τ _ R 1 u1) hr).upd (upd_set τ _ R 2 u2) hr).upd (upd_set τ _ R 3 u3) hr).upd (upd_set τ _ R 4 u4) hr
theorem Keep.five {τ τ' : Nat → Tag} {N R : Nat} {w0 w : World} (h : Keep τ τ' N w0 w) (hN : N ≤ w0.heap.size) (hR : w0.heap.size ≤ R) (u0 u1 u2 u3 u4 : Value) : Keep τ τ' N w0 (((((w.setCell ⟨R, 0, none⟩ u0).setCell ⟨R, 1, none⟩ u1).setCell ⟨R, 2, none⟩ u2).setCell ⟨R, 3, none⟩ u3).setCell ⟨R, 4, none⟩ u4) :=
  keep_set (keep_set (keep_set (keep_set (keep_set h hN hR 0 u0) hN hR 1 u1) hN hR 2 u2) hN hR 3 u3) hN hR 4 u4
/-- What a step leaves: an answer, and the fleet. -/
def Went (τ : Nat → Tag) (N gp : Nat) (w w' : World) (av : Value) (fa : Flt × Ans) : Prop := ∃ τ', AnV τ' w' av fa.2 ∧ GoF τ' N w' gp fa.1 ∧ Keep τ τ' N w w'
/-- Nothing was done. -/
theorem went_no {τ : Nat → Tag} {N gp R : Nat} {w w1 : World} {f : Flt} {x : Ans} (h : GoF τ N w gp f) (hN : N ≤ w.heap.size) (hb : Below w.heap.size w w1) (hR : w.heap.size ≤ R) (hx : x.root = []) (u0 u1 u2 u3 u4 : Value) :
    Went τ N gp w (((((w1.setCell ⟨R, 0, none⟩ u0).setCell ⟨R, 1, none⟩ u1).setCell ⟨R, 2, none⟩ u2).setCell ⟨R, 3, none⟩ u3).setCell ⟨R, 4, none⟩ u4) (.agg #[.int .i64 x.err, .int .i64 x.shard, .int .i64 x.place, .int .i64 x.size, .slice none 0 0]) (f, x) :=
  ⟨ext τ w.heap.size tNo, ⟨_, rfl, by rw [hx]; exact byM_nil _ _⟩, (h.upd (upd_call hb tNo) no_row).five (ext_new hR) _ _ _ _ _, (keep_call hb hN tNo).five hN hR _ _ _ _ _⟩

/-- A shard's cell is written that leads nowhere, or to what is there. -/
theorem ShM.turn {τ : Nat → Tag} {N sb n c k i : Nat} {w : World} {ss : List Shd} {V : Nat → ShV} {s' : Shd} {v' : ShV} {u : Value} (h : ShM τ N w (.slice (some ⟨sb, 0, none⟩) n c) ss V) (hn : ss.length = n) (hk : k < n) (hi : i < 7) (hs : shdV s' v' = (shdV (ss.getD k shd0) (V k)).set i u) (h1 : EntM τ N w k v'.1 s'.entries) (h2 : ByM τ w v'.2.1 s'.man.root) (h3 : SegM τ N w k v'.2.2 s'.man.segs) :
    ShM τ N (w.setCell ⟨sb, k * 7 + i, none⟩ u) (.slice (some ⟨sb, 0, none⟩) n c) (ss.set k s') (fun j => if j = k then v' else V j) := by
  have ht := (h.tag sb rfl).2
  have U := upd_set τ w sb (k * 7 + i) u
  have ne : ∀ t : Tag, t ≠ tSh → ∀ b, some sb = some b → τ b ≠ t := fun t h1 b hb e => by cases hb; exact h1 (e.symm.trans ht)
  refine ((h.out k).store (i := i) (u := u) (s' := s') (v' := v') hn hk hi hs).back ?_ ?_ ?_
  · rw [if_pos rfl, getD_set_same (by omega)]; exact h1.upd U (ne _ (by decide)) (ne _ (by simp [tEnt, tSh]))
  · rw [if_pos rfl, getD_set_same (by omega)]; exact h2.upd U (ne _ (by decide))
  · rw [if_pos rfl, getD_set_same (by omega)]; exact h3.upd U (ne _ (by simp [tSeg, tSh])) (fun j => ne _ (by simp [tPk, tSh]))
theorem GoB.turn {τ : Nat → Tag} {N gp sb o : Nat} {w : World} {sv bv u : Value} {l : List Rec} (h : GoB τ N w gp sv bv l) (ht : τ sb = tSh) : GoB τ N (w.setCell ⟨sb, o, none⟩ u) gp sv bv l := h.upd (upd_set τ w sb o u) (fun b hb => by cases hb; rw [ht]; decide)
theorem keep_turn {τ : Nat → Tag} {N sb o : Nat} {w : World} {u : Value} (hN : N ≤ w.heap.size) (hs : N ≤ sb) (ht : τ sb = tSh) : Keep τ τ N w (w.setCell ⟨sb, o, none⟩ u) := keep_upd (upd_set τ w sb o u) hN (fun b hb => by cases hb; rw [ht]; exact ⟨hs, by decide⟩)
/-- A shard's answer is told, its head copied. -/
theorem went_head {τ τ' : Nat → Tag} {N gp R : Nat} {w W w8 : World} {f' : Flt} {k n : Int} {d : List Int} {ta : Option Addr} {tc : Nat} (hF : GoF τ' N W gp f') (hK : Keep τ τ' N w W) (hN : N ≤ w.heap.size) (hR : τ' R = tNo) (hRl : R < W.heap.size) (hRw : w.heap.size ≤ R) (hb8 : Below W.heap.size W w8) (ho8 : w8.ownsRow W.heap.size 5 1 (.slice ta d.length tc) d.length (d.map (Value.int .u8))) (hd : Bytes d) (u0 u1 u2 u3 u4 : Value) :
    Went τ N gp w (((((w8.setCell ⟨R, 0, none⟩ u0).setCell ⟨R, 1, none⟩ u1).setCell ⟨R, 2, none⟩ u2).setCell ⟨R, 3, none⟩ u3).setCell ⟨R, 4, none⟩ u4) (.agg #[.int .i64 0, .int .i64 k, .int .i64 0, .int .i64 n, .slice ta d.length tc]) (f', ⟨0, k, 0, n, d⟩) := by
  have hN7 : N ≤ W.heap.size := Nat.le_trans hN hK.size
  have hr8 : ext τ' W.heap.size tFix R = tNo := (ext_old hRl).trans hR
  exact ⟨ext τ' W.heap.size tFix, ⟨_, rfl, (byM_own ho8 hd).five hr8 _ _ _ _ _⟩, (hF.upd (upd_call hb8 tFix) no_row).five hr8 _ _ _ _ _, (hK.trans (keep_call hb8 hN7 tFix)).five hN hRw _ _ _ _ _⟩

end Go.Proofs.YtkjlchfmplcobahDoor
