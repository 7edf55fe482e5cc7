/- The walk of yearref2.Push. -/
import Derived.Test.YtkjlchfmplcobaaDoorProg
import Derived.Test.YtkjlchfmplcobaaDoorTreeRefTop
import Derived.WalkKit
import Derived.WalkSpells
import Derived.WalkLawsBesides
import Derived.Deep.RegionHeld3
import Derived.BigRegion
import Derived.Laws.AppendOwnNone
import Derived.Test.YtkjlchfmplcobaaDoorRunAB
namespace Go.Proofs.YtkjlchfmplcobaaDoor
open Go.RowKit

set_option maxRecDepth 100000 in
set_option maxHeartbeats 2000000 in
theorem refPush_any (size : Int) (ps : List (List Int)) (b : List Int) (bv : Value) (a : Option Addr) (l c : Nat) (w : World) (hl : ps.length = l) (hv : PartsAt w (.slice a l c) ps) (hnil : a = none → l = 0 ∧ c = 0) (hm : l ≤ maxLen) (hs : ∀ j, (ps.getD j []).length ≤ maxLen) (hz : ∀ j, Bytes (ps.getD j []))
    (hb : BytesAt w bv b) (hbb : Bytes b) (hbl : b.length ≤ maxLen) :
    Calls Tryd.prog 22 #[.agg #[.int .i64 size, .slice a l c], bv] w fun e w' => ∃ v, e = .returned (.tuple #[.agg #[.int .i64 (pushE size ps b).1, v], .int .i64 (pushE size ps b).2.1]) ∧ PartsAt w' v (pushE size ps b).2.2 ∧ Below w.heap.size w w' := by
  obtain ⟨i2, hi2, hz20, hz21, hz22⟩ := info_parts Tryd.info22b
  obtain ⟨ba, bc, rfl⟩ := hb.form
  have hW : Below w.heap.size w ((w.alloc (.cells #[.int .i64 size, .slice a l c] 34)).alloc (.cells #[.int .i64 0, .slice none 0 0] 34)) := ((Below.refl _ _).alloc (Nat.le_refl _) _).alloc (by simp) _
  have cr := refRight_any size 99 ps _ _ (hv.below (Nat.le_refl _) hW) (by rw [hl]; exact hm) hs (by omega)
  have hW0 : ((w.alloc (.cells #[.int .i64 size, .slice a l c] 34)).alloc (.cells #[.int .i64 0, .slice none 0 0] 34)).cell? ⟨w.heap.size, 0, none⟩ = some (.int .i64 size) := by rw [old_cell _ _ _ _ (by simp), new_cell _ _ _ 0 (by simp)]; rfl
  have hW1 : ((w.alloc (.cells #[.int .i64 size, .slice a l c] 34)).alloc (.cells #[.int .i64 0, .slice none 0 0] 34)).cell? ⟨w.heap.size, 1, none⟩ = some (.slice a l c) := by rw [old_cell _ _ _ _ (by simp), new_cell _ _ _ 1 (by simp)]; rfl
  have hW2 : ((w.alloc (.cells #[.int .i64 size, .slice a l c] 34)).alloc (.cells #[.int .i64 0, .slice none 0 0] 34)).cell? ⟨w.heap.size + 1, 0, none⟩ = some (.int .i64 0) := by simp
  have hW3 : ((w.alloc (.cells #[.int .i64 size, .slice a l c] 34)).alloc (.cells #[.int .i64 0, .slice none 0 0] 34)).cell? ⟨w.heap.size + 1, 1, none⟩ = some (.slice none 0 0) := by simp
  have hF2 : ((w.alloc (.cells #[.int .i64 size, .slice a l c] 34)).alloc (.cells #[.int .i64 0, .slice none 0 0] 34)).frozen? ⟨w.heap.size + 1, 0, none⟩ = false := by simp
  have hF3 : ((w.alloc (.cells #[.int .i64 size, .slice a l c] 34)).alloc (.cells #[.int .i64 0, .slice none 0 0] 34)).frozen? ⟨w.heap.size + 1, 1, none⟩ = false := by simp
  have hWs : w.heap.size + 1 < ((w.alloc (.cells #[.int .i64 size, .slice a l c] 34)).alloc (.cells #[.int .i64 0, .slice none 0 0] 34)).heap.size := by simp
  by_cases hR : rightL size 99 ps = false
  · have HP : pushE size ps b = (0, 2, []) := if_pos hR
    rw [HP]
    rw [hR] at cr
    go_enter Tryd.func22, Tryd.ntmps22
    go_wp2_with fail
    refine cr.mono ?_
    rintro e w1 ⟨rfl, hb1⟩
    have r2 := (hb1.cell (p := ⟨w.heap.size + 1, 0, none⟩) hWs).trans hW2
    have r3 := (hb1.cell (p := ⟨w.heap.size + 1, 1, none⟩) hWs).trans hW3
    have f2 := (hb1.frozen (p := ⟨w.heap.size + 1, 0, none⟩) hWs).trans hF2
    have f3 := (hb1.frozen (p := ⟨w.heap.size + 1, 1, none⟩) hWs).trans hF3
    clear cr hW0 hW1 hW2 hW3 hF2 hF3 hs hz hv
    go_wp2_with fail
    exact bodyPost_ret (v := .tuple #[.agg #[.int .i64 0, .slice none 0 0], .int .i64 2]) (by simp [results, Tryd.results22, go_sem, r2, r3]) rfl ⟨_, rfl, .inl ⟨rfl, none, 0, rfl⟩, ((hW.trans (hb1.mono (by omega))).setCell (by simp) _).setCell (by simp) _⟩
  have hR' : rightL size 99 ps = true := by simpa using hR
  rw [hR'] at cr
  by_cases h200 : 200 < b.length
  · have HP : pushE size ps b = (0, 4, []) := by unfold pushE; rw [if_neg hR, if_pos h200]
    rw [HP]
    have j1 : (200 : Int) < (b.length : Int) := by omega
    unfold maxLen at hbl
    go_enter Tryd.func22, Tryd.ntmps22
    go_wp2_with fail
    refine cr.mono ?_
    rintro e w1 ⟨rfl, hb1⟩
    have r2 := (hb1.cell (p := ⟨w.heap.size + 1, 0, none⟩) hWs).trans hW2
    have r3 := (hb1.cell (p := ⟨w.heap.size + 1, 1, none⟩) hWs).trans hW3
    have f2 := (hb1.frozen (p := ⟨w.heap.size + 1, 0, none⟩) hWs).trans hF2
    have f3 := (hb1.frozen (p := ⟨w.heap.size + 1, 1, none⟩) hWs).trans hF3
    clear cr hW0 hW1 hW2 hW3 hF2 hF3 hs hz hv
    go_wp2_with fail
    exact bodyPost_ret (v := .tuple #[.agg #[.int .i64 0, .slice none 0 0], .int .i64 4]) (by simp [results, Tryd.results22, go_sem, r2, r3]) rfl ⟨_, rfl, .inl ⟨rfl, none, 0, rfl⟩, ((hW.trans (hb1.mono (by omega))).setCell (by simp) _).setCell (by simp) _⟩
  have j1 : ¬ (200 : Int) < (b.length : Int) := by omega
  obtain ⟨n, rfl⟩ : ∃ n : Nat, size = n := by
    unfold rightL at hR'
    simp at hR'
    exact Int.eq_ofNat_of_zero_le hR'.1.1.1
  obtain ⟨hn99, hones, hgood⟩ : n ≤ 99 ∧ l = onesN n ∧ goodL ps = true := by
    unfold rightL at hR'
    simp at hR'
    obtain ⟨⟨h2, h3⟩, h4⟩ := hR'
    exact ⟨by omega, by omega, h4⟩
  have HON : Hid (l = onesN n) := hones
  clear hones
  have hl20 : l ≤ 99 := by
    rw [HON.out]
    have hon : ∀ m, onesN m ≤ m := fun m => by
      induction m using Nat.strongRecOn with
      | ind m ih =>
        by_cases h : m = 0
        · subst h; rw [onesN_zero]; exact Nat.le_refl _
        · rw [onesN_more h]
          have := ih (m / 2) (by omega)
          omega
    have := hon n
    omega
  have HP : pushE n ps b = ((n : Int) + 1, 0, pushL ps n (leafL b)) := by unfold pushE; rw [if_neg hR, if_neg h200, Int.toNat_natCast]
  rw [HP]
  clear HP hR hR' h200
  have hlb : (leafL b).length = 32 := leafL_length b
  have hlz : Bytes (leafL b) := leafL_bytes b
  generalize hLB : leafL b = LB at *
  have HLB : Hid (shaL (0 :: b) = LB) := hLB
  clear hLB
  obtain ⟨vs, hvl, hvc, hve, hv1⟩ := hv.src hl
  have hg32 := goodL_get hgood
  rw [hl] at hg32
  unfold maxLen at hbl
  go_enter Tryd.func22, Tryd.ntmps22
  go_wp2_with fail
  refine cr.mono ?_
  rintro e w1 ⟨rfl, hb1⟩
  have hbA : Below w.heap.size w w1 := hW.trans (hb1.mono (by omega))
  have q0 := (hb1.cell (p := ⟨w.heap.size, 0, none⟩) (by show w.heap.size < _; omega)).trans hW0
  have q1 := (hb1.cell (p := ⟨w.heap.size, 1, none⟩) (by show w.heap.size < _; omega)).trans hW1
  have q2 := (hb1.cell (p := ⟨w.heap.size + 1, 0, none⟩) hWs).trans hW2
  have q3 := (hb1.cell (p := ⟨w.heap.size + 1, 1, none⟩) hWs).trans hW3
  have f2 := (hb1.frozen (p := ⟨w.heap.size + 1, 0, none⟩) hWs).trans hF2
  have f3 := (hb1.frozen (p := ⟨w.heap.size + 1, 1, none⟩) hWs).trans hF3
  have hw1 : w.heap.size + 1 < w1.heap.size := Nat.lt_of_lt_of_le hWs hb1.size
  clear cr hb1 hW0 hW1 hW2 hW3 hF2 hF3 hWs hW hs hv
  go_wp2_with fail
  refine (in_any b _ _ (hb.below (Nat.le_refl _) hbA) (by omega)).mono ?_
  rintro e w2 ⟨x2, rfl, ho2, hb2⟩
  have hs2 := hb2.size
  go_wp2_with fail
  refine (refSum_any (0 :: b) _ _ (bytesAt_own ho2) (by simp; omega) (bytes_cons (by decide) (by decide) hbb)).mono ?_
  rintro e w3 ⟨x3, rfl, ho3, hb3⟩
  rw [HLB.out] at ho3
  obtain ⟨da, dc, hx3⟩ := own_form' ho3
  rw [hx3]
  rw [hx3] at ho3
  have hbB : Below w1.heap.size w1 w3 := hb2.trans (hb3.mono hs2)
  have p0 := (hbB.cell (p := ⟨w.heap.size, 0, none⟩) (by show w.heap.size < _; omega)).trans q0
  have p1 := (hbB.cell (p := ⟨w.heap.size, 1, none⟩) (by show w.heap.size < _; omega)).trans q1
  have p2 := (hbB.cell (p := ⟨w.heap.size + 1, 0, none⟩) hw1).trans q2
  have p3 := (hbB.cell (p := ⟨w.heap.size + 1, 1, none⟩) hw1).trans q3
  have g2 := (hbB.frozen (p := ⟨w.heap.size + 1, 0, none⟩) hw1).trans f2
  have g3 := (hbB.frozen (p := ⟨w.heap.size + 1, 1, none⟩) hw1).trans f3
  have hs3 := hbB.size
  have hbC : Below w.heap.size w w3 := hbA.trans (hbB.mono (by omega))
  have ho3' : w3.ownsRow w1.heap.size 5 1 (.slice da 32 dc) 32 (LB.map (Value.int .u8)) := ownsRow_base ho3 hs2
  clear q0 q1 q2 q3 f2 f3 hbB hbA hb2 hb3 ho2 ho3 hb hx3
  have p1a : (w3.alloc (.cells #[] 22)).cell? ⟨w.heap.size, 1, none⟩ = some (.slice a l c) := by rw [old_cell _ _ _ _ (by omega)]; exact p1
  have hvc3 : ∀ ad, a = some ad → ∀ j u, vs[j]? = some u → (w3.alloc (.cells #[] 22)).cell? (ad.add j) = some u := fun ad ha j u hu => by
    have h := hvc ad ha j u hu
    have hlt : (ad.add j).block < w.heap.size := World.block_lt_of_cell? w _ h
    rw [World.cell?_alloc_lt _ _ _ (Nat.lt_of_lt_of_le hlt hbC.size), hbC.cell hlt]
    exact h
  go_wp2_with (at_builtin; refine wpList_append_parts rfl (.tmp 20) (.tmp 22) 26 rfl w3.heap.size 22 i2 (.slice none 0 0) 24 Tryd.underlying26 hi2 hz20 hz21 hz22 rfl _ 0 [] rfl (World.ownsRow_lit w3 #[] 0 (Nat.le_refl _) (by unfold maxLen; omega) rfl) a l c vs rfl hnil hvl hvc3 hv1 (by unfold maxLen; omega) (by omega) (by simp) ?_; intro lv w4 ho4 hg4; have hbD : Below w3.heap.size w3 w4 := ((Below.refl _ _).alloc (Nat.le_refl _) _).grown hg4 (by simp) (fun q h => Nat.le_of_eq (Option.some.inj h)); have r0 : w4.cell? ⟨w.heap.size, 0, none⟩ = some (.int .i64 n) := (hbD.cell (p := ⟨w.heap.size, 0, none⟩) (by show w.heap.size < _; omega)).trans p0; clear hg4 hvc3 p1a)
  obtain ⟨la, lc, hlv⟩ := own_form' ho4
  rw [Nat.zero_add] at hlv
  rw [hlv]
  have ho4' : w4.ownsRow w3.heap.size 22 1 (.slice la l lc) l (vs.take l) := by rw [List.take_of_length_le (by omega), ← hlv]; rw [Nat.zero_add, List.nil_append] at ho4; exact ho4
  have ho3b := own_below ho3' hbD (Nat.le_refl _)
  clear ho4 hlv ho3' hvc hv1
  go_loopw [6, 7, 8] (fun dv lv nv wr => ∃ (r m : Nat) (d : List Int) (da : Option Addr) (dc : Nat) (la : Option Addr) (lc : Nat), r ≤ n ∧ Hid (m = onesN r) ∧ m ≤ l ∧ nv = .int .i64 r ∧ dv = .slice da 32 dc ∧ lv = .slice la m lc ∧ Hid (pushL ps n LB = pushL (ps.take m) r d) ∧ Hid (Bytes d) ∧
      wr.ownsRow w1.heap.size 5 1 (.slice da 32 dc) 32 (d.map (Value.int .u8)) ∧ wr.ownsRow w3.heap.size 22 1 (.slice la m lc) m (vs.take m) ∧ Below w3.heap.size w3 wr) (fun _ _ nv _ => (intOf nv).toNat)
  case atStart => exact ⟨n, l, LB, da, dc, la, lc, Nat.le_refl _, HON, Nat.le_refl _, rfl, rfl, rfl, (by show _ = _; rw [List.take_of_length_le (by omega)]), hlz, ho3b, ho4', hbD⟩
  case round =>
    obtain ⟨r, m, d, da, dc, la, lc, hr, HM, hml, rfl, rfl, rfl, HPU, HBD, hod, hol, hb⟩ := hrel
    clear ho3b ho4' hbD r0
    have hbW : Below w.heap.size w wr := hbC.trans (hb.mono (by omega))
    have hd32 : d.length = 32 := by simpa using hod.1
    have hsr := hb.size
    by_cases ho : r % 2 = 1
    · have hm0 : m ≠ 0 := by rw [HM.out, onesN_more (by omega)]; omega
      have HM2 : Hid (m - 1 = onesN (r / 2)) := by
        show m - 1 = onesN (r / 2)
        have := HM.out
        rw [onesN_more (by omega), ho] at this
        omega
      obtain ⟨gl, rfl, hgb, hgl, hmc, hlc⟩ := own_some hol hm0
      unfold maxLen at hlc
      obtain ⟨pa, pc, hvj, hBj⟩ := hve (m - 1) (by omega)
      have h32 := hg32 (m - 1) (by omega)
      have hzj := hz (m - 1)
      rw [h32] at hvj hBj
      have hcj : wr.cell? ⟨gl, m - 1, none⟩ = some (.slice pa 32 pc) := by rw [hol.cellAt (m - 1) (by omega), List.getElem?_take, if_pos (by omega)]; exact hvj
      have HPU2 : Hid (pushL ps n LB = pushL (ps.take (m - 1)) (r / 2) (nodeL (ps.getD (m - 1) []) d)) := HPU.out.trans (push_step (by omega) hm0 ho)
      have hBr := hBj.below (Nat.le_refl _) hbW
      have hol2 := own_shrink (k := m - 1) hol (by omega)
      rw [List.take_take, Nat.min_eq_left (by omega)] at hol2
      have i0 : (1 : Int) ≤ (m : Int) := by omega
      have i1 : (m : Int) - 1 < (m : Int) := by omega
      have i3 : (m : Int) - 1 ≤ (lc : Int) := by omega
      have e1 : IntKind.i64.wrap ((m : Int) - 1) = (m : Int) - 1 := by rw [IntKind.wrap_i64]; omega
      have t1 : ((m : Int) - 1).toNat = m - 1 := by omega
      have m1 : Int.tmod (r : Int) 2 = 1 := by rw [Int.tmod_eq_emod_of_nonneg (by omega)]; omega
      have m2 : Int.tdiv (r : Int) 2 = ((r / 2 : Nat) : Int) := by rw [Int.tdiv_eq_ediv_of_nonneg (by omega)]; omega
      clear HPU HM hve hg32 hz hvj hBj hol
      generalize ps.getD (m - 1) [] = z at *
      go_wp2_with fail
      refine (pair_any z d _ _ _ hBr (bytesAt_own hod) (by omega)).mono ?_
      rintro e w5 ⟨x5, rfl, ho5, hb5⟩
      have hs5 := hb5.size
      go_wp2_with fail
      refine (refSum_any (1 :: (z ++ d)) _ _ (bytesAt_own ho5) (by simp; omega) (bytes_cons (by decide) (by decide) (bytes_append hzj HBD.out))).mono ?_
      rintro e w6 ⟨x6, rfl, ho6, hb6⟩
      obtain ⟨da6, dc6, hx6⟩ := own_form' ho6
      rw [hx6]
      rw [hx6] at ho6
      have hb56 : Below wr.heap.size wr w6 := hb5.trans (hb6.mono hs5)
      have hbE : Below w3.heap.size w3 w6 := hb.trans (hb56.mono hsr)
      have hol6 := own_below hol2 hb56 (Nat.le_refl _)
      have hod6 : w6.ownsRow w1.heap.size 5 1 (.slice da6 32 dc6) 32 ((nodeL z d).map (Value.int .u8)) := ownsRow_base ho6 (by omega)
      clear ho6 hx6 ho5 hb5 hb6 hb56 hol2 hod hBr hb
      go_wp2_with fail
      go_roundw
      case rel => exact ⟨r / 2, m - 1, nodeL z d, da6, dc6, _, lc, by omega, HM2, by omega, by go_num, rfl, by first | rfl | go_num, HPU2, nodeL_bytes _ _, hod6, hol6, hbE⟩
      case measure => simp [intOf]; omega
    · have HPE : Hid (pushL ps n LB = ps.take m ++ [d]) := HPU.out.trans (pushL_even ho)
      have m1 : Int.tmod (r : Int) 2 = 0 := by rw [Int.tmod_eq_emod_of_nonneg (by omega)]; omega
      have r0 := (hb.cell (p := ⟨w.heap.size, 0, none⟩) (by show w.heap.size < _; omega)).trans p0
      have r2 := (hb.cell (p := ⟨w.heap.size + 1, 0, none⟩) (by show w.heap.size + 1 < _; omega)).trans p2
      have r3 := (hb.cell (p := ⟨w.heap.size + 1, 1, none⟩) (by show w.heap.size + 1 < _; omega)).trans p3
      have s2 := (hb.frozen (p := ⟨w.heap.size + 1, 0, none⟩) (by show w.heap.size + 1 < _; omega)).trans g2
      have s3 := (hb.frozen (p := ⟨w.heap.size + 1, 1, none⟩) (by show w.heap.size + 1 < _; omega)).trans g3
      have e9 : IntKind.i64.wrap ((n : Int) + 1) = (n : Int) + 1 := by rw [IntKind.wrap_i64]; omega
      clear HPU HM hz
      go_wp2_with fail
      go_region_held3 (fun w' => w'.cell? ⟨w.heap.size, 0, none⟩ = some (.int .i64 (n : Int))) (first | exact r0 | exact y0 | (go_keep; done)) (first | (refine step_append_kept _ rfl (.tmp 48) (.tmp 50) 26 rfl w3.heap.size 22 i2 (.slice none 0 0) 24 Tryd.underlying26 hi2 hz20 hz21 hz22 rfl _ _ _ rfl (by exact hol.alloc (.cells #[.slice da 32 dc] 22)) ⟨wr.heap.size, 0, none⟩ 1 1 [.slice da 32 dc] rfl rfl (by exact cell_one_new wr _ _) (by intro u hu; simp at hu; subst hu; rfl) (by unfold maxLen; omega) (by omega) (by show w3.heap.size ≤ (wr.alloc _).heap.size; simp; omega) ?_; intro v6 w6 ho6 hg6 hk6; have hbF : Below w3.heap.size wr w6 := grown_old hg6 (fun q h => own_block hol h) (by omega); have y0 := (hbF.cell (p := ⟨w.heap.size, 0, none⟩) (by show w.heap.size < _; omega)).trans r0; have y2 := (hbF.cell (p := ⟨w.heap.size + 1, 0, none⟩) (by show w.heap.size + 1 < _; omega)).trans r2; have y3 := (hbF.cell (p := ⟨w.heap.size + 1, 1, none⟩) (by show w.heap.size + 1 < _; omega)).trans r3; have z2 := (hbF.frozen (p := ⟨w.heap.size + 1, 0, none⟩) (by show w.heap.size + 1 < _; omega)).trans s2; have z3 := (hbF.frozen (p := ⟨w.heap.size + 1, 1, none⟩) (by show w.heap.size + 1 < _; omega)).trans s3; obtain ⟨a6, c6, hv6⟩ := own_form' ho6; rw [hv6]))
      have hgS : ∀ u1 u2, w6.grownBy ((w6.setCell ⟨w.heap.size + 1, 0, none⟩ u1).setCell ⟨w.heap.size + 1, 1, none⟩ u2) (some (w.heap.size + 1)) := fun u1 u2 => grownBy_setCell (grownBy_setCell (World.grownBy.refl _ _) _ _) _ _
      have hbG : Below w.heap.size w w6 := hbW.trans (hbF.mono (by omega))
      have HBE : ∀ u1 u2, Below w.heap.size w ((w6.setCell ⟨w.heap.size + 1, 0, none⟩ u1).setCell ⟨w.heap.size + 1, 1, none⟩ u2) := fun u1 u2 => (hbG.setCell (by simp) _).setCell (by simp) _
      have hod6 : w6.ownsRow w1.heap.size 5 1 (.slice da 32 dc) 32 (d.map (Value.int .u8)) := (show (wr.alloc (.cells #[.slice da 32 dc] 22)).drew.ownsRow w1.heap.size 5 1 (.slice da 32 dc) 32 (d.map (Value.int .u8)) from hod.alloc _).kept hg6 (own_ne hod hol (by decide)).or
      have htl : (ps.take m).length = m := by rw [List.length_take]; omega
      have HPA : ∀ u1 u2, PartsAt ((w6.setCell ⟨w.heap.size + 1, 0, none⟩ u1).setCell ⟨w.heap.size + 1, 1, none⟩ u2) (.slice a6 (m + 1) c6) (pushL ps n LB) := fun u1 u2 => by
        rw [HPE.out]
        rw [hv6] at ho6
        refine parts_of_row (ho6.kept (hgS u1 u2) ?_) (by rw [List.length_append, htl]; rfl) (fun j hj => ?_)
        · cases hq : (Value.slice a6 (m + 1) c6).ownBlock with
          | none => exact .inl rfl
          | some q => right; intro e; have := own_block ho6 hq; cases e; omega
        · by_cases hjm : j < m
          · obtain ⟨pa, pc, h1, h2⟩ := hve j (by omega)
            refine ⟨pa, (ps.getD j []).length, pc, ?_, ?_⟩
            · rw [List.getElem?_append_left (by rw [List.length_take]; omega), List.getElem?_take, if_pos hjm]; exact h1
            · have eg : (ps.take m ++ [d]).getD j [] = ps.getD j [] := by rw [List.getD_eq_getElem?_getD, List.getElem?_append_left (by omega), List.getElem?_take, if_pos hjm, ← List.getD_eq_getElem?_getD]
              rw [eg]
              exact h2.below (Nat.le_refl _) (HBE u1 u2)
          · obtain rfl : j = m := by omega
            refine ⟨da, 32, dc, ?_, ?_⟩
            · rw [List.getElem?_append_right (by rw [List.length_take]; omega), List.length_take, Nat.min_eq_left (by omega), Nat.sub_self]; rfl
            · rw [List.getD_eq_getElem?_getD, List.getElem?_append_right (by omega), htl, Nat.sub_self]
              refine bytesAt_own (hod6.kept (hgS u1 u2) ?_)
              cases hq : (Value.slice da 32 dc).ownBlock with
              | none => exact .inl rfl
              | some q => right; intro e; have := own_block hod6 hq; cases e; omega
      clear hod6 hgS hbG ho6 hg6 hk6 hod hol hve y0 r0 r2 r3 s2 s3 hbF
      go_wp2_with fail
      exact bodyPost_ret (v := .tuple #[.agg #[.int .i64 ((n : Int) + 1), .slice a6 (m + 1) c6], .int .i64 0]) (by simp [results, Tryd.results22, go_sem, y2, y3]) rfl ⟨_, rfl, HPA _ _, HBE _ _⟩

end Go.Proofs.YtkjlchfmplcobaaDoor
