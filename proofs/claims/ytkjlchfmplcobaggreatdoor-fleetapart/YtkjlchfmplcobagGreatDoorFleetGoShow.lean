/- The walks of entriesOf, copyOfRecord, slices.IndexFunc over records: package fleet as it landed. -/
import Derived.Test.YtkjlchfmplcobagGreatDoorProg
import Derived.Test.YtkjlchfmplcobagGreatDoorRunAK
import Derived.Test.YtkjlchfmplcobagGreatDoorFleetGoAsked
import Derived.Test.YtkjlchfmplcobagGreatDoorRunAE
import Derived.Test.YtkjlchfmplcobagGreatDoorShelfGoVerify
import Derived.WalkKit
import Derived.WalkSpells
import Derived.WalkLawsBesides
import Derived.Deep.QuietTactic
import Derived.BigQuiet
namespace Go.Proofs.YtkjlchfmplcobagGreatDoor
open Go.RowKit

set_option maxRecDepth 100000 in
set_option maxHeartbeats 1000000 in
theorem entriesOf_any (hVer : VerifyOC) (s : Shd) (ea ra ga : Option Addr) (ec rc gc : Nat) (w : World) (hR : Ready w) (hE : Lists w ea s.entries.length ec s.entries) (hr : Some' w (.slice ra s.man.root.length rc) s.man.root) (hg : SegsAt w (.slice ga s.man.segs.length gc) s.man.segs) :
    Calls Tryz.prog 27 #[.agg #[.int .i64 s.from', .int .i64 s.to', .int .i64 s.state, .slice ea s.entries.length ec, .int .i64 s.man.size, .slice ra s.man.root.length rc, .slice ga s.man.segs.length gc]] w fun e w' => ∃ xa xn xc, e = .returned (.tuple #[.slice xa xn xc, .int .i64 (contentL s).2]) ∧ Lists w' xa xn xc (contentL s).1 ∧ (xa = ea ∧ (contentL s).1 = s.entries ∨ ∀ b off, xa = some ⟨b, off, none⟩ → w.heap.size ≤ b) ∧ Below w.heap.size w w' := by
  have b0 : Below w.heap.size w (w.alloc (.cells #[.int .i64 s.from', .int .i64 s.to', .int .i64 s.state, .slice ea s.entries.length ec, .int .i64 s.man.size, .slice ra s.man.root.length rc, .slice ga s.man.segs.length gc] 53)) := (Below.refl _ _).alloc (Nat.le_refl _) _
  obtain ⟨u0, u1, u2, u3, u4, u5, u6⟩ := box_seven (box_new w #[.int .i64 s.from', .int .i64 s.to', .int .i64 s.state, .slice ea s.entries.length ec, .int .i64 s.man.size, .slice ra s.man.root.length rc, .slice ga s.man.segs.length gc] 53)
  have hV := hVer s.man _ _ (hR.below b0) ⟨_, _, rfl, hr.below b0, hg.below b0⟩
  by_cases h4 : s.state = 4
  · have HC : Hid (contentL s = ((verifyL s.man).1, (verifyL s.man).2.1)) := by show _ = _; unfold contentL; rw [if_pos h4]
    rw [HC.out]
    rw [h4] at u2 b0 hV u0 u1 u3 u4 u5 u6
    rw [h4]
    generalize verifyL s.man = VF at *
    obtain ⟨VL, E1, E2⟩ := VF
    dsimp only at hV ⊢
    clear HC
    go_enter Tryz.func27, Tryz.ntmps27
    go_wp2_with fail
    generalize w.alloc (.cells #[.int .i64 s.from', .int .i64 s.to', .int .i64 4, .slice ea s.entries.length ec, .int .i64 s.man.size, .slice ra s.man.root.length rc, .slice ga s.man.segs.length gc] 53) = w0 at *
    refine hV.mono ?_
    rintro e w1 ⟨xa, xn, xc, rfl, hL, hlow, hb1⟩
    have HLow : Hid (∀ b off, xa = some ⟨b, off, none⟩ → w.heap.size ≤ b) := fun b off h => Nat.le_trans b0.size (hlow b off h)
    clear hlow
    have d2 : Below w1.heap.size w1 (w1.alloc (.cells #[.int .i64 E1, .int .i64 E2] 32)) := (Below.refl _ _).alloc (Nat.le_refl _) _
    have b1 := b0.trans (hb1.mono b0.size)
    have b2 := b1.trans (d2.mono b1.size)
    have hL2 := hL.lists.below d2
    obtain ⟨f0, f1, -, -⟩ := box_two (box_new w1 #[.int .i64 E1, .int .i64 E2] 32)
    clear hV u0 u1 u2 u3 u4 u5 u6 hL
    go_wp2_with fail
    generalize w1.alloc (.cells #[.int .i64 E1, .int .i64 E2] 32) = w2 at *
    go_quiet (fail)
    go_wp2_with fail
    go_ret2
    exact ⟨xa, xn, xc, rfl, hL2.below (below_drewN' (Below.refl _ _) _), .inr HLow.out, below_drewN' b2 _⟩
  · have HC : Hid (contentL s = (s.entries, 0)) := by show _ = _; unfold contentL; rw [if_neg h4]
    have h4' : (s.state != 4) = true := by simpa using h4
    rw [HC.out]
    have hE0 := hE.below b0
    clear HC h4 hV
    go_enter Tryz.func27, Tryz.ntmps27
    go_wp2_with fail
    go_ret2
    exact ⟨ea, _, ec, rfl, hE0, .inl ⟨rfl, by trivial⟩, b0⟩
set_option maxRecDepth 100000 in
set_option maxHeartbeats 1000000 in
theorem copyOfRecord_any (r : Rec) (v : Value) (w : World) (h : Some' w v r.root) (hd : r.root.length ≤ 1000000) :
    Calls Tryz.prog 31 #[.agg #[.int .i64 r.shard, .int .i64 r.from', .int .i64 r.to', .int .i64 r.size, v]] w fun e w' => ∃ xa xc, e = .returned (.agg #[.int .i64 r.shard, .int .i64 r.from', .int .i64 r.to', .int .i64 r.size, .slice xa r.root.length xc]) ∧ w'.ownsRow w.heap.size 5 1 (.slice xa r.root.length xc) r.root.length (r.root.map (Value.int .u8)) ∧ Below w.heap.size w w' := by
  obtain ⟨va, vc, rfl⟩ := h.at'.form
  have b0 : Below w.heap.size w ((w.alloc (.cells #[.int .i64 r.shard, .int .i64 r.from', .int .i64 r.to', .int .i64 r.size, .slice va r.root.length vc] 44)).alloc (.cells #[.int .i64 0, .int .i64 0, .int .i64 0, .int .i64 0, .slice none 0 0] 44)) := ((Below.refl _ _).alloc (Nat.le_refl _) _).alloc (by simp) _
  have x0 := box_one w #[.int .i64 r.shard, .int .i64 r.from', .int .i64 r.to', .int .i64 r.size, .slice va r.root.length vc] 44 (.cells #[.int .i64 0, .int .i64 0, .int .i64 0, .int .i64 0, .slice none 0 0] 44)
  have y0 := box_last w (.cells #[.int .i64 r.shard, .int .i64 r.from', .int .i64 r.to', .int .i64 r.size, .slice va r.root.length vc] 44) #[.int .i64 0, .int .i64 0, .int .i64 0, .int .i64 0, .slice none 0 0] 44
  have z0 : ((w.alloc (.cells #[.int .i64 r.shard, .int .i64 r.from', .int .i64 r.to', .int .i64 r.size, .slice va r.root.length vc] 44)).alloc (.cells #[.int .i64 0, .int .i64 0, .int .i64 0, .int .i64 0, .slice none 0 0] 44)).heap.size = w.heap.size + 2 := by simp
  have hC := copyOf_any r.size r.root _ _ (h.below b0) hd
  obtain ⟨u0, u1, u2, u3, u4⟩ := box_five x0
  go_enter Tryz.func31, Tryz.ntmps31
  go_wp2_with fail
  generalize (w.alloc (.cells #[.int .i64 r.shard, .int .i64 r.from', .int .i64 r.to', .int .i64 r.size, .slice va r.root.length vc] 44)).alloc (.cells #[.int .i64 0, .int .i64 0, .int .i64 0, .int .i64 0, .slice none 0 0] 44) = w0 at *
  refine hC.mono ?_
  rintro e w1 ⟨xa, xc, rfl, ho1, hb1⟩
  have b1 := b0.trans (hb1.mono b0.size)
  have x1 := box_kept x0 hb1
  have y1 := box_kept y0 hb1
  rw [z0] at ho1
  obtain ⟨p0, p1, p2, p3, p4⟩ := box_five x1
  obtain ⟨f0, f1, f2, f3, f4⟩ := five_free x1
  have x2 : ((w1.setCell ⟨w.heap.size, 3, none⟩ (.int .i64 r.size)).setCell ⟨w.heap.size, 4, none⟩ (.slice xa r.root.length xc)).heap[w.heap.size]? = some (.cells #[.int .i64 r.shard, .int .i64 r.from', .int .i64 r.to', .int .i64 r.size, .slice xa r.root.length xc] 44 (0, 0)) := by
    have h0 := heap_setCell_same w1 w.heap.size 3 _ _ (.int .i64 r.size) x1
    exact heap_setCell_same _ w.heap.size 4 _ _ (.slice xa r.root.length xc) h0
  have y2 : ((w1.setCell ⟨w.heap.size, 3, none⟩ (.int .i64 r.size)).setCell ⟨w.heap.size, 4, none⟩ (.slice xa r.root.length xc)).heap[w.heap.size + 1]? = some (.cells #[.int .i64 0, .int .i64 0, .int .i64 0, .int .i64 0, .slice none 0 0] 44 (0, 0)) := box_set_far (box_set_far y1 (by omega)) (by omega)
  have ho2 := ownsRow_setCell_below (ownsRow_setCell_below ho1 (a := ⟨w.heap.size, 3, none⟩) (show w.heap.size < _ by omega) (.int .i64 r.size)) (a := ⟨w.heap.size, 4, none⟩) (show w.heap.size < _ by omega) (.slice xa r.root.length xc)
  have b2 := (b1.setCell (p := ⟨w.heap.size, 3, none⟩) (Nat.le_refl _) (.int .i64 r.size)).setCell (p := ⟨w.heap.size, 4, none⟩) (Nat.le_refl _) (.slice xa r.root.length xc)
  clear hC u0 u1 u2 u3 u4 x0 y0 x1 y1 ho1
  obtain ⟨a0, a1, a2, a3, a4⟩ := box_five x2
  obtain ⟨t0, t1, t2, t3, t4⟩ := box_five y2
  obtain ⟨g0, g1, g2, g3, g4⟩ := five_free y2
  obtain ⟨s0, s1, s2, s3, s4⟩ := box_five (five_set y2 (.int .i64 r.shard) (.int .i64 r.from') (.int .i64 r.to') (.int .i64 r.size) (.slice xa r.root.length xc))
  have ho3 := five_own ho2 (show w.heap.size + 1 < w.heap.size + 2 by omega) (.int .i64 r.shard) (.int .i64 r.from') (.int .i64 r.to') (.int .i64 r.size) (.slice xa r.root.length xc)
  have b3 := five_below b2 (Nat.le_succ w.heap.size) (.int .i64 r.shard) (.int .i64 r.from') (.int .i64 r.to') (.int .i64 r.size) (.slice xa r.root.length xc)
  go_wp2_with fail
  exact bodyPost_ret (v := .agg #[.int .i64 r.shard, .int .i64 r.from', .int .i64 r.to', .int .i64 r.size, .slice xa r.root.length xc]) (by simp [results, Tryz.results31, go_sem, s0, s1, s2, s3, s4]) rfl ⟨xa, xc, rfl, ownsRow_base ho3 (by omega), b3⟩
theorem idx_row {b : List Rec} {k : Int} {j : Nat} (hj : j < b.length) (h : (b.getD j rec0).shard = k) (hb : ∀ i, i < j → ¬ (b.getD i rec0).shard = k) : rowOf b k = some j :=
  find_range hj (decide_eq_true h) (fun i hi => decide_eq_false (hb i hi))
theorem idx_norow {b : List Rec} {k : Int} (h : ∀ j, j < b.length → ¬ (b.getD j rec0).shard = k) : rowOf b k = none :=
  List.find?_eq_none.2 (fun j hj => by rw [decide_eq_true_eq]; exact h j (List.mem_range.1 hj))
set_option maxRecDepth 100000 in
set_option maxHeartbeats 1000000 in
theorem row1_any (a k : Int) (r : Bool) (hr : r = (a == k)) (v1 v2 v3 v4 : Value) (B : Nat) (w : World) (hB : w.heap[B]? = some (.cells #[.int .i64 k] 3 (0, 0))) :
    Calls Tryz.prog 26 #[.agg #[.int .i64 a, v1, v2, v3, v4], .pointer (some ⟨B, 0, none⟩)] w fun e w' => e = .returned (.bool r) ∧ Below w.heap.size w w' := by
  have b0 : Below w.heap.size w (w.alloc (.cells #[.int .i64 a, v1, v2, v3, v4] 44)) := (Below.refl _ _).alloc (Nat.le_refl _) _
  obtain ⟨h0, h1⟩ := box_cell (box_kept hB b0)
  have HR : Hid (r = (a == k)) := hr
  clear hr
  go_enter Tryz.func26, Tryz.ntmps26
  go_wp2_with fail
  go_ret
  exact ⟨by rw [HR.out]; rfl, b0⟩
set_option maxRecDepth 100000 in
set_option maxHeartbeats 2000000 in
theorem row_any (b : List Rec) (k : Int) (ba : Option Addr) (n c B : Nat) (w : World) (hS : RecsAt w (.slice ba n c) b) (hn : b.length = n) (hB : w.heap[B]? = some (.cells #[.int .i64 k] 3 (0, 0))) :
    Calls Tryz.prog 25 #[.slice ba n c, .func (.func 26) #[] #[.pointer (some ⟨B, 0, none⟩)]] w fun e w' => e = .returned (.int .i64 (idxOf (rowOf b k))) ∧ Below w.heap.size w w' := by
  obtain ⟨sa', sc', e, hc1, hc2, -, hS⟩ := hS
  rw [hn] at e hc1 hS
  cases e
  unfold maxLen at hc2
  have H1 : ∀ j : Nat, Hid (j < n → (b.getD j rec0).shard = k → (∀ i, i < j → ¬ (b.getD i rec0).shard = k) → rowOf b k = some j) := fun j h1 h2 h3 => idx_row (by omega) h2 h3
  have H2 : Hid ((∀ j, j < n → ¬ (b.getD j rec0).shard = k) → rowOf b k = none) := fun h => idx_norow (fun j hj => h j (by omega))
  go_enter Tryz.func25, Tryz.ntmps25
  go_wp2_with fail
  go_loopw [8] (fun kv wr => ∃ j : Nat, j ≤ n ∧ kv = .int .i64 j ∧ Hid (∀ i, i < j → ¬ (b.getD i rec0).shard = k) ∧ Below w.heap.size w wr) (fun kv _ => n - (intOf kv).toNat)
  case atStart => exact ⟨0, Nat.zero_le _, rfl, fun _ hj => absurd hj (Nat.not_lt_zero _), Below.refl _ _⟩
  case round =>
    obtain ⟨wo, rfl⟩ : ∃ x, x = wr := ⟨wr, rfl⟩
    obtain ⟨j, hj, rfl, HO, hbr⟩ := hrel
    have hsr := hbr.size
    by_cases hlt : j < n
    · have hlt' : (j : Int) < n := by omega
      obtain ⟨g, o, rfl, hg, hcs⟩ := hS.resolve_left (by omega)
      obtain ⟨d0, d1, d2, d3, ra, rc, d4, -⟩ := (hcs j hlt).below hg hbr
      have hC := fun r hr v1 v2 v3 v4 => row1_any (b.getD j rec0).shard k r hr v1 v2 v3 v4 B wo (box_kept hB hbr)
      have HV := H1 j
      have HF : Hid (¬ (b.getD j rec0).shard = k → ∀ i, i < j + 1 → ¬ (b.getD i rec0).shard = k) := fun h i hi => by
        by_cases e : i = j
        · rw [e]; exact h
        · exact HO.out i (by omega)
      clear hcs hS H1 H2
      by_cases hin : (b.getD j rec0).shard = k
      · have HE : Hid (rowOf b k = some j) := HV.out hlt hin HO.out
        replace hC := hC true (by simpa using hin)
        clear hin HF HV HO
        generalize b.getD j rec0 = X at *
        go_wp2_with fail
        refine (hC _ _ _ _).mono ?_
        rintro e w5 ⟨rfl, hb5⟩
        go_wp2_with fail
        go_ret
        exact ⟨by rw [HE.out]; rfl, hbr.trans (hb5.mono hsr)⟩
      · replace hC := hC false (by simpa using hin)
        have HF2 : Hid (∀ i, i < j + 1 → ¬ (b.getD i rec0).shard = k) := HF.out hin
        clear hin HF HV HO
        generalize b.getD j rec0 = X at *
        go_wp2_with fail
        refine (hC _ _ _ _).mono ?_
        rintro e w5 ⟨rfl, hb5⟩
        go_wp2_with fail
        go_roundw
        case rel => exact ⟨j + 1, by omega, by go_num, HF2, hbr.trans (hb5.mono hsr)⟩
        case measure => simp [intOf]; omega
    · obtain rfl : j = n := by omega
      have hnl : ¬ (j : Int) < j := by omega
      have HE : Hid (rowOf b k = none) := H2.out HO.out
      clear H1 H2 HO hS
      go_wp2_with fail
      go_ret
      exact ⟨by rw [HE.out]; rfl, hbr⟩

end Go.Proofs.YtkjlchfmplcobagGreatDoor
