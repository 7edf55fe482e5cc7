/- FleetGoShow, FleetOff, FleetOffZ, as one text. -/
import Derived.Test.YtkjlchfmplcobagGreatDoorProg
import Derived.Test.YtkjlchfmplcobagGreatDoorRunAP
import Derived.Test.YtkjlchfmplcobagGreatDoorFleetGoAsked
import Derived.Test.YtkjlchfmplcobagGreatDoorRunAT
import Derived.Test.YtkjlchfmplcobagGreatDoorShelfGoVerify
import Derived.WalkKit
import Derived.WalkSpells
import Derived.WalkLawsBesides
import Derived.Deep.QuietTactic
import Derived.BigQuiet
import Derived.Test.YtkjlchfmplcobagGreatDoorRunAL
/- The walks of entriesOf, copyOfRecord, slices.IndexFunc over records: package fleet as it landed. -/
namespace Go.Proofs.YtkjlchfmplcobagGreatDoor
open Go.RowKit

set_option maxRecDepth 100000 in
set_option maxHeartbeats 1000000 in
theorem entriesOf_any (hVer : VerifyOC) (s : Shd) (ea ra ga : Option Addr) (ec rc gc : Nat) (w : World) (hR : Ready w) (hE : Lists w ea s.entries.length ec s.entries) (hr : Some' w (.slice ra s.man.root.length rc) s.man.root) (hg : SegsAt w (.slice ga s.man.segs.length gc) s.man.segs) :
    Calls Tryz.prog 27 #[.agg #[.int .i64 s.from', .int .i64 s.to', .int .i64 s.state, .slice ea s.entries.length ec, .int .i64 s.man.size, .slice ra s.man.root.length rc, .slice ga s.man.segs.length gc]] w fun e w' => ∃ xa xn xc, e = .returned (.tuple #[.slice xa xn xc, .int .i64 (contentL s).2]) ∧ Lists w' xa xn xc (contentL s).1 ∧ (xa = ea ∧ (contentL s).1 = s.entries ∨ ∀ b off, xa = some ⟨b, off, none⟩ → w.heap.size ≤ b) ∧ Below w.heap.size w w' := by
  have b0 : Below w.heap.size w (w.alloc (.cells #[.int .i64 s.from', .int .i64 s.to', .int .i64 s.state, .slice ea s.entries.length ec, .int .i64 s.man.size, .slice ra s.man.root.length rc, .slice ga s.man.segs.length gc] 53)) := (Below.refl _ _).alloc (Nat.le_refl _) _
  obtain ⟨u0, u1, u2, u3, u4, u5, u6⟩ := box_seven (box_new w #[.int .i64 s.from', .int .i64 s.to', .int .i64 s.state, .slice ea s.entries.length ec, .int .i64 s.man.size, .slice ra s.man.root.length rc, .slice ga s.man.segs.length gc] 53)
  have hV := hVer s.man _ _ (hR.below b0) ⟨_, _, rfl, hr.below b0, hg.below b0⟩
  by_cases h4 : s.state = 4
  · have HC : Hid (contentL s = ((verifyL s.man).1, (verifyL s.man).2.1)) := by show _ = _; unfold contentL; rw [if_pos h4]
    rw [HC.out]
    rw [h4] at u2 b0 hV u0 u1 u3 u4 u5 u6
    rw [h4]
    generalize verifyL s.man = VF at *
    obtain ⟨VL, E1, E2⟩ := VF
    dsimp only at hV ⊢
    clear HC
    go_enter Tryz.func27, Tryz.ntmps27
    go_wp2_with fail
    generalize w.alloc (.cells #[.int .i64 s.from', .int .i64 s.to', .int .i64 4, .slice ea s.entries.length ec, .int .i64 s.man.size, .slice ra s.man.root.length rc, .slice ga s.man.segs.length gc] 53) = w0 at *
    refine hV.mono ?_
    rintro e w1 ⟨xa, xn, xc, rfl, hL, hlow, hb1⟩
    have HLow : Hid (∀ b off, xa = some ⟨b, off, none⟩ → w.heap.size ≤ b) := fun b off h => Nat.le_trans b0.size (hlow b off h)
    clear hlow
    have d2 : Below w1.heap.size w1 (w1.alloc (.cells #[.int .i64 E1, .int .i64 E2] 32)) := (Below.refl _ _).alloc (Nat.le_refl _) _
    have b1 := b0.trans (hb1.mono b0.size)
    have b2 := b1.trans (d2.mono b1.size)
    have hL2 := hL.lists.below d2
    obtain ⟨f0, f1, -, -⟩ := box_two (box_new w1 #[.int .i64 E1, .int .i64 E2] 32)
    clear hV u0 u1 u2 u3 u4 u5 u6 hL
    go_wp2_with fail
    generalize w1.alloc (.cells #[.int .i64 E1, .int .i64 E2] 32) = w2 at *
    go_quiet (fail)
    go_wp2_with fail
    go_ret2
    exact ⟨xa, xn, xc, rfl, hL2.below (below_drewN' (Below.refl _ _) _), .inr HLow.out, below_drewN' b2 _⟩
  · have HC : Hid (contentL s = (s.entries, 0)) := by show _ = _; unfold contentL; rw [if_neg h4]
    have h4' : (s.state != 4) = true := by simpa using h4
    rw [HC.out]
    have hE0 := hE.below b0
    clear HC h4 hV
    go_enter Tryz.func27, Tryz.ntmps27
    go_wp2_with fail
    go_ret2
    exact ⟨ea, _, ec, rfl, hE0, .inl ⟨rfl, by trivial⟩, b0⟩
set_option maxRecDepth 100000 in
set_option maxHeartbeats 1000000 in
theorem copyOfRecord_any (r : Rec) (v : Value) (w : World) (h : Some' w v r.root) (hd : r.root.length ≤ 1000000) :
    Calls Tryz.prog 31 #[.agg #[.int .i64 r.shard, .int .i64 r.from', .int .i64 r.to', .int .i64 r.size, v]] w fun e w' => ∃ xa xc, e = .returned (.agg #[.int .i64 r.shard, .int .i64 r.from', .int .i64 r.to', .int .i64 r.size, .slice xa r.root.length xc]) ∧ w'.ownsRow w.heap.size 5 1 (.slice xa r.root.length xc) r.root.length (r.root.map (Value.int .u8)) ∧ Below w.heap.size w w' := by
  obtain ⟨va, vc, rfl⟩ := h.at'.form
  have b0 : Below w.heap.size w ((w.alloc (.cells #[.int .i64 r.shard, .int .i64 r.from', .int .i64 r.to', .int .i64 r.size, .slice va r.root.length vc] 44)).alloc (.cells #[.int .i64 0, .int .i64 0, .int .i64 0, .int .i64 0, .slice none 0 0] 44)) := ((Below.refl _ _).alloc (Nat.le_refl _) _).alloc (by simp) _
  have x0 := box_one w #[.int .i64 r.shard, .int .i64 r.from', .int .i64 r.to', .int .i64 r.size, .slice va r.root.length vc] 44 (.cells #[.int .i64 0, .int .i64 0, .int .i64 0, .int .i64 0, .slice none 0 0] 44)
  have y0 := box_last w (.cells #[.int .i64 r.shard, .int .i64 r.from', .int .i64 r.to', .int .i64 r.size, .slice va r.root.length vc] 44) #[.int .i64 0, .int .i64 0, .int .i64 0, .int .i64 0, .slice none 0 0] 44
  have z0 : ((w.alloc (.cells #[.int .i64 r.shard, .int .i64 r.from', .int .i64 r.to', .int .i64 r.size, .slice va r.root.length vc] 44)).alloc (.cells #[.int .i64 0, .int .i64 0, .int .i64 0, .int .i64 0, .slice none 0 0] 44)).heap.size = w.heap.size + 2 := by simp
  have hC := copyOf_any r.size r.root _ _ (h.below b0) hd
  obtain ⟨u0, u1, u2, u3, u4⟩ := box_five x0
  go_enter Tryz.func31, Tryz.ntmps31
  go_wp2_with fail
  generalize (w.alloc (.cells #[.int .i64 r.shard, .int .i64 r.from', .int .i64 r.to', .int .i64 r.size, .slice va r.root.length vc] 44)).alloc (.cells #[.int .i64 0, .int .i64 0, .int .i64 0, .int .i64 0, .slice none 0 0] 44) = w0 at *
  refine hC.mono ?_
  rintro e w1 ⟨xa, xc, rfl, ho1, hb1⟩
  have b1 := b0.trans (hb1.mono b0.size)
  have x1 := box_kept x0 hb1
  have y1 := box_kept y0 hb1
  rw [z0] at ho1
  obtain ⟨p0, p1, p2, p3, p4⟩ := box_five x1
  obtain ⟨f0, f1, f2, f3, f4⟩ := five_free x1
  have x2 : ((w1.setCell ⟨w.heap.size, 3, none⟩ (.int .i64 r.size)).setCell ⟨w.heap.size, 4, none⟩ (.slice xa r.root.length xc)).heap[w.heap.size]? = some (.cells #[.int .i64 r.shard, .int .i64 r.from', .int .i64 r.to', .int .i64 r.size, .slice xa r.root.length xc] 44 (0, 0)) := by
    have h0 := heap_setCell_same w1 w.heap.size 3 _ _ (.int .i64 r.size) x1
    exact heap_setCell_same _ w.heap.size 4 _ _ (.slice xa r.root.length xc) h0
  have y2 : ((w1.setCell ⟨w.heap.size, 3, none⟩ (.int .i64 r.size)).setCell ⟨w.heap.size, 4, none⟩ (.slice xa r.root.length xc)).heap[w.heap.size + 1]? = some (.cells #[.int .i64 0, .int .i64 0, .int .i64 0, .int .i64 0, .slice none 0 0] 44 (0, 0)) := box_set_far (box_set_far y1 (by omega)) (by omega)
  have ho2 := ownsRow_setCell_below (ownsRow_setCell_below ho1 (a := ⟨w.heap.size, 3, none⟩) (show w.heap.size < _ by omega) (.int .i64 r.size)) (a := ⟨w.heap.size, 4, none⟩) (show w.heap.size < _ by omega) (.slice xa r.root.length xc)
  have b2 := (b1.setCell (p := ⟨w.heap.size, 3, none⟩) (Nat.le_refl _) (.int .i64 r.size)).setCell (p := ⟨w.heap.size, 4, none⟩) (Nat.le_refl _) (.slice xa r.root.length xc)
  clear hC u0 u1 u2 u3 u4 x0 y0 x1 y1 ho1
  obtain ⟨a0, a1, a2, a3, a4⟩ := box_five x2
  obtain ⟨t0, t1, t2, t3, t4⟩ := box_five y2
  obtain ⟨g0, g1, g2, g3, g4⟩ := five_free y2
  obtain ⟨s0, s1, s2, s3, s4⟩ := box_five (five_set y2 (.int .i64 r.shard) (.int .i64 r.from') (.int .i64 r.to') (.int .i64 r.size) (.slice xa r.root.length xc))
  have ho3 := five_own ho2 (show w.heap.size + 1 < w.heap.size + 2 by omega) (.int .i64 r.shard) (.int .i64 r.from') (.int .i64 r.to') (.int .i64 r.size) (.slice xa r.root.length xc)
  have b3 := five_below b2 (Nat.le_succ w.heap.size) (.int .i64 r.shard) (.int .i64 r.from') (.int .i64 r.to') (.int .i64 r.size) (.slice xa r.root.length xc)
  go_wp2_with fail
  exact bodyPost_ret (v := .agg #[.int .i64 r.shard, .int .i64 r.from', .int .i64 r.to', .int .i64 r.size, .slice xa r.root.length xc]) (by simp [results, Tryz.results31, go_sem, s0, s1, s2, s3, s4]) rfl ⟨xa, xc, rfl, ownsRow_base ho3 (by omega), b3⟩
theorem idx_row {b : List Rec} {k : Int} {j : Nat} (hj : j < b.length) (h : (b.getD j rec0).shard = k) (hb : ∀ i, i < j → ¬ (b.getD i rec0).shard = k) : rowOf b k = some j :=
  find_range hj (decide_eq_true h) (fun i hi => decide_eq_false (hb i hi))
theorem idx_norow {b : List Rec} {k : Int} (h : ∀ j, j < b.length → ¬ (b.getD j rec0).shard = k) : rowOf b k = none :=
  List.find?_eq_none.2 (fun j hj => by rw [decide_eq_true_eq]; exact h j (List.mem_range.1 hj))
set_option maxRecDepth 100000 in
set_option maxHeartbeats 1000000 in
theorem row1_any (a k : Int) (r : Bool) (hr : r = (a == k)) (v1 v2 v3 v4 : Value) (B : Nat) (w : World) (hB : w.heap[B]? = some (.cells #[.int .i64 k] 3 (0, 0))) :
    Calls Tryz.prog 26 #[.agg #[.int .i64 a, v1, v2, v3, v4], .pointer (some ⟨B, 0, none⟩)] w fun e w' => e = .returned (.bool r) ∧ Below w.heap.size w w' := by
  have b0 : Below w.heap.size w (w.alloc (.cells #[.int .i64 a, v1, v2, v3, v4] 44)) := (Below.refl _ _).alloc (Nat.le_refl _) _
  obtain ⟨h0, h1⟩ := box_cell (box_kept hB b0)
  have HR : Hid (r = (a == k)) := hr
  clear hr
  go_enter Tryz.func26, Tryz.ntmps26
  go_wp2_with fail
  go_ret
  exact ⟨by rw [HR.out]; rfl, b0⟩
set_option maxRecDepth 100000 in
set_option maxHeartbeats 2000000 in
theorem row_any (b : List Rec) (k : Int) (ba : Option Addr) (n c B : Nat) (w : World) (hS : RecsAt w (.slice ba n c) b) (hn : b.length = n) (hB : w.heap[B]? = some (.cells #[.int .i64 k] 3 (0, 0))) :
    Calls Tryz.prog 25 #[.slice ba n c, .func (.func 26) #[] #[.pointer (some ⟨B, 0, none⟩)]] w fun e w' => e = .returned (.int .i64 (idxOf (rowOf b k))) ∧ Below w.heap.size w w' := by
  obtain ⟨sa', sc', e, hc1, hc2, -, hS⟩ := hS
  rw [hn] at e hc1 hS
  cases e
  unfold maxLen at hc2
  have H1 : ∀ j : Nat, Hid (j < n → (b.getD j rec0).shard = k → (∀ i, i < j → ¬ (b.getD i rec0).shard = k) → rowOf b k = some j) := fun j h1 h2 h3 => idx_row (by omega) h2 h3
  have H2 : Hid ((∀ j, j < n → ¬ (b.getD j rec0).shard = k) → rowOf b k = none) := fun h => idx_norow (fun j hj => h j (by omega))
  go_enter Tryz.func25, Tryz.ntmps25
  go_wp2_with fail
  go_loopw [8] (fun kv wr => ∃ j : Nat, j ≤ n ∧ kv = .int .i64 j ∧ Hid (∀ i, i < j → ¬ (b.getD i rec0).shard = k) ∧ Below w.heap.size w wr) (fun kv _ => n - (intOf kv).toNat)
  case atStart => exact ⟨0, Nat.zero_le _, rfl, fun _ hj => absurd hj (Nat.not_lt_zero _), Below.refl _ _⟩
  case round =>
    obtain ⟨wo, rfl⟩ : ∃ x, x = wr := ⟨wr, rfl⟩
    obtain ⟨j, hj, rfl, HO, hbr⟩ := hrel
    have hsr := hbr.size
    by_cases hlt : j < n
    · have hlt' : (j : Int) < n := by omega
      obtain ⟨g, o, rfl, hg, hcs⟩ := hS.resolve_left (by omega)
      obtain ⟨d0, d1, d2, d3, ra, rc, d4, -⟩ := (hcs j hlt).below hg hbr
      have hC := fun r hr v1 v2 v3 v4 => row1_any (b.getD j rec0).shard k r hr v1 v2 v3 v4 B wo (box_kept hB hbr)
      have HV := H1 j
      have HF : Hid (¬ (b.getD j rec0).shard = k → ∀ i, i < j + 1 → ¬ (b.getD i rec0).shard = k) := fun h i hi => by
        by_cases e : i = j
        · rw [e]; exact h
        · exact HO.out i (by omega)
      clear hcs hS H1 H2
      by_cases hin : (b.getD j rec0).shard = k
      · have HE : Hid (rowOf b k = some j) := HV.out hlt hin HO.out
        replace hC := hC true (by simpa using hin)
        clear hin HF HV HO
        generalize b.getD j rec0 = X at *
        go_wp2_with fail
        refine (hC _ _ _ _).mono ?_
        rintro e w5 ⟨rfl, hb5⟩
        go_wp2_with fail
        go_ret
        exact ⟨by rw [HE.out]; rfl, hbr.trans (hb5.mono hsr)⟩
      · replace hC := hC false (by simpa using hin)
        have HF2 : Hid (∀ i, i < j + 1 → ¬ (b.getD i rec0).shard = k) := HF.out hin
        clear hin HF HV HO
        generalize b.getD j rec0 = X at *
        go_wp2_with fail
        refine (hC _ _ _ _).mono ?_
        rintro e w5 ⟨rfl, hb5⟩
        go_wp2_with fail
        go_roundw
        case rel => exact ⟨j + 1, by omega, by go_num, HF2, hbr.trans (hb5.mono hsr)⟩
        case measure => simp [intOf]; omega
    · obtain rfl : j = n := by omega
      have hnl : ¬ (j : Int) < j := by omega
      have HE : Hid (rowOf b k = none) := H2.out HO.out
      clear H1 H2 HO hS
      go_wp2_with fail
      go_ret
      exact ⟨by rw [HE.out]; rfl, hbr⟩

end Go.Proofs.YtkjlchfmplcobagGreatDoor

/- A variable of numbers is written: fleets and answers are as they were, wherever they lie. -/
namespace Go.Proofs.YtkjlchfmplcobagGreatDoor
open Go.RowKit

/-- The block F holds numbers alone; and all other memory is as it was. -/
structure Off (F : Nat) (w w' : World) : Prop where
  nums : ∀ x v, w.cell? ⟨F, x, none⟩ = some v → ∃ z, v = .int .i64 z
  size : w.heap.size ≤ w'.heap.size
  kept : ∀ b x, b ≠ F → w'.cell? ⟨b, x, none⟩ = w.cell? ⟨b, x, none⟩
theorem off_set {w : World} {F o : Nat} {a b : Int} {t : TypeId} (h : w.heap[F]? = some (.cells #[.int .i64 a, .int .i64 b] t (0, 0))) (u : Value) : Off F w (w.setCell ⟨F, o, none⟩ u) := by
  refine ⟨fun x v hx => ?_, by simp, fun c x hc => ?_⟩
  · rw [cell_of_row w F x _ t _ h] at hx
    match x, hx with
    | 0, hx => exact ⟨a, by simpa using hx.symm⟩
    | 1, hx => exact ⟨b, by simpa using hx.symm⟩
    | x + 2, hx => simp at hx
  · exact World.cell?_setCell_far _ _ _ _ (fun e => hc e.symm)
theorem Off.slice {F : Nat} {w w' : World} (h : Off F w w') {b x : Nat} {a : Option Addr} {n c : Nat} (hc : w.cell? ⟨b, x, none⟩ = some (.slice a n c)) : b ≠ F := fun e => by
  subst e
  obtain ⟨z, hz⟩ := h.nums _ _ hc
  cases hz
theorem BytesAt.off {F : Nat} {w w' : World} (ho : Off F w w') {v : Value} {zs : List Int} (h : BytesAt w v zs) : BytesAt w' v zs := by
  rcases h with h | ⟨b, off, cp, h1, h2, h3⟩
  · exact .inl h
  · by_cases hl : zs.length = 0
    · have : zs = [] := List.eq_nil_of_length_eq_zero hl
      subst this
      exact .inl ⟨rfl, _, _, h1, fun e => by cases e⟩
    · have hbF : b ≠ F := fun e => by
        subst e
        obtain ⟨z, hz⟩ := ho.nums _ _ (h3 0 (by omega))
        cases hz
      exact .inr ⟨b, off, cp, h1, Nat.lt_of_lt_of_le h2 ho.size, fun j hj => by rw [ho.kept _ _ hbF]; exact h3 j hj⟩
theorem Some'.off {F : Nat} {w w' : World} (ho : Off F w w') {v : Value} {b : List Int} (h : Some' w v b) : Some' w' v b := ⟨h.at'.off ho, h.bytes, h.short⟩
theorem PartsAt.off {F : Nat} {w w' : World} (ho : Off F w w') {v : Value} {L : List (List Int)} (h : PartsAt w v L) : PartsAt w' v L := by
  rcases h with h | ⟨b, off, cp, h1, h2, h3⟩
  · exact .inl h
  · refine .inr ⟨b, off, cp, h1, Nat.lt_of_lt_of_le h2 ho.size, fun j hj => ?_⟩
    obtain ⟨a, m, c, hc, hB⟩ := h3 j hj
    exact ⟨a, m, c, by rw [ho.kept _ _ (ho.slice hc)]; exact hc, hB.off ho⟩
theorem Lists.off {F : Nat} {w w' : World} (ho : Off F w w') {a : Option Addr} {n c : Nat} {L : List (List Int)} (h : Lists w a n c L) : Lists w' a n c L := ⟨h.len, h.at'.off ho, h.room, h.cap, h.nil, h.bytes, h.short⟩
theorem RecCells.off {F : Nat} {w w' : World} (ho : Off F w w') {b o : Nat} {r : Rec} (h : RecCells w b o r) : RecCells w' b o r := by
  obtain ⟨h0, h1, h2, h3, ra, rc, h4, h5⟩ := h
  have hb := ho.slice h4
  exact ⟨by rw [ho.kept _ _ hb]; exact h0, by rw [ho.kept _ _ hb]; exact h1, by rw [ho.kept _ _ hb]; exact h2, by rw [ho.kept _ _ hb]; exact h3, ra, rc, by rw [ho.kept _ _ hb]; exact h4, h5.off ho⟩
theorem RecsAt.off {F : Nat} {w w' : World} (ho : Off F w w') {v : Value} {l : List Rec} (h : RecsAt w v l) : RecsAt w' v l := by
  obtain ⟨a, c, h1, h2, h3, h4, h5⟩ := h
  refine ⟨a, c, h1, h2, h3, h4, ?_⟩
  rcases h5 with h5 | ⟨b, off, h6, h7, h8⟩
  · exact .inl h5
  · exact .inr ⟨b, off, h6, Nat.lt_of_lt_of_le h7 ho.size, fun j hj => (h8 j hj).off ho⟩
theorem SegsAt.off {F : Nat} {w w' : World} (ho : Off F w w') {v : Value} {l : List Seg} (h : SegsAt w v l) : SegsAt w' v l := by
  obtain ⟨a, c, h1, h2, h3, h4, h5⟩ := h
  refine ⟨a, c, h1, h2, h3, h4, ?_⟩
  rcases h5 with h5 | ⟨b, off, h6, h7, h8⟩
  · exact .inl h5
  · refine .inr ⟨b, off, h6, Nat.lt_of_lt_of_le h7 ho.size, fun j hj => ?_⟩
    obtain ⟨c0, c1, pa, pc, c2, c3, c4⟩ := h8 j hj
    have hb := ho.slice c2
    exact ⟨by rw [ho.kept _ _ hb]; exact c0, by rw [ho.kept _ _ hb]; exact c1, pa, pc, by rw [ho.kept _ _ hb]; exact c2, c3.off ho, c4⟩
theorem ShdCells.off {F : Nat} {w w' : World} (ho : Off F w w') {b o : Nat} {s : Shd} (h : ShdCells w b o s) : ShdCells w' b o s := by
  obtain ⟨h1, h2, h3, ⟨ea, ec, h4, h4'⟩, h5, ⟨ra, rc, h6, h6'⟩, ⟨ga, gc, h7, h7'⟩⟩ := h
  have hb := ho.slice h4
  exact ⟨by rw [ho.kept _ _ hb]; exact h1, by rw [ho.kept _ _ hb]; exact h2, by rw [ho.kept _ _ hb]; exact h3, ⟨ea, ec, by rw [ho.kept _ _ hb]; exact h4, h4'.off ho⟩, by rw [ho.kept _ _ hb]; exact h5, ⟨ra, rc, by rw [ho.kept _ _ hb]; exact h6, h6'.off ho⟩, ⟨ga, gc, by rw [ho.kept _ _ hb]; exact h7, h7'.off ho⟩⟩
theorem RowAt.off {F : Nat} {w w' : World} (ho : Off F w w') {α : Type} {n : Nat} {P : World → Nat → Nat → α → Prop} {z : α} {v : Value} {l : List α} (h : RowAt n P z w v l) (hP : ∀ b o x, P w b o x → P w' b o x) : RowAt n P z w' v l := by
  obtain ⟨a, c, h1, h2, h3, h4, h5⟩ := h
  refine ⟨a, c, h1, h2, h3, h4, ?_⟩
  rcases h5 with h5 | ⟨b, off, h6, h7, h8⟩
  · exact .inl h5
  · exact .inr ⟨b, off, h6, Nat.lt_of_lt_of_le h7 ho.size, fun j hj => hP _ _ _ (h8 j hj)⟩
theorem FltV.off {F : Nat} {w w' : World} (ho : Off F w w') {v : Value} {f : Flt} (h : FltV w v f) : FltV w' v f := by
  obtain ⟨sa, sc, ba, bc, h1, h2, h3⟩ := h
  exact ⟨sa, sc, ba, bc, h1, RowAt.off ho h2 (fun _ _ _ hx => hx.off ho), h3.off ho⟩
theorem AnsCells.off {F : Nat} {w w' : World} (ho : Off F w w') {b o : Nat} {x : Ans} (h : AnsCells w b o x) : AnsCells w' b o x := by
  obtain ⟨h0, h1, h2, h3, ra, rc, h4, h5⟩ := h
  have hb := ho.slice h4
  exact ⟨by rw [ho.kept _ _ hb]; exact h0, by rw [ho.kept _ _ hb]; exact h1, by rw [ho.kept _ _ hb]; exact h2, by rw [ho.kept _ _ hb]; exact h3, ra, rc, by rw [ho.kept _ _ hb]; exact h4, h5.off ho⟩
theorem AnssAt.off {F : Nat} {w w' : World} (ho : Off F w w') {v : Value} {l : List Ans} (h : AnssAt w v l) : AnssAt w' v l := RowAt.off ho h (fun _ _ _ hx => hx.off ho)

end Go.Proofs.YtkjlchfmplcobagGreatDoor

/- A variable that holds nothing yet is written: what was shown is as it was, wherever it lies. -/
namespace Go.Proofs.YtkjlchfmplcobagGreatDoor
open Go.RowKit

structure OffZ (R : Nat) (w w' : World) : Prop where
  noughts : ∀ x v, w.cell? ⟨R, x, none⟩ = some v → (∃ z, v = .int .i64 z) ∨ v = .slice none 0 0
  size : w.heap.size ≤ w'.heap.size
  kept : ∀ b x, b ≠ R → w'.cell? ⟨b, x, none⟩ = w.cell? ⟨b, x, none⟩
theorem BytesAt.offZ {R : Nat} {w w' : World} (ho : OffZ R w w') {v : Value} {zs : List Int} (h : BytesAt w v zs) : BytesAt w' v zs := by
  rcases h with h | ⟨b, off, cp, h1, h2, h3⟩
  · exact .inl h
  · by_cases hl : zs.length = 0
    · have : zs = [] := List.eq_nil_of_length_eq_zero hl
      subst this
      exact .inl ⟨rfl, _, _, h1, fun e => by cases e⟩
    · have hbR : b ≠ R := fun e => by
        subst e
        rcases ho.noughts _ _ (h3 0 (by omega)) with ⟨z, hz⟩ | hz <;> cases hz
      exact .inr ⟨b, off, cp, h1, Nat.lt_of_lt_of_le h2 ho.size, fun j hj => by rw [ho.kept _ _ hbR]; exact h3 j hj⟩
theorem Some'.offZ {R : Nat} {w w' : World} (ho : OffZ R w w') {v : Value} {b : List Int} (h : Some' w v b) : Some' w' v b := ⟨h.at'.offZ ho, h.bytes, h.short⟩
theorem PartsAt.offZ {R : Nat} {w w' : World} (ho : OffZ R w w') {v : Value} {L : List (List Int)} (h : PartsAt w v L) (hd : Digs L) : PartsAt w' v L := by
  rcases h with h | ⟨b, off, cp, h1, h2, h3⟩
  · exact .inl h
  · refine .inr ⟨b, off, cp, h1, Nat.lt_of_lt_of_le h2 ho.size, fun j hj => ?_⟩
    obtain ⟨a, m, c, hc, hB⟩ := h3 j hj
    have hbR : b ≠ R := fun e => by
      subst e
      rcases ho.noughts _ _ hc with ⟨z, hz⟩ | hz
      · cases hz
      · cases hz
        obtain ⟨a', c', e'⟩ := hB.form
        have h32 : (L.getD j []).length = 32 := by rw [List.getD_eq_getElem?_getD, List.getElem?_eq_getElem hj]; exact hd _ (List.getElem_mem hj)
        rw [h32] at e'
        cases e'
    exact ⟨a, m, c, by rw [ho.kept _ _ hbR]; exact hc, hB.offZ ho⟩
theorem ShwV.offZ {R : Nat} {w w' : World} (ho : OffZ R w w') {v : Value} {s : Shw} (h : ShwV w v s) (h1 : Digs s.path) (h2 : Digs s.bookPath) : ShwV w' v s := by
  obtain ⟨ea, ec, pa, pc, ra, rc, ba, bc, ha, hc, g1, g2, g3, g4, g5, g6⟩ := h.form
  exact ⟨ea, ec, pa, pc, ra, rc, ba, bc, ha, hc, g1, g2.offZ ho, ⟨g3.len, g3.at'.offZ ho h1, g3.room, g3.cap, g3.nil, g3.bytes, g3.short⟩, g4.offZ ho, ⟨g5.len, g5.at'.offZ ho h2, g5.room, g5.cap, g5.nil, g5.bytes, g5.short⟩, g6.offZ ho⟩
theorem show_digs (f : Flt) (k i : Int) : Digs (showL f k i).1.path ∧ Digs (showL f k i).1.bookPath := by
  have h0 : Digs shw0.path ∧ Digs shw0.bookPath := ⟨fun _ h => absurd h (by simp [shw0]), fun _ h => absurd h (by simp [shw0])⟩
  unfold showL
  split
  · exact h0
  split
  · exact h0
  split
  · exact h0
  split
  · exact h0
  split
  · exact h0
  · exact ⟨path_digs _ _, path_digs _ _⟩
theorem offZ_13 {w : World} {R : Nat} {t : TypeId} (h : w.heap[R]? = some (.cells #[.slice none 0 0, .int .i64 0, .int .i64 0, .slice none 0 0, .int .i64 0, .int .i64 0, .int .i64 0, .int .i64 0, .slice none 0 0, .int .i64 0, .slice none 0 0, .int .i64 0, .slice none 0 0] t (0, 0))) (u0 u1 u2 u3 u4 u5 u6 u7 u8 u9 u10 u11 u12 : Value) : OffZ R w (((((((((((((w.setCell ⟨R, 0, none⟩ u0).setCell ⟨R, 1, none⟩ u1).setCell ⟨R, 2, none⟩ u2).setCell ⟨R, 3, none⟩ u3).setCell ⟨R, 4, none⟩ u4).setCell ⟨R, 5, none⟩ u5).setCell ⟨R, 6, none⟩ u6).setCell ⟨R, 7, none⟩ u7).setCell ⟨R, 8, none⟩ u8).setCell ⟨R, 9, none⟩ u9).setCell ⟨R, 10, none⟩ u10).setCell ⟨R, 11, none⟩ u11).setCell ⟨R, 12, none⟩ u12) := by
  refine ⟨fun x v hx => ?_, by simp, fun b x hb => ?_⟩
  · rw [cell_of_row w R x _ t _ h] at hx
    match x, hx with
    | 0, hx => exact .inr (by simpa using hx.symm)
    | 1, hx => exact .inl ⟨0, by simpa using hx.symm⟩
    | 2, hx => exact .inl ⟨0, by simpa using hx.symm⟩
    | 3, hx => exact .inr (by simpa using hx.symm)
    | 4, hx => exact .inl ⟨0, by simpa using hx.symm⟩
    | 5, hx => exact .inl ⟨0, by simpa using hx.symm⟩
    | 6, hx => exact .inl ⟨0, by simpa using hx.symm⟩
    | 7, hx => exact .inl ⟨0, by simpa using hx.symm⟩
    | 8, hx => exact .inr (by simpa using hx.symm)
    | 9, hx => exact .inl ⟨0, by simpa using hx.symm⟩
    | 10, hx => exact .inr (by simpa using hx.symm)
    | 11, hx => exact .inl ⟨0, by simpa using hx.symm⟩
    | 12, hx => exact .inr (by simpa using hx.symm)
    | x + 13, hx => simp at hx
  · have hn : R ≠ b := fun e => hb e.symm
    have k0 : (w.setCell ⟨R, 0, none⟩ u0).cell? ⟨b, x, none⟩ = w.cell? ⟨b, x, none⟩ := (World.cell?_setCell_far _ _ _ _ hn)
    generalize w.setCell ⟨R, 0, none⟩ u0 = w0 at *
    have k1 : (w0.setCell ⟨R, 1, none⟩ u1).cell? ⟨b, x, none⟩ = w.cell? ⟨b, x, none⟩ := (World.cell?_setCell_far _ _ _ _ hn).trans k0
    generalize w0.setCell ⟨R, 1, none⟩ u1 = w1 at *
    have k2 : (w1.setCell ⟨R, 2, none⟩ u2).cell? ⟨b, x, none⟩ = w.cell? ⟨b, x, none⟩ := (World.cell?_setCell_far _ _ _ _ hn).trans k1
    generalize w1.setCell ⟨R, 2, none⟩ u2 = w2 at *
    have k3 : (w2.setCell ⟨R, 3, none⟩ u3).cell? ⟨b, x, none⟩ = w.cell? ⟨b, x, none⟩ := (World.cell?_setCell_far _ _ _ _ hn).trans k2
    generalize w2.setCell ⟨R, 3, none⟩ u3 = w3 at *
    have k4 : (w3.setCell ⟨R, 4, none⟩ u4).cell? ⟨b, x, none⟩ = w.cell? ⟨b, x, none⟩ := (World.cell?_setCell_far _ _ _ _ hn).trans k3
    generalize w3.setCell ⟨R, 4, none⟩ u4 = w4 at *
    have k5 : (w4.setCell ⟨R, 5, none⟩ u5).cell? ⟨b, x, none⟩ = w.cell? ⟨b, x, none⟩ := (World.cell?_setCell_far _ _ _ _ hn).trans k4
    generalize w4.setCell ⟨R, 5, none⟩ u5 = w5 at *
    have k6 : (w5.setCell ⟨R, 6, none⟩ u6).cell? ⟨b, x, none⟩ = w.cell? ⟨b, x, none⟩ := (World.cell?_setCell_far _ _ _ _ hn).trans k5
    generalize w5.setCell ⟨R, 6, none⟩ u6 = w6 at *
    have k7 : (w6.setCell ⟨R, 7, none⟩ u7).cell? ⟨b, x, none⟩ = w.cell? ⟨b, x, none⟩ := (World.cell?_setCell_far _ _ _ _ hn).trans k6
    generalize w6.setCell ⟨R, 7, none⟩ u7 = w7 at *
    have k8 : (w7.setCell ⟨R, 8, none⟩ u8).cell? ⟨b, x, none⟩ = w.cell? ⟨b, x, none⟩ := (World.cell?_setCell_far _ _ _ _ hn).trans k7
    generalize w7.setCell ⟨R, 8, none⟩ u8 = w8 at *
    have k9 : (w8.setCell ⟨R, 9, none⟩ u9).cell? ⟨b, x, none⟩ = w.cell? ⟨b, x, none⟩ := (World.cell?_setCell_far _ _ _ _ hn).trans k8
    generalize w8.setCell ⟨R, 9, none⟩ u9 = w9 at *
    have k10 : (w9.setCell ⟨R, 10, none⟩ u10).cell? ⟨b, x, none⟩ = w.cell? ⟨b, x, none⟩ := (World.cell?_setCell_far _ _ _ _ hn).trans k9
    generalize w9.setCell ⟨R, 10, none⟩ u10 = w10 at *
    have k11 : (w10.setCell ⟨R, 11, none⟩ u11).cell? ⟨b, x, none⟩ = w.cell? ⟨b, x, none⟩ := (World.cell?_setCell_far _ _ _ _ hn).trans k10
    generalize w10.setCell ⟨R, 11, none⟩ u11 = w11 at *
    have k12 : (w11.setCell ⟨R, 12, none⟩ u12).cell? ⟨b, x, none⟩ = w.cell? ⟨b, x, none⟩ := (World.cell?_setCell_far _ _ _ _ hn).trans k11
    exact k12

end Go.Proofs.YtkjlchfmplcobagGreatDoor
