/- The walks of stateAsked and refusal: package fleet as it landed. -/
import Derived.Test.YtkjlchfmplcobagGreatDoorProg
import Derived.Test.YtkjlchfmplcobagGreatDoorRunAF
import Derived.WalkKit
import Derived.WalkSpells
import Derived.WalkLawsBesides
import Derived.Deep.RegionHeld3
import Derived.Deep.RegionWith
import Derived.Deep.QuietTactic
import Derived.BigQuiet
import Derived.BigRegion
import Derived.Maps.OwnSet
namespace Go.Proofs.YtkjlchfmplcobagGreatDoor
open Go.RowKit Go.Maps

theorem Tryz.keyInt : Keyed Tryz.prog 3 := int_keyed Tryz.underlying3
/-- Which state each kind asks for. -/
def askD : DataW Unit := ((((DataW.map []).put (.int .i64 2) (.lit (.int .i64 1))).put (.int .i64 3) (.lit (.int .i64 2))).put (.int .i64 4) (.lit (.int .i64 3))).put (.int .i64 5) (.lit (.int .i64 3))
theorem ask_map1 : IsMap ((DataW.map [] : DataW Unit).put (.int .i64 2) (.lit (.int .i64 1))) := isMap_empty.put _ _
theorem ask_map2 : IsMap (((DataW.map [] : DataW Unit).put (.int .i64 2) (.lit (.int .i64 1))).put (.int .i64 3) (.lit (.int .i64 2))) := ask_map1.put _ _
theorem ask_map3 : IsMap ((((DataW.map [] : DataW Unit).put (.int .i64 2) (.lit (.int .i64 1))).put (.int .i64 3) (.lit (.int .i64 2))).put (.int .i64 4) (.lit (.int .i64 3))) := ask_map2.put _ _
theorem ask_has (k : Int) : Maps.has askD (.int .i64 k) = decide (2 ≤ k ∧ k ≤ 5) := by
  unfold askD
  by_cases h5 : k = 5
  · subst h5; rw [has_put_same ask_map3 (by trivial)]; rfl
  rw [has_put_other (by simpa using h5)]
  by_cases h4 : k = 4
  · subst h4; rw [has_put_same ask_map2 (by trivial)]; rfl
  rw [has_put_other (by simpa using h4)]
  by_cases h3 : k = 3
  · subst h3; rw [has_put_same ask_map1 (by trivial)]; rfl
  rw [has_put_other (by simpa using h3)]
  by_cases h2 : k = 2
  · subst h2; rw [has_put_same isMap_empty (by trivial)]; rfl
  rw [has_put_other (by simpa using h2)]
  rw [decide_eq_false (by omega)]
  rfl
theorem ask_at (k : Int) (h : 2 ≤ k ∧ k ≤ 5) (z : DataW Unit) : askD.atKey (.int .i64 k) z = .lit (.int .i64 (wantL k)) := by
  unfold askD
  by_cases h5 : k = 5
  · subst h5; rw [atKey_put_same ask_map3 (by trivial)]; rfl
  rw [atKey_put_other (by simpa using h5)]
  by_cases h4 : k = 4
  · subst h4; rw [atKey_put_same ask_map2 (by trivial)]; rfl
  rw [atKey_put_other (by simpa using h4)]
  by_cases h3 : k = 3
  · subst h3; rw [atKey_put_same ask_map1 (by trivial)]; rfl
  rw [atKey_put_other (by simpa using h3)]
  obtain rfl : k = 2 := by omega
  rw [atKey_put_same isMap_empty (by trivial)]; rfl
theorem turned_below {B : Nat} {w0 w w' : World} {b : Nat} (h : Below B w0 w) (ht : w.mapTurned w' b) (hb : B ≤ b) (hB : B ≤ w.heap.size) : Below B w0 w' := h.grown ht.grown hB (fun q hq => by cases hq; exact hb)
set_option maxRecDepth 100000 in
set_option maxHeartbeats 2000000 in
theorem stateAsked_any (w : World) : Calls Tryz.prog 67 #[] w fun e w' => ∃ b, e = .returned (.map (some b)) ∧ w'.ownsMap Tryz.prog 3 (plainElem (H := Unit) Tryz.prog 3) b 4 askD ∧ Below w.heap.size w w' := by
  have hmm := @run_makeMap Tryz.prog
  have hput : ∀ (W : World) (n : Nat) (D : DataW Unit) (k x : Int), W.ownsMap Tryz.prog 3 (plainElem (H := Unit) Tryz.prog 3) w.heap.size n D → n < maxLen → (Lit.int .i64 k).wf = true → (Lit.int .i64 x).wf = true → ∃ W', (Instr.mapUpdate 127 (.map (some w.heap.size)) (.int .i64 k) (.int .i64 x)).run Tryz.prog W = .ok () W' ∧ W'.ownsMap Tryz.prog 3 (plainElem (H := Unit) Tryz.prog 3) w.heap.size (n + 1) (D.put (.int .i64 k) (.lit (.int .i64 x))) ∧ W.mapTurned W' w.heap.size := fun W n D k x h hn hk hx =>
    h.store Tryz.keyInt Tryz.underlying127 hn (keyOf_int_mk Tryz.underlying3 hk) (plainElem_int Tryz.underlying3 hx)
  have o0 := World.ownsMap_made w Tryz.prog 3 (plainElem (H := Unit) Tryz.prog 3)
  have b0 : Below w.heap.size w (w.alloc (.map #[] 0)) := (Below.refl _ _).alloc (Nat.le_refl _) _
  obtain ⟨w1, r1, o1, t1⟩ := hput _ _ _ 2 1 o0 (by unfold maxLen; omega) (by decide) (by decide)
  have b1 := turned_below b0 t1 (Nat.le_refl _) b0.size
  obtain ⟨w2, r2, o2, t2⟩ := hput _ _ _ 3 2 o1 (by unfold maxLen; omega) (by decide) (by decide)
  have b2 := turned_below b1 t2 (Nat.le_refl _) b1.size
  obtain ⟨w3, r3, o3, t3⟩ := hput _ _ _ 4 3 o2 (by unfold maxLen; omega) (by decide) (by decide)
  have b3 := turned_below b2 t3 (Nat.le_refl _) b2.size
  obtain ⟨w4, r4, o4, t4⟩ := hput _ _ _ 5 3 o3 (by unfold maxLen; omega) (by decide) (by decide)
  have b4 := turned_below b3 t4 (Nat.le_refl _) b3.size
  clear hput t1 t2 t3 t4 o0 o1 o2 o3 b1 b2 b3
  go_enter Tryz.func67, Tryz.ntmps67
  go_wp2_with fail
  go_ret
  exact ⟨_, rfl, o4, b4⟩

/-- What keeps a step from being taken. -/
def refL (ss : List Shd) (d : Dd) : Int :=
  if d.kind < 2 ∨ 5 < d.kind then 1 else
  if d.n < 0 ∨ (ss.length : Int) ≤ d.n then 6 else
  if (ss.getD d.n.toNat shd0).state ≠ wantL d.kind then 7 else 0
theorem box_seven {w : World} {k : Nat} {v0 v1 v2 v3 v4 v5 v6 : Value} {t : TypeId} (h : w.heap[k]? = some (.cells #[v0, v1, v2, v3, v4, v5, v6] t (0, 0))) :
    w.cell? ⟨k, 0, none⟩ = some v0 ∧ w.cell? ⟨k, 1, none⟩ = some v1 ∧ w.cell? ⟨k, 2, none⟩ = some v2 ∧ w.cell? ⟨k, 3, none⟩ = some v3 ∧ w.cell? ⟨k, 4, none⟩ = some v4 ∧ w.cell? ⟨k, 5, none⟩ = some v5 ∧ w.cell? ⟨k, 6, none⟩ = some v6 :=
  ⟨cell_of_row w k 0 _ t _ h, cell_of_row w k 1 _ t _ h, cell_of_row w k 2 _ t _ h, cell_of_row w k 3 _ t _ h, cell_of_row w k 4 _ t _ h, cell_of_row w k 5 _ t _ h, cell_of_row w k 6 _ t _ h⟩
set_option maxRecDepth 100000 in
set_option maxHeartbeats 4000000 in
theorem refusal_any (ss : List Shd) (d : Dd) (pv bv : Value) (sa : Option Addr) (n c gp : Nat) (w : World) (hS : ShdsAt w (.slice sa n c) ss) (hn : ss.length = n) (hg : w.heap[gp]? = some (.cells #[.slice sa n c, bv] 76 (0, 0))) (hk : -9223372036854775808 ≤ d.kind ∧ d.kind ≤ 9223372036854775807) :
    Calls Tryz.prog 42 #[.pointer (some ⟨gp, 0, none⟩), .agg #[.int .i64 d.kind, .int .i64 d.n, .int .i64 d.time, pv, .int .i64 d.segment, .int .i64 d.at', .int .u8 d.by']] w fun e w' => e = .returned (.int .i64 (refL ss d)) ∧ Below w.heap.size w w' := by
  have b0 : Below w.heap.size w (w.alloc (.cells #[.int .i64 d.kind, .int .i64 d.n, .int .i64 d.time, pv, .int .i64 d.segment, .int .i64 d.at', .int .u8 d.by'] 56)) := (Below.refl _ _).alloc (Nat.le_refl _) _
  have x0 := box_new w #[.int .i64 d.kind, .int .i64 d.n, .int .i64 d.time, pv, .int .i64 d.segment, .int .i64 d.at', .int .u8 d.by'] 56
  have HR : Hid (refL ss d = if d.kind < 2 ∨ 5 < d.kind then 1 else if d.n < 0 ∨ (n : Int) ≤ d.n then 6 else if (ss.getD d.n.toNat shd0).state ≠ wantL d.kind then 7 else 0) := by show _ = _; unfold refL; rw [hn]
  have hzero : ∀ W : World, (zeroValue 3).run Tryz.prog W = .ok (.int .i64 0) W := fun W => by kernel_rfl
  have hlook : ∀ (W : World) (b : Nat), W.ownsMap Tryz.prog 3 (plainElem (H := Unit) Tryz.prog 3) b 4 askD → ∃ c, (Instr.lookup 127 (.map (some b)) (.int .i64 d.kind) true).run Tryz.prog W = .ok (.tuple #[.int .i64 c, .bool (Maps.has askD (.int .i64 d.kind))]) W ∧ ((2 ≤ d.kind ∧ d.kind ≤ 5) → c = wantL d.kind) := fun W b h => by
    obtain ⟨v, ps, hrun, hv⟩ := h.look_ok Tryz.keyInt Tryz.underlying127 (hzero W) (plainElem_int Tryz.underlying3 (by decide)) (keyOf_int_mk Tryz.underlying3 (a := d.kind) (WalkArith.wf_i64 hk))
    obtain ⟨c, rfl, hc, -⟩ := plainElem_int_inv Tryz.underlying3 hv
    refine ⟨c, hrun, fun h => ?_⟩
    simp only [Prod.mk.injEq] at hc
    have h1 := hc.1
    rw [ask_at _ h] at h1
    simp only [DataW.lit.injEq, Lit.int.injEq, true_and] at h1
    exact h1.symm
  rw [ask_has] at hlook
  generalize refL ss d = RF at *
  obtain ⟨sa', sc', e, hc1, hc2, -, hS⟩ := hS
  rw [hn] at e hc1 hS
  cases e
  unfold maxLen at hc2
  by_cases hkd : 2 ≤ d.kind ∧ d.kind ≤ 5
  · have hlook' : ∀ (W : World) (b : Nat), W.ownsMap Tryz.prog 3 (plainElem (H := Unit) Tryz.prog 3) b 4 askD → (Instr.lookup 127 (.map (some b)) (.int .i64 d.kind) true).run Tryz.prog W = .ok (.tuple #[.int .i64 (wantL d.kind), .bool true]) W := fun W b h => by
      obtain ⟨c, h1, h2⟩ := hlook W b h
      rw [h2 hkd, decide_eq_true hkd] at h1
      exact h1
    replace HR : Hid (RF = if d.n < 0 ∨ (n : Int) ≤ d.n then 6 else if (ss.getD d.n.toNat shd0).state ≠ wantL d.kind then 7 else 0) := by show _ = _; rw [HR.out, if_neg (by omega)]
    clear hlook hkd hk
    generalize wantL d.kind = WL at *
    generalize d.kind = KD at *
    go_enter Tryz.func42, Tryz.ntmps42
    go_wp2_with fail
    generalize w.alloc (.cells #[.int .i64 KD, .int .i64 d.n, .int .i64 d.time, pv, .int .i64 d.segment, .int .i64 d.at', .int .u8 d.by'] 56) = w0 at *
    obtain ⟨u0, u1, -, -, -, -, -⟩ := box_seven x0
    go_region_with (first | (go_at_call 67; refine (stateAsked_any _).mono ?_; rintro e w5 ⟨mb, rfl, hO, hb5⟩; have hL := hlook' _ _ hO; obtain ⟨p0, p1, -, -, -, -, -⟩ := box_seven (box_kept (w := w0.drew) x0 hb5)))
    all_goals
      have b5 : Below w.heap.size w w5 := b0.drew.trans (hb5.mono b0.drew.size)
      obtain ⟨g0, g1, -, -⟩ := box_two (box_kept hg b5)
      clear hlook' hO hL hb5 hg
      by_cases q1 : d.n < 0
      · have HE : Hid (RF = 6) := by show _ = _; rw [HR.out, if_pos (.inl q1)]
        clear HR hS
        generalize d.n = ND at *
        go_wp2_with fail
        go_quiet (fail)
        go_wp2_with fail
        go_ret
        exact ⟨by rw [HE.out]; rfl, below_drewN' b5 _⟩
      have q1' : decide (d.n < 0) = false := decide_eq_false q1
      by_cases q2 : (n : Int) ≤ d.n
      · have HE : Hid (RF = 6) := by show _ = _; rw [HR.out, if_pos (.inr q2)]
        clear HR hS
        generalize d.n = ND at *
        go_wp2_with fail
        go_quiet (fail)
        go_wp2_with fail
        go_ret
        exact ⟨by rw [HE.out]; rfl, below_drewN' b5 _⟩
      have q2' : decide ((n : Int) ≤ d.n) = false := decide_eq_false q2
      have HE : Hid (RF = if (ss.getD d.n.toNat shd0).state ≠ WL then 7 else 0) := by show _ = _; rw [HR.out, if_neg (by omega)]
      clear HR
      obtain ⟨m, hm⟩ : ∃ m : Nat, d.n = m := ⟨d.n.toNat, by omega⟩
      rw [hm] at p1 q1 q2 q1' q2' HE
      have hmn : m < n := by omega
      rw [Int.toNat_natCast] at HE
      clear hm u0 u1 x0
      obtain ⟨sb, o, rfl, hsb, hcs⟩ := hS.resolve_left (by omega)
      obtain ⟨-, -, s2, -, -, -, -⟩ := (hcs m hmn).below hsb b5
      clear hcs hS
      generalize (ss.getD m shd0).state = ST at *
      have q3 : (0 : Int) ≤ m := by omega
      have q4 : (m : Int) < n := by omega
      by_cases q5 : ST = WL
      · have HE2 : Hid (RF = 0) := by show _ = _; rw [HE.out, if_neg (fun h => h q5)]
        subst q5
        clear HE
        go_wp2_with fail
        go_quiet (fail)
        go_wp2_with fail
        go_quiet (fail)
        go_wp2_with fail
        go_ret
        exact ⟨by rw [HE2.out]; rfl, below_drewN' (below_drewN' b5 _) _⟩
      · have HE2 : Hid (RF = 7) := by show _ = _; rw [HE.out, if_pos q5]
        have q5' : (ST != WL) = true := by simpa using q5
        clear HE
        go_wp2_with fail
        go_quiet (fail)
        go_wp2_with fail
        go_quiet (fail)
        go_wp2_with fail
        go_ret
        exact ⟨by rw [HE2.out]; rfl, below_drewN' (below_drewN' b5 _) _⟩
  · have hlook' : ∀ (W : World) (b : Nat), W.ownsMap Tryz.prog 3 (plainElem (H := Unit) Tryz.prog 3) b 4 askD → ∃ c, (Instr.lookup 127 (.map (some b)) (.int .i64 d.kind) true).run Tryz.prog W = .ok (.tuple #[.int .i64 c, .bool false]) W := fun W b h => by
      obtain ⟨c, h1, -⟩ := hlook W b h
      rw [decide_eq_false hkd] at h1
      exact ⟨c, h1⟩
    replace HR : Hid (RF = 1) := by show _ = _; rw [HR.out, if_pos (by omega)]
    clear hlook hkd hk
    generalize d.kind = KD at *
    go_enter Tryz.func42, Tryz.ntmps42
    go_wp2_with fail
    generalize w.alloc (.cells #[.int .i64 KD, .int .i64 d.n, .int .i64 d.time, pv, .int .i64 d.segment, .int .i64 d.at', .int .u8 d.by'] 56) = w0 at *
    obtain ⟨u0, u1, -, -, -, -, -⟩ := box_seven x0
    go_region_with (first | (go_at_call 67; refine (stateAsked_any _).mono ?_; rintro e w5 ⟨mb, rfl, hO, hb5⟩; obtain ⟨cc, hL⟩ := hlook' _ _ hO; obtain ⟨p0, p1, -, -, -, -, -⟩ := box_seven (box_kept (w := w0.drew) x0 hb5)))
    all_goals
      have b5 : Below w.heap.size w w5 := b0.drew.trans (hb5.mono b0.drew.size)
      clear hlook' hO hL hb5 hg hS
      go_wp2_with fail
      go_ret
      exact ⟨by rw [HR.out]; rfl, b5⟩

end Go.Proofs.YtkjlchfmplcobagGreatDoor
