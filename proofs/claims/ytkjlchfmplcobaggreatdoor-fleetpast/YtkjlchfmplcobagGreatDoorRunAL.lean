/- FleetSame, FleetPastWalk, FleetDos, ShelfSegs, as one text. -/
import Derived.Test.YtkjlchfmplcobagGreatDoorProg
import Derived.Test.YtkjlchfmplcobagGreatDoorRunAI
import Derived.Test.YtkjlchfmplcobagGreatDoorRunAK
import Derived.Test.YtkjlchfmplcobagGreatDoorRunAG
import Derived.WalkKit
import Derived.WalkSpells
import Derived.WalkLawsBesides
import Derived.Deep.RegionHeld3
import Derived.BigRegion
import Derived.Test.YtkjlchfmplcobagGreatDoorRunAC
import Derived.Deep.QuietTactic
import Derived.BigQuiet
import Derived.Deep.AppendLies
import Derived.Laws.AppendOwnNone
/- The walks of yearref5.SameAnswer, SameBook and SameFleet at what is the same. -/
namespace Go.Proofs.YtkjlchfmplcobagGreatDoor
open Go.RowKit

/-- An answer as the walks meet it. -/
def AnsV (w : World) (v : Value) (x : Ans) : Prop := ∃ ra rc, v = .agg #[.int .i64 x.err, .int .i64 x.shard, .int .i64 x.place, .int .i64 x.size, .slice ra x.root.length rc] ∧ Some' w (.slice ra x.root.length rc) x.root
theorem AnsV.below {w w' : World} {v : Value} {x : Ans} (h : AnsV w v x) (hb : Below w.heap.size w w') : AnsV w' v x := by
  obtain ⟨ra, rc, h1, h2⟩ := h
  exact ⟨ra, rc, h1, h2.below hb⟩
set_option maxRecDepth 100000 in
set_option maxHeartbeats 2000000 in
theorem sameAns_yes (x : Ans) (v1 v2 : Value) (w : World) (h1 : AnsV w v1 x) (h2 : AnsV w v2 x) :
    Calls Tryz.prog 9 #[v1, v2] w fun e w' => e = .returned (.bool true) ∧ Below w.heap.size w w' := by
  obtain ⟨ra, rc, rfl, hr⟩ := h1
  obtain ⟨ta, tc, rfl, ht⟩ := h2
  obtain ⟨s, f, t, z, root⟩ := x
  dsimp only at hr ht ⊢
  have b0 : Below w.heap.size w ((w.alloc (.cells #[.int .i64 s, .int .i64 f, .int .i64 t, .int .i64 z, .slice ra root.length rc] 40)).alloc (.cells #[.int .i64 s, .int .i64 f, .int .i64 t, .int .i64 z, .slice ta root.length tc] 40)) := ((Below.refl _ _).alloc (Nat.le_refl _) _).alloc (by simp) _
  obtain ⟨x0, x1, x2, x3, x4⟩ := box_five (box_one w #[.int .i64 s, .int .i64 f, .int .i64 t, .int .i64 z, .slice ra root.length rc] 40 (.cells #[.int .i64 s, .int .i64 f, .int .i64 t, .int .i64 z, .slice ta root.length tc] 40))
  obtain ⟨y0, y1, y2, y3, y4⟩ := box_five (box_last w (.cells #[.int .i64 s, .int .i64 f, .int .i64 t, .int .i64 z, .slice ra root.length rc] 40) #[.int .i64 s, .int .i64 f, .int .i64 t, .int .i64 z, .slice ta root.length tc] 40)
  have sE := sameHead_yes z root _ _ _ (hr.below b0) (ht.below b0)
  have q1 : (s == s) = true := by simp
  have q2 : (f == f) = true := by simp
  have q3 : (t == t) = true := by simp
  clear hr ht
  generalize root.length = n at *
  go_enter Tryz.func9, Tryz.ntmps9
  go_wp2_with fail
  refine sE.mono ?_
  rintro e w3 ⟨rfl, hb3⟩
  go_wp2_with fail
  go_ret
  exact ⟨rfl, b0.trans (hb3.mono b0.size)⟩
end Go.Proofs.YtkjlchfmplcobagGreatDoor

/- The walk of the law FleetPast, over the faces of package fleet. -/
namespace Go.Proofs.YtkjlchfmplcobagGreatDoor
open Go.RowKit

theorem play_ok {ws : List Win} {l : List Dd} (h : (playF ws l).1 = 0) : playL ws l = runL (startL ws) l ∧ (wrongWins ws).1 = 0 ∧ l.length ≤ 120 := by
  refine ⟨by unfold playL; rw [if_neg (fun g => g h)], ?_, ?_⟩
  · unfold playF at h
    by_cases hw : (wrongWins ws).1 ≠ 0
    · rw [if_pos hw] at h; exact absurd h hw
    · simpa using hw
  · unfold playF at h
    by_cases hw : (wrongWins ws).1 ≠ 0
    · rw [if_pos hw] at h; exact absurd h hw
    · rw [if_neg hw] at h
      by_cases hl : 120 < l.length
      · rw [if_pos hl] at h; exact absurd h (by decide)
      · omega
theorem play_right {ws : List Win} {l : List Dd} (hw : (wrongWins ws).1 = 0) (hl : l.length ≤ 120) : playF ws l = (0, 0) := by
  unfold playF; rw [if_neg (fun g => g hw), if_neg (by omega)]
set_option maxRecDepth 100000 in
set_option maxHeartbeats 4000000 in
theorem fleetPast_any (hPl : PlayC) (hSh : ShowC) (hCh : CheckC) (hHe : BookHeadC) (ws : List Win) (l : List Dd) (at' : Int) (wa da : Option Addr) (wn wc dn dc : Nat) (w : World) (hR : Ready w) (hW : WinsAt w (.slice wa wn wc) ws) (hD : DosAt w (.slice da dn dc) l) (hn : l.length = dn) :
    Calls Tryz.prog 3 #[.slice wa wn wc, .slice da dn dc, .int .i64 at'] w fun e w' => e = .returned (.bool true) ∧ Below w.heap.size w w' := by
  have cA := alive7_any hPl hSh hCh hHe w hR
  have cP := fun w' (h : Below w.heap.size w w') => hPl ws l _ _ w' (hR.below h) (hW.below h) (hD.below h)
  have hdc : dn ≤ dc ∧ dc ≤ maxLen := by obtain ⟨a', c', e, h2, h3, -⟩ := hD; cases e; exact ⟨by omega, h3⟩
  unfold maxLen at hdc
  obtain ⟨hdc1, hdc2⟩ := hdc
  by_cases hneg : at' < 0
  · go_enter Tryz.func3, Tryz.ntmps3
    clear cP hW hD
    go_wp2_with fail
    refine cA.mono ?_
    rintro e w1 ⟨rfl, b1⟩
    go_wp2_with fail
    go_ret
    exact ⟨rfl, b1⟩
  by_cases hbig : (dn : Int) < at'
  · go_enter Tryz.func3, Tryz.ntmps3
    clear cP hW hD
    go_wp2_with fail
    refine cA.mono ?_
    rintro e w1 ⟨rfl, b1⟩
    go_wp2_with fail
    go_ret
    exact ⟨rfl, b1⟩
  obtain ⟨k, rfl⟩ := Int.eq_ofNat_of_zero_le (show 0 ≤ at' by omega)
  have hk : k ≤ dn := by omega
  have cQ := fun w' (h : Below w.heap.size w w') => hPl ws (l.take k) _ (.slice da k dc) w' (hR.below h) (hW.below h) (RowAt.first (hD.below h) hn hk)
  have hklen : (l.take k).length = k := by rw [List.length_take]; omega
  have HQ : Hid ((playF ws l).1 = 0 → playF ws (l.take k) = (0, 0)) := fun h => by
    obtain ⟨-, hw, hl⟩ := play_ok h
    exact play_right hw (by omega)
  have HA : Hid ((playF ws l).1 = 0 → (playL ws l).2.length = dn ∧ (playL ws (l.take k)).2.length = k ∧ ∀ j, j < k → (playL ws (l.take k)).2.getD j ans0 = (playL ws l).2.getD j ans0) := fun h => by
    obtain ⟨e1, hw, hl⟩ := play_ok h
    obtain ⟨e2, -, -⟩ := play_ok (ws := ws) (l := l.take k) (by rw [play_right hw (by omega)])
    rw [e1, e2]
    refine ⟨by rw [runL_length, hn], by rw [runL_length, hklen], fun j hj => ?_⟩
    rw [run_take, List.getD_eq_getElem?_getD, List.getElem?_take, if_pos hj, ← List.getD_eq_getElem?_getD]
  clear hD hW hn hPl hSh hCh hHe hR
  generalize playF ws l = F at *
  generalize playL ws l = P at *
  generalize playF ws (l.take k) = G at *
  generalize playL ws (l.take k) = Q at *
  obtain ⟨F1, F2⟩ := F
  obtain ⟨G1, G2⟩ := G
  obtain ⟨P1, A⟩ := P
  obtain ⟨Q1, B⟩ := Q
  dsimp only [faultV] at cP cQ HQ HA
  have hkd : ¬ (dn : Int) < k := by omega
  have hkc : (k : Int) ≤ dc := by omega
  go_enter Tryz.func3, Tryz.ntmps3
  go_wp2_with fail
  refine cA.mono ?_
  rintro e w1 ⟨rfl, b1⟩
  clear cA
  go_wp2_with fail
  refine (cP _ b1).mono ?_
  rintro e w2 ⟨fv, av, rfl, ⟨sa, sc, ka, kc, rfl, -, -⟩, hA, hb2⟩
  have b2 := b1.trans (hb2.mono b1.size)
  obtain ⟨aa, ac, rfl⟩ := hA.form
  have d3 : Below w2.heap.size w2 ((w2.alloc (.cells #[.slice sa P1.shards.length sc, .slice ka P1.book.length kc] 28)).alloc (.cells #[.int .i64 F1, .int .i64 F2] 32)) := ((Below.refl _ _).alloc (Nat.le_refl _) _).alloc (by simp) _
  have b3 := b2.trans (d3.mono b2.size)
  have f3 := box_last w2 (.cells #[.slice sa P1.shards.length sc, .slice ka P1.book.length kc] 28) #[.int .i64 F1, .int .i64 F2] 32
  have hA3 := hA.below d3
  clear cP hA hb2 b1 b2 d3
  go_wp2_with fail
  generalize (w2.alloc (.cells #[.slice sa P1.shards.length sc, .slice ka P1.book.length kc] 28)).alloc (.cells #[.int .i64 F1, .int .i64 F2] 32) = w3 at *
  refine (cQ _ b3).mono ?_
  rintro e w4 ⟨gv, bv, rfl, ⟨sa', sc', ka', kc', rfl, -, -⟩, hB, hb4⟩
  obtain ⟨ba, bc, rfl⟩ := hB.form
  have d5 : Below w4.heap.size w4 ((w4.alloc (.cells #[.slice sa' Q1.shards.length sc', .slice ka' Q1.book.length kc'] 28)).alloc (.cells #[.int .i64 G1, .int .i64 G2] 32)) := ((Below.refl _ _).alloc (Nat.le_refl _) _).alloc (by simp) _
  have c5 := hb4.trans (d5.mono hb4.size)
  have b5 := b3.trans (c5.mono b3.size)
  obtain ⟨g0, g1, -, -⟩ := box_two (box_last w4 (.cells #[.slice sa' Q1.shards.length sc', .slice ka' Q1.book.length kc'] 28) #[.int .i64 G1, .int .i64 G2] 32)
  obtain ⟨f0, f1, -, -⟩ := box_two (box_kept f3 c5)
  have hA5 := hA3.below c5
  have hB5 := hB.below d5
  clear cQ hA3 hB hb4 b3 d5 f3 c5
  by_cases hF : F1 ≠ 0
  · have hF' : (F1 != 0) = true := by simpa using hF
    clear HQ HA hF hA5 hB5
    go_wp2_with fail
    go_ret
    exact ⟨rfl, b5⟩
  obtain rfl : F1 = 0 := by simpa using hF
  obtain ⟨rfl, rfl⟩ : G1 = 0 ∧ G2 = 0 := by simpa using HQ.out rfl
  obtain ⟨hAl, hBl, hAB⟩ := HA.out rfl
  clear HQ HA hF
  rw [hAl] at hA5 ⊢
  rw [hBl] at hB5 ⊢
  go_wp2_with fail
  generalize (w4.alloc (.cells #[.slice sa' Q1.shards.length sc', .slice ka' Q1.book.length kc'] 28)).alloc (.cells #[.int .i64 0, .int .i64 0] 32) = w5 at *
  clear f0 f1 g0 g1
  obtain ⟨aa', ac', eA, hA1, hA2, -, hAc⟩ := hA5
  obtain ⟨ba', bc', eB, hB1, hB2, -, hBc⟩ := hB5
  rw [hAl] at eA hA1 hAc
  rw [hBl] at eB hB1 hBc
  cases eA
  cases eB
  go_loopw [50] (fun kv wr => ∃ j : Nat, j ≤ k ∧ kv = .int .i64 j ∧ Below w5.heap.size w5 wr) (fun kv _ => k - (intOf kv).toNat)
  case atStart => exact ⟨0, Nat.zero_le _, rfl, Below.refl _ _⟩
  case round =>
    obtain ⟨wo, rfl⟩ : ∃ x, x = wr := ⟨wr, rfl⟩
    obtain ⟨j, hj, rfl, hbr⟩ := hrel
    have hsr := hbr.size
    have hbw := b5.trans (hbr.mono b5.size)
    by_cases hlt : j < k
    · have hlt' : (j : Int) < k := by omega
      have hlt2 : (j : Int) < dn := by omega
      obtain ⟨p1, o1, rfl, hp1, hcs1⟩ := hAc.resolve_left (by omega)
      obtain ⟨p2, o2, rfl, hp2, hcs2⟩ := hBc.resolve_left (by omega)
      obtain ⟨d0, d1, d2, d3, qa, qc, d4, hq⟩ := (hcs1 j (by omega)).below hp1 hbr
      obtain ⟨e0, e1, e2, e3, ta, tc, e4, ht⟩ := (hcs2 j hlt).below hp2 hbr
      rw [hAB j hlt] at e0 e1 e2 e3 e4 ht
      clear hcs1 hcs2 hAc hBc hAB
      generalize A.getD j ans0 = X at *
      have hS : ∀ w', (Below wo.heap.size wo w' ∧ ∀ b o, b < wo.heap.size → w'.cell? ⟨b, o, none⟩ = wo.cell? ⟨b, o, none⟩) → _ := fun w' h => sameAns_yes X (.agg #[.int .i64 X.err, .int .i64 X.shard, .int .i64 X.place, .int .i64 X.size, .slice qa X.root.length qc]) (.agg #[.int .i64 X.err, .int .i64 X.shard, .int .i64 X.place, .int .i64 X.size, .slice ta X.root.length tc]) w' ⟨qa, qc, rfl, hq.below h.1⟩ ⟨ta, tc, rfl, ht.below h.1⟩
      have k1 : p1 < wo.heap.size := by omega
      have k2 : p2 < wo.heap.size := by omega
      clear hq ht
      generalize X.root.length = xn at *
      generalize X.err = xe at *
      generalize X.shard = xs at *
      generalize X.place = xp at *
      generalize X.size = xz at *
      go_wp2_with fail
      go_region_held3 (fun w' => Below wo.heap.size wo w' ∧ ∀ b o, b < wo.heap.size → w'.cell? ⟨b, o, none⟩ = wo.cell? ⟨b, o, none⟩) (first | (with_reducible assumption) | (with_reducible exact hK) | (with_reducible exact keptB_drew wo)) (first | (go_at_call 9; refine (hS _ (by assumption)).mono ?_; rintro e w6 ⟨rfl, hb6⟩; have hK := keptB_below (w0 := wo) (by assumption) hb6))
      have c6 := hbr.trans (hK.1.mono hsr)
      clear hK hS d0 d1 d2 d3 d4 e0 e1 e2 e3 e4
      go_wp2_with fail
      go_roundw
      case rel => exact ⟨j + 1, by omega, by go_num, c6⟩
      case measure => simp [intOf]; omega
    · obtain rfl : j = k := by omega
      have hnl : ¬ (j : Int) < j := by omega
      clear hAc hBc hAB
      go_wp2_with fail
      go_ret
      exact ⟨rfl, hbw⟩

end Go.Proofs.YtkjlchfmplcobagGreatDoor

/- Things that are done, as rows of a call's own. -/
namespace Go.Proofs.YtkjlchfmplcobagGreatDoor
open Go.RowKit

theorem own7_form {w : World} {base : Nat} {e : TypeId} {v : Value} {n : Nat} {xs : List Value} (h : w.ownsRow base e 7 v n xs) : ∃ a c, v = .slice a n c := by
  rcases h.2 with ⟨hv, rfl⟩ | ⟨g, cap, cur, hv, -⟩
  · exact ⟨none, 0, hv⟩
  · exact ⟨_, cap, hv⟩
theorem own7_block {w : World} {base : Nat} {e : TypeId} {v : Value} {n : Nat} {xs : List Value} (h : w.ownsRow base e 7 v n xs) {q : Nat} (hq : v.ownBlock = some q) : base ≤ q := by
  rcases h.2 with ⟨e, -⟩ | ⟨g, cap, cur, e, hg, -⟩
  · rw [e] at hq; cases hq
  · rw [e] at hq; cases hq; exact hg
/-- The values of one thing that is done. -/
def ddV (x : Dd) (pa : Option Addr) (pc : Nat) : List Value := [.int .i64 x.kind, .int .i64 x.n, .int .i64 x.time, .slice pa x.entry.length pc, .int .i64 x.segment, .int .i64 x.at', .int .u8 x.by']
/-- The values of several, whose entries lie in the world w. -/
def DoEls (w : World) (vs : List Value) (l : List Dd) : Prop :=
  vs.length = l.length * 7 ∧ ∀ j, j < l.length → ∃ pa pc, Some' w (.slice pa (l.getD j dd0).entry.length pc) (l.getD j dd0).entry ∧ DdFit (l.getD j dd0) ∧ ∀ i, i < 7 → vs[j * 7 + i]? = (ddV (l.getD j dd0) pa pc)[i]?
theorem DoEls.snoc {w : World} {vs : List Value} {l : List Dd} {x : Dd} {pa : Option Addr} {pc : Nat} (h : DoEls w vs l) (hx : Some' w (.slice pa x.entry.length pc) x.entry) (hb : DdFit x) : DoEls w (vs ++ ddV x pa pc) (l ++ [x]) := by
  obtain ⟨hl, h⟩ := h
  refine ⟨by rw [List.length_append, List.length_append, hl]; show l.length * 7 + 7 = (l.length + 1) * 7; omega, fun j hj => ?_⟩
  by_cases e : j < l.length
  · obtain ⟨qa, qc, h1, h2, h3⟩ := h j e
    have eg : (l ++ [x]).getD j dd0 = l.getD j dd0 := by rw [snoc_get, if_pos e]
    rw [eg]
    refine ⟨qa, qc, h1, h2, fun i hi => ?_⟩
    rw [List.getElem?_append_left (by omega)]
    exact h3 i hi
  · obtain rfl : j = l.length := by simp at hj; omega
    have eg : (l ++ [x]).getD l.length dd0 = x := by rw [snoc_get, if_neg (Nat.lt_irrefl _), if_pos rfl]
    rw [eg]
    refine ⟨pa, pc, hx, hb, fun i hi => ?_⟩
    rw [List.getElem?_append_right (by omega), hl, show l.length * 7 + i - l.length * 7 = i by omega]
end Go.Proofs.YtkjlchfmplcobagGreatDoor

/- Segments as rows of a call's own; parts of lists. -/
namespace Go.Proofs.YtkjlchfmplcobagGreatDoor
open Go.RowKit

theorem Tryz.info111b : (Tryz.prog.info? 111).map (fun i => (i.zero, i.size, i.bytes)) = some (some (.agg #[.int .i64 0, .int .i64 0, .slice none 0 0]), 3, 40) := by kernel_rfl
theorem Lists.part {w : World} {b off n c i m : Nat} {L : List (List Int)} (h : Lists w (some ⟨b, off, none⟩) n c L) (hi : i + m ≤ n) (hm : 1 ≤ m) : Lists w (some ⟨b, off + i, none⟩) m (c - i) ((L.drop i).take m) := by
  have hl := h.len
  have hr := h.room
  have hc := h.cap
  have hd := h.at'.drop (k := i) hl (by omega) (by omega) (c - i)
  refine ⟨by rw [List.length_take, List.length_drop]; omega, hd.take (by rw [List.length_drop]; omega) (by omega) (by omega) _, by omega, by omega, fun e => (by cases e), ?_, ?_⟩
  · refine take_bytes (fun j => ?_) m
    rw [List.getD_eq_getElem?_getD, List.getElem?_drop, ← List.getD_eq_getElem?_getD]; exact h.bytes _
  · refine take_short (fun j => ?_) m
    rw [List.getD_eq_getElem?_getD, List.getElem?_drop, ← List.getD_eq_getElem?_getD]; exact h.short _
theorem own3_below {w w' : World} {base : Nat} {e : TypeId} {v : Value} {n N : Nat} {xs : List Value} (h : w.ownsRow base e 3 v n xs) (hb : Below N w w') (hN : w.heap.size ≤ N) : w'.ownsRow base e 3 v n xs :=
  h.kept (w' := w') (row := none) ⟨hb.os, hb.tape, hb.output, hb.size, fun k hk _ => hb.block k (Nat.lt_of_lt_of_le hk hN)⟩ (by cases v.ownBlock <;> simp)
theorem own_ne3 {w : World} {base b2 : Nat} {e1 e2 : TypeId} {v1 v2 : Value} {n1 n2 : Nat} {xs1 xs2 : List Value} (h1 : w.ownsRow base e1 1 v1 n1 xs1) (h2 : w.ownsRow b2 e2 3 v2 n2 xs2) (hne : e1 ≠ e2) : Sep v1 v2 := fun g hg1 hg2 => by
  rcases h1.2 with ⟨rfl, -⟩ | ⟨g1, c1, cur1, rfl, -, hh1, -⟩
  · cases hg1
  rcases h2.2 with ⟨rfl, -⟩ | ⟨g2, c2, cur2, rfl, -, hh2, -⟩
  · cases hg2
  cases hg1
  cases hg2
  rw [hh1] at hh2
  cases hh2
  exact hne rfl
/-- The values of segments, each with bytes of the call's own. -/
def SegEls (w : World) (base : Nat) (vs : List Value) (l : List Seg) : Prop :=
  vs.length = l.length * 3 ∧ ∀ j, j < l.length → vs[j * 3]? = some (.int .i64 (l.getD j seg0).first) ∧ vs[j * 3 + 1]? = some (.int .i64 (l.getD j seg0).count) ∧
    ∃ y, vs[j * 3 + 2]? = some y ∧ w.ownsRow base 5 1 y (l.getD j seg0).packed.length ((l.getD j seg0).packed.map (Value.int .u8))
theorem SegEls.kept {w w' : World} {base b2 : Nat} {vs : List Value} {l : List Seg} {v : Value} {n : Nat} {xs : List Value} (h : SegEls w base vs l) (hr : w.ownsRow b2 111 3 v n xs) (hg : w.grownBy w' v.ownBlock) : SegEls w' base vs l :=
  ⟨h.1, fun j hj => by
    obtain ⟨h0, h1, y, h2, h3⟩ := h.2 j hj
    exact ⟨h0, h1, y, h2, h3.kept hg (own_ne3 h3 hr (by decide)).or⟩⟩
theorem SegEls.alloc {w : World} {base : Nat} {vs : List Value} {l : List Seg} (h : SegEls w base vs l) (o : Obj) : SegEls (w.alloc o) base vs l :=
  ⟨h.1, fun j hj => by
    obtain ⟨h0, h1, y, h2, h3⟩ := h.2 j hj
    exact ⟨h0, h1, y, h2, h3.alloc o⟩⟩
theorem SegEls.below {w w' : World} {base N : Nat} {vs : List Value} {l : List Seg} (h : SegEls w base vs l) (hb : Below N w w') (hN : w.heap.size ≤ N) : SegEls w' base vs l :=
  ⟨h.1, fun j hj => by
    obtain ⟨h0, h1, y, h2, h3⟩ := h.2 j hj
    exact ⟨h0, h1, y, h2, own_below h3 hb hN⟩⟩
theorem SegEls.snoc {w : World} {base : Nat} {vs : List Value} {l : List Seg} {s : Seg} {y : Value} (h : SegEls w base vs l) (hy : w.ownsRow base 5 1 y s.packed.length (s.packed.map (Value.int .u8))) : SegEls w base (vs ++ [.int .i64 s.first, .int .i64 s.count, y]) (l ++ [s]) := by
  obtain ⟨hl, h⟩ := h
  refine ⟨by simp; omega, fun j hj => ?_⟩
  by_cases e : j < l.length
  · obtain ⟨h0, h1, z, h2, h3⟩ := h j e
    have eg : (l ++ [s]).getD j seg0 = l.getD j seg0 := by rw [List.getD_eq_getElem?_getD, List.getElem?_append_left e, ← List.getD_eq_getElem?_getD]
    rw [eg, List.getElem?_append_left (by omega), List.getElem?_append_left (by omega), List.getElem?_append_left (by omega)]
    exact ⟨h0, h1, z, h2, h3⟩
  · obtain rfl : j = l.length := by simp at hj; omega
    have eg : (l ++ [s]).getD l.length seg0 = s := by rw [List.getD_eq_getElem?_getD, List.getElem?_append_right (Nat.le_refl _), Nat.sub_self]; rfl
    rw [eg, List.getElem?_append_right (by omega), List.getElem?_append_right (by omega), List.getElem?_append_right (by omega), hl, Nat.sub_self, show l.length * 3 + 1 - l.length * 3 = 1 by omega, show l.length * 3 + 2 - l.length * 3 = 2 by omega]
    exact ⟨rfl, rfl, y, rfl, hy⟩
theorem segEls_nil (w : World) (base : Nat) : SegEls w base [] [] := ⟨rfl, fun _ hj => absurd hj (Nat.not_lt_zero _)⟩
/-- Segments, all of them the call's own. -/
def OwnSegs (w : World) (base : Nat) (v : Value) (l : List Seg) : Prop := ∃ vs, w.ownsRow base 111 3 v l.length vs ∧ SegEls w base vs l
theorem OwnSegs.below {w w' : World} {base N : Nat} {v : Value} {l : List Seg} (h : OwnSegs w base v l) (hb : Below N w w') (hN : w.heap.size ≤ N) : OwnSegs w' base v l := by
  obtain ⟨vs, h1, h2⟩ := h
  exact ⟨vs, own3_below h1 hb hN, h2.below hb hN⟩
theorem OwnSegs.set {w : World} {base k o : Nat} {v : Value} {l : List Seg} (h : OwnSegs w base v l) (hk : k < base) (u : Value) : OwnSegs (w.setCell ⟨k, o, none⟩ u) base v l := by
  obtain ⟨vs, h1, h2, h3⟩ := h
  refine ⟨vs, ownsRow_setCell_below h1 (a := ⟨k, o, none⟩) hk u, h2, fun j hj => ?_⟩
  obtain ⟨g0, g1, y, g2, g3⟩ := h3 j hj
  exact ⟨g0, g1, y, g2, ownsRow_setCell_below g3 (a := ⟨k, o, none⟩) hk u⟩
theorem OwnSegs.segs {w : World} {base : Nat} {v : Value} {l : List Seg} (h : OwnSegs w base v l) (hby : SegsBytes l) : SegsAt w v l := by
  obtain ⟨vs, h1, -, h2⟩ := h
  rcases h1.2 with ⟨hv, hn⟩ | ⟨g, cap, cur, rfl, -, hg, h3, h4, -⟩
  · exact ⟨none, 0, by rw [hv, hn], by omega, Nat.zero_le _, fun _ => rfl, .inl hn⟩
  · refine ⟨_, cap, rfl, h3, h4, (fun e => by cases e), .inr ⟨g, 0, rfl, lt_heap hg, fun j hj => ?_⟩⟩
    obtain ⟨g0, g1, y, g2, g3⟩ := h2 j hj
    rw [Nat.zero_add]
    refine ⟨(h1.cellAt (j * 3) (by omega)).trans g0, (h1.cellAt (j * 3 + 1) (by omega)).trans g1, ?_⟩
    obtain ⟨pa, pc, rfl, q1, q2⟩ := own_cap g3
    exact ⟨pa, pc, (h1.cellAt (j * 3 + 2) (by omega)).trans g2, ⟨bytesAt_own g3, hby j, by omega⟩, q1, q2⟩
/-- Each segment's bytes lie in a later block than those of the one ahead. -/
def RiseV (vs : List Value) (m : Nat) : Prop := ∀ i j, i < j → j < m → ∀ y z g h, vs[i * 3 + 2]? = some y → vs[j * 3 + 2]? = some z → y.ownBlock = some g → z.ownBlock = some h → g < h
theorem riseV_nil : RiseV [] 0 := fun _ _ _ h => absurd h (Nat.not_lt_zero _)
theorem RiseV.snoc {w : World} {base m : Nat} {vs : List Value} {l : List Seg} {a b y : Value} (h : RiseV vs m) (he : SegEls w base vs l) (hm : l.length = m) (hy : ∀ g, y.ownBlock = some g → w.heap.size ≤ g) : RiseV (vs ++ [a, b, y]) (m + 1) := fun i j hij hj u z g q hu hz hg hq => by
  have hl : vs.length = m * 3 := by rw [← hm]; exact he.1
  rw [List.getElem?_append_left (by omega)] at hu
  by_cases e : j < m
  · rw [List.getElem?_append_left (by omega)] at hz
    exact h i j hij e u z g q hu hz hg hq
  · obtain rfl : j = m := by omega
    rw [List.getElem?_append_right (by omega), hl, show j * 3 + 2 - j * 3 = 2 by omega] at hz
    cases hz
    obtain ⟨-, -, x, h1, h2⟩ := he.2 i (by omega)
    rw [hu] at h1
    cases h1
    have := (h2.lt g hg).2
    have := hy q hq
    omega
theorem lit_seg (w : World) (x y : Int) (pv : Value) (t : TypeId) : ∀ (j : Nat) (u : Value), [Value.int .i64 x, .int .i64 y, pv][j]? = some u → (w.alloc (.cells #[.int .i64 x, .int .i64 y, pv] t)).cell? ((⟨w.heap.size, 0, none⟩ : Addr).add j) = some u := fun j u hj => by
  have hadd : (⟨w.heap.size, 0, none⟩ : Addr).add j = ⟨w.heap.size, 0 + j, none⟩ := Addr.add_mid _ _ _
  rw [hadd, Nat.zero_add]
  match j, hj with
  | 0, hj => rw [new_cell w t _ 0 (by simp)]; simpa using hj
  | 1, hj => rw [new_cell w t _ 1 (by simp)]; simpa using hj
  | 2, hj => rw [new_cell w t _ 2 (by simp)]; simpa using hj
  | j + 3, hj => simp at hj
theorem segK_bytes {L : List (List Int)} (hb : ∀ j, Bytes (L.getD j [])) (h : ∀ e ∈ L, e.length ≤ 200) (k : Nat) : Bytes (segK L k).packed := by
  refine pack_bytes ?_ (lay_part h k)
  refine bytes_of_mem (fun x hx => ?_)
  unfold layL at hx
  obtain ⟨e, he, hx⟩ := List.mem_flatMap.1 hx
  have h200 := short_part h k e he
  rcases List.mem_cons.1 hx with rfl | hx
  · omega
  · obtain ⟨j, hj, rfl⟩ := List.mem_iff_getElem.1 (List.mem_of_mem_drop (List.mem_of_mem_take he))
    have := hb j
    rw [List.getD_eq_getElem?_getD, List.getElem?_eq_getElem hj] at this
    exact bytes_forall this x hx
theorem segsL_bytes {L : List (List Int)} (hb : ∀ j, Bytes (L.getD j [])) (h : ∀ e ∈ L, e.length ≤ 200) : SegsBytes (segsL L) := fun j => by
  by_cases hj : j < (L.length + 7) / 8
  · unfold segsL; rw [segsN_get _ _ _ hj]; exact segK_bytes hb h j
  · rw [List.getD_eq_getElem?_getD, List.getElem?_eq_none (by unfold segsL; rw [segsN_length]; omega)]; exact nil_bytes
/-- The text of a part. -/
theorem lay_bytes {l : List (List Int)} (hb : ∀ j, Bytes (l.getD j [])) (h : ∀ j, (l.getD j []).length ≤ 200) : Bytes (layL l) := by
  refine bytes_of_mem (fun x hx => ?_)
  unfold layL at hx
  obtain ⟨e, he, hx⟩ := List.mem_flatMap.1 hx
  obtain ⟨j, hj, rfl⟩ := List.mem_iff_getElem.1 he
  have h1 := hb j
  have h2 := h j
  rw [List.getD_eq_getElem?_getD, List.getElem?_eq_getElem hj] at h1 h2
  rcases List.mem_cons.1 hx with rfl | hx
  · simp at h2; omega
  · exact bytes_forall h1 x hx

end Go.Proofs.YtkjlchfmplcobagGreatDoor
