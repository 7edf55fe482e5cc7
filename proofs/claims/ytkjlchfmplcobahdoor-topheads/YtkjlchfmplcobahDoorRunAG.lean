/- FleetPastWalk, TopAlive, ShelfSegs, TopStepsWalk, FleetMem, as one text. -/
import Derived.Test.YtkjlchfmplcobahDoorProg
import Derived.Test.YtkjlchfmplcobahDoorRunAE
import Derived.Test.YtkjlchfmplcobahDoorRunAF
import Derived.WalkKit
import Derived.WalkSpells
import Derived.WalkLawsBesides
import Derived.Deep.RegionHeld3
import Derived.BigRegion
import Derived.Deep.AppendLies
import Derived.Laws.AppendOwnNone
/- The walk of the law FleetPast, over the faces of package fleet. -/
namespace Go.Proofs.YtkjlchfmplcobahDoor
open Go.RowKit

theorem play_ok {ws : List Win} {l : List Dd} (h : (playF ws l).1 = 0) : playL ws l = runL (startL ws) l ∧ (wrongWins ws).1 = 0 ∧ l.length ≤ 120 := by
  refine ⟨by unfold playL; rw [if_neg (fun g => g h)], ?_, ?_⟩
  · unfold playF at h
    by_cases hw : (wrongWins ws).1 ≠ 0
    · rw [if_pos hw] at h; exact absurd h hw
    · simpa using hw
  · unfold playF at h
    by_cases hw : (wrongWins ws).1 ≠ 0
    · rw [if_pos hw] at h; exact absurd h hw
    · rw [if_neg hw] at h
      by_cases hl : 120 < l.length
      · rw [if_pos hl] at h; exact absurd h (by decide)
      · omega
theorem play_right {ws : List Win} {l : List Dd} (hw : (wrongWins ws).1 = 0) (hl : l.length ≤ 120) : playF ws l = (0, 0) := by
  unfold playF; rw [if_neg (fun g => g hw), if_neg (by omega)]
end Go.Proofs.YtkjlchfmplcobahDoor

/- The walk of yeartop.alive, over package fleet's faces. -/
namespace Go.Proofs.YtkjlchfmplcobahDoor
open Go.RowKit

theorem winsL_get {n k : Nat} (h : k < n) : (winsL n).getD k win0 = ⟨10 * (k : Int), 10 * (k : Int) + 10⟩ := by
  unfold winsL; rw [List.getD_eq_getElem?_getD, List.getElem?_map, List.getElem?_range h]; rfl
theorem winsL_right {n : Nat} (h : n ≤ 8) : wrongWins (winsL n) = (0, 0) := wrongWins_none (by rw [winsL_length]; omega) (fun j hj => by
  rw [winsL_length] at hj
  unfold wrongWin
  rw [winsL_get hj, if_neg (by dsimp only; omega)]
  by_cases h0 : 0 < j
  · rw [winsL_get (show j - 1 < n by omega), if_neg (by dsimp only; omega)]
  · rw [if_neg (fun g => h0 g.1)])
def topD : List Dd := yearL 0 [[1], [2]] 3 ++ yearL 1 [[3]] 1
theorem topD_right : playF (winsL 2) topD = (0, 0) := play_right (by rw [winsL_right (by omega)]) (by decide)
theorem unlike12 : Unlike [[1], [2]] := ⟨by decide, by decide, by decide⟩
theorem unlike3 : Unlike [[3]] := ⟨by decide, by decide, by decide⟩
theorem topD_run : (playL (winsL 2) topD).2.length = 7 ∧ (playL (winsL 2) topD).1.book.length = 2 ∧ (playL (winsL 2) topD).1.shards.length = 2 ∧ ((playL (winsL 2) topD).1.shards.getD 0 shd0).state = 4 ∧ ((playL (winsL 2) topD).2.getD 6 ans0).size = 1 := by
  have hp := (play_ok (ws := winsL 2) (l := topD) (by rw [topD_right])).1
  have y1 := run_year (f := startL (winsL 2)) (k := 0) unlike12 (by rfl) rfl rfl (far := 3) (by omega) (by omega)
  obtain ⟨F1, hF1⟩ : ∃ F1, F1 = (runL (startL (winsL 2)) (yearL 0 [[1], [2]] 3)).1 := ⟨_, rfl⟩
  have hF1' := hF1
  rw [y1] at hF1'
  have y2 := run_year (f := F1) (k := 1) unlike3 (by rw [hF1']; rfl) (by rw [hF1']; rfl) (by rw [hF1']; rfl) (far := 1) (by omega) (by omega)
  rw [hp]
  unfold topD
  rw [runL_append, ← hF1, y1, y2, hF1']
  exact ⟨rfl, rfl, rfl, rfl, rfl⟩

set_option maxRecDepth 100000 in
set_option maxHeartbeats 2000000 in
theorem topAlive_any (hPl : PlayC) (w : World) (hR : Ready w) :
    Calls Tryd.prog 6 #[] w fun e w' => e = .returned (.bool true) ∧ Below w.heap.size w w' := by
  go_enter Tryd.func6, Tryd.ntmps6
  go_wp2_with fail
  refine (windows_any 2 (by omega) w).mono ?_
  rintro e w1 ⟨wa, wc, rfl, hW1, b1⟩
  have dL : Below w1.heap.size w1 (((w1.alloc (.cells #[.int .u8 1] 5)).alloc (.cells #[.int .u8 2] 5)).alloc (.cells #[.slice (some ⟨w1.heap.size, 0, none⟩) 1 1, .slice (some ⟨w1.heap.size + 1, 0, none⟩) 1 1] 25)) := (((Below.refl _ _).alloc (Nat.le_refl _) _).alloc (by simp) _).alloc (by simp; omega) _
  have p1 := box_old _ (.cells #[.slice (some ⟨w1.heap.size, 0, none⟩) 1 1, .slice (some ⟨w1.heap.size + 1, 0, none⟩) 1 1] 25) (box_one w1 #[.int .u8 1] 5 (.cells #[.int .u8 2] 5))
  have p2 := box_old _ (.cells #[.slice (some ⟨w1.heap.size, 0, none⟩) 1 1, .slice (some ⟨w1.heap.size + 1, 0, none⟩) 1 1] 25) (box_last w1 (.cells #[.int .u8 1] 5) #[.int .u8 2] 5)
  have p3 := box_new ((w1.alloc (.cells #[.int .u8 1] 5)).alloc (.cells #[.int .u8 2] 5)) #[.slice (some ⟨w1.heap.size, 0, none⟩) 1 1, .slice (some ⟨w1.heap.size + 1, 0, none⟩) 1 1] 25
  have hz : ((w1.alloc (.cells #[.int .u8 1] 5)).alloc (.cells #[.int .u8 2] 5)).heap.size = w1.heap.size + 2 := by simp
  rw [hz] at p3
  have hLs := lit_lists2 (by omega) (by omega) p1 p2 p3
  have b2 := b1.trans (dL.mono b1.size)
  have hW2 := hW1.below dL
  have hY := year_any [] 0 3 [[1], [2]] none _ 0 0 2 2 _ [] _ rfl (World.ownsRow_nil _ _ _ _) (doB_nil _ _) (Nat.le_refl _) (stay_low hLs (Below.refl _ _)) (by omega) (by omega) (by omega)
  clear hW1 dL p1 p2 p3 hz hLs b1
  go_wp2_with fail
  generalize ((w1.alloc (.cells #[.int .u8 1] 5)).alloc (.cells #[.int .u8 2] 5)).alloc (.cells #[.slice (some ⟨w1.heap.size, 0, none⟩) 1 1, .slice (some ⟨w1.heap.size + 1, 0, none⟩) 1 1] 25) = w2 at *
  refine hY.mono ?_
  rintro e w3 ⟨v3, rfl, va, vc, vs, rfl, hrow, hD, hwh, hkp, hb3, hs3⟩
  have hl1 : ([] ++ (subsL (10 * ((0 : Nat) : Int) + 5) [[1], [2]] ++ (stepsT 0).take 3) : List Dd).length = 5 := rfl
  rw [hl1] at hrow hwh
  clear hY
  have e1 : ([] ++ (subsL (10 * ((0 : Nat) : Int) + 5) [[1], [2]] ++ (stepsT 0).take 3) : List Dd) = yearL 0 [[1], [2]] 3 := rfl
  rw [e1] at hD
  have b3 := b2.trans (hb3.mono b2.size)
  have dM : Below w3.heap.size w3 ((w3.alloc (.cells #[.int .u8 3] 5)).alloc (.cells #[.slice (some ⟨w3.heap.size, 0, none⟩) 1 1] 25)) := ((Below.refl _ _).alloc (Nat.le_refl _) _).alloc (by simp) _
  have q1 := box_one w3 #[.int .u8 3] 5 (.cells #[.slice (some ⟨w3.heap.size, 0, none⟩) 1 1] 25)
  have q2 := box_last w3 (.cells #[.int .u8 3] 5) #[.slice (some ⟨w3.heap.size, 0, none⟩) 1 1] 25
  have hrowM := own7_below hrow dM (Nat.le_refl _)
  have hDM := hD.below dM
  have hlt : ∀ g, (Value.slice va 5 vc).ownBlock = some g → g < w3.heap.size := fun g hg => (hrow.lt g hg).2
  have hSt : Stay w2.heap.size (.slice va 5 vc) ((w3.alloc (.cells #[.int .u8 3] 5)).alloc (.cells #[.slice (some ⟨w3.heap.size, 0, none⟩) 1 1] 25)) (some ⟨w3.heap.size + 1, 0, none⟩) 1 1 [[3]] := stay_lit (by omega) q1 q2 (fun h => by have := hlt _ h; omega) (fun h => by have := hlt _ h; omega)
  have hY := year_any (yearL 0 [[1], [2]] 3) 1 1 [[3]] va _ 5 vc 1 1 w2.heap.size vs _ rfl hrowM hDM (Nat.le_trans hs3 dM.size) hSt (by omega) (by omega) (by omega)
  have c4 : Below w2.heap.size w2 ((w3.alloc (.cells #[.int .u8 3] 5)).alloc (.cells #[.slice (some ⟨w3.heap.size, 0, none⟩) 1 1] 25)) := hb3.trans (dM.mono hs3)
  have hs4 : w2.heap.size ≤ _ := Nat.le_trans hs3 dM.size
  clear hrow hD hwh hkp dM q1 q2 hrowM hDM hlt hSt hl1 e1
  go_wp2_with fail
  generalize (w3.alloc (.cells #[.int .u8 3] 5)).alloc (.cells #[.slice (some ⟨w3.heap.size, 0, none⟩) 1 1] 25) = w4 at *
  refine hY.mono ?_
  rintro e w5 ⟨v5, rfl, va5, vc5, vs5, rfl, hrow5, hD5, -, -, hb5, hs5⟩
  have hDos := hD5.dos hrow5
  have hl5 : (yearL 0 [[1], [2]] 3 ++ (subsL (10 * ((1 : Nat) : Int) + 5) [[3]] ++ (stepsT 1).take 1)).length = 7 := rfl
  have e5 : yearL 0 [[1], [2]] 3 ++ (subsL (10 * ((1 : Nat) : Int) + 5) [[3]] ++ (stepsT 1).take 1) = topD := rfl
  rw [hl5, e5] at hDos
  rw [hl5]
  have c5 := c4.trans hb5
  have b5 := b2.trans (c5.mono b2.size)
  have cP := hPl (winsL 2) topD _ _ w5 (hR.below b5) (hW2.below c5) hDos
  obtain ⟨f1, f2, f3, f4, f5⟩ := topD_run
  rw [topD_right] at cP
  dsimp only [faultV] at cP
  clear hY hrow5 hD5 hDos hl5 e5 hb5 hs5 c4 hW2 hb3 hs3 hs4 hPl b3
  generalize playL (winsL 2) topD = PP at *
  obtain ⟨F, A⟩ := PP
  dsimp only at f1 f2 f3 f4 f5 cP
  go_wp2_with fail
  refine cP.mono ?_
  rintro e w6 ⟨fv, av, rfl, hF, hA, hb6⟩
  have b6 := b5.trans (hb6.mono b5.size)
  obtain ⟨sa, sc, ka, kc, rfl, hSh, hBk⟩ := hF
  obtain ⟨aa, ac, rfl, ha1, ha2, ha3, hAc⟩ := hA
  obtain ⟨ab, ao, rfl, hab, hcs⟩ := hAc.resolve_left (by omega)
  obtain ⟨-, -, -, a3, -⟩ := hcs 6 (by omega)
  obtain ⟨sa', sc', es, -, -, -, hSc⟩ := hSh
  cases es
  obtain ⟨sb, so, rfl, hsb, hsc⟩ := hSc.resolve_left (by omega)
  obtain ⟨-, -, s2, -, -, -, -⟩ := hsc 0 (by omega)
  rw [f5] at a3
  rw [f4] at s2
  rw [Nat.zero_mul, Nat.add_zero] at s2
  rw [f1, f2, f3]
  have d7 : Below w6.heap.size w6 ((w6.alloc (.cells #[.slice (some ⟨sb, so, none⟩) 2 sc, .slice ka 2 kc] 32)).alloc (.cells #[.int .i64 0, .int .i64 0] 36)) := ((Below.refl _ _).alloc (Nat.le_refl _) _).alloc (by simp) _
  obtain ⟨x0, x1, -, -⟩ := box_two (box_one w6 #[.slice (some ⟨sb, so, none⟩) 2 sc, .slice ka 2 kc] 32 (.cells #[.int .i64 0, .int .i64 0] 36))
  obtain ⟨y0, y1, -, -⟩ := box_two (box_last w6 (.cells #[.slice (some ⟨sb, so, none⟩) 2 sc, .slice ka 2 kc] 32) #[.int .i64 0, .int .i64 0] 36)
  have a7 := (d7.cell (p := ⟨ab, ao + 6 * 5 + 3, none⟩) hab).trans a3
  have s7 := (d7.cell (p := ⟨sb, so + 2, none⟩) hsb).trans s2
  have b7 := b6.trans (d7.mono b6.size)
  clear cP hAc hcs hSc hsc hBk a3 s2 d7 f1 f2 f3 f4 f5
  go_wp2_with fail
  go_ret
  exact ⟨rfl, b7⟩

end Go.Proofs.YtkjlchfmplcobahDoor

/- Segments as rows of a call's own; parts of lists. -/
namespace Go.Proofs.YtkjlchfmplcobahDoor
open Go.RowKit

theorem Tryd.info95b : (Tryd.prog.info? 95).map (fun i => (i.zero, i.size, i.bytes)) = some (some (.agg #[.int .i64 0, .int .i64 0, .slice none 0 0]), 3, 40) := by kernel_rfl
theorem Lists.part {w : World} {b off n c i m : Nat} {L : List (List Int)} (h : Lists w (some ⟨b, off, none⟩) n c L) (hi : i + m ≤ n) (hm : 1 ≤ m) : Lists w (some ⟨b, off + i, none⟩) m (c - i) ((L.drop i).take m) := by
  have hl := h.len
  have hr := h.room
  have hc := h.cap
  have hd := h.at'.drop (k := i) hl (by omega) (by omega) (c - i)
  refine ⟨by rw [List.length_take, List.length_drop]; omega, hd.take (by rw [List.length_drop]; omega) (by omega) (by omega) _, by omega, by omega, fun e => (by cases e), ?_, ?_⟩
  · refine take_bytes (fun j => ?_) m
    rw [List.getD_eq_getElem?_getD, List.getElem?_drop, ← List.getD_eq_getElem?_getD]; exact h.bytes _
  · refine take_short (fun j => ?_) m
    rw [List.getD_eq_getElem?_getD, List.getElem?_drop, ← List.getD_eq_getElem?_getD]; exact h.short _
theorem own3_below {w w' : World} {base : Nat} {e : TypeId} {v : Value} {n N : Nat} {xs : List Value} (h : w.ownsRow base e 3 v n xs) (hb : Below N w w') (hN : w.heap.size ≤ N) : w'.ownsRow base e 3 v n xs :=
  h.kept (w' := w') (row := none) ⟨hb.os, hb.tape, hb.output, hb.size, fun k hk _ => hb.block k (Nat.lt_of_lt_of_le hk hN)⟩ (by cases v.ownBlock <;> simp)
theorem own_ne3 {w : World} {base b2 : Nat} {e1 e2 : TypeId} {v1 v2 : Value} {n1 n2 : Nat} {xs1 xs2 : List Value} (h1 : w.ownsRow base e1 1 v1 n1 xs1) (h2 : w.ownsRow b2 e2 3 v2 n2 xs2) (hne : e1 ≠ e2) : Sep v1 v2 := fun g hg1 hg2 => by
  rcases h1.2 with ⟨rfl, -⟩ | ⟨g1, c1, cur1, rfl, -, hh1, -⟩
  · cases hg1
  rcases h2.2 with ⟨rfl, -⟩ | ⟨g2, c2, cur2, rfl, -, hh2, -⟩
  · cases hg2
  cases hg1
  cases hg2
  rw [hh1] at hh2
  cases hh2
  exact hne rfl
/-- The values of segments, each with bytes of the call's own. -/
def SegEls (w : World) (base : Nat) (vs : List Value) (l : List Seg) : Prop :=
  vs.length = l.length * 3 ∧ ∀ j, j < l.length → vs[j * 3]? = some (.int .i64 (l.getD j seg0).first) ∧ vs[j * 3 + 1]? = some (.int .i64 (l.getD j seg0).count) ∧
    ∃ y, vs[j * 3 + 2]? = some y ∧ w.ownsRow base 5 1 y (l.getD j seg0).packed.length ((l.getD j seg0).packed.map (Value.int .u8))
theorem SegEls.kept {w w' : World} {base b2 : Nat} {vs : List Value} {l : List Seg} {v : Value} {n : Nat} {xs : List Value} (h : SegEls w base vs l) (hr : w.ownsRow b2 95 3 v n xs) (hg : w.grownBy w' v.ownBlock) : SegEls w' base vs l :=
  ⟨h.1, fun j hj => by
    obtain ⟨h0, h1, y, h2, h3⟩ := h.2 j hj
    exact ⟨h0, h1, y, h2, h3.kept hg (own_ne3 h3 hr (by decide)).or⟩⟩
theorem SegEls.alloc {w : World} {base : Nat} {vs : List Value} {l : List Seg} (h : SegEls w base vs l) (o : Obj) : SegEls (w.alloc o) base vs l :=
  ⟨h.1, fun j hj => by
    obtain ⟨h0, h1, y, h2, h3⟩ := h.2 j hj
    exact ⟨h0, h1, y, h2, h3.alloc o⟩⟩
theorem SegEls.below {w w' : World} {base N : Nat} {vs : List Value} {l : List Seg} (h : SegEls w base vs l) (hb : Below N w w') (hN : w.heap.size ≤ N) : SegEls w' base vs l :=
  ⟨h.1, fun j hj => by
    obtain ⟨h0, h1, y, h2, h3⟩ := h.2 j hj
    exact ⟨h0, h1, y, h2, own_below h3 hb hN⟩⟩
theorem SegEls.snoc {w : World} {base : Nat} {vs : List Value} {l : List Seg} {s : Seg} {y : Value} (h : SegEls w base vs l) (hy : w.ownsRow base 5 1 y s.packed.length (s.packed.map (Value.int .u8))) : SegEls w base (vs ++ [.int .i64 s.first, .int .i64 s.count, y]) (l ++ [s]) := by
  obtain ⟨hl, h⟩ := h
  refine ⟨by simp; omega, fun j hj => ?_⟩
  by_cases e : j < l.length
  · obtain ⟨h0, h1, z, h2, h3⟩ := h j e
    have eg : (l ++ [s]).getD j seg0 = l.getD j seg0 := by rw [List.getD_eq_getElem?_getD, List.getElem?_append_left e, ← List.getD_eq_getElem?_getD]
    rw [eg, List.getElem?_append_left (by omega), List.getElem?_append_left (by omega), List.getElem?_append_left (by omega)]
    exact ⟨h0, h1, z, h2, h3⟩
  · obtain rfl : j = l.length := by simp at hj; omega
    have eg : (l ++ [s]).getD l.length seg0 = s := by rw [List.getD_eq_getElem?_getD, List.getElem?_append_right (Nat.le_refl _), Nat.sub_self]; rfl
    rw [eg, List.getElem?_append_right (by omega), List.getElem?_append_right (by omega), List.getElem?_append_right (by omega), hl, Nat.sub_self, show l.length * 3 + 1 - l.length * 3 = 1 by omega, show l.length * 3 + 2 - l.length * 3 = 2 by omega]
    exact ⟨rfl, rfl, y, rfl, hy⟩
theorem segEls_nil (w : World) (base : Nat) : SegEls w base [] [] := ⟨rfl, fun _ hj => absurd hj (Nat.not_lt_zero _)⟩
/-- Segments, all of them the call's own. -/
def OwnSegs (w : World) (base : Nat) (v : Value) (l : List Seg) : Prop := ∃ vs, w.ownsRow base 95 3 v l.length vs ∧ SegEls w base vs l
theorem OwnSegs.below {w w' : World} {base N : Nat} {v : Value} {l : List Seg} (h : OwnSegs w base v l) (hb : Below N w w') (hN : w.heap.size ≤ N) : OwnSegs w' base v l := by
  obtain ⟨vs, h1, h2⟩ := h
  exact ⟨vs, own3_below h1 hb hN, h2.below hb hN⟩
theorem OwnSegs.set {w : World} {base k o : Nat} {v : Value} {l : List Seg} (h : OwnSegs w base v l) (hk : k < base) (u : Value) : OwnSegs (w.setCell ⟨k, o, none⟩ u) base v l := by
  obtain ⟨vs, h1, h2, h3⟩ := h
  refine ⟨vs, ownsRow_setCell_below h1 (a := ⟨k, o, none⟩) hk u, h2, fun j hj => ?_⟩
  obtain ⟨g0, g1, y, g2, g3⟩ := h3 j hj
  exact ⟨g0, g1, y, g2, ownsRow_setCell_below g3 (a := ⟨k, o, none⟩) hk u⟩
theorem OwnSegs.segs {w : World} {base : Nat} {v : Value} {l : List Seg} (h : OwnSegs w base v l) (hby : SegsBytes l) : SegsAt w v l := by
  obtain ⟨vs, h1, -, h2⟩ := h
  rcases h1.2 with ⟨hv, hn⟩ | ⟨g, cap, cur, rfl, -, hg, h3, h4, -⟩
  · exact ⟨none, 0, by rw [hv, hn], by omega, Nat.zero_le _, fun _ => rfl, .inl hn⟩
  · refine ⟨_, cap, rfl, h3, h4, (fun e => by cases e), .inr ⟨g, 0, rfl, lt_heap hg, fun j hj => ?_⟩⟩
    obtain ⟨g0, g1, y, g2, g3⟩ := h2 j hj
    rw [Nat.zero_add]
    refine ⟨(h1.cellAt (j * 3) (by omega)).trans g0, (h1.cellAt (j * 3 + 1) (by omega)).trans g1, ?_⟩
    obtain ⟨pa, pc, rfl, q1, q2⟩ := own_cap g3
    exact ⟨pa, pc, (h1.cellAt (j * 3 + 2) (by omega)).trans g2, ⟨bytesAt_own g3, hby j, by omega⟩, q1, q2⟩
/-- Each segment's bytes lie in a later block than those of the one ahead. -/
def RiseV (vs : List Value) (m : Nat) : Prop := ∀ i j, i < j → j < m → ∀ y z g h, vs[i * 3 + 2]? = some y → vs[j * 3 + 2]? = some z → y.ownBlock = some g → z.ownBlock = some h → g < h
theorem riseV_nil : RiseV [] 0 := fun _ _ _ h => absurd h (Nat.not_lt_zero _)
theorem RiseV.snoc {w : World} {base m : Nat} {vs : List Value} {l : List Seg} {a b y : Value} (h : RiseV vs m) (he : SegEls w base vs l) (hm : l.length = m) (hy : ∀ g, y.ownBlock = some g → w.heap.size ≤ g) : RiseV (vs ++ [a, b, y]) (m + 1) := fun i j hij hj u z g q hu hz hg hq => by
  have hl : vs.length = m * 3 := by rw [← hm]; exact he.1
  rw [List.getElem?_append_left (by omega)] at hu
  by_cases e : j < m
  · rw [List.getElem?_append_left (by omega)] at hz
    exact h i j hij e u z g q hu hz hg hq
  · obtain rfl : j = m := by omega
    rw [List.getElem?_append_right (by omega), hl, show j * 3 + 2 - j * 3 = 2 by omega] at hz
    cases hz
    obtain ⟨-, -, x, h1, h2⟩ := he.2 i (by omega)
    rw [hu] at h1
    cases h1
    have := (h2.lt g hg).2
    have := hy q hq
    omega
theorem lit_seg (w : World) (x y : Int) (pv : Value) (t : TypeId) : ∀ (j : Nat) (u : Value), [Value.int .i64 x, .int .i64 y, pv][j]? = some u → (w.alloc (.cells #[.int .i64 x, .int .i64 y, pv] t)).cell? ((⟨w.heap.size, 0, none⟩ : Addr).add j) = some u := fun j u hj => by
  have hadd : (⟨w.heap.size, 0, none⟩ : Addr).add j = ⟨w.heap.size, 0 + j, none⟩ := Addr.add_mid _ _ _
  rw [hadd, Nat.zero_add]
  match j, hj with
  | 0, hj => rw [new_cell w t _ 0 (by simp)]; simpa using hj
  | 1, hj => rw [new_cell w t _ 1 (by simp)]; simpa using hj
  | 2, hj => rw [new_cell w t _ 2 (by simp)]; simpa using hj
  | j + 3, hj => simp at hj
theorem segK_bytes {L : List (List Int)} (hb : ∀ j, Bytes (L.getD j [])) (h : ∀ e ∈ L, e.length ≤ 200) (k : Nat) : Bytes (segK L k).packed := by
  refine pack_bytes ?_ (lay_part h k)
  refine bytes_of_mem (fun x hx => ?_)
  unfold layL at hx
  obtain ⟨e, he, hx⟩ := List.mem_flatMap.1 hx
  have h200 := short_part h k e he
  rcases List.mem_cons.1 hx with rfl | hx
  · omega
  · obtain ⟨j, hj, rfl⟩ := List.mem_iff_getElem.1 (List.mem_of_mem_drop (List.mem_of_mem_take he))
    have := hb j
    rw [List.getD_eq_getElem?_getD, List.getElem?_eq_getElem hj] at this
    exact bytes_forall this x hx
theorem segsL_bytes {L : List (List Int)} (hb : ∀ j, Bytes (L.getD j [])) (h : ∀ e ∈ L, e.length ≤ 200) : SegsBytes (segsL L) := fun j => by
  by_cases hj : j < (L.length + 7) / 8
  · unfold segsL; rw [segsN_get _ _ _ hj]; exact segK_bytes hb h j
  · rw [List.getD_eq_getElem?_getD, List.getElem?_eq_none (by unfold segsL; rw [segsN_length]; omega)]; exact nil_bytes
/-- The text of a part. -/
theorem lay_bytes {l : List (List Int)} (hb : ∀ j, Bytes (l.getD j [])) (h : ∀ j, (l.getD j []).length ≤ 200) : Bytes (layL l) := by
  refine bytes_of_mem (fun x hx => ?_)
  unfold layL at hx
  obtain ⟨e, he, hx⟩ := List.mem_flatMap.1 hx
  obtain ⟨j, hj, rfl⟩ := List.mem_iff_getElem.1 he
  have h1 := hb j
  have h2 := h j
  rw [List.getD_eq_getElem?_getD, List.getElem?_eq_getElem hj] at h1 h2
  rcases List.mem_cons.1 hx with rfl | hx
  · simp at h2; omega
  · exact bytes_forall h1 x hx

end Go.Proofs.YtkjlchfmplcobahDoor

/- The walk of the law TopSteps, over package fleet's faces. -/
namespace Go.Proofs.YtkjlchfmplcobahDoor
open Go.RowKit

def IntCell (w : World) (b o : Nat) (x : Int) : Prop := w.cell? ⟨b, o, none⟩ = some (.int .i64 x) ∧ -9223372036854775808 ≤ x ∧ x ≤ 9223372036854775807
def IntsAt (w : World) (v : Value) (l : List Int) : Prop := RowAt 1 IntCell 0 w v l
theorem IntsAt.below {w w' : World} {v : Value} {l : List Int} (h : IntsAt w v l) (hw : Below w.heap.size w w') : IntsAt w' v l :=
  RowAt.below h hw (fun b o _ hb ⟨h1, h2⟩ => ⟨by rw [hw.cell (p := ⟨b, o, none⟩) hb]; exact h1, h2⟩)
theorem IntsAt.get {w : World} {a : Option Addr} {n c : Nat} {l : List Int} (h : IntsAt w (.slice a n c) l) (hn : l.length = n) {j : Nat} (hj : j < n) : ∃ b o, a = some ⟨b, o, none⟩ ∧ b < w.heap.size ∧ w.cell? ⟨b, o + j, none⟩ = some (.int .i64 (l.getD j 0)) ∧ -9223372036854775808 ≤ l.getD j 0 ∧ l.getD j 0 ≤ 9223372036854775807 := by
  obtain ⟨a', c', e, -, -, -, h5⟩ := h
  rw [hn] at e h5
  cases e
  obtain ⟨b, off, h6, h7, h8⟩ := h5.resolve_left (by omega)
  obtain ⟨h9, h10⟩ := h8 j hj
  rw [Nat.mul_one] at h9
  exact ⟨b, off, h6, h7, h9, h10⟩
theorem YearI.kept {w wr : World} {u v : Value} {l : List Dd} (h : YearI w.heap.size w u wr v l) : Below w.heap.size w wr := by obtain ⟨_, _, _, _, _, _, _, _, h6, _⟩ := h; exact h6
theorem AnssAt.at' {w : World} {a : Option Addr} {n c : Nat} {l : List Ans} (h : AnssAt w (.slice a n c) l) (hn : l.length = n) {j : Nat} (hj : j < n) : ∃ b o, a = some ⟨b, o, none⟩ ∧ b < w.heap.size ∧ AnsCells w b (o + j * 5) (l.getD j ans0) := by
  obtain ⟨a', c', e, -, -, -, h5⟩ := h
  rw [hn] at e h5
  cases e
  obtain ⟨b, off, h6, h7, h8⟩ := h5.resolve_left (by omega)
  exact ⟨b, off, h6, h7, h8 j hj⟩
end Go.Proofs.YtkjlchfmplcobahDoor

/- A fleet that goes on, in memory: what each block of it is for. Nothing of the program's functions is in it. -/
namespace Go.Proofs.YtkjlchfmplcobahDoor
open Go.RowKit

theorem five_free {w : World} {k : Nat} {a b c d e : Value} {t : TypeId} (h : w.heap[k]? = some (.cells #[a, b, c, d, e] t (0, 0))) : w.frozen? ⟨k, 0, none⟩ = false ∧ w.frozen? ⟨k, 1, none⟩ = false ∧ w.frozen? ⟨k, 2, none⟩ = false ∧ w.frozen? ⟨k, 3, none⟩ = false ∧ w.frozen? ⟨k, 4, none⟩ = false :=
  ⟨frozen_of_row w k 0 _ t h, frozen_of_row w k 1 _ t h, frozen_of_row w k 2 _ t h, frozen_of_row w k 3 _ t h, frozen_of_row w k 4 _ t h⟩
/-- What a block is for. -/
abbrev Tag := Nat × Nat × Nat
def tNo : Tag := (0, 0, 0)
def tFix : Tag := (1, 0, 0)
def tSh : Tag := (2, 0, 0)
def tFl : Tag := (3, 0, 0)
def tBk : Tag := (4, 0, 0)
def tAn : Tag := (5, 0, 0)
def tEnt (k : Nat) : Tag := (6, k, 0)
def tSeg (k : Nat) : Tag := (7, k, 0)
def tPk (k j : Nat) : Tag := (8, k, j)
/-- From n on all blocks are for t. -/
def ext (τ : Nat → Tag) (n : Nat) (t : Tag) : Nat → Tag := fun b => if b < n then τ b else t
theorem ext_old {τ : Nat → Tag} {n b : Nat} {t : Tag} (h : b < n) : ext τ n t b = τ b := if_pos h
theorem ext_new {τ : Nat → Tag} {n b : Nat} {t : Tag} (h : n ≤ b) : ext τ n t b = t := if_neg (by omega)
/-- A value's block is there, and is for t. -/
def Tg (τ : Nat → Tag) (w : World) (t : Tag) (v : Value) : Prop := ∀ b, v.ownBlock = some b → b < w.heap.size ∧ τ b = t
/-- But for one block all is as it was; and what blocks were for stays. -/
structure Upd (τ τ' : Nat → Tag) (w w' : World) (row : Option Nat) : Prop where
  grow : w.grownBy w' row
  same : ∀ b, b < w.heap.size → τ' b = τ b
theorem grown_below {w w' : World} (h : Below w.heap.size w w') : w.grownBy w' none := ⟨h.os, h.tape, h.output, h.size, fun k hk _ => h.block k hk⟩
theorem grown_set (w : World) (k o : Nat) (u : Value) : w.grownBy (w.setCell ⟨k, o, none⟩ u) (some k) := ⟨rfl, rfl, rfl, by simp, fun j _ hj => heap_setCell_other w ⟨k, o, none⟩ j u (fun e => hj (by simp [e]))⟩
theorem Upd.refl (τ : Nat → Tag) (w : World) (row : Option Nat) : Upd τ τ w w row := ⟨World.grownBy.refl _ _, fun _ _ => rfl⟩
theorem upd_call {τ : Nat → Tag} {w w' : World} (h : Below w.heap.size w w') (t : Tag) : Upd τ (ext τ w.heap.size t) w w' none := ⟨grown_below h, fun _ hb => ext_old hb⟩
theorem upd_same {τ : Nat → Tag} {w w' : World} (h : Below w.heap.size w w') : Upd τ τ w w' none := ⟨grown_below h, fun _ _ => rfl⟩
theorem upd_set (τ : Nat → Tag) (w : World) (k o : Nat) (u : Value) : Upd τ τ w (w.setCell ⟨k, o, none⟩ u) (some k) := ⟨grown_set w k o u, fun _ _ => rfl⟩
theorem Tg.upd {τ τ' : Nat → Tag} {w w' : World} {t : Tag} {v : Value} {row : Option Nat} (h : Tg τ w t v) (u : Upd τ τ' w w' row) : Tg τ' w' t v := fun b hb => by
  obtain ⟨h1, h2⟩ := h b hb
  exact ⟨Nat.lt_of_lt_of_le h1 u.grow.size, (u.same b h1).trans h2⟩
theorem Tg.off {τ : Nat → Tag} {w : World} {t : Tag} {v : Value} {row : Option Nat} (h : Tg τ w t v) (hne : ∀ b, row = some b → τ b ≠ t) : v.ownBlock = none ∨ v.ownBlock ≠ row := by
  cases e : v.ownBlock with
  | none => exact .inl rfl
  | some g => exact .inr (fun h' => hne g h'.symm (h g e).2)
theorem tg_nil (τ : Nat → Tag) (w : World) (t : Tag) (n c : Nat) : Tg τ w t (.slice none n c) := fun b hb => by cases hb
theorem Some'.grown {w w' : World} {v : Value} {d : List Int} {row : Option Nat} (h : Some' w v d) (g : w.grownBy w' row) (hne : v.ownBlock = none ∨ v.ownBlock ≠ row) : Some' w' v d := by
  refine ⟨?_, h.bytes, h.short⟩
  rcases h.at' with h1 | ⟨b, off, cp, h1, h2, h3⟩
  · exact .inl h1
  · refine .inr ⟨b, off, cp, h1, Nat.lt_of_lt_of_le h2 g.size, fun j hj => ?_⟩
    rw [World.cell?_of_block (a := ⟨b, off + j, none⟩) (g.block b h2 (by subst h1; simpa [Value.ownBlock] using hne))]
    exact h3 j hj
/-- Bytes that nobody writes any more. -/
structure ByM (τ : Nat → Tag) (w : World) (v : Value) (d : List Int) : Prop where
  here : Some' w v d
  tag : Tg τ w tFix v
theorem ByM.upd {τ τ' : Nat → Tag} {w w' : World} {v : Value} {d : List Int} {row : Option Nat} (h : ByM τ w v d) (u : Upd τ τ' w w' row) (hf : ∀ b, row = some b → τ b ≠ tFix) : ByM τ' w' v d := ⟨h.here.grown u.grow (h.tag.off hf), h.tag.upd u⟩
theorem byM_nil (τ : Nat → Tag) (w : World) : ByM τ w (.slice none 0 0) [] := ⟨some_nil w, tg_nil _ _ _ _ _⟩
theorem own_small {w : World} {base : Nat} {e : TypeId} {size : Nat} {v : Value} {n : Nat} {xs : List Value} (h : w.ownsRow base e size v n xs) : n ≤ maxLen := by
  rcases h.2 with ⟨-, rfl⟩ | ⟨g, cap, cur, -, -, -, h1, h2, -⟩
  · exact Nat.zero_le _
  · exact Nat.le_trans h1 h2
theorem byM_own {τ : Nat → Tag} {w w' : World} {v : Value} {d : List Int} {n : Nat} (h : w'.ownsRow w.heap.size 5 1 v n (d.map (Value.int .u8))) (hb : Bytes d) : ByM (ext τ w.heap.size tFix) w' v d := by
  have hl : d.length = n := by simpa using h.1
  refine ⟨⟨bytesAt_own h, hb, by rw [hl]; exact own_small h⟩, fun b hv => ?_⟩
  obtain ⟨h1, h2⟩ := h.lt b hv
  exact ⟨h2, ext_new h1⟩
/-- A shard's entries. -/
def EntM (τ : Nat → Tag) (N : Nat) (w : World) (k : Nat) (v : Value) (es : List (List Int)) : Prop :=
  Tg τ w (tEnt k) v ∧ ∃ xs, w.ownsRow N 25 1 v es.length xs ∧ ∀ j, j < es.length → ∃ y, xs[j]? = some y ∧ ByM τ w y (es.getD j [])
theorem EntM.upd {τ τ' : Nat → Tag} {N : Nat} {w w' : World} {k : Nat} {v : Value} {es : List (List Int)} {row : Option Nat} (h : EntM τ N w k v es) (u : Upd τ τ' w w' row) (hf : ∀ b, row = some b → τ b ≠ tFix) (he : ∀ b, row = some b → τ b ≠ tEnt k) : EntM τ' N w' k v es := by
  obtain ⟨h1, xs, h2, h3⟩ := h
  refine ⟨h1.upd u, xs, h2.kept u.grow (h1.off he), fun j hj => ?_⟩
  obtain ⟨y, h4, h5⟩ := h3 j hj
  exact ⟨y, h4, h5.upd u hf⟩
theorem entM_nil (τ : Nat → Tag) (N : Nat) (w : World) (k : Nat) : EntM τ N w k (.slice none 0 0) [] := ⟨tg_nil _ _ _ _ _, [], World.ownsRow_nil _ _ _ _, fun _ hj => absurd hj (Nat.not_lt_zero _)⟩
theorem EntM.form {τ : Nat → Tag} {N : Nat} {w : World} {k : Nat} {v : Value} {es : List (List Int)} (h : EntM τ N w k v es) : ∃ a c, v = .slice a es.length c := by
  obtain ⟨-, xs, h2, -⟩ := h
  exact own_form' h2
theorem EntM.lists {τ : Nat → Tag} {N : Nat} {w : World} {k : Nat} {a : Option Addr} {n c : Nat} {es : List (List Int)} (h : EntM τ N w k (.slice a n c) es) (hn : es.length = n) : Lists w a n c es := by
  obtain ⟨-, xs, h2, h3⟩ := h
  rw [hn] at h2 h3
  obtain ⟨a', c', e, hc1, hc2⟩ := own_cap h2
  cases e
  refine ⟨hn, ?_, hc1, hc2, own_nil h2, fun j => ?_, fun j => ?_⟩
  · refine parts_of_row h2 hn (fun j hj => ?_)
    obtain ⟨y, h4, h5⟩ := h3 j hj
    obtain ⟨ya, yc, rfl⟩ := h5.here.at'.form
    exact ⟨ya, _, yc, h4, h5.here.at'⟩
  · by_cases hj : j < n
    · obtain ⟨y, -, h5⟩ := h3 j hj; exact h5.here.bytes
    · rw [List.getD_eq_getElem?_getD, List.getElem?_eq_none (by omega)]; exact nil_bytes
  · by_cases hj : j < n
    · obtain ⟨y, -, h5⟩ := h3 j hj; exact h5.here.short
    · rw [List.getD_eq_getElem?_getD, List.getElem?_eq_none (by omega)]; exact Nat.zero_le _
/-- A segment's bytes. -/
def PkM (τ : Nat → Tag) (N : Nat) (w : World) (k j : Nat) (v : Value) (d : List Int) : Prop := Tg τ w (tPk k j) v ∧ w.ownsRow N 5 1 v d.length (d.map (Value.int .u8)) ∧ Bytes d
/-- A shard's segments. -/
def SegM (τ : Nat → Tag) (N : Nat) (w : World) (k : Nat) (v : Value) (l : List Seg) : Prop :=
  Tg τ w (tSeg k) v ∧ ∃ vs, w.ownsRow N 95 3 v l.length vs ∧ ∀ j, j < l.length → ∃ y, vs[j * 3]? = some (.int .i64 (l.getD j seg0).first) ∧ vs[j * 3 + 1]? = some (.int .i64 (l.getD j seg0).count) ∧ vs[j * 3 + 2]? = some y ∧ PkM τ N w k j y (l.getD j seg0).packed
theorem PkM.upd {τ τ' : Nat → Tag} {N : Nat} {w w' : World} {k j : Nat} {v : Value} {d : List Int} {row : Option Nat} (h : PkM τ N w k j v d) (u : Upd τ τ' w w' row) (hp : ∀ b, row = some b → τ b ≠ tPk k j) : PkM τ' N w' k j v d := ⟨h.1.upd u, h.2.1.kept u.grow (h.1.off hp), h.2.2⟩
theorem SegM.upd {τ τ' : Nat → Tag} {N : Nat} {w w' : World} {k : Nat} {v : Value} {l : List Seg} {row : Option Nat} (h : SegM τ N w k v l) (u : Upd τ τ' w w' row) (hs : ∀ b, row = some b → τ b ≠ tSeg k) (hp : ∀ j b, row = some b → τ b ≠ tPk k j) : SegM τ' N w' k v l := by
  obtain ⟨h1, vs, h2, h3⟩ := h
  refine ⟨h1.upd u, vs, h2.kept u.grow (h1.off hs), fun j hj => ?_⟩
  obtain ⟨y, h4, h5, h6, h7⟩ := h3 j hj
  exact ⟨y, h4, h5, h6, h7.upd u (hp j)⟩
theorem segM_nil (τ : Nat → Tag) (N : Nat) (w : World) (k : Nat) : SegM τ N w k (.slice none 0 0) [] := ⟨tg_nil _ _ _ _ _, [], World.ownsRow_nil _ _ _ _, fun _ hj => absurd hj (Nat.not_lt_zero _)⟩
theorem SegM.segs {τ : Nat → Tag} {N : Nat} {w : World} {k : Nat} {v : Value} {l : List Seg} (h : SegM τ N w k v l) : SegsAt w v l := by
  obtain ⟨-, vs, h1, h2⟩ := h
  rcases h1.2 with ⟨hv, hn⟩ | ⟨g, cap, cur, rfl, -, hg, h3, h4, -⟩
  · exact ⟨none, 0, by rw [hv, hn], by omega, Nat.zero_le _, fun _ => rfl, .inl hn⟩
  · refine ⟨_, cap, rfl, h3, h4, (fun e => by cases e), .inr ⟨g, 0, rfl, lt_heap hg, fun j hj => ?_⟩⟩
    obtain ⟨y, g0, g1, g2, -, g3, g4⟩ := h2 j hj
    rw [Nat.zero_add]
    refine ⟨(h1.cellAt (j * 3) (by omega)).trans g0, (h1.cellAt (j * 3 + 1) (by omega)).trans g1, ?_⟩
    obtain ⟨pa, pc, rfl, q1, q2⟩ := own_cap g3
    exact ⟨pa, pc, (h1.cellAt (j * 3 + 2) (by omega)).trans g2, ⟨bytesAt_own g3, g4, by omega⟩, q1, q2⟩
theorem SegM.form {τ : Nat → Tag} {N : Nat} {w : World} {k : Nat} {v : Value} {l : List Seg} (h : SegM τ N w k v l) : ∃ a c, v = .slice a l.length c := by
  obtain ⟨a, c, e, -⟩ := h.segs
  exact ⟨a, c, e⟩
/-- A shard's cells. -/
abbrev ShV := Value × Value × Value
def shdV (s : Shd) (v : ShV) : List Value := [.int .i64 s.from', .int .i64 s.to', .int .i64 s.state, v.1, .int .i64 s.man.size, v.2.1, v.2.2]
/-- The shards. -/
structure ShM (τ : Nat → Tag) (N : Nat) (w : World) (sv : Value) (ss : List Shd) (V : Nat → ShV) : Prop where
  tag : Tg τ w tSh sv
  row : ∃ vs, w.ownsRow N 57 7 sv ss.length vs ∧ ∀ k, k < ss.length → ∀ i, i < 7 → vs[k * 7 + i]? = (shdV (ss.getD k shd0) (V k))[i]?
  ent : ∀ k, k < ss.length → EntM τ N w k (V k).1 (ss.getD k shd0).entries
  root : ∀ k, k < ss.length → ByM τ w (V k).2.1 (ss.getD k shd0).man.root
  seg : ∀ k, k < ss.length → SegM τ N w k (V k).2.2 (ss.getD k shd0).man.segs
theorem ShM.upd {τ τ' : Nat → Tag} {N : Nat} {w w' : World} {sv : Value} {ss : List Shd} {V : Nat → ShV} {row : Option Nat} (h : ShM τ N w sv ss V) (u : Upd τ τ' w w' row) (hr : ∀ b, row = some b → τ b = tNo ∨ τ b = tFl ∨ τ b = tBk ∨ τ b = tAn) : ShM τ' N w' sv ss V := by
  have ne : ∀ t : Tag, t ≠ tNo → t ≠ tFl → t ≠ tBk → t ≠ tAn → ∀ b, row = some b → τ b ≠ t := fun t h1 h2 h3 h4 b hb e => by
    rcases hr b hb with g | g | g | g
    · exact h1 (e.symm.trans g)
    · exact h2 (e.symm.trans g)
    · exact h3 (e.symm.trans g)
    · exact h4 (e.symm.trans g)
  have n1 := ne tFix (by decide) (by decide) (by decide) (by decide)
  have n2 := ne tSh (by decide) (by decide) (by decide) (by decide)
  have n3 := fun k => ne (tEnt k) (by simp [tEnt, tNo]) (by simp [tEnt, tFl]) (by simp [tEnt, tBk]) (by simp [tEnt, tAn])
  have n4 := fun k => ne (tSeg k) (by simp [tSeg, tNo]) (by simp [tSeg, tFl]) (by simp [tSeg, tBk]) (by simp [tSeg, tAn])
  have n5 := fun k j => ne (tPk k j) (by simp [tPk, tNo]) (by simp [tPk, tFl]) (by simp [tPk, tBk]) (by simp [tPk, tAn])
  obtain ⟨vs, h1, h2⟩ := h.row
  exact ⟨h.tag.upd u, ⟨vs, h1.kept u.grow (h.tag.off n2), h2⟩, fun k hk => (h.ent k hk).upd u n1 (n3 k), fun k hk => (h.root k hk).upd u n1, fun k hk => (h.seg k hk).upd u (n4 k) (n5 k)⟩
theorem ShM.shards {τ : Nat → Tag} {N : Nat} {w : World} {sv : Value} {ss : List Shd} {V : Nat → ShV} (h : ShM τ N w sv ss V) : ShdsAt w sv ss := by
  obtain ⟨vs, h1, h2⟩ := h.row
  rcases h1.2 with ⟨hv, hn⟩ | ⟨g, cap, cur, rfl, -, hg, h3, h4, -⟩
  · exact ⟨none, 0, by rw [hv, hn], by omega, Nat.zero_le _, fun _ => rfl, .inl hn⟩
  · refine ⟨_, cap, rfl, h3, h4, (fun e => by cases e), .inr ⟨g, 0, rfl, lt_heap hg, fun k hk => ?_⟩⟩
    have hc : ∀ i, i < 7 → w.cell? ⟨g, 0 + k * 7 + i, none⟩ = (shdV (ss.getD k shd0) (V k))[i]? := fun i hi => by rw [Nat.zero_add]; exact (h1.cellAt (k * 7 + i) (by omega)).trans (h2 k hk i hi)
    have hE := h.ent k hk
    obtain ⟨ea, ec, e1⟩ := hE.form
    obtain ⟨ra, rc, e2⟩ := (h.root k hk).here.at'.form
    obtain ⟨ga, gc, e3⟩ := (h.seg k hk).form
    rw [e1] at hE
    refine ⟨hc 0 (by omega), hc 1 (by omega), hc 2 (by omega), ⟨ea, ec, ?_, hE.lists rfl⟩, hc 4 (by omega), ⟨ra, rc, ?_, by rw [← e2]; exact (h.root k hk).here⟩, ⟨ga, gc, ?_, by rw [← e3]; exact (h.seg k hk).segs⟩⟩
    · rw [hc 3 (by omega), ← e1]; rfl
    · rw [hc 5 (by omega), ← e2]; rfl
    · rw [hc 6 (by omega), ← e3]; rfl
/-- A record's cells. -/
def recCs (r : Rec) (v : Value) : List Value := [.int .i64 r.shard, .int .i64 r.from', .int .i64 r.to', .int .i64 r.size, v]
/-- The book. -/
def BkM (τ : Nat → Tag) (N : Nat) (w : World) (bv : Value) (l : List Rec) : Prop :=
  Tg τ w tBk bv ∧ ∃ ys, w.ownsRow N 88 5 bv l.length ys ∧ ∀ j, j < l.length → ∃ rv, (∀ i, i < 5 → ys[j * 5 + i]? = (recCs (l.getD j rec0) rv)[i]?) ∧ ByM τ w rv (l.getD j rec0).root
theorem BkM.upd {τ τ' : Nat → Tag} {N : Nat} {w w' : World} {bv : Value} {l : List Rec} {row : Option Nat} (h : BkM τ N w bv l) (u : Upd τ τ' w w' row) (hf : ∀ b, row = some b → τ b ≠ tFix) (hb : ∀ b, row = some b → τ b ≠ tBk) : BkM τ' N w' bv l := by
  obtain ⟨h1, ys, h2, h3⟩ := h
  refine ⟨h1.upd u, ys, h2.kept u.grow (h1.off hb), fun j hj => ?_⟩
  obtain ⟨rv, h4, h5⟩ := h3 j hj
  exact ⟨rv, h4, h5.upd u hf⟩
theorem bkM_nil (τ : Nat → Tag) (N : Nat) (w : World) : BkM τ N w (.slice none 0 0) [] := ⟨tg_nil _ _ _ _ _, [], World.ownsRow_nil _ _ _ _, fun _ hj => absurd hj (Nat.not_lt_zero _)⟩
theorem BkM.recs {τ : Nat → Tag} {N : Nat} {w : World} {bv : Value} {l : List Rec} (h : BkM τ N w bv l) : RecsAt w bv l := by
  obtain ⟨-, ys, h1, h2⟩ := h
  rcases h1.2 with ⟨hv, hn⟩ | ⟨g, cap, cur, rfl, -, hg, h3, h4, -⟩
  · exact ⟨none, 0, by rw [hv, hn], by omega, Nat.zero_le _, fun _ => rfl, .inl hn⟩
  · refine ⟨_, cap, rfl, h3, h4, (fun e => by cases e), .inr ⟨g, 0, rfl, lt_heap hg, fun k hk => ?_⟩⟩
    obtain ⟨rv, h5, h6⟩ := h2 k hk
    have hc : ∀ i, i < 5 → w.cell? ⟨g, 0 + k * 5 + i, none⟩ = (recCs (l.getD k rec0) rv)[i]? := fun i hi => by rw [Nat.zero_add]; exact (h1.cellAt (k * 5 + i) (by omega)).trans (h5 i hi)
    obtain ⟨ra, rc, e2⟩ := h6.here.at'.form
    subst e2
    exact ⟨hc 0 (by omega), hc 1 (by omega), hc 2 (by omega), hc 3 (by omega), ra, rc, hc 4 (by omega), h6.here⟩
/-- The answers. -/
def ansV (x : Ans) (v : Value) : List Value := [.int .i64 x.err, .int .i64 x.shard, .int .i64 x.place, .int .i64 x.size, v]
def AnM (τ : Nat → Tag) (N : Nat) (w : World) (av : Value) (l : List Ans) : Prop :=
  Tg τ w tAn av ∧ ∃ ys, w.ownsRow N 44 5 av l.length ys ∧ ∀ j, j < l.length → ∃ rv, (∀ i, i < 5 → ys[j * 5 + i]? = (ansV (l.getD j ans0) rv)[i]?) ∧ ByM τ w rv (l.getD j ans0).root
theorem AnM.upd {τ τ' : Nat → Tag} {N : Nat} {w w' : World} {bv : Value} {l : List Ans} {row : Option Nat} (h : AnM τ N w bv l) (u : Upd τ τ' w w' row) (hf : ∀ b, row = some b → τ b ≠ tFix) (hb : ∀ b, row = some b → τ b ≠ tAn) : AnM τ' N w' bv l := by
  obtain ⟨h1, ys, h2, h3⟩ := h
  refine ⟨h1.upd u, ys, h2.kept u.grow (h1.off hb), fun j hj => ?_⟩
  obtain ⟨rv, h4, h5⟩ := h3 j hj
  exact ⟨rv, h4, h5.upd u hf⟩
theorem AnM.anss {τ : Nat → Tag} {N : Nat} {w : World} {bv : Value} {l : List Ans} (h : AnM τ N w bv l) : AnssAt w bv l := by
  obtain ⟨-, ys, h1, h2⟩ := h
  rcases h1.2 with ⟨hv, hn⟩ | ⟨g, cap, cur, rfl, -, hg, h3, h4, -⟩
  · exact ⟨none, 0, by rw [hv, hn], by omega, Nat.zero_le _, fun _ => rfl, .inl hn⟩
  · refine ⟨_, cap, rfl, h3, h4, (fun e => by cases e), .inr ⟨g, 0, rfl, lt_heap hg, fun k hk => ?_⟩⟩
    obtain ⟨rv, h5, h6⟩ := h2 k hk
    have hc : ∀ i, i < 5 → w.cell? ⟨g, 0 + k * 5 + i, none⟩ = (ansV (l.getD k ans0) rv)[i]? := fun i hi => by rw [Nat.zero_add]; exact (h1.cellAt (k * 5 + i) (by omega)).trans (h5 i hi)
    obtain ⟨ra, rc, e2⟩ := h6.here.at'.form
    subst e2
    exact ⟨hc 0 (by omega), hc 1 (by omega), hc 2 (by omega), hc 3 (by omega), ra, rc, hc 4 (by omega), h6.here⟩
/-- An answer by itself. -/
def AnV (τ : Nat → Tag) (w : World) (v : Value) (x : Ans) : Prop := ∃ rv, v = .agg #[.int .i64 x.err, .int .i64 x.shard, .int .i64 x.place, .int .i64 x.size, rv] ∧ ByM τ w rv x.root
/-- The fleet. -/
structure GoF (τ : Nat → Tag) (N : Nat) (w : World) (gp : Nat) (f : Flt) : Prop where
  low : N ≤ gp
  tag : τ gp = tFl
  parts : ∃ sv bv V, w.heap[gp]? = some (.cells #[sv, bv] 63 (0, 0)) ∧ ShM τ N w sv f.shards V ∧ BkM τ N w bv f.book
theorem GoF.upd {τ τ' : Nat → Tag} {N : Nat} {w w' : World} {gp : Nat} {f : Flt} {row : Option Nat} (h : GoF τ N w gp f) (u : Upd τ τ' w w' row) (hr : ∀ b, row = some b → τ b = tNo ∨ τ b = tAn) : GoF τ' N w' gp f := by
  obtain ⟨h0, h1, sv, bv, V, h2, h3, h4⟩ := h
  have ne : ∀ t : Tag, t ≠ tNo → t ≠ tAn → ∀ b, row = some b → τ b ≠ t := fun t h1 h4 b hb e => by
    rcases hr b hb with g | g
    · exact h1 (e.symm.trans g)
    · exact h4 (e.symm.trans g)
  have hg : w'.heap[gp]? = w.heap[gp]? := u.grow.block gp (lt_heap h2) (fun e => ne tFl (by decide) (by decide) gp e.symm h1)
  exact ⟨h0, (u.same gp (lt_heap h2)).trans h1, sv, bv, V, hg.trans h2, h3.upd u (fun b hb => (hr b hb).elim .inl (fun h => .inr (.inr (.inr h)))), h4.upd u (ne tFix (by decide) (by decide)) (ne tBk (by decide) (by decide))⟩
/-- What a call leaves as it was. -/
structure Keep (τ τ' : Nat → Tag) (N : Nat) (w w' : World) : Prop where
  low : Below N w w'
  size : w.heap.size ≤ w'.heap.size
  same : ∀ b, b < w.heap.size → τ' b = τ b
  block : ∀ b, b < w.heap.size → (τ b = tFix ∨ τ b = tNo ∨ τ b = tAn) → w'.heap[b]? = w.heap[b]?
theorem keep_upd {τ τ' : Nat → Tag} {N : Nat} {w w' : World} {row : Option Nat} (u : Upd τ τ' w w' row) (hN : N ≤ w.heap.size) (hr : ∀ b, row = some b → N ≤ b ∧ τ b ≠ tFix ∧ τ b ≠ tNo ∧ τ b ≠ tAn) : Keep τ τ' N w w' :=
  ⟨(Below.refl _ _).grown u.grow hN (fun b hb => (hr b hb).1), u.grow.size, u.same, fun b hb ht => u.grow.block b hb (fun e => by
    obtain ⟨-, n1, n2, n3⟩ := hr b e.symm
    rcases ht with h | h | h
    · exact n1 h
    · exact n2 h
    · exact n3 h)⟩
theorem Keep.trans {τ τ1 τ2 : Nat → Tag} {N : Nat} {a b c : World} (h : Keep τ τ1 N a b) (g : Keep τ1 τ2 N b c) : Keep τ τ2 N a c :=
  ⟨h.low.trans g.low, Nat.le_trans h.size g.size, fun k hk => (g.same k (Nat.lt_of_lt_of_le hk h.size)).trans (h.same k hk), fun k hk ht => (g.block k (Nat.lt_of_lt_of_le hk h.size) (by rw [h.same k hk]; exact ht)).trans (h.block k hk ht)⟩
theorem keep_call {τ : Nat → Tag} {N : Nat} {w w' : World} (h : Below w.heap.size w w') (hN : N ≤ w.heap.size) (t : Tag) : Keep τ (ext τ w.heap.size t) N w w' := keep_upd (upd_call h t) hN (fun _ hb => by cases hb)
/-- A new block of the call's own is written. -/
theorem keep_set {τ τ' : Nat → Tag} {N : Nat} {w0 w : World} (h : Keep τ τ' N w0 w) (hN : N ≤ w0.heap.size) {k : Nat} (hk : w0.heap.size ≤ k) (o : Nat) (u : Value) : Keep τ τ' N w0 (w.setCell ⟨k, o, none⟩ u) :=
  ⟨h.low.setCell (Nat.le_trans hN hk) _, by simpa using h.size, h.same, fun b hb ht => by
    rw [heap_setCell_other w ⟨k, o, none⟩ b u (fun e => by have e : b = k := e; omega)]
    exact h.block b hb ht⟩
theorem Keep.byM {τ τ' : Nat → Tag} {N : Nat} {w w' : World} {v : Value} {d : List Int} (h : Keep τ τ' N w w') (hb : ByM τ w v d) : ByM τ' w' v d := by
  refine ⟨⟨?_, hb.here.bytes, hb.here.short⟩, fun b hv => ?_⟩
  · rcases hb.here.at' with h1 | ⟨b, off, cp, h1, h2, h3⟩
    · exact .inl h1
    · refine .inr ⟨b, off, cp, h1, Nat.lt_of_lt_of_le h2 h.size, fun j hj => ?_⟩
      rw [World.cell?_of_block (a := ⟨b, off + j, none⟩) (h.block b h2 (.inl (hb.tag b (by subst h1; rfl)).2))]
      exact h3 j hj
  · obtain ⟨h1, h2⟩ := hb.tag b hv
    exact ⟨Nat.lt_of_lt_of_le h1 h.size, (h.same b h1).trans h2⟩
theorem Keep.anM {τ τ' : Nat → Tag} {N : Nat} {w w' : World} {v : Value} {l : List Ans} (h : Keep τ τ' N w w') (hb : AnM τ N w v l) : AnM τ' N w' v l := by
  obtain ⟨h1, ys, h2, h3⟩ := hb
  refine ⟨fun b hv => ?_, ys, ?_, fun j hj => ?_⟩
  · obtain ⟨g1, g2⟩ := h1 b hv
    exact ⟨Nat.lt_of_lt_of_le g1 h.size, (h.same b g1).trans g2⟩
  · refine ⟨h2.1, ?_⟩
    rcases h2.2 with hn | ⟨g, cap, cur, rfl, hb, hgg, rest⟩
    · exact .inl hn
    · exact .inr ⟨g, cap, cur, rfl, hb, (h.block g (lt_heap hgg) (.inr (.inr (h1 g rfl).2))).trans hgg, rest⟩
  · obtain ⟨rv, h4, h5⟩ := h3 j hj
    exact ⟨rv, h4, h.byM h5⟩
theorem Keep.box {τ τ' : Nat → Tag} {N : Nat} {w w' : World} {k : Nat} {x : Obj} (h : Keep τ τ' N w w') (ht : τ k = tNo) (hk : w.heap[k]? = some x) : w'.heap[k]? = some x := (h.block k (lt_heap hk) (.inr (.inl ht))).trans hk

end Go.Proofs.YtkjlchfmplcobahDoor
