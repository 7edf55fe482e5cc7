/- FleetPastWalk, TopAlive, ShelfSegs, TopStepsWalk, TopFullM, as one text. -/
import Derived.Test.YtkjlchfmplcobahDoorProg
import Derived.Test.YtkjlchfmplcobahDoorRunAE
import Derived.Test.YtkjlchfmplcobahDoorRunAF
import Derived.WalkKit
import Derived.WalkSpells
import Derived.WalkLawsBesides
import Derived.Deep.RegionHeld3
import Derived.BigRegion
import Derived.Deep.AppendLies
import Derived.Laws.AppendOwnNone
/- The walk of the law FleetPast, over the faces of package fleet. -/
namespace Go.Proofs.YtkjlchfmplcobahDoor
open Go.RowKit

theorem play_ok {ws : List Win} {l : List Dd} (h : (playF ws l).1 = 0) : playL ws l = runL (startL ws) l ∧ (wrongWins ws).1 = 0 ∧ l.length ≤ 120 := by
  refine ⟨by unfold playL; rw [if_neg (fun g => g h)], ?_, ?_⟩
  · unfold playF at h
    by_cases hw : (wrongWins ws).1 ≠ 0
    · rw [if_pos hw] at h; exact absurd h hw
    · simpa using hw
  · unfold playF at h
    by_cases hw : (wrongWins ws).1 ≠ 0
    · rw [if_pos hw] at h; exact absurd h hw
    · rw [if_neg hw] at h
      by_cases hl : 120 < l.length
      · rw [if_pos hl] at h; exact absurd h (by decide)
      · omega
theorem play_right {ws : List Win} {l : List Dd} (hw : (wrongWins ws).1 = 0) (hl : l.length ≤ 120) : playF ws l = (0, 0) := by
  unfold playF; rw [if_neg (fun g => g hw), if_neg (by omega)]
end Go.Proofs.YtkjlchfmplcobahDoor

/- The walk of yeartop.alive, over package fleet's faces. -/
namespace Go.Proofs.YtkjlchfmplcobahDoor
open Go.RowKit

theorem winsL_get {n k : Nat} (h : k < n) : (winsL n).getD k win0 = ⟨10 * (k : Int), 10 * (k : Int) + 10⟩ := by
  unfold winsL; rw [List.getD_eq_getElem?_getD, List.getElem?_map, List.getElem?_range h]; rfl
theorem winsL_right {n : Nat} (h : n ≤ 8) : wrongWins (winsL n) = (0, 0) := wrongWins_none (by rw [winsL_length]; omega) (fun j hj => by
  rw [winsL_length] at hj
  unfold wrongWin
  rw [winsL_get hj, if_neg (by dsimp only; omega)]
  by_cases h0 : 0 < j
  · rw [winsL_get (show j - 1 < n by omega), if_neg (by dsimp only; omega)]
  · rw [if_neg (fun g => h0 g.1)])
def topD : List Dd := yearL 0 [[1], [2]] 3 ++ yearL 1 [[3]] 1
theorem topD_right : playF (winsL 2) topD = (0, 0) := play_right (by rw [winsL_right (by omega)]) (by decide)
theorem unlike12 : Unlike [[1], [2]] := ⟨by decide, by decide, by decide⟩
theorem unlike3 : Unlike [[3]] := ⟨by decide, by decide, by decide⟩
theorem topD_run : (playL (winsL 2) topD).2.length = 7 ∧ (playL (winsL 2) topD).1.book.length = 2 ∧ (playL (winsL 2) topD).1.shards.length = 2 ∧ ((playL (winsL 2) topD).1.shards.getD 0 shd0).state = 4 ∧ ((playL (winsL 2) topD).2.getD 6 ans0).size = 1 := by
  have hp := (play_ok (ws := winsL 2) (l := topD) (by rw [topD_right])).1
  have y1 := run_year (f := startL (winsL 2)) (k := 0) unlike12 (by rfl) rfl rfl (far := 3) (by omega) (by omega)
  obtain ⟨F1, hF1⟩ : ∃ F1, F1 = (runL (startL (winsL 2)) (yearL 0 [[1], [2]] 3)).1 := ⟨_, rfl⟩
  have hF1' := hF1
  rw [y1] at hF1'
  have y2 := run_year (f := F1) (k := 1) unlike3 (by rw [hF1']; rfl) (by rw [hF1']; rfl) (by rw [hF1']; rfl) (far := 1) (by omega) (by omega)
  rw [hp]
  unfold topD
  rw [runL_append, ← hF1, y1, y2, hF1']
  exact ⟨rfl, rfl, rfl, rfl, rfl⟩

set_option maxRecDepth 100000 in
set_option maxHeartbeats 2000000 in
theorem topAlive_any (hPl : PlayC) (w : World) (hR : Ready w) :
    Calls Tryd.prog 6 #[] w fun e w' => e = .returned (.bool true) ∧ Below w.heap.size w w' := by
  go_enter Tryd.func6, Tryd.ntmps6
  go_wp2_with fail
  refine (windows_any 2 (by omega) w).mono ?_
  rintro e w1 ⟨wa, wc, rfl, hW1, b1⟩
  have dL : Below w1.heap.size w1 (((w1.alloc (.cells #[.int .u8 1] 5)).alloc (.cells #[.int .u8 2] 5)).alloc (.cells #[.slice (some ⟨w1.heap.size, 0, none⟩) 1 1, .slice (some ⟨w1.heap.size + 1, 0, none⟩) 1 1] 25)) := (((Below.refl _ _).alloc (Nat.le_refl _) _).alloc (by simp) _).alloc (by simp; omega) _
  have p1 := box_old _ (.cells #[.slice (some ⟨w1.heap.size, 0, none⟩) 1 1, .slice (some ⟨w1.heap.size + 1, 0, none⟩) 1 1] 25) (box_one w1 #[.int .u8 1] 5 (.cells #[.int .u8 2] 5))
  have p2 := box_old _ (.cells #[.slice (some ⟨w1.heap.size, 0, none⟩) 1 1, .slice (some ⟨w1.heap.size + 1, 0, none⟩) 1 1] 25) (box_last w1 (.cells #[.int .u8 1] 5) #[.int .u8 2] 5)
  have p3 := box_new ((w1.alloc (.cells #[.int .u8 1] 5)).alloc (.cells #[.int .u8 2] 5)) #[.slice (some ⟨w1.heap.size, 0, none⟩) 1 1, .slice (some ⟨w1.heap.size + 1, 0, none⟩) 1 1] 25
  have hz : ((w1.alloc (.cells #[.int .u8 1] 5)).alloc (.cells #[.int .u8 2] 5)).heap.size = w1.heap.size + 2 := by simp
  rw [hz] at p3
  have hLs := lit_lists2 (by omega) (by omega) p1 p2 p3
  have b2 := b1.trans (dL.mono b1.size)
  have hW2 := hW1.below dL
  have hY := year_any [] 0 3 [[1], [2]] none _ 0 0 2 2 _ [] _ rfl (World.ownsRow_nil _ _ _ _) (doB_nil _ _) (Nat.le_refl _) (stay_low hLs (Below.refl _ _)) (by omega) (by omega) (by omega)
  clear hW1 dL p1 p2 p3 hz hLs b1
  go_wp2_with fail
  generalize ((w1.alloc (.cells #[.int .u8 1] 5)).alloc (.cells #[.int .u8 2] 5)).alloc (.cells #[.slice (some ⟨w1.heap.size, 0, none⟩) 1 1, .slice (some ⟨w1.heap.size + 1, 0, none⟩) 1 1] 25) = w2 at *
  refine hY.mono ?_
  rintro e w3 ⟨v3, rfl, va, vc, vs, rfl, hrow, hD, hwh, hkp, hb3, hs3⟩
  have hl1 : ([] ++ (subsL (10 * ((0 : Nat) : Int) + 5) [[1], [2]] ++ (stepsT 0).take 3) : List Dd).length = 5 := rfl
  rw [hl1] at hrow hwh
  clear hY
  have e1 : ([] ++ (subsL (10 * ((0 : Nat) : Int) + 5) [[1], [2]] ++ (stepsT 0).take 3) : List Dd) = yearL 0 [[1], [2]] 3 := rfl
  rw [e1] at hD
  have b3 := b2.trans (hb3.mono b2.size)
  have dM : Below w3.heap.size w3 ((w3.alloc (.cells #[.int .u8 3] 5)).alloc (.cells #[.slice (some ⟨w3.heap.size, 0, none⟩) 1 1] 25)) := ((Below.refl _ _).alloc (Nat.le_refl _) _).alloc (by simp) _
  have q1 := box_one w3 #[.int .u8 3] 5 (.cells #[.slice (some ⟨w3.heap.size, 0, none⟩) 1 1] 25)
  have q2 := box_last w3 (.cells #[.int .u8 3] 5) #[.slice (some ⟨w3.heap.size, 0, none⟩) 1 1] 25
  have hrowM := own7_below hrow dM (Nat.le_refl _)
  have hDM := hD.below dM
  have hlt : ∀ g, (Value.slice va 5 vc).ownBlock = some g → g < w3.heap.size := fun g hg => (hrow.lt g hg).2
  have hSt : Stay w2.heap.size (.slice va 5 vc) ((w3.alloc (.cells #[.int .u8 3] 5)).alloc (.cells #[.slice (some ⟨w3.heap.size, 0, none⟩) 1 1] 25)) (some ⟨w3.heap.size + 1, 0, none⟩) 1 1 [[3]] := stay_lit (by omega) q1 q2 (fun h => by have := hlt _ h; omega) (fun h => by have := hlt _ h; omega)
  have hY := year_any (yearL 0 [[1], [2]] 3) 1 1 [[3]] va _ 5 vc 1 1 w2.heap.size vs _ rfl hrowM hDM (Nat.le_trans hs3 dM.size) hSt (by omega) (by omega) (by omega)
  have c4 : Below w2.heap.size w2 ((w3.alloc (.cells #[.int .u8 3] 5)).alloc (.cells #[.slice (some ⟨w3.heap.size, 0, none⟩) 1 1] 25)) := hb3.trans (dM.mono hs3)
  have hs4 : w2.heap.size ≤ _ := Nat.le_trans hs3 dM.size
  clear hrow hD hwh hkp dM q1 q2 hrowM hDM hlt hSt hl1 e1
  go_wp2_with fail
  generalize (w3.alloc (.cells #[.int .u8 3] 5)).alloc (.cells #[.slice (some ⟨w3.heap.size, 0, none⟩) 1 1] 25) = w4 at *
  refine hY.mono ?_
  rintro e w5 ⟨v5, rfl, va5, vc5, vs5, rfl, hrow5, hD5, -, -, hb5, hs5⟩
  have hDos := hD5.dos hrow5
  have hl5 : (yearL 0 [[1], [2]] 3 ++ (subsL (10 * ((1 : Nat) : Int) + 5) [[3]] ++ (stepsT 1).take 1)).length = 7 := rfl
  have e5 : yearL 0 [[1], [2]] 3 ++ (subsL (10 * ((1 : Nat) : Int) + 5) [[3]] ++ (stepsT 1).take 1) = topD := rfl
  rw [hl5, e5] at hDos
  rw [hl5]
  have c5 := c4.trans hb5
  have b5 := b2.trans (c5.mono b2.size)
  have cP := hPl (winsL 2) topD _ _ w5 (hR.below b5) (hW2.below c5) hDos
  obtain ⟨f1, f2, f3, f4, f5⟩ := topD_run
  rw [topD_right] at cP
  dsimp only [faultV] at cP
  clear hY hrow5 hD5 hDos hl5 e5 hb5 hs5 c4 hW2 hb3 hs3 hs4 hPl b3
  generalize playL (winsL 2) topD = PP at *
  obtain ⟨F, A⟩ := PP
  dsimp only at f1 f2 f3 f4 f5 cP
  go_wp2_with fail
  refine cP.mono ?_
  rintro e w6 ⟨fv, av, rfl, hF, hA, hb6⟩
  have b6 := b5.trans (hb6.mono b5.size)
  obtain ⟨sa, sc, ka, kc, rfl, hSh, hBk⟩ := hF
  obtain ⟨aa, ac, rfl, ha1, ha2, ha3, hAc⟩ := hA
  obtain ⟨ab, ao, rfl, hab, hcs⟩ := hAc.resolve_left (by omega)
  obtain ⟨-, -, -, a3, -⟩ := hcs 6 (by omega)
  obtain ⟨sa', sc', es, -, -, -, hSc⟩ := hSh
  cases es
  obtain ⟨sb, so, rfl, hsb, hsc⟩ := hSc.resolve_left (by omega)
  obtain ⟨-, -, s2, -, -, -, -⟩ := hsc 0 (by omega)
  rw [f5] at a3
  rw [f4] at s2
  rw [Nat.zero_mul, Nat.add_zero] at s2
  rw [f1, f2, f3]
  have d7 : Below w6.heap.size w6 ((w6.alloc (.cells #[.slice (some ⟨sb, so, none⟩) 2 sc, .slice ka 2 kc] 32)).alloc (.cells #[.int .i64 0, .int .i64 0] 36)) := ((Below.refl _ _).alloc (Nat.le_refl _) _).alloc (by simp) _
  obtain ⟨x0, x1, -, -⟩ := box_two (box_one w6 #[.slice (some ⟨sb, so, none⟩) 2 sc, .slice ka 2 kc] 32 (.cells #[.int .i64 0, .int .i64 0] 36))
  obtain ⟨y0, y1, -, -⟩ := box_two (box_last w6 (.cells #[.slice (some ⟨sb, so, none⟩) 2 sc, .slice ka 2 kc] 32) #[.int .i64 0, .int .i64 0] 36)
  have a7 := (d7.cell (p := ⟨ab, ao + 6 * 5 + 3, none⟩) hab).trans a3
  have s7 := (d7.cell (p := ⟨sb, so + 2, none⟩) hsb).trans s2
  have b7 := b6.trans (d7.mono b6.size)
  clear cP hAc hcs hSc hsc hBk a3 s2 d7 f1 f2 f3 f4 f5
  go_wp2_with fail
  go_ret
  exact ⟨rfl, b7⟩

end Go.Proofs.YtkjlchfmplcobahDoor

/- Segments as rows of a call's own; parts of lists. -/
namespace Go.Proofs.YtkjlchfmplcobahDoor
open Go.RowKit

theorem Tryd.info95b : (Tryd.prog.info? 95).map (fun i => (i.zero, i.size, i.bytes)) = some (some (.agg #[.int .i64 0, .int .i64 0, .slice none 0 0]), 3, 40) := by kernel_rfl
theorem Lists.part {w : World} {b off n c i m : Nat} {L : List (List Int)} (h : Lists w (some ⟨b, off, none⟩) n c L) (hi : i + m ≤ n) (hm : 1 ≤ m) : Lists w (some ⟨b, off + i, none⟩) m (c - i) ((L.drop i).take m) := by
  have hl := h.len
  have hr := h.room
  have hc := h.cap
  have hd := h.at'.drop (k := i) hl (by omega) (by omega) (c - i)
  refine ⟨by rw [List.length_take, List.length_drop]; omega, hd.take (by rw [List.length_drop]; omega) (by omega) (by omega) _, by omega, by omega, fun e => (by cases e), ?_, ?_⟩
  · refine take_bytes (fun j => ?_) m
    rw [List.getD_eq_getElem?_getD, List.getElem?_drop, ← List.getD_eq_getElem?_getD]; exact h.bytes _
  · refine take_short (fun j => ?_) m
    rw [List.getD_eq_getElem?_getD, List.getElem?_drop, ← List.getD_eq_getElem?_getD]; exact h.short _
theorem own3_below {w w' : World} {base : Nat} {e : TypeId} {v : Value} {n N : Nat} {xs : List Value} (h : w.ownsRow base e 3 v n xs) (hb : Below N w w') (hN : w.heap.size ≤ N) : w'.ownsRow base e 3 v n xs :=
  h.kept (w' := w') (row := none) ⟨hb.os, hb.tape, hb.output, hb.size, fun k hk _ => hb.block k (Nat.lt_of_lt_of_le hk hN)⟩ (by cases v.ownBlock <;> simp)
theorem own_ne3 {w : World} {base b2 : Nat} {e1 e2 : TypeId} {v1 v2 : Value} {n1 n2 : Nat} {xs1 xs2 : List Value} (h1 : w.ownsRow base e1 1 v1 n1 xs1) (h2 : w.ownsRow b2 e2 3 v2 n2 xs2) (hne : e1 ≠ e2) : Sep v1 v2 := fun g hg1 hg2 => by
  rcases h1.2 with ⟨rfl, -⟩ | ⟨g1, c1, cur1, rfl, -, hh1, -⟩
  · cases hg1
  rcases h2.2 with ⟨rfl, -⟩ | ⟨g2, c2, cur2, rfl, -, hh2, -⟩
  · cases hg2
  cases hg1
  cases hg2
  rw [hh1] at hh2
  cases hh2
  exact hne rfl
/-- The values of segments, each with bytes of the call's own. -/
def SegEls (w : World) (base : Nat) (vs : List Value) (l : List Seg) : Prop :=
  vs.length = l.length * 3 ∧ ∀ j, j < l.length → vs[j * 3]? = some (.int .i64 (l.getD j seg0).first) ∧ vs[j * 3 + 1]? = some (.int .i64 (l.getD j seg0).count) ∧
    ∃ y, vs[j * 3 + 2]? = some y ∧ w.ownsRow base 5 1 y (l.getD j seg0).packed.length ((l.getD j seg0).packed.map (Value.int .u8))
theorem SegEls.kept {w w' : World} {base b2 : Nat} {vs : List Value} {l : List Seg} {v : Value} {n : Nat} {xs : List Value} (h : SegEls w base vs l) (hr : w.ownsRow b2 95 3 v n xs) (hg : w.grownBy w' v.ownBlock) : SegEls w' base vs l :=
  ⟨h.1, fun j hj => by
    obtain ⟨h0, h1, y, h2, h3⟩ := h.2 j hj
    exact ⟨h0, h1, y, h2, h3.kept hg (own_ne3 h3 hr (by decide)).or⟩⟩
theorem SegEls.alloc {w : World} {base : Nat} {vs : List Value} {l : List Seg} (h : SegEls w base vs l) (o : Obj) : SegEls (w.alloc o) base vs l :=
  ⟨h.1, fun j hj => by
    obtain ⟨h0, h1, y, h2, h3⟩ := h.2 j hj
    exact ⟨h0, h1, y, h2, h3.alloc o⟩⟩
theorem SegEls.below {w w' : World} {base N : Nat} {vs : List Value} {l : List Seg} (h : SegEls w base vs l) (hb : Below N w w') (hN : w.heap.size ≤ N) : SegEls w' base vs l :=
  ⟨h.1, fun j hj => by
    obtain ⟨h0, h1, y, h2, h3⟩ := h.2 j hj
    exact ⟨h0, h1, y, h2, own_below h3 hb hN⟩⟩
theorem SegEls.snoc {w : World} {base : Nat} {vs : List Value} {l : List Seg} {s : Seg} {y : Value} (h : SegEls w base vs l) (hy : w.ownsRow base 5 1 y s.packed.length (s.packed.map (Value.int .u8))) : SegEls w base (vs ++ [.int .i64 s.first, .int .i64 s.count, y]) (l ++ [s]) := by
  obtain ⟨hl, h⟩ := h
  refine ⟨by simp; omega, fun j hj => ?_⟩
  by_cases e : j < l.length
  · obtain ⟨h0, h1, z, h2, h3⟩ := h j e
    have eg : (l ++ [s]).getD j seg0 = l.getD j seg0 := by rw [List.getD_eq_getElem?_getD, List.getElem?_append_left e, ← List.getD_eq_getElem?_getD]
    rw [eg, List.getElem?_append_left (by omega), List.getElem?_append_left (by omega), List.getElem?_append_left (by omega)]
    exact ⟨h0, h1, z, h2, h3⟩
  · obtain rfl : j = l.length := by simp at hj; omega
    have eg : (l ++ [s]).getD l.length seg0 = s := by rw [List.getD_eq_getElem?_getD, List.getElem?_append_right (Nat.le_refl _), Nat.sub_self]; rfl
    rw [eg, List.getElem?_append_right (by omega), List.getElem?_append_right (by omega), List.getElem?_append_right (by omega), hl, Nat.sub_self, show l.length * 3 + 1 - l.length * 3 = 1 by omega, show l.length * 3 + 2 - l.length * 3 = 2 by omega]
    exact ⟨rfl, rfl, y, rfl, hy⟩
theorem segEls_nil (w : World) (base : Nat) : SegEls w base [] [] := ⟨rfl, fun _ hj => absurd hj (Nat.not_lt_zero _)⟩
/-- Segments, all of them the call's own. -/
def OwnSegs (w : World) (base : Nat) (v : Value) (l : List Seg) : Prop := ∃ vs, w.ownsRow base 95 3 v l.length vs ∧ SegEls w base vs l
theorem OwnSegs.below {w w' : World} {base N : Nat} {v : Value} {l : List Seg} (h : OwnSegs w base v l) (hb : Below N w w') (hN : w.heap.size ≤ N) : OwnSegs w' base v l := by
  obtain ⟨vs, h1, h2⟩ := h
  exact ⟨vs, own3_below h1 hb hN, h2.below hb hN⟩
theorem OwnSegs.set {w : World} {base k o : Nat} {v : Value} {l : List Seg} (h : OwnSegs w base v l) (hk : k < base) (u : Value) : OwnSegs (w.setCell ⟨k, o, none⟩ u) base v l := by
  obtain ⟨vs, h1, h2, h3⟩ := h
  refine ⟨vs, ownsRow_setCell_below h1 (a := ⟨k, o, none⟩) hk u, h2, fun j hj => ?_⟩
  obtain ⟨g0, g1, y, g2, g3⟩ := h3 j hj
  exact ⟨g0, g1, y, g2, ownsRow_setCell_below g3 (a := ⟨k, o, none⟩) hk u⟩
theorem OwnSegs.segs {w : World} {base : Nat} {v : Value} {l : List Seg} (h : OwnSegs w base v l) (hby : SegsBytes l) : SegsAt w v l := by
  obtain ⟨vs, h1, -, h2⟩ := h
  rcases h1.2 with ⟨hv, hn⟩ | ⟨g, cap, cur, rfl, -, hg, h3, h4, -⟩
  · exact ⟨none, 0, by rw [hv, hn], by omega, Nat.zero_le _, fun _ => rfl, .inl hn⟩
  · refine ⟨_, cap, rfl, h3, h4, (fun e => by cases e), .inr ⟨g, 0, rfl, lt_heap hg, fun j hj => ?_⟩⟩
    obtain ⟨g0, g1, y, g2, g3⟩ := h2 j hj
    rw [Nat.zero_add]
    refine ⟨(h1.cellAt (j * 3) (by omega)).trans g0, (h1.cellAt (j * 3 + 1) (by omega)).trans g1, ?_⟩
    obtain ⟨pa, pc, rfl, q1, q2⟩ := own_cap g3
    exact ⟨pa, pc, (h1.cellAt (j * 3 + 2) (by omega)).trans g2, ⟨bytesAt_own g3, hby j, by omega⟩, q1, q2⟩
/-- Each segment's bytes lie in a later block than those of the one ahead. -/
def RiseV (vs : List Value) (m : Nat) : Prop := ∀ i j, i < j → j < m → ∀ y z g h, vs[i * 3 + 2]? = some y → vs[j * 3 + 2]? = some z → y.ownBlock = some g → z.ownBlock = some h → g < h
theorem riseV_nil : RiseV [] 0 := fun _ _ _ h => absurd h (Nat.not_lt_zero _)
theorem RiseV.snoc {w : World} {base m : Nat} {vs : List Value} {l : List Seg} {a b y : Value} (h : RiseV vs m) (he : SegEls w base vs l) (hm : l.length = m) (hy : ∀ g, y.ownBlock = some g → w.heap.size ≤ g) : RiseV (vs ++ [a, b, y]) (m + 1) := fun i j hij hj u z g q hu hz hg hq => by
  have hl : vs.length = m * 3 := by rw [← hm]; exact he.1
  rw [List.getElem?_append_left (by omega)] at hu
  by_cases e : j < m
  · rw [List.getElem?_append_left (by omega)] at hz
    exact h i j hij e u z g q hu hz hg hq
  · obtain rfl : j = m := by omega
    rw [List.getElem?_append_right (by omega), hl, show j * 3 + 2 - j * 3 = 2 by omega] at hz
    cases hz
    obtain ⟨-, -, x, h1, h2⟩ := he.2 i (by omega)
    rw [hu] at h1
    cases h1
    have := (h2.lt g hg).2
    have := hy q hq
    omega
theorem lit_seg (w : World) (x y : Int) (pv : Value) (t : TypeId) : ∀ (j : Nat) (u : Value), [Value.int .i64 x, .int .i64 y, pv][j]? = some u → (w.alloc (.cells #[.int .i64 x, .int .i64 y, pv] t)).cell? ((⟨w.heap.size, 0, none⟩ : Addr).add j) = some u := fun j u hj => by
  have hadd : (⟨w.heap.size, 0, none⟩ : Addr).add j = ⟨w.heap.size, 0 + j, none⟩ := Addr.add_mid _ _ _
  rw [hadd, Nat.zero_add]
  match j, hj with
  | 0, hj => rw [new_cell w t _ 0 (by simp)]; simpa using hj
  | 1, hj => rw [new_cell w t _ 1 (by simp)]; simpa using hj
  | 2, hj => rw [new_cell w t _ 2 (by simp)]; simpa using hj
  | j + 3, hj => simp at hj
theorem segK_bytes {L : List (List Int)} (hb : ∀ j, Bytes (L.getD j [])) (h : ∀ e ∈ L, e.length ≤ 200) (k : Nat) : Bytes (segK L k).packed := by
  refine pack_bytes ?_ (lay_part h k)
  refine bytes_of_mem (fun x hx => ?_)
  unfold layL at hx
  obtain ⟨e, he, hx⟩ := List.mem_flatMap.1 hx
  have h200 := short_part h k e he
  rcases List.mem_cons.1 hx with rfl | hx
  · omega
  · obtain ⟨j, hj, rfl⟩ := List.mem_iff_getElem.1 (List.mem_of_mem_drop (List.mem_of_mem_take he))
    have := hb j
    rw [List.getD_eq_getElem?_getD, List.getElem?_eq_getElem hj] at this
    exact bytes_forall this x hx
theorem segsL_bytes {L : List (List Int)} (hb : ∀ j, Bytes (L.getD j [])) (h : ∀ e ∈ L, e.length ≤ 200) : SegsBytes (segsL L) := fun j => by
  by_cases hj : j < (L.length + 7) / 8
  · unfold segsL; rw [segsN_get _ _ _ hj]; exact segK_bytes hb h j
  · rw [List.getD_eq_getElem?_getD, List.getElem?_eq_none (by unfold segsL; rw [segsN_length]; omega)]; exact nil_bytes
/-- The text of a part. -/
theorem lay_bytes {l : List (List Int)} (hb : ∀ j, Bytes (l.getD j [])) (h : ∀ j, (l.getD j []).length ≤ 200) : Bytes (layL l) := by
  refine bytes_of_mem (fun x hx => ?_)
  unfold layL at hx
  obtain ⟨e, he, hx⟩ := List.mem_flatMap.1 hx
  obtain ⟨j, hj, rfl⟩ := List.mem_iff_getElem.1 he
  have h1 := hb j
  have h2 := h j
  rw [List.getD_eq_getElem?_getD, List.getElem?_eq_getElem hj] at h1 h2
  rcases List.mem_cons.1 hx with rfl | hx
  · simp at h2; omega
  · exact bytes_forall h1 x hx

end Go.Proofs.YtkjlchfmplcobahDoor

/- The walk of the law TopSteps, over package fleet's faces. -/
namespace Go.Proofs.YtkjlchfmplcobahDoor
open Go.RowKit

def IntCell (w : World) (b o : Nat) (x : Int) : Prop := w.cell? ⟨b, o, none⟩ = some (.int .i64 x) ∧ -9223372036854775808 ≤ x ∧ x ≤ 9223372036854775807
def IntsAt (w : World) (v : Value) (l : List Int) : Prop := RowAt 1 IntCell 0 w v l
theorem IntsAt.below {w w' : World} {v : Value} {l : List Int} (h : IntsAt w v l) (hw : Below w.heap.size w w') : IntsAt w' v l :=
  RowAt.below h hw (fun b o _ hb ⟨h1, h2⟩ => ⟨by rw [hw.cell (p := ⟨b, o, none⟩) hb]; exact h1, h2⟩)
theorem IntsAt.get {w : World} {a : Option Addr} {n c : Nat} {l : List Int} (h : IntsAt w (.slice a n c) l) (hn : l.length = n) {j : Nat} (hj : j < n) : ∃ b o, a = some ⟨b, o, none⟩ ∧ b < w.heap.size ∧ w.cell? ⟨b, o + j, none⟩ = some (.int .i64 (l.getD j 0)) ∧ -9223372036854775808 ≤ l.getD j 0 ∧ l.getD j 0 ≤ 9223372036854775807 := by
  obtain ⟨a', c', e, -, -, -, h5⟩ := h
  rw [hn] at e h5
  cases e
  obtain ⟨b, off, h6, h7, h8⟩ := h5.resolve_left (by omega)
  obtain ⟨h9, h10⟩ := h8 j hj
  rw [Nat.mul_one] at h9
  exact ⟨b, off, h6, h7, h9, h10⟩
theorem YearI.kept {w wr : World} {u v : Value} {l : List Dd} (h : YearI w.heap.size w u wr v l) : Below w.heap.size w wr := by obtain ⟨_, _, _, _, _, _, _, _, h6, _⟩ := h; exact h6
theorem AnssAt.at' {w : World} {a : Option Addr} {n c : Nat} {l : List Ans} (h : AnssAt w (.slice a n c) l) (hn : l.length = n) {j : Nat} (hj : j < n) : ∃ b o, a = some ⟨b, o, none⟩ ∧ b < w.heap.size ∧ AnsCells w b (o + j * 5) (l.getD j ans0) := by
  obtain ⟨a', c', e, -, -, -, h5⟩ := h
  rw [hn] at e h5
  cases e
  obtain ⟨b, off, h6, h7, h8⟩ := h5.resolve_left (by omega)
  exact ⟨b, off, h6, h7, h8 j hj⟩
end Go.Proofs.YtkjlchfmplcobahDoor

/- The mathematics of the law TopFull: as many as may be, and no more. -/
namespace Go.Proofs.YtkjlchfmplcobahDoor

def fullE (i : Nat) : List Int := [(i : Int), (i : Int) / 7]
def fullL (n : Nat) : List (List Int) := (List.range n).map fullE
theorem fullE_inj {i j : Nat} (h : fullE i = fullE j) : i = j := by
  have : (i : Int) = (j : Int) := (List.cons.inj h).1
  omega
theorem fullL_length (n : Nat) : (fullL n).length = n := by simp [fullL]
theorem fullL_snoc (n : Nat) : fullL (n + 1) = fullL n ++ [fullE n] := by unfold fullL; rw [List.range_succ, List.map_append]; rfl
theorem fullL_get {n i : Nat} (h : i < n) : (fullL n).getD i [] = fullE i := by
  unfold fullL; rw [List.getD_eq_getElem?_getD, List.getElem?_map, List.getElem?_range h]; rfl
theorem fullL_mem {n i : Nat} : fullE i ∈ fullL n ↔ i < n := by
  unfold fullL
  rw [List.mem_map]
  exact ⟨fun ⟨j, hj, e⟩ => by have := List.mem_range.1 hj; have := fullE_inj e; omega, fun h => ⟨i, List.mem_range.2 h, rfl⟩⟩
theorem fullL_nodup (n : Nat) : (fullL n).Nodup := by
  unfold fullL
  exact List.pairwise_map.2 (List.nodup_range.imp (fun h e => h (fullE_inj e)))
def fullF (m : Nat) : Flt := ⟨[⟨0, 10, 1, fullL m, man0⟩], []⟩
theorem full_home (m : Nat) : homeOf (fullF m).shards 5 = some 0 := rfl
theorem full_new {m : Nat} (h : m < 100) : stepL (fullF m) (subD 5 (fullE m)) = (fullF (m + 1), ⟨0, 0, (m : Int), 0, []⟩) := by
  rw [sub_new (f := fullF m) (full_home m) rfl (fun g => absurd (fullL_mem.1 g) (by omega)) (show 2 ≤ 200 by omega) (show (fullL m).length < 100 by rw [fullL_length]; exact h)]
  refine Prod.ext ?_ ?_
  · show Flt.mk [⟨0, 10, 1, fullL m ++ [fullE m], man0⟩] [] = _
    rw [← fullL_snoc]; rfl
  · show Ans.mk 0 0 ((fullL m).length : Int) 0 [] = _
    rw [fullL_length]
theorem full_stop {i : Nat} (h : 100 ≤ i) : stepL (fullF 100) (subD 5 (fullE i)) = (fullF 100, no 5) := by
  unfold stepL
  rw [if_pos (show (subD 5 (fullE i)).kind = 1 from rfl)]
  unfold submitL
  rw [if_neg (show ¬ 200 < (subD 5 (fullE i)).entry.length from show ¬ 200 < 2 by omega)]
  have hh : homeOf (fullF 100).shards (subD 5 (fullE i)).time = some 0 := full_home 100
  rw [hh]
  dsimp only
  rw [if_neg (fun g => g rfl)]
  have hp : placeOf ((fullF 100).shards.getD 0 shd0).entries (subD 5 (fullE i)).entry = none := place_absent (es := fullL 100) (fun g => absurd (fullL_mem.1 g) (by omega))
  rw [hp]
  dsimp only
  rw [if_pos (show 100 ≤ ((fullF 100).shards.getD 0 shd0).entries.length from show 100 ≤ (fullL 100).length by rw [fullL_length]; omega)]
theorem full_again {m i : Nat} (h : i < m) : stepL (fullF m) (subD 5 (fullE i)) = (fullF m, ⟨0, 0, (i : Int), 0, []⟩) := by
  unfold stepL
  rw [if_pos (show (subD 5 (fullE i)).kind = 1 from rfl)]
  unfold submitL
  rw [if_neg (show ¬ 200 < (subD 5 (fullE i)).entry.length from show ¬ 200 < 2 by omega)]
  have hh : homeOf (fullF m).shards (subD 5 (fullE i)).time = some 0 := full_home m
  rw [hh]
  dsimp only
  rw [if_neg (fun g => g rfl)]
  have hp : placeOf ((fullF m).shards.getD 0 shd0).entries (subD 5 (fullE i)).entry = some i := by
    have := place_at (es := fullL m) (fullL_nodup m) (i := i) (by rw [fullL_length]; exact h)
    rw [fullL_get h] at this
    exact this
  rw [hp]
  rfl
theorem full_state (i : Nat) : (runL (startL (winsL 1)) (subsL 5 (fullL i))).1 = fullF (min i 100) := by
  induction i with
  | zero => rfl
  | succ i ih =>
    have : subsL 5 (fullL (i + 1)) = subsL 5 (fullL i) ++ [subD 5 (fullE i)] := by rw [fullL_snoc]; unfold subsL; rw [List.map_append]; rfl
    rw [this, runL_snoc, ih]
    by_cases h : i < 100
    · rw [Nat.min_eq_left (by omega), Nat.min_eq_left (by omega), full_new h]
    · rw [Nat.min_eq_right (by omega), Nat.min_eq_right (by omega), full_stop (by omega)]
theorem subs_length (t : Int) (es : List (List Int)) : (subsL t es).length = es.length := by simp [subsL]
theorem subs_full_take {n i : Nat} (h : i ≤ n) : (subsL 5 (fullL n)).take i = subsL 5 (fullL i) := by
  unfold subsL fullL
  rw [List.map_map, List.map_map, ← List.map_take, List.take_range, Nat.min_eq_left h]
theorem subs_full_get {n i : Nat} (h : i < n) : (subsL 5 (fullL n)).getD i dd0 = subD 5 (fullE i) := by
  unfold subsL fullL
  rw [List.map_map, List.getD_eq_getElem?_getD, List.getElem?_map, List.getElem?_range h]; rfl
def fullD (n again : Nat) : List Dd := subsL 5 (fullL n) ++ [subD 5 (fullE again)]
theorem fullD_length (n again : Nat) : (fullD n again).length = n + 1 := by unfold fullD; rw [List.length_append, subs_length, fullL_length]; rfl
theorem full_ans {n again i : Nat} (h : i < n) : ((runL (startL (winsL 1)) (fullD n again)).2.getD i ans0).err = if i < 100 then 0 else 5 := by
  rw [run_ans _ _ (by rw [fullD_length]; omega)]
  have e1 : (fullD n again).take i = subsL 5 (fullL i) := by unfold fullD; rw [List.take_append_of_le_length (by rw [subs_length, fullL_length]; omega), subs_full_take (by omega)]
  have e2 : (fullD n again).getD i dd0 = subD 5 (fullE i) := by
    unfold fullD
    rw [List.getD_eq_getElem?_getD, List.getElem?_append_left (by rw [subs_length, fullL_length]; omega), ← List.getD_eq_getElem?_getD, subs_full_get h]
  rw [e1, e2, full_state]
  by_cases h1 : i < 100
  · rw [Nat.min_eq_left (by omega), full_new h1, if_pos h1]
  · rw [Nat.min_eq_right (by omega), full_stop (by omega), if_neg h1]; rfl
theorem full_last {n again : Nat} (h : again < n) : (runL (startL (winsL 1)) (fullD n again)).2.getD n ans0 = if again < 100 then ⟨0, 0, (again : Int), 0, []⟩ else no 5 := by
  rw [run_ans _ _ (by rw [fullD_length]; omega)]
  have e1 : (fullD n again).take n = subsL 5 (fullL n) := by
    unfold fullD
    rw [List.take_append_of_le_length (by rw [subs_length, fullL_length]; omega), subs_full_take (Nat.le_refl _)]
  have e2 : (fullD n again).getD n dd0 = subD 5 (fullE again) := by
    unfold fullD
    rw [List.getD_eq_getElem?_getD, List.getElem?_append_right (by rw [subs_length, fullL_length]; omega), subs_length, fullL_length, Nat.sub_self]; rfl
  rw [e1, e2, full_state]
  by_cases h1 : again < 100
  · rw [full_again (by omega), if_pos h1]
  · rw [Nat.min_eq_right (by omega), full_stop (by omega), if_neg h1]

end Go.Proofs.YtkjlchfmplcobahDoor
