/- ShelfPartsWalk, ShelfSegs, ShelfGoSmall, as one text. -/
import Derived.Test.YtkjlchfmplcobadDoorProg
import Derived.Test.YtkjlchfmplcobadDoorRunAE
import Derived.WalkKit
import Derived.WalkSpells
import Derived.WalkLawsBesides
import Derived.Test.YtkjlchfmplcobadDoorRunAD
import Derived.Deep.AppendLies
import Derived.Laws.AppendOwnNone
import Derived.Deep.QuietTactic
import Derived.BigQuiet
/- The walk of the law ShelfParts, over the faces of package shelf. -/
namespace Go.Proofs.YtkjlchfmplcobadDoor
open Go.RowKit

set_option maxRecDepth 100000 in
set_option maxHeartbeats 4000000 in
theorem shelfParts_any (hEx : ExportC) (hSeg : SegmentC) (hVe : VerifyC) (hEn : EntryC) (m : Man) (mv : Value) (w : World) (hR : Ready w) (hM : ManAt w mv m) :
    Calls Tryd.prog 6 #[mv] w fun e w' => e = .returned (.bool true) ∧ Below w.heap.size w w' := by
  obtain ⟨i0, hi0, hz0, hz1, hz2⟩ := info_parts Tryd.info23b
  have cA := fun w' (h : Below w.heap.size w w') => alive5_any hEx hVe hEn w' (hR.below h)
  have cV := fun w' (h : Below w.heap.size w w') => hVe m mv w' (hR.below h) (hM.below h)
  have cS := fun w' (k : Nat) (h : Below w.heap.size w w') => hSeg m k mv w' (hM.below h)
  obtain ⟨rv, sv, rfl, hr, a, c, rfl, hN1, hN2, hN3, hcell⟩ := hM
  have hsb : SegsBytes m.segs := SegsAt.bytes ⟨a, c, rfl, hN1, hN2, hN3, hcell⟩
  have x0 := box_new w #[.int .i64 m.size, rv, .slice a m.segs.length c] 28
  have b0 : Below w.heap.size w (w.alloc (.cells #[.int .i64 m.size, rv, .slice a m.segs.length c] 28)) := (Below.refl _ _).alloc (Nat.le_refl _) _
  have cA0 := cA _ b0
  unfold maxLen at hN2
  clear hr cA
  by_cases hF : (verifyL m).2.1 = 0
  case neg =>
    generalize m.segs.length = N at *
    generalize m.size = size at *
    generalize verifyL m = V at *
    obtain ⟨X, F1, F2⟩ := V
    dsimp only [faultV] at cV hF
    have i1 : (F1 != 0) = true := by simpa using hF
    clear hcell cS hsb
    go_enter Tryd.func6, Tryd.ntmps6
    go_wp2_with fail
    generalize w.alloc (.cells #[.int .i64 size, rv, .slice a N c] 28) = w0 at *
    refine cA0.mono ?_
    rintro e w1 ⟨rfl, hb1⟩
    have b1 := b0.trans (hb1.mono b0.size)
    have x1 := box_kept x0 hb1
    obtain ⟨u0, u1, u2, -, -, -⟩ := box_three x1
    clear cA0 x0 b0 hb1
    go_wp2_with fail
    refine (cV _ b1).mono ?_
    rintro e w2 ⟨xa, xn, xc, rfl, -, hb2⟩
    obtain ⟨c2, f0, -, sf⟩ := box_cells w2 (.int .i64 F1) (.int .i64 F2) 31
    have b2 := b1.trans (hb2.mono b1.size)
    have b3 := b2.trans (c2.mono b2.size)
    clear cV
    go_wp2_with fail
    go_ret
    exact ⟨rfl, b3⟩
  obtain ⟨hV, hmany, hall, -⟩ := verify_spec hF
  obtain ⟨hsz, hfirst⟩ := upTo_all hF
  rw [hV] at cV
  have hUL := upTo_few m
  have hUS := upTo_succ m
  have hUB := upTo_bytes hsb
  have hcnt := fun (k : Nat) (h : k < m.segs.length) => (segment_len (hall k h)).1
  have h100 : (upTo m m.segs.length).length ≤ 100 := by have h2 := hmany; unfold manyB at h2; simp at h2; omega
  have hN13 : m.segs.length ≤ 13 := by have h2 := hmany; unfold manyB at h2; simp at h2; omega
  clear hmany hV hF
  dsimp only [faultV] at cV
  have HXL : Hid ((upTo m m.segs.length).length ≤ 100) := h100
  have HSZ : Hid (((upTo m m.segs.length).length : Int) = m.size) := hsz
  have HA : ∀ k : Nat, Hid (k < m.segs.length → (segmentL m (k : Int)).2 = 0) := fun k h => hall k h
  clear hall hsz h100
  generalize hNN : m.segs.length = N at *
  generalize m.size = size at *
  go_enter Tryd.func6, Tryd.ntmps6
  go_wp2_with fail
  generalize w.alloc (.cells #[.int .i64 size, rv, .slice a N c] 28) = w0 at *
  refine cA0.mono ?_
  rintro e w1 ⟨rfl, hb1⟩
  have b1 := b0.trans (hb1.mono b0.size)
  have x1 := box_kept x0 hb1
  obtain ⟨u0, u1, u2, -, -, -⟩ := box_three x1
  clear cA0 x0 b0 hb1
  go_wp2_with fail
  refine (cV _ b1).mono ?_
  rintro e w2 ⟨xa, xn, xc, rfl, hl, hb2⟩
  have x2 := box_old _ (.cells #[.int .i64 0, .int .i64 0] 31) (box_kept x1 hb2)
  obtain ⟨c2, f0, -, sf⟩ := box_cells w2 (.int .i64 0) (.int .i64 0) 31
  have b2 := b1.trans (hb2.mono b1.size)
  have b3 := b2.trans (c2.mono b2.size)
  have hl3 := hl.below c2
  obtain ⟨u0', u1', u2', -, -, -⟩ := box_three x2
  clear cV x1 u0 u1 u2 hl hb2 b2 c2 b1
  go_wp2_with fail
  generalize w2.alloc (.cells #[.int .i64 0, .int .i64 0] 31) = w3 at *
  clear u0' u1' u2' f0 sf
  have hs3 := b3.size
  go_loopw [5, 22] (fun av kv wr => ∃ (k : Nat) (va : Option Addr) (vn vc : Nat) (vs : List Value), k ≤ N ∧ kv = .int .i64 k ∧ av = .slice va vn vc ∧ Hid (vn = (upTo m k).length) ∧ wr.ownsRow w3.heap.size 23 1 (.slice va vn vc) vn vs ∧ Els wr vs (upTo m k) ∧ wr.heap[w.heap.size]? = some (.cells #[.int .i64 size, rv, .slice a N c] 28 (0, 0)) ∧ Below w3.heap.size w3 wr) (fun _ kv _ => N - (intOf kv).toNat)
  case atStart => exact ⟨0, none, 0, 0, [], Nat.zero_le _, rfl, rfl, rfl, World.ownsRow_nil _ _ _ _, els_nil _, x2, Below.refl _ _⟩
  case round =>
    obtain ⟨wo, rfl⟩ : ∃ x, x = wr := ⟨wr, rfl⟩
    obtain ⟨k, va, vn, vc, vs, hk, rfl, rfl, HN, hrow, hels, xo, hbr⟩ := hrel
    have hsr := hbr.size
    have hbw := b3.trans (hbr.mono hs3)
    clear x2
    have hlenk := (hUL k).1
    rw [← HN.out] at hlenk
    obtain ⟨u0, u1, u2, -, -, -⟩ := box_three xo
    by_cases hlt : k < N
    · have hlt' : (k : Int) < N := by omega
      have hS1 := cS wo k hbw
      rw [(HA k).out hlt] at hS1
      have hcnt1 := hcnt k hlt
      rw [Int.toNat_natCast] at hcnt1
      have hfst := hfirst k hlt
      rw [← HN.out] at hfst
      have hl8 := (segment_few m (k : Int)).1
      have HSU : Hid (upTo m (k + 1) = upTo m k ++ (segmentL m (k : Int)).1) := hUS k
      obtain ⟨g, o, rfl, hg, hcells⟩ := hcell.resolve_left (by omega)
      obtain ⟨d0, d1, -⟩ := hcells k hlt
      rw [hfst] at d0
      rw [← hcnt1] at d1
      have e0 := fun w' (h : Below w.heap.size w w') => (h.cell (p := ⟨g, o + k * 3, none⟩) hg).trans d0
      have e1 := fun w' (h : Below w.heap.size w w') => (h.cell (p := ⟨g, o + k * 3 + 1, none⟩) hg).trans d1
      clear hcell hcells d0 d1 hcnt hfirst hcnt1 hfst hUS hUB hUL cS HA
      generalize (segmentL m (k : Int)).1 = l at *
      go_wp2_with fail
      refine hS1.mono ?_
      rintro e w4 ⟨ya, yn, yc, rfl, hy, hb4⟩
      have hyn := hy.lists.len
      have c4 := hbr.trans (hb4.mono hsr)
      have b4 := b3.trans (c4.mono hs3)
      have d0 := e0 w4 b4
      have d1 := e1 w4 b4
      rw [hyn] at d1
      have x4 := box_kept xo hb4
      obtain ⟨t0, t1, t2, -, -, -⟩ := box_three x4
      have hrow4 := own_below hrow hb4 (Nat.le_refl _)
      have hels4 := hels.below hb4 (Nat.le_refl _)
      obtain ⟨us, hu1, hu2⟩ := hy.els
      have hnil := hy.lists.nil
      have hone := hu1.one
      have hul : us.length = yn := by rw [hu1.1, hyn]
      have q1 : ((yn : Int) != (yn : Int)) = false := by simp
      have q2 : ((vn : Int) != (vn : Int)) = false := by simp
      clear hS1 hrow hels xo u0 u1 u2 e0 e1 hy
      go_wp2_with (at_builtin; refine wpList_append_parts rfl (.tmp 55) (.tmp 56) 22 rfl w3.heap.size 23 i0 (.slice none 0 0) 24 Tryd.underlying22 hi0 hz0 hz1 hz2 rfl _ _ _ rfl hrow4 ya yn yc us rfl hnil hul hu2 hone (by unfold maxLen; omega) (by omega) c4.size ?_; intro v7 w7 ho7 hg7; obtain ⟨sa, sc, rfl⟩ := own_form' ho7)
      have b7 : Below w3.heap.size w3 w7 := c4.grown hg7 c4.size (fun _ h => own_block hrow4 h)
      have hels7 : Els w7 (vs ++ us) (upTo m (k + 1)) := by rw [HSU.out]; exact (hels4.append hu1).kept hrow4 (by decide) hg7
      have x7 := grown_box hg7 hrow4 x4 (by decide)
      go_roundw
      case rel => exact ⟨k + 1, sa, _, sc, vs ++ us, by omega, by go_num, rfl, by show _ = _; rw [HSU.out, List.length_append, hyn, HN.out], ho7, hels7, x7, b7⟩
      case measure => simp [intOf]; omega
    · obtain rfl : k = N := by omega
      have hnl : ¬ (k : Int) < k := by omega
      have h100 := HXL.out
      have hsz := HSZ.out
      rw [← HN.out] at hsz
      have h200 := (hUL k).2
      have hla : Laid wo va vn vc (upTo m k) := laid_own hrow hels HN.out.symm (hUB k) (fun x hx => by have := h200 x hx; unfold maxLen; omega)
      have hx := (hl3.below hbr).lists.at'
      have hxn := hl3.lists.len
      have sS := refSame_any (upTo m k) (upTo m k) _ _ wo hla.lists.at' hx (by unfold maxLen; omega) hla.lists.short
      rw [decide_eq_true rfl] at sS
      clear hla hx hUL hUS hUB hcnt hfirst hcell cS HA hrow hels hl3 h200 hxn
      have hsz' : ((vn : Int) == size) = true := by simpa using hsz
      go_wp2_with fail
      refine sS.mono ?_
      rintro e w5 ⟨rfl, q, rfl⟩
      obtain ⟨t0, t1, t2, -, -, -⟩ := box_three (w := wo.drewN q) xo
      go_wp2_with fail
      go_ret
      exact ⟨rfl, below_drewN' hbw _⟩

end Go.Proofs.YtkjlchfmplcobadDoor

/- Segments as rows of a call's own; parts of lists. -/
namespace Go.Proofs.YtkjlchfmplcobadDoor
open Go.RowKit

theorem Tryd.info55b : (Tryd.prog.info? 55).map (fun i => (i.zero, i.size, i.bytes)) = some (some (.agg #[.int .i64 0, .int .i64 0, .slice none 0 0]), 3, 40) := by kernel_rfl
theorem Lists.part {w : World} {b off n c i m : Nat} {L : List (List Int)} (h : Lists w (some ⟨b, off, none⟩) n c L) (hi : i + m ≤ n) (hm : 1 ≤ m) : Lists w (some ⟨b, off + i, none⟩) m (c - i) ((L.drop i).take m) := by
  have hl := h.len
  have hr := h.room
  have hc := h.cap
  have hd := h.at'.drop (k := i) hl (by omega) (by omega) (c - i)
  refine ⟨by rw [List.length_take, List.length_drop]; omega, hd.take (by rw [List.length_drop]; omega) (by omega) (by omega) _, by omega, by omega, fun e => (by cases e), ?_, ?_⟩
  · refine take_bytes (fun j => ?_) m
    rw [List.getD_eq_getElem?_getD, List.getElem?_drop, ← List.getD_eq_getElem?_getD]; exact h.bytes _
  · refine take_short (fun j => ?_) m
    rw [List.getD_eq_getElem?_getD, List.getElem?_drop, ← List.getD_eq_getElem?_getD]; exact h.short _
theorem own3_below {w w' : World} {base : Nat} {e : TypeId} {v : Value} {n N : Nat} {xs : List Value} (h : w.ownsRow base e 3 v n xs) (hb : Below N w w') (hN : w.heap.size ≤ N) : w'.ownsRow base e 3 v n xs :=
  h.kept (w' := w') (row := none) ⟨hb.os, hb.tape, hb.output, hb.size, fun k hk _ => hb.block k (Nat.lt_of_lt_of_le hk hN)⟩ (by cases v.ownBlock <;> simp)
theorem own_ne3 {w : World} {base b2 : Nat} {e1 e2 : TypeId} {v1 v2 : Value} {n1 n2 : Nat} {xs1 xs2 : List Value} (h1 : w.ownsRow base e1 1 v1 n1 xs1) (h2 : w.ownsRow b2 e2 3 v2 n2 xs2) (hne : e1 ≠ e2) : Sep v1 v2 := fun g hg1 hg2 => by
  rcases h1.2 with ⟨rfl, -⟩ | ⟨g1, c1, cur1, rfl, -, hh1, -⟩
  · cases hg1
  rcases h2.2 with ⟨rfl, -⟩ | ⟨g2, c2, cur2, rfl, -, hh2, -⟩
  · cases hg2
  cases hg1
  cases hg2
  rw [hh1] at hh2
  cases hh2
  exact hne rfl
/-- The values of segments, each with bytes of the call's own. -/
def SegEls (w : World) (base : Nat) (vs : List Value) (l : List Seg) : Prop :=
  vs.length = l.length * 3 ∧ ∀ j, j < l.length → vs[j * 3]? = some (.int .i64 (l.getD j seg0).first) ∧ vs[j * 3 + 1]? = some (.int .i64 (l.getD j seg0).count) ∧
    ∃ y, vs[j * 3 + 2]? = some y ∧ w.ownsRow base 5 1 y (l.getD j seg0).packed.length ((l.getD j seg0).packed.map (Value.int .u8))
theorem SegEls.kept {w w' : World} {base b2 : Nat} {vs : List Value} {l : List Seg} {v : Value} {n : Nat} {xs : List Value} (h : SegEls w base vs l) (hr : w.ownsRow b2 55 3 v n xs) (hg : w.grownBy w' v.ownBlock) : SegEls w' base vs l :=
  ⟨h.1, fun j hj => by
    obtain ⟨h0, h1, y, h2, h3⟩ := h.2 j hj
    exact ⟨h0, h1, y, h2, h3.kept hg (own_ne3 h3 hr (by decide)).or⟩⟩
theorem SegEls.alloc {w : World} {base : Nat} {vs : List Value} {l : List Seg} (h : SegEls w base vs l) (o : Obj) : SegEls (w.alloc o) base vs l :=
  ⟨h.1, fun j hj => by
    obtain ⟨h0, h1, y, h2, h3⟩ := h.2 j hj
    exact ⟨h0, h1, y, h2, h3.alloc o⟩⟩
theorem SegEls.below {w w' : World} {base N : Nat} {vs : List Value} {l : List Seg} (h : SegEls w base vs l) (hb : Below N w w') (hN : w.heap.size ≤ N) : SegEls w' base vs l :=
  ⟨h.1, fun j hj => by
    obtain ⟨h0, h1, y, h2, h3⟩ := h.2 j hj
    exact ⟨h0, h1, y, h2, own_below h3 hb hN⟩⟩
theorem SegEls.snoc {w : World} {base : Nat} {vs : List Value} {l : List Seg} {s : Seg} {y : Value} (h : SegEls w base vs l) (hy : w.ownsRow base 5 1 y s.packed.length (s.packed.map (Value.int .u8))) : SegEls w base (vs ++ [.int .i64 s.first, .int .i64 s.count, y]) (l ++ [s]) := by
  obtain ⟨hl, h⟩ := h
  refine ⟨by simp; omega, fun j hj => ?_⟩
  by_cases e : j < l.length
  · obtain ⟨h0, h1, z, h2, h3⟩ := h j e
    have eg : (l ++ [s]).getD j seg0 = l.getD j seg0 := by rw [List.getD_eq_getElem?_getD, List.getElem?_append_left e, ← List.getD_eq_getElem?_getD]
    rw [eg, List.getElem?_append_left (by omega), List.getElem?_append_left (by omega), List.getElem?_append_left (by omega)]
    exact ⟨h0, h1, z, h2, h3⟩
  · obtain rfl : j = l.length := by simp at hj; omega
    have eg : (l ++ [s]).getD l.length seg0 = s := by rw [List.getD_eq_getElem?_getD, List.getElem?_append_right (Nat.le_refl _), Nat.sub_self]; rfl
    rw [eg, List.getElem?_append_right (by omega), List.getElem?_append_right (by omega), List.getElem?_append_right (by omega), hl, Nat.sub_self, show l.length * 3 + 1 - l.length * 3 = 1 by omega, show l.length * 3 + 2 - l.length * 3 = 2 by omega]
    exact ⟨rfl, rfl, y, rfl, hy⟩
theorem segEls_nil (w : World) (base : Nat) : SegEls w base [] [] := ⟨rfl, fun _ hj => absurd hj (Nat.not_lt_zero _)⟩
/-- Segments, all of them the call's own. -/
def OwnSegs (w : World) (base : Nat) (v : Value) (l : List Seg) : Prop := ∃ vs, w.ownsRow base 55 3 v l.length vs ∧ SegEls w base vs l
theorem OwnSegs.below {w w' : World} {base N : Nat} {v : Value} {l : List Seg} (h : OwnSegs w base v l) (hb : Below N w w') (hN : w.heap.size ≤ N) : OwnSegs w' base v l := by
  obtain ⟨vs, h1, h2⟩ := h
  exact ⟨vs, own3_below h1 hb hN, h2.below hb hN⟩
theorem OwnSegs.set {w : World} {base k o : Nat} {v : Value} {l : List Seg} (h : OwnSegs w base v l) (hk : k < base) (u : Value) : OwnSegs (w.setCell ⟨k, o, none⟩ u) base v l := by
  obtain ⟨vs, h1, h2, h3⟩ := h
  refine ⟨vs, ownsRow_setCell_below h1 (a := ⟨k, o, none⟩) hk u, h2, fun j hj => ?_⟩
  obtain ⟨g0, g1, y, g2, g3⟩ := h3 j hj
  exact ⟨g0, g1, y, g2, ownsRow_setCell_below g3 (a := ⟨k, o, none⟩) hk u⟩
theorem OwnSegs.segs {w : World} {base : Nat} {v : Value} {l : List Seg} (h : OwnSegs w base v l) (hby : SegsBytes l) : SegsAt w v l := by
  obtain ⟨vs, h1, -, h2⟩ := h
  rcases h1.2 with ⟨hv, hn⟩ | ⟨g, cap, cur, rfl, -, hg, h3, h4, -⟩
  · exact ⟨none, 0, by rw [hv, hn], by omega, Nat.zero_le _, fun _ => rfl, .inl hn⟩
  · refine ⟨_, cap, rfl, h3, h4, (fun e => by cases e), .inr ⟨g, 0, rfl, lt_heap hg, fun j hj => ?_⟩⟩
    obtain ⟨g0, g1, y, g2, g3⟩ := h2 j hj
    rw [Nat.zero_add]
    refine ⟨(h1.cellAt (j * 3) (by omega)).trans g0, (h1.cellAt (j * 3 + 1) (by omega)).trans g1, ?_⟩
    obtain ⟨pa, pc, rfl, q1, q2⟩ := own_cap g3
    exact ⟨pa, pc, (h1.cellAt (j * 3 + 2) (by omega)).trans g2, ⟨bytesAt_own g3, hby j, by omega⟩, q1, q2⟩
/-- Each segment's bytes lie in a later block than those of the one ahead. -/
def RiseV (vs : List Value) (m : Nat) : Prop := ∀ i j, i < j → j < m → ∀ y z g h, vs[i * 3 + 2]? = some y → vs[j * 3 + 2]? = some z → y.ownBlock = some g → z.ownBlock = some h → g < h
theorem riseV_nil : RiseV [] 0 := fun _ _ _ h => absurd h (Nat.not_lt_zero _)
theorem RiseV.snoc {w : World} {base m : Nat} {vs : List Value} {l : List Seg} {a b y : Value} (h : RiseV vs m) (he : SegEls w base vs l) (hm : l.length = m) (hy : ∀ g, y.ownBlock = some g → w.heap.size ≤ g) : RiseV (vs ++ [a, b, y]) (m + 1) := fun i j hij hj u z g q hu hz hg hq => by
  have hl : vs.length = m * 3 := by rw [← hm]; exact he.1
  rw [List.getElem?_append_left (by omega)] at hu
  by_cases e : j < m
  · rw [List.getElem?_append_left (by omega)] at hz
    exact h i j hij e u z g q hu hz hg hq
  · obtain rfl : j = m := by omega
    rw [List.getElem?_append_right (by omega), hl, show j * 3 + 2 - j * 3 = 2 by omega] at hz
    cases hz
    obtain ⟨-, -, x, h1, h2⟩ := he.2 i (by omega)
    rw [hu] at h1
    cases h1
    have := (h2.lt g hg).2
    have := hy q hq
    omega
theorem lit_seg (w : World) (x y : Int) (pv : Value) (t : TypeId) : ∀ (j : Nat) (u : Value), [Value.int .i64 x, .int .i64 y, pv][j]? = some u → (w.alloc (.cells #[.int .i64 x, .int .i64 y, pv] t)).cell? ((⟨w.heap.size, 0, none⟩ : Addr).add j) = some u := fun j u hj => by
  have hadd : (⟨w.heap.size, 0, none⟩ : Addr).add j = ⟨w.heap.size, 0 + j, none⟩ := Addr.add_mid _ _ _
  rw [hadd, Nat.zero_add]
  match j, hj with
  | 0, hj => rw [new_cell w t _ 0 (by simp)]; simpa using hj
  | 1, hj => rw [new_cell w t _ 1 (by simp)]; simpa using hj
  | 2, hj => rw [new_cell w t _ 2 (by simp)]; simpa using hj
  | j + 3, hj => simp at hj
theorem segK_bytes {L : List (List Int)} (hb : ∀ j, Bytes (L.getD j [])) (h : ∀ e ∈ L, e.length ≤ 200) (k : Nat) : Bytes (segK L k).packed := by
  refine pack_bytes ?_ (lay_part h k)
  refine bytes_of_mem (fun x hx => ?_)
  unfold layL at hx
  obtain ⟨e, he, hx⟩ := List.mem_flatMap.1 hx
  have h200 := short_part h k e he
  rcases List.mem_cons.1 hx with rfl | hx
  · omega
  · obtain ⟨j, hj, rfl⟩ := List.mem_iff_getElem.1 (List.mem_of_mem_drop (List.mem_of_mem_take he))
    have := hb j
    rw [List.getD_eq_getElem?_getD, List.getElem?_eq_getElem hj] at this
    exact bytes_forall this x hx
theorem segsL_bytes {L : List (List Int)} (hb : ∀ j, Bytes (L.getD j [])) (h : ∀ e ∈ L, e.length ≤ 200) : SegsBytes (segsL L) := fun j => by
  by_cases hj : j < (L.length + 7) / 8
  · unfold segsL; rw [segsN_get _ _ _ hj]; exact segK_bytes hb h j
  · rw [List.getD_eq_getElem?_getD, List.getElem?_eq_none (by unfold segsL; rw [segsN_length]; omega)]; exact nil_bytes
/-- The text of a part. -/
theorem lay_bytes {l : List (List Int)} (hb : ∀ j, Bytes (l.getD j [])) (h : ∀ j, (l.getD j []).length ≤ 200) : Bytes (layL l) := by
  refine bytes_of_mem (fun x hx => ?_)
  unfold layL at hx
  obtain ⟨e, he, hx⟩ := List.mem_flatMap.1 hx
  obtain ⟨j, hj, rfl⟩ := List.mem_iff_getElem.1 he
  have h1 := hb j
  have h2 := h j
  rw [List.getD_eq_getElem?_getD, List.getElem?_eq_getElem hj] at h1 h2
  rcases List.mem_cons.1 hx with rfl | hx
  · simp at h2; omega
  · exact bytes_forall h1 x hx

end Go.Proofs.YtkjlchfmplcobadDoor

/- The walks of isSize, segmentsFor, countFrom and fits: package shelf as it landed. -/
namespace Go.Proofs.YtkjlchfmplcobadDoor
open Go.RowKit

def sizeB (n : Int) : Bool := decide (0 ≤ n ∧ n ≤ 100)
theorem sizeB_true {n : Int} (h0 : 0 ≤ n) (h1 : n ≤ 100) : sizeB n = true := decide_eq_true ⟨h0, h1⟩
theorem sizeB_false {n : Int} (h : ¬ (0 ≤ n ∧ n ≤ 100)) : sizeB n = false := decide_eq_false h
set_option maxRecDepth 100000 in
theorem isSize_any (n : Int) (w : World) : Calls Tryd.prog 35 #[.int .i64 n] w fun e w' => e = .returned (.bool (sizeB n)) ∧ w' = w := by
  by_cases h0 : 0 ≤ n
  · by_cases h1 : n ≤ 100
    · have e : sizeB n = true := sizeB_true h0 h1
      rw [e]
      clear e
      go_enter Tryd.func35, Tryd.ntmps35
      go_wp2
      go_ret
      exact ⟨rfl, rfl⟩
    · have e : sizeB n = false := sizeB_false (by omega)
      rw [e]
      clear e
      go_enter Tryd.func35, Tryd.ntmps35
      go_wp2
      go_ret
      exact ⟨rfl, rfl⟩
  · have e : sizeB n = false := sizeB_false (by omega)
    rw [e]
    clear e
    go_enter Tryd.func35, Tryd.ntmps35
    go_wp2
    go_ret
    exact ⟨rfl, rfl⟩
theorem ret_int' {k : IntKind} {a b : Int} (h : a = b) : Ending.returned (.int k a) = .returned (.int k b) := by rw [h]
set_option maxRecDepth 100000 in
theorem segmentsFor_any (n : Int) (w : World) (h0 : 0 ≤ n) (h1 : n ≤ 100) : Calls Tryd.prog 36 #[.int .i64 n] w fun e w' => e = .returned (.int .i64 ((n + 7) / 8)) ∧ w' = w := by
  go_enter Tryd.func36, Tryd.ntmps36
  go_wp2
  go_ret
  exact ⟨ret_int' (by omega), rfl⟩
set_option maxRecDepth 100000 in
theorem countFrom_any (f s : Int) (w : World) (h0 : 0 ≤ f) (h1 : f ≤ 1000) (h2 : 0 ≤ s) (h3 : s ≤ 1000) : Calls Tryd.prog 47 #[.int .i64 f, .int .i64 s] w fun e w' => e = .returned (.int .i64 (min 8 (s - f))) ∧ w' = w := by
  by_cases h : s - f < 8
  · rw [show min 8 (s - f) = s - f by omega]
    go_enter Tryd.func47, Tryd.ntmps47
    go_wp2
    go_ret
    exact ⟨rfl, rfl⟩
  · rw [show min 8 (s - f) = 8 by omega]
    go_enter Tryd.func47, Tryd.ntmps47
    go_wp2
    go_ret
    exact ⟨rfl, rfl⟩
set_option maxRecDepth 100000 in
set_option maxHeartbeats 2000000 in
theorem segFits_any (f c k size : Int) (pv : Value) (p : List Int) (w : World) (hk : 0 ≤ k) : Calls Tryd.prog 30 #[.agg #[.int .i64 f, .int .i64 c, pv], .int .i64 k, .int .i64 size] w fun e w' => e = .returned (.bool (fitB size k ⟨f, c, p⟩)) ∧ Below w.heap.size w w' := by
  have hS := isSize_any size
  have hb := box_new w #[.int .i64 f, .int .i64 c, pv] 55
  obtain ⟨x0, x1, x2, -, -, -⟩ := box_three hb
  have bW : Below w.heap.size w (w.alloc (.cells #[.int .i64 f, .int .i64 c, pv] 55)) := (Below.refl _ _).alloc (Nat.le_refl _) _
  clear hb
  by_cases h1 : 0 ≤ size ∧ size ≤ 100
  · rw [sizeB_true h1.1 h1.2] at hS
    by_cases h2 : k ≤ 100
    · by_cases h3 : f = k * 8
      · subst h3
        by_cases h4 : 1 ≤ c
        · have hC := fun W => countFrom_any (k * 8) size W (by omega) (by omega) h1.1 (by omega)
          by_cases h5 : c = min 8 (size - k * 8)
          · have e : fitB size k ⟨k * 8, c, p⟩ = true := fitB_iff.2 ⟨h1.1, h1.2, h2, rfl, h4, h5⟩
            have hC' : ∀ W, Calls Tryd.prog 47 #[.int .i64 (k * 8), .int .i64 size] W fun e w' => e = .returned (.int .i64 c) ∧ w' = W := fun W => by have := hC W; rwa [← h5] at this
            have hcc : (c == c) = true := by simp
            rw [e]
            clear e h5 hC
            go_enter Tryd.func30, Tryd.ntmps30
            go_wp2_with fail
            go_quiet ((first | (go_at_call 35; exact Calls.quiet_of_same (hS _)) | (go_at_call 47; exact Calls.quiet_of_same (hC' _))))
            go_wp2_with fail
            go_ret
            exact ⟨rfl, below_drewN' bW _⟩
          · have e : fitB size k ⟨k * 8, c, p⟩ = false := by rw [Bool.eq_false_iff]; intro h; exact h5 (fitB_iff.1 h).2.2.2.2.2
            obtain ⟨q, hq⟩ : ∃ q, q = min 8 (size - k * 8) := ⟨_, rfl⟩
            rw [← hq] at hC h5
            have h5' : (c == q) = false := by simpa using h5
            rw [e]
            clear e h5 hq
            go_enter Tryd.func30, Tryd.ntmps30
            go_wp2_with fail
            go_quiet ((first | (go_at_call 35; exact Calls.quiet_of_same (hS _)) | (go_at_call 47; exact Calls.quiet_of_same (hC _))))
            go_wp2_with fail
            go_ret
            exact ⟨rfl, below_drewN' bW _⟩
        · have e : fitB size k ⟨k * 8, c, p⟩ = false := by rw [Bool.eq_false_iff]; intro h; exact h4 (fitB_iff.1 h).2.2.2.2.1
          have h4' : decide (1 ≤ c) = false := decide_eq_false h4
          rw [e]
          clear e
          go_enter Tryd.func30, Tryd.ntmps30
          go_wp2_with fail
          go_quiet ((go_at_call 35; exact Calls.quiet_of_same (hS _)))
          go_wp2_with fail
          go_ret
          exact ⟨rfl, below_drewN' bW _⟩
      · have e : fitB size k ⟨f, c, p⟩ = false := by rw [Bool.eq_false_iff]; intro h; exact h3 (fitB_iff.1 h).2.2.2.1
        have h3' : (f == k * 8) = false := by simpa using h3
        rw [e]
        clear e h3
        go_enter Tryd.func30, Tryd.ntmps30
        go_wp2_with fail
        go_quiet ((go_at_call 35; exact Calls.quiet_of_same (hS _)))
        go_wp2_with fail
        go_ret
        exact ⟨rfl, below_drewN' bW _⟩
    · have e : fitB size k ⟨f, c, p⟩ = false := by rw [Bool.eq_false_iff]; intro h; exact h2 (fitB_iff.1 h).2.2.1
      have h2' : decide (k ≤ 100) = false := decide_eq_false h2
      rw [e]
      clear e
      go_enter Tryd.func30, Tryd.ntmps30
      go_wp2_with fail
      go_quiet ((go_at_call 35; exact Calls.quiet_of_same (hS _)))
      go_wp2_with fail
      go_ret
      exact ⟨rfl, below_drewN' bW _⟩
  · rw [sizeB_false h1] at hS
    have e : fitB size k ⟨f, c, p⟩ = false := by rw [Bool.eq_false_iff]; intro h; have := fitB_iff.1 h; exact h1 ⟨this.1, this.2.1⟩
    rw [e]
    clear e h1
    go_enter Tryd.func30, Tryd.ntmps30
    go_wp2_with fail
    go_quiet ((go_at_call 35; exact Calls.quiet_of_same (hS _)))
    go_wp2_with fail
    go_ret
    exact ⟨rfl, below_drewN' bW _⟩

end Go.Proofs.YtkjlchfmplcobadDoor
