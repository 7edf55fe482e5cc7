/- FleetPastWalk, FleetEarlyWalk, FleetDos, ShelfSegs, as one text. -/
import Derived.Test.YtkjlchfmplcobagGreatDoorProg
import Derived.Test.YtkjlchfmplcobagGreatDoorRunAK
import Derived.WalkKit
import Derived.WalkSpells
import Derived.WalkLawsBesides
import Derived.Deep.RegionHeld3
import Derived.BigRegion
import Derived.Deep.AppendLies
import Derived.Laws.AppendOwnNone
import Derived.Test.YtkjlchfmplcobagGreatDoorRunAI
/- The walk of the law FleetPast, over the faces of package fleet. -/
namespace Go.Proofs.YtkjlchfmplcobagGreatDoor
open Go.RowKit

theorem play_ok {ws : List Win} {l : List Dd} (h : (playF ws l).1 = 0) : playL ws l = runL (startL ws) l ∧ (wrongWins ws).1 = 0 ∧ l.length ≤ 120 := by
  refine ⟨by unfold playL; rw [if_neg (fun g => g h)], ?_, ?_⟩
  · unfold playF at h
    by_cases hw : (wrongWins ws).1 ≠ 0
    · rw [if_pos hw] at h; exact absurd h hw
    · simpa using hw
  · unfold playF at h
    by_cases hw : (wrongWins ws).1 ≠ 0
    · rw [if_pos hw] at h; exact absurd h hw
    · rw [if_neg hw] at h
      by_cases hl : 120 < l.length
      · rw [if_pos hl] at h; exact absurd h (by decide)
      · omega
end Go.Proofs.YtkjlchfmplcobagGreatDoor

/- The walk of the law FleetEarly, over the faces of package fleet. -/
namespace Go.Proofs.YtkjlchfmplcobagGreatDoor
open Go.RowKit

theorem ShdsAt.get {w : World} {a : Option Addr} {n c : Nat} {l : List Shd} (h : ShdsAt w (.slice a n c) l) (hn : l.length = n) {j : Nat} (hj : j < n) : ∃ b o, a = some ⟨b, o, none⟩ ∧ b < w.heap.size ∧ ShdCells w b (o + j * 7) (l.getD j shd0) := by
  obtain ⟨a', c', e, -, -, -, h5⟩ := h
  rw [hn] at e h5
  cases e
  obtain ⟨b, off, h6, h7, h8⟩ := h5.resolve_left (by omega)
  exact ⟨b, off, h6, h7, h8 j hj⟩
set_option maxRecDepth 100000 in
set_option maxHeartbeats 4000000 in
theorem fleetEarly_any (hPl : PlayC) (hSh : ShowC) (hCh : CheckC) (hHe : BookHeadC) (ws : List Win) (l : List Dd) (k i : Int) (wa da : Option Addr) (wn wc dn dc : Nat) (w : World) (hR : Ready w) (hW : WinsAt w (.slice wa wn wc) ws) (hD : DosAt w (.slice da dn dc) l) :
    Calls Tryz.prog 4 #[.slice wa wn wc, .slice da dn dc, .int .i64 k, .int .i64 i] w fun e w' => e = .returned (.bool true) ∧ Below w.heap.size w w' := by
  have cA := alive7_any hPl hSh hCh hHe w hR
  have cP := fun w' (h : Below w.heap.size w w') => hPl ws l _ _ w' (hR.below h) (hW.below h) (hD.below h)
  have HP : Hid ((playF ws l).1 = 0 → (wrongWins ws).1 = 0 ∧ FltOk ws (playL ws l).1) := fun h => by
    obtain ⟨e, hw, -⟩ := play_ok h
    rw [e]
    exact ⟨hw, run_ok (start_ok ws) l⟩
  clear hD hW
  generalize playF ws l = F at *
  generalize playL ws l = P at *
  obtain ⟨F1, F2⟩ := F
  obtain ⟨P, A⟩ := P
  dsimp only [faultV] at cP HP
  go_enter Tryz.func4, Tryz.ntmps4
  go_wp2_with fail
  refine cA.mono ?_
  rintro e w1 ⟨rfl, b1⟩
  clear cA
  go_wp2_with fail
  refine (cP _ b1).mono ?_
  rintro e w2 ⟨fv, av, rfl, ⟨sa, sc, ka, kc, rfl, hS, hB⟩, hA, hb2⟩
  have b2 := b1.trans (hb2.mono b1.size)
  obtain ⟨aa, ac, rfl⟩ := hA.form
  have d3 : Below w2.heap.size w2 ((w2.alloc (.cells #[.slice sa P.shards.length sc, .slice ka P.book.length kc] 28)).alloc (.cells #[.int .i64 F1, .int .i64 F2] 32)) := ((Below.refl _ _).alloc (Nat.le_refl _) _).alloc (by simp) _
  have b3 := b2.trans (d3.mono b2.size)
  have x3 := box_one w2 #[.slice sa P.shards.length sc, .slice ka P.book.length kc] 28 (.cells #[.int .i64 F1, .int .i64 F2] 32)
  obtain ⟨f0, f1, -, -⟩ := box_two (box_last w2 (.cells #[.slice sa P.shards.length sc, .slice ka P.book.length kc] 28) #[.int .i64 F1, .int .i64 F2] 32)
  have hS3 := hS.below d3
  have hB3 := hB.below d3
  have hF3 := FltV.below (w := w2) (f := P) ⟨sa, sc, ka, kc, rfl, hS, hB⟩ d3
  clear cP hA hb2 b1 b2 d3 hS hB
  by_cases hF : F1 ≠ 0
  · have hF' : (F1 != 0) = true := by simpa using hF
    clear HP hF hF3 hS3 hB3
    go_wp2_with fail
    go_ret
    exact ⟨rfl, b3⟩
  obtain rfl : F1 = 0 := by simpa using hF
  obtain ⟨hw, hok⟩ := HP.out rfl
  have cS := hSh ws P k i _ _ hw hok (hR.below b3) hF3
  have hse := show_err hw hok k i
  have HN : Hid (∀ q : Nat, q < P.shards.length → (P.shards.getD q shd0).state ≠ 1 → sizeIn P.book (q : Int) P.book.length = (headOf (P.shards.getD q shd0)).1) := fun q hq h => sizeIn_row hok (by rw [← hok.len]; exact hq) h
  obtain ⟨g0, g1, -, -⟩ := box_two x3
  clear HP hF hF3 hPl hSh hCh hHe
  go_wp2_with fail
  generalize (w2.alloc (.cells #[.slice sa P.shards.length sc, .slice ka P.book.length kc] 28)).alloc (.cells #[.int .i64 0, .int .i64 F2] 32) = w3 at *
  have HSE : Hid ((showL P k i).2 = if k < 0 ∨ (P.shards.length : Int) ≤ k then 6 else if (P.shards.getD k.toNat shd0).state = 1 then 8 else if i < 0 ∨ (headOf (P.shards.getD k.toNat shd0)).1 ≤ i then 6 else 0) := hse
  clear hse
  generalize showL P k i = Z at *
  obtain ⟨S, ze⟩ := Z
  dsimp only at cS HSE
  refine cS.mono ?_
  rintro e w4 ⟨sv, rfl, hV, hb4⟩
  obtain ⟨ea, ec, pa, pc, ra, rc, ba, bc, ha, hc, rfl, -, -, -, -, -⟩ := hV.form
  have d5 : Below w4.heap.size w4 (w4.alloc (.cells #[.slice ea S.entry.length ec, .int .i64 S.place, .int .i64 S.shard, .slice pa S.path.length pc, .int .i64 S.rcd.shard, .int .i64 S.rcd.from', .int .i64 S.rcd.to', .int .i64 S.rcd.size, .slice ra S.rcd.root.length rc, .int .i64 S.row, .slice ba S.bookPath.length bc, .int .i64 S.hsize, .slice ha S.hroot.length hc] 46)) := (Below.refl _ _).alloc (Nat.le_refl _) _
  have c5 := hb4.trans (d5.mono hb4.size)
  have b5 := b3.trans (c5.mono b3.size)
  have x5 := box_kept x3 c5
  have hS5 := hS3.below c5
  have hB5 := hB3.below c5
  clear cS g0 g1 hV hb4 d5 c5 x3 hS3 hB3 b3 f0 f1
  obtain ⟨g0, g1, -, -⟩ := box_two x5
  by_cases h1 : k < 0
  · obtain rfl : ze = 6 := by rw [HSE.out, if_pos (.inl h1)]
    clear HSE HN hS5 hB5
    go_wp2_with fail
    go_ret
    exact ⟨rfl, b5⟩
  by_cases h2 : (P.shards.length : Int) ≤ k
  · obtain rfl : ze = 6 := by rw [HSE.out, if_pos (.inr h2)]
    clear HSE HN hS5 hB5
    go_wp2_with fail
    go_ret
    exact ⟨rfl, b5⟩
  obtain ⟨q, rfl⟩ := Int.eq_ofNat_of_zero_le (show 0 ≤ k by omega)
  have hq : q < P.shards.length := by omega
  obtain ⟨sb, so, rfl, hsb, hcell⟩ := hS5.get rfl hq
  have hst := hcell.state
  have hpm : P.shards.length ≤ maxLen := by obtain ⟨_, _, e, g2, g3, -⟩ := hS5; cases e; omega
  unfold maxLen at hpm
  have hqi : (q : Int) < P.shards.length := by omega
  have HSE2 : Hid (ze = if (P.shards.getD q shd0).state = 1 then 8 else if i < 0 ∨ (headOf (P.shards.getD q shd0)).1 ≤ i then 6 else 0) := by
    show _ = _
    have := HSE.out
    rw [if_neg (by omega), Int.toNat_natCast] at this
    exact this
  have HN2 := HN q
  clear HSE HN hcell hS5
  by_cases h3 : (P.shards.getD q shd0).state = 1
  · obtain rfl : ze = 8 := by rw [HSE2.out, if_pos h3]
    rw [h3] at hst
    clear HSE2 HN2 hB5
    go_wp2_with fail
    go_ret
    exact ⟨rfl, b5⟩
  have hst' : ((P.shards.getD q shd0).state == 1) = false := by simpa using h3
  have HZ : Hid (ze = if i < 0 ∨ sizeIn P.book (q : Int) P.book.length ≤ i then 6 else 0) := by
    show _ = _
    rw [HN2 hq h3, HSE2.out, if_neg h3]
  obtain ⟨bb, bo, hbk⟩ : ∃ bn bm : Nat, RecsAt _ (.slice ka P.book.length kc) P.book := ⟨0, 0, hB5⟩
  clear HSE2 HN2 hB5
  generalize (P.shards.getD q shd0).state = sst at *
  go_wp2_with fail
  generalize w4.alloc _ = w5 at *
  clear g0 g1 hst
  obtain ⟨ka', kc', eB, hB1, hB2, -, hBc⟩ := hbk
  cases eB
  unfold maxLen at hB2
  go_loopw [14, 61] (fun nv kv wr => ∃ j : Nat, j ≤ P.book.length ∧ kv = .int .i64 j ∧ nv = .int .i64 (sizeIn P.book (q : Int) j) ∧ Below w5.heap.size w5 wr) (fun _ kv _ => P.book.length - (intOf kv).toNat)
  case atStart => exact ⟨0, Nat.zero_le _, rfl, rfl, Below.refl _ _⟩
  case round =>
    obtain ⟨wo, rfl⟩ : ∃ x, x = wr := ⟨wr, rfl⟩
    obtain ⟨j, hj, rfl, rfl, hbr⟩ := hrel
    have hsr := hbr.size
    have hbw := b5.trans (hbr.mono b5.size)
    by_cases hlt : j < P.book.length
    · have hlt' : (j : Int) < P.book.length := by omega
      obtain ⟨g, o, rfl, hg, hcs⟩ := hBc.resolve_left (by omega)
      obtain ⟨d0, d1, d2, d3, qa, qc, d4, -⟩ := (hcs j hlt).below hg hbr
      have HSI : Hid (sizeIn P.book (q : Int) (j + 1) = if (P.book.getD j rec0).shard = (q : Int) then (P.book.getD j rec0).size else sizeIn P.book (q : Int) j) := rfl
      clear hcs hBc
      generalize P.book.getD j rec0 = R at *
      have b6 : Below w5.heap.size w5 (wo.alloc (.cells #[.int .i64 R.shard, .int .i64 R.from', .int .i64 R.to', .int .i64 R.size, .slice qa R.root.length qc] 44)) := hbr.alloc hsr _
      obtain ⟨t0, t1, t2, t3, t4⟩ := box_five (box_new wo #[.int .i64 R.shard, .int .i64 R.from', .int .i64 R.to', .int .i64 R.size, .slice qa R.root.length qc] 44)
      generalize R.root.length = rn at *
      by_cases he : R.shard = (q : Int)
      · have HE : Hid (sizeIn P.book (q : Int) (j + 1) = R.size) := by show _ = _; rw [HSI.out, if_pos he]
        rw [he] at d0 t0 b6 t1 t2 t3 t4
        have hqq : ((q : Int) == q) = true := by simp
        clear HSI
        go_wp2_with fail
        go_roundw
        case rel => exact ⟨j + 1, by omega, by go_num, by rw [HE.out], b6⟩
        case measure => simp [intOf]; omega
      · have HE : Hid (sizeIn P.book (q : Int) (j + 1) = sizeIn P.book (q : Int) j) := by show _ = _; rw [HSI.out, if_neg he]
        have he' : (R.shard == (q : Int)) = false := by simpa using he
        clear HSI
        go_wp2_with fail
        go_roundw
        case rel => exact ⟨j + 1, by omega, by go_num, by rw [HE.out], b6⟩
        case measure => simp [intOf]; omega
    · obtain rfl : j = P.book.length := by omega
      have hnl : ¬ (P.book.length : Int) < P.book.length := by omega
      clear hBc
      generalize sizeIn P.book (q : Int) P.book.length = N at *
      by_cases hi : i < 0 ∨ N ≤ i
      · obtain rfl : ze = 6 := by rw [HZ.out, if_pos hi]
        by_cases hi0 : i < 0
        · have hi0' : ¬ 0 ≤ i := by omega
          clear HZ hi
          go_wp2_with fail
          go_ret
          exact ⟨rfl, hbw⟩
        · have hi0' : 0 ≤ i := by omega
          have hi1 : ¬ i < N := by omega
          clear HZ hi
          go_wp2_with fail
          go_ret
          exact ⟨rfl, hbw⟩
      · obtain rfl : ze = 0 := by rw [HZ.out, if_neg hi]
        have hi0' : 0 ≤ i := by omega
        have hi1 : i < N := by omega
        clear HZ hi
        go_wp2_with fail
        go_ret
        exact ⟨rfl, hbw⟩

end Go.Proofs.YtkjlchfmplcobagGreatDoor

/- Things that are done, as rows of a call's own. -/
namespace Go.Proofs.YtkjlchfmplcobagGreatDoor
open Go.RowKit

theorem own7_form {w : World} {base : Nat} {e : TypeId} {v : Value} {n : Nat} {xs : List Value} (h : w.ownsRow base e 7 v n xs) : ∃ a c, v = .slice a n c := by
  rcases h.2 with ⟨hv, rfl⟩ | ⟨g, cap, cur, hv, -⟩
  · exact ⟨none, 0, hv⟩
  · exact ⟨_, cap, hv⟩
theorem own7_block {w : World} {base : Nat} {e : TypeId} {v : Value} {n : Nat} {xs : List Value} (h : w.ownsRow base e 7 v n xs) {q : Nat} (hq : v.ownBlock = some q) : base ≤ q := by
  rcases h.2 with ⟨e, -⟩ | ⟨g, cap, cur, e, hg, -⟩
  · rw [e] at hq; cases hq
  · rw [e] at hq; cases hq; exact hg
/-- The values of one thing that is done. -/
def ddV (x : Dd) (pa : Option Addr) (pc : Nat) : List Value := [.int .i64 x.kind, .int .i64 x.n, .int .i64 x.time, .slice pa x.entry.length pc, .int .i64 x.segment, .int .i64 x.at', .int .u8 x.by']
/-- The values of several, whose entries lie in the world w. -/
def DoEls (w : World) (vs : List Value) (l : List Dd) : Prop :=
  vs.length = l.length * 7 ∧ ∀ j, j < l.length → ∃ pa pc, Some' w (.slice pa (l.getD j dd0).entry.length pc) (l.getD j dd0).entry ∧ DdFit (l.getD j dd0) ∧ ∀ i, i < 7 → vs[j * 7 + i]? = (ddV (l.getD j dd0) pa pc)[i]?
theorem DoEls.snoc {w : World} {vs : List Value} {l : List Dd} {x : Dd} {pa : Option Addr} {pc : Nat} (h : DoEls w vs l) (hx : Some' w (.slice pa x.entry.length pc) x.entry) (hb : DdFit x) : DoEls w (vs ++ ddV x pa pc) (l ++ [x]) := by
  obtain ⟨hl, h⟩ := h
  refine ⟨by rw [List.length_append, List.length_append, hl]; show l.length * 7 + 7 = (l.length + 1) * 7; omega, fun j hj => ?_⟩
  by_cases e : j < l.length
  · obtain ⟨qa, qc, h1, h2, h3⟩ := h j e
    have eg : (l ++ [x]).getD j dd0 = l.getD j dd0 := by rw [snoc_get, if_pos e]
    rw [eg]
    refine ⟨qa, qc, h1, h2, fun i hi => ?_⟩
    rw [List.getElem?_append_left (by omega)]
    exact h3 i hi
  · obtain rfl : j = l.length := by simp at hj; omega
    have eg : (l ++ [x]).getD l.length dd0 = x := by rw [snoc_get, if_neg (Nat.lt_irrefl _), if_pos rfl]
    rw [eg]
    refine ⟨pa, pc, hx, hb, fun i hi => ?_⟩
    rw [List.getElem?_append_right (by omega), hl, show l.length * 7 + i - l.length * 7 = i by omega]
end Go.Proofs.YtkjlchfmplcobagGreatDoor

/- Segments as rows of a call's own; parts of lists. -/
namespace Go.Proofs.YtkjlchfmplcobagGreatDoor
open Go.RowKit

theorem Tryz.info111b : (Tryz.prog.info? 111).map (fun i => (i.zero, i.size, i.bytes)) = some (some (.agg #[.int .i64 0, .int .i64 0, .slice none 0 0]), 3, 40) := by kernel_rfl
theorem Lists.part {w : World} {b off n c i m : Nat} {L : List (List Int)} (h : Lists w (some ⟨b, off, none⟩) n c L) (hi : i + m ≤ n) (hm : 1 ≤ m) : Lists w (some ⟨b, off + i, none⟩) m (c - i) ((L.drop i).take m) := by
  have hl := h.len
  have hr := h.room
  have hc := h.cap
  have hd := h.at'.drop (k := i) hl (by omega) (by omega) (c - i)
  refine ⟨by rw [List.length_take, List.length_drop]; omega, hd.take (by rw [List.length_drop]; omega) (by omega) (by omega) _, by omega, by omega, fun e => (by cases e), ?_, ?_⟩
  · refine take_bytes (fun j => ?_) m
    rw [List.getD_eq_getElem?_getD, List.getElem?_drop, ← List.getD_eq_getElem?_getD]; exact h.bytes _
  · refine take_short (fun j => ?_) m
    rw [List.getD_eq_getElem?_getD, List.getElem?_drop, ← List.getD_eq_getElem?_getD]; exact h.short _
theorem own3_below {w w' : World} {base : Nat} {e : TypeId} {v : Value} {n N : Nat} {xs : List Value} (h : w.ownsRow base e 3 v n xs) (hb : Below N w w') (hN : w.heap.size ≤ N) : w'.ownsRow base e 3 v n xs :=
  h.kept (w' := w') (row := none) ⟨hb.os, hb.tape, hb.output, hb.size, fun k hk _ => hb.block k (Nat.lt_of_lt_of_le hk hN)⟩ (by cases v.ownBlock <;> simp)
theorem own_ne3 {w : World} {base b2 : Nat} {e1 e2 : TypeId} {v1 v2 : Value} {n1 n2 : Nat} {xs1 xs2 : List Value} (h1 : w.ownsRow base e1 1 v1 n1 xs1) (h2 : w.ownsRow b2 e2 3 v2 n2 xs2) (hne : e1 ≠ e2) : Sep v1 v2 := fun g hg1 hg2 => by
  rcases h1.2 with ⟨rfl, -⟩ | ⟨g1, c1, cur1, rfl, -, hh1, -⟩
  · cases hg1
  rcases h2.2 with ⟨rfl, -⟩ | ⟨g2, c2, cur2, rfl, -, hh2, -⟩
  · cases hg2
  cases hg1
  cases hg2
  rw [hh1] at hh2
  cases hh2
  exact hne rfl
/-- The values of segments, each with bytes of the call's own. -/
def SegEls (w : World) (base : Nat) (vs : List Value) (l : List Seg) : Prop :=
  vs.length = l.length * 3 ∧ ∀ j, j < l.length → vs[j * 3]? = some (.int .i64 (l.getD j seg0).first) ∧ vs[j * 3 + 1]? = some (.int .i64 (l.getD j seg0).count) ∧
    ∃ y, vs[j * 3 + 2]? = some y ∧ w.ownsRow base 5 1 y (l.getD j seg0).packed.length ((l.getD j seg0).packed.map (Value.int .u8))
theorem SegEls.kept {w w' : World} {base b2 : Nat} {vs : List Value} {l : List Seg} {v : Value} {n : Nat} {xs : List Value} (h : SegEls w base vs l) (hr : w.ownsRow b2 111 3 v n xs) (hg : w.grownBy w' v.ownBlock) : SegEls w' base vs l :=
  ⟨h.1, fun j hj => by
    obtain ⟨h0, h1, y, h2, h3⟩ := h.2 j hj
    exact ⟨h0, h1, y, h2, h3.kept hg (own_ne3 h3 hr (by decide)).or⟩⟩
theorem SegEls.alloc {w : World} {base : Nat} {vs : List Value} {l : List Seg} (h : SegEls w base vs l) (o : Obj) : SegEls (w.alloc o) base vs l :=
  ⟨h.1, fun j hj => by
    obtain ⟨h0, h1, y, h2, h3⟩ := h.2 j hj
    exact ⟨h0, h1, y, h2, h3.alloc o⟩⟩
theorem SegEls.below {w w' : World} {base N : Nat} {vs : List Value} {l : List Seg} (h : SegEls w base vs l) (hb : Below N w w') (hN : w.heap.size ≤ N) : SegEls w' base vs l :=
  ⟨h.1, fun j hj => by
    obtain ⟨h0, h1, y, h2, h3⟩ := h.2 j hj
    exact ⟨h0, h1, y, h2, own_below h3 hb hN⟩⟩
theorem SegEls.snoc {w : World} {base : Nat} {vs : List Value} {l : List Seg} {s : Seg} {y : Value} (h : SegEls w base vs l) (hy : w.ownsRow base 5 1 y s.packed.length (s.packed.map (Value.int .u8))) : SegEls w base (vs ++ [.int .i64 s.first, .int .i64 s.count, y]) (l ++ [s]) := by
  obtain ⟨hl, h⟩ := h
  refine ⟨by simp; omega, fun j hj => ?_⟩
  by_cases e : j < l.length
  · obtain ⟨h0, h1, z, h2, h3⟩ := h j e
    have eg : (l ++ [s]).getD j seg0 = l.getD j seg0 := by rw [List.getD_eq_getElem?_getD, List.getElem?_append_left e, ← List.getD_eq_getElem?_getD]
    rw [eg, List.getElem?_append_left (by omega), List.getElem?_append_left (by omega), List.getElem?_append_left (by omega)]
    exact ⟨h0, h1, z, h2, h3⟩
  · obtain rfl : j = l.length := by simp at hj; omega
    have eg : (l ++ [s]).getD l.length seg0 = s := by rw [List.getD_eq_getElem?_getD, List.getElem?_append_right (Nat.le_refl _), Nat.sub_self]; rfl
    rw [eg, List.getElem?_append_right (by omega), List.getElem?_append_right (by omega), List.getElem?_append_right (by omega), hl, Nat.sub_self, show l.length * 3 + 1 - l.length * 3 = 1 by omega, show l.length * 3 + 2 - l.length * 3 = 2 by omega]
    exact ⟨rfl, rfl, y, rfl, hy⟩
theorem segEls_nil (w : World) (base : Nat) : SegEls w base [] [] := ⟨rfl, fun _ hj => absurd hj (Nat.not_lt_zero _)⟩
/-- Segments, all of them the call's own. -/
def OwnSegs (w : World) (base : Nat) (v : Value) (l : List Seg) : Prop := ∃ vs, w.ownsRow base 111 3 v l.length vs ∧ SegEls w base vs l
theorem OwnSegs.below {w w' : World} {base N : Nat} {v : Value} {l : List Seg} (h : OwnSegs w base v l) (hb : Below N w w') (hN : w.heap.size ≤ N) : OwnSegs w' base v l := by
  obtain ⟨vs, h1, h2⟩ := h
  exact ⟨vs, own3_below h1 hb hN, h2.below hb hN⟩
theorem OwnSegs.set {w : World} {base k o : Nat} {v : Value} {l : List Seg} (h : OwnSegs w base v l) (hk : k < base) (u : Value) : OwnSegs (w.setCell ⟨k, o, none⟩ u) base v l := by
  obtain ⟨vs, h1, h2, h3⟩ := h
  refine ⟨vs, ownsRow_setCell_below h1 (a := ⟨k, o, none⟩) hk u, h2, fun j hj => ?_⟩
  obtain ⟨g0, g1, y, g2, g3⟩ := h3 j hj
  exact ⟨g0, g1, y, g2, ownsRow_setCell_below g3 (a := ⟨k, o, none⟩) hk u⟩
theorem OwnSegs.segs {w : World} {base : Nat} {v : Value} {l : List Seg} (h : OwnSegs w base v l) (hby : SegsBytes l) : SegsAt w v l := by
  obtain ⟨vs, h1, -, h2⟩ := h
  rcases h1.2 with ⟨hv, hn⟩ | ⟨g, cap, cur, rfl, -, hg, h3, h4, -⟩
  · exact ⟨none, 0, by rw [hv, hn], by omega, Nat.zero_le _, fun _ => rfl, .inl hn⟩
  · refine ⟨_, cap, rfl, h3, h4, (fun e => by cases e), .inr ⟨g, 0, rfl, lt_heap hg, fun j hj => ?_⟩⟩
    obtain ⟨g0, g1, y, g2, g3⟩ := h2 j hj
    rw [Nat.zero_add]
    refine ⟨(h1.cellAt (j * 3) (by omega)).trans g0, (h1.cellAt (j * 3 + 1) (by omega)).trans g1, ?_⟩
    obtain ⟨pa, pc, rfl, q1, q2⟩ := own_cap g3
    exact ⟨pa, pc, (h1.cellAt (j * 3 + 2) (by omega)).trans g2, ⟨bytesAt_own g3, hby j, by omega⟩, q1, q2⟩
/-- Each segment's bytes lie in a later block than those of the one ahead. -/
def RiseV (vs : List Value) (m : Nat) : Prop := ∀ i j, i < j → j < m → ∀ y z g h, vs[i * 3 + 2]? = some y → vs[j * 3 + 2]? = some z → y.ownBlock = some g → z.ownBlock = some h → g < h
theorem riseV_nil : RiseV [] 0 := fun _ _ _ h => absurd h (Nat.not_lt_zero _)
theorem RiseV.snoc {w : World} {base m : Nat} {vs : List Value} {l : List Seg} {a b y : Value} (h : RiseV vs m) (he : SegEls w base vs l) (hm : l.length = m) (hy : ∀ g, y.ownBlock = some g → w.heap.size ≤ g) : RiseV (vs ++ [a, b, y]) (m + 1) := fun i j hij hj u z g q hu hz hg hq => by
  have hl : vs.length = m * 3 := by rw [← hm]; exact he.1
  rw [List.getElem?_append_left (by omega)] at hu
  by_cases e : j < m
  · rw [List.getElem?_append_left (by omega)] at hz
    exact h i j hij e u z g q hu hz hg hq
  · obtain rfl : j = m := by omega
    rw [List.getElem?_append_right (by omega), hl, show j * 3 + 2 - j * 3 = 2 by omega] at hz
    cases hz
    obtain ⟨-, -, x, h1, h2⟩ := he.2 i (by omega)
    rw [hu] at h1
    cases h1
    have := (h2.lt g hg).2
    have := hy q hq
    omega
theorem lit_seg (w : World) (x y : Int) (pv : Value) (t : TypeId) : ∀ (j : Nat) (u : Value), [Value.int .i64 x, .int .i64 y, pv][j]? = some u → (w.alloc (.cells #[.int .i64 x, .int .i64 y, pv] t)).cell? ((⟨w.heap.size, 0, none⟩ : Addr).add j) = some u := fun j u hj => by
  have hadd : (⟨w.heap.size, 0, none⟩ : Addr).add j = ⟨w.heap.size, 0 + j, none⟩ := Addr.add_mid _ _ _
  rw [hadd, Nat.zero_add]
  match j, hj with
  | 0, hj => rw [new_cell w t _ 0 (by simp)]; simpa using hj
  | 1, hj => rw [new_cell w t _ 1 (by simp)]; simpa using hj
  | 2, hj => rw [new_cell w t _ 2 (by simp)]; simpa using hj
  | j + 3, hj => simp at hj
theorem segK_bytes {L : List (List Int)} (hb : ∀ j, Bytes (L.getD j [])) (h : ∀ e ∈ L, e.length ≤ 200) (k : Nat) : Bytes (segK L k).packed := by
  refine pack_bytes ?_ (lay_part h k)
  refine bytes_of_mem (fun x hx => ?_)
  unfold layL at hx
  obtain ⟨e, he, hx⟩ := List.mem_flatMap.1 hx
  have h200 := short_part h k e he
  rcases List.mem_cons.1 hx with rfl | hx
  · omega
  · obtain ⟨j, hj, rfl⟩ := List.mem_iff_getElem.1 (List.mem_of_mem_drop (List.mem_of_mem_take he))
    have := hb j
    rw [List.getD_eq_getElem?_getD, List.getElem?_eq_getElem hj] at this
    exact bytes_forall this x hx
theorem segsL_bytes {L : List (List Int)} (hb : ∀ j, Bytes (L.getD j [])) (h : ∀ e ∈ L, e.length ≤ 200) : SegsBytes (segsL L) := fun j => by
  by_cases hj : j < (L.length + 7) / 8
  · unfold segsL; rw [segsN_get _ _ _ hj]; exact segK_bytes hb h j
  · rw [List.getD_eq_getElem?_getD, List.getElem?_eq_none (by unfold segsL; rw [segsN_length]; omega)]; exact nil_bytes
/-- The text of a part. -/
theorem lay_bytes {l : List (List Int)} (hb : ∀ j, Bytes (l.getD j [])) (h : ∀ j, (l.getD j []).length ≤ 200) : Bytes (layL l) := by
  refine bytes_of_mem (fun x hx => ?_)
  unfold layL at hx
  obtain ⟨e, he, hx⟩ := List.mem_flatMap.1 hx
  obtain ⟨j, hj, rfl⟩ := List.mem_iff_getElem.1 he
  have h1 := hb j
  have h2 := h j
  rw [List.getD_eq_getElem?_getD, List.getElem?_eq_getElem hj] at h1 h2
  rcases List.mem_cons.1 hx with rfl | hx
  · simp at h2; omega
  · exact bytes_forall h1 x hx

end Go.Proofs.YtkjlchfmplcobagGreatDoor
