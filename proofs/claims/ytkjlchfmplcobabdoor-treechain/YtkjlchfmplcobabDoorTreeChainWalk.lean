/- The walk of the law TreeChain, over package tree's faces. -/
import Derived.Test.YtkjlchfmplcobabDoorProg
import Derived.Test.YtkjlchfmplcobabDoorTreeFaceGrows
import Derived.Test.YtkjlchfmplcobabDoorTreeAlive
import Derived.WalkKit
import Derived.WalkSpells
import Derived.WalkLawsBesides
namespace Go.Proofs.YtkjlchfmplcobabDoor
open Go.RowKit

/-- A head as it lies in the array of three. -/
def HeadIs (gh : Nat) (L : List (List Int)) (wr : World) (j N : Nat) : Prop :=
  ∃ ra rc, wr.cell? ⟨gh, j * 2, none⟩ = some (.int .i64 N) ∧ wr.cell? ⟨gh, j * 2 + 1, none⟩ = some (.slice ra 32 rc) ∧ wr.ownsRow (gh + 1) 5 1 (.slice ra 32 rc) 32 ((mth (L.take N)).map (Value.int .u8))
def nth3 (A B n j : Nat) : Nat := if j = 0 then A else if j = 1 then B else n
/-- The first k heads are laid. -/
structure Chain (gh : Nat) (L : List (List Int)) (A B n : Nat) (w wr : World) (k : Nat) : Prop where
  i0 : wr.cell? ⟨gh + 1, 0, none⟩ = some (.int .i64 A)
  i1 : wr.cell? ⟨gh + 1, 1, none⟩ = some (.int .i64 B)
  i2 : wr.cell? ⟨gh + 1, 2, none⟩ = some (.int .i64 n)
  old : ∀ j, j < 6 → (∃ v, wr.cell? ⟨gh, j, none⟩ = some v) ∧ wr.frozen? ⟨gh, j, none⟩ = false
  size : gh + 1 < wr.heap.size
  heads : ∀ j, j < k → HeadIs gh L wr j (nth3 A B n j)
  below : Below w.heap.size w wr
theorem HeadIs.below {gh : Nat} {L : List (List Int)} {wr w' : World} {j N : Nat} (h : HeadIs gh L wr j N) (hs : gh < wr.heap.size) (hb : Below wr.heap.size wr w') : HeadIs gh L w' j N := by
  obtain ⟨ra, rc, h1, h2, h3⟩ := h
  exact ⟨ra, rc, (hb.cell (p := ⟨gh, j * 2, none⟩) hs).trans h1, (hb.cell (p := ⟨gh, j * 2 + 1, none⟩) hs).trans h2, own_below h3 hb (Nat.le_refl _)⟩
theorem Chain.grow {gh : Nat} {L : List (List Int)} {A B n : Nat} {w wr w' : World} {k : Nat} (h : Chain gh L A B n w wr k) (hb : Below wr.heap.size wr w') : Chain gh L A B n w w' k :=
  have hs := h.size
  ⟨(hb.cell (p := ⟨gh + 1, 0, none⟩) hs).trans h.i0, (hb.cell (p := ⟨gh + 1, 1, none⟩) hs).trans h.i1, (hb.cell (p := ⟨gh + 1, 2, none⟩) hs).trans h.i2,
    fun j hj => ⟨by obtain ⟨v, hv⟩ := (h.old j hj).1; exact ⟨v, (hb.cell (p := ⟨gh, j, none⟩) (by show gh < _; omega)).trans hv⟩, (hb.frozen (p := ⟨gh, j, none⟩) (by show gh < _; omega)).trans (h.old j hj).2⟩,
    Nat.lt_of_lt_of_le hs hb.size, fun j hj => (h.heads j hj).below (by omega) hb, h.below.trans (hb.mono h.below.size)⟩
theorem Chain.store {gh : Nat} {L : List (List Int)} {A B n : Nat} {w wr : World} {k N : Nat} {ra : Option Addr} {rc : Nat} (h : Chain gh L A B n w wr k) (hk : k < 3) (hN : nth3 A B n k = N) (hw : w.heap.size ≤ gh)
    (hr : wr.ownsRow (gh + 1) 5 1 (.slice ra 32 rc) 32 ((mth (L.take N)).map (Value.int .u8))) :
    Chain gh L A B n w ((wr.setCell ⟨gh, k * 2, none⟩ (.int .i64 N)).setCell ⟨gh, k * 2 + 1, none⟩ (.slice ra 32 rc)) (k + 1) := by
  have hs := h.size
  have gS : wr.grownBy ((wr.setCell ⟨gh, k * 2, none⟩ (.int .i64 N)).setCell ⟨gh, k * 2 + 1, none⟩ (.slice ra 32 rc)) (some gh) := grownBy_setCell (grownBy_setCell (World.grownBy.refl _ _) _ _) _ _
  have far : ∀ {x : Value} {m : Nat} {xs : List Value}, wr.ownsRow (gh + 1) 5 1 x m xs → ((wr.setCell ⟨gh, k * 2, none⟩ (.int .i64 N)).setCell ⟨gh, k * 2 + 1, none⟩ (.slice ra 32 rc)).ownsRow (gh + 1) 5 1 x m xs := fun {x m xs} ho => ho.kept gS (by
    cases hq : x.ownBlock with
    | none => exact .inl rfl
    | some q => right; intro e; have := own_block ho hq; cases e; omega)
  have other : ∀ j, j ≠ k * 2 → j ≠ k * 2 + 1 → ((wr.setCell ⟨gh, k * 2, none⟩ (.int .i64 N)).setCell ⟨gh, k * 2 + 1, none⟩ (.slice ra 32 rc)).cell? ⟨gh, j, none⟩ = wr.cell? ⟨gh, j, none⟩ := fun j h1 h2 => by
    rw [World.cell?_setCell_other _ _ _ _ (by intro e; injection e; omega), World.cell?_setCell_other _ _ _ _ (by intro e; injection e; omega)]
  obtain ⟨⟨va, hva⟩, -⟩ := h.old (k * 2) (by omega)
  obtain ⟨⟨vb, hvb⟩, -⟩ := h.old (k * 2 + 1) (by omega)
  have c0 : ((wr.setCell ⟨gh, k * 2, none⟩ (.int .i64 N)).setCell ⟨gh, k * 2 + 1, none⟩ (.slice ra 32 rc)).cell? ⟨gh, k * 2, none⟩ = some (.int .i64 N) := by
    rw [World.cell?_setCell_other _ _ _ _ (by intro e; injection e; omega)]; exact World.cell?_setCell_same _ _ _ hva
  have c1 : ((wr.setCell ⟨gh, k * 2, none⟩ (.int .i64 N)).setCell ⟨gh, k * 2 + 1, none⟩ (.slice ra 32 rc)).cell? ⟨gh, k * 2 + 1, none⟩ = some (.slice ra 32 rc) :=
    World.cell?_setCell_same _ _ _ (by rw [World.cell?_setCell_other _ _ _ _ (by intro e; injection e; omega)]; exact hvb)
  have fi : ∀ q, ((wr.setCell ⟨gh, k * 2, none⟩ (.int .i64 N)).setCell ⟨gh, k * 2 + 1, none⟩ (.slice ra 32 rc)).cell? ⟨gh + 1, q, none⟩ = wr.cell? ⟨gh + 1, q, none⟩ := fun q =>
    (World.cell?_setCell_far _ _ _ _ (by show gh ≠ gh + 1; omega)).trans (World.cell?_setCell_far _ _ _ _ (by show gh ≠ gh + 1; omega))
  refine ⟨(fi 0).trans h.i0, (fi 1).trans h.i1, (fi 2).trans h.i2, fun j hj => ⟨?_, by rw [World.frozen?_setCell, World.frozen?_setCell]; exact (h.old j hj).2⟩, Nat.lt_of_lt_of_le hs gS.size, fun j hj => ?_, (h.below.setCell hw _).setCell hw _⟩
  · by_cases e0 : j = k * 2
    · subst e0; exact ⟨_, c0⟩
    · by_cases e1 : j = k * 2 + 1
      · subst e1; exact ⟨_, c1⟩
      · obtain ⟨v, hv⟩ := (h.old j hj).1; exact ⟨v, (other j e0 e1).trans hv⟩
  · by_cases e : j = k
    · subst e
      rw [hN]
      exact ⟨ra, rc, c0, c1, far hr⟩
    · obtain ⟨qa, qc, h1, h2, h3⟩ := h.heads j (by omega)
      exact ⟨qa, qc, (other _ (by omega) (by omega)).trans h1, (other _ (by omega) (by omega)).trans h2, far h3⟩
theorem chain_start (L : List (List Int)) (A B n : Nat) (w w2 : World) (hb : Below w.heap.size w w2) : Chain w2.heap.size L A B n w ((w2.alloc (.cells #[.int .i64 0, .slice none 0 0, .int .i64 0, .slice none 0 0, .int .i64 0, .slice none 0 0] 48)).alloc (.cells #[.int .i64 A, .int .i64 B, .int .i64 n] 3)) 0 := by
  have z : (w2.alloc (.cells #[.int .i64 0, .slice none 0 0, .int .i64 0, .slice none 0 0, .int .i64 0, .slice none 0 0] 48)).heap.size = w2.heap.size + 1 := by simp
  have n0 := new_cell (w2.alloc (.cells #[.int .i64 0, .slice none 0 0, .int .i64 0, .slice none 0 0, .int .i64 0, .slice none 0 0] 48)) 3 #[.int .i64 A, .int .i64 B, .int .i64 n] 0 (by simp)
  have n1 := new_cell (w2.alloc (.cells #[.int .i64 0, .slice none 0 0, .int .i64 0, .slice none 0 0, .int .i64 0, .slice none 0 0] 48)) 3 #[.int .i64 A, .int .i64 B, .int .i64 n] 1 (by simp)
  have n2 := new_cell (w2.alloc (.cells #[.int .i64 0, .slice none 0 0, .int .i64 0, .slice none 0 0, .int .i64 0, .slice none 0 0] 48)) 3 #[.int .i64 A, .int .i64 B, .int .i64 n] 2 (by simp)
  rw [z] at n0 n1 n2
  have b3 : Below w2.heap.size w2 ((w2.alloc (.cells #[.int .i64 0, .slice none 0 0, .int .i64 0, .slice none 0 0, .int .i64 0, .slice none 0 0] 48)).alloc (.cells #[.int .i64 A, .int .i64 B, .int .i64 n] 3)) := ((Below.refl _ _).alloc (Nat.le_refl _) _).alloc (by simp) _
  refine ⟨n0, n1, n2, fun j hj => ⟨⟨_, (old_cell _ _ _ _ (by simp)).trans (new_cell _ _ _ j (by simpa using hj))⟩, ?_⟩, by simp, fun j hj => absurd hj (Nat.not_lt_zero _), hb.trans (b3.mono hb.size)⟩
  simp

set_option maxRecDepth 100000 in
set_option maxHeartbeats 4000000 in
theorem chain2_any (hRoot : RootC) (hPath : PathC) (hStands : StandsC) (hWrong : WrongC) (hGrows : GrowsC) (hGrew : GrewC) (L : List (List Int)) (x y : Int) (a : Option Addr) (n c : Nat) (w : World) (hR : Ready w) (hL : Lists w a n c L) :
    Calls Tryd.prog 7 #[.slice a n c, .int .i64 x, .int .i64 y] w fun e w' => e = .returned (.bool true) ∧ Below w.heap.size w w' := by
  have hcap := hL.cap
  have hroom := hL.room
  unfold maxLen at hcap
  have hfd : ∀ (W : World) (p q : Int), (Instr.field 27 (.agg #[.int .i64 p, .int .i64 q]) 0).run Tryd.prog W = .ok (.int .i64 p) W := fun _ _ _ => by kernel_rfl
  go_enter Tryd.func7, Tryd.ntmps7
  go_wp2_with fail
  refine (alive2_any hRoot hPath hStands _ hR).mono ?_
  rintro e w1 ⟨rfl, b1⟩
  go_wp2_with fail
  have cW := hWrong L a n c _ (hL.below b1)
  have HOK : Hid ((wrongL L).1 = 0 → L.length ≤ 100 ∧ ∀ j, (L.getD j []).length ≤ 200) := wrong_ok
  generalize wrongL L = F at cW HOK
  obtain ⟨F1, F2⟩ := F
  dsimp only [faultV] at cW HOK
  refine cW.mono ?_
  rintro e w2 ⟨rfl, hb2⟩
  have b2 := b1.trans (hb2.mono b1.size)
  by_cases hF : F1 ≠ 0
  · go_wp2_with fail
    go_ret
    exact ⟨rfl, b2⟩
  obtain rfl : F1 = 0 := by simpa using hF
  by_cases hx : x < 1
  · go_wp2_with fail
    go_ret
    exact ⟨rfl, b2⟩
  by_cases hyx : y < x
  · go_wp2_with fail
    go_ret
    exact ⟨rfl, b2⟩
  by_cases hyn : (n : Int) < y
  · go_wp2_with fail
    go_ret
    exact ⟨rfl, b2⟩
  obtain ⟨hL100, hL200⟩ := HOK.out rfl
  have HN : Hid (L.length = n) := hL.len
  have hn100 : n ≤ 100 := by have := hL.len; omega
  obtain ⟨A, rfl⟩ := Int.eq_ofNat_of_zero_le (show 0 ≤ x by omega)
  obtain ⟨B, rfl⟩ := Int.eq_ofNat_of_zero_le (show 0 ≤ y by omega)
  have sw2 := b2.size
  clear cW HOK hF hb2
  go_wp2_with fail
  have hC := chain_start L A B n w w2 b2
  obtain ⟨gh, hgh⟩ : ∃ gh, w2.heap.size = gh := ⟨_, rfl⟩
  rw [hgh] at hC sw2 ⊢
  clear hgh
  generalize ((w2.alloc (.cells #[.int .i64 0, .slice none 0 0, .int .i64 0, .slice none 0 0, .int .i64 0, .slice none 0 0] 48)).alloc (.cells #[.int .i64 A, .int .i64 B, .int .i64 n] 3)) = W at *
  have dA : decide ((A : Int) < 1) = false := by simp; omega
  have dB : decide (B < A) = false := by simp; omega
  have dn : decide (n < B) = false := by simp; omega
  simp only [dA, dB, dn, Bool.or_self]
  clear dA dB dn
  go_loopw [45] (fun i wr => ∃ k : Nat, k ≤ 3 ∧ i = .int .i64 k ∧ Chain gh L A B n w wr k) (fun i _ => 3 - (intOf i).toNat)
  case atStart => exact ⟨0, by omega, rfl, hC⟩
  case round =>
    clear hC
    obtain ⟨k, hk, rfl, hC⟩ := hrel
    by_cases hlt : k < 3
    · obtain ⟨N, hN, hN1, hNn, hcell⟩ : ∃ N, nth3 A B n k = N ∧ 1 ≤ N ∧ N ≤ n ∧ wr.cell? ⟨gh + 1, k, none⟩ = some (.int .i64 N) := by
        have h : k = 0 ∨ k = 1 ∨ k = 2 := by omega
        rcases h with rfl | rfl | rfl
        · exact ⟨A, rfl, by omega, by omega, hC.i0⟩
        · exact ⟨B, rfl, by omega, by omega, hC.i1⟩
        · exact ⟨n, rfl, by omega, by omega, hC.i2⟩
      have i1 : (k : Int) < 3 := by omega
      have i2 : (0 : Int) ≤ (k : Int) := by omega
      have i3 : (N : Int) ≤ (c : Int) := by omega
      have hCb := hC.below
      have cT := hRoot (L.take N) a N c wr (hR.below hCb) ((hL.below hCb).take (by omega) (by omega))
      rw [wrong_zero (by rw [List.length_take]; omega) (take_short hL200 N)] at cT
      dsimp only [faultV] at cT
      go_wp2_with fail
      refine cT.mono ?_
      rintro e w4 ⟨ra, rn, rc, rfl, hr, -, hb4⟩
      replace hr := hr (by trivial)
      obtain rfl : rn = 32 := own_len hr
      obtain ⟨c4, f0, -, -⟩ := box_cells w4 (.int .i64 0) (.int .i64 0) 27
      have b5 := hb4.trans (c4.mono hb4.size)
      have hC5 := hC.grow b5
      have hsz := hC.size
      have hr5 := (ownsRow_base hr (show gh + 1 ≤ wr.heap.size by omega)).alloc (.cells #[.int .i64 0, .int .i64 0] 27)
      have hCS := hC5.store hlt hN sw2 hr5
      obtain ⟨⟨va, o0⟩, z0⟩ := hC5.old (k * 2) (by omega)
      obtain ⟨⟨vb, o1⟩, z1⟩ := hC5.old (k * 2 + 1) (by omega)
      have HCS : Hid (Chain gh L A B n w (((w4.alloc (.cells #[.int .i64 0, .int .i64 0] 27)).setCell ⟨gh, k * 2, none⟩ (.int .i64 N)).setCell ⟨gh, k * 2 + 1, none⟩ (.slice ra 32 rc)) (k + 1)) := hCS
      clear hCS hr hr5 hC5 cT hb4 c4 b5 hC hCb hN hcell
      go_wp2_with fail
      go_roundw
      case rel => exact ⟨k + 1, by omega, by go_num, HCS.out⟩
      case measure => simp [intOf]; omega
    · obtain rfl : k = 3 := by omega
      obtain ⟨ra0, rc0, p0, p1, o0⟩ := hC.heads 0 (by omega)
      obtain ⟨ra1, rc1, p2, p3, o1⟩ := hC.heads 1 (by omega)
      obtain ⟨ra2, rc2, p4, p5, o2⟩ := hC.heads 2 (by omega)
      have hCb := hC.below
      have hsz := hC.size
      have hgh : gh < wr.heap.size := by omega
      rw [show nth3 A B n 0 = A from rfl] at p0 o0
      rw [show nth3 A B n 1 = B from rfl] at p2 o1
      rw [show nth3 A B n 2 = n from rfl] at p4 o2
      rw [show 0 * 2 = 0 from rfl] at p0
      rw [show 0 * 2 + 1 = 1 from rfl] at p1
      rw [show 1 * 2 = 2 from rfl] at p2
      rw [show 1 * 2 + 1 = 3 from rfl] at p3
      rw [show 2 * 2 = 4 from rfl] at p4
      rw [show 2 * 2 + 1 = 5 from rfl] at p5
      have mA := mth_length (L.take A)
      have mB := mth_length (L.take B)
      have mn := mth_length (L.take n)
      have s0 : Some' wr (.slice ra0 32 rc0) (mth (L.take A)) := ⟨bytesAt_own o0, bytes_mth _, by rw [mA]; unfold maxLen; omega⟩
      have s1 : Some' wr (.slice ra1 32 rc1) (mth (L.take B)) := ⟨bytesAt_own o1, bytes_mth _, by rw [mB]; unfold maxLen; omega⟩
      have s2 : Some' wr (.slice ra2 32 rc2) (mth (L.take n)) := ⟨bytesAt_own o2, bytes_mth _, by rw [mn]; unfold maxLen; omega⟩
      have htn : L.take n = L := List.take_of_length_le (by have := HN.out; omega)
      have hlB : (L.take B).length = B := by rw [List.length_take]; have := HN.out; omega
      have hgF : ∀ (K : List (List Int)) (m : Nat), (wrongL K).1 = 0 → 1 ≤ m → m ≤ K.length → growF K m = (0, 0) := fun K m h1 h2 h3 => by
        have hw : ¬ (wrongL K).1 ≠ 0 := by simpa using h1
        unfold growF; rw [if_neg hw, if_neg (by omega)]
      have hW : wrongL L = (0, 0) := wrong_zero hL100 hL200
      have hWB : wrongL (L.take B) = (0, 0) := wrong_zero (by omega) (take_short hL200 B)
      have cAB : ∀ w', Below w.heap.size w w' → _ := fun w' h => hGrows (L.take B) A a B c w' (hR.below h) ((hL.below h).take (by omega) (by omega))
      rw [hgF (L.take B) A (by rw [hWB]) (by omega) (by omega), Int.toNat_natCast] at cAB
      have cBn : ∀ w', Below w.heap.size w w' → _ := fun w' h => hGrows L B a n c w' (hR.below h) (hL.below h)
      rw [hgF L B (by rw [hW]) (by omega) (by have := HN.out; omega), Int.toNat_natCast] at cBn
      have cAn : ∀ w', Below w.heap.size w w' → _ := fun w' h => hGrows L A a n c w' (hR.below h) (hL.below h)
      rw [hgF L A (by rw [hW]) (by omega) (by have := HN.out; omega), Int.toNat_natCast] at cAn
      dsimp only [faultV] at cAB cBn cAn
      have HgAB : Hid (grewL A (mth (L.take A)) B (mth (L.take B)) (proofL (L.take B) A true) = true) := by
        have := grew_proof (L := L.take B) (m := A) (by omega) (by omega) (by omega)
        rw [hlB, List.take_take, Nat.min_eq_left (by omega)] at this
        exact this
      have HgBn : Hid (grewL B (mth (L.take B)) n (mth (L.take n)) (proofL L B true) = true) := by
        have := grew_proof (L := L) (m := B) (by omega) (by have := HN.out; omega) hL100
        rw [HN.out] at this
        rw [htn]
        exact this
      have HgAn : Hid (grewL A (mth (L.take A)) n (mth (L.take n)) (proofL L A true) = true) := by
        have := grew_proof (L := L) (m := A) (by omega) (by have := HN.out; omega) hL100
        rw [HN.out] at this
        rw [htn]
        exact this
      have i3 : (B : Int) ≤ (c : Int) := by omega
      clear hC o0 o1 o2 htn hW hWB hgF mA mB mn
      go_wp2_with fail
      have bz : Below wr.heap.size wr wr := Below.refl _ _
      refine (cAB _ hCb).mono ?_
      rintro e w4 ⟨xa, xn, xc, rfl, hp, -, hb4⟩
      replace hp := hp (by trivial)
      have hpL := hp.lists (proof_bytes _ _ _) (digs_short (proof_digs _ _ _))
      obtain ⟨c4, f0, -, sf⟩ := box_cells w4 (.int .i64 0) (.int .i64 0) 27
      have b5 := hb4.trans (c4.mono hb4.size)
      replace hpL := hpL.below c4
      clear hp hb4 c4 bz
      go_wp2_with fail
      obtain ⟨gf, hgf⟩ : ∃ gf, w4.heap.size = gf := ⟨_, rfl⟩
      rw [hgf] at f0 sf ⊢
      clear hgf
      generalize w4.alloc (.cells #[.int .i64 0, .int .i64 0] 27) = W1 at *
      refine (cBn _ (hCb.trans (b5.mono hCb.size))).mono ?_
      rintro e w6 ⟨ya, yn, yc, rfl, hq, -, hb6⟩
      replace hq := hq (by trivial)
      have hqL := hq.lists (proof_bytes _ _ _) (digs_short (proof_digs _ _ _))
      obtain ⟨c6, g0, -, sg⟩ := box_cells w6 (.int .i64 0) (.int .i64 0) 27
      have hb7 := hb6.trans (c6.mono hb6.size)
      have b7 := b5.trans (hb7.mono b5.size)
      replace hqL := hqL.below c6
      replace hpL := hpL.below hb7
      replace f0 := (hb7.cell (p := ⟨gf, 0, none⟩) sf).trans f0
      replace sf := Nat.lt_of_lt_of_le sf hb7.size
      clear hq hb6 c6 hb7 b5
      go_wp2_with fail
      obtain ⟨gg, hgg⟩ : ∃ gg, w6.heap.size = gg := ⟨_, rfl⟩
      rw [hgg] at g0 sg ⊢
      clear hgg
      generalize w6.alloc (.cells #[.int .i64 0, .int .i64 0] 27) = W2 at *
      refine (cAn _ (hCb.trans (b7.mono hCb.size))).mono ?_
      rintro e w8 ⟨za, zn, zc, rfl, ht, -, hb8⟩
      replace ht := ht (by trivial)
      have htL := ht.lists (proof_bytes _ _ _) (digs_short (proof_digs _ _ _))
      obtain ⟨c8, h0, -, sh⟩ := box_cells w8 (.int .i64 0) (.int .i64 0) 27
      have hb9 := hb8.trans (c8.mono hb8.size)
      have b9 := b7.trans (hb9.mono b7.size)
      replace htL := htL.below c8
      replace hqL := hqL.below hb9
      replace hpL := hpL.below hb9
      replace f0 := (hb9.cell (p := ⟨gf, 0, none⟩) sf).trans f0
      replace g0 := (hb9.cell (p := ⟨gg, 0, none⟩) sg).trans g0
      replace s0 := s0.below b9
      replace s1 := s1.below b9
      replace s2 := s2.below b9
      replace p0 := (b9.cell (p := ⟨gh, 0, none⟩) hgh).trans p0
      replace p1 := (b9.cell (p := ⟨gh, 1, none⟩) hgh).trans p1
      replace p2 := (b9.cell (p := ⟨gh, 2, none⟩) hgh).trans p2
      replace p3 := (b9.cell (p := ⟨gh, 3, none⟩) hgh).trans p3
      replace p4 := (b9.cell (p := ⟨gh, 4, none⟩) hgh).trans p4
      replace p5 := (b9.cell (p := ⟨gh, 5, none⟩) hgh).trans p5
      have bw9 := hCb.trans (b9.mono hCb.size)
      have hg9 : gh < (w8.alloc (.cells #[.int .i64 0, .int .i64 0] 27)).heap.size := Nat.lt_of_lt_of_le hgh b9.size
      clear ht hb8 c8 hb9 b7 sf sg sh b9 hgh hCb hsz
      have hgh := hg9
      clear hg9
      have cg1 := hGrew A (mth (L.take A)) B (mth (L.take B)) (proofL (L.take B) A true) _ _ xa xn xc _ (hR.below bw9) s0 s1 hpL
      rw [HgAB.out] at cg1
      go_wp2_with fail
      refine cg1.mono ?_
      rintro e w10 ⟨rfl, hb10⟩
      replace hqL := hqL.below hb10
      replace htL := htL.below hb10
      replace s0 := s0.below hb10
      replace s1 := s1.below hb10
      replace s2 := s2.below hb10
      replace p0 := (hb10.cell (p := ⟨gh, 0, none⟩) hgh).trans p0
      replace p1 := (hb10.cell (p := ⟨gh, 1, none⟩) hgh).trans p1
      replace p2 := (hb10.cell (p := ⟨gh, 2, none⟩) hgh).trans p2
      replace p3 := (hb10.cell (p := ⟨gh, 3, none⟩) hgh).trans p3
      replace p4 := (hb10.cell (p := ⟨gh, 4, none⟩) hgh).trans p4
      replace p5 := (hb10.cell (p := ⟨gh, 5, none⟩) hgh).trans p5
      have bw10 := bw9.trans (hb10.mono bw9.size)
      replace hgh := Nat.lt_of_lt_of_le hgh hb10.size
      have cg2 := hGrew B (mth (L.take B)) n (mth (L.take n)) (proofL L B true) _ _ ya yn yc _ (hR.below bw10) s1 s2 hqL
      rw [HgBn.out] at cg2
      clear cg1 hb10 bw9 f0 g0 h0 hpL
      go_wp2_with fail
      refine cg2.mono ?_
      rintro e w11 ⟨rfl, hb11⟩
      replace htL := htL.below hb11
      replace s0 := s0.below hb11
      replace s2 := s2.below hb11
      replace p0 := (hb11.cell (p := ⟨gh, 0, none⟩) hgh).trans p0
      replace p1 := (hb11.cell (p := ⟨gh, 1, none⟩) hgh).trans p1
      replace p2 := (hb11.cell (p := ⟨gh, 2, none⟩) hgh).trans p2
      replace p3 := (hb11.cell (p := ⟨gh, 3, none⟩) hgh).trans p3
      replace p4 := (hb11.cell (p := ⟨gh, 4, none⟩) hgh).trans p4
      replace p5 := (hb11.cell (p := ⟨gh, 5, none⟩) hgh).trans p5
      have bw11 := bw10.trans (hb11.mono bw10.size)
      have cg3 := hGrew A (mth (L.take A)) n (mth (L.take n)) (proofL L A true) _ _ za zn zc _ (hR.below bw11) s0 s2 htL
      rw [HgAn.out] at cg3
      clear cg2 hb11 bw10 hqL
      go_wp2_with fail
      refine cg3.mono ?_
      rintro e w12 ⟨rfl, hb12⟩
      have bw12 := bw11.trans (hb12.mono bw11.size)
      clear cg3 hb12 bw11
      go_wp2_with fail
      go_ret
      exact ⟨rfl, bw12⟩

end Go.Proofs.YtkjlchfmplcobabDoor
