/- The walks of copies and Push. -/
import Derived.Test.YtkjlchfmplcobaaDoorProg
import Derived.Test.YtkjlchfmplcobaaDoorTreeGoEdge
import Derived.WalkKit
import Derived.WalkSpells
import Derived.WalkLawsBesides
import Derived.Deep.RegionHeld3
import Derived.BigRegion
namespace Go.Proofs.YtkjlchfmplcobaaDoor
open Go.RowKit

set_option maxRecDepth 100000 in
set_option maxHeartbeats 2000000 in
theorem copies_any (ps : List (List Int)) (a : Option Addr) (n c : Nat) (w : World) (hv : PartsAt w (.slice a n c) ps) (hl : ps.length = n) (hn : n ≤ 1000) (h32 : ∀ j, j < n → (ps.getD j []).length = 32) :
    Calls Tryd.prog 44 #[.slice a n c] w fun e w' => ∃ v, e = .returned v ∧ OwnParts w' w.heap.size v ps ∧ Below w.heap.size w w' := by
  obtain ⟨i0, hi0, hz0, hz1, hz2⟩ := info_parts Tryd.info22b
  have HL : Hid (ps.length = n) := hl
  clear hl
  go_enter Tryd.func44, Tryd.ntmps44
  go_wp2_with (at_make; refine wpList_make_own _ rfl _ _ 26 rfl w.heap.size 22 i0 (.slice none 0 0) 1 Tryd.underlying26 hi0 hz0 hz1 .i64 .i64 _ (n + 1) rfl rfl (by omega) (by rw [hz2]; omega) (by unfold maxLen; omega) (Nat.le_refl _) ?_; intro w1 hown hgrow)
  have b1 : Below w.heap.size w w1 := (Below.refl _ _).grown hgrow (Nat.le_refl _) (fun q h => by cases h)
  clear hgrow
  go_loopw [3, 12] (fun v i wr => ∃ k : Nat, k ≤ n ∧ i = .int .i64 k ∧ (∃ va vc, v = .slice va k vc ∧ ∃ vs, wr.ownsRow w.heap.size 22 1 (.slice va k vc) k vs ∧ OwnEls wr w.heap.size vs (ps.take k)) ∧ Below w.heap.size w wr) (fun _ i _ => n - (intOf i).toNat)
  case atStart => exact ⟨0, Nat.zero_le _, rfl, ⟨_, _, rfl, [], hown, fun j hj => absurd hj (by simp)⟩, b1⟩
  case round =>
    obtain ⟨k, hk, rfl, ⟨va, vc, rfl, vs, hrow, hels⟩, hb⟩ := hrel
    clear hown b1
    have hsz := hb.size
    by_cases hlt : k < n
    · obtain ⟨b, off, b2, o2, c2, rfl, hcj, hB⟩ := part_at (k := k) (hv.below (Nat.le_refl _) hb) HL.out hlt (h32 k hlt)
      have hC := clone_any _ b2 o2 c2 wr hB (h32 k hlt)
      have hk32 := h32 k hlt
      have HT : Hid (ps.take (k + 1) = ps.take k ++ [ps.getD k []]) := by
        have hk' : k < ps.length := by rw [HL.out]; exact hlt
        show ps.take (k + 1) = ps.take k ++ [ps.getD k []]
        rw [List.take_succ_eq_append_getElem hk', List.getD_eq_getElem?_getD, List.getElem?_eq_getElem hk']; rfl
      have hvl : vs.length = (ps.take k).length := by rw [hrow.1, List.length_take, HL.out]; omega
      clear hB
      generalize ps.getD k [] = d at *
      go_wp2_with fail
      refine hC.mono ?_
      rintro e w2 ⟨x, rfl, ho, hb2⟩
      obtain ⟨xa, xc, rfl⟩ := own_form' ho
      have hrow2 := (own_below hrow hb2 (Nat.le_refl _)).alloc (.cells #[.slice xa 32 xc] 22)
      have hels2 := (hels.below hb2 (Nat.le_refl _)).alloc (.cells #[.slice xa 32 xc] 22)
      have hs2 := hb2.size
      have bA : Below w.heap.size w (w2.alloc (.cells #[.slice xa 32 xc] 22)) := (hb.trans (hb2.mono hsz)).alloc (by omega) _
      clear hC hrow hels
      go_wp2_with (at_builtin; refine wpList_append_own _ rfl (.tmp 16) (.tmp 19) 26 rfl w.heap.size 22 i0 (.slice none 0 0) 1 24 Tryd.underlying26 hi0 hz0 hz1 hz2 rfl (by decide) _ _ _ rfl hrow2 ⟨w2.heap.size, 0, none⟩ 1 1 [.slice xa 32 xc] rfl rfl (cell_one_new _ _ _) (by intro u hu; simp at hu; subst hu; rfl) (by unfold maxLen; omega) (by omega) (by simp; omega) ?_; intro v3 w3 ho3 hg3 _; obtain ⟨ya, yc, rfl⟩ := own_form' ho3)
      have b3 : Below w.heap.size w w3 := bA.grown hg3 bA.size (fun _ h => own_block hrow2 h)
      have hel3 : OwnEls w3 w.heap.size (vs ++ [.slice xa 32 xc]) (ps.take (k + 1)) := by
        rw [HT.out]
        exact (hels2.snoc hvl (by rw [hk32]; exact (ownsRow_base ho hsz).alloc _)).kept hrow2 hg3
      clear hg3 hels2 hrow2 ho
      go_roundw
      case rel => exact ⟨k + 1, by omega, by go_num, ⟨ya, yc, rfl, _, ho3, hel3⟩, b3⟩
      case measure => simp [intOf]; omega
    · obtain rfl : k = n := by omega
      have e : ps.take k = ps := List.take_of_length_le (by rw [HL.out]; exact Nat.le_refl _)
      rw [e] at hels
      go_wp2_with fail
      go_ret
      exact ⟨_, rfl, ⟨vs, by rw [HL.out]; exact hrow, hels⟩, hb⟩

theorem some_own' {w : World} {base : Nat} {x : Value} {d : List Int} (h : w.ownsRow base 5 1 x 32 (d.map (Value.int .u8))) (hb : Bytes d) : Some' w x d :=
  ⟨bytesAt_own h, hb, by have := h.1; simp at this; rw [this]; unfold maxLen; omega⟩
theorem getD_take_lt {L : List (List Int)} {k j : Nat} (h : j < k) : (L.take k).getD j [] = L.getD j [] := by rw [List.getD_eq_getElem?_getD, List.getElem?_take, if_pos h, ← List.getD_eq_getElem?_getD]
theorem lit_kept {w w' : World} {u0 : Value} {t : TypeId} (h : Below (w.alloc (.cells #[u0] t)).drew.heap.size (w.alloc (.cells #[u0] t)).drew w') : ∀ j u, [u0][j]? = some u → w'.cell? ((⟨w.heap.size, 0, none⟩ : Addr).add j) = some u := fun j u hu => by
  have hj : j = 0 := by have := (List.getElem?_eq_some_iff.1 hu).1; simp at this; omega
  subst hj
  have hu' : u0 = u := by simpa using hu
  subst hu'
  rw [Addr.add_mid, Nat.add_zero]
  exact (box_cell (box_kept (w := (w.alloc (.cells #[u0] t)).drew) (box_new w _ _) h)).1
theorem OwnParts.setBox {w : World} {base k o : Nat} {v u : Value} {L : List (List Int)} {c : Array Value} {t : TypeId} (h : OwnParts w base v L) (hk : w.heap[k]? = some (.cells c t (0, 0))) (h1 : t ≠ 22) (h2 : t ≠ 5) : OwnParts (w.setCell ⟨k, o, none⟩ u) base v L := by
  obtain ⟨vs, h3, h4⟩ := h
  refine ⟨vs, ownsRow_setCell_other h3 (a := ⟨k, o, none⟩) (own_box h3 hk h1) u, fun j hj => ?_⟩
  obtain ⟨y, h5, h6⟩ := h4 j hj
  exact ⟨y, h5, ownsRow_setCell_other h6 (a := ⟨k, o, none⟩) (own_box h6 hk h2) u⟩
/-- What lies there when a digest is put behind copies. -/
structure AtW (w wr W : World) (ad : Addr) (v : Value) (m : Nat) (vs : List Value) (L : List (List Int)) (x : Value) : Prop where
  row : W.ownsRow w.heap.size 22 1 v m vs
  els : OwnEls W w.heap.size vs L
  lit : ∀ j u, [x][j]? = some u → W.cell? (ad.add j) = some u
  old : Below wr.heap.size wr W
theorem at_end {w wr W w6 : World} {ad : Addr} {va la ta : Option Addr} {vc lc tc m : Nat} {vs : List Value} {L : List (List Int)} {d : List Int} (h : AtW w wr W ad (.slice va m vc) m vs L (.slice la 32 lc)) (hg : W.grownBy w6 (Value.slice va m vc).ownBlock) (ho : w6.ownsRow w.heap.size 22 1 (.slice ta (m + 1) tc) (m + 1) (vs ++ [.slice la 32 lc]))
    (hl : L.length = m) (hd : wr.ownsRow w.heap.size 5 1 (.slice la 32 lc) 32 (d.map (Value.int .u8))) (hd32 : d.length = 32) (br : Below w.heap.size w wr) : OwnParts w6 w.heap.size (.slice ta (m + 1) tc) (L ++ [d]) ∧ Below w.heap.size w w6 := by
  have hvl : vs.length = L.length := by have hh := h.row.1; simp at hh; rw [hl]; exact hh
  refine ⟨⟨vs ++ [.slice la 32 lc], by rw [List.length_append, hl]; exact ho, (h.els.snoc hvl (by rw [hd32]; exact own_below hd h.old (Nat.le_refl _))).kept h.row hg⟩, ?_⟩
  exact (br.trans (h.old.mono br.size)).grown hg (Nat.le_trans br.size h.old.size) (fun q e => own_block h.row e)
theorem right_less {size : Int} {ps : List (List Int)} (h : size < 100) : rightL size 99 ps = rightL size 100 ps := by
  unfold rightL
  have : decide (size ≤ 99) = decide (size ≤ 100) := decide_eq_decide.2 (by omega)
  rw [this]
theorem push_no {size : Int} {ps : List (List Int)} {b : List Int} (h : rightL size 99 ps = false) : pushE size ps b = (0, 2, []) := by unfold pushE; rw [if_pos h]
theorem push_much {size : Int} {ps : List (List Int)} {b : List Int} (h : rightL size 99 ps = true) (hb : 200 < b.length) : pushE size ps b = (0, 4, []) := by unfold pushE; rw [if_neg (by rw [h]; decide), if_pos hb]
theorem push_yes {size : Int} {ps : List (List Int)} {b : List Int} (h : rightL size 99 ps = true) (hb : ¬ 200 < b.length) : pushE size ps b = (size + 1, 0, pushL ps size.toNat (leafL b)) := by unfold pushE; rw [if_neg (by rw [h]; decide), if_neg hb]
set_option maxRecDepth 100000 in
set_option maxHeartbeats 2000000 in
theorem pushC_holds : PushC := by
  intro size ps b bv a n c w hr hL hbv
  obtain ⟨ba, bc, eb⟩ := hbv.at'.form
  subst eb
  have hbl := hbv.short
  unfold maxLen at hbl
  have hnn : n ≤ 9223372036854775807 := by have := hL.room; have := hL.cap; unfold maxLen at this; omega
  have bW : Below w.heap.size w ((w.alloc (.cells #[.int .i64 size, .slice a n c] 34)).alloc (.cells #[.int .i64 0, .slice none 0 0] 34)) := ((Below.refl _ _).alloc (Nat.le_refl _) _).alloc (by simp) _
  by_cases hs : 100 ≤ size
  · rw [push_no (right_size (fun h => by omega))]
    go_enter Tryd.func21, Tryd.ntmps21
    go_wp2_with fail
    exact bodyPost_ret (v := .tuple #[.agg #[.int .i64 0, .slice none 0 0], .int .i64 2]) (by simp [results, Tryd.results21, go_sem]) rfl ⟨none, 0, 0, rfl, OwnParts.nil _ _, bW⟩
  have hF := isFormed_any size ps a n c _ (hL.below bW)
  have hb0 := box_one w #[.int .i64 size, .slice a n c] 34 (.cells #[.int .i64 0, .slice none 0 0] 34)
  have hb1 := box_last w (.cells #[.int .i64 size, .slice a n c] 34) #[.int .i64 0, .slice none 0 0] 34
  have g0 : decide (100 ≤ size) = false := decide_eq_false hs
  by_cases hR : rightL size 99 ps = true
  case neg =>
    simp only [Bool.not_eq_true] at hR
    rw [push_no hR]
    rw [right_less (by omega)] at hR
    rw [hR] at hF
    clear hR
    go_enter Tryd.func21, Tryd.ntmps21
    go_wp2_with fail
    refine hF.mono ?_
    rintro e w1 ⟨rfl, hb2⟩
    have b1 := bW.trans (hb2.mono bW.size)
    obtain ⟨q0, q1, q2, q3⟩ := box_two (box_kept hb1 hb2)
    go_wp2_with fail
    exact bodyPost_ret (v := .tuple #[.agg #[.int .i64 0, .slice none 0 0], .int .i64 2]) (by simp [results, Tryd.results21, go_sem, q0, q1]) rfl ⟨none, 0, 0, rfl, OwnParts.nil _ _, (b1.setCell (p := ⟨w.heap.size + 1, 0, none⟩) (by show w.heap.size ≤ w.heap.size + 1; omega) _).setCell (p := ⟨w.heap.size + 1, 1, none⟩) (by show w.heap.size ≤ w.heap.size + 1; omega) _⟩
  have hR1 := hR
  rw [right_less (by omega)] at hR1
  rw [hR1] at hF
  by_cases hbig : 200 < b.length
  · rw [push_much hR hbig]
    have i1 : (200 : Int) < (b.length : Int) := by omega
    clear hR hR1
    go_enter Tryd.func21, Tryd.ntmps21
    go_wp2_with fail
    refine hF.mono ?_
    rintro e w1 ⟨rfl, hb2⟩
    have b1 := bW.trans (hb2.mono bW.size)
    obtain ⟨q0, q1, q2, q3⟩ := box_two (box_kept hb1 hb2)
    go_wp2_with fail
    exact bodyPost_ret (v := .tuple #[.agg #[.int .i64 0, .slice none 0 0], .int .i64 4]) (by simp [results, Tryd.results21, go_sem, q0, q1]) rfl ⟨none, 0, 0, rfl, OwnParts.nil _ _, (b1.setCell (p := ⟨w.heap.size + 1, 0, none⟩) (by show w.heap.size ≤ w.heap.size + 1; omega) _).setCell (p := ⟨w.heap.size + 1, 1, none⟩) (by show w.heap.size ≤ w.heap.size + 1; omega) _⟩
  rw [push_yes hR hbig]
  have g1 : decide ((200 : Int) < (b.length : Int)) = false := decide_eq_false (by omega)
  obtain ⟨h0, h1, hcount, hg⟩ := right_parts hR1
  obtain ⟨sz, rfl⟩ : ∃ sz : Nat, size = (sz : Int) := ⟨size.toNat, by omega⟩
  simp only [Int.toNat_natCast] at hcount
  simp only [Int.toNat_natCast]
  rw [hL.len] at hcount
  have hg32 := goodL_get hg
  rw [hL.len] at hg32
  have hLf : ∀ w', Below w.heap.size w w' → _ := fun w' h => leafC_holds b _ w' (hr.below h) (hbv.below h) (by omega)
  have hn100 : n ≤ 100 := by have := onesN_le sz; omega
  have hbz := hL.bytes
  have HLN : Hid (ps.length = n) := hL.len
  have HC : Hid (n = onesN sz) := hcount
  clear hcount
  obtain ⟨P, HP⟩ : ∃ P, Hid (pushL ps sz (leafL b) = P) := ⟨_, rfl⟩
  rw [HP.out]
  clear hR hR1 hg
  go_enter Tryd.func21, Tryd.ntmps21
  go_wp2_with fail
  refine hF.mono ?_
  rintro e w1 ⟨rfl, hb2⟩
  have b1 := bW.trans (hb2.mono bW.size)
  have o0 := box_kept hb0 hb2
  have o1 := box_kept hb1 hb2
  obtain ⟨z0, z1, -, -⟩ := box_two o0
  clear hF hb0 hb1 hb2 bW
  go_wp2_with fail
  go_region_held3 (fun w' => w'.cell? ⟨w.heap.size, 0, none⟩ = some (.int .i64 sz) ∧ w'.cell? ⟨w.heap.size, 1, none⟩ = some (.slice a n c)) (first | exact ⟨z0, z1⟩ | exact ⟨y0, y1⟩) (first | (go_at_call 17; refine (hLf _ b1.drew).mono ?_; rintro e w2 ⟨x, rfl, ho, hb2⟩; have b2 := b1.drew.trans (hb2.mono b1.drew.size); have k2 := (Below.refl _ _).drew.trans hb2; obtain ⟨y0, y1, -, -⟩ := box_two (box_kept o0 k2)))
  obtain ⟨xa, xc, rfl⟩ := own_form' ho
  have u0 := box_kept o0 k2
  have u1 := box_kept o1 k2
  have hx2 := ownsRow_base ho b1.drew.size
  have HP0 : Hid (pushL (ps.take n) sz (leafL b) = P) := by
    rw [List.take_of_length_le (by rw [HLN.out]; exact Nat.le_refl _)]; exact HP.out
  have hl32 : (leafL b).length = 32 := shaL_len _
  have hlz := leafL_bytes b
  clear hLf ho hb2 k2 o0 o1 z0 z1 b1 HP hbl g0 g1
  generalize leafL b = d0 at *
  go_wp2_with fail
  go_loopw [6, 7, 8] (fun last ahead sv wr => ∃ (r m : Nat) (d : List Int), r ≤ 100 ∧ m ≤ n ∧ Hid (m = onesN r) ∧ sv = .int .i64 r ∧ ahead = .int .i64 m ∧ (∃ la lc, last = .slice la 32 lc ∧ wr.ownsRow w.heap.size 5 1 (.slice la 32 lc) 32 (d.map (Value.int .u8))) ∧ d.length = 32 ∧ Bytes d ∧ Hid (pushL (ps.take m) r d = P) ∧ Below w2.heap.size w2 wr) (fun _ _ sv _ => (intOf sv).toNat)
  case atStart => exact ⟨sz, n, d0, by omega, Nat.le_refl _, HC.out, rfl, rfl, ⟨xa, xc, rfl, hx2⟩, hl32, hlz, HP0, Below.refl _ _⟩
  case round =>
    obtain ⟨r, m, d, hr100, hmn, HM, rfl, rfl, ⟨la, lc, rfl, hd⟩, hd32, hdz, HPr, hbr⟩ := hrel
    have br := b2.trans (hbr.mono b2.size)
    have v0 := box_kept u0 hbr
    have v1 := box_kept u1 hbr
    obtain ⟨q0, q1, -, -⟩ := box_two v0
    clear hx2 hl32 hlz HP0 u0 u1
    by_cases hodd : r % 2 = 1
    · have hm1 : 1 ≤ m := by have h := HM.out; rw [onesN_step] at h; omega
      obtain ⟨bb, off, b3, o3, c3, rfl, hcj, hB⟩ := part_at (k := m - 1) (hL.below br).at' HLN.out (by omega) (hg32 _ (by omega))
      have h32 := hg32 (m - 1) (by omega)
      have hN := nodeC_holds _ d _ _ wr (hr.below br) ⟨hB, hbz _, by rw [h32]; unfold maxLen; omega⟩ (some_own' hd hdz) (by rw [h32, hd32]; omega)
      have HP1 : Hid (pushL (ps.take (m - 1)) (r / 2) (nodeL (ps.getD (m - 1) []) d) = P) := by
        rw [← HPr.out]; exact (push_step (by rw [HLN.out]; exact hmn) (by omega) hodd).symm
      have HM1 : Hid (m - 1 = onesN (r / 2)) := by have h := HM.out; rw [onesN_step] at h; show m - 1 = onesN (r / 2); omega
      have i1 : ((r : Int) % 2 == 1) = true := by rw [beq_iff_eq]; omega
      have j1 : 0 ≤ (m : Int) - 1 := by omega
      have j2 : (m : Int) - 1 < (n : Int) := by omega
      have j3 : ((m : Int) - 1).toNat = m - 1 := by omega
      clear hB HPr HM hd
      have hdd : (nodeL (ps.getD (m - 1) []) d).length = 32 ∧ Bytes (nodeL (ps.getD (m - 1) []) d) := ⟨nodeL_length _ _, nodeL_bytes _ _⟩
      generalize nodeL (ps.getD (m - 1) []) d = d' at *
      go_wp2_with fail
      refine hN.mono ?_
      rintro e w3 ⟨x3, rfl, ho3, hb3⟩
      obtain ⟨ya, yc, rfl⟩ := own_form' ho3
      have b3' := hbr.trans (hb3.mono hbr.size)
      have hd3 : d'.length = 32 ∧ Bytes d' := hdd
      clear hN hcj
      go_wp2_with fail
      go_roundw
      case rel => exact ⟨r / 2, m - 1, d', by omega, by omega, HM1, by go_num, by go_num, ⟨ya, yc, rfl, ownsRow_base ho3 br.size⟩, hd3.1, hd3.2, HP1, b3'⟩
      case measure => simp [intOf]; omega
    · have HE : Hid (ps.take m ++ [d] = P) := by rw [← HPr.out]; exact (pushL_even hodd).symm
      have i1 : ((r : Int) % 2 == 1) = false := by rw [beq_eq_false_iff_ne]; omega
      have hmc : m ≤ c := by have := hL.room; omega
      obtain ⟨i0, hi0, hz0, hz1, hz2⟩ := info_parts Tryd.info22b
      obtain ⟨q0', q1', f0, f1⟩ := box_two v1
      clear HPr HM
      cases a with
      | none =>
        obtain ⟨rfl, rfl⟩ := hL.nil rfl
        obtain rfl : m = 0 := by omega
        have hlt : (ps.take 0).length = 0 := by simp
        have hpt : PartsAt wr (.slice none 0 0) (ps.take 0) := by
          rw [List.take_zero]
          exact .inl ⟨rfl, _, _, rfl⟩
        have hcp : ∀ w', Below wr.heap.size wr w' → _ := fun w' h => copies_any (ps.take 0) none 0 0 w' (hpt.below (Nat.le_refl _) h) hlt (by omega) (fun j hj => by rw [getD_take_lt hj]; exact hg32 j (by omega))
        have kk : ∀ w', Below wr.heap.size wr w' → w'.cell? ⟨w.heap.size, 0, none⟩ = some (.int .i64 sz) ∧ w'.cell? ⟨w.heap.size, 1, none⟩ = some (.slice none 0 0) := fun w' h => ⟨(box_two (box_kept v0 h)).1, (box_two (box_kept v0 h)).2.1⟩
        have n1 : w.heap.size + 1 ≠ w.heap.size := by omega
        have hq : IntKind.i64.wrap ((sz : Int) + 1) = (sz : Int) + 1 := by rw [IntWalk.i64_left]; unfold wrap64; omega
        have hsr := br.size
        have h63 : 0 + 1 ≤ maxLen := by unfold maxLen; omega
        have h24 : (0 + 1) * 24 ≤ 140737488355328 := by omega
        have hone : ∀ u ∈ [Value.slice la 32 lc], u.oneCell' = true := by intro u hu; simp at hu; subst hu; rfl
        have bA : Below wr.heap.size wr (wr.alloc (.cells #[.slice la 32 lc] 22)).drew := ((Below.refl _ _).alloc (Nat.le_refl _) _).drew
        have sA : w.heap.size ≤ (wr.alloc (.cells #[.slice la 32 lc] 22)).drew.heap.size := Nat.le_trans hsr bA.size
        have atI : ∀ (v : Value) (w3 : World), OwnParts w3 wr.heap.size v (ps.take 0) → Below wr.heap.size wr w3 → ∃ vs va vc, v = .slice va 0 vc ∧ AtW w wr (w3.alloc (.cells #[.slice la 32 lc] 22)) ⟨w3.heap.size, 0, none⟩ (.slice va 0 vc) 0 vs (ps.take 0) (.slice la 32 lc) := fun v w3 ho hb => by
          obtain ⟨vs, h1, h2⟩ := ho
          rw [hlt] at h1
          obtain ⟨va, vc, rfl⟩ := own_form' h1
          exact ⟨vs, va, vc, rfl, (ownsRow_base h1 hsr).alloc _, (h2.base hsr).alloc _, cell_one_new _ _ _, hb.alloc hb.size _⟩
        have atII : ∀ (v : Value) (w3 : World), OwnParts w3 (wr.alloc (.cells #[.slice la 32 lc] 22)).drew.heap.size v (ps.take 0) → Below (wr.alloc (.cells #[.slice la 32 lc] 22)).drew.heap.size (wr.alloc (.cells #[.slice la 32 lc] 22)).drew w3 → ∃ vs va vc, v = .slice va 0 vc ∧ AtW w wr w3 ⟨wr.heap.size, 0, none⟩ (.slice va 0 vc) 0 vs (ps.take 0) (.slice la 32 lc) := fun v w3 ho hb => by
          obtain ⟨vs, h1, h2⟩ := ho
          rw [hlt] at h1
          obtain ⟨va, vc, rfl⟩ := own_form' h1
          exact ⟨vs, va, vc, rfl, ownsRow_base h1 sA, h2.base sA, lit_kept hb, bA.trans (hb.mono bA.size)⟩
        go_wp2_with fail
        go_region_held3 (fun w' => w'.cell? ⟨w.heap.size, 0, none⟩ = some (.int .i64 sz) ∧ w'.cell? ⟨w.heap.size, 1, none⟩ = some (.slice none 0 0))
          (first | exact ⟨q0, q1⟩ | exact t6 | exact kk _ K3 | exact kk _ (K3.alloc K3.size _) | exact kk _ bA | exact ⟨(World.cell?_setCell_far _ _ _ _ n1).trans ((World.cell?_setCell_far _ _ _ _ n1).trans t6.1), (World.cell?_setCell_far _ _ _ _ n1).trans ((World.cell?_setCell_far _ _ _ _ n1).trans t6.2)⟩)
          (first
            | (go_at_call 44; refine (hcp _ (Below.refl _ _).drew).mono ?_; rintro e w3 ⟨v, rfl, hOP, hb3⟩; have K3 : Below wr.heap.size wr w3 := (Below.refl _ _).drew.trans hb3; obtain ⟨vs, va, vc, rfl, hAW⟩ := atI v w3 hOP K3)
            | (go_at_call 44; refine (hcp _ bA).mono ?_; rintro e w3 ⟨v, rfl, hOP, hb3⟩; have K3 : Below wr.heap.size wr w3 := bA.trans (hb3.mono bA.size); obtain ⟨vs, va, vc, rfl, hAW⟩ := atII v w3 hOP hb3)
            | (refine step_append_kept _ rfl (.tmp 50) (.tmp 52) 26 rfl w.heap.size 22 i0 (.slice none 0 0) 24 Tryd.underlying26 hi0 hz0 hz1 hz2 rfl _ _ _ rfl hAW.row _ 1 1 [.slice la 32 lc] rfl rfl hAW.lit hone h63 h24 (Nat.le_trans hsr hAW.old.size) ?_; intro v6 w6 ho6 hg6 hk6; obtain ⟨ta, tc, rfl⟩ := own_form' ho6; have ev0 := grown_box hg6 hAW.row (box_kept v0 hAW.old) (by decide); have ev1 := grown_box hg6 hAW.row (box_kept v1 hAW.old) (by decide); have t6 : w6.cell? ⟨w.heap.size, 0, none⟩ = some (.int .i64 sz) ∧ w6.cell? ⟨w.heap.size, 1, none⟩ = some (.slice none 0 0) := ⟨(box_two ev0).1, (box_two ev0).2.1⟩; obtain ⟨e0, e1, e2, e3⟩ := box_two ev1; obtain ⟨fP, fB⟩ := at_end hAW hg6 ho6 hlt hd hd32 br))
        all_goals
          rw [HE.out] at fP
          have s1 := heap_setCell_same _ _ 0 _ _ (.int .i64 ((sz : Int) + 1)) ev1
          have fP2 := (fP.setBox (o := 0) (u := .int .i64 ((sz : Int) + 1)) ev1 (by decide) (by decide)).setBox (o := 1) (u := .slice ta (0 + 1) tc) s1 (by decide) (by decide)
          have fB2 := (fB.setCell (p := ⟨w.heap.size + 1, 0, none⟩) (by show w.heap.size ≤ w.heap.size + 1; omega) (.int .i64 ((sz : Int) + 1))).setCell (p := ⟨w.heap.size + 1, 1, none⟩) (by show w.heap.size ≤ w.heap.size + 1; omega) (.slice ta (0 + 1) tc)
          clear fP fB s1
          go_wp2_with fail
          exact bodyPost_ret (v := .tuple #[.agg #[.int .i64 ((sz : Int) + 1), .slice ta (0 + 1) tc], .int .i64 0]) (by simp [results, Tryd.results21, go_sem, e0, e1]) rfl ⟨ta, 0 + 1, tc, rfl, fP2, fB2⟩
      | some ad =>
        have hlt : (ps.take m).length = m := by rw [List.length_take, HLN.out]; omega
        have hpt : PartsAt wr (.slice (some ad) m c) (ps.take m) := by
          by_cases h0 : 0 < n
          · exact (hL.below br).at'.take HLN.out hmn h0 _
          · obtain rfl : m = 0 := by omega
            rw [List.take_zero]
            exact .inl ⟨rfl, _, _, rfl⟩
        have hcp : ∀ w', Below wr.heap.size wr w' → _ := fun w' h => copies_any (ps.take m) (some ad) m c w' (hpt.below (Nat.le_refl _) h) hlt (by omega) (fun j hj => by rw [getD_take_lt hj]; exact hg32 j (by omega))
        have kk : ∀ w', Below wr.heap.size wr w' → w'.cell? ⟨w.heap.size, 0, none⟩ = some (.int .i64 sz) ∧ w'.cell? ⟨w.heap.size, 1, none⟩ = some (.slice (some ad) n c) := fun w' h => ⟨(box_two (box_kept v0 h)).1, (box_two (box_kept v0 h)).2.1⟩
        have n1 : w.heap.size + 1 ≠ w.heap.size := by omega
        have hq : IntKind.i64.wrap ((sz : Int) + 1) = (sz : Int) + 1 := by rw [IntWalk.i64_left]; unfold wrap64; omega
        have hsr := br.size
        have h63 : m + 1 ≤ maxLen := by unfold maxLen; omega
        have h24 : (m + 1) * 24 ≤ 140737488355328 := by omega
        have hone : ∀ u ∈ [Value.slice la 32 lc], u.oneCell' = true := by intro u hu; simp at hu; subst hu; rfl
        have bA : Below wr.heap.size wr (wr.alloc (.cells #[.slice la 32 lc] 22)).drew := ((Below.refl _ _).alloc (Nat.le_refl _) _).drew
        have sA : w.heap.size ≤ (wr.alloc (.cells #[.slice la 32 lc] 22)).drew.heap.size := Nat.le_trans hsr bA.size
        have atI : ∀ (v : Value) (w3 : World), OwnParts w3 wr.heap.size v (ps.take m) → Below wr.heap.size wr w3 → ∃ vs va vc, v = .slice va m vc ∧ AtW w wr (w3.alloc (.cells #[.slice la 32 lc] 22)) ⟨w3.heap.size, 0, none⟩ (.slice va m vc) m vs (ps.take m) (.slice la 32 lc) := fun v w3 ho hb => by
          obtain ⟨vs, h1, h2⟩ := ho
          rw [hlt] at h1
          obtain ⟨va, vc, rfl⟩ := own_form' h1
          exact ⟨vs, va, vc, rfl, (ownsRow_base h1 hsr).alloc _, (h2.base hsr).alloc _, cell_one_new _ _ _, hb.alloc hb.size _⟩
        have atII : ∀ (v : Value) (w3 : World), OwnParts w3 (wr.alloc (.cells #[.slice la 32 lc] 22)).drew.heap.size v (ps.take m) → Below (wr.alloc (.cells #[.slice la 32 lc] 22)).drew.heap.size (wr.alloc (.cells #[.slice la 32 lc] 22)).drew w3 → ∃ vs va vc, v = .slice va m vc ∧ AtW w wr w3 ⟨wr.heap.size, 0, none⟩ (.slice va m vc) m vs (ps.take m) (.slice la 32 lc) := fun v w3 ho hb => by
          obtain ⟨vs, h1, h2⟩ := ho
          rw [hlt] at h1
          obtain ⟨va, vc, rfl⟩ := own_form' h1
          exact ⟨vs, va, vc, rfl, ownsRow_base h1 sA, h2.base sA, lit_kept hb, bA.trans (hb.mono bA.size)⟩
        go_wp2_with fail
        go_region_held3 (fun w' => w'.cell? ⟨w.heap.size, 0, none⟩ = some (.int .i64 sz) ∧ w'.cell? ⟨w.heap.size, 1, none⟩ = some (.slice (some ad) n c))
          (first | exact ⟨q0, q1⟩ | exact t6 | exact kk _ K3 | exact kk _ (K3.alloc K3.size _) | exact kk _ bA | exact ⟨(World.cell?_setCell_far _ _ _ _ n1).trans ((World.cell?_setCell_far _ _ _ _ n1).trans t6.1), (World.cell?_setCell_far _ _ _ _ n1).trans ((World.cell?_setCell_far _ _ _ _ n1).trans t6.2)⟩)
          (first
            | (go_at_call 44; refine (hcp _ (Below.refl _ _).drew).mono ?_; rintro e w3 ⟨v, rfl, hOP, hb3⟩; have K3 : Below wr.heap.size wr w3 := (Below.refl _ _).drew.trans hb3; obtain ⟨vs, va, vc, rfl, hAW⟩ := atI v w3 hOP K3)
            | (go_at_call 44; refine (hcp _ bA).mono ?_; rintro e w3 ⟨v, rfl, hOP, hb3⟩; have K3 : Below wr.heap.size wr w3 := bA.trans (hb3.mono bA.size); obtain ⟨vs, va, vc, rfl, hAW⟩ := atII v w3 hOP hb3)
            | (refine step_append_kept _ rfl (.tmp 50) (.tmp 52) 26 rfl w.heap.size 22 i0 (.slice none 0 0) 24 Tryd.underlying26 hi0 hz0 hz1 hz2 rfl _ _ _ rfl hAW.row _ 1 1 [.slice la 32 lc] rfl rfl hAW.lit hone h63 h24 (Nat.le_trans hsr hAW.old.size) ?_; intro v6 w6 ho6 hg6 hk6; obtain ⟨ta, tc, rfl⟩ := own_form' ho6; have ev0 := grown_box hg6 hAW.row (box_kept v0 hAW.old) (by decide); have ev1 := grown_box hg6 hAW.row (box_kept v1 hAW.old) (by decide); have t6 : w6.cell? ⟨w.heap.size, 0, none⟩ = some (.int .i64 sz) ∧ w6.cell? ⟨w.heap.size, 1, none⟩ = some (.slice (some ad) n c) := ⟨(box_two ev0).1, (box_two ev0).2.1⟩; obtain ⟨e0, e1, e2, e3⟩ := box_two ev1; obtain ⟨fP, fB⟩ := at_end hAW hg6 ho6 hlt hd hd32 br))
        all_goals
          rw [HE.out] at fP
          have s1 := heap_setCell_same _ _ 0 _ _ (.int .i64 ((sz : Int) + 1)) ev1
          have fP2 := (fP.setBox (o := 0) (u := .int .i64 ((sz : Int) + 1)) ev1 (by decide) (by decide)).setBox (o := 1) (u := .slice ta (m + 1) tc) s1 (by decide) (by decide)
          have fB2 := (fB.setCell (p := ⟨w.heap.size + 1, 0, none⟩) (by show w.heap.size ≤ w.heap.size + 1; omega) (.int .i64 ((sz : Int) + 1))).setCell (p := ⟨w.heap.size + 1, 1, none⟩) (by show w.heap.size ≤ w.heap.size + 1; omega) (.slice ta (m + 1) tc)
          clear fP fB s1
          go_wp2_with fail
          exact bodyPost_ret (v := .tuple #[.agg #[.int .i64 ((sz : Int) + 1), .slice ta (m + 1) tc], .int .i64 0]) (by simp [results, Tryd.results21, go_sem, e0, e1]) rfl ⟨ta, m + 1, tc, rfl, fP2, fB2⟩

end Go.Proofs.YtkjlchfmplcobaaDoor
