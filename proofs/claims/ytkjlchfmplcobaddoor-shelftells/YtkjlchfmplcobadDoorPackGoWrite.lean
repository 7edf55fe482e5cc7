/- The walks of writePair, flagsOf, writeToken and writeGroup: package pack as it landed. -/
import Derived.Test.YtkjlchfmplcobadDoorProg
import Derived.Test.YtkjlchfmplcobadDoorRunAC
import Derived.WalkKit
import Derived.WalkSpells
import Derived.WalkLawsBesides
import Derived.RangeFuncOwn
namespace Go.Proofs.YtkjlchfmplcobadDoor
open Go.RowKit

theorem row_cells {w : World} {base : Nat} {e : TypeId} {v : Value} {n : Nat} {xs : List Value} (h : w.ownsRow base e 1 v n xs) : ∀ (j : Nat) (o : Obj), v.ownBlock = some j → w.heap[j]? = some o → o.isCells = true := fun j o hj ho => by
  rcases h.2 with ⟨e, -⟩ | ⟨g, cap, cur, e, -, hg, -⟩
  · rw [e] at hj; cases hj
  · rw [e] at hj
    cases hj
    rw [hg] at ho
    cases ho
    rfl
/-- What is no row of bytes lies as it lay. -/
structure Kept' (w w' : World) : Prop where
  others : KeepsOthers w w'
  boxes : ∀ (k : Nat) (c : Array Value) (t : TypeId), w.heap[k]? = some (Obj.cells c t (0, 0)) → t ≠ 5 → w'.heap[k]? = some (Obj.cells c t (0, 0))
theorem Kept'.refl (w : World) : Kept' w w := ⟨KeepsOthers.refl w, fun _ _ _ h _ => h⟩
theorem Kept'.trans {a b c : World} (h : Kept' a b) (k : Kept' b c) : Kept' a c := ⟨h.others.trans k.others, fun j x t hj ht => k.boxes j x t (h.boxes j x t hj ht) ht⟩
theorem Kept'.alloc (w : World) (o : Obj) : Kept' w (w.alloc o) := ⟨KeepsOthers.alloc w o, fun _ _ _ h _ => box_old w o h⟩
theorem Kept'.of_grownBy {w w' : World} {base n : Nat} {v : Value} {xs : List Value} (hg : w.grownBy w' v.ownBlock) (ho : w.ownsRow base 5 1 v n xs) : Kept' w w' := ⟨KeepsOthers.of_grownBy hg (row_cells ho), fun _ _ _ h ht => grown_box hg ho h ht⟩
theorem two_new (w : World) (v v' : Value) (t : TypeId) : ∀ (j : Nat) (u : Value), [v, v'][j]? = some u → (w.alloc (.cells #[v, v'] t)).cell? ((⟨w.heap.size, 0, none⟩ : Addr).add j) = some u := fun j u hj => by
  have hadd : (⟨w.heap.size, 0, none⟩ : Addr).add j = ⟨w.heap.size, 0 + j, none⟩ := Addr.add_mid _ _ _
  rw [hadd, Nat.zero_add]
  match j, hj with
  | 0, hj => rw [new_cell _ t _ 0 (by simp)]; simpa using hj
  | 1, hj => rw [new_cell _ t _ 1 (by simp)]; simpa using hj
  | j + 2, hj => simp at hj
set_option maxRecDepth 100000 in
set_option maxHeartbeats 2000000 in
theorem writePair_any (out : List Int) (n : Int) (base : Nat) (va : Option Addr) (vc : Nat) (w : World) (hB : base ≤ w.heap.size) (hrow : w.ownsRow base 5 1 (.slice va out.length vc) out.length (out.map (Value.int .u8))) (hn0 : 0 ≤ n) (hn : n < 65536) (hol : out.length ≤ 100000) :
    Calls Tryd.prog 76 #[.slice va out.length vc, .int .i64 n] w fun e w' => ∃ ta tc, e = .returned (.slice ta (out.length + 2) tc) ∧
      w'.ownsRow base 5 1 (.slice ta (out.length + 2) tc) (out.length + 2) ((out ++ [n / 256, n % 256]).map (Value.int .u8)) ∧ Below base w w' ∧ Kept' w w' := by
  obtain ⟨i0, hi0, hz0, hz1, hz2⟩ := info_parts Tryd.info5b
  have hnew := two_new w (.int .u8 (n / 256)) (.int .u8 (n % 256)) 5
  have hrowA := hrow.alloc (.cells #[.int .u8 (n / 256), .int .u8 (n % 256)] 5)
  have bA : Below base w (w.alloc (.cells #[.int .u8 (n / 256), .int .u8 (n % 256)] 5)) := (Below.refl _ _).alloc hB _
  have hsA : base ≤ (w.alloc (.cells #[.int .u8 (n / 256), .int .u8 (n % 256)] 5)).heap.size := by simp; omega
  have hone : ∀ u ∈ [Value.int .u8 (n / 256), .int .u8 (n % 256)], u.oneCell' = true := by intro u hu; simp at hu; rcases hu with rfl | rfl <;> rfl
  clear hrow
  go_enter Tryd.func76, Tryd.ntmps76
  go_wp2_with (at_builtin; refine wpList_append_own _ rfl (.tmp 5) (.tmp 11) 23 rfl base 5 i0 _ 1 1 Tryd.underlying23 hi0 hz0 hz1 hz2 rfl (by decide) _ _ _ rfl hrowA _ 2 2 [.int .u8 (n / 256), .int .u8 (n % 256)] rfl rfl hnew hone (by unfold maxLen; omega) (by omega) hsA ?_; intro v7 w7 ho7 hg7 _; obtain ⟨ta, tc, rfl⟩ := own_form' ho7)
  have b7 : Below base w w7 := bA.grown hg7 hsA (fun _ h => own_block hrowA h)
  have k7 : Kept' w w7 := (Kept'.alloc w _).trans (Kept'.of_grownBy hg7 hrowA)
  go_ret
  exact ⟨ta, tc, rfl, by rw [List.map_append]; exact ho7, b7, k7⟩
theorem or_pow : ∀ (k : Fin 8) (F : Fin 128), F.val < 2 ^ k.val → bits BinOp.or IntKind.u8 (F.val : Int) ((2 : Int) ^ k.val % 256) = ((F.val + 2 ^ k.val : Nat) : Int) := by decide +kernel
set_option maxRecDepth 100000 in
set_option maxHeartbeats 2000000 in
theorem flagsOf_any (l : List Tok) (g o lc : Nat) (w : World) (hg : g < w.heap.size) (hcell : ∀ j, j < l.length → w.cell? ⟨g, o + j * 3, none⟩ = some (.int .i64 (l.getD j tok0).len) ∧ w.cell? ⟨g, o + j * 3 + 1, none⟩ = some (.int .i64 (l.getD j tok0).back) ∧ w.cell? ⟨g, o + j * 3 + 2, none⟩ = some (.int .u8 (l.getD j tok0).byte)) (h8 : l.length ≤ 8) :
    Calls Tryd.prog 98 #[.slice (some ⟨g, o, none⟩) l.length lc] w fun e w' => e = .returned (.int .u8 (flagsN l)) ∧ Below w.heap.size w w' ∧ Kept' w w' := by
  go_enter Tryd.func98, Tryd.ntmps98
  go_wp2_with fail
  go_loopw [3, 8] (fun fv kv wr => ∃ (k F : Nat), k ≤ l.length ∧ kv = .int .i64 k ∧ fv = .int .u8 F ∧ Hid (F = flagsN (l.take k)) ∧ F < 2 ^ k ∧ Below w.heap.size w wr ∧ Kept' w wr) (fun _ kv _ => l.length - (intOf kv).toNat)
  case atStart => exact ⟨0, 0, Nat.zero_le _, rfl, rfl, rfl, by omega, Below.refl _ _, Kept'.refl _⟩
  case round =>
    obtain ⟨wo, rfl⟩ : ∃ x, x = wr := ⟨wr, rfl⟩
    obtain ⟨k, F, hk, rfl, rfl, HF, hF2, hbr, hko⟩ := hrel
    by_cases hlt : k < l.length
    · obtain ⟨d0, d1, d2⟩ := hcell k hlt
      replace d0 := (hbr.cell (p := ⟨g, o + k * 3, none⟩) hg).trans d0
      replace d1 := (hbr.cell (p := ⟨g, o + k * 3 + 1, none⟩) hg).trans d1
      replace d2 := (hbr.cell (p := ⟨g, o + k * 3 + 2, none⟩) hg).trans d2
      have hlt' : (k : Int) < l.length := by omega
      have HS : Hid (flagsN (l.take (k + 1)) = F + (if (l.getD k tok0).len = 0 then 0 else 2 ^ k)) := by
        show _ = _
        rw [take_snocT _ _ hlt, flagsN_snoc, HF.out, List.length_take, Nat.min_eq_left (by omega)]
      clear hcell
      generalize l.getD k tok0 = t at *
      obtain ⟨x, y, z⟩ := t
      dsimp only at d0 d1 d2 HS
      obtain ⟨x0, x1, x2, -, -, -⟩ := box_three (box_new wo #[.int .i64 x, .int .i64 y, .int .u8 z] 117)
      have bW : Below w.heap.size w (wo.alloc (.cells #[.int .i64 x, .int .i64 y, .int .u8 z] 117)) := hbr.alloc hbr.size _
      by_cases hx : x = 0
      · subst hx
        have HS : Hid (flagsN (l.take (k + 1)) = F) := by have h := HS.out; rw [if_pos rfl, Nat.add_zero] at h; exact h
        have hF3 : F < 2 ^ (k + 1) := by rw [Nat.pow_succ]; omega
        go_wp2_with fail
        exact ⟨⟨k + 1, F, by omega, by go_num, rfl, HS.out.symm, hF3, bW, hko.trans (Kept'.alloc _ _)⟩, by simp [intOf]; omega⟩
      · have hx' : (x == 0) = false := by simpa using hx
        have HS : Hid (flagsN (l.take (k + 1)) = F + 2 ^ k) := by have h := HS.out; rw [if_neg hx] at h; exact h
        have h128 : F < 128 := Nat.lt_of_lt_of_le hF2 (show 2 ^ k ≤ 2 ^ 7 from Nat.pow_le_pow_right (by decide) (by omega))
        have HO : Hid (bits BinOp.or IntKind.u8 (F : Int) ((2 : Int) ^ k % 256) = ((F + 2 ^ k : Nat) : Int)) := or_pow ⟨k, by omega⟩ ⟨F, h128⟩ hF2
        have hF3 : F + 2 ^ k < 2 ^ (k + 1) := by rw [Nat.pow_succ]; omega
        go_wp2_with fail
        exact ⟨⟨k + 1, F + 2 ^ k, by omega, by go_num, by rw [HO.out], HS.out.symm, hF3, bW, hko.trans (Kept'.alloc _ _)⟩, by simp [intOf]; omega⟩
    · obtain rfl : k = l.length := by omega
      have HE : Hid (F = flagsN l) := by show _ = _; rw [HF.out, List.take_length]
      clear hcell
      go_wp2_with fail
      go_ret
      exact ⟨by rw [← HE.out]; rfl, hbr, hko⟩

set_option maxRecDepth 100000 in
set_option maxHeartbeats 2000000 in
theorem writeToken_any (out : List Int) (x y z : Int) (base : Nat) (va : Option Addr) (vc : Nat) (w : World) (hB : base ≤ w.heap.size) (hrow : w.ownsRow base 5 1 (.slice va out.length vc) out.length (out.map (Value.int .u8))) (hgood : goodTok ⟨x, y, z⟩) (hol : out.length ≤ 100000) :
    Calls Tryd.prog 99 #[.slice va out.length vc, .agg #[.int .i64 x, .int .i64 y, .int .u8 z]] w fun e w' => ∃ ta tc, e = .returned (.slice ta (out ++ bodyT ⟨x, y, z⟩).length tc) ∧
      w'.ownsRow base 5 1 (.slice ta (out ++ bodyT ⟨x, y, z⟩).length tc) (out ++ bodyT ⟨x, y, z⟩).length ((out ++ bodyT ⟨x, y, z⟩).map (Value.int .u8)) ∧ Below base w w' ∧ Kept' w w' := by
  obtain ⟨i0, hi0, hz0, hz1, hz2⟩ := info_parts Tryd.info5b
  obtain ⟨hg0, hg1, hg2⟩ := hgood
  dsimp only at hg0 hg1 hg2
  obtain ⟨x0, x1, x2, -, -, -⟩ := box_three (box_new w #[.int .i64 x, .int .i64 y, .int .u8 z] 117)
  have bW : Below base w (w.alloc (.cells #[.int .i64 x, .int .i64 y, .int .u8 z] 117)) := (Below.refl _ _).alloc hB _
  by_cases h0 : x = 0
  · subst h0
    have HP : Hid (bodyT ⟨0, y, z⟩ = [z]) := rfl
    rw [HP.out]
    have hnew := one_at2 w (.cells #[.int .i64 0, .int .i64 y, .int .u8 z] 117) (.int .u8 z) 5
    have hrowA := (hrow.alloc (.cells #[.int .i64 0, .int .i64 y, .int .u8 z] 117)).alloc (.cells #[.int .u8 z] 5)
    have bA : Below base w ((w.alloc (.cells #[.int .i64 0, .int .i64 y, .int .u8 z] 117)).alloc (.cells #[.int .u8 z] 5)) := bW.alloc (by simp; omega) _
    have hsA : base ≤ ((w.alloc (.cells #[.int .i64 0, .int .i64 y, .int .u8 z] 117)).alloc (.cells #[.int .u8 z] 5)).heap.size := by simp; omega
    clear hrow
    go_enter Tryd.func99, Tryd.ntmps99
    go_wp2_with (at_builtin; refine wpList_append_own _ rfl (.tmp 8) (.tmp 11) 23 rfl base 5 i0 _ 1 1 Tryd.underlying23 hi0 hz0 hz1 hz2 rfl (by decide) _ _ _ rfl hrowA _ 1 1 [.int .u8 z] rfl rfl hnew (by intro u hu; simp at hu; subst hu; rfl) (by unfold maxLen; omega) (by omega) hsA ?_; intro v7 w7 ho7 hg7 _; obtain ⟨ta, tc, rfl⟩ := own_form' ho7)
    have b7 : Below base w w7 := bA.grown hg7 hsA (fun _ h => own_block hrowA h)
    have k7 : Kept' w w7 := ((Kept'.alloc w _).trans (Kept'.alloc _ _)).trans (Kept'.of_grownBy hg7 hrowA)
    go_ret
    exact ⟨ta, tc, rfl, by simpa using ho7, b7, k7⟩
  · have h0' : (x == 0) = false := by simpa using h0
    have hb2 := hg2.resolve_left h0
    have HP : Hid (bodyT ⟨x, y, z⟩ = [((x - 3) * 1024 + y - 1) / 256, ((x - 3) * 1024 + y - 1) % 256]) := by show _ = _; unfold bodyT tokX; dsimp only; rw [if_neg h0, Int.mul_comm]
    rw [HP.out]
    obtain ⟨c1, c2, c3, c4⟩ := hb2
    have hW := writePair_any out ((x - 3) * 1024 + y - 1) base va vc _ (Nat.le_trans hB bW.size) (hrow.alloc (.cells #[.int .i64 x, .int .i64 y, .int .u8 z] 117)) (by omega) (by omega) hol
    clear hrow hg2
    go_enter Tryd.func99, Tryd.ntmps99
    go_wp2_with fail
    refine hW.mono ?_
    rintro r w1 ⟨ta, tc, rfl, ho1, hb1, hk1⟩
    have b1 := bW.trans hb1
    have k1 : Kept' w w1 := (Kept'.alloc w _).trans hk1
    clear hW hb1 hk1
    go_wp2_with fail
    go_ret
    exact ⟨ta, tc, by rw [List.length_append]; rfl, by rw [List.length_append]; exact ho1, b1, k1⟩
set_option maxRecDepth 100000 in
set_option maxHeartbeats 4000000 in
theorem writeGroup_any (out : List Int) (l : List Tok) (g o lc : Nat) (base : Nat) (va : Option Addr) (vc : Nat) (w : World) (hB : base ≤ w.heap.size) (hrow : w.ownsRow base 5 1 (.slice va out.length vc) out.length (out.map (Value.int .u8))) (hol : out.length ≤ 50000)
    (hg : g < base) (hcell : ∀ j, j < l.length → w.cell? ⟨g, o + j * 3, none⟩ = some (.int .i64 (l.getD j tok0).len) ∧ w.cell? ⟨g, o + j * 3 + 1, none⟩ = some (.int .i64 (l.getD j tok0).back) ∧ w.cell? ⟨g, o + j * 3 + 2, none⟩ = some (.int .u8 (l.getD j tok0).byte)) (h8 : l.length ≤ 8) (hgood : ∀ j, j < l.length → goodTok (l.getD j tok0)) :
    Calls Tryd.prog 78 #[.slice va out.length vc, .slice (some ⟨g, o, none⟩) l.length lc] w fun e w' => ∃ ta tc, e = .returned (.slice ta (out ++ groupB l).length tc) ∧
      w'.ownsRow base 5 1 (.slice ta (out ++ groupB l).length tc) (out ++ groupB l).length ((out ++ groupB l).map (Value.int .u8)) ∧ Below base w w' ∧ Kept' w w' := by
  obtain ⟨i0, hi0, hz0, hz1, hz2⟩ := info_parts Tryd.info5b
  have hF := flagsOf_any l g o lc w (Nat.lt_of_lt_of_le hg hB) hcell h8
  obtain ⟨F, HF⟩ : ∃ F : Nat, Hid (flagsN l = F) := ⟨_, rfl⟩
  rw [HF.out] at hF
  go_enter Tryd.func78, Tryd.ntmps78
  go_wp2_with fail
  refine hF.mono ?_
  rintro r w1 ⟨rfl, hb1, hk1⟩
  have hs1 := hb1.size
  have b1 : Below base w w1 := hb1.mono hB
  have hnew := cell_one_new w1 (.int .u8 (F : Int)) 5
  have hrowA := (own_below hrow hb1 (Nat.le_refl _)).alloc (.cells #[.int .u8 (F : Int)] 5)
  have bA : Below base w (w1.alloc (.cells #[.int .u8 (F : Int)] 5)) := b1.alloc (by omega) _
  have hsA : base ≤ (w1.alloc (.cells #[.int .u8 (F : Int)] 5)).heap.size := by simp; omega
  clear hrow hF hb1
  go_wp2_with (at_builtin; refine wpList_append_own _ rfl (.tmp 7) (.tmp 10) 23 rfl base 5 i0 _ 1 1 Tryd.underlying23 hi0 hz0 hz1 hz2 rfl (by decide) _ _ _ rfl hrowA _ 1 1 [.int .u8 (F : Int)] rfl rfl hnew (by intro u hu; simp at hu; subst hu; rfl) (by unfold maxLen; omega) (by omega) hsA ?_; intro v7 w7 ho7 hg7 _; obtain ⟨ta, tc, rfl⟩ := own_form' ho7)
  have b7 : Below base w w7 := bA.grown hg7 hsA (fun _ h => own_block hrowA h)
  have k7 : Kept' w w7 := (hk1.trans (Kept'.alloc _ _)).trans (Kept'.of_grownBy hg7 hrowA)
  have ho7' : w7.ownsRow base 5 1 (.slice ta (out.length + 1) tc) (out.length + 1) ((out ++ [(F : Int)]).map (Value.int .u8)) := by rw [List.map_append]; exact ho7
  clear ho7 hrowA bA hsA hg7 hnew b1
  go_loopw [0, 14] (fun ov kv wr => ∃ (k : Nat) (cur : List Int), k ≤ l.length ∧ kv = .int .i64 k ∧ Hid (cur = out ++ [(F : Int)] ++ (l.take k).flatMap bodyT) ∧ cur.length ≤ out.length + 1 + 2 * k ∧ (∃ ra rc, ov = .slice ra cur.length rc ∧ wr.ownsRow base 5 1 (.slice ra cur.length rc) cur.length (cur.map (Value.int .u8))) ∧ Below base w wr ∧ Kept' w wr) (fun _ kv _ => l.length - (intOf kv).toNat)
  case atStart => exact ⟨0, out ++ [(F : Int)], Nat.zero_le _, rfl, by show _ = _; simp, by simp, ⟨ta, tc, by simp, by rw [List.length_append]; exact ho7'⟩, b7, k7⟩
  case round =>
    obtain ⟨wo, rfl⟩ : ∃ x, x = wr := ⟨wr, rfl⟩
    obtain ⟨k, cur, hk, rfl, HC, hcl, ⟨ra, rc, rfl, hrow⟩, hbr, hko⟩ := hrel
    clear b7 ho7' k7 hk1
    by_cases hlt : k < l.length
    · obtain ⟨d0, d1, d2⟩ := hcell k hlt
      replace d0 := (hbr.cell (p := ⟨g, o + k * 3, none⟩) hg).trans d0
      replace d1 := (hbr.cell (p := ⟨g, o + k * 3 + 1, none⟩) hg).trans d1
      replace d2 := (hbr.cell (p := ⟨g, o + k * 3 + 2, none⟩) hg).trans d2
      have hlt' : (k : Int) < l.length := by omega
      have hgt := hgood k hlt
      have HS : Hid (out ++ [(F : Int)] ++ (l.take (k + 1)).flatMap bodyT = cur ++ bodyT (l.getD k tok0)) := by
        show _ = _
        rw [take_snocT _ _ hlt, List.flatMap_append, ← List.append_assoc, ← HC.out]
        simp
      clear hcell hgood
      generalize l.getD k tok0 = t at *
      obtain ⟨x, y, z⟩ := t
      dsimp only at d0 d1 d2
      have hso := hbr.size
      obtain ⟨x0, x1, x2, -, -, -⟩ := box_three (box_new wo #[.int .i64 x, .int .i64 y, .int .u8 z] 117)
      have bW : Below base w (wo.alloc (.cells #[.int .i64 x, .int .i64 y, .int .u8 z] 117)) := hbr.alloc (by omega) _
      have hW := writeToken_any cur x y z base ra rc _ (by simp; omega) (hrow.alloc (.cells #[.int .i64 x, .int .i64 y, .int .u8 z] 117)) hgt (by omega)
      have hbl := (bodyT_le ⟨x, y, z⟩).1
      clear hrow hbr hgt
      go_wp2_with fail
      refine hW.mono ?_
      rintro r w2 ⟨pa, pc, rfl, ho2, hb2, hk2⟩
      have b2 := bW.trans hb2
      have k2 : Kept' w w2 := (hko.trans (Kept'.alloc _ _)).trans hk2
      clear hW hb2 bW hk2 hko
      have hn2 : (cur ++ bodyT ⟨x, y, z⟩).length ≤ out.length + 1 + 2 * (k + 1) := by rw [List.length_append]; omega
      generalize cur ++ bodyT ⟨x, y, z⟩ = cur2 at *
      go_wp2_with fail
      exact ⟨⟨k + 1, cur2, by omega, by go_num, HS.out.symm, hn2, ⟨pa, pc, rfl, ho2⟩, b2, k2⟩, by simp [intOf]; omega⟩
    · obtain rfl : k = l.length := by omega
      have HE : Hid (cur = out ++ groupB l) := by
        show _ = _
        rw [HC.out, List.take_length, ← HF.out, List.append_assoc]
        rfl
      clear hcell hgood
      go_wp2_with fail
      go_ret
      exact ⟨ra, rc, by rw [← HE.out]; rfl, by rw [← HE.out]; exact hrow, hbr, hko⟩

end Go.Proofs.YtkjlchfmplcobadDoor
