/- The plain mathematics between the two digests: block by block, and byte by byte. Nothing of the program is in it. -/
import Derived.Test.YtkjlchfmplcobaaDoorShaSum
import Derived.Test.YtkjlchfmplcobaaDoorShaOwn
namespace Go.Proofs.YtkjlchfmplcobaaDoor
open Go.RowKit

/-- The words behind t blocks of M. -/
def stB (M : List Int) : Nat → St
  | 0 => st0
  | t + 1 => (stB M t).mix ((M.drop (64 * t)).take 64)
theorem set_next (b0 B : List Int) (i : Nat) (h0 : b0.length = 64) (hB : B.length = 64) (hi : i < 64) : (B.take i ++ b0.drop i).set i (B.getD i 0) = B.take (i + 1) ++ b0.drop (i + 1) := by
  have hl : (B.take i).length = i := by rw [List.length_take]; omega
  rw [List.set_append, if_neg (by omega), hl, Nat.sub_self, take_next B i (by omega), List.append_assoc]
  congr 1
  rw [List.drop_eq_getElem_cons (by omega), List.set_cons_zero]
  rfl
/-- One block, byte by byte. -/
theorem block_partly (r : Rn) (B : List Int) (hc : r.c % 64 = 0) (h0 : r.blk.length = 64) (hB : B.length = 64) (i : Nat) (hi : i < 64) : r.all (B.take i) = ⟨r.s, B.take i ++ r.blk.drop i, r.c + i⟩ := by
  induction i with
  | zero => simp [Rn.all]
  | succ i ih =>
    have hm : (r.c + i) % 64 = i := by omega
    rw [take_next B i (by omega), Rn.all_snoc, ih (by omega), Rn.push]
    simp only [hm]
    rw [if_neg (by omega), set_next r.blk B i h0 hB (by omega), ← take_next B i (by omega)]
    rfl
theorem block_whole (r : Rn) (B : List Int) (hc : r.c % 64 = 0) (h0 : r.blk.length = 64) (hB : B.length = 64) : r.all B = ⟨r.s.mix B, B, r.c + 64⟩ := by
  have h := block_partly r B hc h0 hB 63 (by omega)
  have hm : (r.c + 63) % 64 = 63 := by omega
  have e : B = B.take 63 ++ [B.getD 63 0] := by rw [← take_next B 63 (by omega), List.take_of_length_le (by omega)]
  have hs := set_next r.blk B 63 h0 hB (by omega)
  rw [show B.take (63 + 1) = B from List.take_of_length_le (by omega), show r.blk.drop (63 + 1) = [] from List.drop_eq_nil_of_le (by omega), List.append_nil] at hs
  conv => lhs; rw [e]
  rw [Rn.all_snoc, h, Rn.push]
  simp only [hm]
  rw [if_pos (by omega), hs]
theorem all_blocks (M : List Int) (T : Nat) (hM : M.length = 64 * T) (t : Nat) (ht : t ≤ T) : (rn0.all (M.take (64 * t))).s = stB M t ∧ (rn0.all (M.take (64 * t))).c = 64 * t ∧ (rn0.all (M.take (64 * t))).blk.length = 64 := by
  induction t with
  | zero => exact ⟨by simp [Rn.all, stB, rn0], by simp [Rn.all, rn0], by simp [Rn.all, rn0]⟩
  | succ t ih =>
    obtain ⟨h1, h2, h3⟩ := ih (by omega)
    have hl : ((M.drop (64 * t)).take 64).length = 64 := by rw [List.length_take, List.length_drop]; omega
    have e : M.take (64 * (t + 1)) = M.take (64 * t) ++ (M.drop (64 * t)).take 64 := by
      rw [show 64 * (t + 1) = 64 * t + 64 by omega, List.take_add]
    rw [e, Rn.all_append, block_whole _ _ (by rw [h2]; omega) h3 hl]
    exact ⟨by show St.mix _ _ = _; rw [h1]; rfl, by show _ + 64 = _; rw [h2]; omega, hl⟩
theorem shaL_blocks (zs : List Int) (T : Nat) (hM : (zs ++ padL zs.length).length = 64 * T) : shaL zs = (stB (zs ++ padL zs.length) T).out := by
  have := (all_blocks (zs ++ padL zs.length) T hM T (Nat.le_refl _)).1
  rw [← hM, List.take_length, Rn.all_append] at this
  show ((rn0.all zs).all (padL zs.length)).s.out = _
  rw [this]
/-- A word, byte by byte. -/
def accI (f : Nat → Int) : Nat → Int
  | 0 => 0
  | j + 1 => accI f j * 256 + f j
theorem acc_word (f : Nat → Int) (h : ∀ j, 0 ≤ f j ∧ f j < 256) : accI f 4 = U (word (f 0) (f 1) (f 2) (f 3)) := by
  have h0 := h 0
  have h1 := h 1
  have h2 := h 2
  have h3 := h 3
  simp only [accI]
  unfold U word
  obtain ⟨a, ha⟩ := Int.eq_ofNat_of_zero_le (by omega : 0 ≤ f 0 * 16777216 + f 1 * 65536 + f 2 * 256 + f 3)
  rw [ha, BitVec.ofInt_natCast, BitVec.toNat_ofNat]
  omega
theorem acc_bd (f : Nat → Int) (h : ∀ j, 0 ≤ f j ∧ f j < 256) (q : Nat) (hq : q ≤ 4) : 0 ≤ accI f q ∧ accI f q < 4294967296 ∧ (q < 4 → accI f q < 16777216) := by
  have h0 := h 0
  have h1 := h 1
  have h2 := h 2
  have h3 := h 3
  have e : q = 0 ∨ q = 1 ∨ q = 2 ∨ q = 3 ∨ q = 4 := by omega
  rcases e with rfl | rfl | rfl | rfl | rfl <;> simp only [accI] <;> omega
theorem block_get (M : List Int) (t i : Nat) (hi : i < 64) : ((M.drop (64 * t)).take 64).getD i 0 = M.getD (64 * t + i) 0 := by
  rw [List.getD_eq_getElem?_getD, List.getD_eq_getElem?_getD, List.getElem?_take, if_pos hi, List.getElem?_drop]
theorem set_word (l m : List (BitVec 32)) (i : Nat) (hl : l.length = 8) (hm : m.length = 8) (hi : i < 8) : (m.take i ++ l.drop i).set i (m.getD i 0) = m.take (i + 1) ++ l.drop (i + 1) := by
  have h1 : (m.take i).length = i := by rw [List.length_take]; omega
  rw [List.set_append, if_neg (by omega), h1, Nat.sub_self, List.take_succ_eq_append_getElem (by omega), List.append_assoc]
  congr 1
  rw [List.drop_eq_getElem_cons (by omega), List.set_cons_zero, List.getD_eq_getElem?_getD, List.getElem?_eq_getElem (by omega)]
  rfl
theorem mid_word (l m : List (BitVec 32)) (i : Nat) (hm : m.length = 8) (hi : i < 8) : (m.take i ++ l.drop i).getD i 0 = l.getD i 0 := by
  have h1 : (m.take i).length = i := by rw [List.length_take]; omega
  rw [List.getD_eq_getElem?_getD, List.getElem?_append_right (by omega), h1, Nat.sub_self, List.getElem?_drop, Nat.add_zero, List.getD_eq_getElem?_getD]
theorem add_word (s r : St) (i : Nat) (hi : i < 8) : (s.add r).list.getD i 0 = s.list.getD i 0 + r.list.getD i 0 := by
  have h : i = 0 ∨ i = 1 ∨ i = 2 ∨ i = 3 ∨ i = 4 ∨ i = 5 ∨ i = 6 ∨ i = 7 := by omega
  rcases h with rfl | rfl | rfl | rfl | rfl | rfl | rfl | rfl <;> rfl
theorem byte_take (x : BitVec 32) (e : Nat) (he : e < 4) : (byte4 x).take (e + 1) = (byte4 x).take e ++ [U x / 2 ^ (24 - 8 * e) % 256] := by
  have h : e = 0 ∨ e = 1 ∨ e = 2 ∨ e = 3 := by omega
  rcases h with rfl | rfl | rfl | rfl
  · rfl
  · rfl
  · rfl
  · simp [byte4]
theorem choose_eq (e f g : BitVec 32) : (f &&& e ||| g &&& ~~~e) = ((e &&& f) ^^^ (~~~e &&& g)) := by
  apply BitVec.eq_of_getLsbD_eq
  intro i hi
  simp only [BitVec.getLsbD_or, BitVec.getLsbD_and, BitVec.getLsbD_not, BitVec.getLsbD_xor, hi, decide_true, Bool.true_and]
  cases e.getLsbD i <;> cases f.getLsbD i <;> cases g.getLsbD i <;> rfl
theorem most_eq (a b c : BitVec 32) : (a &&& b ||| a &&& c ||| b &&& c) = ((a &&& b) ^^^ (a &&& c) ^^^ (b &&& c)) := by
  apply BitVec.eq_of_getLsbD_eq
  intro i hi
  simp only [BitVec.getLsbD_or, BitVec.getLsbD_and, BitVec.getLsbD_xor]
  cases a.getLsbD i <;> cases b.getLsbD i <;> cases c.getLsbD i <;> rfl

end Go.Proofs.YtkjlchfmplcobaaDoor
