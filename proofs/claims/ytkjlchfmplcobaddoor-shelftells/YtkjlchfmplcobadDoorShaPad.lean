/- The walk of sha.padding. -/
import Derived.Test.YtkjlchfmplcobadDoorProg
import Derived.Test.YtkjlchfmplcobadDoorRunAG
import Derived.WalkKit
import Derived.WalkSpells
import Derived.WalkLawsBesides
namespace Go.Proofs.YtkjlchfmplcobadDoor
open Go.RowKit

/-- 'make' with a length and a capacity, of elements of one cell. -/
theorem wpList_make_part {P : Program} (w : World) {ops : Array Oper} {rest : List Oper} {o : Oper} {a : Act} {Q : Exit → Act → World → Prop}
    (hg : o.guard = none) (l c : Operand) (t : TypeId) (hop : o.op = Op.makeSlice t l c)
    (base : Nat) (e : TypeId) (i : TypeInfo) (z : Value) (h1 : P.underlying t = some (.slice e)) (h2 : P.info? e = some i) (h3 : i.zero = some z) (h4 : i.size = 1) (hz : z.cells = #[z])
    (kl kc : IntKind) (L C : Int) (m n : Nat) (hl : a.eval l = .int kl L) (hc : a.eval c = .int kc C) (hL : L = (m : Int)) (hC : C = (n : Int)) (hmn : m ≤ n) (b2 : i.bytes * n ≤ 281474976710656) (b3 : n ≤ maxLen) (b4 : base ≤ w.heap.size)
    (hK : ∀ w', w'.ownsRow base e 1 (.slice (some ⟨w.heap.size, 0, none⟩) m n) m (List.replicate m z) → w.grownBy w' none → wpList P ops Q rest (a.put o.dst (.slice (some ⟨w.heap.size, 0, none⟩) m n)) w') :
    wpList P ops Q (o :: rest) a w := by
  refine wpList_plain hg fun K hK' => ?_
  subst hL
  subst hC
  have b3' : (n : Int) ≤ 9223372036854775807 := by simp [maxLen] at b3; omega
  have b2' : (i.bytes : Int) * (n : Int) ≤ 281474976710656 := by
    have h : ((i.bytes * n : Nat) : Int) ≤ 281474976710656 := by omega
    rwa [Int.natCast_mul] at h
  have hr := run_make (P := P) w t e i z h1 h2 h3 kl kc m n (by omega) (by omega) b2' b3'
  simp only [Int.toNat_natCast] at hr
  unfold Oper.wp
  simp [execOp, hop, hl, hc, hr, Result.andThen]
  refine hK' _ _ (hK _ ⟨by simp, .inr ⟨w.heap.size, n, madeCells z.cells (n * i.size), rfl, b4, ?_, hmn, b3, by rw [size_madeCells, h4], ?_⟩⟩ (World.grownBy_alloc w _ none))
  · show (w.heap.push _)[w.heap.size]? = _; simp
  · rw [h4, hz, Nat.mul_one, Nat.mul_one]
    apply List.ext_getElem?
    intro j
    simp only [madeCells, List.getElem?_take, List.getElem?_replicate, Array.toList_map, Array.toList_range, List.getElem?_map]
    by_cases hj : j < m
    · rw [if_pos hj, if_pos hj, List.getElem?_range (by omega)]
      simp [Nat.mod_one]
    · rw [if_neg hj, if_neg hj]

/-- How many noughts. -/
def nough (c : Nat) : Nat := (119 - c % 64) % 64
/-- Byte k of how many bits c bytes have, the high ones first. -/
def bitsByte (c k : Nat) : Int := (c : Int) * 8 / 2 ^ (56 - 8 * k) % 256
/-- What comes behind c bytes, but for the last 8 - k of the length's. -/
def padTo (c k : Nat) : List Int := (128 :: List.replicate (nough c) 0) ++ (List.range k).map (bitsByte c)
def padL (c : Nat) : List Int := padTo c 8
theorem padTo_length (c k : Nat) : (padTo c k).length = 1 + nough c + k := by simp [padTo]; omega
theorem padTo_succ (c k : Nat) : padTo c (k + 1) = padTo c k ++ [bitsByte c k] := by simp [padTo, List.range_succ]

theorem pad_first {w : World} {base g c : Nat} (e : TypeId) (h : w.ownsRow base e 1 (.slice (some ⟨g, 0, none⟩) (1 + nough c) (1 + nough c + 8)) (1 + nough c) (List.replicate (1 + nough c) (.int .u8 0))) :
    w.cell? ⟨g, 0, none⟩ = some (.int .u8 0) ∧ w.frozen? ⟨g, 0, none⟩ = false ∧
    (w.setCell ⟨g, 0, none⟩ (.int .u8 128)).ownsRow base e 1 (.slice (some ⟨g, 0, none⟩) (1 + nough c + 0) (1 + nough c + 8)) (1 + nough c + 0) ((padTo c 0).map (Value.int .u8)) := by
  refine ⟨?_, h.frozenAt 0, ?_⟩
  · rw [h.cellAt 0 (by omega), List.getElem?_replicate, if_pos (by omega)]
  · have := (h.stored 0 (.int .u8 128)).1
    rw [Nat.add_comm 1, List.replicate_succ, List.set_cons_zero] at this
    simpa [padTo, Nat.add_comm 1] using this

set_option maxRecDepth 100000 in
set_option maxHeartbeats 1000000 in
theorem padding_any (c : Nat) (w : World) (hc : c < 2305843009213693952) :
    Calls Tryd.prog 74 #[.int .u64 (c : Int)] w fun e w' => ∃ cp, e = .returned (.slice (some ⟨w.heap.size, 0, none⟩) (padL c).length cp) ∧ (∀ j, j < (padL c).length → w'.cell? ⟨w.heap.size, j, none⟩ = some (.int .u8 ((padL c).getD j 0))) ∧ Below w.heap.size w w' ∧ w.heap.size < w'.heap.size := by
  obtain ⟨i0, hi, hz0, hz1, hz2⟩ := info_parts Tryd.info5b
  have hno : nough c < 64 := Nat.mod_lt _ (by omega)
  have e1 : (119 - (c : Int) % 64) % 64 = ((nough c : Nat) : Int) := by unfold nough; omega
  go_enter Tryd.func74, Tryd.ntmps74
  go_wp2_with (at_make; refine wpList_make_part _ rfl _ _ 23 rfl w.heap.size 5 i0 (.int .u8 0) Tryd.underlying23 hi hz0 hz1 rfl .u64 .u64 _ _ (1 + nough c) (1 + nough c + 8) rfl rfl (by omega) (by omega) (by omega) (by rw [hz2]; omega) (by unfold maxLen; omega) (Nat.le_refl _) ?_; intro w1 hown hgrow; obtain ⟨q0, q1, q2⟩ := pad_first 5 hown)
  have hb1 : Below w.heap.size w (w1.setCell ⟨w.heap.size, 0, none⟩ (.int .u8 128)) := ((Below.refl _ _).grown hgrow (Nat.le_refl _) (fun k h => by cases h)).setCell (Nat.le_refl _) _
  clear hown hgrow q0 q1
  go_loopw [4, 6] (fun v i wr => ∃ k : Nat, k ≤ 8 ∧ i = .int .i64 (56 - 8 * (k : Int)) ∧ v = .slice (some ⟨w.heap.size, 0, none⟩) (1 + nough c + k) (1 + nough c + 8) ∧
      wr.ownsRow w.heap.size 5 1 (.slice (some ⟨w.heap.size, 0, none⟩) (1 + nough c + k) (1 + nough c + 8)) (1 + nough c + k) ((padTo c k).map (Value.int .u8)) ∧ Below w.heap.size w wr) (fun _ i _ => (intOf i + 8).toNat)
  case atStart => exact ⟨0, by omega, rfl, rfl, q2, hb1⟩
  case round =>
    obtain ⟨k, hk, rfl, rfl, hown, hb⟩ := hrel
    clear q2 hb1
    by_cases hlt : k < 8
    · have i1 : 0 ≤ 56 - 8 * (k : Int) := by omega
      have hbb : (c : Int) * 8 / 2 ^ (56 - 8 * k) % 256 = bitsByte c k := rfl
      go_wp2_with (at_builtin; refine wpList_append_fits _ rfl (.tmp 25) (.tmp 30) 23 rfl w.heap.size 5 i0 1 Tryd.underlying23 hi hz1 w.heap.size _ _ _ rfl (hown.alloc _) ⟨wr.heap.size, 0, none⟩ 1 1 [.int .u8 (bitsByte c k)] rfl rfl ?c1 ?c2 (by omega) ?_)
      case c1 => exact cell_one_new _ _ _
      case c2 => intro u hu; simp at hu; subst hu; rfl
      intro w2 hown2 hgrow2
      have hb2 : Below w.heap.size w w2 := (hb.alloc hb.size _).grown hgrow2 (by have := hb.size; simp; omega) (fun k h => by cases h; exact Nat.le_refl _)
      have hown3 : w2.ownsRow w.heap.size 5 1 (.slice (some ⟨w.heap.size, 0, none⟩) (1 + nough c + (k + 1)) (1 + nough c + 8)) (1 + nough c + (k + 1)) ((padTo c (k + 1)).map (Value.int .u8)) := by
        rw [padTo_succ, List.map_append]; exact hown2
      clear hown2 hgrow2 hown hbb
      go_wp2
      go_roundw
      case rel => exact ⟨k + 1, by omega, by go_num, rfl, hown3, hb2⟩
      case measure => simp [intOf]; omega
    · obtain rfl : k = 8 := by omega
      clear hlt hk
      have hl := padTo_length c 8
      have hcell : ∀ j, j < (padL c).length → wr.cell? ⟨w.heap.size, j, none⟩ = some (.int .u8 ((padL c).getD j 0)) := fun j hj => by
        have hj' : j < (padTo c 8).length := hj
        rw [hown.cellAt j (by omega), List.getElem?_map, List.getElem?_eq_getElem hj', List.getD_eq_getElem?_getD]
        show _ = some (Value.int .u8 ((padTo c 8)[j]?.getD 0))
        rw [List.getElem?_eq_getElem hj']
        rfl
      have hlt2 : w.heap.size < wr.heap.size := by
        have := hcell 0 (by show 0 < (padTo c 8).length; omega)
        exact World.block_lt_of_cell? _ _ this
      clear hown
      go_wp2
      go_ret
      refine ⟨1 + nough c + 8, ?_, hcell, hb, hlt2⟩
      show Ending.returned _ = Ending.returned (.slice _ (padTo c 8).length _)
      rw [hl]
      rfl

theorem bitsByte_bd (c k : Nat) : 0 ≤ bitsByte c k ∧ bitsByte c k < 256 := by
  unfold bitsByte; omega
theorem pad_bytes (c : Nat) : Bytes (padL c) := fun j => by
  by_cases hj : j < (padL c).length
  · rw [List.getD_eq_getElem?_getD, List.getElem?_eq_getElem hj]
    have hm : (padL c)[j] ∈ padL c := List.getElem_mem hj
    show 0 ≤ (padL c)[j] ∧ (padL c)[j] < 256
    generalize (padL c)[j] = x at *
    simp only [padL, padTo, List.mem_append, List.mem_cons, List.mem_replicate, List.mem_map] at hm
    rcases hm with (rfl | ⟨-, rfl⟩) | ⟨k, -, rfl⟩
    · omega
    · omega
    · exact bitsByte_bd c k
  · rw [List.getD_eq_getElem?_getD, List.getElem?_eq_none (by omega)]
    exact ⟨by decide, by decide⟩

end Go.Proofs.YtkjlchfmplcobadDoor
