/- The walk of (*run).end: the digest of what came. -/
import Derived.Test.YtkjlchfmplcobadDoorProg
import Derived.Test.YtkjlchfmplcobadDoorShaAdd
import Derived.Test.YtkjlchfmplcobadDoorShaPad
import Derived.WalkKit
import Derived.WalkSpells
import Derived.WalkLawsBesides
namespace Go.Proofs.YtkjlchfmplcobadDoor
open Go.RowKit

def St.list (s : St) : List (BitVec 32) := [s.a, s.b, s.c, s.d, s.e, s.f, s.g, s.h]
/-- A word's four bytes, the high one first. -/
def byte4 (x : BitVec 32) : List Int := [U x / 16777216 % 256, U x / 65536 % 256, U x / 256 % 256, U x % 256]
def St.outTo (s : St) (k : Nat) : List Int := (s.list.take k).flatMap byte4
/-- The digest's thirty-two bytes. -/
def St.out (s : St) : List Int := s.list.flatMap byte4
theorem outTo_succ (s : St) (k : Nat) (hk : k < 8) : s.outTo (k + 1) = s.outTo k ++ byte4 (s.list.getD k 0) := by
  have h : k < s.list.length := hk
  unfold St.outTo
  rw [List.take_succ_eq_append_getElem h, List.flatMap_append, List.getD_eq_getElem?_getD, List.getElem?_eq_getElem h]
  simp
theorem outTo_length (s : St) (k : Nat) (hk : k ≤ 8) : (s.outTo k).length = 4 * k := by
  induction k with
  | zero => rfl
  | succ k ih => rw [outTo_succ s k (by omega), List.length_append, ih (by omega)]; simp [byte4]; omega

theorem grownBy_far {a b c : World} {row : Option Nat} {g : Nat} (h : a.grownBy b row) (k : b.grownBy c (some g)) (hg : a.heap.size ≤ g) : a.grownBy c row :=
  ⟨k.os.trans h.os, k.tape.trans h.tape, k.output.trans h.output, Nat.le_trans h.size k.size, fun i hi hn => (k.block i (Nat.lt_of_lt_of_le hi h.size) (by intro e; simp at e; omega)).trans (h.block i hi hn)⟩

theorem index8 (s : St) (k : Nat) (hk : k < 8) (w : World) :
    (Instr.index 77 (.agg #[.int .u32 (U s.a), .int .u32 (U s.b), .int .u32 (U s.c), .int .u32 (U s.d), .int .u32 (U s.e), .int .u32 (U s.f), .int .u32 (U s.g), .int .u32 (U s.h)]) (.int .i64 (k : Int))).run Tryd.prog w = .ok (.int .u32 (U (s.list.getD k 0))) w := by
  have h : k = 0 ∨ k = 1 ∨ k = 2 ∨ k = 3 ∨ k = 4 ∨ k = 5 ∨ k = 6 ∨ k = 7 := by omega
  rcases h with rfl | rfl | rfl | rfl | rfl | rfl | rfl | rfl
  · show _ = _; kernel_rfl
  · show _ = _; kernel_rfl
  · show _ = _; kernel_rfl
  · show _ = _; kernel_rfl
  · show _ = _; kernel_rfl
  · show _ = _; kernel_rfl
  · show _ = _; kernel_rfl
  · show _ = _; kernel_rfl

set_option maxRecDepth 100000 in
set_option maxHeartbeats 1000000 in
theorem end_any (r : Rn) (R : Nat) (w : World) (hr : RunAt w R r) (hK : Tab w) (hR : R < w.heap.size) (h0 : 0 < w.heap.size) (hRg : 0 ≠ R) (hn : r.c < 2305843009213693000) :
    Calls Tryd.prog 46 #[.pointer (some ⟨R, 0, none⟩)] w
      fun e w' => ∃ g, e = .returned (.slice (some ⟨g, 0, none⟩) 32 32) ∧ w'.ownsRow w.heap.size 5 1 (.slice (some ⟨g, 0, none⟩) 32 32) 32 ((r.all (padL r.c)).s.out.map (Value.int .u8)) ∧ w.grownBy w' (some R) := by
  obtain ⟨i0, hi, hz0, hz1, hz2⟩ := info_parts Tryd.info5b
  have hC : w.cell? ⟨R, 72, none⟩ = some (.int .u64 (r.c : Int)) := hr.2.2.1
  have hpl : (padL r.c).length < 100 := by
    have := padTo_length r.c 8
    have h2 : nough r.c < 64 := Nat.mod_lt _ (by omega)
    show (padTo r.c 8).length < 100
    omega
  go_enter Tryd.func46, Tryd.ntmps46
  go_wp2_with fail
  refine (padding_any r.c _ (by omega)).mono ?_
  rintro e w1 ⟨cp, rfl, hcell, hb1, hlt1⟩
  go_wp2_with fail
  have hr1 : RunAt w1 R r := hr.below hR hb1
  have hK1 : Tab w1 := tab_below hK hb1 h0
  refine (add_any r (padL r.c) w.heap.size 0 R cp w1 (by unfold maxLen; omega) (by omega) (pad_bytes _) hr1 (fun j hj => by rw [Nat.zero_add]; exact hcell j hj) hK1 (by omega) (by omega) hRg (by omega)).mono ?_
  rintro e w2 ⟨rfl, hr2, hg2⟩
  have hg : w.grownBy w2 (some R) := grownBy_trans (grownBy_below hb1) hg2
  clear hcell hr1 hK1 hC hb1 hg2 hr hK
  obtain ⟨⟨p0, p1, p2, p3, p4, p5, p6, p7⟩, -, -, -, -, -⟩ := hr2
  obtain ⟨s, hs⟩ : ∃ s, (r.all (padL r.c)).s = s := ⟨_, rfl⟩
  rw [hs] at p0 p1 p2 p3 p4 p5 p6 p7
  have HSs : Hid ((r.all (padL r.c)).s = s) := hs
  clear hs
  have hsz := hg.size
  go_wp2_with (at_make; refine wpList_make_part _ rfl _ _ 23 rfl w.heap.size 5 i0 (.int .u8 0) Tryd.underlying23 hi hz0 hz1 rfl .i64 .i64 _ _ 0 32 rfl rfl rfl rfl (by omega) (by rw [hz2]; omega) (by unfold maxLen; omega) (by omega) ?_; intro w3 hown hgrow; have q0 := hgrow.cell p0 (by simp); have q1 := hgrow.cell p1 (by simp); have q2 := hgrow.cell p2 (by simp); have q3 := hgrow.cell p3 (by simp); have q4 := hgrow.cell p4 (by simp); have q5 := hgrow.cell p5 (by simp); have q6 := hgrow.cell p6 (by simp); have q7 := hgrow.cell p7 (by simp))
  have hg3 : w.grownBy w3 (some R) := grownBy_trans hg ⟨hgrow.os, hgrow.tape, hgrow.output, hgrow.size, fun k hk _ => hgrow.block k hk (by simp)⟩
  have hi8 := index8 s
  go_loopw [3, 18] (fun v i wr => ∃ k : Nat, k ≤ 8 ∧ i = .int .i64 k ∧ v = .slice (some ⟨w2.heap.size, 0, none⟩) (4 * k) 32 ∧
      wr.ownsRow w.heap.size 5 1 (.slice (some ⟨w2.heap.size, 0, none⟩) (4 * k) 32) (4 * k) ((s.outTo k).map (Value.int .u8)) ∧ w.grownBy wr (some R)) (fun _ i _ => 8 - (intOf i).toNat)
  case atStart => exact ⟨0, by omega, rfl, rfl, hown, hg3⟩
  case round =>
    obtain ⟨k, hk, rfl, rfl, ho, hgr⟩ := hrel
    clear hown hgrow hg3 p0 p1 p2 p3 p4 p5 p6 p7 q0 q1 q2 q3 q4 q5 q6 q7
    by_cases hlt : k < 8
    · have hix := hi8 k hlt
      have HO : Hid (s.outTo (k + 1) = s.outTo k ++ byte4 (s.list.getD k 0)) := outTo_succ s k hlt
      have hl4 := outTo_length s k hk
      clear hi8
      generalize s.list.getD k 0 = x at *
      go_wp2_with (at_builtin; refine wpList_append_fits _ rfl (.tmp 21) (.tmp 33) 23 rfl w.heap.size 5 i0 1 Tryd.underlying23 hi hz1 w2.heap.size _ _ _ rfl (ho.alloc _) ⟨wr.heap.size, 0, none⟩ 4 4 ((byte4 x).map (Value.int .u8)) rfl rfl ?c1 ?c2 (by omega) ?_)
      case c1 =>
        intro j u hj
        have hlt4 : j < 4 := by have := (List.getElem?_eq_some_iff.1 hj).1; simpa [byte4] using this
        have h : j = 0 ∨ j = 1 ∨ j = 2 ∨ j = 3 := by omega
        have hadd : (⟨wr.heap.size, 0, none⟩ : Addr).add j = ⟨wr.heap.size, j, none⟩ := by unfold Addr.add; split <;> simp_all
        rw [hadd, new_cell _ _ _ _ (by simpa using hlt4)]
        rcases h with rfl | rfl | rfl | rfl <;> exact hj
      case c2 =>
        intro u hu
        obtain ⟨y, -, rfl⟩ := List.mem_map.1 hu
        rfl
      intro w4 ho4 hgrow4
      have hb4 : w.grownBy w4 (some R) := grownBy_far (grownBy_trans hgr (World.grownBy_alloc _ _ _)) hgrow4 hsz
      have ho5 : w4.ownsRow w.heap.size 5 1 (.slice (some ⟨w2.heap.size, 0, none⟩) (4 * (k + 1)) 32) (4 * (k + 1)) ((s.outTo (k + 1)).map (Value.int .u8)) := by
        rw [HO.out, List.map_append]; exact ho4
      clear ho4 hgrow4 ho hl4
      go_wp2
      go_roundw
      case rel => exact ⟨k + 1, by omega, by go_num, rfl, ho5, hb4⟩
      case measure => simp [intOf]; omega
    · obtain rfl : k = 8 := by omega
      clear hlt hk hi8
      go_wp2
      go_ret
      exact ⟨w2.heap.size, rfl, by rw [HSs.out]; exact ho, hgr⟩

end Go.Proofs.YtkjlchfmplcobadDoor
