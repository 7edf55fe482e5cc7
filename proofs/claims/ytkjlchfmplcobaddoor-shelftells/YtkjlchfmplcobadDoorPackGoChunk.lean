/- The library's slices.Chunk over tokens, by eights: what its iterator hands to a loop's body. -/
import Derived.RangeFuncBox
import Derived.RangeFuncLeaves
import Derived.RangeFuncCalls
import Derived.Shelf.Abstract
import Derived.Shelf.RegionOpen
import Derived.WalkKit
import Derived.OwnWalkIn
import Derived.TacticsInMore
import Derived.LoopNIn
import Derived.LoopIn
import Derived.Sort.QuietIn
import Derived.Test.YtkjlchfmplcobadDoorProg
namespace Go.Proofs.YtkjlchfmplcobadDoor
open Go.RowKit Go.Shelf

attribute [local go_sem] Oper.semAt_some

/-- Where an eight begins. -/
abbrev At8 (len : Nat) := { i : Nat // i < len ∧ i % 8 = 0 }
def cnt8 (len i : Nat) : Nat := min 8 (len - i)
@[reducible] def enc8 (b off len : Nat) (x : At8 len) : Array Value := #[.slice (some ⟨b, off + x.1 * 3, none⟩) (cnt8 len x.1) (cnt8 len x.1)]
def to8 (len : Nat) (k : Nat) (pre : List (At8 len)) : Prop := pre.map (·.1) = (List.range k).map fun q => 8 * q
theorem to8_snoc {len k : Nat} {pre : List (At8 len)} (h : to8 len k pre) (x : At8 len) (hx : x.1 = 8 * k) : to8 len (k + 1) (pre ++ [x]) := by
  unfold to8 at *
  rw [List.map_append, h, List.range_succ, List.map_append]
  simp [hx]
/-- The two boxes of the iterator lie as they lay. -/
def KeepsTwo (Bs Bn : Nat) (W W' : World) : Prop := W'.cell? ⟨Bs, 0, none⟩ = W.cell? ⟨Bs, 0, none⟩ ∧ W'.cell? ⟨Bn, 0, none⟩ = W.cell? ⟨Bn, 0, none⟩
theorem KeepsTwo.refl (Bs Bn : Nat) (W : World) : KeepsTwo Bs Bn W W := ⟨rfl, rfl⟩
theorem KeepsTwo.trans {Bs Bn : Nat} {A B C : World} (h : KeepsTwo Bs Bn A B) (k : KeepsTwo Bs Bn B C) : KeepsTwo Bs Bn A C := ⟨k.1.trans h.1, k.2.trans h.2⟩
theorem to8_length {len k : Nat} {pre : List (At8 len)} (h : to8 len k pre) : pre.length = k := by
  have := congrArg List.length h
  simpa using this

set_option maxRecDepth 100000 in
set_option maxHeartbeats 4000000 in
theorem chunk1_in (n : Nat) (hn : 1 ≤ n) (l Bs Bn b off len cap : Nat) (hlen : len ≤ cap) (hcap : len ≤ 4611686018427387904) (J Jx : List (At8 len) → World → Prop)
    (hY : ∀ pre x W, J pre W → pre.length < (len + 7) / 8 → YieldAt Fence.wide (n - 1) Tryd.prog l (enc8 b off len x) W fun e W' =>
      (e = .returned (.bool true) ∧ J (pre ++ [x]) W' ∧ KeepsTwo Bs Bn W W') ∨ (e = .returned (.bool false) ∧ Jx (pre ++ [x]) W'))
    (hdr : ∀ pre W q, J pre W → J pre (W.drewN q))
    (W : World) (hBs : W.cell? ⟨Bs, 0, none⟩ = some (.slice (some ⟨b, off, none⟩) len cap)) (hBn : W.cell? ⟨Bn, 0, none⟩ = some (.int .i64 8)) (h0 : J [] W) :
    CallsIn Fence.wide n Tryd.prog 97 #[.func (.yield l) #[] #[], .pointer (some ⟨Bs, 0, none⟩), .pointer (some ⟨Bn, 0, none⟩)] W fun e W' => (∃ v, e = .returned v) ∧
      ((∃ ys, to8 len ((len + 7) / 8) ys ∧ J ys W') ∨ (∃ pre, True ∧ Jx pre W')) := by
  refine callsIn_of_wp Tryd.func97 rfl trivial ?_ rfl
  simp only [Tryd.ntmps97, List.size_toArray, List.length_cons, List.length_nil, Nat.reduceAdd, Nat.reduceSub, Array.replicate_succ, Array.replicate_zero, List.push_toArray, List.append_toArray, List.nil_append, List.cons_append]
  gi_wp2
  gi_loopw [4] (fun i wr => ∃ (k : Nat) (pre : List (At8 len)), 8 * k ≤ len + 7 ∧ i = .int .i64 ((8 * k : Nat) : Int) ∧ to8 len k pre ∧ J pre wr ∧ KeepsTwo Bs Bn W wr)
    (fun i _ => len + 8 - (intOf i).toNat)
  case atStart => exact ⟨0, [], by omega, rfl, rfl, h0, KeepsTwo.refl _ _ _⟩
  case round =>
    obtain ⟨k, pre, hk, rfl, hto, hJs, hnx⟩ := hrel
    have e1 := hnx.1.trans hBs
    have e2 := hnx.2.trans hBn
    by_cases hlt : 8 * k < len
    · have j1 : ((8 * k : Nat) : Int) < len := by omega
      obtain ⟨i, hi⟩ : ∃ i, i = 8 * k := ⟨_, rfl⟩
      have HI : Hid (i = 8 * k) := hi
      rw [← hi] at j1 ⊢
      have hil : i < len := by omega
      have hi8 : i % 8 = 0 := by omega
      clear hi
      have j2 : (i : Int) ≤ len := by omega
      have j3 : (i : Int) ≤ cap := by omega
      rcases (show ((len : Int) - i < 8 ∧ cnt8 len i = len - i) ∨ (¬ (len : Int) - i < 8 ∧ cnt8 len i = 8) by unfold cnt8; omega) with ⟨j4, j5⟩ | ⟨j4, j5⟩
      · have HC : Hid (cnt8 len i = len - i) := j5
        clear j5
        gi_wp2
        gi_quiet (fail)
        have e3 : (wr.drewN nq).cell? ⟨Bs, 0, none⟩ = some (.slice (some ⟨b, off, none⟩) len cap) := e1
        have e4 : (wr.drewN nq).cell? ⟨Bn, 0, none⟩ = some (.int .i64 8) := e2
        have hJd := hdr pre wr nq hJs
        have hbd : KeepsTwo Bs Bn W (wr.drewN nq) := hnx
        generalize wr.drewN nq = wd at *
        obtain ⟨fn, tmps, assign, body, hy, hR⟩ := hY pre ⟨i, hil, hi8⟩ wd hJd (by rw [to8_length hto]; omega)
        simp only [enc8] at hy
        rw [HC.out] at hy
        have w1 : IntKind.i64.wrap ((i : Int) + ((len - i : Nat) : Int)) = len := by rw [IntKind.wrap_i64]; omega
        have w2 : (i : Int) + ((len - i : Nat) : Int) = len := by omega
        gi_wp2
        refine hR.mono ?_
        rintro e W3 (⟨rfl, hJ3, hk3⟩ | ⟨rfl, hJx3⟩)
        · have e5 := hk3.2.trans e4
          gi_wp2
          go_roundw
          case rel => exact ⟨k + 1, pre ++ [⟨i, hil, hi8⟩], by omega, by (congr 1; have := HI.out; omega), to8_snoc hto _ HI.out, hJ3, hbd.trans hk3⟩
          case measure => simp [intOf]; omega
        · gi_wp2
          refine bodyPost_ret (results_none rfl _ _ _) rfl ?_
          exact ⟨⟨_, rfl⟩, .inr ⟨_, trivial, hJx3⟩⟩
      · have HC : Hid (cnt8 len i = 8) := j5
        clear j5
        gi_wp2
        gi_quiet (fail)
        have e3 : (wr.drewN nq).cell? ⟨Bs, 0, none⟩ = some (.slice (some ⟨b, off, none⟩) len cap) := e1
        have e4 : (wr.drewN nq).cell? ⟨Bn, 0, none⟩ = some (.int .i64 8) := e2
        have hJd := hdr pre wr nq hJs
        have hbd : KeepsTwo Bs Bn W (wr.drewN nq) := hnx
        generalize wr.drewN nq = wd at *
        obtain ⟨fn, tmps, assign, body, hy, hR⟩ := hY pre ⟨i, hil, hi8⟩ wd hJd (by rw [to8_length hto]; omega)
        simp only [enc8] at hy
        rw [HC.out] at hy
        have j6 : (i : Int) + 8 ≤ cap := by omega
        gi_wp2
        refine hR.mono ?_
        rintro e W3 (⟨rfl, hJ3, hk3⟩ | ⟨rfl, hJx3⟩)
        · have e5 := hk3.2.trans e4
          gi_wp2
          go_roundw
          case rel => exact ⟨k + 1, pre ++ [⟨i, hil, hi8⟩], by omega, by (congr 1; have := HI.out; omega), to8_snoc hto _ HI.out, hJ3, hbd.trans hk3⟩
          case measure => simp [intOf]; omega
        · gi_wp2
          refine bodyPost_ret (results_none rfl _ _ _) rfl ?_
          exact ⟨⟨_, rfl⟩, .inr ⟨_, trivial, hJx3⟩⟩
    · have j1 : ¬ ((8 * k : Nat) : Int) < len := by omega
      have hkk : k = (len + 7) / 8 := by omega
      gi_wp2
      go_end0
      exact ⟨⟨_, rfl⟩, .inl ⟨pre, by rw [← hkk]; exact hto, hJs⟩⟩

set_option maxHeartbeats 2000000 in
theorem chunk1_nil (n l Bs Bn : Nat) (J : List (At8 0) → World → Prop) (a : Option Addr) (c : Nat) (W : World) (hBs : W.cell? ⟨Bs, 0, none⟩ = some (.slice a 0 c)) (h0 : J [] W) :
    CallsIn Fence.wide n Tryd.prog 97 #[.func (.yield l) #[] #[], .pointer (some ⟨Bs, 0, none⟩), .pointer (some ⟨Bn, 0, none⟩)] W fun e W' => (∃ v, e = .returned v) ∧ J [] W' := by
  refine callsIn_of_wp Tryd.func97 rfl trivial ?_ rfl
  simp only [Tryd.ntmps97, List.size_toArray, List.length_cons, List.length_nil, Nat.reduceAdd, Nat.reduceSub, Array.replicate_succ, Array.replicate_zero, List.push_toArray, List.append_toArray, List.nil_append, List.cons_append]
  gi_wp2
  gi_loopw [4] (fun i wr => i = .int .i64 0 ∧ wr.cell? ⟨Bs, 0, none⟩ = some (.slice a 0 c) ∧ J [] wr) (fun _ _ => 0)
  case atStart => exact ⟨rfl, hBs, h0⟩
  case round =>
    obtain ⟨rfl, hc, hJs⟩ := hrel
    gi_wp2
    go_end0
    exact ⟨⟨_, rfl⟩, hJs⟩
set_option maxHeartbeats 2000000 in
/-- slices.Chunk(l, 8): the list and the eight lie in two boxes. -/
theorem chunk_in (n : Nat) (a : Option Addr) (len cap : Nat) (w : World) :
    CallsIn Fence.wide n Tryd.prog 77 #[.slice a len cap, .int .i64 8] w fun e w' => e = .returned (.func (.func 97) #[] #[.pointer (some ⟨w.heap.size, 0, none⟩), .pointer (some ⟨w.heap.size + 1, 0, none⟩)]) ∧ w' = (w.alloc (.cells #[.slice a len cap] 87)).alloc (.cells #[.int .i64 8] 3) := by
  refine callsIn_of_wp Tryd.func77 rfl trivial ?_ rfl
  simp only [Tryd.ntmps77, List.size_toArray, List.length_cons, List.length_nil, Nat.reduceAdd, Nat.reduceSub, Array.replicate_succ, Array.replicate_zero, List.push_toArray, List.append_toArray, List.nil_append, List.cons_append]
  gi_wp2
  go_ret
  exact ⟨rfl, rfl⟩
theorem drewN_grown (W : World) (q : Nat) : W.grownBy (W.drewN q) none := ⟨rfl, rfl, rfl, Nat.le_refl _, fun _ _ _ => rfl⟩
theorem keepsTwo_b {Bs Bn : Nat} {w : World} (hs : Bs < w.heap.size) (hn : Bn < w.heap.size) (W : World) (l : Nat) (o o' : Obj) (hl : w.heap.size ≤ l) (_ : W.heap[l]? = some o) (_ : o.isCells = false) (_ : o.isWalk = false) : KeepsTwo Bs Bn W (W.putObj l o') := by
  have h : ∀ j, j ≠ l → (W.putObj l o').cell? ⟨j, 0, none⟩ = W.cell? ⟨j, 0, none⟩ := fun j hj => by
    have : (W.putObj l o').heap[j]? = W.heap[j]? := World.putObj_heap_other hj
    simp [World.cell?, this]
  exact ⟨h Bs (by omega), h Bn (by omega)⟩
theorem chunk_stops (n : Nat) (hn : 1 ≤ n) (Bs Bn b off len cap : Nat) (hlen : len ≤ cap) (hcap : len ≤ 4611686018427387904) (w : World) (hBs0 : Bs < w.heap.size) (hBn0 : Bn < w.heap.size)
    (hs : w.cell? ⟨Bs, 0, none⟩ = some (.slice (some ⟨b, off, none⟩) len cap)) (h8 : w.cell? ⟨Bn, 0, none⟩ = some (.int .i64 8)) :
    SeqStopsK Fence.wide n Tryd.prog 97 #[.pointer (some ⟨Bs, 0, none⟩), .pointer (some ⟨Bn, 0, none⟩)] (enc8 b off len) (KeepsTwo Bs Bn) (to8 len ((len + 7) / 8)) (fun _ => True) ((len + 7) / 8) w := fun l J Jx W hW hJ _ hY h0 =>
  chunk1_in n hn l Bs Bn b off len cap hlen hcap J Jx hY (fun pre W' q h => hJ pre W' _ none h (drewN_grown W' q) (fun r e => by cases e)) W ((hW.cell (p := ⟨Bs, 0, none⟩) hBs0).trans hs) ((hW.cell (p := ⟨Bn, 0, none⟩) hBn0).trans h8) h0
theorem chunk_stops_nil (n : Nat) (Bs Bn b off : Nat) (a : Option Addr) (c : Nat) (w : World) (hBs0 : Bs < w.heap.size)
    (hs : w.cell? ⟨Bs, 0, none⟩ = some (.slice a 0 c)) :
    SeqStopsK Fence.wide n Tryd.prog 97 #[.pointer (some ⟨Bs, 0, none⟩), .pointer (some ⟨Bn, 0, none⟩)] (enc8 b off 0) (KeepsTwo Bs Bn) (to8 0 ((0 + 7) / 8)) (fun _ => True) ((0 + 7) / 8) w := fun l J _ W hW _ _ _ h0 =>
  (chunk1_nil n l Bs Bn J a c W ((hW.cell (p := ⟨Bs, 0, none⟩) hBs0).trans hs) h0).mono fun _ _ ⟨he, hj⟩ => ⟨he, .inl ⟨[], rfl, hj⟩⟩

end Go.Proofs.YtkjlchfmplcobadDoor
