/- The walks of sha.begin and sha.Sum: the digest of bytes. -/
import Derived.Test.YtkjlchfmplcobadDoorProg
import Derived.Test.YtkjlchfmplcobadDoorShaEnd
import Derived.WalkKit
import Derived.WalkSpells
import Derived.WalkLawsBesides
import Derived.Deep.WholeRow
namespace Go.Proofs.YtkjlchfmplcobadDoor
open Go.RowKit

/-- The first words. -/
def st0 : St := ⟨0x6a09e667, 0xbb67ae85, 0x3c6ef372, 0xa54ff53a, 0x510e527f, 0x9b05688c, 0x1f83d9ab, 0x5be0cd19⟩
/-- A digest to which nothing came. -/
def rn0 : Rn := ⟨st0, List.replicate 64 0, 0⟩
/-- The digest of bytes. -/
def shaL (zs : List Int) : List Int := ((rn0.all zs).all (padL zs.length)).s.out

/-- The zero value of a digest on its way. -/
def zRun : Array Value := (List.replicate 8 (Value.int .u32 0) ++ List.replicate 64 (Value.int .u8 0) ++ [Value.int .u64 0]).toArray
theorem info_run : (Tryd.prog.info? 81).map (fun i => (i.zero, i.size)) = some (some (.agg zRun), 73) := by kernel_rfl

/-- A digest on its way to which nothing came, its cells. -/
def iniRun : Array Value := ((((((((zRun.setIfInBounds 0 (Value.int .u32 1779033703)).setIfInBounds 1 (Value.int .u32 3144134277)).setIfInBounds 2 (Value.int .u32 1013904242)).setIfInBounds 3 (Value.int .u32 2773480762)).setIfInBounds 4 (Value.int .u32 1359893119)).setIfInBounds 5 (Value.int .u32 2600822924)).setIfInBounds 6 (Value.int .u32 528734635)).setIfInBounds 7 (Value.int .u32 1541459225))
def iniList : List Value := [.int .u32 (U st0.a), .int .u32 (U st0.b), .int .u32 (U st0.c), .int .u32 (U st0.d), .int .u32 (U st0.e), .int .u32 (U st0.f), .int .u32 (U st0.g), .int .u32 (U st0.h)] ++ List.replicate 64 (Value.int .u8 0) ++ [Value.int .u64 0]
theorem ini_list : iniRun.toList = iniList := by kernel_rfl
theorem ini_size : iniRun.size = 73 := by kernel_rfl
theorem zrun_size : zRun.size = 73 := by kernel_rfl
theorem ini_one : iniRun.all (·.oneCell') = true := by
  have h : ∀ v ∈ iniList, v.oneCell' = true := by
    intro v hv
    unfold iniList at hv
    rcases List.mem_append.1 hv with hv | hv
    · rcases List.mem_append.1 hv with hv | hv
      · simp only [List.mem_cons, List.not_mem_nil, or_false] at hv
        rcases hv with rfl | rfl | rfl | rfl | rfl | rfl | rfl | rfl <;> rfl
      · rw [(List.mem_replicate.1 hv).2]; rfl
    · rw [List.mem_singleton.1 hv]; rfl
  exact Array.all_eq_true_iff_forall_mem.2 (fun v hv => h v (by rw [← ini_list]; exact Array.mem_toList_iff.2 hv))

set_option maxRecDepth 100000 in
set_option maxHeartbeats 1000000 in
theorem begin_any (w : World) : Calls Tryd.prog 44 #[] w fun e w' => e = .returned (.agg iniRun) ∧ Below w.heap.size w w' := by
  have hz := (zero_of_info info_run).1
  have hi := (zero_of_info info_run).2
  have hzs := zrun_size
  have hrg := World.rangeAt_setCells_same (w.alloc (.cells zRun 81)) w.heap.size 0 iniRun.toList (by rw [Array.length_toList, ini_size]; exact there_new _ _ _ 73 zrun_size)
  have hb := below_setCells w.heap.size (Nat.le_refl _) iniRun.toList 0 (w.alloc (.cells zRun 81)) ((Below.refl _ _).alloc (Nat.le_refl _) _)
  go_enter Tryd.func44, Tryd.ntmps44
  go_wp2_with (refine wpList_store_mid rfl 81 (.tmp 0) (.tmp 2) rfl w.heap.size 0 iniRun rfl rfl ?_ ?_ ini_one ?_; (rw [ini_size]; exact there_new _ _ _ 73 zrun_size); (rw [ini_size]; exact hi))
  refine bodyPost_ret (results_cell1 Tryd.results44 _ _ _ w.heap.size 0 rfl iniRun.toList _ hrg Tryd.underlying81 rfl (by rw [Array.length_toList, ini_size]; exact hi)) rfl ⟨by simp, hb⟩

theorem run_new (w' : World) (R : Nat) (h : w'.rangeAt R 0 iniRun.toList) (hf : ∀ j, j < 73 → w'.frozen? ⟨R, j, none⟩ = false) : RunAt w' R rn0 := by
  have hc : ∀ j v, iniList[j]? = some v → w'.cell? ⟨R, j, none⟩ = some v := fun j v hv => by
    have := h j v (by rw [ini_list]; exact hv)
    rwa [Nat.zero_add] at this
  refine ⟨⟨hc 0 _ rfl, hc 1 _ rfl, hc 2 _ rfl, hc 3 _ rfl, hc 4 _ rfl, hc 5 _ rfl, hc 6 _ rfl, hc 7 _ rfl⟩, fun j hj => ?_, hc 72 _ rfl, hf, rfl, fun j => ?_⟩
  · refine hc (8 + j) _ ?_
    unfold iniList
    rw [List.getElem?_append_left (by simp; omega), List.getElem?_append_right (by simp)]
    have e : 8 + j - [Value.int .u32 (U st0.a), .int .u32 (U st0.b), .int .u32 (U st0.c), .int .u32 (U st0.d), .int .u32 (U st0.e), .int .u32 (U st0.f), .int .u32 (U st0.g), .int .u32 (U st0.h)].length = j := by
      show 8 + j - 8 = j; omega
    rw [e, List.getElem?_replicate, if_pos hj]
    have e2 : rn0.blk.getD j 0 = 0 := by
      show (List.replicate 64 (0 : Int)).getD j 0 = 0
      rw [List.getD_eq_getElem?_getD, List.getElem?_replicate, if_pos hj]; rfl
    rw [e2]
  · show 0 ≤ (List.replicate 64 (0 : Int)).getD j 0 ∧ (List.replicate 64 (0 : Int)).getD j 0 < 256
    have e2 : (List.replicate 64 (0 : Int)).getD j 0 = 0 := by
      rw [List.getD_eq_getElem?_getD, List.getElem?_replicate]; split <;> rfl
    rw [e2]; omega

/-- What lies in memory when the run is begun. -/
theorem sum_begun {w w1 : World} (t : TypeId) (hb1 : Below w.heap.size w w1) (hK : Tab w) (h0 : 0 < w.heap.size) :
    RunAt ((w1.alloc (.cells zRun t)).setCells w1.heap.size 0 iniRun.toList) w1.heap.size rn0 ∧ Below w.heap.size w ((w1.alloc (.cells zRun t)).setCells w1.heap.size 0 iniRun.toList) ∧
      Tab ((w1.alloc (.cells zRun t)).setCells w1.heap.size 0 iniRun.toList) ∧ w1.heap.size < ((w1.alloc (.cells zRun t)).setCells w1.heap.size 0 iniRun.toList).heap.size := by
  have hth := there_new w1 t zRun 73 zrun_size
  have hb2 : Below w.heap.size w ((w1.alloc (.cells zRun t)).setCells w1.heap.size 0 iniRun.toList) := below_setCells _ hb1.size _ _ _ (hb1.alloc hb1.size _)
  refine ⟨run_new _ _ (World.rangeAt_setCells_same _ _ _ _ (by rw [Array.length_toList, ini_size]; exact hth)) (fun j hj => ?_), hb2, tab_below hK hb2 h0, by rw [size_setCells]; simp⟩
  have := (hth j hj).2
  rw [Nat.zero_add] at this
  rw [World.frozen?_setCells]
  exact this

set_option maxRecDepth 100000 in
set_option maxHeartbeats 400000 in
theorem add_nil (R : Nat) (x : Option Addr) (c : Nat) (w : World) :
    Calls Tryd.prog 45 #[.pointer (some ⟨R, 0, none⟩), .slice x 0 c] w fun e w' => e = .returned (.tuple #[]) ∧ w' = w := by
  go_enter Tryd.func45, Tryd.ntmps45
  go_wp2
  go_loop [8] (fun i => i = .int .i64 0) (fun _ => 0)
  case atStart => rfl
  case round =>
    subst hrel
    go_wp2
    go_end0
    exact ⟨rfl, rfl⟩

theorem add_bytes (r : Rn) (zs : List Int) (v : Value) (R : Nat) (w : World) (hv : BytesAt w v zs) (hR' : ∀ b off cp, v = .slice (some ⟨b, off, none⟩) zs.length cp → 0 < zs.length → b ≠ R) (hm : zs.length ≤ maxLen) (hz : Bytes zs) (hr : RunAt w R r)
    (hK : Tab w) (hR : R < w.heap.size) (h0 : 0 < w.heap.size) (hRg : 0 ≠ R) (hn : r.c + zs.length < 18446744073709551615) :
    Calls Tryd.prog 45 #[.pointer (some ⟨R, 0, none⟩), v] w
      fun e w' => e = .returned (.tuple #[]) ∧ RunAt w' R (r.all zs) ∧ w.grownBy w' (some R) := by
  rcases hv with ⟨rfl, x, c, rfl, -⟩ | ⟨b, off, cp, rfl, hb, hc⟩
  · refine (add_nil R x c w).mono ?_
    rintro e w' ⟨rfl, rfl⟩
    exact ⟨rfl, hr, World.grownBy.refl _ _⟩
  · by_cases hl : 0 < zs.length
    · exact add_any r zs b off R cp w hm (hR' _ _ _ rfl hl) hz hr hc hK hR h0 hRg hn
    · obtain rfl : zs = [] := List.eq_nil_of_length_eq_zero (by omega)
      refine (add_nil R _ cp w).mono ?_
      rintro e w' ⟨rfl, rfl⟩
      exact ⟨rfl, hr, World.grownBy.refl _ _⟩

set_option maxRecDepth 100000 in
set_option maxHeartbeats 1000000 in
theorem sum_any (zs : List Int) (v : Value) (w : World) (hv : BytesAt w v zs) (hm : zs.length ≤ 140737488355328) (hz : Bytes zs) (hK : Tab w) (h0 : 0 < w.heap.size) :
    Calls Tryd.prog 23 #[v] w
      fun e w' => ∃ g, e = .returned (.slice (some ⟨g, 0, none⟩) 32 32) ∧ w'.ownsRow w.heap.size 5 1 (.slice (some ⟨g, 0, none⟩) 32 32) 32 ((shaL zs).map (Value.int .u8)) ∧ Below w.heap.size w w' := by
  have hz0 := (zero_of_info info_run).1
  have hi := (zero_of_info info_run).2
  go_enter Tryd.func23, Tryd.ntmps23
  go_wp2_with fail
  refine (begin_any _).mono ?_
  rintro e w1 ⟨rfl, hb1⟩
  go_wp2_with (refine wpList_store_mid rfl 81 (.tmp 3) (.tmp 4) rfl w1.heap.size 0 iniRun rfl rfl ?_ ?_ ini_one ?_; (rw [ini_size]; exact there_new _ _ _ 73 zrun_size); (rw [ini_size]; exact hi))
  obtain ⟨hrun, hb2, hK2, hlt⟩ := sum_begun 81 hb1 hK h0
  have hv2 := hv.below (Nat.le_refl _) hb2
  have hne : ∀ b off cp, v = .slice (some ⟨b, off, none⟩) zs.length cp → 0 < zs.length → b ≠ w1.heap.size := fun b off cp e hl => by
    rcases hv with ⟨h, -⟩ | ⟨b', off', cp', h, h2, -⟩
    · rw [h] at hl; simp at hl
    · rw [h] at e
      simp only [Value.slice.injEq, Option.some.injEq, Addr.mk.injEq] at e
      have := hb1.size
      omega
  refine (add_bytes rn0 zs v w1.heap.size _ hv2 hne (by unfold maxLen; omega) hz hrun hK2 hlt (Nat.lt_of_lt_of_le h0 hb2.size) (by have := hb1.size; omega) (by show 0 + zs.length < _; omega)).mono ?_
  rintro e w3 ⟨rfl, hr3, hg3⟩
  have hb3 : Below w.heap.size w w3 := hb2.grown hg3 hb2.size (fun k h => by cases h; exact hb1.size)
  have hK3 : Tab w3 := tab_below hK hb3 h0
  have hR3 : w1.heap.size < w3.heap.size := Nat.lt_of_lt_of_le hlt hg3.size
  have hc3 : (rn0.all zs).c = zs.length := by rw [Rn.all_c]; show 0 + zs.length = _; omega
  clear hrun hb2 hK2 hlt hv2 hne hv hg3
  go_wp2_with fail
  refine (end_any (rn0.all zs) w1.heap.size w3 hr3 hK3 hR3 (Nat.lt_of_lt_of_le h0 hb3.size) (by have := hb1.size; omega) (by rw [hc3]; omega)).mono ?_
  rintro e w4 ⟨g, rfl, ho, hg4⟩
  have hb4 : Below w.heap.size w w4 := hb3.grown hg4 hb3.size (fun k h => by cases h; exact hb1.size)
  have ho4 : w4.ownsRow w.heap.size 5 1 (.slice (some ⟨g, 0, none⟩) 32 32) 32 ((shaL zs).map (Value.int .u8)) := by
    have := ownsRow_base ho hb3.size
    rw [hc3] at this
    exact this
  clear ho hg4 hr3 hK3
  go_wp2_with fail
  go_ret
  exact ⟨g, rfl, ho4, hb4⟩

end Go.Proofs.YtkjlchfmplcobadDoor
