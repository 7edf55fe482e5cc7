/- The walk of sha.mix: it answers the eight words, once a block has come to them. -/
import Derived.Test.YtkjlchfmplcobadDoorProg
import Derived.Test.YtkjlchfmplcobadDoorShaSpread
import Derived.Test.YtkjlchfmplcobadDoorRunAE
import Derived.WalkKit
import Derived.WalkSpells
import Derived.WalkLawsBesides
import Derived.Deep.RegionHeld3
import Derived.BigRegion
import Derived.Deep.WholeRow
import Derived.Deep.QuietTactic
import Derived.BigQuiet
namespace Go.Proofs.YtkjlchfmplcobadDoor
open Go.RowKit

/-- The table of the rounds' words lies where the program has it. -/
def Tab (w : World) : Prop := ∀ i, i < 64 → w.cell? ⟨0, i, none⟩ = some (.int .u32 (U (kw.getD i 0)))

theorem range_new (w : World) (t : TypeId) (cs : List Value) : (w.alloc (.cells cs.toArray t)).rangeAt w.heap.size 0 cs := fun j v hv => by
  have hj := (List.getElem?_eq_some_iff.1 hv).1
  rw [Nat.zero_add, new_cell _ _ _ _ (by simpa using hj), ← hv, List.getElem?_eq_getElem hj]
  simp

/-- What holds in mix's world from its loop on: B is the block of the eight words, N that of the sixty-four. -/
def Mx (s : St) (x : List (BitVec 32)) (B N : Nat) (w wr : World) : Prop :=
  (wr.cell? ⟨B, 0, none⟩ = some (.int .u32 (U s.a)) ∧ wr.cell? ⟨B, 1, none⟩ = some (.int .u32 (U s.b)) ∧ wr.cell? ⟨B, 2, none⟩ = some (.int .u32 (U s.c)) ∧ wr.cell? ⟨B, 3, none⟩ = some (.int .u32 (U s.d)) ∧
    wr.cell? ⟨B, 4, none⟩ = some (.int .u32 (U s.e)) ∧ wr.cell? ⟨B, 5, none⟩ = some (.int .u32 (U s.f)) ∧ wr.cell? ⟨B, 6, none⟩ = some (.int .u32 (U s.g)) ∧ wr.cell? ⟨B, 7, none⟩ = some (.int .u32 (U s.h))) ∧
  (∀ j, j < 64 → wr.cell? ⟨N, j, none⟩ = some (.int .u32 (U (x.getD j 0)))) ∧ Tab wr ∧ wr.there (B + 1 + 1) 0 8 ∧ Below B w wr

theorem Mx.drewN {s : St} {x : List (BitVec 32)} {B N : Nat} {w wr : World} (h : Mx s x B N w wr) (n : Nat) : Mx s x B N w (wr.drewN n) := by
  obtain ⟨h1, h2, h3, h4, h5⟩ := h
  exact ⟨h1, h2, h3, h4, below_drewN h5 n⟩

theorem mx_start (s : St) (x : List (BitVec 32)) (hx : x.length = 64) (w w1 : World) (A8 A64 Z8 : Array Value) (t1 t2 t3 t4 : TypeId) (Z64 : Array Value) (hz : Z64.size = 64)
    (hA : A8 = #[.int .u32 (U s.a), .int .u32 (U s.b), .int .u32 (U s.c), .int .u32 (U s.d), .int .u32 (U s.e), .int .u32 (U s.f), .int .u32 (U s.g), .int .u32 (U s.h)]) (hz8 : Z8.size = 8)
    (hK : Tab w) (h0 : 0 < w.heap.size) (n : Nat) (hn : n = w.heap.size + 1 + 1 + 1)
    (hb : Below n (((w.alloc (.cells A8 t1)).alloc (.cells A64 t2)).alloc (.cells Z8 t3)) w1) :
    Mx s x w.heap.size w1.heap.size w ((w1.alloc (.cells Z64 t4)).setCells w1.heap.size 0 (x.map fun y => Value.int .u32 (U y))) ∧ w.heap.size + 1 + 1 < w1.heap.size ∧
      (w1.alloc (.cells Z64 t4)).there w1.heap.size 0 64 := by
  have hs := hb.size
  have s1 : (w.alloc (.cells A8 t1)).heap.size = w.heap.size + 1 := by simp
  have s2 : ((w.alloc (.cells A8 t1)).alloc (.cells A64 t2)).heap.size = w.heap.size + 1 + 1 := by simp
  have s3 : (((w.alloc (.cells A8 t1)).alloc (.cells A64 t2)).alloc (.cells Z8 t3)).heap.size = w.heap.size + 1 + 1 + 1 := by simp
  have hth := there_new w1 t4 Z64 64 hz
  have hbW : Below w.heap.size w (((w.alloc (.cells A8 t1)).alloc (.cells A64 t2)).alloc (.cells Z8 t3)) := (((Below.refl _ _).alloc (Nat.le_refl _) _).alloc (by simp) _).alloc (by simp; omega) _
  have hb1 : Below w.heap.size w w1 := hbW.trans (hb.mono (by omega))
  have hb2 : Below w.heap.size w ((w1.alloc (.cells Z64 t4)).setCells w1.heap.size 0 (x.map fun y => Value.int .u32 (U y))) :=
    below_setCells _ (by omega) _ _ _ (hb1.alloc (by omega) _)
  have far : ∀ b j, b < w1.heap.size → ((w1.alloc (.cells Z64 t4)).setCells w1.heap.size 0 (x.map fun y => Value.int .u32 (U y))).cell? ⟨b, j, none⟩ = w1.cell? ⟨b, j, none⟩ := fun b j hlt => by
    rw [World.cell?_setCells_out _ _ _ _ _ (fun e _ => by simp at e; omega), old_cell _ _ _ _ hlt]
  have words : ∀ j v, A8[j]? = some v → ((w1.alloc (.cells Z64 t4)).setCells w1.heap.size 0 (x.map fun y => Value.int .u32 (U y))).cell? ⟨w.heap.size, j, none⟩ = some v := fun j v hv => by
    rw [far _ _ (by omega), hb.cell (p := ⟨w.heap.size, j, none⟩) (by show w.heap.size < n; omega), old_cell _ _ _ _ (by omega), old_cell _ _ _ _ (by omega)]
    have hj := (Array.getElem?_eq_some_iff.1 hv).1
    rw [new_cell _ _ _ _ hj, ← hv, Array.getElem?_eq_getElem hj]
  refine ⟨⟨?_, fun j hj => ?_, fun i hi => ?_, ?_, hb2⟩, by omega, hth⟩
  · subst hA
    exact ⟨words 0 _ rfl, words 1 _ rfl, words 2 _ rfl, words 3 _ rfl, words 4 _ rfl, words 5 _ rfl, words 6 _ rfl, words 7 _ rfl⟩
  · have := World.cell?_setCells_in w1.heap.size (x.map fun y => Value.int .u32 (U y)) 0 (w1.alloc (.cells Z64 t4)) (fun j hj => (hth j (by simpa [hx] using hj)).1) j (by simpa [hx] using hj)
    rw [Nat.zero_add] at this
    rw [this]
    simp [hx, hj]
  · rw [hb2.cell (p := ⟨0, i, none⟩) h0]
    exact hK i hi
  · refine World.there_setCells (World.there_alloc ?_ _) _ _ _
    intro j hj
    have := there_new ((w.alloc (.cells A8 t1)).alloc (.cells A64 t2)) t3 Z8 8 hz8 j hj
    rw [s2] at this
    rw [hb.cell (p := ⟨w.heap.size + 1 + 1, 0 + j, none⟩) (by show w.heap.size + 1 + 1 < n; omega), hb.frozen (p := ⟨w.heap.size + 1 + 1, 0 + j, none⟩) (by show w.heap.size + 1 + 1 < n; omega)]
    exact this

theorem cast_world {P : Program} {c : Code} {Q : Exit → Act → World → Prop} {a : Act} {w w2 : World} (h : w2 = w) (h2 : c.wp P Q a w2) : c.wp P Q a w := by rw [← h]; exact h2

set_option maxRecDepth 100000 in
set_option maxHeartbeats 1000000 in
theorem mix_any (s : St) (bs : List Int) (w : World) (hC : bs.length = 64) (hb : ∀ j, 0 ≤ bs.getD j 0 ∧ bs.getD j 0 < 256) (hK : Tab w) (h0 : 0 < w.heap.size) :
    Calls Tryd.prog 73 #[.agg #[.int .u32 (U s.a), .int .u32 (U s.b), .int .u32 (U s.c), .int .u32 (U s.d), .int .u32 (U s.e), .int .u32 (U s.f), .int .u32 (U s.g), .int .u32 (U s.h)], .agg (bs.map (Value.int .u8)).toArray] w
      fun e w' => e = .returned (.agg #[.int .u32 (U (s.mix bs).a), .int .u32 (U (s.mix bs).b), .int .u32 (U (s.mix bs).c), .int .u32 (U (s.mix bs).d), .int .u32 (U (s.mix bs).e), .int .u32 (U (s.mix bs).f), .int .u32 (U (s.mix bs).g), .int .u32 (U (s.mix bs).h)]) ∧ Below w.heap.size w w' := by
  have hr : ∀ o1 : Obj, ∀ t : TypeId, ∀ A8 : Array Value, (((w.alloc (.cells A8 t)).alloc (.cells (bs.map (Value.int .u8)).toArray 78)).alloc o1).rangeAt (w.heap.size + 1) 0 (bs.map (Value.int .u8)) := fun o1 t A8 => by
    refine World.rangeAt_alloc ?_ _
    have := range_new (w.alloc (.cells A8 t)) 78 (bs.map (Value.int .u8))
    simpa using this
  have hi : (Tryd.prog.info? 78).map (·.size) = some (bs.map (Value.int .u8)).length := by rw [List.length_map, hC]; kernel_rfl
  go_enter Tryd.func73, Tryd.ntmps73
  go_wp2_with (refine wpList_load_mid rfl 78 (.tmp 3) rfl (w.heap.size + 1) 0 rfl (bs.map (Value.int .u8)) _ ?_ Tryd.underlying78 rfl hi ?_; exact hr _ _ _)
  refine (spread_any bs _ hC hb).mono ?_
  rintro e w1 ⟨rfl, hb1⟩
  have hx := schedTo_length bs 64
  have hms := mx_start s (schedTo bs 64) hx w w1
  have hi2 : (Tryd.prog.info? 131).map (·.size) = some ((schedTo bs 64).map fun x => Value.int .u32 (U x)).toArray.size := by simp only [List.size_toArray, List.length_map, hx]; kernel_rfl
  have hone : ((schedTo bs 64).map fun x => Value.int .u32 (U x)).toArray.all (·.oneCell') = true := all_oneCell_toArray (by
    intro v hv
    obtain ⟨x, -, rfl⟩ := List.mem_map.1 hv
    rfl)
  have hsz : ((schedTo bs 64).map fun x => Value.int .u32 (U x)).toArray.size = 64 := by simp only [List.size_toArray, List.length_map, hx]
  go_wp2_with (refine wpList_store_mid rfl 131 (.tmp 5) (.tmp 18) rfl w1.heap.size 0 _ rfl rfl ?_ hi2 hone ?_; (rw [hsz]; exact there_new _ _ _ 64 rfl))
  obtain ⟨hM, hN, -⟩ := hms _ _ _ _ _ _ 131 (Array.replicate 64 (Value.int .u32 0)) rfl rfl rfl hK h0 _ (by simp) hb1
  obtain ⟨w2, hw2⟩ : ∃ w2, w2 = (w1.alloc (.cells (Array.replicate 64 (Value.int .u32 0)) 131)).setCells w1.heap.size 0 ((schedTo bs 64).map fun x => Value.int .u32 (U x)) := ⟨_, rfl⟩
  rw [← hw2] at hM
  generalize w1.heap.size = N at *
  refine cast_world (w2 := w2) hw2 ?_
  clear hw2 hms hb1 hr hi hi2 hone hsz hK hb hC
  have HM := hM
  obtain ⟨⟨p0, p1, p2, p3, p4, p5, p6, p7⟩, -, -, -, -⟩ := hM
  go_quiet (fail)
  go_wp2
  go_quiet (fail)
  go_wp2
  go_loopw [6, 7, 8, 9, 10, 11, 12, 13, 35] (fun a b c d e f g h i wr => ∃ (k : Nat) (r : St), k ≤ 64 ∧ Hid (r = s.rounds (schedTo bs 64) k) ∧ i = .int .i64 k ∧ a = .int .u32 (U r.a) ∧ b = .int .u32 (U r.b) ∧ c = .int .u32 (U r.c) ∧ d = .int .u32 (U r.d) ∧
      e = .int .u32 (U r.e) ∧ f = .int .u32 (U r.f) ∧ g = .int .u32 (U r.g) ∧ h = .int .u32 (U r.h) ∧ Mx s (schedTo bs 64) w.heap.size N w wr) (fun _ _ _ _ _ _ _ _ i _ => 64 - (intOf i).toNat)
  case atStart => exact ⟨0, s, by omega, rfl, rfl, rfl, rfl, rfl, rfl, rfl, rfl, rfl, rfl, (HM.drewN _).drewN _⟩
  case round =>
    obtain ⟨k, r, hk, HR, rfl, rfl, rfl, rfl, rfl, rfl, rfl, rfl, rfl, hM⟩ := hrel
    clear HM p0 p1 p2 p3 p4 p5 p6 p7
    by_cases hlt : k < 64
    · have hx1 := hM.2.1 k hlt
      have hk1 := hM.2.2.1 k hlt
      have HN : Hid (r.round (kw.getD k 0) ((schedTo bs 64).getD k 0) = s.rounds (schedTo bs 64) (k + 1)) := by rw [HR.out]; rfl
      generalize kw.getD k 0 = kv at *
      generalize (schedTo bs 64).getD k 0 = xv at *
      clear HR hx
      have i1 : (k : Int) < 64 := by omega
      have i2 : (0 : Int) ≤ (k : Int) := by omega
      have u0 := U_wadd
      have u1 := U_add
      have u2 := U_and
      have u3 := U_xor
      have u4 := U_add3
      have u5 := U_add4
      have u6 := U_flip
      go_wp2
      go_quiet ((go_at_call 94; exact Calls.quiet_of_same (sum1_any _ _)))
      go_wp2_with (go_at_call 95; refine (sum0_any _ _).mono ?_; rintro e w' ⟨rfl, rfl⟩)
      go_roundw
      case rel =>
        clear u0 u1 u2 u3 u4 u5 u6
        exact ⟨k + 1, r.round kv xv, by omega, HN, by go_num, rfl, rfl, rfl, rfl, rfl, rfl, rfl, rfl, hM.drewN _⟩
      case measure => simp [intOf]; omega
    · obtain rfl : k = 64 := by omega
      clear hlt hk
      obtain ⟨⟨p0, p1, p2, p3, p4, p5, p6, p7⟩, -, -, hT, hB⟩ := hM
      have u0 := U_wadd
      have u1 := U_add
      have hi8 : (Tryd.prog.info? 77).map (·.size) = some 8 := by kernel_rfl
      have HF : Hid (s.add r = s.mix bs) := by rw [HR.out]; rfl
      clear HR hx
      have hr8 := World.rangeAt_setCells_same wr (w.heap.size + 1 + 1) 0 [.int .u32 (U (s.a + r.a)), .int .u32 (U (s.b + r.b)), .int .u32 (U (s.c + r.c)), .int .u32 (U (s.d + r.d)), .int .u32 (U (s.e + r.e)), .int .u32 (U (s.f + r.f)), .int .u32 (U (s.g + r.g)), .int .u32 (U (s.h + r.h))] hT
      have hb8 := below_setCells (w.heap.size + 1 + 1) (by omega) [.int .u32 (U (s.a + r.a)), .int .u32 (U (s.b + r.b)), .int .u32 (U (s.c + r.c)), .int .u32 (U (s.d + r.d)), .int .u32 (U (s.e + r.e)), .int .u32 (U (s.f + r.f)), .int .u32 (U (s.g + r.g)), .int .u32 (U (s.h + r.h))] 0 wr hB
      obtain ⟨v0, q0⟩ := Option.isSome_iff_exists.1 (hT 0 (by omega)).1
      have f0 := (hT 0 (by omega)).2
      rw [Nat.zero_add] at q0 f0
      obtain ⟨v1, q1⟩ := Option.isSome_iff_exists.1 (hT 1 (by omega)).1
      have f1 := (hT 1 (by omega)).2
      rw [Nat.zero_add] at q1 f1
      obtain ⟨v2, q2⟩ := Option.isSome_iff_exists.1 (hT 2 (by omega)).1
      have f2 := (hT 2 (by omega)).2
      rw [Nat.zero_add] at q2 f2
      obtain ⟨v3, q3⟩ := Option.isSome_iff_exists.1 (hT 3 (by omega)).1
      have f3 := (hT 3 (by omega)).2
      rw [Nat.zero_add] at q3 f3
      obtain ⟨v4, q4⟩ := Option.isSome_iff_exists.1 (hT 4 (by omega)).1
      have f4 := (hT 4 (by omega)).2
      rw [Nat.zero_add] at q4 f4
      obtain ⟨v5, q5⟩ := Option.isSome_iff_exists.1 (hT 5 (by omega)).1
      have f5 := (hT 5 (by omega)).2
      rw [Nat.zero_add] at q5 f5
      obtain ⟨v6, q6⟩ := Option.isSome_iff_exists.1 (hT 6 (by omega)).1
      have f6 := (hT 6 (by omega)).2
      rw [Nat.zero_add] at q6 f6
      obtain ⟨v7, q7⟩ := Option.isSome_iff_exists.1 (hT 7 (by omega)).1
      have f7 := (hT 7 (by omega)).2
      rw [Nat.zero_add] at q7 f7
      clear hT hB
      go_wp2_with fail
      refine bodyPost_ret (results_cell1 Tryd.results73 _ _ _ (w.heap.size + 1 + 1) 0 rfl [.int .u32 (U (s.a + r.a)), .int .u32 (U (s.b + r.b)), .int .u32 (U (s.c + r.c)), .int .u32 (U (s.d + r.d)), .int .u32 (U (s.e + r.e)), .int .u32 (U (s.f + r.f)), .int .u32 (U (s.g + r.g)), .int .u32 (U (s.h + r.h))] _ hr8 Tryd.underlying77 rfl hi8) rfl ⟨?_, hb8⟩
      rw [← HF.out]
      rfl

end Go.Proofs.YtkjlchfmplcobadDoor
