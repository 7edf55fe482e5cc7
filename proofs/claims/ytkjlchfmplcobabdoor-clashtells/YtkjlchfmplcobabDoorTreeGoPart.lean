/- The walks of bits.Len at small numbers, part.split and part.of. -/
import Derived.Test.YtkjlchfmplcobabDoorProg
import Derived.Test.YtkjlchfmplcobabDoorTreeGoSmall
import Derived.WalkKit
import Derived.WalkSpells
import Derived.WalkLawsBesides
import Derived.Lib.BitFns
import Derived.Deep.RegionHeld3
import Derived.BigRegion
namespace Go.Proofs.YtkjlchfmplcobabDoor
open Go.RowKit

set_option maxRecDepth 100000 in
set_option maxHeartbeats 1000000 in
theorem len64_any (x : Int) (w : World) (h0 : 0 ≤ x) (h1 : x ≤ 255) :
    Calls Tryd.prog 72 #[.int .u64 x] w fun e w' => e = .returned (.int .i64 (Lib.bitLen x.toNat)) ∧ w' = w := by
  go_enter Tryd.func72, Tryd.ntmps72
  go_wp2
  go_ret
  have l := Lib.bitLen_le8' x h0 h1
  refine ⟨congrArg Ending.returned (congrArg (Value.int IntKind.i64) ?_), rfl⟩
  rw [Lib.len8_of x h0 h1]
  unfold wrap64
  omega
set_option maxRecDepth 100000 in
theorem len_any (x : Int) (w : World) (h0 : 0 ≤ x) (h1 : x ≤ 255) :
    Calls Tryd.prog 64 #[.int .u64 x] w fun e w' => e = .returned (.int .i64 (Lib.bitLen x.toNat)) ∧ w' = w := by
  go_enter Tryd.func64, Tryd.ntmps64
  go_wp2_with (go_at_call 72; refine (len64_any x w h0 h1).mono ?_; rintro e w' ⟨rfl, rfl⟩)
  go_ret
  exact ⟨rfl, rfl⟩
theorem len_split : ∀ n : Fin 101, 2 ≤ n.val → 1 ≤ Lib.bitLen (n.val - 1) ∧ Lib.bitLen (n.val - 1) ≤ 7 ∧ 2 ^ (Lib.bitLen (n.val - 1) - 1) < n.val ∧ n.val ≤ 2 * 2 ^ (Lib.bitLen (n.val - 1) - 1) := by decide +kernel
theorem split_len {n : Nat} (h2 : 2 ≤ n) (h : n ≤ 100) : ∃ e, Lib.bitLen (n - 1) = e + 1 ∧ e ≤ 6 ∧ splitN n = 2 ^ e := by
  obtain ⟨h1, h3, h4, h5⟩ := len_split ⟨n, by omega⟩ h2
  dsimp only at h1 h3 h4 h5
  refine ⟨Lib.bitLen (n - 1) - 1, by omega, by omega, splitN_unique h4 h5⟩
@[reducible] def partV (f e : Int) : Value := .agg #[.int .i64 f, .int .i64 e]
set_option maxRecDepth 100000 in
set_option maxHeartbeats 1000000 in
theorem split_part (f n : Nat) (w : World) (h2 : 2 ≤ n) (hn : n ≤ 100) (hf : f ≤ 100) :
    Calls Tryd.prog 44 #[partV f ((f : Int) + n)] w fun e w' => e = .returned (.tuple #[partV f ((f : Int) + splitN n), partV ((f : Int) + splitN n) ((f : Int) + n)]) ∧ Below w.heap.size w w' := by
  obtain ⟨e, he, he6, hs⟩ := split_len h2 hn
  have hL : ∀ w, _ := fun w => len_any ((f : Int) + n - f - 1) w (by omega) (by omega)
  have e1 : ((f : Int) + n - f - 1).toNat = n - 1 := by omega
  rw [e1, he] at hL
  have hsp := splitN_spec h2
  have hw : wrap64 ((2 : Int) ^ e) = (splitN n : Int) := by
    have h3 : ((2 : Int) ^ e) = (splitN n : Int) := by rw [hs]; simp
    rw [h3]; unfold wrap64; omega
  have hq : IntKind.i64.wrap ((f : Int) + splitN n) = (f : Int) + splitN n := by rw [IntWalk.i64_left]; unfold wrap64; omega
  clear e1 he hs
  generalize splitN n = k at *
  go_enter Tryd.func44, Tryd.ntmps44
  go_wp2_with (go_at_call 64; refine (hL _).mono ?_; rintro e w' ⟨rfl, rfl⟩)
  go_region_held3 (fun w' => w'.cell? ⟨w.heap.size, 0, none⟩ = some (.int .i64 (f : Int)) ∧ w'.cell? ⟨w.heap.size, 1, none⟩ = some (.int .i64 ((f : Int) + n))) (first | (go_keep; done) | (simp [go_sem]; done)) (fail)
  go_wp2_with fail
  exact bodyPost_ret (v := .tuple #[partV f ((f : Int) + k), partV ((f : Int) + k) ((f : Int) + n)]) (by simp [results, Tryd.results44, go_sem]) rfl ⟨rfl, ((((Below.refl _ _).alloc (Nat.le_refl _) _).alloc (by simp) _).alloc (by simp; omega) _).drew⟩
theorem splitP_any (f e : Nat) (w : World) (h2 : f + 2 ≤ e) (he : e ≤ 100) :
    Calls Tryd.prog 44 #[partV f e] w fun r w' => r = .returned (.tuple #[partV f ((f + splitN (e - f) : Nat) : Int), partV ((f + splitN (e - f) : Nat) : Int) e]) ∧ Below w.heap.size w w' := by
  have h := split_part f (e - f) w (by omega) (by omega) (by omega)
  have e1 : (f : Int) + ((e - f : Nat) : Int) = e := by omega
  have e2 : ((f + splitN (e - f) : Nat) : Int) = (f : Int) + (splitN (e - f) : Int) := by omega
  rw [e1] at h
  rw [e2]
  exact h
set_option maxRecDepth 100000 in
theorem of_any (f e : Nat) (b off n c : Nat) (w : World) (hfe : f < e) (he : e ≤ n) (hnc : n ≤ c) :
    Calls Tryd.prog 45 #[partV f e, .slice (some ⟨b, off, none⟩) n c] w fun r w' => r = .returned (.slice (some ⟨b, off + f, none⟩) (e - f) (c - f)) ∧ Below w.heap.size w w' := by
  have i1 : (f : Int) ≤ (e : Int) := by omega
  have i2 : (e : Int) ≤ (c : Int) := by omega
  have i3 : ¬ (c = f) := by omega
  go_enter Tryd.func45, Tryd.ntmps45
  go_wp2_with fail
  go_ret
  exact ⟨rfl, (Below.refl _ _).alloc (Nat.le_refl _) _⟩

end Go.Proofs.YtkjlchfmplcobabDoor
