/- The walk of submit: package fleet as it landed. -/
import Derived.Test.YtkjlchfmplcobaeGreatDoorRunAM
import Derived.Deep.RegionLaw
namespace Go.Proofs.YtkjlchfmplcobaeGreatDoor
open Go.RowKit

theorem Tryz.info37b' : (Tryz.prog.info? 37).map (fun i => (i.zero, i.size, i.bytes)) = some (some (.slice none 0 0), 1, 24) := by kernel_rfl
theorem submit_none {f : Flt} {d : Dd} (h : ¬ 200 < d.entry.length) (hh : homeOf f.shards d.time = none) : submitL f d = (f, no 6) := by unfold submitL; rw [if_neg h, hh]
theorem submit_shut {f : Flt} {d : Dd} {k : Nat} (h : ¬ 200 < d.entry.length) (hh : homeOf f.shards d.time = some k) (hs : (f.shards.getD k shd0).state ≠ 1) : submitL f d = (f, no 8) := by unfold submitL; rw [if_neg h, hh]; simp only [if_pos hs]
theorem submit_had {f : Flt} {d : Dd} {k i : Nat} (h : ¬ 200 < d.entry.length) (hh : homeOf f.shards d.time = some k) (hs : (f.shards.getD k shd0).state = 1) (hp : placeOf (f.shards.getD k shd0).entries d.entry = some i) : submitL f d = (f, ⟨0, (k : Int), (i : Int), 0, []⟩) := by
 unfold submitL; rw [if_neg h, hh]; simp only [if_neg (fun g : (f.shards.getD k shd0).state ≠ 1 => g hs), hp]
theorem submit_full {f : Flt} {d : Dd} {k : Nat} (h : ¬ 200 < d.entry.length) (hh : homeOf f.shards d.time = some k) (hs : (f.shards.getD k shd0).state = 1) (hp : placeOf (f.shards.getD k shd0).entries d.entry = none) (hl : 100 ≤ (f.shards.getD k shd0).entries.length) : submitL f d = (f, no 5) := by
 unfold submitL; rw [if_neg h, hh]; simp only [if_neg (fun g : (f.shards.getD k shd0).state ≠ 1 => g hs), hp, if_pos hl]
theorem submit_new {f : Flt} {d : Dd} {k : Nat} (h : ¬ 200 < d.entry.length) (hh : homeOf f.shards d.time = some k) (hs : (f.shards.getD k shd0).state = 1) (hp : placeOf (f.shards.getD k shd0).entries d.entry = none) (hl : ¬ 100 ≤ (f.shards.getD k shd0).entries.length) : submitL f d = (⟨f.shards.set k { (f.shards.getD k shd0) with entries := (f.shards.getD k shd0).entries ++ [d.entry] }, f.book⟩, ⟨0, (k : Int), ((f.shards.getD k shd0).entries.length : Int), 0, []⟩) := by
 unfold submitL; rw [if_neg h, hh]; simp only [if_neg (fun g : (f.shards.getD k shd0).state ≠ 1 => g hs), hp, if_neg hl]; rfl
end Go.Proofs.YtkjlchfmplcobaeGreatDoor
