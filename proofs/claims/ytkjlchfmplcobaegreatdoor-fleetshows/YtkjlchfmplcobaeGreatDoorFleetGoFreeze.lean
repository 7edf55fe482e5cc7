/- The walk of freeze: package fleet as it landed. -/
import Derived.Test.YtkjlchfmplcobaeGreatDoorRunAD
import Derived.Deep.RegionLaw
namespace Go.Proofs.YtkjlchfmplcobaeGreatDoor
open Go.RowKit

theorem Tryz.info45c : (Tryz.prog.info? 45).map (fun i => (i.zero, i.size, i.bytes)) = some (some (.agg #[.int .i64 0, .int .i64 0, .int .i64 0, .int .i64 0, .slice none 0 0]), 5, 56) := by kernel_rfl
def freezeL (f : Flt) (k : Nat) : Flt × Ans := (⟨f.shards.set k { (f.shards.getD k shd0) with state := 2 }, f.book ++ [⟨(k : Int), (f.shards.getD k shd0).from', (f.shards.getD k shd0).to', ((f.shards.getD k shd0).entries.length : Int), mth (f.shards.getD k shd0).entries⟩]⟩, ⟨0, (k : Int), 0, ((f.shards.getD k shd0).entries.length : Int), mth (f.shards.getD k shd0).entries⟩)
theorem recCs_one (r : Rec) (a : Option Addr) (n c : Nat) : ∀ u ∈ recCs r (.slice a n c), u.oneCell' = true := by
 intro u hu
 simp [recCs] at hu
 rcases hu with rfl | rfl | rfl | rfl | rfl <;> rfl
end Go.Proofs.YtkjlchfmplcobaeGreatDoor
