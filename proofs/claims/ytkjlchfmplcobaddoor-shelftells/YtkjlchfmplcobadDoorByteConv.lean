/- Bytes turned into a string: what it is, and that no other bytes give it. Nothing of the program's functions is in it. -/
import Derived.Test.YtkjlchfmplcobadDoorProg
import Derived.Test.YtkjlchfmplcobadDoorRunAG
import Derived.WalkKit
import Derived.WalkSpells
import Derived.WalkLawsBesides
import Derived.Laws.BytesArg
import Derived.Shelf.Bytes.SlSmallAll
namespace Go.Proofs.YtkjlchfmplcobadDoor
open Go.RowKit

theorem nums_inj {xs ys : List Int} (h1 : Bytes xs) (h2 : Bytes ys) (h : (strOfNums xs).toList = (strOfNums ys).toList) : xs = ys := by
  rw [Lib.strOfNums_toList, Lib.strOfNums_toList] at h
  have e : xs.map (fun n => UInt8.ofNat n.toNat) = ys.map (fun n => UInt8.ofNat n.toNat) := h
  have hl : xs.length = ys.length := by have := congrArg List.length e; simpa using this
  refine List.ext_getElem hl (fun j hj hj2 => ?_)
  have e2 := congrArg (fun l => l[j]?) e
  simp only [List.getElem?_map, List.getElem?_eq_getElem hj, List.getElem?_eq_getElem hj2, Option.map_some, Option.some.injEq] at e2
  have b1 := h1 j
  have b2 := h2 j
  rw [List.getD_eq_getElem?_getD, List.getElem?_eq_getElem hj] at b1
  rw [List.getD_eq_getElem?_getD, List.getElem?_eq_getElem hj2] at b2
  simp only [Option.getD_some] at b1 b2
  have e3 := congrArg UInt8.toNat e2
  simp only [UInt8.toNat_ofNat'] at e3
  omega
theorem BytesAt.conv {w : World} {v : Value} {zs : List Int} (h : BytesAt w v zs) : (convert 23 9 v).run Tryd.prog w = .ok (.string (strOfNums zs)) w := by
  rcases h with ⟨rfl, a, c, rfl, -⟩ | ⟨b, off, cp, rfl, -, hc⟩
  · exact run_convert_bytes_zero w 23 5 Tryd.underlying23 Tryd.underlying5 a c 9 Tryd.underlying9
  · exact run_convert_bytes_arg (P := Tryd.prog) w 23 5 Tryd.underlying23 Tryd.underlying5 b off _ cp zs rfl hc 9 Tryd.underlying9

end Go.Proofs.YtkjlchfmplcobadDoor
