/- What the row's condition on the table of the rounds' words gives the walks; and how a slice of bytes that came in is opened. -/
import Derived.Test.YtkjlchfmplcobaaDoorRows
import Derived.Test.YtkjlchfmplcobaaDoorTie
import Derived.Test.YtkjlchfmplcobaaDoorShaSum
import Derived.WalkKit
import Derived.ProofKit
import Derived.LaidMore
import Derived.OpenShut
import Derived.Stop.Joined
import Derived.ShutString
import Derived.ChangeOld
import Derived.SizedLaws
import Derived.Lib.LaidTab
namespace Go.Proofs.YtkjlchfmplcobaaDoor
open Go.ChangeShapes Go.WideShapes Go.ChangeAt Go.WideMaps Go.WideElems Go.RowKit

theorem own : ownKnob Tryd.prog.godebug = none := by kernel_rfl
theorem laidOut : laidOutB Tryd.prog = true := by kernel_rfl
abbrev laidK : List (String × DataW Unit) := [("yearbook/sha.roundWords", Rows.laid_yearbook_sha_roundWords)]
def kwI : List Int := kw.map U
theorem laid_tab : (Rows.laid_yearbook_sha_roundWords : DataW Unit) = Lib.tabData .u32 kwI := by kernel_rfl
theorem gK : Tryd.prog.globalNamed "yearbook/sha.roundWords" = some 0 := by kernel_rfl
theorem tK : (Tryd.prog.globals[0]?).map (·.type) = some 100 := by kernel_rfl

theorem tab_of_laid {W : World} (h : laidMetH Tryd.prog laidK W) : Tab W ∧ 0 < W.heap.size := by
  rw [MakeChecks.laidMetH_plain _ _ _ (by kernel_rfl)] at h
  have h' : laidMet Tryd.prog (("yearbook/sha.roundWords", Lib.tabData .u32 kwI) :: []) W := by rw [← laid_tab]; exact h
  have hT := Lib.tabIs_of_head gK tK Tryd.underlying100 Tryd.underlying58 (by kernel_rfl) (by kernel_rfl) h'
  have hc : Tab W := fun i hi => by
    have h1 := hT.cell gK i (by show i < (kw.map U).length; rw [List.length_map]; exact hi)
    rw [h1]
    congr 2
    show (kw.map U).getD i 0 = U (kw.getD i 0)
    rw [List.getD_eq_getElem?_getD, List.getD_eq_getElem?_getD, List.getElem?_map, List.getElem?_eq_getElem (show i < kw.length from hi)]
    rfl
  exact ⟨hc, World.block_lt_of_cell? _ _ (hc 0 (by omega))⟩

/-- A slice of bytes that came in, opened. -/
theorem open_bytes {H : Type} {enc : TypeId × Value → H} {W : World} {base : Nat} {spare : Nat → Bool} {held : Bool} {v : Value} {d : DataW H} {p : List MemPlace}
    (hv : ∃ a len cap, v = .slice a len cap) (h : DataW.Trod enc Tryd.prog W base spare held 22 v d p) :
    ∃ zs : List Int, BytesAt W v zs ∧ Bytes zs ∧ (zs.length ≤ maxLen) ∧ (zs = [] ∨ ∃ elems sp : List (DataW H), d = .slice elems sp ∧ elems.length = zs.length) := by
  obtain ⟨a, len, cap, rfl⟩ := hv
  obtain ⟨fuel, hf⟩ := h
  rcases open_ints Tryd.underlying22 Tryd.underlying5 (by kernel_rfl) hf with ⟨hcs, hx⟩ | ⟨x, l, c, zs, hcs, _, hl, hm, hz, hx, hcell, hwz⟩
  · simp [Value.cells] at hcs
    obtain ⟨rfl, rfl, rfl⟩ := hcs
    exact ⟨[], .inl ⟨rfl, none, 0, rfl, fun _ => rfl⟩, fun j => by simp, Nat.zero_le _, .inl rfl⟩
  · simp [Value.cells] at hcs
    obtain ⟨rfl, rfl, rfl⟩ := hcs
    have hlz : len ≤ zs.length := by split at hz <;> omega
    have htl : (zs.take len).length = len := by rw [List.length_take]; omega
    have hget : ∀ j, j < len → (zs.take len).getD j 0 = zs.getD j 0 := fun j hj => by
      rw [List.getD_eq_getElem?_getD, List.getD_eq_getElem?_getD, List.getElem?_take, if_pos hj]
    have hby : Bytes (zs.take len) := fun j => by
      by_cases hj : j < len
      · rw [hget j hj, List.getD_eq_getElem?_getD, List.getElem?_eq_getElem (by omega)]
        have := hwz _ (List.getElem_mem (l := zs) (n := j) (by omega))
        have := bounds_u8 this
        exact ⟨this.1, by have := this.2; show zs[j] < 256; omega⟩
      · rw [List.getD_eq_getElem?_getD, List.getElem?_eq_none (by omega)]
        exact ⟨by decide, by decide⟩
    by_cases hpos : 0 < len
    · obtain ⟨b, off, rfl, hc⟩ := ints_at hcell (by omega)
      refine ⟨zs.take len, .inr ⟨b, off, cap, by rw [htl], ?_, fun j hj => ?_⟩, hby, by omega, .inr ⟨lits .u8 (zs.take len), lits .u8 (zs.drop len), ?_, ?_⟩⟩
      · exact World.block_lt_of_cell? _ _ (hc 0 (by omega))
      · rw [hget j (by omega)]; exact hc j (by omega)
      · exact congrArg Prod.fst hx
      · simp [lits]
    · obtain rfl : len = 0 := by omega
      exact ⟨[], .inl ⟨rfl, _, _, rfl, fun h => by cases h⟩, fun j => by simp, Nat.zero_le _, .inl rfl⟩

end Go.Proofs.YtkjlchfmplcobaaDoor
