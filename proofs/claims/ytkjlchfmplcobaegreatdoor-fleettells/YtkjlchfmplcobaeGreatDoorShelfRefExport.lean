/- The walk of yearref5.Export. -/
import Derived.Test.YtkjlchfmplcobaeGreatDoorProg
import Derived.Test.YtkjlchfmplcobaeGreatDoorRunAD
import Derived.Test.YtkjlchfmplcobaeGreatDoorRunAG
import Derived.Test.YtkjlchfmplcobaeGreatDoorPackRefWrite
import Derived.Test.YtkjlchfmplcobaeGreatDoorRunAN
import Derived.WalkKit
import Derived.WalkSpells
import Derived.WalkLawsBesides
import Derived.Deep.RegionWith
import Derived.BigRegion
namespace Go.Proofs.YtkjlchfmplcobaeGreatDoor
open Go.RowKit

theorem SegEls.far {w : World} {base k o : Nat} {vs : List Value} {l : List Seg} {cs : Array Value} {t : TypeId} {mk : Nat × Nat} (h : SegEls w base vs l) (hk : w.heap[k]? = some (.cells cs t mk)) (hne : t ≠ 5) (u : Value) : SegEls (w.setCell ⟨k, o, none⟩ u) base vs l :=
  ⟨h.1, fun j hj => by
    obtain ⟨h0, h1, y, h2, h3⟩ := h.2 j hj
    exact ⟨h0, h1, y, h2, ownsRow_setCell_other h3 (a := ⟨k, o, none⟩) (fun e => own_apart h3 hne hk e.symm) u⟩⟩
theorem OwnSegs.far {w : World} {base k o : Nat} {v : Value} {l : List Seg} {cs : Array Value} {t : TypeId} {mk : Nat × Nat} (h : OwnSegs w base v l) (hk : w.heap[k]? = some (.cells cs t mk)) (hne : t ≠ 5) (hns : t ≠ 104) (u : Value) : OwnSegs (w.setCell ⟨k, o, none⟩ u) base v l := by
  obtain ⟨vs, h1, h2⟩ := h
  exact ⟨vs, ownsRow_setCell_other h1 (a := ⟨k, o, none⟩) (fun e => own_apart h1 hns hk e.symm) u, h2.far hk hne u⟩
end Go.Proofs.YtkjlchfmplcobaeGreatDoor
