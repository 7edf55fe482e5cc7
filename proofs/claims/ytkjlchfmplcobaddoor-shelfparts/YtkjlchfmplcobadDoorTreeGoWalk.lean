/- The walks of walkPath and walkProof, whatever function they are handed; pathOf and proofOf. -/
import Derived.Test.YtkjlchfmplcobadDoorProg
import Derived.Test.YtkjlchfmplcobadDoorTreeGoPart
import Derived.WalkKit
import Derived.WalkSpells
import Derived.WalkLawsBesides
namespace Go.Proofs.YtkjlchfmplcobadDoor
open Go.RowKit

/-- What was below B is as it was, and so are variables of a type of which T is so. -/
structure MidT (T : TypeId → Prop) (B : Nat) (w w' : World) : Prop where
  below : Below B w w'
  box : ∀ (k : Nat) (c : Array Value) (t : TypeId), T t → w.heap[k]? = some (Obj.cells c t (0, 0)) → w'.heap[k]? = w.heap[k]?
theorem MidT.refl (T : TypeId → Prop) (B : Nat) (w : World) : MidT T B w w := ⟨Below.refl _ _, fun _ _ _ _ _ => rfl⟩
theorem MidT.trans {T : TypeId → Prop} {B : Nat} {a b c : World} (h : MidT T B a b) (g : MidT T B b c) : MidT T B a c :=
  ⟨h.below.trans g.below, fun k x t ht hk => (g.box k x t ht ((h.box k x t ht hk).trans hk)).trans (h.box k x t ht hk)⟩
theorem MidT.grown {T : TypeId → Prop} {w w' : World} {base n : Nat} {e : TypeId} {v : Value} {xs : List Value} (ho : w.ownsRow base e 1 v n xs) (hg : w.grownBy w' v.ownBlock) (hT : ∀ t, T t → t ≠ e) (hb : base ≤ w.heap.size) : MidT T base w w' :=
  ⟨(Below.refl _ _).grown hg hb (fun _ h => own_block ho h), fun k c t ht hk => by rw [grown_box hg ho hk (hT t ht), hk]⟩
theorem MidT.set {T : TypeId → Prop} {w : World} {B k : Nat} {c : Array Value} {t : TypeId} (hk : w.heap[k]? = some (.cells c t (0, 0))) (hT : ¬ T t) (hB : B ≤ k) (u : Value) : MidT T B w (w.setCell ⟨k, 0, none⟩ u) :=
  ⟨(Below.refl _ _).setCell hB _, fun j d s hs hj => by
    have hne : j ≠ k := fun e => by
      subst e
      rw [hk] at hj
      cases hj
      exact hT hs
    rw [box_set_far hj hne, hj]⟩
/-- Only the walks' own variables are looked at. -/
@[reducible] def Mid (B : Nat) (w w' : World) : Prop := MidT (fun t => t = 96) B w w'
theorem MidT.cell {T : TypeId → Prop} {B : Nat} {w w' : World} (h : MidT T B w w') {k o : Nat} {c : Array Value} {t : TypeId} (ht : T t) (hk : w.heap[k]? = some (.cells c t (0, 0))) : w'.cell? ⟨k, o, none⟩ = w.cell? ⟨k, o, none⟩ := World.cell?_of_block (h.box k c t ht hk)
theorem Mid.cell {B : Nat} {w w' : World} (h : Mid B w w') {k o : Nat} {c : Array Value} (hk : w.heap[k]? = some (.cells c 96 (0, 0))) : w'.cell? ⟨k, o, none⟩ = w.cell? ⟨k, o, none⟩ := MidT.cell h rfl hk
theorem Mid.trans {B : Nat} {a b c : World} (h : Mid B a b) (g : Mid B b c) : Mid B a c := MidT.trans h g
/-- The function value k with what it captured, called with the parts of ps one behind the other, brings I from one to the next; new variables don't touch I. -/
structure Visits (B k : Nat) (cap : Array Value) (ps : List (Nat × Nat)) (I : List (Nat × Nat) → World → Prop) : Prop where
  enters : ∀ args w, (callFunc k args).run Tryd.prog w = .ok (.enter k args) w
  keep : ∀ done w w', I done w → Below w.heap.size w w' → I done w'
  call : ∀ (done : List (Nat × Nat)) (f e : Nat) (w : World), (done ++ [(f, e)]) <+: ps → I done w → B ≤ w.heap.size → Calls Tryd.prog k (#[partV f e] ++ cap) w fun r w' => r = .returned (.tuple #[]) ∧ I (done ++ [(f, e)]) w' ∧ Mid B w w'

end Go.Proofs.YtkjlchfmplcobadDoor
