/- TreeGoPart, TreeGoWalk, TreeGoOf, as one text. -/
import Derived.Test.YtkjlchfmplcobaeDoorProg
import Derived.Test.YtkjlchfmplcobaeDoorTreeGoSmall
import Derived.WalkKit
import Derived.WalkSpells
import Derived.WalkLawsBesides
import Derived.Lib.BitFns
import Derived.Deep.RegionHeld3
import Derived.BigRegion
/- The walks of bits.Len at small numbers, part.split and part.of. -/
namespace Go.Proofs.YtkjlchfmplcobaeDoor
open Go.RowKit

set_option maxRecDepth 100000 in
set_option maxHeartbeats 1000000 in
theorem len64_any (x : Int) (w : World) (h0 : 0 ≤ x) (h1 : x ≤ 255) :
    Calls Tryd.prog 109 #[.int .u64 x] w fun e w' => e = .returned (.int .i64 (Lib.bitLen x.toNat)) ∧ w' = w := by
  go_enter Tryd.func109, Tryd.ntmps109
  go_wp2
  go_ret
  have l := Lib.bitLen_le8' x h0 h1
  refine ⟨congrArg Ending.returned (congrArg (Value.int IntKind.i64) ?_), rfl⟩
  rw [Lib.len8_of x h0 h1]
  unfold wrap64
  omega
set_option maxRecDepth 100000 in
theorem len_any (x : Int) (w : World) (h0 : 0 ≤ x) (h1 : x ≤ 255) :
    Calls Tryd.prog 98 #[.int .u64 x] w fun e w' => e = .returned (.int .i64 (Lib.bitLen x.toNat)) ∧ w' = w := by
  go_enter Tryd.func98, Tryd.ntmps98
  go_wp2_with (go_at_call 109; refine (len64_any x w h0 h1).mono ?_; rintro e w' ⟨rfl, rfl⟩)
  go_ret
  exact ⟨rfl, rfl⟩
theorem len_split : ∀ n : Fin 101, 2 ≤ n.val → 1 ≤ Lib.bitLen (n.val - 1) ∧ Lib.bitLen (n.val - 1) ≤ 7 ∧ 2 ^ (Lib.bitLen (n.val - 1) - 1) < n.val ∧ n.val ≤ 2 * 2 ^ (Lib.bitLen (n.val - 1) - 1) := by decide +kernel
theorem split_len {n : Nat} (h2 : 2 ≤ n) (h : n ≤ 100) : ∃ e, Lib.bitLen (n - 1) = e + 1 ∧ e ≤ 6 ∧ splitN n = 2 ^ e := by
  obtain ⟨h1, h3, h4, h5⟩ := len_split ⟨n, by omega⟩ h2
  dsimp only at h1 h3 h4 h5
  refine ⟨Lib.bitLen (n - 1) - 1, by omega, by omega, splitN_unique h4 h5⟩
@[reducible] def partV (f e : Int) : Value := .agg #[.int .i64 f, .int .i64 e]
set_option maxRecDepth 100000 in
set_option maxHeartbeats 1000000 in
theorem split_part (f n : Nat) (w : World) (h2 : 2 ≤ n) (hn : n ≤ 100) (hf : f ≤ 100) :
    Calls Tryd.prog 83 #[partV f ((f : Int) + n)] w fun e w' => e = .returned (.tuple #[partV f ((f : Int) + splitN n), partV ((f : Int) + splitN n) ((f : Int) + n)]) ∧ Below w.heap.size w w' := by
  obtain ⟨e, he, he6, hs⟩ := split_len h2 hn
  have hL : ∀ w, _ := fun w => len_any ((f : Int) + n - f - 1) w (by omega) (by omega)
  have e1 : ((f : Int) + n - f - 1).toNat = n - 1 := by omega
  rw [e1, he] at hL
  have hsp := splitN_spec h2
  have hw : wrap64 ((2 : Int) ^ e) = (splitN n : Int) := by
    have h3 : ((2 : Int) ^ e) = (splitN n : Int) := by rw [hs]; simp
    rw [h3]; unfold wrap64; omega
  have hq : IntKind.i64.wrap ((f : Int) + splitN n) = (f : Int) + splitN n := by rw [IntWalk.i64_left]; unfold wrap64; omega
  clear e1 he hs
  generalize splitN n = k at *
  go_enter Tryd.func83, Tryd.ntmps83
  go_wp2_with (go_at_call 98; refine (hL _).mono ?_; rintro e w' ⟨rfl, rfl⟩)
  go_region_held3 (fun w' => w'.cell? ⟨w.heap.size, 0, none⟩ = some (.int .i64 (f : Int)) ∧ w'.cell? ⟨w.heap.size, 1, none⟩ = some (.int .i64 ((f : Int) + n))) (first | (go_keep; done) | (simp [go_sem]; done)) (fail)
  go_wp2_with fail
  exact bodyPost_ret (v := .tuple #[partV f ((f : Int) + k), partV ((f : Int) + k) ((f : Int) + n)]) (by simp [results, Tryd.results83, go_sem]) rfl ⟨rfl, ((((Below.refl _ _).alloc (Nat.le_refl _) _).alloc (by simp) _).alloc (by simp; omega) _).drew⟩
theorem splitP_any (f e : Nat) (w : World) (h2 : f + 2 ≤ e) (he : e ≤ 100) :
    Calls Tryd.prog 83 #[partV f e] w fun r w' => r = .returned (.tuple #[partV f ((f + splitN (e - f) : Nat) : Int), partV ((f + splitN (e - f) : Nat) : Int) e]) ∧ Below w.heap.size w w' := by
  have h := split_part f (e - f) w (by omega) (by omega) (by omega)
  have e1 : (f : Int) + ((e - f : Nat) : Int) = e := by omega
  have e2 : ((f + splitN (e - f) : Nat) : Int) = (f : Int) + (splitN (e - f) : Int) := by omega
  rw [e1] at h
  rw [e2]
  exact h
set_option maxRecDepth 100000 in
theorem of_any (f e : Nat) (b off n c : Nat) (w : World) (hfe : f < e) (he : e ≤ n) (hnc : n ≤ c) :
    Calls Tryd.prog 84 #[partV f e, .slice (some ⟨b, off, none⟩) n c] w fun r w' => r = .returned (.slice (some ⟨b, off + f, none⟩) (e - f) (c - f)) ∧ Below w.heap.size w w' := by
  have i1 : (f : Int) ≤ (e : Int) := by omega
  have i2 : (e : Int) ≤ (c : Int) := by omega
  have i3 : ¬ (c = f) := by omega
  go_enter Tryd.func84, Tryd.ntmps84
  go_wp2_with fail
  go_ret
  exact ⟨rfl, (Below.refl _ _).alloc (Nat.le_refl _) _⟩

end Go.Proofs.YtkjlchfmplcobaeDoor

/- The walks of walkPath and walkProof, whatever function they are handed; pathOf and proofOf. -/
namespace Go.Proofs.YtkjlchfmplcobaeDoor
open Go.RowKit

/-- What was below B is as it was, and so are variables of a type of which T is so. -/
structure MidT (T : TypeId → Prop) (B : Nat) (w w' : World) : Prop where
  below : Below B w w'
  box : ∀ (k : Nat) (c : Array Value) (t : TypeId), T t → w.heap[k]? = some (Obj.cells c t (0, 0)) → w'.heap[k]? = w.heap[k]?
theorem MidT.refl (T : TypeId → Prop) (B : Nat) (w : World) : MidT T B w w := ⟨Below.refl _ _, fun _ _ _ _ _ => rfl⟩
theorem MidT.trans {T : TypeId → Prop} {B : Nat} {a b c : World} (h : MidT T B a b) (g : MidT T B b c) : MidT T B a c :=
  ⟨h.below.trans g.below, fun k x t ht hk => (g.box k x t ht ((h.box k x t ht hk).trans hk)).trans (h.box k x t ht hk)⟩
theorem MidT.grown {T : TypeId → Prop} {w w' : World} {base n : Nat} {e : TypeId} {v : Value} {xs : List Value} (ho : w.ownsRow base e 1 v n xs) (hg : w.grownBy w' v.ownBlock) (hT : ∀ t, T t → t ≠ e) (hb : base ≤ w.heap.size) : MidT T base w w' :=
  ⟨(Below.refl _ _).grown hg hb (fun _ h => own_block ho h), fun k c t ht hk => by rw [grown_box hg ho hk (hT t ht), hk]⟩
theorem MidT.set {T : TypeId → Prop} {w : World} {B k : Nat} {c : Array Value} {t : TypeId} (hk : w.heap[k]? = some (.cells c t (0, 0))) (hT : ¬ T t) (hB : B ≤ k) (u : Value) : MidT T B w (w.setCell ⟨k, 0, none⟩ u) :=
  ⟨(Below.refl _ _).setCell hB _, fun j d s hs hj => by
    have hne : j ≠ k := fun e => by
      subst e
      rw [hk] at hj
      cases hj
      exact hT hs
    rw [box_set_far hj hne, hj]⟩
/-- Only the walks' own variables are looked at. -/
@[reducible] def Mid (B : Nat) (w w' : World) : Prop := MidT (fun t => t = 84) B w w'
theorem MidT.cell {T : TypeId → Prop} {B : Nat} {w w' : World} (h : MidT T B w w') {k o : Nat} {c : Array Value} {t : TypeId} (ht : T t) (hk : w.heap[k]? = some (.cells c t (0, 0))) : w'.cell? ⟨k, o, none⟩ = w.cell? ⟨k, o, none⟩ := World.cell?_of_block (h.box k c t ht hk)
theorem Mid.cell {B : Nat} {w w' : World} (h : Mid B w w') {k o : Nat} {c : Array Value} (hk : w.heap[k]? = some (.cells c 84 (0, 0))) : w'.cell? ⟨k, o, none⟩ = w.cell? ⟨k, o, none⟩ := MidT.cell h rfl hk
theorem Mid.trans {B : Nat} {a b c : World} (h : Mid B a b) (g : Mid B b c) : Mid B a c := MidT.trans h g
/-- The function value k with what it captured, called with the parts of ps one behind the other, brings I from one to the next; new variables don't touch I. -/
structure Visits (B k : Nat) (cap : Array Value) (ps : List (Nat × Nat)) (I : List (Nat × Nat) → World → Prop) : Prop where
  enters : ∀ args w, (callFunc k args).run Tryd.prog w = .ok (.enter k args) w
  keep : ∀ done w w', I done w → Below w.heap.size w w' → I done w'
  call : ∀ (done : List (Nat × Nat)) (f e : Nat) (w : World), (done ++ [(f, e)]) <+: ps → I done w → B ≤ w.heap.size → Calls Tryd.prog k (#[partV f e] ++ cap) w fun r w' => r = .returned (.tuple #[]) ∧ I (done ++ [(f, e)]) w' ∧ Mid B w w'

end Go.Proofs.YtkjlchfmplcobaeDoor

/- The walks of pathOf and proofOf: function values that go to the parts of a path, or of a proof. -/
namespace Go.Proofs.YtkjlchfmplcobaeDoor
open Go.RowKit

/-- The function value kw with what it captured goes to the parts of ps, whatever it is handed to visit them. -/
structure Walker (w0 : World) (kw : Nat) (cw : Array Value) (ps : List (Nat × Nat)) : Prop where
  enters : ∀ args w, (callFunc kw args).run Tryd.prog w = .ok (.enter kw args) w
  call : ∀ (B k : Nat) (cap : Array Value) (I : List (Nat × Nat) → World → Prop) (w : World), Visits B k cap ps I → Below w0.heap.size w0 w → B ≤ w.heap.size → I [] w →
    Calls Tryd.prog kw (#[.func (.func k) #[] cap] ++ cw) w fun r w' => r = .returned (.tuple #[]) ∧ I ps w' ∧ Mid B w w'
theorem Walker.below {w0 w1 : World} {kw : Nat} {cw : Array Value} {ps : List (Nat × Nat)} (h : Walker w0 kw cw ps) (hb : Below w0.heap.size w0 w1) : Walker w1 kw cw ps :=
  ⟨h.enters, fun B k cap I w V hb2 => h.call B k cap I w V (hb.trans (hb2.mono hb.size))⟩

end Go.Proofs.YtkjlchfmplcobaeDoor
