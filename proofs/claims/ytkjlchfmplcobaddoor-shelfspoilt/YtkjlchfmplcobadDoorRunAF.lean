/- TreeGoPart, TreeGoWalk, TreeGoSeg, TreeGoUp, as one text. -/
import Derived.Test.YtkjlchfmplcobadDoorProg
import Derived.Test.YtkjlchfmplcobadDoorRunAJ
import Derived.WalkKit
import Derived.WalkSpells
import Derived.WalkLawsBesides
import Derived.Lib.BitFns
import Derived.Deep.RegionHeld3
import Derived.BigRegion
/- The walks of bits.Len at small numbers, part.split and part.of. -/
namespace Go.Proofs.YtkjlchfmplcobadDoor
open Go.RowKit

set_option maxRecDepth 100000 in
set_option maxHeartbeats 1000000 in
theorem len64_any (x : Int) (w : World) (h0 : 0 ≤ x) (h1 : x ≤ 255) :
    Calls Tryd.prog 103 #[.int .u64 x] w fun e w' => e = .returned (.int .i64 (Lib.bitLen x.toNat)) ∧ w' = w := by
  go_enter Tryd.func103, Tryd.ntmps103
  go_wp2
  go_ret
  have l := Lib.bitLen_le8' x h0 h1
  refine ⟨congrArg Ending.returned (congrArg (Value.int IntKind.i64) ?_), rfl⟩
  rw [Lib.len8_of x h0 h1]
  unfold wrap64
  omega
set_option maxRecDepth 100000 in
theorem len_any (x : Int) (w : World) (h0 : 0 ≤ x) (h1 : x ≤ 255) :
    Calls Tryd.prog 87 #[.int .u64 x] w fun e w' => e = .returned (.int .i64 (Lib.bitLen x.toNat)) ∧ w' = w := by
  go_enter Tryd.func87, Tryd.ntmps87
  go_wp2_with (go_at_call 103; refine (len64_any x w h0 h1).mono ?_; rintro e w' ⟨rfl, rfl⟩)
  go_ret
  exact ⟨rfl, rfl⟩
theorem len_split : ∀ n : Fin 101, 2 ≤ n.val → 1 ≤ Lib.bitLen (n.val - 1) ∧ Lib.bitLen (n.val - 1) ≤ 7 ∧ 2 ^ (Lib.bitLen (n.val - 1) - 1) < n.val ∧ n.val ≤ 2 * 2 ^ (Lib.bitLen (n.val - 1) - 1) := by decide +kernel
theorem split_len {n : Nat} (h2 : 2 ≤ n) (h : n ≤ 100) : ∃ e, Lib.bitLen (n - 1) = e + 1 ∧ e ≤ 6 ∧ splitN n = 2 ^ e := by
  obtain ⟨h1, h3, h4, h5⟩ := len_split ⟨n, by omega⟩ h2
  dsimp only at h1 h3 h4 h5
  refine ⟨Lib.bitLen (n - 1) - 1, by omega, by omega, splitN_unique h4 h5⟩
@[reducible] def partV (f e : Int) : Value := .agg #[.int .i64 f, .int .i64 e]
set_option maxRecDepth 100000 in
set_option maxHeartbeats 1000000 in
theorem split_part (f n : Nat) (w : World) (h2 : 2 ≤ n) (hn : n ≤ 100) (hf : f ≤ 100) :
    Calls Tryd.prog 61 #[partV f ((f : Int) + n)] w fun e w' => e = .returned (.tuple #[partV f ((f : Int) + splitN n), partV ((f : Int) + splitN n) ((f : Int) + n)]) ∧ Below w.heap.size w w' := by
  obtain ⟨e, he, he6, hs⟩ := split_len h2 hn
  have hL : ∀ w, _ := fun w => len_any ((f : Int) + n - f - 1) w (by omega) (by omega)
  have e1 : ((f : Int) + n - f - 1).toNat = n - 1 := by omega
  rw [e1, he] at hL
  have hsp := splitN_spec h2
  have hw : wrap64 ((2 : Int) ^ e) = (splitN n : Int) := by
    have h3 : ((2 : Int) ^ e) = (splitN n : Int) := by rw [hs]; simp
    rw [h3]; unfold wrap64; omega
  have hq : IntKind.i64.wrap ((f : Int) + splitN n) = (f : Int) + splitN n := by rw [IntWalk.i64_left]; unfold wrap64; omega
  clear e1 he hs
  generalize splitN n = k at *
  go_enter Tryd.func61, Tryd.ntmps61
  go_wp2_with (go_at_call 87; refine (hL _).mono ?_; rintro e w' ⟨rfl, rfl⟩)
  go_region_held3 (fun w' => w'.cell? ⟨w.heap.size, 0, none⟩ = some (.int .i64 (f : Int)) ∧ w'.cell? ⟨w.heap.size, 1, none⟩ = some (.int .i64 ((f : Int) + n))) (first | (go_keep; done) | (simp [go_sem]; done)) (fail)
  go_wp2_with fail
  exact bodyPost_ret (v := .tuple #[partV f ((f : Int) + k), partV ((f : Int) + k) ((f : Int) + n)]) (by simp [results, Tryd.results61, go_sem]) rfl ⟨rfl, ((((Below.refl _ _).alloc (Nat.le_refl _) _).alloc (by simp) _).alloc (by simp; omega) _).drew⟩
theorem splitP_any (f e : Nat) (w : World) (h2 : f + 2 ≤ e) (he : e ≤ 100) :
    Calls Tryd.prog 61 #[partV f e] w fun r w' => r = .returned (.tuple #[partV f ((f + splitN (e - f) : Nat) : Int), partV ((f + splitN (e - f) : Nat) : Int) e]) ∧ Below w.heap.size w w' := by
  have h := split_part f (e - f) w (by omega) (by omega) (by omega)
  have e1 : (f : Int) + ((e - f : Nat) : Int) = e := by omega
  have e2 : ((f + splitN (e - f) : Nat) : Int) = (f : Int) + (splitN (e - f) : Int) := by omega
  rw [e1] at h
  rw [e2]
  exact h
set_option maxRecDepth 100000 in
theorem of_any (f e : Nat) (b off n c : Nat) (w : World) (hfe : f < e) (he : e ≤ n) (hnc : n ≤ c) :
    Calls Tryd.prog 63 #[partV f e, .slice (some ⟨b, off, none⟩) n c] w fun r w' => r = .returned (.slice (some ⟨b, off + f, none⟩) (e - f) (c - f)) ∧ Below w.heap.size w w' := by
  have i1 : (f : Int) ≤ (e : Int) := by omega
  have i2 : (e : Int) ≤ (c : Int) := by omega
  have i3 : ¬ (c = f) := by omega
  go_enter Tryd.func63, Tryd.ntmps63
  go_wp2_with fail
  go_ret
  exact ⟨rfl, (Below.refl _ _).alloc (Nat.le_refl _) _⟩

end Go.Proofs.YtkjlchfmplcobadDoor

/- The walks of walkPath and walkProof, whatever function they are handed; pathOf and proofOf. -/
namespace Go.Proofs.YtkjlchfmplcobadDoor
open Go.RowKit

/-- The parts to which the walk of a path goes. -/
def pathP (f e i : Nat) : List (Nat × Nat) :=
  if _h : e < f + 2 then [] else
  if i < f + splitN (e - f) then pathP f (f + splitN (e - f)) i ++ [(f + splitN (e - f), e)] else pathP (f + splitN (e - f)) e i ++ [(f, f + splitN (e - f))]
termination_by e - f
decreasing_by
  · have := splitN_spec (n := e - f) (by omega); omega
  · have := splitN_spec (n := e - f) (by omega); omega
theorem pathP_one {f e i : Nat} (h : e < f + 2) : pathP f e i = [] := by rw [pathP, dif_pos h]
theorem pathP_left {f e i : Nat} (h : f + 2 ≤ e) (hi : i < f + splitN (e - f)) : pathP f e i = pathP f (f + splitN (e - f)) i ++ [(f + splitN (e - f), e)] := by
  conv => lhs; rw [pathP]
  rw [dif_neg (by omega), if_pos hi]
theorem pathP_right {f e i : Nat} (h : f + 2 ≤ e) (hi : ¬ i < f + splitN (e - f)) : pathP f e i = pathP (f + splitN (e - f)) e i ++ [(f, f + splitN (e - f))] := by
  conv => lhs; rw [pathP]
  rw [dif_neg (by omega), if_neg hi]
/-- What was below B is as it was, and so are variables of a type of which T is so. -/
structure MidT (T : TypeId → Prop) (B : Nat) (w w' : World) : Prop where
  below : Below B w w'
  box : ∀ (k : Nat) (c : Array Value) (t : TypeId), T t → w.heap[k]? = some (Obj.cells c t (0, 0)) → w'.heap[k]? = w.heap[k]?
theorem MidT.refl (T : TypeId → Prop) (B : Nat) (w : World) : MidT T B w w := ⟨Below.refl _ _, fun _ _ _ _ _ => rfl⟩
theorem MidT.trans {T : TypeId → Prop} {B : Nat} {a b c : World} (h : MidT T B a b) (g : MidT T B b c) : MidT T B a c :=
  ⟨h.below.trans g.below, fun k x t ht hk => (g.box k x t ht ((h.box k x t ht hk).trans hk)).trans (h.box k x t ht hk)⟩
theorem MidT.of_below {T : TypeId → Prop} {B : Nat} {w w' : World} (h : Below w.heap.size w w') (hB : B ≤ w.heap.size) : MidT T B w w' := ⟨h.mono hB, fun k _ _ _ hk => h.block k (lt_heap hk)⟩
theorem MidT.weaker {T S : TypeId → Prop} {B : Nat} {w w' : World} (h : MidT T B w w') (hs : ∀ t, S t → T t) : MidT S B w w' := ⟨h.below, fun k c t ht hk => h.box k c t (hs t ht) hk⟩
theorem MidT.grown {T : TypeId → Prop} {w w' : World} {base n : Nat} {e : TypeId} {v : Value} {xs : List Value} (ho : w.ownsRow base e 1 v n xs) (hg : w.grownBy w' v.ownBlock) (hT : ∀ t, T t → t ≠ e) (hb : base ≤ w.heap.size) : MidT T base w w' :=
  ⟨(Below.refl _ _).grown hg hb (fun _ h => own_block ho h), fun k c t ht hk => by rw [grown_box hg ho hk (hT t ht), hk]⟩
theorem MidT.set {T : TypeId → Prop} {w : World} {B k : Nat} {c : Array Value} {t : TypeId} (hk : w.heap[k]? = some (.cells c t (0, 0))) (hT : ¬ T t) (hB : B ≤ k) (u : Value) : MidT T B w (w.setCell ⟨k, 0, none⟩ u) :=
  ⟨(Below.refl _ _).setCell hB _, fun j d s hs hj => by
    have hne : j ≠ k := fun e => by
      subst e
      rw [hk] at hj
      cases hj
      exact hT hs
    rw [box_set_far hj hne, hj]⟩
/-- Only the walks' own variables are looked at. -/
@[reducible] def Mid (B : Nat) (w w' : World) : Prop := MidT (fun t => t = 96) B w w'
theorem MidT.cell {T : TypeId → Prop} {B : Nat} {w w' : World} (h : MidT T B w w') {k o : Nat} {c : Array Value} {t : TypeId} (ht : T t) (hk : w.heap[k]? = some (.cells c t (0, 0))) : w'.cell? ⟨k, o, none⟩ = w.cell? ⟨k, o, none⟩ := World.cell?_of_block (h.box k c t ht hk)
theorem Mid.cell {B : Nat} {w w' : World} (h : Mid B w w') {k o : Nat} {c : Array Value} (hk : w.heap[k]? = some (.cells c 96 (0, 0))) : w'.cell? ⟨k, o, none⟩ = w.cell? ⟨k, o, none⟩ := MidT.cell h rfl hk
theorem Mid.of_below {B : Nat} {w w' : World} (h : Below w.heap.size w w') (hB : B ≤ w.heap.size) : Mid B w w' := MidT.of_below h hB
theorem Mid.trans {B : Nat} {a b c : World} (h : Mid B a b) (g : Mid B b c) : Mid B a c := MidT.trans h g
/-- The function value k with what it captured, called with the parts of ps one behind the other, brings I from one to the next; new variables don't touch I. -/
structure Visits (B k : Nat) (cap : Array Value) (ps : List (Nat × Nat)) (I : List (Nat × Nat) → World → Prop) : Prop where
  enters : ∀ args w, (callFunc k args).run Tryd.prog w = .ok (.enter k args) w
  keep : ∀ done w w', I done w → Below w.heap.size w w' → I done w'
  call : ∀ (done : List (Nat × Nat)) (f e : Nat) (w : World), (done ++ [(f, e)]) <+: ps → I done w → B ≤ w.heap.size → Calls Tryd.prog k (#[partV f e] ++ cap) w fun r w' => r = .returned (.tuple #[]) ∧ I (done ++ [(f, e)]) w' ∧ Mid B w w'

set_option maxRecDepth 100000 in
set_option maxHeartbeats 1000000 in
theorem walkPath_any {B k : Nat} {cap : Array Value} {ps : List (Nat × Nat)} {I : List (Nat × Nat) → World → Prop} (V : Visits B k cap ps I) (d : Nat) :
    ∀ (f e i : Nat) (done : List (Nat × Nat)) (w : World), e - f = d → f ≤ e → e ≤ 100 → i ≤ 100 → (done ++ pathP f e i) <+: ps → I done w → B ≤ w.heap.size →
      Calls Tryd.prog 66 #[partV f e, .int .i64 i, .func (.func k) #[] cap] w fun r w' => r = .returned (.tuple #[]) ∧ I (done ++ pathP f e i) w' ∧ Mid B w w' := by
  induction d using Nat.strongRecOn with
  | ind d ih =>
    intro f e i done w hd hfe he hi hps hI hN
    by_cases h2 : e < f + 2
    · rw [pathP_one h2, List.append_nil] at hps ⊢
      have i1 : (e : Int) - f < 2 := by omega
      go_enter Tryd.func66, Tryd.ntmps66
      go_wp2
      refine bodyPost_ret (v := .tuple #[]) (by simp [results, Tryd.results66]) rfl ⟨rfl, V.keep _ _ _ hI ((Below.refl _ _).alloc (Nat.le_refl _) _), Mid.of_below ((Below.refl _ _).alloc (Nat.le_refl _) _) hN⟩
    · have hs := splitN_spec (n := e - f) (by omega)
      have i1 : ¬ (e : Int) - f < 2 := by omega
      have hsp : ∀ w, _ := fun w => splitP_any f e w (by omega) he
      by_cases hl : i < f + splitN (e - f)
      · rw [pathP_left (by omega) hl] at hps ⊢
        obtain ⟨m, hm⟩ : ∃ m, f + splitN (e - f) = m := ⟨_, rfl⟩
        rw [hm] at hps hsp hl ⊢
        have hm1 : f < m := by omega
        have hm2 : m < e := by omega
        clear hm hs h2
        go_enter Tryd.func66, Tryd.ntmps66
        go_wp2_with fail
        refine (hsp _).mono ?_
        rintro r w1 ⟨rfl, hb1⟩
        have hbw1 : Below w.heap.size w w1 := ((Below.refl _ _).alloc (Nat.le_refl _) _).trans (hb1.mono (by simp))
        have hbW : Below w.heap.size w ((w1.alloc (.cells #[.int .i64 f, .int .i64 m] 96)).alloc (.cells #[.int .i64 m, .int .i64 e] 96)) := (hbw1.alloc hbw1.size _).alloc (by have := hbw1.size; simp; omega) _
        have hsz := hbw1.size
        clear hb1 hsp
        go_wp2_with fail
        have hps' : (done ++ pathP f m i ++ [(m, e)]) <+: ps := by rw [List.append_assoc]; exact hps
        refine (ih (m - f) (by omega) f m i done _ rfl (by omega) (by omega) hi ((List.prefix_append _ _).trans hps') (V.keep _ _ _ hI hbW) (by have := hbW.size; omega)).mono ?_
        rintro r w2 ⟨rfl, hI2, hM⟩
        have y0 : w2.cell? ⟨w1.heap.size + 1, 0, none⟩ = some (.int .i64 m) := (hM.cell (k := w1.heap.size + 1) (c := #[.int .i64 m, .int .i64 e]) (box_last _ _ _ _)).trans (by simp)
        have y1 : w2.cell? ⟨w1.heap.size + 1, 1, none⟩ = some (.int .i64 e) := (hM.cell (k := w1.heap.size + 1) (c := #[.int .i64 m, .int .i64 e]) (box_last _ _ _ _)).trans (by simp)
        have hN2 : B ≤ w2.heap.size := by have := hM.below.size; simp at this; omega
        have eg := V.enters
        go_wp2_with fail
        refine (V.call (done ++ pathP f m i) m e w2 hps' hI2 hN2).mono ?_
        rintro r w3 ⟨rfl, hI3, hM3⟩
        rw [List.append_assoc] at hI3
        have hMM : Mid B w w3 := ((Mid.of_below hbW hN).trans hM).trans hM3
        clear hM hM3 hI hI2 y0 y1 hbW hbw1
        go_wp2_with fail
        exact bodyPost_ret (v := .tuple #[]) (by simp [results, Tryd.results66]) rfl ⟨rfl, hI3, hMM⟩
      · rw [pathP_right (by omega) hl] at hps ⊢
        obtain ⟨m, hm⟩ : ∃ m, f + splitN (e - f) = m := ⟨_, rfl⟩
        rw [hm] at hps hsp hl ⊢
        have hm1 : f < m := by omega
        have hm2 : m < e := by omega
        clear hm hs h2
        go_enter Tryd.func66, Tryd.ntmps66
        go_wp2_with fail
        refine (hsp _).mono ?_
        rintro r w1 ⟨rfl, hb1⟩
        have hbw1 : Below w.heap.size w w1 := ((Below.refl _ _).alloc (Nat.le_refl _) _).trans (hb1.mono (by simp))
        have hbW : Below w.heap.size w ((w1.alloc (.cells #[.int .i64 f, .int .i64 m] 96)).alloc (.cells #[.int .i64 m, .int .i64 e] 96)) := (hbw1.alloc hbw1.size _).alloc (by have := hbw1.size; simp; omega) _
        have hsz := hbw1.size
        clear hb1 hsp
        go_wp2_with fail
        have hps' : (done ++ pathP m e i ++ [(f, m)]) <+: ps := by rw [List.append_assoc]; exact hps
        refine (ih (e - m) (by omega) m e i done _ rfl (by omega) (by omega) hi ((List.prefix_append _ _).trans hps') (V.keep _ _ _ hI hbW) (by have := hbW.size; omega)).mono ?_
        rintro r w2 ⟨rfl, hI2, hM⟩
        have y0 : w2.cell? ⟨w1.heap.size, 0, none⟩ = some (.int .i64 f) := (hM.cell (k := w1.heap.size) (c := #[.int .i64 f, .int .i64 m]) (box_one _ _ _ _)).trans (by simp)
        have y1 : w2.cell? ⟨w1.heap.size, 1, none⟩ = some (.int .i64 m) := (hM.cell (k := w1.heap.size) (c := #[.int .i64 f, .int .i64 m]) (box_one _ _ _ _)).trans (by simp)
        have hN2 : B ≤ w2.heap.size := by have := hM.below.size; simp at this; omega
        have eg := V.enters
        go_wp2_with fail
        refine (V.call (done ++ pathP m e i) f m w2 hps' hI2 hN2).mono ?_
        rintro r w3 ⟨rfl, hI3, hM3⟩
        rw [List.append_assoc] at hI3
        have hMM : Mid B w w3 := ((Mid.of_below hbW hN).trans hM).trans hM3
        clear hM hM3 hI hI2 y0 y1 hbW hbw1
        go_wp2_with fail
        go_end0
        exact ⟨rfl, hI3, hMM⟩
end Go.Proofs.YtkjlchfmplcobadDoor

/- The parts to which the walks go, and the roots that paths and proofs have: plain mathematics. -/
namespace Go.Proofs.YtkjlchfmplcobadDoor

/-- The leaves of a part. -/
def seg (L : List (List Int)) (p : Nat × Nat) : List (List Int) := (L.take p.2).drop p.1
theorem seg_length {L : List (List Int)} {f e : Nat} (he : e ≤ L.length) : (seg L (f, e)).length = e - f := by unfold seg; rw [List.length_drop, List.length_take]; simp only; omega
theorem seg_take {L : List (List Int)} {f e k : Nat} (hk : f + k ≤ e) : (seg L (f, e)).take k = seg L (f, f + k) := by
  unfold seg
  simp only
  rw [List.take_drop, List.take_take, Nat.min_eq_left hk]
theorem seg_drop {L : List (List Int)} {f e k : Nat} : (seg L (f, e)).drop k = seg L (f + k, e) := by
  unfold seg
  simp only
  rw [List.drop_drop]
theorem seg_all (L : List (List Int)) : seg L (0, L.length) = L := by unfold seg; simp
theorem path_seg (L : List (List Int)) (d : Nat) : ∀ (f e i : Nat), e - f = d → f ≤ i → i < e → e ≤ L.length → (pathP f e i).map (fun p => mth (seg L p)) = pathL (seg L (f, e)) (i - f) := by
  induction d using Nat.strongRecOn with
  | ind d ih =>
    intro f e i hd hfi hie he
    have hl := seg_length (f := f) he
    by_cases h2 : e < f + 2
    · rw [pathP_one h2, pathL_one (by omega)]; rfl
    · have hs := splitN_spec (n := e - f) (by omega)
      by_cases hi : i < f + splitN (e - f)
      · rw [pathP_left (by omega) hi, pathL_left (by omega) (by rw [hl]; omega), List.map_append, ih (splitN (e - f)) (by omega) f (f + splitN (e - f)) i (by omega) hfi hi (by omega), hl, seg_take (by omega), seg_drop]
        rfl
      · rw [pathP_right (by omega) hi, pathL_right (by omega) (by rw [hl]; omega), List.map_append, ih (e - (f + splitN (e - f))) (by omega) (f + splitN (e - f)) e i rfl (by omega) hie he, hl, seg_take (by omega), seg_drop]
        congr 2
        omega
theorem pathP_in (d : Nat) : ∀ (f e i : Nat), e - f = d → ∀ p ∈ pathP f e i, f ≤ p.1 ∧ p.1 < p.2 ∧ p.2 ≤ e := by
  induction d using Nat.strongRecOn with
  | ind d ih =>
    intro f e i hd p hp
    by_cases h2 : e < f + 2
    · rw [pathP_one h2] at hp; cases hp
    · have hs := splitN_spec (n := e - f) (by omega)
      by_cases hi : i < f + splitN (e - f)
      · rw [pathP_left (by omega) hi] at hp
        rcases List.mem_append.1 hp with h | h
        · have := ih (splitN (e - f)) (by omega) f (f + splitN (e - f)) i (by omega) p h; omega
        · rw [List.mem_singleton.1 h]; simp only; omega
      · rw [pathP_right (by omega) hi] at hp
        rcases List.mem_append.1 hp with h | h
        · have := ih (e - (f + splitN (e - f))) (by omega) (f + splitN (e - f)) e i rfl p h; omega
        · rw [List.mem_singleton.1 h]; simp only; omega
/-- How many there are at most: fewer than leaves. -/
theorem pathP_few (d : Nat) : ∀ (f e i : Nat), e - f = d → (pathP f e i).length ≤ d := by
  induction d using Nat.strongRecOn with
  | ind d ih =>
    intro f e i hd
    by_cases h2 : e < f + 2
    · rw [pathP_one h2]; exact Nat.zero_le _
    · have hs := splitN_spec (n := e - f) (by omega)
      by_cases hi : i < f + splitN (e - f)
      · have := ih (splitN (e - f)) (by omega) f (f + splitN (e - f)) i (by omega)
        rw [pathP_left (by omega) hi, List.length_append, List.length_singleton]; omega
      · have := ih (e - (f + splitN (e - f))) (by omega) (f + splitN (e - f)) e i rfl
        rw [pathP_right (by omega) hi, List.length_append, List.length_singleton]; omega
end Go.Proofs.YtkjlchfmplcobadDoor

/- What Stands and Grew reckon, part by part: plain mathematics. -/
namespace Go.Proofs.YtkjlchfmplcobadDoor

theorem take_zip (ps : List (Nat × Nat)) (p : List (List Int)) (q : Nat × Nat) (h : ps.length < p.length) : (ps ++ [q]).zip p = ps.zip p ++ [(q, p.getD ps.length [])] := by
  induction ps generalizing p with
  | nil =>
    cases p with
    | nil => simp at h
    | cons x l => simp
  | cons a l ih =>
    cases p with
    | nil => simp at h
    | cons x r => simp [ih r (by simpa using h)]
theorem drop_last {p : List (List Int)} (h : p.length ≠ 0) : p = p.dropLast ++ [p.getD (p.length - 1) []] := by
  have hne : p ≠ [] := fun e => by rw [e] at h; exact h rfl
  conv => lhs; rw [← List.dropLast_concat_getLast hne]
  congr 2
  rw [List.getLast_eq_getElem, List.getD_eq_getElem?_getD, List.getElem?_eq_getElem (by omega)]
  rfl
theorem zip_last {ps : List (Nat × Nat)} {q : Nat × Nat} {p : List (List Int)} (h : p.length = ps.length + 1) : (ps ++ [q]).zip p = ps.zip p.dropLast ++ [(q, p.getD (p.length - 1) [])] := by
  conv => lhs; rw [drop_last (p := p) (by omega)]
  rw [List.zip_append (by rw [List.length_dropLast]; omega)]
  rfl
/-- A part more: on which side of the leaf it is. -/
def stepUp (i : Nat) (d : List Int) (x : (Nat × Nat) × List Int) : List Int := if x.1.1 < i then nodeL x.2 d else nodeL d x.2
def foldUp (i : Nat) (d : List Int) (ps : List (Nat × Nat)) (p : List (List Int)) : List Int := (ps.zip p).foldl (stepUp i) d
theorem foldUp_nil (i : Nat) (d : List Int) (p : List (List Int)) : foldUp i d [] p = d := rfl
theorem foldUp_snoc (i : Nat) (d : List Int) (ps : List (Nat × Nat)) (p : List (List Int)) (q : Nat × Nat) (h : ps.length < p.length) : foldUp i d (ps ++ [q]) p = stepUp i (foldUp i d ps p) (q, p.getD ps.length []) := by
  unfold foldUp; rw [take_zip _ _ _ h, List.foldl_append]; rfl
theorem foldUp_last (i : Nat) (d : List Int) (ps : List (Nat × Nat)) (p : List (List Int)) (q : Nat × Nat) (h : p.length = ps.length + 1) : foldUp i d (ps ++ [q]) p = stepUp i (foldUp i d ps p.dropLast) (q, p.getD (p.length - 1) []) := by
  unfold foldUp; rw [zip_last h, List.foldl_append]; rfl
theorem up_all (d : List Int) (z : Nat) : ∀ (f e i : Nat) (p : List (List Int)), e - f = z → f ≤ i → i < e →
    (upL d (i - f) (e - f) p).2 = decide (p.length = (pathP f e i).length) ∧ (p.length = (pathP f e i).length → (upL d (i - f) (e - f) p).1 = foldUp i d (pathP f e i) p) := by
  induction z using Nat.strongRecOn with
  | ind z ih =>
    intro f e i p hz hfi hie
    by_cases h2 : e < f + 2
    · rw [pathP_one h2, upL_one (by omega)]
      exact ⟨rfl, fun _ => rfl⟩
    · have hs := splitN_spec (n := e - f) (by omega)
      by_cases hp : p.length = 0
      · rw [upL_none (by omega) hp]
        have hc : ¬ p.length = (pathP f e i).length := by
          by_cases hi : i < f + splitN (e - f)
          · rw [pathP_left (by omega) hi]; simp; omega
          · rw [pathP_right (by omega) hi]; simp; omega
        exact ⟨by rw [decide_eq_false hc], fun h => absurd h hc⟩
      · by_cases hi : i < f + splitN (e - f)
        · obtain ⟨h3, h4⟩ := ih (splitN (e - f)) (by omega) f (f + splitN (e - f)) i p.dropLast (by omega) hfi hi
          rw [show f + splitN (e - f) - f = splitN (e - f) by omega] at h3 h4
          rw [upL_left (by omega) hp (by omega), pathP_left (by omega) hi, h3]
          refine ⟨?_, fun h => ?_⟩
          · simp only [List.length_dropLast, List.length_append, List.length_singleton]
            exact decide_eq_decide.2 (by omega)
          · rw [List.length_append, List.length_singleton] at h
            rw [foldUp_last _ _ _ _ _ h, h4 (by rw [List.length_dropLast]; omega)]
            unfold stepUp
            rw [if_neg (by simp only; omega)]
        · obtain ⟨h3, h4⟩ := ih (e - (f + splitN (e - f))) (by omega) (f + splitN (e - f)) e i p.dropLast rfl (by omega) hie
          rw [show i - (f + splitN (e - f)) = i - f - splitN (e - f) by omega, show e - (f + splitN (e - f)) = e - f - splitN (e - f) by omega] at h3 h4
          rw [upL_right (by omega) hp (by omega), pathP_right (by omega) hi, h3]
          refine ⟨?_, fun h => ?_⟩
          · simp only [List.length_dropLast, List.length_append, List.length_singleton]
            exact decide_eq_decide.2 (by omega)
          · rw [List.length_append, List.length_singleton] at h
            rw [foldUp_last _ _ _ _ _ h, h4 (by rw [List.length_dropLast]; omega)]
            unfold stepUp
            rw [if_pos (by simp only; omega)]
end Go.Proofs.YtkjlchfmplcobadDoor
