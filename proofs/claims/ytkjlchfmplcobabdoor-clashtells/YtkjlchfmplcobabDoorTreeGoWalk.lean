/- The walks of walkPath and walkProof, whatever function they are handed; pathOf and proofOf. -/
import Derived.Test.YtkjlchfmplcobabDoorProg
import Derived.Test.YtkjlchfmplcobabDoorTreeGoPart
import Derived.WalkKit
import Derived.WalkSpells
import Derived.WalkLawsBesides
namespace Go.Proofs.YtkjlchfmplcobabDoor
open Go.RowKit

/-- The parts to which the walk of a path goes. -/
def pathP (f e i : Nat) : List (Nat × Nat) :=
  if _h : e < f + 2 then [] else
  if i < f + splitN (e - f) then pathP f (f + splitN (e - f)) i ++ [(f + splitN (e - f), e)] else pathP (f + splitN (e - f)) e i ++ [(f, f + splitN (e - f))]
termination_by e - f
decreasing_by
  · have := splitN_spec (n := e - f) (by omega); omega
  · have := splitN_spec (n := e - f) (by omega); omega
theorem pathP_one {f e i : Nat} (h : e < f + 2) : pathP f e i = [] := by rw [pathP, dif_pos h]
theorem pathP_left {f e i : Nat} (h : f + 2 ≤ e) (hi : i < f + splitN (e - f)) : pathP f e i = pathP f (f + splitN (e - f)) i ++ [(f + splitN (e - f), e)] := by
  conv => lhs; rw [pathP]
  rw [dif_neg (by omega), if_pos hi]
theorem pathP_right {f e i : Nat} (h : f + 2 ≤ e) (hi : ¬ i < f + splitN (e - f)) : pathP f e i = pathP (f + splitN (e - f)) e i ++ [(f, f + splitN (e - f))] := by
  conv => lhs; rw [pathP]
  rw [dif_neg (by omega), if_neg hi]
/-- Those to which the walk of a proof goes. -/
def proofP (f e m : Nat) (whole : Bool) : List (Nat × Nat) :=
  if m = e then (if whole then [] else [(f, e)]) else
  if _h : e < f + 2 then [] else
  if m ≤ f + splitN (e - f) then proofP f (f + splitN (e - f)) m whole ++ [(f + splitN (e - f), e)] else proofP (f + splitN (e - f)) e m false ++ [(f, f + splitN (e - f))]
termination_by e - f
decreasing_by
  · have := splitN_spec (n := e - f) (by omega); omega
  · have := splitN_spec (n := e - f) (by omega); omega
theorem proofP_whole (f e : Nat) : proofP f e e true = [] := by rw [proofP, if_pos rfl, if_pos rfl]
theorem proofP_part (f e : Nat) : proofP f e e false = [(f, e)] := by rw [proofP, if_pos rfl]; rfl
theorem proofP_left {f e m : Nat} {whole : Bool} (hn : m ≠ e) (h : f + 2 ≤ e) (hm : m ≤ f + splitN (e - f)) : proofP f e m whole = proofP f (f + splitN (e - f)) m whole ++ [(f + splitN (e - f), e)] := by
  conv => lhs; rw [proofP]
  rw [if_neg hn, dif_neg (by omega), if_pos hm]
theorem proofP_right {f e m : Nat} {whole : Bool} (hn : m ≠ e) (h : f + 2 ≤ e) (hm : ¬ m ≤ f + splitN (e - f)) : proofP f e m whole = proofP (f + splitN (e - f)) e m false ++ [(f, f + splitN (e - f))] := by
  conv => lhs; rw [proofP]
  rw [if_neg hn, dif_neg (by omega), if_neg hm]

/-- What was below B is as it was, and so are variables of a type of which T is so. -/
structure MidT (T : TypeId → Prop) (B : Nat) (w w' : World) : Prop where
  below : Below B w w'
  box : ∀ (k : Nat) (c : Array Value) (t : TypeId), T t → w.heap[k]? = some (Obj.cells c t (0, 0)) → w'.heap[k]? = w.heap[k]?
theorem MidT.refl (T : TypeId → Prop) (B : Nat) (w : World) : MidT T B w w := ⟨Below.refl _ _, fun _ _ _ _ _ => rfl⟩
theorem MidT.trans {T : TypeId → Prop} {B : Nat} {a b c : World} (h : MidT T B a b) (g : MidT T B b c) : MidT T B a c :=
  ⟨h.below.trans g.below, fun k x t ht hk => (g.box k x t ht ((h.box k x t ht hk).trans hk)).trans (h.box k x t ht hk)⟩
theorem MidT.of_below {T : TypeId → Prop} {B : Nat} {w w' : World} (h : Below w.heap.size w w') (hB : B ≤ w.heap.size) : MidT T B w w' := ⟨h.mono hB, fun k _ _ _ hk => h.block k (lt_heap hk)⟩
theorem MidT.weaker {T S : TypeId → Prop} {B : Nat} {w w' : World} (h : MidT T B w w') (hs : ∀ t, S t → T t) : MidT S B w w' := ⟨h.below, fun k c t ht hk => h.box k c t (hs t ht) hk⟩
theorem MidT.grown {T : TypeId → Prop} {w w' : World} {base n : Nat} {e : TypeId} {v : Value} {xs : List Value} (ho : w.ownsRow base e 1 v n xs) (hg : w.grownBy w' v.ownBlock) (hT : ∀ t, T t → t ≠ e) (hb : base ≤ w.heap.size) : MidT T base w w' :=
  ⟨(Below.refl _ _).grown hg hb (fun _ h => own_block ho h), fun k c t ht hk => by rw [grown_box hg ho hk (hT t ht), hk]⟩
theorem MidT.set {T : TypeId → Prop} {w : World} {B k : Nat} {c : Array Value} {t : TypeId} (hk : w.heap[k]? = some (.cells c t (0, 0))) (hT : ¬ T t) (hB : B ≤ k) (u : Value) : MidT T B w (w.setCell ⟨k, 0, none⟩ u) :=
  ⟨(Below.refl _ _).setCell hB _, fun j d s hs hj => by
    have hne : j ≠ k := fun e => by
      subst e
      rw [hk] at hj
      cases hj
      exact hT hs
    rw [box_set_far hj hne, hj]⟩
/-- Only the walks' own variables are looked at. -/
@[reducible] def Mid (B : Nat) (w w' : World) : Prop := MidT (fun t => t = 63) B w w'
theorem MidT.cell {T : TypeId → Prop} {B : Nat} {w w' : World} (h : MidT T B w w') {k o : Nat} {c : Array Value} {t : TypeId} (ht : T t) (hk : w.heap[k]? = some (.cells c t (0, 0))) : w'.cell? ⟨k, o, none⟩ = w.cell? ⟨k, o, none⟩ := World.cell?_of_block (h.box k c t ht hk)
theorem Mid.cell {B : Nat} {w w' : World} (h : Mid B w w') {k o : Nat} {c : Array Value} (hk : w.heap[k]? = some (.cells c 63 (0, 0))) : w'.cell? ⟨k, o, none⟩ = w.cell? ⟨k, o, none⟩ := MidT.cell h rfl hk
theorem Mid.of_below {B : Nat} {w w' : World} (h : Below w.heap.size w w') (hB : B ≤ w.heap.size) : Mid B w w' := MidT.of_below h hB
theorem Mid.trans {B : Nat} {a b c : World} (h : Mid B a b) (g : Mid B b c) : Mid B a c := MidT.trans h g
/-- The function value k with what it captured, called with the parts of ps one behind the other, brings I from one to the next; new variables don't touch I. -/
structure Visits (B k : Nat) (cap : Array Value) (ps : List (Nat × Nat)) (I : List (Nat × Nat) → World → Prop) : Prop where
  enters : ∀ args w, (callFunc k args).run Tryd.prog w = .ok (.enter k args) w
  keep : ∀ done w w', I done w → Below w.heap.size w w' → I done w'
  call : ∀ (done : List (Nat × Nat)) (f e : Nat) (w : World), (done ++ [(f, e)]) <+: ps → I done w → B ≤ w.heap.size → Calls Tryd.prog k (#[partV f e] ++ cap) w fun r w' => r = .returned (.tuple #[]) ∧ I (done ++ [(f, e)]) w' ∧ Mid B w w'

set_option maxRecDepth 100000 in
set_option maxHeartbeats 1000000 in
theorem walkPath_any {B k : Nat} {cap : Array Value} {ps : List (Nat × Nat)} {I : List (Nat × Nat) → World → Prop} (V : Visits B k cap ps I) (d : Nat) :
    ∀ (f e i : Nat) (done : List (Nat × Nat)) (w : World), e - f = d → f ≤ e → e ≤ 100 → i ≤ 100 → (done ++ pathP f e i) <+: ps → I done w → B ≤ w.heap.size →
      Calls Tryd.prog 48 #[partV f e, .int .i64 i, .func (.func k) #[] cap] w fun r w' => r = .returned (.tuple #[]) ∧ I (done ++ pathP f e i) w' ∧ Mid B w w' := by
  induction d using Nat.strongRecOn with
  | ind d ih =>
    intro f e i done w hd hfe he hi hps hI hN
    by_cases h2 : e < f + 2
    · rw [pathP_one h2, List.append_nil] at hps ⊢
      have i1 : (e : Int) - f < 2 := by omega
      go_enter Tryd.func48, Tryd.ntmps48
      go_wp2
      refine bodyPost_ret (v := .tuple #[]) (by simp [results, Tryd.results48]) rfl ⟨rfl, V.keep _ _ _ hI ((Below.refl _ _).alloc (Nat.le_refl _) _), Mid.of_below ((Below.refl _ _).alloc (Nat.le_refl _) _) hN⟩
    · have hs := splitN_spec (n := e - f) (by omega)
      have i1 : ¬ (e : Int) - f < 2 := by omega
      have hsp : ∀ w, _ := fun w => splitP_any f e w (by omega) he
      by_cases hl : i < f + splitN (e - f)
      · rw [pathP_left (by omega) hl] at hps ⊢
        obtain ⟨m, hm⟩ : ∃ m, f + splitN (e - f) = m := ⟨_, rfl⟩
        rw [hm] at hps hsp hl ⊢
        have hm1 : f < m := by omega
        have hm2 : m < e := by omega
        clear hm hs h2
        go_enter Tryd.func48, Tryd.ntmps48
        go_wp2_with fail
        refine (hsp _).mono ?_
        rintro r w1 ⟨rfl, hb1⟩
        have hbw1 : Below w.heap.size w w1 := ((Below.refl _ _).alloc (Nat.le_refl _) _).trans (hb1.mono (by simp))
        have hbW : Below w.heap.size w ((w1.alloc (.cells #[.int .i64 f, .int .i64 m] 63)).alloc (.cells #[.int .i64 m, .int .i64 e] 63)) := (hbw1.alloc hbw1.size _).alloc (by have := hbw1.size; simp; omega) _
        have hsz := hbw1.size
        clear hb1 hsp
        go_wp2_with fail
        have hps' : (done ++ pathP f m i ++ [(m, e)]) <+: ps := by rw [List.append_assoc]; exact hps
        refine (ih (m - f) (by omega) f m i done _ rfl (by omega) (by omega) hi ((List.prefix_append _ _).trans hps') (V.keep _ _ _ hI hbW) (by have := hbW.size; omega)).mono ?_
        rintro r w2 ⟨rfl, hI2, hM⟩
        have y0 : w2.cell? ⟨w1.heap.size + 1, 0, none⟩ = some (.int .i64 m) := (hM.cell (k := w1.heap.size + 1) (c := #[.int .i64 m, .int .i64 e]) (box_last _ _ _ _)).trans (by simp)
        have y1 : w2.cell? ⟨w1.heap.size + 1, 1, none⟩ = some (.int .i64 e) := (hM.cell (k := w1.heap.size + 1) (c := #[.int .i64 m, .int .i64 e]) (box_last _ _ _ _)).trans (by simp)
        have hN2 : B ≤ w2.heap.size := by have := hM.below.size; simp at this; omega
        have eg := V.enters
        go_wp2_with fail
        refine (V.call (done ++ pathP f m i) m e w2 hps' hI2 hN2).mono ?_
        rintro r w3 ⟨rfl, hI3, hM3⟩
        rw [List.append_assoc] at hI3
        have hMM : Mid B w w3 := ((Mid.of_below hbW hN).trans hM).trans hM3
        clear hM hM3 hI hI2 y0 y1 hbW hbw1
        go_wp2_with fail
        exact bodyPost_ret (v := .tuple #[]) (by simp [results, Tryd.results48]) rfl ⟨rfl, hI3, hMM⟩
      · rw [pathP_right (by omega) hl] at hps ⊢
        obtain ⟨m, hm⟩ : ∃ m, f + splitN (e - f) = m := ⟨_, rfl⟩
        rw [hm] at hps hsp hl ⊢
        have hm1 : f < m := by omega
        have hm2 : m < e := by omega
        clear hm hs h2
        go_enter Tryd.func48, Tryd.ntmps48
        go_wp2_with fail
        refine (hsp _).mono ?_
        rintro r w1 ⟨rfl, hb1⟩
        have hbw1 : Below w.heap.size w w1 := ((Below.refl _ _).alloc (Nat.le_refl _) _).trans (hb1.mono (by simp))
        have hbW : Below w.heap.size w ((w1.alloc (.cells #[.int .i64 f, .int .i64 m] 63)).alloc (.cells #[.int .i64 m, .int .i64 e] 63)) := (hbw1.alloc hbw1.size _).alloc (by have := hbw1.size; simp; omega) _
        have hsz := hbw1.size
        clear hb1 hsp
        go_wp2_with fail
        have hps' : (done ++ pathP m e i ++ [(f, m)]) <+: ps := by rw [List.append_assoc]; exact hps
        refine (ih (e - m) (by omega) m e i done _ rfl (by omega) (by omega) hi ((List.prefix_append _ _).trans hps') (V.keep _ _ _ hI hbW) (by have := hbW.size; omega)).mono ?_
        rintro r w2 ⟨rfl, hI2, hM⟩
        have y0 : w2.cell? ⟨w1.heap.size, 0, none⟩ = some (.int .i64 f) := (hM.cell (k := w1.heap.size) (c := #[.int .i64 f, .int .i64 m]) (box_one _ _ _ _)).trans (by simp)
        have y1 : w2.cell? ⟨w1.heap.size, 1, none⟩ = some (.int .i64 m) := (hM.cell (k := w1.heap.size) (c := #[.int .i64 f, .int .i64 m]) (box_one _ _ _ _)).trans (by simp)
        have hN2 : B ≤ w2.heap.size := by have := hM.below.size; simp at this; omega
        have eg := V.enters
        go_wp2_with fail
        refine (V.call (done ++ pathP m e i) f m w2 hps' hI2 hN2).mono ?_
        rintro r w3 ⟨rfl, hI3, hM3⟩
        rw [List.append_assoc] at hI3
        have hMM : Mid B w w3 := ((Mid.of_below hbW hN).trans hM).trans hM3
        clear hM hM3 hI hI2 y0 y1 hbW hbw1
        go_wp2_with fail
        go_end0
        exact ⟨rfl, hI3, hMM⟩
set_option maxRecDepth 100000 in
set_option maxHeartbeats 1000000 in
theorem walkProof_any {B k : Nat} {cap : Array Value} {ps : List (Nat × Nat)} {I : List (Nat × Nat) → World → Prop} (V : Visits B k cap ps I) (d : Nat) :
    ∀ (f e i : Nat) (whole : Bool) (done : List (Nat × Nat)) (w : World), e - f = d → f < i → i ≤ e → e ≤ 100 → (done ++ proofP f e i whole) <+: ps → I done w → B ≤ w.heap.size →
      Calls Tryd.prog 54 #[partV f e, .int .i64 i, .bool whole, .func (.func k) #[] cap] w fun r w' => r = .returned (.tuple #[]) ∧ I (done ++ proofP f e i whole) w' ∧ Mid B w w' := by
  induction d using Nat.strongRecOn with
  | ind d ih =>
    intro f e i whole done w hd hfe hie he hps hI hN
    by_cases hme : i = e
    · subst hme
      have hbw : Below w.heap.size w (w.alloc (.cells #[.int .i64 f, .int .i64 i] 63)) := (Below.refl _ _).alloc (Nat.le_refl _) _
      cases whole with
      | true =>
        rw [proofP_whole, List.append_nil] at hps ⊢
        go_enter Tryd.func54, Tryd.ntmps54
        go_wp2
        exact bodyPost_ret (v := .tuple #[]) (by simp [results, Tryd.results54]) rfl ⟨rfl, V.keep _ _ _ hI hbw, Mid.of_below hbw hN⟩
      | false =>
        rw [proofP_part] at hps ⊢
        have eg := V.enters
        go_enter Tryd.func54, Tryd.ntmps54
        go_wp2_with fail
        refine (V.call done f i _ hps (V.keep _ _ _ hI hbw) (by have := hbw.size; omega)).mono ?_
        rintro r w3 ⟨rfl, hI3, hM3⟩
        have hMM : Mid B w w3 := (Mid.of_below hbw hN).trans hM3
        clear hM3 hI hbw
        go_wp2_with fail
        exact bodyPost_ret (v := .tuple #[]) (by simp [results, Tryd.results54]) rfl ⟨rfl, hI3, hMM⟩
    · have h2 : f + 2 ≤ e := by omega
      have hs := splitN_spec (n := e - f) (by omega)
      have i1 : (i : Int) ≠ e := by omega
      have hsp : ∀ w, _ := fun w => splitP_any f e w (by omega) he
      by_cases hl : i ≤ f + splitN (e - f)
      · rw [proofP_left hme (by omega) hl] at hps ⊢
        obtain ⟨m, hm⟩ : ∃ m, f + splitN (e - f) = m := ⟨_, rfl⟩
        rw [hm] at hps hsp hl ⊢
        have hm1 : f < m := by omega
        have hm2 : m < e := by omega
        clear hm hs h2
        go_enter Tryd.func54, Tryd.ntmps54
        go_wp2_with fail
        refine (hsp _).mono ?_
        rintro r w1 ⟨rfl, hb1⟩
        have hbw1 : Below w.heap.size w w1 := ((Below.refl _ _).alloc (Nat.le_refl _) _).trans (hb1.mono (by simp))
        have hbW : Below w.heap.size w ((w1.alloc (.cells #[.int .i64 f, .int .i64 m] 63)).alloc (.cells #[.int .i64 m, .int .i64 e] 63)) := (hbw1.alloc hbw1.size _).alloc (by have := hbw1.size; simp; omega) _
        have hsz := hbw1.size
        clear hb1 hsp
        go_wp2_with fail
        have hps' : (done ++ proofP f m i whole ++ [(m, e)]) <+: ps := by rw [List.append_assoc]; exact hps
        refine (ih (m - f) (by omega) f m i whole done _ rfl (by omega) (by omega) (by omega) ((List.prefix_append _ _).trans hps') (V.keep _ _ _ hI hbW) (by have := hbW.size; omega)).mono ?_
        rintro r w2 ⟨rfl, hI2, hM⟩
        have y0 : w2.cell? ⟨w1.heap.size + 1, 0, none⟩ = some (.int .i64 m) := (hM.cell (k := w1.heap.size + 1) (c := #[.int .i64 m, .int .i64 e]) (box_last _ _ _ _)).trans (by simp)
        have y1 : w2.cell? ⟨w1.heap.size + 1, 1, none⟩ = some (.int .i64 e) := (hM.cell (k := w1.heap.size + 1) (c := #[.int .i64 m, .int .i64 e]) (box_last _ _ _ _)).trans (by simp)
        have hN2 : B ≤ w2.heap.size := by have := hM.below.size; simp at this; omega
        have eg := V.enters
        go_wp2_with fail
        refine (V.call (done ++ proofP f m i whole) m e w2 hps' hI2 hN2).mono ?_
        rintro r w3 ⟨rfl, hI3, hM3⟩
        rw [List.append_assoc] at hI3
        have hMM : Mid B w w3 := ((Mid.of_below hbW hN).trans hM).trans hM3
        clear hM hM3 hI hI2 y0 y1 hbW hbw1
        go_wp2_with fail
        exact bodyPost_ret (v := .tuple #[]) (by simp [results, Tryd.results54]) rfl ⟨rfl, hI3, hMM⟩
      · rw [proofP_right hme (by omega) hl] at hps ⊢
        obtain ⟨m, hm⟩ : ∃ m, f + splitN (e - f) = m := ⟨_, rfl⟩
        rw [hm] at hps hsp hl ⊢
        have hm1 : f < m := by omega
        have hm2 : m < e := by omega
        clear hm hs h2
        go_enter Tryd.func54, Tryd.ntmps54
        go_wp2_with fail
        refine (hsp _).mono ?_
        rintro r w1 ⟨rfl, hb1⟩
        have hbw1 : Below w.heap.size w w1 := ((Below.refl _ _).alloc (Nat.le_refl _) _).trans (hb1.mono (by simp))
        have hbW : Below w.heap.size w ((w1.alloc (.cells #[.int .i64 f, .int .i64 m] 63)).alloc (.cells #[.int .i64 m, .int .i64 e] 63)) := (hbw1.alloc hbw1.size _).alloc (by have := hbw1.size; simp; omega) _
        have hsz := hbw1.size
        clear hb1 hsp
        go_wp2_with fail
        have hps' : (done ++ proofP m e i false ++ [(f, m)]) <+: ps := by rw [List.append_assoc]; exact hps
        refine (ih (e - m) (by omega) m e i false done _ rfl (by omega) (by omega) (by omega) ((List.prefix_append _ _).trans hps') (V.keep _ _ _ hI hbW) (by have := hbW.size; omega)).mono ?_
        rintro r w2 ⟨rfl, hI2, hM⟩
        have y0 : w2.cell? ⟨w1.heap.size, 0, none⟩ = some (.int .i64 f) := (hM.cell (k := w1.heap.size) (c := #[.int .i64 f, .int .i64 m]) (box_one _ _ _ _)).trans (by simp)
        have y1 : w2.cell? ⟨w1.heap.size, 1, none⟩ = some (.int .i64 m) := (hM.cell (k := w1.heap.size) (c := #[.int .i64 f, .int .i64 m]) (box_one _ _ _ _)).trans (by simp)
        have hN2 : B ≤ w2.heap.size := by have := hM.below.size; simp at this; omega
        have eg := V.enters
        go_wp2_with fail
        refine (V.call (done ++ proofP m e i false) f m w2 hps' hI2 hN2).mono ?_
        rintro r w3 ⟨rfl, hI3, hM3⟩
        rw [List.append_assoc] at hI3
        have hMM : Mid B w w3 := ((Mid.of_below hbW hN).trans hM).trans hM3
        clear hM hM3 hI hI2 y0 y1 hbW hbw1
        go_wp2_with fail
        go_end0
        exact ⟨rfl, hI3, hMM⟩

end Go.Proofs.YtkjlchfmplcobabDoor
