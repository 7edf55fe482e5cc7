/- Regions that draw their order, by what holds whatever has been carried out so far; operations may be guarded. Nothing of the program is in it. -/
import Derived.WalkKit
import Derived.WalkSpells
import Derived.WalkLawsBesides
import Derived.BigRegion
namespace Go.Proofs.YtkjlchfmplcobaeGreatDoor
open Go.RowKit

theorem countF_set : ∀ (l : List Bool) (i : Nat), l[i]? = some false → (l.set i true).countP (fun b => !b) + 1 = l.countP (fun b => !b)
  | [], i, h => by simp at h
  | b :: l, 0, h => by simp at h; subst h; simp
  | b :: l, i + 1, h => by
    simp only [List.getElem?_cons_succ] at h
    have := countF_set l i h
    simp only [List.set_cons_succ, List.countP_cons]
    omega
theorem countF_pos : ∀ (l : List Bool) (i : Nat), l[i]? = some false → 0 < l.countP (fun b => !b) := fun l i h => by have := countF_set l i h; omega
theorem ready_inv {md : Region.Mode} {ops : Array Oper} {listed : Array Bool} {i : Nat} (h : i ∈ Region.ready md ops listed) : i < ops.size ∧ listed[i]? = some false ∧ ∀ o, ops[i]? = some o → ∀ e ∈ o.after, Region.binds md e = true → listed.getD e.on false = true := by
  unfold Region.ready at h
  rw [List.mem_filter] at h
  obtain ⟨h1, h2⟩ := h
  rw [Bool.and_eq_true] at h2
  obtain ⟨h2, h3⟩ := h2
  refine ⟨List.mem_range.1 h1, ?_, fun o ho e he hb => ?_⟩
  · cases hq : listed[i]? with
    | none => simp [Array.getD_eq_getD_getElem?, hq] at h2
    | some b => simp [Array.getD_eq_getD_getElem?, hq] at h2; rw [h2]
  · rw [ho] at h3
    simp only [Option.map_some, Option.getD_some, Array.all_eq_true_iff_forall_mem] at h3
    have := h3 e he
    rw [hb] at this
    simpa using this
theorem wpAny_inv {P : Program} {md : Region.Mode} {ops : Array Oper} {Q : Exit → Act → World → Prop} (I : Array Bool → Act → World → Prop)
    (hs : ∀ listed a w i, I listed a w → i ∈ Region.ready md ops listed → wpOp P ops Q i (I (listed.setIfInBounds i true)) a w)
    (he : ∀ listed a w, I listed a w → Region.ready md ops listed = [] → Q .normal a w) : ∀ (fuel : Nat) (listed : Array Bool) (a : Act) (w : World), I listed a w → listed.toList.countP (fun b => !b) ≤ fuel → wpAny P md ops Q fuel listed a w
  | 0, listed, a, w, hI, hc => by
    have hr : Region.ready md ops listed = [] := by
      cases h : Region.ready md ops listed with
      | nil => rfl
      | cons i r =>
        obtain ⟨-, h2, -⟩ := ready_inv (md := md) (ops := ops) (listed := listed) (i := i) (by rw [h]; simp)
        have := countF_pos listed.toList i (by simpa using h2)
        omega
    exact ⟨hr, he _ _ _ hI hr⟩
  | fuel + 1, listed, a, w, hI, hc => ⟨fun hr => he _ _ _ hI hr, fun i hi => wpOp_mono (fun a' w' h' => wpAny_inv I hs he fuel _ a' w' h' (by
      obtain ⟨h1, h2, -⟩ := ready_inv hi
      have := countF_set listed.toList i (by simpa using h2)
      rw [Array.toList_setIfInBounds]
      omega)) (hs _ _ _ i hI hi)⟩
theorem all_listed {ops : Array Oper} {listed : Array Bool} (hsz : listed.size = ops.size) (hlow : ∀ i o, ops[i]? = some o → ∀ e ∈ o.after, Region.binds .any e = true → e.on < i) (hr : Region.ready .any ops listed = []) : ∀ i, i < ops.size → listed.getD i false = true := by
  intro i
  induction i using Nat.strongRecOn with
  | ind i ih =>
    intro hi
    cases hq : listed[i]? with
    | none => rw [Array.getElem?_eq_none_iff] at hq; omega
    | some b =>
      cases b with
      | true => simp [Array.getD_eq_getD_getElem?, hq]
      | false =>
        exfalso
        have : i ∈ Region.ready .any ops listed := by
          unfold Region.ready
          rw [List.mem_filter]
          refine ⟨List.mem_range.2 hi, ?_⟩
          have ho : ops[i]? = some ops[i] := Array.getElem?_eq_getElem hi
          rw [ho]
          simp only [Array.getD_eq_getD_getElem?, hq, Option.getD_some, Bool.not_false, Bool.true_and, Option.map_some, Array.all_eq_true_iff_forall_mem]
          intro e he
          cases hb : Region.binds .any e with
          | false => rfl
          | true =>
            have h1 := hlow i _ ho e he hb
            have := ih e.on h1 (by omega)
            rw [Array.getD_eq_getD_getElem?] at this
            simp [this]
        rw [hr] at this
        cases this
theorem flag_set {listed : Array Bool} {i j : Nat} (hi : i < listed.size) : (listed.setIfInBounds i true).getD j false = (j == i || listed.getD j false) := by
  simp only [Array.getD_eq_getD_getElem?, Array.getElem?_setIfInBounds]
  by_cases h : i = j
  · subst h
    simp [hi]
  · rw [if_neg h]
    have : (j == i) = false := by simpa using fun e => h e.symm
    rw [this, Bool.false_or]
theorem getD_put (t : Array Value) (k j : Nat) (v : Value) (hk : k < t.size) : (t.setIfInBounds k v).getD j undef = if k = j then v else t.getD j undef := by
  simp only [Array.getD_eq_getD_getElem?, Array.getElem?_setIfInBounds]
  by_cases h : k = j
  · subst h; simp [hk]
  · rw [if_neg h, if_neg h]
def setL (ℓ : Nat → Bool) (i : Nat) : Nat → Bool := fun j => j == i || ℓ j
def updS (σ : Nat → Value) (i : Nat) (v : Value) : Nat → Value := fun j => if j = i then v else σ j
/-- What is put into slots, one behind the other. -/
def setAll : Array Value → List (Nat × Value) → Array Value
  | t, [] => t
  | t, p :: ps => setAll (t.setIfInBounds p.1 p.2) ps
theorem setAll_size : ∀ (ps : List (Nat × Value)) (t : Array Value), (setAll t ps).size = t.size
  | [], _ => rfl
  | p :: ps, t => by rw [setAll, setAll_size ps, Array.size_setIfInBounds]
theorem setAll_out : ∀ (ps : List (Nat × Value)) (t : Array Value) (k : Nat), (∀ p ∈ ps, p.1 ≠ k) → (setAll t ps).getD k undef = t.getD k undef
  | [], _, _, _ => rfl
  | p :: ps, t, k, h => by
    rw [setAll, setAll_out ps _ k (fun q hq => h q (List.mem_cons_of_mem _ hq))]
    simp only [Array.getD_eq_getD_getElem?, Array.getElem?_setIfInBounds]
    rw [if_neg (h p (List.mem_cons_self ..))]
theorem setAll_in : ∀ (ps : List (Nat × Value)) (t : Array Value) (k : Nat) (v : Value), (k, v) ∈ ps → ps.Pairwise (fun p q => p.1 ≠ q.1) → k < t.size → (setAll t ps).getD k undef = v
  | [], _, _, _, h, _, _ => by cases h
  | p :: ps, t, k, v, h, hp, hk => by
    rw [setAll]
    rcases List.mem_cons.1 h with h | h
    · subst h
      rw [setAll_out ps _ k (fun q hq e => (List.pairwise_cons.1 hp).1 q hq e.symm), getD_put _ _ _ _ hk, if_pos rfl]
    · exact setAll_in ps _ k v h (List.pairwise_cons.1 hp).2 (by rw [Array.size_setIfInBounds]; exact hk)
theorem array_same {A B : Array Value} (h : A.size = B.size) (hg : ∀ k, A.getD k undef = B.getD k undef) : A = B := by
  apply Array.ext h
  intro k h1 h2
  have := hg k
  simpa [Array.getD_eq_getD_getElem?, Array.getElem?_eq_getElem h1, Array.getElem?_eq_getElem h2] using this
/-- All slots that a region writes. -/
def putsOf (n : Nat) (dst : Nat → Option Nat) (σ : Nat → Value) : List (Nat × Value) := (List.range n).filterMap (fun i => (dst i).map (fun k => (k, σ i)))
theorem puts_pw {n : Nat} {dst : Nat → Option Nat} (h : ((List.range n).filterMap dst).Pairwise (· ≠ ·)) (σ : Nat → Value) : (putsOf n dst σ).Pairwise (fun p q => p.1 ≠ q.1) := by
  have : (putsOf n dst σ).map Prod.fst = (List.range n).filterMap dst := by
    unfold putsOf
    rw [List.map_filterMap]
    congr 1
    funext i
    cases dst i <;> rfl
  rw [← this, List.pairwise_map] at h
  exact h
/-- What is asked of a region's text. -/
structure RgOps (ops : Array Oper) (n : Nat) (dst : Nat → Option Nat) (gd : Nat → Option (Nat × Bool)) (dep : Nat → List Nat) : Prop where
  size : ops.size = n
  low : ∀ i o, ops[i]? = some o → ∀ e ∈ o.after, Region.binds .any e = true → e.on < i
  op : ∀ i, i < n → ∃ o, ops[i]? = some o ∧ o.guard = gd i ∧ o.dst = dst i ∧ ∀ j ∈ dep i, ∃ e ∈ o.after, e.on = j ∧ Region.binds .any e = true
  gd : ∀ i g b, i < n → gd i = some (g, b) → g < n ∧ g ∈ dep i ∧ (dst g).isSome = true
theorem RgOps.of {ops : Array Oper} {n : Nat} {dst : Nat → Option Nat} {gd : Nat → Option (Nat × Bool)} {dep : Nat → List Nat} (h1 : ops.size = n) (h2 : ((List.range n).all fun i => ((ops[i]?).map fun o => o.after.all fun e => !Region.binds .any e || decide (e.on < i)).getD true) = true)
    (h3 : ((List.range n).all fun i => ((ops[i]?).map fun o => decide (o.guard = gd i) && decide (o.dst = dst i) && (dep i).all fun j => o.after.any fun e => e.on == j && Region.binds .any e).getD false) = true)
    (h4 : ((List.range n).all fun i => match gd i with | none => true | some (g, _) => decide (g < n) && (dep i).contains g && (dst g).isSome) = true) : RgOps ops n dst gd dep := by
  refine ⟨h1, fun i o ho e he hb => ?_, fun i hi => ?_, fun i g b hi hg => ?_⟩
  · have hi : i < n := by rw [← h1]; exact (Array.getElem?_eq_some_iff.1 ho).1
    have := List.all_eq_true.1 h2 i (List.mem_range.2 hi)
    rw [ho] at this
    simp only [Option.map_some, Option.getD_some, Array.all_eq_true_iff_forall_mem] at this
    have h := this e he
    rw [hb] at h
    simpa using h
  · have := List.all_eq_true.1 h3 i (List.mem_range.2 hi)
    cases ho : ops[i]? with
    | none => rw [ho] at this; simp at this
    | some o =>
      rw [ho] at this
      simp only [Option.map_some, Option.getD_some, Bool.and_eq_true, decide_eq_true_eq] at this
      obtain ⟨⟨q1, q2⟩, q3⟩ := this
      refine ⟨o, rfl, q1, q2, fun j hj => ?_⟩
      have := List.all_eq_true.1 q3 j hj
      rw [Array.any_eq_true] at this
      obtain ⟨m, hm, h⟩ := this
      rw [Bool.and_eq_true] at h
      exact ⟨_, Array.getElem_mem hm, by simpa using h.1, h.2⟩
  · have := List.all_eq_true.1 h4 i (List.mem_range.2 hi)
    rw [hg] at this
    simp only [Bool.and_eq_true, decide_eq_true_eq] at this
    exact ⟨this.1.1, by simpa using this.1.2, this.2⟩
structure RgI (n : Nat) (dst : Nat → Option Nat) (a0 : Act) (M : (Nat → Bool) → (Nat → Value) → World → Prop) (σ : Nat → Value) (listed : Array Bool) (a : Act) (w : World) : Prop where
  sz : listed.size = n
  asz : a.tmps.size = a0.tmps.size
  df : a.defers = a0.defers
  fr : ∀ k, (∀ i, i < n → dst i ≠ some k) → a.tmps.getD k undef = a0.tmps.getD k undef
  val : ∀ i, i < n → listed.getD i false = true → ∀ k, dst i = some k → a.tmps.getD k undef = σ i
  mem : M (fun j => listed.getD j false) σ w
theorem RgI.step {n : Nat} {dst : Nat → Option Nat} {a0 : Act} {M : (Nat → Bool) → (Nat → Value) → World → Prop} {σ : Nat → Value} {listed : Array Bool} {a : Act} {w w' : World} (hinj : ∀ i j k, i < n → j < n → dst i = some k → dst j = some k → i = j) (hbnd : ∀ i k, dst i = some k → k < a0.tmps.size) (h : RgI n dst a0 M σ listed a w) {i : Nat} (hi : i < n) (v : Value)
    (hM : M (setL (fun j => listed.getD j false) i) (updS σ i v) w') : RgI n dst a0 M (updS σ i v) (listed.setIfInBounds i true) (a.put (dst i) v) w' := by
  have hsz : i < listed.size := by rw [h.sz]; exact hi
  have hfl : ∀ j, (listed.setIfInBounds i true).getD j false = setL (fun j => listed.getD j false) i j := fun j => flag_set hsz
  have hold : ∀ j, j ≠ i → (listed.setIfInBounds i true).getD j false = true → listed.getD j false = true := fun j e hq => by
    rw [hfl] at hq
    have e' : (j == i) = false := by simpa using e
    unfold setL at hq
    rw [e', Bool.false_or] at hq
    exact hq
  have hmem : M (fun j => (listed.setIfInBounds i true).getD j false) (updS σ i v) w' := by
    have : (fun j => (listed.setIfInBounds i true).getD j false) = setL (fun j => listed.getD j false) i := funext hfl
    rw [this]; exact hM
  cases hd : dst i with
  | none =>
    refine ⟨by rw [Array.size_setIfInBounds]; exact h.sz, h.asz, h.df, h.fr, fun j hj hq k hk => ?_, hmem⟩
    have e : j ≠ i := fun e => by rw [e, hd] at hk; cases hk
    show a.tmps.getD k undef = updS σ i v j
    unfold updS
    rw [if_neg e]
    exact h.val j hj (hold j e hq) k hk
  | some k0 =>
    have hb := hbnd i k0 hd
    have hk0 : k0 < a.tmps.size := by rw [h.asz]; exact hb
    refine ⟨by rw [Array.size_setIfInBounds]; exact h.sz, by show (a.tmps.setIfInBounds k0 v).size = _; rw [Array.size_setIfInBounds]; exact h.asz, h.df, fun k hk => ?_, fun j hj hq k hk => ?_, hmem⟩
    · show (a.tmps.setIfInBounds k0 v).getD k undef = _
      rw [getD_put _ _ _ _ hk0, if_neg (fun e => hk i hi (by rw [hd, e]))]
      exact h.fr k hk
    · show (a.tmps.setIfInBounds k0 v).getD k undef = updS σ i v j
      rw [getD_put _ _ _ _ hk0]
      unfold updS
      by_cases e : j = i
      · subst e
        rw [hd] at hk
        cases hk
        rw [if_pos rfl, if_pos rfl]
      · rw [if_neg e, if_neg (fun q => e (hinj j i k hj hi hk (by rw [hd, q])))]
        exact h.val j hj (hold j e hq) k hk
/-- What is known of the frame while a region is carried out. -/
structure RgEv (n : Nat) (dst : Nat → Option Nat) (a0 : Act) (ℓ : Nat → Bool) (σ : Nat → Value) (ev : Operand → Value) : Prop where
  out : ∀ k, (∀ j, j < n → dst j ≠ some k) → ev (.tmp k) = a0.tmps.getD k undef
  val : ∀ j, j < n → ℓ j = true → ∀ k, dst j = some k → ev (.tmp k) = σ j
/-- Whatever order is picked. -/
theorem region_by {P : Program} {id : Nat} {ops : Array Oper} {n : Nat} {dst : Nat → Option Nat} {gd : Nat → Option (Nat × Bool)} {dep : Nat → List Nat} {Q : Exit → Act → World → Prop} {a0 : Act} {w0 : World} (hm : P.follows .mixedOrders = true) (hO : RgOps ops n dst gd dep)
    (hpw : ((List.range n).filterMap dst).Pairwise (· ≠ ·)) (hbnd : ∀ i k, dst i = some k → k < a0.tmps.size) (M : (Nat → Bool) → (Nat → Value) → World → Prop) (h0 : M (fun _ => false) (fun _ => undef) w0.drew)
    (hinj : ∀ i j k, i < n → j < n → dst i = some k → dst j = some k → i = j)
    (hgv : ∀ ℓ σ w i g b, M ℓ σ w → i < n → gd i = some (g, b) → ℓ g = true → ∃ b', σ g = .bool b')
    (hskip : ∀ ℓ σ w i g b b', M ℓ σ w → i < n → gd i = some (g, b) → ℓ g = true → σ g = .bool b' → b' ≠ b → ℓ i = false → (∀ j ∈ dep i, ℓ j = true) → M (setL ℓ i) (updS σ i undef) w)
    (step : ∀ ℓ σ w (a : Act) i o, ops[i]? = some o → i < n → RgEv n dst a0 ℓ σ a.eval → M ℓ σ w → ℓ i = false → (∀ j ∈ dep i, ℓ j = true) → (∀ g b, gd i = some (g, b) → σ g = .bool b) → ∀ K : Act → World → Prop, (∀ v w', M (setL ℓ i) (updS σ i v) w' → K (a.put o.dst v) w') → o.wp P a w K Q)
    (fin : ∀ σ w, M (fun i => decide (i < n)) σ w → Q .normal ⟨setAll a0.tmps (putsOf n dst σ), a0.defers⟩ w) : (Code.region id ops true).wp P Q a0 w0 := by
  refine wp_region_any hm ?_
  refine wpAny_inv (fun listed a w => ∃ σ, RgI n dst a0 M σ listed a w) ?_ ?_ _ _ _ _ ⟨fun _ => undef, ?_⟩ ?_
  · rintro listed a w i ⟨σ, h⟩ hi
    obtain ⟨hi1, hl, hdep⟩ := ready_inv hi
    rw [hO.size] at hi1
    obtain ⟨o, ho, hg, hd, hdp⟩ := hO.op i hi1
    have hdeps : ∀ j ∈ dep i, listed.getD j false = true := fun j hj => by
      obtain ⟨e, he, rfl, hb⟩ := hdp j hj
      exact hdep o ho e he hb
    have hself : listed.getD i false = false := by simp [Array.getD_eq_getD_getElem?, hl]
    have hE : RgEv n dst a0 (fun j => listed.getD j false) σ a.eval := ⟨fun k hk => h.fr k hk, fun j hj hq k hk => h.val j hj hq k hk⟩
    have hK : ∀ v w', M (setL (fun j => listed.getD j false) i) (updS σ i v) w' → ∃ σ, RgI n dst a0 M σ (listed.setIfInBounds i true) (a.put o.dst v) w' := fun v w' hM => ⟨updS σ i v, by rw [hd]; exact h.step hinj hbnd hi1 v hM⟩
    unfold wpOp
    rw [ho]
    dsimp only
    cases hgi : gd i with
    | none =>
      rw [if_pos (by simp [Region.wanted, hg, hgi])]
      exact .inl (step _ σ w a i o ho hi1 hE h.mem hself hdeps (fun g b e => by rw [hgi] at e; cases e) _ hK)
    | some gb =>
      obtain ⟨g, b⟩ := gb
      obtain ⟨hgn, hgd, hgs⟩ := hO.gd i g b hi1 hgi
      have hlg := hdeps g hgd
      obtain ⟨b', hb'⟩ := hgv _ σ w i g b h.mem hi1 hgi hlg
      obtain ⟨og, hog, -, hogd, -⟩ := hO.op g hgn
      have hy : yielded ops a.tmps g = some b' := by
        cases hdg : dst g with
        | none => rw [hdg] at hgs; cases hgs
        | some kg =>
          have hv := h.val g hgn hlg kg hdg
          have hlt : kg < a.tmps.size := by rw [h.asz]; exact hbnd g kg hdg
          unfold yielded
          rw [hog]
          simp only [Option.bind_some, hogd, hdg]
          have : a.tmps[kg]? = some (.bool b') := by
            rw [Array.getElem?_eq_getElem hlt]
            rw [Array.getD_eq_getD_getElem?, Array.getElem?_eq_getElem hlt, Option.getD_some] at hv
            rw [hv, hb']
          rw [this]
      have hwa : Region.wanted o (yielded ops a.tmps) = (b' == b) := by
        simp [Region.wanted, hg, hgi, hy]
      by_cases hbb : b' = b
      · subst hbb
        rw [if_pos (by rw [hwa]; simp)]
        exact .inl (step _ σ w a i o ho hi1 hE h.mem hself hdeps (fun g2 b2 e => by rw [hgi] at e; cases e; exact hb') _ hK)
      · rw [if_neg (by rw [hwa]; simpa using hbb)]
        exact hK undef w (hskip _ σ w i g b b' h.mem hi1 hgi hlg hb' hbb hself hdeps)
  · rintro listed a w ⟨σ, h⟩ hr
    have hall := all_listed (by rw [h.sz, hO.size]) hO.low hr
    rw [hO.size] at hall
    have hmem : M (fun i => decide (i < n)) σ w := by
      have : (fun j => listed.getD j false) = (fun i => decide (i < n)) := funext fun j => by
        by_cases hj : j < n
        · rw [hall j hj, decide_eq_true hj]
        · rw [decide_eq_false hj, Array.getD_eq_getD_getElem?, Array.getElem?_eq_none (by rw [h.sz]; omega)]; rfl
      rw [← this]; exact h.mem
    have ha : a = ⟨setAll a0.tmps (putsOf n dst σ), a0.defers⟩ := by
      obtain ⟨at', ad⟩ := a
      have hdf := h.df
      have : at' = setAll a0.tmps (putsOf n dst σ) := array_same (by rw [setAll_size]; exact h.asz) (fun k => by
        by_cases hk : ∃ i, i < n ∧ dst i = some k
        · obtain ⟨i, hi, hik⟩ := hk
          rw [setAll_in (putsOf n dst σ) a0.tmps k (σ i) (List.mem_filterMap.2 ⟨i, List.mem_range.2 hi, by rw [hik]; rfl⟩) (puts_pw hpw σ) (hbnd i k hik)]
          exact h.val i hi (hall i hi) k hik
        · have hk' : ∀ i, i < n → dst i ≠ some k := fun i hi e => hk ⟨i, hi, e⟩
          rw [setAll_out (putsOf n dst σ) a0.tmps k (fun p hp e => by
            obtain ⟨i, hi, q⟩ := List.mem_filterMap.1 hp
            cases hdd : dst i with
            | none => rw [hdd] at q; cases q
            | some k' =>
              rw [hdd] at q
              cases q
              exact hk' i (List.mem_range.1 hi) (by rw [hdd]; exact congrArg some e))]
          exact h.fr k hk')
      rw [this]
      exact congrArg _ hdf
    rw [ha]
    exact fin σ w hmem
  · have hf : ∀ j, (Array.replicate ops.size false).getD j false = false := fun j => by
      simp only [Array.getD_eq_getD_getElem?, Array.getElem?_replicate]
      split <;> rfl
    refine ⟨by rw [Array.size_replicate, hO.size], rfl, rfl, fun _ _ => rfl, fun i _ q => absurd q (by rw [hf]; decide), ?_⟩
    have : (fun j => (Array.replicate ops.size false).getD j false) = (fun _ => false) := funext hf
    rw [this]
    exact h0
  · rw [Array.toList_replicate]
    exact Nat.le_trans List.countP_le_length (by simp)
theorem wp_of_run {P : Program} {o : Oper} {a : Act} {w w' : World} {K : Act → World → Prop} {Q : Exit → Act → World → Prop} {v : Value} (h : (execOp a.eval o).run P w = .ok (.value v) w') (hK : K (a.put o.dst v) w') : o.wp P a w K Q := by
  unfold Oper.wp; rw [h]; exact hK
theorem wp_of_skip {P : Program} {o : Oper} {a : Act} {w w' : World} {K : Act → World → Prop} {Q : Exit → Act → World → Prop} (h : (execOp a.eval o).run P w = .ok .skip w') (hK : K (a.put o.dst undef) w') : o.wp P a w K Q := by
  unfold Oper.wp; rw [h]; exact hK
/-- Values that are the same whatever the order is. -/
def PV (pv : Nat → Option Value) (ℓ : Nat → Bool) (σ : Nat → Value) : Prop := ∀ j v, pv j = some v → ℓ j = true → σ j = v
theorem PV.step {pv : Nat → Option Value} {ℓ : Nat → Bool} {σ : Nat → Value} {i : Nat} {v : Value} (h : PV pv ℓ σ) (hi : ∀ u, pv i = some u → u = v) : PV pv (setL ℓ i) (updS σ i v) := fun j u hj hl => by
  unfold updS
  by_cases e : j = i
  · rw [if_pos e]; rw [e] at hj; exact (hi u hj).symm
  · rw [if_neg e]
    have e' : (j == i) = false := by simpa using e
    unfold setL at hl
    rw [e', Bool.false_or] at hl
    exact h j u hj hl

end Go.Proofs.YtkjlchfmplcobaeGreatDoor
