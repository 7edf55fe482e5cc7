/- The texts on two ways to one root: going down, they are the same, or the first two that are unlike have one digest. Plain mathematics. -/
import Derived.Test.YtkjlchfmplcobabDoorTreeMem
import Derived.Test.YtkjlchfmplcobabDoorTreeGoUp
namespace Go.Proofs.YtkjlchfmplcobabDoor

/-- A node's text, of what was made and another digest; the other one's side is told. -/
def nodeT (l : Bool) (made other : List Int) : List Int := 1 :: (if l then other ++ made else made ++ other)
/-- The texts of the nodes on the way up. -/
def climbT : List Bool → List Int → List (List Int) → List (List Int)
  | l :: ls, m, o :: os => nodeT l m o :: climbT ls (shaL (nodeT l m o)) os
  | [], _, _ => []
  | _ :: _, _, [] => []
/-- What is made at the end. -/
def climbD : List Bool → List Int → List (List Int) → List Int
  | l :: ls, m, o :: os => climbD ls (shaL (nodeT l m o)) os
  | [], m, _ => m
  | _ :: _, m, [] => m
theorem climbT_none (ls : List Bool) (m : List Int) : climbT ls m [] = [] := by cases ls <;> rfl
theorem climbD_none (ls : List Bool) (m : List Int) : climbD ls m [] = m := by cases ls <;> rfl
theorem climb_snoc (k : Nat) : ∀ (ls : List Bool) (m : List Int) (os : List (List Int)), k < os.length → os.length ≤ ls.length →
    climbT ls m (os.take (k + 1)) = climbT ls m (os.take k) ++ [nodeT (ls.getD k false) (climbD ls m (os.take k)) (os.getD k [])] ∧ climbD ls m (os.take (k + 1)) = shaL (nodeT (ls.getD k false) (climbD ls m (os.take k)) (os.getD k [])) := by
  induction k with
  | zero =>
    intro ls m os h1 h2
    match ls, os, h1, h2 with
    | l :: ls, o :: os, _, _ => simp [climbT, climbD, climbT_none, climbD_none]
    | _, [], h1, _ => simp at h1
    | [], _ :: _, _, h2 => simp at h2
  | succ k ih =>
    intro ls m os h1 h2
    match ls, os, h1, h2 with
    | l :: ls, o :: os, h1, h2 =>
      obtain ⟨e1, e2⟩ := ih ls (shaL (nodeT l m o)) os (by simpa using h1) (by simpa using h2)
      rw [List.take_succ_cons, List.take_succ_cons]
      constructor
      · show nodeT l m o :: climbT ls _ (os.take (k + 1)) = nodeT l m o :: climbT ls _ (os.take k) ++ _
        rw [e1]; rfl
      · exact e2
    | _, [], h1, _ => simp at h1
    | [], _ :: _, _, h2 => simp at h2
theorem climbT_length : ∀ (ls : List Bool) (m : List Int) (os : List (List Int)), os.length ≤ ls.length → (climbT ls m os).length = os.length
  | [], m, os, h => by
    have : os = [] := List.length_eq_zero_iff.1 (by simpa using h)
    rw [this]; rfl
  | _ :: _, m, [], _ => rfl
  | l :: ls, m, o :: os, h => by
    show (climbT ls _ os).length + 1 = os.length + 1
    rw [climbT_length ls _ os (by simpa using h)]
theorem nodeT_inj {l : Bool} {m1 m2 o1 o2 : List Int} (h : nodeT l m1 o1 = nodeT l m2 o2) (hm : m1.length = m2.length) (ho : o1.length = o2.length) : m1 = m2 ∧ o1 = o2 := by
  have e : (if l then o1 ++ m1 else m1 ++ o1) = if l then o2 ++ m2 else m2 ++ o2 := by injection h
  cases l with
  | true => exact (List.append_inj (by simpa using e) ho).symm
  | false => exact List.append_inj (by simpa using e) hm
/-- Where all texts are the same, so is all that they were made of. -/
theorem same_start : ∀ (ls : List Bool) (m1 m2 : List Int) (o1 o2 : List (List Int)), o1.length = ls.length → o2.length = ls.length → m1.length = 32 → m2.length = 32 → Digs o1 → Digs o2 → climbT ls m1 o1 = climbT ls m2 o2 → climbD ls m1 o1 = climbD ls m2 o2 → m1 = m2 ∧ o1 = o2
  | [], m1, m2, o1, o2, h1, h2, _, _, _, _, _, hd => by
    obtain rfl : o1 = [] := List.length_eq_zero_iff.1 (by simpa using h1)
    obtain rfl : o2 = [] := List.length_eq_zero_iff.1 (by simpa using h2)
    exact ⟨hd, rfl⟩
  | l :: ls, m1, m2, x1 :: o1, x2 :: o2, h1, h2, l1, l2, g1, g2, ht, hd => by
    have hc : nodeT l m1 x1 :: climbT ls (shaL (nodeT l m1 x1)) o1 = nodeT l m2 x2 :: climbT ls (shaL (nodeT l m2 x2)) o2 := ht
    injection hc with a1 a2
    obtain ⟨e1, e2⟩ := nodeT_inj a1 (l1.trans l2.symm) ((g1 x1 (by simp)).trans (g2 x2 (by simp)).symm)
    have hd' : climbD ls (shaL (nodeT l m1 x1)) o1 = climbD ls (shaL (nodeT l m2 x2)) o2 := hd
    have := same_start ls _ _ o1 o2 (by simpa using h1) (by simpa using h2) (shaL_len _) (shaL_len _) (fun d hd => g1 d (by simp [hd])) (fun d hd => g2 d (by simp [hd])) a2 hd'
    exact ⟨e1, by rw [e2, this.2]⟩
  | _ :: _, _, _, [], _, h1, _, _, _, _, _, _, _ => by simp at h1
  | _ :: _, _, _, _ :: _, [], _, h2, _, _, _, _, _, _ => by simp at h2
/-- Behind which all are the same: these two have one digest. -/
theorem climb_at : ∀ (ls : List Bool) (m1 m2 : List Int) (o1 o2 : List (List Int)) (k : Nat), o1.length = ls.length → o2.length = ls.length → Digs o1 → Digs o2 → climbD ls m1 o1 = climbD ls m2 o2 → k < ls.length →
    (climbT ls m1 o1).drop (k + 1) = (climbT ls m2 o2).drop (k + 1) → shaL ((climbT ls m1 o1).getD k []) = shaL ((climbT ls m2 o2).getD k [])
  | [], _, _, _, _, k, _, _, _, _, _, hk, _ => by simp at hk
  | l :: ls, m1, m2, x1 :: o1, x2 :: o2, 0, h1, h2, g1, g2, hd, _, ht => by
    have ht' : climbT ls (shaL (nodeT l m1 x1)) o1 = climbT ls (shaL (nodeT l m2 x2)) o2 := by simpa [climbT] using ht
    have hd' : climbD ls (shaL (nodeT l m1 x1)) o1 = climbD ls (shaL (nodeT l m2 x2)) o2 := hd
    exact (same_start ls _ _ o1 o2 (by simpa using h1) (by simpa using h2) (shaL_len _) (shaL_len _) (fun d hd => g1 d (by simp [hd])) (fun d hd => g2 d (by simp [hd])) ht' hd').1
  | l :: ls, m1, m2, x1 :: o1, x2 :: o2, k + 1, h1, h2, g1, g2, hd, hk, ht => by
    have hd' : climbD ls (shaL (nodeT l m1 x1)) o1 = climbD ls (shaL (nodeT l m2 x2)) o2 := hd
    have := climb_at ls (shaL (nodeT l m1 x1)) (shaL (nodeT l m2 x2)) o1 o2 k (by simpa using h1) (by simpa using h2) (fun d hd => g1 d (by simp [hd])) (fun d hd => g2 d (by simp [hd])) hd' (by simpa using hk) (by simpa [climbT] using ht)
    simpa [climbT] using this
  | _ :: _, _, _, [], _, _, h1, _, _, _, _, _, _ => by simp at h1
  | _ :: _, _, _, _ :: _, [], _, _, h2, _, _, _, _, _ => by simp at h2
/-- Two lists of texts: any two, behind which all are the same, have one digest. -/
def Linked (A B : List (List Int)) : Prop := A.length = B.length ∧ ∀ k, k < A.length → A.drop (k + 1) = B.drop (k + 1) → shaL (A.getD k []) = shaL (B.getD k [])
theorem climb_linked {ls : List Bool} {m1 m2 : List Int} {o1 o2 : List (List Int)} (h1 : o1.length = ls.length) (h2 : o2.length = ls.length) (g1 : Digs o1) (g2 : Digs o2) (hd : climbD ls m1 o1 = climbD ls m2 o2) : Linked (climbT ls m1 o1) (climbT ls m2 o2) := by
  have e1 := climbT_length ls m1 o1 (by omega)
  have e2 := climbT_length ls m2 o2 (by omega)
  exact ⟨by omega, fun k hk ht => climb_at ls m1 m2 o1 o2 k h1 h2 g1 g2 hd (by omega) ht⟩
/-- With the leaves' texts ahead. -/
theorem leaf_linked {ls : List Bool} {b1 b2 : List Int} {o1 o2 : List (List Int)} (h1 : o1.length = ls.length) (h2 : o2.length = ls.length) (g1 : Digs o1) (g2 : Digs o2) (hd : climbD ls (leafL b1) o1 = climbD ls (leafL b2) o2) : Linked ((0 :: b1) :: climbT ls (leafL b1) o1) ((0 :: b2) :: climbT ls (leafL b2) o2) := by
  obtain ⟨e, h⟩ := climb_linked h1 h2 g1 g2 hd
  refine ⟨by simp [e], fun k hk ht => ?_⟩
  cases k with
  | zero =>
    have ht' : climbT ls (leafL b1) o1 = climbT ls (leafL b2) o2 := by simpa using ht
    exact (same_start ls _ _ o1 o2 h1 h2 (shaL_len _) (shaL_len _) g1 g2 ht' hd).1
  | succ k => simpa using h k (by simpa using hk) (by simpa using ht)
/-- The sides of a path's digests. -/
def pathSides (ps : List (Nat × Nat)) (i : Nat) : List Bool := ps.map (fun q => decide (q.2 ≤ i))
theorem pathP_apart (d : Nat) : ∀ (f e i : Nat), e - f = d → f ≤ i → i < e → ∀ q ∈ pathP f e i, q.1 < q.2 ∧ (i < q.1 ∨ q.2 ≤ i) := by
  induction d using Nat.strongRecOn with
  | ind d ih =>
    intro f e i hd hf hi q hq
    by_cases h2 : e < f + 2
    · rw [pathP_one h2] at hq; cases hq
    · have hs := splitN_spec (n := e - f) (by omega)
      by_cases hl : i < f + splitN (e - f)
      · rw [pathP_left (by omega) hl] at hq
        rcases List.mem_append.1 hq with h | h
        · exact ih (splitN (e - f)) (by omega) f (f + splitN (e - f)) i (by omega) hf hl q h
        · rw [List.mem_singleton.1 h]; simp only; omega
      · rw [pathP_right (by omega) hl] at hq
        rcases List.mem_append.1 hq with h | h
        · exact ih (e - (f + splitN (e - f))) (by omega) (f + splitN (e - f)) e i rfl (by omega) hi q h
        · rw [List.mem_singleton.1 h]; simp only; omega
theorem foldUp_climb (i : Nat) : ∀ (ps : List (Nat × Nat)) (d : List Int) (p : List (List Int)), p.length = ps.length → (∀ q ∈ ps, q.1 < q.2 ∧ (i < q.1 ∨ q.2 ≤ i)) → foldUp i d ps p = climbD (pathSides ps i) d p
  | [], d, p, h, _ => by
    obtain rfl : p = [] := List.length_eq_zero_iff.1 (by simpa using h)
    rfl
  | q :: ps, d, x :: p, h, ha => by
    have hq := ha q (by simp)
    have e : stepUp i d (q, x) = shaL (nodeT (decide (q.2 ≤ i)) d x) := by
      unfold stepUp nodeT nodeL
      by_cases hc : q.2 ≤ i
      · rw [if_pos (by simp only; omega), decide_eq_true hc]; rfl
      · rw [if_neg (by simp only; omega), decide_eq_false hc]; rfl
    show foldUp i (stepUp i d (q, x)) ps p = climbD (pathSides ps i) (shaL (nodeT (decide (q.2 ≤ i)) d x)) p
    rw [e]
    exact foldUp_climb i ps _ p (by simpa using h) (fun y hy => ha y (by simp [hy]))
  | _ :: _, _, [], h, _ => by simp at h
/-- WHO SHOWS A LEAF THAT IS NOT THERE: the two ways' texts are unlike somewhere, and linked. -/
theorem stands_ways {L : List (List Int)} {b : List Int} {i : Nat} {p : List (List Int)} (hi : i < L.length) (hp : p.length = (pathP 0 L.length i).length) (hg : Digs p) (hr : foldUp i (leafL b) (pathP 0 L.length i) p = mth L) (hne : L.getD i [] ≠ b) :
    Linked ((0 :: L.getD i []) :: climbT (pathSides (pathP 0 L.length i) i) (leafL (L.getD i [])) (pathL L i)) ((0 :: b) :: climbT (pathSides (pathP 0 L.length i) i) (leafL b) p) ∧
    ((0 :: L.getD i []) :: climbT (pathSides (pathP 0 L.length i) i) (leafL (L.getD i [])) (pathL L i)) ≠ ((0 :: b) :: climbT (pathSides (pathP 0 L.length i) i) (leafL b) p) := by
  have hap := pathP_apart L.length 0 L.length i (by omega) (by omega) hi
  have hpl : (pathL L i).length = (pathP 0 L.length i).length := by
    have h := path_seg L L.length 0 L.length i (by omega) (by omega) hi (Nat.le_refl _)
    rw [seg_all] at h
    have := congrArg List.length h
    simpa using this.symm
  have hu := up_all (leafL (L.getD i [])) L.length 0 L.length i (pathL L i) (by omega) (by omega) hi
  simp only [Nat.sub_zero] at hu
  rw [up_path L i hi] at hu
  have h1 := hu.2 hpl
  simp only at h1
  rw [foldUp_climb i _ _ _ hpl hap] at h1
  rw [foldUp_climb i _ _ _ hp hap] at hr
  refine ⟨leaf_linked (by simp [pathSides, hpl]) (by simp [pathSides, hp]) (path_digs L i) hg (h1.symm.trans hr.symm), fun e => hne ?_⟩
  injection e with e1 e2
  injection e1
/-- The sides of a proof's digests, but that of the part that ends there. -/
def proofSides (ps : List (Nat × Nat)) (m : Nat) : List Bool := (ps.filter (fun q => decide (q.2 ≠ m))).map (fun q => decide (q.2 < m))
theorem proofP_shape (d : Nat) : ∀ (f e m : Nat) (whole : Bool), e - f = d → f < m → m ≤ e →
    (whole = true ∧ ∀ q ∈ proofP f e m whole, q.2 ≠ m) ∨ ∃ q r, proofP f e m whole = q :: r ∧ q.2 = m ∧ (∀ x ∈ r, x.2 ≠ m) ∧ (whole = true → r ≠ []) := by
  induction d using Nat.strongRecOn with
  | ind d ih =>
    intro f e m whole hd hf hm
    by_cases he : m = e
    · subst he
      cases whole with
      | true => left; rw [proofP_whole]; exact ⟨rfl, fun q hq => by cases hq⟩
      | false => right; rw [proofP_part]; exact ⟨_, [], rfl, rfl, fun x hx => (by cases hx), fun h => (by cases h)⟩
    · have hs := splitN_spec (n := e - f) (by omega)
      by_cases hi : m ≤ f + splitN (e - f)
      · rw [proofP_left he (by omega) hi]
        rcases ih (splitN (e - f)) (by omega) f (f + splitN (e - f)) m whole (by omega) hf hi with ⟨hw, h⟩ | ⟨q, r, h1, h2, h3, -⟩
        · left
          refine ⟨hw, fun q hq => ?_⟩
          rcases List.mem_append.1 hq with h' | h'
          · exact h q h'
          · rw [List.mem_singleton.1 h']; simp only; omega
        · right
          refine ⟨q, r ++ [(f + splitN (e - f), e)], by rw [h1]; rfl, h2, fun x hx => ?_, fun _ => by simp⟩
          rcases List.mem_append.1 hx with h' | h'
          · exact h3 x h'
          · rw [List.mem_singleton.1 h']; simp only; omega
      · rw [proofP_right he (by omega) hi]
        rcases ih (e - (f + splitN (e - f))) (by omega) (f + splitN (e - f)) e m false rfl (by omega) hm with ⟨hw, h⟩ | ⟨q, r, h1, h2, h3, -⟩
        · cases hw
        · right
          refine ⟨q, r ++ [(f, f + splitN (e - f))], by rw [h1]; rfl, h2, fun x hx => ?_, fun _ => by simp⟩
          rcases List.mem_append.1 hx with h' | h'
          · exact h3 x h'
          · rw [List.mem_singleton.1 h']; simp only; omega
theorem foldTwo_climb (m : Nat) : ∀ (ps : List (Nat × Nat)) (d : List Int × List Int) (p : List (List Int)), p.length = ps.length → (∀ q ∈ ps, q.2 ≠ m) → (foldTwo m d ps p).2 = climbD (ps.map (fun q => decide (q.2 < m))) d.2 p
  | [], d, p, h, _ => by
    obtain rfl : p = [] := List.length_eq_zero_iff.1 (by simpa using h)
    rfl
  | q :: ps, d, x :: p, h, ha => by
    have hq := ha q (by simp)
    have e : (stepTwo m d (q, x)).2 = shaL (nodeT (decide (q.2 < m)) d.2 x) := by
      unfold stepTwo nodeT nodeL
      rw [if_neg hq]
      by_cases hc : q.2 < m
      · rw [if_pos hc, decide_eq_true hc]; rfl
      · rw [if_neg hc, decide_eq_false hc]; rfl
    show (foldTwo m (stepTwo m d (q, x)) ps p).2 = climbD (ps.map (fun q => decide (q.2 < m))) (shaL (nodeT (decide (q.2 < m)) d.2 x)) p
    rw [foldTwo_climb m ps _ p (by simpa using h) (fun y hy => ha y (by simp [hy])), e]
  | _ :: _, _, [], h, _ => by simp at h
theorem filter_all {m : Nat} {ps : List (Nat × Nat)} (h : ∀ q ∈ ps, q.2 ≠ m) : ps.filter (fun q => decide (q.2 ≠ m)) = ps := List.filter_eq_self.2 (fun q hq => decide_eq_true (h q hq))
/-- The texts of a proof: from the beginning's root, or from the part that ends there. -/
def proofT (ls : List Bool) (d : List Int) (p : List (List Int)) : List (List Int) := if p.length = ls.length then climbT ls d p else climbT ls (p.getD 0 []) (p.drop 1)
/-- WHO SHOWS ANOTHER PAST: the two ways' texts are unlike somewhere, and linked. -/
theorem grew_ways {L : List (List Int)} {m : Nat} {old : List Int} {p : List (List Int)} (h1 : 1 ≤ m) (hm : m ≤ L.length) (hp : p.length = (proofP 0 L.length m true).length) (hg : Digs p) (ho : old.length = 32) (hr1 : (foldTwo m (old, old) (proofP 0 L.length m true) p).1 = old) (hr2 : (foldTwo m (old, old) (proofP 0 L.length m true) p).2 = mth L) (hne : mth (L.take m) ≠ old) :
    Linked (proofT (proofSides (proofP 0 L.length m true) m) (mth (L.take m)) (proofL L m true)) (proofT (proofSides (proofP 0 L.length m true) m) old p) ∧
    proofT (proofSides (proofP 0 L.length m true) m) (mth (L.take m)) (proofL L m true) ≠ proofT (proofSides (proofP 0 L.length m true) m) old p ∧
    (p.length = (proofSides (proofP 0 L.length m true) m).length ∨ (p.length = (proofSides (proofP 0 L.length m true) m).length + 1 ∧ 1 ≤ (proofSides (proofP 0 L.length m true) m).length)) := by
  have hpl : (proofL L m true).length = (proofP 0 L.length m true).length := by
    have h := proof_seg L L.length 0 L.length m true (by omega) (by omega) hm (Nat.le_refl _)
    rw [seg_all] at h
    have := congrArg List.length h
    simpa using this.symm
  have hu := two_all (mth (L.take m)) L.length 0 L.length m true (proofL L m true) (by omega) (by omega) hm
  simp only [Nat.sub_zero] at hu
  rw [two_proof L m true (mth (L.take m)) h1 hm (fun _ => rfl)] at hu
  obtain ⟨a1, a2⟩ := hu.2 hpl
  simp only at a1 a2
  have hgo := proof_digs L m true
  unfold proofT proofSides
  rcases proofP_shape L.length 0 L.length m true (by omega) (by omega) hm with ⟨-, hs⟩ | ⟨q, r, hs, hq, hr, hrn⟩
  · generalize proofP 0 L.length m true = ps at *
    rw [filter_all hs]
    rw [if_pos (by simp [hpl]), if_pos (by simp [hp])]
    rw [foldTwo_climb m ps _ _ hpl hs] at a2
    rw [foldTwo_climb m ps _ _ hp hs] at hr2
    refine ⟨climb_linked (by simp [hpl]) (by simp [hp]) hgo hg (a2.symm.trans hr2.symm), fun e => hne ?_, by left; simp [hp]⟩
    exact (same_start _ _ _ _ _ (by simp [hpl]) (by simp [hp]) (mth_length _) ho hgo hg e (a2.symm.trans hr2.symm)).1
  · rw [hs] at hp hpl a1 a2 hr1 hr2 ⊢
    have hf : (q :: r).filter (fun q => decide (q.2 ≠ m)) = r := by rw [List.filter_cons_of_neg (by simp [hq]), filter_all hr]
    rw [hf]
    generalize proofL L m true = pp at *
    match pp, p, hpl, hp with
    | x :: pp, y :: p, hpl, hp =>
      rw [if_neg (by simp at hpl ⊢; omega), if_neg (by simp at hp ⊢; omega)]
      simp only [List.getD_cons_zero, List.drop_succ_cons, List.drop_zero]
      have hpl' : pp.length = r.length := by simpa using hpl
      have hp' : p.length = r.length := by simpa using hp
      have b2 : ∀ (d : List Int) (z : List Int) (t : List (List Int)), foldTwo m (d, d) (q :: r) (z :: t) = foldTwo m (z, z) r t := fun d z t => by
        show foldTwo m (stepTwo m (d, d) (q, z)) r t = _
        unfold stepTwo
        rw [if_pos hq]
      rw [b2] at a1 a2 hr1 hr2
      have c1 := a2
      have c2 := hr2
      rw [foldTwo_climb m r _ _ hpl' hr] at c1
      rw [foldTwo_climb m r _ _ hp' hr] at c2
      have g1 : Digs pp := fun d hd => hgo d (by simp [hd])
      have g2 : Digs p := fun d hd => hg d (by simp [hd])
      refine ⟨climb_linked (by simp [hpl']) (by simp [hp']) g1 g2 (c1.symm.trans c2.symm), fun e => hne ?_, by
        have h1 : r.length ≠ 0 := fun e => hrn rfl (List.length_eq_zero_iff.1 e)
        right
        simp [hp']
        omega⟩
      obtain ⟨e1, e2⟩ := same_start _ _ _ _ _ (by simp [hpl']) (by simp [hp']) (hgo x (by simp)) (hg y (by simp)) g1 g2 e (c1.symm.trans c2.symm)
      rw [a1, e1, e2, hr1]
    | [], _, hpl, _ => simp at hpl
    | _ :: _, [], _, hp => simp at hp

end Go.Proofs.YtkjlchfmplcobabDoor
