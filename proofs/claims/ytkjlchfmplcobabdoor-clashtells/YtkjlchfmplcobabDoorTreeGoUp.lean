/- What Stands and Grew reckon, part by part: plain mathematics. -/
import Derived.Test.YtkjlchfmplcobabDoorTreeGoSeg
namespace Go.Proofs.YtkjlchfmplcobabDoor

theorem take_zip (ps : List (Nat × Nat)) (p : List (List Int)) (q : Nat × Nat) (h : ps.length < p.length) : (ps ++ [q]).zip p = ps.zip p ++ [(q, p.getD ps.length [])] := by
  induction ps generalizing p with
  | nil =>
    cases p with
    | nil => simp at h
    | cons x l => simp
  | cons a l ih =>
    cases p with
    | nil => simp at h
    | cons x r => simp [ih r (by simpa using h)]
theorem drop_last {p : List (List Int)} (h : p.length ≠ 0) : p = p.dropLast ++ [p.getD (p.length - 1) []] := by
  have hne : p ≠ [] := fun e => by rw [e] at h; exact h rfl
  conv => lhs; rw [← List.dropLast_concat_getLast hne]
  congr 2
  rw [List.getLast_eq_getElem, List.getD_eq_getElem?_getD, List.getElem?_eq_getElem (by omega)]
  rfl
theorem zip_last {ps : List (Nat × Nat)} {q : Nat × Nat} {p : List (List Int)} (h : p.length = ps.length + 1) : (ps ++ [q]).zip p = ps.zip p.dropLast ++ [(q, p.getD (p.length - 1) [])] := by
  conv => lhs; rw [drop_last (p := p) (by omega)]
  rw [List.zip_append (by rw [List.length_dropLast]; omega)]
  rfl
/-- A part more: on which side of the leaf it is. -/
def stepUp (i : Nat) (d : List Int) (x : (Nat × Nat) × List Int) : List Int := if x.1.1 < i then nodeL x.2 d else nodeL d x.2
def foldUp (i : Nat) (d : List Int) (ps : List (Nat × Nat)) (p : List (List Int)) : List Int := (ps.zip p).foldl (stepUp i) d
theorem foldUp_nil (i : Nat) (d : List Int) (p : List (List Int)) : foldUp i d [] p = d := rfl
theorem foldUp_snoc (i : Nat) (d : List Int) (ps : List (Nat × Nat)) (p : List (List Int)) (q : Nat × Nat) (h : ps.length < p.length) : foldUp i d (ps ++ [q]) p = stepUp i (foldUp i d ps p) (q, p.getD ps.length []) := by
  unfold foldUp; rw [take_zip _ _ _ h, List.foldl_append]; rfl
theorem foldUp_last (i : Nat) (d : List Int) (ps : List (Nat × Nat)) (p : List (List Int)) (q : Nat × Nat) (h : p.length = ps.length + 1) : foldUp i d (ps ++ [q]) p = stepUp i (foldUp i d ps p.dropLast) (q, p.getD (p.length - 1) []) := by
  unfold foldUp; rw [zip_last h, List.foldl_append]; rfl
theorem up_all (d : List Int) (z : Nat) : ∀ (f e i : Nat) (p : List (List Int)), e - f = z → f ≤ i → i < e →
    (upL d (i - f) (e - f) p).2 = decide (p.length = (pathP f e i).length) ∧ (p.length = (pathP f e i).length → (upL d (i - f) (e - f) p).1 = foldUp i d (pathP f e i) p) := by
  induction z using Nat.strongRecOn with
  | ind z ih =>
    intro f e i p hz hfi hie
    by_cases h2 : e < f + 2
    · rw [pathP_one h2, upL_one (by omega)]
      exact ⟨rfl, fun _ => rfl⟩
    · have hs := splitN_spec (n := e - f) (by omega)
      by_cases hp : p.length = 0
      · rw [upL_none (by omega) hp]
        have hc : ¬ p.length = (pathP f e i).length := by
          by_cases hi : i < f + splitN (e - f)
          · rw [pathP_left (by omega) hi]; simp; omega
          · rw [pathP_right (by omega) hi]; simp; omega
        exact ⟨by rw [decide_eq_false hc], fun h => absurd h hc⟩
      · by_cases hi : i < f + splitN (e - f)
        · obtain ⟨h3, h4⟩ := ih (splitN (e - f)) (by omega) f (f + splitN (e - f)) i p.dropLast (by omega) hfi hi
          rw [show f + splitN (e - f) - f = splitN (e - f) by omega] at h3 h4
          rw [upL_left (by omega) hp (by omega), pathP_left (by omega) hi, h3]
          refine ⟨?_, fun h => ?_⟩
          · simp only [List.length_dropLast, List.length_append, List.length_singleton]
            exact decide_eq_decide.2 (by omega)
          · rw [List.length_append, List.length_singleton] at h
            rw [foldUp_last _ _ _ _ _ h, h4 (by rw [List.length_dropLast]; omega)]
            unfold stepUp
            rw [if_neg (by simp only; omega)]
        · obtain ⟨h3, h4⟩ := ih (e - (f + splitN (e - f))) (by omega) (f + splitN (e - f)) e i p.dropLast rfl (by omega) hie
          rw [show i - (f + splitN (e - f)) = i - f - splitN (e - f) by omega, show e - (f + splitN (e - f)) = e - f - splitN (e - f) by omega] at h3 h4
          rw [upL_right (by omega) hp (by omega), pathP_right (by omega) hi, h3]
          refine ⟨?_, fun h => ?_⟩
          · simp only [List.length_dropLast, List.length_append, List.length_singleton]
            exact decide_eq_decide.2 (by omega)
          · rw [List.length_append, List.length_singleton] at h
            rw [foldUp_last _ _ _ _ _ h, h4 (by rw [List.length_dropLast]; omega)]
            unfold stepUp
            rw [if_pos (by simp only; omega)]
/-- A part more: ahead of the first ones' end, there, or behind it. -/
def stepTwo (m : Nat) (d : List Int × List Int) (x : (Nat × Nat) × List Int) : List Int × List Int :=
  if x.1.2 = m then (x.2, x.2) else if x.1.2 < m then (nodeL x.2 d.1, nodeL x.2 d.2) else (d.1, nodeL d.2 x.2)
def foldTwo (m : Nat) (d : List Int × List Int) (ps : List (Nat × Nat)) (p : List (List Int)) : List Int × List Int := (ps.zip p).foldl (stepTwo m) d
theorem foldTwo_snoc (m : Nat) (d : List Int × List Int) (ps : List (Nat × Nat)) (p : List (List Int)) (q : Nat × Nat) (h : ps.length < p.length) : foldTwo m d (ps ++ [q]) p = stepTwo m (foldTwo m d ps p) (q, p.getD ps.length []) := by
  unfold foldTwo; rw [take_zip _ _ _ h, List.foldl_append]; rfl
theorem foldTwo_last (m : Nat) (d : List Int × List Int) (ps : List (Nat × Nat)) (p : List (List Int)) (q : Nat × Nat) (h : p.length = ps.length + 1) : foldTwo m d (ps ++ [q]) p = stepTwo m (foldTwo m d ps p.dropLast) (q, p.getD (p.length - 1) []) := by
  unfold foldTwo; rw [zip_last h, List.foldl_append]; rfl
theorem two_all (old : List Int) (z : Nat) : ∀ (f e m : Nat) (whole : Bool) (p : List (List Int)), e - f = z → f < m → m ≤ e →
    (twoL (m - f) (e - f) whole old p).2.2 = decide (p.length = (proofP f e m whole).length) ∧ (p.length = (proofP f e m whole).length → (twoL (m - f) (e - f) whole old p).1 = (foldTwo m (old, old) (proofP f e m whole) p).1 ∧ (twoL (m - f) (e - f) whole old p).2.1 = (foldTwo m (old, old) (proofP f e m whole) p).2) := by
  induction z using Nat.strongRecOn with
  | ind z ih =>
    intro f e m whole p hz hfm hme
    by_cases hm : m = e
    · subst hm
      cases whole with
      | true => rw [proofP_whole, twoL_whole]; exact ⟨rfl, fun _ => ⟨rfl, rfl⟩⟩
      | false =>
        rw [proofP_part]
        by_cases h1 : p.length = 1
        · rw [twoL_part h1]
          refine ⟨by rw [List.length_singleton, decide_eq_true h1], fun _ => ?_⟩
          have e := foldTwo_last m (old, old) [] p (f, m) h1
          rw [List.nil_append] at e
          rw [e, h1]
          unfold stepTwo
          rw [if_pos rfl]
          exact ⟨rfl, rfl⟩
        · rw [twoL_other h1]
          exact ⟨by rw [List.length_singleton, decide_eq_false h1], fun h => absurd h h1⟩
    · have hs := splitN_spec (n := e - f) (by omega)
      by_cases hp : p.length = 0
      · rw [twoL_none (by omega) hp]
        have hc : ¬ p.length = (proofP f e m whole).length := by
          by_cases hi : m ≤ f + splitN (e - f)
          · rw [proofP_left hm (by omega) hi]; simp; omega
          · rw [proofP_right hm (by omega) hi]; simp; omega
        exact ⟨by rw [decide_eq_false hc], fun h => absurd h hc⟩
      · by_cases hi : m ≤ f + splitN (e - f)
        · obtain ⟨h3, h4⟩ := ih (splitN (e - f)) (by omega) f (f + splitN (e - f)) m whole p.dropLast (by omega) hfm hi
          rw [show f + splitN (e - f) - f = splitN (e - f) by omega] at h3 h4
          rw [twoL_left (by omega) (by omega) hp (by omega), proofP_left hm (by omega) hi, h3]
          refine ⟨?_, fun h => ?_⟩
          · simp only [List.length_dropLast, List.length_append, List.length_singleton]
            exact decide_eq_decide.2 (by omega)
          · rw [List.length_append, List.length_singleton] at h
            obtain ⟨h5, h6⟩ := h4 (by rw [List.length_dropLast]; omega)
            rw [foldTwo_last _ _ _ _ _ h, h5, h6]
            unfold stepTwo
            rw [if_neg (by simp only; omega), if_neg (by simp only; omega)]
            exact ⟨rfl, rfl⟩
        · obtain ⟨h3, h4⟩ := ih (e - (f + splitN (e - f))) (by omega) (f + splitN (e - f)) e m false p.dropLast rfl (by omega) hme
          rw [show m - (f + splitN (e - f)) = m - f - splitN (e - f) by omega, show e - (f + splitN (e - f)) = e - f - splitN (e - f) by omega] at h3 h4
          rw [twoL_right (by omega) (by omega) hp (by omega), proofP_right hm (by omega) hi, h3]
          refine ⟨?_, fun h => ?_⟩
          · simp only [List.length_dropLast, List.length_append, List.length_singleton]
            exact decide_eq_decide.2 (by omega)
          · rw [List.length_append, List.length_singleton] at h
            obtain ⟨h5, h6⟩ := h4 (by rw [List.length_dropLast]; omega)
            rw [foldTwo_last _ _ _ _ _ h, h5, h6]
            unfold stepTwo
            rw [if_neg (by simp only; omega), if_pos (by simp only; omega)]
            exact ⟨rfl, rfl⟩

end Go.Proofs.YtkjlchfmplcobabDoor
