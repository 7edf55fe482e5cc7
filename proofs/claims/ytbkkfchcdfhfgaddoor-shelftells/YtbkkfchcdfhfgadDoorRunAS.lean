/- TreeGoUp, ByteConv, TreeGoOf, as one text. -/
import Derived.Test.YtbkkfchcdfhfgadDoorRunAR
import Derived.Test.YtbkkfchcdfhfgadDoorProg
import Derived.Test.YtbkkfchcdfhfgadDoorRunAB
import Derived.WalkKit
import Derived.WalkSpells
import Derived.WalkLawsBesides
import Derived.Laws.BytesArg
import Derived.Shelf.Bytes.SlSmallAll
/- What Stands and Grew reckon, part by part: plain mathematics. -/
namespace Go.Proofs.YtbkkfchcdfhfgadDoor

theorem take_zip (ps : List (Nat × Nat)) (p : List (List Int)) (q : Nat × Nat) (h : ps.length < p.length) : (ps ++ [q]).zip p = ps.zip p ++ [(q, p.getD ps.length [])] := by
  induction ps generalizing p with
  | nil =>
    cases p with
    | nil => simp at h
    | cons x l => simp
  | cons a l ih =>
    cases p with
    | nil => simp at h
    | cons x r => simp [ih r (by simpa using h)]
theorem drop_last {p : List (List Int)} (h : p.length ≠ 0) : p = p.dropLast ++ [p.getD (p.length - 1) []] := by
  have hne : p ≠ [] := fun e => by rw [e] at h; exact h rfl
  conv => lhs; rw [← List.dropLast_concat_getLast hne]
  congr 2
  rw [List.getLast_eq_getElem, List.getD_eq_getElem?_getD, List.getElem?_eq_getElem (by omega)]
  rfl
theorem zip_last {ps : List (Nat × Nat)} {q : Nat × Nat} {p : List (List Int)} (h : p.length = ps.length + 1) : (ps ++ [q]).zip p = ps.zip p.dropLast ++ [(q, p.getD (p.length - 1) [])] := by
  conv => lhs; rw [drop_last (p := p) (by omega)]
  rw [List.zip_append (by rw [List.length_dropLast]; omega)]
  rfl
/-- A part more: on which side of the leaf it is. -/
def stepUp (i : Nat) (d : List Int) (x : (Nat × Nat) × List Int) : List Int := if x.1.1 < i then nodeL x.2 d else nodeL d x.2
def foldUp (i : Nat) (d : List Int) (ps : List (Nat × Nat)) (p : List (List Int)) : List Int := (ps.zip p).foldl (stepUp i) d
theorem foldUp_nil (i : Nat) (d : List Int) (p : List (List Int)) : foldUp i d [] p = d := rfl
theorem foldUp_snoc (i : Nat) (d : List Int) (ps : List (Nat × Nat)) (p : List (List Int)) (q : Nat × Nat) (h : ps.length < p.length) : foldUp i d (ps ++ [q]) p = stepUp i (foldUp i d ps p) (q, p.getD ps.length []) := by
  unfold foldUp; rw [take_zip _ _ _ h, List.foldl_append]; rfl
theorem foldUp_last (i : Nat) (d : List Int) (ps : List (Nat × Nat)) (p : List (List Int)) (q : Nat × Nat) (h : p.length = ps.length + 1) : foldUp i d (ps ++ [q]) p = stepUp i (foldUp i d ps p.dropLast) (q, p.getD (p.length - 1) []) := by
  unfold foldUp; rw [zip_last h, List.foldl_append]; rfl
theorem up_all (d : List Int) (z : Nat) : ∀ (f e i : Nat) (p : List (List Int)), e - f = z → f ≤ i → i < e →
    (upL d (i - f) (e - f) p).2 = decide (p.length = (pathP f e i).length) ∧ (p.length = (pathP f e i).length → (upL d (i - f) (e - f) p).1 = foldUp i d (pathP f e i) p) := by
  induction z using Nat.strongRecOn with
  | ind z ih =>
    intro f e i p hz hfi hie
    by_cases h2 : e < f + 2
    · rw [pathP_one h2, upL_one (by omega)]
      exact ⟨rfl, fun _ => rfl⟩
    · have hs := splitN_spec (n := e - f) (by omega)
      by_cases hp : p.length = 0
      · rw [upL_none (by omega) hp]
        have hc : ¬ p.length = (pathP f e i).length := by
          by_cases hi : i < f + splitN (e - f)
          · rw [pathP_left (by omega) hi]; simp; omega
          · rw [pathP_right (by omega) hi]; simp; omega
        exact ⟨by rw [decide_eq_false hc], fun h => absurd h hc⟩
      · by_cases hi : i < f + splitN (e - f)
        · obtain ⟨h3, h4⟩ := ih (splitN (e - f)) (by omega) f (f + splitN (e - f)) i p.dropLast (by omega) hfi hi
          rw [show f + splitN (e - f) - f = splitN (e - f) by omega] at h3 h4
          rw [upL_left (by omega) hp (by omega), pathP_left (by omega) hi, h3]
          refine ⟨?_, fun h => ?_⟩
          · simp only [List.length_dropLast, List.length_append, List.length_singleton]
            exact decide_eq_decide.2 (by omega)
          · rw [List.length_append, List.length_singleton] at h
            rw [foldUp_last _ _ _ _ _ h, h4 (by rw [List.length_dropLast]; omega)]
            unfold stepUp
            rw [if_neg (by simp only; omega)]
        · obtain ⟨h3, h4⟩ := ih (e - (f + splitN (e - f))) (by omega) (f + splitN (e - f)) e i p.dropLast rfl (by omega) hie
          rw [show i - (f + splitN (e - f)) = i - f - splitN (e - f) by omega, show e - (f + splitN (e - f)) = e - f - splitN (e - f) by omega] at h3 h4
          rw [upL_right (by omega) hp (by omega), pathP_right (by omega) hi, h3]
          refine ⟨?_, fun h => ?_⟩
          · simp only [List.length_dropLast, List.length_append, List.length_singleton]
            exact decide_eq_decide.2 (by omega)
          · rw [List.length_append, List.length_singleton] at h
            rw [foldUp_last _ _ _ _ _ h, h4 (by rw [List.length_dropLast]; omega)]
            unfold stepUp
            rw [if_pos (by simp only; omega)]
/-- A part more: ahead of the first ones' end, there, or behind it. -/
def stepTwo (m : Nat) (d : List Int × List Int) (x : (Nat × Nat) × List Int) : List Int × List Int :=
  if x.1.2 = m then (x.2, x.2) else if x.1.2 < m then (nodeL x.2 d.1, nodeL x.2 d.2) else (d.1, nodeL d.2 x.2)
def foldTwo (m : Nat) (d : List Int × List Int) (ps : List (Nat × Nat)) (p : List (List Int)) : List Int × List Int := (ps.zip p).foldl (stepTwo m) d
theorem foldTwo_snoc (m : Nat) (d : List Int × List Int) (ps : List (Nat × Nat)) (p : List (List Int)) (q : Nat × Nat) (h : ps.length < p.length) : foldTwo m d (ps ++ [q]) p = stepTwo m (foldTwo m d ps p) (q, p.getD ps.length []) := by
  unfold foldTwo; rw [take_zip _ _ _ h, List.foldl_append]; rfl
theorem foldTwo_last (m : Nat) (d : List Int × List Int) (ps : List (Nat × Nat)) (p : List (List Int)) (q : Nat × Nat) (h : p.length = ps.length + 1) : foldTwo m d (ps ++ [q]) p = stepTwo m (foldTwo m d ps p.dropLast) (q, p.getD (p.length - 1) []) := by
  unfold foldTwo; rw [zip_last h, List.foldl_append]; rfl
theorem two_all (old : List Int) (z : Nat) : ∀ (f e m : Nat) (whole : Bool) (p : List (List Int)), e - f = z → f < m → m ≤ e →
    (twoL (m - f) (e - f) whole old p).2.2 = decide (p.length = (proofP f e m whole).length) ∧ (p.length = (proofP f e m whole).length → (twoL (m - f) (e - f) whole old p).1 = (foldTwo m (old, old) (proofP f e m whole) p).1 ∧ (twoL (m - f) (e - f) whole old p).2.1 = (foldTwo m (old, old) (proofP f e m whole) p).2) := by
  induction z using Nat.strongRecOn with
  | ind z ih =>
    intro f e m whole p hz hfm hme
    by_cases hm : m = e
    · subst hm
      cases whole with
      | true => rw [proofP_whole, twoL_whole]; exact ⟨rfl, fun _ => ⟨rfl, rfl⟩⟩
      | false =>
        rw [proofP_part]
        by_cases h1 : p.length = 1
        · rw [twoL_part h1]
          refine ⟨by rw [List.length_singleton, decide_eq_true h1], fun _ => ?_⟩
          have e := foldTwo_last m (old, old) [] p (f, m) h1
          rw [List.nil_append] at e
          rw [e, h1]
          unfold stepTwo
          rw [if_pos rfl]
          exact ⟨rfl, rfl⟩
        · rw [twoL_other h1]
          exact ⟨by rw [List.length_singleton, decide_eq_false h1], fun h => absurd h h1⟩
    · have hs := splitN_spec (n := e - f) (by omega)
      by_cases hp : p.length = 0
      · rw [twoL_none (by omega) hp]
        have hc : ¬ p.length = (proofP f e m whole).length := by
          by_cases hi : m ≤ f + splitN (e - f)
          · rw [proofP_left hm (by omega) hi]; simp; omega
          · rw [proofP_right hm (by omega) hi]; simp; omega
        exact ⟨by rw [decide_eq_false hc], fun h => absurd h hc⟩
      · by_cases hi : m ≤ f + splitN (e - f)
        · obtain ⟨h3, h4⟩ := ih (splitN (e - f)) (by omega) f (f + splitN (e - f)) m whole p.dropLast (by omega) hfm hi
          rw [show f + splitN (e - f) - f = splitN (e - f) by omega] at h3 h4
          rw [twoL_left (by omega) (by omega) hp (by omega), proofP_left hm (by omega) hi, h3]
          refine ⟨?_, fun h => ?_⟩
          · simp only [List.length_dropLast, List.length_append, List.length_singleton]
            exact decide_eq_decide.2 (by omega)
          · rw [List.length_append, List.length_singleton] at h
            obtain ⟨h5, h6⟩ := h4 (by rw [List.length_dropLast]; omega)
            rw [foldTwo_last _ _ _ _ _ h, h5, h6]
            unfold stepTwo
            rw [if_neg (by simp only; omega), if_neg (by simp only; omega)]
            exact ⟨rfl, rfl⟩
        · obtain ⟨h3, h4⟩ := ih (e - (f + splitN (e - f))) (by omega) (f + splitN (e - f)) e m false p.dropLast rfl (by omega) hme
          rw [show m - (f + splitN (e - f)) = m - f - splitN (e - f) by omega, show e - (f + splitN (e - f)) = e - f - splitN (e - f) by omega] at h3 h4
          rw [twoL_right (by omega) (by omega) hp (by omega), proofP_right hm (by omega) hi, h3]
          refine ⟨?_, fun h => ?_⟩
          · simp only [List.length_dropLast, List.length_append, List.length_singleton]
            exact decide_eq_decide.2 (by omega)
          · rw [List.length_append, List.length_singleton] at h
            obtain ⟨h5, h6⟩ := h4 (by rw [List.length_dropLast]; omega)
            rw [foldTwo_last _ _ _ _ _ h, h5, h6]
            unfold stepTwo
            rw [if_neg (by simp only; omega), if_pos (by simp only; omega)]
            exact ⟨rfl, rfl⟩

end Go.Proofs.YtbkkfchcdfhfgadDoor

/- Bytes turned into a string: what it is, and that no other bytes give it. Nothing of the program's functions is in it. -/
namespace Go.Proofs.YtbkkfchcdfhfgadDoor
open Go.RowKit

theorem nums_inj {xs ys : List Int} (h1 : Bytes xs) (h2 : Bytes ys) (h : (strOfNums xs).toList = (strOfNums ys).toList) : xs = ys := by
  rw [Lib.strOfNums_toList, Lib.strOfNums_toList] at h
  have e : xs.map (fun n => UInt8.ofNat n.toNat) = ys.map (fun n => UInt8.ofNat n.toNat) := h
  have hl : xs.length = ys.length := by have := congrArg List.length e; simpa using this
  refine List.ext_getElem hl (fun j hj hj2 => ?_)
  have e2 := congrArg (fun l => l[j]?) e
  simp only [List.getElem?_map, List.getElem?_eq_getElem hj, List.getElem?_eq_getElem hj2, Option.map_some, Option.some.injEq] at e2
  have b1 := h1 j
  have b2 := h2 j
  rw [List.getD_eq_getElem?_getD, List.getElem?_eq_getElem hj] at b1
  rw [List.getD_eq_getElem?_getD, List.getElem?_eq_getElem hj2] at b2
  simp only [Option.getD_some] at b1 b2
  have e3 := congrArg UInt8.toNat e2
  simp only [UInt8.toNat_ofNat'] at e3
  omega
theorem BytesAt.conv {w : World} {v : Value} {zs : List Int} (h : BytesAt w v zs) : (convert 23 9 v).run Tryd.prog w = .ok (.string (strOfNums zs)) w := by
  rcases h with ⟨rfl, a, c, rfl, -⟩ | ⟨b, off, cp, rfl, -, hc⟩
  · exact run_convert_bytes_zero w 23 5 Tryd.underlying23 Tryd.underlying5 a c 9 Tryd.underlying9
  · exact run_convert_bytes_arg (P := Tryd.prog) w 23 5 Tryd.underlying23 Tryd.underlying5 b off _ cp zs rfl hc 9 Tryd.underlying9

end Go.Proofs.YtbkkfchcdfhfgadDoor

/- The walks of pathOf and proofOf: function values that go to the parts of a path, or of a proof. -/
namespace Go.Proofs.YtbkkfchcdfhfgadDoor
open Go.RowKit

/-- The function value kw with what it captured goes to the parts of ps, whatever it is handed to visit them. -/
structure Walker (w0 : World) (kw : Nat) (cw : Array Value) (ps : List (Nat × Nat)) : Prop where
  enters : ∀ args w, (callFunc kw args).run Tryd.prog w = .ok (.enter kw args) w
  call : ∀ (B k : Nat) (cap : Array Value) (I : List (Nat × Nat) → World → Prop) (w : World), Visits B k cap ps I → Below w0.heap.size w0 w → B ≤ w.heap.size → I [] w →
    Calls Tryd.prog kw (#[.func (.func k) #[] cap] ++ cw) w fun r w' => r = .returned (.tuple #[]) ∧ I ps w' ∧ Mid B w w'
theorem Walker.below {w0 w1 : World} {kw : Nat} {cw : Array Value} {ps : List (Nat × Nat)} (h : Walker w0 kw cw ps) (hb : Below w0.heap.size w0 w1) : Walker w1 kw cw ps :=
  ⟨h.enters, fun B k cap I w V hb2 => h.call B k cap I w V (hb.trans (hb2.mono hb.size))⟩

set_option maxRecDepth 100000 in
set_option maxHeartbeats 1000000 in
theorem pathOf1_any (size i b1 b2 : Nat) (w0 : World) (h1 : b1 < w0.heap.size) (h2 : b2 < w0.heap.size) (c1 : w0.cell? ⟨b1, 0, none⟩ = some (.int .i64 size)) (c2 : w0.cell? ⟨b2, 0, none⟩ = some (.int .i64 i)) (hs : size ≤ 100) (hi : i ≤ 100) :
    Walker w0 65 #[.pointer (some ⟨b1, 0, none⟩), .pointer (some ⟨b2, 0, none⟩)] (pathP 0 size i) := by
  refine ⟨fun _ _ => by simp [go_sem], fun B k cap I w V hb hB hI => ?_⟩
  have d1 := (hb.cell (p := ⟨b1, 0, none⟩) h1).trans c1
  have d2 := (hb.cell (p := ⟨b2, 0, none⟩) h2).trans c2
  have hW := walkPath_any V (size - 0) 0 size i [] w rfl (by omega) hs hi (by simp) hI hB
  rw [List.nil_append] at hW
  clear c1 c2
  go_enter Tryd.func65, Tryd.ntmps65
  go_wp2_with fail
  refine hW.mono ?_
  rintro r w1 ⟨rfl, hI1, hM⟩
  go_wp2_with fail
  go_end0
  exact ⟨rfl, hI1, hM⟩
set_option maxRecDepth 100000 in
theorem pathOf_any (size i : Nat) (w : World) (hs : size ≤ 100) (hi : i ≤ 100) :
    Calls Tryd.prog 40 #[.int .i64 size, .int .i64 i] w fun r w' => ∃ kw cw, r = .returned (.func (.func kw) #[] cw) ∧ Walker w' kw cw (pathP 0 size i) ∧ Below w.heap.size w w' := by
  have hW := pathOf1_any size i w.heap.size (w.heap.size + 1) ((w.alloc (.cells #[.int .i64 size] 3)).alloc (.cells #[.int .i64 i] 3)) (by simp; omega) (by simp) (by simp) (by simp) hs hi
  go_enter Tryd.func40, Tryd.ntmps40
  go_wp2_with fail
  go_ret
  exact ⟨_, _, rfl, hW, ((Below.refl _ _).alloc (Nat.le_refl _) _).alloc (by simp) _⟩
end Go.Proofs.YtbkkfchcdfhfgadDoor
