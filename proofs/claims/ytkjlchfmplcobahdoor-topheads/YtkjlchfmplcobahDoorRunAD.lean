/- ClashFace, FleetKeepM, FleetTakenM, FleetFalseM, BookFace, as one text. -/
import Derived.Test.YtkjlchfmplcobahDoorProg
import Derived.Test.YtkjlchfmplcobahDoorShaSame
import Derived.Test.YtkjlchfmplcobahDoorShaSum
import Derived.Test.YtkjlchfmplcobahDoorRunAB
import Derived.WalkKit
import Derived.WalkSpells
import Derived.WalkLawsBesides
import Derived.Test.YtkjlchfmplcobahDoorRunAC
import Derived.Test.YtkjlchfmplcobahDoorRunAA
/- What the laws of chapter 3 ask of package clash's faces, as propositions: each is shown of the landed code elsewhere; and the walk of yearlaw3.two. -/
namespace Go.Proofs.YtkjlchfmplcobahDoor
open Go.RowKit

/-- Another leaf than that which is there is shown. -/
def clashS (L : List (List Int)) (b : List Int) (i : Int) (p : List (List Int)) : Bool := decide ((wrongL L).1 = 0) && standsL L.length (mth L) b i p && decide (L.getD i.toNat [] ≠ b)
end Go.Proofs.YtkjlchfmplcobahDoor

/- Chapter 7's mathematics: nothing is lost by retiring; the book only grows; entries stay. -/
namespace Go.Proofs.YtkjlchfmplcobahDoor

/-- What a step that retires a shard came upon, and what it left. -/
theorem retire_step {f : Flt} {d : Dd} (hk : d.kind = 4) (he : (stepL f d).2.err = 0) : 0 ≤ d.n ∧ d.n < f.shards.length ∧ (f.shards.getD d.n.toNat shd0).state = 3 ∧ (verifyL (f.shards.getD d.n.toNat shd0).man).2.1 = 0 ∧
    (stepL f d).1.shards.getD d.n.toNat shd0 = { (f.shards.getD d.n.toNat shd0) with state := 4, entries := [] } := by
  revert he
  unfold stepL
  rw [if_neg (by omega), if_neg (by omega)]
  by_cases h3 : d.n < 0 ∨ (f.shards.length : Int) ≤ d.n
  · rw [if_pos h3]; exact fun h => absurd (show (6 : Int) = 0 from h) (by decide)
  rw [if_neg h3]
  by_cases h4 : (f.shards.getD d.n.toNat shd0).state ≠ wantL d.kind
  · rw [if_pos h4]; exact fun h => absurd (show (7 : Int) = 0 from h) (by decide)
  rw [if_neg h4]
  have hst : (f.shards.getD d.n.toNat shd0).state = 3 := by
    have : (f.shards.getD d.n.toNat shd0).state = wantL d.kind := by simpa using h4
    rw [this, hk]; rfl
  unfold stepAt
  dsimp only
  rw [if_neg (by omega), if_neg (by omega), if_pos hk]
  by_cases hv : (verifyL (f.shards.getD d.n.toNat shd0).man).2.1 ≠ 0
  · rw [if_pos hv]; exact fun h => absurd h hv
  · rw [if_neg hv]
    refine fun _ => ⟨by omega, by omega, hst, by simpa using hv, ?_⟩
    exact getD_set_same (by omega)
theorem spoilt_clash7 {L X : List (List Int)} {i : Nat} (hw : (wrongL L).1 = 0) (h100 : L.length ≤ 100) (hl : X.length = L.length) (h200 : ∀ j, (X.getD j []).length ≤ 200) (hm : mth X = mth L) (hi : i < L.length) (hne : X.getD i [] ≠ L.getD i []) : clashS L (X.getD i []) i (pathL X i) = true := by
  have h1 := stands_path (L := X) (i := i) (by omega) (by omega) (h200 i)
  rw [hl, hm] at h1
  unfold clashS
  rw [decide_eq_true hw, h1, Int.toNat_natCast, decide_eq_true (show L.getD i [] ≠ X.getD i [] from fun e => hne e.symm)]
  rfl
/-- Nothing is lost by retiring. -/
theorem keeps {ws : List Win} (hw : (wrongWins ws).1 = 0) (l : List Dd) {i : Nat} (hi : i < l.length) (hk : (l.getD i dd0).kind = 4) (he : ((runL (startL ws) l).2.getD i ans0).err = 0) :
    ∃ n : Nat, (l.getD i dd0).n = (n : Int) ∧ n < ws.length ∧ ((runL (startL ws) l).1.shards.getD n shd0).entries = [] ∧
    ∀ j, j < ((runL (startL ws) (l.take i)).1.shards.getD n shd0).entries.length → (showL (runL (startL ws) l).1 n j).2 = 0 ∧
      ((showL (runL (startL ws) l).1 n j).1.entry ≠ ((runL (startL ws) (l.take i)).1.shards.getD n shd0).entries.getD j [] → clashS ((runL (startL ws) (l.take i)).1.shards.getD n shd0).entries (showL (runL (startL ws) l).1 n j).1.entry j (showL (runL (startL ws) l).1 n j).1.path = true) := by
  rw [run_ans _ _ hi] at he
  have hok := run_ok (start_ok ws) (l.take i)
  obtain ⟨h0, h1, h3, hv, hnew⟩ := retire_step hk he
  obtain ⟨n, hn⟩ := Int.eq_ofNat_of_zero_le h0
  rw [hn, Int.toNat_natCast] at h3 hv hnew
  have hn' : n < ws.length := by rw [← hok.len]; omega
  have hs := hok.each n hn'
  -- the run goes on from behind the step
  have hl : l = l.take (i + 1) ++ l.drop (i + 1) := (List.take_append_drop (i + 1) l).symm
  have hfin : (runL (startL ws) l).1 = (runL (stepL (runL (startL ws) (l.take i)).1 (l.getD i dd0)).1 (l.drop (i + 1))).1 := by
    have := runL_append (startL ws) (l.take (i + 1)) (l.drop (i + 1))
    rw [List.take_append_drop] at this
    rw [this, take_snoc_dd hi, runL_snoc]
  have hshard : (runL (startL ws) l).1.shards.getD n shd0 = { ((runL (startL ws) (l.take i)).1.shards.getD n shd0) with state := 4, entries := [] } := by
    rw [hfin, retired_run _ (by rw [hnew]), hnew]
  have hokF := run_ok (start_ok ws) l
  refine ⟨n, hn, hn', by rw [hshard], fun j hj => ?_⟩
  have hst : ((runL (startL ws) l).1.shards.getD n shd0).state = 4 := by rw [hshard]
  obtain ⟨e1, e2⟩ := hs.head3 h3
  have hhead : headOf ((runL (startL ws) l).1.shards.getD n shd0) = ((((runL (startL ws) (l.take i)).1.shards.getD n shd0).entries.length : Int), mth ((runL (startL ws) (l.take i)).1.shards.getD n shd0).entries) := by
    unfold headOf; rw [if_pos hst, hshard]; dsimp only; rw [e1, e2]
  obtain ⟨row, -, -, e, -⟩ := show_right hw hokF hn' (i := j) (by rw [hst]; decide) (by rw [hhead]; show (j : Int) < (_ : Int); omega)
  rw [e]
  refine ⟨rfl, fun hne => ?_⟩
  dsimp only at hne ⊢
  obtain ⟨-, -, c3, c4, -, c6⟩ := content_ok (hokF.each n hn')
  rw [hhead] at c3 c4
  dsimp only at c3 c4
  exact spoilt_clash7 (by rw [wrong_entries hs]) hs.few (by omega) c6 c4 hj hne
end Go.Proofs.YtkjlchfmplcobahDoor

/- Chapter 7's mathematics: what was taken stays, where nothing was spoilt. -/
namespace Go.Proofs.YtkjlchfmplcobahDoor

/-- Nothing of a shard was spoilt. -/
structure CleanS (s : Shd) : Prop where
  c3 : s.state = 3 → s.man = exportL s.entries
  c4 : s.state = 4 → ∃ L : List (List Int), L.length ≤ 100 ∧ (∀ e ∈ L, e.length ≤ 200) ∧ s.man = ⟨L.length, mth L, segsL L⟩
def CleanF (f : Flt) : Prop := ∀ k, k < f.shards.length → CleanS (f.shards.getD k shd0)
theorem start_clean (ws : List Win) : CleanF (startL ws) := fun k hk => by
  have hk' : k < ws.length := by simpa [startL] using hk
  rw [wins_get ws hk']
  exact ⟨fun h => absurd (show (1 : Int) = 3 from h) (by decide), fun h => absurd (show (1 : Int) = 4 from h) (by decide)⟩
theorem export_form {w : Win} {s : Shd} (h : ShdOk w s) : exportL s.entries = ⟨s.entries.length, mth s.entries, segsL s.entries⟩ := by
  unfold exportL; rw [wrong_entries h, if_neg (fun g => g rfl)]
theorem content_open {s : Shd} (h : s.state ≠ 4) : (contentL s).1 = s.entries := by unfold contentL; rw [if_neg h]
theorem content_laid {s : Shd} {L : List (List Int)} (h : s.state = 4) (h1 : L.length ≤ 100) (h2 : ∀ e ∈ L, e.length ≤ 200) (hm : s.man = ⟨L.length, mth L, segsL L⟩) : (contentL s).1 = L := by
  unfold contentL; rw [if_pos h, hm, verify_export h1 h2]
/-- A shard in another's place. -/
theorem clean_put {f : Flt} (hc : CleanF f) {k : Nat} (hk : k < f.shards.length) {s : Shd} (hs : CleanS s) (hp : (contentL (f.shards.getD k shd0)).1 <+: (contentL s).1) (b : List Rec) :
    CleanF ⟨f.shards.set k s, b⟩ ∧ ∀ j, (contentL (f.shards.getD j shd0)).1 <+: (contentL ((f.shards.set k s).getD j shd0)).1 := by
  refine ⟨fun j hj => ?_, fun j => ?_⟩
  · have hj' : j < f.shards.length := by simpa using hj
    dsimp only
    by_cases e : k = j
    · subst e; rw [getD_set_same hk]; exact hs
    · rw [getD_set_other e]; exact hc j hj'
  · by_cases e : k = j
    · subst e; rw [getD_set_same hk]; exact hp
    · rw [getD_set_other e]; exact List.prefix_refl _
theorem step_clean {ws : List Win} {f : Flt} (h : FltOk ws f) (hc : CleanF f) {d : Dd} (h5 : d.kind ≠ 5) : CleanF (stepL f d).1 ∧ ∀ j, (contentL (f.shards.getD j shd0)).1 <+: (contentL ((stepL f d).1.shards.getD j shd0)).1 := by
  have same : CleanF f ∧ ∀ j, (contentL (f.shards.getD j shd0)).1 <+: (contentL (f.shards.getD j shd0)).1 := ⟨hc, fun _ => List.prefix_refl _⟩
  unfold stepL
  by_cases h1 : d.kind = 1
  · rw [if_pos h1]
    unfold submitL
    by_cases h200 : 200 < d.entry.length
    · rw [if_pos h200]; exact same
    rw [if_neg h200]
    cases hh : homeOf f.shards d.time with
    | none => exact same
    | some k =>
      obtain ⟨hk, -, -⟩ := home_some hh
      dsimp only
      by_cases h1 : (f.shards.getD k shd0).state ≠ 1
      · rw [if_pos h1]; exact same
      rw [if_neg h1]
      have h1' : (f.shards.getD k shd0).state = 1 := by omega
      cases hp : placeOf (f.shards.getD k shd0).entries d.entry with
      | some i => exact same
      | none =>
        dsimp only
        by_cases h100 : 100 ≤ (f.shards.getD k shd0).entries.length
        · rw [if_pos h100]; exact same
        rw [if_neg h100]
        refine clean_put hc hk (s := { (f.shards.getD k shd0) with entries := (f.shards.getD k shd0).entries ++ [d.entry] }) ⟨fun g => absurd (h1'.symm.trans g) (by decide), fun g => absurd (h1'.symm.trans g) (by decide)⟩ ?_ _
        rw [content_open (by rw [h1']; decide), content_open (by show (f.shards.getD k shd0).state ≠ 4; rw [h1']; decide)]
        exact List.prefix_append _ _
  rw [if_neg h1]
  by_cases h2 : d.kind < 2 ∨ 5 < d.kind
  · rw [if_pos h2]; exact same
  rw [if_neg h2]
  by_cases h3 : d.n < 0 ∨ (f.shards.length : Int) ≤ d.n
  · rw [if_pos h3]; exact same
  rw [if_neg h3]
  by_cases h4 : (f.shards.getD d.n.toNat shd0).state ≠ wantL d.kind
  · rw [if_pos h4]; exact same
  rw [if_neg h4]
  have hkl : d.n.toNat < f.shards.length := by omega
  have hkw : d.n.toNat < ws.length := by rw [← h.len]; exact hkl
  generalize d.n.toNat = k at *
  have hst : (f.shards.getD k shd0).state = wantL d.kind := by simpa using h4
  have hs := h.each k hkw
  unfold stepAt
  dsimp only
  by_cases k2 : d.kind = 2
  · rw [if_pos k2]
    have hst1 : (f.shards.getD k shd0).state = 1 := by rw [hst, k2]; rfl
    refine clean_put hc hkl ⟨fun g => absurd (show (2 : Int) = 3 from g) (by decide), fun g => absurd (show (2 : Int) = 4 from g) (by decide)⟩ ?_ _
    rw [content_open (by rw [hst1]; decide), content_open (by show (2 : Int) ≠ 4; decide)]
    exact List.prefix_refl _
  rw [if_neg k2]
  by_cases k3 : d.kind = 3
  · rw [if_pos k3]
    have hst2 : (f.shards.getD k shd0).state = 2 := by rw [hst, k3]; rfl
    rw [if_neg (by rw [wrong_entries hs]; exact fun g => g rfl)]
    refine clean_put hc hkl ⟨fun _ => rfl, fun g => absurd (show (3 : Int) = 4 from g) (by decide)⟩ ?_ _
    rw [content_open (by rw [hst2]; decide), content_open (by show (3 : Int) ≠ 4; decide)]
    exact List.prefix_refl _
  rw [if_neg k3]
  have k4 : d.kind = 4 := by omega
  have hst3 : (f.shards.getD k shd0).state = 3 := by rw [hst, k4]; rfl
  rw [if_pos k4]
  by_cases hv : (verifyL (f.shards.getD k shd0).man).2.1 ≠ 0
  · rw [if_pos hv]; exact same
  rw [if_neg hv]
  have hm := ((hc k hkl).c3 hst3).trans (export_form hs)
  refine clean_put hc hkl (s := { (f.shards.getD k shd0) with state := 4, entries := [] }) ⟨fun g => absurd (show (4 : Int) = 3 from g) (by decide), fun _ => ⟨_, hs.few, hs.short, hm⟩⟩ ?_ _
  rw [content_open (by rw [hst3]; decide), content_laid (s := { (f.shards.getD k shd0) with state := 4, entries := [] }) rfl hs.few hs.short hm]
  exact List.prefix_refl _
theorem run_clean {ws : List Win} {f : Flt} (h : FltOk ws f) (hc : CleanF f) (l : List Dd) (h5 : ∀ d ∈ l, d.kind ≠ 5) : CleanF (runL f l).1 ∧ ∀ j, (contentL (f.shards.getD j shd0)).1 <+: (contentL ((runL f l).1.shards.getD j shd0)).1 := by
  induction l generalizing f with
  | nil => exact ⟨hc, fun _ => List.prefix_refl _⟩
  | cons d ds ih =>
    obtain ⟨h1, h2⟩ := step_clean h hc (h5 d (by simp))
    obtain ⟨h3, h4⟩ := ih (step_ok h d) h1 (fun x hx => h5 x (by simp [hx]))
    exact ⟨h3, fun j => (h2 j).trans (h4 j)⟩
/-- What a step that took an entry tells. -/
theorem taken_step {f : Flt} {d : Dd} (hk : d.kind = 1) (he : (stepL f d).2.err = 0) : ∃ k p : Nat, (stepL f d).2 = ⟨0, (k : Int), (p : Int), 0, []⟩ ∧ homeOf f.shards d.time = some k ∧ k < f.shards.length ∧ (f.shards.getD k shd0).state = 1 ∧ ((stepL f d).1.shards.getD k shd0).state = 1 ∧
    p < ((stepL f d).1.shards.getD k shd0).entries.length ∧ ((stepL f d).1.shards.getD k shd0).entries.getD p [] = d.entry := by
  revert he
  unfold stepL
  rw [if_pos hk]
  unfold submitL
  by_cases h200 : 200 < d.entry.length
  · rw [if_pos h200]; exact fun h => absurd (show (4 : Int) = 0 from h) (by decide)
  rw [if_neg h200]
  cases hh : homeOf f.shards d.time with
  | none => exact fun h => absurd (show (6 : Int) = 0 from h) (by decide)
  | some k =>
    obtain ⟨hkl, -, -⟩ := home_some hh
    dsimp only
    by_cases h1 : (f.shards.getD k shd0).state ≠ 1
    · rw [if_pos h1]; exact fun h => absurd (show (8 : Int) = 0 from h) (by decide)
    rw [if_neg h1]
    have h1' : (f.shards.getD k shd0).state = 1 := by omega
    cases hp : placeOf (f.shards.getD k shd0).entries d.entry with
    | some i =>
      obtain ⟨g1, g2⟩ := place_some hp
      exact fun _ => ⟨k, i, rfl, rfl, hkl, h1', h1', g1, g2⟩
    | none =>
      dsimp only
      by_cases h100 : 100 ≤ (f.shards.getD k shd0).entries.length
      · rw [if_pos h100]; exact fun h => absurd (show (5 : Int) = 0 from h) (by decide)
      rw [if_neg h100]
      refine fun _ => ⟨k, (f.shards.getD k shd0).entries.length, rfl, rfl, hkl, h1', ?_, ?_, ?_⟩
      · show ((f.shards.set k _).getD k shd0).state = 1
        rw [getD_set_same hkl]; exact h1'
      · show _ < ((f.shards.set k _).getD k shd0).entries.length
        rw [getD_set_same hkl]
        simp
      · show ((f.shards.set k _).getD k shd0).entries.getD _ [] = _
        rw [getD_set_same hkl]
        dsimp only
        rw [snoc_get, if_neg (Nat.lt_irrefl _), if_pos rfl]
theorem prefix_get {A B : List (List Int)} (h : A <+: B) {i : Nat} (hi : i < A.length) : B.getD i [] = A.getD i [] ∧ i < B.length := by
  obtain ⟨t, rfl⟩ := h
  refine ⟨?_, by simp; omega⟩
  rw [List.getD_eq_getElem?_getD, List.getElem?_append_left hi, ← List.getD_eq_getElem?_getD]
/-- Whatever became of its shard, an entry is shown. -/
theorem shown {ws : List Win} (hw : (wrongWins ws).1 = 0) (l : List Dd) (h5 : ∀ d ∈ l, d.kind ≠ 5) {i : Nat} (hi : i < l.length) (hk : (l.getD i dd0).kind = 1) (he : ((runL (startL ws) l).2.getD i ans0).err = 0) :
    ∃ k p : Nat, (runL (startL ws) l).2.getD i ans0 = ⟨0, (k : Int), (p : Int), 0, []⟩ ∧ k < ws.length ∧ (((runL (startL ws) l).1.shards.getD k shd0).state ≠ 1 →
      (showL (runL (startL ws) l).1 k p).2 = 0 ∧ (showL (runL (startL ws) l).1 k p).1.entry = (l.getD i dd0).entry ∧ checkL (showL (runL (startL ws) l).1 k p).1 ((runL (startL ws) l).1.book.length : Int) (mth (rowsOf (runL (startL ws) l).1.book)) = true) := by
  have ha := run_ans (startL ws) l hi
  rw [ha] at he ⊢
  have hok := run_ok (start_ok ws) (l.take i)
  obtain ⟨k, p, e1, e2, e3, e4, e5, e6, e7⟩ := taken_step hk he
  have hkw : k < ws.length := by rw [← hok.len]; exact e3
  refine ⟨k, p, e1, hkw, fun hst => ?_⟩
  have hokF := run_ok (start_ok ws) l
  have hfin : (runL (startL ws) l).1 = (runL (stepL (runL (startL ws) (l.take i)).1 (l.getD i dd0)).1 (l.drop (i + 1))).1 := by
    have := runL_append (startL ws) (l.take (i + 1)) (l.drop (i + 1))
    rw [List.take_append_drop] at this
    rw [this, take_snoc_dd hi, runL_snoc]
  have hc := (run_clean (start_ok ws) (start_clean ws) (l.take i) (fun d hd => h5 d (List.mem_of_mem_take hd))).1
  have hmem : l.getD i dd0 ∈ l := by rw [List.getD_eq_getElem?_getD, List.getElem?_eq_getElem hi]; exact List.getElem_mem hi
  have hc1 := (step_clean hok hc (h5 _ hmem)).1
  have hpre := (run_clean (step_ok hok _) hc1 (l.drop (i + 1)) (fun d hd => h5 d (List.mem_of_mem_drop hd))).2 k
  rw [← hfin, content_open (by rw [e5]; decide)] at hpre
  obtain ⟨g1, g2⟩ := prefix_get hpre e6
  obtain ⟨-, -, c3, -, -, -⟩ := content_ok (hokF.each k hkw)
  obtain ⟨row, -, -, es, ec⟩ := show_right hw hokF hkw hst (i := p) (by rw [← c3]; omega)
  rw [es]
  exact ⟨rfl, by dsimp only; rw [g1, e7], ec⟩

end Go.Proofs.YtkjlchfmplcobahDoor

/- Chapter 7's mathematics: who shows what was not taken; entries of two shards; a shard's size in the book; the book grew. -/
namespace Go.Proofs.YtkjlchfmplcobahDoor

theorem set_same {l : List Shd} {k : Nat} (hk : k < l.length) : l.set k (l.getD k shd0) = l := by
  rw [List.getD_eq_getElem?_getD, List.getElem?_eq_getElem hk]
  exact List.set_getElem_self hk
theorem home_put {l : List Shd} {k : Nat} {s : Shd} (h : s.from' = (l.getD k shd0).from' ∧ s.to' = (l.getD k shd0).to') (t : Int) : homeOf (l.set k s) t = homeOf l t := by
  unfold homeOf
  rw [List.length_set]
  congr 1
  funext j
  by_cases hk : k < l.length
  · by_cases e : k = j
    · subst e; rw [getD_set_same hk, h.1, h.2]
    · rw [getD_set_other e]
  · rw [List.set_eq_of_length_le (by omega)]
end Go.Proofs.YtkjlchfmplcobahDoor

/- What the laws of chapter 6 ask of package book's faces, as propositions: each is shown of the landed code elsewhere. Records in memory. -/
namespace Go.Proofs.YtkjlchfmplcobahDoor
open Go.RowKit

/-- A record as the walks meet it. -/
def RecV (w : World) (v : Value) (r : Rec) : Prop := ∃ ra rc, v = .agg #[.int .i64 r.shard, .int .i64 r.from', .int .i64 r.to', .int .i64 r.size, .slice ra r.root.length rc] ∧ Some' w (.slice ra r.root.length rc) r.root
theorem RecV.below {w w' : World} {v : Value} {r : Rec} (h : RecV w v r) (hb : Below w.heap.size w w') : RecV w' v r := by
  obtain ⟨ra, rc, h1, h2⟩ := h
  exact ⟨ra, rc, h1, h2.below hb⟩
/-- A record's cells. -/
def RecCells (w : World) (b o : Nat) (r : Rec) : Prop := w.cell? ⟨b, o, none⟩ = some (.int .i64 r.shard) ∧ w.cell? ⟨b, o + 1, none⟩ = some (.int .i64 r.from') ∧ w.cell? ⟨b, o + 2, none⟩ = some (.int .i64 r.to') ∧ w.cell? ⟨b, o + 3, none⟩ = some (.int .i64 r.size) ∧
  ∃ ra rc, w.cell? ⟨b, o + 4, none⟩ = some (.slice ra r.root.length rc) ∧ Some' w (.slice ra r.root.length rc) r.root
theorem RecCells.below {w w' : World} {b o : Nat} {r : Rec} (h : RecCells w b o r) (hb : b < w.heap.size) (hw : Below w.heap.size w w') : RecCells w' b o r := by
  obtain ⟨h0, h1, h2, h3, ra, rc, h4, h5⟩ := h
  exact ⟨by rw [hw.cell (p := ⟨b, o, none⟩) hb]; exact h0, by rw [hw.cell (p := ⟨b, o + 1, none⟩) hb]; exact h1, by rw [hw.cell (p := ⟨b, o + 2, none⟩) hb]; exact h2, by rw [hw.cell (p := ⟨b, o + 3, none⟩) hb]; exact h3, ra, rc, by rw [hw.cell (p := ⟨b, o + 4, none⟩) hb]; exact h4, h5.below hw⟩
/-- Records as the walks meet them. -/
def RecsAt (w : World) (v : Value) (l : List Rec) : Prop :=
  ∃ a c, v = .slice a l.length c ∧ l.length ≤ c ∧ c ≤ maxLen ∧ (a = none → c = 0) ∧ (l.length = 0 ∨ ∃ b off, a = some ⟨b, off, none⟩ ∧ b < w.heap.size ∧ ∀ j, j < l.length → RecCells w b (off + j * 5) (l.getD j rec0))
theorem RecsAt.below {w w' : World} {v : Value} {l : List Rec} (h : RecsAt w v l) (hw : Below w.heap.size w w') : RecsAt w' v l := by
  obtain ⟨a, c, h1, h2, h3, h4, h5⟩ := h
  refine ⟨a, c, h1, h2, h3, h4, ?_⟩
  rcases h5 with h5 | ⟨b, off, h6, h7, h8⟩
  · exact .inl h5
  · exact .inr ⟨b, off, h6, Nat.lt_of_lt_of_le h7 hw.size, fun j hj => (h8 j hj).below h7 hw⟩
theorem RecsAt.bytes {w : World} {v : Value} {l : List Rec} (h : RecsAt w v l) (j : Nat) : Bytes (l.getD j rec0).root := by
  obtain ⟨a, c, -, -, -, -, h5⟩ := h
  by_cases hj : j < l.length
  · rcases h5 with h5 | ⟨b, off, -, -, h8⟩
    · omega
    · obtain ⟨-, -, -, -, ra, rc, -, h2⟩ := h8 j hj
      exact h2.bytes
  · rw [List.getD_eq_getElem?_getD, List.getElem?_eq_none (by omega)]; exact nil_bytes
end Go.Proofs.YtkjlchfmplcobahDoor
