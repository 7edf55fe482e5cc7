/- Maps of the law FleetOnce: keys of two numbers, and what the two maps hold. -/
import Derived.Test.YtkjlchfmplcobafGreatDoorProg
import Derived.Test.YtkjlchfmplcobafGreatDoorRunAD
import Derived.Test.YtkjlchfmplcobafGreatDoorByteConv
import Derived.Maps.OwnSet
import Derived.Maps.RangeWalk
import Derived.Maps.StringElems
import Derived.DeepKeys4
import Derived.Laws.BytesArg
import Derived.OpenShut
namespace Go.Proofs.YtkjlchfmplcobafGreatDoor
open Go.RowKit Go.Maps

theorem Tryz.laid7 : laidOutB Tryz.prog = true := by kernel_rfl
theorem Tryz.keyIntO : Keyed Tryz.prog 3 := int_keyed Tryz.underlying3
theorem Tryz.key2 : Keyed Tryz.prog 64 := Keyed.of_law (deep_law_laid Tryz.laid7 (m := 3) (by omega) (of_decide_eq_true (by kernel_rfl)) (by kernel_rfl) (by kernel_rfl))
theorem key2_type : Tryz.prog.keyType 64 = true := by kernel_rfl
theorem key2_cells : Tryz.prog.cellsOf 64 = 2 := by kernel_rfl
theorem key1_cells : Tryz.prog.cellsOf 3 = 1 := by kernel_rfl
theorem key2_size : ∃ m, Tryz.prog.types.size + 1 = m + 2 := ⟨Tryz.prog.types.size - 1, by have : 1 ≤ Tryz.prog.types.size := of_decide_eq_true (by kernel_rfl); omega⟩
def K2 (a b : Int) : Lit := .string (keyBytes [.int .i64 a, .int .i64 b])
abbrev In7 (a : Int) : Prop := -9223372036854775808 ≤ a ∧ a ≤ 9223372036854775807
set_option maxRecDepth 100000 in
theorem lits2 (m : Nat) (cs : List Value) : Tryz.prog.keyLits (m + 2) 64 cs = if cs.length = 2 then ((List.range 2).mapM fun i => Tryz.prog.keyLits (m + 1) 3 ((cs.drop (i * 1)).take 1)).map List.flatten else none := by
  conv => lhs; unfold Program.keyLits
  rw [Tryz.underlying64]
  simp only [key2_cells, key1_cells]
set_option maxRecDepth 100000 in
theorem lit1 (m : Nat) (a : Int) (ha : In7 a) : Tryz.prog.keyLits (m + 1) 3 [.int .i64 a] = some [.int .i64 a] := by
  unfold Program.keyLits
  rw [Tryz.underlying3]
  simp [WalkArith.wf_i64 ha]
set_option maxRecDepth 100000 in
theorem key2_mk {a b : Int} (ha : In7 a) (hb : In7 b) : keyOf Tryz.prog 64 (.agg #[.int .i64 a, .int .i64 b]) = some (K2 a b) := by
  obtain ⟨m, hm⟩ := key2_size
  have hf : (Value.agg #[.int .i64 a, .int .i64 b]).formed Tryz.prog 64 = true := by simp [Value.formed, Tryz.underlying64, key2_cells]
  unfold keyOf
  rw [Tryz.underlying64]
  simp only [key2_type, hf, Bool.and_self, if_true]
  rw [hm, lits2]
  have e1 : (Value.agg #[.int .i64 a, .int .i64 b]).cells.toList = [.int .i64 a, .int .i64 b] := rfl
  rw [e1]
  have hr : List.range 2 = [0, 1] := rfl
  rw [hr]
  simp [lit1 m a ha, lit1 m b hb, K2]
set_option maxRecDepth 100000 in
theorem key2_inv {v : Value} {kl : Lit} (h : keyOf Tryz.prog 64 v = some kl) : ∃ x : Int × Int, v = .agg #[.int .i64 x.1, .int .i64 x.2] ∧ In7 x.1 ∧ In7 x.2 ∧ kl = K2 x.1 x.2 := by
  obtain ⟨m, hm⟩ := key2_size
  have h' := h
  unfold keyOf at h
  rw [Tryz.underlying64] at h
  simp only [key2_type, Bool.true_and] at h
  split at h
  next hf =>
    cases v <;> simp [Value.formed, Tryz.underlying64, key2_cells] at hf
    rename_i cs
    obtain ⟨l⟩ := cs
    match l, hf with
    | [c0, c1], _ =>
      rw [hm, lits2] at h
      have hr : List.range 2 = [0, 1] := rfl
      rw [hr] at h
      have one : ∀ (c : Value) (r : List Lit), Tryz.prog.keyLits (m + 1) 3 [c] = some r → ∃ a, c = .int .i64 a ∧ In7 a := fun c r g => by
        unfold Program.keyLits at g
        rw [Tryz.underlying3] at g
        cases c <;> simp at g
        rename_i q n
        obtain ⟨⟨rfl, hw⟩, -⟩ := g
        exact ⟨n, rfl, Go.bounds_i64 hw⟩
      have e1 : (Value.agg #[c0, c1]).cells.toList = [c0, c1] := rfl
      rw [e1] at h
      simp only [List.length_cons, List.length_nil, if_true, List.mapM_cons, List.mapM_nil] at h
      cases g0 : Tryz.prog.keyLits (m + 1) 3 [c0] with
      | none => simp [g0] at h
      | some r0 =>
        cases g1 : Tryz.prog.keyLits (m + 1) 3 [c1] with
        | none => simp [g0, g1] at h
        | some r1 =>
          obtain ⟨a, rfl, ha⟩ := one _ _ g0
          obtain ⟨b, rfl, hb⟩ := one _ _ g1
          refine ⟨(a, b), rfl, ha, hb, ?_⟩
          have := key2_mk ha hb
          rw [show (Value.agg #[.int .i64 a, .int .i64 b]) = Value.agg ⟨[.int .i64 a, .int .i64 b]⟩ from rfl] at this
          rw [this] at h'
          exact (Option.some.inj h').symm
  next => cases h
theorem K2_inj {a b c d : Int} (ha : In7 a) (hb : In7 b) (hc : In7 c) (hd : In7 d) (h : K2 a b = K2 c d) : a = c ∧ b = d := by
  have := Tryz.key2.inj (key2_mk ha hb) (by rw [h]; exact key2_mk hc hd)
  simpa using this
/-- How many a shard has taken. -/
def lenAt (Hs : Nat → List (List Int)) (n : Int) : Int := if 0 ≤ n then ((Hs n.toNat).length : Int) else 0
theorem lenAt_nat (Hs : Nat → List (List Int)) (k : Nat) : lenAt Hs (k : Int) = ((Hs k).length : Int) := by unfold lenAt; rw [if_pos (by omega), Int.toNat_natCast]
/-- What the first map holds: how many each shard has taken. -/
structure NextM (Hs : Nat → List (List Int)) (D : DataW Unit) : Prop where
  map : IsMap D
  had : ∀ n : Int, D.atKey (.int .i64 n) (.lit (.int .i64 0)) = .lit (.int .i64 (lenAt Hs n))
/-- What the second holds: each entry, at its place. -/
structure HadM (Hs : Nat → List (List Int)) (D : DataW Unit) : Prop where
  map : IsMap D
  has : ∀ a b : Int, In7 a → In7 b → (Maps.has D (K2 a b) = true ↔ 0 ≤ a ∧ 0 ≤ b ∧ b.toNat < (Hs a.toNat).length)
  val : ∀ k p : Nat, In7 (k : Int) → In7 (p : Int) → p < (Hs k).length → ∀ z, D.atKey (K2 k p) z = .lit (.string (strOfNums ((Hs k).getD p [])).data.toList)
theorem nextM_none : NextM (fun _ => []) (.map []) := ⟨isMap_empty, fun n => by unfold lenAt; split <;> rfl⟩
theorem hadM_none : HadM (fun _ => []) (.map []) := ⟨isMap_empty, fun a b _ _ => ⟨fun h => (by cases h), fun h => absurd h.2.2 (by simp)⟩, fun k p _ _ h => absurd h (by simp)⟩
/-- One more is taken. -/
def more (Hs : Nat → List (List Int)) (k : Nat) (e : List Int) : Nat → List (List Int) := fun s => if s = k then Hs s ++ [e] else Hs s
theorem NextM.more {Hs : Nat → List (List Int)} {D : DataW Unit} (h : NextM Hs D) (k : Nat) (e : List Int) : NextM (more Hs k e) (D.put (.int .i64 (k : Int)) (.lit (.int .i64 (lenAt Hs (k : Int) + 1)))) := by
  refine ⟨h.map.put _ _, fun n => ?_⟩
  by_cases g : n = (k : Int)
  · subst g
    rw [atKey_put_same h.map (by trivial), lenAt_nat, lenAt_nat]
    unfold Go.Proofs.YtkjlchfmplcobafGreatDoor.more
    rw [if_pos rfl, List.length_append]
    simp
  · rw [atKey_put_other (fun q => g (by cases q; rfl)), h.had]
    unfold lenAt
    by_cases h0 : 0 ≤ n
    · rw [if_pos h0, if_pos h0]
      unfold Go.Proofs.YtkjlchfmplcobafGreatDoor.more
      rw [if_neg (by omega)]
    · rw [if_neg h0, if_neg h0]
theorem HadM.more {Hs : Nat → List (List Int)} {D : DataW Unit} (h : HadM Hs D) {k : Nat} {e : List Int} (hk : In7 (k : Int)) (hp : In7 ((Hs k).length : Int)) : HadM (more Hs k e) (D.put (K2 (k : Int) ((Hs k).length : Int)) (.lit (.string (strOfNums e).data.toList))) := by
  refine ⟨h.map.put _ _, fun a b ha hb => ?_, fun s p hs hpp hlt z => ?_⟩
  · by_cases g : K2 a b = K2 (k : Int) ((Hs k).length : Int)
    · obtain ⟨rfl, rfl⟩ := K2_inj ha hb hk hp g
      rw [has_put_same h.map (by trivial)]
      unfold Go.Proofs.YtkjlchfmplcobafGreatDoor.more
      rw [Int.toNat_natCast, Int.toNat_natCast, if_pos rfl, List.length_append]
      exact ⟨fun _ => ⟨by omega, by omega, by simp⟩, fun _ => rfl⟩
    · rw [has_put_other g, h.has a b ha hb]
      unfold Go.Proofs.YtkjlchfmplcobafGreatDoor.more
      by_cases e1 : a.toNat = k
      · rw [if_pos e1, List.length_append]
        constructor
        · rintro ⟨q1, q2, q3⟩; exact ⟨q1, q2, by omega⟩
        · rintro ⟨q1, q2, q3⟩
          refine ⟨q1, q2, ?_⟩
          have : b.toNat ≠ (Hs a.toNat).length := fun q => g (by rw [e1] at q; rw [show a = (k : Int) by omega, show b = ((Hs k).length : Int) by omega])
          simp at q3
          omega
      · rw [if_neg e1]
  · by_cases g : K2 (s : Int) (p : Int) = K2 (k : Int) ((Hs k).length : Int)
    · obtain ⟨g1, g2⟩ := K2_inj hs hpp hk hp g
      have g1' : s = k := by omega
      have g2' : p = (Hs k).length := by omega
      subst g1' g2'
      rw [atKey_put_same h.map (by trivial)]
      unfold Go.Proofs.YtkjlchfmplcobafGreatDoor.more
      rw [if_pos rfl, snoc_get, if_neg (Nat.lt_irrefl _), if_pos rfl]
    · rw [atKey_put_other g]
      revert hlt
      unfold Go.Proofs.YtkjlchfmplcobafGreatDoor.more
      by_cases e1 : s = k
      · subst e1
        rw [if_pos rfl, List.length_append]
        intro hlt
        have : p ≠ (Hs s).length := fun q => g (by rw [q])
        have hlt' : p < (Hs s).length := by simp at hlt; omega
        rw [h.val s p hs hpp hlt', snoc_get, if_pos hlt']
      · rw [if_neg e1]
        intro hlt
        rw [h.val s p hs hpp hlt]
theorem hist_more {l : List Dd} {a : List Ans} {i k p : Nat} (hk : (l.getD i dd0).kind = 1) (he : (a.getD i ans0).err = 0) (hs : (a.getD i ans0).shard = (k : Int)) (hp : (a.getD i ans0).place = (p : Int)) (hn : p = (hist l a i k).length) : hist l a (i + 1) = more (hist l a i) k (l.getD i dd0).entry := by
  funext s
  show cond _ _ _ = _
  unfold more
  by_cases e : s = k
  · subst e
    rw [takes_yes ⟨hk, he, hs, by rw [hp, hn]⟩, cond_true, if_pos rfl]
  · rw [takes_no (fun h => e (by have := h.2.2.1; rw [hs] at this; omega)), cond_false, if_neg e]
theorem hist_same {l : List Dd} {a : List Ans} {i : Nat} (h : ¬ ((l.getD i dd0).kind = 1 ∧ (a.getD i ans0).err = 0)) : hist l a (i + 1) = hist l a i := by
  funext s
  show cond _ _ _ = _
  rw [takes_no (fun g => h ⟨g.1, g.2.1⟩), cond_false]
theorem hist_had {l : List Dd} {a : List Ans} {i k p : Nat} (hs : (a.getD i ans0).shard = (k : Int)) (hp : (a.getD i ans0).place = (p : Int)) (hn : p < (hist l a i k).length) : hist l a (i + 1) = hist l a i := by
  funext s
  show cond _ _ _ = _
  rw [takes_no (fun g => by have g1 := g.2.2.1; have g2 := g.2.2.2; rw [hs] at g1; rw [hp] at g2; have : k = s := by omega
                            subst this; omega), cond_false]

end Go.Proofs.YtkjlchfmplcobafGreatDoor
