/- ShaSame, HeadSame, PackGoAlike, PackGoRead, as one text. -/
import Derived.Test.YtkjlchfmplcobadDoorProg
import Derived.Test.YtkjlchfmplcobadDoorRunAG
import Derived.WalkKit
import Derived.WalkSpells
import Derived.WalkLawsBesides
import Derived.Deep.QuietTactic
import Derived.BigQuiet
import Derived.Test.YtkjlchfmplcobadDoorRunAB
import Derived.Test.YtkjlchfmplcobadDoorRunAI
import Derived.Test.YtkjlchfmplcobadDoorRunAE
import Derived.Lib.EndianBits
/- The walk of yearref1.Same: whether two slices hold the same bytes. -/
namespace Go.Proofs.YtkjlchfmplcobadDoor
open Go.RowKit

theorem drewN_two (w : World) (m n : Nat) : (w.drewN m).drewN n = w.drewN (m + n) := by simp [World.drewN, Nat.add_assoc]

set_option maxRecDepth 100000 in
set_option maxHeartbeats 400000 in
theorem same_len (a1 a2 : Option Addr) (n1 n2 c1 c2 : Nat) (w : World) (h : n1 ≠ n2) :
    Calls Tryd.prog 15 #[.slice a1 n1 c1, .slice a2 n2 c2] w fun e w' => e = .returned (.bool false) ∧ w' = w := by
  have h' : ((n1 : Int) != (n2 : Int)) = true := by rw [bne_iff_ne]; omega
  go_enter Tryd.func15, Tryd.ntmps15
  go_wp2
  go_ret
  exact ⟨rfl, rfl⟩

set_option maxRecDepth 100000 in
set_option maxHeartbeats 400000 in
theorem same_zero (a1 a2 : Option Addr) (c1 c2 : Nat) (w : World) :
    Calls Tryd.prog 15 #[.slice a1 0 c1, .slice a2 0 c2] w fun e w' => e = .returned (.bool true) ∧ w' = w := by
  go_enter Tryd.func15, Tryd.ntmps15
  go_wp2
  go_loop [13] (fun i => i = .int .i64 0) (fun _ => 0)
  case atStart => rfl
  case round =>
    subst hrel
    go_wp2
    go_ret
    exact ⟨rfl, rfl⟩

set_option maxRecDepth 100000 in
set_option maxHeartbeats 400000 in
theorem same_eq (l1 l2 : List Int) (n b1 o1 c1 b2 o2 c2 : Nat) (w : World) (hl1 : Hid (l1.length = n)) (hl2 : Hid (l2.length = n)) (hm : n ≤ maxLen) (h1 : ∀ j, j < n → w.cell? ⟨b1, o1 + j, none⟩ = some (.int .u8 (l1.getD j 0))) (h2 : ∀ j, j < n → w.cell? ⟨b2, o2 + j, none⟩ = some (.int .u8 (l2.getD j 0))) :
    Calls Tryd.prog 15 #[.slice (some ⟨b1, o1, none⟩) n c1, .slice (some ⟨b2, o2, none⟩) n c2] w fun e w' => e = .returned (.bool (decide (l1 = l2))) ∧ ∃ n, w' = w.drewN n := by
  unfold maxLen at hm
  have h' : ((n : Int) != (n : Int)) = false := by simp
  go_enter Tryd.func15, Tryd.ntmps15
  go_wp2
  go_loopw [13] (fun i wr => ∃ k : Nat, k ≤ n ∧ i = .int .i64 k ∧ Hid (∀ j, j < k → l1.getD j 0 = l2.getD j 0) ∧ ∃ n, wr = w.drewN n) (fun i _ => n - (intOf i).toNat)
  case atStart => exact ⟨0, Nat.zero_le _, rfl, fun j hj => absurd hj (by omega), 0, rfl⟩
  case round =>
    obtain ⟨k, hk, rfl, HE, m, rfl⟩ := hrel
    by_cases hlt : k < n
    · have d1 := h1 k hlt
      have d2 := h2 k hlt
      clear h1 h2
      by_cases hx : l1.getD k 0 = l2.getD k 0
      · have HE2 : Hid (∀ j, j < k + 1 → l1.getD j 0 = l2.getD j 0) := fun j hj => by
          by_cases hjk : j = k
          · rw [hjk]; exact hx
          · exact HE.out j (by omega)
        rw [hx] at d1
        clear hx HE
        generalize l2.getD k 0 = x at *
        have hb : (x != x) = false := by simp
        go_wp2
        go_quiet (fail)
        go_wp2
        go_roundw
        case rel => exact ⟨k + 1, by omega, by go_num, HE2, m + nq, rfl⟩
        case measure => simp [intOf]; omega
      · have HN : Hid (decide (l1 = l2) = false) := decide_eq_false (fun e => hx (by rw [e]))
        have hb : (l1.getD k 0 != l2.getD k 0) = true := by rw [bne_iff_ne]; exact hx
        clear hx HE
        generalize l1.getD k 0 = x at *
        generalize l2.getD k 0 = y at *
        go_wp2
        go_quiet (fail)
        go_wp2
        go_ret
        exact ⟨by rw [HN.out]; rfl, m + nq, drewN_two _ _ _⟩
    · have HN : Hid (decide (l1 = l2) = true) := decide_eq_true (by
        have e1 := hl1.out
        have e2 := hl2.out
        apply List.ext_getElem (by omega)
        intro j g1 g2
        have := HE.out j (by omega)
        rw [List.getD_eq_getElem?_getD, List.getElem?_eq_getElem g1, List.getD_eq_getElem?_getD, List.getElem?_eq_getElem g2] at this
        exact this)
      clear h1 h2 HE
      go_wp2
      go_ret
      exact ⟨by rw [HN.out]; rfl, _, rfl⟩

theorem same_any (l1 l2 : List Int) (v1 v2 : Value) (w : World) (h1 : BytesAt w v1 l1) (h2 : BytesAt w v2 l2) (hm : l1.length ≤ maxLen) :
    Calls Tryd.prog 15 #[v1, v2] w fun e w' => e = .returned (.bool (decide (l1 = l2))) ∧ ∃ n, w' = w.drewN n := by
  have form : ∀ v l, BytesAt w v l → ∃ a c, v = .slice a l.length c ∧ (l.length = 0 ∨ ∃ b o, a = some ⟨b, o, none⟩ ∧ ∀ j, j < l.length → w.cell? ⟨b, o + j, none⟩ = some (.int .u8 (l.getD j 0))) := fun v l h => by
    rcases h with ⟨rfl, a, c, rfl, -⟩ | ⟨b, o, c, rfl, -, hc⟩
    · exact ⟨a, c, rfl, .inl rfl⟩
    · exact ⟨_, _, rfl, .inr ⟨b, o, rfl, hc⟩⟩
  obtain ⟨a1, c1, rfl, k1⟩ := form v1 l1 h1
  obtain ⟨a2, c2, rfl, k2⟩ := form v2 l2 h2
  by_cases hl : l1.length = l2.length
  · rcases k1 with k1 | ⟨b1, o1, rfl, k1⟩
    · have e1 : l1 = [] := List.eq_nil_of_length_eq_zero k1
      have e2 : l2 = [] := List.eq_nil_of_length_eq_zero (by omega)
      subst e1 e2
      refine (same_zero a1 a2 c1 c2 w).mono ?_
      rintro e w' ⟨rfl, rfl⟩
      exact ⟨rfl, 0, rfl⟩
    · rcases k2 with k2 | ⟨b2, o2, rfl, k2⟩
      · have e2 : l2 = [] := List.eq_nil_of_length_eq_zero k2
        have e1 : l1 = [] := List.eq_nil_of_length_eq_zero (by omega)
        subst e1 e2
        refine (same_zero _ a2 c1 c2 w).mono ?_
        rintro e w' ⟨rfl, rfl⟩
        exact ⟨rfl, 0, rfl⟩
      · rw [← hl]
        exact same_eq l1 l2 l1.length b1 o1 c1 b2 o2 c2 w rfl hl.symm hm k1 (fun j hj => k2 j (by omega))
  · refine (same_len a1 a2 l1.length l2.length c1 c2 w hl).mono ?_
    rintro e w' ⟨rfl, rfl⟩
    refine ⟨?_, 0, rfl⟩
    rw [decide_eq_false (fun e => hl (by rw [e]))]

end Go.Proofs.YtkjlchfmplcobadDoor

/- The walk of yearref5.SameHead. -/
namespace Go.Proofs.YtkjlchfmplcobadDoor
open Go.RowKit

set_option maxRecDepth 100000 in
theorem sameHead_yes (s : Int) (r : List Int) (v1 v2 : Value) (w : World) (h1 : Some' w v1 r) (h2 : Some' w v2 r) :
    Calls Tryd.prog 29 #[.agg #[.int .i64 s, v1], .agg #[.int .i64 s, v2]] w fun e w' => e = .returned (.bool true) ∧ Below w.heap.size w w' := by
  have b0 : Below w.heap.size w ((w.alloc (.cells #[.int .i64 s, v1] 25)).alloc (.cells #[.int .i64 s, v2] 25)) := ((Below.refl _ _).alloc (Nat.le_refl _) _).alloc (by simp) _
  obtain ⟨x0, x1, -, -⟩ := box_two (box_one w #[.int .i64 s, v1] 25 (.cells #[.int .i64 s, v2] 25))
  obtain ⟨y0, y1, -, -⟩ := box_two (box_last w (.cells #[.int .i64 s, v1] 25) #[.int .i64 s, v2] 25)
  have sE := same_any r r v1 v2 _ (h1.below b0).at' (h2.below b0).at' h1.short
  rw [decide_eq_true rfl] at sE
  have hs : (s == s) = true := by simp
  go_enter Tryd.func29, Tryd.ntmps29
  go_wp2_with fail
  refine sE.mono ?_
  rintro e w3 ⟨rfl, q, rfl⟩
  go_wp2_with fail
  go_ret
  exact ⟨rfl, below_drewN' b0 _⟩

end Go.Proofs.YtkjlchfmplcobadDoor

/- The walks of package pack's small functions: width, alike, longest, tokenAt. -/
namespace Go.Proofs.YtkjlchfmplcobadDoor
open Go.RowKit

@[reducible] def tokV (t : Tok) : Value := .agg #[.int .i64 t.len, .int .i64 t.back, .int .u8 t.byte]
def widI (t : Tok) : Int := if t.len = 0 then 1 else t.len
set_option maxRecDepth 100000 in
set_option maxHeartbeats 1000000 in
theorem width_any (x y z : Int) (w : World) :
    Calls Tryd.prog 83 #[.agg #[.int .i64 x, .int .i64 y, .int .u8 z]] w fun e w' => e = .returned (.int .i64 (widI ⟨x, y, z⟩)) ∧ Below w.heap.size w w' := by
  obtain ⟨x0, x1, x2, -, -, -⟩ := box_three (box_new w #[.int .i64 x, .int .i64 y, .int .u8 z] 117)
  have bW : Below w.heap.size w (w.alloc (.cells #[.int .i64 x, .int .i64 y, .int .u8 z] 117)) := (Below.refl _ _).alloc (Nat.le_refl _) _
  by_cases hx : x = 0
  · subst hx
    go_enter Tryd.func83, Tryd.ntmps83
    go_wp2_with fail
    go_ret
    exact ⟨rfl, bW⟩
  · have hx' : (x == 0) = false := by simpa using hx
    have hw : widI ⟨x, y, z⟩ = x := by unfold widI; rw [if_neg hx]
    rw [hw]
    clear hw
    go_enter Tryd.func83, Tryd.ntmps83
    go_wp2_with fail
    go_ret
    exact ⟨rfl, bW⟩
set_option maxRecDepth 100000 in
set_option maxHeartbeats 4000000 in
theorem alike_any (b : List Int) (g o bc a f : Nat) (w : World) (hg : g < w.heap.size) (hcell : ∀ j, j < b.length → w.cell? ⟨g, o + j, none⟩ = some (.int .u8 (b.getD j 0))) (hbl : b.length ≤ 4000) (ha : a < b.length) (hf1 : 1 ≤ f) (hfa : f ≤ a) :
    Calls Tryd.prog 115 #[.slice (some ⟨g, o, none⟩) b.length bc, .int .i64 a, .int .i64 f] w fun e w' => e = .returned (.int .i64 (matchN b (a - f) a)) ∧ Below w.heap.size w w' := by
  obtain ⟨M, hM⟩ : ∃ M : Nat, M = min (b.length - a) 66 := ⟨_, rfl⟩
  obtain ⟨p, hp⟩ : ∃ p : Nat, p = a - f := ⟨_, rfl⟩
  rw [← hp]
  have hpi : (p : Int) = a - f := by omega
  have hpa : p < a := by omega
  have HP : Hid ((p : Int) = a - f) := hpi
  clear hp hpi
  rcases (show (66 : Int) < (b.length : Int) - a ∨ ¬ (66 : Int) < (b.length : Int) - a by omega) with h66 | h66
  all_goals
    go_enter Tryd.func115, Tryd.ntmps115
    go_wp2_with fail
    go_loopw [8] (fun nv wi => ∃ k : Nat, k ≤ M ∧ nv = .int .i64 k ∧ Hid (∀ j, j < k → b.getD (p + j) 0 = b.getD (a + j) 0) ∧ Below w.heap.size w wi) (fun nv _ => M - (intOf nv).toNat)
    case atStart => exact ⟨0, Nat.zero_le _, rfl, fun j hj => absurd hj (Nat.not_lt_zero _), Below.refl _ _⟩
    case round =>
      obtain ⟨wi, rfl⟩ : ∃ x, x = wr := ⟨wr, rfl⟩
      obtain ⟨k, hkM, rfl, HK, hbi⟩ := hrel
      have w1 : IntKind.i64.wrap ((a : Int) + k) = (a : Int) + k := by rw [IntKind.wrap_i64]; omega
      have w2 : IntKind.i64.wrap ((a : Int) + k - f) = (p : Int) + k := by have := HP.out; rw [IntKind.wrap_i64]; omega
      by_cases c1 : k < M
      · have e1 := (hbi.cell (p := ⟨g, o + (p + k), none⟩) hg).trans (hcell (p + k) (by omega))
        have e2 := (hbi.cell (p := ⟨g, o + (a + k), none⟩) hg).trans (hcell (a + k) (by omega))
        rw [show o + (p + k) = o + ((p : Int) + k).toNat by omega] at e1
        rw [show o + (a + k) = o + ((a : Int) + k).toNat by omega] at e2
        have j0 : (a : Int) + k < b.length := by omega
        have j1 : (p : Int) + k < b.length := by omega
        have j2 : (k : Int) < 66 := by omega
        have j2' : (k : Int) < (b.length : Int) - a := by omega
        have j3 : 0 ≤ (p : Int) + k := by omega
        have j4 : 0 ≤ (a : Int) + k := by omega
        by_cases c3 : b.getD (p + k) 0 = b.getD (a + k) 0
        · have HK2 : Hid (∀ j, j < k + 1 → b.getD (p + j) 0 = b.getD (a + j) 0) := fun j hj => by
            by_cases hjk : j = k
            · rw [hjk]; exact c3
            · exact HK.out j (by omega)
          rw [c3] at e1
          clear c3 HK hcell
          generalize b.getD (a + k) 0 = y at *
          go_wp2
          go_quiet (fail)
          go_wp2
          exact ⟨⟨k + 1, by omega, by go_num, HK2, below_drewN' hbi nq⟩, by simp [intOf]; omega⟩
        · have d3 : (b.getD (p + k) 0 == b.getD (a + k) 0) = false := by simpa using c3
          have HC3 : Hid (matchN b p a = k) := match_end (by omega) HK.out (by omega) (by omega) (.inr (.inr c3))
          clear c3 HK
          obtain ⟨y1, Hy1⟩ : ∃ y, Hid (b.getD (p + k) 0 = y) := ⟨_, rfl⟩
          obtain ⟨y2, Hy2⟩ : ∃ y, Hid (b.getD (a + k) 0 = y) := ⟨_, rfl⟩
          rw [Hy1.out] at d3 e1
          rw [Hy2.out] at d3 e2
          have d4 : decide (y1 = y2) = false := decide_eq_false (by simpa using d3)
          clear hcell
          go_wp2
          go_quiet (fail)
          go_wp2
          go_ret
          exact ⟨by rw [HC3.out]; rfl, below_drewN' hbi nq⟩
      · have HC3 : Hid (matchN b p a = k) := match_end (by omega) HK.out (by omega) (by omega) (by omega)
        have hd : ((66 : Int) < (b.length : Int) - a → decide ((k : Int) < 66) = false) ∧ (¬ (66 : Int) < (b.length : Int) - a → decide ((k : Int) < (b.length : Int) - a) = false) := ⟨fun _ => decide_eq_false (by omega), fun _ => decide_eq_false (by omega)⟩
        clear HK hcell
        have d2 := hd
        first
          | replace d2 := hd.1 h66
          | replace d2 := hd.2 (by omega)
        clear hd
        go_wp2
        go_quiet (fail)
        go_wp2
        go_ret
        exact ⟨by rw [HC3.out]; rfl, below_drewN' hbi nq⟩

end Go.Proofs.YtkjlchfmplcobadDoor

/- The walks of readPair and readToken: package pack as it landed. -/
namespace Go.Proofs.YtkjlchfmplcobadDoor
open Go.RowKit

theorem pair_or {x y : Int} (hx0 : 0 ≤ x) (hx : x < 256) (hy0 : 0 ≤ y) (hy : y < 256) : bits .or .i64 (x * 256) y = 256 * x + y := by
  have h := bits_join .i64 16 (by decide) (fun n h0 h1 => by rw [IntKind.wrap_i64]; omega) 8 (x * 256) y (by omega) (by omega) (by omega) hy0 (by omega) (by omega)
  rw [h]; omega
set_option maxRecDepth 100000 in
set_option maxHeartbeats 2000000 in
theorem readPair_any (b : List Int) (hby : Bytes b) (g o a n c : Nat) (w : World) (hcell : ∀ j, j < b.length → w.cell? ⟨g, o + j, none⟩ = some (.int .u8 (b.getD j 0))) (hn : n = b.length - a) (h2 : a + 1 < b.length) :
    Calls Tryd.prog 56 #[.slice (some ⟨g, o + a, none⟩) n c] w fun e w' => e = .returned (.int .i64 (256 * b.getD a 0 + b.getD (a + 1) 0)) ∧ Below w.heap.size w w' := by
  have e1 := hcell a (by omega)
  have e2 := hcell (a + 1) h2
  rw [← Nat.add_assoc] at e2
  have hx := hby a
  have hy := hby (a + 1)
  have j1 : (0 : Int) < n := by omega
  have j2 : (1 : Int) < n := by omega
  have j1' : 0 < n := by omega
  have j2' : 1 < n := by omega
  generalize b.getD a 0 = x at *
  generalize b.getD (a + 1) 0 = y at *
  have HO : Hid (bits .or .i64 (x * 256) y = 256 * x + y) := pair_or hx.1 hx.2 hy.1 hy.2
  obtain ⟨hx0, hx1⟩ := hx
  obtain ⟨hy0, hy1⟩ := hy
  clear hcell hby hn
  go_enter Tryd.func56, Tryd.ntmps56
  go_wp2
  go_quiet (fail)
  go_wp2
  go_ret
  exact ⟨by rw [← HO.out]; rfl, below_drewN' (Below.refl _ _) nq⟩
theorem and_one : ∀ f : Fin 256, bits BinOp.and IntKind.u8 (f.val : Int) 1 = ((f.val % 2 : Nat) : Int) := by decide +kernel
/-- What is left of b, from a on. -/
def RestAt (v : Value) (b : List Int) (g o a : Nat) : Prop := ∃ A c, v = .slice A (b.length - a) c ∧ b.length - a ≤ c ∧ (A = some ⟨g, o + a, none⟩ ∨ b.length - a = 0)
def tokRes (b : List Int) (g o : Nat) (r : Option (Tok × Nat)) (v : Value) : Prop :=
  match r with
  | none => v = .tuple #[.agg #[.int .i64 0, .int .i64 0, .int .u8 0], .slice none 0 0, .bool false]
  | some (t, a2) => ∃ rv, v = .tuple #[tokV t, rv, .bool true] ∧ RestAt rv b g o a2
set_option maxRecDepth 100000 in
set_option maxHeartbeats 4000000 in
theorem readToken_any (b : List Int) (hby : Bytes b) (g o a f : Nat) (rv : Value) (w : World) (hg : b.length - a = 0 ∨ g < w.heap.size) (hcell : ∀ j, j < b.length → w.cell? ⟨g, o + j, none⟩ = some (.int .u8 (b.getD j 0))) (hr : RestAt rv b g o a) :
    Calls Tryd.prog 82 #[rv, .bool (decide (f % 2 ≠ 0))] w fun e w' => ∃ v, e = .returned v ∧ tokRes b g o (unTok b a f) v ∧ Below w.heap.size w w' := by
  obtain ⟨A, c, rfl, hrc, hA⟩ := hr
  have b0 : Below w.heap.size w (w.alloc (.cells #[.int .i64 0, .int .i64 0, .int .u8 0] 117)) := (Below.refl _ _).alloc (Nat.le_refl _) _
  have hx := box_new w #[.int .i64 0, .int .i64 0, .int .u8 0] 117
  obtain ⟨x0, x1, x2, fz0, fz1, fz2⟩ := box_three hx
  by_cases hf : f % 2 = 0
  · rw [show decide (f % 2 ≠ 0) = false from decide_eq_false (fun h => h hf)]
    by_cases ha : a < b.length
    · have hu : unTok b a f = some (⟨0, 0, b.getD a 0⟩, a + 1) := by rw [unTok, if_pos hf, if_pos ha]
      rw [hu]
      obtain rfl : A = some ⟨g, o + a, none⟩ := hA.resolve_right (by omega)
      have hg' := hg.resolve_left (by omega)
      have e1 := (b0.cell (p := ⟨g, o + a, none⟩) hg').trans (hcell a ha)
      generalize b.getD a 0 = y at *
      obtain ⟨n, hn⟩ : ∃ n, n = b.length - a := ⟨_, rfl⟩
      have HN : Hid (n = b.length - a) := hn
      have hnc : n ≤ c := by omega
      have j1 : (0 : Int) < n := by omega
      have j1' : 0 < n := by omega
      have j2 : (1 : Int) ≤ n := by omega
      have j3 : (1 : Int) ≤ c := by omega
      have hne : ¬ (n : Int) = 0 := by omega
      rw [← hn]
      clear hcell hby hg hu hrc hn hx b0 hA
      have bY : Below w.heap.size w (w.alloc (.cells #[.int .i64 0, .int .i64 0, .int .u8 y] 117)).drew := ((Below.refl _ _).alloc (Nat.le_refl _) _).drew
      by_cases hc : c = 1
      · subst hc
        obtain rfl : n = 1 := by omega
        have HR : Hid (RestAt (.slice (some ⟨g, o + a, none⟩) 0 0) b g o (a + 1)) := by
          have := HN.out
          exact ⟨_, 0, by rw [show b.length - (a + 1) = 0 by omega], by omega, .inr (by omega)⟩
        go_enter Tryd.func82, Tryd.ntmps82
        go_wp2
        go_region
        all_goals
          go_wp2
          exact bodyPost_ret (v := .tuple #[.agg #[.int .i64 0, .int .i64 0, .int .u8 y], .slice (some ⟨g, o + a, none⟩) 0 0, .bool true]) (by simp [results, Tryd.results82, go_sem]) rfl ⟨_, rfl, ⟨_, rfl, HR.out⟩, bY⟩
      · have HR : Hid (RestAt (.slice (some ⟨g, o + a + 1, none⟩) (n - 1) (c - 1)) b g o (a + 1)) := by
          have := HN.out
          exact ⟨some ⟨g, o + (a + 1), none⟩, c - 1, by rw [show b.length - (a + 1) = n - 1 by omega]; rfl, by omega, .inl rfl⟩
        go_enter Tryd.func82, Tryd.ntmps82
        go_wp2
        go_region
        all_goals
          go_wp2
          exact bodyPost_ret (v := .tuple #[.agg #[.int .i64 0, .int .i64 0, .int .u8 y], .slice (some ⟨g, o + a + 1, none⟩) (n - 1) (c - 1), .bool true]) (by simp [results, Tryd.results82, go_sem]) rfl ⟨_, rfl, ⟨_, rfl, HR.out⟩, bY⟩
    · have hu : unTok b a f = none := by rw [unTok, if_pos hf, if_neg ha]
      rw [hu]
      obtain ⟨n, hn⟩ : ∃ n, n = b.length - a := ⟨_, rfl⟩
      rw [← hn]
      obtain rfl : n = 0 := by omega
      clear hcell hby hg hu hrc hn hA
      go_enter Tryd.func82, Tryd.ntmps82
      go_wp2
      exact bodyPost_ret (v := .tuple #[.agg #[.int .i64 0, .int .i64 0, .int .u8 0], .slice none 0 0, .bool false]) (by simp [results, Tryd.results82, go_sem]) rfl ⟨_, rfl, rfl, b0⟩
  · rw [show decide (f % 2 ≠ 0) = true from decide_eq_true hf]
    by_cases ha : a + 1 < b.length
    · obtain ⟨X, hX⟩ : ∃ X : Nat, (X : Int) = 256 * b.getD a 0 + b.getD (a + 1) 0 := ⟨(256 * b.getD a 0 + b.getD (a + 1) 0).toNat, by have := hby a; have := hby (a + 1); omega⟩
      have hu : unTok b a f = some (⟨(X : Int) / 1024 + 3, (X : Int) % 1024 + 1, 0⟩, a + 2) := by rw [unTok, if_neg hf, if_pos ha, ← hX, Int.toNat_natCast, show ((X / 1024 + 3 : Nat) : Int) = (X : Int) / 1024 + 3 by omega, show ((X % 1024 + 1 : Nat) : Int) = (X : Int) % 1024 + 1 by omega]
      rw [hu]
      have hX6 : X < 65536 := by have := hby a; have := hby (a + 1); omega
      obtain rfl : A = some ⟨g, o + a, none⟩ := hA.resolve_right (by omega)
      have hg' := hg.resolve_left (by omega)
      have hP := readPair_any b hby g o a (b.length - a) c (w.alloc (.cells #[.int .i64 0, .int .i64 0, .int .u8 0] 117)) (fun j hj => (b0.cell (p := ⟨g, o + j, none⟩) hg').trans (hcell j hj)) rfl ha
      rw [← hX] at hP
      obtain ⟨n, hn⟩ : ∃ n, n = b.length - a := ⟨_, rfl⟩
      have HN : Hid (n = b.length - a) := hn
      have hnc : n ≤ c := by omega
      have j1 : ¬ (n : Int) < 2 := by omega
      have j2 : (2 : Int) ≤ n := by omega
      have j3 : (2 : Int) ≤ c := by omega
      rw [← hn]
      rw [← hn] at hP
      clear hcell hby hg hu hrc hn hX
      rcases (show (c = 2 ∧ n = 2) ∨ ¬ c = 2 by omega) with ⟨rfl, rfl⟩ | hc
      · have HR : Hid (RestAt (.slice (some ⟨g, o + a, none⟩) 0 0) b g o (a + 2)) := by
          have := HN.out
          exact ⟨_, 0, by rw [show b.length - (a + 2) = 0 by omega], by omega, .inr (by omega)⟩
        go_enter Tryd.func82, Tryd.ntmps82
        go_wp2_with fail
        refine hP.mono ?_
        rintro r w1 ⟨rfl, hb1⟩
        have hx1 := box_kept hx hb1
        have b1 := b0.trans (hb1.mono b0.size)
        obtain ⟨y0, y1, y2, gz0, gz1, gz2⟩ := box_three hx1
        obtain ⟨q0, q1, q2, -, -, -⟩ := box_three (box3_set (u' := .int .i64 ((X : Int) / 1024 + 3)) (v' := .int .i64 ((X : Int) % 1024 + 1)) (x' := .int .u8 0) hx1)
        have bY := (((b1.setCell (p := ⟨w.heap.size, 0, none⟩) (Nat.le_refl _) (.int .i64 ((X : Int) / 1024 + 3))).setCell (p := ⟨w.heap.size, 1, none⟩) (Nat.le_refl _) (.int .i64 ((X : Int) % 1024 + 1))).setCell (p := ⟨w.heap.size, 2, none⟩) (Nat.le_refl _) (.int .u8 0)).drew
        have z0 := World.cell?_setCell_same' w1 ⟨w.heap.size, 0, none⟩ (.int .i64 ((X : Int) / 1024 + 3)) (by rw [y0]; rfl)
        clear hP hb1 hx x0 x1 x2 fz0 fz1 fz2 hx1
        go_wp2_with fail
        go_region
        all_goals
          go_wp2_with fail
          exact bodyPost_ret (v := .tuple #[.agg #[.int .i64 ((X : Int) / 1024 + 3), .int .i64 ((X : Int) % 1024 + 1), .int .u8 0], .slice (some ⟨g, o + a, none⟩) 0 0, .bool true]) (by simp [results, Tryd.results82, go_sem, q0, q1, q2]) rfl ⟨_, rfl, ⟨_, rfl, HR.out⟩, bY⟩
      · have HR : Hid (RestAt (.slice (some ⟨g, o + a + 2, none⟩) (n - 2) (c - 2)) b g o (a + 2)) := by
          have := HN.out
          exact ⟨some ⟨g, o + (a + 2), none⟩, c - 2, by rw [show b.length - (a + 2) = n - 2 by omega]; rfl, by omega, .inl rfl⟩
        go_enter Tryd.func82, Tryd.ntmps82
        go_wp2_with fail
        refine hP.mono ?_
        rintro r w1 ⟨rfl, hb1⟩
        have hx1 := box_kept hx hb1
        have b1 := b0.trans (hb1.mono b0.size)
        obtain ⟨y0, y1, y2, gz0, gz1, gz2⟩ := box_three hx1
        obtain ⟨q0, q1, q2, -, -, -⟩ := box_three (box3_set (u' := .int .i64 ((X : Int) / 1024 + 3)) (v' := .int .i64 ((X : Int) % 1024 + 1)) (x' := .int .u8 0) hx1)
        have bY := (((b1.setCell (p := ⟨w.heap.size, 0, none⟩) (Nat.le_refl _) (.int .i64 ((X : Int) / 1024 + 3))).setCell (p := ⟨w.heap.size, 1, none⟩) (Nat.le_refl _) (.int .i64 ((X : Int) % 1024 + 1))).setCell (p := ⟨w.heap.size, 2, none⟩) (Nat.le_refl _) (.int .u8 0)).drew
        have z0 := World.cell?_setCell_same' w1 ⟨w.heap.size, 0, none⟩ (.int .i64 ((X : Int) / 1024 + 3)) (by rw [y0]; rfl)
        clear hP hb1 hx x0 x1 x2 fz0 fz1 fz2 hx1
        go_wp2_with fail
        go_region
        all_goals
          go_wp2_with fail
          exact bodyPost_ret (v := .tuple #[.agg #[.int .i64 ((X : Int) / 1024 + 3), .int .i64 ((X : Int) % 1024 + 1), .int .u8 0], .slice (some ⟨g, o + a + 2, none⟩) (n - 2) (c - 2), .bool true]) (by simp [results, Tryd.results82, go_sem, q0, q1, q2]) rfl ⟨_, rfl, ⟨_, rfl, HR.out⟩, bY⟩
    · have hu : unTok b a f = none := by rw [unTok, if_neg hf, if_neg ha]
      rw [hu]
      obtain ⟨n, hn⟩ : ∃ n, n = b.length - a := ⟨_, rfl⟩
      rw [← hn]
      have hn2 : (n : Int) < 2 := by omega
      clear hcell hby hg hu hrc hn hA
      go_enter Tryd.func82, Tryd.ntmps82
      go_wp2
      exact bodyPost_ret (v := .tuple #[.agg #[.int .i64 0, .int .i64 0, .int .u8 0], .slice none 0 0, .bool false]) (by simp [results, Tryd.results82, go_sem]) rfl ⟨_, rfl, rfl, b0⟩

end Go.Proofs.YtkjlchfmplcobadDoor
