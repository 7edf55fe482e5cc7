/- ShelfMem, ShaSame, ShelfRefSame, as one text. -/
import Derived.Test.YtbkkfchcdfhfgadDoorProg
import Derived.Test.YtbkkfchcdfhfgadDoorRunAI
import Derived.WalkKit
import Derived.Test.YtbkkfchcdfhfgadDoorRunAB
import Derived.WalkSpells
import Derived.WalkLawsBesides
import Derived.Deep.QuietTactic
import Derived.BigQuiet
import Derived.Deep.RegionHeld3
import Derived.BigRegion
/- Variables that are set, and lists that lie elsewhere. -/
namespace Go.Proofs.YtbkkfchcdfhfgadDoor
open Go.RowKit

theorem box2_set {w : World} {k : Nat} {u v u' v' : Value} {t : TypeId} (h : w.heap[k]? = some (.cells #[u, v] t (0, 0))) :
    ((w.setCell ⟨k, 0, none⟩ u').setCell ⟨k, 1, none⟩ v').heap[k]? = some (.cells #[u', v'] t (0, 0)) := by
  have h0 := heap_setCell_same _ _ 0 _ _ u' h
  have h1 := heap_setCell_same _ _ 1 _ _ v' h0
  exact h1
/-- Setting a variable that is no row of bytes, nor of slices of them. -/
theorem Laid.set {w : World} {a : Option Addr} {n c k o : Nat} {L : List (List Int)} {cs : Array Value} {t : TypeId} {mk : Nat × Nat} (h : Laid w a n c L) (hk : w.heap[k]? = some (.cells cs t mk)) (h1 : 5 ≠ t) (h2 : n ≠ 0 → ∀ g off, a = some ⟨g, off, none⟩ → g ≠ k) (u : Value) : Laid (w.setCell ⟨k, o, none⟩ u) a n c L := by
  obtain ⟨hl, vs, he, hc⟩ := h
  have hB : ∀ y d, ByteEl w y d → ByteEl (w.setCell ⟨k, o, none⟩ u) y d := fun y d hy => hy.same (fun g cur mk' hg => by
    rw [heap_setCell_other w ⟨k, o, none⟩ g u (fun e => ?_)]
    have e : g = k := e
    subst e
    rw [hg] at hk
    cases hk
    exact h1 rfl)
  have he' : Els (w.setCell ⟨k, o, none⟩ u) vs L := ⟨he.1, fun j hj => by obtain ⟨y, q1, q2⟩ := he.2 j hj; exact ⟨y, q1, hB _ _ q2⟩⟩
  have hcell : n ≠ 0 → ∀ b off, a = some ⟨b, off, none⟩ → ∀ j, (w.setCell ⟨k, o, none⟩ u).cell? ⟨b, off + j, none⟩ = w.cell? ⟨b, off + j, none⟩ := fun hn b off ha j => World.cell?_setCell_far _ _ _ _ (show k ≠ b from fun e => h2 hn b off ha e.symm)
  refine ⟨⟨hl.len, ?_, hl.room, hl.cap, hl.nil, hl.bytes, hl.short⟩, vs, he', fun ad ha j v hv => ?_⟩
  · rcases hl.at' with h | ⟨b, off, cp, e, hb, hp⟩
    · exact .inl h
    · cases e
      refine .inr ⟨b, off, c, rfl, by simpa using hb, fun j hj => ?_⟩
      obtain ⟨y, q1, q2⟩ := he'.2 j hj
      obtain ⟨ya, yc, rfl⟩ := q2.bytes.form
      refine ⟨ya, _, yc, ?_, q2.bytes⟩
      rw [hcell (by have := hl.len; omega) b off rfl]
      have := hc _ rfl j _ q1
      have e2 : (⟨b, off, none⟩ : Addr).add j = ⟨b, off + j, none⟩ := Addr.add_mid _ _ _
      rwa [e2] at this
  · have h3 := hc ad ha j v hv
    rcases hl.at' with ⟨rfl, -⟩ | ⟨b, off, cp, e, hb, hp⟩
    · have := (List.getElem?_eq_some_iff.1 hv).1
      rw [he.1] at this
      simp at this
    · cases e
      cases ha
      have e2 : (⟨b, off, none⟩ : Addr).add j = ⟨b, off + j, none⟩ := Addr.add_mid _ _ _
      rw [e2] at h3 ⊢
      rw [hcell (by have h4 := (List.getElem?_eq_some_iff.1 hv).1; rw [he.1, hl.len] at h4; omega) b off rfl]
      exact h3
/-- A list lies in no variable of two numbers. -/
theorem Lists.apart {w : World} {a : Option Addr} {n c k : Nat} {L : List (List Int)} {u v : Int} {t : TypeId} (h : Lists w a n c L) (hk : w.heap[k]? = some (.cells #[.int .i64 u, .int .i64 v] t (0, 0))) : n ≠ 0 → ∀ g off, a = some ⟨g, off, none⟩ → g ≠ k := fun hn g off ha e => by
  obtain ⟨b, o, pa, pc, hb, hc, -⟩ := h.get 0 (by omega)
  rw [ha] at hb
  cases hb
  subst e
  rw [cell_of_row w g (off + 0) _ t _ hk] at hc
  match off, hc with
  | 0, hc => simp at hc
  | 1, hc => simp at hc
  | o + 2, hc => simp at hc

end Go.Proofs.YtbkkfchcdfhfgadDoor

/- The walk of yearref1.Same: whether two slices hold the same bytes. -/
namespace Go.Proofs.YtbkkfchcdfhfgadDoor
open Go.RowKit

theorem drewN_two (w : World) (m n : Nat) : (w.drewN m).drewN n = w.drewN (m + n) := by simp [World.drewN, Nat.add_assoc]

set_option maxRecDepth 100000 in
set_option maxHeartbeats 400000 in
theorem same_len (a1 a2 : Option Addr) (n1 n2 c1 c2 : Nat) (w : World) (h : n1 ≠ n2) :
    Calls Tryd.prog 15 #[.slice a1 n1 c1, .slice a2 n2 c2] w fun e w' => e = .returned (.bool false) ∧ w' = w := by
  have h' : ((n1 : Int) != (n2 : Int)) = true := by rw [bne_iff_ne]; omega
  go_enter Tryd.func15, Tryd.ntmps15
  go_wp2
  go_ret
  exact ⟨rfl, rfl⟩

set_option maxRecDepth 100000 in
set_option maxHeartbeats 400000 in
theorem same_zero (a1 a2 : Option Addr) (c1 c2 : Nat) (w : World) :
    Calls Tryd.prog 15 #[.slice a1 0 c1, .slice a2 0 c2] w fun e w' => e = .returned (.bool true) ∧ w' = w := by
  go_enter Tryd.func15, Tryd.ntmps15
  go_wp2
  go_loop [13] (fun i => i = .int .i64 0) (fun _ => 0)
  case atStart => rfl
  case round =>
    subst hrel
    go_wp2
    go_ret
    exact ⟨rfl, rfl⟩

set_option maxRecDepth 100000 in
set_option maxHeartbeats 400000 in
theorem same_eq (l1 l2 : List Int) (n b1 o1 c1 b2 o2 c2 : Nat) (w : World) (hl1 : Hid (l1.length = n)) (hl2 : Hid (l2.length = n)) (hm : n ≤ maxLen) (h1 : ∀ j, j < n → w.cell? ⟨b1, o1 + j, none⟩ = some (.int .u8 (l1.getD j 0))) (h2 : ∀ j, j < n → w.cell? ⟨b2, o2 + j, none⟩ = some (.int .u8 (l2.getD j 0))) :
    Calls Tryd.prog 15 #[.slice (some ⟨b1, o1, none⟩) n c1, .slice (some ⟨b2, o2, none⟩) n c2] w fun e w' => e = .returned (.bool (decide (l1 = l2))) ∧ ∃ n, w' = w.drewN n := by
  unfold maxLen at hm
  have h' : ((n : Int) != (n : Int)) = false := by simp
  go_enter Tryd.func15, Tryd.ntmps15
  go_wp2
  go_loopw [13] (fun i wr => ∃ k : Nat, k ≤ n ∧ i = .int .i64 k ∧ Hid (∀ j, j < k → l1.getD j 0 = l2.getD j 0) ∧ ∃ n, wr = w.drewN n) (fun i _ => n - (intOf i).toNat)
  case atStart => exact ⟨0, Nat.zero_le _, rfl, fun j hj => absurd hj (by omega), 0, rfl⟩
  case round =>
    obtain ⟨k, hk, rfl, HE, m, rfl⟩ := hrel
    by_cases hlt : k < n
    · have d1 := h1 k hlt
      have d2 := h2 k hlt
      clear h1 h2
      by_cases hx : l1.getD k 0 = l2.getD k 0
      · have HE2 : Hid (∀ j, j < k + 1 → l1.getD j 0 = l2.getD j 0) := fun j hj => by
          by_cases hjk : j = k
          · rw [hjk]; exact hx
          · exact HE.out j (by omega)
        rw [hx] at d1
        clear hx HE
        generalize l2.getD k 0 = x at *
        have hb : (x != x) = false := by simp
        go_wp2
        go_quiet (fail)
        go_wp2
        go_roundw
        case rel => exact ⟨k + 1, by omega, by go_num, HE2, m + nq, rfl⟩
        case measure => simp [intOf]; omega
      · have HN : Hid (decide (l1 = l2) = false) := decide_eq_false (fun e => hx (by rw [e]))
        have hb : (l1.getD k 0 != l2.getD k 0) = true := by rw [bne_iff_ne]; exact hx
        clear hx HE
        generalize l1.getD k 0 = x at *
        generalize l2.getD k 0 = y at *
        go_wp2
        go_quiet (fail)
        go_wp2
        go_ret
        exact ⟨by rw [HN.out]; rfl, m + nq, drewN_two _ _ _⟩
    · have HN : Hid (decide (l1 = l2) = true) := decide_eq_true (by
        have e1 := hl1.out
        have e2 := hl2.out
        apply List.ext_getElem (by omega)
        intro j g1 g2
        have := HE.out j (by omega)
        rw [List.getD_eq_getElem?_getD, List.getElem?_eq_getElem g1, List.getD_eq_getElem?_getD, List.getElem?_eq_getElem g2] at this
        exact this)
      clear h1 h2 HE
      go_wp2
      go_ret
      exact ⟨by rw [HN.out]; rfl, _, rfl⟩

theorem same_any (l1 l2 : List Int) (v1 v2 : Value) (w : World) (h1 : BytesAt w v1 l1) (h2 : BytesAt w v2 l2) (hm : l1.length ≤ maxLen) :
    Calls Tryd.prog 15 #[v1, v2] w fun e w' => e = .returned (.bool (decide (l1 = l2))) ∧ ∃ n, w' = w.drewN n := by
  have form : ∀ v l, BytesAt w v l → ∃ a c, v = .slice a l.length c ∧ (l.length = 0 ∨ ∃ b o, a = some ⟨b, o, none⟩ ∧ ∀ j, j < l.length → w.cell? ⟨b, o + j, none⟩ = some (.int .u8 (l.getD j 0))) := fun v l h => by
    rcases h with ⟨rfl, a, c, rfl, -⟩ | ⟨b, o, c, rfl, -, hc⟩
    · exact ⟨a, c, rfl, .inl rfl⟩
    · exact ⟨_, _, rfl, .inr ⟨b, o, rfl, hc⟩⟩
  obtain ⟨a1, c1, rfl, k1⟩ := form v1 l1 h1
  obtain ⟨a2, c2, rfl, k2⟩ := form v2 l2 h2
  by_cases hl : l1.length = l2.length
  · rcases k1 with k1 | ⟨b1, o1, rfl, k1⟩
    · have e1 : l1 = [] := List.eq_nil_of_length_eq_zero k1
      have e2 : l2 = [] := List.eq_nil_of_length_eq_zero (by omega)
      subst e1 e2
      refine (same_zero a1 a2 c1 c2 w).mono ?_
      rintro e w' ⟨rfl, rfl⟩
      exact ⟨rfl, 0, rfl⟩
    · rcases k2 with k2 | ⟨b2, o2, rfl, k2⟩
      · have e2 : l2 = [] := List.eq_nil_of_length_eq_zero k2
        have e1 : l1 = [] := List.eq_nil_of_length_eq_zero (by omega)
        subst e1 e2
        refine (same_zero _ a2 c1 c2 w).mono ?_
        rintro e w' ⟨rfl, rfl⟩
        exact ⟨rfl, 0, rfl⟩
      · rw [← hl]
        exact same_eq l1 l2 l1.length b1 o1 c1 b2 o2 c2 w rfl hl.symm hm k1 (fun j hj => k2 j (by omega))
  · refine (same_len a1 a2 l1.length l2.length c1 c2 w hl).mono ?_
    rintro e w' ⟨rfl, rfl⟩
    refine ⟨?_, 0, rfl⟩
    rw [decide_eq_false (fun e => hl (by rw [e]))]

end Go.Proofs.YtbkkfchcdfhfgadDoor

/- The walks of yearref5.SameHead and yearref5.SameManifest. -/
namespace Go.Proofs.YtbkkfchcdfhfgadDoor
open Go.RowKit

set_option maxRecDepth 100000 in
theorem sameHead_yes (s : Int) (r : List Int) (v1 v2 : Value) (w : World) (h1 : Some' w v1 r) (h2 : Some' w v2 r) :
    Calls Tryd.prog 29 #[.agg #[.int .i64 s, v1], .agg #[.int .i64 s, v2]] w fun e w' => e = .returned (.bool true) ∧ Below w.heap.size w w' := by
  have b0 : Below w.heap.size w ((w.alloc (.cells #[.int .i64 s, v1] 25)).alloc (.cells #[.int .i64 s, v2] 25)) := ((Below.refl _ _).alloc (Nat.le_refl _) _).alloc (by simp) _
  obtain ⟨x0, x1, -, -⟩ := box_two (box_one w #[.int .i64 s, v1] 25 (.cells #[.int .i64 s, v2] 25))
  obtain ⟨y0, y1, -, -⟩ := box_two (box_last w (.cells #[.int .i64 s, v1] 25) #[.int .i64 s, v2] 25)
  have sE := same_any r r v1 v2 _ (h1.below b0).at' (h2.below b0).at' h1.short
  rw [decide_eq_true rfl] at sE
  have hs : (s == s) = true := by simp
  go_enter Tryd.func29, Tryd.ntmps29
  go_wp2_with fail
  refine sE.mono ?_
  rintro e w3 ⟨rfl, q, rfl⟩
  go_wp2_with fail
  go_ret
  exact ⟨rfl, below_drewN' b0 _⟩
theorem keepC {wo w' : World} (h : Below wo.heap.size wo w') : ∀ b o, b < wo.heap.size → w'.cell? ⟨b, o, none⟩ = wo.cell? ⟨b, o, none⟩ := fun b o hb => h.cell (p := ⟨b, o, none⟩) hb
set_option maxRecDepth 100000 in
set_option maxHeartbeats 4000000 in
theorem sameMan_yes (m : Man) (v1 v2 : Value) (w : World) (h1 : ManAt w v1 m) (h2 : ManAt w v2 m) :
    Calls Tryd.prog 9 #[v1, v2] w fun e w' => e = .returned (.bool true) ∧ Below w.heap.size w w' := by
  obtain ⟨r1, s1, rfl, hr1, a1, c1, rfl, n1, n2, n3, hc1⟩ := h1
  obtain ⟨r2, s2, rfl, hr2, a2, c2, rfl, p1, p2, p3, hc2⟩ := h2
  unfold maxLen at n2
  have b0 : Below w.heap.size w ((w.alloc (.cells #[.int .i64 m.size, r1, .slice a1 m.segs.length c1] 28)).alloc (.cells #[.int .i64 m.size, r2, .slice a2 m.segs.length c2] 28)) := ((Below.refl _ _).alloc (Nat.le_refl _) _).alloc (by simp) _
  have x0 := box_one w #[.int .i64 m.size, r1, .slice a1 m.segs.length c1] 28 (.cells #[.int .i64 m.size, r2, .slice a2 m.segs.length c2] 28)
  have y0 := box_last w (.cells #[.int .i64 m.size, r1, .slice a1 m.segs.length c1] 28) #[.int .i64 m.size, r2, .slice a2 m.segs.length c2] 28
  obtain ⟨u0, u1, u2, -, -, -⟩ := box_three x0
  obtain ⟨v0, v1, v2, -, -, -⟩ := box_three y0
  have sH := sameHead_yes m.size m.root r1 r2 _ (hr1.below b0) (hr2.below b0)
  have hnn : ((m.segs.length : Int) != (m.segs.length : Int)) = false := by simp
  generalize hN : m.segs.length = N at *
  generalize m.size = size at *
  go_enter Tryd.func9, Tryd.ntmps9
  go_wp2_with fail
  generalize (w.alloc (.cells #[.int .i64 size, r1, .slice a1 N c1] 28)).alloc (.cells #[.int .i64 size, r2, .slice a2 N c2] 28) = w0 at *
  refine sH.mono ?_
  rintro e w1 ⟨rfl, hb1⟩
  have b1 := b0.trans (hb1.mono b0.size)
  have x1 := box_kept x0 hb1
  have y1 := box_kept y0 hb1
  clear sH x0 y0 u0 u1 u2 v0 v1 v2 hr1 hr2
  obtain ⟨u0, u1, u2, -, -, -⟩ := box_three x1
  obtain ⟨v0, v1, v2, -, -, -⟩ := box_three y1
  go_wp2_with fail
  clear u0 u1 u2 v0 v1 v2 hnn
  go_loopw [26] (fun kv wr => ∃ k : Nat, k ≤ N ∧ kv = .int .i64 k ∧ Below w1.heap.size w1 wr) (fun kv _ => N - (intOf kv).toNat)
  case atStart => exact ⟨0, Nat.zero_le _, rfl, Below.refl _ _⟩
  case round =>
    obtain ⟨wo, rfl⟩ : ∃ x, x = wr := ⟨wr, rfl⟩
    obtain ⟨k, hk, rfl, hbr⟩ := hrel
    have hbw := b1.trans (hbr.mono b1.size)
    have hsr := hbr.size
    by_cases hlt : k < N
    · have hlt' : (k : Int) < N := by omega
      obtain ⟨g1, o1, rfl, hg1, hcs1⟩ := hc1.resolve_left (by omega)
      obtain ⟨g2, o2, rfl, hg2, hcs2⟩ := hc2.resolve_left (by omega)
      obtain ⟨d0, d1, qa, qc, d2, hq, -⟩ := hcs1 k hlt
      obtain ⟨e0, e1, ta, tc, e2, ht, -⟩ := hcs2 k hlt
      have hs1 := b1.size
      replace d0 := (hbw.cell (p := ⟨g1, o1 + k * 3, none⟩) hg1).trans d0
      replace d1 := (hbw.cell (p := ⟨g1, o1 + k * 3 + 1, none⟩) hg1).trans d1
      replace d2 := (hbw.cell (p := ⟨g1, o1 + k * 3 + 2, none⟩) hg1).trans d2
      replace e0 := (hbw.cell (p := ⟨g2, o2 + k * 3, none⟩) hg2).trans e0
      replace e1 := (hbw.cell (p := ⟨g2, o2 + k * 3 + 1, none⟩) hg2).trans e1
      replace e2 := (hbw.cell (p := ⟨g2, o2 + k * 3 + 2, none⟩) hg2).trans e2
      obtain ⟨u0, u1, u2, -, -, -⟩ := box_three (box_kept x1 hbr)
      obtain ⟨v0, v1, v2, -, -, -⟩ := box_three (box_kept y1 hbr)
      clear hcs1 hcs2 hc1 hc2
      generalize m.segs.getD k seg0 = s at *
      obtain ⟨sf, sc, sp⟩ := s
      dsimp only at d0 d1 d2 e0 e1 e2 hq ht
      go_wp2_with fail
      have k1 : g1 < wo.heap.size := by omega
      have k2 : g2 < wo.heap.size := by omega
      have k3 : w.heap.size < wo.heap.size := lt_heap (box_kept x1 hbr)
      have k4 : w.heap.size + 1 < wo.heap.size := lt_heap (box_kept y1 hbr)
      go_region_held3 (fun w' => ∀ b o, b < wo.heap.size → w'.cell? ⟨b, o, none⟩ = wo.cell? ⟨b, o, none⟩) (first | exact fun _ _ _ => rfl | exact keepC (by repeat (first | with_reducible exact Below.refl _ _ | with_reducible refine Below.setCell ?_ (by first | exact Nat.le_refl _ | exact Nat.le_succ _) _ | with_reducible refine Below.alloc ?_ (by first | exact Nat.le_refl _ | exact Nat.le_succ _ | simp) _ | with_reducible refine Below.drew ?_))) (fail)
      · obtain ⟨f0, f1, f2, -, -, -⟩ := box_three (w := ((wo.alloc (.cells #[.int .i64 sf, .int .i64 sc, .slice qa sp.length qc] 55)).alloc (.cells #[.int .i64 sf, .int .i64 sc, .slice ta sp.length tc] 55)).drew) (box_one wo #[.int .i64 sf, .int .i64 sc, .slice qa sp.length qc] 55 (.cells #[.int .i64 sf, .int .i64 sc, .slice ta sp.length tc] 55))
        obtain ⟨h0, h1, h2, -, -, -⟩ := box_three (w := ((wo.alloc (.cells #[.int .i64 sf, .int .i64 sc, .slice qa sp.length qc] 55)).alloc (.cells #[.int .i64 sf, .int .i64 sc, .slice ta sp.length tc] 55)).drew) (box_last wo (.cells #[.int .i64 sf, .int .i64 sc, .slice qa sp.length qc] 55) #[.int .i64 sf, .int .i64 sc, .slice ta sp.length tc] 55)
        have cA : Below w1.heap.size w1 ((wo.alloc (.cells #[.int .i64 sf, .int .i64 sc, .slice qa sp.length qc] 55)).alloc (.cells #[.int .i64 sf, .int .i64 sc, .slice ta sp.length tc] 55)).drew := ((hbr.alloc hsr _).alloc (by simp; omega) _).drew
        have cA0 := (hbr.alloc hsr (.cells #[.int .i64 sf, .int .i64 sc, .slice qa sp.length qc] 55)).alloc (by simp; omega) (.cells #[.int .i64 sf, .int .i64 sc, .slice ta sp.length tc] 55)
        have bA := b1.trans (cA.mono b1.size)
        have sE := same_any sp sp (.slice qa sp.length qc) (.slice ta sp.length tc) _ (hq.below bA).at' (ht.below bA).at' hq.short
        rw [decide_eq_true rfl] at sE
        generalize sp.length = dn at *
        clear d0 d1 d2 e0 e1 e2 u0 u1 u2 v0 v1 v2 hq ht
        have z1 : (sf != sf) = false := by simp
        have z2 : (sc != sc) = false := by simp
        go_wp2_with fail
        refine sE.mono ?_
        rintro e w5 ⟨rfl, q, rfl⟩
        go_wp2_with fail
        go_roundw
        case rel => exact ⟨k + 1, by omega, by go_num, below_drewN' cA0 _⟩
        case measure => simp [intOf]; omega
      · obtain ⟨f0, f1, f2, -, -, -⟩ := box_three (w := ((wo.alloc (.cells #[.int .i64 sf, .int .i64 sc, .slice ta sp.length tc] 55)).alloc (.cells #[.int .i64 sf, .int .i64 sc, .slice qa sp.length qc] 55)).drew) (box_one wo #[.int .i64 sf, .int .i64 sc, .slice ta sp.length tc] 55 (.cells #[.int .i64 sf, .int .i64 sc, .slice qa sp.length qc] 55))
        obtain ⟨h0, h1, h2, -, -, -⟩ := box_three (w := ((wo.alloc (.cells #[.int .i64 sf, .int .i64 sc, .slice ta sp.length tc] 55)).alloc (.cells #[.int .i64 sf, .int .i64 sc, .slice qa sp.length qc] 55)).drew) (box_last wo (.cells #[.int .i64 sf, .int .i64 sc, .slice ta sp.length tc] 55) #[.int .i64 sf, .int .i64 sc, .slice qa sp.length qc] 55)
        have cA : Below w1.heap.size w1 ((wo.alloc (.cells #[.int .i64 sf, .int .i64 sc, .slice ta sp.length tc] 55)).alloc (.cells #[.int .i64 sf, .int .i64 sc, .slice qa sp.length qc] 55)).drew := ((hbr.alloc hsr _).alloc (by simp; omega) _).drew
        have cA0 := (hbr.alloc hsr (.cells #[.int .i64 sf, .int .i64 sc, .slice ta sp.length tc] 55)).alloc (by simp; omega) (.cells #[.int .i64 sf, .int .i64 sc, .slice qa sp.length qc] 55)
        have bA := b1.trans (cA.mono b1.size)
        have sE := same_any sp sp (.slice qa sp.length qc) (.slice ta sp.length tc) _ (hq.below bA).at' (ht.below bA).at' hq.short
        rw [decide_eq_true rfl] at sE
        generalize sp.length = dn at *
        clear d0 d1 d2 e0 e1 e2 u0 u1 u2 v0 v1 v2 hq ht
        have z1 : (sf != sf) = false := by simp
        have z2 : (sc != sc) = false := by simp
        go_wp2_with fail
        refine sE.mono ?_
        rintro e w5 ⟨rfl, q, rfl⟩
        go_wp2_with fail
        go_roundw
        case rel => exact ⟨k + 1, by omega, by go_num, below_drewN' cA0 _⟩
        case measure => simp [intOf]; omega
    · obtain rfl : k = N := by omega
      have hnl : ¬ (k : Int) < k := by omega
      clear hc1 hc2
      go_wp2_with fail
      go_ret
      exact ⟨rfl, hbw⟩

end Go.Proofs.YtbkkfchcdfhfgadDoor
