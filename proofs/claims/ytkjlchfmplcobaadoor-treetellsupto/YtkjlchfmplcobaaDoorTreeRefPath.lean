/- The walks of yearref2.Path and Proof. -/
import Derived.Test.YtkjlchfmplcobaaDoorProg
import Derived.Test.YtkjlchfmplcobaaDoorShaSame
import Derived.Test.YtkjlchfmplcobaaDoorTreeSame
import Derived.Test.YtkjlchfmplcobaaDoorShaSum
import Derived.Test.YtkjlchfmplcobaaDoorTreeRefMth
import Derived.WalkKit
import Derived.WalkSpells
import Derived.WalkLawsBesides
import Derived.Deep.QuietTactic
import Derived.BigQuiet
import Derived.Test.YtkjlchfmplcobaaDoorRunAB
import Derived.Test.YtkjlchfmplcobaaDoorTreeRefOnes
import Derived.Deep.RegionHeld3
import Derived.BigRegion
namespace Go.Proofs.YtkjlchfmplcobaaDoor
open Go.RowKit

theorem Leaves.mth {w : World} {a : Option Addr} {n c : Nat} {L : List (List Int)} (h : Leaves w a n c L) (hn : n ≤ 1000000) :
    Calls Tryd.prog 29 #[.slice a n c] w fun e w' => ∃ xa xc, e = .returned (.slice xa 32 xc) ∧ w'.ownsRow w.heap.size 5 1 (.slice xa 32 xc) 32 ((mth L).map (Value.int .u8)) ∧ Below w.heap.size w w' :=
  (mth_any n L a c w h.len hn h.at' h.room h.cap h.bytes h.short).mono fun _ _ ⟨x, he, ho, hb⟩ => by
    obtain ⟨xa, xc, hx⟩ := own_form' ho
    exact ⟨xa, xc, by rw [he, hx], by rw [← hx]; exact ho, hb⟩
set_option maxRecDepth 100000 in
set_option maxHeartbeats 2000000 in
theorem refPath_any (n : Nat) : ∀ (L : List (List Int)) (i : Nat) (iv : Int) (a : Option Addr) (c : Nat) (w : World), iv = i → n ≤ 1000000 → i < 1000000 → Leaves w a n c L →
    Calls Tryd.prog 31 #[.slice a n c, .int .i64 iv] w fun e w' => ∃ x, e = .returned x ∧ OwnParts w' w.heap.size x (pathL L i) ∧ Below w.heap.size w w' := by
  induction n using Nat.strongRecOn with
  | ind n ih =>
    intro L i iv a c w hiv hn hi hL
    subst hiv
    by_cases h1 : n ≤ 1
    · rw [pathL_one (by rw [hL.len]; exact h1)]
      go_enter Tryd.func31, Tryd.ntmps31
      go_wp2_with fail
      go_ret
      exact ⟨_, rfl, OwnParts.nil _ _, Below.refl _ _⟩
    · obtain ⟨i0, hi0, hz0, hz1, hz2⟩ := info_parts Tryd.info22b
      obtain ⟨b, off, rfl⟩ := hL.addr (by omega)
      have hs := splitN_spec (n := n) (by omega)
      have hsp := split_any n w (by omega) hn
      have hlen := hL.len
      have HL : Hid (i < splitN n → pathL L i = pathL (L.take (splitN n)) i ++ [mth (L.drop (splitN n))]) := fun h => by
        have := pathL_left (ls := L) (i := i) (by omega) (by rw [hlen]; exact h)
        rwa [hlen] at this
      have HR : Hid (¬ i < splitN n → pathL L i = pathL (L.drop (splitN n)) (i - splitN n) ++ [mth (L.take (splitN n))]) := fun h => by
        have := pathL_right (ls := L) (i := i) (by omega) (by rw [hlen]; exact h)
        rwa [hlen] at this
      have hroom := hL.room
      have hcap := hL.cap
      unfold maxLen at hcap
      obtain ⟨k, hk⟩ : ∃ k, splitN n = k := ⟨_, rfl⟩
      rw [hk] at hs HL HR hsp
      clear hk
      have hLt := hL.take (k := k) (by omega) (by omega)
      have hLd := hL.drop (k := k) (by omega) (by omega)
      have m1 : (mth (L.drop k)).length = 32 := mth_length _
      have m2 : (mth (L.take k)).length = 32 := mth_length _
      have p1 : (pathL (L.take k) i).length ≤ 20 := path_short _ _ 20 (by rw [hLt.len]; omega)
      have p2 : (pathL (L.drop k) (i - k)).length ≤ 20 := path_short _ _ 20 (by rw [hLd.len]; omega)
      have c1 : ∀ w1, Below w.heap.size w w1 → _ := fun w1 hb => ih k (by omega) (L.take k) i i (some ⟨b, off, none⟩) c w1 rfl (by omega) hi (hLt.below hb)
      have c2 : ∀ w1, Below w.heap.size w w1 → _ := fun w1 hb => (hLd.below hb).mth (by omega)
      have c3 : ∀ w1, Below w.heap.size w w1 → ¬ i < k → _ := fun w1 hb hik => ih (n - k) (by omega) (L.drop k) (i - k) (IntKind.i64.wrap ((i : Int) - k)) (some ⟨b, off + k, none⟩) (c - k) w1 (by rw [IntKind.wrap_i64]; omega) (by omega) (by omega) (hLd.below hb)
      have c4 : ∀ w1, Below w.heap.size w w1 → _ := fun w1 hb => (hLt.below hb).mth (by omega)
      clear ih hLt hLd hL hlen
      generalize pathL (L.take k) i = P1 at *
      generalize pathL (L.drop k) (i - k) = P2 at *
      generalize mth (L.drop k) = M1 at *
      generalize mth (L.take k) = M2 at *
      have i1 : (k : Int) ≤ (n : Int) := by omega
      have i2 : ¬ (c = k) := by omega
      have i3 : (k : Int) ≤ (c : Int) := by omega
      by_cases hik : i < k
      · have j1 : (i : Int) < (k : Int) := by omega
        rw [HL.out hik]
        clear HL HR c3 c4
        go_enter Tryd.func31, Tryd.ntmps31
        go_wp2_with fail
        refine hsp.mono ?_
        rintro e w0 ⟨rfl, rfl⟩
        go_wp2_with fail
        go_region_held3 (fun _ => True) (exact True.intro) (first | (go_at_call 31; refine (c1 _ (Below.refl _ _).drew).mono ?_; rintro e w1 ⟨x1, rfl, ⟨vs, hrow, hels⟩, hb1⟩; have hb1' := (Below.refl _ _).drew.trans hb1) | (go_at_call 29; refine (c2 _ hb1').mono ?_; rintro e w2 ⟨xa, xc, rfl, ho2, hb2⟩; have hrow2 := own_below hrow hb2 (Nat.le_refl _); have hels2 := hels.below hb2 (Nat.le_refl _); have hs1 := hb1.size; have hs2 := hb2.size) | (refine step_append_kept _ rfl (.tmp 19) (.tmp 24) 26 rfl w0.heap.size 22 i0 (.slice none 0 0) 24 Tryd.underlying26 hi0 hz0 hz1 hz2 rfl _ _ _ rfl (World.ownsRow.alloc (by exact hrow2) _) _ 1 1 [.slice xa 32 xc] rfl rfl (cell_one_new _ _ _) (by intro u hu; simp at hu; subst hu; rfl) (by unfold maxLen; omega) (by omega) (by simp at hs1 ⊢; omega) ?_; intro v6 w6 ho6 hg6 hk6))
        have hbA : Below w0.heap.size w0 w1 := hb1'
        have hsA := hbA.size
        have hb6 : Below w0.heap.size w0 w6 := ((hbA.trans (hb2.mono hsA)).alloc (by omega) _).grown hg6 (by simp; omega) (fun q h => own_block hrow2 h)
        have hvl : vs.length = P1.length := by simpa using hrow2.1
        have hel6 : OwnEls w6 w0.heap.size (vs ++ [.slice xa 32 xc]) (P1 ++ [M1]) := ((hels2.alloc _).snoc hvl (by rw [m1]; exact (ownsRow_base ho2 hsA).alloc _)).kept (hrow2.alloc _) hg6
        have hrow6 : w6.ownsRow w0.heap.size 22 1 v6 (P1 ++ [M1]).length (vs ++ [.slice xa 32 xc]) := by rw [List.length_append]; exact ho6
        clear hrow hels hrow2 hels2 ho6 hg6 hk6 ho2 hb1' hb1 hb2 hbA
        go_wp2_with fail
        go_ret
        exact ⟨v6, rfl, ⟨_, hrow6, hel6⟩, hb6⟩
      · have j1 : ¬ (i : Int) < (k : Int) := by omega
        rw [HR.out hik]
        clear HL HR c1 c2
        go_enter Tryd.func31, Tryd.ntmps31
        go_wp2_with fail
        refine hsp.mono ?_
        rintro e w0 ⟨rfl, rfl⟩
        go_wp2_with fail
        go_region_held3 (fun _ => True) (exact True.intro) (first | (go_at_call 31; refine (c3 _ (Below.refl _ _).drew hik).mono ?_; rintro e w1 ⟨x1, rfl, ⟨vs, hrow, hels⟩, hb1⟩; have hb1' := (Below.refl _ _).drew.trans hb1) | (go_at_call 29; refine (c4 _ hb1').mono ?_; rintro e w2 ⟨xa, xc, rfl, ho2, hb2⟩; have hrow2 := own_below hrow hb2 (Nat.le_refl _); have hels2 := hels.below hb2 (Nat.le_refl _); have hs1 := hb1.size; have hs2 := hb2.size) | (refine step_append_kept _ rfl (.tmp 32) (.tmp 37) 26 rfl w0.heap.size 22 i0 (.slice none 0 0) 24 Tryd.underlying26 hi0 hz0 hz1 hz2 rfl _ _ _ rfl (World.ownsRow.alloc (by exact hrow2) _) _ 1 1 [.slice xa 32 xc] rfl rfl (cell_one_new _ _ _) (by intro u hu; simp at hu; subst hu; rfl) (by unfold maxLen; omega) (by omega) (by simp at hs1 ⊢; omega) ?_; intro v6 w6 ho6 hg6 hk6))
        have hbA : Below w0.heap.size w0 w1 := hb1'
        have hsA := hbA.size
        have hb6 : Below w0.heap.size w0 w6 := ((hbA.trans (hb2.mono hsA)).alloc (by omega) _).grown hg6 (by simp; omega) (fun q h => own_block hrow2 h)
        have hvl : vs.length = P2.length := by simpa using hrow2.1
        have hel6 : OwnEls w6 w0.heap.size (vs ++ [.slice xa 32 xc]) (P2 ++ [M2]) := ((hels2.alloc _).snoc hvl (by rw [m2]; exact (ownsRow_base ho2 hsA).alloc _)).kept (hrow2.alloc _) hg6
        have hrow6 : w6.ownsRow w0.heap.size 22 1 v6 (P2 ++ [M2]).length (vs ++ [.slice xa 32 xc]) := by rw [List.length_append]; exact ho6
        clear hrow hels hrow2 hels2 ho6 hg6 hk6 ho2 hb1' hb1 hb2 hbA
        go_wp2_with fail
        go_ret
        exact ⟨v6, rfl, ⟨_, hrow6, hel6⟩, hb6⟩

end Go.Proofs.YtkjlchfmplcobaaDoor
