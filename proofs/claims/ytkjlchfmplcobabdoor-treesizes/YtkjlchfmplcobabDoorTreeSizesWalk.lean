/- The walk of the law TreeSizes, over package tree's faces. -/
import Derived.Test.YtkjlchfmplcobabDoorProg
import Derived.Test.YtkjlchfmplcobabDoorTreeFaceGrows
import Derived.Test.YtkjlchfmplcobabDoorTreeAlive
import Derived.WalkKit
import Derived.WalkSpells
import Derived.WalkLawsBesides
namespace Go.Proofs.YtkjlchfmplcobabDoor
open Go.RowKit

theorem pathF_ok {L : List (List Int)} {i : Int} (h : (pathF L i).1 = 0) : (wrongL L).1 = 0 ∧ 0 ≤ i ∧ i < L.length := by
  unfold pathF at h
  by_cases h1 : (wrongL L).1 ≠ 0
  · rw [if_pos h1] at h; exact absurd h h1
  rw [if_neg h1] at h
  by_cases h2 : i < 0 ∨ (L.length : Int) ≤ i
  · rw [if_pos h2] at h; simp at h
  exact ⟨by simpa using h1, by omega, by omega⟩
theorem growF_ok {L : List (List Int)} {m : Int} (h : (growF L m).1 = 0) : (wrongL L).1 = 0 ∧ 1 ≤ m ∧ m ≤ L.length := by
  unfold growF at h
  by_cases h1 : (wrongL L).1 ≠ 0
  · rw [if_pos h1] at h; exact absurd h h1
  rw [if_neg h1] at h
  by_cases h2 : m < 1 ∨ (L.length : Int) < m
  · rw [if_pos h2] at h; simp at h
  exact ⟨by simpa using h1, by omega, by omega⟩

theorem shl_small {e q : Nat} (he : e ≤ 7) (hq : q = 2 ^ e) : wrap64 ((2 : Int) ^ e) = (q : Int) := by
  subst hq
  have h : e = 0 ∨ e = 1 ∨ e = 2 ∨ e = 3 ∨ e = 4 ∨ e = 5 ∨ e = 6 ∨ e = 7 := by omega
  rcases h with rfl | rfl | rfl | rfl | rfl | rfl | rfl | rfl <;> decide +kernel
theorem shl_is {e q n : Nat} (he : e ≤ 7) (hq : q = 2 ^ e) (h : n = q) : ((n : Int) != wrap64 ((2 : Int) ^ e)) = false := by
  rw [shl_small he hq, h]; simp
theorem shl_not {e q n : Nat} (he : e ≤ 7) (hq : q = 2 ^ e) (h : n ≠ q) : ((n : Int) != wrap64 ((2 : Int) ^ e)) = true := by
  rw [shl_small he hq, bne_iff_ne]; omega
theorem pow_small {e q : Nat} (he : e ≤ 7) (hq : q = 2 ^ e) : 1 ≤ q ∧ q ≤ 128 ∧ (q < 101 → e < 7) := by
  subst hq
  have h : e = 0 ∨ e = 1 ∨ e = 2 ∨ e = 3 ∨ e = 4 ∨ e = 5 ∨ e = 6 ∨ e = 7 := by omega
  rcases h with rfl | rfl | rfl | rfl | rfl | rfl | rfl | rfl <;> decide

set_option maxRecDepth 100000 in
set_option maxHeartbeats 2000000 in
theorem sizes2_any (hRoot : RootC) (hPath : PathC) (hStands : StandsC) (hGrows : GrowsC) (L : List (List Int)) (i m : Int) (a : Option Addr) (n c : Nat) (w : World) (hR : Ready w) (hL : Lists w a n c L) :
    Calls Tryd.prog 6 #[.slice a n c, .int .i64 i, .int .i64 m] w fun e w' => e = .returned (.bool true) ∧ Below w.heap.size w w' := by
  have hcap := hL.cap
  have hroom := hL.room
  unfold maxLen at hcap
  have HPF : Hid ((pathF L i).1 = 0 → (wrongL L).1 = 0 ∧ 0 ≤ i ∧ i < L.length) := pathF_ok
  have HGF : Hid ((growF L m).1 = 0 → (wrongL L).1 = 0 ∧ 1 ≤ m ∧ m ≤ L.length) := growF_ok
  have cP : ∀ w', Below w.heap.size w w' → _ := fun w' h => hPath L i a n c w' (hR.below h) (hL.below h)
  have cG : ∀ w', Below w.heap.size w w' → _ := fun w' h => hGrows L m a n c w' (hR.below h) (hL.below h)
  generalize pathF L i = PF at *
  generalize growF L m = GF at *
  obtain ⟨P1, P2⟩ := PF
  obtain ⟨G1, G2⟩ := GF
  dsimp only [faultV] at cP cG HPF HGF
  go_enter Tryd.func6, Tryd.ntmps6
  go_wp2_with fail
  refine (alive2_any hRoot hPath hStands _ hR).mono ?_
  rintro e w1 ⟨rfl, b1⟩
  go_wp2_with fail
  refine (cP _ b1).mono ?_
  rintro e w2 ⟨xa, xn, xc, rfl, hp, -, hb2⟩
  obtain ⟨c2, f0, -, sf⟩ := box_cells w2 (.int .i64 P1) (.int .i64 P2) 27
  have hb3 := hb2.trans (c2.mono hb2.size)
  have b3 := b1.trans (hb3.mono b1.size)
  have HX : Hid (P1 = 0 → xn = (pathL L i.toNat).length) := fun h => by
    obtain ⟨a', c', e', -, -⟩ := (hp h).form
    injection e'
  clear hp hb2 c2 hb3
  go_wp2_with fail
  obtain ⟨gf, hgf⟩ : ∃ gf, w2.heap.size = gf := ⟨_, rfl⟩
  rw [hgf] at f0 sf ⊢
  clear hgf
  generalize w2.alloc (.cells #[.int .i64 P1, .int .i64 P2] 27) = W at *
  refine (cG _ b3).mono ?_
  rintro e w4 ⟨za, zn, zc, rfl, hq, -, hb4⟩
  obtain ⟨c4, g0, -, sg⟩ := box_cells w4 (.int .i64 G1) (.int .i64 G2) 27
  have hb5 := hb4.trans (c4.mono hb4.size)
  have b5 := b3.trans (hb5.mono b3.size)
  replace f0 := (hb5.cell (p := ⟨gf, 0, none⟩) sf).trans f0
  have HZ : Hid (G1 = 0 → zn = (proofL L m.toNat true).length) := fun h => by
    obtain ⟨a', c', e', -, -⟩ := (hq h).form
    injection e'
  clear hq hb4 c4 hb5 cP cG
  by_cases hP : P1 ≠ 0
  · go_wp2_with fail
    go_ret
    exact ⟨rfl, b5⟩
  obtain rfl : P1 = 0 := by simpa using hP
  by_cases hG : G1 ≠ 0
  · go_wp2_with fail
    go_ret
    exact ⟨rfl, b5⟩
  obtain rfl : G1 = 0 := by simpa using hG
  obtain ⟨hw, hi0, hi1⟩ := HPF.out rfl
  obtain ⟨-, hm0, hm1⟩ := HGF.out rfl
  obtain ⟨hL100, -⟩ := wrong_ok hw
  have HN : Hid (L.length = n) := hL.len
  obtain ⟨ii, rfl⟩ := Int.eq_ofNat_of_zero_le hi0
  obtain ⟨mm, rfl⟩ := Int.eq_ofNat_of_zero_le (show 0 ≤ m by omega)
  have hx := HX.out rfl
  have hz := HZ.out rfl
  rw [Int.toNat_natCast] at hx hz
  rw [HN.out] at hi1 hm1 hL100
  have HS : Hid (∀ e, n ≤ 2 ^ e → xn ≤ e ∧ zn ≤ e + 1 ∧ (n = 2 ^ e → xn = e)) := fun e he => by
    have hl := HN.out
    refine ⟨by rw [hx]; exact path_short _ _ e (by omega), by rw [hz]; exact proof_short _ _ e _ (by omega), fun h => by rw [hx]; exact path_power _ _ e (by omega) (by omega)⟩
  have HQ : Hid (mm = n → zn = 0) := fun h => by
    rw [hz, h, ← HN.out, proofL_whole]; rfl
  clear hx hz HX HZ HPF HGF hP hG hw
  go_wp2_with fail
  obtain ⟨W5, hW5⟩ : ∃ W5, W5 = w4.alloc (.cells #[.int .i64 0, .int .i64 G2] 27) := ⟨_, rfl⟩
  rw [← hW5] at b5 ⊢
  clear hW5 f0 g0 sg
  go_loopw [11, 12] (fun nv kv wr => ∃ e q : Nat, e ≤ 7 ∧ Hid (q = 2 ^ e) ∧ nv = .int .i64 e ∧ kv = .int .i64 q ∧ wr = W5) (fun _ kv _ => 256 - (intOf kv).toNat)
  case atStart => exact ⟨0, 1, by omega, rfl, rfl, rfl, rfl⟩
  case round =>
    obtain ⟨e, q, he, HE, rfl, rfl, rfl⟩ := hrel
    obtain ⟨hq1, hq2, hq3⟩ := pow_small he HE.out
    by_cases hlt : q < n
    · have he6 := hq3 (by omega)
      have HE2 : Hid (2 * q = 2 ^ (e + 1)) := by show _ = _; rw [HE.out, Nat.pow_succ']
      have i1 : (q : Int) < (n : Int) := by omega
      clear HS HQ HE
      go_wp2
      go_roundw
      case rel => exact ⟨e + 1, 2 * q, by omega, HE2, by go_num, by go_num, by first | rfl | trivial⟩
      case measure => simp [intOf]; omega
    · have hnq : n ≤ q := by omega
      have HXZ : Hid (xn ≤ e ∧ zn ≤ e + 1 ∧ (n = 2 ^ e → xn = e)) := HS.out e (by rw [← HE.out]; exact hnq)
      have k1 : (xn : Int) ≤ (e : Int) := by have := HXZ.out.1; omega
      have k2 : (zn : Int) ≤ (e : Int) + 1 := by have := HXZ.out.2.1; omega
      have i1 : ¬ (q : Int) < (n : Int) := by omega
      have k3 : (0 : Int) ≤ (e : Int) := by omega
      have k4 : (e : Int) < 64 := by omega
      clear HS hq3
      by_cases hpw : n = q
      · have d5 := shl_is he HE.out hpw
        obtain rfl := HXZ.out.2.2 (hpw.trans HE.out)
        clear HXZ HE
        subst hpw
        by_cases hmq : mm = n
        · obtain rfl := HQ.out hmq
          subst hmq
          clear HQ
          go_wp2
          go_ret
          exact ⟨rfl, b5⟩
        · have k6 : (mm : Int) ≠ (n : Int) := by omega
          clear HQ
          go_wp2
          go_ret
          exact ⟨rfl, b5⟩
      · have d5 := shl_not he HE.out hpw
        clear HXZ HE
        by_cases hmq : mm = n
        · obtain rfl := HQ.out hmq
          subst hmq
          clear HQ
          go_wp2
          go_ret
          exact ⟨rfl, b5⟩
        · have k6 : (mm : Int) ≠ (n : Int) := by omega
          clear HQ
          go_wp2
          go_ret
          exact ⟨rfl, b5⟩

end Go.Proofs.YtkjlchfmplcobabDoor
