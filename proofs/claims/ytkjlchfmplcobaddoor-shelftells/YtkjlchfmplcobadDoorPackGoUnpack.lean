/- The walk of Unpack: package pack as it landed. -/
import Derived.Test.YtkjlchfmplcobadDoorProg
import Derived.Test.YtkjlchfmplcobadDoorPackGoReads
import Derived.WalkKit
import Derived.WalkSpells
import Derived.WalkLawsBesides
namespace Go.Proofs.YtkjlchfmplcobadDoor
open Go.RowKit

set_option maxRecDepth 100000 in
set_option maxHeartbeats 1500000 in
theorem unpackRC_holds : UnpackRC := fun b bv w hb hroom => by
  have hsh := hb.short
  have hby := hb.bytes
  obtain ⟨ba, bc, eb⟩ := hb.at'.form
  subst eb
  have hbc : b.length ≤ bc := by
    obtain ⟨ra, rc, er, h1, -⟩ := hroom
    simp only [Value.slice.injEq] at er
    obtain ⟨-, -, rfl⟩ := er
    exact h1
  clear hroom
  by_cases h2 : b.length < 2
  · have HU : Hid (unpackL b = ([], 2)) := by show _ = _; rw [unpackL, if_pos h2]
    have h2' : (b.length : Int) < 2 := by omega
    clear hb hby
    go_enter Tryd.func31, Tryd.ntmps31
    go_wp2_with fail
    exact bodyPost_ret (v := .tuple #[.slice none 0 0, .int .i64 2]) (by simp [results, Tryd.results31, go_sem]) rfl ⟨_, by rw [HU.out], by rw [HU.out]; exact roomAt_nil _, Below.refl _ _⟩
  · have h2' : ¬ (b.length : Int) < 2 := by omega
    obtain ⟨g, o, rfl, hg, hcell⟩ : ∃ g o, ba = some ⟨g, o, none⟩ ∧ g < w.heap.size ∧ ∀ j, j < b.length → w.cell? ⟨g, o + j, none⟩ = some (.int .u8 (b.getD j 0)) := by
      rcases hb.at' with ⟨e, -⟩ | ⟨g, o, c, e, h1, h3⟩
      · rw [e] at h2; exact absurd (by decide) h2
      · cases e; exact ⟨g, o, rfl, h1, h3⟩
    have hP := readPair_any b hby g o 0 b.length bc w hcell (by omega) (by omega)
    rw [Nat.add_zero, Nat.zero_add] at hP
    obtain ⟨S, hS⟩ : ∃ S : Nat, 256 * b.getD 0 0 + b.getD 1 0 = (S : Int) := ⟨(256 * b.getD 0 0 + b.getD 1 0).toNat, by have := hby 0; have := hby 1; omega⟩
    rw [hS] at hP
    have hSn : (256 * b.getD 0 0 + b.getD 1 0).toNat = S := by rw [hS]; rfl
    by_cases h4 : 4000 < S
    · have HU : Hid (unpackL b = ([], 4)) := by show _ = _; rw [unpackL, if_neg h2, hSn, if_pos h4]
      have h4' : (4000 : Int) < S := by omega
      clear hb hby hcell hS hSn
      go_enter Tryd.func31, Tryd.ntmps31
      go_wp2_with fail
      refine hP.mono ?_
      rintro r w1 ⟨rfl, b1⟩
      go_wp2_with fail
      exact bodyPost_ret (v := .tuple #[.slice none 0 0, .int .i64 4]) (by simp [results, Tryd.results31, go_sem]) rfl ⟨_, by rw [HU.out], by rw [HU.out]; exact roomAt_nil _, b1⟩
    · have h4' : ¬ (4000 : Int) < S := by omega
      have HU : Hid (unpackL b = readFin b [] 0 (readGo b (S : Int) 0 2 0)) := by
        have h := unpack_read b hby h2 (by rw [hSn]; exact h4)
        rw [hSn] at h
        exact h
      clear hS hSn hb
      have j2 : (2 : Int) ≤ b.length := by omega
      have j3 : (2 : Int) ≤ bc := by omega
      obtain ⟨n, hn⟩ : ∃ n, n = b.length := ⟨_, rfl⟩
      have HN : Hid (n = b.length) := hn
      rcases (show (bc = 2 ∧ b.length = 2) ∨ ¬ bc = 2 by omega) with ⟨rfl, hl2⟩ | hc
      · have hrest : RestAt (.slice (some ⟨g, o, none⟩) 0 0) b g o 2 := ⟨_, 0, by rw [show b.length - 2 = 0 by omega], by omega, .inr (by omega)⟩
        have hR : ∀ W, Below w.heap.size w W → _ := fun W hW => readTokens_any b hby g o S (.slice (some ⟨g, o, none⟩) 0 0) W (Nat.lt_of_lt_of_le hg hW.size) (fun j hj => (hW.cell (p := ⟨g, o + j, none⟩) hg).trans (hcell j hj)) hrest (by omega) (by omega)
        clear hcell hrest hn
        unfold maxLen at hsh
        rw [← HN.out] at hP j2 h2' ⊢
        obtain rfl : n = 2 := by rw [HN.out]; exact hl2
        clear hsh
        go_enter Tryd.func31, Tryd.ntmps31
        go_wp2_with fail
        refine hP.mono ?_
        rintro r w1 ⟨rfl, b1⟩
        have hR1 := hR w1 b1
        clear hR hP
        go_wp2_with fail
        refine hR1.mono ?_
        rintro r w2 ⟨v, ok, rfl, hok, hb2⟩
        have b2 := b1.trans (hb2.mono b1.size)
        clear hR1 hb2
        cases hrg : readGo b (S : Int) 0 2 0 with
        | none =>
          rw [hrg] at hok HU
          obtain rfl : ok = false := hok
          go_wp2_with fail
          exact bodyPost_ret (v := .tuple #[.slice none 0 0, .int .i64 2]) (by simp [results, Tryd.results31, go_sem]) rfl ⟨_, by rw [HU.out]; rfl, by rw [HU.out]; exact roomAt_nil _, b2⟩
        | some p =>
          obtain ⟨l, s, a, f⟩ := p
          rw [hrg] at hok HU
          obtain ⟨rfl, hT⟩ := hok
          by_cases hall : s = 0 ∧ f = 0 ∧ a = b.length
          · rw [show decide (s = 0 ∧ f = 0 ∧ a = b.length) = true from decide_eq_true hall]
            have hX := textC_holds l v w2 hT
            have HU2 : Hid (unpackL b = if (textL l).2.1 ≠ 0 then ([], 2) else ((textL l).1, 0)) := by
              show _ = _
              rw [HU.out]
              simp only [readFin]
              rw [if_neg (by omega)]
              rfl
            clear HU hrg hT hall
            go_wp2_with fail
            refine hX.mono ?_
            rintro r w3 ⟨tv, rfl, hB, hRm, hb3⟩
            have b3 := b2.trans (hb3.mono b2.size)
            generalize textL l = X at *
            obtain ⟨tx, te, ta⟩ := X
            dsimp only at hB hRm HU2 ⊢
            obtain ⟨q0, q1, -, -⟩ := box_two (box_new w3 #[.int .i64 te, .int .i64 ta] 31)
            have b4 : Below w.heap.size w (w3.alloc (.cells #[.int .i64 te, .int .i64 ta] 31)) := b3.alloc b3.size _
            have hB4 : BytesAt (w3.alloc (.cells #[.int .i64 te, .int .i64 ta] 31)) tv tx := hB.below (Nat.le_refl _) ((Below.refl _ _).alloc (Nat.le_refl _) _)
            clear hX hb3 hB
            by_cases he : te = 0
            · subst he
              have HU3 : Hid (unpackL b = (tx, 0)) := by show _ = _; rw [HU2.out, if_neg (fun h => h rfl)]
              clear HU2
              go_wp2_with fail
              exact bodyPost_ret (v := .tuple #[tv, .int .i64 0]) (by simp [results, Tryd.results31, go_sem]) rfl ⟨_, by rw [HU3.out], by rw [HU3.out]; exact ⟨hB4, hRm⟩, b4⟩
            · have HU3 : Hid (unpackL b = ([], 2)) := by show _ = _; rw [HU2.out, if_pos he]
              have he' : (te == 0) = false := by simpa using he
              clear HU2
              go_wp2_with fail
              exact bodyPost_ret (v := .tuple #[.slice none 0 0, .int .i64 2]) (by simp [results, Tryd.results31, go_sem]) rfl ⟨_, by rw [HU3.out], by rw [HU3.out]; exact roomAt_nil _, b4⟩
          · rw [show decide (s = 0 ∧ f = 0 ∧ a = b.length) = false from decide_eq_false hall]
            have HU3 : Hid (unpackL b = ([], 2)) := by
              show _ = _
              rw [HU.out]
              simp only [readFin]
              rw [if_pos (by omega)]
            clear HU hrg hT hall
            go_wp2_with fail
            exact bodyPost_ret (v := .tuple #[.slice none 0 0, .int .i64 2]) (by simp [results, Tryd.results31, go_sem]) rfl ⟨_, by rw [HU3.out], by rw [HU3.out]; exact roomAt_nil _, b2⟩
      · have hrest : RestAt (.slice (some ⟨g, o + 2, none⟩) (n - 2) (bc - 2)) b g o 2 := ⟨_, bc - 2, by rw [hn], by omega, .inl rfl⟩
        have hR : ∀ W, Below w.heap.size w W → _ := fun W hW => readTokens_any b hby g o S (.slice (some ⟨g, o + 2, none⟩) (n - 2) (bc - 2)) W (Nat.lt_of_lt_of_le hg hW.size) (fun j hj => (hW.cell (p := ⟨g, o + j, none⟩) hg).trans (hcell j hj)) hrest (by omega) (by omega)
        clear hcell hrest hn
        unfold maxLen at hsh
        rw [← HN.out] at hP j2 h2' ⊢
        clear hsh
        go_enter Tryd.func31, Tryd.ntmps31
        go_wp2_with fail
        refine hP.mono ?_
        rintro r w1 ⟨rfl, b1⟩
        have hR1 := hR w1 b1
        clear hR hP
        go_wp2_with fail
        refine hR1.mono ?_
        rintro r w2 ⟨v, ok, rfl, hok, hb2⟩
        have b2 := b1.trans (hb2.mono b1.size)
        clear hR1 hb2
        cases hrg : readGo b (S : Int) 0 2 0 with
        | none =>
          rw [hrg] at hok HU
          obtain rfl : ok = false := hok
          go_wp2_with fail
          exact bodyPost_ret (v := .tuple #[.slice none 0 0, .int .i64 2]) (by simp [results, Tryd.results31, go_sem]) rfl ⟨_, by rw [HU.out]; rfl, by rw [HU.out]; exact roomAt_nil _, b2⟩
        | some p =>
          obtain ⟨l, s, a, f⟩ := p
          rw [hrg] at hok HU
          obtain ⟨rfl, hT⟩ := hok
          by_cases hall : s = 0 ∧ f = 0 ∧ a = b.length
          · rw [show decide (s = 0 ∧ f = 0 ∧ a = b.length) = true from decide_eq_true hall]
            have hX := textC_holds l v w2 hT
            have HU2 : Hid (unpackL b = if (textL l).2.1 ≠ 0 then ([], 2) else ((textL l).1, 0)) := by
              show _ = _
              rw [HU.out]
              simp only [readFin]
              rw [if_neg (by omega)]
              rfl
            clear HU hrg hT hall
            go_wp2_with fail
            refine hX.mono ?_
            rintro r w3 ⟨tv, rfl, hB, hRm, hb3⟩
            have b3 := b2.trans (hb3.mono b2.size)
            generalize textL l = X at *
            obtain ⟨tx, te, ta⟩ := X
            dsimp only at hB hRm HU2 ⊢
            obtain ⟨q0, q1, -, -⟩ := box_two (box_new w3 #[.int .i64 te, .int .i64 ta] 31)
            have b4 : Below w.heap.size w (w3.alloc (.cells #[.int .i64 te, .int .i64 ta] 31)) := b3.alloc b3.size _
            have hB4 : BytesAt (w3.alloc (.cells #[.int .i64 te, .int .i64 ta] 31)) tv tx := hB.below (Nat.le_refl _) ((Below.refl _ _).alloc (Nat.le_refl _) _)
            clear hX hb3 hB
            by_cases he : te = 0
            · subst he
              have HU3 : Hid (unpackL b = (tx, 0)) := by show _ = _; rw [HU2.out, if_neg (fun h => h rfl)]
              clear HU2
              go_wp2_with fail
              exact bodyPost_ret (v := .tuple #[tv, .int .i64 0]) (by simp [results, Tryd.results31, go_sem]) rfl ⟨_, by rw [HU3.out], by rw [HU3.out]; exact ⟨hB4, hRm⟩, b4⟩
            · have HU3 : Hid (unpackL b = ([], 2)) := by show _ = _; rw [HU2.out, if_pos he]
              have he' : (te == 0) = false := by simpa using he
              clear HU2
              go_wp2_with fail
              exact bodyPost_ret (v := .tuple #[.slice none 0 0, .int .i64 2]) (by simp [results, Tryd.results31, go_sem]) rfl ⟨_, by rw [HU3.out], by rw [HU3.out]; exact roomAt_nil _, b4⟩
          · rw [show decide (s = 0 ∧ f = 0 ∧ a = b.length) = false from decide_eq_false hall]
            have HU3 : Hid (unpackL b = ([], 2)) := by
              show _ = _
              rw [HU.out]
              simp only [readFin]
              rw [if_pos (by omega)]
            clear HU hrg hT hall
            go_wp2_with fail
            exact bodyPost_ret (v := .tuple #[.slice none 0 0, .int .i64 2]) (by simp [results, Tryd.results31, go_sem]) rfl ⟨_, by rw [HU3.out], by rw [HU3.out]; exact roomAt_nil _, b2⟩
end Go.Proofs.YtkjlchfmplcobadDoor
