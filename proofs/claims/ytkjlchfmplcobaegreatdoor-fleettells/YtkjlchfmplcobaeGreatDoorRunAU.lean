/- TreeGoShow, FleetGoFind, as one text. -/
import Derived.Test.YtkjlchfmplcobaeGreatDoorProg
import Derived.Test.YtkjlchfmplcobaeGreatDoorRunAL
import Derived.Test.YtkjlchfmplcobaeGreatDoorByteConv
import Derived.WalkKit
import Derived.WalkSpells
import Derived.WalkLawsBesides
import Derived.Laws.BytesArg
import Derived.Shelf.Bytes.SlSmallAll
import Derived.Deep.RegionHeld3
import Derived.BigRegion
import Derived.Test.YtkjlchfmplcobaeGreatDoorRunAE
/- The walks of bytes.Equal, fits and along. -/
namespace Go.Proofs.YtkjlchfmplcobaeGreatDoor
open Go.RowKit

set_option maxRecDepth 100000 in
theorem equal_any (xs ys : List Int) (v1 v2 : Value) (w : World) (h1 : BytesAt w v1 xs) (h2 : BytesAt w v2 ys) (hx : Bytes xs) (hy : Bytes ys) :
    Calls Tryz.prog 67 #[v1, v2] w fun e w' => e = .returned (.bool (decide (xs = ys))) ∧ w' = w := by
  have g1 := h1.conv
  have g2 := h2.conv
  have HQ : Hid (((strOfNums xs).toList == (strOfNums ys).toList) = decide (xs = ys)) := by
    show ((strOfNums xs).toList == (strOfNums ys).toList) = decide (xs = ys)
    by_cases h : xs = ys
    · subst h; simp
    · rw [decide_eq_false h]
      exact beq_eq_false_iff_ne.2 (fun e => h (nums_inj hx hy e))
  clear h1 h2 hx hy
  go_enter Tryz.func67, Tryz.ntmps67
  go_wp2
  go_ret
  exact ⟨by rw [← HQ.out]; rfl, rfl⟩

end Go.Proofs.YtkjlchfmplcobaeGreatDoor

/- The walks of slices.IndexFunc over shards and over entries, with what submit hands it: package fleet as it landed. -/
namespace Go.Proofs.YtkjlchfmplcobaeGreatDoor
open Go.RowKit

def idxOf : Option Nat → Int
  | some k => (k : Int)
  | none => -1
theorem idx_home {ss : List Shd} {t : Int} {k : Nat} (hk : k < ss.length) (h : (ss.getD k shd0).from' ≤ t ∧ t < (ss.getD k shd0).to') (hb : ∀ j, j < k → ¬ ((ss.getD j shd0).from' ≤ t ∧ t < (ss.getD j shd0).to')) : homeOf ss t = some k :=
  find_range hk (by simpa using h) (fun j hj => by simpa using hb j hj)
theorem idx_nohome {ss : List Shd} {t : Int} (h : ∀ j, j < ss.length → ¬ ((ss.getD j shd0).from' ≤ t ∧ t < (ss.getD j shd0).to')) : homeOf ss t = none :=
  List.find?_eq_none.2 (fun j hj => by simpa using h j (List.mem_range.1 hj))
theorem idx_place {es : List (List Int)} {e : List Int} {k : Nat} (hk : k < es.length) (h : es.getD k [] = e) (hb : ∀ j, j < k → ¬ es.getD j [] = e) : placeOf es e = some k :=
  find_range hk (decide_eq_true h) (fun j hj => decide_eq_false (hb j hj))
theorem idx_noplace {es : List (List Int)} {e : List Int} (h : ∀ j, j < es.length → ¬ es.getD j [] = e) : placeOf es e = none :=
  List.find?_eq_none.2 (fun j hj => by rw [decide_eq_true_eq]; exact h j (List.mem_range.1 hj))
set_option maxRecDepth 100000 in
set_option maxHeartbeats 1000000 in
theorem home1_any (a b t : Int) (r : Bool) (hr : r = decide (a ≤ t ∧ t < b)) (v2 v3 v4 v5 v6 : Value) (B : Nat) (w : World) (hB : w.heap[B]? = some (.cells #[.int .i64 t] 3 (0, 0))) :
    Calls Tryz.prog 76 #[.agg #[.int .i64 a, .int .i64 b, v2, v3, v4, v5, v6], .pointer (some ⟨B, 0, none⟩)] w fun e w' => e = .returned (.bool r) ∧ Below w.heap.size w w' := by
  have b0 : Below w.heap.size w (w.alloc (.cells #[.int .i64 a, .int .i64 b, v2, v3, v4, v5, v6] 65)) := (Below.refl _ _).alloc (Nat.le_refl _) _
  obtain ⟨h0, h1⟩ := box_cell (box_kept hB b0)
  by_cases q1 : a ≤ t
  · by_cases q2 : t < b
    · obtain rfl : r = true := hr.trans (decide_eq_true ⟨q1, q2⟩)
      clear hr
      go_enter Tryz.func76, Tryz.ntmps76
      go_wp2_with fail
      go_ret
      exact ⟨rfl, b0⟩
    · obtain rfl : r = false := hr.trans (decide_eq_false (fun h => q2 h.2))
      clear hr
      go_enter Tryz.func76, Tryz.ntmps76
      go_wp2_with fail
      go_ret
      exact ⟨rfl, b0⟩
  · obtain rfl : r = false := hr.trans (decide_eq_false (fun h => q1 h.1))
    clear hr
    go_enter Tryz.func76, Tryz.ntmps76
    go_wp2_with fail
    go_ret
    exact ⟨rfl, b0⟩
set_option maxRecDepth 100000 in
set_option maxHeartbeats 2000000 in
theorem home_any (ss : List Shd) (t : Int) (sa : Option Addr) (n c B : Nat) (w : World) (hS : ShdsAt w (.slice sa n c) ss) (hn : ss.length = n) (hB : w.heap[B]? = some (.cells #[.int .i64 t] 3 (0, 0))) :
    Calls Tryz.prog 75 #[.slice sa n c, .func (.func 76) #[] #[.pointer (some ⟨B, 0, none⟩)]] w fun e w' => e = .returned (.int .i64 (idxOf (homeOf ss t))) ∧ Below w.heap.size w w' := by
  obtain ⟨sa', sc', e, hc1, hc2, -, hS⟩ := hS
  rw [hn] at e hc1 hS
  cases e
  unfold maxLen at hc2
  have H1 : ∀ k : Nat, Hid (k < n → ((ss.getD k shd0).from' ≤ t ∧ t < (ss.getD k shd0).to') → (∀ j, j < k → ¬ ((ss.getD j shd0).from' ≤ t ∧ t < (ss.getD j shd0).to')) → homeOf ss t = some k) := fun k h1 h2 h3 => idx_home (by omega) h2 h3
  have H2 : Hid ((∀ j, j < n → ¬ ((ss.getD j shd0).from' ≤ t ∧ t < (ss.getD j shd0).to')) → homeOf ss t = none) := fun h => idx_nohome (fun j hj => h j (by omega))
  go_enter Tryz.func75, Tryz.ntmps75
  go_wp2_with fail
  go_loopw [8] (fun kv wr => ∃ k : Nat, k ≤ n ∧ kv = .int .i64 k ∧ Hid (∀ j, j < k → ¬ ((ss.getD j shd0).from' ≤ t ∧ t < (ss.getD j shd0).to')) ∧ Below w.heap.size w wr) (fun kv _ => n - (intOf kv).toNat)
  case atStart => exact ⟨0, Nat.zero_le _, rfl, fun _ hj => absurd hj (Nat.not_lt_zero _), Below.refl _ _⟩
  case round =>
    obtain ⟨wo, rfl⟩ : ∃ x, x = wr := ⟨wr, rfl⟩
    obtain ⟨k, hk, rfl, HO, hbr⟩ := hrel
    have hsr := hbr.size
    by_cases hlt : k < n
    · have hlt' : (k : Int) < n := by omega
      obtain ⟨g, o, rfl, hg, hcs⟩ := hS.resolve_left (by omega)
      obtain ⟨d0, d1, d2, ⟨ea, ec, d3, -⟩, d4, ⟨ra, rc, d5, -⟩, ⟨ga, gc, d6, -⟩⟩ := (hcs k hlt).below hg hbr
      have hC := fun r hr v2 v3 v4 v5 v6 => home1_any (ss.getD k shd0).from' (ss.getD k shd0).to' t r hr v2 v3 v4 v5 v6 B wo (box_kept hB hbr)
      have HV := H1 k
      have HF : Hid (¬ ((ss.getD k shd0).from' ≤ t ∧ t < (ss.getD k shd0).to') → ∀ j, j < k + 1 → ¬ ((ss.getD j shd0).from' ≤ t ∧ t < (ss.getD j shd0).to')) := fun h j hj => by
        by_cases e : j = k
        · rw [e]; exact h
        · exact HO.out j (by omega)
      clear hcs hS H1 H2
      by_cases hin : (ss.getD k shd0).from' ≤ t ∧ t < (ss.getD k shd0).to'
      · have HE : Hid (homeOf ss t = some k) := HV.out hlt hin HO.out
        replace hC := hC true (decide_eq_true hin).symm
        clear hin HF HV HO
        generalize ss.getD k shd0 = X at *
        go_wp2_with fail
        refine (hC _ _ _ _ _).mono ?_
        rintro e w5 ⟨rfl, hb5⟩
        go_wp2_with fail
        go_ret
        exact ⟨by rw [HE.out]; rfl, hbr.trans (hb5.mono hsr)⟩
      · replace hC := hC false (decide_eq_false hin).symm
        have HF2 : Hid (∀ j, j < k + 1 → ¬ ((ss.getD j shd0).from' ≤ t ∧ t < (ss.getD j shd0).to')) := HF.out hin
        clear hin HF HV HO
        generalize ss.getD k shd0 = X at *
        go_wp2_with fail
        refine (hC _ _ _ _ _).mono ?_
        rintro e w5 ⟨rfl, hb5⟩
        go_wp2_with fail
        go_roundw
        case rel => exact ⟨k + 1, by omega, by go_num, HF2, hbr.trans (hb5.mono hsr)⟩
        case measure => simp [intOf]; omega
    · obtain rfl : k = n := by omega
      have hnl : ¬ (k : Int) < k := by omega
      have HE : Hid (homeOf ss t = none) := H2.out HO.out
      clear H1 H2 HO hS
      go_wp2_with fail
      go_ret
      exact ⟨by rw [HE.out]; rfl, hbr⟩
set_option maxRecDepth 100000 in
set_option maxHeartbeats 2000000 in
theorem place_any (es : List (List Int)) (d : List Int) (ea da : Option Addr) (n c dc B : Nat) (w : World) (hE : Lists w ea n c es) (hB : w.heap[B]? = some (.cells #[.slice da d.length dc] 37 (0, 0))) (hd : Some' w (.slice da d.length dc) d) :
    Calls Tryz.prog 77 #[.slice ea n c, .func (.func 78) #[] #[.pointer (some ⟨B, 0, none⟩)]] w fun e w' => e = .returned (.int .i64 (idxOf (placeOf es d))) ∧ w' = w := by
  have hn := hE.len
  have hr := hE.room
  have hcap := hE.cap
  unfold maxLen at hcap
  have H1 : ∀ k : Nat, Hid (k < n → es.getD k [] = d → (∀ j, j < k → ¬ es.getD j [] = d) → placeOf es d = some k) := fun k h1 h2 h3 => idx_place (by omega) h2 h3
  have H2 : Hid ((∀ j, j < n → ¬ es.getD j [] = d) → placeOf es d = none) := fun h => idx_noplace (fun j hj => h j (by omega))
  obtain ⟨c0, c1⟩ := box_cell hB
  go_enter Tryz.func77, Tryz.ntmps77
  go_wp2_with fail
  go_loopw [8] (fun kv wr => ∃ k : Nat, k ≤ n ∧ kv = .int .i64 k ∧ Hid (∀ j, j < k → ¬ es.getD j [] = d) ∧ wr = w) (fun kv _ => n - (intOf kv).toNat)
  case atStart => exact ⟨0, Nat.zero_le _, rfl, fun _ hj => absurd hj (Nat.not_lt_zero _), rfl⟩
  case round =>
    obtain ⟨k, hk, rfl, HO, rfl⟩ := hrel
    by_cases hlt : k < n
    · have hlt' : (k : Int) < n := by omega
      obtain ⟨b, o, pa, pc, rfl, hc, hP⟩ := hE.get k hlt
      have hC := equal_any (es.getD k []) d (.slice pa (es.getD k []).length pc) (.slice da d.length dc) wr hP.at' hd.at' (hE.bytes k) hd.bytes
      have HV := H1 k
      have HF : Hid (¬ es.getD k [] = d → ∀ j, j < k + 1 → ¬ es.getD j [] = d) := fun h j hj => by
        by_cases e : j = k
        · rw [e]; exact h
        · exact HO.out j (by omega)
      clear hE H1 H2
      by_cases hin : es.getD k [] = d
      · have HE : Hid (placeOf es d = some k) := HV.out hlt hin HO.out
        rw [decide_eq_true hin] at hC
        clear hin HF HV HO
        generalize es.getD k [] = X at *
        go_wp2_with (first | (go_at_call 67; refine hC.mono ?_; rintro e w5 ⟨rfl, rfl⟩) | go_in)
        go_ret
        exact ⟨by rw [HE.out]; rfl, rfl⟩
      · have HF2 : Hid (∀ j, j < k + 1 → ¬ es.getD j [] = d) := HF.out hin
        rw [decide_eq_false hin] at hC
        clear hin HF HV HO
        generalize es.getD k [] = X at *
        go_wp2_with (first | (go_at_call 67; refine hC.mono ?_; rintro e w5 ⟨rfl, rfl⟩) | go_in)
        go_roundw
        case rel => exact ⟨k + 1, by omega, by go_num, HF2, by trivial⟩
        case measure => simp [intOf]; omega
    · obtain rfl : k = n := by omega
      have hnl : ¬ (k : Int) < k := by omega
      have HE : Hid (placeOf es d = none) := H2.out HO.out
      clear H1 H2 HO hE
      go_wp2_with fail
      go_ret
      exact ⟨by rw [HE.out]; rfl, rfl⟩

end Go.Proofs.YtkjlchfmplcobaeGreatDoor
