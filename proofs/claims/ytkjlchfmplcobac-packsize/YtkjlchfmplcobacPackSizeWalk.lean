/- The walk of the law PackSize, over the faces of package pack. -/
import Derived.Test.YtkjlchfmplcobacProg
import Derived.Test.YtkjlchfmplcobacPackAlive
import Derived.OwnWalk
import Derived.WalkKit
import Derived.WalkSpells
import Derived.WalkLawsBesides
namespace Go.Proofs.Ytkjlchfmplcobac
open Go.RowKit

/-- So many bytes c, then nothing. -/
def fillL (c : Int) (n k : Nat) : List Int := List.replicate k c ++ List.replicate (n - k) 0
theorem fill_set {c : Int} {n k : Nat} (h : k < n) : (fillL c n k).set k c = fillL c n (k + 1) := by
  unfold fillL
  rw [List.set_append_right _ _ (by simp), List.length_replicate, Nat.sub_self]
  obtain ⟨m, hm⟩ : ∃ m, n - k = m + 1 := ⟨n - k - 1, by omega⟩
  rw [hm, List.replicate_succ, List.set_cons_zero, show n - (k + 1) = m by omega, List.replicate_succ', List.append_assoc]
  rfl
theorem fill_all (c : Int) (n : Nat) : fillL c n n = List.replicate n c := by unfold fillL; rw [Nat.sub_self]; simp
theorem rep_bytes {c : Int} (h0 : 0 ≤ c) (h1 : c < 256) (n : Nat) : Bytes (List.replicate n c) := bytes_of_mem (fun x hx => by rw [(List.mem_replicate.1 hx).2]; exact ⟨h0, h1⟩)
set_option maxRecDepth 100000 in
set_option maxHeartbeats 2000000 in
theorem packSize_any (hPack : PackC) (hUn : UnpackC) (b : List Int) (c n : Int) (bv : Value) (w : World) (hb : Some' w bv b) (hc0 : 0 ≤ c) (hc1 : c < 256) :
    Calls Try.prog 5 #[bv, .int .u8 c, .int .i64 n] w fun e w' => e = .returned (.bool true) ∧ Below w.heap.size w w' := by
  obtain ⟨i0, hi0, hz0, hz1, hz2⟩ := info_parts Try.info5b
  have cA := alive4_any hPack hUn w
  have cP : ∀ w', Below w.heap.size w w' → _ := fun w' h => hPack b bv w' (hb.below h)
  have hsh := hb.short
  unfold maxLen at hsh
  obtain ⟨ba, bc, eb⟩ := hb.at'.form
  subst eb
  have hpl : muchE b = 0 → b.length ≤ 4000 ∧ (packE b).length ≤ 2 + b.length + (b.length + 7) / 8 := fun h => by
    unfold muchE at h
    unfold packE
    split at h
    · cases h
    · rename_i h4
      rw [if_neg h4]
      exact ⟨by omega, pack_length b⟩
  generalize packE b = P at *
  go_enter Try.func5, Try.ntmps5
  go_wp2_with fail
  refine cA.mono ?_
  rintro e w1 ⟨rfl, b1⟩
  go_wp2_with fail
  refine (cP _ b1).mono ?_
  rintro e w2 ⟨v2, rfl, h2, -, hb2⟩
  have b2 := b1.trans (hb2.mono b1.size)
  obtain ⟨pa, pc, e2⟩ := h2.form
  subst e2
  clear cA cP h2
  have hrep := fun m : Nat => rep_length m c
  have hrz := fun m : Nat => rep_bytes hc0 hc1 m
  have cP2 : ∀ (m : Nat) w' v, BytesAt w' v (List.replicate m c) → m ≤ 4000 → Calls Try.prog 12 #[v] w' fun e w'' => ∃ v', e = .returned (.tuple #[v', .int .i64 0]) ∧ BytesAt w'' v' (packL (List.replicate m c)) ∧ Below w'.heap.size w' w'' := fun m w' v h hm => by
    have hl : (List.replicate m c).length = m := List.length_replicate
    have := hPack (List.replicate m c) v w' ⟨h, hrz m, by rw [hl]; unfold maxLen; omega⟩
    unfold muchE packE at this
    rw [if_neg (by omega), if_neg (by omega)] at this
    exact this.mono fun _ _ ⟨v', h1, h2, _, h3⟩ => ⟨v', h1, h2, h3⟩
  generalize muchE b = E at *
  obtain ⟨i1, hE⟩ : ∃ x : Bool, (E == 0) = x := ⟨_, rfl⟩
  have hpl2 : E = 0 → ¬ ((2 : Int) + b.length + (b.length + 7) / 8 < P.length) := fun h => by have := hpl h; omega
  have hb8 : E = 0 → b.length ≤ 4000 := fun h => (hpl h).1
  clear hpl
  cases i1 with
  | true =>
    obtain rfl : E = 0 := by simpa using hE
    have h1 := hpl2 rfl
    have h2 := hb8 rfl
    clear hpl2 hb8 hE
    by_cases hn : n < 0
    · go_wp2_with fail
      go_ret
      exact ⟨rfl, b2⟩
    by_cases hn4 : 4000 < n
    · go_wp2_with fail
      go_ret
      exact ⟨rfl, b2⟩
    obtain ⟨m, rfl⟩ : ∃ m : Nat, n = (m : Int) := ⟨n.toNat, by omega⟩
    have hm4 : m ≤ 4000 := by omega
    have HN0 : Hid (decide ((m : Int) < 0) = false) := decide_eq_false hn
    have HN4 : Hid (decide ((4000 : Int) < (m : Int)) = false) := decide_eq_false hn4
    have cP3 : ∀ w' v, _ → _ := fun w' v h => cP2 m w' v h hm4
    have hrl := hrep m
    clear cP2 hrep
    go_wp2_with (at_make; refine wpList_make_full _ rfl _ _ 22 rfl w.heap.size 5 i0 (.int .u8 0) 1 Try.underlying22 hi0 hz0 hz1 .i64 .i64 _ _ m rfl rfl rfl rfl (by rw [hz2]; omega) (by unfold maxLen; omega) b2.size ?_; intro w3 hown hgrow)
    have b3 : Below w.heap.size w w3 := b2.grown hgrow b2.size (fun q h => by cases h)
    have hrow0 : w3.ownsRow w.heap.size 5 1 (.slice (some ⟨w2.heap.size, 0, none⟩) m m) m ((fillL c m 0).map (Value.int .u8)) := by
      have e : (madeCells (Value.int IntKind.u8 0).cells (m * 1)).toList = (fillL c m 0).map (Value.int .u8) := by
        show (madeCells #[Value.int IntKind.u8 0] (m * 1)).toList = _
        rw [toList_madeCells_one, Nat.mul_one]
        unfold fillL
        simp
      rw [← e]
      exact hown
    have hs2 := b2.size
    clear hown hgrow
    simp only [HN0.out, HN4.out, Bool.or_false]
    go_loopw [43] (fun i wr => ∃ k : Nat, k ≤ m ∧ i = .int .i64 k ∧ wr.ownsRow w.heap.size 5 1 (.slice (some ⟨w2.heap.size, 0, none⟩) m m) m ((fillL c m k).map (Value.int .u8)) ∧ Below w.heap.size w wr) (fun i _ => m - (intOf i).toNat)
    case atStart => exact ⟨0, Nat.zero_le _, rfl, hrow0, b3⟩
    case round =>
      obtain ⟨k, hk, rfl, hrow, hb3⟩ := hrel
      clear hrow0 b3
      by_cases hlt : k < m
      · obtain ⟨g, eg, hcell, hfz, -⟩ := own_get (z := 0) hrow k hlt
        cases eg
        have hst := (hrow.stored k (.int .u8 c)).1
        have HF : Hid (((fillL c m k).map (Value.int .u8)).set k (.int .u8 c) = (fillL c m (k + 1)).map (Value.int .u8)) := by
          show _ = _
          rw [← fill_set hlt, List.map_set]
        rw [HF.out] at hst
        have hb4 := hb3.setCell (p := ⟨w2.heap.size, k, none⟩) hs2 (.int .u8 c)
        clear hrow HF
        generalize (fillL c m k).getD k 0 = z0 at *
        go_wp2_with fail
        go_roundw
        case rel => exact ⟨k + 1, by omega, by go_num, hst, hb4⟩
        case measure => simp [intOf]; omega
      · obtain rfl : k = m := by omega
        rw [fill_all] at hrow
        have hB := bytesAt_own hrow
        have c4 := cP3 _ _ hB
        clear hrow hB cP3
        go_wp2_with fail
        refine c4.mono ?_
        rintro e w5 ⟨v5, rfl, h5, hb5⟩
        have b5 := hb3.trans (hb5.mono hb3.size)
        obtain ⟨qa, qc, e5⟩ := h5.form
        subst e5
        have hq : ((packL (List.replicate k c)).length : Int) ≤ 6 + (k : Int) / 25 := by omega
        clear c4 h5 hrl
        generalize (packL (List.replicate k c)).length = z at *
        go_wp2_with fail
        go_ret
        exact ⟨rfl, b5⟩
  | false =>
    clear hpl2 hb8
    by_cases hn : n < 0
    · go_wp2_with fail
      go_ret
      exact ⟨rfl, b2⟩
    by_cases hn4 : 4000 < n
    · go_wp2_with fail
      go_ret
      exact ⟨rfl, b2⟩
    obtain ⟨m, rfl⟩ : ∃ m : Nat, n = (m : Int) := ⟨n.toNat, by omega⟩
    have hm4 : m ≤ 4000 := by omega
    have HN0 : Hid (decide ((m : Int) < 0) = false) := decide_eq_false hn
    have HN4 : Hid (decide ((4000 : Int) < (m : Int)) = false) := decide_eq_false hn4
    have cP3 : ∀ w' v, _ → _ := fun w' v h => cP2 m w' v h hm4
    have hrl := hrep m
    clear cP2 hrep
    go_wp2_with (at_make; refine wpList_make_full _ rfl _ _ 22 rfl w.heap.size 5 i0 (.int .u8 0) 1 Try.underlying22 hi0 hz0 hz1 .i64 .i64 _ _ m rfl rfl rfl rfl (by rw [hz2]; omega) (by unfold maxLen; omega) b2.size ?_; intro w3 hown hgrow)
    have b3 : Below w.heap.size w w3 := b2.grown hgrow b2.size (fun q h => by cases h)
    have hrow0 : w3.ownsRow w.heap.size 5 1 (.slice (some ⟨w2.heap.size, 0, none⟩) m m) m ((fillL c m 0).map (Value.int .u8)) := by
      have e : (madeCells (Value.int IntKind.u8 0).cells (m * 1)).toList = (fillL c m 0).map (Value.int .u8) := by
        show (madeCells #[Value.int IntKind.u8 0] (m * 1)).toList = _
        rw [toList_madeCells_one, Nat.mul_one]
        unfold fillL
        simp
      rw [← e]
      exact hown
    have hs2 := b2.size
    clear hown hgrow
    simp only [HN0.out, HN4.out, Bool.or_false]
    go_loopw [43] (fun i wr => ∃ k : Nat, k ≤ m ∧ i = .int .i64 k ∧ wr.ownsRow w.heap.size 5 1 (.slice (some ⟨w2.heap.size, 0, none⟩) m m) m ((fillL c m k).map (Value.int .u8)) ∧ Below w.heap.size w wr) (fun i _ => m - (intOf i).toNat)
    case atStart => exact ⟨0, Nat.zero_le _, rfl, hrow0, b3⟩
    case round =>
      obtain ⟨k, hk, rfl, hrow, hb3⟩ := hrel
      clear hrow0 b3
      by_cases hlt : k < m
      · obtain ⟨g, eg, hcell, hfz, -⟩ := own_get (z := 0) hrow k hlt
        cases eg
        have hst := (hrow.stored k (.int .u8 c)).1
        have HF : Hid (((fillL c m k).map (Value.int .u8)).set k (.int .u8 c) = (fillL c m (k + 1)).map (Value.int .u8)) := by
          show _ = _
          rw [← fill_set hlt, List.map_set]
        rw [HF.out] at hst
        have hb4 := hb3.setCell (p := ⟨w2.heap.size, k, none⟩) hs2 (.int .u8 c)
        clear hrow HF
        generalize (fillL c m k).getD k 0 = z0 at *
        go_wp2_with fail
        go_roundw
        case rel => exact ⟨k + 1, by omega, by go_num, hst, hb4⟩
        case measure => simp [intOf]; omega
      · obtain rfl : k = m := by omega
        rw [fill_all] at hrow
        have hB := bytesAt_own hrow
        have c4 := cP3 _ _ hB
        clear hrow hB cP3
        go_wp2_with fail
        refine c4.mono ?_
        rintro e w5 ⟨v5, rfl, h5, hb5⟩
        have b5 := hb3.trans (hb5.mono hb3.size)
        obtain ⟨qa, qc, e5⟩ := h5.form
        subst e5
        have hq : ((packL (List.replicate k c)).length : Int) ≤ 6 + (k : Int) / 25 := by omega
        clear c4 h5 hrl
        generalize (packL (List.replicate k c)).length = z at *
        go_wp2_with fail
        go_ret
        exact ⟨rfl, b5⟩

end Go.Proofs.Ytkjlchfmplcobac
