/- The walk of yearref1.Sum: the document's digest. -/
import Derived.Test.YtkjlchfmplcobadDoorProg
import Derived.Test.YtkjlchfmplcobadDoorShaRefPrimes
import Derived.Test.YtkjlchfmplcobadDoorRunAA
import Derived.WalkKit
import Derived.WalkSpells
import Derived.WalkLawsBesides
import Derived.Deep.AppendLies
import Derived.Test.YtkjlchfmplcobadDoorRunAE
import Derived.Deep.RegionHeld3
import Derived.BigRegion
import Derived.Deep.QuietTactic
import Derived.BigQuiet
import Derived.Laws.AppendOwnNone
import Derived.Test.YtkjlchfmplcobadDoorShaOwn
namespace Go.Proofs.YtkjlchfmplcobadDoor
open Go.RowKit

def kI : List Int := kw.map U
def hI : List Int := st0.list.map U
theorem root_k (i : Nat) (h : i < 64) : IntKind.u32.wrap (rootTo (primeL.getD i 0) false 41) = kI.getD i 0 := by
  have := congrArg (fun l => l.getD i 0) roots3
  simp only [List.getD_eq_getElem?_getD, List.getElem?_map] at this
  rw [List.getD_eq_getElem?_getD]
  unfold kI
  rw [List.getD_eq_getElem?_getD, List.getElem?_map, ← this, List.getElem?_eq_getElem (show i < primeL.length from h)]
  rfl
theorem root_h (i : Nat) (h : i < 8) : IntKind.u32.wrap (rootTo (primeL.getD i 0) true 41) = hI.getD i 0 := by
  have := congrArg (fun l => l.getD i 0) roots2
  simp only [List.getD_eq_getElem?_getD, List.getElem?_map, List.getElem?_take, if_pos h] at this
  rw [List.getD_eq_getElem?_getD]
  unfold hI
  rw [List.getD_eq_getElem?_getD, List.getElem?_map, ← this, List.getElem?_eq_getElem (show i < primeL.length from by show i < 64; omega)]
  rfl
theorem kI_words {w : World} {base : Nat} {e : TypeId} {g c : Nat} (h : w.ownsRow base e 1 (.slice (some ⟨g, 0, none⟩) 64 c) 64 (kI.map (Value.int .u32))) (q : Nat) (hq : q < 64) :
    w.cell? ⟨g, q, none⟩ = some (.int .u32 (U (kw.getD q 0))) := own_words h q hq
theorem nough_at (n j : Nat) (h : j ≤ nough n) : (n + 1 + j) % 64 = 56 ↔ j = nough n := by unfold nough at *; omega
theorem Tryd.info76b : (Tryd.prog.info? 76).map (fun i => (i.zero, i.size, i.bytes)) = some (some (.int .u32 0), 1, 4) := by kernel_rfl
/-- The eight words' new array. -/
theorem list_cells (W : World) (r : St) (ty : TypeId) (q : Nat) (hq : q < 8) : (W.alloc (.cells #[.int .u32 (U r.a), .int .u32 (U r.b), .int .u32 (U r.c), .int .u32 (U r.d), .int .u32 (U r.e), .int .u32 (U r.f), .int .u32 (U r.g), .int .u32 (U r.h)] ty)).cell? ⟨W.heap.size, q, none⟩ = some (.int .u32 (U (r.list.getD q 0))) := by
  rw [new_cell _ _ _ q (by simpa using hq)]
  have h : q = 0 ∨ q = 1 ∨ q = 2 ∨ q = 3 ∨ q = 4 ∨ q = 5 ∨ q = 6 ∨ q = 7 := by omega
  rcases h with rfl | rfl | rfl | rfl | rfl | rfl | rfl | rfl <;> rfl
theorem add_step {W2 wr : World} {base B hg hc k : Nat} {e : TypeId} {s r : St} (hk : k < 8) (hne : hg ≠ B) (xq : ∀ q, q < 8 → wr.cell? ⟨B, q, none⟩ = some (.int .u32 (U (r.list.getD q 0))))
    (hh : wr.ownsRow base e 1 (.slice (some ⟨hg, 0, none⟩) 8 hc) 8 (((((s.add r).list.take k) ++ s.list.drop k).map U).map (Value.int .u32))) (hg9 : W2.grownBy wr (some hg)) :
    (∀ q, q < 8 → (wr.setCell ⟨hg, k, none⟩ (.int .u32 (U (s.list.getD k 0 + r.list.getD k 0)))).cell? ⟨B, q, none⟩ = some (.int .u32 (U (r.list.getD q 0)))) ∧
      (wr.setCell ⟨hg, k, none⟩ (.int .u32 (U (s.list.getD k 0 + r.list.getD k 0)))).ownsRow base e 1 (.slice (some ⟨hg, 0, none⟩) 8 hc) 8 (((((s.add r).list.take (k + 1)) ++ s.list.drop (k + 1)).map U).map (Value.int .u32)) ∧
      W2.grownBy (wr.setCell ⟨hg, k, none⟩ (.int .u32 (U (s.list.getD k 0 + r.list.getD k 0)))) (some hg) := by
  refine ⟨fun q hq => ?_, ?_, grownBy_setCell hg9 _ _⟩
  · rw [World.cell?_setCell_other _ _ _ _ (by intro e; injection e; omega)]; exact xq q hq
  · have := (hh.stored k (.int .u32 (U (s.list.getD k 0 + r.list.getD k 0)))).1
    rw [← set_word s.list (s.add r).list k rfl rfl hk, add_word s r k hk, List.map_set, List.map_set]
    exact this
theorem mid_cell {wr : World} {base hg hc k : Nat} {e : TypeId} {s r : St} (hk : k < 8)
    (hh : wr.ownsRow base e 1 (.slice (some ⟨hg, 0, none⟩) 8 hc) 8 (((((s.add r).list.take k) ++ s.list.drop k).map U).map (Value.int .u32))) :
    wr.cell? ⟨hg, k, none⟩ = some (.int .u32 (U (s.list.getD k 0))) := by
  rw [own_words hh k hk, mid_word _ _ k (by rfl) hk]
theorem mid_all {wr : World} {base hg hc : Nat} {e : TypeId} {s r s' : St} (hs : s.add r = s')
    (hh : wr.ownsRow base e 1 (.slice (some ⟨hg, 0, none⟩) 8 hc) 8 (((((s.add r).list.take 8) ++ s.list.drop 8).map U).map (Value.int .u32))) :
    wr.ownsRow base e 1 (.slice (some ⟨hg, 0, none⟩) 8 hc) 8 ((s'.list.map U).map (Value.int .u32)) := by
  rw [← hs]; exact hh
theorem block_next {M BL : List Int} {t k : Nat} {s r : St} {SL : List (BitVec 32)} (hk : k = 64) (hB : (M.drop (64 * t)).take 64 = BL) (hS : schedTo BL 64 = SL) (hs : stB M t = s) (hr : r = s.rounds SL k) : s.add r = stB M (t + 1) := by
  subst hk hB hS hs hr
  rfl
set_option maxRecDepth 100000 in
set_option maxHeartbeats 16000000 in
theorem refSum_any (zs : List Int) (v : Value) (w : World) (hv : BytesAt w v zs) (hm : zs.length ≤ 140737488351232) (hz : Bytes zs) :
    Calls Tryd.prog 50 #[v] w fun e w' => ∃ x, e = .returned x ∧ w'.ownsRow w.heap.size 5 1 x 32 ((shaL zs).map (Value.int .u8)) ∧ Below w.heap.size w w' := by
  obtain ⟨va, n, vc, rfl⟩ : ∃ a n c, v = .slice a n c := by
    rcases hv with ⟨-, a, c, e, -⟩ | ⟨b, off, cp, e, -⟩
    · exact ⟨_, _, _, e⟩
    · exact ⟨_, _, _, e⟩
  have HNZ : Hid (zs.length = n) := hv.src.1.symm
  rw [HNZ.out] at hm
  obtain ⟨i0, hi, hz0, hz1, hz2⟩ := info_parts Tryd.info5b
  obtain ⟨i4, hi4, hz40, hz41, hz42⟩ := info_parts Tryd.info76b
  go_enter Tryd.func50, Tryd.ntmps50
  go_wp2_with fail
  refine (primes_any _).mono ?_
  rintro e w1 ⟨pa, pc, rfl, hp, hb1⟩
  have hs1 := hb1.size
  go_wp2_with fail
  go_loopw [4, 5, 41] (fun kv hv i wr => ∃ (j : Nat) (ka ha : Option Addr) (kc hc hn : Nat), j ≤ 64 ∧ i = .int .i64 j ∧ kv = .slice ka j kc ∧ hv = .slice ha hn hc ∧ hn = min j 8 ∧
      wr.ownsRow w1.heap.size 76 1 (.slice ka j kc) j ((kI.take j).map (Value.int .u32)) ∧ wr.ownsRow w1.heap.size 76 1 (.slice ha hn hc) hn ((hI.take hn).map (Value.int .u32)) ∧
      Sep (.slice ka j kc) (.slice ha hn hc) ∧ Below w1.heap.size w1 wr) (fun _ _ i _ => 64 - (intOf i).toNat)
  case atStart => exact ⟨0, none, none, 0, 0, 0, by omega, rfl, rfl, rfl, rfl, World.ownsRow_nil _ _ _ _, World.ownsRow_nil _ _ _ _, (fun g h => by cases h), Below.refl _ _⟩
  case round =>
    obtain ⟨j, ka, ha, kc, hc, hn, hj, rfl, rfl, rfl, hhn, hk, hh, hsep, hb⟩ := hrel
    have HN : Hid (hn = min j 8) := hhn
    clear hhn
    have hsz := hb.size
    by_cases hlt : j < 64
    · as_aux_lemma =>
      obtain ⟨pg, hpa, hpc, -, -⟩ := own_get (z := 0) hp j hlt
      subst hpa
      have hpg : pg < w1.heap.size := own_lt hp rfl
      have hpc' : wr.cell? ⟨pg, j, none⟩ = some (.int .u64 (primeL.getD j 0)) := by rw [hb.cell (p := ⟨pg, j, none⟩) hpg]; exact hpc
      have HR3 : Hid (IntKind.u32.wrap (rootTo (primeL.getD j 0) false 41) = kI.getD j 0) := root_k j hlt
      have HR2 : Hid (j < 8 → IntKind.u32.wrap (rootTo (primeL.getD j 0) true 41) = hI.getD j 0) := root_h j
      generalize primeL.getD j 0 = p at *
      have HK : Hid ((kI.take (j + 1)) = kI.take j ++ [kI.getD j 0]) := take_next kI j hlt
      have HH : Hid (j < 8 → (hI.take (j + 1)) = hI.take j ++ [hI.getD j 0]) := fun h => take_next hI j h
      clear hpc
      go_wp2_with fail
      refine (root_any p false _).mono ?_
      rintro e w2 ⟨rfl, rfl⟩
      rw [HR3.out]
      generalize kI.getD j 0 = ke at *
      obtain ⟨KL, hKL⟩ : ∃ KL, kI.take j = KL := ⟨_, rfl⟩
      obtain ⟨HL, hHL⟩ : ∃ HL, hI.take hn = HL := ⟨_, rfl⟩
      rw [hKL] at hk HK
      have HHL : Hid (hI.take hn = HL) := hHL
      rw [hHL] at hh
      clear hKL hHL
      go_wp2_with (at_builtin; refine wpList_append_lies _ rfl (.tmp 46) (.tmp 49) 121 rfl w1.heap.size 76 i4 (.int .u32 0) 1 4 Tryd.underlying121 hi4 hz40 hz41 hz42 rfl (by decide) _ _ _ rfl (hk.alloc _) ⟨w2.heap.size, 0, none⟩ 1 1 [.int .u32 ke] rfl rfl (cell_one_new _ _ _) (by intro u hu; simp at hu; subst hu; rfl) (by omega) (by unfold maxLen; omega) (by omega) (by simp; omega) (w2.heap.size + 1) (by simp) ?_)
      intro g cap w3 ho3 hg3 hat hlt3
      have hk3 : w3.ownsRow w1.heap.size 76 1 (.slice (some ⟨g, 0, none⟩) (j + 1) cap) (j + 1) ((kI.take (j + 1)).map (Value.int .u32)) := by rw [HK.out, List.map_append]; exact ho3
      have hh3 : w3.ownsRow w1.heap.size 76 1 (.slice ha hn hc) hn (HL.map (Value.int .u32)) := (hh.alloc _).kept hg3 hsep.symm.or
      have hb3 : Below w1.heap.size w1 w3 := (hb.alloc hsz _).grown hg3 (by simp; omega) (fun q h => own_block hk h)
      have hsep3 : Sep (.slice (some ⟨g, 0, none⟩) (j + 1) cap) (.slice ha hn hc) := fun q h1 h2 => by
        have hq : q = g := by simpa [Value.ownBlock] using h1.symm
        subst hq
        rcases hat with hat | hat
        · exact hsep q hat h2
        · have := own_lt hh h2
          omega
      have hsz3 := hb3.size
      clear ho3 hg3 hat hk hh hsep hb hpc'
      by_cases h8 : j < 8
      · have HR := HR2.out h8
        have hnj : hn = j := by have := HN.out; omega
        subst hnj
        go_wp2_with fail
        refine (root_any p true _).mono ?_
        rintro e w4 ⟨rfl, rfl⟩
        rw [HR]
        have HHH : Hid (hI.take (hn + 1) = HL ++ [hI.getD hn 0]) := by rw [HH.out h8, HHL.out]; rfl
        clear HR
        generalize hI.getD hn 0 = he at *
        go_wp2_with (at_builtin; refine wpList_append_lies _ rfl (.tmp 53) (.tmp 56) 121 rfl w1.heap.size 76 i4 (.int .u32 0) 1 4 Tryd.underlying121 hi4 hz40 hz41 hz42 rfl (by decide) _ _ _ rfl (hh3.alloc _) ⟨w4.heap.size, 0, none⟩ 1 1 [.int .u32 he] rfl rfl (cell_one_new _ _ _) (by intro u hu; simp at hu; subst hu; rfl) (by omega) (by unfold maxLen; omega) (by omega) (by simp; omega) (w4.heap.size + 1) (by simp) ?_)
        intro g5 cap5 w5 ho5 hg5 hat5 hlt5
        have hh5 : w5.ownsRow w1.heap.size 76 1 (.slice (some ⟨g5, 0, none⟩) (hn + 1) cap5) (hn + 1) ((hI.take (hn + 1)).map (Value.int .u32)) := by rw [HHH.out, List.map_append]; exact ho5
        have hk5 : w5.ownsRow w1.heap.size 76 1 (.slice (some ⟨g, 0, none⟩) (hn + 1) cap) (hn + 1) ((kI.take (hn + 1)).map (Value.int .u32)) := (hk3.alloc _).kept hg5 hsep3.or
        have hb5 : Below w1.heap.size w1 w5 := (hb3.alloc hsz3 _).grown hg5 (by simp; omega) (fun q h => own_block hh3 h)
        have hsep5 : Sep (.slice (some ⟨g, 0, none⟩) (hn + 1) cap) (.slice (some ⟨g5, 0, none⟩) (hn + 1) cap5) := fun q h1 h2 => by
          have hq : q = g := by simpa [Value.ownBlock] using h1.symm
          have hq5 : q = g5 := by simpa [Value.ownBlock] using h2.symm
          rcases hat5 with hat5 | hat5
          · exact hsep3 q h1 (by rw [hq5]; exact hat5)
          · omega
        clear ho5 hg5 hat5 hk3 hh3 hsep3 hb3
        go_wp2_with fail
        go_roundw
        case rel => exact ⟨hn + 1, _, _, cap, cap5, hn + 1, by omega, by go_num, rfl, rfl, by omega, hk5, hh5, hsep5, hb5⟩
        case measure => simp [intOf]; omega
      · have hhe : w3.ownsRow w1.heap.size 76 1 (.slice ha hn hc) hn ((hI.take hn).map (Value.int .u32)) := by rw [HHL.out]; exact hh3
        clear hh3
        go_wp2_with fail
        go_roundw
        case rel => exact ⟨j + 1, _, ha, cap, hc, hn, by omega, by go_num, rfl, rfl, by have := HN.out; omega, hk3, hhe, hsep3, hb3⟩
        case measure => simp [intOf]; omega
    · obtain rfl : j = 64 := by omega
      obtain rfl : hn = 8 := HN.out
      have hkA : wr.ownsRow w1.heap.size 76 1 (.slice ka 64 kc) 64 (kI.map (Value.int .u32)) := hk
      have hhA : wr.ownsRow w1.heap.size 76 1 (.slice ha 8 hc) 8 (hI.map (Value.int .u32)) := hh
      have hvr : BytesAt wr (.slice va n vc) zs := hv.below (Nat.le_refl _) (hb1.trans (hb.mono hs1))
      have hbw : Below w.heap.size w wr := hb1.trans (hb.mono hs1)
      clear hk hh hlt hj HN hp hb hb1
      obtain ⟨kg, rfl, -, -, -⟩ := own_get (z := 0) hkA 0 (by omega)
      obtain ⟨hg, rfl, -, -, hhb⟩ := own_get (z := 0) hhA 0 (by omega)
      have hkl := own_lt hkA rfl
      have hhl := own_lt hhA rfl
      have hkh : kg ≠ hg := fun e => hsep kg rfl (by rw [e]; rfl)
      clear hsep
      clear hv
      have hszw := hbw.size
      obtain ⟨W0, rfl⟩ : ∃ W0 : World, W0 = wr := ⟨_, rfl⟩
      go_wp2_with (first | (at_builtin; refine wpList_append_bytes rfl (.tmp 59) (.tmp 60) 23 rfl W0.heap.size 5 i0 (.int .u8 0) Tryd.underlying23 hi hz0 hz1 hz2 rfl _ 0 [] rfl (World.ownsRow_lit W0 #[] 0 (Nat.le_refl _) (by unfold maxLen; omega) rfl) va n vc zs rfl (hvr.below (Nat.le_refl _) ((Below.refl _ _).alloc (Nat.le_refl _) _)) (by rw [HNZ.out]; unfold maxLen; omega) (by rw [HNZ.out]; omega) (by simp) ?_; intro m1 w2 hm1 hg2; rw [List.nil_append, Nat.zero_add, HNZ.out] at hm1; have hb2 : Below W0.heap.size W0 w2 := ((Below.refl _ _).alloc (Nat.le_refl _) _).grown hg2 (by simp) (fun q h => Nat.le_of_eq (Option.some.inj h)); have hs2 := hb2.size) | (at_builtin; refine wpList_append_own _ rfl (.tmp 61) (.tmp 62) 23 rfl W0.heap.size 5 i0 (.int .u8 0) 1 1 Tryd.underlying23 hi hz0 hz1 hz2 rfl (by decide) _ _ _ rfl (hm1.alloc _) ⟨w2.heap.size, 0, none⟩ 1 1 [.int .u8 128] rfl rfl (cell_one_new _ _ _) (by intro u hu; simp at hu; subst hu; rfl) (by unfold maxLen; omega) (by omega) (by simp; omega) ?_; intro m2 w3 hm2 hg3 hxx; clear hxx))
      obtain ⟨ma, mc, hmv⟩ := own_form' hm2
      rw [hmv]
      have hb3 : Below W0.heap.size W0 w3 := (hb2.alloc hs2 _).grown hg3 (by simp; omega) (fun q h => own_block hm1 h)
      have hm3 : w3.ownsRow W0.heap.size 5 1 (.slice ma (n + 1 + 0) mc) (n + 1 + 0) ((zs ++ (128 :: List.replicate 0 0)).map (Value.int .u8)) := by rw [← hmv, List.map_append]; exact hm2
      clear hm1 hg2 hb2 hm2 hg3 hmv
      have hno : nough n < 64 := Nat.mod_lt _ (by omega)
      go_wp2_with fail
      go_loopw [8] (fun mv wr => ∃ (j : Nat) (a : Option Addr) (c : Nat), j ≤ nough n ∧ mv = .slice a (n + 1 + j) c ∧ wr.ownsRow W0.heap.size 5 1 (.slice a (n + 1 + j) c) (n + 1 + j) ((zs ++ (128 :: List.replicate j 0)).map (Value.int .u8)) ∧ Below W0.heap.size W0 wr) (fun mv _ => match mv with | .slice _ k _ => n + 1 + nough n - k | _ => 0)
      case atStart => exact ⟨0, ma, mc, Nat.zero_le _, rfl, hm3, hb3⟩
      case round =>
        clear hm3 hb3
        obtain ⟨j, a, c, hj, rfl, ho, hb⟩ := hrel
        have hat := nough_at n j hj
        have hszb := hb.size
        by_cases hlt : j < nough n
        · as_aux_lemma =>
          have hne : ((((n + 1 + j : Nat)) : Int) % 64 != 56) = true := by rw [bne_iff_ne]; omega
          obtain ⟨ML, hML⟩ : ∃ ML, zs ++ (128 :: List.replicate j 0) = ML := ⟨_, rfl⟩
          have HML : Hid (zs ++ (128 :: List.replicate (j + 1) 0) = ML ++ [0]) := by rw [← hML, List.append_assoc, List.cons_append, List.replicate_succ']; rfl
          rw [hML] at ho
          clear hML hat
          go_wp2_with (at_builtin; refine wpList_append_own _ rfl (.tmp 68) (.tmp 69) 23 rfl W0.heap.size 5 i0 (.int .u8 0) 1 1 Tryd.underlying23 hi hz0 hz1 hz2 rfl (by decide) _ _ _ rfl (ho.alloc _) ⟨wr.heap.size, 0, none⟩ 1 1 [.int .u8 0] rfl rfl (cell_one_new _ _ _) (by intro u hu; simp at hu; subst hu; rfl) (by unfold maxLen; omega) (by omega) (by simp; omega) ?_)
          intro m2 w4 hm2 hg4 hxx
          clear hxx
          obtain ⟨a2, c2, hmv⟩ := own_form' hm2
          rw [hmv]
          have hb4 : Below W0.heap.size W0 w4 := (hb.alloc hszb _).grown hg4 (by simp; omega) (fun q h => own_block ho h)
          have hm4 : w4.ownsRow W0.heap.size 5 1 (.slice a2 (n + 1 + (j + 1)) c2) (n + 1 + (j + 1)) ((zs ++ (128 :: List.replicate (j + 1) 0)).map (Value.int .u8)) := by rw [HML.out, List.map_append, ← Nat.add_assoc, ← hmv]; exact hm2
          clear hm2 hg4 hmv ho hb
          go_wp2_with fail
          go_roundw
          case rel => exact ⟨j + 1, a2, c2, by omega, rfl, hm4, hb4⟩
          case measure => simp; omega
        · obtain rfl : j = nough n := by omega
          have hne : ((((n + 1 + nough n : Nat)) : Int) % 64 != 56) = false := by rw [bne_eq_false_iff_eq]; omega
          have hnf : (((n : Int) + 1 + (nough n : Int)) % 64 != 56) = false := by rw [bne_eq_false_iff_eq]; omega
          have hp0 : wr.ownsRow W0.heap.size 5 1 (.slice a (n + 1 + nough n + 0) c) (n + 1 + nough n + 0) ((zs ++ padTo n 0).map (Value.int .u8)) := by
            have : padTo n 0 = 128 :: List.replicate (nough n) 0 := by simp [padTo]
            rw [this]; exact ho
          clear ho hat
          obtain ⟨W1, rfl⟩ : ∃ W1 : World, W1 = wr := ⟨_, rfl⟩
          go_wp2_with fail
          try rw [hnf]
          clear hne hnf
          go_loopw [8, 10] (fun mv i wr => ∃ (k : Nat) (a : Option Addr) (c : Nat), k ≤ 8 ∧ i = .int .i64 (7 - (k : Int)) ∧ mv = .slice a (n + 1 + nough n + k) c ∧ wr.ownsRow W0.heap.size 5 1 (.slice a (n + 1 + nough n + k) c) (n + 1 + nough n + k) ((zs ++ padTo n k).map (Value.int .u8)) ∧ Below W0.heap.size W0 wr) (fun _ i _ => (intOf i + 1).toNat)
          case atStart => exact ⟨0, a, c, by omega, rfl, rfl, hp0, hb⟩
          case round =>
            clear hp0 hb hszb
            obtain ⟨k, a, c, hk, rfl, rfl, ho, hb⟩ := hrel
            have hszb := hb.size
            by_cases hlt : k < 8
            · as_aux_lemma =>
              have i1 : (0 : Int) ≤ 7 - (k : Int) := by omega
              have i2 : (0 : Int) ≤ 8 * (7 - (k : Int)) := by omega
              have t1 : (8 * (7 - (k : Int))).toNat = 56 - 8 * k := by omega
              have hbb : 8 * (n : Int) / 2 ^ (56 - 8 * k) % 256 = bitsByte n k := by unfold bitsByte; rw [Int.mul_comm]
              obtain ⟨ML, hML⟩ : ∃ ML, zs ++ padTo n k = ML := ⟨_, rfl⟩
              have HML : Hid (zs ++ padTo n (k + 1) = ML ++ [bitsByte n k]) := by rw [← hML, padTo_succ, List.append_assoc]; rfl
              rw [hML] at ho
              clear hML
              generalize bitsByte n k = bb at *
              go_wp2_with (at_builtin; refine wpList_append_own _ rfl (.tmp 79) (.tmp 85) 23 rfl W0.heap.size 5 i0 (.int .u8 0) 1 1 Tryd.underlying23 hi hz0 hz1 hz2 rfl (by decide) _ _ _ rfl (ho.alloc _) ⟨wr.heap.size, 0, none⟩ 1 1 [.int .u8 bb] rfl rfl (cell_one_new _ _ _) (by intro u hu; simp at hu; subst hu; rfl) (by unfold maxLen; omega) (by omega) (by simp; omega) ?_)
              intro m2 w4 hm2 hg4 hxx
              clear hxx
              obtain ⟨a2, c2, hmv⟩ := own_form' hm2
              rw [hmv]
              have hb4 : Below W0.heap.size W0 w4 := (hb.alloc hszb _).grown hg4 (by simp; omega) (fun q h => own_block ho h)
              have hm4 : w4.ownsRow W0.heap.size 5 1 (.slice a2 (n + 1 + nough n + (k + 1)) c2) (n + 1 + nough n + (k + 1)) ((zs ++ padTo n (k + 1)).map (Value.int .u8)) := by rw [HML.out, List.map_append, ← Nat.add_assoc, ← hmv]; exact hm2
              clear hm2 hg4 hmv ho hb hbb
              go_wp2_with fail
              go_roundw
              case rel => first | exact ⟨k + 1, a2, c2, by omega, by go_num, rfl, hm4, hb4⟩ | ((repeat apply Exists.intro); refine ⟨?_, rfl⟩; exact ⟨k + 1, a2, c2, by omega, by go_num, rfl, hm4, hb4⟩)
              case measure => simp [intOf]; omega
            · obtain rfl : k = 8 := by omega
              obtain ⟨M, hM⟩ : ∃ M, zs ++ padL n = M := ⟨_, rfl⟩
              have HM : Hid (zs ++ padL n = M) := hM
              have hoM : wr.ownsRow W0.heap.size 5 1 (.slice a (n + 1 + nough n + 8) c) (n + 1 + nough n + 8) (M.map (Value.int .u8)) := by rw [← hM]; exact ho
              have hML : M.length = n + 1 + nough n + 8 := by simpa using hoM.1
              have HML : Hid (M.length = n + 1 + nough n + 8) := hML
              clear hML
              have HMB : Hid (Bytes M) := by
                intro i
                rw [← hM, List.getD_eq_getElem?_getD, List.getElem?_append]
                split
                · have := hz i; rwa [List.getD_eq_getElem?_getD] at this
                · have := pad_bytes n (i - zs.length); rwa [List.getD_eq_getElem?_getD] at this
              obtain ⟨T, hT⟩ : ∃ T, n + 1 + nough n + 8 = 64 * T := ⟨(n + 1 + nough n + 8) / 64, by unfold nough; omega⟩
              have hkB := own_below hkA hb (Nat.le_refl _)
              have hhB := own_below hhA hb (Nat.le_refl _)
              obtain ⟨mg, rfl, -, -, hmg⟩ := own_get (z := 0) hoM 0 (by omega)
              obtain ⟨N, hN⟩ : ∃ N, n + 1 + nough n + 8 = N := ⟨_, rfl⟩
              have hnN : N ≤ 140737488351400 := by omega
              rw [hN] at hoM HML hT ⊢
              have hcap : N ≤ c := by
                rcases hoM.2 with ⟨e, -⟩ | ⟨g', cap, cur, e, -, -, hle, -⟩
                · simp at e
                · simp only [Value.slice.injEq] at e
                  obtain ⟨-, -, rfl⟩ := e
                  exact hle
              have hbA : Below w.heap.size w wr := hbw.trans (hb.mono hszw)
              have hmk : kg ≠ hg ∧ mg ≠ hg := ⟨hkh, by omega⟩
              have hmgl := own_lt hoM rfl
              have hkB' : kg < wr.heap.size := by omega
              have hhB' : hg < wr.heap.size := by omega
              clear hM ho hlt hk hb hbw hkA hhA hN hkh
              obtain ⟨W2, rfl⟩ : ∃ W2 : World, W2 = wr := ⟨_, rfl⟩
              go_wp2_with fail
              go_loopw [11] (fun at' wr => ∃ t : Nat, t ≤ T ∧ at' = .int .i64 (64 * (t : Int)) ∧ wr.ownsRow w1.heap.size 76 1 (.slice (some ⟨hg, 0, none⟩) 8 hc) 8 (((stB M t).list.map U).map (Value.int .u32)) ∧ W2.grownBy wr (some hg)) (fun at' _ => (64 * (T : Int) - intOf at').toNat)
              case atStart => exact ⟨0, Nat.zero_le _, rfl, hhB, World.grownBy.refl _ _⟩
              case round =>
                obtain ⟨t, ht, rfl, hh, hgr⟩ := hrel
                clear hhB
                by_cases hlt : t < T
                · have i1 : 64 * (t : Int) < 64 * (T : Int) := by omega
                  have hoM4 : wr.ownsRow W0.heap.size 5 1 (.slice (some ⟨mg, 0, none⟩) N c) N (M.map (Value.int .u8)) := hoM.kept hgr (.inr (by simp [Value.ownBlock]; omega))
                  have hkB4 : wr.ownsRow w1.heap.size 76 1 (.slice (some ⟨kg, 0, none⟩) 64 kc) 64 (kI.map (Value.int .u32)) := hkB.kept hgr (.inr (by simp [Value.ownBlock]; omega))
                  have hs4 := hgr.size
                  obtain ⟨BL, hBL⟩ : ∃ BL, (M.drop (64 * t)).take 64 = BL := ⟨_, rfl⟩
                  have HBL : Hid ((M.drop (64 * t)).take 64 = BL) := hBL
                  have hmc : ∀ j, j < 64 → wr.cell? ⟨mg, 64 * t + j, none⟩ = some (.int .u8 (BL.getD j 0)) := fun j hj => by
                    rw [← hBL, block_get M t j hj, hoM4.cellAt (64 * t + j) (by omega), List.getElem?_map, List.getElem?_eq_getElem (by have := HML.out; omega), List.getD_eq_getElem?_getD, List.getElem?_eq_getElem (by have := HML.out; omega)]; rfl
                  have hBB : Bytes BL := fun j => by
                    by_cases hj : j < 64
                    · rw [← hBL, block_get M t j hj]; exact HMB.out _
                    · rw [← hBL, List.getD_eq_getElem?_getD, List.getElem?_take, if_neg hj]; exact ⟨by decide, by decide⟩
                  clear hBL
                  obtain ⟨W4, rfl⟩ : ∃ W4 : World, W4 = wr := ⟨_, rfl⟩
                  go_wp2_with fail
                  go_loopw [12, 13] (fun wv i wr => ∃ (j : Nat) (a : Option Addr) (c2 : Nat), j ≤ 64 ∧ i = .int .i64 j ∧ wv = .slice a j c2 ∧ wr.ownsRow W4.heap.size 76 1 (.slice a j c2) j (((schedTo BL j).map U).map (Value.int .u32)) ∧ Below W4.heap.size W4 wr) (fun _ i _ => 64 - (intOf i).toNat)
                  case atStart => exact ⟨0, none, 0, by omega, rfl, rfl, World.ownsRow_nil _ _ _ _, Below.refl _ _⟩
                  case round =>
                    obtain ⟨j, a, c2, hj, rfl, rfl, ho, hb⟩ := hrel
                    have hsb := hb.size
                    by_cases hlt6 : j < 64
                    · obtain ⟨SL, hSL⟩ : ∃ SL, schedTo BL j = SL := ⟨_, rfl⟩
                      have HSL : Hid (schedTo BL (j + 1) = SL ++ [nextW BL SL j]) := by rw [← hSL]; rfl
                      rw [hSL] at ho
                      have HLL : Hid (SL.length = j) := by rw [← hSL]; exact schedTo_length BL j
                      clear hSL
                      by_cases h16 : j < 16
                      · as_aux_lemma =>
                        have HNW : Hid (nextW BL SL j = word (BL.getD (4 * j) 0) (BL.getD (4 * j + 1) 0) (BL.getD (4 * j + 2) 0) (BL.getD (4 * j + 3) 0)) := if_pos h16
                        have hq : ∀ q, q < 4 → wr.cell? ⟨mg, 64 * t + 4 * j + q, none⟩ = some (.int .u8 (BL.getD (4 * j + q) 0)) := fun q hq => by
                          rw [hb.cell (p := ⟨mg, 64 * t + 4 * j + q, none⟩) (by show mg < _; omega), Nat.add_assoc]
                          exact hmc (4 * j + q) (by omega)
                        have hfb : ∀ q, 0 ≤ BL.getD (4 * j + q) 0 ∧ BL.getD (4 * j + q) 0 < 256 := fun q => hBB _
                        have HAW : Hid (accI (fun q => BL.getD (4 * j + q) 0) 4 = U (nextW BL SL j)) := by rw [HNW.out]; exact acc_word _ hfb
                        clear HNW
                        have e1 : 64 * (t : Int) + 4 * (j : Int) + 4 ≤ 64 * (T : Int) := by omega
                        have e2 : ¬ (c = 64 * t + 4 * j) := by omega
                        go_wp2_with fail
                        go_loop [14, 111] (fun x i => ∃ q : Nat, q ≤ 4 ∧ i = .int .i64 q ∧ x = .int .u32 (accI (fun q => BL.getD (4 * j + q) 0) q)) (fun _ i => 4 - (intOf i).toNat)
                        case atStart => exact ⟨0, by omega, rfl, rfl⟩
                        case round =>
                          obtain ⟨q, hq4, rfl, rfl⟩ := hrel
                          obtain ⟨ab0, ab1, ab2⟩ := acc_bd _ hfb q hq4
                          have HAS : Hid (accI (fun q => BL.getD (4 * j + q) 0) (q + 1) = accI (fun q => BL.getD (4 * j + q) 0) q * 256 + BL.getD (4 * j + q) 0) := rfl
                          by_cases hq5 : q < 4
                          · have hcq := hq q hq5
                            have hfq := hfb q
                            have ab3 := ab2 hq5
                            obtain ⟨hf0, hf1⟩ := hfq
                            clear hq hfb HAW hmc hBB
                            generalize accI (fun q => BL.getD (4 * j + q) 0) q = x at *
                            generalize BL.getD (4 * j + q) 0 = y at *
                            go_wp2
                            go_round
                            case rel => exact ⟨q + 1, by omega, by go_num, by rw [HAS.out]⟩
                            case measure => simp [intOf]; omega
                          · obtain rfl : q = 4 := by omega
                            rw [HAW.out]
                            clear hq hfb hmc ab0 ab1 ab2 HAS
                            generalize nextW BL SL j = nx at *
                            have HMS : Hid (((schedTo BL (j + 1)).map U).map (Value.int .u32) = (SL.map U).map (Value.int .u32) ++ [.int .u32 (U nx)]) := by rw [HSL.out, List.map_append, List.map_append]; rfl
                            obtain ⟨SV, hSV⟩ : ∃ SV, (SL.map U).map (Value.int .u32) = SV := ⟨_, rfl⟩
                            rw [hSV] at ho HMS
                            clear hSV HAW
                            go_wp2_with (at_builtin; refine wpList_append_own _ rfl (.tmp 121) (.tmp 123) 121 rfl W4.heap.size 76 i4 (.int .u32 0) 1 4 Tryd.underlying121 hi4 hz40 hz41 hz42 rfl (by decide) _ _ _ rfl (ho.alloc _) ⟨wr.heap.size, 0, none⟩ 1 1 [.int .u32 (U nx)] rfl rfl (cell_one_new _ _ _) (by intro u hu; simp at hu; subst hu; rfl) (by unfold maxLen; omega) (by omega) (by simp; omega) ?_)
                            intro v5 w5 ho5 hg5 hxx
                            clear hxx
                            obtain ⟨a5, c5, hv5⟩ := own_form' ho5
                            rw [hv5]
                            have hb5 : Below W4.heap.size W4 w5 := (hb.alloc hsb _).grown hg5 (by simp; omega) (fun q h => own_block ho h)
                            have ho6 : w5.ownsRow W4.heap.size 76 1 (.slice a5 (j + 1) c5) (j + 1) (((schedTo BL (j + 1)).map U).map (Value.int .u32)) := by rw [HMS.out, ← hv5]; exact ho5
                            clear ho5 hg5 hv5 ho hb HMS HSL
                            go_wp2_with fail
                            go_roundw
                            case rel => first | exact ⟨j + 1, a5, c5, by omega, by go_num, rfl, ho6, hb5⟩ | ((repeat apply Exists.intro); refine ⟨?_, rfl⟩; exact ⟨j + 1, a5, c5, by omega, by go_num, rfl, ho6, hb5⟩)
                            case measure => simp [intOf]; omega
                      · as_aux_lemma =>
                        obtain ⟨g, rfl, -, -, -⟩ := own_get (α := Int) (z := 0) ho 0 (by omega)
                        have HNW : Hid (nextW BL SL j = ps1 (SL.getD (j - 2) 0) + SL.getD (j - 7) 0 + ps0 (SL.getD (j - 15) 0) + SL.getD (j - 16) 0) := if_neg h16
                        have hcl : ∀ q, q < j → wr.cell? ⟨g, q, none⟩ = some (.int .u32 (U (SL.getD q 0))) := own_words ho
                        have x0 := hcl (j - 15) (by omega)
                        have x1 := hcl (j - 2) (by omega)
                        have x2 := hcl (j - 16) (by omega)
                        have x3 := hcl (j - 7) (by omega)
                        have hgl : g < wr.heap.size := own_lt ho rfl
                        clear hcl hmc hBB
                        generalize nextW BL SL j = nx at *
                        have HMS : Hid (((schedTo BL (j + 1)).map U).map (Value.int .u32) = (SL.map U).map (Value.int .u32) ++ [.int .u32 (U nx)]) := by rw [HSL.out, List.map_append, List.map_append]; rfl
                        obtain ⟨SV, hSV⟩ : ∃ SV, (SL.map U).map (Value.int .u32) = SV := ⟨_, rfl⟩
                        rw [hSV] at ho HMS
                        clear hSV
                        generalize SL.getD (j - 15) 0 = z0 at *
                        generalize SL.getD (j - 2) 0 = z1 at *
                        generalize SL.getD (j - 16) 0 = z2 at *
                        generalize SL.getD (j - 7) 0 = z3 at *
                        have HNX : Hid (U (z2 + ps0 z0 + z3 + ps1 z1) = U nx) := by
                          rw [HNW.out]
                          congr 1
                          ac_rfl
                        clear HNW
                        have l1 : (15 : Int) ≤ (j : Int) := by omega
                        have l2 : (2 : Int) ≤ (j : Int) := by omega
                        have l3 : (16 : Int) ≤ (j : Int) := by omega
                        have l4 : (7 : Int) ≤ (j : Int) := by omega
                        have b1 : (j : Int) - 15 < (j : Int) := by omega
                        have b2 : (j : Int) - 2 < (j : Int) := by omega
                        have b3 : (j : Int) - 16 < (j : Int) := by omega
                        have b4 : (j : Int) - 7 < (j : Int) := by omega
                        have e1 : IntKind.i64.wrap ((j : Int) - 15) = (j : Int) - 15 := by rw [IntKind.wrap_i64]; omega
                        have e2 : IntKind.i64.wrap ((j : Int) - 2) = (j : Int) - 2 := by rw [IntKind.wrap_i64]; omega
                        have e3 : IntKind.i64.wrap ((j : Int) - 16) = (j : Int) - 16 := by rw [IntKind.wrap_i64]; omega
                        have e4 : IntKind.i64.wrap ((j : Int) - 7) = (j : Int) - 7 := by rw [IntKind.wrap_i64]; omega
                        have t1 : ((j : Int) - 15).toNat = j - 15 := by omega
                        have t2 : ((j : Int) - 2).toNat = j - 2 := by omega
                        have t3 : ((j : Int) - 16).toNat = j - 16 := by omega
                        have t4 : ((j : Int) - 7).toNat = j - 7 := by omega
                        go_wp2_with fail
                        go_quiet (fail)
                        go_wp2_with fail
                        obtain ⟨W5, hW5⟩ : ∃ W5, W5 = wr.drewN nq := ⟨_, rfl⟩
                        have y2 : W5.cell? ⟨g, j - 16, none⟩ = some (.int .u32 (U z2)) := by rw [hW5]; exact x2
                        have y3 : W5.cell? ⟨g, j - 7, none⟩ = some (.int .u32 (U z3)) := by rw [hW5]; exact x3
                        have ho5 : W5.ownsRow W4.heap.size 76 1 (.slice (some ⟨g, 0, none⟩) j c2) j SV := by rw [hW5]; exact ho
                        have hb5 : Below W4.heap.size W4 W5 := by rw [hW5]; exact below_drewN hb nq
                        have hs5 : W4.heap.size ≤ W5.heap.size := hb5.size
                        have hg5 : g < W5.heap.size := own_lt ho5 rfl
                        have hgne : ¬ (W5.heap.size = g) := by omega
                        refine cast_world (w2 := W5) hW5 ?_
                        clear hW5 x0 x1 x2 x3 ho hb hsb hgl l1 l2 b1 b2 e1 e2 t1 t2
                        have u0 := U_wadd
                        have u1 := U_xor
                        have u2 : bits .xor .u32 (U (rotr z0 7 ^^^ rotr z0 18)) (U z0 / 8) = U (ps0 z0) := by
                          have e : U z0 / (8 : Int) = U (z0 >>> 3) := U_shr z0 3
                          rw [e, U_xor]; rfl
                        have u3 : bits .xor .u32 (U (rotr z1 17 ^^^ rotr z1 19)) (U z1 / 1024) = U (ps1 z1) := by
                          have e : U z1 / (1024 : Int) = U (z1 >>> 10) := U_shr z1 10
                          rw [e, U_xor]; rfl
                        have u4 := HNX.out
                        go_region_held3 (fun w' => w'.cell? ⟨g, j - 16, none⟩ = some (.int .u32 (U z2)) ∧ w'.cell? ⟨g, j - 7, none⟩ = some (.int .u32 (U z3))) (first | (go_keep; done) | exact ⟨y2, y3⟩ | exact ⟨(hk6 g (j - 16) rfl (by omega)).trans (by simp [*]), (hk6 g (j - 7) rfl (by omega)).trans (by simp [*])⟩) (first | (go_at_call 81; refine (turn_any _ _ _ (by omega) (by omega)).mono ?_; rintro e w' ⟨rfl, q, rfl⟩) | (refine step_append_kept _ rfl (.tmp 135) (.tmp 165) 121 rfl W4.heap.size 76 i4 (.int .u32 0) 4 Tryd.underlying121 hi4 hz40 hz41 hz42 rfl _ _ _ rfl (World.ownsRow.alloc (by exact ho5) _) _ 1 1 [.int .u32 (U nx)] rfl rfl (cell_one_new _ _ _) (by intro u hu; simp at hu; subst hu; rfl) (by unfold maxLen; omega) (by omega) (by simp; omega) ?_; intro v6 w6 ho6 hg6 hk6))
                        obtain ⟨a6, c6, hv6⟩ := own_form' ho6
                        have hb6 : Below W4.heap.size W4 w6 := Below.grown (Below.alloc (below_drewN hb5 _) (by exact hs5) _) hg6 (by simp; omega) (fun q h => own_block ho5 h)
                        have ho7 : w6.ownsRow W4.heap.size 76 1 (.slice a6 (j + 1) c6) (j + 1) (((schedTo BL (j + 1)).map U).map (Value.int .u32)) := by rw [HMS.out, ← hv6]; exact ho6
                        rw [hv6]
                        clear ho6 hg6 hk6 hv6 ho5 hb5 u0 u1 u2 u3 u4 y2 y3
                        go_wp2_with fail
                        go_roundw
                        case rel => first | exact ⟨j + 1, a6, c6, by omega, by go_num, rfl, ho7, hb6⟩ | ((repeat apply Exists.intro); refine ⟨?_, rfl⟩; exact ⟨j + 1, a6, c6, by omega, by go_num, rfl, ho7, hb6⟩)
                        case measure => simp [intOf]; omega
                    · obtain rfl : j = 64 := by omega
                      obtain ⟨sg, rfl, -, -, hsg⟩ := own_get (α := Int) (z := 0) ho 0 (by omega)
                      have hS64 := schedTo_length BL 64
                      obtain ⟨SL, hSL⟩ : ∃ SL, schedTo BL 64 = SL := ⟨_, rfl⟩
                      have HSL : Hid (schedTo BL 64 = SL) := hSL
                      rw [hSL] at ho hS64
                      have hsc : ∀ q, q < 64 → wr.cell? ⟨sg, q, none⟩ = some (.int .u32 (U (SL.getD q 0))) := own_words ho
                      have hkc : ∀ q, q < 64 → wr.cell? ⟨kg, q, none⟩ = some (.int .u32 (U (kw.getD q 0))) := kI_words (own_below hkB4 hb (Nat.le_refl _))
                      have hhw : wr.ownsRow w1.heap.size 76 1 (.slice (some ⟨hg, 0, none⟩) 8 hc) 8 (((stB M t).list.map U).map (Value.int .u32)) := own_below hh hb (Nat.le_refl _)
                      obtain ⟨s, hs⟩ : ∃ s, stB M t = s := ⟨_, rfl⟩
                      have HS : Hid (stB M t = s) := hs
                      rw [hs] at hhw
                      have p0 : wr.cell? ⟨hg, 0, none⟩ = some (.int .u32 (U s.a)) := own_words hhw 0 (by omega)
                      have p1 : wr.cell? ⟨hg, 1, none⟩ = some (.int .u32 (U s.b)) := own_words hhw 1 (by omega)
                      have p2 : wr.cell? ⟨hg, 2, none⟩ = some (.int .u32 (U s.c)) := own_words hhw 2 (by omega)
                      have p3 : wr.cell? ⟨hg, 3, none⟩ = some (.int .u32 (U s.d)) := own_words hhw 3 (by omega)
                      have p4 : wr.cell? ⟨hg, 4, none⟩ = some (.int .u32 (U s.e)) := own_words hhw 4 (by omega)
                      have p5 : wr.cell? ⟨hg, 5, none⟩ = some (.int .u32 (U s.f)) := own_words hhw 5 (by omega)
                      have p6 : wr.cell? ⟨hg, 6, none⟩ = some (.int .u32 (U s.g)) := own_words hhw 6 (by omega)
                      have p7 : wr.cell? ⟨hg, 7, none⟩ = some (.int .u32 (U s.h)) := own_words hhw 7 (by omega)
                      have hsgr : W2.grownBy wr (some hg) := grownBy_trans hgr (grownBy_below hb)
                      clear hs hSL hlt6 hj hmc hBB ho hkB4 hoM4 hS64
                      obtain ⟨W7, rfl⟩ : ∃ W7 : World, W7 = wr := ⟨_, rfl⟩
                      go_wp2_with fail
                      go_quiet (fail)
                      go_wp2_with fail
                      go_quiet (fail)
                      go_wp2_with fail
                      go_loopw [19, 20, 21, 22, 23, 24, 25, 26, 27] (fun a b c d e f g h i wr => ∃ (k : Nat) (r : St), k ≤ 64 ∧ Hid (r = s.rounds SL k) ∧ i = .int .i64 k ∧ a = .int .u32 (U r.a) ∧ b = .int .u32 (U r.b) ∧ c = .int .u32 (U r.c) ∧ d = .int .u32 (U r.d) ∧
                          e = .int .u32 (U r.e) ∧ f = .int .u32 (U r.f) ∧ g = .int .u32 (U r.g) ∧ h = .int .u32 (U r.h) ∧ Dr W7 wr) (fun _ _ _ _ _ _ _ _ i _ => 64 - (intOf i).toNat)
                      case atStart => exact ⟨0, s, by omega, rfl, rfl, rfl, rfl, rfl, rfl, rfl, rfl, rfl, rfl, Dr.step (Dr.step ⟨0, rfl⟩ _) _⟩
                      case round =>
                        obtain ⟨k, r, hk, HR, rfl, rfl, rfl, rfl, rfl, rfl, rfl, rfl, rfl, HQ⟩ := hrel
                        by_cases hlt7 : k < 64
                        · as_aux_lemma =>
                          have hx1 : wr.cell? ⟨sg, k, none⟩ = some (.int .u32 (U (SL.getD k 0))) := by obtain ⟨q, e⟩ := HQ; rw [e]; exact hsc k hlt7
                          have hk1 : wr.cell? ⟨kg, k, none⟩ = some (.int .u32 (U (kw.getD k 0))) := by obtain ⟨q, e⟩ := HQ; rw [e]; exact hkc k hlt7
                          have HN : Hid (r.round (kw.getD k 0) (SL.getD k 0) = s.rounds SL (k + 1)) := by rw [HR.out]; rfl
                          generalize kw.getD k 0 = kv at *
                          generalize SL.getD k 0 = xv at *
                          clear HR hsc hkc p0 p1 p2 p3 p4 p5 p6 p7
                          have i7 : (k : Int) < 64 := by omega
                          have i8 : (0 : Int) ≤ (k : Int) := by omega
                          have u0 := U_wadd
                          have u1 := U_add
                          have u2 := U_and
                          have u3 := U_xor
                          have u4 := U_or
                          have u5 := U_andNot
                          have u6 := choose_eq r.e r.f r.g
                          have u7 := most_eq r.a r.b r.c
                          have u8 := U_add3
                          have u9 := U_add4
                          go_wp2_with fail
                          go_quiet (first | (go_at_call_of 81 (Value.int IntKind.i64 6); exact Calls.quiet_of (turn_any r.e 6 _ (by omega) (by omega))) | (go_at_call_of 81 (Value.int IntKind.i64 11); exact Calls.quiet_of (turn_any r.e 11 _ (by omega) (by omega))) | (go_at_call_of 81 (Value.int IntKind.i64 25); exact Calls.quiet_of (turn_any r.e 25 _ (by omega) (by omega))))
                          go_wp2_with (go_at_call 81; refine (turn_any _ _ _ (by omega) (by omega)).mono ?_; rintro e w' ⟨rfl, q, rfl⟩)
                          go_roundw
                          case rel =>
                            clear u0 u1 u2 u3 u4 u5 u6 u7 u8 u9
                            have HD : ∀ x, Dr W7 x → Dr W7 x := fun _ h => h
                            first | exact ⟨k + 1, r.round kv xv, by omega, HN, by go_num, rfl, rfl, rfl, rfl, rfl, rfl, rfl, rfl, by repeat (first | exact HQ | refine Dr.step ?_ _)⟩ | ((repeat apply Exists.intro); refine ⟨?_, rfl⟩; exact ⟨k + 1, r.round kv xv, by omega, HN, by go_num, rfl, rfl, rfl, rfl, rfl, rfl, rfl, rfl, by repeat (first | exact HQ | refine Dr.step ?_ _)⟩)
                          case measure => simp [intOf]; omega
                        · have hk64 : k = 64 := by omega
                          have HT : Hid (s.add r = stB M (t + 1)) := block_next hk64 HBL.out HSL.out HS.out HR.out
                          clear HR
                          subst hk64
                          have hh8 : wr.ownsRow w1.heap.size 76 1 (.slice (some ⟨hg, 0, none⟩) 8 hc) 8 ((s.list.map U).map (Value.int .u32)) := by obtain ⟨q, e⟩ := HQ; rw [e]; exact hhw
                          have hg8 : W2.grownBy wr (some hg) := by obtain ⟨q, e⟩ := HQ; rw [e]; exact grownBy_trans hsgr ⟨rfl, rfl, rfl, Nat.le_refl _, fun _ _ _ => rfl⟩
                          clear HQ hsc hkc p0 p1 p2 p3 p4 p5 p6 p7 hhw hsgr hlt7 hk
                          obtain ⟨W8, rfl⟩ : ∃ W8 : World, W8 = wr := ⟨_, rfl⟩
                          have hs8 : W2.heap.size ≤ W8.heap.size := hg8.size
                          have hne : hg ≠ W8.heap.size := by omega
                          go_wp2_with fail
                          go_loopw [267] (fun i wr => ∃ (k : Nat), k ≤ 8 ∧ i = .int .i64 k ∧ (∀ q, q < 8 → wr.cell? ⟨W8.heap.size, q, none⟩ = some (.int .u32 (U (r.list.getD q 0)))) ∧
                              wr.ownsRow w1.heap.size 76 1 (.slice (some ⟨hg, 0, none⟩) 8 hc) 8 (((((s.add r).list.take k) ++ s.list.drop k).map U).map (Value.int .u32)) ∧ W2.grownBy wr (some hg)) (fun i _ => 8 - (intOf i).toNat)
                          case atStart => exact ⟨0, by omega, rfl, list_cells _ r _, hh8.alloc _, grownBy_trans hg8 (World.grownBy_alloc _ _ _)⟩
                          case round =>
                            clear hh8 hg8
                            obtain ⟨k, hk, rfl, xq, hh9, hg9⟩ := hrel
                            by_cases hk8 : k < 8
                            · have xk := xq k hk8
                              have hkk : wr.cell? ⟨hg, k, none⟩ = some (.int .u32 (U (s.list.getD k 0))) := mid_cell hk8 hh9
                              have hkf : wr.frozen? ⟨hg, k, none⟩ = false := hh9.frozenAt k
                              have hst := add_step hk8 hne xq hh9 hg9
                              clear xq
                              generalize s.list.getD k 0 = sa at *
                              generalize r.list.getD k 0 = ra at *
                              have HST : Hid ((∀ q, q < 8 → (wr.setCell ⟨hg, k, none⟩ (.int .u32 (U (sa + ra)))).cell? ⟨W8.heap.size, q, none⟩ = some (.int .u32 (U (r.list.getD q 0)))) ∧
                                  (wr.setCell ⟨hg, k, none⟩ (.int .u32 (U (sa + ra)))).ownsRow w1.heap.size 76 1 (.slice (some ⟨hg, 0, none⟩) 8 hc) 8 (((((s.add r).list.take (k + 1)) ++ s.list.drop (k + 1)).map U).map (Value.int .u32)) ∧
                                  W2.grownBy (wr.setCell ⟨hg, k, none⟩ (.int .u32 (U (sa + ra)))) (some hg)) := hst
                              clear hst hh9 hg9
                              have i1 : (k : Int) < 8 := by omega
                              have i2 : (0 : Int) ≤ (k : Int) := by omega
                              have u0 := U_wadd
                              have u1 := U_add
                              go_wp2_with fail
                              go_roundw
                              case rel => first | exact ⟨k + 1, by omega, by go_num, HST.out.1, HST.out.2.1, HST.out.2.2⟩ | ((repeat apply Exists.intro); refine ⟨?_, rfl⟩; exact ⟨k + 1, by omega, by go_num, HST.out.1, HST.out.2.1, HST.out.2.2⟩)
                              case measure => simp [intOf]; omega
                            · obtain rfl : k = 8 := by omega
                              have hhf : wr.ownsRow w1.heap.size 76 1 (.slice (some ⟨hg, 0, none⟩) 8 hc) 8 (((stB M (t + 1)).list.map U).map (Value.int .u32)) := mid_all HT.out hh9
                              clear hh9 xq
                              go_wp2_with fail
                              go_roundw
                              case rel => first | exact ⟨t + 1, by omega, by go_num, hhf, hg9⟩ | ((repeat apply Exists.intro); refine ⟨?_, rfl⟩; exact ⟨t + 1, by omega, by go_num, hhf, hg9⟩)
                              case measure => simp [intOf]; omega
                · as_aux_lemma =>
                  obtain rfl : t = T := by omega
                  have HMM : Hid (shaL zs = (stB M t).out) := by
                    have h1 := HML.out
                    have h2 := HM.out
                    rw [← HNZ.out] at h2
                    rw [← h2]
                    exact shaL_blocks zs t (by rw [h2]; omega)
                  obtain ⟨s, hs⟩ : ∃ s, stB M t = s := ⟨_, rfl⟩
                  rw [hs] at hh HMM
                  have hbZ : Below w.heap.size w wr := hbA.grown hgr (by omega) (fun q h => by cases h; omega)
                  clear hs hlt ht hgr hkB hoM
                  have hsZ := hbZ.size
                  have hgl9 := own_lt hh rfl
                  obtain ⟨W9, rfl⟩ : ∃ W9 : World, W9 = wr := ⟨_, rfl⟩
                  go_wp2_with fail
                  go_loopw [34, 284] (fun ov i wr => ∃ (k : Nat) (a : Option Addr) (c : Nat), k ≤ 8 ∧ i = .int .i64 k ∧ ov = .slice a (4 * k) c ∧ wr.ownsRow W9.heap.size 5 1 (.slice a (4 * k) c) (4 * k) ((s.outTo k).map (Value.int .u8)) ∧ Below W9.heap.size W9 wr) (fun _ i _ => 8 - (intOf i).toNat)
                  case atStart => exact ⟨0, none, 0, by omega, rfl, rfl, World.ownsRow_nil _ _ _ _, Below.refl _ _⟩
                  case round =>
                    obtain ⟨k, a, c9, hk, rfl, rfl, ho, hb⟩ := hrel
                    have hsb := hb.size
                    by_cases hk8 : k < 8
                    · have hkk : wr.cell? ⟨hg, k, none⟩ = some (.int .u32 (U (s.list.getD k 0))) := by
                        rw [hb.cell (p := ⟨hg, k, none⟩) hgl9]; exact own_words hh k hk8
                      have HO : Hid (s.outTo (k + 1) = s.outTo k ++ byte4 (s.list.getD k 0)) := outTo_succ s k hk8
                      generalize s.list.getD k 0 = x at *
                      obtain ⟨OL, hOL⟩ : ∃ OL, s.outTo k = OL := ⟨_, rfl⟩
                      rw [hOL] at ho HO
                      have ho0 : wr.ownsRow W9.heap.size 5 1 (.slice a (4 * k) c9) (4 * k + 0) ((OL ++ (byte4 x).take 0).map (Value.int .u8)) := by rw [List.take_zero, List.append_nil]; exact ho
                      clear hOL
                      have i1 : (k : Int) < 8 := by omega
                      go_wp2_with fail
                      go_loopw [34, 37] (fun ov i wr => ∃ (e : Nat) (a : Option Addr) (c : Nat), e ≤ 4 ∧ i = .int .i64 (3 - (e : Int)) ∧ ov = .slice a (4 * k + e) c ∧ wr.ownsRow W9.heap.size 5 1 (.slice a (4 * k + e) c) (4 * k + e) ((OL ++ (byte4 x).take e).map (Value.int .u8)) ∧ Below W9.heap.size W9 wr) (fun _ i _ => (intOf i + 1).toNat)
                      case atStart => exact ⟨0, a, c9, by omega, rfl, rfl, ho0, hb⟩
                      case round =>
                        clear ho ho0 hb hkk hsb
                        obtain ⟨e, a, c10, he, rfl, rfl, ho, hb⟩ := hrel
                        have hsb := hb.size
                        by_cases he4 : e < 4
                        · have i2 : (0 : Int) ≤ 3 - (e : Int) := by omega
                          have i3 : (0 : Int) ≤ 8 * (3 - (e : Int)) := by omega
                          have t1 : (8 * (3 - (e : Int))).toNat = 24 - 8 * e := by omega
                          obtain ⟨bb, hbb⟩ : ∃ bb, U x / 2 ^ (24 - 8 * e) % 256 = bb := ⟨_, rfl⟩
                          have HBT : Hid ((byte4 x).take (e + 1) = (byte4 x).take e ++ [bb]) := by rw [← hbb]; exact byte_take x e he4
                          obtain ⟨PL, hPL⟩ : ∃ PL, OL ++ (byte4 x).take e = PL := ⟨_, rfl⟩
                          have HPL0 : OL ++ (byte4 x).take (e + 1) = PL ++ [bb] := by rw [HBT.out, ← List.append_assoc, hPL]
                          have HPL : Hid (OL ++ (byte4 x).take (e + 1) = PL ++ [bb]) := HPL0
                          clear HPL0
                          rw [hPL] at ho
                          clear hPL HBT
                          go_wp2_with (at_builtin; refine wpList_append_own _ rfl (.tmp 292) (.tmp 298) 23 rfl W9.heap.size 5 i0 (.int .u8 0) 1 1 Tryd.underlying23 hi hz0 hz1 hz2 rfl (by decide) _ _ _ rfl (ho.alloc _) ⟨wr.heap.size, 0, none⟩ 1 1 [.int .u8 bb] rfl rfl (cell_one_new _ _ _) (by intro u hu; simp at hu; subst hu; rfl) (by unfold maxLen; omega) (by omega) (by simp; omega) ?_)
                          intro m2 w4 hm2 hg4 hxx
                          clear hxx
                          obtain ⟨a2, c2, hmv⟩ := own_form' hm2
                          rw [hmv]
                          have hb4 : Below W9.heap.size W9 w4 := (hb.alloc hsb _).grown hg4 (by simp; omega) (fun q h => own_block ho h)
                          have hm4 : w4.ownsRow W9.heap.size 5 1 (.slice a2 (4 * k + (e + 1)) c2) (4 * k + (e + 1)) ((OL ++ (byte4 x).take (e + 1)).map (Value.int .u8)) := by rw [HPL.out, List.map_append, ← Nat.add_assoc, ← hmv]; exact hm2
                          clear hm2 hg4 hmv ho hb hbb
                          go_wp2_with fail
                          go_roundw
                          case rel => first | exact ⟨e + 1, a2, c2, by omega, by go_num, rfl, hm4, hb4⟩ | ((repeat apply Exists.intro); refine ⟨?_, rfl⟩; exact ⟨e + 1, a2, c2, by omega, by go_num, rfl, hm4, hb4⟩)
                          case measure => simp [intOf]; omega
                        · obtain rfl : e = 4 := by omega
                          have ho9 : wr.ownsRow W9.heap.size 5 1 (.slice a (4 * k + 4) c10) (4 * k + 4) ((s.outTo (k + 1)).map (Value.int .u8)) := by rw [HO.out]; exact ho
                          clear ho
                          go_wp2_with fail
                          go_roundw
                          case rel => first | exact ⟨k + 1, a, c10, by omega, by go_num, rfl, ho9, hb⟩ | ((repeat apply Exists.intro); refine ⟨?_, rfl⟩; exact ⟨k + 1, a, c10, by omega, by go_num, rfl, ho9, hb⟩)
                          case measure => simp [intOf]; omega
                    · obtain rfl : k = 8 := by omega
                      have hoZ : wr.ownsRow w.heap.size 5 1 (.slice a 32 c9) 32 ((shaL zs).map (Value.int .u8)) := by rw [HMM.out]; exact ownsRow_base ho hsZ
                      have hbE : Below w.heap.size w wr := hbZ.trans (hb.mono hsZ)
                      clear ho hb
                      go_wp2_with fail
                      go_ret
                      exact ⟨_, rfl, hoZ, hbE⟩

end Go.Proofs.YtkjlchfmplcobadDoor
