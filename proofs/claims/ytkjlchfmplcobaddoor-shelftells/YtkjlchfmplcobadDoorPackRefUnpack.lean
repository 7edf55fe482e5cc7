/- The walk of yearref4.Unpack: what the document says that bytes unpack to. -/
import Derived.Test.YtkjlchfmplcobadDoorProg
import Derived.Test.YtkjlchfmplcobadDoorRunAH
import Derived.Test.YtkjlchfmplcobadDoorPackRefTokens
import Derived.Test.YtkjlchfmplcobadDoorRunAI
import Derived.WalkKit
import Derived.WalkSpells
import Derived.WalkLawsBesides
import Derived.Deep.RegionHeld3
import Derived.BigRegion
import Derived.Deep.QuietTactic
import Derived.BigQuiet
namespace Go.Proofs.YtkjlchfmplcobadDoor
open Go.RowKit

theorem unGo_nof {b : List Int} {size : Nat} {out : List Int} {a f : Nat} (h : out.length < size) (ha : ¬ a < b.length) : unGo b size out a f 0 = none := by
  rw [unGo, dif_pos h, if_pos ⟨rfl, ha⟩]
theorem unGo_nob {b : List Int} {size : Nat} {out : List Int} {a f l : Nat} (h : out.length < size) (hl : l ≠ 0) (hf : f % 2 = 0) (ha : ¬ a < b.length) : unGo b size out a f l = none := by
  rw [unGo, dif_pos h, if_neg (fun e => hl e.1)]
  simp only [if_neg hl]
  rw [if_pos hf, if_neg ha]
theorem unGo_nom {b : List Int} {size : Nat} {out : List Int} {a f l : Nat} (h : out.length < size) (hl : l ≠ 0) (hf : f % 2 ≠ 0) (ha : ¬ a + 1 < b.length) : unGo b size out a f l = none := by
  rw [unGo, dif_pos h, if_neg (fun e => hl e.1)]
  simp only [if_neg hl]
  rw [if_neg hf, if_neg ha]
theorem unGo_nox {b : List Int} {size : Nat} {out : List Int} {a f l : Nat} (h : out.length < size) (hl : l ≠ 0) (hf : f % 2 ≠ 0) (ha : a + 1 < b.length) (hx : out.length < (256 * b.getD a 0 + b.getD (a + 1) 0).toNat % 1024 + 1) : unGo b size out a f l = none := by
  rw [unGo, dif_pos h, if_neg (fun e => hl e.1)]
  simp only [if_neg hl]
  rw [if_neg hf, if_pos ha, if_pos hx]
/-- What Unpack says, of how it ended. -/
def unEnd (b : List Int) (size : Nat) : Option (List Int × Nat × Nat) → List Int × Int
  | none => ([], 2)
  | some (out, a, f) => if a ≠ b.length ∨ out.length ≠ size ∨ f ≠ 0 then ([], 2) else (out, 0)
theorem unpackL_go {b : List Int} (h2 : ¬ b.length < 2) (h4 : ¬ 4000 < (256 * b.getD 0 0 + b.getD 1 0).toNat) : unpackL b = unEnd b (256 * b.getD 0 0 + b.getD 1 0).toNat (unGo b (256 * b.getD 0 0 + b.getD 1 0).toNat [] 2 0 0) := by
  unfold unpackL
  rw [if_neg h2, if_neg h4]
  cases unGo b (256 * b.getD 0 0 + b.getD 1 0).toNat [] 2 0 0 with
  | none => rfl
  | some q => obtain ⟨o, a, f⟩ := q; rfl

def lenV : Value → Nat
  | .slice _ n _ => n
  | _ => 0
@[simp] theorem lenV_slice (a : Option Addr) (n c : Nat) : lenV (.slice a n c) = n := rfl
set_option maxRecDepth 100000 in
set_option maxHeartbeats 8000000 in
theorem refUnpackO_any (b : List Int) (bv : Value) (w : World) (hb : Some' w bv b) :
    Calls Tryd.prog 33 #[bv] w fun e w' => ∃ v, e = .returned (.tuple #[v, .int .i64 (unpackL b).2]) ∧ w'.ownsRow w.heap.size 5 1 v (unpackL b).1.length ((unpackL b).1.map (Value.int .u8)) ∧ Below w.heap.size w w' := by
  obtain ⟨i0, hi0, hz0, hz1, hz2⟩ := info_parts Tryd.info5b
  have hsh := hb.short
  unfold maxLen at hsh
  have hbz := hb.bytes
  obtain ⟨ba, bc, eb⟩ := hb.at'.form
  subst eb
  by_cases h2 : b.length < 2
  · have HU : Hid (unpackL b = ([], 2)) := by show _ = _; unfold unpackL; rw [if_pos h2]
    have h2' : (b.length : Int) < 2 := by omega
    clear hb hbz
    generalize b.length = n at *
    go_enter Tryd.func33, Tryd.ntmps33
    go_wp2_with fail
    exact bodyPost_ret (v := .tuple #[.slice none 0 0, .int .i64 2]) (by simp [results, Tryd.results33, go_sem]) rfl ⟨_, by rw [HU.out], by rw [HU.out]; exact World.ownsRow_nil _ _ _ _, Below.refl _ _⟩
  · have hcell : ∃ g o, ba = some ⟨g, o, none⟩ ∧ g < w.heap.size ∧ ∀ j, j < b.length → w.cell? ⟨g, o + j, none⟩ = some (.int .u8 (b.getD j 0)) := by
      rcases hb.at' with ⟨e, -⟩ | ⟨g, o, c, e, h1, h2⟩
      · rw [e] at h2; simp at h2
      · cases e; exact ⟨g, o, rfl, h1, h2⟩
    obtain ⟨g, o, rfl, hg, hcell⟩ := hcell
    have h2' : ¬ (b.length : Int) < 2 := by omega
    have hc0 := hcell 0 (by omega)
    have hc1 := hcell 1 (by omega)
    rw [Nat.add_zero] at hc0
    have hz0' := hbz 0
    have hz1' := hbz 1
    obtain ⟨s0, Hs0⟩ : ∃ s, Hid (b.getD 0 0 = s) := ⟨_, rfl⟩
    obtain ⟨s1, Hs1⟩ : ∃ s, Hid (b.getD 1 0 = s) := ⟨_, rfl⟩
    rw [Hs0.out] at hc0 hz0'
    rw [Hs1.out] at hc1 hz1'
    have hl1 : (1 : Int) < b.length := by omega
    have hl0 : (0 : Int) < b.length := by omega
    have hw1 : IntKind.i64.wrap (256 * s0) = 256 * s0 := by rw [IntKind.wrap_i64]; omega
    have hw2 : IntKind.i64.wrap (256 * s0 + s1) = 256 * s0 + s1 := by rw [IntKind.wrap_i64]; omega
    have hw3 : IntKind.i64.wrap s0 = s0 := by rw [IntKind.wrap_i64]; omega
    have hw4 : IntKind.i64.wrap s1 = s1 := by rw [IntKind.wrap_i64]; omega
    have HUL := fun h4 => unpackL_go (b := b) h2 h4
    rw [Hs0.out, Hs1.out] at HUL
    have HU4 : Hid (4000 < (256 * s0 + s1).toNat → unpackL b = ([], 4)) := fun h => by
      unfold unpackL
      rw [if_neg h2, Hs0.out, Hs1.out, if_pos h]
    have HULh : Hid _ := HUL
    clear HUL
    go_enter Tryd.func33, Tryd.ntmps33
    go_wp2_with fail
    go_quiet (fail)
    have b0 : Below w.heap.size w (w.drewN nq) := below_drewN' (Below.refl _ _) _
    have hcr : ∀ j, j < b.length → ∀ w', Below w.heap.size w w' → w'.cell? ⟨g, o + j, none⟩ = some (.int .u8 (b.getD j 0)) := fun j hj w' hw' => (hw'.cell (p := ⟨g, o + j, none⟩) hg).trans (hcell j hj)
    obtain ⟨S, hS⟩ : ∃ S : Nat, 256 * s0 + s1 = (S : Int) := ⟨(256 * s0 + s1).toNat, by omega⟩
    have HU4' : Hid (4000 < S → unpackL b = ([], 4)) := fun h => HU4.out (by rw [hS, Int.toNat_natCast]; exact h)
    have HUS : Hid (¬ 4000 < S → unpackL b = unEnd b S (unGo b S [] 2 0 0)) := fun h => by
      have := HULh.out (by rw [hS, Int.toNat_natCast]; exact h)
      rwa [hS, Int.toNat_natCast] at this
    simp only [hS]
    clear hw1 hw2 hw3 hw4 hcell hc0 hc1 HU4 HULh hS hz0' hz1' hb Hs0 Hs1
    by_cases h4 : 4000 < S
    · have h4' : (4000 : Int) < S := by omega
      have HU := HU4'.out h4
      have HU' : Hid _ := HU
      clear HU HU4' HUS hcr
      go_wp2_with fail
      exact bodyPost_ret (v := .tuple #[.slice none 0 0, .int .i64 4]) (by simp [results, Tryd.results33, go_sem]) rfl ⟨_, by rw [HU'.out], by rw [HU'.out]; exact World.ownsRow_nil _ _ _ _, b0⟩
    · have h4' : ¬ (4000 : Int) < S := by omega
      have HU0 : Hid (unpackL b = unEnd b S (unGo b S [] 2 0 0)) := HUS.out h4
      have hS4 : S ≤ 4000 := by omega
      clear HU4' HUS h4
      go_wp2_with fail
      go_loopw [5, 6, 7, 8] (fun ov av fv lv wr => ∃ (out : List Int) (a f l : Nat), av = .int .i64 a ∧ fv = .int .i64 f ∧ lv = .int .i64 l ∧ a ≤ b.length ∧ f ≤ 255 ∧ l ≤ 8 ∧ out.length ≤ 5000 ∧ a ≤ 2 + 3 * out.length ∧ Hid (unpackL b = unEnd b S (unGo b S out a f l)) ∧ (∃ va vc, ov = .slice va out.length vc ∧ wr.ownsRow w.heap.size 5 1 (.slice va out.length vc) out.length (out.map (Value.int .u8))) ∧ Below w.heap.size w wr) (fun ov _ _ _ _ => S - lenV ov)
      case atStart => exact ⟨[], 2, 0, 0, rfl, rfl, rfl, by omega, by omega, by omega, by simp, by simp, HU0, ⟨none, 0, rfl, World.ownsRow_nil _ _ _ _⟩, b0⟩
      case round =>
        obtain ⟨wo, rfl⟩ : ∃ x, x = wr := ⟨wr, rfl⟩
        obtain ⟨out, a, f, l, rfl, rfl, rfl, ha, hf, hl8, ho5, ha3, HU, ⟨va, vc, rfl, hrow⟩, hbr⟩ := hrel
        clear HU0 b0
        by_cases hlt : out.length < S
        · have hlt' : (out.length : Int) < S := by omega
          by_cases hl0 : l = 0
          · subst hl0
            by_cases hal0 : a < b.length
            · have hal0' : ¬ (b.length : Int) ≤ a := by omega
              have hal1 : (a : Int) < b.length := by omega
              have hza := hbz a
              obtain ⟨fN, hfN⟩ : ∃ n : Nat, b.getD a 0 = (n : Int) := ⟨(b.getD a 0).toNat, by omega⟩
              have hca := hcr a hal0 wo hbr
              rw [hfN] at hca hza
              have hfN5 : fN ≤ 255 := by omega
              have HU2 : Hid (unpackL b = unEnd b S (unGo b S out (a + 1) fN 8)) := by show _ = _; rw [HU.out, unGo_flags hlt hal0, hfN, Int.toNat_natCast]
              have hwf : IntKind.i64.wrap (fN : Int) = (fN : Int) := by rw [IntKind.wrap_i64]; omega
              clear HU hfN
              by_cases hf2 : fN % 2 = 0
              · have hf2' : (fN : Int) % 2 = 0 := by omega
                by_cases hal : (a + 1) < b.length
                · have hal' : ¬ (b.length : Int) ≤ (a : Int) + 1 := by omega
                  have hal2 : (a : Int) + 1 < (b.length : Int) := by omega
                  obtain ⟨c, Hc⟩ : ∃ c, Hid (b.getD (a + 1) 0 = c) := ⟨_, rfl⟩
                  have e1 := hcr (a + 1) hal wo hbr
                  rw [Hc.out] at e1
                  have HN : Hid (unpackL b = unEnd b S (unGo b S (out ++ [c]) ((a + 1) + 1) (fN / 2) (8 - 1))) := by show _ = _; rw [HU2.out, unGo_byte hlt (by decide) hf2 hal, Hc.out]
                  have hnew := cell_one_new wo (.int .u8 c) 5
                  have hsr := hbr.size
                  clear HU2 hcr
                  go_wp2_with (at_builtin; refine wpList_append_own _ rfl (.tmp 51) (.tmp 56) 23 rfl w.heap.size 5 i0 _ 1 1 Tryd.underlying23 hi0 hz0 hz1 hz2 rfl (by decide) _ _ _ rfl (hrow.alloc _) _ 1 1 [.int .u8 c] rfl rfl hnew (by intro u hu; simp at hu; subst hu; rfl) (by unfold maxLen; omega) (by omega) (by simp; omega) ?_; intro v7 w7 ho7 hg7 _; obtain ⟨ta, tc, rfl⟩ := own_form' ho7)
                  have b7 : Below w.heap.size w w7 := (hbr.alloc hsr _).grown hg7 (by simp; omega) (fun _ h => own_block hrow h)
                  have ho8 : w7.ownsRow w.heap.size 5 1 (.slice ta (out ++ [c]).length tc) (out ++ [c]).length ((out ++ [c]).map (Value.int .u8)) := by
                    rw [List.length_append, List.length_singleton, List.map_append, List.map_singleton]
                    exact ho7
                  exact ⟨⟨out ++ [c], (a + 1) + 1, fN / 2, 8 - 1, by go_num, by go_num, by go_num, by omega, by omega, by omega, by rw [List.length_append, List.length_singleton]; omega, by rw [List.length_append, List.length_singleton]; omega, HN, ⟨ta, tc, by rw [List.length_append, List.length_singleton], ho8⟩, b7⟩, by simp; omega⟩
                · have hal' : (b.length : Int) ≤ (a : Int) + 1 := by omega
                  have HN : Hid (unpackL b = ([], 2)) := by show _ = _; rw [HU2.out, unGo_nob hlt (by decide) hf2 hal]; rfl
                  clear HU2 hcr
                  go_wp2_with fail
                  exact bodyPost_ret (v := .tuple #[.slice none 0 0, .int .i64 2]) (by simp [results, Tryd.results33, go_sem]) rfl ⟨_, by rw [HN.out], by rw [HN.out]; exact World.ownsRow_nil _ _ _ _, hbr⟩
              · have hf2' : ¬ (fN : Int) % 2 = 0 := by omega
                have hf3 : (fN : Int) % 2 = 1 := by omega
                by_cases hal : (a + 1) + 1 < b.length
                · have hal' : ¬ (b.length : Int) ≤ (a : Int) + 1 + 1 := by omega
                  have hal2 : (a : Int) + 1 + 1 < (b.length : Int) := by omega
                  have hal3 : (a : Int) + 1 < (b.length : Int) := by omega
                  have hz0a := hbz (a + 1)
                  have hz1a := hbz ((a + 1) + 1)
                  have e0 := hcr (a + 1) (by omega) wo hbr
                  have e1 := hcr ((a + 1) + 1) hal wo hbr
                  obtain ⟨c0, Hc0⟩ : ∃ c, Hid (b.getD (a + 1) 0 = c) := ⟨_, rfl⟩
                  obtain ⟨c1, Hc1⟩ : ∃ c, Hid (b.getD ((a + 1) + 1) 0 = c) := ⟨_, rfl⟩
                  rw [Hc0.out] at e0 hz0a
                  rw [Hc1.out] at e1 hz1a
                  obtain ⟨X, hX⟩ : ∃ X : Nat, 256 * c0 + c1 = (X : Int) := ⟨(256 * c0 + c1).toNat, by omega⟩
                  have hX6 : X < 65536 := by omega
                  have v1 : IntKind.i64.wrap (256 * c0) = 256 * c0 := by rw [IntKind.wrap_i64]; omega
                  have v2 : IntKind.i64.wrap (256 * c0 + c1) = (X : Int) := by rw [IntKind.wrap_i64, ← hX]; omega
                  have v3 : IntKind.i64.wrap c0 = c0 := by rw [IntKind.wrap_i64]; omega
                  have v4 : IntKind.i64.wrap c1 = c1 := by rw [IntKind.wrap_i64]; omega
                  have v5 : IntKind.i64.wrap ((a : Int) + 1 + 1) = (a : Int) + 1 + 1 := by rw [IntKind.wrap_i64]; omega
                  have HX : Hid (256 * b.getD (a + 1) 0 + b.getD ((a + 1) + 1) 0 = (X : Int)) := by show _ = _; rw [Hc0.out, Hc1.out]; exact hX
                  have hd1 : decide ((b.length : Int) ≤ (a : Int) + 1 + 1) = false := decide_eq_false (by omega)
                  have hj1 : 0 ≤ (a : Int) + 1 := by omega
                  have hj2 : 0 ≤ (a : Int) + 1 + 1 := by omega
                  have hrl := hbr.size
                  by_cases hbk : out.length < X % 1024 + 1
                  · have HN : Hid (unpackL b = ([], 2)) := by
                      show _ = _
                      rw [HU2.out, unGo_nox hlt (by decide) hf2 hal (by rw [HX.out, Int.toNat_natCast]; exact hbk)]; rfl
                    have hbk' : (out.length : Int) < (X : Int) % 1024 + 1 := by omega
                    clear HU2 hcr Hc0 Hc1 HX hX hbz
                    go_wp2_with fail
                    go_quiet (fail)
                    go_wp2_with fail
                    exact bodyPost_ret (v := .tuple #[.slice none 0 0, .int .i64 2]) (by simp [results, Tryd.results33, go_sem]) rfl ⟨_, by rw [HN.out], by rw [HN.out]; exact World.ownsRow_nil _ _ _ _, below_drewN' hbr nq⟩
                  · have hbk' : ¬ (out.length : Int) < (X : Int) % 1024 + 1 := by omega
                    obtain ⟨K, hK⟩ : ∃ K : Nat, K = X % 1024 + 1 := ⟨_, rfl⟩
                    obtain ⟨Z, hZ⟩ : ∃ Z : Nat, Z = X / 1024 + 3 := ⟨_, rfl⟩
                    have HN : Hid (unpackL b = unEnd b S (unGo b S (copyL Z out K) ((a + 1) + 2) (fN / 2) (8 - 1))) := by
                      show _ = _
                      rw [HU2.out, unGo_more hlt (by decide) hf2 hal (by rw [HX.out, Int.toNat_natCast]; exact hbk), HX.out, Int.toNat_natCast, hK, hZ]
                    have HZ : Hid ((X : Int) / 1024 + 3 = (Z : Int)) := by show _ = _; omega
                    have HK : Hid ((X : Int) % 1024 + 1 = (K : Int)) := by show _ = _; omega
                    have hK1 : 1 ≤ K ∧ K ≤ out.length := by omega
                    have hZ6 : 3 ≤ Z ∧ Z ≤ 66 := by omega
                    clear HU2 hcr Hc0 Hc1 HX hX hbz
                    go_wp2_with fail
                    go_quiet (fail)
                    go_wp2_with fail
                    have HBK : Hid (decide ((out.length : Int) < (K : Int)) = false) := decide_eq_false (by omega)
                    simp only [HK.out, HBK.out]
                    have hz := HZ.out
                    have b1 := below_drewN' hbr nq
                    have hrow1 : (wo.drewN nq).ownsRow w.heap.size 5 1 (.slice va out.length vc) out.length (out.map (Value.int .u8)) := hrow
                    clear v1 v2 v3 v4 v5 hd1 hbk' hbk hK hZ e0 e1 hz0a hz1a hrow
                    generalize wo.drewN nq = wq at *
                    go_loopw [5, 11] (fun ov nv wi => ∃ q : Nat, q ≤ Z ∧ nv = .int .i64 q ∧ (∃ va vc, ov = .slice va (out.length + q) vc ∧ wi.ownsRow w.heap.size 5 1 (.slice va (out.length + q) vc) (out.length + q) ((copyL q out K).map (Value.int .u8))) ∧ Below w.heap.size w wi) (fun _ nv _ => Z - (intOf nv).toNat)
                    case atStart => exact ⟨0, Nat.zero_le _, rfl, ⟨va, vc, rfl, hrow1⟩, b1⟩
                    case round =>
                      obtain ⟨wi, rfl⟩ : ∃ x, x = wr := ⟨wr, rfl⟩
                      obtain ⟨q, hq, rfl, ⟨ra, rc, rfl, hri⟩, hbi⟩ := hrel
                      clear hrow1 b1
                      have hsi := hbi.size
                      by_cases hqZ : q < Z
                      · have hqZ' : (q : Int) < Z := by omega
                        obtain ⟨F, hF⟩ : ∃ F : Nat, F + K = out.length + q := ⟨out.length + q - K, by omega⟩
                        have hFe : ((out.length + q : Nat) : Int) - K = (F : Int) := by omega
                        have hFe2 : (out.length : Int) + q - K = (F : Int) := by omega
                        obtain ⟨gr, eg, hcg, -, hg1⟩ := own_get (z := 0) hri F (by omega)
                        cases eg
                        have HM : Hid ((copyL (q + 1) out K).map (Value.int .u8) = (copyL q out K).map (Value.int .u8) ++ [.int .u8 ((copyL q out K).getD F 0)]) := by
                          show _ = _
                          rw [copy_snoc, copyL_length, show out.length + q - K = F by omega, List.map_append]; rfl
                        have hnew := cell_one_new wi (.int .u8 ((copyL q out K).getD F 0)) 5
                        have j1 : (F : Int) < ((out.length + q : Nat) : Int) := by omega
                        generalize (copyL q out K).getD F 0 = c at *
                        go_wp2_with (at_builtin; refine wpList_append_own _ rfl (.tmp 94) (.tmp 102) 23 rfl w.heap.size 5 i0 _ 1 1 Tryd.underlying23 hi0 hz0 hz1 hz2 rfl (by decide) _ _ _ rfl (hri.alloc _) _ 1 1 [.int .u8 c] rfl rfl hnew (by intro u hu; simp at hu; subst hu; rfl) (by unfold maxLen; omega) (by omega) (by simp; omega) ?_; intro v7 w7 ho7 hg7 _; obtain ⟨ta, tc, rfl⟩ := own_form' ho7)
                        have b7 : Below w.heap.size w w7 := (hbi.alloc hsi _).grown hg7 (by simp; omega) (fun _ h => own_block hri h)
                        go_wp2_with fail
                        go_roundw
                        case rel => exact ⟨q + 1, by omega, by go_num, ⟨ta, tc, rfl, by rw [HM.out]; exact ho7⟩, b7⟩
                        case measure => simp [intOf]; omega
                      · obtain rfl : q = Z := by omega
                        have hqZ' : ¬ (q : Int) < q := by omega
                        have hcl : (copyL q out K).length = out.length + q := copyL_length q out K
                        have ho8 : wi.ownsRow w.heap.size 5 1 (.slice ra (copyL q out K).length rc) (copyL q out K).length ((copyL q out K).map (Value.int .u8)) := by rw [hcl]; exact hri
                        have HCL : Hid ((copyL q out K).length = out.length + q) := hcl
                        clear hcl
                        go_wp2_with fail
                        exact ⟨⟨copyL q out K, (a + 1) + 2, fN / 2, 8 - 1, by go_num, by go_num, by go_num, by omega, by omega, by omega, by rw [HCL.out]; omega, by rw [HCL.out]; omega, HN, ⟨ra, rc, by rw [HCL.out], ho8⟩, hbi⟩, by simp; omega⟩
                · have hal' : (b.length : Int) ≤ (a : Int) + 1 + 1 := by omega
                  have hald : decide ((b.length : Int) ≤ (a : Int) + 1 + 1) = true := decide_eq_true hal'
                  have hwa : IntKind.i64.wrap ((a : Int) + 1 + 1) = (a : Int) + 1 + 1 := by rw [IntKind.wrap_i64]; omega
                  have HN : Hid (unpackL b = ([], 2)) := by show _ = _; rw [HU2.out, unGo_nom hlt (by decide) hf2 hal]; rfl
                  clear HU2 hcr
                  go_wp2_with fail
                  exact bodyPost_ret (v := .tuple #[.slice none 0 0, .int .i64 2]) (by simp [results, Tryd.results33, go_sem]) rfl ⟨_, by rw [HN.out], by rw [HN.out]; exact World.ownsRow_nil _ _ _ _, hbr⟩
            · have hal' : (b.length : Int) ≤ a := by omega
              have HN : Hid (unpackL b = ([], 2)) := by show _ = _; rw [HU.out, unGo_nof hlt hal0]; rfl
              clear HU hcr
              go_wp2_with fail
              exact bodyPost_ret (v := .tuple #[.slice none 0 0, .int .i64 2]) (by simp [results, Tryd.results33, go_sem]) rfl ⟨_, by rw [HN.out], by rw [HN.out]; exact World.ownsRow_nil _ _ _ _, hbr⟩
          · have hl0' : (l : Int) ≠ 0 := by omega
            have i0' : ((l : Int) == 0) = false := by simpa using hl0'
            by_cases hf2 : f % 2 = 0
            · have hf2' : (f : Int) % 2 = 0 := by omega
              by_cases hal : a < b.length
              · have hal' : ¬ (b.length : Int) ≤ (a : Int) := by omega
                have hal2 : (a : Int) < (b.length : Int) := by omega
                obtain ⟨c, Hc⟩ : ∃ c, Hid (b.getD a 0 = c) := ⟨_, rfl⟩
                have e1 := hcr a hal wo hbr
                rw [Hc.out] at e1
                have HN : Hid (unpackL b = unEnd b S (unGo b S (out ++ [c]) (a + 1) (f / 2) (l - 1))) := by show _ = _; rw [HU.out, unGo_byte hlt hl0 hf2 hal, Hc.out]
                have hnew := cell_one_new wo (.int .u8 c) 5
                have hsr := hbr.size
                clear HU hcr
                go_wp2_with (at_builtin; refine wpList_append_own _ rfl (.tmp 51) (.tmp 56) 23 rfl w.heap.size 5 i0 _ 1 1 Tryd.underlying23 hi0 hz0 hz1 hz2 rfl (by decide) _ _ _ rfl (hrow.alloc _) _ 1 1 [.int .u8 c] rfl rfl hnew (by intro u hu; simp at hu; subst hu; rfl) (by unfold maxLen; omega) (by omega) (by simp; omega) ?_; intro v7 w7 ho7 hg7 _; obtain ⟨ta, tc, rfl⟩ := own_form' ho7)
                have b7 : Below w.heap.size w w7 := (hbr.alloc hsr _).grown hg7 (by simp; omega) (fun _ h => own_block hrow h)
                have ho8 : w7.ownsRow w.heap.size 5 1 (.slice ta (out ++ [c]).length tc) (out ++ [c]).length ((out ++ [c]).map (Value.int .u8)) := by
                  rw [List.length_append, List.length_singleton, List.map_append, List.map_singleton]
                  exact ho7
                exact ⟨⟨out ++ [c], a + 1, f / 2, l - 1, by go_num, by go_num, by go_num, by omega, by omega, by omega, by rw [List.length_append, List.length_singleton]; omega, by rw [List.length_append, List.length_singleton]; omega, HN, ⟨ta, tc, by rw [List.length_append, List.length_singleton], ho8⟩, b7⟩, by simp; omega⟩
              · have hal' : (b.length : Int) ≤ (a : Int) := by omega
                have HN : Hid (unpackL b = ([], 2)) := by show _ = _; rw [HU.out, unGo_nob hlt hl0 hf2 hal]; rfl
                clear HU hcr
                go_wp2_with fail
                exact bodyPost_ret (v := .tuple #[.slice none 0 0, .int .i64 2]) (by simp [results, Tryd.results33, go_sem]) rfl ⟨_, by rw [HN.out], by rw [HN.out]; exact World.ownsRow_nil _ _ _ _, hbr⟩
            · have hf2' : ¬ (f : Int) % 2 = 0 := by omega
              have hf3 : (f : Int) % 2 = 1 := by omega
              by_cases hal : a + 1 < b.length
              · have hal' : ¬ (b.length : Int) ≤ (a : Int) + 1 := by omega
                have hal2 : (a : Int) + 1 < (b.length : Int) := by omega
                have hal3 : (a : Int) < (b.length : Int) := by omega
                have hz0a := hbz a
                have hz1a := hbz (a + 1)
                have e0 := hcr a (by omega) wo hbr
                have e1 := hcr (a + 1) hal wo hbr
                obtain ⟨c0, Hc0⟩ : ∃ c, Hid (b.getD a 0 = c) := ⟨_, rfl⟩
                obtain ⟨c1, Hc1⟩ : ∃ c, Hid (b.getD (a + 1) 0 = c) := ⟨_, rfl⟩
                rw [Hc0.out] at e0 hz0a
                rw [Hc1.out] at e1 hz1a
                obtain ⟨X, hX⟩ : ∃ X : Nat, 256 * c0 + c1 = (X : Int) := ⟨(256 * c0 + c1).toNat, by omega⟩
                have hX6 : X < 65536 := by omega
                have v1 : IntKind.i64.wrap (256 * c0) = 256 * c0 := by rw [IntKind.wrap_i64]; omega
                have v2 : IntKind.i64.wrap (256 * c0 + c1) = (X : Int) := by rw [IntKind.wrap_i64, ← hX]; omega
                have v3 : IntKind.i64.wrap c0 = c0 := by rw [IntKind.wrap_i64]; omega
                have v4 : IntKind.i64.wrap c1 = c1 := by rw [IntKind.wrap_i64]; omega
                have v5 : IntKind.i64.wrap ((a : Int) + 1) = (a : Int) + 1 := by rw [IntKind.wrap_i64]; omega
                have HX : Hid (256 * b.getD a 0 + b.getD (a + 1) 0 = (X : Int)) := by show _ = _; rw [Hc0.out, Hc1.out]; exact hX
                have hd1 : decide ((b.length : Int) ≤ (a : Int) + 1) = false := decide_eq_false (by omega)
                have hj1 : 0 ≤ (a : Int) := by omega
                have hj2 : 0 ≤ (a : Int) + 1 := by omega
                have hrl := hbr.size
                by_cases hbk : out.length < X % 1024 + 1
                · have HN : Hid (unpackL b = ([], 2)) := by
                    show _ = _
                    rw [HU.out, unGo_nox hlt hl0 hf2 hal (by rw [HX.out, Int.toNat_natCast]; exact hbk)]; rfl
                  have hbk' : (out.length : Int) < (X : Int) % 1024 + 1 := by omega
                  clear HU hcr Hc0 Hc1 HX hX hbz
                  go_wp2_with fail
                  go_quiet (fail)
                  go_wp2_with fail
                  exact bodyPost_ret (v := .tuple #[.slice none 0 0, .int .i64 2]) (by simp [results, Tryd.results33, go_sem]) rfl ⟨_, by rw [HN.out], by rw [HN.out]; exact World.ownsRow_nil _ _ _ _, below_drewN' hbr nq⟩
                · have hbk' : ¬ (out.length : Int) < (X : Int) % 1024 + 1 := by omega
                  obtain ⟨K, hK⟩ : ∃ K : Nat, K = X % 1024 + 1 := ⟨_, rfl⟩
                  obtain ⟨Z, hZ⟩ : ∃ Z : Nat, Z = X / 1024 + 3 := ⟨_, rfl⟩
                  have HN : Hid (unpackL b = unEnd b S (unGo b S (copyL Z out K) (a + 2) (f / 2) (l - 1))) := by
                    show _ = _
                    rw [HU.out, unGo_more hlt hl0 hf2 hal (by rw [HX.out, Int.toNat_natCast]; exact hbk), HX.out, Int.toNat_natCast, hK, hZ]
                  have HZ : Hid ((X : Int) / 1024 + 3 = (Z : Int)) := by show _ = _; omega
                  have HK : Hid ((X : Int) % 1024 + 1 = (K : Int)) := by show _ = _; omega
                  have hK1 : 1 ≤ K ∧ K ≤ out.length := by omega
                  have hZ6 : 3 ≤ Z ∧ Z ≤ 66 := by omega
                  clear HU hcr Hc0 Hc1 HX hX hbz
                  go_wp2_with fail
                  go_quiet (fail)
                  go_wp2_with fail
                  have HBK : Hid (decide ((out.length : Int) < (K : Int)) = false) := decide_eq_false (by omega)
                  simp only [HK.out, HBK.out]
                  have hz := HZ.out
                  have b1 := below_drewN' hbr nq
                  have hrow1 : (wo.drewN nq).ownsRow w.heap.size 5 1 (.slice va out.length vc) out.length (out.map (Value.int .u8)) := hrow
                  clear v1 v2 v3 v4 v5 hd1 hbk' hbk hK hZ e0 e1 hz0a hz1a hrow
                  generalize wo.drewN nq = wq at *
                  go_loopw [5, 11] (fun ov nv wi => ∃ q : Nat, q ≤ Z ∧ nv = .int .i64 q ∧ (∃ va vc, ov = .slice va (out.length + q) vc ∧ wi.ownsRow w.heap.size 5 1 (.slice va (out.length + q) vc) (out.length + q) ((copyL q out K).map (Value.int .u8))) ∧ Below w.heap.size w wi) (fun _ nv _ => Z - (intOf nv).toNat)
                  case atStart => exact ⟨0, Nat.zero_le _, rfl, ⟨va, vc, rfl, hrow1⟩, b1⟩
                  case round =>
                    obtain ⟨wi, rfl⟩ : ∃ x, x = wr := ⟨wr, rfl⟩
                    obtain ⟨q, hq, rfl, ⟨ra, rc, rfl, hri⟩, hbi⟩ := hrel
                    clear hrow1 b1
                    have hsi := hbi.size
                    by_cases hqZ : q < Z
                    · have hqZ' : (q : Int) < Z := by omega
                      obtain ⟨F, hF⟩ : ∃ F : Nat, F + K = out.length + q := ⟨out.length + q - K, by omega⟩
                      have hFe : ((out.length + q : Nat) : Int) - K = (F : Int) := by omega
                      have hFe2 : (out.length : Int) + q - K = (F : Int) := by omega
                      obtain ⟨gr, eg, hcg, -, hg1⟩ := own_get (z := 0) hri F (by omega)
                      cases eg
                      have HM : Hid ((copyL (q + 1) out K).map (Value.int .u8) = (copyL q out K).map (Value.int .u8) ++ [.int .u8 ((copyL q out K).getD F 0)]) := by
                        show _ = _
                        rw [copy_snoc, copyL_length, show out.length + q - K = F by omega, List.map_append]; rfl
                      have hnew := cell_one_new wi (.int .u8 ((copyL q out K).getD F 0)) 5
                      have j1 : (F : Int) < ((out.length + q : Nat) : Int) := by omega
                      generalize (copyL q out K).getD F 0 = c at *
                      go_wp2_with (at_builtin; refine wpList_append_own _ rfl (.tmp 94) (.tmp 102) 23 rfl w.heap.size 5 i0 _ 1 1 Tryd.underlying23 hi0 hz0 hz1 hz2 rfl (by decide) _ _ _ rfl (hri.alloc _) _ 1 1 [.int .u8 c] rfl rfl hnew (by intro u hu; simp at hu; subst hu; rfl) (by unfold maxLen; omega) (by omega) (by simp; omega) ?_; intro v7 w7 ho7 hg7 _; obtain ⟨ta, tc, rfl⟩ := own_form' ho7)
                      have b7 : Below w.heap.size w w7 := (hbi.alloc hsi _).grown hg7 (by simp; omega) (fun _ h => own_block hri h)
                      go_wp2_with fail
                      go_roundw
                      case rel => exact ⟨q + 1, by omega, by go_num, ⟨ta, tc, rfl, by rw [HM.out]; exact ho7⟩, b7⟩
                      case measure => simp [intOf]; omega
                    · obtain rfl : q = Z := by omega
                      have hqZ' : ¬ (q : Int) < q := by omega
                      have hcl : (copyL q out K).length = out.length + q := copyL_length q out K
                      have ho8 : wi.ownsRow w.heap.size 5 1 (.slice ra (copyL q out K).length rc) (copyL q out K).length ((copyL q out K).map (Value.int .u8)) := by rw [hcl]; exact hri
                      have HCL : Hid ((copyL q out K).length = out.length + q) := hcl
                      clear hcl
                      go_wp2_with fail
                      exact ⟨⟨copyL q out K, a + 2, f / 2, l - 1, by go_num, by go_num, by go_num, by omega, by omega, by omega, by rw [HCL.out]; omega, by rw [HCL.out]; omega, HN, ⟨ra, rc, by rw [HCL.out], ho8⟩, hbi⟩, by simp; omega⟩
              · have hal' : (b.length : Int) ≤ (a : Int) + 1 := by omega
                have hald : decide ((b.length : Int) ≤ (a : Int) + 1) = true := decide_eq_true hal'
                have hwa : IntKind.i64.wrap ((a : Int) + 1) = (a : Int) + 1 := by rw [IntKind.wrap_i64]; omega
                have HN : Hid (unpackL b = ([], 2)) := by show _ = _; rw [HU.out, unGo_nom hlt hl0 hf2 hal]; rfl
                clear HU hcr
                go_wp2_with fail
                exact bodyPost_ret (v := .tuple #[.slice none 0 0, .int .i64 2]) (by simp [results, Tryd.results33, go_sem]) rfl ⟨_, by rw [HN.out], by rw [HN.out]; exact World.ownsRow_nil _ _ _ _, hbr⟩
        · have hlt' : ¬ (out.length : Int) < S := by omega
          have HE : Hid (unpackL b = if a ≠ b.length ∨ out.length ≠ S ∨ f ≠ 0 then ([], 2) else (out, 0)) := by show _ = _; rw [HU.out, unGo_end hlt]; rfl
          have hB := hrow
          clear HU hcr hrow
          by_cases q1 : a = b.length
          · have q1' : ((a : Int) != b.length) = false := by simp [q1]
            by_cases q2 : out.length = S
            · have q2' : ((out.length : Int) != S) = false := by simp [q2]
              by_cases q3 : f = 0
              · have q3' : ((f : Int) != 0) = false := by simp [q3]
                have HN : Hid (unpackL b = (out, 0)) := by show _ = _; rw [HE.out, if_neg (fun h => by omega)]
                clear HE q1 q2 q3
                go_wp2_with fail
                exact bodyPost_ret (v := .tuple #[.slice va out.length vc, .int .i64 0]) (by simp [results, Tryd.results33, go_sem]) rfl ⟨_, by rw [HN.out], by rw [HN.out]; exact hB, hbr⟩
              · have q3' : ((f : Int) != 0) = true := by rw [bne_iff_ne]; omega
                have HN : Hid (unpackL b = ([], 2)) := by show _ = _; rw [HE.out, if_pos (.inr (.inr q3))]
                clear HE q1 q2 q3
                go_wp2_with fail
                exact bodyPost_ret (v := .tuple #[.slice none 0 0, .int .i64 2]) (by simp [results, Tryd.results33, go_sem]) rfl ⟨_, by rw [HN.out], by rw [HN.out]; exact World.ownsRow_nil _ _ _ _, hbr⟩
            · have q2' : ((out.length : Int) != S) = true := by rw [bne_iff_ne]; omega
              have HN : Hid (unpackL b = ([], 2)) := by show _ = _; rw [HE.out, if_pos (.inr (.inl q2))]
              clear HE q1 q2
              go_wp2_with fail
              exact bodyPost_ret (v := .tuple #[.slice none 0 0, .int .i64 2]) (by simp [results, Tryd.results33, go_sem]) rfl ⟨_, by rw [HN.out], by rw [HN.out]; exact World.ownsRow_nil _ _ _ _, hbr⟩
          · have q1' : ((a : Int) != b.length) = true := by rw [bne_iff_ne]; omega
            have HN : Hid (unpackL b = ([], 2)) := by show _ = _; rw [HE.out, if_pos (.inl q1)]
            clear HE q1
            go_wp2_with fail
            exact bodyPost_ret (v := .tuple #[.slice none 0 0, .int .i64 2]) (by simp [results, Tryd.results33, go_sem]) rfl ⟨_, by rw [HN.out], by rw [HN.out]; exact World.ownsRow_nil _ _ _ _, hbr⟩
end Go.Proofs.YtkjlchfmplcobadDoor
