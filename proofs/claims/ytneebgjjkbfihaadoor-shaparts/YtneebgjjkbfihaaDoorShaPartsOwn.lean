/- PROVED: called with whatever parts, the law ShaParts answers true (bytes that come in parts have the digest that all have together, up to a mebibyte of them), and the argument reads as it did; the table of the rounds' words reads as the program's text lays it (the card ties it). -/
import Derived.Test.YtneebgjjkbfihaaDoorRows
import Derived.Test.YtneebgjjkbfihaaDoorTie
import Derived.Test.YtneebgjjkbfihaaDoorCards
import Derived.Test.YtneebgjjkbfihaaDoorShaLaid
import Derived.Test.YtneebgjjkbfihaaDoorShaPartsWalk
import Derived.Deep.Matrix
namespace Go.Proofs.YtneebgjjkbfihaaDoor
open Go.ChangeShapes Go.WideShapes Go.ChangeAt Go.WideMaps Go.WideElems Go.RowKit

/-- A slice of slices of bytes that came in, opened. -/
theorem open_parts {H : Type} {enc : TypeId × Value → H} {W : World} {base : Nat} {held : Bool} {v : Value} {d : DataW H} {p : List MemPlace}
    (hv : ∃ a len cap, v = .slice a len cap) (h : DataW.Trod enc Tryd.prog W base (fun _ => true) held 26 v d p) :
    ∃ L : List (List Int), PartsAt W v L ∧ L.length ≤ maxLen ∧ (∀ j, (L.getD j []).length ≤ maxLen) ∧ ∀ j, Bytes (L.getD j []) := by
  obtain ⟨a, len, cap, rfl⟩ := hv
  obtain ⟨fuel, hf⟩ := h
  have nilB : Bytes [] := fun j => by simp
  rcases Deep.open_int_rows Tryd.underlying26 Tryd.underlying22 Tryd.underlying5 (by kernel_rfl) (by kernel_rfl) hf with ⟨hcs, _⟩ | ⟨x, l, c, A, Ln, C, Z, hcs, _, hl, hm, _, hr⟩
  · simp [Value.cells] at hcs
    obtain ⟨rfl, rfl, rfl⟩ := hcs
    exact ⟨[], .inl ⟨rfl, none, 0, rfl⟩, Nat.zero_le _, fun j => by simp, fun j => by simpa using nilB⟩
  · simp [Value.cells] at hcs
    obtain ⟨rfl, rfl, rfl⟩ := hcs
    have hget : ∀ j, j < len → ((List.range len).map fun r => (Z r).take (Ln r)).getD j [] = (Z j).take (Ln j) := fun j hj => by
      rw [List.getD_eq_getElem?_getD, List.getElem?_map, List.getElem?_range hj]; rfl
    have hout : ∀ j, ¬ j < len → ((List.range len).map fun r => (Z r).take (Ln r)).getD j [] = [] := fun j hj => by
      rw [List.getD_eq_getElem?_getD, List.getElem?_eq_none (by simpa using hj)]; rfl
    have hby : ∀ j, j < len → Bytes ((Z j).take (Ln j)) := fun j hj q => by
      obtain ⟨-, h1, h2, h3, h4, -⟩ := hr j (by omega)
      by_cases hq : q < Ln j
      · rw [List.getD_eq_getElem?_getD, List.getElem?_take, if_pos hq, List.getElem?_eq_getElem (by omega)]
        have := bounds_u8 (h4 _ (List.getElem_mem (l := Z j) (n := q) (by omega)))
        exact ⟨this.1, by have := this.2; show (Z j)[q] < 256; omega⟩
      · rw [List.getD_eq_getElem?_getD, List.getElem?_take, if_neg hq]
        exact ⟨by decide, by decide⟩
    refine ⟨(List.range len).map fun r => (Z r).take (Ln r), ?_, by simp; omega, fun j => ?_, fun j => ?_⟩
    · by_cases hpos : 0 < len
      · obtain ⟨h0, -⟩ := hr 0 (by omega)
        have hsp : x.spot = none := by simpa [Addr.add] using World.cell?_spot h0
        obtain ⟨b, off, spot⟩ := x
        subst hsp
        refine .inr ⟨b, off, cap, by simp, ?_, fun j hj => ?_⟩
        · exact World.block_lt_of_cell? W ⟨b, off, none⟩ (by simpa [Addr.add] using h0)
        · have hj' : j < len := by simpa using hj
          obtain ⟨h1, h2, h3, h4, h5, h6, h7⟩ := hr j (by omega)
          refine ⟨A j, Ln j, C j, by rw [← Addr.add_mid]; exact h1, ?_⟩
          rw [hget j hj']
          have htl : ((Z j).take (Ln j)).length = Ln j := by rw [List.length_take]; omega
          by_cases hp : 0 < Ln j
          · cases hA : A j with
            | none => have := h6 hA; omega
            | some a' =>
              obtain ⟨-, h8⟩ := h7 a' hA
              obtain ⟨b2, o2, rfl, hc⟩ := ints_at (a := a') (k := .u8) (zs := Z j) (w := W) (fun i hi => h8 i (by omega)) (by omega)
              refine .inr ⟨b2, o2, C j, by rw [htl], World.block_lt_of_cell? _ _ (hc 0 (by omega)), fun q hq => ?_⟩
              rw [hc q (by omega), List.getD_eq_getElem?_getD, List.getD_eq_getElem?_getD, List.getElem?_take, if_pos (by omega)]
          · refine .inl ⟨List.eq_nil_of_length_eq_zero (by omega), A j, C j, by rw [show Ln j = 0 by omega], h6⟩
      · obtain rfl : len = 0 := by omega
        exact .inl ⟨rfl, _, _, rfl⟩
    · by_cases hj : j < len
      · rw [hget j hj, List.length_take]
        obtain ⟨-, h1, h2, -⟩ := hr j (by omega)
        omega
      · rw [hout j hj]; exact Nat.zero_le _
    · by_cases hj : j < len
      · rw [hget j hj]; exact hby j hj
      · rw [hout j hj]; exact nilB

namespace PartsLaw
set_option maxRecDepth 100000 in
theorem lifted (os : Os) (started : os.Started) (H : Type) (enc : TypeId × Value → H) :
    ReturnsInHanded {} Tryd.checked os 4 .any (fun w args => (Rows.shaPartsSpec.pre enc Tryd.prog Tryd.f4 [] false w args ∧ laidMetH Tryd.prog laidK w) ∧ sizedMet enc Tryd.prog Tryd.f4 (OpenSpec.ofChange Rows.shaPartsSpec) false w args)
      (Rows.shaPartsSpec.post enc Tryd.prog Tryd.f4 false true false false) := by
  refine returnsInHanded_of_change_and (C := Tryd.checked) (X := fun w _ => laidMetH Tryd.prog laidK w) (fun _ _ _ hh h => h.of_heap hh) own started (by kernel_rfl) Tryd.func4
    (ChangeSpec.witness_shaped (enc := enc) (C := Tryd.checked) (os := os) (X := fun w _ => laidMetH Tryd.prog laidK w) false (World.doorLaid Tryd.prog 14 os) #[.slice none 0 0] 8 rfl (World.shaped_of_RefB (by kernel_rfl) (by kernel_rfl)) (by kernel_rfl) (by kernel_rfl) (by kernel_rfl) (door_met os _)) ?_
  intro W base args ds gs before hval0 hW _ _ hL _
  have hval : ∀ (j : Nat) t v, Tryd.f4.params[j]? = some t → args[j]? = some v → Value.okWide Tryd.prog W .any base t v := hval0
  have hW' := hW
  obtain ⟨p, q, hA0, hV, rfl, hfz, hnd⟩ := hW
  have hA : DataW.TrodAll enc Tryd.prog W 0 (fun _ => true) true Tryd.f4.params.toList args.toList ds p := hA0
  rw [Tryd.params4] at hA hval
  obtain ⟨v0, d0, rfl, rfl, h0⟩ := trodAll_one hA
  obtain ⟨rfl, rfl⟩ := trodVars_none hV
  have hs0 := okWide_slice Tryd.underlying26 (hval 0 26 v0 rfl rfl)
  have k0 := h0
  have lt0 : ∀ x ∈ p, x.block < W.heap.size := by obtain ⟨m, hm⟩ := k0; exact DataW.trod_lt m _ _ _ hm
  obtain ⟨L, hP, hLl, hpl, hby⟩ := open_parts hs0 h0
  obtain ⟨hT, hg⟩ := tab_of_laid hL
  clear hA0 hval0
  refine (partsLaw_any L v0 W hP hLl hpl hby hT hg).mono fun e W' ⟨he, bel⟩ => ?_
  subst he
  exact ⟨_, rfl, _, _, _, [], _, [], hW', trodAll_mk1 (shut_bool Tryd.underlying4 _), (trodAll_cons_mk (Below.trod laidOut (by kernel_rfl) (of_decide_eq_true (by kernel_rfl)) k0 bel lt0) trodAll_mk0), rfl, bel.frame _, fun h => by cases h⟩

theorem over : Rows.ShaPartsSaid :=
  OpenClaim.holds_of_wide 4 Tryd.f4 rfl rfl rfl rfl rfl rfl rfl ⟨rfl, rfl, rfl, rfl, rfl⟩ rfl rfl rfl rfl rfl (by kernel_rfl) Tryd.func4 (by kernel_rfl)
    (of_decide_eq_true (by kernel_rfl)) (by unfold Func.isWrapper; first | (rw [if_pos (by decide +kernel)]; kernel_rfl) | (rw [if_neg (by decide +kernel)]; exact ⟨rfl, rfl⟩))
    (fun os started H enc _ => lifted os started H enc)
end PartsLaw

theorem shaParts_card_holds : Rows.ShaPartsCardSaid :=
  Claim7.holds_tied_plain_at .later [] [.data] true (true, "c7da038d37606f897d9102bc1a298421983e7c496b3835554f4c3ff91869b2b4") false
    PartsLaw.over (fun _ h => by cases h) (by kernel_rfl) (fun _ h => by cases h) shaParts_row_tie rfl ⟨rfl, rfl⟩ (by kernel_rfl) rfl
    (fun f fn hf hfn => by
      obtain rfl : f = 4 := Option.some.inj ((show Tryd.prog.funcNamed "yearbook/yearlaw1.ShaParts" = some 4 by kernel_rfl).symm.trans hf) |>.symm
      obtain rfl : fn = Tryd.f4 := (Option.some.inj (Tryd.func4.symm.trans hfn)).symm
      exact ⟨by kernel_rfl, fun j t ht => by
        rw [Tryd.params4] at ht
        have hm : t ∈ [26] := by simpa using Array.mem_of_getElem? ht
        have hall : ([26].all fun u => !Tryd.prog.wantsStandIn u) = true := by kernel_rfl
        exact (show Tryd.prog.wantsStandIn t = false by simpa using List.all_eq_true.1 hall t hm)⟩)
    (by kernel_rfl)
#print axioms shaParts_card_holds
end Go.Proofs.YtneebgjjkbfihaaDoor
