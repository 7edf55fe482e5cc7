/- The walk of readTokens: package pack as it landed. -/
import Derived.Test.YtkjlchfmplcobadDoorProg
import Derived.Test.YtkjlchfmplcobadDoorRunAC
import Derived.Test.YtkjlchfmplcobadDoorPackGoText
import Derived.WalkKit
import Derived.WalkSpells
import Derived.WalkLawsBesides
import Derived.Deep.QuietTactic
import Derived.BigQuiet
namespace Go.Proofs.YtkjlchfmplcobadDoor
open Go.RowKit

theorem unTok_tok {b : List Int} (hby : Bytes b) {a f : Nat} {t : Tok} {a2 : Nat} (h : unTok b a f = some (t, a2)) : (t.len = 0 ∨ (3 ≤ t.len ∧ t.len ≤ 66)) ∧ a2 ≤ b.length := by
  unfold unTok at h
  split at h
  · split at h
    · cases h; exact ⟨.inl rfl, by omega⟩
    · cases h
  · split at h
    · cases h
      refine ⟨.inr ?_, by omega⟩
      have := hby a
      have := hby (a + 1)
      dsimp only
      omega
    · cases h
theorem wid_of {t : Tok} (h : t.len = 0 ∨ (3 ≤ t.len ∧ t.len ≤ 66)) : 0 ≤ wid t ∧ wid t ≤ 100 ∧ 1 ≤ wid t ∧ widI t = wid t := by
  unfold widI wid
  split <;> omega
theorem readGo_next {b : List Int} {s : Int} {n a f A1 F1 : Nat} (hs : 0 < s) (h : (n % 8 = 0 ∧ a < b.length ∧ A1 = a + 1 ∧ F1 = (b.getD a 0).toNat) ∨ (¬ n % 8 = 0 ∧ A1 = a ∧ F1 = f)) :
    readGo b s n a f = match unTok b A1 F1 with | none => none | some (t, a2) => (readGo b (s - wid t) (n + 1) a2 (F1 / 2)).map fun r => (t :: r.1, r.2) := by
  conv => lhs; rw [readGo]
  rw [dif_pos hs]
  rcases h with ⟨h8, ha, rfl, rfl⟩ | ⟨h8, rfl, rfl⟩
  · rw [if_neg (fun h => h.2 ha)]
    simp only [h8, if_true]
    cases unTok b (a + 1) (b.getD a 0).toNat <;> rfl
  · rw [if_neg (fun h => h8 h.1)]
    simp only [h8, if_false]
    cases unTok b A1 F1 <;> rfl
theorem readGo_step {b : List Int} {S s : Int} {a f A1 F1 a2 : Nat} {done : List Tok} {t : Tok} (hD : readGo b S 0 2 0 = (readGo b s done.length a f).map fun r => (done ++ r.1, r.2))
    (hN : readGo b s done.length a f = match unTok b A1 F1 with | none => none | some (t, a2) => (readGo b (s - wid t) (done.length + 1) a2 (F1 / 2)).map fun r => (t :: r.1, r.2)) (hu : unTok b A1 F1 = some (t, a2)) :
    readGo b S 0 2 0 = (readGo b (s - wid t) (done ++ [t]).length a2 (F1 / 2)).map fun r => ((done ++ [t]) ++ r.1, r.2) := by
  rw [hu] at hN
  dsimp only at hN
  rw [hD, hN, List.length_append, List.length_singleton]
  cases readGo b (s - wid t) (done.length + 1) a2 (F1 / 2) with
  | none => rfl
  | some r => simp
def okL (b : List Int) (r : Option (List Tok × Int × Nat × Nat)) (w' : World) (v : Value) (ok : Bool) : Prop :=
  match r with
  | none => ok = false
  | some (l, s, a, f) => ok = decide (s = 0 ∧ f = 0 ∧ a = b.length) ∧ ToksAt w' v l
set_option maxRecDepth 100000 in
set_option maxHeartbeats 8000000 in
theorem readTokens_any (b : List Int) (hby : Bytes b) (g o S : Nat) (rv : Value) (w : World) (hg : g < w.heap.size) (hcell : ∀ j, j < b.length → w.cell? ⟨g, o + j, none⟩ = some (.int .u8 (b.getD j 0))) (hr : RestAt rv b g o 2) (hb2 : 2 ≤ b.length) (hS : S ≤ 4000) :
    Calls Tryd.prog 57 #[rv, .int .i64 S] w fun e w' => ∃ v ok, e = .returned (.tuple #[v, .bool ok]) ∧ okL b (readGo b S 0 2 0) w' v ok ∧ Below w.heap.size w w' := by
  obtain ⟨i0, hi0, hz0, hz1, hz2⟩ := info_parts Tryd.info117b
  obtain ⟨A0, c0, rfl, hc0, hA0⟩ := hr
  have HD0 : Hid (readGo b S 0 2 0 = (readGo b (S : Int) ([] : List Tok).length 2 0).map fun r => (([] : List Tok) ++ r.1, r.2)) := by
    show _ = _
    cases readGo b (S : Int) ([] : List Tok).length 2 0 with
    | none => rfl
    | some r => rfl
  go_enter Tryd.func57, Tryd.ntmps57
  go_wp2_with fail
  go_loopw [0, 1, 6, 7] (fun bv sv lv fv wr => ∃ (a f : Nat) (done : List Tok) (s : Int), a ≤ b.length ∧ f < 256 ∧ s ≤ 4000 - done.length ∧ -100 ≤ s ∧ sv = .int .i64 s ∧ fv = .int .u8 f ∧ Hid (readGo b S 0 2 0 = (readGo b s done.length a f).map fun r => (done ++ r.1, r.2)) ∧ (∃ va vc, lv = .slice va done.length vc ∧ wr.ownsRow w.heap.size 117 3 (.slice va done.length vc) done.length (tokCs done)) ∧ (∃ A c, bv = .slice A (b.length - a) c ∧ b.length - a ≤ c ∧ (A = some ⟨g, o + a, none⟩ ∨ b.length - a = 0)) ∧ Below w.heap.size w wr) (fun _ sv _ _ _ => (intOf sv).toNat)
  case atStart => exact ⟨2, 0, [], S, hb2, by omega, by simp; omega, by omega, rfl, rfl, HD0, ⟨none, 0, rfl, World.ownsRow_nil _ _ _ _⟩, ⟨A0, c0, rfl, hc0, hA0⟩, Below.refl _ _⟩
  case round =>
    obtain ⟨wo, rfl⟩ : ∃ x, x = wr := ⟨wr, rfl⟩
    obtain ⟨a, f, done, s, ha, hf, hsd, hs1, rfl, rfl, HD, ⟨va, vc, rfl, hrow⟩, ⟨A, c, rfl, hac, hA⟩, hbr⟩ := hrel
    clear HD0 hc0 hA0
    have hsr := hbr.size
    have hgo : g < wo.heap.size := by omega
    have hco : ∀ j, j < b.length → wo.cell? ⟨g, o + j, none⟩ = some (.int .u8 (b.getD j 0)) := fun j hj => (hbr.cell (p := ⟨g, o + j, none⟩) hg).trans (hcell j hj)
    by_cases hpos : 0 < s
    · by_cases h8 : done.length % 8 = 0
      · have h8i : (done.length : Int) % 8 = 0 := by omega
        by_cases hal : a < b.length
        · -- the flags come first
          obtain ⟨Fb, hFb⟩ : ∃ Fb : Nat, b.getD a 0 = (Fb : Int) := ⟨(b.getD a 0).toNat, by have := hby a; omega⟩
          have hF256 : Fb < 256 := by have := hby a; omega
          have HNX : Hid _ := readGo_next (b := b) (n := done.length) (a := a) (f := f) (A1 := a + 1) (F1 := Fb) hpos (.inl ⟨h8, hal, rfl, by rw [hFb]; rfl⟩)
          obtain rfl : A = some ⟨g, o + a, none⟩ := hA.resolve_right (by omega)
          have e1 := hco a hal
          rw [hFb] at e1
          obtain ⟨n, hn⟩ : ∃ n, n = b.length - a := ⟨_, rfl⟩
          rw [← hn] at hac
          have HN : Hid (n = b.length - a) := hn
          have j1 : (0 : Int) < n := by omega
          have j1' : 0 < n := by omega
          have j2 : (1 : Int) ≤ n := by omega
          have j3 : (1 : Int) ≤ c := by omega
          have hne : ¬ (n : Int) = 0 := by omega
          have hne' : ((n : Int) == 0) = false := by simpa using hne
          rw [← hn]
          clear hn hFb hcell h8 hA
          rcases (show (c = 1 ∧ n = 1) ∨ ¬ c = 1 by omega) with ⟨rfl, rfl⟩ | hc
          · have hrR : RestAt (.slice (some ⟨g, o + a, none⟩) 0 0) b g o (a + 1) := by
              have := HN.out
              exact ⟨_, 0, by rw [show b.length - (a + 1) = 0 by omega], by omega, .inr (by omega)⟩
            have hR0 := fun W (hW : Below wo.heap.size wo W) => readToken_any b hby g o (a + 1) Fb (.slice (some ⟨g, o + a, none⟩) 0 0) W (.inr (Nat.lt_of_lt_of_le hgo hW.size)) (fun j hj => (hW.cell (p := ⟨g, o + j, none⟩) hgo).trans (hco j hj)) hrR
            rcases (show Fb % 2 = 0 ∨ Fb % 2 = 1 by omega) with hbx | hbx
            · have hbit : bits BinOp.and IntKind.u8 (Fb : Int) 1 = 0 := by have h := and_one ⟨Fb, by omega⟩; rw [h]; show ((Fb % 2 : Nat) : Int) = _; omega
              have hdec : decide (Fb % 2 ≠ 0) = false := by simp; omega
              rw [hdec] at hR0
              clear hbx hco
              go_wp2_with fail
              go_quiet (fail)
              replace hrow : (wo.drewN nq).ownsRow w.heap.size 117 3 (.slice va done.length vc) done.length (tokCs done) := hrow
              have hbq : Below wo.heap.size wo (wo.drewN nq) := below_drewN' (Below.refl _ _) nq
              have hR := hR0 _ hbq
              replace hbr := hbr.trans (hbq.mono hsr)
              clear hR0 hbq
              generalize wo.drewN nq = wq at *
              have hsq := hbr.size
              go_wp2_with fail
              refine hR.mono ?_
              rintro r w1 ⟨v1, rfl, htr, hb1⟩
              have b1 : Below w.heap.size w w1 := hbr.trans (hb1.mono hsq)
              have hrow1 : w1.ownsRow w.heap.size 117 3 (.slice va done.length vc) done.length (tokCs done) := hrow.kept (w' := w1) (row := none) ⟨hb1.os, hb1.tape, hb1.output, hb1.size, fun k hk _ => hb1.block k hk⟩ (by cases (Value.slice va done.length vc).ownBlock <;> simp)
              clear hR hb1 hrow
              cases hu : unTok b (a + 1) Fb with
              | none =>
                rw [hu] at htr
                obtain rfl : v1 = .tuple #[.agg #[.int .i64 0, .int .i64 0, .int .u8 0], .slice none 0 0, .bool false] := htr
                have HE : Hid (readGo b S 0 2 0 = none) := by show _ = _; rw [HD.out, HNX.out, hu]; rfl
                clear hrow1
                go_wp2_with fail
                exact bodyPost_ret (v := .tuple #[.slice none 0 0, .bool false]) (by simp [results, Tryd.results57, go_sem]) rfl ⟨_, _, rfl, by rw [HE.out]; rfl, b1.alloc b1.size _⟩
              | some p =>
                obtain ⟨⟨qa, qb, qc⟩, a2⟩ := p
                rw [hu] at htr
                obtain ⟨rv2, rfl, hrest2⟩ := htr
                obtain ⟨rA, rc, rfl, hrc, hrA⟩ := hrest2
                have htk := unTok_tok hby hu
                have hq : 0 ≤ wid ⟨qa, qb, qc⟩ ∧ wid ⟨qa, qb, qc⟩ ≤ 100 ∧ 1 ≤ wid ⟨qa, qb, qc⟩ ∧ widI ⟨qa, qb, qc⟩ = wid ⟨qa, qb, qc⟩ := wid_of htk.1
                have HDn : Hid (readGo b S 0 2 0 = (readGo b (s - wid ⟨qa, qb, qc⟩) (done ++ [(⟨qa, qb, qc⟩ : Tok)]).length a2 (Fb / 2)).map fun r => ((done ++ [(⟨qa, qb, qc⟩ : Tok)]) ++ r.1, r.2)) := readGo_step HD.out HNX.out hu
                obtain ⟨hq0, hq1, hq2, hq3⟩ := hq
                generalize wid ⟨qa, qb, qc⟩ = wd at *
                have ha2 := htk.2
                have e1 : (w1.alloc (.cells #[.int .i64 qa, .int .i64 qb, .int .u8 qc] 117)).heap.size = w1.heap.size + 1 := by simp
                have hnew := lit_three (w1.alloc (.cells #[.int .i64 qa, .int .i64 qb, .int .u8 qc] 117)) qa qb qc 117
                rw [e1] at hnew
                have hone1 := tokCs_one [⟨qa, qb, qc⟩]
                rw [show tokCs [⟨qa, qb, qc⟩] = tokC ⟨qa, qb, qc⟩ by simp [tokCs]] at hone1
                have hbox := box_one w1 #[.int .i64 qa, .int .i64 qb, .int .u8 qc] 117 (.cells #[.int .i64 qa, .int .i64 qb, .int .u8 qc] 117)
                have bA : Below w.heap.size w ((w1.alloc (.cells #[.int .i64 qa, .int .i64 qb, .int .u8 qc] 117)).alloc (.cells #[.int .i64 qa, .int .i64 qb, .int .u8 qc] 117)) := (b1.alloc b1.size _).alloc (by have := b1.size; simp; omega) _
                have hsA := bA.size
                have hrowA := (hrow1.alloc (.cells #[.int .i64 qa, .int .i64 qb, .int .u8 qc] 117)).alloc (.cells #[.int .i64 qa, .int .i64 qb, .int .u8 qc] 117)
                have hol : ∀ k, (Value.slice va done.length vc).ownBlock = some k → k < w1.heap.size := fun k h => own3_lt hrow1 h
                have H2 : Hid ((Fb : Int) / 2 = ((Fb / 2 : Nat) : Int)) := by show _ = _; omega
                clear hrow1 e1 htk hu
                go_wp2_with (at_builtin; refine wpList_append_own _ rfl (.tmp 36) (.tmp 38) 87 rfl w.heap.size 117 i0 _ 3 24 Tryd.underlying87 hi0 hz0 hz1 hz2 rfl (by decide) _ _ _ rfl hrowA ⟨w1.heap.size + 1, 0, none⟩ 1 1 (tokC ⟨qa, qb, qc⟩) rfl rfl hnew hone1 (by unfold maxLen; omega) (by omega) hsA ?_; intro v7 w7 ho7 hg7 _; obtain ⟨ta, tc, rfl⟩ := own3_form ho7; have hx7 : w7.heap[w1.heap.size]? = _ := (hg7.block w1.heap.size (lt_heap hbox) (fun h => by have := hol _ h.symm; omega)).trans hbox; obtain ⟨x70, x71, x72, -, -, -⟩ := box_three hx7)
                have b7 : Below w.heap.size w w7 := bA.grown hg7 hsA (fun _ h => own3_block hrowA h)
                refine (width_any qa qb qc w7).mono ?_
                rintro r w8 ⟨rfl, hb8⟩
                rw [hq3]
                have b8 : Below w.heap.size w w8 := b7.trans (hb8.mono b7.size)
                have ho8 : w8.ownsRow w.heap.size 117 3 (.slice ta (done ++ [(⟨qa, qb, qc⟩ : Tok)]).length tc) (done ++ [(⟨qa, qb, qc⟩ : Tok)]).length (tokCs (done ++ [⟨qa, qb, qc⟩])) := by
                  rw [List.length_append, List.length_singleton, tokCs_append, show tokCs [⟨qa, qb, qc⟩] = tokC ⟨qa, qb, qc⟩ by simp [tokCs]]
                  exact ho7.kept (w' := w8) (row := none) ⟨hb8.os, hb8.tape, hb8.output, hb8.size, fun k hk _ => hb8.block k hk⟩ (by cases (Value.slice ta (done.length + 1) tc).ownBlock <;> simp)
                clear hq3 hnew hone1 hbox bA hsA hrowA hol ho7 hg7 hx7 b7 hb8
                go_wp2_with fail
                exact ⟨⟨a2, Fb / 2, done ++ [⟨qa, qb, qc⟩], s - wd, by omega, by omega, by rw [List.length_append, List.length_singleton]; omega, by omega, rfl, by rw [← H2.out], HDn, ⟨ta, tc, by rw [List.length_append, List.length_singleton], ho8⟩, ⟨rA, rc, rfl, hrc, hrA⟩, b8⟩, by simp [intOf]; omega⟩
            · have hbit : bits BinOp.and IntKind.u8 (Fb : Int) 1 = 1 := by have h := and_one ⟨Fb, by omega⟩; rw [h]; show ((Fb % 2 : Nat) : Int) = _; omega
              have hdec : decide (Fb % 2 ≠ 0) = true := by simp; omega
              rw [hdec] at hR0
              clear hbx hco
              go_wp2_with fail
              go_quiet (fail)
              replace hrow : (wo.drewN nq).ownsRow w.heap.size 117 3 (.slice va done.length vc) done.length (tokCs done) := hrow
              have hbq : Below wo.heap.size wo (wo.drewN nq) := below_drewN' (Below.refl _ _) nq
              have hR := hR0 _ hbq
              replace hbr := hbr.trans (hbq.mono hsr)
              clear hR0 hbq
              generalize wo.drewN nq = wq at *
              have hsq := hbr.size
              go_wp2_with fail
              refine hR.mono ?_
              rintro r w1 ⟨v1, rfl, htr, hb1⟩
              have b1 : Below w.heap.size w w1 := hbr.trans (hb1.mono hsq)
              have hrow1 : w1.ownsRow w.heap.size 117 3 (.slice va done.length vc) done.length (tokCs done) := hrow.kept (w' := w1) (row := none) ⟨hb1.os, hb1.tape, hb1.output, hb1.size, fun k hk _ => hb1.block k hk⟩ (by cases (Value.slice va done.length vc).ownBlock <;> simp)
              clear hR hb1 hrow
              cases hu : unTok b (a + 1) Fb with
              | none =>
                rw [hu] at htr
                obtain rfl : v1 = .tuple #[.agg #[.int .i64 0, .int .i64 0, .int .u8 0], .slice none 0 0, .bool false] := htr
                have HE : Hid (readGo b S 0 2 0 = none) := by show _ = _; rw [HD.out, HNX.out, hu]; rfl
                clear hrow1
                go_wp2_with fail
                exact bodyPost_ret (v := .tuple #[.slice none 0 0, .bool false]) (by simp [results, Tryd.results57, go_sem]) rfl ⟨_, _, rfl, by rw [HE.out]; rfl, b1.alloc b1.size _⟩
              | some p =>
                obtain ⟨⟨qa, qb, qc⟩, a2⟩ := p
                rw [hu] at htr
                obtain ⟨rv2, rfl, hrest2⟩ := htr
                obtain ⟨rA, rc, rfl, hrc, hrA⟩ := hrest2
                have htk := unTok_tok hby hu
                have hq : 0 ≤ wid ⟨qa, qb, qc⟩ ∧ wid ⟨qa, qb, qc⟩ ≤ 100 ∧ 1 ≤ wid ⟨qa, qb, qc⟩ ∧ widI ⟨qa, qb, qc⟩ = wid ⟨qa, qb, qc⟩ := wid_of htk.1
                have HDn : Hid (readGo b S 0 2 0 = (readGo b (s - wid ⟨qa, qb, qc⟩) (done ++ [(⟨qa, qb, qc⟩ : Tok)]).length a2 (Fb / 2)).map fun r => ((done ++ [(⟨qa, qb, qc⟩ : Tok)]) ++ r.1, r.2)) := readGo_step HD.out HNX.out hu
                obtain ⟨hq0, hq1, hq2, hq3⟩ := hq
                generalize wid ⟨qa, qb, qc⟩ = wd at *
                have ha2 := htk.2
                have e1 : (w1.alloc (.cells #[.int .i64 qa, .int .i64 qb, .int .u8 qc] 117)).heap.size = w1.heap.size + 1 := by simp
                have hnew := lit_three (w1.alloc (.cells #[.int .i64 qa, .int .i64 qb, .int .u8 qc] 117)) qa qb qc 117
                rw [e1] at hnew
                have hone1 := tokCs_one [⟨qa, qb, qc⟩]
                rw [show tokCs [⟨qa, qb, qc⟩] = tokC ⟨qa, qb, qc⟩ by simp [tokCs]] at hone1
                have hbox := box_one w1 #[.int .i64 qa, .int .i64 qb, .int .u8 qc] 117 (.cells #[.int .i64 qa, .int .i64 qb, .int .u8 qc] 117)
                have bA : Below w.heap.size w ((w1.alloc (.cells #[.int .i64 qa, .int .i64 qb, .int .u8 qc] 117)).alloc (.cells #[.int .i64 qa, .int .i64 qb, .int .u8 qc] 117)) := (b1.alloc b1.size _).alloc (by have := b1.size; simp; omega) _
                have hsA := bA.size
                have hrowA := (hrow1.alloc (.cells #[.int .i64 qa, .int .i64 qb, .int .u8 qc] 117)).alloc (.cells #[.int .i64 qa, .int .i64 qb, .int .u8 qc] 117)
                have hol : ∀ k, (Value.slice va done.length vc).ownBlock = some k → k < w1.heap.size := fun k h => own3_lt hrow1 h
                have H2 : Hid ((Fb : Int) / 2 = ((Fb / 2 : Nat) : Int)) := by show _ = _; omega
                clear hrow1 e1 htk hu
                go_wp2_with (at_builtin; refine wpList_append_own _ rfl (.tmp 36) (.tmp 38) 87 rfl w.heap.size 117 i0 _ 3 24 Tryd.underlying87 hi0 hz0 hz1 hz2 rfl (by decide) _ _ _ rfl hrowA ⟨w1.heap.size + 1, 0, none⟩ 1 1 (tokC ⟨qa, qb, qc⟩) rfl rfl hnew hone1 (by unfold maxLen; omega) (by omega) hsA ?_; intro v7 w7 ho7 hg7 _; obtain ⟨ta, tc, rfl⟩ := own3_form ho7; have hx7 : w7.heap[w1.heap.size]? = _ := (hg7.block w1.heap.size (lt_heap hbox) (fun h => by have := hol _ h.symm; omega)).trans hbox; obtain ⟨x70, x71, x72, -, -, -⟩ := box_three hx7)
                have b7 : Below w.heap.size w w7 := bA.grown hg7 hsA (fun _ h => own3_block hrowA h)
                refine (width_any qa qb qc w7).mono ?_
                rintro r w8 ⟨rfl, hb8⟩
                rw [hq3]
                have b8 : Below w.heap.size w w8 := b7.trans (hb8.mono b7.size)
                have ho8 : w8.ownsRow w.heap.size 117 3 (.slice ta (done ++ [(⟨qa, qb, qc⟩ : Tok)]).length tc) (done ++ [(⟨qa, qb, qc⟩ : Tok)]).length (tokCs (done ++ [⟨qa, qb, qc⟩])) := by
                  rw [List.length_append, List.length_singleton, tokCs_append, show tokCs [⟨qa, qb, qc⟩] = tokC ⟨qa, qb, qc⟩ by simp [tokCs]]
                  exact ho7.kept (w' := w8) (row := none) ⟨hb8.os, hb8.tape, hb8.output, hb8.size, fun k hk _ => hb8.block k hk⟩ (by cases (Value.slice ta (done.length + 1) tc).ownBlock <;> simp)
                clear hq3 hnew hone1 hbox bA hsA hrowA hol ho7 hg7 hx7 b7 hb8
                go_wp2_with fail
                exact ⟨⟨a2, Fb / 2, done ++ [⟨qa, qb, qc⟩], s - wd, by omega, by omega, by rw [List.length_append, List.length_singleton]; omega, by omega, rfl, by rw [← H2.out], HDn, ⟨ta, tc, by rw [List.length_append, List.length_singleton], ho8⟩, ⟨rA, rc, rfl, hrc, hrA⟩, b8⟩, by simp [intOf]; omega⟩
          · have hrR : RestAt (.slice (some ⟨g, o + a + 1, none⟩) (n - 1) (c - 1)) b g o (a + 1) := by
              have := HN.out
              exact ⟨some ⟨g, o + (a + 1), none⟩, c - 1, by rw [show b.length - (a + 1) = n - 1 by omega]; rfl, by omega, .inl rfl⟩
            have hR0 := fun W (hW : Below wo.heap.size wo W) => readToken_any b hby g o (a + 1) Fb (.slice (some ⟨g, o + a + 1, none⟩) (n - 1) (c - 1)) W (.inr (Nat.lt_of_lt_of_le hgo hW.size)) (fun j hj => (hW.cell (p := ⟨g, o + j, none⟩) hgo).trans (hco j hj)) hrR
            rcases (show Fb % 2 = 0 ∨ Fb % 2 = 1 by omega) with hbx | hbx
            · have hbit : bits BinOp.and IntKind.u8 (Fb : Int) 1 = 0 := by have h := and_one ⟨Fb, by omega⟩; rw [h]; show ((Fb % 2 : Nat) : Int) = _; omega
              have hdec : decide (Fb % 2 ≠ 0) = false := by simp; omega
              rw [hdec] at hR0
              clear hbx hco
              go_wp2_with fail
              go_quiet (fail)
              replace hrow : (wo.drewN nq).ownsRow w.heap.size 117 3 (.slice va done.length vc) done.length (tokCs done) := hrow
              have hbq : Below wo.heap.size wo (wo.drewN nq) := below_drewN' (Below.refl _ _) nq
              have hR := hR0 _ hbq
              replace hbr := hbr.trans (hbq.mono hsr)
              clear hR0 hbq
              generalize wo.drewN nq = wq at *
              have hsq := hbr.size
              go_wp2_with fail
              refine hR.mono ?_
              rintro r w1 ⟨v1, rfl, htr, hb1⟩
              have b1 : Below w.heap.size w w1 := hbr.trans (hb1.mono hsq)
              have hrow1 : w1.ownsRow w.heap.size 117 3 (.slice va done.length vc) done.length (tokCs done) := hrow.kept (w' := w1) (row := none) ⟨hb1.os, hb1.tape, hb1.output, hb1.size, fun k hk _ => hb1.block k hk⟩ (by cases (Value.slice va done.length vc).ownBlock <;> simp)
              clear hR hb1 hrow
              cases hu : unTok b (a + 1) Fb with
              | none =>
                rw [hu] at htr
                obtain rfl : v1 = .tuple #[.agg #[.int .i64 0, .int .i64 0, .int .u8 0], .slice none 0 0, .bool false] := htr
                have HE : Hid (readGo b S 0 2 0 = none) := by show _ = _; rw [HD.out, HNX.out, hu]; rfl
                clear hrow1
                go_wp2_with fail
                exact bodyPost_ret (v := .tuple #[.slice none 0 0, .bool false]) (by simp [results, Tryd.results57, go_sem]) rfl ⟨_, _, rfl, by rw [HE.out]; rfl, b1.alloc b1.size _⟩
              | some p =>
                obtain ⟨⟨qa, qb, qc⟩, a2⟩ := p
                rw [hu] at htr
                obtain ⟨rv2, rfl, hrest2⟩ := htr
                obtain ⟨rA, rc, rfl, hrc, hrA⟩ := hrest2
                have htk := unTok_tok hby hu
                have hq : 0 ≤ wid ⟨qa, qb, qc⟩ ∧ wid ⟨qa, qb, qc⟩ ≤ 100 ∧ 1 ≤ wid ⟨qa, qb, qc⟩ ∧ widI ⟨qa, qb, qc⟩ = wid ⟨qa, qb, qc⟩ := wid_of htk.1
                have HDn : Hid (readGo b S 0 2 0 = (readGo b (s - wid ⟨qa, qb, qc⟩) (done ++ [(⟨qa, qb, qc⟩ : Tok)]).length a2 (Fb / 2)).map fun r => ((done ++ [(⟨qa, qb, qc⟩ : Tok)]) ++ r.1, r.2)) := readGo_step HD.out HNX.out hu
                obtain ⟨hq0, hq1, hq2, hq3⟩ := hq
                generalize wid ⟨qa, qb, qc⟩ = wd at *
                have ha2 := htk.2
                have e1 : (w1.alloc (.cells #[.int .i64 qa, .int .i64 qb, .int .u8 qc] 117)).heap.size = w1.heap.size + 1 := by simp
                have hnew := lit_three (w1.alloc (.cells #[.int .i64 qa, .int .i64 qb, .int .u8 qc] 117)) qa qb qc 117
                rw [e1] at hnew
                have hone1 := tokCs_one [⟨qa, qb, qc⟩]
                rw [show tokCs [⟨qa, qb, qc⟩] = tokC ⟨qa, qb, qc⟩ by simp [tokCs]] at hone1
                have hbox := box_one w1 #[.int .i64 qa, .int .i64 qb, .int .u8 qc] 117 (.cells #[.int .i64 qa, .int .i64 qb, .int .u8 qc] 117)
                have bA : Below w.heap.size w ((w1.alloc (.cells #[.int .i64 qa, .int .i64 qb, .int .u8 qc] 117)).alloc (.cells #[.int .i64 qa, .int .i64 qb, .int .u8 qc] 117)) := (b1.alloc b1.size _).alloc (by have := b1.size; simp; omega) _
                have hsA := bA.size
                have hrowA := (hrow1.alloc (.cells #[.int .i64 qa, .int .i64 qb, .int .u8 qc] 117)).alloc (.cells #[.int .i64 qa, .int .i64 qb, .int .u8 qc] 117)
                have hol : ∀ k, (Value.slice va done.length vc).ownBlock = some k → k < w1.heap.size := fun k h => own3_lt hrow1 h
                have H2 : Hid ((Fb : Int) / 2 = ((Fb / 2 : Nat) : Int)) := by show _ = _; omega
                clear hrow1 e1 htk hu
                go_wp2_with (at_builtin; refine wpList_append_own _ rfl (.tmp 36) (.tmp 38) 87 rfl w.heap.size 117 i0 _ 3 24 Tryd.underlying87 hi0 hz0 hz1 hz2 rfl (by decide) _ _ _ rfl hrowA ⟨w1.heap.size + 1, 0, none⟩ 1 1 (tokC ⟨qa, qb, qc⟩) rfl rfl hnew hone1 (by unfold maxLen; omega) (by omega) hsA ?_; intro v7 w7 ho7 hg7 _; obtain ⟨ta, tc, rfl⟩ := own3_form ho7; have hx7 : w7.heap[w1.heap.size]? = _ := (hg7.block w1.heap.size (lt_heap hbox) (fun h => by have := hol _ h.symm; omega)).trans hbox; obtain ⟨x70, x71, x72, -, -, -⟩ := box_three hx7)
                have b7 : Below w.heap.size w w7 := bA.grown hg7 hsA (fun _ h => own3_block hrowA h)
                refine (width_any qa qb qc w7).mono ?_
                rintro r w8 ⟨rfl, hb8⟩
                rw [hq3]
                have b8 : Below w.heap.size w w8 := b7.trans (hb8.mono b7.size)
                have ho8 : w8.ownsRow w.heap.size 117 3 (.slice ta (done ++ [(⟨qa, qb, qc⟩ : Tok)]).length tc) (done ++ [(⟨qa, qb, qc⟩ : Tok)]).length (tokCs (done ++ [⟨qa, qb, qc⟩])) := by
                  rw [List.length_append, List.length_singleton, tokCs_append, show tokCs [⟨qa, qb, qc⟩] = tokC ⟨qa, qb, qc⟩ by simp [tokCs]]
                  exact ho7.kept (w' := w8) (row := none) ⟨hb8.os, hb8.tape, hb8.output, hb8.size, fun k hk _ => hb8.block k hk⟩ (by cases (Value.slice ta (done.length + 1) tc).ownBlock <;> simp)
                clear hq3 hnew hone1 hbox bA hsA hrowA hol ho7 hg7 hx7 b7 hb8
                go_wp2_with fail
                exact ⟨⟨a2, Fb / 2, done ++ [⟨qa, qb, qc⟩], s - wd, by omega, by omega, by rw [List.length_append, List.length_singleton]; omega, by omega, rfl, by rw [← H2.out], HDn, ⟨ta, tc, by rw [List.length_append, List.length_singleton], ho8⟩, ⟨rA, rc, rfl, hrc, hrA⟩, b8⟩, by simp [intOf]; omega⟩
            · have hbit : bits BinOp.and IntKind.u8 (Fb : Int) 1 = 1 := by have h := and_one ⟨Fb, by omega⟩; rw [h]; show ((Fb % 2 : Nat) : Int) = _; omega
              have hdec : decide (Fb % 2 ≠ 0) = true := by simp; omega
              rw [hdec] at hR0
              clear hbx hco
              go_wp2_with fail
              go_quiet (fail)
              replace hrow : (wo.drewN nq).ownsRow w.heap.size 117 3 (.slice va done.length vc) done.length (tokCs done) := hrow
              have hbq : Below wo.heap.size wo (wo.drewN nq) := below_drewN' (Below.refl _ _) nq
              have hR := hR0 _ hbq
              replace hbr := hbr.trans (hbq.mono hsr)
              clear hR0 hbq
              generalize wo.drewN nq = wq at *
              have hsq := hbr.size
              go_wp2_with fail
              refine hR.mono ?_
              rintro r w1 ⟨v1, rfl, htr, hb1⟩
              have b1 : Below w.heap.size w w1 := hbr.trans (hb1.mono hsq)
              have hrow1 : w1.ownsRow w.heap.size 117 3 (.slice va done.length vc) done.length (tokCs done) := hrow.kept (w' := w1) (row := none) ⟨hb1.os, hb1.tape, hb1.output, hb1.size, fun k hk _ => hb1.block k hk⟩ (by cases (Value.slice va done.length vc).ownBlock <;> simp)
              clear hR hb1 hrow
              cases hu : unTok b (a + 1) Fb with
              | none =>
                rw [hu] at htr
                obtain rfl : v1 = .tuple #[.agg #[.int .i64 0, .int .i64 0, .int .u8 0], .slice none 0 0, .bool false] := htr
                have HE : Hid (readGo b S 0 2 0 = none) := by show _ = _; rw [HD.out, HNX.out, hu]; rfl
                clear hrow1
                go_wp2_with fail
                exact bodyPost_ret (v := .tuple #[.slice none 0 0, .bool false]) (by simp [results, Tryd.results57, go_sem]) rfl ⟨_, _, rfl, by rw [HE.out]; rfl, b1.alloc b1.size _⟩
              | some p =>
                obtain ⟨⟨qa, qb, qc⟩, a2⟩ := p
                rw [hu] at htr
                obtain ⟨rv2, rfl, hrest2⟩ := htr
                obtain ⟨rA, rc, rfl, hrc, hrA⟩ := hrest2
                have htk := unTok_tok hby hu
                have hq : 0 ≤ wid ⟨qa, qb, qc⟩ ∧ wid ⟨qa, qb, qc⟩ ≤ 100 ∧ 1 ≤ wid ⟨qa, qb, qc⟩ ∧ widI ⟨qa, qb, qc⟩ = wid ⟨qa, qb, qc⟩ := wid_of htk.1
                have HDn : Hid (readGo b S 0 2 0 = (readGo b (s - wid ⟨qa, qb, qc⟩) (done ++ [(⟨qa, qb, qc⟩ : Tok)]).length a2 (Fb / 2)).map fun r => ((done ++ [(⟨qa, qb, qc⟩ : Tok)]) ++ r.1, r.2)) := readGo_step HD.out HNX.out hu
                obtain ⟨hq0, hq1, hq2, hq3⟩ := hq
                generalize wid ⟨qa, qb, qc⟩ = wd at *
                have ha2 := htk.2
                have e1 : (w1.alloc (.cells #[.int .i64 qa, .int .i64 qb, .int .u8 qc] 117)).heap.size = w1.heap.size + 1 := by simp
                have hnew := lit_three (w1.alloc (.cells #[.int .i64 qa, .int .i64 qb, .int .u8 qc] 117)) qa qb qc 117
                rw [e1] at hnew
                have hone1 := tokCs_one [⟨qa, qb, qc⟩]
                rw [show tokCs [⟨qa, qb, qc⟩] = tokC ⟨qa, qb, qc⟩ by simp [tokCs]] at hone1
                have hbox := box_one w1 #[.int .i64 qa, .int .i64 qb, .int .u8 qc] 117 (.cells #[.int .i64 qa, .int .i64 qb, .int .u8 qc] 117)
                have bA : Below w.heap.size w ((w1.alloc (.cells #[.int .i64 qa, .int .i64 qb, .int .u8 qc] 117)).alloc (.cells #[.int .i64 qa, .int .i64 qb, .int .u8 qc] 117)) := (b1.alloc b1.size _).alloc (by have := b1.size; simp; omega) _
                have hsA := bA.size
                have hrowA := (hrow1.alloc (.cells #[.int .i64 qa, .int .i64 qb, .int .u8 qc] 117)).alloc (.cells #[.int .i64 qa, .int .i64 qb, .int .u8 qc] 117)
                have hol : ∀ k, (Value.slice va done.length vc).ownBlock = some k → k < w1.heap.size := fun k h => own3_lt hrow1 h
                have H2 : Hid ((Fb : Int) / 2 = ((Fb / 2 : Nat) : Int)) := by show _ = _; omega
                clear hrow1 e1 htk hu
                go_wp2_with (at_builtin; refine wpList_append_own _ rfl (.tmp 36) (.tmp 38) 87 rfl w.heap.size 117 i0 _ 3 24 Tryd.underlying87 hi0 hz0 hz1 hz2 rfl (by decide) _ _ _ rfl hrowA ⟨w1.heap.size + 1, 0, none⟩ 1 1 (tokC ⟨qa, qb, qc⟩) rfl rfl hnew hone1 (by unfold maxLen; omega) (by omega) hsA ?_; intro v7 w7 ho7 hg7 _; obtain ⟨ta, tc, rfl⟩ := own3_form ho7; have hx7 : w7.heap[w1.heap.size]? = _ := (hg7.block w1.heap.size (lt_heap hbox) (fun h => by have := hol _ h.symm; omega)).trans hbox; obtain ⟨x70, x71, x72, -, -, -⟩ := box_three hx7)
                have b7 : Below w.heap.size w w7 := bA.grown hg7 hsA (fun _ h => own3_block hrowA h)
                refine (width_any qa qb qc w7).mono ?_
                rintro r w8 ⟨rfl, hb8⟩
                rw [hq3]
                have b8 : Below w.heap.size w w8 := b7.trans (hb8.mono b7.size)
                have ho8 : w8.ownsRow w.heap.size 117 3 (.slice ta (done ++ [(⟨qa, qb, qc⟩ : Tok)]).length tc) (done ++ [(⟨qa, qb, qc⟩ : Tok)]).length (tokCs (done ++ [⟨qa, qb, qc⟩])) := by
                  rw [List.length_append, List.length_singleton, tokCs_append, show tokCs [⟨qa, qb, qc⟩] = tokC ⟨qa, qb, qc⟩ by simp [tokCs]]
                  exact ho7.kept (w' := w8) (row := none) ⟨hb8.os, hb8.tape, hb8.output, hb8.size, fun k hk _ => hb8.block k hk⟩ (by cases (Value.slice ta (done.length + 1) tc).ownBlock <;> simp)
                clear hq3 hnew hone1 hbox bA hsA hrowA hol ho7 hg7 hx7 b7 hb8
                go_wp2_with fail
                exact ⟨⟨a2, Fb / 2, done ++ [⟨qa, qb, qc⟩], s - wd, by omega, by omega, by rw [List.length_append, List.length_singleton]; omega, by omega, rfl, by rw [← H2.out], HDn, ⟨ta, tc, by rw [List.length_append, List.length_singleton], ho8⟩, ⟨rA, rc, rfl, hrc, hrA⟩, b8⟩, by simp [intOf]; omega⟩
        · have HE : Hid (readGo b S 0 2 0 = none) := by show _ = _; rw [HD.out, readGo_short hpos h8 hal]; rfl
          obtain ⟨n, hn⟩ : ∃ n, n = b.length - a := ⟨_, rfl⟩
          rw [← hn]
          obtain rfl : n = 0 := by omega
          clear hn hcell hco hA hac h8 hrow
          go_wp2_with fail
          exact bodyPost_ret (v := .tuple #[.slice none 0 0, .bool false]) (by simp [results, Tryd.results57, go_sem]) rfl ⟨_, _, rfl, by rw [HE.out]; rfl, hbr⟩
      · have h8i : ¬ (done.length : Int) % 8 = 0 := by omega
        have HNX : Hid _ := readGo_next (b := b) (n := done.length) (a := a) (f := f) (A1 := a) (F1 := f) hpos (.inr ⟨h8, rfl, rfl⟩)
        have hR0 := fun W (hW : Below wo.heap.size wo W) => readToken_any b hby g o a f (.slice A (b.length - a) c) W (.inr (Nat.lt_of_lt_of_le hgo hW.size)) (fun j hj => (hW.cell (p := ⟨g, o + j, none⟩) hgo).trans (hco j hj)) ⟨A, c, rfl, hac, hA⟩
        clear h8
        rcases (show f % 2 = 0 ∨ f % 2 = 1 by omega) with hbx | hbx
        · have hbit : bits BinOp.and IntKind.u8 (f : Int) 1 = 0 := by have h := and_one ⟨f, by omega⟩; rw [h]; show ((f % 2 : Nat) : Int) = _; omega
          have hdec : decide (f % 2 ≠ 0) = false := by simp; omega
          rw [hdec] at hR0
          have hR := hR0 _ (Below.refl _ _)
          clear hR0
          go_wp2_with fail
          refine hR.mono ?_
          rintro r w1 ⟨v1, rfl, htr, hb1⟩
          have b1 : Below w.heap.size w w1 := hbr.trans (hb1.mono hsr)
          have hrow1 : w1.ownsRow w.heap.size 117 3 (.slice va done.length vc) done.length (tokCs done) := hrow.kept (w' := w1) (row := none) ⟨hb1.os, hb1.tape, hb1.output, hb1.size, fun k hk _ => hb1.block k hk⟩ (by cases (Value.slice va done.length vc).ownBlock <;> simp)
          clear hR hb1 hrow
          cases hu : unTok b a f with
          | none =>
            rw [hu] at htr
            obtain rfl : v1 = .tuple #[.agg #[.int .i64 0, .int .i64 0, .int .u8 0], .slice none 0 0, .bool false] := htr
            have HE : Hid (readGo b S 0 2 0 = none) := by show _ = _; rw [HD.out, HNX.out, hu]; rfl
            clear hrow1
            go_wp2_with fail
            exact bodyPost_ret (v := .tuple #[.slice none 0 0, .bool false]) (by simp [results, Tryd.results57, go_sem]) rfl ⟨_, _, rfl, by rw [HE.out]; rfl, b1.alloc b1.size _⟩
          | some p =>
            obtain ⟨⟨qa, qb, qc⟩, a2⟩ := p
            rw [hu] at htr
            obtain ⟨rv2, rfl, hrest2⟩ := htr
            obtain ⟨rA, rc, rfl, hrc, hrA⟩ := hrest2
            have htk := unTok_tok hby hu
            have hq : 0 ≤ wid ⟨qa, qb, qc⟩ ∧ wid ⟨qa, qb, qc⟩ ≤ 100 ∧ 1 ≤ wid ⟨qa, qb, qc⟩ ∧ widI ⟨qa, qb, qc⟩ = wid ⟨qa, qb, qc⟩ := wid_of htk.1
            have HDn : Hid (readGo b S 0 2 0 = (readGo b (s - wid ⟨qa, qb, qc⟩) (done ++ [(⟨qa, qb, qc⟩ : Tok)]).length a2 (f / 2)).map fun r => ((done ++ [(⟨qa, qb, qc⟩ : Tok)]) ++ r.1, r.2)) := readGo_step HD.out HNX.out hu
            obtain ⟨hq0, hq1, hq2, hq3⟩ := hq
            generalize wid ⟨qa, qb, qc⟩ = wd at *
            have ha2 := htk.2
            have e1 : (w1.alloc (.cells #[.int .i64 qa, .int .i64 qb, .int .u8 qc] 117)).heap.size = w1.heap.size + 1 := by simp
            have hnew := lit_three (w1.alloc (.cells #[.int .i64 qa, .int .i64 qb, .int .u8 qc] 117)) qa qb qc 117
            rw [e1] at hnew
            have hone1 := tokCs_one [⟨qa, qb, qc⟩]
            rw [show tokCs [⟨qa, qb, qc⟩] = tokC ⟨qa, qb, qc⟩ by simp [tokCs]] at hone1
            have hbox := box_one w1 #[.int .i64 qa, .int .i64 qb, .int .u8 qc] 117 (.cells #[.int .i64 qa, .int .i64 qb, .int .u8 qc] 117)
            have bA : Below w.heap.size w ((w1.alloc (.cells #[.int .i64 qa, .int .i64 qb, .int .u8 qc] 117)).alloc (.cells #[.int .i64 qa, .int .i64 qb, .int .u8 qc] 117)) := (b1.alloc b1.size _).alloc (by have := b1.size; simp; omega) _
            have hsA := bA.size
            have hrowA := (hrow1.alloc (.cells #[.int .i64 qa, .int .i64 qb, .int .u8 qc] 117)).alloc (.cells #[.int .i64 qa, .int .i64 qb, .int .u8 qc] 117)
            have hol : ∀ k, (Value.slice va done.length vc).ownBlock = some k → k < w1.heap.size := fun k h => own3_lt hrow1 h
            have H2 : Hid ((f : Int) / 2 = ((f / 2 : Nat) : Int)) := by show _ = _; omega
            clear hrow1 e1 htk hu
            go_wp2_with (at_builtin; refine wpList_append_own _ rfl (.tmp 36) (.tmp 38) 87 rfl w.heap.size 117 i0 _ 3 24 Tryd.underlying87 hi0 hz0 hz1 hz2 rfl (by decide) _ _ _ rfl hrowA ⟨w1.heap.size + 1, 0, none⟩ 1 1 (tokC ⟨qa, qb, qc⟩) rfl rfl hnew hone1 (by unfold maxLen; omega) (by omega) hsA ?_; intro v7 w7 ho7 hg7 _; obtain ⟨ta, tc, rfl⟩ := own3_form ho7; have hx7 : w7.heap[w1.heap.size]? = _ := (hg7.block w1.heap.size (lt_heap hbox) (fun h => by have := hol _ h.symm; omega)).trans hbox; obtain ⟨x70, x71, x72, -, -, -⟩ := box_three hx7)
            have b7 : Below w.heap.size w w7 := bA.grown hg7 hsA (fun _ h => own3_block hrowA h)
            refine (width_any qa qb qc w7).mono ?_
            rintro r w8 ⟨rfl, hb8⟩
            rw [hq3]
            have b8 : Below w.heap.size w w8 := b7.trans (hb8.mono b7.size)
            have ho8 : w8.ownsRow w.heap.size 117 3 (.slice ta (done ++ [(⟨qa, qb, qc⟩ : Tok)]).length tc) (done ++ [(⟨qa, qb, qc⟩ : Tok)]).length (tokCs (done ++ [⟨qa, qb, qc⟩])) := by
              rw [List.length_append, List.length_singleton, tokCs_append, show tokCs [⟨qa, qb, qc⟩] = tokC ⟨qa, qb, qc⟩ by simp [tokCs]]
              exact ho7.kept (w' := w8) (row := none) ⟨hb8.os, hb8.tape, hb8.output, hb8.size, fun k hk _ => hb8.block k hk⟩ (by cases (Value.slice ta (done.length + 1) tc).ownBlock <;> simp)
            clear hq3 hnew hone1 hbox bA hsA hrowA hol ho7 hg7 hx7 b7 hb8
            go_wp2_with fail
            exact ⟨⟨a2, f / 2, done ++ [⟨qa, qb, qc⟩], s - wd, by omega, by omega, by rw [List.length_append, List.length_singleton]; omega, by omega, rfl, by rw [← H2.out], HDn, ⟨ta, tc, by rw [List.length_append, List.length_singleton], ho8⟩, ⟨rA, rc, rfl, hrc, hrA⟩, b8⟩, by simp [intOf]; omega⟩
        · have hbit : bits BinOp.and IntKind.u8 (f : Int) 1 = 1 := by have h := and_one ⟨f, by omega⟩; rw [h]; show ((f % 2 : Nat) : Int) = _; omega
          have hdec : decide (f % 2 ≠ 0) = true := by simp; omega
          rw [hdec] at hR0
          have hR := hR0 _ (Below.refl _ _)
          clear hR0
          go_wp2_with fail
          refine hR.mono ?_
          rintro r w1 ⟨v1, rfl, htr, hb1⟩
          have b1 : Below w.heap.size w w1 := hbr.trans (hb1.mono hsr)
          have hrow1 : w1.ownsRow w.heap.size 117 3 (.slice va done.length vc) done.length (tokCs done) := hrow.kept (w' := w1) (row := none) ⟨hb1.os, hb1.tape, hb1.output, hb1.size, fun k hk _ => hb1.block k hk⟩ (by cases (Value.slice va done.length vc).ownBlock <;> simp)
          clear hR hb1 hrow
          cases hu : unTok b a f with
          | none =>
            rw [hu] at htr
            obtain rfl : v1 = .tuple #[.agg #[.int .i64 0, .int .i64 0, .int .u8 0], .slice none 0 0, .bool false] := htr
            have HE : Hid (readGo b S 0 2 0 = none) := by show _ = _; rw [HD.out, HNX.out, hu]; rfl
            clear hrow1
            go_wp2_with fail
            exact bodyPost_ret (v := .tuple #[.slice none 0 0, .bool false]) (by simp [results, Tryd.results57, go_sem]) rfl ⟨_, _, rfl, by rw [HE.out]; rfl, b1.alloc b1.size _⟩
          | some p =>
            obtain ⟨⟨qa, qb, qc⟩, a2⟩ := p
            rw [hu] at htr
            obtain ⟨rv2, rfl, hrest2⟩ := htr
            obtain ⟨rA, rc, rfl, hrc, hrA⟩ := hrest2
            have htk := unTok_tok hby hu
            have hq : 0 ≤ wid ⟨qa, qb, qc⟩ ∧ wid ⟨qa, qb, qc⟩ ≤ 100 ∧ 1 ≤ wid ⟨qa, qb, qc⟩ ∧ widI ⟨qa, qb, qc⟩ = wid ⟨qa, qb, qc⟩ := wid_of htk.1
            have HDn : Hid (readGo b S 0 2 0 = (readGo b (s - wid ⟨qa, qb, qc⟩) (done ++ [(⟨qa, qb, qc⟩ : Tok)]).length a2 (f / 2)).map fun r => ((done ++ [(⟨qa, qb, qc⟩ : Tok)]) ++ r.1, r.2)) := readGo_step HD.out HNX.out hu
            obtain ⟨hq0, hq1, hq2, hq3⟩ := hq
            generalize wid ⟨qa, qb, qc⟩ = wd at *
            have ha2 := htk.2
            have e1 : (w1.alloc (.cells #[.int .i64 qa, .int .i64 qb, .int .u8 qc] 117)).heap.size = w1.heap.size + 1 := by simp
            have hnew := lit_three (w1.alloc (.cells #[.int .i64 qa, .int .i64 qb, .int .u8 qc] 117)) qa qb qc 117
            rw [e1] at hnew
            have hone1 := tokCs_one [⟨qa, qb, qc⟩]
            rw [show tokCs [⟨qa, qb, qc⟩] = tokC ⟨qa, qb, qc⟩ by simp [tokCs]] at hone1
            have hbox := box_one w1 #[.int .i64 qa, .int .i64 qb, .int .u8 qc] 117 (.cells #[.int .i64 qa, .int .i64 qb, .int .u8 qc] 117)
            have bA : Below w.heap.size w ((w1.alloc (.cells #[.int .i64 qa, .int .i64 qb, .int .u8 qc] 117)).alloc (.cells #[.int .i64 qa, .int .i64 qb, .int .u8 qc] 117)) := (b1.alloc b1.size _).alloc (by have := b1.size; simp; omega) _
            have hsA := bA.size
            have hrowA := (hrow1.alloc (.cells #[.int .i64 qa, .int .i64 qb, .int .u8 qc] 117)).alloc (.cells #[.int .i64 qa, .int .i64 qb, .int .u8 qc] 117)
            have hol : ∀ k, (Value.slice va done.length vc).ownBlock = some k → k < w1.heap.size := fun k h => own3_lt hrow1 h
            have H2 : Hid ((f : Int) / 2 = ((f / 2 : Nat) : Int)) := by show _ = _; omega
            clear hrow1 e1 htk hu
            go_wp2_with (at_builtin; refine wpList_append_own _ rfl (.tmp 36) (.tmp 38) 87 rfl w.heap.size 117 i0 _ 3 24 Tryd.underlying87 hi0 hz0 hz1 hz2 rfl (by decide) _ _ _ rfl hrowA ⟨w1.heap.size + 1, 0, none⟩ 1 1 (tokC ⟨qa, qb, qc⟩) rfl rfl hnew hone1 (by unfold maxLen; omega) (by omega) hsA ?_; intro v7 w7 ho7 hg7 _; obtain ⟨ta, tc, rfl⟩ := own3_form ho7; have hx7 : w7.heap[w1.heap.size]? = _ := (hg7.block w1.heap.size (lt_heap hbox) (fun h => by have := hol _ h.symm; omega)).trans hbox; obtain ⟨x70, x71, x72, -, -, -⟩ := box_three hx7)
            have b7 : Below w.heap.size w w7 := bA.grown hg7 hsA (fun _ h => own3_block hrowA h)
            refine (width_any qa qb qc w7).mono ?_
            rintro r w8 ⟨rfl, hb8⟩
            rw [hq3]
            have b8 : Below w.heap.size w w8 := b7.trans (hb8.mono b7.size)
            have ho8 : w8.ownsRow w.heap.size 117 3 (.slice ta (done ++ [(⟨qa, qb, qc⟩ : Tok)]).length tc) (done ++ [(⟨qa, qb, qc⟩ : Tok)]).length (tokCs (done ++ [⟨qa, qb, qc⟩])) := by
              rw [List.length_append, List.length_singleton, tokCs_append, show tokCs [⟨qa, qb, qc⟩] = tokC ⟨qa, qb, qc⟩ by simp [tokCs]]
              exact ho7.kept (w' := w8) (row := none) ⟨hb8.os, hb8.tape, hb8.output, hb8.size, fun k hk _ => hb8.block k hk⟩ (by cases (Value.slice ta (done.length + 1) tc).ownBlock <;> simp)
            clear hq3 hnew hone1 hbox bA hsA hrowA hol ho7 hg7 hx7 b7 hb8
            go_wp2_with fail
            exact ⟨⟨a2, f / 2, done ++ [⟨qa, qb, qc⟩], s - wd, by omega, by omega, by rw [List.length_append, List.length_singleton]; omega, by omega, rfl, by rw [← H2.out], HDn, ⟨ta, tc, by rw [List.length_append, List.length_singleton], ho8⟩, ⟨rA, rc, rfl, hrc, hrA⟩, b8⟩, by simp [intOf]; omega⟩
    · have HE : Hid (readGo b S 0 2 0 = some (done, s, a, f)) := by show _ = _; rw [HD.out, readGo_end hpos]; simp
      have hT := toksAt_own hrow
      have hne : ¬ (0 : Int) < s := hpos
      obtain ⟨n, hn⟩ : ∃ n, n = b.length - a := ⟨_, rfl⟩
      rw [← hn]
      clear hrow hcell hco hgo hA HD hac
      rcases (show (¬ s = 0 ∧ decide (s = 0 ∧ f = 0 ∧ a = b.length) = false) ∨ (s = 0 ∧ ¬ f = 0 ∧ decide (s = 0 ∧ f = 0 ∧ a = b.length) = false) ∨ (s = 0 ∧ f = 0 ∧ ¬ n = 0 ∧ decide (s = 0 ∧ f = 0 ∧ a = b.length) = false) ∨ (s = 0 ∧ f = 0 ∧ n = 0 ∧ decide (s = 0 ∧ f = 0 ∧ a = b.length) = true) by simp only [decide_eq_false_iff_not, decide_eq_true_eq]; omega) with ⟨c1, hd⟩ | ⟨rfl, c2, hd⟩ | ⟨rfl, rfl, c3, hd⟩ | ⟨rfl, rfl, c3, hd⟩
      · have c1' : (s == 0) = false := by simpa using c1
        have HX : Hid (okL b (readGo b S 0 2 0) wo (.slice va done.length vc) false) := by show okL _ _ _ _ _; rw [HE.out]; exact ⟨hd.symm, hT⟩
        clear hd hn HE hT
        go_wp2_with fail
        exact bodyPost_ret (v := .tuple #[.slice va done.length vc, .bool false]) (by simp [results, Tryd.results57, go_sem]) rfl ⟨_, .inl ⟨rfl, HX.out, hbr⟩⟩
      · have c2' : ((f : Int) == 0) = false := by simpa using c2
        have HX : Hid (okL b (readGo b S 0 2 0) wo (.slice va done.length vc) false) := by show okL _ _ _ _ _; rw [HE.out]; exact ⟨hd.symm, hT⟩
        clear hd hn HE hT
        go_wp2_with fail
        exact bodyPost_ret (v := .tuple #[.slice va done.length vc, .bool false]) (by simp [results, Tryd.results57, go_sem]) rfl ⟨_, .inl ⟨rfl, HX.out, hbr⟩⟩
      · have c3' : ((n : Int) == 0) = false := by simpa using c3
        have HX : Hid (okL b (readGo b S 0 2 0) wo (.slice va done.length vc) false) := by show okL _ _ _ _ _; rw [HE.out]; exact ⟨hd.symm, hT⟩
        clear hd hn HE hT
        go_wp2_with fail
        exact bodyPost_ret (v := .tuple #[.slice va done.length vc, .bool false]) (by simp [results, Tryd.results57, go_sem]) rfl ⟨_, .inl ⟨rfl, HX.out, hbr⟩⟩
      · subst c3
        have HX : Hid (okL b (readGo b S 0 2 0) wo (.slice va done.length vc) true) := by show okL _ _ _ _ _; rw [HE.out]; exact ⟨hd.symm, hT⟩
        clear hd hn HE hT
        go_wp2_with fail
        exact bodyPost_ret (v := .tuple #[.slice va done.length vc, .bool true]) (by simp [results, Tryd.results57, go_sem]) rfl ⟨_, .inr ⟨rfl, HX.out, hbr⟩⟩

end Go.Proofs.YtkjlchfmplcobadDoor
