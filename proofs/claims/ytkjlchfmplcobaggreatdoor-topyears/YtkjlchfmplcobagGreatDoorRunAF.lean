/- TopUnlike, TopHeadsWalk, TopYearsM, TopYearsWalk, as one text. -/
import Derived.Test.YtkjlchfmplcobagGreatDoorProg
import Derived.Test.YtkjlchfmplcobagGreatDoorRunAB
import Derived.WalkKit
import Derived.WalkSpells
import Derived.WalkLawsBesides
import Derived.Maps.OwnSet
import Derived.StringKeys
import Derived.Laws.BytesArg
import Derived.Shelf.Bytes.SlSmallAll
import Derived.Deep.RegionHeld3
import Derived.BigRegion
/- The walk of yeartop.unlike. -/
namespace Go.Proofs.YtkjlchfmplcobagGreatDoor
open Go.RowKit Go.Maps

theorem Tryz.keyStr : Keyed Tryz.prog 9 := string_keyed Tryz.underlying9
theorem plainElem_bool_inv {P : Program} {e : TypeId} (he : P.underlying e = some .bool) {v : Value} {z : DataW Unit × List MemPlace} (h : plainElem P e v = some z) : ∃ a, v = .bool a ∧ z = (.lit (.bool a), []) := by
  unfold plainElem at h
  rw [he] at h
  cases v <;> simp at h
  subst h
  exact ⟨_, rfl, rfl⟩
set_option maxRecDepth 100000 in
theorem conv_some {w : World} {pa : Option Addr} {pc n : Nat} {b : List Int} (h : Some' w (.slice pa n pc) b) (hn : b.length = n) : (convert 36 9 (.slice pa n pc)).run Tryz.prog w = .ok (.string (strOfNums b)) w := by
  rcases h.at' with ⟨rfl, a, c, e, -⟩ | ⟨g, off, cp, e, -, hc⟩
  · cases e
    exact Go.Proofs.run_convert_bytes_zero w _ _ Tryz.underlying36 Tryz.underlying5 _ _ _ Tryz.underlying9
  · cases e
    exact run_convert_bytes_arg w _ _ Tryz.underlying36 Tryz.underlying5 g off _ _ b rfl hc _ Tryz.underlying9
/-- The key of an entry. -/
def keyL (e : List Int) : Lit := .string (strOfNums e).data.toList
theorem keyL_key {e : List Int} (h : e.length ≤ maxLen) : keyOf Tryz.prog 9 (.string (strOfNums e)) = some (keyL e) := _root_.Go.WideMaps.keyOf_string_mk Tryz.underlying9 (by rw [strOfNums_size]; exact h)
/-- What is had so far. -/
structure Had (es : List (List Int)) (j : Nat) (D : DataW Unit) : Prop where
  map : IsMap D
  nodup : (es.take j).Nodup
  short : ∀ e ∈ es.take j, e.length ≤ 200
  had : ∀ e ∈ es.take j, ∀ z, D.atKey (keyL e) z = .lit (.bool true)
theorem Had.next {es : List (List Int)} {j : Nat} {D : DataW Unit} (h : Had es j D) (hj : j < es.length) (hn : D.atKey (keyL (es.getD j [])) (.lit (.bool false)) = .lit (.bool false)) (hs : (es.getD j []).length ≤ 200) : Had es (j + 1) (D.put (keyL (es.getD j [])) (.lit (.bool true))) := by
  have ht : es.take (j + 1) = es.take j ++ [es.getD j []] := by
    rw [List.take_add_one, List.getElem?_eq_getElem hj, List.getD_eq_getElem?_getD, List.getElem?_eq_getElem hj]; rfl
  have hno : es.getD j [] ∉ es.take j := fun g => by
    rw [h.had _ g] at hn
    simp at hn
  refine ⟨h.map.put _ _, ?_, ?_, ?_⟩
  · rw [ht]
    refine List.nodup_append.2 ⟨h.nodup, by simp, fun a ha b hb => ?_⟩
    rw [List.mem_singleton.1 hb]
    exact fun e => hno (e ▸ ha)
  · rw [ht]
    intro e he
    rcases List.mem_append.1 he with he | he
    · exact h.short e he
    · rw [List.mem_singleton.1 he]; exact hs
  · rw [ht]
    intro e he z
    by_cases hk : keyL e = keyL (es.getD j [])
    · rw [hk, atKey_put_same h.map (by trivial)]
    · rw [atKey_put_other hk]
      rcases List.mem_append.1 he with he | he
      · exact h.had e he z
      · exact absurd (by rw [List.mem_singleton.1 he]) hk
theorem turned_belowT {B : Nat} {w0 w w' : World} {b : Nat} (h : Below B w0 w) (ht : w.mapTurned w' b) (hb : B ≤ b) (hB : B ≤ w.heap.size) : Below B w0 w' := h.grown ht.grown hB (fun q hq => by cases hq; exact hb)
set_option maxRecDepth 100000 in
set_option maxHeartbeats 2000000 in
theorem unlike_any (es : List (List Int)) (ea : Option Addr) (n c : Nat) (w : World) (hL : Lists w ea n c es) :
    Calls Tryz.prog 13 #[.slice ea n c] w fun e w' => ((e = .returned (.bool true) ∧ Unlike es) ∨ e = .returned (.bool false)) ∧ Below w.heap.size w w' := by
  have hlen := hL.len
  have hroom := hL.room
  have hcap := hL.cap
  unfold maxLen at hcap
  have hmm := @run_makeMap Tryz.prog
  have o0 := World.ownsMap_made w Tryz.prog 9 (plainElem (H := Unit) Tryz.prog 4)
  have b0 : Below w.heap.size w (w.alloc (.map #[] 0)) := (Below.refl _ _).alloc (Nat.le_refl _) _
  have hzero : ∀ W : World, (zeroValue 4).run Tryz.prog W = .ok (.bool false) W := fun W => by kernel_rfl
  go_enter Tryz.func13, Tryz.ntmps13
  go_wp2_with fail
  clear hmm
  generalize w.alloc (.map #[] 0) = w0 at *
  go_loopw [9] (fun kv wr => ∃ (j : Nat) (D : DataW Unit), j ≤ n ∧ kv = .int .i64 j ∧ wr.ownsMap Tryz.prog 9 (plainElem (H := Unit) Tryz.prog 4) w.heap.size j D ∧ Hid (Had es j D) ∧ Below w.heap.size w wr) (fun kv _ => n - (intOf kv).toNat)
  case atStart => exact ⟨0, _, Nat.zero_le _, rfl, o0, ⟨isMap_empty, List.nodup_nil, fun _ h => by simp at h, fun _ h => by simp at h⟩, b0⟩
  case round =>
    obtain ⟨wo, rfl⟩ : ∃ x, x = wr := ⟨wr, rfl⟩
    obtain ⟨j, D, hj, rfl, hO, HH, hbr⟩ := hrel
    by_cases hlt : j < n
    · have hlt' : (j : Int) < n := by omega
      obtain ⟨b, off, pa, pc, rfl, hcell, hP⟩ := (hL.below hbr).get j hlt
      have HN : Hid (D.atKey (keyL (es.getD j [])) (.lit (.bool false)) = .lit (.bool false) → (es.getD j []).length ≤ 200 → Had es (j + 1) (D.put (keyL (es.getD j [])) (.lit (.bool true)))) := HH.out.next (by omega)
      generalize es.getD j [] = E at *
      have hcv := conv_some hP rfl
      obtain ⟨v, ps, hlk, hv⟩ := hO.lookup Tryz.keyStr Tryz.underlying90 (hzero wo) (plainElem_bool Tryz.underlying4 false) (keyL_key hP.short)
      obtain ⟨r, rfl, hr⟩ := plainElem_bool_inv Tryz.underlying4 hv
      simp only [Prod.mk.injEq] at hr
      have hE := hr.1
      clear hv hr
      have hEm : E.length ≤ 2 ^ 63 - 1 := hP.short
      cases r with
      | true =>
        clear HN hE HH hO
        go_wp2_with fail
        go_ret
        exact ⟨.inr rfl, hbr⟩
      | false =>
        by_cases h200 : 200 < E.length
        · have h200' : (200 : Int) < E.length := by omega
          clear HN hE HH hO
          go_wp2_with fail
          go_ret
          exact ⟨.inr rfl, hbr⟩
        · have h200' : ¬ (200 : Int) < E.length := by omega
          have HN2 : Hid _ := HN.out hE (by omega)
          obtain ⟨w5, hst, hO5, ht5⟩ := hO.store Tryz.keyStr Tryz.underlying90 (by unfold maxLen; omega) (keyL_key hP.short) (plainElem_bool Tryz.underlying4 true)
          have b5 := turned_belowT hbr ht5 (Nat.le_refl _) hbr.size
          clear HN HH hO ht5 hE
          go_wp2_with fail
          go_roundw
          case rel => exact ⟨j + 1, _, by omega, by go_num, hO5, HN2, b5⟩
          case measure => simp [intOf]; omega
    · obtain rfl : j = n := by omega
      have hnl : ¬ (j : Int) < j := by omega
      have hT : es.take j = es := List.take_of_length_le (by omega)
      have HU : Hid (j ≤ 30 → Unlike es) := fun h => by
        have := HH.out
        exact ⟨by have g := this.nodup; rwa [hT] at g, by have g := this.short; rwa [hT] at g, by omega⟩
      clear HH hO
      by_cases h30 : (j : Int) ≤ 30
      · go_wp2_with fail
        go_ret
        exact ⟨.inl ⟨rfl, HU.out (by omega)⟩, hbr⟩
      · go_wp2_with fail
        go_ret
        exact ⟨.inr rfl, hbr⟩

end Go.Proofs.YtkjlchfmplcobagGreatDoor

/- The walk of the law TopHeads, over package fleet's faces. -/
namespace Go.Proofs.YtkjlchfmplcobagGreatDoor
open Go.RowKit

theorem year_nil (k : Nat) (es : List (List Int)) (far : Nat) : ([] ++ (subsL (10 * (k : Int) + 5) es ++ (stepsT k).take far) : List Dd) = yearL k es far := rfl
theorem yearL_length (k : Nat) (es : List (List Int)) {far : Nat} (h : far ≤ 3) : (yearL k es far).length = es.length + far := by
  unfold yearL
  rw [List.length_append, List.length_take]
  show (subsL _ es).length + min far 3 = _
  rw [Nat.min_eq_left h]
  simp [subsL]
end Go.Proofs.YtkjlchfmplcobagGreatDoor

/- The whole's mathematics: three years, and what is shown of them. -/
namespace Go.Proofs.YtkjlchfmplcobagGreatDoor

def ysL (a b c : List (List Int)) : List Dd := (yearL 0 a 3 ++ yearL 1 b 2) ++ yearL 2 c 1
theorem ysL_length (a b c : List (List Int)) : (ysL a b c).length = a.length + 3 + (b.length + 2) + (c.length + 1) := by
  unfold ysL
  rw [List.length_append, List.length_append, yearL_length 0 a (by omega), yearL_length 1 b (by omega), yearL_length 2 c (by omega)]
theorem years_right {a b c : List (List Int)} (ha : Unlike a) (hb : Unlike b) (hc : Unlike c) : playF (winsL 3) (ysL a b c) = (0, 0) :=
  play_right (by rw [winsL_right (by omega)]) (by rw [ysL_length]; have := ha.few; have := hb.few; have := hc.few; omega)
theorem years_run {a b c : List (List Int)} (ha : Unlike a) (hb : Unlike b) (hc : Unlike c) :
    (playL (winsL 3) (ysL a b c)).1.shards.length = 3 ∧ (playL (winsL 3) (ysL a b c)).1.book.length = 3 ∧
    ∀ k, k < 3 → ((playL (winsL 3) (ysL a b c)).1.shards.getD k shd0).state ≠ 1 ∧ (contentL ((playL (winsL 3) (ysL a b c)).1.shards.getD k shd0)).1 = [a, b, c].getD k [] := by
  have hp := (play_ok (ws := winsL 3) (l := ysL a b c) (by rw [years_right ha hb hc])).1
  have y1 := run_year (f := startL (winsL 3)) (k := 0) ha (by rfl) rfl rfl (far := 3) (by omega) (by omega)
  obtain ⟨F1, hF1⟩ : ∃ F1, F1 = (runL (startL (winsL 3)) (yearL 0 a 3)).1 := ⟨_, rfl⟩
  have hF1' := hF1
  rw [y1] at hF1'
  have y2 := run_year (f := F1) (k := 1) hb (by rw [hF1']; rfl) (by rw [hF1']; rfl) (by rw [hF1']; rfl) (far := 2) (by omega) (by omega)
  obtain ⟨F2, hF2⟩ : ∃ F2, F2 = (runL F1 (yearL 1 b 2)).1 := ⟨_, rfl⟩
  have hF2' := hF2
  rw [y2, hF1'] at hF2'
  have y3 := run_year (f := F2) (k := 2) hc (by rw [hF2']; rfl) (by rw [hF2']; rfl) (by rw [hF2']; rfl) (far := 1) (by omega) (by omega)
  have hfin : (playL (winsL 3) (ysL a b c)).1 = (runL F2 (yearL 2 c 1)).1 := by
    rw [hp]
    unfold ysL
    rw [runL_append, runL_append]
    dsimp only
    rw [← hF1, ← hF2]
  rw [hfin, y3, hF2']
  refine ⟨rfl, rfl, fun k hk => ?_⟩
  match k, hk with
  | 0, _ =>
    refine ⟨fun h => absurd (show (4 : Int) = 1 from h) (by decide), ?_⟩
    show (verifyL (exportL a)).1 = a
    rw [ha.verify]
  | 1, _ => exact ⟨fun h => absurd (show (3 : Int) = 1 from h) (by decide), rfl⟩
  | 2, _ => exact ⟨fun h => absurd (show (2 : Int) = 1 from h) (by decide), rfl⟩
/-- What is shown of a year's entries. -/
def YearShown (F : Flt) (k : Nat) (es : List (List Int)) : Prop :=
  (∀ i : Nat, i < es.length → (showL F k i).2 = 0 ∧ (showL F k i).1.entry = es.getD i [] ∧ checkL (showL F k i).1 (F.book.length : Int) (mth (rowsOf F.book)) = true) ∧ (showL F k es.length).2 = 6
theorem years_shown {a b c : List (List Int)} (ha : Unlike a) (hb : Unlike b) (hc : Unlike c) {k : Nat} (hk : k < 3) : YearShown (playL (winsL 3) (ysL a b c)).1 k ([a, b, c].getD k []) := by
  obtain ⟨h1, h2, h3⟩ := years_run ha hb hc
  obtain ⟨g1, g2⟩ := h3 k hk
  obtain ⟨hp, hw, -⟩ := play_ok (ws := winsL 3) (l := ysL a b c) (by rw [years_right ha hb hc])
  have hok : FltOk (winsL 3) (playL (winsL 3) (ysL a b c)).1 := by rw [hp]; exact run_ok (start_ok _) _
  have hkw : k < (winsL 3).length := by rw [winsL_length]; exact hk
  obtain ⟨-, -, c3, -, -, -⟩ := content_ok (hok.each k hkw)
  rw [g2] at c3
  refine ⟨fun i hi => ?_, ?_⟩
  · obtain ⟨row, -, -, es, ec⟩ := show_right hw hok hkw g1 (i := i) (by rw [← c3]; omega)
    rw [es]
    exact ⟨rfl, by dsimp only; rw [g2], ec⟩
  · rw [show_err hw hok, if_neg (by rw [h1]; omega), Int.toNat_natCast, if_neg g1, if_pos (.inr (by rw [← c3]; omega))]

end Go.Proofs.YtkjlchfmplcobagGreatDoor

/- The walk of the law TopYears, over package fleet's faces. -/
namespace Go.Proofs.YtkjlchfmplcobagGreatDoor
open Go.RowKit

/-- What is asked of one year's entries, where they lie. -/
structure YearAt (w : World) (F : Flt) (k : Nat) (ea : Option Addr) (n c : Nat) (es : List (List Int)) : Prop where
  lists : Lists w ea n c es
  shown : YearShown F k es
theorem yearAt_pick {w : World} {F : Flt} {x y z : List (List Int)} {xa ya za : Option Addr} {xn xc yn yc zn zc : Nat} (hX : Lists w xa xn xc x) (hY : Lists w ya yn yc y) (hZ : Lists w za zn zc z) (hs : ∀ k, k < 3 → YearShown F k ([x, y, z].getD k [])) {q : Nat} {t : TypeId} (hq : w.heap[q]? = some (.cells #[.slice xa xn xc, .slice ya yn yc, .slice za zn zc] t (0, 0))) {k : Nat} (hk : k < 3) :
    ∃ ea n c es, YearAt w F k ea n c es ∧ w.cell? ⟨q, k, none⟩ = some (.slice ea n c) := by
  match k, hk with
  | 0, _ => exact ⟨xa, xn, xc, x, ⟨hX, hs 0 (by omega)⟩, cell_of_row _ _ 0 _ t _ hq⟩
  | 1, _ => exact ⟨ya, yn, yc, y, ⟨hY, hs 1 (by omega)⟩, cell_of_row _ _ 1 _ t _ hq⟩
  | 2, _ => exact ⟨za, zn, zc, z, ⟨hZ, hs 2 (by omega)⟩, cell_of_row _ _ 2 _ t _ hq⟩
set_option maxRecDepth 100000 in
set_option maxHeartbeats 4000000 in
theorem topYears_any (hPl : PlayC) (hSh : ShowC) (hCh : CheckC) (hHe : BookHeadC) (x y z : List (List Int)) (xa ya za : Option Addr) (xn xc yn yc zn zc : Nat) (w : World) (hR : Ready w) (hX : Lists w xa xn xc x) (hY : Lists w ya yn yc y) (hZ : Lists w za zn zc z) :
    Calls Tryz.prog 6 #[.slice xa xn xc, .slice ya yn yc, .slice za zn zc] w fun e w' => e = .returned (.bool true) ∧ Below w.heap.size w w' := by
  have cA := topAlive_any hPl w hR
  have lx := hX.len
  have ly := hY.len
  have lz := hZ.len
  go_enter Tryz.func6, Tryz.ntmps6
  go_wp2_with fail
  refine cA.mono ?_
  rintro e w1 ⟨rfl, b1⟩
  clear cA
  go_wp2_with fail
  refine (unlike_any x xa xn xc w1 (hX.below b1)).mono ?_
  rintro e w2 ⟨hu, hb2⟩
  have b2 := b1.trans (hb2.mono b1.size)
  rcases hu with ⟨rfl, ux⟩ | rfl
  rotate_left
  · go_wp2_with fail
    go_ret
    exact ⟨rfl, b2⟩
  go_wp2_with fail
  refine (unlike_any y ya yn yc w2 (hY.below b2)).mono ?_
  rintro e w3 ⟨hu, hb3⟩
  have b3 := b2.trans (hb3.mono b2.size)
  rcases hu with ⟨rfl, uy⟩ | rfl
  rotate_left
  · go_wp2_with fail
    go_ret
    exact ⟨rfl, b3⟩
  go_wp2_with fail
  refine (unlike_any z za zn zc w3 (hZ.below b3)).mono ?_
  rintro e w4 ⟨hu, hb4⟩
  have b4 := b3.trans (hb4.mono b3.size)
  rcases hu with ⟨rfl, uz⟩ | rfl
  rotate_left
  · go_wp2_with fail
    go_ret
    exact ⟨rfl, b4⟩
  have nx : xn ≤ 30 := by have := ux.few; omega
  have ny : yn ≤ 30 := by have := uy.few; omega
  have nz : zn ≤ 30 := by have := uz.few; omega
  have HYS : Hid _ := fun k hk => years_shown ux uy uz (k := k) hk
  have hpf := years_right ux uy uz
  obtain ⟨hshl, hbkl, -⟩ := years_run ux uy uz
  obtain ⟨hpe, hwin, -⟩ := play_ok (ws := winsL 3) (l := ysL x y z) (by rw [hpf])
  have hok : FltOk (winsL 3) (playL (winsL 3) (ysL x y z)).1 := by rw [hpe]; exact run_ok (start_ok _) _
  have hll := ysL_length x y z
  rw [lx, ly, lz] at hll
  clear hb2 hb3 hb4 b1 b2 b3 ux uy uz hpe
  go_wp2_with fail
  refine (windows_any 3 (by omega) w4).mono ?_
  rintro e w5 ⟨wa, wc, rfl, hW5, hb5⟩
  have b5 := b4.trans (hb5.mono b4.size)
  have hX5 := hX.below b5
  have hY5 := hY.below b5
  have hZ5 := hZ.below b5
  have h1 := year_any [] 0 3 x none xa 0 0 xn xc w5.heap.size [] w5 rfl (World.ownsRow_nil _ _ _ _) (doB_nil _ _) (Nat.le_refl _) (stay_low hX5 (Below.refl _ _)) (by omega) (by omega) (by omega)
  rw [year_nil] at h1
  clear hb5 b4
  go_wp2_with fail
  refine h1.mono ?_
  rintro e w6 ⟨v6, rfl, va, vc, vs, rfl, hrow, hD, -, -, hb6, hs6⟩
  have hl6 : (yearL 0 x 3).length = xn + 3 := by rw [yearL_length 0 x (by omega), lx]
  rw [hl6] at hrow ⊢
  have h2 := year_any (yearL 0 x 3) 1 2 y va ya (xn + 3) vc yn yc w5.heap.size vs w6 hl6 hrow hD hs6 (stay_low hY5 hb6) (by omega) (by omega) (by omega)
  have e2 : yearL 0 x 3 ++ (subsL (10 * ((1 : Nat) : Int) + 5) y ++ (stepsT 1).take 2) = yearL 0 x 3 ++ yearL 1 y 2 := rfl
  rw [e2] at h2
  clear h1 hrow hD e2
  go_wp2_with fail
  refine h2.mono ?_
  rintro e w7 ⟨v7, rfl, va7, vc7, vs7, rfl, hrow, hD, -, -, hb7, hs7⟩
  have hl7 : (yearL 0 x 3 ++ yearL 1 y 2).length = xn + 3 + (yn + 2) := by rw [List.length_append, hl6, yearL_length 1 y (by omega), ly]
  rw [hl7] at hrow ⊢
  have c7 := hb6.trans hb7
  have h3 := year_any (yearL 0 x 3 ++ yearL 1 y 2) 2 1 z va7 za (xn + 3 + (yn + 2)) vc7 zn zc w5.heap.size vs7 w7 hl7 hrow hD (Nat.le_trans hs6 hs7) (stay_low hZ5 c7) (by omega) (by omega) (by omega)
  have e3 : (yearL 0 x 3 ++ yearL 1 y 2) ++ (subsL (10 * ((2 : Nat) : Int) + 5) z ++ (stepsT 2).take 1) = ysL x y z := rfl
  rw [e3] at h3
  clear h2 hrow hD e3
  go_wp2_with fail
  refine h3.mono ?_
  rintro e w8 ⟨v8, rfl, va8, vc8, vs8, rfl, hrow, hD, -, -, hb8, hs8⟩
  have hDo := hD.dos hrow
  rw [hll] at hDo ⊢
  have c8 := c7.trans hb8
  have b8 := b5.trans (c8.mono b5.size)
  have cP := hPl (winsL 3) (ysL x y z) _ _ w8 (hR.below b8) (hW5.below c8) hDo
  rw [hpf] at cP
  dsimp only [faultV] at cP
  have hX8 := hX.below b8
  have hY8 := hY.below b8
  have hZ8 := hZ.below b8
  generalize playL (winsL 3) (ysL x y z) = PP at *
  obtain ⟨P, A⟩ := PP
  dsimp only at cP hshl hbkl hok
  clear h3 hrow hD hl6 hl7 hll hDo hW5 hX5 hY5 hZ5 hb6 hb7 hb8 hs6 hs7 hs8 c7 c8 hPl hpf b5
  go_wp2_with fail
  refine cP.mono ?_
  rintro e w9 ⟨fv, av, rfl, ⟨sa, sc, ka, kc, rfl, hS, hB⟩, hA, hb9⟩
  obtain ⟨aa, ac, rfl⟩ := hA.form
  rw [hshl, hbkl]
  have b9 := b8.trans (hb9.mono b8.size)
  have d10 : Below w9.heap.size w9 ((w9.alloc (.cells #[.slice sa 3 sc, .slice ka 3 kc] 28)).alloc (.cells #[.int .i64 0, .int .i64 0] 32)) := ((Below.refl _ _).alloc (Nat.le_refl _) _).alloc (by simp) _
  have b10 := b9.trans (d10.mono b9.size)
  have x10 := box_one w9 #[.slice sa 3 sc, .slice ka 3 kc] 28 (.cells #[.int .i64 0, .int .i64 0] 32)
  have y10 := box_last w9 (.cells #[.slice sa 3 sc, .slice ka 3 kc] 28) #[.int .i64 0, .int .i64 0] 32
  obtain ⟨g0, g1, -, -⟩ := box_two x10
  have hF10 := FltV.below (w := w9) (f := P) ⟨sa, sc, ka, kc, rfl, hS, hB⟩ d10
  rw [hshl, hbkl] at hF10
  have cH := hHe P.book _ _ (hR.below b10) (hB.below d10)
  have hbk : wrongRecs P.book = (0, 0) := book_right hwin hok
  have hbs : bookSize P.book = (P.book.length : Int) := by unfold bookSize; rw [hbk, if_neg (fun h => h rfl)]
  have hbrr : bookRoot P.book = mth (rowsOf P.book) := by unfold bookRoot; rw [hbk, if_neg (fun h => h rfl)]
  have hml := mth_length (rowsOf P.book)
  rw [hbk, hbs, hbrr, hml, hbkl] at cH
  dsimp only [faultV] at cH
  clear cP hS hB hA hb9 d10 hbk hbs hbrr hHe b8
  go_wp2_with fail
  generalize (w9.alloc (.cells #[.slice sa 3 sc, .slice ka 3 kc] 28)).alloc (.cells #[.int .i64 0, .int .i64 0] 32) = w10 at *
  refine cH.mono ?_
  rintro e w11 ⟨ta, tc, rfl, ht, hb11⟩
  have d12 : Below w11.heap.size w11 ((w11.alloc (.cells #[.int .i64 3, .slice ta 32 tc] 38)).alloc (.cells #[.int .i64 0, .int .i64 0] 32)) := ((Below.refl _ _).alloc (Nat.le_refl _) _).alloc (by simp) _
  have c12 := hb11.trans (d12.mono hb11.size)
  have b12 := b10.trans (c12.mono b10.size)
  have y12 := box_one w11 #[.int .i64 3, .slice ta 32 tc] 38 (.cells #[.int .i64 0, .int .i64 0] 32)
  obtain ⟨h0, h1, -, -⟩ := box_two y12
  obtain ⟨f0, f1, -, -⟩ := box_two (box_last w11 (.cells #[.int .i64 3, .slice ta 32 tc] 38) #[.int .i64 0, .int .i64 0] 32)
  obtain ⟨k0, k1, -, -⟩ := box_two (box_kept y10 c12)
  have x12 := box_kept x10 c12
  have hF12 := hF10.below c12
  have ht12 := ht.below d12
  have hX12 := hX.below b12
  have hY12 := hY.below b12
  have hZ12 := hZ.below b12
  clear cH g0 g1 ht hb11 d12 c12 y10 x10 hF10 b10 hX8 hY8 hZ8
  have hz : ((w11.alloc (.cells #[.int .i64 3, .slice ta 32 tc] 38)).alloc (.cells #[.int .i64 0, .int .i64 0] 32)).heap.size = w11.heap.size + 2 := by simp
  have q13 := box_new ((w11.alloc (.cells #[.int .i64 3, .slice ta 32 tc] 38)).alloc (.cells #[.int .i64 0, .int .i64 0] 32)) #[.slice xa xn xc, .slice ya yn yc, .slice za zn zc] 42
  rw [hz] at q13
  have d13 : Below ((w11.alloc (.cells #[.int .i64 3, .slice ta 32 tc] 38)).alloc (.cells #[.int .i64 0, .int .i64 0] 32)).heap.size ((w11.alloc (.cells #[.int .i64 3, .slice ta 32 tc] 38)).alloc (.cells #[.int .i64 0, .int .i64 0] 32)) (((w11.alloc (.cells #[.int .i64 3, .slice ta 32 tc] 38)).alloc (.cells #[.int .i64 0, .int .i64 0] 32)).alloc (.cells #[.slice xa xn xc, .slice ya yn yc, .slice za zn zc] 42)) := (Below.refl _ _).alloc (Nat.le_refl _) _
  have b13 := b12.trans (d13.mono b12.size)
  have x13 := box_kept x12 d13
  have y13 := box_kept y12 d13
  have hF13 := hF12.below d13
  have ht13 := ht12.below d13
  have hX13 := hX12.below d13
  have hY13 := hY12.below d13
  have hZ13 := hZ12.below d13
  clear hz d13 x12 y12 hF12 ht12 hX12 hY12 hZ12 b12
  go_wp2_with fail
  generalize ((w11.alloc (.cells #[.int .i64 3, .slice ta 32 tc] 38)).alloc (.cells #[.int .i64 0, .int .i64 0] 32)).alloc (.cells #[.slice xa xn xc, .slice ya yn yc, .slice za zn zc] 42) = w13 at *
  clear h0 h1 f0 f1 k0 k1
  have hs13 := b13.size
  go_loopw [70] (fun kv wr => ∃ k : Nat, k ≤ 3 ∧ kv = .int .i64 k ∧ Below w13.heap.size w13 wr) (fun kv _ => 3 - (intOf kv).toNat)
  case atStart => exact ⟨0, Nat.zero_le _, rfl, Below.refl _ _⟩
  case round =>
    obtain ⟨wo, rfl⟩ : ∃ x, x = wr := ⟨wr, rfl⟩
    obtain ⟨k, hk, rfl, hbr⟩ := hrel
    have hsr := hbr.size
    have hbw := b13.trans (hbr.mono b13.size)
    by_cases hlt : k < 3
    · have hlt' : (k : Int) < 3 := by omega
      obtain ⟨ea, n, c, es, ⟨hEs, hES⟩, hcell⟩ := yearAt_pick (F := P) (hX13.below hbr) (hY13.below hbr) (hZ13.below hbr) HYS.out (box_kept q13 hbr) hlt
      have HES : Hid _ := hES
      have hel := hEs.len
      have her := hEs.room
      have hec := hEs.cap
      unfold maxLen at hec
      have xo := box_kept x13 hbr
      have yo := box_kept y13 hbr
      have hFo := hF13.below hbr
      have hto := ht13.below hbr
      clear hES hX13 hY13 hZ13 HYS q13 x13 y13 hF13 ht13
      unfold YearShown at HES
      rw [hel] at HES
      go_wp2_with fail
      clear hcell
      go_loopw [77] (fun kv wr => ∃ j : Nat, j ≤ n ∧ kv = .int .i64 j ∧ Below wo.heap.size wo wr) (fun kv _ => n - (intOf kv).toNat)
      case atStart => exact ⟨0, Nat.zero_le _, rfl, Below.refl _ _⟩
      case round =>
        obtain ⟨wp, rfl⟩ : ∃ x, x = wr := ⟨wr, rfl⟩
        obtain ⟨j, hj, rfl, hbp⟩ := hrel
        have hsp := hbp.size
        have hbwp := hbw.trans (hbp.mono hbw.size)
        obtain ⟨u0, u1, -, -⟩ := box_two (box_kept xo hbp)
        by_cases hlj : j < n
        · have hlj' : (j : Int) < n := by omega
          obtain ⟨r1, r2, r3⟩ := HES.out.1 j hlj
          have cS := hSh (winsL 3) P k j (.agg #[.slice sa 3 sc, .slice ka 3 kc]) wp hwin hok (hR.below hbwp) (hFo.below hbp)
          generalize showL P k j = YY at *
          obtain ⟨S, ze⟩ := YY
          dsimp only at cS r1 r2 r3
          subst r1
          have HR2 : Hid (S.entry = es.getD j []) := r2
          have HR3 : Hid _ := r3
          clear r2 r3 HES
          obtain ⟨lb, lo, va1, vc1, rfl, hcj, hsj⟩ := (hEs.below hbp).get j hlj
          have hlb : lb < wp.heap.size := World.block_lt_of_cell? wp ⟨lb, lo + j, none⟩ hcj
          go_wp2_with fail
          refine cS.mono ?_
          rintro e w14 ⟨sv, rfl, hV, hb14⟩
          obtain ⟨ea1, ec1, pa, pc, ra, rc, ba1, bc1, ha, hc, rfl, hve, -, -, -, -⟩ := hV.form
          have d15 : Below w14.heap.size w14 (w14.alloc (.cells #[.slice ea1 S.entry.length ec1, .int .i64 S.place, .int .i64 S.shard, .slice pa S.path.length pc, .int .i64 S.rcd.shard, .int .i64 S.rcd.from', .int .i64 S.rcd.to', .int .i64 S.rcd.size, .slice ra S.rcd.root.length rc, .int .i64 S.row, .slice ba1 S.bookPath.length bc1, .int .i64 S.hsize, .slice ha S.hroot.length hc] 46)) := (Below.refl _ _).alloc (Nat.le_refl _) _
          have c15 := hb14.trans (d15.mono hb14.size)
          have y15 := box_new w14 #[.slice ea1 S.entry.length ec1, .int .i64 S.place, .int .i64 S.shard, .slice pa S.path.length pc, .int .i64 S.rcd.shard, .int .i64 S.rcd.from', .int .i64 S.rcd.to', .int .i64 S.rcd.size, .slice ra S.rcd.root.length rc, .int .i64 S.row, .slice ba1 S.bookPath.length bc1, .int .i64 S.hsize, .slice ha S.hroot.length hc] 46
          have hve15 := hve.below d15
          have hV15 := hV.below d15
          have hsj15 := hsj.below c15
          have hcj15 := (c15.cell (p := ⟨lb, lo + j, none⟩) hlb).trans hcj
          have hlb15 := Nat.lt_of_lt_of_le hlb c15.size
          have b15 := hbp.trans (c15.mono hsp)
          have hR15 := hR.below (hbwp.trans (c15.mono hbwp.size))
          have ht15 := hto.below b15
          have yo15 := box_kept yo b15
          obtain ⟨v1, v2, v3, v4, v5, v6, v7, v8, v9, v10, v11, v12, v13⟩ := box_13 y15
          obtain ⟨m0, m1, -, -⟩ := box_two yo15
          have hl1 := lt_heap y15
          have hl2 := lt_heap yo15
          clear cS hV hb14 d15 hve hsj hcj c15 u0 u1
          go_wp2_with fail
          generalize w14.alloc (.cells #[.slice ea1 S.entry.length ec1, .int .i64 S.place, .int .i64 S.shard, .slice pa S.path.length pc, .int .i64 S.rcd.shard, .int .i64 S.rcd.from', .int .i64 S.rcd.to', .int .i64 S.rcd.size, .slice ra S.rcd.root.length rc, .int .i64 S.row, .slice ba1 S.bookPath.length bc1, .int .i64 S.hsize, .slice ha S.hroot.length hc] 46) = w15 at *
          have HS : ∀ w', (Below w15.heap.size w15 w' ∧ ∀ b o, b < w15.heap.size → w'.cell? ⟨b, o, none⟩ = w15.cell? ⟨b, o, none⟩) → Calls Tryz.prog 17 #[.slice ea1 S.entry.length ec1, .slice va1 (es.getD j []).length vc1] w' fun e w'' => e = .returned (.bool true) ∧ Below w'.heap.size w' w'' := fun w' h => by
            have := same_any S.entry (es.getD j []) (.slice ea1 S.entry.length ec1) (.slice va1 (es.getD j []).length vc1) w' (hve15.below h.1).at' (hsj15.below h.1).at' hve15.short
            rw [decide_eq_true HR2.out] at this
            refine this.mono ?_
            rintro e w'' ⟨rfl, q, rfl⟩
            exact ⟨rfl, below_drewN' (Below.refl _ _) q⟩
          have HC : ∀ w', (Below w15.heap.size w15 w' ∧ ∀ b o, b < w15.heap.size → w'.cell? ⟨b, o, none⟩ = w15.cell? ⟨b, o, none⟩) → Calls Tryz.prog 18 #[.agg #[.slice ea1 S.entry.length ec1, .int .i64 S.place, .int .i64 S.shard, .slice pa S.path.length pc, .int .i64 S.rcd.shard, .int .i64 S.rcd.from', .int .i64 S.rcd.to', .int .i64 S.rcd.size, .slice ra S.rcd.root.length rc, .int .i64 S.row, .slice ba1 S.bookPath.length bc1, .int .i64 S.hsize, .slice ha S.hroot.length hc], .agg #[.int .i64 3, .slice ta 32 tc]] w' fun e w'' => e = .returned (.bool true) ∧ Below w'.heap.size w' w'' := fun w' h => by
            have := hCh S (P.book.length : Int) (mth (rowsOf P.book)) (.agg #[.slice ea1 S.entry.length ec1, .int .i64 S.place, .int .i64 S.shard, .slice pa S.path.length pc, .int .i64 S.rcd.shard, .int .i64 S.rcd.from', .int .i64 S.rcd.to', .int .i64 S.rcd.size, .slice ra S.rcd.root.length rc, .int .i64 S.row, .slice ba1 S.bookPath.length bc1, .int .i64 S.hsize, .slice ha S.hroot.length hc]) (.slice ta 32 tc) w' (hR15.below h.1) (hV15.below h.1) (ht15.below h.1)
            rwa [HR3.out, hbkl] at this
          clear HR2 HR3 hve15 hV15 hsj15 hEs y15 yo15 ht15
          generalize (es.getD j []).length = fn at *
          generalize S.entry.length = sn at *
          generalize S.path.length = pn at *
          generalize S.rcd.root.length = rn at *
          generalize S.bookPath.length = bn at *
          generalize S.hroot.length = hn at *
          go_region_held3 (fun w' => Below w15.heap.size w15 w' ∧ ∀ b o, b < w15.heap.size → w'.cell? ⟨b, o, none⟩ = w15.cell? ⟨b, o, none⟩) (first | (with_reducible assumption) | (with_reducible exact hK) | (with_reducible exact keptB_drew w15)) (first | (go_at_call 17; refine (HS _ (by assumption)).mono ?_; rintro e w16 ⟨rfl, hb16⟩; have hK := keptB_below (w0 := w15) (by assumption) hb16) | (go_at_call 18; refine (HC _ (by assumption)).mono ?_; rintro e w17 ⟨rfl, hb17⟩; have hK := keptB_below (w0 := w15) (by assumption) hb17))
          have c17 := b15.trans (hK.1.mono b15.size)
          clear hK HS HC v1 v2 v3 v4 v5 v6 v7 v8 v9 v10 v11 v12 v13 m0 m1 hcj15
          go_wp2_with fail
          go_roundw
          case rel => exact ⟨j + 1, by omega, by go_num, c17⟩
          case measure => simp [intOf]; omega
        · obtain rfl : j = n := by omega
          have hnlj : ¬ (j : Int) < j := by omega
          have cS := hSh (winsL 3) P k j (.agg #[.slice sa 3 sc, .slice ka 3 kc]) wp hwin hok (hR.below hbwp) (hFo.below hbp)
          rw [HES.out.2] at cS
          generalize showL P k j = YY at *
          obtain ⟨S, ze⟩ := YY
          dsimp only at cS
          clear HES hEs
          go_wp2_with fail
          refine cS.mono ?_
          rintro e w14 ⟨sv, rfl, hV, hb14⟩
          obtain ⟨ea1, ec1, pa, pc, ra, rc, ba1, bc1, ha, hc, rfl, -, -, -, -, -⟩ := hV.form
          have d15 : Below w14.heap.size w14 (w14.alloc (.cells #[.slice ea1 S.entry.length ec1, .int .i64 S.place, .int .i64 S.shard, .slice pa S.path.length pc, .int .i64 S.rcd.shard, .int .i64 S.rcd.from', .int .i64 S.rcd.to', .int .i64 S.rcd.size, .slice ra S.rcd.root.length rc, .int .i64 S.row, .slice ba1 S.bookPath.length bc1, .int .i64 S.hsize, .slice ha S.hroot.length hc] 46)) := (Below.refl _ _).alloc (Nat.le_refl _) _
          have c15 := hb14.trans (d15.mono hb14.size)
          have b15 := hbr.trans ((hbp.trans (c15.mono hsp)).mono hsr)
          clear cS hV hb14 d15 c15 u0 u1
          go_wp2_with fail
          go_roundw
          case rel => exact ⟨k + 1, by omega, by go_num, b15⟩
          case measure => simp [intOf]; omega
    · obtain rfl : k = 3 := by omega
      clear HYS
      go_wp2_with fail
      go_ret
      exact ⟨rfl, hbw⟩

end Go.Proofs.YtkjlchfmplcobagGreatDoor
