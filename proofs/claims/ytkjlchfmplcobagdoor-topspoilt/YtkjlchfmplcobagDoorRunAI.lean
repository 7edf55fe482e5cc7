/- TopUnlike, TopHeadsWalk, TopSpoiltWalk, as one text. -/
import Derived.Test.YtkjlchfmplcobagDoorProg
import Derived.Test.YtkjlchfmplcobagDoorRunAD
import Derived.WalkKit
import Derived.WalkSpells
import Derived.WalkLawsBesides
import Derived.Maps.OwnSet
import Derived.StringKeys
import Derived.Laws.BytesArg
import Derived.Shelf.Bytes.SlSmallAll
import Derived.Test.YtkjlchfmplcobagDoorRunAC
import Derived.Deep.RegionHeld3
import Derived.Deep.RegionWith
import Derived.Deep.QuietTactic
import Derived.BigQuiet
import Derived.BigRegion
/- The walk of yeartop.unlike. -/
namespace Go.Proofs.YtkjlchfmplcobagDoor
open Go.RowKit Go.Maps

theorem Tryd.keyStr : Keyed Tryd.prog 9 := string_keyed Tryd.underlying9
theorem plainElem_bool_inv {P : Program} {e : TypeId} (he : P.underlying e = some .bool) {v : Value} {z : DataW Unit × List MemPlace} (h : plainElem P e v = some z) : ∃ a, v = .bool a ∧ z = (.lit (.bool a), []) := by
  unfold plainElem at h
  rw [he] at h
  cases v <;> simp at h
  subst h
  exact ⟨_, rfl, rfl⟩
set_option maxRecDepth 100000 in
theorem conv_some {w : World} {pa : Option Addr} {pc n : Nat} {b : List Int} (h : Some' w (.slice pa n pc) b) (hn : b.length = n) : (convert 27 9 (.slice pa n pc)).run Tryd.prog w = .ok (.string (strOfNums b)) w := by
  rcases h.at' with ⟨rfl, a, c, e, -⟩ | ⟨g, off, cp, e, -, hc⟩
  · cases e
    exact Go.Proofs.run_convert_bytes_zero w _ _ Tryd.underlying27 Tryd.underlying5 _ _ _ Tryd.underlying9
  · cases e
    exact run_convert_bytes_arg w _ _ Tryd.underlying27 Tryd.underlying5 g off _ _ b rfl hc _ Tryd.underlying9
/-- The key of an entry. -/
def keyL (e : List Int) : Lit := .string (strOfNums e).data.toList
theorem keyL_key {e : List Int} (h : e.length ≤ maxLen) : keyOf Tryd.prog 9 (.string (strOfNums e)) = some (keyL e) := _root_.Go.WideMaps.keyOf_string_mk Tryd.underlying9 (by rw [strOfNums_size]; exact h)
/-- What is had so far. -/
structure Had (es : List (List Int)) (j : Nat) (D : DataW Unit) : Prop where
  map : IsMap D
  nodup : (es.take j).Nodup
  short : ∀ e ∈ es.take j, e.length ≤ 200
  had : ∀ e ∈ es.take j, ∀ z, D.atKey (keyL e) z = .lit (.bool true)
theorem Had.next {es : List (List Int)} {j : Nat} {D : DataW Unit} (h : Had es j D) (hj : j < es.length) (hn : D.atKey (keyL (es.getD j [])) (.lit (.bool false)) = .lit (.bool false)) (hs : (es.getD j []).length ≤ 200) : Had es (j + 1) (D.put (keyL (es.getD j [])) (.lit (.bool true))) := by
  have ht : es.take (j + 1) = es.take j ++ [es.getD j []] := by
    rw [List.take_add_one, List.getElem?_eq_getElem hj, List.getD_eq_getElem?_getD, List.getElem?_eq_getElem hj]; rfl
  have hno : es.getD j [] ∉ es.take j := fun g => by
    rw [h.had _ g] at hn
    simp at hn
  refine ⟨h.map.put _ _, ?_, ?_, ?_⟩
  · rw [ht]
    refine List.nodup_append.2 ⟨h.nodup, by simp, fun a ha b hb => ?_⟩
    rw [List.mem_singleton.1 hb]
    exact fun e => hno (e ▸ ha)
  · rw [ht]
    intro e he
    rcases List.mem_append.1 he with he | he
    · exact h.short e he
    · rw [List.mem_singleton.1 he]; exact hs
  · rw [ht]
    intro e he z
    by_cases hk : keyL e = keyL (es.getD j [])
    · rw [hk, atKey_put_same h.map (by trivial)]
    · rw [atKey_put_other hk]
      rcases List.mem_append.1 he with he | he
      · exact h.had e he z
      · exact absurd (by rw [List.mem_singleton.1 he]) hk
theorem turned_belowT {B : Nat} {w0 w w' : World} {b : Nat} (h : Below B w0 w) (ht : w.mapTurned w' b) (hb : B ≤ b) (hB : B ≤ w.heap.size) : Below B w0 w' := h.grown ht.grown hB (fun q hq => by cases hq; exact hb)
set_option maxRecDepth 100000 in
set_option maxHeartbeats 2000000 in
theorem unlike_any (es : List (List Int)) (ea : Option Addr) (n c : Nat) (w : World) (hL : Lists w ea n c es) :
    Calls Tryd.prog 6 #[.slice ea n c] w fun e w' => ((e = .returned (.bool true) ∧ Unlike es) ∨ e = .returned (.bool false)) ∧ Below w.heap.size w w' := by
  have hlen := hL.len
  have hroom := hL.room
  have hcap := hL.cap
  unfold maxLen at hcap
  have hmm := @run_makeMap Tryd.prog
  have o0 := World.ownsMap_made w Tryd.prog 9 (plainElem (H := Unit) Tryd.prog 4)
  have b0 : Below w.heap.size w (w.alloc (.map #[] 0)) := (Below.refl _ _).alloc (Nat.le_refl _) _
  have hzero : ∀ W : World, (zeroValue 4).run Tryd.prog W = .ok (.bool false) W := fun W => by kernel_rfl
  go_enter Tryd.func6, Tryd.ntmps6
  go_wp2_with fail
  clear hmm
  generalize w.alloc (.map #[] 0) = w0 at *
  go_loopw [9] (fun kv wr => ∃ (j : Nat) (D : DataW Unit), j ≤ n ∧ kv = .int .i64 j ∧ wr.ownsMap Tryd.prog 9 (plainElem (H := Unit) Tryd.prog 4) w.heap.size j D ∧ Hid (Had es j D) ∧ Below w.heap.size w wr) (fun kv _ => n - (intOf kv).toNat)
  case atStart => exact ⟨0, _, Nat.zero_le _, rfl, o0, ⟨isMap_empty, List.nodup_nil, fun _ h => by simp at h, fun _ h => by simp at h⟩, b0⟩
  case round =>
    obtain ⟨wo, rfl⟩ : ∃ x, x = wr := ⟨wr, rfl⟩
    obtain ⟨j, D, hj, rfl, hO, HH, hbr⟩ := hrel
    by_cases hlt : j < n
    · have hlt' : (j : Int) < n := by omega
      obtain ⟨b, off, pa, pc, rfl, hcell, hP⟩ := (hL.below hbr).get j hlt
      have HN : Hid (D.atKey (keyL (es.getD j [])) (.lit (.bool false)) = .lit (.bool false) → (es.getD j []).length ≤ 200 → Had es (j + 1) (D.put (keyL (es.getD j [])) (.lit (.bool true)))) := HH.out.next (by omega)
      generalize es.getD j [] = E at *
      have hcv := conv_some hP rfl
      obtain ⟨v, ps, hlk, hv⟩ := hO.lookup Tryd.keyStr Tryd.underlying58 (hzero wo) (plainElem_bool Tryd.underlying4 false) (keyL_key hP.short)
      obtain ⟨r, rfl, hr⟩ := plainElem_bool_inv Tryd.underlying4 hv
      simp only [Prod.mk.injEq] at hr
      have hE := hr.1
      clear hv hr
      have hEm : E.length ≤ 2 ^ 63 - 1 := hP.short
      cases r with
      | true =>
        clear HN hE HH hO
        go_wp2_with fail
        go_ret
        exact ⟨.inr rfl, hbr⟩
      | false =>
        by_cases h200 : 200 < E.length
        · have h200' : (200 : Int) < E.length := by omega
          clear HN hE HH hO
          go_wp2_with fail
          go_ret
          exact ⟨.inr rfl, hbr⟩
        · have h200' : ¬ (200 : Int) < E.length := by omega
          have HN2 : Hid _ := HN.out hE (by omega)
          obtain ⟨w5, hst, hO5, ht5⟩ := hO.store Tryd.keyStr Tryd.underlying58 (by unfold maxLen; omega) (keyL_key hP.short) (plainElem_bool Tryd.underlying4 true)
          have b5 := turned_belowT hbr ht5 (Nat.le_refl _) hbr.size
          clear HN HH hO ht5 hE
          go_wp2_with fail
          go_roundw
          case rel => exact ⟨j + 1, _, by omega, by go_num, hO5, HN2, b5⟩
          case measure => simp [intOf]; omega
    · obtain rfl : j = n := by omega
      have hnl : ¬ (j : Int) < j := by omega
      have hT : es.take j = es := List.take_of_length_le (by omega)
      have HU : Hid (j ≤ 30 → Unlike es) := fun h => by
        have := HH.out
        exact ⟨by have g := this.nodup; rwa [hT] at g, by have g := this.short; rwa [hT] at g, by omega⟩
      clear HH hO
      by_cases h30 : (j : Int) ≤ 30
      · go_wp2_with fail
        go_ret
        exact ⟨.inl ⟨rfl, HU.out (by omega)⟩, hbr⟩
      · go_wp2_with fail
        go_ret
        exact ⟨.inr rfl, hbr⟩

end Go.Proofs.YtkjlchfmplcobagDoor

/- The walk of the law TopHeads, over package fleet's faces. -/
namespace Go.Proofs.YtkjlchfmplcobagDoor
open Go.RowKit

theorem year_nil (k : Nat) (es : List (List Int)) (far : Nat) : ([] ++ (subsL (10 * (k : Int) + 5) es ++ (stepsT k).take far) : List Dd) = yearL k es far := rfl
theorem yearL_length (k : Nat) (es : List (List Int)) {far : Nat} (h : far ≤ 3) : (yearL k es far).length = es.length + far := by
  unfold yearL
  rw [List.length_append, List.length_take]
  show (subsL _ es).length + min far 3 = _
  rw [Nat.min_eq_left h]
  simp [subsL]
end Go.Proofs.YtkjlchfmplcobagDoor

/- The walk of the law TopSpoilt, over package fleet's faces. -/
namespace Go.Proofs.YtkjlchfmplcobagDoor
open Go.RowKit

theorem spD_fit {sg at' by' : Int} (h : 0 ≤ by' ∧ by' < 256) : DdFit (spD sg at' by') := ⟨h, show (-9223372036854775808 : Int) ≤ 5 by omega, show (5 : Int) ≤ 9223372036854775807 by omega⟩
theorem lit_row (w : World) (C : Array Value) (t : TypeId) : ∀ (j : Nat) (u : Value), C.toList[j]? = some u → (w.alloc (.cells C t)).cell? ((⟨w.heap.size, 0, none⟩ : Addr).add j) = some u := fun j u h => by
  rw [Addr.add_mid, Nat.zero_add, cell_of_row _ _ j _ t _ (box_new w C t)]; simpa using h
/-- The two things that are done last, in memory. -/
abbrev spCells (sg at' by' : Int) : Array Value := #[.int .i64 5, .int .i64 0, .int .i64 0, .slice none 0 0, .int .i64 sg, .int .i64 at', .int .u8 by', .int .i64 4, .int .i64 0, .int .i64 0, .slice none 0 0, .int .i64 0, .int .i64 0, .int .u8 0]
theorem spCells_one (sg at' by' : Int) : ∀ u ∈ (spCells sg at' by').toList, u.oneCell' = true := by
  intro u hu
  simp at hu
  rcases hu with rfl | rfl | rfl | rfl | rfl | rfl | rfl | rfl | rfl | rfl | rfl <;> rfl
theorem spoilt_dos {B g cap n : Nat} {w3 w6 : World} {va : Option Addr} {vc : Nat} {vs : List Value} {es : List (List Int)} {sg at' by' : Int} (hby : 0 ≤ by' ∧ by' < 256) (hrow : w3.ownsRow B 29 7 (.slice va (n + 2) vc) (n + 2) vs) (hD : DoB B w3 vs (yearL 0 es 2)) (hn : es.length = n)
    (hg : (w3.alloc (.cells (spCells sg at' by') 29)).grownBy w6 (Value.slice va (n + 2) vc).ownBlock) (ho : w6.ownsRow B 29 7 (.slice (some ⟨g, 0, none⟩) (n + 2 + 2) cap) (n + 2 + 2) (vs ++ (spCells sg at' by').toList)) : DosAt w6 (.slice (some ⟨g, 0, none⟩) (n + 2 + 2) cap) (spL es sg at' by') := by
  have bA : Below w3.heap.size w3 (w3.alloc (.cells (spCells sg at' by') 29)) := (Below.refl _ _).alloc (Nat.le_refl _) _
  have hrowA := hrow.alloc (.cells (spCells sg at' by') 29)
  have h1 : DoB B (w3.alloc (.cells (spCells sg at' by') 29)) (vs ++ ddV (spD sg at' by') none 0) (yearL 0 es 2 ++ [spD sg at' by']) := (hD.below bA).snoc (some_nil _) (away_nil _ _ _ _) (spD_fit hby)
  have h2 : DoB B (w3.alloc (.cells (spCells sg at' by') 29)) ((vs ++ ddV (spD sg at' by') none 0) ++ ddV (doD 4 0) none 0) ((yearL 0 es 2 ++ [spD sg at' by']) ++ [doD 4 0]) := h1.snoc (some_nil _) (away_nil _ _ _ _) (kd_fit (by omega))
  have h3 := h2.grown hrowA hg
  rw [List.append_assoc, List.append_assoc] at h3
  have e1 : yearL 0 es 2 ++ ([spD sg at' by'] ++ [doD 4 0]) = spL es sg at' by' := rfl
  rw [e1] at h3
  have e2 : (spL es sg at' by').length = n + 2 + 2 := by rw [spL_length, hn]
  have h4 := h3.dos (by rw [e2]; exact ho)
  exact h4
set_option maxRecDepth 100000 in
set_option maxHeartbeats 4000000 in
theorem topSpoilt_any (hPl : PlayC) (hVe : VerifyC) (es : List (List Int)) (sg at' by' : Int) (ea : Option Addr) (n c : Nat) (w : World) (hR : Ready w) (hL : Lists w ea n c es) (hby : 0 ≤ by' ∧ by' < 256) :
    Calls Tryd.prog 3 #[.slice ea n c, .int .i64 sg, .int .i64 at', .int .u8 by'] w fun e w' => e = .returned (.bool true) ∧ Below w.heap.size w w' := by
  obtain ⟨i0, hi0, hz0, hz1, hz2⟩ := info_parts Tryd.info29b
  have cA := topAlive_any hPl w hR
  have hlen := hL.len
  have hroom := hL.room
  have hcap := hL.cap
  unfold maxLen at hcap
  go_enter Tryd.func3, Tryd.ntmps3
  go_wp2_with fail
  refine cA.mono ?_
  rintro e w1 ⟨rfl, b1⟩
  clear cA
  go_wp2_with fail
  refine (unlike_any es ea n c w1 (hL.below b1)).mono ?_
  rintro e w2 ⟨hu, hb2⟩
  have b2 := b1.trans (hb2.mono b1.size)
  rcases hu with ⟨rfl, hu⟩ | rfl
  rotate_left
  · go_wp2_with fail
    go_ret
    exact ⟨rfl, b2⟩
  have hn30 : n ≤ 30 := by have := hu.few; omega
  have hL2 := hL.below b2
  have hY := year_any [] 0 2 es none ea 0 0 n c _ [] w2 rfl (World.ownsRow_nil _ _ _ _) (doB_nil _ _) (Nat.le_refl _) (stay_low hL2 (Below.refl _ _)) (by omega) (by omega) (by omega)
  rw [year_nil] at hY
  clear hb2 b1
  go_wp2_with fail
  refine hY.mono ?_
  rintro e w3 ⟨v3, rfl, va, vc, vs, rfl, hrow, hD, -, -, hb3, hs3⟩
  have hly : (yearL 0 es 2).length = n + 2 := by rw [yearL_length 0 es (by omega), hlen]
  rw [hly] at hrow ⊢
  have b3 := b2.trans (hb3.mono b2.size)
  have hDo := topDo_any 4 0 w3
  clear hY hly
  go_wp2_with fail
  refine hDo.mono ?_
  rintro e w4 ⟨rfl, hb4⟩
  have hrow4 := own7_below hrow hb4 (Nat.le_refl _)
  have hD4 := hD.below hb4
  have c4 := hb3.trans (hb4.mono hs3)
  have b4 := b3.trans (hb4.mono b3.size)
  have HSD := fun g cap w6 hg ho => spoilt_dos (sg := sg) (at' := at') (by' := by') (g := g) (cap := cap) (w6 := w6) hby hrow4 hD4 hlen hg ho
  have HSDh : Hid _ := HSD
  have HNW : Hid _ := lit_row w4 (spCells sg at' by') 29
  have HON : Hid _ := spCells_one sg at' by'
  have hrowA := hrow4.alloc (.cells (spCells sg at' by') 29)
  have cA4 : Below w2.heap.size w2 (w4.alloc (.cells (spCells sg at' by') 29)) := c4.alloc (c4.size) _
  have hsA := cA4.size
  have HLT : Hid _ := fun q hq => (hrowA.lt q hq).1
  clear HSD hrow hD hrow4 hD4 hb3 hb4 hDo c4 b3
  go_wp2_with (at_builtin; refine wpList_append_lies _ rfl (.tmp 22) (.tmp 28) 25 rfl w2.heap.size 29 i0 _ 7 72 Tryd.underlying25 hi0 hz0 hz1 hz2 rfl (by decide) _ _ _ rfl hrowA ⟨w4.heap.size, 0, none⟩ 2 2 _ rfl rfl HNW.out HON.out (by decide) (by unfold maxLen; omega) (by omega) hsA _ rfl ?_; intro g cap w6 ho6 hg6 ha6 hlt6)
  have hDo6 := HSDh.out g cap w6 hg6 ho6
  have c6 : Below w2.heap.size w2 w6 := cA4.grown hg6 hsA HLT.out
  have b6 := b2.trans (c6.mono b2.size)
  have hsp := spoilt_run hu sg at' by'
  have hl6 : (spL es sg at' by').length = n + 4 := by rw [spL_length, hlen]
  have hpr : playF (winsL 1) (spL es sg at' by') = (0, 0) := play_right (by rw [winsL_right (by omega)]) (by rw [hl6]; omega)
  have hpo := (play_ok (ws := winsL 1) (l := spL es sg at' by') (by rw [hpr])).1
  have hAl : (playL (winsL 1) (spL es sg at' by')).2.length = n + 4 := by rw [hpo, runL_length, hl6]
  rw [← hpo, hlen] at hsp
  clear HSDh HNW HON HLT hrowA cA4 hsA ho6 hg6 ha6 hlt6 hi0 hz0 hz1 hz2 b4 c6 hL2 hs3 hl6 hpo
  refine (windows_any 1 (by omega) w6).mono ?_
  rintro e w7 ⟨wa, wc, rfl, hW7, hb7⟩
  have b7 := b6.trans (hb7.mono b6.size)
  have cP := hPl (winsL 1) (spL es sg at' by') _ _ w7 (hR.below b7) hW7 (hDo6.below hb7)
  rw [hpr] at cP
  dsimp only [faultV] at cP
  generalize playL (winsL 1) (spL es sg at' by') = PP at *
  obtain ⟨F, A⟩ := PP
  dsimp only at cP hsp hAl
  clear hpr hDo6 hW7 hb7 b6 hPl
  go_wp2_with fail
  refine cP.mono ?_
  rintro e w8 ⟨fv, av, rfl, hF, hA, hb8⟩
  have b8 := b7.trans (hb8.mono b7.size)
  obtain ⟨sa, sc, ba, bc, rfl, hSh, -⟩ := hF
  obtain ⟨aa, ac, rfl⟩ := hA.form
  rw [hAl] at hA ⊢
  rw [hsp.len] at hSh ⊢
  have d9 : Below w8.heap.size w8 ((w8.alloc (.cells #[.slice sa 1 sc, .slice ba F.book.length bc] 34)).alloc (.cells #[.int .i64 0, .int .i64 0] 38)) := ((Below.refl _ _).alloc (Nat.le_refl _) _).alloc (by simp) _
  have x9 := box_one w8 #[.slice sa 1 sc, .slice ba F.book.length bc] 34 (.cells #[.int .i64 0, .int .i64 0] 38)
  obtain ⟨f0, f1, -, -⟩ := box_two (box_last w8 (.cells #[.slice sa 1 sc, .slice ba F.book.length bc] 34) #[.int .i64 0, .int .i64 0] 38)
  obtain ⟨g0, g1, -, -⟩ := box_two x9
  have b9 := b8.trans (d9.mono b8.size)
  have hA9 := hA.below d9
  obtain ⟨sb, so, rfl, hsb, hSC⟩ := (hSh.below d9).get hsp.len (show 0 < 1 by omega)
  rw [Nat.zero_mul, Nat.add_zero] at hSC
  obtain ⟨s0, s1, s2, ⟨ta, tc, s3, hT⟩, s4, ⟨ra, rc, s5, hRt⟩, ⟨ga, gc, s6, hGs⟩⟩ := hSC
  obtain ⟨-, herr, hgood, hbad⟩ := hsp
  have HG : Hid _ := hgood
  have HB : Hid _ := hbad
  clear hgood hbad hA hSh cP d9 b8 hb8
  generalize F.shards.getD 0 shd0 = S at *
  have cV := hVe S.man (.agg #[.int .i64 S.man.size, .slice ra S.man.root.length rc, .slice ga S.man.segs.length gc]) _ (hR.below b9) ⟨_, _, rfl, hRt, hGs⟩
  obtain ⟨pb, po, rfl, hpb, hAC⟩ := hA9.at' hAl (show n + 3 < n + 4 by omega)
  obtain ⟨y0, -, -, -, -⟩ := hAC
  rw [herr] at y0
  rw [herr] at HG HB
  generalize A.getD (n + 3) ans0 = Z at *
  generalize hVV : verifyL S.man = VV at *
  obtain ⟨VL, V1, V2⟩ := VV
  dsimp only [faultV] at cV y0 HG HB
  obtain ⟨M, HM⟩ : ∃ M, Hid (n + 3 = M) := ⟨_, rfl⟩
  have hM1 : n + 2 + 2 = M + 1 := by have := HM.out; omega
  have hM2 : n + 4 = M + 1 := by have := HM.out; omega
  have hMs : M ≤ 33 := by have := HM.out; omega
  rw [HM.out] at y0
  rw [hM1]
  have HX : Hid _ := x9
  have hsA9 := hsb
  clear hRt hGs herr hVV hA9 hM1 hM2 hAl x9
  go_wp2_with fail
  generalize (w8.alloc (.cells #[.slice (some ⟨sb, so, none⟩) 1 sc, .slice ba F.book.length bc] 34)).alloc (.cells #[.int .i64 0, .int .i64 0] 38) = w9 at *
  refine cV.mono ?_
  rintro e w10 ⟨xa, xn, xc, rfl, hLd, hb10⟩
  have b10 := b9.trans (hb10.mono b9.size)
  have hxn : VL.length = xn := hLd.lists.len
  have d11 : Below w10.heap.size w10 (w10.alloc (.cells #[.int .i64 V1, .int .i64 V2] 38)) := (Below.refl _ _).alloc (Nat.le_refl _) _
  have c11 := hb10.trans (d11.mono hb10.size)
  have b11 := b10.trans (d11.mono b10.size)
  obtain ⟨h0, h1, -, -⟩ := box_two (box_new w10 #[.int .i64 V1, .int .i64 V2] 38)
  obtain ⟨k0, k1, -, -⟩ := box_two (box_kept HX.out c11)
  replace y0 := (c11.cell (p := ⟨pb, po + M * 5, none⟩) hpb).trans y0
  replace s2 := (c11.cell (p := ⟨sb, so + 2, none⟩) hsb).trans s2
  replace s3 := (c11.cell (p := ⟨sb, so + 3, none⟩) hsb).trans s3
  have hT11 := hT.below c11
  clear cV hLd hb10 hT s0 s1 s4 s5 s6 g0 g1 f0 f1 HX d11
  by_cases hv : V1 = 0
  · obtain ⟨q1, q2⟩ := HG.out hv
    rw [hlen, hxn] at q2
    subst q2
    rw [q1] at s2
    subst hv
    clear HG HB hT11 q1
    go_wp2_with fail
    go_ret
    exact ⟨rfl, b11⟩
  · obtain ⟨q1, q2⟩ := HB.out hv
    rw [q1] at s2
    have hv' : (V1 == 0) = false := by simpa using hv
    rw [q2, hlen] at s3
    rw [q2, hlen] at hT11
    have cS : ∀ w', Below (w10.alloc (.cells #[.int .i64 V1, .int .i64 V2] 38)).heap.size (w10.alloc (.cells #[.int .i64 V1, .int .i64 V2] 38)) w' → Calls Tryd.prog 12 #[.slice ta n tc, .slice ea n c] w' fun e w'' => e = .returned (.bool true) ∧ ∃ q, w'' = w'.drewN q := fun w' h => by
      have := refSame_any es es (.slice ta n tc) (.slice ea n c) w' (hT11.below h).at' ((hL.below b11).below h).at' (by unfold maxLen; omega) hT11.short
      rwa [decide_eq_true rfl] at this
    clear HG HB hT11 q1 q2
    go_wp2_with fail
    generalize w10.alloc (.cells #[.int .i64 V1, .int .i64 V2] 38) = w11 at *
    obtain ⟨N, HN⟩ : ∃ N, Hid (M + 1 = N) := ⟨_, rfl⟩
    rw [HN.out]
    have hm0 : (0 : Int) ≤ (M : Int) := by omega
    have hm1 : (M : Int) < (N : Int) := by have := HN.out; omega
    have hm2 : IntKind.i64.wrap ((N : Int) - 1) = (M : Int) := by have := HN.out; rw [IntKind.wrap_i64]; omega
    have hm3 : wrap64 ((N : Int) - 1) = (M : Int) := by have := HN.out; unfold wrap64; omega
    have cS2 : ∀ w', (Below w11.heap.size w11 w' ∧ ∀ b o, b < w11.heap.size → w'.cell? ⟨b, o, none⟩ = w11.cell? ⟨b, o, none⟩) → _ := fun w' h => cS w' h.1
    have l1 : pb < w11.heap.size := Nat.lt_of_lt_of_le hpb c11.size
    have l2 : sb < w11.heap.size := Nat.lt_of_lt_of_le hsb c11.size
    clear cS
    go_region_with (first | (go_at_call 12; refine (cS2 _ (keptB_drew w11)).mono ?_; rintro e w12 ⟨rfl, nd, rfl⟩))
    all_goals
      go_wp2_with fail
      go_ret
      exact ⟨rfl, below_drewN' b11 _⟩

end Go.Proofs.YtkjlchfmplcobagDoor
