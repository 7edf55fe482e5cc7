/- TopUnlike, TopHeadsWalk, as one text. -/
import Derived.Test.YtkjlchfmplcobahDoorProg
import Derived.Test.YtkjlchfmplcobahDoorRunAG
import Derived.WalkKit
import Derived.WalkSpells
import Derived.WalkLawsBesides
import Derived.Maps.OwnSet
import Derived.StringKeys
import Derived.Laws.BytesArg
import Derived.Shelf.Bytes.SlSmallAll
/- The walk of yeartop.unlike. -/
namespace Go.Proofs.YtkjlchfmplcobahDoor
open Go.RowKit Go.Maps

theorem Tryd.keyStr : Keyed Tryd.prog 9 := string_keyed Tryd.underlying9
theorem plainElem_bool_inv {P : Program} {e : TypeId} (he : P.underlying e = some .bool) {v : Value} {z : DataW Unit × List MemPlace} (h : plainElem P e v = some z) : ∃ a, v = .bool a ∧ z = (.lit (.bool a), []) := by
  unfold plainElem at h
  rw [he] at h
  cases v <;> simp at h
  subst h
  exact ⟨_, rfl, rfl⟩
set_option maxRecDepth 100000 in
theorem conv_some {w : World} {pa : Option Addr} {pc n : Nat} {b : List Int} (h : Some' w (.slice pa n pc) b) (hn : b.length = n) : (convert 25 9 (.slice pa n pc)).run Tryd.prog w = .ok (.string (strOfNums b)) w := by
  rcases h.at' with ⟨rfl, a, c, e, -⟩ | ⟨g, off, cp, e, -, hc⟩
  · cases e
    exact Go.Proofs.run_convert_bytes_zero w _ _ Tryd.underlying25 Tryd.underlying5 _ _ _ Tryd.underlying9
  · cases e
    exact run_convert_bytes_arg w _ _ Tryd.underlying25 Tryd.underlying5 g off _ _ b rfl hc _ Tryd.underlying9
/-- The key of an entry. -/
def keyL (e : List Int) : Lit := .string (strOfNums e).data.toList
theorem keyL_key {e : List Int} (h : e.length ≤ maxLen) : keyOf Tryd.prog 9 (.string (strOfNums e)) = some (keyL e) := _root_.Go.WideMaps.keyOf_string_mk Tryd.underlying9 (by rw [strOfNums_size]; exact h)
/-- What is had so far. -/
structure Had (es : List (List Int)) (j : Nat) (D : DataW Unit) : Prop where
  map : IsMap D
  nodup : (es.take j).Nodup
  short : ∀ e ∈ es.take j, e.length ≤ 200
  had : ∀ e ∈ es.take j, ∀ z, D.atKey (keyL e) z = .lit (.bool true)
theorem Had.next {es : List (List Int)} {j : Nat} {D : DataW Unit} (h : Had es j D) (hj : j < es.length) (hn : D.atKey (keyL (es.getD j [])) (.lit (.bool false)) = .lit (.bool false)) (hs : (es.getD j []).length ≤ 200) : Had es (j + 1) (D.put (keyL (es.getD j [])) (.lit (.bool true))) := by
  have ht : es.take (j + 1) = es.take j ++ [es.getD j []] := by
    rw [List.take_add_one, List.getElem?_eq_getElem hj, List.getD_eq_getElem?_getD, List.getElem?_eq_getElem hj]; rfl
  have hno : es.getD j [] ∉ es.take j := fun g => by
    rw [h.had _ g] at hn
    simp at hn
  refine ⟨h.map.put _ _, ?_, ?_, ?_⟩
  · rw [ht]
    refine List.nodup_append.2 ⟨h.nodup, by simp, fun a ha b hb => ?_⟩
    rw [List.mem_singleton.1 hb]
    exact fun e => hno (e ▸ ha)
  · rw [ht]
    intro e he
    rcases List.mem_append.1 he with he | he
    · exact h.short e he
    · rw [List.mem_singleton.1 he]; exact hs
  · rw [ht]
    intro e he z
    by_cases hk : keyL e = keyL (es.getD j [])
    · rw [hk, atKey_put_same h.map (by trivial)]
    · rw [atKey_put_other hk]
      rcases List.mem_append.1 he with he | he
      · exact h.had e he z
      · exact absurd (by rw [List.mem_singleton.1 he]) hk
theorem turned_belowT {B : Nat} {w0 w w' : World} {b : Nat} (h : Below B w0 w) (ht : w.mapTurned w' b) (hb : B ≤ b) (hB : B ≤ w.heap.size) : Below B w0 w' := h.grown ht.grown hB (fun q hq => by cases hq; exact hb)
set_option maxRecDepth 100000 in
set_option maxHeartbeats 2000000 in
theorem unlike_any (es : List (List Int)) (ea : Option Addr) (n c : Nat) (w : World) (hL : Lists w ea n c es) :
    Calls Tryd.prog 10 #[.slice ea n c] w fun e w' => ((e = .returned (.bool true) ∧ Unlike es) ∨ e = .returned (.bool false)) ∧ Below w.heap.size w w' := by
  have hlen := hL.len
  have hroom := hL.room
  have hcap := hL.cap
  unfold maxLen at hcap
  have hmm := @run_makeMap Tryd.prog
  have o0 := World.ownsMap_made w Tryd.prog 9 (plainElem (H := Unit) Tryd.prog 4)
  have b0 : Below w.heap.size w (w.alloc (.map #[] 0)) := (Below.refl _ _).alloc (Nat.le_refl _) _
  have hzero : ∀ W : World, (zeroValue 4).run Tryd.prog W = .ok (.bool false) W := fun W => by kernel_rfl
  go_enter Tryd.func10, Tryd.ntmps10
  go_wp2_with fail
  clear hmm
  generalize w.alloc (.map #[] 0) = w0 at *
  go_loopw [9] (fun kv wr => ∃ (j : Nat) (D : DataW Unit), j ≤ n ∧ kv = .int .i64 j ∧ wr.ownsMap Tryd.prog 9 (plainElem (H := Unit) Tryd.prog 4) w.heap.size j D ∧ Hid (Had es j D) ∧ Below w.heap.size w wr) (fun kv _ => n - (intOf kv).toNat)
  case atStart => exact ⟨0, _, Nat.zero_le _, rfl, o0, ⟨isMap_empty, List.nodup_nil, fun _ h => by simp at h, fun _ h => by simp at h⟩, b0⟩
  case round =>
    obtain ⟨wo, rfl⟩ : ∃ x, x = wr := ⟨wr, rfl⟩
    obtain ⟨j, D, hj, rfl, hO, HH, hbr⟩ := hrel
    by_cases hlt : j < n
    · have hlt' : (j : Int) < n := by omega
      obtain ⟨b, off, pa, pc, rfl, hcell, hP⟩ := (hL.below hbr).get j hlt
      have HN : Hid (D.atKey (keyL (es.getD j [])) (.lit (.bool false)) = .lit (.bool false) → (es.getD j []).length ≤ 200 → Had es (j + 1) (D.put (keyL (es.getD j [])) (.lit (.bool true)))) := HH.out.next (by omega)
      generalize es.getD j [] = E at *
      have hcv := conv_some hP rfl
      obtain ⟨v, ps, hlk, hv⟩ := hO.lookup Tryd.keyStr Tryd.underlying65 (hzero wo) (plainElem_bool Tryd.underlying4 false) (keyL_key hP.short)
      obtain ⟨r, rfl, hr⟩ := plainElem_bool_inv Tryd.underlying4 hv
      simp only [Prod.mk.injEq] at hr
      have hE := hr.1
      clear hv hr
      have hEm : E.length ≤ 2 ^ 63 - 1 := hP.short
      cases r with
      | true =>
        clear HN hE HH hO
        go_wp2_with fail
        go_ret
        exact ⟨.inr rfl, hbr⟩
      | false =>
        by_cases h200 : 200 < E.length
        · have h200' : (200 : Int) < E.length := by omega
          clear HN hE HH hO
          go_wp2_with fail
          go_ret
          exact ⟨.inr rfl, hbr⟩
        · have h200' : ¬ (200 : Int) < E.length := by omega
          have HN2 : Hid _ := HN.out hE (by omega)
          obtain ⟨w5, hst, hO5, ht5⟩ := hO.store Tryd.keyStr Tryd.underlying65 (by unfold maxLen; omega) (keyL_key hP.short) (plainElem_bool Tryd.underlying4 true)
          have b5 := turned_belowT hbr ht5 (Nat.le_refl _) hbr.size
          clear HN HH hO ht5 hE
          go_wp2_with fail
          go_roundw
          case rel => exact ⟨j + 1, _, by omega, by go_num, hO5, HN2, b5⟩
          case measure => simp [intOf]; omega
    · obtain rfl : j = n := by omega
      have hnl : ¬ (j : Int) < j := by omega
      have hT : es.take j = es := List.take_of_length_le (by omega)
      have HU : Hid (j ≤ 30 → Unlike es) := fun h => by
        have := HH.out
        exact ⟨by have g := this.nodup; rwa [hT] at g, by have g := this.short; rwa [hT] at g, by omega⟩
      clear HH hO
      by_cases h30 : (j : Int) ≤ 30
      · go_wp2_with fail
        go_ret
        exact ⟨.inl ⟨rfl, HU.out (by omega)⟩, hbr⟩
      · go_wp2_with fail
        go_ret
        exact ⟨.inr rfl, hbr⟩

end Go.Proofs.YtkjlchfmplcobahDoor

/- The walk of the law TopHeads, over package fleet's faces. -/
namespace Go.Proofs.YtkjlchfmplcobahDoor
open Go.RowKit

theorem year_nil (k : Nat) (es : List (List Int)) (far : Nat) : ([] ++ (subsL (10 * (k : Int) + 5) es ++ (stepsT k).take far) : List Dd) = yearL k es far := rfl
theorem yearL_length (k : Nat) (es : List (List Int)) {far : Nat} (h : far ≤ 3) : (yearL k es far).length = es.length + far := by
  unfold yearL
  rw [List.length_append, List.length_take]
  show (subsL _ es).length + min far 3 = _
  rw [Nat.min_eq_left h]
  simp [subsL]
/-- What comes of one year. -/
theorem heads_play {es : List (List Int)} (hu : Unlike es) : playF (winsL 1) (yearL 0 es 3) = (0, 0) ∧ (playL (winsL 1) (yearL 0 es 3)).2 = yearA 0 es 3 := by
  have hr : playF (winsL 1) (yearL 0 es 3) = (0, 0) := play_right (by rw [winsL_right (by omega)]) (by rw [yearL_length 0 es (by omega)]; have := hu.few; omega)
  refine ⟨hr, ?_⟩
  rw [(play_ok (by rw [hr])).1, run_year (f := startL (winsL 1)) (k := 0) hu (by rfl) rfl rfl (by omega) (by omega)]
theorem yearA_length (k : Nat) (es : List (List Int)) : (yearA k es 3).length = es.length + 3 := by
  unfold yearA
  rw [List.length_append]
  unfold placesL
  simp
theorem yearA_last (k : Nat) (es : List (List Int)) {j : Nat} (h : j < 3) : (yearA k es 3).getD (es.length + j) ans0 = ⟨0, (k : Int), 0, (es.length : Int), mth es⟩ := by
  unfold yearA
  have hl : (placesL k 0 es).length = es.length := by unfold placesL; simp
  rw [List.getD_eq_getElem?_getD, List.getElem?_append_right (by omega), hl, Nat.add_sub_cancel_left]
  match j, h with
  | 0, _ => rfl
  | 1, _ => rfl
  | 2, _ => rfl
set_option maxRecDepth 100000 in
set_option maxHeartbeats 4000000 in
theorem topHeads_any (hPl : PlayC) (hRo : RootC) (es : List (List Int)) (ea : Option Addr) (n c : Nat) (w : World) (hR : Ready w) (hL : Lists w ea n c es) :
    Calls Tryd.prog 4 #[.slice ea n c] w fun e w' => e = .returned (.bool true) ∧ Below w.heap.size w w' := by
  have cA := topAlive_any hPl w hR
  have hlen := hL.len
  have hroom := hL.room
  have hcap := hL.cap
  unfold maxLen at hcap
  go_enter Tryd.func4, Tryd.ntmps4
  go_wp2_with fail
  refine cA.mono ?_
  rintro e w1 ⟨rfl, b1⟩
  clear cA
  go_wp2_with fail
  refine (unlike_any es ea n c w1 (hL.below b1)).mono ?_
  rintro e w2 ⟨hu, hb2⟩
  have b2 := b1.trans (hb2.mono b1.size)
  rcases hu with ⟨rfl, hu⟩ | rfl
  rotate_left
  · go_wp2_with fail
    go_ret
    exact ⟨rfl, b2⟩
  have hn30 : n ≤ 30 := by have := hu.few; omega
  have hL2 := hL.below b2
  have hY := year_any [] 0 3 es none ea 0 0 n c _ [] w2 rfl (World.ownsRow_nil _ _ _ _) (doB_nil _ _) (Nat.le_refl _) (stay_low hL2 (Below.refl _ _)) (by omega) (by omega) (by omega)
  rw [year_nil] at hY
  obtain ⟨hpf, hpa⟩ := heads_play hu
  have hw0 := hu.wrong
  clear hb2 b1
  go_wp2_with fail
  refine hY.mono ?_
  rintro e w3 ⟨v3, rfl, va, vc, vs, rfl, hrow, hD, -, -, hb3, -⟩
  have hly : (yearL 0 es 3).length = n + 3 := by rw [yearL_length 0 es (by omega), hlen]
  have hDo := hD.dos hrow
  rw [hly] at hDo ⊢
  have b3 := b2.trans (hb3.mono b2.size)
  clear hY hD hrow
  go_wp2_with fail
  refine (windows_any 1 (by omega) w3).mono ?_
  rintro e w4 ⟨wa, wc, rfl, hW4, hb4⟩
  have b4 := b3.trans (hb4.mono b3.size)
  have cP := hPl (winsL 1) (yearL 0 es 3) _ _ w4 (hR.below b4) hW4 (hDo.below hb4)
  rw [hpf, hpa] at cP
  dsimp only [faultV] at cP
  generalize (playL (winsL 1) (yearL 0 es 3)).1 = F at *
  clear hW4 hDo hpf hpa hly hb3 hb4
  go_wp2_with fail
  refine cP.mono ?_
  rintro e w5 ⟨fv, av, rfl, hF, hA, hb5⟩
  have b5 := b4.trans (hb5.mono b4.size)
  obtain ⟨sa, sc, ba, bc, rfl, -, -⟩ := hF
  obtain ⟨aa, ac, rfl⟩ := hA.form
  have hAl := yearA_length 0 es
  rw [hlen] at hAl
  rw [hAl] at hA ⊢
  have HAN : Hid (∀ j, j < 3 → (yearA 0 es 3).getD (n + j) ans0 = ⟨0, ((0 : Nat) : Int), 0, (n : Int), mth es⟩) := fun j hj => by have := yearA_last 0 es hj; rwa [hlen] at this
  have d6 : Below w5.heap.size w5 ((w5.alloc (.cells #[.slice sa F.shards.length sc, .slice ba F.book.length bc] 32)).alloc (.cells #[.int .i64 0, .int .i64 0] 36)) := ((Below.refl _ _).alloc (Nat.le_refl _) _).alloc (by simp) _
  have x6 := box_last w5 (.cells #[.slice sa F.shards.length sc, .slice ba F.book.length bc] 32) #[.int .i64 0, .int .i64 0] 36
  have b6 := b5.trans (d6.mono b5.size)
  have hA6 := hA.below d6
  have cR := hRo es ea n c _ (hR.below b6) (hL.below b6)
  rw [hw0] at cR
  dsimp only [faultV] at cR
  generalize yearA 0 es 3 = A at *
  clear cP hA hb5 b5 d6 b4 b3 hPl hL2 hRo
  go_wp2_with fail
  generalize (w5.alloc (.cells #[.slice sa F.shards.length sc, .slice ba F.book.length bc] 32)).alloc (.cells #[.int .i64 0, .int .i64 0] 36) = w6 at *
  refine cR.mono ?_
  rintro e w7 ⟨xa, xn, xc, rfl, ho, -, hb7⟩
  have ho7 := ho True.intro
  obtain rfl : xn = 32 := by rcases ho7.2 with ⟨-, h⟩ | ⟨_, _, _, e, -⟩; exact absurd h (by omega); cases e; rfl
  have hrt : BytesAt w7 (.slice xa 32 xc) (mth es) := bytesAt_own ho7
  have d8 : Below w7.heap.size w7 (w7.alloc (.cells #[.int .i64 0, .int .i64 0] 36)) := (Below.refl _ _).alloc (Nat.le_refl _) _
  have b7 := b6.trans (hb7.mono b6.size)
  have b8 := b7.trans (d8.mono b7.size)
  obtain ⟨g0, g1, -, -⟩ := box_two (box_new w7 #[.int .i64 0, .int .i64 0] 36)
  obtain ⟨f0, f1, -, -⟩ := box_two (box_old _ (.cells #[.int .i64 0, .int .i64 0] 36) (box_kept x6 hb7))
  have hA8 := (hA6.below hb7).below d8
  have hrt8 := hrt.below (Nat.le_refl _) d8
  clear cR ho ho7 hA6 hrt x6 hb7 d8
  have hac : n + 3 ≤ ac ∧ ac ≤ maxLen := by obtain ⟨_, _, e, g2, g3, -⟩ := hA8; rw [hAl] at e g2; cases e; exact ⟨g2, g3⟩
  unfold maxLen at hac
  obtain ⟨hac1, hac2⟩ := hac
  obtain ⟨ab, ao, rfl, hab, -⟩ := hA8.at' hAl (show 0 < n + 3 by omega)
  have HC : Hid (∀ (j : Nat), j < 3 → ∀ W : World, Below (w7.alloc (.cells #[.int .i64 0, .int .i64 0] 36)).heap.size (w7.alloc (.cells #[.int .i64 0, .int .i64 0] 36)) W → AnsCells W ab (ao + n * 5 + j * 5) ⟨0, ((0 : Nat) : Int), 0, (n : Int), mth es⟩) := fun j hj W hW => by
    obtain ⟨b, o, e, h2, h3⟩ := (hA8.below hW).at' hAl (show n + j < n + 3 by omega)
    cases e
    rw [HAN.out j hj, show ao + (n + j) * 5 = ao + n * 5 + j * 5 by omega] at h3
    exact h3
  have hml := mth_length es
  have n1 : (0 : Int) ≤ n := by omega
  have n2 : (n : Int) ≤ (n : Int) + 3 := by omega
  clear hA8 HAN
  go_wp2_with fail
  generalize w7.alloc (.cells #[.int .i64 0, .int .i64 0] 36) = w8 at *
  clear f0 f1 g0 g1
  go_loopw [43] (fun kv wr => ∃ (q : Nat), q ≤ 3 ∧ kv = .int .i64 q ∧ Below w8.heap.size w8 wr) (fun kv _ => 3 - (intOf kv).toNat)
  case atStart => exact ⟨0, Nat.zero_le _, rfl, Below.refl _ _⟩
  case round =>
    obtain ⟨wo, rfl⟩ : ∃ x, x = wr := ⟨wr, rfl⟩
    obtain ⟨q, hq, rfl, hbr⟩ := hrel
    have hbw := b8.trans (hbr.mono b8.size)
    by_cases hlt : q < 3
    · have hlt' : (q : Int) < 3 := by omega
      obtain ⟨e0, e1, e2, e3, ra, rc, e4, hr4⟩ := HC.out q hlt wo hbr
      dsimp only at e0 e1 e2 e3 e4 hr4
      rw [hml] at e4 hr4
      have dB : Below wo.heap.size wo (wo.alloc (.cells #[.int .i64 0, .int .i64 ((0 : Nat) : Int), .int .i64 0, .int .i64 (n : Int), .slice ra 32 rc] 44)) := (Below.refl _ _).alloc (Nat.le_refl _) _
      have xB := box_new wo #[.int .i64 0, .int .i64 ((0 : Nat) : Int), .int .i64 0, .int .i64 (n : Int), .slice ra 32 rc] 44
      have t0 := cell_of_row _ _ 0 _ _ _ xB
      have t3 := cell_of_row _ _ 3 _ _ _ xB
      have t4 := cell_of_row _ _ 4 _ _ _ xB
      have cS := same_any (mth es) (mth es) (.slice ra 32 rc) (.slice xa 32 xc) (wo.alloc (.cells #[.int .i64 0, .int .i64 ((0 : Nat) : Int), .int .i64 0, .int .i64 (n : Int), .slice ra 32 rc] 44)) ((hr4.at').below (Nat.le_refl _) dB) ((hrt8.below (Nat.le_refl _) hbr).below (Nat.le_refl _) dB) (by rw [hml]; unfold maxLen; omega)
      rw [decide_eq_true rfl] at cS
      have bB := hbr.trans (dB.mono hbr.size)
      clear HC hrt8 hr4 xB dB
      go_wp2_with fail
      refine cS.mono ?_
      rintro e w9 ⟨rfl, nd, rfl⟩
      clear cS
      go_wp2_with fail
      go_roundw
      case rel => exact ⟨q + 1, by omega, by go_num, below_drewN' bB nd⟩
      case measure => simp [intOf]; omega
    · obtain rfl : q = 3 := by omega
      go_wp2_with fail
      go_ret
      exact ⟨rfl, hbw⟩

end Go.Proofs.YtkjlchfmplcobahDoor
