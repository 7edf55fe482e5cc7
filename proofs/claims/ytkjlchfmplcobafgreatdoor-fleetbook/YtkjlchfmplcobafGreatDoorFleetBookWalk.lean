/- The walk of the law FleetBook, over the faces of packages fleet, book and tree. -/
import Derived.Test.YtkjlchfmplcobafGreatDoorProg
import Derived.Test.YtkjlchfmplcobafGreatDoorFleetShownWalk
import Derived.Test.YtkjlchfmplcobafGreatDoorRunAB
import Derived.WalkKit
import Derived.WalkSpells
import Derived.WalkLawsBesides
import Derived.Deep.QuietTactic
import Derived.BigQuiet
import Derived.Maps.OwnSet
import Derived.Deep.DeepCutAuto
namespace Go.Proofs.YtkjlchfmplcobafGreatDoor
open Go.RowKit Go.Maps

theorem Tryz.keyIntB : Keyed Tryz.prog 3 := int_keyed Tryz.underlying3
theorem plainElem_bool_invB {P : Program} {e : TypeId} (he : P.underlying e = some .bool) {v : Value} {z : DataW Unit × List MemPlace} (h : plainElem P e v = some z) : ∃ a, v = .bool a ∧ z = (.lit (.bool a), []) := by
  unfold plainElem at h
  rw [he] at h
  cases v <;> simp at h
  subst h
  exact ⟨_, rfl, rfl⟩
theorem turned_belowB {B : Nat} {w0 w w' : World} {b : Nat} (h : Below B w0 w) (ht : w.mapTurned w' b) (hb : B ≤ b) (hB : B ≤ w.heap.size) : Below B w0 w' := h.grown ht.grown hB (fun q hq => by cases hq; exact hb)
theorem turned_box {w w' : World} {b k : Nat} {x : Obj} (ht : w.mapTurned w' b) (h : w.heap[k]? = some x) (hk : k ≠ b) : w'.heap[k]? = some x := by
  rw [ht.grown.block k (lt_heap h) (fun e => hk (Option.some.inj e))]; exact h
/-- Is a shard in the book's first rows? -/
def inRows (B : List Rec) : Nat → Int → Bool
  | 0, _ => false
  | j + 1, n => inRows B j n || decide ((B.getD j rec0).shard = n)
theorem inRows_iff (B : List Rec) (j : Nat) (n : Int) : inRows B j n = true ↔ ∃ i, i < j ∧ (B.getD i rec0).shard = n := by
  induction j with
  | zero => exact ⟨fun h => (by cases h), fun ⟨i, hi, _⟩ => absurd hi (Nat.not_lt_zero _)⟩
  | succ j ih =>
    unfold inRows
    rw [Bool.or_eq_true, ih, decide_eq_true_eq]
    constructor
    · rintro (⟨i, hi, h⟩ | h)
      · exact ⟨i, by omega, h⟩
      · exact ⟨j, by omega, h⟩
    · rintro ⟨i, hi, h⟩
      by_cases e : i = j
      · subst e; exact .inr h
      · exact .inl ⟨i, by omega, h⟩
structure HadB (B : List Rec) (j : Nat) (D : DataW Unit) : Prop where
  map : IsMap D
  had : ∀ n : Int, D.atKey (.int .i64 n) (.lit (.bool false)) = .lit (.bool (inRows B j n))
theorem hadB_none (B : List Rec) : HadB B 0 (.map []) := ⟨isMap_empty, fun _ => rfl⟩
theorem HadB.next {B : List Rec} {j : Nat} {D : DataW Unit} (h : HadB B j D) : HadB B (j + 1) (D.put (.int .i64 (B.getD j rec0).shard) (.lit (.bool true))) := by
  refine ⟨h.map.put _ _, fun n => ?_⟩
  unfold inRows
  by_cases e : (B.getD j rec0).shard = n
  · rw [e, atKey_put_same h.map (by trivial), decide_eq_true rfl, Bool.or_true]
  · rw [atKey_put_other (fun g => e (by cases g; rfl)), h.had, decide_eq_false e, Bool.or_false]
/-- What a row of the book is. -/
theorem row_facts {ws : List Win} {f : Flt} (h : FltOk ws f) {j : Nat} (hj : j < f.book.length) : ∃ k : Nat, k < f.shards.length ∧ (f.shards.getD k shd0).state ≠ 1 ∧ (f.book.getD j rec0).shard = (k : Int) ∧ (f.book.getD j rec0).from' = (f.shards.getD k shd0).from' ∧ (f.book.getD j rec0).to' = (f.shards.getD k shd0).to' ∧ inRows f.book j (k : Int) = false ∧
    ((f.shards.getD k shd0).state ≠ 4 → (f.book.getD j rec0).size = ((f.shards.getD k shd0).entries.length : Int) ∧ (f.book.getD j rec0).root = mth (f.shards.getD k shd0).entries) ∧ wrongL (f.shards.getD k shd0).entries = (0, 0) := by
  obtain ⟨k, hk, h1, e⟩ := h.inb j hj
  refine ⟨k, by rw [h.len]; exact hk, h1, by rw [e]; rfl, by rw [e]; rfl, by rw [e]; rfl, ?_, fun h4 => ?_, wrong_entries (h.each k hk)⟩
  · cases hI : inRows f.book j (k : Int) with
    | false => rfl
    | true =>
      obtain ⟨i, hi, g⟩ := (inRows_iff _ _ _).1 hI
      have := h.once i j (by omega) hj (by rw [g, e]; rfl)
      omega
  · have hh : headOf (f.shards.getD k shd0) = (((f.shards.getD k shd0).entries.length : Int), mth (f.shards.getD k shd0).entries) := by unfold headOf; rw [if_neg h4]
    rw [e]
    exact ⟨by show (headOf _).1 = _; rw [hh], by show (headOf _).2 = _; rw [hh]⟩
theorem in_book {ws : List Win} {f : Flt} (h : FltOk ws f) {k : Nat} (hk : k < f.shards.length) : inRows f.book f.book.length (k : Int) = ((f.shards.getD k shd0).state != 1) := by
  have hkw : k < ws.length := by rw [← h.len]; exact hk
  by_cases h1 : (f.shards.getD k shd0).state = 1
  · rw [h1]
    cases hI : inRows f.book f.book.length (k : Int) with
    | false => rfl
    | true =>
      obtain ⟨i, hi, g⟩ := (inRows_iff _ _ _).1 hI
      obtain ⟨q, hq, h2, e⟩ := h.inb i hi
      rw [e] at g
      have : q = k := by have e' : (q : Int) = (k : Int) := g; omega
      subst this
      exact absurd h1 h2
  · obtain ⟨j, hj, e⟩ := h.all k hkw h1
    rw [(inRows_iff _ _ _).2 ⟨j, hj, e⟩]
    symm
    simpa using h1
/-- The book at two times. -/
structure Books (ws : List Win) (P Q : Flt) : Prop where
  okP : FltOk ws P
  okQ : FltOk ws Q
  wins : (wrongWins ws).1 = 0
  le : Q.book.length ≤ P.book.length
  grew : 1 ≤ Q.book.length → grewL (Q.book.length : Int) (mth (rowsOf Q.book)) (P.book.length : Int) (mth (rowsOf P.book)) (proofL (rowsOf P.book) Q.book.length true) = true ∧ bookGrowF P.book (Q.book.length : Int) = (0, 0)
theorem books_of {ws : List Win} {l : List Dd} {k : Nat} (h : (playF ws l).1 = 0) : playF ws (l.take k) = (0, 0) ∧ Books ws (playL ws l).1 (playL ws (l.take k)).1 := by
  obtain ⟨e, hw, hl⟩ := play_ok h
  have hp := play_right (l := l.take k) hw (by rw [List.length_take]; omega)
  obtain ⟨e2, -, -⟩ := play_ok (ws := ws) (l := l.take k) (by rw [hp])
  refine ⟨hp, ?_⟩
  rw [e, e2]
  have hg := book_grows (startL ws) l k
  have hle : (runL (startL ws) (l.take k)).1.book.length ≤ (runL (startL ws) l).1.book.length := by
    have := congrArg List.length hg
    rw [List.length_take] at this
    omega
  have hok := run_ok (start_ok ws) l
  refine ⟨hok, run_ok (start_ok ws) _, hw, hle, fun h1 => ⟨grew_book hw l k h1, ?_⟩⟩
  have hb := book_right hw hok
  unfold bookGrowF
  rw [hb, if_neg (fun g => g rfl)]
  unfold growF
  rw [rows_wrong (by rw [hb]), if_neg (fun g => g rfl), if_neg (by rw [rows_length]; omega)]
theorem head_right {ws : List Win} {f : Flt} (hw : (wrongWins ws).1 = 0) (h : FltOk ws f) : wrongRecs f.book = (0, 0) ∧ bookSize f.book = (f.book.length : Int) ∧ bookRoot f.book = mth (rowsOf f.book) := by
  have hb := book_right hw h
  exact ⟨hb, by unfold bookSize; rw [hb, if_neg (fun g => g rfl)], by unfold bookRoot; rw [hb, if_neg (fun g => g rfl)]⟩
set_option maxRecDepth 100000 in
set_option maxHeartbeats 4000000 in
theorem fleetBook_any (hPl : PlayC) (hSh : ShowC) (hCh : CheckC) (hHe : BookHeadC) (hGr : BookGrowsC) (hGw : GrewC) (hRo : RootC) (ws : List Win) (l : List Dd) (at' : Int) (wa da : Option Addr) (wn wc dn dc : Nat) (w : World) (hR : Ready w) (hW : WinsAt w (.slice wa wn wc) ws) (hD : DosAt w (.slice da dn dc) l) (hn : l.length = dn) :
    Calls Tryz.prog 6 #[.slice wa wn wc, .slice da dn dc, .int .i64 at'] w fun e w' => e = .returned (.bool true) ∧ Below w.heap.size w w' := by
  have cA := alive7_any hPl hSh hCh hHe w hR
  have cP := fun w' (h : Below w.heap.size w w') => hPl ws l _ _ w' (hR.below h) (hW.below h) (hD.below h)
  have hdc : dn ≤ dc ∧ dc ≤ maxLen := by obtain ⟨a', c', e, h2, h3, -⟩ := hD; cases e; exact ⟨by omega, h3⟩
  unfold maxLen at hdc
  obtain ⟨hdc1, hdc2⟩ := hdc
  by_cases hneg : at' < 0
  · go_enter Tryz.func6, Tryz.ntmps6
    clear cP hW hD
    go_wp2_with fail
    refine cA.mono ?_
    rintro e w1 ⟨rfl, b1⟩
    go_wp2_with fail
    go_ret
    exact ⟨rfl, b1⟩
  by_cases hbig : (dn : Int) < at'
  · go_enter Tryz.func6, Tryz.ntmps6
    clear cP hW hD
    go_wp2_with fail
    refine cA.mono ?_
    rintro e w1 ⟨rfl, b1⟩
    go_wp2_with fail
    go_ret
    exact ⟨rfl, b1⟩
  obtain ⟨k, rfl⟩ := Int.eq_ofNat_of_zero_le (show 0 ≤ at' by omega)
  have hk : k ≤ dn := by omega
  have cQ := fun w' (h : Below w.heap.size w w') => hPl ws (l.take k) _ (.slice da k dc) w' (hR.below h) (hW.below h) (RowAt.first (hD.below h) hn hk)
  have HQ : Hid ((playF ws l).1 = 0 → playF ws (l.take k) = (0, 0) ∧ Books ws (playL ws l).1 (playL ws (l.take k)).1) := books_of
  clear hD hW hn hPl hSh hCh
  generalize playF ws l = F at *
  generalize playL ws l = P at *
  generalize playF ws (l.take k) = G at *
  generalize playL ws (l.take k) = Q at *
  obtain ⟨F1, F2⟩ := F
  obtain ⟨G1, G2⟩ := G
  obtain ⟨P, A⟩ := P
  obtain ⟨Q, B⟩ := Q
  dsimp only [faultV] at cP cQ HQ
  have hkd : ¬ (dn : Int) < k := by omega
  have hkc : (k : Int) ≤ dc := by omega
  go_enter Tryz.func6, Tryz.ntmps6
  go_wp2_with fail
  refine cA.mono ?_
  rintro e w1 ⟨rfl, b1⟩
  clear cA
  go_wp2_with fail
  refine (cP _ b1).mono ?_
  rintro e w2 ⟨fv, av, rfl, ⟨sa, sc, ka, kc, rfl, hS, hB⟩, hA, hb2⟩
  have b2 := b1.trans (hb2.mono b1.size)
  obtain ⟨aa, ac, rfl⟩ := hA.form
  have d3 : Below w2.heap.size w2 ((w2.alloc (.cells #[.slice sa P.shards.length sc, .slice ka P.book.length kc] 28)).alloc (.cells #[.int .i64 F1, .int .i64 F2] 32)) := ((Below.refl _ _).alloc (Nat.le_refl _) _).alloc (by simp) _
  have b3 := b2.trans (d3.mono b2.size)
  have x3 := box_one w2 #[.slice sa P.shards.length sc, .slice ka P.book.length kc] 28 (.cells #[.int .i64 F1, .int .i64 F2] 32)
  have f3 := box_last w2 (.cells #[.slice sa P.shards.length sc, .slice ka P.book.length kc] 28) #[.int .i64 F1, .int .i64 F2] 32
  have hS3 := hS.below d3
  have hB3 := hB.below d3
  clear cP hA hb2 b1 b2 d3 hS hB
  go_wp2_with fail
  generalize (w2.alloc (.cells #[.slice sa P.shards.length sc, .slice ka P.book.length kc] 28)).alloc (.cells #[.int .i64 F1, .int .i64 F2] 32) = w3 at *
  refine (cQ _ b3).mono ?_
  rintro e w4 ⟨gv, bv, rfl, ⟨sa', sc', ka', kc', rfl, -, hBq⟩, hB', hb4⟩
  obtain ⟨ba, bc, rfl⟩ := hB'.form
  have d5 : Below w4.heap.size w4 ((w4.alloc (.cells #[.slice sa' Q.shards.length sc', .slice ka' Q.book.length kc'] 28)).alloc (.cells #[.int .i64 G1, .int .i64 G2] 32)) := ((Below.refl _ _).alloc (Nat.le_refl _) _).alloc (by simp) _
  have c5 := hb4.trans (d5.mono hb4.size)
  have b5 := b3.trans (c5.mono b3.size)
  have z5 := box_one w4 #[.slice sa' Q.shards.length sc', .slice ka' Q.book.length kc'] 28 (.cells #[.int .i64 G1, .int .i64 G2] 32)
  obtain ⟨g0, g1, -, -⟩ := box_two (box_last w4 (.cells #[.slice sa' Q.shards.length sc', .slice ka' Q.book.length kc'] 28) #[.int .i64 G1, .int .i64 G2] 32)
  obtain ⟨f0, f1, -, -⟩ := box_two (box_kept f3 c5)
  have x5 := box_kept x3 c5
  have hS5 := hS3.below c5
  have hB5 := hB3.below c5
  have hq5 := hBq.below d5
  clear cQ hB' hb4 b3 d5 f3 c5 hS3 hB3 hBq x3
  by_cases hF : F1 ≠ 0
  · have hF' : (F1 != 0) = true := by simpa using hF
    clear HQ hF hS5 hB5 hq5
    go_wp2_with fail
    go_ret
    exact ⟨rfl, b5⟩
  obtain rfl : F1 = 0 := by simpa using hF
  obtain ⟨hG, hbk⟩ := HQ.out rfl
  obtain ⟨rfl, rfl⟩ : G1 = 0 ∧ G2 = 0 := by simpa using hG
  clear HQ hF hG
  have hw := hbk.wins
  obtain ⟨p1, p2, p3⟩ := head_right hw hbk.okP
  obtain ⟨q1, q2, q3⟩ := head_right hw hbk.okQ
  have cH := hHe P.book _ _ (hR.below b5) hB5
  have hmp := mth_length (rowsOf P.book)
  have hmq := mth_length (rowsOf Q.book)
  rw [p1, p2, p3, hmp] at cH
  dsimp only [faultV] at cH
  obtain ⟨x50, x51, -, -⟩ := box_two x5
  go_wp2_with fail
  generalize (w4.alloc (.cells #[.slice sa' Q.shards.length sc', .slice ka' Q.book.length kc'] 28)).alloc (.cells #[.int .i64 0, .int .i64 0] 32) = w5 at *
  clear f0 f1 g0 g1
  refine cH.mono ?_
  rintro e w6 ⟨ta, tc, rfl, ht, hb6⟩
  have d7 : Below w6.heap.size w6 ((w6.alloc (.cells #[.int .i64 (P.book.length : Int), .slice ta 32 tc] 39)).alloc (.cells #[.int .i64 0, .int .i64 0] 32)) := ((Below.refl _ _).alloc (Nat.le_refl _) _).alloc (by simp) _
  have c7 := hb6.trans (d7.mono hb6.size)
  have b7 := b5.trans (c7.mono b5.size)
  have y7 := box_one w6 #[.int .i64 (P.book.length : Int), .slice ta 32 tc] 39 (.cells #[.int .i64 0, .int .i64 0] 32)
  have f7 := box_last w6 (.cells #[.int .i64 (P.book.length : Int), .slice ta 32 tc] 39) #[.int .i64 0, .int .i64 0] 32
  have x7 := box_kept x5 c7
  have z7 := box_kept z5 c7
  obtain ⟨z70, z71, -, -⟩ := box_two z7
  have hS7 := hS5.below c7
  have hB7 := hB5.below c7
  have hq7 := hq5.below c7
  have ht7 := ht.below d7
  have cH2 := hHe Q.book _ _ (hR.below b7) hq7
  rw [q1, q2, q3, hmq] at cH2
  dsimp only [faultV] at cH2
  clear cH ht hb6 d7 c7 x5 z5 hS5 hB5 hq5 b5 x50 x51 p1 p2 p3 q1 q2 q3 hHe
  go_wp2_with fail
  generalize (w6.alloc (.cells #[.int .i64 (P.book.length : Int), .slice ta 32 tc] 39)).alloc (.cells #[.int .i64 0, .int .i64 0] 32) = w7 at *
  refine cH2.mono ?_
  rintro e w8 ⟨ua, uc, rfl, hu, hb8⟩
  have d9 : Below w8.heap.size w8 ((w8.alloc (.cells #[.int .i64 (Q.book.length : Int), .slice ua 32 uc] 39)).alloc (.cells #[.int .i64 0, .int .i64 0] 32)) := ((Below.refl _ _).alloc (Nat.le_refl _) _).alloc (by simp) _
  have c9 := hb8.trans (d9.mono hb8.size)
  have b9 := b7.trans (c9.mono b7.size)
  have u9 := box_one w8 #[.int .i64 (Q.book.length : Int), .slice ua 32 uc] 39 (.cells #[.int .i64 0, .int .i64 0] 32)
  have x9 := box_kept x7 c9
  have y9 := box_kept y7 c9
  obtain ⟨i0, i1, -, -⟩ := box_two u9
  obtain ⟨j0, j1, -, -⟩ := box_two (box_last w8 (.cells #[.int .i64 (Q.book.length : Int), .slice ua 32 uc] 39) #[.int .i64 0, .int .i64 0] 32)
  obtain ⟨k0, k1, -, -⟩ := box_two y9
  obtain ⟨l0, l1, -, -⟩ := box_two (box_kept f7 c9)
  have hS9 := hS7.below c9
  have hB9 := hB7.below c9
  have ht9 := ht7.below c9
  have hu9 := hu.below d9
  have hle := hbk.le
  have hle' : ¬ (P.book.length : Int) < Q.book.length := by omega
  have hpm : P.book.length ≤ maxLen := by obtain ⟨_, _, e, g2, g3, -⟩ := hB9; cases e; omega
  unfold maxLen at hpm
  clear cH2 hu hb8 d9 c9 x7 y7 f7 z7 z70 z71 hS7 hB7 hq7 ht7 b7
  generalize hPn : P.book.length = pn at *
  generalize hQn : Q.book.length = qn at *
  go_upto_if 89 with fail
  generalize ((w8.alloc (.cells #[.int .i64 (qn : Int), .slice ua 32 uc] 39)).alloc (.cells #[.int .i64 0, .int .i64 0] 32)) = w9 at *
  clear j0 j1 l0 l1
  go_cut [] (fun wx => Below w9.heap.size w9 wx)
  case first =>
    by_cases hq0 : qn = 0
    · subst hq0
      clear hbk
      go_wp2_with fail
      go_meet
      case rel => exact Below.refl _ _
    · have hq0' : (0 : Int) < qn := by omega
      obtain ⟨hgr, hgf⟩ := hbk.grew (by omega)
      have cG := hGr P.book (qn : Int) _ w9 (hR.below b9) hB9
      rw [hQn] at hgr hgf
      rw [hPn] at hgr
      rw [hgf] at cG
      dsimp only [faultV] at cG
      obtain ⟨m0, m1, -, -⟩ := box_two x9
      have hpb := proof_bytes (rowsOf P.book) qn true
      have hpd := proof_digs (rowsOf P.book) qn true
      rw [Int.toNat_natCast] at cG
      clear hgf hle hle'
      go_wp2_with fail
      refine cG.mono ?_
      rintro e w10 ⟨xa, xn, xc, rfl, hx, -, hb10⟩
      replace hx := hx (by trivial)
      have hxl := hx.lists hpb (digs_short hpd)
      have d11 : Below w10.heap.size w10 (w10.alloc (.cells #[.int .i64 0, .int .i64 0] 32)) := (Below.refl _ _).alloc (Nat.le_refl _) _
      have c11 := hb10.trans (d11.mono hb10.size)
      obtain ⟨n0, n1, -, -⟩ := box_two (box_new w10 #[.int .i64 0, .int .i64 0] 32)
      obtain ⟨i0', i1', -, -⟩ := box_two (box_kept u9 c11)
      obtain ⟨k0', k1', -, -⟩ := box_two (box_kept y9 c11)
      have cW := hGw (qn : Int) (mth (rowsOf Q.book)) (pn : Int) (mth (rowsOf P.book)) (proofL (rowsOf P.book) qn true) (.slice ua 32 uc) (.slice ta 32 tc) xa xn xc _ (hR.below (b9.trans (c11.mono b9.size))) (hu9.below c11) (ht9.below c11) (hxl.below d11)
      rw [hgr] at cW
      clear cG hx hxl hpb hpd hb10 d11 m0 m1 i0 i1 k0 k1 hgr hbk
      go_wp2_with fail
      generalize w10.alloc (.cells #[.int .i64 0, .int .i64 0] 32) = w11 at *
      refine cW.mono ?_
      rintro e w12 ⟨rfl, hb12⟩
      have c12 := c11.trans (hb12.mono c11.size)
      clear cW n0 n1 i0' i1' k0' k1'
      go_wp2_with fail
      go_meet
      case rel => exact c12
  case rest =>
    obtain ⟨w13, rfl⟩ : ∃ x, x = wc := ⟨wc, rfl⟩
    have b13 := b9.trans (hcut.mono b9.size)
    have x13 := box_kept x9 hcut
    have hS13 := hS9.below hcut
    have hB13 := hB9.below hcut
    have hmm := @run_makeMap Tryz.prog
    have o0 := World.ownsMap_made w13 Tryz.prog 3 (plainElem (H := Unit) Tryz.prog 4)
    have d14 : Below w13.heap.size w13 (w13.alloc (.map #[] 0)) := (Below.refl _ _).alloc (Nat.le_refl _) _
    have hzero : ∀ W : World, (zeroValue 4).run Tryz.prog W = .ok (.bool false) W := fun W => by kernel_rfl
    have hok := hbk.okP
    obtain ⟨m0, m1, -, -⟩ := box_two (box_kept x13 d14)
    have hSm : P.shards.length ≤ maxLen := by obtain ⟨_, _, e, g2, g3, -⟩ := hS13; cases e; omega
    unfold maxLen at hSm
    clear hcut hS9 hB9 ht9 hu9 x9 y9 u9 i0 i1 k0 k1 b9 hbk hle hle' hGr hGw
    go_wp2_with fail
    clear hmm
    generalize w13.alloc (.map #[] 0) = w14 at *
    have HL : Hid (∀ (W : World) (n j : Nat) (D : DataW Unit) (z : Int), W.ownsMap Tryz.prog 3 (plainElem (H := Unit) Tryz.prog 4) w13.heap.size n D → HadB P.book j D → (-9223372036854775808 ≤ z ∧ z ≤ 9223372036854775807) → (Instr.lookup 69 (.map (some w13.heap.size)) (.int .i64 z) false).run Tryz.prog W = .ok (.bool (inRows P.book j z)) W) := fun W n j D z hO hH hz => by
      obtain ⟨v, ps, hlk, hv⟩ := hO.lookup Tryz.keyIntB Tryz.underlying69 (hzero W) (plainElem_bool Tryz.underlying4 false) (keyOf_int_mk Tryz.underlying3 (a := z) (WalkArith.wf_i64 hz))
      obtain ⟨r, rfl, hr⟩ := plainElem_bool_invB Tryz.underlying4 hv
      simp only [Prod.mk.injEq] at hr
      have := hr.1
      rw [hH.had] at this
      rw [hlk]
      congr 2
      simpa using this.symm
    go_loopw [112] (fun kv wr => ∃ (j : Nat) (D : DataW Unit), j ≤ pn ∧ kv = .int .i64 j ∧ wr.ownsMap Tryz.prog 3 (plainElem (H := Unit) Tryz.prog 4) w13.heap.size j D ∧ Hid (HadB P.book j D) ∧ Below w13.heap.size w13 wr) (fun kv _ => pn - (intOf kv).toNat)
    case atStart => exact ⟨0, _, Nat.zero_le _, rfl, o0, hadB_none _, d14⟩
    case round =>
      obtain ⟨wo, rfl⟩ : ∃ x, x = wr := ⟨wr, rfl⟩
      obtain ⟨j, D, hj, rfl, hO, HH, hbr⟩ := hrel
      have hsr := hbr.size
      have hOl := hO.lt
      have hbw := b13.trans (hbr.mono b13.size)
      by_cases hlt : j < pn
      · have hlt' : (j : Int) < pn := by omega
        obtain ⟨q, hq, hst, e1, e2, e3, e4, e5, e6⟩ := row_facts hok (j := j) (by omega)
        have HN : Hid _ := HH.out.next
        obtain ⟨ka', kc', eB, -, -, -, hBc⟩ := hB13
        rw [hPn] at eB hBc
        cases eB
        obtain ⟨g, o, rfl, hg, hcs⟩ := hBc.resolve_left (by omega)
        obtain ⟨c0, c1, c2, c3, qa, qc, c4, hrt⟩ := hcs j hlt
        replace c0 := (hbr.cell (p := ⟨g, o + j * 5, none⟩) hg).trans c0
        replace c1 := (hbr.cell (p := ⟨g, o + j * 5 + 1, none⟩) hg).trans c1
        replace c2 := (hbr.cell (p := ⟨g, o + j * 5 + 2, none⟩) hg).trans c2
        replace c3 := (hbr.cell (p := ⟨g, o + j * 5 + 3, none⟩) hg).trans c3
        replace c4 := (hbr.cell (p := ⟨g, o + j * 5 + 4, none⟩) hg).trans c4
        obtain ⟨p5, o5, rfl, hp5, hV⟩ := hS13.get rfl hq
        rw [e1] at HN c0
        have HE5 : Hid _ := e5
        clear e5 hcs hBc
        generalize P.book.getD j rec0 = R at *
        have dA : Below wo.heap.size wo (wo.alloc (.cells #[.int .i64 (q : Int), .int .i64 R.from', .int .i64 R.to', .int .i64 R.size, .slice qa R.root.length qc] 51)) := (Below.refl _ _).alloc (Nat.le_refl _) _
        have hOA := hO.alloc (.cells #[.int .i64 (q : Int), .int .i64 R.from', .int .i64 R.to', .int .i64 R.size, .slice qa R.root.length qc] 51)
        have xA := box_new wo #[.int .i64 (q : Int), .int .i64 R.from', .int .i64 R.to', .int .i64 R.size, .slice qa R.root.length qc] 51
        obtain ⟨t0, t1, t2, t3, t4⟩ := box_five xA
        have hbA := hbr.alloc hsr (.cells #[.int .i64 (q : Int), .int .i64 R.from', .int .i64 R.to', .int .i64 R.size, .slice qa R.root.length qc] 51)
        have xfA := box_kept (box_kept x13 hbr) dA
        obtain ⟨r0, r1, -, -⟩ := box_two xfA
        obtain ⟨v0, v1, v2, -, -, -, -⟩ := hV.below hp5 hbA
        rw [← e2] at v0
        rw [← e3] at v1
        have HLq := fun n => HL.out ((wo.alloc (.cells #[.int .i64 (q : Int), .int .i64 R.from', .int .i64 R.to', .int .i64 R.size, .slice qa R.root.length qc] 51)).drewN n) j j D (q : Int) hOA HH.out (by omega)
        rw [e4] at HLq
        have hq1 : ¬ (P.shards.length : Int) ≤ q := by omega
        have hq2 : (q : Int) < P.shards.length := by omega
        have hst' : ((P.shards.getD q shd0).state == 1) = false := by simpa using hst
        have HV : Hid _ := hV
        clear hV dA hO e1 e2 e3 e4 m0 m1 HH hst
        generalize P.shards.getD q shd0 = S at *
        go_wp2_with fail
        clear c0 c1 c2 c3 c4
        generalize wo.alloc (.cells #[.int .i64 (q : Int), .int .i64 R.from', .int .i64 R.to', .int .i64 R.size, .slice qa R.root.length qc] 51) = wA at *
        go_quiet (fail)
        have hb1 : Below w13.heap.size w13 (wA.drewN nq) := below_drewN' hbA nq
        have hO1 : (wA.drewN nq).ownsMap Tryz.prog 3 (plainElem (H := Unit) Tryz.prog 4) w13.heap.size j D := hOA
        have xr1 : (wA.drewN nq).heap[wo.heap.size]? = _ := xA
        generalize wA.drewN nq = w1' at *
        obtain ⟨w2', hst2, hO2, ht2⟩ := hO1.store Tryz.keyIntB Tryz.underlying69 (by unfold maxLen; omega) (keyOf_int_mk Tryz.underlying3 (a := (q : Int)) (WalkArith.wf_i64 (by omega))) (plainElem_bool Tryz.underlying4 true)
        have hb2 := turned_belowB hb1 ht2 (Nat.le_refl _) hb1.size
        have xr2 := turned_box ht2 xr1 (by omega)
        obtain ⟨s0, s1, s2, s3, s4⟩ := box_five xr1
        obtain ⟨t0', t1', t2', t3', t4'⟩ := box_five xr2
        obtain ⟨r0', r1', -, -⟩ := box_two (box_kept x13 hb2)
        obtain ⟨v0', v1', v2', ⟨ea, ec, v3', hEs⟩, -, -, -⟩ := HV.out.below hp5 hb2
        clear HLq hO1 hOA xA xfA r0 r1 v0 v1 v2 t0 t1 t2 t3 t4 ht2 hst' hq1 xr1
        by_cases h4 : S.state = 4
        · rw [h4] at v2'
          clear HE5
          go_wp2_with fail
          go_roundw
          case rel => exact ⟨j + 1, _, by omega, by go_num, hO2, HN, hb2⟩
          case measure => simp [intOf]; omega
        · have h4' : (S.state != 4) = true := by simpa using h4
          obtain ⟨hsz, hroot⟩ := HE5.out h4
          have cR := hRo S.entries ea S.entries.length ec w2' (hR.below (b13.trans (hb2.mono b13.size))) hEs
          rw [e6] at cR
          dsimp only [faultV] at cR
          rw [hsz] at t3' s3 xr2
          have hEm : S.entries.length ≤ maxLen := by have := hEs.cap; have := hEs.room; omega
          unfold maxLen at hEm
          clear HE5 h4
          go_wp2_with fail
          clear s0 s1 s2 s3 s4
          refine cR.mono ?_
          rintro e w3' ⟨xa, xn, xc, rfl, ho, -, hb3⟩
          replace ho := ho (by trivial)
          obtain rfl : xn = 32 := own_len ho
          have d4 : Below w3'.heap.size w3' (w3'.alloc (.cells #[.int .i64 0, .int .i64 0] 32)) := (Below.refl _ _).alloc (Nat.le_refl _) _
          have c4' := hb3.trans (d4.mono hb3.size)
          have hb4 := hb2.trans (c4'.mono hb2.size)
          have hO4 := (hO2.kept (row := none) ⟨hb3.os, hb3.tape, hb3.output, hb3.size, fun k hk _ => hb3.block k hk⟩ (by simp)).alloc (.cells #[.int .i64 0, .int .i64 0] 32)
          have xr4 := box_kept xr2 c4'
          obtain ⟨n0, n1, n2, n3, n4⟩ := box_five xr4
          obtain ⟨f0, f1, -, -⟩ := box_two (box_kept x13 hb4)
          obtain ⟨-, -, -, ⟨ea4, ec4, y3, -⟩, -, -, -⟩ := HV.out.below hp5 hb4
          have hx4 := (bytesAt_own ho).below (Nat.le_refl _) d4
          have hr4 := hrt.below hb4
          have hml := mth_length S.entries
          have HSm : ∀ n, Calls Tryz.prog 13 #[.slice xa 32 xc, .slice qa R.root.length qc] ((w3'.alloc (.cells #[.int .i64 0, .int .i64 0] 32)).drewN n) fun e w' => e = .returned (.bool true) ∧ ∃ m, w' = ((w3'.alloc (.cells #[.int .i64 0, .int .i64 0] 32)).drewN n).drewN m := fun n => by
            have := same_any (mth S.entries) R.root (.slice xa 32 xc) (.slice qa R.root.length qc) ((w3'.alloc (.cells #[.int .i64 0, .int .i64 0] 32)).drewN n) (hx4.below (Nat.le_refl _) (below_drewN' (Below.refl _ _) n)) (hr4.below (below_drewN' (Below.refl _ _) n)).at' (by rw [hml]; unfold maxLen; omega)
            rwa [decide_eq_true hroot.symm] at this
          clear cR ho hb3 d4 c4' hx4 hr4 hroot hO2 xr2 hEs v0' v1' v2' v3' t0' t1' t2' t3' t4' r0' r1' xr4 e6 HV hrt
          go_wp2_with fail
          generalize w3'.alloc (.cells #[.int .i64 0, .int .i64 0] 32) = w4' at *
          generalize S.entries.length = en at *
          go_quiet ((go_at_call 13; exact Calls.quiet_of (HSm _)))
          go_wp2_with fail
          go_roundw
          case rel => exact ⟨j + 1, _, by omega, by go_num, hO4, HN, below_drewN' hb4 _⟩
          case measure => simp [intOf]; omega
      · obtain rfl : j = pn := by omega
        have hnl : ¬ (j : Int) < j := by omega
        obtain ⟨f0, f1, -, -⟩ := box_two (box_kept x13 hbr)
        have HIN : Hid (∀ q : Nat, q < P.shards.length → inRows P.book j (q : Int) = ((P.shards.getD q shd0).state != 1)) := fun q hq => by have := in_book hok hq; rwa [hPn] at this
        go_wp2_with fail
        clear f0 f1
        go_loopw [208] (fun kv wr => ∃ (i : Nat), i ≤ P.shards.length ∧ kv = .int .i64 i ∧ wr.ownsMap Tryz.prog 3 (plainElem (H := Unit) Tryz.prog 4) w13.heap.size j D ∧ Below w13.heap.size w13 wr) (fun kv _ => P.shards.length - (intOf kv).toNat)
        case atStart => exact ⟨0, Nat.zero_le _, rfl, hO, hbr⟩
        case round =>
          obtain ⟨wp, rfl⟩ : ∃ x, x = wr := ⟨wr, rfl⟩
          obtain ⟨i, hi, rfl, hOp, hbp⟩ := hrel
          have hsp := hbp.size
          have hbwp := b13.trans (hbp.mono b13.size)
          by_cases hli : i < P.shards.length
          · have hli' : (i : Int) < P.shards.length := by omega
            obtain ⟨p5, o5, rfl, hp5, hV⟩ := hS13.get rfl hli
            obtain ⟨c0, c1, c2, ⟨ea, ec, c3, -⟩, c4, ⟨ra, rc, c5, -⟩, ⟨ga, gc, c6, -⟩⟩ := hV.below hp5 hbp
            have hin := HIN.out i hli
            generalize P.shards.getD i shd0 = S at *
            have hbA := hbp.alloc hsp (.cells #[.int .i64 S.from', .int .i64 S.to', .int .i64 S.state, .slice ea S.entries.length ec, .int .i64 S.man.size, .slice ra S.man.root.length rc, .slice ga S.man.segs.length gc] 49)
            have hOA := hOp.alloc (.cells #[.int .i64 S.from', .int .i64 S.to', .int .i64 S.state, .slice ea S.entries.length ec, .int .i64 S.man.size, .slice ra S.man.root.length rc, .slice ga S.man.segs.length gc] 49)
            obtain ⟨t0, t1, t2, t3, t4, t5, t6⟩ := box_7 (box_new wp #[.int .i64 S.from', .int .i64 S.to', .int .i64 S.state, .slice ea S.entries.length ec, .int .i64 S.man.size, .slice ra S.man.root.length rc, .slice ga S.man.segs.length gc] 49)
            have HLi := HL.out _ j j D (i : Int) hOA HH.out (by omega)
            rw [hin] at HLi
            clear hV HIN HL HH hOp
            by_cases h1 : S.state = 1
            · rw [h1] at c2 t0 t1 t2 t3 t4 t5 t6 hbA hOA HLi
              go_wp2_with fail
              go_roundw
              case rel => exact ⟨i + 1, by omega, by go_num, hOA, hbA⟩
              case measure => simp [intOf]; omega
            · have h1' : (S.state != 1) = true := by simpa using h1
              rw [h1'] at HLi
              go_wp2_with fail
              go_roundw
              case rel => exact ⟨i + 1, by omega, by go_num, hOA, hbA⟩
              case measure => simp [intOf]; omega
          · obtain rfl : i = P.shards.length := by omega
            have hnli : ¬ (P.shards.length : Int) < P.shards.length := by omega
            clear HIN HL HH
            go_wp2_with fail
            go_ret
            exact ⟨rfl, hbwp⟩

end Go.Proofs.YtkjlchfmplcobafGreatDoor
