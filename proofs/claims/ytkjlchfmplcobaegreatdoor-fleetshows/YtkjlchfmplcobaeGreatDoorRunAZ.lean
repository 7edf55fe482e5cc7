/- FleetRefShowTail, FleetRefShow, as one text. -/
import Derived.Test.YtkjlchfmplcobaeGreatDoorFleetGoShowC
import Derived.Test.YtkjlchfmplcobaeGreatDoorRunAP
import Derived.Test.YtkjlchfmplcobaeGreatDoorShelfRefVerify
/- The rest of yearref5.Show, behind what lies in the shard. -/
namespace Go.Proofs.YtkjlchfmplcobaeGreatDoor
open Go.RowKit

noncomputable def showFrom (n : Nat) : Code := ((Tryz.f12.body.bind (fromRegion n)).getD .skip)
noncomputable def showRest (n : Nat) : Code := ((Tryz.f12.body.bind (restFrom n)).getD .skip)
set_option maxRecDepth 100000 in
set_option maxHeartbeats 4000000 in
theorem show_tail (f : Flt) (m row : Nat) (i : Int) (L : List (List Int)) (SL : Shw × Int) (sa ba xa : Option Addr) (sc bc xc : Nat) (w W : World)
  (b0 : Below w.heap.size w W) (x0 : W.heap[w.heap.size]? = some (.cells #[.slice sa f.shards.length sc, .slice ba f.book.length bc] 27 (0, 0)))
  (z0 : W.heap[w.heap.size + 1]? = some (.cells #[.slice none 0 0, .int .i64 0, .int .i64 0, .slice none 0 0, .int .i64 0, .int .i64 0, .int .i64 0, .int .i64 0, .slice none 0 0, .int .i64 0, .slice none 0 0, .int .i64 0, .slice none 0 0] 47 (0, 0)))
  (hBkw : RecsAt w (.slice ba f.book.length bc) f.book) (hL : Lists W xa L.length xc L) (HWH : Hid (∀ eb eo, 0 < L.length → xa = some ⟨eb, eo, none⟩ → eb ≠ w.heap.size + 1)) (cc2 : wrongL L = (0, 0)) (cc5 : L.length ≤ 100) (cc6 : ∀ j, (L.getD j []).length ≤ 200)
  (hbr : wrongRecs f.book = (0, 0)) (hrl : row < f.book.length)
  (HSP : Hid ((pathF L i).1 ≠ 0 → SL = (shw0, (pathF L i).1)))
  (HSO : Hid ((pathF L i).1 = 0 → SL = (⟨L.getD i.toNat [], i, (m : Int), pathL L i.toNat, f.book.getD row rec0, (row : Int), pathL (rowsOf f.book) row, (f.book.length : Int), mth (rowsOf f.book)⟩, 0)))
  {c0 c4 c5 c7 c9 c11 c12 c13 c14 c15 c16 c17 c18 c19 c20 c21 c22 c23 c24 c25 c26 c27 c28 c29 c30 c31 c32 c33 c34 c35 c36 c37 c38 c39 c40 c41 c42 c43 c44 c45 c46 c47 c48 c49 c50 c51 c52 c53 c54 c55 c56 c57 c58 c59 c60 c61 c62 c63 c64 c65 c66 c67 c68 c69 c70 c71 c72 c73 c74 c75 c76 c77 c78 c79 c80 c81 c82 c83 c84 c85 c86 c87 c88 c89 c90 c91 c92 c93 c94 c95 c96 c97 c98 c99 c100 c101 c102 c103 c104 c105 c106 c107 c108 c109 c110 c111 c112 c113 c114 c115 c116 c117 c118 c119 c120 c121 c122 c123 c124 c125 c126 c127 c128 : Value} :
  Code.wp Tryz.prog (showRest 20) (bodyPost Tryz.prog Tryz.f12 fun e w' => ∃ sv, e = .returned (.tuple #[sv, .int .i64 SL.2]) ∧ ShwV w' sv SL.1 ∧ Below w.heap.size w w') ⟨#[c0, .int .i64 (m : Int), .int .i64 i, .pointer (some ⟨w.heap.size, 0, none⟩), c4, c5, .pointer (some ⟨w.heap.size + 1, 0, none⟩), c7, .int .i64 (row : Int), c9, .slice xa L.length xc, c11, c12, c13, c14, c15, c16, c17, c18, c19, c20, c21, c22, c23, c24, c25, c26, c27, c28, c29, c30, c31, c32, c33, c34, c35, c36, c37, c38, c39, c40, c41, c42, c43, c44, c45, c46, c47, c48, c49, c50, c51, c52, c53, c54, c55, c56, c57, c58, c59, c60, c61, c62, c63, c64, c65, c66, c67, c68, c69, c70, c71, c72, c73, c74, c75, c76, c77, c78, c79, c80, c81, c82, c83, c84, c85, c86, c87, c88, c89, c90, c91, c92, c93, c94, c95, c96, c97, c98, c99, c100, c101, c102, c103, c104, c105, c106, c107, c108, c109, c110, c111, c112, c113, c114, c115, c116, c117, c118, c119, c120, c121, c122, c123, c124, c125, c126, c127, c128], []⟩ W := by
 conv => arg 2; whnf
 have hBk := hBkw.below b0
 obtain ⟨g0, g1, -, -⟩ := box_two x0
 by_cases hin : 0 ≤ i ∧ i < (L.length : Int)
 ·obtain ⟨n, rfl⟩ : ∃ n : Nat, i = n := ⟨i.toNat, by omega⟩
  have i1 : decide ((n : Int) < 0) = false := decide_eq_false (by omega)
  have i2 : decide ((L.length : Int) ≤ n) = false := decide_eq_false (by omega)
  have cR := refRows_any f.book ba f.book.length bc W hBk rfl
  rw [hbr] at cR
  go_wp2_with fail
  refine cR.mono ?_
  rintro e w1 ⟨ya, yn, yc, rfl, hO, hb1⟩
  replace hO := hO trivial
  dsimp only [faultV]
  have d2 : Below w1.heap.size w1 (w1.alloc (.cells #[.int .i64 0, .int .i64 0] 31)) := (Below.refl _ _).alloc (Nat.le_refl _) _
  have c2' := hb1.trans (d2.mono hb1.size)
  have b2 := b0.trans (c2'.mono b0.size)
  obtain ⟨f0, f1, -, -⟩ := box_two (box_new w1 #[.int .i64 0, .int .i64 0] 31)
  have x2 := box_kept x0 c2'
  have z2 := box_kept z0 c2'
  have hL2 := hL.below c2'
  have hO2 := hO.below d2 (Nat.le_refl _)
  have hrb := hBkw.bytes
  obtain ⟨ya', yc', eO, ho1, ho2⟩ := hO2.form
  rw [rows_length] at eO ho1
  cases eO
  have h8 := (wrongRecs_ok (l := f.book) (by rw [hbr])).1
  have hw0 : (wrongRecs f.book).1 = 0 := by rw [hbr]
  have hby := rows_bytes hw0 hrb
  have hsh := rows_short hw0
  obtain ⟨ba', bc', eB, hB1, hB2, -, hBc⟩ := hBkw
  cases eB
  obtain ⟨kb, ko, rfl, hkw, hkc⟩ := hBc.resolve_left (by omega)
  obtain ⟨r0, r1, r2, r3, ra', rc', r4, hrr⟩ := (hkc row hrl).below hkw b2
  have HE : Hid (SL = (⟨L.getD (n : Int).toNat [], (n : Int), (m : Int), pathL L (n : Int).toNat, f.book.getD row rec0, (row : Int), pathL (rowsOf f.book) row, (f.book.length : Int), mth (rowsOf f.book)⟩, 0)) := HSO.out (by unfold pathF; rw [cc2, if_neg (fun g => g rfl), if_neg (by omega)])
  rw [Int.toNat_natCast] at HE
  clear cR hb1 d2 c2' x0 z0 hL hBk b0 hO g0 g1 HSP HSO hkc hBc hB1 hB2 hrb hbr hw0
  obtain ⟨g0, g1, -, -⟩ := box_two x2
  go_wp2_with fail
  generalize w1.alloc (.cells #[.int .i64 0, .int .i64 0] 31) = V at *
  clear f0 f1
  generalize w1.heap.size = QQ at *
  have hLv : ∀ w', Below V.heap.size V w' → Leaves w' ya f.book.length yc (rowsOf f.book) := fun w' h => ⟨rows_length _, (hO2.parts).below (Nat.le_refl _) h, ho1, ho2, hby, fun j => by have := hsh j; omega⟩
  have hLl : ∀ w', Below V.heap.size V w' → Leaves w' xa L.length xc L := fun w' h => ⟨rfl, (hL2.below h).at', hL2.room, hL2.cap, hL2.bytes, fun j => by have := cc6 j; omega⟩
  have hP1 := fun w' (h : Below V.heap.size V w') => refPath_any L.length L n (n : Int) xa xc w' rfl (by omega) (by omega) (hLl w' h)
  have hP2 := fun w' (h : Below V.heap.size V w') => refPath_any f.book.length (rowsOf f.book) row (row : Int) ya yc w' rfl (by omega) (by omega) (hLv w' h)
  have hM := fun w' (h : Below V.heap.size V w') => (hLv w' h).mth (by omega)
  obtain ⟨eb, eo, za, zc, rfl, hce, hcb⟩ := hL2.get n (by omega)
  have heb : eb < V.heap.size := World.block_lt_of_cell? _ _ hce
  have hebR : eb ≠ w.heap.size + 1 := HWH.out eb eo (by omega) rfl
  have hkb : kb < V.heap.size := Nat.lt_of_lt_of_le hkw b2.size
  have hkbR : kb ≠ w.heap.size + 1 := by omega
  have lx : w.heap.size < V.heap.size := lt_heap x2
  have lz : w.heap.size + 1 < V.heap.size := lt_heap z2
  have nx : w.heap.size ≠ w.heap.size + 1 := by omega
  have hn1 : (n : Int) < L.length := by omega
  have hn0 : (0 : Int) ≤ n := by omega
  have hw1 : (row : Int) < f.book.length := by omega
  have hw0 : (0 : Int) ≤ row := by omega
  obtain ⟨RR, HRR⟩ : ∃ RR, Hid (f.book.getD row rec0 = RR) := ⟨_, rfl⟩
  rw [HRR.out] at r0 r1 r2 r3 r4 hrr HE
  obtain ⟨EN, HEN⟩ : ∃ EN, Hid (L.getD n [] = EN) := ⟨_, rfl⟩
  rw [HEN.out] at hce hcb HE
  have Z2 : Hid (V.heap[w.heap.size + 1]? = some (.cells #[.slice none 0 0, .int .i64 0, .int .i64 0, .slice none 0 0, .int .i64 0, .int .i64 0, .int .i64 0, .int .i64 0, .slice none 0 0, .int .i64 0, .slice none 0 0, .int .i64 0, .slice none 0 0] 47 (0, 0))) := z2
  have HB2 : Hid (Below w.heap.size w V) := b2
  have HCB : Hid (Some' V (.slice za EN.length zc) EN) := hcb
  have HRB : Hid (Some' V (.slice ra' RR.root.length rc') RR.root) := hrr
  clear hLv hLl hL2 hO2 hby hsh h8 ho1 ho2 z2 b2 hcb hrr x2 g0 hin i1 i2 cc2 cc5 cc6 HWH hkw HRR HEN hrl
  go_region_held3 (fun w' => V.heap.size ≤ w'.heap.size ∧ ∀ b o, b < V.heap.size → b ≠ w.heap.size + 1 → w'.cell? ⟨b, o, none⟩ = V.cell? ⟨b, o, none⟩) (first | (with_reducible assumption) | (with_reducible exact keptR_drew V _) | (with_reducible exact keptR_13 hKC zL _ _ _ _ _ _ _ _ _ _ _ _ _))
   (first
   | (go_at_call 35; refine (hM _ hBB).mono ?_; rintro e wC ⟨ma, mc, rfl, hoC, hbC⟩; have hBC := hBB.trans (hbC.mono hBB.size); have hKC := keptR_below hKB hbC; have zL := box_kept Z2.out hBC; obtain ⟨t0, t1, t2, t3, t4, t5, t6, t7, t8, t9, t10, t11, t12⟩ := box_13 zL; obtain ⟨u0, u1, u2, u3, u4, u5, u6, u7, u8, u9, u10, u11, u12⟩ := free_13 zL)
   | (go_at_call 34; refine (hP2 _ hBA).mono ?_; rintro e wB ⟨qv, rfl, hoB, hbB⟩; obtain ⟨qa, qc, rfl, -, -⟩ := hoB.form; have hBB : Below V.heap.size V wB := hBA.trans (hbB.mono hBA.size); have hKB := keptR_below hKA hbB)
   | (go_at_call 34; refine (hP1 _ (Below.refl _ _).drew).mono ?_; rintro e wA ⟨pv, rfl, hoA, hbA⟩; obtain ⟨pa, pc, rfl, -, -⟩ := hoA.form; have hBA : Below V.heap.size V wA := (Below.refl _ _).drew.trans hbA; have hKA := keptR_below (keptR_drew V (w.heap.size + 1)) hbA))
  have hpL := ((hoA.below hbB (Nat.le_refl _)).below hbC (Nat.le_refl _)).lists (path_bytes L n) (digs_short (path_digs L n))
  have hqL := (hoB.below hbC (Nat.le_refl _)).lists (path_bytes (rowsOf f.book) row) (digs_short (path_digs (rowsOf f.book) row))
  have hV : ShwV wC (.agg #[.slice za EN.length zc, .int .i64 (n : Int), .int .i64 (m : Int), .slice pa (pathL L n).length pc, .int .i64 RR.shard, .int .i64 RR.from', .int .i64 RR.to', .int .i64 RR.size, .slice ra' RR.root.length rc', .int .i64 (row : Int), .slice qa (pathL (rowsOf f.book) row).length qc, .int .i64 (f.book.length : Int), .slice ma 32 mc]) ⟨EN, (n : Int), (m : Int), pathL L n, RR, (row : Int), pathL (rowsOf f.book) row, (f.book.length : Int), mth (rowsOf f.book)⟩ :=
   ⟨za, zc, pa, pc, ra', rc', qa, qc, ma, mc, by rw [mth_length], HCB.out.below hBC, hpL, HRB.out.below hBC, hqL, by rw [mth_length]; exact ⟨bytesAt_own hoC, bytes_mth _, by rw [mth_length]; unfold maxLen; omega⟩⟩
  have HV : Hid _ := hV.offZ (offZ_13 zL (.slice za EN.length zc) (.int .i64 (n : Int)) (.int .i64 (m : Int)) (.slice pa (pathL L n).length pc) (.int .i64 RR.shard) (.int .i64 RR.from') (.int .i64 RR.to') (.int .i64 RR.size) (.slice ra' RR.root.length rc') (.int .i64 (row : Int)) (.slice qa (pathL (rowsOf f.book) row).length qc) (.int .i64 (f.book.length : Int)) (.slice ma 32 mc)) (path_digs L n) (path_digs (rowsOf f.book) row)
  have bL := thirteen_below (HB2.out.trans (hBC.mono HB2.out.size)) (show w.heap.size ≤ w.heap.size + 1 by omega) (.slice za EN.length zc) (.int .i64 (n : Int)) (.int .i64 (m : Int)) (.slice pa (pathL L n).length pc) (.int .i64 RR.shard) (.int .i64 RR.from') (.int .i64 RR.to') (.int .i64 RR.size) (.slice ra' RR.root.length rc') (.int .i64 (row : Int)) (.slice qa (pathL (rowsOf f.book) row).length qc) (.int .i64 (f.book.length : Int)) (.slice ma 32 mc)
  obtain ⟨s0, s1, s2, s3, s4, s5, s6, s7, s8, s9, s10, s11, s12⟩ := box_13 (thirteen_set zL (.slice za EN.length zc) (.int .i64 (n : Int)) (.int .i64 (m : Int)) (.slice pa (pathL L n).length pc) (.int .i64 RR.shard) (.int .i64 RR.from') (.int .i64 RR.to') (.int .i64 RR.size) (.slice ra' RR.root.length rc') (.int .i64 (row : Int)) (.slice qa (pathL (rowsOf f.book) row).length qc) (.int .i64 (f.book.length : Int)) (.slice ma 32 mc))
  clear hV hpL hqL hoA hoB hoC hbA hbB hbC hBA hBB hBC hKA hKB hKC zL t0 t1 t2 t3 t4 t5 t6 t7 t8 t9 t10 t11 t12 u0 u1 u2 u3 u4 u5 u6 u7 u8 u9 u10 u11 u12 hP1 hP2 hM
  go_wp2_with fail
  exact bodyPost_ret (v := .tuple #[.agg #[.slice za EN.length zc, .int .i64 (n : Int), .int .i64 (m : Int), .slice pa (pathL L n).length pc, .int .i64 RR.shard, .int .i64 RR.from', .int .i64 RR.to', .int .i64 RR.size, .slice ra' RR.root.length rc', .int .i64 (row : Int), .slice qa (pathL (rowsOf f.book) row).length qc, .int .i64 (f.book.length : Int), .slice ma 32 mc], .int .i64 0]) (by simp [results, Tryz.results12, go_sem, s0, s1, s2, s3, s4, s5, s6, s7, s8, s9, s10, s11, s12]) rfl ⟨_, by rw [HE.out], by rw [HE.out]; exact HV.out, bL⟩
 ·have hp : (pathF L i).1 = 6 := by unfold pathF; rw [cc2, if_neg (fun g => g rfl), if_pos (by omega)]
  have HE : Hid (SL = (shw0, 6)) := by show _ = _; rw [HSP.out (by rw [hp]; decide), hp]
  obtain ⟨t0, t1, t2, t3, t4, t5, t6, t7, t8, t9, t10, t11, t12⟩ := box_13 z0
  obtain ⟨r0, r1, r2, r3, r4, r5, r6, r7, r8, r9, r10, r11, r12⟩ := free_13 z0
  obtain ⟨s0, s1, s2, s3, s4, s5, s6, s7, s8, s9, s10, s11, s12⟩ := box_13 (thirteen_set z0 (.slice none 0 0) (.int .i64 0) (.int .i64 0) (.slice none 0 0) (.int .i64 0) (.int .i64 0) (.int .i64 0) (.int .i64 0) (.slice none 0 0) (.int .i64 0) (.slice none 0 0) (.int .i64 0) (.slice none 0 0))
  have bE := thirteen_below b0 (show w.heap.size ≤ w.heap.size + 1 by omega) (.slice none 0 0) (.int .i64 0) (.int .i64 0) (.slice none 0 0) (.int .i64 0) (.int .i64 0) (.int .i64 0) (.int .i64 0) (.slice none 0 0) (.int .i64 0) (.slice none 0 0) (.int .i64 0) (.slice none 0 0)
  by_cases i1 : i < 0
  ·have i1' : decide (i < 0) = true := decide_eq_true i1
   clear HSP HSO hin hp
   go_wp2_with fail
   exact bodyPost_ret (v := .tuple #[.agg #[.slice none 0 0, .int .i64 0, .int .i64 0, .slice none 0 0, .int .i64 0, .int .i64 0, .int .i64 0, .int .i64 0, .slice none 0 0, .int .i64 0, .slice none 0 0, .int .i64 0, .slice none 0 0], .int .i64 6]) (by simp [results, Tryz.results12, go_sem, s0, s1, s2, s3, s4, s5, s6, s7, s8, s9, s10, s11, s12]) rfl ⟨_, by rw [HE.out], by rw [HE.out]; exact shwV_nil _, bE⟩
  ·have i1' : decide (i < 0) = false := decide_eq_false i1
   have i2' : decide ((L.length : Int) ≤ i) = true := decide_eq_true (by omega)
   clear HSP HSO hin hp
   go_wp2_with fail
   exact bodyPost_ret (v := .tuple #[.agg #[.slice none 0 0, .int .i64 0, .int .i64 0, .slice none 0 0, .int .i64 0, .int .i64 0, .int .i64 0, .int .i64 0, .slice none 0 0, .int .i64 0, .slice none 0 0, .int .i64 0, .slice none 0 0], .int .i64 6]) (by simp [results, Tryz.results12, go_sem, s0, s1, s2, s3, s4, s5, s6, s7, s8, s9, s10, s11, s12]) rfl ⟨_, by rw [HE.out], by rw [HE.out]; exact shwV_nil _, bE⟩

end Go.Proofs.YtkjlchfmplcobaeGreatDoor

/- The walk of yearref5.Show. -/
namespace Go.Proofs.YtkjlchfmplcobaeGreatDoor
open Go.RowKit

/-- The first row of a shard from a place on. -/
def RowDown (b : List Rec) (k : Int) (t : Nat) (r : Int) : Prop := (r = -1 ∧ ∀ i, t ≤ i → i < b.length → ¬ (b.getD i rec0).shard = k) ∨ ∃ q : Nat, r = q ∧ t ≤ q ∧ q < b.length ∧ (b.getD q rec0).shard = k ∧ ∀ i, t ≤ i → i < q → ¬ (b.getD i rec0).shard = k
theorem rowDown_start (b : List Rec) (k : Int) : RowDown b k b.length (-1) := .inl ⟨rfl, fun i h1 h2 => absurd h2 (by omega)⟩
theorem rowDown_hit {b : List Rec} {k : Int} {t : Nat} (ht : t < b.length) (h : (b.getD t rec0).shard = k) : RowDown b k t t := .inr ⟨t, rfl, Nat.le_refl _, ht, h, fun i h1 h2 => absurd h2 (by omega)⟩
theorem rowDown_miss {b : List Rec} {k : Int} {t : Nat} {r : Int} (h : RowDown b k (t + 1) r) (hn : ¬ (b.getD t rec0).shard = k) : RowDown b k t r := by
 rcases h with ⟨e, h⟩ | ⟨q, e, h1, h2, h3, h4⟩
 ·exact .inl ⟨e, fun i hi hl => by by_cases g : i = t; (· rw [g]; exact hn); exact h i (by omega) hl⟩
 ·exact .inr ⟨q, e, by omega, h2, h3, fun i hi hl => by by_cases g : i = t; (· rw [g]; exact hn); exact h4 i (by omega) hl⟩
theorem rowDown_done {b : List Rec} {k r : Int} (h : RowDown b k 0 r) : r = idxOf (rowOf b k) := by
 rcases h with ⟨e, h⟩ | ⟨q, e, h1, h2, h3, h4⟩
 ·rw [idx_norow (fun j hj => h j (Nat.zero_le _) hj), e]; rfl
 ·rw [idx_row h2 h3 (fun i hi => h4 i (Nat.zero_le _) hi), e]; rfl
set_option maxRecDepth 100000 in
set_option maxHeartbeats 4000000 in
theorem refShow_out (f : Flt) (k i : Int) (fv : Value) (w : World) (hF : FltV w fv f) (q3 : k < 0 ∨ (f.shards.length : Int) ≤ k) :
  Calls Tryz.prog 12 #[fv, .int .i64 k, .int .i64 i] w fun e w' => ∃ sv, e = .returned (.tuple #[sv, .int .i64 (showL f k i).2]) ∧ ShwV w' sv (showL f k i).1 ∧ Below w.heap.size w w' := by
 obtain ⟨sa, sc, ba, bc, rfl, -, -⟩ := hF
 have HE : Hid (showL f k i = (shw0, 6)) := show_out q3
 have b0 : Below w.heap.size w ((w.alloc (.cells #[.slice sa f.shards.length sc, .slice ba f.book.length bc] 27)).alloc (.cells #[.slice none 0 0, .int .i64 0, .int .i64 0, .slice none 0 0, .int .i64 0, .int .i64 0, .int .i64 0, .int .i64 0, .slice none 0 0, .int .i64 0, .slice none 0 0, .int .i64 0, .slice none 0 0] 47)) := ((Below.refl _ _).alloc (Nat.le_refl _) _).alloc (by simp) _
 have x0 := box_one w #[.slice sa f.shards.length sc, .slice ba f.book.length bc] 27 (.cells #[.slice none 0 0, .int .i64 0, .int .i64 0, .slice none 0 0, .int .i64 0, .int .i64 0, .int .i64 0, .int .i64 0, .slice none 0 0, .int .i64 0, .slice none 0 0, .int .i64 0, .slice none 0 0] 47)
 have z0 := box_last w (.cells #[.slice sa f.shards.length sc, .slice ba f.book.length bc] 27) #[.slice none 0 0, .int .i64 0, .int .i64 0, .slice none 0 0, .int .i64 0, .int .i64 0, .int .i64 0, .int .i64 0, .slice none 0 0, .int .i64 0, .slice none 0 0, .int .i64 0, .slice none 0 0] 47
 obtain ⟨g0, g1, -, -⟩ := box_two x0
 obtain ⟨t0, t1, t2, t3, t4, t5, t6, t7, t8, t9, t10, t11, t12⟩ := box_13 z0
 generalize showL f k i = SL at *
 by_cases q1 : k < 0
 ·clear q3
  go_enter Tryz.func12, Tryz.ntmps12
  go_wp2_with fail
  exact bodyPost_ret (v := .tuple #[.agg #[.slice none 0 0, .int .i64 0, .int .i64 0, .slice none 0 0, .int .i64 0, .int .i64 0, .int .i64 0, .int .i64 0, .slice none 0 0, .int .i64 0, .slice none 0 0, .int .i64 0, .slice none 0 0], .int .i64 6]) (by simp [results, Tryz.results12, go_sem, t0, t1, t2, t3, t4, t5, t6, t7, t8, t9, t10, t11, t12]) rfl ⟨_, by rw [HE.out], by rw [HE.out]; exact shwV_nil _, b0⟩
 ·have q2 := q3.resolve_left q1
  have q2' : decide ((f.shards.length : Int) ≤ k) = true := decide_eq_true q2
  have q1' : decide (k < 0) = false := decide_eq_false q1
  clear q3
  go_enter Tryz.func12, Tryz.ntmps12
  go_wp2_with fail
  exact bodyPost_ret (v := .tuple #[.agg #[.slice none 0 0, .int .i64 0, .int .i64 0, .slice none 0 0, .int .i64 0, .int .i64 0, .int .i64 0, .int .i64 0, .slice none 0 0, .int .i64 0, .slice none 0 0, .int .i64 0, .slice none 0 0], .int .i64 6]) (by simp [results, Tryz.results12, go_sem, t0, t1, t2, t3, t4, t5, t6, t7, t8, t9, t10, t11, t12]) rfl ⟨_, by rw [HE.out], by rw [HE.out]; exact shwV_nil _, b0⟩
set_option maxRecDepth 100000 in
set_option maxHeartbeats 4000000 in
theorem refShow_norow (f : Flt) (k i : Int) (fv : Value) (w : World) (hF : FltV w fv f) (q3 : ¬ (k < 0 ∨ (f.shards.length : Int) ≤ k)) (hrw : rowOf f.book k = none) :
  Calls Tryz.prog 12 #[fv, .int .i64 k, .int .i64 i] w fun e w' => ∃ sv, e = .returned (.tuple #[sv, .int .i64 (showL f k i).2]) ∧ ShwV w' sv (showL f k i).1 ∧ Below w.heap.size w w' := by
 obtain ⟨sa, sc, ba, bc, rfl, -, hBk⟩ := hF
 have HE : Hid (showL f k i = (shw0, 8)) := show_norow q3 hrw
 have HD : ∀ r : Int, Hid (RowDown f.book k 0 r → r = -1) := fun r h => by rw [rowDown_done h, hrw]; rfl
 have b0 : Below w.heap.size w ((w.alloc (.cells #[.slice sa f.shards.length sc, .slice ba f.book.length bc] 27)).alloc (.cells #[.slice none 0 0, .int .i64 0, .int .i64 0, .slice none 0 0, .int .i64 0, .int .i64 0, .int .i64 0, .int .i64 0, .slice none 0 0, .int .i64 0, .slice none 0 0, .int .i64 0, .slice none 0 0] 47)) := ((Below.refl _ _).alloc (Nat.le_refl _) _).alloc (by simp) _
 have x0 := box_one w #[.slice sa f.shards.length sc, .slice ba f.book.length bc] 27 (.cells #[.slice none 0 0, .int .i64 0, .int .i64 0, .slice none 0 0, .int .i64 0, .int .i64 0, .int .i64 0, .int .i64 0, .slice none 0 0, .int .i64 0, .slice none 0 0, .int .i64 0, .slice none 0 0] 47)
 have z0 := box_last w (.cells #[.slice sa f.shards.length sc, .slice ba f.book.length bc] 27) #[.slice none 0 0, .int .i64 0, .int .i64 0, .slice none 0 0, .int .i64 0, .int .i64 0, .int .i64 0, .int .i64 0, .slice none 0 0, .int .i64 0, .slice none 0 0, .int .i64 0, .slice none 0 0] 47
 obtain ⟨g0, g1, -, -⟩ := box_two x0
 obtain ⟨t0, t1, t2, t3, t4, t5, t6, t7, t8, t9, t10, t11, t12⟩ := box_13 z0
 have q1' : decide (k < 0) = false := decide_eq_false (by omega)
 have q2' : decide ((f.shards.length : Int) ≤ k) = false := decide_eq_false (by omega)
 have hB0 := hBk.below b0
 obtain ⟨ba', bc', eB, hB1, hB2, -, hBc⟩ := hB0
 cases eB
 unfold maxLen at hB2
 generalize showL f k i = SL at *
 clear q3 hrw hBk
 go_enter Tryz.func12, Tryz.ntmps12
 go_wp2_with fail
 generalize (w.alloc (.cells #[.slice sa f.shards.length sc, .slice ba f.book.length bc] 27)).alloc (.cells #[.slice none 0 0, .int .i64 0, .int .i64 0, .slice none 0 0, .int .i64 0, .int .i64 0, .int .i64 0, .int .i64 0, .slice none 0 0, .int .i64 0, .slice none 0 0, .int .i64 0, .slice none 0 0] 47) = w0 at *
 go_loopw [8, 9] (fun rv kv wr => ∃ (t : Nat) (r : Int), t ≤ f.book.length ∧ rv = .int .i64 r ∧ kv = .int .i64 ((t : Int) - 1) ∧ Hid (RowDown f.book k t r) ∧ wr = w0) (fun _ kv _ => (intOf kv + 1).toNat)
 case atStart => exact ⟨f.book.length, -1, Nat.le_refl _, rfl, by go_num, rowDown_start _ _, rfl⟩
 case round =>
  obtain ⟨t, r, ht, rfl, rfl, HO, rfl⟩ := hrel
  by_cases h0 : t = 0
  ·subst h0
   obtain rfl : r = -1 := (HD r).out HO.out
   obtain ⟨r0, r1, r2, r3, r4, r5, r6, r7, r8, r9, r10, r11, r12⟩ := free_13 z0
   obtain ⟨s0, s1, s2, s3, s4, s5, s6, s7, s8, s9, s10, s11, s12⟩ := box_13 (thirteen_set z0 (.slice none 0 0) (.int .i64 0) (.int .i64 0) (.slice none 0 0) (.int .i64 0) (.int .i64 0) (.int .i64 0) (.int .i64 0) (.slice none 0 0) (.int .i64 0) (.slice none 0 0) (.int .i64 0) (.slice none 0 0))
   have bE := thirteen_below b0 (show w.heap.size ≤ w.heap.size + 1 by omega) (.slice none 0 0) (.int .i64 0) (.int .i64 0) (.slice none 0 0) (.int .i64 0) (.int .i64 0) (.int .i64 0) (.int .i64 0) (.slice none 0 0) (.int .i64 0) (.slice none 0 0) (.int .i64 0) (.slice none 0 0)
   clear HD HO hBc
   go_wp2_with fail
   exact bodyPost_ret (v := .tuple #[.agg #[.slice none 0 0, .int .i64 0, .int .i64 0, .slice none 0 0, .int .i64 0, .int .i64 0, .int .i64 0, .int .i64 0, .slice none 0 0, .int .i64 0, .slice none 0 0, .int .i64 0, .slice none 0 0], .int .i64 8]) (by simp [results, Tryz.results12, go_sem, s0, s1, s2, s3, s4, s5, s6, s7, s8, s9, s10, s11, s12]) rfl ⟨_, by rw [HE.out], by rw [HE.out]; exact shwV_nil _, bE⟩
  ·obtain ⟨u, rfl⟩ : ∃ u, t = u + 1 := ⟨t - 1, by omega⟩
   have hu : ((u + 1 : Nat) : Int) - 1 = u := by omega
   rw [hu]
   obtain ⟨kb, ko, rfl, hkw, hkc⟩ := hBc.resolve_left (by omega)
   obtain ⟨r0, -, -, -, -⟩ := hkc u (by omega)
   have hu0 : (0 : Int) ≤ u := by omega
   have hu1 : (u : Int) < f.book.length := by omega
   by_cases hin : (f.book.getD u rec0).shard = k
   ·have HN : Hid (RowDown f.book k u u) := rowDown_hit (by omega) hin
    rw [hin] at r0
    clear HD HO hBc hkc hin
    go_wp2_with fail
    go_roundw
    case rel => exact ⟨u, (u : Int), by omega, rfl, by go_num, HN, trivial⟩
    case measure => simp [intOf] <;> omega
   ·have HN : Hid (RowDown f.book k u r) := rowDown_miss HO.out hin
    have hin' : ((f.book.getD u rec0).shard == k) = false := by simpa using hin
    clear HD HO hBc hkc hin
    generalize f.book.getD u rec0 = X at *
    go_wp2_with fail
    go_roundw
    case rel => exact ⟨u, r, by omega, rfl, by go_num, HN, trivial⟩
    case measure => simp [intOf] <;> omega

set_option maxRecDepth 100000 in
set_option maxHeartbeats 4000000 in
theorem refShow_row (ws : List Win) (hws : (wrongWins ws).1 = 0) (f : Flt) (hok : FltOk ws f) (k i : Int) (fv : Value) (w : World) (hF : FltV w fv f) (q3 : ¬ (k < 0 ∨ (f.shards.length : Int) ≤ k)) (row : Nat) (hrw : rowOf f.book k = some row) :
  Calls Tryz.prog 12 #[fv, .int .i64 k, .int .i64 i] w fun e w' => ∃ sv, e = .returned (.tuple #[sv, .int .i64 (showL f k i).2]) ∧ ShwV w' sv (showL f k i).1 ∧ Below w.heap.size w w' := by
 obtain ⟨m, rfl⟩ : ∃ m : Nat, k = m := ⟨k.toNat, by omega⟩
 obtain ⟨sa, sc, ba, bc, rfl, hSh, hBk⟩ := hF
 have hsl : f.shards.length ≤ 9223372036854775807 := by obtain ⟨a', c', e, h1, h2, -⟩ := hSh; unfold maxLen at h2; cases e; omega
 have HD : ∀ r : Int, Hid (RowDown f.book (m : Int) 0 r → r = (row : Int)) := fun r h => by rw [rowDown_done h, hrw]; rfl
 have hrl : row < f.book.length := (find_range_some hrw).1
 have hmw : m < ws.length := by have := hok.len; omega
 obtain ⟨cc1, cc2, -, -, cc5, cc6⟩ := content_ok (hok.each m hmw)
 have hbr := book_right hws hok
 have HSP := fun hp => show_path (f := f) (k := (m : Int)) (i := i) q3 hrw (by rw [Int.toNat_natCast]; exact cc1) hp
 have HSO := fun hp => show_ok (f := f) (k := (m : Int)) (i := i) q3 hrw (by rw [Int.toNat_natCast]; exact cc1) hp (by rw [hbr])
 rw [Int.toNat_natCast] at HSP HSO
 obtain ⟨sa', sc', e, hS1, hS2, -, hSc⟩ := hSh
 cases e
 obtain ⟨sb, so, rfl, hsb, hcs⟩ := hSc.resolve_left (by omega)
 have hSd := hcs m (by omega)
 have hk1 : (m : Int) < f.shards.length := by omega
 have hk0 : (0 : Int) ≤ m := by omega
 have hr0 : ¬ (row : Int) < 0 := by omega
 clear hcs hSc hws hok
 obtain ⟨X, HX⟩ : ∃ X, Hid (f.shards.getD m shd0 = X) := ⟨_, rfl⟩
 rw [HX.out] at hSd cc1 cc2 cc5 cc6 HSP HSO
 have b0 : Below w.heap.size w ((w.alloc (.cells #[.slice (some ⟨sb, so, none⟩) f.shards.length sc, .slice ba f.book.length bc] 27)).alloc (.cells #[.slice none 0 0, .int .i64 0, .int .i64 0, .slice none 0 0, .int .i64 0, .int .i64 0, .int .i64 0, .int .i64 0, .slice none 0 0, .int .i64 0, .slice none 0 0, .int .i64 0, .slice none 0 0] 47)) := ((Below.refl _ _).alloc (Nat.le_refl _) _).alloc (by simp) _
 have x0 := box_one w #[.slice (some ⟨sb, so, none⟩) f.shards.length sc, .slice ba f.book.length bc] 27 (.cells #[.slice none 0 0, .int .i64 0, .int .i64 0, .slice none 0 0, .int .i64 0, .int .i64 0, .int .i64 0, .int .i64 0, .slice none 0 0, .int .i64 0, .slice none 0 0, .int .i64 0, .slice none 0 0] 47)
 have z0 := box_last w (.cells #[.slice (some ⟨sb, so, none⟩) f.shards.length sc, .slice ba f.book.length bc] 27) #[.slice none 0 0, .int .i64 0, .int .i64 0, .slice none 0 0, .int .i64 0, .int .i64 0, .int .i64 0, .int .i64 0, .slice none 0 0, .int .i64 0, .slice none 0 0, .int .i64 0, .slice none 0 0] 47
 obtain ⟨g0, g1, -, -⟩ := box_two x0
 obtain ⟨t0, t1, t2, t3, t4, t5, t6, t7, t8, t9, t10, t11, t12⟩ := box_13 z0
 have q1' : decide ((m : Int) < 0) = false := decide_eq_false (by omega)
 have q2' : decide ((f.shards.length : Int) ≤ (m : Int)) = false := decide_eq_false (by omega)
 have hB0 := hBk.below b0
 obtain ⟨ba', bc', eB, hB1, hB2, -, hBc⟩ := hB0
 cases eB
 unfold maxLen at hB2
 generalize showL f (m : Int) i = SL at *
 clear q3 hrw
 go_enter Tryz.func12, Tryz.ntmps12
 go_wp2_with fail
 generalize (w.alloc (.cells #[.slice (some ⟨sb, so, none⟩) f.shards.length sc, .slice ba f.book.length bc] 27)).alloc (.cells #[.slice none 0 0, .int .i64 0, .int .i64 0, .slice none 0 0, .int .i64 0, .int .i64 0, .int .i64 0, .int .i64 0, .slice none 0 0, .int .i64 0, .slice none 0 0, .int .i64 0, .slice none 0 0] 47) = w0 at *
 go_loopw [8, 9] (fun rv kv wr => ∃ (t : Nat) (r : Int), t ≤ f.book.length ∧ rv = .int .i64 r ∧ kv = .int .i64 ((t : Int) - 1) ∧ Hid (RowDown f.book (m : Int) t r) ∧ wr = w0) (fun _ kv _ => (intOf kv + 1).toNat)
 case atStart => exact ⟨f.book.length, -1, Nat.le_refl _, rfl, by go_num, rowDown_start _ _, rfl⟩
 case round =>
  obtain ⟨t, r, ht, rfl, rfl, HO, rfl⟩ := hrel
  by_cases h0 : t = 0
  ·subst h0
   obtain rfl : r = (row : Int) := (HD r).out HO.out
   clear HD HO hBc
   obtain ⟨y0, y1, y2, ⟨ea, ec, y3, hy3⟩, y4, ⟨ra, rc, y5, hy5⟩, ⟨ga, gc, y6, hy6⟩⟩ := hSd
   have d2 := (b0.cell (p := ⟨sb, so + m * 7 + 2, none⟩) hsb).trans y2
   have d3 := (b0.cell (p := ⟨sb, so + m * 7 + 3, none⟩) hsb).trans y3
   have d4 := (b0.cell (p := ⟨sb, so + m * 7 + 4, none⟩) hsb).trans y4
   have d5 := (b0.cell (p := ⟨sb, so + m * 7 + 5, none⟩) hsb).trans y5
   have d6 := (b0.cell (p := ⟨sb, so + m * 7 + 6, none⟩) hsb).trans y6
   have hd3 := hy3.below b0
   have hd5 := hy5.below b0
   have hd6 := hy6.below b0
   clear y0 y1 y2 y3 y4 y5 y6 hy5 hy6
   have lz := lt_heap z0
   by_cases h4 : X.state = 4
   ·rw [h4] at d2
    have HC : Hid (contentL X = ((verifyL X.man).1, (verifyL X.man).2.1)) := by show _ = _; unfold contentL; rw [if_pos h4]
    rw [HC.out] at cc1 cc2 cc5 cc6 HSP HSO
    have hV := refVerifyO_any X.man _ _ ⟨_, _, rfl, hd5, hd6⟩
    clear HC hy3 hd3 hd5 hd6
    generalize verifyL X.man = VF at *
    obtain ⟨L, E1, E2⟩ := VF
    dsimp only at cc1 cc2 cc5 cc6 HSP HSO hV
    subst cc1
    have HSP' : Hid _ := HSP
    have HSO' : Hid _ := HSO
    clear HSP HSO
    go_wp2_with fail
    refine hV.mono ?_
    rintro e w1 ⟨xa, xn, xc, rfl, hLa, hlow, hb1⟩
    have hLL := hLa.lists
    obtain rfl := hLL.len
    have e2 : Below w1.heap.size w1 (w1.alloc (.cells #[.int .i64 0, .int .i64 E2] 31)) := (Below.refl _ _).alloc (Nat.le_refl _) _
    have c2 := hb1.trans (e2.mono hb1.size)
    have b2 := b0.trans (c2.mono b0.size)
    have x2 := box_kept x0 c2
    have z2 := box_kept z0 c2
    have hL2 := hLL.below e2
    obtain ⟨f0, f1, -, -⟩ := box_two (box_new w1 #[.int .i64 0, .int .i64 E2] 31)
    have HWH : Hid (∀ eb eo, 0 < L.length → xa = some ⟨eb, eo, none⟩ → eb ≠ w.heap.size + 1) := fun eb eo _ h => by have := hlow eb eo h; omega
    have hW := refWrong_any L (.slice xa L.length xc) _ hL2.at' (by unfold maxLen; omega) hL2.short
    rw [cc2] at hW
    clear hV hLa hlow hLL hb1 e2 c2 x0 z0 b0 d2 d3 d4 d5 d6 g0 g1 t0 t1 t2 t3 t4 t5 t6 t7 t8 t9 t10 t11 t12
    go_wp2_with fail
    generalize w1.alloc (.cells #[.int .i64 0, .int .i64 E2] 31) = w2 at *
    refine hW.mono ?_
    rintro e w3 ⟨rfl, hb3⟩
    have e4 : Below w3.heap.size w3 (w3.alloc (.cells #[.int .i64 0, .int .i64 0] 31)) := (Below.refl _ _).alloc (Nat.le_refl _) _
    have c4 := hb3.trans (e4.mono hb3.size)
    have b4 := b2.trans (c4.mono b2.size)
    have x4 := box_kept x2 c4
    have z4 := box_kept z2 c4
    have hL4 := hL2.below c4
    obtain ⟨h0, h1, -, -⟩ := box_two (box_new w3 #[.int .i64 0, .int .i64 0] 31)
    clear hW hb3 e4 c4 x2 z2 b2 hL2 f0 f1
    rename (∀ (a : Act) (w : World), Code.wp _ (Code.seq (Code.seq (Code.region 20 _ _) _) _) _ a w → _) => hK20
    have HK20 : Hid _ := hK20
    clear hK20
    go_wp2_with fail
    refine HK20.out _ _ ?_
    exact show_tail f m row i L SL _ _ _ _ _ _ w _ b4 x4 z4 hBk hL4 HWH cc2 cc5 cc6 hbr hrl HSP' HSO'
   ·have HC : Hid (contentL X = (X.entries, 0)) := by show _ = _; unfold contentL; rw [if_neg h4]
    rw [HC.out] at cc1 cc2 cc5 cc6 HSP HSO
    dsimp only at cc1 cc2 cc5 cc6 HSP HSO
    have h4' : (X.state == 4) = false := by simpa using h4
    have HWH : Hid (∀ eb eo, 0 < X.entries.length → ea = some ⟨eb, eo, none⟩ → eb ≠ w.heap.size + 1) := fun eb eo h0 he => by
     obtain ⟨b', o', pa, pc, e', hc, -⟩ := hy3.get 0 h0
     rw [he] at e'
     cases e'
     have := World.block_lt_of_cell? _ _ hc
     dsimp only at this
     omega
    have HSP' : Hid _ := HSP
    have HSO' : Hid _ := HSO
    have hW := refWrong_any X.entries (.slice ea X.entries.length ec) _ hd3.at' (by unfold maxLen; omega) hd3.short
    rw [cc2] at hW
    clear HC hy3 hd5 hd6 h4 HSP HSO cc1
    go_wp2_with fail
    refine hW.mono ?_
    rintro e w3 ⟨rfl, hb3⟩
    have e4 : Below w3.heap.size w3 (w3.alloc (.cells #[.int .i64 0, .int .i64 0] 31)) := (Below.refl _ _).alloc (Nat.le_refl _) _
    have c4 := hb3.trans (e4.mono hb3.size)
    have b4 := b0.trans (c4.mono b0.size)
    have x4 := box_kept x0 c4
    have z4 := box_kept z0 c4
    have hL4 := hd3.below c4
    obtain ⟨h0, h1, -, -⟩ := box_two (box_new w3 #[.int .i64 0, .int .i64 0] 31)
    clear hW hb3 e4 c4 x0 z0 b0 hd3 d2 d3 d4 d5 d6 g0 g1 t0 t1 t2 t3 t4 t5 t6 t7 t8 t9 t10 t11 t12
    rename (∀ (a : Act) (w : World), Code.wp _ (Code.seq (Code.seq (Code.region 20 _ _) _) _) _ a w → _) => hK20
    have HK20 : Hid _ := hK20
    clear hK20
    go_wp2_with fail
    refine HK20.out _ _ ?_
    exact show_tail f m row i X.entries SL _ _ _ _ _ _ w _ b4 x4 z4 hBk hL4 HWH cc2 cc5 cc6 hbr hrl HSP' HSO'
  ·obtain ⟨u, rfl⟩ : ∃ u, t = u + 1 := ⟨t - 1, by omega⟩
   have hu : ((u + 1 : Nat) : Int) - 1 = u := by omega
   rw [hu]
   obtain ⟨kb, ko, rfl, hkw, hkc⟩ := hBc.resolve_left (by omega)
   obtain ⟨r0, -, -, -, -⟩ := hkc u (by omega)
   have hu0 : (0 : Int) ≤ u := by omega
   have hu1 : (u : Int) < f.book.length := by omega
   by_cases hin : (f.book.getD u rec0).shard = m
   ·have HN : Hid (RowDown f.book (m : Int) u u) := rowDown_hit (by omega) hin
    rw [hin] at r0
    clear HD HO hBc hkc hin hSd HSP HSO
    go_wp2_with fail
    go_roundw
    case rel => exact ⟨u, (u : Int), by omega, rfl, by go_num, HN, trivial⟩
    case measure => simp [intOf] <;> omega
   ·have HN : Hid (RowDown f.book (m : Int) u r) := rowDown_miss HO.out hin
    have hin' : ((f.book.getD u rec0).shard == (m : Int)) = false := by simpa using hin
    clear HD HO hBc hkc hin hSd HSP HSO
    generalize f.book.getD u rec0 = X at *
    go_wp2_with fail
    go_roundw
    case rel => exact ⟨u, r, by omega, rfl, by go_num, HN, trivial⟩
    case measure => simp [intOf] <;> omega
/-- What yearref5.Show answers. -/
theorem refShow_any (ws : List Win) (f : Flt) (k i : Int) (fv : Value) (w : World) (hws : (wrongWins ws).1 = 0) (hok : FltOk ws f) (hF : FltV w fv f) :
  Calls Tryz.prog 12 #[fv, .int .i64 k, .int .i64 i] w fun e w' => ∃ sv, e = .returned (.tuple #[sv, .int .i64 (showL f k i).2]) ∧ ShwV w' sv (showL f k i).1 ∧ Below w.heap.size w w' := by
 by_cases q3 : k < 0 ∨ (f.shards.length : Int) ≤ k
 ·exact refShow_out f k i fv w hF q3
 ·rcases hrw : rowOf f.book k with _ | row
  ·exact refShow_norow f k i fv w hF q3 hrw
  ·exact refShow_row ws hws f hok k i fv w hF q3 row hrw

end Go.Proofs.YtkjlchfmplcobaeGreatDoor
