/- HeadSame, BookRefRec, FleetAlive, BookFive, as one text. -/
import Derived.Test.YtkjlchfmplcobagGreatDoorProg
import Derived.Test.YtkjlchfmplcobagGreatDoorRunAB
import Derived.Test.YtkjlchfmplcobagGreatDoorRunAH
import Derived.Test.YtkjlchfmplcobagGreatDoorRunAG
import Derived.WalkKit
import Derived.WalkSpells
import Derived.WalkLawsBesides
import Derived.Test.YtkjlchfmplcobagGreatDoorRunAI
import Derived.Test.YtkjlchfmplcobagGreatDoorRunAJ
/- The walk of yearref5.SameHead. -/
namespace Go.Proofs.YtkjlchfmplcobagGreatDoor
open Go.RowKit

set_option maxRecDepth 100000 in
theorem sameHead_yes (s : Int) (r : List Int) (v1 v2 : Value) (w : World) (h1 : Some' w v1 r) (h2 : Some' w v2 r) :
    Calls Tryz.prog 24 #[.agg #[.int .i64 s, v1], .agg #[.int .i64 s, v2]] w fun e w' => e = .returned (.bool true) ∧ Below w.heap.size w w' := by
  have b0 : Below w.heap.size w ((w.alloc (.cells #[.int .i64 s, v1] 38)).alloc (.cells #[.int .i64 s, v2] 38)) := ((Below.refl _ _).alloc (Nat.le_refl _) _).alloc (by simp) _
  obtain ⟨x0, x1, -, -⟩ := box_two (box_one w #[.int .i64 s, v1] 38 (.cells #[.int .i64 s, v2] 38))
  obtain ⟨y0, y1, -, -⟩ := box_two (box_last w (.cells #[.int .i64 s, v1] 38) #[.int .i64 s, v2] 38)
  have sE := same_any r r v1 v2 _ (h1.below b0).at' (h2.below b0).at' h1.short
  rw [decide_eq_true rfl] at sE
  have hs : (s == s) = true := by simp
  go_enter Tryz.func24, Tryz.ntmps24
  go_wp2_with fail
  refine sE.mono ?_
  rintro e w3 ⟨rfl, q, rfl⟩
  go_wp2_with fail
  go_ret
  exact ⟨rfl, below_drewN' b0 _⟩

end Go.Proofs.YtkjlchfmplcobagGreatDoor

/- Boxes of records; the walks of yearref5.SameRecord and yearref5.WrongRecord. -/
namespace Go.Proofs.YtkjlchfmplcobagGreatDoor
open Go.RowKit

/-- What a variable of five cells holds. -/
theorem box_five {w : World} {k : Nat} {a b c d e : Value} {t : TypeId} (h : w.heap[k]? = some (.cells #[a, b, c, d, e] t (0, 0))) :
    w.cell? ⟨k, 0, none⟩ = some a ∧ w.cell? ⟨k, 1, none⟩ = some b ∧ w.cell? ⟨k, 2, none⟩ = some c ∧ w.cell? ⟨k, 3, none⟩ = some d ∧ w.cell? ⟨k, 4, none⟩ = some e :=
  ⟨cell_of_row w k 0 _ t _ h, cell_of_row w k 1 _ t _ h, cell_of_row w k 2 _ t _ h, cell_of_row w k 3 _ t _ h, cell_of_row w k 4 _ t _ h⟩
end Go.Proofs.YtkjlchfmplcobagGreatDoor

/- The walks of yearlaw7.do, yearlaw7.submit and yearlaw7.alive, over package fleet's faces. -/
namespace Go.Proofs.YtkjlchfmplcobagGreatDoor
open Go.RowKit

/-- What a variable of thirteen cells holds. -/
theorem box_13 {w : World} {k : Nat} {v0 v1 v2 v3 v4 v5 v6 v7 v8 v9 v10 v11 v12 : Value} {t : TypeId} (h : w.heap[k]? = some (.cells #[v0, v1, v2, v3, v4, v5, v6, v7, v8, v9, v10, v11, v12] t (0, 0))) :
    w.cell? ⟨k, 0, none⟩ = some v0 ∧ w.cell? ⟨k, 1, none⟩ = some v1 ∧ w.cell? ⟨k, 2, none⟩ = some v2 ∧ w.cell? ⟨k, 3, none⟩ = some v3 ∧ w.cell? ⟨k, 4, none⟩ = some v4 ∧ w.cell? ⟨k, 5, none⟩ = some v5 ∧ w.cell? ⟨k, 6, none⟩ = some v6 ∧ w.cell? ⟨k, 7, none⟩ = some v7 ∧ w.cell? ⟨k, 8, none⟩ = some v8 ∧ w.cell? ⟨k, 9, none⟩ = some v9 ∧ w.cell? ⟨k, 10, none⟩ = some v10 ∧ w.cell? ⟨k, 11, none⟩ = some v11 ∧ w.cell? ⟨k, 12, none⟩ = some v12 :=
  ⟨cell_of_row w k 0 _ t _ h, cell_of_row w k 1 _ t _ h, cell_of_row w k 2 _ t _ h, cell_of_row w k 3 _ t _ h, cell_of_row w k 4 _ t _ h, cell_of_row w k 5 _ t _ h, cell_of_row w k 6 _ t _ h, cell_of_row w k 7 _ t _ h, cell_of_row w k 8 _ t _ h, cell_of_row w k 9 _ t _ h, cell_of_row w k 10 _ t _ h, cell_of_row w k 11 _ t _ h, cell_of_row w k 12 _ t _ h⟩
set_option maxRecDepth 100000 in
theorem do7_any (kind n : Int) (w : World) :
    Calls Tryz.prog 20 #[.int .i64 kind, .int .i64 n] w fun e w' => e = .returned (.agg #[.int .i64 kind, .int .i64 n, .int .i64 0, .slice none 0 0, .int .i64 0, .int .i64 0, .int .u8 0]) ∧ Below w.heap.size w w' := by
  have b0 : Below w.heap.size w (w.alloc (.cells #[.int .i64 kind, .int .i64 n, .int .i64 0, .slice none 0 0, .int .i64 0, .int .i64 0, .int .u8 0] 56)) := (Below.refl _ _).alloc (Nat.le_refl _) _
  go_enter Tryz.func20, Tryz.ntmps20
  go_wp2_with fail
  exact bodyPost_ret (v := .agg #[.int .i64 kind, .int .i64 n, .int .i64 0, .slice none 0 0, .int .i64 0, .int .i64 0, .int .u8 0]) (by simp [results, Tryz.results20, go_sem]) rfl ⟨rfl, b0⟩
set_option maxRecDepth 100000 in
theorem submit7_any (t : Int) (ba : Option Addr) (bn bc : Nat) (w : World) :
    Calls Tryz.prog 19 #[.int .i64 t, .slice ba bn bc] w fun e w' => e = .returned (.agg #[.int .i64 1, .int .i64 0, .int .i64 t, .slice ba bn bc, .int .i64 0, .int .i64 0, .int .u8 0]) ∧ Below w.heap.size w w' := by
  have b0 : Below w.heap.size w (w.alloc (.cells #[.int .i64 1, .int .i64 0, .int .i64 t, .slice ba bn bc, .int .i64 0, .int .i64 0, .int .u8 0] 56)) := (Below.refl _ _).alloc (Nat.le_refl _) _
  go_enter Tryz.func19, Tryz.ntmps19
  go_wp2_with fail
  exact bodyPost_ret (v := .agg #[.int .i64 1, .int .i64 0, .int .i64 t, .slice ba bn bc, .int .i64 0, .int .i64 0, .int .u8 0]) (by simp [results, Tryz.results19, go_sem]) rfl ⟨rfl, b0⟩
/-- The four things that are done, in memory. -/
def aliveCells (ba : Option Addr) (bc : Nat) : Array Value := #[.int .i64 1, .int .i64 0, .int .i64 12, .slice ba 1 bc, .int .i64 0, .int .i64 0, .int .u8 0, .int .i64 2, .int .i64 1, .int .i64 0, .slice none 0 0, .int .i64 0, .int .i64 0, .int .u8 0, .int .i64 3, .int .i64 1, .int .i64 0, .slice none 0 0, .int .i64 0, .int .i64 0, .int .u8 0, .int .i64 4, .int .i64 1, .int .i64 0, .slice none 0 0, .int .i64 0, .int .i64 0, .int .u8 0]
theorem alive_dos (w : World) (t : TypeId) (ba : Option Addr) (bc : Nat) (hb : Some' w (.slice ba 1 bc) [7]) : DosAt (w.alloc (.cells (aliveCells ba bc) t)) (.slice (some ⟨w.heap.size, 0, none⟩) 4 4) aliveD := by
  have hbl : Below w.heap.size w (w.alloc (.cells (aliveCells ba bc) t)) := (Below.refl _ _).alloc (Nat.le_refl _) _
  have hnil : Some' (w.alloc (.cells (aliveCells ba bc) t)) (.slice none 0 0) [] := ⟨bytesAt_nil _, nil_bytes, Nat.zero_le _⟩
  have hc : ∀ j, j < 28 → (w.alloc (.cells (aliveCells ba bc) t)).cell? ⟨w.heap.size, j, none⟩ = (aliveCells ba bc)[j]? := fun j hj => cell_of_row _ _ j _ t _ (box_new w _ t)
  refine ⟨_, 4, rfl, Nat.le_refl _, by unfold maxLen; omega, (fun e => by cases e), .inr ⟨w.heap.size, 0, rfl, by simp, fun j hj => ?_⟩⟩
  have hj4 : j < 4 := hj
  match j, hj4 with
  | 0, _ => exact ⟨hc 0 (by omega), hc 1 (by omega), hc 2 (by omega), ⟨ba, bc, hc 3 (by omega), hb.below hbl⟩, hc 4 (by omega), hc 5 (by omega), hc 6 (by omega), by decide⟩
  | 1, _ => exact ⟨hc 7 (by omega), hc 8 (by omega), hc 9 (by omega), ⟨none, 0, hc 10 (by omega), hnil⟩, hc 11 (by omega), hc 12 (by omega), hc 13 (by omega), by decide⟩
  | 2, _ => exact ⟨hc 14 (by omega), hc 15 (by omega), hc 16 (by omega), ⟨none, 0, hc 17 (by omega), hnil⟩, hc 18 (by omega), hc 19 (by omega), hc 20 (by omega), by decide⟩
  | 3, _ => exact ⟨hc 21 (by omega), hc 22 (by omega), hc 23 (by omega), ⟨none, 0, hc 24 (by omega), hnil⟩, hc 25 (by omega), hc 26 (by omega), hc 27 (by omega), by decide⟩
theorem alive_wins (w : World) (t : TypeId) : WinsAt (w.alloc (.cells #[.int .i64 0, .int .i64 10, .int .i64 10, .int .i64 20] t)) (.slice (some ⟨w.heap.size, 0, none⟩) 2 2) aliveW := by
  refine ⟨_, 2, rfl, Nat.le_refl _, by unfold maxLen; omega, (fun e => by cases e), .inr ⟨w.heap.size, 0, rfl, by simp, fun j hj => ?_⟩⟩
  have hj2 : j < 2 := hj
  match j, hj2 with
  | 0, _ => exact ⟨new_cell w t _ 0 (by simp), new_cell w t _ 1 (by simp)⟩
  | 1, _ => exact ⟨new_cell w t _ 2 (by simp), new_cell w t _ 3 (by simp)⟩
theorem alive_seven (w : World) (t : TypeId) : Some' (w.alloc (.cells #[.int .u8 7] t)) (.slice (some ⟨w.heap.size, 0, none⟩) 1 1) [7] :=
  ⟨const_bytes w t [7] 1 rfl (0, 0), bytes_cons (by decide) (by decide) nil_bytes, by show 1 ≤ maxLen; unfold maxLen; omega⟩
set_option maxRecDepth 100000 in
set_option maxHeartbeats 4000000 in
theorem alive7_any (hPl : PlayC) (hSh : ShowC) (hCh : CheckC) (hHe : BookHeadC) (w : World) (hR : Ready w) :
    Calls Tryz.prog 7 #[] w fun e w' => e = .returned (.bool true) ∧ Below w.heap.size w w' := by
  have b0 : Below w.heap.size w ((w.alloc (.cells #[.int .i64 0, .int .i64 10, .int .i64 10, .int .i64 20] 57)).alloc (.cells #[.int .u8 7] 5)) := ((Below.refl _ _).alloc (Nat.le_refl _) _).alloc (by simp) _
  have hW0 := (alive_wins w 57).below ((Below.refl _ _).alloc (Nat.le_refl _) (.cells #[.int .u8 7] 5))
  have hS0 := alive_seven (w.alloc (.cells #[.int .i64 0, .int .i64 10, .int .i64 10, .int .i64 20] 57)) 5
  rw [World.size_alloc] at hS0
  go_enter Tryz.func7, Tryz.ntmps7
  go_wp2_with fail
  generalize (w.alloc (.cells #[.int .i64 0, .int .i64 10, .int .i64 10, .int .i64 20] 57)).alloc (.cells #[.int .u8 7] 5) = w0 at *
  refine (submit7_any 12 _ 1 1 w0).mono ?_
  rintro e w1 ⟨rfl, hb1⟩
  have b1 := b0.trans (hb1.mono b0.size)
  go_wp2_with fail
  refine (do7_any 2 1 w1).mono ?_
  rintro e w2 ⟨rfl, hb2⟩
  have c2 := hb1.trans (hb2.mono hb1.size)
  go_wp2_with fail
  refine (do7_any 3 1 w2).mono ?_
  rintro e w3 ⟨rfl, hb3⟩
  have c3 := c2.trans (hb3.mono c2.size)
  go_wp2_with fail
  refine (do7_any 4 1 w3).mono ?_
  rintro e w4 ⟨rfl, hb4⟩
  have c4 := c3.trans (hb4.mono c3.size)
  have hD5 := alive_dos w4 56 _ 1 (hS0.below c4)
  have d5 : Below w4.heap.size w4 (w4.alloc (.cells (aliveCells (some ⟨w.heap.size + 1, 0, none⟩) 1) 56)) := (Below.refl _ _).alloc (Nat.le_refl _) _
  have c5 := c4.trans (d5.mono c4.size)
  have b5 := b0.trans (c5.mono b0.size)
  have hW5 := hW0.below c5
  have cP := hPl aliveW aliveD _ _ _ (hR.below b5) hW5 hD5
  rw [aliveD_right, alive_play] at cP
  dsimp only [faultV] at cP
  clear hW0 hS0 b0 b1 hb1 hb2 hb3 hb4 c2 c3 c4 d5 c5 hW5 hD5 hPl
  unfold aliveCells at cP b5
  go_wp2_with fail
  generalize w4.alloc _ = w5 at *
  refine cP.mono ?_
  rintro e w6 ⟨fv, av, rfl, hF, hA, hb6⟩
  have b6 := b5.trans (hb6.mono b5.size)
  obtain ⟨sa, sc, ka, kc, rfl, hSh6, hBk6⟩ := hF
  obtain ⟨aa, ac, rfl, ha1, ha2, ha3, hAc⟩ := hA
  obtain ⟨ab, ao, rfl, hab, hcs⟩ := hAc.resolve_left (by decide)
  obtain ⟨a3, -, -, -, -⟩ := hcs 3 (by decide)
  have d7 : Below w6.heap.size w6 ((w6.alloc (.cells #[.slice sa aliveF.shards.length sc, .slice ka aliveF.book.length kc] 28)).alloc (.cells #[.int .i64 0, .int .i64 0] 32)) := ((Below.refl _ _).alloc (Nat.le_refl _) _).alloc (by simp) _
  have b7 := b6.trans (d7.mono b6.size)
  have x7 := box_one w6 #[.slice sa aliveF.shards.length sc, .slice ka aliveF.book.length kc] 28 (.cells #[.int .i64 0, .int .i64 0] 32)
  obtain ⟨f0, f1, -, -⟩ := box_two (box_last w6 (.cells #[.slice sa aliveF.shards.length sc, .slice ka aliveF.book.length kc] 28) #[.int .i64 0, .int .i64 0] 32)
  have a7 := (d7.cell (p := ⟨ab, ao + 3 * 5, none⟩) hab).trans a3
  have hF7 : FltV ((w6.alloc (.cells #[.slice sa aliveF.shards.length sc, .slice ka aliveF.book.length kc] 28)).alloc (.cells #[.int .i64 0, .int .i64 0] 32)) (.agg #[.slice sa aliveF.shards.length sc, .slice ka aliveF.book.length kc]) aliveF := FltV.below (w := w6) (f := aliveF) ⟨sa, sc, ka, kc, rfl, hSh6, hBk6⟩ d7
  have hB7 := hBk6.below d7
  have cS := hSh aliveW aliveF 1 0 _ _ (by rw [aliveW_right]) aliveF_ok (hR.below b7) hF7
  obtain ⟨g0, g1, -, -⟩ := box_two x7
  obtain ⟨e1, e2, e3⟩ := alive_shown
  rw [e1] at cS
  clear cP hSh6 hBk6 hAc hcs a3 hF7
  replace a7 : _ = some (Value.int .i64 0) := a7
  go_wp2_with fail
  generalize (w6.alloc (.cells #[.slice sa aliveF.shards.length sc, .slice ka aliveF.book.length kc] 28)).alloc (.cells #[.int .i64 0, .int .i64 0] 32) = w7 at *
  generalize showL aliveF 1 0 = Z at *
  obtain ⟨S, ze⟩ := Z
  dsimp only at cS e1 e2 e3
  refine cS.mono ?_
  rintro e w8 ⟨sv, rfl, hV, hb8⟩
  have b8 := b7.trans (hb8.mono b7.size)
  obtain ⟨ea, ec, pa, pc, ra, rc, ba, bc, ha, hc, rfl, hv1, hv2, hv3, hv4, hv5⟩ := hV.form
  have hE1 : S.entry.length = 1 := by rw [e2]; rfl
  rw [hE1] at hv1 hV ⊢
  have d9 : Below w8.heap.size w8 (w8.alloc (.cells #[.slice ea 1 ec, .int .i64 S.place, .int .i64 S.shard, .slice pa S.path.length pc, .int .i64 S.rcd.shard, .int .i64 S.rcd.from', .int .i64 S.rcd.to', .int .i64 S.rcd.size, .slice ra S.rcd.root.length rc, .int .i64 S.row, .slice ba S.bookPath.length bc, .int .i64 S.hsize, .slice ha S.hroot.length hc] 46)) := (Below.refl _ _).alloc (Nat.le_refl _) _
  have b9 := b8.trans (d9.mono b8.size)
  have y9 := box_new w8 #[.slice ea 1 ec, .int .i64 S.place, .int .i64 S.shard, .slice pa S.path.length pc, .int .i64 S.rcd.shard, .int .i64 S.rcd.from', .int .i64 S.rcd.to', .int .i64 S.rcd.size, .slice ra S.rcd.root.length rc, .int .i64 S.row, .slice ba S.bookPath.length bc, .int .i64 S.hsize, .slice ha S.hroot.length hc] 46
  have x9 := box_kept (box_kept x7 hb8) d9
  have hV9 := hV.below d9
  have hv9 := hv1.below d9
  have cH := hHe aliveF.book _ _ (hR.below b9) ((hB7.below hb8).below d9)
  have hbk : wrongRecs aliveF.book = (0, 0) := book_right (by rw [aliveW_right]) aliveF_ok
  have hbs : bookSize aliveF.book = 1 := by unfold bookSize; rw [hbk, if_neg (fun h => h rfl)]; rfl
  have hbr : bookRoot aliveF.book = mth (rowsOf aliveF.book) := by unfold bookRoot; rw [hbk, if_neg (fun h => h rfl)]
  have hml := mth_length (rowsOf aliveF.book)
  rw [hbk, hbs, hbr, hml] at cH
  dsimp only [faultV] at cH
  obtain ⟨q0, q1, -, -⟩ := box_two x9
  clear cS hv1 hv2 hv3 hv4 hv5 hV x7 g0 g1 f0 f1 a7 hb8 d9 hB7 hbk hbs hbr
  go_wp2_with fail
  generalize w8.alloc (.cells #[.slice ea 1 ec, .int .i64 S.place, .int .i64 S.shard, .slice pa S.path.length pc, .int .i64 S.rcd.shard, .int .i64 S.rcd.from', .int .i64 S.rcd.to', .int .i64 S.rcd.size, .slice ra S.rcd.root.length rc, .int .i64 S.row, .slice ba S.bookPath.length bc, .int .i64 S.hsize, .slice ha S.hroot.length hc] 46) = w9 at *
  refine cH.mono ?_
  rintro e w10 ⟨ta, tc, rfl, ht, hb10⟩
  have d11 : Below w10.heap.size w10 ((w10.alloc (.cells #[.int .i64 1, .slice ta 32 tc] 38)).alloc (.cells #[.int .i64 0, .int .i64 0] 32)) := ((Below.refl _ _).alloc (Nat.le_refl _) _).alloc (by simp) _
  have c11 := hb10.trans (d11.mono hb10.size)
  have b11 := b9.trans (c11.mono b9.size)
  have y11 := box_kept y9 c11
  obtain ⟨h0, h1, -, -⟩ := box_two (box_one w10 #[.int .i64 1, .slice ta 32 tc] 38 (.cells #[.int .i64 0, .int .i64 0] 32))
  have cC := hCh S 1 (mth (rowsOf aliveF.book)) _ _ _ (hR.below b11) (hV9.below c11) (ht.below d11)
  rw [e3] at cC
  have hv11 := (hv9.below c11).at'
  rw [e2] at hv11
  obtain ⟨gg, go, rfl, hcell⟩ : ∃ gg go, ea = some ⟨gg, go, none⟩ ∧ ((w10.alloc (.cells #[.int .i64 1, .slice ta 32 tc] 38)).alloc (.cells #[.int .i64 0, .int .i64 0] 32)).cell? ⟨gg, go, none⟩ = some (.int .u8 7) := by
    rcases hv11 with ⟨e, -⟩ | ⟨b, off, cp, e, -, h⟩
    · cases e
    · cases e; exact ⟨b, off, rfl, h 0 (by decide)⟩
  obtain ⟨k0, k1, k2, k3, k4, k5, k6, k7, k8, k9, k10, k11, k12⟩ := box_13 y11
  subst e1
  clear cH hV9 hv9 hv11 x9 y9 q0 q1 ht hE1 e2 e3
  go_wp2_with fail
  generalize (w10.alloc (.cells #[.int .i64 1, .slice ta 32 tc] 38)).alloc (.cells #[.int .i64 0, .int .i64 0] 32) = w11 at *
  refine cC.mono ?_
  rintro e w12 ⟨rfl, hb12⟩
  go_wp2_with fail
  go_ret
  exact ⟨rfl, b11.trans (hb12.mono b11.size)⟩

end Go.Proofs.YtkjlchfmplcobagGreatDoor

/- Five cells written; old memory kept. Nothing of the program's functions is in it. -/
namespace Go.Proofs.YtkjlchfmplcobagGreatDoor
open Go.RowKit

/-- Five cells written. -/
theorem five_set {w : World} {R : Nat} {a b c d e : Value} {t : TypeId} (h : w.heap[R]? = some (.cells #[a, b, c, d, e] t (0, 0))) (u0 u1 u2 u3 u4 : Value) : (((((w.setCell ⟨R, 0, none⟩ u0).setCell ⟨R, 1, none⟩ u1).setCell ⟨R, 2, none⟩ u2).setCell ⟨R, 3, none⟩ u3).setCell ⟨R, 4, none⟩ u4).heap[R]? = some (.cells #[u0, u1, u2, u3, u4] t (0, 0)) := by
  have h0 := heap_setCell_same w R 0 _ t u0 h
  have h1 := heap_setCell_same _ R 1 _ t u1 h0
  have h2 := heap_setCell_same _ R 2 _ t u2 h1
  have h3 := heap_setCell_same _ R 3 _ t u3 h2
  exact heap_setCell_same _ R 4 _ t u4 h3
theorem five_below {B R : Nat} {w0 w : World} (h : Below B w0 w) (hR : B ≤ R) (u0 u1 u2 u3 u4 : Value) : Below B w0 (((((w.setCell ⟨R, 0, none⟩ u0).setCell ⟨R, 1, none⟩ u1).setCell ⟨R, 2, none⟩ u2).setCell ⟨R, 3, none⟩ u3).setCell ⟨R, 4, none⟩ u4) := ((((h.setCell hR _).setCell hR _).setCell hR _).setCell hR _).setCell hR _
theorem five_own {w : World} {base R n : Nat} {e : TypeId} {v : Value} {xs : List Value} (h : w.ownsRow base e 1 v n xs) (hR : R < base) (u0 u1 u2 u3 u4 : Value) : (((((w.setCell ⟨R, 0, none⟩ u0).setCell ⟨R, 1, none⟩ u1).setCell ⟨R, 2, none⟩ u2).setCell ⟨R, 3, none⟩ u3).setCell ⟨R, 4, none⟩ u4).ownsRow base e 1 v n xs :=
  ownsRow_setCell_below (ownsRow_setCell_below (ownsRow_setCell_below (ownsRow_setCell_below (ownsRow_setCell_below h hR _) hR _) hR _) hR _) hR _
/-- Two cells written. -/
theorem two_set {w : World} {R : Nat} {a b : Value} {t : TypeId} (h : w.heap[R]? = some (.cells #[a, b] t (0, 0))) (u0 u1 : Value) : ((w.setCell ⟨R, 0, none⟩ u0).setCell ⟨R, 1, none⟩ u1).heap[R]? = some (.cells #[u0, u1] t (0, 0)) := by
  have h0 := heap_setCell_same w R 0 _ t u0 h
  exact heap_setCell_same _ R 1 _ t u1 h0
theorem two_below {B R : Nat} {w0 w : World} (h : Below B w0 w) (hR : B ≤ R) (u0 u1 : Value) : Below B w0 ((w.setCell ⟨R, 0, none⟩ u0).setCell ⟨R, 1, none⟩ u1) := (h.setCell hR _).setCell hR _
theorem two_own {w : World} {base R n : Nat} {e : TypeId} {v : Value} {xs : List Value} (h : w.ownsRow base e 1 v n xs) (hR : R < base) (u0 u1 : Value) : ((w.setCell ⟨R, 0, none⟩ u0).setCell ⟨R, 1, none⟩ u1).ownsRow base e 1 v n xs := ownsRow_setCell_below (ownsRow_setCell_below h hR _) hR _
theorem two_far {w : World} {R k : Nat} {x : Obj} (h : w.heap[k]? = some x) (hk : k ≠ R) (u0 u1 : Value) : ((w.setCell ⟨R, 0, none⟩ u0).setCell ⟨R, 1, none⟩ u1).heap[k]? = some x := box_set_far (box_set_far h hk) hk
theorem keptB_of {w0 w' : World} (h : Below w0.heap.size w0 w') : Below w0.heap.size w0 w' ∧ ∀ b o, b < w0.heap.size → w'.cell? ⟨b, o, none⟩ = w0.cell? ⟨b, o, none⟩ := ⟨h, fun b o hlt => h.cell (p := ⟨b, o, none⟩) hlt⟩
theorem keptB_drew (w0 : World) : Below w0.heap.size w0 w0.drew ∧ ∀ b o, b < w0.heap.size → w0.drew.cell? ⟨b, o, none⟩ = w0.cell? ⟨b, o, none⟩ := keptB_of (Below.refl _ _).drew
theorem keptB_below {w0 w' w'' : World} (h : Below w0.heap.size w0 w' ∧ ∀ b o, b < w0.heap.size → w'.cell? ⟨b, o, none⟩ = w0.cell? ⟨b, o, none⟩) (hb : Below w'.heap.size w' w'') : Below w0.heap.size w0 w'' ∧ ∀ b o, b < w0.heap.size → w''.cell? ⟨b, o, none⟩ = w0.cell? ⟨b, o, none⟩ := keptB_of (h.1.trans (hb.mono h.1.size))
end Go.Proofs.YtkjlchfmplcobagGreatDoor
