/- The walk of yearref5.Rows. -/
import Derived.Test.YtcpaecgjihfblaeDoorProg
import Derived.Test.YtcpaecgjihfblaeDoorBookRefRow
import Derived.WalkKit
import Derived.WalkSpells
import Derived.WalkLawsBesides
namespace Go.Proofs.YtcpaecgjihfblaeDoor
open Go.RowKit

theorem rows_snoc {l : List Rec} {k : Nat} (hk : k < l.length) : (rowsOf l).take (k + 1) = (rowsOf l).take k ++ [rowL (l.getD k rec0)] := by
  have h := rows_length l
  rw [List.take_succ_eq_append_getElem (by omega)]
  congr 2
  have := rows_get hk
  rwa [List.getD_eq_getElem?_getD, List.getElem?_eq_getElem (by omega)] at this
theorem OwnParts.far {w : World} {base k o : Nat} {v : Value} {L : List (List Int)} {c : Array Value} {t : TypeId} (h : OwnParts w base v L) (hk : w.heap[k]? = some (.cells c t (0, 0))) (h1 : t ≠ 5) (h2 : t ≠ 22) (u : Value) : OwnParts (w.setCell ⟨k, o, none⟩ u) base v L := by
  obtain ⟨vs, hr, he⟩ := h
  refine ⟨vs, ownsRow_setCell_other hr (a := ⟨k, o, none⟩) (own_box hr hk h2) u, fun j hj => ?_⟩
  obtain ⟨y, q1, q2⟩ := he j hj
  exact ⟨y, q1, ownsRow_setCell_other q2 (a := ⟨k, o, none⟩) (own_box q2 hk h1) u⟩
set_option maxRecDepth 100000 in
set_option maxHeartbeats 4000000 in
theorem refRows_any (l : List Rec) (a : Option Addr) (n c : Nat) (w : World) (hl : RecsAt w (.slice a n c) l) (hn : l.length = n) :
    Calls Tryd.prog 18 #[.slice a n c] w fun e w' => ∃ xa xn xc, e = .returned (.tuple #[.slice xa xn xc, faultV (wrongRecs l)]) ∧ ((wrongRecs l).1 = 0 → OwnParts w' w.heap.size (.slice xa xn xc) (rowsOf l)) ∧ Below w.heap.size w w' := by
  obtain ⟨i0, hi0, hz0, hz1, hz2⟩ := info_parts Tryd.info22b
  have hcap : n ≤ maxLen := by obtain ⟨a', c', e, h2, h3, -⟩ := hl; cases e; omega
  unfold maxLen at hcap
  have b0 : Below w.heap.size w (w.alloc (.cells #[.int .i64 0, .int .i64 0] 32)) := (Below.refl _ _).alloc (Nat.le_refl _) _
  have x0 := box_new w #[.int .i64 0, .int .i64 0] 32
  by_cases h8 : 8 < n
  · have HE : Hid (wrongRecs l = (5, 0)) := wrongRecs_many (by omega)
    have h8' : (8 : Int) < n := by omega
    clear hl
    go_enter Tryd.func18, Tryd.ntmps18
    go_wp2_with fail
    exact bodyPost_ret (v := .tuple #[.slice none 0 0, faultV (5, 0)]) (by simp [results, Tryd.results18, go_sem]) rfl ⟨none, 0, 0, by rw [HE.out], by rw [HE.out]; exact fun h => absurd h (by decide), (Below.refl _ _).alloc (Nat.le_refl _) _⟩
  · have h8' : ¬ (8 : Int) < n := by omega
    have hrl := rows_length l
    have HW1 : ∀ k : Nat, Hid (k < n → (∀ j, j < k → wrongRec (l.getD j rec0) = 0) → wrongRec (l.getD k rec0) ≠ 0 → wrongRecs l = (wrongRec (l.getD k rec0), (k : Int))) := fun k h1 h2 h3 => wrongRecs_at (by omega) (by omega) h2 h3
    have HW2 : Hid ((∀ j, j < n → wrongRec (l.getD j rec0) = 0) → wrongRecs l = (0, 0)) := fun h => wrongRecs_none (by omega) (fun j hj => h j (by omega))
    go_enter Tryd.func18, Tryd.ntmps18
    go_wp2_with fail
    generalize w.alloc (.cells #[.int .i64 0, .int .i64 0] 32) = w0 at *
    go_loopw [4, 14] (fun ov kv wr => ∃ (k : Nat) (va : Option Addr) (vc : Nat) (vs : List Value), k ≤ n ∧ kv = .int .i64 k ∧ ov = .slice va k vc ∧ wr.ownsRow w.heap.size 22 1 (.slice va k vc) k vs ∧ OwnEls wr w.heap.size vs ((rowsOf l).take k) ∧ Hid (∀ j, j < k → wrongRec (l.getD j rec0) = 0) ∧ wr.heap[w.heap.size]? = some (.cells #[.int .i64 0, .int .i64 0] 32 (0, 0)) ∧ Below w.heap.size w wr) (fun _ kv _ => n - (intOf kv).toNat)
    case atStart => exact ⟨0, none, 0, [], Nat.zero_le _, rfl, rfl, World.ownsRow_nil _ _ _ _, fun _ hj => absurd hj (by simp), fun _ hj => absurd hj (Nat.not_lt_zero _), x0, b0⟩
    case round =>
      obtain ⟨wo, rfl⟩ : ∃ x, x = wr := ⟨wr, rfl⟩
      obtain ⟨k, va, vc, vs, hk, rfl, rfl, hrow, hels, HO, xo, hbr⟩ := hrel
      have hsr := hbr.size
      clear x0 b0
      by_cases hlt : k < n
      · have hlt' : (k : Int) < n := by omega
        have hlo := hl.below hbr
        obtain ⟨a0, c0, e0, hn1, hn2, hn3, hcells⟩ := hlo
        rw [hn] at e0 hn1 hcells
        cases e0
        obtain ⟨g, o, rfl, hg, hcs⟩ := hcells.resolve_left (by omega)
        obtain ⟨d0, d1, d2, d3, qa, qc, d4, hroot⟩ := hcs k hlt
        have HV := HW1 k
        have HS : Hid ((rowsOf l).take (k + 1) = (rowsOf l).take k ++ [rowL (l.getD k rec0)]) := rows_snoc (by omega)
        have hrl40 := fun h => row_length (r := l.getD k rec0) h
        have HF : Hid (wrongRec (l.getD k rec0) = 0 → ∀ j, j < k + 1 → wrongRec (l.getD j rec0) = 0) := fun h j hj => by
          by_cases e : j = k
          · rw [e]; exact h
          · exact HO.out j (by omega)
        clear hcells hcs HW1 HW2
        have hrt : ((rowsOf l).take k).length = k := by rw [List.length_take]; omega
        generalize (rowsOf l).take k = done at *
        generalize l.getD k rec0 = R at *
        have d5 : Below wo.heap.size wo (wo.alloc (.cells #[.int .i64 R.shard, .int .i64 R.from', .int .i64 R.to', .int .i64 R.size, .slice qa R.root.length qc] 40)) := (Below.refl _ _).alloc (Nat.le_refl _) _
        have y5 := box_new wo #[.int .i64 R.shard, .int .i64 R.from', .int .i64 R.to', .int .i64 R.size, .slice qa R.root.length qc] 40
        have hRV : RecV (wo.alloc (.cells #[.int .i64 R.shard, .int .i64 R.from', .int .i64 R.to', .int .i64 R.size, .slice qa R.root.length qc] 40)) (.agg #[.int .i64 R.shard, .int .i64 R.from', .int .i64 R.to', .int .i64 R.size, .slice qa R.root.length qc]) R := ⟨qa, qc, rfl, hroot.below d5⟩
        have cW := refRecWrong_any R _ _ hRV
        obtain ⟨s0, s1, s2, s3, s4⟩ := box_five y5
        have b5 := hbr.trans (d5.mono hsr)
        have hrow5 := own_below hrow d5 (Nat.le_refl _)
        have hels5 := hels.below d5 (Nat.le_refl _)
        have x5 := box_kept xo d5
        clear hrow hels xo hroot
        go_wp2_with fail
        generalize wo.alloc (.cells #[.int .i64 R.shard, .int .i64 R.from', .int .i64 R.to', .int .i64 R.size, .slice qa R.root.length qc] 40) = w5 at *
        refine cW.mono ?_
        rintro e w6 ⟨rfl, hb6⟩
        have b6 := b5.trans (hb6.mono b5.size)
        have hrow6 := own_below hrow5 hb6 (Nat.le_refl _)
        have hels6 := hels5.below hb6 (Nat.le_refl _)
        have x6 := box_kept x5 hb6
        obtain ⟨t0, t1, t2, t3, t4⟩ := box_five (box_kept y5 hb6)
        clear cW s0 s1 s2 s3 s4 y5 d0 d1 d2 d3 d4 hrow5 hels5 x5
        by_cases hw : wrongRec R = 0
        · have cR := refRow_any R _ w6 (hRV.below hb6) hw
          have h40 := hrl40 hw
          have HF2 := HF.out hw
          have HFh : Hid (∀ j, j < k + 1 → wrongRec (l.getD j rec0) = 0) := HF2
          rw [hw]
          clear HV hw hRV HF HF2 hrl40
          go_wp2_with fail
          refine cR.mono ?_
          rintro e w7 ⟨xa, xc, rfl, hx, hb7⟩
          have b7 := b6.trans (hb7.mono b6.size)
          have hrow7 := own_below hrow6 hb7 (Nat.le_refl _)
          have hels7 := hels6.below hb7 (Nat.le_refl _)
          have x7 := box_kept x6 hb7
          have hvl : vs.length = done.length := by rw [hrt]; simpa using hrow7.1
          have hy : w7.ownsRow w.heap.size 5 1 (.slice xa 40 xc) (rowL R).length ((rowL R).map (Value.int .u8)) := by rw [h40]; exact ownsRow_base hx b6.size
          have hsn := (hels7.snoc hvl hy).alloc (.cells #[.slice xa 40 xc] 22)
          have hrowA := hrow7.alloc (.cells #[.slice xa 40 xc] 22)
          have hnew := cell_one_new w7 (.slice xa 40 xc) 22
          have xA := box_old _ (.cells #[.slice xa 40 xc] 22) x7
          have bA : Below w.heap.size w (w7.alloc (.cells #[.slice xa 40 xc] 22)) := b7.alloc b7.size _
          have hsA := bA.size
          clear cR hx hy hrow6 hels6 hrow7 hels7 x6 x7 t0 t1 t2 t3 t4
          go_wp2_with (at_builtin; refine wpList_append_own _ rfl (.tmp 26) (.tmp 29) 29 rfl w.heap.size 22 i0 _ 1 24 Tryd.underlying29 hi0 hz0 hz1 hz2 rfl (by decide) _ _ _ rfl hrowA _ 1 1 [.slice xa 40 xc] rfl rfl hnew (by intro u hu; simp at hu; subst hu; rfl) (by unfold maxLen; omega) (by omega) hsA ?_; intro v8 w8 ho8 hg8 _; obtain ⟨sa, sc, rfl⟩ := own_form' ho8)
          have b8 : Below w.heap.size w w8 := bA.grown hg8 hsA (fun _ h => own_block hrowA h)
          have hels8 := hsn.kept hrowA hg8
          have x8 := grown_box hg8 hrowA xA (by decide)
          go_roundw
          case rel => exact ⟨k + 1, sa, sc, _, by omega, by go_num, rfl, ho8, by rw [HS.out]; exact hels8, HFh, x8, b8⟩
          case measure => simp [intOf]; omega
        · have HE : Hid (wrongRecs l = (wrongRec R, (k : Int))) := HV.out hlt HO.out hw
          have hw' : (wrongRec R != 0) = true := by simpa using hw
          have HNE : Hid (wrongRec R ≠ 0) := hw
          generalize wrongRec R = er at *
          obtain ⟨u0, u1, u2, u3⟩ := box_two x6
          clear HV HF hw hrow6 hels6
          go_wp2_with fail
          exact bodyPost_ret (v := .tuple #[.slice none 0 0, faultV (er, (k : Int))]) (by simp [results, Tryd.results18, go_sem, u0, u1]) rfl ⟨none, 0, 0, by rw [HE.out], by rw [HE.out]; exact fun h => absurd h HNE.out, (b6.setCell (Nat.le_refl _) _).setCell (Nat.le_refl _) _⟩
      · obtain rfl : k = n := by omega
        have hnl : ¬ (k : Int) < k := by omega
        have HE : Hid (wrongRecs l = (0, 0)) := HW2.out HO.out
        rw [List.take_of_length_le (by omega)] at hels
        have hO : OwnParts wo w.heap.size (.slice va k vc) (rowsOf l) := ⟨vs, by rw [hrl, hn]; exact hrow, hels⟩
        obtain ⟨u0, u1, u2, u3⟩ := box_two xo
        have hO2 := (hO.far (o := 0) xo (by decide) (by decide) (.int .i64 0)).far (o := 1) (heap_setCell_same _ _ 0 _ _ (.int .i64 0) xo) (by decide) (by decide) (.int .i64 0)
        clear HW1 HW2 HO hrow hels hl hn hrl
        go_wp2_with fail
        exact bodyPost_ret (v := .tuple #[.slice va k vc, faultV (0, 0)]) (by simp [results, Tryd.results18, go_sem, u0, u1]) rfl ⟨va, k, vc, by rw [HE.out], fun _ => hO2, (hbr.setCell (Nat.le_refl _) _).setCell (Nat.le_refl _) _⟩

end Go.Proofs.YtcpaecgjihfblaeDoor
