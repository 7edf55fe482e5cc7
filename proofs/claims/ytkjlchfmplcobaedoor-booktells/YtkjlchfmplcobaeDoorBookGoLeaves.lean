/- The walk of leaves: package book as it landed. -/
import Derived.Test.YtkjlchfmplcobaeDoorProg
import Derived.Test.YtkjlchfmplcobaeDoorBookGoBytes
import Derived.Test.YtkjlchfmplcobaeDoorRunAD
import Derived.OwnWalk
import Derived.WalkKit
import Derived.WalkSpells
import Derived.WalkLawsBesides
namespace Go.Proofs.YtkjlchfmplcobaeDoor
open Go.RowKit

set_option maxRecDepth 100000 in
set_option maxHeartbeats 4000000 in
theorem leaves_any (l : List Rec) (a : Option Addr) (n c : Nat) (w : World) (hl : RecsAt w (.slice a n c) l) (hn : l.length = n) :
    Calls Tryd.prog 41 #[.slice a n c] w fun e w' => ∃ xa xn xc, e = .returned (.tuple #[.slice xa xn xc, faultV (wrongRecs l)]) ∧ ((wrongRecs l).1 = 0 → OwnParts w' w.heap.size (.slice xa xn xc) (rowsOf l) ∧ xn = n) ∧ Below w.heap.size w w' := by
  obtain ⟨i0, hi0, hz0, hz1, hz2⟩ := info_parts Tryd.info22b
  have hcap : n ≤ maxLen := by obtain ⟨a', c', e, h2, h3, -⟩ := hl; cases e; omega
  unfold maxLen at hcap
  have b0 : Below w.heap.size w (w.alloc (.cells #[.int .i64 0, .int .i64 0] 32)) := (Below.refl _ _).alloc (Nat.le_refl _) _
  have x0 := box_new w #[.int .i64 0, .int .i64 0] 32
  by_cases h8 : 8 < n
  · have HE : Hid (wrongRecs l = (5, 0)) := wrongRecs_many (by omega)
    have h8' : (8 : Int) < n := by omega
    clear hl
    go_enter Tryd.func41, Tryd.ntmps41
    go_wp2_with fail
    exact bodyPost_ret (v := .tuple #[.slice none 0 0, faultV (5, 0)]) (by simp [results, Tryd.results41, go_sem]) rfl ⟨none, 0, 0, by rw [HE.out], by rw [HE.out]; exact fun h => absurd h (by decide), (Below.refl _ _).alloc (Nat.le_refl _) _⟩
  · have h8' : ¬ (8 : Int) < n := by omega
    have hrl := rows_length l
    have HW1 : ∀ k : Nat, Hid (k < n → (∀ j, j < k → wrongRec (l.getD j rec0) = 0) → wrongRec (l.getD k rec0) ≠ 0 → wrongRecs l = (wrongRec (l.getD k rec0), (k : Int))) := fun k h1 h2 h3 => wrongRecs_at (by omega) (by omega) h2 h3
    have HW2 : Hid ((∀ j, j < n → wrongRec (l.getD j rec0) = 0) → wrongRecs l = (0, 0)) := fun h => wrongRecs_none (by omega) (fun j hj => h j (by omega))
    go_enter Tryd.func41, Tryd.ntmps41
    have hs0 := b0.size
    go_wp2_with (at_make; refine wpList_make_own _ rfl _ _ 29 rfl w.heap.size 22 i0 (.slice none 0 0) 1 Tryd.underlying29 hi0 hz0 hz1 .i64 .i64 _ n rfl rfl rfl (by rw [hz2]; omega) (by unfold maxLen; omega) hs0 ?_; intro w1 hown hgrow)
    have b1 : Below w.heap.size w w1 := b0.grown hgrow hs0 (fun q h => by cases h)
    have x1 := (hgrow.block w.heap.size (lt_heap x0) (by simp)).trans x0
    rw [World.size_alloc] at hown
    clear x0 b0 hs0 hgrow
    go_loopw [4, 18] (fun ov kv wr => ∃ (k : Nat) (va : Option Addr) (vc : Nat) (vs : List Value), k ≤ n ∧ kv = .int .i64 k ∧ ov = .slice va k vc ∧ wr.ownsRow w.heap.size 22 1 (.slice va k vc) k vs ∧ OwnEls wr w.heap.size vs ((rowsOf l).take k) ∧ Hid (∀ j, j < k → wrongRec (l.getD j rec0) = 0) ∧ wr.heap[w.heap.size]? = some (.cells #[.int .i64 0, .int .i64 0] 32 (0, 0)) ∧ Below w.heap.size w wr) (fun _ kv _ => n - (intOf kv).toNat)
    case atStart => exact ⟨0, _, _, [], Nat.zero_le _, rfl, rfl, hown, fun _ hj => absurd hj (by simp), fun _ hj => absurd hj (Nat.not_lt_zero _), x1, b1⟩
    case round =>
      obtain ⟨wo, rfl⟩ : ∃ x, x = wr := ⟨wr, rfl⟩
      obtain ⟨k, va, vc, vs, hk, rfl, rfl, hrow, hels, HO, xo, hbr⟩ := hrel
      have hsr := hbr.size
      clear x1 b1 hown
      by_cases hlt : k < n
      · have hlt' : (k : Int) < n := by omega
        have hlo := hl.below hbr
        obtain ⟨a0, c0, e0, hn1, hn2, hn3, hcells⟩ := hlo
        rw [hn] at e0 hn1 hcells
        cases e0
        obtain ⟨g, o, rfl, hg, hcs⟩ := hcells.resolve_left (by omega)
        obtain ⟨d0, d1, d2, d3, qa, qc, d4, hroot⟩ := hcs k hlt
        have HV := HW1 k
        have HS : Hid ((rowsOf l).take (k + 1) = (rowsOf l).take k ++ [rowL (l.getD k rec0)]) := refRows_snoc (by omega)
        have hrl40 := fun h => row_length (r := l.getD k rec0) h
        have HF : Hid (wrongRec (l.getD k rec0) = 0 → ∀ j, j < k + 1 → wrongRec (l.getD j rec0) = 0) := fun h j hj => by
          by_cases e : j = k
          · rw [e]; exact h
          · exact HO.out j (by omega)
        clear hcells hcs HW1 HW2
        have hrt : ((rowsOf l).take k).length = k := by rw [List.length_take]; omega
        generalize (rowsOf l).take k = done at *
        generalize l.getD k rec0 = R at *
        have d5 : Below wo.heap.size wo (wo.alloc (.cells #[.int .i64 R.shard, .int .i64 R.from', .int .i64 R.to', .int .i64 R.size, .slice qa R.root.length qc] 40)) := (Below.refl _ _).alloc (Nat.le_refl _) _
        have y5 := box_new wo #[.int .i64 R.shard, .int .i64 R.from', .int .i64 R.to', .int .i64 R.size, .slice qa R.root.length qc] 40
        have hRV : RecV (wo.alloc (.cells #[.int .i64 R.shard, .int .i64 R.from', .int .i64 R.to', .int .i64 R.size, .slice qa R.root.length qc] 40)) (.agg #[.int .i64 R.shard, .int .i64 R.from', .int .i64 R.to', .int .i64 R.size, .slice qa R.root.length qc]) R := ⟨qa, qc, rfl, hroot.below d5⟩
        have cW := recBytesC_holds R _ _ hRV
        obtain ⟨s0, s1, s2, s3, s4⟩ := box_five y5
        have b5 := hbr.trans (d5.mono hsr)
        have hrow5 := own_below hrow d5 (Nat.le_refl _)
        have hels5 := hels.below d5 (Nat.le_refl _)
        have x5 := box_kept xo d5
        clear hrow hels xo hroot
        go_wp2_with fail
        generalize wo.alloc (.cells #[.int .i64 R.shard, .int .i64 R.from', .int .i64 R.to', .int .i64 R.size, .slice qa R.root.length qc] 40) = w5 at *
        refine cW.mono ?_
        rintro e w6 ⟨xa, xn, xc, rfl, hx, hb6⟩
        have b6 := b5.trans (hb6.mono b5.size)
        have hrow6 := own_below hrow5 hb6 (Nat.le_refl _)
        have hels6 := hels5.below hb6 (Nat.le_refl _)
        have x6 := box_kept x5 hb6
        obtain ⟨t0, t1, t2, t3, t4⟩ := box_five (box_kept y5 hb6)
        clear cW s0 s1 s2 s3 s4 y5 d0 d1 d2 d3 d4 hrow5 hels5 x5
        by_cases hw : wrongRec R = 0
        · have h40 := hrl40 hw
          have hE : bytesE R = rowL R := by unfold bytesE; rw [if_neg (fun e => e hw)]
          have HF2 := HF.out hw
          have HFh : Hid (∀ j, j < k + 1 → wrongRec (l.getD j rec0) = 0) := HF2
          rw [hw]
          rw [hE] at hx
          obtain rfl : xn = 40 := by have := hx.1; rw [List.length_map, h40] at this; omega
          clear HV hw hRV HF HF2 hrl40 hE
          have hvl : vs.length = done.length := by rw [hrt]; simpa using hrow6.1
          have hy : w6.ownsRow w.heap.size 5 1 (.slice xa 40 xc) (rowL R).length ((rowL R).map (Value.int .u8)) := by rw [h40]; exact ownsRow_base hx b5.size
          have hsn := (hels6.snoc hvl hy).alloc (.cells #[.slice xa 40 xc] 22)
          have hrowA := hrow6.alloc (.cells #[.slice xa 40 xc] 22)
          have hnew := cell_one_new w6 (.slice xa 40 xc) 22
          have xA := box_old _ (.cells #[.slice xa 40 xc] 22) x6
          have bA : Below w.heap.size w (w6.alloc (.cells #[.slice xa 40 xc] 22)) := b6.alloc b6.size _
          have hsA := bA.size
          clear hx hy hrow6 hels6 x6 t0 t1 t2 t3 t4
          go_wp2_with (at_builtin; refine wpList_append_own _ rfl (.tmp 33) (.tmp 35) 29 rfl w.heap.size 22 i0 _ 1 24 Tryd.underlying29 hi0 hz0 hz1 hz2 rfl (by decide) _ _ _ rfl hrowA _ 1 1 [.slice xa 40 xc] rfl rfl hnew (by intro u hu; simp at hu; subst hu; rfl) (by unfold maxLen; omega) (by omega) hsA ?_; intro v8 w8 ho8 hg8 _; obtain ⟨sa, sc, rfl⟩ := own_form' ho8)
          have b8 : Below w.heap.size w w8 := bA.grown hg8 hsA (fun _ h => own_block hrowA h)
          have hels8 := hsn.kept hrowA hg8
          have x8 := grown_box hg8 hrowA xA (by decide)
          go_roundw
          case rel => exact ⟨k + 1, sa, sc, _, by omega, by go_num, rfl, ho8, by rw [HS.out]; exact hels8, HFh, x8, b8⟩
          case measure => simp [intOf]; omega
        · have HE : Hid (wrongRecs l = (wrongRec R, (k : Int))) := HV.out hlt HO.out hw
          have hw' : (wrongRec R != 0) = true := by simpa using hw
          have HNE : Hid (wrongRec R ≠ 0) := hw
          generalize wrongRec R = er at *
          obtain ⟨u0, u1, u2, u3⟩ := box_two x6
          clear HV HF hw hrow6 hels6 hx
          go_wp2_with fail
          exact bodyPost_ret (v := .tuple #[.slice none 0 0, faultV (er, (k : Int))]) (by simp [results, Tryd.results41, go_sem, u0, u1]) rfl ⟨none, 0, 0, by rw [HE.out], by rw [HE.out]; exact fun h => absurd h HNE.out, (b6.setCell (Nat.le_refl _) _).setCell (Nat.le_refl _) _⟩
      · obtain rfl : k = n := by omega
        have hnl : ¬ (k : Int) < k := by omega
        have HE : Hid (wrongRecs l = (0, 0)) := HW2.out HO.out
        rw [List.take_of_length_le (by omega)] at hels
        have hO : OwnParts wo w.heap.size (.slice va k vc) (rowsOf l) := ⟨vs, by rw [hrl, hn]; exact hrow, hels⟩
        obtain ⟨u0, u1, u2, u3⟩ := box_two xo
        have hO2 := (hO.far (o := 0) xo (by decide) (by decide) (.int .i64 0)).far (o := 1) (heap_setCell_same _ _ 0 _ _ (.int .i64 0) xo) (by decide) (by decide) (.int .i64 0)
        clear HW1 HW2 HO hrow hels hl hn hrl
        go_wp2_with fail
        exact bodyPost_ret (v := .tuple #[.slice va k vc, faultV (0, 0)]) (by simp [results, Tryd.results41, go_sem, u0, u1]) rfl ⟨va, k, vc, by rw [HE.out], fun _ => ⟨hO2, rfl⟩, (hbr.setCell (Nat.le_refl _) _).setCell (Nat.le_refl _) _⟩

end Go.Proofs.YtkjlchfmplcobaeDoor
