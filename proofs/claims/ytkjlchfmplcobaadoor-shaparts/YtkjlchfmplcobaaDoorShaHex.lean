/- The walk of yearlaw1.hex: the bytes of digits. -/
import Derived.Test.YtkjlchfmplcobaaDoorProg
import Derived.Test.YtkjlchfmplcobaaDoorShaSame
import Derived.Test.YtkjlchfmplcobaaDoorShaSum
import Derived.WalkKit
import Derived.WalkSpells
import Derived.WalkLawsBesides
import Derived.Lib.ConvBytes
namespace Go.Proofs.YtkjlchfmplcobaaDoor
open Go.RowKit

/-- One digit more. -/
def dig (n c : Int) : Int := if 97 ≤ c then (16 * n + c - 97 + 10) % 256 else (16 * n + c - 48) % 256
/-- The byte at j of a string. -/
def chr (s : ByteArray) (j : Nat) : Int := ((s.data.toList.getD j 0).toNat : Int)
theorem chr_bd (s : ByteArray) (j : Nat) : 0 ≤ chr s j ∧ chr s j < 256 := by
  unfold chr
  have := (s.data.toList.getD j 0).toNat_lt
  omega
def hexAt (s : ByteArray) (i : Nat) : Int := dig (dig 0 (chr s (2 * i))) (chr s (2 * i + 1))
def hexTo (s : ByteArray) (k : Nat) : List Int := (List.range k).map (hexAt s)
theorem hexTo_succ (s : ByteArray) (k : Nat) : hexTo s (k + 1) = hexTo s k ++ [hexAt s k] := by simp [hexTo, List.range_succ]
theorem hexTo_length (s : ByteArray) (k : Nat) : (hexTo s k).length = k := by simp [hexTo]
theorem extract_byte (s : ByteArray) (a b j : Nat) (h : a + j < b) : ((s.extract a b).data.toList.getD j 0) = s.data.toList.getD (a + j) 0 := by
  rw [List.getD_eq_getElem?_getD, List.getD_eq_getElem?_getD]
  congr 1
  rw [ByteArray.data_extract, Array.toList_extract, List.extract_eq_take_drop, List.getElem?_take, if_pos (by omega), List.getElem?_drop]

theorem below_bytesWorld (w : World) (e : TypeId) (s : ByteArray) : Below w.heap.size w (Lib.bytesWorld w e s) :=
  ⟨rfl, rfl, rfl, by rw [Lib.bytesWorld_size]; omega, fun k hk => Lib.bytesWorld_at_old w e s k hk⟩

set_option maxRecDepth 100000 in
set_option maxHeartbeats 1000000 in
theorem hex_any (s : ByteArray) (w : World) (hs : s.size ≤ 1000) :
    Calls Tryd.prog 14 #[.string s] w fun e w' => ∃ v, e = .returned v ∧ w'.ownsRow w.heap.size 5 1 v (s.size / 2) ((hexTo s (s.size / 2)).map (Value.int .u8)) ∧ Below w.heap.size w w' := by
  obtain ⟨i0, hi, hz0, hz1, hz2⟩ := info_parts Tryd.info5b
  have kc := fun (w : World) (s : ByteArray) => Lib.run_convert_string_bytes (P := Tryd.prog) w 9 22 5 s Tryd.underlying9 Tryd.underlying22 Tryd.underlying5
  go_enter Tryd.func14, Tryd.ntmps14
  go_wp2
  go_loopw [3, 4] (fun v i wr => ∃ k : Nat, 2 * k ≤ s.size ∧ i = .int .i64 (2 * (k : Int)) ∧ wr.ownsRow w.heap.size 5 1 v k ((hexTo s k).map (Value.int .u8)) ∧ Below w.heap.size w wr) (fun _ i _ => s.size + 2 - (intOf i).toNat)
  case atStart => exact ⟨0, by omega, rfl, World.ownsRow_nil _ _ _ _, Below.refl _ _⟩
  case round =>
    obtain ⟨k, hk, rfl, hown, hb⟩ := hrel
    by_cases hlt : 2 * k + 1 < s.size
    · have i1 : 2 * (k : Int) + 1 < (s.size : Int) := by omega
      have hd : (s.extract (2 * k) (2 * k + 2)).size = 2 := by rw [ByteArray.size_extract]; omega
      have hsz := hb.size
      have d0 : (Lib.bytesWorld wr 5 (s.extract (2 * k) (2 * k + 2))).cell? ⟨wr.heap.size, 0, none⟩ = some (.int .u8 (chr s (2 * k))) := by
        rw [Lib.bytesWorld_cell _ _ _ _ (by omega), extract_byte s _ _ 0 (by omega)]; rfl
      have d1 : (Lib.bytesWorld wr 5 (s.extract (2 * k) (2 * k + 2))).cell? ⟨wr.heap.size, 1, none⟩ = some (.int .u8 (chr s (2 * k + 1))) := by
        rw [Lib.bytesWorld_cell _ _ _ _ (by omega), extract_byte s _ _ 1 (by omega)]; rfl
      have hbW : Below wr.heap.size wr (Lib.bytesWorld wr 5 (s.extract (2 * k) (2 * k + 2))) := below_bytesWorld _ _ _
      have hgW : wr.grownBy (Lib.bytesWorld wr 5 (s.extract (2 * k) (2 * k + 2))) none := grownBy_below hbW
      obtain ⟨W, hW⟩ : ∃ W, Lib.bytesWorld wr 5 (s.extract (2 * k) (2 * k + 2)) = W := ⟨_, rfl⟩
      have kc1 := kc wr (s.extract (2 * k) (2 * k + 2))
      rw [hW] at d0 d1 hbW hgW kc1
      rw [hd] at kc1
      clear hW kc
      have HX : Hid (hexTo s (k + 1) = hexTo s k ++ [dig (dig 0 (chr s (2 * k))) (chr s (2 * k + 1))]) := hexTo_succ s k
      have b0 := chr_bd s (2 * k)
      have b1 := chr_bd s (2 * k + 1)
      generalize chr s (2 * k) = c0 at *
      generalize chr s (2 * k + 1) = c1 at *
      obtain ⟨b01, b02⟩ := b0
      obtain ⟨b11, b12⟩ := b1
      go_wp2
      go_loop [5, 22] (fun n i => ∃ (j : Nat) (m : Int), j ≤ 2 ∧ i = .int .i64 j ∧ n = .int .u8 m ∧ 0 ≤ m ∧ m < 256 ∧ Hid (m = if j = 0 then 0 else if j = 1 then dig 0 c0 else dig (dig 0 c0) c1)) (fun _ i => 2 - (intOf i).toNat)
      case atStart => exact ⟨0, 0, by omega, rfl, rfl, by omega, by omega, rfl⟩
      case round =>
        obtain ⟨j, m, hj, rfl, rfl, m0, m1, HM⟩ := hrel
        by_cases hj2 : j < 2
        · obtain ⟨c, dj, cb0, cb1, HC⟩ : ∃ c, W.cell? ⟨wr.heap.size, j, none⟩ = some (.int .u8 c) ∧ 0 ≤ c ∧ c < 256 ∧ Hid (dig m c = if j + 1 = 0 then 0 else if j + 1 = 1 then dig 0 c0 else dig (dig 0 c0) c1) := by
            have h : j = 0 ∨ j = 1 := by omega
            rcases h with rfl | rfl
            · exact ⟨c0, d0, b01, b02, by rw [HM.out]; rfl⟩
            · exact ⟨c1, d1, b11, b12, by rw [HM.out]; rfl⟩
          clear d0 d1 HM kc1 hown
          by_cases hge : 97 ≤ c
          · have HD : Hid (dig m c = (16 * m + c - 97 + 10) % 256) := by unfold dig; rw [if_pos hge]; rfl
            go_wp2
            go_round
            case rel => exact ⟨j + 1, dig m c, by omega, by go_num, by rw [HD.out]; go_num, by rw [HD.out]; omega, by rw [HD.out]; omega, HC⟩
            case measure => simp [intOf]; omega
          · have HD : Hid (dig m c = (16 * m + c - 48) % 256) := by unfold dig; rw [if_neg hge]; rfl
            go_wp2
            go_round
            case rel => exact ⟨j + 1, dig m c, by omega, by go_num, by rw [HD.out]; go_num, by rw [HD.out]; omega, by rw [HD.out]; omega, HC⟩
            case measure => simp [intOf]; omega
        · obtain rfl : j = 2 := by omega
          clear hj2 hj d0 d1 kc1
          have HM2 : Hid (m = dig (dig 0 c0) c1) := HM.out
          have hown1 := hown.kept hgW (by cases hv : u3.ownBlock <;> simp)
          have hl := hexTo_length s k
          clear HM
          have hsW := hbW.size
          go_wp2_with (at_builtin; refine wpList_append_own _ rfl (.tmp 40) (.tmp 42) 22 rfl w.heap.size 5 i0 (.int .u8 0) 1 1 Tryd.underlying22 hi hz0 hz1 hz2 rfl (by decide) _ _ _ rfl (hown1.alloc _) ⟨W.heap.size, 0, none⟩ 1 1 [.int .u8 m] rfl rfl (cell_one_new _ _ _) (by intro u hu; simp at hu; subst hu; rfl) (by unfold maxLen; omega) (by omega) (by simp; omega) ?_)
          intro v2 w2 hown2 hgrow2 _
          have hb2 : Below w.heap.size w w2 := ((hb.trans (hbW.mono hsz)).alloc (by omega) _).grown hgrow2 (by simp; omega) (fun q h => by
            rcases hown1.2 with ⟨e, -⟩ | ⟨g, cap, cur, e, hg, -⟩
            · rw [e] at h; cases h
            · rw [e] at h; cases h; exact hg)
          have hown3 : w2.ownsRow w.heap.size 5 1 v2 (k + 1) ((hexTo s (k + 1)).map (Value.int .u8)) := by
            rw [HX.out, ← HM2.out, List.map_append]; exact hown2
          clear hown2 hgrow2 hown hown1 hbW hgW
          go_wp2
          go_roundw
          case rel => exact ⟨k + 1, by omega, by go_num, hown3, hb2⟩
          case measure => simp [intOf]; omega
    · have ek : s.size / 2 = k := by omega
      have HE : Hid (s.size / 2 = k) := ek
      have i1 : ¬ (2 * (k : Int) + 1 < (s.size : Int)) := by omega
      clear ek kc
      go_wp2
      go_ret
      exact ⟨_, rfl, by rw [HE.out]; exact hown, hb⟩

end Go.Proofs.YtkjlchfmplcobaaDoor
