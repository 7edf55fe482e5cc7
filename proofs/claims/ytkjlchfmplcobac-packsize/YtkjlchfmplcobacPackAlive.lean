/- The walk of yearlaw4.alive, over the faces of package pack. -/
import Derived.Test.YtkjlchfmplcobacProg
import Derived.Test.YtkjlchfmplcobacPackFace
import Derived.Test.YtkjlchfmplcobacByteConv
import Derived.Lib.SlBytesConst
import Derived.WalkKit
import Derived.WalkSpells
import Derived.WalkLawsBesides
namespace Go.Proofs.Ytkjlchfmplcobac
open Go.RowKit

def abc12 : List Int := [97, 98, 99, 97, 98, 99, 97, 98, 99, 97, 98, 99]
theorem abc_tokens : tokensL abc12 = [⟨0, 0, 97⟩, ⟨0, 0, 98⟩, ⟨0, 0, 99⟩, ⟨9, 3, 0⟩] := by
  have b0 : bestL abc12 0 = (0, 0) := by decide +kernel
  have b1 : bestL abc12 1 = (0, 0) := by decide +kernel
  have b2 : bestL abc12 2 = (0, 0) := by decide +kernel
  have b3 : bestL abc12 3 = (9, 3) := by decide +kernel
  unfold tokensL
  rw [tokFrom_byte (by decide) (by rw [b0]), tokFrom_byte (by decide) (by rw [b1]), tokFrom_byte (by decide) (by rw [b2]), tokFrom_more (by decide) (by rw [b3]; decide), b3, tokFrom_end (by decide)]
  rfl
theorem abc_length : (packL abc12).length = 8 := by
  unfold packL
  rw [abc_tokens, write_length]
  rfl
theorem abc_bytes : Bytes abc12 := bytes_of_mem (by decide)
set_option maxRecDepth 100000 in
set_option maxHeartbeats 1000000 in
theorem alive4_any (hPack : PackC) (hUnpack : UnpackC) (w : World) :
    Calls Try.prog 16 #[] w fun e w' => e = .returned (.bool true) ∧ Below w.heap.size w w' := by
  have hB : BytesAt (w.alloc (.cells #[.int .u8 97, .int .u8 98, .int .u8 99, .int .u8 97, .int .u8 98, .int .u8 99, .int .u8 97, .int .u8 98, .int .u8 99, .int .u8 97, .int .u8 98, .int .u8 99] 5 (12, 13))) (.slice (some ⟨w.heap.size, 0, none⟩) 12 12) abc12 := const_bytes w 5 abc12 12 rfl (12, 13)
  have kc := fun (w : World) (C : Array Value) (n c : Nat) => Lib.run_convert_bytes_const (P := Try.prog) w 22 5 C n c Try.underlying22 Try.underlying5
  have b0 : Below w.heap.size w (w.alloc (.cells #[.int .u8 97, .int .u8 98, .int .u8 99, .int .u8 97, .int .u8 98, .int .u8 99, .int .u8 97, .int .u8 98, .int .u8 99, .int .u8 97, .int .u8 98, .int .u8 99] 5 (12, 13))) := (Below.refl _ _).alloc (Nat.le_refl _) _
  have hm : muchE abc12 = 0 := rfl
  have he : packE abc12 = packL abc12 := rfl
  have hl := abc_length
  have hu : unpackL (packL abc12) = (abc12, 0) := unpack_pack (by decide)
  have hz := abc_bytes
  have hpz := pack_bytes hz (by decide)
  have cP := hPack abc12 _ _ ⟨hB, hz, by decide⟩
  rw [hm, he] at cP
  have cU : ∀ w' v, BytesAt w' v (packL abc12) → RoomV v (packL abc12).length → _ := fun w' v h hr => hUnpack (packL abc12) v w' ⟨h, hpz, by rw [hl]; decide⟩ hr
  rw [hu] at cU
  dsimp only at cU
  have HL : Hid ((packL abc12).length = 8) := hl
  clear hm he hl hu hpz
  generalize packL abc12 = P at *
  generalize abc12 = t at *
  go_enter Try.func16, Try.ntmps16
  go_wp2_with fail
  refine cP.mono ?_
  rintro e w1 ⟨v1, rfl, h1, hr1, hb1⟩
  have b1 := b0.trans (hb1.mono b0.size)
  obtain ⟨pa, pc, e1⟩ := h1.form
  rw [HL.out] at e1
  subst e1
  have c1 := cU _ _ h1 hr1
  clear cP cU hr1
  go_wp2_with fail
  refine c1.mono ?_
  rintro e w2 ⟨v2, rfl, h2, hb2⟩
  have b2 := b1.trans (hb2.mono b1.size)
  have g2 := h2.conv
  have g1 := ((hB.below (Nat.le_refl _) hb1).below (Nat.le_refl _) hb2).conv
  obtain ⟨ua, uc, e2⟩ := h2.form
  subst e2
  clear c1 hB h1 h2
  go_wp2_with fail
  go_ret
  exact ⟨rfl, b2⟩

end Go.Proofs.Ytkjlchfmplcobac
