/- What the laws of chapter 4 ask of package pack's faces, as propositions: each is shown of the landed code elsewhere. Tokens in memory. -/
import Derived.Test.YtkjlchfmplcobacProg
import Derived.Test.YtkjlchfmplcobacByteMem
import Derived.Test.YtkjlchfmplcobacTreeGoBox
import Derived.Test.YtkjlchfmplcobacPackSizes
namespace Go.Proofs.Ytkjlchfmplcobac
open Go.RowKit

def tok0 : Tok := ⟨0, 0, 0⟩
/-- Tokens as the walks meet them. -/
def ToksAt (w : World) (v : Value) (l : List Tok) : Prop :=
  (l = [] ∧ ∃ a c, v = .slice a 0 c ∧ (a = none → c = 0) ∧ c ≤ maxLen) ∨ ∃ b off cp, v = .slice (some ⟨b, off, none⟩) l.length cp ∧ l.length ≤ cp ∧ cp ≤ maxLen ∧ b < w.heap.size ∧
    ∀ j, j < l.length → w.cell? ⟨b, off + j * 3, none⟩ = some (.int .i64 (l.getD j tok0).len) ∧ w.cell? ⟨b, off + j * 3 + 1, none⟩ = some (.int .i64 (l.getD j tok0).back) ∧ w.cell? ⟨b, off + j * 3 + 2, none⟩ = some (.int .u8 (l.getD j tok0).byte)
theorem ToksAt.below {w w' : World} {v : Value} {l : List Tok} {n : Nat} (h : ToksAt w v l) (hn : w.heap.size ≤ n) (hb : Below n w w') : ToksAt w' v l := by
  rcases h with h | ⟨b, off, cp, h1, h2, h3, h4, h5⟩
  · exact .inl h
  · refine .inr ⟨b, off, cp, h1, h2, h3, Nat.lt_of_lt_of_le h4 hb.size, fun j hj => ?_⟩
    obtain ⟨c0, c1, c2⟩ := h5 j hj
    exact ⟨by rw [hb.cell (p := ⟨b, off + j * 3, none⟩) (by show b < n; omega)]; exact c0, by rw [hb.cell (p := ⟨b, off + j * 3 + 1, none⟩) (by show b < n; omega)]; exact c1, by rw [hb.cell (p := ⟨b, off + j * 3 + 2, none⟩) (by show b < n; omega)]; exact c2⟩
theorem ToksAt.form {w : World} {v : Value} {l : List Tok} (h : ToksAt w v l) : ∃ a c, v = .slice a l.length c ∧ l.length ≤ c ∧ c ≤ maxLen ∧ (l.length = 0 ∨ ∃ b off, a = some ⟨b, off, none⟩ ∧ b < w.heap.size ∧ ∀ j, j < l.length → w.cell? ⟨b, off + j * 3, none⟩ = some (.int .i64 (l.getD j tok0).len) ∧ w.cell? ⟨b, off + j * 3 + 1, none⟩ = some (.int .i64 (l.getD j tok0).back) ∧ w.cell? ⟨b, off + j * 3 + 2, none⟩ = some (.int .u8 (l.getD j tok0).byte)) := by
  rcases h with ⟨rfl, a, c, h1, h2, h3⟩ | ⟨b, off, cp, h1, h2, h3, h4, h5⟩
  · exact ⟨a, c, h1, Nat.zero_le _, h3, .inl rfl⟩
  · exact ⟨_, cp, h1, h2, h3, .inr ⟨b, off, rfl, h4, h5⟩⟩
/-- A slice that has room for what it has. -/
def RoomV (v : Value) (n : Nat) : Prop := ∃ a c, v = .slice a n c ∧ n ≤ c ∧ c ≤ maxLen
@[reducible] def faultV4 (p : Int × Int) : Value := .agg #[.int .i64 p.1, .int .i64 p.2]
/-- What Tokens and Pack say. -/
def muchE (b : List Int) : Int := if 4000 < b.length then 4 else 0
def toksE (b : List Int) : List Tok := if 4000 < b.length then [] else tokensL b
def packE (b : List Int) : List Int := if 4000 < b.length then [] else packL b
def TokensC : Prop := ∀ (b : List Int) (bv : Value) (w : World), Some' w bv b →
  Calls Try.prog 6 #[bv] w fun e w' => ∃ v, e = .returned (.tuple #[v, .int .i64 (muchE b)]) ∧ ToksAt w' v (toksE b) ∧ Below w.heap.size w w'
def TextC : Prop := ∀ (l : List Tok) (lv : Value) (w : World), ToksAt w lv l →
  Calls Try.prog 9 #[lv] w fun e w' => ∃ v, e = .returned (.tuple #[v, faultV4 (textL l).2]) ∧ BytesAt w' v (textL l).1 ∧ RoomV v (textL l).1.length ∧ Below w.heap.size w w'
def PackC : Prop := ∀ (b : List Int) (bv : Value) (w : World), Some' w bv b →
  Calls Try.prog 12 #[bv] w fun e w' => ∃ v, e = .returned (.tuple #[v, .int .i64 (muchE b)]) ∧ BytesAt w' v (packE b) ∧ RoomV v (packE b).length ∧ Below w.heap.size w w'
def UnpackC : Prop := ∀ (b : List Int) (bv : Value) (w : World), Some' w bv b → RoomV bv b.length →
  Calls Try.prog 14 #[bv] w fun e w' => ∃ v, e = .returned (.tuple #[v, .int .i64 (unpackL b).2]) ∧ BytesAt w' v (unpackL b).1 ∧ Below w.heap.size w w'

/-- Bytes that have room for what there is. -/
def RoomAt (w : World) (v : Value) (zs : List Int) : Prop := BytesAt w v zs ∧ RoomV v zs.length
theorem roomAt_nil (w : World) : RoomAt w (.slice none 0 0) [] := ⟨bytesAt_nil w, none, 0, rfl, Nat.le_refl _, Nat.zero_le _⟩
def PackOC : Prop := ∀ (b : List Int) (bv : Value) (w : World), Some' w bv b →
  Calls Try.prog 12 #[bv] w fun e w' => ∃ v, e = .returned (.tuple #[v, .int .i64 (muchE b)]) ∧ w'.ownsRow w.heap.size 5 1 v (packE b).length ((packE b).map (Value.int .u8)) ∧ Below w.heap.size w w'
theorem PackOC.packC (h : PackOC) : PackC := fun b bv w hb => (h b bv w hb).mono fun _ _ ⟨v, h1, h2, h3⟩ => ⟨v, h1, bytesAt_own h2, own_cap h2, h3⟩
def UnpackRC : Prop := ∀ (b : List Int) (bv : Value) (w : World), Some' w bv b → RoomV bv b.length →
  Calls Try.prog 14 #[bv] w fun e w' => ∃ v, e = .returned (.tuple #[v, .int .i64 (unpackL b).2]) ∧ RoomAt w' v (unpackL b).1 ∧ Below w.heap.size w w'
theorem UnpackRC.unpackC (h : UnpackRC) : UnpackC := fun b bv w hb hr => (h b bv w hb hr).mono fun _ _ ⟨v, h1, h2, h3⟩ => ⟨v, h1, h2.1, h3⟩

/-- What is packed is bytes. -/
theorem tokFrom_bytes {b : List Int} (hb : Bytes b) (d : Nat) : ∀ a, b.length - a = d → ∀ t ∈ tokFrom b a, 0 ≤ t.byte ∧ t.byte < 256 ∧ (t.len = 0 ∨ (3 ≤ t.len ∧ t.len ≤ 66 ∧ 1 ≤ t.back ∧ t.back ≤ 1024)) := by
  induction d using Nat.strongRecOn with
  | ind d ih =>
    intro a hd t ht
    by_cases h : a < b.length
    · rcases best_spec b a with hs | ⟨s1, s2, s3, s4, s5, s6, -⟩
      · rw [tokFrom_byte h (by rw [hs])] at ht
        rcases List.mem_cons.1 ht with rfl | ht
        · exact ⟨(hb a).1, (hb a).2, .inl rfl⟩
        · exact ih (b.length - (a + 1)) (by omega) (a + 1) rfl t ht
      · rw [tokFrom_more h (by omega)] at ht
        rcases List.mem_cons.1 ht with rfl | ht
        · refine ⟨by simp, by simp, .inr ?_⟩
          simp only
          omega
        · exact ih (b.length - (a + (bestL b a).1)) (by omega) (a + (bestL b a).1) rfl t ht
    · rw [tokFrom_end h] at ht
      cases ht
theorem pack_short {b : List Int} (hn : b.length ≤ 4000) : (packL b).length ≤ 5000 := by have := pack_length b; omega
end Go.Proofs.Ytkjlchfmplcobac
