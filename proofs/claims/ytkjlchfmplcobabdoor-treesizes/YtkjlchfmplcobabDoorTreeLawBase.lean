/- What the laws of chapter 2 that go without the document's answer lean on. -/
import Derived.Test.YtkjlchfmplcobabDoorProg
import Derived.Test.YtkjlchfmplcobabDoorTreeFace
import Derived.WalkKit
namespace Go.Proofs.YtkjlchfmplcobabDoor
open Go.RowKit

theorem path_bytes (ls : List (List Int)) (i : Nat) : ∀ x ∈ pathL ls i, Bytes x := by
  by_cases h1 : ls.length ≤ 1
  · rw [pathL_one h1]; intro d hd; cases hd
  · have hs := splitN_spec (n := ls.length) (by omega)
    by_cases hk : i < splitN ls.length
    · rw [pathL_left (by omega) hk]
      have := path_bytes (ls.take (splitN ls.length)) i
      intro d hd
      rcases List.mem_append.1 hd with h | h
      · exact this d h
      · rw [List.mem_singleton.1 h]; exact bytes_mth _
    · rw [pathL_right (by omega) hk]
      have := path_bytes (ls.drop (splitN ls.length)) (i - splitN ls.length)
      intro d hd
      rcases List.mem_append.1 hd with h | h
      · exact this d h
      · rw [List.mem_singleton.1 h]; exact bytes_mth _
termination_by ls.length
decreasing_by
  · rw [List.length_take]; omega
  · rw [List.length_drop]; omega
theorem bytes_mem {L : List (List Int)} (h : ∀ x ∈ L, Bytes x) (j : Nat) : Bytes (L.getD j []) := by
  rw [List.getD_eq_getElem?_getD]
  by_cases hj : j < L.length
  · rw [List.getElem?_eq_getElem hj]; exact h _ (List.getElem_mem hj)
  · rw [List.getElem?_eq_none (by omega)]; exact nil_bytes
theorem digs_short {L : List (List Int)} (h : Digs L) (j : Nat) : (L.getD j []).length ≤ maxLen := short_mem (fun x hx => by rw [h x hx]; unfold maxLen; omega) j
theorem own_nil {w : World} {base : Nat} {e : TypeId} {a : Option Addr} {n c m : Nat} {xs : List Value} (h : w.ownsRow base e 1 (.slice a n c) m xs) (ha : a = none) : n = 0 ∧ c = 0 := by
  subst ha
  rcases h.2 with ⟨h1, -⟩ | ⟨g, cap, cur, h1, -⟩
  · simp at h1; exact h1
  · simp at h1
/-- What a face answers is what a face is given. -/
theorem OwnParts.lists {w : World} {base : Nat} {xa : Option Addr} {xn xc : Nat} {L : List (List Int)} (h : OwnParts w base (.slice xa xn xc) L) (hb : ∀ x ∈ L, Bytes x) (hs : ∀ j, (L.getD j []).length ≤ maxLen) : Lists w xa xn xc L := by
  have hp := h.parts
  obtain ⟨a, c, e, h1, h2⟩ := h.form
  cases e
  obtain ⟨vs, hr, -⟩ := h
  exact ⟨rfl, hp, h1, h2, own_nil hr, bytes_mem hb, hs⟩
theorem own_len {w : World} {base : Nat} {e : TypeId} {a : Option Addr} {n c m : Nat} {xs : List Value} (h : w.ownsRow base e 1 (.slice a n c) m xs) : n = m := by
  obtain ⟨a', c', e'⟩ := own_form' h
  cases e'
  rfl
theorem Lists.take {w : World} {a : Option Addr} {n c k : Nat} {L : List (List Int)} (h : Lists w a n c L) (hk : k ≤ n) (h0 : 0 < n) : Lists w a k c (L.take k) :=
  ⟨by rw [List.length_take]; have := h.len; omega, h.at'.take h.len hk h0 _, by have := h.room; omega, h.cap, fun ha => by have := h.nil ha; omega, take_bytes h.bytes k, take_short h.short k⟩
/-- WHAT STANDS THERE IS SHOWN. -/
theorem stands_path {L : List (List Int)} {i : Nat} (h2 : L.length ≤ 100) (hi : i < L.length) (h200 : (L.getD i []).length ≤ 200) : standsL L.length (mth L) (L.getD i []) i (pathL L i) = true := by
  have hg : goodL (pathL L i) = true := goodL_digs.2 (path_digs L i)
  unfold standsL
  rw [if_neg (by intro h; rcases h with h | h | h | h | h | h <;> first | omega | (rw [hg] at h; cases h)), Int.toNat_natCast, Int.toNat_natCast, up_path L i hi]
  simp
/-- The three leaves. -/
def three : List (List Int) := [[1], [2], [3]]
theorem three_wrong : wrongL three = (0, 0) := rfl
theorem three_path : (pathL three 1).length = 2 := by
  have h3 : splitN three.length = 2 := splitN_unique (a := 1) (by decide) (by decide)
  have h2 : splitN (three.take 2).length = 1 := splitN_unique (a := 0) (by decide) (by decide)
  rw [pathL_left (by decide) (by rw [h3]; omega), h3, pathL_right (by decide) (by rw [h2]; omega), h2, pathL_one (by decide)]
  rfl
theorem three_stands : standsL 3 (mth three) [2] 1 (pathL three 1) = true := stands_path (L := three) (i := 1) (by decide) (by decide) (by decide)
theorem three_not : standsL 3 (mth three) [2] 0 ((pathL three 1).take 1) = false := by
  have h3 : splitN 3 = 2 := splitN_unique (a := 1) (by decide) (by decide)
  have hl : ((pathL three 1).take 1).length = 1 := by rw [List.length_take, three_path]; rfl
  have hd : ((pathL three 1).take 1).dropLast.length = 0 := by rw [List.length_dropLast, hl]
  have h : (upL (leafL [2]) 0 3 ((pathL three 1).take 1)).2 = false := by
    rw [upL_left (by omega) (by omega) (by rw [h3]; omega), h3, upL_none (by omega) hd]
  unfold standsL
  split
  · rfl
  · show ((upL (leafL [2]) 0 3 ((pathL three 1).take 1)).2 && _) = false
    rw [h]; rfl

end Go.Proofs.YtkjlchfmplcobabDoor
