/- What the laws of chapter 2 ask of package tree's faces, as propositions: each is shown of the landed code elsewhere. -/
import Derived.Test.YtkjlchfmplcobaaDoorProg
import Derived.Test.YtkjlchfmplcobaaDoorTreeMem
namespace Go.Proofs.YtkjlchfmplcobaaDoor
open Go.RowKit

/-- The world holds the digests' table. -/
structure Ready (w : World) : Prop where
  tab : Tab w
  big : 0 < w.heap.size
theorem Ready.below {w w' : World} (h : Ready w) (hb : Below w.heap.size w w') : Ready w' := ⟨tab_below h.tab hb h.big, Nat.lt_of_lt_of_le h.big hb.size⟩
/-- A list of bytes' lists as it comes in: it can be read, there is room for what there is, and it is bytes. -/
structure Lists (w : World) (a : Option Addr) (n c : Nat) (L : List (List Int)) : Prop where
  len : L.length = n
  at' : PartsAt w (.slice a n c) L
  room : n ≤ c
  cap : c ≤ maxLen
  nil : a = none → n = 0 ∧ c = 0
  bytes : ∀ j, Bytes (L.getD j [])
  short : ∀ j, (L.getD j []).length ≤ maxLen
theorem Lists.below {w w' : World} {a : Option Addr} {n c : Nat} {L : List (List Int)} (h : Lists w a n c L) (hb : Below w.heap.size w w') : Lists w' a n c L :=
  ⟨h.len, h.at'.below (Nat.le_refl _) hb, h.room, h.cap, h.nil, h.bytes, h.short⟩
def StandsC : Prop := ∀ (size : Int) (root b : List Int) (i : Int) (p : List (List Int)) (rv bv : Value) (a : Option Addr) (n c : Nat) (w : World), Ready w → Some' w rv root → Some' w bv b → Lists w a n c p →
  Calls Tryd.prog 33 #[.agg #[.int .i64 size, rv], bv, .int .i64 i, .slice a n c] w fun e w' => e = .returned (.bool (standsL size root b i p)) ∧ Below w.heap.size w w'
def GrewC : Prop := ∀ (os : Int) (oroot : List Int) (ns : Int) (nroot : List Int) (p : List (List Int)) (ov nv : Value) (a : Option Addr) (n c : Nat) (w : World), Ready w → Some' w ov oroot → Some' w nv nroot → Lists w a n c p →
  Calls Tryd.prog 35 #[.agg #[.int .i64 os, ov], .agg #[.int .i64 ns, nv], .slice a n c] w fun e w' => e = .returned (.bool (grewL os oroot ns nroot p)) ∧ Below w.heap.size w w'

end Go.Proofs.YtkjlchfmplcobaaDoor
