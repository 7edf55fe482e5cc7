/- What the laws of chapter 2 ask of package tree's faces, as propositions: each is shown of the landed code elsewhere. -/
import Derived.Test.YtkjlchfmplcobabDoorProg
import Derived.Test.YtkjlchfmplcobabDoorTreeMem
namespace Go.Proofs.YtkjlchfmplcobabDoor
open Go.RowKit

/-- The world holds the digests' table. -/
structure Ready (w : World) : Prop where
  tab : Tab w
  big : 0 < w.heap.size
theorem Ready.below {w w' : World} (h : Ready w) (hb : Below w.heap.size w w') : Ready w' := ⟨tab_below h.tab hb h.big, Nat.lt_of_lt_of_le h.big hb.size⟩
/-- A list of bytes' lists as it comes in: it can be read, there is room for what there is, and it is bytes. -/
structure Lists (w : World) (a : Option Addr) (n c : Nat) (L : List (List Int)) : Prop where
  len : L.length = n
  at' : PartsAt w (.slice a n c) L
  room : n ≤ c
  cap : c ≤ maxLen
  nil : a = none → n = 0 ∧ c = 0
  bytes : ∀ j, Bytes (L.getD j [])
  short : ∀ j, (L.getD j []).length ≤ maxLen
theorem Lists.below {w w' : World} {a : Option Addr} {n c : Nat} {L : List (List Int)} (h : Lists w a n c L) (hb : Below w.heap.size w w') : Lists w' a n c L :=
  ⟨h.len, h.at'.below (Nat.le_refl _) hb, h.room, h.cap, h.nil, h.bytes, h.short⟩
@[reducible] def faultV (p : Int × Int) : Value := .agg #[.int .i64 p.1, .int .i64 p.2]
/-- What Path and Grows say. -/
def pathF (L : List (List Int)) (i : Int) : Int × Int := if (wrongL L).1 ≠ 0 then wrongL L else if i < 0 ∨ (L.length : Int) ≤ i then (6, 0) else (0, 0)
def growF (L : List (List Int)) (m : Int) : Int × Int := if (wrongL L).1 ≠ 0 then wrongL L else if m < 1 ∨ (L.length : Int) < m then (3, 0) else (0, 0)
def WrongC : Prop := ∀ (L : List (List Int)) (a : Option Addr) (n c : Nat) (w : World), Lists w a n c L →
  Calls Tryd.prog 15 #[.slice a n c] w fun e w' => e = .returned (faultV (wrongL L)) ∧ Below w.heap.size w w'
def RootC : Prop := ∀ (L : List (List Int)) (a : Option Addr) (n c : Nat) (w : World), Ready w → Lists w a n c L →
  Calls Tryd.prog 10 #[.slice a n c] w fun e w' => ∃ xa xn xc, e = .returned (.tuple #[.slice xa xn xc, faultV (wrongL L)]) ∧ ((wrongL L).1 = 0 → w'.ownsRow w.heap.size 5 1 (.slice xa xn xc) 32 ((mth L).map (Value.int .u8))) ∧ ((wrongL L).1 ≠ 0 → xn = 0) ∧ Below w.heap.size w w'
def PathC : Prop := ∀ (L : List (List Int)) (i : Int) (a : Option Addr) (n c : Nat) (w : World), Ready w → Lists w a n c L →
  Calls Tryd.prog 11 #[.slice a n c, .int .i64 i] w fun e w' => ∃ xa xn xc, e = .returned (.tuple #[.slice xa xn xc, faultV (pathF L i)]) ∧ ((pathF L i).1 = 0 → OwnParts w' w.heap.size (.slice xa xn xc) (pathL L i.toNat)) ∧ ((pathF L i).1 ≠ 0 → xn = 0) ∧ Below w.heap.size w w'
def StandsC : Prop := ∀ (size : Int) (root b : List Int) (i : Int) (p : List (List Int)) (rv bv : Value) (a : Option Addr) (n c : Nat) (w : World), Ready w → Some' w rv root → Some' w bv b → Lists w a n c p →
  Calls Tryd.prog 12 #[.agg #[.int .i64 size, rv], bv, .int .i64 i, .slice a n c] w fun e w' => e = .returned (.bool (standsL size root b i p)) ∧ Below w.heap.size w w'
def GrewC : Prop := ∀ (os : Int) (oroot : List Int) (ns : Int) (nroot : List Int) (p : List (List Int)) (ov nv : Value) (a : Option Addr) (n c : Nat) (w : World), Ready w → Some' w ov oroot → Some' w nv nroot → Lists w a n c p →
  Calls Tryd.prog 14 #[.agg #[.int .i64 os, ov], .agg #[.int .i64 ns, nv], .slice a n c] w fun e w' => e = .returned (.bool (grewL os oroot ns nroot p)) ∧ Below w.heap.size w w'

end Go.Proofs.YtkjlchfmplcobabDoor
