/- The plain mathematics of right edges: leaf by leaf they have the root. Nothing of the program is in it. -/
import Derived.Test.YtkjlchfmplcobaaDoorTreeMath
namespace Go.Proofs.YtkjlchfmplcobaaDoor

/-- How many ones a number has. -/
def onesN (n : Nat) : Nat := if _h : n = 0 then 0 else n % 2 + onesN (n / 2)
termination_by n
decreasing_by omega
theorem onesN_zero : onesN 0 = 0 := by rw [onesN, dif_pos rfl]
theorem onesN_more {n : Nat} (h : n ≠ 0) : onesN n = n % 2 + onesN (n / 2) := by rw [onesN, dif_neg h]
/-- A digest more at an edge: two parts of as many leaves are one. -/
def pushL (ps : List (List Int)) (n : Nat) (d : List Int) : List (List Int) :=
  if _h : n % 2 = 1 then pushL ps.dropLast (n / 2) (nodeL (ps.getD (ps.length - 1) []) d) else ps ++ [d]
termination_by n
decreasing_by omega
theorem pushL_odd {ps : List (List Int)} {n : Nat} {d : List Int} (h : n % 2 = 1) : pushL ps n d = pushL ps.dropLast (n / 2) (nodeL (ps.getD (ps.length - 1) []) d) := by rw [pushL, dif_pos h]
theorem pushL_even {ps : List (List Int)} {n : Nat} {d : List Int} (h : n % 2 ≠ 1) : pushL ps n d = ps ++ [d] := by rw [pushL, dif_neg h]
/-- The last part, put together from the right. -/
def topL (ps : List (List Int)) : List Int := if ps.length = 0 then shaL [] else ps.dropLast.foldr nodeL (ps.getD (ps.length - 1) [])
theorem topL_nil : topL [] = shaL [] := rfl
theorem topL_one (d : List Int) : topL [d] = d := rfl
theorem topL_cons (d : List Int) (ps : List (List Int)) (h : ps ≠ []) : topL (d :: ps) = nodeL d (topL ps) := by
  obtain ⟨x, xs, rfl⟩ := List.exists_cons_of_ne_nil h
  unfold topL
  rw [if_neg (by simp), if_neg (by simp), List.dropLast_cons_of_ne_nil (by simp), List.foldr_cons]
  congr 1

end Go.Proofs.YtkjlchfmplcobaaDoor
