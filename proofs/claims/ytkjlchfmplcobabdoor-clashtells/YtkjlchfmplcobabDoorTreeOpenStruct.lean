/- Heads and edges that came in, opened; five and six arguments. -/
import Derived.Test.YtkjlchfmplcobabDoorTreeOpen
import Derived.Lib.SmallJoins
namespace Go.Proofs.YtkjlchfmplcobabDoor
open Go.ChangeShapes Go.WideShapes Go.ChangeAt Go.WideMaps Go.WideElems Go.RowKit

theorem open_some {H : Type} {enc : TypeId × Value → H} {W : World} {base : Nat} {spare : Nat → Bool} {held : Bool} {v : Value} {d : DataW H} {p : List MemPlace}
    (hv : ∃ a len cap, v = .slice a len cap) (h : DataW.Trod enc Tryd.prog W base spare held 24 v d p) : ∃ (b : List Int) (a : Option Addr) (c : Nat), v = .slice a b.length c ∧ Some' W v b ∧ (b = [] ∨ ∃ elems sp : List (DataW H), d = .slice elems sp ∧ elems.length = b.length) := by
  obtain ⟨zs, hB, hby, hmx, hd⟩ := open_bytes hv h
  obtain ⟨a, c, e⟩ := hB.form
  exact ⟨zs, a, c, e, ⟨hB, hby, hmx⟩, hd⟩
set_option maxRecDepth 100000 in
theorem open_head {H : Type} {enc : TypeId × Value → H} {W : World} {r : Reach} {b0 base : Nat} {spare : Nat → Bool} {held : Bool} {v : Value} {d : DataW H} {p : List MemPlace}
    (hv : Value.okWide Tryd.prog W r b0 34 v) (h : DataW.Trod enc Tryd.prog W base spare held 34 v d p) :
    ∃ (size : Int) (root : List Int) (ra : Option Addr) (rc : Nat), v = .agg #[.int .i64 size, .slice ra root.length rc] ∧ Some' W (.slice ra root.length rc) root := by
  obtain ⟨v0, v1, y0, y1, n, rfl, -, -, h0, h1⟩ := Go.Joins.open_agg2 Tryd.underlying34 (by kernel_rfl) (by kernel_rfl) hv h
  obtain ⟨size, e0, -, -⟩ := DataW.trod_int Tryd.underlying3 h0
  obtain ⟨sa, sl, sc, e1⟩ := Go.Joins.slice_form Tryd.underlying24 h1
  simp at e0 e1
  subst e0 e1
  obtain ⟨b, a, c, e, hS, -⟩ := open_some (v := .slice sa sl sc) ⟨_, _, _, rfl⟩ ⟨n, h1⟩
  rw [e] at hS ⊢
  exact ⟨size, b, a, c, rfl, hS⟩
theorem trodAll_six {H : Type} {enc : TypeId × Value → H} {P : Program} {w : World} {base : Nat} {spare : Nat → Bool} {held : Bool} {t0 t1 t2 t3 t4 t5 : TypeId} {args : Array Value} {ds : List (DataW H)} {ps : List MemPlace} (h : DataW.TrodAll enc P w base spare held [t0, t1, t2, t3, t4, t5] args.toList ds ps) :
    ∃ v0 v1 v2 v3 v4 v5 d0 d1 d2 d3 d4 d5 p0 p1 p2 p3 p4 p5, args = #[v0, v1, v2, v3, v4, v5] ∧ ds = [d0, d1, d2, d3, d4, d5] ∧ ps = p0 ++ (p1 ++ (p2 ++ (p3 ++ (p4 ++ p5)))) ∧ DataW.Trod enc P w base spare held t0 v0 d0 p0 ∧ DataW.Trod enc P w base spare held t1 v1 d1 p1 ∧ DataW.Trod enc P w base spare held t2 v2 d2 p2 ∧ DataW.Trod enc P w base spare held t3 v3 d3 p3 ∧ DataW.Trod enc P w base spare held t4 v4 d4 p4 ∧ DataW.Trod enc P w base spare held t5 v5 d5 p5 := by
  obtain ⟨v0, vs, d0, ds', p0, q, hargs, rfl, rfl, h0, r⟩ := trodAll_cons h
  obtain ⟨v1, vs, d1, ds', p1, q, rfl, rfl, rfl, h1, r⟩ := trodAll_cons r
  obtain ⟨v2, vs, d2, ds', p2, q, rfl, rfl, rfl, h2, r⟩ := trodAll_cons r
  obtain ⟨v3, vs, d3, ds', p3, q, rfl, rfl, rfl, h3, r⟩ := trodAll_cons r
  obtain ⟨v4, vs, d4, ds', p4, q, rfl, rfl, rfl, h4, r⟩ := trodAll_cons r
  obtain ⟨v5, vs, d5, ds', p5, q, rfl, rfl, rfl, h5, r⟩ := trodAll_cons r
  obtain ⟨rfl, rfl, rfl⟩ := trodAll_nil r
  exact ⟨v0, v1, v2, v3, v4, v5, d0, d1, d2, d3, d4, d5, p0, p1, p2, p3, p4, p5, by cases args; simp_all, rfl, by simp, h0, h1, h2, h3, h4, h5⟩

end Go.Proofs.YtkjlchfmplcobabDoor
