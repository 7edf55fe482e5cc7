/- The walk of the law ClashTells, over the faces of packages tree and clash. -/
import Derived.Test.YtkjlchfmplcobabDoorProg
import Derived.Test.YtkjlchfmplcobabDoorClashAlive
import Derived.WalkKit
import Derived.WalkSpells
import Derived.WalkLawsBesides
namespace Go.Proofs.YtkjlchfmplcobabDoor
open Go.RowKit

set_option maxRecDepth 100000 in
set_option maxHeartbeats 2000000 in
theorem clashTells_any (hRoot : RootC) (hPath : PathC) (hStands : ClashStandsC) (hGrew : ClashGrewC) (L : List (List Int)) (b : List Int) (i : Int) (p : List (List Int)) (os : Int) (oroot : List Int) (q : List (List Int)) (bv ov : Value) (a : Option Addr) (n c : Nat) (pa : Option Addr) (pn pc : Nat) (qa : Option Addr) (qn qc : Nat) (w : World)
    (hR : Ready w) (hL : Lists w a n c L) (hb : Some' w bv b) (hp : Lists w pa pn pc p) (ho : Some' w ov oroot) (hq : Lists w qa qn qc q) :
    Calls Tryd.prog 8 #[.slice a n c, bv, .int .i64 i, .slice pa pn pc, .agg #[.int .i64 os, ov], .slice qa qn qc] w fun e w' => e = .returned (.bool true) ∧ Below w.heap.size w w' := by
  obtain ⟨oa, oc, eo⟩ := ho.at'.form
  subst eo
  have b0 : Below w.heap.size w (w.alloc (.cells #[.int .i64 os, .slice oa oroot.length oc] 34)) := (Below.refl _ _).alloc (Nat.le_refl _) _
  obtain ⟨-, z0, z1, sz⟩ := box_cells w (.int .i64 os) (.slice oa oroot.length oc) 34
  have k0 : ∀ w', Below (w.alloc (.cells #[.int .i64 os, .slice oa oroot.length oc] 34)).heap.size (w.alloc (.cells #[.int .i64 os, .slice oa oroot.length oc] 34)) w' → w'.cell? ⟨w.heap.size, 0, none⟩ = some (.int .i64 os) ∧ w'.cell? ⟨w.heap.size, 1, none⟩ = some (.slice oa oroot.length oc) := fun w' h => ⟨(h.cell (p := ⟨w.heap.size, 0, none⟩) sz).trans z0, (h.cell (p := ⟨w.heap.size, 1, none⟩) sz).trans z1⟩
  have cA := alive3_any hRoot hPath hStands _ (hR.below b0)
  have cS : ∀ w', Below w.heap.size w w' → _ := fun w' h => hStands L b i p bv a n c pa pn pc w' (hR.below h) (hL.below h) (hb.below h) (hp.below h)
  have cG : ∀ w', Below w.heap.size w w' → _ := fun w' h => hGrew L os oroot q _ a n c qa qn qc w' (hR.below h) (hL.below h) (ho.below h) (hq.below h)
  have cT : ∀ w' vx vy ok, Below w.heap.size w w' → Told w' vx vy ok → ∃ x y xa xc ya yc, vx = .slice xa x xc ∧ vy = .slice ya y yc ∧ (ok = false → x = 0 ∧ y = 0) ∧ Calls Tryd.prog 22 #[vx, vy] w' fun e w2 => e = .returned (.bool ok) ∧ Below w'.heap.size w' w2 := fun w' vx vy ok h ht => by
    obtain ⟨x, y, hx, hy, l1, l2, h1, h2⟩ := told_two ht
    obtain ⟨xa, xc, rfl⟩ := hx.at'.form
    obtain ⟨ya, yc, rfl⟩ := hy.at'.form
    have t := two_any x y _ _ w' (hR.below h) hx hy l1 l2
    rw [h1] at t
    exact ⟨_, _, xa, xc, ya, yc, rfl, rfl, fun e => by obtain ⟨rfl, rfl⟩ := h2 e; exact ⟨rfl, rfl⟩, t⟩
  generalize clashS L b i p = ok1 at *
  generalize clashG L os oroot q = ok2 at *
  clear hL hb hp ho hq hRoot hPath hStands hGrew z0 z1
  go_enter Tryd.func8, Tryd.ntmps8
  go_wp2_with fail
  refine cA.mono ?_
  rintro e w1 ⟨rfl, hb1⟩
  have b1 := b0.trans (hb1.mono b0.size)
  clear cA
  go_wp2_with fail
  refine (cS _ b1).mono ?_
  rintro e w2 ⟨vx, vy, rfl, ht, hb2⟩
  have b2 := b1.trans (hb2.mono b1.size)
  have d2 := hb1.trans (hb2.mono hb1.size)
  obtain ⟨x, y, xa, xc, ya, yc, rfl, rfl, hn, t⟩ := cT _ _ _ _ b2 ht
  clear cS ht hb1 hb2 b1
  cases ok1
  case' false => obtain ⟨rfl, rfl⟩ := hn rfl
  all_goals
    go_wp2_with fail
    refine t.mono ?_
    rintro e w3 ⟨rfl, hb3⟩
    have b3 := b2.trans (hb3.mono b2.size)
    have d3 := d2.trans (hb3.mono d2.size)
    obtain ⟨y0, y1⟩ := k0 _ d3
    go_wp2_with fail
    refine (cG _ b3).mono ?_
    rintro e w4 ⟨ux, uy, rfl, ht4, hb4⟩
    have b4 := b3.trans (hb4.mono b3.size)
    obtain ⟨x4, y4, xa4, xc4, ya4, yc4, rfl, rfl, hn4, t4⟩ := cT _ _ _ _ b4 ht4
    clear ht4 t
    cases ok2
    case' false => obtain ⟨rfl, rfl⟩ := hn4 rfl
    all_goals
      go_wp2_with fail
      refine t4.mono ?_
      rintro e w5 ⟨rfl, hb5⟩
      have b5 := b4.trans (hb5.mono b4.size)
      clear t4
      go_wp2_with fail
      go_ret
      exact ⟨rfl, b5⟩

end Go.Proofs.YtkjlchfmplcobabDoor
