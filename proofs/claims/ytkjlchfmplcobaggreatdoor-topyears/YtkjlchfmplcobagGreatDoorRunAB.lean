/- FleetDos, TopDos, FleetAliveM, FleetTopM, TopYear, FleetAlive, FleetPastWalk, TopAlive, ShelfSegs, TopStepsWalk, FleetEarlyWalk, FleetMem, FleetMem2, FleetGoSmall, ShaPartsC, TreeFaceLeaf, TreeGoSmall, ShelfGoSmall, ShelfGoLay, ShelfGoSegs, as one text. -/
import Derived.Test.YtkjlchfmplcobagGreatDoorProg
import Derived.Test.YtkjlchfmplcobagGreatDoorRunAA
import Derived.WalkKit
import Derived.Deep.AppendLies
import Derived.Laws.AppendOwnNone
import Derived.WalkSpells
import Derived.WalkLawsBesides
import Derived.Deep.RegionHeld3
import Derived.BigRegion
import Derived.Test.YtkjlchfmplcobagGreatDoorRunAK
import Derived.Deep.RegionWith
import Derived.Test.YtkjlchfmplcobagGreatDoorShaSum
import Derived.Test.YtkjlchfmplcobagGreatDoorRunAD
import Derived.Deep.QuietTactic
import Derived.BigQuiet
/- Things that are done, as rows of a call's own. -/
namespace Go.Proofs.YtkjlchfmplcobagGreatDoor
open Go.RowKit

theorem Tryz.info56b : (Tryz.prog.info? 56).map (fun i => (i.zero, i.size, i.bytes)) = some (some (.agg #[.int .i64 0, .int .i64 0, .int .i64 0, .slice none 0 0, .int .i64 0, .int .i64 0, .int .u8 0]), 7, 72) := by kernel_rfl
theorem own7_below {w w' : World} {base : Nat} {e : TypeId} {v : Value} {n N : Nat} {xs : List Value} (h : w.ownsRow base e 7 v n xs) (hb : Below N w w') (hN : w.heap.size ≤ N) : w'.ownsRow base e 7 v n xs :=
  h.kept (w' := w') (row := none) ⟨hb.os, hb.tape, hb.output, hb.size, fun k hk _ => hb.block k (Nat.lt_of_lt_of_le hk hN)⟩ (by cases v.ownBlock <;> simp)
theorem own7_form {w : World} {base : Nat} {e : TypeId} {v : Value} {n : Nat} {xs : List Value} (h : w.ownsRow base e 7 v n xs) : ∃ a c, v = .slice a n c := by
  rcases h.2 with ⟨hv, rfl⟩ | ⟨g, cap, cur, hv, -⟩
  · exact ⟨none, 0, hv⟩
  · exact ⟨_, cap, hv⟩
theorem own7_block {w : World} {base : Nat} {e : TypeId} {v : Value} {n : Nat} {xs : List Value} (h : w.ownsRow base e 7 v n xs) {q : Nat} (hq : v.ownBlock = some q) : base ≤ q := by
  rcases h.2 with ⟨e, -⟩ | ⟨g, cap, cur, e, hg, -⟩
  · rw [e] at hq; cases hq
  · rw [e] at hq; cases hq; exact hg
/-- A block of another type is no part of such a row. -/
theorem own7_apart {w : World} {base k n : Nat} {e t : TypeId} {v : Value} {xs : List Value} {c : Array Value} (ho : w.ownsRow base e 7 v n xs) (ht : t ≠ e) (hk : w.heap[k]? = some (.cells c t (0, 0))) : some k ≠ v.ownBlock := fun h => by
  rcases ho.2 with ⟨rfl, -⟩ | ⟨g, cap, cur, rfl, -, hh, -⟩
  · cases h
  · cases h
    rw [hh] at hk
    cases hk
    exact ht rfl
/-- The values of one thing that is done. -/
def ddV (x : Dd) (pa : Option Addr) (pc : Nat) : List Value := [.int .i64 x.kind, .int .i64 x.n, .int .i64 x.time, .slice pa x.entry.length pc, .int .i64 x.segment, .int .i64 x.at', .int .u8 x.by']
theorem ddV_one (x : Dd) (pa : Option Addr) (pc : Nat) : ∀ u ∈ ddV x pa pc, u.oneCell' = true := by
  intro u hu
  simp [ddV] at hu
  rcases hu with rfl | rfl | rfl | rfl | rfl | rfl | rfl <;> rfl
/-- The values of several, whose entries lie in the world w. -/
def DoEls (w : World) (vs : List Value) (l : List Dd) : Prop :=
  vs.length = l.length * 7 ∧ ∀ j, j < l.length → ∃ pa pc, Some' w (.slice pa (l.getD j dd0).entry.length pc) (l.getD j dd0).entry ∧ DdFit (l.getD j dd0) ∧ ∀ i, i < 7 → vs[j * 7 + i]? = (ddV (l.getD j dd0) pa pc)[i]?
theorem DoEls.snoc {w : World} {vs : List Value} {l : List Dd} {x : Dd} {pa : Option Addr} {pc : Nat} (h : DoEls w vs l) (hx : Some' w (.slice pa x.entry.length pc) x.entry) (hb : DdFit x) : DoEls w (vs ++ ddV x pa pc) (l ++ [x]) := by
  obtain ⟨hl, h⟩ := h
  refine ⟨by rw [List.length_append, List.length_append, hl]; show l.length * 7 + 7 = (l.length + 1) * 7; omega, fun j hj => ?_⟩
  by_cases e : j < l.length
  · obtain ⟨qa, qc, h1, h2, h3⟩ := h j e
    have eg : (l ++ [x]).getD j dd0 = l.getD j dd0 := by rw [snoc_get, if_pos e]
    rw [eg]
    refine ⟨qa, qc, h1, h2, fun i hi => ?_⟩
    rw [List.getElem?_append_left (by omega)]
    exact h3 i hi
  · obtain rfl : j = l.length := by simp at hj; omega
    have eg : (l ++ [x]).getD l.length dd0 = x := by rw [snoc_get, if_neg (Nat.lt_irrefl _), if_pos rfl]
    rw [eg]
    refine ⟨pa, pc, hx, hb, fun i hi => ?_⟩
    rw [List.getElem?_append_right (by omega), hl, show l.length * 7 + i - l.length * 7 = i by omega]
/-- A row of a call's own, read as things that are done. -/
theorem DoEls.dos {w w' : World} {base : Nat} {v : Value} {vs : List Value} {l : List Dd} (h : DoEls w vs l) (ho : w'.ownsRow base 56 7 v l.length vs) (hb : Below w.heap.size w w') : DosAt w' v l := by
  obtain ⟨hl, h⟩ := h
  rcases ho.2 with ⟨hv, hn⟩ | ⟨g, cap, cur, rfl, -, hg, h3, h4, -⟩
  · exact ⟨none, 0, by rw [hv, hn], by omega, Nat.zero_le _, fun _ => rfl, .inl hn⟩
  · refine ⟨_, cap, rfl, h3, h4, (fun e => by cases e), .inr ⟨g, 0, rfl, lt_heap hg, fun j hj => ?_⟩⟩
    obtain ⟨pa, pc, h1, h2, h5⟩ := h j hj
    have hc : ∀ i, i < 7 → w'.cell? ⟨g, 0 + j * 7 + i, none⟩ = (ddV (l.getD j dd0) pa pc)[i]? := fun i hi => by rw [Nat.zero_add]; exact (ho.cellAt (j * 7 + i) (by omega)).trans (h5 i hi)
    exact ⟨hc 0 (by omega), hc 1 (by omega), hc 2 (by omega), ⟨pa, pc, hc 3 (by omega), h1.below hb⟩, hc 4 (by omega), hc 5 (by omega), hc 6 (by omega), h2⟩
theorem lit_dd (w : World) (x : Dd) (pa : Option Addr) (pc : Nat) (t : TypeId) : ∀ (j : Nat) (u : Value), (ddV x pa pc)[j]? = some u → (w.alloc (.cells #[.int .i64 x.kind, .int .i64 x.n, .int .i64 x.time, .slice pa x.entry.length pc, .int .i64 x.segment, .int .i64 x.at', .int .u8 x.by'] t)).cell? ((⟨w.heap.size, 0, none⟩ : Addr).add j) = some u := fun j u hj => by
  have hadd : (⟨w.heap.size, 0, none⟩ : Addr).add j = ⟨w.heap.size, 0 + j, none⟩ := Addr.add_mid _ _ _
  rw [hadd, Nat.zero_add]
  rw [cell_of_row _ _ j _ t _ (box_new w _ t), ← hj]
  simp [ddV]

end Go.Proofs.YtkjlchfmplcobagGreatDoor

/- Windows and things to be done that a call makes: rows of its own. Nothing of the program's functions is in it. -/
namespace Go.Proofs.YtkjlchfmplcobagGreatDoor
open Go.RowKit

theorem Tryz.info57b : (Tryz.prog.info? 57).map (fun i => (i.zero, i.size, i.bytes)) = some (some (.agg #[.int .i64 0, .int .i64 0]), 2, 16) := by kernel_rfl
/-- Bytes that lie below B, or in a block of bytes, or none. -/
def Away (B : Nat) (w : World) (v : Value) (d : List Int) : Prop := d = [] ∨ ∀ g, v.ownBlock = some g → g < w.heap.size ∧ (g < B ∨ ∃ cs mk, w.heap[g]? = some (.cells cs 5 mk))
theorem away_ne {B n : Nat} {w : World} {v u : Value} {xs : List Value} (h : ∀ g, v.ownBlock = some g → g < w.heap.size ∧ (g < B ∨ ∃ cs mk, w.heap[g]? = some (.cells cs 5 mk))) (ho : w.ownsRow B 56 7 u n xs) : ∀ g, v.ownBlock = some g → u.ownBlock ≠ some g := fun g hv hu => by
  rcases ho.2 with ⟨e, -⟩ | ⟨q, cap, cur, e, hb, hh, -⟩
  · rw [e] at hu; cases hu
  · rw [e] at hu
    cases hu
    obtain ⟨-, h1 | ⟨cs, mk, h1⟩⟩ := h q hv
    · omega
    · rw [hh] at h1; cases h1
theorem Away.grown {B n : Nat} {w w' : World} {v u : Value} {d : List Int} {xs : List Value} (h : Away B w v d) (ho : w.ownsRow B 56 7 u n xs) (hg : w.grownBy w' u.ownBlock) : Away B w' v d := by
  rcases h with h | h
  · exact .inl h
  · have hne := away_ne h ho
    refine .inr (fun g hv => ?_)
    obtain ⟨h0, h1⟩ := h g hv
    refine ⟨Nat.lt_of_lt_of_le h0 hg.size, ?_⟩
    rcases h1 with h1 | ⟨cs, mk, h1⟩
    · exact .inl h1
    · exact .inr ⟨cs, mk, (hg.block g h0 (fun e => hne g hv e.symm)).trans h1⟩
theorem Away.below {B : Nat} {w w' : World} {v : Value} {d : List Int} (h : Away B w v d) (hb : Below w.heap.size w w') : Away B w' v d := by
  rcases h with h | h
  · exact .inl h
  · refine .inr (fun g hv => ?_)
    obtain ⟨h0, h1⟩ := h g hv
    refine ⟨Nat.lt_of_lt_of_le h0 hb.size, ?_⟩
    rcases h1 with h1 | ⟨cs, mk, h1⟩
    · exact .inl h1
    · exact .inr ⟨cs, mk, (hb.block g h0).trans h1⟩
theorem away_nil (B : Nat) (w : World) (n c : Nat) : Away B w (.slice none n c) [] := .inl rfl
theorem Some'.away {B n : Nat} {w w' : World} {v u : Value} {d : List Int} {xs : List Value} (h : Some' w v d) (ha : Away B w v d) (ho : w.ownsRow B 56 7 u n xs) (g : w.grownBy w' u.ownBlock) : Some' w' v d := by
  refine ⟨?_, h.bytes, h.short⟩
  rcases h.at' with h1 | ⟨b, off, cp, h1, h2, h3⟩
  · exact .inl h1
  · rcases ha with rfl | ha
    · exact .inl ⟨rfl, _, _, h1, fun e => by cases e⟩
    · refine .inr ⟨b, off, cp, h1, Nat.lt_of_lt_of_le h2 g.size, fun j hj => ?_⟩
      have hne := away_ne ha ho b (by rw [h1]; rfl)
      rw [World.cell?_of_block (a := ⟨b, off + j, none⟩) (g.block b h2 (fun e => hne e.symm))]
      exact h3 j hj
/-- The values of things to be done, with entries that stay. -/
def DoB (B : Nat) (w : World) (vs : List Value) (l : List Dd) : Prop :=
  vs.length = l.length * 7 ∧ ∀ j, j < l.length → ∃ pa pc, Some' w (.slice pa (l.getD j dd0).entry.length pc) (l.getD j dd0).entry ∧ Away B w (.slice pa (l.getD j dd0).entry.length pc) (l.getD j dd0).entry ∧ DdFit (l.getD j dd0) ∧ ∀ i, i < 7 → vs[j * 7 + i]? = (ddV (l.getD j dd0) pa pc)[i]?
theorem doB_nil (B : Nat) (w : World) : DoB B w [] [] := ⟨rfl, fun _ hj => absurd hj (Nat.not_lt_zero _)⟩
theorem DoB.below {B : Nat} {w w' : World} {vs : List Value} {l : List Dd} (h : DoB B w vs l) (hb : Below w.heap.size w w') : DoB B w' vs l := ⟨h.1, fun j hj => by
  obtain ⟨pa, pc, h1, h2, h3⟩ := h.2 j hj
  exact ⟨pa, pc, h1.below hb, h2.below hb, h3⟩⟩
theorem DoB.grown {B n : Nat} {w w' : World} {vs : List Value} {l : List Dd} {u : Value} {xs : List Value} (h : DoB B w vs l) (ho : w.ownsRow B 56 7 u n xs) (hg : w.grownBy w' u.ownBlock) : DoB B w' vs l := ⟨h.1, fun j hj => by
  obtain ⟨pa, pc, h1, h2, h3⟩ := h.2 j hj
  exact ⟨pa, pc, h1.away h2 ho hg, h2.grown ho hg, h3⟩⟩
theorem DoB.snoc {B : Nat} {w : World} {vs : List Value} {l : List Dd} {x : Dd} {pa : Option Addr} {pc : Nat} (h : DoB B w vs l) (hx : Some' w (.slice pa x.entry.length pc) x.entry) (ha : Away B w (.slice pa x.entry.length pc) x.entry) (hb : DdFit x) : DoB B w (vs ++ ddV x pa pc) (l ++ [x]) := by
  obtain ⟨hl, h⟩ := h
  refine ⟨by rw [List.length_append, List.length_append, hl]; show l.length * 7 + 7 = (l.length + 1) * 7; omega, fun j hj => ?_⟩
  by_cases e : j < l.length
  · obtain ⟨qa, qc, h1, h2, h3, h4⟩ := h j e
    have eg : (l ++ [x]).getD j dd0 = l.getD j dd0 := by rw [snoc_get, if_pos e]
    rw [eg]
    refine ⟨qa, qc, h1, h2, h3, fun i hi => ?_⟩
    rw [List.getElem?_append_left (by omega)]
    exact h4 i hi
  · obtain rfl : j = l.length := by simp at hj; omega
    have eg : (l ++ [x]).getD l.length dd0 = x := by rw [snoc_get, if_neg (Nat.lt_irrefl _), if_pos rfl]
    rw [eg]
    refine ⟨pa, pc, hx, ha, hb, fun i hi => ?_⟩
    rw [List.getElem?_append_right (by omega), hl, show l.length * 7 + i - l.length * 7 = i by omega]
theorem DoB.dos {B b : Nat} {w : World} {v : Value} {vs : List Value} {l : List Dd} (h : DoB B w vs l) (ho : w.ownsRow b 56 7 v l.length vs) : DosAt w v l :=
  DoEls.dos (w := w) ⟨h.1, fun j hj => by obtain ⟨pa, pc, h1, -, h2, h3⟩ := h.2 j hj; exact ⟨pa, pc, h1, h2, h3⟩⟩ ho (Below.refl _ _)
/-- The values of windows. -/
def winV (x : Win) : List Value := [.int .i64 x.a, .int .i64 x.b]
def WinEls (vs : List Value) (l : List Win) : Prop := vs.length = l.length * 2 ∧ ∀ j, j < l.length → ∀ i, i < 2 → vs[j * 2 + i]? = (winV (l.getD j win0))[i]?
theorem winEls_nil : WinEls [] [] := ⟨rfl, fun _ hj => absurd hj (Nat.not_lt_zero _)⟩
theorem WinEls.snoc {vs : List Value} {l : List Win} {x : Win} (h : WinEls vs l) : WinEls (vs ++ winV x) (l ++ [x]) := by
  obtain ⟨hl, h⟩ := h
  refine ⟨by rw [List.length_append, List.length_append, hl]; show l.length * 2 + 2 = (l.length + 1) * 2; omega, fun j hj i hi => ?_⟩
  by_cases e : j < l.length
  · rw [snoc_get, if_pos e, List.getElem?_append_left (by omega)]
    exact h j e i hi
  · obtain rfl : j = l.length := by simp at hj; omega
    rw [snoc_get, if_neg (Nat.lt_irrefl _), if_pos rfl, List.getElem?_append_right (by omega), hl, show l.length * 2 + i - l.length * 2 = i by omega]
theorem WinEls.wins {b : Nat} {w : World} {v : Value} {vs : List Value} {l : List Win} (h : WinEls vs l) (ho : w.ownsRow b 57 2 v l.length vs) : WinsAt w v l := by
  rcases ho.2 with ⟨hv, hn⟩ | ⟨g, cap, cur, rfl, -, hg, h3, h4, -⟩
  · exact ⟨none, 0, by rw [hv, hn], by omega, Nat.zero_le _, fun _ => rfl, .inl hn⟩
  · refine ⟨_, cap, rfl, h3, h4, (fun e => by cases e), .inr ⟨g, 0, rfl, lt_heap hg, fun j hj => ?_⟩⟩
    have hc : ∀ i, i < 2 → w.cell? ⟨g, 0 + j * 2 + i, none⟩ = (winV (l.getD j win0))[i]? := fun i hi => by rw [Nat.zero_add]; exact (ho.cellAt (j * 2 + i) (by have := h.1; omega)).trans (h.2 j hj i hi)
    exact ⟨hc 0 (by omega), hc 1 (by omega)⟩
theorem own2_form {w : World} {base : Nat} {e : TypeId} {size : Nat} {v : Value} {n : Nat} {xs : List Value} (h : w.ownsRow base e size v n xs) : ∃ a c, v = .slice a n c := by
  rcases h.2 with ⟨hv, rfl⟩ | ⟨g, cap, cur, hv, -⟩
  · exact ⟨none, 0, hv⟩
  · exact ⟨_, cap, hv⟩
theorem lit_win (w : World) (x : Win) (t : TypeId) : ∀ (j : Nat) (u : Value), (winV x)[j]? = some u → (w.alloc (.cells #[.int .i64 x.a, .int .i64 x.b] t)).cell? ((⟨w.heap.size, 0, none⟩ : Addr).add j) = some u := fun j u hj => by
  have hadd : (⟨w.heap.size, 0, none⟩ : Addr).add j = ⟨w.heap.size, 0 + j, none⟩ := Addr.add_mid _ _ _
  rw [hadd, Nat.zero_add, cell_of_row _ _ j _ t _ (box_new w _ t), ← hj]
  simp [winV]

end Go.Proofs.YtkjlchfmplcobagGreatDoor

/- The small fleet that each law of chapter 7 asks first. -/
namespace Go.Proofs.YtkjlchfmplcobagGreatDoor

def doD (kind n : Int) : Dd := ⟨kind, n, 0, [], 0, 0, 0⟩
def subD (time : Int) (b : List Int) : Dd := ⟨1, 0, time, b, 0, 0, 0⟩
end Go.Proofs.YtkjlchfmplcobagGreatDoor

/- Chapter 7's mathematics: years. -/
namespace Go.Proofs.YtkjlchfmplcobagGreatDoor

/-- A shard with another state, other entries and another manifest. -/
abbrev upd (s : Shd) (st : Int) (es : List (List Int)) (m : Man) : Shd := ⟨s.from', s.to', st, es, m⟩
def subsL (t : Int) (es : List (List Int)) : List Dd := es.map (fun e => subD t e)
/-- Answers to entries that come behind n others. -/
def placesL (k n : Nat) (es : List (List Int)) : List Ans := (List.range es.length).map (fun i => ⟨0, (k : Int), ((n + i : Nat) : Int), 0, []⟩)
theorem place_absent {es : List (List Int)} {e : List Int} (h : e ∉ es) : placeOf es e = none :=
  find_none (fun j hj => decide_eq_false (fun g => h (by rw [← g, List.getD_eq_getElem?_getD, List.getElem?_eq_getElem hj]; exact List.getElem_mem hj)))
theorem sub_new {f : Flt} {k : Nat} {t : Int} {e : List Int} (hh : homeOf f.shards t = some k) (h1 : (f.shards.getD k shd0).state = 1) (hn : e ∉ (f.shards.getD k shd0).entries) (h200 : e.length ≤ 200) (h100 : (f.shards.getD k shd0).entries.length < 100) :
    stepL f (subD t e) = (f.put k (upd (f.shards.getD k shd0) ((f.shards.getD k shd0).state) ((f.shards.getD k shd0).entries ++ [e]) ((f.shards.getD k shd0).man)), ⟨0, (k : Int), ((f.shards.getD k shd0).entries.length : Int), 0, []⟩) := by
  unfold stepL
  rw [if_pos (show (subD t e).kind = 1 from rfl)]
  unfold submitL
  rw [if_neg (show ¬ 200 < (subD t e).entry.length from show ¬ 200 < e.length by omega)]
  have hh' : homeOf f.shards (subD t e).time = some k := hh
  rw [hh']
  dsimp only
  rw [if_neg (fun g => g h1)]
  have hp : placeOf (f.shards.getD k shd0).entries (subD t e).entry = none := place_absent hn
  rw [hp]
  dsimp only
  rw [if_neg (by omega)]
  rfl
theorem run_subs {k : Nat} {t : Int} : ∀ (es : List (List Int)) (f : Flt), homeOf f.shards t = some k → (f.shards.getD k shd0).state = 1 → es.Nodup → (∀ e ∈ es, e ∉ (f.shards.getD k shd0).entries) → (∀ e ∈ es, e.length ≤ 200) → (f.shards.getD k shd0).entries.length + es.length ≤ 100 →
    runL f (subsL t es) = (f.put k (upd (f.shards.getD k shd0) ((f.shards.getD k shd0).state) ((f.shards.getD k shd0).entries ++ es) ((f.shards.getD k shd0).man)), placesL k (f.shards.getD k shd0).entries.length es)
  | [], f, hh, _, _, _, _, _ => by
    obtain ⟨hk, -, -⟩ := home_some hh
    show (f, []) = _
    refine Prod.ext ?_ rfl
    show f = Flt.mk (f.shards.set k _) f.book
    rw [List.append_nil, set_same hk]
  | e :: es, f, hh, h1, hd, hn, h200, h100 => by
    obtain ⟨hk, -, -⟩ := home_some hh
    rw [List.length_cons] at h100
    have hstep := sub_new hh h1 (hn e (by simp)) (h200 e (by simp)) (by omega)
    obtain ⟨g, hg⟩ : ∃ g, g = f.put k (upd (f.shards.getD k shd0) ((f.shards.getD k shd0).state) ((f.shards.getD k shd0).entries ++ [e]) ((f.shards.getD k shd0).man)) := ⟨_, rfl⟩
    rw [← hg] at hstep
    have hgk : g.shards.getD k shd0 = (upd (f.shards.getD k shd0) ((f.shards.getD k shd0).state) ((f.shards.getD k shd0).entries ++ [e]) ((f.shards.getD k shd0).man)) := by rw [hg]; exact getD_set_same hk
    have hgh : homeOf g.shards t = some k := by rw [hg]; exact (home_put (l := f.shards) (k := k) (s := upd (f.shards.getD k shd0) ((f.shards.getD k shd0).state) ((f.shards.getD k shd0).entries ++ [e]) ((f.shards.getD k shd0).man)) ⟨rfl, rfl⟩ t).trans hh
    have ih := run_subs (k := k) (t := t) es g hgh (by rw [hgk]; exact h1) (List.nodup_cons.1 hd).2 (fun x hx => by
      rw [hgk]
      intro hm
      rcases List.mem_append.1 hm with q | q
      · exact hn x (by simp [hx]) q
      · rw [List.mem_singleton.1 q] at hx
        exact (List.nodup_cons.1 hd).1 hx) (fun x hx => h200 x (by simp [hx])) (by rw [hgk]; show ((f.shards.getD k shd0).entries ++ [e]).length + _ ≤ 100; rw [List.length_append, List.length_singleton]; omega)
    show ((runL (stepL f (subD t e)).1 (subsL t es)).1, (stepL f (subD t e)).2 :: (runL (stepL f (subD t e)).1 (subsL t es)).2) = _
    rw [hstep]
    dsimp only
    rw [ih, hgk]
    dsimp only
    refine Prod.ext ?_ ?_
    · show Flt.mk (g.shards.set k _) g.book = Flt.mk (f.shards.set k _) f.book
      rw [hg]
      show Flt.mk ((f.shards.set k _).set k _) f.book = _
      rw [List.set_set, List.append_assoc]
      rfl
    · show _ :: placesL k _ es = placesL k _ (e :: es)
      unfold placesL
      rw [List.length_cons, List.range_succ_eq_map, List.map_cons, List.map_map]
      congr 1
      refine List.map_congr_left (fun i _ => ?_)
      rw [List.length_append, List.length_singleton]
      show Ans.mk _ _ _ _ _ = Ans.mk _ _ _ _ _
      congr 2
      omega
/-- A year: entries come, and the shard is frozen, laid away, retired, as far as said. -/
def yearL (k : Nat) (es : List (List Int)) (far : Nat) : List Dd := subsL (10 * (k : Int) + 5) es ++ ([doD 2 k, doD 3 k, doD 4 k].take far)
def winsL (n : Nat) : List Win := (List.range n).map (fun (k : Nat) => ⟨10 * (k : Int), 10 * (k : Int) + 10⟩)
/-- Entries that may be taken. -/
structure Unlike (es : List (List Int)) : Prop where
  nodup : es.Nodup
  short : ∀ e ∈ es, e.length ≤ 200
  few : es.length ≤ 30
theorem freeze_step {f : Flt} {k : Nat} (hk : k < f.shards.length) (h1 : (f.shards.getD k shd0).state = 1) : stepL f (doD 2 k) = (⟨f.shards.set k (upd (f.shards.getD k shd0) (2) ((f.shards.getD k shd0).entries) ((f.shards.getD k shd0).man)), f.book ++ [⟨(k : Int), (f.shards.getD k shd0).from', (f.shards.getD k shd0).to', ((f.shards.getD k shd0).entries.length : Int), mth (f.shards.getD k shd0).entries⟩]⟩, ⟨0, (k : Int), 0, ((f.shards.getD k shd0).entries.length : Int), mth (f.shards.getD k shd0).entries⟩) := by
  unfold stepL
  rw [if_neg (show ¬ (doD 2 k).kind = 1 from show ¬ (2 : Int) = 1 by decide), if_neg (show ¬ ((doD 2 k).kind < 2 ∨ 5 < (doD 2 k).kind) from show ¬ ((2 : Int) < 2 ∨ 5 < (2 : Int)) by decide), if_neg (show ¬ ((doD 2 k).n < 0 ∨ (f.shards.length : Int) ≤ (doD 2 k).n) from show ¬ ((k : Int) < 0 ∨ (f.shards.length : Int) ≤ (k : Int)) by omega)]
  have : (doD 2 k).n.toNat = k := rfl
  rw [this, if_neg (fun g => g h1)]
  rfl
theorem export_step {f : Flt} {k : Nat} (hk : k < f.shards.length) (h2 : (f.shards.getD k shd0).state = 2) (hw : wrongL (f.shards.getD k shd0).entries = (0, 0)) : stepL f (doD 3 k) = (f.put k (upd (f.shards.getD k shd0) (3) ((f.shards.getD k shd0).entries) (exportL (f.shards.getD k shd0).entries)), ⟨0, (k : Int), 0, (exportL (f.shards.getD k shd0).entries).size, (exportL (f.shards.getD k shd0).entries).root⟩) := by
  unfold stepL
  rw [if_neg (show ¬ (doD 3 k).kind = 1 from show ¬ (3 : Int) = 1 by decide), if_neg (show ¬ ((doD 3 k).kind < 2 ∨ 5 < (doD 3 k).kind) from show ¬ ((3 : Int) < 2 ∨ 5 < (3 : Int)) by decide), if_neg (show ¬ ((doD 3 k).n < 0 ∨ (f.shards.length : Int) ≤ (doD 3 k).n) from show ¬ ((k : Int) < 0 ∨ (f.shards.length : Int) ≤ (k : Int)) by omega)]
  have : (doD 3 k).n.toNat = k := rfl
  rw [this, if_neg (fun g => g h2)]
  unfold stepAt
  dsimp only
  rw [if_neg (show ¬ (doD 3 k).kind = 2 from show ¬ (3 : Int) = 2 by decide), if_pos (show (doD 3 k).kind = 3 from rfl), hw, if_neg (fun g => g rfl)]
theorem retire_do {f : Flt} {k : Nat} (hk : k < f.shards.length) (h3 : (f.shards.getD k shd0).state = 3) : stepL f (doD 4 k) = if (verifyL (f.shards.getD k shd0).man).2.1 ≠ 0 then (f, no (verifyL (f.shards.getD k shd0).man).2.1) else (f.put k (upd (f.shards.getD k shd0) (4) ([]) ((f.shards.getD k shd0).man)), ⟨0, (k : Int), 0, (f.shards.getD k shd0).man.size, (f.shards.getD k shd0).man.root⟩) := by
  unfold stepL
  rw [if_neg (show ¬ (doD 4 k).kind = 1 from show ¬ (4 : Int) = 1 by decide), if_neg (show ¬ ((doD 4 k).kind < 2 ∨ 5 < (doD 4 k).kind) from show ¬ ((4 : Int) < 2 ∨ 5 < (4 : Int)) by decide), if_neg (show ¬ ((doD 4 k).n < 0 ∨ (f.shards.length : Int) ≤ (doD 4 k).n) from show ¬ ((k : Int) < 0 ∨ (f.shards.length : Int) ≤ (k : Int)) by omega)]
  have : (doD 4 k).n.toNat = k := rfl
  rw [this, if_neg (fun g => g h3)]
  rfl
/-- A shard as far as said. -/
def yearS (s : Shd) (es : List (List Int)) (far : Nat) : Shd :=
  match far with
  | 0 => (upd s (s.state) (es) (s.man))
  | 1 => (upd s (2) (es) (s.man))
  | 2 => (upd s (3) (es) (exportL es))
  | _ => (upd s (4) ([]) (exportL es))
def yearA (k : Nat) (es : List (List Int)) (far : Nat) : List Ans := placesL k 0 es ++ (List.replicate (min far 3) ⟨0, (k : Int), 0, (es.length : Int), mth es⟩)
theorem Unlike.wrong {es : List (List Int)} (h : Unlike es) : wrongL es = (0, 0) := wrong_zero (by have := h.few; omega) (fun j => by
  by_cases hj : j < es.length
  · rw [List.getD_eq_getElem?_getD, List.getElem?_eq_getElem hj]; exact h.short _ (List.getElem_mem hj)
  · rw [List.getD_eq_getElem?_getD, List.getElem?_eq_none (by omega)]; simp)
theorem Unlike.export {es : List (List Int)} (h : Unlike es) : exportL es = ⟨es.length, mth es, segsL es⟩ := by unfold exportL; rw [h.wrong, if_neg (fun g => g rfl)]
theorem Unlike.verify {es : List (List Int)} (h : Unlike es) : verifyL (exportL es) = (es, 0, 0) := by rw [h.export]; exact verify_export (by have := h.few; omega) h.short
theorem run_year {f : Flt} {k : Nat} {es : List (List Int)} (hu : Unlike es) (hh : homeOf f.shards (10 * (k : Int) + 5) = some k) (h1 : (f.shards.getD k shd0).state = 1) (h0 : (f.shards.getD k shd0).entries = []) {far : Nat} (hf1 : 1 ≤ far) (hf3 : far ≤ 3) :
    runL f (yearL k es far) = (⟨f.shards.set k (yearS (f.shards.getD k shd0) es far), f.book ++ [⟨(k : Int), (f.shards.getD k shd0).from', (f.shards.getD k shd0).to', (es.length : Int), mth es⟩]⟩, yearA k es far) := by
  obtain ⟨hk, -, -⟩ := home_some hh
  have hs := run_subs es f hh h1 hu.nodup (fun e _ => by rw [h0]; simp) hu.short (by rw [h0]; have := hu.few; simp; omega)
  rw [h0, List.nil_append] at hs
  unfold yearL
  rw [runL_append, hs]
  dsimp only
  obtain ⟨S, hS⟩ : ∃ S, S = f.shards.getD k shd0 := ⟨_, rfl⟩
  rw [← hS] at h1 h0 ⊢
  -- frozen
  have e1 : (f.put k (upd S (S.state) (es) (S.man))).shards.getD k shd0 = (upd S (S.state) (es) (S.man)) := getD_set_same hk
  have s1 := freeze_step (f := f.put k (upd S (S.state) (es) (S.man))) (k := k) (by show k < (f.shards.set k _).length; rw [List.length_set]; exact hk) (by rw [e1]; exact h1)
  rw [e1] at s1
  have f1 : (f.put k (upd S (S.state) (es) (S.man))).shards.set k (upd S (2) (es) (S.man)) = f.shards.set k (upd S (2) (es) (S.man)) := List.set_set ..
  dsimp only at s1
  rw [f1] at s1
  have hx := hu.export
  have harc : far = 1 ∨ far = 2 ∨ far = 3 := by omega
  rcases harc with rfl | rfl | rfl
  · show ((runL _ [doD 2 k]).1, _ ++ (runL _ [doD 2 k]).2) = _
    simp only [runL, s1]
    rfl
  · have e2 : (⟨f.shards.set k (upd S (2) (es) (S.man)), (f.put k (upd S (S.state) (es) (S.man))).book ++ [⟨(k : Int), S.from', S.to', (es.length : Int), mth es⟩]⟩ : Flt).shards.getD k shd0 = (upd S (2) (es) (S.man)) := getD_set_same hk
    have s2 := export_step (f := ⟨f.shards.set k (upd S (2) (es) (S.man)), (f.put k (upd S (S.state) (es) (S.man))).book ++ [⟨(k : Int), S.from', S.to', (es.length : Int), mth es⟩]⟩) (k := k) (by show k < (f.shards.set k _).length; rw [List.length_set]; exact hk) (by rw [e2]) (by rw [e2]; exact hu.wrong)
    rw [e2] at s2
    show ((runL _ [doD 2 k, doD 3 k]).1, _ ++ (runL _ [doD 2 k, doD 3 k]).2) = _
    simp only [runL, s1, s2]
    refine Prod.ext ?_ ?_
    · show Flt.mk ((f.shards.set k _).set k _) _ = Flt.mk _ _
      rw [List.set_set]
      rfl
    · show _ ++ [_, _] = placesL k 0 es ++ [_, _]
      rw [hx]
      rfl
  · have e2 : (⟨f.shards.set k (upd S (2) (es) (S.man)), (f.put k (upd S (S.state) (es) (S.man))).book ++ [⟨(k : Int), S.from', S.to', (es.length : Int), mth es⟩]⟩ : Flt).shards.getD k shd0 = (upd S (2) (es) (S.man)) := getD_set_same hk
    have s2 := export_step (f := ⟨f.shards.set k (upd S (2) (es) (S.man)), (f.put k (upd S (S.state) (es) (S.man))).book ++ [⟨(k : Int), S.from', S.to', (es.length : Int), mth es⟩]⟩) (k := k) (by show k < (f.shards.set k _).length; rw [List.length_set]; exact hk) (by rw [e2]) (by rw [e2]; exact hu.wrong)
    rw [e2] at s2
    dsimp only at s2
    obtain ⟨F2, hF2⟩ : ∃ F2, F2 = (⟨f.shards.set k (upd S (2) (es) (S.man)), (f.put k (upd S (S.state) (es) (S.man))).book ++ [⟨(k : Int), S.from', S.to', (es.length : Int), mth es⟩]⟩ : Flt).put k (upd S (3) (es) (exportL es)) := ⟨_, rfl⟩
    rw [← hF2] at s2
    have e3 : F2.shards.getD k shd0 = (upd S (3) (es) (exportL es)) := by rw [hF2]; exact getD_set_same (by show k < (f.shards.set k _).length; rw [List.length_set]; exact hk)
    have s3 := retire_do (f := F2) (k := k) (by rw [hF2]; show k < ((f.shards.set k _).set k _).length; rw [List.length_set, List.length_set]; exact hk) (by rw [e3])
    rw [e3] at s3
    dsimp only at s3
    rw [hu.verify, if_neg (fun g => g rfl)] at s3
    show ((runL _ [doD 2 k, doD 3 k, doD 4 k]).1, _ ++ (runL _ [doD 2 k, doD 3 k, doD 4 k]).2) = _
    simp only [runL, s1, s2, s3]
    refine Prod.ext ?_ ?_
    · rw [hF2]
      show Flt.mk (((f.shards.set k _).set k _).set k _) _ = Flt.mk _ _
      rw [List.set_set, List.set_set]
      rfl
    · show _ ++ [_, _, _] = placesL k 0 es ++ [_, _, _]
      rw [hx]
      rfl

end Go.Proofs.YtkjlchfmplcobagGreatDoor

/- The walks of yeartop.do, yeartop.windows and yeartop.year. -/
namespace Go.Proofs.YtkjlchfmplcobagGreatDoor
open Go.RowKit

set_option maxRecDepth 100000 in
theorem topDo_any (kind n : Int) (w : World) :
    Calls Tryz.prog 35 #[.int .i64 kind, .int .i64 n] w fun e w' => e = .returned (.agg #[.int .i64 kind, .int .i64 n, .int .i64 0, .slice none 0 0, .int .i64 0, .int .i64 0, .int .u8 0]) ∧ Below w.heap.size w w' := by
  have b0 : Below w.heap.size w (w.alloc (.cells #[.int .i64 kind, .int .i64 n, .int .i64 0, .slice none 0 0, .int .i64 0, .int .i64 0, .int .u8 0] 56)) := (Below.refl _ _).alloc (Nat.le_refl _) _
  go_enter Tryz.func35, Tryz.ntmps35
  go_wp2_with fail
  exact bodyPost_ret (v := .agg #[.int .i64 kind, .int .i64 n, .int .i64 0, .slice none 0 0, .int .i64 0, .int .i64 0, .int .u8 0]) (by simp [results, Tryz.results35, go_sem]) rfl ⟨rfl, b0⟩
theorem winsL_length (n : Nat) : (winsL n).length = n := by simp [winsL]
theorem winsL_snoc (n : Nat) : winsL (n + 1) = winsL n ++ [⟨10 * (n : Int), 10 * (n : Int) + 10⟩] := by unfold winsL; rw [List.range_succ, List.map_append]; rfl
set_option maxRecDepth 100000 in
set_option maxHeartbeats 1000000 in
theorem windows_any (n : Nat) (h8 : n ≤ 8) (w : World) :
    Calls Tryz.prog 14 #[.int .i64 (n : Int)] w fun e w' => ∃ va vc, e = .returned (.slice va n vc) ∧ WinsAt w' (.slice va n vc) (winsL n) ∧ Below w.heap.size w w' := by
  obtain ⟨i0, hi0, hz0, hz1, hz2⟩ := info_parts Tryz.info57b
  go_enter Tryz.func14, Tryz.ntmps14
  go_wp2_with fail
  go_loopw [3, 6] (fun gv kv wr => ∃ (j : Nat) (va : Option Addr) (vc : Nat) (vs : List Value), j ≤ n ∧ kv = .int .i64 j ∧ gv = .slice va j vc ∧ wr.ownsRow w.heap.size 57 2 (.slice va j vc) j vs ∧ Hid (WinEls vs (winsL j)) ∧ Below w.heap.size w wr) (fun _ kv _ => n - (intOf kv).toNat)
  case atStart => exact ⟨0, none, 0, [], Nat.zero_le _, rfl, rfl, World.ownsRow_nil _ _ _ _, winEls_nil, Below.refl _ _⟩
  case round =>
    obtain ⟨wo, rfl⟩ : ∃ x, x = wr := ⟨wr, rfl⟩
    obtain ⟨j, va, vc, vs, hj, rfl, rfl, hrow, HW, hbr⟩ := hrel
    have hsr := hbr.size
    by_cases hlt : j < n
    · have hlt' : (j : Int) < n := by omega
      have HW2 : Hid (WinEls (vs ++ winV ⟨10 * (j : Int), 10 * (j : Int) + 10⟩) (winsL (j + 1))) := by show WinEls _ _; rw [winsL_snoc]; exact HW.out.snoc
      have m1 : wrap64 (10 * (j : Int)) = 10 * (j : Int) := by unfold wrap64; omega
      have m2 : wrap64 (10 * (j : Int) + 10) = 10 * (j : Int) + 10 := by unfold wrap64; omega
      have hrowA := hrow.alloc (.cells #[.int .i64 (10 * (j : Int)), .int .i64 (10 * (j : Int) + 10)] 57)
      have hnew := lit_win wo ⟨10 * (j : Int), 10 * (j : Int) + 10⟩ 57
      have bA : Below w.heap.size w (wo.alloc (.cells #[.int .i64 (10 * (j : Int)), .int .i64 (10 * (j : Int) + 10)] 57)) := hbr.alloc hsr _
      have hsA := bA.size
      have hone : ∀ u ∈ winV ⟨10 * (j : Int), 10 * (j : Int) + 10⟩, u.oneCell' = true := by intro u hu; simp [winV] at hu; rcases hu with rfl | rfl <;> rfl
      clear hrow HW
      go_wp2_with (at_builtin; refine wpList_append_own _ rfl (.tmp 9) (.tmp 16) 22 rfl w.heap.size 57 i0 _ 2 16 Tryz.underlying22 hi0 hz0 hz1 hz2 rfl (by decide) _ _ _ rfl hrowA ⟨wo.heap.size, 0, none⟩ 1 1 _ rfl rfl hnew hone (by unfold maxLen; omega) (by omega) hsA ?_; intro v7 w7 ho7 hg7 _; obtain ⟨ga, gc, rfl⟩ := own2_form ho7)
      have b7 : Below w.heap.size w w7 := bA.grown hg7 hsA (fun _ h => (hrowA.lt _ h).1)
      go_roundw
      case rel => exact ⟨j + 1, ga, gc, _, by omega, by go_num, rfl, ho7, HW2, b7⟩
      case measure => simp [intOf]; omega
    · obtain rfl : j = n := by omega
      have hnl : ¬ (j : Int) < j := by omega
      have HG : Hid (WinsAt wo (.slice va j vc) (winsL j)) := HW.out.wins (by rw [winsL_length]; exact hrow)
      clear hrow HW
      go_wp2_with fail
      go_ret
      exact ⟨va, vc, rfl, HG.out, hbr⟩
/-- Entries as they come in, that stay as they are while the row u grows. -/
def Stay (B : Nat) (u : Value) (w : World) (ea : Option Addr) (n c : Nat) (es : List (List Int)) : Prop :=
  ∀ w', Below B w w' → w.heap.size ≤ w'.heap.size → (∀ k, k < w.heap.size → u.ownBlock ≠ some k → w'.heap[k]? = w.heap[k]?) → Lists w' ea n c es ∧ ∀ j b off pa m pc, j < n → ea = some ⟨b, off, none⟩ → w'.cell? ⟨b, off + j, none⟩ = some (.slice pa m pc) → Away B w' (.slice pa m pc) (es.getD j [])
/-- The row so far. -/
def YearI (B : Nat) (w : World) (u : Value) (wr : World) (v : Value) (l : List Dd) : Prop := ∃ va vc vs, v = .slice va l.length vc ∧ wr.ownsRow B 56 7 v l.length vs ∧ DoB B wr vs l ∧ (v.ownBlock = u.ownBlock ∨ ∀ g, v.ownBlock = some g → w.heap.size ≤ g) ∧ (∀ k, k < w.heap.size → u.ownBlock ≠ some k → wr.heap[k]? = w.heap[k]?) ∧ Below B w wr ∧ w.heap.size ≤ wr.heap.size
theorem subs_snoc (t : Int) (es : List (List Int)) {j : Nat} (h : j < es.length) : subsL t (es.take (j + 1)) = subsL t (es.take j) ++ [subD t (es.getD j [])] := by
  unfold subsL
  rw [List.take_add_one, List.getElem?_eq_getElem h, List.map_append, List.getD_eq_getElem?_getD, List.getElem?_eq_getElem h]; rfl

theorem YearI.call {B : Nat} {w wr w' : World} {u v : Value} {l : List Dd} (h : YearI B w u wr v l) (hb : Below wr.heap.size wr w') (hB : B ≤ w.heap.size) : YearI B w u w' v l := by
  obtain ⟨va, vc, vs, h1, h2, h3, h4, h5, h6, h7⟩ := h
  exact ⟨va, vc, vs, h1, own7_below h2 hb (Nat.le_refl _), h3.below hb, h4, fun k hk hu => (hb.block k (Nat.lt_of_lt_of_le hk h7)).trans (h5 k hk hu), h6.trans (hb.mono (Nat.le_trans hB h7)), Nat.le_trans h7 hb.size⟩
/-- One thing more. -/
theorem YearI.more {B : Nat} {w wr w6 : World} {u : Value} {va : Option Addr} {n vc g cap : Nat} {l : List Dd} {x : Dd} {pa : Option Addr} {pc : Nat} {o : Obj} {vs : List Value} (hn : l.length = n) (hrow : wr.ownsRow B 56 7 (.slice va n vc) n vs) (hD : DoB B wr vs l) (hw : (Value.slice va n vc).ownBlock = u.ownBlock ∨ ∀ g, (Value.slice va n vc).ownBlock = some g → w.heap.size ≤ g) (hk : ∀ k, k < w.heap.size → u.ownBlock ≠ some k → wr.heap[k]? = w.heap[k]?) (hb : Below B w wr) (hs : w.heap.size ≤ wr.heap.size) (hB : B ≤ w.heap.size)
    (hx : Some' wr (.slice pa x.entry.length pc) x.entry) (ha : Away B wr (.slice pa x.entry.length pc) x.entry) (hf : DdFit x)
    (hg6 : (wr.alloc o).grownBy w6 (Value.slice va n vc).ownBlock) (ho6 : w6.ownsRow B 56 7 (.slice (some ⟨g, 0, none⟩) (n + 1) cap) (n + 1) (vs ++ ddV x pa pc)) (ha6 : (Value.slice va n vc).ownBlock = some g ∨ g = (wr.alloc o).heap.size) :
    YearI B w u w6 (.slice (some ⟨g, 0, none⟩) (n + 1) cap) (l ++ [x]) := by
  have bA : Below wr.heap.size wr (wr.alloc o) := (Below.refl _ _).alloc (Nat.le_refl _) _
  have hrowA := hrow.alloc o
  have hDA := (hD.below bA).snoc (hx.below bA) (ha.below bA) hf
  have hl1 : (l ++ [x]).length = n + 1 := by rw [List.length_append, hn]; rfl
  refine ⟨_, cap, _, by rw [hl1], by rw [hl1]; exact ho6, hDA.grown hrowA hg6, ?_, fun k hk' hu => ?_, ?_, ?_⟩
  · rcases ha6 with h | h
    · rcases hw with h' | h'
      · exact .inl (by rw [← h', h]; rfl)
      · exact .inr (fun q hq => by cases hq; exact h' g h)
    · exact .inr (fun q hq => by cases hq; show w.heap.size ≤ g; have := bA.size; omega)
  · have hlt : k < (wr.alloc o).heap.size := by have := bA.size; omega
    rw [hg6.block k hlt (fun e => by
      rcases hw with h' | h'
      · exact hu (by rw [← h', ← e])
      · have := h' k e.symm; omega)]
    rw [bA.block k (by omega)]
    exact hk k hk' hu
  · exact (hb.trans (bA.mono (Nat.le_trans hB hs))).grown hg6 (Nat.le_trans hB (Nat.le_trans hs bA.size)) (fun q hq => (hrowA.lt q hq).1)
  · exact Nat.le_trans hs (Nat.le_trans bA.size hg6.size)
theorem doD_fit {k n : Nat} (hk : k ≤ 10) : DdFit (doD (k : Int) (n : Int)) := ⟨⟨show (0 : Int) ≤ 0 by omega, show (0 : Int) < 256 by omega⟩, by show -9223372036854775808 ≤ (k : Int); omega, by show (k : Int) ≤ 9223372036854775807; omega⟩
theorem subD_fit (t : Int) (e : List Int) : DdFit (subD t e) := ⟨⟨show (0 : Int) ≤ 0 by omega, show (0 : Int) < 256 by omega⟩, show (-9223372036854775808 : Int) ≤ 1 by omega, show (1 : Int) ≤ 9223372036854775807 by omega⟩

def stepsT (k : Nat) : List Dd := [doD 2 (k : Int), doD 3 (k : Int), doD 4 (k : Int)]
theorem stepsT_snoc (k : Nat) {j : Nat} (h : j < 3) : (stepsT k).take (j + 1) = (stepsT k).take j ++ [doD ((2 + j : Nat) : Int) (k : Int)] := by
  match j, h with
  | 0, _ => rfl
  | 1, _ => rfl
  | 2, _ => rfl
set_option maxRecDepth 100000 in
set_option maxHeartbeats 2000000 in
theorem year_any (l0 : List Dd) (k far : Nat) (es : List (List Int)) (la ea : Option Addr) (ln lc n c B : Nat) (vs0 : List Value) (w : World) (hl0 : l0.length = ln) (hrow0 : w.ownsRow B 56 7 (.slice la ln lc) ln vs0) (hD0 : DoB B w vs0 l0) (hB : B ≤ w.heap.size) (hS : Stay B (.slice la ln lc) w ea n c es) (hk : k ≤ 8) (hf : far ≤ 3) (hbig : ln + n ≤ 100000) :
    Calls Tryz.prog 15 #[.slice la ln lc, .int .i64 (k : Int), .slice ea n c, .int .i64 (far : Int)] w fun e w' => ∃ v, e = .returned v ∧ YearI B w (.slice la ln lc) w' v (l0 ++ (subsL (10 * (k : Int) + 5) es ++ (stepsT k).take far)) := by
  obtain ⟨i0, hi0, hz0, hz1, hz2⟩ := info_parts Tryz.info56b
  have hLs := (hS w (Below.refl _ _) (Nat.le_refl _) (fun _ _ _ => rfl)).1
  have hlen := hLs.len
  have hroom := hLs.room
  have hcap := hLs.cap
  unfold maxLen at hcap
  have m1 : wrap64 (10 * (k : Int)) = 10 * (k : Int) := by unfold wrap64; omega
  have m2 : wrap64 (10 * (k : Int) + 5) = 10 * (k : Int) + 5 := by unfold wrap64; omega
  clear hLs
  go_enter Tryz.func15, Tryz.ntmps15
  go_wp2_with fail
  go_loopw [0, 15] (fun gv kv wr => ∃ (j : Nat) (va : Option Addr) (vn vc : Nat), j ≤ n ∧ kv = .int .i64 j ∧ gv = .slice va vn vc ∧ Hid (vn = ln + j) ∧ YearI B w (.slice la ln lc) wr (.slice va vn vc) (l0 ++ subsL (10 * (k : Int) + 5) (es.take j))) (fun _ kv _ => n - (intOf kv).toNat)
  case atStart => exact ⟨0, la, ln, lc, Nat.zero_le _, rfl, rfl, rfl, la, lc, vs0, by rw [List.take_zero]; show _ = Value.slice la (l0 ++ []).length lc; rw [List.append_nil, hl0], by rw [List.take_zero]; show World.ownsRow _ _ _ _ _ (l0 ++ []).length _; rw [List.append_nil, hl0]; exact hrow0, by rw [List.take_zero]; show DoB _ _ _ (l0 ++ []); rw [List.append_nil]; exact hD0, .inl rfl, fun _ _ _ => rfl, Below.refl _ _, Nat.le_refl _⟩
  case round =>
    obtain ⟨wo, rfl⟩ : ∃ x, x = wr := ⟨wr, rfl⟩
    obtain ⟨j, va, vn, vc, hj, rfl, rfl, HVN, hI⟩ := hrel
    have hvb : vn ≤ 100000 := by have := HVN.out; omega
    by_cases hlt : j < n
    · have hlt' : (j : Int) < n := by omega
      obtain ⟨va', vc', vs, e1, hrow, hD, hwh, hkp, hbl, hsz⟩ := hI
      have hln : (l0 ++ subsL (10 * (k : Int) + 5) (es.take j)).length = vn := by cases e1; rfl
      rw [hln] at e1 hrow
      cases e1
      obtain ⟨hLw, hAw⟩ := hS wo hbl hsz hkp
      obtain ⟨b, off, pa, pc, rfl, hcell, hP⟩ := hLw.get j hlt
      have hAwy := hAw j b off pa _ pc hlt rfl hcell
      have HM := fun w6 g cap o h1 h2 h3 => YearI.more (w6 := w6) (g := g) (cap := cap) (o := o) (x := subD (10 * (k : Int) + 5) (es.getD j [])) (pa := pa) (pc := pc) hln hrow hD hwh hkp hbl hsz hB hP hAwy (subD_fit _ _) h1 h2 h3
      have HSN : Hid (l0 ++ subsL (10 * (k : Int) + 5) (es.take (j + 1)) = (l0 ++ subsL (10 * (k : Int) + 5) (es.take j)) ++ [subD (10 * (k : Int) + 5) (es.getD j [])]) := by show _ = _; rw [subs_snoc _ _ (by omega), List.append_assoc]
      have HMH : Hid _ := HM
      have hnew := lit_dd wo (subD (10 * (k : Int) + 5) (es.getD j [])) pa pc 56
      have hone := ddV_one (subD (10 * (k : Int) + 5) (es.getD j [])) pa pc
      have hsA : B ≤ (wo.alloc (.cells #[.int .i64 1, .int .i64 0, .int .i64 (10 * (k : Int) + 5), .slice pa (es.getD j []).length pc, .int .i64 0, .int .i64 0, .int .u8 0] 56)).heap.size := by simp; omega
      have hrowA := hrow.alloc (.cells #[.int .i64 1, .int .i64 0, .int .i64 (10 * (k : Int) + 5), .slice pa (es.getD j []).length pc, .int .i64 0, .int .i64 0, .int .u8 0] 56)
      have HNW : Hid _ := hnew
      have HON : Hid _ := hone
      clear HM hnew hone hrow hD hwh hkp hbl hLw hAw hAwy hP
      obtain ⟨EN, HEN⟩ : ∃ EN, Hid (es.getD j [] = EN) := ⟨_, rfl⟩
      rw [HEN.out] at hcell hsA hrowA HMH HSN HNW HON
      go_wp2_with (at_builtin; refine wpList_append_lies _ rfl (.tmp 19) (.tmp 25) 23 rfl B 56 i0 _ 7 72 Tryz.underlying23 hi0 hz0 hz1 hz2 rfl (by decide) _ _ _ rfl hrowA ⟨wo.heap.size, 0, none⟩ 1 1 _ rfl rfl HNW.out HON.out (by decide) (by unfold maxLen; omega) (by omega) hsA _ rfl ?_; intro g cap w6 ho6 hg6 ha6 hlt6)
      have HI6 : Hid _ := HMH.out w6 g cap _ hg6 ho6 ha6
      clear HMH HNW HON hrowA ho6 hg6 ha6 hcell
      go_roundw
      case rel => exact ⟨j + 1, _, vn + 1, cap, by omega, by go_num, rfl, by show _ = _; have := HVN.out; omega, by rw [HSN.out]; exact HI6.out⟩
      case measure => simp [intOf]; omega
    · obtain rfl : j = n := by omega
      have hnl : ¬ (j : Int) < j := by omega
      have hT : es.take j = es := List.take_of_length_le (by omega)
      rw [hT] at hI
      clear hS hT
      obtain ⟨L1, HL1⟩ : ∃ L1, Hid (l0 ++ subsL (10 * (k : Int) + 5) es = L1) := ⟨_, rfl⟩
      rw [HL1.out] at hI
      have HRES : Hid (l0 ++ (subsL (10 * (k : Int) + 5) es ++ (stepsT k).take far) = L1 ++ (stepsT k).take far) := by show _ = _; rw [← HL1.out, List.append_assoc]
      have bX : Below wo.heap.size wo (wo.alloc (.cells #[.int .i64 2, .int .i64 3, .int .i64 4] 3)) := (Below.refl _ _).alloc (Nat.le_refl _) _
      have hIX := hI.call bX hB
      have xX := box_new wo #[.int .i64 2, .int .i64 3, .int .i64 4] 3
      have hf' : (far : Int) ≤ 3 := by omega
      have hf0 : (0 : Int) ≤ far := by omega
      clear hI bX
      go_wp2_with fail
      generalize wo.alloc (.cells #[.int .i64 2, .int .i64 3, .int .i64 4] 3) = wX at *
      obtain ⟨XB, HXB⟩ : ∃ XB, Hid (wo.heap.size = XB) := ⟨_, rfl⟩
      rw [HXB.out] at xX ⊢
      go_loopw [0, 32] (fun gv kv wr => ∃ (q : Nat) (va : Option Addr) (vn vc : Nat), q ≤ far ∧ kv = .int .i64 q ∧ gv = .slice va vn vc ∧ Hid (vn = ln + j + q) ∧ YearI B w (.slice la ln lc) wr (.slice va vn vc) (L1 ++ (stepsT k).take q) ∧ wr.heap[XB]? = some (.cells #[.int .i64 2, .int .i64 3, .int .i64 4] 3 (0, 0))) (fun _ kv _ => far - (intOf kv).toNat)
      case atStart => exact ⟨0, va, vn, vc, Nat.zero_le _, rfl, rfl, HVN, by rw [List.take_zero, List.append_nil]; exact hIX, xX⟩
      case round =>
        obtain ⟨wp, rfl⟩ : ∃ x, x = wr := ⟨wr, rfl⟩
        obtain ⟨q, va, vn, vc, hq, rfl, rfl, HVN2, hI, hx⟩ := hrel
        have hvb2 : vn ≤ 200000 := by have := HVN2.out; omega
        by_cases hlt : q < far
        · have hlt' : (q : Int) < far := by omega
          have hcq : wp.cell? ⟨XB, q, none⟩ = some (.int .i64 ((2 + q : Nat) : Int)) := by
            rw [cell_of_row wp XB q _ _ _ hx]
            match q, (show q < 3 by omega) with
            | 0, _ => rfl
            | 1, _ => rfl
            | 2, _ => rfl
          have HSN : Hid (L1 ++ (stepsT k).take (q + 1) = (L1 ++ (stepsT k).take q) ++ [doD ((2 + q : Nat) : Int) (k : Int)]) := by show _ = _; rw [stepsT_snoc k (by omega), List.append_assoc]
          obtain ⟨kd, HKD⟩ : ∃ kd : Int, Hid (((2 + q : Nat) : Int) = kd) := ⟨_, rfl⟩
          have hfit : DdFit (doD kd (k : Int)) := by rw [← HKD.out]; exact doD_fit (by omega)
          rw [HKD.out] at hcq HSN
          have hDo := topDo_any kd (k : Int) wp
          clear hIX xX
          go_wp2_with fail
          refine hDo.mono ?_
          rintro e w3 ⟨rfl, hb3⟩
          have hI3 := hI.call hb3 hB
          have hx3 := box_kept hx hb3
          obtain ⟨va', vc', vs, e1, hrow, hD, hwh, hkp, hbl, hsz⟩ := hI3
          have hln : (L1 ++ (stepsT k).take q).length = vn := by cases e1; rfl
          rw [hln] at e1 hrow
          cases e1
          have HM := fun w6 g cap o h1 h2 h3 => YearI.more (w6 := w6) (g := g) (cap := cap) (o := o) (x := doD kd (k : Int)) (pa := none) (pc := 0) hln hrow hD hwh hkp hbl hsz hB (some_nil _) (away_nil _ _ _ _) hfit h1 h2 h3
          have HMH : Hid _ := HM
          have hXn : ∀ n' vs', w3.ownsRow B 56 7 (.slice va vn vc) n' vs' → some XB ≠ (Value.slice va vn vc).ownBlock := fun n' vs' h => own7_apart h (by decide) hx3
          have HXN : Hid (some XB ≠ (Value.slice va vn vc).ownBlock) := hXn _ _ hrow
          have hnew := lit_dd w3 (doD kd (k : Int)) none 0 56
          have hone := ddV_one (doD kd (k : Int)) none 0
          have hsA : B ≤ (w3.alloc (.cells #[.int .i64 kd, .int .i64 (k : Int), .int .i64 0, .slice none 0 0, .int .i64 0, .int .i64 0, .int .u8 0] 56)).heap.size := by simp; omega
          have hrowA := hrow.alloc (.cells #[.int .i64 kd, .int .i64 (k : Int), .int .i64 0, .slice none 0 0, .int .i64 0, .int .i64 0, .int .u8 0] 56)
          have HNW : Hid _ := hnew
          have HON : Hid _ := hone
          clear HM hnew hone hrow hD hwh hkp hbl hI hXn hDo
          go_wp2_with (at_builtin; refine wpList_append_lies _ rfl (.tmp 36) (.tmp 40) 23 rfl B 56 i0 _ 7 72 Tryz.underlying23 hi0 hz0 hz1 hz2 rfl (by decide) _ _ _ rfl hrowA ⟨w3.heap.size, 0, none⟩ 1 1 _ rfl rfl HNW.out HON.out (by decide) (by unfold maxLen; omega) (by omega) hsA _ rfl ?_; intro g cap w6 ho6 hg6 ha6 hlt6)
          have HI6 : Hid _ := HMH.out w6 g cap _ hg6 ho6 ha6
          have hx6 : w6.heap[XB]? = some (.cells #[.int .i64 2, .int .i64 3, .int .i64 4] 3 (0, 0)) := (hg6.block XB (by have := lt_heap hx3; simp; omega) HXN.out).trans (box_old _ _ hx3)
          clear HMH HNW HON hrowA ho6 hg6 ha6 hcq HXN
          go_roundw
          case rel => exact ⟨q + 1, _, vn + 1, cap, by omega, by go_num, rfl, by show _ = _; have := HVN2.out; omega, by rw [HSN.out]; exact HI6.out, hx6⟩
          case measure => simp [intOf]; omega
        · obtain rfl : q = far := by omega
          have hnl : ¬ (q : Int) < q := by omega
          have HI : Hid _ := hI
          clear hI hIX xX hx
          go_wp2_with fail
          go_ret
          exact ⟨_, rfl, by rw [HRES.out]; exact HI.out⟩

/-- Entries that were there ahead of the row. -/
theorem stay_low {w0 w : World} {u : Value} {ea : Option Addr} {n c : Nat} {es : List (List Int)} (hL : Lists w0 ea n c es) (hb : Below w0.heap.size w0 w) : Stay w0.heap.size u w ea n c es := fun w' hb' _ _ => by
  have hb2 := hb.trans hb'
  refine ⟨hL.below hb2, fun j b off pa m pc hj he hc => ?_⟩
  obtain ⟨b', off', pa', pc', e', hc', hP⟩ := hL.get j hj
  rw [he] at e'
  cases e'
  rw [hb2.cell (p := ⟨b, off + j, none⟩) (World.block_lt_of_cell? _ _ hc'), hc'] at hc
  cases hc
  rcases hP.at' with ⟨e, -⟩ | ⟨g, o, cp, e, hg, -⟩
  · exact .inl e
  · refine .inr (fun q hq => ?_)
    rw [e] at hq
    cases hq
    exact ⟨Nat.lt_of_lt_of_le hg hb2.size, .inl hg⟩
/-- One byte, as one entry, written out. -/
theorem lit_lists {w : World} {p q : Nat} {x : Int} (hx : 0 ≤ x ∧ x < 256) (h1 : w.heap[p]? = some (.cells #[.int .u8 x] 5 (0, 0))) (h2 : w.heap[q]? = some (.cells #[.slice (some ⟨p, 0, none⟩) 1 1] 36 (0, 0))) : Lists w (some ⟨q, 0, none⟩) 1 1 [[x]] := by
  have hb : Bytes [x] := bytes_cons hx.1 hx.2 nil_bytes
  refine ⟨rfl, .inr ⟨q, 0, 1, rfl, lt_heap h2, fun j hj => ?_⟩, Nat.le_refl _, by unfold maxLen; omega, (fun e => by cases e), fun j => ?_, fun j => ?_⟩
  · obtain rfl : j = 0 := by simpa using hj
    refine ⟨_, 1, 1, cell_of_row w q 0 _ _ _ h2, .inr ⟨p, 0, 1, rfl, lt_heap h1, fun i hi => ?_⟩⟩
    obtain rfl : i = 0 := by simpa using hi
    exact cell_of_row w p 0 _ _ _ h1
  · match j with
    | 0 => exact hb
    | j + 1 => exact nil_bytes
  · match j with
    | 0 => show 1 ≤ maxLen; unfold maxLen; omega
    | j + 1 => exact Nat.zero_le _
theorem lit_lists2 {w : World} {p p' q : Nat} {x y : Int} (hx : 0 ≤ x ∧ x < 256) (hy : 0 ≤ y ∧ y < 256) (h1 : w.heap[p]? = some (.cells #[.int .u8 x] 5 (0, 0))) (h1' : w.heap[p']? = some (.cells #[.int .u8 y] 5 (0, 0))) (h2 : w.heap[q]? = some (.cells #[.slice (some ⟨p, 0, none⟩) 1 1, .slice (some ⟨p', 0, none⟩) 1 1] 36 (0, 0))) : Lists w (some ⟨q, 0, none⟩) 2 2 [[x], [y]] := by
  have hb : Bytes [x] := bytes_cons hx.1 hx.2 nil_bytes
  have hb' : Bytes [y] := bytes_cons hy.1 hy.2 nil_bytes
  refine ⟨rfl, .inr ⟨q, 0, 2, rfl, lt_heap h2, fun j hj => ?_⟩, Nat.le_refl _, by unfold maxLen; omega, (fun e => by cases e), fun j => ?_, fun j => ?_⟩
  · have hj2 : j < 2 := hj
    match j, hj2 with
    | 0, _ =>
      refine ⟨_, 1, 1, cell_of_row w q 0 _ _ _ h2, .inr ⟨p, 0, 1, rfl, lt_heap h1, fun i hi => ?_⟩⟩
      obtain rfl : i = 0 := by simpa using hi
      exact cell_of_row w p 0 _ _ _ h1
    | 1, _ =>
      refine ⟨_, 1, 1, cell_of_row w q 1 _ _ _ h2, .inr ⟨p', 0, 1, rfl, lt_heap h1', fun i hi => ?_⟩⟩
      obtain rfl : i = 0 := by simpa using hi
      exact cell_of_row w p' 0 _ _ _ h1'
  · match j with
    | 0 => exact hb
    | 1 => exact hb'
    | j + 2 => exact nil_bytes
  · match j with
    | 0 => show 1 ≤ maxLen; unfold maxLen; omega
    | 1 => show 1 ≤ maxLen; unfold maxLen; omega
    | j + 2 => exact Nat.zero_le _
theorem stay_lit {B p q : Nat} {w : World} {u : Value} {x : Int} (hx : 0 ≤ x ∧ x < 256) (h1 : w.heap[p]? = some (.cells #[.int .u8 x] 5 (0, 0))) (h2 : w.heap[q]? = some (.cells #[.slice (some ⟨p, 0, none⟩) 1 1] 36 (0, 0))) (hp : u.ownBlock ≠ some p) (hq : u.ownBlock ≠ some q) : Stay B u w (some ⟨q, 0, none⟩) 1 1 [[x]] := fun w' _ _ hk => by
  have g1 := (hk p (lt_heap h1) hp).trans h1
  have g2 := (hk q (lt_heap h2) hq).trans h2
  refine ⟨lit_lists hx g1 g2, fun j b off pa m pc hj he hc => ?_⟩
  obtain rfl : j = 0 := by omega
  cases he
  rw [cell_of_row w' q (0 + 0) _ _ _ g2] at hc
  cases hc
  exact .inr (fun g hg => by cases hg; exact ⟨lt_heap g1, .inr ⟨_, _, g1⟩⟩)

end Go.Proofs.YtkjlchfmplcobagGreatDoor

/- The walks of yearlaw7.do, yearlaw7.submit and yearlaw7.alive, over package fleet's faces. -/
namespace Go.Proofs.YtkjlchfmplcobagGreatDoor
open Go.RowKit

/-- What a variable of thirteen cells holds. -/
theorem box_13 {w : World} {k : Nat} {v0 v1 v2 v3 v4 v5 v6 v7 v8 v9 v10 v11 v12 : Value} {t : TypeId} (h : w.heap[k]? = some (.cells #[v0, v1, v2, v3, v4, v5, v6, v7, v8, v9, v10, v11, v12] t (0, 0))) :
    w.cell? ⟨k, 0, none⟩ = some v0 ∧ w.cell? ⟨k, 1, none⟩ = some v1 ∧ w.cell? ⟨k, 2, none⟩ = some v2 ∧ w.cell? ⟨k, 3, none⟩ = some v3 ∧ w.cell? ⟨k, 4, none⟩ = some v4 ∧ w.cell? ⟨k, 5, none⟩ = some v5 ∧ w.cell? ⟨k, 6, none⟩ = some v6 ∧ w.cell? ⟨k, 7, none⟩ = some v7 ∧ w.cell? ⟨k, 8, none⟩ = some v8 ∧ w.cell? ⟨k, 9, none⟩ = some v9 ∧ w.cell? ⟨k, 10, none⟩ = some v10 ∧ w.cell? ⟨k, 11, none⟩ = some v11 ∧ w.cell? ⟨k, 12, none⟩ = some v12 :=
  ⟨cell_of_row w k 0 _ t _ h, cell_of_row w k 1 _ t _ h, cell_of_row w k 2 _ t _ h, cell_of_row w k 3 _ t _ h, cell_of_row w k 4 _ t _ h, cell_of_row w k 5 _ t _ h, cell_of_row w k 6 _ t _ h, cell_of_row w k 7 _ t _ h, cell_of_row w k 8 _ t _ h, cell_of_row w k 9 _ t _ h, cell_of_row w k 10 _ t _ h, cell_of_row w k 11 _ t _ h, cell_of_row w k 12 _ t _ h⟩
end Go.Proofs.YtkjlchfmplcobagGreatDoor

/- The walk of the law FleetPast, over the faces of package fleet. -/
namespace Go.Proofs.YtkjlchfmplcobagGreatDoor
open Go.RowKit

theorem play_ok {ws : List Win} {l : List Dd} (h : (playF ws l).1 = 0) : playL ws l = runL (startL ws) l ∧ (wrongWins ws).1 = 0 ∧ l.length ≤ 120 := by
  refine ⟨by unfold playL; rw [if_neg (fun g => g h)], ?_, ?_⟩
  · unfold playF at h
    by_cases hw : (wrongWins ws).1 ≠ 0
    · rw [if_pos hw] at h; exact absurd h hw
    · simpa using hw
  · unfold playF at h
    by_cases hw : (wrongWins ws).1 ≠ 0
    · rw [if_pos hw] at h; exact absurd h hw
    · rw [if_neg hw] at h
      by_cases hl : 120 < l.length
      · rw [if_pos hl] at h; exact absurd h (by decide)
      · omega
theorem play_right {ws : List Win} {l : List Dd} (hw : (wrongWins ws).1 = 0) (hl : l.length ≤ 120) : playF ws l = (0, 0) := by
  unfold playF; rw [if_neg (fun g => g hw), if_neg (by omega)]
end Go.Proofs.YtkjlchfmplcobagGreatDoor

/- The walk of yeartop.alive, over package fleet's faces. -/
namespace Go.Proofs.YtkjlchfmplcobagGreatDoor
open Go.RowKit

theorem winsL_get {n k : Nat} (h : k < n) : (winsL n).getD k win0 = ⟨10 * (k : Int), 10 * (k : Int) + 10⟩ := by
  unfold winsL; rw [List.getD_eq_getElem?_getD, List.getElem?_map, List.getElem?_range h]; rfl
theorem winsL_right {n : Nat} (h : n ≤ 8) : wrongWins (winsL n) = (0, 0) := wrongWins_none (by rw [winsL_length]; omega) (fun j hj => by
  rw [winsL_length] at hj
  unfold wrongWin
  rw [winsL_get hj, if_neg (by dsimp only; omega)]
  by_cases h0 : 0 < j
  · rw [winsL_get (show j - 1 < n by omega), if_neg (by dsimp only; omega)]
  · rw [if_neg (fun g => h0 g.1)])
def topD : List Dd := yearL 0 [[1], [2]] 3 ++ yearL 1 [[3]] 1
theorem topD_right : playF (winsL 2) topD = (0, 0) := play_right (by rw [winsL_right (by omega)]) (by decide)
theorem unlike12 : Unlike [[1], [2]] := ⟨by decide, by decide, by decide⟩
theorem unlike3 : Unlike [[3]] := ⟨by decide, by decide, by decide⟩
theorem topD_run : (playL (winsL 2) topD).2.length = 7 ∧ (playL (winsL 2) topD).1.book.length = 2 ∧ (playL (winsL 2) topD).1.shards.length = 2 ∧ ((playL (winsL 2) topD).1.shards.getD 0 shd0).state = 4 ∧ ((playL (winsL 2) topD).2.getD 6 ans0).size = 1 := by
  have hp := (play_ok (ws := winsL 2) (l := topD) (by rw [topD_right])).1
  have y1 := run_year (f := startL (winsL 2)) (k := 0) unlike12 (by rfl) rfl rfl (far := 3) (by omega) (by omega)
  obtain ⟨F1, hF1⟩ : ∃ F1, F1 = (runL (startL (winsL 2)) (yearL 0 [[1], [2]] 3)).1 := ⟨_, rfl⟩
  have hF1' := hF1
  rw [y1] at hF1'
  have y2 := run_year (f := F1) (k := 1) unlike3 (by rw [hF1']; rfl) (by rw [hF1']; rfl) (by rw [hF1']; rfl) (far := 1) (by omega) (by omega)
  rw [hp]
  unfold topD
  rw [runL_append, ← hF1, y1, y2, hF1']
  exact ⟨rfl, rfl, rfl, rfl, rfl⟩

set_option maxRecDepth 100000 in
set_option maxHeartbeats 2000000 in
theorem topAlive_any (hPl : PlayC) (w : World) (hR : Ready w) :
    Calls Tryz.prog 12 #[] w fun e w' => e = .returned (.bool true) ∧ Below w.heap.size w w' := by
  go_enter Tryz.func12, Tryz.ntmps12
  go_wp2_with fail
  refine (windows_any 2 (by omega) w).mono ?_
  rintro e w1 ⟨wa, wc, rfl, hW1, b1⟩
  have dL : Below w1.heap.size w1 (((w1.alloc (.cells #[.int .u8 1] 5)).alloc (.cells #[.int .u8 2] 5)).alloc (.cells #[.slice (some ⟨w1.heap.size, 0, none⟩) 1 1, .slice (some ⟨w1.heap.size + 1, 0, none⟩) 1 1] 36)) := (((Below.refl _ _).alloc (Nat.le_refl _) _).alloc (by simp) _).alloc (by simp; omega) _
  have p1 := box_old _ (.cells #[.slice (some ⟨w1.heap.size, 0, none⟩) 1 1, .slice (some ⟨w1.heap.size + 1, 0, none⟩) 1 1] 36) (box_one w1 #[.int .u8 1] 5 (.cells #[.int .u8 2] 5))
  have p2 := box_old _ (.cells #[.slice (some ⟨w1.heap.size, 0, none⟩) 1 1, .slice (some ⟨w1.heap.size + 1, 0, none⟩) 1 1] 36) (box_last w1 (.cells #[.int .u8 1] 5) #[.int .u8 2] 5)
  have p3 := box_new ((w1.alloc (.cells #[.int .u8 1] 5)).alloc (.cells #[.int .u8 2] 5)) #[.slice (some ⟨w1.heap.size, 0, none⟩) 1 1, .slice (some ⟨w1.heap.size + 1, 0, none⟩) 1 1] 36
  have hz : ((w1.alloc (.cells #[.int .u8 1] 5)).alloc (.cells #[.int .u8 2] 5)).heap.size = w1.heap.size + 2 := by simp
  rw [hz] at p3
  have hLs := lit_lists2 (by omega) (by omega) p1 p2 p3
  have b2 := b1.trans (dL.mono b1.size)
  have hW2 := hW1.below dL
  have hY := year_any [] 0 3 [[1], [2]] none _ 0 0 2 2 _ [] _ rfl (World.ownsRow_nil _ _ _ _) (doB_nil _ _) (Nat.le_refl _) (stay_low hLs (Below.refl _ _)) (by omega) (by omega) (by omega)
  clear hW1 dL p1 p2 p3 hz hLs b1
  go_wp2_with fail
  generalize ((w1.alloc (.cells #[.int .u8 1] 5)).alloc (.cells #[.int .u8 2] 5)).alloc (.cells #[.slice (some ⟨w1.heap.size, 0, none⟩) 1 1, .slice (some ⟨w1.heap.size + 1, 0, none⟩) 1 1] 36) = w2 at *
  refine hY.mono ?_
  rintro e w3 ⟨v3, rfl, va, vc, vs, rfl, hrow, hD, hwh, hkp, hb3, hs3⟩
  have hl1 : ([] ++ (subsL (10 * ((0 : Nat) : Int) + 5) [[1], [2]] ++ (stepsT 0).take 3) : List Dd).length = 5 := rfl
  rw [hl1] at hrow hwh
  clear hY
  have e1 : ([] ++ (subsL (10 * ((0 : Nat) : Int) + 5) [[1], [2]] ++ (stepsT 0).take 3) : List Dd) = yearL 0 [[1], [2]] 3 := rfl
  rw [e1] at hD
  have b3 := b2.trans (hb3.mono b2.size)
  have dM : Below w3.heap.size w3 ((w3.alloc (.cells #[.int .u8 3] 5)).alloc (.cells #[.slice (some ⟨w3.heap.size, 0, none⟩) 1 1] 36)) := ((Below.refl _ _).alloc (Nat.le_refl _) _).alloc (by simp) _
  have q1 := box_one w3 #[.int .u8 3] 5 (.cells #[.slice (some ⟨w3.heap.size, 0, none⟩) 1 1] 36)
  have q2 := box_last w3 (.cells #[.int .u8 3] 5) #[.slice (some ⟨w3.heap.size, 0, none⟩) 1 1] 36
  have hrowM := own7_below hrow dM (Nat.le_refl _)
  have hDM := hD.below dM
  have hlt : ∀ g, (Value.slice va 5 vc).ownBlock = some g → g < w3.heap.size := fun g hg => (hrow.lt g hg).2
  have hSt : Stay w2.heap.size (.slice va 5 vc) ((w3.alloc (.cells #[.int .u8 3] 5)).alloc (.cells #[.slice (some ⟨w3.heap.size, 0, none⟩) 1 1] 36)) (some ⟨w3.heap.size + 1, 0, none⟩) 1 1 [[3]] := stay_lit (by omega) q1 q2 (fun h => by have := hlt _ h; omega) (fun h => by have := hlt _ h; omega)
  have hY := year_any (yearL 0 [[1], [2]] 3) 1 1 [[3]] va _ 5 vc 1 1 w2.heap.size vs _ rfl hrowM hDM (Nat.le_trans hs3 dM.size) hSt (by omega) (by omega) (by omega)
  have c4 : Below w2.heap.size w2 ((w3.alloc (.cells #[.int .u8 3] 5)).alloc (.cells #[.slice (some ⟨w3.heap.size, 0, none⟩) 1 1] 36)) := hb3.trans (dM.mono hs3)
  have hs4 : w2.heap.size ≤ _ := Nat.le_trans hs3 dM.size
  clear hrow hD hwh hkp dM q1 q2 hrowM hDM hlt hSt hl1 e1
  go_wp2_with fail
  generalize (w3.alloc (.cells #[.int .u8 3] 5)).alloc (.cells #[.slice (some ⟨w3.heap.size, 0, none⟩) 1 1] 36) = w4 at *
  refine hY.mono ?_
  rintro e w5 ⟨v5, rfl, va5, vc5, vs5, rfl, hrow5, hD5, -, -, hb5, hs5⟩
  have hDos := hD5.dos hrow5
  have hl5 : (yearL 0 [[1], [2]] 3 ++ (subsL (10 * ((1 : Nat) : Int) + 5) [[3]] ++ (stepsT 1).take 1)).length = 7 := rfl
  have e5 : yearL 0 [[1], [2]] 3 ++ (subsL (10 * ((1 : Nat) : Int) + 5) [[3]] ++ (stepsT 1).take 1) = topD := rfl
  rw [hl5, e5] at hDos
  rw [hl5]
  have c5 := c4.trans hb5
  have b5 := b2.trans (c5.mono b2.size)
  have cP := hPl (winsL 2) topD _ _ w5 (hR.below b5) (hW2.below c5) hDos
  obtain ⟨f1, f2, f3, f4, f5⟩ := topD_run
  rw [topD_right] at cP
  dsimp only [faultV] at cP
  clear hY hrow5 hD5 hDos hl5 e5 hb5 hs5 c4 hW2 hb3 hs3 hs4 hPl b3
  generalize playL (winsL 2) topD = PP at *
  obtain ⟨F, A⟩ := PP
  dsimp only at f1 f2 f3 f4 f5 cP
  go_wp2_with fail
  refine cP.mono ?_
  rintro e w6 ⟨fv, av, rfl, hF, hA, hb6⟩
  have b6 := b5.trans (hb6.mono b5.size)
  obtain ⟨sa, sc, ka, kc, rfl, hSh, hBk⟩ := hF
  obtain ⟨aa, ac, rfl, ha1, ha2, ha3, hAc⟩ := hA
  obtain ⟨ab, ao, rfl, hab, hcs⟩ := hAc.resolve_left (by omega)
  obtain ⟨-, -, -, a3, -⟩ := hcs 6 (by omega)
  obtain ⟨sa', sc', es, -, -, -, hSc⟩ := hSh
  cases es
  obtain ⟨sb, so, rfl, hsb, hsc⟩ := hSc.resolve_left (by omega)
  obtain ⟨-, -, s2, -, -, -, -⟩ := hsc 0 (by omega)
  rw [f5] at a3
  rw [f4] at s2
  rw [Nat.zero_mul, Nat.add_zero] at s2
  rw [f1, f2, f3]
  have d7 : Below w6.heap.size w6 ((w6.alloc (.cells #[.slice (some ⟨sb, so, none⟩) 2 sc, .slice ka 2 kc] 28)).alloc (.cells #[.int .i64 0, .int .i64 0] 32)) := ((Below.refl _ _).alloc (Nat.le_refl _) _).alloc (by simp) _
  obtain ⟨x0, x1, -, -⟩ := box_two (box_one w6 #[.slice (some ⟨sb, so, none⟩) 2 sc, .slice ka 2 kc] 28 (.cells #[.int .i64 0, .int .i64 0] 32))
  obtain ⟨y0, y1, -, -⟩ := box_two (box_last w6 (.cells #[.slice (some ⟨sb, so, none⟩) 2 sc, .slice ka 2 kc] 28) #[.int .i64 0, .int .i64 0] 32)
  have a7 := (d7.cell (p := ⟨ab, ao + 6 * 5 + 3, none⟩) hab).trans a3
  have s7 := (d7.cell (p := ⟨sb, so + 2, none⟩) hsb).trans s2
  have b7 := b6.trans (d7.mono b6.size)
  clear cP hAc hcs hSc hsc hBk a3 s2 d7 f1 f2 f3 f4 f5
  go_wp2_with fail
  go_ret
  exact ⟨rfl, b7⟩

end Go.Proofs.YtkjlchfmplcobagGreatDoor

/- Segments as rows of a call's own; parts of lists. -/
namespace Go.Proofs.YtkjlchfmplcobagGreatDoor
open Go.RowKit

theorem Tryz.info111b : (Tryz.prog.info? 111).map (fun i => (i.zero, i.size, i.bytes)) = some (some (.agg #[.int .i64 0, .int .i64 0, .slice none 0 0]), 3, 40) := by kernel_rfl
theorem Lists.part {w : World} {b off n c i m : Nat} {L : List (List Int)} (h : Lists w (some ⟨b, off, none⟩) n c L) (hi : i + m ≤ n) (hm : 1 ≤ m) : Lists w (some ⟨b, off + i, none⟩) m (c - i) ((L.drop i).take m) := by
  have hl := h.len
  have hr := h.room
  have hc := h.cap
  have hd := h.at'.drop (k := i) hl (by omega) (by omega) (c - i)
  refine ⟨by rw [List.length_take, List.length_drop]; omega, hd.take (by rw [List.length_drop]; omega) (by omega) (by omega) _, by omega, by omega, fun e => (by cases e), ?_, ?_⟩
  · refine take_bytes (fun j => ?_) m
    rw [List.getD_eq_getElem?_getD, List.getElem?_drop, ← List.getD_eq_getElem?_getD]; exact h.bytes _
  · refine take_short (fun j => ?_) m
    rw [List.getD_eq_getElem?_getD, List.getElem?_drop, ← List.getD_eq_getElem?_getD]; exact h.short _
theorem own3_below {w w' : World} {base : Nat} {e : TypeId} {v : Value} {n N : Nat} {xs : List Value} (h : w.ownsRow base e 3 v n xs) (hb : Below N w w') (hN : w.heap.size ≤ N) : w'.ownsRow base e 3 v n xs :=
  h.kept (w' := w') (row := none) ⟨hb.os, hb.tape, hb.output, hb.size, fun k hk _ => hb.block k (Nat.lt_of_lt_of_le hk hN)⟩ (by cases v.ownBlock <;> simp)
theorem own_ne3 {w : World} {base b2 : Nat} {e1 e2 : TypeId} {v1 v2 : Value} {n1 n2 : Nat} {xs1 xs2 : List Value} (h1 : w.ownsRow base e1 1 v1 n1 xs1) (h2 : w.ownsRow b2 e2 3 v2 n2 xs2) (hne : e1 ≠ e2) : Sep v1 v2 := fun g hg1 hg2 => by
  rcases h1.2 with ⟨rfl, -⟩ | ⟨g1, c1, cur1, rfl, -, hh1, -⟩
  · cases hg1
  rcases h2.2 with ⟨rfl, -⟩ | ⟨g2, c2, cur2, rfl, -, hh2, -⟩
  · cases hg2
  cases hg1
  cases hg2
  rw [hh1] at hh2
  cases hh2
  exact hne rfl
/-- The values of segments, each with bytes of the call's own. -/
def SegEls (w : World) (base : Nat) (vs : List Value) (l : List Seg) : Prop :=
  vs.length = l.length * 3 ∧ ∀ j, j < l.length → vs[j * 3]? = some (.int .i64 (l.getD j seg0).first) ∧ vs[j * 3 + 1]? = some (.int .i64 (l.getD j seg0).count) ∧
    ∃ y, vs[j * 3 + 2]? = some y ∧ w.ownsRow base 5 1 y (l.getD j seg0).packed.length ((l.getD j seg0).packed.map (Value.int .u8))
theorem SegEls.kept {w w' : World} {base b2 : Nat} {vs : List Value} {l : List Seg} {v : Value} {n : Nat} {xs : List Value} (h : SegEls w base vs l) (hr : w.ownsRow b2 111 3 v n xs) (hg : w.grownBy w' v.ownBlock) : SegEls w' base vs l :=
  ⟨h.1, fun j hj => by
    obtain ⟨h0, h1, y, h2, h3⟩ := h.2 j hj
    exact ⟨h0, h1, y, h2, h3.kept hg (own_ne3 h3 hr (by decide)).or⟩⟩
theorem SegEls.alloc {w : World} {base : Nat} {vs : List Value} {l : List Seg} (h : SegEls w base vs l) (o : Obj) : SegEls (w.alloc o) base vs l :=
  ⟨h.1, fun j hj => by
    obtain ⟨h0, h1, y, h2, h3⟩ := h.2 j hj
    exact ⟨h0, h1, y, h2, h3.alloc o⟩⟩
theorem SegEls.below {w w' : World} {base N : Nat} {vs : List Value} {l : List Seg} (h : SegEls w base vs l) (hb : Below N w w') (hN : w.heap.size ≤ N) : SegEls w' base vs l :=
  ⟨h.1, fun j hj => by
    obtain ⟨h0, h1, y, h2, h3⟩ := h.2 j hj
    exact ⟨h0, h1, y, h2, own_below h3 hb hN⟩⟩
theorem SegEls.snoc {w : World} {base : Nat} {vs : List Value} {l : List Seg} {s : Seg} {y : Value} (h : SegEls w base vs l) (hy : w.ownsRow base 5 1 y s.packed.length (s.packed.map (Value.int .u8))) : SegEls w base (vs ++ [.int .i64 s.first, .int .i64 s.count, y]) (l ++ [s]) := by
  obtain ⟨hl, h⟩ := h
  refine ⟨by simp; omega, fun j hj => ?_⟩
  by_cases e : j < l.length
  · obtain ⟨h0, h1, z, h2, h3⟩ := h j e
    have eg : (l ++ [s]).getD j seg0 = l.getD j seg0 := by rw [List.getD_eq_getElem?_getD, List.getElem?_append_left e, ← List.getD_eq_getElem?_getD]
    rw [eg, List.getElem?_append_left (by omega), List.getElem?_append_left (by omega), List.getElem?_append_left (by omega)]
    exact ⟨h0, h1, z, h2, h3⟩
  · obtain rfl : j = l.length := by simp at hj; omega
    have eg : (l ++ [s]).getD l.length seg0 = s := by rw [List.getD_eq_getElem?_getD, List.getElem?_append_right (Nat.le_refl _), Nat.sub_self]; rfl
    rw [eg, List.getElem?_append_right (by omega), List.getElem?_append_right (by omega), List.getElem?_append_right (by omega), hl, Nat.sub_self, show l.length * 3 + 1 - l.length * 3 = 1 by omega, show l.length * 3 + 2 - l.length * 3 = 2 by omega]
    exact ⟨rfl, rfl, y, rfl, hy⟩
theorem segEls_nil (w : World) (base : Nat) : SegEls w base [] [] := ⟨rfl, fun _ hj => absurd hj (Nat.not_lt_zero _)⟩
/-- Segments, all of them the call's own. -/
def OwnSegs (w : World) (base : Nat) (v : Value) (l : List Seg) : Prop := ∃ vs, w.ownsRow base 111 3 v l.length vs ∧ SegEls w base vs l
theorem OwnSegs.below {w w' : World} {base N : Nat} {v : Value} {l : List Seg} (h : OwnSegs w base v l) (hb : Below N w w') (hN : w.heap.size ≤ N) : OwnSegs w' base v l := by
  obtain ⟨vs, h1, h2⟩ := h
  exact ⟨vs, own3_below h1 hb hN, h2.below hb hN⟩
theorem OwnSegs.set {w : World} {base k o : Nat} {v : Value} {l : List Seg} (h : OwnSegs w base v l) (hk : k < base) (u : Value) : OwnSegs (w.setCell ⟨k, o, none⟩ u) base v l := by
  obtain ⟨vs, h1, h2, h3⟩ := h
  refine ⟨vs, ownsRow_setCell_below h1 (a := ⟨k, o, none⟩) hk u, h2, fun j hj => ?_⟩
  obtain ⟨g0, g1, y, g2, g3⟩ := h3 j hj
  exact ⟨g0, g1, y, g2, ownsRow_setCell_below g3 (a := ⟨k, o, none⟩) hk u⟩
theorem OwnSegs.segs {w : World} {base : Nat} {v : Value} {l : List Seg} (h : OwnSegs w base v l) (hby : SegsBytes l) : SegsAt w v l := by
  obtain ⟨vs, h1, -, h2⟩ := h
  rcases h1.2 with ⟨hv, hn⟩ | ⟨g, cap, cur, rfl, -, hg, h3, h4, -⟩
  · exact ⟨none, 0, by rw [hv, hn], by omega, Nat.zero_le _, fun _ => rfl, .inl hn⟩
  · refine ⟨_, cap, rfl, h3, h4, (fun e => by cases e), .inr ⟨g, 0, rfl, lt_heap hg, fun j hj => ?_⟩⟩
    obtain ⟨g0, g1, y, g2, g3⟩ := h2 j hj
    rw [Nat.zero_add]
    refine ⟨(h1.cellAt (j * 3) (by omega)).trans g0, (h1.cellAt (j * 3 + 1) (by omega)).trans g1, ?_⟩
    obtain ⟨pa, pc, rfl, q1, q2⟩ := own_cap g3
    exact ⟨pa, pc, (h1.cellAt (j * 3 + 2) (by omega)).trans g2, ⟨bytesAt_own g3, hby j, by omega⟩, q1, q2⟩
/-- Each segment's bytes lie in a later block than those of the one ahead. -/
def RiseV (vs : List Value) (m : Nat) : Prop := ∀ i j, i < j → j < m → ∀ y z g h, vs[i * 3 + 2]? = some y → vs[j * 3 + 2]? = some z → y.ownBlock = some g → z.ownBlock = some h → g < h
theorem riseV_nil : RiseV [] 0 := fun _ _ _ h => absurd h (Nat.not_lt_zero _)
theorem RiseV.snoc {w : World} {base m : Nat} {vs : List Value} {l : List Seg} {a b y : Value} (h : RiseV vs m) (he : SegEls w base vs l) (hm : l.length = m) (hy : ∀ g, y.ownBlock = some g → w.heap.size ≤ g) : RiseV (vs ++ [a, b, y]) (m + 1) := fun i j hij hj u z g q hu hz hg hq => by
  have hl : vs.length = m * 3 := by rw [← hm]; exact he.1
  rw [List.getElem?_append_left (by omega)] at hu
  by_cases e : j < m
  · rw [List.getElem?_append_left (by omega)] at hz
    exact h i j hij e u z g q hu hz hg hq
  · obtain rfl : j = m := by omega
    rw [List.getElem?_append_right (by omega), hl, show j * 3 + 2 - j * 3 = 2 by omega] at hz
    cases hz
    obtain ⟨-, -, x, h1, h2⟩ := he.2 i (by omega)
    rw [hu] at h1
    cases h1
    have := (h2.lt g hg).2
    have := hy q hq
    omega
theorem lit_seg (w : World) (x y : Int) (pv : Value) (t : TypeId) : ∀ (j : Nat) (u : Value), [Value.int .i64 x, .int .i64 y, pv][j]? = some u → (w.alloc (.cells #[.int .i64 x, .int .i64 y, pv] t)).cell? ((⟨w.heap.size, 0, none⟩ : Addr).add j) = some u := fun j u hj => by
  have hadd : (⟨w.heap.size, 0, none⟩ : Addr).add j = ⟨w.heap.size, 0 + j, none⟩ := Addr.add_mid _ _ _
  rw [hadd, Nat.zero_add]
  match j, hj with
  | 0, hj => rw [new_cell w t _ 0 (by simp)]; simpa using hj
  | 1, hj => rw [new_cell w t _ 1 (by simp)]; simpa using hj
  | 2, hj => rw [new_cell w t _ 2 (by simp)]; simpa using hj
  | j + 3, hj => simp at hj
theorem segK_bytes {L : List (List Int)} (hb : ∀ j, Bytes (L.getD j [])) (h : ∀ e ∈ L, e.length ≤ 200) (k : Nat) : Bytes (segK L k).packed := by
  refine pack_bytes ?_ (lay_part h k)
  refine bytes_of_mem (fun x hx => ?_)
  unfold layL at hx
  obtain ⟨e, he, hx⟩ := List.mem_flatMap.1 hx
  have h200 := short_part h k e he
  rcases List.mem_cons.1 hx with rfl | hx
  · omega
  · obtain ⟨j, hj, rfl⟩ := List.mem_iff_getElem.1 (List.mem_of_mem_drop (List.mem_of_mem_take he))
    have := hb j
    rw [List.getD_eq_getElem?_getD, List.getElem?_eq_getElem hj] at this
    exact bytes_forall this x hx
theorem segsL_bytes {L : List (List Int)} (hb : ∀ j, Bytes (L.getD j [])) (h : ∀ e ∈ L, e.length ≤ 200) : SegsBytes (segsL L) := fun j => by
  by_cases hj : j < (L.length + 7) / 8
  · unfold segsL; rw [segsN_get _ _ _ hj]; exact segK_bytes hb h j
  · rw [List.getD_eq_getElem?_getD, List.getElem?_eq_none (by unfold segsL; rw [segsN_length]; omega)]; exact nil_bytes
/-- The text of a part. -/
theorem lay_bytes {l : List (List Int)} (hb : ∀ j, Bytes (l.getD j [])) (h : ∀ j, (l.getD j []).length ≤ 200) : Bytes (layL l) := by
  refine bytes_of_mem (fun x hx => ?_)
  unfold layL at hx
  obtain ⟨e, he, hx⟩ := List.mem_flatMap.1 hx
  obtain ⟨j, hj, rfl⟩ := List.mem_iff_getElem.1 he
  have h1 := hb j
  have h2 := h j
  rw [List.getD_eq_getElem?_getD, List.getElem?_eq_getElem hj] at h1 h2
  rcases List.mem_cons.1 hx with rfl | hx
  · simp at h2; omega
  · exact bytes_forall h1 x hx

end Go.Proofs.YtkjlchfmplcobagGreatDoor

/- The walk of the law TopSteps, over package fleet's faces. -/
namespace Go.Proofs.YtkjlchfmplcobagGreatDoor
open Go.RowKit

def IntCell (w : World) (b o : Nat) (x : Int) : Prop := w.cell? ⟨b, o, none⟩ = some (.int .i64 x) ∧ -9223372036854775808 ≤ x ∧ x ≤ 9223372036854775807
def IntsAt (w : World) (v : Value) (l : List Int) : Prop := RowAt 1 IntCell 0 w v l
theorem IntsAt.below {w w' : World} {v : Value} {l : List Int} (h : IntsAt w v l) (hw : Below w.heap.size w w') : IntsAt w' v l :=
  RowAt.below h hw (fun b o _ hb ⟨h1, h2⟩ => ⟨by rw [hw.cell (p := ⟨b, o, none⟩) hb]; exact h1, h2⟩)
theorem IntsAt.get {w : World} {a : Option Addr} {n c : Nat} {l : List Int} (h : IntsAt w (.slice a n c) l) (hn : l.length = n) {j : Nat} (hj : j < n) : ∃ b o, a = some ⟨b, o, none⟩ ∧ b < w.heap.size ∧ w.cell? ⟨b, o + j, none⟩ = some (.int .i64 (l.getD j 0)) ∧ -9223372036854775808 ≤ l.getD j 0 ∧ l.getD j 0 ≤ 9223372036854775807 := by
  obtain ⟨a', c', e, -, -, -, h5⟩ := h
  rw [hn] at e h5
  cases e
  obtain ⟨b, off, h6, h7, h8⟩ := h5.resolve_left (by omega)
  obtain ⟨h9, h10⟩ := h8 j hj
  rw [Nat.mul_one] at h9
  exact ⟨b, off, h6, h7, h9, h10⟩
theorem YearI.kept {w wr : World} {u v : Value} {l : List Dd} (h : YearI w.heap.size w u wr v l) : Below w.heap.size w wr := by obtain ⟨_, _, _, _, _, _, _, _, h6, _⟩ := h; exact h6
theorem AnssAt.at' {w : World} {a : Option Addr} {n c : Nat} {l : List Ans} (h : AnssAt w (.slice a n c) l) (hn : l.length = n) {j : Nat} (hj : j < n) : ∃ b o, a = some ⟨b, o, none⟩ ∧ b < w.heap.size ∧ AnsCells w b (o + j * 5) (l.getD j ans0) := by
  obtain ⟨a', c', e, -, -, -, h5⟩ := h
  rw [hn] at e h5
  cases e
  obtain ⟨b, off, h6, h7, h8⟩ := h5.resolve_left (by omega)
  exact ⟨b, off, h6, h7, h8 j hj⟩
end Go.Proofs.YtkjlchfmplcobagGreatDoor

/- The walk of the law FleetEarly, over the faces of package fleet. -/
namespace Go.Proofs.YtkjlchfmplcobagGreatDoor
open Go.RowKit

theorem ShdsAt.get {w : World} {a : Option Addr} {n c : Nat} {l : List Shd} (h : ShdsAt w (.slice a n c) l) (hn : l.length = n) {j : Nat} (hj : j < n) : ∃ b o, a = some ⟨b, o, none⟩ ∧ b < w.heap.size ∧ ShdCells w b (o + j * 7) (l.getD j shd0) := by
  obtain ⟨a', c', e, -, -, -, h5⟩ := h
  rw [hn] at e h5
  cases e
  obtain ⟨b, off, h6, h7, h8⟩ := h5.resolve_left (by omega)
  exact ⟨b, off, h6, h7, h8 j hj⟩
end Go.Proofs.YtkjlchfmplcobagGreatDoor

/- A fleet that goes on, in memory: what each block of it is for. Nothing of the program's functions is in it. -/
namespace Go.Proofs.YtkjlchfmplcobagGreatDoor
open Go.RowKit

theorem five_free {w : World} {k : Nat} {a b c d e : Value} {t : TypeId} (h : w.heap[k]? = some (.cells #[a, b, c, d, e] t (0, 0))) : w.frozen? ⟨k, 0, none⟩ = false ∧ w.frozen? ⟨k, 1, none⟩ = false ∧ w.frozen? ⟨k, 2, none⟩ = false ∧ w.frozen? ⟨k, 3, none⟩ = false ∧ w.frozen? ⟨k, 4, none⟩ = false :=
  ⟨frozen_of_row w k 0 _ t h, frozen_of_row w k 1 _ t h, frozen_of_row w k 2 _ t h, frozen_of_row w k 3 _ t h, frozen_of_row w k 4 _ t h⟩
/-- What a block is for. -/
abbrev Tag := Nat × Nat × Nat
def tNo : Tag := (0, 0, 0)
def tFix : Tag := (1, 0, 0)
def tSh : Tag := (2, 0, 0)
def tFl : Tag := (3, 0, 0)
def tBk : Tag := (4, 0, 0)
def tAn : Tag := (5, 0, 0)
def tEnt (k : Nat) : Tag := (6, k, 0)
def tSeg (k : Nat) : Tag := (7, k, 0)
def tPk (k j : Nat) : Tag := (8, k, j)
/-- From n on all blocks are for t. -/
def ext (τ : Nat → Tag) (n : Nat) (t : Tag) : Nat → Tag := fun b => if b < n then τ b else t
theorem ext_old {τ : Nat → Tag} {n b : Nat} {t : Tag} (h : b < n) : ext τ n t b = τ b := if_pos h
theorem ext_new {τ : Nat → Tag} {n b : Nat} {t : Tag} (h : n ≤ b) : ext τ n t b = t := if_neg (by omega)
/-- A value's block is there, and is for t. -/
def Tg (τ : Nat → Tag) (w : World) (t : Tag) (v : Value) : Prop := ∀ b, v.ownBlock = some b → b < w.heap.size ∧ τ b = t
/-- But for one block all is as it was; and what blocks were for stays. -/
structure Upd (τ τ' : Nat → Tag) (w w' : World) (row : Option Nat) : Prop where
  grow : w.grownBy w' row
  same : ∀ b, b < w.heap.size → τ' b = τ b
theorem grown_below {w w' : World} (h : Below w.heap.size w w') : w.grownBy w' none := ⟨h.os, h.tape, h.output, h.size, fun k hk _ => h.block k hk⟩
theorem grown_set (w : World) (k o : Nat) (u : Value) : w.grownBy (w.setCell ⟨k, o, none⟩ u) (some k) := ⟨rfl, rfl, rfl, by simp, fun j _ hj => heap_setCell_other w ⟨k, o, none⟩ j u (fun e => hj (by simp [e]))⟩
theorem Upd.refl (τ : Nat → Tag) (w : World) (row : Option Nat) : Upd τ τ w w row := ⟨World.grownBy.refl _ _, fun _ _ => rfl⟩
theorem upd_call {τ : Nat → Tag} {w w' : World} (h : Below w.heap.size w w') (t : Tag) : Upd τ (ext τ w.heap.size t) w w' none := ⟨grown_below h, fun _ hb => ext_old hb⟩
theorem upd_same {τ : Nat → Tag} {w w' : World} (h : Below w.heap.size w w') : Upd τ τ w w' none := ⟨grown_below h, fun _ _ => rfl⟩
theorem upd_set (τ : Nat → Tag) (w : World) (k o : Nat) (u : Value) : Upd τ τ w (w.setCell ⟨k, o, none⟩ u) (some k) := ⟨grown_set w k o u, fun _ _ => rfl⟩
theorem Tg.upd {τ τ' : Nat → Tag} {w w' : World} {t : Tag} {v : Value} {row : Option Nat} (h : Tg τ w t v) (u : Upd τ τ' w w' row) : Tg τ' w' t v := fun b hb => by
  obtain ⟨h1, h2⟩ := h b hb
  exact ⟨Nat.lt_of_lt_of_le h1 u.grow.size, (u.same b h1).trans h2⟩
theorem Tg.off {τ : Nat → Tag} {w : World} {t : Tag} {v : Value} {row : Option Nat} (h : Tg τ w t v) (hne : ∀ b, row = some b → τ b ≠ t) : v.ownBlock = none ∨ v.ownBlock ≠ row := by
  cases e : v.ownBlock with
  | none => exact .inl rfl
  | some g => exact .inr (fun h' => hne g h'.symm (h g e).2)
theorem tg_nil (τ : Nat → Tag) (w : World) (t : Tag) (n c : Nat) : Tg τ w t (.slice none n c) := fun b hb => by cases hb
theorem Some'.grown {w w' : World} {v : Value} {d : List Int} {row : Option Nat} (h : Some' w v d) (g : w.grownBy w' row) (hne : v.ownBlock = none ∨ v.ownBlock ≠ row) : Some' w' v d := by
  refine ⟨?_, h.bytes, h.short⟩
  rcases h.at' with h1 | ⟨b, off, cp, h1, h2, h3⟩
  · exact .inl h1
  · refine .inr ⟨b, off, cp, h1, Nat.lt_of_lt_of_le h2 g.size, fun j hj => ?_⟩
    rw [World.cell?_of_block (a := ⟨b, off + j, none⟩) (g.block b h2 (by subst h1; simpa [Value.ownBlock] using hne))]
    exact h3 j hj
/-- Bytes that nobody writes any more. -/
structure ByM (τ : Nat → Tag) (w : World) (v : Value) (d : List Int) : Prop where
  here : Some' w v d
  tag : Tg τ w tFix v
theorem ByM.upd {τ τ' : Nat → Tag} {w w' : World} {v : Value} {d : List Int} {row : Option Nat} (h : ByM τ w v d) (u : Upd τ τ' w w' row) (hf : ∀ b, row = some b → τ b ≠ tFix) : ByM τ' w' v d := ⟨h.here.grown u.grow (h.tag.off hf), h.tag.upd u⟩
theorem byM_nil (τ : Nat → Tag) (w : World) : ByM τ w (.slice none 0 0) [] := ⟨some_nil w, tg_nil _ _ _ _ _⟩
theorem own_small {w : World} {base : Nat} {e : TypeId} {size : Nat} {v : Value} {n : Nat} {xs : List Value} (h : w.ownsRow base e size v n xs) : n ≤ maxLen := by
  rcases h.2 with ⟨-, rfl⟩ | ⟨g, cap, cur, -, -, -, h1, h2, -⟩
  · exact Nat.zero_le _
  · exact Nat.le_trans h1 h2
theorem byM_own {τ : Nat → Tag} {w w' : World} {v : Value} {d : List Int} {n : Nat} (h : w'.ownsRow w.heap.size 5 1 v n (d.map (Value.int .u8))) (hb : Bytes d) : ByM (ext τ w.heap.size tFix) w' v d := by
  have hl : d.length = n := by simpa using h.1
  refine ⟨⟨bytesAt_own h, hb, by rw [hl]; exact own_small h⟩, fun b hv => ?_⟩
  obtain ⟨h1, h2⟩ := h.lt b hv
  exact ⟨h2, ext_new h1⟩
/-- A shard's entries. -/
def EntM (τ : Nat → Tag) (N : Nat) (w : World) (k : Nat) (v : Value) (es : List (List Int)) : Prop :=
  Tg τ w (tEnt k) v ∧ ∃ xs, w.ownsRow N 36 1 v es.length xs ∧ ∀ j, j < es.length → ∃ y, xs[j]? = some y ∧ ByM τ w y (es.getD j [])
theorem EntM.upd {τ τ' : Nat → Tag} {N : Nat} {w w' : World} {k : Nat} {v : Value} {es : List (List Int)} {row : Option Nat} (h : EntM τ N w k v es) (u : Upd τ τ' w w' row) (hf : ∀ b, row = some b → τ b ≠ tFix) (he : ∀ b, row = some b → τ b ≠ tEnt k) : EntM τ' N w' k v es := by
  obtain ⟨h1, xs, h2, h3⟩ := h
  refine ⟨h1.upd u, xs, h2.kept u.grow (h1.off he), fun j hj => ?_⟩
  obtain ⟨y, h4, h5⟩ := h3 j hj
  exact ⟨y, h4, h5.upd u hf⟩
theorem entM_nil (τ : Nat → Tag) (N : Nat) (w : World) (k : Nat) : EntM τ N w k (.slice none 0 0) [] := ⟨tg_nil _ _ _ _ _, [], World.ownsRow_nil _ _ _ _, fun _ hj => absurd hj (Nat.not_lt_zero _)⟩
theorem EntM.form {τ : Nat → Tag} {N : Nat} {w : World} {k : Nat} {v : Value} {es : List (List Int)} (h : EntM τ N w k v es) : ∃ a c, v = .slice a es.length c := by
  obtain ⟨-, xs, h2, -⟩ := h
  exact own_form' h2
theorem EntM.lists {τ : Nat → Tag} {N : Nat} {w : World} {k : Nat} {a : Option Addr} {n c : Nat} {es : List (List Int)} (h : EntM τ N w k (.slice a n c) es) (hn : es.length = n) : Lists w a n c es := by
  obtain ⟨-, xs, h2, h3⟩ := h
  rw [hn] at h2 h3
  obtain ⟨a', c', e, hc1, hc2⟩ := own_cap h2
  cases e
  refine ⟨hn, ?_, hc1, hc2, own_nil h2, fun j => ?_, fun j => ?_⟩
  · refine parts_of_row h2 hn (fun j hj => ?_)
    obtain ⟨y, h4, h5⟩ := h3 j hj
    obtain ⟨ya, yc, rfl⟩ := h5.here.at'.form
    exact ⟨ya, _, yc, h4, h5.here.at'⟩
  · by_cases hj : j < n
    · obtain ⟨y, -, h5⟩ := h3 j hj; exact h5.here.bytes
    · rw [List.getD_eq_getElem?_getD, List.getElem?_eq_none (by omega)]; exact nil_bytes
  · by_cases hj : j < n
    · obtain ⟨y, -, h5⟩ := h3 j hj; exact h5.here.short
    · rw [List.getD_eq_getElem?_getD, List.getElem?_eq_none (by omega)]; exact Nat.zero_le _
/-- A segment's bytes. -/
def PkM (τ : Nat → Tag) (N : Nat) (w : World) (k j : Nat) (v : Value) (d : List Int) : Prop := Tg τ w (tPk k j) v ∧ w.ownsRow N 5 1 v d.length (d.map (Value.int .u8)) ∧ Bytes d
/-- A shard's segments. -/
def SegM (τ : Nat → Tag) (N : Nat) (w : World) (k : Nat) (v : Value) (l : List Seg) : Prop :=
  Tg τ w (tSeg k) v ∧ ∃ vs, w.ownsRow N 111 3 v l.length vs ∧ ∀ j, j < l.length → ∃ y, vs[j * 3]? = some (.int .i64 (l.getD j seg0).first) ∧ vs[j * 3 + 1]? = some (.int .i64 (l.getD j seg0).count) ∧ vs[j * 3 + 2]? = some y ∧ PkM τ N w k j y (l.getD j seg0).packed
theorem PkM.upd {τ τ' : Nat → Tag} {N : Nat} {w w' : World} {k j : Nat} {v : Value} {d : List Int} {row : Option Nat} (h : PkM τ N w k j v d) (u : Upd τ τ' w w' row) (hp : ∀ b, row = some b → τ b ≠ tPk k j) : PkM τ' N w' k j v d := ⟨h.1.upd u, h.2.1.kept u.grow (h.1.off hp), h.2.2⟩
theorem SegM.upd {τ τ' : Nat → Tag} {N : Nat} {w w' : World} {k : Nat} {v : Value} {l : List Seg} {row : Option Nat} (h : SegM τ N w k v l) (u : Upd τ τ' w w' row) (hs : ∀ b, row = some b → τ b ≠ tSeg k) (hp : ∀ j b, row = some b → τ b ≠ tPk k j) : SegM τ' N w' k v l := by
  obtain ⟨h1, vs, h2, h3⟩ := h
  refine ⟨h1.upd u, vs, h2.kept u.grow (h1.off hs), fun j hj => ?_⟩
  obtain ⟨y, h4, h5, h6, h7⟩ := h3 j hj
  exact ⟨y, h4, h5, h6, h7.upd u (hp j)⟩
theorem segM_nil (τ : Nat → Tag) (N : Nat) (w : World) (k : Nat) : SegM τ N w k (.slice none 0 0) [] := ⟨tg_nil _ _ _ _ _, [], World.ownsRow_nil _ _ _ _, fun _ hj => absurd hj (Nat.not_lt_zero _)⟩
theorem SegM.segs {τ : Nat → Tag} {N : Nat} {w : World} {k : Nat} {v : Value} {l : List Seg} (h : SegM τ N w k v l) : SegsAt w v l := by
  obtain ⟨-, vs, h1, h2⟩ := h
  rcases h1.2 with ⟨hv, hn⟩ | ⟨g, cap, cur, rfl, -, hg, h3, h4, -⟩
  · exact ⟨none, 0, by rw [hv, hn], by omega, Nat.zero_le _, fun _ => rfl, .inl hn⟩
  · refine ⟨_, cap, rfl, h3, h4, (fun e => by cases e), .inr ⟨g, 0, rfl, lt_heap hg, fun j hj => ?_⟩⟩
    obtain ⟨y, g0, g1, g2, -, g3, g4⟩ := h2 j hj
    rw [Nat.zero_add]
    refine ⟨(h1.cellAt (j * 3) (by omega)).trans g0, (h1.cellAt (j * 3 + 1) (by omega)).trans g1, ?_⟩
    obtain ⟨pa, pc, rfl, q1, q2⟩ := own_cap g3
    exact ⟨pa, pc, (h1.cellAt (j * 3 + 2) (by omega)).trans g2, ⟨bytesAt_own g3, g4, by omega⟩, q1, q2⟩
theorem SegM.form {τ : Nat → Tag} {N : Nat} {w : World} {k : Nat} {v : Value} {l : List Seg} (h : SegM τ N w k v l) : ∃ a c, v = .slice a l.length c := by
  obtain ⟨a, c, e, -⟩ := h.segs
  exact ⟨a, c, e⟩
/-- A shard's cells. -/
abbrev ShV := Value × Value × Value
def shdV (s : Shd) (v : ShV) : List Value := [.int .i64 s.from', .int .i64 s.to', .int .i64 s.state, v.1, .int .i64 s.man.size, v.2.1, v.2.2]
/-- The shards. -/
structure ShM (τ : Nat → Tag) (N : Nat) (w : World) (sv : Value) (ss : List Shd) (V : Nat → ShV) : Prop where
  tag : Tg τ w tSh sv
  row : ∃ vs, w.ownsRow N 53 7 sv ss.length vs ∧ ∀ k, k < ss.length → ∀ i, i < 7 → vs[k * 7 + i]? = (shdV (ss.getD k shd0) (V k))[i]?
  ent : ∀ k, k < ss.length → EntM τ N w k (V k).1 (ss.getD k shd0).entries
  root : ∀ k, k < ss.length → ByM τ w (V k).2.1 (ss.getD k shd0).man.root
  seg : ∀ k, k < ss.length → SegM τ N w k (V k).2.2 (ss.getD k shd0).man.segs
theorem ShM.upd {τ τ' : Nat → Tag} {N : Nat} {w w' : World} {sv : Value} {ss : List Shd} {V : Nat → ShV} {row : Option Nat} (h : ShM τ N w sv ss V) (u : Upd τ τ' w w' row) (hr : ∀ b, row = some b → τ b = tNo ∨ τ b = tFl ∨ τ b = tBk ∨ τ b = tAn) : ShM τ' N w' sv ss V := by
  have ne : ∀ t : Tag, t ≠ tNo → t ≠ tFl → t ≠ tBk → t ≠ tAn → ∀ b, row = some b → τ b ≠ t := fun t h1 h2 h3 h4 b hb e => by
    rcases hr b hb with g | g | g | g
    · exact h1 (e.symm.trans g)
    · exact h2 (e.symm.trans g)
    · exact h3 (e.symm.trans g)
    · exact h4 (e.symm.trans g)
  have n1 := ne tFix (by decide) (by decide) (by decide) (by decide)
  have n2 := ne tSh (by decide) (by decide) (by decide) (by decide)
  have n3 := fun k => ne (tEnt k) (by simp [tEnt, tNo]) (by simp [tEnt, tFl]) (by simp [tEnt, tBk]) (by simp [tEnt, tAn])
  have n4 := fun k => ne (tSeg k) (by simp [tSeg, tNo]) (by simp [tSeg, tFl]) (by simp [tSeg, tBk]) (by simp [tSeg, tAn])
  have n5 := fun k j => ne (tPk k j) (by simp [tPk, tNo]) (by simp [tPk, tFl]) (by simp [tPk, tBk]) (by simp [tPk, tAn])
  obtain ⟨vs, h1, h2⟩ := h.row
  exact ⟨h.tag.upd u, ⟨vs, h1.kept u.grow (h.tag.off n2), h2⟩, fun k hk => (h.ent k hk).upd u n1 (n3 k), fun k hk => (h.root k hk).upd u n1, fun k hk => (h.seg k hk).upd u (n4 k) (n5 k)⟩
theorem ShM.shards {τ : Nat → Tag} {N : Nat} {w : World} {sv : Value} {ss : List Shd} {V : Nat → ShV} (h : ShM τ N w sv ss V) : ShdsAt w sv ss := by
  obtain ⟨vs, h1, h2⟩ := h.row
  rcases h1.2 with ⟨hv, hn⟩ | ⟨g, cap, cur, rfl, -, hg, h3, h4, -⟩
  · exact ⟨none, 0, by rw [hv, hn], by omega, Nat.zero_le _, fun _ => rfl, .inl hn⟩
  · refine ⟨_, cap, rfl, h3, h4, (fun e => by cases e), .inr ⟨g, 0, rfl, lt_heap hg, fun k hk => ?_⟩⟩
    have hc : ∀ i, i < 7 → w.cell? ⟨g, 0 + k * 7 + i, none⟩ = (shdV (ss.getD k shd0) (V k))[i]? := fun i hi => by rw [Nat.zero_add]; exact (h1.cellAt (k * 7 + i) (by omega)).trans (h2 k hk i hi)
    have hE := h.ent k hk
    obtain ⟨ea, ec, e1⟩ := hE.form
    obtain ⟨ra, rc, e2⟩ := (h.root k hk).here.at'.form
    obtain ⟨ga, gc, e3⟩ := (h.seg k hk).form
    rw [e1] at hE
    refine ⟨hc 0 (by omega), hc 1 (by omega), hc 2 (by omega), ⟨ea, ec, ?_, hE.lists rfl⟩, hc 4 (by omega), ⟨ra, rc, ?_, by rw [← e2]; exact (h.root k hk).here⟩, ⟨ga, gc, ?_, by rw [← e3]; exact (h.seg k hk).segs⟩⟩
    · rw [hc 3 (by omega), ← e1]; rfl
    · rw [hc 5 (by omega), ← e2]; rfl
    · rw [hc 6 (by omega), ← e3]; rfl
/-- A record's cells. -/
def recCs (r : Rec) (v : Value) : List Value := [.int .i64 r.shard, .int .i64 r.from', .int .i64 r.to', .int .i64 r.size, v]
/-- The book. -/
def BkM (τ : Nat → Tag) (N : Nat) (w : World) (bv : Value) (l : List Rec) : Prop :=
  Tg τ w tBk bv ∧ ∃ ys, w.ownsRow N 44 5 bv l.length ys ∧ ∀ j, j < l.length → ∃ rv, (∀ i, i < 5 → ys[j * 5 + i]? = (recCs (l.getD j rec0) rv)[i]?) ∧ ByM τ w rv (l.getD j rec0).root
theorem BkM.upd {τ τ' : Nat → Tag} {N : Nat} {w w' : World} {bv : Value} {l : List Rec} {row : Option Nat} (h : BkM τ N w bv l) (u : Upd τ τ' w w' row) (hf : ∀ b, row = some b → τ b ≠ tFix) (hb : ∀ b, row = some b → τ b ≠ tBk) : BkM τ' N w' bv l := by
  obtain ⟨h1, ys, h2, h3⟩ := h
  refine ⟨h1.upd u, ys, h2.kept u.grow (h1.off hb), fun j hj => ?_⟩
  obtain ⟨rv, h4, h5⟩ := h3 j hj
  exact ⟨rv, h4, h5.upd u hf⟩
theorem bkM_nil (τ : Nat → Tag) (N : Nat) (w : World) : BkM τ N w (.slice none 0 0) [] := ⟨tg_nil _ _ _ _ _, [], World.ownsRow_nil _ _ _ _, fun _ hj => absurd hj (Nat.not_lt_zero _)⟩
theorem BkM.recs {τ : Nat → Tag} {N : Nat} {w : World} {bv : Value} {l : List Rec} (h : BkM τ N w bv l) : RecsAt w bv l := by
  obtain ⟨-, ys, h1, h2⟩ := h
  rcases h1.2 with ⟨hv, hn⟩ | ⟨g, cap, cur, rfl, -, hg, h3, h4, -⟩
  · exact ⟨none, 0, by rw [hv, hn], by omega, Nat.zero_le _, fun _ => rfl, .inl hn⟩
  · refine ⟨_, cap, rfl, h3, h4, (fun e => by cases e), .inr ⟨g, 0, rfl, lt_heap hg, fun k hk => ?_⟩⟩
    obtain ⟨rv, h5, h6⟩ := h2 k hk
    have hc : ∀ i, i < 5 → w.cell? ⟨g, 0 + k * 5 + i, none⟩ = (recCs (l.getD k rec0) rv)[i]? := fun i hi => by rw [Nat.zero_add]; exact (h1.cellAt (k * 5 + i) (by omega)).trans (h5 i hi)
    obtain ⟨ra, rc, e2⟩ := h6.here.at'.form
    subst e2
    exact ⟨hc 0 (by omega), hc 1 (by omega), hc 2 (by omega), hc 3 (by omega), ra, rc, hc 4 (by omega), h6.here⟩
/-- The answers. -/
def ansV (x : Ans) (v : Value) : List Value := [.int .i64 x.err, .int .i64 x.shard, .int .i64 x.place, .int .i64 x.size, v]
def AnM (τ : Nat → Tag) (N : Nat) (w : World) (av : Value) (l : List Ans) : Prop :=
  Tg τ w tAn av ∧ ∃ ys, w.ownsRow N 40 5 av l.length ys ∧ ∀ j, j < l.length → ∃ rv, (∀ i, i < 5 → ys[j * 5 + i]? = (ansV (l.getD j ans0) rv)[i]?) ∧ ByM τ w rv (l.getD j ans0).root
theorem AnM.upd {τ τ' : Nat → Tag} {N : Nat} {w w' : World} {bv : Value} {l : List Ans} {row : Option Nat} (h : AnM τ N w bv l) (u : Upd τ τ' w w' row) (hf : ∀ b, row = some b → τ b ≠ tFix) (hb : ∀ b, row = some b → τ b ≠ tAn) : AnM τ' N w' bv l := by
  obtain ⟨h1, ys, h2, h3⟩ := h
  refine ⟨h1.upd u, ys, h2.kept u.grow (h1.off hb), fun j hj => ?_⟩
  obtain ⟨rv, h4, h5⟩ := h3 j hj
  exact ⟨rv, h4, h5.upd u hf⟩
theorem AnM.anss {τ : Nat → Tag} {N : Nat} {w : World} {bv : Value} {l : List Ans} (h : AnM τ N w bv l) : AnssAt w bv l := by
  obtain ⟨-, ys, h1, h2⟩ := h
  rcases h1.2 with ⟨hv, hn⟩ | ⟨g, cap, cur, rfl, -, hg, h3, h4, -⟩
  · exact ⟨none, 0, by rw [hv, hn], by omega, Nat.zero_le _, fun _ => rfl, .inl hn⟩
  · refine ⟨_, cap, rfl, h3, h4, (fun e => by cases e), .inr ⟨g, 0, rfl, lt_heap hg, fun k hk => ?_⟩⟩
    obtain ⟨rv, h5, h6⟩ := h2 k hk
    have hc : ∀ i, i < 5 → w.cell? ⟨g, 0 + k * 5 + i, none⟩ = (ansV (l.getD k ans0) rv)[i]? := fun i hi => by rw [Nat.zero_add]; exact (h1.cellAt (k * 5 + i) (by omega)).trans (h5 i hi)
    obtain ⟨ra, rc, e2⟩ := h6.here.at'.form
    subst e2
    exact ⟨hc 0 (by omega), hc 1 (by omega), hc 2 (by omega), hc 3 (by omega), ra, rc, hc 4 (by omega), h6.here⟩
/-- An answer by itself. -/
def AnV (τ : Nat → Tag) (w : World) (v : Value) (x : Ans) : Prop := ∃ rv, v = .agg #[.int .i64 x.err, .int .i64 x.shard, .int .i64 x.place, .int .i64 x.size, rv] ∧ ByM τ w rv x.root
/-- The fleet. -/
structure GoF (τ : Nat → Tag) (N : Nat) (w : World) (gp : Nat) (f : Flt) : Prop where
  low : N ≤ gp
  tag : τ gp = tFl
  parts : ∃ sv bv V, w.heap[gp]? = some (.cells #[sv, bv] 76 (0, 0)) ∧ ShM τ N w sv f.shards V ∧ BkM τ N w bv f.book
theorem GoF.upd {τ τ' : Nat → Tag} {N : Nat} {w w' : World} {gp : Nat} {f : Flt} {row : Option Nat} (h : GoF τ N w gp f) (u : Upd τ τ' w w' row) (hr : ∀ b, row = some b → τ b = tNo ∨ τ b = tAn) : GoF τ' N w' gp f := by
  obtain ⟨h0, h1, sv, bv, V, h2, h3, h4⟩ := h
  have ne : ∀ t : Tag, t ≠ tNo → t ≠ tAn → ∀ b, row = some b → τ b ≠ t := fun t h1 h4 b hb e => by
    rcases hr b hb with g | g
    · exact h1 (e.symm.trans g)
    · exact h4 (e.symm.trans g)
  have hg : w'.heap[gp]? = w.heap[gp]? := u.grow.block gp (lt_heap h2) (fun e => ne tFl (by decide) (by decide) gp e.symm h1)
  exact ⟨h0, (u.same gp (lt_heap h2)).trans h1, sv, bv, V, hg.trans h2, h3.upd u (fun b hb => (hr b hb).elim .inl (fun h => .inr (.inr (.inr h)))), h4.upd u (ne tFix (by decide) (by decide)) (ne tBk (by decide) (by decide))⟩
/-- What a call leaves as it was. -/
structure Keep (τ τ' : Nat → Tag) (N : Nat) (w w' : World) : Prop where
  low : Below N w w'
  size : w.heap.size ≤ w'.heap.size
  same : ∀ b, b < w.heap.size → τ' b = τ b
  block : ∀ b, b < w.heap.size → (τ b = tFix ∨ τ b = tNo ∨ τ b = tAn) → w'.heap[b]? = w.heap[b]?
theorem keep_upd {τ τ' : Nat → Tag} {N : Nat} {w w' : World} {row : Option Nat} (u : Upd τ τ' w w' row) (hN : N ≤ w.heap.size) (hr : ∀ b, row = some b → N ≤ b ∧ τ b ≠ tFix ∧ τ b ≠ tNo ∧ τ b ≠ tAn) : Keep τ τ' N w w' :=
  ⟨(Below.refl _ _).grown u.grow hN (fun b hb => (hr b hb).1), u.grow.size, u.same, fun b hb ht => u.grow.block b hb (fun e => by
    obtain ⟨-, n1, n2, n3⟩ := hr b e.symm
    rcases ht with h | h | h
    · exact n1 h
    · exact n2 h
    · exact n3 h)⟩
theorem Keep.trans {τ τ1 τ2 : Nat → Tag} {N : Nat} {a b c : World} (h : Keep τ τ1 N a b) (g : Keep τ1 τ2 N b c) : Keep τ τ2 N a c :=
  ⟨h.low.trans g.low, Nat.le_trans h.size g.size, fun k hk => (g.same k (Nat.lt_of_lt_of_le hk h.size)).trans (h.same k hk), fun k hk ht => (g.block k (Nat.lt_of_lt_of_le hk h.size) (by rw [h.same k hk]; exact ht)).trans (h.block k hk ht)⟩
theorem keep_call {τ : Nat → Tag} {N : Nat} {w w' : World} (h : Below w.heap.size w w') (hN : N ≤ w.heap.size) (t : Tag) : Keep τ (ext τ w.heap.size t) N w w' := keep_upd (upd_call h t) hN (fun _ hb => by cases hb)
/-- A new block of the call's own is written. -/
theorem keep_set {τ τ' : Nat → Tag} {N : Nat} {w0 w : World} (h : Keep τ τ' N w0 w) (hN : N ≤ w0.heap.size) {k : Nat} (hk : w0.heap.size ≤ k) (o : Nat) (u : Value) : Keep τ τ' N w0 (w.setCell ⟨k, o, none⟩ u) :=
  ⟨h.low.setCell (Nat.le_trans hN hk) _, by simpa using h.size, h.same, fun b hb ht => by
    rw [heap_setCell_other w ⟨k, o, none⟩ b u (fun e => by have e : b = k := e; omega)]
    exact h.block b hb ht⟩
theorem Keep.byM {τ τ' : Nat → Tag} {N : Nat} {w w' : World} {v : Value} {d : List Int} (h : Keep τ τ' N w w') (hb : ByM τ w v d) : ByM τ' w' v d := by
  refine ⟨⟨?_, hb.here.bytes, hb.here.short⟩, fun b hv => ?_⟩
  · rcases hb.here.at' with h1 | ⟨b, off, cp, h1, h2, h3⟩
    · exact .inl h1
    · refine .inr ⟨b, off, cp, h1, Nat.lt_of_lt_of_le h2 h.size, fun j hj => ?_⟩
      rw [World.cell?_of_block (a := ⟨b, off + j, none⟩) (h.block b h2 (.inl (hb.tag b (by subst h1; rfl)).2))]
      exact h3 j hj
  · obtain ⟨h1, h2⟩ := hb.tag b hv
    exact ⟨Nat.lt_of_lt_of_le h1 h.size, (h.same b h1).trans h2⟩
theorem Keep.anM {τ τ' : Nat → Tag} {N : Nat} {w w' : World} {v : Value} {l : List Ans} (h : Keep τ τ' N w w') (hb : AnM τ N w v l) : AnM τ' N w' v l := by
  obtain ⟨h1, ys, h2, h3⟩ := hb
  refine ⟨fun b hv => ?_, ys, ?_, fun j hj => ?_⟩
  · obtain ⟨g1, g2⟩ := h1 b hv
    exact ⟨Nat.lt_of_lt_of_le g1 h.size, (h.same b g1).trans g2⟩
  · refine ⟨h2.1, ?_⟩
    rcases h2.2 with hn | ⟨g, cap, cur, rfl, hb, hgg, rest⟩
    · exact .inl hn
    · exact .inr ⟨g, cap, cur, rfl, hb, (h.block g (lt_heap hgg) (.inr (.inr (h1 g rfl).2))).trans hgg, rest⟩
  · obtain ⟨rv, h4, h5⟩ := h3 j hj
    exact ⟨rv, h4, h.byM h5⟩
theorem Keep.box {τ τ' : Nat → Tag} {N : Nat} {w w' : World} {k : Nat} {x : Obj} (h : Keep τ τ' N w w') (ht : τ k = tNo) (hk : w.heap[k]? = some x) : w'.heap[k]? = some x := (h.block k (lt_heap hk) (.inr (.inl ht))).trans hk

end Go.Proofs.YtkjlchfmplcobagGreatDoor

/- A fleet that goes on, in memory: how it is changed. Nothing of the program's functions is in it. -/
namespace Go.Proofs.YtkjlchfmplcobagGreatDoor
open Go.RowKit

theorem shdV_length (s : Shd) (v : ShV) : (shdV s v).length = 7 := rfl
/-- The shards but for what the one of number k leads to. -/
structure ShO (τ : Nat → Tag) (N : Nat) (w : World) (sv : Value) (ss : List Shd) (V : Nat → ShV) (k : Nat) : Prop where
  tag : Tg τ w tSh sv
  row : ∃ vs, w.ownsRow N 53 7 sv ss.length vs ∧ ∀ k, k < ss.length → ∀ i, i < 7 → vs[k * 7 + i]? = (shdV (ss.getD k shd0) (V k))[i]?
  ent : ∀ j, j < ss.length → j ≠ k → EntM τ N w j (V j).1 (ss.getD j shd0).entries
  root : ∀ j, j < ss.length → j ≠ k → ByM τ w (V j).2.1 (ss.getD j shd0).man.root
  seg : ∀ j, j < ss.length → j ≠ k → SegM τ N w j (V j).2.2 (ss.getD j shd0).man.segs
theorem ShM.out {τ : Nat → Tag} {N : Nat} {w : World} {sv : Value} {ss : List Shd} {V : Nat → ShV} (h : ShM τ N w sv ss V) (k : Nat) : ShO τ N w sv ss V k := ⟨h.tag, h.row, fun j hj _ => h.ent j hj, fun j hj _ => h.root j hj, fun j hj _ => h.seg j hj⟩
theorem ShO.back {τ : Nat → Tag} {N : Nat} {w : World} {sv : Value} {ss : List Shd} {V : Nat → ShV} {k : Nat} (h : ShO τ N w sv ss V k) (h1 : EntM τ N w k (V k).1 (ss.getD k shd0).entries) (h2 : ByM τ w (V k).2.1 (ss.getD k shd0).man.root) (h3 : SegM τ N w k (V k).2.2 (ss.getD k shd0).man.segs) : ShM τ N w sv ss V := by
  refine ⟨h.tag, h.row, fun j hj => ?_, fun j hj => ?_, fun j hj => ?_⟩
  · by_cases e : j = k
    · subst e; exact h1
    · exact h.ent j hj e
  · by_cases e : j = k
    · subst e; exact h2
    · exact h.root j hj e
  · by_cases e : j = k
    · subst e; exact h3
    · exact h.seg j hj e
/-- What may be written while the shard k is turned. -/
def mine (k : Nat) (t : Tag) : Prop := t = tNo ∨ t = tFl ∨ t = tBk ∨ t = tAn ∨ t = tEnt k ∨ t = tSeg k ∨ ∃ j, t = tPk k j
theorem mine_fix {k : Nat} {t : Tag} (h : mine k t) : t ≠ tFix ∧ t ≠ tSh := by
  rcases h with rfl | rfl | rfl | rfl | rfl | rfl | ⟨j, rfl⟩ <;> simp [tNo, tFl, tBk, tAn, tEnt, tSeg, tPk, tFix, tSh]
theorem mine_other {k j : Nat} {t : Tag} (h : mine k t) (hj : j ≠ k) : t ≠ tEnt j ∧ t ≠ tSeg j ∧ ∀ i, t ≠ tPk j i := by
  rcases h with rfl | rfl | rfl | rfl | rfl | rfl | ⟨q, rfl⟩ <;> simp [tNo, tFl, tBk, tAn, tEnt, tSeg, tPk] <;> omega
theorem ShO.upd {τ τ' : Nat → Tag} {N : Nat} {w w' : World} {sv : Value} {ss : List Shd} {V : Nat → ShV} {k : Nat} {row : Option Nat} (h : ShO τ N w sv ss V k) (u : Upd τ τ' w w' row) (hr : ∀ b, row = some b → mine k (τ b)) : ShO τ' N w' sv ss V k := by
  obtain ⟨vs, h1, h2⟩ := h.row
  have n1 : ∀ b, row = some b → τ b ≠ tFix := fun b hb => (mine_fix (hr b hb)).1
  exact ⟨h.tag.upd u, ⟨vs, h1.kept u.grow (h.tag.off (fun b hb => (mine_fix (hr b hb)).2)), h2⟩, fun j hj hk => (h.ent j hj hk).upd u n1 (fun b hb => (mine_other (hr b hb) hk).1), fun j hj hk => (h.root j hj hk).upd u n1, fun j hj hk => (h.seg j hj hk).upd u (fun b hb => (mine_other (hr b hb) hk).2.1) (fun i b hb => (mine_other (hr b hb) hk).2.2 i)⟩
/-- Where a shard's cells lie. -/
theorem ShO.cells {τ : Nat → Tag} {N : Nat} {w : World} {sa : Option Addr} {n c k : Nat} {ss : List Shd} {V : Nat → ShV} (h : ShO τ N w (.slice sa n c) ss V k) (hn : ss.length = n) (hk : k < n) :
    ∃ sb, sa = some ⟨sb, 0, none⟩ ∧ N ≤ sb ∧ sb < w.heap.size ∧ τ sb = tSh ∧ (∀ i, w.frozen? ⟨sb, i, none⟩ = false) ∧ ∀ i, i < 7 → w.cell? ⟨sb, k * 7 + i, none⟩ = (shdV (ss.getD k shd0) (V k))[i]? := by
  obtain ⟨vs, h1, h2⟩ := h.row
  rw [hn] at h1 h2
  rcases h1.2 with ⟨-, h0⟩ | ⟨g, cap, cur, e, hb, hg, -⟩
  · omega
  · simp only [Value.slice.injEq, true_and] at e
    obtain ⟨rfl, rfl⟩ := e
    obtain ⟨t1, t2⟩ := h.tag g rfl
    exact ⟨g, rfl, hb, t1, t2, fun i => h1.frozenAt i, fun i hi => (h1.cellAt (k * 7 + i) (by omega)).trans (h2 k hk i hi)⟩
/-- One of its cells is written. -/
theorem ShO.store {τ : Nat → Tag} {N : Nat} {w : World} {sb n c k i : Nat} {ss : List Shd} {V : Nat → ShV} {s' : Shd} {v' : ShV} {u : Value} (h : ShO τ N w (.slice (some ⟨sb, 0, none⟩) n c) ss V k) (hn : ss.length = n) (hk : k < n) (hi : i < 7) (hs : shdV s' v' = (shdV (ss.getD k shd0) (V k)).set i u) :
    ShO τ N (w.setCell ⟨sb, k * 7 + i, none⟩ u) (.slice (some ⟨sb, 0, none⟩) n c) (ss.set k s') (fun j => if j = k then v' else V j) k := by
  obtain ⟨vs, h1, h2⟩ := h.row
  have ht := (h.tag sb rfl).2
  have U := upd_set τ w sb (k * 7 + i) u
  have ne : ∀ t : Tag, t ≠ tSh → ∀ b, some sb = some b → τ b ≠ t := fun t h1 b hb e => by cases hb; exact h1 (e.symm.trans ht)
  have hlen : (ss.set k s').length = ss.length := List.length_set
  rw [hn] at h1 h2
  obtain ⟨h3, -⟩ := h1.stored (k * 7 + i) u
  refine ⟨h.tag.upd U, ⟨vs.set (k * 7 + i) u, by rw [hlen, hn]; exact h3, fun j hj q hq => ?_⟩, fun j hj hjk => ?_, fun j hj hjk => ?_, fun j hj hjk => ?_⟩
  · rw [hlen, hn] at hj
    by_cases e : j = k
    · subst e
      rw [if_pos rfl, getD_set_same (by omega), hs]
      by_cases e2 : q = i
      · subst e2
        rw [List.getElem?_set_self (by rw [h1.1]; omega), List.getElem?_set_self (by rw [shdV_length]; exact hi)]
      · rw [List.getElem?_set_ne (by omega), List.getElem?_set_ne (by omega)]
        exact h2 j hj q hq
    · rw [if_neg e, getD_set_other (fun h => e h.symm), List.getElem?_set_ne (by omega)]
      exact h2 j hj q hq
  · rw [hlen] at hj
    rw [if_neg hjk, getD_set_other (fun h => hjk h.symm)]
    exact (h.ent j hj hjk).upd U (ne _ (by decide)) (ne _ (by simp [tEnt, tSh]))
  · rw [hlen] at hj
    rw [if_neg hjk, getD_set_other (fun h => hjk h.symm)]
    exact (h.root j hj hjk).upd U (ne _ (by decide))
  · rw [hlen] at hj
    rw [if_neg hjk, getD_set_other (fun h => hjk h.symm)]
    exact (h.seg j hj hjk).upd U (ne _ (by simp [tSeg, tSh])) (fun q => ne _ (by simp [tPk, tSh]))
theorem set_set {α : Type} (l : List α) (k : Nat) (x y : α) : (l.set k x).set k y = l.set k y := List.set_set ..
/-- A list of values, m for each of a list's elements, one element more. -/
theorem rows_snoc {α : Type} {m : Nat} {l : List α} {x d : α} {ys news : List Value} {F : Nat → α → Value → List Value} {R : α → Value → Prop} {v : Value} (hl : ys.length = l.length * m) (h : ∀ j, j < l.length → ∃ rv, (∀ i, i < m → ys[j * m + i]? = (F j (l.getD j d) rv)[i]?) ∧ R (l.getD j d) rv) (hn : ∀ i, i < m → news[i]? = (F l.length x v)[i]?) (hR : R x v) :
    ∀ j, j < (l ++ [x]).length → ∃ rv, (∀ i, i < m → (ys ++ news)[j * m + i]? = (F j ((l ++ [x]).getD j d) rv)[i]?) ∧ R ((l ++ [x]).getD j d) rv := fun j hj => by
  by_cases e : j < l.length
  · obtain ⟨rv, h1, h2⟩ := h j e
    have eg : (l ++ [x]).getD j d = l.getD j d := by rw [snoc_get, if_pos e]
    rw [eg]
    refine ⟨rv, fun i hi => ?_, h2⟩
    have hlt : j * m + i < ys.length := by
      rw [hl]
      have : (j + 1) * m ≤ l.length * m := Nat.mul_le_mul_right m e
      rw [Nat.add_mul, Nat.one_mul] at this
      omega
    rw [List.getElem?_append_left hlt]
    exact h1 i hi
  · obtain rfl : j = l.length := by simp at hj; omega
    have eg : (l ++ [x]).getD l.length d = x := by rw [snoc_get, if_neg (Nat.lt_irrefl _), if_pos rfl]
    rw [eg]
    refine ⟨v, fun i hi => ?_, hR⟩
    rw [List.getElem?_append_right (by rw [hl]; omega), hl, show l.length * m + i - l.length * m = i by omega]
    exact hn i hi
/-- A block to which a row has grown is for what it was for, or is new. -/
theorem grown_tag {τ : Nat → Tag} {w w' : World} {t : Tag} {v : Value} {g n cap : Nat} (h : Tg τ w t v) (hg : v.ownBlock = some g ∨ g = w.heap.size) (hlt : g < w'.heap.size) : Tg (ext τ w.heap.size t) w' t (.slice (some ⟨g, 0, none⟩) n cap) := fun b hb => by
  cases hb
  refine ⟨hlt, ?_⟩
  rcases hg with hg | rfl
  · obtain ⟨h1, h2⟩ := h g hg
    rw [ext_old h1]; exact h2
  · exact ext_new (Nat.le_refl _)
/-- The entries have grown by one. -/
theorem EntM.snoc {τ : Nat → Tag} {N k : Nat} {w w' : World} {v y : Value} {es : List (List Int)} {e : List Int} {g cap : Nat} {xs : List Value} (hT : Tg τ w (tEnt k) v) (hx : ∀ j, j < es.length → ∃ y, xs[j]? = some y ∧ ByM τ w y (es.getD j [])) (hl : xs.length = es.length)
    (ho : w'.ownsRow N 36 1 (.slice (some ⟨g, 0, none⟩) (es.length + 1) cap) (es.length + 1) (xs ++ [y])) (hg : w.grownBy w' v.ownBlock) (ha : v.ownBlock = some g ∨ g = w.heap.size) (hlt : g < w'.heap.size) (hy : ByM τ w y e) :
    EntM (ext τ w.heap.size (tEnt k)) N w' k (.slice (some ⟨g, 0, none⟩) (es.length + 1) cap) (es ++ [e]) := by
  have U : Upd τ (ext τ w.heap.size (tEnt k)) w w' v.ownBlock := ⟨hg, fun _ hb => ext_old hb⟩
  have nf : ∀ b, v.ownBlock = some b → τ b ≠ tFix := fun b hb e => by have := (hT b hb).2; rw [e] at this; simp [tFix, tEnt] at this
  refine ⟨grown_tag hT ha hlt, xs ++ [y], by rw [List.length_append]; exact ho, fun j hj => ?_⟩
  by_cases q : j < es.length
  · obtain ⟨z, h1, h2⟩ := hx j q
    refine ⟨z, by rw [List.getElem?_append_left (by omega)]; exact h1, ?_⟩
    rw [snoc_get, if_pos q]
    exact h2.upd U nf
  · obtain rfl : j = es.length := by simp at hj; omega
    refine ⟨y, by rw [List.getElem?_append_right (by omega), hl, Nat.sub_self]; rfl, ?_⟩
    rw [snoc_get, if_neg (Nat.lt_irrefl _), if_pos rfl]
    exact hy.upd U nf
/-- So has the book. -/
theorem BkM.snoc {τ : Nat → Tag} {N : Nat} {w w' : World} {v rv : Value} {l : List Rec} {r : Rec} {g cap : Nat} {ys : List Value} (hT : Tg τ w tBk v) (hl : ys.length = l.length * 5) (hx : ∀ j, j < l.length → ∃ rv, (∀ i, i < 5 → ys[j * 5 + i]? = (recCs (l.getD j rec0) rv)[i]?) ∧ ByM τ w rv (l.getD j rec0).root)
    (ho : w'.ownsRow N 44 5 (.slice (some ⟨g, 0, none⟩) (l.length + 1) cap) (l.length + 1) (ys ++ recCs r rv)) (hg : w.grownBy w' v.ownBlock) (ha : v.ownBlock = some g ∨ g = w.heap.size) (hlt : g < w'.heap.size) (hy : ByM τ w rv r.root) :
    BkM (ext τ w.heap.size tBk) N w' (.slice (some ⟨g, 0, none⟩) (l.length + 1) cap) (l ++ [r]) := by
  have U : Upd τ (ext τ w.heap.size tBk) w w' v.ownBlock := ⟨hg, fun _ hb => ext_old hb⟩
  have nf : ∀ b, v.ownBlock = some b → τ b ≠ tFix := fun b hb e => by have := (hT b hb).2; rw [e] at this; simp [tFix, tBk] at this
  refine ⟨grown_tag hT ha hlt, ys ++ recCs r rv, by rw [List.length_append]; exact ho, ?_⟩
  exact rows_snoc (F := fun _ x v => recCs x v) (R := fun x v => ByM (ext τ w.heap.size tBk) w' v x.root) hl (fun j hj => by obtain ⟨q, h1, h2⟩ := hx j hj; exact ⟨q, h1, h2.upd U nf⟩) (fun i hi => rfl) (hy.upd U nf)
/-- And the answers. -/
theorem AnM.snoc {τ : Nat → Tag} {N : Nat} {w w' : World} {v rv : Value} {l : List Ans} {r : Ans} {g cap : Nat} {ys : List Value} (hT : Tg τ w tAn v) (hl : ys.length = l.length * 5) (hx : ∀ j, j < l.length → ∃ rv, (∀ i, i < 5 → ys[j * 5 + i]? = (ansV (l.getD j ans0) rv)[i]?) ∧ ByM τ w rv (l.getD j ans0).root)
    (ho : w'.ownsRow N 40 5 (.slice (some ⟨g, 0, none⟩) (l.length + 1) cap) (l.length + 1) (ys ++ ansV r rv)) (hg : w.grownBy w' v.ownBlock) (ha : v.ownBlock = some g ∨ g = w.heap.size) (hlt : g < w'.heap.size) (hy : ByM τ w rv r.root) :
    AnM (ext τ w.heap.size tAn) N w' (.slice (some ⟨g, 0, none⟩) (l.length + 1) cap) (l ++ [r]) := by
  have U : Upd τ (ext τ w.heap.size tAn) w w' v.ownBlock := ⟨hg, fun _ hb => ext_old hb⟩
  have nf : ∀ b, v.ownBlock = some b → τ b ≠ tFix := fun b hb e => by have := (hT b hb).2; rw [e] at this; simp [tFix, tAn] at this
  refine ⟨grown_tag hT ha hlt, ys ++ ansV r rv, by rw [List.length_append]; exact ho, ?_⟩
  exact rows_snoc (F := fun _ x v => ansV x v) (R := fun x v => ByM (ext τ w.heap.size tAn) w' v x.root) hl (fun j hj => by obtain ⟨q, h1, h2⟩ := hx j hj; exact ⟨q, h1, h2.upd U nf⟩) (fun i hi => rfl) (hy.upd U nf)

/-- The fleet but for its shards. -/
structure GoB (τ : Nat → Tag) (N : Nat) (w : World) (gp : Nat) (sv bv : Value) (l : List Rec) : Prop where
  low : N ≤ gp
  tag : τ gp = tFl
  box : w.heap[gp]? = some (.cells #[sv, bv] 76 (0, 0))
  bk : BkM τ N w bv l
theorem GoB.upd {τ τ' : Nat → Tag} {N : Nat} {w w' : World} {gp : Nat} {sv bv : Value} {l : List Rec} {row : Option Nat} (h : GoB τ N w gp sv bv l) (u : Upd τ τ' w w' row) (hr : ∀ b, row = some b → τ b ≠ tFl ∧ τ b ≠ tBk ∧ τ b ≠ tFix) : GoB τ' N w' gp sv bv l :=
  ⟨h.low, (u.same gp (lt_heap h.box)).trans h.tag, (u.grow.block gp (lt_heap h.box) (fun e => (hr gp e.symm).1 h.tag)).trans h.box, h.bk.upd u (fun b hb => (hr b hb).2.2) (fun b hb => (hr b hb).2.1)⟩
theorem GoB.goF {τ : Nat → Tag} {N : Nat} {w : World} {gp : Nat} {sv bv : Value} {l : List Rec} {ss : List Shd} {V : Nat → ShV} (h : GoB τ N w gp sv bv l) (hS : ShM τ N w sv ss V) : GoF τ N w gp ⟨ss, l⟩ := ⟨h.low, h.tag, sv, bv, V, h.box, hS, h.bk⟩
theorem GoF.open {τ : Nat → Tag} {N : Nat} {w : World} {gp : Nat} {f : Flt} (h : GoF τ N w gp f) : ∃ sa sc ba bc V, GoB τ N w gp (.slice sa f.shards.length sc) (.slice ba f.book.length bc) f.book ∧ ShM τ N w (.slice sa f.shards.length sc) f.shards V := by
  obtain ⟨h0, h1, sv, bv, V, h2, h3, h4⟩ := h
  obtain ⟨sa, sc, e1, -⟩ := h3.shards
  obtain ⟨ba, bc, e2, -⟩ := h4.recs
  subst e1
  subst e2
  exact ⟨sa, sc, ba, bc, V, ⟨h0, h1, h2, h4⟩, h3⟩
theorem no_row {P : Nat → Prop} : ∀ b, (none : Option Nat) = some b → P b := fun _ hb => by cases hb
/-- A call that only makes memory has ended, and an answer is written into a variable of the caller's own. -/
theorem GoF.five {τ : Nat → Tag} {N : Nat} {w : World} {gp R : Nat} {f : Flt} (h : GoF τ N w gp f) (hR : τ R = tNo) (u0 u1 u2 u3 u4 : Value) : GoF τ N (((((w.setCell ⟨R, 0, none⟩ u0).setCell ⟨R, 1, none⟩ u1).setCell ⟨R, 2, none⟩ u2).setCell ⟨R, 3, none⟩ u3).setCell ⟨R, 4, none⟩ u4) gp f := by
  have hr : ∀ b, some R = some b → τ b = tNo ∨ τ b = tAn := fun b hb => by cases hb; exact .inl hR
  exact ((((h.upd (upd_set τ _ R 0 u0) hr).upd (upd_set τ _ R 1 u1) hr).upd (upd_set τ _ R 2 u2) hr).upd (upd_set τ _ R 3 u3) hr).upd (upd_set τ _ R 4 u4) hr
theorem ByM.five {τ : Nat → Tag} {w : World} {R : Nat} {v : Value} {d : List Int} (h : ByM τ w v d) (hR : τ R = tNo) (u0 u1 u2 u3 u4 : Value) : ByM τ (((((w.setCell ⟨R, 0, none⟩ u0).setCell ⟨R, 1, none⟩ u1).setCell ⟨R, 2, none⟩ u2).setCell ⟨R, 3, none⟩ u3).setCell ⟨R, 4, none⟩ u4) v d := by
  have hr : ∀ b, some R = some b → τ b ≠ tFix := fun b hb => by cases hb; rw [hR]; decide
  exact ((((h.upd (upd_set τ _ R 0 u0) hr).upd (upd_set τ _ R 1 u1) hr).upd (upd_set τ _ R 2 u2) hr).upd (upd_set τ _ R 3 u3) hr).upd (upd_set τ _ R 4 u4) hr
theorem Keep.five {τ τ' : Nat → Tag} {N R : Nat} {w0 w : World} (h : Keep τ τ' N w0 w) (hN : N ≤ w0.heap.size) (hR : w0.heap.size ≤ R) (u0 u1 u2 u3 u4 : Value) : Keep τ τ' N w0 (((((w.setCell ⟨R, 0, none⟩ u0).setCell ⟨R, 1, none⟩ u1).setCell ⟨R, 2, none⟩ u2).setCell ⟨R, 3, none⟩ u3).setCell ⟨R, 4, none⟩ u4) :=
  keep_set (keep_set (keep_set (keep_set (keep_set h hN hR 0 u0) hN hR 1 u1) hN hR 2 u2) hN hR 3 u3) hN hR 4 u4
/-- What a step leaves: an answer, and the fleet. -/
def Went (τ : Nat → Tag) (N gp : Nat) (w w' : World) (av : Value) (fa : Flt × Ans) : Prop := ∃ τ', AnV τ' w' av fa.2 ∧ GoF τ' N w' gp fa.1 ∧ Keep τ τ' N w w'
/-- Nothing was done. -/
theorem went_no {τ : Nat → Tag} {N gp R : Nat} {w w1 : World} {f : Flt} {x : Ans} (h : GoF τ N w gp f) (hN : N ≤ w.heap.size) (hb : Below w.heap.size w w1) (hR : w.heap.size ≤ R) (hx : x.root = []) (u0 u1 u2 u3 u4 : Value) :
    Went τ N gp w (((((w1.setCell ⟨R, 0, none⟩ u0).setCell ⟨R, 1, none⟩ u1).setCell ⟨R, 2, none⟩ u2).setCell ⟨R, 3, none⟩ u3).setCell ⟨R, 4, none⟩ u4) (.agg #[.int .i64 x.err, .int .i64 x.shard, .int .i64 x.place, .int .i64 x.size, .slice none 0 0]) (f, x) :=
  ⟨ext τ w.heap.size tNo, ⟨_, rfl, by rw [hx]; exact byM_nil _ _⟩, (h.upd (upd_call hb tNo) no_row).five (ext_new hR) _ _ _ _ _, (keep_call hb hN tNo).five hN hR _ _ _ _ _⟩

/-- A shard's cell is written that leads nowhere, or to what is there. -/
theorem ShM.turn {τ : Nat → Tag} {N sb n c k i : Nat} {w : World} {ss : List Shd} {V : Nat → ShV} {s' : Shd} {v' : ShV} {u : Value} (h : ShM τ N w (.slice (some ⟨sb, 0, none⟩) n c) ss V) (hn : ss.length = n) (hk : k < n) (hi : i < 7) (hs : shdV s' v' = (shdV (ss.getD k shd0) (V k)).set i u) (h1 : EntM τ N w k v'.1 s'.entries) (h2 : ByM τ w v'.2.1 s'.man.root) (h3 : SegM τ N w k v'.2.2 s'.man.segs) :
    ShM τ N (w.setCell ⟨sb, k * 7 + i, none⟩ u) (.slice (some ⟨sb, 0, none⟩) n c) (ss.set k s') (fun j => if j = k then v' else V j) := by
  have ht := (h.tag sb rfl).2
  have U := upd_set τ w sb (k * 7 + i) u
  have ne : ∀ t : Tag, t ≠ tSh → ∀ b, some sb = some b → τ b ≠ t := fun t h1 b hb e => by cases hb; exact h1 (e.symm.trans ht)
  refine ((h.out k).store (i := i) (u := u) (s' := s') (v' := v') hn hk hi hs).back ?_ ?_ ?_
  · rw [if_pos rfl, getD_set_same (by omega)]; exact h1.upd U (ne _ (by decide)) (ne _ (by simp [tEnt, tSh]))
  · rw [if_pos rfl, getD_set_same (by omega)]; exact h2.upd U (ne _ (by decide))
  · rw [if_pos rfl, getD_set_same (by omega)]; exact h3.upd U (ne _ (by simp [tSeg, tSh])) (fun j => ne _ (by simp [tPk, tSh]))
theorem GoB.turn {τ : Nat → Tag} {N gp sb o : Nat} {w : World} {sv bv u : Value} {l : List Rec} (h : GoB τ N w gp sv bv l) (ht : τ sb = tSh) : GoB τ N (w.setCell ⟨sb, o, none⟩ u) gp sv bv l := h.upd (upd_set τ w sb o u) (fun b hb => by cases hb; rw [ht]; decide)
theorem keep_turn {τ : Nat → Tag} {N sb o : Nat} {w : World} {u : Value} (hN : N ≤ w.heap.size) (hs : N ≤ sb) (ht : τ sb = tSh) : Keep τ τ N w (w.setCell ⟨sb, o, none⟩ u) := keep_upd (upd_set τ w sb o u) hN (fun b hb => by cases hb; rw [ht]; exact ⟨hs, by decide⟩)
/-- A shard's answer is told, its head copied. -/
theorem went_head {τ τ' : Nat → Tag} {N gp R : Nat} {w W w8 : World} {f' : Flt} {k n : Int} {d : List Int} {ta : Option Addr} {tc : Nat} (hF : GoF τ' N W gp f') (hK : Keep τ τ' N w W) (hN : N ≤ w.heap.size) (hR : τ' R = tNo) (hRl : R < W.heap.size) (hRw : w.heap.size ≤ R) (hb8 : Below W.heap.size W w8) (ho8 : w8.ownsRow W.heap.size 5 1 (.slice ta d.length tc) d.length (d.map (Value.int .u8))) (hd : Bytes d) (u0 u1 u2 u3 u4 : Value) :
    Went τ N gp w (((((w8.setCell ⟨R, 0, none⟩ u0).setCell ⟨R, 1, none⟩ u1).setCell ⟨R, 2, none⟩ u2).setCell ⟨R, 3, none⟩ u3).setCell ⟨R, 4, none⟩ u4) (.agg #[.int .i64 0, .int .i64 k, .int .i64 0, .int .i64 n, .slice ta d.length tc]) (f', ⟨0, k, 0, n, d⟩) := by
  have hN7 : N ≤ W.heap.size := Nat.le_trans hN hK.size
  have hr8 : ext τ' W.heap.size tFix R = tNo := (ext_old hRl).trans hR
  exact ⟨ext τ' W.heap.size tFix, ⟨_, rfl, (byM_own ho8 hd).five hr8 _ _ _ _ _⟩, (hF.upd (upd_call hb8 tFix) no_row).five hr8 _ _ _ _ _, (hK.trans (keep_call hb8 hN7 tFix)).five hN hRw _ _ _ _ _⟩

end Go.Proofs.YtkjlchfmplcobagGreatDoor

/- The walks of bytes.Clone at whatever bytes, and of refused, copyOf and taken: package fleet as it landed. -/
namespace Go.Proofs.YtkjlchfmplcobagGreatDoor
open Go.RowKit

set_option maxRecDepth 100000 in
theorem cloneN_any (w : World) : Calls Tryz.prog 30 #[.slice none 0 0] w fun e w' => e = .returned (.slice none 0 0) ∧ w' = w := by
  have qs : ∀ (W : World), (binOp .eql 36 (.slice none 0 0) (.slice none 0 0)).run Tryz.prog W = .ok (.bool true) W := fun W => Lib.run_eql_slice_nil W _ _ none 0 0 0 0 Tryz.underlying36
  go_enter Tryz.func30, Tryz.ntmps30
  go_wp2_with fail
  go_ret
  exact ⟨rfl, rfl⟩
theorem cloneM_any (d : List Int) (v : Value) (w : World) (h : Some' w v d) (hd : d.length ≤ 1000000) :
    Calls Tryz.prog 30 #[v] w fun e w' => ∃ xa xc, e = .returned (.slice xa d.length xc) ∧ w'.ownsRow w.heap.size 5 1 (.slice xa d.length xc) d.length (d.map (Value.int .u8)) ∧ Below w.heap.size w w' := by
  have h0 := h.at'
  obtain ⟨a, c, rfl⟩ := h0.form
  cases a with
  | some ad => exact cloneB_any d ad _ c w h0 rfl hd
  | none =>
    obtain ⟨hl, hc⟩ : d = [] ∧ c = 0 := by
      rcases h0 with ⟨rfl, a, c', e, hc⟩ | ⟨b, off, cp, e, -⟩
      · cases e; exact ⟨rfl, hc rfl⟩
      · cases e
    subst hl
    subst hc
    refine (cloneN_any w).mono ?_
    rintro e w' ⟨rfl, rfl⟩
    exact ⟨none, 0, rfl, World.ownsRow_nil _ _ _ _, Below.refl _ _⟩
set_option maxRecDepth 100000 in
theorem refused_any (x : Int) (w : World) : Calls Tryz.prog 43 #[.int .i64 x] w fun e w' => e = .returned (.agg #[.int .i64 x, .int .i64 0, .int .i64 0, .int .i64 0, .slice none 0 0]) ∧ Below w.heap.size w w' := by
  have b0 : Below w.heap.size w (w.alloc (.cells #[.int .i64 x, .int .i64 0, .int .i64 0, .int .i64 0, .slice none 0 0] 40)) := (Below.refl _ _).alloc (Nat.le_refl _) _
  go_enter Tryz.func43, Tryz.ntmps43
  go_wp2_with fail
  exact bodyPost_ret (v := .agg #[.int .i64 x, .int .i64 0, .int .i64 0, .int .i64 0, .slice none 0 0]) (by simp [results, Tryz.results43, go_sem]) rfl ⟨rfl, b0⟩
set_option maxRecDepth 100000 in
set_option maxHeartbeats 2000000 in
theorem copyOf_any (n : Int) (d : List Int) (v : Value) (w : World) (h : Some' w v d) (hd : d.length ≤ 1000000) :
    Calls Tryz.prog 52 #[.agg #[.int .i64 n, v]] w fun e w' => ∃ xa xc, e = .returned (.agg #[.int .i64 n, .slice xa d.length xc]) ∧ w'.ownsRow w.heap.size 5 1 (.slice xa d.length xc) d.length (d.map (Value.int .u8)) ∧ Below w.heap.size w w' := by
  obtain ⟨va, vc, rfl⟩ := h.at'.form
  have b0 : Below w.heap.size w ((w.alloc (.cells #[.int .i64 n, .slice va d.length vc] 38)).alloc (.cells #[.int .i64 0, .slice none 0 0] 38)) := ((Below.refl _ _).alloc (Nat.le_refl _) _).alloc (by simp) _
  have x0 := box_one w #[.int .i64 n, .slice va d.length vc] 38 (.cells #[.int .i64 0, .slice none 0 0] 38)
  have y0 := box_last w (.cells #[.int .i64 n, .slice va d.length vc] 38) #[.int .i64 0, .slice none 0 0] 38
  have z0 : ((w.alloc (.cells #[.int .i64 n, .slice va d.length vc] 38)).alloc (.cells #[.int .i64 0, .slice none 0 0] 38)).heap.size = w.heap.size + 2 := by simp
  have hC := fun w' (hb : Below w.heap.size w w') => cloneM_any d _ w' (h.below hb) hd
  go_enter Tryz.func52, Tryz.ntmps52
  go_wp2_with fail
  generalize (w.alloc (.cells #[.int .i64 n, .slice va d.length vc] 38)).alloc (.cells #[.int .i64 0, .slice none 0 0] 38) = w0 at *
  obtain ⟨u0, u1, u2, u3⟩ := box_two x0
  obtain ⟨t0, t1, t2, t3⟩ := box_two y0
  have hsd : w0.drew.heap.size = w.heap.size + 2 := z0
  go_region_with (first | (go_at_call 30; refine (hC _ b0.drew).mono ?_; rintro e w5 ⟨xa, xc, rfl, hO, hb5⟩; obtain ⟨p0, p1, p2, p3⟩ := box_two (box_kept (w := w0.drew) x0 hb5); obtain ⟨q0, q1, q2, q3⟩ := box_two (box_kept (w := w0.drew) y0 hb5)))
  all_goals
    have b5 : Below w.heap.size w w5 := b0.drew.trans (hb5.mono b0.drew.size)
    rw [hsd] at hO
    go_wp2_with fail
    refine bodyPost_ret (v := .agg #[.int .i64 n, .slice xa d.length xc]) (by simp [results, Tryz.results52, go_sem, q0, q1]) rfl ⟨xa, xc, rfl, ?_, ?_⟩
    · exact ownsRow_base (ownsRow_setCell_below (ownsRow_setCell_below hO (a := ⟨w.heap.size + 1, 0, none⟩) (show w.heap.size + 1 < _ by omega) _) (a := ⟨w.heap.size + 1, 1, none⟩) (show w.heap.size + 1 < _ by omega) _) (by omega)
    · exact (b5.setCell (Nat.le_succ _) _).setCell (Nat.le_succ _) _
set_option maxRecDepth 100000 in
set_option maxHeartbeats 2000000 in
theorem taken_any (k n : Int) (d : List Int) (v : Value) (w : World) (h : Some' w v d) (hd : d.length ≤ 1000000) :
    Calls Tryz.prog 68 #[.int .i64 k, .agg #[.int .i64 n, v]] w fun e w' => ∃ xa xc, e = .returned (.agg #[.int .i64 0, .int .i64 k, .int .i64 0, .int .i64 n, .slice xa d.length xc]) ∧ w'.ownsRow w.heap.size 5 1 (.slice xa d.length xc) d.length (d.map (Value.int .u8)) ∧ Below w.heap.size w w' := by
  obtain ⟨va, vc, rfl⟩ := h.at'.form
  have b0 : Below w.heap.size w ((w.alloc (.cells #[.int .i64 n, .slice va d.length vc] 38)).alloc (.cells #[.int .i64 0, .int .i64 0, .int .i64 0, .int .i64 0, .slice none 0 0] 40)) := ((Below.refl _ _).alloc (Nat.le_refl _) _).alloc (by simp) _
  have x0 := box_one w #[.int .i64 n, .slice va d.length vc] 38 (.cells #[.int .i64 0, .int .i64 0, .int .i64 0, .int .i64 0, .slice none 0 0] 40)
  have y0 := box_last w (.cells #[.int .i64 n, .slice va d.length vc] 38) #[.int .i64 0, .int .i64 0, .int .i64 0, .int .i64 0, .slice none 0 0] 40
  have z0 : ((w.alloc (.cells #[.int .i64 n, .slice va d.length vc] 38)).alloc (.cells #[.int .i64 0, .int .i64 0, .int .i64 0, .int .i64 0, .slice none 0 0] 40)).heap.size = w.heap.size + 2 := by simp
  have hC := copyOf_any n d _ _ (h.below b0) hd
  obtain ⟨u0, u1, u2, u3⟩ := box_two x0
  go_enter Tryz.func68, Tryz.ntmps68
  go_wp2_with fail
  generalize (w.alloc (.cells #[.int .i64 n, .slice va d.length vc] 38)).alloc (.cells #[.int .i64 0, .int .i64 0, .int .i64 0, .int .i64 0, .slice none 0 0] 40) = w0 at *
  refine hC.mono ?_
  rintro e w5 ⟨xa, xc, rfl, hO, hb5⟩
  have b5 : Below w.heap.size w w5 := b0.trans (hb5.mono b0.size)
  have y5 := box_kept y0 hb5
  rw [z0] at hO
  have hR : w.heap.size + 1 < w.heap.size + 2 := by omega
  obtain ⟨s0, s1, s2, s3, s4⟩ := box_five (five_set y5 (.int .i64 0) (.int .i64 k) (.int .i64 0) (.int .i64 n) (.slice xa d.length xc))
  have hO2 := five_own hO hR (.int .i64 0) (.int .i64 k) (.int .i64 0) (.int .i64 n) (.slice xa d.length xc)
  have b6 := five_below b5 (Nat.le_succ w.heap.size) (.int .i64 0) (.int .i64 k) (.int .i64 0) (.int .i64 n) (.slice xa d.length xc)
  obtain ⟨t0, t1, t2, t3, t4⟩ := box_five y5
  obtain ⟨r0, r1, r2, r3, r4⟩ := five_free y5
  clear u0 u1 u2 u3 hC
  go_wp2_with fail
  exact bodyPost_ret (v := .agg #[.int .i64 0, .int .i64 k, .int .i64 0, .int .i64 n, .slice xa d.length xc]) (by simp [results, Tryz.results68, go_sem, s0, s1, s2, s3, s4]) rfl ⟨xa, xc, rfl, ownsRow_base hO2 (by omega), b6⟩

end Go.Proofs.YtkjlchfmplcobagGreatDoor

/- The walk of sha.Parts: the digest of bytes that come in parts. -/
namespace Go.Proofs.YtkjlchfmplcobagGreatDoor
open Go.RowKit

theorem flat_take (L : List (List Int)) (k : Nat) (h : k < L.length) : (L.take (k + 1)).flatten = (L.take k).flatten ++ L.getD k [] := by
  rw [List.take_succ_eq_append_getElem h, List.flatten_append, List.getD_eq_getElem?_getD, List.getElem?_eq_getElem h]
  simp
theorem flat_le (L : List (List Int)) (k : Nat) : (L.take k).flatten.length ≤ L.flatten.length := by
  have : L.flatten = (L.take k).flatten ++ (L.drop k).flatten := by rw [← List.flatten_append, List.take_append_drop]
  rw [this, List.length_append]; omega
theorem part_le (L : List (List Int)) (k : Nat) (h : k < L.length) : (L.take k).flatten.length + (L.getD k []).length ≤ L.flatten.length := by
  have := flat_le L (k + 1)
  rw [flat_take L k h, List.length_append] at this
  exact this
set_option maxRecDepth 100000 in
set_option maxHeartbeats 1000000 in
theorem parts_any (L : List (List Int)) (v : Value) (w : World) (hv : PartsAt w v L) (hn : L.length ≤ maxLen) (hm : L.flatten.length ≤ 140737488355328) (hz : ∀ j, Bytes (L.getD j [])) (hK : Tab w) (h0 : 0 < w.heap.size) :
    Calls Tryz.prog 82 #[v] w
      fun e w' => ∃ g, e = .returned (.slice (some ⟨g, 0, none⟩) 32 32) ∧ w'.ownsRow w.heap.size 5 1 (.slice (some ⟨g, 0, none⟩) 32 32) 32 ((shaL L.flatten).map (Value.int .u8)) ∧ Below w.heap.size w w' := by
  have hz0 := (zero_of_info info_run).1
  have hi := (zero_of_info info_run).2
  obtain ⟨a0, c0, rfl, hcell⟩ : ∃ a c, v = .slice a L.length c ∧ (L.length = 0 ∨ ∃ b off, a = some ⟨b, off, none⟩ ∧ b < w.heap.size ∧ ∀ j, j < L.length → ∃ a n c, w.cell? ⟨b, off + j, none⟩ = some (.slice a n c) ∧ BytesAt w (.slice a n c) (L.getD j [])) := by
    rcases hv with ⟨rfl, a, c, rfl⟩ | ⟨b, off, cp, rfl, h2, h3⟩
    · exact ⟨a, c, rfl, .inl rfl⟩
    · exact ⟨_, _, rfl, .inr ⟨b, off, rfl, h2, h3⟩⟩
  clear hv
  unfold maxLen at hn
  go_enter Tryz.func82, Tryz.ntmps82
  go_wp2_with fail
  refine (begin_any _).mono ?_
  rintro e w1 ⟨rfl, hb1⟩
  go_wp2_with (refine wpList_store_mid rfl 151 (.tmp 3) (.tmp 6) rfl w1.heap.size 0 iniRun rfl rfl ?_ ?_ ini_one ?_; (rw [ini_size]; exact there_new _ _ _ 73 zrun_size); (rw [ini_size]; exact hi))
  obtain ⟨hrun, hb2, hK2, hlt⟩ := sum_begun 151 hb1 hK h0
  have hs1 := hb1.size
  generalize ((w1.alloc (.cells zRun 151)).setCells w1.heap.size 0 iniRun.toList) = w2 at *
  go_loopw [9] (fun i wr => ∃ k : Nat, k ≤ L.length ∧ i = .int .i64 k ∧ RunAt wr w1.heap.size (rn0.all (L.take k).flatten) ∧ Below w.heap.size w wr ∧ w1.heap.size < wr.heap.size) (fun i _ => L.length - (intOf i).toNat)
  case atStart => exact ⟨0, Nat.zero_le _, rfl, hrun, hb2, hlt⟩
  case round =>
    obtain ⟨k, hk, rfl, hr, hb, hltr⟩ := hrel
    clear hrun hb2 hK2 hlt
    by_cases hlk : k < L.length
    · rcases hcell with hcell | ⟨b, off, rfl, hbb, hcell⟩
      · omega
      obtain ⟨a, n, c, hca, hB⟩ := hcell k hlk
      have hca' : wr.cell? ⟨b, off + k, none⟩ = some (.slice a n c) := by rw [hb.cell (p := ⟨b, off + k, none⟩) hbb]; exact hca
      have hB' := hB.below (Nat.le_refl _) hb
      have hKr := tab_below hK hb h0
      have hpl := part_le L k hlk
      have HF : Hid ((L.take (k + 1)).flatten = (L.take k).flatten ++ L.getD k []) := flat_take L k hlk
      have hc3 : (rn0.all (L.take k).flatten).c = (L.take k).flatten.length := by rw [Rn.all_c]; show 0 + _ = _; omega
      have hsr := hb.size
      have hcs : (rn0.all (L.take k).flatten).c ≤ 140737488355328 := by rw [hc3]; have := flat_le L k; omega
      clear hc3 hcell hca
      go_wp2_with fail
      refine (add_bytes (rn0.all (L.take k).flatten) (L.getD k []) _ w1.heap.size wr hB' (fun b' off' cp' e hpos => by
        rcases hB with ⟨e1, -⟩ | ⟨b2, o2, c2, e2, hb2, -⟩
        · rw [e1] at hpos; simp at hpos
        · rw [e2] at e
          simp only [Value.slice.injEq, Option.some.injEq, Addr.mk.injEq] at e
          omega) (by unfold maxLen; omega) (hz k) hr hKr hltr (by omega) (by omega) (by omega)).mono ?_
      rintro e w3 ⟨rfl, hr3, hg3⟩
      have hb3 : Below w.heap.size w w3 := hb.grown hg3 hsr (fun q h => by cases h; exact hs1)
      have hr4 : RunAt w3 w1.heap.size (rn0.all (L.take (k + 1)).flatten) := by rw [HF.out, Rn.all_append]; exact hr3
      have hlt4 : w1.heap.size < w3.heap.size := Nat.lt_of_lt_of_le hltr hg3.size
      clear hr3 hg3 hr hKr hB hB' hca'
      go_wp2_with fail
      go_roundw
      case rel => exact ⟨k + 1, by omega, by go_num, hr4, hb3, hlt4⟩
      case measure => simp [intOf]; omega
    · have e : L.take k = L := List.take_of_length_le (by omega)
      rw [e] at hr
      have hK3 := tab_below hK hb h0
      have hc3 : (rn0.all L.flatten).c = L.flatten.length := by rw [Rn.all_c]; show 0 + _ = _; omega
      have hsr := hb.size
      clear e hcell
      go_wp2_with fail
      refine (end_any (rn0.all L.flatten) w1.heap.size wr hr hK3 hltr (by omega) (by omega) (by rw [hc3]; omega)).mono ?_
      rintro e w4 ⟨g, rfl, ho, hg4⟩
      have hb4 : Below w.heap.size w w4 := hb.grown hg4 hsr (fun q h => by cases h; exact hs1)
      have ho4 : w4.ownsRow w.heap.size 5 1 (.slice (some ⟨g, 0, none⟩) 32 32) 32 ((shaL L.flatten).map (Value.int .u8)) := by
        have := ownsRow_base ho hsr
        rw [hc3] at this
        exact this
      clear ho hg4 hr hK3
      go_wp2_with fail
      go_ret
      exact ⟨g, rfl, ho4, hb4⟩

end Go.Proofs.YtkjlchfmplcobagGreatDoor

/- What TreeTells asks of tree.Leaf and tree.Node. -/
namespace Go.Proofs.YtkjlchfmplcobagGreatDoor
open Go.RowKit

def LeafC : Prop := ∀ (b : List Int) (v : Value) (w : World), Ready w → Some' w v b → b.length ≤ 70368744177664 →
  Calls Tryz.prog 59 #[v] w fun e w' => ∃ x, e = .returned x ∧ w'.ownsRow w.heap.size 5 1 x 32 ((leafL b).map (Value.int .u8)) ∧ Below w.heap.size w w'
def NodeC : Prop := ∀ (b1 b2 : List Int) (v1 v2 : Value) (w : World), Ready w → Some' w v1 b1 → Some' w v2 b2 → b1.length + b2.length ≤ 70368744177664 →
  Calls Tryz.prog 62 #[v1, v2] w fun e w' => ∃ x, e = .returned x ∧ w'.ownsRow w.heap.size 5 1 x 32 ((nodeL b1 b2).map (Value.int .u8)) ∧ Below w.heap.size w w'

end Go.Proofs.YtkjlchfmplcobagGreatDoor

/- The walks of package tree's small functions: Leaf, Node, isDigest, areDigests. -/
namespace Go.Proofs.YtkjlchfmplcobagGreatDoor
open Go.RowKit

theorem bytesAt_new (w : World) (z : Int) (t : TypeId) : BytesAt (w.alloc (.cells #[.int .u8 z] t)) (.slice (some ⟨w.heap.size, 0, none⟩) 1 1) [z] := by
  refine .inr ⟨_, 0, 1, rfl, by simp, fun j hj => ?_⟩
  obtain rfl : j = 0 := by simp at hj; omega
  rw [Nat.add_zero, new_cell w t #[.int .u8 z] 0 (by simp)]; rfl
theorem parts_two {w : World} {v : Value} {b : List Int} (h : BytesAt w v b) (z : Int) (t s : TypeId) :
    PartsAt ((w.alloc (.cells #[.int .u8 z] t)).alloc (.cells #[.slice (some ⟨w.heap.size, 0, none⟩) 1 1, v] s)) (.slice (some ⟨w.heap.size + 1, 0, none⟩) 2 2) [[z], b] := by
  obtain ⟨a, c, rfl⟩ := h.form
  refine .inr ⟨_, 0, 2, rfl, by simp, fun j hj => ?_⟩
  have hb0 : Below w.heap.size w ((w.alloc (.cells #[.int .u8 z] t)).alloc (.cells #[.slice (some ⟨w.heap.size, 0, none⟩) 1 1, .slice a b.length c] s)) := ((Below.refl _ _).alloc (Nat.le_refl _) _).alloc (by simp) _
  have hb1 : Below (w.alloc (.cells #[.int .u8 z] t)).heap.size (w.alloc (.cells #[.int .u8 z] t)) ((w.alloc (.cells #[.int .u8 z] t)).alloc (.cells #[.slice (some ⟨w.heap.size, 0, none⟩) 1 1, .slice a b.length c] s)) := (Below.refl _ _).alloc (Nat.le_refl _) _
  have hj' : j = 0 ∨ j = 1 := by simp at hj; omega
  rcases hj' with rfl | rfl
  · exact ⟨_, _, _, by simp, (bytesAt_new w z t).below (Nat.le_refl _) hb1⟩
  · exact ⟨_, _, _, by simp, h.below (Nat.le_refl _) hb0⟩
theorem parts_three {w : World} {v u : Value} {b d : List Int} (h : BytesAt w v b) (h2 : BytesAt w u d) (z : Int) (t s : TypeId) :
    PartsAt ((w.alloc (.cells #[.int .u8 z] t)).alloc (.cells #[.slice (some ⟨w.heap.size, 0, none⟩) 1 1, v, u] s)) (.slice (some ⟨w.heap.size + 1, 0, none⟩) 3 3) [[z], b, d] := by
  obtain ⟨a, c, rfl⟩ := h.form
  obtain ⟨a2, c2, rfl⟩ := h2.form
  refine .inr ⟨_, 0, 3, rfl, by simp, fun j hj => ?_⟩
  have hb0 : Below w.heap.size w ((w.alloc (.cells #[.int .u8 z] t)).alloc (.cells #[.slice (some ⟨w.heap.size, 0, none⟩) 1 1, .slice a b.length c, .slice a2 d.length c2] s)) := ((Below.refl _ _).alloc (Nat.le_refl _) _).alloc (by simp) _
  have hb1 : Below (w.alloc (.cells #[.int .u8 z] t)).heap.size (w.alloc (.cells #[.int .u8 z] t)) ((w.alloc (.cells #[.int .u8 z] t)).alloc (.cells #[.slice (some ⟨w.heap.size, 0, none⟩) 1 1, .slice a b.length c, .slice a2 d.length c2] s)) := (Below.refl _ _).alloc (Nat.le_refl _) _
  have hj' : j = 0 ∨ j = 1 ∨ j = 2 := by simp at hj; omega
  rcases hj' with rfl | rfl | rfl
  · exact ⟨_, _, _, by simp, (bytesAt_new w z t).below (Nat.le_refl _) hb1⟩
  · exact ⟨_, _, _, by simp, h.below (Nat.le_refl _) hb0⟩
  · exact ⟨_, _, _, by simp, h2.below (Nat.le_refl _) hb0⟩
theorem two_bytes {z : Int} {b : List Int} (h0 : 0 ≤ z) (h1 : z < 256) (h : Bytes b) : ∀ j, Bytes (([[z], b] : List (List Int)).getD j []) := fun j => by
  match j with
  | 0 => exact bytes_cons h0 h1 nil_bytes
  | 1 => exact h
  | j + 2 => exact nil_bytes
theorem three_bytes {z : Int} {b d : List Int} (h0 : 0 ≤ z) (h1 : z < 256) (h : Bytes b) (h2 : Bytes d) : ∀ j, Bytes (([[z], b, d] : List (List Int)).getD j []) := fun j => by
  match j with
  | 0 => exact bytes_cons h0 h1 nil_bytes
  | 1 => exact h
  | 2 => exact h2
  | j + 3 => exact nil_bytes

set_option maxRecDepth 100000 in
set_option maxHeartbeats 1000000 in
theorem leafC_holds : LeafC := by
  intro b v w hr hv hm
  have hp := parts_two hv.at' 0 5 36
  have hb : Below w.heap.size w ((w.alloc (.cells #[.int .u8 0] 5)).alloc (.cells #[.slice (some ⟨w.heap.size, 0, none⟩) 1 1, v] 36)) := ((Below.refl _ _).alloc (Nat.le_refl _) _).alloc (by simp) _
  have hK := tab_below hr.tab hb hr.big
  have h0 := Nat.lt_of_lt_of_le hr.big hb.size
  have hc := parts_any [[0], b] _ _ hp (by unfold maxLen; simp) (by simp; omega) (two_bytes (by decide) (by decide) hv.bytes) hK h0
  obtain ⟨a, c, e⟩ := hv.at'.form
  subst e
  go_enter Tryz.func59, Tryz.ntmps59
  go_wp2_with fail
  refine hc.mono ?_
  rintro e w1 ⟨g, rfl, ho, hb1⟩
  have hs := hb.size
  go_wp2_with fail
  go_ret
  refine ⟨_, rfl, ?_, hb.trans (hb1.mono hs)⟩
  have := ownsRow_base ho hs
  rwa [show ([[0], b] : List (List Int)).flatten = 0 :: b by simp] at this
set_option maxRecDepth 100000 in
set_option maxHeartbeats 1000000 in
theorem nodeC_holds : NodeC := by
  intro b1 b2 v1 v2 w hr hv1 hv2 hm
  have hp := parts_three hv1.at' hv2.at' 1 5 36
  have hb : Below w.heap.size w ((w.alloc (.cells #[.int .u8 1] 5)).alloc (.cells #[.slice (some ⟨w.heap.size, 0, none⟩) 1 1, v1, v2] 36)) := ((Below.refl _ _).alloc (Nat.le_refl _) _).alloc (by simp) _
  have hK := tab_below hr.tab hb hr.big
  have h0 := Nat.lt_of_lt_of_le hr.big hb.size
  have hc := parts_any [[1], b1, b2] _ _ hp (by unfold maxLen; simp) (by simp; omega) (three_bytes (by decide) (by decide) hv1.bytes hv2.bytes) hK h0
  obtain ⟨a, c, e⟩ := hv1.at'.form
  subst e
  obtain ⟨a2, c2, e⟩ := hv2.at'.form
  subst e
  go_enter Tryz.func62, Tryz.ntmps62
  go_wp2_with fail
  refine hc.mono ?_
  rintro e w1 ⟨g, rfl, ho, hb1⟩
  have hs := hb.size
  go_wp2_with fail
  go_ret
  refine ⟨_, rfl, ?_, hb.trans (hb1.mono hs)⟩
  have := ownsRow_base ho hs
  rwa [show ([[1], b1, b2] : List (List Int)).flatten = 1 :: (b1 ++ b2) by simp] at this

set_option maxRecDepth 100000 in
theorem isDigest_any (b : List Int) (v : Value) (w : World) (hv : BytesAt w v b) :
    Calls Tryz.prog 92 #[v] w fun e w' => e = .returned (.bool (decide (b.length = 32))) ∧ w' = w := by
  obtain ⟨a, c, rfl⟩ := hv.form
  by_cases h : b.length = 32
  · rw [decide_eq_true h]
    clear hv
    rw [h]
    go_enter Tryz.func92, Tryz.ntmps92
    go_wp2
    go_ret
    exact ⟨rfl, rfl⟩
  · rw [decide_eq_false h]
    have i1 : (b.length : Int) ≠ 32 := by omega
    go_enter Tryz.func92, Tryz.ntmps92
    go_wp2
    go_ret
    exact ⟨by first | rfl | simp [i1], rfl⟩

set_option maxRecDepth 100000 in
theorem areDigests_any (L : List (List Int)) (v : Value) (w : World) (hv : PartsAt w v L) (hm : L.length ≤ maxLen) (hm2 : ∀ j, (L.getD j []).length ≤ maxLen) :
    Calls Tryz.prog 81 #[v] w fun e w' => e = .returned (.bool (goodL L)) ∧ w' = w := by
  obtain ⟨a0, c0, rfl, hcell⟩ := hv.form
  unfold maxLen at hm
  go_enter Tryz.func81, Tryz.ntmps81
  go_wp2
  go_loop [7] (fun i => ∃ k : Nat, k ≤ L.length ∧ i = .int .i64 k ∧ Hid (∀ j, j < k → (L.getD j []).length = 32)) (fun i => L.length - (intOf i).toNat)
  case atStart => exact ⟨0, Nat.zero_le _, rfl, fun j hj => absurd hj (Nat.not_lt_zero _)⟩
  case round =>
    obtain ⟨k, hk, rfl, HG⟩ := hrel
    by_cases hlt : k < L.length
    · obtain ⟨b, off, rfl, hb, hc⟩ := hcell.resolve_left (by omega)
      obtain ⟨pa, pc, hcj, hB⟩ := hc k hlt
      have hl := hm2 k
      have HB : Hid ((L.getD k []).length ≠ 32 → goodL L = false) := goodL_bad hlt
      have HN : Hid ((L.getD k []).length = 32 → ∀ j, j < k + 1 → (L.getD j []).length = 32) := fun h j hj => by
        by_cases e : j = k
        · rw [e]; exact h
        · exact HG.out j (by omega)
      have hd := isDigest_any (L.getD k []) _ w hB
      unfold maxLen at hl
      clear hcell hc hv HG hm2 hB
      generalize (L.getD k []).length = m at *
      by_cases h32 : m = 32
      · have HN' : Hid (∀ j, j < k + 1 → (L.getD j []).length = 32) := HN.out h32
        clear HN HB
        rw [decide_eq_true h32] at hd
        subst h32
        go_wp2_with (go_at_call 92; refine hd.mono ?_; rintro e w' ⟨rfl, rfl⟩)
        go_round
        case rel => exact ⟨k + 1, by omega, by go_num, HN'⟩
        case measure => simp [intOf]; omega
      · have HB' : Hid (goodL L = false) := HB.out h32
        rw [decide_eq_false h32] at hd
        clear HN HB
        go_wp2_with (go_at_call 92; refine hd.mono ?_; rintro e w' ⟨rfl, rfl⟩)
        go_ret
        exact ⟨by rw [HB'.out]; rfl, rfl⟩
    · obtain rfl : k = L.length := by omega
      have HA : Hid (goodL L = true) := goodL_all HG.out
      clear HG
      go_wp2
      go_ret
      exact ⟨by rw [HA.out]; rfl, rfl⟩

end Go.Proofs.YtkjlchfmplcobagGreatDoor

/- The walks of isSize, segmentsFor, countFrom and fits: package shelf as it landed. -/
namespace Go.Proofs.YtkjlchfmplcobagGreatDoor
open Go.RowKit

def sizeB (n : Int) : Bool := decide (0 ≤ n ∧ n ≤ 100)
theorem sizeB_true {n : Int} (h0 : 0 ≤ n) (h1 : n ≤ 100) : sizeB n = true := decide_eq_true ⟨h0, h1⟩
theorem sizeB_false {n : Int} (h : ¬ (0 ≤ n ∧ n ≤ 100)) : sizeB n = false := decide_eq_false h
set_option maxRecDepth 100000 in
theorem isSize_any (n : Int) (w : World) : Calls Tryz.prog 70 #[.int .i64 n] w fun e w' => e = .returned (.bool (sizeB n)) ∧ w' = w := by
  by_cases h0 : 0 ≤ n
  · by_cases h1 : n ≤ 100
    · have e : sizeB n = true := sizeB_true h0 h1
      rw [e]
      clear e
      go_enter Tryz.func70, Tryz.ntmps70
      go_wp2
      go_ret
      exact ⟨rfl, rfl⟩
    · have e : sizeB n = false := sizeB_false (by omega)
      rw [e]
      clear e
      go_enter Tryz.func70, Tryz.ntmps70
      go_wp2
      go_ret
      exact ⟨rfl, rfl⟩
  · have e : sizeB n = false := sizeB_false (by omega)
    rw [e]
    clear e
    go_enter Tryz.func70, Tryz.ntmps70
    go_wp2
    go_ret
    exact ⟨rfl, rfl⟩
theorem ret_int' {k : IntKind} {a b : Int} (h : a = b) : Ending.returned (.int k a) = .returned (.int k b) := by rw [h]
set_option maxRecDepth 100000 in
theorem segmentsFor_any (n : Int) (w : World) (h0 : 0 ≤ n) (h1 : n ≤ 100) : Calls Tryz.prog 71 #[.int .i64 n] w fun e w' => e = .returned (.int .i64 ((n + 7) / 8)) ∧ w' = w := by
  go_enter Tryz.func71, Tryz.ntmps71
  go_wp2
  go_ret
  exact ⟨ret_int' (by omega), rfl⟩
set_option maxRecDepth 100000 in
theorem countFrom_any (f s : Int) (w : World) (h0 : 0 ≤ f) (h1 : f ≤ 1000) (h2 : 0 ≤ s) (h3 : s ≤ 1000) : Calls Tryz.prog 93 #[.int .i64 f, .int .i64 s] w fun e w' => e = .returned (.int .i64 (min 8 (s - f))) ∧ w' = w := by
  by_cases h : s - f < 8
  · rw [show min 8 (s - f) = s - f by omega]
    go_enter Tryz.func93, Tryz.ntmps93
    go_wp2
    go_ret
    exact ⟨rfl, rfl⟩
  · rw [show min 8 (s - f) = 8 by omega]
    go_enter Tryz.func93, Tryz.ntmps93
    go_wp2
    go_ret
    exact ⟨rfl, rfl⟩
set_option maxRecDepth 100000 in
set_option maxHeartbeats 2000000 in
theorem segFits_any (f c k size : Int) (pv : Value) (p : List Int) (w : World) (hk : 0 ≤ k) : Calls Tryz.prog 85 #[.agg #[.int .i64 f, .int .i64 c, pv], .int .i64 k, .int .i64 size] w fun e w' => e = .returned (.bool (fitB size k ⟨f, c, p⟩)) ∧ Below w.heap.size w w' := by
  have hS := isSize_any size
  have hb := box_new w #[.int .i64 f, .int .i64 c, pv] 111
  obtain ⟨x0, x1, x2, -, -, -⟩ := box_three hb
  have bW : Below w.heap.size w (w.alloc (.cells #[.int .i64 f, .int .i64 c, pv] 111)) := (Below.refl _ _).alloc (Nat.le_refl _) _
  clear hb
  by_cases h1 : 0 ≤ size ∧ size ≤ 100
  · rw [sizeB_true h1.1 h1.2] at hS
    by_cases h2 : k ≤ 100
    · by_cases h3 : f = k * 8
      · subst h3
        by_cases h4 : 1 ≤ c
        · have hC := fun W => countFrom_any (k * 8) size W (by omega) (by omega) h1.1 (by omega)
          by_cases h5 : c = min 8 (size - k * 8)
          · have e : fitB size k ⟨k * 8, c, p⟩ = true := fitB_iff.2 ⟨h1.1, h1.2, h2, rfl, h4, h5⟩
            have hC' : ∀ W, Calls Tryz.prog 93 #[.int .i64 (k * 8), .int .i64 size] W fun e w' => e = .returned (.int .i64 c) ∧ w' = W := fun W => by have := hC W; rwa [← h5] at this
            have hcc : (c == c) = true := by simp
            rw [e]
            clear e h5 hC
            go_enter Tryz.func85, Tryz.ntmps85
            go_wp2_with fail
            go_quiet ((first | (go_at_call 70; exact Calls.quiet_of_same (hS _)) | (go_at_call 93; exact Calls.quiet_of_same (hC' _))))
            go_wp2_with fail
            go_ret
            exact ⟨rfl, below_drewN' bW _⟩
          · have e : fitB size k ⟨k * 8, c, p⟩ = false := by rw [Bool.eq_false_iff]; intro h; exact h5 (fitB_iff.1 h).2.2.2.2.2
            obtain ⟨q, hq⟩ : ∃ q, q = min 8 (size - k * 8) := ⟨_, rfl⟩
            rw [← hq] at hC h5
            have h5' : (c == q) = false := by simpa using h5
            rw [e]
            clear e h5 hq
            go_enter Tryz.func85, Tryz.ntmps85
            go_wp2_with fail
            go_quiet ((first | (go_at_call 70; exact Calls.quiet_of_same (hS _)) | (go_at_call 93; exact Calls.quiet_of_same (hC _))))
            go_wp2_with fail
            go_ret
            exact ⟨rfl, below_drewN' bW _⟩
        · have e : fitB size k ⟨k * 8, c, p⟩ = false := by rw [Bool.eq_false_iff]; intro h; exact h4 (fitB_iff.1 h).2.2.2.2.1
          have h4' : decide (1 ≤ c) = false := decide_eq_false h4
          rw [e]
          clear e
          go_enter Tryz.func85, Tryz.ntmps85
          go_wp2_with fail
          go_quiet ((go_at_call 70; exact Calls.quiet_of_same (hS _)))
          go_wp2_with fail
          go_ret
          exact ⟨rfl, below_drewN' bW _⟩
      · have e : fitB size k ⟨f, c, p⟩ = false := by rw [Bool.eq_false_iff]; intro h; exact h3 (fitB_iff.1 h).2.2.2.1
        have h3' : (f == k * 8) = false := by simpa using h3
        rw [e]
        clear e h3
        go_enter Tryz.func85, Tryz.ntmps85
        go_wp2_with fail
        go_quiet ((go_at_call 70; exact Calls.quiet_of_same (hS _)))
        go_wp2_with fail
        go_ret
        exact ⟨rfl, below_drewN' bW _⟩
    · have e : fitB size k ⟨f, c, p⟩ = false := by rw [Bool.eq_false_iff]; intro h; exact h2 (fitB_iff.1 h).2.2.1
      have h2' : decide (k ≤ 100) = false := decide_eq_false h2
      rw [e]
      clear e
      go_enter Tryz.func85, Tryz.ntmps85
      go_wp2_with fail
      go_quiet ((go_at_call 70; exact Calls.quiet_of_same (hS _)))
      go_wp2_with fail
      go_ret
      exact ⟨rfl, below_drewN' bW _⟩
  · rw [sizeB_false h1] at hS
    have e : fitB size k ⟨f, c, p⟩ = false := by rw [Bool.eq_false_iff]; intro h; have := fitB_iff.1 h; exact h1 ⟨this.1, this.2.1⟩
    rw [e]
    clear e h1
    go_enter Tryz.func85, Tryz.ntmps85
    go_wp2_with fail
    go_quiet ((go_at_call 70; exact Calls.quiet_of_same (hS _)))
    go_wp2_with fail
    go_ret
    exact ⟨rfl, below_drewN' bW _⟩

end Go.Proofs.YtkjlchfmplcobagGreatDoor

/- The walk of writeEntries: package shelf as it landed. -/
namespace Go.Proofs.YtkjlchfmplcobagGreatDoor
open Go.RowKit

set_option maxRecDepth 100000 in
set_option maxHeartbeats 2000000 in
theorem writeEntries_any (L : List (List Int)) (a : Option Addr) (n c : Nat) (w : World) (hL : Lists w a n c L) (h200 : ∀ j, (L.getD j []).length ≤ 200) (h8 : n ≤ 8) :
    Calls Tryz.prog 95 #[.slice a n c] w fun e w' => ∃ va vc, e = .returned (.slice va (layL L).length vc) ∧ w'.ownsRow w.heap.size 5 1 (.slice va (layL L).length vc) (layL L).length ((layL L).map (Value.int .u8)) ∧ Below w.heap.size w w' := by
  obtain ⟨i0, hi0, hz0, hz1, hz2⟩ := info_parts Tryz.info5b
  have hlen := hL.len
  have h201 : ∀ k, (layL (L.take k)).length ≤ 2000 := fun k => by
    have h1 := layL_length (L.take k) (fun e he => mem_short h200 e (List.mem_of_mem_take he))
    have h2 : (L.take k).length ≤ 8 := by rw [List.length_take]; omega
    omega
  go_enter Tryz.func95, Tryz.ntmps95
  go_wp2_with fail
  go_loopw [3, 8] (fun ov kv wr => ∃ (k : Nat) (va : Option Addr) (m vc : Nat), k ≤ n ∧ kv = .int .i64 k ∧ ov = .slice va m vc ∧ Hid (m = (layL (L.take k)).length) ∧ wr.ownsRow w.heap.size 5 1 (.slice va m vc) m ((layL (L.take k)).map (Value.int .u8)) ∧ Below w.heap.size w wr) (fun _ kv _ => n - (intOf kv).toNat)
  case atStart => exact ⟨0, none, 0, 0, Nat.zero_le _, rfl, rfl, rfl, ⟨rfl, .inl ⟨rfl, rfl⟩⟩, Below.refl _ _⟩
  case round =>
    obtain ⟨wo, rfl⟩ : ∃ x, x = wr := ⟨wr, rfl⟩
    obtain ⟨k, va, m, vc, hk, rfl, rfl, HM, hrow, hbr⟩ := hrel
    have hm := h201 k
    rw [← HM.out] at hm
    have hsr := hbr.size
    by_cases hlt : k < n
    · obtain ⟨b, off, pa, pc, rfl, hcell, hsome⟩ := hL.get k hlt
      have hb0 : b < w.heap.size := World.block_lt_of_cell? w ⟨b, off + k, none⟩ hcell
      have hcell1 := (hbr.cell (p := ⟨b, off + k, none⟩) hb0).trans hcell
      have HS : Hid (layL (L.take (k + 1)) = layL (L.take k) ++ ((L.getD k []).length : Int) :: L.getD k []) := by
        show _ = _
        rw [List.take_succ_eq_append_getElem (by omega), layL_snoc, List.getD_eq_getElem?_getD, List.getElem?_eq_getElem (by omega)]
        rfl
      have hd2 := h200 k
      have hB0 := hsome.at'
      obtain ⟨D, hD⟩ : ∃ D, D = L.getD k [] := ⟨_, rfl⟩
      rw [← hD] at hcell1 HS hd2 hB0
      obtain ⟨d, hd⟩ : ∃ d, d = D.length := ⟨_, rfl⟩
      rw [← hd] at hcell1 HS hd2 hB0
      have Hd : Hid (d = D.length) := hd
      have hlt' : (k : Int) < n := by omega
      have hd' : (d : Int) ≤ 200 := by omega
      have hrowA := hrow.alloc (.cells #[.int .u8 d] 5)
      have hnew := cell_one_new wo (.int .u8 d) 5
      have bA : Below w.heap.size w (wo.alloc (.cells #[.int .u8 d] 5)) := hbr.alloc hsr _
      have hsA : w.heap.size ≤ (wo.alloc (.cells #[.int .u8 d] 5)).heap.size := by simp; omega
      have hdm : m + 1 + D.length ≤ 3000 := by omega
      clear hcell hsome hrow h200 hD hd h201
      go_wp2_with (first
        | (at_builtin; refine wpList_append_own _ rfl (.tmp 12) (.tmp 16) 36 rfl w.heap.size 5 i0 _ 1 1 Tryz.underlying36 hi0 hz0 hz1 hz2 rfl (by decide) _ _ _ rfl hrowA _ 1 1 [.int .u8 d] rfl rfl hnew (by intro u hu; simp at hu; subst hu; rfl) (by unfold maxLen; omega) (by omega) hsA ?_; intro v7 w7 ho7 hg7 _; obtain ⟨ta, tc, rfl⟩ := own_form' ho7; have b7 : Below w.heap.size w w7 := bA.grown hg7 hsA (fun _ h => own_block hrowA h); have hB7 := hB0.below (Nat.le_refl _) b7; clear hg7)
        | (at_builtin; refine wpList_append_bytes rfl (.tmp 18) (.tmp 19) 36 rfl w.heap.size 5 i0 _ Tryz.underlying36 hi0 hz0 hz1 hz2 rfl _ _ _ rfl ho7 pa d pc D rfl hB7 (by unfold maxLen; omega) (by omega) b7.size ?_; intro v8 w8 ho8 hg8; obtain ⟨sa, sc, rfl⟩ := own_form' ho8))
      have b8 : Below w.heap.size w w8 := b7.grown hg8 b7.size (fun _ h => own_block ho7 h)
      go_roundw
      case rel =>
        refine ⟨k + 1, sa, _, sc, by omega, by go_num, rfl, ?_, ?_, b8⟩
        · show _ = _; rw [HS.out, List.length_append, List.length_cons, ← HM.out]; omega
        · rw [HS.out, List.map_append, List.map_cons]; simpa using ho8
      case measure => simp [intOf]; omega
    · obtain rfl : k = n := by omega
      rw [List.take_of_length_le (by omega)] at HM hrow
      go_wp2_with fail
      go_ret
      refine ⟨va, vc, by rw [← HM.out]; rfl, by rw [← HM.out]; exact hrow, hbr⟩

end Go.Proofs.YtkjlchfmplcobagGreatDoor

/- The walk of segments: package shelf as it landed. -/
namespace Go.Proofs.YtkjlchfmplcobagGreatDoor
open Go.RowKit

set_option maxRecDepth 100000 in
set_option maxHeartbeats 4000000 in
theorem segments_any (hPack : PackOC) (L : List (List Int)) (a : Option Addr) (n c : Nat) (w : World) (hL : Lists w a n c L) (h100 : L.length ≤ 100) (h200 : ∀ j, (L.getD j []).length ≤ 200) :
    Calls Tryz.prog 84 #[.slice a n c] w fun e w' => ∃ va vc, e = .returned (.slice va (segsL L).length vc) ∧ ∃ vs, (w'.ownsRow w.heap.size 111 3 (.slice va (segsL L).length vc) (segsL L).length vs ∧ SegEls w' w.heap.size vs (segsL L)) ∧ RiseV vs (segsL L).length ∧ Below w.heap.size w w' := by
  obtain ⟨i0, hi0, hz0, hz1, hz2⟩ := info_parts Tryz.info111b
  have hlen := hL.len
  have hroom := hL.room
  have hcap := hL.cap
  unfold maxLen at hcap
  have hm200 := mem_short h200
  go_enter Tryz.func84, Tryz.ntmps84
  go_wp2_with fail
  go_loopw [3, 4] (fun ov fv wr => ∃ (k : Nat) (va : Option Addr) (vc : Nat) (vs : List Value), 8 * k ≤ n + 7 ∧ fv = .int .i64 ((8 * k : Nat) : Int) ∧ ov = .slice va k vc ∧ wr.ownsRow w.heap.size 111 3 (.slice va k vc) k vs ∧ SegEls wr w.heap.size vs (segsN L k) ∧ RiseV vs k ∧ Below w.heap.size w wr) (fun _ fv _ => n + 8 - (intOf fv).toNat)
  case atStart => exact ⟨0, none, 0, [], by omega, rfl, rfl, ⟨rfl, .inl ⟨rfl, rfl⟩⟩, segEls_nil _ _, riseV_nil, Below.refl _ _⟩
  case round =>
    obtain ⟨wo, rfl⟩ : ∃ x, x = wr := ⟨wr, rfl⟩
    obtain ⟨k, va, vc, vs, hk, rfl, rfl, hrow, hels, hrise, hbr⟩ := hrel
    have hsr := hbr.size
    by_cases hlt : 8 * k < n
    · obtain ⟨b, off, pa, pc, rfl, -, -⟩ := hL.get (8 * k) hlt
      obtain ⟨q, Hq⟩ : ∃ q : Nat, Hid (q = min 8 (n - 8 * k)) := ⟨_, rfl⟩
      have hq1 : 1 ≤ q := by have := Hq.out; omega
      have hq8 : q ≤ 8 := by have := Hq.out; omega
      have hqn : 8 * k + q ≤ n := by have := Hq.out; omega
      have hpart : ((L.drop (8 * k)).take q) = ((L.drop (8 * k)).take 8) := by
        rw [Hq.out, ← hlen, ← List.length_drop, Nat.min_comm, ← List.take_take, List.take_of_length_le (by rw [List.length_take]; omega)]
      have HSK : Hid (segK L k = ⟨((8 * k : Nat) : Int), (q : Int), packL (layL ((L.drop (8 * k)).take 8))⟩) := by show _ = _; unfold segK; rw [hlen, ← Hq.out]
      have hLp := (hL.below hbr).part hqn hq1
      rw [hpart] at hLp
      have hdg : ∀ j, (((L.drop (8 * k)).take 8).getD j []).length ≤ 200 := take_short (fun j => by rw [List.getD_eq_getElem?_getD, List.getElem?_drop, ← List.getD_eq_getElem?_getD]; exact h200 _) 8
      have hW := writeEntries_any _ _ _ _ _ hLp hdg hq8
      have hX1 := lay_bytes hLp.bytes hdg
      have hX2 := lay_part hm200 k
      have hsn := segsN_snoc L k
      rw [HSK.out] at hsn
      have HSN : Hid (segsN L (k + 1) = segsN L k ++ [⟨((8 * k : Nat) : Int), (q : Int), packL (layL ((L.drop (8 * k)).take 8))⟩]) := hsn
      generalize layL ((L.drop (8 * k)).take 8) = X at *
      have hP : ∀ w' v, BytesAt w' v X → Calls Tryz.prog 94 #[v] w' fun e w'' => ∃ v', e = .returned (.tuple #[v', .int .i64 0]) ∧ w''.ownsRow w'.heap.size 5 1 v' (packL X).length ((packL X).map (Value.int .u8)) ∧ Below w'.heap.size w' w'' := fun w' v h => by
        have := hPack X v w' ⟨h, hX1, by unfold maxLen; omega⟩
        unfold muchE packE at this
        rwa [if_neg (by omega), if_neg (by omega)] at this
      have hC := countFrom_any ((8 * k : Nat) : Int) n wo (by omega) (by omega) (by omega) (by omega)
      rw [show min 8 ((n : Int) - ((8 * k : Nat) : Int)) = (q : Int) by have := Hq.out; omega] at hC
      generalize packL X = P at *
      clear hsn hpart hLp hdg hX1 hX2 HSK Hq h200 hm200
      obtain ⟨F, HF⟩ : ∃ F, Hid (8 * k = F) := ⟨_, rfl⟩
      rw [HF.out] at hW hC HSN hlt hqn hk ⊢
      have j1 : (F : Int) < n := by omega
      have j2 : (F : Int) + q ≤ n := by omega
      have j3 : (F : Int) + q ≤ c := by omega
      have j4 : ¬ c = F := by omega
      go_wp2_with fail
      refine hC.mono ?_
      rintro e w1 ⟨rfl, rfl⟩
      clear hC
      go_wp2_with fail
      refine hW.mono ?_
      rintro e w1 ⟨ta, tc, rfl, ho1, hb1⟩
      have b1 := hbr.trans (hb1.mono hsr)
      have hP1 := hP _ _ (bytesAt_own ho1)
      clear hW hP ho1
      go_wp2_with fail
      refine hP1.mono ?_
      rintro e w2 ⟨v2, rfl, ho2, hb2⟩
      have b2 := b1.trans (hb2.mono b1.size)
      have hw12 := (hb1.trans (hb2.mono hb1.size))
      have hrow2 := own3_below hrow hw12 (Nat.le_refl _)
      have hels2 := hels.below hw12 (Nat.le_refl _)
      have hs2 := b2.size
      have hri2 : Hid (RiseV (vs ++ [.int .i64 (F : Int), .int .i64 (q : Int), v2]) (k + 1)) := RiseV.snoc hrise hels (segsN_length L k) (fun g hg => Nat.le_trans hb1.size (ho2.lt g hg).1)
      have hsn2 := hels2.snoc (s := ⟨(F : Int), (q : Int), P⟩) (ownsRow_base ho2 b1.size)
      obtain ⟨ya, yc, rfl⟩ := own_form' ho2
      have hnew := lit_seg w2 (F : Int) (q : Int) (.slice ya P.length yc) 111
      have hone : ∀ u ∈ [Value.int .i64 (F : Int), .int .i64 (q : Int), .slice ya P.length yc], u.oneCell' = true := by intro u hu; simp at hu; rcases hu with rfl | rfl | rfl <;> rfl
      have hrowA := hrow2.alloc (.cells #[.int .i64 (F : Int), .int .i64 (q : Int), .slice ya P.length yc] 111)
      have helsA := hsn2.alloc (.cells #[.int .i64 (F : Int), .int .i64 (q : Int), .slice ya P.length yc] 111)
      have bA : Below w.heap.size w (w2.alloc (.cells #[.int .i64 (F : Int), .int .i64 (q : Int), .slice ya P.length yc] 111)) := b2.alloc hs2 _
      have hsA := bA.size
      have hk15 : k ≤ 20 := by have := HF.out; omega
      clear hrow hels hrise hels2 hsn2 hrow2 hP1 ho2 hw12 hb1 hb2
      go_wp2_with (at_builtin; refine wpList_append_own _ rfl (.tmp 29) (.tmp 34) 49 rfl w.heap.size 111 i0 _ 3 40 Tryz.underlying49 hi0 hz0 hz1 hz2 rfl (by decide) _ _ _ rfl hrowA ⟨w2.heap.size, 0, none⟩ 1 1 [.int .i64 (F : Int), .int .i64 (q : Int), .slice ya P.length yc] rfl rfl hnew hone (by unfold maxLen; omega) (by omega) hsA ?_; intro v7 w7 ho7 hg7 _; obtain ⟨sa, sc, rfl⟩ := own3_form ho7)
      have b7 : Below w.heap.size w w7 := bA.grown hg7 hsA (fun _ h => own3_block hrowA h)
      have hels7 := helsA.kept hrowA hg7
      go_roundw
      case rel =>
        refine ⟨k + 1, sa, sc, _, by have := HF.out; omega, ?_, rfl, ho7, by rw [HSN.out]; exact hels7, hri2.out, b7⟩
        have := HF.out
        rw [show ((8 * (k + 1) : Nat) : Int) = (F : Int) + 8 by omega]
      case measure => simp [intOf]; omega
    · have hkk : k = (L.length + 7) / 8 := by omega
      have hj1 : ¬ ((8 * k : Nat) : Int) < n := by omega
      have hN : segsN L k = segsL L := by unfold segsL; rw [hkk]
      rw [hN] at hels
      have hl2 : (segsL L).length = k := by unfold segsL; rw [segsN_length, ← hkk]
      have HL : Hid ((segsL L).length = k) := hl2
      have HO : Hid ((wo.ownsRow w.heap.size 111 3 (.slice va k vc) k vs ∧ SegEls wo w.heap.size vs (segsL L)) ∧ RiseV vs k) := ⟨⟨hrow, hels⟩, hrise⟩
      clear hN hl2 hkk hrow hels hrise hk
      obtain ⟨F, HF⟩ : ∃ F, Hid (8 * k = F) := ⟨_, rfl⟩
      rw [HF.out] at hj1 ⊢
      go_wp2_with fail
      go_ret
      exact ⟨va, vc, by rw [HL.out]; rfl, vs, by rw [HL.out]; exact HO.out.1, by rw [HL.out]; exact HO.out.2, hbr⟩

end Go.Proofs.YtkjlchfmplcobagGreatDoor
