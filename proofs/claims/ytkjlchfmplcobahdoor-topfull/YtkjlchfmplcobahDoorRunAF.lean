/- FleetDos, TopDos, FleetAliveM, FleetTopM, TopYear, as one text. -/
import Derived.Test.YtkjlchfmplcobahDoorProg
import Derived.Test.YtkjlchfmplcobahDoorRunAE
import Derived.WalkKit
import Derived.Deep.AppendLies
import Derived.Laws.AppendOwnNone
import Derived.Test.YtkjlchfmplcobahDoorRunAD
import Derived.WalkSpells
import Derived.WalkLawsBesides
/- Things that are done, as rows of a call's own. -/
namespace Go.Proofs.YtkjlchfmplcobahDoor
open Go.RowKit

theorem Tryd.info27b : (Tryd.prog.info? 27).map (fun i => (i.zero, i.size, i.bytes)) = some (some (.agg #[.int .i64 0, .int .i64 0, .int .i64 0, .slice none 0 0, .int .i64 0, .int .i64 0, .int .u8 0]), 7, 72) := by kernel_rfl
theorem own7_below {w w' : World} {base : Nat} {e : TypeId} {v : Value} {n N : Nat} {xs : List Value} (h : w.ownsRow base e 7 v n xs) (hb : Below N w w') (hN : w.heap.size ≤ N) : w'.ownsRow base e 7 v n xs :=
  h.kept (w' := w') (row := none) ⟨hb.os, hb.tape, hb.output, hb.size, fun k hk _ => hb.block k (Nat.lt_of_lt_of_le hk hN)⟩ (by cases v.ownBlock <;> simp)
theorem own7_form {w : World} {base : Nat} {e : TypeId} {v : Value} {n : Nat} {xs : List Value} (h : w.ownsRow base e 7 v n xs) : ∃ a c, v = .slice a n c := by
  rcases h.2 with ⟨hv, rfl⟩ | ⟨g, cap, cur, hv, -⟩
  · exact ⟨none, 0, hv⟩
  · exact ⟨_, cap, hv⟩
theorem own7_block {w : World} {base : Nat} {e : TypeId} {v : Value} {n : Nat} {xs : List Value} (h : w.ownsRow base e 7 v n xs) {q : Nat} (hq : v.ownBlock = some q) : base ≤ q := by
  rcases h.2 with ⟨e, -⟩ | ⟨g, cap, cur, e, hg, -⟩
  · rw [e] at hq; cases hq
  · rw [e] at hq; cases hq; exact hg
/-- A block of another type is no part of such a row. -/
theorem own7_apart {w : World} {base k n : Nat} {e t : TypeId} {v : Value} {xs : List Value} {c : Array Value} (ho : w.ownsRow base e 7 v n xs) (ht : t ≠ e) (hk : w.heap[k]? = some (.cells c t (0, 0))) : some k ≠ v.ownBlock := fun h => by
  rcases ho.2 with ⟨rfl, -⟩ | ⟨g, cap, cur, rfl, -, hh, -⟩
  · cases h
  · cases h
    rw [hh] at hk
    cases hk
    exact ht rfl
/-- The values of one thing that is done. -/
def ddV (x : Dd) (pa : Option Addr) (pc : Nat) : List Value := [.int .i64 x.kind, .int .i64 x.n, .int .i64 x.time, .slice pa x.entry.length pc, .int .i64 x.segment, .int .i64 x.at', .int .u8 x.by']
theorem ddV_one (x : Dd) (pa : Option Addr) (pc : Nat) : ∀ u ∈ ddV x pa pc, u.oneCell' = true := by
  intro u hu
  simp [ddV] at hu
  rcases hu with rfl | rfl | rfl | rfl | rfl | rfl | rfl <;> rfl
/-- The values of several, whose entries lie in the world w. -/
def DoEls (w : World) (vs : List Value) (l : List Dd) : Prop :=
  vs.length = l.length * 7 ∧ ∀ j, j < l.length → ∃ pa pc, Some' w (.slice pa (l.getD j dd0).entry.length pc) (l.getD j dd0).entry ∧ DdFit (l.getD j dd0) ∧ ∀ i, i < 7 → vs[j * 7 + i]? = (ddV (l.getD j dd0) pa pc)[i]?
theorem DoEls.snoc {w : World} {vs : List Value} {l : List Dd} {x : Dd} {pa : Option Addr} {pc : Nat} (h : DoEls w vs l) (hx : Some' w (.slice pa x.entry.length pc) x.entry) (hb : DdFit x) : DoEls w (vs ++ ddV x pa pc) (l ++ [x]) := by
  obtain ⟨hl, h⟩ := h
  refine ⟨by rw [List.length_append, List.length_append, hl]; show l.length * 7 + 7 = (l.length + 1) * 7; omega, fun j hj => ?_⟩
  by_cases e : j < l.length
  · obtain ⟨qa, qc, h1, h2, h3⟩ := h j e
    have eg : (l ++ [x]).getD j dd0 = l.getD j dd0 := by rw [snoc_get, if_pos e]
    rw [eg]
    refine ⟨qa, qc, h1, h2, fun i hi => ?_⟩
    rw [List.getElem?_append_left (by omega)]
    exact h3 i hi
  · obtain rfl : j = l.length := by simp at hj; omega
    have eg : (l ++ [x]).getD l.length dd0 = x := by rw [snoc_get, if_neg (Nat.lt_irrefl _), if_pos rfl]
    rw [eg]
    refine ⟨pa, pc, hx, hb, fun i hi => ?_⟩
    rw [List.getElem?_append_right (by omega), hl, show l.length * 7 + i - l.length * 7 = i by omega]
/-- A row of a call's own, read as things that are done. -/
theorem DoEls.dos {w w' : World} {base : Nat} {v : Value} {vs : List Value} {l : List Dd} (h : DoEls w vs l) (ho : w'.ownsRow base 27 7 v l.length vs) (hb : Below w.heap.size w w') : DosAt w' v l := by
  obtain ⟨hl, h⟩ := h
  rcases ho.2 with ⟨hv, hn⟩ | ⟨g, cap, cur, rfl, -, hg, h3, h4, -⟩
  · exact ⟨none, 0, by rw [hv, hn], by omega, Nat.zero_le _, fun _ => rfl, .inl hn⟩
  · refine ⟨_, cap, rfl, h3, h4, (fun e => by cases e), .inr ⟨g, 0, rfl, lt_heap hg, fun j hj => ?_⟩⟩
    obtain ⟨pa, pc, h1, h2, h5⟩ := h j hj
    have hc : ∀ i, i < 7 → w'.cell? ⟨g, 0 + j * 7 + i, none⟩ = (ddV (l.getD j dd0) pa pc)[i]? := fun i hi => by rw [Nat.zero_add]; exact (ho.cellAt (j * 7 + i) (by omega)).trans (h5 i hi)
    exact ⟨hc 0 (by omega), hc 1 (by omega), hc 2 (by omega), ⟨pa, pc, hc 3 (by omega), h1.below hb⟩, hc 4 (by omega), hc 5 (by omega), hc 6 (by omega), h2⟩
theorem lit_dd (w : World) (x : Dd) (pa : Option Addr) (pc : Nat) (t : TypeId) : ∀ (j : Nat) (u : Value), (ddV x pa pc)[j]? = some u → (w.alloc (.cells #[.int .i64 x.kind, .int .i64 x.n, .int .i64 x.time, .slice pa x.entry.length pc, .int .i64 x.segment, .int .i64 x.at', .int .u8 x.by'] t)).cell? ((⟨w.heap.size, 0, none⟩ : Addr).add j) = some u := fun j u hj => by
  have hadd : (⟨w.heap.size, 0, none⟩ : Addr).add j = ⟨w.heap.size, 0 + j, none⟩ := Addr.add_mid _ _ _
  rw [hadd, Nat.zero_add]
  rw [cell_of_row _ _ j _ t _ (box_new w _ t), ← hj]
  simp [ddV]

end Go.Proofs.YtkjlchfmplcobahDoor

/- Windows and things to be done that a call makes: rows of its own. Nothing of the program's functions is in it. -/
namespace Go.Proofs.YtkjlchfmplcobahDoor
open Go.RowKit

theorem Tryd.info64b : (Tryd.prog.info? 64).map (fun i => (i.zero, i.size, i.bytes)) = some (some (.agg #[.int .i64 0, .int .i64 0]), 2, 16) := by kernel_rfl
/-- Bytes that lie below B, or in a block of bytes, or none. -/
def Away (B : Nat) (w : World) (v : Value) (d : List Int) : Prop := d = [] ∨ ∀ g, v.ownBlock = some g → g < w.heap.size ∧ (g < B ∨ ∃ cs mk, w.heap[g]? = some (.cells cs 5 mk))
theorem away_ne {B n : Nat} {w : World} {v u : Value} {xs : List Value} (h : ∀ g, v.ownBlock = some g → g < w.heap.size ∧ (g < B ∨ ∃ cs mk, w.heap[g]? = some (.cells cs 5 mk))) (ho : w.ownsRow B 27 7 u n xs) : ∀ g, v.ownBlock = some g → u.ownBlock ≠ some g := fun g hv hu => by
  rcases ho.2 with ⟨e, -⟩ | ⟨q, cap, cur, e, hb, hh, -⟩
  · rw [e] at hu; cases hu
  · rw [e] at hu
    cases hu
    obtain ⟨-, h1 | ⟨cs, mk, h1⟩⟩ := h q hv
    · omega
    · rw [hh] at h1; cases h1
theorem Away.grown {B n : Nat} {w w' : World} {v u : Value} {d : List Int} {xs : List Value} (h : Away B w v d) (ho : w.ownsRow B 27 7 u n xs) (hg : w.grownBy w' u.ownBlock) : Away B w' v d := by
  rcases h with h | h
  · exact .inl h
  · have hne := away_ne h ho
    refine .inr (fun g hv => ?_)
    obtain ⟨h0, h1⟩ := h g hv
    refine ⟨Nat.lt_of_lt_of_le h0 hg.size, ?_⟩
    rcases h1 with h1 | ⟨cs, mk, h1⟩
    · exact .inl h1
    · exact .inr ⟨cs, mk, (hg.block g h0 (fun e => hne g hv e.symm)).trans h1⟩
theorem Away.below {B : Nat} {w w' : World} {v : Value} {d : List Int} (h : Away B w v d) (hb : Below w.heap.size w w') : Away B w' v d := by
  rcases h with h | h
  · exact .inl h
  · refine .inr (fun g hv => ?_)
    obtain ⟨h0, h1⟩ := h g hv
    refine ⟨Nat.lt_of_lt_of_le h0 hb.size, ?_⟩
    rcases h1 with h1 | ⟨cs, mk, h1⟩
    · exact .inl h1
    · exact .inr ⟨cs, mk, (hb.block g h0).trans h1⟩
theorem away_nil (B : Nat) (w : World) (n c : Nat) : Away B w (.slice none n c) [] := .inl rfl
theorem Some'.away {B n : Nat} {w w' : World} {v u : Value} {d : List Int} {xs : List Value} (h : Some' w v d) (ha : Away B w v d) (ho : w.ownsRow B 27 7 u n xs) (g : w.grownBy w' u.ownBlock) : Some' w' v d := by
  refine ⟨?_, h.bytes, h.short⟩
  rcases h.at' with h1 | ⟨b, off, cp, h1, h2, h3⟩
  · exact .inl h1
  · rcases ha with rfl | ha
    · exact .inl ⟨rfl, _, _, h1, fun e => by cases e⟩
    · refine .inr ⟨b, off, cp, h1, Nat.lt_of_lt_of_le h2 g.size, fun j hj => ?_⟩
      have hne := away_ne ha ho b (by rw [h1]; rfl)
      rw [World.cell?_of_block (a := ⟨b, off + j, none⟩) (g.block b h2 (fun e => hne e.symm))]
      exact h3 j hj
/-- The values of things to be done, with entries that stay. -/
def DoB (B : Nat) (w : World) (vs : List Value) (l : List Dd) : Prop :=
  vs.length = l.length * 7 ∧ ∀ j, j < l.length → ∃ pa pc, Some' w (.slice pa (l.getD j dd0).entry.length pc) (l.getD j dd0).entry ∧ Away B w (.slice pa (l.getD j dd0).entry.length pc) (l.getD j dd0).entry ∧ DdFit (l.getD j dd0) ∧ ∀ i, i < 7 → vs[j * 7 + i]? = (ddV (l.getD j dd0) pa pc)[i]?
theorem doB_nil (B : Nat) (w : World) : DoB B w [] [] := ⟨rfl, fun _ hj => absurd hj (Nat.not_lt_zero _)⟩
theorem DoB.below {B : Nat} {w w' : World} {vs : List Value} {l : List Dd} (h : DoB B w vs l) (hb : Below w.heap.size w w') : DoB B w' vs l := ⟨h.1, fun j hj => by
  obtain ⟨pa, pc, h1, h2, h3⟩ := h.2 j hj
  exact ⟨pa, pc, h1.below hb, h2.below hb, h3⟩⟩
theorem DoB.grown {B n : Nat} {w w' : World} {vs : List Value} {l : List Dd} {u : Value} {xs : List Value} (h : DoB B w vs l) (ho : w.ownsRow B 27 7 u n xs) (hg : w.grownBy w' u.ownBlock) : DoB B w' vs l := ⟨h.1, fun j hj => by
  obtain ⟨pa, pc, h1, h2, h3⟩ := h.2 j hj
  exact ⟨pa, pc, h1.away h2 ho hg, h2.grown ho hg, h3⟩⟩
theorem DoB.snoc {B : Nat} {w : World} {vs : List Value} {l : List Dd} {x : Dd} {pa : Option Addr} {pc : Nat} (h : DoB B w vs l) (hx : Some' w (.slice pa x.entry.length pc) x.entry) (ha : Away B w (.slice pa x.entry.length pc) x.entry) (hb : DdFit x) : DoB B w (vs ++ ddV x pa pc) (l ++ [x]) := by
  obtain ⟨hl, h⟩ := h
  refine ⟨by rw [List.length_append, List.length_append, hl]; show l.length * 7 + 7 = (l.length + 1) * 7; omega, fun j hj => ?_⟩
  by_cases e : j < l.length
  · obtain ⟨qa, qc, h1, h2, h3, h4⟩ := h j e
    have eg : (l ++ [x]).getD j dd0 = l.getD j dd0 := by rw [snoc_get, if_pos e]
    rw [eg]
    refine ⟨qa, qc, h1, h2, h3, fun i hi => ?_⟩
    rw [List.getElem?_append_left (by omega)]
    exact h4 i hi
  · obtain rfl : j = l.length := by simp at hj; omega
    have eg : (l ++ [x]).getD l.length dd0 = x := by rw [snoc_get, if_neg (Nat.lt_irrefl _), if_pos rfl]
    rw [eg]
    refine ⟨pa, pc, hx, ha, hb, fun i hi => ?_⟩
    rw [List.getElem?_append_right (by omega), hl, show l.length * 7 + i - l.length * 7 = i by omega]
theorem DoB.dos {B b : Nat} {w : World} {v : Value} {vs : List Value} {l : List Dd} (h : DoB B w vs l) (ho : w.ownsRow b 27 7 v l.length vs) : DosAt w v l :=
  DoEls.dos (w := w) ⟨h.1, fun j hj => by obtain ⟨pa, pc, h1, -, h2, h3⟩ := h.2 j hj; exact ⟨pa, pc, h1, h2, h3⟩⟩ ho (Below.refl _ _)
/-- The values of windows. -/
def winV (x : Win) : List Value := [.int .i64 x.a, .int .i64 x.b]
def WinEls (vs : List Value) (l : List Win) : Prop := vs.length = l.length * 2 ∧ ∀ j, j < l.length → ∀ i, i < 2 → vs[j * 2 + i]? = (winV (l.getD j win0))[i]?
theorem winEls_nil : WinEls [] [] := ⟨rfl, fun _ hj => absurd hj (Nat.not_lt_zero _)⟩
theorem WinEls.snoc {vs : List Value} {l : List Win} {x : Win} (h : WinEls vs l) : WinEls (vs ++ winV x) (l ++ [x]) := by
  obtain ⟨hl, h⟩ := h
  refine ⟨by rw [List.length_append, List.length_append, hl]; show l.length * 2 + 2 = (l.length + 1) * 2; omega, fun j hj i hi => ?_⟩
  by_cases e : j < l.length
  · rw [snoc_get, if_pos e, List.getElem?_append_left (by omega)]
    exact h j e i hi
  · obtain rfl : j = l.length := by simp at hj; omega
    rw [snoc_get, if_neg (Nat.lt_irrefl _), if_pos rfl, List.getElem?_append_right (by omega), hl, show l.length * 2 + i - l.length * 2 = i by omega]
theorem WinEls.wins {b : Nat} {w : World} {v : Value} {vs : List Value} {l : List Win} (h : WinEls vs l) (ho : w.ownsRow b 64 2 v l.length vs) : WinsAt w v l := by
  rcases ho.2 with ⟨hv, hn⟩ | ⟨g, cap, cur, rfl, -, hg, h3, h4, -⟩
  · exact ⟨none, 0, by rw [hv, hn], by omega, Nat.zero_le _, fun _ => rfl, .inl hn⟩
  · refine ⟨_, cap, rfl, h3, h4, (fun e => by cases e), .inr ⟨g, 0, rfl, lt_heap hg, fun j hj => ?_⟩⟩
    have hc : ∀ i, i < 2 → w.cell? ⟨g, 0 + j * 2 + i, none⟩ = (winV (l.getD j win0))[i]? := fun i hi => by rw [Nat.zero_add]; exact (ho.cellAt (j * 2 + i) (by have := h.1; omega)).trans (h.2 j hj i hi)
    exact ⟨hc 0 (by omega), hc 1 (by omega)⟩
theorem own2_form {w : World} {base : Nat} {e : TypeId} {size : Nat} {v : Value} {n : Nat} {xs : List Value} (h : w.ownsRow base e size v n xs) : ∃ a c, v = .slice a n c := by
  rcases h.2 with ⟨hv, rfl⟩ | ⟨g, cap, cur, hv, -⟩
  · exact ⟨none, 0, hv⟩
  · exact ⟨_, cap, hv⟩
theorem lit_win (w : World) (x : Win) (t : TypeId) : ∀ (j : Nat) (u : Value), (winV x)[j]? = some u → (w.alloc (.cells #[.int .i64 x.a, .int .i64 x.b] t)).cell? ((⟨w.heap.size, 0, none⟩ : Addr).add j) = some u := fun j u hj => by
  have hadd : (⟨w.heap.size, 0, none⟩ : Addr).add j = ⟨w.heap.size, 0 + j, none⟩ := Addr.add_mid _ _ _
  rw [hadd, Nat.zero_add, cell_of_row _ _ j _ t _ (box_new w _ t), ← hj]
  simp [winV]

end Go.Proofs.YtkjlchfmplcobahDoor

/- The small fleet that each law of chapter 7 asks first. -/
namespace Go.Proofs.YtkjlchfmplcobahDoor

def doD (kind n : Int) : Dd := ⟨kind, n, 0, [], 0, 0, 0⟩
def subD (time : Int) (b : List Int) : Dd := ⟨1, 0, time, b, 0, 0, 0⟩
end Go.Proofs.YtkjlchfmplcobahDoor

/- Chapter 7's mathematics: years. -/
namespace Go.Proofs.YtkjlchfmplcobahDoor

/-- A shard with another state, other entries and another manifest. -/
abbrev upd (s : Shd) (st : Int) (es : List (List Int)) (m : Man) : Shd := ⟨s.from', s.to', st, es, m⟩
def subsL (t : Int) (es : List (List Int)) : List Dd := es.map (fun e => subD t e)
/-- Answers to entries that come behind n others. -/
def placesL (k n : Nat) (es : List (List Int)) : List Ans := (List.range es.length).map (fun i => ⟨0, (k : Int), ((n + i : Nat) : Int), 0, []⟩)
theorem place_absent {es : List (List Int)} {e : List Int} (h : e ∉ es) : placeOf es e = none :=
  find_none (fun j hj => decide_eq_false (fun g => h (by rw [← g, List.getD_eq_getElem?_getD, List.getElem?_eq_getElem hj]; exact List.getElem_mem hj)))
theorem place_at {es : List (List Int)} (hd : es.Nodup) {i : Nat} (hi : i < es.length) : placeOf es (es.getD i []) = some i :=
  find_range hi (decide_eq_true rfl) (fun j hj => decide_eq_false (fun g => by
    rw [List.getD_eq_getElem?_getD, List.getElem?_eq_getElem (by omega), List.getD_eq_getElem?_getD, List.getElem?_eq_getElem hi] at g
    have := (List.getElem_inj hd).1 g
    omega))
theorem sub_new {f : Flt} {k : Nat} {t : Int} {e : List Int} (hh : homeOf f.shards t = some k) (h1 : (f.shards.getD k shd0).state = 1) (hn : e ∉ (f.shards.getD k shd0).entries) (h200 : e.length ≤ 200) (h100 : (f.shards.getD k shd0).entries.length < 100) :
    stepL f (subD t e) = (f.put k (upd (f.shards.getD k shd0) ((f.shards.getD k shd0).state) ((f.shards.getD k shd0).entries ++ [e]) ((f.shards.getD k shd0).man)), ⟨0, (k : Int), ((f.shards.getD k shd0).entries.length : Int), 0, []⟩) := by
  unfold stepL
  rw [if_pos (show (subD t e).kind = 1 from rfl)]
  unfold submitL
  rw [if_neg (show ¬ 200 < (subD t e).entry.length from show ¬ 200 < e.length by omega)]
  have hh' : homeOf f.shards (subD t e).time = some k := hh
  rw [hh']
  dsimp only
  rw [if_neg (fun g => g h1)]
  have hp : placeOf (f.shards.getD k shd0).entries (subD t e).entry = none := place_absent hn
  rw [hp]
  dsimp only
  rw [if_neg (by omega)]
  rfl
theorem run_subs {k : Nat} {t : Int} : ∀ (es : List (List Int)) (f : Flt), homeOf f.shards t = some k → (f.shards.getD k shd0).state = 1 → es.Nodup → (∀ e ∈ es, e ∉ (f.shards.getD k shd0).entries) → (∀ e ∈ es, e.length ≤ 200) → (f.shards.getD k shd0).entries.length + es.length ≤ 100 →
    runL f (subsL t es) = (f.put k (upd (f.shards.getD k shd0) ((f.shards.getD k shd0).state) ((f.shards.getD k shd0).entries ++ es) ((f.shards.getD k shd0).man)), placesL k (f.shards.getD k shd0).entries.length es)
  | [], f, hh, _, _, _, _, _ => by
    obtain ⟨hk, -, -⟩ := home_some hh
    show (f, []) = _
    refine Prod.ext ?_ rfl
    show f = Flt.mk (f.shards.set k _) f.book
    rw [List.append_nil, set_same hk]
  | e :: es, f, hh, h1, hd, hn, h200, h100 => by
    obtain ⟨hk, -, -⟩ := home_some hh
    rw [List.length_cons] at h100
    have hstep := sub_new hh h1 (hn e (by simp)) (h200 e (by simp)) (by omega)
    obtain ⟨g, hg⟩ : ∃ g, g = f.put k (upd (f.shards.getD k shd0) ((f.shards.getD k shd0).state) ((f.shards.getD k shd0).entries ++ [e]) ((f.shards.getD k shd0).man)) := ⟨_, rfl⟩
    rw [← hg] at hstep
    have hgk : g.shards.getD k shd0 = (upd (f.shards.getD k shd0) ((f.shards.getD k shd0).state) ((f.shards.getD k shd0).entries ++ [e]) ((f.shards.getD k shd0).man)) := by rw [hg]; exact getD_set_same hk
    have hgh : homeOf g.shards t = some k := by rw [hg]; exact (home_put (l := f.shards) (k := k) (s := upd (f.shards.getD k shd0) ((f.shards.getD k shd0).state) ((f.shards.getD k shd0).entries ++ [e]) ((f.shards.getD k shd0).man)) ⟨rfl, rfl⟩ t).trans hh
    have ih := run_subs (k := k) (t := t) es g hgh (by rw [hgk]; exact h1) (List.nodup_cons.1 hd).2 (fun x hx => by
      rw [hgk]
      intro hm
      rcases List.mem_append.1 hm with q | q
      · exact hn x (by simp [hx]) q
      · rw [List.mem_singleton.1 q] at hx
        exact (List.nodup_cons.1 hd).1 hx) (fun x hx => h200 x (by simp [hx])) (by rw [hgk]; show ((f.shards.getD k shd0).entries ++ [e]).length + _ ≤ 100; rw [List.length_append, List.length_singleton]; omega)
    show ((runL (stepL f (subD t e)).1 (subsL t es)).1, (stepL f (subD t e)).2 :: (runL (stepL f (subD t e)).1 (subsL t es)).2) = _
    rw [hstep]
    dsimp only
    rw [ih, hgk]
    dsimp only
    refine Prod.ext ?_ ?_
    · show Flt.mk (g.shards.set k _) g.book = Flt.mk (f.shards.set k _) f.book
      rw [hg]
      show Flt.mk ((f.shards.set k _).set k _) f.book = _
      rw [List.set_set, List.append_assoc]
      rfl
    · show _ :: placesL k _ es = placesL k _ (e :: es)
      unfold placesL
      rw [List.length_cons, List.range_succ_eq_map, List.map_cons, List.map_map]
      congr 1
      refine List.map_congr_left (fun i _ => ?_)
      rw [List.length_append, List.length_singleton]
      show Ans.mk _ _ _ _ _ = Ans.mk _ _ _ _ _
      congr 2
      omega
/-- A year: entries come, and the shard is frozen, laid away, retired, as far as said. -/
def yearL (k : Nat) (es : List (List Int)) (far : Nat) : List Dd := subsL (10 * (k : Int) + 5) es ++ ([doD 2 k, doD 3 k, doD 4 k].take far)
def winsL (n : Nat) : List Win := (List.range n).map (fun (k : Nat) => ⟨10 * (k : Int), 10 * (k : Int) + 10⟩)
/-- Entries that may be taken. -/
structure Unlike (es : List (List Int)) : Prop where
  nodup : es.Nodup
  short : ∀ e ∈ es, e.length ≤ 200
  few : es.length ≤ 30
theorem freeze_step {f : Flt} {k : Nat} (hk : k < f.shards.length) (h1 : (f.shards.getD k shd0).state = 1) : stepL f (doD 2 k) = (⟨f.shards.set k (upd (f.shards.getD k shd0) (2) ((f.shards.getD k shd0).entries) ((f.shards.getD k shd0).man)), f.book ++ [⟨(k : Int), (f.shards.getD k shd0).from', (f.shards.getD k shd0).to', ((f.shards.getD k shd0).entries.length : Int), mth (f.shards.getD k shd0).entries⟩]⟩, ⟨0, (k : Int), 0, ((f.shards.getD k shd0).entries.length : Int), mth (f.shards.getD k shd0).entries⟩) := by
  unfold stepL
  rw [if_neg (show ¬ (doD 2 k).kind = 1 from show ¬ (2 : Int) = 1 by decide), if_neg (show ¬ ((doD 2 k).kind < 2 ∨ 5 < (doD 2 k).kind) from show ¬ ((2 : Int) < 2 ∨ 5 < (2 : Int)) by decide), if_neg (show ¬ ((doD 2 k).n < 0 ∨ (f.shards.length : Int) ≤ (doD 2 k).n) from show ¬ ((k : Int) < 0 ∨ (f.shards.length : Int) ≤ (k : Int)) by omega)]
  have : (doD 2 k).n.toNat = k := rfl
  rw [this, if_neg (fun g => g h1)]
  rfl
theorem export_step {f : Flt} {k : Nat} (hk : k < f.shards.length) (h2 : (f.shards.getD k shd0).state = 2) (hw : wrongL (f.shards.getD k shd0).entries = (0, 0)) : stepL f (doD 3 k) = (f.put k (upd (f.shards.getD k shd0) (3) ((f.shards.getD k shd0).entries) (exportL (f.shards.getD k shd0).entries)), ⟨0, (k : Int), 0, (exportL (f.shards.getD k shd0).entries).size, (exportL (f.shards.getD k shd0).entries).root⟩) := by
  unfold stepL
  rw [if_neg (show ¬ (doD 3 k).kind = 1 from show ¬ (3 : Int) = 1 by decide), if_neg (show ¬ ((doD 3 k).kind < 2 ∨ 5 < (doD 3 k).kind) from show ¬ ((3 : Int) < 2 ∨ 5 < (3 : Int)) by decide), if_neg (show ¬ ((doD 3 k).n < 0 ∨ (f.shards.length : Int) ≤ (doD 3 k).n) from show ¬ ((k : Int) < 0 ∨ (f.shards.length : Int) ≤ (k : Int)) by omega)]
  have : (doD 3 k).n.toNat = k := rfl
  rw [this, if_neg (fun g => g h2)]
  unfold stepAt
  dsimp only
  rw [if_neg (show ¬ (doD 3 k).kind = 2 from show ¬ (3 : Int) = 2 by decide), if_pos (show (doD 3 k).kind = 3 from rfl), hw, if_neg (fun g => g rfl)]
theorem retire_do {f : Flt} {k : Nat} (hk : k < f.shards.length) (h3 : (f.shards.getD k shd0).state = 3) : stepL f (doD 4 k) = if (verifyL (f.shards.getD k shd0).man).2.1 ≠ 0 then (f, no (verifyL (f.shards.getD k shd0).man).2.1) else (f.put k (upd (f.shards.getD k shd0) (4) ([]) ((f.shards.getD k shd0).man)), ⟨0, (k : Int), 0, (f.shards.getD k shd0).man.size, (f.shards.getD k shd0).man.root⟩) := by
  unfold stepL
  rw [if_neg (show ¬ (doD 4 k).kind = 1 from show ¬ (4 : Int) = 1 by decide), if_neg (show ¬ ((doD 4 k).kind < 2 ∨ 5 < (doD 4 k).kind) from show ¬ ((4 : Int) < 2 ∨ 5 < (4 : Int)) by decide), if_neg (show ¬ ((doD 4 k).n < 0 ∨ (f.shards.length : Int) ≤ (doD 4 k).n) from show ¬ ((k : Int) < 0 ∨ (f.shards.length : Int) ≤ (k : Int)) by omega)]
  have : (doD 4 k).n.toNat = k := rfl
  rw [this, if_neg (fun g => g h3)]
  rfl
/-- A shard as far as said. -/
def yearS (s : Shd) (es : List (List Int)) (far : Nat) : Shd :=
  match far with
  | 0 => (upd s (s.state) (es) (s.man))
  | 1 => (upd s (2) (es) (s.man))
  | 2 => (upd s (3) (es) (exportL es))
  | _ => (upd s (4) ([]) (exportL es))
def yearA (k : Nat) (es : List (List Int)) (far : Nat) : List Ans := placesL k 0 es ++ (List.replicate (min far 3) ⟨0, (k : Int), 0, (es.length : Int), mth es⟩)
theorem Unlike.wrong {es : List (List Int)} (h : Unlike es) : wrongL es = (0, 0) := wrong_zero (by have := h.few; omega) (fun j => by
  by_cases hj : j < es.length
  · rw [List.getD_eq_getElem?_getD, List.getElem?_eq_getElem hj]; exact h.short _ (List.getElem_mem hj)
  · rw [List.getD_eq_getElem?_getD, List.getElem?_eq_none (by omega)]; simp)
theorem Unlike.export {es : List (List Int)} (h : Unlike es) : exportL es = ⟨es.length, mth es, segsL es⟩ := by unfold exportL; rw [h.wrong, if_neg (fun g => g rfl)]
theorem Unlike.verify {es : List (List Int)} (h : Unlike es) : verifyL (exportL es) = (es, 0, 0) := by rw [h.export]; exact verify_export (by have := h.few; omega) h.short
theorem run_year {f : Flt} {k : Nat} {es : List (List Int)} (hu : Unlike es) (hh : homeOf f.shards (10 * (k : Int) + 5) = some k) (h1 : (f.shards.getD k shd0).state = 1) (h0 : (f.shards.getD k shd0).entries = []) {far : Nat} (hf1 : 1 ≤ far) (hf3 : far ≤ 3) :
    runL f (yearL k es far) = (⟨f.shards.set k (yearS (f.shards.getD k shd0) es far), f.book ++ [⟨(k : Int), (f.shards.getD k shd0).from', (f.shards.getD k shd0).to', (es.length : Int), mth es⟩]⟩, yearA k es far) := by
  obtain ⟨hk, -, -⟩ := home_some hh
  have hs := run_subs es f hh h1 hu.nodup (fun e _ => by rw [h0]; simp) hu.short (by rw [h0]; have := hu.few; simp; omega)
  rw [h0, List.nil_append] at hs
  unfold yearL
  rw [runL_append, hs]
  dsimp only
  obtain ⟨S, hS⟩ : ∃ S, S = f.shards.getD k shd0 := ⟨_, rfl⟩
  rw [← hS] at h1 h0 ⊢
  -- frozen
  have e1 : (f.put k (upd S (S.state) (es) (S.man))).shards.getD k shd0 = (upd S (S.state) (es) (S.man)) := getD_set_same hk
  have s1 := freeze_step (f := f.put k (upd S (S.state) (es) (S.man))) (k := k) (by show k < (f.shards.set k _).length; rw [List.length_set]; exact hk) (by rw [e1]; exact h1)
  rw [e1] at s1
  have f1 : (f.put k (upd S (S.state) (es) (S.man))).shards.set k (upd S (2) (es) (S.man)) = f.shards.set k (upd S (2) (es) (S.man)) := List.set_set ..
  dsimp only at s1
  rw [f1] at s1
  have hx := hu.export
  have harc : far = 1 ∨ far = 2 ∨ far = 3 := by omega
  rcases harc with rfl | rfl | rfl
  · show ((runL _ [doD 2 k]).1, _ ++ (runL _ [doD 2 k]).2) = _
    simp only [runL, s1]
    rfl
  · have e2 : (⟨f.shards.set k (upd S (2) (es) (S.man)), (f.put k (upd S (S.state) (es) (S.man))).book ++ [⟨(k : Int), S.from', S.to', (es.length : Int), mth es⟩]⟩ : Flt).shards.getD k shd0 = (upd S (2) (es) (S.man)) := getD_set_same hk
    have s2 := export_step (f := ⟨f.shards.set k (upd S (2) (es) (S.man)), (f.put k (upd S (S.state) (es) (S.man))).book ++ [⟨(k : Int), S.from', S.to', (es.length : Int), mth es⟩]⟩) (k := k) (by show k < (f.shards.set k _).length; rw [List.length_set]; exact hk) (by rw [e2]) (by rw [e2]; exact hu.wrong)
    rw [e2] at s2
    show ((runL _ [doD 2 k, doD 3 k]).1, _ ++ (runL _ [doD 2 k, doD 3 k]).2) = _
    simp only [runL, s1, s2]
    refine Prod.ext ?_ ?_
    · show Flt.mk ((f.shards.set k _).set k _) _ = Flt.mk _ _
      rw [List.set_set]
      rfl
    · show _ ++ [_, _] = placesL k 0 es ++ [_, _]
      rw [hx]
      rfl
  · have e2 : (⟨f.shards.set k (upd S (2) (es) (S.man)), (f.put k (upd S (S.state) (es) (S.man))).book ++ [⟨(k : Int), S.from', S.to', (es.length : Int), mth es⟩]⟩ : Flt).shards.getD k shd0 = (upd S (2) (es) (S.man)) := getD_set_same hk
    have s2 := export_step (f := ⟨f.shards.set k (upd S (2) (es) (S.man)), (f.put k (upd S (S.state) (es) (S.man))).book ++ [⟨(k : Int), S.from', S.to', (es.length : Int), mth es⟩]⟩) (k := k) (by show k < (f.shards.set k _).length; rw [List.length_set]; exact hk) (by rw [e2]) (by rw [e2]; exact hu.wrong)
    rw [e2] at s2
    dsimp only at s2
    obtain ⟨F2, hF2⟩ : ∃ F2, F2 = (⟨f.shards.set k (upd S (2) (es) (S.man)), (f.put k (upd S (S.state) (es) (S.man))).book ++ [⟨(k : Int), S.from', S.to', (es.length : Int), mth es⟩]⟩ : Flt).put k (upd S (3) (es) (exportL es)) := ⟨_, rfl⟩
    rw [← hF2] at s2
    have e3 : F2.shards.getD k shd0 = (upd S (3) (es) (exportL es)) := by rw [hF2]; exact getD_set_same (by show k < (f.shards.set k _).length; rw [List.length_set]; exact hk)
    have s3 := retire_do (f := F2) (k := k) (by rw [hF2]; show k < ((f.shards.set k _).set k _).length; rw [List.length_set, List.length_set]; exact hk) (by rw [e3])
    rw [e3] at s3
    dsimp only at s3
    rw [hu.verify, if_neg (fun g => g rfl)] at s3
    show ((runL _ [doD 2 k, doD 3 k, doD 4 k]).1, _ ++ (runL _ [doD 2 k, doD 3 k, doD 4 k]).2) = _
    simp only [runL, s1, s2, s3]
    refine Prod.ext ?_ ?_
    · rw [hF2]
      show Flt.mk (((f.shards.set k _).set k _).set k _) _ = Flt.mk _ _
      rw [List.set_set, List.set_set]
      rfl
    · show _ ++ [_, _, _] = placesL k 0 es ++ [_, _, _]
      rw [hx]
      rfl

end Go.Proofs.YtkjlchfmplcobahDoor

/- The walks of yeartop.do, yeartop.windows and yeartop.year. -/
namespace Go.Proofs.YtkjlchfmplcobahDoor
open Go.RowKit

set_option maxRecDepth 100000 in
theorem topDo_any (kind n : Int) (w : World) :
    Calls Tryd.prog 7 #[.int .i64 kind, .int .i64 n] w fun e w' => e = .returned (.agg #[.int .i64 kind, .int .i64 n, .int .i64 0, .slice none 0 0, .int .i64 0, .int .i64 0, .int .u8 0]) ∧ Below w.heap.size w w' := by
  have b0 : Below w.heap.size w (w.alloc (.cells #[.int .i64 kind, .int .i64 n, .int .i64 0, .slice none 0 0, .int .i64 0, .int .i64 0, .int .u8 0] 27)) := (Below.refl _ _).alloc (Nat.le_refl _) _
  go_enter Tryd.func7, Tryd.ntmps7
  go_wp2_with fail
  exact bodyPost_ret (v := .agg #[.int .i64 kind, .int .i64 n, .int .i64 0, .slice none 0 0, .int .i64 0, .int .i64 0, .int .u8 0]) (by simp [results, Tryd.results7, go_sem]) rfl ⟨rfl, b0⟩
theorem winsL_length (n : Nat) : (winsL n).length = n := by simp [winsL]
theorem winsL_snoc (n : Nat) : winsL (n + 1) = winsL n ++ [⟨10 * (n : Int), 10 * (n : Int) + 10⟩] := by unfold winsL; rw [List.range_succ, List.map_append]; rfl
set_option maxRecDepth 100000 in
set_option maxHeartbeats 1000000 in
theorem windows_any (n : Nat) (h8 : n ≤ 8) (w : World) :
    Calls Tryd.prog 9 #[.int .i64 (n : Int)] w fun e w' => ∃ va vc, e = .returned (.slice va n vc) ∧ WinsAt w' (.slice va n vc) (winsL n) ∧ Below w.heap.size w w' := by
  obtain ⟨i0, hi0, hz0, hz1, hz2⟩ := info_parts Tryd.info64b
  go_enter Tryd.func9, Tryd.ntmps9
  go_wp2_with fail
  go_loopw [3, 6] (fun gv kv wr => ∃ (j : Nat) (va : Option Addr) (vc : Nat) (vs : List Value), j ≤ n ∧ kv = .int .i64 j ∧ gv = .slice va j vc ∧ wr.ownsRow w.heap.size 64 2 (.slice va j vc) j vs ∧ Hid (WinEls vs (winsL j)) ∧ Below w.heap.size w wr) (fun _ kv _ => n - (intOf kv).toNat)
  case atStart => exact ⟨0, none, 0, [], Nat.zero_le _, rfl, rfl, World.ownsRow_nil _ _ _ _, winEls_nil, Below.refl _ _⟩
  case round =>
    obtain ⟨wo, rfl⟩ : ∃ x, x = wr := ⟨wr, rfl⟩
    obtain ⟨j, va, vc, vs, hj, rfl, rfl, hrow, HW, hbr⟩ := hrel
    have hsr := hbr.size
    by_cases hlt : j < n
    · have hlt' : (j : Int) < n := by omega
      have HW2 : Hid (WinEls (vs ++ winV ⟨10 * (j : Int), 10 * (j : Int) + 10⟩) (winsL (j + 1))) := by show WinEls _ _; rw [winsL_snoc]; exact HW.out.snoc
      have m1 : wrap64 (10 * (j : Int)) = 10 * (j : Int) := by unfold wrap64; omega
      have m2 : wrap64 (10 * (j : Int) + 10) = 10 * (j : Int) + 10 := by unfold wrap64; omega
      have hrowA := hrow.alloc (.cells #[.int .i64 (10 * (j : Int)), .int .i64 (10 * (j : Int) + 10)] 64)
      have hnew := lit_win wo ⟨10 * (j : Int), 10 * (j : Int) + 10⟩ 64
      have bA : Below w.heap.size w (wo.alloc (.cells #[.int .i64 (10 * (j : Int)), .int .i64 (10 * (j : Int) + 10)] 64)) := hbr.alloc hsr _
      have hsA := bA.size
      have hone : ∀ u ∈ winV ⟨10 * (j : Int), 10 * (j : Int) + 10⟩, u.oneCell' = true := by intro u hu; simp [winV] at hu; rcases hu with rfl | rfl <;> rfl
      clear hrow HW
      go_wp2_with (at_builtin; refine wpList_append_own _ rfl (.tmp 9) (.tmp 16) 39 rfl w.heap.size 64 i0 _ 2 16 Tryd.underlying39 hi0 hz0 hz1 hz2 rfl (by decide) _ _ _ rfl hrowA ⟨wo.heap.size, 0, none⟩ 1 1 _ rfl rfl hnew hone (by unfold maxLen; omega) (by omega) hsA ?_; intro v7 w7 ho7 hg7 _; obtain ⟨ga, gc, rfl⟩ := own2_form ho7)
      have b7 : Below w.heap.size w w7 := bA.grown hg7 hsA (fun _ h => (hrowA.lt _ h).1)
      go_roundw
      case rel => exact ⟨j + 1, ga, gc, _, by omega, by go_num, rfl, ho7, HW2, b7⟩
      case measure => simp [intOf]; omega
    · obtain rfl : j = n := by omega
      have hnl : ¬ (j : Int) < j := by omega
      have HG : Hid (WinsAt wo (.slice va j vc) (winsL j)) := HW.out.wins (by rw [winsL_length]; exact hrow)
      clear hrow HW
      go_wp2_with fail
      go_ret
      exact ⟨va, vc, rfl, HG.out, hbr⟩
/-- Entries as they come in, that stay as they are while the row u grows. -/
def Stay (B : Nat) (u : Value) (w : World) (ea : Option Addr) (n c : Nat) (es : List (List Int)) : Prop :=
  ∀ w', Below B w w' → w.heap.size ≤ w'.heap.size → (∀ k, k < w.heap.size → u.ownBlock ≠ some k → w'.heap[k]? = w.heap[k]?) → Lists w' ea n c es ∧ ∀ j b off pa m pc, j < n → ea = some ⟨b, off, none⟩ → w'.cell? ⟨b, off + j, none⟩ = some (.slice pa m pc) → Away B w' (.slice pa m pc) (es.getD j [])
/-- The row so far. -/
def YearI (B : Nat) (w : World) (u : Value) (wr : World) (v : Value) (l : List Dd) : Prop := ∃ va vc vs, v = .slice va l.length vc ∧ wr.ownsRow B 27 7 v l.length vs ∧ DoB B wr vs l ∧ (v.ownBlock = u.ownBlock ∨ ∀ g, v.ownBlock = some g → w.heap.size ≤ g) ∧ (∀ k, k < w.heap.size → u.ownBlock ≠ some k → wr.heap[k]? = w.heap[k]?) ∧ Below B w wr ∧ w.heap.size ≤ wr.heap.size
theorem subs_snoc (t : Int) (es : List (List Int)) {j : Nat} (h : j < es.length) : subsL t (es.take (j + 1)) = subsL t (es.take j) ++ [subD t (es.getD j [])] := by
  unfold subsL
  rw [List.take_add_one, List.getElem?_eq_getElem h, List.map_append, List.getD_eq_getElem?_getD, List.getElem?_eq_getElem h]; rfl

theorem YearI.call {B : Nat} {w wr w' : World} {u v : Value} {l : List Dd} (h : YearI B w u wr v l) (hb : Below wr.heap.size wr w') (hB : B ≤ w.heap.size) : YearI B w u w' v l := by
  obtain ⟨va, vc, vs, h1, h2, h3, h4, h5, h6, h7⟩ := h
  exact ⟨va, vc, vs, h1, own7_below h2 hb (Nat.le_refl _), h3.below hb, h4, fun k hk hu => (hb.block k (Nat.lt_of_lt_of_le hk h7)).trans (h5 k hk hu), h6.trans (hb.mono (Nat.le_trans hB h7)), Nat.le_trans h7 hb.size⟩
/-- One thing more. -/
theorem YearI.more {B : Nat} {w wr w6 : World} {u : Value} {va : Option Addr} {n vc g cap : Nat} {l : List Dd} {x : Dd} {pa : Option Addr} {pc : Nat} {o : Obj} {vs : List Value} (hn : l.length = n) (hrow : wr.ownsRow B 27 7 (.slice va n vc) n vs) (hD : DoB B wr vs l) (hw : (Value.slice va n vc).ownBlock = u.ownBlock ∨ ∀ g, (Value.slice va n vc).ownBlock = some g → w.heap.size ≤ g) (hk : ∀ k, k < w.heap.size → u.ownBlock ≠ some k → wr.heap[k]? = w.heap[k]?) (hb : Below B w wr) (hs : w.heap.size ≤ wr.heap.size) (hB : B ≤ w.heap.size)
    (hx : Some' wr (.slice pa x.entry.length pc) x.entry) (ha : Away B wr (.slice pa x.entry.length pc) x.entry) (hf : DdFit x)
    (hg6 : (wr.alloc o).grownBy w6 (Value.slice va n vc).ownBlock) (ho6 : w6.ownsRow B 27 7 (.slice (some ⟨g, 0, none⟩) (n + 1) cap) (n + 1) (vs ++ ddV x pa pc)) (ha6 : (Value.slice va n vc).ownBlock = some g ∨ g = (wr.alloc o).heap.size) :
    YearI B w u w6 (.slice (some ⟨g, 0, none⟩) (n + 1) cap) (l ++ [x]) := by
  have bA : Below wr.heap.size wr (wr.alloc o) := (Below.refl _ _).alloc (Nat.le_refl _) _
  have hrowA := hrow.alloc o
  have hDA := (hD.below bA).snoc (hx.below bA) (ha.below bA) hf
  have hl1 : (l ++ [x]).length = n + 1 := by rw [List.length_append, hn]; rfl
  refine ⟨_, cap, _, by rw [hl1], by rw [hl1]; exact ho6, hDA.grown hrowA hg6, ?_, fun k hk' hu => ?_, ?_, ?_⟩
  · rcases ha6 with h | h
    · rcases hw with h' | h'
      · exact .inl (by rw [← h', h]; rfl)
      · exact .inr (fun q hq => by cases hq; exact h' g h)
    · exact .inr (fun q hq => by cases hq; show w.heap.size ≤ g; have := bA.size; omega)
  · have hlt : k < (wr.alloc o).heap.size := by have := bA.size; omega
    rw [hg6.block k hlt (fun e => by
      rcases hw with h' | h'
      · exact hu (by rw [← h', ← e])
      · have := h' k e.symm; omega)]
    rw [bA.block k (by omega)]
    exact hk k hk' hu
  · exact (hb.trans (bA.mono (Nat.le_trans hB hs))).grown hg6 (Nat.le_trans hB (Nat.le_trans hs bA.size)) (fun q hq => (hrowA.lt q hq).1)
  · exact Nat.le_trans hs (Nat.le_trans bA.size hg6.size)
theorem doD_fit {k n : Nat} (hk : k ≤ 10) : DdFit (doD (k : Int) (n : Int)) := ⟨⟨show (0 : Int) ≤ 0 by omega, show (0 : Int) < 256 by omega⟩, by show -9223372036854775808 ≤ (k : Int); omega, by show (k : Int) ≤ 9223372036854775807; omega⟩
theorem subD_fit (t : Int) (e : List Int) : DdFit (subD t e) := ⟨⟨show (0 : Int) ≤ 0 by omega, show (0 : Int) < 256 by omega⟩, show (-9223372036854775808 : Int) ≤ 1 by omega, show (1 : Int) ≤ 9223372036854775807 by omega⟩

def stepsT (k : Nat) : List Dd := [doD 2 (k : Int), doD 3 (k : Int), doD 4 (k : Int)]
theorem stepsT_snoc (k : Nat) {j : Nat} (h : j < 3) : (stepsT k).take (j + 1) = (stepsT k).take j ++ [doD ((2 + j : Nat) : Int) (k : Int)] := by
  match j, h with
  | 0, _ => rfl
  | 1, _ => rfl
  | 2, _ => rfl
set_option maxRecDepth 100000 in
set_option maxHeartbeats 2000000 in
theorem year_any (l0 : List Dd) (k far : Nat) (es : List (List Int)) (la ea : Option Addr) (ln lc n c B : Nat) (vs0 : List Value) (w : World) (hl0 : l0.length = ln) (hrow0 : w.ownsRow B 27 7 (.slice la ln lc) ln vs0) (hD0 : DoB B w vs0 l0) (hB : B ≤ w.heap.size) (hS : Stay B (.slice la ln lc) w ea n c es) (hk : k ≤ 8) (hf : far ≤ 3) (hbig : ln + n ≤ 100000) :
    Calls Tryd.prog 11 #[.slice la ln lc, .int .i64 (k : Int), .slice ea n c, .int .i64 (far : Int)] w fun e w' => ∃ v, e = .returned v ∧ YearI B w (.slice la ln lc) w' v (l0 ++ (subsL (10 * (k : Int) + 5) es ++ (stepsT k).take far)) := by
  obtain ⟨i0, hi0, hz0, hz1, hz2⟩ := info_parts Tryd.info27b
  have hLs := (hS w (Below.refl _ _) (Nat.le_refl _) (fun _ _ _ => rfl)).1
  have hlen := hLs.len
  have hroom := hLs.room
  have hcap := hLs.cap
  unfold maxLen at hcap
  have m1 : wrap64 (10 * (k : Int)) = 10 * (k : Int) := by unfold wrap64; omega
  have m2 : wrap64 (10 * (k : Int) + 5) = 10 * (k : Int) + 5 := by unfold wrap64; omega
  clear hLs
  go_enter Tryd.func11, Tryd.ntmps11
  go_wp2_with fail
  go_loopw [0, 15] (fun gv kv wr => ∃ (j : Nat) (va : Option Addr) (vn vc : Nat), j ≤ n ∧ kv = .int .i64 j ∧ gv = .slice va vn vc ∧ Hid (vn = ln + j) ∧ YearI B w (.slice la ln lc) wr (.slice va vn vc) (l0 ++ subsL (10 * (k : Int) + 5) (es.take j))) (fun _ kv _ => n - (intOf kv).toNat)
  case atStart => exact ⟨0, la, ln, lc, Nat.zero_le _, rfl, rfl, rfl, la, lc, vs0, by rw [List.take_zero]; show _ = Value.slice la (l0 ++ []).length lc; rw [List.append_nil, hl0], by rw [List.take_zero]; show World.ownsRow _ _ _ _ _ (l0 ++ []).length _; rw [List.append_nil, hl0]; exact hrow0, by rw [List.take_zero]; show DoB _ _ _ (l0 ++ []); rw [List.append_nil]; exact hD0, .inl rfl, fun _ _ _ => rfl, Below.refl _ _, Nat.le_refl _⟩
  case round =>
    obtain ⟨wo, rfl⟩ : ∃ x, x = wr := ⟨wr, rfl⟩
    obtain ⟨j, va, vn, vc, hj, rfl, rfl, HVN, hI⟩ := hrel
    have hvb : vn ≤ 100000 := by have := HVN.out; omega
    by_cases hlt : j < n
    · have hlt' : (j : Int) < n := by omega
      obtain ⟨va', vc', vs, e1, hrow, hD, hwh, hkp, hbl, hsz⟩ := hI
      have hln : (l0 ++ subsL (10 * (k : Int) + 5) (es.take j)).length = vn := by cases e1; rfl
      rw [hln] at e1 hrow
      cases e1
      obtain ⟨hLw, hAw⟩ := hS wo hbl hsz hkp
      obtain ⟨b, off, pa, pc, rfl, hcell, hP⟩ := hLw.get j hlt
      have hAwy := hAw j b off pa _ pc hlt rfl hcell
      have HM := fun w6 g cap o h1 h2 h3 => YearI.more (w6 := w6) (g := g) (cap := cap) (o := o) (x := subD (10 * (k : Int) + 5) (es.getD j [])) (pa := pa) (pc := pc) hln hrow hD hwh hkp hbl hsz hB hP hAwy (subD_fit _ _) h1 h2 h3
      have HSN : Hid (l0 ++ subsL (10 * (k : Int) + 5) (es.take (j + 1)) = (l0 ++ subsL (10 * (k : Int) + 5) (es.take j)) ++ [subD (10 * (k : Int) + 5) (es.getD j [])]) := by show _ = _; rw [subs_snoc _ _ (by omega), List.append_assoc]
      have HMH : Hid _ := HM
      have hnew := lit_dd wo (subD (10 * (k : Int) + 5) (es.getD j [])) pa pc 27
      have hone := ddV_one (subD (10 * (k : Int) + 5) (es.getD j [])) pa pc
      have hsA : B ≤ (wo.alloc (.cells #[.int .i64 1, .int .i64 0, .int .i64 (10 * (k : Int) + 5), .slice pa (es.getD j []).length pc, .int .i64 0, .int .i64 0, .int .u8 0] 27)).heap.size := by simp; omega
      have hrowA := hrow.alloc (.cells #[.int .i64 1, .int .i64 0, .int .i64 (10 * (k : Int) + 5), .slice pa (es.getD j []).length pc, .int .i64 0, .int .i64 0, .int .u8 0] 27)
      have HNW : Hid _ := hnew
      have HON : Hid _ := hone
      clear HM hnew hone hrow hD hwh hkp hbl hLw hAw hAwy hP
      obtain ⟨EN, HEN⟩ : ∃ EN, Hid (es.getD j [] = EN) := ⟨_, rfl⟩
      rw [HEN.out] at hcell hsA hrowA HMH HSN HNW HON
      go_wp2_with (at_builtin; refine wpList_append_lies _ rfl (.tmp 19) (.tmp 25) 24 rfl B 27 i0 _ 7 72 Tryd.underlying24 hi0 hz0 hz1 hz2 rfl (by decide) _ _ _ rfl hrowA ⟨wo.heap.size, 0, none⟩ 1 1 _ rfl rfl HNW.out HON.out (by decide) (by unfold maxLen; omega) (by omega) hsA _ rfl ?_; intro g cap w6 ho6 hg6 ha6 hlt6)
      have HI6 : Hid _ := HMH.out w6 g cap _ hg6 ho6 ha6
      clear HMH HNW HON hrowA ho6 hg6 ha6 hcell
      go_roundw
      case rel => exact ⟨j + 1, _, vn + 1, cap, by omega, by go_num, rfl, by show _ = _; have := HVN.out; omega, by rw [HSN.out]; exact HI6.out⟩
      case measure => simp [intOf]; omega
    · obtain rfl : j = n := by omega
      have hnl : ¬ (j : Int) < j := by omega
      have hT : es.take j = es := List.take_of_length_le (by omega)
      rw [hT] at hI
      clear hS hT
      obtain ⟨L1, HL1⟩ : ∃ L1, Hid (l0 ++ subsL (10 * (k : Int) + 5) es = L1) := ⟨_, rfl⟩
      rw [HL1.out] at hI
      have HRES : Hid (l0 ++ (subsL (10 * (k : Int) + 5) es ++ (stepsT k).take far) = L1 ++ (stepsT k).take far) := by show _ = _; rw [← HL1.out, List.append_assoc]
      have bX : Below wo.heap.size wo (wo.alloc (.cells #[.int .i64 2, .int .i64 3, .int .i64 4] 3)) := (Below.refl _ _).alloc (Nat.le_refl _) _
      have hIX := hI.call bX hB
      have xX := box_new wo #[.int .i64 2, .int .i64 3, .int .i64 4] 3
      have hf' : (far : Int) ≤ 3 := by omega
      have hf0 : (0 : Int) ≤ far := by omega
      clear hI bX
      go_wp2_with fail
      generalize wo.alloc (.cells #[.int .i64 2, .int .i64 3, .int .i64 4] 3) = wX at *
      obtain ⟨XB, HXB⟩ : ∃ XB, Hid (wo.heap.size = XB) := ⟨_, rfl⟩
      rw [HXB.out] at xX ⊢
      go_loopw [0, 32] (fun gv kv wr => ∃ (q : Nat) (va : Option Addr) (vn vc : Nat), q ≤ far ∧ kv = .int .i64 q ∧ gv = .slice va vn vc ∧ Hid (vn = ln + j + q) ∧ YearI B w (.slice la ln lc) wr (.slice va vn vc) (L1 ++ (stepsT k).take q) ∧ wr.heap[XB]? = some (.cells #[.int .i64 2, .int .i64 3, .int .i64 4] 3 (0, 0))) (fun _ kv _ => far - (intOf kv).toNat)
      case atStart => exact ⟨0, va, vn, vc, Nat.zero_le _, rfl, rfl, HVN, by rw [List.take_zero, List.append_nil]; exact hIX, xX⟩
      case round =>
        obtain ⟨wp, rfl⟩ : ∃ x, x = wr := ⟨wr, rfl⟩
        obtain ⟨q, va, vn, vc, hq, rfl, rfl, HVN2, hI, hx⟩ := hrel
        have hvb2 : vn ≤ 200000 := by have := HVN2.out; omega
        by_cases hlt : q < far
        · have hlt' : (q : Int) < far := by omega
          have hcq : wp.cell? ⟨XB, q, none⟩ = some (.int .i64 ((2 + q : Nat) : Int)) := by
            rw [cell_of_row wp XB q _ _ _ hx]
            match q, (show q < 3 by omega) with
            | 0, _ => rfl
            | 1, _ => rfl
            | 2, _ => rfl
          have HSN : Hid (L1 ++ (stepsT k).take (q + 1) = (L1 ++ (stepsT k).take q) ++ [doD ((2 + q : Nat) : Int) (k : Int)]) := by show _ = _; rw [stepsT_snoc k (by omega), List.append_assoc]
          obtain ⟨kd, HKD⟩ : ∃ kd : Int, Hid (((2 + q : Nat) : Int) = kd) := ⟨_, rfl⟩
          have hfit : DdFit (doD kd (k : Int)) := by rw [← HKD.out]; exact doD_fit (by omega)
          rw [HKD.out] at hcq HSN
          have hDo := topDo_any kd (k : Int) wp
          clear hIX xX
          go_wp2_with fail
          refine hDo.mono ?_
          rintro e w3 ⟨rfl, hb3⟩
          have hI3 := hI.call hb3 hB
          have hx3 := box_kept hx hb3
          obtain ⟨va', vc', vs, e1, hrow, hD, hwh, hkp, hbl, hsz⟩ := hI3
          have hln : (L1 ++ (stepsT k).take q).length = vn := by cases e1; rfl
          rw [hln] at e1 hrow
          cases e1
          have HM := fun w6 g cap o h1 h2 h3 => YearI.more (w6 := w6) (g := g) (cap := cap) (o := o) (x := doD kd (k : Int)) (pa := none) (pc := 0) hln hrow hD hwh hkp hbl hsz hB (some_nil _) (away_nil _ _ _ _) hfit h1 h2 h3
          have HMH : Hid _ := HM
          have hXn : ∀ n' vs', w3.ownsRow B 27 7 (.slice va vn vc) n' vs' → some XB ≠ (Value.slice va vn vc).ownBlock := fun n' vs' h => own7_apart h (by decide) hx3
          have HXN : Hid (some XB ≠ (Value.slice va vn vc).ownBlock) := hXn _ _ hrow
          have hnew := lit_dd w3 (doD kd (k : Int)) none 0 27
          have hone := ddV_one (doD kd (k : Int)) none 0
          have hsA : B ≤ (w3.alloc (.cells #[.int .i64 kd, .int .i64 (k : Int), .int .i64 0, .slice none 0 0, .int .i64 0, .int .i64 0, .int .u8 0] 27)).heap.size := by simp; omega
          have hrowA := hrow.alloc (.cells #[.int .i64 kd, .int .i64 (k : Int), .int .i64 0, .slice none 0 0, .int .i64 0, .int .i64 0, .int .u8 0] 27)
          have HNW : Hid _ := hnew
          have HON : Hid _ := hone
          clear HM hnew hone hrow hD hwh hkp hbl hI hXn hDo
          go_wp2_with (at_builtin; refine wpList_append_lies _ rfl (.tmp 36) (.tmp 40) 24 rfl B 27 i0 _ 7 72 Tryd.underlying24 hi0 hz0 hz1 hz2 rfl (by decide) _ _ _ rfl hrowA ⟨w3.heap.size, 0, none⟩ 1 1 _ rfl rfl HNW.out HON.out (by decide) (by unfold maxLen; omega) (by omega) hsA _ rfl ?_; intro g cap w6 ho6 hg6 ha6 hlt6)
          have HI6 : Hid _ := HMH.out w6 g cap _ hg6 ho6 ha6
          have hx6 : w6.heap[XB]? = some (.cells #[.int .i64 2, .int .i64 3, .int .i64 4] 3 (0, 0)) := (hg6.block XB (by have := lt_heap hx3; simp; omega) HXN.out).trans (box_old _ _ hx3)
          clear HMH HNW HON hrowA ho6 hg6 ha6 hcq HXN
          go_roundw
          case rel => exact ⟨q + 1, _, vn + 1, cap, by omega, by go_num, rfl, by show _ = _; have := HVN2.out; omega, by rw [HSN.out]; exact HI6.out, hx6⟩
          case measure => simp [intOf]; omega
        · obtain rfl : q = far := by omega
          have hnl : ¬ (q : Int) < q := by omega
          have HI : Hid _ := hI
          clear hI hIX xX hx
          go_wp2_with fail
          go_ret
          exact ⟨_, rfl, by rw [HRES.out]; exact HI.out⟩

/-- Entries that were there ahead of the row. -/
theorem stay_low {w0 w : World} {u : Value} {ea : Option Addr} {n c : Nat} {es : List (List Int)} (hL : Lists w0 ea n c es) (hb : Below w0.heap.size w0 w) : Stay w0.heap.size u w ea n c es := fun w' hb' _ _ => by
  have hb2 := hb.trans hb'
  refine ⟨hL.below hb2, fun j b off pa m pc hj he hc => ?_⟩
  obtain ⟨b', off', pa', pc', e', hc', hP⟩ := hL.get j hj
  rw [he] at e'
  cases e'
  rw [hb2.cell (p := ⟨b, off + j, none⟩) (World.block_lt_of_cell? _ _ hc'), hc'] at hc
  cases hc
  rcases hP.at' with ⟨e, -⟩ | ⟨g, o, cp, e, hg, -⟩
  · exact .inl e
  · refine .inr (fun q hq => ?_)
    rw [e] at hq
    cases hq
    exact ⟨Nat.lt_of_lt_of_le hg hb2.size, .inl hg⟩
/-- One byte, as one entry, written out. -/
theorem lit_lists {w : World} {p q : Nat} {x : Int} (hx : 0 ≤ x ∧ x < 256) (h1 : w.heap[p]? = some (.cells #[.int .u8 x] 5 (0, 0))) (h2 : w.heap[q]? = some (.cells #[.slice (some ⟨p, 0, none⟩) 1 1] 25 (0, 0))) : Lists w (some ⟨q, 0, none⟩) 1 1 [[x]] := by
  have hb : Bytes [x] := bytes_cons hx.1 hx.2 nil_bytes
  refine ⟨rfl, .inr ⟨q, 0, 1, rfl, lt_heap h2, fun j hj => ?_⟩, Nat.le_refl _, by unfold maxLen; omega, (fun e => by cases e), fun j => ?_, fun j => ?_⟩
  · obtain rfl : j = 0 := by simpa using hj
    refine ⟨_, 1, 1, cell_of_row w q 0 _ _ _ h2, .inr ⟨p, 0, 1, rfl, lt_heap h1, fun i hi => ?_⟩⟩
    obtain rfl : i = 0 := by simpa using hi
    exact cell_of_row w p 0 _ _ _ h1
  · match j with
    | 0 => exact hb
    | j + 1 => exact nil_bytes
  · match j with
    | 0 => show 1 ≤ maxLen; unfold maxLen; omega
    | j + 1 => exact Nat.zero_le _
theorem lit_lists2 {w : World} {p p' q : Nat} {x y : Int} (hx : 0 ≤ x ∧ x < 256) (hy : 0 ≤ y ∧ y < 256) (h1 : w.heap[p]? = some (.cells #[.int .u8 x] 5 (0, 0))) (h1' : w.heap[p']? = some (.cells #[.int .u8 y] 5 (0, 0))) (h2 : w.heap[q]? = some (.cells #[.slice (some ⟨p, 0, none⟩) 1 1, .slice (some ⟨p', 0, none⟩) 1 1] 25 (0, 0))) : Lists w (some ⟨q, 0, none⟩) 2 2 [[x], [y]] := by
  have hb : Bytes [x] := bytes_cons hx.1 hx.2 nil_bytes
  have hb' : Bytes [y] := bytes_cons hy.1 hy.2 nil_bytes
  refine ⟨rfl, .inr ⟨q, 0, 2, rfl, lt_heap h2, fun j hj => ?_⟩, Nat.le_refl _, by unfold maxLen; omega, (fun e => by cases e), fun j => ?_, fun j => ?_⟩
  · have hj2 : j < 2 := hj
    match j, hj2 with
    | 0, _ =>
      refine ⟨_, 1, 1, cell_of_row w q 0 _ _ _ h2, .inr ⟨p, 0, 1, rfl, lt_heap h1, fun i hi => ?_⟩⟩
      obtain rfl : i = 0 := by simpa using hi
      exact cell_of_row w p 0 _ _ _ h1
    | 1, _ =>
      refine ⟨_, 1, 1, cell_of_row w q 1 _ _ _ h2, .inr ⟨p', 0, 1, rfl, lt_heap h1', fun i hi => ?_⟩⟩
      obtain rfl : i = 0 := by simpa using hi
      exact cell_of_row w p' 0 _ _ _ h1'
  · match j with
    | 0 => exact hb
    | 1 => exact hb'
    | j + 2 => exact nil_bytes
  · match j with
    | 0 => show 1 ≤ maxLen; unfold maxLen; omega
    | 1 => show 1 ≤ maxLen; unfold maxLen; omega
    | j + 2 => exact Nat.zero_le _
theorem stay_lit {B p q : Nat} {w : World} {u : Value} {x : Int} (hx : 0 ≤ x ∧ x < 256) (h1 : w.heap[p]? = some (.cells #[.int .u8 x] 5 (0, 0))) (h2 : w.heap[q]? = some (.cells #[.slice (some ⟨p, 0, none⟩) 1 1] 25 (0, 0))) (hp : u.ownBlock ≠ some p) (hq : u.ownBlock ≠ some q) : Stay B u w (some ⟨q, 0, none⟩) 1 1 [[x]] := fun w' _ _ hk => by
  have g1 := (hk p (lt_heap h1) hp).trans h1
  have g2 := (hk q (lt_heap h2) hq).trans h2
  refine ⟨lit_lists hx g1 g2, fun j b off pa m pc hj he hc => ?_⟩
  obtain rfl : j = 0 := by omega
  cases he
  rw [cell_of_row w' q (0 + 0) _ _ _ g2] at hc
  cases hc
  exact .inr (fun g hg => by cases hg; exact ⟨lt_heap g1, .inr ⟨_, _, g1⟩⟩)

end Go.Proofs.YtkjlchfmplcobahDoor
