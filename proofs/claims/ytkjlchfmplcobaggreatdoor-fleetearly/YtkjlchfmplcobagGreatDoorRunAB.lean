/- BookFace, ShelfFace, FleetFace, FleetAliveM, BookRefRec, FleetAlive, BookFive, FleetSame, FleetPastWalk, FleetEarlyWalk, FleetDos, ShelfSegs, FleetMem, FleetMem2, as one text. -/
import Derived.Test.YtkjlchfmplcobagGreatDoorProg
import Derived.Test.YtkjlchfmplcobagGreatDoorRunAA
import Derived.Test.YtkjlchfmplcobagGreatDoorRunAD
import Derived.Test.YtkjlchfmplcobagGreatDoorRunAK
import Derived.Test.YtkjlchfmplcobagGreatDoorRunAL
import Derived.Test.YtkjlchfmplcobagGreatDoorRunAJ
import Derived.WalkKit
import Derived.WalkSpells
import Derived.WalkLawsBesides
import Derived.Deep.QuietTactic
import Derived.BigQuiet
import Derived.Deep.RegionHeld3
import Derived.BigRegion
import Derived.Deep.AppendLies
import Derived.Laws.AppendOwnNone
/- What the laws of chapter 6 ask of package book's faces, as propositions: each is shown of the landed code elsewhere. Records in memory. -/
namespace Go.Proofs.YtkjlchfmplcobagGreatDoor
open Go.RowKit

/-- A record as the walks meet it. -/
def RecV (w : World) (v : Value) (r : Rec) : Prop := ∃ ra rc, v = .agg #[.int .i64 r.shard, .int .i64 r.from', .int .i64 r.to', .int .i64 r.size, .slice ra r.root.length rc] ∧ Some' w (.slice ra r.root.length rc) r.root
theorem RecV.below {w w' : World} {v : Value} {r : Rec} (h : RecV w v r) (hb : Below w.heap.size w w') : RecV w' v r := by
  obtain ⟨ra, rc, h1, h2⟩ := h
  exact ⟨ra, rc, h1, h2.below hb⟩
/-- A record's cells. -/
def RecCells (w : World) (b o : Nat) (r : Rec) : Prop := w.cell? ⟨b, o, none⟩ = some (.int .i64 r.shard) ∧ w.cell? ⟨b, o + 1, none⟩ = some (.int .i64 r.from') ∧ w.cell? ⟨b, o + 2, none⟩ = some (.int .i64 r.to') ∧ w.cell? ⟨b, o + 3, none⟩ = some (.int .i64 r.size) ∧
  ∃ ra rc, w.cell? ⟨b, o + 4, none⟩ = some (.slice ra r.root.length rc) ∧ Some' w (.slice ra r.root.length rc) r.root
theorem RecCells.below {w w' : World} {b o : Nat} {r : Rec} (h : RecCells w b o r) (hb : b < w.heap.size) (hw : Below w.heap.size w w') : RecCells w' b o r := by
  obtain ⟨h0, h1, h2, h3, ra, rc, h4, h5⟩ := h
  exact ⟨by rw [hw.cell (p := ⟨b, o, none⟩) hb]; exact h0, by rw [hw.cell (p := ⟨b, o + 1, none⟩) hb]; exact h1, by rw [hw.cell (p := ⟨b, o + 2, none⟩) hb]; exact h2, by rw [hw.cell (p := ⟨b, o + 3, none⟩) hb]; exact h3, ra, rc, by rw [hw.cell (p := ⟨b, o + 4, none⟩) hb]; exact h4, h5.below hw⟩
/-- Records as the walks meet them. -/
def RecsAt (w : World) (v : Value) (l : List Rec) : Prop :=
  ∃ a c, v = .slice a l.length c ∧ l.length ≤ c ∧ c ≤ maxLen ∧ (a = none → c = 0) ∧ (l.length = 0 ∨ ∃ b off, a = some ⟨b, off, none⟩ ∧ b < w.heap.size ∧ ∀ j, j < l.length → RecCells w b (off + j * 5) (l.getD j rec0))
theorem RecsAt.below {w w' : World} {v : Value} {l : List Rec} (h : RecsAt w v l) (hw : Below w.heap.size w w') : RecsAt w' v l := by
  obtain ⟨a, c, h1, h2, h3, h4, h5⟩ := h
  refine ⟨a, c, h1, h2, h3, h4, ?_⟩
  rcases h5 with h5 | ⟨b, off, h6, h7, h8⟩
  · exact .inl h5
  · exact .inr ⟨b, off, h6, Nat.lt_of_lt_of_le h7 hw.size, fun j hj => (h8 j hj).below h7 hw⟩
theorem RecsAt.bytes {w : World} {v : Value} {l : List Rec} (h : RecsAt w v l) (j : Nat) : Bytes (l.getD j rec0).root := by
  obtain ⟨a, c, -, -, -, -, h5⟩ := h
  by_cases hj : j < l.length
  · rcases h5 with h5 | ⟨b, off, -, -, h8⟩
    · omega
    · obtain ⟨-, -, -, -, ra, rc, -, h2⟩ := h8 j hj
      exact h2.bytes
  · rw [List.getD_eq_getElem?_getD, List.getElem?_eq_none (by omega)]; exact nil_bytes
theorem rows_bytes {l : List Rec} (h : (wrongRecs l).1 = 0) (hb : ∀ j, Bytes (l.getD j rec0).root) : ∀ j, Bytes ((rowsOf l).getD j []) := fun j => by
  by_cases hj : j < l.length
  · rw [rows_get hj]; exact row_bytes ((wrongRecs_ok h).2 j hj) (hb j)
  · rw [List.getD_eq_getElem?_getD, List.getElem?_eq_none (by rw [rows_length]; omega)]; exact nil_bytes
/-- What Head tells. -/
def bookSize (l : List Rec) : Int := if (wrongRecs l).1 ≠ 0 then 0 else (l.length : Int)
def bookRoot (l : List Rec) : List Int := if (wrongRecs l).1 ≠ 0 then [] else mth (rowsOf l)
/-- The faces. -/
def RecWrongC : Prop := ∀ (r : Rec) (v : Value) (w : World), RecV w v r →
  Calls Tryz.prog 55 #[v] w fun e w' => e = .returned (.int .i64 (wrongRec r)) ∧ Below w.heap.size w w'
def RecBytesC : Prop := ∀ (r : Rec) (v : Value) (w : World), RecV w v r →
  Calls Tryz.prog 38 #[v] w fun e w' => ∃ xa xn xc, e = .returned (.tuple #[.slice xa xn xc, .int .i64 (wrongRec r)]) ∧ w'.ownsRow w.heap.size 5 1 (.slice xa xn xc) xn ((bytesE r).map (Value.int .u8)) ∧ Below w.heap.size w w'
def BookHeadC : Prop := ∀ (l : List Rec) (lv : Value) (w : World), Ready w → RecsAt w lv l →
  Calls Tryz.prog 16 #[lv] w fun e w' => ∃ ra rc, e = .returned (.tuple #[.agg #[.int .i64 (bookSize l), .slice ra (bookRoot l).length rc], faultV (wrongRecs l)]) ∧ Some' w' (.slice ra (bookRoot l).length rc) (bookRoot l) ∧ Below w.heap.size w w'
def BookPathC : Prop := ∀ (l : List Rec) (row : Int) (lv : Value) (w : World), Ready w → RecsAt w lv l →
  Calls Tryz.prog 29 #[lv, .int .i64 row] w fun e w' => ∃ xa xn xc, e = .returned (.tuple #[.slice xa xn xc, faultV (bookPathF l row)]) ∧ ((bookPathF l row).1 = 0 → OwnParts w' w.heap.size (.slice xa xn xc) (pathL (rowsOf l) row.toNat)) ∧ ((bookPathF l row).1 ≠ 0 → xn = 0) ∧ Below w.heap.size w w'
end Go.Proofs.YtkjlchfmplcobagGreatDoor

/- What the laws of chapter 5 ask of package shelf's faces, as propositions: each is shown of the landed code elsewhere. Manifests in memory. -/
namespace Go.Proofs.YtkjlchfmplcobagGreatDoor
open Go.RowKit

/-- A segment's bytes as the walks meet them. -/
def PackedAt (w : World) (b o : Nat) (d : List Int) : Prop := ∃ pa pc, w.cell? ⟨b, o, none⟩ = some (.slice pa d.length pc) ∧ Some' w (.slice pa d.length pc) d ∧ d.length ≤ pc ∧ pc ≤ maxLen
/-- Segments as the walks meet them. -/
def SegsAt (w : World) (v : Value) (l : List Seg) : Prop :=
  ∃ a c, v = .slice a l.length c ∧ l.length ≤ c ∧ c ≤ maxLen ∧ (a = none → c = 0) ∧ (l.length = 0 ∨ ∃ b off, a = some ⟨b, off, none⟩ ∧ b < w.heap.size ∧
    ∀ j, j < l.length → w.cell? ⟨b, off + j * 3, none⟩ = some (.int .i64 (l.getD j seg0).first) ∧ w.cell? ⟨b, off + j * 3 + 1, none⟩ = some (.int .i64 (l.getD j seg0).count) ∧ PackedAt w b (off + j * 3 + 2) (l.getD j seg0).packed)
theorem PackedAt.below {w w' : World} {b o : Nat} {d : List Int} (h : PackedAt w b o d) (hb : b < w.heap.size) (hw : Below w.heap.size w w') : PackedAt w' b o d := by
  obtain ⟨pa, pc, h1, h2, h3⟩ := h
  exact ⟨pa, pc, by rw [hw.cell (p := ⟨b, o, none⟩) hb]; exact h1, h2.below hw, h3⟩
theorem SegsAt.below {w w' : World} {v : Value} {l : List Seg} (h : SegsAt w v l) (hw : Below w.heap.size w w') : SegsAt w' v l := by
  obtain ⟨a, c, h1, h2, h3, h4, h5⟩ := h
  refine ⟨a, c, h1, h2, h3, h4, ?_⟩
  rcases h5 with h5 | ⟨b, off, h6, h7, h8⟩
  · exact .inl h5
  · refine .inr ⟨b, off, h6, Nat.lt_of_lt_of_le h7 hw.size, fun j hj => ?_⟩
    obtain ⟨c0, c1, c2⟩ := h8 j hj
    exact ⟨by rw [hw.cell (p := ⟨b, off + j * 3, none⟩) h7]; exact c0, by rw [hw.cell (p := ⟨b, off + j * 3 + 1, none⟩) h7]; exact c1, c2.below h7 hw⟩
/-- A manifest as the walks meet it. -/
def ManAt (w : World) (v : Value) (m : Man) : Prop := ∃ rv sv, v = .agg #[.int .i64 m.size, rv, sv] ∧ Some' w rv m.root ∧ SegsAt w sv m.segs
theorem ManAt.below {w w' : World} {v : Value} {m : Man} (h : ManAt w v m) (hw : Below w.heap.size w w') : ManAt w' v m := by
  obtain ⟨rv, sv, h1, h2, h3⟩ := h
  exact ⟨rv, sv, h1, h2.below hw, h3.below hw⟩
theorem some_nil (w : World) : Some' w (.slice none 0 0) [] := ⟨bytesAt_nil w, nil_bytes, Nat.zero_le _⟩
theorem lists_nil (w : World) : Lists w none 0 0 [] := ⟨rfl, .inl ⟨rfl, none, 0, rfl⟩, Nat.le_refl _, Nat.zero_le _, fun _ => ⟨rfl, rfl⟩, fun j => by simp; exact nil_bytes, fun j => by simp⟩
/-- What is read of bytes is bytes. -/
theorem bytes_forall {l : List Int} (h : Bytes l) : ∀ x ∈ l, 0 ≤ x ∧ x < 256 := fun x hx => by
  obtain ⟨j, hj, rfl⟩ := List.mem_iff_getElem.1 hx
  have := h j
  rwa [List.getD_eq_getElem?_getD, List.getElem?_eq_getElem hj] at this
theorem unpack_bytes {b : List Int} (h : Bytes b) : Bytes (unpackL b).1 := bytes_of_mem (fun x hx => by
  rcases unpack_mem b x hx with g | g
  · exact bytes_forall h x g
  · omega)
theorem takeL_bytes {b : List Int} (h : Bytes b) {n : Nat} {l : List (List Int)} (hl : takeL n b = some l) : ∀ j, Bytes (l.getD j []) := bytes_mem (fun e he => bytes_of_mem (fun x hx => bytes_forall h x (takeL_mem n b l hl e he x hx)))
def SegsBytes (l : List Seg) : Prop := ∀ j, Bytes (l.getD j seg0).packed
theorem SegsAt.bytes {w : World} {v : Value} {l : List Seg} (h : SegsAt w v l) : SegsBytes l := fun j => by
  obtain ⟨a, c, -, -, -, -, h5⟩ := h
  by_cases hj : j < l.length
  · rcases h5 with h5 | ⟨b, off, -, -, h8⟩
    · omega
    · obtain ⟨-, -, pa, pc, -, h2, -⟩ := h8 j hj
      exact h2.bytes
  · rw [List.getD_eq_getElem?_getD, List.getElem?_eq_none (by omega)]; exact nil_bytes
theorem segment_bytes {m : Man} (h : SegsBytes m.segs) (k : Int) : ∀ j, Bytes ((segmentL m k).1.getD j []) := bytes_mem (fun e he => bytes_of_mem (fun x hx => by
  rcases segment_mem m k e he x hx with g | g
  · exact bytes_forall (h k.toNat) x g
  · omega))
theorem upTo_bytes {m : Man} (h : SegsBytes m.segs) (k : Nat) : ∀ e ∈ upTo m k, Bytes e := fun e he => by
  unfold upTo at he
  obtain ⟨j, -, hj⟩ := List.mem_flatMap.1 he
  obtain ⟨i, hi, rfl⟩ := List.mem_iff_getElem.1 hj
  have := segment_bytes h (j : Int) i
  rwa [List.getD_eq_getElem?_getD, List.getElem?_eq_getElem hi] at this
/-- A slice of bytes that lies in a block of bytes. -/
def ByteEl (w : World) (y : Value) (d : List Int) : Prop :=
  (d = [] ∧ ∃ a c, y = .slice a 0 c ∧ (a = none → c = 0)) ∨ ∃ g off c cur mk, y = .slice (some ⟨g, off, none⟩) d.length c ∧ w.heap[g]? = some (.cells cur 5 mk) ∧ ∀ j, j < d.length → w.cell? ⟨g, off + j, none⟩ = some (.int .u8 (d.getD j 0))
theorem ByteEl.bytes {w : World} {y : Value} {d : List Int} (h : ByteEl w y d) : BytesAt w y d := by
  rcases h with h | ⟨g, off, c, cur, mk, h1, h2, h3⟩
  · exact .inl h
  · exact .inr ⟨g, off, c, h1, lt_heap h2, h3⟩
theorem ByteEl.one {w : World} {y : Value} {d : List Int} (h : ByteEl w y d) : y.oneCell' = true := by
  rcases h with ⟨-, a, c, rfl, -⟩ | ⟨g, off, c, cur, mk, rfl, -⟩ <;> rfl
theorem ByteEl.below {w w' : World} {y : Value} {d : List Int} {N : Nat} (h : ByteEl w y d) (hb : Below N w w') (hN : w.heap.size ≤ N) : ByteEl w' y d := by
  rcases h with h | ⟨g, off, c, cur, mk, h1, h2, h3⟩
  · exact .inl h
  · have hg := lt_heap h2
    exact .inr ⟨g, off, c, cur, mk, h1, by rw [hb.block g (by omega)]; exact h2, fun j hj => by rw [hb.cell (p := ⟨g, off + j, none⟩) (show g < N by omega)]; exact h3 j hj⟩
theorem ByteEl.same {w w' : World} {y : Value} {d : List Int} (h : ByteEl w y d) (hs : ∀ (g : Nat) (cur : Array Value) (mk : Nat × Nat), w.heap[g]? = some (Obj.cells cur 5 mk) → w'.heap[g]? = w.heap[g]?) : ByteEl w' y d := by
  rcases h with h | ⟨g, off, c, cur, mk, h1, h2, h3⟩
  · exact .inl h
  · have h4 := (hs g cur mk h2).trans h2
    exact .inr ⟨g, off, c, cur, mk, h1, h4, fun j hj => by rw [cell_of_row w' g (off + j) cur _ mk h4, ← cell_of_row w g (off + j) cur _ mk h2]; exact h3 j hj⟩
theorem own_apart {w : World} {base g n size : Nat} {e t : TypeId} {v : Value} {xs : List Value} {cur : Array Value} {mk : Nat × Nat} (h : w.ownsRow base e size v n xs) (hne : t ≠ e) (hg : w.heap[g]? = some (.cells cur t mk)) : some g ≠ v.ownBlock := fun hh => by
  rcases h.2 with ⟨rfl, -⟩ | ⟨k, cap, cu, rfl, -, hk, -⟩
  · cases hh
  · cases hh
    rw [hk] at hg
    cases hg
    exact hne rfl
theorem ByteEl.kept {w w' : World} {base n size : Nat} {e : TypeId} {v : Value} {xs : List Value} {y : Value} {d : List Int} (h : ByteEl w y d) (hr : w.ownsRow base e size v n xs) (hne : 5 ≠ e) (hg : w.grownBy w' v.ownBlock) : ByteEl w' y d :=
  h.same (fun g _ _ h2 => hg.block g (lt_heap h2) (own_apart hr hne h2))
theorem byteEl_own {w : World} {base n : Nat} {v : Value} {d : List Int} (h : w.ownsRow base 5 1 v n (d.map (Value.int .u8))) : ByteEl w v d := by
  have hl : d.length = n := by simpa using h.1
  rcases h.2 with ⟨hv, hn⟩ | ⟨g, cap, cur, hv, -, hg, -⟩
  · subst hn
    exact .inl ⟨List.eq_nil_of_length_eq_zero hl, none, 0, hv, fun _ => rfl⟩
  · subst hl
    subst hv
    refine .inr ⟨g, 0, cap, cur, _, rfl, hg, fun j hj => ?_⟩
    rw [Nat.zero_add, h.cellAt j (by omega), List.getElem?_map, List.getElem?_eq_getElem hj, List.getD_eq_getElem?_getD, List.getElem?_eq_getElem hj]
    rfl
/-- Values, each of them such a slice. -/
def Els (w : World) (vs : List Value) (L : List (List Int)) : Prop := vs.length = L.length ∧ ∀ j, j < L.length → ∃ y, vs[j]? = some y ∧ ByteEl w y (L.getD j [])
theorem els_nil (w : World) : Els w [] [] := ⟨rfl, fun _ h => absurd h (Nat.not_lt_zero _)⟩
theorem Els.below {w w' : World} {vs : List Value} {L : List (List Int)} {N : Nat} (h : Els w vs L) (hb : Below N w w') (hN : w.heap.size ≤ N) : Els w' vs L := ⟨h.1, fun j hj => by obtain ⟨y, h1, h2⟩ := h.2 j hj; exact ⟨y, h1, h2.below hb hN⟩⟩
theorem Els.kept {w w' : World} {base n size : Nat} {e : TypeId} {v : Value} {xs vs : List Value} {L : List (List Int)} (h : Els w vs L) (hr : w.ownsRow base e size v n xs) (hne : 5 ≠ e) (hg : w.grownBy w' v.ownBlock) : Els w' vs L := ⟨h.1, fun j hj => by obtain ⟨y, h1, h2⟩ := h.2 j hj; exact ⟨y, h1, h2.kept hr hne hg⟩⟩
theorem Els.append {w : World} {vs us : List Value} {L M : List (List Int)} (h : Els w vs L) (k : Els w us M) : Els w (vs ++ us) (L ++ M) := by
  refine ⟨by rw [List.length_append, List.length_append, h.1, k.1], fun j hj => ?_⟩
  by_cases hlt : j < L.length
  · obtain ⟨y, h1, h2⟩ := h.2 j hlt
    exact ⟨y, by rw [List.getElem?_append_left (by rw [h.1]; exact hlt)]; exact h1, by rw [List.getD_eq_getElem?_getD, List.getElem?_append_left hlt, ← List.getD_eq_getElem?_getD]; exact h2⟩
  · obtain ⟨y, h1, h2⟩ := k.2 (j - L.length) (by rw [List.length_append] at hj; omega)
    exact ⟨y, by rw [List.getElem?_append_right (by rw [h.1]; omega), h.1]; exact h1, by rw [List.getD_eq_getElem?_getD, List.getElem?_append_right (by omega), ← List.getD_eq_getElem?_getD]; exact h2⟩
theorem Els.one {w : World} {vs : List Value} {L : List (List Int)} (h : Els w vs L) : ∀ u ∈ vs, u.oneCell' = true := fun u hu => by
  obtain ⟨j, hj, rfl⟩ := List.mem_iff_getElem.1 hu
  obtain ⟨y, h1, h2⟩ := h.2 j (by rw [← h.1]; exact hj)
  rw [List.getElem?_eq_getElem hj] at h1
  cases h1
  exact h2.one
/-- A list as it comes in whose bytes lie in blocks of bytes. -/
structure Laid (w : World) (a : Option Addr) (n c : Nat) (L : List (List Int)) : Prop where
  lists : Lists w a n c L
  els : ∃ vs, Els w vs L ∧ ∀ ad, a = some ad → ∀ j u, vs[j]? = some u → w.cell? (ad.add j) = some u
theorem laid_nil (w : World) : Laid w none 0 0 [] := ⟨lists_nil w, [], els_nil w, fun _ _ j u h => by simp at h⟩
theorem Laid.below {w w' : World} {a : Option Addr} {n c : Nat} {L : List (List Int)} (h : Laid w a n c L) (hb : Below w.heap.size w w') : Laid w' a n c L := by
  obtain ⟨vs, h1, h2⟩ := h.els
  refine ⟨h.lists.below hb, vs, h1.below hb (Nat.le_refl _), fun ad ha j u hu => ?_⟩
  have hc := h2 ad ha j u hu
  rw [hb.cell (p := ad.add j) (World.block_lt_of_cell? w _ hc)]
  exact hc
theorem laid_own {w : World} {base : Nat} {a : Option Addr} {n c : Nat} {vs : List Value} {L : List (List Int)} (hr : w.ownsRow base 36 1 (.slice a n c) n vs) (he : Els w vs L) (hl : L.length = n) (hb : ∀ x ∈ L, Bytes x) (hs : ∀ x ∈ L, x.length ≤ maxLen) : Laid w a n c L := by
  have hcell : ∀ ad, a = some ad → ∀ j u, vs[j]? = some u → w.cell? (ad.add j) = some u := fun ad ha j u hu => by
    have hj : j < n := by have := (List.getElem?_eq_some_iff.1 hu).1; rw [he.1, hl] at this; exact this
    obtain ⟨g, hg, -⟩ := own_some hr (by omega)
    subst ha
    cases hg
    have e : (⟨g, 0, none⟩ : Addr).add j = ⟨g, 0 + j, none⟩ := Addr.add_mid _ _ _
    rw [e, Nat.zero_add, hr.cellAt j (by omega)]
    exact hu
  obtain ⟨a', c', e', h1, h2⟩ := own_cap hr
  cases e'
  refine ⟨⟨hl, ?_, h1, h2, own_nil hr, bytes_mem hb, short_mem hs⟩, vs, he, hcell⟩
  by_cases h0 : n = 0
  · subst h0
    exact .inl ⟨List.eq_nil_of_length_eq_zero hl, _, _, rfl⟩
  · obtain ⟨g, rfl, -, hg, -⟩ := own_some hr h0
    refine .inr ⟨g, 0, c, by rw [hl], hg, fun j hj => ?_⟩
    obtain ⟨y, h3, h4⟩ := he.2 j hj
    obtain ⟨ya, yc, rfl⟩ := h4.bytes.form
    have e : (⟨g, 0, none⟩ : Addr).add j = ⟨g, 0 + j, none⟩ := Addr.add_mid _ _ _
    have := hcell _ rfl j _ h3
    rw [e] at this
    exact ⟨_, _, _, this, h4.bytes⟩
def SegmentC : Prop := ∀ (m : Man) (k : Int) (mv : Value) (w : World), ManAt w mv m →
  Calls Tryz.prog 72 #[mv, .int .i64 k] w fun e w' => ∃ xa xn xc, e = .returned (.tuple #[.slice xa xn xc, .int .i64 (segmentL m k).2]) ∧ Laid w' xa xn xc (segmentL m k).1 ∧ Below w.heap.size w w'
def VerifyC : Prop := ∀ (m : Man) (mv : Value) (w : World), Ready w → ManAt w mv m →
  Calls Tryz.prog 48 #[mv] w fun e w' => ∃ xa xn xc, e = .returned (.tuple #[.slice xa xn xc, faultV (verifyL m).2]) ∧ Laid w' xa xn xc (verifyL m).1 ∧ Below w.heap.size w w'

end Go.Proofs.YtkjlchfmplcobagGreatDoor

/- What the laws of chapter 7 ask of package fleet's faces, as propositions: each is shown of the landed code elsewhere. Fleets in memory. -/
namespace Go.Proofs.YtkjlchfmplcobagGreatDoor
open Go.RowKit

/-- A slice of elements of n cells each, as the walks meet it. -/
def RowAt {α : Type} (n : Nat) (P : World → Nat → Nat → α → Prop) (z : α) (w : World) (v : Value) (l : List α) : Prop :=
  ∃ a c, v = .slice a l.length c ∧ l.length ≤ c ∧ c ≤ maxLen ∧ (a = none → c = 0) ∧ (l.length = 0 ∨ ∃ b off, a = some ⟨b, off, none⟩ ∧ b < w.heap.size ∧ ∀ j, j < l.length → P w b (off + j * n) (l.getD j z))
theorem RowAt.below {α : Type} {n : Nat} {P : World → Nat → Nat → α → Prop} {z : α} {w w' : World} {v : Value} {l : List α} (h : RowAt n P z w v l) (hw : Below w.heap.size w w') (hP : ∀ b o x, b < w.heap.size → P w b o x → P w' b o x) : RowAt n P z w' v l := by
  obtain ⟨a, c, h1, h2, h3, h4, h5⟩ := h
  refine ⟨a, c, h1, h2, h3, h4, ?_⟩
  rcases h5 with h5 | ⟨b, off, h6, h7, h8⟩
  · exact .inl h5
  · exact .inr ⟨b, off, h6, Nat.lt_of_lt_of_le h7 hw.size, fun j hj => hP _ _ _ h7 (h8 j hj)⟩
theorem RowAt.form {α : Type} {n : Nat} {P : World → Nat → Nat → α → Prop} {z : α} {w : World} {v : Value} {l : List α} (h : RowAt n P z w v l) : ∃ a c, v = .slice a l.length c := by
  obtain ⟨a, c, e, -⟩ := h; exact ⟨a, c, e⟩
theorem RowAt.nil {α : Type} (n : Nat) (P : World → Nat → Nat → α → Prop) (z : α) (w : World) : RowAt n P z w (.slice none 0 0) [] := ⟨none, 0, rfl, Nat.le_refl _, Nat.zero_le _, fun _ => rfl, .inl rfl⟩
theorem RowAt.first {α : Type} {n : Nat} {P : World → Nat → Nat → α → Prop} {z : α} {w : World} {a : Option Addr} {m c k : Nat} {l : List α} (h : RowAt n P z w (.slice a m c) l) (hm : l.length = m) (hk : k ≤ m) : RowAt n P z w (.slice a k c) (l.take k) := by
  obtain ⟨a', c', e, h2, h3, h4, h5⟩ := h
  rw [hm] at e h2 h5
  cases e
  have hl : (l.take k).length = k := by rw [List.length_take]; omega
  refine ⟨a, c, by rw [hl], by omega, h3, h4, ?_⟩
  by_cases hk0 : k = 0
  · exact .inl (by omega)
  obtain ⟨b, off, h6, h7, h8⟩ := h5.resolve_left (by omega)
  refine .inr ⟨b, off, h6, h7, fun j hj => ?_⟩
  rw [hl] at hj
  rw [List.getD_eq_getElem?_getD, List.getElem?_take, if_pos hj, ← List.getD_eq_getElem?_getD]
  exact h8 j (by omega)
def WinCells (w : World) (b o : Nat) (x : Win) : Prop := w.cell? ⟨b, o, none⟩ = some (.int .i64 x.a) ∧ w.cell? ⟨b, o + 1, none⟩ = some (.int .i64 x.b)
def WinsAt (w : World) (v : Value) (l : List Win) : Prop := RowAt 2 WinCells win0 w v l
theorem WinsAt.below {w w' : World} {v : Value} {l : List Win} (h : WinsAt w v l) (hw : Below w.heap.size w w') : WinsAt w' v l :=
  RowAt.below h hw (fun b o _ hb ⟨h1, h2⟩ => ⟨by rw [hw.cell (p := ⟨b, o, none⟩) hb]; exact h1, by rw [hw.cell (p := ⟨b, o + 1, none⟩) hb]; exact h2⟩)
/-- Numbers that their types hold. -/
abbrev DdFit (x : Dd) : Prop := (0 ≤ x.by' ∧ x.by' < 256) ∧ (-9223372036854775808 ≤ x.kind ∧ x.kind ≤ 9223372036854775807)
structure DdCells (w : World) (b o : Nat) (x : Dd) : Prop where
  kind : w.cell? ⟨b, o, none⟩ = some (.int .i64 x.kind)
  n : w.cell? ⟨b, o + 1, none⟩ = some (.int .i64 x.n)
  time : w.cell? ⟨b, o + 2, none⟩ = some (.int .i64 x.time)
  entry : ∃ pa pc, w.cell? ⟨b, o + 3, none⟩ = some (.slice pa x.entry.length pc) ∧ Some' w (.slice pa x.entry.length pc) x.entry
  segment : w.cell? ⟨b, o + 4, none⟩ = some (.int .i64 x.segment)
  at' : w.cell? ⟨b, o + 5, none⟩ = some (.int .i64 x.at')
  by' : w.cell? ⟨b, o + 6, none⟩ = some (.int .u8 x.by')
  byte : DdFit x
theorem DdCells.below {w w' : World} {b o : Nat} {x : Dd} (h : DdCells w b o x) (hb : b < w.heap.size) (hw : Below w.heap.size w w') : DdCells w' b o x := by
  obtain ⟨h1, h2, h3, ⟨pa, pc, h4, h4'⟩, h5, h6, h7, h8⟩ := h
  exact ⟨by rw [hw.cell (p := ⟨b, o, none⟩) hb]; exact h1, by rw [hw.cell (p := ⟨b, o + 1, none⟩) hb]; exact h2, by rw [hw.cell (p := ⟨b, o + 2, none⟩) hb]; exact h3, ⟨pa, pc, by rw [hw.cell (p := ⟨b, o + 3, none⟩) hb]; exact h4, h4'.below hw⟩, by rw [hw.cell (p := ⟨b, o + 4, none⟩) hb]; exact h5, by rw [hw.cell (p := ⟨b, o + 5, none⟩) hb]; exact h6, by rw [hw.cell (p := ⟨b, o + 6, none⟩) hb]; exact h7, h8⟩
def DosAt (w : World) (v : Value) (l : List Dd) : Prop := RowAt 7 DdCells dd0 w v l
theorem DosAt.below {w w' : World} {v : Value} {l : List Dd} (h : DosAt w v l) (hw : Below w.heap.size w w') : DosAt w' v l := RowAt.below h hw (fun _ _ _ hb hx => hx.below hb hw)
structure ShdCells (w : World) (b o : Nat) (s : Shd) : Prop where
  from' : w.cell? ⟨b, o, none⟩ = some (.int .i64 s.from')
  to' : w.cell? ⟨b, o + 1, none⟩ = some (.int .i64 s.to')
  state : w.cell? ⟨b, o + 2, none⟩ = some (.int .i64 s.state)
  entries : ∃ ea ec, w.cell? ⟨b, o + 3, none⟩ = some (.slice ea s.entries.length ec) ∧ Lists w ea s.entries.length ec s.entries
  size : w.cell? ⟨b, o + 4, none⟩ = some (.int .i64 s.man.size)
  root : ∃ ra rc, w.cell? ⟨b, o + 5, none⟩ = some (.slice ra s.man.root.length rc) ∧ Some' w (.slice ra s.man.root.length rc) s.man.root
  segs : ∃ ga gc, w.cell? ⟨b, o + 6, none⟩ = some (.slice ga s.man.segs.length gc) ∧ SegsAt w (.slice ga s.man.segs.length gc) s.man.segs
theorem ShdCells.below {w w' : World} {b o : Nat} {s : Shd} (h : ShdCells w b o s) (hb : b < w.heap.size) (hw : Below w.heap.size w w') : ShdCells w' b o s := by
  obtain ⟨h1, h2, h3, ⟨ea, ec, h4, h4'⟩, h5, ⟨ra, rc, h6, h6'⟩, ⟨ga, gc, h7, h7'⟩⟩ := h
  exact ⟨by rw [hw.cell (p := ⟨b, o, none⟩) hb]; exact h1, by rw [hw.cell (p := ⟨b, o + 1, none⟩) hb]; exact h2, by rw [hw.cell (p := ⟨b, o + 2, none⟩) hb]; exact h3, ⟨ea, ec, by rw [hw.cell (p := ⟨b, o + 3, none⟩) hb]; exact h4, h4'.below hw⟩, by rw [hw.cell (p := ⟨b, o + 4, none⟩) hb]; exact h5, ⟨ra, rc, by rw [hw.cell (p := ⟨b, o + 5, none⟩) hb]; exact h6, h6'.below hw⟩, ⟨ga, gc, by rw [hw.cell (p := ⟨b, o + 6, none⟩) hb]; exact h7, h7'.below hw⟩⟩
def ShdsAt (w : World) (v : Value) (l : List Shd) : Prop := RowAt 7 ShdCells shd0 w v l
theorem ShdsAt.below {w w' : World} {v : Value} {l : List Shd} (h : ShdsAt w v l) (hw : Below w.heap.size w w') : ShdsAt w' v l := RowAt.below h hw (fun _ _ _ hb hx => hx.below hb hw)
/-- A fleet as the walks meet it. -/
def FltV (w : World) (v : Value) (f : Flt) : Prop := ∃ sa sc ba bc, v = .agg #[.slice sa f.shards.length sc, .slice ba f.book.length bc] ∧ ShdsAt w (.slice sa f.shards.length sc) f.shards ∧ RecsAt w (.slice ba f.book.length bc) f.book
theorem FltV.below {w w' : World} {v : Value} {f : Flt} (h : FltV w v f) (hw : Below w.heap.size w w') : FltV w' v f := by
  obtain ⟨sa, sc, ba, bc, h1, h2, h3⟩ := h
  exact ⟨sa, sc, ba, bc, h1, h2.below hw, h3.below hw⟩
def AnsCells (w : World) (b o : Nat) (x : Ans) : Prop := w.cell? ⟨b, o, none⟩ = some (.int .i64 x.err) ∧ w.cell? ⟨b, o + 1, none⟩ = some (.int .i64 x.shard) ∧ w.cell? ⟨b, o + 2, none⟩ = some (.int .i64 x.place) ∧ w.cell? ⟨b, o + 3, none⟩ = some (.int .i64 x.size) ∧
  ∃ ra rc, w.cell? ⟨b, o + 4, none⟩ = some (.slice ra x.root.length rc) ∧ Some' w (.slice ra x.root.length rc) x.root
theorem AnsCells.below {w w' : World} {b o : Nat} {x : Ans} (h : AnsCells w b o x) (hb : b < w.heap.size) (hw : Below w.heap.size w w') : AnsCells w' b o x := by
  obtain ⟨h0, h1, h2, h3, ra, rc, h4, h5⟩ := h
  exact ⟨by rw [hw.cell (p := ⟨b, o, none⟩) hb]; exact h0, by rw [hw.cell (p := ⟨b, o + 1, none⟩) hb]; exact h1, by rw [hw.cell (p := ⟨b, o + 2, none⟩) hb]; exact h2, by rw [hw.cell (p := ⟨b, o + 3, none⟩) hb]; exact h3, ra, rc, by rw [hw.cell (p := ⟨b, o + 4, none⟩) hb]; exact h4, h5.below hw⟩
def AnssAt (w : World) (v : Value) (l : List Ans) : Prop := RowAt 5 AnsCells ans0 w v l
theorem AnssAt.below {w w' : World} {v : Value} {l : List Ans} (h : AnssAt w v l) (hw : Below w.heap.size w w') : AnssAt w' v l := RowAt.below h hw (fun _ _ _ hb hx => hx.below hb hw)
/-- What is shown, as the walks meet it. -/
structure ShwV (w : World) (v : Value) (s : Shw) : Prop where
  form : ∃ ea ec pa pc ra rc ba bc ha hc, v = .agg #[.slice ea s.entry.length ec, .int .i64 s.place, .int .i64 s.shard, .slice pa s.path.length pc, .int .i64 s.rcd.shard, .int .i64 s.rcd.from', .int .i64 s.rcd.to', .int .i64 s.rcd.size, .slice ra s.rcd.root.length rc, .int .i64 s.row, .slice ba s.bookPath.length bc, .int .i64 s.hsize, .slice ha s.hroot.length hc] ∧
    Some' w (.slice ea s.entry.length ec) s.entry ∧ Lists w pa s.path.length pc s.path ∧ Some' w (.slice ra s.rcd.root.length rc) s.rcd.root ∧ Lists w ba s.bookPath.length bc s.bookPath ∧ Some' w (.slice ha s.hroot.length hc) s.hroot
theorem ShwV.below {w w' : World} {v : Value} {s : Shw} (h : ShwV w v s) (hw : Below w.heap.size w w') : ShwV w' v s := by
  obtain ⟨ea, ec, pa, pc, ra, rc, ba, bc, ha, hc, h1, h2, h3, h4, h5, h6⟩ := h.form
  exact ⟨ea, ec, pa, pc, ra, rc, ba, bc, ha, hc, h1, h2.below hw, h3.below hw, h4.below hw, h5.below hw, h6.below hw⟩
def PlayC : Prop := ∀ (ws : List Win) (l : List Dd) (wv dv : Value) (w : World), Ready w → WinsAt w wv ws → DosAt w dv l →
  Calls Tryz.prog 8 #[wv, dv] w fun e w' => ∃ fv av, e = .returned (.tuple #[fv, av, faultV (playF ws l)]) ∧ FltV w' fv (playL ws l).1 ∧ AnssAt w' av (playL ws l).2 ∧ Below w.heap.size w w'
def ShowC : Prop := ∀ (ws : List Win) (f : Flt) (k i : Int) (fv : Value) (w : World), (wrongWins ws).1 = 0 → FltOk ws f → Ready w → FltV w fv f →
  Calls Tryz.prog 10 #[fv, .int .i64 k, .int .i64 i] w fun e w' => ∃ sv, e = .returned (.tuple #[sv, .int .i64 (showL f k i).2]) ∧ ShwV w' sv (showL f k i).1 ∧ Below w.heap.size w w'
def CheckC : Prop := ∀ (s : Shw) (hs : Int) (hr : List Int) (sv hv : Value) (w : World), Ready w → ShwV w sv s → Some' w hv hr →
  Calls Tryz.prog 18 #[sv, .agg #[.int .i64 hs, hv]] w fun e w' => e = .returned (.bool (checkL s hs hr)) ∧ Below w.heap.size w w'

end Go.Proofs.YtkjlchfmplcobagGreatDoor

/- The small fleet that each law of chapter 7 asks first. -/
namespace Go.Proofs.YtkjlchfmplcobagGreatDoor

def aliveW : List Win := [⟨0, 10⟩, ⟨10, 20⟩]
def doD (kind n : Int) : Dd := ⟨kind, n, 0, [], 0, 0, 0⟩
def subD (time : Int) (b : List Int) : Dd := ⟨1, 0, time, b, 0, 0, 0⟩
def aliveD : List Dd := [subD 12 [7], doD 2 1, doD 3 1, doD 4 1]
theorem aliveW_right : wrongWins aliveW = (0, 0) := by decide +kernel
theorem aliveD_right : playF aliveW aliveD = (0, 0) := by unfold playF; rw [aliveW_right]; rfl
def shdA (k : Nat) (st : Int) (es : List (List Int)) (m : Man) : Shd := ⟨10 * (k : Int), 10 * (k : Int) + 10, st, es, m⟩
theorem alive_1 : stepL (startL aliveW) (subD 12 [7]) = (⟨[shdA 0 1 [] man0, shdA 1 1 [[7]] man0], []⟩, ⟨0, 1, 0, 0, []⟩) := by rfl
theorem alive_2 : stepL ⟨[shdA 0 1 [] man0, shdA 1 1 [[7]] man0], []⟩ (doD 2 1) = (⟨[shdA 0 1 [] man0, shdA 1 2 [[7]] man0], [⟨1, 10, 20, 1, mth [[7]]⟩]⟩, ⟨0, 1, 0, 1, mth [[7]]⟩) := by rfl
theorem seven_right : wrongL [[7]] = (0, 0) := by rfl
theorem alive_3 : stepL ⟨[shdA 0 1 [] man0, shdA 1 2 [[7]] man0], [⟨1, 10, 20, 1, mth [[7]]⟩]⟩ (doD 3 1) = (⟨[shdA 0 1 [] man0, shdA 1 3 [[7]] (exportL [[7]])], [⟨1, 10, 20, 1, mth [[7]]⟩]⟩, ⟨0, 1, 0, (exportL [[7]]).size, (exportL [[7]]).root⟩) := by rfl
theorem seven_verify : (verifyL (exportL [[7]])).2.1 = 0 := by
  have : exportL [[7]] = ⟨([[7]] : List (List Int)).length, mth [[7]], segsL [[7]]⟩ := by unfold exportL; rw [seven_right, if_neg (fun g => g rfl)]
  rw [this, verify_export (by decide) (by decide)]
theorem alive_4 : stepL ⟨[shdA 0 1 [] man0, shdA 1 3 [[7]] (exportL [[7]])], [⟨1, 10, 20, 1, mth [[7]]⟩]⟩ (doD 4 1) = (⟨[shdA 0 1 [] man0, shdA 1 4 [] (exportL [[7]])], [⟨1, 10, 20, 1, mth [[7]]⟩]⟩, ⟨0, 1, 0, (exportL [[7]]).size, (exportL [[7]]).root⟩) := by
  unfold stepL
  rw [if_neg (by decide), if_neg (by decide), if_neg (by decide), if_neg (by decide)]
  show stepAt _ 1 _ = _
  unfold stepAt
  dsimp only
  rw [if_neg (by decide), if_neg (by decide), if_pos (show (doD 4 1).kind = 4 from rfl)]
  have : (([shdA 0 1 [] man0, shdA 1 3 [[7]] (exportL [[7]])] : List Shd).getD 1 shd0).man = exportL [[7]] := rfl
  rw [this, seven_verify, if_neg (fun g => g rfl)]
  rfl
def aliveF : Flt := ⟨[shdA 0 1 [] man0, shdA 1 4 [] (exportL [[7]])], [⟨1, 10, 20, 1, mth [[7]]⟩]⟩
theorem alive_run : runL (startL aliveW) aliveD = (aliveF, [⟨0, 1, 0, 0, []⟩, ⟨0, 1, 0, 1, mth [[7]]⟩, ⟨0, 1, 0, (exportL [[7]]).size, (exportL [[7]]).root⟩, ⟨0, 1, 0, (exportL [[7]]).size, (exportL [[7]]).root⟩]) := by
  show runL _ [_, _, _, _] = _
  simp only [runL, alive_1, alive_2, alive_3, alive_4]
  rfl
theorem alive_play : playL aliveW aliveD = (aliveF, [⟨0, 1, 0, 0, []⟩, ⟨0, 1, 0, 1, mth [[7]]⟩, ⟨0, 1, 0, (exportL [[7]]).size, (exportL [[7]]).root⟩, ⟨0, 1, 0, (exportL [[7]]).size, (exportL [[7]]).root⟩]) := by
  unfold playL; rw [aliveD_right, if_neg (fun g => g rfl), alive_run]
theorem aliveF_ok : FltOk aliveW aliveF := by
  have := run_ok (start_ok aliveW) aliveD
  rw [alive_run] at this
  exact this
theorem alive_shown : (showL aliveF 1 0).2 = 0 ∧ (showL aliveF 1 0).1.entry = [7] ∧ checkL (showL aliveF 1 0).1 1 (mth (rowsOf aliveF.book)) = true := by
  have h := shown (ws := aliveW) (by rw [aliveW_right]) aliveD (by decide) (i := 0) (by decide) rfl (by rw [alive_run]; rfl)
  rw [alive_run] at h
  obtain ⟨k, p, e, -, h2⟩ := h
  have e1 : (1 : Int) = (k : Int) := congrArg Ans.shard e
  have e2 : (0 : Int) = (p : Int) := congrArg Ans.place e
  obtain rfl : k = 1 := by omega
  obtain rfl : p = 0 := by omega
  exact h2 (by decide)

end Go.Proofs.YtkjlchfmplcobagGreatDoor

/- Boxes of records; the walks of yearref5.SameRecord and yearref5.WrongRecord. -/
namespace Go.Proofs.YtkjlchfmplcobagGreatDoor
open Go.RowKit

/-- What a variable of five cells holds. -/
theorem box_five {w : World} {k : Nat} {a b c d e : Value} {t : TypeId} (h : w.heap[k]? = some (.cells #[a, b, c, d, e] t (0, 0))) :
    w.cell? ⟨k, 0, none⟩ = some a ∧ w.cell? ⟨k, 1, none⟩ = some b ∧ w.cell? ⟨k, 2, none⟩ = some c ∧ w.cell? ⟨k, 3, none⟩ = some d ∧ w.cell? ⟨k, 4, none⟩ = some e :=
  ⟨cell_of_row w k 0 _ t _ h, cell_of_row w k 1 _ t _ h, cell_of_row w k 2 _ t _ h, cell_of_row w k 3 _ t _ h, cell_of_row w k 4 _ t _ h⟩
end Go.Proofs.YtkjlchfmplcobagGreatDoor

/- The walks of yearlaw7.do, yearlaw7.submit and yearlaw7.alive, over package fleet's faces. -/
namespace Go.Proofs.YtkjlchfmplcobagGreatDoor
open Go.RowKit

/-- What a variable of thirteen cells holds. -/
theorem box_13 {w : World} {k : Nat} {v0 v1 v2 v3 v4 v5 v6 v7 v8 v9 v10 v11 v12 : Value} {t : TypeId} (h : w.heap[k]? = some (.cells #[v0, v1, v2, v3, v4, v5, v6, v7, v8, v9, v10, v11, v12] t (0, 0))) :
    w.cell? ⟨k, 0, none⟩ = some v0 ∧ w.cell? ⟨k, 1, none⟩ = some v1 ∧ w.cell? ⟨k, 2, none⟩ = some v2 ∧ w.cell? ⟨k, 3, none⟩ = some v3 ∧ w.cell? ⟨k, 4, none⟩ = some v4 ∧ w.cell? ⟨k, 5, none⟩ = some v5 ∧ w.cell? ⟨k, 6, none⟩ = some v6 ∧ w.cell? ⟨k, 7, none⟩ = some v7 ∧ w.cell? ⟨k, 8, none⟩ = some v8 ∧ w.cell? ⟨k, 9, none⟩ = some v9 ∧ w.cell? ⟨k, 10, none⟩ = some v10 ∧ w.cell? ⟨k, 11, none⟩ = some v11 ∧ w.cell? ⟨k, 12, none⟩ = some v12 :=
  ⟨cell_of_row w k 0 _ t _ h, cell_of_row w k 1 _ t _ h, cell_of_row w k 2 _ t _ h, cell_of_row w k 3 _ t _ h, cell_of_row w k 4 _ t _ h, cell_of_row w k 5 _ t _ h, cell_of_row w k 6 _ t _ h, cell_of_row w k 7 _ t _ h, cell_of_row w k 8 _ t _ h, cell_of_row w k 9 _ t _ h, cell_of_row w k 10 _ t _ h, cell_of_row w k 11 _ t _ h, cell_of_row w k 12 _ t _ h⟩
set_option maxRecDepth 100000 in
theorem do7_any (kind n : Int) (w : World) :
    Calls Tryz.prog 20 #[.int .i64 kind, .int .i64 n] w fun e w' => e = .returned (.agg #[.int .i64 kind, .int .i64 n, .int .i64 0, .slice none 0 0, .int .i64 0, .int .i64 0, .int .u8 0]) ∧ Below w.heap.size w w' := by
  have b0 : Below w.heap.size w (w.alloc (.cells #[.int .i64 kind, .int .i64 n, .int .i64 0, .slice none 0 0, .int .i64 0, .int .i64 0, .int .u8 0] 56)) := (Below.refl _ _).alloc (Nat.le_refl _) _
  go_enter Tryz.func20, Tryz.ntmps20
  go_wp2_with fail
  exact bodyPost_ret (v := .agg #[.int .i64 kind, .int .i64 n, .int .i64 0, .slice none 0 0, .int .i64 0, .int .i64 0, .int .u8 0]) (by simp [results, Tryz.results20, go_sem]) rfl ⟨rfl, b0⟩
set_option maxRecDepth 100000 in
theorem submit7_any (t : Int) (ba : Option Addr) (bn bc : Nat) (w : World) :
    Calls Tryz.prog 19 #[.int .i64 t, .slice ba bn bc] w fun e w' => e = .returned (.agg #[.int .i64 1, .int .i64 0, .int .i64 t, .slice ba bn bc, .int .i64 0, .int .i64 0, .int .u8 0]) ∧ Below w.heap.size w w' := by
  have b0 : Below w.heap.size w (w.alloc (.cells #[.int .i64 1, .int .i64 0, .int .i64 t, .slice ba bn bc, .int .i64 0, .int .i64 0, .int .u8 0] 56)) := (Below.refl _ _).alloc (Nat.le_refl _) _
  go_enter Tryz.func19, Tryz.ntmps19
  go_wp2_with fail
  exact bodyPost_ret (v := .agg #[.int .i64 1, .int .i64 0, .int .i64 t, .slice ba bn bc, .int .i64 0, .int .i64 0, .int .u8 0]) (by simp [results, Tryz.results19, go_sem]) rfl ⟨rfl, b0⟩
/-- The four things that are done, in memory. -/
def aliveCells (ba : Option Addr) (bc : Nat) : Array Value := #[.int .i64 1, .int .i64 0, .int .i64 12, .slice ba 1 bc, .int .i64 0, .int .i64 0, .int .u8 0, .int .i64 2, .int .i64 1, .int .i64 0, .slice none 0 0, .int .i64 0, .int .i64 0, .int .u8 0, .int .i64 3, .int .i64 1, .int .i64 0, .slice none 0 0, .int .i64 0, .int .i64 0, .int .u8 0, .int .i64 4, .int .i64 1, .int .i64 0, .slice none 0 0, .int .i64 0, .int .i64 0, .int .u8 0]
theorem alive_dos (w : World) (t : TypeId) (ba : Option Addr) (bc : Nat) (hb : Some' w (.slice ba 1 bc) [7]) : DosAt (w.alloc (.cells (aliveCells ba bc) t)) (.slice (some ⟨w.heap.size, 0, none⟩) 4 4) aliveD := by
  have hbl : Below w.heap.size w (w.alloc (.cells (aliveCells ba bc) t)) := (Below.refl _ _).alloc (Nat.le_refl _) _
  have hnil : Some' (w.alloc (.cells (aliveCells ba bc) t)) (.slice none 0 0) [] := ⟨bytesAt_nil _, nil_bytes, Nat.zero_le _⟩
  have hc : ∀ j, j < 28 → (w.alloc (.cells (aliveCells ba bc) t)).cell? ⟨w.heap.size, j, none⟩ = (aliveCells ba bc)[j]? := fun j hj => cell_of_row _ _ j _ t _ (box_new w _ t)
  refine ⟨_, 4, rfl, Nat.le_refl _, by unfold maxLen; omega, (fun e => by cases e), .inr ⟨w.heap.size, 0, rfl, by simp, fun j hj => ?_⟩⟩
  have hj4 : j < 4 := hj
  match j, hj4 with
  | 0, _ => exact ⟨hc 0 (by omega), hc 1 (by omega), hc 2 (by omega), ⟨ba, bc, hc 3 (by omega), hb.below hbl⟩, hc 4 (by omega), hc 5 (by omega), hc 6 (by omega), by decide⟩
  | 1, _ => exact ⟨hc 7 (by omega), hc 8 (by omega), hc 9 (by omega), ⟨none, 0, hc 10 (by omega), hnil⟩, hc 11 (by omega), hc 12 (by omega), hc 13 (by omega), by decide⟩
  | 2, _ => exact ⟨hc 14 (by omega), hc 15 (by omega), hc 16 (by omega), ⟨none, 0, hc 17 (by omega), hnil⟩, hc 18 (by omega), hc 19 (by omega), hc 20 (by omega), by decide⟩
  | 3, _ => exact ⟨hc 21 (by omega), hc 22 (by omega), hc 23 (by omega), ⟨none, 0, hc 24 (by omega), hnil⟩, hc 25 (by omega), hc 26 (by omega), hc 27 (by omega), by decide⟩
theorem alive_wins (w : World) (t : TypeId) : WinsAt (w.alloc (.cells #[.int .i64 0, .int .i64 10, .int .i64 10, .int .i64 20] t)) (.slice (some ⟨w.heap.size, 0, none⟩) 2 2) aliveW := by
  refine ⟨_, 2, rfl, Nat.le_refl _, by unfold maxLen; omega, (fun e => by cases e), .inr ⟨w.heap.size, 0, rfl, by simp, fun j hj => ?_⟩⟩
  have hj2 : j < 2 := hj
  match j, hj2 with
  | 0, _ => exact ⟨new_cell w t _ 0 (by simp), new_cell w t _ 1 (by simp)⟩
  | 1, _ => exact ⟨new_cell w t _ 2 (by simp), new_cell w t _ 3 (by simp)⟩
theorem alive_seven (w : World) (t : TypeId) : Some' (w.alloc (.cells #[.int .u8 7] t)) (.slice (some ⟨w.heap.size, 0, none⟩) 1 1) [7] :=
  ⟨const_bytes w t [7] 1 rfl (0, 0), bytes_cons (by decide) (by decide) nil_bytes, by show 1 ≤ maxLen; unfold maxLen; omega⟩
set_option maxRecDepth 100000 in
set_option maxHeartbeats 4000000 in
theorem alive7_any (hPl : PlayC) (hSh : ShowC) (hCh : CheckC) (hHe : BookHeadC) (w : World) (hR : Ready w) :
    Calls Tryz.prog 7 #[] w fun e w' => e = .returned (.bool true) ∧ Below w.heap.size w w' := by
  have b0 : Below w.heap.size w ((w.alloc (.cells #[.int .i64 0, .int .i64 10, .int .i64 10, .int .i64 20] 57)).alloc (.cells #[.int .u8 7] 5)) := ((Below.refl _ _).alloc (Nat.le_refl _) _).alloc (by simp) _
  have hW0 := (alive_wins w 57).below ((Below.refl _ _).alloc (Nat.le_refl _) (.cells #[.int .u8 7] 5))
  have hS0 := alive_seven (w.alloc (.cells #[.int .i64 0, .int .i64 10, .int .i64 10, .int .i64 20] 57)) 5
  rw [World.size_alloc] at hS0
  go_enter Tryz.func7, Tryz.ntmps7
  go_wp2_with fail
  generalize (w.alloc (.cells #[.int .i64 0, .int .i64 10, .int .i64 10, .int .i64 20] 57)).alloc (.cells #[.int .u8 7] 5) = w0 at *
  refine (submit7_any 12 _ 1 1 w0).mono ?_
  rintro e w1 ⟨rfl, hb1⟩
  have b1 := b0.trans (hb1.mono b0.size)
  go_wp2_with fail
  refine (do7_any 2 1 w1).mono ?_
  rintro e w2 ⟨rfl, hb2⟩
  have c2 := hb1.trans (hb2.mono hb1.size)
  go_wp2_with fail
  refine (do7_any 3 1 w2).mono ?_
  rintro e w3 ⟨rfl, hb3⟩
  have c3 := c2.trans (hb3.mono c2.size)
  go_wp2_with fail
  refine (do7_any 4 1 w3).mono ?_
  rintro e w4 ⟨rfl, hb4⟩
  have c4 := c3.trans (hb4.mono c3.size)
  have hD5 := alive_dos w4 56 _ 1 (hS0.below c4)
  have d5 : Below w4.heap.size w4 (w4.alloc (.cells (aliveCells (some ⟨w.heap.size + 1, 0, none⟩) 1) 56)) := (Below.refl _ _).alloc (Nat.le_refl _) _
  have c5 := c4.trans (d5.mono c4.size)
  have b5 := b0.trans (c5.mono b0.size)
  have hW5 := hW0.below c5
  have cP := hPl aliveW aliveD _ _ _ (hR.below b5) hW5 hD5
  rw [aliveD_right, alive_play] at cP
  dsimp only [faultV] at cP
  clear hW0 hS0 b0 b1 hb1 hb2 hb3 hb4 c2 c3 c4 d5 c5 hW5 hD5 hPl
  unfold aliveCells at cP b5
  go_wp2_with fail
  generalize w4.alloc _ = w5 at *
  refine cP.mono ?_
  rintro e w6 ⟨fv, av, rfl, hF, hA, hb6⟩
  have b6 := b5.trans (hb6.mono b5.size)
  obtain ⟨sa, sc, ka, kc, rfl, hSh6, hBk6⟩ := hF
  obtain ⟨aa, ac, rfl, ha1, ha2, ha3, hAc⟩ := hA
  obtain ⟨ab, ao, rfl, hab, hcs⟩ := hAc.resolve_left (by decide)
  obtain ⟨a3, -, -, -, -⟩ := hcs 3 (by decide)
  have d7 : Below w6.heap.size w6 ((w6.alloc (.cells #[.slice sa aliveF.shards.length sc, .slice ka aliveF.book.length kc] 28)).alloc (.cells #[.int .i64 0, .int .i64 0] 32)) := ((Below.refl _ _).alloc (Nat.le_refl _) _).alloc (by simp) _
  have b7 := b6.trans (d7.mono b6.size)
  have x7 := box_one w6 #[.slice sa aliveF.shards.length sc, .slice ka aliveF.book.length kc] 28 (.cells #[.int .i64 0, .int .i64 0] 32)
  obtain ⟨f0, f1, -, -⟩ := box_two (box_last w6 (.cells #[.slice sa aliveF.shards.length sc, .slice ka aliveF.book.length kc] 28) #[.int .i64 0, .int .i64 0] 32)
  have a7 := (d7.cell (p := ⟨ab, ao + 3 * 5, none⟩) hab).trans a3
  have hF7 : FltV ((w6.alloc (.cells #[.slice sa aliveF.shards.length sc, .slice ka aliveF.book.length kc] 28)).alloc (.cells #[.int .i64 0, .int .i64 0] 32)) (.agg #[.slice sa aliveF.shards.length sc, .slice ka aliveF.book.length kc]) aliveF := FltV.below (w := w6) (f := aliveF) ⟨sa, sc, ka, kc, rfl, hSh6, hBk6⟩ d7
  have hB7 := hBk6.below d7
  have cS := hSh aliveW aliveF 1 0 _ _ (by rw [aliveW_right]) aliveF_ok (hR.below b7) hF7
  obtain ⟨g0, g1, -, -⟩ := box_two x7
  obtain ⟨e1, e2, e3⟩ := alive_shown
  rw [e1] at cS
  clear cP hSh6 hBk6 hAc hcs a3 hF7
  replace a7 : _ = some (Value.int .i64 0) := a7
  go_wp2_with fail
  generalize (w6.alloc (.cells #[.slice sa aliveF.shards.length sc, .slice ka aliveF.book.length kc] 28)).alloc (.cells #[.int .i64 0, .int .i64 0] 32) = w7 at *
  generalize showL aliveF 1 0 = Z at *
  obtain ⟨S, ze⟩ := Z
  dsimp only at cS e1 e2 e3
  refine cS.mono ?_
  rintro e w8 ⟨sv, rfl, hV, hb8⟩
  have b8 := b7.trans (hb8.mono b7.size)
  obtain ⟨ea, ec, pa, pc, ra, rc, ba, bc, ha, hc, rfl, hv1, hv2, hv3, hv4, hv5⟩ := hV.form
  have hE1 : S.entry.length = 1 := by rw [e2]; rfl
  rw [hE1] at hv1 hV ⊢
  have d9 : Below w8.heap.size w8 (w8.alloc (.cells #[.slice ea 1 ec, .int .i64 S.place, .int .i64 S.shard, .slice pa S.path.length pc, .int .i64 S.rcd.shard, .int .i64 S.rcd.from', .int .i64 S.rcd.to', .int .i64 S.rcd.size, .slice ra S.rcd.root.length rc, .int .i64 S.row, .slice ba S.bookPath.length bc, .int .i64 S.hsize, .slice ha S.hroot.length hc] 46)) := (Below.refl _ _).alloc (Nat.le_refl _) _
  have b9 := b8.trans (d9.mono b8.size)
  have y9 := box_new w8 #[.slice ea 1 ec, .int .i64 S.place, .int .i64 S.shard, .slice pa S.path.length pc, .int .i64 S.rcd.shard, .int .i64 S.rcd.from', .int .i64 S.rcd.to', .int .i64 S.rcd.size, .slice ra S.rcd.root.length rc, .int .i64 S.row, .slice ba S.bookPath.length bc, .int .i64 S.hsize, .slice ha S.hroot.length hc] 46
  have x9 := box_kept (box_kept x7 hb8) d9
  have hV9 := hV.below d9
  have hv9 := hv1.below d9
  have cH := hHe aliveF.book _ _ (hR.below b9) ((hB7.below hb8).below d9)
  have hbk : wrongRecs aliveF.book = (0, 0) := book_right (by rw [aliveW_right]) aliveF_ok
  have hbs : bookSize aliveF.book = 1 := by unfold bookSize; rw [hbk, if_neg (fun h => h rfl)]; rfl
  have hbr : bookRoot aliveF.book = mth (rowsOf aliveF.book) := by unfold bookRoot; rw [hbk, if_neg (fun h => h rfl)]
  have hml := mth_length (rowsOf aliveF.book)
  rw [hbk, hbs, hbr, hml] at cH
  dsimp only [faultV] at cH
  obtain ⟨q0, q1, -, -⟩ := box_two x9
  clear cS hv1 hv2 hv3 hv4 hv5 hV x7 g0 g1 f0 f1 a7 hb8 d9 hB7 hbk hbs hbr
  go_wp2_with fail
  generalize w8.alloc (.cells #[.slice ea 1 ec, .int .i64 S.place, .int .i64 S.shard, .slice pa S.path.length pc, .int .i64 S.rcd.shard, .int .i64 S.rcd.from', .int .i64 S.rcd.to', .int .i64 S.rcd.size, .slice ra S.rcd.root.length rc, .int .i64 S.row, .slice ba S.bookPath.length bc, .int .i64 S.hsize, .slice ha S.hroot.length hc] 46) = w9 at *
  refine cH.mono ?_
  rintro e w10 ⟨ta, tc, rfl, ht, hb10⟩
  have d11 : Below w10.heap.size w10 ((w10.alloc (.cells #[.int .i64 1, .slice ta 32 tc] 38)).alloc (.cells #[.int .i64 0, .int .i64 0] 32)) := ((Below.refl _ _).alloc (Nat.le_refl _) _).alloc (by simp) _
  have c11 := hb10.trans (d11.mono hb10.size)
  have b11 := b9.trans (c11.mono b9.size)
  have y11 := box_kept y9 c11
  obtain ⟨h0, h1, -, -⟩ := box_two (box_one w10 #[.int .i64 1, .slice ta 32 tc] 38 (.cells #[.int .i64 0, .int .i64 0] 32))
  have cC := hCh S 1 (mth (rowsOf aliveF.book)) _ _ _ (hR.below b11) (hV9.below c11) (ht.below d11)
  rw [e3] at cC
  have hv11 := (hv9.below c11).at'
  rw [e2] at hv11
  obtain ⟨gg, go, rfl, hcell⟩ : ∃ gg go, ea = some ⟨gg, go, none⟩ ∧ ((w10.alloc (.cells #[.int .i64 1, .slice ta 32 tc] 38)).alloc (.cells #[.int .i64 0, .int .i64 0] 32)).cell? ⟨gg, go, none⟩ = some (.int .u8 7) := by
    rcases hv11 with ⟨e, -⟩ | ⟨b, off, cp, e, -, h⟩
    · cases e
    · cases e; exact ⟨b, off, rfl, h 0 (by decide)⟩
  obtain ⟨k0, k1, k2, k3, k4, k5, k6, k7, k8, k9, k10, k11, k12⟩ := box_13 y11
  subst e1
  clear cH hV9 hv9 hv11 x9 y9 q0 q1 ht hE1 e2 e3
  go_wp2_with fail
  generalize (w10.alloc (.cells #[.int .i64 1, .slice ta 32 tc] 38)).alloc (.cells #[.int .i64 0, .int .i64 0] 32) = w11 at *
  refine cC.mono ?_
  rintro e w12 ⟨rfl, hb12⟩
  go_wp2_with fail
  go_ret
  exact ⟨rfl, b11.trans (hb12.mono b11.size)⟩

end Go.Proofs.YtkjlchfmplcobagGreatDoor

/- Five cells written; old memory kept. Nothing of the program's functions is in it. -/
namespace Go.Proofs.YtkjlchfmplcobagGreatDoor
open Go.RowKit

/-- Five cells written. -/
theorem five_set {w : World} {R : Nat} {a b c d e : Value} {t : TypeId} (h : w.heap[R]? = some (.cells #[a, b, c, d, e] t (0, 0))) (u0 u1 u2 u3 u4 : Value) : (((((w.setCell ⟨R, 0, none⟩ u0).setCell ⟨R, 1, none⟩ u1).setCell ⟨R, 2, none⟩ u2).setCell ⟨R, 3, none⟩ u3).setCell ⟨R, 4, none⟩ u4).heap[R]? = some (.cells #[u0, u1, u2, u3, u4] t (0, 0)) := by
  have h0 := heap_setCell_same w R 0 _ t u0 h
  have h1 := heap_setCell_same _ R 1 _ t u1 h0
  have h2 := heap_setCell_same _ R 2 _ t u2 h1
  have h3 := heap_setCell_same _ R 3 _ t u3 h2
  exact heap_setCell_same _ R 4 _ t u4 h3
theorem five_below {B R : Nat} {w0 w : World} (h : Below B w0 w) (hR : B ≤ R) (u0 u1 u2 u3 u4 : Value) : Below B w0 (((((w.setCell ⟨R, 0, none⟩ u0).setCell ⟨R, 1, none⟩ u1).setCell ⟨R, 2, none⟩ u2).setCell ⟨R, 3, none⟩ u3).setCell ⟨R, 4, none⟩ u4) := ((((h.setCell hR _).setCell hR _).setCell hR _).setCell hR _).setCell hR _
theorem five_own {w : World} {base R n : Nat} {e : TypeId} {v : Value} {xs : List Value} (h : w.ownsRow base e 1 v n xs) (hR : R < base) (u0 u1 u2 u3 u4 : Value) : (((((w.setCell ⟨R, 0, none⟩ u0).setCell ⟨R, 1, none⟩ u1).setCell ⟨R, 2, none⟩ u2).setCell ⟨R, 3, none⟩ u3).setCell ⟨R, 4, none⟩ u4).ownsRow base e 1 v n xs :=
  ownsRow_setCell_below (ownsRow_setCell_below (ownsRow_setCell_below (ownsRow_setCell_below (ownsRow_setCell_below h hR _) hR _) hR _) hR _) hR _
/-- Two cells written. -/
theorem two_set {w : World} {R : Nat} {a b : Value} {t : TypeId} (h : w.heap[R]? = some (.cells #[a, b] t (0, 0))) (u0 u1 : Value) : ((w.setCell ⟨R, 0, none⟩ u0).setCell ⟨R, 1, none⟩ u1).heap[R]? = some (.cells #[u0, u1] t (0, 0)) := by
  have h0 := heap_setCell_same w R 0 _ t u0 h
  exact heap_setCell_same _ R 1 _ t u1 h0
theorem two_below {B R : Nat} {w0 w : World} (h : Below B w0 w) (hR : B ≤ R) (u0 u1 : Value) : Below B w0 ((w.setCell ⟨R, 0, none⟩ u0).setCell ⟨R, 1, none⟩ u1) := (h.setCell hR _).setCell hR _
theorem two_own {w : World} {base R n : Nat} {e : TypeId} {v : Value} {xs : List Value} (h : w.ownsRow base e 1 v n xs) (hR : R < base) (u0 u1 : Value) : ((w.setCell ⟨R, 0, none⟩ u0).setCell ⟨R, 1, none⟩ u1).ownsRow base e 1 v n xs := ownsRow_setCell_below (ownsRow_setCell_below h hR _) hR _
theorem two_far {w : World} {R k : Nat} {x : Obj} (h : w.heap[k]? = some x) (hk : k ≠ R) (u0 u1 : Value) : ((w.setCell ⟨R, 0, none⟩ u0).setCell ⟨R, 1, none⟩ u1).heap[k]? = some x := box_set_far (box_set_far h hk) hk
end Go.Proofs.YtkjlchfmplcobagGreatDoor

/- The walks of yearref5.SameAnswer, SameBook and SameFleet at what is the same. -/
namespace Go.Proofs.YtkjlchfmplcobagGreatDoor
open Go.RowKit

/-- An answer as the walks meet it. -/
def AnsV (w : World) (v : Value) (x : Ans) : Prop := ∃ ra rc, v = .agg #[.int .i64 x.err, .int .i64 x.shard, .int .i64 x.place, .int .i64 x.size, .slice ra x.root.length rc] ∧ Some' w (.slice ra x.root.length rc) x.root
theorem AnsV.below {w w' : World} {v : Value} {x : Ans} (h : AnsV w v x) (hb : Below w.heap.size w w') : AnsV w' v x := by
  obtain ⟨ra, rc, h1, h2⟩ := h
  exact ⟨ra, rc, h1, h2.below hb⟩
end Go.Proofs.YtkjlchfmplcobagGreatDoor

/- The walk of the law FleetPast, over the faces of package fleet. -/
namespace Go.Proofs.YtkjlchfmplcobagGreatDoor
open Go.RowKit

theorem play_ok {ws : List Win} {l : List Dd} (h : (playF ws l).1 = 0) : playL ws l = runL (startL ws) l ∧ (wrongWins ws).1 = 0 ∧ l.length ≤ 120 := by
  refine ⟨by unfold playL; rw [if_neg (fun g => g h)], ?_, ?_⟩
  · unfold playF at h
    by_cases hw : (wrongWins ws).1 ≠ 0
    · rw [if_pos hw] at h; exact absurd h hw
    · simpa using hw
  · unfold playF at h
    by_cases hw : (wrongWins ws).1 ≠ 0
    · rw [if_pos hw] at h; exact absurd h hw
    · rw [if_neg hw] at h
      by_cases hl : 120 < l.length
      · rw [if_pos hl] at h; exact absurd h (by decide)
      · omega
end Go.Proofs.YtkjlchfmplcobagGreatDoor

/- The walk of the law FleetEarly, over the faces of package fleet. -/
namespace Go.Proofs.YtkjlchfmplcobagGreatDoor
open Go.RowKit

theorem ShdsAt.get {w : World} {a : Option Addr} {n c : Nat} {l : List Shd} (h : ShdsAt w (.slice a n c) l) (hn : l.length = n) {j : Nat} (hj : j < n) : ∃ b o, a = some ⟨b, o, none⟩ ∧ b < w.heap.size ∧ ShdCells w b (o + j * 7) (l.getD j shd0) := by
  obtain ⟨a', c', e, -, -, -, h5⟩ := h
  rw [hn] at e h5
  cases e
  obtain ⟨b, off, h6, h7, h8⟩ := h5.resolve_left (by omega)
  exact ⟨b, off, h6, h7, h8 j hj⟩
set_option maxRecDepth 100000 in
set_option maxHeartbeats 4000000 in
theorem fleetEarly_any (hPl : PlayC) (hSh : ShowC) (hCh : CheckC) (hHe : BookHeadC) (ws : List Win) (l : List Dd) (k i : Int) (wa da : Option Addr) (wn wc dn dc : Nat) (w : World) (hR : Ready w) (hW : WinsAt w (.slice wa wn wc) ws) (hD : DosAt w (.slice da dn dc) l) :
    Calls Tryz.prog 4 #[.slice wa wn wc, .slice da dn dc, .int .i64 k, .int .i64 i] w fun e w' => e = .returned (.bool true) ∧ Below w.heap.size w w' := by
  have cA := alive7_any hPl hSh hCh hHe w hR
  have cP := fun w' (h : Below w.heap.size w w') => hPl ws l _ _ w' (hR.below h) (hW.below h) (hD.below h)
  have HP : Hid ((playF ws l).1 = 0 → (wrongWins ws).1 = 0 ∧ FltOk ws (playL ws l).1) := fun h => by
    obtain ⟨e, hw, -⟩ := play_ok h
    rw [e]
    exact ⟨hw, run_ok (start_ok ws) l⟩
  clear hD hW
  generalize playF ws l = F at *
  generalize playL ws l = P at *
  obtain ⟨F1, F2⟩ := F
  obtain ⟨P, A⟩ := P
  dsimp only [faultV] at cP HP
  go_enter Tryz.func4, Tryz.ntmps4
  go_wp2_with fail
  refine cA.mono ?_
  rintro e w1 ⟨rfl, b1⟩
  clear cA
  go_wp2_with fail
  refine (cP _ b1).mono ?_
  rintro e w2 ⟨fv, av, rfl, ⟨sa, sc, ka, kc, rfl, hS, hB⟩, hA, hb2⟩
  have b2 := b1.trans (hb2.mono b1.size)
  obtain ⟨aa, ac, rfl⟩ := hA.form
  have d3 : Below w2.heap.size w2 ((w2.alloc (.cells #[.slice sa P.shards.length sc, .slice ka P.book.length kc] 28)).alloc (.cells #[.int .i64 F1, .int .i64 F2] 32)) := ((Below.refl _ _).alloc (Nat.le_refl _) _).alloc (by simp) _
  have b3 := b2.trans (d3.mono b2.size)
  have x3 := box_one w2 #[.slice sa P.shards.length sc, .slice ka P.book.length kc] 28 (.cells #[.int .i64 F1, .int .i64 F2] 32)
  obtain ⟨f0, f1, -, -⟩ := box_two (box_last w2 (.cells #[.slice sa P.shards.length sc, .slice ka P.book.length kc] 28) #[.int .i64 F1, .int .i64 F2] 32)
  have hS3 := hS.below d3
  have hB3 := hB.below d3
  have hF3 := FltV.below (w := w2) (f := P) ⟨sa, sc, ka, kc, rfl, hS, hB⟩ d3
  clear cP hA hb2 b1 b2 d3 hS hB
  by_cases hF : F1 ≠ 0
  · have hF' : (F1 != 0) = true := by simpa using hF
    clear HP hF hF3 hS3 hB3
    go_wp2_with fail
    go_ret
    exact ⟨rfl, b3⟩
  obtain rfl : F1 = 0 := by simpa using hF
  obtain ⟨hw, hok⟩ := HP.out rfl
  have cS := hSh ws P k i _ _ hw hok (hR.below b3) hF3
  have hse := show_err hw hok k i
  have HN : Hid (∀ q : Nat, q < P.shards.length → (P.shards.getD q shd0).state ≠ 1 → sizeIn P.book (q : Int) P.book.length = (headOf (P.shards.getD q shd0)).1) := fun q hq h => sizeIn_row hok (by rw [← hok.len]; exact hq) h
  obtain ⟨g0, g1, -, -⟩ := box_two x3
  clear HP hF hF3 hPl hSh hCh hHe
  go_wp2_with fail
  generalize (w2.alloc (.cells #[.slice sa P.shards.length sc, .slice ka P.book.length kc] 28)).alloc (.cells #[.int .i64 0, .int .i64 F2] 32) = w3 at *
  have HSE : Hid ((showL P k i).2 = if k < 0 ∨ (P.shards.length : Int) ≤ k then 6 else if (P.shards.getD k.toNat shd0).state = 1 then 8 else if i < 0 ∨ (headOf (P.shards.getD k.toNat shd0)).1 ≤ i then 6 else 0) := hse
  clear hse
  generalize showL P k i = Z at *
  obtain ⟨S, ze⟩ := Z
  dsimp only at cS HSE
  refine cS.mono ?_
  rintro e w4 ⟨sv, rfl, hV, hb4⟩
  obtain ⟨ea, ec, pa, pc, ra, rc, ba, bc, ha, hc, rfl, -, -, -, -, -⟩ := hV.form
  have d5 : Below w4.heap.size w4 (w4.alloc (.cells #[.slice ea S.entry.length ec, .int .i64 S.place, .int .i64 S.shard, .slice pa S.path.length pc, .int .i64 S.rcd.shard, .int .i64 S.rcd.from', .int .i64 S.rcd.to', .int .i64 S.rcd.size, .slice ra S.rcd.root.length rc, .int .i64 S.row, .slice ba S.bookPath.length bc, .int .i64 S.hsize, .slice ha S.hroot.length hc] 46)) := (Below.refl _ _).alloc (Nat.le_refl _) _
  have c5 := hb4.trans (d5.mono hb4.size)
  have b5 := b3.trans (c5.mono b3.size)
  have x5 := box_kept x3 c5
  have hS5 := hS3.below c5
  have hB5 := hB3.below c5
  clear cS g0 g1 hV hb4 d5 c5 x3 hS3 hB3 b3 f0 f1
  obtain ⟨g0, g1, -, -⟩ := box_two x5
  by_cases h1 : k < 0
  · obtain rfl : ze = 6 := by rw [HSE.out, if_pos (.inl h1)]
    clear HSE HN hS5 hB5
    go_wp2_with fail
    go_ret
    exact ⟨rfl, b5⟩
  by_cases h2 : (P.shards.length : Int) ≤ k
  · obtain rfl : ze = 6 := by rw [HSE.out, if_pos (.inr h2)]
    clear HSE HN hS5 hB5
    go_wp2_with fail
    go_ret
    exact ⟨rfl, b5⟩
  obtain ⟨q, rfl⟩ := Int.eq_ofNat_of_zero_le (show 0 ≤ k by omega)
  have hq : q < P.shards.length := by omega
  obtain ⟨sb, so, rfl, hsb, hcell⟩ := hS5.get rfl hq
  have hst := hcell.state
  have hpm : P.shards.length ≤ maxLen := by obtain ⟨_, _, e, g2, g3, -⟩ := hS5; cases e; omega
  unfold maxLen at hpm
  have hqi : (q : Int) < P.shards.length := by omega
  have HSE2 : Hid (ze = if (P.shards.getD q shd0).state = 1 then 8 else if i < 0 ∨ (headOf (P.shards.getD q shd0)).1 ≤ i then 6 else 0) := by
    show _ = _
    have := HSE.out
    rw [if_neg (by omega), Int.toNat_natCast] at this
    exact this
  have HN2 := HN q
  clear HSE HN hcell hS5
  by_cases h3 : (P.shards.getD q shd0).state = 1
  · obtain rfl : ze = 8 := by rw [HSE2.out, if_pos h3]
    rw [h3] at hst
    clear HSE2 HN2 hB5
    go_wp2_with fail
    go_ret
    exact ⟨rfl, b5⟩
  have hst' : ((P.shards.getD q shd0).state == 1) = false := by simpa using h3
  have HZ : Hid (ze = if i < 0 ∨ sizeIn P.book (q : Int) P.book.length ≤ i then 6 else 0) := by
    show _ = _
    rw [HN2 hq h3, HSE2.out, if_neg h3]
  obtain ⟨bb, bo, hbk⟩ : ∃ bn bm : Nat, RecsAt _ (.slice ka P.book.length kc) P.book := ⟨0, 0, hB5⟩
  clear HSE2 HN2 hB5
  generalize (P.shards.getD q shd0).state = sst at *
  go_wp2_with fail
  generalize w4.alloc _ = w5 at *
  clear g0 g1 hst
  obtain ⟨ka', kc', eB, hB1, hB2, -, hBc⟩ := hbk
  cases eB
  unfold maxLen at hB2
  go_loopw [14, 61] (fun nv kv wr => ∃ j : Nat, j ≤ P.book.length ∧ kv = .int .i64 j ∧ nv = .int .i64 (sizeIn P.book (q : Int) j) ∧ Below w5.heap.size w5 wr) (fun _ kv _ => P.book.length - (intOf kv).toNat)
  case atStart => exact ⟨0, Nat.zero_le _, rfl, rfl, Below.refl _ _⟩
  case round =>
    obtain ⟨wo, rfl⟩ : ∃ x, x = wr := ⟨wr, rfl⟩
    obtain ⟨j, hj, rfl, rfl, hbr⟩ := hrel
    have hsr := hbr.size
    have hbw := b5.trans (hbr.mono b5.size)
    by_cases hlt : j < P.book.length
    · have hlt' : (j : Int) < P.book.length := by omega
      obtain ⟨g, o, rfl, hg, hcs⟩ := hBc.resolve_left (by omega)
      obtain ⟨d0, d1, d2, d3, qa, qc, d4, -⟩ := (hcs j hlt).below hg hbr
      have HSI : Hid (sizeIn P.book (q : Int) (j + 1) = if (P.book.getD j rec0).shard = (q : Int) then (P.book.getD j rec0).size else sizeIn P.book (q : Int) j) := rfl
      clear hcs hBc
      generalize P.book.getD j rec0 = R at *
      have b6 : Below w5.heap.size w5 (wo.alloc (.cells #[.int .i64 R.shard, .int .i64 R.from', .int .i64 R.to', .int .i64 R.size, .slice qa R.root.length qc] 44)) := hbr.alloc hsr _
      obtain ⟨t0, t1, t2, t3, t4⟩ := box_five (box_new wo #[.int .i64 R.shard, .int .i64 R.from', .int .i64 R.to', .int .i64 R.size, .slice qa R.root.length qc] 44)
      generalize R.root.length = rn at *
      by_cases he : R.shard = (q : Int)
      · have HE : Hid (sizeIn P.book (q : Int) (j + 1) = R.size) := by show _ = _; rw [HSI.out, if_pos he]
        rw [he] at d0 t0 b6 t1 t2 t3 t4
        have hqq : ((q : Int) == q) = true := by simp
        clear HSI
        go_wp2_with fail
        go_roundw
        case rel => exact ⟨j + 1, by omega, by go_num, by rw [HE.out], b6⟩
        case measure => simp [intOf]; omega
      · have HE : Hid (sizeIn P.book (q : Int) (j + 1) = sizeIn P.book (q : Int) j) := by show _ = _; rw [HSI.out, if_neg he]
        have he' : (R.shard == (q : Int)) = false := by simpa using he
        clear HSI
        go_wp2_with fail
        go_roundw
        case rel => exact ⟨j + 1, by omega, by go_num, by rw [HE.out], b6⟩
        case measure => simp [intOf]; omega
    · obtain rfl : j = P.book.length := by omega
      have hnl : ¬ (P.book.length : Int) < P.book.length := by omega
      clear hBc
      generalize sizeIn P.book (q : Int) P.book.length = N at *
      by_cases hi : i < 0 ∨ N ≤ i
      · obtain rfl : ze = 6 := by rw [HZ.out, if_pos hi]
        by_cases hi0 : i < 0
        · have hi0' : ¬ 0 ≤ i := by omega
          clear HZ hi
          go_wp2_with fail
          go_ret
          exact ⟨rfl, hbw⟩
        · have hi0' : 0 ≤ i := by omega
          have hi1 : ¬ i < N := by omega
          clear HZ hi
          go_wp2_with fail
          go_ret
          exact ⟨rfl, hbw⟩
      · obtain rfl : ze = 0 := by rw [HZ.out, if_neg hi]
        have hi0' : 0 ≤ i := by omega
        have hi1 : i < N := by omega
        clear HZ hi
        go_wp2_with fail
        go_ret
        exact ⟨rfl, hbw⟩

end Go.Proofs.YtkjlchfmplcobagGreatDoor

/- Things that are done, as rows of a call's own. -/
namespace Go.Proofs.YtkjlchfmplcobagGreatDoor
open Go.RowKit

theorem own7_form {w : World} {base : Nat} {e : TypeId} {v : Value} {n : Nat} {xs : List Value} (h : w.ownsRow base e 7 v n xs) : ∃ a c, v = .slice a n c := by
  rcases h.2 with ⟨hv, rfl⟩ | ⟨g, cap, cur, hv, -⟩
  · exact ⟨none, 0, hv⟩
  · exact ⟨_, cap, hv⟩
theorem own7_block {w : World} {base : Nat} {e : TypeId} {v : Value} {n : Nat} {xs : List Value} (h : w.ownsRow base e 7 v n xs) {q : Nat} (hq : v.ownBlock = some q) : base ≤ q := by
  rcases h.2 with ⟨e, -⟩ | ⟨g, cap, cur, e, hg, -⟩
  · rw [e] at hq; cases hq
  · rw [e] at hq; cases hq; exact hg
/-- The values of one thing that is done. -/
def ddV (x : Dd) (pa : Option Addr) (pc : Nat) : List Value := [.int .i64 x.kind, .int .i64 x.n, .int .i64 x.time, .slice pa x.entry.length pc, .int .i64 x.segment, .int .i64 x.at', .int .u8 x.by']
/-- The values of several, whose entries lie in the world w. -/
def DoEls (w : World) (vs : List Value) (l : List Dd) : Prop :=
  vs.length = l.length * 7 ∧ ∀ j, j < l.length → ∃ pa pc, Some' w (.slice pa (l.getD j dd0).entry.length pc) (l.getD j dd0).entry ∧ DdFit (l.getD j dd0) ∧ ∀ i, i < 7 → vs[j * 7 + i]? = (ddV (l.getD j dd0) pa pc)[i]?
theorem DoEls.snoc {w : World} {vs : List Value} {l : List Dd} {x : Dd} {pa : Option Addr} {pc : Nat} (h : DoEls w vs l) (hx : Some' w (.slice pa x.entry.length pc) x.entry) (hb : DdFit x) : DoEls w (vs ++ ddV x pa pc) (l ++ [x]) := by
  obtain ⟨hl, h⟩ := h
  refine ⟨by rw [List.length_append, List.length_append, hl]; show l.length * 7 + 7 = (l.length + 1) * 7; omega, fun j hj => ?_⟩
  by_cases e : j < l.length
  · obtain ⟨qa, qc, h1, h2, h3⟩ := h j e
    have eg : (l ++ [x]).getD j dd0 = l.getD j dd0 := by rw [snoc_get, if_pos e]
    rw [eg]
    refine ⟨qa, qc, h1, h2, fun i hi => ?_⟩
    rw [List.getElem?_append_left (by omega)]
    exact h3 i hi
  · obtain rfl : j = l.length := by simp at hj; omega
    have eg : (l ++ [x]).getD l.length dd0 = x := by rw [snoc_get, if_neg (Nat.lt_irrefl _), if_pos rfl]
    rw [eg]
    refine ⟨pa, pc, hx, hb, fun i hi => ?_⟩
    rw [List.getElem?_append_right (by omega), hl, show l.length * 7 + i - l.length * 7 = i by omega]
end Go.Proofs.YtkjlchfmplcobagGreatDoor

/- Segments as rows of a call's own; parts of lists. -/
namespace Go.Proofs.YtkjlchfmplcobagGreatDoor
open Go.RowKit

theorem Tryz.info111b : (Tryz.prog.info? 111).map (fun i => (i.zero, i.size, i.bytes)) = some (some (.agg #[.int .i64 0, .int .i64 0, .slice none 0 0]), 3, 40) := by kernel_rfl
theorem Lists.part {w : World} {b off n c i m : Nat} {L : List (List Int)} (h : Lists w (some ⟨b, off, none⟩) n c L) (hi : i + m ≤ n) (hm : 1 ≤ m) : Lists w (some ⟨b, off + i, none⟩) m (c - i) ((L.drop i).take m) := by
  have hl := h.len
  have hr := h.room
  have hc := h.cap
  have hd := h.at'.drop (k := i) hl (by omega) (by omega) (c - i)
  refine ⟨by rw [List.length_take, List.length_drop]; omega, hd.take (by rw [List.length_drop]; omega) (by omega) (by omega) _, by omega, by omega, fun e => (by cases e), ?_, ?_⟩
  · refine take_bytes (fun j => ?_) m
    rw [List.getD_eq_getElem?_getD, List.getElem?_drop, ← List.getD_eq_getElem?_getD]; exact h.bytes _
  · refine take_short (fun j => ?_) m
    rw [List.getD_eq_getElem?_getD, List.getElem?_drop, ← List.getD_eq_getElem?_getD]; exact h.short _
theorem own3_below {w w' : World} {base : Nat} {e : TypeId} {v : Value} {n N : Nat} {xs : List Value} (h : w.ownsRow base e 3 v n xs) (hb : Below N w w') (hN : w.heap.size ≤ N) : w'.ownsRow base e 3 v n xs :=
  h.kept (w' := w') (row := none) ⟨hb.os, hb.tape, hb.output, hb.size, fun k hk _ => hb.block k (Nat.lt_of_lt_of_le hk hN)⟩ (by cases v.ownBlock <;> simp)
theorem own_ne3 {w : World} {base b2 : Nat} {e1 e2 : TypeId} {v1 v2 : Value} {n1 n2 : Nat} {xs1 xs2 : List Value} (h1 : w.ownsRow base e1 1 v1 n1 xs1) (h2 : w.ownsRow b2 e2 3 v2 n2 xs2) (hne : e1 ≠ e2) : Sep v1 v2 := fun g hg1 hg2 => by
  rcases h1.2 with ⟨rfl, -⟩ | ⟨g1, c1, cur1, rfl, -, hh1, -⟩
  · cases hg1
  rcases h2.2 with ⟨rfl, -⟩ | ⟨g2, c2, cur2, rfl, -, hh2, -⟩
  · cases hg2
  cases hg1
  cases hg2
  rw [hh1] at hh2
  cases hh2
  exact hne rfl
/-- The values of segments, each with bytes of the call's own. -/
def SegEls (w : World) (base : Nat) (vs : List Value) (l : List Seg) : Prop :=
  vs.length = l.length * 3 ∧ ∀ j, j < l.length → vs[j * 3]? = some (.int .i64 (l.getD j seg0).first) ∧ vs[j * 3 + 1]? = some (.int .i64 (l.getD j seg0).count) ∧
    ∃ y, vs[j * 3 + 2]? = some y ∧ w.ownsRow base 5 1 y (l.getD j seg0).packed.length ((l.getD j seg0).packed.map (Value.int .u8))
theorem SegEls.kept {w w' : World} {base b2 : Nat} {vs : List Value} {l : List Seg} {v : Value} {n : Nat} {xs : List Value} (h : SegEls w base vs l) (hr : w.ownsRow b2 111 3 v n xs) (hg : w.grownBy w' v.ownBlock) : SegEls w' base vs l :=
  ⟨h.1, fun j hj => by
    obtain ⟨h0, h1, y, h2, h3⟩ := h.2 j hj
    exact ⟨h0, h1, y, h2, h3.kept hg (own_ne3 h3 hr (by decide)).or⟩⟩
theorem SegEls.alloc {w : World} {base : Nat} {vs : List Value} {l : List Seg} (h : SegEls w base vs l) (o : Obj) : SegEls (w.alloc o) base vs l :=
  ⟨h.1, fun j hj => by
    obtain ⟨h0, h1, y, h2, h3⟩ := h.2 j hj
    exact ⟨h0, h1, y, h2, h3.alloc o⟩⟩
theorem SegEls.below {w w' : World} {base N : Nat} {vs : List Value} {l : List Seg} (h : SegEls w base vs l) (hb : Below N w w') (hN : w.heap.size ≤ N) : SegEls w' base vs l :=
  ⟨h.1, fun j hj => by
    obtain ⟨h0, h1, y, h2, h3⟩ := h.2 j hj
    exact ⟨h0, h1, y, h2, own_below h3 hb hN⟩⟩
theorem SegEls.snoc {w : World} {base : Nat} {vs : List Value} {l : List Seg} {s : Seg} {y : Value} (h : SegEls w base vs l) (hy : w.ownsRow base 5 1 y s.packed.length (s.packed.map (Value.int .u8))) : SegEls w base (vs ++ [.int .i64 s.first, .int .i64 s.count, y]) (l ++ [s]) := by
  obtain ⟨hl, h⟩ := h
  refine ⟨by simp; omega, fun j hj => ?_⟩
  by_cases e : j < l.length
  · obtain ⟨h0, h1, z, h2, h3⟩ := h j e
    have eg : (l ++ [s]).getD j seg0 = l.getD j seg0 := by rw [List.getD_eq_getElem?_getD, List.getElem?_append_left e, ← List.getD_eq_getElem?_getD]
    rw [eg, List.getElem?_append_left (by omega), List.getElem?_append_left (by omega), List.getElem?_append_left (by omega)]
    exact ⟨h0, h1, z, h2, h3⟩
  · obtain rfl : j = l.length := by simp at hj; omega
    have eg : (l ++ [s]).getD l.length seg0 = s := by rw [List.getD_eq_getElem?_getD, List.getElem?_append_right (Nat.le_refl _), Nat.sub_self]; rfl
    rw [eg, List.getElem?_append_right (by omega), List.getElem?_append_right (by omega), List.getElem?_append_right (by omega), hl, Nat.sub_self, show l.length * 3 + 1 - l.length * 3 = 1 by omega, show l.length * 3 + 2 - l.length * 3 = 2 by omega]
    exact ⟨rfl, rfl, y, rfl, hy⟩
theorem segEls_nil (w : World) (base : Nat) : SegEls w base [] [] := ⟨rfl, fun _ hj => absurd hj (Nat.not_lt_zero _)⟩
/-- Segments, all of them the call's own. -/
def OwnSegs (w : World) (base : Nat) (v : Value) (l : List Seg) : Prop := ∃ vs, w.ownsRow base 111 3 v l.length vs ∧ SegEls w base vs l
theorem OwnSegs.below {w w' : World} {base N : Nat} {v : Value} {l : List Seg} (h : OwnSegs w base v l) (hb : Below N w w') (hN : w.heap.size ≤ N) : OwnSegs w' base v l := by
  obtain ⟨vs, h1, h2⟩ := h
  exact ⟨vs, own3_below h1 hb hN, h2.below hb hN⟩
theorem OwnSegs.set {w : World} {base k o : Nat} {v : Value} {l : List Seg} (h : OwnSegs w base v l) (hk : k < base) (u : Value) : OwnSegs (w.setCell ⟨k, o, none⟩ u) base v l := by
  obtain ⟨vs, h1, h2, h3⟩ := h
  refine ⟨vs, ownsRow_setCell_below h1 (a := ⟨k, o, none⟩) hk u, h2, fun j hj => ?_⟩
  obtain ⟨g0, g1, y, g2, g3⟩ := h3 j hj
  exact ⟨g0, g1, y, g2, ownsRow_setCell_below g3 (a := ⟨k, o, none⟩) hk u⟩
theorem OwnSegs.segs {w : World} {base : Nat} {v : Value} {l : List Seg} (h : OwnSegs w base v l) (hby : SegsBytes l) : SegsAt w v l := by
  obtain ⟨vs, h1, -, h2⟩ := h
  rcases h1.2 with ⟨hv, hn⟩ | ⟨g, cap, cur, rfl, -, hg, h3, h4, -⟩
  · exact ⟨none, 0, by rw [hv, hn], by omega, Nat.zero_le _, fun _ => rfl, .inl hn⟩
  · refine ⟨_, cap, rfl, h3, h4, (fun e => by cases e), .inr ⟨g, 0, rfl, lt_heap hg, fun j hj => ?_⟩⟩
    obtain ⟨g0, g1, y, g2, g3⟩ := h2 j hj
    rw [Nat.zero_add]
    refine ⟨(h1.cellAt (j * 3) (by omega)).trans g0, (h1.cellAt (j * 3 + 1) (by omega)).trans g1, ?_⟩
    obtain ⟨pa, pc, rfl, q1, q2⟩ := own_cap g3
    exact ⟨pa, pc, (h1.cellAt (j * 3 + 2) (by omega)).trans g2, ⟨bytesAt_own g3, hby j, by omega⟩, q1, q2⟩
/-- Each segment's bytes lie in a later block than those of the one ahead. -/
def RiseV (vs : List Value) (m : Nat) : Prop := ∀ i j, i < j → j < m → ∀ y z g h, vs[i * 3 + 2]? = some y → vs[j * 3 + 2]? = some z → y.ownBlock = some g → z.ownBlock = some h → g < h
theorem riseV_nil : RiseV [] 0 := fun _ _ _ h => absurd h (Nat.not_lt_zero _)
theorem RiseV.snoc {w : World} {base m : Nat} {vs : List Value} {l : List Seg} {a b y : Value} (h : RiseV vs m) (he : SegEls w base vs l) (hm : l.length = m) (hy : ∀ g, y.ownBlock = some g → w.heap.size ≤ g) : RiseV (vs ++ [a, b, y]) (m + 1) := fun i j hij hj u z g q hu hz hg hq => by
  have hl : vs.length = m * 3 := by rw [← hm]; exact he.1
  rw [List.getElem?_append_left (by omega)] at hu
  by_cases e : j < m
  · rw [List.getElem?_append_left (by omega)] at hz
    exact h i j hij e u z g q hu hz hg hq
  · obtain rfl : j = m := by omega
    rw [List.getElem?_append_right (by omega), hl, show j * 3 + 2 - j * 3 = 2 by omega] at hz
    cases hz
    obtain ⟨-, -, x, h1, h2⟩ := he.2 i (by omega)
    rw [hu] at h1
    cases h1
    have := (h2.lt g hg).2
    have := hy q hq
    omega
theorem lit_seg (w : World) (x y : Int) (pv : Value) (t : TypeId) : ∀ (j : Nat) (u : Value), [Value.int .i64 x, .int .i64 y, pv][j]? = some u → (w.alloc (.cells #[.int .i64 x, .int .i64 y, pv] t)).cell? ((⟨w.heap.size, 0, none⟩ : Addr).add j) = some u := fun j u hj => by
  have hadd : (⟨w.heap.size, 0, none⟩ : Addr).add j = ⟨w.heap.size, 0 + j, none⟩ := Addr.add_mid _ _ _
  rw [hadd, Nat.zero_add]
  match j, hj with
  | 0, hj => rw [new_cell w t _ 0 (by simp)]; simpa using hj
  | 1, hj => rw [new_cell w t _ 1 (by simp)]; simpa using hj
  | 2, hj => rw [new_cell w t _ 2 (by simp)]; simpa using hj
  | j + 3, hj => simp at hj
theorem segK_bytes {L : List (List Int)} (hb : ∀ j, Bytes (L.getD j [])) (h : ∀ e ∈ L, e.length ≤ 200) (k : Nat) : Bytes (segK L k).packed := by
  refine pack_bytes ?_ (lay_part h k)
  refine bytes_of_mem (fun x hx => ?_)
  unfold layL at hx
  obtain ⟨e, he, hx⟩ := List.mem_flatMap.1 hx
  have h200 := short_part h k e he
  rcases List.mem_cons.1 hx with rfl | hx
  · omega
  · obtain ⟨j, hj, rfl⟩ := List.mem_iff_getElem.1 (List.mem_of_mem_drop (List.mem_of_mem_take he))
    have := hb j
    rw [List.getD_eq_getElem?_getD, List.getElem?_eq_getElem hj] at this
    exact bytes_forall this x hx
theorem segsL_bytes {L : List (List Int)} (hb : ∀ j, Bytes (L.getD j [])) (h : ∀ e ∈ L, e.length ≤ 200) : SegsBytes (segsL L) := fun j => by
  by_cases hj : j < (L.length + 7) / 8
  · unfold segsL; rw [segsN_get _ _ _ hj]; exact segK_bytes hb h j
  · rw [List.getD_eq_getElem?_getD, List.getElem?_eq_none (by unfold segsL; rw [segsN_length]; omega)]; exact nil_bytes
/-- The text of a part. -/
theorem lay_bytes {l : List (List Int)} (hb : ∀ j, Bytes (l.getD j [])) (h : ∀ j, (l.getD j []).length ≤ 200) : Bytes (layL l) := by
  refine bytes_of_mem (fun x hx => ?_)
  unfold layL at hx
  obtain ⟨e, he, hx⟩ := List.mem_flatMap.1 hx
  obtain ⟨j, hj, rfl⟩ := List.mem_iff_getElem.1 he
  have h1 := hb j
  have h2 := h j
  rw [List.getD_eq_getElem?_getD, List.getElem?_eq_getElem hj] at h1 h2
  rcases List.mem_cons.1 hx with rfl | hx
  · simp at h2; omega
  · exact bytes_forall h1 x hx

end Go.Proofs.YtkjlchfmplcobagGreatDoor

/- A fleet that goes on, in memory: what each block of it is for. Nothing of the program's functions is in it. -/
namespace Go.Proofs.YtkjlchfmplcobagGreatDoor
open Go.RowKit

theorem five_free {w : World} {k : Nat} {a b c d e : Value} {t : TypeId} (h : w.heap[k]? = some (.cells #[a, b, c, d, e] t (0, 0))) : w.frozen? ⟨k, 0, none⟩ = false ∧ w.frozen? ⟨k, 1, none⟩ = false ∧ w.frozen? ⟨k, 2, none⟩ = false ∧ w.frozen? ⟨k, 3, none⟩ = false ∧ w.frozen? ⟨k, 4, none⟩ = false :=
  ⟨frozen_of_row w k 0 _ t h, frozen_of_row w k 1 _ t h, frozen_of_row w k 2 _ t h, frozen_of_row w k 3 _ t h, frozen_of_row w k 4 _ t h⟩
/-- What a block is for. -/
abbrev Tag := Nat × Nat × Nat
def tNo : Tag := (0, 0, 0)
def tFix : Tag := (1, 0, 0)
def tSh : Tag := (2, 0, 0)
def tFl : Tag := (3, 0, 0)
def tBk : Tag := (4, 0, 0)
def tAn : Tag := (5, 0, 0)
def tEnt (k : Nat) : Tag := (6, k, 0)
def tSeg (k : Nat) : Tag := (7, k, 0)
def tPk (k j : Nat) : Tag := (8, k, j)
/-- From n on all blocks are for t. -/
def ext (τ : Nat → Tag) (n : Nat) (t : Tag) : Nat → Tag := fun b => if b < n then τ b else t
theorem ext_old {τ : Nat → Tag} {n b : Nat} {t : Tag} (h : b < n) : ext τ n t b = τ b := if_pos h
theorem ext_new {τ : Nat → Tag} {n b : Nat} {t : Tag} (h : n ≤ b) : ext τ n t b = t := if_neg (by omega)
/-- A value's block is there, and is for t. -/
def Tg (τ : Nat → Tag) (w : World) (t : Tag) (v : Value) : Prop := ∀ b, v.ownBlock = some b → b < w.heap.size ∧ τ b = t
/-- But for one block all is as it was; and what blocks were for stays. -/
structure Upd (τ τ' : Nat → Tag) (w w' : World) (row : Option Nat) : Prop where
  grow : w.grownBy w' row
  same : ∀ b, b < w.heap.size → τ' b = τ b
theorem grown_below {w w' : World} (h : Below w.heap.size w w') : w.grownBy w' none := ⟨h.os, h.tape, h.output, h.size, fun k hk _ => h.block k hk⟩
theorem grown_set (w : World) (k o : Nat) (u : Value) : w.grownBy (w.setCell ⟨k, o, none⟩ u) (some k) := ⟨rfl, rfl, rfl, by simp, fun j _ hj => heap_setCell_other w ⟨k, o, none⟩ j u (fun e => hj (by simp [e]))⟩
theorem Upd.refl (τ : Nat → Tag) (w : World) (row : Option Nat) : Upd τ τ w w row := ⟨World.grownBy.refl _ _, fun _ _ => rfl⟩
theorem upd_call {τ : Nat → Tag} {w w' : World} (h : Below w.heap.size w w') (t : Tag) : Upd τ (ext τ w.heap.size t) w w' none := ⟨grown_below h, fun _ hb => ext_old hb⟩
theorem upd_same {τ : Nat → Tag} {w w' : World} (h : Below w.heap.size w w') : Upd τ τ w w' none := ⟨grown_below h, fun _ _ => rfl⟩
theorem upd_set (τ : Nat → Tag) (w : World) (k o : Nat) (u : Value) : Upd τ τ w (w.setCell ⟨k, o, none⟩ u) (some k) := ⟨grown_set w k o u, fun _ _ => rfl⟩
theorem Tg.upd {τ τ' : Nat → Tag} {w w' : World} {t : Tag} {v : Value} {row : Option Nat} (h : Tg τ w t v) (u : Upd τ τ' w w' row) : Tg τ' w' t v := fun b hb => by
  obtain ⟨h1, h2⟩ := h b hb
  exact ⟨Nat.lt_of_lt_of_le h1 u.grow.size, (u.same b h1).trans h2⟩
theorem Tg.off {τ : Nat → Tag} {w : World} {t : Tag} {v : Value} {row : Option Nat} (h : Tg τ w t v) (hne : ∀ b, row = some b → τ b ≠ t) : v.ownBlock = none ∨ v.ownBlock ≠ row := by
  cases e : v.ownBlock with
  | none => exact .inl rfl
  | some g => exact .inr (fun h' => hne g h'.symm (h g e).2)
theorem tg_nil (τ : Nat → Tag) (w : World) (t : Tag) (n c : Nat) : Tg τ w t (.slice none n c) := fun b hb => by cases hb
theorem Some'.grown {w w' : World} {v : Value} {d : List Int} {row : Option Nat} (h : Some' w v d) (g : w.grownBy w' row) (hne : v.ownBlock = none ∨ v.ownBlock ≠ row) : Some' w' v d := by
  refine ⟨?_, h.bytes, h.short⟩
  rcases h.at' with h1 | ⟨b, off, cp, h1, h2, h3⟩
  · exact .inl h1
  · refine .inr ⟨b, off, cp, h1, Nat.lt_of_lt_of_le h2 g.size, fun j hj => ?_⟩
    rw [World.cell?_of_block (a := ⟨b, off + j, none⟩) (g.block b h2 (by subst h1; simpa [Value.ownBlock] using hne))]
    exact h3 j hj
/-- Bytes that nobody writes any more. -/
structure ByM (τ : Nat → Tag) (w : World) (v : Value) (d : List Int) : Prop where
  here : Some' w v d
  tag : Tg τ w tFix v
theorem ByM.upd {τ τ' : Nat → Tag} {w w' : World} {v : Value} {d : List Int} {row : Option Nat} (h : ByM τ w v d) (u : Upd τ τ' w w' row) (hf : ∀ b, row = some b → τ b ≠ tFix) : ByM τ' w' v d := ⟨h.here.grown u.grow (h.tag.off hf), h.tag.upd u⟩
theorem byM_nil (τ : Nat → Tag) (w : World) : ByM τ w (.slice none 0 0) [] := ⟨some_nil w, tg_nil _ _ _ _ _⟩
theorem own_small {w : World} {base : Nat} {e : TypeId} {size : Nat} {v : Value} {n : Nat} {xs : List Value} (h : w.ownsRow base e size v n xs) : n ≤ maxLen := by
  rcases h.2 with ⟨-, rfl⟩ | ⟨g, cap, cur, -, -, -, h1, h2, -⟩
  · exact Nat.zero_le _
  · exact Nat.le_trans h1 h2
theorem byM_own {τ : Nat → Tag} {w w' : World} {v : Value} {d : List Int} {n : Nat} (h : w'.ownsRow w.heap.size 5 1 v n (d.map (Value.int .u8))) (hb : Bytes d) : ByM (ext τ w.heap.size tFix) w' v d := by
  have hl : d.length = n := by simpa using h.1
  refine ⟨⟨bytesAt_own h, hb, by rw [hl]; exact own_small h⟩, fun b hv => ?_⟩
  obtain ⟨h1, h2⟩ := h.lt b hv
  exact ⟨h2, ext_new h1⟩
/-- A shard's entries. -/
def EntM (τ : Nat → Tag) (N : Nat) (w : World) (k : Nat) (v : Value) (es : List (List Int)) : Prop :=
  Tg τ w (tEnt k) v ∧ ∃ xs, w.ownsRow N 36 1 v es.length xs ∧ ∀ j, j < es.length → ∃ y, xs[j]? = some y ∧ ByM τ w y (es.getD j [])
theorem EntM.upd {τ τ' : Nat → Tag} {N : Nat} {w w' : World} {k : Nat} {v : Value} {es : List (List Int)} {row : Option Nat} (h : EntM τ N w k v es) (u : Upd τ τ' w w' row) (hf : ∀ b, row = some b → τ b ≠ tFix) (he : ∀ b, row = some b → τ b ≠ tEnt k) : EntM τ' N w' k v es := by
  obtain ⟨h1, xs, h2, h3⟩ := h
  refine ⟨h1.upd u, xs, h2.kept u.grow (h1.off he), fun j hj => ?_⟩
  obtain ⟨y, h4, h5⟩ := h3 j hj
  exact ⟨y, h4, h5.upd u hf⟩
theorem entM_nil (τ : Nat → Tag) (N : Nat) (w : World) (k : Nat) : EntM τ N w k (.slice none 0 0) [] := ⟨tg_nil _ _ _ _ _, [], World.ownsRow_nil _ _ _ _, fun _ hj => absurd hj (Nat.not_lt_zero _)⟩
theorem EntM.form {τ : Nat → Tag} {N : Nat} {w : World} {k : Nat} {v : Value} {es : List (List Int)} (h : EntM τ N w k v es) : ∃ a c, v = .slice a es.length c := by
  obtain ⟨-, xs, h2, -⟩ := h
  exact own_form' h2
theorem EntM.lists {τ : Nat → Tag} {N : Nat} {w : World} {k : Nat} {a : Option Addr} {n c : Nat} {es : List (List Int)} (h : EntM τ N w k (.slice a n c) es) (hn : es.length = n) : Lists w a n c es := by
  obtain ⟨-, xs, h2, h3⟩ := h
  rw [hn] at h2 h3
  obtain ⟨a', c', e, hc1, hc2⟩ := own_cap h2
  cases e
  refine ⟨hn, ?_, hc1, hc2, own_nil h2, fun j => ?_, fun j => ?_⟩
  · refine parts_of_row h2 hn (fun j hj => ?_)
    obtain ⟨y, h4, h5⟩ := h3 j hj
    obtain ⟨ya, yc, rfl⟩ := h5.here.at'.form
    exact ⟨ya, _, yc, h4, h5.here.at'⟩
  · by_cases hj : j < n
    · obtain ⟨y, -, h5⟩ := h3 j hj; exact h5.here.bytes
    · rw [List.getD_eq_getElem?_getD, List.getElem?_eq_none (by omega)]; exact nil_bytes
  · by_cases hj : j < n
    · obtain ⟨y, -, h5⟩ := h3 j hj; exact h5.here.short
    · rw [List.getD_eq_getElem?_getD, List.getElem?_eq_none (by omega)]; exact Nat.zero_le _
/-- A segment's bytes. -/
def PkM (τ : Nat → Tag) (N : Nat) (w : World) (k j : Nat) (v : Value) (d : List Int) : Prop := Tg τ w (tPk k j) v ∧ w.ownsRow N 5 1 v d.length (d.map (Value.int .u8)) ∧ Bytes d
/-- A shard's segments. -/
def SegM (τ : Nat → Tag) (N : Nat) (w : World) (k : Nat) (v : Value) (l : List Seg) : Prop :=
  Tg τ w (tSeg k) v ∧ ∃ vs, w.ownsRow N 111 3 v l.length vs ∧ ∀ j, j < l.length → ∃ y, vs[j * 3]? = some (.int .i64 (l.getD j seg0).first) ∧ vs[j * 3 + 1]? = some (.int .i64 (l.getD j seg0).count) ∧ vs[j * 3 + 2]? = some y ∧ PkM τ N w k j y (l.getD j seg0).packed
theorem PkM.upd {τ τ' : Nat → Tag} {N : Nat} {w w' : World} {k j : Nat} {v : Value} {d : List Int} {row : Option Nat} (h : PkM τ N w k j v d) (u : Upd τ τ' w w' row) (hp : ∀ b, row = some b → τ b ≠ tPk k j) : PkM τ' N w' k j v d := ⟨h.1.upd u, h.2.1.kept u.grow (h.1.off hp), h.2.2⟩
theorem SegM.upd {τ τ' : Nat → Tag} {N : Nat} {w w' : World} {k : Nat} {v : Value} {l : List Seg} {row : Option Nat} (h : SegM τ N w k v l) (u : Upd τ τ' w w' row) (hs : ∀ b, row = some b → τ b ≠ tSeg k) (hp : ∀ j b, row = some b → τ b ≠ tPk k j) : SegM τ' N w' k v l := by
  obtain ⟨h1, vs, h2, h3⟩ := h
  refine ⟨h1.upd u, vs, h2.kept u.grow (h1.off hs), fun j hj => ?_⟩
  obtain ⟨y, h4, h5, h6, h7⟩ := h3 j hj
  exact ⟨y, h4, h5, h6, h7.upd u (hp j)⟩
theorem segM_nil (τ : Nat → Tag) (N : Nat) (w : World) (k : Nat) : SegM τ N w k (.slice none 0 0) [] := ⟨tg_nil _ _ _ _ _, [], World.ownsRow_nil _ _ _ _, fun _ hj => absurd hj (Nat.not_lt_zero _)⟩
theorem SegM.segs {τ : Nat → Tag} {N : Nat} {w : World} {k : Nat} {v : Value} {l : List Seg} (h : SegM τ N w k v l) : SegsAt w v l := by
  obtain ⟨-, vs, h1, h2⟩ := h
  rcases h1.2 with ⟨hv, hn⟩ | ⟨g, cap, cur, rfl, -, hg, h3, h4, -⟩
  · exact ⟨none, 0, by rw [hv, hn], by omega, Nat.zero_le _, fun _ => rfl, .inl hn⟩
  · refine ⟨_, cap, rfl, h3, h4, (fun e => by cases e), .inr ⟨g, 0, rfl, lt_heap hg, fun j hj => ?_⟩⟩
    obtain ⟨y, g0, g1, g2, -, g3, g4⟩ := h2 j hj
    rw [Nat.zero_add]
    refine ⟨(h1.cellAt (j * 3) (by omega)).trans g0, (h1.cellAt (j * 3 + 1) (by omega)).trans g1, ?_⟩
    obtain ⟨pa, pc, rfl, q1, q2⟩ := own_cap g3
    exact ⟨pa, pc, (h1.cellAt (j * 3 + 2) (by omega)).trans g2, ⟨bytesAt_own g3, g4, by omega⟩, q1, q2⟩
theorem SegM.form {τ : Nat → Tag} {N : Nat} {w : World} {k : Nat} {v : Value} {l : List Seg} (h : SegM τ N w k v l) : ∃ a c, v = .slice a l.length c := by
  obtain ⟨a, c, e, -⟩ := h.segs
  exact ⟨a, c, e⟩
/-- A shard's cells. -/
abbrev ShV := Value × Value × Value
def shdV (s : Shd) (v : ShV) : List Value := [.int .i64 s.from', .int .i64 s.to', .int .i64 s.state, v.1, .int .i64 s.man.size, v.2.1, v.2.2]
/-- The shards. -/
structure ShM (τ : Nat → Tag) (N : Nat) (w : World) (sv : Value) (ss : List Shd) (V : Nat → ShV) : Prop where
  tag : Tg τ w tSh sv
  row : ∃ vs, w.ownsRow N 53 7 sv ss.length vs ∧ ∀ k, k < ss.length → ∀ i, i < 7 → vs[k * 7 + i]? = (shdV (ss.getD k shd0) (V k))[i]?
  ent : ∀ k, k < ss.length → EntM τ N w k (V k).1 (ss.getD k shd0).entries
  root : ∀ k, k < ss.length → ByM τ w (V k).2.1 (ss.getD k shd0).man.root
  seg : ∀ k, k < ss.length → SegM τ N w k (V k).2.2 (ss.getD k shd0).man.segs
theorem ShM.upd {τ τ' : Nat → Tag} {N : Nat} {w w' : World} {sv : Value} {ss : List Shd} {V : Nat → ShV} {row : Option Nat} (h : ShM τ N w sv ss V) (u : Upd τ τ' w w' row) (hr : ∀ b, row = some b → τ b = tNo ∨ τ b = tFl ∨ τ b = tBk ∨ τ b = tAn) : ShM τ' N w' sv ss V := by
  have ne : ∀ t : Tag, t ≠ tNo → t ≠ tFl → t ≠ tBk → t ≠ tAn → ∀ b, row = some b → τ b ≠ t := fun t h1 h2 h3 h4 b hb e => by
    rcases hr b hb with g | g | g | g
    · exact h1 (e.symm.trans g)
    · exact h2 (e.symm.trans g)
    · exact h3 (e.symm.trans g)
    · exact h4 (e.symm.trans g)
  have n1 := ne tFix (by decide) (by decide) (by decide) (by decide)
  have n2 := ne tSh (by decide) (by decide) (by decide) (by decide)
  have n3 := fun k => ne (tEnt k) (by simp [tEnt, tNo]) (by simp [tEnt, tFl]) (by simp [tEnt, tBk]) (by simp [tEnt, tAn])
  have n4 := fun k => ne (tSeg k) (by simp [tSeg, tNo]) (by simp [tSeg, tFl]) (by simp [tSeg, tBk]) (by simp [tSeg, tAn])
  have n5 := fun k j => ne (tPk k j) (by simp [tPk, tNo]) (by simp [tPk, tFl]) (by simp [tPk, tBk]) (by simp [tPk, tAn])
  obtain ⟨vs, h1, h2⟩ := h.row
  exact ⟨h.tag.upd u, ⟨vs, h1.kept u.grow (h.tag.off n2), h2⟩, fun k hk => (h.ent k hk).upd u n1 (n3 k), fun k hk => (h.root k hk).upd u n1, fun k hk => (h.seg k hk).upd u (n4 k) (n5 k)⟩
theorem ShM.shards {τ : Nat → Tag} {N : Nat} {w : World} {sv : Value} {ss : List Shd} {V : Nat → ShV} (h : ShM τ N w sv ss V) : ShdsAt w sv ss := by
  obtain ⟨vs, h1, h2⟩ := h.row
  rcases h1.2 with ⟨hv, hn⟩ | ⟨g, cap, cur, rfl, -, hg, h3, h4, -⟩
  · exact ⟨none, 0, by rw [hv, hn], by omega, Nat.zero_le _, fun _ => rfl, .inl hn⟩
  · refine ⟨_, cap, rfl, h3, h4, (fun e => by cases e), .inr ⟨g, 0, rfl, lt_heap hg, fun k hk => ?_⟩⟩
    have hc : ∀ i, i < 7 → w.cell? ⟨g, 0 + k * 7 + i, none⟩ = (shdV (ss.getD k shd0) (V k))[i]? := fun i hi => by rw [Nat.zero_add]; exact (h1.cellAt (k * 7 + i) (by omega)).trans (h2 k hk i hi)
    have hE := h.ent k hk
    obtain ⟨ea, ec, e1⟩ := hE.form
    obtain ⟨ra, rc, e2⟩ := (h.root k hk).here.at'.form
    obtain ⟨ga, gc, e3⟩ := (h.seg k hk).form
    rw [e1] at hE
    refine ⟨hc 0 (by omega), hc 1 (by omega), hc 2 (by omega), ⟨ea, ec, ?_, hE.lists rfl⟩, hc 4 (by omega), ⟨ra, rc, ?_, by rw [← e2]; exact (h.root k hk).here⟩, ⟨ga, gc, ?_, by rw [← e3]; exact (h.seg k hk).segs⟩⟩
    · rw [hc 3 (by omega), ← e1]; rfl
    · rw [hc 5 (by omega), ← e2]; rfl
    · rw [hc 6 (by omega), ← e3]; rfl
/-- A record's cells. -/
def recCs (r : Rec) (v : Value) : List Value := [.int .i64 r.shard, .int .i64 r.from', .int .i64 r.to', .int .i64 r.size, v]
/-- The book. -/
def BkM (τ : Nat → Tag) (N : Nat) (w : World) (bv : Value) (l : List Rec) : Prop :=
  Tg τ w tBk bv ∧ ∃ ys, w.ownsRow N 44 5 bv l.length ys ∧ ∀ j, j < l.length → ∃ rv, (∀ i, i < 5 → ys[j * 5 + i]? = (recCs (l.getD j rec0) rv)[i]?) ∧ ByM τ w rv (l.getD j rec0).root
theorem BkM.upd {τ τ' : Nat → Tag} {N : Nat} {w w' : World} {bv : Value} {l : List Rec} {row : Option Nat} (h : BkM τ N w bv l) (u : Upd τ τ' w w' row) (hf : ∀ b, row = some b → τ b ≠ tFix) (hb : ∀ b, row = some b → τ b ≠ tBk) : BkM τ' N w' bv l := by
  obtain ⟨h1, ys, h2, h3⟩ := h
  refine ⟨h1.upd u, ys, h2.kept u.grow (h1.off hb), fun j hj => ?_⟩
  obtain ⟨rv, h4, h5⟩ := h3 j hj
  exact ⟨rv, h4, h5.upd u hf⟩
theorem bkM_nil (τ : Nat → Tag) (N : Nat) (w : World) : BkM τ N w (.slice none 0 0) [] := ⟨tg_nil _ _ _ _ _, [], World.ownsRow_nil _ _ _ _, fun _ hj => absurd hj (Nat.not_lt_zero _)⟩
theorem BkM.recs {τ : Nat → Tag} {N : Nat} {w : World} {bv : Value} {l : List Rec} (h : BkM τ N w bv l) : RecsAt w bv l := by
  obtain ⟨-, ys, h1, h2⟩ := h
  rcases h1.2 with ⟨hv, hn⟩ | ⟨g, cap, cur, rfl, -, hg, h3, h4, -⟩
  · exact ⟨none, 0, by rw [hv, hn], by omega, Nat.zero_le _, fun _ => rfl, .inl hn⟩
  · refine ⟨_, cap, rfl, h3, h4, (fun e => by cases e), .inr ⟨g, 0, rfl, lt_heap hg, fun k hk => ?_⟩⟩
    obtain ⟨rv, h5, h6⟩ := h2 k hk
    have hc : ∀ i, i < 5 → w.cell? ⟨g, 0 + k * 5 + i, none⟩ = (recCs (l.getD k rec0) rv)[i]? := fun i hi => by rw [Nat.zero_add]; exact (h1.cellAt (k * 5 + i) (by omega)).trans (h5 i hi)
    obtain ⟨ra, rc, e2⟩ := h6.here.at'.form
    subst e2
    exact ⟨hc 0 (by omega), hc 1 (by omega), hc 2 (by omega), hc 3 (by omega), ra, rc, hc 4 (by omega), h6.here⟩
/-- The answers. -/
def ansV (x : Ans) (v : Value) : List Value := [.int .i64 x.err, .int .i64 x.shard, .int .i64 x.place, .int .i64 x.size, v]
def AnM (τ : Nat → Tag) (N : Nat) (w : World) (av : Value) (l : List Ans) : Prop :=
  Tg τ w tAn av ∧ ∃ ys, w.ownsRow N 40 5 av l.length ys ∧ ∀ j, j < l.length → ∃ rv, (∀ i, i < 5 → ys[j * 5 + i]? = (ansV (l.getD j ans0) rv)[i]?) ∧ ByM τ w rv (l.getD j ans0).root
theorem AnM.upd {τ τ' : Nat → Tag} {N : Nat} {w w' : World} {bv : Value} {l : List Ans} {row : Option Nat} (h : AnM τ N w bv l) (u : Upd τ τ' w w' row) (hf : ∀ b, row = some b → τ b ≠ tFix) (hb : ∀ b, row = some b → τ b ≠ tAn) : AnM τ' N w' bv l := by
  obtain ⟨h1, ys, h2, h3⟩ := h
  refine ⟨h1.upd u, ys, h2.kept u.grow (h1.off hb), fun j hj => ?_⟩
  obtain ⟨rv, h4, h5⟩ := h3 j hj
  exact ⟨rv, h4, h5.upd u hf⟩
theorem AnM.anss {τ : Nat → Tag} {N : Nat} {w : World} {bv : Value} {l : List Ans} (h : AnM τ N w bv l) : AnssAt w bv l := by
  obtain ⟨-, ys, h1, h2⟩ := h
  rcases h1.2 with ⟨hv, hn⟩ | ⟨g, cap, cur, rfl, -, hg, h3, h4, -⟩
  · exact ⟨none, 0, by rw [hv, hn], by omega, Nat.zero_le _, fun _ => rfl, .inl hn⟩
  · refine ⟨_, cap, rfl, h3, h4, (fun e => by cases e), .inr ⟨g, 0, rfl, lt_heap hg, fun k hk => ?_⟩⟩
    obtain ⟨rv, h5, h6⟩ := h2 k hk
    have hc : ∀ i, i < 5 → w.cell? ⟨g, 0 + k * 5 + i, none⟩ = (ansV (l.getD k ans0) rv)[i]? := fun i hi => by rw [Nat.zero_add]; exact (h1.cellAt (k * 5 + i) (by omega)).trans (h5 i hi)
    obtain ⟨ra, rc, e2⟩ := h6.here.at'.form
    subst e2
    exact ⟨hc 0 (by omega), hc 1 (by omega), hc 2 (by omega), hc 3 (by omega), ra, rc, hc 4 (by omega), h6.here⟩
/-- An answer by itself. -/
def AnV (τ : Nat → Tag) (w : World) (v : Value) (x : Ans) : Prop := ∃ rv, v = .agg #[.int .i64 x.err, .int .i64 x.shard, .int .i64 x.place, .int .i64 x.size, rv] ∧ ByM τ w rv x.root
/-- The fleet. -/
structure GoF (τ : Nat → Tag) (N : Nat) (w : World) (gp : Nat) (f : Flt) : Prop where
  low : N ≤ gp
  tag : τ gp = tFl
  parts : ∃ sv bv V, w.heap[gp]? = some (.cells #[sv, bv] 76 (0, 0)) ∧ ShM τ N w sv f.shards V ∧ BkM τ N w bv f.book
theorem GoF.upd {τ τ' : Nat → Tag} {N : Nat} {w w' : World} {gp : Nat} {f : Flt} {row : Option Nat} (h : GoF τ N w gp f) (u : Upd τ τ' w w' row) (hr : ∀ b, row = some b → τ b = tNo ∨ τ b = tAn) : GoF τ' N w' gp f := by
  obtain ⟨h0, h1, sv, bv, V, h2, h3, h4⟩ := h
  have ne : ∀ t : Tag, t ≠ tNo → t ≠ tAn → ∀ b, row = some b → τ b ≠ t := fun t h1 h4 b hb e => by
    rcases hr b hb with g | g
    · exact h1 (e.symm.trans g)
    · exact h4 (e.symm.trans g)
  have hg : w'.heap[gp]? = w.heap[gp]? := u.grow.block gp (lt_heap h2) (fun e => ne tFl (by decide) (by decide) gp e.symm h1)
  exact ⟨h0, (u.same gp (lt_heap h2)).trans h1, sv, bv, V, hg.trans h2, h3.upd u (fun b hb => (hr b hb).elim .inl (fun h => .inr (.inr (.inr h)))), h4.upd u (ne tFix (by decide) (by decide)) (ne tBk (by decide) (by decide))⟩
/-- What a call leaves as it was. -/
structure Keep (τ τ' : Nat → Tag) (N : Nat) (w w' : World) : Prop where
  low : Below N w w'
  size : w.heap.size ≤ w'.heap.size
  same : ∀ b, b < w.heap.size → τ' b = τ b
  block : ∀ b, b < w.heap.size → (τ b = tFix ∨ τ b = tNo ∨ τ b = tAn) → w'.heap[b]? = w.heap[b]?
theorem keep_upd {τ τ' : Nat → Tag} {N : Nat} {w w' : World} {row : Option Nat} (u : Upd τ τ' w w' row) (hN : N ≤ w.heap.size) (hr : ∀ b, row = some b → N ≤ b ∧ τ b ≠ tFix ∧ τ b ≠ tNo ∧ τ b ≠ tAn) : Keep τ τ' N w w' :=
  ⟨(Below.refl _ _).grown u.grow hN (fun b hb => (hr b hb).1), u.grow.size, u.same, fun b hb ht => u.grow.block b hb (fun e => by
    obtain ⟨-, n1, n2, n3⟩ := hr b e.symm
    rcases ht with h | h | h
    · exact n1 h
    · exact n2 h
    · exact n3 h)⟩
theorem Keep.trans {τ τ1 τ2 : Nat → Tag} {N : Nat} {a b c : World} (h : Keep τ τ1 N a b) (g : Keep τ1 τ2 N b c) : Keep τ τ2 N a c :=
  ⟨h.low.trans g.low, Nat.le_trans h.size g.size, fun k hk => (g.same k (Nat.lt_of_lt_of_le hk h.size)).trans (h.same k hk), fun k hk ht => (g.block k (Nat.lt_of_lt_of_le hk h.size) (by rw [h.same k hk]; exact ht)).trans (h.block k hk ht)⟩
theorem keep_call {τ : Nat → Tag} {N : Nat} {w w' : World} (h : Below w.heap.size w w') (hN : N ≤ w.heap.size) (t : Tag) : Keep τ (ext τ w.heap.size t) N w w' := keep_upd (upd_call h t) hN (fun _ hb => by cases hb)
/-- A new block of the call's own is written. -/
theorem keep_set {τ τ' : Nat → Tag} {N : Nat} {w0 w : World} (h : Keep τ τ' N w0 w) (hN : N ≤ w0.heap.size) {k : Nat} (hk : w0.heap.size ≤ k) (o : Nat) (u : Value) : Keep τ τ' N w0 (w.setCell ⟨k, o, none⟩ u) :=
  ⟨h.low.setCell (Nat.le_trans hN hk) _, by simpa using h.size, h.same, fun b hb ht => by
    rw [heap_setCell_other w ⟨k, o, none⟩ b u (fun e => by have e : b = k := e; omega)]
    exact h.block b hb ht⟩
theorem Keep.byM {τ τ' : Nat → Tag} {N : Nat} {w w' : World} {v : Value} {d : List Int} (h : Keep τ τ' N w w') (hb : ByM τ w v d) : ByM τ' w' v d := by
  refine ⟨⟨?_, hb.here.bytes, hb.here.short⟩, fun b hv => ?_⟩
  · rcases hb.here.at' with h1 | ⟨b, off, cp, h1, h2, h3⟩
    · exact .inl h1
    · refine .inr ⟨b, off, cp, h1, Nat.lt_of_lt_of_le h2 h.size, fun j hj => ?_⟩
      rw [World.cell?_of_block (a := ⟨b, off + j, none⟩) (h.block b h2 (.inl (hb.tag b (by subst h1; rfl)).2))]
      exact h3 j hj
  · obtain ⟨h1, h2⟩ := hb.tag b hv
    exact ⟨Nat.lt_of_lt_of_le h1 h.size, (h.same b h1).trans h2⟩
theorem Keep.anM {τ τ' : Nat → Tag} {N : Nat} {w w' : World} {v : Value} {l : List Ans} (h : Keep τ τ' N w w') (hb : AnM τ N w v l) : AnM τ' N w' v l := by
  obtain ⟨h1, ys, h2, h3⟩ := hb
  refine ⟨fun b hv => ?_, ys, ?_, fun j hj => ?_⟩
  · obtain ⟨g1, g2⟩ := h1 b hv
    exact ⟨Nat.lt_of_lt_of_le g1 h.size, (h.same b g1).trans g2⟩
  · refine ⟨h2.1, ?_⟩
    rcases h2.2 with hn | ⟨g, cap, cur, rfl, hb, hgg, rest⟩
    · exact .inl hn
    · exact .inr ⟨g, cap, cur, rfl, hb, (h.block g (lt_heap hgg) (.inr (.inr (h1 g rfl).2))).trans hgg, rest⟩
  · obtain ⟨rv, h4, h5⟩ := h3 j hj
    exact ⟨rv, h4, h.byM h5⟩
theorem Keep.box {τ τ' : Nat → Tag} {N : Nat} {w w' : World} {k : Nat} {x : Obj} (h : Keep τ τ' N w w') (ht : τ k = tNo) (hk : w.heap[k]? = some x) : w'.heap[k]? = some x := (h.block k (lt_heap hk) (.inr (.inl ht))).trans hk

end Go.Proofs.YtkjlchfmplcobagGreatDoor

/- A fleet that goes on, in memory: how it is changed. Nothing of the program's functions is in it. -/
namespace Go.Proofs.YtkjlchfmplcobagGreatDoor
open Go.RowKit

theorem shdV_length (s : Shd) (v : ShV) : (shdV s v).length = 7 := rfl
/-- The shards but for what the one of number k leads to. -/
structure ShO (τ : Nat → Tag) (N : Nat) (w : World) (sv : Value) (ss : List Shd) (V : Nat → ShV) (k : Nat) : Prop where
  tag : Tg τ w tSh sv
  row : ∃ vs, w.ownsRow N 53 7 sv ss.length vs ∧ ∀ k, k < ss.length → ∀ i, i < 7 → vs[k * 7 + i]? = (shdV (ss.getD k shd0) (V k))[i]?
  ent : ∀ j, j < ss.length → j ≠ k → EntM τ N w j (V j).1 (ss.getD j shd0).entries
  root : ∀ j, j < ss.length → j ≠ k → ByM τ w (V j).2.1 (ss.getD j shd0).man.root
  seg : ∀ j, j < ss.length → j ≠ k → SegM τ N w j (V j).2.2 (ss.getD j shd0).man.segs
theorem ShM.out {τ : Nat → Tag} {N : Nat} {w : World} {sv : Value} {ss : List Shd} {V : Nat → ShV} (h : ShM τ N w sv ss V) (k : Nat) : ShO τ N w sv ss V k := ⟨h.tag, h.row, fun j hj _ => h.ent j hj, fun j hj _ => h.root j hj, fun j hj _ => h.seg j hj⟩
theorem ShO.back {τ : Nat → Tag} {N : Nat} {w : World} {sv : Value} {ss : List Shd} {V : Nat → ShV} {k : Nat} (h : ShO τ N w sv ss V k) (h1 : EntM τ N w k (V k).1 (ss.getD k shd0).entries) (h2 : ByM τ w (V k).2.1 (ss.getD k shd0).man.root) (h3 : SegM τ N w k (V k).2.2 (ss.getD k shd0).man.segs) : ShM τ N w sv ss V := by
  refine ⟨h.tag, h.row, fun j hj => ?_, fun j hj => ?_, fun j hj => ?_⟩
  · by_cases e : j = k
    · subst e; exact h1
    · exact h.ent j hj e
  · by_cases e : j = k
    · subst e; exact h2
    · exact h.root j hj e
  · by_cases e : j = k
    · subst e; exact h3
    · exact h.seg j hj e
/-- What may be written while the shard k is turned. -/
def mine (k : Nat) (t : Tag) : Prop := t = tNo ∨ t = tFl ∨ t = tBk ∨ t = tAn ∨ t = tEnt k ∨ t = tSeg k ∨ ∃ j, t = tPk k j
theorem mine_fix {k : Nat} {t : Tag} (h : mine k t) : t ≠ tFix ∧ t ≠ tSh := by
  rcases h with rfl | rfl | rfl | rfl | rfl | rfl | ⟨j, rfl⟩ <;> simp [tNo, tFl, tBk, tAn, tEnt, tSeg, tPk, tFix, tSh]
theorem mine_other {k j : Nat} {t : Tag} (h : mine k t) (hj : j ≠ k) : t ≠ tEnt j ∧ t ≠ tSeg j ∧ ∀ i, t ≠ tPk j i := by
  rcases h with rfl | rfl | rfl | rfl | rfl | rfl | ⟨q, rfl⟩ <;> simp [tNo, tFl, tBk, tAn, tEnt, tSeg, tPk] <;> omega
theorem ShO.upd {τ τ' : Nat → Tag} {N : Nat} {w w' : World} {sv : Value} {ss : List Shd} {V : Nat → ShV} {k : Nat} {row : Option Nat} (h : ShO τ N w sv ss V k) (u : Upd τ τ' w w' row) (hr : ∀ b, row = some b → mine k (τ b)) : ShO τ' N w' sv ss V k := by
  obtain ⟨vs, h1, h2⟩ := h.row
  have n1 : ∀ b, row = some b → τ b ≠ tFix := fun b hb => (mine_fix (hr b hb)).1
  exact ⟨h.tag.upd u, ⟨vs, h1.kept u.grow (h.tag.off (fun b hb => (mine_fix (hr b hb)).2)), h2⟩, fun j hj hk => (h.ent j hj hk).upd u n1 (fun b hb => (mine_other (hr b hb) hk).1), fun j hj hk => (h.root j hj hk).upd u n1, fun j hj hk => (h.seg j hj hk).upd u (fun b hb => (mine_other (hr b hb) hk).2.1) (fun i b hb => (mine_other (hr b hb) hk).2.2 i)⟩
/-- Where a shard's cells lie. -/
theorem ShO.cells {τ : Nat → Tag} {N : Nat} {w : World} {sa : Option Addr} {n c k : Nat} {ss : List Shd} {V : Nat → ShV} (h : ShO τ N w (.slice sa n c) ss V k) (hn : ss.length = n) (hk : k < n) :
    ∃ sb, sa = some ⟨sb, 0, none⟩ ∧ N ≤ sb ∧ sb < w.heap.size ∧ τ sb = tSh ∧ (∀ i, w.frozen? ⟨sb, i, none⟩ = false) ∧ ∀ i, i < 7 → w.cell? ⟨sb, k * 7 + i, none⟩ = (shdV (ss.getD k shd0) (V k))[i]? := by
  obtain ⟨vs, h1, h2⟩ := h.row
  rw [hn] at h1 h2
  rcases h1.2 with ⟨-, h0⟩ | ⟨g, cap, cur, e, hb, hg, -⟩
  · omega
  · simp only [Value.slice.injEq, true_and] at e
    obtain ⟨rfl, rfl⟩ := e
    obtain ⟨t1, t2⟩ := h.tag g rfl
    exact ⟨g, rfl, hb, t1, t2, fun i => h1.frozenAt i, fun i hi => (h1.cellAt (k * 7 + i) (by omega)).trans (h2 k hk i hi)⟩
/-- One of its cells is written. -/
theorem ShO.store {τ : Nat → Tag} {N : Nat} {w : World} {sb n c k i : Nat} {ss : List Shd} {V : Nat → ShV} {s' : Shd} {v' : ShV} {u : Value} (h : ShO τ N w (.slice (some ⟨sb, 0, none⟩) n c) ss V k) (hn : ss.length = n) (hk : k < n) (hi : i < 7) (hs : shdV s' v' = (shdV (ss.getD k shd0) (V k)).set i u) :
    ShO τ N (w.setCell ⟨sb, k * 7 + i, none⟩ u) (.slice (some ⟨sb, 0, none⟩) n c) (ss.set k s') (fun j => if j = k then v' else V j) k := by
  obtain ⟨vs, h1, h2⟩ := h.row
  have ht := (h.tag sb rfl).2
  have U := upd_set τ w sb (k * 7 + i) u
  have ne : ∀ t : Tag, t ≠ tSh → ∀ b, some sb = some b → τ b ≠ t := fun t h1 b hb e => by cases hb; exact h1 (e.symm.trans ht)
  have hlen : (ss.set k s').length = ss.length := List.length_set
  rw [hn] at h1 h2
  obtain ⟨h3, -⟩ := h1.stored (k * 7 + i) u
  refine ⟨h.tag.upd U, ⟨vs.set (k * 7 + i) u, by rw [hlen, hn]; exact h3, fun j hj q hq => ?_⟩, fun j hj hjk => ?_, fun j hj hjk => ?_, fun j hj hjk => ?_⟩
  · rw [hlen, hn] at hj
    by_cases e : j = k
    · subst e
      rw [if_pos rfl, getD_set_same (by omega), hs]
      by_cases e2 : q = i
      · subst e2
        rw [List.getElem?_set_self (by rw [h1.1]; omega), List.getElem?_set_self (by rw [shdV_length]; exact hi)]
      · rw [List.getElem?_set_ne (by omega), List.getElem?_set_ne (by omega)]
        exact h2 j hj q hq
    · rw [if_neg e, getD_set_other (fun h => e h.symm), List.getElem?_set_ne (by omega)]
      exact h2 j hj q hq
  · rw [hlen] at hj
    rw [if_neg hjk, getD_set_other (fun h => hjk h.symm)]
    exact (h.ent j hj hjk).upd U (ne _ (by decide)) (ne _ (by simp [tEnt, tSh]))
  · rw [hlen] at hj
    rw [if_neg hjk, getD_set_other (fun h => hjk h.symm)]
    exact (h.root j hj hjk).upd U (ne _ (by decide))
  · rw [hlen] at hj
    rw [if_neg hjk, getD_set_other (fun h => hjk h.symm)]
    exact (h.seg j hj hjk).upd U (ne _ (by simp [tSeg, tSh])) (fun q => ne _ (by simp [tPk, tSh]))
theorem set_set {α : Type} (l : List α) (k : Nat) (x y : α) : (l.set k x).set k y = l.set k y := List.set_set ..
/-- A list of values, m for each of a list's elements, one element more. -/
theorem rows_snoc {α : Type} {m : Nat} {l : List α} {x d : α} {ys news : List Value} {F : Nat → α → Value → List Value} {R : α → Value → Prop} {v : Value} (hl : ys.length = l.length * m) (h : ∀ j, j < l.length → ∃ rv, (∀ i, i < m → ys[j * m + i]? = (F j (l.getD j d) rv)[i]?) ∧ R (l.getD j d) rv) (hn : ∀ i, i < m → news[i]? = (F l.length x v)[i]?) (hR : R x v) :
    ∀ j, j < (l ++ [x]).length → ∃ rv, (∀ i, i < m → (ys ++ news)[j * m + i]? = (F j ((l ++ [x]).getD j d) rv)[i]?) ∧ R ((l ++ [x]).getD j d) rv := fun j hj => by
  by_cases e : j < l.length
  · obtain ⟨rv, h1, h2⟩ := h j e
    have eg : (l ++ [x]).getD j d = l.getD j d := by rw [snoc_get, if_pos e]
    rw [eg]
    refine ⟨rv, fun i hi => ?_, h2⟩
    have hlt : j * m + i < ys.length := by
      rw [hl]
      have : (j + 1) * m ≤ l.length * m := Nat.mul_le_mul_right m e
      rw [Nat.add_mul, Nat.one_mul] at this
      omega
    rw [List.getElem?_append_left hlt]
    exact h1 i hi
  · obtain rfl : j = l.length := by simp at hj; omega
    have eg : (l ++ [x]).getD l.length d = x := by rw [snoc_get, if_neg (Nat.lt_irrefl _), if_pos rfl]
    rw [eg]
    refine ⟨v, fun i hi => ?_, hR⟩
    rw [List.getElem?_append_right (by rw [hl]; omega), hl, show l.length * m + i - l.length * m = i by omega]
    exact hn i hi
/-- A block to which a row has grown is for what it was for, or is new. -/
theorem grown_tag {τ : Nat → Tag} {w w' : World} {t : Tag} {v : Value} {g n cap : Nat} (h : Tg τ w t v) (hg : v.ownBlock = some g ∨ g = w.heap.size) (hlt : g < w'.heap.size) : Tg (ext τ w.heap.size t) w' t (.slice (some ⟨g, 0, none⟩) n cap) := fun b hb => by
  cases hb
  refine ⟨hlt, ?_⟩
  rcases hg with hg | rfl
  · obtain ⟨h1, h2⟩ := h g hg
    rw [ext_old h1]; exact h2
  · exact ext_new (Nat.le_refl _)
/-- The entries have grown by one. -/
theorem EntM.snoc {τ : Nat → Tag} {N k : Nat} {w w' : World} {v y : Value} {es : List (List Int)} {e : List Int} {g cap : Nat} {xs : List Value} (hT : Tg τ w (tEnt k) v) (hx : ∀ j, j < es.length → ∃ y, xs[j]? = some y ∧ ByM τ w y (es.getD j [])) (hl : xs.length = es.length)
    (ho : w'.ownsRow N 36 1 (.slice (some ⟨g, 0, none⟩) (es.length + 1) cap) (es.length + 1) (xs ++ [y])) (hg : w.grownBy w' v.ownBlock) (ha : v.ownBlock = some g ∨ g = w.heap.size) (hlt : g < w'.heap.size) (hy : ByM τ w y e) :
    EntM (ext τ w.heap.size (tEnt k)) N w' k (.slice (some ⟨g, 0, none⟩) (es.length + 1) cap) (es ++ [e]) := by
  have U : Upd τ (ext τ w.heap.size (tEnt k)) w w' v.ownBlock := ⟨hg, fun _ hb => ext_old hb⟩
  have nf : ∀ b, v.ownBlock = some b → τ b ≠ tFix := fun b hb e => by have := (hT b hb).2; rw [e] at this; simp [tFix, tEnt] at this
  refine ⟨grown_tag hT ha hlt, xs ++ [y], by rw [List.length_append]; exact ho, fun j hj => ?_⟩
  by_cases q : j < es.length
  · obtain ⟨z, h1, h2⟩ := hx j q
    refine ⟨z, by rw [List.getElem?_append_left (by omega)]; exact h1, ?_⟩
    rw [snoc_get, if_pos q]
    exact h2.upd U nf
  · obtain rfl : j = es.length := by simp at hj; omega
    refine ⟨y, by rw [List.getElem?_append_right (by omega), hl, Nat.sub_self]; rfl, ?_⟩
    rw [snoc_get, if_neg (Nat.lt_irrefl _), if_pos rfl]
    exact hy.upd U nf
/-- So has the book. -/
theorem BkM.snoc {τ : Nat → Tag} {N : Nat} {w w' : World} {v rv : Value} {l : List Rec} {r : Rec} {g cap : Nat} {ys : List Value} (hT : Tg τ w tBk v) (hl : ys.length = l.length * 5) (hx : ∀ j, j < l.length → ∃ rv, (∀ i, i < 5 → ys[j * 5 + i]? = (recCs (l.getD j rec0) rv)[i]?) ∧ ByM τ w rv (l.getD j rec0).root)
    (ho : w'.ownsRow N 44 5 (.slice (some ⟨g, 0, none⟩) (l.length + 1) cap) (l.length + 1) (ys ++ recCs r rv)) (hg : w.grownBy w' v.ownBlock) (ha : v.ownBlock = some g ∨ g = w.heap.size) (hlt : g < w'.heap.size) (hy : ByM τ w rv r.root) :
    BkM (ext τ w.heap.size tBk) N w' (.slice (some ⟨g, 0, none⟩) (l.length + 1) cap) (l ++ [r]) := by
  have U : Upd τ (ext τ w.heap.size tBk) w w' v.ownBlock := ⟨hg, fun _ hb => ext_old hb⟩
  have nf : ∀ b, v.ownBlock = some b → τ b ≠ tFix := fun b hb e => by have := (hT b hb).2; rw [e] at this; simp [tFix, tBk] at this
  refine ⟨grown_tag hT ha hlt, ys ++ recCs r rv, by rw [List.length_append]; exact ho, ?_⟩
  exact rows_snoc (F := fun _ x v => recCs x v) (R := fun x v => ByM (ext τ w.heap.size tBk) w' v x.root) hl (fun j hj => by obtain ⟨q, h1, h2⟩ := hx j hj; exact ⟨q, h1, h2.upd U nf⟩) (fun i hi => rfl) (hy.upd U nf)
/-- And the answers. -/
theorem AnM.snoc {τ : Nat → Tag} {N : Nat} {w w' : World} {v rv : Value} {l : List Ans} {r : Ans} {g cap : Nat} {ys : List Value} (hT : Tg τ w tAn v) (hl : ys.length = l.length * 5) (hx : ∀ j, j < l.length → ∃ rv, (∀ i, i < 5 → ys[j * 5 + i]? = (ansV (l.getD j ans0) rv)[i]?) ∧ ByM τ w rv (l.getD j ans0).root)
    (ho : w'.ownsRow N 40 5 (.slice (some ⟨g, 0, none⟩) (l.length + 1) cap) (l.length + 1) (ys ++ ansV r rv)) (hg : w.grownBy w' v.ownBlock) (ha : v.ownBlock = some g ∨ g = w.heap.size) (hlt : g < w'.heap.size) (hy : ByM τ w rv r.root) :
    AnM (ext τ w.heap.size tAn) N w' (.slice (some ⟨g, 0, none⟩) (l.length + 1) cap) (l ++ [r]) := by
  have U : Upd τ (ext τ w.heap.size tAn) w w' v.ownBlock := ⟨hg, fun _ hb => ext_old hb⟩
  have nf : ∀ b, v.ownBlock = some b → τ b ≠ tFix := fun b hb e => by have := (hT b hb).2; rw [e] at this; simp [tFix, tAn] at this
  refine ⟨grown_tag hT ha hlt, ys ++ ansV r rv, by rw [List.length_append]; exact ho, ?_⟩
  exact rows_snoc (F := fun _ x v => ansV x v) (R := fun x v => ByM (ext τ w.heap.size tAn) w' v x.root) hl (fun j hj => by obtain ⟨q, h1, h2⟩ := hx j hj; exact ⟨q, h1, h2.upd U nf⟩) (fun i hi => rfl) (hy.upd U nf)

/-- The fleet but for its shards. -/
structure GoB (τ : Nat → Tag) (N : Nat) (w : World) (gp : Nat) (sv bv : Value) (l : List Rec) : Prop where
  low : N ≤ gp
  tag : τ gp = tFl
  box : w.heap[gp]? = some (.cells #[sv, bv] 76 (0, 0))
  bk : BkM τ N w bv l
theorem GoB.upd {τ τ' : Nat → Tag} {N : Nat} {w w' : World} {gp : Nat} {sv bv : Value} {l : List Rec} {row : Option Nat} (h : GoB τ N w gp sv bv l) (u : Upd τ τ' w w' row) (hr : ∀ b, row = some b → τ b ≠ tFl ∧ τ b ≠ tBk ∧ τ b ≠ tFix) : GoB τ' N w' gp sv bv l :=
  ⟨h.low, (u.same gp (lt_heap h.box)).trans h.tag, (u.grow.block gp (lt_heap h.box) (fun e => (hr gp e.symm).1 h.tag)).trans h.box, h.bk.upd u (fun b hb => (hr b hb).2.2) (fun b hb => (hr b hb).2.1)⟩
theorem GoB.goF {τ : Nat → Tag} {N : Nat} {w : World} {gp : Nat} {sv bv : Value} {l : List Rec} {ss : List Shd} {V : Nat → ShV} (h : GoB τ N w gp sv bv l) (hS : ShM τ N w sv ss V) : GoF τ N w gp ⟨ss, l⟩ := ⟨h.low, h.tag, sv, bv, V, h.box, hS, h.bk⟩
theorem GoF.open {τ : Nat → Tag} {N : Nat} {w : World} {gp : Nat} {f : Flt} (h : GoF τ N w gp f) : ∃ sa sc ba bc V, GoB τ N w gp (.slice sa f.shards.length sc) (.slice ba f.book.length bc) f.book ∧ ShM τ N w (.slice sa f.shards.length sc) f.shards V := by
  obtain ⟨h0, h1, sv, bv, V, h2, h3, h4⟩ := h
  obtain ⟨sa, sc, e1, -⟩ := h3.shards
  obtain ⟨ba, bc, e2, -⟩ := h4.recs
  subst e1
  subst e2
  exact ⟨sa, sc, ba, bc, V, ⟨h0, h1, h2, h4⟩, h3⟩
theorem no_row {P : Nat → Prop} : ∀ b, (none : Option Nat) = some b → P b := fun _ hb => by cases hb
/-- A call that only makes memory has ended, and an answer is written into a variable of the caller's own. -/
theorem GoF.five {τ : Nat → Tag} {N : Nat} {w : World} {gp R : Nat} {f : Flt} (h : GoF τ N w gp f) (hR : τ R = tNo) (u0 u1 u2 u3 u4 : Value) : GoF τ N (((((w.setCell ⟨R, 0, none⟩ u0).setCell ⟨R, 1, none⟩ u1).setCell ⟨R, 2, none⟩ u2).setCell ⟨R, 3, none⟩ u3).setCell ⟨R, 4, none⟩ u4) gp f := by
  have hr : ∀ b, some R = some b → τ b = tNo ∨ τ b = tAn := fun b hb => by cases hb; exact .inl hR
  exact ((((h.upd (upd_set τ _ R 0 u0) hr).upd (upd_set τ _ R 1 u1) hr).upd (upd_set τ _ R 2 u2) hr).upd (upd_set τ _ R 3 u3) hr).upd (upd_set τ _ R 4 u4) hr
theorem ByM.five {τ : Nat → Tag} {w : World} {R : Nat} {v : Value} {d : List Int} (h : ByM τ w v d) (hR : τ R = tNo) (u0 u1 u2 u3 u4 : Value) : ByM τ (((((w.setCell ⟨R, 0, none⟩ u0).setCell ⟨R, 1, none⟩ u1).setCell ⟨R, 2, none⟩ u2).setCell ⟨R, 3, none⟩ u3).setCell ⟨R, 4, none⟩ u4) v d := by
  have hr : ∀ b, some R = some b → τ b ≠ tFix := fun b hb => by cases hb; rw [hR]; decide
  exact ((((h.upd (upd_set τ _ R 0 u0) hr).upd (upd_set τ _ R 1 u1) hr).upd (upd_set τ _ R 2 u2) hr).upd (upd_set τ _ R 3 u3) hr).upd (upd_set τ _ R 4 u4) hr
theorem Keep.five {τ τ' : Nat → Tag} {N R : Nat} {w0 w : World} (h : Keep τ τ' N w0 w) (hN : N ≤ w0.heap.size) (hR : w0.heap.size ≤ R) (u0 u1 u2 u3 u4 : Value) : Keep τ τ' N w0 (((((w.setCell ⟨R, 0, none⟩ u0).setCell ⟨R, 1, none⟩ u1).setCell ⟨R, 2, none⟩ u2).setCell ⟨R, 3, none⟩ u3).setCell ⟨R, 4, none⟩ u4) :=
  keep_set (keep_set (keep_set (keep_set (keep_set h hN hR 0 u0) hN hR 1 u1) hN hR 2 u2) hN hR 3 u3) hN hR 4 u4
/-- What a step leaves: an answer, and the fleet. -/
def Went (τ : Nat → Tag) (N gp : Nat) (w w' : World) (av : Value) (fa : Flt × Ans) : Prop := ∃ τ', AnV τ' w' av fa.2 ∧ GoF τ' N w' gp fa.1 ∧ Keep τ τ' N w w'
/-- Nothing was done. -/
theorem went_no {τ : Nat → Tag} {N gp R : Nat} {w w1 : World} {f : Flt} {x : Ans} (h : GoF τ N w gp f) (hN : N ≤ w.heap.size) (hb : Below w.heap.size w w1) (hR : w.heap.size ≤ R) (hx : x.root = []) (u0 u1 u2 u3 u4 : Value) :
    Went τ N gp w (((((w1.setCell ⟨R, 0, none⟩ u0).setCell ⟨R, 1, none⟩ u1).setCell ⟨R, 2, none⟩ u2).setCell ⟨R, 3, none⟩ u3).setCell ⟨R, 4, none⟩ u4) (.agg #[.int .i64 x.err, .int .i64 x.shard, .int .i64 x.place, .int .i64 x.size, .slice none 0 0]) (f, x) :=
  ⟨ext τ w.heap.size tNo, ⟨_, rfl, by rw [hx]; exact byM_nil _ _⟩, (h.upd (upd_call hb tNo) no_row).five (ext_new hR) _ _ _ _ _, (keep_call hb hN tNo).five hN hR _ _ _ _ _⟩

/-- A shard's cell is written that leads nowhere, or to what is there. -/
theorem ShM.turn {τ : Nat → Tag} {N sb n c k i : Nat} {w : World} {ss : List Shd} {V : Nat → ShV} {s' : Shd} {v' : ShV} {u : Value} (h : ShM τ N w (.slice (some ⟨sb, 0, none⟩) n c) ss V) (hn : ss.length = n) (hk : k < n) (hi : i < 7) (hs : shdV s' v' = (shdV (ss.getD k shd0) (V k)).set i u) (h1 : EntM τ N w k v'.1 s'.entries) (h2 : ByM τ w v'.2.1 s'.man.root) (h3 : SegM τ N w k v'.2.2 s'.man.segs) :
    ShM τ N (w.setCell ⟨sb, k * 7 + i, none⟩ u) (.slice (some ⟨sb, 0, none⟩) n c) (ss.set k s') (fun j => if j = k then v' else V j) := by
  have ht := (h.tag sb rfl).2
  have U := upd_set τ w sb (k * 7 + i) u
  have ne : ∀ t : Tag, t ≠ tSh → ∀ b, some sb = some b → τ b ≠ t := fun t h1 b hb e => by cases hb; exact h1 (e.symm.trans ht)
  refine ((h.out k).store (i := i) (u := u) (s' := s') (v' := v') hn hk hi hs).back ?_ ?_ ?_
  · rw [if_pos rfl, getD_set_same (by omega)]; exact h1.upd U (ne _ (by decide)) (ne _ (by simp [tEnt, tSh]))
  · rw [if_pos rfl, getD_set_same (by omega)]; exact h2.upd U (ne _ (by decide))
  · rw [if_pos rfl, getD_set_same (by omega)]; exact h3.upd U (ne _ (by simp [tSeg, tSh])) (fun j => ne _ (by simp [tPk, tSh]))
theorem GoB.turn {τ : Nat → Tag} {N gp sb o : Nat} {w : World} {sv bv u : Value} {l : List Rec} (h : GoB τ N w gp sv bv l) (ht : τ sb = tSh) : GoB τ N (w.setCell ⟨sb, o, none⟩ u) gp sv bv l := h.upd (upd_set τ w sb o u) (fun b hb => by cases hb; rw [ht]; decide)
theorem keep_turn {τ : Nat → Tag} {N sb o : Nat} {w : World} {u : Value} (hN : N ≤ w.heap.size) (hs : N ≤ sb) (ht : τ sb = tSh) : Keep τ τ N w (w.setCell ⟨sb, o, none⟩ u) := keep_upd (upd_set τ w sb o u) hN (fun b hb => by cases hb; rw [ht]; exact ⟨hs, by decide⟩)
/-- A shard's answer is told, its head copied. -/
theorem went_head {τ τ' : Nat → Tag} {N gp R : Nat} {w W w8 : World} {f' : Flt} {k n : Int} {d : List Int} {ta : Option Addr} {tc : Nat} (hF : GoF τ' N W gp f') (hK : Keep τ τ' N w W) (hN : N ≤ w.heap.size) (hR : τ' R = tNo) (hRl : R < W.heap.size) (hRw : w.heap.size ≤ R) (hb8 : Below W.heap.size W w8) (ho8 : w8.ownsRow W.heap.size 5 1 (.slice ta d.length tc) d.length (d.map (Value.int .u8))) (hd : Bytes d) (u0 u1 u2 u3 u4 : Value) :
    Went τ N gp w (((((w8.setCell ⟨R, 0, none⟩ u0).setCell ⟨R, 1, none⟩ u1).setCell ⟨R, 2, none⟩ u2).setCell ⟨R, 3, none⟩ u3).setCell ⟨R, 4, none⟩ u4) (.agg #[.int .i64 0, .int .i64 k, .int .i64 0, .int .i64 n, .slice ta d.length tc]) (f', ⟨0, k, 0, n, d⟩) := by
  have hN7 : N ≤ W.heap.size := Nat.le_trans hN hK.size
  have hr8 : ext τ' W.heap.size tFix R = tNo := (ext_old hRl).trans hR
  exact ⟨ext τ' W.heap.size tFix, ⟨_, rfl, (byM_own ho8 hd).five hr8 _ _ _ _ _⟩, (hF.upd (upd_call hb8 tFix) no_row).five hr8 _ _ _ _ _, (hK.trans (keep_call hb8 hN7 tFix)).five hN hRw _ _ _ _ _⟩

end Go.Proofs.YtkjlchfmplcobagGreatDoor
