/- ShelfFace, ByteOpen, ShelfOpen, as one text. -/
import Derived.Test.YtbkkfchcdfhfgadDoorProg
import Derived.Test.YtbkkfchcdfhfgadDoorRunAG
import Derived.Test.YtbkkfchcdfhfgadDoorRunAH
import Derived.Test.YtbkkfchcdfhfgadDoorRunAB
import Derived.WalkKit
import Derived.ProofKit
import Derived.OpenShut
import Derived.Stop.Joined
import Derived.ShutString
import Derived.ChangeOld
import Derived.SizedLaws
import Derived.Lib.SmallJoins
import Derived.Deep.Strs
/- What the laws of chapter 5 ask of package shelf's faces, as propositions: each is shown of the landed code elsewhere. Manifests in memory. -/
namespace Go.Proofs.YtbkkfchcdfhfgadDoor
open Go.RowKit

/-- A segment's bytes as the walks meet them. -/
def PackedAt (w : World) (b o : Nat) (d : List Int) : Prop := ∃ pa pc, w.cell? ⟨b, o, none⟩ = some (.slice pa d.length pc) ∧ Some' w (.slice pa d.length pc) d ∧ d.length ≤ pc ∧ pc ≤ maxLen
/-- Segments as the walks meet them. -/
def SegsAt (w : World) (v : Value) (l : List Seg) : Prop :=
  ∃ a c, v = .slice a l.length c ∧ l.length ≤ c ∧ c ≤ maxLen ∧ (a = none → c = 0) ∧ (l.length = 0 ∨ ∃ b off, a = some ⟨b, off, none⟩ ∧ b < w.heap.size ∧
    ∀ j, j < l.length → w.cell? ⟨b, off + j * 3, none⟩ = some (.int .i64 (l.getD j seg0).first) ∧ w.cell? ⟨b, off + j * 3 + 1, none⟩ = some (.int .i64 (l.getD j seg0).count) ∧ PackedAt w b (off + j * 3 + 2) (l.getD j seg0).packed)
theorem PackedAt.below {w w' : World} {b o : Nat} {d : List Int} (h : PackedAt w b o d) (hb : b < w.heap.size) (hw : Below w.heap.size w w') : PackedAt w' b o d := by
  obtain ⟨pa, pc, h1, h2, h3⟩ := h
  exact ⟨pa, pc, by rw [hw.cell (p := ⟨b, o, none⟩) hb]; exact h1, h2.below hw, h3⟩
theorem SegsAt.below {w w' : World} {v : Value} {l : List Seg} (h : SegsAt w v l) (hw : Below w.heap.size w w') : SegsAt w' v l := by
  obtain ⟨a, c, h1, h2, h3, h4, h5⟩ := h
  refine ⟨a, c, h1, h2, h3, h4, ?_⟩
  rcases h5 with h5 | ⟨b, off, h6, h7, h8⟩
  · exact .inl h5
  · refine .inr ⟨b, off, h6, Nat.lt_of_lt_of_le h7 hw.size, fun j hj => ?_⟩
    obtain ⟨c0, c1, c2⟩ := h8 j hj
    exact ⟨by rw [hw.cell (p := ⟨b, off + j * 3, none⟩) h7]; exact c0, by rw [hw.cell (p := ⟨b, off + j * 3 + 1, none⟩) h7]; exact c1, c2.below h7 hw⟩
theorem segsAt_nil (w : World) : SegsAt w (.slice none 0 0) [] := ⟨none, 0, rfl, Nat.le_refl _, Nat.zero_le _, fun _ => rfl, .inl rfl⟩
/-- A manifest as the walks meet it. -/
def ManAt (w : World) (v : Value) (m : Man) : Prop := ∃ rv sv, v = .agg #[.int .i64 m.size, rv, sv] ∧ Some' w rv m.root ∧ SegsAt w sv m.segs
theorem ManAt.below {w w' : World} {v : Value} {m : Man} (h : ManAt w v m) (hw : Below w.heap.size w w') : ManAt w' v m := by
  obtain ⟨rv, sv, h1, h2, h3⟩ := h
  exact ⟨rv, sv, h1, h2.below hw, h3.below hw⟩
theorem some_nil (w : World) : Some' w (.slice none 0 0) [] := ⟨bytesAt_nil w, nil_bytes, Nat.zero_le _⟩
theorem man0_at (w : World) : ManAt w (.agg #[.int .i64 0, .slice none 0 0, .slice none 0 0]) man0 := ⟨_, _, rfl, some_nil w, segsAt_nil w⟩
theorem lists_nil (w : World) : Lists w none 0 0 [] := ⟨rfl, .inl ⟨rfl, none, 0, rfl⟩, Nat.le_refl _, Nat.zero_le _, fun _ => ⟨rfl, rfl⟩, fun j => by simp; exact nil_bytes, fun j => by simp⟩
/-- What is read of bytes is bytes. -/
theorem bytes_forall {l : List Int} (h : Bytes l) : ∀ x ∈ l, 0 ≤ x ∧ x < 256 := fun x hx => by
  obtain ⟨j, hj, rfl⟩ := List.mem_iff_getElem.1 hx
  have := h j
  rwa [List.getD_eq_getElem?_getD, List.getElem?_eq_getElem hj] at this
theorem unpack_bytes {b : List Int} (h : Bytes b) : Bytes (unpackL b).1 := bytes_of_mem (fun x hx => by
  rcases unpack_mem b x hx with g | g
  · exact bytes_forall h x g
  · omega)
theorem takeL_bytes {b : List Int} (h : Bytes b) {n : Nat} {l : List (List Int)} (hl : takeL n b = some l) : ∀ j, Bytes (l.getD j []) := bytes_mem (fun e he => bytes_of_mem (fun x hx => bytes_forall h x (takeL_mem n b l hl e he x hx)))
def SegsBytes (l : List Seg) : Prop := ∀ j, Bytes (l.getD j seg0).packed
theorem SegsAt.bytes {w : World} {v : Value} {l : List Seg} (h : SegsAt w v l) : SegsBytes l := fun j => by
  obtain ⟨a, c, -, -, -, -, h5⟩ := h
  by_cases hj : j < l.length
  · rcases h5 with h5 | ⟨b, off, -, -, h8⟩
    · omega
    · obtain ⟨-, -, pa, pc, -, h2, -⟩ := h8 j hj
      exact h2.bytes
  · rw [List.getD_eq_getElem?_getD, List.getElem?_eq_none (by omega)]; exact nil_bytes
theorem segment_bytes {m : Man} (h : SegsBytes m.segs) (k : Int) : ∀ j, Bytes ((segmentL m k).1.getD j []) := bytes_mem (fun e he => bytes_of_mem (fun x hx => by
  rcases segment_mem m k e he x hx with g | g
  · exact bytes_forall (h k.toNat) x g
  · omega))
theorem upTo_bytes {m : Man} (h : SegsBytes m.segs) (k : Nat) : ∀ e ∈ upTo m k, Bytes e := fun e he => by
  unfold upTo at he
  obtain ⟨j, -, hj⟩ := List.mem_flatMap.1 he
  obtain ⟨i, hi, rfl⟩ := List.mem_iff_getElem.1 hj
  have := segment_bytes h (j : Int) i
  rwa [List.getD_eq_getElem?_getD, List.getElem?_eq_getElem hi] at this
/-- A slice of bytes that lies in a block of bytes. -/
def ByteEl (w : World) (y : Value) (d : List Int) : Prop :=
  (d = [] ∧ ∃ a c, y = .slice a 0 c ∧ (a = none → c = 0)) ∨ ∃ g off c cur mk, y = .slice (some ⟨g, off, none⟩) d.length c ∧ w.heap[g]? = some (.cells cur 5 mk) ∧ ∀ j, j < d.length → w.cell? ⟨g, off + j, none⟩ = some (.int .u8 (d.getD j 0))
theorem ByteEl.bytes {w : World} {y : Value} {d : List Int} (h : ByteEl w y d) : BytesAt w y d := by
  rcases h with h | ⟨g, off, c, cur, mk, h1, h2, h3⟩
  · exact .inl h
  · exact .inr ⟨g, off, c, h1, lt_heap h2, h3⟩
theorem ByteEl.one {w : World} {y : Value} {d : List Int} (h : ByteEl w y d) : y.oneCell' = true := by
  rcases h with ⟨-, a, c, rfl, -⟩ | ⟨g, off, c, cur, mk, rfl, -⟩ <;> rfl
theorem ByteEl.below {w w' : World} {y : Value} {d : List Int} {N : Nat} (h : ByteEl w y d) (hb : Below N w w') (hN : w.heap.size ≤ N) : ByteEl w' y d := by
  rcases h with h | ⟨g, off, c, cur, mk, h1, h2, h3⟩
  · exact .inl h
  · have hg := lt_heap h2
    exact .inr ⟨g, off, c, cur, mk, h1, by rw [hb.block g (by omega)]; exact h2, fun j hj => by rw [hb.cell (p := ⟨g, off + j, none⟩) (show g < N by omega)]; exact h3 j hj⟩
theorem ByteEl.same {w w' : World} {y : Value} {d : List Int} (h : ByteEl w y d) (hs : ∀ (g : Nat) (cur : Array Value) (mk : Nat × Nat), w.heap[g]? = some (Obj.cells cur 5 mk) → w'.heap[g]? = w.heap[g]?) : ByteEl w' y d := by
  rcases h with h | ⟨g, off, c, cur, mk, h1, h2, h3⟩
  · exact .inl h
  · have h4 := (hs g cur mk h2).trans h2
    exact .inr ⟨g, off, c, cur, mk, h1, h4, fun j hj => by rw [cell_of_row w' g (off + j) cur _ mk h4, ← cell_of_row w g (off + j) cur _ mk h2]; exact h3 j hj⟩
theorem own_apart {w : World} {base g n size : Nat} {e t : TypeId} {v : Value} {xs : List Value} {cur : Array Value} {mk : Nat × Nat} (h : w.ownsRow base e size v n xs) (hne : t ≠ e) (hg : w.heap[g]? = some (.cells cur t mk)) : some g ≠ v.ownBlock := fun hh => by
  rcases h.2 with ⟨rfl, -⟩ | ⟨k, cap, cu, rfl, -, hk, -⟩
  · cases hh
  · cases hh
    rw [hk] at hg
    cases hg
    exact hne rfl
theorem ByteEl.kept {w w' : World} {base n size : Nat} {e : TypeId} {v : Value} {xs : List Value} {y : Value} {d : List Int} (h : ByteEl w y d) (hr : w.ownsRow base e size v n xs) (hne : 5 ≠ e) (hg : w.grownBy w' v.ownBlock) : ByteEl w' y d :=
  h.same (fun g _ _ h2 => hg.block g (lt_heap h2) (own_apart hr hne h2))
theorem byteEl_own {w : World} {base n : Nat} {v : Value} {d : List Int} (h : w.ownsRow base 5 1 v n (d.map (Value.int .u8))) : ByteEl w v d := by
  have hl : d.length = n := by simpa using h.1
  rcases h.2 with ⟨hv, hn⟩ | ⟨g, cap, cur, hv, -, hg, -⟩
  · subst hn
    exact .inl ⟨List.eq_nil_of_length_eq_zero hl, none, 0, hv, fun _ => rfl⟩
  · subst hl
    subst hv
    refine .inr ⟨g, 0, cap, cur, _, rfl, hg, fun j hj => ?_⟩
    rw [Nat.zero_add, h.cellAt j (by omega), List.getElem?_map, List.getElem?_eq_getElem hj, List.getD_eq_getElem?_getD, List.getElem?_eq_getElem hj]
    rfl
/-- Values, each of them such a slice. -/
def Els (w : World) (vs : List Value) (L : List (List Int)) : Prop := vs.length = L.length ∧ ∀ j, j < L.length → ∃ y, vs[j]? = some y ∧ ByteEl w y (L.getD j [])
theorem els_nil (w : World) : Els w [] [] := ⟨rfl, fun _ h => absurd h (Nat.not_lt_zero _)⟩
theorem Els.below {w w' : World} {vs : List Value} {L : List (List Int)} {N : Nat} (h : Els w vs L) (hb : Below N w w') (hN : w.heap.size ≤ N) : Els w' vs L := ⟨h.1, fun j hj => by obtain ⟨y, h1, h2⟩ := h.2 j hj; exact ⟨y, h1, h2.below hb hN⟩⟩
theorem Els.kept {w w' : World} {base n size : Nat} {e : TypeId} {v : Value} {xs vs : List Value} {L : List (List Int)} (h : Els w vs L) (hr : w.ownsRow base e size v n xs) (hne : 5 ≠ e) (hg : w.grownBy w' v.ownBlock) : Els w' vs L := ⟨h.1, fun j hj => by obtain ⟨y, h1, h2⟩ := h.2 j hj; exact ⟨y, h1, h2.kept hr hne hg⟩⟩
theorem Els.append {w : World} {vs us : List Value} {L M : List (List Int)} (h : Els w vs L) (k : Els w us M) : Els w (vs ++ us) (L ++ M) := by
  refine ⟨by rw [List.length_append, List.length_append, h.1, k.1], fun j hj => ?_⟩
  by_cases hlt : j < L.length
  · obtain ⟨y, h1, h2⟩ := h.2 j hlt
    exact ⟨y, by rw [List.getElem?_append_left (by rw [h.1]; exact hlt)]; exact h1, by rw [List.getD_eq_getElem?_getD, List.getElem?_append_left hlt, ← List.getD_eq_getElem?_getD]; exact h2⟩
  · obtain ⟨y, h1, h2⟩ := k.2 (j - L.length) (by rw [List.length_append] at hj; omega)
    exact ⟨y, by rw [List.getElem?_append_right (by rw [h.1]; omega), h.1]; exact h1, by rw [List.getD_eq_getElem?_getD, List.getElem?_append_right (by omega), ← List.getD_eq_getElem?_getD]; exact h2⟩
theorem Els.one {w : World} {vs : List Value} {L : List (List Int)} (h : Els w vs L) : ∀ u ∈ vs, u.oneCell' = true := fun u hu => by
  obtain ⟨j, hj, rfl⟩ := List.mem_iff_getElem.1 hu
  obtain ⟨y, h1, h2⟩ := h.2 j (by rw [← h.1]; exact hj)
  rw [List.getElem?_eq_getElem hj] at h1
  cases h1
  exact h2.one
theorem byteEls_one {w : World} {y : Value} {d : List Int} (h : ByteEl w y d) : Els w [y] [d] := ⟨rfl, fun j hj => by
  obtain rfl : j = 0 := by simpa using hj
  exact ⟨y, rfl, h⟩⟩
/-- A list as it comes in whose bytes lie in blocks of bytes. -/
structure Laid (w : World) (a : Option Addr) (n c : Nat) (L : List (List Int)) : Prop where
  lists : Lists w a n c L
  els : ∃ vs, Els w vs L ∧ ∀ ad, a = some ad → ∀ j u, vs[j]? = some u → w.cell? (ad.add j) = some u
theorem laid_nil (w : World) : Laid w none 0 0 [] := ⟨lists_nil w, [], els_nil w, fun _ _ j u h => by simp at h⟩
theorem Laid.below {w w' : World} {a : Option Addr} {n c : Nat} {L : List (List Int)} (h : Laid w a n c L) (hb : Below w.heap.size w w') : Laid w' a n c L := by
  obtain ⟨vs, h1, h2⟩ := h.els
  refine ⟨h.lists.below hb, vs, h1.below hb (Nat.le_refl _), fun ad ha j u hu => ?_⟩
  have hc := h2 ad ha j u hu
  rw [hb.cell (p := ad.add j) (World.block_lt_of_cell? w _ hc)]
  exact hc
theorem laid_own {w : World} {base : Nat} {a : Option Addr} {n c : Nat} {vs : List Value} {L : List (List Int)} (hr : w.ownsRow base 23 1 (.slice a n c) n vs) (he : Els w vs L) (hl : L.length = n) (hb : ∀ x ∈ L, Bytes x) (hs : ∀ x ∈ L, x.length ≤ maxLen) : Laid w a n c L := by
  have hcell : ∀ ad, a = some ad → ∀ j u, vs[j]? = some u → w.cell? (ad.add j) = some u := fun ad ha j u hu => by
    have hj : j < n := by have := (List.getElem?_eq_some_iff.1 hu).1; rw [he.1, hl] at this; exact this
    obtain ⟨g, hg, -⟩ := own_some hr (by omega)
    subst ha
    cases hg
    have e : (⟨g, 0, none⟩ : Addr).add j = ⟨g, 0 + j, none⟩ := Addr.add_mid _ _ _
    rw [e, Nat.zero_add, hr.cellAt j (by omega)]
    exact hu
  obtain ⟨a', c', e', h1, h2⟩ := own_cap hr
  cases e'
  refine ⟨⟨hl, ?_, h1, h2, own_nil hr, bytes_mem hb, short_mem hs⟩, vs, he, hcell⟩
  by_cases h0 : n = 0
  · subst h0
    exact .inl ⟨List.eq_nil_of_length_eq_zero hl, _, _, rfl⟩
  · obtain ⟨g, rfl, -, hg, -⟩ := own_some hr h0
    refine .inr ⟨g, 0, c, by rw [hl], hg, fun j hj => ?_⟩
    obtain ⟨y, h3, h4⟩ := he.2 j hj
    obtain ⟨ya, yc, rfl⟩ := h4.bytes.form
    have e : (⟨g, 0, none⟩ : Addr).add j = ⟨g, 0 + j, none⟩ := Addr.add_mid _ _ _
    have := hcell _ rfl j _ h3
    rw [e] at this
    exact ⟨_, _, _, this, h4.bytes⟩
/-- The faces. -/
def ExportC : Prop := ∀ (L : List (List Int)) (a : Option Addr) (n c : Nat) (w : World), Ready w → Lists w a n c L →
  Calls Tryd.prog 7 #[.slice a n c] w fun e w' => ∃ mv, e = .returned (.tuple #[mv, faultV (wrongL L)]) ∧ ManAt w' mv (exportL L) ∧ Below w.heap.size w w'
def SegmentC : Prop := ∀ (m : Man) (k : Int) (mv : Value) (w : World), ManAt w mv m →
  Calls Tryd.prog 10 #[mv, .int .i64 k] w fun e w' => ∃ xa xn xc, e = .returned (.tuple #[.slice xa xn xc, .int .i64 (segmentL m k).2]) ∧ Laid w' xa xn xc (segmentL m k).1 ∧ Below w.heap.size w w'
def EntryC : Prop := ∀ (m : Man) (i : Int) (mv : Value) (w : World), ManAt w mv m → i ≤ 9223372036854775807 →
  Calls Tryd.prog 13 #[mv, .int .i64 i] w fun e w' => ∃ v, e = .returned (.tuple #[v, .int .i64 (entryL m i).2]) ∧ Some' w' v (entryL m i).1 ∧ Below w.heap.size w w'
def VerifyC : Prop := ∀ (m : Man) (mv : Value) (w : World), Ready w → ManAt w mv m →
  Calls Tryd.prog 16 #[mv] w fun e w' => ∃ xa xn xc, e = .returned (.tuple #[.slice xa xn xc, faultV (verifyL m).2]) ∧ Laid w' xa xn xc (verifyL m).1 ∧ Below w.heap.size w w'

end Go.Proofs.YtbkkfchcdfhfgadDoor

/- A slice of bytes that came in, opened, with its room. -/
namespace Go.Proofs.YtbkkfchcdfhfgadDoor
open Go.ChangeShapes Go.WideShapes Go.ChangeAt Go.WideMaps Go.WideElems Go.RowKit

theorem open_room {H : Type} {enc : TypeId × Value → H} {W : World} {base : Nat} {spare : Nat → Bool} {held : Bool} {v : Value} {d : DataW H} {p : List MemPlace}
    (hv : ∃ a len cap, v = .slice a len cap) (h : DataW.Trod enc Tryd.prog W base spare held 23 v d p) :
    ∃ (b : List Int) (a : Option Addr) (c : Nat), v = .slice a b.length c ∧ Some' W v b ∧ b.length ≤ c ∧ c ≤ maxLen := by
  obtain ⟨a, len, cap, rfl⟩ := hv
  obtain ⟨fuel, hf⟩ := h
  rcases open_ints Tryd.underlying23 Tryd.underlying5 (by kernel_rfl) hf with ⟨hcs, hx⟩ | ⟨x, l, c, zs, hcs, _, hl, hm, hz, hx, hcell, hwz⟩
  · simp [Value.cells] at hcs
    obtain ⟨rfl, rfl, rfl⟩ := hcs
    exact ⟨[], none, 0, rfl, ⟨.inl ⟨rfl, none, 0, rfl, fun _ => rfl⟩, nil_bytes, Nat.zero_le _⟩, Nat.le_refl _, Nat.zero_le _⟩
  · simp [Value.cells] at hcs
    obtain ⟨rfl, rfl, rfl⟩ := hcs
    have hlz : len ≤ zs.length := by split at hz <;> omega
    have htl : (zs.take len).length = len := by rw [List.length_take]; omega
    have hget : ∀ j, j < len → (zs.take len).getD j 0 = zs.getD j 0 := fun j hj => by
      rw [List.getD_eq_getElem?_getD, List.getD_eq_getElem?_getD, List.getElem?_take, if_pos hj]
    have hby : Bytes (zs.take len) := fun j => by
      by_cases hj : j < len
      · rw [hget j hj, List.getD_eq_getElem?_getD, List.getElem?_eq_getElem (by omega)]
        have := hwz _ (List.getElem_mem (l := zs) (n := j) (by omega))
        have := bounds_u8 this
        exact ⟨this.1, by have := this.2; show zs[j] < 256; omega⟩
      · rw [List.getD_eq_getElem?_getD, List.getElem?_eq_none (by omega)]
        exact ⟨by decide, by decide⟩
    by_cases hpos : 0 < len
    · obtain ⟨b, off, rfl, hc⟩ := ints_at hcell (by omega)
      refine ⟨zs.take len, _, cap, by rw [htl], ⟨.inr ⟨b, off, cap, by rw [htl], ?_, fun j hj => ?_⟩, hby, by omega⟩, by omega, hm⟩
      · exact World.block_lt_of_cell? _ _ (hc 0 (by omega))
      · rw [hget j (by omega)]; exact hc j (by omega)
    · obtain rfl : len = 0 := by omega
      exact ⟨[], _, cap, rfl, ⟨.inl ⟨rfl, _, _, rfl, fun h => by cases h⟩, nil_bytes, Nat.zero_le _⟩, Nat.zero_le _, hm⟩

end Go.Proofs.YtbkkfchcdfhfgadDoor

/- Manifests that came in, opened. -/
namespace Go.Proofs.YtbkkfchcdfhfgadDoor
open Go.ChangeShapes Go.WideShapes Go.ChangeAt Go.WideMaps Go.WideElems Go.RowKit

theorem int_cells5 : Tryd.prog.cellsOf 3 = 1 := by kernel_rfl
theorem bytes_cells5 : Tryd.prog.cellsOf 23 = 1 := by kernel_rfl
theorem segs_cells5 : Tryd.prog.cellsOf 26 = 1 := by kernel_rfl
theorem head_cells5 : Tryd.prog.cellsOf 25 = 2 := by kernel_rfl
theorem seg_cells5 : Tryd.prog.cellsOf 55 = 3 := by kernel_rfl
theorem man_cells5 : Tryd.prog.cellsOf 28 = 3 := by kernel_rfl
theorem open_packed {H : Type} {enc : TypeId × Value → H} {W : World} {base fuel : Nat} {spare : Nat → Bool} {held : Bool} {v : Value} {x : DataW H × List MemPlace}
    (h : DataW.trod enc Tryd.prog W base spare held fuel 23 [v] = some x) : ∃ (b : List Int) (a : Option Addr) (c : Nat), v = .slice a b.length c ∧ Some' W (.slice a b.length c) b ∧ b.length ≤ c ∧ c ≤ maxLen := by
  obtain ⟨sa, sl, sc, e⟩ := Go.Joins.slice_form Tryd.underlying23 h
  simp at e
  subst e
  obtain ⟨b, a, c, e, h1, h2, h3⟩ := open_room (v := .slice sa sl sc) ⟨_, _, _, rfl⟩ ⟨fuel, h⟩
  rw [e] at h1 ⊢
  exact ⟨b, a, c, rfl, h1, h2, h3⟩
set_option maxRecDepth 100000 in
theorem open_segs {H : Type} {enc : TypeId × Value → H} {W : World} {base fuel : Nat} {spare : Nat → Bool} {held : Bool} {a : Option Addr} {len cap : Nat} {x : DataW H × List MemPlace}
    (hf : DataW.trod enc Tryd.prog W base spare held fuel 26 [.slice a len cap] = some x) : ∃ l : List Seg, SegsAt W (.slice a len cap) l := by
  rcases Deep.open_slice Tryd.underlying26 hf with ⟨hcs, _⟩ | ⟨x, l, c, m, n, D, Pl, hcs, hb, hl, hm, hmm, hx, hr⟩
  · simp at hcs
    obtain ⟨rfl, rfl, rfl⟩ := hcs
    exact ⟨[], segsAt_nil W⟩
  · simp at hcs
    obtain ⟨rfl, rfl, rfl⟩ := hcs
    have hlm : len ≤ m := by rw [hmm]; split <;> omega
    have each : ∀ i, i < m → ∃ (t : Seg) (pa : Option Addr) (pc : Nat), W.cell? (x.add (i * 3)) = some (.int .i64 t.first) ∧ W.cell? (x.add (i * 3 + 1)) = some (.int .i64 t.count) ∧ W.cell? (x.add (i * 3 + 2)) = some (.slice pa t.packed.length pc) ∧ Some' W (.slice pa t.packed.length pc) t.packed ∧ t.packed.length ≤ pc ∧ pc ≤ maxLen := by
      intro i hi
      obtain ⟨cs', h1, h2⟩ := hr i hi
      rw [seg_cells5] at h1
      obtain ⟨_, hlen, hcell⟩ := World.cells?_some h1
      obtain ⟨y0, y1, y2, k, _, _, g0, g1, g2⟩ := Deep.trod_struct3 Tryd.underlying55 h2
      match cs', hlen with
      | [v0, v1, v2], _ =>
        simp only [int_cells5, bytes_cells5, List.drop, List.take] at g0 g1 g2
        obtain ⟨z0, e0, -, -⟩ := DataW.trod_int Tryd.underlying3 g0
        obtain ⟨z1, e1, -, -⟩ := DataW.trod_int Tryd.underlying3 g1
        obtain ⟨b, pa, pc, e2, h3, h4, h5⟩ := open_packed g2
        simp at e0 e1
        subst e0 e1 e2
        have c0 := hcell 0 (by omega)
        have c1 := hcell 1 (by omega)
        have c2 := hcell 2 (by omega)
        rw [Deep.add_add] at c0 c1 c2
        exact ⟨⟨z0, z1, b⟩, pa, pc, by simpa using c0, by simpa using c1, by simpa using c2, h3, h4, h5⟩
    have each' : ∀ i, ∃ t : Seg, i < m → ∃ (pa : Option Addr) (pc : Nat), W.cell? (x.add (i * 3)) = some (.int .i64 t.first) ∧ W.cell? (x.add (i * 3 + 1)) = some (.int .i64 t.count) ∧ W.cell? (x.add (i * 3 + 2)) = some (.slice pa t.packed.length pc) ∧ Some' W (.slice pa t.packed.length pc) t.packed ∧ t.packed.length ≤ pc ∧ pc ≤ maxLen := fun i => by
      by_cases hi : i < m
      · obtain ⟨t, ht⟩ := each i hi; exact ⟨t, fun _ => ht⟩
      · exact ⟨seg0, fun h => absurd h hi⟩
    generalize hTT : (fun i => Classical.choose (each' i)) = T
    have hT2 : ∀ i, i < m → ∃ (pa : Option Addr) (pc : Nat), W.cell? (x.add (i * 3)) = some (.int .i64 (T i).first) ∧ W.cell? (x.add (i * 3 + 1)) = some (.int .i64 (T i).count) ∧ W.cell? (x.add (i * 3 + 2)) = some (.slice pa (T i).packed.length pc) ∧ Some' W (.slice pa (T i).packed.length pc) (T i).packed ∧ (T i).packed.length ≤ pc ∧ pc ≤ maxLen := fun i hi => by
      rw [← hTT]; exact Classical.choose_spec (each' i) hi
    have hget : ∀ j, j < len → ((List.range len).map T).getD j seg0 = T j := fun j hj => by
      rw [List.getD_eq_getElem?_getD, List.getElem?_map, List.getElem?_range hj]; rfl
    refine ⟨(List.range len).map T, some x, cap, by simp, by simpa using hl, hm, (fun e => by cases e), ?_⟩
    by_cases hpos : 0 < len
    · obtain ⟨_, _, q0, -⟩ := hT2 0 (by omega)
      have hsp : x.spot = none := by simpa [Addr.add] using World.cell?_spot q0
      obtain ⟨b, off, spot⟩ := x
      subst hsp
      refine .inr ⟨b, off, rfl, World.block_lt_of_cell? W ⟨b, off, none⟩ (by simpa [Addr.add] using q0), fun j hj => ?_⟩
      have hj' : j < len := by simpa using hj
      rw [hget j hj']
      obtain ⟨pa, pc, d0, d1, d2, d3⟩ := hT2 j (by omega)
      rw [Addr.add_mid] at d0 d1 d2
      exact ⟨d0, by rw [Nat.add_assoc]; exact d1, pa, pc, by rw [Nat.add_assoc]; exact d2, d3⟩
    · obtain rfl : len = 0 := by omega
      exact .inl (by simp)
set_option maxRecDepth 100000 in
theorem open_man {H : Type} {enc : TypeId × Value → H} {W : World} {r : Reach} {b0 base : Nat} {spare : Nat → Bool} {held : Bool} {v : Value} {d : DataW H} {p : List MemPlace}
    (hv : Value.okWide Tryd.prog W r b0 28 v) (h : DataW.Trod enc Tryd.prog W base spare held 28 v d p) : ∃ m : Man, ManAt W v m := by
  obtain ⟨cs, rfl, hsz⟩ := okWide_struct Tryd.underlying28 hv
  obtain ⟨c0, c1, c2, rfl⟩ := Go.Joins.array3 (hsz.trans man_cells5)
  obtain ⟨fuel, hf⟩ := h
  obtain ⟨y0, y1, n, -, -, h0, h1⟩ := trod_struct2 Tryd.underlying28 hf
  simp only [head_cells5, segs_cells5, Value.cells, List.drop, List.take] at h0 h1
  obtain ⟨z0, z1, k, -, -, g0, g1⟩ := trod_struct2 Tryd.underlying25 h0
  simp only [int_cells5, bytes_cells5, List.drop, List.take] at g0 g1
  obtain ⟨size, e0, -, -⟩ := DataW.trod_int Tryd.underlying3 g0
  obtain ⟨b, pa, pc, e1, h3, -, -⟩ := open_packed g1
  obtain ⟨sa, sl, sc, e2⟩ := Go.Joins.slice_form Tryd.underlying26 h1
  simp at e0 e2
  subst e0 e1 e2
  obtain ⟨l, hl⟩ := open_segs h1
  exact ⟨⟨size, b, l⟩, _, _, rfl, h3, hl⟩

end Go.Proofs.YtbkkfchcdfhfgadDoor
