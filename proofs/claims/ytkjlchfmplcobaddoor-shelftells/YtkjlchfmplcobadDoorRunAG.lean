/- ByteMem, ShaRun, as one text. -/
import Derived.Test.YtkjlchfmplcobadDoorProg
import Derived.Test.YtkjlchfmplcobadDoorShaLaws
import Derived.WalkKit
import Derived.Deep.AppendLies
import Derived.Laws.AppendOwnNone
import Derived.Test.YtkjlchfmplcobadDoorRunAE
/- Bytes, and lists of bytes in memory: as they came in, and as a call's own. Nothing of the program's functions is in it. -/
namespace Go.Proofs.YtkjlchfmplcobadDoor
open Go.RowKit

def Bytes (l : List Int) : Prop := ∀ j, 0 ≤ l.getD j 0 ∧ l.getD j 0 < 256
theorem bytes_cons {z : Int} {zs : List Int} (h0 : 0 ≤ z) (h1 : z < 256) (h : Bytes zs) : Bytes (z :: zs) := by
  intro j
  cases j with
  | zero => exact ⟨h0, h1⟩
  | succ j => simpa using h j
theorem bytes_append {xs ys : List Int} (h1 : Bytes xs) (h2 : Bytes ys) : Bytes (xs ++ ys) := by
  intro j
  rw [List.getD_eq_getElem?_getD, List.getElem?_append]
  split
  · have := h1 j; rwa [List.getD_eq_getElem?_getD] at this
  · have := h2 (j - xs.length); rwa [List.getD_eq_getElem?_getD] at this
theorem nil_bytes : Bytes [] := fun j => by simp
theorem Tryd.info5b : (Tryd.prog.info? 5).map (fun i => (i.zero, i.size, i.bytes)) = some (some (.int .u8 0), 1, 1) := by kernel_rfl
/-- A slice of bytes as the walks meet it. -/
def BytesAt (w : World) (v : Value) (zs : List Int) : Prop :=
  (zs = [] ∧ ∃ a c, v = .slice a 0 c ∧ (a = none → c = 0)) ∨ ∃ b off cp, v = .slice (some ⟨b, off, none⟩) zs.length cp ∧ b < w.heap.size ∧ ∀ j, j < zs.length → w.cell? ⟨b, off + j, none⟩ = some (.int .u8 (zs.getD j 0))
theorem BytesAt.below {w w' : World} {v : Value} {zs : List Int} {n : Nat} (h : BytesAt w v zs) (hn : w.heap.size ≤ n) (hb : Below n w w') : BytesAt w' v zs := by
  rcases h with h | ⟨b, off, cp, h1, h2, h3⟩
  · exact .inl h
  · refine .inr ⟨b, off, cp, h1, Nat.lt_of_lt_of_le h2 hb.size, fun j hj => ?_⟩
    rw [hb.cell (p := ⟨b, off + j, none⟩) (by show b < n; omega)]
    exact h3 j hj
theorem ownsRow_base {w : World} {b b' : Nat} {e : TypeId} {size : Nat} {v : Value} {n : Nat} {xs : List Value} (h : w.ownsRow b e size v n xs) (hb : b' ≤ b) : w.ownsRow b' e size v n xs := by
  obtain ⟨h1, h2⟩ := h
  refine ⟨h1, ?_⟩
  rcases h2 with h2 | ⟨g, cap, cur, h3, h4, h5⟩
  · exact .inl h2
  · exact .inr ⟨g, cap, cur, h3, Nat.le_trans hb h4, h5⟩
theorem bytesAt_own {w : World} {base : Nat} {e : TypeId} {v : Value} {n : Nat} {l : List Int} (h : w.ownsRow base e 1 v n (l.map (Value.int .u8))) : BytesAt w v l := by
  have hl : l.length = n := by simpa using h.1
  rcases h.2 with ⟨hv, hn⟩ | ⟨g, cap, cur, hv, -, hg, -⟩
  · subst hn
    exact .inl ⟨List.eq_nil_of_length_eq_zero hl, none, 0, hv, fun _ => rfl⟩
  · subst hl
    refine .inr ⟨g, 0, cap, hv, ?_, fun j hj => ?_⟩
    · rcases Nat.lt_or_ge g w.heap.size with h' | h'
      · exact h'
      · rw [Array.getElem?_eq_none h'] at hg; cases hg
    · subst hv
      rw [Nat.zero_add, h.cellAt j (by omega), List.getElem?_map, List.getElem?_eq_getElem hj, List.getD_eq_getElem?_getD, List.getElem?_eq_getElem hj]
      rfl
theorem BytesAt.src {w : World} {a : Option Addr} {n c : Nat} {zs : List Int} (h : BytesAt w (.slice a n c) zs) :
    n = zs.length ∧ ((a = none ∧ n = 0 ∧ c = 0 ∧ zs = []) ∨ ∃ ad, a = some ad ∧ ∀ j u, (zs.map (Value.int .u8))[j]? = some u → w.cell? (ad.add j) = some u) := by
  rcases h with ⟨rfl, x, c', h, hc⟩ | ⟨b, off, cp, h, -, hc⟩
  · simp only [Value.slice.injEq] at h
    obtain ⟨rfl, rfl, rfl⟩ := h
    refine ⟨rfl, ?_⟩
    cases a with
    | none => exact .inl ⟨rfl, rfl, hc rfl, rfl⟩
    | some ad => exact .inr ⟨ad, rfl, fun j u hj => by simp at hj⟩
  · simp only [Value.slice.injEq] at h
    obtain ⟨rfl, rfl, rfl⟩ := h
    refine ⟨rfl, .inr ⟨_, rfl, fun j u hj => ?_⟩⟩
    have hlt : j < zs.length := by have := (List.getElem?_eq_some_iff.1 hj).1; simpa using this
    have hadd : (⟨b, off, none⟩ : Addr).add j = ⟨b, off + j, none⟩ := Addr.add_mid _ _ _
    rw [hadd, hc j hlt]
    rw [List.getElem?_map, List.getElem?_eq_getElem hlt] at hj
    rw [List.getD_eq_getElem?_getD, List.getElem?_eq_getElem hlt]
    simpa using hj
theorem own_get {w : World} {base : Nat} {e : TypeId} {a : Option Addr} {n c : Nat} {α : Type} {f : α → Value} {l : List α} {z : α} (h : w.ownsRow base e 1 (.slice a n c) n (l.map f)) (i : Nat) (hi : i < n) :
    ∃ g, a = some ⟨g, 0, none⟩ ∧ w.cell? ⟨g, i, none⟩ = some (f (l.getD i z)) ∧ w.frozen? ⟨g, i, none⟩ = false ∧ base ≤ g := by
  have hl : l.length = n := by simpa using h.1
  rcases h.2 with ⟨-, rfl⟩ | ⟨g, cap, cur, hv, hb, -⟩
  · omega
  · simp only [Value.slice.injEq] at hv
    obtain ⟨rfl, -, rfl⟩ := hv
    refine ⟨g, rfl, ?_, h.frozenAt i, hb⟩
    rw [h.cellAt i (by omega), List.getElem?_map, List.getElem?_eq_getElem (by omega), List.getD_eq_getElem?_getD, List.getElem?_eq_getElem (by omega)]
    rfl
theorem own_form' {w : World} {base : Nat} {e : TypeId} {v : Value} {n : Nat} {xs : List Value} (h : w.ownsRow base e 1 v n xs) : ∃ a c, v = .slice a n c := by
  rcases h.2 with ⟨hv, rfl⟩ | ⟨g, cap, cur, hv, -⟩
  · exact ⟨none, 0, hv⟩
  · exact ⟨_, cap, hv⟩
theorem own_block {w : World} {base : Nat} {e : TypeId} {v : Value} {n : Nat} {xs : List Value} (h : w.ownsRow base e 1 v n xs) {q : Nat} (hq : v.ownBlock = some q) : base ≤ q := by
  rcases h.2 with ⟨e, -⟩ | ⟨g, cap, cur, e, hg, -⟩
  · rw [e] at hq; cases hq
  · rw [e] at hq; cases hq; exact hg
theorem own_lt {w : World} {base : Nat} {e : TypeId} {v : Value} {n : Nat} {xs : List Value} (h : w.ownsRow base e 1 v n xs) {q : Nat} (hq : v.ownBlock = some q) : q < w.heap.size := by
  rcases h.2 with ⟨e, -⟩ | ⟨g, cap, cur, e, -, hg, -⟩
  · rw [e] at hq; cases hq
  · rw [e] at hq
    cases hq
    rcases Nat.lt_or_ge g w.heap.size with h' | h'
    · exact h'
    · rw [Array.getElem?_eq_none h'] at hg; cases hg
/-- No block belongs to both. -/
def Sep (v1 v2 : Value) : Prop := ∀ g, v1.ownBlock = some g → v2.ownBlock ≠ some g
theorem Sep.symm {v1 v2 : Value} (h : Sep v1 v2) : Sep v2 v1 := fun g h1 h2 => h g h2 h1
theorem Sep.or {v1 v2 : Value} (h : Sep v1 v2) : v1.ownBlock = none ∨ v1.ownBlock ≠ v2.ownBlock := by
  cases e : v1.ownBlock with
  | none => exact .inl rfl
  | some g => exact .inr (fun h' => h g e h'.symm)
/-- append(dst, src...), dst the call's own, src a slice of bytes as it came. -/
theorem wpList_append_bytes {P : Program} {w : World} {ops : Array Oper} {rest : List Oper} {o : Oper} {a : Act} {Q : Exit → Act → World → Prop} (hgd : o.guard = none) (s x : Operand) (t : TypeId)
    (ho : o.op = .call { callee := .builtin .append, args := #[s, x], argTypes := #[t, t] })
    (base : Nat) (e : TypeId) (i : TypeInfo) (z : Value) (ht : P.underlying t = some (.slice e)) (hi : P.info? e = some i) (hz : i.zero = some z)
    (hsize : i.size = 1) (hby : i.bytes = 1) (hzs : z.cells.size = 1)
    (v : Value) (n : Nat) (xs : List Value) (hs : a.eval s = v) (hown : w.ownsRow base e 1 v n xs)
    (ao : Option Addr) (m c : Nat) (zs : List Int) (hx : a.eval x = .slice ao m c) (hB : BytesAt w (.slice ao m c) zs)
    (h63 : n + zs.length ≤ maxLen) (hbytes : n + zs.length ≤ 140737488355328) (hbase : base ≤ w.heap.size)
    (h : ∀ v' w', w'.ownsRow base e 1 v' (n + zs.length) (xs ++ zs.map (Value.int .u8)) → w.grownBy w' v.ownBlock → wpList P ops Q rest (a.put o.dst v') w') : wpList P ops Q (o :: rest) a w := by
  obtain ⟨hm, hsrc⟩ := hB.src
  rcases hsrc with ⟨rfl, rfl, rfl, rfl⟩ | ⟨ad, rfl, hnews⟩
  · exact wpList_append_own_none hgd s x t ho base e i 1 ht hi v n xs hs hown hx (h v w (by simpa using hown) (World.grownBy.refl _ _))
  · exact wpList_append_own _ hgd s x t ho base e i z 1 1 ht hi hz hsize hby hzs (by decide) v n xs hs hown ad m c (zs.map (Value.int .u8)) hx (by rw [List.length_map]; omega) hnews (by intro u hu; obtain ⟨y, -, rfl⟩ := List.mem_map.1 hu; rfl) (by omega) (by omega) hbase
      (fun v' w' h1 h2 _ => h v' w' (by rw [← hm]; exact h1) h2)
theorem own_below {w w' : World} {base : Nat} {e : TypeId} {v : Value} {n N : Nat} {xs : List Value} (h : w.ownsRow base e 1 v n xs) (hb : Below N w w') (hN : w.heap.size ≤ N) : w'.ownsRow base e 1 v n xs :=
  h.kept (w' := w') (row := none) ⟨hb.os, hb.tape, hb.output, hb.size, fun k hk _ => hb.block k (Nat.lt_of_lt_of_le hk hN)⟩ (by cases v.ownBlock <;> simp)
/-- A world that is another, some draws on. -/
def Dr (a w : World) : Prop := ∃ q, w = a.drewN q
theorem Dr.step {a w : World} (h : Dr a w) (n : Nat) : Dr a (w.drewN n) := by
  obtain ⟨q, rfl⟩ := h
  exact ⟨q + n, by simp [World.drewN, Nat.add_assoc]⟩
/-- A slice of slices of bytes as the walks meet it. -/
def PartsAt (w : World) (v : Value) (L : List (List Int)) : Prop :=
  (L = [] ∧ ∃ a c, v = .slice a 0 c) ∨ ∃ b off cp, v = .slice (some ⟨b, off, none⟩) L.length cp ∧ b < w.heap.size ∧
    ∀ j, j < L.length → ∃ a n c, w.cell? ⟨b, off + j, none⟩ = some (.slice a n c) ∧ BytesAt w (.slice a n c) (L.getD j [])
theorem PartsAt.below {w w' : World} {v : Value} {L : List (List Int)} {n : Nat} (h : PartsAt w v L) (hn : w.heap.size ≤ n) (hb : Below n w w') : PartsAt w' v L := by
  rcases h with h | ⟨b, off, cp, h1, h2, h3⟩
  · exact .inl h
  · refine .inr ⟨b, off, cp, h1, Nat.lt_of_lt_of_le h2 hb.size, fun j hj => ?_⟩
    obtain ⟨a, m, c, hc, hB⟩ := h3 j hj
    exact ⟨a, m, c, by rw [hb.cell (p := ⟨b, off + j, none⟩) (by show b < n; omega)]; exact hc, hB.below hn hb⟩
theorem BytesAt.form {w : World} {v : Value} {zs : List Int} (h : BytesAt w v zs) : ∃ a c, v = .slice a zs.length c := by
  rcases h with ⟨rfl, a, c, e, -⟩ | ⟨b, off, cp, e, -⟩
  · exact ⟨_, _, e⟩
  · exact ⟨_, _, e⟩
theorem bytesAt_nil (w : World) : BytesAt w (.slice none 0 0) [] := .inl ⟨rfl, none, 0, rfl, fun _ => rfl⟩
theorem own_cap {w : World} {base : Nat} {e : TypeId} {v : Value} {n : Nat} {xs : List Value} (h : w.ownsRow base e 1 v n xs) : ∃ a c, v = .slice a n c ∧ n ≤ c ∧ c ≤ maxLen := by
  rcases h.2 with ⟨rfl, rfl⟩ | ⟨g, cap, cur, rfl, -, -, h1, h2, -⟩
  · exact ⟨none, 0, rfl, Nat.le_refl _, Nat.zero_le _⟩
  · exact ⟨_, cap, rfl, h1, h2⟩
theorem own_some {w : World} {base : Nat} {e : TypeId} {la : Option Addr} {m lc : Nat} {xs : List Value} (h : w.ownsRow base e 1 (.slice la m lc) m xs) (hm : m ≠ 0) : ∃ g, la = some ⟨g, 0, none⟩ ∧ base ≤ g ∧ g < w.heap.size ∧ m ≤ lc ∧ lc ≤ maxLen := by
  rcases h.2 with ⟨-, h0⟩ | ⟨g, cap, cur, e1, hb, hg, h1, h2, -⟩
  · exact absurd h0 hm
  · simp only [Value.slice.injEq, true_and] at e1
    obtain ⟨rfl, rfl⟩ := e1
    refine ⟨g, rfl, hb, ?_, h1, h2⟩
    rcases Nat.lt_or_ge g w.heap.size with h' | h'
    · exact h'
    · rw [Array.getElem?_eq_none h'] at hg; cases hg
theorem BytesAt.some {w : World} {v : Value} {d : List Int} (h : BytesAt w v d) (hl : d.length ≠ 0) : ∃ b off c, v = .slice (some ⟨b, off, none⟩) d.length c := by
  rcases h with ⟨rfl, -⟩ | ⟨b, off, cp, e, -⟩
  · exact absurd rfl hl
  · exact ⟨b, off, cp, e⟩
/-- Bytes as they come in. -/
structure Some' (w : World) (v : Value) (b : List Int) : Prop where
  at' : BytesAt w v b
  bytes : Bytes b
  short : b.length ≤ maxLen
theorem Some'.below {w w' : World} {v : Value} {b : List Int} (h : Some' w v b) (hb : Below w.heap.size w w') : Some' w' v b := ⟨h.at'.below (Nat.le_refl _) hb, h.bytes, h.short⟩
theorem below_drewN' {B : Nat} {a w : World} (h : Below B a w) (n : Nat) : Below B a (w.drewN n) := ⟨h.os, h.tape, h.output, h.size, h.block⟩
end Go.Proofs.YtkjlchfmplcobadDoor

/- A digest on its way, as numbers: what (*run).add does to it. Nothing of the program is in it. -/
namespace Go.Proofs.YtkjlchfmplcobadDoor
open Go.RowKit

structure Rn where
  s : St
  blk : List Int
  c : Nat
def Rn.push (r : Rn) (x : Int) : Rn :=
  ⟨if (r.c + 1) % 64 = 0 then r.s.mix (r.blk.set (r.c % 64) x) else r.s, r.blk.set (r.c % 64) x, r.c + 1⟩
def Rn.all (r : Rn) (l : List Int) : Rn := l.foldl Rn.push r
theorem Rn.all_snoc (r : Rn) (l : List Int) (x : Int) : r.all (l ++ [x]) = (r.all l).push x := by simp [Rn.all]
theorem Rn.all_append (r : Rn) (l m : List Int) : r.all (l ++ m) = (r.all l).all m := by simp [Rn.all]
theorem Rn.all_c (r : Rn) (l : List Int) : (r.all l).c = r.c + l.length := by
  induction l generalizing r with
  | nil => rfl
  | cons x l ih => show ((r.push x).all l).c = _; rw [ih]; simp [Rn.push]; omega
theorem Bytes.set {l : List Int} (h : Bytes l) (i : Nat) (x : Int) (h0 : 0 ≤ x) (h1 : x < 256) : Bytes (l.set i x) := fun j => by
  have := h j
  rw [List.getD_eq_getElem?_getD] at this ⊢
  rw [List.getElem?_set]
  split
  · split
    · exact ⟨h0, h1⟩
    · simp
  · exact this
theorem take_next (l : List Int) (k : Nat) (h : k < l.length) : l.take (k + 1) = l.take k ++ [l.getD k 0] := by
  rw [List.take_succ_eq_append_getElem h, List.getD_eq_getElem?_getD, List.getElem?_eq_getElem h]
  rfl

theorem grownBy_trans {a b c : World} {row : Option Nat} (h : a.grownBy b row) (k : b.grownBy c row) : a.grownBy c row :=
  ⟨k.os.trans h.os, k.tape.trans h.tape, k.output.trans h.output, Nat.le_trans h.size k.size, fun i hi hn => (k.block i (Nat.lt_of_lt_of_le hi h.size) hn).trans (h.block i hi hn)⟩
theorem grownBy_drew {a b : World} {row : Option Nat} (h : a.grownBy b row) : a.grownBy b.drew row := grownBy_trans h ⟨rfl, rfl, rfl, Nat.le_refl _, fun _ _ _ => rfl⟩
theorem grownBy_setCell {a b : World} {R : Nat} (h : a.grownBy b (some R)) (o : Nat) (v : Value) : a.grownBy (b.setCell ⟨R, o, none⟩ v) (some R) :=
  grownBy_trans h ⟨rfl, rfl, rfl, by simp [World.setCell], fun k _ hn => Below.heap_setCell _ _ _ _ (fun e => hn (by rw [e]))⟩
theorem grownBy_below {a b : World} {row : Option Nat} (h : Below a.heap.size a b) : a.grownBy b row := ⟨h.os, h.tape, h.output, h.size, fun k hk _ => h.block k hk⟩

/-- A digest on its way lies in block R. -/
def RunAt (w : World) (R : Nat) (r : Rn) : Prop :=
  (w.cell? ⟨R, 0, none⟩ = some (.int .u32 (U r.s.a)) ∧ w.cell? ⟨R, 1, none⟩ = some (.int .u32 (U r.s.b)) ∧ w.cell? ⟨R, 2, none⟩ = some (.int .u32 (U r.s.c)) ∧ w.cell? ⟨R, 3, none⟩ = some (.int .u32 (U r.s.d)) ∧
    w.cell? ⟨R, 4, none⟩ = some (.int .u32 (U r.s.e)) ∧ w.cell? ⟨R, 5, none⟩ = some (.int .u32 (U r.s.f)) ∧ w.cell? ⟨R, 6, none⟩ = some (.int .u32 (U r.s.g)) ∧ w.cell? ⟨R, 7, none⟩ = some (.int .u32 (U r.s.h))) ∧
  (∀ j, j < 64 → w.cell? ⟨R, 8 + j, none⟩ = some (.int .u8 (r.blk.getD j 0))) ∧ w.cell? ⟨R, 72, none⟩ = some (.int .u64 (r.c : Int)) ∧
  (∀ j, j < 73 → w.frozen? ⟨R, j, none⟩ = false) ∧ r.blk.length = 64 ∧ Bytes r.blk

theorem grownBy_setCells {a : World} {R : Nat} : ∀ (vs : List Value) (o : Nat) (b : World), a.grownBy b (some R) → a.grownBy (b.setCells R o vs) (some R)
  | [], _, _, h => h
  | v :: r, o, b, h => by
    rw [World.setCells]
    exact grownBy_setCells r (o + 1) _ (grownBy_setCell h o v)

theorem RunAt.stored {w : World} {R : Nat} {s : St} {blk : List Int} {c : Nat} (h : RunAt w R ⟨s, blk, c⟩) {x : Int} (h0 : 0 ≤ x) (h1 : x < 256) :
    RunAt (((w.setCell ⟨R, 8 + c % 64, none⟩ (.int .u8 x)).setCell ⟨R, 72, none⟩ (.int .u64 ((c : Int) + 1))).drew) R ⟨s, blk.set (c % 64) x, c + 1⟩ := by
  obtain ⟨⟨p0, p1, p2, p3, p4, p5, p6, p7⟩, hB, hC, hf, hl, hby⟩ := h
  have far : ∀ j v, j ≠ 8 + c % 64 → j ≠ 72 → w.cell? ⟨R, j, none⟩ = some v → (((w.setCell ⟨R, 8 + c % 64, none⟩ (.int .u8 x)).setCell ⟨R, 72, none⟩ (.int .u64 ((c : Int) + 1))).drew).cell? ⟨R, j, none⟩ = some v := fun j v n1 n2 hv => by
    show ((w.setCell ⟨R, 8 + c % 64, none⟩ _).setCell ⟨R, 72, none⟩ _).cell? _ = _
    rw [World.cell?_setCell_other _ _ _ _ (by intro e; injection e; omega), World.cell?_setCell_other _ _ _ _ (by intro e; injection e; omega)]
    exact hv
  refine ⟨⟨far 0 _ (by omega) (by omega) p0, far 1 _ (by omega) (by omega) p1, far 2 _ (by omega) (by omega) p2, far 3 _ (by omega) (by omega) p3, far 4 _ (by omega) (by omega) p4, far 5 _ (by omega) (by omega) p5, far 6 _ (by omega) (by omega) p6, far 7 _ (by omega) (by omega) p7⟩, fun j hj => ?_, ?_, fun j hj => ?_, by simpa using hl, hby.set _ _ h0 h1⟩
  · by_cases e : j = c % 64
    · subst e
      show ((w.setCell ⟨R, 8 + c % 64, none⟩ _).setCell ⟨R, 72, none⟩ _).cell? _ = _
      rw [World.cell?_setCell_other _ _ _ _ (by intro e; injection e; omega), World.cell?_setCell_same _ _ _ (hB _ hj)]
      have : (blk.set (c % 64) x).getD (c % 64) 0 = x := by
        rw [List.getD_eq_getElem?_getD, List.getElem?_set_self (by have : blk.length = 64 := hl; omega)]; rfl
      rw [this]
    · rw [far (8 + j) _ (by omega) (by omega) (hB j hj)]
      have : (blk.set (c % 64) x).getD j 0 = blk.getD j 0 := by
        rw [List.getD_eq_getElem?_getD, List.getD_eq_getElem?_getD, List.getElem?_set_ne (by omega)]
      rw [this]
  · show ((w.setCell ⟨R, 8 + c % 64, none⟩ _).setCell ⟨R, 72, none⟩ _).cell? _ = _
    rw [World.cell?_setCell_same (u := .int .u64 (c : Int)) _ _ _ (by rw [World.cell?_setCell_other _ _ _ _ (by intro e; injection e; omega)]; exact hC)]
    rfl
  · show ((w.setCell ⟨R, 8 + c % 64, none⟩ _).setCell ⟨R, 72, none⟩ _).frozen? _ = _
    rw [World.frozen?_setCell, World.frozen?_setCell]
    exact hf j hj

theorem RunAt.below {w w' : World} {R n : Nat} {r : Rn} (h : RunAt w R r) (hR : R < n) (hb : Below n w w') : RunAt w' R r := by
  obtain ⟨⟨p0, p1, p2, p3, p4, p5, p6, p7⟩, hB, hC, hf, hl, hby⟩ := h
  have k : ∀ j, w'.cell? ⟨R, j, none⟩ = w.cell? ⟨R, j, none⟩ := fun j => hb.cell (p := ⟨R, j, none⟩) hR
  refine ⟨⟨?_, ?_, ?_, ?_, ?_, ?_, ?_, ?_⟩, fun j hj => ?_, ?_, fun j hj => ?_, hl, hby⟩
  all_goals first | (rw [k]; assumption) | (rw [k]; exact hB j hj) | (rw [hb.frozen (p := ⟨R, j, none⟩) hR]; exact hf j hj)

theorem RunAt.words {w : World} {R : Nat} {s t : St} {blk : List Int} {c : Nat} (h : RunAt w R ⟨s, blk, c⟩) :
    RunAt (w.setCells R 0 [.int .u32 (U t.a), .int .u32 (U t.b), .int .u32 (U t.c), .int .u32 (U t.d), .int .u32 (U t.e), .int .u32 (U t.f), .int .u32 (U t.g), .int .u32 (U t.h)]) R ⟨t, blk, c⟩ := by
  obtain ⟨⟨p0, p1, p2, p3, p4, p5, p6, p7⟩, hB, hC, hf, hl, hby⟩ := h
  have hin := World.cell?_setCells_in R [Value.int .u32 (U t.a), Value.int .u32 (U t.b), Value.int .u32 (U t.c), Value.int .u32 (U t.d), Value.int .u32 (U t.e), Value.int .u32 (U t.f), Value.int .u32 (U t.g), Value.int .u32 (U t.h)] 0 w (fun j hj => by
    match j, hj with
    | 0, _ => rw [p0]; rfl
    | 1, _ => rw [p1]; rfl
    | 2, _ => rw [p2]; rfl
    | 3, _ => rw [p3]; rfl
    | 4, _ => rw [p4]; rfl
    | 5, _ => rw [p5]; rfl
    | 6, _ => rw [p6]; rfl
    | 7, _ => rw [p7]; rfl)
  have hout : ∀ j, 8 ≤ j → (w.setCells R 0 [Value.int .u32 (U t.a), Value.int .u32 (U t.b), Value.int .u32 (U t.c), Value.int .u32 (U t.d), Value.int .u32 (U t.e), Value.int .u32 (U t.f), Value.int .u32 (U t.g), Value.int .u32 (U t.h)]).cell? ⟨R, j, none⟩ = w.cell? ⟨R, j, none⟩ := fun j hj =>
    World.cell?_setCells_out _ _ _ _ _ (fun _ _ => .inr (by simpa using hj))
  refine ⟨⟨hin 0 (by simp), hin 1 (by simp), hin 2 (by simp), hin 3 (by simp), hin 4 (by simp), hin 5 (by simp), hin 6 (by simp), hin 7 (by simp)⟩, fun j hj => ?_, ?_, fun j hj => ?_, hl, hby⟩
  · rw [hout _ (by omega)]; exact hB j hj
  · rw [hout _ (by omega)]; exact hC
  · rw [World.frozen?_setCells]; exact hf j hj

end Go.Proofs.YtkjlchfmplcobadDoor
