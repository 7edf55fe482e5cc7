/- A digest on its way, as numbers: what (*run).add does to it. Nothing of the program is in it. -/
import Derived.Test.YtkjlchfmplcobaeDoorShaRound
import Derived.Test.YtkjlchfmplcobaeDoorByteMem
import Derived.Test.YtkjlchfmplcobaeDoorShaLaws
import Derived.Deep.AppendLies
namespace Go.Proofs.YtkjlchfmplcobaeDoor
open Go.RowKit

structure Rn where
  s : St
  blk : List Int
  c : Nat
def Rn.push (r : Rn) (x : Int) : Rn :=
  ⟨if (r.c + 1) % 64 = 0 then r.s.mix (r.blk.set (r.c % 64) x) else r.s, r.blk.set (r.c % 64) x, r.c + 1⟩
def Rn.all (r : Rn) (l : List Int) : Rn := l.foldl Rn.push r
theorem Rn.all_snoc (r : Rn) (l : List Int) (x : Int) : r.all (l ++ [x]) = (r.all l).push x := by simp [Rn.all]
theorem Rn.all_append (r : Rn) (l m : List Int) : r.all (l ++ m) = (r.all l).all m := by simp [Rn.all]
theorem Rn.all_c (r : Rn) (l : List Int) : (r.all l).c = r.c + l.length := by
  induction l generalizing r with
  | nil => rfl
  | cons x l ih => show ((r.push x).all l).c = _; rw [ih]; simp [Rn.push]; omega
theorem Bytes.set {l : List Int} (h : Bytes l) (i : Nat) (x : Int) (h0 : 0 ≤ x) (h1 : x < 256) : Bytes (l.set i x) := fun j => by
  have := h j
  rw [List.getD_eq_getElem?_getD] at this ⊢
  rw [List.getElem?_set]
  split
  · split
    · exact ⟨h0, h1⟩
    · simp
  · exact this
theorem take_next (l : List Int) (k : Nat) (h : k < l.length) : l.take (k + 1) = l.take k ++ [l.getD k 0] := by
  rw [List.take_succ_eq_append_getElem h, List.getD_eq_getElem?_getD, List.getElem?_eq_getElem h]
  rfl

theorem grownBy_trans {a b c : World} {row : Option Nat} (h : a.grownBy b row) (k : b.grownBy c row) : a.grownBy c row :=
  ⟨k.os.trans h.os, k.tape.trans h.tape, k.output.trans h.output, Nat.le_trans h.size k.size, fun i hi hn => (k.block i (Nat.lt_of_lt_of_le hi h.size) hn).trans (h.block i hi hn)⟩
theorem grownBy_drew {a b : World} {row : Option Nat} (h : a.grownBy b row) : a.grownBy b.drew row := grownBy_trans h ⟨rfl, rfl, rfl, Nat.le_refl _, fun _ _ _ => rfl⟩
theorem grownBy_setCell {a b : World} {R : Nat} (h : a.grownBy b (some R)) (o : Nat) (v : Value) : a.grownBy (b.setCell ⟨R, o, none⟩ v) (some R) :=
  grownBy_trans h ⟨rfl, rfl, rfl, by simp [World.setCell], fun k _ hn => Below.heap_setCell _ _ _ _ (fun e => hn (by rw [e]))⟩
theorem grownBy_below {a b : World} {row : Option Nat} (h : Below a.heap.size a b) : a.grownBy b row := ⟨h.os, h.tape, h.output, h.size, fun k hk _ => h.block k hk⟩

/-- A digest on its way lies in block R. -/
def RunAt (w : World) (R : Nat) (r : Rn) : Prop :=
  (w.cell? ⟨R, 0, none⟩ = some (.int .u32 (U r.s.a)) ∧ w.cell? ⟨R, 1, none⟩ = some (.int .u32 (U r.s.b)) ∧ w.cell? ⟨R, 2, none⟩ = some (.int .u32 (U r.s.c)) ∧ w.cell? ⟨R, 3, none⟩ = some (.int .u32 (U r.s.d)) ∧
    w.cell? ⟨R, 4, none⟩ = some (.int .u32 (U r.s.e)) ∧ w.cell? ⟨R, 5, none⟩ = some (.int .u32 (U r.s.f)) ∧ w.cell? ⟨R, 6, none⟩ = some (.int .u32 (U r.s.g)) ∧ w.cell? ⟨R, 7, none⟩ = some (.int .u32 (U r.s.h))) ∧
  (∀ j, j < 64 → w.cell? ⟨R, 8 + j, none⟩ = some (.int .u8 (r.blk.getD j 0))) ∧ w.cell? ⟨R, 72, none⟩ = some (.int .u64 (r.c : Int)) ∧
  (∀ j, j < 73 → w.frozen? ⟨R, j, none⟩ = false) ∧ r.blk.length = 64 ∧ Bytes r.blk

theorem grownBy_setCells {a : World} {R : Nat} : ∀ (vs : List Value) (o : Nat) (b : World), a.grownBy b (some R) → a.grownBy (b.setCells R o vs) (some R)
  | [], _, _, h => h
  | v :: r, o, b, h => by
    rw [World.setCells]
    exact grownBy_setCells r (o + 1) _ (grownBy_setCell h o v)

theorem RunAt.stored {w : World} {R : Nat} {s : St} {blk : List Int} {c : Nat} (h : RunAt w R ⟨s, blk, c⟩) {x : Int} (h0 : 0 ≤ x) (h1 : x < 256) :
    RunAt (((w.setCell ⟨R, 8 + c % 64, none⟩ (.int .u8 x)).setCell ⟨R, 72, none⟩ (.int .u64 ((c : Int) + 1))).drew) R ⟨s, blk.set (c % 64) x, c + 1⟩ := by
  obtain ⟨⟨p0, p1, p2, p3, p4, p5, p6, p7⟩, hB, hC, hf, hl, hby⟩ := h
  have far : ∀ j v, j ≠ 8 + c % 64 → j ≠ 72 → w.cell? ⟨R, j, none⟩ = some v → (((w.setCell ⟨R, 8 + c % 64, none⟩ (.int .u8 x)).setCell ⟨R, 72, none⟩ (.int .u64 ((c : Int) + 1))).drew).cell? ⟨R, j, none⟩ = some v := fun j v n1 n2 hv => by
    show ((w.setCell ⟨R, 8 + c % 64, none⟩ _).setCell ⟨R, 72, none⟩ _).cell? _ = _
    rw [World.cell?_setCell_other _ _ _ _ (by intro e; injection e; omega), World.cell?_setCell_other _ _ _ _ (by intro e; injection e; omega)]
    exact hv
  refine ⟨⟨far 0 _ (by omega) (by omega) p0, far 1 _ (by omega) (by omega) p1, far 2 _ (by omega) (by omega) p2, far 3 _ (by omega) (by omega) p3, far 4 _ (by omega) (by omega) p4, far 5 _ (by omega) (by omega) p5, far 6 _ (by omega) (by omega) p6, far 7 _ (by omega) (by omega) p7⟩, fun j hj => ?_, ?_, fun j hj => ?_, by simpa using hl, hby.set _ _ h0 h1⟩
  · by_cases e : j = c % 64
    · subst e
      show ((w.setCell ⟨R, 8 + c % 64, none⟩ _).setCell ⟨R, 72, none⟩ _).cell? _ = _
      rw [World.cell?_setCell_other _ _ _ _ (by intro e; injection e; omega), World.cell?_setCell_same _ _ _ (hB _ hj)]
      have : (blk.set (c % 64) x).getD (c % 64) 0 = x := by
        rw [List.getD_eq_getElem?_getD, List.getElem?_set_self (by have : blk.length = 64 := hl; omega)]; rfl
      rw [this]
    · rw [far (8 + j) _ (by omega) (by omega) (hB j hj)]
      have : (blk.set (c % 64) x).getD j 0 = blk.getD j 0 := by
        rw [List.getD_eq_getElem?_getD, List.getD_eq_getElem?_getD, List.getElem?_set_ne (by omega)]
      rw [this]
  · show ((w.setCell ⟨R, 8 + c % 64, none⟩ _).setCell ⟨R, 72, none⟩ _).cell? _ = _
    rw [World.cell?_setCell_same (u := .int .u64 (c : Int)) _ _ _ (by rw [World.cell?_setCell_other _ _ _ _ (by intro e; injection e; omega)]; exact hC)]
    rfl
  · show ((w.setCell ⟨R, 8 + c % 64, none⟩ _).setCell ⟨R, 72, none⟩ _).frozen? _ = _
    rw [World.frozen?_setCell, World.frozen?_setCell]
    exact hf j hj

theorem RunAt.below {w w' : World} {R n : Nat} {r : Rn} (h : RunAt w R r) (hR : R < n) (hb : Below n w w') : RunAt w' R r := by
  obtain ⟨⟨p0, p1, p2, p3, p4, p5, p6, p7⟩, hB, hC, hf, hl, hby⟩ := h
  have k : ∀ j, w'.cell? ⟨R, j, none⟩ = w.cell? ⟨R, j, none⟩ := fun j => hb.cell (p := ⟨R, j, none⟩) hR
  refine ⟨⟨?_, ?_, ?_, ?_, ?_, ?_, ?_, ?_⟩, fun j hj => ?_, ?_, fun j hj => ?_, hl, hby⟩
  all_goals first | (rw [k]; assumption) | (rw [k]; exact hB j hj) | (rw [hb.frozen (p := ⟨R, j, none⟩) hR]; exact hf j hj)

theorem RunAt.words {w : World} {R : Nat} {s t : St} {blk : List Int} {c : Nat} (h : RunAt w R ⟨s, blk, c⟩) :
    RunAt (w.setCells R 0 [.int .u32 (U t.a), .int .u32 (U t.b), .int .u32 (U t.c), .int .u32 (U t.d), .int .u32 (U t.e), .int .u32 (U t.f), .int .u32 (U t.g), .int .u32 (U t.h)]) R ⟨t, blk, c⟩ := by
  obtain ⟨⟨p0, p1, p2, p3, p4, p5, p6, p7⟩, hB, hC, hf, hl, hby⟩ := h
  have hin := World.cell?_setCells_in R [Value.int .u32 (U t.a), Value.int .u32 (U t.b), Value.int .u32 (U t.c), Value.int .u32 (U t.d), Value.int .u32 (U t.e), Value.int .u32 (U t.f), Value.int .u32 (U t.g), Value.int .u32 (U t.h)] 0 w (fun j hj => by
    match j, hj with
    | 0, _ => rw [p0]; rfl
    | 1, _ => rw [p1]; rfl
    | 2, _ => rw [p2]; rfl
    | 3, _ => rw [p3]; rfl
    | 4, _ => rw [p4]; rfl
    | 5, _ => rw [p5]; rfl
    | 6, _ => rw [p6]; rfl
    | 7, _ => rw [p7]; rfl)
  have hout : ∀ j, 8 ≤ j → (w.setCells R 0 [Value.int .u32 (U t.a), Value.int .u32 (U t.b), Value.int .u32 (U t.c), Value.int .u32 (U t.d), Value.int .u32 (U t.e), Value.int .u32 (U t.f), Value.int .u32 (U t.g), Value.int .u32 (U t.h)]).cell? ⟨R, j, none⟩ = w.cell? ⟨R, j, none⟩ := fun j hj =>
    World.cell?_setCells_out _ _ _ _ _ (fun _ _ => .inr (by simpa using hj))
  refine ⟨⟨hin 0 (by simp), hin 1 (by simp), hin 2 (by simp), hin 3 (by simp), hin 4 (by simp), hin 5 (by simp), hin 6 (by simp), hin 7 (by simp)⟩, fun j hj => ?_, ?_, fun j hj => ?_, hl, hby⟩
  · rw [hout _ (by omega)]; exact hB j hj
  · rw [hout _ (by omega)]; exact hC
  · rw [World.frozen?_setCells]; exact hf j hj

end Go.Proofs.YtkjlchfmplcobaeDoor
