/- The walk of along: each part with its digest. -/
import Derived.Test.YtkjlchfmplcobadDoorProg
import Derived.Test.YtkjlchfmplcobadDoorTreeGoShow
import Derived.WalkKit
import Derived.WalkSpells
import Derived.WalkLawsBesides
import Derived.Deep.RegionHeld3
import Derived.BigRegion
namespace Go.Proofs.YtkjlchfmplcobadDoor
open Go.RowKit

/-- The function value kv with what it captured, called with the parts of ps and the digests of p, brings J from one to the next; J hangs on no other variable of whole numbers that is made from N on. -/
structure Marks (wb : World) (N kv : Nat) (cv : Array Value) (ps : List (Nat × Nat)) (p : List (List Int)) (J : List (Nat × Nat) → World → Prop) : Prop where
  enters : ∀ args w, (callFunc kv args).run Tryd.prog w = .ok (.enter kv args) w
  keep : ∀ done w w', J done w → Below w.heap.size w w' → J done w'
  set : ∀ (done : List (Nat × Nat)) (w : World) (k : Nat) (x u : Value), J done w → N ≤ k → w.heap[k]? = some (.cells #[x] 3 (0, 0)) → J done (w.setCell ⟨k, 0, none⟩ u)
  call : ∀ (done : List (Nat × Nat)) (f e : Nat) (w : World) (v : Value), (done ++ [(f, e)]) <+: ps → J done w → BytesAt wb v (p.getD done.length []) → wb.heap.size ≤ w.heap.size →
    Calls Tryd.prog kv (#[partV f e, v] ++ cv) w fun r w' => r = .returned (.tuple #[]) ∧ J (done ++ [(f, e)]) w' ∧ MidT (fun t => t ≠ 23) wb.heap.size w w'
/-- What along keeps in its own variables. -/
def AlongI (wb : World) (N kv : Nat) (cv : Array Value) (a : Option Addr) (n c : Nat) (J : List (Nat × Nat) → World → Prop) (done : List (Nat × Nat)) (w : World) : Prop :=
  J done w ∧ Below wb.heap.size wb w ∧ w.heap[N]? = some (.cells #[.slice a n c] 22 (0, 0)) ∧ w.heap[N + 1]? = some (.cells #[.func (.func kv) #[] cv] 104 (0, 0)) ∧ w.heap[N + 2]? = some (.cells #[.int .i64 (done.length : Int)] 3 (0, 0))

set_option maxRecDepth 100000 in
set_option maxHeartbeats 1000000 in
theorem along1_call {wb : World} {N kv : Nat} {cv : Array Value} {ps : List (Nat × Nat)} {p : List (List Int)} {a : Option Addr} {n c : Nat} {J : List (Nat × Nat) → World → Prop} (M : Marks wb N kv cv ps p J) (hL : Lists wb a n c p) (hpl : n = ps.length) (hp1000 : ps.length ≤ 1000) (hN : wb.heap.size ≤ N)
    (done : List (Nat × Nat)) (f e : Nat) (w : World) (hp : (done ++ [(f, e)]) <+: ps) (hI : AlongI wb N kv cv a n c J done w) (hB : wb.heap.size ≤ w.heap.size) :
    Calls Tryd.prog 90 #[partV f e, .pointer (some ⟨N + 1, 0, none⟩), .pointer (some ⟨N, 0, none⟩), .pointer (some ⟨N + 2, 0, none⟩)] w fun r w' => r = .returned (.tuple #[]) ∧ AlongI wb N kv cv a n c J (done ++ [(f, e)]) w' ∧ Mid wb.heap.size w w' := by
  obtain ⟨hJ, hb, h1, h2, h3⟩ := hI
  have hd : done.length < n := by have := hp.length_le; simp at this; omega
  obtain ⟨pa, pc, ea, hcell⟩ := hL.at'.form
  rw [hL.len] at ea
  cases ea
  obtain ⟨b, off, rfl, hb0, hcl⟩ := hcell.resolve_left (by have := hL.len; omega)
  obtain ⟨da, dc, hc00, hB00⟩ := hcl done.length (by have := hL.len; omega)
  have hc0 := (hb.cell (p := ⟨b, off + done.length, none⟩) hb0).trans hc00
  have hnn : n ≤ 1000 := by omega
  clear hcell hcl hL hpl
  -- the part's own variable
  have bq := box_new w #[.int .i64 f, .int .i64 e] 96
  have g1 := box_old w (.cells #[.int .i64 f, .int .i64 e] 96) h1
  have g2 := box_old w (.cells #[.int .i64 f, .int .i64 e] 96) h2
  have g3 := box_old w (.cells #[.int .i64 f, .int .i64 e] 96) h3
  have hbW : Below w.heap.size w (w.alloc (.cells #[.int .i64 f, .int .i64 e] 96)) := (Below.refl _ _).alloc (Nat.le_refl _) _
  have hJW := M.keep _ _ _ hJ hbW
  have c0 := (hbW.cell (p := ⟨b, off + done.length, none⟩) (Nat.lt_of_lt_of_le hb0 hB)).trans hc0
  have hMW : MidT (fun t => t ≠ 23) wb.heap.size w (w.alloc (.cells #[.int .i64 f, .int .i64 e] 96)) := MidT.of_below hbW hB
  have hbb : Below wb.heap.size wb (w.alloc (.cells #[.int .i64 f, .int .i64 e] 96)) := hb.trans (hbW.mono hB)
  clear hJ hbW hb hc0 hc00 h1 h2 h3
  have eg := M.enters
  go_enter Tryd.func90, Tryd.ntmps90
  go_wp2_with fail
  generalize w.alloc (.cells #[.int .i64 f, .int .i64 e] 96) = W at *
  generalize w.heap.size = q at *
  have hcall := M.call done f e W.drew (.slice da (p.getD done.length []).length dc) hp (M.keep _ _ _ hJW (Below.refl _ _).drew) hB00 hbb.size
  have hbd : Below wb.heap.size wb W.drew := hbb.drew
  generalize (p.getD done.length []).length = dl at *
  obtain ⟨z0, z1, -, -⟩ := box_two bq
  have z2 := (box_cell g1).1
  have z3 := (box_cell g2).1
  have z4 := (box_cell g3).1
  go_region_held3 (fun w' => w'.cell? ⟨N + 1, 0, none⟩ = some (.func (.func kv) #[] cv) ∧ w'.cell? ⟨q, 0, none⟩ = some (.int .i64 f) ∧ w'.cell? ⟨q, 1, none⟩ = some (.int .i64 e) ∧ w'.cell? ⟨N, 0, none⟩ = some (.slice (some ⟨b, off, none⟩) n c) ∧ w'.cell? ⟨N + 2, 0, none⟩ = some (.int .i64 done.length) ∧ w'.cell? ⟨b, off + done.length, none⟩ = some (.slice da dl dc))
    (first | exact ⟨z3, z0, z1, z2, z4, c0⟩ | exact k2)
    (first | (refine hcall.mono ?_; rintro r w2 ⟨rfl, hJ2, hM2⟩; have p1 := (hM2.box N _ _ (by decide) g1).trans g1; have p2 := (hM2.box (N + 1) _ _ (by decide) g2).trans g2; have p3 := (hM2.box (N + 2) _ _ (by decide) g3).trans g3; have pq := (hM2.box q _ _ (by decide) bq).trans bq; have hb2 := hbd.trans hM2.below; have k2 : w2.cell? ⟨N + 1, 0, none⟩ = some (.func (.func kv) #[] cv) ∧ w2.cell? ⟨q, 0, none⟩ = some (.int .i64 f) ∧ w2.cell? ⟨q, 1, none⟩ = some (.int .i64 e) ∧ w2.cell? ⟨N, 0, none⟩ = some (.slice (some ⟨b, off, none⟩) n c) ∧ w2.cell? ⟨N + 2, 0, none⟩ = some (.int .i64 done.length) ∧ w2.cell? ⟨b, off + done.length, none⟩ = some (.slice da dl dc) := ⟨(box_cell p2).1, (box_two pq).1, (box_two pq).2.1, (box_cell p1).1, (box_cell p3).1, (hM2.below.cell (p := ⟨b, off + done.length, none⟩) hb0).trans c0⟩))
  obtain ⟨y0, y1⟩ := box_cell p3
  have o3 := box_set (v := .int .i64 ((done.length : Int) + 1)) p3
  have o1 := box_set_far (j := N + 2) (o := 0) (v := .int .i64 ((done.length : Int) + 1)) p1 (by omega)
  have o2 := box_set_far (j := N + 2) (o := 0) (v := .int .i64 ((done.length : Int) + 1)) p2 (by omega)
  have hJ3 := M.set _ _ _ _ (.int .i64 ((done.length : Int) + 1)) hJ2 (show N ≤ N + 2 by omega) p3
  have hM3 : Mid wb.heap.size w (w2.setCell ⟨N + 2, 0, none⟩ (.int .i64 ((done.length : Int) + 1))) :=
    Mid.trans (MidT.weaker (hMW.trans ((MidT.of_below (Below.refl _ _).drew hbb.size).trans hM2)) (fun t ht => by rw [ht]; decide)) (MidT.set p3 (by decide) (by omega) _)
  have hb3 := hb2.setCell (p := ⟨N + 2, 0, none⟩) (show wb.heap.size ≤ N + 2 by omega) (.int .i64 ((done.length : Int) + 1))
  clear hcall hM2 hJ2 hMW eg k2
  go_wp2_with fail
  go_end0
  refine ⟨rfl, ⟨hJ3, hb3, o1, o2, ?_⟩, hM3⟩
  rw [List.length_append, List.length_singleton]
  exact o3
theorem along1_visits {wb : World} {N kv : Nat} {cv : Array Value} {ps : List (Nat × Nat)} {p : List (List Int)} {a : Option Addr} {n c : Nat} {J : List (Nat × Nat) → World → Prop} (M : Marks wb N kv cv ps p J) (hL : Lists wb a n c p) (hpl : n = ps.length) (hp1000 : ps.length ≤ 1000) (hN : wb.heap.size ≤ N) :
    Visits wb.heap.size 90 #[.pointer (some ⟨N + 1, 0, none⟩), .pointer (some ⟨N, 0, none⟩), .pointer (some ⟨N + 2, 0, none⟩)] ps (AlongI wb N kv cv a n c J) :=
  ⟨fun _ _ => by simp [go_sem], fun done w w' h hb => ⟨M.keep _ _ _ h.1 hb, h.2.1.trans (hb.mono h.2.1.size), box_kept h.2.2.1 hb, box_kept h.2.2.2.1 hb, box_kept h.2.2.2.2 hb⟩,
    fun done f e w hp h hB => along1_call M hL hpl hp1000 hN done f e w hp h hB⟩
set_option maxRecDepth 100000 in
set_option maxHeartbeats 1000000 in
theorem along_any {wb w : World} {kw kv : Nat} {cw cv : Array Value} {ps : List (Nat × Nat)} {p : List (List Int)} {a : Option Addr} {n c : Nat} {J : List (Nat × Nat) → World → Prop} (hW : Walker w kw cw ps) (M : Marks wb w.heap.size kv cv ps p J) (hL : Lists wb a n c p) (hpl : n = ps.length) (hp1000 : ps.length ≤ 1000) (hb : Below wb.heap.size wb w) (hJ : J [] w) :
    Calls Tryd.prog 68 #[.func (.func kw) #[] cw, .slice a n c, .func (.func kv) #[] cv] w fun r w' => r = .returned (.tuple #[]) ∧ J ps w' := by
  have V := along1_visits M hL hpl hp1000 hb.size
  have bW : Below w.heap.size w (((w.alloc (.cells #[.slice a n c] 22)).alloc (.cells #[.func (.func kv) #[] cv] 104)).alloc (.cells #[.int .i64 0] 3)) := (((Below.refl _ _).alloc (Nat.le_refl _) _).alloc (by simp) _).alloc (by simp; omega) _
  have hbs := hb.size
  have hI : AlongI wb w.heap.size kv cv a n c J [] (((w.alloc (.cells #[.slice a n c] 22)).alloc (.cells #[.func (.func kv) #[] cv] 104)).alloc (.cells #[.int .i64 0] 3)) := by
    refine ⟨M.keep _ _ _ hJ bW, hb.trans (bW.mono hbs), box_old _ _ (box_one _ _ _ _), box_old _ _ (box_last _ _ _ _), ?_⟩
    have h := box_last (w.alloc (.cells #[.slice a n c] 22)) (.cells #[.func (.func kv) #[] cv] 104) #[.int .i64 0] 3
    rw [World.size_alloc] at h
    exact h
  have hC := hW.call _ _ _ _ _ V bW (by have := bW.size; omega) hI
  have eg := hW.enters
  clear V hI hJ M hpl hL
  go_enter Tryd.func68, Tryd.ntmps68
  go_wp2_with fail
  refine hC.mono ?_
  rintro r w1 ⟨rfl, hI1, hM⟩
  have hJ1 := hI1.1
  clear hC hM hI1
  go_wp2_with fail
  go_end0
  exact ⟨rfl, hJ1⟩

end Go.Proofs.YtkjlchfmplcobadDoor
