/- ShelfNine, ShelfAlive, ShelfMem, as one text. -/
import Derived.Test.YtbkkfchcdfhfgadDoorProg
import Derived.Test.YtbkkfchcdfhfgadDoorRunAI
import Derived.WalkKit
import Derived.WalkSpells
import Derived.WalkLawsBesides
/- Nine entries, as a law lays them; the walk of yearlaw5.alive, over package shelf's faces. -/
namespace Go.Proofs.YtbkkfchcdfhfgadDoor
open Go.RowKit

def nine : List (List Int) := [[1], [2], [3], [4], [5], [6], [7], [8], [9]]
theorem nine_wrong : wrongL nine = (0, 0) := rfl
theorem nine_short : ∀ e ∈ nine, e.length ≤ 200 := by decide
theorem nine_export : exportL nine = ⟨9, mth nine, segsL nine⟩ := by unfold exportL; rw [nine_wrong, if_neg (fun h => h rfl)]; rfl
theorem nine_segs : (segsL nine).length = 2 := segsN_length _ _
theorem nine_verify : verifyL ⟨9, mth nine, segsL nine⟩ = (nine, 0, 0) := verify_export (L := nine) (by decide) nine_short
theorem nine_entry : entryL ⟨9, mth nine, segsL nine⟩ 8 = ([9], 0) := entry_export (L := nine) (i := 8) (by decide) nine_short (by decide)
/-- Blocks of one byte each, one behind the other. -/
def litW (w : World) (zs : List Int) : World := zs.foldl (fun w z => w.alloc (.cells #[.int .u8 z] 5)) w
theorem litW_cons (w : World) (z : Int) (zs : List Int) : litW w (z :: zs) = litW (w.alloc (.cells #[.int .u8 z] 5)) zs := rfl
theorem litW_spec : ∀ (zs : List Int) (w : World), (litW w zs).heap.size = w.heap.size + zs.length ∧ Below w.heap.size w (litW w zs) ∧ ∀ j, j < zs.length → (litW w zs).cell? ⟨w.heap.size + j, 0, none⟩ = some (.int .u8 (zs.getD j 0))
  | [], w => ⟨rfl, Below.refl _ _, fun j hj => absurd hj (Nat.not_lt_zero _)⟩
  | z :: zs, w => by
    obtain ⟨h1, h2, h3⟩ := litW_spec zs (w.alloc (.cells #[.int .u8 z] 5))
    rw [litW_cons]
    have hs : (w.alloc (.cells #[.int .u8 z] 5)).heap.size = w.heap.size + 1 := by simp
    rw [hs] at h1 h2 h3
    refine ⟨by rw [h1, List.length_cons]; omega, ((Below.refl _ _).alloc (Nat.le_refl _) _).trans (h2.mono (Nat.le_succ _)), fun j hj => ?_⟩
    cases j with
    | zero =>
      rw [h2.cell (p := ⟨w.heap.size + 0, 0, none⟩) (by show w.heap.size < w.heap.size + 1; omega)]
      exact new_cell w _ _ 0 (by simp)
    | succ j =>
      have := h3 j (by simpa using hj)
      rw [show w.heap.size + (j + 1) = w.heap.size + 1 + j by omega]
      simpa using this
def nineRow (w : World) : Obj := .cells #[.slice (some ⟨w.heap.size, 0, none⟩) 1 1, .slice (some ⟨w.heap.size + 1, 0, none⟩) 1 1, .slice (some ⟨w.heap.size + 1 + 1, 0, none⟩) 1 1, .slice (some ⟨w.heap.size + 1 + 1 + 1, 0, none⟩) 1 1, .slice (some ⟨w.heap.size + 1 + 1 + 1 + 1, 0, none⟩) 1 1, .slice (some ⟨w.heap.size + 1 + 1 + 1 + 1 + 1, 0, none⟩) 1 1, .slice (some ⟨w.heap.size + 1 + 1 + 1 + 1 + 1 + 1, 0, none⟩) 1 1, .slice (some ⟨w.heap.size + 1 + 1 + 1 + 1 + 1 + 1 + 1, 0, none⟩) 1 1, .slice (some ⟨w.heap.size + 1 + 1 + 1 + 1 + 1 + 1 + 1 + 1, 0, none⟩) 1 1] 23
theorem nine_at (w : World) : Below w.heap.size w ((litW w [1, 2, 3, 4, 5, 6, 7, 8, 9]).alloc (nineRow w)) ∧ Lists ((litW w [1, 2, 3, 4, 5, 6, 7, 8, 9]).alloc (nineRow w)) (some ⟨w.heap.size + 1 + 1 + 1 + 1 + 1 + 1 + 1 + 1 + 1, 0, none⟩) 9 9 nine := by
  obtain ⟨h1, h2, h3⟩ := litW_spec [1, 2, 3, 4, 5, 6, 7, 8, 9] w
  generalize litW w [1, 2, 3, 4, 5, 6, 7, 8, 9] = W at *
  have h1' : W.heap.size = w.heap.size + 9 := h1
  have bA : Below W.heap.size W (W.alloc (nineRow w)) := (Below.refl _ _).alloc (Nat.le_refl _) _
  refine ⟨h2.trans (bA.mono h2.size), rfl, ?_, Nat.le_refl _, by unfold maxLen; omega, (fun h => by cases h), bytes_mem (fun x hx => ?_), short_mem (fun x hx => ?_)⟩
  · have e9 : w.heap.size + 1 + 1 + 1 + 1 + 1 + 1 + 1 + 1 + 1 = W.heap.size := by rw [h1']
    rw [e9]
    refine .inr ⟨W.heap.size, 0, 9, rfl, by simp, fun j hj => ?_⟩
    have hj' : j < 9 := hj
    have hc : (W.alloc (nineRow w)).cell? ⟨W.heap.size, 0 + j, none⟩ = some (.slice (some ⟨w.heap.size + j, 0, none⟩) 1 1) := by
      rw [Nat.zero_add]
      match j, hj' with
      | 0, _ => exact new_cell W _ _ 0 (by simp)
      | 1, _ => exact new_cell W _ _ 1 (by simp)
      | 2, _ => exact new_cell W _ _ 2 (by simp)
      | 3, _ => exact new_cell W _ _ 3 (by simp)
      | 4, _ => exact new_cell W _ _ 4 (by simp)
      | 5, _ => exact new_cell W _ _ 5 (by simp)
      | 6, _ => exact new_cell W _ _ 6 (by simp)
      | 7, _ => exact new_cell W _ _ 7 (by simp)
      | 8, _ => exact new_cell W _ _ 8 (by simp)
      | j + 9, h => omega
    refine ⟨_, _, _, hc, .inr ⟨w.heap.size + j, 0, 1, ?_, by simp; omega, fun i hi => ?_⟩⟩
    · match j, hj' with
      | 0, _ => rfl
      | 1, _ => rfl
      | 2, _ => rfl
      | 3, _ => rfl
      | 4, _ => rfl
      | 5, _ => rfl
      | 6, _ => rfl
      | 7, _ => rfl
      | 8, _ => rfl
      | j + 9, h => omega
    · have hi0 : i = 0 := by
        match j, hj' with
        | 0, _ => have : i < 1 := hi; omega
        | 1, _ => have : i < 1 := hi; omega
        | 2, _ => have : i < 1 := hi; omega
        | 3, _ => have : i < 1 := hi; omega
        | 4, _ => have : i < 1 := hi; omega
        | 5, _ => have : i < 1 := hi; omega
        | 6, _ => have : i < 1 := hi; omega
        | 7, _ => have : i < 1 := hi; omega
        | 8, _ => have : i < 1 := hi; omega
        | j + 9, h => omega
      subst hi0
      have := h3 j hj
      rw [Nat.add_zero, old_cell W (nineRow w) _ 0 (by omega), this]
      match j, hj' with
      | 0, _ => rfl
      | 1, _ => rfl
      | 2, _ => rfl
      | 3, _ => rfl
      | 4, _ => rfl
      | 5, _ => rfl
      | 6, _ => rfl
      | 7, _ => rfl
      | 8, _ => rfl
      | j + 9, h => omega
  · have hall : ∀ x ∈ nine, ∀ y ∈ x, 0 ≤ y ∧ y < 256 := by decide
    exact bytes_of_mem (hall x hx)
  · have : x.length ≤ 200 := nine_short x hx
    unfold maxLen; omega

end Go.Proofs.YtbkkfchcdfhfgadDoor

/- The walk of yearlaw5.alive, over package shelf's faces. -/
namespace Go.Proofs.YtbkkfchcdfhfgadDoor
open Go.RowKit

set_option maxRecDepth 100000 in
set_option maxHeartbeats 2000000 in
theorem alive5_any (hEx : ExportC) (hVe : VerifyC) (hEn : EntryC) (w : World) (hR : Ready w) :
    Calls Tryd.prog 18 #[] w fun e w' => e = .returned (.bool true) ∧ Below w.heap.size w w' := by
  obtain ⟨b0, hL⟩ := nine_at w
  have cE := hEx nine _ 9 9 _ (hR.below b0) hL
  rw [nine_wrong, nine_export] at cE
  dsimp only [faultV] at cE
  have hsg := nine_segs
  have cV : ∀ w' mv, Below w.heap.size w w' → ManAt w' mv ⟨9, mth nine, segsL nine⟩ → _ := fun w' mv h hm => hVe _ mv w' (hR.below h) hm
  have cN : ∀ w' mv, ManAt w' mv ⟨9, mth nine, segsL nine⟩ → _ := fun w' mv hm => hEn _ 8 mv w' hm (by decide)
  rw [nine_verify] at cV
  rw [nine_entry] at cN
  dsimp only [faultV] at cV cN
  clear hL
  generalize mth nine = M at *
  generalize segsL nine = SG at *
  simp only [litW, List.foldl, nineRow] at b0 cE
  go_enter Tryd.func18, Tryd.ntmps18
  go_wp2_with fail
  refine cE.mono ?_
  rintro e w1 ⟨mv, rfl, hM, hb1⟩
  have b1 := b0.trans (hb1.mono b0.size)
  clear cE hb1 b0
  obtain ⟨rv, sv, rfl, hr, a, c, rfl, hN1, hN2, hN3, hcell⟩ := hM
  obtain ⟨ra, rc, rfl⟩ := hr.at'.form
  dsimp only at hr
  have hM : ManAt w1 (.agg #[.int .i64 9, .slice ra M.length rc, .slice a SG.length c]) ⟨9, M, SG⟩ := ⟨_, _, rfl, hr, a, c, rfl, hN1, hN2, hN3, hcell⟩
  clear hcell hr
  rw [hsg] at hM
  have d2 : Below w1.heap.size w1 ((w1.alloc (.cells #[.int .i64 9, (.slice ra M.length rc), .slice a 2 c] 28)).alloc (.cells #[.int .i64 0, .int .i64 0] 31)) := ((Below.refl _ _).alloc (Nat.le_refl _) _).alloc (by simp) _
  have b2 := b1.trans (d2.mono b1.size)
  have x2 := box_old _ (.cells #[.int .i64 0, .int .i64 0] 31) (box_new w1 #[.int .i64 9, (.slice ra M.length rc), .slice a 2 c] 28)
  have y2 := box_last w1 (.cells #[.int .i64 9, (.slice ra M.length rc), .slice a 2 c] 28) #[.int .i64 0, .int .i64 0] 31
  have hM2 := hM.below d2
  obtain ⟨u0, u1, u2, -, -, -⟩ := box_three x2
  rw [hsg]
  go_wp2_with fail
  generalize ((w1.alloc (.cells #[.int .i64 9, (.slice ra M.length rc), .slice a 2 c] 28)).alloc (.cells #[.int .i64 0, .int .i64 0] 31)) = w2 at *
  refine (cV _ _ b2 hM2).mono ?_
  rintro e w3 ⟨xa, xn, xc, rfl, hl, hb3⟩
  have b3 := b2.trans (hb3.mono b2.size)
  obtain rfl : xn = 9 := hl.lists.len.symm
  have d4 : Below w3.heap.size w3 (w3.alloc (.cells #[.int .i64 0, .int .i64 0] 31)) := (Below.refl _ _).alloc (Nat.le_refl _) _
  have b4 := b3.trans (d4.mono b3.size)
  have hM4 := (hM2.below hb3).below d4
  have x4 := box_old _ (.cells #[.int .i64 0, .int .i64 0] 31) (box_kept x2 hb3)
  have y4 := box_old _ (.cells #[.int .i64 0, .int .i64 0] 31) (box_kept y2 hb3)
  have z4 := box_new w3 #[.int .i64 0, .int .i64 0] 31
  obtain ⟨u0', u1', u2', -, -, -⟩ := box_three x4
  clear cV hl u0 u1 u2 x2 y2 hM hM2 hb3 d2 d4 b2 b3
  go_wp2_with fail
  generalize w3.alloc (.cells #[.int .i64 0, .int .i64 0] 31) = w4 at *
  refine (cN _ _ hM4).mono ?_
  rintro e w5 ⟨v, rfl, hs, hb5⟩
  have b5 := b4.trans (hb5.mono b4.size)
  obtain ⟨t0, t1, t2, -, -, -⟩ := box_three (box_kept x4 hb5)
  obtain ⟨p0, p1, -, -⟩ := box_two (box_kept y4 hb5)
  obtain ⟨q0, q1, -, -⟩ := box_two (box_kept z4 hb5)
  rcases hs.at' with ⟨hx, -⟩ | ⟨g, off, cp, rfl, hg, hc9⟩
  · cases hx
  have h9 := hc9 0 (by decide)
  rw [Nat.add_zero] at h9
  replace h9 : w5.cell? ⟨g, off, none⟩ = some (.int .u8 9) := h9
  clear hc9 hs hM4 cN x4 y4 z4 hb5 u0' u1' u2'
  dsimp only [List.length_cons, List.length_nil]
  go_wp2_with fail
  go_ret
  exact ⟨rfl, b5⟩

end Go.Proofs.YtbkkfchcdfhfgadDoor

/- Variables that are set, and lists that lie elsewhere. -/
namespace Go.Proofs.YtbkkfchcdfhfgadDoor
open Go.RowKit

theorem box2_set {w : World} {k : Nat} {u v u' v' : Value} {t : TypeId} (h : w.heap[k]? = some (.cells #[u, v] t (0, 0))) :
    ((w.setCell ⟨k, 0, none⟩ u').setCell ⟨k, 1, none⟩ v').heap[k]? = some (.cells #[u', v'] t (0, 0)) := by
  have h0 := heap_setCell_same _ _ 0 _ _ u' h
  have h1 := heap_setCell_same _ _ 1 _ _ v' h0
  exact h1
/-- Setting a variable that is no row of bytes, nor of slices of them. -/
theorem Laid.set {w : World} {a : Option Addr} {n c k o : Nat} {L : List (List Int)} {cs : Array Value} {t : TypeId} {mk : Nat × Nat} (h : Laid w a n c L) (hk : w.heap[k]? = some (.cells cs t mk)) (h1 : 5 ≠ t) (h2 : n ≠ 0 → ∀ g off, a = some ⟨g, off, none⟩ → g ≠ k) (u : Value) : Laid (w.setCell ⟨k, o, none⟩ u) a n c L := by
  obtain ⟨hl, vs, he, hc⟩ := h
  have hB : ∀ y d, ByteEl w y d → ByteEl (w.setCell ⟨k, o, none⟩ u) y d := fun y d hy => hy.same (fun g cur mk' hg => by
    rw [heap_setCell_other w ⟨k, o, none⟩ g u (fun e => ?_)]
    have e : g = k := e
    subst e
    rw [hg] at hk
    cases hk
    exact h1 rfl)
  have he' : Els (w.setCell ⟨k, o, none⟩ u) vs L := ⟨he.1, fun j hj => by obtain ⟨y, q1, q2⟩ := he.2 j hj; exact ⟨y, q1, hB _ _ q2⟩⟩
  have hcell : n ≠ 0 → ∀ b off, a = some ⟨b, off, none⟩ → ∀ j, (w.setCell ⟨k, o, none⟩ u).cell? ⟨b, off + j, none⟩ = w.cell? ⟨b, off + j, none⟩ := fun hn b off ha j => World.cell?_setCell_far _ _ _ _ (show k ≠ b from fun e => h2 hn b off ha e.symm)
  refine ⟨⟨hl.len, ?_, hl.room, hl.cap, hl.nil, hl.bytes, hl.short⟩, vs, he', fun ad ha j v hv => ?_⟩
  · rcases hl.at' with h | ⟨b, off, cp, e, hb, hp⟩
    · exact .inl h
    · cases e
      refine .inr ⟨b, off, c, rfl, by simpa using hb, fun j hj => ?_⟩
      obtain ⟨y, q1, q2⟩ := he'.2 j hj
      obtain ⟨ya, yc, rfl⟩ := q2.bytes.form
      refine ⟨ya, _, yc, ?_, q2.bytes⟩
      rw [hcell (by have := hl.len; omega) b off rfl]
      have := hc _ rfl j _ q1
      have e2 : (⟨b, off, none⟩ : Addr).add j = ⟨b, off + j, none⟩ := Addr.add_mid _ _ _
      rwa [e2] at this
  · have h3 := hc ad ha j v hv
    rcases hl.at' with ⟨rfl, -⟩ | ⟨b, off, cp, e, hb, hp⟩
    · have := (List.getElem?_eq_some_iff.1 hv).1
      rw [he.1] at this
      simp at this
    · cases e
      cases ha
      have e2 : (⟨b, off, none⟩ : Addr).add j = ⟨b, off + j, none⟩ := Addr.add_mid _ _ _
      rw [e2] at h3 ⊢
      rw [hcell (by have h4 := (List.getElem?_eq_some_iff.1 hv).1; rw [he.1, hl.len] at h4; omega) b off rfl]
      exact h3
/-- A list lies in no variable of two numbers. -/
theorem Lists.apart {w : World} {a : Option Addr} {n c k : Nat} {L : List (List Int)} {u v : Int} {t : TypeId} (h : Lists w a n c L) (hk : w.heap[k]? = some (.cells #[.int .i64 u, .int .i64 v] t (0, 0))) : n ≠ 0 → ∀ g off, a = some ⟨g, off, none⟩ → g ≠ k := fun hn g off ha e => by
  obtain ⟨b, o, pa, pc, hb, hc, -⟩ := h.get 0 (by omega)
  rw [ha] at hb
  cases hb
  subst e
  rw [cell_of_row w g (off + 0) _ t _ hk] at hc
  match off, hc with
  | 0, hc => simp at hc
  | 1, hc => simp at hc
  | o + 2, hc => simp at hc

end Go.Proofs.YtbkkfchcdfhfgadDoor
