/- ShelfMem, ClashFace, ShelfSpoiltWalk, ShelfSegs, as one text. -/
import Derived.Test.YtkjlchfmplcobadDoorProg
import Derived.Test.YtkjlchfmplcobadDoorRunAC
import Derived.WalkKit
import Derived.Test.YtkjlchfmplcobadDoorRunAI
import Derived.Test.YtkjlchfmplcobadDoorShaSum
import Derived.Test.YtkjlchfmplcobadDoorRunAB
import Derived.WalkSpells
import Derived.WalkLawsBesides
import Derived.Deep.QuietTactic
import Derived.BigQuiet
import Derived.Deep.AppendLies
import Derived.Laws.AppendOwnNone
/- Variables that are set, and lists that lie elsewhere. -/
namespace Go.Proofs.YtkjlchfmplcobadDoor
open Go.RowKit

theorem box2_set {w : World} {k : Nat} {u v u' v' : Value} {t : TypeId} (h : w.heap[k]? = some (.cells #[u, v] t (0, 0))) :
    ((w.setCell ⟨k, 0, none⟩ u').setCell ⟨k, 1, none⟩ v').heap[k]? = some (.cells #[u', v'] t (0, 0)) := by
  have h0 := heap_setCell_same _ _ 0 _ _ u' h
  have h1 := heap_setCell_same _ _ 1 _ _ v' h0
  exact h1
/-- Setting a variable that is no row of bytes, nor of slices of them. -/
theorem Laid.set {w : World} {a : Option Addr} {n c k o : Nat} {L : List (List Int)} {cs : Array Value} {t : TypeId} {mk : Nat × Nat} (h : Laid w a n c L) (hk : w.heap[k]? = some (.cells cs t mk)) (h1 : 5 ≠ t) (h2 : n ≠ 0 → ∀ g off, a = some ⟨g, off, none⟩ → g ≠ k) (u : Value) : Laid (w.setCell ⟨k, o, none⟩ u) a n c L := by
  obtain ⟨hl, vs, he, hc⟩ := h
  have hB : ∀ y d, ByteEl w y d → ByteEl (w.setCell ⟨k, o, none⟩ u) y d := fun y d hy => hy.same (fun g cur mk' hg => by
    rw [heap_setCell_other w ⟨k, o, none⟩ g u (fun e => ?_)]
    have e : g = k := e
    subst e
    rw [hg] at hk
    cases hk
    exact h1 rfl)
  have he' : Els (w.setCell ⟨k, o, none⟩ u) vs L := ⟨he.1, fun j hj => by obtain ⟨y, q1, q2⟩ := he.2 j hj; exact ⟨y, q1, hB _ _ q2⟩⟩
  have hcell : n ≠ 0 → ∀ b off, a = some ⟨b, off, none⟩ → ∀ j, (w.setCell ⟨k, o, none⟩ u).cell? ⟨b, off + j, none⟩ = w.cell? ⟨b, off + j, none⟩ := fun hn b off ha j => World.cell?_setCell_far _ _ _ _ (show k ≠ b from fun e => h2 hn b off ha e.symm)
  refine ⟨⟨hl.len, ?_, hl.room, hl.cap, hl.nil, hl.bytes, hl.short⟩, vs, he', fun ad ha j v hv => ?_⟩
  · rcases hl.at' with h | ⟨b, off, cp, e, hb, hp⟩
    · exact .inl h
    · cases e
      refine .inr ⟨b, off, c, rfl, by simpa using hb, fun j hj => ?_⟩
      obtain ⟨y, q1, q2⟩ := he'.2 j hj
      obtain ⟨ya, yc, rfl⟩ := q2.bytes.form
      refine ⟨ya, _, yc, ?_, q2.bytes⟩
      rw [hcell (by have := hl.len; omega) b off rfl]
      have := hc _ rfl j _ q1
      have e2 : (⟨b, off, none⟩ : Addr).add j = ⟨b, off + j, none⟩ := Addr.add_mid _ _ _
      rwa [e2] at this
  · have h3 := hc ad ha j v hv
    rcases hl.at' with ⟨rfl, -⟩ | ⟨b, off, cp, e, hb, hp⟩
    · have := (List.getElem?_eq_some_iff.1 hv).1
      rw [he.1] at this
      simp at this
    · cases e
      cases ha
      have e2 : (⟨b, off, none⟩ : Addr).add j = ⟨b, off + j, none⟩ := Addr.add_mid _ _ _
      rw [e2] at h3 ⊢
      rw [hcell (by have h4 := (List.getElem?_eq_some_iff.1 hv).1; rw [he.1, hl.len] at h4; omega) b off rfl]
      exact h3
/-- A list lies in no variable of two numbers. -/
theorem Lists.apart {w : World} {a : Option Addr} {n c k : Nat} {L : List (List Int)} {u v : Int} {t : TypeId} (h : Lists w a n c L) (hk : w.heap[k]? = some (.cells #[.int .i64 u, .int .i64 v] t (0, 0))) : n ≠ 0 → ∀ g off, a = some ⟨g, off, none⟩ → g ≠ k := fun hn g off ha e => by
  obtain ⟨b, o, pa, pc, hb, hc, -⟩ := h.get 0 (by omega)
  rw [ha] at hb
  cases hb
  subst e
  rw [cell_of_row w g (off + 0) _ t _ hk] at hc
  match off, hc with
  | 0, hc => simp at hc
  | 1, hc => simp at hc
  | o + 2, hc => simp at hc

end Go.Proofs.YtkjlchfmplcobadDoor

/- What the laws of chapter 3 ask of package clash's faces, as propositions: each is shown of the landed code elsewhere; and the walk of yearlaw3.two. -/
namespace Go.Proofs.YtkjlchfmplcobadDoor
open Go.RowKit

/-- Another leaf than that which is there is shown. -/
def clashS (L : List (List Int)) (b : List Int) (i : Int) (p : List (List Int)) : Bool := decide ((wrongL L).1 = 0) && standsL L.length (mth L) b i p && decide (L.getD i.toNat [] ≠ b)
/-- Two texts, unlike, with one digest; or none. -/
def Told (w : World) (vx vy : Value) (ok : Bool) : Prop := ∃ x y, Some' w vx x ∧ Some' w vy y ∧ x.length ≤ 1000000 ∧ y.length ≤ 1000000 ∧ (ok = true → x ≠ y ∧ shaL x = shaL y) ∧ (ok = false → x = [] ∧ y = [])
def ClashStandsC : Prop := ∀ (L : List (List Int)) (b : List Int) (i : Int) (p : List (List Int)) (bv : Value) (a : Option Addr) (n c : Nat) (pa : Option Addr) (pn pc : Nat) (w : World), Ready w → Lists w a n c L → Some' w bv b → Lists w pa pn pc p →
  Calls Tryd.prog 22 #[.slice a n c, bv, .int .i64 i, .slice pa pn pc] w fun e w' => ∃ vx vy, e = .returned (.tuple #[vx, vy, .bool (clashS L b i p)]) ∧ Told w' vx vy (clashS L b i p) ∧ Below w.heap.size w w'
end Go.Proofs.YtkjlchfmplcobadDoor

/- The walk of the law ShelfSpoilt, over the faces of packages tree, clash and shelf. -/
namespace Go.Proofs.YtkjlchfmplcobadDoor
open Go.RowKit

/-- What is verified under the head of entries, but is another, clashes with them. -/
theorem spoilt_clash {L X : List (List Int)} {i : Nat} (hw : (wrongL L).1 = 0) (hl : X.length = L.length) (h200 : ∀ j, (X.getD j []).length ≤ 200) (hm : mth X = mth L) (hi : i < L.length) (hne : X.getD i [] ≠ L.getD i []) : clashS L (X.getD i []) i (pathL X i) = true := by
  obtain ⟨h1, -⟩ := wrong_ok hw
  have hs := stands_path (L := X) (i := i) (by omega) (by omega) (h200 i)
  rw [hl, hm] at hs
  unfold clashS
  rw [decide_eq_true hw, hs, Int.toNat_natCast, decide_eq_true (p := L.getD i [] ≠ X.getD i []) (fun h => hne h.symm)]
  rfl
set_option maxRecDepth 100000 in
set_option maxHeartbeats 4000000 in
theorem shelfSpoilt_any (hRoot : RootC) (hPath : PathC) (hClash : ClashStandsC) (hEx : ExportC) (hVe : VerifyC) (hEn : EntryC) (L : List (List Int)) (m : Man) (a : Option Addr) (n c : Nat) (mv : Value) (w : World) (hR : Ready w) (hL : Lists w a n c L) (hM : ManAt w mv m) :
    Calls Tryd.prog 5 #[.slice a n c, mv] w fun e w' => e = .returned (.bool true) ∧ Below w.heap.size w w' := by
  have hcap := hL.cap
  have hroom := hL.room
  have hlen := hL.len
  unfold maxLen at hcap
  have cA := fun w' (h : Below w.heap.size w w') => alive5_any hEx hVe hEn w' (hR.below h)
  have cR := fun w' (h : Below w.heap.size w w') => hRoot L a n c w' (hR.below h) (hL.below h)
  obtain ⟨rv, sv, rfl, hr, sa, sc, rfl, hN1, hN2, hN3, hcell⟩ := hM
  have hSG : SegsAt w (.slice sa m.segs.length sc) m.segs := ⟨sa, sc, rfl, hN1, hN2, hN3, hcell⟩
  obtain ⟨ra, rc, rfl⟩ := hr.at'.form
  have x0 := box_new w #[.int .i64 m.size, .slice ra m.root.length rc, .slice sa m.segs.length sc] 28
  have b0 : Below w.heap.size w (w.alloc (.cells #[.int .i64 m.size, .slice ra m.root.length rc, .slice sa m.segs.length sc] 28)) := (Below.refl _ _).alloc (Nat.le_refl _) _
  have cA0 := cA _ b0
  clear hcell hr cA hN3
  by_cases h0 : (wrongL L).1 = 0
  case neg =>
    generalize m.segs.length = sn at *
    generalize m.root.length = rn at *
    generalize m.size = size at *
    generalize wrongL L = F at *
    obtain ⟨F1, F2⟩ := F
    dsimp only [faultV] at cR h0
    have i1 : (F1 != 0) = true := by simpa using h0
    clear hSG hL
    go_enter Tryd.func5, Tryd.ntmps5
    go_wp2_with fail
    generalize w.alloc (.cells #[.int .i64 size, .slice ra rn rc, .slice sa sn sc] 28) = w0 at *
    refine cA0.mono ?_
    rintro e w1 ⟨rfl, hb1⟩
    have b1 := b0.trans (hb1.mono b0.size)
    go_wp2_with fail
    refine (cR _ b1).mono ?_
    rintro e w2 ⟨ta, tn, tc, rfl, -, -, hb2⟩
    obtain ⟨c2, f0, -, sf⟩ := box_cells w2 (.int .i64 F1) (.int .i64 F2) 31
    have b2 := b1.trans (hb2.mono b1.size)
    have b3 := b2.trans (c2.mono b2.size)
    clear cR cA0
    go_wp2_with fail
    go_ret
    exact ⟨rfl, b3⟩
  obtain ⟨h100, h200⟩ := wrong_ok h0
  rw [wrong_zero h100 h200] at cR
  dsimp only [faultV] at cR
  have hml := mth_length L
  have hmb := bytes_mth L
  have cV := fun w' tv (h : Below w.heap.size w w') (ht : Some' w' tv (mth L)) => hVe ⟨(n : Int), mth L, m.segs⟩ (.agg #[.int .i64 (n : Int), tv, .slice sa m.segs.length sc]) w' (hR.below h) ⟨_, _, rfl, ht, hSG.below h⟩
  have HVS : Hid ((verifyL ⟨(n : Int), mth L, m.segs⟩).2.1 = 0 → (verifyL ⟨(n : Int), mth L, m.segs⟩).1.length = n ∧ mth (verifyL ⟨(n : Int), mth L, m.segs⟩).1 = mth L ∧ ∀ j, ((verifyL ⟨(n : Int), mth L, m.segs⟩).1.getD j []).length ≤ 200) := fun h => by
    obtain ⟨h1, -, -, h2⟩ := verify_spec h
    have h3 := (upTo_all h).1
    have h4 := (upTo_few ⟨(n : Int), mth L, m.segs⟩ m.segs.length).2
    rw [h1]
    exact ⟨Int.ofNat.inj h3, h2, short_mem h4⟩
  have HVE : Hid ((verifyL ⟨(n : Int), mth L, m.segs⟩).2.1 ≠ 0 → (verifyL ⟨(n : Int), mth L, m.segs⟩).1 = []) := fun h => verify_err h
  clear hSG
  generalize verifyL ⟨(n : Int), mth L, m.segs⟩ = V at *
  generalize m.segs.length = sn at *
  generalize m.root.length = rn at *
  generalize m.size = size at *
  obtain ⟨X, F1, F2⟩ := V
  dsimp only [faultV] at cV HVS HVE
  go_enter Tryd.func5, Tryd.ntmps5
  go_wp2_with fail
  generalize w.alloc (.cells #[.int .i64 size, .slice ra rn rc, .slice sa sn sc] 28) = w0 at *
  refine cA0.mono ?_
  rintro e w1 ⟨rfl, hb1⟩
  have b1 := b0.trans (hb1.mono b0.size)
  have x1 := box_kept x0 hb1
  have hg1 := lt_heap x1
  clear cA0 x0 b0 hb1
  go_wp2_with fail
  refine (cR _ b1).mono ?_
  rintro e w2 ⟨ta, tn, tc, rfl, ht, -, hb2⟩
  replace ht := ht (by trivial)
  obtain rfl := own_len ht
  have b2 := b1.trans (hb2.mono b1.size)
  have x2 := box_old _ (.cells #[.int .i64 0, .int .i64 0] 31) (box_kept x1 hb2)
  have y2 := box_new w2 #[.int .i64 0, .int .i64 0] 31
  have ht2 := ht.alloc (.cells #[.int .i64 0, .int .i64 0] 31)
  have b3 : Below w.heap.size w (w2.alloc (.cells #[.int .i64 0, .int .i64 0] 31)) := b2.alloc b2.size _
  obtain ⟨u0, u1, u2, u3, u4, u5⟩ := box_three x2
  obtain ⟨f0, f1, -, -⟩ := box_two y2
  have hgf : w.heap.size ≠ w2.heap.size := by have := lt_heap (box_kept x1 hb2); omega
  have hs2 := b2.size
  have hxA := heap_setCell_same _ _ 1 _ _ (.slice ta 32 tc) (heap_setCell_same _ _ 0 _ _ (.int .i64 (n : Int)) x2)
  have hyA := box_set_far (j := w.heap.size) (o := 1) (v := .slice ta 32 tc) (box_set_far (j := w.heap.size) (o := 0) (v := .int .i64 (n : Int)) y2 (by omega)) (by omega)
  have htA := ownsRow_setCell_below (a := ⟨w.heap.size, 1, none⟩) (ownsRow_setCell_below (a := ⟨w.heap.size, 0, none⟩) ht2 hg1 (.int .i64 (n : Int))) hg1 (.slice ta 32 tc)
  have bA := (b3.setCell (p := ⟨w.heap.size, 0, none⟩) (Nat.le_refl _) (.int .i64 (n : Int))).setCell (p := ⟨w.heap.size, 1, none⟩) (Nat.le_refl _) (.slice ta 32 tc)
  replace hxA : (((w2.alloc (.cells #[.int .i64 0, .int .i64 0] 31)).setCell ⟨w.heap.size, 0, none⟩ (.int .i64 (n : Int))).setCell ⟨w.heap.size, 1, none⟩ (.slice ta 32 tc)).heap[w.heap.size]? = some (.cells #[.int .i64 (n : Int), .slice ta 32 tc, .slice sa sn sc] 28 (0, 0)) := hxA
  obtain ⟨v0, v1, v2, -, -, -⟩ := box_three hxA
  have htS : Some' _ (.slice ta 32 tc) (mth L) := ⟨bytesAt_own htA, hmb, by rw [hml]; unfold maxLen; omega⟩
  have cV1 := cV _ _ bA htS
  clear cR ht ht2 htA x1 x2 y2 b3 cV htS hb2
  go_wp2_with fail
  generalize ((w2.alloc (.cells #[.int .i64 0, .int .i64 0] 31)).setCell ⟨w.heap.size, 0, none⟩ (.int .i64 (n : Int))).setCell ⟨w.heap.size, 1, none⟩ (.slice ta 32 tc) = w3 at *
  clear u0 u1 u2 u3 u4 u5 f0 f1 v0 v1 v2
  refine cV1.mono ?_
  rintro e w4 ⟨xa, xn, xc, rfl, hX, hb4⟩
  have b4 := bA.trans (hb4.mono bA.size)
  have y4 := box_kept hyA hb4
  obtain ⟨f0, f1, f2, f3⟩ := box_two y4
  have y5 := box2_set (u' := .int .i64 F1) (v' := .int .i64 F2) y4
  have hX5 := (hX.set (o := 0) y4 (by decide) (hX.lists.apart y4) (.int .i64 F1)).set (o := 1) (heap_setCell_same _ _ 0 _ _ (.int .i64 F1) y4) (by decide) (hX.lists.apart y4) (.int .i64 F2)
  have b5 := (b4.setCell (p := ⟨w2.heap.size, 0, none⟩) hs2 (.int .i64 F1)).setCell (p := ⟨w2.heap.size, 1, none⟩) hs2 (.int .i64 F2)
  obtain ⟨g0, g1, -, -⟩ := box_two y5
  have hXl := hX.lists.len
  clear cV1 hxA hyA hX hb4 y4 y5 bA b4
  by_cases hF : F1 = 0
  case neg =>
    have i1 : (F1 != 0) = true := by simpa using hF
    obtain rfl := HVE.out hF
    obtain rfl : xn = 0 := by simpa using hXl.symm
    clear HVE HVS hX5 hF
    go_wp2_with fail
    go_ret
    exact ⟨rfl, b5⟩
  subst hF
  obtain ⟨v1, v2, v3⟩ := HVS.out (by trivial)
  obtain rfl : xn = n := by omega
  have qn : ((xn : Int) != (xn : Int)) = false := by simp
  clear HVE HVS
  go_wp2_with fail
  generalize (w4.setCell ⟨w2.heap.size, 0, none⟩ (.int .i64 0)).setCell ⟨w2.heap.size, 1, none⟩ (.int .i64 F2) = w5 at *
  clear f0 f1 f2 f3 g0 g1 qn
  go_loopw [47] (fun kv wr => ∃ k : Nat, k ≤ xn ∧ kv = .int .i64 k ∧ Below w5.heap.size w5 wr) (fun kv _ => xn - (intOf kv).toNat)
  case atStart => exact ⟨0, Nat.zero_le _, rfl, Below.refl _ _⟩
  case round =>
    obtain ⟨k, hk, rfl, hbr⟩ := hrel
    have hbw := b5.trans (hbr.mono b5.size)
    by_cases hlt : k < xn
    · have hlt' : (k : Int) < xn := by omega
      have hsr := hbr.size
      have hLr := hL.below hbw
      have hXr := hX5.lists.below hbr
      have hRr := hR.below hbw
      obtain ⟨b, off, pa, pc, ea, hcj, hsj⟩ := hXr.get k hlt
      obtain ⟨b', off', qa, qc, eb, hcl, hsl⟩ := hLr.get k hlt
      have HS : ∀ q, Calls Tryd.prog 15 #[.slice pa (X.getD k []).length pc, .slice qa (L.getD k []).length qc] (wr.drewN q) fun e w' => e = .returned (.bool (decide (X.getD k [] = L.getD k []))) ∧ ∃ n, w' = (wr.drewN q).drewN n := fun q => same_any _ _ _ _ _ (hsj.below (below_drewN' (Below.refl _ _) q)).at' (hsl.below (below_drewN' (Below.refl _ _) q)).at' hsj.short
      subst ea eb
      by_cases hq : X.getD k [] = L.getD k []
      · rw [decide_eq_true hq] at HS
        clear hsj hsl hXr hLr hX5 hL v1 v2 v3 h200 hq
        generalize (X.getD k []).length = dn at *
        generalize (L.getD k []).length = en at *
        go_wp2_with fail
        go_quiet ((go_at_call 15; exact Calls.quiet_of (HS _)))
        go_wp2_with fail
        go_roundw
        case rel => exact ⟨k + 1, by omega, by go_num, below_drewN' hbr _⟩
        case measure => simp [intOf]; omega
      · rw [decide_eq_false hq] at HS
        have hcs := spoilt_clash h0 (by omega) v3 v2 (by omega) hq
        have hwx : wrongL X = (0, 0) := wrong_zero (by omega) v3
        have hpf : pathF X (k : Int) = (0, 0) := by unfold pathF; rw [hwx, if_neg (fun h => h rfl), if_neg (by omega)]
        have cP := fun w' (h : Below wr.heap.size wr w') => hPath X k (some ⟨b, off, none⟩) xn xc w' (hRr.below h) (hXr.below h)
        rw [hpf] at cP
        have cC := fun w' pA pN pC (h : Below wr.heap.size wr w') (hp : Lists w' pA pN pC (pathL X k)) => hClash L (X.getD k []) k (pathL X k) (.slice pa (X.getD k []).length pc) (some ⟨b', off', none⟩) xn c pA pN pC w' (hRr.below h) (hLr.below h) (hsj.below h) hp
        rw [hcs] at cC
        dsimp only [faultV] at cP
        have hpb := path_bytes X k
        have hpd := path_digs X k
        rw [Int.toNat_natCast] at cP
        have hb9 : b < wr.heap.size := World.block_lt_of_cell? wr ⟨b, off + k, none⟩ hcj
        have cU := fun w' v (x : List Int) (h : Below wr.heap.size wr w') (hx : Some' w' v x) (hx2 : x.length ≤ 1000000) => sum_any x v w' hx.at' (by omega) hx.bytes (hRr.below h).tab (hRr.below h).big
        have hLs := hXr
        clear hsj hsl hXr hLr hX5 hL v1 v2 v3 h200 hq hcs hwx hpf hLs
        generalize (X.getD k []).length = dn at *
        generalize (L.getD k []).length = en at *
        generalize pathL X k = PL at *
        go_wp2_with fail
        go_quiet ((go_at_call 15; exact Calls.quiet_of (HS _)))
        have d6 : Below wr.heap.size wr (wr.drewN nq) := below_drewN' (Below.refl _ _) nq
        have hcj6 : (wr.drewN nq).cell? ⟨b, off + k, none⟩ = some (.slice pa dn pc) := hcj
        generalize wr.drewN nq = w6 at *
        clear HS hcl
        go_wp2_with fail
        refine (cP _ d6).mono ?_
        rintro e w7 ⟨pA, pN, pC, rfl, hp, -, hb7⟩
        replace hp := hp (by trivial)
        have hpl := hp.lists hpb (digs_short hpd)
        obtain ⟨c7, f0, -, sf⟩ := box_cells w7 (.int .i64 0) (.int .i64 0) 31
        have d7 := d6.trans (hb7.mono d6.size)
        have d8 := d7.trans (c7.mono d7.size)
        have hpl8 := hpl.below c7
        have hcj8 := (d8.cell (p := ⟨b, off + k, none⟩) hb9).trans hcj
        have cC8 := cC _ _ _ _ d8 hpl8
        clear cP hp hpl hcj6 hpb hpd hpl8 cC
        go_wp2_with fail
        generalize w7.alloc (.cells #[.int .i64 0, .int .i64 0] 31) = w8 at *
        refine cC8.mono ?_
        rintro e w9 ⟨vx, vy, rfl, ht, hb9'⟩
        have d9 := d8.trans (hb9'.mono d8.size)
        have f9 := (hb9'.cell (p := ⟨w7.heap.size, 0, none⟩) sf).trans f0
        obtain ⟨x, y, hx, hy, hx2, hy2, hne, -⟩ := ht
        obtain ⟨hne, hsh⟩ := hne rfl
        have sA := same_any x y vx vy w9 hx.at' hy.at' hx.short
        rw [decide_eq_false hne] at sA
        obtain ⟨xA, xC, rfl⟩ := hx.at'.form
        obtain ⟨yA, yC, rfl⟩ := hy.at'.form
        clear cC8 f0 sf hcj8 hne
        go_wp2_with fail
        refine sA.mono ?_
        rintro e wa ⟨rfl, qa', rfl⟩
        have da := below_drewN' d9 qa'
        have hxa := hx.below (below_drewN' (Below.refl _ _) qa')
        have hya := hy.below (below_drewN' (Below.refl _ _) qa')
        generalize w9.drewN qa' = wa at *
        have cU1 := cU wa _ x da hxa hx2
        clear sA hx hy f9
        go_wp2_with fail
        refine cU1.mono ?_
        rintro e wb ⟨gb, rfl, hob, hbb⟩
        have db := da.trans (hbb.mono da.size)
        have cU2 := cU wb _ y db (hya.below hbb) hy2
        clear cU1 cU
        go_wp2_with fail
        refine cU2.mono ?_
        rintro e wc ⟨gc, rfl, hoc, hbc⟩
        have dc := db.trans (hbc.mono db.size)
        have sB := same_any (shaL x) (shaL y) _ _ wc ((bytesAt_own hob).below (Nat.le_refl _) hbc) (bytesAt_own hoc) (by rw [shaL_len]; unfold maxLen; omega)
        rw [decide_eq_true hsh] at sB
        clear cU2 hob hoc
        go_wp2_with fail
        refine sB.mono ?_
        rintro e wd ⟨rfl, qd, rfl⟩
        have dd := below_drewN' dc qd
        go_wp2_with fail
        go_roundw
        case rel => exact ⟨k + 1, by omega, by go_num, hbr.trans (dd.mono hsr)⟩
        case measure => simp [intOf]; omega
    · obtain rfl : k = xn := by omega
      have hnl : ¬ (k : Int) < k := by omega
      clear v1 v2 v3 h200 hX5 hL
      go_wp2_with fail
      go_ret
      exact ⟨rfl, hbw⟩

end Go.Proofs.YtkjlchfmplcobadDoor

/- Segments as rows of a call's own; parts of lists. -/
namespace Go.Proofs.YtkjlchfmplcobadDoor
open Go.RowKit

theorem Tryd.info55b : (Tryd.prog.info? 55).map (fun i => (i.zero, i.size, i.bytes)) = some (some (.agg #[.int .i64 0, .int .i64 0, .slice none 0 0]), 3, 40) := by kernel_rfl
theorem Lists.part {w : World} {b off n c i m : Nat} {L : List (List Int)} (h : Lists w (some ⟨b, off, none⟩) n c L) (hi : i + m ≤ n) (hm : 1 ≤ m) : Lists w (some ⟨b, off + i, none⟩) m (c - i) ((L.drop i).take m) := by
  have hl := h.len
  have hr := h.room
  have hc := h.cap
  have hd := h.at'.drop (k := i) hl (by omega) (by omega) (c - i)
  refine ⟨by rw [List.length_take, List.length_drop]; omega, hd.take (by rw [List.length_drop]; omega) (by omega) (by omega) _, by omega, by omega, fun e => (by cases e), ?_, ?_⟩
  · refine take_bytes (fun j => ?_) m
    rw [List.getD_eq_getElem?_getD, List.getElem?_drop, ← List.getD_eq_getElem?_getD]; exact h.bytes _
  · refine take_short (fun j => ?_) m
    rw [List.getD_eq_getElem?_getD, List.getElem?_drop, ← List.getD_eq_getElem?_getD]; exact h.short _
theorem own3_below {w w' : World} {base : Nat} {e : TypeId} {v : Value} {n N : Nat} {xs : List Value} (h : w.ownsRow base e 3 v n xs) (hb : Below N w w') (hN : w.heap.size ≤ N) : w'.ownsRow base e 3 v n xs :=
  h.kept (w' := w') (row := none) ⟨hb.os, hb.tape, hb.output, hb.size, fun k hk _ => hb.block k (Nat.lt_of_lt_of_le hk hN)⟩ (by cases v.ownBlock <;> simp)
theorem own_ne3 {w : World} {base b2 : Nat} {e1 e2 : TypeId} {v1 v2 : Value} {n1 n2 : Nat} {xs1 xs2 : List Value} (h1 : w.ownsRow base e1 1 v1 n1 xs1) (h2 : w.ownsRow b2 e2 3 v2 n2 xs2) (hne : e1 ≠ e2) : Sep v1 v2 := fun g hg1 hg2 => by
  rcases h1.2 with ⟨rfl, -⟩ | ⟨g1, c1, cur1, rfl, -, hh1, -⟩
  · cases hg1
  rcases h2.2 with ⟨rfl, -⟩ | ⟨g2, c2, cur2, rfl, -, hh2, -⟩
  · cases hg2
  cases hg1
  cases hg2
  rw [hh1] at hh2
  cases hh2
  exact hne rfl
/-- The values of segments, each with bytes of the call's own. -/
def SegEls (w : World) (base : Nat) (vs : List Value) (l : List Seg) : Prop :=
  vs.length = l.length * 3 ∧ ∀ j, j < l.length → vs[j * 3]? = some (.int .i64 (l.getD j seg0).first) ∧ vs[j * 3 + 1]? = some (.int .i64 (l.getD j seg0).count) ∧
    ∃ y, vs[j * 3 + 2]? = some y ∧ w.ownsRow base 5 1 y (l.getD j seg0).packed.length ((l.getD j seg0).packed.map (Value.int .u8))
theorem SegEls.kept {w w' : World} {base b2 : Nat} {vs : List Value} {l : List Seg} {v : Value} {n : Nat} {xs : List Value} (h : SegEls w base vs l) (hr : w.ownsRow b2 55 3 v n xs) (hg : w.grownBy w' v.ownBlock) : SegEls w' base vs l :=
  ⟨h.1, fun j hj => by
    obtain ⟨h0, h1, y, h2, h3⟩ := h.2 j hj
    exact ⟨h0, h1, y, h2, h3.kept hg (own_ne3 h3 hr (by decide)).or⟩⟩
theorem SegEls.alloc {w : World} {base : Nat} {vs : List Value} {l : List Seg} (h : SegEls w base vs l) (o : Obj) : SegEls (w.alloc o) base vs l :=
  ⟨h.1, fun j hj => by
    obtain ⟨h0, h1, y, h2, h3⟩ := h.2 j hj
    exact ⟨h0, h1, y, h2, h3.alloc o⟩⟩
theorem SegEls.below {w w' : World} {base N : Nat} {vs : List Value} {l : List Seg} (h : SegEls w base vs l) (hb : Below N w w') (hN : w.heap.size ≤ N) : SegEls w' base vs l :=
  ⟨h.1, fun j hj => by
    obtain ⟨h0, h1, y, h2, h3⟩ := h.2 j hj
    exact ⟨h0, h1, y, h2, own_below h3 hb hN⟩⟩
theorem SegEls.snoc {w : World} {base : Nat} {vs : List Value} {l : List Seg} {s : Seg} {y : Value} (h : SegEls w base vs l) (hy : w.ownsRow base 5 1 y s.packed.length (s.packed.map (Value.int .u8))) : SegEls w base (vs ++ [.int .i64 s.first, .int .i64 s.count, y]) (l ++ [s]) := by
  obtain ⟨hl, h⟩ := h
  refine ⟨by simp; omega, fun j hj => ?_⟩
  by_cases e : j < l.length
  · obtain ⟨h0, h1, z, h2, h3⟩ := h j e
    have eg : (l ++ [s]).getD j seg0 = l.getD j seg0 := by rw [List.getD_eq_getElem?_getD, List.getElem?_append_left e, ← List.getD_eq_getElem?_getD]
    rw [eg, List.getElem?_append_left (by omega), List.getElem?_append_left (by omega), List.getElem?_append_left (by omega)]
    exact ⟨h0, h1, z, h2, h3⟩
  · obtain rfl : j = l.length := by simp at hj; omega
    have eg : (l ++ [s]).getD l.length seg0 = s := by rw [List.getD_eq_getElem?_getD, List.getElem?_append_right (Nat.le_refl _), Nat.sub_self]; rfl
    rw [eg, List.getElem?_append_right (by omega), List.getElem?_append_right (by omega), List.getElem?_append_right (by omega), hl, Nat.sub_self, show l.length * 3 + 1 - l.length * 3 = 1 by omega, show l.length * 3 + 2 - l.length * 3 = 2 by omega]
    exact ⟨rfl, rfl, y, rfl, hy⟩
theorem segEls_nil (w : World) (base : Nat) : SegEls w base [] [] := ⟨rfl, fun _ hj => absurd hj (Nat.not_lt_zero _)⟩
/-- Segments, all of them the call's own. -/
def OwnSegs (w : World) (base : Nat) (v : Value) (l : List Seg) : Prop := ∃ vs, w.ownsRow base 55 3 v l.length vs ∧ SegEls w base vs l
theorem OwnSegs.below {w w' : World} {base N : Nat} {v : Value} {l : List Seg} (h : OwnSegs w base v l) (hb : Below N w w') (hN : w.heap.size ≤ N) : OwnSegs w' base v l := by
  obtain ⟨vs, h1, h2⟩ := h
  exact ⟨vs, own3_below h1 hb hN, h2.below hb hN⟩
theorem OwnSegs.set {w : World} {base k o : Nat} {v : Value} {l : List Seg} (h : OwnSegs w base v l) (hk : k < base) (u : Value) : OwnSegs (w.setCell ⟨k, o, none⟩ u) base v l := by
  obtain ⟨vs, h1, h2, h3⟩ := h
  refine ⟨vs, ownsRow_setCell_below h1 (a := ⟨k, o, none⟩) hk u, h2, fun j hj => ?_⟩
  obtain ⟨g0, g1, y, g2, g3⟩ := h3 j hj
  exact ⟨g0, g1, y, g2, ownsRow_setCell_below g3 (a := ⟨k, o, none⟩) hk u⟩
theorem OwnSegs.segs {w : World} {base : Nat} {v : Value} {l : List Seg} (h : OwnSegs w base v l) (hby : SegsBytes l) : SegsAt w v l := by
  obtain ⟨vs, h1, -, h2⟩ := h
  rcases h1.2 with ⟨hv, hn⟩ | ⟨g, cap, cur, rfl, -, hg, h3, h4, -⟩
  · exact ⟨none, 0, by rw [hv, hn], by omega, Nat.zero_le _, fun _ => rfl, .inl hn⟩
  · refine ⟨_, cap, rfl, h3, h4, (fun e => by cases e), .inr ⟨g, 0, rfl, lt_heap hg, fun j hj => ?_⟩⟩
    obtain ⟨g0, g1, y, g2, g3⟩ := h2 j hj
    rw [Nat.zero_add]
    refine ⟨(h1.cellAt (j * 3) (by omega)).trans g0, (h1.cellAt (j * 3 + 1) (by omega)).trans g1, ?_⟩
    obtain ⟨pa, pc, rfl, q1, q2⟩ := own_cap g3
    exact ⟨pa, pc, (h1.cellAt (j * 3 + 2) (by omega)).trans g2, ⟨bytesAt_own g3, hby j, by omega⟩, q1, q2⟩
/-- Each segment's bytes lie in a later block than those of the one ahead. -/
def RiseV (vs : List Value) (m : Nat) : Prop := ∀ i j, i < j → j < m → ∀ y z g h, vs[i * 3 + 2]? = some y → vs[j * 3 + 2]? = some z → y.ownBlock = some g → z.ownBlock = some h → g < h
theorem riseV_nil : RiseV [] 0 := fun _ _ _ h => absurd h (Nat.not_lt_zero _)
theorem RiseV.snoc {w : World} {base m : Nat} {vs : List Value} {l : List Seg} {a b y : Value} (h : RiseV vs m) (he : SegEls w base vs l) (hm : l.length = m) (hy : ∀ g, y.ownBlock = some g → w.heap.size ≤ g) : RiseV (vs ++ [a, b, y]) (m + 1) := fun i j hij hj u z g q hu hz hg hq => by
  have hl : vs.length = m * 3 := by rw [← hm]; exact he.1
  rw [List.getElem?_append_left (by omega)] at hu
  by_cases e : j < m
  · rw [List.getElem?_append_left (by omega)] at hz
    exact h i j hij e u z g q hu hz hg hq
  · obtain rfl : j = m := by omega
    rw [List.getElem?_append_right (by omega), hl, show j * 3 + 2 - j * 3 = 2 by omega] at hz
    cases hz
    obtain ⟨-, -, x, h1, h2⟩ := he.2 i (by omega)
    rw [hu] at h1
    cases h1
    have := (h2.lt g hg).2
    have := hy q hq
    omega
theorem lit_seg (w : World) (x y : Int) (pv : Value) (t : TypeId) : ∀ (j : Nat) (u : Value), [Value.int .i64 x, .int .i64 y, pv][j]? = some u → (w.alloc (.cells #[.int .i64 x, .int .i64 y, pv] t)).cell? ((⟨w.heap.size, 0, none⟩ : Addr).add j) = some u := fun j u hj => by
  have hadd : (⟨w.heap.size, 0, none⟩ : Addr).add j = ⟨w.heap.size, 0 + j, none⟩ := Addr.add_mid _ _ _
  rw [hadd, Nat.zero_add]
  match j, hj with
  | 0, hj => rw [new_cell w t _ 0 (by simp)]; simpa using hj
  | 1, hj => rw [new_cell w t _ 1 (by simp)]; simpa using hj
  | 2, hj => rw [new_cell w t _ 2 (by simp)]; simpa using hj
  | j + 3, hj => simp at hj
theorem segK_bytes {L : List (List Int)} (hb : ∀ j, Bytes (L.getD j [])) (h : ∀ e ∈ L, e.length ≤ 200) (k : Nat) : Bytes (segK L k).packed := by
  refine pack_bytes ?_ (lay_part h k)
  refine bytes_of_mem (fun x hx => ?_)
  unfold layL at hx
  obtain ⟨e, he, hx⟩ := List.mem_flatMap.1 hx
  have h200 := short_part h k e he
  rcases List.mem_cons.1 hx with rfl | hx
  · omega
  · obtain ⟨j, hj, rfl⟩ := List.mem_iff_getElem.1 (List.mem_of_mem_drop (List.mem_of_mem_take he))
    have := hb j
    rw [List.getD_eq_getElem?_getD, List.getElem?_eq_getElem hj] at this
    exact bytes_forall this x hx
theorem segsL_bytes {L : List (List Int)} (hb : ∀ j, Bytes (L.getD j [])) (h : ∀ e ∈ L, e.length ≤ 200) : SegsBytes (segsL L) := fun j => by
  by_cases hj : j < (L.length + 7) / 8
  · unfold segsL; rw [segsN_get _ _ _ hj]; exact segK_bytes hb h j
  · rw [List.getD_eq_getElem?_getD, List.getElem?_eq_none (by unfold segsL; rw [segsN_length]; omega)]; exact nil_bytes
/-- The text of a part. -/
theorem lay_bytes {l : List (List Int)} (hb : ∀ j, Bytes (l.getD j [])) (h : ∀ j, (l.getD j []).length ≤ 200) : Bytes (layL l) := by
  refine bytes_of_mem (fun x hx => ?_)
  unfold layL at hx
  obtain ⟨e, he, hx⟩ := List.mem_flatMap.1 hx
  obtain ⟨j, hj, rfl⟩ := List.mem_iff_getElem.1 he
  have h1 := hb j
  have h2 := h j
  rw [List.getD_eq_getElem?_getD, List.getElem?_eq_getElem hj] at h1 h2
  rcases List.mem_cons.1 hx with rfl | hx
  · simp at h2; omega
  · exact bytes_forall h1 x hx

end Go.Proofs.YtkjlchfmplcobadDoor
