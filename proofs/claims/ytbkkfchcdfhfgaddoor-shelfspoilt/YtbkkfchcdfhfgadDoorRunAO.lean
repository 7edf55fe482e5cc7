/- TreeGoSmall, TreeGoPart, TreeGoWalk, as one text. -/
import Derived.Test.YtbkkfchcdfhfgadDoorProg
import Derived.Test.YtbkkfchcdfhfgadDoorRunAN
import Derived.WalkKit
import Derived.WalkSpells
import Derived.WalkLawsBesides
import Derived.Test.YtbkkfchcdfhfgadDoorRunAG
import Derived.Lib.BitFns
import Derived.Deep.RegionHeld3
import Derived.BigRegion
/- The walks of package tree's small functions: Leaf, Node, isDigest, areDigests. -/
namespace Go.Proofs.YtbkkfchcdfhfgadDoor
open Go.RowKit

theorem bytesAt_new (w : World) (z : Int) (t : TypeId) : BytesAt (w.alloc (.cells #[.int .u8 z] t)) (.slice (some ⟨w.heap.size, 0, none⟩) 1 1) [z] := by
  refine .inr ⟨_, 0, 1, rfl, by simp, fun j hj => ?_⟩
  obtain rfl : j = 0 := by simp at hj; omega
  rw [Nat.add_zero, new_cell w t #[.int .u8 z] 0 (by simp)]; rfl
theorem parts_two {w : World} {v : Value} {b : List Int} (h : BytesAt w v b) (z : Int) (t s : TypeId) :
    PartsAt ((w.alloc (.cells #[.int .u8 z] t)).alloc (.cells #[.slice (some ⟨w.heap.size, 0, none⟩) 1 1, v] s)) (.slice (some ⟨w.heap.size + 1, 0, none⟩) 2 2) [[z], b] := by
  obtain ⟨a, c, rfl⟩ := h.form
  refine .inr ⟨_, 0, 2, rfl, by simp, fun j hj => ?_⟩
  have hb0 : Below w.heap.size w ((w.alloc (.cells #[.int .u8 z] t)).alloc (.cells #[.slice (some ⟨w.heap.size, 0, none⟩) 1 1, .slice a b.length c] s)) := ((Below.refl _ _).alloc (Nat.le_refl _) _).alloc (by simp) _
  have hb1 : Below (w.alloc (.cells #[.int .u8 z] t)).heap.size (w.alloc (.cells #[.int .u8 z] t)) ((w.alloc (.cells #[.int .u8 z] t)).alloc (.cells #[.slice (some ⟨w.heap.size, 0, none⟩) 1 1, .slice a b.length c] s)) := (Below.refl _ _).alloc (Nat.le_refl _) _
  have hj' : j = 0 ∨ j = 1 := by simp at hj; omega
  rcases hj' with rfl | rfl
  · exact ⟨_, _, _, by simp, (bytesAt_new w z t).below (Nat.le_refl _) hb1⟩
  · exact ⟨_, _, _, by simp, h.below (Nat.le_refl _) hb0⟩
theorem parts_three {w : World} {v u : Value} {b d : List Int} (h : BytesAt w v b) (h2 : BytesAt w u d) (z : Int) (t s : TypeId) :
    PartsAt ((w.alloc (.cells #[.int .u8 z] t)).alloc (.cells #[.slice (some ⟨w.heap.size, 0, none⟩) 1 1, v, u] s)) (.slice (some ⟨w.heap.size + 1, 0, none⟩) 3 3) [[z], b, d] := by
  obtain ⟨a, c, rfl⟩ := h.form
  obtain ⟨a2, c2, rfl⟩ := h2.form
  refine .inr ⟨_, 0, 3, rfl, by simp, fun j hj => ?_⟩
  have hb0 : Below w.heap.size w ((w.alloc (.cells #[.int .u8 z] t)).alloc (.cells #[.slice (some ⟨w.heap.size, 0, none⟩) 1 1, .slice a b.length c, .slice a2 d.length c2] s)) := ((Below.refl _ _).alloc (Nat.le_refl _) _).alloc (by simp) _
  have hb1 : Below (w.alloc (.cells #[.int .u8 z] t)).heap.size (w.alloc (.cells #[.int .u8 z] t)) ((w.alloc (.cells #[.int .u8 z] t)).alloc (.cells #[.slice (some ⟨w.heap.size, 0, none⟩) 1 1, .slice a b.length c, .slice a2 d.length c2] s)) := (Below.refl _ _).alloc (Nat.le_refl _) _
  have hj' : j = 0 ∨ j = 1 ∨ j = 2 := by simp at hj; omega
  rcases hj' with rfl | rfl | rfl
  · exact ⟨_, _, _, by simp, (bytesAt_new w z t).below (Nat.le_refl _) hb1⟩
  · exact ⟨_, _, _, by simp, h.below (Nat.le_refl _) hb0⟩
  · exact ⟨_, _, _, by simp, h2.below (Nat.le_refl _) hb0⟩
theorem two_bytes {z : Int} {b : List Int} (h0 : 0 ≤ z) (h1 : z < 256) (h : Bytes b) : ∀ j, Bytes (([[z], b] : List (List Int)).getD j []) := fun j => by
  match j with
  | 0 => exact bytes_cons h0 h1 nil_bytes
  | 1 => exact h
  | j + 2 => exact nil_bytes
theorem three_bytes {z : Int} {b d : List Int} (h0 : 0 ≤ z) (h1 : z < 256) (h : Bytes b) (h2 : Bytes d) : ∀ j, Bytes (([[z], b, d] : List (List Int)).getD j []) := fun j => by
  match j with
  | 0 => exact bytes_cons h0 h1 nil_bytes
  | 1 => exact h
  | 2 => exact h2
  | j + 3 => exact nil_bytes

set_option maxRecDepth 100000 in
set_option maxHeartbeats 1000000 in
theorem leafC_holds : LeafC := by
  intro b v w hr hv hm
  have hp := parts_two hv.at' 0 5 23
  have hb : Below w.heap.size w ((w.alloc (.cells #[.int .u8 0] 5)).alloc (.cells #[.slice (some ⟨w.heap.size, 0, none⟩) 1 1, v] 23)) := ((Below.refl _ _).alloc (Nat.le_refl _) _).alloc (by simp) _
  have hK := tab_below hr.tab hb hr.big
  have h0 := Nat.lt_of_lt_of_le hr.big hb.size
  have hc := parts_any [[0], b] _ _ hp (by unfold maxLen; simp) (by simp; omega) (two_bytes (by decide) (by decide) hv.bytes) hK h0
  obtain ⟨a, c, e⟩ := hv.at'.form
  subst e
  go_enter Tryd.func60, Tryd.ntmps60
  go_wp2_with fail
  refine hc.mono ?_
  rintro e w1 ⟨g, rfl, ho, hb1⟩
  have hs := hb.size
  go_wp2_with fail
  go_ret
  refine ⟨_, rfl, ?_, hb.trans (hb1.mono hs)⟩
  have := ownsRow_base ho hs
  rwa [show ([[0], b] : List (List Int)).flatten = 0 :: b by simp] at this
set_option maxRecDepth 100000 in
set_option maxHeartbeats 1000000 in
theorem nodeC_holds : NodeC := by
  intro b1 b2 v1 v2 w hr hv1 hv2 hm
  have hp := parts_three hv1.at' hv2.at' 1 5 23
  have hb : Below w.heap.size w ((w.alloc (.cells #[.int .u8 1] 5)).alloc (.cells #[.slice (some ⟨w.heap.size, 0, none⟩) 1 1, v1, v2] 23)) := ((Below.refl _ _).alloc (Nat.le_refl _) _).alloc (by simp) _
  have hK := tab_below hr.tab hb hr.big
  have h0 := Nat.lt_of_lt_of_le hr.big hb.size
  have hc := parts_any [[1], b1, b2] _ _ hp (by unfold maxLen; simp) (by simp; omega) (three_bytes (by decide) (by decide) hv1.bytes hv2.bytes) hK h0
  obtain ⟨a, c, e⟩ := hv1.at'.form
  subst e
  obtain ⟨a2, c2, e⟩ := hv2.at'.form
  subst e
  go_enter Tryd.func62, Tryd.ntmps62
  go_wp2_with fail
  refine hc.mono ?_
  rintro e w1 ⟨g, rfl, ho, hb1⟩
  have hs := hb.size
  go_wp2_with fail
  go_ret
  refine ⟨_, rfl, ?_, hb.trans (hb1.mono hs)⟩
  have := ownsRow_base ho hs
  rwa [show ([[1], b1, b2] : List (List Int)).flatten = 1 :: (b1 ++ b2) by simp] at this

set_option maxRecDepth 100000 in
theorem isDigest_any (b : List Int) (v : Value) (w : World) (hv : BytesAt w v b) :
    Calls Tryd.prog 104 #[v] w fun e w' => e = .returned (.bool (decide (b.length = 32))) ∧ w' = w := by
  obtain ⟨a, c, rfl⟩ := hv.form
  by_cases h : b.length = 32
  · rw [decide_eq_true h]
    clear hv
    rw [h]
    go_enter Tryd.func104, Tryd.ntmps104
    go_wp2
    go_ret
    exact ⟨rfl, rfl⟩
  · rw [decide_eq_false h]
    have i1 : (b.length : Int) ≠ 32 := by omega
    go_enter Tryd.func104, Tryd.ntmps104
    go_wp2
    go_ret
    exact ⟨by first | rfl | simp [i1], rfl⟩

set_option maxRecDepth 100000 in
theorem areDigests_any (L : List (List Int)) (v : Value) (w : World) (hv : PartsAt w v L) (hm : L.length ≤ maxLen) (hm2 : ∀ j, (L.getD j []).length ≤ maxLen) :
    Calls Tryd.prog 89 #[v] w fun e w' => e = .returned (.bool (goodL L)) ∧ w' = w := by
  obtain ⟨a0, c0, rfl, hcell⟩ := hv.form
  unfold maxLen at hm
  go_enter Tryd.func89, Tryd.ntmps89
  go_wp2
  go_loop [7] (fun i => ∃ k : Nat, k ≤ L.length ∧ i = .int .i64 k ∧ Hid (∀ j, j < k → (L.getD j []).length = 32)) (fun i => L.length - (intOf i).toNat)
  case atStart => exact ⟨0, Nat.zero_le _, rfl, fun j hj => absurd hj (Nat.not_lt_zero _)⟩
  case round =>
    obtain ⟨k, hk, rfl, HG⟩ := hrel
    by_cases hlt : k < L.length
    · obtain ⟨b, off, rfl, hb, hc⟩ := hcell.resolve_left (by omega)
      obtain ⟨pa, pc, hcj, hB⟩ := hc k hlt
      have hl := hm2 k
      have HB : Hid ((L.getD k []).length ≠ 32 → goodL L = false) := goodL_bad hlt
      have HN : Hid ((L.getD k []).length = 32 → ∀ j, j < k + 1 → (L.getD j []).length = 32) := fun h j hj => by
        by_cases e : j = k
        · rw [e]; exact h
        · exact HG.out j (by omega)
      have hd := isDigest_any (L.getD k []) _ w hB
      unfold maxLen at hl
      clear hcell hc hv HG hm2 hB
      generalize (L.getD k []).length = m at *
      by_cases h32 : m = 32
      · have HN' : Hid (∀ j, j < k + 1 → (L.getD j []).length = 32) := HN.out h32
        clear HN HB
        rw [decide_eq_true h32] at hd
        subst h32
        go_wp2_with (go_at_call 104; refine hd.mono ?_; rintro e w' ⟨rfl, rfl⟩)
        go_round
        case rel => exact ⟨k + 1, by omega, by go_num, HN'⟩
        case measure => simp [intOf]; omega
      · have HB' : Hid (goodL L = false) := HB.out h32
        rw [decide_eq_false h32] at hd
        clear HN HB
        go_wp2_with (go_at_call 104; refine hd.mono ?_; rintro e w' ⟨rfl, rfl⟩)
        go_ret
        exact ⟨by rw [HB'.out]; rfl, rfl⟩
    · obtain rfl : k = L.length := by omega
      have HA : Hid (goodL L = true) := goodL_all HG.out
      clear HG
      go_wp2
      go_ret
      exact ⟨by rw [HA.out]; rfl, rfl⟩

end Go.Proofs.YtbkkfchcdfhfgadDoor

/- The walks of bits.Len at small numbers, part.split and part.of. -/
namespace Go.Proofs.YtbkkfchcdfhfgadDoor
open Go.RowKit

set_option maxRecDepth 100000 in
set_option maxHeartbeats 1000000 in
theorem len64_any (x : Int) (w : World) (h0 : 0 ≤ x) (h1 : x ≤ 255) :
    Calls Tryd.prog 103 #[.int .u64 x] w fun e w' => e = .returned (.int .i64 (Lib.bitLen x.toNat)) ∧ w' = w := by
  go_enter Tryd.func103, Tryd.ntmps103
  go_wp2
  go_ret
  have l := Lib.bitLen_le8' x h0 h1
  refine ⟨congrArg Ending.returned (congrArg (Value.int IntKind.i64) ?_), rfl⟩
  rw [Lib.len8_of x h0 h1]
  unfold wrap64
  omega
set_option maxRecDepth 100000 in
theorem len_any (x : Int) (w : World) (h0 : 0 ≤ x) (h1 : x ≤ 255) :
    Calls Tryd.prog 87 #[.int .u64 x] w fun e w' => e = .returned (.int .i64 (Lib.bitLen x.toNat)) ∧ w' = w := by
  go_enter Tryd.func87, Tryd.ntmps87
  go_wp2_with (go_at_call 103; refine (len64_any x w h0 h1).mono ?_; rintro e w' ⟨rfl, rfl⟩)
  go_ret
  exact ⟨rfl, rfl⟩
theorem len_split : ∀ n : Fin 101, 2 ≤ n.val → 1 ≤ Lib.bitLen (n.val - 1) ∧ Lib.bitLen (n.val - 1) ≤ 7 ∧ 2 ^ (Lib.bitLen (n.val - 1) - 1) < n.val ∧ n.val ≤ 2 * 2 ^ (Lib.bitLen (n.val - 1) - 1) := by decide +kernel
theorem split_len {n : Nat} (h2 : 2 ≤ n) (h : n ≤ 100) : ∃ e, Lib.bitLen (n - 1) = e + 1 ∧ e ≤ 6 ∧ splitN n = 2 ^ e := by
  obtain ⟨h1, h3, h4, h5⟩ := len_split ⟨n, by omega⟩ h2
  dsimp only at h1 h3 h4 h5
  refine ⟨Lib.bitLen (n - 1) - 1, by omega, by omega, splitN_unique h4 h5⟩
@[reducible] def partV (f e : Int) : Value := .agg #[.int .i64 f, .int .i64 e]
set_option maxRecDepth 100000 in
set_option maxHeartbeats 1000000 in
theorem split_part (f n : Nat) (w : World) (h2 : 2 ≤ n) (hn : n ≤ 100) (hf : f ≤ 100) :
    Calls Tryd.prog 61 #[partV f ((f : Int) + n)] w fun e w' => e = .returned (.tuple #[partV f ((f : Int) + splitN n), partV ((f : Int) + splitN n) ((f : Int) + n)]) ∧ Below w.heap.size w w' := by
  obtain ⟨e, he, he6, hs⟩ := split_len h2 hn
  have hL : ∀ w, _ := fun w => len_any ((f : Int) + n - f - 1) w (by omega) (by omega)
  have e1 : ((f : Int) + n - f - 1).toNat = n - 1 := by omega
  rw [e1, he] at hL
  have hsp := splitN_spec h2
  have hw : wrap64 ((2 : Int) ^ e) = (splitN n : Int) := by
    have h3 : ((2 : Int) ^ e) = (splitN n : Int) := by rw [hs]; simp
    rw [h3]; unfold wrap64; omega
  have hq : IntKind.i64.wrap ((f : Int) + splitN n) = (f : Int) + splitN n := by rw [IntWalk.i64_left]; unfold wrap64; omega
  clear e1 he hs
  generalize splitN n = k at *
  go_enter Tryd.func61, Tryd.ntmps61
  go_wp2_with (go_at_call 87; refine (hL _).mono ?_; rintro e w' ⟨rfl, rfl⟩)
  go_region_held3 (fun w' => w'.cell? ⟨w.heap.size, 0, none⟩ = some (.int .i64 (f : Int)) ∧ w'.cell? ⟨w.heap.size, 1, none⟩ = some (.int .i64 ((f : Int) + n))) (first | (go_keep; done) | (simp [go_sem]; done)) (fail)
  go_wp2_with fail
  exact bodyPost_ret (v := .tuple #[partV f ((f : Int) + k), partV ((f : Int) + k) ((f : Int) + n)]) (by simp [results, Tryd.results61, go_sem]) rfl ⟨rfl, ((((Below.refl _ _).alloc (Nat.le_refl _) _).alloc (by simp) _).alloc (by simp; omega) _).drew⟩
theorem splitP_any (f e : Nat) (w : World) (h2 : f + 2 ≤ e) (he : e ≤ 100) :
    Calls Tryd.prog 61 #[partV f e] w fun r w' => r = .returned (.tuple #[partV f ((f + splitN (e - f) : Nat) : Int), partV ((f + splitN (e - f) : Nat) : Int) e]) ∧ Below w.heap.size w w' := by
  have h := split_part f (e - f) w (by omega) (by omega) (by omega)
  have e1 : (f : Int) + ((e - f : Nat) : Int) = e := by omega
  have e2 : ((f + splitN (e - f) : Nat) : Int) = (f : Int) + (splitN (e - f) : Int) := by omega
  rw [e1] at h
  rw [e2]
  exact h
set_option maxRecDepth 100000 in
theorem of_any (f e : Nat) (b off n c : Nat) (w : World) (hfe : f < e) (he : e ≤ n) (hnc : n ≤ c) :
    Calls Tryd.prog 63 #[partV f e, .slice (some ⟨b, off, none⟩) n c] w fun r w' => r = .returned (.slice (some ⟨b, off + f, none⟩) (e - f) (c - f)) ∧ Below w.heap.size w w' := by
  have i1 : (f : Int) ≤ (e : Int) := by omega
  have i2 : (e : Int) ≤ (c : Int) := by omega
  have i3 : ¬ (c = f) := by omega
  go_enter Tryd.func63, Tryd.ntmps63
  go_wp2_with fail
  go_ret
  exact ⟨rfl, (Below.refl _ _).alloc (Nat.le_refl _) _⟩

end Go.Proofs.YtbkkfchcdfhfgadDoor

/- The walks of walkPath and walkProof, whatever function they are handed; pathOf and proofOf. -/
namespace Go.Proofs.YtbkkfchcdfhfgadDoor
open Go.RowKit

/-- The parts to which the walk of a path goes. -/
def pathP (f e i : Nat) : List (Nat × Nat) :=
  if _h : e < f + 2 then [] else
  if i < f + splitN (e - f) then pathP f (f + splitN (e - f)) i ++ [(f + splitN (e - f), e)] else pathP (f + splitN (e - f)) e i ++ [(f, f + splitN (e - f))]
termination_by e - f
decreasing_by
  · have := splitN_spec (n := e - f) (by omega); omega
  · have := splitN_spec (n := e - f) (by omega); omega
theorem pathP_one {f e i : Nat} (h : e < f + 2) : pathP f e i = [] := by rw [pathP, dif_pos h]
theorem pathP_left {f e i : Nat} (h : f + 2 ≤ e) (hi : i < f + splitN (e - f)) : pathP f e i = pathP f (f + splitN (e - f)) i ++ [(f + splitN (e - f), e)] := by
  conv => lhs; rw [pathP]
  rw [dif_neg (by omega), if_pos hi]
theorem pathP_right {f e i : Nat} (h : f + 2 ≤ e) (hi : ¬ i < f + splitN (e - f)) : pathP f e i = pathP (f + splitN (e - f)) e i ++ [(f, f + splitN (e - f))] := by
  conv => lhs; rw [pathP]
  rw [dif_neg (by omega), if_neg hi]
/-- Those to which the walk of a proof goes. -/
def proofP (f e m : Nat) (whole : Bool) : List (Nat × Nat) :=
  if m = e then (if whole then [] else [(f, e)]) else
  if _h : e < f + 2 then [] else
  if m ≤ f + splitN (e - f) then proofP f (f + splitN (e - f)) m whole ++ [(f + splitN (e - f), e)] else proofP (f + splitN (e - f)) e m false ++ [(f, f + splitN (e - f))]
termination_by e - f
decreasing_by
  · have := splitN_spec (n := e - f) (by omega); omega
  · have := splitN_spec (n := e - f) (by omega); omega
theorem proofP_whole (f e : Nat) : proofP f e e true = [] := by rw [proofP, if_pos rfl, if_pos rfl]
theorem proofP_part (f e : Nat) : proofP f e e false = [(f, e)] := by rw [proofP, if_pos rfl]; rfl
theorem proofP_left {f e m : Nat} {whole : Bool} (hn : m ≠ e) (h : f + 2 ≤ e) (hm : m ≤ f + splitN (e - f)) : proofP f e m whole = proofP f (f + splitN (e - f)) m whole ++ [(f + splitN (e - f), e)] := by
  conv => lhs; rw [proofP]
  rw [if_neg hn, dif_neg (by omega), if_pos hm]
theorem proofP_right {f e m : Nat} {whole : Bool} (hn : m ≠ e) (h : f + 2 ≤ e) (hm : ¬ m ≤ f + splitN (e - f)) : proofP f e m whole = proofP (f + splitN (e - f)) e m false ++ [(f, f + splitN (e - f))] := by
  conv => lhs; rw [proofP]
  rw [if_neg hn, dif_neg (by omega), if_neg hm]

/-- What was below B is as it was, and so are variables of a type of which T is so. -/
structure MidT (T : TypeId → Prop) (B : Nat) (w w' : World) : Prop where
  below : Below B w w'
  box : ∀ (k : Nat) (c : Array Value) (t : TypeId), T t → w.heap[k]? = some (Obj.cells c t (0, 0)) → w'.heap[k]? = w.heap[k]?
theorem MidT.refl (T : TypeId → Prop) (B : Nat) (w : World) : MidT T B w w := ⟨Below.refl _ _, fun _ _ _ _ _ => rfl⟩
theorem MidT.trans {T : TypeId → Prop} {B : Nat} {a b c : World} (h : MidT T B a b) (g : MidT T B b c) : MidT T B a c :=
  ⟨h.below.trans g.below, fun k x t ht hk => (g.box k x t ht ((h.box k x t ht hk).trans hk)).trans (h.box k x t ht hk)⟩
theorem MidT.of_below {T : TypeId → Prop} {B : Nat} {w w' : World} (h : Below w.heap.size w w') (hB : B ≤ w.heap.size) : MidT T B w w' := ⟨h.mono hB, fun k _ _ _ hk => h.block k (lt_heap hk)⟩
theorem MidT.weaker {T S : TypeId → Prop} {B : Nat} {w w' : World} (h : MidT T B w w') (hs : ∀ t, S t → T t) : MidT S B w w' := ⟨h.below, fun k c t ht hk => h.box k c t (hs t ht) hk⟩
theorem MidT.grown {T : TypeId → Prop} {w w' : World} {base n : Nat} {e : TypeId} {v : Value} {xs : List Value} (ho : w.ownsRow base e 1 v n xs) (hg : w.grownBy w' v.ownBlock) (hT : ∀ t, T t → t ≠ e) (hb : base ≤ w.heap.size) : MidT T base w w' :=
  ⟨(Below.refl _ _).grown hg hb (fun _ h => own_block ho h), fun k c t ht hk => by rw [grown_box hg ho hk (hT t ht), hk]⟩
theorem MidT.set {T : TypeId → Prop} {w : World} {B k : Nat} {c : Array Value} {t : TypeId} (hk : w.heap[k]? = some (.cells c t (0, 0))) (hT : ¬ T t) (hB : B ≤ k) (u : Value) : MidT T B w (w.setCell ⟨k, 0, none⟩ u) :=
  ⟨(Below.refl _ _).setCell hB _, fun j d s hs hj => by
    have hne : j ≠ k := fun e => by
      subst e
      rw [hk] at hj
      cases hj
      exact hT hs
    rw [box_set_far hj hne, hj]⟩
/-- Only the walks' own variables are looked at. -/
@[reducible] def Mid (B : Nat) (w w' : World) : Prop := MidT (fun t => t = 96) B w w'
theorem MidT.cell {T : TypeId → Prop} {B : Nat} {w w' : World} (h : MidT T B w w') {k o : Nat} {c : Array Value} {t : TypeId} (ht : T t) (hk : w.heap[k]? = some (.cells c t (0, 0))) : w'.cell? ⟨k, o, none⟩ = w.cell? ⟨k, o, none⟩ := World.cell?_of_block (h.box k c t ht hk)
theorem Mid.cell {B : Nat} {w w' : World} (h : Mid B w w') {k o : Nat} {c : Array Value} (hk : w.heap[k]? = some (.cells c 96 (0, 0))) : w'.cell? ⟨k, o, none⟩ = w.cell? ⟨k, o, none⟩ := MidT.cell h rfl hk
theorem Mid.of_below {B : Nat} {w w' : World} (h : Below w.heap.size w w') (hB : B ≤ w.heap.size) : Mid B w w' := MidT.of_below h hB
theorem Mid.trans {B : Nat} {a b c : World} (h : Mid B a b) (g : Mid B b c) : Mid B a c := MidT.trans h g
/-- The function value k with what it captured, called with the parts of ps one behind the other, brings I from one to the next; new variables don't touch I. -/
structure Visits (B k : Nat) (cap : Array Value) (ps : List (Nat × Nat)) (I : List (Nat × Nat) → World → Prop) : Prop where
  enters : ∀ args w, (callFunc k args).run Tryd.prog w = .ok (.enter k args) w
  keep : ∀ done w w', I done w → Below w.heap.size w w' → I done w'
  call : ∀ (done : List (Nat × Nat)) (f e : Nat) (w : World), (done ++ [(f, e)]) <+: ps → I done w → B ≤ w.heap.size → Calls Tryd.prog k (#[partV f e] ++ cap) w fun r w' => r = .returned (.tuple #[]) ∧ I (done ++ [(f, e)]) w' ∧ Mid B w w'

set_option maxRecDepth 100000 in
set_option maxHeartbeats 1000000 in
theorem walkPath_any {B k : Nat} {cap : Array Value} {ps : List (Nat × Nat)} {I : List (Nat × Nat) → World → Prop} (V : Visits B k cap ps I) (d : Nat) :
    ∀ (f e i : Nat) (done : List (Nat × Nat)) (w : World), e - f = d → f ≤ e → e ≤ 100 → i ≤ 100 → (done ++ pathP f e i) <+: ps → I done w → B ≤ w.heap.size →
      Calls Tryd.prog 66 #[partV f e, .int .i64 i, .func (.func k) #[] cap] w fun r w' => r = .returned (.tuple #[]) ∧ I (done ++ pathP f e i) w' ∧ Mid B w w' := by
  induction d using Nat.strongRecOn with
  | ind d ih =>
    intro f e i done w hd hfe he hi hps hI hN
    by_cases h2 : e < f + 2
    · rw [pathP_one h2, List.append_nil] at hps ⊢
      have i1 : (e : Int) - f < 2 := by omega
      go_enter Tryd.func66, Tryd.ntmps66
      go_wp2
      refine bodyPost_ret (v := .tuple #[]) (by simp [results, Tryd.results66]) rfl ⟨rfl, V.keep _ _ _ hI ((Below.refl _ _).alloc (Nat.le_refl _) _), Mid.of_below ((Below.refl _ _).alloc (Nat.le_refl _) _) hN⟩
    · have hs := splitN_spec (n := e - f) (by omega)
      have i1 : ¬ (e : Int) - f < 2 := by omega
      have hsp : ∀ w, _ := fun w => splitP_any f e w (by omega) he
      by_cases hl : i < f + splitN (e - f)
      · rw [pathP_left (by omega) hl] at hps ⊢
        obtain ⟨m, hm⟩ : ∃ m, f + splitN (e - f) = m := ⟨_, rfl⟩
        rw [hm] at hps hsp hl ⊢
        have hm1 : f < m := by omega
        have hm2 : m < e := by omega
        clear hm hs h2
        go_enter Tryd.func66, Tryd.ntmps66
        go_wp2_with fail
        refine (hsp _).mono ?_
        rintro r w1 ⟨rfl, hb1⟩
        have hbw1 : Below w.heap.size w w1 := ((Below.refl _ _).alloc (Nat.le_refl _) _).trans (hb1.mono (by simp))
        have hbW : Below w.heap.size w ((w1.alloc (.cells #[.int .i64 f, .int .i64 m] 96)).alloc (.cells #[.int .i64 m, .int .i64 e] 96)) := (hbw1.alloc hbw1.size _).alloc (by have := hbw1.size; simp; omega) _
        have hsz := hbw1.size
        clear hb1 hsp
        go_wp2_with fail
        have hps' : (done ++ pathP f m i ++ [(m, e)]) <+: ps := by rw [List.append_assoc]; exact hps
        refine (ih (m - f) (by omega) f m i done _ rfl (by omega) (by omega) hi ((List.prefix_append _ _).trans hps') (V.keep _ _ _ hI hbW) (by have := hbW.size; omega)).mono ?_
        rintro r w2 ⟨rfl, hI2, hM⟩
        have y0 : w2.cell? ⟨w1.heap.size + 1, 0, none⟩ = some (.int .i64 m) := (hM.cell (k := w1.heap.size + 1) (c := #[.int .i64 m, .int .i64 e]) (box_last _ _ _ _)).trans (by simp)
        have y1 : w2.cell? ⟨w1.heap.size + 1, 1, none⟩ = some (.int .i64 e) := (hM.cell (k := w1.heap.size + 1) (c := #[.int .i64 m, .int .i64 e]) (box_last _ _ _ _)).trans (by simp)
        have hN2 : B ≤ w2.heap.size := by have := hM.below.size; simp at this; omega
        have eg := V.enters
        go_wp2_with fail
        refine (V.call (done ++ pathP f m i) m e w2 hps' hI2 hN2).mono ?_
        rintro r w3 ⟨rfl, hI3, hM3⟩
        rw [List.append_assoc] at hI3
        have hMM : Mid B w w3 := ((Mid.of_below hbW hN).trans hM).trans hM3
        clear hM hM3 hI hI2 y0 y1 hbW hbw1
        go_wp2_with fail
        exact bodyPost_ret (v := .tuple #[]) (by simp [results, Tryd.results66]) rfl ⟨rfl, hI3, hMM⟩
      · rw [pathP_right (by omega) hl] at hps ⊢
        obtain ⟨m, hm⟩ : ∃ m, f + splitN (e - f) = m := ⟨_, rfl⟩
        rw [hm] at hps hsp hl ⊢
        have hm1 : f < m := by omega
        have hm2 : m < e := by omega
        clear hm hs h2
        go_enter Tryd.func66, Tryd.ntmps66
        go_wp2_with fail
        refine (hsp _).mono ?_
        rintro r w1 ⟨rfl, hb1⟩
        have hbw1 : Below w.heap.size w w1 := ((Below.refl _ _).alloc (Nat.le_refl _) _).trans (hb1.mono (by simp))
        have hbW : Below w.heap.size w ((w1.alloc (.cells #[.int .i64 f, .int .i64 m] 96)).alloc (.cells #[.int .i64 m, .int .i64 e] 96)) := (hbw1.alloc hbw1.size _).alloc (by have := hbw1.size; simp; omega) _
        have hsz := hbw1.size
        clear hb1 hsp
        go_wp2_with fail
        have hps' : (done ++ pathP m e i ++ [(f, m)]) <+: ps := by rw [List.append_assoc]; exact hps
        refine (ih (e - m) (by omega) m e i done _ rfl (by omega) (by omega) hi ((List.prefix_append _ _).trans hps') (V.keep _ _ _ hI hbW) (by have := hbW.size; omega)).mono ?_
        rintro r w2 ⟨rfl, hI2, hM⟩
        have y0 : w2.cell? ⟨w1.heap.size, 0, none⟩ = some (.int .i64 f) := (hM.cell (k := w1.heap.size) (c := #[.int .i64 f, .int .i64 m]) (box_one _ _ _ _)).trans (by simp)
        have y1 : w2.cell? ⟨w1.heap.size, 1, none⟩ = some (.int .i64 m) := (hM.cell (k := w1.heap.size) (c := #[.int .i64 f, .int .i64 m]) (box_one _ _ _ _)).trans (by simp)
        have hN2 : B ≤ w2.heap.size := by have := hM.below.size; simp at this; omega
        have eg := V.enters
        go_wp2_with fail
        refine (V.call (done ++ pathP m e i) f m w2 hps' hI2 hN2).mono ?_
        rintro r w3 ⟨rfl, hI3, hM3⟩
        rw [List.append_assoc] at hI3
        have hMM : Mid B w w3 := ((Mid.of_below hbW hN).trans hM).trans hM3
        clear hM hM3 hI hI2 y0 y1 hbW hbw1
        go_wp2_with fail
        go_end0
        exact ⟨rfl, hI3, hMM⟩
end Go.Proofs.YtbkkfchcdfhfgadDoor
