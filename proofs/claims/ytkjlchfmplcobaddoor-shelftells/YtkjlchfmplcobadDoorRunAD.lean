/- TreeGoPart, TreeGoWalk, TreeGoOf, TreeGoRoot, as one text. -/
import Derived.Test.YtkjlchfmplcobadDoorProg
import Derived.Test.YtkjlchfmplcobadDoorRunAA
import Derived.WalkKit
import Derived.WalkSpells
import Derived.WalkLawsBesides
import Derived.Lib.BitFns
import Derived.Deep.RegionHeld3
import Derived.BigRegion
/- The walks of bits.Len at small numbers, part.split and part.of. -/
namespace Go.Proofs.YtkjlchfmplcobadDoor
open Go.RowKit

set_option maxRecDepth 100000 in
set_option maxHeartbeats 1000000 in
theorem len64_any (x : Int) (w : World) (h0 : 0 ≤ x) (h1 : x ≤ 255) :
    Calls Tryd.prog 103 #[.int .u64 x] w fun e w' => e = .returned (.int .i64 (Lib.bitLen x.toNat)) ∧ w' = w := by
  go_enter Tryd.func103, Tryd.ntmps103
  go_wp2
  go_ret
  have l := Lib.bitLen_le8' x h0 h1
  refine ⟨congrArg Ending.returned (congrArg (Value.int IntKind.i64) ?_), rfl⟩
  rw [Lib.len8_of x h0 h1]
  unfold wrap64
  omega
set_option maxRecDepth 100000 in
theorem len_any (x : Int) (w : World) (h0 : 0 ≤ x) (h1 : x ≤ 255) :
    Calls Tryd.prog 87 #[.int .u64 x] w fun e w' => e = .returned (.int .i64 (Lib.bitLen x.toNat)) ∧ w' = w := by
  go_enter Tryd.func87, Tryd.ntmps87
  go_wp2_with (go_at_call 103; refine (len64_any x w h0 h1).mono ?_; rintro e w' ⟨rfl, rfl⟩)
  go_ret
  exact ⟨rfl, rfl⟩
theorem len_split : ∀ n : Fin 101, 2 ≤ n.val → 1 ≤ Lib.bitLen (n.val - 1) ∧ Lib.bitLen (n.val - 1) ≤ 7 ∧ 2 ^ (Lib.bitLen (n.val - 1) - 1) < n.val ∧ n.val ≤ 2 * 2 ^ (Lib.bitLen (n.val - 1) - 1) := by decide +kernel
theorem split_len {n : Nat} (h2 : 2 ≤ n) (h : n ≤ 100) : ∃ e, Lib.bitLen (n - 1) = e + 1 ∧ e ≤ 6 ∧ splitN n = 2 ^ e := by
  obtain ⟨h1, h3, h4, h5⟩ := len_split ⟨n, by omega⟩ h2
  dsimp only at h1 h3 h4 h5
  refine ⟨Lib.bitLen (n - 1) - 1, by omega, by omega, splitN_unique h4 h5⟩
@[reducible] def partV (f e : Int) : Value := .agg #[.int .i64 f, .int .i64 e]
set_option maxRecDepth 100000 in
set_option maxHeartbeats 1000000 in
theorem split_part (f n : Nat) (w : World) (h2 : 2 ≤ n) (hn : n ≤ 100) (hf : f ≤ 100) :
    Calls Tryd.prog 61 #[partV f ((f : Int) + n)] w fun e w' => e = .returned (.tuple #[partV f ((f : Int) + splitN n), partV ((f : Int) + splitN n) ((f : Int) + n)]) ∧ Below w.heap.size w w' := by
  obtain ⟨e, he, he6, hs⟩ := split_len h2 hn
  have hL : ∀ w, _ := fun w => len_any ((f : Int) + n - f - 1) w (by omega) (by omega)
  have e1 : ((f : Int) + n - f - 1).toNat = n - 1 := by omega
  rw [e1, he] at hL
  have hsp := splitN_spec h2
  have hw : wrap64 ((2 : Int) ^ e) = (splitN n : Int) := by
    have h3 : ((2 : Int) ^ e) = (splitN n : Int) := by rw [hs]; simp
    rw [h3]; unfold wrap64; omega
  have hq : IntKind.i64.wrap ((f : Int) + splitN n) = (f : Int) + splitN n := by rw [IntWalk.i64_left]; unfold wrap64; omega
  clear e1 he hs
  generalize splitN n = k at *
  go_enter Tryd.func61, Tryd.ntmps61
  go_wp2_with (go_at_call 87; refine (hL _).mono ?_; rintro e w' ⟨rfl, rfl⟩)
  go_region_held3 (fun w' => w'.cell? ⟨w.heap.size, 0, none⟩ = some (.int .i64 (f : Int)) ∧ w'.cell? ⟨w.heap.size, 1, none⟩ = some (.int .i64 ((f : Int) + n))) (first | (go_keep; done) | (simp [go_sem]; done)) (fail)
  go_wp2_with fail
  exact bodyPost_ret (v := .tuple #[partV f ((f : Int) + k), partV ((f : Int) + k) ((f : Int) + n)]) (by simp [results, Tryd.results61, go_sem]) rfl ⟨rfl, ((((Below.refl _ _).alloc (Nat.le_refl _) _).alloc (by simp) _).alloc (by simp; omega) _).drew⟩
theorem splitP_any (f e : Nat) (w : World) (h2 : f + 2 ≤ e) (he : e ≤ 100) :
    Calls Tryd.prog 61 #[partV f e] w fun r w' => r = .returned (.tuple #[partV f ((f + splitN (e - f) : Nat) : Int), partV ((f + splitN (e - f) : Nat) : Int) e]) ∧ Below w.heap.size w w' := by
  have h := split_part f (e - f) w (by omega) (by omega) (by omega)
  have e1 : (f : Int) + ((e - f : Nat) : Int) = e := by omega
  have e2 : ((f + splitN (e - f) : Nat) : Int) = (f : Int) + (splitN (e - f) : Int) := by omega
  rw [e1] at h
  rw [e2]
  exact h
set_option maxRecDepth 100000 in
theorem of_any (f e : Nat) (b off n c : Nat) (w : World) (hfe : f < e) (he : e ≤ n) (hnc : n ≤ c) :
    Calls Tryd.prog 63 #[partV f e, .slice (some ⟨b, off, none⟩) n c] w fun r w' => r = .returned (.slice (some ⟨b, off + f, none⟩) (e - f) (c - f)) ∧ Below w.heap.size w w' := by
  have i1 : (f : Int) ≤ (e : Int) := by omega
  have i2 : (e : Int) ≤ (c : Int) := by omega
  have i3 : ¬ (c = f) := by omega
  go_enter Tryd.func63, Tryd.ntmps63
  go_wp2_with fail
  go_ret
  exact ⟨rfl, (Below.refl _ _).alloc (Nat.le_refl _) _⟩

end Go.Proofs.YtkjlchfmplcobadDoor

/- The walks of walkPath and walkProof, whatever function they are handed; pathOf and proofOf. -/
namespace Go.Proofs.YtkjlchfmplcobadDoor
open Go.RowKit

/-- What was below B is as it was, and so are variables of a type of which T is so. -/
structure MidT (T : TypeId → Prop) (B : Nat) (w w' : World) : Prop where
  below : Below B w w'
  box : ∀ (k : Nat) (c : Array Value) (t : TypeId), T t → w.heap[k]? = some (Obj.cells c t (0, 0)) → w'.heap[k]? = w.heap[k]?
theorem MidT.refl (T : TypeId → Prop) (B : Nat) (w : World) : MidT T B w w := ⟨Below.refl _ _, fun _ _ _ _ _ => rfl⟩
theorem MidT.trans {T : TypeId → Prop} {B : Nat} {a b c : World} (h : MidT T B a b) (g : MidT T B b c) : MidT T B a c :=
  ⟨h.below.trans g.below, fun k x t ht hk => (g.box k x t ht ((h.box k x t ht hk).trans hk)).trans (h.box k x t ht hk)⟩
theorem MidT.grown {T : TypeId → Prop} {w w' : World} {base n : Nat} {e : TypeId} {v : Value} {xs : List Value} (ho : w.ownsRow base e 1 v n xs) (hg : w.grownBy w' v.ownBlock) (hT : ∀ t, T t → t ≠ e) (hb : base ≤ w.heap.size) : MidT T base w w' :=
  ⟨(Below.refl _ _).grown hg hb (fun _ h => own_block ho h), fun k c t ht hk => by rw [grown_box hg ho hk (hT t ht), hk]⟩
theorem MidT.set {T : TypeId → Prop} {w : World} {B k : Nat} {c : Array Value} {t : TypeId} (hk : w.heap[k]? = some (.cells c t (0, 0))) (hT : ¬ T t) (hB : B ≤ k) (u : Value) : MidT T B w (w.setCell ⟨k, 0, none⟩ u) :=
  ⟨(Below.refl _ _).setCell hB _, fun j d s hs hj => by
    have hne : j ≠ k := fun e => by
      subst e
      rw [hk] at hj
      cases hj
      exact hT hs
    rw [box_set_far hj hne, hj]⟩
/-- Only the walks' own variables are looked at. -/
@[reducible] def Mid (B : Nat) (w w' : World) : Prop := MidT (fun t => t = 96) B w w'
theorem MidT.cell {T : TypeId → Prop} {B : Nat} {w w' : World} (h : MidT T B w w') {k o : Nat} {c : Array Value} {t : TypeId} (ht : T t) (hk : w.heap[k]? = some (.cells c t (0, 0))) : w'.cell? ⟨k, o, none⟩ = w.cell? ⟨k, o, none⟩ := World.cell?_of_block (h.box k c t ht hk)
theorem Mid.cell {B : Nat} {w w' : World} (h : Mid B w w') {k o : Nat} {c : Array Value} (hk : w.heap[k]? = some (.cells c 96 (0, 0))) : w'.cell? ⟨k, o, none⟩ = w.cell? ⟨k, o, none⟩ := MidT.cell h rfl hk
theorem Mid.trans {B : Nat} {a b c : World} (h : Mid B a b) (g : Mid B b c) : Mid B a c := MidT.trans h g
/-- The function value k with what it captured, called with the parts of ps one behind the other, brings I from one to the next; new variables don't touch I. -/
structure Visits (B k : Nat) (cap : Array Value) (ps : List (Nat × Nat)) (I : List (Nat × Nat) → World → Prop) : Prop where
  enters : ∀ args w, (callFunc k args).run Tryd.prog w = .ok (.enter k args) w
  keep : ∀ done w w', I done w → Below w.heap.size w w' → I done w'
  call : ∀ (done : List (Nat × Nat)) (f e : Nat) (w : World), (done ++ [(f, e)]) <+: ps → I done w → B ≤ w.heap.size → Calls Tryd.prog k (#[partV f e] ++ cap) w fun r w' => r = .returned (.tuple #[]) ∧ I (done ++ [(f, e)]) w' ∧ Mid B w w'

end Go.Proofs.YtkjlchfmplcobadDoor

/- The walks of pathOf and proofOf: function values that go to the parts of a path, or of a proof. -/
namespace Go.Proofs.YtkjlchfmplcobadDoor
open Go.RowKit

/-- The function value kw with what it captured goes to the parts of ps, whatever it is handed to visit them. -/
structure Walker (w0 : World) (kw : Nat) (cw : Array Value) (ps : List (Nat × Nat)) : Prop where
  enters : ∀ args w, (callFunc kw args).run Tryd.prog w = .ok (.enter kw args) w
  call : ∀ (B k : Nat) (cap : Array Value) (I : List (Nat × Nat) → World → Prop) (w : World), Visits B k cap ps I → Below w0.heap.size w0 w → B ≤ w.heap.size → I [] w →
    Calls Tryd.prog kw (#[.func (.func k) #[] cap] ++ cw) w fun r w' => r = .returned (.tuple #[]) ∧ I ps w' ∧ Mid B w w'
theorem Walker.below {w0 w1 : World} {kw : Nat} {cw : Array Value} {ps : List (Nat × Nat)} (h : Walker w0 kw cw ps) (hb : Below w0.heap.size w0 w1) : Walker w1 kw cw ps :=
  ⟨h.enters, fun B k cap I w V hb2 => h.call B k cap I w V (hb.trans (hb2.mono hb.size))⟩

end Go.Proofs.YtkjlchfmplcobadDoor

/- The walks of root, Wrong and Root. -/
namespace Go.Proofs.YtkjlchfmplcobadDoor
open Go.RowKit

theorem of_left (b off n c k : Nat) (w : World) (hk : 0 < k) (hkn : k ≤ n) (hnc : n ≤ c) :
    Calls Tryd.prog 63 #[partV 0 k, .slice (some ⟨b, off, none⟩) n c] w fun r w' => r = .returned (.slice (some ⟨b, off, none⟩) k c) ∧ Below w.heap.size w w' := of_any 0 k b off n c w hk hkn hnc
theorem some_own {w : World} {base : Nat} {x : Value} {d : List Int} (h : w.ownsRow base 5 1 x 32 (d.map (Value.int .u8))) (hb : Bytes d) : Some' w x d :=
  ⟨bytesAt_own h, hb, by have := h.1; simp at this; rw [this]; unfold maxLen; omega⟩

set_option maxRecDepth 100000 in
set_option maxHeartbeats 1000000 in
theorem treeRoot_any (n : Nat) : ∀ (L : List (List Int)) (a : Option Addr) (c : Nat) (w : World), Ready w → n ≤ 100 → Leaves w a n c L →
    Calls Tryd.prog 38 #[.slice a n c] w fun e w' => ∃ x, e = .returned x ∧ w'.ownsRow w.heap.size 5 1 x 32 ((mth L).map (Value.int .u8)) ∧ Below w.heap.size w w' := by
  induction n using Nat.strongRecOn with
  | ind n ih =>
    intro L a c w hr hm hv
    have hcm := hv.cap
    have hnc := hv.room
    unfold maxLen at hcm
    by_cases h0 : n = 0
    · subst h0
      rw [mth_nil hv.len]
      have hS := sum_any [] (.slice none 0 0) w (bytesAt_nil w) (by simp) nil_bytes hr.tab hr.big
      clear ih hv
      go_enter Tryd.func38, Tryd.ntmps38
      go_wp2_with fail
      refine hS.mono ?_
      rintro e w1 ⟨x, rfl, ho, hb⟩
      go_wp2_with fail
      go_ret
      exact ⟨_, rfl, ho, hb⟩
    by_cases h1 : n = 1
    · subst h1
      rw [mth_one hv.len]
      obtain ⟨a0, c0, e0, hcell⟩ := hv.at'.form
      rw [hv.len] at e0
      cases e0
      obtain ⟨b, off, rfl, hb0, hcl⟩ := hcell.resolve_left (by have := hv.len; omega)
      obtain ⟨pa, pc, hc0, hB0⟩ := hcl 0 (by have := hv.len; omega)
      rw [Nat.add_zero] at hc0
      have hl0 := hv.short 0
      have hL := leafC_holds (L.getD 0 []) _ w hr ⟨hB0, hv.bytes 0, by unfold maxLen; omega⟩ (by omega)
      clear hcell hcl hv ih hB0
      generalize leafL (L.getD 0 []) = D at *
      generalize (L.getD 0 []).length = z at *
      go_enter Tryd.func38, Tryd.ntmps38
      go_wp2_with fail
      refine hL.mono ?_
      rintro e w1 ⟨x, rfl, ho, hb⟩
      go_wp2_with fail
      go_ret
      exact ⟨_, rfl, ho, hb⟩
    · have hs := splitN_spec (n := n) (by omega)
      have HM : Hid (mth L = nodeL (mth (L.take (splitN n))) (mth (L.drop (splitN n)))) := by
        have h := mth_more (ls := L) (by rw [hv.len]; omega)
        rw [hv.len] at h
        exact h
      obtain ⟨b, off, rfl⟩ := hv.addr (by omega)
      have hsp := splitP_any 0 n w (by omega) hm
      rw [Nat.sub_zero, Nat.zero_add] at hsp
      obtain ⟨k, hk⟩ : ∃ k, splitN n = k := ⟨_, rfl⟩
      rw [hk] at hs HM hsp
      clear hk
      have c1 : ∀ w1, Below w.heap.size w w1 → _ := fun w1 hb => ih k (by omega) (L.take k) (some ⟨b, off, none⟩) c w1 (hr.below hb) (by omega) ((hv.take (k := k) (by omega) (by omega)).below hb)
      have c2 : ∀ w1, Below w.heap.size w w1 → _ := fun w1 hb => ih (n - k) (by omega) (L.drop k) (some ⟨b, off + k, none⟩) (c - k) w1 (hr.below hb) (by omega) ((hv.drop (k := k) (by omega) (by omega)).below hb)
      have f1 : ∀ w1, _ := fun w1 => of_left b off n c k w1 (by omega) (by omega) hnc
      have f2 : ∀ w1, _ := fun w1 => of_any k n b off n c w1 (by omega) (by omega) hnc
      have HB1 : Hid (Bytes (mth (L.take k)) ∧ (mth (L.take k)).length = 32) := ⟨bytes_mth _, mth_length _⟩
      have HB2 : Hid (Bytes (mth (L.drop k)) ∧ (mth (L.drop k)).length = 32) := ⟨bytes_mth _, mth_length _⟩
      clear hv ih
      generalize mth (L.take k) = M1 at *
      generalize mth (L.drop k) = M2 at *
      rw [HM.out]
      clear HM
      have l1 := HB1.out.2
      have l2 := HB2.out.2
      have i1 : (n : Int) ≠ 0 := by omega
      have i2 : (n : Int) ≠ 1 := by omega
      go_enter Tryd.func38, Tryd.ntmps38
      go_wp2_with fail
      refine hsp.mono ?_
      rintro e w1 ⟨rfl, hb1⟩
      go_wp2_with fail
      have hs1 := hb1.size
      have hbW : Below w.heap.size w ((w1.alloc (.cells #[.int .i64 0, .int .i64 k] 96)).alloc (.cells #[.int .i64 k, .int .i64 n] 96)) := (hb1.alloc hb1.size _).alloc (by simp; omega) _
      obtain ⟨z0, z1, z2, z3, hz, hz'⟩ : ∃ z0 : ((w1.alloc (.cells #[.int .i64 0, .int .i64 k] 96)).alloc (.cells #[.int .i64 k, .int .i64 n] 96)).cell? ⟨w1.heap.size, 0, none⟩ = some (.int .i64 0), ((w1.alloc (.cells #[.int .i64 0, .int .i64 k] 96)).alloc (.cells #[.int .i64 k, .int .i64 n] 96)).cell? ⟨w1.heap.size, 1, none⟩ = some (.int .i64 k) ∧ ((w1.alloc (.cells #[.int .i64 0, .int .i64 k] 96)).alloc (.cells #[.int .i64 k, .int .i64 n] 96)).cell? ⟨w1.heap.size + 1, 0, none⟩ = some (.int .i64 k) ∧ ((w1.alloc (.cells #[.int .i64 0, .int .i64 k] 96)).alloc (.cells #[.int .i64 k, .int .i64 n] 96)).cell? ⟨w1.heap.size + 1, 1, none⟩ = some (.int .i64 n) ∧ w1.heap.size < ((w1.alloc (.cells #[.int .i64 0, .int .i64 k] 96)).alloc (.cells #[.int .i64 k, .int .i64 n] 96)).heap.size ∧ w1.heap.size + 1 < ((w1.alloc (.cells #[.int .i64 0, .int .i64 k] 96)).alloc (.cells #[.int .i64 k, .int .i64 n] 96)).heap.size := ⟨by simp, by simp, by simp, by simp, by simp; omega, by simp⟩
      generalize ((w1.alloc (.cells #[.int .i64 0, .int .i64 k] 96)).alloc (.cells #[.int .i64 k, .int .i64 n] 96)) = W at *
      generalize w1.heap.size = q0 at *
      have k0 : ∀ w', Below W.heap.size W w' → w'.cell? ⟨q0, 0, none⟩ = some (.int .i64 0) ∧ w'.cell? ⟨q0, 1, none⟩ = some (.int .i64 k) ∧ w'.cell? ⟨q0 + 1, 0, none⟩ = some (.int .i64 k) ∧ w'.cell? ⟨q0 + 1, 1, none⟩ = some (.int .i64 n) := fun w' h =>
        ⟨(h.cell (p := ⟨q0, 0, none⟩) hz).trans z0, (h.cell (p := ⟨q0, 1, none⟩) hz).trans z1, (h.cell (p := ⟨q0 + 1, 0, none⟩) hz').trans z2, (h.cell (p := ⟨q0 + 1, 1, none⟩) hz').trans z3⟩
      have hsW := hbW.size
      clear hb1 hs1
      go_region_held3 (fun w' => w'.cell? ⟨q0, 0, none⟩ = some (.int .i64 0) ∧ w'.cell? ⟨q0, 1, none⟩ = some (.int .i64 k) ∧ w'.cell? ⟨q0 + 1, 0, none⟩ = some (.int .i64 k) ∧ w'.cell? ⟨q0 + 1, 1, none⟩ = some (.int .i64 n))
        (first | exact ⟨z0, z1, z2, z3⟩ | exact k0 _ b1 | exact k0 _ b2 | exact k0 _ b3 | exact k0 _ b4 | exact k0 _ b5)
        (first
          | (go_at_call_of 63 (Value.int IntKind.i64 (n : Int)); refine (f2 _).mono ?_; rintro e w4 ⟨rfl, hb4⟩; have b3 := b2.trans (hb4.mono b2.size); obtain ⟨y30, y31, y32, y33⟩ := k0 _ b3)
          | (go_at_call 63; refine (f1 _).mono ?_; rintro e w2 ⟨rfl, hb2⟩; have b1 := (Below.refl _ _).drew.trans hb2; obtain ⟨y10, y11, y12, y13⟩ := k0 _ b1)
          | (go_at_call_of 38 (Value.slice (some ⟨b, off, none⟩) k c); refine (c1 _ (hbW.trans (b1.mono hsW))).mono ?_; rintro e w3 ⟨x3, rfl, ho3, hb3⟩; have b2 := b1.trans (hb3.mono b1.size); obtain ⟨y20, y21, y22, y23⟩ := k0 _ b2)
          | (go_at_call_of 38 (Value.slice (some ⟨b, off + k, none⟩) (n - k) (c - k)); refine (c2 _ (hbW.trans (b3.mono hsW))).mono ?_; rintro e w5 ⟨x5, rfl, ho5, hb5⟩; have b4 := b3.trans (hb5.mono b3.size); obtain ⟨y40, y41, y42, y43⟩ := k0 _ b4)
          | (go_at_call 62; refine (nodeC_holds M1 M2 x3 x5 w5 (hr.below (hbW.trans (b4.mono hsW))) ((some_own (own_below ho3 hb4 (Nat.le_refl _)) HB1.out.1).below hb5) (some_own ho5 HB2.out.1) (by omega)).mono ?_; rintro e w6 ⟨x6, rfl, ho6, hb6⟩; have b5 := b4.trans (hb6.mono b4.size); obtain ⟨y50, y51, y52, y53⟩ := k0 _ b5))
      have bF := hbW.trans (b5.mono hsW)
      have hs5 := b4.size
      go_wp2_with fail
      go_ret
      exact ⟨_, rfl, ownsRow_base ho6 (by omega), bF⟩

set_option maxRecDepth 100000 in
set_option maxHeartbeats 1000000 in
theorem wrong_any (L : List (List Int)) (v : Value) (w : World) (hv : PartsAt w v L) (hm : L.length ≤ maxLen) (hs : ∀ j, (L.getD j []).length ≤ maxLen) :
    Calls Tryd.prog 19 #[v] w fun e w' => e = .returned (.agg #[.int .i64 (wrongL L).1, .int .i64 (wrongL L).2]) ∧ Below w.heap.size w w' := by
  obtain ⟨a0, c0, rfl, hcell⟩ := hv.form
  unfold maxLen at hm
  by_cases h100 : 100 < L.length
  · have HW : wrongL L = (5, 0) := if_pos h100
    rw [HW]
    have i1 : (100 : Int) < (L.length : Int) := by omega
    go_enter Tryd.func19, Tryd.ntmps19
    go_wp2
    exact bodyPost_ret (v := .agg #[.int .i64 5, .int .i64 0]) (by simp [results, Tryd.results19, go_sem]) rfl ⟨rfl, (Below.refl _ _).alloc (Nat.le_refl _) _⟩
  · have HW : wrongL L = wrongFrom L 0 := if_neg h100
    rw [HW]
    clear HW
    have i1 : ¬ (100 : Int) < (L.length : Int) := by omega
    go_enter Tryd.func19, Tryd.ntmps19
    go_wp2
    go_loop [11] (fun i => ∃ k : Nat, k ≤ L.length ∧ i = .int .i64 k ∧ Hid (∀ j, j < k → (L.getD j []).length ≤ 200)) (fun i => L.length - (intOf i).toNat)
    case atStart => exact ⟨0, Nat.zero_le _, rfl, fun j hj => absurd hj (Nat.not_lt_zero _)⟩
    case round =>
      obtain ⟨k, hk, rfl, HG⟩ := hrel
      by_cases hlt : k < L.length
      · obtain ⟨b, off, rfl, hb, hc⟩ := hcell.resolve_left (by omega)
        obtain ⟨pa, pc, hcj, -⟩ := hc k hlt
        have hcj' : (w.alloc (.cells #[.int .i64 0, .int .i64 0] 31)).cell? ⟨b, off + k, none⟩ = some (.slice pa (L.getD k []).length pc) := by rw [old_cell _ _ _ _ hb]; exact hcj
        have hl := hs k
        unfold maxLen at hl
        have HB : Hid (200 < (L.getD k []).length → wrongFrom L 0 = (4, ((0 + k : Nat) : Int))) := wrong_at 0 hlt HG.out
        have HN : Hid ((L.getD k []).length ≤ 200 → ∀ j, j < k + 1 → (L.getD j []).length ≤ 200) := fun h j hj => by
          by_cases e : j = k
          · rw [e]; exact h
          · exact HG.out j (by omega)
        clear hcell hc hv HG hs hcj
        generalize (L.getD k []).length = m at *
        have i2 : (k : Int) < (L.length : Int) := by omega
        by_cases h200 : 200 < m
        · have HB' := HB.out h200
          rw [Nat.zero_add] at HB'
          have HBB : Hid (wrongFrom L 0 = (4, (k : Int))) := HB'
          clear HN HB HB'
          have i3 : (200 : Int) < (m : Int) := by omega
          go_wp2
          refine bodyPost_ret (v := .agg #[.int .i64 4, .int .i64 k]) (by simp [results, Tryd.results19, go_sem]) rfl ⟨by rw [HBB.out], (Below.refl _ _).alloc (Nat.le_refl _) _⟩
        · have HN' : Hid (∀ j, j < k + 1 → (L.getD j []).length ≤ 200) := HN.out (by omega)
          clear HN HB
          have i3 : ¬ (200 : Int) < (m : Int) := by omega
          go_wp2
          go_round
          case rel => exact ⟨k + 1, by omega, by go_num, HN'⟩
          case measure => simp [intOf]; omega
      · obtain rfl : k = L.length := by omega
        have HA : Hid (wrongFrom L 0 = (0, 0)) := wrong_none 0 HG.out
        clear HG
        go_wp2
        exact bodyPost_ret (v := .agg #[.int .i64 0, .int .i64 0]) (by simp [results, Tryd.results19, go_sem]) rfl ⟨by rw [HA.out], (Below.refl _ _).alloc (Nat.le_refl _) _⟩

theorem wrongC_holds : WrongC := fun L a n c w h => wrong_any L _ w (by have := h.at'; rw [← h.len] at this ⊢; exact this) (by have := h.room; have := h.cap; rw [h.len]; omega) h.short

theorem wrongFrom_no (L : List (List Int)) : ∀ q, (wrongFrom L q).1 = 0 → wrongFrom L q = (0, 0) ∧ ∀ x ∈ L, x.length ≤ 200 := by
  induction L with
  | nil => intro q _; exact ⟨rfl, fun x hx => by cases hx⟩
  | cons b l ih =>
    intro q h
    unfold wrongFrom at h ⊢
    by_cases hb : 200 < b.length
    · rw [if_pos hb] at h; cases h
    · rw [if_neg hb] at h ⊢
      obtain ⟨h1, h2⟩ := ih _ h
      refine ⟨h1, fun x hx => ?_⟩
      rcases List.mem_cons.1 hx with rfl | h'
      · omega
      · exact h2 x h'
/-- Leaves with which nothing is wrong. -/
theorem leaves_of {w : World} {a : Option Addr} {n c : Nat} {L : List (List Int)} (h : Lists w a n c L) (hw : (wrongL L).1 = 0) : Leaves w a n c L ∧ n ≤ 100 ∧ wrongL L = (0, 0) := by
  unfold wrongL at hw ⊢
  by_cases h1 : 100 < L.length
  · rw [if_pos h1] at hw; cases hw
  · rw [if_neg h1] at hw ⊢
    obtain ⟨h2, h3⟩ := wrongFrom_no L 0 hw
    exact ⟨⟨h.len, h.at', h.room, h.cap, h.bytes, fun j => by have := short_mem h3 j; omega⟩, by rw [← h.len]; omega, h2⟩
set_option maxRecDepth 100000 in
set_option maxHeartbeats 1000000 in
theorem rootC_holds : RootC := by
  intro L a n c w hr hL
  have b0 : Below w.heap.size w (w.alloc (.cells #[.int .i64 0, .int .i64 0] 31)) := (Below.refl _ _).alloc (Nat.le_refl _) _
  have hW := wrongC_holds L a n c _ (hL.below b0)
  by_cases h0 : (wrongL L).1 = 0
  · obtain ⟨hv, hn, he⟩ := leaves_of hL h0
    have hR := fun w' (h : Below w.heap.size w w') => treeRoot_any n L a c w' (hr.below h) hn (hv.below h)
    rw [he] at hW ⊢
    clear h0 he hL hv hr
    go_enter Tryd.func20, Tryd.ntmps20
    go_wp2_with fail
    refine hW.mono ?_
    rintro e w1 ⟨rfl, hb1⟩
    have b1 : Below w.heap.size w w1 := b0.trans (hb1.mono b0.size)
    have b2 : Below w.heap.size w (w1.alloc (.cells #[.int .i64 0, .int .i64 0] 31)) := b1.alloc b1.size _
    go_wp2_with fail
    refine (hR _ b2).mono ?_
    rintro e w2 ⟨x, rfl, ho, hb3⟩
    have q2 := box_kept (box_old _ _ (box_kept (box_new w #[.int .i64 0, .int .i64 0] 31) hb1)) hb3
    obtain ⟨q20, q21, q22, q23⟩ := box_two q2
    have b3 := b2.trans (hb3.mono b2.size)
    have hs2 := b2.size
    have hs3 : w.heap.size < (w1.alloc (.cells #[.int .i64 0, .int .i64 0] 31)).heap.size := by have := b1.size; simp; omega
    obtain ⟨xa, xc, rfl⟩ := own_form' ho
    clear hW hR hb1 hb3 q2 b0 b1 b2
    go_wp2_with fail
    exact bodyPost_ret (v := .tuple #[.slice xa 32 xc, faultV (0, 0)]) (by simp [results, Tryd.results20, go_sem, q20, q21]) rfl ⟨xa, 32, xc, rfl, fun _ => ownsRow_base (ownsRow_setCell_below (ownsRow_setCell_below ho hs3 _) hs3 _) hs2, fun h => absurd rfl h, (b3.setCell (Nat.le_refl _) _).setCell (Nat.le_refl _) _⟩
  · have i1 : ((wrongL L).1 != 0) = true := by simpa using h0
    generalize wrongL L = p at *
    obtain ⟨x, y⟩ := p
    dsimp only at h0 i1 ⊢
    go_enter Tryd.func20, Tryd.ntmps20
    go_wp2_with fail
    refine hW.mono ?_
    rintro e w1 ⟨rfl, hb1⟩
    have b1 : Below w.heap.size w w1 := b0.trans (hb1.mono b0.size)
    obtain ⟨q20, q21, q22, q23⟩ := box_two (box_old w1 (.cells #[.int .i64 x, .int .i64 y] 31) (box_kept (box_new w #[.int .i64 0, .int .i64 0] 31) hb1))
    have b2 : Below w.heap.size w (w1.alloc (.cells #[.int .i64 x, .int .i64 y] 31)) := b1.alloc b1.size _
    go_wp2_with fail
    obtain ⟨p0, p1, -, -⟩ := box_two (box_new w1 #[.int .i64 x, .int .i64 y] 31)
    have n1 : w.heap.size ≠ w1.heap.size := by have := hb1.size; simp at this; omega
    generalize w1.alloc (.cells #[.int .i64 x, .int .i64 y] 31) = W at *
    generalize w1.heap.size = q1 at *
    go_region_held3 (fun w' => w'.cell? ⟨q1, 0, none⟩ = some (.int .i64 x) ∧ w'.cell? ⟨q1, 1, none⟩ = some (.int .i64 y)) (first | exact ⟨p0, p1⟩ | exact ⟨(World.cell?_setCell_far _ _ _ _ n1).trans ((World.cell?_setCell_far _ _ _ _ n1).trans p0), (World.cell?_setCell_far _ _ _ _ n1).trans ((World.cell?_setCell_far _ _ _ _ n1).trans p1)⟩) (fail)
    go_wp2_with fail
    exact bodyPost_ret (v := .tuple #[.slice none 0 0, faultV (x, y)]) (by simp [results, Tryd.results20, go_sem, q20, q21]) rfl ⟨none, 0, 0, rfl, fun h => absurd h h0, fun _ => rfl, ((b2.setCell (Nat.le_refl _) _).setCell (Nat.le_refl _) _).drew⟩

end Go.Proofs.YtkjlchfmplcobadDoor
