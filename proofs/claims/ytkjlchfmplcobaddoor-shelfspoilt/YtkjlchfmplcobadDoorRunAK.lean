/- TreeGoOf, TreeGoRoot, ClashText, as one text. -/
import Derived.Test.YtkjlchfmplcobadDoorProg
import Derived.Test.YtkjlchfmplcobadDoorRunAF
import Derived.WalkKit
import Derived.WalkSpells
import Derived.WalkLawsBesides
import Derived.Deep.RegionHeld3
import Derived.BigRegion
import Derived.Test.YtkjlchfmplcobadDoorRunAB
/- The walks of pathOf and proofOf: function values that go to the parts of a path, or of a proof. -/
namespace Go.Proofs.YtkjlchfmplcobadDoor
open Go.RowKit

/-- The function value kw with what it captured goes to the parts of ps, whatever it is handed to visit them. -/
structure Walker (w0 : World) (kw : Nat) (cw : Array Value) (ps : List (Nat × Nat)) : Prop where
  enters : ∀ args w, (callFunc kw args).run Tryd.prog w = .ok (.enter kw args) w
  call : ∀ (B k : Nat) (cap : Array Value) (I : List (Nat × Nat) → World → Prop) (w : World), Visits B k cap ps I → Below w0.heap.size w0 w → B ≤ w.heap.size → I [] w →
    Calls Tryd.prog kw (#[.func (.func k) #[] cap] ++ cw) w fun r w' => r = .returned (.tuple #[]) ∧ I ps w' ∧ Mid B w w'
theorem Walker.below {w0 w1 : World} {kw : Nat} {cw : Array Value} {ps : List (Nat × Nat)} (h : Walker w0 kw cw ps) (hb : Below w0.heap.size w0 w1) : Walker w1 kw cw ps :=
  ⟨h.enters, fun B k cap I w V hb2 => h.call B k cap I w V (hb.trans (hb2.mono hb.size))⟩

set_option maxRecDepth 100000 in
set_option maxHeartbeats 1000000 in
theorem pathOf1_any (size i b1 b2 : Nat) (w0 : World) (h1 : b1 < w0.heap.size) (h2 : b2 < w0.heap.size) (c1 : w0.cell? ⟨b1, 0, none⟩ = some (.int .i64 size)) (c2 : w0.cell? ⟨b2, 0, none⟩ = some (.int .i64 i)) (hs : size ≤ 100) (hi : i ≤ 100) :
    Walker w0 65 #[.pointer (some ⟨b1, 0, none⟩), .pointer (some ⟨b2, 0, none⟩)] (pathP 0 size i) := by
  refine ⟨fun _ _ => by simp [go_sem], fun B k cap I w V hb hB hI => ?_⟩
  have d1 := (hb.cell (p := ⟨b1, 0, none⟩) h1).trans c1
  have d2 := (hb.cell (p := ⟨b2, 0, none⟩) h2).trans c2
  have hW := walkPath_any V (size - 0) 0 size i [] w rfl (by omega) hs hi (by simp) hI hB
  rw [List.nil_append] at hW
  clear c1 c2
  go_enter Tryd.func65, Tryd.ntmps65
  go_wp2_with fail
  refine hW.mono ?_
  rintro r w1 ⟨rfl, hI1, hM⟩
  go_wp2_with fail
  go_end0
  exact ⟨rfl, hI1, hM⟩
set_option maxRecDepth 100000 in
theorem pathOf_any (size i : Nat) (w : World) (hs : size ≤ 100) (hi : i ≤ 100) :
    Calls Tryd.prog 40 #[.int .i64 size, .int .i64 i] w fun r w' => ∃ kw cw, r = .returned (.func (.func kw) #[] cw) ∧ Walker w' kw cw (pathP 0 size i) ∧ Below w.heap.size w w' := by
  have hW := pathOf1_any size i w.heap.size (w.heap.size + 1) ((w.alloc (.cells #[.int .i64 size] 3)).alloc (.cells #[.int .i64 i] 3)) (by simp; omega) (by simp) (by simp) (by simp) hs hi
  go_enter Tryd.func40, Tryd.ntmps40
  go_wp2_with fail
  go_ret
  exact ⟨_, _, rfl, hW, ((Below.refl _ _).alloc (Nat.le_refl _) _).alloc (by simp) _⟩
end Go.Proofs.YtkjlchfmplcobadDoor

/- The walks of root, Wrong and Root. -/
namespace Go.Proofs.YtkjlchfmplcobadDoor
open Go.RowKit

theorem of_left (b off n c k : Nat) (w : World) (hk : 0 < k) (hkn : k ≤ n) (hnc : n ≤ c) :
    Calls Tryd.prog 63 #[partV 0 k, .slice (some ⟨b, off, none⟩) n c] w fun r w' => r = .returned (.slice (some ⟨b, off, none⟩) k c) ∧ Below w.heap.size w w' := of_any 0 k b off n c w hk hkn hnc
theorem some_own {w : World} {base : Nat} {x : Value} {d : List Int} (h : w.ownsRow base 5 1 x 32 (d.map (Value.int .u8))) (hb : Bytes d) : Some' w x d :=
  ⟨bytesAt_own h, hb, by have := h.1; simp at this; rw [this]; unfold maxLen; omega⟩

set_option maxRecDepth 100000 in
set_option maxHeartbeats 1000000 in
theorem treeRoot_any (n : Nat) : ∀ (L : List (List Int)) (a : Option Addr) (c : Nat) (w : World), Ready w → n ≤ 100 → Leaves w a n c L →
    Calls Tryd.prog 38 #[.slice a n c] w fun e w' => ∃ x, e = .returned x ∧ w'.ownsRow w.heap.size 5 1 x 32 ((mth L).map (Value.int .u8)) ∧ Below w.heap.size w w' := by
  induction n using Nat.strongRecOn with
  | ind n ih =>
    intro L a c w hr hm hv
    have hcm := hv.cap
    have hnc := hv.room
    unfold maxLen at hcm
    by_cases h0 : n = 0
    · subst h0
      rw [mth_nil hv.len]
      have hS := sum_any [] (.slice none 0 0) w (bytesAt_nil w) (by simp) nil_bytes hr.tab hr.big
      clear ih hv
      go_enter Tryd.func38, Tryd.ntmps38
      go_wp2_with fail
      refine hS.mono ?_
      rintro e w1 ⟨x, rfl, ho, hb⟩
      go_wp2_with fail
      go_ret
      exact ⟨_, rfl, ho, hb⟩
    by_cases h1 : n = 1
    · subst h1
      rw [mth_one hv.len]
      obtain ⟨a0, c0, e0, hcell⟩ := hv.at'.form
      rw [hv.len] at e0
      cases e0
      obtain ⟨b, off, rfl, hb0, hcl⟩ := hcell.resolve_left (by have := hv.len; omega)
      obtain ⟨pa, pc, hc0, hB0⟩ := hcl 0 (by have := hv.len; omega)
      rw [Nat.add_zero] at hc0
      have hl0 := hv.short 0
      have hL := leafC_holds (L.getD 0 []) _ w hr ⟨hB0, hv.bytes 0, by unfold maxLen; omega⟩ (by omega)
      clear hcell hcl hv ih hB0
      generalize leafL (L.getD 0 []) = D at *
      generalize (L.getD 0 []).length = z at *
      go_enter Tryd.func38, Tryd.ntmps38
      go_wp2_with fail
      refine hL.mono ?_
      rintro e w1 ⟨x, rfl, ho, hb⟩
      go_wp2_with fail
      go_ret
      exact ⟨_, rfl, ho, hb⟩
    · have hs := splitN_spec (n := n) (by omega)
      have HM : Hid (mth L = nodeL (mth (L.take (splitN n))) (mth (L.drop (splitN n)))) := by
        have h := mth_more (ls := L) (by rw [hv.len]; omega)
        rw [hv.len] at h
        exact h
      obtain ⟨b, off, rfl⟩ := hv.addr (by omega)
      have hsp := splitP_any 0 n w (by omega) hm
      rw [Nat.sub_zero, Nat.zero_add] at hsp
      obtain ⟨k, hk⟩ : ∃ k, splitN n = k := ⟨_, rfl⟩
      rw [hk] at hs HM hsp
      clear hk
      have c1 : ∀ w1, Below w.heap.size w w1 → _ := fun w1 hb => ih k (by omega) (L.take k) (some ⟨b, off, none⟩) c w1 (hr.below hb) (by omega) ((hv.take (k := k) (by omega) (by omega)).below hb)
      have c2 : ∀ w1, Below w.heap.size w w1 → _ := fun w1 hb => ih (n - k) (by omega) (L.drop k) (some ⟨b, off + k, none⟩) (c - k) w1 (hr.below hb) (by omega) ((hv.drop (k := k) (by omega) (by omega)).below hb)
      have f1 : ∀ w1, _ := fun w1 => of_left b off n c k w1 (by omega) (by omega) hnc
      have f2 : ∀ w1, _ := fun w1 => of_any k n b off n c w1 (by omega) (by omega) hnc
      have HB1 : Hid (Bytes (mth (L.take k)) ∧ (mth (L.take k)).length = 32) := ⟨bytes_mth _, mth_length _⟩
      have HB2 : Hid (Bytes (mth (L.drop k)) ∧ (mth (L.drop k)).length = 32) := ⟨bytes_mth _, mth_length _⟩
      clear hv ih
      generalize mth (L.take k) = M1 at *
      generalize mth (L.drop k) = M2 at *
      rw [HM.out]
      clear HM
      have l1 := HB1.out.2
      have l2 := HB2.out.2
      have i1 : (n : Int) ≠ 0 := by omega
      have i2 : (n : Int) ≠ 1 := by omega
      go_enter Tryd.func38, Tryd.ntmps38
      go_wp2_with fail
      refine hsp.mono ?_
      rintro e w1 ⟨rfl, hb1⟩
      go_wp2_with fail
      have hs1 := hb1.size
      have hbW : Below w.heap.size w ((w1.alloc (.cells #[.int .i64 0, .int .i64 k] 96)).alloc (.cells #[.int .i64 k, .int .i64 n] 96)) := (hb1.alloc hb1.size _).alloc (by simp; omega) _
      obtain ⟨z0, z1, z2, z3, hz, hz'⟩ : ∃ z0 : ((w1.alloc (.cells #[.int .i64 0, .int .i64 k] 96)).alloc (.cells #[.int .i64 k, .int .i64 n] 96)).cell? ⟨w1.heap.size, 0, none⟩ = some (.int .i64 0), ((w1.alloc (.cells #[.int .i64 0, .int .i64 k] 96)).alloc (.cells #[.int .i64 k, .int .i64 n] 96)).cell? ⟨w1.heap.size, 1, none⟩ = some (.int .i64 k) ∧ ((w1.alloc (.cells #[.int .i64 0, .int .i64 k] 96)).alloc (.cells #[.int .i64 k, .int .i64 n] 96)).cell? ⟨w1.heap.size + 1, 0, none⟩ = some (.int .i64 k) ∧ ((w1.alloc (.cells #[.int .i64 0, .int .i64 k] 96)).alloc (.cells #[.int .i64 k, .int .i64 n] 96)).cell? ⟨w1.heap.size + 1, 1, none⟩ = some (.int .i64 n) ∧ w1.heap.size < ((w1.alloc (.cells #[.int .i64 0, .int .i64 k] 96)).alloc (.cells #[.int .i64 k, .int .i64 n] 96)).heap.size ∧ w1.heap.size + 1 < ((w1.alloc (.cells #[.int .i64 0, .int .i64 k] 96)).alloc (.cells #[.int .i64 k, .int .i64 n] 96)).heap.size := ⟨by simp, by simp, by simp, by simp, by simp; omega, by simp⟩
      generalize ((w1.alloc (.cells #[.int .i64 0, .int .i64 k] 96)).alloc (.cells #[.int .i64 k, .int .i64 n] 96)) = W at *
      generalize w1.heap.size = q0 at *
      have k0 : ∀ w', Below W.heap.size W w' → w'.cell? ⟨q0, 0, none⟩ = some (.int .i64 0) ∧ w'.cell? ⟨q0, 1, none⟩ = some (.int .i64 k) ∧ w'.cell? ⟨q0 + 1, 0, none⟩ = some (.int .i64 k) ∧ w'.cell? ⟨q0 + 1, 1, none⟩ = some (.int .i64 n) := fun w' h =>
        ⟨(h.cell (p := ⟨q0, 0, none⟩) hz).trans z0, (h.cell (p := ⟨q0, 1, none⟩) hz).trans z1, (h.cell (p := ⟨q0 + 1, 0, none⟩) hz').trans z2, (h.cell (p := ⟨q0 + 1, 1, none⟩) hz').trans z3⟩
      have hsW := hbW.size
      clear hb1 hs1
      go_region_held3 (fun w' => w'.cell? ⟨q0, 0, none⟩ = some (.int .i64 0) ∧ w'.cell? ⟨q0, 1, none⟩ = some (.int .i64 k) ∧ w'.cell? ⟨q0 + 1, 0, none⟩ = some (.int .i64 k) ∧ w'.cell? ⟨q0 + 1, 1, none⟩ = some (.int .i64 n))
        (first | exact ⟨z0, z1, z2, z3⟩ | exact k0 _ b1 | exact k0 _ b2 | exact k0 _ b3 | exact k0 _ b4 | exact k0 _ b5)
        (first
          | (go_at_call_of 63 (Value.int IntKind.i64 (n : Int)); refine (f2 _).mono ?_; rintro e w4 ⟨rfl, hb4⟩; have b3 := b2.trans (hb4.mono b2.size); obtain ⟨y30, y31, y32, y33⟩ := k0 _ b3)
          | (go_at_call 63; refine (f1 _).mono ?_; rintro e w2 ⟨rfl, hb2⟩; have b1 := (Below.refl _ _).drew.trans hb2; obtain ⟨y10, y11, y12, y13⟩ := k0 _ b1)
          | (go_at_call_of 38 (Value.slice (some ⟨b, off, none⟩) k c); refine (c1 _ (hbW.trans (b1.mono hsW))).mono ?_; rintro e w3 ⟨x3, rfl, ho3, hb3⟩; have b2 := b1.trans (hb3.mono b1.size); obtain ⟨y20, y21, y22, y23⟩ := k0 _ b2)
          | (go_at_call_of 38 (Value.slice (some ⟨b, off + k, none⟩) (n - k) (c - k)); refine (c2 _ (hbW.trans (b3.mono hsW))).mono ?_; rintro e w5 ⟨x5, rfl, ho5, hb5⟩; have b4 := b3.trans (hb5.mono b3.size); obtain ⟨y40, y41, y42, y43⟩ := k0 _ b4)
          | (go_at_call 62; refine (nodeC_holds M1 M2 x3 x5 w5 (hr.below (hbW.trans (b4.mono hsW))) ((some_own (own_below ho3 hb4 (Nat.le_refl _)) HB1.out.1).below hb5) (some_own ho5 HB2.out.1) (by omega)).mono ?_; rintro e w6 ⟨x6, rfl, ho6, hb6⟩; have b5 := b4.trans (hb6.mono b4.size); obtain ⟨y50, y51, y52, y53⟩ := k0 _ b5))
      have bF := hbW.trans (b5.mono hsW)
      have hs5 := b4.size
      go_wp2_with fail
      go_ret
      exact ⟨_, rfl, ownsRow_base ho6 (by omega), bF⟩

set_option maxRecDepth 100000 in
set_option maxHeartbeats 1000000 in
theorem wrong_any (L : List (List Int)) (v : Value) (w : World) (hv : PartsAt w v L) (hm : L.length ≤ maxLen) (hs : ∀ j, (L.getD j []).length ≤ maxLen) :
    Calls Tryd.prog 19 #[v] w fun e w' => e = .returned (.agg #[.int .i64 (wrongL L).1, .int .i64 (wrongL L).2]) ∧ Below w.heap.size w w' := by
  obtain ⟨a0, c0, rfl, hcell⟩ := hv.form
  unfold maxLen at hm
  by_cases h100 : 100 < L.length
  · have HW : wrongL L = (5, 0) := if_pos h100
    rw [HW]
    have i1 : (100 : Int) < (L.length : Int) := by omega
    go_enter Tryd.func19, Tryd.ntmps19
    go_wp2
    exact bodyPost_ret (v := .agg #[.int .i64 5, .int .i64 0]) (by simp [results, Tryd.results19, go_sem]) rfl ⟨rfl, (Below.refl _ _).alloc (Nat.le_refl _) _⟩
  · have HW : wrongL L = wrongFrom L 0 := if_neg h100
    rw [HW]
    clear HW
    have i1 : ¬ (100 : Int) < (L.length : Int) := by omega
    go_enter Tryd.func19, Tryd.ntmps19
    go_wp2
    go_loop [11] (fun i => ∃ k : Nat, k ≤ L.length ∧ i = .int .i64 k ∧ Hid (∀ j, j < k → (L.getD j []).length ≤ 200)) (fun i => L.length - (intOf i).toNat)
    case atStart => exact ⟨0, Nat.zero_le _, rfl, fun j hj => absurd hj (Nat.not_lt_zero _)⟩
    case round =>
      obtain ⟨k, hk, rfl, HG⟩ := hrel
      by_cases hlt : k < L.length
      · obtain ⟨b, off, rfl, hb, hc⟩ := hcell.resolve_left (by omega)
        obtain ⟨pa, pc, hcj, -⟩ := hc k hlt
        have hcj' : (w.alloc (.cells #[.int .i64 0, .int .i64 0] 31)).cell? ⟨b, off + k, none⟩ = some (.slice pa (L.getD k []).length pc) := by rw [old_cell _ _ _ _ hb]; exact hcj
        have hl := hs k
        unfold maxLen at hl
        have HB : Hid (200 < (L.getD k []).length → wrongFrom L 0 = (4, ((0 + k : Nat) : Int))) := wrong_at 0 hlt HG.out
        have HN : Hid ((L.getD k []).length ≤ 200 → ∀ j, j < k + 1 → (L.getD j []).length ≤ 200) := fun h j hj => by
          by_cases e : j = k
          · rw [e]; exact h
          · exact HG.out j (by omega)
        clear hcell hc hv HG hs hcj
        generalize (L.getD k []).length = m at *
        have i2 : (k : Int) < (L.length : Int) := by omega
        by_cases h200 : 200 < m
        · have HB' := HB.out h200
          rw [Nat.zero_add] at HB'
          have HBB : Hid (wrongFrom L 0 = (4, (k : Int))) := HB'
          clear HN HB HB'
          have i3 : (200 : Int) < (m : Int) := by omega
          go_wp2
          refine bodyPost_ret (v := .agg #[.int .i64 4, .int .i64 k]) (by simp [results, Tryd.results19, go_sem]) rfl ⟨by rw [HBB.out], (Below.refl _ _).alloc (Nat.le_refl _) _⟩
        · have HN' : Hid (∀ j, j < k + 1 → (L.getD j []).length ≤ 200) := HN.out (by omega)
          clear HN HB
          have i3 : ¬ (200 : Int) < (m : Int) := by omega
          go_wp2
          go_round
          case rel => exact ⟨k + 1, by omega, by go_num, HN'⟩
          case measure => simp [intOf]; omega
      · obtain rfl : k = L.length := by omega
        have HA : Hid (wrongFrom L 0 = (0, 0)) := wrong_none 0 HG.out
        clear HG
        go_wp2
        exact bodyPost_ret (v := .agg #[.int .i64 0, .int .i64 0]) (by simp [results, Tryd.results19, go_sem]) rfl ⟨by rw [HA.out], (Below.refl _ _).alloc (Nat.le_refl _) _⟩

theorem wrongC_holds : WrongC := fun L a n c w h => wrong_any L _ w (by have := h.at'; rw [← h.len] at this ⊢; exact this) (by have := h.room; have := h.cap; rw [h.len]; omega) h.short

theorem wrongFrom_no (L : List (List Int)) : ∀ q, (wrongFrom L q).1 = 0 → wrongFrom L q = (0, 0) ∧ ∀ x ∈ L, x.length ≤ 200 := by
  induction L with
  | nil => intro q _; exact ⟨rfl, fun x hx => by cases hx⟩
  | cons b l ih =>
    intro q h
    unfold wrongFrom at h ⊢
    by_cases hb : 200 < b.length
    · rw [if_pos hb] at h; cases h
    · rw [if_neg hb] at h ⊢
      obtain ⟨h1, h2⟩ := ih _ h
      refine ⟨h1, fun x hx => ?_⟩
      rcases List.mem_cons.1 hx with rfl | h'
      · omega
      · exact h2 x h'
/-- Leaves with which nothing is wrong. -/
theorem leaves_of {w : World} {a : Option Addr} {n c : Nat} {L : List (List Int)} (h : Lists w a n c L) (hw : (wrongL L).1 = 0) : Leaves w a n c L ∧ n ≤ 100 ∧ wrongL L = (0, 0) := by
  unfold wrongL at hw ⊢
  by_cases h1 : 100 < L.length
  · rw [if_pos h1] at hw; cases hw
  · rw [if_neg h1] at hw ⊢
    obtain ⟨h2, h3⟩ := wrongFrom_no L 0 hw
    exact ⟨⟨h.len, h.at', h.room, h.cap, h.bytes, fun j => by have := short_mem h3 j; omega⟩, by rw [← h.len]; omega, h2⟩
set_option maxRecDepth 100000 in
set_option maxHeartbeats 1000000 in
theorem rootC_holds : RootC := by
  intro L a n c w hr hL
  have b0 : Below w.heap.size w (w.alloc (.cells #[.int .i64 0, .int .i64 0] 31)) := (Below.refl _ _).alloc (Nat.le_refl _) _
  have hW := wrongC_holds L a n c _ (hL.below b0)
  by_cases h0 : (wrongL L).1 = 0
  · obtain ⟨hv, hn, he⟩ := leaves_of hL h0
    have hR := fun w' (h : Below w.heap.size w w') => treeRoot_any n L a c w' (hr.below h) hn (hv.below h)
    rw [he] at hW ⊢
    clear h0 he hL hv hr
    go_enter Tryd.func20, Tryd.ntmps20
    go_wp2_with fail
    refine hW.mono ?_
    rintro e w1 ⟨rfl, hb1⟩
    have b1 : Below w.heap.size w w1 := b0.trans (hb1.mono b0.size)
    have b2 : Below w.heap.size w (w1.alloc (.cells #[.int .i64 0, .int .i64 0] 31)) := b1.alloc b1.size _
    go_wp2_with fail
    refine (hR _ b2).mono ?_
    rintro e w2 ⟨x, rfl, ho, hb3⟩
    have q2 := box_kept (box_old _ _ (box_kept (box_new w #[.int .i64 0, .int .i64 0] 31) hb1)) hb3
    obtain ⟨q20, q21, q22, q23⟩ := box_two q2
    have b3 := b2.trans (hb3.mono b2.size)
    have hs2 := b2.size
    have hs3 : w.heap.size < (w1.alloc (.cells #[.int .i64 0, .int .i64 0] 31)).heap.size := by have := b1.size; simp; omega
    obtain ⟨xa, xc, rfl⟩ := own_form' ho
    clear hW hR hb1 hb3 q2 b0 b1 b2
    go_wp2_with fail
    exact bodyPost_ret (v := .tuple #[.slice xa 32 xc, faultV (0, 0)]) (by simp [results, Tryd.results20, go_sem, q20, q21]) rfl ⟨xa, 32, xc, rfl, fun _ => ownsRow_base (ownsRow_setCell_below (ownsRow_setCell_below ho hs3 _) hs3 _) hs2, fun h => absurd rfl h, (b3.setCell (Nat.le_refl _) _).setCell (Nat.le_refl _) _⟩
  · have i1 : ((wrongL L).1 != 0) = true := by simpa using h0
    generalize wrongL L = p at *
    obtain ⟨x, y⟩ := p
    dsimp only at h0 i1 ⊢
    go_enter Tryd.func20, Tryd.ntmps20
    go_wp2_with fail
    refine hW.mono ?_
    rintro e w1 ⟨rfl, hb1⟩
    have b1 : Below w.heap.size w w1 := b0.trans (hb1.mono b0.size)
    obtain ⟨q20, q21, q22, q23⟩ := box_two (box_old w1 (.cells #[.int .i64 x, .int .i64 y] 31) (box_kept (box_new w #[.int .i64 0, .int .i64 0] 31) hb1))
    have b2 : Below w.heap.size w (w1.alloc (.cells #[.int .i64 x, .int .i64 y] 31)) := b1.alloc b1.size _
    go_wp2_with fail
    obtain ⟨p0, p1, -, -⟩ := box_two (box_new w1 #[.int .i64 x, .int .i64 y] 31)
    have n1 : w.heap.size ≠ w1.heap.size := by have := hb1.size; simp at this; omega
    generalize w1.alloc (.cells #[.int .i64 x, .int .i64 y] 31) = W at *
    generalize w1.heap.size = q1 at *
    go_region_held3 (fun w' => w'.cell? ⟨q1, 0, none⟩ = some (.int .i64 x) ∧ w'.cell? ⟨q1, 1, none⟩ = some (.int .i64 y)) (first | exact ⟨p0, p1⟩ | exact ⟨(World.cell?_setCell_far _ _ _ _ n1).trans ((World.cell?_setCell_far _ _ _ _ n1).trans p0), (World.cell?_setCell_far _ _ _ _ n1).trans ((World.cell?_setCell_far _ _ _ _ n1).trans p1)⟩) (fail)
    go_wp2_with fail
    exact bodyPost_ret (v := .tuple #[.slice none 0 0, faultV (x, y)]) (by simp [results, Tryd.results20, go_sem, q20, q21]) rfl ⟨none, 0, 0, rfl, fun h => absurd h h0, fun _ => rfl, ((b2.setCell (Nat.le_refl _) _).setCell (Nat.le_refl _) _).drew⟩

end Go.Proofs.YtkjlchfmplcobadDoor

/- The texts on two ways to one root: going down, they are the same, or the first two that are unlike have one digest. Plain mathematics. -/
namespace Go.Proofs.YtkjlchfmplcobadDoor

/-- A node's text, of what was made and another digest; the other one's side is told. -/
def nodeT (l : Bool) (made other : List Int) : List Int := 1 :: (if l then other ++ made else made ++ other)
/-- The texts of the nodes on the way up. -/
def climbT : List Bool → List Int → List (List Int) → List (List Int)
  | l :: ls, m, o :: os => nodeT l m o :: climbT ls (shaL (nodeT l m o)) os
  | [], _, _ => []
  | _ :: _, _, [] => []
/-- What is made at the end. -/
def climbD : List Bool → List Int → List (List Int) → List Int
  | l :: ls, m, o :: os => climbD ls (shaL (nodeT l m o)) os
  | [], m, _ => m
  | _ :: _, m, [] => m
theorem climbT_none (ls : List Bool) (m : List Int) : climbT ls m [] = [] := by cases ls <;> rfl
theorem climbD_none (ls : List Bool) (m : List Int) : climbD ls m [] = m := by cases ls <;> rfl
theorem climb_snoc (k : Nat) : ∀ (ls : List Bool) (m : List Int) (os : List (List Int)), k < os.length → os.length ≤ ls.length →
    climbT ls m (os.take (k + 1)) = climbT ls m (os.take k) ++ [nodeT (ls.getD k false) (climbD ls m (os.take k)) (os.getD k [])] ∧ climbD ls m (os.take (k + 1)) = shaL (nodeT (ls.getD k false) (climbD ls m (os.take k)) (os.getD k [])) := by
  induction k with
  | zero =>
    intro ls m os h1 h2
    match ls, os, h1, h2 with
    | l :: ls, o :: os, _, _ => simp [climbT, climbD, climbT_none, climbD_none]
    | _, [], h1, _ => simp at h1
    | [], _ :: _, _, h2 => simp at h2
  | succ k ih =>
    intro ls m os h1 h2
    match ls, os, h1, h2 with
    | l :: ls, o :: os, h1, h2 =>
      obtain ⟨e1, e2⟩ := ih ls (shaL (nodeT l m o)) os (by simpa using h1) (by simpa using h2)
      rw [List.take_succ_cons, List.take_succ_cons]
      constructor
      · show nodeT l m o :: climbT ls _ (os.take (k + 1)) = nodeT l m o :: climbT ls _ (os.take k) ++ _
        rw [e1]; rfl
      · exact e2
    | _, [], h1, _ => simp at h1
    | [], _ :: _, _, h2 => simp at h2
theorem climbT_length : ∀ (ls : List Bool) (m : List Int) (os : List (List Int)), os.length ≤ ls.length → (climbT ls m os).length = os.length
  | [], m, os, h => by
    have : os = [] := List.length_eq_zero_iff.1 (by simpa using h)
    rw [this]; rfl
  | _ :: _, m, [], _ => rfl
  | l :: ls, m, o :: os, h => by
    show (climbT ls _ os).length + 1 = os.length + 1
    rw [climbT_length ls _ os (by simpa using h)]
theorem nodeT_inj {l : Bool} {m1 m2 o1 o2 : List Int} (h : nodeT l m1 o1 = nodeT l m2 o2) (hm : m1.length = m2.length) (ho : o1.length = o2.length) : m1 = m2 ∧ o1 = o2 := by
  have e : (if l then o1 ++ m1 else m1 ++ o1) = if l then o2 ++ m2 else m2 ++ o2 := by injection h
  cases l with
  | true => exact (List.append_inj (by simpa using e) ho).symm
  | false => exact List.append_inj (by simpa using e) hm
/-- Where all texts are the same, so is all that they were made of. -/
theorem same_start : ∀ (ls : List Bool) (m1 m2 : List Int) (o1 o2 : List (List Int)), o1.length = ls.length → o2.length = ls.length → m1.length = 32 → m2.length = 32 → Digs o1 → Digs o2 → climbT ls m1 o1 = climbT ls m2 o2 → climbD ls m1 o1 = climbD ls m2 o2 → m1 = m2 ∧ o1 = o2
  | [], m1, m2, o1, o2, h1, h2, _, _, _, _, _, hd => by
    obtain rfl : o1 = [] := List.length_eq_zero_iff.1 (by simpa using h1)
    obtain rfl : o2 = [] := List.length_eq_zero_iff.1 (by simpa using h2)
    exact ⟨hd, rfl⟩
  | l :: ls, m1, m2, x1 :: o1, x2 :: o2, h1, h2, l1, l2, g1, g2, ht, hd => by
    have hc : nodeT l m1 x1 :: climbT ls (shaL (nodeT l m1 x1)) o1 = nodeT l m2 x2 :: climbT ls (shaL (nodeT l m2 x2)) o2 := ht
    injection hc with a1 a2
    obtain ⟨e1, e2⟩ := nodeT_inj a1 (l1.trans l2.symm) ((g1 x1 (by simp)).trans (g2 x2 (by simp)).symm)
    have hd' : climbD ls (shaL (nodeT l m1 x1)) o1 = climbD ls (shaL (nodeT l m2 x2)) o2 := hd
    have := same_start ls _ _ o1 o2 (by simpa using h1) (by simpa using h2) (shaL_len _) (shaL_len _) (fun d hd => g1 d (by simp [hd])) (fun d hd => g2 d (by simp [hd])) a2 hd'
    exact ⟨e1, by rw [e2, this.2]⟩
  | _ :: _, _, _, [], _, h1, _, _, _, _, _, _, _ => by simp at h1
  | _ :: _, _, _, _ :: _, [], _, h2, _, _, _, _, _, _ => by simp at h2
/-- Behind which all are the same: these two have one digest. -/
theorem climb_at : ∀ (ls : List Bool) (m1 m2 : List Int) (o1 o2 : List (List Int)) (k : Nat), o1.length = ls.length → o2.length = ls.length → Digs o1 → Digs o2 → climbD ls m1 o1 = climbD ls m2 o2 → k < ls.length →
    (climbT ls m1 o1).drop (k + 1) = (climbT ls m2 o2).drop (k + 1) → shaL ((climbT ls m1 o1).getD k []) = shaL ((climbT ls m2 o2).getD k [])
  | [], _, _, _, _, k, _, _, _, _, _, hk, _ => by simp at hk
  | l :: ls, m1, m2, x1 :: o1, x2 :: o2, 0, h1, h2, g1, g2, hd, _, ht => by
    have ht' : climbT ls (shaL (nodeT l m1 x1)) o1 = climbT ls (shaL (nodeT l m2 x2)) o2 := by simpa [climbT] using ht
    have hd' : climbD ls (shaL (nodeT l m1 x1)) o1 = climbD ls (shaL (nodeT l m2 x2)) o2 := hd
    exact (same_start ls _ _ o1 o2 (by simpa using h1) (by simpa using h2) (shaL_len _) (shaL_len _) (fun d hd => g1 d (by simp [hd])) (fun d hd => g2 d (by simp [hd])) ht' hd').1
  | l :: ls, m1, m2, x1 :: o1, x2 :: o2, k + 1, h1, h2, g1, g2, hd, hk, ht => by
    have hd' : climbD ls (shaL (nodeT l m1 x1)) o1 = climbD ls (shaL (nodeT l m2 x2)) o2 := hd
    have := climb_at ls (shaL (nodeT l m1 x1)) (shaL (nodeT l m2 x2)) o1 o2 k (by simpa using h1) (by simpa using h2) (fun d hd => g1 d (by simp [hd])) (fun d hd => g2 d (by simp [hd])) hd' (by simpa using hk) (by simpa [climbT] using ht)
    simpa [climbT] using this
  | _ :: _, _, _, [], _, _, h1, _, _, _, _, _, _ => by simp at h1
  | _ :: _, _, _, _ :: _, [], _, _, h2, _, _, _, _, _ => by simp at h2
/-- Two lists of texts: any two, behind which all are the same, have one digest. -/
def Linked (A B : List (List Int)) : Prop := A.length = B.length ∧ ∀ k, k < A.length → A.drop (k + 1) = B.drop (k + 1) → shaL (A.getD k []) = shaL (B.getD k [])
theorem climb_linked {ls : List Bool} {m1 m2 : List Int} {o1 o2 : List (List Int)} (h1 : o1.length = ls.length) (h2 : o2.length = ls.length) (g1 : Digs o1) (g2 : Digs o2) (hd : climbD ls m1 o1 = climbD ls m2 o2) : Linked (climbT ls m1 o1) (climbT ls m2 o2) := by
  have e1 := climbT_length ls m1 o1 (by omega)
  have e2 := climbT_length ls m2 o2 (by omega)
  exact ⟨by omega, fun k hk ht => climb_at ls m1 m2 o1 o2 k h1 h2 g1 g2 hd (by omega) ht⟩
/-- With the leaves' texts ahead. -/
theorem leaf_linked {ls : List Bool} {b1 b2 : List Int} {o1 o2 : List (List Int)} (h1 : o1.length = ls.length) (h2 : o2.length = ls.length) (g1 : Digs o1) (g2 : Digs o2) (hd : climbD ls (leafL b1) o1 = climbD ls (leafL b2) o2) : Linked ((0 :: b1) :: climbT ls (leafL b1) o1) ((0 :: b2) :: climbT ls (leafL b2) o2) := by
  obtain ⟨e, h⟩ := climb_linked h1 h2 g1 g2 hd
  refine ⟨by simp [e], fun k hk ht => ?_⟩
  cases k with
  | zero =>
    have ht' : climbT ls (leafL b1) o1 = climbT ls (leafL b2) o2 := by simpa using ht
    exact (same_start ls _ _ o1 o2 h1 h2 (shaL_len _) (shaL_len _) g1 g2 ht' hd).1
  | succ k => simpa using h k (by simpa using hk) (by simpa using ht)
/-- The sides of a path's digests. -/
def pathSides (ps : List (Nat × Nat)) (i : Nat) : List Bool := ps.map (fun q => decide (q.2 ≤ i))
theorem pathP_apart (d : Nat) : ∀ (f e i : Nat), e - f = d → f ≤ i → i < e → ∀ q ∈ pathP f e i, q.1 < q.2 ∧ (i < q.1 ∨ q.2 ≤ i) := by
  induction d using Nat.strongRecOn with
  | ind d ih =>
    intro f e i hd hf hi q hq
    by_cases h2 : e < f + 2
    · rw [pathP_one h2] at hq; cases hq
    · have hs := splitN_spec (n := e - f) (by omega)
      by_cases hl : i < f + splitN (e - f)
      · rw [pathP_left (by omega) hl] at hq
        rcases List.mem_append.1 hq with h | h
        · exact ih (splitN (e - f)) (by omega) f (f + splitN (e - f)) i (by omega) hf hl q h
        · rw [List.mem_singleton.1 h]; simp only; omega
      · rw [pathP_right (by omega) hl] at hq
        rcases List.mem_append.1 hq with h | h
        · exact ih (e - (f + splitN (e - f))) (by omega) (f + splitN (e - f)) e i rfl (by omega) hi q h
        · rw [List.mem_singleton.1 h]; simp only; omega
theorem foldUp_climb (i : Nat) : ∀ (ps : List (Nat × Nat)) (d : List Int) (p : List (List Int)), p.length = ps.length → (∀ q ∈ ps, q.1 < q.2 ∧ (i < q.1 ∨ q.2 ≤ i)) → foldUp i d ps p = climbD (pathSides ps i) d p
  | [], d, p, h, _ => by
    obtain rfl : p = [] := List.length_eq_zero_iff.1 (by simpa using h)
    rfl
  | q :: ps, d, x :: p, h, ha => by
    have hq := ha q (by simp)
    have e : stepUp i d (q, x) = shaL (nodeT (decide (q.2 ≤ i)) d x) := by
      unfold stepUp nodeT nodeL
      by_cases hc : q.2 ≤ i
      · rw [if_pos (by simp only; omega), decide_eq_true hc]; rfl
      · rw [if_neg (by simp only; omega), decide_eq_false hc]; rfl
    show foldUp i (stepUp i d (q, x)) ps p = climbD (pathSides ps i) (shaL (nodeT (decide (q.2 ≤ i)) d x)) p
    rw [e]
    exact foldUp_climb i ps _ p (by simpa using h) (fun y hy => ha y (by simp [hy]))
  | _ :: _, _, [], h, _ => by simp at h
/-- WHO SHOWS A LEAF THAT IS NOT THERE: the two ways' texts are unlike somewhere, and linked. -/
theorem stands_ways {L : List (List Int)} {b : List Int} {i : Nat} {p : List (List Int)} (hi : i < L.length) (hp : p.length = (pathP 0 L.length i).length) (hg : Digs p) (hr : foldUp i (leafL b) (pathP 0 L.length i) p = mth L) (hne : L.getD i [] ≠ b) :
    Linked ((0 :: L.getD i []) :: climbT (pathSides (pathP 0 L.length i) i) (leafL (L.getD i [])) (pathL L i)) ((0 :: b) :: climbT (pathSides (pathP 0 L.length i) i) (leafL b) p) ∧
    ((0 :: L.getD i []) :: climbT (pathSides (pathP 0 L.length i) i) (leafL (L.getD i [])) (pathL L i)) ≠ ((0 :: b) :: climbT (pathSides (pathP 0 L.length i) i) (leafL b) p) := by
  have hap := pathP_apart L.length 0 L.length i (by omega) (by omega) hi
  have hpl : (pathL L i).length = (pathP 0 L.length i).length := by
    have h := path_seg L L.length 0 L.length i (by omega) (by omega) hi (Nat.le_refl _)
    rw [seg_all] at h
    have := congrArg List.length h
    simpa using this.symm
  have hu := up_all (leafL (L.getD i [])) L.length 0 L.length i (pathL L i) (by omega) (by omega) hi
  simp only [Nat.sub_zero] at hu
  rw [up_path L i hi] at hu
  have h1 := hu.2 hpl
  simp only at h1
  rw [foldUp_climb i _ _ _ hpl hap] at h1
  rw [foldUp_climb i _ _ _ hp hap] at hr
  refine ⟨leaf_linked (by simp [pathSides, hpl]) (by simp [pathSides, hp]) (path_digs L i) hg (h1.symm.trans hr.symm), fun e => hne ?_⟩
  injection e with e1 e2
  injection e1
end Go.Proofs.YtkjlchfmplcobadDoor
