/- The walk of climb; append at a step of a region that draws. -/
import Derived.Test.YtkjlchfmplcobabDoorProg
import Derived.Test.YtkjlchfmplcobabDoorClashGoConcat
import Derived.Test.YtkjlchfmplcobabDoorClashText
import Derived.Test.YtkjlchfmplcobabDoorTreeGoShow
import Derived.WalkKit
import Derived.WalkSpells
import Derived.WalkLawsBesides
import Derived.Deep.RegionLaw
import Derived.Deep.RegionHeld3
import Derived.BigRegion
import Derived.BigQuiet
namespace Go.Proofs.YtkjlchfmplcobabDoor
open Go.RowKit

/-- A list of digests as a walk meets it. -/
structure DigsAt (w : World) (a : Option Addr) (n c : Nat) (L : List (List Int)) : Prop where
  len : L.length = n
  at' : PartsAt w (.slice a n c) L
  room : n ≤ c
  cap : c ≤ maxLen
  bytes : ∀ j, Bytes (L.getD j [])
  digs : Digs L
theorem DigsAt.below {w w' : World} {a : Option Addr} {n c : Nat} {L : List (List Int)} (h : DigsAt w a n c L) (hb : Below w.heap.size w w') : DigsAt w' a n c L :=
  ⟨h.len, h.at'.below (Nat.le_refl _) hb, h.room, h.cap, h.bytes, h.digs⟩
theorem digs_get {L : List (List Int)} (h : Digs L) {j : Nat} (hj : j < L.length) : (L.getD j []).length = 32 := goodL_get (goodL_digs.2 h) j hj
theorem nodeT_len {l : Bool} {m o : List Int} (hm : m.length = 32) (ho : o.length = 32) : (nodeT l m o).length = 65 := by
  unfold nodeT; cases l <;> simp [hm, ho]
theorem nodeT_bytes {l : Bool} {m o : List Int} (hm : Bytes m) (ho : Bytes o) : Bytes (nodeT l m o) := by
  unfold nodeT; cases l
  · exact bytes_cons (by decide) (by decide) (bytes_append hm ho)
  · exact bytes_cons (by decide) (by decide) (bytes_append ho hm)
theorem climbD_fit (ls : List Bool) (os : List (List Int)) : ∀ (m : List Int), Bytes m → m.length = 32 → Bytes (climbD ls m os) ∧ (climbD ls m os).length = 32 := by
  induction ls generalizing os with
  | nil => intro m h1 h2; cases os <;> exact ⟨h1, h2⟩
  | cons l ls ih =>
    intro m h1 h2
    cases os with
    | nil => exact ⟨h1, h2⟩
    | cons o os => exact ih os _ (bytes_shaL _) (shaL_len _)

set_option maxRecDepth 100000 in
set_option maxHeartbeats 4000000 in
theorem climb_any (ls : List Bool) (m : List Int) (os : List (List Int)) (la ma oa : Option Addr) (lc mc on oc base : Nat) (w : World) (hr : Ready w) (hB : w.ownsRow base 4 1 (.slice la ls.length lc) ls.length (ls.map Value.bool)) (hm : BytesAt w (.slice ma 32 mc) m) (hmz : Bytes m) (hm32 : m.length = 32)
    (hO : DigsAt w oa on oc os) (hol : on ≤ ls.length) (hls : ls.length ≤ 1000) :
    Calls Tryd.prog 70 #[.func (.func 38) #[] #[], .slice la ls.length lc, .slice ma 32 mc, .slice oa on oc] w fun e w' => ∃ v, e = .returned v ∧ OwnParts w' w.heap.size v (climbT ls m os) ∧ Below w.heap.size w w' := by
  obtain ⟨i0, hi0, hz0, hz1, hz2⟩ := info_parts Tryd.info24b
  have HL : Hid (os.length = on) := hO.len
  obtain ⟨a0, c0, e0, hcell⟩ := hO.at'.form
  rw [hO.len] at e0 hcell
  cases e0
  have hdg : ∀ j, j < on → (os.getD j []).length = 32 := fun j hj => digs_get hO.digs (by rw [HL.out]; exact hj)
  have hoz := hO.bytes
  have hBw : ∀ wr, Below w.heap.size w wr → wr.ownsRow base 4 1 (.slice la ls.length lc) ls.length (ls.map Value.bool) := fun wr hb => own_below hB hb (Nat.le_refl _)
  have HS : Hid (∀ k, k < on → climbT ls m (os.take (k + 1)) = climbT ls m (os.take k) ++ [nodeT (ls.getD k false) (climbD ls m (os.take k)) (os.getD k [])] ∧ climbD ls m (os.take (k + 1)) = shaL (nodeT (ls.getD k false) (climbD ls m (os.take k)) (os.getD k []))) := fun k hk => climb_snoc k ls m os (by rw [HL.out]; exact hk) (by rw [HL.out]; exact hol)
  have HTl : Hid (∀ k, k ≤ on → (climbT ls m (os.take k)).length = k) := fun k hk => by
    rw [climbT_length ls m (os.take k) (by rw [List.length_take, HL.out]; omega), List.length_take, HL.out]; omega
  have hDf : ∀ k, Bytes (climbD ls m (os.take k)) ∧ (climbD ls m (os.take k)).length = 32 := fun k => climbD_fit ls (os.take k) m hmz hm32
  have HT0 : Hid (climbT ls m (os.take 0) = []) := by show _ = _; rw [List.take_zero, climbT_none]
  have HD0 : Hid (climbD ls m (os.take 0) = m) := by show _ = _; rw [List.take_zero, climbD_none]
  have hr0 := hr
  have hlen64 : ls.length ≤ 9223372036854775807 := by omega
  clear hB hO
  go_enter Tryd.func70, Tryd.ntmps70
  go_wp2_with fail
  go_loopw [2, 9, 15] (fun md tv i wr => ∃ k : Nat, k ≤ on ∧ i = .int .i64 k ∧ (∃ ra rc, md = .slice ra 32 rc ∧ BytesAt wr (.slice ra 32 rc) (climbD ls m (os.take k))) ∧ (∃ va vc, tv = .slice va k vc ∧ ∃ vs, wr.ownsRow w.heap.size 24 1 (.slice va k vc) k vs ∧ OwnEls wr w.heap.size vs (climbT ls m (os.take k))) ∧ Below w.heap.size w wr) (fun _ _ i _ => on - (intOf i).toNat)
  case atStart => exact ⟨0, Nat.zero_le _, rfl, ⟨_, _, rfl, by rw [HD0.out]; exact hm⟩, ⟨_, _, rfl, [], World.ownsRow_nil _ _ _ _, fun j hj => by rw [HT0.out] at hj; exact absurd hj (Nat.not_lt_zero _)⟩, Below.refl _ _⟩
  case round =>
    obtain ⟨k, hk, rfl, ⟨ra, rc, rfl, hmd⟩, ⟨va, vc, rfl, vs, hrow, hels⟩, hb⟩ := hrel
    have hsz := hb.size
    by_cases hlt : k < on
    · obtain ⟨b, off, rfl, hbb, hc⟩ := hcell.resolve_left (by omega)
      obtain ⟨pa, pc, hcj, hBo⟩ := hc k hlt
      have hcj' : wr.cell? ⟨b, off + k, none⟩ = some (.slice pa (os.getD k []).length pc) := by rw [hb.cell (p := ⟨b, off + k, none⟩) hbb]; exact hcj
      have hBo' := hBo.below (Nat.le_refl _) hb
      rw [hdg k hlt] at hcj' hBo'
      obtain ⟨lg, rfl, hlc, -, -⟩ := own_get (z := false) (hBw wr hb) k (by omega)
      have hlgl : lg < wr.heap.size := own_lt (hBw wr hb) rfl
      have HT1 : Hid (climbT ls m (os.take (k + 1)) = climbT ls m (os.take k) ++ [nodeT (ls.getD k false) (climbD ls m (os.take k)) (os.getD k [])]) := (HS.out k hlt).1
      have HD1 : Hid (climbD ls m (os.take (k + 1)) = shaL (nodeT (ls.getD k false) (climbD ls m (os.take k)) (os.getD k []))) := (HS.out k hlt).2
      have hvl : vs.length = (climbT ls m (os.take k)).length := by rw [HTl.out k hk]; simpa using hrow.1
      obtain ⟨hMz, hM32⟩ := hDf k
      have hO32 := hdg k hlt
      have hOz := hoz k
      have hrk := hr.below hb
      clear HS HTl hDf hdg hoz hBw HT0 HD0 hcell hc hcj hBo hr hm hmz hm32
      generalize climbT ls m (os.take k) = T at *
      generalize climbD ls m (os.take k) = M at *
      generalize os.getD k [] = O at *
      generalize ls.getD k false = x at *
      have n1 := nodeText_any M O (.slice ra 32 rc) (.slice pa 32 pc) wr hmd hBo' (by omega)
      have n2 : ∀ w', Below wr.heap.size wr w' → _ := fun w' h => nodeText_any O M (.slice pa 32 pc) (.slice ra 32 rc) w' (hBo'.below (Nat.le_refl _) h) (hmd.below (Nat.le_refl _) h) (by omega)
      rw [hM32, hO32] at n1
      rw [hM32, hO32] at n2
      cases x with
      | false =>
        have hlen := nodeT_len (l := false) hM32 hO32
        have hTz := nodeT_bytes (l := false) hMz hOz
        have HN : Hid (nodeT false M O = 1 :: (M ++ O)) := rfl
        rw [← HN.out] at n1
        generalize nodeT false M O = t at *
        go_wp2_with fail
        refine n1.mono ?_
        rintro e w1 ⟨x1, rfl, ho1, hb1⟩
        obtain ⟨xa, xc, rfl⟩ := own_form' ho1
        have hlc0 : w1.cell? ⟨lg, k, none⟩ = some (.bool false) := by rw [hb1.cell (p := ⟨lg, k, none⟩) hlgl]; exact hlc
        clear n1 n2
        have hs1 := hb1.size
        have hrow2 := (own_below hrow hb1 (Nat.le_refl _)).alloc (.cells #[.slice xa 65 xc] 24)
        have hels2 := (hels.below hb1 (Nat.le_refl _)).alloc (.cells #[.slice xa 65 xc] 24)
        have htx2 := (ownsRow_base ho1 hsz).alloc (.cells #[.slice xa 65 xc] 24)
        have bA : Below w.heap.size w (w1.alloc (.cells #[.slice xa 65 xc] 24)) := (hb.trans (hb1.mono hsz)).alloc (by omega) _
        have bR : Below wr.heap.size wr (w1.alloc (.cells #[.slice xa 65 xc] 24)) := hb1.alloc (by omega) _
        go_wp2_with (at_builtin; refine wpList_append_own _ rfl (.tmp 30) (.tmp 32) 22 rfl w.heap.size 24 i0 (.slice none 0 0) 1 24 Tryd.underlying22 hi0 hz0 hz1 hz2 rfl (by decide) _ _ _ rfl hrow2 ⟨w1.heap.size, 0, none⟩ 1 1 [.slice xa 65 xc] rfl rfl (cell_one_new _ _ _) (by intro u hu; simp at hu; subst hu; rfl) (by unfold maxLen; omega) (by omega) (by simp; omega) ?_; intro v3 w3 ho3 hg3 _; obtain ⟨ya, yc, rfl⟩ := own_form' ho3)
        have b3 : Below w.heap.size w w3 := bA.grown hg3 bA.size (fun _ h => own_block hrow2 h)
        have htx3 := htx2.kept hg3 (own_ne htx2 hrow2 (by decide)).or
        have hel3 : OwnEls w3 w.heap.size (vs ++ [.slice xa 65 xc]) (climbT ls m (os.take (k + 1))) := by
          rw [HT1.out]
          exact (hels2.snoc hvl (by rw [hlen]; exact htx2)).kept hrow2 hg3
        have hrd := hr0.below b3
        have hu := sum_any t (.slice xa 65 xc) w3 (bytesAt_own htx3) (by omega) hTz hrd.tab hrd.big
        clear hg3 hels2 hrow2 hrow hels htx2 ho1 hmd hBo' hlc0 hlc
        refine hu.mono ?_
        rintro e w4 ⟨g4, rfl, ho4, hb4⟩
        have b4 := b3.trans (hb4.mono b3.size)
        have ho5 := own_below ho3 hb4 (Nat.le_refl _)
        have hel5 := hel3.below hb4 (Nat.le_refl _)
        clear hu ho3 hel3 hb4 htx3 hrd b3
        go_wp2_with fail
        go_roundw
        case rel => exact ⟨k + 1, by omega, by go_num, ⟨_, _, rfl, by rw [HD1.out]; exact bytesAt_own ho4⟩, ⟨_, _, rfl, _, ho5, hel5⟩, b4⟩
        case measure => simp [intOf]; omega
      | true =>
        have hlen := nodeT_len (l := true) hM32 hO32
        have hTz := nodeT_bytes (l := true) hMz hOz
        have HN : Hid (nodeT true M O = 1 :: (O ++ M)) := rfl
        rw [← HN.out] at n2
        generalize nodeT true M O = t at *
        go_wp2_with fail
        refine n1.mono ?_
        rintro e w0 ⟨x0, rfl, ho0, hb0⟩
        obtain ⟨xa0, xc0, rfl⟩ := own_form' ho0
        have hlc0 : w0.cell? ⟨lg, k, none⟩ = some (.bool true) := by rw [hb0.cell (p := ⟨lg, k, none⟩) hlgl]; exact hlc
        go_wp2_with fail
        refine (n2 w0 hb0).mono ?_
        rintro e w1 ⟨x1, rfl, ho1', hb1'⟩
        obtain ⟨xa, xc, rfl⟩ := own_form' ho1'
        have ho1 := ownsRow_base ho1' hb0.size
        have hb1 : Below wr.heap.size wr w1 := hb0.trans (hb1'.mono hb0.size)
        clear ho1' hb1' ho0 hb0
        clear n1 n2
        have hs1 := hb1.size
        have hrow2 := (own_below hrow hb1 (Nat.le_refl _)).alloc (.cells #[.slice xa 65 xc] 24)
        have hels2 := (hels.below hb1 (Nat.le_refl _)).alloc (.cells #[.slice xa 65 xc] 24)
        have htx2 := (ownsRow_base ho1 hsz).alloc (.cells #[.slice xa 65 xc] 24)
        have bA : Below w.heap.size w (w1.alloc (.cells #[.slice xa 65 xc] 24)) := (hb.trans (hb1.mono hsz)).alloc (by omega) _
        have bR : Below wr.heap.size wr (w1.alloc (.cells #[.slice xa 65 xc] 24)) := hb1.alloc (by omega) _
        go_wp2_with (at_builtin; refine wpList_append_own _ rfl (.tmp 30) (.tmp 32) 22 rfl w.heap.size 24 i0 (.slice none 0 0) 1 24 Tryd.underlying22 hi0 hz0 hz1 hz2 rfl (by decide) _ _ _ rfl hrow2 ⟨w1.heap.size, 0, none⟩ 1 1 [.slice xa 65 xc] rfl rfl (cell_one_new _ _ _) (by intro u hu; simp at hu; subst hu; rfl) (by unfold maxLen; omega) (by omega) (by simp; omega) ?_; intro v3 w3 ho3 hg3 _; obtain ⟨ya, yc, rfl⟩ := own_form' ho3)
        have b3 : Below w.heap.size w w3 := bA.grown hg3 bA.size (fun _ h => own_block hrow2 h)
        have htx3 := htx2.kept hg3 (own_ne htx2 hrow2 (by decide)).or
        have hel3 : OwnEls w3 w.heap.size (vs ++ [.slice xa 65 xc]) (climbT ls m (os.take (k + 1))) := by
          rw [HT1.out]
          exact (hels2.snoc hvl (by rw [hlen]; exact htx2)).kept hrow2 hg3
        have hrd := hr0.below b3
        have hu := sum_any t (.slice xa 65 xc) w3 (bytesAt_own htx3) (by omega) hTz hrd.tab hrd.big
        clear hg3 hels2 hrow2 hrow hels htx2 ho1 hmd hBo' hlc0 hlc
        refine hu.mono ?_
        rintro e w4 ⟨g4, rfl, ho4, hb4⟩
        have b4 := b3.trans (hb4.mono b3.size)
        have ho5 := own_below ho3 hb4 (Nat.le_refl _)
        have hel5 := hel3.below hb4 (Nat.le_refl _)
        clear hu ho3 hel3 hb4 htx3 hrd b3
        go_wp2_with fail
        go_roundw
        case rel => exact ⟨k + 1, by omega, by go_num, ⟨_, _, rfl, by rw [HD1.out]; exact bytesAt_own ho4⟩, ⟨_, _, rfl, _, ho5, hel5⟩, b4⟩
        case measure => simp [intOf]; omega
    · obtain rfl : k = on := by omega
      have e : os.take k = os := List.take_of_length_le (by rw [HL.out]; exact Nat.le_refl _)
      rw [e] at hels
      have HTk : Hid ((climbT ls m os).length = k) := by have := HTl.out k (Nat.le_refl _); rw [e] at this; exact this
      clear HS HTl hDf hdg hoz hBw HT0 HD0 hcell hm hmz hm32 hmd e
      go_wp2_with fail
      go_ret
      exact ⟨_, rfl, ⟨vs, by rw [HTk.out]; exact hrow, hels⟩, hb⟩

/-- append(dst, src...) at a step of a region that draws its order, both rows of calls' own; src may be nothing. -/
theorem step_append_row {P : Program} {w : World} {ops : Array Oper} {o : Oper} {a : Act} {K : Act → World → Prop} {Q : Exit → Act → World → Prop} {E : Prop} (hgd : o.guard = none) (s x : Operand) (t : TypeId)
    (ho : o.op = .call { callee := .builtin .append, args := #[s, x], argTypes := #[t, t] })
    (base : Nat) (e : TypeId) (i : TypeInfo) (z : Value) (bytes : Nat) (ht : P.underlying t = some (.slice e)) (hi : P.info? e = some i) (hz : i.zero = some z)
    (hsize : i.size = 1) (hby : i.bytes = bytes) (hzs : z.cells.size = 1)
    (v : Value) (n : Nat) (xs : List Value) (hs : a.eval s = v) (hown : w.ownsRow base e 1 v n xs)
    (b2 : Nat) (u : Value) (m : Nat) (news : List Value) (hx : a.eval x = u) (hsrc : w.ownsRow b2 e 1 u m news) (h1 : ∀ y ∈ news, y.oneCell' = true)
    (h63 : n + m ≤ maxLen) (hbytes : (n + m) * bytes ≤ 140737488355328) (hbase : base ≤ w.heap.size)
    (h : ∀ v' w', w'.ownsRow base e 1 v' (n + m) (xs ++ news) → w.grownBy w' v.ownBlock → K (a.put o.dst v') w') :
    if Region.wanted o (yielded ops a.tmps) = true then Oper.wp P o a w K Q else E := by
  rcases hsrc.2 with ⟨hu, hm⟩ | ⟨g, cap, cur, hu, -⟩
  · have hn0 : news = [] := List.length_eq_zero_iff.1 (by rw [hsrc.1, hm])
    have hw : Region.wanted o (yielded ops a.tmps) = true := by simp [Region.wanted, hgd]
    rw [if_pos hw]
    have hrun := run_append_owned_none (P := P) (w := w) base t o.type e i 1 ht hi v n xs hown
    have hx' := hx.trans hu
    unfold Oper.wp
    simp [execOp, ho, resolve, invoke, builtin, hs, hx', hrun, Result.andThen]
    exact h v w (by rw [hm, hn0, List.append_nil]; exact hown) (World.grownBy.refl _ _)
  · subst hu
    refine step_append_kept w hgd s x t ho base e i z bytes ht hi hz hsize hby hzs v n xs hs hown ⟨g, 0, none⟩ m cap news hx (by simpa using hsrc.1) (fun j y hj => ?_) h1 h63 hbytes hbase (fun v' w' r1 r2 _ => h v' w' r1 r2)
    have hjl : j < m := by
      have h1 := hsrc.1
      rcases Nat.lt_or_ge j news.length with h' | h'
      · omega
      · rw [List.getElem?_eq_none h'] at hj; cases hj
    have hc := hsrc.cellAt j (by omega)
    rw [hj] at hc
    rw [← hc]
    cases j <;> simp [Addr.add]
theorem els_one {w : World} {base : Nat} {vs : List Value} {L : List (List Int)} (h : OwnEls w base vs L) (hl : vs.length = L.length) : ∀ y ∈ vs, y.oneCell' = true := fun y hy => by
  obtain ⟨j, hj, e⟩ := List.getElem_of_mem hy
  obtain ⟨z, h1, h2⟩ := h j (by omega)
  rw [List.getElem?_eq_getElem hj, e] at h1
  cases h1
  obtain ⟨a, c, rfl⟩ := own_form' h2
  rfl
theorem els_cons {w : World} {base : Nat} {vs : List Value} {L : List (List Int)} {x : Value} {d : List Int} (h : OwnEls w base vs L) (hx : w.ownsRow base 5 1 x d.length (d.map (Value.int .u8))) : OwnEls w base (x :: vs) (d :: L) := fun j hj => by
  cases j with
  | zero => exact ⟨x, rfl, hx⟩
  | succ j => simpa using h j (by simpa using hj)
/-- A list of one text lies there. -/
structure LitAt (base : Nat) (t : List Int) (xv : Value) (w : World) (lv : Value) : Prop where
  row : w.ownsRow base 24 1 lv 1 [xv]
  text : w.ownsRow base 5 1 xv t.length (t.map (Value.int .u8))
theorem LitAt.below {base : Nat} {t : List Int} {xv lv : Value} {w w' : World} (h : LitAt base t xv w lv) (hb : Below w.heap.size w w') : LitAt base t xv w' lv := ⟨own_below h.row hb (Nat.le_refl _), own_below h.text hb (Nat.le_refl _)⟩
theorem LitAt.drew {base : Nat} {t : List Int} {xv lv : Value} {w : World} (h : LitAt base t xv w lv) : LitAt base t xv w.drew lv := ⟨h.row, h.text⟩
theorem LitAt.new {base : Nat} {t : List Int} {xa : Option Addr} {xn xc : Nat} {w : World} (h : w.ownsRow base 5 1 (.slice xa xn xc) t.length (t.map (Value.int .u8))) (hb : base ≤ w.heap.size) : LitAt base t (.slice xa xn xc) (w.alloc (.cells #[.slice xa xn xc] 24)) (.slice (some ⟨w.heap.size, 0, none⟩) 1 1) :=
  ⟨ownsRow_base (World.ownsRow_lit w #[.slice xa xn xc] 1 (by omega) (by unfold maxLen; omega) rfl) hb, h.alloc _⟩
theorem LitAt.all {base : Nat} {t : List Int} {xv lv v' : Value} {w w' : World} {vs : List Value} {T : List (List Int)} (h : LitAt base t xv w lv) (he : OwnEls w base vs T) (ho : w'.ownsRow base 24 1 v' (1 + T.length) ([xv] ++ vs)) (hg : w.grownBy w' lv.ownBlock) : OwnParts w' base v' (t :: T) := by
  refine ⟨xv :: vs, ?_, (els_cons he h.text).kept h.row hg⟩
  rw [List.length_cons, Nat.add_comm]
  exact ho

end Go.Proofs.YtkjlchfmplcobabDoor
