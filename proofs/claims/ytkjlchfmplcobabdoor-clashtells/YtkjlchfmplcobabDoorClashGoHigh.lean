/- The walks of proofTexts, highest, ofPaths and ofProofs. -/
import Derived.Test.YtkjlchfmplcobabDoorProg
import Derived.Test.YtkjlchfmplcobabDoorClashGoTexts
import Derived.WalkKit
import Derived.WalkSpells
import Derived.WalkLawsBesides
import Derived.Deep.RegionLaw
import Derived.Deep.RegionHeld3
import Derived.BigRegion
import Derived.BigQuiet
import Derived.Test.YtkjlchfmplcobabDoorClashFace
namespace Go.Proofs.YtkjlchfmplcobabDoor
open Go.RowKit


theorem DigsAt.tail {w : World} {b off n c : Nat} {L : List (List Int)} (h : DigsAt w (some ⟨b, off, none⟩) n c L) (h0 : 0 < n) : DigsAt w (some ⟨b, off + 1, none⟩) (n - 1) (c - 1) (L.drop 1) :=
  have gd : ∀ j, (L.drop 1).getD j [] = L.getD (1 + j) [] := fun j => by rw [List.getD_eq_getElem?_getD, List.getElem?_drop, ← List.getD_eq_getElem?_getD]
  ⟨by rw [List.length_drop]; have := h.len; omega, h.at'.drop h.len h0 h0 _, by have := h.room; omega, by have := h.cap; omega, fun j => by rw [gd j]; exact h.bytes _, fun d hd => h.digs d (List.mem_of_mem_drop hd)⟩

set_option maxRecDepth 100000 in
set_option maxHeartbeats 4000000 in
theorem proofTexts_any (ls : List Bool) (d : List Int) (os : List (List Int)) (la oa : Option Addr) (lc on oc base : Nat) (fa : Option Addr) (fc : Nat) (w : World) (hr : Ready w) (hB : w.ownsRow base 4 1 (.slice la ls.length lc) ls.length (ls.map Value.bool)) (hf : BytesAt w (.slice fa 32 fc) d) (hdz : Bytes d) (hd32 : d.length = 32)
    (hO : DigsAt w oa on oc os) (hol : on = ls.length ∨ (on = ls.length + 1 ∧ 1 ≤ ls.length)) (hls : ls.length ≤ 1000) :
    Calls Tryd.prog 63 #[.func (.func 38) #[] #[], .slice la ls.length lc, .agg #[.slice fa 32 fc, .slice oa on oc]] w fun e w' => ∃ v, e = .returned v ∧ OwnParts w' w.heap.size v (proofT ls d os) ∧ Below w.heap.size w w' := by
  have bq := box_new w #[.slice fa 32 fc, .slice oa on oc] 73
  have bW : Below w.heap.size w (w.alloc (.cells #[.slice fa 32 fc, .slice oa on oc] 73)) := (Below.refl _ _).alloc (Nat.le_refl _) _
  have hsW := bW.size
  obtain ⟨z0, z1, -, -⟩ := box_two bq
  have hBW := own_below hB bW (Nat.le_refl _)
  unfold proofT
  rw [hO.len]
  by_cases hc : on = ls.length
  · rw [if_pos hc]
    have hC := climb_any ls d os la fa oa lc fc on oc base _ (hr.below bW) hBW (hf.below (Nat.le_refl _) bW) hdz hd32 (hO.below bW) (by omega) hls
    generalize climbT ls d os = T at *
    subst hc
    clear hr hB hf hO hdz hd32 hBW
    generalize ls.length = n at *
    go_enter Tryd.func63, Tryd.ntmps63
    go_wp2_with fail
    refine hC.mono ?_
    rintro e w1 ⟨v1, rfl, ho1, hb1⟩
    have b1 := bW.trans (hb1.mono hsW)
    have ho2 := ho1.base hsW
    obtain ⟨xa, xc, rfl, -⟩ := ho1.form
    clear hC hb1 ho1
    go_wp2_with fail
    go_ret
    exact ⟨_, rfl, ho2, b1⟩
  · rw [if_neg hc]
    have hon : on = ls.length + 1 := by omega
    obtain ⟨a0, c0, e0, hcell⟩ := hO.at'.form
    rw [hO.len] at e0 hcell
    cases e0
    obtain ⟨b, off, rfl, hbb, hcl⟩ := hcell.resolve_left (by omega)
    obtain ⟨pa, pc, hcj, hBo⟩ := hcl 0 (by omega)
    have h032 := digs_get hO.digs (j := 0) (by rw [hO.len]; omega)
    rw [h032] at hcj hBo
    rw [Nat.add_zero] at hcj
    have hcj' := (bW.cell (p := ⟨b, off, none⟩) hbb).trans hcj
    have hbW : b < (w.alloc (.cells #[.slice fa 32 fc, .slice (some ⟨b, off, none⟩) on oc] 73)).heap.size := Nat.lt_of_lt_of_le hbb hsW
    have hroom := hO.room
    have hC := climb_any ls (os.getD 0 []) (os.drop 1) la pa (some ⟨b, off + 1, none⟩) lc pc (on - 1) (oc - 1) base _ (hr.below bW.drew) (own_below hB bW.drew (Nat.le_refl _)) (hBo.below (Nat.le_refl _) bW.drew) (hO.bytes 0) h032 ((hO.tail (by omega)).below bW.drew) (by omega) hls
    generalize climbT ls (os.getD 0 []) (os.drop 1) = T at *
    have hcap := hO.cap
    unfold maxLen at hcap
    have hne : ¬ ((on : Int) = (ls.length : Int)) := by omega
    have h0 : 0 < on := by omega
    have h1 : 1 ≤ on := by omega
    have h3 : (1 : Int) ≤ on := by omega
    have h2 : ¬ oc = 1 := by omega
    clear hr hB hf hO hdz hd32 hBW hcell hcl hBo h032 hc hcj hol hon
    go_enter Tryd.func63, Tryd.ntmps63
    go_wp2_with fail
    generalize w.alloc (.cells #[.slice fa 32 fc, .slice (some ⟨b, off, none⟩) on oc] 73) = W at *
    go_region_held3 (fun w' => w'.cell? ⟨w.heap.size, 1, none⟩ = some (.slice (some ⟨b, off, none⟩) on oc) ∧ w'.cell? ⟨b, off, none⟩ = some (.slice pa 32 pc))
      (first | exact ⟨z1, hcj'⟩ | exact k2)
      (first | (go_at_call 70; refine hC.mono ?_; rintro r w2 ⟨v2, rfl, ho2, hb2⟩; have pq := box_kept (by exact bq) hb2; have k2 : w2.cell? ⟨w.heap.size, 1, none⟩ = some (.slice (some ⟨b, off, none⟩) on oc) ∧ w2.cell? ⟨b, off, none⟩ = some (.slice pa 32 pc) := ⟨(box_two pq).2.1, (hb2.cell (p := ⟨b, off, none⟩) hbW).trans hcj'⟩; have b2 := bW.drew.trans (hb2.mono hsW); have ho3 := ho2.base hsW; obtain ⟨xa, xc, rfl, -⟩ := ho2.form))
    all_goals (go_wp2_with fail; go_ret; exact ⟨_, rfl, ho3, b2⟩)

theorem drop_step {A B : List (List Int)} {k : Nat} (hA : k < A.length) (hB : k < B.length) (h : A.drop (k + 1) = B.drop (k + 1)) (he : A.getD k [] = B.getD k []) : A.drop k = B.drop k := by
  rw [List.getD_eq_getElem?_getD, List.getElem?_eq_getElem hA, List.getD_eq_getElem?_getD, List.getElem?_eq_getElem hB] at he
  have he' : A[k] = B[k] := by simpa using he
  rw [List.drop_eq_getElem_cons hA, List.drop_eq_getElem_cons hB, h, he']
set_option maxRecDepth 100000 in
set_option maxHeartbeats 4000000 in
theorem highest_any (A B : List (List Int)) (aa ba : Option Addr) (n ac bc : Nat) (w : World) (hA : PartsAt w (.slice aa n ac) A) (hB : PartsAt w (.slice ba n bc) B) (lA : A.length = n) (lB : B.length = n) (hn : n ≤ 2000) (zA : ∀ j, Bytes (A.getD j [])) (zB : ∀ j, Bytes (B.getD j [])) (hne : A ≠ B) :
    Calls Tryd.prog 60 #[.slice aa n ac, .slice ba n bc] w fun e w' => ∃ k vx vy, k < n ∧ e = .returned (.tuple #[vx, vy, .bool true]) ∧ A.getD k [] ≠ B.getD k [] ∧ A.drop (k + 1) = B.drop (k + 1) ∧ BytesAt w' vx (A.getD k []) ∧ BytesAt w' vy (B.getD k []) ∧ Below w.heap.size w w' := by
  have hn0 : n ≠ 0 := fun e => hne (by rw [List.length_eq_zero_iff.1 (lA.trans e), List.length_eq_zero_iff.1 (lB.trans e)])
  obtain ⟨a0, c0, e0, hcA⟩ := hA.form
  rw [lA] at e0 hcA
  cases e0
  obtain ⟨a0, c0, e0, hcB⟩ := hB.form
  rw [lB] at e0 hcB
  cases e0
  replace hcA := hcA.resolve_left hn0
  replace hcB := hcB.resolve_left hn0
  obtain ⟨ga, oa, rfl, hga, hcA⟩ := hcA
  obtain ⟨gb, ob, rfl, hgb, hcB⟩ := hcB
  have HS : Hid (∀ k, k < n → A.drop (k + 1) = B.drop (k + 1) → A.getD k [] = B.getD k [] → A.drop k = B.drop k ∧ k ≠ 0) := fun k hk h he => by
    have := drop_step (by omega) (by omega) h he
    exact ⟨this, fun e => hne (by subst e; simpa using this)⟩
  have HE : Hid (A.drop (n - 1 + 1) = B.drop (n - 1 + 1)) := by
    show _ = _
    rw [List.drop_eq_nil_of_le (by omega), List.drop_eq_nil_of_le (by omega)]
  have hnz : (1 : Int) ≤ n := by omega
  have HN1 : Hid (Value.int .i64 ((n : Int) - 1) = Value.int .i64 ((n - 1 : Nat) : Int)) := by
    show _ = _
    congr 1
    omega
  have hlt0 : n - 1 < n := by omega
  clear hA hB hne
  go_enter Tryd.func60, Tryd.ntmps60
  go_wp2_with fail
  go_loopw [7] (fun i wr => Below w.heap.size w wr ∧ ∃ k : Nat, k < n ∧ i = .int .i64 k ∧ Hid (A.drop (k + 1) = B.drop (k + 1))) (fun i _ => (intOf i).toNat)
  case atStart => exact ⟨Below.refl _ _, n - 1, hlt0, HN1.out, HE⟩
  case round =>
    obtain ⟨hbd, k, hk, rfl, hd⟩ := hrel
    obtain ⟨pa, pc, hcj, hBa⟩ := hcA k hk
    obtain ⟨qa, qc, hcq, hBb⟩ := hcB k hk
    replace hcj := (hbd.cell (p := ⟨ga, oa + k, none⟩) hga).trans hcj
    replace hcq := (hbd.cell (p := ⟨gb, ob + k, none⟩) hgb).trans hcq
    have hE : ∀ w', Below w.heap.size w w' → _ := fun w' h => equal_any (A.getD k []) (B.getD k []) (.slice pa (A.getD k []).length pc) (.slice qa (B.getD k []).length qc) w' (hBa.below (Nat.le_refl _) h) (hBb.below (Nat.le_refl _) h) (zA k) (zB k)
    by_cases hq : A.getD k [] = B.getD k []
    · obtain ⟨hd2, hk0⟩ := HS.out k hk hd.out hq
      have hk1 : (1 : Int) ≤ k := by omega
      have HD2 : Hid (A.drop (k - 1 + 1) = B.drop (k - 1 + 1)) := by
        show _ = _
        rw [show k - 1 + 1 = k by omega]
        exact hd2
      have HK1 : Hid (Value.int .i64 ((k : Int) - 1) = Value.int .i64 ((k - 1 : Nat) : Int)) := by
        show _ = _
        congr 1
        omega
      have hE' : ∀ w', Below w.heap.size w w' → Calls Tryd.prog 32 #[.slice pa (A.getD k []).length pc, .slice qa (B.getD k []).length qc] w' fun e w'' => e = .returned (.bool true) ∧ w'' = w' := fun w' h => by
        have := hE w' h
        rwa [decide_eq_true hq] at this
      clear hE hBa hBb hcA hcB HS hd hd2 hq HE HN1
      generalize (A.getD k []).length = d1 at *
      generalize (B.getD k []).length = d2 at *
      go_wp2
      go_quiet ((go_at_call 32; exact Calls.quiet_of_same (hE' _ (below_drewN' hbd _))))
      go_wp2
      go_roundw
      case rel => exact ⟨below_drewN' hbd _, k - 1, by omega, HK1.out, HD2⟩
      case measure => simp [intOf]; omega
    · have hE' : ∀ w', Below w.heap.size w w' → Calls Tryd.prog 32 #[.slice pa (A.getD k []).length pc, .slice qa (B.getD k []).length qc] w' fun e w'' => e = .returned (.bool false) ∧ w'' = w' := fun w' h => by
        have := hE w' h
        rwa [decide_eq_false hq] at this
      have HQ : Hid (A.getD k [] ≠ B.getD k []) := hq
      clear hE hcA hcB HS hq HE HN1
      obtain ⟨dA, HdA⟩ : ∃ dA, Hid (A.getD k [] = dA) := ⟨_, rfl⟩
      obtain ⟨dB, HdB⟩ : ∃ dB, Hid (B.getD k [] = dB) := ⟨_, rfl⟩
      rw [HdA.out] at hcj hBa hE'
      rw [HdB.out] at hcq hBb hE'
      go_wp2
      go_quiet ((go_at_call 32; exact Calls.quiet_of_same (hE' _ (below_drewN' hbd _))))
      have hb1 := below_drewN' hbd nq
      go_wp2
      go_quiet (fail)
      go_wp2
      have hbf := below_drewN' hb1 nq
      exact bodyPost_ret (v := .tuple #[.slice pa dA.length pc, .slice qa dB.length qc, .bool true]) (by simp [results, Tryd.results60, go_sem]) rfl ⟨k, _, _, hk, rfl, HQ.out, hd.out, by rw [HdA.out]; exact hBa.below (Nat.le_refl _) hbf, by rw [HdB.out]; exact hBb.below (Nat.le_refl _) hbf, hbf⟩

theorem fit_all {L : List (List Int)} (h : ∀ x ∈ L, Bytes x ∧ x.length ≤ 1000) (j : Nat) : Bytes (L.getD j []) ∧ (L.getD j []).length ≤ 1000 := by
  rw [List.getD_eq_getElem?_getD]
  rcases Nat.lt_or_ge j L.length with h' | h'
  · rw [List.getElem?_eq_getElem h']; exact h _ (List.getElem_mem h')
  · rw [List.getElem?_eq_none h']; exact ⟨nil_bytes, by simp⟩
theorem told_at {A B : List (List Int)} {n k : Nat} {w : World} {vx vy : Value} (zA : ∀ j, Bytes (A.getD j []) ∧ (A.getD j []).length ≤ 1000) (zB : ∀ j, Bytes (B.getD j []) ∧ (B.getD j []).length ≤ 1000) (lA : A.length = n) (hk : Linked A B) (hkn : k < n) (hne : A.getD k [] ≠ B.getD k []) (hd : A.drop (k + 1) = B.drop (k + 1)) (hx : BytesAt w vx (A.getD k [])) (hy : BytesAt w vy (B.getD k [])) : Told w vx vy true :=
  ⟨_, _, ⟨hx, (zA k).1, by have := (zA k).2; unfold maxLen; omega⟩, ⟨hy, (zB k).1, by have := (zB k).2; unfold maxLen; omega⟩, by have := (zA k).2; omega, by have := (zB k).2; omega, fun _ => ⟨hne, hk.2 k (by omega) hd⟩, fun h => by cases h⟩
set_option maxRecDepth 100000 in
set_option maxHeartbeats 4000000 in
theorem ofPaths_any {A B : List (List Int)} {n : Nat} {lv v1 v2 u1 u2 : Value} {w : World} (hA : ∀ w', Below w.heap.size w w' → Calls Tryd.prog 61 #[.func (.func 38) #[] #[], lv, .agg #[v1, v2]] w' fun e w'' => ∃ v, e = .returned v ∧ OwnParts w'' w'.heap.size v A ∧ Below w'.heap.size w' w'')
    (hB : ∀ w', Below w.heap.size w w' → Calls Tryd.prog 61 #[.func (.func 38) #[] #[], lv, .agg #[u1, u2]] w' fun e w'' => ∃ v, e = .returned v ∧ OwnParts w'' w'.heap.size v B ∧ Below w'.heap.size w' w'')
    (lA : A.length = n) (lB : B.length = n) (hn : n ≤ 2000) (zA : ∀ x ∈ A, Bytes x ∧ x.length ≤ 1000) (zB : ∀ x ∈ B, Bytes x ∧ x.length ≤ 1000) (hk : Linked A B) (hne : A ≠ B) :
    Calls Tryd.prog 41 #[.func (.func 38) #[] #[], lv, .agg #[v1, v2], .agg #[u1, u2]] w fun e w' => ∃ vx vy, e = .returned (.tuple #[vx, vy, .bool true]) ∧ Told w' vx vy true ∧ Below w.heap.size w w' := by
  have zA' := fit_all zA
  have zB' := fit_all zB
  have HlA : Hid (A.length = n) := lA
  have HlB : Hid (B.length = n) := lB
  have hH : ∀ w' aa ba ac bc, PartsAt w' (.slice aa n ac) A → PartsAt w' (.slice ba n bc) B → _ := fun w' aa ba ac bc h1 h2 => highest_any A B aa ba n ac bc w' h1 h2 HlA.out HlB.out hn (fun j => (zA' j).1) (fun j => (zB' j).1) hne
  have bW : Below w.heap.size w ((w.alloc (.cells #[v1, v2] 73)).alloc (.cells #[u1, u2] 73)) := ((Below.refl _ _).alloc (Nat.le_refl _) _).alloc (by simp) _
  have q1 := box_one w #[v1, v2] 73 (.cells #[u1, u2] 73)
  have q2 := box_last w (.cells #[v1, v2] 73) #[u1, u2] 73
  have hsW := bW.size
  clear lA lB zA zB
  go_enter Tryd.func41, Tryd.ntmps41
  go_wp2_with fail
  generalize (w.alloc (.cells #[v1, v2] 73)).alloc (.cells #[u1, u2] 73) = W at *
  obtain ⟨y10, y11, -, -⟩ := box_two q1
  obtain ⟨y20, y21, -, -⟩ := box_two q2
  go_region_law (first
    | (go_simp; go_at_call 60; refine (hH _ _ _ _ _ (by first | exact pA | exact pA.below (Nat.le_refl _) hbB) (by first | exact pB | exact pB.below (Nat.le_refl _) hbA)).mono ?_; rintro e wH ⟨k, vx, vy, hkn, rfl, hneq, hdr, hx, hy, hbH⟩; have bH : Below w.heap.size w wH := (by first | exact bA.trans (hbH.mono bA.size) | exact bB.trans (hbH.mono bB.size)); dsimp only)
    | (go_simp; go_at_call_of 61 (Value.agg #[v1, v2]); refine (hA _ (by first | exact bW | exact bW.drew | exact bB)).mono ?_; rintro e wA ⟨vA, rfl, hoA, hbA⟩; have bA : Below w.heap.size w wA := (by first | exact bW.trans (hbA.mono hsW) | exact bW.drew.trans (hbA.mono hsW) | exact bB.trans (hbA.mono bB.size)); have r1 := (by first | exact box_kept (by exact q1) hbA | exact box_kept (box_kept (by exact q1) hbB) hbA : wA.heap[w.heap.size]? = some (.cells #[v1, v2] 73 (0, 0))); have r2 := (by first | exact box_kept (by exact q2) hbA | exact box_kept (box_kept (by exact q2) hbB) hbA : wA.heap[w.heap.size + 1]? = some (.cells #[u1, u2] 73 (0, 0))); obtain ⟨yA10, yA11, -, -⟩ := box_two r1; obtain ⟨yA20, yA21, -, -⟩ := box_two r2; obtain ⟨xa, xc, eA, -⟩ := hoA.form; have pA := hoA.parts; rw [HlA.out] at eA; subst eA; dsimp only)
    | (go_simp; go_at_call_of 61 (Value.agg #[u1, u2]); refine (hB _ (by first | exact bW | exact bW.drew | exact bA)).mono ?_; rintro e wB ⟨vB, rfl, hoB, hbB⟩; have bB : Below w.heap.size w wB := (by first | exact bW.trans (hbB.mono hsW) | exact bW.drew.trans (hbB.mono hsW) | exact bA.trans (hbB.mono bA.size)); have s1 := (by first | exact box_kept (by exact q1) hbB | exact box_kept (box_kept (by exact q1) hbA) hbB : wB.heap[w.heap.size]? = some (.cells #[v1, v2] 73 (0, 0))); have s2 := (by first | exact box_kept (by exact q2) hbB | exact box_kept (box_kept (by exact q2) hbA) hbB : wB.heap[w.heap.size + 1]? = some (.cells #[u1, u2] 73 (0, 0))); obtain ⟨yB10, yB11, -, -⟩ := box_two s1; obtain ⟨yB20, yB21, -, -⟩ := box_two s2; obtain ⟨xb, xbc, eB, -⟩ := hoB.form; have pB := hoB.parts; rw [HlB.out] at eB; subst eB; dsimp only))
  all_goals
    have hT := told_at zA' zB' HlA.out hk hkn hneq hdr hx hy
    go_wp2_with fail
    exact bodyPost_ret (v := .tuple #[vx, vy, .bool true]) (by simp [results, Tryd.results41, go_sem]) rfl ⟨vx, vy, rfl, hT, bH⟩

set_option maxRecDepth 100000 in
set_option maxHeartbeats 4000000 in
theorem ofProofs_any {A B : List (List Int)} {n : Nat} {lv v1 v2 u1 u2 : Value} {w : World} (hA : ∀ w', Below w.heap.size w w' → Calls Tryd.prog 63 #[.func (.func 38) #[] #[], lv, .agg #[v1, v2]] w' fun e w'' => ∃ v, e = .returned v ∧ OwnParts w'' w'.heap.size v A ∧ Below w'.heap.size w' w'')
    (hB : ∀ w', Below w.heap.size w w' → Calls Tryd.prog 63 #[.func (.func 38) #[] #[], lv, .agg #[u1, u2]] w' fun e w'' => ∃ v, e = .returned v ∧ OwnParts w'' w'.heap.size v B ∧ Below w'.heap.size w' w'')
    (lA : A.length = n) (lB : B.length = n) (hn : n ≤ 2000) (zA : ∀ x ∈ A, Bytes x ∧ x.length ≤ 1000) (zB : ∀ x ∈ B, Bytes x ∧ x.length ≤ 1000) (hk : Linked A B) (hne : A ≠ B) :
    Calls Tryd.prog 43 #[.func (.func 38) #[] #[], lv, .agg #[v1, v2], .agg #[u1, u2]] w fun e w' => ∃ vx vy, e = .returned (.tuple #[vx, vy, .bool true]) ∧ Told w' vx vy true ∧ Below w.heap.size w w' := by
  have zA' := fit_all zA
  have zB' := fit_all zB
  have HlA : Hid (A.length = n) := lA
  have HlB : Hid (B.length = n) := lB
  have hH : ∀ w' aa ba ac bc, PartsAt w' (.slice aa n ac) A → PartsAt w' (.slice ba n bc) B → _ := fun w' aa ba ac bc h1 h2 => highest_any A B aa ba n ac bc w' h1 h2 HlA.out HlB.out hn (fun j => (zA' j).1) (fun j => (zB' j).1) hne
  have bW : Below w.heap.size w ((w.alloc (.cells #[v1, v2] 73)).alloc (.cells #[u1, u2] 73)) := ((Below.refl _ _).alloc (Nat.le_refl _) _).alloc (by simp) _
  have q1 := box_one w #[v1, v2] 73 (.cells #[u1, u2] 73)
  have q2 := box_last w (.cells #[v1, v2] 73) #[u1, u2] 73
  have hsW := bW.size
  clear lA lB zA zB
  go_enter Tryd.func43, Tryd.ntmps43
  go_wp2_with fail
  generalize (w.alloc (.cells #[v1, v2] 73)).alloc (.cells #[u1, u2] 73) = W at *
  obtain ⟨y10, y11, -, -⟩ := box_two q1
  obtain ⟨y20, y21, -, -⟩ := box_two q2
  go_region_law (first
    | (go_simp; go_at_call 60; refine (hH _ _ _ _ _ (by first | exact pA | exact pA.below (Nat.le_refl _) hbB) (by first | exact pB | exact pB.below (Nat.le_refl _) hbA)).mono ?_; rintro e wH ⟨k, vx, vy, hkn, rfl, hneq, hdr, hx, hy, hbH⟩; have bH : Below w.heap.size w wH := (by first | exact bA.trans (hbH.mono bA.size) | exact bB.trans (hbH.mono bB.size)); dsimp only)
    | (go_simp; go_at_call_of 63 (Value.agg #[v1, v2]); refine (hA _ (by first | exact bW | exact bW.drew | exact bB)).mono ?_; rintro e wA ⟨vA, rfl, hoA, hbA⟩; have bA : Below w.heap.size w wA := (by first | exact bW.trans (hbA.mono hsW) | exact bW.drew.trans (hbA.mono hsW) | exact bB.trans (hbA.mono bB.size)); have r1 := (by first | exact box_kept (by exact q1) hbA | exact box_kept (box_kept (by exact q1) hbB) hbA : wA.heap[w.heap.size]? = some (.cells #[v1, v2] 73 (0, 0))); have r2 := (by first | exact box_kept (by exact q2) hbA | exact box_kept (box_kept (by exact q2) hbB) hbA : wA.heap[w.heap.size + 1]? = some (.cells #[u1, u2] 73 (0, 0))); obtain ⟨yA10, yA11, -, -⟩ := box_two r1; obtain ⟨yA20, yA21, -, -⟩ := box_two r2; obtain ⟨xa, xc, eA, -⟩ := hoA.form; have pA := hoA.parts; rw [HlA.out] at eA; subst eA; dsimp only)
    | (go_simp; go_at_call_of 63 (Value.agg #[u1, u2]); refine (hB _ (by first | exact bW | exact bW.drew | exact bA)).mono ?_; rintro e wB ⟨vB, rfl, hoB, hbB⟩; have bB : Below w.heap.size w wB := (by first | exact bW.trans (hbB.mono hsW) | exact bW.drew.trans (hbB.mono hsW) | exact bA.trans (hbB.mono bA.size)); have s1 := (by first | exact box_kept (by exact q1) hbB | exact box_kept (box_kept (by exact q1) hbA) hbB : wB.heap[w.heap.size]? = some (.cells #[v1, v2] 73 (0, 0))); have s2 := (by first | exact box_kept (by exact q2) hbB | exact box_kept (box_kept (by exact q2) hbA) hbB : wB.heap[w.heap.size + 1]? = some (.cells #[u1, u2] 73 (0, 0))); obtain ⟨yB10, yB11, -, -⟩ := box_two s1; obtain ⟨yB20, yB21, -, -⟩ := box_two s2; obtain ⟨xb, xbc, eB, -⟩ := hoB.form; have pB := hoB.parts; rw [HlB.out] at eB; subst eB; dsimp only))
  all_goals
    have hT := told_at zA' zB' HlA.out hk hkn hneq hdr hx hy
    go_wp2_with fail
    exact bodyPost_ret (v := .tuple #[vx, vy, .bool true]) (by simp [results, Tryd.results43, go_sem]) rfl ⟨vx, vy, rfl, hT, bH⟩

end Go.Proofs.YtkjlchfmplcobabDoor
