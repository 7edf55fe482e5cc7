/- The walk of the reference's Step where an entry comes: it is laid behind the others: package yearref5. -/
import Derived.Test.YtkjlchfmplcobaeGreatDoorProg
import Derived.Test.YtkjlchfmplcobaeGreatDoorRunAF
import Derived.Test.YtkjlchfmplcobaeGreatDoorFleetGoSubmit
import Derived.Test.YtkjlchfmplcobaeGreatDoorRunAG
import Derived.WalkKit
import Derived.WalkSpells
import Derived.WalkLawsBesides
import Derived.Deep.RegionHeld3
import Derived.Deep.RegionWith
import Derived.Deep.RegionLaw
import Derived.Deep.QuietTactic
import Derived.BigQuiet
import Derived.BigRegion
namespace Go.Proofs.YtkjlchfmplcobaeGreatDoor
open Go.RowKit

theorem wp_append_bytes2 {P : Program} {w : World} {o : Oper} {a : Act} {K : Act → World → Prop} {Q : Exit → Act → World → Prop} (s x : Operand) (t : TypeId)
    (ho : o.op = .call { callee := .builtin .append, args := #[s, x], argTypes := #[t, t] })
    (base : Nat) (e : TypeId) (i : TypeInfo) (z : Value) (ht : P.underlying t = some (.slice e)) (hi : P.info? e = some i) (hz : i.zero = some z)
    (hsize : i.size = 1) (hby : i.bytes = 1) (hzs : z.cells.size = 1)
    (B n c0 : Nat) (xs : List Value) (hs : a.eval s = .slice (some ⟨B, 0, none⟩) n c0) (hown : w.ownsRow base e 1 (.slice (some ⟨B, 0, none⟩) n c0) n xs)
    (ao : Option Addr) (m c : Nat) (zs : List Int) (hx : a.eval x = .slice ao m c) (hB : BytesAt w (.slice ao m c) zs)
    (h63 : n + zs.length ≤ maxLen) (hbytes : n + zs.length ≤ 140737488355328) (hbase : base ≤ w.heap.size)
    (h : ∀ g cap w', w'.ownsRow base e 1 (.slice (some ⟨g, 0, none⟩) (n + zs.length) cap) (n + zs.length) (xs ++ zs.map (Value.int .u8)) → w.grownBy w' (some B) → K (a.put o.dst (.slice (some ⟨g, 0, none⟩) (n + zs.length) cap)) w') : o.wp P a w K Q := by
  have key : ∃ g cap w', (Builtin.append_ #[t, t] o.type #[.slice (some ⟨B, 0, none⟩) n c0, .slice ao m c]).run P w = .ok (.slice (some ⟨g, 0, none⟩) (n + zs.length) cap) w' ∧ w'.ownsRow base e 1 (.slice (some ⟨g, 0, none⟩) (n + zs.length) cap) (n + zs.length) (xs ++ zs.map (Value.int .u8)) ∧ w.grownBy w' (some B) := by
    obtain ⟨hm, hsrc⟩ := hB.src
    rcases hsrc with ⟨rfl, rfl, rfl, rfl⟩ | ⟨ad, rfl, hnews⟩
    · exact ⟨B, c0, w, run_append_owned_none (P := P) (w := w) base t o.type e i 1 ht hi _ n xs hown, by simpa using hown, World.grownBy.refl _ _⟩
    · obtain ⟨v', w', hr, r1, r2, r3⟩ := run_append_own (P := P) w base t o.type e i z 1 1 ht hi hz hsize hby hzs (by decide) _ n xs hown ad m c (zs.map (Value.int .u8)) (by rw [List.length_map]; omega) hnews (by intro u hu; obtain ⟨y, -, rfl⟩ := List.mem_map.1 hu; rfl) (by omega) (by omega) hbase
      have hv' : ∃ g cap, v' = .slice (some ⟨g, 0, none⟩) (n + m) cap := by
        rcases r1.2 with ⟨hv, -⟩ | ⟨g, cap, cur, hv, -⟩
        · have := (r3.1 hv).1
          simp at this
        · exact ⟨g, cap, hv⟩
      obtain ⟨g', cap', rfl⟩ := hv'
      rw [hm] at r1 hr
      exact ⟨g', cap', w', by rw [hm]; exact hr, r1, r2⟩
  obtain ⟨g, cap, w', hr, r1, r2⟩ := key
  unfold Oper.wp execOp
  simp only [ho, resolve, invoke, builtin, Sem.run_bind, Sem.run_pure, Result.andThen_ok, List.map_toArray, List.map_cons, List.map_nil, hs, hx, hr]
  exact h g cap w' r1 r2
theorem refsubmit_end {τ τ1 : Nat → Tag} {N gp sb n c k R g cp g2 cp2 L NE : Nat} {w w0 A w7 : World} {ss : List Shd} {V : Nat → ShV} {l : List Rec} {bv : Value} {X : Shd} {e : List Int} {xs : List Value}
    (hB : RfB τ1 N w0 gp (.slice (some ⟨sb, 0, none⟩) n c) bv l) (hS : ShM τ1 N w0 (.slice (some ⟨sb, 0, none⟩) n c) ss V) (hn : ss.length = n) (hk : k < n) (hX : ss.getD k shd0 = X) (K0 : Keep τ τ1 N w w0) (hN : N ≤ w.heap.size) (hN0 : N ≤ w0.heap.size) (c4 : Below w0.heap.size w0 A) (hb7 : Below A.heap.size A w7)
    (hxs : ∀ j, j < X.entries.length → ∃ y, xs[j]? = some y ∧ ByM τ1 w0 y (X.entries.getD j [])) (hxl : xs.length = X.entries.length) (hNE : X.entries.length = NE)
    (ho7 : w7.ownsRow A.heap.size 37 1 (.slice (some ⟨g, 0, none⟩) (NE + 1) cp) (NE + 1) (xs ++ [.slice (some ⟨g2, 0, none⟩) L cp2])) (hp7 : w7.ownsRow A.heap.size 5 1 (.slice (some ⟨g2, 0, none⟩) L cp2) L (e.map (Value.int .u8))) (he : Bytes e) (hR : τ1 R = tNo) (hRw : w.heap.size ≤ R) (hRl : R < w0.heap.size) (u0 u1 u2 u3 u4 : Value) :
    RfWent τ N gp w ((((((w7.setCell ⟨sb, k * 7 + 3, none⟩ (.slice (some ⟨g, 0, none⟩) (NE + 1) cp)).setCell ⟨R, 0, none⟩ u0).setCell ⟨R, 1, none⟩ u1).setCell ⟨R, 2, none⟩ u2).setCell ⟨R, 3, none⟩ u3).setCell ⟨R, 4, none⟩ u4) (.agg #[.int .i64 0, .int .i64 (k : Int), .int .i64 (NE : Int), .int .i64 0, .slice none 0 0])
      (⟨ss.set k { X with entries := X.entries ++ [e] }, l⟩, ⟨0, (k : Int), (NE : Int), 0, []⟩) := by
  subst hX
  subst hNE
  obtain ⟨sb', e', hNs, hsb, htb, -, -⟩ := (hS.out k).cells hn hk
  cases e'
  have hNA : N ≤ A.heap.size := Nat.le_trans hN0 c4.size
  have hne : ∀ b, (Value.slice (some ⟨g2, 0, none⟩) L cp2).ownBlock = some b → (Value.slice (some ⟨g, 0, none⟩) ((ss.getD k shd0).entries.length + 1) cp).ownBlock ≠ some b := fun b h1 h2 => by
    rcases ho7.2 with ⟨q, -⟩ | ⟨x, cc, cur, q, -, hx, -⟩
    · cases q
    · simp only [Value.slice.injEq, true_and, Option.some.injEq, Addr.mk.injEq, and_true] at q
      have e1 : g = b := Option.some.inj h2
      have := own_type hp7 h1 (by rw [← e1, q.1]; exact hx)
      exact absurd this (by decide)
  obtain ⟨τ', hτ, hEnt⟩ := entM_fresh (τ := τ1) (N := N) (k := k) (A := A) (w6 := w7) (es := (ss.getD k shd0).entries) (e := e) hNA hxl (fun j hj => by obtain ⟨y, h1, h2⟩ := hxs j hj; exact ⟨y, h1, h2.upd (upd_same c4) no_row⟩) ho7 hb7 hp7 he hne
  have U : Upd τ1 τ' A w7 none := ⟨grown_below hb7, hτ⟩
  have hS1 := (hS.upd (upd_same c4) no_row).upd U no_row
  have hB1 := (hB.upd (upd_same c4) no_row).upd U no_row
  have K1 := (K0.trans (keep_upd (upd_same c4) hN0 no_row)).trans (keep_upd U hNA no_row)
  have hsT : sb < A.heap.size := Nat.lt_of_lt_of_le hsb c4.size
  have htb1 : τ' sb = tSh := (hτ sb hsT).trans htb
  have hR1 : τ' R = tNo := (hτ R (Nat.lt_of_lt_of_le hRl c4.size)).trans hR
  have hNW : N ≤ w7.heap.size := Nat.le_trans hNA hb7.size
  have hS2 := hS1.turn (i := 3) (u := .slice (some ⟨g, 0, none⟩) ((ss.getD k shd0).entries.length + 1) cp) (s' := { (ss.getD k shd0) with entries := (ss.getD k shd0).entries ++ [e] }) (v' := (.slice (some ⟨g, 0, none⟩) ((ss.getD k shd0).entries.length + 1) cp, (V k).2.1, (V k).2.2)) hn hk (by omega) rfl hEnt (hS1.root k (by omega)) (hS1.seg k (by omega))
  have hB2 := hB1.turn (o := k * 7 + 3) (u := .slice (some ⟨g, 0, none⟩) ((ss.getD k shd0).entries.length + 1) cp) htb1
  have K2 := K1.trans (keep_turn (o := k * 7 + 3) (u := .slice (some ⟨g, 0, none⟩) ((ss.getD k shd0).entries.length + 1) cp) hNW hNs htb1)
  have hF2 := hB2.rfF hS2
  exact ⟨τ', ⟨_, rfl, (byM_nil _ _).five hR1 _ _ _ _ _⟩, hF2.five hR1 _ _ _ _ _, K2.five hN hRw _ _ _ _ _⟩
theorem ents_one {τ : Nat → Tag} {w : World} {es : List (List Int)} {xs : List Value} (hl : xs.length = es.length) (h : ∀ j, j < es.length → ∃ y, xs[j]? = some y ∧ ByM τ w y (es.getD j [])) : ∀ u ∈ xs, u.oneCell' = true := by
  intro u hu
  obtain ⟨i, hi, rfl⟩ := List.mem_iff_getElem.1 hu
  obtain ⟨y, h1, h2⟩ := h i (by omega)
  rw [List.getElem?_eq_getElem hi] at h1
  rw [Option.some.inj h1]
  obtain ⟨pa, pc, rfl⟩ := h2.here.at'.form
  rfl
def sbDst (i : Nat) : Option Nat := if i < 15 then some (90 + i) else none
def sbDep : Nat → List Nat
  | 3 => [2]
  | 4 => [3]
  | 5 => [4]
  | 6 => [1, 5]
  | 9 => [8]
  | 10 => [7, 9]
  | 11 => [10]
  | 12 => [6, 11]
  | 13 => [0]
  | 14 => [13]
  | 15 => [0, 1, 2, 3, 4, 5, 6, 7, 8, 9, 10, 11, 12, 14]
  | _ => []
def sbPv (sb k x : Nat) (ev dv : Value) : Nat → Option Value
  | 0 => some (.pointer (some ⟨sb, k * 7, none⟩))
  | 2 => some (.pointer (some ⟨sb, k * 7, none⟩))
  | 3 => some (.pointer (some ⟨sb, k * 7, none⟩))
  | 4 => some (.pointer (some ⟨sb, k * 7 + 3, none⟩))
  | 5 => some ev
  | 8 => some (.pointer (some ⟨x, 3, none⟩))
  | 9 => some dv
  | 13 => some (.pointer (some ⟨sb, k * 7, none⟩))
  | 14 => some (.pointer (some ⟨sb, k * 7 + 3, none⟩))
  | _ => none
theorem sb_inj : ∀ i j k, i < 16 → j < 16 → sbDst i = some k → sbDst j = some k → i = j := fun i j k _ _ h1 h2 => by
  unfold sbDst at h1 h2
  by_cases a : i < 15
  · rw [if_pos a] at h1
    by_cases b : j < 15
    · rw [if_pos b] at h2
      have := Option.some.inj (h1.trans h2.symm)
      omega
    · rw [if_neg b] at h2; cases h2
  · rw [if_neg a] at h1; cases h1
set_option maxRecDepth 1000000 in
set_option maxHeartbeats 8000000 in
theorem refSubmitTail {Q : Exit → Act → World → Prop} {K : Act → World → Prop} {f : Flt} {d : Dd} {k NE L : Nat} {τ τ1 : Nat → Tag} {N gp sb sc bc ec : Nat} {da ba ea : Option Addr} {dc : Nat} {w w0 A : World} {V : Nat → ShV} {X : Shd} {RES : Flt × Ans}
    (hKK : ∀ a w, Code.wp Tryz.prog (stepFrom 21) Q a w → K a w) (hQ : Hid (StepEnd Q τ N gp (w.heap.size + 1) w RES)) (hN : N ≤ w.heap.size) (hN0 : N ≤ w0.heap.size) (K0 : Keep τ τ1 N w w0) (hB0 : RfB τ1 N w0 gp (.slice (some ⟨sb, 0, none⟩) f.shards.length sc) (.slice ba f.book.length bc) f.book) (hS0 : ShM τ1 N w0 (.slice (some ⟨sb, 0, none⟩) f.shards.length sc) f.shards V) (hk : k < f.shards.length) (hX : f.shards.getD k shd0 = X) (hVe : (V k).1 = .slice ea NE ec) (hNE : X.entries.length = NE) (hfew : NE ≤ 1000)
    (hL : d.entry.length = L) (hL2 : L ≤ 1000) (hd : Some' w0 (.slice da L dc) d.entry) (hX2 : τ1 w.heap.size = tNo) (hR2 : τ1 (w.heap.size + 1) = tNo)
    (x0 : w0.heap[w.heap.size]? = some (.cells #[.int .i64 1, .int .i64 d.n, .int .i64 d.time, .slice da L dc, .int .i64 d.segment, .int .i64 d.at', .int .u8 d.by'] 56 (0, 0))) (z0 : w0.heap[w.heap.size + 1]? = some (.cells #[.int .i64 0, .int .i64 0, .int .i64 0, .int .i64 0, .slice none 0 0] 41 (0, 0))) (c4 : Below w0.heap.size w0 A)
    (HRES : Hid ((⟨f.shards.set k { X with entries := X.entries ++ [d.entry] }, f.book⟩, ⟨0, (k : Int), (NE : Int), 0, []⟩) = RES))
    {c0 c1 c2 c5 c8 c9 c10 c11 c12 c13 c14 c15 c16 c17 c18 c19 c20 c21 c22 c23 c24 c25 c26 c27 c28 c29 c30 c31 c32 c33 c34 c35 c36 c37 c38 c39 c40 c41 c42 c43 c44 c45 c46 c47 c48 c49 c50 c51 c52 c53 c54 c55 c56 c57 c58 c59 c60 c61 c62 c63 c64 c65 c66 c67 c68 c69 c70 c71 c72 c73 c74 c75 c76 c77 c78 c79 c80 c81 c82 c83 c84 c85 c86 c87 c88 c89 c90 c91 c92 c93 c94 c95 c96 c97 c98 c99 c100 c101 c102 c103 c104 c105 c106 c107 c108 c109 c110 c111 c112 c113 c114 c115 c116 c117 c118 c119 c120 c121 c122 c123 c124 c125 c126 c127 c128 c129 c130 c131 c132 c133 c134 c135 c136 c137 c138 c139 c140 c141 c142 c143 c144 c145 c146 c147 c148 c149 c150 c151 c152 c153 c154 c155 c156 c157 c158 c159 c160 c161 c162 c163 c164 c165 c166 c167 c168 c169 c170 c171 c172 c173 c174 c175 c176 c177 c178 c179 c180 c181 c182 c183 c184 c185 c186 c187 c188 c189 c190 c191 c192 c193 c194 c195 c196 c197 c198 c199 c200 c201 c202 c203 c204 c205 c206 c207 c208 c209 c210 c211 c212 c213 c214 c215 c216 c217 c218 c219 c220 c221 c222 c223 c224 c225 c226 c227 c228 c229 c230 c231 c232 c233 c234 c235 c236 c237 c238 c239 c240 c241 c242 c243 c244 c245 c246 c247 c248 c249 c250 c251 c252 c253 c254 c255 c256 c257 c258 c259 c260 c261 c262 c263 c264 c265 c266 c267 c268 c269 c270 c271 c272 c273 c274 c275 c276 c277 c278 c279 c280 c281 c282 c283 c284 c285 c286 c287 c288 c289 c290 c291 c292 c293 c294 c295 c296 c297 c298 c299 c300 c301 c302 c303 c304 c305 c306 c307 c308 c309 c310 c311 c312 c313 c314 c315 c316 c317 c318 c319 c320 c321 c322 c323 c324 c325 c326 c327 c328 c329 c330 c331 c332 c333 c334 c335 c336 c337 c338 c339 c340 c341 c342 c343 c344 c345 : Value} : Code.wp Tryz.prog (firstOf (stepFrom 20)) (Exit.then K Q) ⟨#[c0, c1, c2, .pointer (some ⟨w.heap.size, 0, none⟩), .pointer (some ⟨w.heap.size + 1, 0, none⟩), c5, .int .i64 (k : Int), .pointer (some ⟨sb, k * 7, none⟩), c8, c9, c10, c11, c12, c13, c14, c15, c16, c17, c18, c19, c20, c21, c22, c23, c24, c25, c26, c27, c28, c29, c30, c31, c32, c33, c34, c35, c36, c37, c38, c39, c40, c41, c42, c43, c44, c45, c46, c47, c48, c49, c50, c51, c52, c53, c54, c55, c56, c57, c58, c59, c60, c61, c62, c63, c64, c65, c66, c67, c68, c69, c70, c71, c72, c73, c74, c75, c76, c77, c78, c79, c80, c81, c82, c83, c84, c85, c86, c87, c88, c89, c90, c91, c92, c93, c94, c95, c96, c97, c98, c99, c100, c101, c102, c103, c104, c105, c106, c107, c108, c109, c110, c111, c112, c113, c114, c115, c116, c117, c118, c119, c120, c121, c122, c123, c124, c125, c126, c127, c128, c129, c130, c131, c132, c133, c134, c135, c136, c137, c138, c139, c140, c141, c142, c143, c144, c145, c146, c147, c148, c149, c150, c151, c152, c153, c154, c155, c156, c157, c158, c159, c160, c161, c162, c163, c164, c165, c166, c167, c168, c169, c170, c171, c172, c173, c174, c175, c176, c177, c178, c179, c180, c181, c182, c183, c184, c185, c186, c187, c188, c189, c190, c191, c192, c193, c194, c195, c196, c197, c198, c199, c200, c201, c202, c203, c204, c205, c206, c207, c208, c209, c210, c211, c212, c213, c214, c215, c216, c217, c218, c219, c220, c221, c222, c223, c224, c225, c226, c227, c228, c229, c230, c231, c232, c233, c234, c235, c236, c237, c238, c239, c240, c241, c242, c243, c244, c245, c246, c247, c248, c249, c250, c251, c252, c253, c254, c255, c256, c257, c258, c259, c260, c261, c262, c263, c264, c265, c266, c267, c268, c269, c270, c271, c272, c273, c274, c275, c276, c277, c278, c279, c280, c281, c282, c283, c284, c285, c286, c287, c288, c289, c290, c291, c292, c293, c294, c295, c296, c297, c298, c299, c300, c301, c302, c303, c304, c305, c306, c307, c308, c309, c310, c311, c312, c313, c314, c315, c316, c317, c318, c319, c320, c321, c322, c323, c324, c325, c326, c327, c328, c329, c330, c331, c332, c333, c334, c335, c336, c337, c338, c339, c340, c341, c342, c343, c344, c345], []⟩ A := by
  obtain ⟨i0, hi0, hz0, hz1, hz2⟩ := info_parts Tryz.info37b'
  obtain ⟨j0, hj, hj0, hj1, hj2⟩ := info_parts Tryz.info5b
  have q3 : (0 : Int) ≤ k := by omega
  obtain ⟨sb', e', hNs, hsb, htb, hfz, hcs⟩ := (hS0.out k).cells rfl hk
  cases e'
  have a3 : w0.cell? ⟨sb, k * 7 + 3, none⟩ = some (V k).1 := hcs 3 (by omega)
  rw [hVe] at a3
  obtain ⟨-, xs, hrow0, hxs⟩ := hS0.ent k hk
  rw [hX, hVe, hNE] at hrow0
  rw [hX] at hxs
  have hxl : xs.length = X.entries.length := by rw [hNE]; simpa using hrow0.1
  have hyo := ents_one hxl hxs
  have noo : (Value.slice ea NE ec).ownBlock = none ∨ (Value.slice ea NE ec).ownBlock ≠ none := by cases (Value.slice ea NE ec).ownBlock <;> simp
  have hrowA := hrow0.kept (grown_below c4) noo
  have hdA := hd.below c4
  obtain ⟨v0, v1, v2, v3, -, -, -⟩ := box_seven x0
  have hsbA : sb < A.heap.size := Nat.lt_of_lt_of_le hsb c4.size
  have hxA : w.heap.size < A.heap.size := Nat.lt_of_lt_of_le (lt_heap x0) c4.size
  have b3 := (c4.cell (p := ⟨sb, k * 7 + 3, none⟩) hsb).trans a3
  have bv := (c4.cell (p := ⟨w.heap.size, 3, none⟩) (lt_heap x0)).trans v3
  have bf := (World.frozen?_of_block (c4.block sb hsb)).trans (hfz (k * 7 + 3))
  have HC6 : ∀ w6, Hid (Below A.heap.size A w6 → w6.cell? ⟨sb, k * 7 + 3, none⟩ = some (.slice ea NE ec) ∧ w6.cell? ⟨w.heap.size, 3, none⟩ = some (.slice da L dc) ∧ w6.frozen? ⟨sb, k * 7 + 3, none⟩ = false) := fun w6 h => ⟨(h.cell (p := ⟨sb, k * 7 + 3, none⟩) hsbA).trans b3, (h.cell (p := ⟨w.heap.size, 3, none⟩) hxA).trans bv, (World.frozen?_of_block (h.block sb hsbA)).trans bf⟩
  have hnx : w.heap.size ≠ sb := fun e => by rw [e, htb] at hX2; simp [tSh, tNo] at hX2
  have hnz : w.heap.size + 1 ≠ sb := fun e => by rw [e, htb] at hR2; simp [tSh, tNo] at hR2
  have HFIN : Hid (∀ (w7 : World) (g7 cap7 g2 cp2 : Nat), w7.ownsRow A.heap.size 37 1 (.slice (some ⟨g7, 0, none⟩) (NE + 1) cap7) (NE + 1) (xs ++ [.slice (some ⟨g2, 0, none⟩) L cp2]) → w7.ownsRow A.heap.size 5 1 (.slice (some ⟨g2, 0, none⟩) L cp2) L (d.entry.map (Value.int .u8)) → Below A.heap.size A w7 → ((w7.setCell ⟨sb, k * 7 + 3, none⟩ (.slice (some ⟨g7, 0, none⟩) (NE + 1) cap7)).heap[w.heap.size]? = some (.cells #[.int .i64 1, .int .i64 d.n, .int .i64 d.time, .slice da L dc, .int .i64 d.segment, .int .i64 d.at', .int .u8 d.by'] 56 (0, 0)) ∧ (w7.setCell ⟨sb, k * 7 + 3, none⟩ (.slice (some ⟨g7, 0, none⟩) (NE + 1) cap7)).heap[w.heap.size + 1]? = some (.cells #[.int .i64 0, .int .i64 0, .int .i64 0, .int .i64 0, .slice none 0 0] 41 (0, 0)) ∧ (w7.setCell ⟨sb, k * 7 + 3, none⟩ (.slice (some ⟨g7, 0, none⟩) (NE + 1) cap7)).cell? ⟨sb, k * 7 + 3, none⟩ = some (.slice (some ⟨g7, 0, none⟩) (NE + 1) cap7)) ∧ ∀ u0 u1 u2 u3 u4, RfWent τ N gp w ((((((w7.setCell ⟨sb, k * 7 + 3, none⟩ (.slice (some ⟨g7, 0, none⟩) (NE + 1) cap7)).setCell ⟨w.heap.size + 1, 0, none⟩ u0).setCell ⟨w.heap.size + 1, 1, none⟩ u1).setCell ⟨w.heap.size + 1, 2, none⟩ u2).setCell ⟨w.heap.size + 1, 3, none⟩ u3).setCell ⟨w.heap.size + 1, 4, none⟩ u4) (.agg #[.int .i64 0, .int .i64 (k : Int), .int .i64 (NE : Int), .int .i64 0, .slice none 0 0]) RES) := fun w7 g7 cap7 g2 cp2 ho hp h7 => by
    refine ⟨⟨box_set_far (box_kept (box_kept x0 c4) h7) hnx, box_set_far (box_kept (box_kept z0 c4) h7) hnz, World.cell?_setCell_same w7 ⟨sb, k * 7 + 3, none⟩ _ ((HC6 w7).out h7).1⟩, fun u0 u1 u2 u3 u4 => ?_⟩
    rw [← HRES.out]
    exact refsubmit_end hB0 hS0 rfl hk hX K0 hN hN0 c4 h7 hxs hxl hNE ho hp hd.bytes hR2 (by omega) (lt_heap z0) u0 u1 u2 u3 u4
  clear hB0 hS0 K0 x0 z0 HRES hX2 hR2 hcs a3 hrow0 hxs v0 v1 v2 v3 b3 bv bf hnx hnz hxl hVe hfz
  conv => arg 2; whnf
  refine region_by (n := 16) (dst := sbDst) (gd := fun _ => none) (dep := sbDep) (by kernel_rfl) (RgOps.of (by kernel_rfl) (by kernel_rfl) (by kernel_rfl) (by kernel_rfl)) (by decide) (fun i j h => ?_) (fun ℓ σ wx => PV (sbPv sb k w.heap.size (.slice ea NE ec) (.slice da L dc)) ℓ σ ∧ SbM A NE L sb (k * 7 + 3) xs (d.entry.map (Value.int .u8)) (ℓ 1) (ℓ 6) (ℓ 7) (ℓ 10) (ℓ 11) (ℓ 12) (ℓ 15) (σ 1) (σ 6) (σ 7) (σ 10) (σ 11) (σ 12) wx ∧ (ℓ 15 = true → ∀ j, j < 13 → ℓ j = true)) ⟨fun j v _ q => (by cases q), sb_start (Below.refl _ _).drew, fun q => (by cases q)⟩ sb_inj (fun ℓ σ w i g b _ _ q => by cases q) (fun ℓ σ w i g b b' _ _ q => by cases q) ?_ ?_
  · unfold sbDst at h
    split at h
    · cases h; show 90 + i < 346; omega
    · cases h
  · intro ℓ σ w1 a i o ho hi hE hM hli hdep hgd K hK
    obtain ⟨hP, hF, hc⟩ := hM
    have third : ℓ 15 = true → ∀ j, j < 13 → setL ℓ i j = true := fun q j hj => by show (j == i || ℓ j) = true; rw [hc q j hj, Bool.or_true]
    have h15 : i < 13 → ℓ 15 = false := fun h => by
      cases q : ℓ 15 with
      | false => rfl
      | true => have := hc q i h; rw [hli] at this; cases this
    have ev : ∀ j u, j < 16 → ℓ j = true → (sbPv sb k w.heap.size (.slice ea NE ec) (.slice da L dc)) j = some u → ∀ kk, sbDst j = some kk → a.eval (.tmp kk) = u := fun j u hj hl hp kk hk => (hE.val j hj hl kk hk).trans (hP j u hp hl)
    have eo : ∀ kk, kk < 90 → ∀ j, j < 16 → sbDst j ≠ some kk := fun kk hk j _ e => by
      unfold sbDst at e
      split at e
      · simp only [Option.some.injEq] at e; omega
      · cases e
    rcases (show i = 0 ∨ i = 1 ∨ i = 2 ∨ i = 3 ∨ i = 4 ∨ i = 5 ∨ i = 6 ∨ i = 7 ∨ i = 8 ∨ i = 9 ∨ i = 10 ∨ i = 11 ∨ i = 12 ∨ i = 13 ∨ i = 14 ∨ i = 15 by omega) with rfl | rfl | rfl | rfl | rfl | rfl | rfl | rfl | rfl | rfl | rfl | rfl | rfl | rfl | rfl | rfl
    · obtain rfl := Option.some.inj ho
      have q0 : a.eval (.tmp 7) = .pointer (some ⟨sb, k * 7, none⟩) := hE.out 7 (eo 7 (by omega))
      exact wp_of_run (v := .pointer (some ⟨sb, k * 7, none⟩)) (w' := w1) (by generalize a.eval = evv at q0 ⊢; simp only [execOp]; go_simp) (hK _ _ ⟨hP.step (fun u hu => (Option.some.inj hu).symm), hF, third⟩)
    · obtain rfl := Option.some.inj ho
      have hF1 := hF
      rw [hli] at hF1
      exact wp_of_run (v := .slice (some ⟨w1.heap.size, 0, none⟩) 0 0) (w' := w1.alloc (.cells #[] 37)) (by generalize a.eval = evv at ⊢; simp only [execOp]; go_simp) (hK _ _ ⟨hP.step (fun u hu => by cases hu), hF1.op1, third⟩)
    · obtain rfl := Option.some.inj ho
      have q0 : a.eval (.tmp 7) = .pointer (some ⟨sb, k * 7, none⟩) := hE.out 7 (eo 7 (by omega))
      exact wp_of_run (v := .pointer (some ⟨sb, k * 7, none⟩)) (w' := w1) (by generalize a.eval = evv at q0 ⊢; simp only [execOp]; go_simp) (hK _ _ ⟨hP.step (fun u hu => (Option.some.inj hu).symm), hF, third⟩)
    · obtain rfl := Option.some.inj ho
      have e0 : a.eval (.tmp 92) = .pointer (some ⟨sb, k * 7, none⟩) := ev 2 _ (by omega) (hdep 2 (by simp [sbDep])) rfl 92 rfl
      exact wp_of_run (v := .pointer (some ⟨sb, k * 7, none⟩)) (w' := w1) (by generalize a.eval = evv at e0 ⊢; simp only [execOp]; go_simp) (hK _ _ ⟨hP.step (fun u hu => (Option.some.inj hu).symm), hF, third⟩)
    · obtain rfl := Option.some.inj ho
      have e0 : a.eval (.tmp 93) = .pointer (some ⟨sb, k * 7, none⟩) := ev 3 _ (by omega) (hdep 3 (by simp [sbDep])) rfl 93 rfl
      exact wp_of_run (v := .pointer (some ⟨sb, k * 7 + 3, none⟩)) (w' := w1) (by generalize a.eval = evv at e0 ⊢; simp only [execOp]; go_simp) (hK _ _ ⟨hP.step (fun u hu => (Option.some.inj hu).symm), hF, third⟩)
    · obtain rfl := Option.some.inj ho
      have e0 : a.eval (.tmp 94) = .pointer (some ⟨sb, k * 7 + 3, none⟩) := ev 4 _ (by omega) (hdep 4 (by simp [sbDep])) rfl 94 rfl
      obtain ⟨l1, l2, l3⟩ := (HC6 w1).out (hF.bel (h15 (by omega)))
      exact wp_of_run (v := .slice ea NE ec) (w' := w1) (by generalize a.eval = evv at e0 ⊢; simp only [execOp]; go_simp) (hK _ _ ⟨hP.step (fun u hu => (Option.some.inj hu).symm), hF, third⟩)
    · obtain rfl := Option.some.inj ho
      have h1 := hdep 1 (by simp [sbDep])
      have hF1 := hF
      rw [hli] at hF1
      obtain ⟨B, es, hB, hBA⟩ := hF1.f1 h1 rfl
      have e0 : a.eval (.tmp 91) = .slice (some ⟨B, 0, none⟩) 0 0 := (hE.val 1 (by omega) h1 91 rfl).trans es
      have e1 : a.eval (.tmp 95) = .slice ea NE ec := ev 5 _ (by omega) (hdep 5 (by simp [sbDep])) rfl 95 rfl
      have hb := hF1.bel (h15 (by omega))
      refine wp_append_src2 (.tmp 91) (.tmp 95) 43 rfl A.heap.size N 37 37 i0 _ 1 24 Tryz.underlying43 hi0 hz0 hz1 hz2 rfl (by decide) B 0 0 [] e0 (own_empty hB hBA) ea NE ec xs e1 (hrowA.kept (grown_below hb) noo) hyo (by unfold maxLen; omega) (by omega) hb.size ?_
      intro g cap w' ho' hg' hl'
      rw [Nat.zero_add, List.nil_append] at ho'
      rw [Nat.zero_add]
      exact hK _ _ ⟨hP.step (fun u hu => by cases hu), hF1.op6 h1 es hB hBA ho' hg' hl', third⟩
    · obtain rfl := Option.some.inj ho
      have hF1 := hF
      rw [hli] at hF1
      exact wp_of_run (v := .slice (some ⟨w1.heap.size, 0, none⟩) 0 0) (w' := w1.alloc (.cells #[] 5)) (by generalize a.eval = evv at ⊢; simp only [execOp]; go_simp) (hK _ _ ⟨hP.step (fun u hu => by cases hu), hF1.op7, third⟩)
    · obtain rfl := Option.some.inj ho
      have q0 : a.eval (.tmp 3) = .pointer (some ⟨w.heap.size, 0, none⟩) := hE.out 3 (eo 3 (by omega))
      exact wp_of_run (v := .pointer (some ⟨w.heap.size, 3, none⟩)) (w' := w1) (by generalize a.eval = evv at q0 ⊢; simp only [execOp]; go_simp) (hK _ _ ⟨hP.step (fun u hu => (Option.some.inj hu).symm), hF, third⟩)
    · obtain rfl := Option.some.inj ho
      have e0 : a.eval (.tmp 98) = .pointer (some ⟨w.heap.size, 3, none⟩) := ev 8 _ (by omega) (hdep 8 (by simp [sbDep])) rfl 98 rfl
      obtain ⟨l1, l2, l3⟩ := (HC6 w1).out (hF.bel (h15 (by omega)))
      exact wp_of_run (v := .slice da L dc) (w' := w1) (by generalize a.eval = evv at e0 ⊢; simp only [execOp]; go_simp) (hK _ _ ⟨hP.step (fun u hu => (Option.some.inj hu).symm), hF, third⟩)
    · obtain rfl := Option.some.inj ho
      have h7 := hdep 7 (by simp [sbDep])
      have hF1 := hF
      rw [hli] at hF1
      obtain ⟨B, es, hB, hBA⟩ := hF1.f7 h7 rfl
      have e0 : a.eval (.tmp 97) = .slice (some ⟨B, 0, none⟩) 0 0 := (hE.val 7 (by omega) h7 97 rfl).trans es
      have e1 : a.eval (.tmp 99) = .slice da L dc := ev 9 _ (by omega) (hdep 9 (by simp [sbDep])) rfl 99 rfl
      have hb := hF1.bel (h15 (by omega))
      refine wp_append_bytes2 (.tmp 97) (.tmp 99) 37 rfl A.heap.size 5 j0 (.int .u8 0) Tryz.underlying37 hj hj0 hj1 hj2 rfl B 0 0 [] e0 (own_empty hB hBA) da L dc d.entry e1 (hdA.below hb).at' (by rw [hL]; unfold maxLen; omega) (by rw [hL]; omega) hb.size ?_
      intro g cap w' ho' hg'
      rw [Nat.zero_add, List.nil_append, hL] at ho'
      rw [Nat.zero_add, hL]
      exact hK _ _ ⟨hP.step (fun u hu => by cases hu), hF1.op10 h7 hB hBA ho' hg', third⟩
    · obtain rfl := Option.some.inj ho
      have h10 := hdep 10 (by simp [sbDep])
      have hF1 := hF
      rw [hli] at hF1
      obtain ⟨g, cp, es, hoB⟩ := hF1.f10 h10 (h15 (by omega))
      have e0 : a.eval (.tmp 100) = .slice (some ⟨g, 0, none⟩) L cp := (hE.val 10 (by omega) h10 100 rfl).trans es
      have hF2 := hF1.op11 h10
      refine wp_of_run (v := .slice (some ⟨w1.heap.size, 0, none⟩) 1 1) (w' := w1.alloc (.cells #[.slice (some ⟨g, 0, none⟩) L cp] 37)) (by generalize a.eval = evv at e0 ⊢; simp only [execOp]; go_simp) (hK _ _ ⟨hP.step (fun u hu => by cases hu), ?_, third⟩)
      rw [← es]
      exact hF2
    · obtain rfl := Option.some.inj ho
      have h6 := hdep 6 (by simp [sbDep])
      have h11 := hdep 11 (by simp [sbDep])
      have hF1 := hF
      rw [hli] at hF1
      have h10 := hF1.c11 h11
      obtain ⟨B, cp, es, hoB⟩ := hF1.f6 h6 rfl
      obtain ⟨g2, cp2, es2, ho2⟩ := hF1.f10 h10 (h15 (by omega))
      obtain ⟨g9, e9, h9, h9A, -, -⟩ := hF1.f11 h11 rfl
      have e0 : a.eval (.tmp 96) = .slice (some ⟨B, 0, none⟩) NE cp := (hE.val 6 (by omega) h6 96 rfl).trans es
      have e1 : a.eval (.tmp 101) = .slice (some ⟨g9, 0, none⟩) 1 1 := (hE.val 11 (by omega) h11 101 rfl).trans e9
      have hb := hF1.bel (h15 (by omega))
      refine wp_append_src2 (.tmp 96) (.tmp 101) 43 rfl A.heap.size 0 37 37 i0 _ 1 24 Tryz.underlying43 hi0 hz0 hz1 hz2 rfl (by decide) B NE cp xs e0 hoB (some ⟨g9, 0, none⟩) 1 1 [σ 10] e1 (own_one h9 (Nat.zero_le _) rfl) (by intro u hu; rw [List.mem_singleton] at hu; rw [hu, es2]; rfl) (by unfold maxLen; omega) (by omega) hb.size ?_
      intro g cap w' ho' hg' hl'
      exact hK _ _ ⟨hP.step (fun u hu => by cases hu), hF1.op12 h6 h11 hoB ho' hg', third⟩
    · obtain rfl := Option.some.inj ho
      have e0 : a.eval (.tmp 90) = .pointer (some ⟨sb, k * 7, none⟩) := ev 0 _ (by omega) (hdep 0 (by simp [sbDep])) rfl 90 rfl
      exact wp_of_run (v := .pointer (some ⟨sb, k * 7, none⟩)) (w' := w1) (by generalize a.eval = evv at e0 ⊢; simp only [execOp]; go_simp) (hK _ _ ⟨hP.step (fun u hu => (Option.some.inj hu).symm), hF, third⟩)
    · obtain rfl := Option.some.inj ho
      have e0 : a.eval (.tmp 103) = .pointer (some ⟨sb, k * 7, none⟩) := ev 13 _ (by omega) (hdep 13 (by simp [sbDep])) rfl 103 rfl
      exact wp_of_run (v := .pointer (some ⟨sb, k * 7 + 3, none⟩)) (w' := w1) (by generalize a.eval = evv at e0 ⊢; simp only [execOp]; go_simp) (hK _ _ ⟨hP.step (fun u hu => (Option.some.inj hu).symm), hF, third⟩)
    · obtain rfl := Option.some.inj ho
      have h12 := hdep 12 (by simp [sbDep])
      have hF1 := hF
      rw [hli] at hF1
      obtain ⟨g, cp, es, hoB⟩ := hF1.f12 h12 rfl
      have e0 : a.eval (.tmp 104) = .pointer (some ⟨sb, k * 7 + 3, none⟩) := ev 14 _ (by omega) (hdep 14 (by simp [sbDep])) rfl 104 rfl
      have e1 : a.eval (.tmp 102) = .slice (some ⟨g, 0, none⟩) (NE + 1) cp := (hE.val 12 (by omega) h12 102 rfl).trans es
      obtain ⟨l1, l2, l3⟩ := (HC6 w1).out (hF1.bel rfl)
      have hF2 := hF1.op15 h12
      rw [es] at hF2
      refine wp_of_skip (w' := w1.setCell ⟨sb, k * 7 + 3, none⟩ (.slice (some ⟨g, 0, none⟩) (NE + 1) cp)) (by generalize a.eval = evv at e0 e1 ⊢; simp only [execOp]; go_simp) (hK _ _ ⟨hP.step (fun u hu => by cases hu), by rw [← es] at hF2 ⊢; exact hF2, fun _ j hj => ?_⟩)
      have hd := hdep j (by simp only [sbDep, List.mem_cons, List.not_mem_nil, or_false]; omega)
      show (j == 15 || ℓ j) = true
      rw [hd, Bool.or_true]
  · intro σ w1 hM
    obtain ⟨g7, cap7, g2, cp2, w7, -, -, ho7, hp7, h7, rfl⟩ := hM.2.1.f15 rfl
    clear hM
    obtain ⟨⟨xx, zz, hh⟩, HW⟩ := HFIN.out w7 g7 cap7 g2 cp2 ho7 hp7 h7
    have HW2 : Hid _ := HW
    clear HW HFIN HC6 ho7 hp7 h7 hrowA hyo noo hdA
    generalize w7.setCell ⟨sb, k * 7 + 3, none⟩ (.slice (some ⟨g7, 0, none⟩) (NE + 1) cap7) = w8 at *
    obtain ⟨t0, t1, t2, t3, t4⟩ := box_five zz
    obtain ⟨r0, r1, r2, r3, r4⟩ := five_free zz
    have z9 := five_set zz (.int .i64 0) (.int .i64 (k : Int)) (.int .i64 (NE : Int)) (.int .i64 0) (.slice none 0 0)
    have HW3 : Hid _ := HW2.out (.int .i64 0) (.int .i64 (k : Int)) (.int .i64 (NE : Int)) (.int .i64 0) (.slice none 0 0)
    have hl1 : ((NE + 1 : Nat) : Int) - 1 = (NE : Int) := by omega
    clear HW2 xx zz
    simp only [putsOf, List.range, List.range.loop, List.filterMap_cons, List.filterMap_nil, sbDst, Option.map_some, Option.map_none, Nat.reduceAdd, Nat.reduceLT, ↓reduceIte, setAll, List.setIfInBounds_toArray, List.set_cons_succ, List.set_cons_zero]
    generalize σ 0 = s0
    generalize σ 1 = s1
    generalize σ 2 = s2
    generalize σ 3 = s3
    generalize σ 4 = s4
    generalize σ 5 = s5
    generalize σ 6 = s6
    generalize σ 7 = s7
    generalize σ 8 = s8
    generalize σ 9 = s9
    generalize σ 10 = s10
    generalize σ 11 = s11
    generalize σ 12 = s12
    generalize σ 13 = s13
    generalize σ 14 = s14
    refine hKK _ _ ?_
    conv => arg 2; whnf
    go_wp2_with fail
    exact hQ.out _ _ _ _ _ _ _ rfl z9 HW3.out

end Go.Proofs.YtkjlchfmplcobaeGreatDoor
