/- FleetRefFreezeTail, FleetRefFreezeMid, FleetRefFreeze, as one text. -/
import Derived.Test.YtkjlchfmplcobaeGreatDoorProg
import Derived.Test.YtkjlchfmplcobaeGreatDoorRunAF
import Derived.Test.YtkjlchfmplcobaeGreatDoorFleetGoFreeze
import Derived.Test.YtkjlchfmplcobaeGreatDoorRunAG
import Derived.Test.YtkjlchfmplcobaeGreatDoorRunAN
import Derived.Test.YtkjlchfmplcobaeGreatDoorRunAD
import Derived.WalkKit
import Derived.WalkSpells
import Derived.WalkLawsBesides
import Derived.Deep.RegionHeld3
import Derived.Deep.RegionWith
import Derived.Deep.RegionLaw
import Derived.Deep.QuietTactic
import Derived.BigQuiet
import Derived.BigRegion
/- The walk of the reference's Step where a shard is frozen: package yearref5. -/
namespace Go.Proofs.YtkjlchfmplcobaeGreatDoor
open Go.RowKit

theorem keptB_two {w0 w : World} {R : Nat} (h : Below w0.heap.size w0 w ∧ ∀ b o, b < w0.heap.size → w.cell? ⟨b, o, none⟩ = w0.cell? ⟨b, o, none⟩) (hR : w0.heap.size ≤ R) (u0 u1 : Value) : Below w0.heap.size w0 ((w.setCell ⟨R, 0, none⟩ u0).setCell ⟨R, 1, none⟩ u1) ∧ ∀ b o, b < w0.heap.size → ((w.setCell ⟨R, 0, none⟩ u0).setCell ⟨R, 1, none⟩ u1).cell? ⟨b, o, none⟩ = w0.cell? ⟨b, o, none⟩ := keptB_of ((h.1.setCell hR _).setCell hR _)
theorem recs_one {τ : Nat → Tag} {w : World} {l : List Rec} {ys : List Value} (hl : ys.length = l.length * 5) (h : ∀ j, j < l.length → ∃ rv, (∀ i, i < 5 → ys[j * 5 + i]? = (recCs (l.getD j rec0) rv)[i]?) ∧ ByM τ w rv (l.getD j rec0).root) : ∀ u ∈ ys, u.oneCell' = true := by
  intro u hu
  obtain ⟨i, hi, rfl⟩ := List.mem_iff_getElem.1 hu
  have hi' := List.getElem?_eq_getElem hi
  have e : i = i / 5 * 5 + i % 5 := by omega
  obtain ⟨rv, h1, h2⟩ := h (i / 5) (by omega)
  have h3 := h1 (i % 5) (by omega)
  rw [← e, hi'] at h3
  obtain ⟨ra, rc, rfl⟩ := h2.here.at'.form
  exact recCs_one (l.getD (i / 5) rec0) ra _ rc _ (List.mem_of_getElem? h3.symm)
/-- A row more is in the book, and the answer is told. -/
theorem reffreeze_end {τ τ1 : Nat → Tag} {N gp R : Nat} {w W A w6 : World} {ss : List Shd} {V : Nat → ShV} {l : List Rec} {sv bv v rv : Value} {r : Rec} {ys : List Value} {k n : Int}
    (hB : RfB τ1 N W gp sv bv l) (hS : ShM τ1 N W sv ss V) (K : Keep τ τ1 N w W) (hN : N ≤ w.heap.size) (hNW : N ≤ W.heap.size) (hA : Below W.heap.size W A) {n0 : Nat} (hd : A.ownsRow W.heap.size 5 1 rv n0 (r.root.map (Value.int .u8))) (hdb : Bytes r.root)
    (hyl : ys.length = l.length * 5) (hx : ∀ j, j < l.length → ∃ rv, (∀ i, i < 5 → ys[j * 5 + i]? = (recCs (l.getD j rec0) rv)[i]?) ∧ ByM τ1 W rv (l.getD j rec0).root)
    (ho : w6.ownsRow A.heap.size 45 5 v (l.length + 1) (ys ++ recCs r rv)) (hb6 : Below A.heap.size A w6) (hR : τ1 R = tNo) (hRw : w.heap.size ≤ R) (hRl : R < W.heap.size) (u0 u1 u2 u3 u4 : Value) :
    RfWent τ N gp w ((((((w6.setCell ⟨gp, 1, none⟩ v).setCell ⟨R, 0, none⟩ u0).setCell ⟨R, 1, none⟩ u1).setCell ⟨R, 2, none⟩ u2).setCell ⟨R, 3, none⟩ u3).setCell ⟨R, 4, none⟩ u4) (.agg #[.int .i64 0, .int .i64 k, .int .i64 0, .int .i64 n, rv]) (⟨ss, l ++ [r]⟩, ⟨0, k, 0, n, r.root⟩) := by
  have U1 := upd_call (τ := τ1) hA tFix
  have hrA : ByM (ext τ1 W.heap.size tFix) A rv r.root := byM_own hd hdb
  have hBA := hB.upd U1 no_row
  have hSA := hS.upd U1 no_row
  have KA := K.trans (keep_call (τ := τ1) hA hNW tFix)
  have hNA : N ≤ A.heap.size := Nat.le_trans hNW hA.size
  have U2 := upd_call (τ := ext τ1 W.heap.size tFix) hb6 tBk
  have hK := BkM.fresh (τ := ext τ1 W.heap.size tFix) hNA hyl (fun j hj => by obtain ⟨q, h1, h2⟩ := hx j hj; exact ⟨q, h1, h2.upd U1 no_row⟩) ho hb6 hrA
  obtain ⟨hF, K2, -, -⟩ := hBA.rebook hSA hNA U2 hK
  have htg : ext (ext τ1 W.heap.size tFix) A.heap.size tBk gp = tFl := ((hBA.upd U2 no_row)).tag
  have hr6 := (hrA.upd U2 no_row).upd (upd_set _ w6 gp 1 v) (fun b hb => by cases hb; rw [htg]; decide)
  have hR2 : ext (ext τ1 W.heap.size tFix) A.heap.size tBk R = tNo := by rw [ext_old (Nat.lt_of_lt_of_le hRl hA.size), ext_old hRl]; exact hR
  exact rfwent_by hF (KA.trans K2) hN hR2 hRw hr6 u0 u1 u2 u3 u4
def fzDst (i : Nat) : Option Nat := if i < 23 then some (179 + i) else none
def fzDep : Nat → List Nat
  | 3 => [2]
  | 4 => [3]
  | 5 => [4]
  | 6 => [1, 5]
  | 8 => [7]
  | 10 => [9]
  | 11 => [10]
  | 12 => [11]
  | 14 => [13]
  | 15 => [14]
  | 16 => [15]
  | 18 => [8, 12, 16, 17]
  | 19 => [18]
  | 20 => [6, 19]
  | 21 => [0]
  | 22 => [21]
  | 23 => [0, 1, 2, 3, 4, 5, 6, 7, 8, 9, 10, 11, 12, 13, 14, 15, 16, 17, 18, 19, 20, 22]
  | _ => []
def fzPv (gp sb k x : Nat) (bk hd rc : Value) (XF XT : Int) : Nat → Option Value
  | 0 => some (.pointer (some ⟨gp, 0, none⟩))
  | 2 => some (.pointer (some ⟨gp, 0, none⟩))
  | 3 => some (.pointer (some ⟨gp, 0, none⟩))
  | 4 => some (.pointer (some ⟨gp, 1, none⟩))
  | 5 => some bk
  | 7 => some (.pointer (some ⟨x, 1, none⟩))
  | 8 => some (.int .i64 (k : Int))
  | 9 => some (.pointer (some ⟨sb, k * 7, none⟩))
  | 10 => some (.pointer (some ⟨sb, k * 7, none⟩))
  | 11 => some (.pointer (some ⟨sb, k * 7, none⟩))
  | 12 => some (.int .i64 XF)
  | 13 => some (.pointer (some ⟨sb, k * 7, none⟩))
  | 14 => some (.pointer (some ⟨sb, k * 7, none⟩))
  | 15 => some (.pointer (some ⟨sb, k * 7 + 1, none⟩))
  | 16 => some (.int .i64 XT)
  | 17 => some hd
  | 18 => some rc
  | 21 => some (.pointer (some ⟨gp, 0, none⟩))
  | 22 => some (.pointer (some ⟨gp, 1, none⟩))
  | _ => none
theorem fz_inj : ∀ i j k, i < 24 → j < 24 → fzDst i = some k → fzDst j = some k → i = j := fun i j k _ _ h1 h2 => by
  unfold fzDst at h1 h2
  by_cases a : i < 23
  · rw [if_pos a] at h1
    by_cases b : j < 23
    · rw [if_pos b] at h2
      have := Option.some.inj (h1.trans h2.symm)
      omega
    · rw [if_neg b] at h2; cases h2
  · rw [if_neg a] at h1; cases h1
set_option maxRecDepth 1000000 in
set_option maxHeartbeats 8000000 in
theorem refFreezeTail {Q : Exit → Act → World → Prop} {f : Flt} {d : Dd} {k NE : Nat} {τ τ1 : Nat → Tag} {N gp sb sc bc HB xc : Nat} {da ba xa : Option Addr} {dc : Nat} {w W A : World} {ss2 : List Shd} {V : Nat → ShV} {XF XT : Int} {M : List Int} {RES : Flt × Ans}
    (hQ : Hid (StepEnd Q τ N gp (w.heap.size + 1) w RES)) (hN : N ≤ w.heap.size) (hB2 : RfB τ1 N W gp (.slice (some ⟨sb, 0, none⟩) f.shards.length sc) (.slice ba f.book.length bc) f.book) (hS2 : ShM τ1 N W (.slice (some ⟨sb, 0, none⟩) f.shards.length sc) ss2 V) (K2 : Keep τ τ1 N w W) (hbl : f.book.length ≤ 1000)
    (x2 : W.heap[w.heap.size]? = some (.cells #[.int .i64 2, .int .i64 (k : Int), .int .i64 d.time, .slice da d.entry.length dc, .int .i64 d.segment, .int .i64 d.at', .int .u8 d.by'] 56 (0, 0)))
    (z2 : W.heap[w.heap.size + 1]? = some (.cells #[.int .i64 0, .int .i64 0, .int .i64 0, .int .i64 0, .slice none 0 0] 41 (0, 0)))
    (hsb2 : sb < W.heap.size) (a0 : W.cell? ⟨sb, k * 7, none⟩ = some (.int .i64 XF)) (a1 : W.cell? ⟨sb, k * 7 + 1, none⟩ = some (.int .i64 XT)) (hA : Below W.heap.size W A) (bxH : A.heap[HB]? = some (.cells #[.int .i64 (NE : Int), .slice xa 32 xc] 39 (0, 0))) (hHB : W.heap.size ≤ HB)
    (hod : A.ownsRow W.heap.size 5 1 (.slice xa 32 xc) 32 (M.map (Value.int .u8))) (hmb : Bytes M) (hX2 : τ1 w.heap.size = tNo) (hR2 : τ1 (w.heap.size + 1) = tNo)
    (HRES : Hid ((⟨ss2, f.book ++ [⟨(k : Int), XF, XT, (NE : Int), M⟩]⟩, ⟨0, (k : Int), 0, (NE : Int), M⟩) = RES))
    {c1 c2 c5 c6 c7 c8 c9 c11 c13 c14 c15 c16 c17 c18 c19 c20 c21 c22 c23 c24 c25 c26 c27 c28 c29 c30 c31 c32 c33 c34 c35 c36 c37 c38 c39 c40 c41 c42 c43 c44 c45 c46 c47 c48 c49 c50 c51 c52 c53 c54 c55 c56 c57 c58 c59 c60 c61 c62 c63 c64 c65 c66 c67 c68 c69 c70 c71 c72 c73 c74 c75 c76 c77 c78 c79 c80 c81 c82 c83 c84 c85 c86 c87 c88 c89 c90 c91 c92 c93 c94 c95 c96 c97 c98 c99 c100 c101 c102 c103 c104 c105 c106 c107 c108 c109 c110 c111 c112 c113 c114 c115 c116 c117 c118 c119 c120 c121 c122 c123 c124 c125 c126 c127 c128 c129 c130 c131 c132 c133 c134 c135 c136 c137 c138 c139 c140 c141 c142 c143 c144 c145 c146 c147 c148 c149 c150 c151 c152 c153 c154 c155 c156 c157 c158 c159 c160 c161 c162 c163 c164 c165 c166 c167 c168 c169 c170 c171 c172 c173 c174 c175 c176 c177 c178 c179 c180 c181 c182 c183 c184 c185 c186 c187 c188 c189 c190 c191 c192 c193 c194 c195 c196 c197 c198 c199 c200 c201 c202 c203 c204 c205 c206 c207 c208 c209 c210 c211 c212 c213 c214 c215 c216 c217 c218 c219 c220 c221 c222 c223 c224 c225 c226 c227 c228 c229 c230 c231 c232 c233 c234 c235 c236 c237 c238 c239 c240 c241 c242 c243 c244 c245 c246 c247 c248 c249 c250 c251 c252 c253 c254 c255 c256 c257 c258 c259 c260 c261 c262 c263 c264 c265 c266 c267 c268 c269 c270 c271 c272 c273 c274 c275 c276 c277 c278 c279 c280 c281 c282 c283 c284 c285 c286 c287 c288 c289 c290 c291 c292 c293 c294 c295 c296 c297 c298 c299 c300 c301 c302 c303 c304 c305 c306 c307 c308 c309 c310 c311 c312 c313 c314 c315 c316 c317 c318 c319 c320 c321 c322 c323 c324 c325 c326 c327 c328 c329 c330 c331 c332 c333 c334 c335 c336 c337 c338 c339 c340 c341 c342 c343 c344 c345 : Value} : Code.wp Tryz.prog (stepFrom 36) Q ⟨#[.pointer (some ⟨gp, 0, none⟩), c1, c2, .pointer (some ⟨w.heap.size, 0, none⟩), .pointer (some ⟨w.heap.size + 1, 0, none⟩), c5, c6, c7, c8, c9, .pointer (some ⟨sb, k * 7, none⟩), c11, .pointer (some ⟨HB, 0, none⟩), c13, c14, c15, c16, c17, c18, c19, c20, c21, c22, c23, c24, c25, c26, c27, c28, c29, c30, c31, c32, c33, c34, c35, c36, c37, c38, c39, c40, c41, c42, c43, c44, c45, c46, c47, c48, c49, c50, c51, c52, c53, c54, c55, c56, c57, c58, c59, c60, c61, c62, c63, c64, c65, c66, c67, c68, c69, c70, c71, c72, c73, c74, c75, c76, c77, c78, c79, c80, c81, c82, c83, c84, c85, c86, c87, c88, c89, c90, c91, c92, c93, c94, c95, c96, c97, c98, c99, c100, c101, c102, c103, c104, c105, c106, c107, c108, c109, c110, c111, c112, c113, c114, c115, c116, c117, c118, c119, c120, c121, c122, c123, c124, c125, c126, c127, c128, c129, c130, c131, c132, c133, c134, c135, c136, c137, c138, c139, c140, c141, c142, c143, c144, c145, c146, c147, c148, c149, c150, c151, c152, c153, c154, c155, c156, c157, c158, c159, c160, c161, c162, c163, c164, c165, c166, c167, c168, c169, c170, c171, c172, c173, c174, c175, c176, c177, c178, c179, c180, c181, c182, c183, c184, c185, c186, c187, c188, c189, c190, c191, c192, c193, c194, c195, c196, c197, c198, c199, c200, c201, c202, c203, c204, c205, c206, c207, c208, c209, c210, c211, c212, c213, c214, c215, c216, c217, c218, c219, c220, c221, c222, c223, c224, c225, c226, c227, c228, c229, c230, c231, c232, c233, c234, c235, c236, c237, c238, c239, c240, c241, c242, c243, c244, c245, c246, c247, c248, c249, c250, c251, c252, c253, c254, c255, c256, c257, c258, c259, c260, c261, c262, c263, c264, c265, c266, c267, c268, c269, c270, c271, c272, c273, c274, c275, c276, c277, c278, c279, c280, c281, c282, c283, c284, c285, c286, c287, c288, c289, c290, c291, c292, c293, c294, c295, c296, c297, c298, c299, c300, c301, c302, c303, c304, c305, c306, c307, c308, c309, c310, c311, c312, c313, c314, c315, c316, c317, c318, c319, c320, c321, c322, c323, c324, c325, c326, c327, c328, c329, c330, c331, c332, c333, c334, c335, c336, c337, c338, c339, c340, c341, c342, c343, c344, c345], []⟩ A := by
  obtain ⟨i0, hi0, hz0, hz1, hz2⟩ := info_parts Tryz.info45c
  have q3 : (0 : Int) ≤ k := by omega
  have hNW : N ≤ W.heap.size := Nat.le_trans hN K2.size
  have hBA := hB2.upd (upd_same hA) no_row
  obtain ⟨-, ys, hrowW, hxW⟩ := hB2.bk
  have hrowA := hrowW.kept (grown_below hA) (by cases (Value.slice ba f.book.length bc).ownBlock <;> simp)
  have hyo := recs_one hrowW.1 hxW
  obtain ⟨g0, g1, -, gf⟩ := box_two hBA.box
  obtain ⟨v0, v1, -, -, -, -, -⟩ := box_seven (box_kept x2 hA)
  obtain ⟨h0, h1, -, -⟩ := box_two bxH
  have b0' := (hA.cell (p := ⟨sb, k * 7, none⟩) hsb2).trans a0
  have b1' := (hA.cell (p := ⟨sb, k * 7 + 1, none⟩) hsb2).trans a1
  have hgpA : gp < A.heap.size := lt_heap hBA.box
  have hsbA : sb < A.heap.size := Nat.lt_of_lt_of_le hsb2 hA.size
  have hxA : w.heap.size < A.heap.size := Nat.lt_of_lt_of_le (lt_heap x2) hA.size
  have hHA : HB < A.heap.size := lt_heap bxH
  obtain ⟨NB, HNB⟩ : ∃ NB, Hid (f.book.length = NB) := ⟨_, rfl⟩
  rw [HNB.out] at hbl g1 hrowA
  have HC6 : ∀ w6, Hid (Below A.heap.size A w6 → w6.cell? ⟨w.heap.size, 1, none⟩ = some (.int .i64 (k : Int)) ∧ w6.cell? ⟨sb, k * 7, none⟩ = some (.int .i64 XF) ∧ w6.cell? ⟨sb, k * 7 + 1, none⟩ = some (.int .i64 XT) ∧ w6.cell? ⟨HB, 0, none⟩ = some (.int .i64 (NE : Int)) ∧ w6.cell? ⟨HB, 1, none⟩ = some (.slice xa 32 xc) ∧ w6.cell? ⟨gp, 1, none⟩ = some (.slice ba NB bc) ∧ w6.frozen? ⟨gp, 1, none⟩ = false) := fun w6 h => ⟨(h.cell (p := ⟨w.heap.size, 1, none⟩) hxA).trans v1, (h.cell (p := ⟨sb, k * 7, none⟩) hsbA).trans b0', (h.cell (p := ⟨sb, k * 7 + 1, none⟩) hsbA).trans b1', (h.cell (p := ⟨HB, 0, none⟩) hHA).trans h0, (h.cell (p := ⟨HB, 1, none⟩) hHA).trans h1, (h.cell (p := ⟨gp, 1, none⟩) hgpA).trans g1, (World.frozen?_of_block (h.block gp hgpA)).trans gf⟩
  have hlo : ∀ u ∈ (#[.int .i64 (k : Int), .int .i64 XF, .int .i64 XT, .int .i64 (NE : Int), .slice xa 32 xc] : Array Value).toList, u.oneCell' = true := by intro u hu; simp at hu; rcases hu with rfl | rfl | rfl | rfl | rfl <;> rfl
  have hfl : τ1 gp = tFl := hB2.tag
  have hngx : w.heap.size ≠ gp := fun e => by rw [e, hfl] at hX2; simp [tFl, tNo] at hX2
  have hngz : w.heap.size + 1 ≠ gp := fun e => by rw [e, hfl] at hR2; simp [tFl, tNo] at hR2
  have hngH : HB ≠ gp := by have := lt_heap hB2.box; omega
  have HFIN : Hid (∀ (w7 : World) (g7 cap7 : Nat), w7.ownsRow A.heap.size 45 5 (.slice (some ⟨g7, 0, none⟩) (NB + 1) cap7) (NB + 1) (ys ++ (#[.int .i64 (k : Int), .int .i64 XF, .int .i64 XT, .int .i64 (NE : Int), .slice xa 32 xc] : Array Value).toList) → Below A.heap.size A w7 → w7.cell? ⟨gp, 1, none⟩ = some (.slice ba NB bc) ∧ w7.frozen? ⟨gp, 1, none⟩ = false ∧ Hid (((w7.setCell ⟨gp, 1, none⟩ (.slice (some ⟨g7, 0, none⟩) (NB + 1) cap7)).heap[w.heap.size]? = some (.cells #[.int .i64 2, .int .i64 (k : Int), .int .i64 d.time, .slice da d.entry.length dc, .int .i64 d.segment, .int .i64 d.at', .int .u8 d.by'] 56 (0, 0)) ∧ (w7.setCell ⟨gp, 1, none⟩ (.slice (some ⟨g7, 0, none⟩) (NB + 1) cap7)).heap[w.heap.size + 1]? = some (.cells #[.int .i64 0, .int .i64 0, .int .i64 0, .int .i64 0, .slice none 0 0] 41 (0, 0)) ∧ (w7.setCell ⟨gp, 1, none⟩ (.slice (some ⟨g7, 0, none⟩) (NB + 1) cap7)).heap[HB]? = some (.cells #[.int .i64 (NE : Int), .slice xa 32 xc] 39 (0, 0))) ∧ ∀ u0 u1 u2 u3 u4, RfWent τ N gp w ((((((w7.setCell ⟨gp, 1, none⟩ (.slice (some ⟨g7, 0, none⟩) (NB + 1) cap7)).setCell ⟨w.heap.size + 1, 0, none⟩ u0).setCell ⟨w.heap.size + 1, 1, none⟩ u1).setCell ⟨w.heap.size + 1, 2, none⟩ u2).setCell ⟨w.heap.size + 1, 3, none⟩ u3).setCell ⟨w.heap.size + 1, 4, none⟩ u4) (.agg #[.int .i64 0, .int .i64 (k : Int), .int .i64 0, .int .i64 (NE : Int), .slice xa 32 xc]) RES)) := fun w7 g7 cap7 ho h7 => by
    obtain ⟨-, -, -, -, -, q6, q7⟩ := (HC6 w7).out h7
    refine ⟨q6, q7, ⟨box_set_far (box_kept (box_kept x2 hA) h7) hngx, box_set_far (box_kept (box_kept z2 hA) h7) hngz, box_set_far (box_kept bxH h7) hngH⟩, fun u0 u1 u2 u3 u4 => ?_⟩
    rw [← HRES.out]
    rw [← HNB.out] at ho
    rw [← HNB.out]
    exact reffreeze_end (r := ⟨(k : Int), XF, XT, (NE : Int), M⟩) (rv := .slice xa 32 xc) hB2 hS2 K2 hN hNW hA hod hmb hrowW.1 hxW ho h7 hR2 (by omega) (lt_heap z2) u0 u1 u2 u3 u4
  have noo : (Value.slice ba NB bc).ownBlock = none ∨ (Value.slice ba NB bc).ownBlock ≠ none := by cases (Value.slice ba NB bc).ownBlock <;> simp
  clear hB2 hS2 K2 x2 z2 a0 a1 hA bxH hod hmb hX2 hR2 HRES hBA hrowW hxW g0 g1 gf v0 v1 h0 h1 b0' b1' HNB hngx hngz hngH hfl hNW
  conv => arg 2; whnf
  go_wp2_with fail
  refine region_by (n := 24) (dst := fzDst) (gd := fun _ => none) (dep := fzDep) (by kernel_rfl) (RgOps.of (by kernel_rfl) (by kernel_rfl) (by kernel_rfl) (by kernel_rfl)) (by decide) (fun i j h => ?_) (fun ℓ σ wx => PV (fzPv gp sb k w.heap.size (.slice ba NB bc) (.agg #[.int .i64 (NE : Int), .slice xa 32 xc]) (.agg #[.int .i64 (k : Int), .int .i64 XF, .int .i64 XT, .int .i64 (NE : Int), .slice xa 32 xc]) XF XT) ℓ σ ∧ FzM A NB ys #[.int .i64 (k : Int), .int .i64 XF, .int .i64 XT, .int .i64 (NE : Int), .slice xa 32 xc] gp (ℓ 1) (ℓ 6) (ℓ 19) (ℓ 20) (ℓ 23) (σ 1) (σ 6) (σ 19) (σ 20) wx ∧ (ℓ 23 = true → ∀ j, j < 21 → ℓ j = true)) ⟨fun j v _ q => (by cases q), fz_start (Below.refl _ _).drew, fun q => (by cases q)⟩ fz_inj (fun ℓ σ w i g b _ _ q => by cases q) (fun ℓ σ w i g b b' _ _ q => by cases q) ?_ ?_
  · unfold fzDst at h
    split at h
    · cases h; show 179 + i < 346; omega
    · cases h
  · intro ℓ σ w1 a i o ho hi hE hM hli hdep hgd K hK
    obtain ⟨hP, hF, hc⟩ := hM
    have third : ℓ 23 = true → ∀ j, j < 21 → setL ℓ i j = true := fun q j hj => by show (j == i || ℓ j) = true; rw [hc q j hj, Bool.or_true]
    have h23 : i < 21 → ℓ 23 = false := fun h => by
      cases q : ℓ 23 with
      | false => rfl
      | true => have := hc q i h; rw [hli] at this; cases this
    have ev : ∀ j u, j < 24 → ℓ j = true → (fzPv gp sb k w.heap.size (.slice ba NB bc) (.agg #[.int .i64 (NE : Int), .slice xa 32 xc]) (.agg #[.int .i64 (k : Int), .int .i64 XF, .int .i64 XT, .int .i64 (NE : Int), .slice xa 32 xc]) XF XT) j = some u → ∀ kk, fzDst j = some kk → a.eval (.tmp kk) = u := fun j u hj hl hp kk hk => (hE.val j hj hl kk hk).trans (hP j u hp hl)
    have eo : ∀ kk, kk < 179 → ∀ j, j < 24 → fzDst j ≠ some kk := fun kk hk j _ e => by
      unfold fzDst at e
      split at e
      · simp only [Option.some.injEq] at e; omega
      · cases e
    rcases (show i = 0 ∨ i = 1 ∨ i = 2 ∨ i = 3 ∨ i = 4 ∨ i = 5 ∨ i = 6 ∨ i = 7 ∨ i = 8 ∨ i = 9 ∨ i = 10 ∨ i = 11 ∨ i = 12 ∨ i = 13 ∨ i = 14 ∨ i = 15 ∨ i = 16 ∨ i = 17 ∨ i = 18 ∨ i = 19 ∨ i = 20 ∨ i = 21 ∨ i = 22 ∨ i = 23 by omega) with rfl | rfl | rfl | rfl | rfl | rfl | rfl | rfl | rfl | rfl | rfl | rfl | rfl | rfl | rfl | rfl | rfl | rfl | rfl | rfl | rfl | rfl | rfl | rfl
    · obtain rfl := Option.some.inj ho
      have q0 : a.eval (.tmp 0) = .pointer (some ⟨gp, 0, none⟩) := hE.out 0 (eo 0 (by omega))
      exact wp_of_run (v := .pointer (some ⟨gp, 0, none⟩)) (w' := w1) (by generalize a.eval = evv at q0 ⊢; simp only [execOp]; go_simp) (hK _ _ ⟨hP.step (fun u hu => (Option.some.inj hu).symm), hF, third⟩)
    · obtain rfl := Option.some.inj ho
      have hF1 := hF
      rw [hli] at hF1
      exact wp_of_run (v := .slice (some ⟨w1.heap.size, 0, none⟩) 0 0) (w' := w1.alloc (.cells #[] 45)) (by generalize a.eval = evv at ⊢; simp only [execOp]; go_simp) (hK _ _ ⟨hP.step (fun u hu => by cases hu), hF1.op1, third⟩)
    · obtain rfl := Option.some.inj ho
      have q0 : a.eval (.tmp 0) = .pointer (some ⟨gp, 0, none⟩) := hE.out 0 (eo 0 (by omega))
      exact wp_of_run (v := .pointer (some ⟨gp, 0, none⟩)) (w' := w1) (by generalize a.eval = evv at q0 ⊢; simp only [execOp]; go_simp) (hK _ _ ⟨hP.step (fun u hu => (Option.some.inj hu).symm), hF, third⟩)
    · obtain rfl := Option.some.inj ho
      have e0 : a.eval (.tmp 181) = .pointer (some ⟨gp, 0, none⟩) := ev 2 _ (by omega) (hdep 2 (by simp [fzDep])) rfl 181 rfl
      exact wp_of_run (v := .pointer (some ⟨gp, 0, none⟩)) (w' := w1) (by generalize a.eval = evv at e0 ⊢; simp only [execOp]; go_simp) (hK _ _ ⟨hP.step (fun u hu => (Option.some.inj hu).symm), hF, third⟩)
    · obtain rfl := Option.some.inj ho
      have e0 : a.eval (.tmp 182) = .pointer (some ⟨gp, 0, none⟩) := ev 3 _ (by omega) (hdep 3 (by simp [fzDep])) rfl 182 rfl
      exact wp_of_run (v := .pointer (some ⟨gp, 1, none⟩)) (w' := w1) (by generalize a.eval = evv at e0 ⊢; simp only [execOp]; go_simp) (hK _ _ ⟨hP.step (fun u hu => (Option.some.inj hu).symm), hF, third⟩)
    · obtain rfl := Option.some.inj ho
      have e0 : a.eval (.tmp 183) = .pointer (some ⟨gp, 1, none⟩) := ev 4 _ (by omega) (hdep 4 (by simp [fzDep])) rfl 183 rfl
      obtain ⟨l1, l2, l3, l4, l5, l6, l7⟩ := (HC6 w1).out (hF.bel (h23 (by omega)))
      exact wp_of_run (v := .slice ba NB bc) (w' := w1) (by generalize a.eval = evv at e0 ⊢; simp only [execOp]; go_simp) (hK _ _ ⟨hP.step (fun u hu => (Option.some.inj hu).symm), hF, third⟩)
    · obtain rfl := Option.some.inj ho
      have h1 := hdep 1 (by simp [fzDep])
      have hF1 := hF
      rw [hli] at hF1
      obtain ⟨B, es, hB, hBA⟩ := hF1.f1 h1 rfl
      have e0 : a.eval (.tmp 180) = .slice (some ⟨B, 0, none⟩) 0 0 := (hE.val 1 (by omega) h1 180 rfl).trans es
      have e1 : a.eval (.tmp 184) = .slice ba NB bc := ev 5 _ (by omega) (hdep 5 (by simp [fzDep])) rfl 184 rfl
      have hb := hF1.bel (h23 (by omega))
      refine wp_append_src2 (.tmp 180) (.tmp 184) 25 rfl A.heap.size N 45 45 i0 _ 5 56 Tryz.underlying25 hi0 hz0 hz1 hz2 rfl (by decide) B 0 0 [] e0 (own_empty hB hBA) ba NB bc ys e1 (hrowA.kept (grown_below hb) noo) hyo (by unfold maxLen; omega) (by omega) hb.size ?_
      intro g cap w' ho' hg' hl'
      rw [Nat.zero_add, List.nil_append] at ho'
      rw [Nat.zero_add]
      exact hK _ _ ⟨hP.step (fun u hu => by cases hu), hF1.op6 h1 es hBA ho' hg' hl', third⟩
    · obtain rfl := Option.some.inj ho
      have q0 : a.eval (.tmp 3) = .pointer (some ⟨w.heap.size, 0, none⟩) := hE.out 3 (eo 3 (by omega))
      exact wp_of_run (v := .pointer (some ⟨w.heap.size, 1, none⟩)) (w' := w1) (by generalize a.eval = evv at q0 ⊢; simp only [execOp]; go_simp) (hK _ _ ⟨hP.step (fun u hu => (Option.some.inj hu).symm), hF, third⟩)
    · obtain rfl := Option.some.inj ho
      have e0 : a.eval (.tmp 186) = .pointer (some ⟨w.heap.size, 1, none⟩) := ev 7 _ (by omega) (hdep 7 (by simp [fzDep])) rfl 186 rfl
      obtain ⟨l1, l2, l3, l4, l5, l6, l7⟩ := (HC6 w1).out (hF.bel (h23 (by omega)))
      exact wp_of_run (v := .int .i64 (k : Int)) (w' := w1) (by generalize a.eval = evv at e0 ⊢; simp only [execOp]; go_simp) (hK _ _ ⟨hP.step (fun u hu => (Option.some.inj hu).symm), hF, third⟩)
    · obtain rfl := Option.some.inj ho
      have q0 : a.eval (.tmp 10) = .pointer (some ⟨sb, k * 7, none⟩) := hE.out 10 (eo 10 (by omega))
      exact wp_of_run (v := .pointer (some ⟨sb, k * 7, none⟩)) (w' := w1) (by generalize a.eval = evv at q0 ⊢; simp only [execOp]; go_simp) (hK _ _ ⟨hP.step (fun u hu => (Option.some.inj hu).symm), hF, third⟩)
    · obtain rfl := Option.some.inj ho
      have e0 : a.eval (.tmp 188) = .pointer (some ⟨sb, k * 7, none⟩) := ev 9 _ (by omega) (hdep 9 (by simp [fzDep])) rfl 188 rfl
      exact wp_of_run (v := .pointer (some ⟨sb, k * 7, none⟩)) (w' := w1) (by generalize a.eval = evv at e0 ⊢; simp only [execOp]; go_simp) (hK _ _ ⟨hP.step (fun u hu => (Option.some.inj hu).symm), hF, third⟩)
    · obtain rfl := Option.some.inj ho
      have e0 : a.eval (.tmp 189) = .pointer (some ⟨sb, k * 7, none⟩) := ev 10 _ (by omega) (hdep 10 (by simp [fzDep])) rfl 189 rfl
      exact wp_of_run (v := .pointer (some ⟨sb, k * 7, none⟩)) (w' := w1) (by generalize a.eval = evv at e0 ⊢; simp only [execOp]; go_simp) (hK _ _ ⟨hP.step (fun u hu => (Option.some.inj hu).symm), hF, third⟩)
    · obtain rfl := Option.some.inj ho
      have e0 : a.eval (.tmp 190) = .pointer (some ⟨sb, k * 7, none⟩) := ev 11 _ (by omega) (hdep 11 (by simp [fzDep])) rfl 190 rfl
      obtain ⟨l1, l2, l3, l4, l5, l6, l7⟩ := (HC6 w1).out (hF.bel (h23 (by omega)))
      exact wp_of_run (v := .int .i64 XF) (w' := w1) (by generalize a.eval = evv at e0 ⊢; simp only [execOp]; go_simp) (hK _ _ ⟨hP.step (fun u hu => (Option.some.inj hu).symm), hF, third⟩)
    · obtain rfl := Option.some.inj ho
      have q0 : a.eval (.tmp 10) = .pointer (some ⟨sb, k * 7, none⟩) := hE.out 10 (eo 10 (by omega))
      exact wp_of_run (v := .pointer (some ⟨sb, k * 7, none⟩)) (w' := w1) (by generalize a.eval = evv at q0 ⊢; simp only [execOp]; go_simp) (hK _ _ ⟨hP.step (fun u hu => (Option.some.inj hu).symm), hF, third⟩)
    · obtain rfl := Option.some.inj ho
      have e0 : a.eval (.tmp 192) = .pointer (some ⟨sb, k * 7, none⟩) := ev 13 _ (by omega) (hdep 13 (by simp [fzDep])) rfl 192 rfl
      exact wp_of_run (v := .pointer (some ⟨sb, k * 7, none⟩)) (w' := w1) (by generalize a.eval = evv at e0 ⊢; simp only [execOp]; go_simp) (hK _ _ ⟨hP.step (fun u hu => (Option.some.inj hu).symm), hF, third⟩)
    · obtain rfl := Option.some.inj ho
      have e0 : a.eval (.tmp 193) = .pointer (some ⟨sb, k * 7, none⟩) := ev 14 _ (by omega) (hdep 14 (by simp [fzDep])) rfl 193 rfl
      exact wp_of_run (v := .pointer (some ⟨sb, k * 7 + 1, none⟩)) (w' := w1) (by generalize a.eval = evv at e0 ⊢; simp only [execOp]; go_simp) (hK _ _ ⟨hP.step (fun u hu => (Option.some.inj hu).symm), hF, third⟩)
    · obtain rfl := Option.some.inj ho
      have e0 : a.eval (.tmp 194) = .pointer (some ⟨sb, k * 7 + 1, none⟩) := ev 15 _ (by omega) (hdep 15 (by simp [fzDep])) rfl 194 rfl
      obtain ⟨l1, l2, l3, l4, l5, l6, l7⟩ := (HC6 w1).out (hF.bel (h23 (by omega)))
      exact wp_of_run (v := .int .i64 XT) (w' := w1) (by generalize a.eval = evv at e0 ⊢; simp only [execOp]; go_simp) (hK _ _ ⟨hP.step (fun u hu => (Option.some.inj hu).symm), hF, third⟩)
    · obtain rfl := Option.some.inj ho
      have q0 : a.eval (.tmp 12) = .pointer (some ⟨HB, 0, none⟩) := hE.out 12 (eo 12 (by omega))
      obtain ⟨l1, l2, l3, l4, l5, l6, l7⟩ := (HC6 w1).out (hF.bel (h23 (by omega)))
      exact wp_of_run (v := .agg #[.int .i64 (NE : Int), .slice xa 32 xc]) (w' := w1) (by generalize a.eval = evv at q0 ⊢; simp only [execOp]; go_simp) (hK _ _ ⟨hP.step (fun u hu => (Option.some.inj hu).symm), hF, third⟩)
    · obtain rfl := Option.some.inj ho
      have e0 : a.eval (.tmp 187) = .int .i64 (k : Int) := ev 8 _ (by omega) (hdep 8 (by simp [fzDep])) rfl 187 rfl
      have e1 : a.eval (.tmp 191) = .int .i64 XF := ev 12 _ (by omega) (hdep 12 (by simp [fzDep])) rfl 191 rfl
      have e2 : a.eval (.tmp 195) = .int .i64 XT := ev 16 _ (by omega) (hdep 16 (by simp [fzDep])) rfl 195 rfl
      have e3 : a.eval (.tmp 196) = .agg #[.int .i64 (NE : Int), .slice xa 32 xc] := ev 17 _ (by omega) (hdep 17 (by simp [fzDep])) rfl 196 rfl
      exact wp_of_run (v := .agg #[.int .i64 (k : Int), .int .i64 XF, .int .i64 XT, .int .i64 (NE : Int), .slice xa 32 xc]) (w' := w1) (by generalize a.eval = evv at e0 e1 e2 e3 ⊢; simp only [execOp]; go_simp) (hK _ _ ⟨hP.step (fun u hu => (Option.some.inj hu).symm), hF, third⟩)
    · obtain rfl := Option.some.inj ho
      have hF1 := hF
      rw [hli] at hF1
      have e0 : a.eval (.tmp 197) = .agg #[.int .i64 (k : Int), .int .i64 XF, .int .i64 XT, .int .i64 (NE : Int), .slice xa 32 xc] := ev 18 _ (by omega) (hdep 18 (by simp [fzDep])) rfl 197 rfl
      exact wp_of_run (v := .slice (some ⟨w1.heap.size, 0, none⟩) 1 1) (w' := w1.alloc (.cells #[.int .i64 (k : Int), .int .i64 XF, .int .i64 XT, .int .i64 (NE : Int), .slice xa 32 xc] 45)) (by generalize a.eval = evv at e0 ⊢; simp only [execOp]; go_simp) (hK _ _ ⟨hP.step (fun u hu => by cases hu), hF1.op19, third⟩)
    · obtain rfl := Option.some.inj ho
      have h6 := hdep 6 (by simp [fzDep])
      have h19 := hdep 19 (by simp [fzDep])
      have hF1 := hF
      rw [hli] at hF1
      obtain ⟨B, cp, es, hoB⟩ := hF1.f6 h6 rfl
      obtain ⟨g9, e9, h9, h9A, -, -⟩ := hF1.f19 h19 rfl
      have e0 : a.eval (.tmp 185) = .slice (some ⟨B, 0, none⟩) NB cp := (hE.val 6 (by omega) h6 185 rfl).trans es
      have e1 : a.eval (.tmp 198) = .slice (some ⟨g9, 0, none⟩) 1 1 := (hE.val 19 (by omega) h19 198 rfl).trans e9
      have hb := hF1.bel (h23 (by omega))
      refine wp_append_src2 (.tmp 185) (.tmp 198) 25 rfl A.heap.size 0 45 45 i0 _ 5 56 Tryz.underlying25 hi0 hz0 hz1 hz2 rfl (by decide) B NB cp ys e0 hoB (some ⟨g9, 0, none⟩) 1 1 (#[.int .i64 (k : Int), .int .i64 XF, .int .i64 XT, .int .i64 (NE : Int), .slice xa 32 xc] : Array Value).toList e1 (own_one h9 (Nat.zero_le _) rfl) hlo (by unfold maxLen; omega) (by omega) hb.size ?_
      intro g cap w' ho' hg' hl'
      exact hK _ _ ⟨hP.step (fun u hu => by cases hu), hF1.op20 h6 h19 (hoB.lt B rfl).1 ho' hg', third⟩
    · obtain rfl := Option.some.inj ho
      have e0 : a.eval (.tmp 179) = .pointer (some ⟨gp, 0, none⟩) := ev 0 _ (by omega) (hdep 0 (by simp [fzDep])) rfl 179 rfl
      exact wp_of_run (v := .pointer (some ⟨gp, 0, none⟩)) (w' := w1) (by generalize a.eval = evv at e0 ⊢; simp only [execOp]; go_simp) (hK _ _ ⟨hP.step (fun u hu => (Option.some.inj hu).symm), hF, third⟩)
    · obtain rfl := Option.some.inj ho
      have e0 : a.eval (.tmp 200) = .pointer (some ⟨gp, 0, none⟩) := ev 21 _ (by omega) (hdep 21 (by simp [fzDep])) rfl 200 rfl
      exact wp_of_run (v := .pointer (some ⟨gp, 1, none⟩)) (w' := w1) (by generalize a.eval = evv at e0 ⊢; simp only [execOp]; go_simp) (hK _ _ ⟨hP.step (fun u hu => (Option.some.inj hu).symm), hF, third⟩)
    · obtain rfl := Option.some.inj ho
      have h20 := hdep 20 (by simp [fzDep])
      have hF1 := hF
      rw [hli] at hF1
      obtain ⟨g, cp, es, hoB⟩ := hF1.f20 h20 rfl
      have e0 : a.eval (.tmp 201) = .pointer (some ⟨gp, 1, none⟩) := ev 22 _ (by omega) (hdep 22 (by simp [fzDep])) rfl 201 rfl
      have e1 : a.eval (.tmp 199) = .slice (some ⟨g, 0, none⟩) (NB + 1) cp := (hE.val 20 (by omega) h20 199 rfl).trans es
      obtain ⟨l1, l2, l3, l4, l5, l6, l7⟩ := (HC6 w1).out (hF1.bel rfl)
      have hF2 := hF1.op23 h20
      rw [es] at hF2
      refine wp_of_skip (w' := w1.setCell ⟨gp, 1, none⟩ (.slice (some ⟨g, 0, none⟩) (NB + 1) cp)) (by generalize a.eval = evv at e0 e1 ⊢; simp only [execOp]; go_simp) (hK _ _ ⟨hP.step (fun u hu => by cases hu), by rw [← es] at hF2 ⊢; exact hF2, fun _ j hj => ?_⟩)
      have hd := hdep j (by simp only [fzDep, List.mem_cons, List.not_mem_nil, or_false]; omega)
      show (j == 23 || ℓ j) = true
      rw [hd, Bool.or_true]
  · intro σ w1 hM
    obtain ⟨g7, cap7, w7, -, ho7, h7, rfl⟩ := hM.2.1.f23 rfl
    clear hM
    obtain ⟨-, -, HZ⟩ := HFIN.out w7 g7 cap7 ho7 h7
    obtain ⟨⟨xx, zz, hh⟩, HW⟩ := HZ.out
    have HW2 : Hid _ := HW
    clear HZ HW HFIN HC6 ho7 h7 hrowA hyo hlo noo
    generalize w7.setCell ⟨gp, 1, none⟩ (.slice (some ⟨g7, 0, none⟩) (NB + 1) cap7) = w8 at *
    obtain ⟨v0, v1, -, -, -, -, -⟩ := box_seven xx
    obtain ⟨h0, h1, -, -⟩ := box_two hh
    obtain ⟨t0, t1, t2, t3, t4⟩ := box_five zz
    obtain ⟨r0, r1, r2, r3, r4⟩ := five_free zz
    have z9 := five_set zz (.int .i64 0) (.int .i64 (k : Int)) (.int .i64 0) (.int .i64 (NE : Int)) (.slice xa 32 xc)
    have HW3 : Hid _ := HW2.out (.int .i64 0) (.int .i64 (k : Int)) (.int .i64 0) (.int .i64 (NE : Int)) (.slice xa 32 xc)
    clear HW2 xx zz hh
    simp only [putsOf, List.range, List.range.loop, List.filterMap_cons, List.filterMap_nil, fzDst, Option.map_some, Option.map_none, Nat.reduceAdd, Nat.reduceLT, ↓reduceIte, setAll, List.setIfInBounds_toArray, List.set_cons_succ, List.set_cons_zero]
    generalize σ 0 = s0
    generalize σ 1 = s1
    generalize σ 2 = s2
    generalize σ 3 = s3
    generalize σ 4 = s4
    generalize σ 5 = s5
    generalize σ 6 = s6
    generalize σ 7 = s7
    generalize σ 8 = s8
    generalize σ 9 = s9
    generalize σ 10 = s10
    generalize σ 11 = s11
    generalize σ 12 = s12
    generalize σ 13 = s13
    generalize σ 14 = s14
    generalize σ 15 = s15
    generalize σ 16 = s16
    generalize σ 17 = s17
    generalize σ 18 = s18
    generalize σ 19 = s19
    generalize σ 20 = s20
    generalize σ 21 = s21
    generalize σ 22 = s22
    go_wp2_with fail
    exact hQ.out _ _ _ _ _ _ _ rfl z9 HW3.out

end Go.Proofs.YtkjlchfmplcobaeGreatDoor

/- The walk of the reference's Step where a shard is frozen: its head: package yearref5. -/
namespace Go.Proofs.YtkjlchfmplcobaeGreatDoor
open Go.RowKit

set_option maxRecDepth 1000000 in
set_option maxHeartbeats 4000000 in
theorem refFreezeMid {Q : Exit → Act → World → Prop} {K : Act → World → Prop} {f : Flt} {d : Dd} {k NE : Nat} {τ τ1 : Nat → Tag} {N gp sb sc bc ec : Nat} {da ba ea : Option Addr} {dc : Nat} {w W : World} {ss2 : List Shd} {V : Nat → ShV} {XF XT : Int} {L : List (List Int)} {RES : Flt × Ans}
    (hKK : ∀ a w, Code.wp Tryz.prog (stepFrom 36) Q a w → K a w) (hQ : Hid (StepEnd Q τ N gp (w.heap.size + 1) w RES)) (hN : N ≤ w.heap.size) (hB2 : RfB τ1 N W gp (.slice (some ⟨sb, 0, none⟩) f.shards.length sc) (.slice ba f.book.length bc) f.book) (hS2 : ShM τ1 N W (.slice (some ⟨sb, 0, none⟩) f.shards.length sc) ss2 V) (K2 : Keep τ τ1 N w W) (hbl : f.book.length ≤ 1000) (hfew : NE ≤ 100)
    (x2 : W.heap[w.heap.size]? = some (.cells #[.int .i64 2, .int .i64 (k : Int), .int .i64 d.time, .slice da d.entry.length dc, .int .i64 d.segment, .int .i64 d.at', .int .u8 d.by'] 56 (0, 0)))
    (z2 : W.heap[w.heap.size + 1]? = some (.cells #[.int .i64 0, .int .i64 0, .int .i64 0, .int .i64 0, .slice none 0 0] 41 (0, 0)))
    (hsb2 : sb < W.heap.size) (a0 : W.cell? ⟨sb, k * 7, none⟩ = some (.int .i64 XF)) (a1 : W.cell? ⟨sb, k * 7 + 1, none⟩ = some (.int .i64 XT)) (a3 : W.cell? ⟨sb, k * 7 + 3, none⟩ = some (.slice ea NE ec)) (hNE : L.length = NE) (hL2 : Lists W ea NE ec L) (hshort : ∀ j, (L.getD j []).length ≤ 200) (hX2 : τ1 w.heap.size = tNo) (hR2 : τ1 (w.heap.size + 1) = tNo)
    (HRES : Hid ((⟨ss2, f.book ++ [⟨(k : Int), XF, XT, (NE : Int), mth L⟩]⟩, ⟨0, (k : Int), 0, (NE : Int), mth L⟩) = RES))
    {c1 c2 c5 c6 c7 c8 c9 c11 c12 c13 c14 c15 c16 c17 c18 c19 c20 c21 c22 c23 c24 c25 c26 c27 c28 c29 c30 c31 c32 c33 c34 c35 c36 c37 c38 c39 c40 c41 c42 c43 c44 c45 c46 c47 c48 c49 c50 c51 c52 c53 c54 c55 c56 c57 c58 c59 c60 c61 c62 c63 c64 c65 c66 c67 c68 c69 c70 c71 c72 c73 c74 c75 c76 c77 c78 c79 c80 c81 c82 c83 c84 c85 c86 c87 c88 c89 c90 c91 c92 c93 c94 c95 c96 c97 c98 c99 c100 c101 c102 c103 c104 c105 c106 c107 c108 c109 c110 c111 c112 c113 c114 c115 c116 c117 c118 c119 c120 c121 c122 c123 c124 c125 c126 c127 c128 c129 c130 c131 c132 c133 c134 c135 c136 c137 c138 c139 c140 c141 c142 c143 c144 c145 c146 c147 c148 c149 c150 c151 c152 c153 c154 c155 c156 c157 c158 c159 c160 c161 c162 c163 c164 c165 c166 c167 c168 c169 c170 c171 c172 c173 c174 c175 c176 c177 c178 c179 c180 c181 c182 c183 c184 c185 c186 c187 c188 c189 c190 c191 c192 c193 c194 c195 c196 c197 c198 c199 c200 c201 c202 c203 c204 c205 c206 c207 c208 c209 c210 c211 c212 c213 c214 c215 c216 c217 c218 c219 c220 c221 c222 c223 c224 c225 c226 c227 c228 c229 c230 c231 c232 c233 c234 c235 c236 c237 c238 c239 c240 c241 c242 c243 c244 c245 c246 c247 c248 c249 c250 c251 c252 c253 c254 c255 c256 c257 c258 c259 c260 c261 c262 c263 c264 c265 c266 c267 c268 c269 c270 c271 c272 c273 c274 c275 c276 c277 c278 c279 c280 c281 c282 c283 c284 c285 c286 c287 c288 c289 c290 c291 c292 c293 c294 c295 c296 c297 c298 c299 c300 c301 c302 c303 c304 c305 c306 c307 c308 c309 c310 c311 c312 c313 c314 c315 c316 c317 c318 c319 c320 c321 c322 c323 c324 c325 c326 c327 c328 c329 c330 c331 c332 c333 c334 c335 c336 c337 c338 c339 c340 c341 c342 c343 c344 c345 : Value} : Code.wp Tryz.prog (firstOf (stepFrom 35)) (Exit.then K Q) ⟨#[.pointer (some ⟨gp, 0, none⟩), c1, c2, .pointer (some ⟨w.heap.size, 0, none⟩), .pointer (some ⟨w.heap.size + 1, 0, none⟩), c5, c6, c7, c8, c9, .pointer (some ⟨sb, k * 7, none⟩), c11, c12, c13, c14, c15, c16, c17, c18, c19, c20, c21, c22, c23, c24, c25, c26, c27, c28, c29, c30, c31, c32, c33, c34, c35, c36, c37, c38, c39, c40, c41, c42, c43, c44, c45, c46, c47, c48, c49, c50, c51, c52, c53, c54, c55, c56, c57, c58, c59, c60, c61, c62, c63, c64, c65, c66, c67, c68, c69, c70, c71, c72, c73, c74, c75, c76, c77, c78, c79, c80, c81, c82, c83, c84, c85, c86, c87, c88, c89, c90, c91, c92, c93, c94, c95, c96, c97, c98, c99, c100, c101, c102, c103, c104, c105, c106, c107, c108, c109, c110, c111, c112, c113, c114, c115, c116, c117, c118, c119, c120, c121, c122, c123, c124, c125, c126, c127, c128, c129, c130, c131, c132, c133, c134, c135, c136, c137, c138, c139, c140, c141, c142, c143, c144, c145, c146, c147, c148, c149, c150, c151, c152, c153, c154, c155, c156, c157, c158, c159, c160, c161, c162, c163, c164, c165, c166, c167, c168, c169, c170, c171, c172, c173, c174, c175, c176, c177, c178, c179, c180, c181, c182, c183, c184, c185, c186, c187, c188, c189, c190, c191, c192, c193, c194, c195, c196, c197, c198, c199, c200, c201, c202, c203, c204, c205, c206, c207, c208, c209, c210, c211, c212, c213, c214, c215, c216, c217, c218, c219, c220, c221, c222, c223, c224, c225, c226, c227, c228, c229, c230, c231, c232, c233, c234, c235, c236, c237, c238, c239, c240, c241, c242, c243, c244, c245, c246, c247, c248, c249, c250, c251, c252, c253, c254, c255, c256, c257, c258, c259, c260, c261, c262, c263, c264, c265, c266, c267, c268, c269, c270, c271, c272, c273, c274, c275, c276, c277, c278, c279, c280, c281, c282, c283, c284, c285, c286, c287, c288, c289, c290, c291, c292, c293, c294, c295, c296, c297, c298, c299, c300, c301, c302, c303, c304, c305, c306, c307, c308, c309, c310, c311, c312, c313, c314, c315, c316, c317, c318, c319, c320, c321, c322, c323, c324, c325, c326, c327, c328, c329, c330, c331, c332, c333, c334, c335, c336, c337, c338, c339, c340, c341, c342, c343, c344, c345], []⟩ W := by
  have q3 : (0 : Int) ≤ k := by omega
  have hmb := bytes_mth L
  have hM := fun W' (h : Below W.heap.size W W') => mth_any NE L ea ec W' hNE (by omega) (hL2.below h).at' hL2.room hL2.cap hL2.bytes (fun j => by have := hshort j; omega)
  have xA : (W.alloc (.cells #[.int .i64 0, .slice none 0 0] 39)).drew.heap[W.heap.size]? = some (.cells #[.int .i64 0, .slice none 0 0] 39 (0, 0)) := box_new W #[.int .i64 0, .slice none 0 0] 39
  clear hL2 hshort hfew hNE
  conv => arg 2; whnf
  go_region_held3 (fun w' => Below W.heap.size W w' ∧ ∀ b o, b < W.heap.size → w'.cell? ⟨b, o, none⟩ = W.cell? ⟨b, o, none⟩) (first | (with_reducible assumption) | (with_reducible exact hK) | (with_reducible exact keptB_drew W) | (with_reducible exact keptB_new W _) | (with_reducible exact keptB_alloc hK _) | (with_reducible exact keptB_two hK (Nat.le_refl _) _ _)) (first | (go_at_call 35; refine (hM _ (And.left (by assumption))).mono ?_; rintro e w5 ⟨x, rfl, ho5, hb5⟩; obtain ⟨xa, xc, rfl⟩ := own_form' ho5; have hK := keptB_below (w0 := W) (by assumption) hb5; first | (have xB : w5.heap[W.heap.size]? = some (.cells #[.int .i64 0, .slice none 0 0] 39 (0, 0)) := (by with_reducible exact box_kept (w := (W.alloc (.cells #[.int .i64 0, .slice none 0 0] 39)).drew) xA hb5); obtain ⟨p0, p1, p2, p3⟩ := box_two xB) | (have xB := box_new w5 #[.int .i64 0, .slice none 0 0] 39; obtain ⟨p0, p1, p2, p3⟩ := box_two xB)))
  · refine hKK _ _ ?_
    exact refFreezeTail hQ hN hB2 hS2 K2 hbl x2 z2 hsb2 a0 a1 (hK.1.alloc hK.1.size _) (box_new w5 #[.int .i64 (NE : Int), .slice xa 32 xc] 39) hK.1.size (ownsRow_base (ho5.alloc _) (by simp)) hmb hX2 hR2 HRES
  · refine hKK _ _ ?_
    have hsz : (W.alloc (.cells #[.int .i64 0, .slice none 0 0] 39)).drew.heap.size = W.heap.size + 1 := by simp
    rw [hsz] at ho5
    have hne : (Value.slice xa 32 xc).ownBlock = none ∨ (Value.slice xa 32 xc).ownBlock ≠ some W.heap.size := by
      cases e : (Value.slice xa 32 xc).ownBlock with
      | none => exact .inl rfl
      | some b => exact .inr (fun q => by have h1 := (ho5.lt b e).1; have h2 : b = W.heap.size := Option.some.inj q; omega)
    have ho6 := (ho5.kept (grown_set w5 W.heap.size 0 (.int .i64 (NE : Int))) hne).kept (grown_set _ W.heap.size 1 (.slice xa 32 xc)) hne
    have bx5 : ((w5.setCell ⟨W.heap.size, 0, none⟩ (.int .i64 (NE : Int))).setCell ⟨W.heap.size, 1, none⟩ (.slice xa 32 xc)).heap[W.heap.size]? = some (.cells #[.int .i64 (NE : Int), .slice xa 32 xc] 39 (0, 0)) := heap_setCell_same _ _ 1 _ _ _ (heap_setCell_same _ _ 0 _ _ _ xB)
    exact refFreezeTail hQ hN hB2 hS2 K2 hbl x2 z2 hsb2 a0 a1 ((hK.1.setCell (Nat.le_refl _) _).setCell (Nat.le_refl _) _) bx5 (Nat.le_refl _) (ownsRow_base ho6 (by omega)) hmb hX2 hR2 HRES

end Go.Proofs.YtkjlchfmplcobaeGreatDoor

/- The walk of the reference's Step where a shard is frozen: package yearref5. -/
namespace Go.Proofs.YtkjlchfmplcobaeGreatDoor
open Go.RowKit

set_option maxRecDepth 100000 in
set_option maxHeartbeats 4000000 in
theorem refFreeze_any (f : Flt) (d : Dd) (k : Nat) (τ : Nat → Tag) (N gp : Nat) (da : Option Addr) (dc : Nat) (w : World) (hF : RfF τ N w gp f) (hN : N ≤ w.heap.size) (hk : k < f.shards.length) (hst : (f.shards.getD k shd0).state = 1) (hfew : (f.shards.getD k shd0).entries.length ≤ 100) (hshort : ∀ j, ((f.shards.getD k shd0).entries.getD j []).length ≤ 200) (hbl : f.book.length ≤ 1000) :
    Calls Tryz.prog 18 #[.pointer (some ⟨gp, 0, none⟩), .agg #[.int .i64 2, .int .i64 (k : Int), .int .i64 d.time, .slice da d.entry.length dc, .int .i64 d.segment, .int .i64 d.at', .int .u8 d.by']] w fun e w' => ∃ av, e = .returned av ∧ RfWent τ N gp w w' av (freezeL f k) := by
  have b0 : Below w.heap.size w ((w.alloc (.cells #[.int .i64 2, .int .i64 (k : Int), .int .i64 d.time, .slice da d.entry.length dc, .int .i64 d.segment, .int .i64 d.at', .int .u8 d.by'] 56)).alloc (.cells #[.int .i64 0, .int .i64 0, .int .i64 0, .int .i64 0, .slice none 0 0] 41)) := ((Below.refl _ _).alloc (Nat.le_refl _) _).alloc (by simp) _
  have x0 := box_one w #[.int .i64 2, .int .i64 (k : Int), .int .i64 d.time, .slice da d.entry.length dc, .int .i64 d.segment, .int .i64 d.at', .int .u8 d.by'] 56 (.cells #[.int .i64 0, .int .i64 0, .int .i64 0, .int .i64 0, .slice none 0 0] 41)
  have z0 := box_last w (.cells #[.int .i64 2, .int .i64 (k : Int), .int .i64 d.time, .slice da d.entry.length dc, .int .i64 d.segment, .int .i64 d.at', .int .u8 d.by'] 56) #[.int .i64 0, .int .i64 0, .int .i64 0, .int .i64 0, .slice none 0 0] 41
  have HNO : ∀ (w1 : World) (x : Ans) (u0 u1 u2 u3 u4 : Value), Hid (Below w.heap.size w w1 → x.root = [] → RfWent τ N gp w (((((w1.setCell ⟨w.heap.size + 1, 0, none⟩ u0).setCell ⟨w.heap.size + 1, 1, none⟩ u1).setCell ⟨w.heap.size + 1, 2, none⟩ u2).setCell ⟨w.heap.size + 1, 3, none⟩ u3).setCell ⟨w.heap.size + 1, 4, none⟩ u4) (.agg #[.int .i64 x.err, .int .i64 x.shard, .int .i64 x.place, .int .i64 x.size, .slice none 0 0]) (f, x)) := fun w1 x u0 u1 u2 u3 u4 h1 h2 => rfwent_no hF hN h1 (by omega) h2 _ _ _ _ _
  obtain ⟨sa, sc, ba, bc, V, hB, hS⟩ := hF.open
  have U0 := upd_call (τ := τ) b0 tNo
  have hB0 := hB.upd U0 no_row
  have hS0 := hS.upd U0 no_row
  have K0 := keep_call (τ := τ) b0 hN tNo
  have hR0 : ext τ w.heap.size tNo (w.heap.size + 1) = tNo := ext_new (by omega)
  have hsl : f.shards.length ≤ 9223372036854775807 := by obtain ⟨vs, h1, -⟩ := hS.row; have := own_small h1; unfold maxLen at this; omega
  obtain ⟨g0, g1, -, -⟩ := box_two hB0.box
  obtain ⟨u0, u1, -, -, -, -, -⟩ := box_seven x0
  obtain ⟨sb, rfl, hNs, hsb, htb, hfz, hcs⟩ := (hS0.out k).cells rfl hk
  have q1 : ¬ (k : Int) < 0 := by omega
  have q2 : ¬ (f.shards.length : Int) ≤ (k : Int) := by omega
  have q1' : decide ((k : Int) < 0) = false := decide_eq_false q1
  have q2' : decide ((f.shards.length : Int) ≤ (k : Int)) = false := decide_eq_false q2
  have q3 : (0 : Int) ≤ k := by omega
  have q4 : (k : Int) < f.shards.length := by omega
  have k2 : _ = some (Value.int .i64 (f.shards.getD k shd0).state) := hcs 2 (by omega)
  rw [hst] at k2
  obtain ⟨i0, hi0, hz0, hz1, hz2⟩ := info_parts Tryz.info45c
  have hE0 := hS0.ent k hk
  obtain ⟨ea, ec, hVe⟩ := hE0.form
  have k3 : _ = some (V k).1 := hcs 3 (by omega)
  have k0 : _ = some (Value.int .i64 (f.shards.getD k shd0).from') := hcs 0 (by omega)
  have k1 : _ = some (Value.int .i64 (f.shards.getD k shd0).to') := hcs 1 (by omega)
  rw [hVe] at k3
  have hm32 := mth_length (f.shards.getD k shd0).entries
  have hmb := bytes_mth (f.shards.getD k shd0).entries
  obtain ⟨X, HX⟩ : ∃ X, Hid (f.shards.getD k shd0 = X) := ⟨_, rfl⟩
  have HRES : Hid ((⟨f.shards.set k { X with state := 2 }, f.book ++ [⟨(k : Int), X.from', X.to', (X.entries.length : Int), mth X.entries⟩]⟩, ⟨0, (k : Int), 0, (X.entries.length : Int), mth X.entries⟩) = freezeL f k) := by show _ = _; unfold freezeL; rw [HX.out]
  rw [HX.out] at hVe k3 k0 k1 hm32 hmb hfew hshort
  generalize freezeL f k = RES at *
  clear hF hB hS U0 hE0 hcs hst HNO
  go_enter Tryz.func18, Tryz.ntmps18
  go_wp2_with fail
  generalize (w.alloc (.cells #[.int .i64 2, .int .i64 (k : Int), .int .i64 d.time, .slice da d.entry.length dc, .int .i64 d.segment, .int .i64 d.at', .int .u8 d.by'] 56)).alloc (.cells #[.int .i64 0, .int .i64 0, .int .i64 0, .int .i64 0, .slice none 0 0] 41) = w0 at *
  go_quiet (fail)
  have c1 := below_drewN' (Below.refl w0.heap.size w0) nq
  obtain ⟨v0, v1, -, -, -, -, -⟩ := box_seven (box_kept x0 c1)
  obtain ⟨p0, p1, -, -⟩ := box_two (box_kept hB0.box c1)
  generalize w0.drewN nq = wQ at *
  clear u0 u1 g0 g1
  go_wp2_with fail
  go_quiet (fail)
  have c2 := c1.trans ((below_drewN' (Below.refl wQ.heap.size wQ) nq).mono c1.size)
  generalize wQ.drewN nq = wR at *
  have c3 : Below w0.heap.size w0 (wR.alloc (.cells #[.int .i64 0, .int .i64 0, .int .i64 1, .int .i64 2, .int .i64 3, .int .i64 3] 3)) := c2.alloc c2.size _
  obtain ⟨v0, v1, -, -, -, -, -⟩ := box_seven (box_kept x0 c3)
  have j2 := (c3.cell (p := ⟨sb, k * 7 + 2, none⟩) hsb).trans k2
  have six := cell_of_row _ _ 2 _ _ _ (box_new wR #[.int .i64 0, .int .i64 0, .int .i64 1, .int .i64 2, .int .i64 3, .int .i64 3] 3)
  have j2f := (World.frozen?_of_block (c3.block sb hsb)).trans (hfz (k * 7 + 2))
  have k2' := k2
  clear k2 p0 p1
  go_wp2_with fail
  have hN0 : N ≤ w0.heap.size := Nat.le_trans hN b0.size
  have hS1 := hS0.upd (upd_same c3) no_row
  have hB1 := hB0.upd (upd_same c3) no_row
  have K1 := K0.trans (keep_upd (upd_same c3) hN0 no_row)
  have hN1 : N ≤ (wR.alloc (.cells #[.int .i64 0, .int .i64 0, .int .i64 1, .int .i64 2, .int .i64 3, .int .i64 3] 3)).heap.size := Nat.le_trans hN0 c3.size
  have hEnt := hS1.ent k hk
  have hRoo := hS1.root k hk
  have hSeg := hS1.seg k hk
  rw [HX.out] at hEnt hRoo hSeg
  have hS2 := hS1.turn (i := 2) (u := .int .i64 2) (s' := { X with state := 2 }) (v' := V k) rfl hk (by omega) (by rw [HX.out]; rfl) hEnt hRoo hSeg
  have hB2 := hB1.turn (o := k * 7 + 2) (u := .int .i64 2) htb
  have K2 := K1.trans (keep_turn (o := k * 7 + 2) (u := .int .i64 2) hN1 hNs htb)
  have hnx : w.heap.size ≠ sb := fun e => by have h2 : ext τ w.heap.size tNo sb = tNo := ext_new (Nat.le_of_eq e); rw [htb] at h2; simp [tSh, tNo] at h2
  have hnz : w.heap.size + 1 ≠ sb := fun e => by rw [e, htb] at hR0; simp [tSh, tNo] at hR0
  have x2 := box_set_far (v := .int .i64 2) (o := k * 7 + 2) (box_kept x0 c3) hnx
  have z2 := box_set_far (v := .int .i64 2) (o := k * 7 + 2) (box_kept z0 c3) hnz
  have hE2 := hS2.ent k (by rw [List.length_set]; exact hk)
  rw [getD_set_same hk, if_pos rfl] at hE2
  obtain ⟨sb', e', -, hsb2, -, -, hcs2⟩ := (hS2.out k).cells (by rw [List.length_set]) hk
  cases e'
  rw [getD_set_same hk, if_pos rfl] at hcs2
  have a0 : World.cell? _ ⟨sb, k * 7, none⟩ = some (Value.int .i64 X.from') := hcs2 0 (by omega)
  have a1 : _ = some (Value.int .i64 X.to') := hcs2 1 (by omega)
  have a3 : _ = some (V k).1 := hcs2 3 (by omega)
  rw [hVe] at a3 hE2
  have hL2 := hE2.lists rfl
  rename (∀ (a : Act) (w : World), Code.wp _ _ _ a w → _) => hKK
  exact refFreezeMid hKK (stepEnd_in (stepEnd_body _ _ _ _ _ _)) hN hB2 hS2 K2 hbl hfew x2 z2 hsb2 a0 a1 a3 rfl hL2 hshort (ext_new (Nat.le_refl _)) hR0 HRES

end Go.Proofs.YtkjlchfmplcobaeGreatDoor
