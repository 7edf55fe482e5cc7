/- ShaMath, ShaRound, ShaKept, as one text. -/
import Derived.WalkKit
import Derived.Deep.AppendLies
/- The plain mathematics of SHA-256 over words of 32 bits: what the walks of package sha come to. Nothing of the program is in it. -/
namespace Go.Proofs.YtkjlchfmplcobadDoor
open Go.RowKit

/-- A word as the walk writes it. -/
def U (x : BitVec 32) : Int := (x.toNat : Int)
theorem U_lo (x : BitVec 32) : 0 ≤ U x := Int.natCast_nonneg _
theorem U_hi (x : BitVec 32) : U x < 4294967296 := by unfold U; have := x.isLt; omega
theorem U_ofInt (x : BitVec 32) : BitVec.ofInt 32 (U x) = x := by unfold U; rw [BitVec.ofInt_natCast, BitVec.ofNat_toNat, BitVec.setWidth_eq]
theorem wrap_nat (r : BitVec 32) : IntKind.u32.wrap (r.toNat : Int) = U r := by
  unfold U; rw [IntKind.wrap_u32']; have := r.isLt; omega
theorem U_or (x y : BitVec 32) : bits .or .u32 (U x) (U y) = U (x ||| y) := by
  show IntKind.u32.wrap ((BitVec.ofInt 32 (U x) ||| BitVec.ofInt 32 (U y)).toNat : Int) = _
  rw [U_ofInt, U_ofInt, wrap_nat]
theorem U_and (x y : BitVec 32) : bits .and .u32 (U x) (U y) = U (x &&& y) := by
  show IntKind.u32.wrap ((BitVec.ofInt 32 (U x) &&& BitVec.ofInt 32 (U y)).toNat : Int) = _
  rw [U_ofInt, U_ofInt, wrap_nat]
theorem U_xor (x y : BitVec 32) : bits .xor .u32 (U x) (U y) = U (x ^^^ y) := by
  show IntKind.u32.wrap ((BitVec.ofInt 32 (U x) ^^^ BitVec.ofInt 32 (U y)).toNat : Int) = _
  rw [U_ofInt, U_ofInt, wrap_nat]
theorem U_andNot (x y : BitVec 32) : bits .andNot .u32 (U x) (U y) = U (x &&& ~~~y) := by
  show IntKind.u32.wrap ((BitVec.ofInt 32 (U x) &&& ~~~BitVec.ofInt 32 (U y)).toNat : Int) = _
  rw [U_ofInt, U_ofInt, wrap_nat]
theorem U_add (x y : BitVec 32) : (U x + U y) % 4294967296 = U (x + y) := by
  unfold U; rw [BitVec.toNat_add]; omega
theorem U_wadd (x y : BitVec 32) : IntKind.u32.wrap (U x + U y) = U (x + y) := by rw [IntKind.wrap_u32', U_add]
theorem U_shl (x : BitVec 32) (n : Nat) : U x * 2 ^ n % 4294967296 = U (x <<< n) := by
  unfold U; rw [BitVec.toNat_shiftLeft, Nat.shiftLeft_eq]; simp
theorem U_shr (x : BitVec 32) (n : Nat) : U x / 2 ^ n = U (x >>> n) := by
  unfold U; rw [BitVec.toNat_ushiftRight, Nat.shiftRight_eq_div_pow]; simp
/-- Turned right by n bits. -/
def rotr (x : BitVec 32) (n : Nat) : BitVec 32 := x <<< (32 - n) ||| x >>> n
def ps0 (x : BitVec 32) : BitVec 32 := rotr x 7 ^^^ rotr x 18 ^^^ x >>> 3
def ps1 (x : BitVec 32) : BitVec 32 := rotr x 17 ^^^ rotr x 19 ^^^ x >>> 10
def bs0 (x : BitVec 32) : BitVec 32 := rotr x 2 ^^^ rotr x 13 ^^^ rotr x 22
def bs1 (x : BitVec 32) : BitVec 32 := rotr x 6 ^^^ rotr x 11 ^^^ rotr x 25

/-- The word of four bytes, the high one first. -/
def word (z0 z1 z2 z3 : Int) : BitVec 32 := BitVec.ofInt 32 (z0 * 16777216 + z1 * 65536 + z2 * 256 + z3)
theorem word_spelt (z0 z1 z2 z3 : Int) (a0 : 0 ≤ z0) (b0 : z0 < 256) (a1 : 0 ≤ z1) (b1 : z1 < 256) (a2 : 0 ≤ z2) (b2 : z2 < 256) (a3 : 0 ≤ z3) (b3 : z3 < 256) :
    bits BinOp.or IntKind.u32 (bits BinOp.or IntKind.u32 (bits BinOp.or IntKind.u32 (IntKind.u32.wrap (IntKind.u32.wrap z0 * 16777216)) (IntKind.u32.wrap (IntKind.u32.wrap z1 * 65536))) (IntKind.u32.wrap (IntKind.u32.wrap z2 * 256))) (IntKind.u32.wrap z3) = U (word z0 z1 z2 z3) := by
  obtain ⟨n0, rfl⟩ := Int.eq_ofNat_of_zero_le a0
  obtain ⟨n1, rfl⟩ := Int.eq_ofNat_of_zero_le a1
  obtain ⟨n2, rfl⟩ := Int.eq_ofNat_of_zero_le a2
  obtain ⟨n3, rfl⟩ := Int.eq_ofNat_of_zero_le a3
  have key : ∀ (m : Nat) (k : Nat) (h : m < 2 ^ k) (n : Nat), n * 2 ^ k ||| m = n * 2 ^ k + m := fun m k h n => by
    rw [← Nat.shiftLeft_eq, Nat.shiftLeft_add_eq_or_of_lt h]
  have e0 : IntKind.u32.wrap (IntKind.u32.wrap (n0 : Int) * 16777216) = U (BitVec.ofNat 32 (n0 * 16777216)) := by
    unfold U; rw [IntKind.wrap_u32', IntKind.wrap_u32', BitVec.toNat_ofNat]; omega
  have e1 : IntKind.u32.wrap (IntKind.u32.wrap (n1 : Int) * 65536) = U (BitVec.ofNat 32 (n1 * 65536)) := by
    unfold U; rw [IntKind.wrap_u32', IntKind.wrap_u32', BitVec.toNat_ofNat]; omega
  have e2 : IntKind.u32.wrap (IntKind.u32.wrap (n2 : Int) * 256) = U (BitVec.ofNat 32 (n2 * 256)) := by
    unfold U; rw [IntKind.wrap_u32', IntKind.wrap_u32', BitVec.toNat_ofNat]; omega
  have e3 : IntKind.u32.wrap (n3 : Int) = U (BitVec.ofNat 32 n3) := by
    unfold U; rw [IntKind.wrap_u32', BitVec.toNat_ofNat]; omega
  rw [e0, e1, e2, e3, U_or, U_or, U_or]
  congr 1
  apply BitVec.eq_of_toNat_eq
  unfold word
  have e4 : ((n0 : Int) * 16777216 + n1 * 65536 + n2 * 256 + n3) = ((n0 * 16777216 + n1 * 65536 + n2 * 256 + n3 : Nat) : Int) := by omega
  rw [e4, BitVec.ofInt_natCast]
  simp only [BitVec.toNat_or, BitVec.toNat_ofNat]
  rw [Nat.mod_eq_of_lt (show n0 * 16777216 < 2 ^ 32 by omega), Nat.mod_eq_of_lt (show n1 * 65536 < 2 ^ 32 by omega), Nat.mod_eq_of_lt (show n2 * 256 < 2 ^ 32 by omega), Nat.mod_eq_of_lt (show n3 < 2 ^ 32 by omega), Nat.mod_eq_of_lt (show n0 * 16777216 + n1 * 65536 + n2 * 256 + n3 < 2 ^ 32 by omega)]
  have k1 := key (n1 * 65536) 24 (by omega) n0
  have k2 := key (n2 * 256) 16 (by omega) (n0 * 256 + n1)
  have k3 := key n3 8 (by omega) (n0 * 65536 + n1 * 256 + n2)
  rw [show n0 * 16777216 = n0 * 2 ^ 24 by omega, k1, show n0 * 2 ^ 24 + n1 * 65536 = (n0 * 256 + n1) * 2 ^ 16 by omega, k2, show (n0 * 256 + n1) * 2 ^ 16 + n2 * 256 = (n0 * 65536 + n1 * 256 + n2) * 2 ^ 8 by omega, k3]

/-- The words of the first n rounds: of the block of bytes bs, and what is made of them. -/
def nextW (bs : List Int) (l : List (BitVec 32)) (n : Nat) : BitVec 32 :=
  if n < 16 then word (bs.getD (4 * n) 0) (bs.getD (4 * n + 1) 0) (bs.getD (4 * n + 2) 0) (bs.getD (4 * n + 3) 0) else
    ps1 (l.getD (n - 2) 0) + l.getD (n - 7) 0 + ps0 (l.getD (n - 15) 0) + l.getD (n - 16) 0
def schedTo (bs : List Int) : Nat → List (BitVec 32)
  | 0 => []
  | n + 1 => schedTo bs n ++ [nextW bs (schedTo bs n) n]
theorem schedTo_length (bs : List Int) (n : Nat) : (schedTo bs n).length = n := by
  induction n with
  | zero => rfl
  | succ n ih => simp [schedTo, ih]
theorem schedTo_last (bs : List Int) (n : Nat) : (schedTo bs (n + 1)).getD n 0 = nextW bs (schedTo bs n) n := by
  simp [schedTo, schedTo_length]
theorem schedTo_other (bs : List Int) (n j : Nat) (h : j ≠ n) : (schedTo bs (n + 1)).getD j 0 = (schedTo bs n).getD j 0 := by
  have hl := schedTo_length bs n
  rw [schedTo]
  simp only [List.getD_eq_getElem?_getD, List.getElem?_append]
  split
  · rfl
  · rw [List.getElem?_eq_none (by simp; omega), List.getElem?_eq_none (by omega)]

end Go.Proofs.YtkjlchfmplcobadDoor

/- The plain mathematics of SHA-256: the rounds over a block. -/
namespace Go.Proofs.YtkjlchfmplcobadDoor
open Go.RowKit

/-- The eight words. -/
structure St where
  a : BitVec 32
  b : BitVec 32
  c : BitVec 32
  d : BitVec 32
  e : BitVec 32
  f : BitVec 32
  g : BitVec 32
  h : BitVec 32
/-- The words of the rounds. -/
def kw : List (BitVec 32) := [1116352408, 1899447441, 3049323471, 3921009573, 961987163, 1508970993, 2453635748, 2870763221, 3624381080, 310598401, 607225278, 1426881987, 1925078388, 2162078206, 2614888103, 3248222580, 3835390401, 4022224774, 264347078, 604807628, 770255983, 1249150122, 1555081692, 1996064986, 2554220882, 2821834349, 2952996808, 3210313671, 3336571891, 3584528711, 113926993, 338241895, 666307205, 773529912, 1294757372, 1396182291, 1695183700, 1986661051, 2177026350, 2456956037, 2730485921, 2820302411, 3259730800, 3345764771, 3516065817, 3600352804, 4094571909, 275423344, 430227734, 506948616, 659060556, 883997877, 958139571, 1322822218, 1537002063, 1747873779, 1955562222, 2024104815, 2227730452, 2361852424, 2428436474, 2756734187, 3204031479, 3329325298]
/-- One round, with its word and the block's. -/
def St.round (s : St) (k x : BitVec 32) : St :=
  let t1 := s.h + bs1 s.e + ((s.e &&& s.f) ^^^ (~~~s.e &&& s.g)) + k + x
  let t2 := bs0 s.a + ((s.a &&& s.b) ^^^ (s.a &&& s.c) ^^^ (s.b &&& s.c))
  ⟨t1 + t2, s.a, s.b, s.c, s.d + t1, s.e, s.f, s.g⟩
/-- The first n rounds, with the block's words x. -/
def St.rounds (x : List (BitVec 32)) (s : St) : Nat → St
  | 0 => s
  | n + 1 => (St.rounds x s n).round (kw.getD n 0) (x.getD n 0)
def St.add (s t : St) : St := ⟨s.a + t.a, s.b + t.b, s.c + t.c, s.d + t.d, s.e + t.e, s.f + t.f, s.g + t.g, s.h + t.h⟩
/-- The eight words, once a block of bytes has come to them. -/
def St.mix (s : St) (bs : List Int) : St := s.add (s.rounds (schedTo bs 64) 64)


theorem U_add3 (x y z : BitVec 32) : (U x + U y + U z) % 4294967296 = U (x + y + z) := by
  unfold U; rw [BitVec.toNat_add, BitVec.toNat_add]; omega
theorem U_add4 (x y z t : BitVec 32) : (U x + U y + U z + U t) % 4294967296 = U (x + y + z + t) := by
  unfold U; rw [BitVec.toNat_add, BitVec.toNat_add, BitVec.toNat_add]; omega
theorem U_flip (x : BitVec 32) : bits .xor .u32 (if IntKind.u32.signed = true then -1 else IntKind.u32.max) (U x) = U (~~~x) := by
  show IntKind.u32.wrap ((BitVec.ofInt 32 4294967295 ^^^ BitVec.ofInt 32 (U x)).toNat : Int) = _
  have e : BitVec.ofInt 32 4294967295 = BitVec.allOnes 32 := by decide
  rw [U_ofInt, wrap_nat, e, BitVec.allOnes_xor]

end Go.Proofs.YtkjlchfmplcobadDoor

/- append onto a slice of the call's own: what it held is still there in the elder row. Nothing of the program is in it. -/
namespace Go.Proofs.YtkjlchfmplcobadDoor
open Go.RowKit
variable {P : Program} (w : World)

theorem run_append_kept (base : Nat) (t ty e : TypeId) (i : TypeInfo) (z : Value) (bytes : Nat) (ht : P.underlying t = some (.slice e)) (hi : P.info? e = some i) (hz : i.zero = some z)
    (hsize : i.size = 1) (hby : i.bytes = bytes) (hzs : z.cells.size = 1)
    (v : Value) (n : Nat) (xs : List Value) (hown : w.ownsRow base e 1 v n xs)
    (a : Addr) (m c : Nat) (news : List Value) (hl : news.length = m * 1) (hnews : ∀ j u, news[j]? = some u → w.cell? (a.add j) = some u) (h1 : ∀ u ∈ news, u.oneCell' = true)
    (h63 : n + m ≤ maxLen) (hbytes : (n + m) * bytes ≤ 140737488355328) (hbase : base ≤ w.heap.size) :
    ∃ v' w', (Builtin.append_ #[t, t] ty #[v, .slice (some a) m c]).run P w = .ok v' w' ∧ w'.ownsRow base e 1 v' (n + m) (xs ++ news) ∧ w.grownBy w' v.ownBlock ∧
      ∀ g j, v.ownBlock = some g → j < n → w'.cell? ⟨g, j, none⟩ = w.cell? ⟨g, j, none⟩ := by
  obtain ⟨v', w', hr, r1, r2, -⟩ := run_append_own (P := P) w base t ty e i z 1 bytes ht hi hz hsize hby hzs (by decide) v n xs hown a m c news hl hnews h1 h63 hbytes hbase
  refine ⟨v', w', hr, r1, r2, fun g j hg hj => ?_⟩
  have hl' : news.length = m * i.size := by rw [hsize]; exact hl
  rcases hown.2 with ⟨rfl, rfl⟩ | ⟨g', cap, cur, rfl, hbg, hgg, hnc, hcm, hcs, htake⟩
  · cases hg
  · have hgg' : g' = g := by simpa [Value.ownBlock] using hg
    subst hgg'
    by_cases hroom : n + m ≤ cap
    · have hr2 := run_append_room (P := P) w t ty e i ht hi g' n cap cur hgg a m c news hl' hnews h1 hroom (by rw [hsize, Nat.mul_one, hcs, hl]; omega)
      have he := hr.symm.trans hr2
      simp only [Result.ok.injEq] at he
      obtain ⟨-, rfl⟩ := he
      rw [cell_of_row _ g' j _ e (0, 0) (setRow_heap w g' cur _ e _ hgg), cell_of_row w g' j cur e (0, 0) hgg, hsize, Nat.mul_one]
      have hjl : j < cur.toList.length := by rw [Array.length_toList, hcs]; omega
      simp only [List.getElem?_toArray]
      rw [List.append_assoc, List.getElem?_append_left (by rw [List.length_take]; omega), List.getElem?_take, if_pos hj, Array.getElem?_toList]
    · have holds : ∀ j u, xs[j]? = some u → w.cell? ((⟨g', 0, none⟩ : Addr).add j) = some u := hown.cells (g := g') rfl
      have hr2 := run_append_grow (P := P) w t ty e i z ht hi hz ⟨g', 0, none⟩ n cap xs (by rw [hsize]; exact hown.1) holds a m c news hl' hnews (by omega) (by simp only [maxLen] at h63; omega) (growslice_fits (by omega) (by rw [hby]; exact hbytes))
      have he := hr.symm.trans hr2
      simp only [Result.ok.injEq] at he
      obtain ⟨-, rfl⟩ := he
      have hlt : g' < w.heap.size := by
        rcases Nat.lt_or_ge g' w.heap.size with h' | h'
        · exact h'
        · rw [Array.getElem?_eq_none h'] at hgg; cases hgg
      exact World.cell?_alloc_lt w.drew _ ⟨g', j, none⟩ hlt

/-- At a step of a region that draws its order. -/
theorem step_append_kept {ops : Array Oper} {o : Oper} {a : Act} {K : Act → World → Prop} {Q : Exit → Act → World → Prop} {E : Prop} (hgd : o.guard = none) (s x : Operand) (t : TypeId)
    (ho : o.op = .call { callee := .builtin .append, args := #[s, x], argTypes := #[t, t] })
    (base : Nat) (e : TypeId) (i : TypeInfo) (z : Value) (bytes : Nat) (ht : P.underlying t = some (.slice e)) (hi : P.info? e = some i) (hz : i.zero = some z)
    (hsize : i.size = 1) (hby : i.bytes = bytes) (hzs : z.cells.size = 1)
    (v : Value) (n : Nat) (xs : List Value) (hs : a.eval s = v) (hown : w.ownsRow base e 1 v n xs)
    (ad : Addr) (m c : Nat) (news : List Value) (hx : a.eval x = .slice (some ad) m c) (hl : news.length = m * 1) (hnews : ∀ j u, news[j]? = some u → w.cell? (ad.add j) = some u) (h1 : ∀ u ∈ news, u.oneCell' = true)
    (h63 : n + m ≤ maxLen) (hbytes : (n + m) * bytes ≤ 140737488355328) (hbase : base ≤ w.heap.size)
    (h : ∀ v' w', w'.ownsRow base e 1 v' (n + m) (xs ++ news) → w.grownBy w' v.ownBlock → (∀ g j, v.ownBlock = some g → j < n → w'.cell? ⟨g, j, none⟩ = w.cell? ⟨g, j, none⟩) → K (a.put o.dst v') w') :
    if Region.wanted o (yielded ops a.tmps) = true then Oper.wp P o a w K Q else E := by
  have hw : Region.wanted o (yielded ops a.tmps) = true := by simp [Region.wanted, hgd]
  rw [if_pos hw]
  obtain ⟨v', w', hrun, r1, r2, r3⟩ := run_append_kept (P := P) w base t o.type e i z bytes ht hi hz hsize hby hzs v n xs hown ad m c news hl hnews h1 h63 hbytes hbase
  unfold Oper.wp
  simp [execOp, ho, resolve, invoke, builtin, hs, hx, hrun, Result.andThen]
  exact h v' w' r1 r2 r3

end Go.Proofs.YtkjlchfmplcobadDoor
