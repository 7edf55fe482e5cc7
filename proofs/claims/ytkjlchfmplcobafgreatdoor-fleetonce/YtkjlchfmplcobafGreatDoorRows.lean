/-
  NARROWER THAN 'FOR EVERY INPUT', by the rows' own cells (each row's printed sentence says how): FleetShown: laid · FleetKeeps: laid · FleetOnce: laid · FleetBook: laid · FleetRefused: laid · FleetFalse: laid.
  DERIVED. THE GIVEN ROWS OF THIS SEAT. 6 by the template 'for every input the law returns true; each argument reads behind the call as it read before'; 0 by the template 'total and deterministic' (their statements: YtkjlchfmplcobafGreatDoorTotals.lean).
  GIVEN WITH THE SEED: the statements are not yours to turn. If you find one false, say at which input.
  Laid BY PROGRAM, IN A SANDBOX (cutbox-rows.mjs): the forced cells as the released guide's own fill.sh prints them over the translation 90172a4e1273f5f6… (all of the seat's roots in one cut). By AI agents, Wed Nov 11 2026. No macro, syntax, notation, axiom, sorry.
-/
import Derived.Test.YtkjlchfmplcobafGreatDoorChecked
import GoSem.Claim
import GoSem.ClaimJoined
import GoSem.ClaimMapViews
import Derived.JoinedTies
import Derived.KernelRfl
namespace Go.Proofs.YtkjlchfmplcobafGreatDoor
/- THE CELL 'sum', in the pinned program and in every row, IS THE sha256 OF THE DUMP (.gsa) THAT YtkjlchfmplcobafGreatDoorProg.lean LOADS. Nothing in Lean hashes anything: it is a label: what it is worth is what the hold of that sum in a sandbox is worth. -/
noncomputable def Tryz.pinned : Pinned := { name := "ytkjlchfmplcobafgreatdoor", sum := "90172a4e1273f5f62751d25c651d5b39494f6a0e308f82998bcd7aadd3c72b2b", checked := Tryz.checked }
namespace Rows
def none {H : Type} : Left H := { results := [], args := [] }

/- WHAT THE LISTED PACKAGE-LEVEL VARIABLES READ AS WHEN THE CALL BEGINS. Each datum BY PROGRAM (the guide's laid-datum.mjs) off the statement by which the dump's own 'gosem.cut.vars' lays the variable. In a bare row this is a premise. The card (YtkjlchfmplcobafGreatDoorCards.lean) ties it to the program's text. -/
def laid_yearbook_sha_roundWords {H : Type} : DataW H := .agg [.lit (.int .u32 1116352408), .lit (.int .u32 1899447441), .lit (.int .u32 3049323471), .lit (.int .u32 3921009573), .lit (.int .u32 961987163), .lit (.int .u32 1508970993), .lit (.int .u32 2453635748), .lit (.int .u32 2870763221), .lit (.int .u32 3624381080), .lit (.int .u32 310598401), .lit (.int .u32 607225278), .lit (.int .u32 1426881987), .lit (.int .u32 1925078388), .lit (.int .u32 2162078206), .lit (.int .u32 2614888103), .lit (.int .u32 3248222580), .lit (.int .u32 3835390401), .lit (.int .u32 4022224774), .lit (.int .u32 264347078), .lit (.int .u32 604807628), .lit (.int .u32 770255983), .lit (.int .u32 1249150122), .lit (.int .u32 1555081692), .lit (.int .u32 1996064986), .lit (.int .u32 2554220882), .lit (.int .u32 2821834349), .lit (.int .u32 2952996808), .lit (.int .u32 3210313671), .lit (.int .u32 3336571891), .lit (.int .u32 3584528711), .lit (.int .u32 113926993), .lit (.int .u32 338241895), .lit (.int .u32 666307205), .lit (.int .u32 773529912), .lit (.int .u32 1294757372), .lit (.int .u32 1396182291), .lit (.int .u32 1695183700), .lit (.int .u32 1986661051), .lit (.int .u32 2177026350), .lit (.int .u32 2456956037), .lit (.int .u32 2730485921), .lit (.int .u32 2820302411), .lit (.int .u32 3259730800), .lit (.int .u32 3345764771), .lit (.int .u32 3516065817), .lit (.int .u32 3600352804), .lit (.int .u32 4094571909), .lit (.int .u32 275423344), .lit (.int .u32 430227734), .lit (.int .u32 506948616), .lit (.int .u32 659060556), .lit (.int .u32 883997877), .lit (.int .u32 958139571), .lit (.int .u32 1322822218), .lit (.int .u32 1537002063), .lit (.int .u32 1747873779), .lit (.int .u32 1955562222), .lit (.int .u32 2024104815), .lit (.int .u32 2227730452), .lit (.int .u32 2361852424), .lit (.int .u32 2428436474), .lit (.int .u32 2756734187), .lit (.int .u32 3204031479), .lit (.int .u32 3329325298)]

/-- 'yearlaw7.FleetShown': WHATEVER THE INPUT: true; the input reads as it did. -/
def fleetShownSpec : ChangeSpec := { name := "fleetShown", fn := fun _ => fun
  | [d1, d2] => { results := [.lit (.bool true)], args := [d1, d2] }
  | _ => none }
def fleetShownRow : OpenClaim := { program := "ytkjlchfmplcobafgreatdoor", sum := "90172a4e1273f5f62751d25c651d5b39494f6a0e308f82998bcd7aadd3c72b2b", func := "yearbook/yearlaw7.FleetShown", spec := "fleetShown", unfollowed := true, recurses := true, named := ["yearbook/sha.roundWords"], plainKeys := false, apart := false, laid := [("yearbook/sha.roundWords", laid_yearbook_sha_roundWords)] }
def FleetShownSaid : Prop := fleetShownRow.holds Tryz.pinned (OpenSpec.ofChange fleetShownSpec)

/-- ITS FALSE NEIGHBOUR: 'it returns false'. Refute it at one input. -/
def fleetShownWrong : ChangeSpec := { name := "fleetShown", fn := fun _ => fun
  | [d1, d2] => { results := [.lit (.bool false)], args := [d1, d2] }
  | _ => none }
def FleetShownWrongFalsely : Prop := fleetShownRow.holds Tryz.pinned (OpenSpec.ofChange fleetShownWrong)

/-- 'yearlaw7.FleetKeeps': WHATEVER THE INPUT: true; the input reads as it did. -/
def fleetKeepsSpec : ChangeSpec := { name := "fleetKeeps", fn := fun _ => fun
  | [d1, d2] => { results := [.lit (.bool true)], args := [d1, d2] }
  | _ => none }
def fleetKeepsRow : OpenClaim := { program := "ytkjlchfmplcobafgreatdoor", sum := "90172a4e1273f5f62751d25c651d5b39494f6a0e308f82998bcd7aadd3c72b2b", func := "yearbook/yearlaw7.FleetKeeps", spec := "fleetKeeps", unfollowed := true, recurses := true, named := ["yearbook/sha.roundWords"], plainKeys := false, apart := false, laid := [("yearbook/sha.roundWords", laid_yearbook_sha_roundWords)] }
def FleetKeepsSaid : Prop := fleetKeepsRow.holds Tryz.pinned (OpenSpec.ofChange fleetKeepsSpec)

/-- ITS FALSE NEIGHBOUR: 'it returns false'. Refute it at one input. -/
def fleetKeepsWrong : ChangeSpec := { name := "fleetKeeps", fn := fun _ => fun
  | [d1, d2] => { results := [.lit (.bool false)], args := [d1, d2] }
  | _ => none }
def FleetKeepsWrongFalsely : Prop := fleetKeepsRow.holds Tryz.pinned (OpenSpec.ofChange fleetKeepsWrong)

/-- 'yearlaw7.FleetOnce': WHATEVER THE INPUT: true; the input reads as it did. -/
def fleetOnceSpec : ChangeSpec := { name := "fleetOnce", fn := fun _ => fun
  | [d1, d2] => { results := [.lit (.bool true)], args := [d1, d2] }
  | _ => none }
def fleetOnceRow : OpenClaim := { program := "ytkjlchfmplcobafgreatdoor", sum := "90172a4e1273f5f62751d25c651d5b39494f6a0e308f82998bcd7aadd3c72b2b", func := "yearbook/yearlaw7.FleetOnce", spec := "fleetOnce", unfollowed := true, recurses := true, named := ["yearbook/sha.roundWords"], plainKeys := false, apart := false, laid := [("yearbook/sha.roundWords", laid_yearbook_sha_roundWords)] }
def FleetOnceSaid : Prop := fleetOnceRow.holds Tryz.pinned (OpenSpec.ofChange fleetOnceSpec)

/-- ITS FALSE NEIGHBOUR: 'it returns false'. Refute it at one input. -/
def fleetOnceWrong : ChangeSpec := { name := "fleetOnce", fn := fun _ => fun
  | [d1, d2] => { results := [.lit (.bool false)], args := [d1, d2] }
  | _ => none }
def FleetOnceWrongFalsely : Prop := fleetOnceRow.holds Tryz.pinned (OpenSpec.ofChange fleetOnceWrong)

/-- 'yearlaw7.FleetBook': WHATEVER THE INPUT: true; the input reads as it did. -/
def fleetBookSpec : ChangeSpec := { name := "fleetBook", fn := fun _ => fun
  | [d1, d2, d3] => { results := [.lit (.bool true)], args := [d1, d2, d3] }
  | _ => none }
def fleetBookRow : OpenClaim := { program := "ytkjlchfmplcobafgreatdoor", sum := "90172a4e1273f5f62751d25c651d5b39494f6a0e308f82998bcd7aadd3c72b2b", func := "yearbook/yearlaw7.FleetBook", spec := "fleetBook", unfollowed := true, recurses := true, named := ["yearbook/sha.roundWords"], plainKeys := false, apart := false, laid := [("yearbook/sha.roundWords", laid_yearbook_sha_roundWords)] }
def FleetBookSaid : Prop := fleetBookRow.holds Tryz.pinned (OpenSpec.ofChange fleetBookSpec)

/-- ITS FALSE NEIGHBOUR: 'it returns false'. Refute it at one input. -/
def fleetBookWrong : ChangeSpec := { name := "fleetBook", fn := fun _ => fun
  | [d1, d2, d3] => { results := [.lit (.bool false)], args := [d1, d2, d3] }
  | _ => none }
def FleetBookWrongFalsely : Prop := fleetBookRow.holds Tryz.pinned (OpenSpec.ofChange fleetBookWrong)

/-- 'yearlaw7.FleetRefused': WHATEVER THE INPUT: true; the input reads as it did. -/
def fleetRefusedSpec : ChangeSpec := { name := "fleetRefused", fn := fun _ => fun
  | [d1, d2] => { results := [.lit (.bool true)], args := [d1, d2] }
  | _ => none }
def fleetRefusedRow : OpenClaim := { program := "ytkjlchfmplcobafgreatdoor", sum := "90172a4e1273f5f62751d25c651d5b39494f6a0e308f82998bcd7aadd3c72b2b", func := "yearbook/yearlaw7.FleetRefused", spec := "fleetRefused", unfollowed := true, recurses := true, named := ["yearbook/sha.roundWords"], plainKeys := false, apart := false, laid := [("yearbook/sha.roundWords", laid_yearbook_sha_roundWords)] }
def FleetRefusedSaid : Prop := fleetRefusedRow.holds Tryz.pinned (OpenSpec.ofChange fleetRefusedSpec)

/-- ITS FALSE NEIGHBOUR: 'it returns false'. Refute it at one input. -/
def fleetRefusedWrong : ChangeSpec := { name := "fleetRefused", fn := fun _ => fun
  | [d1, d2] => { results := [.lit (.bool false)], args := [d1, d2] }
  | _ => none }
def FleetRefusedWrongFalsely : Prop := fleetRefusedRow.holds Tryz.pinned (OpenSpec.ofChange fleetRefusedWrong)

/-- 'yearlaw7.FleetFalse': WHATEVER THE INPUT: true; the input reads as it did. -/
def fleetFalseSpec : ChangeSpec := { name := "fleetFalse", fn := fun _ => fun
  | [d1, d2, d3] => { results := [.lit (.bool true)], args := [d1, d2, d3] }
  | _ => none }
def fleetFalseRow : OpenClaim := { program := "ytkjlchfmplcobafgreatdoor", sum := "90172a4e1273f5f62751d25c651d5b39494f6a0e308f82998bcd7aadd3c72b2b", func := "yearbook/yearlaw7.FleetFalse", spec := "fleetFalse", unfollowed := true, recurses := true, named := ["yearbook/sha.roundWords"], plainKeys := false, apart := false, laid := [("yearbook/sha.roundWords", laid_yearbook_sha_roundWords)] }
def FleetFalseSaid : Prop := fleetFalseRow.holds Tryz.pinned (OpenSpec.ofChange fleetFalseSpec)

/-- ITS FALSE NEIGHBOUR: 'it returns false'. Refute it at one input. -/
def fleetFalseWrong : ChangeSpec := { name := "fleetFalse", fn := fun _ => fun
  | [d1, d2, d3] => { results := [.lit (.bool false)], args := [d1, d2, d3] }
  | _ => none }
def FleetFalseWrongFalsely : Prop := fleetFalseRow.holds Tryz.pinned (OpenSpec.ofChange fleetFalseWrong)

/- THE SECOND FORM. 'bulk': how many values and letters a reading holds, each counted each time it is reached (what is shared counts as often as it is met; a slice's spare places count too). A statement '..UptoSaid' is the law's where the arguments, and the package variables that the reading takes, are together of bulk at most 1048576: NARROWER than '..Said'. Prove '..Said' where nothing that the law and all that it calls make is longer than what came in: it says more and counts as full. Else prove '..UptoSaid'. A law counts once. -/
mutual
def uptoBulk {H : Type} : DataW H → Nat
  | .lit (.string bytes) => bytes.length + 1
  | .lit _ => 1
  | .nil => 1
  | .ptr d => uptoBulk d + 1
  | .slice elems spare => uptoBulkAll elems + uptoBulkAll spare + 1
  | .agg parts => uptoBulkAll parts + 1
  | .iface _ d => uptoBulk d + 1
  | .map entries => uptoBulkEntries entries + 1
  | .held _ => 1
def uptoBulkAll {H : Type} : List (DataW H) → Nat
  | [] => 0
  | d :: r => uptoBulk d + uptoBulkAll r
def uptoBulkEntries {H : Type} : List (Lit × DataW H) → Nat
  | [] => 0
  | x :: r => uptoBulkEntry x + uptoBulkEntries r
def uptoBulkEntry {H : Type} : Lit × DataW H → Nat
  | (.string bytes, d) => bytes.length + uptoBulk d + 1
  | (_, d) => uptoBulk d + 1
 end
def uptoSmall : (H : Type) → List (DataW H) → Bool := fun _ ds => decide (uptoBulkAll ds ≤ 1048576)
def OpenSpec.upto (s : _root_.Go.ChangeSpec) : _root_.Go.OpenSpec := { _root_.Go.OpenSpec.ofChange s with cond := some uptoSmall }

/-- 'yearlaw7.FleetShown', WHERE WHAT IT READS IS OF BULK AT MOST 1048576: true; the input reads as it did. -/
def fleetShownUptoRow : OpenClaim := { program := "ytkjlchfmplcobafgreatdoor", sum := "90172a4e1273f5f62751d25c651d5b39494f6a0e308f82998bcd7aadd3c72b2b", func := "yearbook/yearlaw7.FleetShown", spec := "fleetShown", unfollowed := true, recurses := true, named := ["yearbook/sha.roundWords"], plainKeys := false, apart := false, laid := [("yearbook/sha.roundWords", laid_yearbook_sha_roundWords)], narrowed := true }
def FleetShownUptoSaid : Prop := fleetShownUptoRow.holds Tryz.pinned (OpenSpec.upto fleetShownSpec)

/-- 'yearlaw7.FleetKeeps', WHERE WHAT IT READS IS OF BULK AT MOST 1048576: true; the input reads as it did. -/
def fleetKeepsUptoRow : OpenClaim := { program := "ytkjlchfmplcobafgreatdoor", sum := "90172a4e1273f5f62751d25c651d5b39494f6a0e308f82998bcd7aadd3c72b2b", func := "yearbook/yearlaw7.FleetKeeps", spec := "fleetKeeps", unfollowed := true, recurses := true, named := ["yearbook/sha.roundWords"], plainKeys := false, apart := false, laid := [("yearbook/sha.roundWords", laid_yearbook_sha_roundWords)], narrowed := true }
def FleetKeepsUptoSaid : Prop := fleetKeepsUptoRow.holds Tryz.pinned (OpenSpec.upto fleetKeepsSpec)

/-- 'yearlaw7.FleetOnce', WHERE WHAT IT READS IS OF BULK AT MOST 1048576: true; the input reads as it did. -/
def fleetOnceUptoRow : OpenClaim := { program := "ytkjlchfmplcobafgreatdoor", sum := "90172a4e1273f5f62751d25c651d5b39494f6a0e308f82998bcd7aadd3c72b2b", func := "yearbook/yearlaw7.FleetOnce", spec := "fleetOnce", unfollowed := true, recurses := true, named := ["yearbook/sha.roundWords"], plainKeys := false, apart := false, laid := [("yearbook/sha.roundWords", laid_yearbook_sha_roundWords)], narrowed := true }
def FleetOnceUptoSaid : Prop := fleetOnceUptoRow.holds Tryz.pinned (OpenSpec.upto fleetOnceSpec)

/-- 'yearlaw7.FleetBook', WHERE WHAT IT READS IS OF BULK AT MOST 1048576: true; the input reads as it did. -/
def fleetBookUptoRow : OpenClaim := { program := "ytkjlchfmplcobafgreatdoor", sum := "90172a4e1273f5f62751d25c651d5b39494f6a0e308f82998bcd7aadd3c72b2b", func := "yearbook/yearlaw7.FleetBook", spec := "fleetBook", unfollowed := true, recurses := true, named := ["yearbook/sha.roundWords"], plainKeys := false, apart := false, laid := [("yearbook/sha.roundWords", laid_yearbook_sha_roundWords)], narrowed := true }
def FleetBookUptoSaid : Prop := fleetBookUptoRow.holds Tryz.pinned (OpenSpec.upto fleetBookSpec)

/-- 'yearlaw7.FleetRefused', WHERE WHAT IT READS IS OF BULK AT MOST 1048576: true; the input reads as it did. -/
def fleetRefusedUptoRow : OpenClaim := { program := "ytkjlchfmplcobafgreatdoor", sum := "90172a4e1273f5f62751d25c651d5b39494f6a0e308f82998bcd7aadd3c72b2b", func := "yearbook/yearlaw7.FleetRefused", spec := "fleetRefused", unfollowed := true, recurses := true, named := ["yearbook/sha.roundWords"], plainKeys := false, apart := false, laid := [("yearbook/sha.roundWords", laid_yearbook_sha_roundWords)], narrowed := true }
def FleetRefusedUptoSaid : Prop := fleetRefusedUptoRow.holds Tryz.pinned (OpenSpec.upto fleetRefusedSpec)

/-- 'yearlaw7.FleetFalse', WHERE WHAT IT READS IS OF BULK AT MOST 1048576: true; the input reads as it did. -/
def fleetFalseUptoRow : OpenClaim := { program := "ytkjlchfmplcobafgreatdoor", sum := "90172a4e1273f5f62751d25c651d5b39494f6a0e308f82998bcd7aadd3c72b2b", func := "yearbook/yearlaw7.FleetFalse", spec := "fleetFalse", unfollowed := true, recurses := true, named := ["yearbook/sha.roundWords"], plainKeys := false, apart := false, laid := [("yearbook/sha.roundWords", laid_yearbook_sha_roundWords)], narrowed := true }
def FleetFalseUptoSaid : Prop := fleetFalseUptoRow.holds Tryz.pinned (OpenSpec.upto fleetFalseSpec)

end Rows
end Go.Proofs.YtkjlchfmplcobafGreatDoor
