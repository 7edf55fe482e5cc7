/-
  NARROWER THAN 'FOR EVERY INPUT', by the rows' own cells (each row's printed sentence says how): ShelfEntries: laid · BookTells: laid · BookTurns: laid · BookStands: laid.
  DERIVED. THE GIVEN ROWS OF THIS SEAT. 4 by the template 'for every input the law returns true; each argument reads behind the call as it read before'; 0 by the template 'total and deterministic' (their statements: YtkjlchfmplcobaeDoorTotals.lean).
  GIVEN WITH THE SEED: the statements are not yours to turn. If you find one false, say at which input.
  Laid BY PROGRAM, IN A SANDBOX (cutbox-rows.mjs): the forced cells as the released guide's own fill.sh prints them over the translation d2bc6bbcae3e8aa9… (all of the seat's roots in one cut). By AI agents, Wed Nov 11 2026. No macro, syntax, notation, axiom, sorry.
-/
import Derived.Test.YtkjlchfmplcobaeDoorChecked
import GoSem.Claim
import GoSem.ClaimJoined
import GoSem.ClaimMapViews
import Derived.JoinedTies
import Derived.KernelRfl
namespace Go.Proofs.YtkjlchfmplcobaeDoor
/- THE CELL 'sum', in the pinned program and in every row, IS THE sha256 OF THE DUMP (.gsa) THAT YtkjlchfmplcobaeDoorProg.lean LOADS. Nothing in Lean hashes anything: it is a label: what it is worth is what the hold of that sum in a sandbox is worth. -/
noncomputable def Tryd.pinned : Pinned := { name := "ytkjlchfmplcobaedoor", sum := "d2bc6bbcae3e8aa96549bf79e272760ef2092e540a49ac68df790fa894069344", checked := Tryd.checked }
namespace Rows
def none {H : Type} : Left H := { results := [], args := [] }

/- WHAT THE LISTED PACKAGE-LEVEL VARIABLES READ AS WHEN THE CALL BEGINS. Each datum BY PROGRAM (the guide's laid-datum.mjs) off the statement by which the dump's own 'gosem.cut.vars' lays the variable. In a bare row this is a premise. The card (YtkjlchfmplcobaeDoorCards.lean) ties it to the program's text. -/
def laid_yearbook_sha_roundWords {H : Type} : DataW H := .agg [.lit (.int .u32 1116352408), .lit (.int .u32 1899447441), .lit (.int .u32 3049323471), .lit (.int .u32 3921009573), .lit (.int .u32 961987163), .lit (.int .u32 1508970993), .lit (.int .u32 2453635748), .lit (.int .u32 2870763221), .lit (.int .u32 3624381080), .lit (.int .u32 310598401), .lit (.int .u32 607225278), .lit (.int .u32 1426881987), .lit (.int .u32 1925078388), .lit (.int .u32 2162078206), .lit (.int .u32 2614888103), .lit (.int .u32 3248222580), .lit (.int .u32 3835390401), .lit (.int .u32 4022224774), .lit (.int .u32 264347078), .lit (.int .u32 604807628), .lit (.int .u32 770255983), .lit (.int .u32 1249150122), .lit (.int .u32 1555081692), .lit (.int .u32 1996064986), .lit (.int .u32 2554220882), .lit (.int .u32 2821834349), .lit (.int .u32 2952996808), .lit (.int .u32 3210313671), .lit (.int .u32 3336571891), .lit (.int .u32 3584528711), .lit (.int .u32 113926993), .lit (.int .u32 338241895), .lit (.int .u32 666307205), .lit (.int .u32 773529912), .lit (.int .u32 1294757372), .lit (.int .u32 1396182291), .lit (.int .u32 1695183700), .lit (.int .u32 1986661051), .lit (.int .u32 2177026350), .lit (.int .u32 2456956037), .lit (.int .u32 2730485921), .lit (.int .u32 2820302411), .lit (.int .u32 3259730800), .lit (.int .u32 3345764771), .lit (.int .u32 3516065817), .lit (.int .u32 3600352804), .lit (.int .u32 4094571909), .lit (.int .u32 275423344), .lit (.int .u32 430227734), .lit (.int .u32 506948616), .lit (.int .u32 659060556), .lit (.int .u32 883997877), .lit (.int .u32 958139571), .lit (.int .u32 1322822218), .lit (.int .u32 1537002063), .lit (.int .u32 1747873779), .lit (.int .u32 1955562222), .lit (.int .u32 2024104815), .lit (.int .u32 2227730452), .lit (.int .u32 2361852424), .lit (.int .u32 2428436474), .lit (.int .u32 2756734187), .lit (.int .u32 3204031479), .lit (.int .u32 3329325298)]

/-- 'yearlaw5.ShelfEntries': WHATEVER THE INPUT: true; the input reads as it did. -/
def shelfEntriesSpec : ChangeSpec := { name := "shelfEntries", fn := fun _ => fun
  | [d1, d2] => { results := [.lit (.bool true)], args := [d1, d2] }
  | _ => none }
def shelfEntriesRow : OpenClaim := { program := "ytkjlchfmplcobaedoor", sum := "d2bc6bbcae3e8aa96549bf79e272760ef2092e540a49ac68df790fa894069344", func := "yearbook/yearlaw5.ShelfEntries", spec := "shelfEntries", unfollowed := true, recurses := true, named := ["yearbook/sha.roundWords"], apart := false, laid := [("yearbook/sha.roundWords", laid_yearbook_sha_roundWords)] }
def ShelfEntriesSaid : Prop := shelfEntriesRow.holds Tryd.pinned (OpenSpec.ofChange shelfEntriesSpec)

/-- ITS FALSE NEIGHBOUR: 'it returns false'. Refute it at one input. -/
def shelfEntriesWrong : ChangeSpec := { name := "shelfEntries", fn := fun _ => fun
  | [d1, d2] => { results := [.lit (.bool false)], args := [d1, d2] }
  | _ => none }
def ShelfEntriesWrongFalsely : Prop := shelfEntriesRow.holds Tryd.pinned (OpenSpec.ofChange shelfEntriesWrong)

/-- 'yearlaw6.BookTells': WHATEVER THE INPUT: true; the input reads as it did. -/
def bookTellsSpec : ChangeSpec := { name := "bookTells", fn := fun _ => fun
  | [d1, d2, d3, d4, d5] => { results := [.lit (.bool true)], args := [d1, d2, d3, d4, d5] }
  | _ => none }
def bookTellsRow : OpenClaim := { program := "ytkjlchfmplcobaedoor", sum := "d2bc6bbcae3e8aa96549bf79e272760ef2092e540a49ac68df790fa894069344", func := "yearbook/yearlaw6.BookTells", spec := "bookTells", inPlace := ["math/bits.Add64"], unfollowed := true, recurses := true, named := ["yearbook/sha.roundWords"], apart := false, laid := [("yearbook/sha.roundWords", laid_yearbook_sha_roundWords)] }
def BookTellsSaid : Prop := bookTellsRow.holds Tryd.pinned (OpenSpec.ofChange bookTellsSpec)

/-- ITS FALSE NEIGHBOUR: 'it returns false'. Refute it at one input. -/
def bookTellsWrong : ChangeSpec := { name := "bookTells", fn := fun _ => fun
  | [d1, d2, d3, d4, d5] => { results := [.lit (.bool false)], args := [d1, d2, d3, d4, d5] }
  | _ => none }
def BookTellsWrongFalsely : Prop := bookTellsRow.holds Tryd.pinned (OpenSpec.ofChange bookTellsWrong)

/-- 'yearlaw6.BookTurns': WHATEVER THE INPUT: true; the input reads as it did. -/
def bookTurnsSpec : ChangeSpec := { name := "bookTurns", fn := fun _ => fun
  | [d1, d2] => { results := [.lit (.bool true)], args := [d1, d2] }
  | _ => none }
def bookTurnsRow : OpenClaim := { program := "ytkjlchfmplcobaedoor", sum := "d2bc6bbcae3e8aa96549bf79e272760ef2092e540a49ac68df790fa894069344", func := "yearbook/yearlaw6.BookTurns", spec := "bookTurns", recurses := true, named := ["yearbook/sha.roundWords"], apart := false, laid := [("yearbook/sha.roundWords", laid_yearbook_sha_roundWords)] }
def BookTurnsSaid : Prop := bookTurnsRow.holds Tryd.pinned (OpenSpec.ofChange bookTurnsSpec)

/-- ITS FALSE NEIGHBOUR: 'it returns false'. Refute it at one input. -/
def bookTurnsWrong : ChangeSpec := { name := "bookTurns", fn := fun _ => fun
  | [d1, d2] => { results := [.lit (.bool false)], args := [d1, d2] }
  | _ => none }
def BookTurnsWrongFalsely : Prop := bookTurnsRow.holds Tryd.pinned (OpenSpec.ofChange bookTurnsWrong)

/-- 'yearlaw6.BookStands': WHATEVER THE INPUT: true; the input reads as it did. -/
def bookStandsSpec : ChangeSpec := { name := "bookStands", fn := fun _ => fun
  | [d] => { results := [.lit (.bool true)], args := [d] }
  | _ => none }
def bookStandsRow : OpenClaim := { program := "ytkjlchfmplcobaedoor", sum := "d2bc6bbcae3e8aa96549bf79e272760ef2092e540a49ac68df790fa894069344", func := "yearbook/yearlaw6.BookStands", spec := "bookStands", unfollowed := true, recurses := true, named := ["yearbook/sha.roundWords"], apart := false, laid := [("yearbook/sha.roundWords", laid_yearbook_sha_roundWords)] }
def BookStandsSaid : Prop := bookStandsRow.holds Tryd.pinned (OpenSpec.ofChange bookStandsSpec)

/-- ITS FALSE NEIGHBOUR: 'it returns false'. Refute it at one input. -/
def bookStandsWrong : ChangeSpec := { name := "bookStands", fn := fun _ => fun
  | [d] => { results := [.lit (.bool false)], args := [d] }
  | _ => none }
def BookStandsWrongFalsely : Prop := bookStandsRow.holds Tryd.pinned (OpenSpec.ofChange bookStandsWrong)

/- THE SECOND FORM. 'bulk': how many values and letters a reading holds, each counted each time it is reached (what is shared counts as often as it is met; a slice's spare places count too). A statement '..UptoSaid' is the law's where the arguments, and the package variables that the reading takes, are together of bulk at most 1048576: NARROWER than '..Said'. Prove '..Said' where nothing that the law and all that it calls make is longer than what came in: it says more and counts as full. Else prove '..UptoSaid'. A law counts once. -/
mutual
def uptoBulk {H : Type} : DataW H → Nat
  | .lit (.string bytes) => bytes.length + 1
  | .lit _ => 1
  | .nil => 1
  | .ptr d => uptoBulk d + 1
  | .slice elems spare => uptoBulkAll elems + uptoBulkAll spare + 1
  | .agg parts => uptoBulkAll parts + 1
  | .iface _ d => uptoBulk d + 1
  | .map entries => uptoBulkEntries entries + 1
  | .held _ => 1
def uptoBulkAll {H : Type} : List (DataW H) → Nat
  | [] => 0
  | d :: r => uptoBulk d + uptoBulkAll r
def uptoBulkEntries {H : Type} : List (Lit × DataW H) → Nat
  | [] => 0
  | x :: r => uptoBulkEntry x + uptoBulkEntries r
def uptoBulkEntry {H : Type} : Lit × DataW H → Nat
  | (.string bytes, d) => bytes.length + uptoBulk d + 1
  | (_, d) => uptoBulk d + 1
 end
def uptoSmall : (H : Type) → List (DataW H) → Bool := fun _ ds => decide (uptoBulkAll ds ≤ 1048576)
def OpenSpec.upto (s : _root_.Go.ChangeSpec) : _root_.Go.OpenSpec := { _root_.Go.OpenSpec.ofChange s with cond := some uptoSmall }

/-- 'yearlaw5.ShelfEntries', WHERE WHAT IT READS IS OF BULK AT MOST 1048576: true; the input reads as it did. -/
def shelfEntriesUptoRow : OpenClaim := { program := "ytkjlchfmplcobaedoor", sum := "d2bc6bbcae3e8aa96549bf79e272760ef2092e540a49ac68df790fa894069344", func := "yearbook/yearlaw5.ShelfEntries", spec := "shelfEntries", unfollowed := true, recurses := true, named := ["yearbook/sha.roundWords"], apart := false, laid := [("yearbook/sha.roundWords", laid_yearbook_sha_roundWords)], narrowed := true }
def ShelfEntriesUptoSaid : Prop := shelfEntriesUptoRow.holds Tryd.pinned (OpenSpec.upto shelfEntriesSpec)

/-- 'yearlaw6.BookTells', WHERE WHAT IT READS IS OF BULK AT MOST 1048576: true; the input reads as it did. -/
def bookTellsUptoRow : OpenClaim := { program := "ytkjlchfmplcobaedoor", sum := "d2bc6bbcae3e8aa96549bf79e272760ef2092e540a49ac68df790fa894069344", func := "yearbook/yearlaw6.BookTells", spec := "bookTells", inPlace := ["math/bits.Add64"], unfollowed := true, recurses := true, named := ["yearbook/sha.roundWords"], apart := false, laid := [("yearbook/sha.roundWords", laid_yearbook_sha_roundWords)], narrowed := true }
def BookTellsUptoSaid : Prop := bookTellsUptoRow.holds Tryd.pinned (OpenSpec.upto bookTellsSpec)

/-- 'yearlaw6.BookTurns', WHERE WHAT IT READS IS OF BULK AT MOST 1048576: true; the input reads as it did. -/
def bookTurnsUptoRow : OpenClaim := { program := "ytkjlchfmplcobaedoor", sum := "d2bc6bbcae3e8aa96549bf79e272760ef2092e540a49ac68df790fa894069344", func := "yearbook/yearlaw6.BookTurns", spec := "bookTurns", recurses := true, named := ["yearbook/sha.roundWords"], apart := false, laid := [("yearbook/sha.roundWords", laid_yearbook_sha_roundWords)], narrowed := true }
def BookTurnsUptoSaid : Prop := bookTurnsUptoRow.holds Tryd.pinned (OpenSpec.upto bookTurnsSpec)

/-- 'yearlaw6.BookStands', WHERE WHAT IT READS IS OF BULK AT MOST 1048576: true; the input reads as it did. -/
def bookStandsUptoRow : OpenClaim := { program := "ytkjlchfmplcobaedoor", sum := "d2bc6bbcae3e8aa96549bf79e272760ef2092e540a49ac68df790fa894069344", func := "yearbook/yearlaw6.BookStands", spec := "bookStands", unfollowed := true, recurses := true, named := ["yearbook/sha.roundWords"], apart := false, laid := [("yearbook/sha.roundWords", laid_yearbook_sha_roundWords)], narrowed := true }
def BookStandsUptoSaid : Prop := bookStandsUptoRow.holds Tryd.pinned (OpenSpec.upto bookStandsSpec)

end Rows
end Go.Proofs.YtkjlchfmplcobaeDoor
