/-
  NARROWER THAN 'FOR EVERY INPUT', by the rows' own cells (each row's printed sentence says how): LexersAny: laid · LexersVoid: laid · LexersWhole: laid · LexersBehind: laid.
  DERIVED. THE GIVEN ROWS OF THIS SEAT. 4 by the template 'for every input the law returns true; each argument reads behind the call as it read before'; 0 by the template 'total and deterministic' (their statements: YtagbpkabfjnplaaDoorTotals.lean).
  GIVEN WITH THE SEED: the statements are not yours to turn. If you find one false, say at which input.
  Laid BY PROGRAM, IN A SANDBOX (cutbox-rows.mjs): the forced cells as the released guide's own fill.sh prints them over the translation 3619052056bf6373… (all of the seat's roots in one cut). By AI agents, Wed Nov 11 2026. No macro, syntax, notation, axiom, sorry.
-/
import Derived.Test.YtagbpkabfjnplaaDoorChecked
import GoSem.PinnedTables
import GoSem.Claim
import GoSem.ClaimJoined
import GoSem.ClaimMapViews
import Derived.JoinedTies
import Derived.KernelRfl
namespace Go.Proofs.YtagbpkabfjnplaaDoor
/- THE CELL 'sum', in the pinned program and in every row, IS THE sha256 OF THE DUMP (.gsa) THAT YtagbpkabfjnplaaDoorProg.lean LOADS. Nothing in Lean hashes anything: it is a label: what it is worth is what the hold of that sum in a sandbox is worth. -/
noncomputable def Tryd.pinned : Pinned := { name := "ytagbpkabfjnplaadoor", sum := "3619052056bf6373c7a5af9faa2c83e0162a7a029be0ab3320882bd030520609", checked := Tryd.checked }
namespace Rows
def none {H : Type} : Left H := { results := [], args := [] }

/- WHAT THE LISTED PACKAGE-LEVEL VARIABLES READ AS WHEN THE CALL BEGINS. Each datum BY PROGRAM (the guide's laid-datum.mjs) off the statement by which the dump's own 'gosem.cut.vars' lays the variable. In a bare row this is a premise. The card (YtagbpkabfjnplaaDoorCards.lean) ties it to the program's text. -/
def laid_unicode_utf8_acceptRanges {H : Type} : DataW H := .agg [.agg [.lit (.int .u8 128), .lit (.int .u8 191)], .agg [.lit (.int .u8 160), .lit (.int .u8 191)], .agg [.lit (.int .u8 128), .lit (.int .u8 159)], .agg [.lit (.int .u8 144), .lit (.int .u8 191)], .agg [.lit (.int .u8 128), .lit (.int .u8 143)], .agg [.lit (.int .u8 0), .lit (.int .u8 0)], .agg [.lit (.int .u8 0), .lit (.int .u8 0)], .agg [.lit (.int .u8 0), .lit (.int .u8 0)], .agg [.lit (.int .u8 0), .lit (.int .u8 0)], .agg [.lit (.int .u8 0), .lit (.int .u8 0)], .agg [.lit (.int .u8 0), .lit (.int .u8 0)], .agg [.lit (.int .u8 0), .lit (.int .u8 0)], .agg [.lit (.int .u8 0), .lit (.int .u8 0)], .agg [.lit (.int .u8 0), .lit (.int .u8 0)], .agg [.lit (.int .u8 0), .lit (.int .u8 0)], .agg [.lit (.int .u8 0), .lit (.int .u8 0)]]
/-- One of Go's own tables, pinned by name: the form's constant. -/
def laid_unicode_utf8_first : DataW Unit := Go.Pinned.utf8First

/-- 'harbingerlaw11.LexersAny': WHATEVER THE INPUT: true; the input reads as it did. -/
def lexersAnySpec : ChangeSpec := { name := "lexersAny", fn := fun _ => fun
  | [d1, d2, d3] => { results := [.lit (.bool true)], args := [d1, d2, d3] }
  | _ => none }
def lexersAnyRow : OpenClaim := { program := "ytagbpkabfjnplaadoor", sum := "3619052056bf6373c7a5af9faa2c83e0162a7a029be0ab3320882bd030520609", func := "harbinger/harbingerlaw11.LexersAny", spec := "lexersAny", unfollowed := true, recurses := true, named := ["unicode/utf8.first", "unicode/utf8.acceptRanges"], apart := false, laid := [("unicode/utf8.acceptRanges", laid_unicode_utf8_acceptRanges), ("unicode/utf8.first", laid_unicode_utf8_first)] }
def LexersAnySaid : Prop := lexersAnyRow.holds Tryd.pinned (OpenSpec.ofChange lexersAnySpec)

/-- ITS FALSE NEIGHBOUR: 'it returns false'. Refute it at one input. -/
def lexersAnyWrong : ChangeSpec := { name := "lexersAny", fn := fun _ => fun
  | [d1, d2, d3] => { results := [.lit (.bool false)], args := [d1, d2, d3] }
  | _ => none }
def LexersAnyWrongFalsely : Prop := lexersAnyRow.holds Tryd.pinned (OpenSpec.ofChange lexersAnyWrong)

/-- 'harbingerlaw11.LexersVoid': WHATEVER THE INPUT: true; the input reads as it did. -/
def lexersVoidSpec : ChangeSpec := { name := "lexersVoid", fn := fun _ => fun
  | [d1, d2] => { results := [.lit (.bool true)], args := [d1, d2] }
  | _ => none }
def lexersVoidRow : OpenClaim := { program := "ytagbpkabfjnplaadoor", sum := "3619052056bf6373c7a5af9faa2c83e0162a7a029be0ab3320882bd030520609", func := "harbinger/harbingerlaw11.LexersVoid", spec := "lexersVoid", unfollowed := true, recurses := true, named := ["unicode/utf8.first", "unicode/utf8.acceptRanges"], apart := false, laid := [("unicode/utf8.acceptRanges", laid_unicode_utf8_acceptRanges), ("unicode/utf8.first", laid_unicode_utf8_first)] }
def LexersVoidSaid : Prop := lexersVoidRow.holds Tryd.pinned (OpenSpec.ofChange lexersVoidSpec)

/-- ITS FALSE NEIGHBOUR: 'it returns false'. Refute it at one input. -/
def lexersVoidWrong : ChangeSpec := { name := "lexersVoid", fn := fun _ => fun
  | [d1, d2] => { results := [.lit (.bool false)], args := [d1, d2] }
  | _ => none }
def LexersVoidWrongFalsely : Prop := lexersVoidRow.holds Tryd.pinned (OpenSpec.ofChange lexersVoidWrong)

/-- 'harbingerlaw11.LexersWhole': WHATEVER THE INPUT: true; the input reads as it did. -/
def lexersWholeSpec : ChangeSpec := { name := "lexersWhole", fn := fun _ => fun
  | [d1, d2, d3] => { results := [.lit (.bool true)], args := [d1, d2, d3] }
  | _ => none }
def lexersWholeRow : OpenClaim := { program := "ytagbpkabfjnplaadoor", sum := "3619052056bf6373c7a5af9faa2c83e0162a7a029be0ab3320882bd030520609", func := "harbinger/harbingerlaw11.LexersWhole", spec := "lexersWhole", unfollowed := true, recurses := true, named := ["unicode/utf8.first", "unicode/utf8.acceptRanges"], apart := false, laid := [("unicode/utf8.acceptRanges", laid_unicode_utf8_acceptRanges), ("unicode/utf8.first", laid_unicode_utf8_first)] }
def LexersWholeSaid : Prop := lexersWholeRow.holds Tryd.pinned (OpenSpec.ofChange lexersWholeSpec)

/-- ITS FALSE NEIGHBOUR: 'it returns false'. Refute it at one input. -/
def lexersWholeWrong : ChangeSpec := { name := "lexersWhole", fn := fun _ => fun
  | [d1, d2, d3] => { results := [.lit (.bool false)], args := [d1, d2, d3] }
  | _ => none }
def LexersWholeWrongFalsely : Prop := lexersWholeRow.holds Tryd.pinned (OpenSpec.ofChange lexersWholeWrong)

/-- 'harbingerlaw11.LexersBehind': WHATEVER THE INPUT: true; the input reads as it did. -/
def lexersBehindSpec : ChangeSpec := { name := "lexersBehind", fn := fun _ => fun
  | [d1, d2] => { results := [.lit (.bool true)], args := [d1, d2] }
  | _ => none }
def lexersBehindRow : OpenClaim := { program := "ytagbpkabfjnplaadoor", sum := "3619052056bf6373c7a5af9faa2c83e0162a7a029be0ab3320882bd030520609", func := "harbinger/harbingerlaw11.LexersBehind", spec := "lexersBehind", unfollowed := true, recurses := true, named := ["unicode/utf8.first", "unicode/utf8.acceptRanges"], apart := false, laid := [("unicode/utf8.acceptRanges", laid_unicode_utf8_acceptRanges), ("unicode/utf8.first", laid_unicode_utf8_first)] }
def LexersBehindSaid : Prop := lexersBehindRow.holds Tryd.pinned (OpenSpec.ofChange lexersBehindSpec)

/-- ITS FALSE NEIGHBOUR: 'it returns false'. Refute it at one input. -/
def lexersBehindWrong : ChangeSpec := { name := "lexersBehind", fn := fun _ => fun
  | [d1, d2] => { results := [.lit (.bool false)], args := [d1, d2] }
  | _ => none }
def LexersBehindWrongFalsely : Prop := lexersBehindRow.holds Tryd.pinned (OpenSpec.ofChange lexersBehindWrong)

/- THE SECOND FORM. 'bulk': how many values and letters a reading holds, each counted each time it is reached (what is shared counts as often as it is met; a slice's spare places count too). A statement '..UptoSaid' is the law's where the arguments, and the package variables that the reading takes, are together of bulk at most 1048576: NARROWER than '..Said'. Prove '..Said' where nothing that the law and all that it calls make is longer than what came in: it says more and counts as full. Else prove '..UptoSaid'. A law counts once. -/
mutual
def uptoBulk {H : Type} : DataW H → Nat
  | .lit (.string bytes) => bytes.length + 1
  | .lit _ => 1
  | .nil => 1
  | .ptr d => uptoBulk d + 1
  | .slice elems spare => uptoBulkAll elems + uptoBulkAll spare + 1
  | .agg parts => uptoBulkAll parts + 1
  | .iface _ d => uptoBulk d + 1
  | .map entries => uptoBulkEntries entries + 1
  | .held _ => 1
def uptoBulkAll {H : Type} : List (DataW H) → Nat
  | [] => 0
  | d :: r => uptoBulk d + uptoBulkAll r
def uptoBulkEntries {H : Type} : List (Lit × DataW H) → Nat
  | [] => 0
  | x :: r => uptoBulkEntry x + uptoBulkEntries r
def uptoBulkEntry {H : Type} : Lit × DataW H → Nat
  | (.string bytes, d) => bytes.length + uptoBulk d + 1
  | (_, d) => uptoBulk d + 1
 end
def uptoSmall : (H : Type) → List (DataW H) → Bool := fun _ ds => decide (uptoBulkAll ds ≤ 1048576)
def OpenSpec.upto (s : _root_.Go.ChangeSpec) : _root_.Go.OpenSpec := { _root_.Go.OpenSpec.ofChange s with cond := some uptoSmall }

/-- 'harbingerlaw11.LexersAny', WHERE WHAT IT READS IS OF BULK AT MOST 1048576: true; the input reads as it did. -/
def lexersAnyUptoRow : OpenClaim := { program := "ytagbpkabfjnplaadoor", sum := "3619052056bf6373c7a5af9faa2c83e0162a7a029be0ab3320882bd030520609", func := "harbinger/harbingerlaw11.LexersAny", spec := "lexersAny", unfollowed := true, recurses := true, named := ["unicode/utf8.first", "unicode/utf8.acceptRanges"], apart := false, laid := [("unicode/utf8.acceptRanges", laid_unicode_utf8_acceptRanges), ("unicode/utf8.first", laid_unicode_utf8_first)], narrowed := true }
def LexersAnyUptoSaid : Prop := lexersAnyUptoRow.holds Tryd.pinned (OpenSpec.upto lexersAnySpec)

/-- 'harbingerlaw11.LexersVoid', WHERE WHAT IT READS IS OF BULK AT MOST 1048576: true; the input reads as it did. -/
def lexersVoidUptoRow : OpenClaim := { program := "ytagbpkabfjnplaadoor", sum := "3619052056bf6373c7a5af9faa2c83e0162a7a029be0ab3320882bd030520609", func := "harbinger/harbingerlaw11.LexersVoid", spec := "lexersVoid", unfollowed := true, recurses := true, named := ["unicode/utf8.first", "unicode/utf8.acceptRanges"], apart := false, laid := [("unicode/utf8.acceptRanges", laid_unicode_utf8_acceptRanges), ("unicode/utf8.first", laid_unicode_utf8_first)], narrowed := true }
def LexersVoidUptoSaid : Prop := lexersVoidUptoRow.holds Tryd.pinned (OpenSpec.upto lexersVoidSpec)

/-- 'harbingerlaw11.LexersWhole', WHERE WHAT IT READS IS OF BULK AT MOST 1048576: true; the input reads as it did. -/
def lexersWholeUptoRow : OpenClaim := { program := "ytagbpkabfjnplaadoor", sum := "3619052056bf6373c7a5af9faa2c83e0162a7a029be0ab3320882bd030520609", func := "harbinger/harbingerlaw11.LexersWhole", spec := "lexersWhole", unfollowed := true, recurses := true, named := ["unicode/utf8.first", "unicode/utf8.acceptRanges"], apart := false, laid := [("unicode/utf8.acceptRanges", laid_unicode_utf8_acceptRanges), ("unicode/utf8.first", laid_unicode_utf8_first)], narrowed := true }
def LexersWholeUptoSaid : Prop := lexersWholeUptoRow.holds Tryd.pinned (OpenSpec.upto lexersWholeSpec)

/-- 'harbingerlaw11.LexersBehind', WHERE WHAT IT READS IS OF BULK AT MOST 1048576: true; the input reads as it did. -/
def lexersBehindUptoRow : OpenClaim := { program := "ytagbpkabfjnplaadoor", sum := "3619052056bf6373c7a5af9faa2c83e0162a7a029be0ab3320882bd030520609", func := "harbinger/harbingerlaw11.LexersBehind", spec := "lexersBehind", unfollowed := true, recurses := true, named := ["unicode/utf8.first", "unicode/utf8.acceptRanges"], apart := false, laid := [("unicode/utf8.acceptRanges", laid_unicode_utf8_acceptRanges), ("unicode/utf8.first", laid_unicode_utf8_first)], narrowed := true }
def LexersBehindUptoSaid : Prop := lexersBehindUptoRow.holds Tryd.pinned (OpenSpec.upto lexersBehindSpec)

end Rows
end Go.Proofs.YtagbpkabfjnplaaDoor
