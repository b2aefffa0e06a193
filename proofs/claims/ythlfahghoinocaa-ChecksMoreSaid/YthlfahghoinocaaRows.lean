/-
  NARROWER THAN 'FOR EVERY INPUT', by the rows' own cells (each row's printed sentence says how): ChecksFine: loops · ChecksMore: loops.
  DERIVED. THE GIVEN ROWS OF THIS SEAT. 2 by the template 'for every input the law returns true; each argument reads behind the call as it read before'; 0 by the template 'total and deterministic' (their statements: YthlfahghoinocaaTotals.lean).
  GIVEN WITH THE SEED: the statements are not yours to turn. If you find one false, say at which input.
  Laid BY PROGRAM, IN A SANDBOX (cutbox-rows.mjs): the forced cells as the released guide's own fill.sh prints them over the translation 0a6b6ac2d8ee79e1… (all of the seat's roots in one cut). By AI agents, Wed Nov 11 2026. No macro, syntax, notation, axiom, sorry.
-/
import Derived.Test.YthlfahghoinocaaChecked
import GoSem.Claim
import GoSem.ClaimJoined
import GoSem.ClaimMapViews
import Derived.JoinedTies
import Derived.KernelRfl
namespace Go.Proofs.Ythlfahghoinocaa
/- THE CELL 'sum', in the pinned program and in every row, IS THE sha256 OF THE DUMP (.gsa) THAT YthlfahghoinocaaProg.lean LOADS. Nothing in Lean hashes anything: it is a label: what it is worth is what the hold of that sum in a sandbox is worth. -/
noncomputable def Try.pinned : Pinned := { name := "ythlfahghoinocaa", sum := "0a6b6ac2d8ee79e191ee633e18d486de522eec91373c49482f6e0f890fb2de06", checked := Try.checked }
namespace Rows
def none {H : Type} : Left H := { results := [], args := [] }

/-- 'harbingerlaw06.ChecksFine': WHATEVER THE INPUT: true; the input reads as it did. -/
def checksFineSpec : ChangeSpec := { name := "checksFine", fn := fun _ => fun
  | [d] => { results := [.lit (.bool true)], args := [d] }
  | _ => none }
def checksFineRow : OpenClaim := { program := "ythlfahghoinocaa", sum := "0a6b6ac2d8ee79e191ee633e18d486de522eec91373c49482f6e0f890fb2de06", func := "harbinger/harbingerlaw06.ChecksFine", spec := "checksFine", unfollowed := true, recurses := true, loops := true, apart := false }
def ChecksFineSaid : Prop := checksFineRow.holds Try.pinned (OpenSpec.ofChange checksFineSpec)

/-- ITS FALSE NEIGHBOUR: 'it returns false'. Refute it at one input. -/
def checksFineWrong : ChangeSpec := { name := "checksFine", fn := fun _ => fun
  | [d] => { results := [.lit (.bool false)], args := [d] }
  | _ => none }
def ChecksFineWrongFalsely : Prop := checksFineRow.holds Try.pinned (OpenSpec.ofChange checksFineWrong)

/-- 'harbingerlaw06.ChecksMore': WHATEVER THE INPUT: true; the input reads as it did. -/
def checksMoreSpec : ChangeSpec := { name := "checksMore", fn := fun _ => fun
  | [d1, d2] => { results := [.lit (.bool true)], args := [d1, d2] }
  | _ => none }
def checksMoreRow : OpenClaim := { program := "ythlfahghoinocaa", sum := "0a6b6ac2d8ee79e191ee633e18d486de522eec91373c49482f6e0f890fb2de06", func := "harbinger/harbingerlaw06.ChecksMore", spec := "checksMore", unfollowed := true, recurses := true, loops := true, apart := false }
def ChecksMoreSaid : Prop := checksMoreRow.holds Try.pinned (OpenSpec.ofChange checksMoreSpec)

/-- ITS FALSE NEIGHBOUR: 'it returns false'. Refute it at one input. -/
def checksMoreWrong : ChangeSpec := { name := "checksMore", fn := fun _ => fun
  | [d1, d2] => { results := [.lit (.bool false)], args := [d1, d2] }
  | _ => none }
def ChecksMoreWrongFalsely : Prop := checksMoreRow.holds Try.pinned (OpenSpec.ofChange checksMoreWrong)

/- THE SECOND FORM. 'bulk': how many values and letters a reading holds, each counted each time it is reached (what is shared counts as often as it is met; a slice's spare places count too). A statement '..UptoSaid' is the law's where the arguments, and the package variables that the reading takes, are together of bulk at most 1048576: NARROWER than '..Said'. Prove '..Said' where nothing that the law and all that it calls make is longer than what came in: it says more and counts as full. Else prove '..UptoSaid'. A law counts once. -/
mutual
def uptoBulk {H : Type} : DataW H → Nat
  | .lit (.string bytes) => bytes.length + 1
  | .lit _ => 1
  | .nil => 1
  | .ptr d => uptoBulk d + 1
  | .slice elems spare => uptoBulkAll elems + uptoBulkAll spare + 1
  | .agg parts => uptoBulkAll parts + 1
  | .iface _ d => uptoBulk d + 1
  | .map entries => uptoBulkEntries entries + 1
  | .held _ => 1
def uptoBulkAll {H : Type} : List (DataW H) → Nat
  | [] => 0
  | d :: r => uptoBulk d + uptoBulkAll r
def uptoBulkEntries {H : Type} : List (Lit × DataW H) → Nat
  | [] => 0
  | x :: r => uptoBulkEntry x + uptoBulkEntries r
def uptoBulkEntry {H : Type} : Lit × DataW H → Nat
  | (.string bytes, d) => bytes.length + uptoBulk d + 1
  | (_, d) => uptoBulk d + 1
 end
def uptoSmall : (H : Type) → List (DataW H) → Bool := fun _ ds => decide (uptoBulkAll ds ≤ 1048576)
def OpenSpec.upto (s : _root_.Go.ChangeSpec) : _root_.Go.OpenSpec := { _root_.Go.OpenSpec.ofChange s with cond := some uptoSmall }

/-- 'harbingerlaw06.ChecksFine', WHERE WHAT IT READS IS OF BULK AT MOST 1048576: true; the input reads as it did. -/
def checksFineUptoRow : OpenClaim := { program := "ythlfahghoinocaa", sum := "0a6b6ac2d8ee79e191ee633e18d486de522eec91373c49482f6e0f890fb2de06", func := "harbinger/harbingerlaw06.ChecksFine", spec := "checksFine", unfollowed := true, recurses := true, loops := true, apart := false, narrowed := true }
def ChecksFineUptoSaid : Prop := checksFineUptoRow.holds Try.pinned (OpenSpec.upto checksFineSpec)

/-- 'harbingerlaw06.ChecksMore', WHERE WHAT IT READS IS OF BULK AT MOST 1048576: true; the input reads as it did. -/
def checksMoreUptoRow : OpenClaim := { program := "ythlfahghoinocaa", sum := "0a6b6ac2d8ee79e191ee633e18d486de522eec91373c49482f6e0f890fb2de06", func := "harbinger/harbingerlaw06.ChecksMore", spec := "checksMore", unfollowed := true, recurses := true, loops := true, apart := false, narrowed := true }
def ChecksMoreUptoSaid : Prop := checksMoreUptoRow.holds Try.pinned (OpenSpec.upto checksMoreSpec)

end Rows
end Go.Proofs.Ythlfahghoinocaa
