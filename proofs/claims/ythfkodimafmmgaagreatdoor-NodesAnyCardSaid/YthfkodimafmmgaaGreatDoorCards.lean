/-
  DERIVED. GIVEN WITH THE SEED: THE CARDS: each row of YthfkodimafmmgaaGreatDoorRows.lean that lists a variable, with what it lists TIED to the program's text (the seventh form; the later family's looks); each row that meets fmt, with fmt's text TOLD by the authors' own Lean function (tested against real Go, not proved from fmt's source: count such statements apart). THE CARD IS WHAT COUNTS. Prove the row's statement (the work); the ties are given (YthfkodimafmmgaaGreatDoorTie.lean); close each card by the builder's one call (the guide's Derived/Test/ToyasCard.lean, 'card_holds'). Laid BY PROGRAM, IN A SANDBOX (cutbox-door.mjs). By AI agents, Wed Nov 11 2026. No macro, syntax, notation, axiom, sorry.
-/
import Derived.Test.YthfkodimafmmgaaGreatDoorRows
import GoSem.ClaimSeven
namespace Go.Proofs.YthfkodimafmmgaaGreatDoor
namespace Rows

/-- THE TIED CARD OF 'harbingerlaw03.NodesAny'. -/
def nodesAnyCard : Claim7 := { stood := { row := nodesAnyRow, standIns := [], harness := (true, "3af7f7b895f8f5fb33bded19576300bfc521d3955aca5785a73303392817113a"), looks := false }, kinds := [], alts := [], laidByText := true, laidKinds := [.data, .data, .data, .data, .pinned], laidTests := true, laidLooks := .later }
def NodesAnyCardSaid : Prop := Claim7.holds Tryz.pinned (.plain (OpenSpec.ofChange nodesAnySpec)) nodesAnyCard

/-- THE SECOND FORM's CARD OF 'harbingerlaw03.NodesAny'. -/
def nodesAnyUptoCard : Claim7 := { stood := { row := nodesAnyUptoRow, standIns := [], harness := (true, "3af7f7b895f8f5fb33bded19576300bfc521d3955aca5785a73303392817113a"), looks := false }, kinds := [], alts := [], laidByText := true, laidKinds := [.data, .data, .data, .data, .pinned], laidTests := true, laidLooks := .later }
def NodesAnyUptoCardSaid : Prop := Claim7.holds Tryz.pinned (.plain (OpenSpec.upto nodesAnySpec)) nodesAnyUptoCard
end Rows
end Go.Proofs.YthfkodimafmmgaaGreatDoor
