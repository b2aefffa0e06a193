/-
  DERIVED. GIVEN WITH THE SEED: THE CARDS: each row of YthfkodimafmmgaaDoorRows.lean that lists a variable, with what it lists TIED to the program's text (the seventh form; the later family's looks); each row that meets fmt, with fmt's text TOLD by the authors' own Lean function (tested against real Go, not proved from fmt's source: count such statements apart). THE CARD IS WHAT COUNTS. Prove the row's statement (the work); the ties are given (YthfkodimafmmgaaDoorTie.lean); close each card by the builder's one call (the guide's Derived/Test/ToyasCard.lean, 'card_holds'). Laid BY PROGRAM, IN A SANDBOX (cutbox-door.mjs). By AI agents, Wed Nov 11 2026. No macro, syntax, notation, axiom, sorry.
-/
import Derived.Test.YthfkodimafmmgaaDoorRows
import GoSem.ClaimSeven
namespace Go.Proofs.YthfkodimafmmgaaDoor
namespace Rows

/-- THE TIED CARD OF 'harbingerlaw03.NodesWrapped'. -/
def nodesWrappedCard : Claim7 := { stood := { row := nodesWrappedRow, standIns := [], harness := (true, "24e0955684e5cf6eaf2e844530fbb3c7901ef335de7327587bc195b16f8991da"), looks := false }, kinds := [], alts := [], laidByText := true, laidKinds := [.data, .data, .data, .data, .pinned], laidTests := true, laidLooks := .later }
def NodesWrappedCardSaid : Prop := Claim7.holds Tryd.pinned (.plain (OpenSpec.ofChange nodesWrappedSpec)) nodesWrappedCard

/-- THE SECOND FORM's CARD OF 'harbingerlaw03.NodesWrapped'. -/
def nodesWrappedUptoCard : Claim7 := { stood := { row := nodesWrappedUptoRow, standIns := [], harness := (true, "24e0955684e5cf6eaf2e844530fbb3c7901ef335de7327587bc195b16f8991da"), looks := false }, kinds := [], alts := [], laidByText := true, laidKinds := [.data, .data, .data, .data, .pinned], laidTests := true, laidLooks := .later }
def NodesWrappedUptoCardSaid : Prop := Claim7.holds Tryd.pinned (.plain (OpenSpec.upto nodesWrappedSpec)) nodesWrappedUptoCard
end Rows
end Go.Proofs.YthfkodimafmmgaaDoor
