/-
  DERIVED. GIVEN WITH THE SEED: THE CARDS: each row of YtokpknjmcegkaaaDoorRows.lean that lists a variable, with what it lists TIED to the program's text (the seventh form; the later family's looks); each row that meets fmt, with fmt's text TOLD by the authors' own Lean function (tested against real Go, not proved from fmt's source: count such statements apart). THE CARD IS WHAT COUNTS. Prove the row's statement (the work); the ties are given (YtokpknjmcegkaaaDoorTie.lean); close each card by the builder's one call (the guide's Derived/Test/ToyasCard.lean, 'card_holds'). Laid BY PROGRAM, IN A SANDBOX (cutbox-door.mjs). By AI agents, Wed Nov 11 2026. No macro, syntax, notation, axiom, sorry.
-/
import Derived.Test.YtokpknjmcegkaaaDoorRows
import GoSem.ClaimSeven
namespace Go.Proofs.YtokpknjmcegkaaaDoor
namespace Rows

/-- THE TIED CARD OF 'harbingerlaw02.ScansAny'. -/
def scansAnyCard : Claim7 := { stood := { row := scansAnyRow, standIns := [], harness := (true, "95c169075fe68c9fbef2ba35815552628ee38e7c8b9998cfe54782021974821e"), looks := true }, kinds := [], alts := [], laidByText := true, laidKinds := [.data, .data, .data, .data, .sentinel, .sentinel, .pinned], laidTests := true, laidLooks := .later }
def ScansAnyCardSaid : Prop := Claim7.holds Tryd.pinned (.plain (OpenSpec.ofChange scansAnySpec)) scansAnyCard

/-- THE TIED CARD OF 'harbingerlaw02.ScansBack'. -/
def scansBackCard : Claim7 := { stood := { row := scansBackRow, standIns := [], harness := (true, "95c169075fe68c9fbef2ba35815552628ee38e7c8b9998cfe54782021974821e"), looks := true }, kinds := [], alts := [], laidByText := true, laidKinds := [.data, .data, .data, .data, .sentinel, .sentinel, .pinned], laidTests := true, laidLooks := .later }
def ScansBackCardSaid : Prop := Claim7.holds Tryd.pinned (.plain (OpenSpec.ofChange scansBackSpec)) scansBackCard

/-- THE TIED CARD OF 'harbingerlaw02.ScansJoin'. -/
def scansJoinCard : Claim7 := { stood := { row := scansJoinRow, standIns := [], harness := (true, "95c169075fe68c9fbef2ba35815552628ee38e7c8b9998cfe54782021974821e"), looks := true }, kinds := [], alts := [], laidByText := true, laidKinds := [.data, .data, .data, .data, .sentinel, .sentinel, .pinned], laidTests := true, laidLooks := .later }
def ScansJoinCardSaid : Prop := Claim7.holds Tryd.pinned (.plain (OpenSpec.ofChange scansJoinSpec)) scansJoinCard

/-- THE TIED CARD OF 'harbingerlaw02.ScansPlaces'. -/
def scansPlacesCard : Claim7 := { stood := { row := scansPlacesRow, standIns := [], harness := (true, "95c169075fe68c9fbef2ba35815552628ee38e7c8b9998cfe54782021974821e"), looks := true }, kinds := [], alts := [], laidByText := true, laidKinds := [.data, .data, .data, .data, .sentinel, .sentinel, .pinned], laidTests := true, laidLooks := .later }
def ScansPlacesCardSaid : Prop := Claim7.holds Tryd.pinned (.plain (OpenSpec.ofChange scansPlacesSpec)) scansPlacesCard

/-- THE SECOND FORM's CARD OF 'harbingerlaw02.ScansAny'. -/
def scansAnyUptoCard : Claim7 := { stood := { row := scansAnyUptoRow, standIns := [], harness := (true, "95c169075fe68c9fbef2ba35815552628ee38e7c8b9998cfe54782021974821e"), looks := true }, kinds := [], alts := [], laidByText := true, laidKinds := [.data, .data, .data, .data, .sentinel, .sentinel, .pinned], laidTests := true, laidLooks := .later }
def ScansAnyUptoCardSaid : Prop := Claim7.holds Tryd.pinned (.plain (OpenSpec.upto scansAnySpec)) scansAnyUptoCard

/-- THE SECOND FORM's CARD OF 'harbingerlaw02.ScansBack'. -/
def scansBackUptoCard : Claim7 := { stood := { row := scansBackUptoRow, standIns := [], harness := (true, "95c169075fe68c9fbef2ba35815552628ee38e7c8b9998cfe54782021974821e"), looks := true }, kinds := [], alts := [], laidByText := true, laidKinds := [.data, .data, .data, .data, .sentinel, .sentinel, .pinned], laidTests := true, laidLooks := .later }
def ScansBackUptoCardSaid : Prop := Claim7.holds Tryd.pinned (.plain (OpenSpec.upto scansBackSpec)) scansBackUptoCard

/-- THE SECOND FORM's CARD OF 'harbingerlaw02.ScansJoin'. -/
def scansJoinUptoCard : Claim7 := { stood := { row := scansJoinUptoRow, standIns := [], harness := (true, "95c169075fe68c9fbef2ba35815552628ee38e7c8b9998cfe54782021974821e"), looks := true }, kinds := [], alts := [], laidByText := true, laidKinds := [.data, .data, .data, .data, .sentinel, .sentinel, .pinned], laidTests := true, laidLooks := .later }
def ScansJoinUptoCardSaid : Prop := Claim7.holds Tryd.pinned (.plain (OpenSpec.upto scansJoinSpec)) scansJoinUptoCard

/-- THE SECOND FORM's CARD OF 'harbingerlaw02.ScansPlaces'. -/
def scansPlacesUptoCard : Claim7 := { stood := { row := scansPlacesUptoRow, standIns := [], harness := (true, "95c169075fe68c9fbef2ba35815552628ee38e7c8b9998cfe54782021974821e"), looks := true }, kinds := [], alts := [], laidByText := true, laidKinds := [.data, .data, .data, .data, .sentinel, .sentinel, .pinned], laidTests := true, laidLooks := .later }
def ScansPlacesUptoCardSaid : Prop := Claim7.holds Tryd.pinned (.plain (OpenSpec.upto scansPlacesSpec)) scansPlacesUptoCard
end Rows
end Go.Proofs.YtokpknjmcegkaaaDoor
