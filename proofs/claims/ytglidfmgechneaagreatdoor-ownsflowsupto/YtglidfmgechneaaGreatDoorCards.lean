/-
  DERIVED. GIVEN WITH THE SEED: THE CARDS: each row of YtglidfmgechneaaGreatDoorRows.lean that lists a variable, with what it lists TIED to the program's text (the seventh form; the later family's looks); each row that meets fmt, with fmt's text TOLD by the authors' own Lean function (tested against real Go, not proved from fmt's source: count such statements apart). THE CARD IS WHAT COUNTS. Prove the row's statement (the work); the ties are given (YtglidfmgechneaaGreatDoorTie.lean); close each card by the builder's one call (the guide's Derived/Test/ToyasCard.lean, 'card_holds'). Laid BY PROGRAM, IN A SANDBOX (cutbox-door.mjs). By AI agents, Wed Nov 11 2026. No macro, syntax, notation, axiom, sorry.
-/
import Derived.Test.YtglidfmgechneaaGreatDoorRows
import GoSem.ClaimSeven
namespace Go.Proofs.YtglidfmgechneaaGreatDoor
namespace Rows

/-- THE TIED CARD OF 'regencylaw07.OwnsTells'. -/
def ownsTellsCard : Claim7 := { stood := { row := ownsTellsRow, standIns := [], harness := (true, "525aa4bf3901d7ab05dbcb43e7751096ef384c5702812d73c2bebd822cccf337"), looks := true }, kinds := [], alts := [], laidByText := true, laidKinds := [.data, .data, .data, .data, .sentinel, .sentinel, .pinned], laidTests := true, laidLooks := .later }
def OwnsTellsCardSaid : Prop := Claim7.holds Tryz.pinned (.plain (OpenSpec.ofChange ownsTellsSpec)) ownsTellsCard

/-- THE TIED CARD OF 'regencylaw07.OwnsFlows'. -/
def ownsFlowsCard : Claim7 := { stood := { row := ownsFlowsRow, standIns := [], harness := (true, "525aa4bf3901d7ab05dbcb43e7751096ef384c5702812d73c2bebd822cccf337"), looks := true }, kinds := [], alts := [], laidByText := true, laidKinds := [.data, .data, .data, .data, .sentinel, .sentinel, .pinned], laidTests := true, laidLooks := .later }
def OwnsFlowsCardSaid : Prop := Claim7.holds Tryz.pinned (.plain (OpenSpec.ofChange ownsFlowsSpec)) ownsFlowsCard

/-- THE TIED CARD OF 'regencylaw07.OwnsMore'. -/
def ownsMoreCard : Claim7 := { stood := { row := ownsMoreRow, standIns := [], harness := (true, "525aa4bf3901d7ab05dbcb43e7751096ef384c5702812d73c2bebd822cccf337"), looks := true }, kinds := [], alts := [], laidByText := true, laidKinds := [.data, .data, .data, .data, .sentinel, .sentinel, .pinned], laidTests := true, laidLooks := .later }
def OwnsMoreCardSaid : Prop := Claim7.holds Tryz.pinned (.plain (OpenSpec.ofChange ownsMoreSpec)) ownsMoreCard

/-- THE TIED CARD OF 'regencylaw07.OwnsSets'. -/
def ownsSetsCard : Claim7 := { stood := { row := ownsSetsRow, standIns := [], harness := (true, "525aa4bf3901d7ab05dbcb43e7751096ef384c5702812d73c2bebd822cccf337"), looks := true }, kinds := [], alts := [], laidByText := true, laidKinds := [.data, .data, .data, .data, .sentinel, .sentinel, .pinned], laidTests := true, laidLooks := .later }
def OwnsSetsCardSaid : Prop := Claim7.holds Tryz.pinned (.plain (OpenSpec.ofChange ownsSetsSpec)) ownsSetsCard

/-- THE SECOND FORM's CARD OF 'regencylaw07.OwnsTells'. -/
def ownsTellsUptoCard : Claim7 := { stood := { row := ownsTellsUptoRow, standIns := [], harness := (true, "525aa4bf3901d7ab05dbcb43e7751096ef384c5702812d73c2bebd822cccf337"), looks := true }, kinds := [], alts := [], laidByText := true, laidKinds := [.data, .data, .data, .data, .sentinel, .sentinel, .pinned], laidTests := true, laidLooks := .later }
def OwnsTellsUptoCardSaid : Prop := Claim7.holds Tryz.pinned (.plain (OpenSpec.upto ownsTellsSpec)) ownsTellsUptoCard

/-- THE SECOND FORM's CARD OF 'regencylaw07.OwnsFlows'. -/
def ownsFlowsUptoCard : Claim7 := { stood := { row := ownsFlowsUptoRow, standIns := [], harness := (true, "525aa4bf3901d7ab05dbcb43e7751096ef384c5702812d73c2bebd822cccf337"), looks := true }, kinds := [], alts := [], laidByText := true, laidKinds := [.data, .data, .data, .data, .sentinel, .sentinel, .pinned], laidTests := true, laidLooks := .later }
def OwnsFlowsUptoCardSaid : Prop := Claim7.holds Tryz.pinned (.plain (OpenSpec.upto ownsFlowsSpec)) ownsFlowsUptoCard

/-- THE SECOND FORM's CARD OF 'regencylaw07.OwnsMore'. -/
def ownsMoreUptoCard : Claim7 := { stood := { row := ownsMoreUptoRow, standIns := [], harness := (true, "525aa4bf3901d7ab05dbcb43e7751096ef384c5702812d73c2bebd822cccf337"), looks := true }, kinds := [], alts := [], laidByText := true, laidKinds := [.data, .data, .data, .data, .sentinel, .sentinel, .pinned], laidTests := true, laidLooks := .later }
def OwnsMoreUptoCardSaid : Prop := Claim7.holds Tryz.pinned (.plain (OpenSpec.upto ownsMoreSpec)) ownsMoreUptoCard

/-- THE SECOND FORM's CARD OF 'regencylaw07.OwnsSets'. -/
def ownsSetsUptoCard : Claim7 := { stood := { row := ownsSetsUptoRow, standIns := [], harness := (true, "525aa4bf3901d7ab05dbcb43e7751096ef384c5702812d73c2bebd822cccf337"), looks := true }, kinds := [], alts := [], laidByText := true, laidKinds := [.data, .data, .data, .data, .sentinel, .sentinel, .pinned], laidTests := true, laidLooks := .later }
def OwnsSetsUptoCardSaid : Prop := Claim7.holds Tryz.pinned (.plain (OpenSpec.upto ownsSetsSpec)) ownsSetsUptoCard
end Rows
end Go.Proofs.YtglidfmgechneaaGreatDoor
