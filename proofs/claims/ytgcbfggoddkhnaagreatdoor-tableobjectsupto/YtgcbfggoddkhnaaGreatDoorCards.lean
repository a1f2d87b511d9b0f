/-
  DERIVED. GIVEN WITH THE SEED: THE CARDS: each row of YtgcbfggoddkhnaaGreatDoorRows.lean that lists a variable, with what it lists TIED to the program's text (the seventh form; the later family's looks); each row that meets fmt, with fmt's text TOLD by the authors' own Lean function (tested against real Go, not proved from fmt's source: count such statements apart). THE CARD IS WHAT COUNTS. Prove the row's statement (the work); the ties are given (YtgcbfggoddkhnaaGreatDoorTie.lean); close each card by the builder's one call (the guide's Derived/Test/ToyasCard.lean, 'card_holds'). Laid BY PROGRAM, IN A SANDBOX (cutbox-door.mjs). By AI agents, Wed Nov 11 2026. No macro, syntax, notation, axiom, sorry.
-/
import Derived.Test.YtgcbfggoddkhnaaGreatDoorRows
import GoSem.ClaimSeven
namespace Go.Proofs.YtgcbfggoddkhnaaGreatDoor
namespace Rows

/-- THE TIED CARD OF 'regencylaw09.TableObjects'. -/
def tableObjectsCard : Claim7 := { stood := { row := tableObjectsRow, standIns := [], harness := (true, "76320a44147b709613aacd09aa5ab3f95aee2f6d7a0ca77e7927df6b44b4d26d"), looks := true }, kinds := [], alts := [], laidByText := true, laidKinds := [.data, .data, .data, .data, .sentinel, .sentinel, .pinned], laidTests := true, laidLooks := .later }
def TableObjectsCardSaid : Prop := Claim7.holds Tryz.pinned (.plain (OpenSpec.ofChange tableObjectsSpec)) tableObjectsCard

/-- THE TIED CARD OF 'regencylaw09.TablePlays'. -/
def tablePlaysCard : Claim7 := { stood := { row := tablePlaysRow, standIns := [], harness := (true, "76320a44147b709613aacd09aa5ab3f95aee2f6d7a0ca77e7927df6b44b4d26d"), looks := true }, kinds := [], alts := [], laidByText := true, laidKinds := [.data, .data, .data, .data, .sentinel, .sentinel, .pinned], laidTests := true, laidLooks := .later }
def TablePlaysCardSaid : Prop := Claim7.holds Tryz.pinned (.plain (OpenSpec.ofChange tablePlaysSpec)) tablePlaysCard

/-- THE TIED CARD OF 'regencylaw09.TableLoads'. -/
def tableLoadsCard : Claim7 := { stood := { row := tableLoadsRow, standIns := [], harness := (true, "76320a44147b709613aacd09aa5ab3f95aee2f6d7a0ca77e7927df6b44b4d26d"), looks := true }, kinds := [], alts := [], laidByText := true, laidKinds := [.data, .data, .data, .data, .sentinel, .sentinel, .pinned], laidTests := true, laidLooks := .later }
def TableLoadsCardSaid : Prop := Claim7.holds Tryz.pinned (.plain (OpenSpec.ofChange tableLoadsSpec)) tableLoadsCard

/-- THE TIED CARD OF 'regencylaw09.TableStays'. -/
def tableStaysCard : Claim7 := { stood := { row := tableStaysRow, standIns := [], harness := (true, "76320a44147b709613aacd09aa5ab3f95aee2f6d7a0ca77e7927df6b44b4d26d"), looks := true }, kinds := [], alts := [], laidByText := true, laidKinds := [.data, .data, .data, .data, .sentinel, .sentinel, .pinned], laidTests := true, laidLooks := .later }
def TableStaysCardSaid : Prop := Claim7.holds Tryz.pinned (.plain (OpenSpec.ofChange tableStaysSpec)) tableStaysCard

/-- THE TIED CARD OF 'regencylaw09.TableRemoves'. -/
def tableRemovesCard : Claim7 := { stood := { row := tableRemovesRow, standIns := [], harness := (true, "76320a44147b709613aacd09aa5ab3f95aee2f6d7a0ca77e7927df6b44b4d26d"), looks := true }, kinds := [], alts := [], laidByText := true, laidKinds := [.data, .data, .data, .data, .sentinel, .sentinel, .pinned], laidTests := true, laidLooks := .later }
def TableRemovesCardSaid : Prop := Claim7.holds Tryz.pinned (.plain (OpenSpec.ofChange tableRemovesSpec)) tableRemovesCard

/-- THE SECOND FORM's CARD OF 'regencylaw09.TableObjects'. -/
def tableObjectsUptoCard : Claim7 := { stood := { row := tableObjectsUptoRow, standIns := [], harness := (true, "76320a44147b709613aacd09aa5ab3f95aee2f6d7a0ca77e7927df6b44b4d26d"), looks := true }, kinds := [], alts := [], laidByText := true, laidKinds := [.data, .data, .data, .data, .sentinel, .sentinel, .pinned], laidTests := true, laidLooks := .later }
def TableObjectsUptoCardSaid : Prop := Claim7.holds Tryz.pinned (.plain (OpenSpec.upto tableObjectsSpec)) tableObjectsUptoCard

/-- THE SECOND FORM's CARD OF 'regencylaw09.TablePlays'. -/
def tablePlaysUptoCard : Claim7 := { stood := { row := tablePlaysUptoRow, standIns := [], harness := (true, "76320a44147b709613aacd09aa5ab3f95aee2f6d7a0ca77e7927df6b44b4d26d"), looks := true }, kinds := [], alts := [], laidByText := true, laidKinds := [.data, .data, .data, .data, .sentinel, .sentinel, .pinned], laidTests := true, laidLooks := .later }
def TablePlaysUptoCardSaid : Prop := Claim7.holds Tryz.pinned (.plain (OpenSpec.upto tablePlaysSpec)) tablePlaysUptoCard

/-- THE SECOND FORM's CARD OF 'regencylaw09.TableLoads'. -/
def tableLoadsUptoCard : Claim7 := { stood := { row := tableLoadsUptoRow, standIns := [], harness := (true, "76320a44147b709613aacd09aa5ab3f95aee2f6d7a0ca77e7927df6b44b4d26d"), looks := true }, kinds := [], alts := [], laidByText := true, laidKinds := [.data, .data, .data, .data, .sentinel, .sentinel, .pinned], laidTests := true, laidLooks := .later }
def TableLoadsUptoCardSaid : Prop := Claim7.holds Tryz.pinned (.plain (OpenSpec.upto tableLoadsSpec)) tableLoadsUptoCard

/-- THE SECOND FORM's CARD OF 'regencylaw09.TableStays'. -/
def tableStaysUptoCard : Claim7 := { stood := { row := tableStaysUptoRow, standIns := [], harness := (true, "76320a44147b709613aacd09aa5ab3f95aee2f6d7a0ca77e7927df6b44b4d26d"), looks := true }, kinds := [], alts := [], laidByText := true, laidKinds := [.data, .data, .data, .data, .sentinel, .sentinel, .pinned], laidTests := true, laidLooks := .later }
def TableStaysUptoCardSaid : Prop := Claim7.holds Tryz.pinned (.plain (OpenSpec.upto tableStaysSpec)) tableStaysUptoCard

/-- THE SECOND FORM's CARD OF 'regencylaw09.TableRemoves'. -/
def tableRemovesUptoCard : Claim7 := { stood := { row := tableRemovesUptoRow, standIns := [], harness := (true, "76320a44147b709613aacd09aa5ab3f95aee2f6d7a0ca77e7927df6b44b4d26d"), looks := true }, kinds := [], alts := [], laidByText := true, laidKinds := [.data, .data, .data, .data, .sentinel, .sentinel, .pinned], laidTests := true, laidLooks := .later }
def TableRemovesUptoCardSaid : Prop := Claim7.holds Tryz.pinned (.plain (OpenSpec.upto tableRemovesSpec)) tableRemovesUptoCard
end Rows
end Go.Proofs.YtgcbfggoddkhnaaGreatDoor
