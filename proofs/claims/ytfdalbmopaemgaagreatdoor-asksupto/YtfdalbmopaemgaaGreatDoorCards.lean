/-
  DERIVED. GIVEN WITH THE SEED: THE CARDS: each row of YtfdalbmopaemgaaGreatDoorRows.lean that lists a variable, with what it lists TIED to the program's text (the seventh form; the later family's looks); each row that meets fmt, with fmt's text TOLD by the authors' own Lean function (tested against real Go, not proved from fmt's source: count such statements apart). THE CARD IS WHAT COUNTS. Prove the row's statement (the work); the ties are given (YtfdalbmopaemgaaGreatDoorTie.lean); close each card by the builder's one call (the guide's Derived/Test/ToyasCard.lean, 'card_holds'). Laid BY PROGRAM, IN A SANDBOX (cutbox-door.mjs). By AI agents, Wed Nov 11 2026. No macro, syntax, notation, axiom, sorry.
-/
import Derived.Test.YtfdalbmopaemgaaGreatDoorRows
import GoSem.ClaimSeven
namespace Go.Proofs.YtfdalbmopaemgaaGreatDoor
namespace Rows

/-- THE TIED CARD OF 'grovelaw.Prints'. -/
def printsCard : Claim7 := { stood := { row := printsRow, standIns := [], harness := (true, "975c7dbc8f97946eff2b82b9afcbece6c278c8f41224276adad0b38f0690ff26"), looks := false }, kinds := [], alts := [], laidByText := true, laidKinds := [.data, .data, .data], laidTests := true, laidLooks := .later }
def PrintsCardSaid : Prop := Claim7.holds Tryz.pinned (.plain (OpenSpec.ofChange printsSpec)) printsCard

/-- THE TIED CARD OF 'grovelaw.Parses'. -/
def parsesCard : Claim7 := { stood := { row := parsesRow, standIns := [], harness := (true, "975c7dbc8f97946eff2b82b9afcbece6c278c8f41224276adad0b38f0690ff26"), looks := false }, kinds := [], alts := [], laidByText := true, laidKinds := [.data, .data, .data], laidTests := true, laidLooks := .later }
def ParsesCardSaid : Prop := Claim7.holds Tryz.pinned (.plain (OpenSpec.ofChange parsesSpec)) parsesCard

/-- THE TIED CARD OF 'grovelaw.Checks'. -/
def checksCard : Claim7 := { stood := { row := checksRow, standIns := [], harness := (true, "975c7dbc8f97946eff2b82b9afcbece6c278c8f41224276adad0b38f0690ff26"), looks := false }, kinds := [], alts := [], laidByText := true, laidKinds := [.data, .data, .data], laidTests := true, laidLooks := .later }
def ChecksCardSaid : Prop := Claim7.holds Tryz.pinned (.plain (OpenSpec.ofChange checksSpec)) checksCard

/-- THE TIED CARD OF 'grovelaw.Replays'. -/
def replaysCard : Claim7 := { stood := { row := replaysRow, standIns := [], harness := (true, "975c7dbc8f97946eff2b82b9afcbece6c278c8f41224276adad0b38f0690ff26"), looks := false }, kinds := [], alts := [], laidByText := true, laidKinds := [.data, .data, .data], laidTests := true, laidLooks := .later }
def ReplaysCardSaid : Prop := Claim7.holds Tryz.pinned (.plain (OpenSpec.ofChange replaysSpec)) replaysCard

/-- THE TIED CARD OF 'grovelaw.Acts'. -/
def actsCard : Claim7 := { stood := { row := actsRow, standIns := [], harness := (true, "975c7dbc8f97946eff2b82b9afcbece6c278c8f41224276adad0b38f0690ff26"), looks := false }, kinds := [], alts := [], laidByText := true, laidKinds := [.data, .data, .data], laidTests := true, laidLooks := .later }
def ActsCardSaid : Prop := Claim7.holds Tryz.pinned (.plain (OpenSpec.ofChange actsSpec)) actsCard

/-- THE TIED CARD OF 'grovelaw.Asks'. -/
def asksCard : Claim7 := { stood := { row := asksRow, standIns := [], harness := (true, "975c7dbc8f97946eff2b82b9afcbece6c278c8f41224276adad0b38f0690ff26"), looks := false }, kinds := [], alts := [], laidByText := true, laidKinds := [.data, .data, .data], laidTests := true, laidLooks := .later }
def AsksCardSaid : Prop := Claim7.holds Tryz.pinned (.plain (OpenSpec.ofChange asksSpec)) asksCard

/-- THE SECOND FORM's CARD OF 'grovelaw.Prints'. -/
def printsUptoCard : Claim7 := { stood := { row := printsUptoRow, standIns := [], harness := (true, "975c7dbc8f97946eff2b82b9afcbece6c278c8f41224276adad0b38f0690ff26"), looks := false }, kinds := [], alts := [], laidByText := true, laidKinds := [.data, .data, .data], laidTests := true, laidLooks := .later }
def PrintsUptoCardSaid : Prop := Claim7.holds Tryz.pinned (.plain (OpenSpec.upto printsSpec)) printsUptoCard

/-- THE SECOND FORM's CARD OF 'grovelaw.Parses'. -/
def parsesUptoCard : Claim7 := { stood := { row := parsesUptoRow, standIns := [], harness := (true, "975c7dbc8f97946eff2b82b9afcbece6c278c8f41224276adad0b38f0690ff26"), looks := false }, kinds := [], alts := [], laidByText := true, laidKinds := [.data, .data, .data], laidTests := true, laidLooks := .later }
def ParsesUptoCardSaid : Prop := Claim7.holds Tryz.pinned (.plain (OpenSpec.upto parsesSpec)) parsesUptoCard

/-- THE SECOND FORM's CARD OF 'grovelaw.Checks'. -/
def checksUptoCard : Claim7 := { stood := { row := checksUptoRow, standIns := [], harness := (true, "975c7dbc8f97946eff2b82b9afcbece6c278c8f41224276adad0b38f0690ff26"), looks := false }, kinds := [], alts := [], laidByText := true, laidKinds := [.data, .data, .data], laidTests := true, laidLooks := .later }
def ChecksUptoCardSaid : Prop := Claim7.holds Tryz.pinned (.plain (OpenSpec.upto checksSpec)) checksUptoCard

/-- THE SECOND FORM's CARD OF 'grovelaw.Replays'. -/
def replaysUptoCard : Claim7 := { stood := { row := replaysUptoRow, standIns := [], harness := (true, "975c7dbc8f97946eff2b82b9afcbece6c278c8f41224276adad0b38f0690ff26"), looks := false }, kinds := [], alts := [], laidByText := true, laidKinds := [.data, .data, .data], laidTests := true, laidLooks := .later }
def ReplaysUptoCardSaid : Prop := Claim7.holds Tryz.pinned (.plain (OpenSpec.upto replaysSpec)) replaysUptoCard

/-- THE SECOND FORM's CARD OF 'grovelaw.Acts'. -/
def actsUptoCard : Claim7 := { stood := { row := actsUptoRow, standIns := [], harness := (true, "975c7dbc8f97946eff2b82b9afcbece6c278c8f41224276adad0b38f0690ff26"), looks := false }, kinds := [], alts := [], laidByText := true, laidKinds := [.data, .data, .data], laidTests := true, laidLooks := .later }
def ActsUptoCardSaid : Prop := Claim7.holds Tryz.pinned (.plain (OpenSpec.upto actsSpec)) actsUptoCard

/-- THE SECOND FORM's CARD OF 'grovelaw.Asks'. -/
def asksUptoCard : Claim7 := { stood := { row := asksUptoRow, standIns := [], harness := (true, "975c7dbc8f97946eff2b82b9afcbece6c278c8f41224276adad0b38f0690ff26"), looks := false }, kinds := [], alts := [], laidByText := true, laidKinds := [.data, .data, .data], laidTests := true, laidLooks := .later }
def AsksUptoCardSaid : Prop := Claim7.holds Tryz.pinned (.plain (OpenSpec.upto asksSpec)) asksUptoCard
end Rows
end Go.Proofs.YtfdalbmopaemgaaGreatDoor
