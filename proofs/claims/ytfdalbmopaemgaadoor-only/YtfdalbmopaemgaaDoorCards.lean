/-
  DERIVED. GIVEN WITH THE SEED: THE CARDS: each row of YtfdalbmopaemgaaDoorRows.lean that lists a variable, with what it lists TIED to the program's text (the seventh form; the later family's looks); each row that meets fmt, with fmt's text TOLD by the authors' own Lean function (tested against real Go, not proved from fmt's source: count such statements apart). THE CARD IS WHAT COUNTS. Prove the row's statement (the work); the ties are given (YtfdalbmopaemgaaDoorTie.lean); close each card by the builder's one call (the guide's Derived/Test/ToyasCard.lean, 'card_holds'). Laid BY PROGRAM, IN A SANDBOX (cutbox-door.mjs). By AI agents, Wed Nov 11 2026. No macro, syntax, notation, axiom, sorry.
-/
import Derived.Test.YtfdalbmopaemgaaDoorRows
import GoSem.ClaimSeven
namespace Go.Proofs.YtfdalbmopaemgaaDoor
namespace Rows

/-- THE TIED CARD OF 'grovekeep.Both'. -/
def bothCard : Claim7 := { stood := { row := bothRow, standIns := [], harness := (true, "85c898bfa6f04d9500f57ab4decab25693e80f013d140f14adf394d6c7d6f20d"), looks := false }, kinds := [], alts := [], laidByText := true, laidKinds := [.data, .data, .data], laidTests := true, laidLooks := .later }
def BothCardSaid : Prop := Claim7.holds Tryd.pinned (.plain (OpenSpec.ofChange bothSpec)) bothCard

/-- THE TIED CARD OF 'grovekeep.Only'. -/
def onlyCard : Claim7 := { stood := { row := onlyRow, standIns := [], harness := (true, "85c898bfa6f04d9500f57ab4decab25693e80f013d140f14adf394d6c7d6f20d"), looks := false }, kinds := [], alts := [], laidByText := true, laidKinds := [.data, .data, .data], laidTests := true, laidLooks := .later }
def OnlyCardSaid : Prop := Claim7.holds Tryd.pinned (.plain (OpenSpec.ofChange onlySpec)) onlyCard

/-- THE SECOND FORM's CARD OF 'grovekeep.Both'. -/
def bothUptoCard : Claim7 := { stood := { row := bothUptoRow, standIns := [], harness := (true, "85c898bfa6f04d9500f57ab4decab25693e80f013d140f14adf394d6c7d6f20d"), looks := false }, kinds := [], alts := [], laidByText := true, laidKinds := [.data, .data, .data], laidTests := true, laidLooks := .later }
def BothUptoCardSaid : Prop := Claim7.holds Tryd.pinned (.plain (OpenSpec.upto bothSpec)) bothUptoCard

/-- THE SECOND FORM's CARD OF 'grovekeep.Only'. -/
def onlyUptoCard : Claim7 := { stood := { row := onlyUptoRow, standIns := [], harness := (true, "85c898bfa6f04d9500f57ab4decab25693e80f013d140f14adf394d6c7d6f20d"), looks := false }, kinds := [], alts := [], laidByText := true, laidKinds := [.data, .data, .data], laidTests := true, laidLooks := .later }
def OnlyUptoCardSaid : Prop := Claim7.holds Tryd.pinned (.plain (OpenSpec.upto onlySpec)) onlyUptoCard
end Rows
end Go.Proofs.YtfdalbmopaemgaaDoor
