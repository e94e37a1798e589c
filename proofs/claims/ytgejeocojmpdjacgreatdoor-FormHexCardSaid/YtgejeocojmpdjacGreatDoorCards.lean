/-
  DERIVED. GIVEN WITH THE SEED: THE CARDS: each row of YtgejeocojmpdjacGreatDoorRows.lean that lists a variable, with what it lists TIED to the program's text (the seventh form; the later family's looks); each row that meets fmt, with fmt's text TOLD by the authors' own Lean function (tested against real Go, not proved from fmt's source: count such statements apart). THE CARD IS WHAT COUNTS. Prove the row's statement (the work); the ties are given (YtgejeocojmpdjacGreatDoorTie.lean); close each card by the builder's one call (the guide's Derived/Test/ToyasCard.lean, 'card_holds'). Laid BY PROGRAM, IN A SANDBOX (cutbox-door.mjs). By AI agents, Wed Nov 11 2026. No macro, syntax, notation, axiom, sorry.
-/
import Derived.Test.YtgejeocojmpdjacGreatDoorRows
import GoSem.ClaimSeven
namespace Go.Proofs.YtgejeocojmpdjacGreatDoor
namespace Rows

/-- THE TIED CARD OF 'tailracelaw12.FormHex'. -/
def formHexCard : Claim7 := { stood := { row := formHexRow, standIns := [], harness := (true, "01ddd65e79fe73a1efea6926524b4c2a1519a5a5358c83373f8bed9d6737b6e3"), looks := false }, kinds := [], alts := [], laidByText := true, laidKinds := [.data, .data, .data, .data, .data, .pinned, .pinned, .pinned, .pinned], laidTests := true, laidLooks := .later }
def FormHexCardSaid : Prop := Claim7.holds Tryz.pinned (.plain (OpenSpec.ofChange formHexSpec)) formHexCard

/-- THE SECOND FORM's CARD OF 'tailracelaw12.FormHex'. -/
def formHexUptoCard : Claim7 := { stood := { row := formHexUptoRow, standIns := [], harness := (true, "01ddd65e79fe73a1efea6926524b4c2a1519a5a5358c83373f8bed9d6737b6e3"), looks := false }, kinds := [], alts := [], laidByText := true, laidKinds := [.data, .data, .data, .data, .data, .pinned, .pinned, .pinned, .pinned], laidTests := true, laidLooks := .later }
def FormHexUptoCardSaid : Prop := Claim7.holds Tryz.pinned (.plain (OpenSpec.upto formHexSpec)) formHexUptoCard
end Rows
end Go.Proofs.YtgejeocojmpdjacGreatDoor
