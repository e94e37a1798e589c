/-
  DERIVED. GIVEN WITH THE SEED: THE CARDS: each row of YtannbdbhkhmppaaGreatDoorRows.lean that lists a variable, with what it lists TIED to the program's text (the seventh form; the later family's looks); each row that meets fmt, with fmt's text TOLD by the authors' own Lean function (tested against real Go, not proved from fmt's source: count such statements apart). THE CARD IS WHAT COUNTS. Prove the row's statement (the work); the ties are given (YtannbdbhkhmppaaGreatDoorTie.lean); close each card by the builder's one call (the guide's Derived/Test/ToyasCard.lean, 'card_holds'). Laid BY PROGRAM, IN A SANDBOX (cutbox-door.mjs). By AI agents, Wed Nov 11 2026. No macro, syntax, notation, axiom, sorry.
-/
import Derived.Test.YtannbdbhkhmppaaGreatDoorRows
import GoSem.ClaimSeven
namespace Go.Proofs.YtannbdbhkhmppaaGreatDoor
namespace Rows

/-- THE TIED CARD OF 'tailracelaw12.FormKnown'. -/
def formKnownCard : Claim7 := { stood := { row := formKnownRow, standIns := [], harness := (true, "aa8b8083e78a1692d2c1b55db9e92e3705537f2281bb97faa83b7c7ebb6e4522"), looks := false }, kinds := [], alts := [], laidByText := true, laidKinds := [.data, .data, .data, .data, .data, .pinned, .pinned, .pinned, .pinned], laidTests := true, laidLooks := .later }
def FormKnownCardSaid : Prop := Claim7.holds Tryz.pinned (.plain (OpenSpec.ofChange formKnownSpec)) formKnownCard

/-- THE SECOND FORM's CARD OF 'tailracelaw12.FormKnown'. -/
def formKnownUptoCard : Claim7 := { stood := { row := formKnownUptoRow, standIns := [], harness := (true, "aa8b8083e78a1692d2c1b55db9e92e3705537f2281bb97faa83b7c7ebb6e4522"), looks := false }, kinds := [], alts := [], laidByText := true, laidKinds := [.data, .data, .data, .data, .data, .pinned, .pinned, .pinned, .pinned], laidTests := true, laidLooks := .later }
def FormKnownUptoCardSaid : Prop := Claim7.holds Tryz.pinned (.plain (OpenSpec.upto formKnownSpec)) formKnownUptoCard
end Rows
end Go.Proofs.YtannbdbhkhmppaaGreatDoor
