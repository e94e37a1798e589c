/-
  DERIVED. GIVEN WITH THE SEED: THE CARDS: each row of YtgejeocojmpdjabGreatDoorRows.lean that lists a variable, with what it lists TIED to the program's text (the seventh form; the later family's looks); each row that meets fmt, with fmt's text TOLD by the authors' own Lean function (tested against real Go, not proved from fmt's source: count such statements apart). THE CARD IS WHAT COUNTS. Prove the row's statement (the work); the ties are given (YtgejeocojmpdjabGreatDoorTie.lean); close each card by the builder's one call (the guide's Derived/Test/ToyasCard.lean, 'card_holds'). Laid BY PROGRAM, IN A SANDBOX (cutbox-door.mjs). By AI agents, Wed Nov 11 2026. No macro, syntax, notation, axiom, sorry.
-/
import Derived.Test.YtgejeocojmpdjabGreatDoorRows
import GoSem.ClaimSeven
namespace Go.Proofs.YtgejeocojmpdjabGreatDoor
namespace Rows

/-- THE TIED CARD OF 'tailracelaw12.FormKnown'. -/
def formKnownCard : Claim7 := { stood := { row := formKnownRow, standIns := [], harness := (true, "019fefbef2ef62e08d2c5aaca8ae08ef8eb4f43e253a727003f28591a73ec628"), looks := false }, kinds := [], alts := [], laidByText := true, laidKinds := [.data, .data, .data, .data, .data, .pinned, .pinned, .pinned, .pinned], laidTests := true, laidLooks := .later }
def FormKnownCardSaid : Prop := Claim7.holds Tryz.pinned (.plain (OpenSpec.ofChange formKnownSpec)) formKnownCard

/-- THE TIED CARD OF 'tailracelaw12.FormAny'. -/
def formAnyCard : Claim7 := { stood := { row := formAnyRow, standIns := [], harness := (true, "019fefbef2ef62e08d2c5aaca8ae08ef8eb4f43e253a727003f28591a73ec628"), looks := false }, kinds := [], alts := [], laidByText := true, laidKinds := [.data, .data, .data, .data, .data, .pinned, .pinned, .pinned, .pinned], laidTests := true, laidLooks := .later }
def FormAnyCardSaid : Prop := Claim7.holds Tryz.pinned (.plain (OpenSpec.ofChange formAnySpec)) formAnyCard

/-- THE TIED CARD OF 'tailracelaw12.FormNear'. -/
def formNearCard : Claim7 := { stood := { row := formNearRow, standIns := [], harness := (true, "019fefbef2ef62e08d2c5aaca8ae08ef8eb4f43e253a727003f28591a73ec628"), looks := false }, kinds := [], alts := [], laidByText := true, laidKinds := [.data, .data, .data, .data, .data, .pinned, .pinned, .pinned, .pinned], laidTests := true, laidLooks := .later }
def FormNearCardSaid : Prop := Claim7.holds Tryz.pinned (.plain (OpenSpec.ofChange formNearSpec)) formNearCard

/-- THE TIED CARD OF 'tailracelaw12.FormOne'. -/
def formOneCard : Claim7 := { stood := { row := formOneRow, standIns := [], harness := (true, "019fefbef2ef62e08d2c5aaca8ae08ef8eb4f43e253a727003f28591a73ec628"), looks := false }, kinds := [], alts := [], laidByText := true, laidKinds := [.data, .data, .data, .data, .data, .pinned, .pinned, .pinned, .pinned], laidTests := true, laidLooks := .later }
def FormOneCardSaid : Prop := Claim7.holds Tryz.pinned (.plain (OpenSpec.ofChange formOneSpec)) formOneCard

/-- THE TIED CARD OF 'tailracelaw12.FormNumber'. -/
def formNumberCard : Claim7 := { stood := { row := formNumberRow, standIns := [], harness := (true, "019fefbef2ef62e08d2c5aaca8ae08ef8eb4f43e253a727003f28591a73ec628"), looks := false }, kinds := [], alts := [], laidByText := true, laidKinds := [.data, .data, .data, .data, .data, .pinned, .pinned, .pinned, .pinned], laidTests := true, laidLooks := .later }
def FormNumberCardSaid : Prop := Claim7.holds Tryz.pinned (.plain (OpenSpec.ofChange formNumberSpec)) formNumberCard

/-- THE TIED CARD OF 'tailracelaw12.FormWidths'. -/
def formWidthsCard : Claim7 := { stood := { row := formWidthsRow, standIns := [], harness := (true, "019fefbef2ef62e08d2c5aaca8ae08ef8eb4f43e253a727003f28591a73ec628"), looks := false }, kinds := [], alts := [], laidByText := true, laidKinds := [.data, .data, .data, .data, .data, .pinned, .pinned, .pinned, .pinned], laidTests := true, laidLooks := .later }
def FormWidthsCardSaid : Prop := Claim7.holds Tryz.pinned (.plain (OpenSpec.ofChange formWidthsSpec)) formWidthsCard

/-- THE TIED CARD OF 'tailracelaw12.FormPlain'. -/
def formPlainCard : Claim7 := { stood := { row := formPlainRow, standIns := [], harness := (true, "019fefbef2ef62e08d2c5aaca8ae08ef8eb4f43e253a727003f28591a73ec628"), looks := false }, kinds := [], alts := [], laidByText := true, laidKinds := [.data, .data, .data, .data, .data, .pinned, .pinned, .pinned, .pinned], laidTests := true, laidLooks := .later }
def FormPlainCardSaid : Prop := Claim7.holds Tryz.pinned (.plain (OpenSpec.ofChange formPlainSpec)) formPlainCard

/-- THE SECOND FORM's CARD OF 'tailracelaw12.FormKnown'. -/
def formKnownUptoCard : Claim7 := { stood := { row := formKnownUptoRow, standIns := [], harness := (true, "019fefbef2ef62e08d2c5aaca8ae08ef8eb4f43e253a727003f28591a73ec628"), looks := false }, kinds := [], alts := [], laidByText := true, laidKinds := [.data, .data, .data, .data, .data, .pinned, .pinned, .pinned, .pinned], laidTests := true, laidLooks := .later }
def FormKnownUptoCardSaid : Prop := Claim7.holds Tryz.pinned (.plain (OpenSpec.upto formKnownSpec)) formKnownUptoCard

/-- THE SECOND FORM's CARD OF 'tailracelaw12.FormAny'. -/
def formAnyUptoCard : Claim7 := { stood := { row := formAnyUptoRow, standIns := [], harness := (true, "019fefbef2ef62e08d2c5aaca8ae08ef8eb4f43e253a727003f28591a73ec628"), looks := false }, kinds := [], alts := [], laidByText := true, laidKinds := [.data, .data, .data, .data, .data, .pinned, .pinned, .pinned, .pinned], laidTests := true, laidLooks := .later }
def FormAnyUptoCardSaid : Prop := Claim7.holds Tryz.pinned (.plain (OpenSpec.upto formAnySpec)) formAnyUptoCard

/-- THE SECOND FORM's CARD OF 'tailracelaw12.FormNear'. -/
def formNearUptoCard : Claim7 := { stood := { row := formNearUptoRow, standIns := [], harness := (true, "019fefbef2ef62e08d2c5aaca8ae08ef8eb4f43e253a727003f28591a73ec628"), looks := false }, kinds := [], alts := [], laidByText := true, laidKinds := [.data, .data, .data, .data, .data, .pinned, .pinned, .pinned, .pinned], laidTests := true, laidLooks := .later }
def FormNearUptoCardSaid : Prop := Claim7.holds Tryz.pinned (.plain (OpenSpec.upto formNearSpec)) formNearUptoCard

/-- THE SECOND FORM's CARD OF 'tailracelaw12.FormOne'. -/
def formOneUptoCard : Claim7 := { stood := { row := formOneUptoRow, standIns := [], harness := (true, "019fefbef2ef62e08d2c5aaca8ae08ef8eb4f43e253a727003f28591a73ec628"), looks := false }, kinds := [], alts := [], laidByText := true, laidKinds := [.data, .data, .data, .data, .data, .pinned, .pinned, .pinned, .pinned], laidTests := true, laidLooks := .later }
def FormOneUptoCardSaid : Prop := Claim7.holds Tryz.pinned (.plain (OpenSpec.upto formOneSpec)) formOneUptoCard

/-- THE SECOND FORM's CARD OF 'tailracelaw12.FormNumber'. -/
def formNumberUptoCard : Claim7 := { stood := { row := formNumberUptoRow, standIns := [], harness := (true, "019fefbef2ef62e08d2c5aaca8ae08ef8eb4f43e253a727003f28591a73ec628"), looks := false }, kinds := [], alts := [], laidByText := true, laidKinds := [.data, .data, .data, .data, .data, .pinned, .pinned, .pinned, .pinned], laidTests := true, laidLooks := .later }
def FormNumberUptoCardSaid : Prop := Claim7.holds Tryz.pinned (.plain (OpenSpec.upto formNumberSpec)) formNumberUptoCard

/-- THE SECOND FORM's CARD OF 'tailracelaw12.FormWidths'. -/
def formWidthsUptoCard : Claim7 := { stood := { row := formWidthsUptoRow, standIns := [], harness := (true, "019fefbef2ef62e08d2c5aaca8ae08ef8eb4f43e253a727003f28591a73ec628"), looks := false }, kinds := [], alts := [], laidByText := true, laidKinds := [.data, .data, .data, .data, .data, .pinned, .pinned, .pinned, .pinned], laidTests := true, laidLooks := .later }
def FormWidthsUptoCardSaid : Prop := Claim7.holds Tryz.pinned (.plain (OpenSpec.upto formWidthsSpec)) formWidthsUptoCard

/-- THE SECOND FORM's CARD OF 'tailracelaw12.FormPlain'. -/
def formPlainUptoCard : Claim7 := { stood := { row := formPlainUptoRow, standIns := [], harness := (true, "019fefbef2ef62e08d2c5aaca8ae08ef8eb4f43e253a727003f28591a73ec628"), looks := false }, kinds := [], alts := [], laidByText := true, laidKinds := [.data, .data, .data, .data, .data, .pinned, .pinned, .pinned, .pinned], laidTests := true, laidLooks := .later }
def FormPlainUptoCardSaid : Prop := Claim7.holds Tryz.pinned (.plain (OpenSpec.upto formPlainSpec)) formPlainUptoCard
end Rows
end Go.Proofs.YtgejeocojmpdjabGreatDoor
