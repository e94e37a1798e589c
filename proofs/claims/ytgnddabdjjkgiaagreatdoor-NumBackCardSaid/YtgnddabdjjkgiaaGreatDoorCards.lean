/-
  DERIVED. GIVEN WITH THE SEED: THE CARDS: each row of YtgnddabdjjkgiaaGreatDoorRows.lean that lists a variable, with what it lists TIED to the program's text (the seventh form; the later family's looks); each row that meets fmt, with fmt's text TOLD by the authors' own Lean function (tested against real Go, not proved from fmt's source: count such statements apart). THE CARD IS WHAT COUNTS. Prove the row's statement (the work); the ties are given (YtgnddabdjjkgiaaGreatDoorTie.lean); close each card by the builder's one call (the guide's Derived/Test/ToyasCard.lean, 'card_holds'). Laid BY PROGRAM, IN A SANDBOX (cutbox-door.mjs). By AI agents, Wed Nov 11 2026. No macro, syntax, notation, axiom, sorry.
-/
import Derived.Test.YtgnddabdjjkgiaaGreatDoorRows
import GoSem.ClaimSeven
namespace Go.Proofs.YtgnddabdjjkgiaaGreatDoor
namespace Rows

/-- THE TIED CARD OF 'tailracelaw11.NumKnown'. -/
def numKnownCard : Claim7 := { stood := { row := numKnownRow, standIns := [], harness := (true, "de4c14aa42bd5a78e5cf353a9b2dc6e4dc1906d50ba950265d3385e1e7f06dd6"), looks := true }, kinds := [], alts := [], laidByText := true, laidKinds := [.data, .data, .widerDeep, .widerDeep, .data, .data, .data, .data, .data, .sentinel, .sentinel, .pinned, .pinned], laidTests := true, laidLooks := .later }
def NumKnownCardSaid : Prop := Claim7.holds Tryz.pinned (.plain (OpenSpec.ofChange numKnownSpec)) numKnownCard

/-- THE TIED CARD OF 'tailracelaw11.NumPrefix'. -/
def numPrefixCard : Claim7 := { stood := { row := numPrefixRow, standIns := [], harness := (true, "de4c14aa42bd5a78e5cf353a9b2dc6e4dc1906d50ba950265d3385e1e7f06dd6"), looks := true }, kinds := [], alts := [], laidByText := true, laidKinds := [.data, .data, .widerDeep, .widerDeep, .data, .data, .data, .data, .data, .sentinel, .sentinel, .pinned, .pinned], laidTests := true, laidLooks := .later }
def NumPrefixCardSaid : Prop := Claim7.holds Tryz.pinned (.plain (OpenSpec.ofChange numPrefixSpec)) numPrefixCard

/-- THE TIED CARD OF 'tailracelaw11.NumMade'. -/
def numMadeCard : Claim7 := { stood := { row := numMadeRow, standIns := [], harness := (true, "de4c14aa42bd5a78e5cf353a9b2dc6e4dc1906d50ba950265d3385e1e7f06dd6"), looks := true }, kinds := [], alts := [], laidByText := true, laidKinds := [.data, .data, .widerDeep, .widerDeep, .data, .data, .data, .data, .data, .sentinel, .sentinel, .pinned, .pinned], laidTests := true, laidLooks := .later }
def NumMadeCardSaid : Prop := Claim7.holds Tryz.pinned (.plain (OpenSpec.ofChange numMadeSpec)) numMadeCard

/-- THE TIED CARD OF 'tailracelaw11.NumDigits'. -/
def numDigitsCard : Claim7 := { stood := { row := numDigitsRow, standIns := [], harness := (true, "de4c14aa42bd5a78e5cf353a9b2dc6e4dc1906d50ba950265d3385e1e7f06dd6"), looks := true }, kinds := [], alts := [], laidByText := true, laidKinds := [.data, .data, .widerDeep, .widerDeep, .data, .data, .data, .data, .data, .sentinel, .sentinel, .pinned, .pinned], laidTests := true, laidLooks := .later }
def NumDigitsCardSaid : Prop := Claim7.holds Tryz.pinned (.plain (OpenSpec.ofChange numDigitsSpec)) numDigitsCard

/-- THE TIED CARD OF 'tailracelaw11.NumBack'. -/
def numBackCard : Claim7 := { stood := { row := numBackRow, standIns := [], harness := (true, "de4c14aa42bd5a78e5cf353a9b2dc6e4dc1906d50ba950265d3385e1e7f06dd6"), looks := true }, kinds := [], alts := [], laidByText := true, laidKinds := [.data, .data, .widerDeep, .widerDeep, .data, .data, .data, .data, .data, .sentinel, .sentinel, .pinned, .pinned], laidTests := true, laidLooks := .later }
def NumBackCardSaid : Prop := Claim7.holds Tryz.pinned (.plain (OpenSpec.ofChange numBackSpec)) numBackCard

/-- THE SECOND FORM's CARD OF 'tailracelaw11.NumKnown'. -/
def numKnownUptoCard : Claim7 := { stood := { row := numKnownUptoRow, standIns := [], harness := (true, "de4c14aa42bd5a78e5cf353a9b2dc6e4dc1906d50ba950265d3385e1e7f06dd6"), looks := true }, kinds := [], alts := [], laidByText := true, laidKinds := [.data, .data, .widerDeep, .widerDeep, .data, .data, .data, .data, .data, .sentinel, .sentinel, .pinned, .pinned], laidTests := true, laidLooks := .later }
def NumKnownUptoCardSaid : Prop := Claim7.holds Tryz.pinned (.plain (OpenSpec.upto numKnownSpec)) numKnownUptoCard

/-- THE SECOND FORM's CARD OF 'tailracelaw11.NumPrefix'. -/
def numPrefixUptoCard : Claim7 := { stood := { row := numPrefixUptoRow, standIns := [], harness := (true, "de4c14aa42bd5a78e5cf353a9b2dc6e4dc1906d50ba950265d3385e1e7f06dd6"), looks := true }, kinds := [], alts := [], laidByText := true, laidKinds := [.data, .data, .widerDeep, .widerDeep, .data, .data, .data, .data, .data, .sentinel, .sentinel, .pinned, .pinned], laidTests := true, laidLooks := .later }
def NumPrefixUptoCardSaid : Prop := Claim7.holds Tryz.pinned (.plain (OpenSpec.upto numPrefixSpec)) numPrefixUptoCard

/-- THE SECOND FORM's CARD OF 'tailracelaw11.NumMade'. -/
def numMadeUptoCard : Claim7 := { stood := { row := numMadeUptoRow, standIns := [], harness := (true, "de4c14aa42bd5a78e5cf353a9b2dc6e4dc1906d50ba950265d3385e1e7f06dd6"), looks := true }, kinds := [], alts := [], laidByText := true, laidKinds := [.data, .data, .widerDeep, .widerDeep, .data, .data, .data, .data, .data, .sentinel, .sentinel, .pinned, .pinned], laidTests := true, laidLooks := .later }
def NumMadeUptoCardSaid : Prop := Claim7.holds Tryz.pinned (.plain (OpenSpec.upto numMadeSpec)) numMadeUptoCard

/-- THE SECOND FORM's CARD OF 'tailracelaw11.NumDigits'. -/
def numDigitsUptoCard : Claim7 := { stood := { row := numDigitsUptoRow, standIns := [], harness := (true, "de4c14aa42bd5a78e5cf353a9b2dc6e4dc1906d50ba950265d3385e1e7f06dd6"), looks := true }, kinds := [], alts := [], laidByText := true, laidKinds := [.data, .data, .widerDeep, .widerDeep, .data, .data, .data, .data, .data, .sentinel, .sentinel, .pinned, .pinned], laidTests := true, laidLooks := .later }
def NumDigitsUptoCardSaid : Prop := Claim7.holds Tryz.pinned (.plain (OpenSpec.upto numDigitsSpec)) numDigitsUptoCard

/-- THE SECOND FORM's CARD OF 'tailracelaw11.NumBack'. -/
def numBackUptoCard : Claim7 := { stood := { row := numBackUptoRow, standIns := [], harness := (true, "de4c14aa42bd5a78e5cf353a9b2dc6e4dc1906d50ba950265d3385e1e7f06dd6"), looks := true }, kinds := [], alts := [], laidByText := true, laidKinds := [.data, .data, .widerDeep, .widerDeep, .data, .data, .data, .data, .data, .sentinel, .sentinel, .pinned, .pinned], laidTests := true, laidLooks := .later }
def NumBackUptoCardSaid : Prop := Claim7.holds Tryz.pinned (.plain (OpenSpec.upto numBackSpec)) numBackUptoCard
end Rows
end Go.Proofs.YtgnddabdjjkgiaaGreatDoor
