/-
  DERIVED. GIVEN WITH THE SEED: THE CARDS: each row of YtpfpnlhihnfahaaDoorRows.lean that lists a variable, with what it lists TIED to the program's text (the seventh form; the later family's looks); each row that meets fmt, with fmt's text TOLD by the authors' own Lean function (tested against real Go, not proved from fmt's source: count such statements apart). THE CARD IS WHAT COUNTS. Prove the row's statement (the work); the ties are given (YtpfpnlhihnfahaaDoorTie.lean); close each card by the builder's one call (the guide's Derived/Test/ToyasCard.lean, 'card_holds'). Laid BY PROGRAM, IN A SANDBOX (cutbox-door.mjs). By AI agents, Wed Nov 11 2026. No macro, syntax, notation, axiom, sorry.
-/
import Derived.Test.YtpfpnlhihnfahaaDoorRows
import GoSem.ClaimSeven
namespace Go.Proofs.YtpfpnlhihnfahaaDoor
namespace Rows

/-- THE TIED CARD OF 'tailracelaw7.SplitPlays'. -/
def splitPlaysCard : Claim7 := { stood := { row := splitPlaysRow, standIns := [], harness := (true, "df6fc9aa8e3749379c760cdf44ed0e71831d69525a0f6585dc427924e9322314"), looks := false }, kinds := [], alts := [], laidByText := true, laidKinds := [.data], laidTests := true, laidLooks := .later }
def SplitPlaysCardSaid : Prop := Claim7.holds Tryd.pinned (.plain (OpenSpec.ofChange splitPlaysSpec)) splitPlaysCard

/-- THE TIED CARD OF 'tailracelaw7.SplitLaid'. -/
def splitLaidCard : Claim7 := { stood := { row := splitLaidRow, standIns := [], harness := (true, "df6fc9aa8e3749379c760cdf44ed0e71831d69525a0f6585dc427924e9322314"), looks := false }, kinds := [], alts := [], laidByText := true, laidKinds := [.data], laidTests := true, laidLooks := .later }
def SplitLaidCardSaid : Prop := Claim7.holds Tryd.pinned (.plain (OpenSpec.ofChange splitLaidSpec)) splitLaidCard

/-- THE TIED CARD OF 'tailracelaw8.ClassNamed'. -/
def classNamedCard : Claim7 := { stood := { row := classNamedRow, standIns := [], harness := (true, "df6fc9aa8e3749379c760cdf44ed0e71831d69525a0f6585dc427924e9322314"), looks := false }, kinds := [], alts := [], laidByText := true, laidKinds := [.data], laidTests := true, laidLooks := .later }
def ClassNamedCardSaid : Prop := Claim7.holds Tryd.pinned (.plain (OpenSpec.ofChange classNamedSpec)) classNamedCard

/-- THE SECOND FORM's CARD OF 'tailracelaw7.SplitPlays'. -/
def splitPlaysUptoCard : Claim7 := { stood := { row := splitPlaysUptoRow, standIns := [], harness := (true, "df6fc9aa8e3749379c760cdf44ed0e71831d69525a0f6585dc427924e9322314"), looks := false }, kinds := [], alts := [], laidByText := true, laidKinds := [.data], laidTests := true, laidLooks := .later }
def SplitPlaysUptoCardSaid : Prop := Claim7.holds Tryd.pinned (.plain (OpenSpec.upto splitPlaysSpec)) splitPlaysUptoCard

/-- THE SECOND FORM's CARD OF 'tailracelaw7.SplitLaid'. -/
def splitLaidUptoCard : Claim7 := { stood := { row := splitLaidUptoRow, standIns := [], harness := (true, "df6fc9aa8e3749379c760cdf44ed0e71831d69525a0f6585dc427924e9322314"), looks := false }, kinds := [], alts := [], laidByText := true, laidKinds := [.data], laidTests := true, laidLooks := .later }
def SplitLaidUptoCardSaid : Prop := Claim7.holds Tryd.pinned (.plain (OpenSpec.upto splitLaidSpec)) splitLaidUptoCard

/-- THE SECOND FORM's CARD OF 'tailracelaw8.ClassNamed'. -/
def classNamedUptoCard : Claim7 := { stood := { row := classNamedUptoRow, standIns := [], harness := (true, "df6fc9aa8e3749379c760cdf44ed0e71831d69525a0f6585dc427924e9322314"), looks := false }, kinds := [], alts := [], laidByText := true, laidKinds := [.data], laidTests := true, laidLooks := .later }
def ClassNamedUptoCardSaid : Prop := Claim7.holds Tryd.pinned (.plain (OpenSpec.upto classNamedSpec)) classNamedUptoCard
end Rows
end Go.Proofs.YtpfpnlhihnfahaaDoor
