/-
  NARROWER THAN 'FOR EVERY INPUT', by the rows' own cells (each row's printed sentence says how): EreRight: loops · ErePrints: loops.
  DERIVED. THE GIVEN ROWS OF THIS SEAT. 7 by the template 'for every input the law returns true; each argument reads behind the call as it read before'; 0 by the template 'total and deterministic' (their statements: YtdognehkbahmdaaTotals.lean).
  GIVEN WITH THE SEED: the statements are not yours to turn. If you find one false, say at which input.
  Laid BY PROGRAM, IN A SANDBOX (cutbox-rows.mjs): the forced cells as the released guide's own fill.sh prints them over the translation 51142fe667fc6056… (all of the seat's roots in one cut). By AI agents, Wed Nov 11 2026. No macro, syntax, notation, axiom, sorry.
-/
import Derived.Test.YtdognehkbahmdaaChecked
import GoSem.Claim
import GoSem.ClaimJoined
import GoSem.ClaimMapViews
import Derived.JoinedTies
import Derived.KernelRfl
namespace Go.Proofs.Ytdognehkbahmdaa
/- THE CELL 'sum', in the pinned program and in every row, IS THE sha256 OF THE DUMP (.gsa) THAT YtdognehkbahmdaaProg.lean LOADS. Nothing in Lean hashes anything: it is a label: what it is worth is what the hold of that sum in a sandbox is worth. -/
noncomputable def Try.pinned : Pinned := { name := "ytdognehkbahmdaa", sum := "51142fe667fc6056097c1ecaa1e14db842db8293d88828574a77835b034d7cec", checked := Try.checked }
namespace Rows
def none {H : Type} : Left H := { results := [], args := [] }

/-- 'tailracelaw9.EreKnown': WHATEVER THE INPUT: true; the input reads as it did. -/
def ereKnownSpec : ChangeSpec := { name := "ereKnown", fn := fun _ => fun
  | [] => { results := [.lit (.bool true)], args := [] }
  | _ => none }
def ereKnownRow : OpenClaim := { program := "ytdognehkbahmdaa", sum := "51142fe667fc6056097c1ecaa1e14db842db8293d88828574a77835b034d7cec", func := "tailrace/tailracelaw9.EreKnown", spec := "ereKnown", inPlace := ["internal/bytealg.IndexByteString", "internal/bytealg.IndexString", "internal/abi.NoEscape", "internal/bytealg.MakeNoZero"], recurses := true, named := ["internal/bytealg.MaxLen"], apart := false }
def EreKnownSaid : Prop := ereKnownRow.holds Try.pinned (OpenSpec.ofChange ereKnownSpec)

/-- ITS FALSE NEIGHBOUR: 'it returns false'. Refute it at one input. -/
def ereKnownWrong : ChangeSpec := { name := "ereKnown", fn := fun _ => fun
  | [] => { results := [.lit (.bool false)], args := [] }
  | _ => none }
def EreKnownWrongFalsely : Prop := ereKnownRow.holds Try.pinned (OpenSpec.ofChange ereKnownWrong)

/-- 'tailracelaw9.EreTimes': WHATEVER THE INPUT: true; the input reads as it did. -/
def ereTimesSpec : ChangeSpec := { name := "ereTimes", fn := fun _ => fun
  | [d1, d2, d3, d4, d5] => { results := [.lit (.bool true)], args := [d1, d2, d3, d4, d5] }
  | _ => none }
def ereTimesRow : OpenClaim := { program := "ytdognehkbahmdaa", sum := "51142fe667fc6056097c1ecaa1e14db842db8293d88828574a77835b034d7cec", func := "tailrace/tailracelaw9.EreTimes", spec := "ereTimes", inPlace := ["internal/bytealg.IndexByteString", "internal/bytealg.IndexString"], unfollowed := true, recurses := true, named := ["internal/bytealg.MaxLen"], apart := false }
def EreTimesSaid : Prop := ereTimesRow.holds Try.pinned (OpenSpec.ofChange ereTimesSpec)

/-- ITS FALSE NEIGHBOUR: 'it returns false'. Refute it at one input. -/
def ereTimesWrong : ChangeSpec := { name := "ereTimes", fn := fun _ => fun
  | [d1, d2, d3, d4, d5] => { results := [.lit (.bool false)], args := [d1, d2, d3, d4, d5] }
  | _ => none }
def EreTimesWrongFalsely : Prop := ereTimesRow.holds Try.pinned (OpenSpec.ofChange ereTimesWrong)

/-- 'tailracelaw9.EreDeep': WHATEVER THE INPUT: true; the input reads as it did. -/
def ereDeepSpec : ChangeSpec := { name := "ereDeep", fn := fun _ => fun
  | [d1, d2, d3] => { results := [.lit (.bool true)], args := [d1, d2, d3] }
  | _ => none }
def ereDeepRow : OpenClaim := { program := "ytdognehkbahmdaa", sum := "51142fe667fc6056097c1ecaa1e14db842db8293d88828574a77835b034d7cec", func := "tailrace/tailracelaw9.EreDeep", spec := "ereDeep", inPlace := ["internal/bytealg.IndexByteString", "internal/bytealg.IndexString"], recurses := true, named := ["internal/bytealg.MaxLen"], apart := false }
def EreDeepSaid : Prop := ereDeepRow.holds Try.pinned (OpenSpec.ofChange ereDeepSpec)

/-- ITS FALSE NEIGHBOUR: 'it returns false'. Refute it at one input. -/
def ereDeepWrong : ChangeSpec := { name := "ereDeep", fn := fun _ => fun
  | [d1, d2, d3] => { results := [.lit (.bool false)], args := [d1, d2, d3] }
  | _ => none }
def EreDeepWrongFalsely : Prop := ereDeepRow.holds Try.pinned (OpenSpec.ofChange ereDeepWrong)

/-- 'tailracelaw9.EreRight': WHATEVER THE INPUT: true; the input reads as it did. -/
def ereRightSpec : ChangeSpec := { name := "ereRight", fn := fun _ => fun
  | [d1, d2] => { results := [.lit (.bool true)], args := [d1, d2] }
  | _ => none }
def ereRightRow : OpenClaim := { program := "ytdognehkbahmdaa", sum := "51142fe667fc6056097c1ecaa1e14db842db8293d88828574a77835b034d7cec", func := "tailrace/tailracelaw9.EreRight", spec := "ereRight", inPlace := ["internal/bytealg.IndexByteString", "internal/bytealg.IndexString"], unfollowed := true, recurses := true, named := ["internal/bytealg.MaxLen"], loops := true, apart := false }
def EreRightSaid : Prop := ereRightRow.holds Try.pinned (OpenSpec.ofChange ereRightSpec)

/-- ITS FALSE NEIGHBOUR: 'it returns false'. Refute it at one input. -/
def ereRightWrong : ChangeSpec := { name := "ereRight", fn := fun _ => fun
  | [d1, d2] => { results := [.lit (.bool false)], args := [d1, d2] }
  | _ => none }
def EreRightWrongFalsely : Prop := ereRightRow.holds Try.pinned (OpenSpec.ofChange ereRightWrong)

/-- 'tailracelaw9.EreChains': WHATEVER THE INPUT: true; the input reads as it did. -/
def ereChainsSpec : ChangeSpec := { name := "ereChains", fn := fun _ => fun
  | [d1, d2, d3] => { results := [.lit (.bool true)], args := [d1, d2, d3] }
  | _ => none }
def ereChainsRow : OpenClaim := { program := "ytdognehkbahmdaa", sum := "51142fe667fc6056097c1ecaa1e14db842db8293d88828574a77835b034d7cec", func := "tailrace/tailracelaw9.EreChains", spec := "ereChains", inPlace := ["internal/bytealg.IndexByteString", "internal/bytealg.IndexString"], recurses := true, named := ["internal/bytealg.MaxLen"], apart := false }
def EreChainsSaid : Prop := ereChainsRow.holds Try.pinned (OpenSpec.ofChange ereChainsSpec)

/-- ITS FALSE NEIGHBOUR: 'it returns false'. Refute it at one input. -/
def ereChainsWrong : ChangeSpec := { name := "ereChains", fn := fun _ => fun
  | [d1, d2, d3] => { results := [.lit (.bool false)], args := [d1, d2, d3] }
  | _ => none }
def EreChainsWrongFalsely : Prop := ereChainsRow.holds Try.pinned (OpenSpec.ofChange ereChainsWrong)

/-- 'tailracelaw9.ErePrints': WHATEVER THE INPUT: true; the input reads as it did. -/
def erePrintsSpec : ChangeSpec := { name := "erePrints", fn := fun _ => fun
  | [d1, d2, d3] => { results := [.lit (.bool true)], args := [d1, d2, d3] }
  | _ => none }
def erePrintsRow : OpenClaim := { program := "ytdognehkbahmdaa", sum := "51142fe667fc6056097c1ecaa1e14db842db8293d88828574a77835b034d7cec", func := "tailrace/tailracelaw9.ErePrints", spec := "erePrints", inPlace := ["internal/abi.NoEscape", "internal/bytealg.IndexByteString", "internal/bytealg.IndexString"], unfollowed := true, recurses := true, named := ["internal/bytealg.MaxLen"], loops := true, apart := false }
def ErePrintsSaid : Prop := erePrintsRow.holds Try.pinned (OpenSpec.ofChange erePrintsSpec)

/-- ITS FALSE NEIGHBOUR: 'it returns false'. Refute it at one input. -/
def erePrintsWrong : ChangeSpec := { name := "erePrints", fn := fun _ => fun
  | [d1, d2, d3] => { results := [.lit (.bool false)], args := [d1, d2, d3] }
  | _ => none }
def ErePrintsWrongFalsely : Prop := erePrintsRow.holds Try.pinned (OpenSpec.ofChange erePrintsWrong)

/-- 'tailracelaw9.EreQuotes': WHATEVER THE INPUT: true; the input reads as it did. -/
def ereQuotesSpec : ChangeSpec := { name := "ereQuotes", fn := fun _ => fun
  | [d] => { results := [.lit (.bool true)], args := [d] }
  | _ => none }
def ereQuotesRow : OpenClaim := { program := "ytdognehkbahmdaa", sum := "51142fe667fc6056097c1ecaa1e14db842db8293d88828574a77835b034d7cec", func := "tailrace/tailracelaw9.EreQuotes", spec := "ereQuotes", inPlace := ["internal/abi.NoEscape", "internal/bytealg.MakeNoZero", "internal/bytealg.IndexByteString", "internal/bytealg.IndexString"], recurses := true, named := ["internal/bytealg.MaxLen"], apart := false }
def EreQuotesSaid : Prop := ereQuotesRow.holds Try.pinned (OpenSpec.ofChange ereQuotesSpec)

/-- ITS FALSE NEIGHBOUR: 'it returns false'. Refute it at one input. -/
def ereQuotesWrong : ChangeSpec := { name := "ereQuotes", fn := fun _ => fun
  | [d] => { results := [.lit (.bool false)], args := [d] }
  | _ => none }
def EreQuotesWrongFalsely : Prop := ereQuotesRow.holds Try.pinned (OpenSpec.ofChange ereQuotesWrong)

/- THE SECOND FORM. 'bulk': how many values and letters a reading holds, each counted each time it is reached (what is shared counts as often as it is met; a slice's spare places count too). A statement '..UptoSaid' is the law's where the arguments, and the package variables that the reading takes, are together of bulk at most 1048576: NARROWER than '..Said'. Prove '..Said' where nothing that the law and all that it calls make is longer than what came in: it says more and counts as full. Else prove '..UptoSaid'. A law counts once. -/
mutual
def uptoBulk {H : Type} : DataW H → Nat
  | .lit (.string bytes) => bytes.length + 1
  | .lit _ => 1
  | .nil => 1
  | .ptr d => uptoBulk d + 1
  | .slice elems spare => uptoBulkAll elems + uptoBulkAll spare + 1
  | .agg parts => uptoBulkAll parts + 1
  | .iface _ d => uptoBulk d + 1
  | .map entries => uptoBulkEntries entries + 1
  | .held _ => 1
def uptoBulkAll {H : Type} : List (DataW H) → Nat
  | [] => 0
  | d :: r => uptoBulk d + uptoBulkAll r
def uptoBulkEntries {H : Type} : List (Lit × DataW H) → Nat
  | [] => 0
  | x :: r => uptoBulkEntry x + uptoBulkEntries r
def uptoBulkEntry {H : Type} : Lit × DataW H → Nat
  | (.string bytes, d) => bytes.length + uptoBulk d + 1
  | (_, d) => uptoBulk d + 1
 end
def uptoSmall : (H : Type) → List (DataW H) → Bool := fun _ ds => decide (uptoBulkAll ds ≤ 1048576)
def OpenSpec.upto (s : _root_.Go.ChangeSpec) : _root_.Go.OpenSpec := { _root_.Go.OpenSpec.ofChange s with cond := some uptoSmall }

/-- 'tailracelaw9.EreKnown', WHERE WHAT IT READS IS OF BULK AT MOST 1048576: true; the input reads as it did. -/
def ereKnownUptoRow : OpenClaim := { program := "ytdognehkbahmdaa", sum := "51142fe667fc6056097c1ecaa1e14db842db8293d88828574a77835b034d7cec", func := "tailrace/tailracelaw9.EreKnown", spec := "ereKnown", inPlace := ["internal/bytealg.IndexByteString", "internal/bytealg.IndexString", "internal/abi.NoEscape", "internal/bytealg.MakeNoZero"], recurses := true, named := ["internal/bytealg.MaxLen"], apart := false, narrowed := true }
def EreKnownUptoSaid : Prop := ereKnownUptoRow.holds Try.pinned (OpenSpec.upto ereKnownSpec)

/-- 'tailracelaw9.EreTimes', WHERE WHAT IT READS IS OF BULK AT MOST 1048576: true; the input reads as it did. -/
def ereTimesUptoRow : OpenClaim := { program := "ytdognehkbahmdaa", sum := "51142fe667fc6056097c1ecaa1e14db842db8293d88828574a77835b034d7cec", func := "tailrace/tailracelaw9.EreTimes", spec := "ereTimes", inPlace := ["internal/bytealg.IndexByteString", "internal/bytealg.IndexString"], unfollowed := true, recurses := true, named := ["internal/bytealg.MaxLen"], apart := false, narrowed := true }
def EreTimesUptoSaid : Prop := ereTimesUptoRow.holds Try.pinned (OpenSpec.upto ereTimesSpec)

/-- 'tailracelaw9.EreDeep', WHERE WHAT IT READS IS OF BULK AT MOST 1048576: true; the input reads as it did. -/
def ereDeepUptoRow : OpenClaim := { program := "ytdognehkbahmdaa", sum := "51142fe667fc6056097c1ecaa1e14db842db8293d88828574a77835b034d7cec", func := "tailrace/tailracelaw9.EreDeep", spec := "ereDeep", inPlace := ["internal/bytealg.IndexByteString", "internal/bytealg.IndexString"], recurses := true, named := ["internal/bytealg.MaxLen"], apart := false, narrowed := true }
def EreDeepUptoSaid : Prop := ereDeepUptoRow.holds Try.pinned (OpenSpec.upto ereDeepSpec)

/-- 'tailracelaw9.EreRight', WHERE WHAT IT READS IS OF BULK AT MOST 1048576: true; the input reads as it did. -/
def ereRightUptoRow : OpenClaim := { program := "ytdognehkbahmdaa", sum := "51142fe667fc6056097c1ecaa1e14db842db8293d88828574a77835b034d7cec", func := "tailrace/tailracelaw9.EreRight", spec := "ereRight", inPlace := ["internal/bytealg.IndexByteString", "internal/bytealg.IndexString"], unfollowed := true, recurses := true, named := ["internal/bytealg.MaxLen"], loops := true, apart := false, narrowed := true }
def EreRightUptoSaid : Prop := ereRightUptoRow.holds Try.pinned (OpenSpec.upto ereRightSpec)

/-- 'tailracelaw9.EreChains', WHERE WHAT IT READS IS OF BULK AT MOST 1048576: true; the input reads as it did. -/
def ereChainsUptoRow : OpenClaim := { program := "ytdognehkbahmdaa", sum := "51142fe667fc6056097c1ecaa1e14db842db8293d88828574a77835b034d7cec", func := "tailrace/tailracelaw9.EreChains", spec := "ereChains", inPlace := ["internal/bytealg.IndexByteString", "internal/bytealg.IndexString"], recurses := true, named := ["internal/bytealg.MaxLen"], apart := false, narrowed := true }
def EreChainsUptoSaid : Prop := ereChainsUptoRow.holds Try.pinned (OpenSpec.upto ereChainsSpec)

/-- 'tailracelaw9.ErePrints', WHERE WHAT IT READS IS OF BULK AT MOST 1048576: true; the input reads as it did. -/
def erePrintsUptoRow : OpenClaim := { program := "ytdognehkbahmdaa", sum := "51142fe667fc6056097c1ecaa1e14db842db8293d88828574a77835b034d7cec", func := "tailrace/tailracelaw9.ErePrints", spec := "erePrints", inPlace := ["internal/abi.NoEscape", "internal/bytealg.IndexByteString", "internal/bytealg.IndexString"], unfollowed := true, recurses := true, named := ["internal/bytealg.MaxLen"], loops := true, apart := false, narrowed := true }
def ErePrintsUptoSaid : Prop := erePrintsUptoRow.holds Try.pinned (OpenSpec.upto erePrintsSpec)

/-- 'tailracelaw9.EreQuotes', WHERE WHAT IT READS IS OF BULK AT MOST 1048576: true; the input reads as it did. -/
def ereQuotesUptoRow : OpenClaim := { program := "ytdognehkbahmdaa", sum := "51142fe667fc6056097c1ecaa1e14db842db8293d88828574a77835b034d7cec", func := "tailrace/tailracelaw9.EreQuotes", spec := "ereQuotes", inPlace := ["internal/abi.NoEscape", "internal/bytealg.MakeNoZero", "internal/bytealg.IndexByteString", "internal/bytealg.IndexString"], recurses := true, named := ["internal/bytealg.MaxLen"], apart := false, narrowed := true }
def EreQuotesUptoSaid : Prop := ereQuotesUptoRow.holds Try.pinned (OpenSpec.upto ereQuotesSpec)

end Rows
end Go.Proofs.Ytdognehkbahmdaa
