/-
  NARROWER THAN 'FOR EVERY INPUT', by the rows' own cells (each row's printed sentence says how): NfaTrees: loops · NfaRules: loops · ErePrints: loops.
  DERIVED. THE GIVEN ROWS OF THIS SEAT. 6 by the template 'for every input the law returns true; each argument reads behind the call as it read before'; 0 by the template 'total and deterministic' (their statements: YtaneblecgjahbabTotals.lean).
  GIVEN WITH THE SEED: the statements are not yours to turn. If you find one false, say at which input.
  Laid BY PROGRAM, IN A SANDBOX (cutbox-rows.mjs): the forced cells as the released guide's own fill.sh prints them over the translation 31b3b64fd619a2f6… (all of the seat's roots in one cut). By AI agents, Wed Nov 11 2026. No macro, syntax, notation, axiom, sorry.
-/
import Derived.Test.YtaneblecgjahbabChecked
import GoSem.Claim
import GoSem.ClaimJoined
import GoSem.ClaimMapViews
import Derived.JoinedTies
import Derived.KernelRfl
namespace Go.Proofs.Ytaneblecgjahbab
/- THE CELL 'sum', in the pinned program and in every row, IS THE sha256 OF THE DUMP (.gsa) THAT YtaneblecgjahbabProg.lean LOADS. Nothing in Lean hashes anything: it is a label: what it is worth is what the hold of that sum in a sandbox is worth. -/
noncomputable def Try.pinned : Pinned := { name := "ytaneblecgjahbab", sum := "31b3b64fd619a2f6160abdbf9a573669800d13b3977adc256c5a0f3ff982e894", checked := Try.checked }
namespace Rows
def none {H : Type} : Left H := { results := [], args := [] }

/-- 'tailracelaw10.NfaTrees': WHATEVER THE INPUT: true; the input reads as it did. -/
def nfaTreesSpec : ChangeSpec := { name := "nfaTrees", fn := fun _ => fun
  | [d1, d2] => { results := [.lit (.bool true)], args := [d1, d2] }
  | _ => none }
def nfaTreesRow : OpenClaim := { program := "ytaneblecgjahbab", sum := "31b3b64fd619a2f6160abdbf9a573669800d13b3977adc256c5a0f3ff982e894", func := "tailrace/tailracelaw10.NfaTrees", spec := "nfaTrees", inPlace := ["internal/bytealg.IndexByteString", "internal/bytealg.IndexString"], unfollowed := true, recurses := true, named := ["internal/bytealg.MaxLen"], loops := true, apart := false }
def NfaTreesSaid : Prop := nfaTreesRow.holds Try.pinned (OpenSpec.ofChange nfaTreesSpec)

/-- ITS FALSE NEIGHBOUR: 'it returns false'. Refute it at one input. -/
def nfaTreesWrong : ChangeSpec := { name := "nfaTrees", fn := fun _ => fun
  | [d1, d2] => { results := [.lit (.bool false)], args := [d1, d2] }
  | _ => none }
def NfaTreesWrongFalsely : Prop := nfaTreesRow.holds Try.pinned (OpenSpec.ofChange nfaTreesWrong)

/-- 'tailracelaw10.NfaRules': WHATEVER THE INPUT: true; the input reads as it did. -/
def nfaRulesSpec : ChangeSpec := { name := "nfaRules", fn := fun _ => fun
  | [d1, d2, d3, d4] => { results := [.lit (.bool true)], args := [d1, d2, d3, d4] }
  | _ => none }
def nfaRulesRow : OpenClaim := { program := "ytaneblecgjahbab", sum := "31b3b64fd619a2f6160abdbf9a573669800d13b3977adc256c5a0f3ff982e894", func := "tailrace/tailracelaw10.NfaRules", spec := "nfaRules", inPlace := ["internal/bytealg.IndexByteString", "internal/bytealg.IndexString"], unfollowed := true, recurses := true, named := ["internal/bytealg.MaxLen"], loops := true, apart := false }
def NfaRulesSaid : Prop := nfaRulesRow.holds Try.pinned (OpenSpec.ofChange nfaRulesSpec)

/-- ITS FALSE NEIGHBOUR: 'it returns false'. Refute it at one input. -/
def nfaRulesWrong : ChangeSpec := { name := "nfaRules", fn := fun _ => fun
  | [d1, d2, d3, d4] => { results := [.lit (.bool false)], args := [d1, d2, d3, d4] }
  | _ => none }
def NfaRulesWrongFalsely : Prop := nfaRulesRow.holds Try.pinned (OpenSpec.ofChange nfaRulesWrong)

/-- 'tailracelaw10.NfaQuotes': WHATEVER THE INPUT: true; the input reads as it did. -/
def nfaQuotesSpec : ChangeSpec := { name := "nfaQuotes", fn := fun _ => fun
  | [d1, d2, d3] => { results := [.lit (.bool true)], args := [d1, d2, d3] }
  | _ => none }
def nfaQuotesRow : OpenClaim := { program := "ytaneblecgjahbab", sum := "31b3b64fd619a2f6160abdbf9a573669800d13b3977adc256c5a0f3ff982e894", func := "tailrace/tailracelaw10.NfaQuotes", spec := "nfaQuotes", inPlace := ["internal/abi.NoEscape", "internal/bytealg.MakeNoZero", "internal/bytealg.IndexByteString", "internal/bytealg.IndexString"], unfollowed := true, recurses := true, named := ["internal/bytealg.MaxLen"], apart := false }
def NfaQuotesSaid : Prop := nfaQuotesRow.holds Try.pinned (OpenSpec.ofChange nfaQuotesSpec)

/-- ITS FALSE NEIGHBOUR: 'it returns false'. Refute it at one input. -/
def nfaQuotesWrong : ChangeSpec := { name := "nfaQuotes", fn := fun _ => fun
  | [d1, d2, d3] => { results := [.lit (.bool false)], args := [d1, d2, d3] }
  | _ => none }
def NfaQuotesWrongFalsely : Prop := nfaQuotesRow.holds Try.pinned (OpenSpec.ofChange nfaQuotesWrong)

/-- 'tailracelaw10.NfaLong': WHATEVER THE INPUT: true; the input reads as it did. -/
def nfaLongSpec : ChangeSpec := { name := "nfaLong", fn := fun _ => fun
  | [d1, d2] => { results := [.lit (.bool true)], args := [d1, d2] }
  | _ => none }
def nfaLongRow : OpenClaim := { program := "ytaneblecgjahbab", sum := "31b3b64fd619a2f6160abdbf9a573669800d13b3977adc256c5a0f3ff982e894", func := "tailrace/tailracelaw10.NfaLong", spec := "nfaLong", inPlace := ["internal/bytealg.IndexByteString", "internal/bytealg.IndexString"], unfollowed := true, recurses := true, named := ["internal/bytealg.MaxLen"], apart := false }
def NfaLongSaid : Prop := nfaLongRow.holds Try.pinned (OpenSpec.ofChange nfaLongSpec)

/-- ITS FALSE NEIGHBOUR: 'it returns false'. Refute it at one input. -/
def nfaLongWrong : ChangeSpec := { name := "nfaLong", fn := fun _ => fun
  | [d1, d2] => { results := [.lit (.bool false)], args := [d1, d2] }
  | _ => none }
def NfaLongWrongFalsely : Prop := nfaLongRow.holds Try.pinned (OpenSpec.ofChange nfaLongWrong)

/-- 'tailracelaw9.EreTimes': WHATEVER THE INPUT: true; the input reads as it did. -/
def ereTimesSpec : ChangeSpec := { name := "ereTimes", fn := fun _ => fun
  | [d1, d2, d3, d4, d5] => { results := [.lit (.bool true)], args := [d1, d2, d3, d4, d5] }
  | _ => none }
def ereTimesRow : OpenClaim := { program := "ytaneblecgjahbab", sum := "31b3b64fd619a2f6160abdbf9a573669800d13b3977adc256c5a0f3ff982e894", func := "tailrace/tailracelaw9.EreTimes", spec := "ereTimes", inPlace := ["internal/bytealg.IndexByteString", "internal/bytealg.IndexString"], unfollowed := true, recurses := true, named := ["internal/bytealg.MaxLen"], apart := false }
def EreTimesSaid : Prop := ereTimesRow.holds Try.pinned (OpenSpec.ofChange ereTimesSpec)

/-- ITS FALSE NEIGHBOUR: 'it returns false'. Refute it at one input. -/
def ereTimesWrong : ChangeSpec := { name := "ereTimes", fn := fun _ => fun
  | [d1, d2, d3, d4, d5] => { results := [.lit (.bool false)], args := [d1, d2, d3, d4, d5] }
  | _ => none }
def EreTimesWrongFalsely : Prop := ereTimesRow.holds Try.pinned (OpenSpec.ofChange ereTimesWrong)

/-- 'tailracelaw9.ErePrints': WHATEVER THE INPUT: true; the input reads as it did. -/
def erePrintsSpec : ChangeSpec := { name := "erePrints", fn := fun _ => fun
  | [d1, d2, d3] => { results := [.lit (.bool true)], args := [d1, d2, d3] }
  | _ => none }
def erePrintsRow : OpenClaim := { program := "ytaneblecgjahbab", sum := "31b3b64fd619a2f6160abdbf9a573669800d13b3977adc256c5a0f3ff982e894", func := "tailrace/tailracelaw9.ErePrints", spec := "erePrints", inPlace := ["internal/abi.NoEscape", "internal/bytealg.IndexByteString", "internal/bytealg.IndexString"], unfollowed := true, recurses := true, named := ["internal/bytealg.MaxLen"], loops := true, apart := false }
def ErePrintsSaid : Prop := erePrintsRow.holds Try.pinned (OpenSpec.ofChange erePrintsSpec)

/-- ITS FALSE NEIGHBOUR: 'it returns false'. Refute it at one input. -/
def erePrintsWrong : ChangeSpec := { name := "erePrints", fn := fun _ => fun
  | [d1, d2, d3] => { results := [.lit (.bool false)], args := [d1, d2, d3] }
  | _ => none }
def ErePrintsWrongFalsely : Prop := erePrintsRow.holds Try.pinned (OpenSpec.ofChange erePrintsWrong)

/- THE SECOND FORM. 'bulk': how many values and letters a reading holds, each counted each time it is reached (what is shared counts as often as it is met; a slice's spare places count too). A statement '..UptoSaid' is the law's where the arguments, and the package variables that the reading takes, are together of bulk at most 1048576: NARROWER than '..Said'. Prove '..Said' where nothing that the law and all that it calls make is longer than what came in: it says more and counts as full. Else prove '..UptoSaid'. A law counts once. -/
mutual
def uptoBulk {H : Type} : DataW H → Nat
  | .lit (.string bytes) => bytes.length + 1
  | .lit _ => 1
  | .nil => 1
  | .ptr d => uptoBulk d + 1
  | .slice elems spare => uptoBulkAll elems + uptoBulkAll spare + 1
  | .agg parts => uptoBulkAll parts + 1
  | .iface _ d => uptoBulk d + 1
  | .map entries => uptoBulkEntries entries + 1
  | .held _ => 1
def uptoBulkAll {H : Type} : List (DataW H) → Nat
  | [] => 0
  | d :: r => uptoBulk d + uptoBulkAll r
def uptoBulkEntries {H : Type} : List (Lit × DataW H) → Nat
  | [] => 0
  | x :: r => uptoBulkEntry x + uptoBulkEntries r
def uptoBulkEntry {H : Type} : Lit × DataW H → Nat
  | (.string bytes, d) => bytes.length + uptoBulk d + 1
  | (_, d) => uptoBulk d + 1
 end
def uptoSmall : (H : Type) → List (DataW H) → Bool := fun _ ds => decide (uptoBulkAll ds ≤ 1048576)
def OpenSpec.upto (s : _root_.Go.ChangeSpec) : _root_.Go.OpenSpec := { _root_.Go.OpenSpec.ofChange s with cond := some uptoSmall }

/-- 'tailracelaw10.NfaTrees', WHERE WHAT IT READS IS OF BULK AT MOST 1048576: true; the input reads as it did. -/
def nfaTreesUptoRow : OpenClaim := { program := "ytaneblecgjahbab", sum := "31b3b64fd619a2f6160abdbf9a573669800d13b3977adc256c5a0f3ff982e894", func := "tailrace/tailracelaw10.NfaTrees", spec := "nfaTrees", inPlace := ["internal/bytealg.IndexByteString", "internal/bytealg.IndexString"], unfollowed := true, recurses := true, named := ["internal/bytealg.MaxLen"], loops := true, apart := false, narrowed := true }
def NfaTreesUptoSaid : Prop := nfaTreesUptoRow.holds Try.pinned (OpenSpec.upto nfaTreesSpec)

/-- 'tailracelaw10.NfaRules', WHERE WHAT IT READS IS OF BULK AT MOST 1048576: true; the input reads as it did. -/
def nfaRulesUptoRow : OpenClaim := { program := "ytaneblecgjahbab", sum := "31b3b64fd619a2f6160abdbf9a573669800d13b3977adc256c5a0f3ff982e894", func := "tailrace/tailracelaw10.NfaRules", spec := "nfaRules", inPlace := ["internal/bytealg.IndexByteString", "internal/bytealg.IndexString"], unfollowed := true, recurses := true, named := ["internal/bytealg.MaxLen"], loops := true, apart := false, narrowed := true }
def NfaRulesUptoSaid : Prop := nfaRulesUptoRow.holds Try.pinned (OpenSpec.upto nfaRulesSpec)

/-- 'tailracelaw10.NfaQuotes', WHERE WHAT IT READS IS OF BULK AT MOST 1048576: true; the input reads as it did. -/
def nfaQuotesUptoRow : OpenClaim := { program := "ytaneblecgjahbab", sum := "31b3b64fd619a2f6160abdbf9a573669800d13b3977adc256c5a0f3ff982e894", func := "tailrace/tailracelaw10.NfaQuotes", spec := "nfaQuotes", inPlace := ["internal/abi.NoEscape", "internal/bytealg.MakeNoZero", "internal/bytealg.IndexByteString", "internal/bytealg.IndexString"], unfollowed := true, recurses := true, named := ["internal/bytealg.MaxLen"], apart := false, narrowed := true }
def NfaQuotesUptoSaid : Prop := nfaQuotesUptoRow.holds Try.pinned (OpenSpec.upto nfaQuotesSpec)

/-- 'tailracelaw10.NfaLong', WHERE WHAT IT READS IS OF BULK AT MOST 1048576: true; the input reads as it did. -/
def nfaLongUptoRow : OpenClaim := { program := "ytaneblecgjahbab", sum := "31b3b64fd619a2f6160abdbf9a573669800d13b3977adc256c5a0f3ff982e894", func := "tailrace/tailracelaw10.NfaLong", spec := "nfaLong", inPlace := ["internal/bytealg.IndexByteString", "internal/bytealg.IndexString"], unfollowed := true, recurses := true, named := ["internal/bytealg.MaxLen"], apart := false, narrowed := true }
def NfaLongUptoSaid : Prop := nfaLongUptoRow.holds Try.pinned (OpenSpec.upto nfaLongSpec)

/-- 'tailracelaw9.EreTimes', WHERE WHAT IT READS IS OF BULK AT MOST 1048576: true; the input reads as it did. -/
def ereTimesUptoRow : OpenClaim := { program := "ytaneblecgjahbab", sum := "31b3b64fd619a2f6160abdbf9a573669800d13b3977adc256c5a0f3ff982e894", func := "tailrace/tailracelaw9.EreTimes", spec := "ereTimes", inPlace := ["internal/bytealg.IndexByteString", "internal/bytealg.IndexString"], unfollowed := true, recurses := true, named := ["internal/bytealg.MaxLen"], apart := false, narrowed := true }
def EreTimesUptoSaid : Prop := ereTimesUptoRow.holds Try.pinned (OpenSpec.upto ereTimesSpec)

/-- 'tailracelaw9.ErePrints', WHERE WHAT IT READS IS OF BULK AT MOST 1048576: true; the input reads as it did. -/
def erePrintsUptoRow : OpenClaim := { program := "ytaneblecgjahbab", sum := "31b3b64fd619a2f6160abdbf9a573669800d13b3977adc256c5a0f3ff982e894", func := "tailrace/tailracelaw9.ErePrints", spec := "erePrints", inPlace := ["internal/abi.NoEscape", "internal/bytealg.IndexByteString", "internal/bytealg.IndexString"], unfollowed := true, recurses := true, named := ["internal/bytealg.MaxLen"], loops := true, apart := false, narrowed := true }
def ErePrintsUptoSaid : Prop := erePrintsUptoRow.holds Try.pinned (OpenSpec.upto erePrintsSpec)

end Rows
end Go.Proofs.Ytaneblecgjahbab
