/-
  NARROWER THAN 'FOR EVERY INPUT', by the rows' own cells (each row's printed sentence says how): SplitPlays: laid · SplitLaid: laid · ClassNamed: laid.
  DERIVED. THE GIVEN ROWS OF THIS SEAT. 3 by the template 'for every input the law returns true; each argument reads behind the call as it read before'; 0 by the template 'total and deterministic' (their statements: YtpfpnlhihnfahaaDoorTotals.lean).
  GIVEN WITH THE SEED: the statements are not yours to turn. If you find one false, say at which input.
  Laid BY PROGRAM, IN A SANDBOX (cutbox-rows.mjs): the forced cells as the released guide's own fill.sh prints them over the translation 393882de6488fcc8… (all of the seat's roots in one cut). By AI agents, Wed Nov 11 2026. No macro, syntax, notation, axiom, sorry.
-/
import Derived.Test.YtpfpnlhihnfahaaDoorChecked
import GoSem.Claim
import GoSem.ClaimJoined
import GoSem.ClaimMapViews
import Derived.JoinedTies
import Derived.KernelRfl
namespace Go.Proofs.YtpfpnlhihnfahaaDoor
/- THE CELL 'sum', in the pinned program and in every row, IS THE sha256 OF THE DUMP (.gsa) THAT YtpfpnlhihnfahaaDoorProg.lean LOADS. Nothing in Lean hashes anything: it is a label: what it is worth is what the hold of that sum in a sandbox is worth. -/
noncomputable def Tryd.pinned : Pinned := { name := "ytpfpnlhihnfahaadoor", sum := "393882de6488fcc8645897711e72ec060ab5186b820d29f4a9bf214c0f54e823", checked := Tryd.checked }
namespace Rows
def none {H : Type} : Left H := { results := [], args := [] }

/- WHAT THE LISTED PACKAGE-LEVEL VARIABLES READ AS WHEN THE CALL BEGINS. Each datum BY PROGRAM (the guide's laid-datum.mjs) off the statement by which the dump's own 'gosem.cut.vars' lays the variable. In a bare row this is a premise. The card (YtpfpnlhihnfahaaDoorCards.lean) ties it to the program's text. -/
def laid_tailrace_tailracelaw7_seps {H : Type} : DataW H := .agg [.lit (.string [10]), .lit (.string []), .lit (.string [59]), .lit (.string [10]), .lit (.string [59, 120])]
def laid_tailrace_tailracelaw8_names {H : Type} : DataW H := .agg [.lit (.string [97, 108, 112, 104, 97]), .lit (.string [100, 105, 103, 105, 116]), .lit (.string [97, 108, 110, 117, 109]), .lit (.string [117, 112, 112, 101, 114]), .lit (.string [108, 111, 119, 101, 114]), .lit (.string [115, 112, 97, 99, 101]), .lit (.string [98, 108, 97, 110, 107]), .lit (.string [112, 117, 110, 99, 116]), .lit (.string [112, 114, 105, 110, 116]), .lit (.string [103, 114, 97, 112, 104]), .lit (.string [99, 110, 116, 114, 108]), .lit (.string [120, 100, 105, 103, 105, 116]), .lit (.string [119, 111, 114, 100])]

/-- 'tailracelaw7.SplitPlays': WHATEVER THE INPUT: true; the input reads as it did. -/
def splitPlaysSpec : ChangeSpec := { name := "splitPlays", fn := fun _ => fun
  | [d1, d2] => { results := [.lit (.bool true)], args := [d1, d2] }
  | _ => none }
def splitPlaysRow : OpenClaim := { program := "ytpfpnlhihnfahaadoor", sum := "393882de6488fcc8645897711e72ec060ab5186b820d29f4a9bf214c0f54e823", func := "tailrace/tailracelaw7.SplitPlays", spec := "splitPlays", named := ["tailrace/tailracelaw7.seps"], apart := false, laid := [("tailrace/tailracelaw7.seps", laid_tailrace_tailracelaw7_seps)] }
def SplitPlaysSaid : Prop := splitPlaysRow.holds Tryd.pinned (OpenSpec.ofChange splitPlaysSpec)

/-- ITS FALSE NEIGHBOUR: 'it returns false'. Refute it at one input. -/
def splitPlaysWrong : ChangeSpec := { name := "splitPlays", fn := fun _ => fun
  | [d1, d2] => { results := [.lit (.bool false)], args := [d1, d2] }
  | _ => none }
def SplitPlaysWrongFalsely : Prop := splitPlaysRow.holds Tryd.pinned (OpenSpec.ofChange splitPlaysWrong)

/-- 'tailracelaw7.SplitLaid': WHATEVER THE INPUT: true; the input reads as it did. -/
def splitLaidSpec : ChangeSpec := { name := "splitLaid", fn := fun _ => fun
  | [d1, d2, d3, d4, d5, d6] => { results := [.lit (.bool true)], args := [d1, d2, d3, d4, d5, d6] }
  | _ => none }
def splitLaidRow : OpenClaim := { program := "ytpfpnlhihnfahaadoor", sum := "393882de6488fcc8645897711e72ec060ab5186b820d29f4a9bf214c0f54e823", func := "tailrace/tailracelaw7.SplitLaid", spec := "splitLaid", named := ["tailrace/tailracelaw7.seps"], apart := false, laid := [("tailrace/tailracelaw7.seps", laid_tailrace_tailracelaw7_seps)] }
def SplitLaidSaid : Prop := splitLaidRow.holds Tryd.pinned (OpenSpec.ofChange splitLaidSpec)

/-- ITS FALSE NEIGHBOUR: 'it returns false'. Refute it at one input. -/
def splitLaidWrong : ChangeSpec := { name := "splitLaid", fn := fun _ => fun
  | [d1, d2, d3, d4, d5, d6] => { results := [.lit (.bool false)], args := [d1, d2, d3, d4, d5, d6] }
  | _ => none }
def SplitLaidWrongFalsely : Prop := splitLaidRow.holds Tryd.pinned (OpenSpec.ofChange splitLaidWrong)

/-- 'tailracelaw8.ClassNamed': WHATEVER THE INPUT: true; the input reads as it did. -/
def classNamedSpec : ChangeSpec := { name := "classNamed", fn := fun _ => fun
  | [d1, d2] => { results := [.lit (.bool true)], args := [d1, d2] }
  | _ => none }
def classNamedRow : OpenClaim := { program := "ytpfpnlhihnfahaadoor", sum := "393882de6488fcc8645897711e72ec060ab5186b820d29f4a9bf214c0f54e823", func := "tailrace/tailracelaw8.ClassNamed", spec := "classNamed", inPlace := ["internal/bytealg.IndexByteString", "internal/bytealg.IndexString"], named := ["tailrace/tailracelaw8.names", "internal/bytealg.MaxLen"], apart := false, laid := [("tailrace/tailracelaw8.names", laid_tailrace_tailracelaw8_names)] }
def ClassNamedSaid : Prop := classNamedRow.holds Tryd.pinned (OpenSpec.ofChange classNamedSpec)

/-- ITS FALSE NEIGHBOUR: 'it returns false'. Refute it at one input. -/
def classNamedWrong : ChangeSpec := { name := "classNamed", fn := fun _ => fun
  | [d1, d2] => { results := [.lit (.bool false)], args := [d1, d2] }
  | _ => none }
def ClassNamedWrongFalsely : Prop := classNamedRow.holds Tryd.pinned (OpenSpec.ofChange classNamedWrong)

/- THE SECOND FORM. 'bulk': how many values and letters a reading holds, each counted each time it is reached (what is shared counts as often as it is met; a slice's spare places count too). A statement '..UptoSaid' is the law's where the arguments, and the package variables that the reading takes, are together of bulk at most 1048576: NARROWER than '..Said'. Prove '..Said' where nothing that the law and all that it calls make is longer than what came in: it says more and counts as full. Else prove '..UptoSaid'. A law counts once. -/
mutual
def uptoBulk {H : Type} : DataW H → Nat
  | .lit (.string bytes) => bytes.length + 1
  | .lit _ => 1
  | .nil => 1
  | .ptr d => uptoBulk d + 1
  | .slice elems spare => uptoBulkAll elems + uptoBulkAll spare + 1
  | .agg parts => uptoBulkAll parts + 1
  | .iface _ d => uptoBulk d + 1
  | .map entries => uptoBulkEntries entries + 1
  | .held _ => 1
def uptoBulkAll {H : Type} : List (DataW H) → Nat
  | [] => 0
  | d :: r => uptoBulk d + uptoBulkAll r
def uptoBulkEntries {H : Type} : List (Lit × DataW H) → Nat
  | [] => 0
  | x :: r => uptoBulkEntry x + uptoBulkEntries r
def uptoBulkEntry {H : Type} : Lit × DataW H → Nat
  | (.string bytes, d) => bytes.length + uptoBulk d + 1
  | (_, d) => uptoBulk d + 1
 end
def uptoSmall : (H : Type) → List (DataW H) → Bool := fun _ ds => decide (uptoBulkAll ds ≤ 1048576)
def OpenSpec.upto (s : _root_.Go.ChangeSpec) : _root_.Go.OpenSpec := { _root_.Go.OpenSpec.ofChange s with cond := some uptoSmall }

/-- 'tailracelaw7.SplitPlays', WHERE WHAT IT READS IS OF BULK AT MOST 1048576: true; the input reads as it did. -/
def splitPlaysUptoRow : OpenClaim := { program := "ytpfpnlhihnfahaadoor", sum := "393882de6488fcc8645897711e72ec060ab5186b820d29f4a9bf214c0f54e823", func := "tailrace/tailracelaw7.SplitPlays", spec := "splitPlays", named := ["tailrace/tailracelaw7.seps"], apart := false, laid := [("tailrace/tailracelaw7.seps", laid_tailrace_tailracelaw7_seps)], narrowed := true }
def SplitPlaysUptoSaid : Prop := splitPlaysUptoRow.holds Tryd.pinned (OpenSpec.upto splitPlaysSpec)

/-- 'tailracelaw7.SplitLaid', WHERE WHAT IT READS IS OF BULK AT MOST 1048576: true; the input reads as it did. -/
def splitLaidUptoRow : OpenClaim := { program := "ytpfpnlhihnfahaadoor", sum := "393882de6488fcc8645897711e72ec060ab5186b820d29f4a9bf214c0f54e823", func := "tailrace/tailracelaw7.SplitLaid", spec := "splitLaid", named := ["tailrace/tailracelaw7.seps"], apart := false, laid := [("tailrace/tailracelaw7.seps", laid_tailrace_tailracelaw7_seps)], narrowed := true }
def SplitLaidUptoSaid : Prop := splitLaidUptoRow.holds Tryd.pinned (OpenSpec.upto splitLaidSpec)

/-- 'tailracelaw8.ClassNamed', WHERE WHAT IT READS IS OF BULK AT MOST 1048576: true; the input reads as it did. -/
def classNamedUptoRow : OpenClaim := { program := "ytpfpnlhihnfahaadoor", sum := "393882de6488fcc8645897711e72ec060ab5186b820d29f4a9bf214c0f54e823", func := "tailrace/tailracelaw8.ClassNamed", spec := "classNamed", inPlace := ["internal/bytealg.IndexByteString", "internal/bytealg.IndexString"], named := ["tailrace/tailracelaw8.names", "internal/bytealg.MaxLen"], apart := false, laid := [("tailrace/tailracelaw8.names", laid_tailrace_tailracelaw8_names)], narrowed := true }
def ClassNamedUptoSaid : Prop := classNamedUptoRow.holds Tryd.pinned (OpenSpec.upto classNamedSpec)

end Rows
end Go.Proofs.YtpfpnlhihnfahaaDoor
