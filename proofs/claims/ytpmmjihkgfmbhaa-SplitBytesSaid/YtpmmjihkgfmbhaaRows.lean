/-
  No cell of these rows narrows 'for every input' (looked for: loops, veiled, ifaces, maps, wideKeys, modest, calm, conditions, laid).
  DERIVED. THE GIVEN ROWS OF THIS SEAT. 3 by the template 'for every input the law returns true; each argument reads behind the call as it read before'; 0 by the template 'total and deterministic' (their statements: YtpmmjihkgfmbhaaTotals.lean).
  GIVEN WITH THE SEED: the statements are not yours to turn. If you find one false, say at which input.
  Laid BY PROGRAM, IN A SANDBOX (cutbox-rows.mjs): the forced cells as the released guide's own fill.sh prints them over the translation b17d700f06e9483d… (all of the seat's roots in one cut). By AI agents, Wed Nov 11 2026. No macro, syntax, notation, axiom, sorry.
-/
import Derived.Test.YtpmmjihkgfmbhaaChecked
import GoSem.Claim
import GoSem.ClaimJoined
import GoSem.ClaimMapViews
import Derived.JoinedTies
import Derived.KernelRfl
namespace Go.Proofs.Ytpmmjihkgfmbhaa
/- THE CELL 'sum', in the pinned program and in every row, IS THE sha256 OF THE DUMP (.gsa) THAT YtpmmjihkgfmbhaaProg.lean LOADS. Nothing in Lean hashes anything: it is a label: what it is worth is what the hold of that sum in a sandbox is worth. -/
noncomputable def Try.pinned : Pinned := { name := "ytpmmjihkgfmbhaa", sum := "b17d700f06e9483d414a52869b9bd0194f8269b2498a1192e33fdd19f6d7ffbf", checked := Try.checked }
namespace Rows
def none {H : Type} : Left H := { results := [], args := [] }

/-- 'tailracelaw7.SplitKnown': WHATEVER THE INPUT: true; the input reads as it did. -/
def splitKnownSpec : ChangeSpec := { name := "splitKnown", fn := fun _ => fun
  | [] => { results := [.lit (.bool true)], args := [] }
  | _ => none }
def splitKnownRow : OpenClaim := { program := "ytpmmjihkgfmbhaa", sum := "b17d700f06e9483d414a52869b9bd0194f8269b2498a1192e33fdd19f6d7ffbf", func := "tailrace/tailracelaw7.SplitKnown", spec := "splitKnown", apart := false }
def SplitKnownSaid : Prop := splitKnownRow.holds Try.pinned (OpenSpec.ofChange splitKnownSpec)

/-- ITS FALSE NEIGHBOUR: 'it returns false'. Refute it at one input. -/
def splitKnownWrong : ChangeSpec := { name := "splitKnown", fn := fun _ => fun
  | [] => { results := [.lit (.bool false)], args := [] }
  | _ => none }
def SplitKnownWrongFalsely : Prop := splitKnownRow.holds Try.pinned (OpenSpec.ofChange splitKnownWrong)

/-- 'tailracelaw7.SplitBytes': WHATEVER THE INPUT: true; the input reads as it did. -/
def splitBytesSpec : ChangeSpec := { name := "splitBytes", fn := fun _ => fun
  | [d1, d2, d3] => { results := [.lit (.bool true)], args := [d1, d2, d3] }
  | _ => none }
def splitBytesRow : OpenClaim := { program := "ytpmmjihkgfmbhaa", sum := "b17d700f06e9483d414a52869b9bd0194f8269b2498a1192e33fdd19f6d7ffbf", func := "tailrace/tailracelaw7.SplitBytes", spec := "splitBytes", apart := false }
def SplitBytesSaid : Prop := splitBytesRow.holds Try.pinned (OpenSpec.ofChange splitBytesSpec)

/-- ITS FALSE NEIGHBOUR: 'it returns false'. Refute it at one input. -/
def splitBytesWrong : ChangeSpec := { name := "splitBytes", fn := fun _ => fun
  | [d1, d2, d3] => { results := [.lit (.bool false)], args := [d1, d2, d3] }
  | _ => none }
def SplitBytesWrongFalsely : Prop := splitBytesRow.holds Try.pinned (OpenSpec.ofChange splitBytesWrong)

/-- 'tailracelaw7.SplitParas': WHATEVER THE INPUT: true; the input reads as it did. -/
def splitParasSpec : ChangeSpec := { name := "splitParas", fn := fun _ => fun
  | [d] => { results := [.lit (.bool true)], args := [d] }
  | _ => none }
def splitParasRow : OpenClaim := { program := "ytpmmjihkgfmbhaa", sum := "b17d700f06e9483d414a52869b9bd0194f8269b2498a1192e33fdd19f6d7ffbf", func := "tailrace/tailracelaw7.SplitParas", spec := "splitParas", apart := false }
def SplitParasSaid : Prop := splitParasRow.holds Try.pinned (OpenSpec.ofChange splitParasSpec)

/-- ITS FALSE NEIGHBOUR: 'it returns false'. Refute it at one input. -/
def splitParasWrong : ChangeSpec := { name := "splitParas", fn := fun _ => fun
  | [d] => { results := [.lit (.bool false)], args := [d] }
  | _ => none }
def SplitParasWrongFalsely : Prop := splitParasRow.holds Try.pinned (OpenSpec.ofChange splitParasWrong)

/- THE SECOND FORM. 'bulk': how many values and letters a reading holds, each counted each time it is reached (what is shared counts as often as it is met; a slice's spare places count too). A statement '..UptoSaid' is the law's where the arguments, and the package variables that the reading takes, are together of bulk at most 1048576: NARROWER than '..Said'. Prove '..Said' where nothing that the law and all that it calls make is longer than what came in: it says more and counts as full. Else prove '..UptoSaid'. A law counts once. -/
mutual
def uptoBulk {H : Type} : DataW H → Nat
  | .lit (.string bytes) => bytes.length + 1
  | .lit _ => 1
  | .nil => 1
  | .ptr d => uptoBulk d + 1
  | .slice elems spare => uptoBulkAll elems + uptoBulkAll spare + 1
  | .agg parts => uptoBulkAll parts + 1
  | .iface _ d => uptoBulk d + 1
  | .map entries => uptoBulkEntries entries + 1
  | .held _ => 1
def uptoBulkAll {H : Type} : List (DataW H) → Nat
  | [] => 0
  | d :: r => uptoBulk d + uptoBulkAll r
def uptoBulkEntries {H : Type} : List (Lit × DataW H) → Nat
  | [] => 0
  | x :: r => uptoBulkEntry x + uptoBulkEntries r
def uptoBulkEntry {H : Type} : Lit × DataW H → Nat
  | (.string bytes, d) => bytes.length + uptoBulk d + 1
  | (_, d) => uptoBulk d + 1
 end
def uptoSmall : (H : Type) → List (DataW H) → Bool := fun _ ds => decide (uptoBulkAll ds ≤ 1048576)
def OpenSpec.upto (s : _root_.Go.ChangeSpec) : _root_.Go.OpenSpec := { _root_.Go.OpenSpec.ofChange s with cond := some uptoSmall }

/-- 'tailracelaw7.SplitKnown', WHERE WHAT IT READS IS OF BULK AT MOST 1048576: true; the input reads as it did. -/
def splitKnownUptoRow : OpenClaim := { program := "ytpmmjihkgfmbhaa", sum := "b17d700f06e9483d414a52869b9bd0194f8269b2498a1192e33fdd19f6d7ffbf", func := "tailrace/tailracelaw7.SplitKnown", spec := "splitKnown", apart := false, narrowed := true }
def SplitKnownUptoSaid : Prop := splitKnownUptoRow.holds Try.pinned (OpenSpec.upto splitKnownSpec)

/-- 'tailracelaw7.SplitBytes', WHERE WHAT IT READS IS OF BULK AT MOST 1048576: true; the input reads as it did. -/
def splitBytesUptoRow : OpenClaim := { program := "ytpmmjihkgfmbhaa", sum := "b17d700f06e9483d414a52869b9bd0194f8269b2498a1192e33fdd19f6d7ffbf", func := "tailrace/tailracelaw7.SplitBytes", spec := "splitBytes", apart := false, narrowed := true }
def SplitBytesUptoSaid : Prop := splitBytesUptoRow.holds Try.pinned (OpenSpec.upto splitBytesSpec)

/-- 'tailracelaw7.SplitParas', WHERE WHAT IT READS IS OF BULK AT MOST 1048576: true; the input reads as it did. -/
def splitParasUptoRow : OpenClaim := { program := "ytpmmjihkgfmbhaa", sum := "b17d700f06e9483d414a52869b9bd0194f8269b2498a1192e33fdd19f6d7ffbf", func := "tailrace/tailracelaw7.SplitParas", spec := "splitParas", apart := false, narrowed := true }
def SplitParasUptoSaid : Prop := splitParasUptoRow.holds Try.pinned (OpenSpec.upto splitParasSpec)

end Rows
end Go.Proofs.Ytpmmjihkgfmbhaa
