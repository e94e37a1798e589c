/-
  No cell of these rows narrows 'for every input' (looked for: loops, veiled, ifaces, maps, wideKeys, modest, calm, conditions, laid).
  DERIVED. THE GIVEN ROWS OF THIS SEAT. 4 by the template 'for every input the law returns true; each argument reads behind the call as it read before'; 0 by the template 'total and deterministic' (their statements: YtpmigcbckpcjgaaTotals.lean).
  GIVEN WITH THE SEED: the statements are not yours to turn. If you find one false, say at which input.
  Laid BY PROGRAM, IN A SANDBOX (cutbox-rows.mjs): the forced cells as the released guide's own fill.sh prints them over the translation e79421745175222b… (all of the seat's roots in one cut). By AI agents, Wed Nov 11 2026. No macro, syntax, notation, axiom, sorry.
-/
import Derived.Test.YtpmigcbckpcjgaaChecked
import GoSem.Claim
import GoSem.ClaimJoined
import GoSem.ClaimMapViews
import Derived.JoinedTies
import Derived.KernelRfl
namespace Go.Proofs.Ytpmigcbckpcjgaa
/- THE CELL 'sum', in the pinned program and in every row, IS THE sha256 OF THE DUMP (.gsa) THAT YtpmigcbckpcjgaaProg.lean LOADS. Nothing in Lean hashes anything: it is a label: what it is worth is what the hold of that sum in a sandbox is worth. -/
noncomputable def Try.pinned : Pinned := { name := "ytpmigcbckpcjgaa", sum := "e79421745175222b340441c028b638ddf70c1a3441c10757530a1b89c065f7d6", checked := Try.checked }
namespace Rows
def none {H : Type} : Left H := { results := [], args := [] }

/-- 'tailracelaw14.RngKnown': WHATEVER THE INPUT: true; the input reads as it did. -/
def rngKnownSpec : ChangeSpec := { name := "rngKnown", fn := fun _ => fun
  | [] => { results := [.lit (.bool true)], args := [] }
  | _ => none }
def rngKnownRow : OpenClaim := { program := "ytpmigcbckpcjgaa", sum := "e79421745175222b340441c028b638ddf70c1a3441c10757530a1b89c065f7d6", func := "tailrace/tailracelaw14.RngKnown", spec := "rngKnown", inPlace := ["math.Float64bits", "math.Float64frombits"], apart := false }
def RngKnownSaid : Prop := rngKnownRow.holds Try.pinned (OpenSpec.ofChange rngKnownSpec)

/-- ITS FALSE NEIGHBOUR: 'it returns false'. Refute it at one input. -/
def rngKnownWrong : ChangeSpec := { name := "rngKnown", fn := fun _ => fun
  | [] => { results := [.lit (.bool false)], args := [] }
  | _ => none }
def RngKnownWrongFalsely : Prop := rngKnownRow.holds Try.pinned (OpenSpec.ofChange rngKnownWrong)

/-- 'tailracelaw14.RngNext': WHATEVER THE INPUT: true; the input reads as it did. -/
def rngNextSpec : ChangeSpec := { name := "rngNext", fn := fun _ => fun
  | [d1, d2] => { results := [.lit (.bool true)], args := [d1, d2] }
  | _ => none }
def rngNextRow : OpenClaim := { program := "ytpmigcbckpcjgaa", sum := "e79421745175222b340441c028b638ddf70c1a3441c10757530a1b89c065f7d6", func := "tailrace/tailracelaw14.RngNext", spec := "rngNext", inPlace := ["math.Float64bits"], apart := false }
def RngNextSaid : Prop := rngNextRow.holds Try.pinned (OpenSpec.ofChange rngNextSpec)

/-- ITS FALSE NEIGHBOUR: 'it returns false'. Refute it at one input. -/
def rngNextWrong : ChangeSpec := { name := "rngNext", fn := fun _ => fun
  | [d1, d2] => { results := [.lit (.bool false)], args := [d1, d2] }
  | _ => none }
def RngNextWrongFalsely : Prop := rngNextRow.holds Try.pinned (OpenSpec.ofChange rngNextWrong)

/-- 'tailracelaw14.RngWithin': WHATEVER THE INPUT: true; the input reads as it did. -/
def rngWithinSpec : ChangeSpec := { name := "rngWithin", fn := fun _ => fun
  | [d1, d2] => { results := [.lit (.bool true)], args := [d1, d2] }
  | _ => none }
def rngWithinRow : OpenClaim := { program := "ytpmigcbckpcjgaa", sum := "e79421745175222b340441c028b638ddf70c1a3441c10757530a1b89c065f7d6", func := "tailrace/tailracelaw14.RngWithin", spec := "rngWithin", inPlace := ["math.archFloor", "math.Float64bits", "math.Float64frombits", "math.archTrunc"], apart := false }
def RngWithinSaid : Prop := rngWithinRow.holds Try.pinned (OpenSpec.ofChange rngWithinSpec)

/-- ITS FALSE NEIGHBOUR: 'it returns false'. Refute it at one input. -/
def rngWithinWrong : ChangeSpec := { name := "rngWithin", fn := fun _ => fun
  | [d1, d2] => { results := [.lit (.bool false)], args := [d1, d2] }
  | _ => none }
def RngWithinWrongFalsely : Prop := rngWithinRow.holds Try.pinned (OpenSpec.ofChange rngWithinWrong)

/-- 'tailracelaw14.RngSeeds': WHATEVER THE INPUT: true; the input reads as it did. -/
def rngSeedsSpec : ChangeSpec := { name := "rngSeeds", fn := fun _ => fun
  | [d1, d2] => { results := [.lit (.bool true)], args := [d1, d2] }
  | _ => none }
def rngSeedsRow : OpenClaim := { program := "ytpmigcbckpcjgaa", sum := "e79421745175222b340441c028b638ddf70c1a3441c10757530a1b89c065f7d6", func := "tailrace/tailracelaw14.RngSeeds", spec := "rngSeeds", inPlace := ["math.Float64bits"], apart := false }
def RngSeedsSaid : Prop := rngSeedsRow.holds Try.pinned (OpenSpec.ofChange rngSeedsSpec)

/-- ITS FALSE NEIGHBOUR: 'it returns false'. Refute it at one input. -/
def rngSeedsWrong : ChangeSpec := { name := "rngSeeds", fn := fun _ => fun
  | [d1, d2] => { results := [.lit (.bool false)], args := [d1, d2] }
  | _ => none }
def RngSeedsWrongFalsely : Prop := rngSeedsRow.holds Try.pinned (OpenSpec.ofChange rngSeedsWrong)

/- THE SECOND FORM. 'bulk': how many values and letters a reading holds, each counted each time it is reached (what is shared counts as often as it is met; a slice's spare places count too). A statement '..UptoSaid' is the law's where the arguments, and the package variables that the reading takes, are together of bulk at most 1048576: NARROWER than '..Said'. Prove '..Said' where nothing that the law and all that it calls make is longer than what came in: it says more and counts as full. Else prove '..UptoSaid'. A law counts once. -/
mutual
def uptoBulk {H : Type} : DataW H → Nat
  | .lit (.string bytes) => bytes.length + 1
  | .lit _ => 1
  | .nil => 1
  | .ptr d => uptoBulk d + 1
  | .slice elems spare => uptoBulkAll elems + uptoBulkAll spare + 1
  | .agg parts => uptoBulkAll parts + 1
  | .iface _ d => uptoBulk d + 1
  | .map entries => uptoBulkEntries entries + 1
  | .held _ => 1
def uptoBulkAll {H : Type} : List (DataW H) → Nat
  | [] => 0
  | d :: r => uptoBulk d + uptoBulkAll r
def uptoBulkEntries {H : Type} : List (Lit × DataW H) → Nat
  | [] => 0
  | x :: r => uptoBulkEntry x + uptoBulkEntries r
def uptoBulkEntry {H : Type} : Lit × DataW H → Nat
  | (.string bytes, d) => bytes.length + uptoBulk d + 1
  | (_, d) => uptoBulk d + 1
 end
def uptoSmall : (H : Type) → List (DataW H) → Bool := fun _ ds => decide (uptoBulkAll ds ≤ 1048576)
def OpenSpec.upto (s : _root_.Go.ChangeSpec) : _root_.Go.OpenSpec := { _root_.Go.OpenSpec.ofChange s with cond := some uptoSmall }

/-- 'tailracelaw14.RngKnown', WHERE WHAT IT READS IS OF BULK AT MOST 1048576: true; the input reads as it did. -/
def rngKnownUptoRow : OpenClaim := { program := "ytpmigcbckpcjgaa", sum := "e79421745175222b340441c028b638ddf70c1a3441c10757530a1b89c065f7d6", func := "tailrace/tailracelaw14.RngKnown", spec := "rngKnown", inPlace := ["math.Float64bits", "math.Float64frombits"], apart := false, narrowed := true }
def RngKnownUptoSaid : Prop := rngKnownUptoRow.holds Try.pinned (OpenSpec.upto rngKnownSpec)

/-- 'tailracelaw14.RngNext', WHERE WHAT IT READS IS OF BULK AT MOST 1048576: true; the input reads as it did. -/
def rngNextUptoRow : OpenClaim := { program := "ytpmigcbckpcjgaa", sum := "e79421745175222b340441c028b638ddf70c1a3441c10757530a1b89c065f7d6", func := "tailrace/tailracelaw14.RngNext", spec := "rngNext", inPlace := ["math.Float64bits"], apart := false, narrowed := true }
def RngNextUptoSaid : Prop := rngNextUptoRow.holds Try.pinned (OpenSpec.upto rngNextSpec)

/-- 'tailracelaw14.RngWithin', WHERE WHAT IT READS IS OF BULK AT MOST 1048576: true; the input reads as it did. -/
def rngWithinUptoRow : OpenClaim := { program := "ytpmigcbckpcjgaa", sum := "e79421745175222b340441c028b638ddf70c1a3441c10757530a1b89c065f7d6", func := "tailrace/tailracelaw14.RngWithin", spec := "rngWithin", inPlace := ["math.archFloor", "math.Float64bits", "math.Float64frombits", "math.archTrunc"], apart := false, narrowed := true }
def RngWithinUptoSaid : Prop := rngWithinUptoRow.holds Try.pinned (OpenSpec.upto rngWithinSpec)

/-- 'tailracelaw14.RngSeeds', WHERE WHAT IT READS IS OF BULK AT MOST 1048576: true; the input reads as it did. -/
def rngSeedsUptoRow : OpenClaim := { program := "ytpmigcbckpcjgaa", sum := "e79421745175222b340441c028b638ddf70c1a3441c10757530a1b89c065f7d6", func := "tailrace/tailracelaw14.RngSeeds", spec := "rngSeeds", inPlace := ["math.Float64bits"], apart := false, narrowed := true }
def RngSeedsUptoSaid : Prop := rngSeedsUptoRow.holds Try.pinned (OpenSpec.upto rngSeedsSpec)

end Rows
end Go.Proofs.Ytpmigcbckpcjgaa
