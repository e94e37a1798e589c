/- Bytes in memory; a hypothesis that the walk does not look into. -/
import Derived.Test.YtpmigcbckpcjgaaProg
import Derived.WalkKit
import Derived.WalkLawsBesides
import Derived.Deep.QuietTactic
import Derived.BigQuiet
import Derived.Outline
import Derived.Laws.Externs
import Derived.KernelRfl
namespace Go.Proofs.Ytpmigcbckpcjgaa.sum
open Go.RowKit
set_option linter.unusedVariables false

theorem Hid_mk {p : Prop} (h : p) : Hid p := h

/-- A byte as a value. -/
def B (x : UInt8) : Value := .int .u8 (x.toNat : Int)

/-- A slice value that reads, in this world, as these bytes. -/
def Bs (w : World) (v : Value) (bs : List UInt8) : Prop :=
  ∃ a cap, v = .slice a bs.length cap ∧ bs.length ≤ cap ∧ cap ≤ maxLen ∧
    (bs ≠ [] → ∃ b o, a = some ⟨b, o, none⟩ ∧ ∀ k, k < bs.length → w.cell? ⟨b, o + k, none⟩ = some (B (bs.getD k 0)))

theorem take_snoc {bs : List UInt8} {k : Nat} (h : k < bs.length) : bs.take (k + 1) = bs.take k ++ [bs.getD k 0] := by
  rw [List.take_succ_eq_append_getElem h]; simp [List.getD, h]

end Go.Proofs.Ytpmigcbckpcjgaa.sum
