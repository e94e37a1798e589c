/- The laws' table of separators, in plain words. -/
import Derived.Test.YtpmmjihkgfmbhaaDoorTx
namespace Go.Proofs.YtpmmjihkgfmbhaaDoor.spl
open Go.RowKit Go.Proofs.YtpmmjihkgfmbhaaDoor.sum Go.Proofs.YtpmmjihkgfmbhaaDoor.kept Go.Proofs.YtpmmjihkgfmbhaaDoor.snp
set_option linter.unusedVariables false

def sepL (k : Nat) : List UInt8 := match k with
  | 1 => []
  | 2 => [59]
  | 4 => [59, 120]
  | _ => [10]
theorem sepL_len (k : Nat) : (sepL k).length ≤ 2 := by unfold sepL; split <;> decide
/-- the table -/
def Sq (w : World) : Prop := ∀ K, K < 5 → w.cell? ⟨0, K, none⟩ = some (.string (tx (sepL K)))
theorem Sq.no {w w' : World} (h : Sq w) (hk : Kp No w w') : Sq w' := fun K hK => hk.cell' (h K hK) id

end Go.Proofs.YtpmmjihkgfmbhaaDoor.spl
