/- bytes.Clone. -/
import Derived.Test.YtpmmjihkgfmbhaaWriter0
namespace Go.Proofs.Ytpmmjihkgfmbhaa.clone
open Go.RowKit Go.Proofs.Ytpmmjihkgfmbhaa.sum Go.Proofs.Ytpmmjihkgfmbhaa.kept Go.Proofs.Ytpmmjihkgfmbhaa.app Go.Proofs.Ytpmmjihkgfmbhaa.writer
set_option linter.unusedVariables false

/-- A new row of these bytes, in new memory. -/
def NewBs (w : World) (bs : List UInt8) (e : Ending) (w' : World) : Prop :=
  ∃ v', e = .returned v' ∧ w'.ownsRow w.heap.size 5 1 v' bs.length (bs.map B) ∧ Kp No w w'

end Go.Proofs.Ytpmmjihkgfmbhaa.clone
