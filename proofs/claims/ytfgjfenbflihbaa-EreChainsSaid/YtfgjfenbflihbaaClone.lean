/- bytes.Clone. -/
import Derived.Test.YtfgjfenbflihbaaWriter0
namespace Go.Proofs.Ytfgjfenbflihbaa.clone
open Go.RowKit Go.Proofs.Ytfgjfenbflihbaa.sum Go.Proofs.Ytfgjfenbflihbaa.kept Go.Proofs.Ytfgjfenbflihbaa.app Go.Proofs.Ytfgjfenbflihbaa.writer
set_option linter.unusedVariables false

/-- A new row of these bytes, in new memory. -/
def NewBs (w : World) (bs : List UInt8) (e : Ending) (w' : World) : Prop :=
  ∃ v', e = .returned v' ∧ w'.ownsRow w.heap.size 5 1 v' bs.length (bs.map B) ∧ Kp No w w'

end Go.Proofs.Ytfgjfenbflihbaa.clone
