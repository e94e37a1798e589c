/- Bytes as a text. -/
import Derived.Test.YtpmmjihkgfmbhaaKnown0
import Derived.Test.YtpmmjihkgfmbhaaR2
namespace Go.Proofs.Ytpmmjihkgfmbhaa.snp
open Go.RowKit Go.Maps Go.Proofs.Ytpmmjihkgfmbhaa.sum Go.Proofs.Ytpmmjihkgfmbhaa.kept Go.Proofs.Ytpmmjihkgfmbhaa.app Go.Proofs.Ytpmmjihkgfmbhaa.writer Go.Proofs.Ytpmmjihkgfmbhaa.clone Go.Proofs.Ytpmmjihkgfmbhaa.known Go.Proofs.Ytpmmjihkgfmbhaa.fs Go.Proofs.Ytpmmjihkgfmbhaa.r2
set_option linter.unusedVariables false

/-- bytes as a text -/
def tx (l : List UInt8) : ByteArray := ⟨l.toArray⟩
theorem tx_ne {a b : List UInt8} (h : a ≠ b) : ((tx a).toList == (tx b).toList) = false := txt_ne fun e => h (by
  have := congrArg ByteArray.toList e
  simpa [tx, ByteArray.toList_eq] using this)
theorem conv_tx {w : World} {v : Value} {bs : List UInt8} (h : Bs w v bs) : (convert 28 9 v).run Try.prog w = .ok (.string (tx bs)) w := conv_bs h

end Go.Proofs.Ytpmmjihkgfmbhaa.snp
