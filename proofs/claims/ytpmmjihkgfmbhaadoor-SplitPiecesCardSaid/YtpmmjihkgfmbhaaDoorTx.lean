/- Bytes as a text. -/
import Derived.Test.YtpmmjihkgfmbhaaDoorKnown0
import Derived.Test.YtpmmjihkgfmbhaaDoorR2
namespace Go.Proofs.YtpmmjihkgfmbhaaDoor.snp
open Go.RowKit Go.Maps Go.Proofs.YtpmmjihkgfmbhaaDoor.sum Go.Proofs.YtpmmjihkgfmbhaaDoor.kept Go.Proofs.YtpmmjihkgfmbhaaDoor.app Go.Proofs.YtpmmjihkgfmbhaaDoor.writer Go.Proofs.YtpmmjihkgfmbhaaDoor.clone Go.Proofs.YtpmmjihkgfmbhaaDoor.known Go.Proofs.YtpmmjihkgfmbhaaDoor.fs Go.Proofs.YtpmmjihkgfmbhaaDoor.r2
set_option linter.unusedVariables false

/-- bytes as a text -/
def tx (l : List UInt8) : ByteArray := ⟨l.toArray⟩
theorem tx_ne {a b : List UInt8} (h : a ≠ b) : ((tx a).toList == (tx b).toList) = false := txt_ne fun e => h (by
  have := congrArg ByteArray.toList e
  simpa [tx, ByteArray.toList_eq] using this)
theorem conv_tx {w : World} {v : Value} {bs : List UInt8} (h : Bs w v bs) : (convert 30 9 v).run Tryd.prog w = .ok (.string (tx bs)) w := conv_bs h

end Go.Proofs.YtpmmjihkgfmbhaaDoor.snp
