/- Texts of known bytes: their length, an index, a piece, a test, as the walk asks for them. -/
import Derived.Test.YtdognehkbahmdaaKept
import Derived.Laws.DeepStrings4
namespace Go.Proofs.Ytdognehkbahmdaa.str
open Go.RowKit Go.Proofs.Ytdognehkbahmdaa.sum Go.Proofs.Ytdognehkbahmdaa.kept
set_option linter.unusedVariables false

/-- bytes as a text -/
def st (l : List UInt8) : ByteArray := ⟨l.toArray⟩
theorem st_size (l : List UInt8) : (st l).size = l.length := by simp [st, ByteArray.size]
theorem st_list (l : List UInt8) : (st l).toList = l := by rw [ByteArray.toList_eq]; simp [st]
theorem st_data (l : List UInt8) : (st l).data.toList = l := by simp [st]
theorem st_of (s : ByteArray) : st s.data.toList = s := by
  apply ByteArray.ext
  simp [st]
theorem st_get (l : List UInt8) (k : Nat) (h : k < (st l).size) : ((st l)[k]).toNat = (l.getD k 0).toNat := by
  have hk : k < l.length := by rw [st_size] at h; exact h
  have e : ((st l)[k]'h) = l[k] := by
    show l.toArray[k] = l[k]
    simp
  exact (congrArg UInt8.toNat e).trans (by simp [List.getD, hk])
/-- from a place on -/
theorem st_from (l : List UInt8) (i : Nat) : (st l).extract i l.length = st (l.drop i) := by
  apply ByteArray.ext
  rw [ByteArray.data_extract]
  apply Array.ext'
  simp [st, List.take_of_length_le]
theorem st_piece (l : List UInt8) (i j : Nat) : (st l).extract i j = st ((l.drop i).take (j - i)) := by
  apply ByteArray.ext
  rw [ByteArray.data_extract]
  apply Array.ext'
  simp [st, List.take_drop]
theorem getD_lt (l : List UInt8) (k : Nat) : (l.getD k 0).toNat < 256 := (l.getD k 0).toNat_lt

end Go.Proofs.Ytdognehkbahmdaa.str
