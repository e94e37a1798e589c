/- Texts of bytes: an index, a piece, a sum, as the walk asks for them. -/
import Derived.Test.YtpmmjihkgfmbhaaTxRow
import Derived.Laws.DeepStrings4
namespace Go.Proofs.Ytpmmjihkgfmbhaa.spl
open Go.RowKit Go.Maps Go.Proofs.Ytpmmjihkgfmbhaa.sum Go.Proofs.Ytpmmjihkgfmbhaa.kept Go.Proofs.Ytpmmjihkgfmbhaa.app Go.Proofs.Ytpmmjihkgfmbhaa.writer Go.Proofs.Ytpmmjihkgfmbhaa.clone Go.Proofs.Ytpmmjihkgfmbhaa.known Go.Proofs.Ytpmmjihkgfmbhaa.unseal Go.Proofs.Ytpmmjihkgfmbhaa.snp
set_option linter.unusedVariables false

theorem tx_size (l : List UInt8) : (tx l).size = l.length := by simp [tx, ByteArray.size]
theorem tx_get (l : List UInt8) (k : Nat) (h : k < (tx l).size) : ((tx l)[k]).toNat = (l.getD k 0).toNat := by
  have hk : k < l.length := by rw [tx_size] at h; exact h
  have e : ((tx l)[k]'h) = l[k] := by
    show l.toArray[k] = l[k]
    simp
  exact (congrArg UInt8.toNat e).trans (by simp [List.getD, hk])
theorem tx_app (a b : List UInt8) : tx a ++ tx b = tx (a ++ b) := by
  apply ByteArray.ext
  simp [tx]
theorem tx_add (a b : List UInt8) (h : a.length + b.length ≤ 1000000000) (W : World) : (Op.stringOp .add (tx a) (tx b)).run Try.prog W = .ok (.string (tx (a ++ b))) W := by
  rw [← tx_app]
  refine run_string_add_sum (P := Try.prog) (w := W) _ _ ?_
  rw [tx_size, tx_size]
  omega
theorem tx_piece (l : List UInt8) (i j : Nat) (h1 : i ≤ j) (h2 : j ≤ l.length) (W : World) : (Instr.sliceAt 9 (.string (tx l)) (some (.int .i64 (i : Int))) (some (.int .i64 (j : Int))) none).run Try.prog W = .ok (.string (tx ((l.drop i).take (j - i)))) W := by
  have hu : Try.prog.underlying 9 = some .string := Try.underlying9
  rw [run_sliceAt_string W _ _ _ _ _ hu, run_slice_string_if (P := Try.prog) W 9 (tx l) .i64 .i64 (i : Int) (j : Int) hu]
  rw [if_pos ⟨by omega, by rw [tx_size]; omega⟩, if_pos ⟨by omega, by omega⟩]
  congr 2
  apply ByteArray.ext
  simp only [Int.toNat_natCast]
  rw [ByteArray.data_extract]
  apply Array.ext'
  simp [tx, List.take_drop, Nat.min_eq_left h2]
theorem tx_cons (l : List UInt8) (h : l ≠ []) : ¬ (tx l).toList = [] ∧ (tx l).toList.isEmpty = false := by
  have : (tx l).toList = l := by rw [ByteArray.toList_eq]; rfl
  rw [this]
  exact ⟨h, by cases l with | nil => exact absurd rfl h | cons _ _ => rfl⟩
theorem tx_eq_self (l : List UInt8) : ((tx l).toList == (tx l).toList) = true := by simp

end Go.Proofs.Ytpmmjihkgfmbhaa.spl
