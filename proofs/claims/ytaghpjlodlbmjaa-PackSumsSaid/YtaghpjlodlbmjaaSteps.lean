/- PackSteps: the law's walk. -/
import Derived.Test.YtaghpjlodlbmjaaKnown
namespace Go.Proofs.Ytaghpjlodlbmjaa.steps
open Go.RowKit Go.Proofs.Ytaghpjlodlbmjaa.sum Go.Proofs.Ytaghpjlodlbmjaa.kept Go.Proofs.Ytaghpjlodlbmjaa.app Go.Proofs.Ytaghpjlodlbmjaa.writer Go.Proofs.Ytaghpjlodlbmjaa.clone Go.Proofs.Ytaghpjlodlbmjaa.known Go.Proofs.Ytaghpjlodlbmjaa.fl
set_option linter.unusedVariables false

theorem small_part {n : Nat} (h : n < pl.P) : Small (n : Int) := by
  unfold Small; unfold pl.P at h
  have : (2 : Nat) ^ 53 = 9007199254740992 := by decide
  omega

theorem eql_cx (s t : Nat × Nat) (hs : s.1 < pl.P ∧ s.2 < pl.P) (ht : t.1 < pl.P ∧ t.2 < pl.P) (ty : TypeId) (w : World) : (binOp .eql ty (cx s) (cx t)).run Try.prog w = .ok (.bool (decide (s = t))) w := by
  unfold cx
  rw [run_eql_complex, fl_eql _ _ (small_part hs.1) (small_part ht.1), fl_eql _ _ (small_part hs.2) (small_part ht.2)]
  congr 2
  rw [Bool.eq_iff_iff]
  simp [Prod.ext_iff]
  omega
theorem neq_cx (s t : Nat × Nat) (hs : s.1 < pl.P ∧ s.2 < pl.P) (ht : t.1 < pl.P ∧ t.2 < pl.P) (ty : TypeId) (w : World) : (binOp .neq ty (cx s) (cx t)).run Try.prog w = .ok (.bool (!decide (s = t))) w := by
  unfold cx
  rw [run_neq_complex, fl_eql _ _ (small_part hs.1) (small_part ht.1), fl_eql _ _ (small_part hs.2) (small_part ht.2)]
  congr 3
  rw [Bool.eq_iff_iff]
  simp [Prod.ext_iff]
  omega

theorem mul_cx (s : Nat × Nat) (hs : s.1 < pl.P ∧ s.2 < pl.P) (w : World) (t : TypeId) :
    (binOp .mul t (cx s) (.complex .f64 4643228808005025792 4613937818241073152)).run Try.prog w = .ok (.complex .f64 (fl (257 * (s.1 : Int) - 3 * s.2)) (fl (257 * (s.2 : Int) + 3 * s.1))) w := mul_step s.1 s.2 hs.1 hs.2 w t

theorem conv_int (z : Int) (hz : -60000000 ≤ z ∧ z ≤ 5000000000) (w : World) : (convert 49 2 (.float .f64 (fl z))).run Try.prog w = .ok (.int .i64 z) w := by
  refine run_convert_float_int w 49 2 .f64 .i64 _ z (by kernel_rfl) Try.underlying2 (fl_int z ?_ .i64 ?_ ?_)
  · unfold Small
    have : (2 : Nat) ^ 53 = 9007199254740992 := by decide
    omega
  · have : IntKind.min .i64 = -9223372036854775808 := by decide
    omega
  · have : IntKind.max .i64 = 9223372036854775807 := by decide
    omega

theorem tmod_bd (a : Int) : -16777199 < a.tmod 16777199 ∧ a.tmod 16777199 < 16777199 := by
  have h1 := Int.tmod_lt_of_pos a (show (0 : Int) < 16777199 by decide)
  have h2 := Int.tmod_lt_of_pos (-a) (show (0 : Int) < 16777199 by decide)
  rw [Int.neg_tmod] at h2
  omega
theorem tmod_emod (a : Int) : (a.tmod 16777199 + 16777199) % 16777199 = a % 16777199 := by
  have h := Int.tmod_add_mul_tdiv a 16777199
  generalize a.tdiv 16777199 = q at *
  generalize a.tmod 16777199 = r at *
  omega

end Go.Proofs.Ytaghpjlodlbmjaa.steps
