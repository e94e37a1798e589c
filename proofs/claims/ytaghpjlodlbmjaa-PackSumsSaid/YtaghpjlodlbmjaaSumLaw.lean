/- The law's sum: is it the document's? -/
import Derived.Test.YtaghpjlodlbmjaaRefSum
import Derived.Test.YtaghpjlodlbmjaaSteps
namespace Go.Proofs.Ytaghpjlodlbmjaa.sumLaw
open Go.RowKit Go.Proofs.Ytaghpjlodlbmjaa.fl Go.Proofs.Ytaghpjlodlbmjaa.sum Go.Proofs.Ytaghpjlodlbmjaa.kept Go.Proofs.Ytaghpjlodlbmjaa.steps
set_option linter.unusedVariables false

theorem part_eq {n : Nat} (h : n < pl.P) : (FloatKind.f64.format.order (fl (n : Int)) (floatOfInt FloatKind.f64 (n : Int)) == some Ordering.eq) = true := by
  have := fl_eql (n : Int) (n : Int) (small_part h) (small_part h)
  rw [decide_eq_true rfl] at this
  exact this

set_option maxRecDepth 100000 in
set_option maxHeartbeats 1000000 in
theorem sum_law (w : World) (v : Value) (bs : List UInt8) (h : Bs w v bs) :
    Calls Try.prog 46 #[v] w fun e w' => e = .returned (.bool true) ∧ w = w' := by
  have H := Hid_mk h
  have e1 := part_eq (pl.sum_lt bs).1
  have e2 := part_eq (pl.sum_lt bs).2
  clear h
  go_enter Try.func46, Try.ntmps46
  go_wp2_with fail
  refine (ref.sum_any w v bs H.out).mono ?_
  rintro e w' ⟨rfl, rfl⟩
  go_wp2_with fail
  refine (sum_any w v bs H.out).mono ?_
  rintro e w' ⟨rfl, rfl⟩
  unfold cx
  go_wp2
  go_ret
  exact ⟨rfl, rfl⟩

end Go.Proofs.Ytaghpjlodlbmjaa.sumLaw
