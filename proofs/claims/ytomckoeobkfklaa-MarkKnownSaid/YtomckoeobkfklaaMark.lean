/- The marks of whole numbers: what package mark answers of them. -/
import Derived.Test.YtomckoeobkfklaaFloor
import Derived.Test.YtomckoeobkfklaaBase
import Derived.WalkKit
import Derived.WalkLawsBesides
import Derived.Deep.QuietTactic
import Derived.BigQuiet
import Derived.Outline
import Derived.Laws.Externs
import Derived.KernelRfl
namespace Go.Proofs.Ytomckoeobkfklaa.mrk
open Go.RowKit Go.Proofs.Ytomckoeobkfklaa.fl Go.Proofs.Ytomckoeobkfklaa.sum
set_option linter.unusedVariables false

theorem run_bits (b : Nat) (w : World) : (callFunc 13 #[.float .f64 b]).run Try.prog w = .ok (.value (.int .u64 (b : Int))) w := by
  rw [run_callFunc_extern Try.func13 (by kernel_rfl) (by kernel_rfl) (by kernel_rfl) (show Extern.find _ = some Extern.MathFloatBits.float64bits by kernel_rfl)]
  rfl

theorem floor_entry (args : Array Value) (w : World) : (callFunc 14 args).run Try.prog w = ((Extern.MathFloor.toIntegral "math.archFloor" .down args).run Try.prog w).andThen fun v w' => .ok (.value v) w' :=
  run_callFunc_extern Try.func14 (by kernel_rfl) (by kernel_rfl) (by kernel_rfl) (by kernel_rfl) args w

theorem run_floor (b : Nat) (s : Bool) (m : Nat) (i : Int) (hb : FloatKind.f64.decode b = .number s m i) (w : World) :
    (callFunc 14 #[.float .f64 b]).run Try.prog w = .ok (.value (.float .f64 (FloatKind.f64.encode ((Ieee.Datum.number s m i).integral .down)))) w := by
  rw [floor_entry]
  change ((match FloatKind.f64.decode b with
    | .nan s t =>
      if FloatKind.f64.format.quiet t = t then pure (.float .f64 b) else do
      let kept ← choose (.extern "math.Floor,Ceil,Trunc,RoundToEven.signallingNaN kept" 2)
      pure (.float .f64 (if kept == 1 then b else FloatKind.f64.encode (.nan s (FloatKind.f64.format.quiet t))))
    | d => pure (.float .f64 (FloatKind.f64.encode (d.integral .down))) : Sem Value).run Try.prog w).andThen _ = _
  rw [hb]
  rfl

/-- the bound of marks -/
def mw : Int := 1099511627776
theorem mw_word : fl mw = 4787326403894837248 := by decide +kernel
theorem zero_word : fl 0 = 0 := by decide +kernel
theorem one_word : fl 1 = 4607182418800017408 := by decide +kernel

/-- small enough for all that is done here -/
def Fit (a : Int) : Prop := 0 ≤ a ∧ a ≤ 2199023255552
theorem Fit.small {a : Int} (h : Fit a) : Small a := by
  unfold Fit at h; unfold Small
  have : (2 : Nat) ^ 53 = 9007199254740992 := by decide
  omega
theorem fit_mw : Fit mw := by unfold Fit mw; omega

theorem fl_bits (a : Int) (h : 0 ≤ a) : fl a < 9223372036854775808 := by
  rw [fl_eq, show decide (a < 0) = false by simpa using h]
  unfold Ieee.Format.nearest
  have hi : Ieee.double.infRung = 9218868437227405312 := by decide
  split
  · unfold Ieee.Format.word; simp
  · unfold Ieee.Format.word
    rw [hi]
    simp only [Bool.false_eq_true, if_false]
    exact Nat.lt_of_le_of_lt (Nat.min_le_right _ _) (by decide)

theorem fl_floor (a : Int) (h : Small a) : ∃ s m i, FloatKind.f64.decode (fl a) = .number s m i ∧ FloatKind.f64.encode ((Ieee.Datum.number s m i).integral .down) = fl a := by
  obtain ⟨q, hq0, hq⟩ := read_fl a h
  refine ⟨_, _, _, hq, ?_⟩
  simp only [Ieee.Datum.integral]
  have e1 : (-(q : Int)).toNat = 0 := by omega
  have e2 : (-(-(q : Int))).toNat = q := by omega
  rw [e1, e2, Nat.shiftLeft_zero]
  have hc : Ieee.Toward.down.cut (decide (a < 0)) (a.natAbs * 2 ^ q) q = a.natAbs := by
    by_cases hz : a.natAbs = 0
    · rw [hz, Nat.zero_mul]
      unfold Ieee.Toward.cut
      simp [Nat.shiftLeft_eq]
    · apply cut_exact
      rw [log2_mul_pow _ _ (by omega)]
      omega
  rw [hc]
  rfl

theorem ord_eq {a b : Int} (ha : Fit a) (hb : Fit b) : (FloatKind.f64.format.order (fl a) (fl b) == some .eq) = decide (a = b) := fl_eql a b ha.small hb.small
theorem ord_gt {a b : Int} (ha : Fit a) (hb : Fit b) : (FloatKind.f64.format.order (fl a) (fl b) == some .gt) = decide (b < a) := by
  show (Ieee.double.order (fl a) (fl b) == some .gt) = _
  rw [fl_order a b ha.small hb.small]
  rcases Int.lt_trichotomy a b with h | h | h
  · simp [compare, compareOfLessAndEq, h, show ¬ b < a by omega]
  · subst h; simp [compare, compareOfLessAndEq]
  · simp [compare, compareOfLessAndEq, h, show ¬ a < b by omega, show a ≠ b by omega]
theorem ord_lt {a b : Int} (ha : Fit a) (hb : Fit b) : (FloatKind.f64.format.order (fl a) (fl b) == some .lt) = decide (a < b) := by
  show (Ieee.double.order (fl a) (fl b) == some .lt) = _
  rw [fl_order a b ha.small hb.small]
  rcases Int.lt_trichotomy a b with h | h | h
  · simp [compare, compareOfLessAndEq, h]
  · subst h; simp [compare, compareOfLessAndEq]
  · simp [compare, compareOfLessAndEq, show ¬ a < b by omega, show a ≠ b by omega]

/-- the complex number of two whole ones -/
def C (a b : Int) : Value := .complex .f64 (fl a) (fl b)

set_option maxHeartbeats 1000000 in
theorem signbit_any (a : Int) (h : 0 ≤ a) (w : World) : Calls Try.prog 11 #[.float .f64 (fl a)] w fun e w' => e = .returned (.bool false) ∧ w = w' := by
  have h1 := fl_bits a h
  generalize fl a = b at *
  have q1 := fun w => run_bits b w
  have q2 : IntKind.i64.wrap (b : Int) = b := IntWalk.i64_in _ (by omega)
  have q3 : ¬ ((b : Int) < 0) := by omega
  go_enter Try.func11, Try.ntmps11
  go_wp2
  go_ret
  exact ⟨rfl, rfl⟩

set_option maxHeartbeats 1000000 in
theorem floor_any (a : Int) (h : Small a) (w : World) : Calls Try.prog 12 #[.float .f64 (fl a)] w fun e w' => e = .returned (.float .f64 (fl a)) ∧ w = w' := by
  obtain ⟨s, m, i, h1, h2⟩ := fl_floor a h
  have q1 := fun w => run_floor (fl a) s m i h1 w
  rw [h2] at q1
  clear h1 h2
  go_enter Try.func12, Try.ntmps12
  go_wp2
  go_ret
  exact ⟨rfl, rfl⟩

set_option maxHeartbeats 4000000 in
theorem right_any (a b : Int) (ha : Fit a) (hb : Fit b) (w : World) : Calls Try.prog 7 #[C a b] w fun e w' => e = .returned (.bool (decide (a ≤ mw ∧ b ≤ mw))) ∧ w = w' := by
  have g1 := ord_gt ha fit_mw
  have g2 := ord_gt hb fit_mw
  have e1 := ord_eq ha ha
  have e2 := ord_eq hb hb
  rw [mw_word] at g1 g2
  rw [decide_eq_true rfl] at e1 e2
  unfold C
  have S1 := Hid_mk (signbit_any a ha.1)
  have S2 := Hid_mk (signbit_any b hb.1)
  have F1 := Hid_mk (floor_any a ha.small)
  have F2 := Hid_mk (floor_any b hb.small)
  clear ha hb
  generalize fl a = x at *
  generalize fl b = y at *
  by_cases c1 : a ≤ mw
  · rw [decide_eq_false (show ¬ mw < a by omega)] at g1
    by_cases c2 : b ≤ mw
    · rw [decide_eq_false (show ¬ mw < b by omega)] at g2
      rw [decide_eq_true (show a ≤ mw ∧ b ≤ mw from ⟨c1, c2⟩)]
      clear c1 c2
      go_enter Try.func7, Try.ntmps7
      go_wp2_with (first
        | (refine (S1.out _).mono ?_; rintro e w' ⟨rfl, rfl⟩)
        | (refine (S2.out _).mono ?_; rintro e w' ⟨rfl, rfl⟩)
        | (refine (F1.out _).mono ?_; rintro e w' ⟨rfl, rfl⟩)
        | (refine (F2.out _).mono ?_; rintro e w' ⟨rfl, rfl⟩))
      go_ret
      exact ⟨rfl, rfl⟩
    · rw [decide_eq_true (show mw < b by omega)] at g2
      rw [decide_eq_false (show ¬ (a ≤ mw ∧ b ≤ mw) from fun h => c2 h.2)]
      clear c1 c2
      go_enter Try.func7, Try.ntmps7
      go_wp2_with (first
        | (refine (S1.out _).mono ?_; rintro e w' ⟨rfl, rfl⟩)
        | (refine (S2.out _).mono ?_; rintro e w' ⟨rfl, rfl⟩))
      go_ret
      exact ⟨rfl, rfl⟩
  · rw [decide_eq_true (show mw < a by omega)] at g1
    rw [decide_eq_false (show ¬ (a ≤ mw ∧ b ≤ mw) from fun h => c1 h.1)]
    clear c1 g2
    go_enter Try.func7, Try.ntmps7
    go_wp2_with (first
      | (refine (S1.out _).mono ?_; rintro e w' ⟨rfl, rfl⟩)
      | (refine (S2.out _).mono ?_; rintro e w' ⟨rfl, rfl⟩))
    go_ret
    exact ⟨rfl, rfl⟩

end Go.Proofs.Ytomckoeobkfklaa.mrk
