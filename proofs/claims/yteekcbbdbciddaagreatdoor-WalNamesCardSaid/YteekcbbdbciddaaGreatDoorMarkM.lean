/- The marks of whole numbers: what package mark answers of them. The marks of whole numbers: parts, and which is ahead. -/
import Derived.Test.YteekcbbdbciddaaGreatDoorFloatM
import Derived.Test.YteekcbbdbciddaaGreatDoorBase
import Derived.WalkKit
import Derived.WalkLawsBesides
import Derived.Deep.QuietTactic
import Derived.BigQuiet
import Derived.Outline
import Derived.Laws.Externs
import Derived.KernelRfl

namespace Go.Proofs.YteekcbbdbciddaaGreatDoor.mrk
open Go.RowKit Go.Proofs.YteekcbbdbciddaaGreatDoor.fl Go.Proofs.YteekcbbdbciddaaGreatDoor.sum
set_option linter.unusedVariables false

theorem run_bits (b : Nat) (w : World) : (callFunc 85 #[.float .f64 b]).run Tryz.prog w = .ok (.value (.int .u64 (b : Int))) w := by
  rw [run_callFunc_extern Tryz.func85 (by kernel_rfl) (by kernel_rfl) (by kernel_rfl) (show Extern.find _ = some Extern.MathFloatBits.float64bits by kernel_rfl)]
  rfl

theorem floor_entry (args : Array Value) (w : World) : (callFunc 86 args).run Tryz.prog w = ((Extern.MathFloor.toIntegral "math.archFloor" .down args).run Tryz.prog w).andThen fun v w' => .ok (.value v) w' :=
  run_callFunc_extern Tryz.func86 (by kernel_rfl) (by kernel_rfl) (by kernel_rfl) (by kernel_rfl) args w

theorem run_floor (b : Nat) (s : Bool) (m : Nat) (i : Int) (hb : FloatKind.f64.decode b = .number s m i) (w : World) :
    (callFunc 86 #[.float .f64 b]).run Tryz.prog w = .ok (.value (.float .f64 (FloatKind.f64.encode ((Ieee.Datum.number s m i).integral .down)))) w := by
  rw [floor_entry]
  change ((match FloatKind.f64.decode b with
    | .nan s t =>
      if FloatKind.f64.format.quiet t = t then pure (.float .f64 b) else do
      let kept ← choose (.extern "math.Floor,Ceil,Trunc,RoundToEven.signallingNaN kept" 2)
      pure (.float .f64 (if kept == 1 then b else FloatKind.f64.encode (.nan s (FloatKind.f64.format.quiet t))))
    | d => pure (.float .f64 (FloatKind.f64.encode (d.integral .down))) : Sem Value).run Tryz.prog w).andThen _ = _
  rw [hb]
  rfl

/-- the bound of marks -/
def mw : Int := 1099511627776
theorem mw_word : fl mw = 4787326403894837248 := by decide +kernel
theorem zero_word : fl 0 = 0 := by decide +kernel
theorem one_word : fl 1 = 4607182418800017408 := by decide +kernel

/-- small enough for all that is done here -/
def Fit (a : Int) : Prop := 0 ≤ a ∧ a ≤ 2199023255552
theorem Fit.small {a : Int} (h : Fit a) : Small a := by
  unfold Fit at h; unfold Small
  have : (2 : Nat) ^ 53 = 9007199254740992 := by decide
  omega
theorem fit_mw : Fit mw := by unfold Fit mw; omega

theorem fl_bits (a : Int) (h : 0 ≤ a) : fl a < 9223372036854775808 := by
  rw [fl_eq, show decide (a < 0) = false by simpa using h]
  unfold Ieee.Format.nearest
  have hi : Ieee.double.infRung = 9218868437227405312 := by decide
  split
  · unfold Ieee.Format.word; simp
  · unfold Ieee.Format.word
    rw [hi]
    simp only [Bool.false_eq_true, if_false]
    exact Nat.lt_of_le_of_lt (Nat.min_le_right _ _) (by decide)

theorem fl_floor (a : Int) (h : Small a) : ∃ s m i, FloatKind.f64.decode (fl a) = .number s m i ∧ FloatKind.f64.encode ((Ieee.Datum.number s m i).integral .down) = fl a := by
  obtain ⟨q, hq0, hq⟩ := read_fl a h
  refine ⟨_, _, _, hq, ?_⟩
  simp only [Ieee.Datum.integral]
  have e1 : (-(q : Int)).toNat = 0 := by omega
  have e2 : (-(-(q : Int))).toNat = q := by omega
  rw [e1, e2, Nat.shiftLeft_zero]
  have hc : Ieee.Toward.down.cut (decide (a < 0)) (a.natAbs * 2 ^ q) q = a.natAbs := by
    by_cases hz : a.natAbs = 0
    · rw [hz, Nat.zero_mul]
      unfold Ieee.Toward.cut
      simp [Nat.shiftLeft_eq]
    · apply cut_exact
      rw [log2_mul_pow _ _ (by omega)]
      omega
  rw [hc]
  rfl

theorem ord_eq {a b : Int} (ha : Fit a) (hb : Fit b) : (FloatKind.f64.format.order (fl a) (fl b) == some .eq) = decide (a = b) := fl_eql a b ha.small hb.small
theorem ord_gt {a b : Int} (ha : Fit a) (hb : Fit b) : (FloatKind.f64.format.order (fl a) (fl b) == some .gt) = decide (b < a) := by
  show (Ieee.double.order (fl a) (fl b) == some .gt) = _
  rw [fl_order a b ha.small hb.small]
  rcases Int.lt_trichotomy a b with h | h | h
  · simp [compare, compareOfLessAndEq, h, show ¬ b < a by omega]
  · subst h; simp [compare, compareOfLessAndEq]
  · simp [compare, compareOfLessAndEq, h, show ¬ a < b by omega, show a ≠ b by omega]
theorem ord_lt {a b : Int} (ha : Fit a) (hb : Fit b) : (FloatKind.f64.format.order (fl a) (fl b) == some .lt) = decide (a < b) := by
  show (Ieee.double.order (fl a) (fl b) == some .lt) = _
  rw [fl_order a b ha.small hb.small]
  rcases Int.lt_trichotomy a b with h | h | h
  · simp [compare, compareOfLessAndEq, h]
  · subst h; simp [compare, compareOfLessAndEq]
  · simp [compare, compareOfLessAndEq, show ¬ a < b by omega, show a ≠ b by omega]

/-- the complex number of two whole ones -/
def C (a b : Int) : Value := .complex .f64 (fl a) (fl b)

set_option maxRecDepth 100000 in
set_option maxHeartbeats 1000000 in
theorem signbit_any (a : Int) (h : 0 ≤ a) (w : World) : Calls Tryz.prog 61 #[.float .f64 (fl a)] w fun e w' => e = .returned (.bool false) ∧ w = w' := by
  have h1 := fl_bits a h
  generalize fl a = b at *
  have q1 := fun w => run_bits b w
  have q2 : IntKind.i64.wrap (b : Int) = b := IntWalk.i64_in _ (by omega)
  have q3 : ¬ ((b : Int) < 0) := by omega
  go_enter Tryz.func61, Tryz.ntmps61
  go_wp2
  go_ret
  exact ⟨rfl, rfl⟩

set_option maxRecDepth 100000 in
set_option maxHeartbeats 1000000 in
theorem floor_any (a : Int) (h : Small a) (w : World) : Calls Tryz.prog 62 #[.float .f64 (fl a)] w fun e w' => e = .returned (.float .f64 (fl a)) ∧ w = w' := by
  obtain ⟨s, m, i, h1, h2⟩ := fl_floor a h
  have q1 := fun w => run_floor (fl a) s m i h1 w
  rw [h2] at q1
  clear h1 h2
  go_enter Tryz.func62, Tryz.ntmps62
  go_wp2
  go_ret
  exact ⟨rfl, rfl⟩

set_option maxRecDepth 100000 in
set_option maxHeartbeats 4000000 in
theorem right_any (a b : Int) (ha : Fit a) (hb : Fit b) (w : World) : Calls Tryz.prog 28 #[C a b] w fun e w' => e = .returned (.bool (decide (a ≤ mw ∧ b ≤ mw))) ∧ w = w' := by
  have g1 := ord_gt ha fit_mw
  have g2 := ord_gt hb fit_mw
  have e1 := ord_eq ha ha
  have e2 := ord_eq hb hb
  rw [mw_word] at g1 g2
  rw [decide_eq_true rfl] at e1 e2
  unfold C
  have S1 := Hid_mk (signbit_any a ha.1)
  have S2 := Hid_mk (signbit_any b hb.1)
  have F1 := Hid_mk (floor_any a ha.small)
  have F2 := Hid_mk (floor_any b hb.small)
  clear ha hb
  generalize fl a = x at *
  generalize fl b = y at *
  by_cases c1 : a ≤ mw
  · rw [decide_eq_false (show ¬ mw < a by omega)] at g1
    by_cases c2 : b ≤ mw
    · rw [decide_eq_false (show ¬ mw < b by omega)] at g2
      rw [decide_eq_true (show a ≤ mw ∧ b ≤ mw from ⟨c1, c2⟩)]
      clear c1 c2
      go_enter Tryz.func28, Tryz.ntmps28
      go_wp2_with (first
        | (refine (S1.out _).mono ?_; rintro e w' ⟨rfl, rfl⟩)
        | (refine (S2.out _).mono ?_; rintro e w' ⟨rfl, rfl⟩)
        | (refine (F1.out _).mono ?_; rintro e w' ⟨rfl, rfl⟩)
        | (refine (F2.out _).mono ?_; rintro e w' ⟨rfl, rfl⟩))
      go_ret
      exact ⟨rfl, rfl⟩
    · rw [decide_eq_true (show mw < b by omega)] at g2
      rw [decide_eq_false (show ¬ (a ≤ mw ∧ b ≤ mw) from fun h => c2 h.2)]
      clear c1 c2
      go_enter Tryz.func28, Tryz.ntmps28
      go_wp2_with (first
        | (refine (S1.out _).mono ?_; rintro e w' ⟨rfl, rfl⟩)
        | (refine (S2.out _).mono ?_; rintro e w' ⟨rfl, rfl⟩))
      go_ret
      exact ⟨rfl, rfl⟩
  · rw [decide_eq_true (show mw < a by omega)] at g1
    rw [decide_eq_false (show ¬ (a ≤ mw ∧ b ≤ mw) from fun h => c1 h.1)]
    clear c1 g2
    go_enter Tryz.func28, Tryz.ntmps28
    go_wp2_with (first
      | (refine (S1.out _).mono ?_; rintro e w' ⟨rfl, rfl⟩)
      | (refine (S2.out _).mono ?_; rintro e w' ⟨rfl, rfl⟩))
    go_ret
    exact ⟨rfl, rfl⟩

end Go.Proofs.YteekcbbdbciddaaGreatDoor.mrk

namespace Go.Proofs.YteekcbbdbciddaaGreatDoor.mrk
open Go.RowKit Go.Proofs.YteekcbbdbciddaaGreatDoor.fl Go.Proofs.YteekcbbdbciddaaGreatDoor.sum
set_option linter.unusedVariables false

def Is (a : Int) : Prop := 0 ≤ a ∧ a ≤ mw
theorem Is.fit {a : Int} (h : Is a) : Fit a := by unfold Is mw at h; unfold Fit; omega

theorem run_u64 (a : Int) (ha : Fit a) (w : World) : (convert 102 30 (.float .f64 (fl a))).run Tryz.prog w = .ok (.int .u64 a) w := by
  refine run_convert_float_int w 102 30 .f64 .u64 (fl a) a (by rw [Tryz.underlying102]; rfl) Tryz.underlying30 (fl_int a ha.small .u64 ?_ ?_)
  · show IntKind.u64.min ≤ a
    have := ha.1
    simpa [IntKind.min, IntKind.signed, IntKind.bits] using this
  · have := ha.2
    simp [IntKind.max, IntKind.signed, IntKind.bits]
    omega

set_option maxRecDepth 100000 in
set_option maxHeartbeats 1000000 in
theorem parts_any (a b : Int) (ha : Is a) (hb : Is b) (w : World) : Calls Tryz.prog 73 #[C a b] w fun e w' =>
    e = .returned (.tuple #[.int .u64 a, .int .u64 b]) ∧ w = w' := by
  have R := Hid_mk (right_any a b ha.fit hb.fit)
  rw [decide_eq_true (show a ≤ mw ∧ b ≤ mw from ⟨ha.2, hb.2⟩)] at R
  have u1 := run_u64 a ha.fit
  have u2 := run_u64 b hb.fit
  unfold C at *
  clear ha hb
  go_enter Tryz.func73, Tryz.ntmps73
  go_wp2_with (first | (go_at_call 28; with_reducible refine (R.out _).mono ?_; rintro e w' ⟨rfl, rfl⟩))
  go_ret2
  exact ⟨rfl, rfl⟩

set_option maxRecDepth 100000 in
set_option maxHeartbeats 2000000 in
theorem less_any (a b c d : Int) (ha : Is a) (hb : Is b) (hc : Is c) (hd : Is d) (w : World) : Calls Tryz.prog 29 #[C a b, C c d] w fun e w' =>
    e = .returned (.bool (decide (a < c ∨ a = c ∧ b < d))) ∧ w = w' := by
  have R := Hid_mk (right_any a b ha.fit hb.fit)
  rw [decide_eq_true (show a ≤ mw ∧ b ≤ mw from ⟨ha.2, hb.2⟩)] at R
  have R1 := Hid_mk (right_any c d hc.fit hd.fit)
  rw [decide_eq_true (show c ≤ mw ∧ d ≤ mw from ⟨hc.2, hd.2⟩)] at R1
  have e1 := ord_eq ha.fit hc.fit
  have l1 := ord_lt ha.fit hc.fit
  have l2 := ord_lt hb.fit hd.fit
  unfold C at *
  clear ha hb hc hd
  generalize fl a = x at *
  generalize fl b = y at *
  generalize fl c = u at *
  generalize fl d = v at *
  by_cases c1 : a = c
  · rw [decide_eq_true c1] at e1
    have er : decide (a < c ∨ a = c ∧ b < d) = decide (b < d) := by
      by_cases h : b < d
      · simp [h, c1]
      · simp [h]; omega
    rw [er]
    clear er l1
    generalize decide (b < d) = z at *
    clear c1
    go_enter Tryz.func29, Tryz.ntmps29
    go_wp2_with (first | (go_at_call 28; with_reducible refine (R.out _).mono ?_; rintro e w' ⟨rfl, rfl⟩) | (go_at_call 28; with_reducible refine (R1.out _).mono ?_; rintro e w' ⟨rfl, rfl⟩))
    go_ret
    exact ⟨rfl, rfl⟩
  · rw [decide_eq_false c1] at e1
    have er : decide (a < c ∨ a = c ∧ b < d) = decide (a < c) := by
      by_cases h : a < c
      · simp [h]
      · simp [h, c1]
    rw [er]
    clear er l2
    generalize decide (a < c) = z at *
    clear c1
    go_enter Tryz.func29, Tryz.ntmps29
    go_wp2_with (first | (go_at_call 28; with_reducible refine (R.out _).mono ?_; rintro e w' ⟨rfl, rfl⟩) | (go_at_call 28; with_reducible refine (R1.out _).mono ?_; rintro e w' ⟨rfl, rfl⟩))
    go_ret
    exact ⟨rfl, rfl⟩

end Go.Proofs.YteekcbbdbciddaaGreatDoor.mrk
