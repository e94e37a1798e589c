/- The marks of whole numbers: Of, Parts, Next, Less; the law's example. -/
import Derived.Test.YtomckoeobkfklaaMark
namespace Go.Proofs.Ytomckoeobkfklaa.mrk
open Go.RowKit Go.Proofs.Ytomckoeobkfklaa.fl Go.Proofs.Ytomckoeobkfklaa.sum
set_option linter.unusedVariables false

def Is (a : Int) : Prop := 0 ≤ a ∧ a ≤ mw
theorem Is.fit {a : Int} (h : Is a) : Fit a := by unfold Is mw at h; unfold Fit; omega

set_option maxHeartbeats 1000000 in
theorem of_any (a b : Int) (ha : 0 ≤ a) (hb : 0 ≤ b) (w : World) : Calls Try.prog 5 #[.int .u64 a, .int .u64 b] w fun e w' =>
    e = .returned (if a ≤ mw ∧ b ≤ mw then .tuple #[C a b, .int .i64 0] else .tuple #[.complex .f64 0 0, .int .i64 1]) ∧ w = w' := by
  by_cases c1 : a ≤ mw
  · by_cases c2 : b ≤ mw
    · rw [if_pos ⟨c1, c2⟩]
      unfold mw at c1 c2
      go_enter Try.func5, Try.ntmps5
      go_wp2
      go_ret2
      exact ⟨rfl, rfl⟩
    · rw [if_neg (by omega)]
      unfold mw at c1 c2
      go_enter Try.func5, Try.ntmps5
      go_wp2
      go_ret2
      exact ⟨rfl, rfl⟩
  · rw [if_neg (by omega)]
    unfold mw at c1
    go_enter Try.func5, Try.ntmps5
    go_wp2
    go_ret2
    exact ⟨rfl, rfl⟩

theorem run_u64 (a : Int) (ha : Fit a) (w : World) : (convert 31 26 (.float .f64 (fl a))).run Try.prog w = .ok (.int .u64 a) w := by
  refine run_convert_float_int w 31 26 .f64 .u64 (fl a) a (by rw [Try.underlying31]; rfl) Try.underlying26 (fl_int a ha.small .u64 ?_ ?_)
  · show IntKind.u64.min ≤ a
    have := ha.1
    simpa [IntKind.min, IntKind.signed, IntKind.bits] using this
  · have := ha.2
    simp [IntKind.max, IntKind.signed, IntKind.bits]
    omega

set_option maxHeartbeats 1000000 in
theorem parts_any (a b : Int) (ha : Is a) (hb : Is b) (w : World) : Calls Try.prog 8 #[C a b] w fun e w' =>
    e = .returned (.tuple #[.int .u64 a, .int .u64 b]) ∧ w = w' := by
  have R := Hid_mk (right_any a b ha.fit hb.fit)
  rw [decide_eq_true (show a ≤ mw ∧ b ≤ mw from ⟨ha.2, hb.2⟩)] at R
  have u1 := run_u64 a ha.fit
  have u2 := run_u64 b hb.fit
  unfold C at *
  clear ha hb
  go_enter Try.func8, Try.ntmps8
  go_wp2_with (first | (go_at_call 7; with_reducible refine (R.out _).mono ?_; rintro e w' ⟨rfl, rfl⟩))
  go_ret2
  exact ⟨rfl, rfl⟩

theorem add_i (a b : Int) (ha : Fit a) (hb : Is b) (w : World) (t : TypeId) : (binOp .add t (C a b) (.complex .f64 0 4607182418800017408)).run Try.prog w = .ok (C a (b + 1)) w := by
  refine run_complex_sum w .add (.inl rfl) t .f64 _ _ _ _ _ _ ?_
  have hb1 : Fit (b + 1) := by unfold Is mw at hb; unfold Fit; omega
  unfold cSumBits
  have h0 : Fit 0 := by unfold Fit; omega
  have h1 : Fit 1 := by unfold Fit; omega
  rw [← zero_word, ← one_word]
  rw [fl_add a 0 ha.small h0.small (by simpa using ha.small), fl_add b 1 hb.fit.small h1.small hb1.small]
  simp

set_option maxHeartbeats 2000000 in
theorem next_any (a b : Int) (ha : Is a) (hb : Is b) (w : World) : Calls Try.prog 9 #[C a b] w fun e w' =>
    e = .returned (if b < mw then C a (b + 1) else C a b) ∧ w = w' := by
  have hb1 : Fit (b + 1) := by unfold Is mw at hb; unfold Fit; omega
  have R := Hid_mk (right_any a b ha.fit hb.fit)
  rw [decide_eq_true (show a ≤ mw ∧ b ≤ mw from ⟨ha.2, hb.2⟩)] at R
  have R1 := Hid_mk (right_any a (b + 1) ha.fit hb1)
  have ad := add_i a b ha.fit hb
  have la := ha.2
  clear ha hb hb1
  generalize C a b = x at *
  generalize C a (b + 1) = y at *
  by_cases c : b < mw
  · rw [decide_eq_true (show a ≤ mw ∧ b + 1 ≤ mw from ⟨la, c⟩)] at R1
    rw [if_pos c]
    clear c la
    go_enter Try.func9, Try.ntmps9
    go_wp2_with (first | (go_at_call 7; with_reducible refine (R.out _).mono ?_; rintro e w' ⟨rfl, rfl⟩) | (go_at_call 7; with_reducible refine (R1.out _).mono ?_; rintro e w' ⟨rfl, rfl⟩))
    go_ret
    exact ⟨rfl, rfl⟩
  · rw [decide_eq_false (show ¬ (a ≤ mw ∧ b + 1 ≤ mw) from fun h => c h.2)] at R1
    rw [if_neg c]
    clear c la
    go_enter Try.func9, Try.ntmps9
    go_wp2_with (first | (go_at_call 7; with_reducible refine (R.out _).mono ?_; rintro e w' ⟨rfl, rfl⟩) | (go_at_call 7; with_reducible refine (R1.out _).mono ?_; rintro e w' ⟨rfl, rfl⟩))
    go_ret
    exact ⟨rfl, rfl⟩

set_option maxHeartbeats 2000000 in
theorem less_any (a b c d : Int) (ha : Is a) (hb : Is b) (hc : Is c) (hd : Is d) (w : World) : Calls Try.prog 10 #[C a b, C c d] w fun e w' =>
    e = .returned (.bool (decide (a < c ∨ a = c ∧ b < d))) ∧ w = w' := by
  have R := Hid_mk (right_any a b ha.fit hb.fit)
  rw [decide_eq_true (show a ≤ mw ∧ b ≤ mw from ⟨ha.2, hb.2⟩)] at R
  have R1 := Hid_mk (right_any c d hc.fit hd.fit)
  rw [decide_eq_true (show c ≤ mw ∧ d ≤ mw from ⟨hc.2, hd.2⟩)] at R1
  have e1 := ord_eq ha.fit hc.fit
  have l1 := ord_lt ha.fit hc.fit
  have l2 := ord_lt hb.fit hd.fit
  unfold C at *
  clear ha hb hc hd
  generalize fl a = x at *
  generalize fl b = y at *
  generalize fl c = u at *
  generalize fl d = v at *
  by_cases c1 : a = c
  · rw [decide_eq_true c1] at e1
    have er : decide (a < c ∨ a = c ∧ b < d) = decide (b < d) := by
      by_cases h : b < d
      · simp [h, c1]
      · simp [h]; omega
    rw [er]
    clear er l1
    generalize decide (b < d) = z at *
    clear c1
    go_enter Try.func10, Try.ntmps10
    go_wp2_with (first | (go_at_call 7; with_reducible refine (R.out _).mono ?_; rintro e w' ⟨rfl, rfl⟩) | (go_at_call 7; with_reducible refine (R1.out _).mono ?_; rintro e w' ⟨rfl, rfl⟩))
    go_ret
    exact ⟨rfl, rfl⟩
  · rw [decide_eq_false c1] at e1
    have er : decide (a < c ∨ a = c ∧ b < d) = decide (a < c) := by
      by_cases h : a < c
      · simp [h]
      · simp [h, c1]
    rw [er]
    clear er l2
    generalize decide (a < c) = z at *
    clear c1
    go_enter Try.func10, Try.ntmps10
    go_wp2_with (first | (go_at_call 7; with_reducible refine (R.out _).mono ?_; rintro e w' ⟨rfl, rfl⟩) | (go_at_call 7; with_reducible refine (R1.out _).mono ?_; rintro e w' ⟨rfl, rfl⟩))
    go_ret
    exact ⟨rfl, rfl⟩

end Go.Proofs.Ytomckoeobkfklaa.mrk
