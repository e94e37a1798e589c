/- The laws of marks: their example, and the marks that are none. -/
import Derived.Test.YtomckoeobkfklaaMarkCalls
namespace Go.Proofs.Ytomckoeobkfklaa.mrk
open Go.RowKit Go.Proofs.Ytomckoeobkfklaa.fl Go.Proofs.Ytomckoeobkfklaa.sum
set_option linter.unusedVariables false

theorem w2 : fl 2 = 4611686018427387904 := by decide +kernel
theorem w3 : fl 3 = 4613937818241073152 := by decide +kernel
theorem w7 : fl 7 = 4619567317775286272 := by decide +kernel
theorem w8 : fl 8 = 4620693217682128896 := by decide +kernel
theorem w9 : fl 9 = 4621256167635550208 := by decide +kernel
theorem is_num {a : Int} (h : 0 ≤ a) (h2 : a ≤ 1099511627776) : Is a := ⟨h, h2⟩

theorem same_word {a : Int} (h : Is a) : (FloatKind.f64.format.order (fl a) (fl a) == some .eq) = true := by
  rw [ord_eq h.fit h.fit, decide_eq_true rfl]

set_option maxHeartbeats 4000000 in
theorem known_any (w : World) : Calls Try.prog 6 #[] w fun e w' => e = .returned (.bool true) ∧ w = w' := by
  have i0 : Is 0 := is_num (by omega) (by omega)
  have i2 : Is 2 := is_num (by omega) (by omega)
  have i3 : Is 3 := is_num (by omega) (by omega)
  have i7 : Is 7 := is_num (by omega) (by omega)
  have i8 : Is 8 := is_num (by omega) (by omega)
  have i9 : Is 9 := is_num (by omega) (by omega)
  have o3 := same_word i3
  have o7 := same_word i7
  have o8 := same_word i8
  have H1 := of_any 3 7 (by omega) (by omega)
  have H2 := parts_any 3 7 i3 i7
  have H3 := next_any 3 7 i3 i7
  have H4 := less_any 2 9 3 0 i2 i9 i3 i0
  have H5 := less_any 3 0 3 0 i3 i0 i3 i0
  rw [if_pos ⟨by decide, by decide⟩] at H1
  rw [if_pos (by decide)] at H3
  rw [decide_eq_true (by omega)] at H4
  rw [decide_eq_false (by omega)] at H5
  unfold C at H1 H2 H3 H4 H5
  rw [show (7 : Int) + 1 = 8 from rfl] at H3
  rw [w3] at *
  rw [w7] at *
  rw [w8] at *
  rw [w2, w9, zero_word] at H4
  rw [zero_word] at H5
  replace H1 := Hid_mk H1
  replace H2 := Hid_mk H2
  replace H3 := Hid_mk H3
  replace H4 := Hid_mk H4
  replace H5 := Hid_mk H5
  clear i0 i2 i3 i7 i8 i9
  go_enter Try.func6, Try.ntmps6
  go_wp2_with (first
    | (go_at_call 5; with_reducible refine (H1.out _).mono ?_; rintro e w' ⟨rfl, rfl⟩)
    | (go_at_call 8; with_reducible refine (H2.out _).mono ?_; rintro e w' ⟨rfl, rfl⟩)
    | (go_at_call 9; with_reducible refine (H3.out _).mono ?_; rintro e w' ⟨rfl, rfl⟩)
    | (go_at_call 10; with_reducible refine (H4.out _).mono ?_; rintro e w' ⟨rfl, rfl⟩)
    | (go_at_call 10; with_reducible refine (H5.out _).mono ?_; rintro e w' ⟨rfl, rfl⟩))
  go_ret
  exact ⟨rfl, rfl⟩

set_option maxHeartbeats 1000000 in
theorem signbit_pos (b : Nat) (h : b < 9223372036854775808) (w : World) : Calls Try.prog 11 #[.float .f64 b] w fun e w' => e = .returned (.bool false) ∧ w = w' := by
  have q1 := fun w => run_bits b w
  have q2 : IntKind.i64.wrap (b : Int) = b := IntWalk.i64_in _ (by omega)
  have q3 : ¬ ((b : Int) < 0) := by omega
  go_enter Try.func11, Try.ntmps11
  go_wp2
  go_ret
  exact ⟨rfl, rfl⟩

set_option maxHeartbeats 1000000 in
theorem signbit_one (w : World) : Calls Try.prog 11 #[.float .f64 13830554455654793216] w fun e w' => e = .returned (.bool true) ∧ w = w' := by
  have q1 := fun w => run_bits 13830554455654793216 w
  have q2 : wrap64 13830554455654793216 = -4616189618054758400 := by decide +kernel
  go_enter Try.func11, Try.ntmps11
  go_wp2
  go_ret
  exact ⟨rfl, rfl⟩

set_option maxHeartbeats 1000000 in
theorem floor_frac (w : World) : Calls Try.prog 12 #[.float .f64 4609434218613702656] w fun e w' => e = .returned (.float .f64 4607182418800017408) ∧ w = w' := by
  have q1 := fun w => run_floor 4609434218613702656 false 6755399441055744 (-52) (by decide +kernel) w
  rw [show FloatKind.f64.encode ((Ieee.Datum.number false 6755399441055744 (-52)).integral .down) = 4607182418800017408 by decide +kernel] at q1
  go_enter Try.func12, Try.ntmps12
  go_wp2
  go_ret
  exact ⟨rfl, rfl⟩

/-- 1.5 is none, nor is -1, nor -i -/
theorem right_frac (w : World) : Calls Try.prog 7 #[.complex .f64 4609434218613702656 0] w fun e w' => e = .returned (.bool false) ∧ w = w' := by
  have S1 := Hid_mk (signbit_pos 4609434218613702656 (by omega))
  have S2 := Hid_mk (signbit_pos 0 (by omega))
  have F1 := Hid_mk floor_frac
  have F2' := floor_any 0 (show Small 0 by unfold Small; decide)
  rw [zero_word] at F2'
  have F2 := Hid_mk F2'
  have g1 : (FloatKind.f64.format.order 4609434218613702656 4787326403894837248 == some .gt) = false := by decide +kernel
  have g2 : (FloatKind.f64.format.order 0 4787326403894837248 == some .gt) = false := by decide +kernel
  have g3 : (FloatKind.f64.format.order 4609434218613702656 4607182418800017408 == some .eq) = false := by decide +kernel
  clear F2'
  go_enter Try.func7, Try.ntmps7
  go_wp2_with (first
    | (go_at_call 11; with_reducible refine (S1.out _).mono ?_; rintro e w' ⟨rfl, rfl⟩)
    | (go_at_call 11; with_reducible refine (S2.out _).mono ?_; rintro e w' ⟨rfl, rfl⟩)
    | (go_at_call 12; with_reducible refine (F1.out _).mono ?_; rintro e w' ⟨rfl, rfl⟩)
    | (go_at_call 12; with_reducible refine (F2.out _).mono ?_; rintro e w' ⟨rfl, rfl⟩))
  go_ret
  exact ⟨rfl, rfl⟩

theorem right_neg (w : World) : Calls Try.prog 7 #[.complex .f64 13830554455654793216 0] w fun e w' => e = .returned (.bool false) ∧ w = w' := by
  have S1 := Hid_mk signbit_one
  have S2 := Hid_mk (signbit_pos 0 (by omega))
  go_enter Try.func7, Try.ntmps7
  go_wp2_with (first
    | (go_at_call 11; with_reducible refine (S1.out _).mono ?_; rintro e w' ⟨rfl, rfl⟩)
    | (go_at_call 11; with_reducible refine (S2.out _).mono ?_; rintro e w' ⟨rfl, rfl⟩))
  go_ret
  exact ⟨rfl, rfl⟩

theorem right_negi (w : World) : Calls Try.prog 7 #[.complex .f64 0 13830554455654793216] w fun e w' => e = .returned (.bool false) ∧ w = w' := by
  have S1 := Hid_mk signbit_one
  have S2 := Hid_mk (signbit_pos 0 (by omega))
  go_enter Try.func7, Try.ntmps7
  go_wp2_with (first
    | (go_at_call 11; with_reducible refine (S1.out _).mono ?_; rintro e w' ⟨rfl, rfl⟩)
    | (go_at_call 11; with_reducible refine (S2.out _).mono ?_; rintro e w' ⟨rfl, rfl⟩))
  go_ret
  exact ⟨rfl, rfl⟩

set_option maxHeartbeats 4000000 in
theorem markKnown_any (w : World) : Calls Try.prog 3 #[] w fun e w' => e = .returned (.bool true) ∧ w = w' := by
  have H1 := of_any 1099511627777 0 (by omega) (by omega)
  have H2 := of_any 0 1099511627777 (by omega) (by omega)
  rw [if_neg (by decide)] at H1 H2
  have H3 := right_any 0 0 (is_num (by omega) (by omega) : Is 0).fit (is_num (by omega) (by omega) : Is 0).fit
  have H4 := right_any mw 0 fit_mw (is_num (by omega) (by omega) : Is 0).fit
  rw [decide_eq_true (by decide)] at H3 H4
  unfold C at H3 H4
  rw [mw_word] at H4
  rw [zero_word] at H3 H4
  replace H1 := Hid_mk H1
  replace H2 := Hid_mk H2
  replace H3 := Hid_mk H3
  replace H4 := Hid_mk H4
  have K := Hid_mk known_any
  have R1 := Hid_mk right_frac
  have R2 := Hid_mk right_neg
  have R3 := Hid_mk right_negi
  go_enter Try.func3, Try.ntmps3
  go_wp2_with (first
    | (go_at_call 5; with_reducible refine (H1.out _).mono ?_; rintro e w' ⟨rfl, rfl⟩)
    | (go_at_call 5; with_reducible refine (H2.out _).mono ?_; rintro e w' ⟨rfl, rfl⟩)
    | (go_at_call 6; with_reducible refine (K.out _).mono ?_; rintro e w' ⟨rfl, rfl⟩)
    | (go_at_call 7; with_reducible refine (R1.out _).mono ?_; rintro e w' ⟨rfl, rfl⟩)
    | (go_at_call 7; with_reducible refine (R2.out _).mono ?_; rintro e w' ⟨rfl, rfl⟩)
    | (go_at_call 7; with_reducible refine (R3.out _).mono ?_; rintro e w' ⟨rfl, rfl⟩)
    | (go_at_call 7; with_reducible refine (H3.out _).mono ?_; rintro e w' ⟨rfl, rfl⟩)
    | (go_at_call 7; with_reducible refine (H4.out _).mono ?_; rintro e w' ⟨rfl, rfl⟩))
  go_ret
  exact ⟨rfl, rfl⟩

set_option maxHeartbeats 4000000 in
/-- the law behind the choice of small ones -/
theorem markOf_any (a b : Int) (s : Bool) (ha : 0 ≤ a) (hb : 0 ≤ b) (ha2 : a ≤ 18446744073709551615) (hb2 : b ≤ 18446744073709551615) (w : World) :
    Calls Try.prog 4 #[.int .u64 a, .int .u64 b, .bool s] w fun e w' => e = .returned (.bool true) ∧ w = w' := by
  have K := Hid_mk known_any
  obtain ⟨x, hx⟩ : ∃ x, x = if s = true then a % 50 else a := ⟨_, rfl⟩
  obtain ⟨y, hy⟩ : ∃ y, y = if s = true then b % 50 else b := ⟨_, rfl⟩
  have x0 : 0 ≤ x := by rw [hx]; split <;> omega
  have y0 : 0 ≤ y := by rw [hy]; split <;> omega
  have H1 := Hid_mk (of_any x y x0 y0)
  have zz : (FloatKind.f64.format.order 0 0 == some .eq) = true := by decide +kernel
  have HP : ∀ h : x ≤ mw ∧ y ≤ mw, Hid (∀ w, Calls Try.prog 8 #[C x y] w fun e w' => e = .returned (.tuple #[.int .u64 x, .int .u64 y]) ∧ w = w') ∧
      Hid (∀ w, Calls Try.prog 7 #[C x y] w fun e w' => e = .returned (.bool true) ∧ w = w') ∧
      (FloatKind.f64.format.order (fl x) (floatOfInt .f64 x) == some .eq) = true ∧ (FloatKind.f64.format.order (fl y) (floatOfInt .f64 y) == some .eq) = true := by
    intro h
    have R := right_any x y (Is.fit ⟨x0, h.1⟩) (Is.fit ⟨y0, h.2⟩)
    rw [decide_eq_true h] at R
    exact ⟨Hid_mk (parts_any x y ⟨x0, h.1⟩ ⟨y0, h.2⟩), Hid_mk R, same_word ⟨x0, h.1⟩, same_word ⟨y0, h.2⟩⟩
  have HX := Hid_mk HP
  clear HP
  cases s with
  | true =>
    simp only [if_true] at hx hy
    by_cases h : x ≤ mw ∧ y ≤ mw
    · obtain ⟨P, R, o1, o2⟩ := HX.out h
      rw [if_pos h] at H1
      have hh := h
      unfold mw at hh
      subst hx hy
      clear HX h
      unfold C at *
      go_enter Try.func4, Try.ntmps4
      go_wp2_with (first
        | (go_at_call 5; with_reducible refine (H1.out _).mono ?_; rintro e w' ⟨rfl, rfl⟩)
        | (go_at_call 8; with_reducible refine (P.out _).mono ?_; rintro e w' ⟨rfl, rfl⟩)
        | (go_at_call 6; with_reducible refine (K.out _).mono ?_; rintro e w' ⟨rfl, rfl⟩)
        | (go_at_call 7; with_reducible refine (R.out _).mono ?_; rintro e w' ⟨rfl, rfl⟩))
      go_ret
      exact ⟨rfl, rfl⟩
    · exact absurd (show x ≤ mw ∧ y ≤ mw by unfold mw; omega) h
  | false =>
    simp only [Bool.false_eq_true, if_false] at hx hy
    subst hx hy
    by_cases h : x ≤ mw ∧ y ≤ mw
    · obtain ⟨P, R, o1, o2⟩ := HX.out h
      rw [if_pos h] at H1
      have h1 := h.1
      have h2 := h.2
      unfold mw at h1 h2
      clear HX h
      unfold C at *
      go_enter Try.func4, Try.ntmps4
      go_wp2_with (first
        | (go_at_call 5; with_reducible refine (H1.out _).mono ?_; rintro e w' ⟨rfl, rfl⟩)
        | (go_at_call 8; with_reducible refine (P.out _).mono ?_; rintro e w' ⟨rfl, rfl⟩)
        | (go_at_call 6; with_reducible refine (K.out _).mono ?_; rintro e w' ⟨rfl, rfl⟩)
        | (go_at_call 7; with_reducible refine (R.out _).mono ?_; rintro e w' ⟨rfl, rfl⟩))
      go_ret
      exact ⟨rfl, rfl⟩
    · rw [if_neg h] at H1
      clear HX
      by_cases h1 : x ≤ 1099511627776
      · have h2 : ¬ y ≤ 1099511627776 := fun g => h ⟨h1, g⟩
        clear h
        go_enter Try.func4, Try.ntmps4
        go_wp2_with (first
          | (go_at_call 5; with_reducible refine (H1.out _).mono ?_; rintro e w' ⟨rfl, rfl⟩)
          | (go_at_call 6; with_reducible refine (K.out _).mono ?_; rintro e w' ⟨rfl, rfl⟩))
        go_ret
        exact ⟨rfl, rfl⟩
      · clear h
        go_enter Try.func4, Try.ntmps4
        go_wp2_with (first
          | (go_at_call 5; with_reducible refine (H1.out _).mono ?_; rintro e w' ⟨rfl, rfl⟩)
          | (go_at_call 6; with_reducible refine (K.out _).mono ?_; rintro e w' ⟨rfl, rfl⟩))
        go_ret
        exact ⟨rfl, rfl⟩

/-- as the statement's row asks it -/
theorem markOf_row (w : World) (a b : Int) (s : Bool) (ha : (Lit.int .u64 a).wf = true) (hb : (Lit.int .u64 b).wf = true) :
    Calls Try.prog 4 #[.int .u64 a, .int .u64 b, .bool s] w fun e w' => e = .returned (.bool true) ∧ w = w' := by
  have ha' : 0 ≤ a ∧ a ≤ 18446744073709551615 := by simpa [Lit.wf, IntKind.min, IntKind.max, IntKind.signed, IntKind.bits] using ha
  have hb' : 0 ≤ b ∧ b ≤ 18446744073709551615 := by simpa [Lit.wf, IntKind.min, IntKind.max, IntKind.signed, IntKind.bits] using hb
  exact markOf_any a b s ha'.1 hb'.1 ha'.2 hb'.2 w

end Go.Proofs.Ytomckoeobkfklaa.mrk
