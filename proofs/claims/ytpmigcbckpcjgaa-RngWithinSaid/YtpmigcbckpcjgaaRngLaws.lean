/- The laws of random numbers: what they ask of each. -/
import Derived.Test.YtpmigcbckpcjgaaRng
namespace Go.Proofs.Ytpmigcbckpcjgaa.rng
open Go.RowKit Go.Proofs.Ytpmigcbckpcjgaa.fl Go.Proofs.Ytpmigcbckpcjgaa.sum
set_option linter.unusedVariables false

theorem sd0 : sd 0 = 0 := by decide +kernel
theorem sd1 : sd 4607182418800017408 = 4607182418800017408 := by decide +kernel
theorem sdm0 : sd 9223372036854775808 = 0 := by decide +kernel
theorem sdn : sd 9221120237041090561 = 0 := by decide +kernel
theorem sdi : sd 9218868437227405312 = 9218868437227405312 := by decide +kernel
theorem nx0 : nx 0 = 11400714819323198485 := by decide +kernel

set_option maxRecDepth 100000 in
theorem known_any (w : World) : Calls Try.prog 7 #[] w fun e w' => e = .returned (.bool true) ∧ w = w' := by
  have HN := fun w => next_any 0 (by omega) (by omega) w
  have H0 := fun w => seed_any 0 w
  have H1 := fun w => seed_any 4607182418800017408 w
  unfold NxP at HN
  unfold SdP at H0 H1
  rw [nx0] at HN
  rw [sd0] at H0
  rw [sd1] at H1
  replace HN := Hid_mk HN
  replace H0 := Hid_mk H0
  replace H1 := Hid_mk H1
  go_enter Try.func7, Try.ntmps7
  go_wp2_with (first
    | (go_at_call 12; with_reducible refine (HN.out _).mono ?_; rintro e w' ⟨rfl, rfl⟩)
    | (go_at_call 8; with_reducible refine (H0.out _).mono ?_; rintro e w' ⟨rfl, rfl⟩)
    | (go_at_call 8; with_reducible refine (H1.out _).mono ?_; rintro e w' ⟨rfl, rfl⟩))
  go_ret
  exact ⟨rfl, rfl⟩

theorem run_from (n : Nat) (w : World) : (callFunc 18 #[.int .u64 (n : Int)]).run Try.prog w = .ok (.value (.float .f64 n)) w := by
  rw [run_callFunc_extern Try.func18 (by kernel_rfl) (by kernel_rfl) (by kernel_rfl) (show Extern.find _ = some Extern.MathFloatBits.float64frombits by kernel_rfl)]
  show Result.ok _ _ = _
  simp

set_option maxRecDepth 100000 in
theorem copysign_m0 (w : World) : Calls Try.prog 9 #[.float .f64 0, .float .f64 13830554455654793216] w fun e w' => e = .returned (.float .f64 9223372036854775808) ∧ w = w' := by
  have q1 := fun w => run_bits 0 w
  have q2 := fun w => run_bits 13830554455654793216 w
  have q3 : ∀ w, (callFunc 18 #[.int .u64 9223372036854775808]).run Try.prog w = .ok (.value (.float .f64 9223372036854775808)) w := fun w => run_from 9223372036854775808 w
  have b1 : bits .andNot .u64 0 9223372036854775808 = 0 := by decide +kernel
  have b2 : bits .and .u64 13830554455654793216 9223372036854775808 = 9223372036854775808 := by decide +kernel
  have b3 : bits .or .u64 0 9223372036854775808 = 9223372036854775808 := by decide +kernel
  go_enter Try.func9, Try.ntmps9
  go_wp2
  go_ret
  exact ⟨rfl, rfl⟩

set_option maxRecDepth 100000 in
theorem nan_any (w : World) : Calls Try.prog 10 #[] w fun e w' => e = .returned (.float .f64 9221120237041090561) ∧ w = w' := by
  have q3 : ∀ w, (callFunc 18 #[.int .u64 9221120237041090561]).run Try.prog w = .ok (.value (.float .f64 9221120237041090561)) w := fun w => run_from 9221120237041090561 w
  go_enter Try.func10, Try.ntmps10
  go_wp2
  go_ret
  exact ⟨rfl, rfl⟩

set_option maxRecDepth 100000 in
theorem inf_one (w : World) : Calls Try.prog 11 #[.int .i64 1] w fun e w' => e = .returned (.float .f64 9218868437227405312) ∧ w = w' := by
  have q3 : ∀ w, (callFunc 18 #[.int .u64 9218868437227405312]).run Try.prog w = .ok (.value (.float .f64 9218868437227405312)) w := fun w => run_from 9218868437227405312 w
  go_enter Try.func11, Try.ntmps11
  go_wp2
  go_ret
  exact ⟨rfl, rfl⟩

set_option maxRecDepth 100000 in
theorem rngKnown_any (w : World) : Calls Try.prog 3 #[] w fun e w' => e = .returned (.bool true) ∧ w = w' := by
  have K := Hid_mk known_any
  have C := Hid_mk copysign_m0
  have N := Hid_mk nan_any
  have I := Hid_mk inf_one
  have H0 := fun w => seed_any 9223372036854775808 w
  have H1 := fun w => seed_any 9221120237041090561 w
  have H2 := fun w => seed_any 9218868437227405312 w
  unfold SdP at H0 H1 H2
  rw [sdm0] at H0
  rw [sdn] at H1
  rw [sdi] at H2
  replace H0 := Hid_mk H0
  replace H1 := Hid_mk H1
  replace H2 := Hid_mk H2
  go_enter Try.func3, Try.ntmps3
  go_wp2_with (first
    | (go_at_call 7; with_reducible refine (K.out _).mono ?_; rintro e w' ⟨rfl, rfl⟩)
    | (go_at_call 9; with_reducible refine (C.out _).mono ?_; rintro e w' ⟨rfl, rfl⟩)
    | (go_at_call 10; with_reducible refine (N.out _).mono ?_; rintro e w' ⟨rfl, rfl⟩)
    | (go_at_call 11; with_reducible refine (I.out _).mono ?_; rintro e w' ⟨rfl, rfl⟩)
    | (go_at_call 8; with_reducible refine (H0.out _).mono ?_; rintro e w' ⟨rfl, rfl⟩)
    | (go_at_call 8; with_reducible refine (H1.out _).mono ?_; rintro e w' ⟨rfl, rfl⟩)
    | (go_at_call 8; with_reducible refine (H2.out _).mono ?_; rintro e w' ⟨rfl, rfl⟩))
  go_ret
  exact ⟨rfl, rfl⟩

theorem u64_bd {s : Int} (hs : (Lit.int .u64 s).wf = true) : 0 ≤ s ∧ s < 18446744073709551616 := by
  have : 0 ≤ s ∧ s ≤ 18446744073709551615 := by simpa [Lit.wf, IntKind.min, IntKind.max, IntKind.signed, IntKind.bits] using hs
  omega

set_option maxRecDepth 100000 in
theorem rngNext_row (w : World) (s : Int) (x : Nat) (hs : (Lit.int .u64 s).wf = true) : Calls Try.prog 4 #[.int .u64 s, .float .f64 x] w fun e w' => e = .returned (.bool true) ∧ w = w' := by
  have K := Hid_mk known_any
  have HN := Hid_mk fun w => next_any s (u64_bd hs).1 (u64_bd hs).2 w
  have HR := Hid_mk fun w => random_any s (u64_bd hs).1 (u64_bd hs).2 w
  have HS := Hid_mk fun w => seed_any x w
  have HT := Hid_mk fun w => refseed_any x w
  have q : (FloatKind.f64.format.order (fq (nm s)) (fq (nm s)) == some .eq) = true := by
    have := fq_self (nm s) (nm_bd s)
    show (Ieee.double.order _ _ == _) = _
    rw [this]; rfl
  unfold NxP at HN HR
  unfold SdP at HS HT
  generalize fq (nm s) = F at *
  generalize nx s = S at *
  generalize sd x = X at *
  clear hs
  go_enter Try.func4, Try.ntmps4
  go_wp2_with (first
    | (go_at_call 7; with_reducible refine (K.out _).mono ?_; rintro e w' ⟨rfl, rfl⟩)
    | (go_at_call 12; with_reducible refine (HN.out _).mono ?_; rintro e w' ⟨rfl, rfl⟩)
    | (go_at_call 13; with_reducible refine (HR.out _).mono ?_; rintro e w' ⟨rfl, rfl⟩)
    | (go_at_call 8; with_reducible refine (HS.out _).mono ?_; rintro e w' ⟨rfl, rfl⟩)
    | (go_at_call 14; with_reducible refine (HT.out _).mono ?_; rintro e w' ⟨rfl, rfl⟩))
  go_ret
  exact ⟨rfl, rfl⟩

/-- a row of states does not come back within 201 steps -/
theorem no_back : ∀ k : Fin 202, k.val ≠ 0 → k.val * 11400714819323198485 % 18446744073709551616 ≠ 0 := by decide +kernel
/-- the k-th state -/
def st (s : Int) (k : Nat) : Int := (s + ((k * 11400714819323198485 : Nat) : Int)) % 18446744073709551616
theorem st_bd (s : Int) (k : Nat) : 0 ≤ st s k ∧ st s k < 18446744073709551616 := by unfold st; omega
theorem st_zero {s : Int} (h : 0 ≤ s) (h2 : s < 18446744073709551616) : st s 0 = s := by unfold st; omega
theorem st_next (s : Int) (k : Nat) : nx (st s k) = st s (k + 1) := by
  rw [nx_eq]
  unfold st
  rw [Nat.add_mul, Nat.one_mul]
  omega
theorem st_ne (s : Int) (k : Nat) : st s (k + 1) ≠ st s k := by
  rw [← st_next, nx_eq]
  have := st_bd s k
  omega
theorem st_first {s : Int} (h : 0 ≤ s) (h2 : s < 18446744073709551616) (k : Nat) (hk : k < 201) : st s (k + 1) ≠ s := by
  have := no_back ⟨k + 1, by omega⟩ (by simp)
  unfold st
  have e : (k + 1) * 11400714819323198485 % 18446744073709551616 ≠ 0 := this
  clear this
  omega

theorem fl_small_i32 {a : Int} (h1 : -2147483648 ≤ a) (h2 : a ≤ 2147483647) : Small a := by
  unfold Small
  rw [p53]
  omega
theorem sd_fl (a : Int) (h : Small a) : sd (fl a) = if a = 0 then 0 else ((fl a : Nat) : Int) := by
  unfold sd
  have h0 : Small 0 := by unfold Small; decide
  have z : fl 0 = 0 := by decide +kernel
  have e := fl_eql a 0 h h0
  rw [z] at e
  rw [e, fl_eq_self a h]
  by_cases ha : a = 0 <;> simp [ha]
theorem sd_same (a b : Int) (ha : Small a) (hb : Small b) : sd (fl a) = sd (fl b) ↔ a = b := by
  have h0 : Small 0 := by unfold Small; decide
  have z : fl 0 = 0 := by decide +kernel
  rw [sd_fl a ha, sd_fl b hb]
  constructor
  · intro h
    split at h <;> split at h
    · omega
    · rename_i g1 g2
      exact absurd (fl_inj hb h0 (by rw [z]; omega)) g2
    · rename_i g1 g2
      exact absurd (fl_inj ha h0 (by rw [z]; omega)) g1
    · exact fl_inj ha hb (by omega)
  · intro h; subst h; rfl
theorem nx_same (s t : Int) (h : 0 ≤ s) (h2 : s < 18446744073709551616) (h3 : 0 ≤ t) (h4 : t < 18446744073709551616) : nx s = nx t ↔ s = t := by
  rw [nx_eq, nx_eq]
  omega
theorem sd_bd (a : Int) : 0 ≤ sd (fl a) ∧ sd (fl a) < 18446744073709551616 := by
  have := fl_lt64 a
  unfold sd
  split <;> omega

theorem i32_bd {s : Int} (hs : (Lit.int .i32 s).wf = true) : -2147483648 ≤ s ∧ s ≤ 2147483647 := by
  simpa [Lit.wf, IntKind.min, IntKind.max, IntKind.signed, IntKind.bits] using hs

set_option maxRecDepth 100000 in
theorem rngSeeds_row (w : World) (a b : Int) (ha : (Lit.int .i32 a).wf = true) (hb : (Lit.int .i32 b).wf = true) : Calls Try.prog 6 #[.int .i32 a, .int .i32 b] w fun e w' => e = .returned (.bool true) ∧ w = w' := by
  have sa := fl_small_i32 (i32_bd ha).1 (i32_bd ha).2
  have sb := fl_small_i32 (i32_bd hb).1 (i32_bd hb).2
  have K := Hid_mk known_any
  have HA := Hid_mk fun w => seed_any (fl a) w
  have HB := Hid_mk fun w => seed_any (fl b) w
  have NA := Hid_mk fun w => next_any (sd (fl a)) (sd_bd a).1 (sd_bd a).2 w
  have NB := Hid_mk fun w => next_any (sd (fl b)) (sd_bd b).1 (sd_bd b).2 w
  have e1 : (sd (fl a) == sd (fl b)) = (a == b) := by
    rw [Bool.eq_iff_iff, beq_iff_eq, beq_iff_eq]
    exact sd_same a b sa sb
  have e2 : (nx (sd (fl a)) == nx (sd (fl b))) = (a == b) := by
    rw [Bool.eq_iff_iff, beq_iff_eq, beq_iff_eq, nx_same _ _ (sd_bd a).1 (sd_bd a).2 (sd_bd b).1 (sd_bd b).2]
    exact sd_same a b sa sb
  have fa : floatOfInt .f64 a = fl a := rfl
  have fb : floatOfInt .f64 b = fl b := rfl
  unfold NxP at NA NB
  unfold SdP at HA HB
  generalize fq (nm (sd (fl a))) = FA at *
  generalize fq (nm (sd (fl b))) = FB at *
  generalize nx (sd (fl a)) = SA at *
  generalize nx (sd (fl b)) = SB at *
  generalize sd (fl a) = XA at *
  generalize sd (fl b) = XB at *
  clear sa sb ha hb
  generalize fl a = A at *
  generalize fl b = B at *
  go_enter Try.func6, Try.ntmps6
  go_wp2_with (first
    | (go_at_call 7; with_reducible refine (K.out _).mono ?_; rintro e w' ⟨rfl, rfl⟩)
    | (go_at_call 8; with_reducible refine (HA.out _).mono ?_; rintro e w' ⟨rfl, rfl⟩)
    | (go_at_call 8; with_reducible refine (HB.out _).mono ?_; rintro e w' ⟨rfl, rfl⟩)
    | (go_at_call 12; with_reducible refine (NA.out _).mono ?_; rintro e w' ⟨rfl, rfl⟩)
    | (go_at_call 12; with_reducible refine (NB.out _).mono ?_; rintro e w' ⟨rfl, rfl⟩))
  go_ret
  exact ⟨rfl, rfl⟩

theorem floor_entry (args : Array Value) (w : World) : (callFunc 20 args).run Try.prog w = ((Extern.MathFloor.toIntegral "math.archFloor" .down args).run Try.prog w).andThen fun v w' => .ok (.value v) w' :=
  run_callFunc_extern Try.func20 (by kernel_rfl) (by kernel_rfl) (by kernel_rfl) (by kernel_rfl) args w
theorem run_floor (b : Nat) (s : Bool) (m : Nat) (i : Int) (hb : FloatKind.f64.decode b = .number s m i) (w : World) :
    (callFunc 20 #[.float .f64 b]).run Try.prog w = .ok (.value (.float .f64 (FloatKind.f64.encode ((Ieee.Datum.number s m i).integral .down)))) w := by
  rw [floor_entry]
  change ((match FloatKind.f64.decode b with
    | .nan s t =>
      if FloatKind.f64.format.quiet t = t then pure (.float .f64 b) else do
      let kept ← choose (.extern "math.Floor,Ceil,Trunc,RoundToEven.signallingNaN kept" 2)
      pure (.float .f64 (if kept == 1 then b else FloatKind.f64.encode (.nan s (FloatKind.f64.format.quiet t))))
    | d => pure (.float .f64 (FloatKind.f64.encode (d.integral .down))) : Sem Value).run Try.prog w).andThen _ = _
  rw [hb]
  rfl
set_option maxRecDepth 100000 in
theorem floor_any (a : Int) (h : Small a) (w : World) : Calls Try.prog 16 #[.float .f64 (fl a)] w fun e w' => e = .returned (.float .f64 (fl a)) ∧ w = w' := by
  obtain ⟨s, m, i, h1, h2⟩ := fl_floor a h
  have q1 := fun w => run_floor (fl a) s m i h1 w
  rw [h2] at q1
  clear h1 h2 h
  generalize fl a = b at *
  go_enter Try.func16, Try.ntmps16
  go_wp2
  go_ret
  exact ⟨rfl, rfl⟩

theorem pick_bd (n : Int) : -200 < n.tmod 200 ∧ n.tmod 200 < 200 := by
  have h1 := Int.tmod_lt_of_pos n (show (0 : Int) < 200 by omega)
  have h2 := Int.tmod_lt_of_pos (-n) (show (0 : Int) < 200 by omega)
  rw [Int.neg_tmod] at h2
  omega
/-- a number below m -/
def pk (n : Int) : Int := if n.tmod 200 < 0 then n.tmod 200 + 200 else n.tmod 200
theorem pk_bd (n : Int) : 0 ≤ pk n ∧ pk n < 200 := by
  have := pick_bd n
  unfold pk
  split <;> omega
set_option maxRecDepth 100000 in
theorem pick_any (n : Int) (w : World) : Calls Try.prog 15 #[.int .i64 n, .int .i64 200] w fun e w' => e = .returned (.int .i64 (pk n)) ∧ w = w' := by
  have hb := pick_bd n
  unfold pk
  obtain ⟨t, ht⟩ : ∃ t, n.tmod 200 = t := ⟨_, rfl⟩
  rw [ht] at hb ⊢
  have hw : IntKind.i64.wrap t = t := IntWalk.i64_in _ (by omega)
  have hw2 : IntKind.i64.wrap (t + 200) = t + 200 := IntWalk.i64_in _ (by omega)
  by_cases h : t < 0
  · rw [if_pos h]
    go_enter Try.func15, Try.ntmps15
    go_wp2
    go_ret
    exact ⟨rfl, rfl⟩
  · rw [if_neg h]
    go_enter Try.func15, Try.ntmps15
    go_wp2
    go_ret
    exact ⟨rfl, rfl⟩

end Go.Proofs.Ytpmigcbckpcjgaa.rng
