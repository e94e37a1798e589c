/- package rng: a state's next one and its number; the document's, too. -/
import Derived.Test.YtpmigcbckpcjgaaBase
import Derived.Test.YtpmigcbckpcjgaaRngPure
namespace Go.Proofs.Ytpmigcbckpcjgaa.rng
open Go.RowKit Go.Proofs.Ytpmigcbckpcjgaa.fl Go.Proofs.Ytpmigcbckpcjgaa.sum
set_option linter.unusedVariables false

/-- a state's bits, spread -/
def m1 (z : Int) : Int := IntKind.u64.wrap (bits .xor .u64 z (z / 1073741824) * 13787848793156543929)
def m2 (z : Int) : Int := IntKind.u64.wrap (bits .xor .u64 z (z / 134217728) * 10723151780598845931)
def m3 (z : Int) : Int := bits .xor .u64 z (z / 2147483648)
def mix (z : Int) : Int := m3 (m2 (m1 z))
/-- the next state -/
def nx (s : Int) : Int := IntKind.u64.wrap (s + 11400714819323198485)
/-- its number, 2^53 times -/
def nm (s : Int) : Nat := (mix (nx s) / 2048).toNat
theorem nx_eq (s : Int) : nx s = (s + 11400714819323198485) % 18446744073709551616 := by unfold nx; rw [IntKind.wrap_u64]
theorem nx_bd (s : Int) : 0 ≤ nx s ∧ nx s < 18446744073709551616 := by rw [nx_eq]; omega
theorem mix_bd (z : Int) : 0 ≤ mix z ∧ mix z < 18446744073709551616 := by
  have h : IntKind.u64.min ≤ m3 (m2 (m1 z)) ∧ m3 (m2 (m1 z)) ≤ IntKind.u64.max := bits_within .xor .u64 _ _
  simp [IntKind.min, IntKind.max, IntKind.signed, IntKind.bits] at h
  unfold mix
  omega
theorem nm_bd (s : Int) : nm s < 2 ^ 53 := by
  have := mix_bd (nx s)
  rw [p53]
  unfold nm
  omega
theorem nm_int (s : Int) : ((nm s : Nat) : Int) = mix (nx s) / 2048 := by
  have := mix_bd (nx s)
  unfold nm
  omega

theorem run_quo (s : Int) (w : World) (t : TypeId) : (binOp .quo t (.float .f64 (floatOfInt .f64 (mix (nx s) / 2048))) (.float .f64 4845873199050653696)).run Try.prog w = .ok (.float .f64 (fq (nm s))) w := by
  refine run_float_arith w .quo t .f64 _ _ _ ?_
  have := fq_quo (nm s) (nm_bd s)
  rw [nm_int] at this
  exact this

set_option maxRecDepth 100000 in
theorem spread_any (z : Int) (h : 0 ≤ z) (h2 : z < 18446744073709551616) (w : World) : Calls Try.prog 19 #[.int .u64 z] w fun e w' => e = .returned (.int .u64 (mix z)) ∧ w = w' := by
  go_enter Try.func19, Try.ntmps19
  go_wp2
  go_ret
  exact ⟨rfl, rfl⟩

/-- what Next tells -/
def NxP (s : Int) (w : World) (e : Ending) (w' : World) : Prop := e = .returned (.tuple #[.int .u64 (nx s), .float .f64 (fq (nm s))]) ∧ w = w'

set_option maxRecDepth 100000 in
theorem next_any (s : Int) (h : 0 ≤ s) (h2 : s < 18446744073709551616) (w : World) : Calls Try.prog 12 #[.int .u64 s] w (NxP s w) := by
  have HS := Hid_mk (spread_any (nx s) (nx_bd s).1 (nx_bd s).2)
  have q := run_quo s
  have hb := (mix_bd (nx s)).1
  obtain ⟨M, hM⟩ : ∃ M, mix (nx s) = M := ⟨_, rfl⟩
  obtain ⟨F, hF⟩ : ∃ F, fq (nm s) = F := ⟨_, rfl⟩
  rw [hM] at HS q hb
  rw [hF] at q
  unfold NxP
  rw [hF]
  unfold nx at HS ⊢
  go_enter Try.func12, Try.ntmps12
  go_wp2_with (go_at_call 19; with_reducible refine (HS.out _).mono ?_; rintro e w' ⟨rfl, rfl⟩)
  refine bodyPost_ret (results_tmp2 rfl _ _ _) rfl ?_
  exact ⟨rfl, rfl⟩

set_option maxRecDepth 100000 in
theorem random_any (s : Int) (h : 0 ≤ s) (h2 : s < 18446744073709551616) (w : World) : Calls Try.prog 13 #[.int .u64 s] w (NxP s w) := by
  have q := run_quo s
  have hb := (mix_bd (nx s)).1
  obtain ⟨F, hF⟩ : ∃ F, fq (nm s) = F := ⟨_, rfl⟩
  rw [hF] at q
  unfold NxP
  rw [hF]
  unfold mix m1 m2 m3 nx at q hb
  unfold nx
  go_enter Try.func13, Try.ntmps13
  go_wp2
  refine bodyPost_ret (results_tmp2 rfl _ _ _) rfl ?_
  exact ⟨rfl, rfl⟩

theorem run_bits (b : Nat) (w : World) : (callFunc 17 #[.float .f64 b]).run Try.prog w = .ok (.value (.int .u64 (b : Int))) w := by
  rw [run_callFunc_extern Try.func17 (by kernel_rfl) (by kernel_rfl) (by kernel_rfl) (show Extern.find _ = some Extern.MathFloatBits.float64bits by kernel_rfl)]
  rfl

/-- a number's state -/
def sd (x : Nat) : Int := if ((FloatKind.f64.format.order x 0 == some .eq) || (FloatKind.f64.format.order x x != some .eq)) = true then 0 else (x : Int)
theorem sd_pos (x : Nat) : 0 ≤ sd x := by unfold sd; split <;> omega
def SdP (x : Nat) (w : World) (e : Ending) (w' : World) : Prop := e = .returned (.int .u64 (sd x)) ∧ w = w'

set_option maxRecDepth 100000 in
theorem seed_any (x : Nat) (w : World) : Calls Try.prog 8 #[.float .f64 x] w (SdP x w) := by
  have q1 := fun w => run_bits x w
  unfold SdP sd
  cases h1 : (FloatKind.f64.format.order x 0 == some .eq) <;> cases h2 : (FloatKind.f64.format.order x x != some .eq) <;>
    (go_enter Try.func8, Try.ntmps8
     go_wp2
     go_ret
     exact ⟨rfl, rfl⟩)

set_option maxRecDepth 100000 in
theorem refseed_any (x : Nat) (w : World) : Calls Try.prog 14 #[.float .f64 x] w (SdP x w) := by
  have q1 := fun w => run_bits x w
  unfold SdP sd
  cases h1 : (FloatKind.f64.format.order x 0 == some .eq) <;> cases h2 : (FloatKind.f64.format.order x x != some .eq) <;>
    (go_enter Try.func14, Try.ntmps14
     go_wp2
     go_ret
     exact ⟨rfl, rfl⟩)

end Go.Proofs.Ytpmigcbckpcjgaa.rng
