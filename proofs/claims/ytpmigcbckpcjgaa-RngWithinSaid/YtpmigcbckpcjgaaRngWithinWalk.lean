/- RngWithin: the law's walk. -/
import Derived.Test.YtpmigcbckpcjgaaRngLaws
namespace Go.Proofs.Ytpmigcbckpcjgaa.rng
open Go.RowKit Go.Proofs.Ytpmigcbckpcjgaa.fl Go.Proofs.Ytpmigcbckpcjgaa.sum
set_option linter.unusedVariables false

/-- what a round may know: the k-th state of at most 200 -/
def WRel (s : Int) (P : Int) (w : World) (a i : Value) (wr : World) : Prop := ∃ k : Nat, a = .int .u64 (st s k) ∧ i = .int .i64 (P - k) ∧ (k : Int) ≤ P + 1 ∧ w = wr

set_option maxRecDepth 100000 in
set_option maxHeartbeats 1000000 in
theorem rngWithin_row (w : World) (s n : Int) (hs : (Lit.int .u64 s).wf = true) : Calls Try.prog 5 #[.int .u64 s, .int .i64 n] w fun e w' => e = .returned (.bool true) ∧ w = w' := by
  have K := Hid_mk known_any
  have HP := Hid_mk fun w => pick_any n w
  have hb := pk_bd n
  generalize pk n = P at *
  have s0 := (u64_bd hs).1
  have s1 := (u64_bd hs).2
  have HB := Hid_mk hb
  clear hb hs
  go_enter Try.func5, Try.ntmps5
  go_wp2_with (go_at_call 15; with_reducible refine (HP.out _).mono ?_; rintro e w' ⟨rfl, rfl⟩)
  go_loopw [0, 6] (fun a i wr => WRel s P w a i wr) (fun _ i _ => (intOf i + 1).toNat)
  case atStart => exact ⟨0, by rw [st_zero s0 s1], by simp, by have := HB.out; omega, rfl⟩
  case round =>
    obtain ⟨k, rfl, rfl, hk, rfl⟩ := hrel
    have HKk := Hid_mk hk
    by_cases hlt : 0 ≤ P - (k : Int)
    · have h1 := st_ne s k
      have h2 := st_first s0 s1 k (by have := HB.out; omega)
      have hbd := st_bd s k
      have HN := fun w => next_any (st s k) hbd.1 hbd.2 w
      unfold NxP at HN
      rw [st_next] at HN
      have hm := nm_bd (st s k)
      generalize nm (st s k) = M at *
      have q1 : ∀ w t, (binOp .mul t (.float .f64 (fq M)) (.float .f64 4845873199050653696)).run Try.prog w = .ok (.float .f64 (fl (M : Int))) w := fun w t => run_float_arith w .mul t .f64 _ _ _ (fq_mul M hm)
      have q2 := fq_ge0 M hm
      have q3 : (FloatKind.f64.format.order (fq M) 4607182418800017408 == some .gt) = false := by rw [fq_lt1 M hm]; rfl
      have q4 : (FloatKind.f64.format.order (fq M) 4607182418800017408 == some .eq) = false := by rw [fq_lt1 M hm]; rfl
      have q5 := fl_eq_self (M : Int) (small_m hm)
      have HF := Hid_mk fun w => floor_any (M : Int) (small_m hm) w
      have g1 : (st s (k + 1) == st s k) = false := by simpa using h1
      have g2 : (st s (k + 1) == s) = false := by simpa using h2
      replace HN := Hid_mk HN
      have HBd := Hid_mk hbd
      have hw : IntKind.i64.wrap (P - (k : Int) - 1) = P - (k : Int) - 1 := IntWalk.i64_in _ (by have := HB.out; omega)
      clear hm h1 h2 hbd hk
      generalize fq M = F at *
      generalize fl (M : Int) = Y at *
      obtain ⟨T, hT⟩ : ∃ T, st s (k + 1) = T := ⟨_, rfl⟩
      obtain ⟨T0, hT0⟩ : ∃ T, st s k = T := ⟨_, rfl⟩
      have HT := Hid_mk hT
      rw [hT] at HN g1 g2
      rw [hT0] at HN g1 ⊢
      clear hT hT0
      go_wp2_with (first
        | (go_at_call 12; with_reducible refine (HN.out _).mono ?_; rintro e w' ⟨rfl, rfl⟩)
        | (go_at_call 16; with_reducible refine (HF.out _).mono ?_; rintro e w' ⟨rfl, rfl⟩))
      go_roundw
      case rel => exact ⟨k + 1, by rw [HT.out], by congr 1; omega, by omega, rfl⟩
      case measure => simp [intOf]; omega
    · clear hk
      go_wp2_with (go_at_call 7; with_reducible refine (K.out _).mono ?_; rintro e w' ⟨rfl, rfl⟩)
      go_ret
      exact ⟨rfl, rfl⟩

end Go.Proofs.Ytpmigcbckpcjgaa.rng
