/- Sums of bytes in plain whole numbers. No program is named here. The program's sum of bytes is the sum that plain whole numbers give. -/
import Derived.Test.YteekcbbdbciddaaGreatDoorBase
import Derived.Test.YteekcbbdbciddaaGreatDoorFloatM
import Derived.WalkKit
import Derived.WalkLawsBesides
import Derived.Deep.QuietTactic
import Derived.BigQuiet
import Derived.Outline
import Derived.Laws.Externs
import Derived.KernelRfl

namespace Go.Proofs.YteekcbbdbciddaaGreatDoor.pl

def P : Nat := 16777199
/-- one byte more: both parts -/
def step (s : Nat × Nat) (x : UInt8) : Nat × Nat := ((257 * s.1 + x.toNat + 1 + 3 * (P - s.2)) % P, (257 * s.2 + 3 * s.1) % P)
def sum (bs : List UInt8) : Nat × Nat := bs.foldl step (1, 0)

theorem sum_nil : sum [] = (1, 0) := rfl
theorem sum_snoc (bs : List UInt8) (x : UInt8) : sum (bs ++ [x]) = step (sum bs) x := by
  unfold sum; rw [List.foldl_append]; rfl
theorem step_lt (s : Nat × Nat) (x : UInt8) : (step s x).1 < P ∧ (step s x).2 < P := by
  unfold step
  exact ⟨Nat.mod_lt _ (by decide), Nat.mod_lt _ (by decide)⟩
theorem sum_lt (bs : List UInt8) : (sum bs).1 < P ∧ (sum bs).2 < P := by
  rcases List.eq_nil_or_concat bs with rfl | ⟨l, x, rfl⟩
  · exact ⟨by decide, by decide⟩
  · rw [List.concat_eq_append, sum_snoc]; exact step_lt _ _

theorem step_re (a b x : Nat) (hb : b < P) : ((257 * (a : Int) - 3 * b + (x + 1)) % 16777199) = ((257 * a + x + 1 + 3 * (P - b)) % P : Nat) := by
  unfold P at *; omega
theorem step_im (a b : Nat) : ((257 * (b : Int) + 3 * a) % 16777199) = ((257 * b + 3 * a) % P : Nat) := by
  unfold P at *; omega

theorem small_zero {A n : Int} (h : 66058 * A = 16777199 * n) (h1 : -16777199 < A) (h2 : A < 16777199) : A = 0 := by
  have e : A = 16777199 * (4224396 * n - 16633 * A) := by omega
  generalize 4224396 * n - 16633 * A = q at e
  omega

theorem mod_eq {X Y M : Nat} (h : X % M = Y % M) : ∃ k : Int, (X : Int) - Y = M * k := by
  have e1 := Nat.mod_add_div X M
  have e2 := Nat.mod_add_div Y M
  rw [h] at e1
  refine ⟨(X / M : Nat) - (Y / M : Nat), ?_⟩
  rw [Int.mul_sub]
  generalize Y % M = r at *
  rw [← Int.natCast_mul, ← Int.natCast_mul]
  omega

theorem part_re {A D k m : Int} (hk : 257 * A - 3 * D = 16777199 * k) (hm : 257 * D + 3 * A = 16777199 * m) : 66058 * A = 16777199 * (257 * k + 3 * m) := by
  have h : 257 * (257 * A - 3 * D) + 3 * (257 * D + 3 * A) = 257 * (16777199 * k) + 3 * (16777199 * m) := by rw [hk, hm]
  clear hk hm
  omega
theorem part_im {A D k m : Int} (hk : 257 * A - 3 * D = 16777199 * k) (hm : 257 * D + 3 * A = 16777199 * m) : 66058 * D = 16777199 * (257 * m - 3 * k) := by
  have h : 257 * (257 * D + 3 * A) - 3 * (257 * A - 3 * D) = 257 * (16777199 * m) - 3 * (16777199 * k) := by rw [hk, hm]
  clear hk hm
  omega

theorem sub_lt {a b p : Nat} (ha : a < p) (hb : b < p) : -(p : Int) < (a : Int) - b ∧ (a : Int) - b < p := by omega
theorem cast_sub {b p : Nat} (hb : b < p) : ((p - b : Nat) : Int) = (p : Int) - b := by omega
theorem diff1 {a b c d y p : Int} : (257 * a + y + 1 + 3 * (p - b)) - (257 * c + y + 1 + 3 * (p - d)) = 257 * (a - c) - 3 * (b - d) := by omega
theorem diff2 {a b c d : Int} : (257 * b + 3 * a) - (257 * d + 3 * c) = 257 * (b - d) + 3 * (a - c) := by omega

/-- the step is one to one -/
theorem step_inj {s t : Nat × Nat} (x : UInt8) (hs : s.1 < P ∧ s.2 < P) (ht : t.1 < P ∧ t.2 < P) (h : step s x = step t x) : s = t := by
  obtain ⟨a, b⟩ := s
  obtain ⟨c, d⟩ := t
  unfold step at h
  simp only [Prod.mk.injEq] at h hs ht ⊢
  obtain ⟨k, hk⟩ := mod_eq h.1
  obtain ⟨m, hm⟩ := mod_eq h.2
  clear h
  simp only [Int.natCast_add, Int.natCast_mul, cast_sub hs.2, cast_sub ht.2] at hk hm
  have hk' := diff1.symm.trans hk
  have hm' := diff2.symm.trans hm
  clear hk hm
  have l1 := sub_lt hs.1 ht.1
  have l2 := sub_lt hs.2 ht.2
  have hP : (P : Int) = 16777199 := rfl
  rw [hP] at hk' hm' l1 l2
  have z1 := small_zero (part_re hk' hm') l1.1 l1.2
  have z2 := small_zero (part_im hk' hm') l2.1 l2.2
  clear hk' hm' l1 l2
  omega

end Go.Proofs.YteekcbbdbciddaaGreatDoor.pl

namespace Go.Proofs.YteekcbbdbciddaaGreatDoor.sum
open Go.RowKit Go.Proofs.YteekcbbdbciddaaGreatDoor.fl
set_option linter.unusedVariables false

theorem pr_word : fl pr = 4715268800730103808 := by decide +kernel
theorem one_word : fl 1 = 4607182418800017408 := by decide +kernel
theorem zero_word : fl 0 = 0 := by decide +kernel
theorem w257 : fl 257 = 4643228808005025792 := by decide +kernel
theorem w3 : fl 3 = 4613937818241073152 := by decide +kernel

theorem floor_entry (args : Array Value) (w : World) : (callFunc 86 args).run Tryz.prog w = ((Extern.MathFloor.toIntegral "math.archFloor" .down args).run Tryz.prog w).andThen fun v w' => .ok (.value v) w' :=
  run_callFunc_extern Tryz.func86 (by kernel_rfl) (by kernel_rfl) (by kernel_rfl) (by kernel_rfl) args w

theorem run_floor (b : Nat) (s : Bool) (m : Nat) (i : Int) (hb : FloatKind.f64.decode b = .number s m i) (w : World) :
    (callFunc 86 #[.float .f64 b]).run Tryz.prog w = .ok (.value (.float .f64 (FloatKind.f64.encode ((Ieee.Datum.number s m i).integral .down)))) w := by
  rw [floor_entry]
  change ((match FloatKind.f64.decode b with
    | .nan s t =>
      if FloatKind.f64.format.quiet t = t then pure (.float .f64 b) else do
      let kept ← choose (.extern "math.Floor,Ceil,Trunc,RoundToEven.signallingNaN kept" 2)
      pure (.float .f64 (if kept == 1 then b else FloatKind.f64.encode (.nan s (FloatKind.f64.format.quiet t))))
    | d => pure (.float .f64 (FloatKind.f64.encode (d.integral .down))) : Sem Value).run Tryz.prog w).andThen _ = _
  rw [hb]
  rfl

set_option maxHeartbeats 400000 in
theorem within_any (z : Int) (hz : z.natAbs < 2 ^ 33) (w : World) :
    Calls Tryz.prog 102 #[.float .f64 (fl z)] w fun e w' => e = .returned (.float .f64 (fl (z % pr))) ∧ w = w' := by
  obtain ⟨b, s, m, i, h1, h2, h3⟩ := floor_quo z hz
  have q1 : ∀ w t, (binOp .quo t (.float .f64 (fl z)) (.float .f64 4715268800730103808)).run Tryz.prog w = .ok (.float .f64 b) w := fun w t => run_float_arith w .quo t .f64 _ _ _ (by rw [← pr_word]; exact h1)
  have q2 : ∀ w, (callFunc 86 #[.float .f64 b]).run Tryz.prog w = .ok (.value (.float .f64 (fl (z / pr)))) w := fun w => by rw [run_floor b s m i h2, h3]
  have hd : (z / pr).natAbs < 2 ^ 10 := by unfold pr; simp only [Nat.reducePow] at *; omega
  have hm : (pr * (z / pr)).natAbs < 2 ^ 34 := by unfold pr; simp only [Nat.reducePow] at *; omega
  have q3 : ∀ w t, (binOp .mul t (.float .f64 4715268800730103808) (.float .f64 (fl (z / pr)))).run Tryz.prog w = .ok (.float .f64 (fl (pr * (z / pr)))) w := fun w t => by
    refine run_float_arith w .mul t .f64 _ _ _ ?_
    rw [← pr_word]
    have s1 : Small pr := by unfold Small pr; decide
    have s2 : Small (z / pr) := Nat.lt_trans hd (by decide)
    have s3 : Small (pr * (z / pr)) := Nat.lt_trans hm (by decide)
    by_cases h0 : 0 ≤ z / pr
    · exact fl_mul_nonneg _ _ (by decide) h0 s1 s2 s3
    · exact fl_mul_neg _ _ (by decide) (by omega) s1 s2 s3
  have q4 : ∀ w t, (binOp .sub t (.float .f64 (fl z)) (.float .f64 (fl (pr * (z / pr))))).run Tryz.prog w = .ok (.float .f64 (fl (z % pr))) w := fun w t => by
    refine run_float_arith w .sub t .f64 _ _ _ ?_
    have e : z % pr = z - pr * (z / pr) := by have := Int.emod_add_mul_ediv z pr; omega
    rw [e]
    refine fl_sub _ _ (Nat.lt_trans hz (by decide)) (Nat.lt_trans hm (by decide)) ?_
    rw [← e]
    unfold Small pr; simp only [Nat.reducePow] at *; omega
  clear h1 h2 h3 hd hm
  go_enter Tryz.func102, Tryz.ntmps102
  go_wp2
  go_ret
  exact ⟨rfl, rfl⟩

/-- The sum as the program's complex number. -/
def cx (s : Nat × Nat) : Value := .complex .f64 (fl s.1) (fl s.2)

@[go_sem] theorem eqGuard_cx (op : BinOp) (t : TypeId) (x y : Operand) (s s' : Nat × Nat) (w : World) : (eqGuard op t x y (cx s) (cx s')).run Tryz.prog w = .ok () w := by
  cases op <;> rfl
@[go_sem] theorem eqGuard_cx_complex (op : BinOp) (t : TypeId) (x y : Operand) (s : Nat × Nat) (a b : Nat) (w : World) : (eqGuard op t x y (cx s) (.complex .f64 a b)).run Tryz.prog w = .ok () w := by
  cases op <;> rfl

theorem mul_step (a b : Nat) (ha : a < pl.P) (hb : b < pl.P) (w : World) (t : TypeId) :
    (binOp .mul t (.complex .f64 (fl a) (fl b)) (.complex .f64 4643228808005025792 4613937818241073152)).run Tryz.prog w = .ok (.complex .f64 (fl (257 * (a : Int) - 3 * b)) (fl (257 * (b : Int) + 3 * a))) w := by
  unfold pl.P at ha hb
  refine run_complex_mul w t _ _ _ _ _ _ ?_
  rw [← w257, ← w3]
  have sm : ∀ z : Int, z.natAbs < 2 ^ 40 → Small z := fun z h => Nat.lt_trans h (by decide)
  simp only [Nat.reducePow] at sm
  unfold cMulBits
  rw [fl_mul_nonneg a 257 (by omega) (by omega) (sm _ (by omega)) (sm _ (by omega)) (sm _ (by omega)), fl_mul_nonneg b 3 (by omega) (by omega) (sm _ (by omega)) (sm _ (by omega)) (sm _ (by omega)),
    fl_mul_nonneg a 3 (by omega) (by omega) (sm _ (by omega)) (sm _ (by omega)) (sm _ (by omega)), fl_mul_nonneg b 257 (by omega) (by omega) (sm _ (by omega)) (sm _ (by omega)) (sm _ (by omega))]
  simp only [Option.bind_some]
  rw [fl_sub _ _ (sm _ (by omega)) (sm _ (by omega)) (sm _ (by omega)), fl_add _ _ (sm _ (by omega)) (sm _ (by omega)) (sm _ (by omega))]
  simp only [Option.bind_some]
  rw [show (a : Int) * 257 - b * 3 = 257 * a - 3 * b by omega, show (a : Int) * 3 + b * 257 = 257 * b + 3 * a by omega]

theorem add_step (a b : Nat) (x : Nat) (ha : a < pl.P) (hb : b < pl.P) (hx : x < 256) (w : World) (t : TypeId) :
    (binOp .add t (.complex .f64 (fl (257 * (a : Int) - 3 * b)) (fl (257 * (b : Int) + 3 * a))) (.complex .f64 (fl ((x : Int) + 1)) 0)).run Tryz.prog w = .ok (.complex .f64 (fl (257 * (a : Int) - 3 * b + (x + 1))) (fl (257 * (b : Int) + 3 * a))) w := by
  unfold pl.P at ha hb
  refine run_complex_sum w .add (.inl rfl) t .f64 _ _ _ _ _ _ ?_
  have sm : ∀ z : Int, z.natAbs < 2 ^ 40 → Small z := fun z h => Nat.lt_trans h (by decide)
  simp only [Nat.reducePow] at sm
  unfold cSumBits
  rw [← zero_word]
  rw [fl_add _ _ (sm _ (by omega)) (sm _ (by omega)) (sm _ (by omega)), fl_add _ _ (sm _ (by omega)) (sm _ (by omega)) (sm _ (by omega))]
  simp

theorem one_more (x : Nat) (hx : x < 256) (w : World) (t : TypeId) : (binOp .add t (.float .f64 (floatOfInt .f64 (x : Int))) (.float .f64 4607182418800017408)).run Tryz.prog w = .ok (.float .f64 (fl ((x : Int) + 1))) w := by
  refine run_float_arith w .add t .f64 _ _ _ ?_
  rw [← one_word]
  have sm : ∀ z : Int, z.natAbs < 2 ^ 40 → Small z := fun z h => Nat.lt_trans h (by decide)
  simp only [Nat.reducePow] at sm
  exact fl_add (x : Int) 1 (sm _ (by omega)) (sm _ (by omega)) (sm _ (by omega))

set_option maxHeartbeats 1000000 in
theorem sum_any (w : World) (v : Value) (bs : List UInt8) (h : Bs w v bs) :
    Calls Tryz.prog 74 #[v] w fun e w' => e = .returned (cx (pl.sum bs)) ∧ w = w' := by
  obtain ⟨a, cap, rfl, hl, hm, hc⟩ := h
  unfold maxLen at hm
  go_enter Tryz.func74, Tryz.ntmps74
  go_wp2
  go_loop [3, 8] (fun s i => ∃ k : Nat, k ≤ bs.length ∧ i = .int .i64 k ∧ s = cx (pl.sum (bs.take k))) (fun _ i => bs.length - (intOf i).toNat)
  case atStart => exact ⟨0, Nat.zero_le _, rfl, by rw [List.take_zero, pl.sum_nil]; show _ = Value.complex _ (fl ((1 : Nat) : Int)) (fl ((0 : Nat) : Int)); rw [show ((1 : Nat) : Int) = 1 from rfl, show ((0 : Nat) : Int) = 0 from rfl, one_word, zero_word]⟩
  case round =>
    obtain ⟨k, hk, rfl, rfl⟩ := hrel
    by_cases hlt : k < bs.length
    · have hne : bs ≠ [] := by intro e; subst e; simp at hlt
      obtain ⟨b, o, rfl, hcell⟩ := hc hne
      have hx : w.cell? ⟨b, o + k, none⟩ = some (.int .u8 ((bs.getD k 0).toNat : Int)) := hcell k hlt
      have hfin := pl.sum_snoc (bs.take k) (bs.getD k 0)
      rw [← take_snoc hlt] at hfin
      have hlt2 := pl.sum_lt (bs.take k)
      unfold cx
      generalize pl.sum (bs.take k) = s at *
      obtain ⟨p, q⟩ := s
      simp only at hlt2
      have hxb : (bs.getD k 0).toNat < 256 := UInt8.toNat_lt _
      generalize bs.getD k 0 = x at *
      have hstep : cx (pl.sum (bs.take (k + 1))) = .complex .f64 (fl ((257 * (p : Int) - 3 * q + (x.toNat + 1)) % pr)) (fl ((257 * (q : Int) + 3 * p) % pr)) := by
        rw [hfin]
        unfold cx pl.step pr
        rw [pl.step_re _ _ _ hlt2.2, pl.step_im]
      have H := Hid_mk hstep
      clear hfin hstep hcell hc hne
      have m1 := mul_step p q hlt2.1 hlt2.2
      have m2 := add_step p q x.toNat hlt2.1 hlt2.2 hxb
      have m3 := one_more x.toNat hxb
      have b1 : p < 16777199 := hlt2.1
      have b2 : q < 16777199 := hlt2.2
      clear hlt2
      go_wp2_with (go_at_call 102; refine (within_any _ (by simp only [Nat.reducePow]; omega) _).mono ?_; rintro e w' ⟨rfl, rfl⟩)
      go_round
      case rel => exact ⟨k + 1, by omega, by go_num, H.out.symm⟩
      case measure => simp [intOf]; omega
    · go_wp2
      go_ret
      have : k = bs.length := by omega
      subst this
      rw [List.take_length]
      exact ⟨rfl, rfl⟩

end Go.Proofs.YteekcbbdbciddaaGreatDoor.sum
