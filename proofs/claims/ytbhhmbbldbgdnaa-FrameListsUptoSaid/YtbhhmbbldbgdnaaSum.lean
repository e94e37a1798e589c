/- The program's sum of bytes is the sum that plain whole numbers give. -/
import Derived.Test.YtbhhmbbldbgdnaaProg
import Derived.Test.YtbhhmbbldbgdnaaFloor
import Derived.Test.YtbhhmbbldbgdnaaPlain
import Derived.WalkKit
import Derived.WalkLawsBesides
import Derived.Deep.QuietTactic
import Derived.BigQuiet
import Derived.Outline
import Derived.Laws.Externs
import Derived.KernelRfl
namespace Go.Proofs.Ytbhhmbbldbgdnaa.sum
open Go.RowKit Go.Proofs.Ytbhhmbbldbgdnaa.fl
set_option linter.unusedVariables false

theorem pr_word : fl pr = 4715268800730103808 := by decide +kernel
theorem one_word : fl 1 = 4607182418800017408 := by decide +kernel
theorem zero_word : fl 0 = 0 := by decide +kernel
theorem w257 : fl 257 = 4643228808005025792 := by decide +kernel
theorem w3 : fl 3 = 4613937818241073152 := by decide +kernel

theorem floor_entry (args : Array Value) (w : World) : (callFunc 52 args).run Try.prog w = ((Extern.MathFloor.toIntegral "math.archFloor" .down args).run Try.prog w).andThen fun v w' => .ok (.value v) w' :=
  run_callFunc_extern Try.func52 (by kernel_rfl) (by kernel_rfl) (by kernel_rfl) (by kernel_rfl) args w

theorem run_floor (b : Nat) (s : Bool) (m : Nat) (i : Int) (hb : FloatKind.f64.decode b = .number s m i) (w : World) :
    (callFunc 52 #[.float .f64 b]).run Try.prog w = .ok (.value (.float .f64 (FloatKind.f64.encode ((Ieee.Datum.number s m i).integral .down)))) w := by
  rw [floor_entry]
  change ((match FloatKind.f64.decode b with
    | .nan s t =>
      if FloatKind.f64.format.quiet t = t then pure (.float .f64 b) else do
      let kept ← choose (.extern "math.Floor,Ceil,Trunc,RoundToEven.signallingNaN kept" 2)
      pure (.float .f64 (if kept == 1 then b else FloatKind.f64.encode (.nan s (FloatKind.f64.format.quiet t))))
    | d => pure (.float .f64 (FloatKind.f64.encode (d.integral .down))) : Sem Value).run Try.prog w).andThen _ = _
  rw [hb]
  rfl

set_option maxHeartbeats 400000 in
theorem within_any (z : Int) (hz : z.natAbs < 2 ^ 33) (w : World) :
    Calls Try.prog 49 #[.float .f64 (fl z)] w fun e w' => e = .returned (.float .f64 (fl (z % pr))) ∧ w = w' := by
  obtain ⟨b, s, m, i, h1, h2, h3⟩ := floor_quo z hz
  have q1 : ∀ w t, (binOp .quo t (.float .f64 (fl z)) (.float .f64 4715268800730103808)).run Try.prog w = .ok (.float .f64 b) w := fun w t => run_float_arith w .quo t .f64 _ _ _ (by rw [← pr_word]; exact h1)
  have q2 : ∀ w, (callFunc 52 #[.float .f64 b]).run Try.prog w = .ok (.value (.float .f64 (fl (z / pr)))) w := fun w => by rw [run_floor b s m i h2, h3]
  have hd : (z / pr).natAbs < 2 ^ 10 := by unfold pr; simp only [Nat.reducePow] at *; omega
  have hm : (pr * (z / pr)).natAbs < 2 ^ 34 := by unfold pr; simp only [Nat.reducePow] at *; omega
  have q3 : ∀ w t, (binOp .mul t (.float .f64 4715268800730103808) (.float .f64 (fl (z / pr)))).run Try.prog w = .ok (.float .f64 (fl (pr * (z / pr)))) w := fun w t => by
    refine run_float_arith w .mul t .f64 _ _ _ ?_
    rw [← pr_word]
    have s1 : Small pr := by unfold Small pr; decide
    have s2 : Small (z / pr) := Nat.lt_trans hd (by decide)
    have s3 : Small (pr * (z / pr)) := Nat.lt_trans hm (by decide)
    by_cases h0 : 0 ≤ z / pr
    · exact fl_mul_nonneg _ _ (by decide) h0 s1 s2 s3
    · exact fl_mul_neg _ _ (by decide) (by omega) s1 s2 s3
  have q4 : ∀ w t, (binOp .sub t (.float .f64 (fl z)) (.float .f64 (fl (pr * (z / pr))))).run Try.prog w = .ok (.float .f64 (fl (z % pr))) w := fun w t => by
    refine run_float_arith w .sub t .f64 _ _ _ ?_
    have e : z % pr = z - pr * (z / pr) := by have := Int.emod_add_mul_ediv z pr; omega
    rw [e]
    refine fl_sub _ _ (Nat.lt_trans hz (by decide)) (Nat.lt_trans hm (by decide)) ?_
    rw [← e]
    unfold Small pr; simp only [Nat.reducePow] at *; omega
  clear h1 h2 h3 hd hm
  go_enter Try.func49, Try.ntmps49
  go_wp2
  go_ret
  exact ⟨rfl, rfl⟩

theorem Hid_mk {p : Prop} (h : p) : Hid p := h

/-- A byte as a value. -/
def B (x : UInt8) : Value := .int .u8 (x.toNat : Int)

/-- A slice value that reads, in this world, as these bytes. -/
def Bs (w : World) (v : Value) (bs : List UInt8) : Prop :=
  ∃ a cap, v = .slice a bs.length cap ∧ bs.length ≤ cap ∧ cap ≤ maxLen ∧
    (bs ≠ [] → ∃ b o, a = some ⟨b, o, none⟩ ∧ ∀ k, k < bs.length → w.cell? ⟨b, o + k, none⟩ = some (B (bs.getD k 0)))

/-- The sum as the program's complex number. -/
def cx (s : Nat × Nat) : Value := .complex .f64 (fl s.1) (fl s.2)

@[go_sem] theorem eqGuard_cx (op : BinOp) (t : TypeId) (x y : Operand) (s s' : Nat × Nat) (w : World) : (eqGuard op t x y (cx s) (cx s')).run Try.prog w = .ok () w := by
  cases op <;> rfl
@[go_sem] theorem eqGuard_cx_complex (op : BinOp) (t : TypeId) (x y : Operand) (s : Nat × Nat) (a b : Nat) (w : World) : (eqGuard op t x y (cx s) (.complex .f64 a b)).run Try.prog w = .ok () w := by
  cases op <;> rfl

theorem mul_step (a b : Nat) (ha : a < pl.P) (hb : b < pl.P) (w : World) (t : TypeId) :
    (binOp .mul t (.complex .f64 (fl a) (fl b)) (.complex .f64 4643228808005025792 4613937818241073152)).run Try.prog w = .ok (.complex .f64 (fl (257 * (a : Int) - 3 * b)) (fl (257 * (b : Int) + 3 * a))) w := by
  unfold pl.P at ha hb
  refine run_complex_mul w t _ _ _ _ _ _ ?_
  rw [← w257, ← w3]
  have sm : ∀ z : Int, z.natAbs < 2 ^ 40 → Small z := fun z h => Nat.lt_trans h (by decide)
  simp only [Nat.reducePow] at sm
  unfold cMulBits
  rw [fl_mul_nonneg a 257 (by omega) (by omega) (sm _ (by omega)) (sm _ (by omega)) (sm _ (by omega)), fl_mul_nonneg b 3 (by omega) (by omega) (sm _ (by omega)) (sm _ (by omega)) (sm _ (by omega)),
    fl_mul_nonneg a 3 (by omega) (by omega) (sm _ (by omega)) (sm _ (by omega)) (sm _ (by omega)), fl_mul_nonneg b 257 (by omega) (by omega) (sm _ (by omega)) (sm _ (by omega)) (sm _ (by omega))]
  simp only [Option.bind_some]
  rw [fl_sub _ _ (sm _ (by omega)) (sm _ (by omega)) (sm _ (by omega)), fl_add _ _ (sm _ (by omega)) (sm _ (by omega)) (sm _ (by omega))]
  simp only [Option.bind_some]
  rw [show (a : Int) * 257 - b * 3 = 257 * a - 3 * b by omega, show (a : Int) * 3 + b * 257 = 257 * b + 3 * a by omega]

theorem add_step (a b : Nat) (x : Nat) (ha : a < pl.P) (hb : b < pl.P) (hx : x < 256) (w : World) (t : TypeId) :
    (binOp .add t (.complex .f64 (fl (257 * (a : Int) - 3 * b)) (fl (257 * (b : Int) + 3 * a))) (.complex .f64 (fl ((x : Int) + 1)) 0)).run Try.prog w = .ok (.complex .f64 (fl (257 * (a : Int) - 3 * b + (x + 1))) (fl (257 * (b : Int) + 3 * a))) w := by
  unfold pl.P at ha hb
  refine run_complex_sum w .add (.inl rfl) t .f64 _ _ _ _ _ _ ?_
  have sm : ∀ z : Int, z.natAbs < 2 ^ 40 → Small z := fun z h => Nat.lt_trans h (by decide)
  simp only [Nat.reducePow] at sm
  unfold cSumBits
  rw [← zero_word]
  rw [fl_add _ _ (sm _ (by omega)) (sm _ (by omega)) (sm _ (by omega)), fl_add _ _ (sm _ (by omega)) (sm _ (by omega)) (sm _ (by omega))]
  simp

theorem one_more (x : Nat) (hx : x < 256) (w : World) (t : TypeId) : (binOp .add t (.float .f64 (floatOfInt .f64 (x : Int))) (.float .f64 4607182418800017408)).run Try.prog w = .ok (.float .f64 (fl ((x : Int) + 1))) w := by
  refine run_float_arith w .add t .f64 _ _ _ ?_
  rw [← one_word]
  have sm : ∀ z : Int, z.natAbs < 2 ^ 40 → Small z := fun z h => Nat.lt_trans h (by decide)
  simp only [Nat.reducePow] at sm
  exact fl_add (x : Int) 1 (sm _ (by omega)) (sm _ (by omega)) (sm _ (by omega))

theorem take_snoc {bs : List UInt8} {k : Nat} (h : k < bs.length) : bs.take (k + 1) = bs.take k ++ [bs.getD k 0] := by
  rw [List.take_succ_eq_append_getElem h]; simp [List.getD, h]

set_option maxHeartbeats 1000000 in
theorem sum_any (w : World) (v : Value) (bs : List UInt8) (h : Bs w v bs) :
    Calls Try.prog 45 #[v] w fun e w' => e = .returned (cx (pl.sum bs)) ∧ w = w' := by
  obtain ⟨a, cap, rfl, hl, hm, hc⟩ := h
  unfold maxLen at hm
  go_enter Try.func45, Try.ntmps45
  go_wp2
  go_loop [3, 8] (fun s i => ∃ k : Nat, k ≤ bs.length ∧ i = .int .i64 k ∧ s = cx (pl.sum (bs.take k))) (fun _ i => bs.length - (intOf i).toNat)
  case atStart => exact ⟨0, Nat.zero_le _, rfl, by rw [List.take_zero, pl.sum_nil]; show _ = Value.complex _ (fl ((1 : Nat) : Int)) (fl ((0 : Nat) : Int)); rw [show ((1 : Nat) : Int) = 1 from rfl, show ((0 : Nat) : Int) = 0 from rfl, one_word, zero_word]⟩
  case round =>
    obtain ⟨k, hk, rfl, rfl⟩ := hrel
    by_cases hlt : k < bs.length
    · have hne : bs ≠ [] := by intro e; subst e; simp at hlt
      obtain ⟨b, o, rfl, hcell⟩ := hc hne
      have hx : w.cell? ⟨b, o + k, none⟩ = some (.int .u8 ((bs.getD k 0).toNat : Int)) := hcell k hlt
      have hfin := pl.sum_snoc (bs.take k) (bs.getD k 0)
      rw [← take_snoc hlt] at hfin
      have hlt2 := pl.sum_lt (bs.take k)
      unfold cx
      generalize pl.sum (bs.take k) = s at *
      obtain ⟨p, q⟩ := s
      simp only at hlt2
      have hxb : (bs.getD k 0).toNat < 256 := UInt8.toNat_lt _
      generalize bs.getD k 0 = x at *
      have hstep : cx (pl.sum (bs.take (k + 1))) = .complex .f64 (fl ((257 * (p : Int) - 3 * q + (x.toNat + 1)) % pr)) (fl ((257 * (q : Int) + 3 * p) % pr)) := by
        rw [hfin]
        unfold cx pl.step pr
        rw [pl.step_re _ _ _ hlt2.2, pl.step_im]
      have H := Hid_mk hstep
      clear hfin hstep hcell hc hne
      have m1 := mul_step p q hlt2.1 hlt2.2
      have m2 := add_step p q x.toNat hlt2.1 hlt2.2 hxb
      have m3 := one_more x.toNat hxb
      have b1 : p < 16777199 := hlt2.1
      have b2 : q < 16777199 := hlt2.2
      clear hlt2
      go_wp2_with (go_at_call 49; refine (within_any _ (by simp only [Nat.reducePow]; omega) _).mono ?_; rintro e w' ⟨rfl, rfl⟩)
      go_round
      case rel => exact ⟨k + 1, by omega, by go_num, H.out.symm⟩
      case measure => simp [intOf]; omega
    · go_wp2
      go_ret
      have : k = bs.length := by omega
      subst this
      rw [List.take_length]
      exact ⟨rfl, rfl⟩

end Go.Proofs.Ytbhhmbbldbgdnaa.sum
