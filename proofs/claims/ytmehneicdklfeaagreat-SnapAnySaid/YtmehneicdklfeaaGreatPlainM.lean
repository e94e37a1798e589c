/- Sums of bytes in plain whole numbers. No program is named here. The program's sum of bytes is the sum that plain whole numbers give. Seal and Unseal of package pack. Unseal of package pack. One byte turned turns the sum; what the last six bytes say. Plain whole numbers. frame.Frame. -/
import Derived.Test.YtmehneicdklfeaaGreatBaseM
import Derived.Test.YtmehneicdklfeaaGreatLstM
import Derived.WalkKit
import Derived.WalkLawsBesides
import Derived.Deep.QuietTactic
import Derived.BigQuiet
import Derived.Outline
import Derived.Laws.Externs
import Derived.KernelRfl
import Derived.Test.YtmehneicdklfeaaGreatFsMemM
import Derived.OwnWalk
import Derived.RegionTactic
import Derived.Laws.BitsAllLaws
import Derived.IntWalk
import Derived.Test.YtmehneicdklfeaaGreatFsUsedM

namespace Go.Proofs.YtmehneicdklfeaaGreat.pl

def P : Nat := 16777199
/-- one byte more: both parts -/
def step (s : Nat × Nat) (x : UInt8) : Nat × Nat := ((257 * s.1 + x.toNat + 1 + 3 * (P - s.2)) % P, (257 * s.2 + 3 * s.1) % P)
def sum (bs : List UInt8) : Nat × Nat := bs.foldl step (1, 0)

theorem sum_nil : sum [] = (1, 0) := rfl
theorem sum_snoc (bs : List UInt8) (x : UInt8) : sum (bs ++ [x]) = step (sum bs) x := by
  unfold sum; rw [List.foldl_append]; rfl
theorem step_lt (s : Nat × Nat) (x : UInt8) : (step s x).1 < P ∧ (step s x).2 < P := by
  unfold step
  exact ⟨Nat.mod_lt _ (by decide), Nat.mod_lt _ (by decide)⟩
theorem sum_lt (bs : List UInt8) : (sum bs).1 < P ∧ (sum bs).2 < P := by
  rcases List.eq_nil_or_concat bs with rfl | ⟨l, x, rfl⟩
  · exact ⟨by decide, by decide⟩
  · rw [List.concat_eq_append, sum_snoc]; exact step_lt _ _

theorem step_re (a b x : Nat) (hb : b < P) : ((257 * (a : Int) - 3 * b + (x + 1)) % 16777199) = ((257 * a + x + 1 + 3 * (P - b)) % P : Nat) := by
  unfold P at *; omega
theorem step_im (a b : Nat) : ((257 * (b : Int) + 3 * a) % 16777199) = ((257 * b + 3 * a) % P : Nat) := by
  unfold P at *; omega

theorem small_zero {A n : Int} (h : 66058 * A = 16777199 * n) (h1 : -16777199 < A) (h2 : A < 16777199) : A = 0 := by
  have e : A = 16777199 * (4224396 * n - 16633 * A) := by omega
  generalize 4224396 * n - 16633 * A = q at e
  omega

theorem mod_eq {X Y M : Nat} (h : X % M = Y % M) : ∃ k : Int, (X : Int) - Y = M * k := by
  have e1 := Nat.mod_add_div X M
  have e2 := Nat.mod_add_div Y M
  rw [h] at e1
  refine ⟨(X / M : Nat) - (Y / M : Nat), ?_⟩
  rw [Int.mul_sub]
  generalize Y % M = r at *
  rw [← Int.natCast_mul, ← Int.natCast_mul]
  omega

theorem part_re {A D k m : Int} (hk : 257 * A - 3 * D = 16777199 * k) (hm : 257 * D + 3 * A = 16777199 * m) : 66058 * A = 16777199 * (257 * k + 3 * m) := by
  have h : 257 * (257 * A - 3 * D) + 3 * (257 * D + 3 * A) = 257 * (16777199 * k) + 3 * (16777199 * m) := by rw [hk, hm]
  clear hk hm
  omega
theorem part_im {A D k m : Int} (hk : 257 * A - 3 * D = 16777199 * k) (hm : 257 * D + 3 * A = 16777199 * m) : 66058 * D = 16777199 * (257 * m - 3 * k) := by
  have h : 257 * (257 * D + 3 * A) - 3 * (257 * A - 3 * D) = 257 * (16777199 * m) - 3 * (16777199 * k) := by rw [hk, hm]
  clear hk hm
  omega

theorem sub_lt {a b p : Nat} (ha : a < p) (hb : b < p) : -(p : Int) < (a : Int) - b ∧ (a : Int) - b < p := by omega
theorem cast_sub {b p : Nat} (hb : b < p) : ((p - b : Nat) : Int) = (p : Int) - b := by omega
theorem diff1 {a b c d y p : Int} : (257 * a + y + 1 + 3 * (p - b)) - (257 * c + y + 1 + 3 * (p - d)) = 257 * (a - c) - 3 * (b - d) := by omega
theorem diff2 {a b c d : Int} : (257 * b + 3 * a) - (257 * d + 3 * c) = 257 * (b - d) + 3 * (a - c) := by omega

/-- the step is one to one -/
theorem step_inj {s t : Nat × Nat} (x : UInt8) (hs : s.1 < P ∧ s.2 < P) (ht : t.1 < P ∧ t.2 < P) (h : step s x = step t x) : s = t := by
  obtain ⟨a, b⟩ := s
  obtain ⟨c, d⟩ := t
  unfold step at h
  simp only [Prod.mk.injEq] at h hs ht ⊢
  obtain ⟨k, hk⟩ := mod_eq h.1
  obtain ⟨m, hm⟩ := mod_eq h.2
  clear h
  simp only [Int.natCast_add, Int.natCast_mul, cast_sub hs.2, cast_sub ht.2] at hk hm
  have hk' := diff1.symm.trans hk
  have hm' := diff2.symm.trans hm
  clear hk hm
  have l1 := sub_lt hs.1 ht.1
  have l2 := sub_lt hs.2 ht.2
  have hP : (P : Int) = 16777199 := rfl
  rw [hP] at hk' hm' l1 l2
  have z1 := small_zero (part_re hk' hm') l1.1 l1.2
  have z2 := small_zero (part_im hk' hm') l2.1 l2.2
  clear hk' hm' l1 l2
  omega

end Go.Proofs.YtmehneicdklfeaaGreat.pl

namespace Go.Proofs.YtmehneicdklfeaaGreat.sum
open Go.RowKit Go.Proofs.YtmehneicdklfeaaGreat.fl
set_option linter.unusedVariables false

theorem pr_word : fl pr = 4715268800730103808 := by decide +kernel
theorem one_word : fl 1 = 4607182418800017408 := by decide +kernel
theorem zero_word : fl 0 = 0 := by decide +kernel
theorem w257 : fl 257 = 4643228808005025792 := by decide +kernel
theorem w3 : fl 3 = 4613937818241073152 := by decide +kernel

theorem floor_entry (args : Array Value) (w : World) : (callFunc 94 args).run Tryz.prog w = ((Extern.MathFloor.toIntegral "math.archFloor" .down args).run Tryz.prog w).andThen fun v w' => .ok (.value v) w' :=
  run_callFunc_extern Tryz.func94 (by kernel_rfl) (by kernel_rfl) (by kernel_rfl) (by kernel_rfl) args w

theorem run_floor (b : Nat) (s : Bool) (m : Nat) (i : Int) (hb : FloatKind.f64.decode b = .number s m i) (w : World) :
    (callFunc 94 #[.float .f64 b]).run Tryz.prog w = .ok (.value (.float .f64 (FloatKind.f64.encode ((Ieee.Datum.number s m i).integral .down)))) w := by
  rw [floor_entry]
  change ((match FloatKind.f64.decode b with
    | .nan s t =>
      if FloatKind.f64.format.quiet t = t then pure (.float .f64 b) else do
      let kept ← choose (.extern "math.Floor,Ceil,Trunc,RoundToEven.signallingNaN kept" 2)
      pure (.float .f64 (if kept == 1 then b else FloatKind.f64.encode (.nan s (FloatKind.f64.format.quiet t))))
    | d => pure (.float .f64 (FloatKind.f64.encode (d.integral .down))) : Sem Value).run Tryz.prog w).andThen _ = _
  rw [hb]
  rfl

set_option maxHeartbeats 400000 in
theorem within_any (z : Int) (hz : z.natAbs < 2 ^ 33) (w : World) :
    Calls Tryz.prog 78 #[.float .f64 (fl z)] w fun e w' => e = .returned (.float .f64 (fl (z % pr))) ∧ w = w' := by
  obtain ⟨b, s, m, i, h1, h2, h3⟩ := floor_quo z hz
  have q1 : ∀ w t, (binOp .quo t (.float .f64 (fl z)) (.float .f64 4715268800730103808)).run Tryz.prog w = .ok (.float .f64 b) w := fun w t => run_float_arith w .quo t .f64 _ _ _ (by rw [← pr_word]; exact h1)
  have q2 : ∀ w, (callFunc 94 #[.float .f64 b]).run Tryz.prog w = .ok (.value (.float .f64 (fl (z / pr)))) w := fun w => by rw [run_floor b s m i h2, h3]
  have hd : (z / pr).natAbs < 2 ^ 10 := by unfold pr; simp only [Nat.reducePow] at *; omega
  have hm : (pr * (z / pr)).natAbs < 2 ^ 34 := by unfold pr; simp only [Nat.reducePow] at *; omega
  have q3 : ∀ w t, (binOp .mul t (.float .f64 4715268800730103808) (.float .f64 (fl (z / pr)))).run Tryz.prog w = .ok (.float .f64 (fl (pr * (z / pr)))) w := fun w t => by
    refine run_float_arith w .mul t .f64 _ _ _ ?_
    rw [← pr_word]
    have s1 : Small pr := by unfold Small pr; decide
    have s2 : Small (z / pr) := Nat.lt_trans hd (by decide)
    have s3 : Small (pr * (z / pr)) := Nat.lt_trans hm (by decide)
    by_cases h0 : 0 ≤ z / pr
    · exact fl_mul_nonneg _ _ (by decide) h0 s1 s2 s3
    · exact fl_mul_neg _ _ (by decide) (by omega) s1 s2 s3
  have q4 : ∀ w t, (binOp .sub t (.float .f64 (fl z)) (.float .f64 (fl (pr * (z / pr))))).run Tryz.prog w = .ok (.float .f64 (fl (z % pr))) w := fun w t => by
    refine run_float_arith w .sub t .f64 _ _ _ ?_
    have e : z % pr = z - pr * (z / pr) := by have := Int.emod_add_mul_ediv z pr; omega
    rw [e]
    refine fl_sub _ _ (Nat.lt_trans hz (by decide)) (Nat.lt_trans hm (by decide)) ?_
    rw [← e]
    unfold Small pr; simp only [Nat.reducePow] at *; omega
  clear h1 h2 h3 hd hm
  go_enter Tryz.func78, Tryz.ntmps78
  go_wp2
  go_ret
  exact ⟨rfl, rfl⟩

/-- The sum as the program's complex number. -/
def cx (s : Nat × Nat) : Value := .complex .f64 (fl s.1) (fl s.2)

@[go_sem] theorem eqGuard_cx (op : BinOp) (t : TypeId) (x y : Operand) (s s' : Nat × Nat) (w : World) : (eqGuard op t x y (cx s) (cx s')).run Tryz.prog w = .ok () w := by
  cases op <;> rfl
@[go_sem] theorem eqGuard_cx_complex (op : BinOp) (t : TypeId) (x y : Operand) (s : Nat × Nat) (a b : Nat) (w : World) : (eqGuard op t x y (cx s) (.complex .f64 a b)).run Tryz.prog w = .ok () w := by
  cases op <;> rfl

theorem mul_step (a b : Nat) (ha : a < pl.P) (hb : b < pl.P) (w : World) (t : TypeId) :
    (binOp .mul t (.complex .f64 (fl a) (fl b)) (.complex .f64 4643228808005025792 4613937818241073152)).run Tryz.prog w = .ok (.complex .f64 (fl (257 * (a : Int) - 3 * b)) (fl (257 * (b : Int) + 3 * a))) w := by
  unfold pl.P at ha hb
  refine run_complex_mul w t _ _ _ _ _ _ ?_
  rw [← w257, ← w3]
  have sm : ∀ z : Int, z.natAbs < 2 ^ 40 → Small z := fun z h => Nat.lt_trans h (by decide)
  simp only [Nat.reducePow] at sm
  unfold cMulBits
  rw [fl_mul_nonneg a 257 (by omega) (by omega) (sm _ (by omega)) (sm _ (by omega)) (sm _ (by omega)), fl_mul_nonneg b 3 (by omega) (by omega) (sm _ (by omega)) (sm _ (by omega)) (sm _ (by omega)),
    fl_mul_nonneg a 3 (by omega) (by omega) (sm _ (by omega)) (sm _ (by omega)) (sm _ (by omega)), fl_mul_nonneg b 257 (by omega) (by omega) (sm _ (by omega)) (sm _ (by omega)) (sm _ (by omega))]
  simp only [Option.bind_some]
  rw [fl_sub _ _ (sm _ (by omega)) (sm _ (by omega)) (sm _ (by omega)), fl_add _ _ (sm _ (by omega)) (sm _ (by omega)) (sm _ (by omega))]
  simp only [Option.bind_some]
  rw [show (a : Int) * 257 - b * 3 = 257 * a - 3 * b by omega, show (a : Int) * 3 + b * 257 = 257 * b + 3 * a by omega]

theorem add_step (a b : Nat) (x : Nat) (ha : a < pl.P) (hb : b < pl.P) (hx : x < 256) (w : World) (t : TypeId) :
    (binOp .add t (.complex .f64 (fl (257 * (a : Int) - 3 * b)) (fl (257 * (b : Int) + 3 * a))) (.complex .f64 (fl ((x : Int) + 1)) 0)).run Tryz.prog w = .ok (.complex .f64 (fl (257 * (a : Int) - 3 * b + (x + 1))) (fl (257 * (b : Int) + 3 * a))) w := by
  unfold pl.P at ha hb
  refine run_complex_sum w .add (.inl rfl) t .f64 _ _ _ _ _ _ ?_
  have sm : ∀ z : Int, z.natAbs < 2 ^ 40 → Small z := fun z h => Nat.lt_trans h (by decide)
  simp only [Nat.reducePow] at sm
  unfold cSumBits
  rw [← zero_word]
  rw [fl_add _ _ (sm _ (by omega)) (sm _ (by omega)) (sm _ (by omega)), fl_add _ _ (sm _ (by omega)) (sm _ (by omega)) (sm _ (by omega))]
  simp

theorem one_more (x : Nat) (hx : x < 256) (w : World) (t : TypeId) : (binOp .add t (.float .f64 (floatOfInt .f64 (x : Int))) (.float .f64 4607182418800017408)).run Tryz.prog w = .ok (.float .f64 (fl ((x : Int) + 1))) w := by
  refine run_float_arith w .add t .f64 _ _ _ ?_
  rw [← one_word]
  have sm : ∀ z : Int, z.natAbs < 2 ^ 40 → Small z := fun z h => Nat.lt_trans h (by decide)
  simp only [Nat.reducePow] at sm
  exact fl_add (x : Int) 1 (sm _ (by omega)) (sm _ (by omega)) (sm _ (by omega))

set_option maxHeartbeats 1000000 in
theorem sum_any (w : World) (v : Value) (bs : List UInt8) (h : Bs w v bs) :
    Calls Tryz.prog 72 #[v] w fun e w' => e = .returned (cx (pl.sum bs)) ∧ w = w' := by
  obtain ⟨a, cap, rfl, hl, hm, hc⟩ := h
  unfold maxLen at hm
  go_enter Tryz.func72, Tryz.ntmps72
  go_wp2
  go_loop [3, 8] (fun s i => ∃ k : Nat, k ≤ bs.length ∧ i = .int .i64 k ∧ s = cx (pl.sum (bs.take k))) (fun _ i => bs.length - (intOf i).toNat)
  case atStart => exact ⟨0, Nat.zero_le _, rfl, by rw [List.take_zero, pl.sum_nil]; show _ = Value.complex _ (fl ((1 : Nat) : Int)) (fl ((0 : Nat) : Int)); rw [show ((1 : Nat) : Int) = 1 from rfl, show ((0 : Nat) : Int) = 0 from rfl, one_word, zero_word]⟩
  case round =>
    obtain ⟨k, hk, rfl, rfl⟩ := hrel
    by_cases hlt : k < bs.length
    · have hne : bs ≠ [] := by intro e; subst e; simp at hlt
      obtain ⟨b, o, rfl, hcell⟩ := hc hne
      have hx : w.cell? ⟨b, o + k, none⟩ = some (.int .u8 ((bs.getD k 0).toNat : Int)) := hcell k hlt
      have hfin := pl.sum_snoc (bs.take k) (bs.getD k 0)
      rw [← take_snoc hlt] at hfin
      have hlt2 := pl.sum_lt (bs.take k)
      unfold cx
      generalize pl.sum (bs.take k) = s at *
      obtain ⟨p, q⟩ := s
      simp only at hlt2
      have hxb : (bs.getD k 0).toNat < 256 := UInt8.toNat_lt _
      generalize bs.getD k 0 = x at *
      have hstep : cx (pl.sum (bs.take (k + 1))) = .complex .f64 (fl ((257 * (p : Int) - 3 * q + (x.toNat + 1)) % pr)) (fl ((257 * (q : Int) + 3 * p) % pr)) := by
        rw [hfin]
        unfold cx pl.step pr
        rw [pl.step_re _ _ _ hlt2.2, pl.step_im]
      have H := Hid_mk hstep
      clear hfin hstep hcell hc hne
      have m1 := mul_step p q hlt2.1 hlt2.2
      have m2 := add_step p q x.toNat hlt2.1 hlt2.2 hxb
      have m3 := one_more x.toNat hxb
      have b1 : p < 16777199 := hlt2.1
      have b2 : q < 16777199 := hlt2.2
      clear hlt2
      go_wp2_with (go_at_call 78; refine (within_any _ (by simp only [Nat.reducePow]; omega) _).mono ?_; rintro e w' ⟨rfl, rfl⟩)
      go_round
      case rel => exact ⟨k + 1, by omega, by go_num, H.out.symm⟩
      case measure => simp [intOf]; omega
    · go_wp2
      go_ret
      have : k = bs.length := by omega
      subst this
      rw [List.take_length]
      exact ⟨rfl, rfl⟩

end Go.Proofs.YtmehneicdklfeaaGreat.sum

namespace Go.Proofs.YtmehneicdklfeaaGreat.seal
open Go.RowKit Go.Proofs.YtmehneicdklfeaaGreat.sum Go.Proofs.YtmehneicdklfeaaGreat.kept Go.Proofs.YtmehneicdklfeaaGreat.app Go.Proofs.YtmehneicdklfeaaGreat.writer Go.Proofs.YtmehneicdklfeaaGreat.clone Go.Proofs.YtmehneicdklfeaaGreat.known Go.Proofs.YtmehneicdklfeaaGreat.fl
set_option linter.unusedVariables false

/-- a number's three bytes, the lowest first -/
def part (n : Nat) : List UInt8 := [n.toUInt8, (n / 256).toUInt8, (n / 65536).toUInt8]
def tail (s : Nat × Nat) : List UInt8 := part s.1 ++ part s.2
def sealed (bs : List UInt8) : List UInt8 := bs ++ tail (pl.sum bs)

theorem part_len (n : Nat) : (part n).length = 3 := rfl
theorem tail_len (s : Nat × Nat) : (tail s).length = 6 := rfl
theorem u8_toNat (n : Nat) : n.toUInt8.toNat = n % 256 := by simp [Nat.toUInt8]

/-- What an append by a callee leaves: the row, of old memory only the old row. -/
def Onto (base : Nat) (v : Value) (bs : List UInt8) (w : World) (e : Ending) (w' : World) : Prop :=
  ∃ v', e = .returned v' ∧ w'.ownsRow base 5 1 v' bs.length (bs.map B) ∧ Kp (fun k => some k = v.ownBlock) w w'

/-- a literal of three bytes, as laid by the call -/
theorem bs_part (w : World) (n : Nat) (hn : n < 16777216) : Bs (w.alloc (.cells #[.int .u8 ((n : Int) % 256), .int .u8 ((n : Int) / 256 % 256), .int .u8 ((n : Int) / 65536)] 5)) (.slice (some ⟨w.heap.size, 0, none⟩) 3 3) (part n) := by
  have e1 : (n : Int) % 256 = ((n % 256 : Nat) : Int) := by omega
  have e2 : (n : Int) / 256 % 256 = ((n / 256 % 256 : Nat) : Int) := by omega
  have e3 : (n : Int) / 65536 = ((n / 65536 % 256 : Nat) : Int) := by omega
  rw [e1, e2, e3]
  refine ⟨_, 3, rfl, Nat.le_refl _, by decide, fun _ => ⟨_, _, rfl, fun k hk => ?_⟩⟩
  rw [part_len] at hk
  match k, hk with
  | 0, _ => simp [B, part, u8_toNat]
  | 1, _ => simp [B, part, u8_toNat]
  | 2, _ => simp [B, part, u8_toNat]

theorem conv_u32 (n : Nat) (hn : n < 16777216) (w : World) : (convert 106 102 (.float .f64 (fl n))).run Tryz.prog w = .ok (.int .u32 n) w := by
  refine run_convert_float_int w 106 102 .f64 .u32 _ n (by kernel_rfl) Tryz.underlying102 (fl_int n ?_ .u32 ?_ ?_)
  · unfold Small
    have : (2 : Nat) ^ 53 = 9007199254740992 := by decide
    omega
  · have : IntKind.min .u32 = 0 := by decide
    omega
  · have : IntKind.max .u32 = 4294967295 := by decide
    omega

set_option maxRecDepth 100000 in
set_option maxHeartbeats 1000000 in
theorem lay_any (base : Nat) (w : World) (v : Value) (bs : List UInt8) (n : Nat) (hn : n < 16777216) (h : w.ownsRow base 5 1 v bs.length (bs.map B)) (hb : base ≤ w.heap.size) (hl : bs.length + 3 ≤ 140737488355328) :
    Calls Tryz.prog 73 #[v, .float .f64 (fl n)] w (Onto base v (bs ++ part n) w) := by
  have hq := conv_u32 n hn
  have H := Hid_mk h
  clear h
  go_enter Tryz.func73, Tryz.ntmps73
  go_wp2_with (at_builtin; (refine wpList_append_bs _ rfl _ _ rfl base _ bs rfl (H.out.alloc _) _ (part n) rfl (bs_part w n hn) ?c1 ?c2 ?_))
  case c1 => rw [part_len]; exact hl
  case c2 => simp; omega
  · intro v' w1 happ
    have hfin : Onto base v (bs ++ part n) w (.returned v') w1 := ⟨v', rfl, happ.1, app_kept happ fun k _ e => e.symm⟩
    have HF := Hid_mk hfin
    clear happ hfin hq
    go_wp2
    go_ret
    exact HF.out

set_option maxRecDepth 100000 in
set_option maxHeartbeats 1000000 in
theorem seal_any (w : World) (v : Value) (bs : List UInt8) (h : Bs w v bs) (hl : bs.length + 6 ≤ 140737488355328) :
    Calls Tryz.prog 63 #[v] w (NewBs w (sealed bs)) := by
  obtain ⟨i0, hi, hz0, hz1, hz2⟩ := info_parts info5
  have H := Hid_mk h
  obtain ⟨a, cap, rfl, hlc, hm, -⟩ := h
  have sl := pl.sum_lt bs
  have s1 : (pl.sum bs).1 < 16777216 := by have := sl.1; unfold pl.P at this; omega
  have s2 : (pl.sum bs).2 < 16777216 := by have := sl.2; unfold pl.P at this; omega
  have hml : bs.length + 6 ≤ maxLen := by unfold maxLen; omega
  unfold maxLen at hm
  clear sl
  go_enter Tryz.func63, Tryz.ntmps63
  go_wp2_with fail
  refine (sum_any _ _ _ H.out).mono ?_
  rintro e w' ⟨rfl, rfl⟩
  unfold cx
  go_wp2_with (at_make; refine wpList_make_own _ rfl _ _ 29 rfl w.heap.size 5 i0 (.int .u8 0) 1 Tryz.underlying29 hi hz0 hz1 _ _ _ (bs.length + 6) rfl rfl (by omega) ?b1 ?b2 (Nat.le_refl _) ?_)
  case b1 => rw [hz2]; omega
  case b2 => exact hml
  · intro w1 hown1 hgr1
    have k1 : Kp No w w1 := (Kp.refl No w).grown hgr1 fun k hk e => by cases e
    have K1 := Hid_mk k1
    have hx := bs_no H.out k1
    have HX := Hid_mk hx
    have hz : w.heap.size ≤ w1.heap.size := k1.size
    clear hgr1 k1 hx
    go_wp2_with (at_builtin; (refine wpList_append_bs _ rfl _ _ rfl w.heap.size _ [] rfl hown1 _ bs rfl HX.out ?c1 ?c2 ?_))
    case c1 => simp; omega
    case c2 => exact hz
    · intro v2 w2 happ2
      have k2 : Kp No w w2 := K1.out.grown happ2.2.1 fun k hk e => by have := (hown1.lt k e).1; omega
      have hz2' := k2.size
      have K2 := Hid_mk k2
      have O2 := Hid_mk happ2.1
      clear hown1 happ2 k2
      go_wp2_with fail
      refine (lay_any w.heap.size w2 _ _ (pl.sum bs).1 s1 O2.out hz2' (by simp; omega)).mono ?_
      rintro e w3 ⟨v3, rfl, o3, k3⟩
      have O3 := Hid_mk o3
      have k3' : Kp No w w3 := K2.out.trans k3 fun i hi e => by have := (O2.out.lt i e.symm).1; omega
      have hz3 := k3'.size
      have K3 := Hid_mk k3'
      clear o3 k3 k3'
      go_wp2_with fail
      refine (lay_any w.heap.size w3 _ _ (pl.sum bs).2 s2 O3.out hz3 (by simp [part_len]; omega)).mono ?_
      rintro e w4 ⟨v4, rfl, o4, k4⟩
      have hfin : NewBs w (sealed bs) (.returned v4) w4 := by
        refine ⟨v4, rfl, ?_, K3.out.trans k4 fun i hi e => by have := (O3.out.lt i e.symm).1; omega⟩
        have e : sealed bs = [] ++ bs ++ part (pl.sum bs).1 ++ part (pl.sum bs).2 := by unfold sealed tail; simp
        rw [e]; exact o4
      have HF := Hid_mk hfin
      clear o4 k4 hfin
      go_wp2
      go_ret
      exact HF.out

end Go.Proofs.YtmehneicdklfeaaGreat.seal

namespace Go.Proofs.YtmehneicdklfeaaGreat.unseal
open Go.RowKit Go.Proofs.YtmehneicdklfeaaGreat.sum Go.Proofs.YtmehneicdklfeaaGreat.kept Go.Proofs.YtmehneicdklfeaaGreat.app Go.Proofs.YtmehneicdklfeaaGreat.writer Go.Proofs.YtmehneicdklfeaaGreat.clone Go.Proofs.YtmehneicdklfeaaGreat.known Go.Proofs.YtmehneicdklfeaaGreat.fl Go.Proofs.YtmehneicdklfeaaGreat.seal
set_option linter.unusedVariables false

/-- the number of three bytes -/
def num3 (bs : List UInt8) : Nat := (bs.getD 0 0).toNat + 256 * (bs.getD 1 0).toNat + 65536 * (bs.getD 2 0).toNat

theorem or3 (p q r : Nat) (hp : p < 256) (hq : q < 256) (hr : r < 256) : bits .or .u32 (bits .or .u32 (p : Int) ((q : Int) * 256)) ((r : Int) * 65536) = ((p + 256 * q + 65536 * r : Nat) : Int) := by
  have e1 : bits .or .u32 (p : Int) ((q : Int) * 256) = ((p + 256 * q : Nat) : Int) := by
    rw [u32_or _ _ (by omega) (by omega) (by omega) (by omega), show ((p : Int)).toNat = p by omega, show ((q : Int) * 256).toNat = q * 256 by omega, Nat.or_comm, nat_join 8 (q * 256) p (by omega) (by omega)]
    congr 1; omega
  rw [e1, u32_or _ _ (by omega) (by omega) (by omega) (by omega), show (((p + 256 * q : Nat) : Int)).toNat = p + 256 * q by omega, show ((r : Int) * 65536).toNat = r * 65536 by omega, Nat.or_comm, nat_join 16 (r * 65536) (p + 256 * q) (by omega) (by omega)]
  congr 1; omega

set_option maxRecDepth 100000 in
set_option maxHeartbeats 1000000 in
theorem read_any (w : World) (v : Value) (bs : List UInt8) (h : Bs w v bs) (hl : 3 ≤ bs.length) :
    Calls Tryz.prog 77 #[v] w fun e w' => e = .returned (.float .f64 (fl (num3 bs))) ∧ ∃ n, w' = w.drewN n := by
  obtain ⟨a, cap, rfl, hlc, hm, hc⟩ := h
  obtain ⟨b, o, rfl, hcell⟩ := hc (by intro e; subst e; simp at hl)
  have c0 : w.cell? ⟨b, o, none⟩ = some (.int .u8 ((bs.getD 0 0).toNat : Int)) := hcell 0 (by omega)
  have c1 : w.cell? ⟨b, o + 1, none⟩ = some (.int .u8 ((bs.getD 1 0).toNat : Int)) := hcell 1 (by omega)
  have c2 : w.cell? ⟨b, o + 2, none⟩ = some (.int .u8 ((bs.getD 2 0).toNat : Int)) := hcell 2 (by omega)
  have l0 : (0 : Int) < (bs.length : Int) := by omega
  have l1 : (1 : Int) < (bs.length : Int) := by omega
  have l2 : (2 : Int) < (bs.length : Int) := by omega
  unfold num3
  have x0 : (bs.getD 0 0).toNat < 256 := UInt8.toNat_lt _
  have x1 : (bs.getD 1 0).toNat < 256 := UInt8.toNat_lt _
  have x2 : (bs.getD 2 0).toNat < 256 := UInt8.toNat_lt _
  generalize (bs.getD 0 0).toNat = p at *
  generalize (bs.getD 1 0).toNat = q at *
  generalize (bs.getD 2 0).toNat = r at *
  generalize bs.length = len at *
  clear hcell hc
  go_enter Tryz.func77, Tryz.ntmps77
  go_wp2
  go_quiet (fail)
  rw [or3 p q r x0 x1 x2]
  go_wp2
  go_ret
  exact ⟨rfl, _, rfl⟩

set_option maxRecDepth 100000 in
set_option maxHeartbeats 1000000 in
theorem unseal_short (w : World) (v : Value) (bs : List UInt8) (h : Bs w v bs) (hl : bs.length < 6) :
    Calls Tryz.prog 71 #[v] w fun e w' => e = .returned (.tuple #[.slice none 0 0, .int .i64 10]) ∧ w = w' := by
  obtain ⟨a, cap, rfl, hlc, hm, hc⟩ := h
  have hlt : (bs.length : Int) < 6 := by omega
  generalize bs.length = len at *
  clear hc
  go_enter Tryz.func71, Tryz.ntmps71
  go_wp2
  go_ret2
  exact ⟨rfl, rfl⟩

theorem quiet_sum {w : World} {v : Value} {bs : List UInt8} {n : Nat} (h : Bs w v bs) :
    Calls Tryz.prog 72 #[v] (w.drewN n) fun e w'' => e = .returned (cx (pl.sum bs)) ∧ ∃ m, w'' = w.drewN m :=
  (sum_any _ _ _ (bs_drewN n h)).mono fun _ _ ⟨he, hm⟩ => ⟨he, n, hm.symm⟩
theorem quiet_read {w : World} {v : Value} {bs : List UInt8} {n : Nat} (h : Bs w v bs) (hl : 3 ≤ bs.length) :
    Calls Tryz.prog 77 #[v] (w.drewN n) fun e w'' => e = .returned (.float .f64 (fl (num3 bs))) ∧ ∃ m, w'' = w.drewN m :=
  Calls.quiet_of (read_any _ _ _ (bs_drewN n h) hl)

/-- the pair that the last six bytes say -/
def said (tl : List UInt8) : Nat × Nat := (num3 tl, num3 (tl.drop 3))
theorem num3_lt (bs : List UInt8) : num3 bs < 16777216 := by
  unfold num3
  have x0 : (bs.getD 0 0).toNat < 256 := UInt8.toNat_lt _
  have x1 : (bs.getD 1 0).toNat < 256 := UInt8.toNat_lt _
  have x2 : (bs.getD 2 0).toNat < 256 := UInt8.toNat_lt _
  omega

theorem neq_said (s : Nat × Nat) (hs : s.1 < pl.P ∧ s.2 < pl.P) (tl : List UInt8) (ty : TypeId) (w : World) :
    (binOp .neq ty (cx s) (.complex .f64 (fl (num3 tl)) (fl (num3 (tl.drop 3))))).run Tryz.prog w = .ok (.bool (!decide (s = said tl))) w := by
  have sm : ∀ n : Nat, n < 16777216 → Small (n : Int) := fun n h => by
    unfold Small
    have : (2 : Nat) ^ 53 = 9007199254740992 := by decide
    omega
  unfold pl.P at hs
  unfold cx said
  rw [run_neq_complex, fl_eql _ _ (sm _ (by omega)) (sm _ (num3_lt _)), fl_eql _ _ (sm _ (by omega)) (sm _ (num3_lt _))]
  congr 3
  rw [Bool.eq_iff_iff]
  simp [Prod.ext_iff]
  omega

def Unsealed (w : World) (bs : List UInt8) (e : Ending) (w' : World) : Prop :=
  Kp No w w' ∧ ∃ v', e = .returned (.tuple #[v', .int .i64 0]) ∧ w'.ownsRow w.heap.size 5 1 v' bs.length (bs.map B)
def Broken (w : World) (c : Int) (e : Ending) (w' : World) : Prop := Kp No w w' ∧ e = .returned (.tuple #[.slice none 0 0, .int .i64 c])

set_option maxRecDepth 100000 in
set_option maxHeartbeats 1000000 in
theorem unseal_core (w : World) (b o k cap : Nat) (hk : k + 6 ≤ cap) (hkm : k ≤ 140737488355328) (xs tl : List UInt8) (hx : Bs w (.slice (some ⟨b, o, none⟩) k cap) xs) (ht : Bs w (.slice (some ⟨b, o + k, none⟩) 6 (cap - k)) tl)
    (ht2 : Bs w (.slice (some ⟨b, o + k + 3, none⟩) 3 (cap - k - 3)) (tl.drop 3)) :
    Calls Tryz.prog 71 #[.slice (some ⟨b, o, none⟩) (k + 6) cap] w fun e w' => if pl.sum xs = said tl then Unsealed w xs e w' else Broken w 13 e w' := by
  have l6 : tl.length = 6 := by obtain ⟨_, _, e, _⟩ := ht; simp only [Value.slice.injEq] at e; exact e.2.1.symm
  have lx : xs.length = k := by obtain ⟨_, _, e, _⟩ := hx; simp only [Value.slice.injEq] at e; exact e.2.1.symm
  have HX := Hid_mk hx
  have HT := Hid_mk ht
  have HT2 := Hid_mk ht2
  have HL := Hid_mk l6
  have HLX := Hid_mk lx
  have hneq := fun t w => neq_said (pl.sum xs) (pl.sum_lt xs) tl t w
  clear hx ht ht2 l6 lx
  by_cases hs : pl.sum xs = said tl
  · simp only [hs, decide_true, Bool.not_true] at hneq
    simp only [hs, if_true]
    rw [← hs] at hneq
    have HS := Hid_mk hs
    clear hs
    go_enter Tryz.func71, Tryz.ntmps71
    go_wp2
    go_quiet (fail)
    obtain ⟨w0, hw0⟩ : ∃ w0, w0 = w.drewN nq := ⟨_, rfl⟩
    rw [← hw0]
    have HW := Hid_mk hw0
    clear hw0
    have HX0 : Hid (Bs w0 _ _) := Hid_mk (HW.out ▸ bs_drewN nq HX.out)
    have HT0 : Hid (Bs w0 _ _) := Hid_mk (HW.out ▸ bs_drewN nq HT.out)
    have HT20 : Hid (Bs w0 _ _) := Hid_mk (HW.out ▸ bs_drewN nq HT2.out)
    go_wp2
    go_quiet ((first | (go_at_call 72; exact quiet_sum HX0.out) | (go_at_call 77; first | exact quiet_read HT0.out (by rw [HL.out]; omega) | exact quiet_read HT20.out (by rw [List.length_drop, HL.out]; omega))))
    go_wp2_with fail
    refine (clone_any _ _ xs (bs_drewN _ HX0.out) (by rw [HLX.out]; exact hkm)).mono ?_
    rintro e w1 ⟨v1, rfl, ho, hk1⟩
    have hfin : Unsealed w xs (.returned (.tuple #[v1, .int .i64 0])) w1 := by
      have h0 := HW.out
      subst h0
      exact ⟨(((Kp.refl No w).drewN _).drewN _).trans' hk1, v1, rfl, owns_base ho (Nat.le_refl _)⟩
    have HF := Hid_mk hfin
    clear ho hk1 hfin hneq
    go_wp2
    go_ret2
    exact HF.out
  · simp only [hs, decide_false, Bool.not_false] at hneq
    simp only [hs, if_false]
    have HS := Hid_mk hs
    clear hs
    go_enter Tryz.func71, Tryz.ntmps71
    go_wp2
    go_quiet (fail)
    obtain ⟨w0, hw0⟩ : ∃ w0, w0 = w.drewN nq := ⟨_, rfl⟩
    rw [← hw0]
    have HW := Hid_mk hw0
    clear hw0
    have HX0 : Hid (Bs w0 _ _) := Hid_mk (HW.out ▸ bs_drewN nq HX.out)
    have HT0 : Hid (Bs w0 _ _) := Hid_mk (HW.out ▸ bs_drewN nq HT.out)
    have HT20 : Hid (Bs w0 _ _) := Hid_mk (HW.out ▸ bs_drewN nq HT2.out)
    go_wp2
    go_quiet ((first | (go_at_call 72; exact quiet_sum HX0.out) | (go_at_call 77; first | exact quiet_read HT0.out (by rw [HL.out]; omega) | exact quiet_read HT20.out (by rw [List.length_drop, HL.out]; omega))))
    go_wp2
    go_ret2
    have h0 := HW.out
    subst h0
    exact ⟨((Kp.refl No w).drewN _).drewN _, rfl⟩

theorem unseal_any (w : World) (v : Value) (bs : List UInt8) (h : Bs w v bs) (hl : 6 ≤ bs.length) (hm : bs.length ≤ 140737488355328) :
    Calls Tryz.prog 71 #[v] w fun e w' => if pl.sum (bs.take (bs.length - 6)) = said (bs.drop (bs.length - 6)) then Unsealed w (bs.take (bs.length - 6)) e w' else Broken w 13 e w' := by
  have H := h
  obtain ⟨a, cap, rfl, hlc, hmx, hc⟩ := h
  obtain ⟨b, o, rfl, hcell⟩ := hc (by intro e; subst e; simp at hl)
  obtain ⟨k, hk⟩ : ∃ k, bs.length = k + 6 := ⟨bs.length - 6, by omega⟩
  have hx := bs_take H k (by omega)
  have ht := bs_drop H k (by omega) (some ⟨b, o + k, none⟩) (fun _ => rfl)
  have ht2 := bs_drop ht 3 (by omega) (some ⟨b, o + k + 3, none⟩) (fun _ => rfl)
  rw [hk] at ht ht2 ⊢
  rw [show k + 6 - k = 6 by omega] at ht ht2
  rw [show k + 6 - 6 = k by omega]
  exact unseal_core w b o k cap (by omega) (by omega) _ _ hx ht ht2

/-- What Unseal answers. -/
def UnsealPost (w : World) (bs : List UInt8) (e : Ending) (w' : World) : Prop :=
  if bs.length < 6 then Broken w 10 e w'
  else if pl.sum (bs.take (bs.length - 6)) = said (bs.drop (bs.length - 6)) then Unsealed w (bs.take (bs.length - 6)) e w' else Broken w 13 e w'

theorem unseal_all (w : World) (v : Value) (bs : List UInt8) (h : Bs w v bs) (hm : bs.length ≤ 140737488355328) :
    Calls Tryz.prog 71 #[v] w (UnsealPost w bs) := by
  by_cases hl : bs.length < 6
  · refine (unseal_short w v bs h hl).mono fun e w' ⟨he, hw⟩ => ?_
    unfold UnsealPost
    rw [if_pos hl]
    subst hw
    exact ⟨Kp.refl _ _, he⟩
  · refine (unseal_any w v bs h (by omega) hm).mono fun e w' hp => ?_
    unfold UnsealPost
    rw [if_neg hl]
    exact hp

end Go.Proofs.YtmehneicdklfeaaGreat.unseal

namespace Go.Proofs.YtmehneicdklfeaaGreat.turnedPlain
open Go.Proofs.YtmehneicdklfeaaGreat.seal Go.Proofs.YtmehneicdklfeaaGreat.unseal

theorem run_lt (s : Nat × Nat) (hs : s.1 < pl.P ∧ s.2 < pl.P) (bs : List UInt8) : (bs.foldl pl.step s).1 < pl.P ∧ (bs.foldl pl.step s).2 < pl.P := by
  induction bs generalizing s with
  | nil => exact hs
  | cons x bs ih => exact ih _ (pl.step_lt _ _)

theorem run_inj {s t : Nat × Nat} (hs : s.1 < pl.P ∧ s.2 < pl.P) (ht : t.1 < pl.P ∧ t.2 < pl.P) (bs : List UInt8) (h : bs.foldl pl.step s = bs.foldl pl.step t) : s = t := by
  induction bs generalizing s t with
  | nil => exact h
  | cons x bs ih => exact pl.step_inj x hs ht (ih (pl.step_lt _ _) (pl.step_lt _ _) h)

theorem step_byte {s : Nat × Nat} {x y : UInt8} (h : pl.step s x = pl.step s y) : x = y := by
  unfold pl.step at h
  simp only [Prod.mk.injEq, and_true] at h
  obtain ⟨k, hk⟩ := pl.mod_eq h
  have hx : x.toNat < 256 := UInt8.toNat_lt _
  have hy : y.toNat < 256 := UInt8.toNat_lt _
  apply UInt8.toNat_inj.1
  have hP : (pl.P : Int) = 16777199 := rfl
  rw [hP] at hk
  generalize pl.P - s.2 = c at hk
  omega

theorem sum_set (bs : List UInt8) (k : Nat) (hk : k < bs.length) (y : UInt8) (hy : bs[k] ≠ y) : pl.sum (bs.set k y) ≠ pl.sum bs := by
  intro h
  have e1 : bs = bs.take k ++ bs[k] :: bs.drop (k + 1) := by
    conv => lhs; rw [← List.take_append_drop k bs]
    rw [List.drop_eq_getElem_cons hk]
  have e2 : bs.set k y = bs.take k ++ y :: bs.drop (k + 1) := List.set_eq_take_append_cons_drop (l := bs) (i := k) (a := y) |>.trans (if_pos hk)
  rw [e2] at h
  conv at h => rhs; rw [e1]
  unfold pl.sum at h
  rw [List.foldl_append, List.foldl_append] at h
  simp only [List.foldl_cons] at h
  have := run_inj (pl.step_lt _ _) (pl.step_lt _ _) _ h
  exact hy (step_byte this).symm

theorem num3_part (n : Nat) (r : List UInt8) (hn : n < 16777216) : num3 (seal.part n ++ r) = n := by
  unfold num3 seal.part
  simp [u8_toNat]
  omega

theorem said_tail (s : Nat × Nat) (hs : s.1 < pl.P ∧ s.2 < pl.P) : said (tail s) = s := by
  unfold said tail
  unfold pl.P at hs
  rw [num3_part _ _ (by omega)]
  have e : (seal.part s.1 ++ seal.part s.2).drop 3 = seal.part s.2 ++ [] := by simp [seal.part]
  rw [e, num3_part _ _ (by omega)]

theorem said_inj {a b : List UInt8} (ha : a.length = 6) (hb : b.length = 6) (h : said a = said b) : a = b := by
  match a, ha with
  | [a0, a1, a2, a3, a4, a5], _ =>
  match b, hb with
  | [b0, b1, b2, b3, b4, b5], _ =>
  unfold said num3 at h
  simp at h
  have l := fun x : UInt8 => UInt8.toNat_lt x
  have := l a0; have := l a1; have := l a2; have := l a3; have := l a4; have := l a5
  have := l b0; have := l b1; have := l b2; have := l b3; have := l b4; have := l b5
  simp only [List.cons.injEq, and_true, ← UInt8.toNat_inj]
  omega

/-- What was sealed is unsealed as it was. -/
theorem sealed_ok (bs : List UInt8) : (sealed bs).length = bs.length + 6 ∧ (sealed bs).take bs.length = bs ∧ said ((sealed bs).drop bs.length) = pl.sum bs := by
  unfold sealed
  refine ⟨by simp [tail_len], by simp, ?_⟩
  rw [List.drop_left]
  exact said_tail _ (pl.sum_lt bs)

/-- .. and with one byte turned it is not. -/
theorem turned_bad (bs : List UInt8) (k : Nat) (hk : k < bs.length + 6) (y : UInt8) (hy : (sealed bs).getD k 0 ≠ y) :
    pl.sum (((sealed bs).set k y).take bs.length) ≠ said (((sealed bs).set k y).drop bs.length) := by
  have so := sealed_ok bs
  have hks : k < (sealed bs).length := by omega
  by_cases h : k < bs.length
  · rw [List.take_set, List.drop_set_of_lt h, so.2.1, so.2.2]
    refine sum_set bs k h y ?_
    intro e
    apply hy
    simp only [List.getD, List.getElem?_eq_getElem hks, Option.getD_some]
    rw [← e]
    have h2 : k < ((sealed bs).take bs.length).length := by rw [so.2.1]; exact h
    have := List.getElem_take (xs := sealed bs) (j := bs.length) (i := k) (h := h2)
    rw [← this]
    simp only [so.2.1]
  · rw [List.take_set, so.2.1, List.set_eq_of_length_le (by omega), List.drop_set, if_neg h]
    intro e
    rw [← so.2.2] at e
    have l1 : ((sealed bs).drop bs.length).length = 6 := by rw [List.length_drop, so.1]; omega
    have e2 := said_inj l1 (by rw [List.length_set]; exact l1) e
    apply hy
    have h3 : k - bs.length < ((sealed bs).drop bs.length).length := by omega
    have e3 : (((sealed bs).drop bs.length).set (k - bs.length) y)[k - bs.length]? = some y := by rw [List.getElem?_set, if_pos rfl, if_pos h3]
    rw [← e2, List.getElem?_drop, show bs.length + (k - bs.length) = k by omega] at e3
    simp [List.getD, e3]

end Go.Proofs.YtmehneicdklfeaaGreat.turnedPlain

namespace Go.Proofs.YtmehneicdklfeaaGreat.frm
open Go.RowKit Go.Proofs.YtmehneicdklfeaaGreat.sum Go.Proofs.YtmehneicdklfeaaGreat.kept Go.Proofs.YtmehneicdklfeaaGreat.app Go.Proofs.YtmehneicdklfeaaGreat.writer Go.Proofs.YtmehneicdklfeaaGreat.clone Go.Proofs.YtmehneicdklfeaaGreat.known Go.Proofs.YtmehneicdklfeaaGreat.fl Go.Proofs.YtmehneicdklfeaaGreat.seal Go.Proofs.YtmehneicdklfeaaGreat.unseal
set_option linter.unusedVariables false

/-- a length's four bytes, the lowest first -/
def len4 (n : Nat) : List UInt8 := [n.toUInt8, (n / 256).toUInt8, (n / 65536).toUInt8, (n / 16777216).toUInt8]
theorem len4_len (n : Nat) : (len4 n).length = 4 := rfl
def framed (bs : List UInt8) : List UInt8 := if bs.length ≤ 4194304 then len4 bs.length ++ sealed bs else []
theorem framed_some {bs : List UInt8} (h : bs.length ≤ 4194304) : framed bs = len4 bs.length ++ sealed bs := if_pos h
theorem framed_none {bs : List UInt8} (h : ¬ bs.length ≤ 4194304) : framed bs = [] := if_neg h
theorem framed_len {bs : List UInt8} (h : bs.length ≤ 4194304) : (framed bs).length = bs.length + 10 := by
  rw [framed_some h, List.length_append, len4_len, (turnedPlain.sealed_ok bs).1]; omega

theorem bs_len4 (w : World) (n : Nat) (hn : n ≤ 4194304) : Bs (w.alloc (.cells #[.int .u8 ((n : Int) % 256), .int .u8 ((n : Int) / 256 % 256), .int .u8 ((n : Int) / 65536), .int .u8 ((n : Int) / 16777216)] 5)) (.slice (some ⟨w.heap.size, 0, none⟩) 4 4) (len4 n) := by
  have e1 : (n : Int) % 256 = ((n % 256 : Nat) : Int) := by omega
  have e2 : (n : Int) / 256 % 256 = ((n / 256 % 256 : Nat) : Int) := by omega
  have e3 : (n : Int) / 65536 = ((n / 65536 % 256 : Nat) : Int) := by omega
  have e4 : (n : Int) / 16777216 = ((n / 16777216 % 256 : Nat) : Int) := by omega
  rw [e1, e2, e3, e4]
  refine ⟨_, 4, rfl, Nat.le_refl _, by decide, fun _ => ⟨_, _, rfl, fun k hk => ?_⟩⟩
  rw [len4_len] at hk
  match k, hk with
  | 0, _ => simp [B, len4, u8_toNat]
  | 1, _ => simp [B, len4, u8_toNat]
  | 2, _ => simp [B, len4, u8_toNat]
  | 3, _ => simp [B, len4, u8_toNat]

set_option maxRecDepth 100000 in
set_option maxHeartbeats 1000000 in
theorem frame_any (w : World) (v : Value) (bs : List UInt8) (h : Bs w v bs) :
    Calls Tryz.prog 34 #[v] w (NewBs w (framed bs)) := by
  obtain ⟨i0, hi, hz0, hz1, hz2⟩ := info_parts info5
  have H := Hid_mk h
  obtain ⟨a, cap, rfl, hlc, hm, -⟩ := h
  unfold maxLen at hm
  by_cases hb : bs.length ≤ 4194304
  · rw [framed_some hb]
    have hml : bs.length + 10 ≤ maxLen := by unfold maxLen; omega
    have hbi : ¬ (4194304 : Int) < (bs.length : Int) := by omega
    go_enter Tryz.func34, Tryz.ntmps34
    go_wp2_with (at_make; refine wpList_make_own _ rfl _ _ 29 rfl w.heap.size 5 i0 (.int .u8 0) 1 Tryz.underlying29 hi hz0 hz1 _ _ _ (4 + bs.length + 6) rfl rfl (by omega) ?b1 ?b2 (Nat.le_refl _) ?_)
    case b1 => omega
    case b2 => unfold maxLen; omega
    intro w1 hown1 hgr1
    have k1 : Kp No w w1 := (Kp.refl No w).grown hgr1 fun k hk e => by cases e
    have K1 := Hid_mk k1
    have hz : w.heap.size ≤ w1.heap.size := k1.size
    clear hgr1 k1
    go_wp2_with (at_builtin; (refine wpList_append_bs _ rfl _ _ rfl w.heap.size _ [] rfl (hown1.alloc _) _ (len4 bs.length) rfl (bs_len4 w1 bs.length hb) ?c1 ?c2 ?_))
    case c1 => simp [len4_len]
    case c2 => simp; omega
    intro v2 w2 happ2
    have k2 : Kp No w w2 := (K1.out.alloc _).grown happ2.2.1 fun k hk e => by have := (hown1.lt k e).1; omega
    have hz2' := k2.size
    have K2 := Hid_mk k2
    have O2 := Hid_mk happ2.1
    clear hown1 happ2 k2
    go_wp2_with fail
    with_reducible refine (seal_any w2 _ bs (bs_no H.out K2.out) (by omega)).mono ?_
    rintro e w3 ⟨v3, rfl, o3, k3⟩
    have K3 := Hid_mk (K2.out.trans' k3)
    have O3 := Hid_mk (owns_bs o3)
    have O23 := Hid_mk (owns_kept O2.out k3 fun _ _ => id)
    have hz3 := k3.size
    have hsl := (turnedPlain.sealed_ok bs).1
    have HSl := Hid_mk hsl
    clear o3 k3 hsl
    go_wp2_with (at_builtin; (refine wpList_append_bs _ rfl _ _ rfl w.heap.size _ ([] ++ len4 bs.length) rfl O23.out _ (sealed bs) rfl O3.out ?d1 ?d2 ?_))
    case d1 => rw [HSl.out]; simp [len4_len]; omega
    case d2 => omega
    intro v4 w4 happ
    have hfin : NewBs w (len4 bs.length ++ sealed bs) (.returned v4) w4 := ⟨v4, rfl, happ.1, K3.out.grown happ.2.1 fun k hk e => by have := (O23.out.lt k e).1; omega⟩
    have HF := Hid_mk hfin
    clear happ hfin
    go_wp2
    go_ret
    exact HF.out
  · rw [framed_none hb]
    have hbi : (4194304 : Int) < (bs.length : Int) := by omega
    go_enter Tryz.func34, Tryz.ntmps34
    go_wp2
    go_ret
    exact ⟨_, rfl, World.ownsRow_nil _ _ _ _, Kp.refl _ _⟩

end Go.Proofs.YtmehneicdklfeaaGreat.frm
