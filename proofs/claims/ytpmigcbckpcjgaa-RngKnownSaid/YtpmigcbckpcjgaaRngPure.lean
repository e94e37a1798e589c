/- What a whole number below 2^53 is by 2^53: at least 0, below 1, and 2^53 times itself again. Plain arithmetic: no program is named here. -/
import Derived.Test.YtpmigcbckpcjgaaFloor
namespace Go.Proofs.Ytpmigcbckpcjgaa.fl
open Ieee

def t53 : Nat := 4845873199050653696
theorem read_t53 : double.read t53 = .number false (2 ^ 52) 1 := by decide +kernel
theorem read_0 : double.read 0 = .number false 0 (-1074) := by decide +kernel
theorem read_1 : double.read 4607182418800017408 = .number false (2 ^ 52) (-52) := by decide +kernel
theorem p53 : (2 : Nat) ^ 53 = 9007199254740992 := by decide
theorem small_m {m : Nat} (h : m < 2 ^ 53) : Small (m : Int) := by
  unfold Small
  omega

/-- m by 2^53, as a word -/
def fq (m : Nat) : Nat := if m = 0 then 0 else double.word false ((m.log2 + 969) * 2 ^ 52 + m * 2 ^ (52 - m.log2))

theorem read_fq (m : Nat) (h : m < 2 ^ 53) : ∃ k : Nat, double.read (fq m) = .number false (m * 2 ^ k) (-((53 + k : Nat) : Int)) := by
  unfold fq
  by_cases hm : m = 0
  · subst hm
    obtain ⟨k, hk⟩ : ∃ k : Nat, k = 1021 := ⟨_, rfl⟩
    refine ⟨k, ?_⟩
    rw [if_pos rfl, read_0, Nat.zero_mul, hk]
    rfl
  · have h0 : 0 < m := by omega
    have hl := small_log h0 h
    have nb := norm_bounds m h0 hl
    refine ⟨52 - m.log2, ?_⟩
    rw [if_neg hm, read_word _ _ _ nb.1 nb.2 (by omega)]
    have e : (-1074 + (m.log2 + 969 : Nat) : Int) = -((53 + (52 - m.log2) : Nat) : Int) := by omega
    rw [e]

theorem fq_quo (m : Nat) (h : m < 2 ^ 53) : floatBits .quo .f64 (fl (m : Int)) t53 = some (fq m) := by
  show ((double.read (fl (m : Int))).quotient 54 (double.read t53)).map double.write = _
  have hs := small_m h
  have l52 : (2 ^ 52 : Nat).log2 = 52 := by decide +kernel
  rw [read_t53]
  by_cases hm : m = 0
  · subst hm
    rw [show fl ((0 : Nat) : Int) = 0 by decide +kernel, read_0]
    simp only [Datum.quotient]
    rw [if_neg (by decide)]
    simp only [Nat.zero_shiftLeft, Nat.zero_div, Nat.zero_mod, Option.map_some]
    show some (double.nearest _ _ _) = _
    simp [nearest_zero, fq]
    decide +kernel
  · have h0 : 0 < m := by omega
    have hl := small_log h0 h
    rw [read_nz (m : Int) (by omega) hs]
    have ea : ((m : Int)).natAbs = m := by omega
    have ed : decide ((m : Int) < 0) = false := by simp
    rw [ea, ed]
    simp only [Datum.quotient]
    rw [if_neg (by decide), log2_norm h0 hl, l52]
    simp only [show 54 + 52 - 52 = 54 by decide, Nat.shiftLeft_eq]
    have e1 : m * 2 ^ (52 - m.log2) * 2 ^ 54 = m * 2 ^ (52 - m.log2) * 4 * 2 ^ 52 := by
      rw [Nat.mul_assoc (m * 2 ^ (52 - m.log2)) 4, show 4 * 2 ^ 52 = 2 ^ 54 by decide]
    rw [e1, Nat.mul_div_cancel _ (by decide), Nat.mul_mod_left]
    simp only [Option.map_some, bne_self_eq_false, Bool.toNat_false, Nat.add_zero]
    have e2 : 2 * (m * 2 ^ (52 - m.log2) * 4) = m * 2 ^ (55 - m.log2) := by
      rw [show 55 - m.log2 = (52 - m.log2) + 3 by omega, Nat.pow_add]
      rw [← Nat.mul_assoc m]
      generalize m * 2 ^ (52 - m.log2) = x
      have : (2 : Nat) ^ 3 = 8 := by decide
      omega
    rw [e2]
    show some (double.nearest _ _ _) = _
    have e3 : ((m.log2 : Int) - 52 - 1 - ((54 : Nat) : Int) - 1) = -53 - ((55 - m.log2 : Nat) : Int) := by omega
    rw [e3]
    have ne := nearest_exact false m (55 - m.log2) (-53) h0 hl (by omega) (by omega)
    rw [ne]
    unfold fq
    rw [if_neg hm, show (-53 + (m.log2 : Int) + 1022).toNat = m.log2 + 969 by omega]

theorem fq_mul (m : Nat) (h : m < 2 ^ 53) : floatBits .mul .f64 (fq m) t53 = some (fl (m : Int)) := by
  obtain ⟨k, hk⟩ := read_fq m h
  show ((double.read (fq m)).product (double.read t53)).map double.write = _
  rw [hk, read_t53]
  simp only [Datum.product, Option.map_some]
  show some (double.nearest _ _ _) = _
  congr 1
  rw [show (false ^^ false) = false from rfl, Nat.mul_assoc, ← Nat.pow_add, show -((53 + k : Nat) : Int) + 1 = -((k + 52 : Nat) : Int) by omega, fl_eq, show decide ((m : Int) < 0) = false by simp, show ((m : Int)).natAbs = m by omega]
  by_cases hm : m = 0
  · subst hm
    simp [nearest_zero]
  · exact word_of (k + 52) (by omega) h

theorem fq_self (m : Nat) (h : m < 2 ^ 53) : double.order (fq m) (fq m) = some .eq := by
  obtain ⟨k, hk⟩ := read_fq m h
  unfold Format.order
  rw [hk]
  simp [Datum.order, compare, compareOfLessAndEq]

theorem cmp_nat (x : Nat) : (some (compare (x : Int) ((0 : Nat) : Int)) == some Ordering.lt) = false := by
  have h : ¬ (x : Int) < ((0 : Nat) : Int) := by omega
  unfold compare instOrdInt
  simp only [compareOfLessAndEq, if_neg h]
  split <;> rfl
theorem cmp_lt' {x y : Int} (h : x < y) : compare x y = .lt := by
  unfold compare instOrdInt
  simp only [compareOfLessAndEq, if_pos h]
theorem fq_ge0 (m : Nat) (h : m < 2 ^ 53) : (FloatKind.f64.format.order (fq m) 0 == some .lt) = false := by
  obtain ⟨k, hk⟩ := read_fq m h
  show (double.order _ _ == _) = _
  unfold Format.order
  rw [hk, read_0]
  simp only [Datum.order, signed, Bool.false_eq_true, if_false, Nat.zero_shiftLeft]
  generalize (m * 2 ^ k) <<< _ = x
  exact cmp_nat x

theorem fq_lt1 (m : Nat) (h : m < 2 ^ 53) : FloatKind.f64.format.order (fq m) 4607182418800017408 = some .lt := by
  obtain ⟨k, hk⟩ := read_fq m h
  show double.order _ _ = _
  unfold Format.order
  rw [hk, read_1]
  have hb : min (-((53 + k : Nat) : Int)) (-52) = -((53 + k : Nat) : Int) := by omega
  have e1 : (-((53 + k : Nat) : Int) - -((53 + k : Nat) : Int)).toNat = 0 := by omega
  have e2 : ((-52 : Int) - -((53 + k : Nat) : Int)).toNat = 1 + k := by omega
  simp only [Datum.order, signed, Bool.false_eq_true, if_false, hb, e1, e2, Nat.shiftLeft_zero, Nat.shiftLeft_eq]
  have hlt : m * 2 ^ k < 2 ^ 52 * 2 ^ (1 + k) := by
    rw [Nat.pow_add, ← Nat.mul_assoc]
    exact Nat.mul_lt_mul_of_pos_right (by omega) (Nat.two_pow_pos k)
  have : ((m * 2 ^ k : Nat) : Int) < ((2 ^ 52 * 2 ^ (1 + k) : Nat) : Int) := by exact_mod_cast hlt
  rw [Nat.pow_zero, Nat.mul_one, cmp_lt' this]

/-- two small whole numbers with one word are one -/
theorem fl_inj {a b : Int} (ha : Small a) (hb : Small b) (h : fl a = fl b) : a = b := by
  have h1 := fl_order a a ha ha
  have h2 := fl_order a b ha hb
  rw [← h, h1] at h2
  have h3 := Option.some.inj h2
  rcases Int.lt_trichotomy a b with g | g | g
  · simp [compare, compareOfLessAndEq, g] at h3
  · exact g
  · simp [compare, compareOfLessAndEq, show ¬ a < b by omega, show a ≠ b by omega] at h3

theorem fl_lt64 (a : Int) : fl a < 18446744073709551616 := by
  have hi : double.infRung = 9218868437227405312 := by decide
  have hs : double.signWeight = 9223372036854775808 := by decide
  have hw : ∀ (n : Bool) (r : Nat), r ≤ 9218868437227405312 → double.word n r < 18446744073709551616 := by
    intro n r h
    unfold Format.word
    rw [hs]
    split <;> omega
  rw [fl_eq]
  unfold Format.nearest
  split
  · exact hw _ _ (by omega)
  · refine hw _ _ ?_
    rw [hi]
    exact Nat.min_le_right _ _

/-- a whole number's word is its own whole part -/
theorem fl_floor (a : Int) (h : Small a) : ∃ s m i, FloatKind.f64.decode (fl a) = .number s m i ∧ FloatKind.f64.encode ((Datum.number s m i).integral .down) = fl a := by
  obtain ⟨q, hq0, hq⟩ := read_fl a h
  refine ⟨_, _, _, hq, ?_⟩
  simp only [Datum.integral]
  have e1 : (-(q : Int)).toNat = 0 := by omega
  have e2 : (-(-(q : Int))).toNat = q := by omega
  rw [e1, e2, Nat.shiftLeft_zero]
  have hc : Toward.down.cut (decide (a < 0)) (a.natAbs * 2 ^ q) q = a.natAbs := by
    by_cases hz : a.natAbs = 0
    · rw [hz, Nat.zero_mul]
      unfold Toward.cut
      simp [Nat.shiftLeft_eq]
    · apply cut_exact
      rw [log2_mul_pow _ _ (by omega)]
      omega
  rw [hc]
  rfl
theorem fl_eq_self (a : Int) (h : Small a) : (FloatKind.f64.format.order (fl a) (fl a) != some .eq) = false := by
  show (double.order _ _ != _) = _
  rw [fl_order a a h h]
  simp [compare, compareOfLessAndEq]

end Go.Proofs.Ytpmigcbckpcjgaa.fl
