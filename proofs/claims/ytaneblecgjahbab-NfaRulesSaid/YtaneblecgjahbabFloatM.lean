/- What the float operations of 64 bits give on whole numbers below 2^53: the whole number itself, exactly. Plain arithmetic: no program is named here. The float that a whole number below 2^33 divided by 16777199 is rounded to, and its floor: the whole quotient, exactly. Plain arithmetic: no program is named here. The marks of whole numbers: what package mark answers of them. -/
import Derived.Laws.ComplexArith
import Derived.Test.YtaneblecgjahbabBaseM
import Derived.WalkKit
import Derived.WalkLawsBesides
import Derived.Deep.QuietTactic
import Derived.BigQuiet
import Derived.Outline
import Derived.Laws.Externs
import Derived.KernelRfl

namespace Go.Proofs.Ytaneblecgjahbab.fl
open Ieee

theorem log2_mul_pow (n k : Nat) (h : 0 < n) : (n * 2 ^ k).log2 = n.log2 + k := by
  have h0 : n ≠ 0 := by omega
  have hp : 0 < 2 ^ k := Nat.two_pow_pos k
  have hm : n * 2 ^ k ≠ 0 := Nat.mul_ne_zero h0 (by omega)
  rw [Nat.log2_eq_iff hm]
  have a := Nat.log2_self_le h0
  have b : n < 2 ^ (n.log2 + 1) := Nat.lt_log2_self
  constructor
  · rw [Nat.pow_add]; exact Nat.mul_le_mul_right _ a
  · rw [show n.log2 + k + 1 = (n.log2 + 1) + k by omega, Nat.pow_add]; exact Nat.mul_lt_mul_of_pos_right b hp

theorem cut_exact (neg : Bool) (way : Toward) (x d : Nat) (h : d ≤ (x * 2 ^ d).log2 + 2) : way.cut neg (x * 2 ^ d) d = x := by
  have hp : 0 < 2 ^ d := Nat.two_pow_pos d
  unfold Toward.cut
  simp only [Nat.min_eq_left h, Nat.shiftLeft_eq, Nat.one_mul]
  rw [Nat.mul_div_cancel _ hp, Nat.mul_mod_left]
  cases way <;> simp <;> omega

theorem min_rung {E X : Nat} (hE : E ≤ 1922) (hX : X < 2 ^ 53) : min (E * 2 ^ 52 + X) (2047 * 2 ^ 52) = E * 2 ^ 52 + X := by
  rw [Nat.min_eq_left]
  have p53 : (2 : Nat) ^ 53 = 2 * 2 ^ 52 := by decide
  have h1 : E * 2 ^ 52 ≤ 1922 * 2 ^ 52 := Nat.mul_le_mul_right _ hE
  have h3 : 1922 * 2 ^ 52 + 2 * 2 ^ 52 ≤ 2047 * 2 ^ 52 := by decide
  rw [p53] at hX
  exact Nat.le_trans (Nat.add_le_add h1 (Nat.le_of_lt hX)) h3

/-- The word of n * 2^k * 2^(e-k): n below 2^53. -/
theorem nearest_exact (neg : Bool) (n k : Nat) (e : Int) (h : 0 < n) (hl : n.log2 ≤ 52) (h1 : -1022 ≤ e + n.log2) (h2 : e + n.log2 ≤ 900) :
    double.nearest neg (n * 2 ^ k) (e - k) = double.word neg ((e + n.log2 + 1022).toNat * 2 ^ 52 + n * 2 ^ (52 - n.log2)) := by
  have hp : 0 < 2 ^ k := Nat.two_pow_pos k
  have hm : n * 2 ^ k ≠ 0 := Nat.mul_ne_zero (by omega) (by omega)
  have hL := log2_mul_pow n k h
  unfold Format.nearest
  rw [if_neg hm]
  have hlast : max (e - (k : Int) + ((n * 2 ^ k).log2 : Nat) - (double.fractionBits : Nat)) double.leastPlace = e + n.log2 - 52 := by
    rw [hL]
    simp only [double, Format.leastPlace]
    simp
    omega
  simp only [hlast]
  have key : Toward.even.cut neg ((n * 2 ^ k) <<< (e - (k : Int) - (e + n.log2 - 52)).toNat) (e + n.log2 - 52 - (e - (k : Int))).toNat = n * 2 ^ (52 - n.log2) := by
    by_cases hk : k ≤ 52 - n.log2
    · have e1 : (e - (k : Int) - (e + n.log2 - 52)).toNat = 52 - n.log2 - k := by omega
      have e2 : (e + n.log2 - 52 - (e - (k : Int))).toNat = 0 := by omega
      rw [e1, e2, Nat.shiftLeft_eq, Nat.mul_assoc, ← Nat.pow_add, show k + (52 - n.log2 - k) = 52 - n.log2 by omega]
      have := cut_exact neg .even (n * 2 ^ (52 - n.log2)) 0 (Nat.zero_le _)
      simpa using this
    · have e1 : (e - (k : Int) - (e + n.log2 - 52)).toNat = 0 := by omega
      have e2 : (e + n.log2 - 52 - (e - (k : Int))).toNat = k - (52 - n.log2) := by omega
      rw [e1, e2, Nat.shiftLeft_zero]
      have hs : n * 2 ^ k = (n * 2 ^ (52 - n.log2)) * 2 ^ (k - (52 - n.log2)) := by
        rw [Nat.mul_assoc, ← Nat.pow_add]; congr 2; omega
      rw [hs]
      apply cut_exact
      rw [← hs, hL]; omega
  rw [key]
  have hX : n * 2 ^ (52 - n.log2) < 2 ^ 53 := by
    have b : n < 2 ^ (n.log2 + 1) := Nat.lt_log2_self
    have : n * 2 ^ (52 - n.log2) < 2 ^ (n.log2 + 1) * 2 ^ (52 - n.log2) := Nat.mul_lt_mul_of_pos_right b (Nat.two_pow_pos _)
    rw [← Nat.pow_add, show n.log2 + 1 + (52 - n.log2) = 53 by omega] at this
    exact this
  have hlp : double.leastPlace = -1074 := by decide
  have hb : double.binade = 2 ^ 52 := rfl
  have hi : double.infRung = 2047 * 2 ^ 52 := by decide
  rw [hlp, hb, hi]
  have e3 : (e + (n.log2 : Int) - 52 - -1074).toNat = (e + n.log2 + 1022).toNat := by omega
  have h4 : (e + n.log2 + 1022).toNat ≤ 1922 := by omega
  rw [e3, min_rung h4 hX]

theorem norm_bounds (n : Nat) (h : 0 < n) (hl : n.log2 ≤ 52) : 2 ^ 52 ≤ n * 2 ^ (52 - n.log2) ∧ n * 2 ^ (52 - n.log2) < 2 ^ 53 := by
  have a := Nat.log2_self_le (n := n) (by omega)
  have b : n < 2 ^ (n.log2 + 1) := Nat.lt_log2_self
  constructor
  · have := Nat.mul_le_mul_right (2 ^ (52 - n.log2)) a
    rw [← Nat.pow_add, show n.log2 + (52 - n.log2) = 52 by omega] at this
    exact this
  · have : n * 2 ^ (52 - n.log2) < 2 ^ (n.log2 + 1) * 2 ^ (52 - n.log2) := Nat.mul_lt_mul_of_pos_right b (Nat.two_pow_pos _)
    rw [← Nat.pow_add, show n.log2 + 1 + (52 - n.log2) = 53 by omega] at this
    exact this

theorem read_word (neg : Bool) (E X : Nat) (h1 : 2 ^ 52 ≤ X) (h2 : X < 2 ^ 53) (hE : E ≤ 1945) : double.read (double.word neg (E * 2 ^ 52 + X)) = .number neg X (-1074 + E) := by
  have hlp : double.leastPlace = -1074 := by decide
  have hb : double.binade = 4503599627370496 := by decide
  have hi : double.infRung = 9218868437227405312 := by decide
  have hsw : double.signWeight = 9223372036854775808 := by decide
  obtain ⟨r, rfl⟩ : ∃ r, X = 4503599627370496 + r := ⟨X - 4503599627370496, by omega⟩
  have hr : r < 4503599627370496 := by omega
  have hq : (E * 2 ^ 52 + (4503599627370496 + r)) / 4503599627370496 = E + 1 := by omega
  have hmod : (E * 2 ^ 52 + (4503599627370496 + r)) % 4503599627370496 = r := by omega
  have hlt : E * 2 ^ 52 + (4503599627370496 + r) < 9218868437227405312 := by omega
  have hge : ¬ E * 2 ^ 52 + (4503599627370496 + r) < 4503599627370496 := by omega
  generalize E * 2 ^ 52 + (4503599627370496 + r) = R at *
  have hw : double.word neg R / 9223372036854775808 % 2 = (if neg then 1 else 0) ∧ double.word neg R % 9223372036854775808 = R := by
    unfold Format.word
    rw [hsw]
    cases neg
    · simp; omega
    · simp; omega
  unfold Format.read
  simp only [hlp, hb, hi, hsw, hw.1, hw.2, hlt, hge, if_true, if_false, hq, hmod]
  cases neg <;> simp

theorem read_zero (neg : Bool) : double.read (double.word neg 0) = .number neg 0 (-1074) := by
  cases neg <;> decide

/-- The word of a whole number. -/
def fl (z : Int) : Nat := floatOfInt .f64 z

theorem fl_eq (z : Int) : fl z = double.nearest (decide (z < 0)) z.natAbs 0 := rfl

def Small (z : Int) : Prop := z.natAbs < 2 ^ 53

theorem small_log {n : Nat} (h0 : 0 < n) (h : n < 2 ^ 53) : n.log2 ≤ 52 := by
  have := (Nat.log2_lt (n := n) (k := 53) (by omega)).2 h
  omega

theorem word_of {neg : Bool} {n : Nat} (k : Nat) (h : 0 < n) (hs : n < 2 ^ 53) : double.nearest neg (n * 2 ^ k) (-(k : Int)) = double.nearest neg n 0 := by
  have hl := small_log h hs
  have a := nearest_exact neg n k 0 h hl (by omega) (by omega)
  have b := nearest_exact neg n 0 0 h hl (by omega) (by omega)
  simp only [Nat.pow_zero, Nat.mul_one, Int.natCast_zero, Int.sub_zero, Int.zero_sub] at a b
  rw [a, b]

theorem nearest_zero (neg : Bool) (e : Int) : double.nearest neg 0 e = double.word neg 0 := by
  simp [Format.nearest]

/-- What a whole number's word is read as. -/
theorem read_fl (z : Int) (h : Small z) : ∃ q : Nat, q ≤ 1074 ∧ double.read (fl z) = .number (decide (z < 0)) (z.natAbs * 2 ^ q) (-(q : Int)) := by
  unfold Small at h
  by_cases hz : z = 0
  · subst hz
    refine ⟨1074, Nat.le_refl _, ?_⟩
    rw [fl_eq]
    simp only [Int.natAbs_zero, nearest_zero, read_zero, Nat.zero_mul]
    rfl
  · have h0 : 0 < z.natAbs := by omega
    have hl := small_log h0 h
    have a := nearest_exact (decide (z < 0)) z.natAbs 0 0 h0 hl (by omega) (by omega)
    simp only [Nat.pow_zero, Nat.mul_one, Int.natCast_zero, Int.sub_zero, Int.zero_add] at a
    have nb := norm_bounds z.natAbs h0 hl
    refine ⟨52 - z.natAbs.log2, by omega, ?_⟩
    have e : (((z.natAbs.log2 : Int) + 1022).toNat) ≤ 1945 := by omega
    have e2 : (-1074 + (((z.natAbs.log2 : Int) + 1022).toNat : Nat) : Int) = -((52 - z.natAbs.log2 : Nat) : Int) := by omega
    rw [fl_eq, a, read_word _ _ _ nb.1 nb.2 e, e2]

theorem signed_eq (z : Int) (q up : Nat) : signed (decide (z < 0)) (z.natAbs * 2 ^ q) up = z * (2 ^ (q + up) : Nat) := by
  unfold signed
  rw [Nat.shiftLeft_eq, Nat.mul_assoc, ← Nat.pow_add]
  by_cases h : z < 0
  · rw [if_pos (by simpa using h)]
    have e : z = -(z.natAbs : Int) := by omega
    generalize z.natAbs = n at e
    subst e
    simp [Int.neg_mul]
  · rw [if_neg (by simpa using h)]
    have e : z = (z.natAbs : Int) := by omega
    generalize z.natAbs = n at e
    subst e
    simp

theorem mul_pow_zero (z : Int) (q : Nat) : z * (2 ^ q : Nat) = 0 ↔ z = 0 := by
  have hp : 0 < 2 ^ q := Nat.two_pow_pos q
  constructor
  · intro h
    rcases Int.mul_eq_zero.1 h with h | h
    · exact h
    · omega
  · intro h; subst h; simp
theorem mul_pow_neg (z : Int) (q : Nat) : z * (2 ^ q : Nat) < 0 ↔ z < 0 := by
  have hp : 0 < 2 ^ q := Nat.two_pow_pos q
  have hp' : (0 : Int) < (2 ^ q : Nat) := by omega
  constructor
  · intro h
    by_cases hz : z < 0
    · exact hz
    · exact absurd h (Int.not_lt.2 (Int.mul_nonneg (by omega) (by omega)))
  · intro h; exact Int.mul_neg_of_neg_of_pos h hp'
theorem mul_pow_abs (z : Int) (q : Nat) : (z * (2 ^ q : Nat)).natAbs = z.natAbs * 2 ^ q := by
  rw [Int.natAbs_mul, Int.natAbs_natCast]

/-- The word of a sum's datum. -/
theorem write_sum (c : Int) (k : Nat) (hc : Small c) (neg : Bool) (h0 : neg = decide (c < 0)) : double.write (.number neg (c * (2 ^ k : Nat)).natAbs (-(k : Int))) = fl c := by
  subst h0
  show double.nearest _ _ _ = _
  rw [mul_pow_abs]
  by_cases hz : c = 0
  · subst hz; simp [nearest_zero, fl_eq]
  · rw [word_of k (by omega) hc]; rfl

theorem sum_data (a b : Int) (q r : Nat) (hc : Small (a + b)) (s t : Bool) (ms mt : Nat)
    (hs : ∀ up, signed s ms up = a * (2 ^ (q + up) : Nat)) (ht : ∀ up, signed t mt up = b * (2 ^ (r + up) : Nat)) (hz : a + b = 0 → (s && t) = false) :
    ((Datum.number s ms (-(q : Int))).sum (.number t mt (-(r : Int)))).map double.write = some (fl (a + b)) := by
  have hb : min (-(q : Int)) (-(r : Int)) = -((max q r : Nat) : Int) := by omega
  have e1 : (-(q : Int) - -((max q r : Nat) : Int)).toNat = max q r - q := by omega
  have e2 : (-(r : Int) - -((max q r : Nat) : Int)).toNat = max q r - r := by omega
  simp only [Datum.sum, hb, e1, e2, hs, ht, Option.map_some]
  rw [show q + (max q r - q) = max q r by omega, show r + (max q r - r) = max q r by omega, ← Int.add_mul]
  congr 1
  apply write_sum _ _ hc
  simp only [mul_pow_zero, mul_pow_neg]
  split
  · rename_i h
    rw [hz h, h]; rfl
  · rfl

theorem fl_add (a b : Int) (ha : Small a) (hb : Small b) (hc : Small (a + b)) : floatBits .add .f64 (fl a) (fl b) = some (fl (a + b)) := by
  obtain ⟨q, _, hq⟩ := read_fl a ha
  obtain ⟨r, _, hr⟩ := read_fl b hb
  show ((double.read (fl a)).sum (double.read (fl b))).map double.write = _
  rw [hq, hr]
  refine sum_data a b q r hc _ _ _ _ (signed_eq a q) (signed_eq b r) ?_
  intro h
  by_cases h1 : a < 0 <;> by_cases h2 : b < 0 <;> simp [h1, h2] <;> omega

theorem signed_opp (z : Int) (q up : Nat) : signed (!decide (z < 0)) (z.natAbs * 2 ^ q) up = (-z) * (2 ^ (q + up) : Nat) := by
  have h := signed_eq z q up
  rw [Int.neg_mul, ← h]
  unfold signed
  by_cases hz : z < 0 <;> simp [hz]

theorem fl_sub (a b : Int) (ha : Small a) (hb : Small b) (hc : Small (a - b)) : floatBits .sub .f64 (fl a) (fl b) = some (fl (a - b)) := by
  obtain ⟨q, _, hq⟩ := read_fl a ha
  obtain ⟨r, _, hr⟩ := read_fl b hb
  show ((double.read (fl a)).sum (double.read (fl b)).opposite).map double.write = _
  rw [hq, hr]
  rw [Int.sub_eq_add_neg] at hc ⊢
  refine sum_data a (-b) q r hc _ _ _ _ (signed_eq a q) (signed_opp b r) ?_
  intro h
  by_cases h1 : a < 0 <;> by_cases h2 : b < 0 <;> simp [h1, h2] <;> omega

theorem fl_mul (a b : Int) (ha : Small a) (hb : Small b) (hc : Small (a * b)) (hs : (decide (a < 0) ^^ decide (b < 0)) = decide (a * b < 0)) : floatBits .mul .f64 (fl a) (fl b) = some (fl (a * b)) := by
  obtain ⟨q, _, hq⟩ := read_fl a ha
  obtain ⟨r, _, hr⟩ := read_fl b hb
  show ((double.read (fl a)).product (double.read (fl b))).map double.write = _
  rw [hq, hr]
  simp only [Datum.product, Option.map_some, hs]
  congr 1
  have e : a.natAbs * 2 ^ q * (b.natAbs * 2 ^ r) = ((a * b) * (2 ^ (q + r) : Nat)).natAbs := by
    rw [mul_pow_abs, Int.natAbs_mul, Nat.pow_add]
    ac_rfl
  rw [e, show -(q : Int) + -(r : Int) = -((q + r : Nat) : Int) by omega]
  exact write_sum _ _ hc _ rfl

theorem fl_mul_nonneg (a b : Int) (h1 : 0 ≤ a) (h2 : 0 ≤ b) (ha : Small a) (hb : Small b) (hc : Small (a * b)) : floatBits .mul .f64 (fl a) (fl b) = some (fl (a * b)) := by
  refine fl_mul a b ha hb hc ?_
  have := Int.mul_nonneg h1 h2
  simp [show ¬ a < 0 by omega, show ¬ b < 0 by omega, show ¬ a * b < 0 by omega]

theorem fl_mul_neg (a b : Int) (h1 : 0 < a) (h2 : b < 0) (ha : Small a) (hb : Small b) (hc : Small (a * b)) : floatBits .mul .f64 (fl a) (fl b) = some (fl (a * b)) := by
  refine fl_mul a b ha hb hc ?_
  have := Int.mul_neg_of_pos_of_neg h1 h2
  simp [show ¬ a < 0 by omega, h2, this]

theorem fl_order (a b : Int) (ha : Small a) (hb : Small b) : double.order (fl a) (fl b) = some (compare a b) := by
  obtain ⟨q, _, hq⟩ := read_fl a ha
  obtain ⟨r, _, hr⟩ := read_fl b hb
  unfold Format.order
  rw [hq, hr]
  have hbm : min (-(q : Int)) (-(r : Int)) = -((max q r : Nat) : Int) := by omega
  have e1 : (-(q : Int) - -((max q r : Nat) : Int)).toNat = max q r - q := by omega
  have e2 : (-(r : Int) - -((max q r : Nat) : Int)).toNat = max q r - r := by omega
  simp only [Datum.order, hbm, e1, e2, signed_eq]
  rw [show q + (max q r - q) = max q r by omega, show r + (max q r - r) = max q r by omega]
  congr 1
  have hp : 0 < 2 ^ (max q r) := Nat.two_pow_pos _
  generalize hP : (2 ^ (max q r) : Nat) = p at *
  have hp' : (0 : Int) < (p : Int) := by omega
  rcases Int.lt_trichotomy a b with h | h | h
  · rw [show compare a b = .lt from by simp [compare, compareOfLessAndEq, h]]
    have := Int.mul_lt_mul_of_pos_right h hp'
    simp [compare, compareOfLessAndEq, this]
  · subst h; simp [compare, compareOfLessAndEq]
  · rw [show compare a b = .gt from by simp [compare, compareOfLessAndEq, show ¬ a < b by omega, show ¬ a = b by omega]]
    have := Int.mul_lt_mul_of_pos_right h hp'
    simp [compare, compareOfLessAndEq, show ¬ a * (p : Int) < b * p by omega, show ¬ a * (p : Int) = b * p by omega]

theorem fl_eql (a b : Int) (ha : Small a) (hb : Small b) : (FloatKind.f64.format.order (fl a) (fl b) == some .eq) = decide (a = b) := by
  show (double.order (fl a) (fl b) == some .eq) = _
  rw [fl_order a b ha hb]
  rcases Int.lt_trichotomy a b with h | h | h
  · simp [compare, compareOfLessAndEq, h, show a ≠ b by omega]
  · subst h; simp [compare, compareOfLessAndEq]
  · simp [compare, compareOfLessAndEq, show ¬ a < b by omega, show a ≠ b by omega]

/-- A whole number's word, cut to a whole number: itself. -/
theorem fl_toInt (z : Int) (h : Small z) (way : Toward) : (double.read (fl z)).toInt way = some z := by
  obtain ⟨q, hq0, hq⟩ := read_fl z h
  rw [hq]
  simp only [Datum.toInt, Datum.integral]
  have e1 : (-(q : Int)).toNat = 0 := by omega
  have e2 : (-(-(q : Int))).toNat = q := by omega
  rw [e1, e2, Nat.shiftLeft_zero]
  have hc : way.cut (decide (z < 0)) (z.natAbs * 2 ^ q) q = z.natAbs := by
    by_cases hz : z.natAbs = 0
    · rw [hz, Nat.zero_mul]
      unfold Toward.cut
      cases way <;> simp [Nat.shiftLeft_eq]
    · apply cut_exact
      rw [log2_mul_pow _ _ (by omega)]
      omega
  rw [hc]
  have := signed_eq z 0 0
  simpa using this

theorem fl_int (z : Int) (h : Small z) (k : IntKind) (h1 : k.min ≤ z) (h2 : z ≤ k.max) : floatToIntVal .f64 (fl z) k = some z := by
  unfold floatToIntVal
  rw [show FloatKind.f64.decode (fl z) = double.read (fl z) from rfl, fl_toInt z h]
  simp [h1, h2]

end Go.Proofs.Ytaneblecgjahbab.fl

namespace Go.Proofs.Ytaneblecgjahbab.fl
open Ieee

theorem cut_down (neg : Bool) (n drop : Nat) : Toward.down.cut neg n drop = n / 2 ^ drop + (neg && n % 2 ^ drop != 0).toNat := by
  unfold Toward.cut
  simp only [Nat.shiftLeft_eq, Nat.one_mul]
  by_cases h : drop ≤ n.log2 + 2
  · rw [Nat.min_eq_left h]
  · rw [Nat.min_eq_right (by omega)]
    have b : n < 2 ^ (n.log2 + 1) := Nat.lt_log2_self
    have b1 : 2 ^ (n.log2 + 1) ≤ 2 ^ (n.log2 + 2) := Nat.pow_le_pow_right (by omega) (by omega)
    have b2 : 2 ^ (n.log2 + 1) ≤ 2 ^ drop := Nat.pow_le_pow_right (by omega) (by omega)
    rw [Nat.div_eq_of_lt (by omega), Nat.mod_eq_of_lt (by omega), Nat.div_eq_of_lt (by omega), Nat.mod_eq_of_lt (by omega)]

def magOf (z W : Nat) : Nat := 2 * (z * W / 16777199) + (z * W % 16777199 != 0).toNat

theorem sticky_le (b : Bool) : b.toNat ≤ 1 := by cases b <;> decide
theorem sticky_zero (n : Nat) : (n != 0).toNat = 0 ↔ n = 0 := by
  by_cases h : n = 0 <;> simp [h]

theorem core (L z : Nat) (h1 : 2 ^ L ≤ z) (h2 : z < 2 ^ (L + 1)) (hl : L ≤ 32) : 2 ^ 54 ≤ magOf z (2 ^ (77 - L)) ∧ magOf z (2 ^ (77 - L)) < 2 ^ 56 := by
  have a1 : 2 ^ 77 ≤ z * 2 ^ (77 - L) := by
    have := Nat.mul_le_mul_right (2 ^ (77 - L)) h1
    rwa [← Nat.pow_add, show L + (77 - L) = 77 by omega] at this
  have a2 : z * 2 ^ (77 - L) < 2 ^ 78 := by
    have := Nat.mul_lt_mul_of_pos_right h2 (Nat.two_pow_pos (77 - L))
    rwa [← Nat.pow_add, show L + 1 + (77 - L) = 78 by omega] at this
  unfold magOf
  generalize z * 2 ^ (77 - L) = T at *
  have hs := sticky_le (T % 16777199 != 0)
  generalize (T % 16777199 != 0).toNat = s at *
  simp only [Nat.reducePow] at *
  omega

theorem steps (W z d up : Nat) (hW : 2 ^ 45 ≤ W) (hd : d = 4 ∨ d = 8) (hdW : d ∣ W) (hup : up ≤ 1) (hup0 : magOf z W % d = 0 → up = 0) :
    (magOf z W / d + up) / (2 * W / d) = z / 16777199 ∧ ((magOf z W / d + up) % (2 * W / d) = 0 ↔ z % 16777199 = 0) := by
  obtain ⟨V, rfl⟩ := hdW
  have hV : 2 ^ 42 ≤ V := by simp only [Nat.reducePow] at *; rcases hd with rfl | rfl <;> omega
  have e1 : 2 * (d * V) / d = 2 * V := by
    rw [Nat.mul_left_comm]; exact Nat.mul_div_cancel_left _ (by omega)
  rw [e1]
  -- z = q P + r
  obtain ⟨q, r, hz, hr, hq⟩ : ∃ q r, z = 16777199 * q + r ∧ r < 16777199 ∧ q = z / 16777199 := ⟨z / 16777199, z % 16777199, by omega, by omega, rfl⟩
  have hrz : z % 16777199 = r := by omega
  rw [hrz, ← hq]
  -- z W / P = q W + (r W) / P
  have e2 : z * (d * V) / 16777199 = q * (d * V) + r * (d * V) / 16777199 := by
    rw [hz, Nat.add_mul, Nat.mul_assoc, Nat.mul_add_div (by omega)]
  have e3 : z * (d * V) % 16777199 = r * (d * V) % 16777199 := by
    rw [hz, Nat.add_mul, Nat.mul_assoc, Nat.mul_add_mod]
  have e4 : magOf z (d * V) = d * (q * (2 * V)) + magOf r (d * V) := by
    unfold magOf
    rw [e2, e3, Nat.mul_add]
    have : 2 * (q * (d * V)) = d * (q * (2 * V)) := by
      ac_rfl
    omega
  have e5 : magOf z (d * V) / d = q * (2 * V) + magOf r (d * V) / d := by
    rw [e4, Nat.mul_add_div (by omega)]
  have e6 : magOf z (d * V) % d = magOf r (d * V) % d := by
    rw [e4, Nat.mul_add_mod]
  rw [e6] at hup0
  rw [e5]
  -- the part below one
  have low : magOf r (d * V) / d + up < 2 * V ∧ (magOf r (d * V) / d + up = 0 ↔ r = 0) := by
    by_cases h0 : r = 0
    · subst h0
      have : magOf 0 (d * V) = 0 := by simp [magOf]
      rw [this] at hup0 ⊢
      have := hup0 (by simp)
      subst this
      simp
      simp only [Nat.reducePow] at hV
      omega
    · have m1 : r * (d * V) ≤ 16777198 * (d * V) := Nat.mul_le_mul_right _ (by omega)
      have m2 : 1 * (d * V) ≤ r * (d * V) := Nat.mul_le_mul_right _ (by omega)
      unfold magOf at hup0 ⊢
      have hs := sticky_le (r * (d * V) % 16777199 != 0)
      generalize (r * (d * V) % 16777199 != 0).toNat = s at *
      generalize r * (d * V) = T at *
      simp only [Nat.reducePow] at hV
      clear e1 e2 e3 e4 e5 e6
      rcases hd with rfl | rfl
      · refine ⟨by omega, by omega⟩
      · refine ⟨by omega, by omega⟩
  have hV0 : 0 < 2 * V := by have := Nat.two_pow_pos 42; omega
  rw [Nat.add_assoc, Nat.mul_comm q (2 * V), Nat.mul_add_div hV0, Nat.mul_add_mod, Nat.div_eq_of_lt low.1, Nat.mod_eq_of_lt low.1]
  exact ⟨by omega, low.2⟩

theorem log2_norm {n : Nat} (h0 : 0 < n) (hl : n.log2 ≤ 52) : (n * 2 ^ (52 - n.log2)).log2 = 52 := by
  rw [log2_mul_pow _ _ h0]; omega

theorem read_nz (z : Int) (h0 : z ≠ 0) (h : Small z) : double.read (fl z) = .number (decide (z < 0)) (z.natAbs * 2 ^ (52 - z.natAbs.log2)) ((z.natAbs.log2 : Int) - 52) := by
  unfold Small at h
  have h0 : 0 < z.natAbs := by omega
  have hl := small_log h0 h
  have a := nearest_exact (decide (z < 0)) z.natAbs 0 0 h0 hl (by omega) (by omega)
  simp only [Nat.pow_zero, Nat.mul_one, Int.natCast_zero, Int.sub_zero, Int.zero_add] at a
  have nb := norm_bounds z.natAbs h0 hl
  have e : (((z.natAbs.log2 : Int) + 1022).toNat) ≤ 1945 := by omega
  have e2 : (-1074 + (((z.natAbs.log2 : Int) + 1022).toNat : Nat) : Int) = (z.natAbs.log2 : Int) - 52 := by omega
  rw [fl_eq, a, read_word _ _ _ nb.1 nb.2 e, e2]

def pr : Int := 16777199
theorem read_pr : double.read (fl pr) = .number false (16777199 * 2 ^ 29) (-29) := by decide +kernel
theorem log2_pr : (16777199 * 2 ^ 29).log2 = 52 := by decide +kernel

theorem quo_datum (z : Int) (h0 : z ≠ 0) (h : z.natAbs < 2 ^ 33) :
    (double.read (fl z)).quotient 54 (double.read (fl pr)) = some (.number (decide (z < 0)) (magOf z.natAbs (2 ^ (77 - z.natAbs.log2))) ((z.natAbs.log2 : Int) - 78)) := by
  have hs : Small z := Nat.lt_trans h (by decide)
  have hn : 0 < z.natAbs := by omega
  have hl : z.natAbs.log2 ≤ 32 := by have := (Nat.log2_lt (n := z.natAbs) (k := 33) (by omega)).2 h; omega
  rw [read_nz z h0 hs, read_pr]
  simp only [Datum.quotient]
  rw [if_neg (by decide), log2_norm hn (by omega), log2_pr]
  simp only [show 54 + 52 - 52 = 54 by decide, Nat.shiftLeft_eq]
  have e1 : z.natAbs * 2 ^ (52 - z.natAbs.log2) * 2 ^ 54 = z.natAbs * 2 ^ (77 - z.natAbs.log2) * 2 ^ 29 := by
    rw [Nat.mul_assoc, ← Nat.pow_add, Nat.mul_assoc, ← Nat.pow_add]
    congr 2; omega
  rw [e1, Nat.mul_div_mul_right _ _ (by decide), Nat.mul_mod_mul_right]
  have e2 : ∀ x : Nat, ((x * 2 ^ 29 != 0) = (x != 0)) := by
    intro x
    by_cases hx : x = 0
    · subst hx; rfl
    · have : x * 2 ^ 29 ≠ 0 := Nat.mul_ne_zero hx (by decide)
      rw [bne_iff_ne.2 this, bne_iff_ne.2 hx]
  rw [e2]
  have e3 : ((z.natAbs.log2 : Int) - 52 - -29 - ((54 : Nat) : Int) - 1) = (z.natAbs.log2 : Int) - 78 := by omega
  rw [e3]
  simp [magOf]

/-- rounding of a number of 55 or 56 digits to 53 -/
theorem nearest_round (neg : Bool) (mag : Nat) (e : Int) (d : Nat) (hd : d = 2 ∨ d = 3) (h1 : 2 ^ (52 + d) ≤ mag) (h2 : mag < 2 ^ (53 + d)) (e1 : -500 ≤ e) (e2 : e ≤ 500) :
    ∃ up : Nat, up ≤ 1 ∧ (mag % 2 ^ d = 0 → up = 0) ∧ 2 ^ 52 ≤ mag / 2 ^ d + up ∧ mag / 2 ^ d + up ≤ 2 ^ 53 ∧
      double.nearest neg mag e = double.word neg ((e + d + 1074).toNat * 2 ^ 52 + (mag / 2 ^ d + up)) := by
  have hm : mag ≠ 0 := by have := Nat.two_pow_pos (52 + d); omega
  have hL : mag.log2 = 52 + d := (Nat.log2_eq_iff hm).2 ⟨h1, by rwa [show 52 + d + 1 = 53 + d by omega]⟩
  refine ⟨(decide (2 ^ d < 2 * (mag % 2 ^ d)) || (2 ^ d == 2 * (mag % 2 ^ d) && mag / 2 ^ d % 2 == 1)).toNat, sticky_le _, ?_, ?_, ?_, ?_⟩
  · intro h
    rw [h]
    have := Nat.two_pow_pos d
    simp <;> omega
  · rcases hd with rfl | rfl
    · simp only [Nat.reducePow, Nat.reduceAdd] at *; omega
    · simp only [Nat.reducePow, Nat.reduceAdd] at *; omega
  · have := sticky_le (decide (2 ^ d < 2 * (mag % 2 ^ d)) || (2 ^ d == 2 * (mag % 2 ^ d) && mag / 2 ^ d % 2 == 1))
    generalize (decide (2 ^ d < 2 * (mag % 2 ^ d)) || (2 ^ d == 2 * (mag % 2 ^ d) && mag / 2 ^ d % 2 == 1)).toNat = s at *
    rcases hd with rfl | rfl
    · simp only [Nat.reducePow, Nat.reduceAdd] at *; omega
    · simp only [Nat.reducePow, Nat.reduceAdd] at *; omega
  · unfold Format.nearest
    rw [if_neg hm]
    have hlast : max (e + (mag.log2 : Nat) - (double.fractionBits : Nat)) double.leastPlace = e + d := by
      rw [hL]
      simp only [double, Format.leastPlace]
      simp
      omega
    simp only [hlast]
    have t1 : (e - (e + (d : Int))).toNat = 0 := by omega
    have t2 : (e + (d : Int) - e).toNat = d := by omega
    rw [t1, t2, Nat.shiftLeft_zero]
    have hcut : Toward.even.cut neg mag d = mag / 2 ^ d + (decide (2 ^ d < 2 * (mag % 2 ^ d)) || (2 ^ d == 2 * (mag % 2 ^ d) && mag / 2 ^ d % 2 == 1)).toNat := by
      unfold Toward.cut
      simp only [Nat.shiftLeft_eq, Nat.one_mul]
      rw [Nat.min_eq_left (by omega)]
    rw [hcut]
    have hs := sticky_le (decide (2 ^ d < 2 * (mag % 2 ^ d)) || (2 ^ d == 2 * (mag % 2 ^ d) && mag / 2 ^ d % 2 == 1))
    generalize (decide (2 ^ d < 2 * (mag % 2 ^ d)) || (2 ^ d == 2 * (mag % 2 ^ d) && mag / 2 ^ d % 2 == 1)).toNat = s at *
    have hlp : double.leastPlace = -1074 := by decide
    have hb : double.binade = 2 ^ 52 := rfl
    have hi : double.infRung = 2047 * 2 ^ 52 := by decide
    rw [hlp, hb, hi]
    have t3 : (e + (d : Int) - -1074).toNat = (e + d + 1074).toNat := by omega
    have t4 : (e + (d : Int) + 1074).toNat ≤ 1577 := by omega
    have hk : mag / 2 ^ d + s ≤ 2 ^ 53 := by
      rcases hd with rfl | rfl
      · simp only [Nat.reducePow, Nat.reduceAdd] at *; omega
      · simp only [Nat.reducePow, Nat.reduceAdd] at *; omega
    rw [t3]
    congr 1
    generalize mag / 2 ^ d + s = X at *
    generalize (e + (d : Int) + 1074).toNat = E at *
    have q1 : E * 2 ^ 52 ≤ 1577 * 2 ^ 52 := Nat.mul_le_mul_right _ t4
    have q2 : 1577 * 2 ^ 52 + 2 ^ 53 ≤ 2047 * 2 ^ 52 := by decide
    exact Nat.min_eq_left (Nat.le_trans (Nat.add_le_add q1 hk) q2)

/-- the carry: the word is read as the same number -/
theorem read_carry (neg : Bool) (E X : Nat) (h1 : 2 ^ 52 ≤ X) (h2 : X ≤ 2 ^ 53) (hE : E ≤ 1073) :
    ∃ m drop : Nat, double.read (double.word neg (E * 2 ^ 52 + X)) = .number neg m (-(drop : Int)) ∧
      0 < m ∧ m / 2 ^ drop = X / 2 ^ (1074 - E) ∧ (m % 2 ^ drop = 0 ↔ X % 2 ^ (1074 - E) = 0) := by
  by_cases h : X < 2 ^ 53
  · refine ⟨X, 1074 - E, ?_, ?_, rfl, Iff.rfl⟩
    · have e1 : (-1074 + (E : Nat) : Int) = -((1074 - E : Nat) : Int) := by omega
      rw [read_word neg E X h1 h (by omega), e1]
    · have := Nat.two_pow_pos 52; omega
  · obtain rfl : X = 2 ^ 53 := by omega
    have e0 : E * 2 ^ 52 + 2 ^ 53 = (E + 1) * 2 ^ 52 + 2 ^ 52 := by omega
    have hdr : 1074 - E = 1073 - E + 1 := by omega
    refine ⟨2 ^ 52, 1073 - E, ?_, by decide, ?_, ?_⟩
    · have e1 : (-1074 + (E + 1 : Nat) : Int) = -((1073 - E : Nat) : Int) := by omega
      rw [e0, read_word neg (E + 1) (2 ^ 52) (Nat.le_refl _) (by decide) (by omega), e1]
    · rw [hdr, Nat.pow_succ 2 (1073 - E), show (2 : Nat) ^ 53 = 2 ^ 52 * 2 by decide, Nat.mul_div_mul_right _ _ (by decide)]
    · rw [hdr, Nat.pow_succ 2 (1073 - E), show (2 : Nat) ^ 53 = 2 ^ 52 * 2 by decide, Nat.mul_mod_mul_right]
      generalize (2 : Nat) ^ 52 % 2 ^ (1073 - E) = r
      omega

theorem floor_val (z : Int) (Q : Nat) (r : Bool) (hQ : Q = z.natAbs / 16777199) (hr : r = true ↔ z.natAbs % 16777199 ≠ 0) : double.write (.number (decide (z < 0)) (Q + (decide (z < 0) && r).toNat) 0) = fl (z / pr) := by
  unfold pr
  rw [fl_eq]
  show double.nearest _ _ _ = _
  by_cases hz : z < 0
  · have e1 : z / 16777199 = -((Q + r.toNat : Nat) : Int) := by
      by_cases hr' : r = true
      · have := hr.1 hr'
        subst hr'
        simp; omega
      · have h2 := mt hr.2 hr'
        simp at hr'
        subst hr'
        simp at h2 ⊢; omega
    have hne : Q + r.toNat ≠ 0 := by
      intro h
      by_cases hr' : r = true
      · subst hr'; simp at h
      · have h2 := mt hr.2 hr'
        simp at hr' h2
        subst hr'
        simp at h; omega
    rw [e1]
    simp only [hz, decide_true, Bool.true_and, Int.natAbs_neg, Int.natAbs_natCast]
    congr 1
    simp; omega
  · have e1 : z / 16777199 = (Q : Int) := by omega
    have e2 : decide (((Q : Nat) : Int) < 0) = false := by simp
    rw [e1, e2]
    simp [hz]

/-- x / 16777199 rounded to a float, and the floor of that: the whole quotient. -/
theorem floor_quo (z : Int) (h : z.natAbs < 2 ^ 33) :
    ∃ b s m i, floatBits .quo .f64 (fl z) (fl pr) = some b ∧ FloatKind.f64.decode b = .number s m i ∧ FloatKind.f64.encode ((Datum.number s m i).integral .down) = fl (z / pr) := by
  by_cases h0 : z = 0
  · subst h0
    refine ⟨0, false, 0, -1074, by decide +kernel, by decide +kernel, by decide +kernel⟩
  · have hq := quo_datum z h0 h
    have hn : 0 < z.natAbs := by omega
    have hl : z.natAbs.log2 ≤ 32 := by have := (Nat.log2_lt (n := z.natAbs) (k := 33) (by omega)).2 h; omega
    have hc := core z.natAbs.log2 z.natAbs (Nat.log2_self_le (by omega)) Nat.lt_log2_self hl
    have hb : floatBits .quo .f64 (fl z) (fl pr) = some (double.nearest (decide (z < 0)) (magOf z.natAbs (2 ^ (77 - z.natAbs.log2))) ((z.natAbs.log2 : Int) - 78)) := by
      show ((double.read (fl z)).quotient 54 (double.read (fl pr))).map double.write = _
      rw [hq]; rfl
    have fin : ∀ d : Nat, (d = 2 ∨ d = 3) → 2 ^ (52 + d) ≤ magOf z.natAbs (2 ^ (77 - z.natAbs.log2)) → magOf z.natAbs (2 ^ (77 - z.natAbs.log2)) < 2 ^ (53 + d) →
        ∃ b s m i, floatBits .quo .f64 (fl z) (fl pr) = some b ∧ FloatKind.f64.decode b = .number s m i ∧ FloatKind.f64.encode ((Datum.number s m i).integral .down) = fl (z / pr) := by
      intro d hd g1 g2
      obtain ⟨up, u1, u2, u3, u4, u5⟩ := nearest_round (decide (z < 0)) _ ((z.natAbs.log2 : Int) - 78) d hd g1 g2 (by omega) (by omega)
      rw [u5] at hb
      obtain ⟨m, drop, hr, -, hd1, hd2⟩ := read_carry (decide (z < 0)) ((z.natAbs.log2 : Int) - 78 + d + 1074).toNat _ u3 u4 (by omega)
      refine ⟨_, _, m, -(drop : Int), hb, hr, ?_⟩
      have hW : (2 : Nat) ^ 45 ≤ 2 ^ (77 - z.natAbs.log2) := Nat.pow_le_pow_right (by omega) (by omega)
      have hdW : 2 ^ d ∣ 2 ^ (77 - z.natAbs.log2) := Nat.pow_dvd_pow 2 (by omega)
      have st := steps (2 ^ (77 - z.natAbs.log2)) z.natAbs (2 ^ d) up hW (by rcases hd with rfl | rfl <;> simp) hdW u1 u2
      have e1 : 1074 - ((z.natAbs.log2 : Int) - 78 + d + 1074).toNat = 78 - z.natAbs.log2 - d := by omega
      have e2 : 2 * 2 ^ (77 - z.natAbs.log2) / 2 ^ d = 2 ^ (78 - z.natAbs.log2 - d) := by
        rw [Nat.mul_comm, ← Nat.pow_succ, show (77 - z.natAbs.log2).succ = 78 - z.natAbs.log2 - d + d by omega, Nat.pow_add]
        exact Nat.mul_div_cancel _ (Nat.two_pow_pos d)
      rw [e1] at hd1 hd2
      rw [e2] at st
      rw [st.1] at hd1
      rw [st.2] at hd2
      simp only [Datum.integral]
      rw [show (-(drop : Int)).toNat = 0 by omega, show (-(-(drop : Int))).toNat = drop by omega, Nat.shiftLeft_zero, cut_down _ _ _]
      exact floor_val z _ _ hd1 (by simp [hd2])
    by_cases g : magOf z.natAbs (2 ^ (77 - z.natAbs.log2)) < 2 ^ 55
    · exact fin 2 (.inl rfl) hc.1 g
    · exact fin 3 (.inr rfl) (Nat.le_of_not_lt g) hc.2

end Go.Proofs.Ytaneblecgjahbab.fl

namespace Go.Proofs.Ytaneblecgjahbab.mrk
open Go.RowKit Go.Proofs.Ytaneblecgjahbab.fl Go.Proofs.Ytaneblecgjahbab.sum
set_option linter.unusedVariables false

/-- the bound of marks -/
def mw : Int := 1099511627776
theorem mw_word : fl mw = 4787326403894837248 := by decide +kernel
theorem zero_word : fl 0 = 0 := by decide +kernel
theorem one_word : fl 1 = 4607182418800017408 := by decide +kernel

/-- small enough for all that is done here -/
def Fit (a : Int) : Prop := 0 ≤ a ∧ a ≤ 2199023255552
theorem Fit.small {a : Int} (h : Fit a) : Small a := by
  unfold Fit at h; unfold Small
  have : (2 : Nat) ^ 53 = 9007199254740992 := by decide
  omega
theorem fit_mw : Fit mw := by unfold Fit mw; omega

theorem fl_bits (a : Int) (h : 0 ≤ a) : fl a < 9223372036854775808 := by
  rw [fl_eq, show decide (a < 0) = false by simpa using h]
  unfold Ieee.Format.nearest
  have hi : Ieee.double.infRung = 9218868437227405312 := by decide
  split
  · unfold Ieee.Format.word; simp
  · unfold Ieee.Format.word
    rw [hi]
    simp only [Bool.false_eq_true, if_false]
    exact Nat.lt_of_le_of_lt (Nat.min_le_right _ _) (by decide)

theorem fl_floor (a : Int) (h : Small a) : ∃ s m i, FloatKind.f64.decode (fl a) = .number s m i ∧ FloatKind.f64.encode ((Ieee.Datum.number s m i).integral .down) = fl a := by
  obtain ⟨q, hq0, hq⟩ := read_fl a h
  refine ⟨_, _, _, hq, ?_⟩
  simp only [Ieee.Datum.integral]
  have e1 : (-(q : Int)).toNat = 0 := by omega
  have e2 : (-(-(q : Int))).toNat = q := by omega
  rw [e1, e2, Nat.shiftLeft_zero]
  have hc : Ieee.Toward.down.cut (decide (a < 0)) (a.natAbs * 2 ^ q) q = a.natAbs := by
    by_cases hz : a.natAbs = 0
    · rw [hz, Nat.zero_mul]
      unfold Ieee.Toward.cut
      simp [Nat.shiftLeft_eq]
    · apply cut_exact
      rw [log2_mul_pow _ _ (by omega)]
      omega
  rw [hc]
  rfl

theorem ord_eq {a b : Int} (ha : Fit a) (hb : Fit b) : (FloatKind.f64.format.order (fl a) (fl b) == some .eq) = decide (a = b) := fl_eql a b ha.small hb.small
theorem ord_gt {a b : Int} (ha : Fit a) (hb : Fit b) : (FloatKind.f64.format.order (fl a) (fl b) == some .gt) = decide (b < a) := by
  show (Ieee.double.order (fl a) (fl b) == some .gt) = _
  rw [fl_order a b ha.small hb.small]
  rcases Int.lt_trichotomy a b with h | h | h
  · simp [compare, compareOfLessAndEq, h, show ¬ b < a by omega]
  · subst h; simp [compare, compareOfLessAndEq]
  · simp [compare, compareOfLessAndEq, h, show ¬ a < b by omega, show a ≠ b by omega]
theorem ord_lt {a b : Int} (ha : Fit a) (hb : Fit b) : (FloatKind.f64.format.order (fl a) (fl b) == some .lt) = decide (a < b) := by
  show (Ieee.double.order (fl a) (fl b) == some .lt) = _
  rw [fl_order a b ha.small hb.small]
  rcases Int.lt_trichotomy a b with h | h | h
  · simp [compare, compareOfLessAndEq, h]
  · subst h; simp [compare, compareOfLessAndEq]
  · simp [compare, compareOfLessAndEq, show ¬ a < b by omega, show a ≠ b by omega]

/-- the complex number of two whole ones -/
def C (a b : Int) : Value := .complex .f64 (fl a) (fl b)

end Go.Proofs.Ytaneblecgjahbab.mrk
