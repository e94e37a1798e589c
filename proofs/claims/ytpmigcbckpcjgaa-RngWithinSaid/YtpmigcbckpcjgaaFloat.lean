/- What the float operations of 64 bits give on whole numbers below 2^53: the whole number itself, exactly. Plain arithmetic: no program is named here. -/
import Derived.Laws.ComplexArith
namespace Go.Proofs.Ytpmigcbckpcjgaa.fl
open Ieee

theorem log2_mul_pow (n k : Nat) (h : 0 < n) : (n * 2 ^ k).log2 = n.log2 + k := by
  have h0 : n ≠ 0 := by omega
  have hp : 0 < 2 ^ k := Nat.two_pow_pos k
  have hm : n * 2 ^ k ≠ 0 := Nat.mul_ne_zero h0 (by omega)
  rw [Nat.log2_eq_iff hm]
  have a := Nat.log2_self_le h0
  have b : n < 2 ^ (n.log2 + 1) := Nat.lt_log2_self
  constructor
  · rw [Nat.pow_add]; exact Nat.mul_le_mul_right _ a
  · rw [show n.log2 + k + 1 = (n.log2 + 1) + k by omega, Nat.pow_add]; exact Nat.mul_lt_mul_of_pos_right b hp

theorem cut_exact (neg : Bool) (way : Toward) (x d : Nat) (h : d ≤ (x * 2 ^ d).log2 + 2) : way.cut neg (x * 2 ^ d) d = x := by
  have hp : 0 < 2 ^ d := Nat.two_pow_pos d
  unfold Toward.cut
  simp only [Nat.min_eq_left h, Nat.shiftLeft_eq, Nat.one_mul]
  rw [Nat.mul_div_cancel _ hp, Nat.mul_mod_left]
  cases way <;> simp <;> omega

theorem min_rung {E X : Nat} (hE : E ≤ 1922) (hX : X < 2 ^ 53) : min (E * 2 ^ 52 + X) (2047 * 2 ^ 52) = E * 2 ^ 52 + X := by
  rw [Nat.min_eq_left]
  have p53 : (2 : Nat) ^ 53 = 2 * 2 ^ 52 := by decide
  have h1 : E * 2 ^ 52 ≤ 1922 * 2 ^ 52 := Nat.mul_le_mul_right _ hE
  have h3 : 1922 * 2 ^ 52 + 2 * 2 ^ 52 ≤ 2047 * 2 ^ 52 := by decide
  rw [p53] at hX
  exact Nat.le_trans (Nat.add_le_add h1 (Nat.le_of_lt hX)) h3

/-- The word of n * 2^k * 2^(e-k): n below 2^53. -/
theorem nearest_exact (neg : Bool) (n k : Nat) (e : Int) (h : 0 < n) (hl : n.log2 ≤ 52) (h1 : -1022 ≤ e + n.log2) (h2 : e + n.log2 ≤ 900) :
    double.nearest neg (n * 2 ^ k) (e - k) = double.word neg ((e + n.log2 + 1022).toNat * 2 ^ 52 + n * 2 ^ (52 - n.log2)) := by
  have hp : 0 < 2 ^ k := Nat.two_pow_pos k
  have hm : n * 2 ^ k ≠ 0 := Nat.mul_ne_zero (by omega) (by omega)
  have hL := log2_mul_pow n k h
  unfold Format.nearest
  rw [if_neg hm]
  have hlast : max (e - (k : Int) + ((n * 2 ^ k).log2 : Nat) - (double.fractionBits : Nat)) double.leastPlace = e + n.log2 - 52 := by
    rw [hL]
    simp only [double, Format.leastPlace]
    simp
    omega
  simp only [hlast]
  have key : Toward.even.cut neg ((n * 2 ^ k) <<< (e - (k : Int) - (e + n.log2 - 52)).toNat) (e + n.log2 - 52 - (e - (k : Int))).toNat = n * 2 ^ (52 - n.log2) := by
    by_cases hk : k ≤ 52 - n.log2
    · have e1 : (e - (k : Int) - (e + n.log2 - 52)).toNat = 52 - n.log2 - k := by omega
      have e2 : (e + n.log2 - 52 - (e - (k : Int))).toNat = 0 := by omega
      rw [e1, e2, Nat.shiftLeft_eq, Nat.mul_assoc, ← Nat.pow_add, show k + (52 - n.log2 - k) = 52 - n.log2 by omega]
      have := cut_exact neg .even (n * 2 ^ (52 - n.log2)) 0 (Nat.zero_le _)
      simpa using this
    · have e1 : (e - (k : Int) - (e + n.log2 - 52)).toNat = 0 := by omega
      have e2 : (e + n.log2 - 52 - (e - (k : Int))).toNat = k - (52 - n.log2) := by omega
      rw [e1, e2, Nat.shiftLeft_zero]
      have hs : n * 2 ^ k = (n * 2 ^ (52 - n.log2)) * 2 ^ (k - (52 - n.log2)) := by
        rw [Nat.mul_assoc, ← Nat.pow_add]; congr 2; omega
      rw [hs]
      apply cut_exact
      rw [← hs, hL]; omega
  rw [key]
  have hX : n * 2 ^ (52 - n.log2) < 2 ^ 53 := by
    have b : n < 2 ^ (n.log2 + 1) := Nat.lt_log2_self
    have : n * 2 ^ (52 - n.log2) < 2 ^ (n.log2 + 1) * 2 ^ (52 - n.log2) := Nat.mul_lt_mul_of_pos_right b (Nat.two_pow_pos _)
    rw [← Nat.pow_add, show n.log2 + 1 + (52 - n.log2) = 53 by omega] at this
    exact this
  have hlp : double.leastPlace = -1074 := by decide
  have hb : double.binade = 2 ^ 52 := rfl
  have hi : double.infRung = 2047 * 2 ^ 52 := by decide
  rw [hlp, hb, hi]
  have e3 : (e + (n.log2 : Int) - 52 - -1074).toNat = (e + n.log2 + 1022).toNat := by omega
  have h4 : (e + n.log2 + 1022).toNat ≤ 1922 := by omega
  rw [e3, min_rung h4 hX]

theorem norm_bounds (n : Nat) (h : 0 < n) (hl : n.log2 ≤ 52) : 2 ^ 52 ≤ n * 2 ^ (52 - n.log2) ∧ n * 2 ^ (52 - n.log2) < 2 ^ 53 := by
  have a := Nat.log2_self_le (n := n) (by omega)
  have b : n < 2 ^ (n.log2 + 1) := Nat.lt_log2_self
  constructor
  · have := Nat.mul_le_mul_right (2 ^ (52 - n.log2)) a
    rw [← Nat.pow_add, show n.log2 + (52 - n.log2) = 52 by omega] at this
    exact this
  · have : n * 2 ^ (52 - n.log2) < 2 ^ (n.log2 + 1) * 2 ^ (52 - n.log2) := Nat.mul_lt_mul_of_pos_right b (Nat.two_pow_pos _)
    rw [← Nat.pow_add, show n.log2 + 1 + (52 - n.log2) = 53 by omega] at this
    exact this

theorem read_word (neg : Bool) (E X : Nat) (h1 : 2 ^ 52 ≤ X) (h2 : X < 2 ^ 53) (hE : E ≤ 1945) : double.read (double.word neg (E * 2 ^ 52 + X)) = .number neg X (-1074 + E) := by
  have hlp : double.leastPlace = -1074 := by decide
  have hb : double.binade = 4503599627370496 := by decide
  have hi : double.infRung = 9218868437227405312 := by decide
  have hsw : double.signWeight = 9223372036854775808 := by decide
  obtain ⟨r, rfl⟩ : ∃ r, X = 4503599627370496 + r := ⟨X - 4503599627370496, by omega⟩
  have hr : r < 4503599627370496 := by omega
  have hq : (E * 2 ^ 52 + (4503599627370496 + r)) / 4503599627370496 = E + 1 := by omega
  have hmod : (E * 2 ^ 52 + (4503599627370496 + r)) % 4503599627370496 = r := by omega
  have hlt : E * 2 ^ 52 + (4503599627370496 + r) < 9218868437227405312 := by omega
  have hge : ¬ E * 2 ^ 52 + (4503599627370496 + r) < 4503599627370496 := by omega
  generalize E * 2 ^ 52 + (4503599627370496 + r) = R at *
  have hw : double.word neg R / 9223372036854775808 % 2 = (if neg then 1 else 0) ∧ double.word neg R % 9223372036854775808 = R := by
    unfold Format.word
    rw [hsw]
    cases neg
    · simp; omega
    · simp; omega
  unfold Format.read
  simp only [hlp, hb, hi, hsw, hw.1, hw.2, hlt, hge, if_true, if_false, hq, hmod]
  cases neg <;> simp

theorem read_zero (neg : Bool) : double.read (double.word neg 0) = .number neg 0 (-1074) := by
  cases neg <;> decide

/-- The word of a whole number. -/
def fl (z : Int) : Nat := floatOfInt .f64 z

theorem fl_eq (z : Int) : fl z = double.nearest (decide (z < 0)) z.natAbs 0 := rfl

def Small (z : Int) : Prop := z.natAbs < 2 ^ 53

theorem small_log {n : Nat} (h0 : 0 < n) (h : n < 2 ^ 53) : n.log2 ≤ 52 := by
  have := (Nat.log2_lt (n := n) (k := 53) (by omega)).2 h
  omega

theorem word_of {neg : Bool} {n : Nat} (k : Nat) (h : 0 < n) (hs : n < 2 ^ 53) : double.nearest neg (n * 2 ^ k) (-(k : Int)) = double.nearest neg n 0 := by
  have hl := small_log h hs
  have a := nearest_exact neg n k 0 h hl (by omega) (by omega)
  have b := nearest_exact neg n 0 0 h hl (by omega) (by omega)
  simp only [Nat.pow_zero, Nat.mul_one, Int.natCast_zero, Int.sub_zero, Int.zero_sub] at a b
  rw [a, b]

theorem nearest_zero (neg : Bool) (e : Int) : double.nearest neg 0 e = double.word neg 0 := by
  simp [Format.nearest]

/-- What a whole number's word is read as. -/
theorem read_fl (z : Int) (h : Small z) : ∃ q : Nat, q ≤ 1074 ∧ double.read (fl z) = .number (decide (z < 0)) (z.natAbs * 2 ^ q) (-(q : Int)) := by
  unfold Small at h
  by_cases hz : z = 0
  · subst hz
    refine ⟨1074, Nat.le_refl _, ?_⟩
    rw [fl_eq]
    simp only [Int.natAbs_zero, nearest_zero, read_zero, Nat.zero_mul]
    rfl
  · have h0 : 0 < z.natAbs := by omega
    have hl := small_log h0 h
    have a := nearest_exact (decide (z < 0)) z.natAbs 0 0 h0 hl (by omega) (by omega)
    simp only [Nat.pow_zero, Nat.mul_one, Int.natCast_zero, Int.sub_zero, Int.zero_add] at a
    have nb := norm_bounds z.natAbs h0 hl
    refine ⟨52 - z.natAbs.log2, by omega, ?_⟩
    have e : (((z.natAbs.log2 : Int) + 1022).toNat) ≤ 1945 := by omega
    have e2 : (-1074 + (((z.natAbs.log2 : Int) + 1022).toNat : Nat) : Int) = -((52 - z.natAbs.log2 : Nat) : Int) := by omega
    rw [fl_eq, a, read_word _ _ _ nb.1 nb.2 e, e2]

theorem signed_eq (z : Int) (q up : Nat) : signed (decide (z < 0)) (z.natAbs * 2 ^ q) up = z * (2 ^ (q + up) : Nat) := by
  unfold signed
  rw [Nat.shiftLeft_eq, Nat.mul_assoc, ← Nat.pow_add]
  by_cases h : z < 0
  · rw [if_pos (by simpa using h)]
    have e : z = -(z.natAbs : Int) := by omega
    generalize z.natAbs = n at e
    subst e
    simp [Int.neg_mul]
  · rw [if_neg (by simpa using h)]
    have e : z = (z.natAbs : Int) := by omega
    generalize z.natAbs = n at e
    subst e
    simp

theorem mul_pow_zero (z : Int) (q : Nat) : z * (2 ^ q : Nat) = 0 ↔ z = 0 := by
  have hp : 0 < 2 ^ q := Nat.two_pow_pos q
  constructor
  · intro h
    rcases Int.mul_eq_zero.1 h with h | h
    · exact h
    · omega
  · intro h; subst h; simp
theorem mul_pow_neg (z : Int) (q : Nat) : z * (2 ^ q : Nat) < 0 ↔ z < 0 := by
  have hp : 0 < 2 ^ q := Nat.two_pow_pos q
  have hp' : (0 : Int) < (2 ^ q : Nat) := by omega
  constructor
  · intro h
    by_cases hz : z < 0
    · exact hz
    · exact absurd h (Int.not_lt.2 (Int.mul_nonneg (by omega) (by omega)))
  · intro h; exact Int.mul_neg_of_neg_of_pos h hp'
theorem mul_pow_abs (z : Int) (q : Nat) : (z * (2 ^ q : Nat)).natAbs = z.natAbs * 2 ^ q := by
  rw [Int.natAbs_mul, Int.natAbs_natCast]

/-- The word of a sum's datum. -/
theorem write_sum (c : Int) (k : Nat) (hc : Small c) (neg : Bool) (h0 : neg = decide (c < 0)) : double.write (.number neg (c * (2 ^ k : Nat)).natAbs (-(k : Int))) = fl c := by
  subst h0
  show double.nearest _ _ _ = _
  rw [mul_pow_abs]
  by_cases hz : c = 0
  · subst hz; simp [nearest_zero, fl_eq]
  · rw [word_of k (by omega) hc]; rfl

theorem sum_data (a b : Int) (q r : Nat) (hc : Small (a + b)) (s t : Bool) (ms mt : Nat)
    (hs : ∀ up, signed s ms up = a * (2 ^ (q + up) : Nat)) (ht : ∀ up, signed t mt up = b * (2 ^ (r + up) : Nat)) (hz : a + b = 0 → (s && t) = false) :
    ((Datum.number s ms (-(q : Int))).sum (.number t mt (-(r : Int)))).map double.write = some (fl (a + b)) := by
  have hb : min (-(q : Int)) (-(r : Int)) = -((max q r : Nat) : Int) := by omega
  have e1 : (-(q : Int) - -((max q r : Nat) : Int)).toNat = max q r - q := by omega
  have e2 : (-(r : Int) - -((max q r : Nat) : Int)).toNat = max q r - r := by omega
  simp only [Datum.sum, hb, e1, e2, hs, ht, Option.map_some]
  rw [show q + (max q r - q) = max q r by omega, show r + (max q r - r) = max q r by omega, ← Int.add_mul]
  congr 1
  apply write_sum _ _ hc
  simp only [mul_pow_zero, mul_pow_neg]
  split
  · rename_i h
    rw [hz h, h]; rfl
  · rfl

theorem fl_add (a b : Int) (ha : Small a) (hb : Small b) (hc : Small (a + b)) : floatBits .add .f64 (fl a) (fl b) = some (fl (a + b)) := by
  obtain ⟨q, _, hq⟩ := read_fl a ha
  obtain ⟨r, _, hr⟩ := read_fl b hb
  show ((double.read (fl a)).sum (double.read (fl b))).map double.write = _
  rw [hq, hr]
  refine sum_data a b q r hc _ _ _ _ (signed_eq a q) (signed_eq b r) ?_
  intro h
  by_cases h1 : a < 0 <;> by_cases h2 : b < 0 <;> simp [h1, h2] <;> omega

theorem signed_opp (z : Int) (q up : Nat) : signed (!decide (z < 0)) (z.natAbs * 2 ^ q) up = (-z) * (2 ^ (q + up) : Nat) := by
  have h := signed_eq z q up
  rw [Int.neg_mul, ← h]
  unfold signed
  by_cases hz : z < 0 <;> simp [hz]

theorem fl_sub (a b : Int) (ha : Small a) (hb : Small b) (hc : Small (a - b)) : floatBits .sub .f64 (fl a) (fl b) = some (fl (a - b)) := by
  obtain ⟨q, _, hq⟩ := read_fl a ha
  obtain ⟨r, _, hr⟩ := read_fl b hb
  show ((double.read (fl a)).sum (double.read (fl b)).opposite).map double.write = _
  rw [hq, hr]
  rw [Int.sub_eq_add_neg] at hc ⊢
  refine sum_data a (-b) q r hc _ _ _ _ (signed_eq a q) (signed_opp b r) ?_
  intro h
  by_cases h1 : a < 0 <;> by_cases h2 : b < 0 <;> simp [h1, h2] <;> omega

theorem fl_mul (a b : Int) (ha : Small a) (hb : Small b) (hc : Small (a * b)) (hs : (decide (a < 0) ^^ decide (b < 0)) = decide (a * b < 0)) : floatBits .mul .f64 (fl a) (fl b) = some (fl (a * b)) := by
  obtain ⟨q, _, hq⟩ := read_fl a ha
  obtain ⟨r, _, hr⟩ := read_fl b hb
  show ((double.read (fl a)).product (double.read (fl b))).map double.write = _
  rw [hq, hr]
  simp only [Datum.product, Option.map_some, hs]
  congr 1
  have e : a.natAbs * 2 ^ q * (b.natAbs * 2 ^ r) = ((a * b) * (2 ^ (q + r) : Nat)).natAbs := by
    rw [mul_pow_abs, Int.natAbs_mul, Nat.pow_add]
    ac_rfl
  rw [e, show -(q : Int) + -(r : Int) = -((q + r : Nat) : Int) by omega]
  exact write_sum _ _ hc _ rfl

theorem fl_mul_nonneg (a b : Int) (h1 : 0 ≤ a) (h2 : 0 ≤ b) (ha : Small a) (hb : Small b) (hc : Small (a * b)) : floatBits .mul .f64 (fl a) (fl b) = some (fl (a * b)) := by
  refine fl_mul a b ha hb hc ?_
  have := Int.mul_nonneg h1 h2
  simp [show ¬ a < 0 by omega, show ¬ b < 0 by omega, show ¬ a * b < 0 by omega]

theorem fl_mul_neg (a b : Int) (h1 : 0 < a) (h2 : b < 0) (ha : Small a) (hb : Small b) (hc : Small (a * b)) : floatBits .mul .f64 (fl a) (fl b) = some (fl (a * b)) := by
  refine fl_mul a b ha hb hc ?_
  have := Int.mul_neg_of_pos_of_neg h1 h2
  simp [show ¬ a < 0 by omega, h2, this]

theorem fl_order (a b : Int) (ha : Small a) (hb : Small b) : double.order (fl a) (fl b) = some (compare a b) := by
  obtain ⟨q, _, hq⟩ := read_fl a ha
  obtain ⟨r, _, hr⟩ := read_fl b hb
  unfold Format.order
  rw [hq, hr]
  have hbm : min (-(q : Int)) (-(r : Int)) = -((max q r : Nat) : Int) := by omega
  have e1 : (-(q : Int) - -((max q r : Nat) : Int)).toNat = max q r - q := by omega
  have e2 : (-(r : Int) - -((max q r : Nat) : Int)).toNat = max q r - r := by omega
  simp only [Datum.order, hbm, e1, e2, signed_eq]
  rw [show q + (max q r - q) = max q r by omega, show r + (max q r - r) = max q r by omega]
  congr 1
  have hp : 0 < 2 ^ (max q r) := Nat.two_pow_pos _
  generalize hP : (2 ^ (max q r) : Nat) = p at *
  have hp' : (0 : Int) < (p : Int) := by omega
  rcases Int.lt_trichotomy a b with h | h | h
  · rw [show compare a b = .lt from by simp [compare, compareOfLessAndEq, h]]
    have := Int.mul_lt_mul_of_pos_right h hp'
    simp [compare, compareOfLessAndEq, this]
  · subst h; simp [compare, compareOfLessAndEq]
  · rw [show compare a b = .gt from by simp [compare, compareOfLessAndEq, show ¬ a < b by omega, show ¬ a = b by omega]]
    have := Int.mul_lt_mul_of_pos_right h hp'
    simp [compare, compareOfLessAndEq, show ¬ a * (p : Int) < b * p by omega, show ¬ a * (p : Int) = b * p by omega]

theorem fl_eql (a b : Int) (ha : Small a) (hb : Small b) : (FloatKind.f64.format.order (fl a) (fl b) == some .eq) = decide (a = b) := by
  show (double.order (fl a) (fl b) == some .eq) = _
  rw [fl_order a b ha hb]
  rcases Int.lt_trichotomy a b with h | h | h
  · simp [compare, compareOfLessAndEq, h, show a ≠ b by omega]
  · subst h; simp [compare, compareOfLessAndEq]
  · simp [compare, compareOfLessAndEq, show ¬ a < b by omega, show a ≠ b by omega]

/-- A whole number's word, cut to a whole number: itself. -/
theorem fl_toInt (z : Int) (h : Small z) (way : Toward) : (double.read (fl z)).toInt way = some z := by
  obtain ⟨q, hq0, hq⟩ := read_fl z h
  rw [hq]
  simp only [Datum.toInt, Datum.integral]
  have e1 : (-(q : Int)).toNat = 0 := by omega
  have e2 : (-(-(q : Int))).toNat = q := by omega
  rw [e1, e2, Nat.shiftLeft_zero]
  have hc : way.cut (decide (z < 0)) (z.natAbs * 2 ^ q) q = z.natAbs := by
    by_cases hz : z.natAbs = 0
    · rw [hz, Nat.zero_mul]
      unfold Toward.cut
      cases way <;> simp [Nat.shiftLeft_eq]
    · apply cut_exact
      rw [log2_mul_pow _ _ (by omega)]
      omega
  rw [hc]
  have := signed_eq z 0 0
  simpa using this

theorem fl_int (z : Int) (h : Small z) (k : IntKind) (h1 : k.min ≤ z) (h2 : z ≤ k.max) : floatToIntVal .f64 (fl z) k = some z := by
  unfold floatToIntVal
  rw [show FloatKind.f64.decode (fl z) = double.read (fl z) from rfl, fl_toInt z h]
  simp [h1, h2]

end Go.Proofs.Ytpmigcbckpcjgaa.fl
