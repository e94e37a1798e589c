/- The float that a whole number below 2^33 divided by 16777199 is rounded to, and its floor: the whole quotient, exactly. Plain arithmetic: no program is named here. -/
import Derived.Test.YtpmigcbckpcjgaaFloat
namespace Go.Proofs.Ytpmigcbckpcjgaa.fl
open Ieee

theorem cut_down (neg : Bool) (n drop : Nat) : Toward.down.cut neg n drop = n / 2 ^ drop + (neg && n % 2 ^ drop != 0).toNat := by
  unfold Toward.cut
  simp only [Nat.shiftLeft_eq, Nat.one_mul]
  by_cases h : drop ≤ n.log2 + 2
  · rw [Nat.min_eq_left h]
  · rw [Nat.min_eq_right (by omega)]
    have b : n < 2 ^ (n.log2 + 1) := Nat.lt_log2_self
    have b1 : 2 ^ (n.log2 + 1) ≤ 2 ^ (n.log2 + 2) := Nat.pow_le_pow_right (by omega) (by omega)
    have b2 : 2 ^ (n.log2 + 1) ≤ 2 ^ drop := Nat.pow_le_pow_right (by omega) (by omega)
    rw [Nat.div_eq_of_lt (by omega), Nat.mod_eq_of_lt (by omega), Nat.div_eq_of_lt (by omega), Nat.mod_eq_of_lt (by omega)]

def magOf (z W : Nat) : Nat := 2 * (z * W / 16777199) + (z * W % 16777199 != 0).toNat

theorem sticky_le (b : Bool) : b.toNat ≤ 1 := by cases b <;> decide
theorem sticky_zero (n : Nat) : (n != 0).toNat = 0 ↔ n = 0 := by
  by_cases h : n = 0 <;> simp [h]

theorem core (L z : Nat) (h1 : 2 ^ L ≤ z) (h2 : z < 2 ^ (L + 1)) (hl : L ≤ 32) : 2 ^ 54 ≤ magOf z (2 ^ (77 - L)) ∧ magOf z (2 ^ (77 - L)) < 2 ^ 56 := by
  have a1 : 2 ^ 77 ≤ z * 2 ^ (77 - L) := by
    have := Nat.mul_le_mul_right (2 ^ (77 - L)) h1
    rwa [← Nat.pow_add, show L + (77 - L) = 77 by omega] at this
  have a2 : z * 2 ^ (77 - L) < 2 ^ 78 := by
    have := Nat.mul_lt_mul_of_pos_right h2 (Nat.two_pow_pos (77 - L))
    rwa [← Nat.pow_add, show L + 1 + (77 - L) = 78 by omega] at this
  unfold magOf
  generalize z * 2 ^ (77 - L) = T at *
  have hs := sticky_le (T % 16777199 != 0)
  generalize (T % 16777199 != 0).toNat = s at *
  simp only [Nat.reducePow] at *
  omega

theorem steps (W z d up : Nat) (hW : 2 ^ 45 ≤ W) (hd : d = 4 ∨ d = 8) (hdW : d ∣ W) (hup : up ≤ 1) (hup0 : magOf z W % d = 0 → up = 0) :
    (magOf z W / d + up) / (2 * W / d) = z / 16777199 ∧ ((magOf z W / d + up) % (2 * W / d) = 0 ↔ z % 16777199 = 0) := by
  obtain ⟨V, rfl⟩ := hdW
  have hV : 2 ^ 42 ≤ V := by simp only [Nat.reducePow] at *; rcases hd with rfl | rfl <;> omega
  have e1 : 2 * (d * V) / d = 2 * V := by
    rw [Nat.mul_left_comm]; exact Nat.mul_div_cancel_left _ (by omega)
  rw [e1]
  -- z = q P + r
  obtain ⟨q, r, hz, hr, hq⟩ : ∃ q r, z = 16777199 * q + r ∧ r < 16777199 ∧ q = z / 16777199 := ⟨z / 16777199, z % 16777199, by omega, by omega, rfl⟩
  have hrz : z % 16777199 = r := by omega
  rw [hrz, ← hq]
  -- z W / P = q W + (r W) / P
  have e2 : z * (d * V) / 16777199 = q * (d * V) + r * (d * V) / 16777199 := by
    rw [hz, Nat.add_mul, Nat.mul_assoc, Nat.mul_add_div (by omega)]
  have e3 : z * (d * V) % 16777199 = r * (d * V) % 16777199 := by
    rw [hz, Nat.add_mul, Nat.mul_assoc, Nat.mul_add_mod]
  have e4 : magOf z (d * V) = d * (q * (2 * V)) + magOf r (d * V) := by
    unfold magOf
    rw [e2, e3, Nat.mul_add]
    have : 2 * (q * (d * V)) = d * (q * (2 * V)) := by
      ac_rfl
    omega
  have e5 : magOf z (d * V) / d = q * (2 * V) + magOf r (d * V) / d := by
    rw [e4, Nat.mul_add_div (by omega)]
  have e6 : magOf z (d * V) % d = magOf r (d * V) % d := by
    rw [e4, Nat.mul_add_mod]
  rw [e6] at hup0
  rw [e5]
  -- the part below one
  have low : magOf r (d * V) / d + up < 2 * V ∧ (magOf r (d * V) / d + up = 0 ↔ r = 0) := by
    by_cases h0 : r = 0
    · subst h0
      have : magOf 0 (d * V) = 0 := by simp [magOf]
      rw [this] at hup0 ⊢
      have := hup0 (by simp)
      subst this
      simp
      simp only [Nat.reducePow] at hV
      omega
    · have m1 : r * (d * V) ≤ 16777198 * (d * V) := Nat.mul_le_mul_right _ (by omega)
      have m2 : 1 * (d * V) ≤ r * (d * V) := Nat.mul_le_mul_right _ (by omega)
      unfold magOf at hup0 ⊢
      have hs := sticky_le (r * (d * V) % 16777199 != 0)
      generalize (r * (d * V) % 16777199 != 0).toNat = s at *
      generalize r * (d * V) = T at *
      simp only [Nat.reducePow] at hV
      clear e1 e2 e3 e4 e5 e6
      rcases hd with rfl | rfl
      · refine ⟨by omega, by omega⟩
      · refine ⟨by omega, by omega⟩
  have hV0 : 0 < 2 * V := by have := Nat.two_pow_pos 42; omega
  rw [Nat.add_assoc, Nat.mul_comm q (2 * V), Nat.mul_add_div hV0, Nat.mul_add_mod, Nat.div_eq_of_lt low.1, Nat.mod_eq_of_lt low.1]
  exact ⟨by omega, low.2⟩

theorem log2_norm {n : Nat} (h0 : 0 < n) (hl : n.log2 ≤ 52) : (n * 2 ^ (52 - n.log2)).log2 = 52 := by
  rw [log2_mul_pow _ _ h0]; omega

theorem read_nz (z : Int) (h0 : z ≠ 0) (h : Small z) : double.read (fl z) = .number (decide (z < 0)) (z.natAbs * 2 ^ (52 - z.natAbs.log2)) ((z.natAbs.log2 : Int) - 52) := by
  unfold Small at h
  have h0 : 0 < z.natAbs := by omega
  have hl := small_log h0 h
  have a := nearest_exact (decide (z < 0)) z.natAbs 0 0 h0 hl (by omega) (by omega)
  simp only [Nat.pow_zero, Nat.mul_one, Int.natCast_zero, Int.sub_zero, Int.zero_add] at a
  have nb := norm_bounds z.natAbs h0 hl
  have e : (((z.natAbs.log2 : Int) + 1022).toNat) ≤ 1945 := by omega
  have e2 : (-1074 + (((z.natAbs.log2 : Int) + 1022).toNat : Nat) : Int) = (z.natAbs.log2 : Int) - 52 := by omega
  rw [fl_eq, a, read_word _ _ _ nb.1 nb.2 e, e2]

def pr : Int := 16777199
theorem read_pr : double.read (fl pr) = .number false (16777199 * 2 ^ 29) (-29) := by decide +kernel
theorem log2_pr : (16777199 * 2 ^ 29).log2 = 52 := by decide +kernel

theorem quo_datum (z : Int) (h0 : z ≠ 0) (h : z.natAbs < 2 ^ 33) :
    (double.read (fl z)).quotient 54 (double.read (fl pr)) = some (.number (decide (z < 0)) (magOf z.natAbs (2 ^ (77 - z.natAbs.log2))) ((z.natAbs.log2 : Int) - 78)) := by
  have hs : Small z := Nat.lt_trans h (by decide)
  have hn : 0 < z.natAbs := by omega
  have hl : z.natAbs.log2 ≤ 32 := by have := (Nat.log2_lt (n := z.natAbs) (k := 33) (by omega)).2 h; omega
  rw [read_nz z h0 hs, read_pr]
  simp only [Datum.quotient]
  rw [if_neg (by decide), log2_norm hn (by omega), log2_pr]
  simp only [show 54 + 52 - 52 = 54 by decide, Nat.shiftLeft_eq]
  have e1 : z.natAbs * 2 ^ (52 - z.natAbs.log2) * 2 ^ 54 = z.natAbs * 2 ^ (77 - z.natAbs.log2) * 2 ^ 29 := by
    rw [Nat.mul_assoc, ← Nat.pow_add, Nat.mul_assoc, ← Nat.pow_add]
    congr 2; omega
  rw [e1, Nat.mul_div_mul_right _ _ (by decide), Nat.mul_mod_mul_right]
  have e2 : ∀ x : Nat, ((x * 2 ^ 29 != 0) = (x != 0)) := by
    intro x
    by_cases hx : x = 0
    · subst hx; rfl
    · have : x * 2 ^ 29 ≠ 0 := Nat.mul_ne_zero hx (by decide)
      rw [bne_iff_ne.2 this, bne_iff_ne.2 hx]
  rw [e2]
  have e3 : ((z.natAbs.log2 : Int) - 52 - -29 - ((54 : Nat) : Int) - 1) = (z.natAbs.log2 : Int) - 78 := by omega
  rw [e3]
  simp [magOf]

/-- rounding of a number of 55 or 56 digits to 53 -/
theorem nearest_round (neg : Bool) (mag : Nat) (e : Int) (d : Nat) (hd : d = 2 ∨ d = 3) (h1 : 2 ^ (52 + d) ≤ mag) (h2 : mag < 2 ^ (53 + d)) (e1 : -500 ≤ e) (e2 : e ≤ 500) :
    ∃ up : Nat, up ≤ 1 ∧ (mag % 2 ^ d = 0 → up = 0) ∧ 2 ^ 52 ≤ mag / 2 ^ d + up ∧ mag / 2 ^ d + up ≤ 2 ^ 53 ∧
      double.nearest neg mag e = double.word neg ((e + d + 1074).toNat * 2 ^ 52 + (mag / 2 ^ d + up)) := by
  have hm : mag ≠ 0 := by have := Nat.two_pow_pos (52 + d); omega
  have hL : mag.log2 = 52 + d := (Nat.log2_eq_iff hm).2 ⟨h1, by rwa [show 52 + d + 1 = 53 + d by omega]⟩
  refine ⟨(decide (2 ^ d < 2 * (mag % 2 ^ d)) || (2 ^ d == 2 * (mag % 2 ^ d) && mag / 2 ^ d % 2 == 1)).toNat, sticky_le _, ?_, ?_, ?_, ?_⟩
  · intro h
    rw [h]
    have := Nat.two_pow_pos d
    simp <;> omega
  · rcases hd with rfl | rfl
    · simp only [Nat.reducePow, Nat.reduceAdd] at *; omega
    · simp only [Nat.reducePow, Nat.reduceAdd] at *; omega
  · have := sticky_le (decide (2 ^ d < 2 * (mag % 2 ^ d)) || (2 ^ d == 2 * (mag % 2 ^ d) && mag / 2 ^ d % 2 == 1))
    generalize (decide (2 ^ d < 2 * (mag % 2 ^ d)) || (2 ^ d == 2 * (mag % 2 ^ d) && mag / 2 ^ d % 2 == 1)).toNat = s at *
    rcases hd with rfl | rfl
    · simp only [Nat.reducePow, Nat.reduceAdd] at *; omega
    · simp only [Nat.reducePow, Nat.reduceAdd] at *; omega
  · unfold Format.nearest
    rw [if_neg hm]
    have hlast : max (e + (mag.log2 : Nat) - (double.fractionBits : Nat)) double.leastPlace = e + d := by
      rw [hL]
      simp only [double, Format.leastPlace]
      simp
      omega
    simp only [hlast]
    have t1 : (e - (e + (d : Int))).toNat = 0 := by omega
    have t2 : (e + (d : Int) - e).toNat = d := by omega
    rw [t1, t2, Nat.shiftLeft_zero]
    have hcut : Toward.even.cut neg mag d = mag / 2 ^ d + (decide (2 ^ d < 2 * (mag % 2 ^ d)) || (2 ^ d == 2 * (mag % 2 ^ d) && mag / 2 ^ d % 2 == 1)).toNat := by
      unfold Toward.cut
      simp only [Nat.shiftLeft_eq, Nat.one_mul]
      rw [Nat.min_eq_left (by omega)]
    rw [hcut]
    have hs := sticky_le (decide (2 ^ d < 2 * (mag % 2 ^ d)) || (2 ^ d == 2 * (mag % 2 ^ d) && mag / 2 ^ d % 2 == 1))
    generalize (decide (2 ^ d < 2 * (mag % 2 ^ d)) || (2 ^ d == 2 * (mag % 2 ^ d) && mag / 2 ^ d % 2 == 1)).toNat = s at *
    have hlp : double.leastPlace = -1074 := by decide
    have hb : double.binade = 2 ^ 52 := rfl
    have hi : double.infRung = 2047 * 2 ^ 52 := by decide
    rw [hlp, hb, hi]
    have t3 : (e + (d : Int) - -1074).toNat = (e + d + 1074).toNat := by omega
    have t4 : (e + (d : Int) + 1074).toNat ≤ 1577 := by omega
    have hk : mag / 2 ^ d + s ≤ 2 ^ 53 := by
      rcases hd with rfl | rfl
      · simp only [Nat.reducePow, Nat.reduceAdd] at *; omega
      · simp only [Nat.reducePow, Nat.reduceAdd] at *; omega
    rw [t3]
    congr 1
    generalize mag / 2 ^ d + s = X at *
    generalize (e + (d : Int) + 1074).toNat = E at *
    have q1 : E * 2 ^ 52 ≤ 1577 * 2 ^ 52 := Nat.mul_le_mul_right _ t4
    have q2 : 1577 * 2 ^ 52 + 2 ^ 53 ≤ 2047 * 2 ^ 52 := by decide
    exact Nat.min_eq_left (Nat.le_trans (Nat.add_le_add q1 hk) q2)

/-- the carry: the word is read as the same number -/
theorem read_carry (neg : Bool) (E X : Nat) (h1 : 2 ^ 52 ≤ X) (h2 : X ≤ 2 ^ 53) (hE : E ≤ 1073) :
    ∃ m drop : Nat, double.read (double.word neg (E * 2 ^ 52 + X)) = .number neg m (-(drop : Int)) ∧
      0 < m ∧ m / 2 ^ drop = X / 2 ^ (1074 - E) ∧ (m % 2 ^ drop = 0 ↔ X % 2 ^ (1074 - E) = 0) := by
  by_cases h : X < 2 ^ 53
  · refine ⟨X, 1074 - E, ?_, ?_, rfl, Iff.rfl⟩
    · have e1 : (-1074 + (E : Nat) : Int) = -((1074 - E : Nat) : Int) := by omega
      rw [read_word neg E X h1 h (by omega), e1]
    · have := Nat.two_pow_pos 52; omega
  · obtain rfl : X = 2 ^ 53 := by omega
    have e0 : E * 2 ^ 52 + 2 ^ 53 = (E + 1) * 2 ^ 52 + 2 ^ 52 := by omega
    have hdr : 1074 - E = 1073 - E + 1 := by omega
    refine ⟨2 ^ 52, 1073 - E, ?_, by decide, ?_, ?_⟩
    · have e1 : (-1074 + (E + 1 : Nat) : Int) = -((1073 - E : Nat) : Int) := by omega
      rw [e0, read_word neg (E + 1) (2 ^ 52) (Nat.le_refl _) (by decide) (by omega), e1]
    · rw [hdr, Nat.pow_succ 2 (1073 - E), show (2 : Nat) ^ 53 = 2 ^ 52 * 2 by decide, Nat.mul_div_mul_right _ _ (by decide)]
    · rw [hdr, Nat.pow_succ 2 (1073 - E), show (2 : Nat) ^ 53 = 2 ^ 52 * 2 by decide, Nat.mul_mod_mul_right]
      generalize (2 : Nat) ^ 52 % 2 ^ (1073 - E) = r
      omega

theorem floor_val (z : Int) (Q : Nat) (r : Bool) (hQ : Q = z.natAbs / 16777199) (hr : r = true ↔ z.natAbs % 16777199 ≠ 0) : double.write (.number (decide (z < 0)) (Q + (decide (z < 0) && r).toNat) 0) = fl (z / pr) := by
  unfold pr
  rw [fl_eq]
  show double.nearest _ _ _ = _
  by_cases hz : z < 0
  · have e1 : z / 16777199 = -((Q + r.toNat : Nat) : Int) := by
      by_cases hr' : r = true
      · have := hr.1 hr'
        subst hr'
        simp; omega
      · have h2 := mt hr.2 hr'
        simp at hr'
        subst hr'
        simp at h2 ⊢; omega
    have hne : Q + r.toNat ≠ 0 := by
      intro h
      by_cases hr' : r = true
      · subst hr'; simp at h
      · have h2 := mt hr.2 hr'
        simp at hr' h2
        subst hr'
        simp at h; omega
    rw [e1]
    simp only [hz, decide_true, Bool.true_and, Int.natAbs_neg, Int.natAbs_natCast]
    congr 1
    simp; omega
  · have e1 : z / 16777199 = (Q : Int) := by omega
    have e2 : decide (((Q : Nat) : Int) < 0) = false := by simp
    rw [e1, e2]
    simp [hz]

/-- x / 16777199 rounded to a float, and the floor of that: the whole quotient. -/
theorem floor_quo (z : Int) (h : z.natAbs < 2 ^ 33) :
    ∃ b s m i, floatBits .quo .f64 (fl z) (fl pr) = some b ∧ FloatKind.f64.decode b = .number s m i ∧ FloatKind.f64.encode ((Datum.number s m i).integral .down) = fl (z / pr) := by
  by_cases h0 : z = 0
  · subst h0
    refine ⟨0, false, 0, -1074, by decide +kernel, by decide +kernel, by decide +kernel⟩
  · have hq := quo_datum z h0 h
    have hn : 0 < z.natAbs := by omega
    have hl : z.natAbs.log2 ≤ 32 := by have := (Nat.log2_lt (n := z.natAbs) (k := 33) (by omega)).2 h; omega
    have hc := core z.natAbs.log2 z.natAbs (Nat.log2_self_le (by omega)) Nat.lt_log2_self hl
    have hb : floatBits .quo .f64 (fl z) (fl pr) = some (double.nearest (decide (z < 0)) (magOf z.natAbs (2 ^ (77 - z.natAbs.log2))) ((z.natAbs.log2 : Int) - 78)) := by
      show ((double.read (fl z)).quotient 54 (double.read (fl pr))).map double.write = _
      rw [hq]; rfl
    have fin : ∀ d : Nat, (d = 2 ∨ d = 3) → 2 ^ (52 + d) ≤ magOf z.natAbs (2 ^ (77 - z.natAbs.log2)) → magOf z.natAbs (2 ^ (77 - z.natAbs.log2)) < 2 ^ (53 + d) →
        ∃ b s m i, floatBits .quo .f64 (fl z) (fl pr) = some b ∧ FloatKind.f64.decode b = .number s m i ∧ FloatKind.f64.encode ((Datum.number s m i).integral .down) = fl (z / pr) := by
      intro d hd g1 g2
      obtain ⟨up, u1, u2, u3, u4, u5⟩ := nearest_round (decide (z < 0)) _ ((z.natAbs.log2 : Int) - 78) d hd g1 g2 (by omega) (by omega)
      rw [u5] at hb
      obtain ⟨m, drop, hr, -, hd1, hd2⟩ := read_carry (decide (z < 0)) ((z.natAbs.log2 : Int) - 78 + d + 1074).toNat _ u3 u4 (by omega)
      refine ⟨_, _, m, -(drop : Int), hb, hr, ?_⟩
      have hW : (2 : Nat) ^ 45 ≤ 2 ^ (77 - z.natAbs.log2) := Nat.pow_le_pow_right (by omega) (by omega)
      have hdW : 2 ^ d ∣ 2 ^ (77 - z.natAbs.log2) := Nat.pow_dvd_pow 2 (by omega)
      have st := steps (2 ^ (77 - z.natAbs.log2)) z.natAbs (2 ^ d) up hW (by rcases hd with rfl | rfl <;> simp) hdW u1 u2
      have e1 : 1074 - ((z.natAbs.log2 : Int) - 78 + d + 1074).toNat = 78 - z.natAbs.log2 - d := by omega
      have e2 : 2 * 2 ^ (77 - z.natAbs.log2) / 2 ^ d = 2 ^ (78 - z.natAbs.log2 - d) := by
        rw [Nat.mul_comm, ← Nat.pow_succ, show (77 - z.natAbs.log2).succ = 78 - z.natAbs.log2 - d + d by omega, Nat.pow_add]
        exact Nat.mul_div_cancel _ (Nat.two_pow_pos d)
      rw [e1] at hd1 hd2
      rw [e2] at st
      rw [st.1] at hd1
      rw [st.2] at hd2
      simp only [Datum.integral]
      rw [show (-(drop : Int)).toNat = 0 by omega, show (-(-(drop : Int))).toNat = drop by omega, Nat.shiftLeft_zero, cut_down _ _ _]
      exact floor_val z _ _ hd1 (by simp [hd2])
    by_cases g : magOf z.natAbs (2 ^ (77 - z.natAbs.log2)) < 2 ^ 55
    · exact fin 2 (.inl rfl) hc.1 g
    · exact fin 3 (.inr rfl) (Nat.le_of_not_lt g) hc.2

end Go.Proofs.Ytpmigcbckpcjgaa.fl
