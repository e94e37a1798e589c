/- The float that a whole number below 2^33 divided by 16777199 is rounded to, and its floor: the whole quotient, exactly. Plain arithmetic: no program is named here. Sums of bytes in plain whole numbers. No program is named here. The program's sum of bytes is the sum that plain whole numbers give. The calls of package pack's Writer: what each lays. What a Writer hands out; its Text. What every statement asks first: some of chapter 1's examples. Seal and Unseal of package pack. Unseal of package pack. -/
import Derived.Test.YtpfpnlhihnfahaaDoorSplitTwoM
import Derived.Test.YtpfpnlhihnfahaaDoorBaseM
import Derived.WalkKit
import Derived.WalkLawsBesides
import Derived.Deep.QuietTactic
import Derived.BigQuiet
import Derived.Outline
import Derived.Laws.Externs
import Derived.KernelRfl
import Derived.OwnWalk
import Derived.Test.YtpfpnlhihnfahaaDoorFsPlainM
import Derived.RegionTactic
import Derived.Laws.BitsAllLaws
import Derived.IntWalk

namespace Go.Proofs.YtpfpnlhihnfahaaDoor.fl
open Ieee

theorem cut_down (neg : Bool) (n drop : Nat) : Toward.down.cut neg n drop = n / 2 ^ drop + (neg && n % 2 ^ drop != 0).toNat := by
  unfold Toward.cut
  simp only [Nat.shiftLeft_eq, Nat.one_mul]
  by_cases h : drop ≤ n.log2 + 2
  · rw [Nat.min_eq_left h]
  · rw [Nat.min_eq_right (by omega)]
    have b : n < 2 ^ (n.log2 + 1) := Nat.lt_log2_self
    have b1 : 2 ^ (n.log2 + 1) ≤ 2 ^ (n.log2 + 2) := Nat.pow_le_pow_right (by omega) (by omega)
    have b2 : 2 ^ (n.log2 + 1) ≤ 2 ^ drop := Nat.pow_le_pow_right (by omega) (by omega)
    rw [Nat.div_eq_of_lt (by omega), Nat.mod_eq_of_lt (by omega), Nat.div_eq_of_lt (by omega), Nat.mod_eq_of_lt (by omega)]

def magOf (z W : Nat) : Nat := 2 * (z * W / 16777199) + (z * W % 16777199 != 0).toNat

theorem sticky_le (b : Bool) : b.toNat ≤ 1 := by cases b <;> decide
theorem sticky_zero (n : Nat) : (n != 0).toNat = 0 ↔ n = 0 := by
  by_cases h : n = 0 <;> simp [h]

theorem core (L z : Nat) (h1 : 2 ^ L ≤ z) (h2 : z < 2 ^ (L + 1)) (hl : L ≤ 32) : 2 ^ 54 ≤ magOf z (2 ^ (77 - L)) ∧ magOf z (2 ^ (77 - L)) < 2 ^ 56 := by
  have a1 : 2 ^ 77 ≤ z * 2 ^ (77 - L) := by
    have := Nat.mul_le_mul_right (2 ^ (77 - L)) h1
    rwa [← Nat.pow_add, show L + (77 - L) = 77 by omega] at this
  have a2 : z * 2 ^ (77 - L) < 2 ^ 78 := by
    have := Nat.mul_lt_mul_of_pos_right h2 (Nat.two_pow_pos (77 - L))
    rwa [← Nat.pow_add, show L + 1 + (77 - L) = 78 by omega] at this
  unfold magOf
  generalize z * 2 ^ (77 - L) = T at *
  have hs := sticky_le (T % 16777199 != 0)
  generalize (T % 16777199 != 0).toNat = s at *
  simp only [Nat.reducePow] at *
  omega

theorem steps (W z d up : Nat) (hW : 2 ^ 45 ≤ W) (hd : d = 4 ∨ d = 8) (hdW : d ∣ W) (hup : up ≤ 1) (hup0 : magOf z W % d = 0 → up = 0) :
    (magOf z W / d + up) / (2 * W / d) = z / 16777199 ∧ ((magOf z W / d + up) % (2 * W / d) = 0 ↔ z % 16777199 = 0) := by
  obtain ⟨V, rfl⟩ := hdW
  have hV : 2 ^ 42 ≤ V := by simp only [Nat.reducePow] at *; rcases hd with rfl | rfl <;> omega
  have e1 : 2 * (d * V) / d = 2 * V := by
    rw [Nat.mul_left_comm]; exact Nat.mul_div_cancel_left _ (by omega)
  rw [e1]
  -- z = q P + r
  obtain ⟨q, r, hz, hr, hq⟩ : ∃ q r, z = 16777199 * q + r ∧ r < 16777199 ∧ q = z / 16777199 := ⟨z / 16777199, z % 16777199, by omega, by omega, rfl⟩
  have hrz : z % 16777199 = r := by omega
  rw [hrz, ← hq]
  -- z W / P = q W + (r W) / P
  have e2 : z * (d * V) / 16777199 = q * (d * V) + r * (d * V) / 16777199 := by
    rw [hz, Nat.add_mul, Nat.mul_assoc, Nat.mul_add_div (by omega)]
  have e3 : z * (d * V) % 16777199 = r * (d * V) % 16777199 := by
    rw [hz, Nat.add_mul, Nat.mul_assoc, Nat.mul_add_mod]
  have e4 : magOf z (d * V) = d * (q * (2 * V)) + magOf r (d * V) := by
    unfold magOf
    rw [e2, e3, Nat.mul_add]
    have : 2 * (q * (d * V)) = d * (q * (2 * V)) := by
      ac_rfl
    omega
  have e5 : magOf z (d * V) / d = q * (2 * V) + magOf r (d * V) / d := by
    rw [e4, Nat.mul_add_div (by omega)]
  have e6 : magOf z (d * V) % d = magOf r (d * V) % d := by
    rw [e4, Nat.mul_add_mod]
  rw [e6] at hup0
  rw [e5]
  -- the part below one
  have low : magOf r (d * V) / d + up < 2 * V ∧ (magOf r (d * V) / d + up = 0 ↔ r = 0) := by
    by_cases h0 : r = 0
    · subst h0
      have : magOf 0 (d * V) = 0 := by simp [magOf]
      rw [this] at hup0 ⊢
      have := hup0 (by simp)
      subst this
      simp
      simp only [Nat.reducePow] at hV
      omega
    · have m1 : r * (d * V) ≤ 16777198 * (d * V) := Nat.mul_le_mul_right _ (by omega)
      have m2 : 1 * (d * V) ≤ r * (d * V) := Nat.mul_le_mul_right _ (by omega)
      unfold magOf at hup0 ⊢
      have hs := sticky_le (r * (d * V) % 16777199 != 0)
      generalize (r * (d * V) % 16777199 != 0).toNat = s at *
      generalize r * (d * V) = T at *
      simp only [Nat.reducePow] at hV
      clear e1 e2 e3 e4 e5 e6
      rcases hd with rfl | rfl
      · refine ⟨by omega, by omega⟩
      · refine ⟨by omega, by omega⟩
  have hV0 : 0 < 2 * V := by have := Nat.two_pow_pos 42; omega
  rw [Nat.add_assoc, Nat.mul_comm q (2 * V), Nat.mul_add_div hV0, Nat.mul_add_mod, Nat.div_eq_of_lt low.1, Nat.mod_eq_of_lt low.1]
  exact ⟨by omega, low.2⟩

theorem log2_norm {n : Nat} (h0 : 0 < n) (hl : n.log2 ≤ 52) : (n * 2 ^ (52 - n.log2)).log2 = 52 := by
  rw [log2_mul_pow _ _ h0]; omega

theorem read_nz (z : Int) (h0 : z ≠ 0) (h : Small z) : double.read (fl z) = .number (decide (z < 0)) (z.natAbs * 2 ^ (52 - z.natAbs.log2)) ((z.natAbs.log2 : Int) - 52) := by
  unfold Small at h
  have h0 : 0 < z.natAbs := by omega
  have hl := small_log h0 h
  have a := nearest_exact (decide (z < 0)) z.natAbs 0 0 h0 hl (by omega) (by omega)
  simp only [Nat.pow_zero, Nat.mul_one, Int.natCast_zero, Int.sub_zero, Int.zero_add] at a
  have nb := norm_bounds z.natAbs h0 hl
  have e : (((z.natAbs.log2 : Int) + 1022).toNat) ≤ 1945 := by omega
  have e2 : (-1074 + (((z.natAbs.log2 : Int) + 1022).toNat : Nat) : Int) = (z.natAbs.log2 : Int) - 52 := by omega
  rw [fl_eq, a, read_word _ _ _ nb.1 nb.2 e, e2]

def pr : Int := 16777199
theorem read_pr : double.read (fl pr) = .number false (16777199 * 2 ^ 29) (-29) := by decide +kernel
theorem log2_pr : (16777199 * 2 ^ 29).log2 = 52 := by decide +kernel

theorem quo_datum (z : Int) (h0 : z ≠ 0) (h : z.natAbs < 2 ^ 33) :
    (double.read (fl z)).quotient 54 (double.read (fl pr)) = some (.number (decide (z < 0)) (magOf z.natAbs (2 ^ (77 - z.natAbs.log2))) ((z.natAbs.log2 : Int) - 78)) := by
  have hs : Small z := Nat.lt_trans h (by decide)
  have hn : 0 < z.natAbs := by omega
  have hl : z.natAbs.log2 ≤ 32 := by have := (Nat.log2_lt (n := z.natAbs) (k := 33) (by omega)).2 h; omega
  rw [read_nz z h0 hs, read_pr]
  simp only [Datum.quotient]
  rw [if_neg (by decide), log2_norm hn (by omega), log2_pr]
  simp only [show 54 + 52 - 52 = 54 by decide, Nat.shiftLeft_eq]
  have e1 : z.natAbs * 2 ^ (52 - z.natAbs.log2) * 2 ^ 54 = z.natAbs * 2 ^ (77 - z.natAbs.log2) * 2 ^ 29 := by
    rw [Nat.mul_assoc, ← Nat.pow_add, Nat.mul_assoc, ← Nat.pow_add]
    congr 2; omega
  rw [e1, Nat.mul_div_mul_right _ _ (by decide), Nat.mul_mod_mul_right]
  have e2 : ∀ x : Nat, ((x * 2 ^ 29 != 0) = (x != 0)) := by
    intro x
    by_cases hx : x = 0
    · subst hx; rfl
    · have : x * 2 ^ 29 ≠ 0 := Nat.mul_ne_zero hx (by decide)
      rw [bne_iff_ne.2 this, bne_iff_ne.2 hx]
  rw [e2]
  have e3 : ((z.natAbs.log2 : Int) - 52 - -29 - ((54 : Nat) : Int) - 1) = (z.natAbs.log2 : Int) - 78 := by omega
  rw [e3]
  simp [magOf]

/-- rounding of a number of 55 or 56 digits to 53 -/
theorem nearest_round (neg : Bool) (mag : Nat) (e : Int) (d : Nat) (hd : d = 2 ∨ d = 3) (h1 : 2 ^ (52 + d) ≤ mag) (h2 : mag < 2 ^ (53 + d)) (e1 : -500 ≤ e) (e2 : e ≤ 500) :
    ∃ up : Nat, up ≤ 1 ∧ (mag % 2 ^ d = 0 → up = 0) ∧ 2 ^ 52 ≤ mag / 2 ^ d + up ∧ mag / 2 ^ d + up ≤ 2 ^ 53 ∧
      double.nearest neg mag e = double.word neg ((e + d + 1074).toNat * 2 ^ 52 + (mag / 2 ^ d + up)) := by
  have hm : mag ≠ 0 := by have := Nat.two_pow_pos (52 + d); omega
  have hL : mag.log2 = 52 + d := (Nat.log2_eq_iff hm).2 ⟨h1, by rwa [show 52 + d + 1 = 53 + d by omega]⟩
  refine ⟨(decide (2 ^ d < 2 * (mag % 2 ^ d)) || (2 ^ d == 2 * (mag % 2 ^ d) && mag / 2 ^ d % 2 == 1)).toNat, sticky_le _, ?_, ?_, ?_, ?_⟩
  · intro h
    rw [h]
    have := Nat.two_pow_pos d
    simp <;> omega
  · rcases hd with rfl | rfl
    · simp only [Nat.reducePow, Nat.reduceAdd] at *; omega
    · simp only [Nat.reducePow, Nat.reduceAdd] at *; omega
  · have := sticky_le (decide (2 ^ d < 2 * (mag % 2 ^ d)) || (2 ^ d == 2 * (mag % 2 ^ d) && mag / 2 ^ d % 2 == 1))
    generalize (decide (2 ^ d < 2 * (mag % 2 ^ d)) || (2 ^ d == 2 * (mag % 2 ^ d) && mag / 2 ^ d % 2 == 1)).toNat = s at *
    rcases hd with rfl | rfl
    · simp only [Nat.reducePow, Nat.reduceAdd] at *; omega
    · simp only [Nat.reducePow, Nat.reduceAdd] at *; omega
  · unfold Format.nearest
    rw [if_neg hm]
    have hlast : max (e + (mag.log2 : Nat) - (double.fractionBits : Nat)) double.leastPlace = e + d := by
      rw [hL]
      simp only [double, Format.leastPlace]
      simp
      omega
    simp only [hlast]
    have t1 : (e - (e + (d : Int))).toNat = 0 := by omega
    have t2 : (e + (d : Int) - e).toNat = d := by omega
    rw [t1, t2, Nat.shiftLeft_zero]
    have hcut : Toward.even.cut neg mag d = mag / 2 ^ d + (decide (2 ^ d < 2 * (mag % 2 ^ d)) || (2 ^ d == 2 * (mag % 2 ^ d) && mag / 2 ^ d % 2 == 1)).toNat := by
      unfold Toward.cut
      simp only [Nat.shiftLeft_eq, Nat.one_mul]
      rw [Nat.min_eq_left (by omega)]
    rw [hcut]
    have hs := sticky_le (decide (2 ^ d < 2 * (mag % 2 ^ d)) || (2 ^ d == 2 * (mag % 2 ^ d) && mag / 2 ^ d % 2 == 1))
    generalize (decide (2 ^ d < 2 * (mag % 2 ^ d)) || (2 ^ d == 2 * (mag % 2 ^ d) && mag / 2 ^ d % 2 == 1)).toNat = s at *
    have hlp : double.leastPlace = -1074 := by decide
    have hb : double.binade = 2 ^ 52 := rfl
    have hi : double.infRung = 2047 * 2 ^ 52 := by decide
    rw [hlp, hb, hi]
    have t3 : (e + (d : Int) - -1074).toNat = (e + d + 1074).toNat := by omega
    have t4 : (e + (d : Int) + 1074).toNat ≤ 1577 := by omega
    have hk : mag / 2 ^ d + s ≤ 2 ^ 53 := by
      rcases hd with rfl | rfl
      · simp only [Nat.reducePow, Nat.reduceAdd] at *; omega
      · simp only [Nat.reducePow, Nat.reduceAdd] at *; omega
    rw [t3]
    congr 1
    generalize mag / 2 ^ d + s = X at *
    generalize (e + (d : Int) + 1074).toNat = E at *
    have q1 : E * 2 ^ 52 ≤ 1577 * 2 ^ 52 := Nat.mul_le_mul_right _ t4
    have q2 : 1577 * 2 ^ 52 + 2 ^ 53 ≤ 2047 * 2 ^ 52 := by decide
    exact Nat.min_eq_left (Nat.le_trans (Nat.add_le_add q1 hk) q2)

/-- the carry: the word is read as the same number -/
theorem read_carry (neg : Bool) (E X : Nat) (h1 : 2 ^ 52 ≤ X) (h2 : X ≤ 2 ^ 53) (hE : E ≤ 1073) :
    ∃ m drop : Nat, double.read (double.word neg (E * 2 ^ 52 + X)) = .number neg m (-(drop : Int)) ∧
      0 < m ∧ m / 2 ^ drop = X / 2 ^ (1074 - E) ∧ (m % 2 ^ drop = 0 ↔ X % 2 ^ (1074 - E) = 0) := by
  by_cases h : X < 2 ^ 53
  · refine ⟨X, 1074 - E, ?_, ?_, rfl, Iff.rfl⟩
    · have e1 : (-1074 + (E : Nat) : Int) = -((1074 - E : Nat) : Int) := by omega
      rw [read_word neg E X h1 h (by omega), e1]
    · have := Nat.two_pow_pos 52; omega
  · obtain rfl : X = 2 ^ 53 := by omega
    have e0 : E * 2 ^ 52 + 2 ^ 53 = (E + 1) * 2 ^ 52 + 2 ^ 52 := by omega
    have hdr : 1074 - E = 1073 - E + 1 := by omega
    refine ⟨2 ^ 52, 1073 - E, ?_, by decide, ?_, ?_⟩
    · have e1 : (-1074 + (E + 1 : Nat) : Int) = -((1073 - E : Nat) : Int) := by omega
      rw [e0, read_word neg (E + 1) (2 ^ 52) (Nat.le_refl _) (by decide) (by omega), e1]
    · rw [hdr, Nat.pow_succ 2 (1073 - E), show (2 : Nat) ^ 53 = 2 ^ 52 * 2 by decide, Nat.mul_div_mul_right _ _ (by decide)]
    · rw [hdr, Nat.pow_succ 2 (1073 - E), show (2 : Nat) ^ 53 = 2 ^ 52 * 2 by decide, Nat.mul_mod_mul_right]
      generalize (2 : Nat) ^ 52 % 2 ^ (1073 - E) = r
      omega

theorem floor_val (z : Int) (Q : Nat) (r : Bool) (hQ : Q = z.natAbs / 16777199) (hr : r = true ↔ z.natAbs % 16777199 ≠ 0) : double.write (.number (decide (z < 0)) (Q + (decide (z < 0) && r).toNat) 0) = fl (z / pr) := by
  unfold pr
  rw [fl_eq]
  show double.nearest _ _ _ = _
  by_cases hz : z < 0
  · have e1 : z / 16777199 = -((Q + r.toNat : Nat) : Int) := by
      by_cases hr' : r = true
      · have := hr.1 hr'
        subst hr'
        simp; omega
      · have h2 := mt hr.2 hr'
        simp at hr'
        subst hr'
        simp at h2 ⊢; omega
    have hne : Q + r.toNat ≠ 0 := by
      intro h
      by_cases hr' : r = true
      · subst hr'; simp at h
      · have h2 := mt hr.2 hr'
        simp at hr' h2
        subst hr'
        simp at h; omega
    rw [e1]
    simp only [hz, decide_true, Bool.true_and, Int.natAbs_neg, Int.natAbs_natCast]
    congr 1
    simp; omega
  · have e1 : z / 16777199 = (Q : Int) := by omega
    have e2 : decide (((Q : Nat) : Int) < 0) = false := by simp
    rw [e1, e2]
    simp [hz]

/-- x / 16777199 rounded to a float, and the floor of that: the whole quotient. -/
theorem floor_quo (z : Int) (h : z.natAbs < 2 ^ 33) :
    ∃ b s m i, floatBits .quo .f64 (fl z) (fl pr) = some b ∧ FloatKind.f64.decode b = .number s m i ∧ FloatKind.f64.encode ((Datum.number s m i).integral .down) = fl (z / pr) := by
  by_cases h0 : z = 0
  · subst h0
    refine ⟨0, false, 0, -1074, by decide +kernel, by decide +kernel, by decide +kernel⟩
  · have hq := quo_datum z h0 h
    have hn : 0 < z.natAbs := by omega
    have hl : z.natAbs.log2 ≤ 32 := by have := (Nat.log2_lt (n := z.natAbs) (k := 33) (by omega)).2 h; omega
    have hc := core z.natAbs.log2 z.natAbs (Nat.log2_self_le (by omega)) Nat.lt_log2_self hl
    have hb : floatBits .quo .f64 (fl z) (fl pr) = some (double.nearest (decide (z < 0)) (magOf z.natAbs (2 ^ (77 - z.natAbs.log2))) ((z.natAbs.log2 : Int) - 78)) := by
      show ((double.read (fl z)).quotient 54 (double.read (fl pr))).map double.write = _
      rw [hq]; rfl
    have fin : ∀ d : Nat, (d = 2 ∨ d = 3) → 2 ^ (52 + d) ≤ magOf z.natAbs (2 ^ (77 - z.natAbs.log2)) → magOf z.natAbs (2 ^ (77 - z.natAbs.log2)) < 2 ^ (53 + d) →
        ∃ b s m i, floatBits .quo .f64 (fl z) (fl pr) = some b ∧ FloatKind.f64.decode b = .number s m i ∧ FloatKind.f64.encode ((Datum.number s m i).integral .down) = fl (z / pr) := by
      intro d hd g1 g2
      obtain ⟨up, u1, u2, u3, u4, u5⟩ := nearest_round (decide (z < 0)) _ ((z.natAbs.log2 : Int) - 78) d hd g1 g2 (by omega) (by omega)
      rw [u5] at hb
      obtain ⟨m, drop, hr, -, hd1, hd2⟩ := read_carry (decide (z < 0)) ((z.natAbs.log2 : Int) - 78 + d + 1074).toNat _ u3 u4 (by omega)
      refine ⟨_, _, m, -(drop : Int), hb, hr, ?_⟩
      have hW : (2 : Nat) ^ 45 ≤ 2 ^ (77 - z.natAbs.log2) := Nat.pow_le_pow_right (by omega) (by omega)
      have hdW : 2 ^ d ∣ 2 ^ (77 - z.natAbs.log2) := Nat.pow_dvd_pow 2 (by omega)
      have st := steps (2 ^ (77 - z.natAbs.log2)) z.natAbs (2 ^ d) up hW (by rcases hd with rfl | rfl <;> simp) hdW u1 u2
      have e1 : 1074 - ((z.natAbs.log2 : Int) - 78 + d + 1074).toNat = 78 - z.natAbs.log2 - d := by omega
      have e2 : 2 * 2 ^ (77 - z.natAbs.log2) / 2 ^ d = 2 ^ (78 - z.natAbs.log2 - d) := by
        rw [Nat.mul_comm, ← Nat.pow_succ, show (77 - z.natAbs.log2).succ = 78 - z.natAbs.log2 - d + d by omega, Nat.pow_add]
        exact Nat.mul_div_cancel _ (Nat.two_pow_pos d)
      rw [e1] at hd1 hd2
      rw [e2] at st
      rw [st.1] at hd1
      rw [st.2] at hd2
      simp only [Datum.integral]
      rw [show (-(drop : Int)).toNat = 0 by omega, show (-(-(drop : Int))).toNat = drop by omega, Nat.shiftLeft_zero, cut_down _ _ _]
      exact floor_val z _ _ hd1 (by simp [hd2])
    by_cases g : magOf z.natAbs (2 ^ (77 - z.natAbs.log2)) < 2 ^ 55
    · exact fin 2 (.inl rfl) hc.1 g
    · exact fin 3 (.inr rfl) (Nat.le_of_not_lt g) hc.2

end Go.Proofs.YtpfpnlhihnfahaaDoor.fl

namespace Go.Proofs.YtpfpnlhihnfahaaDoor.pl

def P : Nat := 16777199
/-- one byte more: both parts -/
def step (s : Nat × Nat) (x : UInt8) : Nat × Nat := ((257 * s.1 + x.toNat + 1 + 3 * (P - s.2)) % P, (257 * s.2 + 3 * s.1) % P)
def sum (bs : List UInt8) : Nat × Nat := bs.foldl step (1, 0)

theorem sum_nil : sum [] = (1, 0) := rfl
theorem sum_snoc (bs : List UInt8) (x : UInt8) : sum (bs ++ [x]) = step (sum bs) x := by
  unfold sum; rw [List.foldl_append]; rfl
theorem step_lt (s : Nat × Nat) (x : UInt8) : (step s x).1 < P ∧ (step s x).2 < P := by
  unfold step
  exact ⟨Nat.mod_lt _ (by decide), Nat.mod_lt _ (by decide)⟩
theorem sum_lt (bs : List UInt8) : (sum bs).1 < P ∧ (sum bs).2 < P := by
  rcases List.eq_nil_or_concat bs with rfl | ⟨l, x, rfl⟩
  · exact ⟨by decide, by decide⟩
  · rw [List.concat_eq_append, sum_snoc]; exact step_lt _ _

theorem step_re (a b x : Nat) (hb : b < P) : ((257 * (a : Int) - 3 * b + (x + 1)) % 16777199) = ((257 * a + x + 1 + 3 * (P - b)) % P : Nat) := by
  unfold P at *; omega
theorem step_im (a b : Nat) : ((257 * (b : Int) + 3 * a) % 16777199) = ((257 * b + 3 * a) % P : Nat) := by
  unfold P at *; omega

theorem small_zero {A n : Int} (h : 66058 * A = 16777199 * n) (h1 : -16777199 < A) (h2 : A < 16777199) : A = 0 := by
  have e : A = 16777199 * (4224396 * n - 16633 * A) := by omega
  generalize 4224396 * n - 16633 * A = q at e
  omega

theorem mod_eq {X Y M : Nat} (h : X % M = Y % M) : ∃ k : Int, (X : Int) - Y = M * k := by
  have e1 := Nat.mod_add_div X M
  have e2 := Nat.mod_add_div Y M
  rw [h] at e1
  refine ⟨(X / M : Nat) - (Y / M : Nat), ?_⟩
  rw [Int.mul_sub]
  generalize Y % M = r at *
  rw [← Int.natCast_mul, ← Int.natCast_mul]
  omega

theorem part_re {A D k m : Int} (hk : 257 * A - 3 * D = 16777199 * k) (hm : 257 * D + 3 * A = 16777199 * m) : 66058 * A = 16777199 * (257 * k + 3 * m) := by
  have h : 257 * (257 * A - 3 * D) + 3 * (257 * D + 3 * A) = 257 * (16777199 * k) + 3 * (16777199 * m) := by rw [hk, hm]
  clear hk hm
  omega
theorem part_im {A D k m : Int} (hk : 257 * A - 3 * D = 16777199 * k) (hm : 257 * D + 3 * A = 16777199 * m) : 66058 * D = 16777199 * (257 * m - 3 * k) := by
  have h : 257 * (257 * D + 3 * A) - 3 * (257 * A - 3 * D) = 257 * (16777199 * m) - 3 * (16777199 * k) := by rw [hk, hm]
  clear hk hm
  omega

theorem sub_lt {a b p : Nat} (ha : a < p) (hb : b < p) : -(p : Int) < (a : Int) - b ∧ (a : Int) - b < p := by omega
theorem cast_sub {b p : Nat} (hb : b < p) : ((p - b : Nat) : Int) = (p : Int) - b := by omega
theorem diff1 {a b c d y p : Int} : (257 * a + y + 1 + 3 * (p - b)) - (257 * c + y + 1 + 3 * (p - d)) = 257 * (a - c) - 3 * (b - d) := by omega
theorem diff2 {a b c d : Int} : (257 * b + 3 * a) - (257 * d + 3 * c) = 257 * (b - d) + 3 * (a - c) := by omega

/-- the step is one to one -/
theorem step_inj {s t : Nat × Nat} (x : UInt8) (hs : s.1 < P ∧ s.2 < P) (ht : t.1 < P ∧ t.2 < P) (h : step s x = step t x) : s = t := by
  obtain ⟨a, b⟩ := s
  obtain ⟨c, d⟩ := t
  unfold step at h
  simp only [Prod.mk.injEq] at h hs ht ⊢
  obtain ⟨k, hk⟩ := mod_eq h.1
  obtain ⟨m, hm⟩ := mod_eq h.2
  clear h
  simp only [Int.natCast_add, Int.natCast_mul, cast_sub hs.2, cast_sub ht.2] at hk hm
  have hk' := diff1.symm.trans hk
  have hm' := diff2.symm.trans hm
  clear hk hm
  have l1 := sub_lt hs.1 ht.1
  have l2 := sub_lt hs.2 ht.2
  have hP : (P : Int) = 16777199 := rfl
  rw [hP] at hk' hm' l1 l2
  have z1 := small_zero (part_re hk' hm') l1.1 l1.2
  have z2 := small_zero (part_im hk' hm') l2.1 l2.2
  clear hk' hm' l1 l2
  omega

end Go.Proofs.YtpfpnlhihnfahaaDoor.pl

namespace Go.Proofs.YtpfpnlhihnfahaaDoor.sum
open Go.RowKit Go.Proofs.YtpfpnlhihnfahaaDoor.fl
set_option linter.unusedVariables false

theorem pr_word : fl pr = 4715268800730103808 := by decide +kernel
theorem one_word : fl 1 = 4607182418800017408 := by decide +kernel
theorem zero_word : fl 0 = 0 := by decide +kernel
theorem w257 : fl 257 = 4643228808005025792 := by decide +kernel
theorem w3 : fl 3 = 4613937818241073152 := by decide +kernel

/-- The sum as the program's complex number. -/
def cx (s : Nat × Nat) : Value := .complex .f64 (fl s.1) (fl s.2)

@[go_sem] theorem eqGuard_cx (op : BinOp) (t : TypeId) (x y : Operand) (s s' : Nat × Nat) (w : World) : (eqGuard op t x y (cx s) (cx s')).run Tryd.prog w = .ok () w := by
  cases op <;> rfl
@[go_sem] theorem eqGuard_cx_complex (op : BinOp) (t : TypeId) (x y : Operand) (s : Nat × Nat) (a b : Nat) (w : World) : (eqGuard op t x y (cx s) (.complex .f64 a b)).run Tryd.prog w = .ok () w := by
  cases op <;> rfl

theorem mul_step (a b : Nat) (ha : a < pl.P) (hb : b < pl.P) (w : World) (t : TypeId) :
    (binOp .mul t (.complex .f64 (fl a) (fl b)) (.complex .f64 4643228808005025792 4613937818241073152)).run Tryd.prog w = .ok (.complex .f64 (fl (257 * (a : Int) - 3 * b)) (fl (257 * (b : Int) + 3 * a))) w := by
  unfold pl.P at ha hb
  refine run_complex_mul w t _ _ _ _ _ _ ?_
  rw [← w257, ← w3]
  have sm : ∀ z : Int, z.natAbs < 2 ^ 40 → Small z := fun z h => Nat.lt_trans h (by decide)
  simp only [Nat.reducePow] at sm
  unfold cMulBits
  rw [fl_mul_nonneg a 257 (by omega) (by omega) (sm _ (by omega)) (sm _ (by omega)) (sm _ (by omega)), fl_mul_nonneg b 3 (by omega) (by omega) (sm _ (by omega)) (sm _ (by omega)) (sm _ (by omega)),
    fl_mul_nonneg a 3 (by omega) (by omega) (sm _ (by omega)) (sm _ (by omega)) (sm _ (by omega)), fl_mul_nonneg b 257 (by omega) (by omega) (sm _ (by omega)) (sm _ (by omega)) (sm _ (by omega))]
  simp only [Option.bind_some]
  rw [fl_sub _ _ (sm _ (by omega)) (sm _ (by omega)) (sm _ (by omega)), fl_add _ _ (sm _ (by omega)) (sm _ (by omega)) (sm _ (by omega))]
  simp only [Option.bind_some]
  rw [show (a : Int) * 257 - b * 3 = 257 * a - 3 * b by omega, show (a : Int) * 3 + b * 257 = 257 * b + 3 * a by omega]

theorem add_step (a b : Nat) (x : Nat) (ha : a < pl.P) (hb : b < pl.P) (hx : x < 256) (w : World) (t : TypeId) :
    (binOp .add t (.complex .f64 (fl (257 * (a : Int) - 3 * b)) (fl (257 * (b : Int) + 3 * a))) (.complex .f64 (fl ((x : Int) + 1)) 0)).run Tryd.prog w = .ok (.complex .f64 (fl (257 * (a : Int) - 3 * b + (x + 1))) (fl (257 * (b : Int) + 3 * a))) w := by
  unfold pl.P at ha hb
  refine run_complex_sum w .add (.inl rfl) t .f64 _ _ _ _ _ _ ?_
  have sm : ∀ z : Int, z.natAbs < 2 ^ 40 → Small z := fun z h => Nat.lt_trans h (by decide)
  simp only [Nat.reducePow] at sm
  unfold cSumBits
  rw [← zero_word]
  rw [fl_add _ _ (sm _ (by omega)) (sm _ (by omega)) (sm _ (by omega)), fl_add _ _ (sm _ (by omega)) (sm _ (by omega)) (sm _ (by omega))]
  simp

theorem one_more (x : Nat) (hx : x < 256) (w : World) (t : TypeId) : (binOp .add t (.float .f64 (floatOfInt .f64 (x : Int))) (.float .f64 4607182418800017408)).run Tryd.prog w = .ok (.float .f64 (fl ((x : Int) + 1))) w := by
  refine run_float_arith w .add t .f64 _ _ _ ?_
  rw [← one_word]
  have sm : ∀ z : Int, z.natAbs < 2 ^ 40 → Small z := fun z h => Nat.lt_trans h (by decide)
  simp only [Nat.reducePow] at sm
  exact fl_add (x : Int) 1 (sm _ (by omega)) (sm _ (by omega)) (sm _ (by omega))

end Go.Proofs.YtpfpnlhihnfahaaDoor.sum

namespace Go.Proofs.YtpfpnlhihnfahaaDoor.writer
open Go.RowKit Go.Proofs.YtpfpnlhihnfahaaDoor.sum Go.Proofs.YtpfpnlhihnfahaaDoor.kept Go.Proofs.YtpfpnlhihnfahaaDoor.app
set_option linter.unusedVariables false

set_option maxHeartbeats 1000000 in
theorem byte_any (base p : Nat) (w : World) (v : Value) (bs : List UInt8) (x : UInt8) (h : Wr base w p v bs) (hl : bs.length < 140737488355328) :
    Calls Tryd.prog 37 #[.pointer (some ⟨p, 0, none⟩), .int .u8 (x.toNat : Int)] w (WrPost base p v (bs ++ [x]) w) := by
  have hcell := h.cell
  have hwarm := h.warm
  have H := Hid_mk h
  have hroom := h.room
  go_enter Tryd.func37, Tryd.ntmps37
  go_wp2_with (at_builtin; (refine wpList_append_bs _ rfl _ _ rfl base _ bs rfl (H.out.owns.alloc _) _ [x] rfl (bs_one w x) ?c1 ?c2 ?_))
  case c1 => simp; omega
  case c2 => simp; omega
  · intro v' w1 happ
    have hp := World.block_lt_of_cell? w _ hcell
    have kp : Kp (fun k => some k = v.ownBlock) w w1 := app_kept happ fun k _ e => e.symm
    have hc1 : w1.cell? ⟨p, 0, none⟩ = some v := kp.cell' hcell (fun e => h.apart e.symm)
    have hf1 : w1.frozen? ⟨p, 0, none⟩ = false := (kp.frozen hp (fun e => h.apart e.symm)).trans hwarm
    have hfin := wr_store h (Nat.le_trans hroom kp.size) happ.1 kp (app_fresh happ)
    have HF := Hid_mk hfin
    obtain ⟨g, cap, rfl, hg1, hg2⟩ := owns_some happ.1 (by simp)
    rw [show (bs ++ [x]).length = bs.length + 1 from by simp] at HF
    clear hcell hwarm kp hfin happ h hp
    go_wp2
    go_end0
    exact HF.out

set_option maxHeartbeats 1000000 in
theorem new_any (w : World) : Calls Tryd.prog 16 #[] w fun e w' => e = .returned (.pointer (some ⟨w.heap.size, 0, none⟩)) ∧ Wr w.heap.size w' w.heap.size (.slice none 0 0) [] ∧ Kp No w w' := by
  go_enter Tryd.func16, Tryd.ntmps16
  go_wp2
  go_ret
  refine ⟨rfl, ⟨?_, ?_, World.ownsRow_nil _ _ _ _, by simp [Value.ownBlock], by simp⟩, (Kp.refl _ _).alloc _⟩
  · simp
  · simp

theorem byte_nat (base p : Nat) (w : World) (v : Value) (bs : List UInt8) (n : Nat) (hn : n < 256) (h : Wr base w p v bs) (hl : bs.length < 140737488355328) :
    Calls Tryd.prog 37 #[.pointer (some ⟨p, 0, none⟩), .int .u8 (n : Int)] w (WrPost base p v (bs ++ [n.toUInt8]) w) := by
  have := byte_any base p w v bs n.toUInt8 h hl
  rwa [show n.toUInt8.toNat = n from by simp [Nat.toUInt8]; omega] at this

set_option maxRecDepth 100000 in
set_option maxHeartbeats 1000000 in
theorem num_any (base p : Nat) (w : World) (v : Value) (bs : List UInt8) (n : Nat) (hn : n < U64) (h : Wr base w p v bs) (hl : bs.length + 10 < 140737488355328) :
    Calls Tryd.prog 57 #[.pointer (some ⟨p, 0, none⟩), .int .u64 (n : Int)] w (WrPost base p v (bs ++ num n) w) := by
  have H := Hid_mk h
  have HN := Hid_mk hn
  clear h hn
  go_enter Tryd.func57, Tryd.ntmps57
  go_wp2
  go_loopw [1] (fun t wr => NumRel base p v bs n w t wr) (fun t _ => (intOf t).toNat)
  case atStart => exact ⟨n, [], rfl, HN.out, rfl, by simpa using WrPost.refl H.out⟩
  case round =>
    obtain ⟨m, pre, rfl, hm, hpre, hpost⟩ := hrel
    have hlen : pre.length + (num m).length ≤ 10 := by rw [← List.length_append, hpre]; exact num_len n 10 (by have hn := HN.out; rw [u64_eq] at hn; omega) (by omega)
    have HPre := Hid_mk hpre
    have HPost := Hid_mk hpost
    have HLen := Hid_mk hlen
    have HM := Hid_mk hm
    clear hpre hpost hlen hm
    by_cases hlt : m < 128
    · go_wp2_with fail
      obtain ⟨-, v1, hat⟩ := HPost.out
      refine (byte_nat base p wr v1 _ m (by omega) hat.1 (by have := HLen.out; simp; omega)).mono ?_
      rintro e w1 hpost
      have hfin : WrPost base p v (bs ++ num n) w (.returned (.tuple #[])) w1 := by
        rw [← HPre.out, num_small hlt, ← List.append_assoc]
        exact wr_join hat (hpost.1 ▸ hpost)
      have he := hpost.1
      subst he
      clear hpost hat
      have HF := Hid_mk hfin
      clear hfin
      go_wp2
      go_end0
      exact HF.out
    · go_wp2_with fail
      rw [or128 m]
      obtain ⟨-, v1, hat⟩ := HPost.out
      have hlen2 : bs.length + (pre.length + (num m).length) ≤ bs.length + 10 := by have := HLen.out; omega
      rw [num_big hlt] at hlen2
      simp only [List.length_cons] at hlen2
      refine (byte_nat base p wr v1 _ (m % 128 + 128) (by omega) hat.1 (by simp; omega)).mono ?_
      rintro e w1 hpost
      have hfin : NumRel base p v bs n w (.int .u64 ((m / 128 : Nat) : Int)) w1 := by
        refine ⟨m / 128, pre ++ [(m % 128 + 128).toUInt8], rfl, ?_, ?_, ?_⟩
        · have := HM.out; omega
        · rw [List.append_assoc, ← HPre.out, num_big hlt]; rfl
        · rw [← List.append_assoc]; exact wr_join hat (hpost.1 ▸ hpost)
      have he := hpost.1
      subst he
      clear hpost hat hlen2
      have HF := Hid_mk hfin
      clear hfin
      go_wp2
      go_roundw
      case rel => exact HF.out
      case measure => simp [intOf]; omega

end Go.Proofs.YtpfpnlhihnfahaaDoor.writer

namespace Go.Proofs.YtpfpnlhihnfahaaDoor.clone
open Go.RowKit Go.Proofs.YtpfpnlhihnfahaaDoor.sum Go.Proofs.YtpfpnlhihnfahaaDoor.kept Go.Proofs.YtpfpnlhihnfahaaDoor.app Go.Proofs.YtpfpnlhihnfahaaDoor.writer
set_option linter.unusedVariables false

set_option maxHeartbeats 1000000 in
theorem bytes_any (base p : Nat) (w : World) (v : Value) (bs : List UInt8) (h : Wr base w p v bs) (hl : bs.length ≤ 140737488355328) :
    Calls Tryd.prog 18 #[.pointer (some ⟨p, 0, none⟩)] w (NewBs w bs) := by
  have hcell := h.cell
  have H := Hid_mk h
  clear h
  go_enter Tryd.func18, Tryd.ntmps18
  go_wp2_with fail
  refine (clone_any w v bs (owns_bs H.out.owns) hl).mono ?_
  rintro e w1 ⟨v', rfl, hn⟩
  have hfin : NewBs w bs (.returned v') w1 := ⟨v', rfl, hn⟩
  have HF := Hid_mk hfin
  clear hn hfin hcell
  go_wp2
  go_ret
  exact HF.out

set_option maxRecDepth 100000 in
set_option maxHeartbeats 1000000 in
theorem text_any (base p : Nat) (w : World) (v : Value) (bs : List UInt8) (s : ByteArray) (h : Wr base w p v bs) (hl : bs.length + 10 + s.size < 140737488355328) :
    Calls Tryd.prog 36 #[.pointer (some ⟨p, 0, none⟩), .string s] w (WrPost base p v (bs ++ (num s.size ++ s.data.toList)) w) := by
  have H := Hid_mk h
  clear h
  go_enter Tryd.func36, Tryd.ntmps36
  go_wp2_with fail
  refine (num_any base p w v bs s.size (by rw [u64_eq]; omega) H.out (by omega)).mono ?_
  rintro e w1 ⟨rfl, v1, hat⟩
  have HA := Hid_mk hat
  have hcell := hat.1.cell
  have hwarm := hat.1.warm
  have hroom := hat.1.room
  have hlen : (num s.size).length ≤ 10 := num_len _ _ (by omega) (by omega)
  have HL := Hid_mk hlen
  clear hat hlen
  go_wp2_with (at_builtin; (refine wpList_append_str _ rfl _ _ rfl base _ (bs ++ num s.size) rfl HA.out.1.owns s rfl ?c1 hroom ?_))
  case c1 => have := HL.out; simp; omega
  · intro v' w2 happ
    have h := HA.out.1
    have kp : Kp (fun k => some k = v1.ownBlock) w1 w2 := app_kept0 happ fun k _ e => e.symm
    have hp := World.block_lt_of_cell? w1 _ hcell
    have hc1 : w2.cell? ⟨p, 0, none⟩ = some v1 := kp.cell' hcell (fun e => h.apart e.symm)
    have hf1 : w2.frozen? ⟨p, 0, none⟩ = false := (kp.frozen hp (fun e => h.apart e.symm)).trans hwarm
    have hfin := wr_join HA.out (wr_store h (Nat.le_trans hroom kp.size) happ.1 kp (app_fresh0 happ))
    rw [List.append_assoc] at hfin
    have HF := Hid_mk hfin
    rcases owns_any happ.1 with ⟨rfl, _⟩ | ⟨g, cap, rfl, hg1, hg2⟩
    · clear hcell hwarm kp hfin happ h hp
      go_wp2
      go_end0
      exact HF.out
    · generalize (bs ++ num s.size ++ s.data.toList).length = L at *
      clear hcell hwarm kp hfin happ h hp
      go_wp2
      go_end0
      exact HF.out

end Go.Proofs.YtpfpnlhihnfahaaDoor.clone

namespace Go.Proofs.YtpfpnlhihnfahaaDoor.known
open Go.RowKit Go.Proofs.YtpfpnlhihnfahaaDoor.sum Go.Proofs.YtpfpnlhihnfahaaDoor.kept Go.Proofs.YtpfpnlhihnfahaaDoor.app Go.Proofs.YtpfpnlhihnfahaaDoor.writer Go.Proofs.YtpfpnlhihnfahaaDoor.clone Go.Proofs.YtpfpnlhihnfahaaDoor.fl
set_option linter.unusedVariables false

theorem c258 : (4643246400191070208 : Nat) = fl 258 := by decide +kernel

theorem sum_zero_byte : cx (pl.sum [0]) = .complex .f64 4643246400191070208 4613937818241073152 := by
  have e : pl.sum [0] = (258, 3) := by decide
  rw [e, c258, ← w3]; rfl
theorem bytes_known : ([] : List UInt8) ++ [7] ++ num 300 ++ (num 2 ++ [97, 98]) = [7, 172, 2, 2, 97, 98] := by
  have e1 : num 300 = [(300 % 128 + 128).toUInt8, (300 / 128).toUInt8] := by rw [num_big (n := 300) (by omega), num_small (n := 300 / 128) (by omega)]
  have e2 : num 2 = [Nat.toUInt8 2] := num_small (by omega)
  rw [e1, e2]
  decide

end Go.Proofs.YtpfpnlhihnfahaaDoor.known

namespace Go.Proofs.YtpfpnlhihnfahaaDoor.seal
open Go.RowKit Go.Proofs.YtpfpnlhihnfahaaDoor.sum Go.Proofs.YtpfpnlhihnfahaaDoor.kept Go.Proofs.YtpfpnlhihnfahaaDoor.app Go.Proofs.YtpfpnlhihnfahaaDoor.writer Go.Proofs.YtpfpnlhihnfahaaDoor.clone Go.Proofs.YtpfpnlhihnfahaaDoor.known Go.Proofs.YtpfpnlhihnfahaaDoor.fl
set_option linter.unusedVariables false

/-- a number's three bytes, the lowest first -/
def part (n : Nat) : List UInt8 := [n.toUInt8, (n / 256).toUInt8, (n / 65536).toUInt8]
def tail (s : Nat × Nat) : List UInt8 := part s.1 ++ part s.2
def sealed (bs : List UInt8) : List UInt8 := bs ++ tail (pl.sum bs)

theorem part_len (n : Nat) : (part n).length = 3 := rfl
theorem tail_len (s : Nat × Nat) : (tail s).length = 6 := rfl
theorem u8_toNat (n : Nat) : n.toUInt8.toNat = n % 256 := by simp [Nat.toUInt8]

/-- What an append by a callee leaves: the row, of old memory only the old row. -/
def Onto (base : Nat) (v : Value) (bs : List UInt8) (w : World) (e : Ending) (w' : World) : Prop :=
  ∃ v', e = .returned v' ∧ w'.ownsRow base 5 1 v' bs.length (bs.map B) ∧ Kp (fun k => some k = v.ownBlock) w w'

/-- a literal of three bytes, as laid by the call -/
theorem bs_part (w : World) (n : Nat) (hn : n < 16777216) : Bs (w.alloc (.cells #[.int .u8 ((n : Int) % 256), .int .u8 ((n : Int) / 256 % 256), .int .u8 ((n : Int) / 65536)] 5)) (.slice (some ⟨w.heap.size, 0, none⟩) 3 3) (part n) := by
  have e1 : (n : Int) % 256 = ((n % 256 : Nat) : Int) := by omega
  have e2 : (n : Int) / 256 % 256 = ((n / 256 % 256 : Nat) : Int) := by omega
  have e3 : (n : Int) / 65536 = ((n / 65536 % 256 : Nat) : Int) := by omega
  rw [e1, e2, e3]
  refine ⟨_, 3, rfl, Nat.le_refl _, by decide, fun _ => ⟨_, _, rfl, fun k hk => ?_⟩⟩
  rw [part_len] at hk
  match k, hk with
  | 0, _ => simp [B, part, u8_toNat]
  | 1, _ => simp [B, part, u8_toNat]
  | 2, _ => simp [B, part, u8_toNat]

theorem conv_u32 (n : Nat) (hn : n < 16777216) (w : World) : (convert 131 113 (.float .f64 (fl n))).run Tryd.prog w = .ok (.int .u32 n) w := by
  refine run_convert_float_int w 131 113 .f64 .u32 _ n (by kernel_rfl) Tryd.underlying113 (fl_int n ?_ .u32 ?_ ?_)
  · unfold Small
    have : (2 : Nat) ^ 53 = 9007199254740992 := by decide
    omega
  · have : IntKind.min .u32 = 0 := by decide
    omega
  · have : IntKind.max .u32 = 4294967295 := by decide
    omega

end Go.Proofs.YtpfpnlhihnfahaaDoor.seal

namespace Go.Proofs.YtpfpnlhihnfahaaDoor.unseal
open Go.RowKit Go.Proofs.YtpfpnlhihnfahaaDoor.sum Go.Proofs.YtpfpnlhihnfahaaDoor.kept Go.Proofs.YtpfpnlhihnfahaaDoor.app Go.Proofs.YtpfpnlhihnfahaaDoor.writer Go.Proofs.YtpfpnlhihnfahaaDoor.clone Go.Proofs.YtpfpnlhihnfahaaDoor.known Go.Proofs.YtpfpnlhihnfahaaDoor.fl Go.Proofs.YtpfpnlhihnfahaaDoor.seal
set_option linter.unusedVariables false

/-- the number of three bytes -/
def num3 (bs : List UInt8) : Nat := (bs.getD 0 0).toNat + 256 * (bs.getD 1 0).toNat + 65536 * (bs.getD 2 0).toNat

theorem or3 (p q r : Nat) (hp : p < 256) (hq : q < 256) (hr : r < 256) : bits .or .u32 (bits .or .u32 (p : Int) ((q : Int) * 256)) ((r : Int) * 65536) = ((p + 256 * q + 65536 * r : Nat) : Int) := by
  have e1 : bits .or .u32 (p : Int) ((q : Int) * 256) = ((p + 256 * q : Nat) : Int) := by
    rw [u32_or _ _ (by omega) (by omega) (by omega) (by omega), show ((p : Int)).toNat = p by omega, show ((q : Int) * 256).toNat = q * 256 by omega, Nat.or_comm, nat_join 8 (q * 256) p (by omega) (by omega)]
    congr 1; omega
  rw [e1, u32_or _ _ (by omega) (by omega) (by omega) (by omega), show (((p + 256 * q : Nat) : Int)).toNat = p + 256 * q by omega, show ((r : Int) * 65536).toNat = r * 65536 by omega, Nat.or_comm, nat_join 16 (r * 65536) (p + 256 * q) (by omega) (by omega)]
  congr 1; omega

/-- the pair that the last six bytes say -/
def said (tl : List UInt8) : Nat × Nat := (num3 tl, num3 (tl.drop 3))
theorem num3_lt (bs : List UInt8) : num3 bs < 16777216 := by
  unfold num3
  have x0 : (bs.getD 0 0).toNat < 256 := UInt8.toNat_lt _
  have x1 : (bs.getD 1 0).toNat < 256 := UInt8.toNat_lt _
  have x2 : (bs.getD 2 0).toNat < 256 := UInt8.toNat_lt _
  omega

theorem neq_said (s : Nat × Nat) (hs : s.1 < pl.P ∧ s.2 < pl.P) (tl : List UInt8) (ty : TypeId) (w : World) :
    (binOp .neq ty (cx s) (.complex .f64 (fl (num3 tl)) (fl (num3 (tl.drop 3))))).run Tryd.prog w = .ok (.bool (!decide (s = said tl))) w := by
  have sm : ∀ n : Nat, n < 16777216 → Small (n : Int) := fun n h => by
    unfold Small
    have : (2 : Nat) ^ 53 = 9007199254740992 := by decide
    omega
  unfold pl.P at hs
  unfold cx said
  rw [run_neq_complex, fl_eql _ _ (sm _ (by omega)) (sm _ (num3_lt _)), fl_eql _ _ (sm _ (by omega)) (sm _ (num3_lt _))]
  congr 3
  rw [Bool.eq_iff_iff]
  simp [Prod.ext_iff]
  omega

def Unsealed (w : World) (bs : List UInt8) (e : Ending) (w' : World) : Prop :=
  Kp No w w' ∧ ∃ v', e = .returned (.tuple #[v', .int .i64 0]) ∧ w'.ownsRow w.heap.size 5 1 v' bs.length (bs.map B)
def Broken (w : World) (c : Int) (e : Ending) (w' : World) : Prop := Kp No w w' ∧ e = .returned (.tuple #[.slice none 0 0, .int .i64 c])

/-- What Unseal answers. -/
def UnsealPost (w : World) (bs : List UInt8) (e : Ending) (w' : World) : Prop :=
  if bs.length < 6 then Broken w 10 e w'
  else if pl.sum (bs.take (bs.length - 6)) = said (bs.drop (bs.length - 6)) then Unsealed w (bs.take (bs.length - 6)) e w' else Broken w 13 e w'

end Go.Proofs.YtpfpnlhihnfahaaDoor.unseal
