/- What was laid is read as it was; what was cut off ends too early. Lists and whole numbers. -/
import Derived.Test.YtaghpjlodlbmjaaLaid
namespace Go.Proofs.Ytaghpjlodlbmjaa.back
open Go.Proofs.Ytaghpjlodlbmjaa.sum Go.Proofs.Ytaghpjlodlbmjaa.kept Go.Proofs.Ytaghpjlodlbmjaa.writer Go.Proofs.Ytaghpjlodlbmjaa.seal Go.Proofs.Ytaghpjlodlbmjaa.number Go.Proofs.Ytaghpjlodlbmjaa.words Go.Proofs.Ytaghpjlodlbmjaa.laid Go.Proofs.Ytaghpjlodlbmjaa.reader

theorem big_pow (i : Nat) : 128 ^ (i + 1) = 128 * 128 ^ i := by rw [Nat.pow_succ, Nat.mul_comm]

theorem dig_num (i m n : Nat) (r : List UInt8) (hi : i ≤ 9) (hn : n * 128 ^ i < U64) (h0 : 0 < i → 0 < n) : dig i m (num n ++ r) = (m + n * 128 ^ i, i + (num n).length, 0) := by
  induction n using Nat.strongRecOn generalizing i m with
  | ind n ih =>
    rw [u64_eq] at hn
    by_cases h : n < 128
    · rw [num_small h]
      have hd : n.toUInt8.toNat = n := by rw [u8_toNat]; omega
      show dig i m (n.toUInt8 :: r) = _
      rw [dig_end, hd]
      · simp only [List.length_singleton]
        rw [Nat.mod_eq_of_lt h]
      · rintro ⟨rfl, h2⟩
        rw [hd] at h2
        have e : 128 ^ 9 = 9223372036854775808 := by decide
        rw [e] at hn
        omega
      · rw [hd]; omega
      · rw [hd]
        rintro ⟨h2, h3⟩
        have := h0 h3
        omega
    · rw [num_big h]
      have hd : (n % 128 + 128).toUInt8.toNat = n % 128 + 128 := by rw [u8_toNat]; omega
      show dig i m ((n % 128 + 128).toUInt8 :: (num (n / 128) ++ r)) = _
      have hi8 : i ≤ 8 := by
        rcases Nat.lt_or_ge i 9 with h9 | h9
        · omega
        · obtain rfl : i = 9 := by omega
          have e : 128 ^ 9 = 9223372036854775808 := by decide
          rw [e] at hn
          omega
      have hsplit : n * 128 ^ i = n % 128 * 128 ^ i + n / 128 * (128 * 128 ^ i) := by
        conv => lhs; rw [← Nat.mod_add_div n 128]
        rw [Nat.add_mul, Nat.mul_comm 128 (n / 128), Nat.mul_assoc]
      have hlt : n / 128 * 128 ^ (i + 1) < U64 := by rw [big_pow, u64_eq]; omega
      rw [dig_on (by omega) (by rw [hd]; omega), hd, ih (n / 128) (by omega) (i + 1) _ (by omega) hlt (fun _ => by omega)]
      rw [big_pow, show (n % 128 + 128) % 128 = n % 128 by omega]
      simp only [List.length_cons, Prod.mk.injEq, and_true]
      exact ⟨by omega, by omega⟩

theorem dig_num_cut (i m n q : Nat) (hi : i ≤ 9) (hn : n * 128 ^ i < U64) (hq : q < (num n).length) : dig i m ((num n).take q) = (0, 0, 10) := by
  induction n using Nat.strongRecOn generalizing i m q with
  | ind n ih =>
    cases q with
    | zero => rfl
    | succ q =>
      by_cases h : n < 128
      · rw [num_small h] at hq; simp at hq
      · rw [num_big h] at hq ⊢
        rw [u64_eq] at hn
        have hd : (n % 128 + 128).toUInt8.toNat = n % 128 + 128 := by rw [u8_toNat]; omega
        have hi8 : i ≤ 8 := by
          rcases Nat.lt_or_ge i 9 with h9 | h9
          · omega
          · obtain rfl : i = 9 := by omega
            have e : 128 ^ 9 = 9223372036854775808 := by decide
            rw [e] at hn
            omega
        have hsplit : n * 128 ^ i = n % 128 * 128 ^ i + n / 128 * (128 * 128 ^ i) := by
          conv => lhs; rw [← Nat.mod_add_div n 128]
          rw [Nat.add_mul, Nat.mul_comm 128 (n / 128), Nat.mul_assoc]
        have hlt : n / 128 * 128 ^ (i + 1) < U64 := by rw [big_pow, u64_eq]; omega
        rw [List.take_succ_cons, dig_on (by omega) (by rw [hd]; omega)]
        exact ih (n / 128) (by omega) (i + 1) _ q (by omega) hlt (by simpa using hq)

theorem num_pos (n : Nat) : 0 < (num n).length := by
  by_cases h : n < 128
  · rw [num_small h]; simp
  · rw [num_big h]; simp

theorem bytesN_get (j c k : Nat) (h : k < j) (r : List UInt8) : ((bytesN j c ++ r).getD k 0).toNat = c / 256 ^ k % 256 := by
  induction j generalizing c k with
  | zero => omega
  | succ j ih =>
    cases k with
    | zero => simp [bytesN, u8_toNat]
    | succ k =>
      have := ih (c / 256) k (by omega)
      rw [bytesN, List.cons_append, List.getD_cons_succ, this, Nat.div_div_eq_div_mul, Nat.pow_succ, Nat.mul_comm]

theorem leN_mod (c k j : Nat) (h : k ≤ j) (r : List UInt8) : leN (bytesN j c ++ r) k = c % 256 ^ k := by
  induction k with
  | zero => simp [leN, Nat.mod_one]
  | succ k ih =>
    rw [leN, ih (by omega), bytesN_get j c k (by omega), Nat.pow_succ, Nat.mod_mul, Nat.mul_comm]

theorem leN_bytes (c : Nat) (hc : c < U64) (r : List UInt8) : leN (bytesN 8 c ++ r) 8 = c := by
  rw [leN_mod c 8 8 (by omega), Nat.mod_eq_of_lt]
  have e : 256 ^ 8 = 18446744073709551616 := by decide
  rw [e]; exact hc

theorem canon_nan (x : Nat) : ¬ (nanB (canon x) = true ∧ canon x ≠ nanW) := by
  unfold canon
  split
  · simp
  · rename_i h; simp [h]
theorem canon_lt {x : Nat} (h : x < U64) : canon x < U64 := by
  unfold canon; split
  · decide
  · exact h

/-! ### one read, where all of it is there, and where it isn't -/
variable {bs : List UInt8} {at_ : Nat}

theorem byte_ok {b : UInt8} {r : List UInt8} {most : Nat} (h : bs.drop at_ = b :: r) (hm : b.toNat ≤ most) : rByte bs at_ 0 most = (b.toNat, at_ + 1, 0) := by
  unfold rByte
  rw [h]
  simp; omega
theorem byte_cut {most : Nat} (h : bs.drop at_ = []) : rByte bs at_ 0 most = (0, at_, 10) := by
  unfold rByte
  rw [h]
  simp
theorem num_ok {n most : Nat} {r : List UInt8} (h : bs.drop at_ = num n ++ r) (hn : n < U64) (hm : n ≤ most) : rNum bs at_ 0 most = (n, at_ + (num n).length, 0) := by
  unfold rNum
  rw [h, dig_num 0 0 n r (by omega) (by simpa using hn) (by omega)]
  simp
  omega
theorem num_cut {n q most : Nat} (h : bs.drop at_ = (num n).take q) (hn : n < U64) (hq : q < (num n).length) : rNum bs at_ 0 most = (0, at_, 10) := by
  unfold rNum
  rw [h, dig_num_cut 0 0 n q (by omega) (by simpa using hn) hq]
  simp
theorem float_ok {x : Nat} {r : List UInt8} (h : bs.drop at_ = bytesN 8 (canon x) ++ r) (hx : x < U64) : rFloat bs at_ 0 = (canon x, at_ + 8, 0) := by
  unfold rFloat
  rw [h, leN_bytes _ (canon_lt hx), if_neg (by simp), if_neg (by simp [bytesN_len]), if_neg (canon_nan x)]
theorem float_cut (h : (bs.drop at_).length < 8) : rFloat bs at_ 0 = (0, at_, 10) := by
  unfold rFloat
  rw [if_neg (by simp), if_pos h]
theorem text_ok {t r : List UInt8} {most : Nat} (h : bs.drop at_ = num t.length ++ t ++ r) (ht : t.length < U64) (hm : t.length ≤ most) : rText bs at_ 0 most = (t, at_ + (num t.length ++ t).length, 0) := by
  rw [List.append_assoc] at h
  have hn := num_ok (most := most) h ht hm
  have hd : bs.drop (at_ + (num t.length).length) = t ++ r := by rw [← List.drop_drop, h, List.drop_left]
  unfold rText
  rw [hn]
  simp only
  rw [if_neg (by simp), hd, if_neg (by simp)]
  simp [Nat.add_assoc]
theorem text_cut {t : List UInt8} {q most : Nat} (h : bs.drop at_ = (num t.length ++ t).take q) (ht : t.length < U64) (hm : t.length ≤ most) (hq : q < (num t.length ++ t).length) : (rText bs at_ 0 most).2.2 = 10 := by
  by_cases hq1 : q < (num t.length).length
  · rw [List.take_append_of_le_length (by omega)] at h
    have hn := num_cut (most := most) h ht hq1
    unfold rText
    rw [hn]
    simp
  · have e : (num t.length ++ t).take q = num t.length ++ t.take (q - (num t.length).length) := by
      rw [List.take_append, List.take_of_length_le (by omega)]
    rw [e] at h
    have hn := num_ok (most := most) h ht hm
    have hd : bs.drop (at_ + (num t.length).length) = t.take (q - (num t.length).length) := by rw [← List.drop_drop, h, List.drop_left]
    unfold rText
    rw [hn]
    simp only
    rw [if_neg (by simp), hd, if_pos (by simp at hq ⊢; omega)]

end Go.Proofs.Ytaghpjlodlbmjaa.back
