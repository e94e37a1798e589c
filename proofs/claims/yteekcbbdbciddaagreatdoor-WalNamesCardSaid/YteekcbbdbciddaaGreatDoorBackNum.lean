/- What was laid is read as it was: whole numbers, bytes, texts. -/
import Derived.Test.YteekcbbdbciddaaGreatDoorReaderM
import Derived.Test.YteekcbbdbciddaaGreatDoorSealM

namespace Go.Proofs.YteekcbbdbciddaaGreatDoor.back
open Go.Proofs.YteekcbbdbciddaaGreatDoor.sum Go.Proofs.YteekcbbdbciddaaGreatDoor.kept Go.Proofs.YteekcbbdbciddaaGreatDoor.writer Go.Proofs.YteekcbbdbciddaaGreatDoor.seal Go.Proofs.YteekcbbdbciddaaGreatDoor.number Go.Proofs.YteekcbbdbciddaaGreatDoor.reader
set_option linter.unusedVariables false

theorem big_pow (i : Nat) : 128 ^ (i + 1) = 128 * 128 ^ i := by rw [Nat.pow_succ, Nat.mul_comm]

theorem dig_num (i m n : Nat) (r : List UInt8) (hi : i ≤ 9) (hn : n * 128 ^ i < U64) (h0 : 0 < i → 0 < n) : dig i m (num n ++ r) = (m + n * 128 ^ i, i + (num n).length, 0) := by
  induction n using Nat.strongRecOn generalizing i m with
  | ind n ih =>
    rw [u64_eq] at hn
    by_cases h : n < 128
    · rw [num_small h]
      have hd : n.toUInt8.toNat = n := by rw [u8_toNat]; omega
      show dig i m (n.toUInt8 :: r) = _
      rw [dig_end, hd]
      · simp only [List.length_singleton]
        rw [Nat.mod_eq_of_lt h]
      · rintro ⟨rfl, h2⟩
        rw [hd] at h2
        have e : 128 ^ 9 = 9223372036854775808 := by decide
        rw [e] at hn
        omega
      · rw [hd]; omega
      · rw [hd]
        rintro ⟨h2, h3⟩
        have := h0 h3
        omega
    · rw [num_big h]
      have hd : (n % 128 + 128).toUInt8.toNat = n % 128 + 128 := by rw [u8_toNat]; omega
      show dig i m ((n % 128 + 128).toUInt8 :: (num (n / 128) ++ r)) = _
      have hi8 : i ≤ 8 := by
        rcases Nat.lt_or_ge i 9 with h9 | h9
        · omega
        · obtain rfl : i = 9 := by omega
          have e : 128 ^ 9 = 9223372036854775808 := by decide
          rw [e] at hn
          omega
      have hsplit : n * 128 ^ i = n % 128 * 128 ^ i + n / 128 * (128 * 128 ^ i) := by
        conv => lhs; rw [← Nat.mod_add_div n 128]
        rw [Nat.add_mul, Nat.mul_comm 128 (n / 128), Nat.mul_assoc]
      have hlt : n / 128 * 128 ^ (i + 1) < U64 := by rw [big_pow, u64_eq]; omega
      rw [dig_on (by omega) (by rw [hd]; omega), hd, ih (n / 128) (by omega) (i + 1) _ (by omega) hlt (fun _ => by omega)]
      rw [big_pow, show (n % 128 + 128) % 128 = n % 128 by omega]
      simp only [List.length_cons, Prod.mk.injEq, and_true]
      exact ⟨by omega, by omega⟩

theorem num_pos (n : Nat) : 0 < (num n).length := by
  by_cases h : n < 128
  · rw [num_small h]; simp
  · rw [num_big h]; simp

variable {bs : List UInt8} {at_ : Nat}
theorem byte_ok {b : UInt8} {r : List UInt8} {most : Nat} (h : bs.drop at_ = b :: r) (hm : b.toNat ≤ most) : rByte bs at_ 0 most = (b.toNat, at_ + 1, 0) := by
  unfold rByte
  rw [h]
  simp; omega
theorem num_ok {n most : Nat} {r : List UInt8} (h : bs.drop at_ = num n ++ r) (hn : n < U64) (hm : n ≤ most) : rNum bs at_ 0 most = (n, at_ + (num n).length, 0) := by
  unfold rNum
  rw [h, dig_num 0 0 n r (by omega) (by simpa using hn) (by omega)]
  simp
  omega
theorem text_ok {t r : List UInt8} {most : Nat} (h : bs.drop at_ = num t.length ++ t ++ r) (ht : t.length < U64) (hm : t.length ≤ most) : rText bs at_ 0 most = (t, at_ + (num t.length ++ t).length, 0) := by
  rw [List.append_assoc] at h
  have hn := num_ok (most := most) h ht hm
  have hd : bs.drop (at_ + (num t.length).length) = t ++ r := by rw [← List.drop_drop, h, List.drop_left]
  unfold rText
  rw [hn]
  simp only
  rw [if_neg (by simp), hd, if_neg (by simp)]
  simp [Nat.add_assoc]

end Go.Proofs.YteekcbbdbciddaaGreatDoor.back
