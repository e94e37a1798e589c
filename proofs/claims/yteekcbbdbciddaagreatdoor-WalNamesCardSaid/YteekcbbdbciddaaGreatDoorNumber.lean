/- package pack's number: the number that bytes begin with. -/
import Derived.Test.YteekcbbdbciddaaGreatDoorSealM

namespace Go.Proofs.YteekcbbdbciddaaGreatDoor.number
open Go.RowKit Go.Proofs.YteekcbbdbciddaaGreatDoor.sum Go.Proofs.YteekcbbdbciddaaGreatDoor.kept Go.Proofs.YteekcbbdbciddaaGreatDoor.writer Go.Proofs.YteekcbbdbciddaaGreatDoor.unseal
set_option linter.unusedVariables false

/-- From digit i on, with n of the digits before: the number, how many digits, what is wrong. -/
def dig (i n : Nat) : List UInt8 → Nat × Nat × Nat
  | [] => (0, 0, 10)
  | d :: r =>
    if i = 9 ∧ 1 < d.toNat then (0, 0, 11)
    else if 128 ≤ d.toNat then dig (i + 1) (n + d.toNat % 128 * 128 ^ i) r
    else if d.toNat = 0 ∧ 0 < i then (0, 0, 11)
    else (n + d.toNat % 128 * 128 ^ i, i + 1, 0)

theorem dig_cut {n : Nat} {d : UInt8} {r : List UInt8} (h : 1 < d.toNat) : dig 9 n (d :: r) = (0, 0, 11) := by
  rw [dig]; rw [if_pos ⟨rfl, h⟩]
theorem dig_on {i n : Nat} {d : UInt8} {r : List UInt8} (h : ¬ (i = 9 ∧ 1 < d.toNat)) (h2 : 128 ≤ d.toNat) : dig i n (d :: r) = dig (i + 1) (n + d.toNat % 128 * 128 ^ i) r := by
  rw [dig]; rw [if_neg h, if_pos h2]
theorem dig_zero {i n : Nat} {d : UInt8} {r : List UInt8} (h2 : d.toNat = 0) (h3 : 0 < i) : dig i n (d :: r) = (0, 0, 11) := by
  rw [dig]; rw [if_neg (by omega), if_neg (by omega), if_pos ⟨h2, h3⟩]
theorem dig_end {i n : Nat} {d : UInt8} {r : List UInt8} (h : ¬ (i = 9 ∧ 1 < d.toNat)) (h2 : ¬ 128 ≤ d.toNat) (h3 : ¬ (d.toNat = 0 ∧ 0 < i)) : dig i n (d :: r) = (n + d.toNat % 128 * 128 ^ i, i + 1, 0) := by
  rw [dig]; rw [if_neg h, if_neg h2, if_neg h3]
theorem dig_nil (i n : Nat) : dig i n [] = (0, 0, 10) := rfl

def tup (r : Nat × Nat × Nat) : Value := .tuple #[.int .u64 (r.1 : Int), .int .i64 (r.2.1 : Int), .int .i64 (r.2.2 : Int)]

theorem tup_mk {a b : Int} {n s : Nat} (h1 : a = n) (h2 : b = s) : Ending.returned (.tuple #[.int .u64 a, .int .i64 b, .int .i64 0]) = .returned (tup (n, s, 0)) := by subst h1 h2; rfl

theorem andNot_fin : ∀ k : Fin 256, bits .andNot .u8 ((k.val : Nat) : Int) 128 = ((k.val % 128 : Nat) : Int) := by decide +kernel
theorem andNot128 (d : UInt8) : bits .andNot .u8 (d.toNat : Int) 128 = ((d.toNat % 128 : Nat) : Int) := andNot_fin ⟨d.toNat, UInt8.toNat_lt d⟩

theorem pow_le9 {i : Nat} (h : i ≤ 9) : 128 ^ i ≤ 9223372036854775808 := by
  have : 128 ^ i ≤ 128 ^ 9 := Nat.pow_le_pow_right (by omega) h
  have e : 128 ^ 9 = 9223372036854775808 := by decide
  omega

theorem pow128 (i : Nat) : (128 : Nat) ^ i = 2 ^ (7 * i) := by rw [show 128 = 2 ^ 7 by decide, ← Nat.pow_mul]

theorem dig_lt {d i : Nat} (hd : d < 128) (hi : i ≤ 9) (h9 : i = 9 → d ≤ 1) : d * 128 ^ i < 18446744073709551616 := by
  by_cases h : i = 9
  · subst h
    have := h9 rfl
    have e : 128 ^ 9 = 9223372036854775808 := by decide
    rw [e]
    omega
  · have : 128 ^ i ≤ 128 ^ 8 := Nat.pow_le_pow_right (by omega) (by omega)
    have e : 128 ^ 8 = 72057594037927936 := by decide
    have h2 : d * 128 ^ i ≤ 127 * 128 ^ 8 := Nat.mul_le_mul (by omega) this
    omega

theorem wrap_u64 (z : Int) (h : 0 ≤ z) (h2 : z < 18446744073709551616) : IntKind.u64.wrap z = z := by
  simp only [IntKind.wrap, IntKind.bits, IntKind.signed]
  simp
  omega

/-- a digit more -/
theorem or_dig (n i : Nat) (d : UInt8) (hn : n < 128 ^ i) (hi : i ≤ 9) (h9 : i = 9 → d.toNat ≤ 1) :
    bits .or .u64 (n : Int) (IntKind.u64.wrap ((d.toNat : Int) % 128 * 2 ^ (7 * i))) = ((n + d.toNat % 128 * 128 ^ i : Nat) : Int) := by
  have hp := pow_le9 hi
  have hlt := dig_lt (d := d.toNat % 128) (by omega) hi (by intro h; have := h9 h; omega)
  have e0 : (d.toNat : Int) % 128 * 2 ^ (7 * i) = ((d.toNat % 128 * 128 ^ i : Nat) : Int) := by
    rw [pow128]; simp
  rw [e0, wrap_u64 _ (by omega) (by omega), u64_or_nat _ _ (by omega) hlt]
  rw [Nat.or_comm, nat_join (7 * i) (d.toNat % 128 * 128 ^ i) n (by rw [pow128, Nat.mul_mod_left]) (by rw [← pow128]; exact hn), Nat.add_comm]

theorem dig_next {n i : Nat} {d : Nat} (hn : n < 128 ^ i) (hd : d < 128) : n + d * 128 ^ i < 128 ^ (i + 1) := by
  rw [Nat.pow_succ]
  have : d * 128 ^ i ≤ 127 * 128 ^ i := Nat.mul_le_mul_right _ (by omega)
  omega

set_option maxRecDepth 100000 in
set_option maxHeartbeats 1000000 in
theorem number_any (w : World) (v : Value) (bs : List UInt8) (h : Bs w v bs) :
    Calls Tryz.prog 123 #[v] w fun e w' => e = .returned (tup (dig 0 0 bs)) ∧ w = w' := by
  obtain ⟨a, cap, rfl, hl, hm, hc⟩ := h
  unfold maxLen at hm
  go_enter Tryz.func123, Tryz.ntmps123
  go_wp2
  go_loop [2, 9] (fun n i => ∃ k N : Nat, k ≤ bs.length ∧ k ≤ 9 ∧ i = .int .i64 k ∧ n = .int .u64 N ∧ N < 128 ^ k ∧ dig k N (bs.drop k) = dig 0 0 bs) (fun _ i => bs.length - (intOf i).toNat)
  case atStart => exact ⟨0, 0, Nat.zero_le _, by omega, rfl, rfl, by simp, rfl⟩
  case round =>
    obtain ⟨k, N, hk, hk9, rfl, rfl, hN, hdig⟩ := hrel
    have HN := Hid_mk hN
    have HDig := Hid_mk hdig
    clear hN hdig
    by_cases hlt : k < bs.length
    · obtain ⟨b, o, rfl, hcell⟩ := hc (by intro e; subst e; simp at hlt)
      have hx : w.cell? ⟨b, o + k, none⟩ = some (.int .u8 ((bs.getD k 0).toNat : Int)) := hcell k hlt
      have hd0 : bs.drop k = bs.getD k 0 :: bs.drop (k + 1) := by rw [List.drop_eq_getElem_cons hlt]; simp [List.getD, hlt]
      have HDrop := Hid_mk hd0
      have hxb : (bs.getD k 0).toNat < 256 := UInt8.toNat_lt _
      generalize bs.getD k 0 = d at *
      have hand := andNot128 d
      clear hcell hc hd0
      by_cases h9 : k = 9 ∧ 1 < d.toNat
      · obtain ⟨rfl, h1⟩ := h9
        have h1i : (1 : Int) < (d.toNat : Int) := by omega
        go_wp2
        refine bodyPost_ret (results_tmp3 rfl _ _ _) rfl ?_
        refine ⟨?_, rfl⟩
        have e : dig 0 0 bs = (0, 0, 11) := by rw [← HDig.out, HDrop.out, dig_cut h1]
        rw [e]
        rfl
      · by_cases hbig : 128 ≤ d.toNat
        · have hk8 : k ≤ 8 := by omega
          have hk9' : ((k : Int) == 9) = false := by simp; omega
          have hbi : (128 : Int) ≤ (d.toNat : Int) := by omega
          go_wp2
          rw [or_dig N k d HN.out hk9 (by omega)]
          go_round
          case rel => exact ⟨k + 1, _, by omega, by omega, by go_num, rfl, dig_next HN.out (by omega), by rw [← HDig.out, HDrop.out, dig_on h9 hbig]⟩
          case measure => simp [intOf]; omega
        · have hbi : ¬ (128 : Int) ≤ (d.toNat : Int) := by omega
          by_cases hz : d.toNat = 0 ∧ 0 < k
          · have hz1 : ((d.toNat : Int) == 0) = true := by simp; omega
            have hz2 : (0 : Int) < (k : Int) := by omega
            have e : dig 0 0 bs = (0, 0, 11) := by rw [← HDig.out, HDrop.out, dig_zero hz.1 hz.2]
            have HE := Hid_mk e
            clear e
            by_cases hk9' : k = 9
            · subst hk9'
              have h1i : ¬ (1 : Int) < (d.toNat : Int) := by omega
              have hd1 : decide ((1 : Int) < (d.toNat : Int)) = false := decide_eq_false h1i
              go_wp2
              refine bodyPost_ret (results_tmp3 rfl _ _ _) rfl ?_
              rw [HE.out]
              exact ⟨rfl, rfl⟩
            · have hk9'' : ((k : Int) == 9) = false := by simp; omega
              go_wp2
              refine bodyPost_ret (results_tmp3 rfl _ _ _) rfl ?_
              rw [HE.out]
              exact ⟨rfl, rfl⟩
          · have e : dig 0 0 bs = (N + d.toNat % 128 * 128 ^ k, k + 1, 0) := by rw [← HDig.out, HDrop.out, dig_end h9 hbig hz]
            have hor := or_dig N k d HN.out hk9 (by omega)
            have HOr := Hid_mk hor
            have HE := Hid_mk e
            clear e hor
            have hcase : (((d.toNat : Int) == 0) = false) ∨ (k = 0) := by
              by_cases h0 : d.toNat = 0
              · right; omega
              · left; simp; omega
            rcases hcase with hz1 | rfl
            · by_cases hk9' : k = 9
              · subst hk9'
                have hd1 : decide ((1 : Int) < (d.toNat : Int)) = false := decide_eq_false (by omega)
                clear hz h9
                go_wp2
                refine bodyPost_ret (results_tmp3 rfl _ _ _) rfl ?_
                rw [HE.out]
                have h := HOr.out
                rw [show ((2 : Int) ^ (7 * 9)) = 9223372036854775808 from by decide] at h
                exact ⟨tup_mk h rfl, rfl⟩
              · have hk9'' : ((k : Int) == 9) = false := by simp; omega
                clear hz h9
                go_wp2
                refine bodyPost_ret (results_tmp3 rfl _ _ _) rfl ?_
                rw [HE.out]
                exact ⟨tup_mk HOr.out (by omega), rfl⟩
            · have hx0 : w.cell? ⟨b, o, none⟩ = some (.int .u8 (d.toNat : Int)) := by simpa using hx
              obtain rfl : N = 0 := by have := HN.out; simp at this; omega
              clear hz h9 hx
              go_wp2
              all_goals
                refine bodyPost_ret (results_tmp3 rfl _ _ _) rfl ?_
                rw [HE.out]
                refine ⟨tup_mk ?_ rfl, rfl⟩
                have h := HOr.out
                simp only [Nat.mul_zero, Int.pow_zero, Int.mul_one] at h
                rw [wrap_u64 _ (by omega) (by omega)] at h
                first
                  | exact h
                  | (have h0 : d.toNat = 0 := by assumption
                     rw [h0]; decide)
    · go_wp2
      refine bodyPost_ret (results_tmp3 rfl _ _ _) rfl ?_
      refine ⟨?_, rfl⟩
      have e : dig 0 0 bs = (0, 0, 10) := by rw [← HDig.out, List.drop_of_length_le (by omega), dig_nil]
      rw [e]
      rfl

end Go.Proofs.YteekcbbdbciddaaGreatDoor.number
