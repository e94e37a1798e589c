/- The walk of the statement tailracelaw10.NfaLong. -/
import Derived.Test.YtaneblecgjahbabNfaLongPM

namespace Go.Proofs.Ytaneblecgjahbab.nfa
open Go.RowKit Go.Proofs.Ytaneblecgjahbab.sum Go.Proofs.Ytaneblecgjahbab.kept Go.Proofs.Ytaneblecgjahbab.pop Go.Proofs.Ytaneblecgjahbab.cls Go.Proofs.Ytaneblecgjahbab.tre Go.Proofs.Ytaneblecgjahbab.ere Go.Proofs.Ytaneblecgjahbab.str Go.Proofs.Ytaneblecgjahbab.turned
set_option linter.unusedVariables false

/-- New of a text without [ and \ -/
theorem new_plain (w : World) (l : List UInt8) (t : Tr) (hx : parseS l (fun _ => none) (8 * l.length + 8) = (t, 0, 0)) (hr : rightS t = true) (hl : l.length < 1000000000) (h2 : l.all (fun b => b.toNat != 91) = true) :
    Calls Try.prog 16 #[.string (st l)] w (NoPost w t) := by
  have h := parse_any w l (fun _ => none) hl (fun q => brkt_plain (no_byte h2)) (fun q => sign_all (by omega))
  rw [hx] at h
  have hp : Calls Try.prog 21 #[.string (st l)] w (PaPost w (t, 0, 0)) := by
    refine h.mono ?_
    rintro e w' ⟨v, rfl, hv, hk⟩
    obtain ⟨K, F, L⟩ := t
    obtain ⟨a, c, rfl, h1, h2, h3⟩ := hv
    exact ⟨K, F, a, _, c, rfl, ReV.wider (fun _ _ _ => trivial) _ _ ⟨a, c, rfl, h1, h2, h3⟩, hk⟩
  refine (newM_any w (st l) (t, 0, 0) hp).mono ?_
  rintro e w' ⟨hk, ⟨h, -⟩ | ⟨-, -, mb, rfl, hm, hb⟩ | ⟨-, h, -⟩⟩
  · exact absurd rfl h
  · exact ⟨mb, rfl, hm, hk, hb⟩
  · rw [hr] at h; cases h
theorem idxq (k : Nat) (l : List UInt8) (h : (k = 0 ∧ l = lq0) ∨ (k = 1 ∧ l = lq1) ∨ (k = 2 ∧ l = lq2) ∨ (k = 3 ∧ l = lq3)) (W : World) : (Instr.index 53 (.agg #[.string ⟨#[40, 97, 42, 41, 42, 98]⟩, .string ⟨#[40, 97, 124, 97, 124, 97, 97, 41, 42, 99]⟩, .string ⟨#[40, 97, 63, 41, 123, 50, 48, 125, 97, 123, 50, 48, 125, 100]⟩, .string ⟨#[40, 40, 97, 43, 41, 43, 41, 43, 98]⟩]) (.int .i64 (k : Int))).run Try.prog W = .ok (.string (st l)) W := by
  have u3 := run_underlying Try.underlying53
  have z := Try.sizeOf9
  have a := Try.isAgg9
  rcases h with ⟨rfl, rfl⟩ | ⟨rfl, rfl⟩ | ⟨rfl, rfl⟩ | ⟨rfl, rfl⟩ <;> (unfold Instr.index; simp [asIntOf, u3, part, a, z, go_sem, st, lq0, lq1, lq2, lq3])
theorem add_as (k : Nat) (hk : k ≤ 1000) (W : World) : (Op.stringOp .add (st (asL k)) ⟨#[97]⟩).run Try.prog W = .ok (.string (st (asL (k + 1)))) W := by
  have h := run_add_str (asL k) [97] (by unfold asL; simp; omega) W
  have e : asL (k + 1) = asL k ++ [97] := by unfold asL; rw [List.replicate_succ']
  rw [e]
  exact h

set_option maxRecDepth 100000 in
set_option maxHeartbeats 16000000 in
theorem long_q (k : Int) (K : Nat) (hK : k % 4 = (K : Int)) (l : List UInt8) (c : UInt8) (m : Nat) (hi : (K = 0 ∧ l = lq0) ∨ (K = 1 ∧ l = lq1) ∨ (K = 2 ∧ l = lq2) ∨ (K = 3 ∧ l = lq3)) (hc : (K = 0 ∧ c = 98 ∧ m = 0) ∨ (K = 1 ∧ c = 99 ∧ m = 0) ∨ (K = 2 ∧ c = 100 ∧ m = 20) ∨ (K = 3 ∧ c = 98 ∧ m = 1)) (hq : QOk l c m) (hll : l.length < 1000000000) (h91 : l.all (fun b => b.toNat != 91) = true) (hc97 : c.toNat ≠ 97) (w : World) (n : Int) :
    Calls Try.prog 6 #[.int .i64 n, .int .i64 k] w fun e w' => e = .returned (.bool true) ∧ Kp No w w' := by
  have HP1 := Hid_mk fun W => pick_any n 900 (by decide) (by decide) W
  have HP2 := Hid_mk fun W => pick_any k 4 (by decide) (by decide) W
  obtain ⟨N, hN⟩ : ∃ N : Nat, n % 900 = (N : Int) := ⟨(n % 900).toNat, by omega⟩
  have hN2 : N ≤ 899 := by omega
  rw [hN] at HP1
  rw [hK] at HP2
  have HN := Hid_mk hN2
  have HKn := Hid_mk fun W => known10_any W
  obtain ⟨q1, q2, q3, q4, q5, q6⟩ := hq
  have HNew := Hid_mk fun W => new_plain W l (tq l) q1 q2 hll h91
  have HNo := Hid_mk (long_no (tq l) q3 c.toNat N q4 hc97)
  obtain ⟨fa, fe, hf, hfe⟩ := long_yes (tq l) q3 c N m q4 hc97 q5 q6
  have HYes := Hid_mk hf
  have HFe := Hid_mk hfe
  have hidx := fun W => idxq K l hi W
  have HHc := Hid_mk hc
  have HR := Hid_mk q2
  clear hN hN2 hi hc q1 q2 q3 q4 q5 q6 hf hfe hK hc97 h91 hll
  go_enter Try.func6, Try.ntmps6
  go_wp2_with fail
  with_reducible refine (HP1.out _).mono ?_
  rintro e W0 ⟨rfl, rfl⟩
  clear HP1
  go_wp2
  go_loop [5, 6] (fun s i => ∃ j : Nat, j ≤ N ∧ s = .string (st (asL j)) ∧ i = .int .i64 (j : Int)) (fun _ i => N - (intOf i).toNat)
  case atStart => exact ⟨0, Nat.zero_le _, rfl, rfl⟩
  case round =>
    obtain ⟨j, hj, rfl, rfl⟩ := hrel
    have HJ := Hid_mk hj
    by_cases hlt : j < N
    · have hji : (j : Int) < (N : Int) := by omega
      have hj0 : (0 : Int) ≤ (j : Int) := Int.natCast_nonneg _
      have hj9 : (j : Int) ≤ 899 := by have := HN.out; omega
      have hadd := fun W => add_as j (by have := HN.out; omega) W
      have HLt := Hid_mk hlt
      clear hj hlt hidx
      go_wp2
      go_round
      case rel => exact ⟨j + 1, HLt.out, rfl, by go_num⟩
      case measure => have := HLt.out; simp [intOf]; omega
    · obtain rfl : j = N := by omega
      have hji : ¬ ((j : Nat) : Int) < (j : Int) := by omega
      clear hj hlt
      go_wp2_with fail
      with_reducible refine (HP2.out _).mono ?_
      rintro e W1 ⟨rfl, rfl⟩
      go_wp2_with fail
      with_reducible refine (HNew.out _).mono ?_
      rintro e w4 ⟨mb, rfl, hm4, hk4, hb4⟩
      have HM := Hid_mk hm4
      have HK4 := Hid_mk hk4
      clear hm4 hk4 hb4
      go_wp2_with fail
      with_reducible refine (HKn.out _).mono ?_
      rintro e w5 ⟨rfl, hk5⟩
      have HM5 := Hid_mk (HM.out.no hk5)
      have HK5 := Hid_mk (HK4.out.trans' hk5)
      clear hk5
      have hfno : ∀ V, MAt V mb (tq l) → Calls Try.prog 18 #[.pointer (some ⟨mb, 0, none⟩), .string (st (asL j)), .int .i64 0] V fun e w' => e = .returned (.tuple #[.int .i64 0, .int .i64 0, .bool false]) ∧ Kp No V w' := fun V h => by
        have h := find_m V mb (tq l) (st (asL j)) 0 h HR.out (by rw [st_size]; unfold asL; rw [List.length_replicate]; have := HN.out; omega) (Nat.zero_le _)
        rw [HNo.out] at h
        exact h
      have hfyes : ∀ V, MAt V mb (tq l) → Calls Try.prog 18 #[.pointer (some ⟨mb, 0, none⟩), .string (st (asL j ++ [c])), .int .i64 0] V fun e w' => e = .returned (.tuple #[.int .i64 (fa : Int), .int .i64 (fe : Int), .bool (decide (m ≤ j))]) ∧ Kp No V w' := fun V h => by
        have h := find_m V mb (tq l) (st (asL j ++ [c])) 0 h HR.out (by rw [st_size]; unfold asL; rw [List.length_append, List.length_replicate]; have := HN.out; simp; omega) (Nat.zero_le _)
        rw [HYes.out] at h
        exact h
      have HFno := Hid_mk hfno
      have HFyes := Hid_mk hfyes
      clear hfno hfyes
      go_wp2_with fail
      with_reducible refine (HFno.out _ HM5.out).mono ?_
      rintro e w6 ⟨rfl, hk6⟩
      have HM6 := Hid_mk (HM5.out.no hk6)
      have HK6 := Hid_mk (HK5.out.trans' hk6)
      clear hk6 HFno
      have hadd : ∀ W, (Op.stringOp .add (st (asL j)) ⟨#[c]⟩).run Try.prog W = .ok (.string (st (asL j ++ [c]))) W := fun W => run_add_str (asL j) [c] (by unfold asL; rw [List.length_replicate]; have := HN.out; simp; omega) W
      have hcc := HHc.out
      rcases hcc with ⟨rfl, rfl, rfl⟩ | ⟨rfl, rfl, rfl⟩ | ⟨rfl, rfl, rfl⟩ | ⟨rfl, rfl, rfl⟩
      · go_wp2_with fail
        with_reducible refine (HP2.out _).mono ?_
        rintro e w7 ⟨rfl, rfl⟩
        go_wp2_with fail
        with_reducible refine (HFyes.out _ HM6.out).mono ?_
        rintro e w7 ⟨rfl, hk7⟩
        have HK7 := Hid_mk (HK6.out.trans' hk7)
        clear hk7 HFyes
        go_wp2_with fail
        with_reducible refine (HP2.out _).mono ?_
        rintro e w8 ⟨rfl, rfl⟩
        go_wp2_with fail
        with_reducible refine (HP2.out _).mono ?_
        rintro e w8 ⟨rfl, rfl⟩
        have hfe := HFe.out
        by_cases hmj : 0 ≤ j
        · have hd : decide (0 ≤ j) = true := decide_eq_true hmj
          obtain rfl : fe = j + 1 := hfe hmj
          have hmi : (0 : Int) ≤ (j : Int) := by omega
          have hmd : decide ((0 : Int) ≤ (j : Int)) = true := decide_eq_true hmi
          have hj9 : (j : Int) ≤ 899 := by have := HN.out; omega
          have hj0 : (0 : Int) ≤ (j : Int) := Int.natCast_nonneg _
          go_wp2
          go_ret
          exact ⟨rfl, HK7.out⟩
        · exact absurd (Nat.zero_le _) hmj
      · go_wp2_with fail
        with_reducible refine (HP2.out _).mono ?_
        rintro e w7 ⟨rfl, rfl⟩
        go_wp2_with fail
        with_reducible refine (HFyes.out _ HM6.out).mono ?_
        rintro e w7 ⟨rfl, hk7⟩
        have HK7 := Hid_mk (HK6.out.trans' hk7)
        clear hk7 HFyes
        go_wp2_with fail
        with_reducible refine (HP2.out _).mono ?_
        rintro e w8 ⟨rfl, rfl⟩
        go_wp2_with fail
        with_reducible refine (HP2.out _).mono ?_
        rintro e w8 ⟨rfl, rfl⟩
        have hfe := HFe.out
        by_cases hmj : 0 ≤ j
        · have hd : decide (0 ≤ j) = true := decide_eq_true hmj
          obtain rfl : fe = j + 1 := hfe hmj
          have hmi : (0 : Int) ≤ (j : Int) := by omega
          have hmd : decide ((0 : Int) ≤ (j : Int)) = true := decide_eq_true hmi
          have hj9 : (j : Int) ≤ 899 := by have := HN.out; omega
          have hj0 : (0 : Int) ≤ (j : Int) := Int.natCast_nonneg _
          go_wp2
          go_ret
          exact ⟨rfl, HK7.out⟩
        · exact absurd (Nat.zero_le _) hmj
      · go_wp2_with fail
        with_reducible refine (HP2.out _).mono ?_
        rintro e w7 ⟨rfl, rfl⟩
        go_wp2_with fail
        with_reducible refine (HFyes.out _ HM6.out).mono ?_
        rintro e w7 ⟨rfl, hk7⟩
        have HK7 := Hid_mk (HK6.out.trans' hk7)
        clear hk7 HFyes
        go_wp2_with fail
        with_reducible refine (HP2.out _).mono ?_
        rintro e w8 ⟨rfl, rfl⟩
        go_wp2_with fail
        with_reducible refine (HP2.out _).mono ?_
        rintro e w8 ⟨rfl, rfl⟩
        have hfe := HFe.out
        by_cases hmj : 20 ≤ j
        · have hd : decide (20 ≤ j) = true := decide_eq_true hmj
          obtain rfl : fe = j + 1 := hfe hmj
          have hmi : (20 : Int) ≤ (j : Int) := by omega
          have hmd : decide ((20 : Int) ≤ (j : Int)) = true := decide_eq_true hmi
          have hj9 : (j : Int) ≤ 899 := by have := HN.out; omega
          have hj0 : (0 : Int) ≤ (j : Int) := Int.natCast_nonneg _
          go_wp2
          go_ret
          exact ⟨rfl, HK7.out⟩
        · have hd : decide (20 ≤ j) = false := decide_eq_false hmj
          have hmi : ¬ (20 : Int) ≤ (j : Int) := by omega
          have hmd : decide ((20 : Int) ≤ (j : Int)) = false := decide_eq_false hmi
          go_wp2
          go_ret
          exact ⟨rfl, HK7.out⟩
      · go_wp2_with fail
        with_reducible refine (HP2.out _).mono ?_
        rintro e w7 ⟨rfl, rfl⟩
        go_wp2_with fail
        with_reducible refine (HFyes.out _ HM6.out).mono ?_
        rintro e w7 ⟨rfl, hk7⟩
        have HK7 := Hid_mk (HK6.out.trans' hk7)
        clear hk7 HFyes
        go_wp2_with fail
        with_reducible refine (HP2.out _).mono ?_
        rintro e w8 ⟨rfl, rfl⟩
        go_wp2_with fail
        with_reducible refine (HP2.out _).mono ?_
        rintro e w8 ⟨rfl, rfl⟩
        have hfe := HFe.out
        by_cases hmj : 1 ≤ j
        · have hd : decide (1 ≤ j) = true := decide_eq_true hmj
          obtain rfl : fe = j + 1 := hfe hmj
          have hmi : (1 : Int) ≤ (j : Int) := by omega
          have hmd : decide ((1 : Int) ≤ (j : Int)) = true := decide_eq_true hmi
          have hj9 : (j : Int) ≤ 899 := by have := HN.out; omega
          have hj0 : (0 : Int) ≤ (j : Int) := Int.natCast_nonneg _
          go_wp2
          go_ret
          exact ⟨rfl, HK7.out⟩
        · have hd : decide (1 ≤ j) = false := decide_eq_false hmj
          have hmi : ¬ (1 : Int) ≤ (j : Int) := by omega
          have hmd : decide ((1 : Int) ≤ (j : Int)) = false := decide_eq_false hmi
          go_wp2
          go_ret
          exact ⟨rfl, HK7.out⟩

/-- the law, of any two numbers -/
theorem long_any (w : World) (n k : Int) : Calls Try.prog 6 #[.int .i64 n, .int .i64 k] w fun e w' => e = .returned (.bool true) ∧ Kp No w w' := by
  rcases (by omega : k % 4 = 0 ∨ k % 4 = 1 ∨ k % 4 = 2 ∨ k % 4 = 3) with h | h | h | h
  · exact long_q k 0 h lq0 98 0 (.inl ⟨rfl, rfl⟩) (.inl ⟨rfl, rfl, rfl⟩) q0 (by decide) (by decide) (by decide) w n
  · exact long_q k 1 h lq1 99 0 (.inr (.inl ⟨rfl, rfl⟩)) (.inr (.inl ⟨rfl, rfl, rfl⟩)) q1 (by decide) (by decide) (by decide) w n
  · exact long_q k 2 h lq2 100 20 (.inr (.inr (.inl ⟨rfl, rfl⟩))) (.inr (.inr (.inl ⟨rfl, rfl, rfl⟩))) q2 (by decide) (by decide) (by decide) w n
  · exact long_q k 3 h lq3 98 1 (.inr (.inr (.inr ⟨rfl, rfl⟩))) (.inr (.inr (.inr ⟨rfl, rfl, rfl⟩))) q3 (by decide) (by decide) (by decide) w n

end Go.Proofs.Ytaneblecgjahbab.nfa
