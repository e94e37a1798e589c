/- WalNames: the reference's Name, and the walk. -/
import Derived.Test.YteekcbbdbciddaaGreatDoorWalKnown0

namespace Go.Proofs.YteekcbbdbciddaaGreatDoor.wal
open Go.RowKit Go.Proofs.YteekcbbdbciddaaGreatDoor.fl Go.Proofs.YteekcbbdbciddaaGreatDoor.sum Go.Proofs.YteekcbbdbciddaaGreatDoor.kept Go.Proofs.YteekcbbdbciddaaGreatDoor.app Go.Proofs.YteekcbbdbciddaaGreatDoor.writer Go.Proofs.YteekcbbdbciddaaGreatDoor.clone Go.Proofs.YteekcbbdbciddaaGreatDoor.known Go.Proofs.YteekcbbdbciddaaGreatDoor.mrk Go.Proofs.YteekcbbdbciddaaGreatDoor.hex Go.Proofs.YteekcbbdbciddaaGreatDoor.fs Go.Proofs.YteekcbbdbciddaaGreatDoor.fsUsed Go.Proofs.YteekcbbdbciddaaGreatDoor.dsk Go.Proofs.YteekcbbdbciddaaGreatDoor.frm
set_option linter.unusedVariables false

/-- a number's last k digits -/
def lowd : Nat → Nat → List UInt8
  | 0, _ => []
  | k + 1, n => hexd (n / 16 ^ k % 16) :: lowd k n
theorem lowd_len (k n : Nat) : (lowd k n).length = k := by
  induction k with
  | zero => rfl
  | succ k ih => simp [lowd, ih]
theorem lowd_next (k n : Nat) : lowd (k + 1) n = lowd k (n / 16) ++ [hexd (n % 16)] := by
  induction k with
  | zero => simp [lowd]
  | succ k ih =>
    rw [lowd, ih, lowd, List.cons_append, Nat.div_div_eq_div_mul, Nat.pow_succ, Nat.mul_comm]
theorem lowd_zero (k : Nat) : lowd k 0 = List.replicate k 48 := by
  induction k with
  | zero => rfl
  | succ k ih => rw [lowd, ih, List.replicate_succ]; simp; rfl
theorem lowd_hexs (k n : Nat) (h : (hexs n).length ≤ k) : lowd k n = List.replicate (k - (hexs n).length) 48 ++ hexs n := by
  induction n using Nat.strongRecOn generalizing k with
  | ind n ih =>
    cases k with
    | zero => have := hexs_pos n; omega
    | succ k =>
      rw [lowd_next]
      by_cases hn : n < 16
      · rw [hexs_small hn, Nat.div_eq_of_lt hn, Nat.mod_eq_of_lt hn, lowd_zero]; simp
      · rw [hexs_big hn] at h ⊢
        simp only [List.length_append, List.length_singleton] at h ⊢
        rw [ih (n / 16) (by omega) k (by omega), List.append_assoc, show k + 1 - ((hexs (n / 16)).length + 1) = k - (hexs (n / 16)).length by omega]

theorem cons_cat (c : UInt8) (l : List UInt8) : (⟨[c].toArray⟩ : ByteArray) ++ ⟨l.toArray⟩ = ⟨(c :: l).toArray⟩ := by
  apply ByteArray.ext
  rw [← Array.toList_inj]
  simp

def hx16 : ByteArray := ⟨#[48, 49, 50, 51, 52, 53, 54, 55, 56, 57, 97, 98, 99, 100, 101, 102]⟩
theorem hx16_at : ∀ d : Fin 16, hx16.extract d.val (d.val + 1) = ⟨[hexd d.val].toArray⟩ := by decide +kernel
theorem run_dig (m : Nat) (W : World) : (Instr.slice 9 (.string hx16) (some (.int .u64 ((m : Int) % 16))) (some (.int .u64 ((m : Int) % 16 + 1))) none).run Tryz.prog W = .ok (.string ⟨[hexd (m % 16)].toArray⟩) W := by
  have hs : hx16.size = 16 := rfl
  rw [run_slice_string W 9 hx16 .u64 .u64 _ _ Tryz.underlying9 (by omega) (by omega) (by rw [hs]; omega)]
  have h := hx16_at ⟨m % 16, by omega⟩
  simp only at h
  rw [show ((m : Int) % 16).toNat = m % 16 by omega, show ((m : Int) % 16 + 1).toNat = m % 16 + 1 by omega, h]
theorem run_str_add (xs ys : List UInt8) (h : xs.length + ys.length ≤ 1000000000) (W : World) : (Op.stringOp .add ⟨xs.toArray⟩ ⟨ys.toArray⟩).run Tryz.prog W = .ok (.string ⟨(xs ++ ys).toArray⟩) W := by
  have e : (⟨xs.toArray⟩ : ByteArray) ++ ⟨ys.toArray⟩ = ⟨(xs ++ ys).toArray⟩ := by
    apply ByteArray.ext
    simp
  rw [← e]
  refine run_string_add_sum (P := Tryz.prog) (w := W) _ _ ?_
  show xs.toArray.size + ys.toArray.size ≤ _
  simp
  omega

def NmRel (n : Nat) (e s i : Value) : Prop := ∃ k : Nat, k ≤ 15 ∧ e = .int .u64 ((n / 16 ^ k : Nat) : Int) ∧ s = .string ⟨(lowd k n).toArray⟩ ∧ i = .int .i64 (k : Int)

set_option maxRecDepth 100000 in
set_option maxHeartbeats 2000000 in
theorem refName_any (n : Nat) (hn : n ≤ 1099511627776) (w : World) : Calls Tryz.prog 15 #[.int .u64 (n : Int)] w fun e w' => e = .returned (.string ⟨(nameOf n).toArray⟩) ∧ w = w' := by
  have hn' : ¬ (1099511627776 : Int) < (n : Int) := by omega
  have HN := Hid_mk hn
  clear hn
  go_enter Tryz.func15, Tryz.ntmps15
  go_wp2
  go_loop [0, 3, 4] (fun e s i => NmRel n e s i) (fun _ _ i => 15 - (intOf i).toNat)
  case atStart => exact ⟨0, Nat.zero_le _, by simp, rfl, rfl⟩
  case round =>
    obtain ⟨k, hk, rfl, rfl, rfl⟩ := hrel
    have hl := lowd_len k n
    have hlt2 : n / 16 ^ k ≤ 1099511627776 := Nat.le_trans (Nat.div_le_self _ _) HN.out
    by_cases hlt : k < 15
    · have hsn : lowd (k + 1) n = hexd (n / 16 ^ k % 16) :: lowd k n := rfl
      have hdv : n / 16 ^ (k + 1) = n / 16 ^ k / 16 := by rw [Nat.div_div_eq_div_mul, Nat.pow_succ]
      have HSn := Hid_mk hsn
      have HDv := Hid_mk hdv
      clear hsn hdv
      generalize n / 16 ^ k = m at *
      generalize lowd k n = l at *
      have HL := Hid_mk hl
      have hq := run_dig m w
      unfold hx16 at hq
      have hadd := run_str_add [hexd (m % 16)] l (by simp; omega) w
      go_wp2
      exact ⟨⟨k + 1, by omega, by rw [HDv.out]; go_num, by rw [HSn.out], by go_num⟩, by simp [intOf]; omega⟩
    · obtain rfl : k = 15 := by omega
      have hlw := lowd_hexs 15 n (by have := name_len n HN.out; omega)
      have hnm : 106 :: lowd 15 n = nameOf n := by rw [hlw]; rfl
      have HNm := Hid_mk hnm
      have hadd := run_str_add [106] (lowd 15 n) (by simp; omega) w
      clear hlw hnm hlt2 hl
      generalize lowd 15 n = l at *
      go_wp2
      go_ret
      exact ⟨by rw [← HNm.out]; rfl, rfl⟩

set_option maxRecDepth 100000 in
set_option maxHeartbeats 1000000 in
theorem refName_no (n : Nat) (hn : 1099511627776 < n) (w : World) : Calls Tryz.prog 15 #[.int .u64 (n : Int)] w fun e w' => e = .returned (.string ⟨#[]⟩) ∧ w = w' := by
  have hn' : (1099511627776 : Int) < (n : Int) := by omega
  go_enter Tryz.func15, Tryz.ntmps15
  go_wp2
  go_ret
  exact ⟨rfl, rfl⟩

set_option maxRecDepth 100000 in
set_option maxHeartbeats 2000000 in
theorem walNames_any (n : Nat) (w : World) (ht : Tz w) : Calls Tryz.prog 4 #[.int .u64 (n : Int)] w fun e w' => e = .returned (.bool true) ∧ Kp No w w' := by
  have HK := Hid_mk (known_any w ht)
  have HT := Hid_mk ht
  clear ht
  obtain ⟨s, hs1, hs2⟩ : ∃ s : ByteArray, (∀ w, Tz w → Calls Tryz.prog 13 #[.int .u64 (n : Int)] w fun e w' => e = .returned (.string s) ∧ Kp No w w') ∧
      ∀ w, Calls Tryz.prog 15 #[.int .u64 (n : Int)] w fun e w' => e = .returned (.string s) ∧ w = w' := by
    by_cases h : n ≤ 1099511627776
    · exact ⟨_, fun w ht => name_any n h w ht, fun w => refName_any n h w⟩
    · exact ⟨_, fun w ht => (name_no n (by omega) w).mono fun e w' ⟨he, hw⟩ => ⟨he, hw ▸ Kp.refl _ _⟩, fun w => refName_no n (by omega) w⟩
  have H1 := Hid_mk hs1
  have H2 := Hid_mk hs2
  clear hs1 hs2
  go_enter Tryz.func4, Tryz.ntmps4
  go_wp2_with fail
  with_reducible refine HK.out.mono ?_
  rintro e w1 ⟨rfl, hk1⟩
  have HK1 := Hid_mk hk1
  have HN := Hid_mk (H1.out w1 (HT.out.no hk1))
  clear hk1
  go_wp2_with fail
  with_reducible refine HN.out.mono ?_
  rintro e w2 ⟨rfl, hk2⟩
  have HK2 := Hid_mk (HK1.out.trans' hk2)
  clear hk2
  go_wp2_with fail
  with_reducible refine (H2.out _).mono ?_
  rintro e w' ⟨rfl, rfl⟩
  go_wp2
  go_ret
  exact ⟨by simp, HK2.out⟩

theorem walNames_row (a : Int) (ha : (Lit.int .u64 a).wf = true) (w : World) (ht : Tz w) : Calls Tryz.prog 4 #[.int .u64 a] w fun e w' => e = .returned (.bool true) ∧ Kp No w w' := by
  have ha' : 0 ≤ a ∧ a ≤ 18446744073709551615 := by simpa [Lit.wf, IntKind.min, IntKind.max, IntKind.signed, IntKind.bits] using ha
  obtain ⟨n, rfl⟩ : ∃ n : Nat, a = (n : Int) := ⟨a.toNat, by omega⟩
  exact walNames_any n w ht

end Go.Proofs.YteekcbbdbciddaaGreatDoor.wal
