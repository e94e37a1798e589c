/- The walk of the statement tailracelaw10.NfaKnown. -/
import Derived.Test.YtjalnddgbnjmcaaNfaBackM

namespace Go.Proofs.Ytjalnddgbnjmcaa.nfa
open Go.RowKit Go.Proofs.Ytjalnddgbnjmcaa.sum Go.Proofs.Ytjalnddgbnjmcaa.kept Go.Proofs.Ytjalnddgbnjmcaa.pop Go.Proofs.Ytjalnddgbnjmcaa.cls Go.Proofs.Ytjalnddgbnjmcaa.tre Go.Proofs.Ytjalnddgbnjmcaa.ere Go.Proofs.Ytjalnddgbnjmcaa.fl Go.Proofs.Ytjalnddgbnjmcaa.mrk Go.Proofs.Ytjalnddgbnjmcaa.spl Go.Proofs.Ytjalnddgbnjmcaa.str
set_option linter.unusedVariables false

def T3 : Tr := kid1 4 (setT (ofL [98]))
def T4 : Tr := kid2 2 (leafT 7) (setT (ofL [97]))
theorem p_t3 : parseS [98, 42] (fun _ => none) (8 * [98, 42].length + 8) = (T3, 0, 0) := by kernel_rfl
theorem p_t4 : parseS [94, 97] (fun _ => none) (8 * [94, 97].length + 8) = (T4, 0, 0) := by kernel_rfl
theorem p_t5 : parseS [97, 40] (fun _ => none) (8 * [97, 40].length + 8) = (leafT 0, 2, 24) := by kernel_rfl
theorem r_t3 : rightS T3 = true := by kernel_rfl
theorem r_t4 : rightS T4 = true := by kernel_rfl
theorem r_t5 : rightS (leafT 9) = false := by kernel_rfl
theorem at_1 : atRun (oS (progS T3 false) false ⟨#[97, 98]⟩) ((⟨#[97, 98]⟩ : ByteArray).size + 1) (begS (oS (progS T3 false) false ⟨#[97, 98]⟩) (newS (oS (progS T3 false) false ⟨#[97, 98]⟩) 0)) (0, false) = (0, true) := by kernel_rfl
theorem fd_2 : (fdRun (oS (progS T4 false) false ⟨#[97, 97]⟩) ((⟨#[97, 97]⟩ : ByteArray).size + 1) (newS (oS (progS T4 false) false ⟨#[97, 97]⟩) 1) (0, 0) false) = ((0, 0), false) := by kernel_rfl
theorem com_9 (w : World) : Calls Try.prog 12 #[.agg #[.int .i64 9, .int .u64 0, .int .u64 0, .int .u64 0, .int .u64 0, .slice none 0 0]] w fun e w' => e = .returned (.tuple #[.pointer none, .int .i64 1]) ∧ Kp No w w' := by
  have h := compile_any w (leafT 9) 9 (fun _ => false) none 0 0 (leaf_val All w 9 (fun _ => false) 0 (by decide) none)
  have e0 : wd (fun _ => false) 0 64 = 0 := by kernel_rfl
  have e1 : wd (fun _ => false) 64 64 = 0 := by kernel_rfl
  have e2 : wd (fun _ => false) 128 64 = 0 := by kernel_rfl
  have e3 : wd (fun _ => false) 192 64 = 0 := by kernel_rfl
  rw [e0, e1, e2, e3] at h
  refine Calls.mono h ?_
  rintro e w' ⟨hk, ⟨h, -⟩ | ⟨-, rfl⟩⟩
  · rw [r_t5] at h; cases h
  · exact ⟨rfl, hk⟩

set_option maxRecDepth 100000 in
set_option maxHeartbeats 8000000 in
theorem nfaknown_any (w : World) : Calls Try.prog 3 #[] w fun e w' => e = .returned (.bool true) ∧ Kp No w w' := by
  have HN1 := Hid_mk fun W => new_l W [98, 42] ⟨#[98, 42]⟩ rfl T3 p_t3 r_t3 (by decide) (by decide) (by decide)
  have HN2 := Hid_mk fun W => new_l W [94, 97] ⟨#[94, 97]⟩ rfl T4 p_t4 r_t4 (by decide) (by decide) (by decide)
  have HN3 := Hid_mk (show ∀ W, Calls Try.prog 11 #[.string ⟨#[97, 40]⟩] W fun e w' => e = .returned (.tuple #[.pointer none, .int .i64 2, .int .i64 24]) ∧ Kp No W w' from fun W => new_no W [97, 40] ⟨#[97, 40]⟩ rfl (leafT 0) 2 24 (by decide) p_t5 (by decide) (by decide) (by decide))
  have HC := Hid_mk fun W => com_9 W
  have HKn := Hid_mk fun W => known10_any W
  have HA := Hid_mk (show ∀ W mb, MAt W mb T3 → Calls Try.prog 14 #[.pointer (some ⟨mb, 0, none⟩), .string ⟨#[97, 98]⟩, .int .i64 0] W fun e w' => e = .returned (.tuple #[.int .i64 0, .bool true]) ∧ Kp No W w' from fun W mb h => by have h := at_m W mb T3 ⟨#[97, 98]⟩ 0 h r_t3 (by decide) (by decide); rw [at_1] at h; exact h)
  have HF := Hid_mk (show ∀ W mb, MAt W mb T4 → Calls Try.prog 15 #[.pointer (some ⟨mb, 0, none⟩), .string ⟨#[97, 97]⟩, .int .i64 1] W fun e w' => e = .returned (.tuple #[.int .i64 0, .int .i64 0, .bool false]) ∧ Kp No W w' from fun W mb h => by have h := find_m W mb T4 ⟨#[97, 97]⟩ 1 h r_t4 (by decide) (by decide); rw [fd_2] at h; exact h)
  have HO := Hid_mk (show ∀ W mb, Calls Try.prog 14 #[.pointer (some ⟨mb, 0, none⟩), .string ⟨#[97, 98]⟩, .int .i64 3] W fun e w' => e = .returned (.tuple #[.int .i64 0, .bool false]) ∧ Kp No W w' from fun W mb => at_out W mb ⟨#[97, 98]⟩ 3 (.inr (by decide)))
  go_enter Try.func3, Try.ntmps3
  go_wp2_with fail
  with_reducible refine (HN1.out _).mono ?_
  rintro e w1 ⟨m1, rfl, hm, hk, hb⟩
  have HM1 := Hid_mk hm
  have HK1 := Hid_mk hk
  clear hm hk hb HN1
  go_wp2_with fail
  with_reducible refine (HN2.out _).mono ?_
  rintro e w2 ⟨m2, rfl, hm, hk, hb⟩
  have HK2 := Hid_mk (HK1.out.trans' hk)
  have HM2 := Hid_mk (HM1.out.no hk)
  have HQ2 := Hid_mk hm
  clear hm hk hb HN2
  go_wp2_with fail
  with_reducible refine (HN3.out _).mono ?_
  rintro e w3 ⟨rfl, hk⟩
  have HK3 := Hid_mk (HK2.out.trans' hk)
  have HM3 := Hid_mk (HM2.out.no hk)
  have HQ3 := Hid_mk (HQ2.out.no hk)
  clear hk HN3
  go_wp2_with fail
  with_reducible refine (HC.out _).mono ?_
  rintro e w4 ⟨rfl, hk⟩
  have HK4 := Hid_mk (HK3.out.trans' hk)
  have HM4 := Hid_mk (HM3.out.no hk)
  have HQ4 := Hid_mk (HQ3.out.no hk)
  clear hk HC
  go_wp2_with fail
  with_reducible refine (HKn.out _).mono ?_
  rintro e w5 ⟨rfl, hk⟩
  have HK5 := Hid_mk (HK4.out.trans' hk)
  have HM5 := Hid_mk (HM4.out.no hk)
  have HQ5 := Hid_mk (HQ4.out.no hk)
  clear hk HKn
  go_wp2_with fail
  with_reducible refine (HA.out _ _ HM5.out).mono ?_
  rintro e w6 ⟨rfl, hk⟩
  have HK6 := Hid_mk (HK5.out.trans' hk)
  have HQ6 := Hid_mk (HQ5.out.no hk)
  clear hk HA
  go_wp2_with fail
  with_reducible refine (HF.out _ _ HQ6.out).mono ?_
  rintro e w7 ⟨rfl, hk⟩
  have HK7 := Hid_mk (HK6.out.trans' hk)
  clear hk HF
  go_wp2_with fail
  with_reducible refine (HO.out _ _).mono ?_
  rintro e w8 ⟨rfl, hk⟩
  have HK8 := Hid_mk (HK7.out.trans' hk)
  clear hk HO
  go_wp2
  go_ret
  exact ⟨rfl, HK8.out⟩

end Go.Proofs.Ytjalnddgbnjmcaa.nfa
