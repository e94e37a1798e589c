/- num.Prefix of the digits of a whole number that is a float. num.Digits of a great whole number: its decimal digits. A whole number of 64 bits as a float: its digits, and back. The statement NumKnown: the walk. -/
import Derived.Test.YtgnddabdjjkgiaaGreatDoorPfDecM
import Derived.Test.YtgnddabdjjkgiaaGreatDoorRdFloatM
import Derived.Test.YtgnddabdjjkgiaaGreatDoorPfLdM
import Derived.Test.YtgnddabdjjkgiaaGreatDoorRdExpM
import Derived.Test.YtgnddabdjjkgiaaGreatDoorPfNumM

namespace Go.Proofs.YtgnddabdjjkgiaaGreatDoor.rd
open Go.RowKit Go.Lib Go.Proofs.YtgnddabdjjkgiaaGreatDoor.sum Go.Proofs.YtgnddabdjjkgiaaGreatDoor.kept Go.Proofs.YtgnddabdjjkgiaaGreatDoor.str Go.Proofs.YtgnddabdjjkgiaaGreatDoor.nums Go.Proofs.YtgnddabdjjkgiaaGreatDoor.pf Go.Proofs.YtgnddabdjjkgiaaGreatDoor.fmtf Go.Proofs.YtgnddabdjjkgiaaGreatDoor.fl
set_option linter.unusedVariables false

set_option maxRecDepth 100000 in
set_option maxHeartbeats 4000000 in
theorem exact_no (w : World) (m : Nat) (ng : Bool) (hm : 4503599627370496 ≤ m) (hm2 : m < 18446744073709551616) (hf : Fi w) :
    Calls Tryz.prog 96 #[.int .u64 (m : Int), .int .i64 0, .bool ng] w (RV w (.tuple #[.float .f64 0, .bool false])) := by
  have hm0 : (0 : Int) ≤ (m : Int) := Int.natCast_nonneg _
  obtain ⟨k, hk⟩ : ∃ k, m / 4503599627370496 = k := ⟨_, rfl⟩
  have hk1 : 1 ≤ k := by omega
  have hki : (m : Int) / 4503599627370496 = (k : Int) := by omega
  have hz : ((k : Int) != 0) = true := by simp; omega
  have hz2 : ¬ (k : Int) = 0 := by omega
  have hz3 : ¬ k = 0 := by omega
  unfold Fi at hf
  clear hm hm2 hk hk1
  go_enter Tryz.func96, Tryz.ntmps96
  go_wp2
  go_ret2
  exact ⟨rfl, rfl⟩

set_option maxRecDepth 100000 in
set_option maxHeartbeats 8000000 in
theorem atof_whole (w : World) (l : List UInt8) (m : Nat) (s : Bool) (f : Nat) (ho : w.cell? ⟨3, 0, none⟩ = some (.bool true))
    (hs : Calls Tryz.prog 85 #[.string (st l)] w (RV w (.tuple #[.float .f64 0, .int .i64 0, .bool false]))) (hr : RdC w l m 0 s false) (hm : 0 < m)
    (hx : Calls Tryz.prog 96 #[.int .u64 (m : Int), .int .i64 0, .bool s] w (RV w (.tuple #[.float .f64 0, .bool false])))
    (hp : Calls Tryz.prog 97 #[.int .u64 (m : Int), .int .i64 0, .int .u64 ((2 ^ 52 * sgB s : Nat) : Int)] w fun e w' => e = .returned (.tuple #[.float .f64 f, .nilIface]) ∧ Kp No w w') :
    Calls Tryz.prog 62 #[.string (st l)] w fun e w' => e = .returned (.tuple #[.float .f64 f, .int .i64 (l.length : Int), .nilIface]) ∧ Kp No w w' := by
  unfold RdC at hr
  have HS := Hid_mk hs
  have HR := Hid_mk hr
  have HX := Hid_mk hx
  have HB := Hid_mk fun W b => bool2w_any W b
  have hmz : ((m : Int) == 0) = false := by simp; omega
  have hmi : ¬ (m : Int) = 0 := by omega
  have hmp : 0 < (m : Int) := by omega
  clear hs hr hx hm
  rcases s with _ | _
  · rw [show ((2 ^ 52 * sgB false : Nat) : Int) = 0 by decide] at hp
    have HP := Hid_mk hp
    have hb0 : b2 false = 0 := rfl
    clear hp
    go_enter Tryz.func62, Tryz.ntmps62
    go_wp2_with fail
    with_reducible refine HS.out.mono ?_
    rintro e1 w1 ⟨rfl, rfl⟩
    go_wp2_with fail
    with_reducible refine HR.out.mono ?_
    rintro e1 w1 ⟨rfl, rfl⟩
    go_wp2_with fail
    with_reducible refine (HB.out _ _).mono ?_
    rintro e1 w1 ⟨rfl, rfl⟩
    go_wp2_with fail
    with_reducible refine HX.out.mono ?_
    rintro e1 w1 ⟨rfl, rfl⟩
    go_wp2_with fail
    with_reducible refine HP.out.mono ?_
    rintro e1 w2 ⟨rfl, hk⟩
    have HK := Hid_mk hk
    clear hk
    go_wp2
    refine bodyPost_ret (v := .tuple #[.float .f64 f, .int .i64 (l.length : Int), .nilIface]) ?_ rfl ⟨rfl, HK.out⟩
    simp [results, Tryz.results62, go_sem]
  · rw [show ((2 ^ 52 * sgB true : Nat) : Int) = 9223372036854775808 by decide] at hp
    have HP := Hid_mk hp
    have hb0 : b2 true = 1 := rfl
    clear hp
    go_enter Tryz.func62, Tryz.ntmps62
    go_wp2_with fail
    with_reducible refine HS.out.mono ?_
    rintro e1 w1 ⟨rfl, rfl⟩
    go_wp2_with fail
    with_reducible refine HR.out.mono ?_
    rintro e1 w1 ⟨rfl, rfl⟩
    go_wp2_with fail
    with_reducible refine (HB.out _ _).mono ?_
    rintro e1 w1 ⟨rfl, rfl⟩
    go_wp2_with fail
    with_reducible refine HX.out.mono ?_
    rintro e1 w1 ⟨rfl, rfl⟩
    go_wp2_with fail
    with_reducible refine HP.out.mono ?_
    rintro e1 w2 ⟨rfl, hk⟩
    have HK := Hid_mk hk
    clear hk
    go_wp2
    refine bodyPost_ret (v := .tuple #[.float .f64 f, .int .i64 (l.length : Int), .nilIface]) ?_ rfl ⟨rfl, HK.out⟩
    simp [results, Tryz.results62, go_sem]

set_option maxRecDepth 100000 in
set_option maxHeartbeats 8000000 in
theorem atof_zero (w : World) (l : List UInt8) (ho : w.cell? ⟨3, 0, none⟩ = some (.bool true))
    (hs : Calls Tryz.prog 85 #[.string (st l)] w (RV w (.tuple #[.float .f64 0, .int .i64 0, .bool false]))) (hr : RdC w l 0 0 false false) :
    Calls Tryz.prog 62 #[.string (st l)] w fun e w' => e = .returned (.tuple #[.float .f64 0, .int .i64 (l.length : Int), .nilIface]) ∧ Kp No w w' := by
  unfold RdC at hr
  have HS := Hid_mk hs
  have HR := Hid_mk hr
  have HB := Hid_mk fun W b => bool2w_any W b
  have hb0 : b2 false = 0 := rfl
  have hor : bits .or .u64 0 0 = 0 := by decide
  have q := fun w => run_frs 0 w
  rw [show ((0 : Nat) : Int) = 0 from rfl] at q HR
  clear hs hr
  go_enter Tryz.func62, Tryz.ntmps62
  go_wp2_with fail
  with_reducible refine HS.out.mono ?_
  rintro e1 w1 ⟨rfl, rfl⟩
  go_wp2_with fail
  with_reducible refine HR.out.mono ?_
  rintro e1 w1 ⟨rfl, rfl⟩
  go_wp2_with fail
  with_reducible refine (HB.out _ _).mono ?_
  rintro e1 w1 ⟨rfl, rfl⟩
  go_wp2
  refine bodyPost_ret (v := .tuple #[.float .f64 0, .int .i64 (l.length : Int), .nilIface]) ?_ rfl ⟨rfl, Kp.refl _ _⟩
  simp [results, Tryz.results62, go_sem]

/-- a number that is not nought is plain -/
theorem plain_num {b : Nat} (hb : b < 18446744073709551616) (hf : FinD b) (hm : b % 9223372036854775808 ≠ 0) : plainB b = b := by
  have hr : ∃ s m i, rdD b = .number s m i ∧ 0 < m := by
    unfold FinD at hf
    rcases read_cases b hb with ⟨h1, h2⟩ | ⟨h1, h2, h3⟩ | ⟨h1, _⟩ | ⟨h1, _⟩ | ⟨s, t, h1⟩
    · exact ⟨_, _, _, h2, by omega⟩
    · exact ⟨_, _, _, h3, by omega⟩
    · omega
    · omega
    · exfalso
      obtain ⟨m, i, hr, _⟩ := fin_read hb hf
      rw [hr] at h1
      cases h1
  obtain ⟨s, m, i, hr, hm0⟩ := hr
  have h0 : rdD 0 = .number false 0 (-1074) := by decide +kernel
  unfold plainB
  rw [if_neg]
  rw [show FloatKind.f64.format.order b 0 = _ from ord_num hr h0, cmp_eq_iff]
  obtain ⟨p, hp⟩ : ∃ p, (i - min i (-1074)).toNat = p := ⟨_, rfl⟩
  rw [hp]
  have hpos : 0 < m * 2 ^ p := Nat.mul_pos hm0 (Nat.two_pow_pos p)
  unfold Ieee.signed
  rw [Nat.shiftLeft_eq, Nat.shiftLeft_eq, Nat.zero_mul]
  simp only [decide_eq_true_eq]
  generalize m * 2 ^ p = A at hpos ⊢
  intro h
  split at h <;> omega
theorem pre_of (W : World) (s : Bool) (D : List UInt8) (hd : Dig D) (h0 : 0 < D.length) (h19 : D.length ≤ 19) (x : Nat) (hp : Calls Tryz.prog 62 #[.string (st (sgT s D))] W fun e w' => e = .returned (.tuple #[.float .f64 x, .int .i64 ((sgT s D).length : Int), .nilIface]) ∧ Kp No W w') (hpl : plainB x = x) : PxC W (sgT s D) x := by
  have hl := sgT_len s D
  have h1 := parse_ok W (sgT s D) x (fun w' => Kp No W w') hp
  have h2 : PfC W (pieceS (sgT s D)) x := by
    rw [sgT_piece s D hd h0]
    exact h1.mono fun e w' h => ⟨⟨_, h.1⟩, h.2⟩
  have h3 := prefix_at W (sgT s D) (by rw [hl]; unfold sgN1; split <;> omega) x (by rw [sgT_find s D hd h0]; show 0 < (sgT s D).length; omega) h2
  rw [hpl] at h3
  exact h3
/-- of digits of a number below 2^52 -/
theorem px_small (W : World) (h : Ln W) (s : Bool) (X w : Nat) (hX0 : 0 < X) (hX : X < 4503599627370496) (hw0 : 0 < w) (hw : w ≤ 19) (hXw : X < 10 ^ w) : PxC W (sgT s (decW X w)) (fl (if s = true then -(X : Int) else (X : Int))) := by
  have hd := dec_dig X w
  have hlen := decW_len X w
  have hv : pv (decW X w) (decW X w).length = X := by rw [hlen]; exact pv_all X w hXw
  have hr := rdc_dig W s (decW X w) hd (by omega) (by omega)
  rw [hv] at hr
  have ha := atof_exact W (sgT s (decW X w)) X 0 s _ h.ld.opt (special_dig W s _ hd (by omega) (by omega)) hr hX0 (by omega) (by omega) (by omega) (exact0 W X s hX hX0 h.fi)
  refine pre_of W s _ hd (by omega) (by omega) _ (ha.mono fun e w' h => ⟨h.1, by rw [← h.2]; exact Kp.refl _ _⟩) ?_
  refine plain_fl _ ?_
  unfold Small
  split <;> omega
theorem px_zero (W : World) (h : Ln W) (w : Nat) (hw0 : 0 < w) (hw : w ≤ 19) : PxC W (sgT false (decW 0 w)) 0 := by
  have hd := dec_dig 0 w
  have hlen := decW_len 0 w
  have hv : pv (decW 0 w) (decW 0 w).length = 0 := by rw [hlen]; exact pv_all 0 w (Nat.pow_pos (by omega))
  have hr := rdc_dig W false (decW 0 w) hd (by omega) (by omega)
  rw [hv] at hr
  exact pre_of W false _ hd (by omega) (by omega) _ (atof_zero W _ h.ld.opt (special_dig W false _ hd (by omega) (by omega)) hr) (by kernel_rfl)
/-- of digits of a number from 2^52 on that is a float: mantissa and place -/
theorem px_big (W : World) (h : Ln W) (s : Bool) (M j w : Nat) (hM1 : 2 ^ 52 ≤ M) (hM2 : M < 2 ^ 53) (hj : j ≤ 11) (hw0 : 0 < w) (hw : w ≤ 19) (hXw : M * 2 ^ j < 10 ^ w) : PxC W (sgT s (decW (M * 2 ^ j) w)) (2 ^ 52 * (sgB s + (1075 + j)) + (M - 2 ^ 52)) := by
  have hp0 : 0 < 2 ^ j := Nat.two_pow_pos j
  have hX1 : M ≤ M * 2 ^ j := Nat.le_mul_of_pos_right _ hp0
  have hX2 : M * 2 ^ j < 2 ^ 64 := by
    calc M * 2 ^ j < 2 ^ 53 * 2 ^ j := Nat.mul_lt_mul_of_pos_right hM2 hp0
      _ ≤ 2 ^ 53 * 2 ^ 11 := Nat.mul_le_mul_left _ (Nat.pow_le_pow_right (by omega) hj)
      _ = 2 ^ 64 := by decide
  have hd := dec_dig (M * 2 ^ j) w
  have hlen := decW_len (M * 2 ^ j) w
  have hv : pv (decW (M * 2 ^ j) w) (decW (M * 2 ^ j) w).length = M * 2 ^ j := by rw [hlen]; exact pv_all _ w hXw
  have hr := rdc_dig W s (decW (M * 2 ^ j) w) hd (by omega) (by omega)
  rw [hv] at hr
  have ha := atof_whole W (sgT s (decW (M * 2 ^ j) w)) (M * 2 ^ j) s _ h.ld.opt (special_dig W s _ hd (by omega) (by omega)) hr (by omega) (exact_no W _ s (by omega) (by omega) h.fi) (pf64_whole W h.ld M j hM1 hM2 hj s)
  refine pre_of W s _ hd (by omega) (by omega) _ ha ?_
  have p52 : (2 : Nat) ^ 52 = 4503599627370496 := by decide
  have hsb := sgB_or s
  obtain ⟨g, hg⟩ : ∃ g, sgB s = g := ⟨_, rfl⟩
  rw [hg] at hsb
  rw [hg]
  rw [p52] at hM1
  rw [show (2 : Nat) ^ 53 = 9007199254740992 by decide] at hM2
  rw [p52]
  clear hd hlen hv hr ha hX1 hX2 hXw hg
  refine plain_num ?_ ?_ ?_
  · rcases hsb with rfl | rfl <;> omega
  · unfold FinD
    rcases hsb with rfl | rfl <;> omega
  · rcases hsb with rfl | rfl <;> omega

end Go.Proofs.YtgnddabdjjkgiaaGreatDoor.rd

namespace Go.Proofs.YtgnddabdjjkgiaaGreatDoor.pf
open Go.RowKit Go.Lib Go.Proofs.YtgnddabdjjkgiaaGreatDoor.sum Go.Proofs.YtgnddabdjjkgiaaGreatDoor.kept Go.Proofs.YtgnddabdjjkgiaaGreatDoor.app Go.Proofs.YtgnddabdjjkgiaaGreatDoor.writer Go.Proofs.YtgnddabdjjkgiaaGreatDoor.known Go.Proofs.YtgnddabdjjkgiaaGreatDoor.str Go.Proofs.YtgnddabdjjkgiaaGreatDoor.fmtf Go.Proofs.YtgnddabdjjkgiaaGreatDoor.fl Go.Proofs.YtgnddabdjjkgiaaGreatDoor.rd
set_option linter.unusedVariables false

theorem shape58 : ∀ k : Fin 59, let D : Int := 1 + lg10 (1 + (k.val : Int)); 0 < D ∧ D ≤ 18 ∧ 2 ^ (k.val + 1) ≤ 10 ^ D.toNat ∧ ((fwP ((k.val : Int) - 63) D = 0 ∧ (fwS ((k.val : Int) - 63) D).toNat = 60 - k.val) ∨ (fwP ((k.val : Int) - 63) D = 1 ∧ (fwS ((k.val : Int) - 63) D).toNat = 57 - k.val ∧ k.val ≤ 57)) := by decide +kernel
theorem div_ten58 (n : Nat) (h : n < 2 ^ 58) : divI ((40 * n : Nat) : Int) = ((4 * n : Nat) : Int) := by
  unfold divI
  rw [and_one _ (by omega) (by omega)]
  have e : (((40 * n : Nat) : Int)).tdiv 10 = ((4 * n : Nat) : Int) := by
    rw [Int.tdiv_eq_ediv_of_nonneg (by omega)]
    omega
  rw [e, IntKind.wrap_u64, Int.emod_eq_of_lt (by omega) (by omega)]
  rw [show ((40 * n : Nat) : Int) % 2 = 0 by omega, show ((40 * n : Nat) : Int) % 10 = 0 by omega]
  rw [or_zero _ (by omega) (by omega)]
  exact or_zero _ (by omega) (by omega)
theorem rnd_four59 (n : Nat) (h : n < 2 ^ 59) : rndI ((4 * n : Nat) : Int) = (n : Int) := by
  unfold rndI
  rw [show ((4 * n : Nat) : Int) / 4 = (n : Int) by omega, and_one _ (by omega) (by omega), IntKind.wrap_u64, IntKind.wrap_u64, Int.emod_eq_of_lt (a := ((4 * n : Nat) : Int) + 1) (by omega) (by omega), Int.emod_eq_of_lt (by omega) (by omega)]
  omega
/-- scaling a whole number by its own digits gives the number itself -/
theorem fw_whole58 (n k : Nat) (h0 : 0 < n) (h2 : n < 2 ^ (k + 1)) (hk : k ≤ 58) :
    fwI (n * 2 ^ (63 - k)) ((k : Int) - 63) (1 + lg10 (1 + (k : Int))).toNat 0 102 (T10 (fwP ((k : Int) - 63) (1 + lg10 (1 + (k : Int))))).1 (T10 (fwP ((k : Int) - 63) (1 + lg10 (1 + (k : Int))))).2 = ((n : Int), 0) := by
  obtain ⟨hD, hD18, hten, hc⟩ := shape58 ⟨k, by omega⟩
  simp only at hD hD18 hten hc
  generalize 1 + lg10 (1 + (k : Int)) = D at *
  have hDn : ((D.toNat : Nat) : Int) = D := Int.toNat_of_nonneg (by omega)
  have hn59 : n < 2 ^ 59 := Nat.lt_of_lt_of_le h2 (Nat.pow_le_pow_right (by omega) (by omega))
  have hn10 : n < 10 ^ D.toNat := Nat.lt_of_lt_of_le h2 hten
  rcases hc with ⟨hp, hs⟩ | ⟨hp, hs, hk57⟩
  · have hb2 : n * 2 ^ (60 - k) < 2 ^ 61 := by
      have := Nat.mul_lt_mul_of_pos_right h2 (show 0 < 2 ^ (60 - k) from Nat.pow_pos (by omega))
      rwa [← Nat.pow_add, show k + 1 + (60 - k) = 61 by omega] at this
    have hH : n * 2 ^ (63 - k) * 9223372036854775808 = (4 * n) * 2 ^ (60 - k) * 18446744073709551616 := by
      rw [show 63 - k = (60 - k) + 3 by omega, Nat.pow_add]
      generalize hY : n * 2 ^ (60 - k) = Y
      rw [← Nat.mul_assoc, hY, Nat.mul_assoc 4, hY]
      exact mul63 Y
    have hus : uscI (n * 2 ^ (63 - k) * 9223372036854775808 / 18446744073709551616) (n * 2 ^ (63 - k) * 9223372036854775808 % 18446744073709551616) (n * 2 ^ (63 - k) * 0 / 18446744073709551616) (60 - k) = ((4 * n : Nat) : Int) := by
      rw [hH, Nat.mul_div_cancel _ (by omega), Nat.mul_mod_left, Nat.mul_zero, Nat.zero_div]
      apply usc_exact
      rw [Nat.mul_assoc]
      omega
    have hU : fwU (n * 2 ^ (63 - k)) ((k : Int) - 63) D.toNat 9223372036854775808 0 = (((4 * n : Nat) : Int), 0) := by
      unfold fwU
      rw [hDn, hs, hp, hus, if_neg (by omega)]
    rw [hp, t10_0]
    unfold fwI
    rw [hU]
    unfold fwX
    rw [if_pos rfl]
    show (rndI (dvN 0 0 _ 0).1, -(dvN 0 0 _ 0).2) = _
    rw [dvN, rnd_four59 n hn59]
    rfl
  · have hn58 : n < 2 ^ 58 := Nat.lt_of_lt_of_le h2 (Nat.pow_le_pow_right (by omega) (by omega))
    have hb2 : n * 2 ^ (57 - k) < 2 ^ 58 := by
      have := Nat.mul_lt_mul_of_pos_right h2 (show 0 < 2 ^ (57 - k) from Nat.pow_pos (by omega))
      rwa [← Nat.pow_add, show k + 1 + (57 - k) = 58 by omega] at this
    have hH : n * 2 ^ (63 - k) * 11529215046068469760 = (40 * n) * 2 ^ (57 - k) * 18446744073709551616 := by
      rw [show 63 - k = (57 - k) + 6 by omega, Nat.pow_add]
      generalize hY : n * 2 ^ (57 - k) = Y
      rw [← Nat.mul_assoc, hY, Nat.mul_assoc 40, hY]
      exact mul60 Y
    have hus : uscI (n * 2 ^ (63 - k) * 11529215046068469760 / 18446744073709551616) (n * 2 ^ (63 - k) * 11529215046068469760 % 18446744073709551616) (n * 2 ^ (63 - k) * 0 / 18446744073709551616) (57 - k) = ((40 * n : Nat) : Int) := by
      rw [hH, Nat.mul_div_cancel _ (by omega), Nat.mul_mod_left, Nat.mul_zero, Nat.zero_div]
      apply usc_exact
      rw [Nat.mul_assoc]
      omega
    rw [hp, t10_1]
    unfold fwI fwX
    rw [if_pos rfl]
    have hX : dvN 0 ((fwU (n * 2 ^ (63 - k)) ((k : Int) - 63) D.toNat 11529215046068469760 0).2 - 0).toNat (fwU (n * 2 ^ (63 - k)) ((k : Int) - 63) D.toNat 11529215046068469760 0).1 (fwU (n * 2 ^ (63 - k)) ((k : Int) - 63) D.toNat 11529215046068469760 0).2 = (((4 * n : Nat) : Int), 0) := by
      unfold fwU
      rw [hDn, hs, hp, hus]
      split
      · show dvN 0 0 _ 0 = _
        rw [dvN, div_ten58 n hn58]
      · show dvN 0 1 _ 1 = _
        rw [dvN, if_pos (by decide), dvN, div_ten58 n hn58]
        rfl
    rw [hX, rnd_four59 n hn59]
    rfl
/-- a great whole number's word: mantissa and place -/
def bigW (M j : Nat) : Nat := 2 ^ 52 * (1075 + j) + (M - 2 ^ 52)
theorem bigW_facts (M j : Nat) (hM1 : 2 ^ 52 ≤ M) (hM2 : M < 2 ^ 53) (hj : j ≤ 11) : bigW M j < 9223372036854775808 ∧ bigW M j / 4503599627370496 % 2048 = 1075 + j ∧ mtN (bigW M j) = M ∧ exI (bigW M j) = ((52 + j : Nat) : Int) ∧ FinD (bigW M j) := by
  have p52 : (2 : Nat) ^ 52 = 4503599627370496 := by decide
  have p53 : (2 : Nat) ^ 53 = 9007199254740992 := by decide
  have hb : bigW M j = 4503599627370496 * (1075 + j) + (M - 4503599627370496) := by unfold bigW; rw [p52]
  rw [p52] at hM1
  rw [p53] at hM2
  have h1 : bigW M j / 4503599627370496 % 2048 = 1075 + j := by rw [hb]; omega
  refine ⟨by rw [hb]; omega, h1, ?_, ?_, ?_⟩
  · unfold mtN; rw [h1, if_neg (by omega), hb]; omega
  · unfold exI; rw [h1, if_neg (by omega)]; omega
  · unfold FinD; rw [hb]; omega
theorem bigW_X (M j : Nat) (hM1 : 2 ^ 52 ≤ M) (hM2 : M < 2 ^ 53) (hj : j ≤ 11) : bigX (bigW M j) = M * 2 ^ j := by
  obtain ⟨_, _, h3, h4, _⟩ := bigW_facts M j hM1 hM2 hj
  unfold bigX
  rw [h3, h4, show (((52 + j : Nat) : Int) - 52).toNat = j by omega]
/-- its digits -/
theorem ffS_big (M j : Nat) (hM1 : 2 ^ 52 ≤ M) (hM2 : M < 2 ^ 53) (hj : j ≤ 6) : dgI (bigW M j) 0 ≤ 18 ∧ ffS (bigW M j) 0 = decW (M * 2 ^ j) (ndS (M * 2 ^ j)) ∧ M * 2 ^ j < 10 ^ 18 := by
  have hj58 : 52 + j ≤ 58 := by omega
  have hj11 : j + (63 - (52 + j)) = 11 := by omega
  obtain ⟨h1, h2, h3, h4, _⟩ := bigW_facts M j hM1 hM2 (by omega)
  have hX2 : M * 2 ^ j < 2 ^ (52 + j + 1) := by rw [show 52 + j + 1 = 53 + j by omega, Nat.pow_add]; exact Nat.mul_lt_mul_of_pos_right hM2 (Nat.two_pow_pos j)
  have hX0 : 0 < M * 2 ^ j := Nat.mul_pos (by omega) (Nat.two_pow_pos j)
  have h18 : M * 2 ^ j < 10 ^ 18 := Nat.lt_of_lt_of_le hX2 (Nat.le_trans (Nat.pow_le_pow_right (by omega) (show 52 + j + 1 ≤ 59 by omega)) (by decide))
  have hD : dgI (bigW M j) 0 = 1 + lg10 (1 + ((52 + j : Nat) : Int)) := by unfold dgI; rw [h4, if_pos (by omega)]; omega
  have hsh := shape58 ⟨52 + j, by omega⟩
  have hs : shN (bigW M j) = 11 := by unfold shN; rw [h3, len53 M hM1 hM2]
  have hE : fxE (bigW M j) = ((52 + j : Nat) : Int) - 63 := by unfold fxE; rw [h4, hs]; omega
  have hfx : fxI T10 (bigW M j) 0 = (((M * 2 ^ j : Nat) : Int), 0) := by
    have hw := fw_whole58 (M * 2 ^ j) (52 + j) hX0 hX2 hj58
    have e : M * 2 ^ j * 2 ^ (63 - (52 + j)) = M * 2 ^ 11 := by rw [Nat.mul_assoc, ← Nat.pow_add, hj11]
    rw [e] at hw
    unfold fxI
    rw [hD, hE, hs, h3, if_pos hsh.1]
    exact hw
  refine ⟨by rw [hD]; exact hsh.2.1, ?_, h18⟩
  unfold ffS
  rw [hfx]
  simp only [Int.toNat_natCast]
  rw [if_neg (by omega), if_neg (by omega), decide_eq_false (by omega)]
  unfold outF
  rw [show ((ndS (M * 2 ^ j) : Nat) : Int) + 0 = ((ndS (M * 2 ^ j) : Nat) : Int) by omega, intF_trim _ _ (nd_pos _ hX0 h18)]
  unfold fracF
  simp [decW]
theorem ffB_big (M j : Nat) (hM1 : 2 ^ 52 ≤ M) (hM2 : M < 2 ^ 53) (hj : j ≤ 11) : ffB (bigW M j) 0 = decW (M * 2 ^ j) (dlen (M * 2 ^ j)) := by
  obtain ⟨h1, h2, h3, h4, _⟩ := bigW_facts M j hM1 hM2 hj
  have hX0 : 0 < M * 2 ^ j := Nat.mul_pos (by omega) (Nat.two_pow_pos j)
  unfold ffB
  rw [bigW_X M j hM1 hM2 hj, decide_eq_false (by omega)]
  unfold outF sgN
  rw [intF_trim _ _ (dlen_ge hX0).2]
  unfold fracF
  simp [decW]
theorem ffB_neg (b : Nat) (hb : b < 9223372036854775808) : ffB (b + 9223372036854775808) 0 = 45 :: ffB b 0 := by
  have e : bigX (b + 9223372036854775808) = bigX b := by unfold bigX; rw [mt_neg, ex_neg]
  unfold ffB
  rw [e, decide_eq_true (by omega), decide_eq_false (by omega)]
  unfold outF
  rfl
/-- FormatFloat of a great whole number of either sign -/
theorem ff_back (M j : Nat) (hM1 : 2 ^ 52 ≤ M) (hM2 : M < 2 ^ 53) (hj : j ≤ 11) (hX : M * 2 ^ j ≤ 9223372036854775808) (s : Bool) : ∃ w, 0 < w ∧ w ≤ 19 ∧ M * 2 ^ j < 10 ^ w ∧ ∀ W, Ld W → Lcs W → Calls Tryz.prog 28 #[.float .f64 (bigW M j + if s = true then 9223372036854775808 else 0), .int .u8 102, .int .i64 0, .int .i64 64] W (TxPost W (sgT s (decW (M * 2 ^ j) w))) := by
  obtain ⟨h1, h2, h3, h4, _⟩ := bigW_facts M j hM1 hM2 hj
  have hX0 : 0 < M * 2 ^ j := Nat.mul_pos (by omega) (Nat.two_pow_pos j)
  have e1 : (bigW M j + 9223372036854775808) / 4503599627370496 % 2048 = bigW M j / 4503599627370496 % 2048 := by omega
  by_cases h6 : j ≤ 6
  · obtain ⟨a, b, c⟩ := ffS_big M j hM1 hM2 h6
    refine ⟨ndS (M * 2 ^ j), nd_pos _ hX0 c, Nat.le_trans (nd_bd c).2.1 (by omega), (nd_bd c).2.2, fun W h _ => ?_⟩
    cases s with
    | false =>
      rw [if_neg (by simp), Nat.add_zero]
      have := ff_all W h (bigW M j) 0 (by omega) (by omega) (by rw [h3]; omega) (by omega) (by omega) a
      rw [b] at this
      exact this
    | true =>
      rw [if_pos rfl]
      have := ff_all W h (bigW M j + 9223372036854775808) 0 (by omega) (by rw [e1]; omega) (by rw [mt_neg, h3]; omega) (by omega) (by omega) (by rw [dg_neg]; exact a)
      rw [ff_neg _ h1, b] at this
      exact this
  · have hD : 18 < dgI (bigW M j) 0 := by
      unfold dgI
      rw [h4, if_pos (by omega)]
      unfold lg10
      omega
    refine ⟨dlen (M * 2 ^ j), (dlen_ge hX0).2, dlen_le (by omega), dlen_lt _, fun W h hL => ?_⟩
    cases s with
    | false =>
      rw [if_neg (by simp), Nat.add_zero]
      have := ff_big W h hL (bigW M j) 0 (by omega) (by omega) (by rw [h3]; omega) (by omega) (by omega) hD (by rw [h4]; omega)
      rw [ffB_big M j hM1 hM2 hj] at this
      exact this
    | true =>
      rw [if_pos rfl]
      have := ff_big W h hL (bigW M j + 9223372036854775808) 0 (by omega) (by rw [e1]; omega) (by rw [mt_neg, h3]; omega) (by omega) (by omega) (by rw [dg_neg]; exact hD) (by rw [ex_neg, h4]; omega)
      rw [ffB_neg _ h1, ffB_big M j hM1 hM2 hj] at this
      exact this

end Go.Proofs.YtgnddabdjjkgiaaGreatDoor.pf

namespace Go.Proofs.YtgnddabdjjkgiaaGreatDoor.pf
open Go.RowKit Go.Lib Go.Proofs.YtgnddabdjjkgiaaGreatDoor.sum Go.Proofs.YtgnddabdjjkgiaaGreatDoor.kept Go.Proofs.YtgnddabdjjkgiaaGreatDoor.app Go.Proofs.YtgnddabdjjkgiaaGreatDoor.writer Go.Proofs.YtgnddabdjjkgiaaGreatDoor.known Go.Proofs.YtgnddabdjjkgiaaGreatDoor.str Go.Proofs.YtgnddabdjjkgiaaGreatDoor.fmtf Go.Proofs.YtgnddabdjjkgiaaGreatDoor.fl Go.Proofs.YtgnddabdjjkgiaaGreatDoor.rd Go.Proofs.YtgnddabdjjkgiaaGreatDoor.nums
set_option linter.unusedVariables false

theorem trunc_self {b : Nat} (hb : b < 18446744073709551616) (h1 : 4503599627370496 ≤ b % 9223372036854775808) (h2 : b % 9223372036854775808 < 9218868437227405312) (hr : rdD b = .number (b / 9223372036854775808 % 2 == 1) (4503599627370496 + b % 9223372036854775808 % 4503599627370496) (-1074 + (b % 9223372036854775808 / 4503599627370496 - 1 : Nat))) (hi : ¬ (-1074 + (b % 9223372036854775808 / 4503599627370496 - 1 : Nat) : Int) ≤ 0) : truncB b = b := by
  obtain ⟨E, hE⟩ : ∃ E, b % 9223372036854775808 / 4503599627370496 = E := ⟨_, rfl⟩
  obtain ⟨F, hF⟩ : ∃ F, b % 9223372036854775808 % 4503599627370496 = F := ⟨_, rfl⟩
  rw [hE, hF] at hr
  rw [hE] at hi
  have hE1 : 1076 ≤ E := by omega
  have hE2 : E ≤ 2046 := by omega
  have hbe : b / 4503599627370496 % 2048 = E := by omega
  have hex : exI b = (E : Int) - 1023 := by unfold exI; rw [hbe, if_neg (by omega)]
  have hmt : mtN b = 4503599627370496 + F := by unfold mtN; rw [hbe, if_neg (by omega)]; omega
  obtain ⟨j, hj⟩ : ∃ j : Nat, (-1074 + (E - 1 : Nat) : Int) = (j : Int) := ⟨E - 1075, by omega⟩
  have hjE : j = E - 1075 := by omega
  rw [hj] at hr
  obtain ⟨m, hm⟩ : ∃ m, 4503599627370496 + F = m := ⟨_, rfl⟩
  rw [hm] at hr
  have hm1 : 4503599627370496 ≤ m := by omega
  have hm2 : m < 9007199254740992 := by omega
  have hlm : m.log2 = 52 := by
    rw [Nat.log2_eq_iff (by omega)]
    exact ⟨hm1, hm2⟩
  obtain ⟨s, hs⟩ : ∃ s, (b / 9223372036854775808 % 2 == 1) = s := ⟨_, rfl⟩
  rw [hs] at hr
  have ht : truncB b = Ieee.double.nearest s (Ieee.Toward.zero.cut s (m * 2 ^ j) 0) 0 := by
    unfold truncB
    rw [show FloatKind.f64.decode b = _ from hr]
    simp only [Ieee.Datum.integral]
    rw [show ((j : Int)).toNat = j by omega, show (-(j : Int)).toNat = 0 by omega, Nat.shiftLeft_eq]
    rfl
  have hc0 := cut_exact s .zero (m * 2 ^ j) 0 (Nat.zero_le _)
  rw [Nat.pow_zero, Nat.mul_one] at hc0
  rw [hc0] at ht
  rw [ht]
  have hp : 0 < 2 ^ j := Nat.two_pow_pos j
  have hlog := log2_mul_pow m j (by omega)
  rw [hlm] at hlog
  unfold Ieee.Format.nearest
  rw [if_neg (Nat.mul_ne_zero (by omega) (by omega))]
  have hlast : max ((0 : Int) + ((m * 2 ^ j).log2 : Nat) - (Ieee.double.fractionBits : Nat)) Ieee.double.leastPlace = (j : Int) := by
    rw [hlog]
    have e4 : Ieee.double.leastPlace = -1074 := by decide
    have e5 : Ieee.double.fractionBits = 52 := rfl
    rw [e4, e5]
    omega
  simp only [hlast]
  have hc1 := cut_exact s .even m j (by rw [hlog]; omega)
  rw [show ((0 : Int) - (j : Int)).toNat = 0 by omega, show ((j : Int) - 0).toNat = j by omega, Nat.shiftLeft_zero, hc1]
  have e4 : Ieee.double.leastPlace = -1074 := by decide
  have e2 : Ieee.double.binade = 4503599627370496 := by decide
  have e3 : Ieee.double.infRung = 9218868437227405312 := by decide
  have e1 : Ieee.double.signWeight = 9223372036854775808 := by decide
  rw [e4, e2, e3, show ((j : Int) - -1074).toNat = j + 1074 by omega]
  unfold Ieee.Format.word
  obtain ⟨r, hrr⟩ : ∃ r, b % 9223372036854775808 = r := ⟨_, rfl⟩
  rw [hrr] at hE hF h2
  have hru := rung_eq hE hF (show j + 1075 = E by omega) hm
  rw [e1, hru, Nat.min_eq_left (Nat.le_of_lt h2), ← hs]
  exact word_eq hb hrr

theorem trunc_big (M j : Nat) (hM1 : 2 ^ 52 ≤ M) (hM2 : M < 2 ^ 53) (hj1 : 1 ≤ j) (hj : j ≤ 11) (s : Bool) : truncB (bigW M j + if s = true then 9223372036854775808 else 0) = (bigW M j + if s = true then 9223372036854775808 else 0) ∧ (bigW M j + if s = true then 9223372036854775808 else 0) < 18446744073709551616 ∧ FinD (bigW M j + if s = true then 9223372036854775808 else 0) ∧ (bigW M j + if s = true then 9223372036854775808 else 0) % 9223372036854775808 ≠ 0 := by
  obtain ⟨h1, h2, h3, h4, h5⟩ := bigW_facts M j hM1 hM2 hj
  obtain ⟨b, hb⟩ : ∃ b, bigW M j = b := ⟨_, rfl⟩
  rw [hb] at h1 h2 h5
  rw [hb]
  unfold FinD at h5
  have hE : b / 4503599627370496 = 1075 + j := by omega
  clear h2 h3 h4 hb hM1 hM2
  obtain ⟨c, hc⟩ : ∃ c, (b + if s = true then 9223372036854775808 else 0) = c := ⟨_, rfl⟩
  have hc1 : c < 18446744073709551616 := by rw [← hc]; split <;> omega
  have hc2 : c % 9223372036854775808 = b := by rw [← hc]; split <;> omega
  rw [hc]
  have hf : FinD c := by unfold FinD; rw [hc2]; omega
  refine ⟨?_, hc1, hf, by rw [hc2]; omega⟩
  rcases read_cases c hc1 with ⟨k1, _⟩ | ⟨k1, k2, k3⟩ | ⟨k1, _⟩ | ⟨k1, _⟩ | ⟨s', t', k1⟩
  · rw [hc2] at k1; omega
  · refine trunc_self hc1 k1 k2 k3 ?_
    rw [hc2, hE]
    omega
  · rw [k1] at hc2; omega
  · rw [k1] at hc2; omega
  · exfalso
    obtain ⟨m, i, hr, _⟩ := fin_read hc1 hf
    rw [hr] at k1
    cases k1
theorem big1 (j K : Nat) (h : 4503599627370496 ≤ K) : (j + 1074) * 4503599627370496 + K = 4503599627370496 * (1075 + j) + (K - 4503599627370496) := by omega
theorem big2 (j : Nat) : 4503599627370496 * (1075 + j) + (9007199254740992 - 4503599627370496) = 4503599627370496 * (1075 + (j + 1)) + (4503599627370496 - 4503599627370496) := by omega
/-- a whole number from 2^53 on is rounded to a mantissa and a place -/
theorem near_big (s : Bool) (n : Nat) (h1 : 2 ^ 53 ≤ n) (h2 : n ≤ 2 ^ 63) : ∃ M j, 2 ^ 52 ≤ M ∧ M < 2 ^ 53 ∧ 1 ≤ j ∧ j ≤ 11 ∧ M * 2 ^ j ≤ 9223372036854775808 ∧ Ieee.double.nearest s n 0 = bigW M j + if s = true then 9223372036854775808 else 0 := by
  have hn0 : n ≠ 0 := by omega
  have ha := Nat.log2_self_le hn0
  have hb : n < 2 ^ (n.log2 + 1) := Nat.lt_log2_self
  have hL1 : 53 ≤ n.log2 := by
    rcases Nat.lt_or_ge n.log2 53 with h | h
    · have := Nat.pow_le_pow_right (show 0 < 2 by omega) (show n.log2 + 1 ≤ 53 by omega)
      omega
    · exact h
  have hL2 : n.log2 ≤ 63 := by
    rcases Nat.lt_or_ge 63 n.log2 with h | h
    · have := Nat.pow_le_pow_right (show 0 < 2 by omega) (show 64 ≤ n.log2 by omega)
      omega
    · exact h
  obtain ⟨j, hj⟩ : ∃ j, n.log2 = j + 52 := ⟨n.log2 - 52, by omega⟩
  have hj1 : 1 ≤ j := by omega
  have hj11 : j ≤ 11 := by omega
  rw [hj] at ha hb
  have hp : 0 < 2 ^ j := Nat.two_pow_pos j
  obtain ⟨q, hq⟩ : ∃ q, n / 2 ^ j = q := ⟨_, rfl⟩
  have hq1 : 2 ^ 52 ≤ q := by
    rw [← hq, Nat.le_div_iff_mul_le hp, ← Nat.pow_add, Nat.add_comm]
    exact ha
  have hq2 : q < 2 ^ 53 := by
    rw [← hq, Nat.div_lt_iff_lt_mul hp, ← Nat.pow_add, show 53 + j = j + 52 + 1 by omega]
    exact hb
  obtain ⟨r, hr, hr1⟩ : ∃ r : Nat, Ieee.Toward.even.cut s n j = q + r ∧ r ≤ 1 := by
    unfold Ieee.Toward.cut
    rw [Nat.min_eq_left (by rw [hj]; omega), Nat.one_shiftLeft]
    show ∃ r, n / 2 ^ j + Bool.toNat _ = q + r ∧ r ≤ 1
    rw [hq]
    exact ⟨_, rfl, Bool.toNat_le _⟩
  have hr63 : n = 2 ^ 63 → r = 0 ∧ q = 2 ^ 52 := by
    intro e
    have hj63 : j = 11 := by
      have : n.log2 = 63 := by rw [e]; decide +kernel
      omega
    subst hj63
    subst e
    have hq9 : q = 2 ^ 52 := by rw [← hq]
    refine ⟨?_, hq9⟩
    have : Ieee.Toward.even.cut s (2 ^ 63) 11 = 2 ^ 52 := by cases s <;> decide +kernel
    omega
  have hk : Ieee.double.nearest s n 0 = Ieee.double.word s ((j + 1074) * 4503599627370496 + (q + r)) := by
    unfold Ieee.Format.nearest
    rw [if_neg hn0]
    have hlast : max ((0 : Int) + (n.log2 : Nat) - (Ieee.double.fractionBits : Nat)) Ieee.double.leastPlace = (j : Int) := by
      rw [hj]
      have e4 : Ieee.double.leastPlace = -1074 := by decide
      have e5 : Ieee.double.fractionBits = 52 := rfl
      rw [e4, e5]
      omega
    simp only [hlast]
    have e4 : Ieee.double.leastPlace = -1074 := by decide
    have e2 : Ieee.double.binade = 4503599627370496 := by decide
    have e3 : Ieee.double.infRung = 9218868437227405312 := by decide
    rw [show ((0 : Int) - (j : Int)).toNat = 0 by omega, show ((j : Int) - 0).toNat = j by omega, Nat.shiftLeft_zero, hr, e4, e2, e3, show ((j : Int) - -1074).toNat = j + 1074 by omega]
    have p53 : (2 : Nat) ^ 53 = 9007199254740992 := by decide
    rw [p53] at hq2
    clear hr63 hr hq1 hq ha hb h1 h2 hlast e2 e3 e4
    rw [Nat.min_eq_left (by omega)]
  have hw : ∀ r, Ieee.double.word s r = r + if s = true then 9223372036854775808 else 0 := by
    intro r
    have e1 : Ieee.double.signWeight = 9223372036854775808 := by decide
    unfold Ieee.Format.word
    rw [e1]
    cases s
    · rfl
    · show 9223372036854775808 + r = r + 9223372036854775808
      omega
  rw [hw] at hk
  have p52 : (2 : Nat) ^ 52 = 4503599627370496 := by decide
  have p53 : (2 : Nat) ^ 53 = 9007199254740992 := by decide
  have p63 : (2 : Nat) ^ 63 = 9223372036854775808 := by decide
  by_cases hfull : q + r < 2 ^ 53
  · refine ⟨q + r, j, by omega, hfull, hj1, hj11, ?_, ?_⟩
    · by_cases h11 : j = 11
      · subst h11
        have h63 : n = 2 ^ 63 := by
          have : 2 ^ 63 ≤ n := ha
          omega
        obtain ⟨e1, e2⟩ := hr63 h63
        rw [e1, e2]
        decide
      · calc (q + r) * 2 ^ j ≤ 2 ^ 53 * 2 ^ j := Nat.mul_le_mul_right _ (Nat.le_of_lt hfull)
          _ ≤ 2 ^ 53 * 2 ^ 10 := Nat.mul_le_mul_left _ (Nat.pow_le_pow_right (by omega) (by omega))
          _ = 9223372036854775808 := by decide
    · rw [hk]
      unfold bigW
      rw [p52] at hq1 ⊢
      rw [big1 j (q + r) (by omega)]
  · have hqr : q + r = 2 ^ 53 := by omega
    have h11 : j ≠ 11 := by
      intro e
      subst e
      have h63 : n = 2 ^ 63 := by
        have : 2 ^ 63 ≤ n := ha
        omega
      obtain ⟨e1, e2⟩ := hr63 h63
      omega
    refine ⟨2 ^ 52, j + 1, Nat.le_refl _, by decide, by omega, by omega, ?_, ?_⟩
    · rw [← Nat.pow_add]
      exact Nat.le_trans (Nat.pow_le_pow_right (by omega) (show 52 + (j + 1) ≤ 63 by omega)) (by decide)
    · rw [hk, hqr]
      unfold bigW
      rw [p52, p53, big1 j 9007199254740992 (by omega), big2 j]

/-- digits of a whole number as a float, and back -/
theorem back_two (n : Int) (hn1 : -9223372036854775808 ≤ n) (hn2 : n ≤ 9223372036854775807) : ∃ (s : Bool) (D : List UInt8), Dig D ∧ 0 < D.length ∧ D.length ≤ 19 ∧ (∀ W, Ln W → Calls Tryz.prog 12 #[.float .f64 (fl n)] W (TxPost W (sgT s D))) ∧ (∀ W, Ln W → PxC W (sgT s D) (fl n)) ∧ (FloatKind.f64.format.order (fl n) (fl n) == some .eq) = true := by
  have p53 : (2 : Nat) ^ 53 = 9007199254740992 := by decide
  have p52 : (2 : Nat) ^ 52 = 4503599627370496 := by decide
  have p63 : (2 : Nat) ^ 63 = 9223372036854775808 := by decide
  by_cases hs : n.natAbs < 2 ^ 53
  · have hsm : Small n := hs
    obtain ⟨X, hX⟩ : ∃ X, n.natAbs = X := ⟨_, rfl⟩
    rw [hX] at hs
    obtain ⟨w0, w1, w2⟩ := ndZ_bd X hs
    have ho : (FloatKind.f64.format.order (fl n) (fl n) == some .eq) = true := by rw [fl_eql n n hsm hsm]; simp
    have hT : dgZ n = sgT (decide (n < 0)) (decW X (ndZ X)) := by
      unfold dgZ sgT
      rw [hX, dgN_dec X hs]
      by_cases h : n < 0
      · rw [if_pos h, decide_eq_true h, if_pos rfl]
      · rw [if_neg h, decide_eq_false h, if_neg (by simp)]
    refine ⟨decide (n < 0), decW X (ndZ X), dec_dig X _, by rw [decW_len]; exact w0, by rw [decW_len]; omega, fun W h => by rw [← hT]; exact dgZ_any W h.ld n hsm, fun W h => ?_, ho⟩
    have hsel : (if decide (n < 0) = true then -(X : Int) else (X : Int)) = n := by
      by_cases h : n < 0
      · rw [if_pos (decide_eq_true h)]; omega
      · rw [if_neg (by simpa using h)]; omega
    rcases Nat.eq_zero_or_pos X with h0 | h0
    · subst h0
      have : n = 0 := by omega
      subst this
      have := px_zero W h (ndZ 0) w0 (by omega)
      rw [show fl 0 = 0 by decide +kernel]
      exact this
    · by_cases h52 : X < 4503599627370496
      · have := px_small W h (decide (n < 0)) X (ndZ X) h0 h52 w0 (by omega) w2
        rw [hsel] at this
        exact this
      · have hb := px_big W h (decide (n < 0)) X 0 (ndZ X) (by omega) hs (by omega) w0 (by omega) (by rw [Nat.pow_zero, Nat.mul_one]; exact w2)
        rw [Nat.pow_zero, Nat.mul_one] at hb
        have hlog : X.log2 = 52 := by rw [Nat.log2_eq_iff (by omega)]; exact ⟨by omega, by omega⟩
        have hw := word_fl X h0 hs
        rw [hlog, Nat.sub_self, Nat.pow_zero, Nat.mul_one, p52] at hw
        have hfl : 2 ^ 52 * (sgB (decide (n < 0)) + (1075 + 0)) + (X - 2 ^ 52) = fl n := by
          by_cases h : n < 0
          · have e : n = -(X : Int) := by omega
            rw [decide_eq_true h, e, word_neg X h0 hs, hw, p52, show sgB true = 2048 from rfl]
            omega
          · have e : n = (X : Int) := by omega
            rw [decide_eq_false h, e, hw, p52, show sgB false = 0 from rfl]
            omega
        rw [hfl] at hb
        exact hb
  · obtain ⟨X, hX⟩ : ∃ X, n.natAbs = X := ⟨_, rfl⟩
    rw [hX] at hs
    obtain ⟨M, j, hM1, hM2, hj1, hj, hMX, hnear⟩ := near_big (decide (n < 0)) X (by omega) (by omega)
    have hfl : fl n = bigW M j + if decide (n < 0) = true then 9223372036854775808 else 0 := by rw [fl_eq, hX]; exact hnear
    obtain ⟨ht, hb, hf, hz⟩ := trunc_big M j hM1 hM2 hj1 hj (decide (n < 0))
    obtain ⟨w, w0, w1, w2, hff⟩ := ff_back M j hM1 hM2 hj hMX (decide (n < 0))
    rw [← hfl] at ht hb hf hz hff
    obtain ⟨hk, hnan⟩ := fin_kind hb hf
    have hpl := plain_num hb hf hz
    have ho : (FloatKind.f64.format.order (fl n) (fl n) == some .eq) = true := by
      obtain ⟨m, i, hr, _⟩ := fin_read hb hf
      rw [show FloatKind.f64.format.order (fl n) (fl n) = _ from ord_num hr hr, cmp_self]
      rfl
    refine ⟨decide (n < 0), decW (M * 2 ^ j) w, dec_dig _ _, by rw [decW_len]; exact w0, by rw [decW_len]; exact w1, fun W h => digits_fin W (fl n) _ hk hnan (by rw [ht, hpl]; exact hff W h.ld h.lc), fun W h => ?_, ho⟩
    have hp := px_big W h (decide (n < 0)) M j w hM1 hM2 hj w0 w1 w2
    have e : 2 ^ 52 * (sgB (decide (n < 0)) + (1075 + j)) + (M - 2 ^ 52) = fl n := by
      rw [hfl]
      unfold bigW sgB
      rw [p52]
      by_cases h : n < 0
      · rw [decide_eq_true h, if_pos rfl, if_pos rfl]; omega
      · rw [decide_eq_false h, if_neg (by simp), if_neg (by simp)]; omega
    rw [e] at hp
    exact hp

end Go.Proofs.YtgnddabdjjkgiaaGreatDoor.pf

namespace Go.Proofs.YtgnddabdjjkgiaaGreatDoor.rd
open Go.RowKit Go.Lib Go.Proofs.YtgnddabdjjkgiaaGreatDoor.sum Go.Proofs.YtgnddabdjjkgiaaGreatDoor.kept Go.Proofs.YtgnddabdjjkgiaaGreatDoor.str Go.Proofs.YtgnddabdjjkgiaaGreatDoor.nums Go.Proofs.YtgnddabdjjkgiaaGreatDoor.pf Go.Proofs.YtgnddabdjjkgiaaGreatDoor.fmtf Go.Proofs.YtgnddabdjjkgiaaGreatDoor.fl
set_option linter.unusedVariables false

theorem run_frb (m : Nat) (w : World) : (callFunc 30 #[.int .u64 (m : Int)]).run Tryz.prog w = .ok (.value (.float .f64 m)) w := by
  rw [run_callFunc_extern Tryz.func30 (by kernel_rfl) (by kernel_rfl) (by kernel_rfl) (show Extern.find _ = some Extern.MathFloatBits.float64frombits by kernel_rfl)]
  rfl
set_option maxRecDepth 100000 in
theorem nan_call (w : World) : Calls Tryz.prog 15 #[] w (RF w 9221120237041090561) := by
  have q := fun w => run_frb 9221120237041090561 w
  rw [show ((9221120237041090561 : Nat) : Int) = 9221120237041090561 from rfl] at q
  go_enter Tryz.func15, Tryz.ntmps15
  go_wp2
  go_ret
  exact ⟨rfl, rfl⟩
set_option maxRecDepth 100000 in
theorem inf_call (w : World) : Calls Tryz.prog 14 #[.int .i64 (-1)] w (RF w 18442240474082181120) := by
  have q := fun w => run_frb 18442240474082181120 w
  rw [show ((18442240474082181120 : Nat) : Int) = 18442240474082181120 from rfl] at q
  go_enter Tryz.func14, Tryz.ntmps14
  go_wp2
  go_ret
  exact ⟨rfl, rfl⟩
set_option maxRecDepth 100000 in
theorem mod0_call (w : World) : Calls Tryz.prog 43 #[.float .f64 4619567317775286272, .float .f64 0] w (RF w 9221120237041090561) := by
  have o : (FloatKind.f64.format.order 0 0 == some .eq) = true := by kernel_rfl
  have HN := Hid_mk fun W => nan_call W
  go_enter Tryz.func43, Tryz.ntmps43
  go_wp2_with fail
  with_reducible refine (HN.out _).mono ?_
  rintro e w1 ⟨rfl, rfl⟩
  go_wp2
  go_ret
  exact ⟨rfl, rfl⟩
set_option maxRecDepth 100000 in
theorem rest_call (w : World) : Calls Tryz.prog 9 #[.float .f64 4619567317775286272, .float .f64 0] w (RF w 9221120237041090561) := by
  have hm : Calls Tryz.prog 26 #[.float .f64 4619567317775286272, .float .f64 0] w (RF w 9221120237041090561) := by
    have HM := Hid_mk (mod0_call w)
    go_enter Tryz.func26, Tryz.ntmps26
    go_wp2_with fail
    with_reducible refine HM.out.mono ?_
    rintro e w1 ⟨rfl, rfl⟩
    go_wp2
    go_ret
    exact ⟨rfl, rfl⟩
  have HM := Hid_mk hm
  have HP := Hid_mk fun W => plain_any W 9221120237041090561
  rw [show plainB 9221120237041090561 = 9221120237041090561 by kernel_rfl] at HP
  clear hm
  go_enter Tryz.func9, Tryz.ntmps9
  go_wp2_with fail
  with_reducible refine HM.out.mono ?_
  rintro e w1 ⟨rfl, rfl⟩
  go_wp2_with fail
  with_reducible refine (HP.out _).mono ?_
  rintro e w1 ⟨rfl, rfl⟩
  go_wp2
  go_ret
  exact ⟨rfl, rfl⟩

set_option maxRecDepth 100000 in
set_option maxHeartbeats 8000000 in
theorem numKnown_any (w : World) (h : Ln w) : Calls Tryz.prog 3 #[] w fun e w' => e = .returned (.bool true) ∧ Kp No w w' := by
  have HKn := Hid_mk fun W (h : Ln W) => known11_any W h
  have hP1 := fun W => prefix_zero W [46, 101, 49] (by decide) (by decide +kernel)
  have hP2 := fun W => prefix_zero W [43] (by decide) (by decide +kernel)
  unfold PxC at hP1 hP2
  rw [show (findS [46, 101, 49]).2 = 0 by decide +kernel] at hP1
  rw [show (findS [43]).2 = 0 by decide +kernel] at hP2
  have H1 : Hid (∀ W, Calls Tryz.prog 8 #[.string ⟨#[46, 101, 49]⟩] W fun e w' => e = .returned (.tuple #[.float .f64 0, .int .i64 0]) ∧ Kp No W w') := Hid_mk hP1
  have H2 : Hid (∀ W, Calls Tryz.prog 8 #[.string ⟨#[43]⟩] W fun e w' => e = .returned (.tuple #[.float .f64 0, .int .i64 0]) ∧ Kp No W w') := Hid_mk hP2
  have HR := Hid_mk fun W => rest_call W
  have L1 := Hid_mk fun W => looks_any W [] (by decide)
  have L2 := Hid_mk fun W => looks_any W [48, 120, 49] (by decide)
  rw [show looksS [] = false by decide +kernel] at L1
  rw [show looksS [48, 120, 49] = false by decide +kernel] at L2
  have L1' : Hid (∀ W, Calls Tryz.prog 11 #[.string ⟨#[]⟩] W fun e w' => e = .returned (.bool false) ∧ W = w') := L1
  have L2' : Hid (∀ W, Calls Tryz.prog 11 #[.string ⟨#[48, 120, 49]⟩] W fun e w' => e = .returned (.bool false) ∧ W = w') := L2
  have D1 := Hid_mk fun W => digits_fin W 13826050856027422720 [48] (by kernel_rfl) (by kernel_rfl) (by rw [show plainB (truncB 13826050856027422720) = 0 by kernel_rfl]; exact ff_zero W)
  have D2 := Hid_mk fun W => digits_odd W 18442240474082181120 (by decide +kernel)
  have D3 := Hid_mk fun W => digits_odd W 9221120237041090561 (by decide +kernel)
  rw [show oddS (kindB 18442240474082181120) = [45, 105, 110, 102] by kernel_rfl] at D2
  rw [show oddS (kindB 9221120237041090561) = [110, 97, 110] by kernel_rfl] at D3
  unfold TxPost at D1 D2 D3
  have W1 := Hid_mk fun W => whole_dg W 4846369599423283200
  have W2 := Hid_mk fun W => whole_dg W 13837309855095848960
  rw [show wholeB 4846369599423283200 = false by kernel_rfl] at W1
  rw [show wholeB 13837309855095848960 = true by kernel_rfl] at W2
  have HI := Hid_mk fun W => inf_call W
  have HN := Hid_mk fun W => nan_call W
  have HL := Hid_mk h
  have o1 : (FloatKind.f64.format.order 0 0 == some .eq) = true := by kernel_rfl
  have o2 : (FloatKind.f64.format.order 9221120237041090561 9221120237041090561 != some .eq) = true := by kernel_rfl
  clear hP1 hP2 L1 L2 h
  go_enter Tryz.func3, Tryz.ntmps3
  go_wp2_with fail
  with_reducible refine (H1.out _).mono ?_
  rintro e w1 ⟨rfl, hk1⟩
  have HK := Hid_mk hk1
  clear hk1
  go_wp2_with fail
  with_reducible refine (H2.out _).mono ?_
  rintro e w2 ⟨rfl, hk1⟩
  have HK := Hid_mk (HK.out.trans' hk1)
  clear hk1
  go_wp2_with fail
  with_reducible refine (HR.out _).mono ?_
  rintro e w3 ⟨rfl, rfl⟩
  go_wp2_with fail
  with_reducible refine (HKn.out _ (HL.out.no HK.out)).mono ?_
  rintro e w3 ⟨rfl, hk1⟩
  have HK := Hid_mk (HK.out.trans' hk1)
  clear hk1
  go_wp2_with fail
  with_reducible refine (L1'.out _).mono ?_
  rintro e w4 ⟨rfl, rfl⟩
  go_wp2_with fail
  with_reducible refine (L2'.out _).mono ?_
  rintro e w4 ⟨rfl, rfl⟩
  go_wp2_with fail
  with_reducible refine (D1.out _).mono ?_
  rintro e w4 ⟨rfl, hk1⟩
  have HK := Hid_mk (HK.out.trans' hk1)
  clear hk1
  go_wp2_with fail
  with_reducible refine (W1.out _).mono ?_
  rintro e w5 ⟨rfl, rfl⟩
  go_wp2_with fail
  with_reducible refine (W2.out _).mono ?_
  rintro e w5 ⟨rfl, rfl⟩
  go_wp2_with fail
  with_reducible refine (HI.out _).mono ?_
  rintro e w5 ⟨rfl, rfl⟩
  go_wp2_with fail
  with_reducible refine (D2.out _).mono ?_
  rintro e w5 ⟨rfl, hk1⟩
  have HK := Hid_mk (HK.out.trans' hk1)
  clear hk1
  go_wp2_with fail
  with_reducible refine (HN.out _).mono ?_
  rintro e w6 ⟨rfl, rfl⟩
  go_wp2_with fail
  with_reducible refine (D3.out _).mono ?_
  rintro e w6 ⟨rfl, hk1⟩
  have HK := Hid_mk (HK.out.trans' hk1)
  clear hk1
  go_wp2
  go_ret
  exact ⟨rfl, HK.out⟩

end Go.Proofs.YtgnddabdjjkgiaaGreatDoor.rd
