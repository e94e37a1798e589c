/- PackSteps: the law's walk. -/
import Derived.Test.YtbnnbedmcipnpaaKnown
namespace Go.Proofs.Ytbnnbedmcipnpaa.steps
open Go.RowKit Go.Proofs.Ytbnnbedmcipnpaa.sum Go.Proofs.Ytbnnbedmcipnpaa.kept Go.Proofs.Ytbnnbedmcipnpaa.app Go.Proofs.Ytbnnbedmcipnpaa.writer Go.Proofs.Ytbnnbedmcipnpaa.clone Go.Proofs.Ytbnnbedmcipnpaa.known Go.Proofs.Ytbnnbedmcipnpaa.fl
set_option linter.unusedVariables false

theorem small_part {n : Nat} (h : n < pl.P) : Small (n : Int) := by
  unfold Small; unfold pl.P at h
  have : (2 : Nat) ^ 53 = 9007199254740992 := by decide
  omega

theorem eql_cx (s t : Nat × Nat) (hs : s.1 < pl.P ∧ s.2 < pl.P) (ht : t.1 < pl.P ∧ t.2 < pl.P) (ty : TypeId) (w : World) : (binOp .eql ty (cx s) (cx t)).run Try.prog w = .ok (.bool (decide (s = t))) w := by
  unfold cx
  rw [run_eql_complex, fl_eql _ _ (small_part hs.1) (small_part ht.1), fl_eql _ _ (small_part hs.2) (small_part ht.2)]
  congr 2
  rw [Bool.eq_iff_iff]
  simp [Prod.ext_iff]
  omega
theorem neq_cx (s t : Nat × Nat) (hs : s.1 < pl.P ∧ s.2 < pl.P) (ht : t.1 < pl.P ∧ t.2 < pl.P) (ty : TypeId) (w : World) : (binOp .neq ty (cx s) (cx t)).run Try.prog w = .ok (.bool (!decide (s = t))) w := by
  unfold cx
  rw [run_neq_complex, fl_eql _ _ (small_part hs.1) (small_part ht.1), fl_eql _ _ (small_part hs.2) (small_part ht.2)]
  congr 3
  rw [Bool.eq_iff_iff]
  simp [Prod.ext_iff]
  omega

theorem mul_cx (s : Nat × Nat) (hs : s.1 < pl.P ∧ s.2 < pl.P) (w : World) (t : TypeId) :
    (binOp .mul t (cx s) (.complex .f64 4643228808005025792 4613937818241073152)).run Try.prog w = .ok (.complex .f64 (fl (257 * (s.1 : Int) - 3 * s.2)) (fl (257 * (s.2 : Int) + 3 * s.1))) w := mul_step s.1 s.2 hs.1 hs.2 w t

theorem conv_int (z : Int) (hz : -60000000 ≤ z ∧ z ≤ 5000000000) (w : World) : (convert 41 2 (.float .f64 (fl z))).run Try.prog w = .ok (.int .i64 z) w := by
  refine run_convert_float_int w 41 2 .f64 .i64 _ z (by kernel_rfl) Try.underlying2 (fl_int z ?_ .i64 ?_ ?_)
  · unfold Small
    have : (2 : Nat) ^ 53 = 9007199254740992 := by decide
    omega
  · have : IntKind.min .i64 = -9223372036854775808 := by decide
    omega
  · have : IntKind.max .i64 = 9223372036854775807 := by decide
    omega

theorem tmod_bd (a : Int) : -16777199 < a.tmod 16777199 ∧ a.tmod 16777199 < 16777199 := by
  have h1 := Int.tmod_lt_of_pos a (show (0 : Int) < 16777199 by decide)
  have h2 := Int.tmod_lt_of_pos (-a) (show (0 : Int) < 16777199 by decide)
  rw [Int.neg_tmod] at h2
  omega
theorem tmod_emod (a : Int) : (a.tmod 16777199 + 16777199) % 16777199 = a % 16777199 := by
  have h := Int.tmod_add_mul_tdiv a 16777199
  generalize a.tdiv 16777199 = q at *
  generalize a.tmod 16777199 = r at *
  omega

set_option maxRecDepth 100000 in
set_option maxHeartbeats 1000000 in
theorem steps_any (w : World) (va vb : Value) (xs ys : List UInt8) (x : UInt8) (ha : Bs w va xs) (hb : Bs w vb ys) (la : xs.length < 140737488355328) (lb : ys.length < 140737488355328) :
    Calls Try.prog 13 #[va, vb, .int .u8 (x.toNat : Int)] w fun e w' => e = .returned (.bool true) ∧ Kp No w w' := by
  have HA := Hid_mk ha
  have HB := Hid_mk hb
  clear ha hb
  have h0 : (w.alloc (.cells #[] 5)).ownsRow w.heap.size 5 1 (.slice (some ⟨w.heap.size, 0, none⟩) 0 0) 0 [] := World.ownsRow_made w #[] 0 (Nat.le_refl _) (by decide) rfl
  have ha1 := bs_no HA.out ((Kp.refl No w).alloc (.cells #[] 5))
  have HA1 := Hid_mk ha1
  clear ha1
  go_enter Try.func13, Try.ntmps13
  go_wp2_with (at_builtin; go_loud (refine wpList_append_bs _ rfl _ _ rfl w.heap.size _ [] rfl h0 _ xs rfl HA1.out ?c1 ?c2 ?_))
  case c1 => simp; omega
  case c2 => simp
  · intro v1 w1 happ1
    have k1 : Kp No w w1 := ((Kp.refl No w).alloc _).grown happ1.2.1 fun k hk e => by simp [Value.ownBlock] at e; omega
    have K1 := Hid_mk k1
    have HO1 := Hid_mk happ1.1
    have hz1 : w.heap.size ≤ w1.heap.size := k1.size
    clear h0 happ1 k1
    go_wp2_with (at_builtin; go_loud (refine wpList_append_bs _ rfl _ _ rfl w.heap.size _ ([] ++ xs) rfl (HO1.out.alloc _) _ [x] rfl (bs_one w1 x) ?d1 ?d2 ?_))
    case d1 => simp; omega
    case d2 => simp; omega
    · intro v2 w2 happ2
      have k2 : Kp No w w2 := (K1.out.alloc _).grown happ2.2.1 fun k hk e => by have := (HO1.out.lt k e).1; omega
      have K2 := Hid_mk k2
      have B2 := owns_bs happ2.1
      have HB2 := Hid_mk B2
      clear happ2 k2 B2
      go_wp2_with fail
      refine (sum_any _ _ _ HB2.out).mono ?_
      rintro e w' ⟨rfl, rfl⟩
      go_wp2_with fail
      refine (sum_any _ _ _ (bs_no HA.out K2.out)).mono ?_
      rintro e w' ⟨rfl, rfl⟩
      have hmul := fun w t => mul_cx (pl.sum xs) (pl.sum_lt xs) w t
      obtain ⟨z1, hz1⟩ : ∃ z : Int, z = 257 * ((pl.sum xs).1 : Int) - 3 * ((pl.sum xs).2 : Int) := ⟨_, rfl⟩
      obtain ⟨z2, hz2⟩ : ∃ z : Int, z = 257 * ((pl.sum xs).2 : Int) + 3 * ((pl.sum xs).1 : Int) := ⟨_, rfl⟩
      rw [← hz1, ← hz2] at hmul
      have b1 : -60000000 < z1 ∧ z1 < 5000000000 := by have := pl.sum_lt xs; unfold pl.P at this; omega
      have b2 : 0 ≤ z2 ∧ z2 < 5000000000 := by have := pl.sum_lt xs; unfold pl.P at this; omega
      have q1 := fun w => conv_int z1 (by omega) w
      have q2 := fun w => conv_int z2 (by omega) w
      have HZ1 := Hid_mk hz1
      have HZ2 := Hid_mk hz2
      have hxb : x.toNat < 256 := UInt8.toNat_lt _
      obtain ⟨t1, ht1⟩ : ∃ t, (z1 + (x.toNat : Int) + 1).tmod 16777199 = t := ⟨_, rfl⟩
      have bt := tmod_bd (z1 + (x.toNat : Int) + 1)
      rw [ht1] at bt
      obtain ⟨m, hm⟩ : ∃ m, (t1 + 16777199) % 16777199 = m := ⟨_, rfl⟩
      have hmz : m = (z1 + ((x.toNat : Int) + 1)) % 16777199 := by rw [← hm, ← ht1, tmod_emod]; congr 1; omega
      have hstep : cx (pl.sum (xs ++ [x])) = .complex .f64 (floatOfInt .f64 m) (floatOfInt .f64 (z2 % 16777199)) := by
        rw [pl.sum_snoc, hmz, hz1, hz2]
        unfold cx pl.step
        simp only
        rw [pl.step_re _ _ _ (pl.sum_lt xs).2, pl.step_im]
        rfl
      have w1q : ∀ w t, (binOp .eql t (cx (pl.sum (xs ++ [x]))) (.complex .f64 (floatOfInt .f64 m) (floatOfInt .f64 (z2 % 16777199)))).run Try.prog w = .ok (.bool true) w := fun w t => by
        rw [← hstep]
        simpa using eql_cx (pl.sum (xs ++ [x])) (pl.sum (xs ++ [x])) (pl.sum_lt _) (pl.sum_lt _) t w
      clear hz1 hz2 hmz hstep
      have h0 : (w2.alloc (.cells #[] 5)).ownsRow w2.heap.size 5 1 (.slice (some ⟨w2.heap.size, 0, none⟩) 0 0) 0 [] := World.ownsRow_made w2 #[] 0 (Nat.le_refl _) (by decide) rfl
      have hb2 := bs_no HB.out (K2.out.alloc (.cells #[] 5))
      have HB2' := Hid_mk hb2
      clear hb2
      go_wp2_with (at_builtin; go_loud (refine wpList_append_bs _ rfl _ _ rfl w2.heap.size _ [] rfl h0 _ ys rfl HB2'.out ?e1 ?e2 ?_))
      case e1 => simp; omega
      case e2 => simp
      · intro v3 w3 happ3
        have k3 : Kp No w w3 := (K2.out.alloc _).grown happ3.2.1 fun k hk e => by have := K2.out.size; simp [Value.ownBlock] at e; omega
        have K3 := Hid_mk k3
        have HO3 := Hid_mk happ3.1
        have hz3 : w2.heap.size ≤ w3.heap.size := by have := happ3.2.1.size; simp at this; omega
        clear h0 happ3 k3
        go_wp2_with (at_builtin; go_loud (refine wpList_append_bs _ rfl _ _ rfl w2.heap.size _ ([] ++ ys) rfl (HO3.out.alloc _) _ [x] rfl (bs_one w3 x) ?f1 ?f2 ?_))
        case f1 => simp; omega
        case f2 => simp; omega
        · intro v4 w4 happ4
          have k4 : Kp No w w4 := (K3.out.alloc _).grown happ4.2.1 fun k hk e => by have := (HO3.out.lt k e).1; have := K2.out.size; omega
          have K4 := Hid_mk k4
          have B4 := owns_bs happ4.1
          have HB4 := Hid_mk B4
          clear happ4 k4 B4
          go_wp2_with fail
          refine (sum_any _ _ _ HB4.out).mono ?_
          rintro e w' ⟨rfl, rfl⟩
          go_wp2_with fail
          refine (known_any _).mono ?_
          rintro e w5 ⟨rfl, hk5⟩
          have K5 := Hid_mk (K4.out.trans' hk5)
          clear hk5
          have SX := pl.sum_lt xs
          have SY := pl.sum_lt ys
          have SX1 := pl.sum_lt (xs ++ [x])
          have SY1 := pl.sum_lt (ys ++ [x])
          by_cases hs : pl.sum xs = pl.sum ys
          · have f1 : ∀ w t, (binOp .neq t (cx (pl.sum xs)) (cx (pl.sum ys))).run Try.prog w = .ok (.bool false) w := fun w t => by rw [neq_cx _ _ SX SY]; simp [hs]
            have f2 : ∀ w t, (binOp .eql t (cx (pl.sum xs)) (cx (pl.sum ys))).run Try.prog w = .ok (.bool true) w := fun w t => by rw [eql_cx _ _ SX SY]; simp [hs]
            have hs1 : pl.sum (xs ++ [x]) = pl.sum (ys ++ [x]) := by rw [pl.sum_snoc, pl.sum_snoc, hs]
            have f3 : ∀ w t, (binOp .eql t (cx (pl.sum (xs ++ [x]))) (cx (pl.sum (ys ++ [x])))).run Try.prog w = .ok (.bool true) w := fun w t => by rw [eql_cx _ _ SX1 SY1]; simp [hs1]
            have f4 : ∀ w t, (binOp .neq t (cx (pl.sum (xs ++ [x]))) (cx (pl.sum (ys ++ [x])))).run Try.prog w = .ok (.bool false) w := fun w t => by rw [neq_cx _ _ SX1 SY1]; simp [hs1]
            clear SX SY SX1 SY1 hs hs1
            go_wp2_with fail
            refine (sum_any _ _ _ (bs_no HA.out K5.out)).mono ?_
            rintro e w' ⟨rfl, rfl⟩
            go_wp2_with fail
            refine (sum_any _ _ _ (bs_no HB.out K5.out)).mono ?_
            rintro e w' ⟨rfl, rfl⟩
            go_wp2_with fail
            refine (sum_any _ _ _ (bs_no HA.out K5.out)).mono ?_
            rintro e w' ⟨rfl, rfl⟩
            go_wp2_with fail
            refine (sum_any _ _ _ (bs_no HB.out K5.out)).mono ?_
            rintro e w' ⟨rfl, rfl⟩
            go_wp2
            go_ret
            exact ⟨rfl, K5.out⟩
          · have f1 : ∀ w t, (binOp .neq t (cx (pl.sum xs)) (cx (pl.sum ys))).run Try.prog w = .ok (.bool true) w := fun w t => by rw [neq_cx _ _ SX SY]; simp [hs]
            have f2 : ∀ w t, (binOp .eql t (cx (pl.sum xs)) (cx (pl.sum ys))).run Try.prog w = .ok (.bool false) w := fun w t => by rw [eql_cx _ _ SX SY]; simp [hs]
            have hs1 : ¬ pl.sum (xs ++ [x]) = pl.sum (ys ++ [x]) := by rw [pl.sum_snoc, pl.sum_snoc]; exact fun e => hs (pl.step_inj x SX SY e)
            have f4 : ∀ w t, (binOp .neq t (cx (pl.sum (xs ++ [x]))) (cx (pl.sum (ys ++ [x])))).run Try.prog w = .ok (.bool true) w := fun w t => by rw [neq_cx _ _ SX1 SY1]; simp [hs1]
            clear SX SY SX1 SY1 hs hs1
            go_wp2_with fail
            refine (sum_any _ _ _ (bs_no HA.out K5.out)).mono ?_
            rintro e w' ⟨rfl, rfl⟩
            go_wp2_with fail
            refine (sum_any _ _ _ (bs_no HB.out K5.out)).mono ?_
            rintro e w' ⟨rfl, rfl⟩
            go_wp2_with fail
            refine (sum_any _ _ _ (bs_no HA.out K5.out)).mono ?_
            rintro e w' ⟨rfl, rfl⟩
            go_wp2_with fail
            refine (sum_any _ _ _ (bs_no HB.out K5.out)).mono ?_
            rintro e w' ⟨rfl, rfl⟩
            go_wp2
            go_ret
            exact ⟨rfl, K5.out⟩

end Go.Proofs.Ytbnnbedmcipnpaa.steps
