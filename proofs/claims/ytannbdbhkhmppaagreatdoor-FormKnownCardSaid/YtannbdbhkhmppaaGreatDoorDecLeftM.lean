/- The library's decimals: a shift to the left: the walk. A whole number set down as a decimal. -/
import Derived.Test.YtannbdbhkhmppaaGreatDoorFmtGeM

namespace Go.Proofs.YtannbdbhkhmppaaGreatDoor.fmtf
open Go.RowKit Go.Proofs.YtannbdbhkhmppaaGreatDoor.sum Go.Proofs.YtannbdbhkhmppaaGreatDoor.kept Go.Proofs.YtannbdbhkhmppaaGreatDoor.str Go.Proofs.YtannbdbhkhmppaaGreatDoor.nums
set_option linter.unusedVariables false

/-- what is laid of how a shift makes a number longer -/
def Lc (w : World) (k dl : Nat) (s : List UInt8) : Prop := ∃ r o n c, w.cell? ⟨8, 0, none⟩ = some (.slice (some ⟨r, o, none⟩) n c) ∧ k < n ∧ n ≤ c ∧ n ≤ 1000 ∧ w.cell? ⟨r, o + k * 2, none⟩ = some (.int .i64 (dl : Int)) ∧ w.cell? ⟨r, o + k * 2 + 1, none⟩ = some (.string (st s))
theorem Lc.kp {w w' : World} {k dl : Nat} {s : List UInt8} {S : Nat → Prop} (h : Lc w k dl s) (hk : Kp S w w') (hS : ∀ r, w.cell? ⟨8, 0, none⟩ = some r → True) (h1 : ¬ S 8) (h2 : ∀ r o n c, w.cell? ⟨8, 0, none⟩ = some (.slice (some ⟨r, o, none⟩) n c) → ¬ S r) : Lc w' k dl s := by
  obtain ⟨r, o, n, c, a1, a2, a3, a4, a5, a6⟩ := h
  exact ⟨r, o, n, c, hk.cell' a1 h1, a2, a3, a4, hk.cell' a5 (h2 r o n c a1), hk.cell' a6 (h2 r o n c a1)⟩
/-- what a shift leaves -/
def LsPost (q : Nat) (w : World) (P w0 : Nat) (dp : Int) (ng tr : Bool) (e : Ending) (w' : World) : Prop := e = .returned (.tuple #[]) ∧ Kp (fun b => b = q) w w' ∧ ∃ f, DecAt w' q f (trimN f w0) (if trimN f w0 = 0 then 0 else dp) ng tr ∧ ∀ i, i < w0 → f i = dgt P w0 i
theorem p10_pos (k : Nat) : 0 < 10 ^ k := Nat.pow_pos (by omega)

set_option maxRecDepth 100000 in
set_option maxHeartbeats 16000000 in
theorem lshift_any (w : World) (q : Nat) (f : Nat → Nat) (nd : Nat) (dp : Int) (ng tr : Bool) (h : DecAt w q f nd dp ng tr) (k dl : Nat) (s : List UInt8) (hc : Lc w k dl s) (hk : k ≤ 60) (hs : s.length ≤ 1000) (hdl : dl ≤ 100) (hnd0 : 0 < nd) (hf : DgF f nd)
    (dt w0 P : Nat) (hdt : (if lexS f nd s = true then dl - 1 else dl) = dt) (hl1 : lexS f nd s = true → 1 ≤ dl) (hw0 : nd + dt = w0) (h800 : w0 ≤ 800) (hP : valF f nd * 2 ^ k = P) (hP1 : P < 10 ^ w0) (hP2 : 10 ^ (w0 - 1) ≤ P) (hdp1 : -100000 ≤ dp) (hdp2 : dp ≤ 100000) :
    Calls Tryz.prog 117 #[.pointer (some ⟨q, 0, none⟩), .int .u64 (k : Int)] w (LsPost q w P w0 (dp + (dt : Int)) ng tr) := by
  have hqlt : q < w.heap.size := World.block_lt_of_cell? w _ h.c0
  obtain ⟨r, o, n, cp, cg, hkn, hnc, hn1000, cdl, cst⟩ := hc
  have HPr := Hid_mk fun W (hk : Kp No w W) => prefix_any W q nd 800 f s (fun i hi => hk.cell' (h.at i (by omega)) id) (by omega) (by omega) hs
  obtain ⟨lx, hlx⟩ : ∃ lx, lexS f nd s = lx := ⟨_, rfl⟩
  rw [hlx] at hdt hl1 HPr
  obtain ⟨V, hV⟩ : ∃ V, valF f nd = V := ⟨_, rfl⟩
  have hVlt : V < 10 ^ nd := by rw [← hV]; exact valF_lt hf
  have HVd := Hid_mk (show ∀ j, j < nd → V / 10 ^ (nd - 1 - j) % 10 = f j - 48 by rw [← hV]; exact fun j hj => val_dig hf hj)
  have HF := Hid_mk hf
  rw [hV] at hP
  have HH := Hid_mk h
  have HT := Hid_mk fun W f nd dp ng tr h h2 => trim_any W q f nd dp ng tr h h2
  have HPe := Hid_mk hP
  have HP1 := Hid_mk hP1
  have HP2 := Hid_mk hP2
  have HVl := Hid_mk hVlt
  have HCar := Hid_mk (show ∀ t, carN V k t < 2 ^ k from car_lt V k)
  have HQ := Hid_mk hqlt
  have h2k : 2 ^ k ≤ 2 ^ 60 := Nat.pow_le_pow_right (by omega) hk
  obtain ⟨K2, hK2⟩ : ∃ K2, 2 ^ k = K2 := ⟨_, rfl⟩
  rw [hK2] at HCar h2k
  have hK2i : (2 : Int) ^ k = (K2 : Int) := by rw [← hK2]; simp
  have HK2 := Hid_mk hK2
  have h2k2 : K2 ≤ 1152921504606846976 := h2k
  have hk64 : (k : Int) < 64 := by omega
  have hk0 : (0 : Int) ≤ (k : Int) := Int.natCast_nonneg _
  have hkni : (k : Int) < (n : Int) := by omega
  have hn1 : (n : Int) ≤ 1000 := by omega
  have hnc2 : (n : Int) ≤ (cp : Int) := by omega
  have hnd8 : (nd : Int) ≤ 800 := by omega
  have hndp : (1 : Int) ≤ (nd : Int) := by omega
  have hdl0 : (0 : Int) ≤ (dl : Int) := Int.natCast_nonneg _
  have hdl9 : (dl : Int) ≤ 100 := by omega
  have hdt0 : (0 : Int) ≤ (dt : Int) := Int.natCast_nonneg _
  have hdt9 : (dt : Int) ≤ 100 := by rw [← hdt]; split <;> omega
  have c0 := h.c0
  have hg0 : 8 < w.heap.size := World.block_lt_of_cell? w _ cg
  have hr0 : r < w.heap.size := World.block_lt_of_cell? w _ cdl
  have HW0 := Hid_mk hw0
  have H800 := Hid_mk h800
  have HND0 := Hid_mk hnd0
  clear h hP hP1 hP2 hVlt hV h2k hK2 hk hs hlx hf hkn hnc hn1000 hdl hqlt hw0 h800 hnd0
  go_enter Tryz.func117, Tryz.ntmps117
  go_wp2_with fail
  rcases lx with _ | _
  · have hdt2 : (dl : Int) = (dt : Int) := by rw [if_neg (by simp)] at hdt; omega
    clear hdt hl1 hdl0 hdl9
    go_region_with (go_at_call 126; (with_reducible refine (HPr.out _ (by exact ⟨rfl, rfl, rfl, Nat.le_refl _, fun _ _ _ => rfl⟩)).mono ?_); rintro e5 w5 ⟨rfl, m5, rfl⟩)
    all_goals
      obtain ⟨W1, hW1⟩ : ∃ W1, w.drewN (1 + m5) = W1 := ⟨_, rfl⟩
      rw [hW1]
      have HD1 : Hid (DecAt W1 q f nd dp ng tr) := Hid_mk (by rw [← hW1]; exact HH.out.drewN _)
      have HK1 : Hid (Kp (fun b => b = q) w W1) := Hid_mk (by rw [← hW1]; exact (Kp.refl _ w).drewN _)
      clear hW1 c0 cg cdl cst hg0 hr0 hkni hn1 hnc2
      have c0 := HD1.out.c0
      have hw0i : (nd : Int) + (dt : Int) = (w0 : Int) := by have := HW0.out; omega
      go_wp2_with fail
      go_loopw [5, 6, 7, 8, 9] (fun a b c _ _ wr => ∃ (m : Int) (t : Nat) (v : Int) (A : Nat) (f2 : Nat → Nat), a = .int .i64 m ∧ b = .int .i64 v ∧ c = .int .u64 (A : Int) ∧ m = (nd : Int) - 1 - (t : Int) ∧ v = (w0 : Int) - (t : Int) ∧ A = carN V k t ∧ t ≤ nd ∧ DecAt wr q f2 nd dp ng tr ∧ (∀ j, j < w0 - t → f2 j = f j) ∧ (∀ j, w0 - t ≤ j → j < w0 → f2 j = dgt P w0 j) ∧ Kp (fun b => b = q) w wr) (fun a _ _ _ _ _ => (intOf a + 1).toNat)
      case atStart => exact ⟨(nd : Int) - 1, 0, (w0 : Int), 0, f, by go_num, by go_num, rfl, by omega, by omega, (car_zero V k).symm, Nat.zero_le _, HD1.out, fun _ _ => rfl, fun j h1 h2 => by omega, HK1.out⟩
      case round =>
        obtain ⟨m, t, v, A, f2, rfl, rfl, rfl, hm, hv, hA, ht, hd, hfo, hfn, hkp⟩ := hrel
        have HDw := Hid_mk hd
        have HFo := Hid_mk hfo
        have HFn := Hid_mk hfn
        have HKw := Hid_mk hkp
        have HA := Hid_mk hA
        have HTn := Hid_mk ht
        have ht0 : (0 : Int) ≤ (t : Int) := Int.natCast_nonneg _
        have hA0 : (0 : Int) ≤ (A : Int) := Int.natCast_nonneg _
        have hAlt : A < K2 := by rw [hA]; exact HCar.out t
        have cw := hd.warm
        have c0 := hd.c0
        have hqs : q < wr.heap.size := World.block_lt_of_cell? wr _ hd.c0
        rcases Nat.lt_or_ge t nd with hlt | hge
        · obtain ⟨j, hj⟩ : ∃ j : Nat, nd - 1 - t = j := ⟨_, rfl⟩
          have hmj : m = (j : Int) := by omega
          subst hmj
          obtain ⟨j2, hj2⟩ : ∃ j2 : Nat, w0 - 1 - t = j2 := ⟨_, rfl⟩
          have HW0t := HW0.out
          have H8t := H800.out
          have hv2 : v - 1 = (j2 : Int) := by omega
          have hj0 : (0 : Int) ≤ (j : Int) := Int.natCast_nonneg _
          have hj8 : (j : Int) < 800 := by omega
          have hj20 : (0 : Int) ≤ (j2 : Int) := Int.natCast_nonneg _
          have hj28 : (j2 : Int) < 800 := by omega
          have hv8 : v ≤ 800 := by omega
          have hv0 : 0 < v := by omega
          have cj := hd.at j (by omega)
          have cj2 := hd.at j2 (by omega)
          rw [hfo j (by omega)] at cj
          have hfj := HF.out j (by omega)
          have hdj := HVd.out j (by omega)
          rw [show nd - 1 - j = t by omega] at hdj
          obtain ⟨y, hy⟩ : ∃ y, f j = y := ⟨_, rfl⟩
          rw [hy] at cj hfj hdj
          obtain ⟨d, hd2⟩ : ∃ d, y - 48 = d := ⟨_, rfl⟩
          rw [hd2] at hdj
          have hd9 : d ≤ 9 := by omega
          have hy0 : (0 : Int) ≤ (y : Int) := Int.natCast_nonneg _
          obtain ⟨D, hD⟩ : ∃ D, d * K2 = D := ⟨_, rfl⟩
          have hDb : D ≤ 9 * K2 := by rw [← hD]; exact Nat.mul_le_mul_right _ hd9
          obtain ⟨M, hM⟩ : ∃ M, A + D = M := ⟨_, rfl⟩
          obtain ⟨Y, hY⟩ : ∃ Y, M / 10 = Y := ⟨_, rfl⟩
          obtain ⟨Z, hZ⟩ : ∃ Z, M % 10 = Z := ⟨_, rfl⟩
          have hYc : Y = carN V k (t + 1) := by rw [← hY, ← hM, ← hD, hA, ← hdj, ← HK2.out]; exact car_quo V k t
          have hZc : Z = P / 10 ^ t % 10 := by rw [← hZ, ← hM, ← hD, hA, ← hdj, ← HK2.out, ← HPe.out]; exact car_rem V k t
          have HYc := Hid_mk hYc
          have HZc := Hid_mk hZc
          have hM0 : (0 : Int) ≤ (M : Int) := Int.natCast_nonneg _
          have hZ0 : (0 : Int) ≤ (Z : Int) := Int.natCast_nonneg _
          have hY0 : (0 : Int) ≤ (Y : Int) := Int.natCast_nonneg _
          have hZ9 : Z < 10 := by omega
          have e1 : IntKind.u64.wrap (y : Int) = (y : Int) := wu _ (by omega) (by omega)
          have e2 : IntKind.u64.wrap ((y : Int) - 48) = (d : Int) := by rw [wu _ (by omega) (by omega)]; omega
          have e3 : IntKind.u64.wrap ((d : Int) * (K2 : Int)) = (D : Int) := by rw [← Int.natCast_mul, hD]; exact wu _ (by omega) (by omega)
          have e3b : IntKind.u64.wrap ((d : Int) * 2 ^ k) = (D : Int) := by rw [hK2i]; exact e3
          have e4 : IntKind.u64.wrap ((A : Int) + (D : Int)) = (M : Int) := by rw [wu _ (by omega) (by omega)]; omega
          have d1 : (M : Int).tdiv 10 = (Y : Int) := by rw [Int.tdiv_eq_ediv_of_nonneg hM0]; omega
          have d2 : IntKind.u64.wrap (Y : Int) = (Y : Int) := wu _ (by omega) (by omega)
          have d3 : IntKind.u64.wrap (10 * (Y : Int)) = 10 * (Y : Int) := wu _ (by omega) (by omega)
          have d4 : IntKind.u64.wrap ((M : Int) - 10 * (Y : Int)) = (Z : Int) := by rw [wu _ (by omega) (by omega)]; omega
          have d5 : IntKind.u64.wrap ((Z : Int) + 48) = (Z : Int) + 48 := wu _ (by omega) (by omega)
          have d6 : IntKind.u8.wrap ((Z : Int) + 48) = (Z : Int) + 48 := by simp [IntKind.wrap, IntKind.signed, IntKind.bits]; omega
          have HJ2 := Hid_mk hj2
          have HJ := Hid_mk hj
          have HLt := Hid_mk hlt
          clear hv hA hAlt ht hd hfo hfn hkp hlt hj hj2 HW0t H8t hfj hdj hy hd2 hd9 hD hDb hM hY hZ hYc hZc hZ9 hm
          go_wp2
          go_roundw
          case rel =>
            have hw0n := HW0.out
            refine ⟨(j : Int) - 1, t + 1, (j2 : Int), Y, upd f2 j2 (Z + 48), rfl, rfl, rfl, by have := HJ.out; have := HLt.out; omega, by have := HJ2.out; have := HLt.out; omega, HYc.out, HLt.out, ?_, fun i hi => ?_, fun i h1 h2 => ?_, kq_set HKw.out⟩
            · have h9 := HDw.out.setD j2 (Z + 48) (by omega)
              rw [show ((Z + 48 : Nat) : Int) = (Z : Int) + 48 by omega] at h9
              exact h9
            · unfold upd
              rw [if_neg (by have := HJ2.out; omega)]
              exact HFo.out i (by omega)
            · unfold upd
              by_cases e : i = j2
              · rw [if_pos e]
                unfold dgt
                rw [e, ← HJ2.out, show w0 - 1 - (w0 - 1 - t) = t by have := HLt.out; omega, ← HZc.out]
                omega
              · rw [if_neg e]
                exact HFn.out i (by have := HJ2.out; omega) h2
          case measure => simp [intOf]
        · obtain rfl : nd = t := by omega
          have hm1 : m = -1 := by omega
          subst hm1
          obtain ⟨W2, rfl⟩ : ∃ W2, W2 = wr := ⟨_, rfl⟩
          have HA2 : Hid (A = P / 10 ^ nd) := Hid_mk (by rw [HA.out, ← HPe.out]; exact car_end k HVl.out)
          have HAl := Hid_mk hAlt
          have HV2 := Hid_mk hv
          clear hv hA hAlt ht hd hfo hfn hkp hge hm HA hA0 HFo cw hqs c0
          go_wp2_with fail
          go_loopw [6, 7, 10, 11] (fun b c _ _ wr => ∃ (t : Nat) (v : Int) (A : Nat) (f2 : Nat → Nat), b = .int .i64 v ∧ c = .int .u64 (A : Int) ∧ v = (w0 : Int) - (t : Int) ∧ A = P / 10 ^ t ∧ A < K2 ∧ t ≤ w0 ∧ DecAt wr q f2 nd dp ng tr ∧ (∀ j, w0 - t ≤ j → j < w0 → f2 j = dgt P w0 j) ∧ Kp (fun b => b = q) w wr) (fun _ c _ _ _ => (intOf c).toNat)
          case atStart => exact ⟨_, v, A, f2, rfl, rfl, HV2.out, HA2.out, HAl.out, by have := HW0.out; omega, HDw.out, HFn.out, HKw.out⟩
          case round =>
            obtain ⟨t2, v2, A2, f3, rfl, rfl, hv, hA, hAb, ht, hd, hfn, hkp⟩ := hrel
            have HDw3 := Hid_mk hd
            have HFn3 := Hid_mk hfn
            have HKw3 := Hid_mk hkp
            have HA3 := Hid_mk hA
            have HTn3 := Hid_mk ht
            have ht20 : (0 : Int) ≤ (t2 : Int) := Int.natCast_nonneg _
            have hA0 : (0 : Int) ≤ (A2 : Int) := Int.natCast_nonneg _
            have cw := hd.warm
            have c0 := hd.c0
            have c1 := hd.c1
            have hqs : q < wr.heap.size := World.block_lt_of_cell? wr _ hd.c0
            rcases Nat.eq_zero_or_pos A2 with e0 | e0
            · subst e0
              have htw : t2 = w0 := by
                rcases Nat.lt_or_ge t2 w0 with h3 | h3
                · have h4 := Nat.pow_le_pow_right (show 0 < 10 by omega) (show t2 ≤ w0 - 1 by omega)
                  have h5 := Nat.div_pos (Nat.le_trans h4 HP2.out) (p10_pos t2)
                  omega
                · omega
              subst htw
              have hFull : ∀ j, j < t2 → f3 j = dgt P t2 j := fun j hj => hfn j (by omega) hj
              have HFull := Hid_mk hFull
              obtain ⟨W3, rfl⟩ : ∃ W3, W3 = wr := ⟨_, rfl⟩
              have hz : ¬ (0 : Int) < 0 := by omega
              have hw8 : (t2 : Int) ≤ 800 := by have := H800.out; omega
              clear hv hA ht hd hfn hkp hFull hA0 HFn3 hAb
              have hD4 : DecAt ((W3.setCell ⟨q, 800, none⟩ (.int .i64 (t2 : Int))).setCell ⟨q, 801, none⟩ (.int .i64 (dp + (dt : Int)))) q f3 t2 (dp + (dt : Int)) ng tr := (HDw3.out.setNd t2).setDp _
              have hK4 : Kp (fun b => b = q) w ((W3.setCell ⟨q, 800, none⟩ (.int .i64 (t2 : Int))).setCell ⟨q, 801, none⟩ (.int .i64 (dp + (dt : Int)))) := kq_set (kq_set HKw3.out)
              have HD4 := Hid_mk hD4
              have HK4 := Hid_mk hK4
              clear hD4 hK4
              by_cases e8 : t2 = 800
              · have hge8 : (800 : Int) ≤ (t2 : Int) := by omega
                have HE8 := Hid_mk e8
                have h9 := ((HDw3.out.setNd t2).setNd 800).setDp (dp + (dt : Int))
                rw [show ((800 : Nat) : Int) = 800 from rfl] at h9
                have h9k : Kp (fun b => b = q) w (((W3.setCell ⟨q, 800, none⟩ (.int .i64 (t2 : Int))).setCell ⟨q, 800, none⟩ (.int .i64 800)).setCell ⟨q, 801, none⟩ (.int .i64 (dp + (dt : Int)))) := kq_set (kq_set (kq_set HKw3.out))
                have HD9 := Hid_mk h9
                have HK9 := Hid_mk h9k
                clear e8 h9 h9k
                go_wp2_with fail
                with_reducible refine (HT.out _ f3 800 (dp + (dt : Int)) ng tr HD9.out (by omega)).mono ?_
                rintro e w5 ⟨rfl, hk5, hd5⟩
                have HK5 := Hid_mk hk5
                have HD5 := Hid_mk hd5
                clear hk5 hd5
                go_wp2
                go_end0
                refine ⟨rfl, HK9.out.trans' HK5.out, f3, ?_, HFull.out⟩
                rw [HE8.out]
                exact HD5.out
              · have hge8 : ¬ (800 : Int) ≤ (t2 : Int) := by omega
                clear e8
                go_wp2_with fail
                with_reducible refine (HT.out _ f3 t2 (dp + (dt : Int)) ng tr HD4.out (by have := H800.out; omega)).mono ?_
                rintro e w5 ⟨rfl, hk5, hd5⟩
                have HK5 := Hid_mk hk5
                have HD5 := Hid_mk hd5
                clear hk5 hd5
                go_wp2
                go_end0
                exact ⟨rfl, HK4.out.trans' HK5.out, f3, HD5.out, HFull.out⟩
            · have htw : t2 < w0 := by
                rcases Nat.lt_or_ge t2 w0 with h3 | h3
                · exact h3
                · obtain rfl : t2 = w0 := by omega
                  rw [Nat.div_eq_of_lt HP1.out] at hA
                  omega
              have HAb := Hid_mk hAb
              obtain ⟨j2, hj2⟩ : ∃ j2 : Nat, w0 - 1 - t2 = j2 := ⟨_, rfl⟩
              have H8t := H800.out
              have hv2 : v2 - 1 = (j2 : Int) := by omega
              have hj20 : (0 : Int) ≤ (j2 : Int) := Int.natCast_nonneg _
              have hj28 : (j2 : Int) < 800 := by omega
              have hv8 : v2 ≤ 800 := by omega
              have hv0 : 0 < v2 := by omega
              have hpos : (0 : Int) < (A2 : Int) := by omega
              have cj2 := hd.at j2 (by omega)
              obtain ⟨Y, hY⟩ : ∃ Y, A2 / 10 = Y := ⟨_, rfl⟩
              obtain ⟨Z, hZ⟩ : ∃ Z, A2 % 10 = Z := ⟨_, rfl⟩
              have HYc : Hid (Y = P / 10 ^ (t2 + 1)) := Hid_mk (by rw [← hY, hA, Nat.pow_succ, ← Nat.div_div_eq_div_mul])
              have HZc : Hid (Z = P / 10 ^ t2 % 10) := Hid_mk (by rw [← hZ, hA])
              have hZ0 : (0 : Int) ≤ (Z : Int) := Int.natCast_nonneg _
              have hY0 : (0 : Int) ≤ (Y : Int) := Int.natCast_nonneg _
              have hZ9 : Z < 10 := by omega
              have d1 : (A2 : Int).tdiv 10 = (Y : Int) := by rw [Int.tdiv_eq_ediv_of_nonneg hA0]; omega
              have d2 : IntKind.u64.wrap (Y : Int) = (Y : Int) := wu _ (by omega) (by omega)
              have d3 : IntKind.u64.wrap (10 * (Y : Int)) = 10 * (Y : Int) := wu _ (by omega) (by omega)
              have d4 : IntKind.u64.wrap ((A2 : Int) - 10 * (Y : Int)) = (Z : Int) := by rw [wu _ (by omega) (by omega)]; omega
              have d5 : IntKind.u64.wrap ((Z : Int) + 48) = (Z : Int) + 48 := wu _ (by omega) (by omega)
              have d6 : IntKind.u8.wrap ((Z : Int) + 48) = (Z : Int) + 48 := by simp [IntKind.wrap, IntKind.signed, IntKind.bits]; omega
              have HJ2 := Hid_mk hj2
              have HLt := Hid_mk htw
              have HYl : Hid (Y < A2) := Hid_mk (by omega)
              clear hv hA ht hd hfn hkp hj2 htw H8t hY hZ hZ9 e0 hAb
              go_wp2
              go_roundw
              case rel =>
                refine ⟨t2 + 1, (j2 : Int), Y, upd f3 j2 (Z + 48), rfl, rfl, by have := HJ2.out; have := HLt.out; omega, HYc.out, by have := HYl.out; have := HAb.out; omega, HLt.out, ?_, fun i h1 h2 => ?_, kq_set HKw3.out⟩
                · have h9 := HDw3.out.setD j2 (Z + 48) (by omega)
                  rw [show ((Z + 48 : Nat) : Int) = (Z : Int) + 48 by omega] at h9
                  exact h9
                · unfold upd
                  by_cases e : i = j2
                  · rw [if_pos e]
                    unfold dgt
                    rw [e, ← HJ2.out, show w0 - 1 - (w0 - 1 - t2) = t2 by have := HLt.out; omega, ← HZc.out]
                    omega
                  · rw [if_neg e]
                    exact HFn3.out i (by have := HJ2.out; omega) h2
              case measure => have := HYl.out; simp [intOf]; omega
  · have hdt2 : (dl : Int) - 1 = (dt : Int) := by rw [if_pos rfl] at hdt; have := hl1 rfl; omega
    clear hdt hl1
    go_region_with (go_at_call 126; (with_reducible refine (HPr.out _ (by exact ⟨rfl, rfl, rfl, Nat.le_refl _, fun _ _ _ => rfl⟩)).mono ?_); rintro e5 w5 ⟨rfl, m5, rfl⟩)
    all_goals
      obtain ⟨W1, hW1⟩ : ∃ W1, w.drewN (1 + m5) = W1 := ⟨_, rfl⟩
      rw [hW1]
      have HD1 : Hid (DecAt W1 q f nd dp ng tr) := Hid_mk (by rw [← hW1]; exact HH.out.drewN _)
      have HK1 : Hid (Kp (fun b => b = q) w W1) := Hid_mk (by rw [← hW1]; exact (Kp.refl _ w).drewN _)
      clear hW1 c0 cg cdl cst hg0 hr0 hkni hn1 hnc2
      have c0 := HD1.out.c0
      have hw0i : (nd : Int) + (dt : Int) = (w0 : Int) := by have := HW0.out; omega
      go_wp2_with fail
      go_loopw [5, 6, 7, 8, 9] (fun a b c _ _ wr => ∃ (m : Int) (t : Nat) (v : Int) (A : Nat) (f2 : Nat → Nat), a = .int .i64 m ∧ b = .int .i64 v ∧ c = .int .u64 (A : Int) ∧ m = (nd : Int) - 1 - (t : Int) ∧ v = (w0 : Int) - (t : Int) ∧ A = carN V k t ∧ t ≤ nd ∧ DecAt wr q f2 nd dp ng tr ∧ (∀ j, j < w0 - t → f2 j = f j) ∧ (∀ j, w0 - t ≤ j → j < w0 → f2 j = dgt P w0 j) ∧ Kp (fun b => b = q) w wr) (fun a _ _ _ _ _ => (intOf a + 1).toNat)
      case atStart => exact ⟨(nd : Int) - 1, 0, (w0 : Int), 0, f, by go_num, by go_num, rfl, by omega, by omega, (car_zero V k).symm, Nat.zero_le _, HD1.out, fun _ _ => rfl, fun j h1 h2 => by omega, HK1.out⟩
      case round =>
        obtain ⟨m, t, v, A, f2, rfl, rfl, rfl, hm, hv, hA, ht, hd, hfo, hfn, hkp⟩ := hrel
        have HDw := Hid_mk hd
        have HFo := Hid_mk hfo
        have HFn := Hid_mk hfn
        have HKw := Hid_mk hkp
        have HA := Hid_mk hA
        have HTn := Hid_mk ht
        have ht0 : (0 : Int) ≤ (t : Int) := Int.natCast_nonneg _
        have hA0 : (0 : Int) ≤ (A : Int) := Int.natCast_nonneg _
        have hAlt : A < K2 := by rw [hA]; exact HCar.out t
        have cw := hd.warm
        have c0 := hd.c0
        have hqs : q < wr.heap.size := World.block_lt_of_cell? wr _ hd.c0
        rcases Nat.lt_or_ge t nd with hlt | hge
        · obtain ⟨j, hj⟩ : ∃ j : Nat, nd - 1 - t = j := ⟨_, rfl⟩
          have hmj : m = (j : Int) := by omega
          subst hmj
          obtain ⟨j2, hj2⟩ : ∃ j2 : Nat, w0 - 1 - t = j2 := ⟨_, rfl⟩
          have HW0t := HW0.out
          have H8t := H800.out
          have hv2 : v - 1 = (j2 : Int) := by omega
          have hj0 : (0 : Int) ≤ (j : Int) := Int.natCast_nonneg _
          have hj8 : (j : Int) < 800 := by omega
          have hj20 : (0 : Int) ≤ (j2 : Int) := Int.natCast_nonneg _
          have hj28 : (j2 : Int) < 800 := by omega
          have hv8 : v ≤ 800 := by omega
          have hv0 : 0 < v := by omega
          have cj := hd.at j (by omega)
          have cj2 := hd.at j2 (by omega)
          rw [hfo j (by omega)] at cj
          have hfj := HF.out j (by omega)
          have hdj := HVd.out j (by omega)
          rw [show nd - 1 - j = t by omega] at hdj
          obtain ⟨y, hy⟩ : ∃ y, f j = y := ⟨_, rfl⟩
          rw [hy] at cj hfj hdj
          obtain ⟨d, hd2⟩ : ∃ d, y - 48 = d := ⟨_, rfl⟩
          rw [hd2] at hdj
          have hd9 : d ≤ 9 := by omega
          have hy0 : (0 : Int) ≤ (y : Int) := Int.natCast_nonneg _
          obtain ⟨D, hD⟩ : ∃ D, d * K2 = D := ⟨_, rfl⟩
          have hDb : D ≤ 9 * K2 := by rw [← hD]; exact Nat.mul_le_mul_right _ hd9
          obtain ⟨M, hM⟩ : ∃ M, A + D = M := ⟨_, rfl⟩
          obtain ⟨Y, hY⟩ : ∃ Y, M / 10 = Y := ⟨_, rfl⟩
          obtain ⟨Z, hZ⟩ : ∃ Z, M % 10 = Z := ⟨_, rfl⟩
          have hYc : Y = carN V k (t + 1) := by rw [← hY, ← hM, ← hD, hA, ← hdj, ← HK2.out]; exact car_quo V k t
          have hZc : Z = P / 10 ^ t % 10 := by rw [← hZ, ← hM, ← hD, hA, ← hdj, ← HK2.out, ← HPe.out]; exact car_rem V k t
          have HYc := Hid_mk hYc
          have HZc := Hid_mk hZc
          have hM0 : (0 : Int) ≤ (M : Int) := Int.natCast_nonneg _
          have hZ0 : (0 : Int) ≤ (Z : Int) := Int.natCast_nonneg _
          have hY0 : (0 : Int) ≤ (Y : Int) := Int.natCast_nonneg _
          have hZ9 : Z < 10 := by omega
          have e1 : IntKind.u64.wrap (y : Int) = (y : Int) := wu _ (by omega) (by omega)
          have e2 : IntKind.u64.wrap ((y : Int) - 48) = (d : Int) := by rw [wu _ (by omega) (by omega)]; omega
          have e3 : IntKind.u64.wrap ((d : Int) * (K2 : Int)) = (D : Int) := by rw [← Int.natCast_mul, hD]; exact wu _ (by omega) (by omega)
          have e3b : IntKind.u64.wrap ((d : Int) * 2 ^ k) = (D : Int) := by rw [hK2i]; exact e3
          have e4 : IntKind.u64.wrap ((A : Int) + (D : Int)) = (M : Int) := by rw [wu _ (by omega) (by omega)]; omega
          have d1 : (M : Int).tdiv 10 = (Y : Int) := by rw [Int.tdiv_eq_ediv_of_nonneg hM0]; omega
          have d2 : IntKind.u64.wrap (Y : Int) = (Y : Int) := wu _ (by omega) (by omega)
          have d3 : IntKind.u64.wrap (10 * (Y : Int)) = 10 * (Y : Int) := wu _ (by omega) (by omega)
          have d4 : IntKind.u64.wrap ((M : Int) - 10 * (Y : Int)) = (Z : Int) := by rw [wu _ (by omega) (by omega)]; omega
          have d5 : IntKind.u64.wrap ((Z : Int) + 48) = (Z : Int) + 48 := wu _ (by omega) (by omega)
          have d6 : IntKind.u8.wrap ((Z : Int) + 48) = (Z : Int) + 48 := by simp [IntKind.wrap, IntKind.signed, IntKind.bits]; omega
          have HJ2 := Hid_mk hj2
          have HJ := Hid_mk hj
          have HLt := Hid_mk hlt
          clear hv hA hAlt ht hd hfo hfn hkp hlt hj hj2 HW0t H8t hfj hdj hy hd2 hd9 hD hDb hM hY hZ hYc hZc hZ9 hm
          go_wp2
          go_roundw
          case rel =>
            have hw0n := HW0.out
            refine ⟨(j : Int) - 1, t + 1, (j2 : Int), Y, upd f2 j2 (Z + 48), rfl, rfl, rfl, by have := HJ.out; have := HLt.out; omega, by have := HJ2.out; have := HLt.out; omega, HYc.out, HLt.out, ?_, fun i hi => ?_, fun i h1 h2 => ?_, kq_set HKw.out⟩
            · have h9 := HDw.out.setD j2 (Z + 48) (by omega)
              rw [show ((Z + 48 : Nat) : Int) = (Z : Int) + 48 by omega] at h9
              exact h9
            · unfold upd
              rw [if_neg (by have := HJ2.out; omega)]
              exact HFo.out i (by omega)
            · unfold upd
              by_cases e : i = j2
              · rw [if_pos e]
                unfold dgt
                rw [e, ← HJ2.out, show w0 - 1 - (w0 - 1 - t) = t by have := HLt.out; omega, ← HZc.out]
                omega
              · rw [if_neg e]
                exact HFn.out i (by have := HJ2.out; omega) h2
          case measure => simp [intOf]
        · obtain rfl : nd = t := by omega
          have hm1 : m = -1 := by omega
          subst hm1
          obtain ⟨W2, rfl⟩ : ∃ W2, W2 = wr := ⟨_, rfl⟩
          have HA2 : Hid (A = P / 10 ^ nd) := Hid_mk (by rw [HA.out, ← HPe.out]; exact car_end k HVl.out)
          have HAl := Hid_mk hAlt
          have HV2 := Hid_mk hv
          clear hv hA hAlt ht hd hfo hfn hkp hge hm HA hA0 HFo cw hqs c0
          go_wp2_with fail
          go_loopw [6, 7, 10, 11] (fun b c _ _ wr => ∃ (t : Nat) (v : Int) (A : Nat) (f2 : Nat → Nat), b = .int .i64 v ∧ c = .int .u64 (A : Int) ∧ v = (w0 : Int) - (t : Int) ∧ A = P / 10 ^ t ∧ A < K2 ∧ t ≤ w0 ∧ DecAt wr q f2 nd dp ng tr ∧ (∀ j, w0 - t ≤ j → j < w0 → f2 j = dgt P w0 j) ∧ Kp (fun b => b = q) w wr) (fun _ c _ _ _ => (intOf c).toNat)
          case atStart => exact ⟨_, v, A, f2, rfl, rfl, HV2.out, HA2.out, HAl.out, by have := HW0.out; omega, HDw.out, HFn.out, HKw.out⟩
          case round =>
            obtain ⟨t2, v2, A2, f3, rfl, rfl, hv, hA, hAb, ht, hd, hfn, hkp⟩ := hrel
            have HDw3 := Hid_mk hd
            have HFn3 := Hid_mk hfn
            have HKw3 := Hid_mk hkp
            have HA3 := Hid_mk hA
            have HTn3 := Hid_mk ht
            have ht20 : (0 : Int) ≤ (t2 : Int) := Int.natCast_nonneg _
            have hA0 : (0 : Int) ≤ (A2 : Int) := Int.natCast_nonneg _
            have cw := hd.warm
            have c0 := hd.c0
            have c1 := hd.c1
            have hqs : q < wr.heap.size := World.block_lt_of_cell? wr _ hd.c0
            rcases Nat.eq_zero_or_pos A2 with e0 | e0
            · subst e0
              have htw : t2 = w0 := by
                rcases Nat.lt_or_ge t2 w0 with h3 | h3
                · have h4 := Nat.pow_le_pow_right (show 0 < 10 by omega) (show t2 ≤ w0 - 1 by omega)
                  have h5 := Nat.div_pos (Nat.le_trans h4 HP2.out) (p10_pos t2)
                  omega
                · omega
              subst htw
              have hFull : ∀ j, j < t2 → f3 j = dgt P t2 j := fun j hj => hfn j (by omega) hj
              have HFull := Hid_mk hFull
              obtain ⟨W3, rfl⟩ : ∃ W3, W3 = wr := ⟨_, rfl⟩
              have hz : ¬ (0 : Int) < 0 := by omega
              have hw8 : (t2 : Int) ≤ 800 := by have := H800.out; omega
              clear hv hA ht hd hfn hkp hFull hA0 HFn3 hAb
              have hD4 : DecAt ((W3.setCell ⟨q, 800, none⟩ (.int .i64 (t2 : Int))).setCell ⟨q, 801, none⟩ (.int .i64 (dp + (dt : Int)))) q f3 t2 (dp + (dt : Int)) ng tr := (HDw3.out.setNd t2).setDp _
              have hK4 : Kp (fun b => b = q) w ((W3.setCell ⟨q, 800, none⟩ (.int .i64 (t2 : Int))).setCell ⟨q, 801, none⟩ (.int .i64 (dp + (dt : Int)))) := kq_set (kq_set HKw3.out)
              have HD4 := Hid_mk hD4
              have HK4 := Hid_mk hK4
              clear hD4 hK4
              by_cases e8 : t2 = 800
              · have hge8 : (800 : Int) ≤ (t2 : Int) := by omega
                have HE8 := Hid_mk e8
                have h9 := ((HDw3.out.setNd t2).setNd 800).setDp (dp + (dt : Int))
                rw [show ((800 : Nat) : Int) = 800 from rfl] at h9
                have h9k : Kp (fun b => b = q) w (((W3.setCell ⟨q, 800, none⟩ (.int .i64 (t2 : Int))).setCell ⟨q, 800, none⟩ (.int .i64 800)).setCell ⟨q, 801, none⟩ (.int .i64 (dp + (dt : Int)))) := kq_set (kq_set (kq_set HKw3.out))
                have HD9 := Hid_mk h9
                have HK9 := Hid_mk h9k
                clear e8 h9 h9k
                go_wp2_with fail
                with_reducible refine (HT.out _ f3 800 (dp + (dt : Int)) ng tr HD9.out (by omega)).mono ?_
                rintro e w5 ⟨rfl, hk5, hd5⟩
                have HK5 := Hid_mk hk5
                have HD5 := Hid_mk hd5
                clear hk5 hd5
                go_wp2
                go_end0
                refine ⟨rfl, HK9.out.trans' HK5.out, f3, ?_, HFull.out⟩
                rw [HE8.out]
                exact HD5.out
              · have hge8 : ¬ (800 : Int) ≤ (t2 : Int) := by omega
                clear e8
                go_wp2_with fail
                with_reducible refine (HT.out _ f3 t2 (dp + (dt : Int)) ng tr HD4.out (by have := H800.out; omega)).mono ?_
                rintro e w5 ⟨rfl, hk5, hd5⟩
                have HK5 := Hid_mk hk5
                have HD5 := Hid_mk hd5
                clear hk5 hd5
                go_wp2
                go_end0
                exact ⟨rfl, HK4.out.trans' HK5.out, f3, HD5.out, HFull.out⟩
            · have htw : t2 < w0 := by
                rcases Nat.lt_or_ge t2 w0 with h3 | h3
                · exact h3
                · obtain rfl : t2 = w0 := by omega
                  rw [Nat.div_eq_of_lt HP1.out] at hA
                  omega
              have HAb := Hid_mk hAb
              obtain ⟨j2, hj2⟩ : ∃ j2 : Nat, w0 - 1 - t2 = j2 := ⟨_, rfl⟩
              have H8t := H800.out
              have hv2 : v2 - 1 = (j2 : Int) := by omega
              have hj20 : (0 : Int) ≤ (j2 : Int) := Int.natCast_nonneg _
              have hj28 : (j2 : Int) < 800 := by omega
              have hv8 : v2 ≤ 800 := by omega
              have hv0 : 0 < v2 := by omega
              have hpos : (0 : Int) < (A2 : Int) := by omega
              have cj2 := hd.at j2 (by omega)
              obtain ⟨Y, hY⟩ : ∃ Y, A2 / 10 = Y := ⟨_, rfl⟩
              obtain ⟨Z, hZ⟩ : ∃ Z, A2 % 10 = Z := ⟨_, rfl⟩
              have HYc : Hid (Y = P / 10 ^ (t2 + 1)) := Hid_mk (by rw [← hY, hA, Nat.pow_succ, ← Nat.div_div_eq_div_mul])
              have HZc : Hid (Z = P / 10 ^ t2 % 10) := Hid_mk (by rw [← hZ, hA])
              have hZ0 : (0 : Int) ≤ (Z : Int) := Int.natCast_nonneg _
              have hY0 : (0 : Int) ≤ (Y : Int) := Int.natCast_nonneg _
              have hZ9 : Z < 10 := by omega
              have d1 : (A2 : Int).tdiv 10 = (Y : Int) := by rw [Int.tdiv_eq_ediv_of_nonneg hA0]; omega
              have d2 : IntKind.u64.wrap (Y : Int) = (Y : Int) := wu _ (by omega) (by omega)
              have d3 : IntKind.u64.wrap (10 * (Y : Int)) = 10 * (Y : Int) := wu _ (by omega) (by omega)
              have d4 : IntKind.u64.wrap ((A2 : Int) - 10 * (Y : Int)) = (Z : Int) := by rw [wu _ (by omega) (by omega)]; omega
              have d5 : IntKind.u64.wrap ((Z : Int) + 48) = (Z : Int) + 48 := wu _ (by omega) (by omega)
              have d6 : IntKind.u8.wrap ((Z : Int) + 48) = (Z : Int) + 48 := by simp [IntKind.wrap, IntKind.signed, IntKind.bits]; omega
              have HJ2 := Hid_mk hj2
              have HLt := Hid_mk htw
              have HYl : Hid (Y < A2) := Hid_mk (by omega)
              clear hv hA ht hd hfn hkp hj2 htw H8t hY hZ hZ9 e0 hAb
              go_wp2
              go_roundw
              case rel =>
                refine ⟨t2 + 1, (j2 : Int), Y, upd f3 j2 (Z + 48), rfl, rfl, by have := HJ2.out; have := HLt.out; omega, HYc.out, by have := HYl.out; have := HAb.out; omega, HLt.out, ?_, fun i h1 h2 => ?_, kq_set HKw3.out⟩
                · have h9 := HDw3.out.setD j2 (Z + 48) (by omega)
                  rw [show ((Z + 48 : Nat) : Int) = (Z : Int) + 48 by omega] at h9
                  exact h9
                · unfold upd
                  by_cases e : i = j2
                  · rw [if_pos e]
                    unfold dgt
                    rw [e, ← HJ2.out, show w0 - 1 - (w0 - 1 - t2) = t2 by have := HLt.out; omega, ← HZc.out]
                    omega
                  · rw [if_neg e]
                    exact HFn3.out i (by have := HJ2.out; omega) h2
              case measure => have := HYl.out; simp [intOf]; omega

end Go.Proofs.YtannbdbhkhmppaaGreatDoor.fmtf

namespace Go.Proofs.YtannbdbhkhmppaaGreatDoor.fmtf
open Go.RowKit Go.Proofs.YtannbdbhkhmppaaGreatDoor.sum Go.Proofs.YtannbdbhkhmppaaGreatDoor.kept
set_option linter.unusedVariables false

/-- what Assign leaves -/
def AsPost (q : Nat) (w : World) (v : Nat) (ng tr : Bool) (e : Ending) (w' : World) : Prop := e = .returned (.tuple #[]) ∧ Kp (fun b => b = q) w w' ∧ ∃ f, DecAt w' q f (trimN f (dlen v)) (if trimN f (dlen v) = 0 then 0 else (dlen v : Int)) ng tr ∧ ∀ i, i < dlen v → f i = dgt v (dlen v) i
theorem dlen_20 {v : Nat} (h : v < 18446744073709551616) : dlen v ≤ 20 := by
  rcases Nat.eq_zero_or_pos v with e | e
  · subst e; decide
  · obtain ⟨a, b⟩ := dlen_ge e
    rcases Nat.lt_or_ge 20 (dlen v) with h2 | h2
    · have := Nat.pow_le_pow_right (show 0 < 10 by omega) (show 20 ≤ dlen v - 1 by omega)
      omega
    · exact h2
theorem div_dlen {v n : Nat} (h : v / 10 ^ n = 0) (hn : n ≤ dlen v) : n = dlen v := by
  rcases Nat.eq_zero_or_pos v with e | e
  · subst e
    have : dlen 0 = 0 := by decide
    omega
  · obtain ⟨a, b⟩ := dlen_ge e
    have hp : 0 < 10 ^ n := Nat.pow_pos (by omega)
    have h2 : v < 10 ^ n := by
      rcases Nat.lt_or_ge v (10 ^ n) with h3 | h3
      · exact h3
      · have := Nat.div_pos h3 hp
        omega
    rcases Nat.lt_or_ge n (dlen v) with h3 | h3
    · have := Nat.pow_le_pow_right (show 0 < 10 by omega) (show n ≤ dlen v - 1 by omega)
      omega
    · omega
theorem lt_dlen {v n : Nat} (h : 0 < v / 10 ^ n) (hn : n ≤ dlen v) : n < dlen v := by
  rcases Nat.lt_or_ge n (dlen v) with h3 | h3
  · exact h3
  · obtain rfl : n = dlen v := by omega
    rw [Nat.div_eq_of_lt (dlen_lt v)] at h
    omega

set_option maxRecDepth 100000 in
set_option maxHeartbeats 4000000 in
theorem assign_any (w : World) (q : Nat) (f : Nat → Nat) (nd : Nat) (dp : Int) (ng tr : Bool) (h : DecAt w q f nd dp ng tr) (v : Nat) (hv : v < 18446744073709551616) :
    Calls Tryz.prog 92 #[.pointer (some ⟨q, 0, none⟩), .int .u64 (v : Int)] w (AsPost q w v ng tr) := by
  have hqlt : q < w.heap.size := World.block_lt_of_cell? w _ h.c0
  have HH := Hid_mk h
  have HV := Hid_mk hv
  have HQ := Hid_mk hqlt
  have HT := Hid_mk fun W f nd dp ng tr h h2 => trim_any W q f nd dp ng tr h h2
  have HL20 := Hid_mk (dlen_20 hv)
  obtain ⟨L, hL⟩ : ∃ L, dlen v = L := ⟨_, rfl⟩
  have HLe := Hid_mk hL
  have hL20 : (L : Int) ≤ 20 := by have := HL20.out; omega
  clear h hv hL
  go_enter Tryz.func92, Tryz.ntmps92
  go_wp2_with fail
  obtain ⟨W1, hW⟩ : ∃ W1, w.alloc (.cells #[.int .u8 0, .int .u8 0, .int .u8 0, .int .u8 0, .int .u8 0, .int .u8 0, .int .u8 0, .int .u8 0, .int .u8 0, .int .u8 0, .int .u8 0, .int .u8 0, .int .u8 0, .int .u8 0, .int .u8 0, .int .u8 0, .int .u8 0, .int .u8 0, .int .u8 0, .int .u8 0, .int .u8 0, .int .u8 0, .int .u8 0, .int .u8 0] 105) = W1 := ⟨_, rfl⟩
  rw [hW]
  have HB1 : Hid (BufAt W1 w.heap.size 0 24 (fun _ => 0)) := Hid_mk (by rw [← hW]; exact zeros_buf w _)
  have HK1 : Hid (Kp No w W1) := Hid_mk (by rw [← hW]; exact (Kp.refl No w).alloc _)
  obtain ⟨G, hG⟩ : ∃ G, w.heap.size = G := ⟨_, rfl⟩
  have HG := Hid_mk hG
  have hqG : q < G := by rw [← hG]; exact hqlt
  have hqG2 : ¬ q = G := by omega
  rw [hG] at HB1
  try rw [hG]
  clear hW hG hqlt
  go_loopw [5, 1, 6] (fun a b _ wr => ∃ (n u : Nat) (g : Nat → Nat), a = .int .i64 (n : Int) ∧ b = .int .u64 (u : Int) ∧ n ≤ L ∧ u = v / 10 ^ n ∧ BufAt wr G 0 24 g ∧ (∀ j, j < n → g j = 48 + v / 10 ^ j % 10) ∧ Kp No w wr) (fun _ b _ _ => (intOf b).toNat)
  case atStart => exact ⟨0, v, _, rfl, rfl, Nat.zero_le _, by rw [Nat.pow_zero, Nat.div_one], HB1.out, fun j hj => by omega, HK1.out⟩
  case round =>
    obtain ⟨n, u, g, rfl, rfl, hn, hu, hb, hgd, hkp⟩ := hrel
    have HBw := Hid_mk hb
    have HKp := Hid_mk hkp
    have HGd := Hid_mk hgd
    have HU := Hid_mk hu
    have HN := Hid_mk hn
    have hn0 : (0 : Int) ≤ (n : Int) := Int.natCast_nonneg _
    have hu0 : (0 : Int) ≤ (u : Int) := Int.natCast_nonneg _
    have hub : u < 18446744073709551616 := by rw [hu]; exact Nat.lt_of_le_of_lt (Nat.div_le_self _ _) HV.out
    have hubi : (u : Int) < 18446744073709551616 := by omega
    rcases Nat.eq_zero_or_pos u with e0 | e0
    · subst e0
      have hnL : n = L := by rw [← HLe.out]; exact div_dlen hu.symm (by rw [HLe.out]; exact hn)
      subst hnL
      have hz : ¬ (0 : Int) < 0 := by omega
      obtain ⟨W2, rfl⟩ : ∃ W2, W2 = wr := ⟨_, rfl⟩
      have HD2 := Hid_mk (HH.out.no HKp.out HQ.out id)
      have c0 := HD2.out.c0
      have cw := HD2.out.warm
      clear hn hu hb hgd hkp hub hubi hu0
      go_wp2_with fail
      obtain ⟨W3, hW3⟩ : ∃ W3, W2.setCell ⟨q, 800, none⟩ (.int .i64 0) = W3 := ⟨_, rfl⟩
      rw [hW3]
      have HD3 : Hid (DecAt W3 q f 0 dp ng tr) := Hid_mk (by rw [← hW3]; exact HD2.out.setNd 0)
      have HK3 : Hid (Kp (fun b => b = q) w W3) := Hid_mk (by rw [← hW3]; exact kq_set HKp.out.to)
      have HB3 : Hid (BufAt W3 G 0 24 g) := Hid_mk (by rw [← hW3]; exact buf_else HBw.out (Ne.symm hqG2))
      clear c0 cw hW3
      have HLn := Hid_mk (show ∀ kk : Nat, kk < n → dgt v n kk = 48 + v / 10 ^ (n - 1 - kk) % 10 from fun kk _ => rfl)
      go_wp2_with fail
      go_loopw [5] (fun a wr => ∃ (m : Int) (kk : Nat) (f2 : Nat → Nat), a = .int .i64 m ∧ m = (n : Int) - 1 - (kk : Int) ∧ kk ≤ n ∧ DecAt wr q f2 kk dp ng tr ∧ (∀ i, i < kk → f2 i = dgt v n i) ∧ BufAt wr G 0 24 g ∧ Kp (fun b => b = q) w wr) (fun a _ => (intOf a + 1).toNat)
      case atStart => exact ⟨(n : Int) - 1, 0, f, by go_num, by omega, Nat.zero_le _, HD3.out, fun i hi => by omega, HB3.out, HK3.out⟩
      case round =>
        obtain ⟨m, kk, f2, rfl, hm, hkk, hd, hf, hb, hkp⟩ := hrel
        have HDw := Hid_mk hd
        have HFw := Hid_mk hf
        have HBw2 := Hid_mk hb
        have HKw := Hid_mk hkp
        have HKk := Hid_mk hkk
        have c0 := hd.c0
        have c1 := hd.c1
        have cw := hd.warm
        have hqs : q < wr.heap.size := World.block_lt_of_cell? wr _ hd.c0
        have hkk0 : (0 : Int) ≤ (kk : Int) := Int.natCast_nonneg _
        have hkk20 : (kk : Int) ≤ 20 := by omega
        rcases Nat.lt_or_ge kk n with hlt | hge
        · obtain ⟨j, hj⟩ : ∃ j : Nat, (n : Int) - 1 - (kk : Int) = (j : Int) := ⟨n - 1 - kk, by omega⟩
          rw [hj] at hm
          subst hm
          have hj0 : (0 : Int) ≤ (j : Int) := Int.natCast_nonneg _
          have hj24 : (j : Int) < 24 := by omega
          have hk800 : (kk : Int) < 800 := by omega
          have cb := hb.cell j (by omega)
          rw [Nat.zero_add] at cb
          have cd := hd.at kk (by omega)
          obtain ⟨x, hx⟩ : ∃ x, g j = x := ⟨_, rfl⟩
          rw [hx] at cb
          have hxe : x = dgt v n kk := by rw [← hx, HGd.out j (by omega), HLn.out kk hlt, show n - 1 - kk = j by omega]
          have HX := Hid_mk hxe
          have HJ := Hid_mk hj
          have HLt := Hid_mk hlt
          clear hkk hd hf hb hkp hj hlt hxe hx
          go_upto_region 12 with fail
          go_region
          go_wp2
          go_roundw
          case rel =>
            refine ⟨(j : Int) - 1, kk + 1, upd f2 kk x, rfl, by have := HJ.out; omega, HLt.out, ?_, fun i hi => ?_, (buf_else (buf_else HBw2.out (Ne.symm hqG2)) (Ne.symm hqG2)).drew, (kq_set (kq_set HKw.out)).drew⟩
            · have h9 := ((HDw.out.setD kk x (by omega)).setNd (kk + 1)).drew
              rw [show ((kk + 1 : Nat) : Int) = (kk : Int) + 1 by omega] at h9
              exact h9
            · unfold upd
              by_cases e : i = kk
              · rw [if_pos e, e, HX.out]
              · rw [if_neg e]
                exact HFw.out i (by omega)
          case measure => simp [intOf]
        · obtain rfl : kk = n := by omega
          have hm1 : m = -1 := by omega
          subst hm1
          clear hm hkk hd hf hb hkp hge
          go_wp2_with fail
          obtain ⟨W4, hW4⟩ : ∃ W4, wr.setCell ⟨q, 801, none⟩ (.int .i64 (kk : Int)) = W4 := ⟨_, rfl⟩
          rw [hW4]
          have HD4 : Hid (DecAt W4 q f2 kk kk ng tr) := Hid_mk (by rw [← hW4]; exact HDw.out.setDp kk)
          have HK4 : Hid (Kp (fun b => b = q) w W4) := Hid_mk (by rw [← hW4]; exact kq_set HKw.out)
          clear c0 c1 cw hW4
          with_reducible refine (HT.out W4 f2 kk kk ng tr HD4.out (by omega)).mono ?_
          rintro e w5 ⟨rfl, hk5, hd5⟩
          have HK5 := Hid_mk hk5
          have HD5 := Hid_mk hd5
          clear hk5 hd5
          go_wp2
          go_end0
          refine ⟨rfl, HK4.out.trans' HK5.out, f2, ?_, ?_⟩
          · rw [HLe.out]; exact HD5.out
          · rw [HLe.out]; exact HFw.out
    · have hpos : (0 : Int) < (u : Int) := by omega
      obtain ⟨y, hy⟩ : ∃ y, u / 10 = y := ⟨_, rfl⟩
      obtain ⟨z, hz⟩ : ∃ z, u % 10 = z := ⟨_, rfl⟩
      have hz9 : z < 10 := by omega
      have hy0 : (0 : Int) ≤ (y : Int) := Int.natCast_nonneg _
      have hz0 : (0 : Int) ≤ (z : Int) := Int.natCast_nonneg _
      have d0 : (u : Int) / 10 = (y : Int) := by omega
      have d1 : (u : Int).tdiv 10 = (y : Int) := by rw [Int.tdiv_eq_ediv_of_nonneg hu0]; exact d0
      have d2 : IntKind.u64.wrap (y : Int) = (y : Int) := wu _ (by omega) (by omega)
      have d3 : IntKind.u64.wrap (10 * (y : Int)) = 10 * (y : Int) := wu _ (by omega) (by omega)
      have d4 : IntKind.u64.wrap ((u : Int) - 10 * (y : Int)) = (z : Int) := by rw [wu _ (by omega) (by omega)]; omega
      have d5 : IntKind.u64.wrap ((z : Int) + 48) = (z : Int) + 48 := wu _ (by omega) (by omega)
      have d6 : IntKind.u8.wrap ((z : Int) + 48) = (z : Int) + 48 := by simp [IntKind.wrap, IntKind.signed, IntKind.bits]; omega
      have HY := Hid_mk hy
      have HZ := Hid_mk hz
      have HZ9 := Hid_mk hz9
      have hlt24 : (n : Int) < 24 := by omega
      have c1 := HBw.out.cell n (by omega)
      rw [Nat.zero_add] at c1
      have cw := HBw.out.warm
      have hnl := lt_dlen (v := v) (n := n) (by rw [← hu]; exact e0) (by rw [HLe.out]; exact hn)
      rw [HLe.out] at hnl
      have HNl := Hid_mk hnl
      clear hn hu hb hgd hkp hub hnl hy hz hz9 d0
      go_wp2
      go_roundw
      case rel =>
        have hs := HBw.out.set n (48 + z)
        rw [show ((48 + z : Nat) : Int) = (z : Int) + 48 by omega, Nat.zero_add] at hs
        refine ⟨n + 1, y, upd g n (48 + z), by go_num, rfl, HNl.out, by rw [← HY.out, HU.out, Nat.pow_succ, ← Nat.div_div_eq_div_mul], hs, fun j hj => ?_, HKp.out.setCell (p := ⟨G, n, none⟩) (fun h => absurd h (by rw [HG.out]; exact Nat.lt_irrefl _)) _⟩
        unfold upd
        by_cases e : j = n
        · rw [if_pos e, e, ← HU.out, HZ.out]
        · rw [if_neg e]
          exact HGd.out j (by omega)
      case measure => have := HY.out; simp [intOf]; omega

end Go.Proofs.YtannbdbhkhmppaaGreatDoor.fmtf
