/- The reference's Reader: fails and Num. -/
import Derived.Test.YtaghpjlodlbmjaaRefWords
namespace Go.Proofs.Ytaghpjlodlbmjaa.ref
open Go.RowKit Go.Proofs.Ytaghpjlodlbmjaa.sum Go.Proofs.Ytaghpjlodlbmjaa.kept Go.Proofs.Ytaghpjlodlbmjaa.writer Go.Proofs.Ytaghpjlodlbmjaa.clone Go.Proofs.Ytaghpjlodlbmjaa.known Go.Proofs.Ytaghpjlodlbmjaa.unseal Go.Proofs.Ytaghpjlodlbmjaa.number Go.Proofs.Ytaghpjlodlbmjaa.words Go.Proofs.Ytaghpjlodlbmjaa.reader
set_option linter.unusedVariables false

set_option maxRecDepth 100000 in
theorem fails_any (w : World) (p : Nat) (v : Value) (bs : List UInt8) (at_ bad c a : Nat) (h : RR w p v bs at_ bad) (ha : a ≤ bs.length) :
    Calls Try.prog 81 #[.pointer (some ⟨p, 0, none⟩), .int .i64 (c : Int), .int .i64 (a : Int)] w fun e w' => e = .returned (.tuple #[]) ∧ RR w' p v bs a c ∧ Kp (fun k => k = p) w w' := by
  have c0 := h.c0
  have c1 := h.c1
  have c2 := h.c2
  have f1 := h.warm 1
  have f2 := h.warm 2
  have H := Hid_mk h
  clear h
  go_enter Try.func81, Try.ntmps81
  go_wp2
  go_end0
  exact ⟨rfl, (H.out.set_bad c).set_at a ha, (kp_set w p 2 _).trans' (kp_set _ _ _ _)⟩

def NRel (w : World) (p : Nat) (v : Value) (bs : List UInt8) (at_ : Nat) (t i : Value) (wr : World) : Prop :=
  ∃ (k n : Nat), k ≤ 9 ∧ i = .int .i64 (k : Int) ∧ t = .int .u64 (n : Int) ∧ n < 128 ^ k ∧ dig 0 0 (bs.drop at_) = dig k n (bs.drop (at_ + k)) ∧ RR wr p v bs (at_ + k) 0 ∧ Kp (fun k => k = p) w wr

theorem NRel.start {w wr : World} {p : Nat} {v : Value} {bs : List UInt8} {at_ : Nat} (h : RR wr p v bs at_ 0) (hk : Kp (fun k => k = p) w wr) : NRel w p v bs at_ (.int .u64 0) (.int .i64 0) wr :=
  ⟨0, 0, Nat.zero_le _, rfl, rfl, Nat.pow_pos (by omega), rfl, h, hk⟩

theorem wrap_dig {d i : Nat} (hd : d < 128) (hi : i ≤ 9) (h9 : i = 9 → d ≤ 1) : IntKind.u64.wrap ((d : Int) * 2 ^ (7 * i)) = ((d * 128 ^ i : Nat) : Int) := by
  have := dig_lt hd hi h9
  have e0 : (d : Int) * 2 ^ (7 * i) = ((d * 128 ^ i : Nat) : Int) := by rw [pow128]; simp
  rw [e0]
  exact wrap_u64 _ (by omega) (by omega)

theorem sum_dig {n d i : Nat} (hn : n < 128 ^ i) (hd : d < 128) (hi : i ≤ 9) (h9 : i = 9 → d ≤ 1) : n + d * 128 ^ i < 18446744073709551616 := by
  by_cases h : i = 9
  · subst h
    have := h9 rfl
    have e : 128 ^ 9 = 9223372036854775808 := by decide
    rw [e] at hn ⊢
    omega
  · have h1 := dig_next hn hd
    have : 128 ^ (i + 1) ≤ 128 ^ 9 := Nat.pow_le_pow_right (by omega) (by omega)
    have e : 128 ^ 9 = 9223372036854775808 := by decide
    omega

theorem nval {n d k : Nat} (hn : n < 128 ^ k) (hk : k ≤ 9) (h9 : k = 9 → d % 128 ≤ 1) : IntKind.u64.wrap ((n : Int) + IntKind.u64.wrap ((d : Int) % 128 * 2 ^ (7 * k))) = ((n + d % 128 * 128 ^ k : Nat) : Int) := by
  have hd : d % 128 < 128 := Nat.mod_lt _ (by omega)
  rw [show (d : Int) % 128 = ((d % 128 : Nat) : Int) by omega, wrap_dig hd hk h9, ← Int.natCast_add]
  have := sum_dig hn hd hk h9
  exact wrap_u64 _ (by omega) (by omega)

theorem NRel.next {w w1 : World} {p : Nat} {v : Value} {bs : List UInt8} {at_ A k n d : Nat} {dd : UInt8} (hk : k ≤ 9) (h8 : ¬ k = 9) (hn : n < 128 ^ k) (hdd : dd.toNat = d) (hB : 128 ≤ d)
    (hdig : dig 0 0 (bs.drop at_) = dig k n (dd :: bs.drop (A + 1))) (hA : at_ + k = A) (hlt : A < bs.length) (hR : RR w1 p v bs A 0) (hK : Kp (fun k => k = p) w w1) :
    NRel w p v bs at_ (.int .u64 (IntKind.u64.wrap ((n : Int) + IntKind.u64.wrap ((d : Int) % 128 * 2 ^ (7 * k))))) (.int .i64 ((k : Int) + 1)) (w1.setCell ⟨p, 1, none⟩ (.int .i64 ((A : Int) + 1))) := by
  subst hA
  refine ⟨k + 1, n + d % 128 * 128 ^ k, by omega, rfl, ?_, dig_next hn (Nat.mod_lt _ (by omega)), ?_, ?_, hK.trans' (kp_set _ _ _ _)⟩
  · rw [nval hn hk (by omega)]
  · rw [hdig, dig_on (by omega) (by omega), hdd]
    rfl
  · exact hR.set_at (at_ + k + 1) hlt

set_option maxRecDepth 100000 in
set_option maxHeartbeats 4000000 in
theorem num_any (w : World) (p : Nat) (v : Value) (bs : List UInt8) (at_ bad most : Nat) (h : RR w p v bs at_ bad) :
    Calls Try.prog 65 #[.pointer (some ⟨p, 0, none⟩), .int .u64 (most : Int)] w (RRPost w p v bs (.int .u64 ((rNum bs at_ bad most).1 : Int)) (rNum bs at_ bad most).2.1 (rNum bs at_ bad most).2.2) := by
  have c0 := h.c0
  have c1 := h.c1
  have c2 := h.c2
  have H := Hid_mk h
  by_cases hb : bad = 0
  · subst hb
    have hle := h.le
    have hshort := h.short
    obtain ⟨a, cap, rfl, hl, hm, -⟩ := h.reads
    unfold maxLen at hm
    have hres : rNum bs at_ 0 most = if (dig 0 0 (bs.drop at_)).2.2 ≠ 0 then (0, at_, (dig 0 0 (bs.drop at_)).2.2) else if most < (dig 0 0 (bs.drop at_)).1 then (0, at_, 12) else ((dig 0 0 (bs.drop at_)).1, at_ + (dig 0 0 (bs.drop at_)).2.1, 0) := by
      unfold rNum; rw [if_neg (by simp)]
    have HRes := Hid_mk hres
    clear h hres
    go_enter Try.func65, Try.ntmps65
    go_wp2
    go_loopw [6, 7] (fun t i wr => NRel w p (.slice a bs.length cap) bs at_ t i wr) (fun _ i _ => 10 - (intOf i).toNat)
    case atStart => exact NRel.start H.out (Kp.refl _ w)
    case round =>
      obtain ⟨k, n, hk, rfl, rfl, hn, hdig, hR, hkp⟩ := hrel
      have HR := Hid_mk hR
      have HK := Hid_mk hkp
      have HN := Hid_mk hn
      have HDig := Hid_mk hdig
      have d0 := hR.c0
      have d1 := hR.c1
      have d2 := hR.c2
      have g1 := hR.warm 1
      have g2 := hR.warm 2
      have hatk := hR.le
      obtain ⟨_, _, e, -, -, hc⟩ := hR.reads
      simp only [Value.slice.injEq] at e
      obtain ⟨rfl, -, rfl⟩ := e
      have hap := hR.apart
      clear hn hdig hR hkp c0 c1 c2
      generalize hA : at_ + k = A at *
      have HA := Hid_mk hA
      clear hA
      by_cases he : A < bs.length
      · obtain ⟨b, o, rfl, hcell⟩ := hc (by intro e; subst e; simp at he)
        have hbp : b ≠ p := hap (by intro e; subst e; simp at he) _ _ _ _ rfl
        have hx : wr.cell? ⟨b, o + A, none⟩ = some (.int .u8 ((bs.getD A 0).toNat : Int)) := hcell A he
        have hd := drop_cons he
        have hi : (A : Int) < (bs.length : Int) := by omega
        have hge : ¬ ((bs.length : Int) ≤ (A : Int)) := by omega
        rw [hd] at HDig
        have hdb : (bs.getD A 0).toNat < 256 := UInt8.toNat_lt _
        generalize bs.getD A 0 = dd at *
        generalize hdd : dd.toNat = d at *
        have HHe := Hid_mk he
        clear hcell hap hc hd he
        by_cases hA : k = 9 ∧ 1 < d
        · have hg := HDig.out
          rw [hA.1] at hg
          rw [dig_cut (by omega)] at hg
          have hres := HRes.out
          rw [hg, if_pos (by simp)] at hres
          have HRes' := Hid_mk hres
          have hk9 : ((k : Int) == 9) = true := by rw [hA.1]; rfl
          have hgt : (1 : Int) < (d : Int) := by omega
          clear hg hres HRes HDig
          go_wp2
          go_quiet (fail)
          go_wp2
          go_quiet (fail)
          go_wp2_with fail
          refine (fails_any _ p _ bs A 0 11 at_ ((HR.out.drewN _)) hle).mono ?_
          rintro e w3 ⟨rfl, hR3, hk3⟩
          have HFin := Hid_mk (show RRPost w p _ bs (.int .u64 0) at_ 11 (.returned (.int .u64 0)) w3 from ⟨rfl, hR3, (HK.out.drewN _).trans' hk3⟩)
          clear hR3 hk3
          go_wp2
          go_ret
          rw [HRes'.out]
          exact HFin.out
        · by_cases hB : 128 ≤ d
          · have hk9 : ((k : Int) == 9) = false := beq_eq_false_iff_ne.2 (by omega)
            have hge2 : (128 : Int) ≤ (d : Int) := by omega
            go_wp2
            go_quiet (fail)
            go_wp2
            go_quiet (fail)
            go_wp2
            refine ⟨NRel.next hk (by omega) HN.out hdd hB HDig.out HA.out HHe.out (HR.out.drewN _) (HK.out.drewN _), ?_⟩
            simp [intOf]; omega
          · have hge2 : ¬ (128 : Int) ≤ (d : Int) := by omega
            by_cases hC : d = 0 ∧ 0 < k
            · have hg := HDig.out
              rw [dig_zero (by omega) hC.2] at hg
              have hres := HRes.out
              rw [hg, if_pos (by simp)] at hres
              have HRes' := Hid_mk hres
              have hz : ((d : Int) == 0) = true := beq_iff_eq.2 (by omega)
              have hki : (0 : Int) < (k : Int) := by omega
              clear hg hres HRes HDig
              by_cases h9 : k = 9
              · have hk9 : ((k : Int) == 9) = true := beq_iff_eq.2 (by omega)
                have hgt : ¬ (1 : Int) < (d : Int) := by omega
                clear h9
                go_wp2
                go_quiet (fail)
                go_wp2
                go_quiet (fail)
                go_wp2_with fail
                refine (fails_any _ p _ bs (A + 1) 0 11 at_ ((HR.out.drewN _).set_at (A + 1) HHe.out) hle).mono ?_
                rintro e w3 ⟨rfl, hR3, hk3⟩
                have HFin := Hid_mk (show RRPost w p _ bs (.int .u64 0) at_ 11 (.returned (.int .u64 0)) w3 from ⟨rfl, hR3, ((HK.out.drewN _).trans' (kp_set _ _ _ _)).trans' hk3⟩)
                clear hR3 hk3
                go_wp2
                go_ret
                rw [HRes'.out]
                exact HFin.out
              · have hk9 : ((k : Int) == 9) = false := beq_eq_false_iff_ne.2 (by omega)
                go_wp2
                go_quiet (fail)
                go_wp2
                go_quiet (fail)
                go_wp2_with fail
                refine (fails_any _ p _ bs (A + 1) 0 11 at_ ((HR.out.drewN _).set_at (A + 1) HHe.out) hle).mono ?_
                rintro e w3 ⟨rfl, hR3, hk3⟩
                have HFin := Hid_mk (show RRPost w p _ bs (.int .u64 0) at_ 11 (.returned (.int .u64 0)) w3 from ⟨rfl, hR3, ((HK.out.drewN _).trans' (kp_set _ _ _ _)).trans' hk3⟩)
                clear hR3 hk3
                go_wp2
                go_ret
                rw [HRes'.out]
                exact HFin.out
            · have hg := HDig.out
              rw [dig_end (by omega) (by omega) (by omega), hdd] at hg
              have hval := nval (d := d) HN.out hk (by omega)
              have hvlt := sum_dig (d := d % 128) HN.out (Nat.mod_lt _ (by omega)) hk (by omega)
              have hres := HRes.out
              rw [hg, if_neg (by simp)] at hres
              simp only at hres
              generalize n + d % 128 * 128 ^ k = M at *
              have hz : (((d : Int) == 0) = true ∧ ¬ (0 : Int) < (k : Int)) ∨ ((d : Int) == 0) = false := by
                by_cases h0 : d = 0
                · left; subst h0; exact ⟨rfl, by omega⟩
                · right; exact beq_eq_false_iff_ne.2 (by omega)
              by_cases hM : most < M
              · rw [if_pos hM] at hres
                have HRes' := Hid_mk hres
                have hMi : (most : Int) < (M : Int) := by omega
                clear hg hres HRes HDig hM
                by_cases h9 : k = 9
                · have hk9 : ((k : Int) == 9) = true := beq_iff_eq.2 (by omega)
                  have hgt : ¬ (1 : Int) < (d : Int) := by omega
                  clear h9
                  rcases hz with ⟨hz, hk0⟩ | hz
                  all_goals
                    go_wp2
                    go_quiet (fail)
                    go_wp2
                    go_quiet (fail)
                    go_wp2_with fail
                    refine (fails_any _ p _ bs (A + 1) 0 12 at_ ((HR.out.drewN _).set_at (A + 1) HHe.out) hle).mono ?_
                    rintro e w3 ⟨rfl, hR3, hk3⟩
                    have HFin := Hid_mk (show RRPost w p _ bs (.int .u64 0) at_ 12 (.returned (.int .u64 0)) w3 from ⟨rfl, hR3, ((HK.out.drewN _).trans' (kp_set _ _ _ _)).trans' hk3⟩)
                    clear hR3 hk3
                    go_wp2
                    go_ret
                    rw [HRes'.out]
                    exact HFin.out
                · have hk9 : ((k : Int) == 9) = false := beq_eq_false_iff_ne.2 (by omega)
                  rcases hz with ⟨hz, hk0⟩ | hz
                  all_goals
                    go_wp2
                    go_quiet (fail)
                    go_wp2
                    go_quiet (fail)
                    go_wp2_with fail
                    refine (fails_any _ p _ bs (A + 1) 0 12 at_ ((HR.out.drewN _).set_at (A + 1) HHe.out) hle).mono ?_
                    rintro e w3 ⟨rfl, hR3, hk3⟩
                    have HFin := Hid_mk (show RRPost w p _ bs (.int .u64 0) at_ 12 (.returned (.int .u64 0)) w3 from ⟨rfl, hR3, ((HK.out.drewN _).trans' (kp_set _ _ _ _)).trans' hk3⟩)
                    clear hR3 hk3
                    go_wp2
                    go_ret
                    rw [HRes'.out]
                    exact HFin.out
              · rw [if_neg hM] at hres
                have HRes' := Hid_mk hres
                have hMi : ¬ (most : Int) < (M : Int) := by omega
                clear hg hres HRes HDig hM
                by_cases h9 : k = 9
                · have hk9 : ((k : Int) == 9) = true := beq_iff_eq.2 (by omega)
                  have hgt : ¬ (1 : Int) < (d : Int) := by omega
                  clear h9
                  rcases hz with ⟨hz, hk0⟩ | hz
                  all_goals
                    go_wp2
                    go_quiet (fail)
                    go_wp2
                    go_quiet (fail)
                    go_wp2
                    go_ret
                    rw [HRes'.out]
                    exact ⟨rfl, by rw [show at_ + (k + 1) = A + 1 by have := HA.out; omega]; exact (HR.out.drewN _).set_at (A + 1) HHe.out, (HK.out.drewN _).trans' (kp_set _ _ _ _)⟩
                · have hk9 : ((k : Int) == 9) = false := beq_eq_false_iff_ne.2 (by omega)
                  rcases hz with ⟨hz, hk0⟩ | hz
                  all_goals
                    go_wp2
                    go_quiet (fail)
                    go_wp2
                    go_quiet (fail)
                    go_wp2
                    go_ret
                    rw [HRes'.out]
                    exact ⟨rfl, by rw [show at_ + (k + 1) = A + 1 by have := HA.out; omega]; exact (HR.out.drewN _).set_at (A + 1) HHe.out, (HK.out.drewN _).trans' (kp_set _ _ _ _)⟩
      · have hge : (bs.length : Int) ≤ (A : Int) := by omega
        have hg := HDig.out
        rw [List.drop_of_length_le (show bs.length ≤ A by omega), dig_nil] at hg
        have hres := HRes.out
        rw [hg, if_pos (by simp)] at hres
        have HRes' := Hid_mk hres
        clear hg hres HRes HDig hc he
        go_wp2
        go_quiet (fail)
        go_wp2_with fail
        refine (fails_any _ p _ bs A 0 10 at_ ((HR.out.drewN _)) hle).mono ?_
        rintro e w3 ⟨rfl, hR3, hk3⟩
        have HFin := Hid_mk (show RRPost w p _ bs (.int .u64 0) at_ 10 (.returned (.int .u64 0)) w3 from ⟨rfl, hR3, (HK.out.drewN _).trans' hk3⟩)
        clear hR3 hk3
        go_wp2
        go_ret
        rw [HRes'.out]
        exact HFin.out
  · have hr : rNum bs at_ bad most = (0, at_, bad) := by unfold rNum; rw [if_pos hb]
    rw [hr]
    have hbz : ((bad : Int) == 0) = false := by simp; omega
    have hbz2 : ((bad : Int) != 0) = true := by simp; omega
    clear h hr
    go_enter Try.func65, Try.ntmps65
    go_wp2
    go_ret
    exact ⟨rfl, H.out, Kp.refl _ _⟩

end Go.Proofs.Ytaghpjlodlbmjaa.ref
