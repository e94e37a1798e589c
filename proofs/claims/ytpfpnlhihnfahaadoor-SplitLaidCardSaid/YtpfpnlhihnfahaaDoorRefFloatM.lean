/- The reference's Reader: Float and End. The reference's End, and its Float as eight bytes. The reference's Reader: fails and Num. The reference's Reader: Text. -/
import Derived.Test.YtpfpnlhihnfahaaDoorSpLayM

namespace Go.Proofs.YtpfpnlhihnfahaaDoor.ref
open Go.RowKit Go.Proofs.YtpfpnlhihnfahaaDoor.sum Go.Proofs.YtpfpnlhihnfahaaDoor.kept Go.Proofs.YtpfpnlhihnfahaaDoor.writer Go.Proofs.YtpfpnlhihnfahaaDoor.clone Go.Proofs.YtpfpnlhihnfahaaDoor.known Go.Proofs.YtpfpnlhihnfahaaDoor.unseal Go.Proofs.YtpfpnlhihnfahaaDoor.number Go.Proofs.YtpfpnlhihnfahaaDoor.words Go.Proofs.YtpfpnlhihnfahaaDoor.reader
set_option linter.unusedVariables false

theorem leN_drop (bs : List UInt8) (at_ k : Nat) : (bs.drop at_).getD k 0 = bs.getD (at_ + k) 0 := by simp [List.getD]

def FRel (w : World) (p : Nat) (v : Value) (bs : List UInt8) (at_ : Nat) (t i : Value) (wr : World) : Prop :=
  ∃ (j N : Nat) (z : Int), j ≤ 8 ∧ z = (j : Int) - 1 ∧ i = .int .i64 z ∧ t = .int .u64 (N : Int) ∧ N < 256 ^ (8 - j) ∧ leN (bs.drop at_) j + N * 256 ^ j = leN (bs.drop at_) 8 ∧ RR wr p v bs at_ 0 ∧ Kp No w wr

theorem FRel.same {w : World} {p : Nat} {v : Value} {bs : List UInt8} {at_ : Nat} {t i : Value} {wr w' : World} (h : FRel w p v bs at_ t i wr) (hk : Kp No wr w') : FRel w p v bs at_ t i w' := by
  obtain ⟨j, N, z, h1, h2, h3, h4, h5, h6, h7, h8⟩ := h
  exact ⟨j, N, z, h1, h2, h3, h4, h5, h6, h7.same hk, h8.trans' hk⟩

theorem m_zero {D : List UInt8} {N M : Nat} (h : leN D 0 + N * 256 ^ 0 = M) : M = N := by
  rw [Nat.pow_zero, Nat.mul_one] at h
  have e : leN D 0 = 0 := rfl
  rw [e, Nat.zero_add] at h
  exact h.symm

theorem f_step {D : List UInt8} {m N d M : Nat} (hd : d = (D.getD m 0).toNat) (h : leN D (m + 1) + N * 256 ^ (m + 1) = M) : leN D m + (256 * N + d) * 256 ^ m = M := by
  rw [← h, leN, ← hd, Nat.pow_succ, Nat.add_mul]
  have : N * (256 ^ m * 256) = 256 * N * 256 ^ m := by ac_rfl
  omega

theorem f_bound {m N d : Nat} (hm : m + 1 ≤ 8) (hd : d < 256) (h : N < 256 ^ (8 - (m + 1))) : 256 * N + d < 256 ^ (8 - m) := by
  rw [show 8 - m = (8 - (m + 1)) + 1 by omega, Nat.pow_succ]
  omega

theorem f_lt {N m : Nat} (hm : m < 8) (h : N < 256 ^ (8 - (m + 1))) : N < 72057594037927936 := by
  have h2 := pow_le8 (i := 8 - (m + 1)) (by omega)
  omega

theorem f_w1 {N : Nat} (h : N < 72057594037927936) : IntKind.u64.wrap (256 * (N : Int)) = 256 * (N : Int) := wrap_u64 _ (by omega) (by omega)

theorem f_w2 {N d : Nat} (h : N < 72057594037927936) (hd : d < 256) : IntKind.u64.wrap (256 * (N : Int) + (d : Int)) = 256 * (N : Int) + (d : Int) := wrap_u64 _ (by omega) (by omega)

theorem f_w3 {at_ m len : Nat} (h : at_ + 8 ≤ len) (hl : len ≤ 140737488355328) (hm : m < 8) : IntKind.i64.wrap ((at_ : Int) + (m : Int)) = (at_ : Int) + (m : Int) := IntWalk.i64_in _ (by omega)

theorem FRel.start {w : World} {p : Nat} {v : Value} {bs : List UInt8} {at_ : Nat} {wr : World} (h : RR wr p v bs at_ 0) (hk : Kp No w wr) : FRel w p v bs at_ (.int .u64 0) (.int .i64 7) wr :=
  ⟨8, 0, 7, Nat.le_refl _, by omega, rfl, rfl, Nat.pow_pos (by omega), by rw [Nat.zero_mul, Nat.add_zero], h, hk⟩

theorem FRel.next {w : World} {p : Nat} {v : Value} {bs : List UInt8} {at_ : Nat} {wr : World} {m N d : Nat} (hj : m + 1 ≤ 8) (hN : N < 256 ^ (8 - (m + 1))) (hd : d = (bs.getD (at_ + m) 0).toNat) (hdb : d < 256) (hs : leN (bs.drop at_) (m + 1) + N * 256 ^ (m + 1) = leN (bs.drop at_) 8) (h : RR wr p v bs at_ 0) (hk : Kp No w wr) :
    FRel w p v bs at_ (.int .u64 (256 * (N : Int) + (d : Int))) (.int .i64 ((m : Int) - 1)) wr := by
  refine ⟨m, 256 * N + d, (m : Int) - 1, by omega, rfl, rfl, ?_, f_bound hj hdb hN, f_step (by rw [leN_drop]; exact hd) hs, h, hk⟩
  rw [Int.natCast_add, Int.natCast_mul]; rfl

end Go.Proofs.YtpfpnlhihnfahaaDoor.ref

namespace Go.Proofs.YtpfpnlhihnfahaaDoor.ref
open Go.Proofs.YtpfpnlhihnfahaaDoor.seal Go.RowKit Go.Proofs.YtpfpnlhihnfahaaDoor.sum Go.Proofs.YtpfpnlhihnfahaaDoor.kept Go.Proofs.YtpfpnlhihnfahaaDoor.app Go.Proofs.YtpfpnlhihnfahaaDoor.writer Go.Proofs.YtpfpnlhihnfahaaDoor.clone Go.Proofs.YtpfpnlhihnfahaaDoor.known Go.Proofs.YtpfpnlhihnfahaaDoor.unseal Go.Proofs.YtpfpnlhihnfahaaDoor.number Go.Proofs.YtpfpnlhihnfahaaDoor.words Go.Proofs.YtpfpnlhihnfahaaDoor.reader
set_option linter.unusedVariables false

set_option maxRecDepth 100000 in
set_option maxHeartbeats 2000000 in
theorem end_any (w : World) (p : Nat) (v : Value) (bs : List UInt8) (at_ bad : Nat) (h : RR w p v bs at_ bad) :
    Calls Tryd.prog 26 #[.pointer (some ⟨p, 0, none⟩)] w fun e w' => e = .returned (.int .i64 ((rEnd bs at_ bad : Nat) : Int)) ∧ Kp No w w' := by
  have c0 := h.c0
  have c1 := h.c1
  have c2 := h.c2
  by_cases hb : bad = 0
  · subst hb
    obtain ⟨a, cap, rfl, hl, hm, hc⟩ := h.reads
    unfold maxLen at hm
    by_cases he : at_ < bs.length
    · have hr : rEnd bs at_ 0 = 11 := by unfold rEnd; simp; omega
      have hi : (at_ : Int) < (bs.length : Int) := by omega
      rw [hr]
      clear h hr hc
      go_enter Tryd.func26, Tryd.ntmps26
      go_wp2
      go_quiet (fail)
      go_wp2
      go_ret
      exact ⟨rfl, (Kp.refl No w).drewN _⟩
    · have hr : rEnd bs at_ 0 = 0 := by unfold rEnd; simp; omega
      have hi : ¬ (at_ : Int) < (bs.length : Int) := by omega
      rw [hr]
      clear h hr hc
      go_enter Tryd.func26, Tryd.ntmps26
      go_wp2
      go_quiet (fail)
      go_wp2
      go_ret
      exact ⟨rfl, (Kp.refl No w).drewN _⟩
  · have hr : rEnd bs at_ bad = bad := by unfold rEnd; rw [if_neg (by omega)]
    rw [hr]
    have hbz : ((bad : Int) == 0) = false := by simp; omega
    have hbz2 : ((bad : Int) != 0) = true := by simp; omega
    clear h hr
    go_enter Tryd.func26, Tryd.ntmps26
    go_wp2
    go_quiet (fail)
    go_wp2
    go_ret
    exact ⟨rfl, (Kp.refl No w).drewN _⟩

def FwRel (b : Nat) (w : World) (t v i : Value) (wr : World) : Prop :=
  ∃ (k c : Nat) (pre : List UInt8), k ≤ 8 ∧ c < U64 ∧ i = .int .i64 k ∧ t = .int .u64 c ∧ pre.length = k ∧ pre ++ bytesN (8 - k) c = bytesN 8 b ∧ wr.ownsRow w.heap.size 5 1 v pre.length (pre.map B) ∧ Kp No w wr

theorem d_byte (d : Nat) : (d : Int) % 256 = ((d.toUInt8).toNat : Int) := by rw [u8_toNat]; omega

theorem wrap_div {d : Nat} (h : d < U64) : IntKind.u64.wrap ((d : Int) / 256) = ((d / 256 : Nat) : Int) := by
  rw [u64_eq] at h
  rw [show (d : Int) / 256 = ((d / 256 : Nat) : Int) by omega]
  exact wrap_u64 _ (by omega) (by omega)

theorem FwRel.start (b : Nat) (hb : b < U64) (w : World) : FwRel b w (.int .u64 b) (.slice none 0 0) (.int .i64 0) w := ⟨0, b, [], by omega, hb, rfl, rfl, rfl, rfl, World.ownsRow_nil _ _ _ _, Kp.refl _ _⟩
theorem FwRel.next {b : Nat} {w w1 : World} {k c : Nat} {pre : List UInt8} {v1 : Value} (hk : k < 8) (hc : c < U64) (h1 : pre.length = k) (h2 : pre ++ bytesN (8 - k) c = bytesN 8 b) (ho : w1.ownsRow w.heap.size 5 1 v1 (pre ++ [c.toUInt8]).length ((pre ++ [c.toUInt8]).map B)) (hK : Kp No w w1) :
    FwRel b w (.int .u64 ((c / 256 : Nat) : Int)) v1 (.int .i64 ((k + 1 : Nat) : Int)) w1 := by
  refine ⟨k + 1, c / 256, pre ++ [c.toUInt8], by omega, Nat.lt_of_le_of_lt (Nat.div_le_self _ _) hc, rfl, rfl, by simp; omega, ?_, ho, hK⟩
  rw [← h2, List.append_assoc, show 8 - k = (8 - (k + 1)) + 1 by omega]
  rfl

end Go.Proofs.YtpfpnlhihnfahaaDoor.ref

namespace Go.Proofs.YtpfpnlhihnfahaaDoor.ref
open Go.RowKit Go.Proofs.YtpfpnlhihnfahaaDoor.sum Go.Proofs.YtpfpnlhihnfahaaDoor.kept Go.Proofs.YtpfpnlhihnfahaaDoor.writer Go.Proofs.YtpfpnlhihnfahaaDoor.clone Go.Proofs.YtpfpnlhihnfahaaDoor.known Go.Proofs.YtpfpnlhihnfahaaDoor.unseal Go.Proofs.YtpfpnlhihnfahaaDoor.number Go.Proofs.YtpfpnlhihnfahaaDoor.words Go.Proofs.YtpfpnlhihnfahaaDoor.reader
set_option linter.unusedVariables false

set_option maxRecDepth 100000 in
theorem fails_any (w : World) (p : Nat) (v : Value) (bs : List UInt8) (at_ bad c a : Nat) (h : RR w p v bs at_ bad) (ha : a ≤ bs.length) :
    Calls Tryd.prog 60 #[.pointer (some ⟨p, 0, none⟩), .int .i64 (c : Int), .int .i64 (a : Int)] w fun e w' => e = .returned (.tuple #[]) ∧ RR w' p v bs a c ∧ Kp (fun k => k = p) w w' := by
  have c0 := h.c0
  have c1 := h.c1
  have c2 := h.c2
  have f1 := h.warm 1
  have f2 := h.warm 2
  have H := Hid_mk h
  clear h
  go_enter Tryd.func60, Tryd.ntmps60
  go_wp2
  go_end0
  exact ⟨rfl, (H.out.set_bad c).set_at a ha, (kp_set w p 2 _).trans' (kp_set _ _ _ _)⟩

def NRel (w : World) (p : Nat) (v : Value) (bs : List UInt8) (at_ : Nat) (t i : Value) (wr : World) : Prop :=
  ∃ (k n : Nat), k ≤ 9 ∧ i = .int .i64 (k : Int) ∧ t = .int .u64 (n : Int) ∧ n < 128 ^ k ∧ dig 0 0 (bs.drop at_) = dig k n (bs.drop (at_ + k)) ∧ RR wr p v bs (at_ + k) 0 ∧ Kp (fun k => k = p) w wr

theorem NRel.start {w wr : World} {p : Nat} {v : Value} {bs : List UInt8} {at_ : Nat} (h : RR wr p v bs at_ 0) (hk : Kp (fun k => k = p) w wr) : NRel w p v bs at_ (.int .u64 0) (.int .i64 0) wr :=
  ⟨0, 0, Nat.zero_le _, rfl, rfl, Nat.pow_pos (by omega), rfl, h, hk⟩

theorem wrap_dig {d i : Nat} (hd : d < 128) (hi : i ≤ 9) (h9 : i = 9 → d ≤ 1) : IntKind.u64.wrap ((d : Int) * 2 ^ (7 * i)) = ((d * 128 ^ i : Nat) : Int) := by
  have := dig_lt hd hi h9
  have e0 : (d : Int) * 2 ^ (7 * i) = ((d * 128 ^ i : Nat) : Int) := by rw [pow128]; simp
  rw [e0]
  exact wrap_u64 _ (by omega) (by omega)

theorem sum_dig {n d i : Nat} (hn : n < 128 ^ i) (hd : d < 128) (hi : i ≤ 9) (h9 : i = 9 → d ≤ 1) : n + d * 128 ^ i < 18446744073709551616 := by
  by_cases h : i = 9
  · subst h
    have := h9 rfl
    have e : 128 ^ 9 = 9223372036854775808 := by decide
    rw [e] at hn ⊢
    omega
  · have h1 := dig_next hn hd
    have : 128 ^ (i + 1) ≤ 128 ^ 9 := Nat.pow_le_pow_right (by omega) (by omega)
    have e : 128 ^ 9 = 9223372036854775808 := by decide
    omega

theorem nval {n d k : Nat} (hn : n < 128 ^ k) (hk : k ≤ 9) (h9 : k = 9 → d % 128 ≤ 1) : IntKind.u64.wrap ((n : Int) + IntKind.u64.wrap ((d : Int) % 128 * 2 ^ (7 * k))) = ((n + d % 128 * 128 ^ k : Nat) : Int) := by
  have hd : d % 128 < 128 := Nat.mod_lt _ (by omega)
  rw [show (d : Int) % 128 = ((d % 128 : Nat) : Int) by omega, wrap_dig hd hk h9, ← Int.natCast_add]
  have := sum_dig hn hd hk h9
  exact wrap_u64 _ (by omega) (by omega)

theorem NRel.next {w w1 : World} {p : Nat} {v : Value} {bs : List UInt8} {at_ A k n d : Nat} {dd : UInt8} (hk : k ≤ 9) (h8 : ¬ k = 9) (hn : n < 128 ^ k) (hdd : dd.toNat = d) (hB : 128 ≤ d)
    (hdig : dig 0 0 (bs.drop at_) = dig k n (dd :: bs.drop (A + 1))) (hA : at_ + k = A) (hlt : A < bs.length) (hR : RR w1 p v bs A 0) (hK : Kp (fun k => k = p) w w1) :
    NRel w p v bs at_ (.int .u64 (IntKind.u64.wrap ((n : Int) + IntKind.u64.wrap ((d : Int) % 128 * 2 ^ (7 * k))))) (.int .i64 ((k : Int) + 1)) (w1.setCell ⟨p, 1, none⟩ (.int .i64 ((A : Int) + 1))) := by
  subst hA
  refine ⟨k + 1, n + d % 128 * 128 ^ k, by omega, rfl, ?_, dig_next hn (Nat.mod_lt _ (by omega)), ?_, ?_, hK.trans' (kp_set _ _ _ _)⟩
  · rw [nval hn hk (by omega)]
  · rw [hdig, dig_on (by omega) (by omega), hdd]
    rfl
  · exact hR.set_at (at_ + k + 1) hlt

set_option maxRecDepth 100000 in
set_option maxHeartbeats 4000000 in
theorem num_any (w : World) (p : Nat) (v : Value) (bs : List UInt8) (at_ bad most : Nat) (h : RR w p v bs at_ bad) :
    Calls Tryd.prog 59 #[.pointer (some ⟨p, 0, none⟩), .int .u64 (most : Int)] w (RRPost w p v bs (.int .u64 ((rNum bs at_ bad most).1 : Int)) (rNum bs at_ bad most).2.1 (rNum bs at_ bad most).2.2) := by
  have c0 := h.c0
  have c1 := h.c1
  have c2 := h.c2
  have H := Hid_mk h
  by_cases hb : bad = 0
  · subst hb
    have hle := h.le
    have hshort := h.short
    obtain ⟨a, cap, rfl, hl, hm, -⟩ := h.reads
    unfold maxLen at hm
    have hres : rNum bs at_ 0 most = if (dig 0 0 (bs.drop at_)).2.2 ≠ 0 then (0, at_, (dig 0 0 (bs.drop at_)).2.2) else if most < (dig 0 0 (bs.drop at_)).1 then (0, at_, 12) else ((dig 0 0 (bs.drop at_)).1, at_ + (dig 0 0 (bs.drop at_)).2.1, 0) := by
      unfold rNum; rw [if_neg (by simp)]
    have HRes := Hid_mk hres
    clear h hres
    go_enter Tryd.func59, Tryd.ntmps59
    go_wp2
    go_loopw [6, 7] (fun t i wr => NRel w p (.slice a bs.length cap) bs at_ t i wr) (fun _ i _ => 10 - (intOf i).toNat)
    case atStart => exact NRel.start H.out (Kp.refl _ w)
    case round =>
      obtain ⟨k, n, hk, rfl, rfl, hn, hdig, hR, hkp⟩ := hrel
      have HR := Hid_mk hR
      have HK := Hid_mk hkp
      have HN := Hid_mk hn
      have HDig := Hid_mk hdig
      have d0 := hR.c0
      have d1 := hR.c1
      have d2 := hR.c2
      have g1 := hR.warm 1
      have g2 := hR.warm 2
      have hatk := hR.le
      obtain ⟨_, _, e, -, -, hc⟩ := hR.reads
      simp only [Value.slice.injEq] at e
      obtain ⟨rfl, -, rfl⟩ := e
      have hap := hR.apart
      clear hn hdig hR hkp c0 c1 c2
      generalize hA : at_ + k = A at *
      have HA := Hid_mk hA
      clear hA
      by_cases he : A < bs.length
      · obtain ⟨b, o, rfl, hcell⟩ := hc (by intro e; subst e; simp at he)
        have hbp : b ≠ p := hap (by intro e; subst e; simp at he) _ _ _ _ rfl
        have hx : wr.cell? ⟨b, o + A, none⟩ = some (.int .u8 ((bs.getD A 0).toNat : Int)) := hcell A he
        have hd := drop_cons he
        have hi : (A : Int) < (bs.length : Int) := by omega
        have hge : ¬ ((bs.length : Int) ≤ (A : Int)) := by omega
        rw [hd] at HDig
        have hdb : (bs.getD A 0).toNat < 256 := UInt8.toNat_lt _
        generalize bs.getD A 0 = dd at *
        generalize hdd : dd.toNat = d at *
        have HHe := Hid_mk he
        clear hcell hap hc hd he
        by_cases hA : k = 9 ∧ 1 < d
        · have hg := HDig.out
          rw [hA.1] at hg
          rw [dig_cut (by omega)] at hg
          have hres := HRes.out
          rw [hg, if_pos (by simp)] at hres
          have HRes' := Hid_mk hres
          have hk9 : ((k : Int) == 9) = true := by rw [hA.1]; rfl
          have hgt : (1 : Int) < (d : Int) := by omega
          clear hg hres HRes HDig
          go_wp2
          go_quiet (fail)
          go_wp2
          go_quiet (fail)
          go_wp2_with fail
          refine (fails_any _ p _ bs A 0 11 at_ ((HR.out.drewN _)) hle).mono ?_
          rintro e w3 ⟨rfl, hR3, hk3⟩
          have HFin := Hid_mk (show RRPost w p _ bs (.int .u64 0) at_ 11 (.returned (.int .u64 0)) w3 from ⟨rfl, hR3, (HK.out.drewN _).trans' hk3⟩)
          clear hR3 hk3
          go_wp2
          go_ret
          rw [HRes'.out]
          exact HFin.out
        · by_cases hB : 128 ≤ d
          · have hk9 : ((k : Int) == 9) = false := beq_eq_false_iff_ne.2 (by omega)
            have hge2 : (128 : Int) ≤ (d : Int) := by omega
            go_wp2
            go_quiet (fail)
            go_wp2
            go_quiet (fail)
            go_wp2
            refine ⟨NRel.next hk (by omega) HN.out hdd hB HDig.out HA.out HHe.out (HR.out.drewN _) (HK.out.drewN _), ?_⟩
            simp [intOf]; omega
          · have hge2 : ¬ (128 : Int) ≤ (d : Int) := by omega
            by_cases hC : d = 0 ∧ 0 < k
            · have hg := HDig.out
              rw [dig_zero (by omega) hC.2] at hg
              have hres := HRes.out
              rw [hg, if_pos (by simp)] at hres
              have HRes' := Hid_mk hres
              have hz : ((d : Int) == 0) = true := beq_iff_eq.2 (by omega)
              have hki : (0 : Int) < (k : Int) := by omega
              clear hg hres HRes HDig
              by_cases h9 : k = 9
              · have hk9 : ((k : Int) == 9) = true := beq_iff_eq.2 (by omega)
                have hgt : ¬ (1 : Int) < (d : Int) := by omega
                clear h9
                go_wp2
                go_quiet (fail)
                go_wp2
                go_quiet (fail)
                go_wp2_with fail
                refine (fails_any _ p _ bs (A + 1) 0 11 at_ ((HR.out.drewN _).set_at (A + 1) HHe.out) hle).mono ?_
                rintro e w3 ⟨rfl, hR3, hk3⟩
                have HFin := Hid_mk (show RRPost w p _ bs (.int .u64 0) at_ 11 (.returned (.int .u64 0)) w3 from ⟨rfl, hR3, ((HK.out.drewN _).trans' (kp_set _ _ _ _)).trans' hk3⟩)
                clear hR3 hk3
                go_wp2
                go_ret
                rw [HRes'.out]
                exact HFin.out
              · have hk9 : ((k : Int) == 9) = false := beq_eq_false_iff_ne.2 (by omega)
                go_wp2
                go_quiet (fail)
                go_wp2
                go_quiet (fail)
                go_wp2_with fail
                refine (fails_any _ p _ bs (A + 1) 0 11 at_ ((HR.out.drewN _).set_at (A + 1) HHe.out) hle).mono ?_
                rintro e w3 ⟨rfl, hR3, hk3⟩
                have HFin := Hid_mk (show RRPost w p _ bs (.int .u64 0) at_ 11 (.returned (.int .u64 0)) w3 from ⟨rfl, hR3, ((HK.out.drewN _).trans' (kp_set _ _ _ _)).trans' hk3⟩)
                clear hR3 hk3
                go_wp2
                go_ret
                rw [HRes'.out]
                exact HFin.out
            · have hg := HDig.out
              rw [dig_end (by omega) (by omega) (by omega), hdd] at hg
              have hval := nval (d := d) HN.out hk (by omega)
              have hvlt := sum_dig (d := d % 128) HN.out (Nat.mod_lt _ (by omega)) hk (by omega)
              have hres := HRes.out
              rw [hg, if_neg (by simp)] at hres
              simp only at hres
              generalize n + d % 128 * 128 ^ k = M at *
              have hz : (((d : Int) == 0) = true ∧ ¬ (0 : Int) < (k : Int)) ∨ ((d : Int) == 0) = false := by
                by_cases h0 : d = 0
                · left; subst h0; exact ⟨rfl, by omega⟩
                · right; exact beq_eq_false_iff_ne.2 (by omega)
              by_cases hM : most < M
              · rw [if_pos hM] at hres
                have HRes' := Hid_mk hres
                have hMi : (most : Int) < (M : Int) := by omega
                clear hg hres HRes HDig hM
                by_cases h9 : k = 9
                · have hk9 : ((k : Int) == 9) = true := beq_iff_eq.2 (by omega)
                  have hgt : ¬ (1 : Int) < (d : Int) := by omega
                  clear h9
                  rcases hz with ⟨hz, hk0⟩ | hz
                  all_goals
                    go_wp2
                    go_quiet (fail)
                    go_wp2
                    go_quiet (fail)
                    go_wp2_with fail
                    refine (fails_any _ p _ bs (A + 1) 0 12 at_ ((HR.out.drewN _).set_at (A + 1) HHe.out) hle).mono ?_
                    rintro e w3 ⟨rfl, hR3, hk3⟩
                    have HFin := Hid_mk (show RRPost w p _ bs (.int .u64 0) at_ 12 (.returned (.int .u64 0)) w3 from ⟨rfl, hR3, ((HK.out.drewN _).trans' (kp_set _ _ _ _)).trans' hk3⟩)
                    clear hR3 hk3
                    go_wp2
                    go_ret
                    rw [HRes'.out]
                    exact HFin.out
                · have hk9 : ((k : Int) == 9) = false := beq_eq_false_iff_ne.2 (by omega)
                  rcases hz with ⟨hz, hk0⟩ | hz
                  all_goals
                    go_wp2
                    go_quiet (fail)
                    go_wp2
                    go_quiet (fail)
                    go_wp2_with fail
                    refine (fails_any _ p _ bs (A + 1) 0 12 at_ ((HR.out.drewN _).set_at (A + 1) HHe.out) hle).mono ?_
                    rintro e w3 ⟨rfl, hR3, hk3⟩
                    have HFin := Hid_mk (show RRPost w p _ bs (.int .u64 0) at_ 12 (.returned (.int .u64 0)) w3 from ⟨rfl, hR3, ((HK.out.drewN _).trans' (kp_set _ _ _ _)).trans' hk3⟩)
                    clear hR3 hk3
                    go_wp2
                    go_ret
                    rw [HRes'.out]
                    exact HFin.out
              · rw [if_neg hM] at hres
                have HRes' := Hid_mk hres
                have hMi : ¬ (most : Int) < (M : Int) := by omega
                clear hg hres HRes HDig hM
                by_cases h9 : k = 9
                · have hk9 : ((k : Int) == 9) = true := beq_iff_eq.2 (by omega)
                  have hgt : ¬ (1 : Int) < (d : Int) := by omega
                  clear h9
                  rcases hz with ⟨hz, hk0⟩ | hz
                  all_goals
                    go_wp2
                    go_quiet (fail)
                    go_wp2
                    go_quiet (fail)
                    go_wp2
                    go_ret
                    rw [HRes'.out]
                    exact ⟨rfl, by rw [show at_ + (k + 1) = A + 1 by have := HA.out; omega]; exact (HR.out.drewN _).set_at (A + 1) HHe.out, (HK.out.drewN _).trans' (kp_set _ _ _ _)⟩
                · have hk9 : ((k : Int) == 9) = false := beq_eq_false_iff_ne.2 (by omega)
                  rcases hz with ⟨hz, hk0⟩ | hz
                  all_goals
                    go_wp2
                    go_quiet (fail)
                    go_wp2
                    go_quiet (fail)
                    go_wp2
                    go_ret
                    rw [HRes'.out]
                    exact ⟨rfl, by rw [show at_ + (k + 1) = A + 1 by have := HA.out; omega]; exact (HR.out.drewN _).set_at (A + 1) HHe.out, (HK.out.drewN _).trans' (kp_set _ _ _ _)⟩
      · have hge : (bs.length : Int) ≤ (A : Int) := by omega
        have hg := HDig.out
        rw [List.drop_of_length_le (show bs.length ≤ A by omega), dig_nil] at hg
        have hres := HRes.out
        rw [hg, if_pos (by simp)] at hres
        have HRes' := Hid_mk hres
        clear hg hres HRes HDig hc he
        go_wp2
        go_quiet (fail)
        go_wp2_with fail
        refine (fails_any _ p _ bs A 0 10 at_ ((HR.out.drewN _)) hle).mono ?_
        rintro e w3 ⟨rfl, hR3, hk3⟩
        have HFin := Hid_mk (show RRPost w p _ bs (.int .u64 0) at_ 10 (.returned (.int .u64 0)) w3 from ⟨rfl, hR3, (HK.out.drewN _).trans' hk3⟩)
        clear hR3 hk3
        go_wp2
        go_ret
        rw [HRes'.out]
        exact HFin.out
  · have hr : rNum bs at_ bad most = (0, at_, bad) := by unfold rNum; rw [if_pos hb]
    rw [hr]
    have hbz : ((bad : Int) == 0) = false := by simp; omega
    have hbz2 : ((bad : Int) != 0) = true := by simp; omega
    clear h hr
    go_enter Tryd.func59, Tryd.ntmps59
    go_wp2
    go_ret
    exact ⟨rfl, H.out, Kp.refl _ _⟩

end Go.Proofs.YtpfpnlhihnfahaaDoor.ref

namespace Go.Proofs.YtpfpnlhihnfahaaDoor.ref
open Go.RowKit Go.Proofs.YtpfpnlhihnfahaaDoor.sum Go.Proofs.YtpfpnlhihnfahaaDoor.kept Go.Proofs.YtpfpnlhihnfahaaDoor.writer Go.Proofs.YtpfpnlhihnfahaaDoor.clone Go.Proofs.YtpfpnlhihnfahaaDoor.known Go.Proofs.YtpfpnlhihnfahaaDoor.unseal Go.Proofs.YtpfpnlhihnfahaaDoor.number Go.Proofs.YtpfpnlhihnfahaaDoor.words Go.Proofs.YtpfpnlhihnfahaaDoor.reader
set_option linter.unusedVariables false

theorem conv_empty (W : World) (a : Option Addr) (c : Nat) : (convert 30 9 (.slice a 0 c)).run Tryd.prog W = .ok (.string ⟨#[]⟩) W := by
  cases a with
  | none => exact run_convert_bytes_nil W 30 5 Tryd.underlying30 Tryd.underlying5 _ _ _ Tryd.underlying9
  | some ad => exact run_convert_bytes_back W 30 9 5 ad c [] Tryd.underlying30 Tryd.underlying5 Tryd.underlying9 (fun j hj => by simp at hj)

set_option maxRecDepth 100000 in
set_option maxHeartbeats 4000000 in
theorem text_core (w : World) (p : Nat) (v : Value) (bs : List UInt8) (at_ bad : Nat) (mi : Int) (most : Nat) (hm64 : most < 9223372036854775808) (hmx : (mi ≤ 0 ∧ most = 0) ∨ (¬ mi ≤ 0 ∧ mi = (most : Int))) (h : RR w p v bs at_ bad) :
    Calls Tryd.prog 43 #[.pointer (some ⟨p, 0, none⟩), .int .i64 mi] w (RRPost w p v bs (.string ⟨(rText bs at_ bad most).1.toArray⟩) (rText bs at_ bad most).2.1 (rText bs at_ bad most).2.2) := by
  have c1 := h.c1
  have hle := h.le
  have hshort := h.short
  have H := Hid_mk h
  have HWr := Hid_mk (wrap_u64 (most : Int) (by omega) (by omega))
  have HM := Hid_mk hmx
  clear h hmx
  by_cases hm0 : mi ≤ 0
  all_goals
    go_enter Tryd.func43, Tryd.ntmps43
    go_wp2_with fail
  all_goals
    have hnum := num_any w p v bs at_ bad most H.out
    first
      | (rw [show IntKind.u64.wrap mi = ((most : Nat) : Int) by rw [show mi = (most : Int) by have := HM.out; omega]; exact HWr.out])
      | (rw [show ((most : Nat) : Int) = 0 by have := HM.out; omega] at hnum
         try rw [show IntKind.u64.wrap 0 = 0 from wrap_u64 0 (by omega) (by omega)])
    have HNum := Hid_mk hnum
    clear hnum
    refine HNum.out.mono ?_
    clear HWr HM hm0 hm64 HNum
    rintro e w1 ⟨rfl, hR1, hK1⟩
    have HR1 := Hid_mk hR1
    have HK1 := Hid_mk hK1
    have hra := rNum_at bs at_ bad most
    clear hR1 hK1 c1
    generalize hD : rNum bs at_ bad most = D at *
    have HD := Hid_mk hD
    clear hD
    obtain ⟨n, a1, b1⟩ := D
    simp only at HR1
    have c0 := HR1.out.c0
    have c1 := HR1.out.c1
    have c2 := HR1.out.c2
    have f1 := HR1.out.warm 1
    by_cases hb1 : b1 = 0
    · subst hb1
      have hle1 : a1 ≤ bs.length := HR1.out.le
      obtain ⟨a, cap, rfl, hl, hm, hc⟩ := HR1.out.reads
      unfold maxLen at hm
      have i0 : IntKind.i64.wrap ((bs.length : Int) - (a1 : Int)) = (bs.length : Int) - (a1 : Int) := IntWalk.i64_in _ (by omega)
      have i1 : IntKind.u64.wrap ((bs.length : Int) - (a1 : Int)) = (bs.length : Int) - (a1 : Int) := wrap_u64 _ (by omega) (by omega)
      have hlen : (bs.drop a1).length = bs.length - a1 := List.length_drop
      by_cases hgt : bs.length - a1 < n
      · have hr : rText bs at_ bad most = ([], at_, 10) := by
          unfold rText
          rw [HD.out, if_neg (by simp)]
          simp only
          rw [if_pos (by rw [hlen]; exact hgt)]
        have HRes := Hid_mk hr
        have hgi : (bs.length : Int) - (a1 : Int) < (n : Int) := by omega
        clear hr hra hc hlen hgt
        go_wp2
        go_quiet (fail)
        go_wp2_with fail
        refine (fails_any _ p _ bs a1 0 10 at_ (HR1.out.drewN _) hle).mono ?_
        rintro e w3 ⟨rfl, hR3, hk3⟩
        have HFin := Hid_mk (show RRPost w p _ bs (.string ⟨#[]⟩) at_ 10 (.returned (.string ⟨#[]⟩)) w3 from ⟨rfl, hR3, (HK1.out.drewN _).trans' hk3⟩)
        clear hR3 hk3
        go_wp2
        go_ret
        rw [HRes.out]
        exact HFin.out
      · have hr : rText bs at_ bad most = ((bs.drop a1).take n, a1 + n, 0) := by
          unfold rText
          rw [HD.out, if_neg (by simp)]
          simp only
          rw [if_neg (by rw [hlen]; exact hgt)]
        have HRes := Hid_mk hr
        have hgi : ¬ (bs.length : Int) - (a1 : Int) < (n : Int) := by omega
        have ha1 : a1 + n ≤ bs.length := by omega
        have i2 : IntKind.i64.wrap (n : Int) = (n : Int) := IntWalk.i64_in _ (by omega)
        have i3 : IntKind.i64.wrap ((a1 : Int) + (n : Int)) = (a1 : Int) + (n : Int) := IntWalk.i64_in _ (by omega)
        have i4 : IntKind.i64.wrap ((a1 : Int) + (n : Int) - (n : Int)) = (a1 : Int) := by rw [show (a1 : Int) + (n : Int) - (n : Int) = (a1 : Int) by omega]; exact IntWalk.i64_in _ (by omega)
        clear hr hra hlen hgt
        go_wp2
        go_quiet (fail)
        go_wp2
        have HR3 := Hid_mk ((HR1.out.drewN nq).set_at (a1 + n) ha1)
        have HK3 := Hid_mk ((HK1.out.drewN nq).trans' (kp_set _ p 1 (.int .i64 ((a1 : Int) + (n : Int)))))
        obtain ⟨w3, hw3⟩ : ∃ w3, (w1.drewN nq).setCell ⟨p, 1, none⟩ (.int .i64 ((a1 : Int) + (n : Int))) = w3 := ⟨_, rfl⟩
        rw [hw3]
        have HR3' : Hid (RR w3 p (.slice a bs.length cap) bs (a1 + n) 0) := by rw [← hw3]; exact HR3
        have HK3' : Hid (Kp (fun k => k = p) w w3) := by rw [← hw3]; exact HK3
        clear hw3 HR3 HK3 c0 c1 c2 f1
        have c0 := HR3'.out.c0
        have c1 : w3.cell? ⟨p, 1, none⟩ = some (.int .i64 ((a1 : Int) + (n : Int))) := by have := HR3'.out.c1; rwa [Int.natCast_add] at this
        have ce := conv_empty
        have i5 : (a1 : Int) + (n : Int) - (n : Int) = (a1 : Int) := by omega
        by_cases hn0 : n = 0
        · subst hn0
          clear hc
          cases a with
          | none =>
            go_quiet (fail)
            go_wp2
            go_ret
            rw [HRes.out]
            exact ⟨rfl, HR3'.out.drewN _, HK3'.out.drewN _⟩
          | some ad =>
            by_cases hca : cap = a1
            · go_quiet (fail)
              go_wp2
              go_ret
              rw [HRes.out]
              exact ⟨rfl, HR3'.out.drewN _, HK3'.out.drewN _⟩
            · go_quiet (fail)
              go_wp2
              go_ret
              rw [HRes.out]
              exact ⟨rfl, HR3'.out.drewN _, HK3'.out.drewN _⟩
        · obtain ⟨b, o, rfl, hcell⟩ := hc (by intro e; subst e; simp at ha1; omega)
          have hbp : b ≠ p := HR3'.out.apart (by intro e; subst e; simp at ha1; omega) _ _ _ _ rfl
          have hd := bs_drop HR3'.out.reads a1 hle1 (some ⟨b, o + a1, none⟩) (fun _ => rfl)
          have ht := bs_take hd n (by omega)
          have hconv := fun nn => conv_bs (bs_drewN nn ht)
          have hca : ¬ cap = a1 := by omega
          clear hd ht hc hcell ce
          go_quiet (fail)
          go_wp2
          go_ret
          rw [HRes.out]
          exact ⟨rfl, HR3'.out.drewN _, HK3'.out.drewN _⟩
    · have ha : a1 = at_ := hra hb1
      subst ha
      have hr : rText bs a1 bad most = ([], a1, b1) := by
        unfold rText
        rw [HD.out, if_pos hb1]
      have HRes := Hid_mk hr
      have hwz : ((b1 : Int) == 0) = false := by simp; omega
      have hwz2 : ((b1 : Int) != 0) = true := by simp; omega
      clear hr hra hb1
      go_wp2
      go_ret
      rw [HRes.out]
      exact ⟨rfl, HR1.out, HK1.out⟩

theorem text_any (w : World) (p : Nat) (v : Value) (bs : List UInt8) (at_ bad : Nat) (mi : Int) (hm64 : mi < 9223372036854775808) (h : RR w p v bs at_ bad) :
    Calls Tryd.prog 43 #[.pointer (some ⟨p, 0, none⟩), .int .i64 mi] w (RRPost w p v bs (.string ⟨(rText bs at_ bad mi.toNat).1.toArray⟩) (rText bs at_ bad mi.toNat).2.1 (rText bs at_ bad mi.toNat).2.2) :=
  text_core w p v bs at_ bad mi mi.toNat (by omega) (by omega) h

end Go.Proofs.YtpfpnlhihnfahaaDoor.ref
