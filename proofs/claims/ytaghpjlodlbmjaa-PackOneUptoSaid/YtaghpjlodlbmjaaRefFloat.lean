/- The reference's Reader: Float and End. -/
import Derived.Test.YtaghpjlodlbmjaaRefReader
namespace Go.Proofs.Ytaghpjlodlbmjaa.ref
open Go.RowKit Go.Proofs.Ytaghpjlodlbmjaa.sum Go.Proofs.Ytaghpjlodlbmjaa.kept Go.Proofs.Ytaghpjlodlbmjaa.writer Go.Proofs.Ytaghpjlodlbmjaa.clone Go.Proofs.Ytaghpjlodlbmjaa.known Go.Proofs.Ytaghpjlodlbmjaa.unseal Go.Proofs.Ytaghpjlodlbmjaa.number Go.Proofs.Ytaghpjlodlbmjaa.words Go.Proofs.Ytaghpjlodlbmjaa.reader
set_option linter.unusedVariables false

theorem leN_drop (bs : List UInt8) (at_ k : Nat) : (bs.drop at_).getD k 0 = bs.getD (at_ + k) 0 := by simp [List.getD]

def FRel (w : World) (p : Nat) (v : Value) (bs : List UInt8) (at_ : Nat) (t i : Value) (wr : World) : Prop :=
  ∃ (j N : Nat) (z : Int), j ≤ 8 ∧ z = (j : Int) - 1 ∧ i = .int .i64 z ∧ t = .int .u64 (N : Int) ∧ N < 256 ^ (8 - j) ∧ leN (bs.drop at_) j + N * 256 ^ j = leN (bs.drop at_) 8 ∧ RR wr p v bs at_ 0 ∧ Kp No w wr

theorem FRel.same {w : World} {p : Nat} {v : Value} {bs : List UInt8} {at_ : Nat} {t i : Value} {wr w' : World} (h : FRel w p v bs at_ t i wr) (hk : Kp No wr w') : FRel w p v bs at_ t i w' := by
  obtain ⟨j, N, z, h1, h2, h3, h4, h5, h6, h7, h8⟩ := h
  exact ⟨j, N, z, h1, h2, h3, h4, h5, h6, h7.same hk, h8.trans' hk⟩

theorem m_zero {D : List UInt8} {N M : Nat} (h : leN D 0 + N * 256 ^ 0 = M) : M = N := by
  rw [Nat.pow_zero, Nat.mul_one] at h
  have e : leN D 0 = 0 := rfl
  rw [e, Nat.zero_add] at h
  exact h.symm

theorem f_step {D : List UInt8} {m N d M : Nat} (hd : d = (D.getD m 0).toNat) (h : leN D (m + 1) + N * 256 ^ (m + 1) = M) : leN D m + (256 * N + d) * 256 ^ m = M := by
  rw [← h, leN, ← hd, Nat.pow_succ, Nat.add_mul]
  have : N * (256 ^ m * 256) = 256 * N * 256 ^ m := by ac_rfl
  omega

theorem f_bound {m N d : Nat} (hm : m + 1 ≤ 8) (hd : d < 256) (h : N < 256 ^ (8 - (m + 1))) : 256 * N + d < 256 ^ (8 - m) := by
  rw [show 8 - m = (8 - (m + 1)) + 1 by omega, Nat.pow_succ]
  omega

theorem f_lt {N m : Nat} (hm : m < 8) (h : N < 256 ^ (8 - (m + 1))) : N < 72057594037927936 := by
  have h2 := pow_le8 (i := 8 - (m + 1)) (by omega)
  omega

theorem f_w1 {N : Nat} (h : N < 72057594037927936) : IntKind.u64.wrap (256 * (N : Int)) = 256 * (N : Int) := wrap_u64 _ (by omega) (by omega)

theorem f_w2 {N d : Nat} (h : N < 72057594037927936) (hd : d < 256) : IntKind.u64.wrap (256 * (N : Int) + (d : Int)) = 256 * (N : Int) + (d : Int) := wrap_u64 _ (by omega) (by omega)

theorem f_w3 {at_ m len : Nat} (h : at_ + 8 ≤ len) (hl : len ≤ 140737488355328) (hm : m < 8) : IntKind.i64.wrap ((at_ : Int) + (m : Int)) = (at_ : Int) + (m : Int) := IntWalk.i64_in _ (by omega)

theorem FRel.start {w : World} {p : Nat} {v : Value} {bs : List UInt8} {at_ : Nat} {wr : World} (h : RR wr p v bs at_ 0) (hk : Kp No w wr) : FRel w p v bs at_ (.int .u64 0) (.int .i64 7) wr :=
  ⟨8, 0, 7, Nat.le_refl _, by omega, rfl, rfl, Nat.pow_pos (by omega), by rw [Nat.zero_mul, Nat.add_zero], h, hk⟩

theorem FRel.next {w : World} {p : Nat} {v : Value} {bs : List UInt8} {at_ : Nat} {wr : World} {m N d : Nat} (hj : m + 1 ≤ 8) (hN : N < 256 ^ (8 - (m + 1))) (hd : d = (bs.getD (at_ + m) 0).toNat) (hdb : d < 256) (hs : leN (bs.drop at_) (m + 1) + N * 256 ^ (m + 1) = leN (bs.drop at_) 8) (h : RR wr p v bs at_ 0) (hk : Kp No w wr) :
    FRel w p v bs at_ (.int .u64 (256 * (N : Int) + (d : Int))) (.int .i64 ((m : Int) - 1)) wr := by
  refine ⟨m, 256 * N + d, (m : Int) - 1, by omega, rfl, rfl, ?_, f_bound hj hdb hN, f_step (by rw [leN_drop]; exact hd) hs, h, hk⟩
  rw [Int.natCast_add, Int.natCast_mul]; rfl

set_option maxRecDepth 100000 in
set_option maxHeartbeats 4000000 in
theorem float_any (w : World) (p : Nat) (v : Value) (bs : List UInt8) (at_ bad : Nat) (h : RR w p v bs at_ bad) :
    Calls Try.prog 68 #[.pointer (some ⟨p, 0, none⟩)] w (RRPost w p v bs (.float .f64 (rFloat bs at_ bad).1) (rFloat bs at_ bad).2.1 (rFloat bs at_ bad).2.2) := by
  have c0 := h.c0
  have c1 := h.c1
  have c2 := h.c2
  have f1 := h.warm 1
  have f2 := h.warm 2
  have H := Hid_mk h
  by_cases hb : bad = 0
  · subst hb
    obtain ⟨a, cap, rfl, hl, hm, hc⟩ := h.reads
    have hshort := h.short
    have hap := h.apart
    have hle := h.le
    unfold maxLen at hm
    have i0 : IntKind.i64.wrap ((bs.length : Int) - (at_ : Int)) = (bs.length : Int) - (at_ : Int) := IntWalk.i64_in _ (by omega)
    clear h
    by_cases h8 : (bs.drop at_).length < 8
    · have hr : rFloat bs at_ 0 = (0, at_, 10) := by unfold rFloat; rw [if_neg (by simp), if_pos h8]
      have HRes := Hid_mk hr
      have h8i : (bs.length : Int) - (at_ : Int) < 8 := by rw [List.length_drop] at h8; omega
      generalize hLen : bs.length = len at *
      clear hr hc hap h8 hLen
      go_enter Try.func68, Try.ntmps68
      go_wp2
      go_quiet (fail)
      go_wp2
      go_ret
      rw [HRes.out]
      exact ⟨rfl, (H.out.set_bad 10).same (by exact ⟨rfl, rfl, rfl, Nat.le_refl _, fun _ _ _ => rfl⟩), by exact ⟨rfl, rfl, rfl, (kp_set w p 2 _).size, (kp_set w p 2 _).block⟩⟩
    · have hat : at_ + 8 ≤ bs.length := by rw [List.length_drop] at h8; omega
      obtain ⟨b, o, rfl, hcell⟩ := hc (by intro e; subst e; simp at hat)
      have HCell := Hid_mk hcell
      have h8i : ¬ (bs.length : Int) - (at_ : Int) < 8 := by omega
      have hbp : b ≠ p := hap (by intro e; subst e; simp at hat) _ _ _ _ rfl
      have hres : rFloat bs at_ 0 = if nanB (leN (bs.drop at_) 8) = true ∧ leN (bs.drop at_) 8 ≠ nanW then (0, at_, 11) else (leN (bs.drop at_) 8, at_ + 8, 0) := by
        unfold rFloat; rw [if_neg (by simp), if_neg h8]
      have HRes := Hid_mk hres
      have hq := run_from
      have hq2 := run_bits
      clear hc hcell hap h8 hres
      go_enter Try.func68, Try.ntmps68
      go_wp2
      go_quiet (fail)
      go_wp2
      go_loopw [3, 4] (fun t i wr => FRel w p (.slice (some ⟨b, o, none⟩) bs.length cap) bs at_ t i wr) (fun _ i _ => (intOf i + 1).toNat)
      case atStart => exact FRel.start (H.out.drewN _) ((Kp.refl No w).drewN _)
      case round =>
        obtain ⟨j, N, z, hj, hz, rfl, rfl, hN, hsum, hR, hk⟩ := hrel
        have HN := Hid_mk hN
        have HSum := Hid_mk hsum
        have HR := Hid_mk hR
        have HK := Hid_mk hk
        have d0 := hR.c0
        have d1 := hR.c1
        have d2 := hR.c2
        have g1 := hR.warm 1
        have g2 := hR.warm 2
        obtain ⟨_, _, e, -, -, hc⟩ := hR.reads
        simp only [Value.slice.injEq] at e
        obtain ⟨b', o', e2, hcell⟩ := hc (by intro e; subst e; simp at hat)
        rw [← e.1] at e2
        cases e2
        have HCell2 := Hid_mk hcell
        clear hN hsum hR hk e hc hcell c0 c1 c2 f1 f2
        cases j with
        | zero =>
          obtain rfl : z = -1 := by simpa using hz
          clear hz
          have hM : leN (bs.drop at_) 8 = N := m_zero HSum.out
          have hres := HRes.out
          rw [hM] at hres
          clear HRes
          have HM := Hid_mk hM
          clear hM
          by_cases hn : nanB N = true
          · have n1 := neq_yes hn
            by_cases hm2 : N = nanW
            · rw [if_neg (by simp [hm2])] at hres
              have HRes := Hid_mk hres
              have hne : ((N : Int) != (nanW : Int)) = false := by rw [hm2]; simp
              clear hres hm2 hn
              go_wp2_with fail
              refine (nan_any _).mono ?_
              rintro e w' ⟨rfl, rfl⟩
              go_wp2
              go_ret
              rw [HRes.out]
              exact ⟨rfl, HR.out.set_at (at_ + 8) hat, HK.out.to.trans' (kp_set _ _ _ _)⟩
            · rw [if_pos ⟨hn, hm2⟩] at hres
              have HRes := Hid_mk hres
              have hne : ((N : Int) != (nanW : Int)) = true := by rw [bne_iff_ne]; omega
              clear hres hm2 hn
              go_wp2_with fail
              refine (nan_any _).mono ?_
              rintro e w' ⟨rfl, rfl⟩
              go_wp2
              go_ret
              rw [HRes.out]
              exact ⟨rfl, HR.out.set_bad 11, HK.out.to.trans' (kp_set _ _ _ _)⟩
          · rw [if_neg (by simp [hn])] at hres
            have HRes := Hid_mk hres
            have n1 := neq_no (b := N) (by simpa using hn)
            clear hres hn
            go_wp2
            go_ret
            rw [HRes.out]
            exact ⟨rfl, HR.out.set_at (at_ + 8) hat, HK.out.to.trans' (kp_set _ _ _ _)⟩
        | succ m =>
          obtain rfl : z = (m : Int) := by omega
          have hx : wr.cell? ⟨b, o + (at_ + m), none⟩ = some (.int .u8 ((bs.getD (at_ + m) 0).toNat : Int)) := HCell2.out (at_ + m) (by omega)
          have hxb : (bs.getD (at_ + m) 0).toNat < 256 := UInt8.toNat_lt _
          have hN2 := f_lt (by omega) HN.out
          have w1 := f_w1 hN2
          have w2 := f_w2 hN2 hxb
          have w3 := f_w3 hat hshort (show m < 8 by omega)
          have w4 : (0 : Int) ≤ (at_ : Int) + (m : Int) := by omega
          have w5 : ((at_ : Int) + (m : Int)).toNat = at_ + m := by omega
          have w6 : (at_ : Int) + (m : Int) < (bs.length : Int) := by omega
          have hge : (0 : Int) ≤ (m : Int) := by omega
          have hfin := FRel.next (w := w) (v := .slice (some ⟨b, o, none⟩) bs.length cap) hj HN.out rfl hxb HSum.out HR.out HK.out
          have HFin := Hid_mk hfin
          generalize (bs.getD (at_ + m) 0).toNat = d at *
          clear hfin hz hj hN2
          go_wp2
          go_quiet (fail)
          go_wp2
          go_roundw
          case rel => exact HFin.out.same ((Kp.refl No wr).drewN _)
          case measure => simp [intOf]
  · have hr : rFloat bs at_ bad = (0, at_, bad) := by unfold rFloat; rw [if_pos hb]
    rw [hr]
    have hbz : ((bad : Int) == 0) = false := by simp; omega
    have hbz2 : ((bad : Int) != 0) = true := by simp; omega
    clear h hr
    go_enter Try.func68, Try.ntmps68
    go_wp2
    go_ret
    exact ⟨rfl, H.out, Kp.refl _ _⟩

end Go.Proofs.Ytaghpjlodlbmjaa.ref
