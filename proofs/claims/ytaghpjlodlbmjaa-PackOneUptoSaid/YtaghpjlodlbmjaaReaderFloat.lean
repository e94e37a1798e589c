/- Float of package pack's Reader. -/
import Derived.Test.YtaghpjlodlbmjaaWords
namespace Go.Proofs.Ytaghpjlodlbmjaa.reader
open Go.RowKit Go.Proofs.Ytaghpjlodlbmjaa.sum Go.Proofs.Ytaghpjlodlbmjaa.kept Go.Proofs.Ytaghpjlodlbmjaa.app Go.Proofs.Ytaghpjlodlbmjaa.writer Go.Proofs.Ytaghpjlodlbmjaa.clone Go.Proofs.Ytaghpjlodlbmjaa.known Go.Proofs.Ytaghpjlodlbmjaa.unseal Go.Proofs.Ytaghpjlodlbmjaa.number Go.Proofs.Ytaghpjlodlbmjaa.words
set_option linter.unusedVariables false

/-- the number of the first k bytes, the lowest first -/
def leN (bs : List UInt8) : Nat → Nat
  | 0 => 0
  | k + 1 => leN bs k + (bs.getD k 0).toNat * 256 ^ k
theorem leN_lt (bs : List UInt8) (k : Nat) : leN bs k < 256 ^ k := by
  induction k with
  | zero => simp [leN]
  | succ k ih =>
    have hx : (bs.getD k 0).toNat < 256 := UInt8.toNat_lt _
    have : (bs.getD k 0).toNat * 256 ^ k ≤ 255 * 256 ^ k := Nat.mul_le_mul_right _ (by omega)
    rw [leN, Nat.pow_succ]; omega

def rFloat (bs : List UInt8) (at_ bad : Nat) : Nat × Nat × Nat :=
  if bad ≠ 0 then (0, at_, bad)
  else if (bs.drop at_).length < 8 then (0, at_, 10)
  else if nanB (leN (bs.drop at_) 8) = true ∧ leN (bs.drop at_) 8 ≠ nanW then (0, at_, 11)
  else (leN (bs.drop at_) 8, at_ + 8, 0)

theorem pow256 (i : Nat) : (256 : Nat) ^ i = 2 ^ (8 * i) := by rw [show 256 = 2 ^ 8 by decide, ← Nat.pow_mul]
theorem pow_le8 {i : Nat} (h : i ≤ 7) : 256 ^ i ≤ 72057594037927936 := by
  have : 256 ^ i ≤ 256 ^ 7 := Nat.pow_le_pow_right (by omega) h
  have e : 256 ^ 7 = 72057594037927936 := by decide
  omega

theorem or_byte (n i : Nat) (d : UInt8) (hn : n < 256 ^ i) (hi : i ≤ 7) :
    bits .or .u64 (n : Int) (IntKind.u64.wrap ((d.toNat : Int) * 2 ^ (8 * i))) = ((n + d.toNat * 256 ^ i : Nat) : Int) := by
  have hp := pow_le8 hi
  have hx : d.toNat < 256 := UInt8.toNat_lt _
  have hlt : d.toNat * 256 ^ i < 18446744073709551616 := by
    have : d.toNat * 256 ^ i ≤ 255 * 72057594037927936 := Nat.mul_le_mul (by omega) hp
    omega
  have e0 : (d.toNat : Int) * 2 ^ (8 * i) = ((d.toNat * 256 ^ i : Nat) : Int) := by
    rw [pow256]; simp
  rw [e0, wrap_u64 _ (by omega) (by omega), u64_or_nat _ _ (by omega) hlt]
  rw [Nat.or_comm, nat_join (8 * i) (d.toNat * 256 ^ i) n (by rw [pow256, Nat.mul_mod_left]) (by rw [← pow256]; exact hn), Nat.add_comm]

set_option maxRecDepth 100000 in
set_option maxHeartbeats 2000000 in
theorem float_any (w : World) (p : Nat) (v : Value) (bs : List UInt8) (at_ bad : Nat) (h : Rd w p v bs at_ bad) :
    Calls Try.prog 40 #[.pointer (some ⟨p, 0, none⟩)] w (RdPost w p v bs (.float .f64 (rFloat bs at_ bad).1) (rFloat bs at_ bad).2.1 (rFloat bs at_ bad).2.2) := by
  have c2 := h.c2
  have H := Hid_mk h
  by_cases hb : bad = 0
  · subst hb
    have hle := h.le
    have hshort := h.short
    clear h
    go_enter Try.func40, Try.ntmps40
    go_wp2_with fail
    refine (left_any w p v bs at_ 0 H.out).mono ?_
    rintro e w0 ⟨L, nd, rfl, hL, -, hw0⟩
    have hR := H.out.drewN nd
    rw [← hw0] at hR
    have hK : Kp (fun k => k = p) w w0 := by rw [hw0]; exact (Kp.refl _ w).drewN nd
    have HR := Hid_mk hR
    have HK := Hid_mk hK
    have c1' := hR.c1
    have c2' := hR.c2
    have f2 := hR.warm 2
    have f1 := hR.warm 1
    obtain ⟨a, cap, rfl, hl, hm, hc⟩ := hL
    have hlen : (bs.drop at_).length = bs.length - at_ := List.length_drop
    clear hw0 hR hK c2
    unfold maxLen at hm
    by_cases h8 : (bs.drop at_).length < 8
    · have hr : rFloat bs at_ 0 = (0, at_, 10) := by unfold rFloat; rw [if_neg (by simp), if_pos h8]
      have HRes := Hid_mk hr
      have h8i : ((bs.drop at_).length : Int) < 8 := by omega
      generalize (bs.drop at_).length = len at *
      clear hr hc hl hm hlen
      go_wp2
      go_ret
      rw [HRes.out]
      exact ⟨rfl, HR.out.set_bad 10, HK.out.trans' (kp_set _ _ _ _)⟩
    · obtain ⟨b, o, rfl, hcell⟩ := hc (by intro e; rw [e] at h8; simp at h8)
      have h8i : ¬ ((bs.drop at_).length : Int) < 8 := by omega
      have hat : at_ + 8 ≤ bs.length := by omega
      have hres : rFloat bs at_ 0 = if nanB (leN (bs.drop at_) 8) = true ∧ leN (bs.drop at_) 8 ≠ nanW then (0, at_, 11) else (leN (bs.drop at_) 8, at_ + 8, 0) := by
        unfold rFloat; rw [if_neg (by simp), if_neg h8]
      have HRes := Hid_mk hres
      have hq := run_from
      have hq2 := run_bits
      generalize hD : bs.drop at_ = D at *
      clear hD hc hres hlen
      go_wp2
      go_loop [4, 20] (fun t i => ∃ k : Nat, k ≤ 8 ∧ i = .int .i64 k ∧ t = .int .u64 (leN D k : Int)) (fun _ i => 8 - (intOf i).toNat)
      case atStart => exact ⟨0, by omega, rfl, rfl⟩
      case round =>
        obtain ⟨k, hk, rfl, rfl⟩ := hrel
        by_cases hlt : k < 8
        · have hx : w0.cell? ⟨b, o + k, none⟩ = some (.int .u8 ((D.getD k 0).toNat : Int)) := hcell k (by omega)
          have hki : (k : Int) < 8 := by omega
          have hkl : (k : Int) < (D.length : Int) := by omega
          have hor := or_byte (leN D k) k (D.getD k 0) (leN_lt D k) (by omega)
          have HOr := Hid_mk hor
          have hxb : (D.getD k 0).toNat < 256 := UInt8.toNat_lt _
          have hnext : leN D (k + 1) = leN D k + (D.getD k 0).toNat * 256 ^ k := rfl
          rw [← hnext] at HOr
          generalize hy : D.getD k 0 = y at *
          generalize leN D k = N at *
          clear hor hcell hnext
          go_wp2
          rw [HOr.out]
          go_round
          case rel => exact ⟨k + 1, by omega, by go_num, rfl⟩
          case measure => simp [intOf]; omega
        · have hki : ¬ (k : Int) < 8 := by omega
          obtain rfl : k = 8 := by omega
          have hres := HRes.out
          generalize leN D 8 = M at *
          clear hcell HRes
          by_cases hn : nanB M = true
          · by_cases hm2 : M = nanW
            · rw [if_neg (by simp [hm2])] at hres
              have HRes := Hid_mk hres
              have hne : ((M : Int) != (nanW : Int)) = false := by rw [hm2]; simp
              have HN := Hid_mk hn
              clear hres hm2 hn
              go_wp2_with fail
              refine (isnan_any M _).mono ?_
              rintro e w' ⟨rfl, rfl⟩
              rw [HN.out]
              go_wp2_with fail
              refine (nan_any _).mono ?_
              rintro e w' ⟨rfl, rfl⟩
              go_wp2
              go_ret
              rw [HRes.out]
              exact ⟨rfl, HR.out.set_at (at_ + 8) hat, HK.out.trans' (kp_set _ _ _ _)⟩
            · rw [if_pos ⟨hn, hm2⟩] at hres
              have HRes := Hid_mk hres
              have hne : ((M : Int) != (nanW : Int)) = true := by rw [bne_iff_ne]; omega
              have HN := Hid_mk hn
              clear hres hm2 hn
              go_wp2_with fail
              refine (isnan_any M _).mono ?_
              rintro e w' ⟨rfl, rfl⟩
              rw [HN.out]
              go_wp2_with fail
              refine (nan_any _).mono ?_
              rintro e w' ⟨rfl, rfl⟩
              go_wp2
              go_ret
              rw [HRes.out]
              exact ⟨rfl, HR.out.set_bad 11, HK.out.trans' (kp_set _ _ _ _)⟩
          · rw [if_neg (by simp [hn])] at hres
            have HRes := Hid_mk hres
            have hn' : nanB M = false := by simpa using hn
            have HN := Hid_mk hn'
            clear hres hn hn'
            go_wp2_with fail
            refine (isnan_any M _).mono ?_
            rintro e w' ⟨rfl, rfl⟩
            rw [HN.out]
            go_wp2
            go_ret
            rw [HRes.out]
            exact ⟨rfl, HR.out.set_at (at_ + 8) hat, HK.out.trans' (kp_set _ _ _ _)⟩
  · have hr : rFloat bs at_ bad = (0, at_, bad) := by unfold rFloat; rw [if_pos hb]
    rw [hr]
    have hbz : ((bad : Int) == 0) = false := by simp; omega
    have hbz2 : ((bad : Int) != 0) = true := by simp; omega
    clear h hr
    go_enter Try.func40, Try.ntmps40
    go_wp2
    go_ret
    exact ⟨rfl, H.out, Kp.refl _ _⟩

end Go.Proofs.Ytaghpjlodlbmjaa.reader
