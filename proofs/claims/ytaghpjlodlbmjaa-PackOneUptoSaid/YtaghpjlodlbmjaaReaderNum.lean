/- Num and End of package pack's Reader. -/
import Derived.Test.YtaghpjlodlbmjaaReader
namespace Go.Proofs.Ytaghpjlodlbmjaa.reader
open Go.RowKit Go.Proofs.Ytaghpjlodlbmjaa.sum Go.Proofs.Ytaghpjlodlbmjaa.kept Go.Proofs.Ytaghpjlodlbmjaa.app Go.Proofs.Ytaghpjlodlbmjaa.writer Go.Proofs.Ytaghpjlodlbmjaa.clone Go.Proofs.Ytaghpjlodlbmjaa.known Go.Proofs.Ytaghpjlodlbmjaa.unseal Go.Proofs.Ytaghpjlodlbmjaa.number
set_option linter.unusedVariables false

theorem dig_size : ∀ (bs : List UInt8) (i n : Nat), (dig i n bs).2.2 = 0 → (dig i n bs).2.1 ≤ i + bs.length
  | [], i, n, h => by simp [dig] at h
  | d :: r, i, n, h => by
    rw [dig] at h ⊢
    split at h
    · simp at h
    · rename_i h1
      split at h
      · rename_i h2
        have := dig_size r (i + 1) _ h
        rw [if_neg h1, if_pos h2]
        simp only [List.length_cons]; omega
      · rename_i h2
        split at h
        · simp at h
        · rename_i h3
          rw [if_neg h1, if_neg h2, if_neg h3]
          simp only [List.length_cons]; omega

theorem dig_zero_res : ∀ (bs : List UInt8) (i n : Nat), (dig i n bs).2.2 ≠ 0 → (dig i n bs).1 = 0 ∧ (dig i n bs).2.1 = 0
  | [], i, n, _ => ⟨rfl, rfl⟩
  | d :: r, i, n, h => by
    rw [dig] at h ⊢
    split at h
    · rename_i h1; rw [if_pos h1]; exact ⟨rfl, rfl⟩
    · rename_i h1
      split at h
      · rename_i h2
        rw [if_neg h1, if_pos h2]
        exact dig_zero_res r (i + 1) _ h
      · rename_i h2
        split at h
        · rename_i h3; rw [if_neg h1, if_neg h2, if_pos h3]; exact ⟨rfl, rfl⟩
        · simp at h

def rNum (bs : List UInt8) (at_ bad most : Nat) : Nat × Nat × Nat :=
  if bad ≠ 0 then (0, at_, bad)
  else if (dig 0 0 (bs.drop at_)).2.2 ≠ 0 then (0, at_, (dig 0 0 (bs.drop at_)).2.2)
  else if most < (dig 0 0 (bs.drop at_)).1 then (0, at_, 12)
  else ((dig 0 0 (bs.drop at_)).1, at_ + (dig 0 0 (bs.drop at_)).2.1, 0)

set_option maxRecDepth 100000 in
set_option maxHeartbeats 1000000 in
theorem num_any (w : World) (p : Nat) (v : Value) (bs : List UInt8) (at_ bad most : Nat) (h : Rd w p v bs at_ bad) :
    Calls Try.prog 39 #[.pointer (some ⟨p, 0, none⟩), .int .u64 (most : Int)] w (RdPost w p v bs (.int .u64 ((rNum bs at_ bad most).1 : Int)) (rNum bs at_ bad most).2.1 (rNum bs at_ bad most).2.2) := by
  have c2 := h.c2
  have H := Hid_mk h
  by_cases hb : bad = 0
  · subst hb
    have hsize := dig_size (bs.drop at_) 0 0
    have hle := h.le
    have hshort := h.short
    clear h
    go_enter Try.func39, Try.ntmps39
    go_wp2_with fail
    refine (left_any w p v bs at_ 0 H.out).mono ?_
    rintro e w0 ⟨L, nd, rfl, hL, -, hw0⟩
    have hR := H.out.drewN nd
    rw [← hw0] at hR
    have hK : Kp (fun k => k = p) w w0 := by rw [hw0]; exact (Kp.refl _ w).drewN nd
    have HR := Hid_mk hR
    have HK := Hid_mk hK
    have c2' := hR.c2
    have c1' := hR.c1
    have f2 := hR.warm 2
    have f1 := hR.warm 1
    have HL := Hid_mk hL
    clear hw0 hR hK c2 hL
    go_wp2_with fail
    refine (number_any w0 L _ HL.out).mono ?_
    rintro e w1 ⟨rfl, rfl⟩
    unfold tup
    have hres : rNum bs at_ 0 most = if (dig 0 0 (bs.drop at_)).2.2 ≠ 0 then (0, at_, (dig 0 0 (bs.drop at_)).2.2) else if most < (dig 0 0 (bs.drop at_)).1 then (0, at_, 12) else ((dig 0 0 (bs.drop at_)).1, at_ + (dig 0 0 (bs.drop at_)).2.1, 0) := by
      unfold rNum; rw [if_neg (by simp)]
    have hdl : (bs.drop at_).length ≤ bs.length - at_ := by rw [List.length_drop]; omega
    generalize dig 0 0 (bs.drop at_) = D at *
    obtain ⟨n, size, wrong⟩ := D
    simp only at hres hsize
    by_cases hw : wrong = 0
    · subst hw
      have hs := hsize rfl
      have hs2 : at_ + size ≤ bs.length := by omega
      by_cases hgt : most < n
      · rw [if_neg (by simp), if_pos hgt] at hres
        have HRes := Hid_mk hres
        have hgti : (most : Int) < (n : Int) := by omega
        clear hres hsize
        go_wp2
        go_ret
        rw [HRes.out]
        exact ⟨rfl, HR.out.set_bad 12, HK.out.trans' (kp_set _ _ _ _)⟩
      · rw [if_neg (by simp), if_neg hgt] at hres
        have HRes := Hid_mk hres
        have hgti : decide ((most : Int) < (n : Int)) = false := decide_eq_false (by omega)
        clear hres hsize
        go_wp2
        go_ret
        rw [HRes.out]
        exact ⟨rfl, HR.out.set_at (at_ + size) hs2, HK.out.trans' (kp_set _ _ _ _)⟩
    · rw [if_pos hw] at hres
      have HRes := Hid_mk hres
      have hwz : ((wrong : Int) == 0) = false := by simp; omega
      have hwz2 : ((wrong : Int) != 0) = true := by simp; omega
      clear hres hsize
      go_wp2
      go_ret
      rw [HRes.out]
      exact ⟨rfl, HR.out.set_bad wrong, HK.out.trans' (kp_set _ _ _ _)⟩
  · have hr : rNum bs at_ bad most = (0, at_, bad) := by unfold rNum; rw [if_pos hb]
    rw [hr]
    have hbz : ((bad : Int) == 0) = false := by simp; omega
    have hbz2 : ((bad : Int) != 0) = true := by simp; omega
    clear h hr
    go_enter Try.func39, Try.ntmps39
    go_wp2
    go_ret
    exact ⟨rfl, H.out, Kp.refl _ _⟩

def rEnd (bs : List UInt8) (at_ bad : Nat) : Nat := if bad = 0 ∧ at_ < bs.length then 11 else bad

set_option maxRecDepth 100000 in
set_option maxHeartbeats 1000000 in
theorem end_any (w : World) (p : Nat) (v : Value) (bs : List UInt8) (at_ bad : Nat) (h : Rd w p v bs at_ bad) :
    Calls Try.prog 42 #[.pointer (some ⟨p, 0, none⟩)] w fun e w' => e = .returned (.int .i64 (rEnd bs at_ bad : Int)) ∧ ∃ n, w' = w.drewN n := by
  have c2 := h.c2
  have H := Hid_mk h
  by_cases hb : bad = 0
  · subst hb
    clear h
    go_enter Try.func42, Try.ntmps42
    go_wp2_with fail
    refine (left_any w p v bs at_ 0 H.out).mono ?_
    rintro e w0 ⟨L, nd, rfl, hL, -, hw0⟩
    obtain ⟨a, cap, rfl, hl, hm, -⟩ := hL
    have HW := Hid_mk hw0
    have c2' : w0.cell? ⟨p, 2, none⟩ = some (.int .i64 ((0 : Nat) : Int)) := by rw [hw0]; exact (H.out.drewN nd).c2
    have hlen : (bs.drop at_).length = bs.length - at_ := List.length_drop
    rw [hlen]
    clear hw0 hl hm hlen c2
    by_cases hpos : at_ < bs.length
    · have hr : rEnd bs at_ 0 = 11 := by unfold rEnd; rw [if_pos ⟨rfl, hpos⟩]
      have hp1 : (0 : Int) < ((bs.length - at_ : Nat) : Int) := by omega
      have hp2 : 0 < bs.length - at_ := by omega
      have HRes := Hid_mk hr
      generalize bs.length - at_ = len at *
      clear hr hpos
      go_wp2
      go_ret
      rw [HRes.out]
      exact ⟨rfl, nd, HW.out⟩
    · have hr : rEnd bs at_ 0 = 0 := by unfold rEnd; rw [if_neg (by omega)]
      have hz : bs.length - at_ = 0 := by omega
      rw [hz]
      have HRes := Hid_mk hr
      clear hr hpos hz
      go_wp2
      go_ret
      rw [HRes.out]
      exact ⟨rfl, nd, HW.out⟩
  · have hr : rEnd bs at_ bad = bad := by unfold rEnd; rw [if_neg (by omega)]
    rw [hr]
    have hbz : ((bad : Int) == 0) = false := by simp; omega
    clear h hr
    go_enter Try.func42, Try.ntmps42
    go_wp2
    go_ret
    exact ⟨rfl, 0, rfl⟩

end Go.Proofs.Ytaghpjlodlbmjaa.reader
