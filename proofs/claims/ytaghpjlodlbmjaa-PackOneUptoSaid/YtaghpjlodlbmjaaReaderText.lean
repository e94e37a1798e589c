/- Text of package pack's Reader. -/
import Derived.Test.YtaghpjlodlbmjaaReaderNum
namespace Go.Proofs.Ytaghpjlodlbmjaa.reader
open Go.RowKit Go.Proofs.Ytaghpjlodlbmjaa.sum Go.Proofs.Ytaghpjlodlbmjaa.kept Go.Proofs.Ytaghpjlodlbmjaa.app Go.Proofs.Ytaghpjlodlbmjaa.writer Go.Proofs.Ytaghpjlodlbmjaa.clone Go.Proofs.Ytaghpjlodlbmjaa.known Go.Proofs.Ytaghpjlodlbmjaa.unseal Go.Proofs.Ytaghpjlodlbmjaa.number
set_option linter.unusedVariables false

def rText (bs : List UInt8) (at_ bad most : Nat) : List UInt8 × Nat × Nat :=
  if (rNum bs at_ bad most).2.2 ≠ 0 then ([], (rNum bs at_ bad most).2.1, (rNum bs at_ bad most).2.2)
  else if (bs.drop (rNum bs at_ bad most).2.1).length < (rNum bs at_ bad most).1 then ([], at_, 10)
  else ((bs.drop (rNum bs at_ bad most).2.1).take (rNum bs at_ bad most).1, (rNum bs at_ bad most).2.1 + (rNum bs at_ bad most).1, 0)

theorem rNum_at (bs : List UInt8) (at_ bad most : Nat) (h : (rNum bs at_ bad most).2.2 ≠ 0) : (rNum bs at_ bad most).2.1 = at_ := by
  unfold rNum at h ⊢
  split
  · rfl
  · rename_i h1
    rw [if_neg h1] at h
    split
    · rfl
    · rename_i h2
      rw [if_neg h2] at h
      split
      · rfl
      · rename_i h3
        rw [if_neg h3] at h
        simp at h

set_option maxRecDepth 100000 in
set_option maxHeartbeats 2000000 in
theorem text_pos (w : World) (p : Nat) (v : Value) (bs : List UInt8) (at_ bad : Nat) (most : Nat) (hm64 : most < 9223372036854775808) (h : Rd w p v bs at_ bad) :
    Calls Try.prog 41 #[.pointer (some ⟨p, 0, none⟩), .int .i64 (most : Int)] w (RdPost w p v bs (.string ⟨(rText bs at_ bad most).1.toArray⟩) (rText bs at_ bad most).2.1 (rText bs at_ bad most).2.2) := by
  have c1 := h.c1
  have hle := h.le
  have hshort := h.short
  have H := Hid_mk h
  have HWr := Hid_mk (wrap_u64 (most : Int) (by omega) (by omega))
  clear hm64
  clear h
  go_enter Try.func41, Try.ntmps41
  go_wp2_with fail
  rw [HWr.out]; refine (num_any w p v bs at_ bad most H.out).mono ?_
  rintro e w1 ⟨rfl, hR1, hK1⟩
  have HR1 := Hid_mk hR1
  have HK1 := Hid_mk hK1
  have hra := rNum_at bs at_ bad most
  clear hR1 hK1 c1
  generalize hD : rNum bs at_ bad most = D at *
  have HD := Hid_mk hD
  clear hD
  obtain ⟨n, a1, b1⟩ := D
  have c2 := HR1.out.c2
  by_cases hb1 : b1 = 0
  · subst hb1
    go_wp2_with fail
    refine (left_any w1 p v bs a1 0 HR1.out).mono ?_
    rintro e w2 ⟨L, nd, rfl, hL, hLp, hw2⟩
    have hR2 := HR1.out.drewN nd
    rw [← hw2] at hR2
    have hK2 : Kp (fun k => k = p) w w2 := by rw [hw2]; exact HK1.out.drewN nd
    have HR2 := Hid_mk hR2
    have HK2 := Hid_mk hK2
    have c1' := hR2.c1
    have c2' := hR2.c2
    have f1 := hR2.warm 1
    have f2 := hR2.warm 2
    have hle2 : a1 ≤ bs.length := hR2.le
    have HL := Hid_mk hL
    obtain ⟨a, cap, rfl, hl, hm, hc⟩ := hL
    have hlen : (bs.drop a1).length = bs.length - a1 := List.length_drop
    have HLen := Hid_mk hlen
    rw [hlen] at hl HL ⊢
    unfold maxLen at hm
    have i1 : IntKind.u64.wrap ((bs.length - a1 : Nat) : Int) = ((bs.length - a1 : Nat) : Int) := wrap_u64 _ (by omega) (by omega)
    clear hw2 hR2 hK2 c2 hra hlen
    by_cases hgt : bs.length - a1 < n
    · have hr : rText bs at_ bad most = ([], at_, 10) := by
        unfold rText
        rw [HD.out, if_neg (by simp)]
        simp only
        rw [if_pos (by rw [HLen.out]; exact hgt)]
      have HRes := Hid_mk hr
      have hgi : ((bs.length - a1 : Nat) : Int) < (n : Int) := by omega
      generalize bs.length - a1 = len at *
      clear hr hl hm hc hLp
      go_wp2
      go_ret
      rw [HRes.out]
      exact ⟨rfl, (HR2.out.set_bad 10).set_at at_ hle, (HK2.out.trans' (kp_set _ _ _ _)).trans' (kp_set _ _ _ _)⟩
    · have hr : rText bs at_ bad most = ((bs.drop a1).take n, a1 + n, 0) := by
        unfold rText
        rw [HD.out, if_neg (by simp)]
        simp only
        rw [if_neg (by rw [HLen.out]; exact hgt)]
      have HRes := Hid_mk hr
      have hgi : decide (((bs.length - a1 : Nat) : Int) < (n : Int)) = false := decide_eq_false (by omega)
      have ha1 : a1 + n ≤ bs.length := by omega
      have HA := Hid_mk ha1
      have i2 : IntKind.i64.wrap (n : Int) = (n : Int) := IntWalk.i64_in _ (by omega)
      have hT := bs_take HL.out n (by omega)
      have hsh : ∀ b o, a = some ⟨b, o, none⟩ → b ≠ p := fun b o e => hLp b o _ cap (by rw [e])
      have hT2 : Bs (w2.setCell ⟨p, 1, none⟩ (.int .i64 ((a1 : Int) + n))) (.slice a n cap) ((bs.drop a1).take n) := bs_kept hT (kp_set w2 p 1 _) fun b o n' c' e => by simp only [Value.slice.injEq] at e; exact hsh b o e.1
      have hconv := conv_bs hT2
      have i3 : (n : Int) ≤ (cap : Int) := by omega
      have hai : a1 + n ≤ 140737488355328 := by omega
      have HAt := Hid_mk (HR2.out.set_at (a1 + n) ha1)
      generalize bs.length - a1 = len at *
      clear hr hl hm hT hT2 hc hsh hLp ha1
      go_wp2
      go_ret
      rw [HRes.out]
      exact ⟨rfl, HAt.out, HK2.out.trans' (kp_set _ _ _ _)⟩
  · have ha : a1 = at_ := hra hb1
    subst ha
    have hr : rText bs a1 bad most = ([], a1, b1) := by
      unfold rText
      rw [HD.out, if_pos hb1]
    have HRes := Hid_mk hr
    have hwz : ((b1 : Int) == 0) = false := by simp; omega
    have hwz2 : ((b1 : Int) != 0) = true := by simp; omega
    clear hr hra hb1
    go_wp2
    go_ret
    rw [HRes.out]
    exact ⟨rfl, HR1.out, HK1.out⟩

set_option maxRecDepth 100000 in
set_option maxHeartbeats 2000000 in
theorem text_neg (w : World) (p : Nat) (v : Value) (bs : List UInt8) (at_ bad : Nat) (mi : Int) (hmi : mi < 0) (h : Rd w p v bs at_ bad) :
    Calls Try.prog 41 #[.pointer (some ⟨p, 0, none⟩), .int .i64 mi] w (RdPost w p v bs (.string ⟨(rText bs at_ bad 0).1.toArray⟩) (rText bs at_ bad 0).2.1 (rText bs at_ bad 0).2.2) := by
  have c1 := h.c1
  have hle := h.le
  have hshort := h.short
  have H := Hid_mk h
  clear h
  go_enter Try.func41, Try.ntmps41
  go_wp2_with fail
  refine (num_any w p v bs at_ bad 0 H.out).mono ?_
  rintro e w1 ⟨rfl, hR1, hK1⟩
  have HR1 := Hid_mk hR1
  have HK1 := Hid_mk hK1
  have hra := rNum_at bs at_ bad 0
  clear hR1 hK1 c1
  generalize hD : rNum bs at_ bad 0 = D at *
  have HD := Hid_mk hD
  clear hD
  obtain ⟨n, a1, b1⟩ := D
  have c2 := HR1.out.c2
  by_cases hb1 : b1 = 0
  · subst hb1
    go_wp2_with fail
    refine (left_any w1 p v bs a1 0 HR1.out).mono ?_
    rintro e w2 ⟨L, nd, rfl, hL, hLp, hw2⟩
    have hR2 := HR1.out.drewN nd
    rw [← hw2] at hR2
    have hK2 : Kp (fun k => k = p) w w2 := by rw [hw2]; exact HK1.out.drewN nd
    have HR2 := Hid_mk hR2
    have HK2 := Hid_mk hK2
    have c1' := hR2.c1
    have c2' := hR2.c2
    have f1 := hR2.warm 1
    have f2 := hR2.warm 2
    have hle2 : a1 ≤ bs.length := hR2.le
    have HL := Hid_mk hL
    obtain ⟨a, cap, rfl, hl, hm, hc⟩ := hL
    have hlen : (bs.drop a1).length = bs.length - a1 := List.length_drop
    have HLen := Hid_mk hlen
    rw [hlen] at hl HL ⊢
    unfold maxLen at hm
    have i1 : IntKind.u64.wrap ((bs.length - a1 : Nat) : Int) = ((bs.length - a1 : Nat) : Int) := wrap_u64 _ (by omega) (by omega)
    clear hw2 hR2 hK2 c2 hra hlen
    by_cases hgt : bs.length - a1 < n
    · have hr : rText bs at_ bad 0 = ([], at_, 10) := by
        unfold rText
        rw [HD.out, if_neg (by simp)]
        simp only
        rw [if_pos (by rw [HLen.out]; exact hgt)]
      have HRes := Hid_mk hr
      have hgi : ((bs.length - a1 : Nat) : Int) < (n : Int) := by omega
      generalize bs.length - a1 = len at *
      clear hr hl hm hc hLp
      go_wp2
      go_ret
      rw [HRes.out]
      exact ⟨rfl, (HR2.out.set_bad 10).set_at at_ hle, (HK2.out.trans' (kp_set _ _ _ _)).trans' (kp_set _ _ _ _)⟩
    · have hr : rText bs at_ bad 0 = ((bs.drop a1).take n, a1 + n, 0) := by
        unfold rText
        rw [HD.out, if_neg (by simp)]
        simp only
        rw [if_neg (by rw [HLen.out]; exact hgt)]
      have HRes := Hid_mk hr
      have hgi : decide (((bs.length - a1 : Nat) : Int) < (n : Int)) = false := decide_eq_false (by omega)
      have ha1 : a1 + n ≤ bs.length := by omega
      have HA := Hid_mk ha1
      have i2 : IntKind.i64.wrap (n : Int) = (n : Int) := IntWalk.i64_in _ (by omega)
      have hT := bs_take HL.out n (by omega)
      have hsh : ∀ b o, a = some ⟨b, o, none⟩ → b ≠ p := fun b o e => hLp b o _ cap (by rw [e])
      have hT2 : Bs (w2.setCell ⟨p, 1, none⟩ (.int .i64 ((a1 : Int) + n))) (.slice a n cap) ((bs.drop a1).take n) := bs_kept hT (kp_set w2 p 1 _) fun b o n' c' e => by simp only [Value.slice.injEq] at e; exact hsh b o e.1
      have hconv := conv_bs hT2
      have i3 : (n : Int) ≤ (cap : Int) := by omega
      have hai : a1 + n ≤ 140737488355328 := by omega
      have HAt := Hid_mk (HR2.out.set_at (a1 + n) ha1)
      generalize bs.length - a1 = len at *
      clear hr hl hm hT hT2 hc hsh hLp ha1
      go_wp2
      go_ret
      rw [HRes.out]
      exact ⟨rfl, HAt.out, HK2.out.trans' (kp_set _ _ _ _)⟩
  · have ha : a1 = at_ := hra hb1
    subst ha
    have hr : rText bs a1 bad 0 = ([], a1, b1) := by
      unfold rText
      rw [HD.out, if_pos hb1]
    have HRes := Hid_mk hr
    have hwz : ((b1 : Int) == 0) = false := by simp; omega
    have hwz2 : ((b1 : Int) != 0) = true := by simp; omega
    clear hr hra hb1
    go_wp2
    go_ret
    rw [HRes.out]
    exact ⟨rfl, HR1.out, HK1.out⟩

theorem text_any (w : World) (p : Nat) (v : Value) (bs : List UInt8) (at_ bad : Nat) (mi : Int) (hm64 : mi < 9223372036854775808) (h : Rd w p v bs at_ bad) :
    Calls Try.prog 41 #[.pointer (some ⟨p, 0, none⟩), .int .i64 mi] w (RdPost w p v bs (.string ⟨(rText bs at_ bad mi.toNat).1.toArray⟩) (rText bs at_ bad mi.toNat).2.1 (rText bs at_ bad mi.toNat).2.2) := by
  by_cases h0 : mi < 0
  · rw [show mi.toNat = 0 by omega]
    exact text_neg w p v bs at_ bad mi h0 h
  · have e : ((mi.toNat : Nat) : Int) = mi := by omega
    have := text_pos w p v bs at_ bad mi.toNat (by omega) h
    rwa [e] at this

end Go.Proofs.Ytaghpjlodlbmjaa.reader
