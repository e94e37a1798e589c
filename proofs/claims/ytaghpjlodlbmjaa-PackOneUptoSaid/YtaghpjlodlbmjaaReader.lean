/- The calls of package pack's Reader. -/
import Derived.Test.YtaghpjlodlbmjaaNumber
import Derived.Test.YtaghpjlodlbmjaaClone
namespace Go.Proofs.Ytaghpjlodlbmjaa.reader
open Go.RowKit Go.Proofs.Ytaghpjlodlbmjaa.sum Go.Proofs.Ytaghpjlodlbmjaa.kept Go.Proofs.Ytaghpjlodlbmjaa.app Go.Proofs.Ytaghpjlodlbmjaa.writer Go.Proofs.Ytaghpjlodlbmjaa.clone Go.Proofs.Ytaghpjlodlbmjaa.known Go.Proofs.Ytaghpjlodlbmjaa.unseal Go.Proofs.Ytaghpjlodlbmjaa.number
set_option linter.unusedVariables false

/-- A Reader at block p: its slice, its bytes, its place, what was wrong first. -/
structure Rd (w : World) (p : Nat) (v : Value) (bs : List UInt8) (at_ bad : Nat) : Prop where
  c0 : w.cell? ⟨p, 0, none⟩ = some v
  c1 : w.cell? ⟨p, 1, none⟩ = some (.int .i64 (at_ : Int))
  c2 : w.cell? ⟨p, 2, none⟩ = some (.int .i64 (bad : Int))
  warm : ∀ o, w.frozen? ⟨p, o, none⟩ = false
  reads : Bs w v bs
  shape : v = .slice none 0 0 ∨ ∃ b o n c, v = .slice (some ⟨b, o, none⟩) n c ∧ b ≠ p
  le : at_ ≤ bs.length
  short : bs.length ≤ 140737488355328

theorem Rd.kept {S : Nat → Prop} {w w' : World} {p : Nat} {v : Value} {bs : List UInt8} {at_ bad : Nat} (h : Rd w p v bs at_ bad) (hk : Kp S w w') (hp : ¬ S p) (hv : ∀ b o n c, v = .slice (some ⟨b, o, none⟩) n c → ¬ S b) : Rd w' p v bs at_ bad :=
  ⟨hk.cell' h.c0 hp, hk.cell' h.c1 hp, hk.cell' h.c2 hp, fun o => (hk.frozen (p := ⟨p, o, none⟩) (show p < w.heap.size from World.block_lt_of_cell? w ⟨p, 0, none⟩ h.c0) hp).trans (h.warm o), bs_kept h.reads hk hv, h.shape, h.le, h.short⟩

theorem Rd.drewN {w : World} {p : Nat} {v : Value} {bs : List UInt8} {at_ bad : Nat} (h : Rd w p v bs at_ bad) (n : Nat) : Rd (w.drewN n) p v bs at_ bad :=
  h.kept (S := No) ((Kp.refl No w).drewN n) id fun _ _ _ _ _ => id

theorem bs_empty (w : World) (a : Option Addr) (c : Nat) (hc : c ≤ maxLen) : Bs w (.slice a 0 c) [] := ⟨a, c, rfl, Nat.zero_le _, hc, fun h => absurd rfl h⟩

/-- What a call on a Reader leaves. -/
def RdPost (w : World) (p : Nat) (v : Value) (bs : List UInt8) (res : Value) (at_ bad : Nat) (e : Ending) (w' : World) : Prop :=
  e = .returned res ∧ Rd w' p v bs at_ bad ∧ Kp (fun k => k = p) w w'

set_option maxRecDepth 100000 in
set_option maxHeartbeats 1000000 in
theorem new_any (w : World) (v : Value) (bs : List UInt8) (h : Bs w v bs) (hl : bs.length ≤ 140737488355328) :
    Calls Try.prog 37 #[v] w fun e w' => ∃ p v', e = .returned (.pointer (some ⟨p, 0, none⟩)) ∧ w.heap.size ≤ p ∧ Rd w' p v' bs 0 0 ∧ Kp No w w' ∧ (∀ g, v'.ownBlock = some g → w.heap.size ≤ g) := by
  have H := Hid_mk h
  clear h
  go_enter Try.func37, Try.ntmps37
  go_wp2_with fail
  refine (clone_any w v bs H.out hl).mono ?_
  rintro e w1 ⟨v1, rfl, ho, hk⟩
  have HO := Hid_mk ho
  have HK := Hid_mk hk
  have hz := hk.size
  clear hk
  have fin : Rd (w1.alloc (.cells #[v1, .int .i64 0, .int .i64 0] 106)) w1.heap.size v1 bs 0 0 := by
    have hb := owns_bs ho
    refine ⟨by simp, by simp, by simp, fun o => by simp, bs_no hb ((Kp.refl No _).alloc _), ?_, Nat.zero_le _, hl⟩
    rcases owns_any ho with ⟨rfl, _⟩ | ⟨g, cap, rfl, h1, h2, _⟩
    · exact .inl rfl
    · exact .inr ⟨g, 0, _, cap, rfl, by omega⟩
  have HF := Hid_mk fin
  clear fin
  rcases owns_any ho with ⟨rfl, _⟩ | ⟨g, cap, rfl, h1, h2, _⟩
  · clear ho
    go_wp2
    go_ret
    exact ⟨_, _, rfl, hz, HF.out, HK.out.alloc _, fun g hg => (HO.out.lt g hg).1⟩
  · clear ho
    go_wp2
    go_ret
    exact ⟨_, _, rfl, hz, HF.out, HK.out.alloc _, fun g hg => (HO.out.lt g hg).1⟩

set_option maxRecDepth 100000 in
set_option maxHeartbeats 1000000 in
theorem left_any (w : World) (p : Nat) (v : Value) (bs : List UInt8) (at_ bad : Nat) (h : Rd w p v bs at_ bad) :
    Calls Try.prog 70 #[.pointer (some ⟨p, 0, none⟩)] w fun e w' => ∃ L n, e = .returned L ∧ Bs w' L (bs.drop at_) ∧ (∀ b o n c, L = .slice (some ⟨b, o, none⟩) n c → b ≠ p) ∧ w' = w.drewN n := by
  have c0 := h.c0
  have c1 := h.c1
  have hle := h.le
  rcases h.shape with rfl | ⟨b, o, n, c, rfl, hne⟩
  · obtain ⟨a, c, e, _, _, _⟩ := h.reads
    simp only [Value.slice.injEq] at e
    have hb0 : bs = [] := List.eq_nil_of_length_eq_zero e.2.1.symm
    subst hb0
    obtain rfl : at_ = 0 := by simpa using hle
    have hb := Hid_mk h.reads
    clear h e
    go_enter Try.func70, Try.ntmps70
    go_wp2
    go_quiet (fail)
    go_wp2
    go_ret
    exact ⟨_, _, rfl, bs_drewN _ hb.out, (fun _ _ _ _ e => by cases e), rfl⟩
  · have hn : n = bs.length := by obtain ⟨_, _, e, _⟩ := h.reads; simp only [Value.slice.injEq] at e; exact e.2.1
    subst hn
    have hcap : bs.length ≤ c := by obtain ⟨_, _, e, h1, _⟩ := h.reads; simp only [Value.slice.injEq] at e; rw [e.2.2]; exact h1
    have i1 : (at_ : Int) ≤ (bs.length : Int) := by omega
    have hb := Hid_mk h.reads
    clear h
    by_cases hc : c = at_
    · subst hc
      have hm : c ≤ maxLen := by obtain ⟨_, _, e, _, h2, _⟩ := hb.out; simp only [Value.slice.injEq] at e; rw [e.2.2]; exact h2
      go_enter Try.func70, Try.ntmps70
      go_wp2
      go_quiet (fail)
      go_wp2
      go_ret
      refine ⟨_, _, rfl, ?_, (fun _ _ _ _ e => by cases e; exact hne), rfl⟩
      rw [List.drop_of_length_le (by omega)]
      exact bs_empty _ _ _ (by omega)
    · have hd := bs_drop hb.out at_ hle (some ⟨b, o + at_, none⟩) (fun _ => rfl)
      have HD := Hid_mk hd
      clear hd
      go_enter Try.func70, Try.ntmps70
      go_wp2
      go_quiet (fail)
      go_wp2
      go_ret
      exact ⟨_, _, rfl, bs_drewN _ HD.out, (fun _ _ _ _ e => by cases e; exact hne), rfl⟩

theorem Rd.lt {w : World} {p : Nat} {v : Value} {bs : List UInt8} {at_ bad : Nat} (h : Rd w p v bs at_ bad) : p < w.heap.size := World.block_lt_of_cell? w ⟨p, 0, none⟩ h.c0

theorem Rd.set_bad {w : World} {p : Nat} {v : Value} {bs : List UInt8} {at_ bad : Nat} (h : Rd w p v bs at_ bad) (c : Nat) : Rd (w.setCell ⟨p, 2, none⟩ (.int .i64 (c : Int))) p v bs at_ c := by
  have hk : Kp (fun k => k = p) w (w.setCell ⟨p, 2, none⟩ (.int .i64 (c : Int))) := (Kp.refl (fun k => k = p) w).setCell (fun _ => rfl) _
  refine ⟨?_, ?_, World.cell?_setCell_same w _ _ h.c2, fun o => by rw [World.frozen?_setCell]; exact h.warm o, bs_kept h.reads hk ?_, h.shape, h.le, h.short⟩
  · rw [World.cell?_setCell_other w _ _ _ (by simp)]; exact h.c0
  · rw [World.cell?_setCell_other w _ _ _ (by simp)]; exact h.c1
  · intro b o n c e
    rcases h.shape with e2 | ⟨b', o', n', c', e2, hne⟩
    · rw [e] at e2; cases e2
    · rw [e] at e2; simp at e2; rw [e2.1.1]; exact hne
theorem Rd.set_at {w : World} {p : Nat} {v : Value} {bs : List UInt8} {at_ bad : Nat} (h : Rd w p v bs at_ bad) (c : Nat) (hc : c ≤ bs.length) : Rd (w.setCell ⟨p, 1, none⟩ (.int .i64 (c : Int))) p v bs c bad := by
  have hk : Kp (fun k => k = p) w (w.setCell ⟨p, 1, none⟩ (.int .i64 (c : Int))) := (Kp.refl (fun k => k = p) w).setCell (fun _ => rfl) _
  refine ⟨?_, World.cell?_setCell_same w _ _ h.c1, ?_, fun o => by rw [World.frozen?_setCell]; exact h.warm o, bs_kept h.reads hk ?_, h.shape, hc, h.short⟩
  · rw [World.cell?_setCell_other w _ _ _ (by simp)]; exact h.c0
  · rw [World.cell?_setCell_other w _ _ _ (by simp)]; exact h.c2
  · intro b o n c e
    rcases h.shape with e2 | ⟨b', o', n', c', e2, hne⟩
    · rw [e] at e2; cases e2
    · rw [e] at e2; simp at e2; rw [e2.1.1]; exact hne
theorem kp_set (w : World) (p o : Nat) (u : Value) : Kp (fun k => k = p) w (w.setCell ⟨p, o, none⟩ u) := (Kp.refl (fun k => k = p) w).setCell (fun _ => rfl) _

def rByte (bs : List UInt8) (at_ bad most : Nat) : Nat × Nat × Nat :=
  if bad ≠ 0 then (0, at_, bad)
  else if bs.drop at_ = [] then (0, at_, 10)
  else if most < ((bs.drop at_).getD 0 0).toNat then (0, at_, 12)
  else (((bs.drop at_).getD 0 0).toNat, at_ + 1, 0)

set_option maxRecDepth 100000 in
set_option maxHeartbeats 1000000 in
theorem byte_any (w : World) (p : Nat) (v : Value) (bs : List UInt8) (at_ bad most : Nat) (h : Rd w p v bs at_ bad) :
    Calls Try.prog 38 #[.pointer (some ⟨p, 0, none⟩), .int .u8 (most : Int)] w (RdPost w p v bs (.int .u8 ((rByte bs at_ bad most).1 : Int)) (rByte bs at_ bad most).2.1 (rByte bs at_ bad most).2.2) := by
  have c2 := h.c2
  have H := Hid_mk h
  by_cases hb : bad = 0
  · subst hb
    clear h
    go_enter Try.func38, Try.ntmps38
    go_wp2_with fail
    refine (left_any w p v bs at_ 0 H.out).mono ?_
    rintro e w0 ⟨L, nd, rfl, hL, hLp, hw0⟩
    have hR := H.out.drewN nd
    rw [← hw0] at hR
    have hK : Kp (fun k => k = p) w w0 := by rw [hw0]; exact (Kp.refl _ w).drewN nd
    have HR := Hid_mk hR
    have HK := Hid_mk hK
    have c2' := hR.c2
    have c1' := hR.c1
    have f2 := hR.warm 2
    have f1 := hR.warm 1
    obtain ⟨a, cap, rfl, hl, hm, hc⟩ := hL
    clear hw0 hR hK c2
    by_cases he : bs.drop at_ = []
    · have hl0 : (bs.drop at_).length = 0 := by rw [he]; rfl
      have hr : rByte bs at_ 0 most = (0, at_, 10) := by unfold rByte; rw [if_neg (by simp), if_pos he]
      rw [hl0]
      have HRes := Hid_mk hr
      clear hr hl hm hc he hl0 hLp
      go_wp2
      go_ret
      rw [HRes.out]
      exact ⟨rfl, HR.out.set_bad 10, HK.out.trans' (kp_set _ _ _ _)⟩
    · obtain ⟨b, o, rfl, hcell⟩ := hc he
      have hpos : 0 < (bs.drop at_).length := by rcases Nat.eq_zero_or_pos (bs.drop at_).length with h | h; exact absurd (List.eq_nil_of_length_eq_zero h) he; exact h
      have hbp : b ≠ p := hLp _ _ _ _ rfl
      have hx : w0.cell? ⟨b, o, none⟩ = some (.int .u8 (((bs.drop at_).getD 0 0).toNat : Int)) := hcell 0 hpos
      have hat : at_ + 1 ≤ bs.length := by rw [List.length_drop] at hpos; omega
      have hlm := H.out.short
      generalize hLen : (bs.drop at_).length = len at *
      generalize hd : ((bs.drop at_).getD 0 0).toNat = d at *
      have hposi : (0 : Int) < (len : Int) := by omega
      have hnz : ((len : Int) == 0) = false := by simp; omega
      clear hcell hc hLp
      by_cases hgt : most < d
      · have hr : rByte bs at_ 0 most = (0, at_, 12) := by unfold rByte; rw [if_neg (by simp), if_neg he, hd, if_pos hgt]
        have HRes := Hid_mk hr
        clear hr hl hm hLen hd he
        go_wp2
        go_ret
        rw [HRes.out]
        exact ⟨rfl, HR.out.set_bad 12, HK.out.trans' (kp_set _ _ _ _)⟩
      · have hr : rByte bs at_ 0 most = (d, at_ + 1, 0) := by unfold rByte; rw [if_neg (by simp), if_neg he, hd, if_neg hgt]
        have HRes := Hid_mk hr
        clear hr hl hm hLen hd he
        go_wp2
        go_ret
        rw [HRes.out]
        exact ⟨rfl, HR.out.set_at (at_ + 1) hat, HK.out.trans' (kp_set _ _ _ _)⟩
  · have hr : rByte bs at_ bad most = (0, at_, bad) := by unfold rByte; rw [if_pos hb]
    rw [hr]
    have hbz : ((bad : Int) == 0) = false := by simp; omega
    have hbz2 : ((bad : Int) != 0) = true := by simp; omega
    clear h hr
    go_enter Try.func38, Try.ntmps38
    go_wp2
    go_ret
    exact ⟨rfl, H.out, Kp.refl _ _⟩

end Go.Proofs.Ytaghpjlodlbmjaa.reader
