/- package pack's number: the number that bytes begin with. The calls of package pack's Reader. Num and End of package pack's Reader. Text of package pack's Reader. Floats as eight bytes: package pack's Writer.Float, the reference's Float. Float of package pack's Reader. -/
import Derived.Test.YtpfpnlhihnfahaaDoorFloorM

namespace Go.Proofs.YtpfpnlhihnfahaaDoor.number
open Go.RowKit Go.Proofs.YtpfpnlhihnfahaaDoor.sum Go.Proofs.YtpfpnlhihnfahaaDoor.kept Go.Proofs.YtpfpnlhihnfahaaDoor.writer Go.Proofs.YtpfpnlhihnfahaaDoor.unseal
set_option linter.unusedVariables false

/-- From digit i on, with n of the digits before: the number, how many digits, what is wrong. -/
def dig (i n : Nat) : List UInt8 → Nat × Nat × Nat
  | [] => (0, 0, 10)
  | d :: r =>
    if i = 9 ∧ 1 < d.toNat then (0, 0, 11)
    else if 128 ≤ d.toNat then dig (i + 1) (n + d.toNat % 128 * 128 ^ i) r
    else if d.toNat = 0 ∧ 0 < i then (0, 0, 11)
    else (n + d.toNat % 128 * 128 ^ i, i + 1, 0)

theorem dig_cut {n : Nat} {d : UInt8} {r : List UInt8} (h : 1 < d.toNat) : dig 9 n (d :: r) = (0, 0, 11) := by
  rw [dig]; rw [if_pos ⟨rfl, h⟩]
theorem dig_on {i n : Nat} {d : UInt8} {r : List UInt8} (h : ¬ (i = 9 ∧ 1 < d.toNat)) (h2 : 128 ≤ d.toNat) : dig i n (d :: r) = dig (i + 1) (n + d.toNat % 128 * 128 ^ i) r := by
  rw [dig]; rw [if_neg h, if_pos h2]
theorem dig_zero {i n : Nat} {d : UInt8} {r : List UInt8} (h2 : d.toNat = 0) (h3 : 0 < i) : dig i n (d :: r) = (0, 0, 11) := by
  rw [dig]; rw [if_neg (by omega), if_neg (by omega), if_pos ⟨h2, h3⟩]
theorem dig_end {i n : Nat} {d : UInt8} {r : List UInt8} (h : ¬ (i = 9 ∧ 1 < d.toNat)) (h2 : ¬ 128 ≤ d.toNat) (h3 : ¬ (d.toNat = 0 ∧ 0 < i)) : dig i n (d :: r) = (n + d.toNat % 128 * 128 ^ i, i + 1, 0) := by
  rw [dig]; rw [if_neg h, if_neg h2, if_neg h3]
theorem dig_nil (i n : Nat) : dig i n [] = (0, 0, 10) := rfl

def tup (r : Nat × Nat × Nat) : Value := .tuple #[.int .u64 (r.1 : Int), .int .i64 (r.2.1 : Int), .int .i64 (r.2.2 : Int)]

theorem tup_mk {a b : Int} {n s : Nat} (h1 : a = n) (h2 : b = s) : Ending.returned (.tuple #[.int .u64 a, .int .i64 b, .int .i64 0]) = .returned (tup (n, s, 0)) := by subst h1 h2; rfl

theorem andNot_fin : ∀ k : Fin 256, bits .andNot .u8 ((k.val : Nat) : Int) 128 = ((k.val % 128 : Nat) : Int) := by decide +kernel
theorem andNot128 (d : UInt8) : bits .andNot .u8 (d.toNat : Int) 128 = ((d.toNat % 128 : Nat) : Int) := andNot_fin ⟨d.toNat, UInt8.toNat_lt d⟩

theorem pow_le9 {i : Nat} (h : i ≤ 9) : 128 ^ i ≤ 9223372036854775808 := by
  have : 128 ^ i ≤ 128 ^ 9 := Nat.pow_le_pow_right (by omega) h
  have e : 128 ^ 9 = 9223372036854775808 := by decide
  omega

theorem pow128 (i : Nat) : (128 : Nat) ^ i = 2 ^ (7 * i) := by rw [show 128 = 2 ^ 7 by decide, ← Nat.pow_mul]

theorem dig_lt {d i : Nat} (hd : d < 128) (hi : i ≤ 9) (h9 : i = 9 → d ≤ 1) : d * 128 ^ i < 18446744073709551616 := by
  by_cases h : i = 9
  · subst h
    have := h9 rfl
    have e : 128 ^ 9 = 9223372036854775808 := by decide
    rw [e]
    omega
  · have : 128 ^ i ≤ 128 ^ 8 := Nat.pow_le_pow_right (by omega) (by omega)
    have e : 128 ^ 8 = 72057594037927936 := by decide
    have h2 : d * 128 ^ i ≤ 127 * 128 ^ 8 := Nat.mul_le_mul (by omega) this
    omega

theorem wrap_u64 (z : Int) (h : 0 ≤ z) (h2 : z < 18446744073709551616) : IntKind.u64.wrap z = z := by
  simp only [IntKind.wrap, IntKind.bits, IntKind.signed]
  simp
  omega

/-- a digit more -/
theorem or_dig (n i : Nat) (d : UInt8) (hn : n < 128 ^ i) (hi : i ≤ 9) (h9 : i = 9 → d.toNat ≤ 1) :
    bits .or .u64 (n : Int) (IntKind.u64.wrap ((d.toNat : Int) % 128 * 2 ^ (7 * i))) = ((n + d.toNat % 128 * 128 ^ i : Nat) : Int) := by
  have hp := pow_le9 hi
  have hlt := dig_lt (d := d.toNat % 128) (by omega) hi (by intro h; have := h9 h; omega)
  have e0 : (d.toNat : Int) % 128 * 2 ^ (7 * i) = ((d.toNat % 128 * 128 ^ i : Nat) : Int) := by
    rw [pow128]; simp
  rw [e0, wrap_u64 _ (by omega) (by omega), u64_or_nat _ _ (by omega) hlt]
  rw [Nat.or_comm, nat_join (7 * i) (d.toNat % 128 * 128 ^ i) n (by rw [pow128, Nat.mul_mod_left]) (by rw [← pow128]; exact hn), Nat.add_comm]

theorem dig_next {n i : Nat} {d : Nat} (hn : n < 128 ^ i) (hd : d < 128) : n + d * 128 ^ i < 128 ^ (i + 1) := by
  rw [Nat.pow_succ]
  have : d * 128 ^ i ≤ 127 * 128 ^ i := Nat.mul_le_mul_right _ (by omega)
  omega

set_option maxRecDepth 100000 in
set_option maxHeartbeats 1000000 in
theorem number_any (w : World) (v : Value) (bs : List UInt8) (h : Bs w v bs) :
    Calls Tryd.prog 66 #[v] w fun e w' => e = .returned (tup (dig 0 0 bs)) ∧ w = w' := by
  obtain ⟨a, cap, rfl, hl, hm, hc⟩ := h
  unfold maxLen at hm
  go_enter Tryd.func66, Tryd.ntmps66
  go_wp2
  go_loop [2, 9] (fun n i => ∃ k N : Nat, k ≤ bs.length ∧ k ≤ 9 ∧ i = .int .i64 k ∧ n = .int .u64 N ∧ N < 128 ^ k ∧ dig k N (bs.drop k) = dig 0 0 bs) (fun _ i => bs.length - (intOf i).toNat)
  case atStart => exact ⟨0, 0, Nat.zero_le _, by omega, rfl, rfl, by simp, rfl⟩
  case round =>
    obtain ⟨k, N, hk, hk9, rfl, rfl, hN, hdig⟩ := hrel
    have HN := Hid_mk hN
    have HDig := Hid_mk hdig
    clear hN hdig
    by_cases hlt : k < bs.length
    · obtain ⟨b, o, rfl, hcell⟩ := hc (by intro e; subst e; simp at hlt)
      have hx : w.cell? ⟨b, o + k, none⟩ = some (.int .u8 ((bs.getD k 0).toNat : Int)) := hcell k hlt
      have hd0 : bs.drop k = bs.getD k 0 :: bs.drop (k + 1) := by rw [List.drop_eq_getElem_cons hlt]; simp [List.getD, hlt]
      have HDrop := Hid_mk hd0
      have hxb : (bs.getD k 0).toNat < 256 := UInt8.toNat_lt _
      generalize bs.getD k 0 = d at *
      have hand := andNot128 d
      clear hcell hc hd0
      by_cases h9 : k = 9 ∧ 1 < d.toNat
      · obtain ⟨rfl, h1⟩ := h9
        have h1i : (1 : Int) < (d.toNat : Int) := by omega
        go_wp2
        refine bodyPost_ret (results_tmp3 rfl _ _ _) rfl ?_
        refine ⟨?_, rfl⟩
        have e : dig 0 0 bs = (0, 0, 11) := by rw [← HDig.out, HDrop.out, dig_cut h1]
        rw [e]
        rfl
      · by_cases hbig : 128 ≤ d.toNat
        · have hk8 : k ≤ 8 := by omega
          have hk9' : ((k : Int) == 9) = false := by simp; omega
          have hbi : (128 : Int) ≤ (d.toNat : Int) := by omega
          go_wp2
          rw [or_dig N k d HN.out hk9 (by omega)]
          go_round
          case rel => exact ⟨k + 1, _, by omega, by omega, by go_num, rfl, dig_next HN.out (by omega), by rw [← HDig.out, HDrop.out, dig_on h9 hbig]⟩
          case measure => simp [intOf]; omega
        · have hbi : ¬ (128 : Int) ≤ (d.toNat : Int) := by omega
          by_cases hz : d.toNat = 0 ∧ 0 < k
          · have hz1 : ((d.toNat : Int) == 0) = true := by simp; omega
            have hz2 : (0 : Int) < (k : Int) := by omega
            have e : dig 0 0 bs = (0, 0, 11) := by rw [← HDig.out, HDrop.out, dig_zero hz.1 hz.2]
            have HE := Hid_mk e
            clear e
            by_cases hk9' : k = 9
            · subst hk9'
              have h1i : ¬ (1 : Int) < (d.toNat : Int) := by omega
              have hd1 : decide ((1 : Int) < (d.toNat : Int)) = false := decide_eq_false h1i
              go_wp2
              refine bodyPost_ret (results_tmp3 rfl _ _ _) rfl ?_
              rw [HE.out]
              exact ⟨rfl, rfl⟩
            · have hk9'' : ((k : Int) == 9) = false := by simp; omega
              go_wp2
              refine bodyPost_ret (results_tmp3 rfl _ _ _) rfl ?_
              rw [HE.out]
              exact ⟨rfl, rfl⟩
          · have e : dig 0 0 bs = (N + d.toNat % 128 * 128 ^ k, k + 1, 0) := by rw [← HDig.out, HDrop.out, dig_end h9 hbig hz]
            have hor := or_dig N k d HN.out hk9 (by omega)
            have HOr := Hid_mk hor
            have HE := Hid_mk e
            clear e hor
            have hcase : (((d.toNat : Int) == 0) = false) ∨ (k = 0) := by
              by_cases h0 : d.toNat = 0
              · right; omega
              · left; simp; omega
            rcases hcase with hz1 | rfl
            · by_cases hk9' : k = 9
              · subst hk9'
                have hd1 : decide ((1 : Int) < (d.toNat : Int)) = false := decide_eq_false (by omega)
                clear hz h9
                go_wp2
                refine bodyPost_ret (results_tmp3 rfl _ _ _) rfl ?_
                rw [HE.out]
                have h := HOr.out
                rw [show ((2 : Int) ^ (7 * 9)) = 9223372036854775808 from by decide] at h
                exact ⟨tup_mk h rfl, rfl⟩
              · have hk9'' : ((k : Int) == 9) = false := by simp; omega
                clear hz h9
                go_wp2
                refine bodyPost_ret (results_tmp3 rfl _ _ _) rfl ?_
                rw [HE.out]
                exact ⟨tup_mk HOr.out (by omega), rfl⟩
            · have hx0 : w.cell? ⟨b, o, none⟩ = some (.int .u8 (d.toNat : Int)) := by simpa using hx
              obtain rfl : N = 0 := by have := HN.out; simp at this; omega
              clear hz h9 hx
              go_wp2
              all_goals
                refine bodyPost_ret (results_tmp3 rfl _ _ _) rfl ?_
                rw [HE.out]
                refine ⟨tup_mk ?_ rfl, rfl⟩
                have h := HOr.out
                simp only [Nat.mul_zero, Int.pow_zero, Int.mul_one] at h
                rw [wrap_u64 _ (by omega) (by omega)] at h
                first
                  | exact h
                  | (have h0 : d.toNat = 0 := by assumption
                     rw [h0]; decide)
    · go_wp2
      refine bodyPost_ret (results_tmp3 rfl _ _ _) rfl ?_
      refine ⟨?_, rfl⟩
      have e : dig 0 0 bs = (0, 0, 10) := by rw [← HDig.out, List.drop_of_length_le (by omega), dig_nil]
      rw [e]
      rfl

end Go.Proofs.YtpfpnlhihnfahaaDoor.number

namespace Go.Proofs.YtpfpnlhihnfahaaDoor.reader
open Go.RowKit Go.Proofs.YtpfpnlhihnfahaaDoor.sum Go.Proofs.YtpfpnlhihnfahaaDoor.kept Go.Proofs.YtpfpnlhihnfahaaDoor.app Go.Proofs.YtpfpnlhihnfahaaDoor.writer Go.Proofs.YtpfpnlhihnfahaaDoor.clone Go.Proofs.YtpfpnlhihnfahaaDoor.known Go.Proofs.YtpfpnlhihnfahaaDoor.unseal Go.Proofs.YtpfpnlhihnfahaaDoor.number
set_option linter.unusedVariables false

/-- A Reader at block p: its slice, its bytes, its place, what was wrong first. -/
structure Rd (w : World) (p : Nat) (v : Value) (bs : List UInt8) (at_ bad : Nat) : Prop where
  c0 : w.cell? ⟨p, 0, none⟩ = some v
  c1 : w.cell? ⟨p, 1, none⟩ = some (.int .i64 (at_ : Int))
  c2 : w.cell? ⟨p, 2, none⟩ = some (.int .i64 (bad : Int))
  warm : ∀ o, w.frozen? ⟨p, o, none⟩ = false
  reads : Bs w v bs
  shape : v = .slice none 0 0 ∨ ∃ b o n c, v = .slice (some ⟨b, o, none⟩) n c ∧ b ≠ p
  le : at_ ≤ bs.length
  short : bs.length ≤ 140737488355328

theorem Rd.kept {S : Nat → Prop} {w w' : World} {p : Nat} {v : Value} {bs : List UInt8} {at_ bad : Nat} (h : Rd w p v bs at_ bad) (hk : Kp S w w') (hp : ¬ S p) (hv : ∀ b o n c, v = .slice (some ⟨b, o, none⟩) n c → ¬ S b) : Rd w' p v bs at_ bad :=
  ⟨hk.cell' h.c0 hp, hk.cell' h.c1 hp, hk.cell' h.c2 hp, fun o => (hk.frozen (p := ⟨p, o, none⟩) (show p < w.heap.size from World.block_lt_of_cell? w ⟨p, 0, none⟩ h.c0) hp).trans (h.warm o), bs_kept h.reads hk hv, h.shape, h.le, h.short⟩

theorem Rd.drewN {w : World} {p : Nat} {v : Value} {bs : List UInt8} {at_ bad : Nat} (h : Rd w p v bs at_ bad) (n : Nat) : Rd (w.drewN n) p v bs at_ bad :=
  h.kept (S := No) ((Kp.refl No w).drewN n) id fun _ _ _ _ _ => id

theorem bs_empty (w : World) (a : Option Addr) (c : Nat) (hc : c ≤ maxLen) : Bs w (.slice a 0 c) [] := ⟨a, c, rfl, Nat.zero_le _, hc, fun h => absurd rfl h⟩

/-- What a call on a Reader leaves. -/
def RdPost (w : World) (p : Nat) (v : Value) (bs : List UInt8) (res : Value) (at_ bad : Nat) (e : Ending) (w' : World) : Prop :=
  e = .returned res ∧ Rd w' p v bs at_ bad ∧ Kp (fun k => k = p) w w'

set_option maxRecDepth 100000 in
set_option maxHeartbeats 1000000 in
theorem new_any (w : World) (v : Value) (bs : List UInt8) (h : Bs w v bs) (hl : bs.length ≤ 140737488355328) :
    Calls Tryd.prog 22 #[v] w fun e w' => ∃ p v', e = .returned (.pointer (some ⟨p, 0, none⟩)) ∧ w.heap.size ≤ p ∧ Rd w' p v' bs 0 0 ∧ Kp No w w' ∧ (∀ g, v'.ownBlock = some g → w.heap.size ≤ g) := by
  have H := Hid_mk h
  clear h
  go_enter Tryd.func22, Tryd.ntmps22
  go_wp2_with fail
  refine (clone_any w v bs H.out hl).mono ?_
  rintro e w1 ⟨v1, rfl, ho, hk⟩
  have HO := Hid_mk ho
  have HK := Hid_mk hk
  have hz := hk.size
  clear hk
  have fin : Rd (w1.alloc (.cells #[v1, .int .i64 0, .int .i64 0] 79)) w1.heap.size v1 bs 0 0 := by
    have hb := owns_bs ho
    refine ⟨by simp, by simp, by simp, fun o => by simp, bs_no hb ((Kp.refl No _).alloc _), ?_, Nat.zero_le _, hl⟩
    rcases owns_any ho with ⟨rfl, _⟩ | ⟨g, cap, rfl, h1, h2, _⟩
    · exact .inl rfl
    · exact .inr ⟨g, 0, _, cap, rfl, by omega⟩
  have HF := Hid_mk fin
  clear fin
  rcases owns_any ho with ⟨rfl, _⟩ | ⟨g, cap, rfl, h1, h2, _⟩
  · clear ho
    go_wp2
    go_ret
    exact ⟨_, _, rfl, hz, HF.out, HK.out.alloc _, fun g hg => (HO.out.lt g hg).1⟩
  · clear ho
    go_wp2
    go_ret
    exact ⟨_, _, rfl, hz, HF.out, HK.out.alloc _, fun g hg => (HO.out.lt g hg).1⟩

set_option maxRecDepth 100000 in
set_option maxHeartbeats 1000000 in
theorem left_any (w : World) (p : Nat) (v : Value) (bs : List UInt8) (at_ bad : Nat) (h : Rd w p v bs at_ bad) :
    Calls Tryd.prog 45 #[.pointer (some ⟨p, 0, none⟩)] w fun e w' => ∃ L n, e = .returned L ∧ Bs w' L (bs.drop at_) ∧ (∀ b o n c, L = .slice (some ⟨b, o, none⟩) n c → b ≠ p) ∧ w' = w.drewN n := by
  have c0 := h.c0
  have c1 := h.c1
  have hle := h.le
  rcases h.shape with rfl | ⟨b, o, n, c, rfl, hne⟩
  · obtain ⟨a, c, e, _, _, _⟩ := h.reads
    simp only [Value.slice.injEq] at e
    have hb0 : bs = [] := List.eq_nil_of_length_eq_zero e.2.1.symm
    subst hb0
    obtain rfl : at_ = 0 := by simpa using hle
    have hb := Hid_mk h.reads
    clear h e
    go_enter Tryd.func45, Tryd.ntmps45
    go_wp2
    go_quiet (fail)
    go_wp2
    go_ret
    exact ⟨_, _, rfl, bs_drewN _ hb.out, (fun _ _ _ _ e => by cases e), rfl⟩
  · have hn : n = bs.length := by obtain ⟨_, _, e, _⟩ := h.reads; simp only [Value.slice.injEq] at e; exact e.2.1
    subst hn
    have hcap : bs.length ≤ c := by obtain ⟨_, _, e, h1, _⟩ := h.reads; simp only [Value.slice.injEq] at e; rw [e.2.2]; exact h1
    have i1 : (at_ : Int) ≤ (bs.length : Int) := by omega
    have hb := Hid_mk h.reads
    clear h
    by_cases hc : c = at_
    · subst hc
      have hm : c ≤ maxLen := by obtain ⟨_, _, e, _, h2, _⟩ := hb.out; simp only [Value.slice.injEq] at e; rw [e.2.2]; exact h2
      go_enter Tryd.func45, Tryd.ntmps45
      go_wp2
      go_quiet (fail)
      go_wp2
      go_ret
      refine ⟨_, _, rfl, ?_, (fun _ _ _ _ e => by cases e; exact hne), rfl⟩
      rw [List.drop_of_length_le (by omega)]
      exact bs_empty _ _ _ (by omega)
    · have hd := bs_drop hb.out at_ hle (some ⟨b, o + at_, none⟩) (fun _ => rfl)
      have HD := Hid_mk hd
      clear hd
      go_enter Tryd.func45, Tryd.ntmps45
      go_wp2
      go_quiet (fail)
      go_wp2
      go_ret
      exact ⟨_, _, rfl, bs_drewN _ HD.out, (fun _ _ _ _ e => by cases e; exact hne), rfl⟩

theorem Rd.lt {w : World} {p : Nat} {v : Value} {bs : List UInt8} {at_ bad : Nat} (h : Rd w p v bs at_ bad) : p < w.heap.size := World.block_lt_of_cell? w ⟨p, 0, none⟩ h.c0

theorem Rd.set_bad {w : World} {p : Nat} {v : Value} {bs : List UInt8} {at_ bad : Nat} (h : Rd w p v bs at_ bad) (c : Nat) : Rd (w.setCell ⟨p, 2, none⟩ (.int .i64 (c : Int))) p v bs at_ c := by
  have hk : Kp (fun k => k = p) w (w.setCell ⟨p, 2, none⟩ (.int .i64 (c : Int))) := (Kp.refl (fun k => k = p) w).setCell (fun _ => rfl) _
  refine ⟨?_, ?_, World.cell?_setCell_same w _ _ h.c2, fun o => by rw [World.frozen?_setCell]; exact h.warm o, bs_kept h.reads hk ?_, h.shape, h.le, h.short⟩
  · rw [World.cell?_setCell_other w _ _ _ (by simp)]; exact h.c0
  · rw [World.cell?_setCell_other w _ _ _ (by simp)]; exact h.c1
  · intro b o n c e
    rcases h.shape with e2 | ⟨b', o', n', c', e2, hne⟩
    · rw [e] at e2; cases e2
    · rw [e] at e2; simp at e2; rw [e2.1.1]; exact hne
theorem Rd.set_at {w : World} {p : Nat} {v : Value} {bs : List UInt8} {at_ bad : Nat} (h : Rd w p v bs at_ bad) (c : Nat) (hc : c ≤ bs.length) : Rd (w.setCell ⟨p, 1, none⟩ (.int .i64 (c : Int))) p v bs c bad := by
  have hk : Kp (fun k => k = p) w (w.setCell ⟨p, 1, none⟩ (.int .i64 (c : Int))) := (Kp.refl (fun k => k = p) w).setCell (fun _ => rfl) _
  refine ⟨?_, World.cell?_setCell_same w _ _ h.c1, ?_, fun o => by rw [World.frozen?_setCell]; exact h.warm o, bs_kept h.reads hk ?_, h.shape, hc, h.short⟩
  · rw [World.cell?_setCell_other w _ _ _ (by simp)]; exact h.c0
  · rw [World.cell?_setCell_other w _ _ _ (by simp)]; exact h.c2
  · intro b o n c e
    rcases h.shape with e2 | ⟨b', o', n', c', e2, hne⟩
    · rw [e] at e2; cases e2
    · rw [e] at e2; simp at e2; rw [e2.1.1]; exact hne
theorem kp_set (w : World) (p o : Nat) (u : Value) : Kp (fun k => k = p) w (w.setCell ⟨p, o, none⟩ u) := (Kp.refl (fun k => k = p) w).setCell (fun _ => rfl) _

def rByte (bs : List UInt8) (at_ bad most : Nat) : Nat × Nat × Nat :=
  if bad ≠ 0 then (0, at_, bad)
  else if bs.drop at_ = [] then (0, at_, 10)
  else if most < ((bs.drop at_).getD 0 0).toNat then (0, at_, 12)
  else (((bs.drop at_).getD 0 0).toNat, at_ + 1, 0)

set_option maxRecDepth 100000 in
set_option maxHeartbeats 1000000 in
theorem byte_any (w : World) (p : Nat) (v : Value) (bs : List UInt8) (at_ bad most : Nat) (h : Rd w p v bs at_ bad) :
    Calls Tryd.prog 41 #[.pointer (some ⟨p, 0, none⟩), .int .u8 (most : Int)] w (RdPost w p v bs (.int .u8 ((rByte bs at_ bad most).1 : Int)) (rByte bs at_ bad most).2.1 (rByte bs at_ bad most).2.2) := by
  have c2 := h.c2
  have H := Hid_mk h
  by_cases hb : bad = 0
  · subst hb
    clear h
    go_enter Tryd.func41, Tryd.ntmps41
    go_wp2_with fail
    refine (left_any w p v bs at_ 0 H.out).mono ?_
    rintro e w0 ⟨L, nd, rfl, hL, hLp, hw0⟩
    have hR := H.out.drewN nd
    rw [← hw0] at hR
    have hK : Kp (fun k => k = p) w w0 := by rw [hw0]; exact (Kp.refl _ w).drewN nd
    have HR := Hid_mk hR
    have HK := Hid_mk hK
    have c2' := hR.c2
    have c1' := hR.c1
    have f2 := hR.warm 2
    have f1 := hR.warm 1
    obtain ⟨a, cap, rfl, hl, hm, hc⟩ := hL
    clear hw0 hR hK c2
    by_cases he : bs.drop at_ = []
    · have hl0 : (bs.drop at_).length = 0 := by rw [he]; rfl
      have hr : rByte bs at_ 0 most = (0, at_, 10) := by unfold rByte; rw [if_neg (by simp), if_pos he]
      rw [hl0]
      have HRes := Hid_mk hr
      clear hr hl hm hc he hl0 hLp
      go_wp2
      go_ret
      rw [HRes.out]
      exact ⟨rfl, HR.out.set_bad 10, HK.out.trans' (kp_set _ _ _ _)⟩
    · obtain ⟨b, o, rfl, hcell⟩ := hc he
      have hpos : 0 < (bs.drop at_).length := by rcases Nat.eq_zero_or_pos (bs.drop at_).length with h | h; exact absurd (List.eq_nil_of_length_eq_zero h) he; exact h
      have hbp : b ≠ p := hLp _ _ _ _ rfl
      have hx : w0.cell? ⟨b, o, none⟩ = some (.int .u8 (((bs.drop at_).getD 0 0).toNat : Int)) := hcell 0 hpos
      have hat : at_ + 1 ≤ bs.length := by rw [List.length_drop] at hpos; omega
      have hlm := H.out.short
      generalize hLen : (bs.drop at_).length = len at *
      generalize hd : ((bs.drop at_).getD 0 0).toNat = d at *
      have hposi : (0 : Int) < (len : Int) := by omega
      have hnz : ((len : Int) == 0) = false := by simp; omega
      clear hcell hc hLp
      by_cases hgt : most < d
      · have hr : rByte bs at_ 0 most = (0, at_, 12) := by unfold rByte; rw [if_neg (by simp), if_neg he, hd, if_pos hgt]
        have HRes := Hid_mk hr
        clear hr hl hm hLen hd he
        go_wp2
        go_ret
        rw [HRes.out]
        exact ⟨rfl, HR.out.set_bad 12, HK.out.trans' (kp_set _ _ _ _)⟩
      · have hr : rByte bs at_ 0 most = (d, at_ + 1, 0) := by unfold rByte; rw [if_neg (by simp), if_neg he, hd, if_neg hgt]
        have HRes := Hid_mk hr
        clear hr hl hm hLen hd he
        go_wp2
        go_ret
        rw [HRes.out]
        exact ⟨rfl, HR.out.set_at (at_ + 1) hat, HK.out.trans' (kp_set _ _ _ _)⟩
  · have hr : rByte bs at_ bad most = (0, at_, bad) := by unfold rByte; rw [if_pos hb]
    rw [hr]
    have hbz : ((bad : Int) == 0) = false := by simp; omega
    have hbz2 : ((bad : Int) != 0) = true := by simp; omega
    clear h hr
    go_enter Tryd.func41, Tryd.ntmps41
    go_wp2
    go_ret
    exact ⟨rfl, H.out, Kp.refl _ _⟩

end Go.Proofs.YtpfpnlhihnfahaaDoor.reader

namespace Go.Proofs.YtpfpnlhihnfahaaDoor.reader
open Go.RowKit Go.Proofs.YtpfpnlhihnfahaaDoor.sum Go.Proofs.YtpfpnlhihnfahaaDoor.kept Go.Proofs.YtpfpnlhihnfahaaDoor.app Go.Proofs.YtpfpnlhihnfahaaDoor.writer Go.Proofs.YtpfpnlhihnfahaaDoor.clone Go.Proofs.YtpfpnlhihnfahaaDoor.known Go.Proofs.YtpfpnlhihnfahaaDoor.unseal Go.Proofs.YtpfpnlhihnfahaaDoor.number
set_option linter.unusedVariables false

theorem dig_size : ∀ (bs : List UInt8) (i n : Nat), (dig i n bs).2.2 = 0 → (dig i n bs).2.1 ≤ i + bs.length
  | [], i, n, h => by simp [dig] at h
  | d :: r, i, n, h => by
    rw [dig] at h ⊢
    split at h
    · simp at h
    · rename_i h1
      split at h
      · rename_i h2
        have := dig_size r (i + 1) _ h
        rw [if_neg h1, if_pos h2]
        simp only [List.length_cons]; omega
      · rename_i h2
        split at h
        · simp at h
        · rename_i h3
          rw [if_neg h1, if_neg h2, if_neg h3]
          simp only [List.length_cons]; omega

theorem dig_zero_res : ∀ (bs : List UInt8) (i n : Nat), (dig i n bs).2.2 ≠ 0 → (dig i n bs).1 = 0 ∧ (dig i n bs).2.1 = 0
  | [], i, n, _ => ⟨rfl, rfl⟩
  | d :: r, i, n, h => by
    rw [dig] at h ⊢
    split at h
    · rename_i h1; rw [if_pos h1]; exact ⟨rfl, rfl⟩
    · rename_i h1
      split at h
      · rename_i h2
        rw [if_neg h1, if_pos h2]
        exact dig_zero_res r (i + 1) _ h
      · rename_i h2
        split at h
        · rename_i h3; rw [if_neg h1, if_neg h2, if_pos h3]; exact ⟨rfl, rfl⟩
        · simp at h

def rNum (bs : List UInt8) (at_ bad most : Nat) : Nat × Nat × Nat :=
  if bad ≠ 0 then (0, at_, bad)
  else if (dig 0 0 (bs.drop at_)).2.2 ≠ 0 then (0, at_, (dig 0 0 (bs.drop at_)).2.2)
  else if most < (dig 0 0 (bs.drop at_)).1 then (0, at_, 12)
  else ((dig 0 0 (bs.drop at_)).1, at_ + (dig 0 0 (bs.drop at_)).2.1, 0)

set_option maxRecDepth 100000 in
set_option maxHeartbeats 1000000 in
theorem num_any (w : World) (p : Nat) (v : Value) (bs : List UInt8) (at_ bad most : Nat) (h : Rd w p v bs at_ bad) :
    Calls Tryd.prog 58 #[.pointer (some ⟨p, 0, none⟩), .int .u64 (most : Int)] w (RdPost w p v bs (.int .u64 ((rNum bs at_ bad most).1 : Int)) (rNum bs at_ bad most).2.1 (rNum bs at_ bad most).2.2) := by
  have c2 := h.c2
  have H := Hid_mk h
  by_cases hb : bad = 0
  · subst hb
    have hsize := dig_size (bs.drop at_) 0 0
    have hle := h.le
    have hshort := h.short
    clear h
    go_enter Tryd.func58, Tryd.ntmps58
    go_wp2_with fail
    refine (left_any w p v bs at_ 0 H.out).mono ?_
    rintro e w0 ⟨L, nd, rfl, hL, -, hw0⟩
    have hR := H.out.drewN nd
    rw [← hw0] at hR
    have hK : Kp (fun k => k = p) w w0 := by rw [hw0]; exact (Kp.refl _ w).drewN nd
    have HR := Hid_mk hR
    have HK := Hid_mk hK
    have c2' := hR.c2
    have c1' := hR.c1
    have f2 := hR.warm 2
    have f1 := hR.warm 1
    have HL := Hid_mk hL
    clear hw0 hR hK c2 hL
    go_wp2_with fail
    refine (number_any w0 L _ HL.out).mono ?_
    rintro e w1 ⟨rfl, rfl⟩
    unfold tup
    have hres : rNum bs at_ 0 most = if (dig 0 0 (bs.drop at_)).2.2 ≠ 0 then (0, at_, (dig 0 0 (bs.drop at_)).2.2) else if most < (dig 0 0 (bs.drop at_)).1 then (0, at_, 12) else ((dig 0 0 (bs.drop at_)).1, at_ + (dig 0 0 (bs.drop at_)).2.1, 0) := by
      unfold rNum; rw [if_neg (by simp)]
    have hdl : (bs.drop at_).length ≤ bs.length - at_ := by rw [List.length_drop]; omega
    generalize dig 0 0 (bs.drop at_) = D at *
    obtain ⟨n, size, wrong⟩ := D
    simp only at hres hsize
    by_cases hw : wrong = 0
    · subst hw
      have hs := hsize rfl
      have hs2 : at_ + size ≤ bs.length := by omega
      by_cases hgt : most < n
      · rw [if_neg (by simp), if_pos hgt] at hres
        have HRes := Hid_mk hres
        have hgti : (most : Int) < (n : Int) := by omega
        clear hres hsize
        go_wp2
        go_ret
        rw [HRes.out]
        exact ⟨rfl, HR.out.set_bad 12, HK.out.trans' (kp_set _ _ _ _)⟩
      · rw [if_neg (by simp), if_neg hgt] at hres
        have HRes := Hid_mk hres
        have hgti : decide ((most : Int) < (n : Int)) = false := decide_eq_false (by omega)
        clear hres hsize
        go_wp2
        go_ret
        rw [HRes.out]
        exact ⟨rfl, HR.out.set_at (at_ + size) hs2, HK.out.trans' (kp_set _ _ _ _)⟩
    · rw [if_pos hw] at hres
      have HRes := Hid_mk hres
      have hwz : ((wrong : Int) == 0) = false := by simp; omega
      have hwz2 : ((wrong : Int) != 0) = true := by simp; omega
      clear hres hsize
      go_wp2
      go_ret
      rw [HRes.out]
      exact ⟨rfl, HR.out.set_bad wrong, HK.out.trans' (kp_set _ _ _ _)⟩
  · have hr : rNum bs at_ bad most = (0, at_, bad) := by unfold rNum; rw [if_pos hb]
    rw [hr]
    have hbz : ((bad : Int) == 0) = false := by simp; omega
    have hbz2 : ((bad : Int) != 0) = true := by simp; omega
    clear h hr
    go_enter Tryd.func58, Tryd.ntmps58
    go_wp2
    go_ret
    exact ⟨rfl, H.out, Kp.refl _ _⟩

def rEnd (bs : List UInt8) (at_ bad : Nat) : Nat := if bad = 0 ∧ at_ < bs.length then 11 else bad

set_option maxRecDepth 100000 in
set_option maxHeartbeats 1000000 in
theorem end_any (w : World) (p : Nat) (v : Value) (bs : List UInt8) (at_ bad : Nat) (h : Rd w p v bs at_ bad) :
    Calls Tryd.prog 25 #[.pointer (some ⟨p, 0, none⟩)] w fun e w' => e = .returned (.int .i64 (rEnd bs at_ bad : Int)) ∧ ∃ n, w' = w.drewN n := by
  have c2 := h.c2
  have H := Hid_mk h
  by_cases hb : bad = 0
  · subst hb
    clear h
    go_enter Tryd.func25, Tryd.ntmps25
    go_wp2_with fail
    refine (left_any w p v bs at_ 0 H.out).mono ?_
    rintro e w0 ⟨L, nd, rfl, hL, -, hw0⟩
    obtain ⟨a, cap, rfl, hl, hm, -⟩ := hL
    have HW := Hid_mk hw0
    have c2' : w0.cell? ⟨p, 2, none⟩ = some (.int .i64 ((0 : Nat) : Int)) := by rw [hw0]; exact (H.out.drewN nd).c2
    have hlen : (bs.drop at_).length = bs.length - at_ := List.length_drop
    rw [hlen]
    clear hw0 hl hm hlen c2
    by_cases hpos : at_ < bs.length
    · have hr : rEnd bs at_ 0 = 11 := by unfold rEnd; rw [if_pos ⟨rfl, hpos⟩]
      have hp1 : (0 : Int) < ((bs.length - at_ : Nat) : Int) := by omega
      have hp2 : 0 < bs.length - at_ := by omega
      have HRes := Hid_mk hr
      generalize bs.length - at_ = len at *
      clear hr hpos
      go_wp2
      go_ret
      rw [HRes.out]
      exact ⟨rfl, nd, HW.out⟩
    · have hr : rEnd bs at_ 0 = 0 := by unfold rEnd; rw [if_neg (by omega)]
      have hz : bs.length - at_ = 0 := by omega
      rw [hz]
      have HRes := Hid_mk hr
      clear hr hpos hz
      go_wp2
      go_ret
      rw [HRes.out]
      exact ⟨rfl, nd, HW.out⟩
  · have hr : rEnd bs at_ bad = bad := by unfold rEnd; rw [if_neg (by omega)]
    rw [hr]
    have hbz : ((bad : Int) == 0) = false := by simp; omega
    clear h hr
    go_enter Tryd.func25, Tryd.ntmps25
    go_wp2
    go_ret
    exact ⟨rfl, 0, rfl⟩

end Go.Proofs.YtpfpnlhihnfahaaDoor.reader

namespace Go.Proofs.YtpfpnlhihnfahaaDoor.reader
open Go.RowKit Go.Proofs.YtpfpnlhihnfahaaDoor.sum Go.Proofs.YtpfpnlhihnfahaaDoor.kept Go.Proofs.YtpfpnlhihnfahaaDoor.app Go.Proofs.YtpfpnlhihnfahaaDoor.writer Go.Proofs.YtpfpnlhihnfahaaDoor.clone Go.Proofs.YtpfpnlhihnfahaaDoor.known Go.Proofs.YtpfpnlhihnfahaaDoor.unseal Go.Proofs.YtpfpnlhihnfahaaDoor.number
set_option linter.unusedVariables false

def rText (bs : List UInt8) (at_ bad most : Nat) : List UInt8 × Nat × Nat :=
  if (rNum bs at_ bad most).2.2 ≠ 0 then ([], (rNum bs at_ bad most).2.1, (rNum bs at_ bad most).2.2)
  else if (bs.drop (rNum bs at_ bad most).2.1).length < (rNum bs at_ bad most).1 then ([], at_, 10)
  else ((bs.drop (rNum bs at_ bad most).2.1).take (rNum bs at_ bad most).1, (rNum bs at_ bad most).2.1 + (rNum bs at_ bad most).1, 0)

theorem rNum_at (bs : List UInt8) (at_ bad most : Nat) (h : (rNum bs at_ bad most).2.2 ≠ 0) : (rNum bs at_ bad most).2.1 = at_ := by
  unfold rNum at h ⊢
  split
  · rfl
  · rename_i h1
    rw [if_neg h1] at h
    split
    · rfl
    · rename_i h2
      rw [if_neg h2] at h
      split
      · rfl
      · rename_i h3
        rw [if_neg h3] at h
        simp at h

set_option maxRecDepth 100000 in
set_option maxHeartbeats 2000000 in
theorem text_pos (w : World) (p : Nat) (v : Value) (bs : List UInt8) (at_ bad : Nat) (most : Nat) (hm64 : most < 9223372036854775808) (h : Rd w p v bs at_ bad) :
    Calls Tryd.prog 40 #[.pointer (some ⟨p, 0, none⟩), .int .i64 (most : Int)] w (RdPost w p v bs (.string ⟨(rText bs at_ bad most).1.toArray⟩) (rText bs at_ bad most).2.1 (rText bs at_ bad most).2.2) := by
  have c1 := h.c1
  have hle := h.le
  have hshort := h.short
  have H := Hid_mk h
  have HWr := Hid_mk (wrap_u64 (most : Int) (by omega) (by omega))
  clear hm64
  clear h
  go_enter Tryd.func40, Tryd.ntmps40
  go_wp2_with fail
  rw [HWr.out]; refine (num_any w p v bs at_ bad most H.out).mono ?_
  rintro e w1 ⟨rfl, hR1, hK1⟩
  have HR1 := Hid_mk hR1
  have HK1 := Hid_mk hK1
  have hra := rNum_at bs at_ bad most
  clear hR1 hK1 c1
  generalize hD : rNum bs at_ bad most = D at *
  have HD := Hid_mk hD
  clear hD
  obtain ⟨n, a1, b1⟩ := D
  have c2 := HR1.out.c2
  by_cases hb1 : b1 = 0
  · subst hb1
    go_wp2_with fail
    refine (left_any w1 p v bs a1 0 HR1.out).mono ?_
    rintro e w2 ⟨L, nd, rfl, hL, hLp, hw2⟩
    have hR2 := HR1.out.drewN nd
    rw [← hw2] at hR2
    have hK2 : Kp (fun k => k = p) w w2 := by rw [hw2]; exact HK1.out.drewN nd
    have HR2 := Hid_mk hR2
    have HK2 := Hid_mk hK2
    have c1' := hR2.c1
    have c2' := hR2.c2
    have f1 := hR2.warm 1
    have f2 := hR2.warm 2
    have hle2 : a1 ≤ bs.length := hR2.le
    have HL := Hid_mk hL
    obtain ⟨a, cap, rfl, hl, hm, hc⟩ := hL
    have hlen : (bs.drop a1).length = bs.length - a1 := List.length_drop
    have HLen := Hid_mk hlen
    rw [hlen] at hl HL ⊢
    unfold maxLen at hm
    have i1 : IntKind.u64.wrap ((bs.length - a1 : Nat) : Int) = ((bs.length - a1 : Nat) : Int) := wrap_u64 _ (by omega) (by omega)
    clear hw2 hR2 hK2 c2 hra hlen
    by_cases hgt : bs.length - a1 < n
    · have hr : rText bs at_ bad most = ([], at_, 10) := by
        unfold rText
        rw [HD.out, if_neg (by simp)]
        simp only
        rw [if_pos (by rw [HLen.out]; exact hgt)]
      have HRes := Hid_mk hr
      have hgi : ((bs.length - a1 : Nat) : Int) < (n : Int) := by omega
      generalize bs.length - a1 = len at *
      clear hr hl hm hc hLp
      go_wp2
      go_ret
      rw [HRes.out]
      exact ⟨rfl, (HR2.out.set_bad 10).set_at at_ hle, (HK2.out.trans' (kp_set _ _ _ _)).trans' (kp_set _ _ _ _)⟩
    · have hr : rText bs at_ bad most = ((bs.drop a1).take n, a1 + n, 0) := by
        unfold rText
        rw [HD.out, if_neg (by simp)]
        simp only
        rw [if_neg (by rw [HLen.out]; exact hgt)]
      have HRes := Hid_mk hr
      have hgi : decide (((bs.length - a1 : Nat) : Int) < (n : Int)) = false := decide_eq_false (by omega)
      have ha1 : a1 + n ≤ bs.length := by omega
      have HA := Hid_mk ha1
      have i2 : IntKind.i64.wrap (n : Int) = (n : Int) := IntWalk.i64_in _ (by omega)
      have hT := bs_take HL.out n (by omega)
      have hsh : ∀ b o, a = some ⟨b, o, none⟩ → b ≠ p := fun b o e => hLp b o _ cap (by rw [e])
      have hT2 : Bs (w2.setCell ⟨p, 1, none⟩ (.int .i64 ((a1 : Int) + n))) (.slice a n cap) ((bs.drop a1).take n) := bs_kept hT (kp_set w2 p 1 _) fun b o n' c' e => by simp only [Value.slice.injEq] at e; exact hsh b o e.1
      have hconv := conv_bs hT2
      have i3 : (n : Int) ≤ (cap : Int) := by omega
      have hai : a1 + n ≤ 140737488355328 := by omega
      have HAt := Hid_mk (HR2.out.set_at (a1 + n) ha1)
      generalize bs.length - a1 = len at *
      clear hr hl hm hT hT2 hc hsh hLp ha1
      go_wp2
      go_ret
      rw [HRes.out]
      exact ⟨rfl, HAt.out, HK2.out.trans' (kp_set _ _ _ _)⟩
  · have ha : a1 = at_ := hra hb1
    subst ha
    have hr : rText bs a1 bad most = ([], a1, b1) := by
      unfold rText
      rw [HD.out, if_pos hb1]
    have HRes := Hid_mk hr
    have hwz : ((b1 : Int) == 0) = false := by simp; omega
    have hwz2 : ((b1 : Int) != 0) = true := by simp; omega
    clear hr hra hb1
    go_wp2
    go_ret
    rw [HRes.out]
    exact ⟨rfl, HR1.out, HK1.out⟩

set_option maxRecDepth 100000 in
set_option maxHeartbeats 2000000 in
theorem text_neg (w : World) (p : Nat) (v : Value) (bs : List UInt8) (at_ bad : Nat) (mi : Int) (hmi : mi < 0) (h : Rd w p v bs at_ bad) :
    Calls Tryd.prog 40 #[.pointer (some ⟨p, 0, none⟩), .int .i64 mi] w (RdPost w p v bs (.string ⟨(rText bs at_ bad 0).1.toArray⟩) (rText bs at_ bad 0).2.1 (rText bs at_ bad 0).2.2) := by
  have c1 := h.c1
  have hle := h.le
  have hshort := h.short
  have H := Hid_mk h
  clear h
  go_enter Tryd.func40, Tryd.ntmps40
  go_wp2_with fail
  refine (num_any w p v bs at_ bad 0 H.out).mono ?_
  rintro e w1 ⟨rfl, hR1, hK1⟩
  have HR1 := Hid_mk hR1
  have HK1 := Hid_mk hK1
  have hra := rNum_at bs at_ bad 0
  clear hR1 hK1 c1
  generalize hD : rNum bs at_ bad 0 = D at *
  have HD := Hid_mk hD
  clear hD
  obtain ⟨n, a1, b1⟩ := D
  have c2 := HR1.out.c2
  by_cases hb1 : b1 = 0
  · subst hb1
    go_wp2_with fail
    refine (left_any w1 p v bs a1 0 HR1.out).mono ?_
    rintro e w2 ⟨L, nd, rfl, hL, hLp, hw2⟩
    have hR2 := HR1.out.drewN nd
    rw [← hw2] at hR2
    have hK2 : Kp (fun k => k = p) w w2 := by rw [hw2]; exact HK1.out.drewN nd
    have HR2 := Hid_mk hR2
    have HK2 := Hid_mk hK2
    have c1' := hR2.c1
    have c2' := hR2.c2
    have f1 := hR2.warm 1
    have f2 := hR2.warm 2
    have hle2 : a1 ≤ bs.length := hR2.le
    have HL := Hid_mk hL
    obtain ⟨a, cap, rfl, hl, hm, hc⟩ := hL
    have hlen : (bs.drop a1).length = bs.length - a1 := List.length_drop
    have HLen := Hid_mk hlen
    rw [hlen] at hl HL ⊢
    unfold maxLen at hm
    have i1 : IntKind.u64.wrap ((bs.length - a1 : Nat) : Int) = ((bs.length - a1 : Nat) : Int) := wrap_u64 _ (by omega) (by omega)
    clear hw2 hR2 hK2 c2 hra hlen
    by_cases hgt : bs.length - a1 < n
    · have hr : rText bs at_ bad 0 = ([], at_, 10) := by
        unfold rText
        rw [HD.out, if_neg (by simp)]
        simp only
        rw [if_pos (by rw [HLen.out]; exact hgt)]
      have HRes := Hid_mk hr
      have hgi : ((bs.length - a1 : Nat) : Int) < (n : Int) := by omega
      generalize bs.length - a1 = len at *
      clear hr hl hm hc hLp
      go_wp2
      go_ret
      rw [HRes.out]
      exact ⟨rfl, (HR2.out.set_bad 10).set_at at_ hle, (HK2.out.trans' (kp_set _ _ _ _)).trans' (kp_set _ _ _ _)⟩
    · have hr : rText bs at_ bad 0 = ((bs.drop a1).take n, a1 + n, 0) := by
        unfold rText
        rw [HD.out, if_neg (by simp)]
        simp only
        rw [if_neg (by rw [HLen.out]; exact hgt)]
      have HRes := Hid_mk hr
      have hgi : decide (((bs.length - a1 : Nat) : Int) < (n : Int)) = false := decide_eq_false (by omega)
      have ha1 : a1 + n ≤ bs.length := by omega
      have HA := Hid_mk ha1
      have i2 : IntKind.i64.wrap (n : Int) = (n : Int) := IntWalk.i64_in _ (by omega)
      have hT := bs_take HL.out n (by omega)
      have hsh : ∀ b o, a = some ⟨b, o, none⟩ → b ≠ p := fun b o e => hLp b o _ cap (by rw [e])
      have hT2 : Bs (w2.setCell ⟨p, 1, none⟩ (.int .i64 ((a1 : Int) + n))) (.slice a n cap) ((bs.drop a1).take n) := bs_kept hT (kp_set w2 p 1 _) fun b o n' c' e => by simp only [Value.slice.injEq] at e; exact hsh b o e.1
      have hconv := conv_bs hT2
      have i3 : (n : Int) ≤ (cap : Int) := by omega
      have hai : a1 + n ≤ 140737488355328 := by omega
      have HAt := Hid_mk (HR2.out.set_at (a1 + n) ha1)
      generalize bs.length - a1 = len at *
      clear hr hl hm hT hT2 hc hsh hLp ha1
      go_wp2
      go_ret
      rw [HRes.out]
      exact ⟨rfl, HAt.out, HK2.out.trans' (kp_set _ _ _ _)⟩
  · have ha : a1 = at_ := hra hb1
    subst ha
    have hr : rText bs a1 bad 0 = ([], a1, b1) := by
      unfold rText
      rw [HD.out, if_pos hb1]
    have HRes := Hid_mk hr
    have hwz : ((b1 : Int) == 0) = false := by simp; omega
    have hwz2 : ((b1 : Int) != 0) = true := by simp; omega
    clear hr hra hb1
    go_wp2
    go_ret
    rw [HRes.out]
    exact ⟨rfl, HR1.out, HK1.out⟩

theorem text_any (w : World) (p : Nat) (v : Value) (bs : List UInt8) (at_ bad : Nat) (mi : Int) (hm64 : mi < 9223372036854775808) (h : Rd w p v bs at_ bad) :
    Calls Tryd.prog 40 #[.pointer (some ⟨p, 0, none⟩), .int .i64 mi] w (RdPost w p v bs (.string ⟨(rText bs at_ bad mi.toNat).1.toArray⟩) (rText bs at_ bad mi.toNat).2.1 (rText bs at_ bad mi.toNat).2.2) := by
  by_cases h0 : mi < 0
  · rw [show mi.toNat = 0 by omega]
    exact text_neg w p v bs at_ bad mi h0 h
  · have e : ((mi.toNat : Nat) : Int) = mi := by omega
    have := text_pos w p v bs at_ bad mi.toNat (by omega) h
    rwa [e] at this

end Go.Proofs.YtpfpnlhihnfahaaDoor.reader

namespace Go.Proofs.YtpfpnlhihnfahaaDoor.words
open Go.RowKit Go.Proofs.YtpfpnlhihnfahaaDoor.sum Go.Proofs.YtpfpnlhihnfahaaDoor.kept Go.Proofs.YtpfpnlhihnfahaaDoor.app Go.Proofs.YtpfpnlhihnfahaaDoor.writer Go.Proofs.YtpfpnlhihnfahaaDoor.clone Go.Proofs.YtpfpnlhihnfahaaDoor.seal Go.Proofs.YtpfpnlhihnfahaaDoor.unseal
set_option linter.unusedVariables false

/-- is this word no number? -/
def nanB (b : Nat) : Bool := FloatKind.f64.format.order b b != some .eq
def nanW : Nat := 9221120237041090561
theorem nanB_nanW : nanB nanW = true := by decide +kernel
theorem nanW_int : ((nanW : Nat) : Int) = 9221120237041090561 := rfl
/-- the word that stands for all of those that are none -/
def canon (b : Nat) : Nat := if nanB b = true then nanW else b
def bytesN : Nat → Nat → List UInt8
  | 0, _ => []
  | k + 1, b => b.toUInt8 :: bytesN k (b / 256)
theorem bytesN_len (k b : Nat) : (bytesN k b).length = k := by
  induction k generalizing b with
  | zero => rfl
  | succ k ih => simp [bytesN, ih]

theorem u8_mod (d : Nat) : (d % 256).toUInt8 = d.toUInt8 := by apply UInt8.toNat_inj.1; rw [u8_toNat, u8_toNat]; omega

theorem neq_yes {b : Nat} (h : nanB b = true) : (FloatKind.f64.format.order b b != some .eq) = true := h
theorem neq_no {b : Nat} (h : nanB b = false) : (FloatKind.f64.format.order b b != some .eq) = false := h

def FlRel (base p : Nat) (v : Value) (bs : List UInt8) (b : Nat) (w : World) (t i : Value) (wr : World) : Prop :=
  ∃ (k c : Nat) (pre : List UInt8), k ≤ 8 ∧ i = .int .i64 k ∧ t = .int .u64 c ∧ c < U64 ∧ pre.length = k ∧ pre ++ bytesN (8 - k) c = bytesN 8 b ∧ WrPost base p v (bs ++ pre) w (.returned (.tuple #[])) wr

end Go.Proofs.YtpfpnlhihnfahaaDoor.words

namespace Go.Proofs.YtpfpnlhihnfahaaDoor.reader
open Go.RowKit Go.Proofs.YtpfpnlhihnfahaaDoor.sum Go.Proofs.YtpfpnlhihnfahaaDoor.kept Go.Proofs.YtpfpnlhihnfahaaDoor.app Go.Proofs.YtpfpnlhihnfahaaDoor.writer Go.Proofs.YtpfpnlhihnfahaaDoor.clone Go.Proofs.YtpfpnlhihnfahaaDoor.known Go.Proofs.YtpfpnlhihnfahaaDoor.unseal Go.Proofs.YtpfpnlhihnfahaaDoor.number Go.Proofs.YtpfpnlhihnfahaaDoor.words
set_option linter.unusedVariables false

/-- the number of the first k bytes, the lowest first -/
def leN (bs : List UInt8) : Nat → Nat
  | 0 => 0
  | k + 1 => leN bs k + (bs.getD k 0).toNat * 256 ^ k
theorem leN_lt (bs : List UInt8) (k : Nat) : leN bs k < 256 ^ k := by
  induction k with
  | zero => simp [leN]
  | succ k ih =>
    have hx : (bs.getD k 0).toNat < 256 := UInt8.toNat_lt _
    have : (bs.getD k 0).toNat * 256 ^ k ≤ 255 * 256 ^ k := Nat.mul_le_mul_right _ (by omega)
    rw [leN, Nat.pow_succ]; omega

def rFloat (bs : List UInt8) (at_ bad : Nat) : Nat × Nat × Nat :=
  if bad ≠ 0 then (0, at_, bad)
  else if (bs.drop at_).length < 8 then (0, at_, 10)
  else if nanB (leN (bs.drop at_) 8) = true ∧ leN (bs.drop at_) 8 ≠ nanW then (0, at_, 11)
  else (leN (bs.drop at_) 8, at_ + 8, 0)

theorem pow256 (i : Nat) : (256 : Nat) ^ i = 2 ^ (8 * i) := by rw [show 256 = 2 ^ 8 by decide, ← Nat.pow_mul]
theorem pow_le8 {i : Nat} (h : i ≤ 7) : 256 ^ i ≤ 72057594037927936 := by
  have : 256 ^ i ≤ 256 ^ 7 := Nat.pow_le_pow_right (by omega) h
  have e : 256 ^ 7 = 72057594037927936 := by decide
  omega

theorem or_byte (n i : Nat) (d : UInt8) (hn : n < 256 ^ i) (hi : i ≤ 7) :
    bits .or .u64 (n : Int) (IntKind.u64.wrap ((d.toNat : Int) * 2 ^ (8 * i))) = ((n + d.toNat * 256 ^ i : Nat) : Int) := by
  have hp := pow_le8 hi
  have hx : d.toNat < 256 := UInt8.toNat_lt _
  have hlt : d.toNat * 256 ^ i < 18446744073709551616 := by
    have : d.toNat * 256 ^ i ≤ 255 * 72057594037927936 := Nat.mul_le_mul (by omega) hp
    omega
  have e0 : (d.toNat : Int) * 2 ^ (8 * i) = ((d.toNat * 256 ^ i : Nat) : Int) := by
    rw [pow256]; simp
  rw [e0, wrap_u64 _ (by omega) (by omega), u64_or_nat _ _ (by omega) hlt]
  rw [Nat.or_comm, nat_join (8 * i) (d.toNat * 256 ^ i) n (by rw [pow256, Nat.mul_mod_left]) (by rw [← pow256]; exact hn), Nat.add_comm]

end Go.Proofs.YtpfpnlhihnfahaaDoor.reader
