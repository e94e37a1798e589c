/- The reference's End, and its Float as eight bytes. -/
import Derived.Test.YtaghpjlodlbmjaaRefFloat
namespace Go.Proofs.Ytaghpjlodlbmjaa.ref
open Go.Proofs.Ytaghpjlodlbmjaa.seal Go.RowKit Go.Proofs.Ytaghpjlodlbmjaa.sum Go.Proofs.Ytaghpjlodlbmjaa.kept Go.Proofs.Ytaghpjlodlbmjaa.app Go.Proofs.Ytaghpjlodlbmjaa.writer Go.Proofs.Ytaghpjlodlbmjaa.clone Go.Proofs.Ytaghpjlodlbmjaa.known Go.Proofs.Ytaghpjlodlbmjaa.unseal Go.Proofs.Ytaghpjlodlbmjaa.number Go.Proofs.Ytaghpjlodlbmjaa.words Go.Proofs.Ytaghpjlodlbmjaa.reader
set_option linter.unusedVariables false

set_option maxRecDepth 100000 in
set_option maxHeartbeats 2000000 in
theorem end_any (w : World) (p : Nat) (v : Value) (bs : List UInt8) (at_ bad : Nat) (h : RR w p v bs at_ bad) :
    Calls Try.prog 69 #[.pointer (some ⟨p, 0, none⟩)] w fun e w' => e = .returned (.int .i64 ((rEnd bs at_ bad : Nat) : Int)) ∧ Kp No w w' := by
  have c0 := h.c0
  have c1 := h.c1
  have c2 := h.c2
  by_cases hb : bad = 0
  · subst hb
    obtain ⟨a, cap, rfl, hl, hm, hc⟩ := h.reads
    unfold maxLen at hm
    by_cases he : at_ < bs.length
    · have hr : rEnd bs at_ 0 = 11 := by unfold rEnd; simp; omega
      have hi : (at_ : Int) < (bs.length : Int) := by omega
      rw [hr]
      clear h hr hc
      go_enter Try.func69, Try.ntmps69
      go_wp2
      go_quiet (fail)
      go_wp2
      go_ret
      exact ⟨rfl, (Kp.refl No w).drewN _⟩
    · have hr : rEnd bs at_ 0 = 0 := by unfold rEnd; simp; omega
      have hi : ¬ (at_ : Int) < (bs.length : Int) := by omega
      rw [hr]
      clear h hr hc
      go_enter Try.func69, Try.ntmps69
      go_wp2
      go_quiet (fail)
      go_wp2
      go_ret
      exact ⟨rfl, (Kp.refl No w).drewN _⟩
  · have hr : rEnd bs at_ bad = bad := by unfold rEnd; rw [if_neg (by omega)]
    rw [hr]
    have hbz : ((bad : Int) == 0) = false := by simp; omega
    have hbz2 : ((bad : Int) != 0) = true := by simp; omega
    clear h hr
    go_enter Try.func69, Try.ntmps69
    go_wp2
    go_quiet (fail)
    go_wp2
    go_ret
    exact ⟨rfl, (Kp.refl No w).drewN _⟩

def FwRel (b : Nat) (w : World) (t v i : Value) (wr : World) : Prop :=
  ∃ (k c : Nat) (pre : List UInt8), k ≤ 8 ∧ c < U64 ∧ i = .int .i64 k ∧ t = .int .u64 c ∧ pre.length = k ∧ pre ++ bytesN (8 - k) c = bytesN 8 b ∧ wr.ownsRow w.heap.size 5 1 v pre.length (pre.map B) ∧ Kp No w wr

theorem d_byte (d : Nat) : (d : Int) % 256 = ((d.toUInt8).toNat : Int) := by rw [u8_toNat]; omega

theorem wrap_div {d : Nat} (h : d < U64) : IntKind.u64.wrap ((d : Int) / 256) = ((d / 256 : Nat) : Int) := by
  rw [u64_eq] at h
  rw [show (d : Int) / 256 = ((d / 256 : Nat) : Int) by omega]
  exact wrap_u64 _ (by omega) (by omega)

theorem FwRel.start (b : Nat) (hb : b < U64) (w : World) : FwRel b w (.int .u64 b) (.slice none 0 0) (.int .i64 0) w := ⟨0, b, [], by omega, hb, rfl, rfl, rfl, rfl, World.ownsRow_nil _ _ _ _, Kp.refl _ _⟩
theorem FwRel.next {b : Nat} {w w1 : World} {k c : Nat} {pre : List UInt8} {v1 : Value} (hk : k < 8) (hc : c < U64) (h1 : pre.length = k) (h2 : pre ++ bytesN (8 - k) c = bytesN 8 b) (ho : w1.ownsRow w.heap.size 5 1 v1 (pre ++ [c.toUInt8]).length ((pre ++ [c.toUInt8]).map B)) (hK : Kp No w w1) :
    FwRel b w (.int .u64 ((c / 256 : Nat) : Int)) v1 (.int .i64 ((k + 1 : Nat) : Int)) w1 := by
  refine ⟨k + 1, c / 256, pre ++ [c.toUInt8], by omega, Nat.lt_of_le_of_lt (Nat.div_le_self _ _) hc, rfl, rfl, by simp; omega, ?_, ho, hK⟩
  rw [← h2, List.append_assoc, show 8 - k = (8 - (k + 1)) + 1 by omega]
  rfl

set_option maxRecDepth 100000 in
set_option maxHeartbeats 2000000 in
theorem lay_float (w : World) (b : Nat) (hb : b < U64) :
    Calls Try.prog 31 #[.float .f64 b] w (NewBs w (bytesN 8 (canon b))) := by
  have hq := run_bits
  by_cases hn : nanB b = true
  · have hc : canon b = nanW := by unfold canon; rw [if_pos hn]
    rw [hc]
    have n1 := neq_yes hn
    have HC := Hid_mk (show nanW < U64 by decide)
    clear hc hn hb
    go_enter Try.func31, Try.ntmps31
    go_wp2_with fail
    refine (nan_any w).mono ?_
    rintro e w' ⟨rfl, rfl⟩
    generalize nanW = c at *
    go_wp2
    go_loopw [3, 4, 5] (fun t v i wr => FwRel c w t v i wr) (fun _ _ i _ => 8 - (intOf i).toNat)
    case atStart => exact FwRel.start c HC.out w
    case round =>
      obtain ⟨k, d, pre, hk, hd, rfl, rfl, hpl, hpre, how, hkp⟩ := hrel
      have HPre := Hid_mk hpre
      have HPl := Hid_mk hpl
      have wd := wrap_div hd
      have HD := Hid_mk hd
      have HO := Hid_mk how
      have HK := Hid_mk hkp
      have hsz := hkp.size
      clear hpre hpl how hkp hd
      by_cases hlt : k < 8
      · have hki : (k : Int) < 8 := by omega
        go_wp2_with (at_builtin; (rw [d_byte d]; refine wpList_append_bs _ rfl _ _ rfl w.heap.size _ pre rfl (HO.out.alloc _) _ [d.toUInt8] rfl (bs_one wr d.toUInt8) ?c1 ?c2 ?_))
        case c1 => have := HPl.out; simp; omega
        case c2 => simp; omega
        · intro v' w1 happ
          have kp : Kp No w w1 := by
            refine (HK.out.alloc _).grown happ.2.1 fun k hk e => ?_
            have := HO.out
            rcases owns_any this with ⟨rfl, _⟩ | ⟨g, cap, rfl, hg1, hg2⟩
            · simp [Value.ownBlock] at e
            · simp [Value.ownBlock] at e; omega
          have hfin := FwRel.next hlt HD.out HPl.out HPre.out happ.1 kp
          have HF := Hid_mk hfin
          obtain ⟨g, cap, rfl, hg1, hg2⟩ := owns_some happ.1 (by simp)
          generalize (pre ++ [d.toUInt8]).length = L at *
          clear happ kp hfin
          go_wp2
          go_roundw
          case rel => exact HF.out
          case measure => simp [intOf]; omega
      · have hki : ¬ (k : Int) < 8 := by omega
        obtain rfl : k = 8 := by omega
        go_wp2
        go_ret
        have e := HPre.out
        rw [show 8 - 8 = 0 from rfl, bytesN, List.append_nil] at e
        exact ⟨_, rfl, by rw [← e]; exact HO.out, HK.out⟩
  · have hc : canon b = b := by unfold canon; rw [if_neg hn]
    rw [hc]
    have n1 := neq_no (b := b) (by simpa using hn)
    have HC := Hid_mk hb
    clear hc hn hb
    go_enter Try.func31, Try.ntmps31
    generalize hbc : b = c at *
    clear hbc
    go_wp2
    go_loopw [3, 4, 5] (fun t v i wr => FwRel c w t v i wr) (fun _ _ i _ => 8 - (intOf i).toNat)
    case atStart => exact FwRel.start c HC.out w
    case round =>
      obtain ⟨k, d, pre, hk, hd, rfl, rfl, hpl, hpre, how, hkp⟩ := hrel
      have HPre := Hid_mk hpre
      have HPl := Hid_mk hpl
      have wd := wrap_div hd
      have HD := Hid_mk hd
      have HO := Hid_mk how
      have HK := Hid_mk hkp
      have hsz := hkp.size
      clear hpre hpl how hkp hd
      by_cases hlt : k < 8
      · have hki : (k : Int) < 8 := by omega
        go_wp2_with (at_builtin; (rw [d_byte d]; refine wpList_append_bs _ rfl _ _ rfl w.heap.size _ pre rfl (HO.out.alloc _) _ [d.toUInt8] rfl (bs_one wr d.toUInt8) ?c1 ?c2 ?_))
        case c1 => have := HPl.out; simp; omega
        case c2 => simp; omega
        · intro v' w1 happ
          have kp : Kp No w w1 := by
            refine (HK.out.alloc _).grown happ.2.1 fun k hk e => ?_
            have := HO.out
            rcases owns_any this with ⟨rfl, _⟩ | ⟨g, cap, rfl, hg1, hg2⟩
            · simp [Value.ownBlock] at e
            · simp [Value.ownBlock] at e; omega
          have hfin := FwRel.next hlt HD.out HPl.out HPre.out happ.1 kp
          have HF := Hid_mk hfin
          obtain ⟨g, cap, rfl, hg1, hg2⟩ := owns_some happ.1 (by simp)
          generalize (pre ++ [d.toUInt8]).length = L at *
          clear happ kp hfin
          go_wp2
          go_roundw
          case rel => exact HF.out
          case measure => simp [intOf]; omega
      · have hki : ¬ (k : Int) < 8 := by omega
        obtain rfl : k = 8 := by omega
        go_wp2
        go_ret
        have e := HPre.out
        rw [show 8 - 8 = 0 from rfl, bytesN, List.append_nil] at e
        exact ⟨_, rfl, by rw [← e]; exact HO.out, HK.out⟩

end Go.Proofs.Ytaghpjlodlbmjaa.ref
