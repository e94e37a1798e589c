/- PackFloats: the law's walk. -/
import Derived.Test.YtbnnbedmcipnpaaRefWords
import Derived.Test.YtbnnbedmcipnpaaBack
namespace Go.Proofs.Ytbnnbedmcipnpaa.floats
open Go.RowKit Go.Proofs.Ytbnnbedmcipnpaa.sum Go.Proofs.Ytbnnbedmcipnpaa.kept Go.Proofs.Ytbnnbedmcipnpaa.app Go.Proofs.Ytbnnbedmcipnpaa.writer Go.Proofs.Ytbnnbedmcipnpaa.clone Go.Proofs.Ytbnnbedmcipnpaa.known Go.Proofs.Ytbnnbedmcipnpaa.unseal Go.Proofs.Ytbnnbedmcipnpaa.number Go.Proofs.Ytbnnbedmcipnpaa.words Go.Proofs.Ytbnnbedmcipnpaa.turned Go.Proofs.Ytbnnbedmcipnpaa.laid Go.Proofs.Ytbnnbedmcipnpaa.back Go.Proofs.Ytbnnbedmcipnpaa.reader Go.Proofs.Ytbnnbedmcipnpaa.cut Go.Proofs.Ytbnnbedmcipnpaa.backWalk
set_option linter.unusedVariables false

theorem d_shift (n k : Nat) : (n : Int) / 2 ^ (8 * k) % 256 = ((n / 256 ^ k).toUInt8.toNat : Int) := by
  rw [seal.u8_toNat, pow256]
  simp

theorem bs_block_lt {w : World} {v : Value} {bs : List UInt8} (h : Bs w v bs) (hne : bs ≠ []) : ∀ b o n c, v = .slice (some ⟨b, o, none⟩) n c → b < w.heap.size := by
  rintro b o n c rfl
  obtain ⟨_, _, e, _, _, h3⟩ := h
  simp only [Value.slice.injEq] at e
  obtain ⟨b', o', e2, hc⟩ := h3 hne
  rw [← e.1] at e2
  cases e2
  exact World.block_lt_of_cell? w _ (hc 0 (List.length_pos_iff.2 hne))

def CRel (n : Nat) (w : World) (c i : Value) (wr : World) : Prop :=
  ∃ (k : Nat) (pre : List UInt8), k ≤ 8 ∧ i = .int .i64 k ∧ pre.length = k ∧ pre ++ bytesN (8 - k) (n / 256 ^ k) = bytesN 8 n ∧ wr.ownsRow w.heap.size 5 1 c pre.length (pre.map B) ∧ Kp No w wr

theorem CRel.start (n : Nat) (w wr : World) (hk : Kp No w wr) : CRel n w (.slice none 0 0) (.int .i64 0) wr := ⟨0, [], by omega, rfl, rfl, by simp, World.ownsRow_nil _ _ _ _, hk⟩
theorem CRel.next {n : Nat} {w w1 : World} {k : Nat} {pre : List UInt8} {v1 : Value} (hk : k < 8) (h1 : pre.length = k) (h2 : pre ++ bytesN (8 - k) (n / 256 ^ k) = bytesN 8 n) (ho : w1.ownsRow w.heap.size 5 1 v1 (pre ++ [(n / 256 ^ k).toUInt8]).length ((pre ++ [(n / 256 ^ k).toUInt8]).map B)) (hK : Kp No w w1) :
    CRel n w v1 (.int .i64 ((k + 1 : Nat) : Int)) w1 := by
  refine ⟨k + 1, pre ++ [(n / 256 ^ k).toUInt8], by omega, rfl, by simp; omega, ?_, ho, hK⟩
  rw [← h2, List.append_assoc, show 8 - k = (8 - (k + 1)) + 1 by omega, Nat.pow_succ, ← Nat.div_div_eq_div_mul]
  rfl

/-- a number is itself, or both are none -/
theorem one_same (x : Nat) (w : World) : Calls Try.prog 35 #[.float .f64 x, .float .f64 x] w fun e w' => e = .returned (.bool true) ∧ w = w' := by
  by_cases h : nanB x = true
  · refine one_any x x (.inr ⟨h, h, ?_⟩) w
    unfold nanB at h
    simpa using h
  · have h' : nanB x = false := by simpa using h
    refine one_any x x (.inl ⟨h', ?_⟩) w
    unfold nanB at h'
    simpa using h'

set_option maxRecDepth 100000 in
set_option maxHeartbeats 4000000 in
theorem floats_any (w : World) (x n : Nat) (hx : x < U64) (hn : n < U64) :
    Calls Try.prog 12 #[.float .f64 x, .int .u64 (n : Int)] w fun e w' => e = .returned (.bool true) ∧ Kp No w w' := by
  have HX := Hid_mk hx
  have HN := Hid_mk hn
  clear hx hn
  go_enter Try.func12, Try.ntmps12
  go_wp2_with fail
  refine (writer.new_any w).mono ?_
  rintro e w1 ⟨rfl, hw1, k1⟩
  have W1 := Hid_mk hw1
  have K1 := Hid_mk k1
  clear hw1 k1
  go_wp2_with fail
  refine (known_any _).mono ?_
  rintro e w2 ⟨rfl, hk2⟩
  have W2 := Hid_mk (W1.out.kept hk2 id fun _ _ => id)
  have K2 := Hid_mk (K1.out.trans' hk2)
  clear hk2 W1
  go_wp2_with fail
  refine (words.float_any w.heap.size w.heap.size w2 _ _ x HX.out W2.out (by simp)).mono ?_
  rintro e w3 ⟨rfl, v3, hat3⟩
  rw [List.nil_append] at hat3
  have A3 := Hid_mk hat3
  have K3 := Hid_mk (K2.out.trans hat3.2.1 (by rintro i hi (e | e); · omega
                                               · simp [Value.ownBlock] at e))
  clear hat3
  go_wp2_with fail
  refine (clone.bytes_any w.heap.size w.heap.size w3 _ _ A3.out.1 (by rw [bytesN_len]; omega)).mono ?_
  rintro e w4 ⟨v4, rfl, how4, hk4⟩
  have B4 := Hid_mk (owns_bs how4)
  have K4 := Hid_mk (K3.out.trans' hk4)
  clear hk4 how4
  go_wp2_with fail
  refine (reader.new_any _ _ _ B4.out (by rw [bytesN_len]; omega)).mono ?_
  rintro e w5 ⟨p, v5, rfl, hp, hR, hk, hf⟩
  have HR5 := Hid_mk hR
  have B5 := Hid_mk (bs_no B4.out hk)
  have K5 := Hid_mk (K4.out.trans' hk)
  have hpw : w.heap.size ≤ p := by have := K4.out.size; omega
  clear hR hk hp B4 hf
  have hrF : rFloat (bytesN 8 (canon x)) 0 0 = (canon x, 8, 0) := by
    have := float_ok (bs := bytesN 8 (canon x)) (at_ := 0) (r := []) (by simp) HX.out
    simpa using this
  have hrE : rEnd (bytesN 8 (canon x)) 8 0 = 0 := by unfold rEnd; rw [if_neg (by simp [bytesN_len])]
  have HRF := Hid_mk hrF
  have HRE := Hid_mk hrE
  have HL := Hid_mk (bytesN_len 8 (canon x))
  clear hrF hrE
  have hcE : ∀ W, Rd W p v5 (bytesN 8 (canon x)) 8 0 → Kp No w W → Calls Try.prog 18 #[.pointer (some ⟨p, 0, none⟩)] W fun e w' => e = .returned (.int .i64 0) ∧ Kp No w w' := by
    intro W hW hk
    have h1 := reader.end_any W p v5 _ 8 0 hW
    rw [HRE.out] at h1
    exact h1.mono fun e w' ⟨he, n, hw⟩ => ⟨he, by rw [hw]; exact hk.drewN n⟩
  have hcF : ∀ W, Kp No w5 W → Calls Try.prog 36 #[.pointer (some ⟨p, 0, none⟩)] W fun e w' => e = .returned (.float .f64 (canon x)) ∧ Rd w' p v5 (bytesN 8 (canon x)) 8 0 ∧ Kp No w w' := by
    intro W hW
    have h1 := reader.float_any W p v5 _ 0 0 (rd_same HR5.out hW)
    rw [HRF.out] at h1
    exact h1.mono fun e w' ⟨he, hR, hk⟩ => ⟨he, hR, (K5.out.trans' hW).trans hk fun i hi e => by omega⟩
  have hcL : ∀ W, Kp No w5 W → Calls Try.prog 29 #[.float .f64 x] W fun e w' => ∃ v', e = .returned v' ∧ Bs w' v' (bytesN 8 (canon x)) ∧ Bs w' v4 (bytesN 8 (canon x)) ∧ Kp No w5 w' := by
    intro W hW
    refine (ref.lay_float W x HX.out).mono ?_
    rintro e w' ⟨v', rfl, ho, hk⟩
    have := owns_bs (bs := bytesN 8 (canon x)) ho
    exact ⟨v', rfl, this, bs_no B5.out (hW.trans' hk), hW.trans' hk⟩
  have HCE := Hid_mk hcE
  have HCF := Hid_mk hcF
  have HCL := Hid_mk hcL
  have HO := fun w => Hid_mk (one_canon x w)
  have hconv := conv_bs (bs_no B5.out (Kp.refl No w5).drew)
  clear hcE hcF hcL
  go_wp2
  go_region_with (first
    | (go_at_call 29; refine (HCL.out _ (by exact ⟨rfl, rfl, rfl, Nat.le_refl _, fun _ _ _ => rfl⟩)).mono ?_; rintro e w6 ⟨v6, rfl, hb6, hb46, hk6⟩; have hcv6 := conv_bs hb6; have hcv46 := conv_bs hb46; have HK6 := Hid_mk hk6; clear hb6 hb46 hk6)
    | (go_at_call 36; refine (HCF.out _ (by exact HK6.out.trans' ⟨rfl, rfl, rfl, Nat.le_refl _, fun _ _ _ => rfl⟩)).mono ?_; rintro e w7 ⟨rfl, hR7, hk7⟩; have HR7 := Hid_mk hR7; have HK7 := Hid_mk hk7; clear hR7 hk7)
    | (go_at_call 35; refine (HO _).out.mono ?_; rintro e w' ⟨rfl, rfl⟩)
    | (go_at_call 18; refine (HCE.out _ (rd_same HR7.out (by exact ⟨rfl, rfl, rfl, Nat.le_refl _, fun _ _ _ => rfl⟩)) (HK7.out.trans' (by exact ⟨rfl, rfl, rfl, Nat.le_refl _, fun _ _ _ => rfl⟩))).mono ?_; rintro e w8 ⟨rfl, hk8⟩; have HK8 := Hid_mk hk8; clear hk8))
  all_goals
    clear HCE HCF HCL HO hconv HRF HRE HR5 B5 K1 W2 K2 A3 K3 K4 HR7 HK7 HK6 hcv6 hcv46
    go_wp2
    go_loopw [8, 9] (fun c i wr => CRel n w c i wr) (fun _ i _ => 8 - (intOf i).toNat)
    case atStart => exact CRel.start n w _ (HK8.out.trans' (by exact ⟨rfl, rfl, rfl, Nat.le_refl _, fun _ _ _ => rfl⟩))
    case round =>
      obtain ⟨k, pre, hk, rfl, hpl, hpre, how, hkp⟩ := hrel
      have HPre := Hid_mk hpre
      have HPl := Hid_mk hpl
      have HOw := Hid_mk how
      have HK := Hid_mk hkp
      have hsz := hkp.size
      clear hpre hpl how hkp
      by_cases hlt : k < 8
      · have hki : (k : Int) < 8 := by omega
        go_wp2_with (at_builtin; (rw [d_shift n k]; refine wpList_append_bs _ rfl _ _ rfl w.heap.size _ pre rfl (HOw.out.alloc _) _ [(n / 256 ^ k).toUInt8] rfl (bs_one wr _) ?c1 ?c2 ?_))
        case c1 => have := HPl.out; simp; omega
        case c2 => simp; omega
        · intro v' w9 happ
          have kp : Kp No w w9 := by
            refine (HK.out.alloc _).grown happ.2.1 fun k hk e => ?_
            have := HOw.out
            rcases owns_any this with ⟨rfl, _⟩ | ⟨g, cap, rfl, hg1, hg2⟩
            · simp [Value.ownBlock] at e
            · simp [Value.ownBlock] at e; omega
          have hfin := CRel.next hlt HPl.out HPre.out happ.1 kp
          have HF := Hid_mk hfin
          obtain ⟨g, cap, rfl, hg1, hg2⟩ := owns_some happ.1 (by simp)
          generalize (pre ++ [(n / 256 ^ k).toUInt8]).length = L at *
          clear happ kp hfin
          go_wp2
          go_roundw
          case rel => exact HF.out
          case measure => simp [intOf]; omega
      · have hki : ¬ (k : Int) < 8 := by omega
        obtain rfl : k = 8 := by omega
        have e := HPre.out
        rw [show 8 - 8 = 0 from rfl, bytesN, List.append_nil] at e
        have hb := owns_bs HOw.out
        rw [e] at hb
        have HB := Hid_mk hb
        obtain ⟨g, cap, rfl, hg1, hg2⟩ := owns_some HOw.out (by rw [HPl.out]; omega)
        generalize pre.length = L at *
        clear e hb HPre HOw
        go_wp2_with fail
        refine (reader.new_any _ _ _ HB.out (by rw [bytesN_len]; omega)).mono ?_
        rintro e w9 ⟨pp, v9, rfl, hp9, hR9, hk9, hf9⟩
        have HR9 := Hid_mk hR9
        have HB9 := Hid_mk (bs_no HB.out hk9)
        have HK9 := Hid_mk (HK.out.trans' hk9)
        have hs9 := hk9.size
        have hpp : w.heap.size ≤ pp := by omega
        have hplt := hR9.lt
        have HLt := Hid_mk (bs_block_lt hR9.reads (by intro e; have := bytesN_len 8 n; rw [e] at this; cases this))
        clear hR9 hk9 hf9
        go_wp2_with fail
        have hRR : ref.RR (w9.alloc (.cells #[.slice (some ⟨g, 0, none⟩) L cap, .int .i64 0, .int .i64 0] 69)) w9.heap.size (.slice (some ⟨g, 0, none⟩) L cap) (bytesN 8 n) 0 0 :=
          ⟨by simp, by simp, by simp, fun o => by simp, bs_no HB9.out ((Kp.refl No _).alloc _), (by rintro - b o n c e; cases e; omega), Nat.zero_le _, by rw [bytesN_len]; omega⟩
        have HRR := Hid_mk hRR
        have HR9' := Hid_mk (rd_same HR9.out ((Kp.refl No w9).alloc (.cells #[.slice (some ⟨g, 0, none⟩) L cap, .int .i64 0, .int .i64 0] 69)))
        clear hRR
        obtain ⟨⟨fv, fa, fb⟩, hr⟩ : ∃ t, rFloat (bytesN 8 n) 0 0 = t := ⟨_, rfl⟩
        have h1 := reader.float_any _ pp v9 _ 0 0 HR9'.out
        rw [hr] at h1
        refine h1.mono ?_
        clear h1
        rintro e w10 ⟨rfl, hR10, hk10⟩
        have HR10 := Hid_mk hR10
        have HK10 := Hid_mk ((HK9.out.alloc _).trans hk10 fun i hi e => by omega)
        have HRR10 := Hid_mk (HRR.out.kept hk10 (by omega) (fun _ b o n c e => by cases e; omega))
        clear hR10 hk10 HR9 HR9' HRR
        go_wp2_with fail
        have h1 := ref.float_any w10 _ _ _ 0 0 HRR10.out
        rw [hr] at h1
        refine h1.mono ?_
        clear h1
        rintro e w11 ⟨rfl, hRR11, hk11⟩
        have HRR11 := Hid_mk hRR11
        have HK11 := Hid_mk (HK10.out.trans hk11 fun i hi e => by have := HK9.out.size; omega)
        have HR11 := Hid_mk (HR10.out.kept hk11 (by omega) (fun b o n c e => by have := HLt.out b o n c e; omega))
        clear hRR11 hk11 HR10 HRR10
        go_wp2_with fail
        refine (one_same fv _).mono ?_
        rintro e w' ⟨rfl, rfl⟩
        go_wp2_with fail
        refine (reader.end_any w11 pp v9 _ fa fb HR11.out).mono ?_
        rintro e w12 ⟨rfl, n12, hw12⟩
        have HRR12 := Hid_mk (HRR11.out.drewN n12)
        rw [← hw12] at HRR12
        have HK12 : Hid (Kp No w w12) := Hid_mk (by rw [hw12]; exact HK11.out.drewN n12)
        clear hw12
        go_wp2_with fail
        refine (ref.end_any w12 _ _ _ fa fb HRR12.out).mono ?_
        rintro e w13 ⟨rfl, hk13⟩
        have HK13 := Hid_mk (HK12.out.trans' hk13)
        clear hk13
        go_wp2
        go_ret
        exact ⟨rfl, HK13.out⟩

/-- as the statement's row asks it -/
theorem floats_row (w : World) (x : Nat) (z : Int) (hx : (Lit.float .f64 x).wf = true) (hz : (Lit.int .u64 z).wf = true) :
    Calls Try.prog 12 #[.float .f64 x, .int .u64 z] w fun e w' => e = .returned (.bool true) ∧ Kp No w w' := by
  have hx' : x < U64 := by
    have : x < 18446744073709551616 := by simpa [Lit.wf] using hx
    rw [u64_eq]; exact this
  have hz' : 0 ≤ z ∧ z ≤ 18446744073709551615 := by simpa [Lit.wf, IntKind.min, IntKind.max, IntKind.signed, IntKind.bits] using hz
  obtain ⟨n, rfl⟩ : ∃ n : Nat, z = (n : Int) := ⟨z.toNat, by omega⟩
  exact floats_any w x n hx' (by rw [u64_eq]; omega)

end Go.Proofs.Ytbnnbedmcipnpaa.floats
