/- Package ere: an atom and the signs behind it. Package ere: brackets, atoms; all calls of the reader. -/
import Derived.Test.YtaneblecgjahbabEreRow

namespace Go.Proofs.Ytaneblecgjahbab.ere
open Go.RowKit Go.Proofs.Ytaneblecgjahbab.sum Go.Proofs.Ytaneblecgjahbab.kept Go.Proofs.Ytaneblecgjahbab.pop Go.Proofs.Ytaneblecgjahbab.cls Go.Proofs.Ytaneblecgjahbab.tre Go.Proofs.Ytaneblecgjahbab.str
set_option linter.unusedVariables false

def SignC (w0 : World) (q : Nat) (l : List UInt8) : Prop := ∀ (w : World) (k o : Nat) (T : Nat → Prop) (t : Tr) (v : Value), RdAt w0 w q l k o → k < l.length → PtV T w (absP t) v → (∀ b, w.heap.size ≤ b → T b) → (∀ b, T b → b ≠ q) → seesB l k [42, 43, 63, 123] = true →
  Calls Try.prog 91 #[.pointer (some ⟨q, 0, none⟩), v] w (RsPost T w0 w q l k o (sign1 l t k))
theorem signs_step {l : List UInt8} {m : Nat} {t : Tr} {k : Nat} (h : seesB l k [42, 43, 63, 123] = true) : signsF l (m + 1) t k = match sign1 l t k with
    | .bad c n => .bad c n
    | .ok u n => signsF l m u n := by
  rw [signsF, if_pos h]
  unfold sign1
  split
  · rfl
  · split
    · rfl
    · split
      · rfl
      · split <;> simp_all
theorem signs_stop {l : List UInt8} {m : Nat} {t : Tr} {k : Nat} (h : seesB l k [42, 43, 63, 123] = false) : signsF l (m + 1) t k = .ok t k := by
  rw [signsF, if_neg (by rw [h]; simp)]
def pcM (l : List UInt8) (q : Nat) (e : Value) (wr : World) : Nat := if intOf e = 0 then l.length - placeOf wr q + 1 else 0
theorem pcM_ok (l : List UInt8) (q : Nat) (wr : World) : pcM l q (.int .i64 0) wr = l.length - placeOf wr q + 1 := if_pos rfl
theorem pcM_bad (l : List UInt8) (q : Nat) (wr : World) (c : Nat) (h : 0 < c) : pcM l q (.int .i64 (c : Int)) wr = 0 := if_neg (by show ¬ (c : Int) = 0; omega)
/-- at the head of piece's loop: so far a tree, or something wrong -/
def PcRel (w0 w : World) (q r g : Nat) (l : List UInt8) (k0 o : Nat) (R : Rs) (e : Value) (wr : World) : Prop :=
  PAt wr r (.int .i64 0) (.int .u64 0) (.int .u64 0) (.int .u64 0) (.int .u64 0) (.slice none 0 0) (.int .i64 0) (.int .i64 0) ∧ Kp (fun b => b = q) w wr ∧ (g < wr.heap.size ∧ r < g) ∧
    ((∃ (k m : Nat) (t : Tr) (x : El), e = .int .i64 0 ∧ RdAt w0 wr q l k o ∧ x.p = absP t ∧ PAt wr g (.int .i64 x.k) (.int .u64 (wd x.f 0 64 : Nat)) (.int .u64 (wd x.f 64 64 : Nat)) (.int .u64 (wd x.f 128 64 : Nat)) (.int .u64 (wd x.f 192 64 : Nat)) (.slice x.a x.n x.c) (.int .i64 (x.p.n : Int)) (.int .i64 (x.p.h : Int)) ∧ x.ok (fun b => w.heap.size ≤ b ∧ b ≠ r ∧ b ≠ g) wr ∧ signsF l m t k = R ∧ l.length < k + m ∧ k0 < k ∧ k ≤ l.length) ∨
     (∃ (c k o' : Nat), e = .int .i64 (c : Int) ∧ 0 < c ∧ RdAt w0 wr q l k o' ∧ PAt wr g (.int .i64 0) (.int .u64 0) (.int .u64 0) (.int .u64 0) (.int .u64 0) (.slice none 0 0) (.int .i64 0) (.int .i64 0) ∧ R = .bad c k ∧ k ≤ l.length))

set_option maxRecDepth 100000 in
set_option maxHeartbeats 8000000 in
theorem piece_any {w0 : World} {q : Nat} {l : List UInt8} {bk : Nat → Option ((Nat → Bool) × Nat)} (hl : l.length < 1000000000) (hsg : SignC w0 q l) (n : Nat) (hat : AtomC w0 q l bk n) : PieceC w0 q l bk (n + 1) := by
  intro w k0 o h hk0 ho hN
  obtain ⟨W0, hW0⟩ : ∃ W0, w.alloc (.cells #[.int .i64 0, .int .u64 0, .int .u64 0, .int .u64 0, .int .u64 0, .slice none 0 0, .int .i64 0, .int .i64 0] 102) = W0 := ⟨_, rfl⟩
  obtain ⟨r, hr⟩ : ∃ r, w.heap.size = r := ⟨_, rfl⟩
  have hK0 : Kp No w W0 := by rw [← hW0]; exact (Kp.refl No w).alloc _
  have hz : W0.heap.size = r + 1 := by rw [← hW0, ← hr]; simp
  have hB : PAt W0 r (.int .i64 0) (.int .u64 0) (.int .u64 0) (.int .u64 0) (.int .u64 0) (.slice none 0 0) (.int .i64 0) (.int .i64 0) := by
    rw [← hW0, ← hr]
    exact PAt.new _ _ _ _ _ _ _ _ _ _
  have hR0 := h.no hK0
  have hqr : q < r := by have := h.lt; omega
  have hac := hat W0 k0 o hR0 hk0 ho (by omega)
  obtain ⟨R, hRs⟩ : ∃ R, pieceF l bk (n + 1) o k0 = R := ⟨_, rfl⟩
  rw [hRs]
  rw [pieceF] at hRs
  have HW0 := Hid_mk hW0
  have HR := Hid_mk hr
  have HQr := Hid_mk hqr
  have HB := Hid_mk hB
  have HK0 := Hid_mk hK0
  have HSg := Hid_mk hsg
  have HLn := Hid_mk hl
  have HZ := Hid_mk hz
  have HO := Hid_mk ho
  -- the atom, with all that it may leave, as one
  have hac2 : Calls Try.prog 90 #[.pointer (some ⟨q, 0, none⟩)] W0 fun e w' => ∃ xk xf xa xn xc L H E, e = .returned (.tuple #[.agg #[.int .i64 xk, .int .u64 (wd xf 0 64 : Nat), .int .u64 (wd xf 64 64 : Nat), .int .u64 (wd xf 128 64 : Nat), .int .u64 (wd xf 192 64 : Nat), .slice xa xn xc, .int .i64 L, .int .i64 H], .int .i64 E]) ∧
      Hid (∀ g W, g = w'.heap.size → W = w'.alloc (.cells #[.int .i64 xk, .int .u64 (wd xf 0 64 : Nat), .int .u64 (wd xf 64 64 : Nat), .int .u64 (wd xf 128 64 : Nat), .int .u64 (wd xf 192 64 : Nat), .slice xa xn xc, .int .i64 L, .int .i64 H] 102) → PcRel w0 w q r g l k0 o R (.int .i64 E) W) := by
    rcases hpf : atomF l bk n o k0 with ⟨t, k2⟩ | ⟨c, k2⟩
    · rw [hpf] at hac
      have hsR : signsF l (l.length + 1) t k2 = R := by rw [← hRs, hpf]
      refine hac.mono ?_
      rintro e w' ⟨_, rfl, ⟨xk, xf, xa, xn, xc, rfl, hv⟩, hR1, hk1, h3, h4⟩
      refine ⟨xk, xf, xa, xn, xc, _, _, _, rfl, Hid_mk ?_⟩
      rintro g W rfl rfl
      have hka : Kp No w' (w'.alloc (.cells (cellsP xk xf xa xn xc (absP t).n (absP t).h) 102)) := (Kp.refl No w').alloc _
      have hsz := hk1.size
      refine ⟨(hB.kept hk1 (by show ¬ r = q; omega)).kept hka id, ((hK0.to (S := fun b => b = q)).trans hk1 fun _ _ e => e).trans hka (T := No) fun _ _ e => e.elim, ⟨by simp, by omega⟩, .inl ⟨k2, l.length + 1, t, ⟨xk, xf, xa, xn, xc, absP t⟩, rfl, hR1.no hka, rfl, PAt.new _ _ _ _ _ _ _ _ _ _, ?_, hsR, by omega, h3, h4⟩⟩
      exact ReV.no hka _ _ (ReV.wider (fun b hb hlt => ⟨by omega, by omega, by omega⟩) _ _ hv)
    · rw [hpf] at hac
      have hsR : R = .bad c k2 := by rw [← hRs, hpf]
      refine hac.mono ?_
      rintro e w' ⟨o', rfl, hR1, hk1, h3, h4⟩
      refine ⟨0, nul, none, 0, 0, 0, 0, (c : Int), by simp only [wd_nul]; rfl, Hid_mk ?_⟩
      rintro g W rfl rfl
      have hka : ∀ ob, Kp No w' (w'.alloc ob) := fun ob => (Kp.refl No w').alloc _
      refine ⟨(hB.kept hk1 (by show ¬ r = q; omega)).kept (hka _) id, ((hK0.to (S := fun b => b = q)).trans hk1 fun _ _ e => e).trans (hka _) (T := No) fun _ _ e => e.elim, ⟨by simp, by have := hk1.size; omega⟩, .inr ⟨c, k2, o', rfl, h4, hR1.no (hka _), ?_, hsR, h3⟩⟩
      simp only [wd_nul]
      exact PAt.new _ _ _ _ _ _ _ _ _ _
  have HAc := Hid_mk hac2
  clear hat hac hac2 hRs hW0 hr hK0 hz hB hR0 hqr h hk0 ho hN hsg
  go_enter Try.func82, Try.ntmps82
  go_wp2_with fail
  rw [HR.out, HW0.out]
  clear HW0
  with_reducible refine HAc.out.mono ?_
  rintro e w1 ⟨xk, xf, xa, xn, xc, xL, xH, xE, rfl, hrel0⟩
  have HRel := hrel0
  clear hrel0 HAc
  go_wp2_with fail
  obtain ⟨g, hg⟩ : ∃ g, w1.heap.size = g := ⟨_, rfl⟩
  have HG := Hid_mk hg
  rw [hg]
  obtain ⟨W1, hW1⟩ : ∃ W1, w1.alloc (.cells #[.int .i64 xk, .int .u64 (wd xf 0 64 : Nat), .int .u64 (wd xf 64 64 : Nat), .int .u64 (wd xf 128 64 : Nat), .int .u64 (wd xf 192 64 : Nat), .slice xa xn xc, .int .i64 xL, .int .i64 xH] 102) = W1 := ⟨_, rfl⟩
  have HRl : Hid (PcRel w0 w q r g l k0 o R (.int .i64 xE) W1) := Hid_mk (HRel.out g W1 hg.symm hW1.symm)
  rw [hW1]
  clear hg hW1 HRel
  go_loopw [5] (fun e wr => PcRel w0 w q r g l k0 o R e wr) (fun e wr => pcM l q e wr)
  case atStart => exact HRl.out
  case round =>
    obtain ⟨hP, hkp, ⟨hgl, hrg⟩, hst⟩ := hrel
    have HP := Hid_mk hP
    have HKp := Hid_mk hkp
    have HGl := Hid_mk hgl
    have HRg := Hid_mk hrg
    have hnq : r < w.heap.size → No r := fun h => by have := HR.out; omega
    have HNq := Hid_mk hnq
    clear hP hkp hgl hrg hnq
    rcases hst with ⟨k, m, t, ⟨xk, xf, xa, xn, xc, xp⟩, rfl, hR, hxp, hpg, hxo, hsR, hfu, hkk, hkl⟩ | ⟨c, k, o', rfl, hc, hR, hpg, hRb, hkl⟩
    · obtain ⟨m', rfl⟩ : ∃ m', m = m' + 1 := ⟨m - 1, by omega⟩
      simp only at hxp hpg
      have hse := sees_any hR (by have := HLn.out; omega) hkl ⟨#[42, 43, 63, 123]⟩ [42, 43, 63, 123] rfl
      have HRd := Hid_mk hR
      have HXp := Hid_mk hxp
      have HPg := Hid_mk hpg
      have HXo := Hid_mk hxo
      have HFu := Hid_mk hfu
      have HKk := Hid_mk hkk
      have HKl := Hid_mk hkl
      rcases hb : seesB l k [42, 43, 63, 123] with _ | _
      · rw [hb] at hse
        have HSe := Hid_mk hse
        have HR2 := Hid_mk (show R = .ok t k from by rw [← hsR]; exact signs_stop hb)
        clear hse hb hsR hR hxp hpg hxo hfu hkk hkl
        go_wp2_with fail
        with_reducible refine HSe.out.mono ?_
        rintro e W9 ⟨rfl, n9, rfl⟩
        go_upto_region 4 with fail
        refine wp_name (fun W => Kp No wr W) ((Kp.refl No wr).drewN _) ?_
        rintro W4 hk4
        have HK4 := Hid_mk hk4
        have hp4 := HPg.out.kept hk4 id
        have hr4 := HP.out.kept hk4 id
        obtain ⟨p0, p1, p2, p3, p4, p5, p6, p7, pw⟩ := hp4
        obtain ⟨r0, r1, r2, r3, r4, r5, r6, r7, rw'⟩ := hr4
        clear hk4
        go_wp2
        have hkz : Kp (fun b => b = r) W4 (putP W4 r (.int .i64 xk) (.int .u64 (wd xf 0 64 : Nat)) (.int .u64 (wd xf 64 64 : Nat)) (.int .u64 (wd xf 128 64 : Nat)) (.int .u64 (wd xf 192 64 : Nat)) (.slice xa xn xc) (.int .i64 (xp.n : Int)) (.int .i64 (xp.h : Int))) := kp_putP (q := r) (Kp.refl (fun b => b = r) W4) (fun _ => rfl) _ _ _ _ _ _ _ _
        have hRz := (HRd.out.no HK4.out).kept hkz (by show ¬ q = r; have := HQr.out; omega) (fun i e _ => by have h1 := HRd.out.ge; have h2 := HQr.out; show w0.heap.size ≤ i; have e : i = r := e; omega)
        have hkf := (HKp.out.trans HK4.out (T := No) fun _ _ e => e.elim).trans hkz (T := fun b => b = r) fun i hi e => by have := HR.out; omega
        have hVz := ReV.wider (T' := fun b => w.heap.size ≤ b) (fun b hb _ => hb.1) _ _ (ReV.kept hkz (fun b hb _ => hb.2.1) _ _ (ReV.no HK4.out _ _ HXo.out))
        refine bodyPost_ret (v := .tuple #[.agg (cellsP xk xf xa xn xc xp.n xp.h), .int .i64 0]) ?_ rfl ?_
        · simp [results, Try.results82, go_sem, cellsP, r0, r1, r2, r3, r4, r5, r6, r7]
        · rw [HR2.out]
          exact ⟨_, rfl, by rw [← HXp.out]; exact ⟨xk, xf, xa, xn, xc, rfl, hVz⟩, hRz, hkf, HKk.out, HKl.out⟩
      · rw [hb] at hse
        have hlt := sees_lt hb
        have HSe := Hid_mk hse
        rw [signs_step hb] at hsR
        have hcall := fun W (hk : Kp No wr W) => HSg.out W k o (fun b => w.heap.size ≤ b ∧ b ≠ r ∧ b ≠ g) t (.agg (cellsP xk xf xa xn xc xp.n xp.h)) (HRd.out.no hk) hlt (by rw [← HXp.out]; exact ⟨xk, xf, xa, xn, xc, rfl, ReV.no hk _ _ HXo.out⟩) (fun b hb => by have h1 := HGl.out; have h2 := hk.size; have h3 := HRg.out; have h4 := HKp.out.size; exact ⟨by omega, by omega, by omega⟩) (fun b hb => by have h1 := HQr.out; have h2 := HR.out; omega) hb
        rcases hs1 : sign1 l t k with ⟨t2, k2⟩ | ⟨c, k2⟩
        · rw [hs1] at hsR
          have hcall2 : ∀ W, Kp No wr W → Calls Try.prog 91 #[.pointer (some ⟨q, 0, none⟩), .agg (cellsP xk xf xa xn xc xp.n xp.h)] W fun e w' => ∃ uk uf ua un uc up, e = .returned (.tuple #[.agg (cellsP uk uf ua un uc (Pt.n up) (Pt.h up)), .int .i64 0]) ∧ up = absP t2 ∧ ReV (fun b => w.heap.size ≤ b ∧ b ≠ r ∧ b ≠ g) w' up.t (.agg (cellsR uk uf ua un uc)) ∧ RdAt w0 w' q l k2 o ∧ Kp (fun b => b = q) W w' ∧ k < k2 ∧ k2 ≤ l.length := by
            intro W hk
            have h := hcall W hk
            rw [hs1] at h
            refine h.mono ?_
            rintro e w' ⟨_, rfl, ⟨uk, uf, ua, un, uc, rfl, hv⟩, h1, h2, h3, h4⟩
            exact ⟨uk, uf, ua, un, uc, _, rfl, rfl, hv, h1, h2, h3, h4⟩
          unfold cellsP at hcall2
          have HCall := Hid_mk hcall2
          have HsR := Hid_mk hsR
          clear hse hb hsR hR hxp hpg hxo hfu hkk hkl hlt hcall hcall2 hs1
          go_wp2_with fail
          with_reducible refine HSe.out.mono ?_
          rintro e W9 ⟨rfl, n9, rfl⟩
          go_upto_region 3 with fail
          refine wp_name (fun W => Kp No wr W) ((Kp.refl No wr).drewN _) ?_
          rintro W4 hk4
          have HK4 := Hid_mk hk4
          have hp4 := HPg.out.kept hk4 id
          obtain ⟨p0, p1, p2, p3, p4, p5, p6, p7, pw⟩ := hp4
          clear hk4
          go_wp2_with fail
          with_reducible refine (HCall.out W4 HK4.out).mono ?_
          rintro e W5 ⟨uk, uf, ua, un, uc, up, rfl, hup, huo, hR5, hk5, hk2, hk3⟩
          have HUp := Hid_mk hup
          have HUo := Hid_mk huo
          have HR5 := Hid_mk hR5
          have HK5 := Hid_mk hk5
          have HK2 := Hid_mk hk2
          have HK3 := Hid_mk hk3
          have hgq : ¬ g = q := by have := HRg.out; have := HQr.out; omega
          have hp5 := (HPg.out.kept HK4.out id).kept hk5 hgq
          have HP5 := Hid_mk hp5
          clear hup huo hR5 hk5 hk2 hk3 p0 p1 p2 p3 p4 p5 p6 p7 pw hgq
          obtain ⟨p0, p1, p2, p3, p4, p5, p6, p7, pw⟩ := hp5
          go_wp2
          go_roundw
          case rel =>
            have hks : Kp (fun b => b = g) W5 (putP W5 g (.int .i64 uk) (.int .u64 (wd uf 0 64 : Nat)) (.int .u64 (wd uf 64 64 : Nat)) (.int .u64 (wd uf 128 64 : Nat)) (.int .u64 (wd uf 192 64 : Nat)) (.slice ua un uc) (.int .i64 (up.n : Int)) (.int .i64 (up.h : Int))) := kp_putP (q := g) (Kp.refl (fun b => b = g) W5) (fun _ => rfl) _ _ _ _ _ _ _ _
            have hRz := HR5.out.kept hks (by show ¬ q = g; have := HQr.out; have := HRg.out; omega) (fun i e _ => by have h1 := HR5.out.ge; have h2 := HQr.out; have h3 := HRg.out; show w0.heap.size ≤ i; have e : i = g := e; omega)
            refine ⟨((HP.out.kept HK4.out id).kept HK5.out (by show ¬ r = q; have := HQr.out; omega)).kept hks (by show ¬ r = g; have := HRg.out; omega), ((HKp.out.trans HK4.out (T := No) fun _ _ e => e.elim).trans HK5.out fun _ _ e => e).trans hks (T := fun b => b = g) fun i hi e => by have := HR.out; have := HRg.out; omega, ⟨Nat.lt_of_lt_of_le HP5.out.lt hks.size, HRg.out⟩, .inl ⟨k2, m', t2, ⟨uk, uf, ua, un, uc, up⟩, rfl, hRz, HUp.out, HP5.out.put _ _ _ _ _ _ _ _, ReV.kept hks (fun b hb _ => hb.2.2) _ _ HUo.out, HsR.out, by have := HFu.out; have := HK2.out; omega, by have := HKk.out; have := HK2.out; omega, HK3.out⟩⟩
          case measure =>
            have hks : Kp (fun b => b = g) W5 (putP W5 g (.int .i64 uk) (.int .u64 (wd uf 0 64 : Nat)) (.int .u64 (wd uf 64 64 : Nat)) (.int .u64 (wd uf 128 64 : Nat)) (.int .u64 (wd uf 192 64 : Nat)) (.slice ua un uc) (.int .i64 (up.n : Int)) (.int .i64 (up.h : Int))) := kp_putP (q := g) (Kp.refl (fun b => b = g) W5) (fun _ => rfl) _ _ _ _ _ _ _ _
            have hRz := HR5.out.kept hks (by show ¬ q = g; have := HQr.out; have := HRg.out; omega) (fun i e _ => by have h1 := HR5.out.ge; have h2 := HQr.out; have h3 := HRg.out; show w0.heap.size ≤ i; have e : i = g := e; omega)
            have e1 := place_is hRz
            have e2 := place_is HRd.out
            unfold putP at e1
            rw [pcM_ok, pcM_ok, e1, e2]
            have := HK2.out
            have := HK3.out
            omega
        · rw [hs1] at hsR
          have hcall2 : ∀ W, Kp No wr W → Calls Try.prog 91 #[.pointer (some ⟨q, 0, none⟩), .agg (cellsP xk xf xa xn xc xp.n xp.h)] W fun e w' => ∃ o', e = .returned (.tuple #[.agg #[.int .i64 0, .int .u64 0, .int .u64 0, .int .u64 0, .int .u64 0, .slice none 0 0, .int .i64 0, .int .i64 0], .int .i64 (c : Int)]) ∧ RdAt w0 w' q l k2 o' ∧ Kp (fun b => b = q) W w' ∧ k2 ≤ l.length ∧ 0 < c := by
            intro W hk
            have h := hcall W hk
            rw [hs1] at h
            exact h
          unfold cellsP at hcall2
          have HCall := Hid_mk hcall2
          have HR2 := Hid_mk (show R = .bad c k2 from hsR.symm)
          clear hse hb hsR hR hxp hpg hxo hfu hkk hkl hlt hcall hcall2 hs1
          go_wp2_with fail
          with_reducible refine HSe.out.mono ?_
          rintro e W9 ⟨rfl, n9, rfl⟩
          go_upto_region 3 with fail
          refine wp_name (fun W => Kp No wr W) ((Kp.refl No wr).drewN _) ?_
          rintro W4 hk4
          have HK4 := Hid_mk hk4
          have hp4 := HPg.out.kept hk4 id
          obtain ⟨p0, p1, p2, p3, p4, p5, p6, p7, pw⟩ := hp4
          clear hk4
          go_wp2_with fail
          with_reducible refine (HCall.out W4 HK4.out).mono ?_
          rintro e W5 ⟨o', rfl, hR5, hk5, hk3, hc⟩
          have HR5 := Hid_mk hR5
          have HK5 := Hid_mk hk5
          have HK3 := Hid_mk hk3
          have HC := Hid_mk hc
          have hgq : ¬ g = q := by have := HRg.out; have := HQr.out; omega
          have hp5 := (HPg.out.kept HK4.out id).kept hk5 hgq
          have HP5 := Hid_mk hp5
          clear hR5 hk5 hk3 p0 p1 p2 p3 p4 p5 p6 p7 pw hgq hc
          obtain ⟨p0, p1, p2, p3, p4, p5, p6, p7, pw⟩ := hp5
          go_wp2
          go_roundw
          case rel =>
            have hks : Kp (fun b => b = g) W5 (putP W5 g (.int .i64 0) (.int .u64 0) (.int .u64 0) (.int .u64 0) (.int .u64 0) (.slice none 0 0) (.int .i64 0) (.int .i64 0)) := kp_putP (q := g) (Kp.refl (fun b => b = g) W5) (fun _ => rfl) _ _ _ _ _ _ _ _
            have hRz := HR5.out.kept hks (by show ¬ q = g; have := HQr.out; have := HRg.out; omega) (fun i e _ => by have h1 := HR5.out.ge; have h2 := HQr.out; have h3 := HRg.out; show w0.heap.size ≤ i; have e : i = g := e; omega)
            refine ⟨((HP.out.kept HK4.out id).kept HK5.out (by show ¬ r = q; have := HQr.out; omega)).kept hks (by show ¬ r = g; have := HRg.out; omega), ((HKp.out.trans HK4.out (T := No) fun _ _ e => e.elim).trans HK5.out fun _ _ e => e).trans hks (T := fun b => b = g) fun i hi e => by have := HR.out; have := HRg.out; omega, ⟨Nat.lt_of_lt_of_le HP5.out.lt hks.size, HRg.out⟩, .inr ⟨c, k2, o', rfl, HC.out, hRz, HP5.out.put _ _ _ _ _ _ _ _, HR2.out, HK3.out⟩⟩
          case measure =>
            rw [pcM_bad _ _ _ _ HC.out, pcM_ok]
            omega
    · have hcf : ((c : Int) == 0) = false := by rw [beq_eq_false_iff_ne]; omega
      have HRd := Hid_mk hR
      have HC := Hid_mk hc
      have HRb := Hid_mk hRb
      have HKl := Hid_mk hkl
      have hr4 := HP.out
      obtain ⟨p0, p1, p2, p3, p4, p5, p6, p7, pw⟩ := hpg
      obtain ⟨r0, r1, r2, r3, r4, r5, r6, r7, rw'⟩ := hr4
      clear hR hc hRb hkl
      go_wp2
      have hkz : Kp (fun b => b = r) wr (putP wr r (.int .i64 0) (.int .u64 0) (.int .u64 0) (.int .u64 0) (.int .u64 0) (.slice none 0 0) (.int .i64 0) (.int .i64 0)) := kp_putP (q := r) (Kp.refl (fun b => b = r) wr) (fun _ => rfl) _ _ _ _ _ _ _ _
      have hRz := HRd.out.kept hkz (by show ¬ q = r; have := HQr.out; omega) (fun i e _ => by have h1 := HRd.out.ge; have h2 := HQr.out; show w0.heap.size ≤ i; have e : i = r := e; omega)
      have hkf := HKp.out.trans hkz (T := fun b => b = r) fun i hi e => by have := HR.out; omega
      refine bodyPost_ret (v := .tuple #[.agg #[.int .i64 0, .int .u64 0, .int .u64 0, .int .u64 0, .int .u64 0, .slice none 0 0, .int .i64 0, .int .i64 0], .int .i64 (c : Int)]) ?_ rfl ?_
      · simp [results, Try.results82, go_sem, r0, r1, r2, r3, r4, r5, r6, r7]
      · rw [HRb.out]
        exact ⟨o', rfl, hRz, hkf, HKl.out, HC.out⟩

end Go.Proofs.Ytaneblecgjahbab.ere

namespace Go.Proofs.Ytaneblecgjahbab.ere
open Go.RowKit Go.Proofs.Ytaneblecgjahbab.sum Go.Proofs.Ytaneblecgjahbab.kept Go.Proofs.Ytaneblecgjahbab.pop Go.Proofs.Ytaneblecgjahbab.cls Go.Proofs.Ytaneblecgjahbab.tre Go.Proofs.Ytaneblecgjahbab.str
set_option linter.unusedVariables false

/-- a bracket at a place -/
def brkR (bk : Nat → Option ((Nat → Bool) × Nat)) (k : Nat) : Rs := match bk (k + 1) with
  | none => .bad 24 k
  | some (f, n) => .ok (setT f) n
def BrktC (w0 : World) (q : Nat) (l : List UInt8) (bk : Nat → Option ((Nat → Bool) × Nat)) : Prop := ∀ (w : World) (k o : Nat), RdAt w0 w q l k o → k < l.length → atB l k = 91 →
  Calls Try.prog 97 #[.pointer (some ⟨q, 0, none⟩)] w (RsPost (fun b => w.heap.size ≤ b) w0 w q l k o (brkR bk k))
/-- a group at a place -/
def grpR (l : List UInt8) (bk : Nat → Option ((Nat → Bool) × Nat)) (n o k : Nat) : Rs :=
  if o = 10 then .bad 26 k
  else match (altsF l bk n (o + 1) (k + 1)).join 3 with
    | .bad e k' => .bad e k'
    | .ok t k' => if seesB l k' [41] = true then .ok t (k' + 1) else .bad 24 k'
/-- what a call leaves, stored as one's own answer -/
theorem rs_pass {w w0 W1 : World} {q r : Nat} {l : List UInt8} {k o : Nat} {R : Rs} {f : FuncId} {args : Array Value} (hk : Kp No w W1) (hr : w.heap.size = r) (hqr : q < r) (hr1 : r < W1.heap.size) (hge : w0.heap.size ≤ q)
    (h : Calls Try.prog f args W1 (RsPost (fun b => W1.heap.size ≤ b) w0 W1 q l k o R)) :
    Calls Try.prog f args W1 fun e w' => ∃ xk xf xa xn xc L H E, e = .returned (.tuple #[.agg #[.int .i64 xk, .int .u64 (wd xf 0 64 : Nat), .int .u64 (wd xf 64 64 : Nat), .int .u64 (wd xf 128 64 : Nat), .int .u64 (wd xf 192 64 : Nat), .slice xa xn xc, .int .i64 L, .int .i64 H], .int .i64 E]) ∧ Kp (fun b => b = q) W1 w' ∧ Hid (RsPost (fun b => w.heap.size ≤ b) w0 w q l k o R (.returned (.tuple #[.agg #[.int .i64 xk, .int .u64 (wd xf 0 64 : Nat), .int .u64 (wd xf 64 64 : Nat), .int .u64 (wd xf 128 64 : Nat), .int .u64 (wd xf 192 64 : Nat), .slice xa xn xc, .int .i64 L, .int .i64 H], .int .i64 E])) (putP w' r (.int .i64 xk) (.int .u64 (wd xf 0 64 : Nat)) (.int .u64 (wd xf 64 64 : Nat)) (.int .u64 (wd xf 128 64 : Nat)) (.int .u64 (wd xf 192 64 : Nat)) (.slice xa xn xc) (.int .i64 L) (.int .i64 H))) := by
  have hz := hk.size
  have hkz : ∀ w' x0 x1 x2 x3 x4 x5 x6 x7, Kp (fun b => b = r) w' (putP w' r x0 x1 x2 x3 x4 x5 x6 x7) := fun w' x0 x1 x2 x3 x4 x5 x6 x7 => kp_putP (q := r) (Kp.refl (fun b => b = r) w') (fun _ => rfl) _ _ _ _ _ _ _ _
  rcases R with ⟨t, n⟩ | ⟨c, n⟩
  · refine h.mono ?_
    rintro e w' ⟨_, rfl, ⟨xk, xf, xa, xn, xc, rfl, hv⟩, hR, hk1, h3, h4⟩
    refine ⟨xk, xf, xa, xn, xc, _, _, _, rfl, hk1, Hid_mk ⟨_, rfl, ⟨xk, xf, xa, xn, xc, rfl, ?_⟩, hR.kept (hkz _ _ _ _ _ _ _ _ _) (by show ¬ q = r; omega) (fun i e _ => by have e : i = r := e; omega), ((hk.to (S := fun b => b = q)).trans hk1 fun _ _ e => e).trans (hkz _ _ _ _ _ _ _ _ _) (T := fun b => b = r) fun i hi e => by omega, h3, h4⟩⟩
    exact ReV.wider (fun b hb _ => Nat.le_trans hz hb) _ _ (ReV.kept (hkz _ _ _ _ _ _ _ _ _) (fun b hb _ => by have hb : W1.heap.size ≤ b := hb; show ¬ b = r; omega) _ _ hv)
  · refine h.mono ?_
    rintro e w' ⟨o', rfl, hR, hk1, h3, h4⟩
    refine ⟨0, nul, none, 0, 0, 0, 0, (c : Int), by simp only [wd_nul]; rfl, hk1, Hid_mk ⟨o', by simp only [wd_nul]; rfl, hR.kept (hkz _ _ _ _ _ _ _ _ _) (by show ¬ q = r; omega) (fun i e _ => by have e : i = r := e; omega), ((hk.to (S := fun b => b = q)).trans hk1 fun _ _ e => e).trans (hkz _ _ _ _ _ _ _ _ _) (T := fun b => b = r) fun i hi e => by omega, h3, h4⟩⟩

set_option maxRecDepth 100000 in
set_option maxHeartbeats 8000000 in
theorem group_any {w0 w : World} {q : Nat} {l : List UInt8} {bk : Nat → Option ((Nat → Bool) × Nat)} {k o : Nat} (n : Nat) (hal : AltC w0 q l bk n) (h : RdAt w0 w q l k o) (hl : l.length < 1000000000) (hk : k < l.length) (ho : o ≤ 10) (hn : 8 * (l.length - k) ≤ n) :
    Calls Try.prog 96 #[.pointer (some ⟨q, 0, none⟩)] w (RsPost (fun b => w.heap.size ≤ b) w0 w q l k o (grpR l bk n o k)) := by
  obtain ⟨W0, hW0⟩ : ∃ W0, w.alloc (.cells #[.int .i64 0, .int .u64 0, .int .u64 0, .int .u64 0, .int .u64 0, .slice none 0 0, .int .i64 0, .int .i64 0] 102) = W0 := ⟨_, rfl⟩
  obtain ⟨r, hr⟩ : ∃ r, w.heap.size = r := ⟨_, rfl⟩
  have hK0 : Kp No w W0 := by rw [← hW0]; exact (Kp.refl No w).alloc _
  have hz : W0.heap.size = r + 1 := by rw [← hW0, ← hr]; simp
  have hB : PAt W0 r (.int .i64 0) (.int .u64 0) (.int .u64 0) (.int .u64 0) (.int .u64 0) (.slice none 0 0) (.int .i64 0) (.int .i64 0) := by
    rw [← hW0, ← hr]
    exact PAt.new _ _ _ _ _ _ _ _ _ _
  have hR0 := h.no hK0
  have hqr : q < r := by have := h.lt; omega
  have hsz := st_size l
  have hki0 : (0 : Int) ≤ (k : Int) := Int.natCast_nonneg _
  have hwk : IntKind.i64.wrap ((k : Int) + 1) = ((k + 1 : Nat) : Int) := by rw [IntWalk.i64_in _ (by omega)]; push_cast; rfl
  have HW0 := Hid_mk hW0
  have HR := Hid_mk hr
  have HQr := Hid_mk hqr
  have HB := Hid_mk hB
  have HR0 := Hid_mk hR0
  have HK0 := Hid_mk hK0
  have HZ := Hid_mk hz
  have HLn := Hid_mk hl
  have HO := Hid_mk ho
  have HKS := Hid_mk hk
  have HAl := Hid_mk hal
  have HN := Hid_mk hn
  obtain ⟨R, hRs⟩ : ∃ R, grpR l bk n o k = R := ⟨_, rfl⟩
  rw [hRs]
  unfold grpR at hRs
  have HRs := Hid_mk hRs
  have c1 := hR0.c1
  have c2 := hR0.c2
  have cw := hR0.warm
  have hoi0 : (0 : Int) ≤ (o : Int) := Int.natCast_nonneg _
  have hwo : IntKind.i64.wrap ((o : Int) + 1) = ((o + 1 : Nat) : Int) := by rw [IntWalk.i64_in _ (by omega)]; push_cast; rfl
  have hwo2 : IntKind.i64.wrap ((o : Int) + 1 - 1) = (o : Int) := by rw [IntWalk.i64_in _ (by omega)]; omega
  have hwo3 : wrap64 (o : Int) = (o : Int) := IntWalk.wrap64_in _ (by omega)
  clear hW0 hr hK0 hR0 h hqr hRs hal hn hz hk
  by_cases h10 : o = 10
  · subst h10
    have HR2 := Hid_mk (show R = .bad 26 k from by rw [← HRs.out]; rfl)
    obtain ⟨r0, r1, r2, r3, r4, r5, r6, r7, rw'⟩ := hB
    clear HRs hl ho hwo hwo2
    go_enter Try.func96, Try.ntmps96
    go_upto_region 1 with fail
    rw [HR.out, HW0.out]
    clear HW0
    go_wp2
    have hkz : Kp (fun b => b = r) W0 (putP W0 r (.int .i64 0) (.int .u64 0) (.int .u64 0) (.int .u64 0) (.int .u64 0) (.slice none 0 0) (.int .i64 0) (.int .i64 0)) := kp_putP (q := r) (Kp.refl (fun b => b = r) W0) (fun _ => rfl) _ _ _ _ _ _ _ _
    have hRz := HR0.out.kept hkz (by show ¬ q = r; have := HQr.out; omega) (fun i e _ => by have h1 := HR0.out.ge; have h2 := HQr.out; show w0.heap.size ≤ i; have e : i = r := e; omega)
    have hkf := (HK0.out.to (S := fun b => b = q)).trans hkz (T := fun b => b = r) fun i hi e => by have := HR.out; omega
    refine bodyPost_ret (v := .tuple #[.agg #[.int .i64 0, .int .u64 0, .int .u64 0, .int .u64 0, .int .u64 0, .slice none 0 0, .int .i64 0, .int .i64 0], .int .i64 26]) ?_ rfl ?_
    · simp [results, Try.results96, go_sem, r0, r1, r2, r3, r4, r5, r6, r7]
    · rw [HR2.out]
      exact ⟨10, rfl, hRz, hkf, Nat.le_of_lt HKS.out, by decide⟩
  · have hoi : ((o : Int) == 10) = false := by rw [beq_eq_false_iff_ne]; omega
    rw [if_neg h10] at HRs
    have H10 := Hid_mk h10
    clear h10 hl ho hB
    go_enter Try.func96, Try.ntmps96
    go_upto_region 1 with fail
    rw [HR.out, HW0.out]
    clear HW0
    go_upto_region 5 with fail
    have hks : Kp (fun b => b = q) W0 ((W0.setCell ⟨q, 2, none⟩ (.int .i64 ((o + 1 : Nat) : Int))).setCell ⟨q, 1, none⟩ (.int .i64 ((k + 1 : Nat) : Int))) := ((Kp.refl (fun b => b = q) W0).setCell (p := ⟨q, 2, none⟩) (fun _ => rfl) _).setCell (p := ⟨q, 1, none⟩) (fun _ => rfl) _
    refine wp_name (fun W => RdAt w0 W q l (k + 1) (o + 1) ∧ Kp (fun b => b = q) W0 W) ⟨(HR0.out.open' (o + 1)).at' (k + 1), hks⟩ ?_
    clear hks c1 c2 cw
    rintro W1 ⟨hR1, hk1⟩
    have hac := HAl.out W1 (k + 1) (o + 1) hR1 HKS.out (by have := HO.out; have := H10.out; omega) (by have := HN.out; have := HKS.out; omega)
    have HK1 := Hid_mk ((HK0.out.to (S := fun b => b = q)).trans hk1 fun _ _ e => e)
    have HB1 := Hid_mk (HB.out.kept hk1 (by show ¬ r = q; have := HQr.out; omega))
    have HW1 := Hid_mk (show r + 1 ≤ W1.heap.size by have := hk1.size; have := HZ.out; omega)
    clear hR1 hk1 HR0 HB
    rcases hpf : (altsF l bk n (o + 1) (k + 1)).join 3 with ⟨t, k2⟩ | ⟨c, k2⟩
    · rw [hpf] at hac HRs
      have hac2 : Calls Try.prog 47 #[.pointer (some ⟨q, 0, none⟩)] W1 fun e w' => ∃ xk xf xa xn xc xp, e = .returned (.tuple #[.agg (cellsP xk xf xa xn xc (Pt.n xp) (Pt.h xp)), .int .i64 0]) ∧ xp = absP t ∧ ReV (fun b => W1.heap.size ≤ b) w' xp.t (.agg (cellsR xk xf xa xn xc)) ∧ RdAt w0 w' q l k2 (o + 1) ∧ Kp (fun b => b = q) W1 w' ∧ k + 1 < k2 ∧ k2 ≤ l.length := by
        refine hac.mono ?_
        rintro e w' ⟨_, rfl, ⟨xk, xf, xa, xn, xc, rfl, hv⟩, h1, h2, h3, h4⟩
        exact ⟨xk, xf, xa, xn, xc, _, rfl, rfl, hv, h1, h2, h3, h4⟩
      unfold cellsP at hac2
      have HAc := Hid_mk hac2
      clear hac hac2 hpf
      go_wp2_with fail
      with_reducible refine HAc.out.mono ?_
      rintro e w1 ⟨xk, xf, xa, xn, xc, xp, rfl, hxp, hxv, hR2, hk2, hk3, hk4⟩
      have HXp := Hid_mk hxp
      have HXv := Hid_mk hxv
      have HK2 := Hid_mk hk2
      have HK3 := Hid_mk hk3
      have HK4 := Hid_mk hk4
      have hge := hR2.ge
      have HRd2 := Hid_mk hR2
      have hse := fun W hk => sees_any (hR2.no (w' := W) hk) (by have := HLn.out; omega) hk4 ⟨#[41]⟩ [41] rfl
      have HB2 := Hid_mk (HB1.out.kept hk2 (by show ¬ r = q; have := HQr.out; omega))
      have HW2 := Hid_mk (show r + 1 ≤ w1.heap.size by have := hk2.size; have := HW1.out; omega)
      clear hxp hxv hR2 hk2 hk3 hk4 HAc
      go_upto_region 6 with fail
      obtain ⟨g, hg⟩ : ∃ g, w1.heap.size = g := ⟨_, rfl⟩
      rw [hg]
      have hp5 : PAt (w1.alloc (.cells #[.int .i64 xk, .int .u64 (wd xf 0 64 : Nat), .int .u64 (wd xf 64 64 : Nat), .int .u64 (wd xf 128 64 : Nat), .int .u64 (wd xf 192 64 : Nat), .slice xa xn xc, .int .i64 (xp.n : Int), .int .i64 (xp.h : Int)] 102)) g (.int .i64 xk) (.int .u64 (wd xf 0 64 : Nat)) (.int .u64 (wd xf 64 64 : Nat)) (.int .u64 (wd xf 128 64 : Nat)) (.int .u64 (wd xf 192 64 : Nat)) (.slice xa xn xc) (.int .i64 (xp.n : Int)) (.int .i64 (xp.h : Int)) := by
        rw [← hg]
        exact PAt.new _ _ _ _ _ _ _ _ _ _
      have hk5 : Kp No w1 (w1.alloc (.cells #[.int .i64 xk, .int .u64 (wd xf 0 64 : Nat), .int .u64 (wd xf 64 64 : Nat), .int .u64 (wd xf 128 64 : Nat), .int .u64 (wd xf 192 64 : Nat), .slice xa xn xc, .int .i64 (xp.n : Int), .int .i64 (xp.h : Int)] 102)) := (Kp.refl No w1).alloc _
      have hgr : r + 1 ≤ g := by have := HW2.out; omega
      have HGr := Hid_mk hgr
      refine wp_name (fun W => PAt W g (.int .i64 xk) (.int .u64 (wd xf 0 64 : Nat)) (.int .u64 (wd xf 64 64 : Nat)) (.int .u64 (wd xf 128 64 : Nat)) (.int .u64 (wd xf 192 64 : Nat)) (.slice xa xn xc) (.int .i64 (xp.n : Int)) (.int .i64 (xp.h : Int)) ∧ Kp No w1 W) ⟨hp5, hk5⟩ ?_
      clear hp5 hk5 hgr
      rintro W5 ⟨hp5, hk5⟩
      have HP5 := Hid_mk hp5
      have HK5 := Hid_mk hk5
      have hse5 := hse W5 hk5
      have HKw5 := Hid_mk ((HK1.out.trans HK2.out fun _ _ e => e).trans hk5 (T := No) fun _ _ e => e.elim)
      have HG := Hid_mk hg
      clear hse hp5 hk5 hg
      rcases hb : seesB l k2 [41] with _ | _
      · have HR2 := Hid_mk (show R = .bad 24 k2 from by rw [← HRs.out]; show (if seesB l k2 [41] = true then Rs.ok t (k2 + 1) else Rs.bad 24 k2) = _; rw [hb]; rfl)
        rw [hb] at hse5
        have HSe := Hid_mk hse5
        clear hse5 hb
        go_wp2_with fail
        with_reducible refine HSe.out.mono ?_
        rintro e W9 ⟨rfl, n9, rfl⟩
        go_upto_region 9 with fail
        refine wp_name (fun W => Kp No W5 W) ((Kp.refl No W5).drewN _) ?_
        rintro W7 hk7
        have HK7 := Hid_mk hk7
        have hb7 := ((HB2.out.kept HK5.out id).kept hk7 id)
        obtain ⟨r0, r1, r2, r3, r4, r5, r6, r7, rw'⟩ := hb7
        clear hk7
        go_wp2
        have hkz : Kp (fun b => b = r) W7 (putP W7 r (.int .i64 0) (.int .u64 0) (.int .u64 0) (.int .u64 0) (.int .u64 0) (.slice none 0 0) (.int .i64 0) (.int .i64 0)) := kp_putP (q := r) (Kp.refl (fun b => b = r) W7) (fun _ => rfl) _ _ _ _ _ _ _ _
        have hRz := ((HRd2.out.no HK5.out).no HK7.out).kept hkz (by show ¬ q = r; have := HQr.out; omega) (fun i e _ => by have h1 := ((HRd2.out.no HK5.out).no HK7.out).ge; have h2 := HQr.out; show w0.heap.size ≤ i; have e : i = r := e; omega)
        have hkf := (HKw5.out.trans HK7.out (T := No) fun _ _ e => e.elim).trans hkz (T := fun b => b = r) fun i hi e => by have := HR.out; omega
        refine bodyPost_ret (v := .tuple #[.agg #[.int .i64 0, .int .u64 0, .int .u64 0, .int .u64 0, .int .u64 0, .slice none 0 0, .int .i64 0, .int .i64 0], .int .i64 24]) ?_ rfl ?_
        · simp [results, Try.results96, go_sem, r0, r1, r2, r3, r4, r5, r6, r7]
        · rw [HR2.out]
          exact ⟨(o + 1), rfl, hRz, hkf, HK4.out, by decide⟩
      · have hlt := sees_lt hb
        have HR2 := Hid_mk (show R = .ok t (k2 + 1) from by rw [← HRs.out]; show (if seesB l k2 [41] = true then Rs.ok t (k2 + 1) else Rs.bad 24 k2) = _; rw [hb]; rfl)
        rw [hb] at hse5
        have HSe := Hid_mk hse5
        have HLt := Hid_mk hlt
        have hki2 : (0 : Int) ≤ (k2 : Int) := Int.natCast_nonneg _
        have hwk2 : IntKind.i64.wrap ((k2 : Int) + 1) = ((k2 + 1 : Nat) : Int) := by rw [IntWalk.i64_in _ (by have := HLn.out; omega)]; push_cast; rfl
        clear hse5 hb hlt
        go_wp2_with fail
        with_reducible refine HSe.out.mono ?_
        rintro e W9 ⟨rfl, n9, rfl⟩
        go_upto_region 10 with fail
        refine wp_name (fun W => Kp No W5 W) ((Kp.refl No W5).drewN _) ?_
        rintro W7 hk7
        have HK7 := Hid_mk hk7
        have hR7 := (HRd2.out.no HK5.out).no hk7
        have HR7 := Hid_mk hR7
        have c1 := hR7.c1
        have c2 := hR7.c2
        have cw := hR7.warm
        clear hk7 hR7
        go_upto_region 12 with fail
        have hks : Kp (fun b => b = q) W7 ((W7.setCell ⟨q, 1, none⟩ (.int .i64 ((k2 + 1 : Nat) : Int))).setCell ⟨q, 2, none⟩ (.int .i64 (o : Int))) := ((Kp.refl (fun b => b = q) W7).setCell (p := ⟨q, 1, none⟩) (fun _ => rfl) _).setCell (p := ⟨q, 2, none⟩) (fun _ => rfl) _
        refine wp_name (fun W => RdAt w0 W q l (k2 + 1) o ∧ Kp (fun b => b = q) W7 W) ⟨(HR7.out.at' (k2 + 1)).open' o, hks⟩ ?_
        clear hks c1 c2 cw
        rintro W8 ⟨hR8, hk8⟩
        have HR8 := Hid_mk hR8
        have HK8 := Hid_mk hk8
        have hp8 := (HP5.out.kept HK7.out id).kept hk8 (by show ¬ g = q; have := HQr.out; have := HGr.out; omega)
        have hb8 := ((HB2.out.kept HK5.out id).kept HK7.out id).kept hk8 (by show ¬ r = q; have := HQr.out; omega)
        obtain ⟨p0, p1, p2, p3, p4, p5, p6, p7, pw⟩ := hp8
        obtain ⟨r0, r1, r2, r3, r4, r5, r6, r7, rw'⟩ := hb8
        clear hR8 hk8
        go_wp2
        have hkz : Kp (fun b => b = r) W8 (putP W8 r (.int .i64 xk) (.int .u64 (wd xf 0 64 : Nat)) (.int .u64 (wd xf 64 64 : Nat)) (.int .u64 (wd xf 128 64 : Nat)) (.int .u64 (wd xf 192 64 : Nat)) (.slice xa xn xc) (.int .i64 (xp.n : Int)) (.int .i64 (xp.h : Int))) := kp_putP (q := r) (Kp.refl (fun b => b = r) W8) (fun _ => rfl) _ _ _ _ _ _ _ _
        have hRz := HR8.out.kept hkz (by show ¬ q = r; have := HQr.out; omega) (fun i e _ => by have h1 := HR8.out.ge; have h2 := HQr.out; show w0.heap.size ≤ i; have e : i = r := e; omega)
        have hkf := ((HKw5.out.trans HK7.out (T := No) fun _ _ e => e.elim).trans HK8.out fun _ _ e => e).trans hkz (T := fun b => b = r) fun i hi e => by have := HR.out; omega
        have hV8 := ReV.kept HK8.out (fun b hb _ => by have hb : W1.heap.size ≤ b := hb; have := HW1.out; have := HQr.out; show ¬ b = q; omega) _ _ (ReV.no HK7.out _ _ (ReV.no HK5.out _ _ HXv.out))
        have hVz := ReV.wider (T' := fun b => w.heap.size ≤ b) (fun b hb _ => by have hb : W1.heap.size ≤ b := hb; have := HW1.out; have := HR.out; omega) _ _ (ReV.kept hkz (fun b hb _ => by have hb : W1.heap.size ≤ b := hb; have := HW1.out; show ¬ b = r; omega) _ _ hV8)
        refine bodyPost_ret (v := .tuple #[.agg (cellsP xk xf xa xn xc xp.n xp.h), .int .i64 0]) ?_ rfl ?_
        · simp [results, Try.results96, go_sem, cellsP, r0, r1, r2, r3, r4, r5, r6, r7]
        · rw [HR2.out]
          exact ⟨_, rfl, by rw [← HXp.out]; exact ⟨xk, xf, xa, xn, xc, rfl, hVz⟩, hRz, hkf, by have := HK3.out; omega, HLt.out⟩
    · rw [hpf] at hac HRs
      have HR2 := Hid_mk (show R = .bad c k2 from by rw [← HRs.out])
      have hac2 : Calls Try.prog 47 #[.pointer (some ⟨q, 0, none⟩)] W1 fun e w' => ∃ o', e = .returned (.tuple #[.agg #[.int .i64 0, .int .u64 0, .int .u64 0, .int .u64 0, .int .u64 0, .slice none 0 0, .int .i64 0, .int .i64 0], .int .i64 (c : Int)]) ∧ RdAt w0 w' q l k2 o' ∧ Kp (fun b => b = q) W1 w' ∧ k2 ≤ l.length ∧ 0 < c := hac
      have HAc := Hid_mk hac2
      clear hac hac2 hpf
      go_wp2_with fail
      with_reducible refine HAc.out.mono ?_
      rintro e w1 ⟨o', rfl, hR1, hk1, hk2, hc⟩
      have hcn : ((c : Int) != 0) = true := by simp; omega
      have hcf : ((c : Int) == 0) = false := by rw [beq_eq_false_iff_ne]; omega
      have hb1 := HB1.out.kept hk1 (by show ¬ r = q; have := HQr.out; omega)
      have HR1 := Hid_mk hR1
      have HKw := Hid_mk (HK1.out.trans hk1 fun _ _ e => e)
      have HK2 := Hid_mk hk2
      have HC := Hid_mk hc
      have HB2 := Hid_mk hb1
      clear hR1 hk1 hk2 hc hb1 HAc
      go_upto_region 9 with fail
      refine wp_name (fun W => Kp No w1 W) ((Kp.refl No w1).alloc _) ?_
      rintro W7 hk7
      have HK7 := Hid_mk hk7
      have hb7 := HB2.out.kept hk7 id
      obtain ⟨r0, r1, r2, r3, r4, r5, r6, r7, rw'⟩ := hb7
      clear hk7
      go_wp2
      have hkz : Kp (fun b => b = r) W7 (putP W7 r (.int .i64 0) (.int .u64 0) (.int .u64 0) (.int .u64 0) (.int .u64 0) (.slice none 0 0) (.int .i64 0) (.int .i64 0)) := kp_putP (q := r) (Kp.refl (fun b => b = r) W7) (fun _ => rfl) _ _ _ _ _ _ _ _
      have hRz := (HR1.out.no HK7.out).kept hkz (by show ¬ q = r; have := HQr.out; omega) (fun i e _ => by have h1 := (HR1.out.no HK7.out).ge; have h2 := HQr.out; show w0.heap.size ≤ i; have e : i = r := e; omega)
      have hkf := (HKw.out.trans HK7.out (T := No) fun _ _ e => e.elim).trans hkz (T := fun b => b = r) fun i hi e => by have := HR.out; omega
      refine bodyPost_ret (v := .tuple #[.agg #[.int .i64 0, .int .u64 0, .int .u64 0, .int .u64 0, .int .u64 0, .slice none 0 0, .int .i64 0, .int .i64 0], .int .i64 (c : Int)]) ?_ rfl ?_
      · simp [results, Try.results96, go_sem, r0, r1, r2, r3, r4, r5, r6, r7]
      · rw [HR2.out]
        exact ⟨o', rfl, hRz, hkf, HK2.out, HC.out⟩

end Go.Proofs.Ytaneblecgjahbab.ere
