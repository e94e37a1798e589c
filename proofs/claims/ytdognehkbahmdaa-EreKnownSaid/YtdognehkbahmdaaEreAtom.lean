/- Package ere: an atom; all calls of the reader. -/
import Derived.Test.YtdognehkbahmdaaEreGroup
namespace Go.Proofs.Ytdognehkbahmdaa.ere
open Go.RowKit Go.Proofs.Ytdognehkbahmdaa.sum Go.Proofs.Ytdognehkbahmdaa.kept Go.Proofs.Ytdognehkbahmdaa.pop Go.Proofs.Ytdognehkbahmdaa.cls Go.Proofs.Ytdognehkbahmdaa.tre Go.Proofs.Ytdognehkbahmdaa.str
set_option linter.unusedVariables false

theorem atom_eq (l : List UInt8) (bk : Nat → Option ((Nat → Bool) × Nat)) (n o k : Nat) : atomF l bk (n + 1) o k =
    if k = l.length ∨ seesB l k [42, 43, 63, 123, 124, 41] = true then .bad 24 k
    else if atB l k = 40 then grpR l bk n o k
    else if atB l k = 91 then brkR bk k
    else if atB l k = 92 then escR l k
    else if atB l k = 46 then .ok (setT fun x => !nul x) (k + 1)
    else if atB l k = 94 then .ok (leafT 7) (k + 1)
    else if atB l k = 36 then .ok (leafT 8) (k + 1)
    else .ok (setT (ofL [l.getD k 0])) (k + 1) := by
  rw [atomF]
  rfl
/-- a leaf, stored as one's own answer -/
theorem rs_leaf {w w0 W : World} {q r : Nat} {l : List UInt8} {k o : Nat} {t : Tr} {K : Int} {f : Nat → Bool} (hk : Kp (fun b => b = q) w W) (hr : w.heap.size = r) (hqr : q < r) (hR : RdAt w0 W q l (k + 1) o) (hkl : k < l.length)
    (ht : ∀ T w, PtV T w (absP t) (.agg (cellsP K f none 0 0 1 1))) :
    RsPost (fun b => w.heap.size ≤ b) w0 w q l k o (.ok t (k + 1)) (.returned (.tuple #[.agg (cellsP K f none 0 0 1 1), .int .i64 0])) (putP W r (.int .i64 K) (.int .u64 (wd f 0 64 : Nat)) (.int .u64 (wd f 64 64 : Nat)) (.int .u64 (wd f 128 64 : Nat)) (.int .u64 (wd f 192 64 : Nat)) (.slice none 0 0) (.int .i64 1) (.int .i64 1)) := by
  have hkz : Kp (fun b => b = r) W (putP W r (.int .i64 K) (.int .u64 (wd f 0 64 : Nat)) (.int .u64 (wd f 64 64 : Nat)) (.int .u64 (wd f 128 64 : Nat)) (.int .u64 (wd f 192 64 : Nat)) (.slice none 0 0) (.int .i64 1) (.int .i64 1)) := kp_putP (q := r) (Kp.refl (fun b => b = r) W) (fun _ => rfl) _ _ _ _ _ _ _ _
  exact ⟨_, rfl, ht _ _, hR.kept hkz (by show ¬ q = r; omega) (fun i e _ => by have e : i = r := e; have := hR.ge; omega), hk.trans hkz (T := fun b => b = r) fun i hi e => by omega, Nat.lt_succ_self _, hkl⟩

set_option maxRecDepth 100000 in
set_option maxHeartbeats 8000000 in
theorem atom_any {w0 : World} {q : Nat} {l : List UInt8} {bk : Nat → Option ((Nat → Bool) × Nat)} (hl : l.length < 1000000000) (hbr : BrktC w0 q l bk) (n : Nat) (hal : AltC w0 q l bk n) : AtomC w0 q l bk (n + 1) := by
  intro w k o h hkl ho hn
  obtain ⟨W0, hW0⟩ : ∃ W0, w.alloc (.cells #[.int .i64 0, .int .u64 0, .int .u64 0, .int .u64 0, .int .u64 0, .slice none 0 0, .int .i64 0, .int .i64 0] 60) = W0 := ⟨_, rfl⟩
  obtain ⟨r, hr⟩ : ∃ r, w.heap.size = r := ⟨_, rfl⟩
  have hK0 : Kp No w W0 := by rw [← hW0]; exact (Kp.refl No w).alloc _
  have hz : W0.heap.size = r + 1 := by rw [← hW0, ← hr]; simp
  have hB : PAt W0 r (.int .i64 0) (.int .u64 0) (.int .u64 0) (.int .u64 0) (.int .u64 0) (.slice none 0 0) (.int .i64 0) (.int .i64 0) := by
    rw [← hW0, ← hr]
    exact PAt.new _ _ _ _ _ _ _ _ _ _
  have hR0 := h.no hK0
  have hqr : q < r := by have := h.lt; omega
  have hsz := st_size l
  have hki0 : (0 : Int) ≤ (k : Int) := Int.natCast_nonneg _
  have hwk : IntKind.i64.wrap ((k : Int) + 1) = ((k + 1 : Nat) : Int) := by rw [IntWalk.i64_in _ (by omega)]; push_cast; rfl
  have HW0 := Hid_mk hW0
  have HR := Hid_mk hr
  have HQr := Hid_mk hqr
  have HB := Hid_mk hB
  have HR0 := Hid_mk hR0
  have HK0 := Hid_mk hK0
  have HZ := Hid_mk hz
  have HLn := Hid_mk hl
  have HO := Hid_mk ho
  have HBr := Hid_mk hbr
  have HAl := Hid_mk hal
  have HN := Hid_mk hn
  obtain ⟨R, hRs⟩ : ∃ R, atomF l bk (n + 1) o k = R := ⟨_, rfl⟩
  rw [hRs]
  rw [atom_eq] at hRs
  have c0 := hR0.c0
  have c1 := hR0.c1
  have HKl := Hid_mk hkl
  clear hW0 hr hK0 hB h hqr hal hn hz ho hbr
  by_cases he : k = l.length
  · have hszk : (st l).size = k := by rw [hsz, he]
    have HR2 := Hid_mk (show R = .bad 24 k from by rw [← hRs, if_pos (.inl he)])
    clear hRs he hsz hl hkl hwk hR0
    go_enter Try.func71, Try.ntmps71
    go_upto_region 1 with fail
    rw [HR.out, HW0.out]
    clear HW0
    go_wp2
    go_quiet (fail)
    go_upto_region 2 with fail
    refine wp_name (fun W => Kp No W0 W) ((Kp.refl No W0).drewN _) ?_
    rintro W1 hk1
    have HK1 := Hid_mk hk1
    have hb1 := HB.out.kept hk1 id
    obtain ⟨r0, r1, r2, r3, r4, r5, r6, r7, rw'⟩ := hb1
    clear hk1 c0 c1
    go_wp2
    have hkz : Kp (fun b => b = r) W1 (putP W1 r (.int .i64 0) (.int .u64 0) (.int .u64 0) (.int .u64 0) (.int .u64 0) (.slice none 0 0) (.int .i64 0) (.int .i64 0)) := kp_putP (q := r) (Kp.refl (fun b => b = r) W1) (fun _ => rfl) _ _ _ _ _ _ _ _
    have hRz := (HR0.out.no HK1.out).kept hkz (by show ¬ q = r; have := HQr.out; omega) (fun i e _ => by have h1 := (HR0.out.no HK1.out).ge; have h2 := HQr.out; show w0.heap.size ≤ i; have e : i = r := e; omega)
    have hkf := ((HK0.out.trans' HK1.out).to (S := fun b => b = q)).trans hkz (T := fun b => b = r) fun i hi e => by have := HR.out; omega
    refine bodyPost_ret (v := .tuple #[.agg #[.int .i64 0, .int .u64 0, .int .u64 0, .int .u64 0, .int .u64 0, .slice none 0 0, .int .i64 0, .int .i64 0], .int .i64 24]) ?_ rfl ?_
    · simp [results, Try.results71, go_sem, r0, r1, r2, r3, r4, r5, r6, r7]
    · rw [HR2.out]
      exact ⟨o, rfl, hRz, hkf, HKl.out, by decide⟩
  · have hlt : k < l.length := by omega
    have heq : ((k : Int) == (l.length : Int)) = false := by rw [beq_eq_false_iff_ne]; omega
    have hki : (k : Int) < (l.length : Int) := by omega
    have hse := fun n => Calls.quiet_of (sees_any (hR0.no ((Kp.refl No W0).drewN n)) (by omega) hkl ⟨#[42, 43, 63, 123, 124, 41]⟩ [42, 43, 63, 123, 124, 41] rfl)
    have HLt := Hid_mk hlt
    have HEn := Hid_mk he
    rcases hb : seesB l k [42, 43, 63, 123, 124, 41] with _ | _
    · rw [hb] at hse
      rw [if_neg (by rw [hb]; rintro (e | e); exact he e; cases e)] at hRs
      have HSe := Hid_mk hse
      obtain ⟨x, hx⟩ : ∃ x, l.getD k 0 = x := ⟨_, rfl⟩
      obtain ⟨y, hy⟩ : ∃ y, x.toNat = y := ⟨_, rfl⟩
      have hg : ∀ h : k < (st l).size, ((st l)[k]).toNat = y := fun h => (st_get l k h).trans (by rw [hx, hy])
      have hay : atB l k = y := by unfold atB; rw [hx, hy]
      rw [hay, hx] at hRs
      have HAy := Hid_mk hay
      have HRs := Hid_mk hRs
      have HY := Hid_mk hy
      have hy256 : y < 256 := by rw [← hy]; exact x.toNat_lt
      have HY2 := Hid_mk hy256
      clear hRs he hl hkl hR0 hse hb hlt hx hy hay hy256
      go_enter Try.func71, Try.ntmps71
      go_upto_region 1 with fail
      rw [HR.out, HW0.out]
      clear HW0
      go_wp2
      go_quiet ((go_at_call 45; exact HSe.out _))
      go_upto_region 3 with fail
      refine wp_name (fun W => Kp No W0 W) ((Kp.refl No W0).drewN _) ?_
      rintro W1 hk1
      have hR1 := HR0.out.no hk1
      have HR1 := Hid_mk hR1
      have HK1 := Hid_mk hk1
      clear c0 c1
      have c0 := hR1.c0
      have c1 := hR1.c1
      clear hk1 hR1
      go_wp2
      go_quiet (fail)
      go_upto_region 4 with fail
      refine wp_name (fun W => Kp No W1 W) ((Kp.refl No W1).drewN _) ?_
      rintro W2 hk2
      have hR2 := HR1.out.no hk2
      have HR2 := Hid_mk hR2
      have HK2 := Hid_mk (HK0.out.trans' (HK1.out.trans' hk2))
      have HB2 := Hid_mk ((HB.out.kept HK1.out id).kept hk2 id)
      have HSz := Hid_mk (show r < W2.heap.size by have := HZ.out; have := HK1.out.size; have := hk2.size; omega)
      clear c0 c1 hk2 hR2 HR1 HK1 HR0 HSe hg hsz
      by_cases h40 : y = 40
      · subst h40
        have HRf := Hid_mk (show R = grpR l bk n o k from by rw [← HRs.out]; rfl)
        have hc := rs_pass (w := w) (w0 := w0) (q := q) (r := r) HK2.out HR.out HQr.out HSz.out HR2.out.ge (group_any n HAl.out HR2.out HLn.out HLt.out HO.out (by have := HN.out; omega))
        have HC := Hid_mk hc
        clear hc HRs
        go_wp2_with fail
        with_reducible refine HC.out.mono ?_
        rintro e W3 ⟨xk, xf, xa, xn, xc, L, H, E, rfl, hk3, hfin⟩
        have hb3 := HB2.out.kept hk3 (by show ¬ r = q; have := HQr.out; omega)
        obtain ⟨r0, r1, r2, r3, r4, r5, r6, r7, rw'⟩ := hb3
        clear hk3 HC
        go_wp2
        refine bodyPost_ret (v := .tuple #[.agg #[.int .i64 xk, .int .u64 (wd xf 0 64 : Nat), .int .u64 (wd xf 64 64 : Nat), .int .u64 (wd xf 128 64 : Nat), .int .u64 (wd xf 192 64 : Nat), .slice xa xn xc, .int .i64 L, .int .i64 H], .int .i64 E]) ?_ rfl ?_
        · simp [results, Try.results71, go_sem, r0, r1, r2, r3, r4, r5, r6, r7]
        · rw [HRf.out]
          exact hfin.out
      have f40 : ((y : Int) == 40) = false := by rw [beq_eq_false_iff_ne]; omega
      by_cases h91 : y = 91
      · subst h91
        have HRf := Hid_mk (show R = brkR bk k from by rw [← HRs.out]; rfl)
        have hc := rs_pass (w := w) (w0 := w0) (q := q) (r := r) HK2.out HR.out HQr.out HSz.out HR2.out.ge (HBr.out W2 k o HR2.out HLt.out HAy.out)
        have HC := Hid_mk hc
        clear hc HRs
        go_wp2_with fail
        with_reducible refine HC.out.mono ?_
        rintro e W3 ⟨xk, xf, xa, xn, xc, L, H, E, rfl, hk3, hfin⟩
        have hb3 := HB2.out.kept hk3 (by show ¬ r = q; have := HQr.out; omega)
        obtain ⟨r0, r1, r2, r3, r4, r5, r6, r7, rw'⟩ := hb3
        clear hk3 HC
        go_wp2
        refine bodyPost_ret (v := .tuple #[.agg #[.int .i64 xk, .int .u64 (wd xf 0 64 : Nat), .int .u64 (wd xf 64 64 : Nat), .int .u64 (wd xf 128 64 : Nat), .int .u64 (wd xf 192 64 : Nat), .slice xa xn xc, .int .i64 L, .int .i64 H], .int .i64 E]) ?_ rfl ?_
        · simp [results, Try.results71, go_sem, r0, r1, r2, r3, r4, r5, r6, r7]
        · rw [HRf.out]
          exact hfin.out
      have f91 : ((y : Int) == 91) = false := by rw [beq_eq_false_iff_ne]; omega
      by_cases h92 : y = 92
      · subst h92
        have HRf := Hid_mk (show R = escR l k from by rw [← HRs.out]; rfl)
        have hc := rs_pass (w := w) (w0 := w0) (q := q) (r := r) HK2.out HR.out HQr.out HSz.out HR2.out.ge (escape_any HR2.out (by have := HLn.out; omega) HLt.out)
        have HC := Hid_mk hc
        clear hc HRs
        go_wp2_with fail
        with_reducible refine HC.out.mono ?_
        rintro e W3 ⟨xk, xf, xa, xn, xc, L, H, E, rfl, hk3, hfin⟩
        have hb3 := HB2.out.kept hk3 (by show ¬ r = q; have := HQr.out; omega)
        obtain ⟨r0, r1, r2, r3, r4, r5, r6, r7, rw'⟩ := hb3
        clear hk3 HC
        go_wp2
        refine bodyPost_ret (v := .tuple #[.agg #[.int .i64 xk, .int .u64 (wd xf 0 64 : Nat), .int .u64 (wd xf 64 64 : Nat), .int .u64 (wd xf 128 64 : Nat), .int .u64 (wd xf 192 64 : Nat), .slice xa xn xc, .int .i64 L, .int .i64 H], .int .i64 E]) ?_ rfl ?_
        · simp [results, Try.results71, go_sem, r0, r1, r2, r3, r4, r5, r6, r7]
        · rw [HRf.out]
          exact hfin.out
      have e40 : ((y : Int) == 40) = false := by rw [beq_eq_false_iff_ne]; omega
      have e91 : ((y : Int) == 91) = false := by rw [beq_eq_false_iff_ne]; omega
      have e92 : ((y : Int) == 92) = false := by rw [beq_eq_false_iff_ne]; omega
      have HRs2 := Hid_mk (show (if y = 46 then Rs.ok (setT fun x => !nul x) (k + 1) else if y = 94 then .ok (leafT 7) (k + 1) else if y = 36 then .ok (leafT 8) (k + 1) else .ok (setT (ofL [x])) (k + 1)) = R from by rw [← HRs.out, if_neg h40, if_neg h91, if_neg h92])
      have c1 := HR2.out.c1
      have cw := HR2.out.warm
      clear HRs h40 h91 h92
      go_upto_region 12 with fail
      have hks : Kp (fun b => b = q) W2 (W2.setCell ⟨q, 1, none⟩ (.int .i64 ((k + 1 : Nat) : Int))) := (Kp.refl (fun b => b = q) W2).setCell (p := ⟨q, 1, none⟩) (fun _ => rfl) _
      refine wp_name (fun W => RdAt w0 W q l (k + 1) o ∧ Kp (fun b => b = q) W2 W) ⟨HR2.out.at' (k + 1), hks⟩ ?_
      clear hks c1 cw
      rintro W3 ⟨hR3, hk3⟩
      have HR3 := Hid_mk hR3
      have HK3 := Hid_mk ((HK2.out.to (S := fun b => b = q)).trans hk3 fun _ _ e => e)
      have HB3 := Hid_mk (HB2.out.kept hk3 (by show ¬ r = q; have := HQr.out; omega))
      clear hR3 hk3 HR2 HK2 HB2
      by_cases h46 : y = 46
      · subst h46
        have HRf := Hid_mk (show R = .ok (setT fun x => !nul x) (k + 1) from by rw [← HRs2.out]; rfl)
        have hnt := fun W => not_any W nul
        simp only [svd, wd_nul] at hnt
        have HNt := Hid_mk hnt
        clear hnt
        go_wp2_with fail
        refine (HNt.out _).mono ?_
        rintro e W4 ⟨rfl, hk4⟩
        have HK4 := Hid_mk hk4
        clear hk4 HNt
        have ham := fun W => among_any W (fun x => !nul x)
        rw [svd] at ham
        have HAm := Hid_mk ham
        clear ham
        go_wp2_with fail
        refine (HAm.out _).mono ?_
        rintro e W5 ⟨rfl, hk5⟩
        have HK5 := Hid_mk (HK4.out.trans' hk5)
        have hb5 := HB3.out.kept HK5.out id
        obtain ⟨r0, r1, r2, r3, r4, r5, r6, r7, rw'⟩ := hb5
        clear hk5 HK4
        unfold cellsP
        generalize hF : (fun x => !nul x) = F at *
        go_wp2
        refine bodyPost_ret (v := .tuple #[.agg (cellsP 1 F none 0 0 1 1), .int .i64 0]) ?_ rfl ?_
        · simp [results, Try.results71, go_sem, cellsP, r0, r1, r2, r3, r4, r5, r6, r7]
        · rw [HRf.out]
          exact rs_leaf (HK3.out.trans HK5.out (T := No) fun _ _ e => e.elim) HR.out HQr.out (HR3.out.no HK5.out) HLt.out fun T w => set_val T w F
      have e46 : ((y : Int) == 46) = false := by rw [beq_eq_false_iff_ne]; omega
      by_cases h94 : y = 94
      · subst h94
        have HRf := Hid_mk (show R = .ok (leafT 7) (k + 1) from by rw [← HRs2.out]; rfl)
        have HLf := Hid_mk fun W => leaf_any W 7
        go_wp2_with fail
        with_reducible refine (HLf.out _).mono ?_
        rintro e W5 ⟨rfl, hk5⟩
        have HK5 := Hid_mk hk5
        have hb5 := HB3.out.kept HK5.out id
        obtain ⟨r0, r1, r2, r3, r4, r5, r6, r7, rw'⟩ := hb5
        clear hk5
        unfold cellsP
        go_wp2
        refine bodyPost_ret (v := .tuple #[.agg (cellsP 7 nul none 0 0 1 1), .int .i64 0]) ?_ rfl ?_
        · simp [results, Try.results71, go_sem, cellsP, r0, r1, r2, r3, r4, r5, r6, r7, wd_nul]
        · rw [HRf.out]
          exact rs_leaf (HK3.out.trans HK5.out (T := No) fun _ _ e => e.elim) HR.out HQr.out (HR3.out.no HK5.out) HLt.out fun T w => leafk_val T w 7
      have e94 : ((y : Int) == 94) = false := by rw [beq_eq_false_iff_ne]; omega
      by_cases h36 : y = 36
      · subst h36
        have HRf := Hid_mk (show R = .ok (leafT 8) (k + 1) from by rw [← HRs2.out]; rfl)
        have HLf := Hid_mk fun W => leaf_any W 8
        go_wp2_with fail
        with_reducible refine (HLf.out _).mono ?_
        rintro e W5 ⟨rfl, hk5⟩
        have HK5 := Hid_mk hk5
        have hb5 := HB3.out.kept HK5.out id
        obtain ⟨r0, r1, r2, r3, r4, r5, r6, r7, rw'⟩ := hb5
        clear hk5
        unfold cellsP
        go_wp2
        refine bodyPost_ret (v := .tuple #[.agg (cellsP 8 nul none 0 0 1 1), .int .i64 0]) ?_ rfl ?_
        · simp [results, Try.results71, go_sem, cellsP, r0, r1, r2, r3, r4, r5, r6, r7, wd_nul]
        · rw [HRf.out]
          exact rs_leaf (HK3.out.trans HK5.out (T := No) fun _ _ e => e.elim) HR.out HQr.out (HR3.out.no HK5.out) HLt.out fun T w => leafk_val T w 8
      have e36 : ((y : Int) == 36) = false := by rw [beq_eq_false_iff_ne]; omega
      have HRf := Hid_mk (show R = .ok (setT (ofL [x])) (k + 1) from by rw [← HRs2.out, if_neg h46, if_neg h94, if_neg h36])
      have hbs := bs_nat W3 y HY2.out
      rw [show y.toUInt8 = x from by rw [← HY.out]; simp] at hbs
      have HBs := Hid_mk hbs
      clear hbs h46 h94 h36 HRs2
      go_wp2_with fail
      with_reducible refine (of_any _ _ _ HBs.out).mono ?_
      rintro e W7 ⟨rfl, hk7⟩
      have HK7 := Hid_mk (((Kp.refl No W3).alloc _).trans' hk7)
      clear hk7 HBs
      go_wp2_with fail
      with_reducible refine (among_any _ _).mono ?_
      rintro e W8 ⟨rfl, hk8⟩
      have HK8 := Hid_mk (HK7.out.trans' hk8)
      have hb8 := HB3.out.kept HK8.out id
      obtain ⟨r0, r1, r2, r3, r4, r5, r6, r7, rw'⟩ := hb8
      clear hk8
      unfold cellsP
      generalize hF : ofL [x] = F at *
      go_wp2
      refine bodyPost_ret (v := .tuple #[.agg (cellsP 1 F none 0 0 1 1), .int .i64 0]) ?_ rfl ?_
      · simp [results, Try.results71, go_sem, cellsP, r0, r1, r2, r3, r4, r5, r6, r7]
      · rw [HRf.out]
        exact rs_leaf (HK3.out.trans HK8.out (T := No) fun _ _ e => e.elim) HR.out HQr.out (HR3.out.no HK8.out) HLt.out fun T w => set_val T w F
    · rw [hb] at hse
      have HR2 := Hid_mk (show R = .bad 24 k from by rw [← hRs, if_pos (.inr hb)])
      have HSe := Hid_mk hse
      clear hRs he hl hkl hR0 hse hb hlt hki
      go_enter Try.func71, Try.ntmps71
      go_upto_region 1 with fail
      rw [HR.out, HW0.out]
      clear HW0
      go_wp2
      go_quiet ((go_at_call 45; exact HSe.out _))
      go_upto_region 2 with fail
      refine wp_name (fun W => Kp No W0 W) ((Kp.refl No W0).drewN _) ?_
      rintro W1 hk1
      have HK1 := Hid_mk hk1
      have hb1 := HB.out.kept hk1 id
      obtain ⟨r0, r1, r2, r3, r4, r5, r6, r7, rw'⟩ := hb1
      clear hk1 c0 c1
      go_wp2
      have hkz : Kp (fun b => b = r) W1 (putP W1 r (.int .i64 0) (.int .u64 0) (.int .u64 0) (.int .u64 0) (.int .u64 0) (.slice none 0 0) (.int .i64 0) (.int .i64 0)) := kp_putP (q := r) (Kp.refl (fun b => b = r) W1) (fun _ => rfl) _ _ _ _ _ _ _ _
      have hRz := (HR0.out.no HK1.out).kept hkz (by show ¬ q = r; have := HQr.out; omega) (fun i e _ => by have h1 := (HR0.out.no HK1.out).ge; have h2 := HQr.out; show w0.heap.size ≤ i; have e : i = r := e; omega)
      have hkf := ((HK0.out.trans' HK1.out).to (S := fun b => b = q)).trans hkz (T := fun b => b = r) fun i hi e => by have := HR.out; omega
      refine bodyPost_ret (v := .tuple #[.agg #[.int .i64 0, .int .u64 0, .int .u64 0, .int .u64 0, .int .u64 0, .slice none 0 0, .int .i64 0, .int .i64 0], .int .i64 24]) ?_ rfl ?_
      · simp [results, Try.results71, go_sem, r0, r1, r2, r3, r4, r5, r6, r7]
      · rw [HR2.out]
        exact ⟨o, rfl, hRz, hkf, HKl.out, by decide⟩

theorem all_any {w0 : World} {q : Nat} {l : List UInt8} {bk : Nat → Option ((Nat → Bool) × Nat)} (hl : l.length < 1000000000) (hbr : BrktC w0 q l bk) (hsg : SignC w0 q l) : ∀ N m, m ≤ N → AltC w0 q l bk m ∧ RowC w0 q l bk m ∧ PieceC w0 q l bk m ∧ AtomC w0 q l bk m
  | 0, m, hm => by
    obtain rfl : m = 0 := by omega
    refine ⟨?_, ?_, ?_, ?_⟩
    all_goals
      intro w k o h hk ho hn
      omega
  | N + 1, m, hm => by
    have ih := all_any hl hbr hsg N
    cases m with
    | zero =>
      refine ⟨?_, ?_, ?_, ?_⟩
      all_goals
        intro w k o h hk ho hn
        omega
    | succ m =>
      refine ⟨?_, ?_, piece_any hl hsg m (ih m (by omega)).2.2.2, atom_any hl hbr m (ih m (by omega)).1⟩
      · intro w k o h hk ho hn
        exact alts_any hl (m + 1) (fun j hj => (ih j (by omega)).2.1) w k o h hk ho hn
      · intro w k o h hk ho hn
        rw [rowF]
        exact pieces_any hl m (fun j hj => (ih j (by omega)).2.2.1) w k o h hk ho (by omega)
theorem alt_any {w0 : World} {q : Nat} {l : List UInt8} {bk : Nat → Option ((Nat → Bool) × Nat)} (hl : l.length < 1000000000) (hbr : BrktC w0 q l bk) (hsg : SignC w0 q l) (m : Nat) : AltC w0 q l bk m := (all_any hl hbr hsg m m (Nat.le_refl _)).1

end Go.Proofs.Ytdognehkbahmdaa.ere
