/- Package ere: an atom; all calls of the reader. Package ere: Parse itself. -/
import Derived.Test.YtaneblecgjahbabErePieceM

namespace Go.Proofs.Ytaneblecgjahbab.ere
open Go.RowKit Go.Proofs.Ytaneblecgjahbab.sum Go.Proofs.Ytaneblecgjahbab.kept Go.Proofs.Ytaneblecgjahbab.pop Go.Proofs.Ytaneblecgjahbab.cls Go.Proofs.Ytaneblecgjahbab.tre Go.Proofs.Ytaneblecgjahbab.str
set_option linter.unusedVariables false

theorem atom_eq (l : List UInt8) (bk : Nat → Option ((Nat → Bool) × Nat)) (n o k : Nat) : atomF l bk (n + 1) o k =
    if k = l.length ∨ seesB l k [42, 43, 63, 123, 124, 41] = true then .bad 24 k
    else if atB l k = 40 then grpR l bk n o k
    else if atB l k = 91 then brkR bk k
    else if atB l k = 92 then escR l k
    else if atB l k = 46 then .ok (setT fun x => !nul x) (k + 1)
    else if atB l k = 94 then .ok (leafT 7) (k + 1)
    else if atB l k = 36 then .ok (leafT 8) (k + 1)
    else .ok (setT (ofL [l.getD k 0])) (k + 1) := by
  rw [atomF]
  rfl
/-- a leaf, stored as one's own answer -/
theorem rs_leaf {w w0 W : World} {q r : Nat} {l : List UInt8} {k o : Nat} {t : Tr} {K : Int} {f : Nat → Bool} (hk : Kp (fun b => b = q) w W) (hr : w.heap.size = r) (hqr : q < r) (hR : RdAt w0 W q l (k + 1) o) (hkl : k < l.length)
    (ht : ∀ T w, PtV T w (absP t) (.agg (cellsP K f none 0 0 1 1))) :
    RsPost (fun b => w.heap.size ≤ b) w0 w q l k o (.ok t (k + 1)) (.returned (.tuple #[.agg (cellsP K f none 0 0 1 1), .int .i64 0])) (putP W r (.int .i64 K) (.int .u64 (wd f 0 64 : Nat)) (.int .u64 (wd f 64 64 : Nat)) (.int .u64 (wd f 128 64 : Nat)) (.int .u64 (wd f 192 64 : Nat)) (.slice none 0 0) (.int .i64 1) (.int .i64 1)) := by
  have hkz : Kp (fun b => b = r) W (putP W r (.int .i64 K) (.int .u64 (wd f 0 64 : Nat)) (.int .u64 (wd f 64 64 : Nat)) (.int .u64 (wd f 128 64 : Nat)) (.int .u64 (wd f 192 64 : Nat)) (.slice none 0 0) (.int .i64 1) (.int .i64 1)) := kp_putP (q := r) (Kp.refl (fun b => b = r) W) (fun _ => rfl) _ _ _ _ _ _ _ _
  exact ⟨_, rfl, ht _ _, hR.kept hkz (by show ¬ q = r; omega) (fun i e _ => by have e : i = r := e; have := hR.ge; omega), hk.trans hkz (T := fun b => b = r) fun i hi e => by omega, Nat.lt_succ_self _, hkl⟩

set_option maxRecDepth 100000 in
set_option maxHeartbeats 8000000 in
theorem atom_any {w0 : World} {q : Nat} {l : List UInt8} {bk : Nat → Option ((Nat → Bool) × Nat)} (hl : l.length < 1000000000) (hbr : BrktC w0 q l bk) (n : Nat) (hal : AltC w0 q l bk n) : AtomC w0 q l bk (n + 1) := by
  intro w k o h hkl ho hn
  obtain ⟨W0, hW0⟩ : ∃ W0, w.alloc (.cells #[.int .i64 0, .int .u64 0, .int .u64 0, .int .u64 0, .int .u64 0, .slice none 0 0, .int .i64 0, .int .i64 0] 102) = W0 := ⟨_, rfl⟩
  obtain ⟨r, hr⟩ : ∃ r, w.heap.size = r := ⟨_, rfl⟩
  have hK0 : Kp No w W0 := by rw [← hW0]; exact (Kp.refl No w).alloc _
  have hz : W0.heap.size = r + 1 := by rw [← hW0, ← hr]; simp
  have hB : PAt W0 r (.int .i64 0) (.int .u64 0) (.int .u64 0) (.int .u64 0) (.int .u64 0) (.slice none 0 0) (.int .i64 0) (.int .i64 0) := by
    rw [← hW0, ← hr]
    exact PAt.new _ _ _ _ _ _ _ _ _ _
  have hR0 := h.no hK0
  have hqr : q < r := by have := h.lt; omega
  have hsz := st_size l
  have hki0 : (0 : Int) ≤ (k : Int) := Int.natCast_nonneg _
  have hwk : IntKind.i64.wrap ((k : Int) + 1) = ((k + 1 : Nat) : Int) := by rw [IntWalk.i64_in _ (by omega)]; push_cast; rfl
  have HW0 := Hid_mk hW0
  have HR := Hid_mk hr
  have HQr := Hid_mk hqr
  have HB := Hid_mk hB
  have HR0 := Hid_mk hR0
  have HK0 := Hid_mk hK0
  have HZ := Hid_mk hz
  have HLn := Hid_mk hl
  have HO := Hid_mk ho
  have HBr := Hid_mk hbr
  have HAl := Hid_mk hal
  have HN := Hid_mk hn
  obtain ⟨R, hRs⟩ : ∃ R, atomF l bk (n + 1) o k = R := ⟨_, rfl⟩
  rw [hRs]
  rw [atom_eq] at hRs
  have c0 := hR0.c0
  have c1 := hR0.c1
  have HKl := Hid_mk hkl
  clear hW0 hr hK0 hB h hqr hal hn hz ho hbr
  by_cases he : k = l.length
  · have hszk : (st l).size = k := by rw [hsz, he]
    have HR2 := Hid_mk (show R = .bad 24 k from by rw [← hRs, if_pos (.inl he)])
    clear hRs he hsz hl hkl hwk hR0
    go_enter Try.func90, Try.ntmps90
    go_upto_region 1 with fail
    rw [HR.out, HW0.out]
    clear HW0
    go_wp2
    go_quiet (fail)
    go_upto_region 2 with fail
    refine wp_name (fun W => Kp No W0 W) ((Kp.refl No W0).drewN _) ?_
    rintro W1 hk1
    have HK1 := Hid_mk hk1
    have hb1 := HB.out.kept hk1 id
    obtain ⟨r0, r1, r2, r3, r4, r5, r6, r7, rw'⟩ := hb1
    clear hk1 c0 c1
    go_wp2
    have hkz : Kp (fun b => b = r) W1 (putP W1 r (.int .i64 0) (.int .u64 0) (.int .u64 0) (.int .u64 0) (.int .u64 0) (.slice none 0 0) (.int .i64 0) (.int .i64 0)) := kp_putP (q := r) (Kp.refl (fun b => b = r) W1) (fun _ => rfl) _ _ _ _ _ _ _ _
    have hRz := (HR0.out.no HK1.out).kept hkz (by show ¬ q = r; have := HQr.out; omega) (fun i e _ => by have h1 := (HR0.out.no HK1.out).ge; have h2 := HQr.out; show w0.heap.size ≤ i; have e : i = r := e; omega)
    have hkf := ((HK0.out.trans' HK1.out).to (S := fun b => b = q)).trans hkz (T := fun b => b = r) fun i hi e => by have := HR.out; omega
    refine bodyPost_ret (v := .tuple #[.agg #[.int .i64 0, .int .u64 0, .int .u64 0, .int .u64 0, .int .u64 0, .slice none 0 0, .int .i64 0, .int .i64 0], .int .i64 24]) ?_ rfl ?_
    · simp [results, Try.results90, go_sem, r0, r1, r2, r3, r4, r5, r6, r7]
    · rw [HR2.out]
      exact ⟨o, rfl, hRz, hkf, HKl.out, by decide⟩
  · have hlt : k < l.length := by omega
    have heq : ((k : Int) == (l.length : Int)) = false := by rw [beq_eq_false_iff_ne]; omega
    have hki : (k : Int) < (l.length : Int) := by omega
    have hse := fun n => Calls.quiet_of (sees_any (hR0.no ((Kp.refl No W0).drewN n)) (by omega) hkl ⟨#[42, 43, 63, 123, 124, 41]⟩ [42, 43, 63, 123, 124, 41] rfl)
    have HLt := Hid_mk hlt
    have HEn := Hid_mk he
    rcases hb : seesB l k [42, 43, 63, 123, 124, 41] with _ | _
    · rw [hb] at hse
      rw [if_neg (by rw [hb]; rintro (e | e); exact he e; cases e)] at hRs
      have HSe := Hid_mk hse
      obtain ⟨x, hx⟩ : ∃ x, l.getD k 0 = x := ⟨_, rfl⟩
      obtain ⟨y, hy⟩ : ∃ y, x.toNat = y := ⟨_, rfl⟩
      have hg : ∀ h : k < (st l).size, ((st l)[k]).toNat = y := fun h => (st_get l k h).trans (by rw [hx, hy])
      have hay : atB l k = y := by unfold atB; rw [hx, hy]
      rw [hay, hx] at hRs
      have HAy := Hid_mk hay
      have HRs := Hid_mk hRs
      have HY := Hid_mk hy
      have hy256 : y < 256 := by rw [← hy]; exact x.toNat_lt
      have HY2 := Hid_mk hy256
      clear hRs he hl hkl hR0 hse hb hlt hx hy hay hy256
      go_enter Try.func90, Try.ntmps90
      go_upto_region 1 with fail
      rw [HR.out, HW0.out]
      clear HW0
      go_wp2
      go_quiet ((go_at_call 65; exact HSe.out _))
      go_upto_region 3 with fail
      refine wp_name (fun W => Kp No W0 W) ((Kp.refl No W0).drewN _) ?_
      rintro W1 hk1
      have hR1 := HR0.out.no hk1
      have HR1 := Hid_mk hR1
      have HK1 := Hid_mk hk1
      clear c0 c1
      have c0 := hR1.c0
      have c1 := hR1.c1
      clear hk1 hR1
      go_wp2
      go_quiet (fail)
      go_upto_region 4 with fail
      refine wp_name (fun W => Kp No W1 W) ((Kp.refl No W1).drewN _) ?_
      rintro W2 hk2
      have hR2 := HR1.out.no hk2
      have HR2 := Hid_mk hR2
      have HK2 := Hid_mk (HK0.out.trans' (HK1.out.trans' hk2))
      have HB2 := Hid_mk ((HB.out.kept HK1.out id).kept hk2 id)
      have HSz := Hid_mk (show r < W2.heap.size by have := HZ.out; have := HK1.out.size; have := hk2.size; omega)
      clear c0 c1 hk2 hR2 HR1 HK1 HR0 HSe hg hsz
      by_cases h40 : y = 40
      · subst h40
        have HRf := Hid_mk (show R = grpR l bk n o k from by rw [← HRs.out]; rfl)
        have hc := rs_pass (w := w) (w0 := w0) (q := q) (r := r) HK2.out HR.out HQr.out HSz.out HR2.out.ge (group_any n HAl.out HR2.out HLn.out HLt.out HO.out (by have := HN.out; omega))
        have HC := Hid_mk hc
        clear hc HRs
        go_wp2_with fail
        with_reducible refine HC.out.mono ?_
        rintro e W3 ⟨xk, xf, xa, xn, xc, L, H, E, rfl, hk3, hfin⟩
        have hb3 := HB2.out.kept hk3 (by show ¬ r = q; have := HQr.out; omega)
        obtain ⟨r0, r1, r2, r3, r4, r5, r6, r7, rw'⟩ := hb3
        clear hk3 HC
        go_wp2
        refine bodyPost_ret (v := .tuple #[.agg #[.int .i64 xk, .int .u64 (wd xf 0 64 : Nat), .int .u64 (wd xf 64 64 : Nat), .int .u64 (wd xf 128 64 : Nat), .int .u64 (wd xf 192 64 : Nat), .slice xa xn xc, .int .i64 L, .int .i64 H], .int .i64 E]) ?_ rfl ?_
        · simp [results, Try.results90, go_sem, r0, r1, r2, r3, r4, r5, r6, r7]
        · rw [HRf.out]
          exact hfin.out
      have f40 : ((y : Int) == 40) = false := by rw [beq_eq_false_iff_ne]; omega
      by_cases h91 : y = 91
      · subst h91
        have HRf := Hid_mk (show R = brkR bk k from by rw [← HRs.out]; rfl)
        have hc := rs_pass (w := w) (w0 := w0) (q := q) (r := r) HK2.out HR.out HQr.out HSz.out HR2.out.ge (HBr.out W2 k o HR2.out HLt.out HAy.out)
        have HC := Hid_mk hc
        clear hc HRs
        go_wp2_with fail
        with_reducible refine HC.out.mono ?_
        rintro e W3 ⟨xk, xf, xa, xn, xc, L, H, E, rfl, hk3, hfin⟩
        have hb3 := HB2.out.kept hk3 (by show ¬ r = q; have := HQr.out; omega)
        obtain ⟨r0, r1, r2, r3, r4, r5, r6, r7, rw'⟩ := hb3
        clear hk3 HC
        go_wp2
        refine bodyPost_ret (v := .tuple #[.agg #[.int .i64 xk, .int .u64 (wd xf 0 64 : Nat), .int .u64 (wd xf 64 64 : Nat), .int .u64 (wd xf 128 64 : Nat), .int .u64 (wd xf 192 64 : Nat), .slice xa xn xc, .int .i64 L, .int .i64 H], .int .i64 E]) ?_ rfl ?_
        · simp [results, Try.results90, go_sem, r0, r1, r2, r3, r4, r5, r6, r7]
        · rw [HRf.out]
          exact hfin.out
      have f91 : ((y : Int) == 91) = false := by rw [beq_eq_false_iff_ne]; omega
      by_cases h92 : y = 92
      · subst h92
        have HRf := Hid_mk (show R = escR l k from by rw [← HRs.out]; rfl)
        have hc := rs_pass (w := w) (w0 := w0) (q := q) (r := r) HK2.out HR.out HQr.out HSz.out HR2.out.ge (escape_any HR2.out (by have := HLn.out; omega) HLt.out)
        have HC := Hid_mk hc
        clear hc HRs
        go_wp2_with fail
        with_reducible refine HC.out.mono ?_
        rintro e W3 ⟨xk, xf, xa, xn, xc, L, H, E, rfl, hk3, hfin⟩
        have hb3 := HB2.out.kept hk3 (by show ¬ r = q; have := HQr.out; omega)
        obtain ⟨r0, r1, r2, r3, r4, r5, r6, r7, rw'⟩ := hb3
        clear hk3 HC
        go_wp2
        refine bodyPost_ret (v := .tuple #[.agg #[.int .i64 xk, .int .u64 (wd xf 0 64 : Nat), .int .u64 (wd xf 64 64 : Nat), .int .u64 (wd xf 128 64 : Nat), .int .u64 (wd xf 192 64 : Nat), .slice xa xn xc, .int .i64 L, .int .i64 H], .int .i64 E]) ?_ rfl ?_
        · simp [results, Try.results90, go_sem, r0, r1, r2, r3, r4, r5, r6, r7]
        · rw [HRf.out]
          exact hfin.out
      have e40 : ((y : Int) == 40) = false := by rw [beq_eq_false_iff_ne]; omega
      have e91 : ((y : Int) == 91) = false := by rw [beq_eq_false_iff_ne]; omega
      have e92 : ((y : Int) == 92) = false := by rw [beq_eq_false_iff_ne]; omega
      have HRs2 := Hid_mk (show (if y = 46 then Rs.ok (setT fun x => !nul x) (k + 1) else if y = 94 then .ok (leafT 7) (k + 1) else if y = 36 then .ok (leafT 8) (k + 1) else .ok (setT (ofL [x])) (k + 1)) = R from by rw [← HRs.out, if_neg h40, if_neg h91, if_neg h92])
      have c1 := HR2.out.c1
      have cw := HR2.out.warm
      clear HRs h40 h91 h92
      go_upto_region 12 with fail
      have hks : Kp (fun b => b = q) W2 (W2.setCell ⟨q, 1, none⟩ (.int .i64 ((k + 1 : Nat) : Int))) := (Kp.refl (fun b => b = q) W2).setCell (p := ⟨q, 1, none⟩) (fun _ => rfl) _
      refine wp_name (fun W => RdAt w0 W q l (k + 1) o ∧ Kp (fun b => b = q) W2 W) ⟨HR2.out.at' (k + 1), hks⟩ ?_
      clear hks c1 cw
      rintro W3 ⟨hR3, hk3⟩
      have HR3 := Hid_mk hR3
      have HK3 := Hid_mk ((HK2.out.to (S := fun b => b = q)).trans hk3 fun _ _ e => e)
      have HB3 := Hid_mk (HB2.out.kept hk3 (by show ¬ r = q; have := HQr.out; omega))
      clear hR3 hk3 HR2 HK2 HB2
      by_cases h46 : y = 46
      · subst h46
        have HRf := Hid_mk (show R = .ok (setT fun x => !nul x) (k + 1) from by rw [← HRs2.out]; rfl)
        have hnt := fun W => not_any W nul
        simp only [svd, wd_nul] at hnt
        have HNt := Hid_mk hnt
        clear hnt
        go_wp2_with fail
        refine (HNt.out _).mono ?_
        rintro e W4 ⟨rfl, hk4⟩
        have HK4 := Hid_mk hk4
        clear hk4 HNt
        have ham := fun W => among_any W (fun x => !nul x)
        rw [svd] at ham
        have HAm := Hid_mk ham
        clear ham
        go_wp2_with fail
        refine (HAm.out _).mono ?_
        rintro e W5 ⟨rfl, hk5⟩
        have HK5 := Hid_mk (HK4.out.trans' hk5)
        have hb5 := HB3.out.kept HK5.out id
        obtain ⟨r0, r1, r2, r3, r4, r5, r6, r7, rw'⟩ := hb5
        clear hk5 HK4
        unfold cellsP
        generalize hF : (fun x => !nul x) = F at *
        go_wp2
        refine bodyPost_ret (v := .tuple #[.agg (cellsP 1 F none 0 0 1 1), .int .i64 0]) ?_ rfl ?_
        · simp [results, Try.results90, go_sem, cellsP, r0, r1, r2, r3, r4, r5, r6, r7]
        · rw [HRf.out]
          exact rs_leaf (HK3.out.trans HK5.out (T := No) fun _ _ e => e.elim) HR.out HQr.out (HR3.out.no HK5.out) HLt.out fun T w => set_val T w F
      have e46 : ((y : Int) == 46) = false := by rw [beq_eq_false_iff_ne]; omega
      by_cases h94 : y = 94
      · subst h94
        have HRf := Hid_mk (show R = .ok (leafT 7) (k + 1) from by rw [← HRs2.out]; rfl)
        have HLf := Hid_mk fun W => leaf_any W 7
        go_wp2_with fail
        with_reducible refine (HLf.out _).mono ?_
        rintro e W5 ⟨rfl, hk5⟩
        have HK5 := Hid_mk hk5
        have hb5 := HB3.out.kept HK5.out id
        obtain ⟨r0, r1, r2, r3, r4, r5, r6, r7, rw'⟩ := hb5
        clear hk5
        unfold cellsP
        go_wp2
        refine bodyPost_ret (v := .tuple #[.agg (cellsP 7 nul none 0 0 1 1), .int .i64 0]) ?_ rfl ?_
        · simp [results, Try.results90, go_sem, cellsP, r0, r1, r2, r3, r4, r5, r6, r7, wd_nul]
        · rw [HRf.out]
          exact rs_leaf (HK3.out.trans HK5.out (T := No) fun _ _ e => e.elim) HR.out HQr.out (HR3.out.no HK5.out) HLt.out fun T w => leafk_val T w 7
      have e94 : ((y : Int) == 94) = false := by rw [beq_eq_false_iff_ne]; omega
      by_cases h36 : y = 36
      · subst h36
        have HRf := Hid_mk (show R = .ok (leafT 8) (k + 1) from by rw [← HRs2.out]; rfl)
        have HLf := Hid_mk fun W => leaf_any W 8
        go_wp2_with fail
        with_reducible refine (HLf.out _).mono ?_
        rintro e W5 ⟨rfl, hk5⟩
        have HK5 := Hid_mk hk5
        have hb5 := HB3.out.kept HK5.out id
        obtain ⟨r0, r1, r2, r3, r4, r5, r6, r7, rw'⟩ := hb5
        clear hk5
        unfold cellsP
        go_wp2
        refine bodyPost_ret (v := .tuple #[.agg (cellsP 8 nul none 0 0 1 1), .int .i64 0]) ?_ rfl ?_
        · simp [results, Try.results90, go_sem, cellsP, r0, r1, r2, r3, r4, r5, r6, r7, wd_nul]
        · rw [HRf.out]
          exact rs_leaf (HK3.out.trans HK5.out (T := No) fun _ _ e => e.elim) HR.out HQr.out (HR3.out.no HK5.out) HLt.out fun T w => leafk_val T w 8
      have e36 : ((y : Int) == 36) = false := by rw [beq_eq_false_iff_ne]; omega
      have HRf := Hid_mk (show R = .ok (setT (ofL [x])) (k + 1) from by rw [← HRs2.out, if_neg h46, if_neg h94, if_neg h36])
      have hbs := bs_nat W3 y HY2.out
      rw [show y.toUInt8 = x from by rw [← HY.out]; simp] at hbs
      have HBs := Hid_mk hbs
      clear hbs h46 h94 h36 HRs2
      go_wp2_with fail
      with_reducible refine (of_any _ _ _ HBs.out).mono ?_
      rintro e W7 ⟨rfl, hk7⟩
      have HK7 := Hid_mk (((Kp.refl No W3).alloc _).trans' hk7)
      clear hk7 HBs
      go_wp2_with fail
      with_reducible refine (among_any _ _).mono ?_
      rintro e W8 ⟨rfl, hk8⟩
      have HK8 := Hid_mk (HK7.out.trans' hk8)
      have hb8 := HB3.out.kept HK8.out id
      obtain ⟨r0, r1, r2, r3, r4, r5, r6, r7, rw'⟩ := hb8
      clear hk8
      unfold cellsP
      generalize hF : ofL [x] = F at *
      go_wp2
      refine bodyPost_ret (v := .tuple #[.agg (cellsP 1 F none 0 0 1 1), .int .i64 0]) ?_ rfl ?_
      · simp [results, Try.results90, go_sem, cellsP, r0, r1, r2, r3, r4, r5, r6, r7]
      · rw [HRf.out]
        exact rs_leaf (HK3.out.trans HK8.out (T := No) fun _ _ e => e.elim) HR.out HQr.out (HR3.out.no HK8.out) HLt.out fun T w => set_val T w F
    · rw [hb] at hse
      have HR2 := Hid_mk (show R = .bad 24 k from by rw [← hRs, if_pos (.inr hb)])
      have HSe := Hid_mk hse
      clear hRs he hl hkl hR0 hse hb hlt hki
      go_enter Try.func90, Try.ntmps90
      go_upto_region 1 with fail
      rw [HR.out, HW0.out]
      clear HW0
      go_wp2
      go_quiet ((go_at_call 65; exact HSe.out _))
      go_upto_region 2 with fail
      refine wp_name (fun W => Kp No W0 W) ((Kp.refl No W0).drewN _) ?_
      rintro W1 hk1
      have HK1 := Hid_mk hk1
      have hb1 := HB.out.kept hk1 id
      obtain ⟨r0, r1, r2, r3, r4, r5, r6, r7, rw'⟩ := hb1
      clear hk1 c0 c1
      go_wp2
      have hkz : Kp (fun b => b = r) W1 (putP W1 r (.int .i64 0) (.int .u64 0) (.int .u64 0) (.int .u64 0) (.int .u64 0) (.slice none 0 0) (.int .i64 0) (.int .i64 0)) := kp_putP (q := r) (Kp.refl (fun b => b = r) W1) (fun _ => rfl) _ _ _ _ _ _ _ _
      have hRz := (HR0.out.no HK1.out).kept hkz (by show ¬ q = r; have := HQr.out; omega) (fun i e _ => by have h1 := (HR0.out.no HK1.out).ge; have h2 := HQr.out; show w0.heap.size ≤ i; have e : i = r := e; omega)
      have hkf := ((HK0.out.trans' HK1.out).to (S := fun b => b = q)).trans hkz (T := fun b => b = r) fun i hi e => by have := HR.out; omega
      refine bodyPost_ret (v := .tuple #[.agg #[.int .i64 0, .int .u64 0, .int .u64 0, .int .u64 0, .int .u64 0, .slice none 0 0, .int .i64 0, .int .i64 0], .int .i64 24]) ?_ rfl ?_
      · simp [results, Try.results90, go_sem, r0, r1, r2, r3, r4, r5, r6, r7]
      · rw [HR2.out]
        exact ⟨o, rfl, hRz, hkf, HKl.out, by decide⟩

theorem all_any {w0 : World} {q : Nat} {l : List UInt8} {bk : Nat → Option ((Nat → Bool) × Nat)} (hl : l.length < 1000000000) (hbr : BrktC w0 q l bk) (hsg : SignC w0 q l) : ∀ N m, m ≤ N → AltC w0 q l bk m ∧ RowC w0 q l bk m ∧ PieceC w0 q l bk m ∧ AtomC w0 q l bk m
  | 0, m, hm => by
    obtain rfl : m = 0 := by omega
    refine ⟨?_, ?_, ?_, ?_⟩
    all_goals
      intro w k o h hk ho hn
      omega
  | N + 1, m, hm => by
    have ih := all_any hl hbr hsg N
    cases m with
    | zero =>
      refine ⟨?_, ?_, ?_, ?_⟩
      all_goals
        intro w k o h hk ho hn
        omega
    | succ m =>
      refine ⟨?_, ?_, piece_any hl hsg m (ih m (by omega)).2.2.2, atom_any hl hbr m (ih m (by omega)).1⟩
      · intro w k o h hk ho hn
        exact alts_any hl (m + 1) (fun j hj => (ih j (by omega)).2.1) w k o h hk ho hn
      · intro w k o h hk ho hn
        rw [rowF]
        exact pieces_any hl m (fun j hj => (ih j (by omega)).2.2.1) w k o h hk ho (by omega)
theorem alt_any {w0 : World} {q : Nat} {l : List UInt8} {bk : Nat → Option ((Nat → Bool) × Nat)} (hl : l.length < 1000000000) (hbr : BrktC w0 q l bk) (hsg : SignC w0 q l) (m : Nat) : AltC w0 q l bk m := (all_any hl hbr hsg m m (Nat.le_refl _)).1

end Go.Proofs.Ytaneblecgjahbab.ere

namespace Go.Proofs.Ytaneblecgjahbab.ere
open Go.RowKit Go.Proofs.Ytaneblecgjahbab.sum Go.Proofs.Ytaneblecgjahbab.kept Go.Proofs.Ytaneblecgjahbab.pop Go.Proofs.Ytaneblecgjahbab.cls Go.Proofs.Ytaneblecgjahbab.tre Go.Proofs.Ytaneblecgjahbab.str
set_option linter.unusedVariables false

/-- what Parse leaves -/
def PrPost (w : World) (x : Tr × Nat × Nat) (e : Ending) (w' : World) : Prop :=
  ∃ v, e = .returned (.tuple #[v, .int .i64 (x.2.1 : Int), .int .i64 (x.2.2 : Int)]) ∧ ReV (fun b => w.heap.size ≤ b) w' x.1 v ∧ Kp No w w'
/-- six cells of a tree at a block -/
structure RAt (w : World) (q : Nat) (x0 x1 x2 x3 x4 x5 : Value) : Prop where
  c0 : w.cell? ⟨q, 0, none⟩ = some x0
  c1 : w.cell? ⟨q, 1, none⟩ = some x1
  c2 : w.cell? ⟨q, 2, none⟩ = some x2
  c3 : w.cell? ⟨q, 3, none⟩ = some x3
  c4 : w.cell? ⟨q, 4, none⟩ = some x4
  c5 : w.cell? ⟨q, 5, none⟩ = some x5
  warm : ∀ i, w.frozen? ⟨q, i, none⟩ = false
theorem RAt.lt {w : World} {q : Nat} {x0 x1 x2 x3 x4 x5 : Value} (h : RAt w q x0 x1 x2 x3 x4 x5) : q < w.heap.size := World.block_lt_of_cell? w ⟨q, 0, none⟩ h.c0
theorem RAt.new (w : World) (x0 x1 x2 x3 x4 x5 : Value) (ty : TypeId) : RAt (w.alloc (.cells #[x0, x1, x2, x3, x4, x5] ty)) w.heap.size x0 x1 x2 x3 x4 x5 :=
  ⟨by simp, by simp, by simp, by simp, by simp, by simp, fun i => by simp⟩
theorem RAt.kept {S : Nat → Prop} {w w' : World} {q : Nat} {x0 x1 x2 x3 x4 x5 : Value} (h : RAt w q x0 x1 x2 x3 x4 x5) (hk : Kp S w w') (hq : ¬ S q) : RAt w' q x0 x1 x2 x3 x4 x5 :=
  ⟨hk.cell' h.c0 hq, hk.cell' h.c1 hq, hk.cell' h.c2 hq, hk.cell' h.c3 hq, hk.cell' h.c4 hq, hk.cell' h.c5 hq, fun i => (hk.frozen (p := ⟨q, i, none⟩) h.lt hq).trans (h.warm i)⟩
theorem fits_abs (t : Tr) : (decide ((absP t).n ≤ 400) && decide ((absP t).h ≤ 40)) = fitsB t := by
  cases h : fitsB t with
  | true =>
    rw [absP_fits h]
    exact h
  | false =>
    rw [absP_over h]
    rfl
theorem zero_val (T : Nat → Prop) (w : World) : ReV T w (leafT 0) (.agg #[.int .i64 0, .int .u64 0, .int .u64 0, .int .u64 0, .int .u64 0, .slice none 0 0]) := by
  have h := leaf_val T w 0 nul 0 (by decide) none
  simp only [cellsR, wd_nul] at h
  exact h

set_option maxRecDepth 100000 in
set_option maxHeartbeats 8000000 in
theorem parse_any (w : World) (l : List UInt8) (bk : Nat → Option ((Nat → Bool) × Nat)) (hl : l.length < 1000000000) (hbr : ∀ q, BrktC w q l bk) (hsg : ∀ q, SignC w q l) :
    Calls Try.prog 21 #[.string (st l)] w (PrPost w (parseS l bk (8 * l.length + 8))) := by
  obtain ⟨W0, hW0⟩ : ∃ W0, w.alloc (.cells #[.int .i64 0, .int .u64 0, .int .u64 0, .int .u64 0, .int .u64 0, .slice none 0 0] 30) = W0 := ⟨_, rfl⟩
  obtain ⟨r, hr⟩ : ∃ r, w.heap.size = r := ⟨_, rfl⟩
  have hK0 : Kp No w W0 := by rw [← hW0]; exact (Kp.refl No w).alloc _
  have hz : W0.heap.size = r + 1 := by rw [← hW0, ← hr]; simp
  have hB : RAt W0 r (.int .i64 0) (.int .u64 0) (.int .u64 0) (.int .u64 0) (.int .u64 0) (.slice none 0 0) := by
    rw [← hW0, ← hr]
    exact RAt.new _ _ _ _ _ _ _ _
  have hsz := st_size l
  have hst := st_list l
  have HW0 := Hid_mk hW0
  have HR := Hid_mk hr
  have HB := Hid_mk hB
  have HK0 := Hid_mk hK0
  have HZ := Hid_mk hz
  have HLn := Hid_mk hl
  have hnq : r < w.heap.size → No r := fun h => by omega
  have HNq := Hid_mk hnq
  obtain ⟨X, hX⟩ : ∃ X, parseS l bk (8 * l.length + 8) = X := ⟨_, rfl⟩
  rw [hX]
  unfold parseS at hX
  by_cases hnil : l = []
  · subst hnil
    rw [if_pos rfl] at hX
    have HX := Hid_mk hX
    obtain ⟨r0, r1, r2, r3, r4, r5, rw'⟩ := hB
    clear hX hW0 hr hK0 hz hsg hbr hnq
    go_enter Try.func21, Try.ntmps21
    go_upto_region 1 with fail
    rw [HR.out, HW0.out]
    clear HW0
    go_wp2
    have hkf := kp_putT (HK0.out) HNq.out (.int .i64 0) (.int .u64 0) (.int .u64 0) (.int .u64 0) (.int .u64 0) (.slice none 0 0)
    refine bodyPost_ret (v := .tuple #[.agg #[.int .i64 0, .int .u64 0, .int .u64 0, .int .u64 0, .int .u64 0, .slice none 0 0], .int .i64 0, .int .i64 0]) ?_ rfl ?_
    · simp [results, Try.results21, go_sem, r0, r1, r2, r3, r4, r5]
    · rw [← HX.out]
      exact ⟨_, rfl, zero_val _ _, hkf⟩
  · rw [if_neg hnil] at hX
    obtain ⟨W1, hW1⟩ : ∃ W1, W0.alloc (.cells #[.string (st l), .int .i64 0, .int .i64 0] 100) = W1 := ⟨_, rfl⟩
    have hk1 : Kp No W0 W1 := by rw [← hW1]; exact (Kp.refl No W0).alloc _
    have hRd : RdAt w W1 (r + 1) l 0 0 := by
      rw [← hW1, ← hz]
      exact ⟨by simp, by simp, by simp, fun i => by simp, hK0.size, hK0.alloc _⟩
    have hac := alt_any hl (hbr (r + 1)) (hsg (r + 1)) (8 * l.length + 8) W1 0 0 hRd (Nat.zero_le _) (by omega) (by omega)
    have hlz : (l == []) = false := by cases l with
      | nil => exact absurd rfl hnil
      | cons a l => rfl
    have HW1 := Hid_mk hW1
    have HB1 := Hid_mk (hB.kept hk1 id)
    have HK1 := Hid_mk (hK0.trans' hk1)
    have HS1 := Hid_mk (show r + 2 ≤ W1.heap.size by rw [← hW1]; simp; omega)
    clear hW0 hr hK0 hz hB hW1 hRd hnq hsg hbr hk1 hl
    rcases hpf : (altsF l bk (8 * l.length + 8) 0 0).join 3 with ⟨t, k⟩ | ⟨c, k⟩
    · rw [hpf] at hac hX
      have hac2 : Calls Try.prog 47 #[.pointer (some ⟨r + 1, 0, none⟩)] W1 fun e w' => ∃ xk xf xa xn xc xp, e = .returned (.tuple #[.agg (cellsP xk xf xa xn xc (Pt.n xp) (Pt.h xp)), .int .i64 0]) ∧ xp = absP t ∧ ReV (fun b => W1.heap.size ≤ b) w' xp.t (.agg (cellsR xk xf xa xn xc)) ∧ RdAt w w' (r + 1) l k 0 ∧ Kp (fun b => b = r + 1) W1 w' ∧ k ≤ l.length := by
        refine hac.mono ?_
        rintro e w' ⟨_, rfl, ⟨xk, xf, xa, xn, xc, rfl, hv⟩, h1, h2, h3, h4⟩
        exact ⟨xk, xf, xa, xn, xc, _, rfl, rfl, hv, h1, h2, h4⟩
      unfold cellsP at hac2
      have HAc := Hid_mk hac2
      have HX := Hid_mk hX
      clear hac hac2 hpf hX
      go_enter Try.func21, Try.ntmps21
      go_upto_region 1 with fail
      rw [HR.out, HW0.out]
      clear HW0
      go_upto_region 4 with fail
      rw [HZ.out, HW1.out]
      clear HW1
      go_wp2_with fail
      with_reducible refine HAc.out.mono ?_
      rintro e w1 ⟨xk, xf, xa, xn, xc, xp, rfl, hxp, hxv, hR1, hk1, hk3⟩
      have HXp := Hid_mk hxp
      have HXv := Hid_mk hxv
      have HR1 := Hid_mk hR1
      have HK2 := Hid_mk (HK1.out.trans hk1 (T := fun b => b = r + 1) fun i hi e => by have := HR.out; omega)
      have HK3 := Hid_mk hk3
      have HB2 := Hid_mk (HB1.out.kept hk1 (by show ¬ r = r + 1; omega))
      have HS2 := Hid_mk (Nat.le_trans HS1.out hk1.size)
      clear hxp hxv hR1 hk1 hk3 HAc
      go_upto_region 5 with fail
      obtain ⟨g, hg⟩ : ∃ g, w1.heap.size = g := ⟨_, rfl⟩
      rw [hg]
      have hp5 : PAt (w1.alloc (.cells #[.int .i64 xk, .int .u64 (wd xf 0 64 : Nat), .int .u64 (wd xf 64 64 : Nat), .int .u64 (wd xf 128 64 : Nat), .int .u64 (wd xf 192 64 : Nat), .slice xa xn xc, .int .i64 (xp.n : Int), .int .i64 (xp.h : Int)] 102)) g (.int .i64 xk) (.int .u64 (wd xf 0 64 : Nat)) (.int .u64 (wd xf 64 64 : Nat)) (.int .u64 (wd xf 128 64 : Nat)) (.int .u64 (wd xf 192 64 : Nat)) (.slice xa xn xc) (.int .i64 (xp.n : Int)) (.int .i64 (xp.h : Int)) := by
        rw [← hg]
        exact PAt.new _ _ _ _ _ _ _ _ _ _
      have hk5 : Kp No w1 (w1.alloc (.cells #[.int .i64 xk, .int .u64 (wd xf 0 64 : Nat), .int .u64 (wd xf 64 64 : Nat), .int .u64 (wd xf 128 64 : Nat), .int .u64 (wd xf 192 64 : Nat), .slice xa xn xc, .int .i64 (xp.n : Int), .int .i64 (xp.h : Int)] 102)) := (Kp.refl No w1).alloc _
      have hgr : r + 2 ≤ g := by have := HS2.out; omega
      have HGr := Hid_mk hgr
      refine wp_name (fun W => PAt W g (.int .i64 xk) (.int .u64 (wd xf 0 64 : Nat)) (.int .u64 (wd xf 64 64 : Nat)) (.int .u64 (wd xf 128 64 : Nat)) (.int .u64 (wd xf 192 64 : Nat)) (.slice xa xn xc) (.int .i64 (xp.n : Int)) (.int .i64 (xp.h : Int)) ∧ Kp No w1 W) ⟨hp5, hk5⟩ ?_
      clear hp5 hk5 hgr hg
      rintro W5 ⟨hp5, hk5⟩
      have HP5 := Hid_mk hp5
      have HK5 := Hid_mk (HK2.out.trans' hk5)
      have HB5 := Hid_mk (HB2.out.kept hk5 id)
      have HV5 := Hid_mk (ReV.no hk5 _ _ HXv.out)
      have hR5 := HR1.out.no hk5
      have c1 := hR5.c1
      have C1 := Hid_mk c1
      clear hp5 hk5 hR5 HXv HB2
      have hki0 : (0 : Int) ≤ (k : Int) := Int.natCast_nonneg _
      by_cases hkl : k < l.length
      · have hkli : (k : Int) < (l.length : Int) := by omega
        have HX2 := Hid_mk (show (leafT 0, k, 24) = X from by rw [← HX.out]; show _ = if k < l.length then (leafT 0, k, 24) else _; rw [if_pos hkl])
        clear hkl
        obtain ⟨r0, r1, r2, r3, r4, r5, rw'⟩ := id HB5.out
        go_upto_region 8 with fail
        go_region
        all_goals
          go_wp2
          have hkf := (kp_putT HK5.out HNq.out (.int .i64 0) (.int .u64 0) (.int .u64 0) (.int .u64 0) (.int .u64 0) (.slice none 0 0)).drew
          refine bodyPost_ret (v := .tuple #[.agg #[.int .i64 0, .int .u64 0, .int .u64 0, .int .u64 0, .int .u64 0, .slice none 0 0], .int .i64 (k : Int), .int .i64 24]) ?_ rfl ?_
          · simp [results, Try.results21, go_sem, r0, r1, r2, r3, r4, r5]
          · rw [← HX2.out]
            exact ⟨_, rfl, zero_val _ _, hkf⟩
      · have hkli : ¬ (k : Int) < (l.length : Int) := by omega
        have hX3 : (if fitsB t = true then (t, 0, 0) else (leafT 0, 0, 24)) = X := by rw [← HX.out]; show _ = if k < l.length then (leafT 0, k, 24) else _; rw [if_neg hkl]
        have HX3 := Hid_mk hX3
        have hfi := fits_any W5 xk xf xa xn xc xp.n xp.h
        rw [HXp.out, fits_abs, ← HXp.out] at hfi
        unfold cellsP at hfi
        have HFi := Hid_mk hfi
        obtain ⟨p0, p1, p2, p3, p4, p5, p6, p7, pw⟩ := id HP5.out
        clear hkl hX3 hfi
        go_wp2_with fail
        with_reducible refine HFi.out.mono ?_
        rintro e W6 ⟨rfl, hk6⟩
        have hb6 := HB5.out.kept hk6 id
        have hp6 := HP5.out.kept hk6 id
        have HK6 := Hid_mk (HK5.out.trans' hk6)
        have HV6 := Hid_mk (ReV.no hk6 _ _ HV5.out)
        obtain ⟨r0, r1, r2, r3, r4, r5, rw'⟩ := hb6
        clear p0 p1 p2 p3 p4 p5 p6 p7 pw hk6 HFi
        obtain ⟨p0, p1, p2, p3, p4, p5, p6, p7, pw⟩ := hp6
        rcases hf : fitsB t with _ | _
        · have HX4 := Hid_mk (show (leafT 0, 0, 24) = X from by rw [← HX3.out, if_neg (by rw [hf]; simp)])
          clear hf
          go_wp2
          have hkf := kp_putT HK6.out HNq.out (.int .i64 0) (.int .u64 0) (.int .u64 0) (.int .u64 0) (.int .u64 0) (.slice none 0 0)
          refine bodyPost_ret (v := .tuple #[.agg #[.int .i64 0, .int .u64 0, .int .u64 0, .int .u64 0, .int .u64 0, .slice none 0 0], .int .i64 0, .int .i64 24]) ?_ rfl ?_
          · simp [results, Try.results21, go_sem, r0, r1, r2, r3, r4, r5]
          · rw [← HX4.out]
            exact ⟨_, rfl, zero_val _ _, hkf⟩
        · have HX4 := Hid_mk (show (t, 0, 0) = X from by rw [← HX3.out, if_pos hf])
          have HXt := Hid_mk (show xp.t = t from by rw [HXp.out, absP_fits hf])
          clear hf
          go_wp2
          have hkz : Kp (fun b => b = r) W6 (ere.putT W6 r (.int .i64 xk) (.int .u64 (wd xf 0 64 : Nat)) (.int .u64 (wd xf 64 64 : Nat)) (.int .u64 (wd xf 128 64 : Nat)) (.int .u64 (wd xf 192 64 : Nat)) (.slice xa xn xc)) := kp_putT (q := r) (Kp.refl (fun b => b = r) W6) (fun _ => rfl) _ _ _ _ _ _
          have hkf := kp_putT HK6.out HNq.out (.int .i64 xk) (.int .u64 (wd xf 0 64 : Nat)) (.int .u64 (wd xf 64 64 : Nat)) (.int .u64 (wd xf 128 64 : Nat)) (.int .u64 (wd xf 192 64 : Nat)) (.slice xa xn xc)
          have hvz := ReV.wider (T' := fun b => w.heap.size ≤ b) (fun b hb _ => by have hb : W1.heap.size ≤ b := hb; have := HS1.out; have := HR.out; omega) _ _ (ReV.kept hkz (fun b hb _ => by have hb : W1.heap.size ≤ b := hb; have := HS1.out; show ¬ b = r; omega) _ _ HV6.out)
          rw [HXt.out] at hvz
          refine bodyPost_ret (v := .tuple #[.agg (cellsR xk xf xa xn xc), .int .i64 0, .int .i64 0]) ?_ rfl ?_
          · simp [results, Try.results21, go_sem, cellsR, r0, r1, r2, r3, r4, r5]
          · rw [← HX4.out]
            exact ⟨_, rfl, hvz, hkf⟩
    · rw [hpf] at hac hX
      have hac2 : Calls Try.prog 47 #[.pointer (some ⟨r + 1, 0, none⟩)] W1 fun e w' => ∃ o', e = .returned (.tuple #[.agg #[.int .i64 0, .int .u64 0, .int .u64 0, .int .u64 0, .int .u64 0, .slice none 0 0, .int .i64 0, .int .i64 0], .int .i64 (c : Int)]) ∧ RdAt w w' (r + 1) l k o' ∧ Kp (fun b => b = r + 1) W1 w' ∧ k ≤ l.length ∧ 0 < c := hac
      have HAc := Hid_mk hac2
      have HX2 := Hid_mk (show (leafT 0, k, c) = X from hX)
      clear hac hac2 hpf hX
      go_enter Try.func21, Try.ntmps21
      go_upto_region 1 with fail
      rw [HR.out, HW0.out]
      clear HW0
      go_upto_region 4 with fail
      rw [HZ.out, HW1.out]
      clear HW1
      go_wp2_with fail
      with_reducible refine HAc.out.mono ?_
      rintro e w1 ⟨o', rfl, hR1, hk1, hk3, hc⟩
      have hcn : ((c : Int) != 0) = true := by simp; omega
      have hcf : ((c : Int) == 0) = false := by rw [beq_eq_false_iff_ne]; omega
      have HR1 := Hid_mk hR1
      have HK2 := Hid_mk (HK1.out.trans hk1 (T := fun b => b = r + 1) fun i hi e => by have := HR.out; omega)
      have HB2 := Hid_mk (HB1.out.kept hk1 (by show ¬ r = r + 1; omega))
      clear hR1 hk1 hk3 HAc hc
      go_upto_region 7 with fail
      refine wp_name (fun W => Kp No w1 W) ((Kp.refl No w1).alloc _) ?_
      rintro W5 hk5
      have hR5 := HR1.out.no hk5
      have c1 := hR5.c1
      have HK5 := Hid_mk (HK2.out.trans' hk5)
      have HB5 := Hid_mk (HB2.out.kept hk5 id)
      clear hR5 hk5 HB2
      obtain ⟨r0, r1, r2, r3, r4, r5, rw'⟩ := id HB5.out
      go_upto_region 8 with fail
      go_region
      all_goals
        go_wp2
        have hkf := (kp_putT HK5.out HNq.out (.int .i64 0) (.int .u64 0) (.int .u64 0) (.int .u64 0) (.int .u64 0) (.slice none 0 0)).drew
        refine bodyPost_ret (v := .tuple #[.agg #[.int .i64 0, .int .u64 0, .int .u64 0, .int .u64 0, .int .u64 0, .slice none 0 0], .int .i64 (k : Int), .int .i64 (c : Int)]) ?_ rfl ?_
        · simp [results, Try.results21, go_sem, r0, r1, r2, r3, r4, r5]
        · rw [← HX2.out]
          exact ⟨_, rfl, zero_val _ _, hkf⟩

end Go.Proofs.Ytaneblecgjahbab.ere
