/- Package ere: what a backslash takes with it. -/
import Derived.Test.YtdognehkbahmdaaEreSign
import Derived.Test.YtdognehkbahmdaaSets2
namespace Go.Proofs.Ytdognehkbahmdaa.ere
open Go.RowKit Go.Proofs.Ytdognehkbahmdaa.sum Go.Proofs.Ytdognehkbahmdaa.kept Go.Proofs.Ytdognehkbahmdaa.pop Go.Proofs.Ytdognehkbahmdaa.cls Go.Proofs.Ytdognehkbahmdaa.tre Go.Proofs.Ytdognehkbahmdaa.str
set_option linter.unusedVariables false

theorem bs_nat (w : World) (b : Nat) (hb : b < 256) : Bs (w.alloc (.cells #[.int .u8 (b : Int)] 5)) (.slice (some ⟨w.heap.size, 0, none⟩) 1 1) [b.toUInt8] := by
  have h := bs_of1 w b.toUInt8
  rw [show (b.toUInt8).toNat = b from by simp; omega] at h
  exact h
/-- the part of one set -/
theorem set_abs (f : Nat → Bool) : absP (setT f) = ⟨setT f, 1, 1⟩ := by
  unfold setT
  rw [absP_fits (by unfold fitsB; simp [setsS, highS, highL])]
  simp [setsS, highS, highL]
theorem leaf_abs (k : Int) : absP (leafT k) = ⟨leafT k, 1, 1⟩ := by
  unfold leafT
  rw [absP_fits (by unfold fitsB; simp [setsS, highS, highL])]
  simp [setsS, highS, highL]
theorem set_val (T : Nat → Prop) (w : World) (f : Nat → Bool) : PtV T w (absP (setT f)) (.agg (cellsP 1 f none 0 0 1 1)) := by
  rw [set_abs]
  exact ⟨1, f, none, 0, 0, rfl, leaf_val T w 1 f 0 (by decide) none⟩
theorem leafk_val (T : Nat → Prop) (w : World) (k : Int) : PtV T w (absP (leafT k)) (.agg (cellsP k nul none 0 0 1 1)) := by
  rw [leaf_abs]
  exact ⟨k, nul, none, 0, 0, rfl, leaf_val T w k nul 0 (by decide) none⟩
/-- a backslash at a place -/
def escR (l : List UInt8) (k : Nat) : Rs :=
  if k + 1 = l.length then .bad 24 (k + 1)
  else if octN l (k + 1) = 0 then .ok (setT (ofL [(escS (atB l (k + 1))).toUInt8])) (k + 2)
  else .ok (setT (ofL [(octV l (k + 1) (octN l (k + 1))).toUInt8])) (k + 1 + octN l (k + 1))
theorem escS_lt (b : Nat) (h : b < 256) : escS b < 256 := by unfold escS; (repeat' split) <;> omega

set_option maxRecDepth 100000 in
set_option maxHeartbeats 4000000 in
theorem escape_any {w0 w : World} {q : Nat} {l : List UInt8} {k o : Nat} (h : RdAt w0 w q l k o) (hl : l.length < 4294967281) (hk : k < l.length) :
    Calls Try.prog 79 #[.pointer (some ⟨q, 0, none⟩)] w (RsPost (fun b => w.heap.size ≤ b) w0 w q l k o (escR l k)) := by
  obtain ⟨W0, hW0⟩ : ∃ W0, w.alloc (.cells #[.int .i64 0, .int .u64 0, .int .u64 0, .int .u64 0, .int .u64 0, .slice none 0 0, .int .i64 0, .int .i64 0] 60) = W0 := ⟨_, rfl⟩
  obtain ⟨r, hr⟩ : ∃ r, w.heap.size = r := ⟨_, rfl⟩
  have hK0 : Kp No w W0 := by rw [← hW0]; exact (Kp.refl No w).alloc _
  have hB : PAt W0 r (.int .i64 0) (.int .u64 0) (.int .u64 0) (.int .u64 0) (.int .u64 0) (.slice none 0 0) (.int .i64 0) (.int .i64 0) := by
    rw [← hW0, ← hr]
    exact PAt.new _ _ _ _ _ _ _ _ _ _
  have hR0 := h.no hK0
  have hqr : q < r := by have := h.lt; omega
  have hsz := st_size l
  have hki0 : (0 : Int) ≤ (k : Int) := Int.natCast_nonneg _
  have hwk : IntKind.i64.wrap ((k : Int) + 1) = ((k + 1 : Nat) : Int) := by rw [IntWalk.i64_in _ (by omega)]; push_cast; rfl
  have HKS := Hid_mk hk
  have HW0 := Hid_mk hW0
  have HR := Hid_mk hr
  have HQr := Hid_mk hqr
  obtain ⟨R, hRs⟩ : ∃ R, escR l k = R := ⟨_, rfl⟩
  rw [hRs]
  unfold escR at hRs
  have HRs := Hid_mk hRs
  have HB := Hid_mk hB
  have HR0 := Hid_mk hR0
  have HK0 := Hid_mk hK0
  have c1 := hR0.c1
  have cw := hR0.warm
  clear hW0 hr hK0 hB hR0 hk h hqr hRs
  go_enter Try.func79, Try.ntmps79
  go_upto_region 1 with fail
  rw [HR.out, HW0.out]
  clear HW0
  go_upto_region 2 with fail
  have hks : Kp (fun b => b = q) W0 (W0.setCell ⟨q, 1, none⟩ (.int .i64 ((k + 1 : Nat) : Int))) := (Kp.refl (fun b => b = q) W0).setCell (p := ⟨q, 1, none⟩) (fun _ => rfl) _
  refine wp_name (fun W => RdAt w0 W q l (k + 1) o ∧ Kp (fun b => b = q) W0 W) ⟨HR0.out.at' (k + 1), hks⟩ ?_
  clear hks c1 cw
  rintro W1 ⟨hR1, hk1⟩
  have HR1 := Hid_mk hR1
  have HK1 := Hid_mk ((HK0.out.to (S := fun b => b = q)).trans hk1 fun _ _ e => e)
  have HB1 := Hid_mk (HB.out.kept hk1 (by show ¬ r = q; have := HQr.out; omega))
  have c0 := hR1.c0
  have c1 := hR1.c1
  clear hR1 hk1 HB HR0 HK0
  have hk1i : ((k : Int) + 1) = ((k + 1 : Nat) : Int) := by push_cast; rfl
  by_cases he : k + 1 = l.length
  · rw [← he] at hsz
    have HR2 := Hid_mk (show R = .bad 24 (k + 1) from by rw [← HRs.out, if_pos he])
    have HE := Hid_mk he
    clear he HRs hk1i hl
    go_wp2
    go_quiet (fail)
    go_upto_region 3 with fail
    refine wp_name (fun W => Kp No W1 W) ((Kp.refl No W1).drewN _) ?_
    rintro W3 hk3
    have hB3 := HB1.out.kept hk3 id
    have HK3 := Hid_mk hk3
    obtain ⟨r0, r1, r2, r3, r4, r5, r6, r7, rw'⟩ := hB3
    clear hk3 c0 c1
    go_wp2
    have hkz : Kp (fun b => b = r) W3 (putP W3 r (.int .i64 0) (.int .u64 0) (.int .u64 0) (.int .u64 0) (.int .u64 0) (.slice none 0 0) (.int .i64 0) (.int .i64 0)) := kp_putP (q := r) (Kp.refl (fun b => b = r) W3) (fun _ => rfl) _ _ _ _ _ _ _ _
    have hRz := (HR1.out.no HK3.out).kept hkz (by show ¬ q = r; have := HQr.out; omega) (fun i e _ => by have h1 := HR1.out.ge; have h2 := HQr.out; show w0.heap.size ≤ i; have e : i = r := e; omega)
    have hkf := (HK1.out.trans HK3.out (T := No) fun _ _ e => e.elim).trans hkz (T := fun b => b = r) fun i hi e => by have := HR.out; omega
    refine bodyPost_ret (v := .tuple #[.agg #[.int .i64 0, .int .u64 0, .int .u64 0, .int .u64 0, .int .u64 0, .slice none 0 0, .int .i64 0, .int .i64 0], .int .i64 24]) ?_ rfl ?_
    · simp [results, Try.results79, go_sem, r0, r1, r2, r3, r4, r5, r6, r7]
    · rw [HR2.out]
      exact ⟨o, rfl, hRz, hkf, HKS.out, by decide⟩
  · have hei : ¬ (k : Int) + 1 = (l.length : Int) := by omega
    have heb : ((k : Int) + 1 == (l.length : Int)) = false := by rw [beq_eq_false_iff_ne]; exact hei
    rw [if_neg he] at HRs
    have HE := Hid_mk he
    have hki : (k : Int) + 1 < (l.length : Int) := by have := HKS.out; omega
    have hoc := fun W => octal_any W l (k + 1) HKS.out hl
    have hr3 := octN_room l (k + 1) HKS.out
    have hv3 := octV_lt l (k + 1) (octN l (k + 1))
    rw [← hk1i] at hoc
    clear he hk1i
    go_wp2
    go_quiet (fail)
    go_upto_region 4 with fail
    refine wp_name (fun W => Kp No W1 W) ((Kp.refl No W1).drewN _) ?_
    rintro W3 hk3
    have hR3 := HR1.out.no hk3
    have HR3 := Hid_mk hR3
    have HB3 := Hid_mk (HB1.out.kept hk3 id)
    have HK3 := Hid_mk (HK1.out.trans hk3 (T := No) fun _ _ e => e.elim)
    clear c0 c1 hk3 HR1 HB1 HK1
    have c0 := hR3.c0
    have c1 := hR3.c1
    have HOc := Hid_mk fun n => Calls.quiet_of_same (hoc (W3.drewN n))
    obtain ⟨n, hn⟩ : ∃ n, octN l (k + 1) = n := ⟨_, rfl⟩
    obtain ⟨V, hV⟩ : ∃ V, octV l (k + 1) n = V := ⟨_, rfl⟩
    rw [hn, hV] at HOc
    rw [hn, hV] at HRs hv3
    rw [hn] at hr3
    clear hR3 hn hV hoc
    go_wp2
    go_quiet ((go_at_call 92; exact HOc.out _))
    go_upto_region 5 with fail
    refine wp_name (fun W => Kp No W3 W) ((Kp.refl No W3).drewN _) ?_
    rintro W4 hk4
    have hR4 := HR3.out.no hk4
    have HR4 := Hid_mk hR4
    have HB4 := Hid_mk (HB3.out.kept hk4 id)
    have HK4 := Hid_mk (HK3.out.trans hk4 (T := No) fun _ _ e => e.elim)
    clear c0 c1 hk4 HR3 HB3 HK3 HOc
    have c0 := hR4.c0
    have c1 := hR4.c1
    have cw := hR4.warm
    clear hR4
    by_cases h0 : n = 0
    · subst h0
      obtain ⟨x, hx⟩ : ∃ x, atB l (k + 1) = x := ⟨_, rfl⟩
      have hx256 : x < 256 := by rw [← hx]; exact (l.getD (k + 1) 0).toNat_lt
      have hg : ∀ h : k + 1 < (st l).size, ((st l)[k + 1]).toNat = x := fun h => (st_get l (k + 1) h).trans hx
      have HR2 := Hid_mk (show R = .ok (setT (ofL [(escS x).toUInt8])) (k + 2) from by rw [← HRs.out, if_pos rfl, hx])
      have HEs := Hid_mk fun n => Calls.quiet_of_same (escaped_any (W4.drewN n) x hx256)
      have hes := escS_lt x hx256
      have hwk2 : IntKind.i64.wrap ((k : Int) + 1 + 1) = ((k + 2 : Nat) : Int) := by rw [IntWalk.i64_in _ (by omega)]; push_cast; rfl
      have hkn : (0 : Int) ≤ (k : Int) + 1 := by omega
      have hkn2 : ((k : Int) + 1).toNat = k + 1 := by omega
      generalize escS x = V' at HR2 HEs hes
      clear hx hx256 HRs
      go_wp2
      go_quiet ((go_at_call 93; exact HEs.out _))
      go_upto_region 7 with fail
      refine wp_name (fun W => Kp No W4 W) (by first | exact Kp.refl No W4 | exact (Kp.refl No W4).drewN _) ?_
      rintro W5 hk5
      have hR5 := HR4.out.no hk5
      have HR5 := Hid_mk hR5
      have HB5 := Hid_mk (HB4.out.kept hk5 id)
      have HK5 := Hid_mk (HK4.out.trans hk5 (T := No) fun _ _ e => e.elim)
      clear c0 c1 cw
      have c0 := hR5.c0
      have c1 := hR5.c1
      have cw := hR5.warm
      clear hR5 hk5
      go_upto_region 8 with fail
      have hks : Kp (fun b => b = q) W5 (W5.setCell ⟨q, 1, none⟩ (.int .i64 ((k + 2 : Nat) : Int))) := (Kp.refl (fun b => b = q) W5).setCell (p := ⟨q, 1, none⟩) (fun _ => rfl) _
      refine wp_name (fun W => RdAt w0 W q l (k + 2) o ∧ Kp (fun b => b = q) W5 W) ⟨HR5.out.at' (k + 2), hks⟩ ?_
      clear hks c0 c1 cw
      rintro W6 ⟨hR6, hk6⟩
      have HR6 := Hid_mk hR6
      have HK6 := Hid_mk (HK5.out.trans hk6 fun _ _ e => e)
      have HB6 := Hid_mk (HB5.out.kept hk6 (by show ¬ r = q; have := HQr.out; omega))
      clear hR6 hk6
      have hbs := bs_nat W6 V' hes
      have HBs := Hid_mk hbs
      clear hbs
      go_wp2_with fail
      with_reducible refine (of_any _ _ _ HBs.out).mono ?_
      rintro e W7 ⟨rfl, hk7⟩
      have HK7 := Hid_mk (((Kp.refl No W6).alloc _).trans' hk7)
      clear hk7 HBs
      go_wp2_with fail
      with_reducible refine (among_any _ _).mono ?_
      rintro e W8 ⟨rfl, hk8⟩
      have HK8 := Hid_mk (HK7.out.trans' hk8)
      have hB8 := HB6.out.kept HK8.out id
      obtain ⟨r0, r1, r2, r3, r4, r5, r6, r7, rw'⟩ := hB8
      clear hk8
      unfold cellsP
      go_wp2
      generalize hF : ofL [V'.toUInt8] = F at *
      have hkz : Kp (fun b => b = r) W8 (putP W8 r (.int .i64 1) (.int .u64 (wd F 0 64 : Nat)) (.int .u64 (wd F 64 64 : Nat)) (.int .u64 (wd F 128 64 : Nat)) (.int .u64 (wd F 192 64 : Nat)) (.slice none 0 0) (.int .i64 1) (.int .i64 1)) := kp_putP (q := r) (Kp.refl (fun b => b = r) W8) (fun _ => rfl) _ _ _ _ _ _ _ _
      have hRz := (HR6.out.no HK8.out).kept hkz (by show ¬ q = r; have := HQr.out; omega) (fun i e _ => by have h1 := HR6.out.ge; have h2 := HQr.out; show w0.heap.size ≤ i; have e : i = r := e; omega)
      have hkf := (HK6.out.trans HK8.out (T := No) fun _ _ e => e.elim).trans hkz (T := fun b => b = r) fun i hi e => by have := HR.out; omega
      refine bodyPost_ret (v := .tuple #[.agg (cellsP 1 F none 0 0 1 1), .int .i64 0]) ?_ rfl ?_
      · simp [results, Try.results79, go_sem, cellsP, r0, r1, r2, r3, r4, r5, r6, r7]
      · rw [HR2.out]
        exact ⟨_, rfl, set_val _ _ F, hRz, hkf, by omega, by have := HKS.out; have := HE.out; omega⟩
    · have hne : ¬ (k : Int) + 1 + (n : Int) = (k : Int) + 1 := by omega
      have hneb : ((k : Int) + 1 + (n : Int) == (k : Int) + 1) = false := by rw [beq_eq_false_iff_ne]; exact hne
      have HR2 := Hid_mk (show R = .ok (setT (ofL [V.toUInt8])) (k + 1 + n) from by rw [← HRs.out, if_neg h0])
      have H0 := Hid_mk h0
      clear h0 HRs
      go_upto_region 7 with fail
      refine wp_name (fun W => Kp No W4 W) (by first | exact Kp.refl No W4 | exact (Kp.refl No W4).drewN _) ?_
      rintro W5 hk5
      have hR5 := HR4.out.no hk5
      have HR5 := Hid_mk hR5
      have HB5 := Hid_mk (HB4.out.kept hk5 id)
      have HK5 := Hid_mk (HK4.out.trans hk5 (T := No) fun _ _ e => e.elim)
      clear c0 c1 cw
      have c0 := hR5.c0
      have c1 := hR5.c1
      have cw := hR5.warm
      clear hR5 hk5
      go_upto_region 8 with fail
      have hks : Kp (fun b => b = q) W5 (W5.setCell ⟨q, 1, none⟩ (.int .i64 ((k + 1 + n : Nat) : Int))) := (Kp.refl (fun b => b = q) W5).setCell (p := ⟨q, 1, none⟩) (fun _ => rfl) _
      refine wp_name (fun W => RdAt w0 W q l (k + 1 + n) o ∧ Kp (fun b => b = q) W5 W) ⟨HR5.out.at' (k + 1 + n), hks⟩ ?_
      clear hks c0 c1 cw
      rintro W6 ⟨hR6, hk6⟩
      have HR6 := Hid_mk hR6
      have HK6 := Hid_mk (HK5.out.trans hk6 fun _ _ e => e)
      have HB6 := Hid_mk (HB5.out.kept hk6 (by show ¬ r = q; have := HQr.out; omega))
      clear hR6 hk6
      have hbs := bs_nat W6 V hv3
      have HBs := Hid_mk hbs
      clear hbs
      go_wp2_with fail
      with_reducible refine (of_any _ _ _ HBs.out).mono ?_
      rintro e W7 ⟨rfl, hk7⟩
      have HK7 := Hid_mk (((Kp.refl No W6).alloc _).trans' hk7)
      clear hk7 HBs
      go_wp2_with fail
      with_reducible refine (among_any _ _).mono ?_
      rintro e W8 ⟨rfl, hk8⟩
      have HK8 := Hid_mk (HK7.out.trans' hk8)
      have hB8 := HB6.out.kept HK8.out id
      obtain ⟨r0, r1, r2, r3, r4, r5, r6, r7, rw'⟩ := hB8
      clear hk8
      unfold cellsP
      go_wp2
      generalize hF : ofL [V.toUInt8] = F at *
      have hkz : Kp (fun b => b = r) W8 (putP W8 r (.int .i64 1) (.int .u64 (wd F 0 64 : Nat)) (.int .u64 (wd F 64 64 : Nat)) (.int .u64 (wd F 128 64 : Nat)) (.int .u64 (wd F 192 64 : Nat)) (.slice none 0 0) (.int .i64 1) (.int .i64 1)) := kp_putP (q := r) (Kp.refl (fun b => b = r) W8) (fun _ => rfl) _ _ _ _ _ _ _ _
      have hRz := (HR6.out.no HK8.out).kept hkz (by show ¬ q = r; have := HQr.out; omega) (fun i e _ => by have h1 := HR6.out.ge; have h2 := HQr.out; show w0.heap.size ≤ i; have e : i = r := e; omega)
      have hkf := (HK6.out.trans HK8.out (T := No) fun _ _ e => e.elim).trans hkz (T := fun b => b = r) fun i hi e => by have := HR.out; omega
      refine bodyPost_ret (v := .tuple #[.agg (cellsP 1 F none 0 0 1 1), .int .i64 0]) ?_ rfl ?_
      · simp [results, Try.results79, go_sem, cellsP, r0, r1, r2, r3, r4, r5, r6, r7]
      · rw [HR2.out]
        exact ⟨_, rfl, set_val _ _ F, hRz, hkf, by omega, hr3⟩
end Go.Proofs.Ytdognehkbahmdaa.ere
