/- Package ere: what a backslash takes with it. Package ere: parts joined. -/
import Derived.Test.YtjalnddgbnjmcaaEreListM
import Derived.Test.YtjalnddgbnjmcaaSetsM
import Derived.Deep.RegionWith
import Derived.Deep.RegionHeld3

namespace Go.Proofs.Ytjalnddgbnjmcaa.ere
open Go.RowKit Go.Proofs.Ytjalnddgbnjmcaa.sum Go.Proofs.Ytjalnddgbnjmcaa.kept Go.Proofs.Ytjalnddgbnjmcaa.pop Go.Proofs.Ytjalnddgbnjmcaa.cls Go.Proofs.Ytjalnddgbnjmcaa.tre Go.Proofs.Ytjalnddgbnjmcaa.str
set_option linter.unusedVariables false

theorem bs_nat (w : World) (b : Nat) (hb : b < 256) : Bs (w.alloc (.cells #[.int .u8 (b : Int)] 5)) (.slice (some ⟨w.heap.size, 0, none⟩) 1 1) [b.toUInt8] := by
  have h := bs_of1 w b.toUInt8
  rw [show (b.toUInt8).toNat = b from by simp; omega] at h
  exact h
/-- the part of one set -/
theorem set_abs (f : Nat → Bool) : absP (setT f) = ⟨setT f, 1, 1⟩ := by
  unfold setT
  rw [absP_fits (by unfold fitsB; simp [setsS, highS, highL])]
  simp [setsS, highS, highL]
theorem leaf_abs (k : Int) : absP (leafT k) = ⟨leafT k, 1, 1⟩ := by
  unfold leafT
  rw [absP_fits (by unfold fitsB; simp [setsS, highS, highL])]
  simp [setsS, highS, highL]
theorem set_val (T : Nat → Prop) (w : World) (f : Nat → Bool) : PtV T w (absP (setT f)) (.agg (cellsP 1 f none 0 0 1 1)) := by
  rw [set_abs]
  exact ⟨1, f, none, 0, 0, rfl, leaf_val T w 1 f 0 (by decide) none⟩
theorem leafk_val (T : Nat → Prop) (w : World) (k : Int) : PtV T w (absP (leafT k)) (.agg (cellsP k nul none 0 0 1 1)) := by
  rw [leaf_abs]
  exact ⟨k, nul, none, 0, 0, rfl, leaf_val T w k nul 0 (by decide) none⟩
/-- a backslash at a place -/
def escR (l : List UInt8) (k : Nat) : Rs :=
  if k + 1 = l.length then .bad 24 (k + 1)
  else if octN l (k + 1) = 0 then .ok (setT (ofL [(escS (atB l (k + 1))).toUInt8])) (k + 2)
  else .ok (setT (ofL [(octV l (k + 1) (octN l (k + 1))).toUInt8])) (k + 1 + octN l (k + 1))
theorem escS_lt (b : Nat) (h : b < 256) : escS b < 256 := by unfold escS; (repeat' split) <;> omega

set_option maxRecDepth 100000 in
set_option maxHeartbeats 4000000 in
theorem escape_any {w0 w : World} {q : Nat} {l : List UInt8} {k o : Nat} (h : RdAt w0 w q l k o) (hl : l.length < 4294967281) (hk : k < l.length) :
    Calls Try.prog 102 #[.pointer (some ⟨q, 0, none⟩)] w (RsPost (fun b => w.heap.size ≤ b) w0 w q l k o (escR l k)) := by
  obtain ⟨W0, hW0⟩ : ∃ W0, w.alloc (.cells #[.int .i64 0, .int .u64 0, .int .u64 0, .int .u64 0, .int .u64 0, .slice none 0 0, .int .i64 0, .int .i64 0] 103) = W0 := ⟨_, rfl⟩
  obtain ⟨r, hr⟩ : ∃ r, w.heap.size = r := ⟨_, rfl⟩
  have hK0 : Kp No w W0 := by rw [← hW0]; exact (Kp.refl No w).alloc _
  have hB : PAt W0 r (.int .i64 0) (.int .u64 0) (.int .u64 0) (.int .u64 0) (.int .u64 0) (.slice none 0 0) (.int .i64 0) (.int .i64 0) := by
    rw [← hW0, ← hr]
    exact PAt.new _ _ _ _ _ _ _ _ _ _
  have hR0 := h.no hK0
  have hqr : q < r := by have := h.lt; omega
  have hsz := st_size l
  have hki0 : (0 : Int) ≤ (k : Int) := Int.natCast_nonneg _
  have hwk : IntKind.i64.wrap ((k : Int) + 1) = ((k + 1 : Nat) : Int) := by rw [IntWalk.i64_in _ (by omega)]; push_cast; rfl
  have HKS := Hid_mk hk
  have HW0 := Hid_mk hW0
  have HR := Hid_mk hr
  have HQr := Hid_mk hqr
  obtain ⟨R, hRs⟩ : ∃ R, escR l k = R := ⟨_, rfl⟩
  rw [hRs]
  unfold escR at hRs
  have HRs := Hid_mk hRs
  have HB := Hid_mk hB
  have HR0 := Hid_mk hR0
  have HK0 := Hid_mk hK0
  have c1 := hR0.c1
  have cw := hR0.warm
  clear hW0 hr hK0 hB hR0 hk h hqr hRs
  go_enter Try.func102, Try.ntmps102
  go_upto_region 1 with fail
  rw [HR.out, HW0.out]
  clear HW0
  go_upto_region 2 with fail
  have hks : Kp (fun b => b = q) W0 (W0.setCell ⟨q, 1, none⟩ (.int .i64 ((k + 1 : Nat) : Int))) := (Kp.refl (fun b => b = q) W0).setCell (p := ⟨q, 1, none⟩) (fun _ => rfl) _
  refine wp_name (fun W => RdAt w0 W q l (k + 1) o ∧ Kp (fun b => b = q) W0 W) ⟨HR0.out.at' (k + 1), hks⟩ ?_
  clear hks c1 cw
  rintro W1 ⟨hR1, hk1⟩
  have HR1 := Hid_mk hR1
  have HK1 := Hid_mk ((HK0.out.to (S := fun b => b = q)).trans hk1 fun _ _ e => e)
  have HB1 := Hid_mk (HB.out.kept hk1 (by show ¬ r = q; have := HQr.out; omega))
  have c0 := hR1.c0
  have c1 := hR1.c1
  clear hR1 hk1 HB HR0 HK0
  have hk1i : ((k : Int) + 1) = ((k + 1 : Nat) : Int) := by push_cast; rfl
  by_cases he : k + 1 = l.length
  · rw [← he] at hsz
    have HR2 := Hid_mk (show R = .bad 24 (k + 1) from by rw [← HRs.out, if_pos he])
    have HE := Hid_mk he
    clear he HRs hk1i hl
    go_wp2
    go_quiet (fail)
    go_upto_region 3 with fail
    refine wp_name (fun W => Kp No W1 W) ((Kp.refl No W1).drewN _) ?_
    rintro W3 hk3
    have hB3 := HB1.out.kept hk3 id
    have HK3 := Hid_mk hk3
    obtain ⟨r0, r1, r2, r3, r4, r5, r6, r7, rw'⟩ := hB3
    clear hk3 c0 c1
    go_wp2
    have hkz : Kp (fun b => b = r) W3 (putP W3 r (.int .i64 0) (.int .u64 0) (.int .u64 0) (.int .u64 0) (.int .u64 0) (.slice none 0 0) (.int .i64 0) (.int .i64 0)) := kp_putP (q := r) (Kp.refl (fun b => b = r) W3) (fun _ => rfl) _ _ _ _ _ _ _ _
    have hRz := (HR1.out.no HK3.out).kept hkz (by show ¬ q = r; have := HQr.out; omega) (fun i e _ => by have h1 := HR1.out.ge; have h2 := HQr.out; show w0.heap.size ≤ i; have e : i = r := e; omega)
    have hkf := (HK1.out.trans HK3.out (T := No) fun _ _ e => e.elim).trans hkz (T := fun b => b = r) fun i hi e => by have := HR.out; omega
    refine bodyPost_ret (v := .tuple #[.agg #[.int .i64 0, .int .u64 0, .int .u64 0, .int .u64 0, .int .u64 0, .slice none 0 0, .int .i64 0, .int .i64 0], .int .i64 24]) ?_ rfl ?_
    · simp [results, Try.results102, go_sem, r0, r1, r2, r3, r4, r5, r6, r7]
    · rw [HR2.out]
      exact ⟨o, rfl, hRz, hkf, HKS.out, by decide⟩
  · have hei : ¬ (k : Int) + 1 = (l.length : Int) := by omega
    have heb : ((k : Int) + 1 == (l.length : Int)) = false := by rw [beq_eq_false_iff_ne]; exact hei
    rw [if_neg he] at HRs
    have HE := Hid_mk he
    have hki : (k : Int) + 1 < (l.length : Int) := by have := HKS.out; omega
    have hoc := fun W => octal_any W l (k + 1) HKS.out hl
    have hr3 := octN_room l (k + 1) HKS.out
    have hv3 := octV_lt l (k + 1) (octN l (k + 1))
    rw [← hk1i] at hoc
    clear he hk1i
    go_wp2
    go_quiet (fail)
    go_upto_region 4 with fail
    refine wp_name (fun W => Kp No W1 W) ((Kp.refl No W1).drewN _) ?_
    rintro W3 hk3
    have hR3 := HR1.out.no hk3
    have HR3 := Hid_mk hR3
    have HB3 := Hid_mk (HB1.out.kept hk3 id)
    have HK3 := Hid_mk (HK1.out.trans hk3 (T := No) fun _ _ e => e.elim)
    clear c0 c1 hk3 HR1 HB1 HK1
    have c0 := hR3.c0
    have c1 := hR3.c1
    have HOc := Hid_mk fun n => Calls.quiet_of_same (hoc (W3.drewN n))
    obtain ⟨n, hn⟩ : ∃ n, octN l (k + 1) = n := ⟨_, rfl⟩
    obtain ⟨V, hV⟩ : ∃ V, octV l (k + 1) n = V := ⟨_, rfl⟩
    rw [hn, hV] at HOc
    rw [hn, hV] at HRs hv3
    rw [hn] at hr3
    clear hR3 hn hV hoc
    go_wp2
    go_quiet ((go_at_call 115; exact HOc.out _))
    go_upto_region 5 with fail
    refine wp_name (fun W => Kp No W3 W) ((Kp.refl No W3).drewN _) ?_
    rintro W4 hk4
    have hR4 := HR3.out.no hk4
    have HR4 := Hid_mk hR4
    have HB4 := Hid_mk (HB3.out.kept hk4 id)
    have HK4 := Hid_mk (HK3.out.trans hk4 (T := No) fun _ _ e => e.elim)
    clear c0 c1 hk4 HR3 HB3 HK3 HOc
    have c0 := hR4.c0
    have c1 := hR4.c1
    have cw := hR4.warm
    clear hR4
    by_cases h0 : n = 0
    · subst h0
      obtain ⟨x, hx⟩ : ∃ x, atB l (k + 1) = x := ⟨_, rfl⟩
      have hx256 : x < 256 := by rw [← hx]; exact (l.getD (k + 1) 0).toNat_lt
      have hg : ∀ h : k + 1 < (st l).size, ((st l)[k + 1]).toNat = x := fun h => (st_get l (k + 1) h).trans hx
      have HR2 := Hid_mk (show R = .ok (setT (ofL [(escS x).toUInt8])) (k + 2) from by rw [← HRs.out, if_pos rfl, hx])
      have HEs := Hid_mk fun n => Calls.quiet_of_same (escaped_any (W4.drewN n) x hx256)
      have hes := escS_lt x hx256
      have hwk2 : IntKind.i64.wrap ((k : Int) + 1 + 1) = ((k + 2 : Nat) : Int) := by rw [IntWalk.i64_in _ (by omega)]; push_cast; rfl
      have hkn : (0 : Int) ≤ (k : Int) + 1 := by omega
      have hkn2 : ((k : Int) + 1).toNat = k + 1 := by omega
      generalize escS x = V' at HR2 HEs hes
      clear hx hx256 HRs
      go_wp2
      go_quiet ((go_at_call 116; exact HEs.out _))
      go_upto_region 7 with fail
      refine wp_name (fun W => Kp No W4 W) (by first | exact Kp.refl No W4 | exact (Kp.refl No W4).drewN _) ?_
      rintro W5 hk5
      have hR5 := HR4.out.no hk5
      have HR5 := Hid_mk hR5
      have HB5 := Hid_mk (HB4.out.kept hk5 id)
      have HK5 := Hid_mk (HK4.out.trans hk5 (T := No) fun _ _ e => e.elim)
      clear c0 c1 cw
      have c0 := hR5.c0
      have c1 := hR5.c1
      have cw := hR5.warm
      clear hR5 hk5
      go_upto_region 8 with fail
      have hks : Kp (fun b => b = q) W5 (W5.setCell ⟨q, 1, none⟩ (.int .i64 ((k + 2 : Nat) : Int))) := (Kp.refl (fun b => b = q) W5).setCell (p := ⟨q, 1, none⟩) (fun _ => rfl) _
      refine wp_name (fun W => RdAt w0 W q l (k + 2) o ∧ Kp (fun b => b = q) W5 W) ⟨HR5.out.at' (k + 2), hks⟩ ?_
      clear hks c0 c1 cw
      rintro W6 ⟨hR6, hk6⟩
      have HR6 := Hid_mk hR6
      have HK6 := Hid_mk (HK5.out.trans hk6 fun _ _ e => e)
      have HB6 := Hid_mk (HB5.out.kept hk6 (by show ¬ r = q; have := HQr.out; omega))
      clear hR6 hk6
      have hbs := bs_nat W6 V' hes
      have HBs := Hid_mk hbs
      clear hbs
      go_wp2_with fail
      with_reducible refine (of_any _ _ _ HBs.out).mono ?_
      rintro e W7 ⟨rfl, hk7⟩
      have HK7 := Hid_mk (((Kp.refl No W6).alloc _).trans' hk7)
      clear hk7 HBs
      go_wp2_with fail
      with_reducible refine (among_any _ _).mono ?_
      rintro e W8 ⟨rfl, hk8⟩
      have HK8 := Hid_mk (HK7.out.trans' hk8)
      have hB8 := HB6.out.kept HK8.out id
      obtain ⟨r0, r1, r2, r3, r4, r5, r6, r7, rw'⟩ := hB8
      clear hk8
      unfold cellsP
      go_wp2
      generalize hF : ofL [V'.toUInt8] = F at *
      have hkz : Kp (fun b => b = r) W8 (putP W8 r (.int .i64 1) (.int .u64 (wd F 0 64 : Nat)) (.int .u64 (wd F 64 64 : Nat)) (.int .u64 (wd F 128 64 : Nat)) (.int .u64 (wd F 192 64 : Nat)) (.slice none 0 0) (.int .i64 1) (.int .i64 1)) := kp_putP (q := r) (Kp.refl (fun b => b = r) W8) (fun _ => rfl) _ _ _ _ _ _ _ _
      have hRz := (HR6.out.no HK8.out).kept hkz (by show ¬ q = r; have := HQr.out; omega) (fun i e _ => by have h1 := HR6.out.ge; have h2 := HQr.out; show w0.heap.size ≤ i; have e : i = r := e; omega)
      have hkf := (HK6.out.trans HK8.out (T := No) fun _ _ e => e.elim).trans hkz (T := fun b => b = r) fun i hi e => by have := HR.out; omega
      refine bodyPost_ret (v := .tuple #[.agg (cellsP 1 F none 0 0 1 1), .int .i64 0]) ?_ rfl ?_
      · simp [results, Try.results102, go_sem, cellsP, r0, r1, r2, r3, r4, r5, r6, r7]
      · rw [HR2.out]
        exact ⟨_, rfl, set_val _ _ F, hRz, hkf, by omega, by have := HKS.out; have := HE.out; omega⟩
    · have hne : ¬ (k : Int) + 1 + (n : Int) = (k : Int) + 1 := by omega
      have hneb : ((k : Int) + 1 + (n : Int) == (k : Int) + 1) = false := by rw [beq_eq_false_iff_ne]; exact hne
      have HR2 := Hid_mk (show R = .ok (setT (ofL [V.toUInt8])) (k + 1 + n) from by rw [← HRs.out, if_neg h0])
      have H0 := Hid_mk h0
      clear h0 HRs
      go_upto_region 7 with fail
      refine wp_name (fun W => Kp No W4 W) (by first | exact Kp.refl No W4 | exact (Kp.refl No W4).drewN _) ?_
      rintro W5 hk5
      have hR5 := HR4.out.no hk5
      have HR5 := Hid_mk hR5
      have HB5 := Hid_mk (HB4.out.kept hk5 id)
      have HK5 := Hid_mk (HK4.out.trans hk5 (T := No) fun _ _ e => e.elim)
      clear c0 c1 cw
      have c0 := hR5.c0
      have c1 := hR5.c1
      have cw := hR5.warm
      clear hR5 hk5
      go_upto_region 8 with fail
      have hks : Kp (fun b => b = q) W5 (W5.setCell ⟨q, 1, none⟩ (.int .i64 ((k + 1 + n : Nat) : Int))) := (Kp.refl (fun b => b = q) W5).setCell (p := ⟨q, 1, none⟩) (fun _ => rfl) _
      refine wp_name (fun W => RdAt w0 W q l (k + 1 + n) o ∧ Kp (fun b => b = q) W5 W) ⟨HR5.out.at' (k + 1 + n), hks⟩ ?_
      clear hks c0 c1 cw
      rintro W6 ⟨hR6, hk6⟩
      have HR6 := Hid_mk hR6
      have HK6 := Hid_mk (HK5.out.trans hk6 fun _ _ e => e)
      have HB6 := Hid_mk (HB5.out.kept hk6 (by show ¬ r = q; have := HQr.out; omega))
      clear hR6 hk6
      have hbs := bs_nat W6 V hv3
      have HBs := Hid_mk hbs
      clear hbs
      go_wp2_with fail
      with_reducible refine (of_any _ _ _ HBs.out).mono ?_
      rintro e W7 ⟨rfl, hk7⟩
      have HK7 := Hid_mk (((Kp.refl No W6).alloc _).trans' hk7)
      clear hk7 HBs
      go_wp2_with fail
      with_reducible refine (among_any _ _).mono ?_
      rintro e W8 ⟨rfl, hk8⟩
      have HK8 := Hid_mk (HK7.out.trans' hk8)
      have hB8 := HB6.out.kept HK8.out id
      obtain ⟨r0, r1, r2, r3, r4, r5, r6, r7, rw'⟩ := hB8
      clear hk8
      unfold cellsP
      go_wp2
      generalize hF : ofL [V.toUInt8] = F at *
      have hkz : Kp (fun b => b = r) W8 (putP W8 r (.int .i64 1) (.int .u64 (wd F 0 64 : Nat)) (.int .u64 (wd F 64 64 : Nat)) (.int .u64 (wd F 128 64 : Nat)) (.int .u64 (wd F 192 64 : Nat)) (.slice none 0 0) (.int .i64 1) (.int .i64 1)) := kp_putP (q := r) (Kp.refl (fun b => b = r) W8) (fun _ => rfl) _ _ _ _ _ _ _ _
      have hRz := (HR6.out.no HK8.out).kept hkz (by show ¬ q = r; have := HQr.out; omega) (fun i e _ => by have h1 := HR6.out.ge; have h2 := HQr.out; show w0.heap.size ≤ i; have e : i = r := e; omega)
      have hkf := (HK6.out.trans HK8.out (T := No) fun _ _ e => e.elim).trans hkz (T := fun b => b = r) fun i hi e => by have := HR.out; omega
      refine bodyPost_ret (v := .tuple #[.agg (cellsP 1 F none 0 0 1 1), .int .i64 0]) ?_ rfl ?_
      · simp [results, Try.results102, go_sem, cellsP, r0, r1, r2, r3, r4, r5, r6, r7]
      · rw [HR2.out]
        exact ⟨_, rfl, set_val _ _ F, hRz, hkf, by omega, hr3⟩
end Go.Proofs.Ytjalnddgbnjmcaa.ere

namespace Go.Proofs.Ytjalnddgbnjmcaa.ere
open Go.RowKit Go.Proofs.Ytjalnddgbnjmcaa.sum Go.Proofs.Ytjalnddgbnjmcaa.kept Go.Proofs.Ytjalnddgbnjmcaa.pop Go.Proofs.Ytjalnddgbnjmcaa.cls Go.Proofs.Ytjalnddgbnjmcaa.tre
set_option linter.unusedVariables false

theorem PtV.val {T : Nat → Prop} {w : World} {p : Pt} {v : Value} (h : PtV T w p v) : ∃ e : El, v = e.val ∧ e.p = p ∧ e.ok T w := by
  obtain ⟨k, f, a, n, c, rfl, h⟩ := h
  exact ⟨⟨k, f, a, n, c, p⟩, rfl, rfl, h⟩
theorem El.is {T : Nat → Prop} {w : World} {e : El} (h : e.ok T w) : PtV T w e.p e.val := ⟨e.k, e.f, e.a, e.n, e.c, rfl, h⟩
/-- an element's cells in the row -/
theorem PRow.at' {w : World} {base g n c : Nat} {es : List El} (h : PRow w base (.slice (some ⟨g, 0, none⟩) n c) es) (i : Nat) (hi : i < es.length) :
    w.cell? ⟨g, i * 8, none⟩ = some (.int .i64 es[i].k) ∧ w.cell? ⟨g, i * 8 + 1, none⟩ = some (.int .u64 (wd es[i].f 0 64 : Nat)) ∧ w.cell? ⟨g, i * 8 + 2, none⟩ = some (.int .u64 (wd es[i].f 64 64 : Nat)) ∧ w.cell? ⟨g, i * 8 + 3, none⟩ = some (.int .u64 (wd es[i].f 128 64 : Nat)) ∧ w.cell? ⟨g, i * 8 + 4, none⟩ = some (.int .u64 (wd es[i].f 192 64 : Nat)) ∧
      w.cell? ⟨g, i * 8 + 5, none⟩ = some (.slice es[i].a es[i].n es[i].c) ∧ w.cell? ⟨g, i * 8 + 6, none⟩ = some (.int .i64 (es[i].p.n : Int)) ∧ w.cell? ⟨g, i * 8 + 7, none⟩ = some (.int .i64 (es[i].p.h : Int)) := by
  have hc := fun j u (hj : j < 8) (e : es[i].cells[j]? = some u) => by
    have := World.ownsRow.cells (g := g) h rfl (i * 8 + j) u ((cells_get es i j hi hj).trans e)
    rw [addr_add, Nat.zero_add] at this
    exact this
  exact ⟨hc 0 _ (by decide) rfl, hc 1 _ (by decide) rfl, hc 2 _ (by decide) rfl, hc 3 _ (by decide) rfl, hc 4 _ (by decide) rfl, hc 5 _ (by decide) rfl, hc 6 _ (by decide) rfl, hc 7 _ (by decide) rfl⟩
theorem join_drop (k : Int) (ts : List Tr) (j : Nat) (hj : j + 1 < ts.length) : joinT k (ts.drop j) = kid2 k (ts[j]'(by omega)) (joinT k (ts.drop (j + 1))) := by
  rw [List.drop_eq_getElem_cons (by omega : j < ts.length), List.drop_eq_getElem_cons hj, joinT]

def JnRel (W0 : World) (T : Nat → Prop) (r : Nat) (kd : Int) (ts : List Tr) (i : Value) (wr : World) : Prop :=
  ∃ (j : Nat) (x : El), j < ts.length ∧ i = .int .i64 ((j : Int) - 1) ∧ x.p = absP (joinT kd (ts.drop j)) ∧ x.ok T wr ∧
    PAt wr r (.int .i64 x.k) (.int .u64 (wd x.f 0 64 : Nat)) (.int .u64 (wd x.f 64 64 : Nat)) (.int .u64 (wd x.f 128 64 : Nat)) (.int .u64 (wd x.f 192 64 : Nat)) (.slice x.a x.n x.c) (.int .i64 (x.p.n : Int)) (.int .i64 (x.p.h : Int)) ∧ Kp (fun b => b = r) W0 wr

set_option maxRecDepth 100000 in
set_option maxHeartbeats 4000000 in
theorem joined_any (T : Nat → Prop) (w : World) (q base : Nat) (v : Value) (es : List El) (ts : List Tr) (kd : Int) (hkd : kd = 2 ∨ kd = 3) (h : LsAt T w q base v es ts) (hne : ts ≠ []) (hlen : ts.length ≤ 1000000000) :
    Calls Try.prog 70 #[.pointer (some ⟨q, 0, none⟩), .int .i64 kd] w fun e w' => ∃ v, e = .returned v ∧ PtV (fun b => T b ∨ w.heap.size ≤ b) w' (absP (joinT kd ts)) v ∧ Kp No w w' := by
  have hle := sumP_le ts
  obtain ⟨W0, hW0⟩ : ∃ W0, w.alloc (.cells #[.int .i64 0, .int .u64 0, .int .u64 0, .int .u64 0, .int .u64 0, .slice none 0 0, .int .i64 0, .int .i64 0] 103) = W0 := ⟨_, rfl⟩
  obtain ⟨r4, hr⟩ : ∃ r, w.heap.size = r := ⟨_, rfl⟩
  have HK0 : Hid (Kp No w W0) := Hid_mk (by rw [← hW0]; exact (Kp.refl No w).alloc _)
  have hz : W0.heap.size = r4 + 1 := by rw [← hW0, ← hr]; simp
  have hR : PAt W0 r4 (.int .i64 0) (.int .u64 0) (.int .u64 0) (.int .u64 0) (.int .u64 0) (.slice none 0 0) (.int .i64 0) (.int .i64 0) := by
    rw [← hW0, ← hr]
    exact PAt.new w _ _ _ _ _ _ _ _ _
  have h0 := h.no HK0.out
  have HW0 := Hid_mk hW0
  have HR4 := Hid_mk hr
  have HR := Hid_mk hR
  have H := Hid_mk h
  have H0 := Hid_mk h0
  have HZ := Hid_mk hz
  have HOv := Hid_mk fun W => over_any W
  have d1 := h0.c1
  have d0 := h0.c0
  have hqn : r4 < w.heap.size → No r4 := fun h => by omega
  have HQn := Hid_mk hqn
  obtain ⟨S, hS⟩ : ∃ S, sumP ts = S := ⟨_, rfl⟩
  have HS := Hid_mk hS
  rw [hS] at d1 hle
  have hbig : 400 < S ∨ S ≤ 400 := by omega
  rcases hbig with hbig | hbig
  · have hbi : (S : Int) > 400 := by omega
    have hov : absP (joinT kd ts) = overP := join_over kd hkd ts (by omega)
    rw [hov]
    obtain ⟨r0, r1, r2, r3, r4', r5, r6, r7, rw'⟩ := hR
    clear hov hbig hle h0 h hW0 hr hz hqn hS hlen hne
    go_enter Try.func70, Try.ntmps70
    go_upto_region 1 with fail
    rw [HW0.out, HR4.out]
    clear HW0
    go_wp2_with fail
    with_reducible refine (HOv.out _).mono ?_
    rintro e W3 ⟨rfl, hk3⟩
    have hR3 := HR.out.kept hk3 id
    have HK3 := Hid_mk (HK0.out.trans' hk3)
    clear hk3 r0 r1 r2 r3 r4' r5 r6 r7 rw'
    obtain ⟨r0, r1, r2, r3, r4', r5, r6, r7, rw'⟩ := hR3
    unfold cellsP
    go_wp2
    have hkf := kp_putP HK3.out HQn.out (.int .i64 0) (.int .u64 (wd nul 0 64 : Nat)) (.int .u64 (wd nul 64 64 : Nat)) (.int .u64 (wd nul 128 64 : Nat)) (.int .u64 (wd nul 192 64 : Nat)) (.slice none 0 0) (.int .i64 401) (.int .i64 41)
    refine bodyPost_ret (v := .agg (cellsP 0 nul none 0 0 401 41)) ?_ rfl ⟨_, rfl, over_val _ _, hkf⟩
    simp [results, Try.results70, go_sem, cellsP, wd_nul, r0, r1, r2, r3, r4', r5, r6, r7]
  · have hbi : ¬ (S : Int) > 400 := by omega
    have hsm := h0.same (by omega)
    have hel : es.length = ts.length := by have := congrArg List.length hsm; simpa using this
    obtain ⟨n, hn⟩ : ∃ n, ts.length = n := ⟨_, rfl⟩
    have hn0 : 0 < n := by
      have := List.length_pos_iff.2 hne
      omega
    obtain ⟨g, cap, rfl, hgb, hgl⟩ := owns_some h0.row (by omega)
    rw [hel, hn] at d0
    have HN := Hid_mk hn
    have HEl := Hid_mk hel
    have HSm := Hid_mk hsm
    have HNe := Hid_mk hne
    have hw1 : IntKind.i64.wrap ((n : Int) - 1) = (n : Int) - 1 := IntWalk.i64_in _ (by omega)
    have hw2 : IntKind.i64.wrap ((n : Int) - 1 - 1) = (n : Int) - 1 - 1 := IntWalk.i64_in _ (by omega)
    have hge : ∀ (i : Nat) (hi : i < es.length) (hi2 : i < ts.length), (es[i]).p = absP ts[i] := fun i hi hi2 => by
      have := congrArg (fun l => l[i]?) hsm
      simp only [List.getElem?_map, List.getElem?_eq_getElem hi, List.getElem?_eq_getElem hi2, Option.map_some] at this
      exact Option.some.inj this
    have HGe := Hid_mk hge
    have hrow0 : PRow W0 base (.slice (some ⟨g, 0, none⟩) es.length cap) es := h0.row
    have HRow := Hid_mk hrow0
    have hlast := hrow0.at' (n - 1) (by omega)
    have hx := h0.ok (es[n - 1]'(by omega)) (List.getElem_mem _)
    have hxp := hge (n - 1) (by omega) (by omega)
    obtain ⟨x, hxe⟩ : ∃ x, es[n - 1]'(by omega) = x := ⟨_, rfl⟩
    rw [hxe] at hlast hx hxp
    obtain ⟨l0, l1, l2, l3, l4, l5, l6, l7⟩ := hlast
    have hxj : x.p = absP (joinT kd (ts.drop (n - 1))) := by
      rw [hxp, List.drop_eq_getElem_cons (by omega : n - 1 < ts.length), List.drop_eq_nil_of_le (by omega)]
      rfl
    have HX := Hid_mk hx
    have HXj := Hid_mk hxj
    have hnn : ((n : Int) - 1).toNat = n - 1 := by omega
    have hni : (0 : Int) ≤ (n : Int) - 1 := by omega
    have hni2 : (n : Int) - 1 < (n : Int) := by omega
    obtain ⟨xk, xf, xa, xn, xc, xp⟩ := x
    simp only at l0 l1 l2 l3 l4 l5 l6 l7 hxj hxp
    clear hbig hle h0 h hW0 hr hz hqn hS hne hx hxp hxj hxe hge hrow0 hsm hn hR
    go_enter Try.func70, Try.ntmps70
    go_upto_region 1 with fail
    rw [HW0.out, HR4.out]
    clear HW0
    go_upto_region 5 with fail
    rw [HZ.out]
    have hka : Kp No W0 (W0.alloc (.cells #[.int .i64 xk, .int .u64 (wd xf 0 64 : Nat), .int .u64 (wd xf 64 64 : Nat), .int .u64 (wd xf 128 64 : Nat), .int .u64 (wd xf 192 64 : Nat), .slice xa xn xc, .int .i64 (xp.n : Int), .int .i64 (xp.h : Int)] 103)) := (Kp.refl No W0).alloc _
    have hpa : PAt (W0.alloc (.cells #[.int .i64 xk, .int .u64 (wd xf 0 64 : Nat), .int .u64 (wd xf 64 64 : Nat), .int .u64 (wd xf 128 64 : Nat), .int .u64 (wd xf 192 64 : Nat), .slice xa xn xc, .int .i64 (xp.n : Int), .int .i64 (xp.h : Int)] 103)) (r4 + 1) (.int .i64 xk) (.int .u64 (wd xf 0 64 : Nat)) (.int .u64 (wd xf 64 64 : Nat)) (.int .u64 (wd xf 128 64 : Nat)) (.int .u64 (wd xf 192 64 : Nat)) (.slice xa xn xc) (.int .i64 (xp.n : Int)) (.int .i64 (xp.h : Int)) := by
      rw [← HZ.out]
      exact PAt.new _ _ _ _ _ _ _ _ _ _
    refine wp_name (fun W => Kp No W0 W ∧ PAt W (r4 + 1) (.int .i64 xk) (.int .u64 (wd xf 0 64 : Nat)) (.int .u64 (wd xf 64 64 : Nat)) (.int .u64 (wd xf 128 64 : Nat)) (.int .u64 (wd xf 192 64 : Nat)) (.slice xa xn xc) (.int .i64 (xp.n : Int)) (.int .i64 (xp.h : Int))) ⟨hka, hpa⟩ ?_
    clear hka hpa l0 l1 l2 l3 l4 l5 l6 l7
    rintro W1 ⟨hk1, hp1⟩
    have d01 := hk1.cell' d0 id
    have hxok : El.ok (fun b => T b ∨ (w.heap.size ≤ b ∧ b ≠ r4 + 1 ∧ b ≠ r4)) W1 ⟨xk, xf, xa, xn, xc, xp⟩ := ReV.wider (fun b hb _ => .inl hb) _ _ (ReV.no hk1 _ _ HX.out)
    have hTr : ∀ b, (T b ∨ (w.heap.size ≤ b ∧ b ≠ r4 + 1 ∧ b ≠ r4)) → b ≠ r4 + 1 ∧ b ≠ r4 := fun b hb => by
      rcases hb with hb | hb
      · have h1 := (H.out.inn b hb).2
        have h2 := HR4.out
        omega
      · exact hb.2
    have hTn : ∀ b, r4 + 2 ≤ b → (T b ∨ (w.heap.size ≤ b ∧ b ≠ r4 + 1 ∧ b ≠ r4)) := fun b hb => .inr ⟨by have := HR4.out; omega, by omega, by omega⟩
    have hTw : ∀ b, (T b ∨ (w.heap.size ≤ b ∧ b ≠ r4 + 1 ∧ b ≠ r4)) → T b ∨ w.heap.size ≤ b := fun b hb => hb.imp id fun h => h.1
    obtain ⟨T', hT'⟩ : ∃ T', (fun b => T b ∨ (w.heap.size ≤ b ∧ b ≠ r4 + 1 ∧ b ≠ r4)) = T' := ⟨_, rfl⟩
    have hTr2 : ∀ b, T' b → b ≠ r4 + 1 ∧ b ≠ r4 := by rw [← hT']; exact hTr
    have hTn2 : ∀ b, r4 + 2 ≤ b → T' b := by rw [← hT']; exact hTn
    have hTw2 : ∀ b, T' b → T b ∨ w.heap.size ≤ b := by rw [← hT']; exact hTw
    have hTT : ∀ b, T b → T' b := by rw [← hT']; exact fun b hb => .inl hb
    rw [hT'] at hxok
    have HTr := Hid_mk hTr2
    have HTn := Hid_mk hTn2
    have HTw := Hid_mk hTw2
    have HTT := Hid_mk hTT
    have HXo := Hid_mk hxok
    have HP1 := Hid_mk hp1
    have HK1 := Hid_mk hk1
    have HQ4 := Hid_mk (show q < r4 by have := H.out.lt.1; have := HR4.out; omega)
    clear hTr hTn hTw hT' hxok hTr2 hTn2 hTw2 hTT hp1 hk1 hnn hni hni2
    go_wp2
    go_loopw [7] (fun i wr => JnRel W1 T' (r4 + 1) kd ts i wr) (fun i _ => (intOf i + 1).toNat)
    case atStart => exact ⟨n - 1, ⟨xk, xf, xa, xn, xc, xp⟩, by rw [HN.out]; omega, by congr 1; omega, HXj.out, HXo.out, HP1.out, Kp.refl _ _⟩
    case round =>
      obtain ⟨j, y, hj, rfl, hyp, hyo, hya, hkr⟩ := hrel
      obtain ⟨yk, yf, ya, yn, yc, yp⟩ := y
      simp only at hyp hya
      have HYp := Hid_mk hyp
      have HYo := Hid_mk hyo
      have HYa := Hid_mk hya
      have HKr := Hid_mk hkr
      rw [HN.out] at hj
      by_cases hj0 : j = 0
      · have hneg : ¬ (j : Int) - 1 ≥ 0 := by omega
        have hR5 := (HR.out.kept HK1.out id).kept hkr (by show ¬ r4 = r4 + 1; omega)
        have HR5 := Hid_mk hR5
        obtain ⟨p0, p1, p2, p3, p4, p5, p6, p7, pw⟩ := hya
        obtain ⟨r0, r1, r2, r3, r4', r5, r6, r7, rw'⟩ := hR5
        subst hj0
        clear hyp hyo hkr
        go_wp2
        have hk5 : Kp (fun b => b = r4) wr (putP wr r4 (.int .i64 yk) (.int .u64 (wd yf 0 64 : Nat)) (.int .u64 (wd yf 64 64 : Nat)) (.int .u64 (wd yf 128 64 : Nat)) (.int .u64 (wd yf 192 64 : Nat)) (.slice ya yn yc) (.int .i64 (yp.n : Int)) (.int .i64 (yp.h : Int))) := kp_putP (q := r4) (Kp.refl (fun b => b = r4) wr) (fun _ => rfl) _ _ _ _ _ _ _ _
        have hkA : Kp No w wr := (HK0.out.trans' HK1.out).trans HKr.out (T := fun b => b = r4 + 1) fun i hi e => by have := HR4.out; omega
        have hkf := hkA.trans hk5 (T := fun b => b = r4) fun i hi e => by have := HR4.out; omega
        refine bodyPost_ret (v := .agg (cellsP yk yf ya yn yc yp.n yp.h)) ?_ rfl ⟨_, rfl, ?_, hkf⟩
        · simp [results, Try.results70, go_sem, cellsP, r0, r1, r2, r3, r4', r5, r6, r7]
        · have hpj := HYp.out
          rw [List.drop_zero] at hpj
          rw [← hpj]
          exact ⟨yk, yf, ya, yn, yc, rfl, ReV.wider (fun b hb _ => HTw.out b hb) _ _ (ReV.kept hk5 (fun b hb _ => (HTr.out b hb).2) _ _ HYo.out)⟩
      · have hpos : (j : Int) - 1 ≥ 0 := by omega
        have hji : (j : Int) - 1 < (n : Int) := by omega
        have hjt : ((j : Int) - 1).toNat = j - 1 := by omega
        have hwj : IntKind.i64.wrap ((j : Int) - 1 - 1) = (j : Int) - 1 - 1 := IntWalk.i64_in _ (by have := HN.out; omega)
        have hqr : ∀ g, base ≤ g → g < w.heap.size → ¬ g = r4 + 1 := fun g _ h => by have := HR4.out; omega
        have hrw : PRow wr base (.slice (some ⟨g, 0, none⟩) es.length cap) es := owns_kept (owns_kept HRow.out HK1.out fun _ _ => id) hkr fun b e => by
          have h1 := H.out.row.lt b e
          exact hqr b h1.1 h1.2
        obtain ⟨m0, m1, m2, m3, m4, m5, m6, m7⟩ := hrw.at' (j - 1) (by rw [HEl.out, HN.out]; omega)
        have hdq := hkr.cell' d01 (by show ¬ q = r4 + 1; have := HQ4.out; omega)
        have hep := HGe.out (j - 1) (by rw [HEl.out, HN.out]; omega) (by rw [HN.out]; omega)
        have heo : El.ok T' wr.drew (es[j - 1]'(by rw [HEl.out, HN.out]; omega)) := ReV.wider (fun b hb _ => HTT.out b hb) _ _ (ReV.kept (hkr.drew) (fun b hb hl => (HTr.out b (HTT.out b hb)).1) _ _ (ReV.no HK1.out _ _ (H0.out.ok _ (List.getElem_mem _))))
        obtain ⟨z, hz⟩ : ∃ z, es[j - 1]'(by rw [HEl.out, HN.out]; omega) = z := ⟨_, rfl⟩
        rw [hz] at m0 m1 m2 m3 m4 m5 m6 m7 hep heo
        have hyd : El.ok T' wr.drew ⟨yk, yf, ya, yn, yc, yp⟩ := ReV.no (Kp.refl No wr).drew _ _ hyo
        have hstep : absP (joinT kd (ts.drop (j - 1))) = twoPt kd z.p yp := by
          rw [join_drop kd ts (j - 1) (by rw [HN.out]; omega), abs2 kd hkd, hep, hyp]
          congr 4
          omega
        have hb1 : z.p.n ≤ 401 ∧ z.p.h ≤ 41 := by rw [hep]; exact ⟨absP_n _, absP_h _⟩
        have hb2 : yp.n ≤ 401 ∧ yp.h ≤ 41 := by rw [hyp]; exact ⟨absP_n _, absP_h _⟩
        have hsz : r4 + 2 ≤ wr.heap.size := hya.lt
        have htwo := two_any T' wr.drew kd z.p yp _ _ (El.is heo) (El.is hyd) (fun b hb => HTn.out b (Nat.le_trans hsz hb)) hb1 hb2
        have htwo2 : Calls Try.prog 89 #[.int .i64 kd, z.val, El.val ⟨yk, yf, ya, yn, yc, yp⟩] wr.drew fun e w' => ∃ uk uf ua un uc up, e = .returned (.agg (cellsP uk uf ua un uc (Pt.n up) (Pt.h up))) ∧ up = absP (joinT kd (ts.drop (j - 1))) ∧ ReV T' w' up.t (.agg (cellsR uk uf ua un uc)) ∧ Kp No wr w' := by
          refine htwo.mono ?_
          rintro e w' ⟨v, rfl, ⟨k, f, a, n, c, rfl, hv⟩, hk⟩
          exact ⟨k, f, a, n, c, _, rfl, hstep.symm, hv, (Kp.refl No wr).drew.trans' hk⟩
        obtain ⟨zk, zf, za, zn, zc, zp⟩ := z
        unfold El.val cellsP at htwo2
        simp only at m0 m1 m2 m3 m4 m5 m6 m7 htwo2
        have HTwo := Hid_mk htwo2
        obtain ⟨p0, p1, p2, p3, p4, p5, p6, p7, pw⟩ := id hya
        have qkeep : ∀ w1, Kp No wr w1 → PAt w1 (r4 + 1) (.int .i64 yk) (.int .u64 (wd yf 0 64 : Nat)) (.int .u64 (wd yf 64 64 : Nat)) (.int .u64 (wd yf 128 64 : Nat)) (.int .u64 (wd yf 192 64 : Nat)) (.slice ya yn yc) (.int .i64 (yp.n : Int)) (.int .i64 (yp.h : Int)) := fun w1 h => HYa.out.kept h id
        have HQk := Hid_mk qkeep
        clear hyp hyo hkr hqr hrw hep heo hz hyd hstep hb1 hb2 hsz htwo htwo2 hya qkeep
        go_wp2
        go_region_with (first
          | (go_at_call 89; with_reducible refine HTwo.out.mono ?_; rintro e w1 ⟨uk, uf, ua, un, uc, up, rfl, hup, huo, hku⟩; have HUp := Hid_mk hup; have HUo := Hid_mk huo; have HKu := Hid_mk hku; obtain ⟨p0, p1, p2, p3, p4, p5, p6, p7, pw⟩ := HQk.out w1 hku; clear hup huo hku))
        all_goals
          go_wp2
          go_roundw
          case rel =>
            have hks : Kp (fun b => b = r4 + 1) w1 (putP w1 (r4 + 1) (.int .i64 uk) (.int .u64 (wd uf 0 64 : Nat)) (.int .u64 (wd uf 64 64 : Nat)) (.int .u64 (wd uf 128 64 : Nat)) (.int .u64 (wd uf 192 64 : Nat)) (.slice ua un uc) (.int .i64 (up.n : Int)) (.int .i64 (up.h : Int))) := kp_putP (q := r4 + 1) (Kp.refl (fun b => b = r4 + 1) w1) (fun _ => rfl) _ _ _ _ _ _ _ _
            refine ⟨j - 1, ⟨uk, uf, ua, un, uc, up⟩, by rw [HN.out]; omega, by congr 1; omega, HUp.out, ReV.kept hks (fun b hb _ => (HTr.out b hb).1) _ _ HUo.out, (HQk.out w1 HKu.out).put _ _ _ _ _ _ _ _, (HKr.out.trans HKu.out (T := No) fun _ _ e => e.elim).trans hks (T := fun b => b = r4 + 1) fun _ _ e => e⟩
          case measure => simp only [intOf]; omega

end Go.Proofs.Ytjalnddgbnjmcaa.ere
