/- Package ere: brackets, atoms; all calls of the reader. -/
import Derived.Test.YtdognehkbahmdaaErePiece
namespace Go.Proofs.Ytdognehkbahmdaa.ere
open Go.RowKit Go.Proofs.Ytdognehkbahmdaa.sum Go.Proofs.Ytdognehkbahmdaa.kept Go.Proofs.Ytdognehkbahmdaa.pop Go.Proofs.Ytdognehkbahmdaa.cls Go.Proofs.Ytdognehkbahmdaa.tre Go.Proofs.Ytdognehkbahmdaa.str
set_option linter.unusedVariables false

/-- a bracket at a place -/
def brkR (bk : Nat → Option ((Nat → Bool) × Nat)) (k : Nat) : Rs := match bk (k + 1) with
  | none => .bad 24 k
  | some (f, n) => .ok (setT f) n
def BrktC (w0 : World) (q : Nat) (l : List UInt8) (bk : Nat → Option ((Nat → Bool) × Nat)) : Prop := ∀ (w : World) (k o : Nat), RdAt w0 w q l k o → k < l.length → atB l k = 91 →
  Calls Try.prog 78 #[.pointer (some ⟨q, 0, none⟩)] w (RsPost (fun b => w.heap.size ≤ b) w0 w q l k o (brkR bk k))
/-- a group at a place -/
def grpR (l : List UInt8) (bk : Nat → Option ((Nat → Bool) × Nat)) (n o k : Nat) : Rs :=
  if o = 10 then .bad 26 k
  else match (altsF l bk n (o + 1) (k + 1)).join 3 with
    | .bad e k' => .bad e k'
    | .ok t k' => if seesB l k' [41] = true then .ok t (k' + 1) else .bad 24 k'
/-- what a call leaves, stored as one's own answer -/
theorem rs_pass {w w0 W1 : World} {q r : Nat} {l : List UInt8} {k o : Nat} {R : Rs} {f : FuncId} {args : Array Value} (hk : Kp No w W1) (hr : w.heap.size = r) (hqr : q < r) (hr1 : r < W1.heap.size) (hge : w0.heap.size ≤ q)
    (h : Calls Try.prog f args W1 (RsPost (fun b => W1.heap.size ≤ b) w0 W1 q l k o R)) :
    Calls Try.prog f args W1 fun e w' => ∃ xk xf xa xn xc L H E, e = .returned (.tuple #[.agg #[.int .i64 xk, .int .u64 (wd xf 0 64 : Nat), .int .u64 (wd xf 64 64 : Nat), .int .u64 (wd xf 128 64 : Nat), .int .u64 (wd xf 192 64 : Nat), .slice xa xn xc, .int .i64 L, .int .i64 H], .int .i64 E]) ∧ Kp (fun b => b = q) W1 w' ∧ Hid (RsPost (fun b => w.heap.size ≤ b) w0 w q l k o R (.returned (.tuple #[.agg #[.int .i64 xk, .int .u64 (wd xf 0 64 : Nat), .int .u64 (wd xf 64 64 : Nat), .int .u64 (wd xf 128 64 : Nat), .int .u64 (wd xf 192 64 : Nat), .slice xa xn xc, .int .i64 L, .int .i64 H], .int .i64 E])) (putP w' r (.int .i64 xk) (.int .u64 (wd xf 0 64 : Nat)) (.int .u64 (wd xf 64 64 : Nat)) (.int .u64 (wd xf 128 64 : Nat)) (.int .u64 (wd xf 192 64 : Nat)) (.slice xa xn xc) (.int .i64 L) (.int .i64 H))) := by
  have hz := hk.size
  have hkz : ∀ w' x0 x1 x2 x3 x4 x5 x6 x7, Kp (fun b => b = r) w' (putP w' r x0 x1 x2 x3 x4 x5 x6 x7) := fun w' x0 x1 x2 x3 x4 x5 x6 x7 => kp_putP (q := r) (Kp.refl (fun b => b = r) w') (fun _ => rfl) _ _ _ _ _ _ _ _
  rcases R with ⟨t, n⟩ | ⟨c, n⟩
  · refine h.mono ?_
    rintro e w' ⟨_, rfl, ⟨xk, xf, xa, xn, xc, rfl, hv⟩, hR, hk1, h3, h4⟩
    refine ⟨xk, xf, xa, xn, xc, _, _, _, rfl, hk1, Hid_mk ⟨_, rfl, ⟨xk, xf, xa, xn, xc, rfl, ?_⟩, hR.kept (hkz _ _ _ _ _ _ _ _ _) (by show ¬ q = r; omega) (fun i e _ => by have e : i = r := e; omega), ((hk.to (S := fun b => b = q)).trans hk1 fun _ _ e => e).trans (hkz _ _ _ _ _ _ _ _ _) (T := fun b => b = r) fun i hi e => by omega, h3, h4⟩⟩
    exact ReV.wider (fun b hb _ => Nat.le_trans hz hb) _ _ (ReV.kept (hkz _ _ _ _ _ _ _ _ _) (fun b hb _ => by have hb : W1.heap.size ≤ b := hb; show ¬ b = r; omega) _ _ hv)
  · refine h.mono ?_
    rintro e w' ⟨o', rfl, hR, hk1, h3, h4⟩
    refine ⟨0, nul, none, 0, 0, 0, 0, (c : Int), by simp only [wd_nul]; rfl, hk1, Hid_mk ⟨o', by simp only [wd_nul]; rfl, hR.kept (hkz _ _ _ _ _ _ _ _ _) (by show ¬ q = r; omega) (fun i e _ => by have e : i = r := e; omega), ((hk.to (S := fun b => b = q)).trans hk1 fun _ _ e => e).trans (hkz _ _ _ _ _ _ _ _ _) (T := fun b => b = r) fun i hi e => by omega, h3, h4⟩⟩

set_option maxRecDepth 100000 in
set_option maxHeartbeats 8000000 in
theorem group_any {w0 w : World} {q : Nat} {l : List UInt8} {bk : Nat → Option ((Nat → Bool) × Nat)} {k o : Nat} (n : Nat) (hal : AltC w0 q l bk n) (h : RdAt w0 w q l k o) (hl : l.length < 1000000000) (hk : k < l.length) (ho : o ≤ 10) (hn : 8 * (l.length - k) ≤ n) :
    Calls Try.prog 77 #[.pointer (some ⟨q, 0, none⟩)] w (RsPost (fun b => w.heap.size ≤ b) w0 w q l k o (grpR l bk n o k)) := by
  obtain ⟨W0, hW0⟩ : ∃ W0, w.alloc (.cells #[.int .i64 0, .int .u64 0, .int .u64 0, .int .u64 0, .int .u64 0, .slice none 0 0, .int .i64 0, .int .i64 0] 60) = W0 := ⟨_, rfl⟩
  obtain ⟨r, hr⟩ : ∃ r, w.heap.size = r := ⟨_, rfl⟩
  have hK0 : Kp No w W0 := by rw [← hW0]; exact (Kp.refl No w).alloc _
  have hz : W0.heap.size = r + 1 := by rw [← hW0, ← hr]; simp
  have hB : PAt W0 r (.int .i64 0) (.int .u64 0) (.int .u64 0) (.int .u64 0) (.int .u64 0) (.slice none 0 0) (.int .i64 0) (.int .i64 0) := by
    rw [← hW0, ← hr]
    exact PAt.new _ _ _ _ _ _ _ _ _ _
  have hR0 := h.no hK0
  have hqr : q < r := by have := h.lt; omega
  have hsz := st_size l
  have hki0 : (0 : Int) ≤ (k : Int) := Int.natCast_nonneg _
  have hwk : IntKind.i64.wrap ((k : Int) + 1) = ((k + 1 : Nat) : Int) := by rw [IntWalk.i64_in _ (by omega)]; push_cast; rfl
  have HW0 := Hid_mk hW0
  have HR := Hid_mk hr
  have HQr := Hid_mk hqr
  have HB := Hid_mk hB
  have HR0 := Hid_mk hR0
  have HK0 := Hid_mk hK0
  have HZ := Hid_mk hz
  have HLn := Hid_mk hl
  have HO := Hid_mk ho
  have HKS := Hid_mk hk
  have HAl := Hid_mk hal
  have HN := Hid_mk hn
  obtain ⟨R, hRs⟩ : ∃ R, grpR l bk n o k = R := ⟨_, rfl⟩
  rw [hRs]
  unfold grpR at hRs
  have HRs := Hid_mk hRs
  have c1 := hR0.c1
  have c2 := hR0.c2
  have cw := hR0.warm
  have hoi0 : (0 : Int) ≤ (o : Int) := Int.natCast_nonneg _
  have hwo : IntKind.i64.wrap ((o : Int) + 1) = ((o + 1 : Nat) : Int) := by rw [IntWalk.i64_in _ (by omega)]; push_cast; rfl
  have hwo2 : IntKind.i64.wrap ((o : Int) + 1 - 1) = (o : Int) := by rw [IntWalk.i64_in _ (by omega)]; omega
  have hwo3 : wrap64 (o : Int) = (o : Int) := IntWalk.wrap64_in _ (by omega)
  clear hW0 hr hK0 hR0 h hqr hRs hal hn hz hk
  by_cases h10 : o = 10
  · subst h10
    have HR2 := Hid_mk (show R = .bad 26 k from by rw [← HRs.out]; rfl)
    obtain ⟨r0, r1, r2, r3, r4, r5, r6, r7, rw'⟩ := hB
    clear HRs hl ho hwo hwo2
    go_enter Try.func77, Try.ntmps77
    go_upto_region 1 with fail
    rw [HR.out, HW0.out]
    clear HW0
    go_wp2
    have hkz : Kp (fun b => b = r) W0 (putP W0 r (.int .i64 0) (.int .u64 0) (.int .u64 0) (.int .u64 0) (.int .u64 0) (.slice none 0 0) (.int .i64 0) (.int .i64 0)) := kp_putP (q := r) (Kp.refl (fun b => b = r) W0) (fun _ => rfl) _ _ _ _ _ _ _ _
    have hRz := HR0.out.kept hkz (by show ¬ q = r; have := HQr.out; omega) (fun i e _ => by have h1 := HR0.out.ge; have h2 := HQr.out; show w0.heap.size ≤ i; have e : i = r := e; omega)
    have hkf := (HK0.out.to (S := fun b => b = q)).trans hkz (T := fun b => b = r) fun i hi e => by have := HR.out; omega
    refine bodyPost_ret (v := .tuple #[.agg #[.int .i64 0, .int .u64 0, .int .u64 0, .int .u64 0, .int .u64 0, .slice none 0 0, .int .i64 0, .int .i64 0], .int .i64 26]) ?_ rfl ?_
    · simp [results, Try.results77, go_sem, r0, r1, r2, r3, r4, r5, r6, r7]
    · rw [HR2.out]
      exact ⟨10, rfl, hRz, hkf, Nat.le_of_lt HKS.out, by decide⟩
  · have hoi : ((o : Int) == 10) = false := by rw [beq_eq_false_iff_ne]; omega
    rw [if_neg h10] at HRs
    have H10 := Hid_mk h10
    clear h10 hl ho hB
    go_enter Try.func77, Try.ntmps77
    go_upto_region 1 with fail
    rw [HR.out, HW0.out]
    clear HW0
    go_upto_region 5 with fail
    have hks : Kp (fun b => b = q) W0 ((W0.setCell ⟨q, 2, none⟩ (.int .i64 ((o + 1 : Nat) : Int))).setCell ⟨q, 1, none⟩ (.int .i64 ((k + 1 : Nat) : Int))) := ((Kp.refl (fun b => b = q) W0).setCell (p := ⟨q, 2, none⟩) (fun _ => rfl) _).setCell (p := ⟨q, 1, none⟩) (fun _ => rfl) _
    refine wp_name (fun W => RdAt w0 W q l (k + 1) (o + 1) ∧ Kp (fun b => b = q) W0 W) ⟨(HR0.out.open' (o + 1)).at' (k + 1), hks⟩ ?_
    clear hks c1 c2 cw
    rintro W1 ⟨hR1, hk1⟩
    have hac := HAl.out W1 (k + 1) (o + 1) hR1 HKS.out (by have := HO.out; have := H10.out; omega) (by have := HN.out; have := HKS.out; omega)
    have HK1 := Hid_mk ((HK0.out.to (S := fun b => b = q)).trans hk1 fun _ _ e => e)
    have HB1 := Hid_mk (HB.out.kept hk1 (by show ¬ r = q; have := HQr.out; omega))
    have HW1 := Hid_mk (show r + 1 ≤ W1.heap.size by have := hk1.size; have := HZ.out; omega)
    clear hR1 hk1 HR0 HB
    rcases hpf : (altsF l bk n (o + 1) (k + 1)).join 3 with ⟨t, k2⟩ | ⟨c, k2⟩
    · rw [hpf] at hac HRs
      have hac2 : Calls Try.prog 28 #[.pointer (some ⟨q, 0, none⟩)] W1 fun e w' => ∃ xk xf xa xn xc xp, e = .returned (.tuple #[.agg (cellsP xk xf xa xn xc (Pt.n xp) (Pt.h xp)), .int .i64 0]) ∧ xp = absP t ∧ ReV (fun b => W1.heap.size ≤ b) w' xp.t (.agg (cellsR xk xf xa xn xc)) ∧ RdAt w0 w' q l k2 (o + 1) ∧ Kp (fun b => b = q) W1 w' ∧ k + 1 < k2 ∧ k2 ≤ l.length := by
        refine hac.mono ?_
        rintro e w' ⟨_, rfl, ⟨xk, xf, xa, xn, xc, rfl, hv⟩, h1, h2, h3, h4⟩
        exact ⟨xk, xf, xa, xn, xc, _, rfl, rfl, hv, h1, h2, h3, h4⟩
      unfold cellsP at hac2
      have HAc := Hid_mk hac2
      clear hac hac2 hpf
      go_wp2_with fail
      with_reducible refine HAc.out.mono ?_
      rintro e w1 ⟨xk, xf, xa, xn, xc, xp, rfl, hxp, hxv, hR2, hk2, hk3, hk4⟩
      have HXp := Hid_mk hxp
      have HXv := Hid_mk hxv
      have HK2 := Hid_mk hk2
      have HK3 := Hid_mk hk3
      have HK4 := Hid_mk hk4
      have hge := hR2.ge
      have HRd2 := Hid_mk hR2
      have hse := fun W hk => sees_any (hR2.no (w' := W) hk) (by have := HLn.out; omega) hk4 ⟨#[41]⟩ [41] rfl
      have HB2 := Hid_mk (HB1.out.kept hk2 (by show ¬ r = q; have := HQr.out; omega))
      have HW2 := Hid_mk (show r + 1 ≤ w1.heap.size by have := hk2.size; have := HW1.out; omega)
      clear hxp hxv hR2 hk2 hk3 hk4 HAc
      go_upto_region 6 with fail
      obtain ⟨g, hg⟩ : ∃ g, w1.heap.size = g := ⟨_, rfl⟩
      rw [hg]
      have hp5 : PAt (w1.alloc (.cells #[.int .i64 xk, .int .u64 (wd xf 0 64 : Nat), .int .u64 (wd xf 64 64 : Nat), .int .u64 (wd xf 128 64 : Nat), .int .u64 (wd xf 192 64 : Nat), .slice xa xn xc, .int .i64 (xp.n : Int), .int .i64 (xp.h : Int)] 60)) g (.int .i64 xk) (.int .u64 (wd xf 0 64 : Nat)) (.int .u64 (wd xf 64 64 : Nat)) (.int .u64 (wd xf 128 64 : Nat)) (.int .u64 (wd xf 192 64 : Nat)) (.slice xa xn xc) (.int .i64 (xp.n : Int)) (.int .i64 (xp.h : Int)) := by
        rw [← hg]
        exact PAt.new _ _ _ _ _ _ _ _ _ _
      have hk5 : Kp No w1 (w1.alloc (.cells #[.int .i64 xk, .int .u64 (wd xf 0 64 : Nat), .int .u64 (wd xf 64 64 : Nat), .int .u64 (wd xf 128 64 : Nat), .int .u64 (wd xf 192 64 : Nat), .slice xa xn xc, .int .i64 (xp.n : Int), .int .i64 (xp.h : Int)] 60)) := (Kp.refl No w1).alloc _
      have hgr : r + 1 ≤ g := by have := HW2.out; omega
      have HGr := Hid_mk hgr
      refine wp_name (fun W => PAt W g (.int .i64 xk) (.int .u64 (wd xf 0 64 : Nat)) (.int .u64 (wd xf 64 64 : Nat)) (.int .u64 (wd xf 128 64 : Nat)) (.int .u64 (wd xf 192 64 : Nat)) (.slice xa xn xc) (.int .i64 (xp.n : Int)) (.int .i64 (xp.h : Int)) ∧ Kp No w1 W) ⟨hp5, hk5⟩ ?_
      clear hp5 hk5 hgr
      rintro W5 ⟨hp5, hk5⟩
      have HP5 := Hid_mk hp5
      have HK5 := Hid_mk hk5
      have hse5 := hse W5 hk5
      have HKw5 := Hid_mk ((HK1.out.trans HK2.out fun _ _ e => e).trans hk5 (T := No) fun _ _ e => e.elim)
      have HG := Hid_mk hg
      clear hse hp5 hk5 hg
      rcases hb : seesB l k2 [41] with _ | _
      · have HR2 := Hid_mk (show R = .bad 24 k2 from by rw [← HRs.out]; show (if seesB l k2 [41] = true then Rs.ok t (k2 + 1) else Rs.bad 24 k2) = _; rw [hb]; rfl)
        rw [hb] at hse5
        have HSe := Hid_mk hse5
        clear hse5 hb
        go_wp2_with fail
        with_reducible refine HSe.out.mono ?_
        rintro e W9 ⟨rfl, n9, rfl⟩
        go_upto_region 9 with fail
        refine wp_name (fun W => Kp No W5 W) ((Kp.refl No W5).drewN _) ?_
        rintro W7 hk7
        have HK7 := Hid_mk hk7
        have hb7 := ((HB2.out.kept HK5.out id).kept hk7 id)
        obtain ⟨r0, r1, r2, r3, r4, r5, r6, r7, rw'⟩ := hb7
        clear hk7
        go_wp2
        have hkz : Kp (fun b => b = r) W7 (putP W7 r (.int .i64 0) (.int .u64 0) (.int .u64 0) (.int .u64 0) (.int .u64 0) (.slice none 0 0) (.int .i64 0) (.int .i64 0)) := kp_putP (q := r) (Kp.refl (fun b => b = r) W7) (fun _ => rfl) _ _ _ _ _ _ _ _
        have hRz := ((HRd2.out.no HK5.out).no HK7.out).kept hkz (by show ¬ q = r; have := HQr.out; omega) (fun i e _ => by have h1 := ((HRd2.out.no HK5.out).no HK7.out).ge; have h2 := HQr.out; show w0.heap.size ≤ i; have e : i = r := e; omega)
        have hkf := (HKw5.out.trans HK7.out (T := No) fun _ _ e => e.elim).trans hkz (T := fun b => b = r) fun i hi e => by have := HR.out; omega
        refine bodyPost_ret (v := .tuple #[.agg #[.int .i64 0, .int .u64 0, .int .u64 0, .int .u64 0, .int .u64 0, .slice none 0 0, .int .i64 0, .int .i64 0], .int .i64 24]) ?_ rfl ?_
        · simp [results, Try.results77, go_sem, r0, r1, r2, r3, r4, r5, r6, r7]
        · rw [HR2.out]
          exact ⟨(o + 1), rfl, hRz, hkf, HK4.out, by decide⟩
      · have hlt := sees_lt hb
        have HR2 := Hid_mk (show R = .ok t (k2 + 1) from by rw [← HRs.out]; show (if seesB l k2 [41] = true then Rs.ok t (k2 + 1) else Rs.bad 24 k2) = _; rw [hb]; rfl)
        rw [hb] at hse5
        have HSe := Hid_mk hse5
        have HLt := Hid_mk hlt
        have hki2 : (0 : Int) ≤ (k2 : Int) := Int.natCast_nonneg _
        have hwk2 : IntKind.i64.wrap ((k2 : Int) + 1) = ((k2 + 1 : Nat) : Int) := by rw [IntWalk.i64_in _ (by have := HLn.out; omega)]; push_cast; rfl
        clear hse5 hb hlt
        go_wp2_with fail
        with_reducible refine HSe.out.mono ?_
        rintro e W9 ⟨rfl, n9, rfl⟩
        go_upto_region 10 with fail
        refine wp_name (fun W => Kp No W5 W) ((Kp.refl No W5).drewN _) ?_
        rintro W7 hk7
        have HK7 := Hid_mk hk7
        have hR7 := (HRd2.out.no HK5.out).no hk7
        have HR7 := Hid_mk hR7
        have c1 := hR7.c1
        have c2 := hR7.c2
        have cw := hR7.warm
        clear hk7 hR7
        go_upto_region 12 with fail
        have hks : Kp (fun b => b = q) W7 ((W7.setCell ⟨q, 1, none⟩ (.int .i64 ((k2 + 1 : Nat) : Int))).setCell ⟨q, 2, none⟩ (.int .i64 (o : Int))) := ((Kp.refl (fun b => b = q) W7).setCell (p := ⟨q, 1, none⟩) (fun _ => rfl) _).setCell (p := ⟨q, 2, none⟩) (fun _ => rfl) _
        refine wp_name (fun W => RdAt w0 W q l (k2 + 1) o ∧ Kp (fun b => b = q) W7 W) ⟨(HR7.out.at' (k2 + 1)).open' o, hks⟩ ?_
        clear hks c1 c2 cw
        rintro W8 ⟨hR8, hk8⟩
        have HR8 := Hid_mk hR8
        have HK8 := Hid_mk hk8
        have hp8 := (HP5.out.kept HK7.out id).kept hk8 (by show ¬ g = q; have := HQr.out; have := HGr.out; omega)
        have hb8 := ((HB2.out.kept HK5.out id).kept HK7.out id).kept hk8 (by show ¬ r = q; have := HQr.out; omega)
        obtain ⟨p0, p1, p2, p3, p4, p5, p6, p7, pw⟩ := hp8
        obtain ⟨r0, r1, r2, r3, r4, r5, r6, r7, rw'⟩ := hb8
        clear hR8 hk8
        go_wp2
        have hkz : Kp (fun b => b = r) W8 (putP W8 r (.int .i64 xk) (.int .u64 (wd xf 0 64 : Nat)) (.int .u64 (wd xf 64 64 : Nat)) (.int .u64 (wd xf 128 64 : Nat)) (.int .u64 (wd xf 192 64 : Nat)) (.slice xa xn xc) (.int .i64 (xp.n : Int)) (.int .i64 (xp.h : Int))) := kp_putP (q := r) (Kp.refl (fun b => b = r) W8) (fun _ => rfl) _ _ _ _ _ _ _ _
        have hRz := HR8.out.kept hkz (by show ¬ q = r; have := HQr.out; omega) (fun i e _ => by have h1 := HR8.out.ge; have h2 := HQr.out; show w0.heap.size ≤ i; have e : i = r := e; omega)
        have hkf := ((HKw5.out.trans HK7.out (T := No) fun _ _ e => e.elim).trans HK8.out fun _ _ e => e).trans hkz (T := fun b => b = r) fun i hi e => by have := HR.out; omega
        have hV8 := ReV.kept HK8.out (fun b hb _ => by have hb : W1.heap.size ≤ b := hb; have := HW1.out; have := HQr.out; show ¬ b = q; omega) _ _ (ReV.no HK7.out _ _ (ReV.no HK5.out _ _ HXv.out))
        have hVz := ReV.wider (T' := fun b => w.heap.size ≤ b) (fun b hb _ => by have hb : W1.heap.size ≤ b := hb; have := HW1.out; have := HR.out; omega) _ _ (ReV.kept hkz (fun b hb _ => by have hb : W1.heap.size ≤ b := hb; have := HW1.out; show ¬ b = r; omega) _ _ hV8)
        refine bodyPost_ret (v := .tuple #[.agg (cellsP xk xf xa xn xc xp.n xp.h), .int .i64 0]) ?_ rfl ?_
        · simp [results, Try.results77, go_sem, cellsP, r0, r1, r2, r3, r4, r5, r6, r7]
        · rw [HR2.out]
          exact ⟨_, rfl, by rw [← HXp.out]; exact ⟨xk, xf, xa, xn, xc, rfl, hVz⟩, hRz, hkf, by have := HK3.out; omega, HLt.out⟩
    · rw [hpf] at hac HRs
      have HR2 := Hid_mk (show R = .bad c k2 from by rw [← HRs.out])
      have hac2 : Calls Try.prog 28 #[.pointer (some ⟨q, 0, none⟩)] W1 fun e w' => ∃ o', e = .returned (.tuple #[.agg #[.int .i64 0, .int .u64 0, .int .u64 0, .int .u64 0, .int .u64 0, .slice none 0 0, .int .i64 0, .int .i64 0], .int .i64 (c : Int)]) ∧ RdAt w0 w' q l k2 o' ∧ Kp (fun b => b = q) W1 w' ∧ k2 ≤ l.length ∧ 0 < c := hac
      have HAc := Hid_mk hac2
      clear hac hac2 hpf
      go_wp2_with fail
      with_reducible refine HAc.out.mono ?_
      rintro e w1 ⟨o', rfl, hR1, hk1, hk2, hc⟩
      have hcn : ((c : Int) != 0) = true := by simp; omega
      have hcf : ((c : Int) == 0) = false := by rw [beq_eq_false_iff_ne]; omega
      have hb1 := HB1.out.kept hk1 (by show ¬ r = q; have := HQr.out; omega)
      have HR1 := Hid_mk hR1
      have HKw := Hid_mk (HK1.out.trans hk1 fun _ _ e => e)
      have HK2 := Hid_mk hk2
      have HC := Hid_mk hc
      have HB2 := Hid_mk hb1
      clear hR1 hk1 hk2 hc hb1 HAc
      go_upto_region 9 with fail
      refine wp_name (fun W => Kp No w1 W) ((Kp.refl No w1).alloc _) ?_
      rintro W7 hk7
      have HK7 := Hid_mk hk7
      have hb7 := HB2.out.kept hk7 id
      obtain ⟨r0, r1, r2, r3, r4, r5, r6, r7, rw'⟩ := hb7
      clear hk7
      go_wp2
      have hkz : Kp (fun b => b = r) W7 (putP W7 r (.int .i64 0) (.int .u64 0) (.int .u64 0) (.int .u64 0) (.int .u64 0) (.slice none 0 0) (.int .i64 0) (.int .i64 0)) := kp_putP (q := r) (Kp.refl (fun b => b = r) W7) (fun _ => rfl) _ _ _ _ _ _ _ _
      have hRz := (HR1.out.no HK7.out).kept hkz (by show ¬ q = r; have := HQr.out; omega) (fun i e _ => by have h1 := (HR1.out.no HK7.out).ge; have h2 := HQr.out; show w0.heap.size ≤ i; have e : i = r := e; omega)
      have hkf := (HKw.out.trans HK7.out (T := No) fun _ _ e => e.elim).trans hkz (T := fun b => b = r) fun i hi e => by have := HR.out; omega
      refine bodyPost_ret (v := .tuple #[.agg #[.int .i64 0, .int .u64 0, .int .u64 0, .int .u64 0, .int .u64 0, .slice none 0 0, .int .i64 0, .int .i64 0], .int .i64 (c : Int)]) ?_ rfl ?_
      · simp [results, Try.results77, go_sem, r0, r1, r2, r3, r4, r5, r6, r7]
      · rw [HR2.out]
        exact ⟨o', rfl, hRz, hkf, HK2.out, HC.out⟩

end Go.Proofs.Ytdognehkbahmdaa.ere
