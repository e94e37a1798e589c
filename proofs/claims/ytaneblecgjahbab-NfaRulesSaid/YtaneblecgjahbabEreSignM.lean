/- Package ere: a sign behind a part. Package ere: what a backslash takes with it. -/
import Derived.Test.YtaneblecgjahbabEreNumM
import Derived.Test.YtaneblecgjahbabEreListM
import Derived.Deep.RegionWith
import Derived.Test.YtaneblecgjahbabSetsM

namespace Go.Proofs.Ytaneblecgjahbab.ere
open Go.RowKit Go.Proofs.Ytaneblecgjahbab.sum Go.Proofs.Ytaneblecgjahbab.kept Go.Proofs.Ytaneblecgjahbab.pop Go.Proofs.Ytaneblecgjahbab.cls Go.Proofs.Ytaneblecgjahbab.tre Go.Proofs.Ytaneblecgjahbab.str
set_option linter.unusedVariables false

theorem not_no (b : Nat) : ¬ No b := id
theorem new3 {W1 w1 : World} {x0 x1 x2 : Value} {ty : TypeId} (h : Kp No ((W1.alloc (.cells #[x0, x1, x2] ty)).drew) w1) :
    w1.cell? ⟨W1.heap.size, 0, none⟩ = some x0 ∧ w1.cell? ⟨W1.heap.size, 1, none⟩ = some x1 ∧ w1.cell? ⟨W1.heap.size, 2, none⟩ = some x2 ∧ (∀ i, w1.frozen? ⟨W1.heap.size, i, none⟩ = false) ∧ Hid (Kp No W1 w1) :=
  ⟨h.cell' (by simp) id, h.cell' (by simp) id, h.cell' (by simp) id, fun i => by rw [h.frozen (p := ⟨W1.heap.size, i, none⟩) (by simp) id]; simp, Hid_mk (((Kp.refl No W1).alloc _).drew.trans' h)⟩
theorem kp_drew {W1 w1 : World} (h : Kp No W1.drew w1) : Hid (Kp No W1 w1) := Hid_mk ((Kp.refl No W1).drew.trans' h)
theorem three_put {w : World} {q : Nat} {x0 x1 x2 : Value} (h0 : w.cell? ⟨q, 0, none⟩ = some x0) (h1 : w.cell? ⟨q, 1, none⟩ = some x1) (h2 : w.cell? ⟨q, 2, none⟩ = some x2) (y0 y1 y2 : Value) :
    (((w.setCell ⟨q, 0, none⟩ y0).setCell ⟨q, 1, none⟩ y1).setCell ⟨q, 2, none⟩ y2).cell? ⟨q, 0, none⟩ = some y0 ∧ (((w.setCell ⟨q, 0, none⟩ y0).setCell ⟨q, 1, none⟩ y1).setCell ⟨q, 2, none⟩ y2).cell? ⟨q, 1, none⟩ = some y1 ∧ (((w.setCell ⟨q, 0, none⟩ y0).setCell ⟨q, 1, none⟩ y1).setCell ⟨q, 2, none⟩ y2).cell? ⟨q, 2, none⟩ = some y2 := by
  refine ⟨?_, ?_, ?_⟩
  · rw [World.cell?_setCell_other _ _ _ _ (by intro e; cases e), World.cell?_setCell_other _ _ _ _ (by intro e; cases e)]
    exact World.cell?_setCell_same _ _ _ h0
  · rw [World.cell?_setCell_other _ _ _ _ (by intro e; cases e)]
    exact World.cell?_setCell_same _ _ _ (by rw [World.cell?_setCell_other _ _ _ _ (by intro e; cases e)]; exact h1)
  · exact World.cell?_setCell_same _ _ _ (by rw [World.cell?_setCell_other _ _ _ _ (by intro e; cases e), World.cell?_setCell_other _ _ _ _ (by intro e; cases e)]; exact h2)
/-- so many of a part in a row -/
def AgC : Prop := ∀ (T : Nat → Prop) (w : World) (t : Tr) (v : Value) (x : Nat × Nat × Bool), PtV T w (absP t) v → x.1 ≤ x.2.1 → x.2.1 ≤ 50 → (x.2.2 = true → x.2.1 = x.1) →
  Calls Try.prog 105 #[v, .agg #[.int .i64 (x.1 : Int), .int .i64 (x.2.1 : Int), .bool x.2.2]] w fun e w' => ∃ v', e = .returned v' ∧ PtV (fun b => T b ∨ w.heap.size ≤ b) w' (absP (againT t x)) v' ∧ Kp No w w'
theorem times_ok {l : List UInt8} {k : Nat} {x : Nat × Nat × Bool} {n : Nat} (h : timesS l k = some (x, n)) : x.1 ≤ x.2.1 ∧ x.2.1 ≤ 50 ∧ (x.2.2 = true → x.2.1 = x.1) ∧ k < n ∧ n ≤ l.length := by
  unfold timesS at h
  simp only at h
  split at h
  · cases h
  · split at h
    · split at h
      · rename_i h1
        have h2 := sees_lt h1
        split at h
        · cases h
          exact ⟨Nat.le_refl _, by assumption, fun _ => rfl, by omega, by omega⟩
        · cases h
      · split at h
        · cases h
        · split at h
          · rename_i h1
            have h2 := sees_lt h1.1
            cases h
            exact ⟨h1.2.1, h1.2.2, fun e => (by cases e), by omega, by omega⟩
          · cases h
    · split at h
      · rename_i h1
        have h2 := sees_lt h1.1
        cases h
        exact ⟨Nat.le_refl _, h1.2, fun e => (by cases e), by omega, by omega⟩
      · cases h
/-- one sign -/
def sign1 (l : List UInt8) (t : Tr) (k : Nat) : Rs :=
  if atB l k = 42 then .ok (kid1 4 t) (k + 1)
  else if atB l k = 43 then .ok (kid1 5 t) (k + 1)
  else if atB l k = 63 then .ok (kid1 6 t) (k + 1)
  else match timesS l (k + 1) with
    | none => .bad 24 k
    | some (x, k') => .ok (againT t x) k'
/-- what a reader's call leaves: the part, its kids among T, and the place; or what is wrong -/
def RsPost (T : Nat → Prop) (w0 w : World) (q : Nat) (l : List UInt8) (k o : Nat) (r : Rs) (e : Ending) (w' : World) : Prop :=
  match r with
  | .ok t n => ∃ v, e = .returned (.tuple #[v, .int .i64 0]) ∧ PtV T w' (absP t) v ∧ RdAt w0 w' q l n o ∧ Kp (fun b => b = q) w w' ∧ k < n ∧ n ≤ l.length
  | .bad c n => ∃ o', e = .returned (.tuple #[.agg #[.int .i64 0, .int .u64 0, .int .u64 0, .int .u64 0, .int .u64 0, .slice none 0 0, .int .i64 0, .int .i64 0], .int .i64 (c : Int)]) ∧ RdAt w0 w' q l n o' ∧ Kp (fun b => b = q) w w' ∧ n ≤ l.length ∧ 0 < c

set_option maxRecDepth 100000 in
set_option maxHeartbeats 4000000 in
theorem sign_any {w0 w : World} {q : Nat} {l : List UInt8} {k o : Nat} (h : RdAt w0 w q l k o) (hl : l.length < 4294967281) (hk : k < l.length) (T : Nat → Prop) (t : Tr) (v : Value) (hv : PtV T w (absP t) v)
    (hT : ∀ b, w.heap.size ≤ b → T b) (hTq : ∀ b, T b → b ≠ q) (hx : atB l k = 42 ∨ atB l k = 43 ∨ atB l k = 63) :
    Calls Try.prog 91 #[.pointer (some ⟨q, 0, none⟩), v] w (RsPost T w0 w q l k o (sign1 l t k)) := by
  obtain ⟨xk, xf, xa, xn, xc, rfl, hr1⟩ := hv
  have hb : (absP t).n ≤ 401 ∧ (absP t).h ≤ 41 := ⟨absP_n t, absP_h t⟩
  obtain ⟨W0, hW0⟩ : ∃ W0, (w.alloc (.cells (cellsP xk xf xa xn xc (absP t).n (absP t).h) 102)).alloc (.cells #[.int .i64 0, .int .u64 0, .int .u64 0, .int .u64 0, .int .u64 0, .slice none 0 0, .int .i64 0, .int .i64 0] 102) = W0 := ⟨_, rfl⟩
  obtain ⟨r, hr⟩ : ∃ r, w.heap.size = r := ⟨_, rfl⟩
  have hK0 : Kp No w W0 := by rw [← hW0]; exact ((Kp.refl No w).alloc _).alloc _
  have hz : W0.heap.size = r + 2 := by rw [← hW0, ← hr]; simp
  obtain ⟨xp, hxp⟩ : ∃ xp, absP t = xp := ⟨_, rfl⟩
  rw [hxp] at hr1 hW0 hb ⊢
  have hA : PAt W0 r (.int .i64 xk) (.int .u64 (wd xf 0 64 : Nat)) (.int .u64 (wd xf 64 64 : Nat)) (.int .u64 (wd xf 128 64 : Nat)) (.int .u64 (wd xf 192 64 : Nat)) (.slice xa xn xc) (.int .i64 (xp.n : Int)) (.int .i64 (xp.h : Int)) := by
    rw [← hW0, ← hr]
    exact (PAt.new w _ _ _ _ _ _ _ _ _).kept ((Kp.refl No _).alloc _) id
  have hB : PAt W0 (r + 1) (.int .i64 0) (.int .u64 0) (.int .u64 0) (.int .u64 0) (.int .u64 0) (.slice none 0 0) (.int .i64 0) (.int .i64 0) := by
    have e : r + 1 = (w.alloc (.cells (cellsP xk xf xa xn xc xp.n xp.h) 102)).heap.size := by rw [← hr]; simp
    rw [← hW0, e]
    exact PAt.new _ _ _ _ _ _ _ _ _ _
  unfold cellsP at hW0
  have hR0 := h.no hK0
  have hqr : q < r := by have := h.lt; omega
  have hV0 : ReV (fun b => T b ∧ b ≠ r ∧ b ≠ r + 1) W0 xp.t (.agg (cellsR xk xf xa xn xc)) := ReV.no hK0 _ _ (ReV.wider (fun b hb hlt => ⟨hb, by omega, by omega⟩) _ _ hr1)
  obtain ⟨T1, hT1⟩ : ∃ T1, (fun b => T b ∧ b ≠ r ∧ b ≠ r + 1) = T1 := ⟨_, rfl⟩
  have hTn : ∀ b, r + 2 ≤ b → T1 b := by rw [← hT1]; exact fun b hb => ⟨hT b (by omega), by omega, by omega⟩
  have hTr : ∀ b, T1 b → b ≠ r ∧ b ≠ r + 1 ∧ b ≠ q := by rw [← hT1]; exact fun b hb => ⟨hb.2.1, hb.2.2, hTq b hb.1⟩
  have hTt : ∀ b, T1 b → T b := by rw [← hT1]; exact fun b hb => hb.1
  rw [hT1] at hV0
  have hsz := st_size l
  have hg := fun h => st_get l k h
  have hki : (k : Int) < (l.length : Int) := by omega
  have hki0 : (0 : Int) ≤ (k : Int) := Int.natCast_nonneg _
  have hwk : IntKind.i64.wrap ((k : Int) + 1) = ((k + 1 : Nat) : Int) := by rw [IntWalk.i64_in _ (by omega)]; push_cast; rfl
  have HKS := Hid_mk hk
  have HXp := Hid_mk hxp
  have HW0 := Hid_mk hW0
  have HR := Hid_mk hr
  have HK0 := Hid_mk hK0
  have HZ := Hid_mk hz
  have HA := Hid_mk hA
  have HB := Hid_mk hB
  have HR0 := Hid_mk hR0
  have HV0 := Hid_mk hV0
  have HTn := Hid_mk hTn
  have HTr := Hid_mk hTr
  have HTt := Hid_mk hTt
  have HQr := Hid_mk hqr
  have HBd := Hid_mk hb
  obtain ⟨y, hy⟩ : ∃ y, atB l k = y := ⟨_, rfl⟩
  have hg2 : ∀ h : k < (st l).size, ((st l)[k]).toNat = y := fun h => (hg h).trans hy
  have HY := Hid_mk hy
  rw [hy] at hx
  obtain ⟨R, hRs⟩ : ∃ R, sign1 l t k = R := ⟨_, rfl⟩
  rw [hRs]
  unfold sign1 at hRs
  rw [hy] at hRs
  have HRs := Hid_mk hRs
  have c0 := hR0.c0
  have c1 := hR0.c1
  clear hr1 hW0 hr hK0 hz hA hB hR0 hV0 hTn hTr hTt hb hT hTq hT1 hg hy hk h hqr hRs hxp
  go_enter Try.func91, Try.ntmps91
  unfold cellsP
  go_upto_region 1 with fail
  rw [HR.out, HW0.out]
  clear HW0
  go_wp2
  go_quiet (fail)
  go_upto_region 7 with fail
  refine wp_name (fun W => Kp No W0 W) ((Kp.refl No W0).drewN _) ?_
  clear hg2 c0 c1
  rintro W1 hk1
  have hA1 := HA.out.kept hk1 id
  have hB1 := HB.out.kept hk1 id
  have hR1 := HR0.out.no hk1
  have hV1 := ReV.no hk1 _ _ HV0.out
  have HK1 := Hid_mk hk1
  have HA1 := Hid_mk hA1
  have HB1 := Hid_mk hB1
  have HR1 := Hid_mk hR1
  have HV1 := Hid_mk hV1
  have HZ1 := Hid_mk (show r + 2 ≤ W1.heap.size by have := HZ.out; have := hk1.size; omega)
  have c0 := hR1.c0
  have c1 := hR1.c1
  have cw := hR1.warm
  obtain ⟨p0, p1, p2, p3, p4, p5, p6, p7, pw⟩ := hA1
  clear hk1 hB1 hR1 hV1 HV0 HR0 HA HB
  rcases hx with hx | hx | hx
  · subst hx
    have HR2 := Hid_mk (show R = .ok (kid1 4 t) (k + 1) from by rw [← HRs.out]; rfl)
    clear HRs
    have hone2 : Calls Try.prog 103 #[.int .i64 4, .agg (cellsP xk xf xa xn xc xp.n xp.h)] W1 fun e w' => ∃ uk uf ua un uc up, e = .returned (.agg (cellsP uk uf ua un uc (Pt.n up) (Pt.h up))) ∧ up = absP (kid1 4 t) ∧ ReV T1 w' up.t (.agg (cellsR uk uf ua un uc)) ∧ Kp No W1 w' := by
      have hone := one_any T1 W1 4 xp _ ⟨xk, xf, xa, xn, xc, rfl, HV1.out⟩ (fun b hb => HTn.out b (Nat.le_trans HZ1.out hb)) HBd.out
      rw [← HXp.out, ← abs1, HXp.out] at hone
      refine hone.mono ?_
      rintro e w' ⟨v, rfl, ⟨k, f, a, n, c, rfl, hv⟩, hk⟩
      exact ⟨k, f, a, n, c, _, rfl, rfl, hv, hk⟩
    unfold cellsP at hone2
    have HOne := Hid_mk hone2
    clear hone2
    go_wp2_with fail
    with_reducible refine HOne.out.mono ?_
    rintro e W2 ⟨uk, uf, ua, un, uc, up, rfl, hup, huo, hku⟩
    have hA2 := HA1.out.kept hku id
    have HUp := Hid_mk hup
    have HUo := Hid_mk huo
    have HKu := Hid_mk hku
    have HA2 := Hid_mk hA2
    clear p0 p1 p2 p3 p4 p5 p6 p7 pw c0 c1 cw hup huo hku
    obtain ⟨p0, p1, p2, p3, p4, p5, p6, p7, pw⟩ := hA2
    go_upto_region 13 with fail
    have hks : Kp (fun b => b = r) W2 (putP W2 r (.int .i64 uk) (.int .u64 (wd uf 0 64 : Nat)) (.int .u64 (wd uf 64 64 : Nat)) (.int .u64 (wd uf 128 64 : Nat)) (.int .u64 (wd uf 192 64 : Nat)) (.slice ua un uc) (.int .i64 (up.n : Int)) (.int .i64 (up.h : Int))) := kp_putP (q := r) (Kp.refl (fun b => b = r) W2) (fun _ => rfl) _ _ _ _ _ _ _ _
    have hA3 := HA2.out.put (.int .i64 uk) (.int .u64 (wd uf 0 64 : Nat)) (.int .u64 (wd uf 64 64 : Nat)) (.int .u64 (wd uf 128 64 : Nat)) (.int .u64 (wd uf 192 64 : Nat)) (.slice ua un uc) (.int .i64 (up.n : Int)) (.int .i64 (up.h : Int))
    have hB3 := (HB1.out.kept HKu.out id).kept hks (by show ¬ r + 1 = r; omega)
    have hR3 := (HR1.out.no HKu.out).kept hks (by show ¬ q = r; have := HQr.out; omega) (fun i e _ => by have h1 := HR1.out.ge; have h2 := HQr.out; show w0.heap.size ≤ i; have e : i = r := e; omega)
    have hV3 := ReV.kept hks (fun b hb _ => (HTr.out b hb).1) _ _ HUo.out
    have hk3 : Kp No w (putP W2 r (.int .i64 uk) (.int .u64 (wd uf 0 64 : Nat)) (.int .u64 (wd uf 64 64 : Nat)) (.int .u64 (wd uf 128 64 : Nat)) (.int .u64 (wd uf 192 64 : Nat)) (.slice ua un uc) (.int .i64 (up.n : Int)) (.int .i64 (up.h : Int))) := (HK0.out.trans' (HK1.out.trans' HKu.out)).trans hks (T := fun b => b = r) fun i hi e => by have := HR.out; omega
    unfold putP at hA3 hB3 hR3 hV3 hk3
    refine wp_name (fun W => PAt W r (.int .i64 uk) (.int .u64 (wd uf 0 64 : Nat)) (.int .u64 (wd uf 64 64 : Nat)) (.int .u64 (wd uf 128 64 : Nat)) (.int .u64 (wd uf 192 64 : Nat)) (.slice ua un uc) (.int .i64 (up.n : Int)) (.int .i64 (up.h : Int)) ∧ PAt W (r + 1) (.int .i64 0) (.int .u64 0) (.int .u64 0) (.int .u64 0) (.int .u64 0) (.slice none 0 0) (.int .i64 0) (.int .i64 0) ∧ RdAt w0 W q l k o ∧ ReV T1 W up.t (.agg (cellsR uk uf ua un uc)) ∧ Kp No w W) ⟨hA3, hB3, hR3, hV3, hk3⟩ ?_
    clear hks hA3 hB3 hR3 hV3 hk3 p0 p1 p2 p3 p4 p5 p6 p7 pw
    rintro W3 ⟨hA3, hB3, hR3, hV3, hk3⟩
    have HA3 := Hid_mk hA3
    have HB3 := Hid_mk hB3
    have HR3 := Hid_mk hR3
    have HV3 := Hid_mk hV3
    have HK3 := Hid_mk hk3
    have c1 := hR3.c1
    have cw := hR3.warm
    clear hA3 hB3 hR3 hV3 hk3
    go_upto_region 14 with fail
    have hks : Kp (fun b => b = q) W3 (W3.setCell ⟨q, 1, none⟩ (.int .i64 ((k + 1 : Nat) : Int))) := (Kp.refl (fun b => b = q) W3).setCell (p := ⟨q, 1, none⟩) (fun _ => rfl) _
    have hR4 := HR3.out.at' (k + 1)
    have hA4 := HA3.out.kept hks (by show ¬ r = q; have := HQr.out; omega)
    have hB4 := HB3.out.kept hks (by show ¬ r + 1 = q; have := HQr.out; omega)
    have hV4 := ReV.kept hks (fun b hb _ => (HTr.out b hb).2.2) _ _ HV3.out
    have hk4 : Kp (fun b => b = q) w _ := (HK3.out.to (S := fun b => b = q)).trans hks fun _ _ e => e
    refine wp_name (fun W => PAt W r (.int .i64 uk) (.int .u64 (wd uf 0 64 : Nat)) (.int .u64 (wd uf 64 64 : Nat)) (.int .u64 (wd uf 128 64 : Nat)) (.int .u64 (wd uf 192 64 : Nat)) (.slice ua un uc) (.int .i64 (up.n : Int)) (.int .i64 (up.h : Int)) ∧ PAt W (r + 1) (.int .i64 0) (.int .u64 0) (.int .u64 0) (.int .u64 0) (.int .u64 0) (.slice none 0 0) (.int .i64 0) (.int .i64 0) ∧ RdAt w0 W q l (k + 1) o ∧ ReV T1 W up.t (.agg (cellsR uk uf ua un uc)) ∧ Kp (fun b => b = q) w W) ⟨hA4, hB4, hR4, hV4, hk4⟩ ?_
    clear hks hA4 hB4 hR4 hV4 hk4 c1 cw
    rintro W4 ⟨hA4, hB4, hR4, hV4, hk4⟩
    have HR4 := Hid_mk hR4
    have HV4 := Hid_mk hV4
    have HK4 := Hid_mk hk4
    obtain ⟨p0, p1, p2, p3, p4, p5, p6, p7, pw⟩ := hA4
    obtain ⟨r0, r1, r2, r3, r4, r5, r6, r7, rw'⟩ := hB4
    clear hR4 hV4 hk4
    go_wp2
    have hkz : Kp (fun b => b = r + 1) W4 (putP W4 (r + 1) (.int .i64 uk) (.int .u64 (wd uf 0 64 : Nat)) (.int .u64 (wd uf 64 64 : Nat)) (.int .u64 (wd uf 128 64 : Nat)) (.int .u64 (wd uf 192 64 : Nat)) (.slice ua un uc) (.int .i64 (up.n : Int)) (.int .i64 (up.h : Int))) := kp_putP (q := r + 1) (Kp.refl (fun b => b = r + 1) W4) (fun _ => rfl) _ _ _ _ _ _ _ _
    have hRz := HR4.out.kept hkz (by show ¬ q = r + 1; have := HQr.out; omega) (fun i e _ => by have h1 := HR4.out.ge; have h2 := HQr.out; show w0.heap.size ≤ i; have e : i = r + 1 := e; omega)
    have hVz := ReV.wider (fun b hb _ => HTt.out b hb) _ _ (ReV.kept hkz (fun b hb _ => (HTr.out b hb).2.1) _ _ HV4.out)
    have hkf := HK4.out.trans hkz (T := fun b => b = r + 1) fun i hi e => by have := HR.out; omega
    refine bodyPost_ret (v := .tuple #[.agg (cellsP uk uf ua un uc up.n up.h), .int .i64 0]) ?_ rfl ?_
    · simp [results, Try.results91, go_sem, cellsP, r0, r1, r2, r3, r4, r5, r6, r7]
    · rw [HR2.out]
      exact ⟨_, rfl, by rw [← HUp.out]; exact ⟨uk, uf, ua, un, uc, rfl, hVz⟩, hRz, hkf, Nat.lt_succ_self _, HKS.out⟩
  · subst hx
    have HR2 := Hid_mk (show R = .ok (kid1 5 t) (k + 1) from by rw [← HRs.out]; rfl)
    clear HRs
    have hone2 : Calls Try.prog 103 #[.int .i64 5, .agg (cellsP xk xf xa xn xc xp.n xp.h)] W1 fun e w' => ∃ uk uf ua un uc up, e = .returned (.agg (cellsP uk uf ua un uc (Pt.n up) (Pt.h up))) ∧ up = absP (kid1 5 t) ∧ ReV T1 w' up.t (.agg (cellsR uk uf ua un uc)) ∧ Kp No W1 w' := by
      have hone := one_any T1 W1 5 xp _ ⟨xk, xf, xa, xn, xc, rfl, HV1.out⟩ (fun b hb => HTn.out b (Nat.le_trans HZ1.out hb)) HBd.out
      rw [← HXp.out, ← abs1, HXp.out] at hone
      refine hone.mono ?_
      rintro e w' ⟨v, rfl, ⟨k, f, a, n, c, rfl, hv⟩, hk⟩
      exact ⟨k, f, a, n, c, _, rfl, rfl, hv, hk⟩
    unfold cellsP at hone2
    have HOne := Hid_mk hone2
    clear hone2
    go_wp2_with fail
    with_reducible refine HOne.out.mono ?_
    rintro e W2 ⟨uk, uf, ua, un, uc, up, rfl, hup, huo, hku⟩
    have hA2 := HA1.out.kept hku id
    have HUp := Hid_mk hup
    have HUo := Hid_mk huo
    have HKu := Hid_mk hku
    have HA2 := Hid_mk hA2
    clear p0 p1 p2 p3 p4 p5 p6 p7 pw c0 c1 cw hup huo hku
    obtain ⟨p0, p1, p2, p3, p4, p5, p6, p7, pw⟩ := hA2
    go_upto_region 13 with fail
    have hks : Kp (fun b => b = r) W2 (putP W2 r (.int .i64 uk) (.int .u64 (wd uf 0 64 : Nat)) (.int .u64 (wd uf 64 64 : Nat)) (.int .u64 (wd uf 128 64 : Nat)) (.int .u64 (wd uf 192 64 : Nat)) (.slice ua un uc) (.int .i64 (up.n : Int)) (.int .i64 (up.h : Int))) := kp_putP (q := r) (Kp.refl (fun b => b = r) W2) (fun _ => rfl) _ _ _ _ _ _ _ _
    have hA3 := HA2.out.put (.int .i64 uk) (.int .u64 (wd uf 0 64 : Nat)) (.int .u64 (wd uf 64 64 : Nat)) (.int .u64 (wd uf 128 64 : Nat)) (.int .u64 (wd uf 192 64 : Nat)) (.slice ua un uc) (.int .i64 (up.n : Int)) (.int .i64 (up.h : Int))
    have hB3 := (HB1.out.kept HKu.out id).kept hks (by show ¬ r + 1 = r; omega)
    have hR3 := (HR1.out.no HKu.out).kept hks (by show ¬ q = r; have := HQr.out; omega) (fun i e _ => by have h1 := HR1.out.ge; have h2 := HQr.out; show w0.heap.size ≤ i; have e : i = r := e; omega)
    have hV3 := ReV.kept hks (fun b hb _ => (HTr.out b hb).1) _ _ HUo.out
    have hk3 : Kp No w (putP W2 r (.int .i64 uk) (.int .u64 (wd uf 0 64 : Nat)) (.int .u64 (wd uf 64 64 : Nat)) (.int .u64 (wd uf 128 64 : Nat)) (.int .u64 (wd uf 192 64 : Nat)) (.slice ua un uc) (.int .i64 (up.n : Int)) (.int .i64 (up.h : Int))) := (HK0.out.trans' (HK1.out.trans' HKu.out)).trans hks (T := fun b => b = r) fun i hi e => by have := HR.out; omega
    unfold putP at hA3 hB3 hR3 hV3 hk3
    refine wp_name (fun W => PAt W r (.int .i64 uk) (.int .u64 (wd uf 0 64 : Nat)) (.int .u64 (wd uf 64 64 : Nat)) (.int .u64 (wd uf 128 64 : Nat)) (.int .u64 (wd uf 192 64 : Nat)) (.slice ua un uc) (.int .i64 (up.n : Int)) (.int .i64 (up.h : Int)) ∧ PAt W (r + 1) (.int .i64 0) (.int .u64 0) (.int .u64 0) (.int .u64 0) (.int .u64 0) (.slice none 0 0) (.int .i64 0) (.int .i64 0) ∧ RdAt w0 W q l k o ∧ ReV T1 W up.t (.agg (cellsR uk uf ua un uc)) ∧ Kp No w W) ⟨hA3, hB3, hR3, hV3, hk3⟩ ?_
    clear hks hA3 hB3 hR3 hV3 hk3 p0 p1 p2 p3 p4 p5 p6 p7 pw
    rintro W3 ⟨hA3, hB3, hR3, hV3, hk3⟩
    have HA3 := Hid_mk hA3
    have HB3 := Hid_mk hB3
    have HR3 := Hid_mk hR3
    have HV3 := Hid_mk hV3
    have HK3 := Hid_mk hk3
    have c1 := hR3.c1
    have cw := hR3.warm
    clear hA3 hB3 hR3 hV3 hk3
    go_upto_region 14 with fail
    have hks : Kp (fun b => b = q) W3 (W3.setCell ⟨q, 1, none⟩ (.int .i64 ((k + 1 : Nat) : Int))) := (Kp.refl (fun b => b = q) W3).setCell (p := ⟨q, 1, none⟩) (fun _ => rfl) _
    have hR4 := HR3.out.at' (k + 1)
    have hA4 := HA3.out.kept hks (by show ¬ r = q; have := HQr.out; omega)
    have hB4 := HB3.out.kept hks (by show ¬ r + 1 = q; have := HQr.out; omega)
    have hV4 := ReV.kept hks (fun b hb _ => (HTr.out b hb).2.2) _ _ HV3.out
    have hk4 : Kp (fun b => b = q) w _ := (HK3.out.to (S := fun b => b = q)).trans hks fun _ _ e => e
    refine wp_name (fun W => PAt W r (.int .i64 uk) (.int .u64 (wd uf 0 64 : Nat)) (.int .u64 (wd uf 64 64 : Nat)) (.int .u64 (wd uf 128 64 : Nat)) (.int .u64 (wd uf 192 64 : Nat)) (.slice ua un uc) (.int .i64 (up.n : Int)) (.int .i64 (up.h : Int)) ∧ PAt W (r + 1) (.int .i64 0) (.int .u64 0) (.int .u64 0) (.int .u64 0) (.int .u64 0) (.slice none 0 0) (.int .i64 0) (.int .i64 0) ∧ RdAt w0 W q l (k + 1) o ∧ ReV T1 W up.t (.agg (cellsR uk uf ua un uc)) ∧ Kp (fun b => b = q) w W) ⟨hA4, hB4, hR4, hV4, hk4⟩ ?_
    clear hks hA4 hB4 hR4 hV4 hk4 c1 cw
    rintro W4 ⟨hA4, hB4, hR4, hV4, hk4⟩
    have HR4 := Hid_mk hR4
    have HV4 := Hid_mk hV4
    have HK4 := Hid_mk hk4
    obtain ⟨p0, p1, p2, p3, p4, p5, p6, p7, pw⟩ := hA4
    obtain ⟨r0, r1, r2, r3, r4, r5, r6, r7, rw'⟩ := hB4
    clear hR4 hV4 hk4
    go_wp2
    have hkz : Kp (fun b => b = r + 1) W4 (putP W4 (r + 1) (.int .i64 uk) (.int .u64 (wd uf 0 64 : Nat)) (.int .u64 (wd uf 64 64 : Nat)) (.int .u64 (wd uf 128 64 : Nat)) (.int .u64 (wd uf 192 64 : Nat)) (.slice ua un uc) (.int .i64 (up.n : Int)) (.int .i64 (up.h : Int))) := kp_putP (q := r + 1) (Kp.refl (fun b => b = r + 1) W4) (fun _ => rfl) _ _ _ _ _ _ _ _
    have hRz := HR4.out.kept hkz (by show ¬ q = r + 1; have := HQr.out; omega) (fun i e _ => by have h1 := HR4.out.ge; have h2 := HQr.out; show w0.heap.size ≤ i; have e : i = r + 1 := e; omega)
    have hVz := ReV.wider (fun b hb _ => HTt.out b hb) _ _ (ReV.kept hkz (fun b hb _ => (HTr.out b hb).2.1) _ _ HV4.out)
    have hkf := HK4.out.trans hkz (T := fun b => b = r + 1) fun i hi e => by have := HR.out; omega
    refine bodyPost_ret (v := .tuple #[.agg (cellsP uk uf ua un uc up.n up.h), .int .i64 0]) ?_ rfl ?_
    · simp [results, Try.results91, go_sem, cellsP, r0, r1, r2, r3, r4, r5, r6, r7]
    · rw [HR2.out]
      exact ⟨_, rfl, by rw [← HUp.out]; exact ⟨uk, uf, ua, un, uc, rfl, hVz⟩, hRz, hkf, Nat.lt_succ_self _, HKS.out⟩
  · subst hx
    have HR2 := Hid_mk (show R = .ok (kid1 6 t) (k + 1) from by rw [← HRs.out]; rfl)
    clear HRs
    have hone2 : Calls Try.prog 103 #[.int .i64 6, .agg (cellsP xk xf xa xn xc xp.n xp.h)] W1 fun e w' => ∃ uk uf ua un uc up, e = .returned (.agg (cellsP uk uf ua un uc (Pt.n up) (Pt.h up))) ∧ up = absP (kid1 6 t) ∧ ReV T1 w' up.t (.agg (cellsR uk uf ua un uc)) ∧ Kp No W1 w' := by
      have hone := one_any T1 W1 6 xp _ ⟨xk, xf, xa, xn, xc, rfl, HV1.out⟩ (fun b hb => HTn.out b (Nat.le_trans HZ1.out hb)) HBd.out
      rw [← HXp.out, ← abs1, HXp.out] at hone
      refine hone.mono ?_
      rintro e w' ⟨v, rfl, ⟨k, f, a, n, c, rfl, hv⟩, hk⟩
      exact ⟨k, f, a, n, c, _, rfl, rfl, hv, hk⟩
    unfold cellsP at hone2
    have HOne := Hid_mk hone2
    clear hone2
    go_wp2_with fail
    with_reducible refine HOne.out.mono ?_
    rintro e W2 ⟨uk, uf, ua, un, uc, up, rfl, hup, huo, hku⟩
    have hA2 := HA1.out.kept hku id
    have HUp := Hid_mk hup
    have HUo := Hid_mk huo
    have HKu := Hid_mk hku
    have HA2 := Hid_mk hA2
    clear p0 p1 p2 p3 p4 p5 p6 p7 pw c0 c1 cw hup huo hku
    obtain ⟨p0, p1, p2, p3, p4, p5, p6, p7, pw⟩ := hA2
    go_upto_region 13 with fail
    have hks : Kp (fun b => b = r) W2 (putP W2 r (.int .i64 uk) (.int .u64 (wd uf 0 64 : Nat)) (.int .u64 (wd uf 64 64 : Nat)) (.int .u64 (wd uf 128 64 : Nat)) (.int .u64 (wd uf 192 64 : Nat)) (.slice ua un uc) (.int .i64 (up.n : Int)) (.int .i64 (up.h : Int))) := kp_putP (q := r) (Kp.refl (fun b => b = r) W2) (fun _ => rfl) _ _ _ _ _ _ _ _
    have hA3 := HA2.out.put (.int .i64 uk) (.int .u64 (wd uf 0 64 : Nat)) (.int .u64 (wd uf 64 64 : Nat)) (.int .u64 (wd uf 128 64 : Nat)) (.int .u64 (wd uf 192 64 : Nat)) (.slice ua un uc) (.int .i64 (up.n : Int)) (.int .i64 (up.h : Int))
    have hB3 := (HB1.out.kept HKu.out id).kept hks (by show ¬ r + 1 = r; omega)
    have hR3 := (HR1.out.no HKu.out).kept hks (by show ¬ q = r; have := HQr.out; omega) (fun i e _ => by have h1 := HR1.out.ge; have h2 := HQr.out; show w0.heap.size ≤ i; have e : i = r := e; omega)
    have hV3 := ReV.kept hks (fun b hb _ => (HTr.out b hb).1) _ _ HUo.out
    have hk3 : Kp No w (putP W2 r (.int .i64 uk) (.int .u64 (wd uf 0 64 : Nat)) (.int .u64 (wd uf 64 64 : Nat)) (.int .u64 (wd uf 128 64 : Nat)) (.int .u64 (wd uf 192 64 : Nat)) (.slice ua un uc) (.int .i64 (up.n : Int)) (.int .i64 (up.h : Int))) := (HK0.out.trans' (HK1.out.trans' HKu.out)).trans hks (T := fun b => b = r) fun i hi e => by have := HR.out; omega
    unfold putP at hA3 hB3 hR3 hV3 hk3
    refine wp_name (fun W => PAt W r (.int .i64 uk) (.int .u64 (wd uf 0 64 : Nat)) (.int .u64 (wd uf 64 64 : Nat)) (.int .u64 (wd uf 128 64 : Nat)) (.int .u64 (wd uf 192 64 : Nat)) (.slice ua un uc) (.int .i64 (up.n : Int)) (.int .i64 (up.h : Int)) ∧ PAt W (r + 1) (.int .i64 0) (.int .u64 0) (.int .u64 0) (.int .u64 0) (.int .u64 0) (.slice none 0 0) (.int .i64 0) (.int .i64 0) ∧ RdAt w0 W q l k o ∧ ReV T1 W up.t (.agg (cellsR uk uf ua un uc)) ∧ Kp No w W) ⟨hA3, hB3, hR3, hV3, hk3⟩ ?_
    clear hks hA3 hB3 hR3 hV3 hk3 p0 p1 p2 p3 p4 p5 p6 p7 pw
    rintro W3 ⟨hA3, hB3, hR3, hV3, hk3⟩
    have HA3 := Hid_mk hA3
    have HB3 := Hid_mk hB3
    have HR3 := Hid_mk hR3
    have HV3 := Hid_mk hV3
    have HK3 := Hid_mk hk3
    have c1 := hR3.c1
    have cw := hR3.warm
    clear hA3 hB3 hR3 hV3 hk3
    go_upto_region 14 with fail
    have hks : Kp (fun b => b = q) W3 (W3.setCell ⟨q, 1, none⟩ (.int .i64 ((k + 1 : Nat) : Int))) := (Kp.refl (fun b => b = q) W3).setCell (p := ⟨q, 1, none⟩) (fun _ => rfl) _
    have hR4 := HR3.out.at' (k + 1)
    have hA4 := HA3.out.kept hks (by show ¬ r = q; have := HQr.out; omega)
    have hB4 := HB3.out.kept hks (by show ¬ r + 1 = q; have := HQr.out; omega)
    have hV4 := ReV.kept hks (fun b hb _ => (HTr.out b hb).2.2) _ _ HV3.out
    have hk4 : Kp (fun b => b = q) w _ := (HK3.out.to (S := fun b => b = q)).trans hks fun _ _ e => e
    refine wp_name (fun W => PAt W r (.int .i64 uk) (.int .u64 (wd uf 0 64 : Nat)) (.int .u64 (wd uf 64 64 : Nat)) (.int .u64 (wd uf 128 64 : Nat)) (.int .u64 (wd uf 192 64 : Nat)) (.slice ua un uc) (.int .i64 (up.n : Int)) (.int .i64 (up.h : Int)) ∧ PAt W (r + 1) (.int .i64 0) (.int .u64 0) (.int .u64 0) (.int .u64 0) (.int .u64 0) (.slice none 0 0) (.int .i64 0) (.int .i64 0) ∧ RdAt w0 W q l (k + 1) o ∧ ReV T1 W up.t (.agg (cellsR uk uf ua un uc)) ∧ Kp (fun b => b = q) w W) ⟨hA4, hB4, hR4, hV4, hk4⟩ ?_
    clear hks hA4 hB4 hR4 hV4 hk4 c1 cw
    rintro W4 ⟨hA4, hB4, hR4, hV4, hk4⟩
    have HR4 := Hid_mk hR4
    have HV4 := Hid_mk hV4
    have HK4 := Hid_mk hk4
    obtain ⟨p0, p1, p2, p3, p4, p5, p6, p7, pw⟩ := hA4
    obtain ⟨r0, r1, r2, r3, r4, r5, r6, r7, rw'⟩ := hB4
    clear hR4 hV4 hk4
    go_wp2
    have hkz : Kp (fun b => b = r + 1) W4 (putP W4 (r + 1) (.int .i64 uk) (.int .u64 (wd uf 0 64 : Nat)) (.int .u64 (wd uf 64 64 : Nat)) (.int .u64 (wd uf 128 64 : Nat)) (.int .u64 (wd uf 192 64 : Nat)) (.slice ua un uc) (.int .i64 (up.n : Int)) (.int .i64 (up.h : Int))) := kp_putP (q := r + 1) (Kp.refl (fun b => b = r + 1) W4) (fun _ => rfl) _ _ _ _ _ _ _ _
    have hRz := HR4.out.kept hkz (by show ¬ q = r + 1; have := HQr.out; omega) (fun i e _ => by have h1 := HR4.out.ge; have h2 := HQr.out; show w0.heap.size ≤ i; have e : i = r + 1 := e; omega)
    have hVz := ReV.wider (fun b hb _ => HTt.out b hb) _ _ (ReV.kept hkz (fun b hb _ => (HTr.out b hb).2.1) _ _ HV4.out)
    have hkf := HK4.out.trans hkz (T := fun b => b = r + 1) fun i hi e => by have := HR.out; omega
    refine bodyPost_ret (v := .tuple #[.agg (cellsP uk uf ua un uc up.n up.h), .int .i64 0]) ?_ rfl ?_
    · simp [results, Try.results91, go_sem, cellsP, r0, r1, r2, r3, r4, r5, r6, r7]
    · rw [HR2.out]
      exact ⟨_, rfl, by rw [← HUp.out]; exact ⟨uk, uf, ua, un, uc, rfl, hVz⟩, hRz, hkf, Nat.lt_succ_self _, HKS.out⟩

end Go.Proofs.Ytaneblecgjahbab.ere

namespace Go.Proofs.Ytaneblecgjahbab.ere
open Go.RowKit Go.Proofs.Ytaneblecgjahbab.sum Go.Proofs.Ytaneblecgjahbab.kept Go.Proofs.Ytaneblecgjahbab.pop Go.Proofs.Ytaneblecgjahbab.cls Go.Proofs.Ytaneblecgjahbab.tre Go.Proofs.Ytaneblecgjahbab.str
set_option linter.unusedVariables false

theorem bs_nat (w : World) (b : Nat) (hb : b < 256) : Bs (w.alloc (.cells #[.int .u8 (b : Int)] 5)) (.slice (some ⟨w.heap.size, 0, none⟩) 1 1) [b.toUInt8] := by
  have h := bs_of1 w b.toUInt8
  rw [show (b.toUInt8).toNat = b from by simp; omega] at h
  exact h
/-- the part of one set -/
theorem set_abs (f : Nat → Bool) : absP (setT f) = ⟨setT f, 1, 1⟩ := by
  unfold setT
  rw [absP_fits (by unfold fitsB; simp [setsS, highS, highL])]
  simp [setsS, highS, highL]
theorem leaf_abs (k : Int) : absP (leafT k) = ⟨leafT k, 1, 1⟩ := by
  unfold leafT
  rw [absP_fits (by unfold fitsB; simp [setsS, highS, highL])]
  simp [setsS, highS, highL]
theorem set_val (T : Nat → Prop) (w : World) (f : Nat → Bool) : PtV T w (absP (setT f)) (.agg (cellsP 1 f none 0 0 1 1)) := by
  rw [set_abs]
  exact ⟨1, f, none, 0, 0, rfl, leaf_val T w 1 f 0 (by decide) none⟩
theorem leafk_val (T : Nat → Prop) (w : World) (k : Int) : PtV T w (absP (leafT k)) (.agg (cellsP k nul none 0 0 1 1)) := by
  rw [leaf_abs]
  exact ⟨k, nul, none, 0, 0, rfl, leaf_val T w k nul 0 (by decide) none⟩
/-- a backslash at a place -/
def escR (l : List UInt8) (k : Nat) : Rs :=
  if k + 1 = l.length then .bad 24 (k + 1)
  else if octN l (k + 1) = 0 then .ok (setT (ofL [(escS (atB l (k + 1))).toUInt8])) (k + 2)
  else .ok (setT (ofL [(octV l (k + 1) (octN l (k + 1))).toUInt8])) (k + 1 + octN l (k + 1))
theorem escS_lt (b : Nat) (h : b < 256) : escS b < 256 := by unfold escS; (repeat' split) <;> omega

set_option maxRecDepth 100000 in
set_option maxHeartbeats 4000000 in
theorem escape_any {w0 w : World} {q : Nat} {l : List UInt8} {k o : Nat} (h : RdAt w0 w q l k o) (hl : l.length < 4294967281) (hk : k < l.length) :
    Calls Try.prog 98 #[.pointer (some ⟨q, 0, none⟩)] w (RsPost (fun b => w.heap.size ≤ b) w0 w q l k o (escR l k)) := by
  obtain ⟨W0, hW0⟩ : ∃ W0, w.alloc (.cells #[.int .i64 0, .int .u64 0, .int .u64 0, .int .u64 0, .int .u64 0, .slice none 0 0, .int .i64 0, .int .i64 0] 102) = W0 := ⟨_, rfl⟩
  obtain ⟨r, hr⟩ : ∃ r, w.heap.size = r := ⟨_, rfl⟩
  have hK0 : Kp No w W0 := by rw [← hW0]; exact (Kp.refl No w).alloc _
  have hB : PAt W0 r (.int .i64 0) (.int .u64 0) (.int .u64 0) (.int .u64 0) (.int .u64 0) (.slice none 0 0) (.int .i64 0) (.int .i64 0) := by
    rw [← hW0, ← hr]
    exact PAt.new _ _ _ _ _ _ _ _ _ _
  have hR0 := h.no hK0
  have hqr : q < r := by have := h.lt; omega
  have hsz := st_size l
  have hki0 : (0 : Int) ≤ (k : Int) := Int.natCast_nonneg _
  have hwk : IntKind.i64.wrap ((k : Int) + 1) = ((k + 1 : Nat) : Int) := by rw [IntWalk.i64_in _ (by omega)]; push_cast; rfl
  have HKS := Hid_mk hk
  have HW0 := Hid_mk hW0
  have HR := Hid_mk hr
  have HQr := Hid_mk hqr
  obtain ⟨R, hRs⟩ : ∃ R, escR l k = R := ⟨_, rfl⟩
  rw [hRs]
  unfold escR at hRs
  have HRs := Hid_mk hRs
  have HB := Hid_mk hB
  have HR0 := Hid_mk hR0
  have HK0 := Hid_mk hK0
  have c1 := hR0.c1
  have cw := hR0.warm
  clear hW0 hr hK0 hB hR0 hk h hqr hRs
  go_enter Try.func98, Try.ntmps98
  go_upto_region 1 with fail
  rw [HR.out, HW0.out]
  clear HW0
  go_upto_region 2 with fail
  have hks : Kp (fun b => b = q) W0 (W0.setCell ⟨q, 1, none⟩ (.int .i64 ((k + 1 : Nat) : Int))) := (Kp.refl (fun b => b = q) W0).setCell (p := ⟨q, 1, none⟩) (fun _ => rfl) _
  refine wp_name (fun W => RdAt w0 W q l (k + 1) o ∧ Kp (fun b => b = q) W0 W) ⟨HR0.out.at' (k + 1), hks⟩ ?_
  clear hks c1 cw
  rintro W1 ⟨hR1, hk1⟩
  have HR1 := Hid_mk hR1
  have HK1 := Hid_mk ((HK0.out.to (S := fun b => b = q)).trans hk1 fun _ _ e => e)
  have HB1 := Hid_mk (HB.out.kept hk1 (by show ¬ r = q; have := HQr.out; omega))
  have c0 := hR1.c0
  have c1 := hR1.c1
  clear hR1 hk1 HB HR0 HK0
  have hk1i : ((k : Int) + 1) = ((k + 1 : Nat) : Int) := by push_cast; rfl
  by_cases he : k + 1 = l.length
  · rw [← he] at hsz
    have HR2 := Hid_mk (show R = .bad 24 (k + 1) from by rw [← HRs.out, if_pos he])
    have HE := Hid_mk he
    clear he HRs hk1i hl
    go_wp2
    go_quiet (fail)
    go_upto_region 3 with fail
    refine wp_name (fun W => Kp No W1 W) ((Kp.refl No W1).drewN _) ?_
    rintro W3 hk3
    have hB3 := HB1.out.kept hk3 id
    have HK3 := Hid_mk hk3
    obtain ⟨r0, r1, r2, r3, r4, r5, r6, r7, rw'⟩ := hB3
    clear hk3 c0 c1
    go_wp2
    have hkz : Kp (fun b => b = r) W3 (putP W3 r (.int .i64 0) (.int .u64 0) (.int .u64 0) (.int .u64 0) (.int .u64 0) (.slice none 0 0) (.int .i64 0) (.int .i64 0)) := kp_putP (q := r) (Kp.refl (fun b => b = r) W3) (fun _ => rfl) _ _ _ _ _ _ _ _
    have hRz := (HR1.out.no HK3.out).kept hkz (by show ¬ q = r; have := HQr.out; omega) (fun i e _ => by have h1 := HR1.out.ge; have h2 := HQr.out; show w0.heap.size ≤ i; have e : i = r := e; omega)
    have hkf := (HK1.out.trans HK3.out (T := No) fun _ _ e => e.elim).trans hkz (T := fun b => b = r) fun i hi e => by have := HR.out; omega
    refine bodyPost_ret (v := .tuple #[.agg #[.int .i64 0, .int .u64 0, .int .u64 0, .int .u64 0, .int .u64 0, .slice none 0 0, .int .i64 0, .int .i64 0], .int .i64 24]) ?_ rfl ?_
    · simp [results, Try.results98, go_sem, r0, r1, r2, r3, r4, r5, r6, r7]
    · rw [HR2.out]
      exact ⟨o, rfl, hRz, hkf, HKS.out, by decide⟩
  · have hei : ¬ (k : Int) + 1 = (l.length : Int) := by omega
    have heb : ((k : Int) + 1 == (l.length : Int)) = false := by rw [beq_eq_false_iff_ne]; exact hei
    rw [if_neg he] at HRs
    have HE := Hid_mk he
    have hki : (k : Int) + 1 < (l.length : Int) := by have := HKS.out; omega
    have hoc := fun W => octal_any W l (k + 1) HKS.out hl
    have hr3 := octN_room l (k + 1) HKS.out
    have hv3 := octV_lt l (k + 1) (octN l (k + 1))
    rw [← hk1i] at hoc
    clear he hk1i
    go_wp2
    go_quiet (fail)
    go_upto_region 4 with fail
    refine wp_name (fun W => Kp No W1 W) ((Kp.refl No W1).drewN _) ?_
    rintro W3 hk3
    have hR3 := HR1.out.no hk3
    have HR3 := Hid_mk hR3
    have HB3 := Hid_mk (HB1.out.kept hk3 id)
    have HK3 := Hid_mk (HK1.out.trans hk3 (T := No) fun _ _ e => e.elim)
    clear c0 c1 hk3 HR1 HB1 HK1
    have c0 := hR3.c0
    have c1 := hR3.c1
    have HOc := Hid_mk fun n => Calls.quiet_of_same (hoc (W3.drewN n))
    obtain ⟨n, hn⟩ : ∃ n, octN l (k + 1) = n := ⟨_, rfl⟩
    obtain ⟨V, hV⟩ : ∃ V, octV l (k + 1) n = V := ⟨_, rfl⟩
    rw [hn, hV] at HOc
    rw [hn, hV] at HRs hv3
    rw [hn] at hr3
    clear hR3 hn hV hoc
    go_wp2
    go_quiet ((go_at_call 111; exact HOc.out _))
    go_upto_region 5 with fail
    refine wp_name (fun W => Kp No W3 W) ((Kp.refl No W3).drewN _) ?_
    rintro W4 hk4
    have hR4 := HR3.out.no hk4
    have HR4 := Hid_mk hR4
    have HB4 := Hid_mk (HB3.out.kept hk4 id)
    have HK4 := Hid_mk (HK3.out.trans hk4 (T := No) fun _ _ e => e.elim)
    clear c0 c1 hk4 HR3 HB3 HK3 HOc
    have c0 := hR4.c0
    have c1 := hR4.c1
    have cw := hR4.warm
    clear hR4
    by_cases h0 : n = 0
    · subst h0
      obtain ⟨x, hx⟩ : ∃ x, atB l (k + 1) = x := ⟨_, rfl⟩
      have hx256 : x < 256 := by rw [← hx]; exact (l.getD (k + 1) 0).toNat_lt
      have hg : ∀ h : k + 1 < (st l).size, ((st l)[k + 1]).toNat = x := fun h => (st_get l (k + 1) h).trans hx
      have HR2 := Hid_mk (show R = .ok (setT (ofL [(escS x).toUInt8])) (k + 2) from by rw [← HRs.out, if_pos rfl, hx])
      have HEs := Hid_mk fun n => Calls.quiet_of_same (escaped_any (W4.drewN n) x hx256)
      have hes := escS_lt x hx256
      have hwk2 : IntKind.i64.wrap ((k : Int) + 1 + 1) = ((k + 2 : Nat) : Int) := by rw [IntWalk.i64_in _ (by omega)]; push_cast; rfl
      have hkn : (0 : Int) ≤ (k : Int) + 1 := by omega
      have hkn2 : ((k : Int) + 1).toNat = k + 1 := by omega
      generalize escS x = V' at HR2 HEs hes
      clear hx hx256 HRs
      go_wp2
      go_quiet ((go_at_call 112; exact HEs.out _))
      go_upto_region 7 with fail
      refine wp_name (fun W => Kp No W4 W) (by first | exact Kp.refl No W4 | exact (Kp.refl No W4).drewN _) ?_
      rintro W5 hk5
      have hR5 := HR4.out.no hk5
      have HR5 := Hid_mk hR5
      have HB5 := Hid_mk (HB4.out.kept hk5 id)
      have HK5 := Hid_mk (HK4.out.trans hk5 (T := No) fun _ _ e => e.elim)
      clear c0 c1 cw
      have c0 := hR5.c0
      have c1 := hR5.c1
      have cw := hR5.warm
      clear hR5 hk5
      go_upto_region 8 with fail
      have hks : Kp (fun b => b = q) W5 (W5.setCell ⟨q, 1, none⟩ (.int .i64 ((k + 2 : Nat) : Int))) := (Kp.refl (fun b => b = q) W5).setCell (p := ⟨q, 1, none⟩) (fun _ => rfl) _
      refine wp_name (fun W => RdAt w0 W q l (k + 2) o ∧ Kp (fun b => b = q) W5 W) ⟨HR5.out.at' (k + 2), hks⟩ ?_
      clear hks c0 c1 cw
      rintro W6 ⟨hR6, hk6⟩
      have HR6 := Hid_mk hR6
      have HK6 := Hid_mk (HK5.out.trans hk6 fun _ _ e => e)
      have HB6 := Hid_mk (HB5.out.kept hk6 (by show ¬ r = q; have := HQr.out; omega))
      clear hR6 hk6
      have hbs := bs_nat W6 V' hes
      have HBs := Hid_mk hbs
      clear hbs
      go_wp2_with fail
      with_reducible refine (of_any _ _ _ HBs.out).mono ?_
      rintro e W7 ⟨rfl, hk7⟩
      have HK7 := Hid_mk (((Kp.refl No W6).alloc _).trans' hk7)
      clear hk7 HBs
      go_wp2_with fail
      with_reducible refine (among_any _ _).mono ?_
      rintro e W8 ⟨rfl, hk8⟩
      have HK8 := Hid_mk (HK7.out.trans' hk8)
      have hB8 := HB6.out.kept HK8.out id
      obtain ⟨r0, r1, r2, r3, r4, r5, r6, r7, rw'⟩ := hB8
      clear hk8
      unfold cellsP
      go_wp2
      generalize hF : ofL [V'.toUInt8] = F at *
      have hkz : Kp (fun b => b = r) W8 (putP W8 r (.int .i64 1) (.int .u64 (wd F 0 64 : Nat)) (.int .u64 (wd F 64 64 : Nat)) (.int .u64 (wd F 128 64 : Nat)) (.int .u64 (wd F 192 64 : Nat)) (.slice none 0 0) (.int .i64 1) (.int .i64 1)) := kp_putP (q := r) (Kp.refl (fun b => b = r) W8) (fun _ => rfl) _ _ _ _ _ _ _ _
      have hRz := (HR6.out.no HK8.out).kept hkz (by show ¬ q = r; have := HQr.out; omega) (fun i e _ => by have h1 := HR6.out.ge; have h2 := HQr.out; show w0.heap.size ≤ i; have e : i = r := e; omega)
      have hkf := (HK6.out.trans HK8.out (T := No) fun _ _ e => e.elim).trans hkz (T := fun b => b = r) fun i hi e => by have := HR.out; omega
      refine bodyPost_ret (v := .tuple #[.agg (cellsP 1 F none 0 0 1 1), .int .i64 0]) ?_ rfl ?_
      · simp [results, Try.results98, go_sem, cellsP, r0, r1, r2, r3, r4, r5, r6, r7]
      · rw [HR2.out]
        exact ⟨_, rfl, set_val _ _ F, hRz, hkf, by omega, by have := HKS.out; have := HE.out; omega⟩
    · have hne : ¬ (k : Int) + 1 + (n : Int) = (k : Int) + 1 := by omega
      have hneb : ((k : Int) + 1 + (n : Int) == (k : Int) + 1) = false := by rw [beq_eq_false_iff_ne]; exact hne
      have HR2 := Hid_mk (show R = .ok (setT (ofL [V.toUInt8])) (k + 1 + n) from by rw [← HRs.out, if_neg h0])
      have H0 := Hid_mk h0
      clear h0 HRs
      go_upto_region 7 with fail
      refine wp_name (fun W => Kp No W4 W) (by first | exact Kp.refl No W4 | exact (Kp.refl No W4).drewN _) ?_
      rintro W5 hk5
      have hR5 := HR4.out.no hk5
      have HR5 := Hid_mk hR5
      have HB5 := Hid_mk (HB4.out.kept hk5 id)
      have HK5 := Hid_mk (HK4.out.trans hk5 (T := No) fun _ _ e => e.elim)
      clear c0 c1 cw
      have c0 := hR5.c0
      have c1 := hR5.c1
      have cw := hR5.warm
      clear hR5 hk5
      go_upto_region 8 with fail
      have hks : Kp (fun b => b = q) W5 (W5.setCell ⟨q, 1, none⟩ (.int .i64 ((k + 1 + n : Nat) : Int))) := (Kp.refl (fun b => b = q) W5).setCell (p := ⟨q, 1, none⟩) (fun _ => rfl) _
      refine wp_name (fun W => RdAt w0 W q l (k + 1 + n) o ∧ Kp (fun b => b = q) W5 W) ⟨HR5.out.at' (k + 1 + n), hks⟩ ?_
      clear hks c0 c1 cw
      rintro W6 ⟨hR6, hk6⟩
      have HR6 := Hid_mk hR6
      have HK6 := Hid_mk (HK5.out.trans hk6 fun _ _ e => e)
      have HB6 := Hid_mk (HB5.out.kept hk6 (by show ¬ r = q; have := HQr.out; omega))
      clear hR6 hk6
      have hbs := bs_nat W6 V hv3
      have HBs := Hid_mk hbs
      clear hbs
      go_wp2_with fail
      with_reducible refine (of_any _ _ _ HBs.out).mono ?_
      rintro e W7 ⟨rfl, hk7⟩
      have HK7 := Hid_mk (((Kp.refl No W6).alloc _).trans' hk7)
      clear hk7 HBs
      go_wp2_with fail
      with_reducible refine (among_any _ _).mono ?_
      rintro e W8 ⟨rfl, hk8⟩
      have HK8 := Hid_mk (HK7.out.trans' hk8)
      have hB8 := HB6.out.kept HK8.out id
      obtain ⟨r0, r1, r2, r3, r4, r5, r6, r7, rw'⟩ := hB8
      clear hk8
      unfold cellsP
      go_wp2
      generalize hF : ofL [V.toUInt8] = F at *
      have hkz : Kp (fun b => b = r) W8 (putP W8 r (.int .i64 1) (.int .u64 (wd F 0 64 : Nat)) (.int .u64 (wd F 64 64 : Nat)) (.int .u64 (wd F 128 64 : Nat)) (.int .u64 (wd F 192 64 : Nat)) (.slice none 0 0) (.int .i64 1) (.int .i64 1)) := kp_putP (q := r) (Kp.refl (fun b => b = r) W8) (fun _ => rfl) _ _ _ _ _ _ _ _
      have hRz := (HR6.out.no HK8.out).kept hkz (by show ¬ q = r; have := HQr.out; omega) (fun i e _ => by have h1 := HR6.out.ge; have h2 := HQr.out; show w0.heap.size ≤ i; have e : i = r := e; omega)
      have hkf := (HK6.out.trans HK8.out (T := No) fun _ _ e => e.elim).trans hkz (T := fun b => b = r) fun i hi e => by have := HR.out; omega
      refine bodyPost_ret (v := .tuple #[.agg (cellsP 1 F none 0 0 1 1), .int .i64 0]) ?_ rfl ?_
      · simp [results, Try.results98, go_sem, cellsP, r0, r1, r2, r3, r4, r5, r6, r7]
      · rw [HR2.out]
        exact ⟨_, rfl, set_val _ _ F, hRz, hkf, by omega, hr3⟩
end Go.Proofs.Ytaneblecgjahbab.ere
