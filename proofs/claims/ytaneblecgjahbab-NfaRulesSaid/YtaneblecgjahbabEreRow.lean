/- Package ere: a row of pieces; rows with bars between. -/
import Derived.Test.YtaneblecgjahbabEreSignM
import Derived.Test.YtaneblecgjahbabEreJoin

namespace Go.Proofs.Ytaneblecgjahbab.ere
open Go.RowKit Go.Proofs.Ytaneblecgjahbab.sum Go.Proofs.Ytaneblecgjahbab.kept Go.Proofs.Ytaneblecgjahbab.pop Go.Proofs.Ytaneblecgjahbab.cls Go.Proofs.Ytaneblecgjahbab.tre Go.Proofs.Ytaneblecgjahbab.str
set_option linter.unusedVariables false

section
variable (w0 : World) (q : Nat) (l : List UInt8) (bk : Nat → Option ((Nat → Bool) × Nat))
/-- what is asked of the reader's calls, so deep -/
def AltC (m : Nat) : Prop := ∀ (w : World) (k o : Nat), RdAt w0 w q l k o → k ≤ l.length → o ≤ 10 → 8 * (l.length - k) + 8 ≤ m →
  Calls Try.prog 47 #[.pointer (some ⟨q, 0, none⟩)] w (RsPost (fun b => w.heap.size ≤ b) w0 w q l k o ((altsF l bk m o k).join 3))
def RowC (m : Nat) : Prop := ∀ (w : World) (k o : Nat), RdAt w0 w q l k o → k ≤ l.length → o ≤ 10 → 8 * (l.length - k) + 7 ≤ m →
  Calls Try.prog 63 #[.pointer (some ⟨q, 0, none⟩)] w (RsPost (fun b => w.heap.size ≤ b) w0 w q l k o (rowF l bk m o k))
def PieceC (m : Nat) : Prop := ∀ (w : World) (k o : Nat), RdAt w0 w q l k o → k ≤ l.length → o ≤ 10 → 8 * (l.length - k) + 5 ≤ m →
  Calls Try.prog 82 #[.pointer (some ⟨q, 0, none⟩)] w (RsPost (fun b => w.heap.size ≤ b) w0 w q l k o (pieceF l bk m o k))
def AtomC (m : Nat) : Prop := ∀ (w : World) (k o : Nat), RdAt w0 w q l k o → k ≤ l.length → o ≤ 10 → 8 * (l.length - k) + 4 ≤ m →
  Calls Try.prog 90 #[.pointer (some ⟨q, 0, none⟩)] w (RsPost (fun b => w.heap.size ≤ b) w0 w q l k o (atomF l bk m o k))
end
/-- where a reader stands -/
def placeOf (w : World) (q : Nat) : Nat := match w.cell? ⟨q, 1, none⟩ with
  | some (.int _ i) => i.toNat
  | _ => 0
theorem place_is {w0 w : World} {q : Nat} {l : List UInt8} {k o : Nat} (h : RdAt w0 w q l k o) : placeOf w q = k := by
  unfold placeOf
  rw [h.c1]
  simp

/-- at the loop's head of row -/
def RwRel (w0 w : World) (q r : Nat) (l : List UInt8) (bk : Nat → Option ((Nat → Bool) × Nat)) (k0 o N : Nat) (wr : World) : Prop :=
  ∃ (k m : Nat) (ts : List Tr) (v : Value) (es : List El) (T : Nat → Prop), RdAt w0 wr q l k o ∧ LsAt T wr (r + 1) (r + 2) v es ts ∧ piecesF l bk N o k0 = (piecesF l bk m o k).ahead ts ∧ 8 * (l.length - k) + 6 ≤ m ∧ m ≤ N ∧ k0 ≤ k ∧ k ≤ l.length ∧ ts.length ≤ k ∧ PAt wr r (.int .i64 0) (.int .u64 0) (.int .u64 0) (.int .u64 0) (.int .u64 0) (.slice none 0 0) (.int .i64 0) (.int .i64 0) ∧ Kp (fun b => b = q) w wr

set_option maxRecDepth 100000 in
set_option maxHeartbeats 8000000 in
theorem pieces_any {w0 : World} {q : Nat} {l : List UInt8} {bk : Nat → Option ((Nat → Bool) × Nat)} (hl : l.length < 1000000000) (N : Nat) (ih : ∀ m, m < N → PieceC w0 q l bk m) (w : World) (k0 o : Nat) (h : RdAt w0 w q l k0 o) (hk0 : k0 ≤ l.length) (ho : o ≤ 10) (hN : 8 * (l.length - k0) + 6 ≤ N) :
    Calls Try.prog 63 #[.pointer (some ⟨q, 0, none⟩)] w (RsPost (fun b => w.heap.size ≤ b) w0 w q l k0 o ((piecesF l bk N o k0).join 2)) := by
  obtain ⟨W0, hW0⟩ : ∃ W0, (w.alloc (.cells #[.int .i64 0, .int .u64 0, .int .u64 0, .int .u64 0, .int .u64 0, .slice none 0 0, .int .i64 0, .int .i64 0] 102)).alloc (.cells #[.slice none 0 0, .int .i64 0] 135) = W0 := ⟨_, rfl⟩
  obtain ⟨r, hr⟩ : ∃ r, w.heap.size = r := ⟨_, rfl⟩
  have hK0 : Kp No w W0 := by rw [← hW0]; exact ((Kp.refl No w).alloc _).alloc _
  have hz : W0.heap.size = r + 2 := by rw [← hW0, ← hr]; simp
  have hB : PAt W0 r (.int .i64 0) (.int .u64 0) (.int .u64 0) (.int .u64 0) (.int .u64 0) (.slice none 0 0) (.int .i64 0) (.int .i64 0) := by
    rw [← hW0, ← hr]
    exact (PAt.new w _ _ _ _ _ _ _ _ _).kept ((Kp.refl No _).alloc _) id
  have hL : LsAt (fun _ => False) W0 (r + 1) (r + 2) (.slice none 0 0) [] [] := by
    have e : r + 1 = (w.alloc (.cells #[.int .i64 0, .int .u64 0, .int .u64 0, .int .u64 0, .int .u64 0, .slice none 0 0, .int .i64 0, .int .i64 0] 102)).heap.size := by rw [← hr]; simp
    have c0 : W0.cell? ⟨r + 1, 0, none⟩ = some (.slice none 0 0) := by rw [← hW0, e]; simp
    have c1 : W0.cell? ⟨r + 1, 1, none⟩ = some (.int .i64 0) := by rw [← hW0, e]; simp
    exact ⟨c0, c1, fun i => by rw [← hW0, e]; simp, ⟨by rw [hz]; omega, id, fun e => by cases e⟩, by rw [hz]; exact Nat.le_refl _, fun h => ⟨rfl, rfl⟩, fun _ => rfl, World.ownsRow_nil _ _ _ _, fun e he => (by cases he), fun g hg => (by cases hg), fun b hb => hb.elim⟩
  have hR0 := h.no hK0
  have hqr : q < r := by have := h.lt; omega
  have HW0 := Hid_mk hW0
  have HR := Hid_mk hr
  have HQr := Hid_mk hqr
  have HB := Hid_mk hB
  have HL := Hid_mk hL
  have HR0 := Hid_mk hR0
  have HK0 := Hid_mk hK0
  have HIh := Hid_mk ih
  have HN := Hid_mk hN
  have HO := Hid_mk ho
  have HKl := Hid_mk hk0
  have HLn := Hid_mk hl
  have HSt := Hid_mk (st_size l)
  obtain ⟨R, hRs⟩ : ∃ R, (piecesF l bk N o k0).join 2 = R := ⟨_, rfl⟩
  rw [hRs]
  have HRs := Hid_mk hRs
  clear hW0 hr hK0 hB hL hR0 hqr h ih hN ho hk0 hl hz hRs
  go_enter Try.func63, Try.ntmps63
  go_wp2_with fail
  rw [HR.out, HW0.out]
  clear HW0
  go_loopw [3] (fun _ wr => RwRel w0 w q r l bk k0 o N wr) (fun _ wr => l.length - placeOf wr q)
  case atStart => exact ⟨k0, N, [], _, [], _, HR0.out, HL.out, (Ls.ahead_nil _).symm, HN.out, Nat.le_refl _, Nat.le_refl _, HKl.out, Nat.zero_le _, HB.out, HK0.out.to⟩
  case round =>
    obtain ⟨k, m, ts, v, es, T, hR, hLs, hF, hm, hmN, hkk, hkl, hts, hP, hkp⟩ := hrel
    obtain ⟨m', rfl⟩ : ∃ m', m = m' + 1 := ⟨m - 1, by omega⟩
    have hpc := HIh.out m' (by omega) wr k o hR hkl HO.out (by omega)
    have HLs := Hid_mk hLs
    have HF := Hid_mk hF
    have HM := Hid_mk hm
    have HMN := Hid_mk hmN
    have HKK := Hid_mk hkk
    have HTs := Hid_mk hts
    have HP := Hid_mk hP
    have HKp := Hid_mk hkp
    have HKl2 := Hid_mk hkl
    have HPl := Hid_mk (place_is hR)
    clear hLs hF hm hmN hkk hts hP hkp hkl hR
    rcases hpf : pieceF l bk m' o k with ⟨t, k2⟩ | ⟨c, k2⟩
    · have hpc2 : Calls Try.prog 82 #[.pointer (some ⟨q, 0, none⟩)] wr fun e w' => ∃ xk xf xa xn xc xp, e = .returned (.tuple #[.agg (cellsP xk xf xa xn xc (Pt.n xp) (Pt.h xp)), .int .i64 0]) ∧ xp = absP t ∧ ReV (fun b => wr.heap.size ≤ b) w' xp.t (.agg (cellsR xk xf xa xn xc)) ∧ RdAt w0 w' q l k2 o ∧ Kp (fun b => b = q) wr w' ∧ k < k2 ∧ k2 ≤ l.length := by
        rw [hpf] at hpc
        refine hpc.mono ?_
        rintro e w' ⟨_, rfl, ⟨xk, xf, xa, xn, xc, rfl, hv⟩, h1, h2, h3, h4⟩
        exact ⟨xk, xf, xa, xn, xc, _, rfl, rfl, hv, h1, h2, h3, h4⟩
      unfold cellsP at hpc2
      have HPc := Hid_mk hpc2
      have HPf := Hid_mk hpf
      clear hpc hpc2 hpf
      go_wp2_with fail
      with_reducible refine HPc.out.mono ?_
      rintro e w1 ⟨xk, xf, xa, xn, xc, xp, rfl, hxp, hxv, hR1, hk1, hk2, hk3⟩
      have HXp := Hid_mk hxp
      have HXv := Hid_mk hxv
      have HR1 := Hid_mk hR1
      have HK1 := Hid_mk hk1
      have HK2 := Hid_mk hk2
      have HK3 := Hid_mk hk3
      clear hxp hxv hR1 hk1 hk2 hk3 HPc
      go_upto_region 5 with fail
      obtain ⟨g, hg⟩ : ∃ g, w1.heap.size = g := ⟨_, rfl⟩
      rw [hg]
      have hp5 : PAt (w1.alloc (.cells #[.int .i64 xk, .int .u64 (wd xf 0 64 : Nat), .int .u64 (wd xf 64 64 : Nat), .int .u64 (wd xf 128 64 : Nat), .int .u64 (wd xf 192 64 : Nat), .slice xa xn xc, .int .i64 (xp.n : Int), .int .i64 (xp.h : Int)] 102)) g (.int .i64 xk) (.int .u64 (wd xf 0 64 : Nat)) (.int .u64 (wd xf 64 64 : Nat)) (.int .u64 (wd xf 128 64 : Nat)) (.int .u64 (wd xf 192 64 : Nat)) (.slice xa xn xc) (.int .i64 (xp.n : Int)) (.int .i64 (xp.h : Int)) := by
        rw [← hg]
        exact PAt.new _ _ _ _ _ _ _ _ _ _
      have hk5 : Kp No w1 (w1.alloc (.cells #[.int .i64 xk, .int .u64 (wd xf 0 64 : Nat), .int .u64 (wd xf 64 64 : Nat), .int .u64 (wd xf 128 64 : Nat), .int .u64 (wd xf 192 64 : Nat), .slice xa xn xc, .int .i64 (xp.n : Int), .int .i64 (xp.h : Int)] 102)) := (Kp.refl No w1).alloc _
      refine wp_name (fun W => PAt W g (.int .i64 xk) (.int .u64 (wd xf 0 64 : Nat)) (.int .u64 (wd xf 64 64 : Nat)) (.int .u64 (wd xf 128 64 : Nat)) (.int .u64 (wd xf 192 64 : Nat)) (.slice xa xn xc) (.int .i64 (xp.n : Int)) (.int .i64 (xp.h : Int)) ∧ Kp No w1 W) ⟨hp5, hk5⟩ ?_
      clear hp5 hk5
      rintro W5 ⟨hp5, hk5⟩
      have HK5 := Hid_mk hk5
      have hb6 := HLs.out.le
      have hsz1 := HK1.out.size
      have hwr : r ≤ wr.heap.size := by have := HKp.out.size; have := HR.out; omega
      obtain ⟨T1, hT1⟩ : ∃ T1 : Nat → Prop, (fun b => T b ∨ (wr.heap.size ≤ b ∧ b < w1.heap.size)) = T1 := ⟨_, rfl⟩
      have hT1i : ∀ b, T1 b → r + 2 ≤ b ∧ b < w1.heap.size := by
        rw [← hT1]
        rintro b (hb | hb)
        · have := HLs.out.inn b hb
          omega
        · omega
      have hL5 : LsAt T1 W5 (r + 1) (r + 2) v es ts := by
        have hqn : ¬ (r + 1 = q) := by have := HQr.out; omega
        refine (HLs.out.kept (T' := T1) HK1.out hqn (fun g hg1 hg2 e => by have := HQr.out; omega) (fun b hb => by rw [← hT1]; exact .inl hb) (fun g hg hb => ?_) hT1i (fun h => by have := (hT1i _ h).1; omega)).no hk5
        have h1 := HLs.out.row.lt g hg
        rw [← hT1] at hb
        rcases hb with hb | hb
        · exact HLs.out.out g hg hb
        · omega
      have hxT : PtV T1 W5 (absP t) (.agg (cellsP xk xf xa xn xc xp.n xp.h)) := by
        rw [← HXp.out]
        exact ⟨xk, xf, xa, xn, xc, rfl, ReV.no hk5 _ _ (ReV.wider (fun b hb hlt => by rw [← hT1]; exact .inr ⟨hb, hlt⟩) _ _ HXv.out)⟩
      have hadd : Calls Try.prog 64 #[.pointer (some ⟨r + 1, 0, none⟩), .agg (cellsP xk xf xa xn xc xp.n xp.h)] W5 fun e w' => e = .returned (.tuple #[]) ∧ Hid ((∃ v' es', LsAt T1 w' (r + 1) (r + 2) v' es' (ts ++ [t])) ∧ Kp (fun b => b = r + 1 ∨ (r + 2 ≤ b ∧ ¬ T1 b)) W5 w') := by
        refine (add_any T1 W5 (r + 1) (r + 2) v es ts hL5 t _ hxT (by have := HTs.out; have := HKl2.out; have := HLn.out; omega)).mono ?_
        rintro e w' ⟨rfl, h1, h2⟩
        exact ⟨rfl, Hid_mk ⟨h1, h2⟩⟩
      unfold cellsP at hadd
      have HAdd := Hid_mk hadd
      have HT1i := Hid_mk hT1i
      obtain ⟨p0, p1, p2, p3, p4, p5, p6, p7, pw⟩ := hp5
      clear hadd hL5 hxT hT1i hT1 hk5 hb6 hsz1 hwr
      go_wp2_with fail
      with_reducible refine HAdd.out.mono ?_
      rintro e W6 ⟨rfl, h6⟩
      obtain ⟨v6, es6, hL6⟩ := h6.out.1
      have hk6 := h6.out.2
      have hR6 : RdAt w0 W6 q l k2 o := (HR1.out.no HK5.out).kept hk6 (by have := HQr.out; show ¬ (q = r + 1 ∨ _); omega) (fun i e _ => by have h1 := HR1.out.ge; have h2 := HQr.out; show w0.heap.size ≤ i; have e : i = r + 1 ∨ (r + 2 ≤ i ∧ ¬ T1 i) := e; omega)
      have hP6 := ((HP.out.kept HK1.out (by show ¬ r = q; have := HQr.out; omega)).kept HK5.out id).kept hk6 (by show ¬ (r = r + 1 ∨ _); omega)
      have hkw6 : Kp (fun b => b = q) w W6 := (((HKp.out.trans HK1.out fun _ _ e => e).trans HK5.out (T := No) fun _ _ e => e.elim).trans hk6 fun i hi e => by have h2 := HR.out; have e : i = r + 1 ∨ (r + 2 ≤ i ∧ ¬ T1 i) := e; omega)
      have HR6 := Hid_mk hR6
      have HP6 := Hid_mk hP6
      have HK6 := Hid_mk hkw6
      have HL6 := Hid_mk hL6
      have c0 := hR6.c0
      have c1 := hR6.c1
      have cw := hR6.warm
      clear h6 hL6 hk6 hR6 hP6 hkw6 p0 p1 p2 p3 p4 p5 p6 p7 pw HAdd
      by_cases hend : k2 = l.length
      · have hszk : (st l).size = k2 := by rw [HSt.out, hend]
        have HE : Hid (k2 = l.length ∨ seesB l k2 [124, 41] = true) := Hid_mk (.inl hend)
        have HR2 := Hid_mk (show R = .ok (joinT 2 (ts ++ [t])) k2 from by rw [← HRs.out, HF.out, piecesF, HPf.out]; simp only; rw [if_pos HE.out]; rfl)
        clear hend
        go_wp2
        go_quiet (fail)
        go_upto_region 7 with fail
        refine wp_name (fun W => Kp No W6 W) (by first | exact Kp.refl No W6 | exact (Kp.refl No W6).drewN _) ?_
        clear c0 c1 cw
        rintro W7 hk7
        have hj := joined_any T1 W7 (r + 1) (r + 2) v6 es6 (ts ++ [t]) 2 (by decide) (HL6.out.no hk7) (by simp) (by have := HTs.out; have := HKl2.out; have := HLn.out; simp; omega)
        have hj2 : Calls Try.prog 66 #[.pointer (some ⟨r + 1, 0, none⟩), .int .i64 2] W7 fun e w' => ∃ uk uf ua un uc up, e = .returned (.agg (cellsP uk uf ua un uc (Pt.n up) (Pt.h up))) ∧ up = absP (joinT 2 (ts ++ [t])) ∧ ReV (fun b => T1 b ∨ W7.heap.size ≤ b) w' up.t (.agg (cellsR uk uf ua un uc)) ∧ Kp No W7 w' := by
          refine hj.mono ?_
          rintro e w' ⟨_, rfl, ⟨uk, uf, ua, un, uc, rfl, hv⟩, h2⟩
          exact ⟨uk, uf, ua, un, uc, _, rfl, rfl, hv, h2⟩
        unfold cellsP at hj2
        have HJ := Hid_mk hj2
        have HSz7 := Hid_mk (HL6.out.no hk7).le
        have HR7 := Hid_mk (HR6.out.no hk7)
        have HP7 := Hid_mk (HP6.out.kept hk7 id)
        have HK7 := Hid_mk (HK6.out.trans hk7 (T := No) fun _ _ e => e.elim)
        clear hj hj2 hk7
        go_wp2_with fail
        with_reducible refine HJ.out.mono ?_
        rintro e W8 ⟨uk, uf, ua, un, uc, up, rfl, hup, huo, hk8⟩
        have HUp := Hid_mk hup
        have HUo := Hid_mk huo
        have HK8 := Hid_mk hk8
        have hP8 := HP7.out.kept hk8 id
        obtain ⟨r0, r1, r2, r3, r4, r5, r6, r7, rw'⟩ := hP8
        clear hup huo hk8 HJ
        go_wp2
        have hkz : Kp (fun b => b = r) W8 (putP W8 r (.int .i64 uk) (.int .u64 (wd uf 0 64 : Nat)) (.int .u64 (wd uf 64 64 : Nat)) (.int .u64 (wd uf 128 64 : Nat)) (.int .u64 (wd uf 192 64 : Nat)) (.slice ua un uc) (.int .i64 (up.n : Int)) (.int .i64 (up.h : Int))) := kp_putP (q := r) (Kp.refl (fun b => b = r) W8) (fun _ => rfl) _ _ _ _ _ _ _ _
        have hRz := (HR7.out.no HK8.out).kept hkz (by show ¬ q = r; have := HQr.out; omega) (fun i e _ => by have h1 := HR7.out.ge; have h2 := HQr.out; show w0.heap.size ≤ i; have e : i = r := e; omega)
        have hkf := (HK7.out.trans HK8.out (T := No) fun _ _ e => e.elim).trans hkz (T := fun b => b = r) fun i hi e => by have := HR.out; omega
        have hwz : r + 2 ≤ W7.heap.size := HSz7.out
        have hTb : ∀ b, (T1 b ∨ W7.heap.size ≤ b) → w.heap.size ≤ b ∧ ¬ b = r := by
          intro b hb
          have h1 := HR.out
          rcases hb with hb | hb
          · have := HT1i.out b hb
            omega
          · omega
        have hVz := ReV.wider (T' := fun b => w.heap.size ≤ b) (fun b hb _ => (hTb b hb).1) _ _ (ReV.kept hkz (fun b hb _ => (hTb b hb).2) _ _ HUo.out)
        refine bodyPost_ret (v := .tuple #[.agg (cellsP uk uf ua un uc up.n up.h), .int .i64 0]) ?_ rfl ?_
        · simp [results, Try.results63, go_sem, cellsP, r0, r1, r2, r3, r4, r5, r6, r7]
        · rw [HR2.out]
          exact ⟨_, rfl, by rw [← HUp.out]; exact ⟨uk, uf, ua, un, uc, rfl, hVz⟩, hRz, hkf, by have := HK2.out; have := HKK.out; omega, HK3.out⟩
      · have hszk := HSt.out
        have hlt : k2 < l.length := by have := HK3.out; omega
        have heq : ((k2 : Int) == (l.length : Int)) = false := by rw [beq_eq_false_iff_ne]; omega
        have hse := fun n => Calls.quiet_of (sees_any (HR6.out.no ((Kp.refl No W6).drewN n)) (by have := HLn.out; omega) HK3.out ⟨#[124, 41]⟩ [124, 41] rfl)
        rcases hb : seesB l k2 [124, 41] with _ | _
        · rw [hb] at hse
          have HSe := Hid_mk hse
          have HE : Hid (piecesF l bk N o k0 = (piecesF l bk m' o k2).ahead (ts ++ [t])) := Hid_mk (by rw [HF.out, piecesF, HPf.out]; simp only; rw [if_neg (by rw [hb]; rintro (e | e); exact hend e; cases e)]; exact Ls.ahead_ahead ts [t] _)
          clear hse hb hlt
          go_wp2
          go_quiet ((go_at_call 65; exact HSe.out _))
          go_wp2
          go_roundw
          case rel => exact ⟨k2, m', ts ++ [t], v6, es6, T1, HR6.out.no ((Kp.refl No W6).drewN _), HL6.out.no ((Kp.refl No W6).drewN _), HE.out, by have := HM.out; have := HK2.out; have := HK3.out; omega, by have := HMN.out; omega, by have := HKK.out; have := HK2.out; omega, HK3.out, by have := HTs.out; have := HK2.out; simp; omega, HP6.out.kept ((Kp.refl No W6).drewN _) id, HK6.out.drewN _⟩
          case measure => rw [place_is (HR6.out.no ((Kp.refl No W6).drewN _)), HPl.out]; have := HK2.out; have := HK3.out; omega
        · rw [hb] at hse
          have HSe := Hid_mk hse
          have HE : Hid (k2 = l.length ∨ seesB l k2 [124, 41] = true) := Hid_mk (.inr hb)
          have HR2 := Hid_mk (show R = .ok (joinT 2 (ts ++ [t])) k2 from by rw [← HRs.out, HF.out, piecesF, HPf.out]; simp only; rw [if_pos HE.out]; rfl)
          clear hse hb hlt
          go_wp2
          go_quiet ((go_at_call 65; exact HSe.out _))
          go_upto_region 7 with fail
          refine wp_name (fun W => Kp No W6 W) (by first | exact Kp.refl No W6 | exact (Kp.refl No W6).drewN _) ?_
          clear c0 c1 cw
          rintro W7 hk7
          have hj := joined_any T1 W7 (r + 1) (r + 2) v6 es6 (ts ++ [t]) 2 (by decide) (HL6.out.no hk7) (by simp) (by have := HTs.out; have := HKl2.out; have := HLn.out; simp; omega)
          have hj2 : Calls Try.prog 66 #[.pointer (some ⟨r + 1, 0, none⟩), .int .i64 2] W7 fun e w' => ∃ uk uf ua un uc up, e = .returned (.agg (cellsP uk uf ua un uc (Pt.n up) (Pt.h up))) ∧ up = absP (joinT 2 (ts ++ [t])) ∧ ReV (fun b => T1 b ∨ W7.heap.size ≤ b) w' up.t (.agg (cellsR uk uf ua un uc)) ∧ Kp No W7 w' := by
            refine hj.mono ?_
            rintro e w' ⟨_, rfl, ⟨uk, uf, ua, un, uc, rfl, hv⟩, h2⟩
            exact ⟨uk, uf, ua, un, uc, _, rfl, rfl, hv, h2⟩
          unfold cellsP at hj2
          have HJ := Hid_mk hj2
          have HSz7 := Hid_mk (HL6.out.no hk7).le
          have HR7 := Hid_mk (HR6.out.no hk7)
          have HP7 := Hid_mk (HP6.out.kept hk7 id)
          have HK7 := Hid_mk (HK6.out.trans hk7 (T := No) fun _ _ e => e.elim)
          clear hj hj2 hk7
          go_wp2_with fail
          with_reducible refine HJ.out.mono ?_
          rintro e W8 ⟨uk, uf, ua, un, uc, up, rfl, hup, huo, hk8⟩
          have HUp := Hid_mk hup
          have HUo := Hid_mk huo
          have HK8 := Hid_mk hk8
          have hP8 := HP7.out.kept hk8 id
          obtain ⟨r0, r1, r2, r3, r4, r5, r6, r7, rw'⟩ := hP8
          clear hup huo hk8 HJ
          go_wp2
          have hkz : Kp (fun b => b = r) W8 (putP W8 r (.int .i64 uk) (.int .u64 (wd uf 0 64 : Nat)) (.int .u64 (wd uf 64 64 : Nat)) (.int .u64 (wd uf 128 64 : Nat)) (.int .u64 (wd uf 192 64 : Nat)) (.slice ua un uc) (.int .i64 (up.n : Int)) (.int .i64 (up.h : Int))) := kp_putP (q := r) (Kp.refl (fun b => b = r) W8) (fun _ => rfl) _ _ _ _ _ _ _ _
          have hRz := (HR7.out.no HK8.out).kept hkz (by show ¬ q = r; have := HQr.out; omega) (fun i e _ => by have h1 := HR7.out.ge; have h2 := HQr.out; show w0.heap.size ≤ i; have e : i = r := e; omega)
          have hkf := (HK7.out.trans HK8.out (T := No) fun _ _ e => e.elim).trans hkz (T := fun b => b = r) fun i hi e => by have := HR.out; omega
          have hwz : r + 2 ≤ W7.heap.size := HSz7.out
          have hTb : ∀ b, (T1 b ∨ W7.heap.size ≤ b) → w.heap.size ≤ b ∧ ¬ b = r := by
            intro b hb
            have h1 := HR.out
            rcases hb with hb | hb
            · have := HT1i.out b hb
              omega
            · omega
          have hVz := ReV.wider (T' := fun b => w.heap.size ≤ b) (fun b hb _ => (hTb b hb).1) _ _ (ReV.kept hkz (fun b hb _ => (hTb b hb).2) _ _ HUo.out)
          refine bodyPost_ret (v := .tuple #[.agg (cellsP uk uf ua un uc up.n up.h), .int .i64 0]) ?_ rfl ?_
          · simp [results, Try.results63, go_sem, cellsP, r0, r1, r2, r3, r4, r5, r6, r7]
          · rw [HR2.out]
            exact ⟨_, rfl, by rw [← HUp.out]; exact ⟨uk, uf, ua, un, uc, rfl, hVz⟩, hRz, hkf, by have := HK2.out; have := HKK.out; omega, HK3.out⟩
    · have hpc2 : Calls Try.prog 82 #[.pointer (some ⟨q, 0, none⟩)] wr fun e w' => ∃ o', e = .returned (.tuple #[.agg #[.int .i64 0, .int .u64 0, .int .u64 0, .int .u64 0, .int .u64 0, .slice none 0 0, .int .i64 0, .int .i64 0], .int .i64 (c : Int)]) ∧ RdAt w0 w' q l k2 o' ∧ Kp (fun b => b = q) wr w' ∧ k2 ≤ l.length ∧ 0 < c := by
        rw [hpf] at hpc
        exact hpc
      have HR2 := Hid_mk (show R = .bad c k2 from by rw [← HRs.out, HF.out, piecesF, hpf]; rfl)
      have HPc := Hid_mk hpc2
      clear hpc hpc2 hpf
      go_wp2_with fail
      with_reducible refine HPc.out.mono ?_
      rintro e w1 ⟨o', rfl, hR1, hk1, hk2, hc⟩
      have hcn : ((c : Int) != 0) = true := by simp; omega
      have hP1 := HP.out.kept hk1 (by show ¬ r = q; have := HQr.out; omega)
      have HR1 := Hid_mk hR1
      have HK1 := Hid_mk (HKp.out.trans hk1 fun _ _ e => e)
      have HK2 := Hid_mk hk2
      have HC := Hid_mk hc
      have HP1 := Hid_mk hP1
      clear hR1 hk1 hk2 hc hP1 HPc
      go_upto_region 4 with fail
      refine wp_name (fun W => Kp No w1 W) ((Kp.refl No w1).alloc _) ?_
      rintro W4 hk4
      have hP4 := HP1.out.kept hk4 id
      have HK4 := Hid_mk hk4
      obtain ⟨r0, r1, r2, r3, r4, r5, r6, r7, rw'⟩ := hP4
      clear hk4
      go_wp2
      have hkz : Kp (fun b => b = r) W4 (putP W4 r (.int .i64 0) (.int .u64 0) (.int .u64 0) (.int .u64 0) (.int .u64 0) (.slice none 0 0) (.int .i64 0) (.int .i64 0)) := kp_putP (q := r) (Kp.refl (fun b => b = r) W4) (fun _ => rfl) _ _ _ _ _ _ _ _
      have hRz := (HR1.out.no HK4.out).kept hkz (by show ¬ q = r; have := HQr.out; omega) (fun i e _ => by have h1 := HR1.out.ge; have h2 := HQr.out; show w0.heap.size ≤ i; have e : i = r := e; omega)
      have hkf := (HK1.out.trans HK4.out (T := No) fun _ _ e => e.elim).trans hkz (T := fun b => b = r) fun i hi e => by have := HR.out; omega
      refine bodyPost_ret (v := .tuple #[.agg #[.int .i64 0, .int .u64 0, .int .u64 0, .int .u64 0, .int .u64 0, .slice none 0 0, .int .i64 0, .int .i64 0], .int .i64 (c : Int)]) ?_ rfl ?_
      · simp [results, Try.results63, go_sem, r0, r1, r2, r3, r4, r5, r6, r7]
      · rw [HR2.out]
        exact ⟨o', rfl, hRz, hkf, HK2.out, HC.out⟩

/-- at the loop's head of alternation -/
def AlRel (w0 w : World) (q r : Nat) (l : List UInt8) (bk : Nat → Option ((Nat → Bool) × Nat)) (k0 o N : Nat) (wr : World) : Prop :=
  ∃ (k m : Nat) (ts : List Tr) (v : Value) (es : List El) (T : Nat → Prop), RdAt w0 wr q l k o ∧ LsAt T wr (r + 1) (r + 2) v es ts ∧ altsF l bk N o k0 = (altsF l bk m o k).ahead ts ∧ 8 * (l.length - k) + 8 ≤ m ∧ m ≤ N ∧ k0 ≤ k ∧ k ≤ l.length ∧ ts.length ≤ k ∧ PAt wr r (.int .i64 0) (.int .u64 0) (.int .u64 0) (.int .u64 0) (.int .u64 0) (.slice none 0 0) (.int .i64 0) (.int .i64 0) ∧ Kp (fun b => b = q) w wr

set_option maxRecDepth 100000 in
set_option maxHeartbeats 8000000 in
theorem alts_any {w0 : World} {q : Nat} {l : List UInt8} {bk : Nat → Option ((Nat → Bool) × Nat)} (hl : l.length < 1000000000) (N : Nat) (ih : ∀ m, m < N → RowC w0 q l bk m) (w : World) (k0 o : Nat) (h : RdAt w0 w q l k0 o) (hk0 : k0 ≤ l.length) (ho : o ≤ 10) (hN : 8 * (l.length - k0) + 8 ≤ N) :
    Calls Try.prog 47 #[.pointer (some ⟨q, 0, none⟩)] w (RsPost (fun b => w.heap.size ≤ b) w0 w q l k0 o ((altsF l bk N o k0).join 3)) := by
  obtain ⟨W0, hW0⟩ : ∃ W0, (w.alloc (.cells #[.int .i64 0, .int .u64 0, .int .u64 0, .int .u64 0, .int .u64 0, .slice none 0 0, .int .i64 0, .int .i64 0] 102)).alloc (.cells #[.slice none 0 0, .int .i64 0] 135) = W0 := ⟨_, rfl⟩
  obtain ⟨r, hr⟩ : ∃ r, w.heap.size = r := ⟨_, rfl⟩
  have hK0 : Kp No w W0 := by rw [← hW0]; exact ((Kp.refl No w).alloc _).alloc _
  have hz : W0.heap.size = r + 2 := by rw [← hW0, ← hr]; simp
  have hB : PAt W0 r (.int .i64 0) (.int .u64 0) (.int .u64 0) (.int .u64 0) (.int .u64 0) (.slice none 0 0) (.int .i64 0) (.int .i64 0) := by
    rw [← hW0, ← hr]
    exact (PAt.new w _ _ _ _ _ _ _ _ _).kept ((Kp.refl No _).alloc _) id
  have hL : LsAt (fun _ => False) W0 (r + 1) (r + 2) (.slice none 0 0) [] [] := by
    have e : r + 1 = (w.alloc (.cells #[.int .i64 0, .int .u64 0, .int .u64 0, .int .u64 0, .int .u64 0, .slice none 0 0, .int .i64 0, .int .i64 0] 102)).heap.size := by rw [← hr]; simp
    have c0 : W0.cell? ⟨r + 1, 0, none⟩ = some (.slice none 0 0) := by rw [← hW0, e]; simp
    have c1 : W0.cell? ⟨r + 1, 1, none⟩ = some (.int .i64 0) := by rw [← hW0, e]; simp
    exact ⟨c0, c1, fun i => by rw [← hW0, e]; simp, ⟨by rw [hz]; omega, id, fun e => by cases e⟩, by rw [hz]; exact Nat.le_refl _, fun h => ⟨rfl, rfl⟩, fun _ => rfl, World.ownsRow_nil _ _ _ _, fun e he => (by cases he), fun g hg => (by cases hg), fun b hb => hb.elim⟩
  have hR0 := h.no hK0
  have hqr : q < r := by have := h.lt; omega
  have HW0 := Hid_mk hW0
  have HR := Hid_mk hr
  have HQr := Hid_mk hqr
  have HB := Hid_mk hB
  have HL := Hid_mk hL
  have HR0 := Hid_mk hR0
  have HK0 := Hid_mk hK0
  have HIh := Hid_mk ih
  have HN := Hid_mk hN
  have HO := Hid_mk ho
  have HKl := Hid_mk hk0
  have HLn := Hid_mk hl
  have HSt := Hid_mk (st_size l)
  obtain ⟨R, hRs⟩ : ∃ R, (altsF l bk N o k0).join 3 = R := ⟨_, rfl⟩
  rw [hRs]
  have HRs := Hid_mk hRs
  clear hW0 hr hK0 hB hL hR0 hqr h ih hN ho hk0 hl hz hRs
  go_enter Try.func47, Try.ntmps47
  go_wp2_with fail
  rw [HR.out, HW0.out]
  clear HW0
  go_loopw [3] (fun _ wr => AlRel w0 w q r l bk k0 o N wr) (fun _ wr => l.length - placeOf wr q)
  case atStart => exact ⟨k0, N, [], _, [], _, HR0.out, HL.out, (Ls.ahead_nil _).symm, HN.out, Nat.le_refl _, Nat.le_refl _, HKl.out, Nat.zero_le _, HB.out, HK0.out.to⟩
  case round =>
    obtain ⟨k, m, ts, v, es, T, hR, hLs, hF, hm, hmN, hkk, hkl, hts, hP, hkp⟩ := hrel
    obtain ⟨m', rfl⟩ : ∃ m', m = m' + 1 := ⟨m - 1, by omega⟩
    have hpc := HIh.out m' (by omega) wr k o hR hkl HO.out (by omega)
    have HLs := Hid_mk hLs
    have HF := Hid_mk hF
    have HM := Hid_mk hm
    have HMN := Hid_mk hmN
    have HKK := Hid_mk hkk
    have HTs := Hid_mk hts
    have HP := Hid_mk hP
    have HKp := Hid_mk hkp
    have HKl2 := Hid_mk hkl
    have HPl := Hid_mk (place_is hR)
    clear hLs hF hm hmN hkk hts hP hkp hkl hR
    rcases hpf : rowF l bk m' o k with ⟨t, k2⟩ | ⟨c, k2⟩
    · have hpc2 : Calls Try.prog 63 #[.pointer (some ⟨q, 0, none⟩)] wr fun e w' => ∃ xk xf xa xn xc xp, e = .returned (.tuple #[.agg (cellsP xk xf xa xn xc (Pt.n xp) (Pt.h xp)), .int .i64 0]) ∧ xp = absP t ∧ ReV (fun b => wr.heap.size ≤ b) w' xp.t (.agg (cellsR xk xf xa xn xc)) ∧ RdAt w0 w' q l k2 o ∧ Kp (fun b => b = q) wr w' ∧ k < k2 ∧ k2 ≤ l.length := by
        rw [hpf] at hpc
        refine hpc.mono ?_
        rintro e w' ⟨_, rfl, ⟨xk, xf, xa, xn, xc, rfl, hv⟩, h1, h2, h3, h4⟩
        exact ⟨xk, xf, xa, xn, xc, _, rfl, rfl, hv, h1, h2, h3, h4⟩
      unfold cellsP at hpc2
      have HPc := Hid_mk hpc2
      have HPf := Hid_mk hpf
      clear hpc hpc2 hpf
      go_wp2_with fail
      with_reducible refine HPc.out.mono ?_
      rintro e w1 ⟨xk, xf, xa, xn, xc, xp, rfl, hxp, hxv, hR1, hk1, hk2, hk3⟩
      have HXp := Hid_mk hxp
      have HXv := Hid_mk hxv
      have HR1 := Hid_mk hR1
      have HK1 := Hid_mk hk1
      have HK2 := Hid_mk hk2
      have HK3 := Hid_mk hk3
      clear hxp hxv hR1 hk1 hk2 hk3 HPc
      go_upto_region 5 with fail
      obtain ⟨g, hg⟩ : ∃ g, w1.heap.size = g := ⟨_, rfl⟩
      rw [hg]
      have hp5 : PAt (w1.alloc (.cells #[.int .i64 xk, .int .u64 (wd xf 0 64 : Nat), .int .u64 (wd xf 64 64 : Nat), .int .u64 (wd xf 128 64 : Nat), .int .u64 (wd xf 192 64 : Nat), .slice xa xn xc, .int .i64 (xp.n : Int), .int .i64 (xp.h : Int)] 102)) g (.int .i64 xk) (.int .u64 (wd xf 0 64 : Nat)) (.int .u64 (wd xf 64 64 : Nat)) (.int .u64 (wd xf 128 64 : Nat)) (.int .u64 (wd xf 192 64 : Nat)) (.slice xa xn xc) (.int .i64 (xp.n : Int)) (.int .i64 (xp.h : Int)) := by
        rw [← hg]
        exact PAt.new _ _ _ _ _ _ _ _ _ _
      have hk5 : Kp No w1 (w1.alloc (.cells #[.int .i64 xk, .int .u64 (wd xf 0 64 : Nat), .int .u64 (wd xf 64 64 : Nat), .int .u64 (wd xf 128 64 : Nat), .int .u64 (wd xf 192 64 : Nat), .slice xa xn xc, .int .i64 (xp.n : Int), .int .i64 (xp.h : Int)] 102)) := (Kp.refl No w1).alloc _
      refine wp_name (fun W => PAt W g (.int .i64 xk) (.int .u64 (wd xf 0 64 : Nat)) (.int .u64 (wd xf 64 64 : Nat)) (.int .u64 (wd xf 128 64 : Nat)) (.int .u64 (wd xf 192 64 : Nat)) (.slice xa xn xc) (.int .i64 (xp.n : Int)) (.int .i64 (xp.h : Int)) ∧ Kp No w1 W) ⟨hp5, hk5⟩ ?_
      clear hp5 hk5
      rintro W5 ⟨hp5, hk5⟩
      have HK5 := Hid_mk hk5
      have hb6 := HLs.out.le
      have hsz1 := HK1.out.size
      have hwr : r ≤ wr.heap.size := by have := HKp.out.size; have := HR.out; omega
      obtain ⟨T1, hT1⟩ : ∃ T1 : Nat → Prop, (fun b => T b ∨ (wr.heap.size ≤ b ∧ b < w1.heap.size)) = T1 := ⟨_, rfl⟩
      have hT1i : ∀ b, T1 b → r + 2 ≤ b ∧ b < w1.heap.size := by
        rw [← hT1]
        rintro b (hb | hb)
        · have := HLs.out.inn b hb
          omega
        · omega
      have hL5 : LsAt T1 W5 (r + 1) (r + 2) v es ts := by
        have hqn : ¬ (r + 1 = q) := by have := HQr.out; omega
        refine (HLs.out.kept (T' := T1) HK1.out hqn (fun g hg1 hg2 e => by have := HQr.out; omega) (fun b hb => by rw [← hT1]; exact .inl hb) (fun g hg hb => ?_) hT1i (fun h => by have := (hT1i _ h).1; omega)).no hk5
        have h1 := HLs.out.row.lt g hg
        rw [← hT1] at hb
        rcases hb with hb | hb
        · exact HLs.out.out g hg hb
        · omega
      have hxT : PtV T1 W5 (absP t) (.agg (cellsP xk xf xa xn xc xp.n xp.h)) := by
        rw [← HXp.out]
        exact ⟨xk, xf, xa, xn, xc, rfl, ReV.no hk5 _ _ (ReV.wider (fun b hb hlt => by rw [← hT1]; exact .inr ⟨hb, hlt⟩) _ _ HXv.out)⟩
      have hadd : Calls Try.prog 64 #[.pointer (some ⟨r + 1, 0, none⟩), .agg (cellsP xk xf xa xn xc xp.n xp.h)] W5 fun e w' => e = .returned (.tuple #[]) ∧ Hid ((∃ v' es', LsAt T1 w' (r + 1) (r + 2) v' es' (ts ++ [t])) ∧ Kp (fun b => b = r + 1 ∨ (r + 2 ≤ b ∧ ¬ T1 b)) W5 w') := by
        refine (add_any T1 W5 (r + 1) (r + 2) v es ts hL5 t _ hxT (by have := HTs.out; have := HKl2.out; have := HLn.out; omega)).mono ?_
        rintro e w' ⟨rfl, h1, h2⟩
        exact ⟨rfl, Hid_mk ⟨h1, h2⟩⟩
      unfold cellsP at hadd
      have HAdd := Hid_mk hadd
      have HT1i := Hid_mk hT1i
      obtain ⟨p0, p1, p2, p3, p4, p5, p6, p7, pw⟩ := hp5
      clear hadd hL5 hxT hT1i hT1 hk5 hb6 hsz1 hwr
      go_wp2_with fail
      with_reducible refine HAdd.out.mono ?_
      rintro e W6 ⟨rfl, h6⟩
      obtain ⟨v6, es6, hL6⟩ := h6.out.1
      have hk6 := h6.out.2
      have hR6 : RdAt w0 W6 q l k2 o := (HR1.out.no HK5.out).kept hk6 (by have := HQr.out; show ¬ (q = r + 1 ∨ _); omega) (fun i e _ => by have h1 := HR1.out.ge; have h2 := HQr.out; show w0.heap.size ≤ i; have e : i = r + 1 ∨ (r + 2 ≤ i ∧ ¬ T1 i) := e; omega)
      have hP6 := ((HP.out.kept HK1.out (by show ¬ r = q; have := HQr.out; omega)).kept HK5.out id).kept hk6 (by show ¬ (r = r + 1 ∨ _); omega)
      have hkw6 : Kp (fun b => b = q) w W6 := (((HKp.out.trans HK1.out fun _ _ e => e).trans HK5.out (T := No) fun _ _ e => e.elim).trans hk6 fun i hi e => by have h2 := HR.out; have e : i = r + 1 ∨ (r + 2 ≤ i ∧ ¬ T1 i) := e; omega)
      have HR6 := Hid_mk hR6
      have HP6 := Hid_mk hP6
      have HK6 := Hid_mk hkw6
      have HL6 := Hid_mk hL6
      have c0 := hR6.c0
      have c1 := hR6.c1
      have cw := hR6.warm
      clear h6 hL6 hk6 hR6 hP6 hkw6 p0 p1 p2 p3 p4 p5 p6 p7 pw HAdd
      have hse := sees_any HR6.out (by have := HLn.out; omega) HK3.out ⟨#[124]⟩ [124] rfl
      rcases hb : seesB l k2 [124] with _ | _
      · rw [hb] at hse
        have HSe := Hid_mk hse
        have HR2 := Hid_mk (show R = .ok (joinT 3 (ts ++ [t])) k2 from by rw [← HRs.out, HF.out, altsF, HPf.out]; simp only; rw [if_neg (by rw [hb]; simp)]; rfl)
        clear hse hb
        go_wp2_with fail
        with_reducible refine HSe.out.mono ?_
        rintro e W9 ⟨rfl, n9, rfl⟩
        go_upto_region 7 with fail
        refine wp_name (fun W => Kp No W6 W) (by first | exact Kp.refl No W6 | exact (Kp.refl No W6).drewN _) ?_
        clear c0 c1 cw
        rintro W7 hk7
        have hj := joined_any T1 W7 (r + 1) (r + 2) v6 es6 (ts ++ [t]) 3 (by decide) (HL6.out.no hk7) (by simp) (by have := HTs.out; have := HKl2.out; have := HLn.out; simp; omega)
        have hj2 : Calls Try.prog 66 #[.pointer (some ⟨r + 1, 0, none⟩), .int .i64 3] W7 fun e w' => ∃ uk uf ua un uc up, e = .returned (.agg (cellsP uk uf ua un uc (Pt.n up) (Pt.h up))) ∧ up = absP (joinT 3 (ts ++ [t])) ∧ ReV (fun b => T1 b ∨ W7.heap.size ≤ b) w' up.t (.agg (cellsR uk uf ua un uc)) ∧ Kp No W7 w' := by
          refine hj.mono ?_
          rintro e w' ⟨_, rfl, ⟨uk, uf, ua, un, uc, rfl, hv⟩, h2⟩
          exact ⟨uk, uf, ua, un, uc, _, rfl, rfl, hv, h2⟩
        unfold cellsP at hj2
        have HJ := Hid_mk hj2
        have HSz7 := Hid_mk (HL6.out.no hk7).le
        have HR7 := Hid_mk (HR6.out.no hk7)
        have HP7 := Hid_mk (HP6.out.kept hk7 id)
        have HK7 := Hid_mk (HK6.out.trans hk7 (T := No) fun _ _ e => e.elim)
        clear hj hj2 hk7
        go_wp2_with fail
        with_reducible refine HJ.out.mono ?_
        rintro e W8 ⟨uk, uf, ua, un, uc, up, rfl, hup, huo, hk8⟩
        have HUp := Hid_mk hup
        have HUo := Hid_mk huo
        have HK8 := Hid_mk hk8
        have hP8 := HP7.out.kept hk8 id
        obtain ⟨r0, r1, r2, r3, r4, r5, r6, r7, rw'⟩ := hP8
        clear hup huo hk8 HJ
        go_wp2
        have hkz : Kp (fun b => b = r) W8 (putP W8 r (.int .i64 uk) (.int .u64 (wd uf 0 64 : Nat)) (.int .u64 (wd uf 64 64 : Nat)) (.int .u64 (wd uf 128 64 : Nat)) (.int .u64 (wd uf 192 64 : Nat)) (.slice ua un uc) (.int .i64 (up.n : Int)) (.int .i64 (up.h : Int))) := kp_putP (q := r) (Kp.refl (fun b => b = r) W8) (fun _ => rfl) _ _ _ _ _ _ _ _
        have hRz := (HR7.out.no HK8.out).kept hkz (by show ¬ q = r; have := HQr.out; omega) (fun i e _ => by have h1 := HR7.out.ge; have h2 := HQr.out; show w0.heap.size ≤ i; have e : i = r := e; omega)
        have hkf := (HK7.out.trans HK8.out (T := No) fun _ _ e => e.elim).trans hkz (T := fun b => b = r) fun i hi e => by have := HR.out; omega
        have hwz : r + 2 ≤ W7.heap.size := HSz7.out
        have hTb : ∀ b, (T1 b ∨ W7.heap.size ≤ b) → w.heap.size ≤ b ∧ ¬ b = r := by
          intro b hb
          have h1 := HR.out
          rcases hb with hb | hb
          · have := HT1i.out b hb
            omega
          · omega
        have hVz := ReV.wider (T' := fun b => w.heap.size ≤ b) (fun b hb _ => (hTb b hb).1) _ _ (ReV.kept hkz (fun b hb _ => (hTb b hb).2) _ _ HUo.out)
        refine bodyPost_ret (v := .tuple #[.agg (cellsP uk uf ua un uc up.n up.h), .int .i64 0]) ?_ rfl ?_
        · simp [results, Try.results47, go_sem, cellsP, r0, r1, r2, r3, r4, r5, r6, r7]
        · rw [HR2.out]
          exact ⟨_, rfl, by rw [← HUp.out]; exact ⟨uk, uf, ua, un, uc, rfl, hVz⟩, hRz, hkf, by have := HK2.out; have := HKK.out; omega, HK3.out⟩
      · have hlt := sees_lt hb
        rw [hb] at hse
        have HSe := Hid_mk hse
        have HE : Hid (altsF l bk N o k0 = (altsF l bk m' o (k2 + 1)).ahead (ts ++ [t])) := Hid_mk (by rw [HF.out, altsF, HPf.out]; simp only; rw [if_pos hb]; exact Ls.ahead_ahead ts [t] _)
        have HLt := Hid_mk hlt
        have hki0 : (0 : Int) ≤ (k2 : Int) := Int.natCast_nonneg _
        have hwk : IntKind.i64.wrap ((k2 : Int) + 1) = ((k2 + 1 : Nat) : Int) := by rw [IntWalk.i64_in _ (by have := HLn.out; omega)]; push_cast; rfl
        clear hse hb hlt
        go_wp2_with fail
        with_reducible refine HSe.out.mono ?_
        rintro e W9 ⟨rfl, n9, rfl⟩
        go_upto_region 8 with fail
        refine wp_name (fun W => Kp No W6 W) ((Kp.refl No W6).drewN _) ?_
        rintro W7 hk7
        have hR7 := HR6.out.no hk7
        have HR7 := Hid_mk hR7
        have HK7 := Hid_mk hk7
        clear c0 c1 cw
        have c1 := hR7.c1
        have cw := hR7.warm
        clear hR7 hk7
        go_wp2
        go_roundw
        case rel =>
          have hks : Kp (fun b => b = q) W7 (W7.setCell ⟨q, 1, none⟩ (.int .i64 ((k2 + 1 : Nat) : Int))) := (Kp.refl (fun b => b = q) W7).setCell (p := ⟨q, 1, none⟩) (fun _ => rfl) _
          have hqn : ¬ (r + 1 = q) := by have := HQr.out; omega
          have hLz := (HL6.out.no HK7.out).kept (T' := T1) hks hqn (fun g hg1 hg2 e => by have := HQr.out; omega) (fun b hb => hb) HL6.out.out (fun b hb => ⟨(HL6.out.inn b hb).1, Nat.lt_of_lt_of_le (HL6.out.inn b hb).2 (Nat.le_trans HK7.out.size hks.size)⟩) HL6.out.lt.2.1
          exact ⟨k2 + 1, m', ts ++ [t], v6, es6, T1, HR7.out.at' (k2 + 1), hLz, HE.out, by have := HM.out; have := HK2.out; have := HLt.out; omega, by have := HMN.out; omega, by have := HKK.out; have := HK2.out; omega, HLt.out, by have := HTs.out; have := HK2.out; simp; omega, (HP6.out.kept HK7.out id).kept hks (by show ¬ r = q; have := HQr.out; omega), (HK6.out.trans HK7.out (T := No) fun _ _ e => e.elim).trans hks fun _ _ e => e⟩
        case measure => have e := place_is (HR7.out.at' (k2 + 1)); rw [show ((k2 + 1 : Nat) : Int) = (k2 : Int) + 1 by push_cast; rfl] at e; rw [e, HPl.out]; have := HK2.out; have := HLt.out; omega
    · have hpc2 : Calls Try.prog 63 #[.pointer (some ⟨q, 0, none⟩)] wr fun e w' => ∃ o', e = .returned (.tuple #[.agg #[.int .i64 0, .int .u64 0, .int .u64 0, .int .u64 0, .int .u64 0, .slice none 0 0, .int .i64 0, .int .i64 0], .int .i64 (c : Int)]) ∧ RdAt w0 w' q l k2 o' ∧ Kp (fun b => b = q) wr w' ∧ k2 ≤ l.length ∧ 0 < c := by
        rw [hpf] at hpc
        exact hpc
      have HR2 := Hid_mk (show R = .bad c k2 from by rw [← HRs.out, HF.out, altsF, hpf]; rfl)
      have HPc := Hid_mk hpc2
      clear hpc hpc2 hpf
      go_wp2_with fail
      with_reducible refine HPc.out.mono ?_
      rintro e w1 ⟨o', rfl, hR1, hk1, hk2, hc⟩
      have hcn : ((c : Int) != 0) = true := by simp; omega
      have hP1 := HP.out.kept hk1 (by show ¬ r = q; have := HQr.out; omega)
      have HR1 := Hid_mk hR1
      have HK1 := Hid_mk (HKp.out.trans hk1 fun _ _ e => e)
      have HK2 := Hid_mk hk2
      have HC := Hid_mk hc
      have HP1 := Hid_mk hP1
      clear hR1 hk1 hk2 hc hP1 HPc
      go_upto_region 4 with fail
      refine wp_name (fun W => Kp No w1 W) ((Kp.refl No w1).alloc _) ?_
      rintro W4 hk4
      have hP4 := HP1.out.kept hk4 id
      have HK4 := Hid_mk hk4
      obtain ⟨r0, r1, r2, r3, r4, r5, r6, r7, rw'⟩ := hP4
      clear hk4
      go_wp2
      have hkz : Kp (fun b => b = r) W4 (putP W4 r (.int .i64 0) (.int .u64 0) (.int .u64 0) (.int .u64 0) (.int .u64 0) (.slice none 0 0) (.int .i64 0) (.int .i64 0)) := kp_putP (q := r) (Kp.refl (fun b => b = r) W4) (fun _ => rfl) _ _ _ _ _ _ _ _
      have hRz := (HR1.out.no HK4.out).kept hkz (by show ¬ q = r; have := HQr.out; omega) (fun i e _ => by have h1 := HR1.out.ge; have h2 := HQr.out; show w0.heap.size ≤ i; have e : i = r := e; omega)
      have hkf := (HK1.out.trans HK4.out (T := No) fun _ _ e => e.elim).trans hkz (T := fun b => b = r) fun i hi e => by have := HR.out; omega
      refine bodyPost_ret (v := .tuple #[.agg #[.int .i64 0, .int .u64 0, .int .u64 0, .int .u64 0, .int .u64 0, .slice none 0 0, .int .i64 0, .int .i64 0], .int .i64 (c : Int)]) ?_ rfl ?_
      · simp [results, Try.results47, go_sem, r0, r1, r2, r3, r4, r5, r6, r7]
      · rw [HR2.out]
        exact ⟨o', rfl, hRz, hkf, HK2.out, HC.out⟩

end Go.Proofs.Ytaneblecgjahbab.ere
