/- The reference's reader: a piece, over texts of few bytes. The reference's reader: rows of pieces, rows with bars between. -/
import Derived.Test.YtdognehkbahmdaaR8Atom

namespace Go.Proofs.Ytdognehkbahmdaa.ere
open Go.RowKit Go.Proofs.Ytdognehkbahmdaa.sum Go.Proofs.Ytdognehkbahmdaa.kept Go.Proofs.Ytdognehkbahmdaa.pop Go.Proofs.Ytdognehkbahmdaa.cls Go.Proofs.Ytdognehkbahmdaa.tre Go.Proofs.Ytdognehkbahmdaa.str
set_option linter.unusedVariables false

theorem place8 {w0 w : World} {q : Nat} {l : List UInt8} {n : Nat} {x2 be tt : Int} (h : RC w0 w q l (n : Int) x2 be tt) : placeOf w q = n := by
  unfold placeOf
  rw [h.c1]
  simp
/-- what is left to read behind an atom -/
def Rem8 (l : List UInt8) (k o : Nat) (R : Rs) (t' : Tr) (x1 x2 be tt : Int) : Prop :=
  (∃ n m : Nat, x1 = (n : Int) ∧ x2 = (o : Int) ∧ be = 0 ∧ tt = 0 ∧ k < n ∧ n ≤ l.length ∧ signsF l m t' n = R ∧ l.length < n + m) ∨ (∃ c n : Nat, R = .bad c n ∧ be = (c : Int) ∧ tt = (n : Int) ∧ 0 < c)
def Pc8Rel (w0 w : World) (q r2 r3 : Nat) (l : List UInt8) (k o : Nat) (R : Rs) (wr : World) : Prop :=
  ∃ (t' : Tr) (vk : Int) (vf : Nat → Bool) (va : Option Addr) (vn vc : Nat) (x1 x2 be tt : Int), RAt wr r3 (.int .i64 vk) (.int .u64 (wd vf 0 64 : Nat)) (.int .u64 (wd vf 64 64 : Nat)) (.int .u64 (wd vf 128 64 : Nat)) (.int .u64 (wd vf 192 64 : Nat)) (.slice va vn vc) ∧ ReV (fun b => w.heap.size ≤ b ∧ b ≠ r2 ∧ b ≠ r3) wr t' (.agg (cellsR vk vf va vn vc)) ∧ RC w0 wr q l x1 x2 be tt ∧ Kp (fun b => b = q) w wr ∧ RAt wr r2 (.int .i64 0) (.int .u64 0) (.int .u64 0) (.int .u64 0) (.int .u64 0) (.slice none 0 0) ∧ Rem8 l k o R t' x1 x2 be tt
theorem signs_no {l : List UInt8} {m : Nat} {t : Tr} {n : Nat} (h : seesB l n [42, 43, 63, 123] = false) : signsF l (m + 1) t n = .ok t n := by rw [signsF, if_neg (by rw [h]; simp)]
theorem signs_star {l : List UInt8} {m : Nat} {t : Tr} {n : Nat} (hn : n < l.length) (h : atB l n = 42) : signsF l (m + 1) t n = signsF l m (kid1 4 t) (n + 1) := by
  rw [signsF, if_pos, if_pos h]
  unfold seesB
  rw [decide_eq_true hn, h]
  rfl

set_option maxRecDepth 100000 in
set_option maxHeartbeats 8000000 in
theorem r8piece_any {w0 : World} {q : Nat} {l : List UInt8} {bk : Nat → Option ((Nat → Bool) × Nat)} (hl : l.length < 1000000000) (hA : Few l) (m : Nat) (hat : Atom8 w0 q l bk m) : Piece8 w0 q l bk (m + 1) := by
  intro w k o h hkl ho hn
  obtain ⟨W0, hW0⟩ : ∃ W0, w.alloc (.cells #[.int .i64 0, .int .u64 0, .int .u64 0, .int .u64 0, .int .u64 0, .slice none 0 0] 27) = W0 := ⟨_, rfl⟩
  obtain ⟨r2, hr⟩ : ∃ r, w.heap.size = r := ⟨_, rfl⟩
  have hK0 : Kp No w W0 := by rw [← hW0]; exact (Kp.refl No w).alloc _
  have hz : W0.heap.size = r2 + 1 := by rw [← hW0, ← hr]; simp
  have hB : RAt W0 r2 (.int .i64 0) (.int .u64 0) (.int .u64 0) (.int .u64 0) (.int .u64 0) (.slice none 0 0) := by
    rw [← hW0, ← hr]
    exact RAt.new w _ _ _ _ _ _ _
  have hR0 := h.no hK0
  have hqr : q < r2 := by have := h.lt; omega
  have hac := hat W0 k o hR0 hkl ho (by omega)
  obtain ⟨R, hRs⟩ : ∃ R, pieceF l bk (m + 1) o k = R := ⟨_, rfl⟩
  rw [hRs]
  have hsz := st_size l
  have HW0 := Hid_mk hW0
  have HR := Hid_mk hr
  have HQr := Hid_mk hqr
  have HB := Hid_mk hB
  have HK0 := Hid_mk hK0
  have HZ := Hid_mk hz
  have HLn := Hid_mk hl
  have HAc := Hid_mk hac
  have HRs := Hid_mk hRs
  have HA := Hid_mk hA
  clear hW0 hr hK0 hB h hqr hat hn hz ho hac hRs hR0 hl hkl hA
  go_enter Try.func69, Try.ntmps69
  go_wp2_with fail
  rw [HR.out, HW0.out]
  clear HW0
  with_reducible refine HAc.out.mono ?_
  rintro e W1 ⟨t', vk, vf, va, vn, vc, x1, x2, be, tt, rfl, hv1, hr1, hk1, his⟩
  obtain ⟨r3, hr3⟩ : ∃ r, W1.heap.size = r := ⟨_, rfl⟩
  have h23 : r2 < r3 := by have h8 := hk1.size; have h9 := HZ.out; omega
  have hrel0 : Pc8Rel w0 w q r2 r3 l k o R (W1.alloc (.cells #[.int .i64 vk, .int .u64 (wd vf 0 64 : Nat), .int .u64 (wd vf 64 64 : Nat), .int .u64 (wd vf 128 64 : Nat), .int .u64 (wd vf 192 64 : Nat), .slice va vn vc] 27)) := by
    have hka := (Kp.refl No W1).alloc (.cells #[.int .i64 vk, .int .u64 (wd vf 0 64 : Nat), .int .u64 (wd vf 64 64 : Nat), .int .u64 (wd vf 128 64 : Nat), .int .u64 (wd vf 192 64 : Nat), .slice va vn vc] 27)
    refine ⟨t', vk, vf, va, vn, vc, x1, x2, be, tt, by rw [← hr3]; exact RAt.new _ _ _ _ _ _ _ _, ReV.no hka _ _ (ReV.wider (fun b hb hl => ⟨by have h7 := HZ.out; have h8 := HR.out; omega, by have h7 := HZ.out; omega, by omega⟩) _ _ hv1), hr1.no hka, ((HK0.out.to (S := fun b => b = q)).trans' hk1).trans hka (T := No) (fun _ _ e => e.elim), (HB.out.kept hk1 (by show ¬ r2 = q; have := HQr.out; omega)).kept hka id, ?_⟩
    have hR' := HRs.out
    rw [pieceF] at hR'
    rcases hra : atomF l bk m o k with ⟨tr, n2⟩ | ⟨cc, n2⟩
    · rw [hra] at his hR'
      obtain ⟨rfl, rfl, rfl, rfl, rfl, hn1, hn2⟩ := his
      exact .inl ⟨n2, l.length + 1, rfl, rfl, rfl, rfl, hn1, hn2, hR', by omega⟩
    · rw [hra] at his hR'
      obtain ⟨rfl, rfl, hcc⟩ := his
      exact .inr ⟨cc, n2, hR'.symm, rfl, rfl, hcc⟩
  have HRel0 := Hid_mk hrel0
  have HR3 := Hid_mk hr3
  have H23 := Hid_mk h23
  clear hv1 hr1 hk1 his h23 hrel0 HRs HAc
  unfold cellsR
  go_wp2
  go_loopw [6] (fun _ wr => Pc8Rel w0 w q r2 r3 l k o R wr) (fun _ wr => l.length - placeOf wr q)
  case atStart => exact HRel0.out
  case round =>
    obtain ⟨t', vk, vf, va, vn, vc, x1, x2, be, tt, hb3, hv, hrc, hkw, hb2, hrem⟩ := hrel
    have HB3 := Hid_mk hb3
    have HV := Hid_mk hv
    have HRc := Hid_mk hrc
    have HKw := Hid_mk hkw
    have HB2 := Hid_mk hb2
    rcases hrem with ⟨n, m', rfl, rfl, rfl, rfl, hkn, hnl, hsg, hmn⟩ | ⟨c, n, hRb, rfl, rfl, hc⟩
    · have hplace := place8 hrc
      have HPl := Hid_mk hplace
      have c0 := hrc.c0
      have c1 := hrc.c1
      have c3 := hrc.c3
      obtain ⟨m2, rfl⟩ : ∃ m2, m' = m2 + 1 := ⟨m' - 1, by omega⟩
      have HSg := Hid_mk hsg
      have HMn := Hid_mk hmn
      have HKn := Hid_mk hkn
      have HNl := Hid_mk hnl
      by_cases hnlt : n < l.length
      · have hnd : decide (n < l.length) = true := decide_eq_true hnlt
        have hni : (n : Int) < (l.length : Int) := by omega
        have hni0 : (0 : Int) ≤ (n : Int) := Int.natCast_nonneg _
        have HNlt := Hid_mk hnlt
        have hg := fun hh => st_get l n hh
        obtain ⟨y, hy⟩ : ∃ y, atB l n = y := ⟨_, rfl⟩
        have hg2 : ∀ hh : n < (st l).size, ((st l)[n]).toNat = y := fun hh => (hg hh).trans hy
        have HG2 := Hid_mk hg2
        have HY := Hid_mk hy
        have hAn := HA.out n hnlt
        rw [hy] at hAn
        have hAn2 : y = 42 ∨ (y = 40 ∨ y = 41 ∨ y = 124 ∨ y = 97 ∨ y = 98 ∨ y = 99) := by omega
        clear hb3 hv hrc hkw hb2 hplace hsg hmn hkn hnl hnlt hg hy hAn hg2
        go_upto_region 2 with fail
        go_wp2
        go_quiet (fail)
        go_upto_region 3 with fail
        refine wp_name (fun W => Kp No wr W) ((Kp.refl No wr).drewN _) ?_
        clear c0 c1 c3
        rintro W3 hk3
        have HK3 := Hid_mk hk3
        have HR3' := Hid_mk (HRc.out.no hk3)
        have c0 := HR3'.out.c0
        have c1 := HR3'.out.c1
        have hg2 := HG2.out
        clear hk3 hnd
        go_wp2
        go_quiet (fail)
        go_upto_region 5 with fail
        refine wp_name (fun W => Kp No W3 W) ((Kp.refl No W3).drewN _) ?_
        clear c0 c1 hg2 hni hni0
        rintro W5 hk5
        have HK5 := Hid_mk (HK3.out.trans' hk5)
        have HR5 := Hid_mk (HRc.out.no HK5.out)
        clear hk5
        rcases hAn2 with rfl | hy2
        · have hsg2 : signsF l m2 (kid1 4 t') (n + 1) = R := by rw [← HSg.out, signs_star HNlt.out HY.out]
          have HSg2 := Hid_mk hsg2
          have hb3 := HB3.out.kept HK5.out id
          obtain ⟨g, hg⟩ : ∃ g, W5.heap.size = g := ⟨_, rfl⟩
          have hlt3 := hb3.lt
          have h3g : r3 < g := by omega
          have hqr3 : q < r3 := by have h7 := HQr.out; have h8 := H23.out; omega
          have hs := kp_putR (q := r3) (Kp.refl (fun b => b = r3) W5) (fun _ => rfl) (.int .i64 4) (.int .u64 0) (.int .u64 0) (.int .u64 0) (.int .u64 0) (.slice (some ⟨g, 0, none⟩) 1 1)
          have hv2 := ReV.kept hs (fun b hb _ => hb.2.2) _ _ (ReV.no HK5.out _ _ HV.out)
          have hsz2 : (putR W5 r3 (.int .i64 4) (.int .u64 0) (.int .u64 0) (.int .u64 0) (.int .u64 0) (.slice (some ⟨g, 0, none⟩) 1 1)).heap.size = g := by unfold putR; simp [World.setCell, hg]
          have m1 := made1 hv2 (by rw [hsz2]; exact ⟨by have h8 := HR.out; have h9 := H23.out; omega, by have h9 := H23.out; omega, by omega⟩) 4 nul 27
          have hka := (Kp.refl No (putR W5 r3 (.int .i64 4) (.int .u64 0) (.int .u64 0) (.int .u64 0) (.int .u64 0) (.slice (some ⟨g, 0, none⟩) 1 1))).alloc (.cells (cellsR vk vf va vn vc) 27)
          have hb3' := (hb3.put (.int .i64 4) (.int .u64 0) (.int .u64 0) (.int .u64 0) (.int .u64 0) (.slice (some ⟨g, 0, none⟩) 1 1)).kept hka id
          have hb2' := ((HB2.out.kept HK5.out id).kept hs (by show ¬ r2 = r3; have := H23.out; omega)).kept hka id
          have hrc' := ((HR5.out).kept hs (by show ¬ q = r3; omega) (fun i e _ => by have h1 := HR5.out.ge; show w0.heap.size ≤ i; have e : i = r3 := e; omega)).no hka
          have hkw' := ((HKw.out.trans HK5.out (T := No) fun _ _ e => e.elim).trans hs (T := fun b => b = r3) (fun i hi e => by have h8 := HR.out; have h9 := H23.out; omega)).trans hka (T := No) fun _ _ e => e.elim
          rw [hsz2] at m1
          unfold putR at m1 hb3' hb2' hrc' hkw'
          unfold cellsR at hb3' hb2' hrc' hkw' m1
          simp only [wd_nul, Int.natCast_zero] at m1
          have HM := Hid_mk m1
          have HB3' := Hid_mk hb3'
          have HB2' := Hid_mk hb2'
          have HRc' := Hid_mk hrc'
          have HKw' := Hid_mk hkw'
          have HG := Hid_mk hg
          have HQr3 := Hid_mk hqr3
          obtain ⟨p0, p1, p2, p3, p4, p5, pw⟩ := hb3
          clear hsg2 h3g hs hv2 hsz2 m1 hka hb3' hb2' hrc' hkw' hqr3 hg
          go_upto_region 14 with fail
          rw [HG.out]
          refine wp_name (fun W => ReV (fun b => w.heap.size ≤ b ∧ b ≠ r2 ∧ b ≠ r3) W (kid1 4 t') (.agg #[.int .i64 4, .int .u64 0, .int .u64 0, .int .u64 0, .int .u64 0, .slice (some ⟨g, 0, none⟩) 1 1]) ∧ RAt W r3 (.int .i64 4) (.int .u64 0) (.int .u64 0) (.int .u64 0) (.int .u64 0) (.slice (some ⟨g, 0, none⟩) 1 1) ∧ RAt W r2 (.int .i64 0) (.int .u64 0) (.int .u64 0) (.int .u64 0) (.int .u64 0) (.slice none 0 0) ∧ RC w0 W q l (n : Int) (o : Int) 0 0 ∧ Kp (fun b => b = q) w W) ⟨HM.out, HB3'.out, HB2'.out, HRc'.out, HKw'.out⟩ ?_
          clear p0 p1 p2 p3 p4 p5 pw hlt3
          rintro W6 ⟨hv6, hb36, hb26, hrc6, hkw6⟩
          have HV6 := Hid_mk hv6
          have HB36 := Hid_mk hb36
          have HB26 := Hid_mk hb26
          have HRc6 := Hid_mk hrc6
          have HKw6 := Hid_mk hkw6
          have c1 := hrc6.c1
          have cw := hrc6.warm
          have hwn : IntKind.i64.wrap ((n : Int) + 1) = ((n + 1 : Nat) : Int) := by rw [IntWalk.i64_in _ (by have h7 := HNlt.out; have h8 := HLn.out; omega)]; push_cast; rfl
          clear hv6 hb36 hb26 hrc6 hkw6
          go_wp2
          go_roundw
          case rel =>
            have hs7 : Kp (fun b => b = q) W6 (W6.setCell ⟨q, 1, none⟩ (.int .i64 ((n + 1 : Nat) : Int))) := (Kp.refl (fun b => b = q) W6).setCell (p := ⟨q, 1, none⟩) (fun _ => rfl) _
            refine ⟨kid1 4 t', 4, nul, some ⟨g, 0, none⟩, 1, 1, _, _, _, _, ?_, ?_, HRc6.out.at' _, HKw6.out.trans' hs7, HB26.out.kept hs7 (by show ¬ r2 = q; have := HQr.out; omega), .inl ⟨n + 1, m2, rfl, rfl, rfl, rfl, by have := HKn.out; omega, HNlt.out, HSg2.out, by have := HMn.out; omega⟩⟩
            · simp only [wd_nul, Int.natCast_zero]
              exact HB36.out.kept hs7 (by show ¬ r3 = q; have := HQr3.out; omega)
            · unfold cellsR
              simp only [wd_nul, Int.natCast_zero]
              exact ReV.kept hs7 (fun b hb _ => by have h8 := HR.out; have h9 := HQr.out; show ¬ b = q; omega) _ _ HV6.out
          case measure =>
            have hp9 : placeOf (W6.setCell ⟨q, 1, none⟩ (.int .i64 ((n : Int) + 1))) q = n + 1 := place8 (HRc6.out.at' ((n + 1 : Nat) : Int))
            rw [HPl.out, hp9]
            have := HNlt.out
            omega
        · have hsn : seesB l n [42, 43, 63, 123] = false := by
            unfold seesB
            rw [HY.out]
            rcases hy2 with rfl | rfl | rfl | rfl | rfl | rfl <;> simp
          have hRok := HSg.out
          rw [signs_no hsn] at hRok
          have HRR := Hid_mk hRok.symm
          have e42 : ((y : Int) == 42) = false := by rw [beq_eq_false_iff_ne]; omega
          have e43 : ((y : Int) == 43) = false := by rw [beq_eq_false_iff_ne]; omega
          have e63 : ((y : Int) == 63) = false := by rw [beq_eq_false_iff_ne]; omega
          have e123 : ((y : Int) == 123) = false := by rw [beq_eq_false_iff_ne]; omega
          clear hsn hRok hy2
          have HR8 := Hid_mk (HRc.out.no HK5.out)
          have hv8 := ReV.no HK5.out _ _ HV.out
          have hkw8 := HKw.out.trans HK5.out (T := No) fun _ _ e => e.elim
          have HV8 := Hid_mk hv8
          have HKw8 := Hid_mk hkw8
          obtain ⟨q0, q1, q2, q3, q4, q5, qw⟩ := HB3.out.kept HK5.out id
          obtain ⟨r0, r1, r2', r3', r4, r5, rw'⟩ := HB2.out.kept HK5.out id
          clear hv8 hkw8
          go_wp2
          have hkz : Kp (fun b => b = r2) W5 (putR W5 r2 (.int .i64 vk) (.int .u64 (wd vf 0 64 : Nat)) (.int .u64 (wd vf 64 64 : Nat)) (.int .u64 (wd vf 128 64 : Nat)) (.int .u64 (wd vf 192 64 : Nat)) (.slice va vn vc)) := kp_putR (q := r2) (Kp.refl (fun b => b = r2) W5) (fun _ => rfl) _ _ _ _ _ _
          have hRz := HR8.out.kept hkz (by show ¬ q = r2; have := HQr.out; omega) (fun i e _ => by have h1 := HR8.out.ge; have h2 := HQr.out; show w0.heap.size ≤ i; have e : i = r2 := e; omega)
          have hkf := HKw8.out.trans hkz (T := fun b => b = r2) fun i hi e => by have := HR.out; omega
          refine bodyPost_ret (v := .agg (cellsR vk vf va vn vc)) ?_ rfl ?_
          · simp [results, Try.results69, go_sem, r0, r1, r2', r3', r4, r5]
          · refine ⟨t', vk, vf, va, vn, vc, _, _, _, _, rfl, ReV.wider (fun b hb _ => hb.1) _ _ (ReV.kept hkz (fun b hb _ => hb.2.1) _ _ HV8.out), hRz, hkf, ?_⟩
            rw [HRR.out]
            exact ⟨rfl, rfl, rfl, rfl, rfl, HKn.out, HNl.out⟩
      · have hnd : decide (n < l.length) = false := decide_eq_false hnlt
        have hni : ¬ (n : Int) < (l.length : Int) := by omega
        have hsn : seesB l n [42, 43, 63, 123] = false := by
          unfold seesB
          rw [hnd]
          rfl
        have hRok := hsg
        rw [signs_no hsn] at hRok
        have HRR := Hid_mk hRok.symm
        clear hb3 hv hrc hkw hb2 hplace hsg hmn hkn hnl hnlt hsn hRok
        go_upto_region 2 with fail
        go_wp2
        go_quiet (fail)
        go_upto_region 15 with fail
        refine wp_name (fun W => Kp No wr W) ((Kp.refl No wr).drewN _) ?_
        clear c0 c1 c3 hnd hni
        rintro W5 hk5
        have HK5 := Hid_mk hk5
        clear hk5
        have HR8 := Hid_mk (HRc.out.no HK5.out)
        have hv8 := ReV.no HK5.out _ _ HV.out
        have hkw8 := HKw.out.trans HK5.out (T := No) fun _ _ e => e.elim
        have HV8 := Hid_mk hv8
        have HKw8 := Hid_mk hkw8
        obtain ⟨q0, q1, q2, q3, q4, q5, qw⟩ := HB3.out.kept HK5.out id
        obtain ⟨r0, r1, r2', r3', r4, r5, rw'⟩ := HB2.out.kept HK5.out id
        clear hv8 hkw8
        go_wp2
        have hkz : Kp (fun b => b = r2) W5 (putR W5 r2 (.int .i64 vk) (.int .u64 (wd vf 0 64 : Nat)) (.int .u64 (wd vf 64 64 : Nat)) (.int .u64 (wd vf 128 64 : Nat)) (.int .u64 (wd vf 192 64 : Nat)) (.slice va vn vc)) := kp_putR (q := r2) (Kp.refl (fun b => b = r2) W5) (fun _ => rfl) _ _ _ _ _ _
        have hRz := HR8.out.kept hkz (by show ¬ q = r2; have := HQr.out; omega) (fun i e _ => by have h1 := HR8.out.ge; have h2 := HQr.out; show w0.heap.size ≤ i; have e : i = r2 := e; omega)
        have hkf := HKw8.out.trans hkz (T := fun b => b = r2) fun i hi e => by have := HR.out; omega
        refine bodyPost_ret (v := .agg (cellsR vk vf va vn vc)) ?_ rfl ?_
        · simp [results, Try.results69, go_sem, r0, r1, r2', r3', r4, r5]
        · refine ⟨t', vk, vf, va, vn, vc, _, _, _, _, rfl, ReV.wider (fun b hb _ => hb.1) _ _ (ReV.kept hkz (fun b hb _ => hb.2.1) _ _ HV8.out), hRz, hkf, ?_⟩
          rw [HRR.out]
          exact ⟨rfl, rfl, rfl, rfl, rfl, HKn.out, HNl.out⟩
    · have HRR := Hid_mk hRb
      have HC := Hid_mk hc
      have c3 := hrc.c3
      have hc0 : ((c : Int) == 0) = false := by rw [beq_eq_false_iff_ne]; omega
      clear hb3 hv hrc hkw hb2 hRb hc
      go_upto_region 2 with fail
      go_wp2
      go_quiet (fail)
      go_upto_region 15 with fail
      refine wp_name (fun W => Kp No wr W) ((Kp.refl No wr).drewN _) ?_
      clear c3 hc0
      rintro W5 hk5
      have HK5 := Hid_mk hk5
      clear hk5
      have HR8 := Hid_mk (HRc.out.no HK5.out)
      have hv8 := ReV.no HK5.out _ _ HV.out
      have hkw8 := HKw.out.trans HK5.out (T := No) fun _ _ e => e.elim
      have HV8 := Hid_mk hv8
      have HKw8 := Hid_mk hkw8
      obtain ⟨q0, q1, q2, q3, q4, q5, qw⟩ := HB3.out.kept HK5.out id
      obtain ⟨r0, r1, r2', r3', r4, r5, rw'⟩ := HB2.out.kept HK5.out id
      clear hv8 hkw8
      go_wp2
      have hkz : Kp (fun b => b = r2) W5 (putR W5 r2 (.int .i64 vk) (.int .u64 (wd vf 0 64 : Nat)) (.int .u64 (wd vf 64 64 : Nat)) (.int .u64 (wd vf 128 64 : Nat)) (.int .u64 (wd vf 192 64 : Nat)) (.slice va vn vc)) := kp_putR (q := r2) (Kp.refl (fun b => b = r2) W5) (fun _ => rfl) _ _ _ _ _ _
      have hRz := HR8.out.kept hkz (by show ¬ q = r2; have := HQr.out; omega) (fun i e _ => by have h1 := HR8.out.ge; have h2 := HQr.out; show w0.heap.size ≤ i; have e : i = r2 := e; omega)
      have hkf := HKw8.out.trans hkz (T := fun b => b = r2) fun i hi e => by have := HR.out; omega
      refine bodyPost_ret (v := .agg (cellsR vk vf va vn vc)) ?_ rfl ?_
      · simp [results, Try.results69, go_sem, r0, r1, r2', r3', r4, r5]
      · refine ⟨t', vk, vf, va, vn, vc, _, _, _, _, rfl, ReV.wider (fun b hb _ => hb.1) _ _ (ReV.kept hkz (fun b hb _ => hb.2.1) _ _ HV8.out), hRz, hkf, ?_⟩
        rw [HRR.out]
        exact ⟨rfl, rfl, HC.out⟩

end Go.Proofs.Ytdognehkbahmdaa.ere

namespace Go.Proofs.Ytdognehkbahmdaa.ere
open Go.RowKit Go.Proofs.Ytdognehkbahmdaa.sum Go.Proofs.Ytdognehkbahmdaa.kept Go.Proofs.Ytdognehkbahmdaa.pop Go.Proofs.Ytdognehkbahmdaa.cls Go.Proofs.Ytdognehkbahmdaa.tre Go.Proofs.Ytdognehkbahmdaa.str
set_option linter.unusedVariables false

/-- what is left to read behind some pieces, behind some rows -/
def RemC (l : List UInt8) (bk : Nat → Option ((Nat → Bool) × Nat)) (N k o : Nat) (R : Rs) (ts : List Tr) (x1 x2 be tt : Int) : Prop :=
  (∃ n m : Nat, x1 = (n : Int) ∧ x2 = (o : Int) ∧ be = 0 ∧ tt = 0 ∧ k < n ∧ n ≤ l.length ∧ ts.length ≤ n ∧ (if n = l.length ∨ seesB l n [124, 41] = true then Ls.ok ts n else (piecesF l bk m o n).ahead ts).join 2 = R ∧ 8 * (l.length - n) + 6 ≤ m ∧ m ≤ N) ∨ (∃ c n : Nat, R = .bad c n ∧ be = (c : Int) ∧ tt = (n : Int) ∧ 0 < c)
def RemA (l : List UInt8) (bk : Nat → Option ((Nat → Bool) × Nat)) (N k o : Nat) (R : Rs) (ts : List Tr) (x1 x2 be tt : Int) : Prop :=
  (∃ n m : Nat, x1 = (n : Int) ∧ x2 = (o : Int) ∧ be = 0 ∧ tt = 0 ∧ k < n ∧ n ≤ l.length ∧ ts.length ≤ n ∧ (if seesB l n [124] = true then (altsF l bk m o (n + 1)).ahead ts else Ls.ok ts n).join 3 = R ∧ 8 * (l.length - n) ≤ m ∧ m ≤ N) ∨ (∃ c n : Nat, R = .bad c n ∧ be = (c : Int) ∧ tt = (n : Int) ∧ 0 < c)
def Row8Rel (rem : List Tr → Int → Int → Int → Int → Prop) (w0 w : World) (q r2 : Nat) (l : List UInt8) (s : Value) (wr : World) : Prop :=
  ∃ (es : List (E6 × Tr)) (g cap : Nat) (x1 x2 be tt : Int), s = .slice (some ⟨g, 0, none⟩) es.length cap ∧ L6 wr (r2 + 1) (.slice (some ⟨g, 0, none⟩) es.length cap) es ∧ es ≠ [] ∧ es.length ≤ l.length + 1 ∧ RC w0 wr q l x1 x2 be tt ∧ Kp (fun b => b = q) w wr ∧ RAt wr r2 (.int .i64 0) (.int .u64 0) (.int .u64 0) (.int .u64 0) (.int .u64 0) (.slice none 0 0) ∧ r2 + 1 ≤ wr.heap.size ∧ rem (es.map Prod.snd) x1 x2 be tt
def meas8 (l : List UInt8) (w : World) (q : Nat) : Nat := match w.cell? ⟨q, 3, none⟩ with
  | some (.int _ i) => if i = 0 then l.length - placeOf w q + 1 else 0
  | _ => 0
theorem meas_ok {w0 w : World} {q : Nat} {l : List UInt8} {n : Nat} {x2 tt : Int} (h : RC w0 w q l (n : Int) x2 0 tt) : meas8 l w q = l.length - n + 1 := by
  unfold meas8
  rw [h.c3, place8 h]
  simp
theorem meas_bad {w0 w : World} {q : Nat} {l : List UInt8} {x1 x2 be tt : Int} (h : RC w0 w q l x1 x2 be tt) (hb : be ≠ 0) : meas8 l w q = 0 := by
  unfold meas8
  rw [h.c3]
  simp [hb]
theorem sees2 (l : List UInt8) (n : Nat) : seesB l n [124, 41] = (seesB l n [124] || seesB l n [41]) := by
  unfold seesB
  cases decide (n < l.length) <;> simp [List.contains_cons]
theorem Ls.join_bad {k : Int} {e n : Nat} {ts : List Tr} : ((Ls.bad e n).ahead ts).join k = .bad e n := rfl
theorem ahead_if {c : Prop} [Decidable c] (ts : List Tr) (a b : Ls) : (if c then a else b).ahead ts = if c then a.ahead ts else b.ahead ts := by split <;> rfl

set_option maxRecDepth 100000 in
set_option maxHeartbeats 8000000 in
theorem r8alt_any {w0 : World} {q : Nat} {l : List UInt8} {bk : Nat → Option ((Nat → Bool) × Nat)} (hl : l.length < 1000000000) (N : Nat) (ih : ∀ m, m < N → Cat8 w0 q l bk m) (w : World) (k o : Nat) (h : RC w0 w q l k o 0 0) (hkl : k ≤ l.length) (ho : o ≤ 10) (hN : 8 * (l.length - k) + 8 ≤ N) :
    Calls Try.prog 35 #[.pointer (some ⟨q, 0, none⟩)] w (R8Post w0 w q l k o ((altsF l bk N o k).join 3)) := by
  obtain ⟨N, rfl⟩ : ∃ N', N = N' + 1 := ⟨N - 1, by omega⟩
  obtain ⟨W0, hW0⟩ : ∃ W0, w.alloc (.cells #[.int .i64 0, .int .u64 0, .int .u64 0, .int .u64 0, .int .u64 0, .slice none 0 0] 27) = W0 := ⟨_, rfl⟩
  obtain ⟨r2, hr⟩ : ∃ r, w.heap.size = r := ⟨_, rfl⟩
  have hK0 : Kp No w W0 := by rw [← hW0]; exact (Kp.refl No w).alloc _
  have hz : W0.heap.size = r2 + 1 := by rw [← hW0, ← hr]; simp
  have hB : RAt W0 r2 (.int .i64 0) (.int .u64 0) (.int .u64 0) (.int .u64 0) (.int .u64 0) (.slice none 0 0) := by
    rw [← hW0, ← hr]
    exact RAt.new w _ _ _ _ _ _ _
  have hR0 := h.no hK0
  have hqr : q < r2 := by have := h.lt; omega
  have hac := ih N (Nat.lt_succ_self _) W0 k o hR0 hkl ho (by omega)
  obtain ⟨R, hRs⟩ : ∃ R, (altsF l bk (N + 1) o k).join 3 = R := ⟨_, rfl⟩
  rw [hRs]
  have hsz := st_size l
  have HW0 := Hid_mk hW0
  have HR := Hid_mk hr
  have HQr := Hid_mk hqr
  have HB := Hid_mk hB
  have HK0 := Hid_mk hK0
  have HZ := Hid_mk hz
  have HLn := Hid_mk hl
  have HAc := Hid_mk hac
  have HRs := Hid_mk hRs
  have HIh := Hid_mk ih
  have HO := Hid_mk ho
  have HN := Hid_mk hN
  have HKl := Hid_mk hkl
  clear hW0 hr hK0 hB h hqr ih hN hz ho hac hRs hR0 hl hkl
  go_enter Try.func35, Try.ntmps35
  go_wp2_with fail
  rw [HR.out, HW0.out]
  clear HW0
  with_reducible refine HAc.out.mono ?_
  rintro e W1 ⟨t', vk, vf, va, vn, vc, x1, x2, be, tt, rfl, hv1, hr1, hk1, his⟩
  obtain ⟨g, hg⟩ : ∃ r, W1.heap.size = r := ⟨_, rfl⟩
  have h2g : r2 + 1 ≤ g := by have h8 := hk1.size; have h9 := HZ.out; omega
  have hka := (Kp.refl No W1).alloc (.cells #[.int .i64 vk, .int .u64 (wd vf 0 64 : Nat), .int .u64 (wd vf 64 64 : Nat), .int .u64 (wd vf 128 64 : Nat), .int .u64 (wd vf 192 64 : Nat), .slice va vn vc] 27)
  have hrel0 : Row8Rel (RemA l bk N k o R) w0 w q r2 l (.slice (some ⟨g, 0, none⟩) 1 1) (W1.alloc (.cells #[.int .i64 vk, .int .u64 (wd vf 0 64 : Nat), .int .u64 (wd vf 64 64 : Nat), .int .u64 (wd vf 128 64 : Nat), .int .u64 (wd vf 192 64 : Nat), .slice va vn vc] 27)) := by
    have hf := L6.first (w := W1) (base := r2 + 1) (by omega) ⟨vk, vf, va, vn, vc⟩ t' (ReV.wider (fun b hb hl => by have h7 := HZ.out; omega) _ _ hv1)
    rw [hg] at hf
    refine ⟨[(⟨vk, vf, va, vn, vc⟩, t')], g, 1, x1, x2, be, tt, rfl, hf, by simp, by simp, hr1.no hka, ((HK0.out.to (S := fun b => b = q)).trans' hk1).trans hka (T := No) (fun _ _ e => e.elim), (HB.out.kept hk1 (by show ¬ r2 = q; have := HQr.out; omega)).kept hka id, by have h8 := hka.size; omega, ?_⟩
    have hR' := HRs.out
    rw [altsF] at hR'
    rcases hra : rowF l bk N o k with ⟨tr, n2⟩ | ⟨cc, n2⟩
    · rw [hra] at his hR'
      obtain ⟨rfl, rfl, rfl, rfl, rfl, hn1, hn2⟩ := his
      exact .inl ⟨n2, N, rfl, rfl, rfl, rfl, hn1, hn2, by simp; omega, hR', by have := HN.out; omega, Nat.le_refl _⟩
    · rw [hra] at his hR'
      obtain ⟨rfl, rfl, hcc⟩ := his
      exact .inr ⟨cc, n2, hR'.symm, rfl, rfl, hcc⟩
  have HRel0 := Hid_mk hrel0
  have HG := Hid_mk hg
  have H2g := Hid_mk h2g
  clear hv1 hr1 hk1 his h2g hrel0 HRs HAc hka hg
  unfold cellsR
  go_wp2
  rw [HG.out]
  go_loopw [3] (fun s wr => Row8Rel (RemA l bk N k o R) w0 w q r2 l s wr) (fun _ wr => meas8 l wr q)
  case atStart => exact HRel0.out
  case round =>
    obtain ⟨es, g, cap, x1, x2, be, tt, rfl, hL, hne, hel, hrc, hkw, hb2, hz2, hrem⟩ := hrel
    obtain ⟨n, hes⟩ : ∃ n, es.length = n := ⟨_, rfl⟩
    have HEs := Hid_mk hes
    have HL := Hid_mk hL
    have HNe := Hid_mk hne
    have HEl := Hid_mk hel
    have HRc := Hid_mk hrc
    have HKw := Hid_mk hkw
    have HB2 := Hid_mk hb2
    have HZ2 := Hid_mk hz2
    rw [hes]
    clear hes hL hne hel hkw hb2 hz2
    rcases hrem with ⟨n1, m, rfl, rfl, rfl, rfl, hkn, hnl, htn, hR, hm, hmN⟩ | ⟨c, n1, hRb, rfl, rfl, hc⟩
    · have HPl := Hid_mk (meas_ok hrc)
      have c0 := hrc.c0
      have c1 := hrc.c1
      have c3 := hrc.c3
      have HKn := Hid_mk hkn
      have HNl := Hid_mk hnl
      have HTn := Hid_mk htn
      have HRr := Hid_mk hR
      have HM := Hid_mk hm
      have HMN := Hid_mk hmN
      have hisc : Calls Try.prog 54 #[.pointer (some ⟨q, 0, none⟩), .int .u8 124] wr fun e w' => e = .returned (.bool (seesB l n1 [124])) ∧ ∃ n, w' = wr.drewN n := ris_any hrc hnl HLn.out 124
      clear hrc hkn hnl htn hR hm hmN
      by_cases hs : seesB l n1 [124] = true
      · have hRt := HRr.out
        rw [if_pos hs] at hRt
        have hlt := sees_lt hs
        obtain ⟨m1, rfl⟩ : ∃ m', m = m' + 1 := ⟨m - 1, by have := HM.out; omega⟩
        have HRt := Hid_mk hRt
        have HLt := Hid_mk hlt
        rw [hs] at hisc
        have HIsc := Hid_mk hisc
        clear hs hRt hlt hisc
        go_wp2_with fail
        with_reducible refine HIsc.out.mono ?_
        rintro e W3 ⟨rfl, nd, rfl⟩
        go_upto_region 3 with fail
        refine wp_name (fun W => Kp No wr W) ((Kp.refl No wr).drewN _) ?_
        clear c0 c1 c3 HIsc
        rintro W3 hk3
        have HK3 := Hid_mk hk3
        have HR3 := Hid_mk (HRc.out.no hk3)
        have c1 := HR3.out.c1
        have cw := HR3.out.warm
        have hwn : IntKind.i64.wrap ((n1 : Int) + 1) = ((n1 + 1 : Nat) : Int) := by rw [IntWalk.i64_in _ (by have h7 := HLt.out; have h8 := HLn.out; omega)]; push_cast; rfl
        clear hk3
        go_upto_region 4 with fail
        have hs4 : Kp (fun b => b = q) W3 (W3.setCell ⟨q, 1, none⟩ (.int .i64 ((n1 + 1 : Nat) : Int))) := (Kp.refl (fun b => b = q) W3).setCell (p := ⟨q, 1, none⟩) (fun _ => rfl) _
        refine wp_name (fun W => RC w0 W q l ((n1 + 1 : Nat) : Int) (o : Int) 0 0 ∧ L6 W (r2 + 1) (.slice (some ⟨g, 0, none⟩) es.length cap) es ∧ Kp (fun b => b = q) w W ∧ RAt W r2 (.int .i64 0) (.int .u64 0) (.int .u64 0) (.int .u64 0) (.int .u64 0) (.slice none 0 0) ∧ r2 + 1 ≤ W.heap.size) ⟨HR3.out.at' _, (HL.out.kept HK3.out (fun _ _ _ => id)).kept hs4 (fun b hb _ => by have := HQr.out; show ¬ b = q; omega), (HKw.out.trans HK3.out (T := No) fun _ _ e => e.elim).trans' hs4, (HB2.out.kept HK3.out id).kept hs4 (by show ¬ r2 = q; have := HQr.out; omega), Nat.le_trans (Nat.le_trans HZ2.out HK3.out.size) hs4.size⟩ ?_
        clear c1 cw hwn hs4
        rintro W5 ⟨hr5, hl5, hkw5, hb5, hz5⟩
        have HL5 := Hid_mk hl5
        have HKw5 := Hid_mk hkw5
        have HB25 := Hid_mk hb5
        have HZ25 := Hid_mk hz5
        have hsub := HIh.out m1 (by have := HMN.out; omega) W5 (n1 + 1) o hr5 HLt.out HO.out (by have := HM.out; have := HLt.out; omega)
        have HSub := Hid_mk hsub
        clear hr5 hl5 hkw5 hb5 hz5 hsub
        go_wp2_with fail
        with_reducible refine HSub.out.mono ?_
        rintro e W6 ⟨t2, zk, zf, za, zn, zc, x1, x2, be, tt, rfl, hv6, hr6, hk6, his⟩
        have hq5 : q < r2 := HQr.out
        have hsz5 := HZ25.out
        have hL6 := HL5.out.kept hk6 (fun b hb hl => by show ¬ b = q; omega)
        obtain ⟨g', c', w7, hap, hL7, hk7⟩ := hL6.push (B := W5.heap.size) (Nat.le_trans hsz5 hk6.size) ⟨zk, zf, za, zn, zc⟩ t2 hv6 hsz5 (fun gg he => (HL5.out.row.lt gg he).2) (by have h7 := HEl.out; have h8 := HLn.out; omega)
        rw [HEs.out] at hap
        have hr7 := hr6.kept hk7 (by show ¬ r2 + 1 ≤ q; omega) (fun i e _ => by have h1 := hr6.ge; show w0.heap.size ≤ i; have e : r2 + 1 ≤ i := e; omega)
        have hkw7 := (HKw5.out.trans' hk6).trans hk7 (T := fun b => r2 + 1 ≤ b) fun i hi e => by have h7 := HR.out; have e : r2 + 1 ≤ i := e; omega
        have hb7 := (HB25.out.kept hk6 (by show ¬ r2 = q; omega)).kept hk7 (by show ¬ r2 + 1 ≤ r2; omega)
        have hz7 : r2 + 1 ≤ w7.heap.size := Nat.le_trans (Nat.le_trans hsz5 hk6.size) hk7.size
        have HL7 := Hid_mk hL7
        have HR7 := Hid_mk hr7
        have HKw7 := Hid_mk hkw7
        have HB7 := Hid_mk hb7
        have HZ7 := Hid_mk hz7
        have HIs := Hid_mk his
        clear hv6 hr6 hk6 his hq5 hsz5 hL6 hL7 hk7 hr7 hkw7 hb7 hz7
        unfold cellsR at hap ⊢
        go_wp2_with (at_builtin; (refine wpList_append_run rfl _ _ _ _ rfl hap ?_))
        clear hap
        go_wp2
        go_roundw
        case rel =>
          have hlen : (es ++ [((⟨zk, zf, za, zn, zc⟩ : E6), t2)]).length = n + 1 := by simp [HEs.out]
          have hel2 : es.length = n := HEs.out
          refine ⟨es ++ [(⟨zk, zf, za, zn, zc⟩, t2)], g', c', x1, x2, be, tt, by rw [hlen], by rw [hlen]; have h9 := HL7.out; rw [HEs.out] at h9; exact h9, by simp, by rw [hlen]; have h8 := HTn.out; have h9 := HLt.out; rw [List.length_map] at h8; omega, HR7.out, HKw7.out, HB7.out, HZ7.out, ?_⟩
          have his := HIs.out
          have hRt := HRt.out
          rw [altsF] at hRt
          rcases hra : rowF l bk m1 o (n1 + 1) with ⟨tr, n2⟩ | ⟨cc, n2⟩
          · rw [hra] at his hRt
            obtain ⟨rfl, rfl, rfl, rfl, rfl, hn1, hn2⟩ := his
            simp only at hRt
            rw [ahead_if, Ls.ahead_ahead] at hRt
            refine .inl ⟨n2, m1, rfl, rfl, rfl, rfl, by have := HKn.out; omega, hn2, by have h8 := HTn.out; rw [List.length_map] at h8 ⊢; rw [hlen]; omega, ?_, by have := HM.out; omega, by have := HMN.out; omega⟩
            rw [List.map_append]
            exact hRt
          · rw [hra] at his hRt
            obtain ⟨rfl, rfl, hcc⟩ := his
            exact .inr ⟨cc, n2, hRt.symm, rfl, rfl, hcc⟩
        case measure =>
          rw [HPl.out]
          have his := HIs.out
          rcases hra : rowF l bk m1 o (n1 + 1) with ⟨tr, n2⟩ | ⟨cc, n2⟩
          · rw [hra] at his
            obtain ⟨rfl, rfl, rfl, rfl, rfl, hn1, hn2⟩ := his
            rw [meas_ok HR7.out]
            omega
          · rw [hra] at his
            obtain ⟨rfl, rfl, hcc⟩ := his
            rw [meas_bad HR7.out (by omega)]
            omega
      · have hs' : seesB l n1 [124] = false := by simpa using hs
        have hRt := HRr.out
        rw [if_neg hs] at hRt
        have HRR := Hid_mk (show R = .ok (joinT 3 (es.map Prod.snd)) n1 from hRt.symm)
        rw [hs'] at hisc
        have HIsc := Hid_mk hisc
        clear hs hs' hRt hisc
        go_wp2_with fail
        with_reducible refine HIsc.out.mono ?_
        rintro e W3 ⟨rfl, nd, rfl⟩
        go_upto_region 5 with fail
        refine wp_name (fun W => Kp No wr W) ((Kp.refl No wr).drewN _) ?_
        clear c0 c1 c3 HIsc
        rintro W5 hk5
        have HK5 := Hid_mk hk5
        clear hk5
        have hL5 := HL.out.kept HK5.out (fun _ _ _ => id)
        have hrw := rrow_any W5 (r2 + 1) g cap es 3 hL5 (by have h7 := HZ2.out; have h8 := HK5.out.size; omega) HNe.out (by have h7 := HEl.out; have h8 := HLn.out; omega)
        rw [HEs.out] at hrw
        have HRw := Hid_mk hrw
        have hb2 := HB2.out.kept HK5.out id
        have HB25 := Hid_mk hb2
        have HR5 := Hid_mk (HRc.out.no HK5.out)
        have HKw5 := Hid_mk (HKw.out.trans HK5.out (T := No) fun _ _ e => e.elim)
        clear hL5 hrw hb2
        go_wp2_with fail
        with_reducible refine HRw.out.mono ?_
        rintro e W8 ⟨uk, uf, ua, un, uc, rfl, huv, huk⟩
        have HUv := Hid_mk huv
        have HUk := Hid_mk huk
        obtain ⟨r0, r1, r2', r3, r4, r5, rw'⟩ := HB25.out.kept huk id
        clear huv huk
        unfold cellsR
        go_wp2
        have hkz : Kp (fun b => b = r2) W8 (putR W8 r2 (.int .i64 uk) (.int .u64 (wd uf 0 64 : Nat)) (.int .u64 (wd uf 64 64 : Nat)) (.int .u64 (wd uf 128 64 : Nat)) (.int .u64 (wd uf 192 64 : Nat)) (.slice ua un uc)) := kp_putR (q := r2) (Kp.refl (fun b => b = r2) W8) (fun _ => rfl) _ _ _ _ _ _
        have hRz := (HR5.out.no HUk.out).kept hkz (by show ¬ q = r2; have := HQr.out; omega) (fun i e _ => by have h1 := HR5.out.ge; have h2 := HQr.out; show w0.heap.size ≤ i; have e : i = r2 := e; omega)
        have hkf := (HKw5.out.trans HUk.out (T := No) fun _ _ e => e.elim).trans hkz (T := fun b => b = r2) fun i hi e => by have := HR.out; omega
        refine bodyPost_ret (v := .agg (cellsR uk uf ua un uc)) ?_ rfl ?_
        · simp [results, Try.results35, go_sem, r0, r1, r2', r3, r4, r5]
        · refine ⟨_, uk, uf, ua, un, uc, _, _, _, _, rfl, ReV.wider (fun b hb _ => by have h7 := HR.out; omega) _ _ (ReV.kept hkz (fun b hb _ => by show ¬ b = r2; omega) _ _ HUv.out), hRz, hkf, ?_⟩
          rw [HRR.out]
          exact ⟨rfl, rfl, rfl, rfl, rfl, HKn.out, HNl.out⟩
    · have HRR := Hid_mk hRb
      have HC := Hid_mk hc
      have c3 := hrc.c3
      have hc0 : ((c : Int) == 0) = false := by rw [beq_eq_false_iff_ne]; omega
      clear hrc hRb hc
      go_upto_region 5 with fail
      clear c3 hc0
      refine wp_name (fun W => Kp No wr W) (Kp.refl No wr) ?_
      rintro W5 hk5
      have HK5 := Hid_mk hk5
      clear hk5
      have hL5 := HL.out.kept HK5.out (fun _ _ _ => id)
      have hrw := rrow_any W5 (r2 + 1) g cap es 3 hL5 (by have h7 := HZ2.out; have h8 := HK5.out.size; omega) HNe.out (by have h7 := HEl.out; have h8 := HLn.out; omega)
      rw [HEs.out] at hrw
      have HRw := Hid_mk hrw
      have hb2 := HB2.out.kept HK5.out id
      have HB25 := Hid_mk hb2
      have HR5 := Hid_mk (HRc.out.no HK5.out)
      have HKw5 := Hid_mk (HKw.out.trans HK5.out (T := No) fun _ _ e => e.elim)
      clear hL5 hrw hb2
      go_wp2_with fail
      with_reducible refine HRw.out.mono ?_
      rintro e W8 ⟨uk, uf, ua, un, uc, rfl, huv, huk⟩
      have HUv := Hid_mk huv
      have HUk := Hid_mk huk
      obtain ⟨r0, r1, r2', r3, r4, r5, rw'⟩ := HB25.out.kept huk id
      clear huv huk
      unfold cellsR
      go_wp2
      have hkz : Kp (fun b => b = r2) W8 (putR W8 r2 (.int .i64 uk) (.int .u64 (wd uf 0 64 : Nat)) (.int .u64 (wd uf 64 64 : Nat)) (.int .u64 (wd uf 128 64 : Nat)) (.int .u64 (wd uf 192 64 : Nat)) (.slice ua un uc)) := kp_putR (q := r2) (Kp.refl (fun b => b = r2) W8) (fun _ => rfl) _ _ _ _ _ _
      have hRz := (HR5.out.no HUk.out).kept hkz (by show ¬ q = r2; have := HQr.out; omega) (fun i e _ => by have h1 := HR5.out.ge; have h2 := HQr.out; show w0.heap.size ≤ i; have e : i = r2 := e; omega)
      have hkf := (HKw5.out.trans HUk.out (T := No) fun _ _ e => e.elim).trans hkz (T := fun b => b = r2) fun i hi e => by have := HR.out; omega
      refine bodyPost_ret (v := .agg (cellsR uk uf ua un uc)) ?_ rfl ?_
      · simp [results, Try.results35, go_sem, r0, r1, r2', r3, r4, r5]
      · refine ⟨_, uk, uf, ua, un, uc, _, _, _, _, rfl, ReV.wider (fun b hb _ => by have h7 := HR.out; omega) _ _ (ReV.kept hkz (fun b hb _ => by show ¬ b = r2; omega) _ _ HUv.out), hRz, hkf, ?_⟩
        rw [HRR.out]
        exact ⟨rfl, rfl, HC.out⟩

end Go.Proofs.Ytdognehkbahmdaa.ere
