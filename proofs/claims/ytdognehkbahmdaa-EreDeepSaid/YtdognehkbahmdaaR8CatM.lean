/- The reference's reader: rows of pieces. Regular expressions, plain: how deep; what is parsed of a text of few bytes is shaped and has no more leaves than bytes; each tree is the same as itself. The reference's Parse, over texts of few bytes. -/
import Derived.Test.YtdognehkbahmdaaR8PieceM
import Derived.Test.YtdognehkbahmdaaR8Atom
import Derived.Test.YtdognehkbahmdaaRefSameM
import Derived.StillTailTactics

namespace Go.Proofs.Ytdognehkbahmdaa.ere
open Go.RowKit Go.Proofs.Ytdognehkbahmdaa.sum Go.Proofs.Ytdognehkbahmdaa.kept Go.Proofs.Ytdognehkbahmdaa.pop Go.Proofs.Ytdognehkbahmdaa.cls Go.Proofs.Ytdognehkbahmdaa.tre Go.Proofs.Ytdognehkbahmdaa.str
set_option linter.unusedVariables false


set_option maxRecDepth 100000 in
set_option maxHeartbeats 8000000 in
theorem r8cat_any {w0 : World} {q : Nat} {l : List UInt8} {bk : Nat → Option ((Nat → Bool) × Nat)} (hl : l.length < 1000000000) (N : Nat) (ih : ∀ m, m < N → Piece8 w0 q l bk m) (w : World) (k o : Nat) (h : RC w0 w q l k o 0 0) (hkl : k ≤ l.length) (ho : o ≤ 10) (hN : 8 * (l.length - k) + 6 ≤ N) :
    Calls Try.prog 53 #[.pointer (some ⟨q, 0, none⟩)] w (R8Post w0 w q l k o ((piecesF l bk N o k).join 2)) := by
  obtain ⟨N, rfl⟩ : ∃ N', N = N' + 1 := ⟨N - 1, by omega⟩
  obtain ⟨W0, hW0⟩ : ∃ W0, w.alloc (.cells #[.int .i64 0, .int .u64 0, .int .u64 0, .int .u64 0, .int .u64 0, .slice none 0 0] 27) = W0 := ⟨_, rfl⟩
  obtain ⟨r2, hr⟩ : ∃ r, w.heap.size = r := ⟨_, rfl⟩
  have hK0 : Kp No w W0 := by rw [← hW0]; exact (Kp.refl No w).alloc _
  have hz : W0.heap.size = r2 + 1 := by rw [← hW0, ← hr]; simp
  have hB : RAt W0 r2 (.int .i64 0) (.int .u64 0) (.int .u64 0) (.int .u64 0) (.int .u64 0) (.slice none 0 0) := by
    rw [← hW0, ← hr]
    exact RAt.new w _ _ _ _ _ _ _
  have hR0 := h.no hK0
  have hqr : q < r2 := by have := h.lt; omega
  have hac := ih N (Nat.lt_succ_self _) W0 k o hR0 hkl ho (by omega)
  obtain ⟨R, hRs⟩ : ∃ R, (piecesF l bk (N + 1) o k).join 2 = R := ⟨_, rfl⟩
  rw [hRs]
  have hsz := st_size l
  have HW0 := Hid_mk hW0
  have HR := Hid_mk hr
  have HQr := Hid_mk hqr
  have HB := Hid_mk hB
  have HK0 := Hid_mk hK0
  have HZ := Hid_mk hz
  have HLn := Hid_mk hl
  have HAc := Hid_mk hac
  have HRs := Hid_mk hRs
  have HIh := Hid_mk ih
  have HO := Hid_mk ho
  have HN := Hid_mk hN
  have HKl := Hid_mk hkl
  clear hW0 hr hK0 hB h hqr ih hN hz ho hac hRs hR0 hl hkl
  go_enter Try.func53, Try.ntmps53
  go_wp2_with fail
  rw [HR.out, HW0.out]
  clear HW0
  with_reducible refine HAc.out.mono ?_
  rintro e W1 ⟨t', vk, vf, va, vn, vc, x1, x2, be, tt, rfl, hv1, hr1, hk1, his⟩
  obtain ⟨g, hg⟩ : ∃ r, W1.heap.size = r := ⟨_, rfl⟩
  have h2g : r2 + 1 ≤ g := by have h8 := hk1.size; have h9 := HZ.out; omega
  have hka := (Kp.refl No W1).alloc (.cells #[.int .i64 vk, .int .u64 (wd vf 0 64 : Nat), .int .u64 (wd vf 64 64 : Nat), .int .u64 (wd vf 128 64 : Nat), .int .u64 (wd vf 192 64 : Nat), .slice va vn vc] 27)
  have hrel0 : Row8Rel (RemC l bk N k o R) w0 w q r2 l (.slice (some ⟨g, 0, none⟩) 1 1) (W1.alloc (.cells #[.int .i64 vk, .int .u64 (wd vf 0 64 : Nat), .int .u64 (wd vf 64 64 : Nat), .int .u64 (wd vf 128 64 : Nat), .int .u64 (wd vf 192 64 : Nat), .slice va vn vc] 27)) := by
    have hf := L6.first (w := W1) (base := r2 + 1) (by omega) ⟨vk, vf, va, vn, vc⟩ t' (ReV.wider (fun b hb hl => by have h7 := HZ.out; omega) _ _ hv1)
    rw [hg] at hf
    refine ⟨[(⟨vk, vf, va, vn, vc⟩, t')], g, 1, x1, x2, be, tt, rfl, hf, by simp, by simp, hr1.no hka, ((HK0.out.to (S := fun b => b = q)).trans' hk1).trans hka (T := No) (fun _ _ e => e.elim), (HB.out.kept hk1 (by show ¬ r2 = q; have := HQr.out; omega)).kept hka id, by have h8 := hka.size; omega, ?_⟩
    have hR' := HRs.out
    rw [piecesF] at hR'
    rcases hra : pieceF l bk N o k with ⟨tr, n2⟩ | ⟨cc, n2⟩
    · rw [hra] at his hR'
      obtain ⟨rfl, rfl, rfl, rfl, rfl, hn1, hn2⟩ := his
      exact .inl ⟨n2, N, rfl, rfl, rfl, rfl, hn1, hn2, by simp; omega, hR', by have := HN.out; omega, Nat.le_refl _⟩
    · rw [hra] at his hR'
      obtain ⟨rfl, rfl, hcc⟩ := his
      exact .inr ⟨cc, n2, hR'.symm, rfl, rfl, hcc⟩
  have HRel0 := Hid_mk hrel0
  have HG := Hid_mk hg
  have H2g := Hid_mk h2g
  clear hv1 hr1 hk1 his h2g hrel0 HRs HAc hka hg
  unfold cellsR
  go_wp2
  rw [HG.out]
  go_loopw [3] (fun s wr => Row8Rel (RemC l bk N k o R) w0 w q r2 l s wr) (fun _ wr => meas8 l wr q)
  case atStart => exact HRel0.out
  case round =>
    obtain ⟨es, g, cap, x1, x2, be, tt, rfl, hL, hne, hel, hrc, hkw, hb2, hz2, hrem⟩ := hrel
    obtain ⟨n, hes⟩ : ∃ n, es.length = n := ⟨_, rfl⟩
    have HEs := Hid_mk hes
    have HL := Hid_mk hL
    have HNe := Hid_mk hne
    have HEl := Hid_mk hel
    have HRc := Hid_mk hrc
    have HKw := Hid_mk hkw
    have HB2 := Hid_mk hb2
    have HZ2 := Hid_mk hz2
    rw [hes]
    clear hes hL hne hel hkw hb2 hz2
    rcases hrem with ⟨n1, m, rfl, rfl, rfl, rfl, hkn, hnl, htn, hR, hm, hmN⟩ | ⟨c, n1, hRb, rfl, rfl, hc⟩
    · have HPl := Hid_mk (meas_ok hrc)
      have c0 := hrc.c0
      have c1 := hrc.c1
      have c3 := hrc.c3
      have HKn := Hid_mk hkn
      have HNl := Hid_mk hnl
      have HTn := Hid_mk htn
      have HRr := Hid_mk hR
      have HM := Hid_mk hm
      have HMN := Hid_mk hmN
      have q124 : ∀ V : Bool, seesB l n1 [124] = V → ∀ nn, _ := fun V hV nn => Calls.quiet_of (show Calls Try.prog 54 #[.pointer (some ⟨q, 0, none⟩), .int .u8 124] (wr.drewN nn) (fun e w' => e = .returned (.bool V) ∧ ∃ n, w' = (wr.drewN nn).drewN n) from hV ▸ ris_any (hrc.no ((Kp.refl No wr).drewN nn)) hnl HLn.out 124)
      have q41 : ∀ V : Bool, seesB l n1 [41] = V → ∀ nn, _ := fun V hV nn => Calls.quiet_of (show Calls Try.prog 54 #[.pointer (some ⟨q, 0, none⟩), .int .u8 41] (wr.drewN nn) (fun e w' => e = .returned (.bool V) ∧ ∃ n, w' = (wr.drewN nn).drewN n) from hV ▸ ris_any (hrc.no ((Kp.refl No wr).drewN nn)) hnl HLn.out 41)
      by_cases hlt : n1 < l.length
      · have hnd : decide (n1 < l.length) = true := decide_eq_true hlt
        have hni : (n1 : Int) < (l.length : Int) := by omega
        by_cases hs1 : seesB l n1 [124] = true
        · have hRt := HRr.out
          rw [if_pos (.inr (by rw [sees2, hs1]; rfl))] at hRt
          have HRR := Hid_mk (show R = .ok (joinT 2 (es.map Prod.snd)) n1 from hRt.symm)
          have H1 := Hid_mk (q124 true hs1)
          clear hrc hkn hnl htn hR hm hmN q124 q41 hs1 hRt hlt
          go_wp2
          go_quiet ((go_at_call 54; exact H1.out _))
          go_upto_region 4 with fail
          refine wp_name (fun W => Kp No wr W) ((Kp.refl No wr).drewN _) ?_
          clear c0 c1 c3 H1 hnd hni
          rintro W5 hk5
          have HK5 := Hid_mk hk5
          clear hk5
          have hL5 := HL.out.kept HK5.out (fun _ _ _ => id)
          have hrw := rrow_any W5 (r2 + 1) g cap es 2 hL5 (by have h7 := HZ2.out; have h8 := HK5.out.size; omega) HNe.out (by have h7 := HEl.out; have h8 := HLn.out; omega)
          rw [HEs.out] at hrw
          have HRw := Hid_mk hrw
          have hb2 := HB2.out.kept HK5.out id
          have HB25 := Hid_mk hb2
          have HR5 := Hid_mk (HRc.out.no HK5.out)
          have HKw5 := Hid_mk (HKw.out.trans HK5.out (T := No) fun _ _ e => e.elim)
          clear hL5 hrw hb2
          go_wp2_with fail
          with_reducible refine HRw.out.mono ?_
          rintro e W8 ⟨uk, uf, ua, un, uc, rfl, huv, huk⟩
          have HUv := Hid_mk huv
          have HUk := Hid_mk huk
          obtain ⟨r0, r1, r2', r3, r4, r5, rw'⟩ := HB25.out.kept huk id
          clear huv huk
          unfold cellsR
          go_wp2
          have hkz : Kp (fun b => b = r2) W8 (putR W8 r2 (.int .i64 uk) (.int .u64 (wd uf 0 64 : Nat)) (.int .u64 (wd uf 64 64 : Nat)) (.int .u64 (wd uf 128 64 : Nat)) (.int .u64 (wd uf 192 64 : Nat)) (.slice ua un uc)) := kp_putR (q := r2) (Kp.refl (fun b => b = r2) W8) (fun _ => rfl) _ _ _ _ _ _
          have hRz := (HR5.out.no HUk.out).kept hkz (by show ¬ q = r2; have := HQr.out; omega) (fun i e _ => by have h1 := HR5.out.ge; have h2 := HQr.out; show w0.heap.size ≤ i; have e : i = r2 := e; omega)
          have hkf := (HKw5.out.trans HUk.out (T := No) fun _ _ e => e.elim).trans hkz (T := fun b => b = r2) fun i hi e => by have := HR.out; omega
          refine bodyPost_ret (v := .agg (cellsR uk uf ua un uc)) ?_ rfl ?_
          · simp [results, Try.results53, go_sem, r0, r1, r2', r3, r4, r5]
          · refine ⟨_, uk, uf, ua, un, uc, _, _, _, _, rfl, ReV.wider (fun b hb _ => by have h7 := HR.out; omega) _ _ (ReV.kept hkz (fun b hb _ => by show ¬ b = r2; omega) _ _ HUv.out), hRz, hkf, ?_⟩
            rw [HRR.out]
            exact ⟨rfl, rfl, rfl, rfl, rfl, HKn.out, HNl.out⟩
        have hs1' : seesB l n1 [124] = false := by simpa using hs1
        by_cases hs2 : seesB l n1 [41] = true
        · have hRt := HRr.out
          rw [if_pos (.inr (by rw [sees2, hs2, hs1']; rfl))] at hRt
          have HRR := Hid_mk (show R = .ok (joinT 2 (es.map Prod.snd)) n1 from hRt.symm)
          have H1 := Hid_mk (q124 false hs1')
          have H2 := Hid_mk (q41 true hs2)
          clear hrc hkn hnl htn hR hm hmN q124 q41 hs1 hs1' hs2 hRt hlt
          go_wp2
          go_quiet ((first | (go_at_call 54; with_reducible exact H1.out _) | (go_at_call 54; with_reducible exact H2.out _)))
          go_upto_region 4 with fail
          refine wp_name (fun W => Kp No wr W) ((Kp.refl No wr).drewN _) ?_
          clear c0 c1 c3 H1 H2 hnd hni
          rintro W5 hk5
          have HK5 := Hid_mk hk5
          clear hk5
          have hL5 := HL.out.kept HK5.out (fun _ _ _ => id)
          have hrw := rrow_any W5 (r2 + 1) g cap es 2 hL5 (by have h7 := HZ2.out; have h8 := HK5.out.size; omega) HNe.out (by have h7 := HEl.out; have h8 := HLn.out; omega)
          rw [HEs.out] at hrw
          have HRw := Hid_mk hrw
          have hb2 := HB2.out.kept HK5.out id
          have HB25 := Hid_mk hb2
          have HR5 := Hid_mk (HRc.out.no HK5.out)
          have HKw5 := Hid_mk (HKw.out.trans HK5.out (T := No) fun _ _ e => e.elim)
          clear hL5 hrw hb2
          go_wp2_with fail
          with_reducible refine HRw.out.mono ?_
          rintro e W8 ⟨uk, uf, ua, un, uc, rfl, huv, huk⟩
          have HUv := Hid_mk huv
          have HUk := Hid_mk huk
          obtain ⟨r0, r1, r2', r3, r4, r5, rw'⟩ := HB25.out.kept huk id
          clear huv huk
          unfold cellsR
          go_wp2
          have hkz : Kp (fun b => b = r2) W8 (putR W8 r2 (.int .i64 uk) (.int .u64 (wd uf 0 64 : Nat)) (.int .u64 (wd uf 64 64 : Nat)) (.int .u64 (wd uf 128 64 : Nat)) (.int .u64 (wd uf 192 64 : Nat)) (.slice ua un uc)) := kp_putR (q := r2) (Kp.refl (fun b => b = r2) W8) (fun _ => rfl) _ _ _ _ _ _
          have hRz := (HR5.out.no HUk.out).kept hkz (by show ¬ q = r2; have := HQr.out; omega) (fun i e _ => by have h1 := HR5.out.ge; have h2 := HQr.out; show w0.heap.size ≤ i; have e : i = r2 := e; omega)
          have hkf := (HKw5.out.trans HUk.out (T := No) fun _ _ e => e.elim).trans hkz (T := fun b => b = r2) fun i hi e => by have := HR.out; omega
          refine bodyPost_ret (v := .agg (cellsR uk uf ua un uc)) ?_ rfl ?_
          · simp [results, Try.results53, go_sem, r0, r1, r2', r3, r4, r5]
          · refine ⟨_, uk, uf, ua, un, uc, _, _, _, _, rfl, ReV.wider (fun b hb _ => by have h7 := HR.out; omega) _ _ (ReV.kept hkz (fun b hb _ => by show ¬ b = r2; omega) _ _ HUv.out), hRz, hkf, ?_⟩
            rw [HRR.out]
            exact ⟨rfl, rfl, rfl, rfl, rfl, HKn.out, HNl.out⟩
        have hs2' : seesB l n1 [41] = false := by simpa using hs2
        have hRt := HRr.out
        have hno : ¬ (n1 = l.length ∨ seesB l n1 [124, 41] = true) := by
          rw [sees2, hs1', hs2']
          intro h
          rcases h with e | e
          · omega
          · cases e
        rw [if_neg hno] at hRt
        clear hno
        obtain ⟨m1, rfl⟩ : ∃ m', m = m' + 1 := ⟨m - 1, by have := HM.out; omega⟩
        have HRt := Hid_mk hRt
        have HLt := Hid_mk hlt
        have H1 := Hid_mk (q124 false hs1')
        have H2 := Hid_mk (q41 false hs2')
        clear hrc hkn hnl htn hR hm hmN q124 q41 hs1 hs1' hs2 hs2' hRt hlt
        go_wp2
        go_quiet ((first | (go_at_call 54; with_reducible exact H1.out _) | (go_at_call 54; with_reducible exact H2.out _)))
        go_upto_region 3 with fail
        refine wp_name (fun W => Kp No wr W) ((Kp.refl No wr).drewN _) ?_
        clear c0 c1 c3 H1 H2 hnd hni
        rintro W5 hk5
        have HL5 := Hid_mk (HL.out.kept hk5 (fun _ _ _ => id))
        have HKw5 := Hid_mk (HKw.out.trans hk5 (T := No) fun _ _ e => e.elim)
        have HB25 := Hid_mk (HB2.out.kept hk5 id)
        have HZ25 := Hid_mk (Nat.le_trans HZ2.out hk5.size)
        have hsub := HIh.out m1 (by have := HMN.out; omega) W5 n1 o (HRc.out.no hk5) HNl.out HO.out (by have := HM.out; have := HLt.out; omega)
        have HSub := Hid_mk hsub
        clear hk5 hsub
        go_wp2_with fail
        with_reducible refine HSub.out.mono ?_
        rintro e W6 ⟨t2, zk, zf, za, zn, zc, x1, x2, be, tt, rfl, hv6, hr6, hk6, his⟩
        have hq5 : q < r2 := HQr.out
        have hsz5 := HZ25.out
        have hL6 := HL5.out.kept hk6 (fun b hb hl => by show ¬ b = q; omega)
        obtain ⟨g', c', w7, hap, hL7, hk7⟩ := hL6.push (B := W5.heap.size) (Nat.le_trans hsz5 hk6.size) ⟨zk, zf, za, zn, zc⟩ t2 hv6 hsz5 (fun gg he => (HL5.out.row.lt gg he).2) (by have h7 := HEl.out; have h8 := HLn.out; omega)
        rw [HEs.out] at hap
        have hr7 := hr6.kept hk7 (by show ¬ r2 + 1 ≤ q; omega) (fun i e _ => by have h1 := hr6.ge; show w0.heap.size ≤ i; have e : r2 + 1 ≤ i := e; omega)
        have hkw7 := (HKw5.out.trans' hk6).trans hk7 (T := fun b => r2 + 1 ≤ b) fun i hi e => by have h7 := HR.out; have e : r2 + 1 ≤ i := e; omega
        have hb7 := (HB25.out.kept hk6 (by show ¬ r2 = q; omega)).kept hk7 (by show ¬ r2 + 1 ≤ r2; omega)
        have hz7 : r2 + 1 ≤ w7.heap.size := Nat.le_trans (Nat.le_trans hsz5 hk6.size) hk7.size
        have HL7 := Hid_mk hL7
        have HR7 := Hid_mk hr7
        have HKw7 := Hid_mk hkw7
        have HB7 := Hid_mk hb7
        have HZ7 := Hid_mk hz7
        have HIs := Hid_mk his
        clear hv6 hr6 hk6 his hq5 hsz5 hL6 hL7 hk7 hr7 hkw7 hb7 hz7
        unfold cellsR at hap ⊢
        go_wp2_with (at_builtin; (refine wpList_append_run rfl _ _ _ _ rfl hap ?_))
        clear hap
        go_wp2
        go_roundw
        case rel =>
          have hlen : (es ++ [((⟨zk, zf, za, zn, zc⟩ : E6), t2)]).length = n + 1 := by simp [HEs.out]
          have hel2 : es.length = n := HEs.out
          refine ⟨es ++ [(⟨zk, zf, za, zn, zc⟩, t2)], g', c', x1, x2, be, tt, by rw [hlen], by rw [hlen]; have h9 := HL7.out; rw [HEs.out] at h9; exact h9, by simp, by rw [hlen]; have h8 := HTn.out; have h9 := HLt.out; rw [List.length_map] at h8; omega, HR7.out, HKw7.out, HB7.out, HZ7.out, ?_⟩
          have his := HIs.out
          have hRt := HRt.out
          rw [piecesF] at hRt
          rcases hra : pieceF l bk m1 o n1 with ⟨tr, n2⟩ | ⟨cc, n2⟩
          · rw [hra] at his hRt
            obtain ⟨rfl, rfl, rfl, rfl, rfl, hn1, hn2⟩ := his
            simp only at hRt
            rw [ahead_if, Ls.ahead_ahead] at hRt
            refine .inl ⟨n2, m1, rfl, rfl, rfl, rfl, by have := HKn.out; omega, hn2, by have h8 := HTn.out; rw [List.length_map] at h8 ⊢; rw [hlen]; omega, ?_, by have := HM.out; omega, by have := HMN.out; omega⟩
            rw [List.map_append]
            exact hRt
          · rw [hra] at his hRt
            obtain ⟨rfl, rfl, hcc⟩ := his
            exact .inr ⟨cc, n2, hRt.symm, rfl, rfl, hcc⟩
        case measure =>
          rw [HPl.out]
          have his := HIs.out
          rcases hra : pieceF l bk m1 o n1 with ⟨tr, n2⟩ | ⟨cc, n2⟩
          · rw [hra] at his
            obtain ⟨rfl, rfl, rfl, rfl, rfl, hn1, hn2⟩ := his
            rw [meas_ok HR7.out]
            omega
          · rw [hra] at his
            obtain ⟨rfl, rfl, hcc⟩ := his
            rw [meas_bad HR7.out (by omega)]
            omega
      · have hnd : decide (n1 < l.length) = false := decide_eq_false hlt
        have hni : ¬ (n1 : Int) < (l.length : Int) := by omega
        have hRt := HRr.out
        rw [if_pos (.inl (by omega))] at hRt
        have HRR := Hid_mk (show R = .ok (joinT 2 (es.map Prod.snd)) n1 from hRt.symm)
        clear hrc hkn hnl htn hR hm hmN q124 q41 hRt hlt
        go_wp2
        go_quiet (fail)
        go_upto_region 4 with fail
        refine wp_name (fun W => Kp No wr W) ((Kp.refl No wr).drewN _) ?_
        clear c0 c1 c3 hnd hni
        rintro W5 hk5
        have HK5 := Hid_mk hk5
        clear hk5
        have hL5 := HL.out.kept HK5.out (fun _ _ _ => id)
        have hrw := rrow_any W5 (r2 + 1) g cap es 2 hL5 (by have h7 := HZ2.out; have h8 := HK5.out.size; omega) HNe.out (by have h7 := HEl.out; have h8 := HLn.out; omega)
        rw [HEs.out] at hrw
        have HRw := Hid_mk hrw
        have hb2 := HB2.out.kept HK5.out id
        have HB25 := Hid_mk hb2
        have HR5 := Hid_mk (HRc.out.no HK5.out)
        have HKw5 := Hid_mk (HKw.out.trans HK5.out (T := No) fun _ _ e => e.elim)
        clear hL5 hrw hb2
        go_wp2_with fail
        with_reducible refine HRw.out.mono ?_
        rintro e W8 ⟨uk, uf, ua, un, uc, rfl, huv, huk⟩
        have HUv := Hid_mk huv
        have HUk := Hid_mk huk
        obtain ⟨r0, r1, r2', r3, r4, r5, rw'⟩ := HB25.out.kept huk id
        clear huv huk
        unfold cellsR
        go_wp2
        have hkz : Kp (fun b => b = r2) W8 (putR W8 r2 (.int .i64 uk) (.int .u64 (wd uf 0 64 : Nat)) (.int .u64 (wd uf 64 64 : Nat)) (.int .u64 (wd uf 128 64 : Nat)) (.int .u64 (wd uf 192 64 : Nat)) (.slice ua un uc)) := kp_putR (q := r2) (Kp.refl (fun b => b = r2) W8) (fun _ => rfl) _ _ _ _ _ _
        have hRz := (HR5.out.no HUk.out).kept hkz (by show ¬ q = r2; have := HQr.out; omega) (fun i e _ => by have h1 := HR5.out.ge; have h2 := HQr.out; show w0.heap.size ≤ i; have e : i = r2 := e; omega)
        have hkf := (HKw5.out.trans HUk.out (T := No) fun _ _ e => e.elim).trans hkz (T := fun b => b = r2) fun i hi e => by have := HR.out; omega
        refine bodyPost_ret (v := .agg (cellsR uk uf ua un uc)) ?_ rfl ?_
        · simp [results, Try.results53, go_sem, r0, r1, r2', r3, r4, r5]
        · refine ⟨_, uk, uf, ua, un, uc, _, _, _, _, rfl, ReV.wider (fun b hb _ => by have h7 := HR.out; omega) _ _ (ReV.kept hkz (fun b hb _ => by show ¬ b = r2; omega) _ _ HUv.out), hRz, hkf, ?_⟩
          rw [HRR.out]
          exact ⟨rfl, rfl, rfl, rfl, rfl, HKn.out, HNl.out⟩
    · have HRR := Hid_mk hRb
      have HC := Hid_mk hc
      have c3 := hrc.c3
      have hc0 : ((c : Int) == 0) = false := by rw [beq_eq_false_iff_ne]; omega
      clear hrc hRb hc
      go_wp2
      go_quiet (fail)
      go_upto_region 4 with fail
      refine wp_name (fun W => Kp No wr W) ((Kp.refl No wr).drewN _) ?_
      clear c3 hc0
      rintro W5 hk5
      have HK5 := Hid_mk hk5
      clear hk5
      have hL5 := HL.out.kept HK5.out (fun _ _ _ => id)
      have hrw := rrow_any W5 (r2 + 1) g cap es 2 hL5 (by have h7 := HZ2.out; have h8 := HK5.out.size; omega) HNe.out (by have h7 := HEl.out; have h8 := HLn.out; omega)
      rw [HEs.out] at hrw
      have HRw := Hid_mk hrw
      have hb2 := HB2.out.kept HK5.out id
      have HB25 := Hid_mk hb2
      have HR5 := Hid_mk (HRc.out.no HK5.out)
      have HKw5 := Hid_mk (HKw.out.trans HK5.out (T := No) fun _ _ e => e.elim)
      clear hL5 hrw hb2
      go_wp2_with fail
      with_reducible refine HRw.out.mono ?_
      rintro e W8 ⟨uk, uf, ua, un, uc, rfl, huv, huk⟩
      have HUv := Hid_mk huv
      have HUk := Hid_mk huk
      obtain ⟨r0, r1, r2', r3, r4, r5, rw'⟩ := HB25.out.kept huk id
      clear huv huk
      unfold cellsR
      go_wp2
      have hkz : Kp (fun b => b = r2) W8 (putR W8 r2 (.int .i64 uk) (.int .u64 (wd uf 0 64 : Nat)) (.int .u64 (wd uf 64 64 : Nat)) (.int .u64 (wd uf 128 64 : Nat)) (.int .u64 (wd uf 192 64 : Nat)) (.slice ua un uc)) := kp_putR (q := r2) (Kp.refl (fun b => b = r2) W8) (fun _ => rfl) _ _ _ _ _ _
      have hRz := (HR5.out.no HUk.out).kept hkz (by show ¬ q = r2; have := HQr.out; omega) (fun i e _ => by have h1 := HR5.out.ge; have h2 := HQr.out; show w0.heap.size ≤ i; have e : i = r2 := e; omega)
      have hkf := (HKw5.out.trans HUk.out (T := No) fun _ _ e => e.elim).trans hkz (T := fun b => b = r2) fun i hi e => by have := HR.out; omega
      refine bodyPost_ret (v := .agg (cellsR uk uf ua un uc)) ?_ rfl ?_
      · simp [results, Try.results53, go_sem, r0, r1, r2', r3, r4, r5]
      · refine ⟨_, uk, uf, ua, un, uc, _, _, _, _, rfl, ReV.wider (fun b hb _ => by have h7 := HR.out; omega) _ _ (ReV.kept hkz (fun b hb _ => by show ¬ b = r2; omega) _ _ HUv.out), hRz, hkf, ?_⟩
        rw [HRR.out]
        exact ⟨rfl, rfl, HC.out⟩

end Go.Proofs.Ytdognehkbahmdaa.ere

namespace Go.Proofs.Ytdognehkbahmdaa.ere
open Go.RowKit Go.Proofs.Ytdognehkbahmdaa.sum Go.Proofs.Ytdognehkbahmdaa.kept Go.Proofs.Ytdognehkbahmdaa.pop Go.Proofs.Ytdognehkbahmdaa.cls Go.Proofs.Ytdognehkbahmdaa.tre Go.Proofs.Ytdognehkbahmdaa.str
set_option linter.unusedVariables false

mutual
theorem deep_high : ∀ (t : Tr) (n : Nat), deepS t n = decide (highS t ≤ n)
  | .mk k f l, 0 => by
    rw [deepS, highS]
    symm
    exact decide_eq_false (by omega)
  | .mk k f l, n + 1 => by
    rw [deepS, highS, deepL_high k l 0 (n + 1) (by omega)]
    rw [Bool.eq_iff_iff]
    simp
    omega
theorem deepL_high (k : Int) : ∀ (l : List Tr) (i n : Nat), 1 ≤ n → deepL k n i l = decide (highL k i l ≤ n)
  | [], i, n, _ => by simp [deepL, highL]
  | t :: l, i, n, hn => by
    rw [deepL, highL, deep_high t, deepL_high k l (i + 1) n hn, Bool.eq_iff_iff]
    by_cases h : sameB k i = true
    · rw [if_pos h, if_pos h]
      simp
      omega
    · rw [if_neg h, if_neg h]
      simp
      omega
end
theorem right_fits {t : Tr} (h : shapedS t = true) : rightS t = fitsB t := by
  unfold rightS fitsB
  rw [h, deep_high, Bool.true_and, Bool.and_comm]
mutual
theorem same_self : ∀ t : Tr, sameS t t = true
  | .mk k f l => by
    simp [sameS, sameL_self l, eqB]
theorem sameL_self : ∀ l : List Tr, sameL l l = true
  | [] => by simp [sameL]
  | t :: l => by simp [sameL, same_self t, sameL_self l]
end
theorem zero_nul : zeroB nul = true := by simp [zeroB, wd_nul]
theorem shaped1 {k : Int} {t : Tr} (hk : k = 4 ∨ k = 5 ∨ k = 6) (h : shapedS t = true) : shapedS (kid1 k t) = true := by
  unfold kid1
  rw [shapedS, shapedL, shapedL, h, zero_nul]
  rcases hk with rfl | rfl | rfl <;> rfl
theorem shaped2 {k : Int} {t u : Tr} (hk : k = 2 ∨ k = 3) (h : shapedS t = true) (h' : shapedS u = true) : shapedS (kid2 k t u) = true := by
  unfold kid2
  rw [shapedS, shapedL, shapedL, shapedL, h, h', zero_nul]
  rcases hk with rfl | rfl <;> rfl
theorem shapedJ {k : Int} (hk : k = 2 ∨ k = 3) : ∀ l : List Tr, l ≠ [] → shapedL l = true → shapedS (joinT k l) = true
  | [], h, _ => absurd rfl h
  | [t], _, h => by simpa [shapedL, joinT] using h
  | t :: u :: l, _, h => by
    rw [shapedL, Bool.and_eq_true] at h
    rw [joinT]
    exact shaped2 hk h.1 (shapedJ hk (u :: l) (by simp) h.2)
/-- shaped, and of so many leaves at most -/
def Gd (t : Tr) (m : Nat) : Prop := shapedS t = true ∧ setsS t ≤ m
def GdL (ts : List Tr) (m : Nat) : Prop := ts ≠ [] ∧ shapedL ts = true ∧ setsL ts ≤ m
theorem GdL.join {k : Int} (hk : k = 2 ∨ k = 3) {ts : List Tr} {m : Nat} (h : GdL ts m) : Gd (joinT k ts) m := ⟨shapedJ hk ts h.1 h.2.1, by rw [setsJ k ts h.1]; exact h.2.2⟩
theorem GdL.cons {t : Tr} {ts : List Tr} {a b : Nat} (h : Gd t a) (h' : GdL ts b) : GdL (t :: ts) (a + b) := ⟨by simp, by rw [shapedL, h.1, h'.2.1]; rfl, by rw [setsL]; have := h.2; have := h'.2.2; omega⟩
theorem GdL.one {t : Tr} {a : Nat} (h : Gd t a) : GdL [t] a := ⟨by simp, by rw [shapedL, shapedL, h.1]; rfl, by rw [setsL, setsL]; exact h.2⟩
theorem Gd.mono {t : Tr} {a b : Nat} (h : Gd t a) (hb : a ≤ b) : Gd t b := ⟨h.1, Nat.le_trans h.2 hb⟩
theorem GdL.mono {t : List Tr} {a b : Nat} (h : GdL t a) (hb : a ≤ b) : GdL t b := ⟨h.1, h.2.1, Nat.le_trans h.2.2 hb⟩
theorem Gd.set (f : Nat → Bool) : Gd (setT f) 1 := ⟨by simp [setT, shapedS, shapedL, kidsS], by simp [setT, setsS]⟩

theorem signs_gd {l : List UInt8} (hA : Few l) : ∀ (n : Nat) (t : Tr) (k m : Nat) (t' : Tr) (k' : Nat), Gd t m → k ≤ l.length → signsF l n t k = .ok t' k' → Gd t' m ∧ k ≤ k' ∧ k' ≤ l.length
  | 0, _, _, _, _, _, _, _, h => by cases h
  | n + 1, t, k, m, t', k', hg, hk, h => by
    rw [signsF] at h
    split at h
    · rename_i hs
      have hlt := sees_lt hs
      have hy := hA k hlt
      have h42 : atB l k = 42 := by
        unfold seesB at hs
        simp only [Bool.and_eq_true, List.contains_cons, List.contains_nil, Bool.or_false, Bool.or_eq_true, beq_iff_eq] at hs
        omega
      rw [if_pos h42] at h
      have := signs_gd hA n (kid1 4 t) (k + 1) m t' k' ⟨shaped1 (.inl rfl) hg.1, by rw [sets1]; exact hg.2⟩ hlt h
      exact ⟨this.1, by omega, this.2.2⟩
    · cases h
      exact ⟨hg, Nat.le_refl _, hk⟩
theorem few_gd {l : List UInt8} (hA : Few l) (bk : Nat → Option ((Nat → Bool) × Nat)) : ∀ n : Nat,
    (∀ o k ts k', k ≤ l.length → altsF l bk n o k = .ok ts k' → GdL ts (k' - k) ∧ k < k' ∧ k' ≤ l.length) ∧
    (∀ o k t k', k ≤ l.length → rowF l bk n o k = .ok t k' → Gd t (k' - k) ∧ k < k' ∧ k' ≤ l.length) ∧
    (∀ o k ts k', k ≤ l.length → piecesF l bk n o k = .ok ts k' → GdL ts (k' - k) ∧ k < k' ∧ k' ≤ l.length) ∧
    (∀ o k t k', k ≤ l.length → pieceF l bk n o k = .ok t k' → Gd t (k' - k) ∧ k < k' ∧ k' ≤ l.length) ∧
    (∀ o k t k', k ≤ l.length → atomF l bk n o k = .ok t k' → Gd t (k' - k) ∧ k < k' ∧ k' ≤ l.length)
  | 0 => by
    refine ⟨?_, ?_, ?_, ?_, ?_⟩ <;> (intro o k t k' _ h; simp [altsF, rowF, piecesF, pieceF, atomF] at h)
  | n + 1 => by
    obtain ⟨i1, i2, i3, i4, i5⟩ := few_gd hA bk n
    refine ⟨?_, ?_, ?_, ?_, ?_⟩
    · intro o k ts k' hk h
      rw [altsF] at h
      split at h
      · cases h
      · rename_i t k2 he
        have h2 := i2 o k t k2 hk he
        split at h
        · rename_i hs
          have hlt := sees_lt hs
          rcases ha : altsF l bk n o (k2 + 1) with ⟨us, k3⟩ | ⟨c, k3⟩
          · rw [ha] at h
            cases h
            have h3 := i1 o (k2 + 1) us k' (by omega) ha
            exact ⟨(GdL.cons h2.1 h3.1).mono (by omega), by omega, h3.2.2⟩
          · rw [ha] at h; cases h
        · cases h
          exact ⟨GdL.one h2.1, h2.2⟩
    · intro o k t k' hk h
      rw [rowF] at h
      rcases ha : piecesF l bk n o k with ⟨us, k3⟩ | ⟨c, k3⟩
      · rw [ha] at h
        cases h
        have h3 := i3 o k us k' hk ha
        exact ⟨h3.1.join (.inl rfl), h3.2⟩
      · rw [ha] at h; cases h
    · intro o k ts k' hk h
      rw [piecesF] at h
      split at h
      · cases h
      · rename_i t k2 he
        have h2 := i4 o k t k2 hk he
        split at h
        · cases h
          exact ⟨GdL.one h2.1, h2.2⟩
        · rcases ha : piecesF l bk n o k2 with ⟨us, k3⟩ | ⟨c, k3⟩
          · rw [ha] at h
            cases h
            have h3 := i3 o k2 us k' h2.2.2 ha
            exact ⟨(GdL.cons h2.1 h3.1).mono (by omega), by omega, h3.2.2⟩
          · rw [ha] at h; cases h
    · intro o k t k' hk h
      rw [pieceF] at h
      split at h
      · cases h
      · rename_i t2 k2 he
        have h2 := i5 o k t2 k2 hk he
        have h3 := signs_gd hA _ t2 k2 (k2 - k) t k' h2.1 h2.2.2 h
        exact ⟨h3.1.mono (by omega), by omega, h3.2.2⟩
    · intro o k t k' hk h
      by_cases he : k = l.length
      · rw [atom_end he] at h; cases h
      · have hlt : k < l.length := by omega
        have hy := hA k hlt
        have hcase : atB l k = 40 ∨ (atB l k = 41 ∨ atB l k = 42 ∨ atB l k = 124) ∨ (atB l k = 97 ∨ atB l k = 98 ∨ atB l k = 99) := by omega
        rcases hcase with h40 | hb | ho
        · rw [atom_par hlt h40] at h
          unfold grpR at h
          split at h
          · cases h
          · rcases ha : altsF l bk n (o + 1) (k + 1) with ⟨us, k3⟩ | ⟨c, k3⟩
            · rw [ha] at h
              have h3 := i1 (o + 1) (k + 1) us k3 hlt ha
              simp only [Ls.join] at h
              split at h
              · rename_i hs
                have hlt3 := sees_lt hs
                cases h
                exact ⟨(h3.1.join (.inr rfl)).mono (by omega), by omega, hlt3⟩
              · cases h
            · rw [ha] at h; cases h
        · rw [atom_bad hlt hb] at h; cases h
        · rw [atom_one hlt ho] at h
          cases h
          exact ⟨(Gd.set _).mono (by omega), by omega, hlt⟩

end Go.Proofs.Ytdognehkbahmdaa.ere

namespace Go.Proofs.Ytdognehkbahmdaa.ere
open Go.RowKit Go.Proofs.Ytdognehkbahmdaa.sum Go.Proofs.Ytdognehkbahmdaa.kept Go.Proofs.Ytdognehkbahmdaa.pop Go.Proofs.Ytdognehkbahmdaa.cls Go.Proofs.Ytdognehkbahmdaa.tre Go.Proofs.Ytdognehkbahmdaa.str
set_option linter.unusedVariables false

theorem all8_any {w0 : World} {q : Nat} {l : List UInt8} {bk : Nat → Option ((Nat → Bool) × Nat)} (hl : l.length < 1000000000) (hA : Few l) : ∀ N m, m ≤ N → Alt8 w0 q l bk m ∧ Cat8 w0 q l bk m ∧ Piece8 w0 q l bk m ∧ Atom8 w0 q l bk m
  | 0, m, hm => by
    obtain rfl : m = 0 := by omega
    refine ⟨?_, ?_, ?_, ?_⟩
    all_goals
      intro w k o h hk ho hn
      omega
  | N + 1, m, hm => by
    have ih := all8_any (w0 := w0) (q := q) (bk := bk) hl hA N
    cases m with
    | zero =>
      refine ⟨?_, ?_, ?_, ?_⟩
      all_goals
        intro w k o h hk ho hn
        omega
    | succ m =>
      refine ⟨?_, ?_, r8piece_any hl hA m (ih m (by omega)).2.2.2, r8atom_any hl hA m (ih m (by omega)).1⟩
      · intro w k o h hk ho hn
        exact r8alt_any hl (m + 1) (fun j hj => (ih j (by omega)).2.1) w k o h hk ho hn
      · intro w k o h hk ho hn
        rw [rowF]
        exact r8cat_any hl m (fun j hj => (ih j (by omega)).2.2.1) w k o h hk ho (by omega)
theorem zero_all (w : World) : ReV (fun _ => True) w (leafT 0) (.agg #[.int .i64 0, .int .u64 0, .int .u64 0, .int .u64 0, .int .u64 0, .slice none 0 0]) := zero_val _ _
theorem tup_cells : (.agg #[.int .i64 0, .int .u64 0, .int .u64 0, .int .u64 0, .int .u64 0, .slice none 0 0] : Value) = .agg (cellsR 0 nul none 0 0) := by simp [cellsR, wd_nul]

set_option maxRecDepth 100000 in
set_option maxHeartbeats 8000000 in
theorem rparse_any (w : World) (l : List UInt8) (bk : Nat → Option ((Nat → Bool) × Nat)) (hl : l.length < 1000000000) (hA : Few l) (x : Tr × Nat × Nat) (hx : parseS l bk (8 * l.length + 8) = x) :
    Calls Try.prog 19 #[.string (st l)] w fun e w' => ∃ k f a n c, e = .returned (.tuple #[.agg (cellsR k f a n c), .int .i64 (x.2.1 : Int), .int .i64 (x.2.2 : Int)]) ∧ ReV (fun _ => True) w' x.1 (.agg (cellsR k f a n c)) ∧ Kp No w w' := by
  obtain ⟨W0, hW0⟩ : ∃ W0, w.alloc (.cells #[.int .i64 0, .int .u64 0, .int .u64 0, .int .u64 0, .int .u64 0, .slice none 0 0] 27) = W0 := ⟨_, rfl⟩
  obtain ⟨r, hr⟩ : ∃ r, w.heap.size = r := ⟨_, rfl⟩
  have hK0 : Kp No w W0 := by rw [← hW0]; exact (Kp.refl No w).alloc _
  have hz : W0.heap.size = r + 1 := by rw [← hW0, ← hr]; simp
  have hB : RAt W0 r (.int .i64 0) (.int .u64 0) (.int .u64 0) (.int .u64 0) (.int .u64 0) (.slice none 0 0) := by
    rw [← hW0, ← hr]
    exact RAt.new _ _ _ _ _ _ _ _
  have hsz := st_size l
  have hst := st_list l
  have HW0 := Hid_mk hW0
  have HR := Hid_mk hr
  have HB := Hid_mk hB
  have HK0 := Hid_mk hK0
  have HZ := Hid_mk hz
  have HLn := Hid_mk hl
  unfold parseS at hx
  by_cases hnil : l = []
  · subst hnil
    rw [if_pos rfl] at hx
    subst hx
    obtain ⟨r0, r1, r2, r3, r4, r5, rw'⟩ := hB
    clear hW0 hr hK0 hz hA
    go_enter Try.func19, Try.ntmps19
    go_upto_region 1 with fail
    rw [HR.out, HW0.out]
    clear HW0
    go_wp2
    have hkf := (HK0.out).trans (kp_putR (q := r) (Kp.refl (fun b => b = r) W0) (fun _ => rfl) (.int .i64 0) (.int .u64 0) (.int .u64 0) (.int .u64 0) (.int .u64 0) (.slice none 0 0)) (T := fun b => b = r) fun i hi e => by have := HR.out; omega
    refine bodyPost_ret (v := .tuple #[.agg #[.int .i64 0, .int .u64 0, .int .u64 0, .int .u64 0, .int .u64 0, .slice none 0 0], .int .i64 0, .int .i64 0]) ?_ rfl ?_
    · simp [results, Try.results19, go_sem, r0, r1, r2, r3, r4, r5]
    · exact ⟨0, nul, none, 0, 0, by rw [tup_cells]; rfl, by rw [← tup_cells]; exact zero_all _, hkf⟩
  · rw [if_neg hnil] at hx
    obtain ⟨W1, hW1⟩ : ∃ W1, W0.alloc (.cells #[.string (st l), .int .i64 0, .int .i64 0, .int .i64 0, .int .i64 0, .int .i64 0] 76) = W1 := ⟨_, rfl⟩
    have hk1 : Kp No W0 W1 := by rw [← hW1]; exact (Kp.refl No W0).alloc _
    have hRd : RC w W1 (r + 1) l ((0 : Nat) : Int) ((0 : Nat) : Int) 0 0 := by
      rw [← hW1, ← hz]
      exact ⟨by simp, by simp, by simp, by simp, by simp, fun i => by simp, hK0.size, hK0.alloc _⟩
    have hac := (all8_any (w0 := w) (q := r + 1) (bk := bk) hl hA (8 * l.length + 8) _ (Nat.le_refl _)).1 W1 0 0 hRd (Nat.zero_le _) (by omega) (by omega)
    have hlz : (l == []) = false := by cases l with
      | nil => exact absurd rfl hnil
      | cons a l => rfl
    have HAc := Hid_mk hac
    have HA := Hid_mk hA
    have HW1 := Hid_mk hW1
    have HB1 := Hid_mk (hB.kept hk1 id)
    have HK1 := Hid_mk (hK0.trans' hk1)
    have HS1 := Hid_mk (show r + 2 ≤ W1.heap.size by rw [← hW1]; simp; omega)
    have HX := Hid_mk hx
    clear hW0 hr hK0 hz hB hW1 hRd hk1 hl hac hx hA
    go_enter Try.func19, Try.ntmps19
    go_upto_region 1 with fail
    rw [HR.out, HW0.out]
    clear HW0
    go_upto_region 4 with fail
    rw [HZ.out, HW1.out]
    clear HW1
    go_wp2_with fail
    with_reducible refine HAc.out.mono ?_
    rintro e W2 ⟨t', vk, vf, va, vn, vc, x1, x2, be, tt, rfl, hv, hrc, hk2, his⟩
    obtain ⟨g, hg⟩ : ∃ g, W2.heap.size = g := ⟨_, rfl⟩
    have hgr : r + 2 ≤ g := by have h8 := HS1.out; have h9 := hk2.size; omega
    have HV := Hid_mk hv
    have HRc := Hid_mk hrc
    have HK2 := Hid_mk (HK1.out.trans hk2 (T := fun b => b = r + 1) fun i hi e => by have := HR.out; omega)
    have HB2 := Hid_mk (HB1.out.kept hk2 (by show ¬ r = r + 1; omega))
    have HIs := Hid_mk his
    have HG := Hid_mk hg
    have HGr := Hid_mk hgr
    clear hv hrc hk2 his hgr HAc
    unfold cellsR
    go_upto_region 5 with fail
    refine wp_name (fun W => Kp No W2 W ∧ RAt W g (.int .i64 vk) (.int .u64 (wd vf 0 64 : Nat)) (.int .u64 (wd vf 64 64 : Nat)) (.int .u64 (wd vf 128 64 : Nat)) (.int .u64 (wd vf 192 64 : Nat)) (.slice va vn vc)) ⟨(Kp.refl No W2).alloc _, by rw [← hg]; exact RAt.new _ _ _ _ _ _ _ _⟩ ?_
    clear hg
    rintro W3 ⟨hk3, hb3⟩
    have HK3 := Hid_mk (HK2.out.trans' hk3)
    have HB3 := Hid_mk hb3
    have HB23 := Hid_mk (HB2.out.kept hk3 id)
    have HR3 := Hid_mk (HRc.out.no hk3)
    have HV3 := Hid_mk (ReV.wider (T' := fun b => b ≠ r) (fun b hb hl => by have h8 := HS1.out; omega) _ _ (ReV.no hk3 _ _ HV.out))
    clear hk3 hb3 HV HRc HB2
    rcases hpf : (altsF l bk (8 * l.length + 8) 0 0).join 3 with ⟨t, k⟩ | ⟨c, k⟩
    · have his := HIs.out
      have hX := HX.out
      rw [hpf] at his hX
      obtain ⟨rfl, rfl, rfl, rfl, rfl, hn1, hn2⟩ := his
      simp only at hX
      have hgd : Gd t' k := by
        rcases ha : altsF l bk (8 * l.length + 8) 0 0 with ⟨us, k3⟩ | ⟨c, k3⟩
        · rw [ha] at hpf
          cases hpf
          have h3 := (few_gd HA.out bk (8 * l.length + 8)).1 0 0 us k (Nat.zero_le _) ha
          exact h3.1.join (.inr rfl)
        · rw [ha] at hpf; cases hpf
      have HGd := Hid_mk hgd
      have HN2 := Hid_mk hn2
      have c0 := HR3.out.c0
      have c1 := HR3.out.c1
      have c3 := HR3.out.c3
      clear HX HIs hpf hgd hn1 hn2
      by_cases hlt : k < l.length
      · rw [if_pos hlt] at hX
        subst hX
        have hki : (k : Int) < (l.length : Int) := by omega
        have HFa := Hid_mk (fails_any HR3.out 24 (k : Int))
        clear hlt
        go_wp2_with fail
        with_reducible refine HFa.out.mono ?_
        rintro e W4 ⟨rfl, hr4, hk4⟩
        have HR4 := Hid_mk hr4
        have HK4 := Hid_mk (HK3.out.trans hk4 (T := fun b => b = r + 1) fun i hi e => by have := HR.out; omega)
        have HB4 := Hid_mk (HB23.out.kept hk4 (by show ¬ r = r + 1; omega))
        have c3 := hr4.c3
        have c4 := hr4.c4
        obtain ⟨r0, r1, r2, r3, r4, r5, rw'⟩ := HB4.out
        clear hr4 hk4 hki HFa
        go_upto_region 8 with fail
        go_region
        go_wp2
        have hkz : Kp (fun b => b = r) W4 (putR W4 r (.int .i64 0) (.int .u64 0) (.int .u64 0) (.int .u64 0) (.int .u64 0) (.slice none 0 0)).drew := (kp_putR (q := r) (Kp.refl (fun b => b = r) W4) (fun _ => rfl) _ _ _ _ _ _).drew
        have hkf := HK4.out.trans hkz (T := fun b => b = r) fun i hi e => by have := HR.out; omega
        refine bodyPost_ret (v := .tuple #[.agg #[.int .i64 0, .int .u64 0, .int .u64 0, .int .u64 0, .int .u64 0, .slice none 0 0], .int .i64 (k : Int), .int .i64 24]) ?_ rfl ⟨0, nul, none, 0, 0, by rw [tup_cells], by rw [← tup_cells]; exact zero_all _, hkf⟩
        simp [results, Try.results19, go_sem, r0, r1, r2, r3, r4, r5]
      · rw [if_neg hlt] at hX
        have hki : ¬ (k : Int) < (l.length : Int) := by omega
        have hrf := right_fits HGd.out.1
        have hri := right_any W3 _ t' HV3.out (by have h8 := HGd.out.2; have h9 := HN2.out; have h7 := HLn.out; omega)
        rw [hrf] at hri
        by_cases hfit : fitsB t' = true
        · rw [if_pos hfit] at hX
          subst hX
          rw [hfit] at hri
          unfold cellsR at hri
          have HRi := Hid_mk hri
          obtain ⟨p0, p1, p2, p3, p4, p5, pw⟩ := HB3.out
          clear hlt hrf hri hfit
          go_wp2_with fail
          with_reducible refine HRi.out.mono ?_
          rintro e W4 ⟨rfl, hk4⟩
          have HK4 := Hid_mk (HK3.out.trans' hk4)
          have HV4 := Hid_mk (ReV.no hk4 _ _ HV3.out)
          have hb4 := HB3.out.kept hk4 id
          have HB4 := Hid_mk (HB23.out.kept hk4 id)
          clear p0 p1 p2 p3 p4 p5 pw hk4 c0 c1 c3 hki HRi
          obtain ⟨p0, p1, p2, p3, p4, p5, pw⟩ := hb4
          obtain ⟨r0, r1, r2, r3, r4, r5, rw'⟩ := HB4.out
          go_wp2
          have hkz : Kp (fun b => b = r) W4 (putR W4 r (.int .i64 vk) (.int .u64 (wd vf 0 64 : Nat)) (.int .u64 (wd vf 64 64 : Nat)) (.int .u64 (wd vf 128 64 : Nat)) (.int .u64 (wd vf 192 64 : Nat)) (.slice va vn vc)) := kp_putR (q := r) (Kp.refl (fun b => b = r) W4) (fun _ => rfl) _ _ _ _ _ _
          have hkf := HK4.out.trans hkz (T := fun b => b = r) fun i hi e => by have := HR.out; omega
          refine bodyPost_ret (v := .tuple #[.agg (cellsR vk vf va vn vc), .int .i64 0, .int .i64 0]) ?_ rfl ⟨vk, vf, va, vn, vc, rfl, ReV.wider (fun _ _ _ => trivial) _ _ (ReV.kept hkz (fun b hb _ => hb) _ _ HV4.out), hkf⟩
          simp [results, Try.results19, go_sem, r0, r1, r2, r3, r4, r5]
        · rw [if_neg hfit] at hX
          have hfit' : fitsB t' = false := by simpa using hfit
          subst hX
          rw [hfit'] at hri
          unfold cellsR at hri
          have HRi := Hid_mk hri
          obtain ⟨p0, p1, p2, p3, p4, p5, pw⟩ := HB3.out
          clear hlt hrf hri hfit hfit'
          go_wp2_with fail
          with_reducible refine HRi.out.mono ?_
          rintro e W4 ⟨rfl, hk4⟩
          have HK4 := Hid_mk (HK3.out.trans' hk4)
          have HB4 := Hid_mk (HB23.out.kept hk4 id)
          clear p0 p1 p2 p3 p4 p5 pw hk4 c0 c1 c3 hki HRi
          obtain ⟨r0, r1, r2, r3, r4, r5, rw'⟩ := HB4.out
          go_wp2
          have hkz : Kp (fun b => b = r) W4 (putR W4 r (.int .i64 0) (.int .u64 0) (.int .u64 0) (.int .u64 0) (.int .u64 0) (.slice none 0 0)) := kp_putR (q := r) (Kp.refl (fun b => b = r) W4) (fun _ => rfl) _ _ _ _ _ _
          have hkf := HK4.out.trans hkz (T := fun b => b = r) fun i hi e => by have := HR.out; omega
          refine bodyPost_ret (v := .tuple #[.agg #[.int .i64 0, .int .u64 0, .int .u64 0, .int .u64 0, .int .u64 0, .slice none 0 0], .int .i64 0, .int .i64 24]) ?_ rfl ⟨0, nul, none, 0, 0, by rw [tup_cells], by rw [← tup_cells]; exact zero_all _, hkf⟩
          simp [results, Try.results19, go_sem, r0, r1, r2, r3, r4, r5]
    · have his := HIs.out
      have hX := HX.out
      rw [hpf] at his hX
      obtain ⟨rfl, rfl, hcc⟩ := his
      simp only at hX
      subst hX
      have hc0 : ((c : Int) == 0) = false := by rw [beq_eq_false_iff_ne]; omega
      have hcn : ((c : Int) != 0) = true := by rw [bne_iff_ne]; omega
      have c3 := HR3.out.c3
      have c4 := HR3.out.c4
      have HR4 := HR3
      have HK4 := HK3
      have HB4 := HB23
      obtain ⟨r0, r1, r2, r3, r4, r5, rw'⟩ := HB4.out
      clear HX HIs hpf hcc
      go_upto_region 8 with fail
      go_region
      go_wp2
      have hkz : Kp (fun b => b = r) W3 (putR W3 r (.int .i64 0) (.int .u64 0) (.int .u64 0) (.int .u64 0) (.int .u64 0) (.slice none 0 0)).drew := (kp_putR (q := r) (Kp.refl (fun b => b = r) W3) (fun _ => rfl) _ _ _ _ _ _).drew
      have hkf := HK4.out.trans hkz (T := fun b => b = r) fun i hi e => by have := HR.out; omega
      refine bodyPost_ret (v := .tuple #[.agg #[.int .i64 0, .int .u64 0, .int .u64 0, .int .u64 0, .int .u64 0, .slice none 0 0], .int .i64 (k : Int), .int .i64 (c : Int)]) ?_ rfl ⟨0, nul, none, 0, 0, by rw [tup_cells], by rw [← tup_cells]; exact zero_all _, hkf⟩
      simp [results, Try.results19, go_sem, r0, r1, r2, r3, r4, r5]

end Go.Proofs.Ytdognehkbahmdaa.ere
