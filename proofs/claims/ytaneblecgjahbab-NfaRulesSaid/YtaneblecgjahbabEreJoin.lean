/- Package ere: parts joined. -/
import Derived.Test.YtaneblecgjahbabEreListM
import Derived.Deep.RegionWith
import Derived.Deep.RegionHeld3

namespace Go.Proofs.Ytaneblecgjahbab.ere
open Go.RowKit Go.Proofs.Ytaneblecgjahbab.sum Go.Proofs.Ytaneblecgjahbab.kept Go.Proofs.Ytaneblecgjahbab.pop Go.Proofs.Ytaneblecgjahbab.cls Go.Proofs.Ytaneblecgjahbab.tre
set_option linter.unusedVariables false

theorem PtV.val {T : Nat → Prop} {w : World} {p : Pt} {v : Value} (h : PtV T w p v) : ∃ e : El, v = e.val ∧ e.p = p ∧ e.ok T w := by
  obtain ⟨k, f, a, n, c, rfl, h⟩ := h
  exact ⟨⟨k, f, a, n, c, p⟩, rfl, rfl, h⟩
theorem El.is {T : Nat → Prop} {w : World} {e : El} (h : e.ok T w) : PtV T w e.p e.val := ⟨e.k, e.f, e.a, e.n, e.c, rfl, h⟩
/-- an element's cells in the row -/
theorem PRow.at' {w : World} {base g n c : Nat} {es : List El} (h : PRow w base (.slice (some ⟨g, 0, none⟩) n c) es) (i : Nat) (hi : i < es.length) :
    w.cell? ⟨g, i * 8, none⟩ = some (.int .i64 es[i].k) ∧ w.cell? ⟨g, i * 8 + 1, none⟩ = some (.int .u64 (wd es[i].f 0 64 : Nat)) ∧ w.cell? ⟨g, i * 8 + 2, none⟩ = some (.int .u64 (wd es[i].f 64 64 : Nat)) ∧ w.cell? ⟨g, i * 8 + 3, none⟩ = some (.int .u64 (wd es[i].f 128 64 : Nat)) ∧ w.cell? ⟨g, i * 8 + 4, none⟩ = some (.int .u64 (wd es[i].f 192 64 : Nat)) ∧
      w.cell? ⟨g, i * 8 + 5, none⟩ = some (.slice es[i].a es[i].n es[i].c) ∧ w.cell? ⟨g, i * 8 + 6, none⟩ = some (.int .i64 (es[i].p.n : Int)) ∧ w.cell? ⟨g, i * 8 + 7, none⟩ = some (.int .i64 (es[i].p.h : Int)) := by
  have hc := fun j u (hj : j < 8) (e : es[i].cells[j]? = some u) => by
    have := World.ownsRow.cells (g := g) h rfl (i * 8 + j) u ((cells_get es i j hi hj).trans e)
    rw [addr_add, Nat.zero_add] at this
    exact this
  exact ⟨hc 0 _ (by decide) rfl, hc 1 _ (by decide) rfl, hc 2 _ (by decide) rfl, hc 3 _ (by decide) rfl, hc 4 _ (by decide) rfl, hc 5 _ (by decide) rfl, hc 6 _ (by decide) rfl, hc 7 _ (by decide) rfl⟩
theorem join_drop (k : Int) (ts : List Tr) (j : Nat) (hj : j + 1 < ts.length) : joinT k (ts.drop j) = kid2 k (ts[j]'(by omega)) (joinT k (ts.drop (j + 1))) := by
  rw [List.drop_eq_getElem_cons (by omega : j < ts.length), List.drop_eq_getElem_cons hj, joinT]

def JnRel (W0 : World) (T : Nat → Prop) (r : Nat) (kd : Int) (ts : List Tr) (i : Value) (wr : World) : Prop :=
  ∃ (j : Nat) (x : El), j < ts.length ∧ i = .int .i64 ((j : Int) - 1) ∧ x.p = absP (joinT kd (ts.drop j)) ∧ x.ok T wr ∧
    PAt wr r (.int .i64 x.k) (.int .u64 (wd x.f 0 64 : Nat)) (.int .u64 (wd x.f 64 64 : Nat)) (.int .u64 (wd x.f 128 64 : Nat)) (.int .u64 (wd x.f 192 64 : Nat)) (.slice x.a x.n x.c) (.int .i64 (x.p.n : Int)) (.int .i64 (x.p.h : Int)) ∧ Kp (fun b => b = r) W0 wr

set_option maxRecDepth 100000 in
set_option maxHeartbeats 4000000 in
theorem joined_any (T : Nat → Prop) (w : World) (q base : Nat) (v : Value) (es : List El) (ts : List Tr) (kd : Int) (hkd : kd = 2 ∨ kd = 3) (h : LsAt T w q base v es ts) (hne : ts ≠ []) (hlen : ts.length ≤ 1000000000) :
    Calls Try.prog 66 #[.pointer (some ⟨q, 0, none⟩), .int .i64 kd] w fun e w' => ∃ v, e = .returned v ∧ PtV (fun b => T b ∨ w.heap.size ≤ b) w' (absP (joinT kd ts)) v ∧ Kp No w w' := by
  have hle := sumP_le ts
  obtain ⟨W0, hW0⟩ : ∃ W0, w.alloc (.cells #[.int .i64 0, .int .u64 0, .int .u64 0, .int .u64 0, .int .u64 0, .slice none 0 0, .int .i64 0, .int .i64 0] 102) = W0 := ⟨_, rfl⟩
  obtain ⟨r4, hr⟩ : ∃ r, w.heap.size = r := ⟨_, rfl⟩
  have HK0 : Hid (Kp No w W0) := Hid_mk (by rw [← hW0]; exact (Kp.refl No w).alloc _)
  have hz : W0.heap.size = r4 + 1 := by rw [← hW0, ← hr]; simp
  have hR : PAt W0 r4 (.int .i64 0) (.int .u64 0) (.int .u64 0) (.int .u64 0) (.int .u64 0) (.slice none 0 0) (.int .i64 0) (.int .i64 0) := by
    rw [← hW0, ← hr]
    exact PAt.new w _ _ _ _ _ _ _ _ _
  have h0 := h.no HK0.out
  have HW0 := Hid_mk hW0
  have HR4 := Hid_mk hr
  have HR := Hid_mk hR
  have H := Hid_mk h
  have H0 := Hid_mk h0
  have HZ := Hid_mk hz
  have HOv := Hid_mk fun W => over_any W
  have d1 := h0.c1
  have d0 := h0.c0
  have hqn : r4 < w.heap.size → No r4 := fun h => by omega
  have HQn := Hid_mk hqn
  obtain ⟨S, hS⟩ : ∃ S, sumP ts = S := ⟨_, rfl⟩
  have HS := Hid_mk hS
  rw [hS] at d1 hle
  have hbig : 400 < S ∨ S ≤ 400 := by omega
  rcases hbig with hbig | hbig
  · have hbi : (S : Int) > 400 := by omega
    have hov : absP (joinT kd ts) = overP := join_over kd hkd ts (by omega)
    rw [hov]
    obtain ⟨r0, r1, r2, r3, r4', r5, r6, r7, rw'⟩ := hR
    clear hov hbig hle h0 h hW0 hr hz hqn hS hlen hne
    go_enter Try.func66, Try.ntmps66
    go_upto_region 1 with fail
    rw [HW0.out, HR4.out]
    clear HW0
    go_wp2_with fail
    with_reducible refine (HOv.out _).mono ?_
    rintro e W3 ⟨rfl, hk3⟩
    have hR3 := HR.out.kept hk3 id
    have HK3 := Hid_mk (HK0.out.trans' hk3)
    clear hk3 r0 r1 r2 r3 r4' r5 r6 r7 rw'
    obtain ⟨r0, r1, r2, r3, r4', r5, r6, r7, rw'⟩ := hR3
    unfold cellsP
    go_wp2
    have hkf := kp_putP HK3.out HQn.out (.int .i64 0) (.int .u64 (wd nul 0 64 : Nat)) (.int .u64 (wd nul 64 64 : Nat)) (.int .u64 (wd nul 128 64 : Nat)) (.int .u64 (wd nul 192 64 : Nat)) (.slice none 0 0) (.int .i64 401) (.int .i64 41)
    refine bodyPost_ret (v := .agg (cellsP 0 nul none 0 0 401 41)) ?_ rfl ⟨_, rfl, over_val _ _, hkf⟩
    simp [results, Try.results66, go_sem, cellsP, wd_nul, r0, r1, r2, r3, r4', r5, r6, r7]
  · have hbi : ¬ (S : Int) > 400 := by omega
    have hsm := h0.same (by omega)
    have hel : es.length = ts.length := by have := congrArg List.length hsm; simpa using this
    obtain ⟨n, hn⟩ : ∃ n, ts.length = n := ⟨_, rfl⟩
    have hn0 : 0 < n := by
      have := List.length_pos_iff.2 hne
      omega
    obtain ⟨g, cap, rfl, hgb, hgl⟩ := owns_some h0.row (by omega)
    rw [hel, hn] at d0
    have HN := Hid_mk hn
    have HEl := Hid_mk hel
    have HSm := Hid_mk hsm
    have HNe := Hid_mk hne
    have hw1 : IntKind.i64.wrap ((n : Int) - 1) = (n : Int) - 1 := IntWalk.i64_in _ (by omega)
    have hw2 : IntKind.i64.wrap ((n : Int) - 1 - 1) = (n : Int) - 1 - 1 := IntWalk.i64_in _ (by omega)
    have hge : ∀ (i : Nat) (hi : i < es.length) (hi2 : i < ts.length), (es[i]).p = absP ts[i] := fun i hi hi2 => by
      have := congrArg (fun l => l[i]?) hsm
      simp only [List.getElem?_map, List.getElem?_eq_getElem hi, List.getElem?_eq_getElem hi2, Option.map_some] at this
      exact Option.some.inj this
    have HGe := Hid_mk hge
    have hrow0 : PRow W0 base (.slice (some ⟨g, 0, none⟩) es.length cap) es := h0.row
    have HRow := Hid_mk hrow0
    have hlast := hrow0.at' (n - 1) (by omega)
    have hx := h0.ok (es[n - 1]'(by omega)) (List.getElem_mem _)
    have hxp := hge (n - 1) (by omega) (by omega)
    obtain ⟨x, hxe⟩ : ∃ x, es[n - 1]'(by omega) = x := ⟨_, rfl⟩
    rw [hxe] at hlast hx hxp
    obtain ⟨l0, l1, l2, l3, l4, l5, l6, l7⟩ := hlast
    have hxj : x.p = absP (joinT kd (ts.drop (n - 1))) := by
      rw [hxp, List.drop_eq_getElem_cons (by omega : n - 1 < ts.length), List.drop_eq_nil_of_le (by omega)]
      rfl
    have HX := Hid_mk hx
    have HXj := Hid_mk hxj
    have hnn : ((n : Int) - 1).toNat = n - 1 := by omega
    have hni : (0 : Int) ≤ (n : Int) - 1 := by omega
    have hni2 : (n : Int) - 1 < (n : Int) := by omega
    obtain ⟨xk, xf, xa, xn, xc, xp⟩ := x
    simp only at l0 l1 l2 l3 l4 l5 l6 l7 hxj hxp
    clear hbig hle h0 h hW0 hr hz hqn hS hne hx hxp hxj hxe hge hrow0 hsm hn hR
    go_enter Try.func66, Try.ntmps66
    go_upto_region 1 with fail
    rw [HW0.out, HR4.out]
    clear HW0
    go_upto_region 5 with fail
    rw [HZ.out]
    have hka : Kp No W0 (W0.alloc (.cells #[.int .i64 xk, .int .u64 (wd xf 0 64 : Nat), .int .u64 (wd xf 64 64 : Nat), .int .u64 (wd xf 128 64 : Nat), .int .u64 (wd xf 192 64 : Nat), .slice xa xn xc, .int .i64 (xp.n : Int), .int .i64 (xp.h : Int)] 102)) := (Kp.refl No W0).alloc _
    have hpa : PAt (W0.alloc (.cells #[.int .i64 xk, .int .u64 (wd xf 0 64 : Nat), .int .u64 (wd xf 64 64 : Nat), .int .u64 (wd xf 128 64 : Nat), .int .u64 (wd xf 192 64 : Nat), .slice xa xn xc, .int .i64 (xp.n : Int), .int .i64 (xp.h : Int)] 102)) (r4 + 1) (.int .i64 xk) (.int .u64 (wd xf 0 64 : Nat)) (.int .u64 (wd xf 64 64 : Nat)) (.int .u64 (wd xf 128 64 : Nat)) (.int .u64 (wd xf 192 64 : Nat)) (.slice xa xn xc) (.int .i64 (xp.n : Int)) (.int .i64 (xp.h : Int)) := by
      rw [← HZ.out]
      exact PAt.new _ _ _ _ _ _ _ _ _ _
    refine wp_name (fun W => Kp No W0 W ∧ PAt W (r4 + 1) (.int .i64 xk) (.int .u64 (wd xf 0 64 : Nat)) (.int .u64 (wd xf 64 64 : Nat)) (.int .u64 (wd xf 128 64 : Nat)) (.int .u64 (wd xf 192 64 : Nat)) (.slice xa xn xc) (.int .i64 (xp.n : Int)) (.int .i64 (xp.h : Int))) ⟨hka, hpa⟩ ?_
    clear hka hpa l0 l1 l2 l3 l4 l5 l6 l7
    rintro W1 ⟨hk1, hp1⟩
    have d01 := hk1.cell' d0 id
    have hxok : El.ok (fun b => T b ∨ (w.heap.size ≤ b ∧ b ≠ r4 + 1 ∧ b ≠ r4)) W1 ⟨xk, xf, xa, xn, xc, xp⟩ := ReV.wider (fun b hb _ => .inl hb) _ _ (ReV.no hk1 _ _ HX.out)
    have hTr : ∀ b, (T b ∨ (w.heap.size ≤ b ∧ b ≠ r4 + 1 ∧ b ≠ r4)) → b ≠ r4 + 1 ∧ b ≠ r4 := fun b hb => by
      rcases hb with hb | hb
      · have h1 := (H.out.inn b hb).2
        have h2 := HR4.out
        omega
      · exact hb.2
    have hTn : ∀ b, r4 + 2 ≤ b → (T b ∨ (w.heap.size ≤ b ∧ b ≠ r4 + 1 ∧ b ≠ r4)) := fun b hb => .inr ⟨by have := HR4.out; omega, by omega, by omega⟩
    have hTw : ∀ b, (T b ∨ (w.heap.size ≤ b ∧ b ≠ r4 + 1 ∧ b ≠ r4)) → T b ∨ w.heap.size ≤ b := fun b hb => hb.imp id fun h => h.1
    obtain ⟨T', hT'⟩ : ∃ T', (fun b => T b ∨ (w.heap.size ≤ b ∧ b ≠ r4 + 1 ∧ b ≠ r4)) = T' := ⟨_, rfl⟩
    have hTr2 : ∀ b, T' b → b ≠ r4 + 1 ∧ b ≠ r4 := by rw [← hT']; exact hTr
    have hTn2 : ∀ b, r4 + 2 ≤ b → T' b := by rw [← hT']; exact hTn
    have hTw2 : ∀ b, T' b → T b ∨ w.heap.size ≤ b := by rw [← hT']; exact hTw
    have hTT : ∀ b, T b → T' b := by rw [← hT']; exact fun b hb => .inl hb
    rw [hT'] at hxok
    have HTr := Hid_mk hTr2
    have HTn := Hid_mk hTn2
    have HTw := Hid_mk hTw2
    have HTT := Hid_mk hTT
    have HXo := Hid_mk hxok
    have HP1 := Hid_mk hp1
    have HK1 := Hid_mk hk1
    have HQ4 := Hid_mk (show q < r4 by have := H.out.lt.1; have := HR4.out; omega)
    clear hTr hTn hTw hT' hxok hTr2 hTn2 hTw2 hTT hp1 hk1 hnn hni hni2
    go_wp2
    go_loopw [7] (fun i wr => JnRel W1 T' (r4 + 1) kd ts i wr) (fun i _ => (intOf i + 1).toNat)
    case atStart => exact ⟨n - 1, ⟨xk, xf, xa, xn, xc, xp⟩, by rw [HN.out]; omega, by congr 1; omega, HXj.out, HXo.out, HP1.out, Kp.refl _ _⟩
    case round =>
      obtain ⟨j, y, hj, rfl, hyp, hyo, hya, hkr⟩ := hrel
      obtain ⟨yk, yf, ya, yn, yc, yp⟩ := y
      simp only at hyp hya
      have HYp := Hid_mk hyp
      have HYo := Hid_mk hyo
      have HYa := Hid_mk hya
      have HKr := Hid_mk hkr
      rw [HN.out] at hj
      by_cases hj0 : j = 0
      · have hneg : ¬ (j : Int) - 1 ≥ 0 := by omega
        have hR5 := (HR.out.kept HK1.out id).kept hkr (by show ¬ r4 = r4 + 1; omega)
        have HR5 := Hid_mk hR5
        obtain ⟨p0, p1, p2, p3, p4, p5, p6, p7, pw⟩ := hya
        obtain ⟨r0, r1, r2, r3, r4', r5, r6, r7, rw'⟩ := hR5
        subst hj0
        clear hyp hyo hkr
        go_wp2
        have hk5 : Kp (fun b => b = r4) wr (putP wr r4 (.int .i64 yk) (.int .u64 (wd yf 0 64 : Nat)) (.int .u64 (wd yf 64 64 : Nat)) (.int .u64 (wd yf 128 64 : Nat)) (.int .u64 (wd yf 192 64 : Nat)) (.slice ya yn yc) (.int .i64 (yp.n : Int)) (.int .i64 (yp.h : Int))) := kp_putP (q := r4) (Kp.refl (fun b => b = r4) wr) (fun _ => rfl) _ _ _ _ _ _ _ _
        have hkA : Kp No w wr := (HK0.out.trans' HK1.out).trans HKr.out (T := fun b => b = r4 + 1) fun i hi e => by have := HR4.out; omega
        have hkf := hkA.trans hk5 (T := fun b => b = r4) fun i hi e => by have := HR4.out; omega
        refine bodyPost_ret (v := .agg (cellsP yk yf ya yn yc yp.n yp.h)) ?_ rfl ⟨_, rfl, ?_, hkf⟩
        · simp [results, Try.results66, go_sem, cellsP, r0, r1, r2, r3, r4', r5, r6, r7]
        · have hpj := HYp.out
          rw [List.drop_zero] at hpj
          rw [← hpj]
          exact ⟨yk, yf, ya, yn, yc, rfl, ReV.wider (fun b hb _ => HTw.out b hb) _ _ (ReV.kept hk5 (fun b hb _ => (HTr.out b hb).2) _ _ HYo.out)⟩
      · have hpos : (j : Int) - 1 ≥ 0 := by omega
        have hji : (j : Int) - 1 < (n : Int) := by omega
        have hjt : ((j : Int) - 1).toNat = j - 1 := by omega
        have hwj : IntKind.i64.wrap ((j : Int) - 1 - 1) = (j : Int) - 1 - 1 := IntWalk.i64_in _ (by have := HN.out; omega)
        have hqr : ∀ g, base ≤ g → g < w.heap.size → ¬ g = r4 + 1 := fun g _ h => by have := HR4.out; omega
        have hrw : PRow wr base (.slice (some ⟨g, 0, none⟩) es.length cap) es := owns_kept (owns_kept HRow.out HK1.out fun _ _ => id) hkr fun b e => by
          have h1 := H.out.row.lt b e
          exact hqr b h1.1 h1.2
        obtain ⟨m0, m1, m2, m3, m4, m5, m6, m7⟩ := hrw.at' (j - 1) (by rw [HEl.out, HN.out]; omega)
        have hdq := hkr.cell' d01 (by show ¬ q = r4 + 1; have := HQ4.out; omega)
        have hep := HGe.out (j - 1) (by rw [HEl.out, HN.out]; omega) (by rw [HN.out]; omega)
        have heo : El.ok T' wr.drew (es[j - 1]'(by rw [HEl.out, HN.out]; omega)) := ReV.wider (fun b hb _ => HTT.out b hb) _ _ (ReV.kept (hkr.drew) (fun b hb hl => (HTr.out b (HTT.out b hb)).1) _ _ (ReV.no HK1.out _ _ (H0.out.ok _ (List.getElem_mem _))))
        obtain ⟨z, hz⟩ : ∃ z, es[j - 1]'(by rw [HEl.out, HN.out]; omega) = z := ⟨_, rfl⟩
        rw [hz] at m0 m1 m2 m3 m4 m5 m6 m7 hep heo
        have hyd : El.ok T' wr.drew ⟨yk, yf, ya, yn, yc, yp⟩ := ReV.no (Kp.refl No wr).drew _ _ hyo
        have hstep : absP (joinT kd (ts.drop (j - 1))) = twoPt kd z.p yp := by
          rw [join_drop kd ts (j - 1) (by rw [HN.out]; omega), abs2 kd hkd, hep, hyp]
          congr 4
          omega
        have hb1 : z.p.n ≤ 401 ∧ z.p.h ≤ 41 := by rw [hep]; exact ⟨absP_n _, absP_h _⟩
        have hb2 : yp.n ≤ 401 ∧ yp.h ≤ 41 := by rw [hyp]; exact ⟨absP_n _, absP_h _⟩
        have hsz : r4 + 2 ≤ wr.heap.size := hya.lt
        have htwo := two_any T' wr.drew kd z.p yp _ _ (El.is heo) (El.is hyd) (fun b hb => HTn.out b (Nat.le_trans hsz hb)) hb1 hb2
        have htwo2 : Calls Try.prog 85 #[.int .i64 kd, z.val, El.val ⟨yk, yf, ya, yn, yc, yp⟩] wr.drew fun e w' => ∃ uk uf ua un uc up, e = .returned (.agg (cellsP uk uf ua un uc (Pt.n up) (Pt.h up))) ∧ up = absP (joinT kd (ts.drop (j - 1))) ∧ ReV T' w' up.t (.agg (cellsR uk uf ua un uc)) ∧ Kp No wr w' := by
          refine htwo.mono ?_
          rintro e w' ⟨v, rfl, ⟨k, f, a, n, c, rfl, hv⟩, hk⟩
          exact ⟨k, f, a, n, c, _, rfl, hstep.symm, hv, (Kp.refl No wr).drew.trans' hk⟩
        obtain ⟨zk, zf, za, zn, zc, zp⟩ := z
        unfold El.val cellsP at htwo2
        simp only at m0 m1 m2 m3 m4 m5 m6 m7 htwo2
        have HTwo := Hid_mk htwo2
        obtain ⟨p0, p1, p2, p3, p4, p5, p6, p7, pw⟩ := id hya
        have qkeep : ∀ w1, Kp No wr w1 → PAt w1 (r4 + 1) (.int .i64 yk) (.int .u64 (wd yf 0 64 : Nat)) (.int .u64 (wd yf 64 64 : Nat)) (.int .u64 (wd yf 128 64 : Nat)) (.int .u64 (wd yf 192 64 : Nat)) (.slice ya yn yc) (.int .i64 (yp.n : Int)) (.int .i64 (yp.h : Int)) := fun w1 h => HYa.out.kept h id
        have HQk := Hid_mk qkeep
        clear hyp hyo hkr hqr hrw hep heo hz hyd hstep hb1 hb2 hsz htwo htwo2 hya qkeep
        go_wp2
        go_region_with (first
          | (go_at_call 85; with_reducible refine HTwo.out.mono ?_; rintro e w1 ⟨uk, uf, ua, un, uc, up, rfl, hup, huo, hku⟩; have HUp := Hid_mk hup; have HUo := Hid_mk huo; have HKu := Hid_mk hku; obtain ⟨p0, p1, p2, p3, p4, p5, p6, p7, pw⟩ := HQk.out w1 hku; clear hup huo hku))
        all_goals
          go_wp2
          go_roundw
          case rel =>
            have hks : Kp (fun b => b = r4 + 1) w1 (putP w1 (r4 + 1) (.int .i64 uk) (.int .u64 (wd uf 0 64 : Nat)) (.int .u64 (wd uf 64 64 : Nat)) (.int .u64 (wd uf 128 64 : Nat)) (.int .u64 (wd uf 192 64 : Nat)) (.slice ua un uc) (.int .i64 (up.n : Int)) (.int .i64 (up.h : Int))) := kp_putP (q := r4 + 1) (Kp.refl (fun b => b = r4 + 1) w1) (fun _ => rfl) _ _ _ _ _ _ _ _
            refine ⟨j - 1, ⟨uk, uf, ua, un, uc, up⟩, by rw [HN.out]; omega, by congr 1; omega, HUp.out, ReV.kept hks (fun b hb _ => (HTr.out b hb).1) _ _ HUo.out, (HQk.out w1 HKu.out).put _ _ _ _ _ _ _ _, (HKr.out.trans HKu.out (T := No) fun _ _ e => e.elim).trans hks (T := fun b => b = r4 + 1) fun _ _ e => e⟩
          case measure => simp only [intOf]; omega

end Go.Proofs.Ytaneblecgjahbab.ere
