/- Package ere: countLeaves, Right, Sets. Package nfa: a tree's parts are laid down: what is a sign; signs that stand above one another. -/
import Derived.Test.YtaneblecgjahbabRefSameM
import Derived.Test.YtaneblecgjahbabRefRightM
import Derived.Deep.LoopGhost

namespace Go.Proofs.Ytaneblecgjahbab.ere
open Go.RowKit Go.Proofs.Ytaneblecgjahbab.sum Go.Proofs.Ytaneblecgjahbab.kept Go.Proofs.Ytaneblecgjahbab.pop Go.Proofs.Ytaneblecgjahbab.cls Go.Proofs.Ytaneblecgjahbab.tre Go.Proofs.Ytaneblecgjahbab.str
set_option linter.unusedVariables false

theorem RAt.put {w : World} {q : Nat} {x0 x1 x2 x3 x4 x5 : Value} (h : RAt w q x0 x1 x2 x3 x4 x5) (y0 y1 y2 y3 y4 y5 : Value) : RAt (ere.putT w q y0 y1 y2 y3 y4 y5) q y0 y1 y2 y3 y4 y5 := by
  obtain ⟨c0, c1, c2, c3, c4, c5, hw⟩ := h
  unfold ere.putT
  refine ⟨?_, ?_, ?_, ?_, ?_, ?_, fun i => by simp only [World.frozen?_setCell]; exact hw i⟩
  · rw [World.cell?_setCell_other _ _ _ _ (by intro e; cases e)]; rw [World.cell?_setCell_other _ _ _ _ (by intro e; cases e)]; rw [World.cell?_setCell_other _ _ _ _ (by intro e; cases e)]; rw [World.cell?_setCell_other _ _ _ _ (by intro e; cases e)]; rw [World.cell?_setCell_other _ _ _ _ (by intro e; cases e)]; exact World.cell?_setCell_same _ _ _ (by exact c0)
  · rw [World.cell?_setCell_other _ _ _ _ (by intro e; cases e)]; rw [World.cell?_setCell_other _ _ _ _ (by intro e; cases e)]; rw [World.cell?_setCell_other _ _ _ _ (by intro e; cases e)]; rw [World.cell?_setCell_other _ _ _ _ (by intro e; cases e)]; exact World.cell?_setCell_same _ _ _ (by rw [World.cell?_setCell_other _ _ _ _ (by intro e; cases e)]; exact c1)
  · rw [World.cell?_setCell_other _ _ _ _ (by intro e; cases e)]; rw [World.cell?_setCell_other _ _ _ _ (by intro e; cases e)]; rw [World.cell?_setCell_other _ _ _ _ (by intro e; cases e)]; exact World.cell?_setCell_same _ _ _ (by rw [World.cell?_setCell_other _ _ _ _ (by intro e; cases e)]; rw [World.cell?_setCell_other _ _ _ _ (by intro e; cases e)]; exact c2)
  · rw [World.cell?_setCell_other _ _ _ _ (by intro e; cases e)]; rw [World.cell?_setCell_other _ _ _ _ (by intro e; cases e)]; exact World.cell?_setCell_same _ _ _ (by rw [World.cell?_setCell_other _ _ _ _ (by intro e; cases e)]; rw [World.cell?_setCell_other _ _ _ _ (by intro e; cases e)]; rw [World.cell?_setCell_other _ _ _ _ (by intro e; cases e)]; exact c3)
  · rw [World.cell?_setCell_other _ _ _ _ (by intro e; cases e)]; exact World.cell?_setCell_same _ _ _ (by rw [World.cell?_setCell_other _ _ _ _ (by intro e; cases e)]; rw [World.cell?_setCell_other _ _ _ _ (by intro e; cases e)]; rw [World.cell?_setCell_other _ _ _ _ (by intro e; cases e)]; rw [World.cell?_setCell_other _ _ _ _ (by intro e; cases e)]; exact c4)
  · exact World.cell?_setCell_same _ _ _ (by rw [World.cell?_setCell_other _ _ _ _ (by intro e; cases e)]; rw [World.cell?_setCell_other _ _ _ _ (by intro e; cases e)]; rw [World.cell?_setCell_other _ _ _ _ (by intro e; cases e)]; rw [World.cell?_setCell_other _ _ _ _ (by intro e; cases e)]; rw [World.cell?_setCell_other _ _ _ _ (by intro e; cases e)]; exact c5)
def CnRel (W0 : World) (r N m : Nat) (R : Option Nat) (dv nv : Value) (wr : World) : Prop :=
  ∃ (uk : Int) (uf : Nat → Bool) (ul : List Tr) (ua : Option Addr) (uc d n : Nat), dv = .int .i64 (d : Int) ∧ nv = .int .i64 (n : Int) ∧ (Tr.mk uk uf ul).size ≤ N ∧ RAt wr r (.int .i64 uk) (.int .u64 (wd uf 0 64 : Nat)) (.int .u64 (wd uf 64 64 : Nat)) (.int .u64 (wd uf 128 64 : Nat)) (.int .u64 (wd uf 192 64 : Nat)) (.slice ua ul.length uc) ∧
    ReV (fun b => b < r) wr (.mk uk uf ul) (.agg (cellsR uk uf ua ul.length uc)) ∧ d ≤ 41 ∧ n ≤ m ∧ (cntS (.mk uk uf ul) d (m - n)).map (n + ·) = R ∧ Kp (fun b => b = r) W0 wr
theorem cnt_some {t : Tr} {d m j : Nat} (hd : d ≤ 41) (h : cntS t d m = some j) : 1 ≤ j ∧ j ≤ m := by
  obtain ⟨i1, i2⟩ := cnt_is t d m hd
  by_cases ho : okP t d m
  · rw [i1 ho] at h
    cases h
    exact ⟨setsS_pos t, ho.2.2⟩
  · rw [i2 ho] at h
    cases h
/-- the cells of a tree's value are its own -/
theorem val_is {T : Nat → Prop} {w : World} {t : Tr} {k : Int} {f : Nat → Bool} {a : Option Addr} {n c : Nat} (h : ReV T w t (.agg (cellsR k f a n c))) : ∃ g l, t = .mk k g l ∧ wd g 0 64 = wd f 0 64 ∧ wd g 64 64 = wd f 64 64 ∧ wd g 128 64 = wd f 128 64 ∧ wd g 192 64 = wd f 192 64 ∧ n = l.length := by
  obtain ⟨k', g, l⟩ := t
  obtain ⟨a2, c2, e, h1, h2, h3⟩ := h
  simp only [Value.agg.injEq, Array.mk.injEq, List.cons.injEq, and_true, Value.slice.injEq, Value.int.injEq, true_and] at e
  obtain ⟨rfl, e0, e1, e2, e3, rfl, rfl, rfl⟩ := e
  exact ⟨g, l, rfl, by omega, by omega, by omega, by omega, rfl⟩

/-- a kid's cells -/
theorem kid_at {T : Nat → Prop} {w : World} {k : Int} {f : Nat → Bool} {l : List Tr} {a : Option Addr} {n c : Nat} (h : ReV T w (.mk k f l) (.agg (cellsR k f a n c))) (i : Nat) (hi : i < l.length) :
    ∃ b o k' f' l' a' c', a = some ⟨b, o, none⟩ ∧ l[i] = .mk k' f' l' ∧ w.cell? ⟨b, o + i * 6, none⟩ = some (.int .i64 k') ∧ w.cell? ⟨b, o + i * 6 + 1, none⟩ = some (.int .u64 (wd f' 0 64 : Nat)) ∧ w.cell? ⟨b, o + i * 6 + 2, none⟩ = some (.int .u64 (wd f' 64 64 : Nat)) ∧ w.cell? ⟨b, o + i * 6 + 3, none⟩ = some (.int .u64 (wd f' 128 64 : Nat)) ∧ w.cell? ⟨b, o + i * 6 + 4, none⟩ = some (.int .u64 (wd f' 192 64 : Nat)) ∧ w.cell? ⟨b, o + i * 6 + 5, none⟩ = some (.slice a' l'.length c') ∧ ReV T w (.mk k' f' l') (.agg (cellsR k' f' a' l'.length c')) := by
  obtain ⟨a2, c2, e, h1, h2, h3⟩ := h
  simp only [Value.agg.injEq, Array.mk.injEq, List.cons.injEq, and_true, Value.slice.injEq, true_and] at e
  obtain ⟨rfl, rfl, rfl⟩ := e
  obtain ⟨b, o, rfl, -, hr⟩ := h3 (by intro e; rw [e] at hi; simp at hi)
  obtain ⟨k', f', a', n', c', g0, g1, g2, g3, g4, g5, hv⟩ := hr.get i hi
  obtain ⟨g, l', e, e0, e1, e2, e3, rfl⟩ := val_is hv
  rw [← e0] at g1
  rw [← e1] at g2
  rw [← e2] at g3
  rw [← e3] at g4
  rw [e] at hv
  have hc : cellsR k' f' a' l'.length c' = cellsR k' g a' l'.length c' := by unfold cellsR; rw [e0, e1, e2, e3]
  rw [hc] at hv
  exact ⟨b, o, k', g, l', a', c', rfl, e, g0, g1, g2, g3, g4, g5, hv⟩

set_option maxRecDepth 100000 in
set_option maxHeartbeats 8000000 in
theorem count_any : ∀ (N : Nat) (T : Nat → Prop) (t : Tr), t.size ≤ N → ∀ (w : World) (v : Value) (d m : Nat), ReV T w t v → d ≤ 41 → m ≤ 400 →
    Calls Try.prog 53 #[v, .int .i64 (d : Int), .int .i64 (m : Int)] w fun e w' => e = .returned (.tuple #[.int .i64 (((cntS t d m).getD 0 : Nat) : Int), .bool (cntS t d m).isSome]) ∧ Kp No w w' := by
  intro N
  induction N with
  | zero => intro T t h; obtain ⟨k, f, l⟩ := t; simp only [Tr.size] at h; omega
  | succ N ih =>
    intro T t hsz w v d m hv hd hm
    obtain ⟨R, hR⟩ : ∃ R, cntS t d m = R := ⟨_, rfl⟩
    rw [hR]
    obtain ⟨tk, tf, tl⟩ := t
    obtain ⟨ta, tc, rfl, h1, h2, h3⟩ := hv
    have hv : ReV T w (.mk tk tf tl) (.agg (cellsR tk tf ta tl.length tc)) := ⟨ta, tc, rfl, h1, h2, h3⟩
    obtain ⟨W0, hW0⟩ : ∃ W0, w.alloc (.cells (cellsR tk tf ta tl.length tc) 30) = W0 := ⟨_, rfl⟩
    obtain ⟨r, hr⟩ : ∃ r, w.heap.size = r := ⟨_, rfl⟩
    have hK0 : Kp No w W0 := by rw [← hW0]; exact (Kp.refl No w).alloc _
    have hB : RAt W0 r (.int .i64 tk) (.int .u64 (wd tf 0 64 : Nat)) (.int .u64 (wd tf 64 64 : Nat)) (.int .u64 (wd tf 128 64 : Nat)) (.int .u64 (wd tf 192 64 : Nat)) (.slice ta tl.length tc) := by
      rw [← hW0, ← hr]
      exact RAt.new _ _ _ _ _ _ _ _
    have hvr : ReV (fun b => b < r) W0 (.mk tk tf tl) (.agg (cellsR tk tf ta tl.length tc)) := ReV.no hK0 _ _ (ReV.wider (fun b _ hlt => by show b < r; omega) _ _ hv)
    have hstart : CnRel W0 r (N + 1) m R (.int .i64 (d : Int)) (.int .i64 0) W0 := ⟨tk, tf, tl, ta, tc, d, 0, rfl, rfl, hsz, hB, hvr, hd, Nat.zero_le _, by rw [← hR, Nat.sub_zero]; cases cntS (.mk tk tf tl) d m <;> simp, Kp.refl _ _⟩
    have HStart := Hid_mk hstart
    have HIh := Hid_mk ih
    have HR := Hid_mk hr
    have HK0 := Hid_mk hK0
    have HM := Hid_mk hm
    unfold cellsR at hW0
    have HW0 := Hid_mk hW0
    clear hstart ih hr hK0 hW0 hB hvr hv h1 h2 h3 hsz hR hd hm
    go_enter Try.func53, Try.ntmps53
    unfold cellsR
    go_wp2_with fail
    rw [HR.out, HW0.out]
    clear HW0
    go_loopw [1, 6] (fun dv nv wr => CnRel W0 r (N + 1) m R dv nv wr) (fun dv nv _ => (m - (intOf nv).toNat) * 50 + (41 - (intOf dv).toNat))
    case atStart => exact HStart.out
    case round =>
      obtain ⟨uk, uf, ul, ua, uc, d, n, rfl, rfl, husz, hub, huv, hd, hn, hcn, hkp⟩ := hrel
      have HB := Hid_mk hub
      have HV := Hid_mk huv
      have HKp := Hid_mk hkp
      have HSz := Hid_mk husz
      have HD := Hid_mk hd
      have HNm := Hid_mk hn
      have hm := HM.out
      obtain ⟨c0, c1, c2, c3, c4, c5, cw⟩ := hub
      have hd0 : (0 : Int) ≤ (d : Int) := Int.natCast_nonneg _
      have hn0 : (0 : Int) ≤ (n : Int) := Int.natCast_nonneg _
      have hwd : IntKind.i64.wrap ((d : Int) + 1) = ((d + 1 : Nat) : Int) := by rw [IntWalk.i64_in _ (by omega)]; push_cast; rfl
      have hwn : IntKind.i64.wrap ((n : Int) + 1) = ((n + 1 : Nat) : Int) := by rw [IntWalk.i64_in _ (by omega)]; push_cast; rfl
      have hwm : IntKind.i64.wrap ((m : Int) - (n : Int)) = ((m - n : Nat) : Int) := by rw [IntWalk.i64_in _ (by omega)]; omega
      rw [cntS.eq_def] at hcn
      simp only at hcn
      clear husz huv hkp hd hn
      by_cases h40 : 40 < d
      · have h40i : (d : Int) > 40 := by omega
        rw [if_pos h40] at hcn
        have HR2 := Hid_mk (show R = none from hcn.symm)
        clear hcn h40 hwd hwn hwm hm
        go_wp2
        go_ret2
        exact ⟨by rw [HR2.out]; rfl, HK0.out.trans HKp.out (T := fun b => b = r) fun i hi e => by have := HR.out; omega⟩
      · have h40i : ¬ (d : Int) > 40 := by omega
        rw [if_neg h40] at hcn
        have hfo := formed_any wr uk uf ua ul.length uc
        rcases hf : formedB uk uf ul.length with _ | _
        · rw [hf, if_pos rfl] at hcn
          have HR2 := Hid_mk (show R = none from hcn.symm)
          rw [hf] at hfo
          unfold cellsR at hfo
          have HFo := Hid_mk hfo
          clear hcn h40 hwd hwn hwm hm hfo hf
          go_wp2_with fail
          with_reducible refine HFo.out.mono ?_
          rintro e w1 ⟨rfl, hk1⟩
          have HK1 := Hid_mk hk1
          clear hk1 c0 c1 c2 c3 c4 c5 cw
          go_wp2
          go_ret2
          exact ⟨by rw [HR2.out]; rfl, (HK0.out.trans HKp.out (T := fun b => b = r) fun i hi e => by have := HR.out; omega).trans' HK1.out⟩
        · rw [hf, if_neg (by simp)] at hcn
          have h2 := formed_le hf
          rw [hf] at hfo
          unfold cellsR at hfo
          have HFo := Hid_mk hfo
          clear hfo hf h40
          rcases ul with _ | ⟨x, _ | ⟨y, _ | ⟨z, l⟩⟩⟩
          · simp only [List.length_nil] at HB HV HFo c5 hcn h2
            clear c0 c1 c2 c3 c4 c5 cw
            by_cases hnm : m - n = 0
            · have hmn : m = n := by have := HNm.out; omega
              subst hmn
              rw [if_pos hnm] at hcn
              have HR2 := Hid_mk (show R = none from hcn.symm)
              clear hcn hnm hwd hwn hwm hm
              obtain ⟨c0, c1, c2, c3, c4, c5, cw⟩ := id HB.out
              go_wp2_with fail
              with_reducible refine HFo.out.mono ?_
              rintro e w1 ⟨rfl, hk1⟩
              have HK1 := Hid_mk hk1
              clear c0 c1 c2 c3 c4 c5 cw
              have hb1 := HB.out.kept hk1 id
              have hv1 := ReV.no hk1 _ _ HV.out
              have HB1 := Hid_mk hb1
              have HV1 := Hid_mk hv1
              obtain ⟨c0, c1, c2, c3, c4, c5, cw⟩ := hb1
              clear hk1
              go_wp2
              go_ret2
              exact ⟨by rw [HR2.out]; rfl, (HK0.out.trans HKp.out (T := fun b => b = r) fun i hi e => by have := HR.out; omega).trans' HK1.out⟩
            · have hne : ((n : Int) == (m : Int)) = false := by rw [beq_eq_false_iff_ne]; omega
              rw [if_neg hnm] at hcn
              have HR2 := Hid_mk (show R = some (n + 1) from hcn.symm)
              clear hcn hnm hwd hwm hm
              obtain ⟨c0, c1, c2, c3, c4, c5, cw⟩ := id HB.out
              go_wp2_with fail
              with_reducible refine HFo.out.mono ?_
              rintro e w1 ⟨rfl, hk1⟩
              have HK1 := Hid_mk hk1
              clear c0 c1 c2 c3 c4 c5 cw
              have hb1 := HB.out.kept hk1 id
              have hv1 := ReV.no hk1 _ _ HV.out
              have HB1 := Hid_mk hb1
              have HV1 := Hid_mk hv1
              obtain ⟨c0, c1, c2, c3, c4, c5, cw⟩ := hb1
              clear hk1
              go_wp2
              go_ret2
              exact ⟨by rw [HR2.out]; rfl, (HK0.out.trans HKp.out (T := fun b => b = r) fun i hi e => by have := HR.out; omega).trans' HK1.out⟩
          · simp only [List.length_cons, List.length_nil, Nat.zero_add] at HB HV HFo c5 hcn h2
            clear c0 c1 c2 c3 c4 c5 cw
            have HC := Hid_mk hcn
            clear hcn hwn hwm hm h2
            obtain ⟨c0, c1, c2, c3, c4, c5, cw⟩ := id HB.out
            go_wp2_with fail
            with_reducible refine HFo.out.mono ?_
            rintro e w1 ⟨rfl, hk1⟩
            clear c0 c1 c2 c3 c4 c5 cw
            have HK1 := Hid_mk (HKp.out.trans hk1 (T := No) fun _ _ e => e.elim)
            have hb1 := HB.out.kept hk1 id
            have hv1 := ReV.no hk1 _ _ HV.out
            have HB1 := Hid_mk hb1
            have HV1 := Hid_mk hv1
            clear hk1 HFo HB HV
            obtain ⟨b, o, k', f', l', a', c', rfl, hx, g0, g1, g2, g3, g4, g5, hvx⟩ := kid_at hv1 0 (by simp)
            simp only [List.getElem_cons_zero] at hx
            simp only [Nat.zero_mul, Nat.add_zero] at g0 g1 g2 g3 g4 g5
            subst hx
            have HVx := Hid_mk hvx
            obtain ⟨c0, c1, c2, c3, c4, c5, cw⟩ := hb1
            clear hv1 hvx
            go_wp2
            go_roundw
            case rel =>
              have hks : Kp (fun b => b = r) w1 (ere.putT w1 r (.int .i64 k') (.int .u64 (wd f' 0 64 : Nat)) (.int .u64 (wd f' 64 64 : Nat)) (.int .u64 (wd f' 128 64 : Nat)) (.int .u64 (wd f' 192 64 : Nat)) (.slice a' l'.length c')) := kp_putT (q := r) (Kp.refl (fun b => b = r) w1) (fun _ => rfl) _ _ _ _ _ _
              exact ⟨k', f', l', a', c', d + 1, n, by push_cast; rfl, rfl, by have := HSz.out; simp only [Tr.size, sizeL] at this ⊢; omega, HB1.out.put _ _ _ _ _ _, ReV.kept hks (fun b hb _ => by have hb : b < r := hb; show ¬ b = r; omega) _ _ HVx.out, by omega, HNm.out, HC.out, HK1.out.trans hks fun _ _ e => e⟩
            case measure => have := HNm.out; simp only [intOf]; omega
          · simp only [List.length_cons, List.length_nil, Nat.zero_add] at HB HV HFo c5 hcn h2
            clear c0 c1 c2 c3 c4 c5 cw
            have HC := Hid_mk hcn
            clear hcn hwn h2
            obtain ⟨c0, c1, c2, c3, c4, c5, cw⟩ := id HB.out
            go_wp2_with fail
            with_reducible refine HFo.out.mono ?_
            rintro e w1 ⟨rfl, hk1⟩
            clear c0 c1 c2 c3 c4 c5 cw
            have HK1 := Hid_mk (HKp.out.trans hk1 (T := No) fun _ _ e => e.elim)
            have hb1 := HB.out.kept hk1 id
            have hv1 := ReV.no hk1 _ _ HV.out
            have HB1 := Hid_mk hb1
            have HV1 := Hid_mk hv1
            clear hk1 HFo HB HV
            obtain ⟨b, o, k', f', l', a', c', rfl, hx, g0, g1, g2, g3, g4, g5, hvx⟩ := kid_at hv1 0 (by simp)
            simp only [List.getElem_cons_zero] at hx
            simp only [Nat.zero_mul, Nat.add_zero] at g0 g1 g2 g3 g4 g5
            subst hx
            have hrec := HIh.out _ (.mk k' f' l') (by have := HSz.out; simp only [Tr.size, sizeL] at this ⊢; omega) w1 _ (d + 1) (m - n) hvx (by omega) (by omega)
            rw [show ((d + 1 : Nat) : Int) = (d : Int) + 1 by push_cast; rfl] at hrec hwd
            have HD2 := Hid_mk (show d ≤ 40 by omega)
            obtain ⟨c0, c1, c2, c3, c4, c5, cw⟩ := hb1
            rcases hcx : cntS (.mk k' f' l') (d + 1) (m - n) with _ | j
            · rw [hcx] at hrec
              have HR2 := Hid_mk (show R = none from by rw [← HC.out, hcx]; rfl)
              have hrec2 : Calls Try.prog 53 #[.agg (cellsR k' f' a' l'.length c'), .int .i64 ((d : Int) + 1), .int .i64 ((m - n : Nat) : Int)] w1 fun e w' => e = .returned (.tuple #[.int .i64 0, .bool false]) ∧ Kp No w1 w' := hrec
              unfold cellsR at hrec2
              have HRec := Hid_mk hrec2
              clear hrec hrec2 hcx hvx hv1 hm
              go_wp2_with fail
              with_reducible refine HRec.out.mono ?_
              rintro e w2 ⟨rfl, hk2⟩
              have HK2 := Hid_mk hk2
              clear hk2 c0 c1 c2 c3 c4 c5 cw g0 g1 g2 g3 g4 g5
              go_wp2
              go_ret2
              exact ⟨by rw [HR2.out]; rfl, (HK0.out.trans HK1.out (T := fun b => b = r) fun i hi e => by have := HR.out; omega).trans' HK2.out⟩
            · rw [hcx] at hrec
              obtain ⟨hj1, hj2⟩ := cnt_some (by omega) hcx
              have hrec2 : Calls Try.prog 53 #[.agg (cellsR k' f' a' l'.length c'), .int .i64 ((d : Int) + 1), .int .i64 ((m - n : Nat) : Int)] w1 fun e w' => e = .returned (.tuple #[.int .i64 (j : Int), .bool true]) ∧ Kp No w1 w' := hrec
              have HE := Hid_mk (show (cntS y d (m - (n + j))).map (n + j + ·) = R from by
                rw [← HC.out, hcx]
                simp only
                rw [show m - (n + j) = m - n - j by omega]
                cases cntS y d (m - n - j) with
                | none => rfl
                | some i => simp [Nat.add_assoc])
              unfold cellsR at hrec2
              have HRec := Hid_mk hrec2
              have HJ1 := Hid_mk hj1
              have HJ2 := Hid_mk hj2
              have hwj : IntKind.i64.wrap ((n : Int) + (j : Int)) = ((n + j : Nat) : Int) := by rw [IntWalk.i64_in _ (by have := HNm.out; omega)]; push_cast; rfl
              clear hrec hrec2 hcx hvx hm hj1 hj2
              go_wp2_with fail
              with_reducible refine HRec.out.mono ?_
              rintro e w2 ⟨rfl, hk2⟩
              have hb2 := HB1.out.kept hk2 id
              have hv2 := ReV.no hk2 _ _ hv1
              obtain ⟨b2, o2, k2, f2, l2, a2, c2', e2, hy, i0, i1, i2, i3, i4, i5, hvy⟩ := kid_at hv2 1 (by simp)
              simp only [Option.some.injEq, Addr.mk.injEq, and_true] at e2
              obtain ⟨rfl, rfl⟩ := e2
              simp only [List.getElem_cons_succ, List.getElem_cons_zero] at hy
              subst hy
              have HVy := Hid_mk hvy
              have HB2 := Hid_mk hb2
              have HK2 := Hid_mk (HK1.out.trans hk2 (T := No) fun _ _ e => e.elim)
              clear hk2 hv1 hv2 hvy c0 c1 c2 c3 c4 c5 cw g0 g1 g2 g3 g4 g5
              obtain ⟨c0, c1, c2, c3, c4, c5, cw⟩ := hb2
              go_wp2
              go_roundw
              case rel =>
                have hks : Kp (fun b => b = r) w2 (ere.putT w2 r (.int .i64 k2) (.int .u64 (wd f2 0 64 : Nat)) (.int .u64 (wd f2 64 64 : Nat)) (.int .u64 (wd f2 128 64 : Nat)) (.int .u64 (wd f2 192 64 : Nat)) (.slice a2 l2.length c2')) := kp_putT (q := r) (Kp.refl (fun b => b = r) w2) (fun _ => rfl) _ _ _ _ _ _
                exact ⟨k2, f2, l2, a2, c2', d, n + j, rfl, by push_cast; rfl, by have := HSz.out; simp only [Tr.size, sizeL] at this ⊢; omega, HB2.out.put _ _ _ _ _ _, ReV.kept hks (fun b hb _ => by have hb : b < r := hb; show ¬ b = r; omega) _ _ HVy.out, HD.out, by have := HJ2.out; have := HNm.out; omega, HE.out, HK2.out.trans hks fun _ _ e => e⟩
              case measure => have := HNm.out; have := HJ1.out; have := HJ2.out; have := HD.out; simp only [intOf]; omega
          · simp at h2

/-- Right and Sets -/
theorem pright_any {T : Nat → Prop} (w : World) (v : Value) (t : Tr) (hv : ReV T w t v) : Calls Try.prog 31 #[v] w fun e w' => e = .returned (.bool (rightS t)) ∧ Kp No w w' := by
  have hc : ∀ W, Kp No w W → Calls Try.prog 53 #[v, .int .i64 1, .int .i64 400] W fun e w' => e = .returned (.tuple #[.int .i64 (((cntS t 1 400).getD 0 : Nat) : Int), .bool (cntS t 1 400).isSome]) ∧ Kp No W w' := fun W (hk : Kp No w W) => count_any t.size T t (Nat.le_refl _) W v 1 400 (ReV.no hk t v hv) (by decide) (by decide)
  rw [cnt_right] at hc
  have hb : ((if rightS t = true then some (setsS t) else none).isSome) = rightS t := by cases rightS t <;> rfl
  rw [hb] at hc
  generalize (if rightS t = true then some (setsS t) else none).getD 0 = X at hc
  generalize rightS t = B at hc ⊢
  obtain ⟨k, f, l⟩ := t
  obtain ⟨a, c, rfl, -, -, -⟩ := hv
  have HK0 := Hid_mk ((Kp.refl No w).alloc (.cells (cellsR k f a l.length c) 30))
  unfold cellsR at hc HK0
  have HC := Hid_mk hc
  clear hc hb
  go_enter Try.func31, Try.ntmps31
  unfold cellsR
  go_wp2_with fail
  with_reducible refine (HC.out _ HK0.out).mono ?_
  rintro e w1 ⟨rfl, hk1⟩
  have HK1 := Hid_mk (HK0.out.trans' hk1)
  clear hk1 HC
  go_wp2
  go_ret
  exact ⟨rfl, HK1.out⟩
end Go.Proofs.Ytaneblecgjahbab.ere

namespace Go.Proofs.Ytaneblecgjahbab.nfa
open Go.RowKit Go.Proofs.Ytaneblecgjahbab.sum Go.Proofs.Ytaneblecgjahbab.kept Go.Proofs.Ytaneblecgjahbab.pop Go.Proofs.Ytaneblecgjahbab.cls Go.Proofs.Ytaneblecgjahbab.tre Go.Proofs.Ytaneblecgjahbab.ere
set_option linter.unusedVariables false

set_option maxRecDepth 100000 in
theorem isSign_any (w : World) (k : Int) : Calls Try.prog 89 #[.int .i64 k] w fun e w' => e = .returned (.bool (isSignK k)) ∧ w = w' := by
  unfold isSignK
  by_cases h4 : k = 4
  · subst h4
    go_enter Try.func89, Try.ntmps89
    go_wp2
    go_ret
    exact ⟨rfl, rfl⟩
  · by_cases h5 : k = 5
    · subst h5
      go_enter Try.func89, Try.ntmps89
      go_wp2
      go_ret
      exact ⟨rfl, rfl⟩
    · have e4 : (k == 4) = false := by simpa using h4
      have e5 : (k == 5) = false := by simpa using h5
      have ed : (decide (k = 4) || decide (k = 5) || decide (k = 6)) = (k == 6) := by simp [h4, h5]; rfl
      rw [ed]
      clear h4 h5 ed
      go_enter Try.func89, Try.ntmps89
      go_wp2
      all_goals
        go_ret
        exact ⟨by first | rfl | simp_all, rfl⟩

theorem PgTo.kp {w : World} {b base : Nat} {v : Value} {ps : List Part} {st : Nat} {bk : Bool} {w' : World} (h : PgTo w b base v ps st bk w') : Kp (fun i => i = b ∨ some i = v.ownBlock) w w' := by
  obtain ⟨_, _, _, h⟩ := h
  exact h
theorem PgTo.of3 {w : World} {b base : Nat} {v v' : Value} {ps : List Part} {st : Nat} {bk : Bool} {w' : World} (h1 : PgAt w' b base v' ps st bk) (h2 : v'.ownBlock = v.ownBlock ∨ ∃ g, v'.ownBlock = some g ∧ w.heap.size ≤ g) (h3 : Kp (fun i => i = b ∨ some i = v.ownBlock) w w') : PgTo w b base v ps st bk w' := ⟨v', h1, h2, h3⟩
/-- behind lay -/
def LyPost (w : World) (b base : Nat) (v : Value) (st : Nat) (bk : Bool) (r : Nat × List Part) (e : Ending) (w' : World) : Prop :=
  e = .returned (.int .i64 (r.1 : Int)) ∧ PgTo w b base v r.2 st bk w'
theorem LyPost.is {w : World} {b base : Nat} {v : Value} {st : Nat} {bk : Bool} {r : Nat × List Part} {e : Ending} {w' : World} (h : LyPost w b base v st bk r e w') : e = .returned (.int .i64 (r.1 : Int)) ∧ ∃ v', PgAt w' b base v' r.2 st bk ∧ (v'.ownBlock = v.ownBlock ∨ ∃ g, v'.ownBlock = some g ∧ w.heap.size ≤ g) ∧ Kp (fun i => i = b ∨ some i = v.ownBlock) w w' := h
/-- what is asked of lay, of laySigns -/
def LyC (F : Nat) (t : Tr) : Prop :=
  ∀ (w : World) (b base : Nat) (v : Value) (ps : List Part) (st : Nat) (bk : Bool) (next : Nat) (T : Nat → Prop) (vt : Value), PgAt w b base v ps st bk → ReV T w t vt → (∀ i, T i → i < base) → ps.length + t.size ≤ 1000000 → next ≤ 1000000 →
    Calls Try.prog F #[.pointer (some ⟨b, 0, none⟩), vt, .int .i64 (next : Int)] w (LyPost w b base v st bk (layM t none bk next ps))

/-- at the loop's head: what the signs so far make of what is left -/
def SgRel (W1 : World) (z : Nat) (T : Nat → Prop) (bk : Bool) (next : Nat) (ps : List Part) (A : Nat × List Part) (N : Nat) (m : Nat) (no ag : Value) (wr : World) : Prop :=
  ∃ (uk : Int) (uf : Nat → Bool) (ul : List Tr) (ua : Option Addr) (uc : Nat) (nb ab : Bool), no = .bool nb ∧ ag = .bool ab ∧ RAt wr z (.int .i64 uk) (.int .u64 (wd uf 0 64 : Nat)) (.int .u64 (wd uf 64 64 : Nat)) (.int .u64 (wd uf 128 64 : Nat)) (.int .u64 (wd uf 192 64 : Nat)) (.slice ua ul.length uc) ∧
    ReV T wr (.mk uk uf ul) (.agg (cellsR uk uf ua ul.length uc)) ∧ (Tr.mk uk uf ul).size ≤ m ∧ m ≤ N ∧ shapedS (.mk uk uf ul) = true ∧ layM (.mk uk uf ul) (some (nb, ab)) bk next ps = A ∧ (isSignK uk = true ∨ m < N) ∧ Kp (fun i => i = z) W1 wr

theorem PgAt.slice {w : World} {b base : Nat} {v : Value} {ps : List Part} {st : Nat} {bk : Bool} (h : PgAt w b base v ps st bk) (z : Nat) (hz : w.heap.size ≤ z) : ¬ b = z ∧ ∀ g, v.ownBlock = some g → ¬ g = z :=
  ⟨fun e => by have := h.lt; omega, fun g hg e => by have := (own_lt h.row hg).2; omega⟩

theorem sign_kid {k : Int} {f : Nat → Bool} {l : List Tr} (hsg : isSignK k = true) (hsh : shapedS (.mk k f l) = true) : (k = 4 ∨ k = 5 ∨ k = 6) ∧ ∃ x, l = [x] ∧ shapedS x = true := by
  have hk : k = 4 ∨ k = 5 ∨ k = 6 := by
    unfold isSignK at hsg
    simp at hsg
    omega
  refine ⟨hk, ?_⟩
  rw [shapedS] at hsh
  simp only [Bool.and_eq_true, decide_eq_true_eq] at hsh
  have h1 := hsh.1.1
  have h2 : kidsS k = 1 := by rcases hk with rfl | rfl | rfl <;> rfl
  rw [h2] at h1
  match l, h1, hsh.2 with
  | [x], _, hs =>
    rw [shapedL, shapedL, Bool.and_true] at hs
    exact ⟨x, rfl, hs⟩
  | [], h, _ => simp at h
  | _ :: _ :: _, h, _ => simp at h; omega

set_option maxRecDepth 100000 in
set_option maxHeartbeats 8000000 in
theorem signs_any (t : Tr) (hsg : isSignK t.kind = true) (hsh : shapedS t = true) (ih : ∀ u : Tr, u.size < t.size → shapedS u = true → LyC 54 u) : LyC 78 t := by
  intro w b base v ps st bk next T vt hp hv hT hlen hnx
  obtain ⟨A, hA⟩ : ∃ A, layM t none bk next ps = A := ⟨_, rfl⟩
  rw [hA]
  obtain ⟨k, f, l⟩ := t
  obtain ⟨a, c, rfl, q1, q2, q3⟩ := hv
  have hv : ReV T w (.mk k f l) (.agg (cellsR k f a l.length c)) := ⟨a, c, rfl, q1, q2, q3⟩
  have hA2 : layM (.mk k f l) (some (false, false)) bk next ps = A := by
    rw [← hA]
    obtain ⟨-, x, rfl, -⟩ := sign_kid (show isSignK k = true from hsg) hsh
    rw [layM_one, layM_one]
    rfl
  obtain ⟨z, hz⟩ : ∃ z, w.heap.size = z := ⟨_, rfl⟩
  obtain ⟨N, hN⟩ : ∃ N, (Tr.mk k f l).size = N := ⟨_, rfl⟩
  have HZ := Hid_mk hz
  have HP := Hid_mk hp
  have HV := Hid_mk hv
  have HT := Hid_mk hT
  have HL := Hid_mk hlen
  have HNx := Hid_mk hnx
  have HA2 := Hid_mk hA2
  have HN := Hid_mk hN
  have HSg := Hid_mk (show isSignK k = true from hsg)
  have HSh := Hid_mk hsh
  have HIh := Hid_mk ih
  clear hz hp hv hT hlen hnx hA hA2 hsg hsh ih q1 q2 q3 hN
  go_enter Try.func78, Try.ntmps78
  unfold cellsR
  go_upto_region 1 with fail
  rw [HZ.out]
  refine wp_name (fun V => Kp No w V ∧ V.heap.size = z + 1 ∧ RAt V z (.int .i64 k) (.int .u64 (wd f 0 64 : Nat)) (.int .u64 (wd f 64 64 : Nat)) (.int .u64 (wd f 128 64 : Nat)) (.int .u64 (wd f 192 64 : Nat)) (.slice a l.length c)) ?_ ?_
  · have hz := HZ.out
    refine ⟨(Kp.refl No w).alloc _, by simp [hz], ?_⟩
    rw [← hz]
    exact RAt.new _ _ _ _ _ _ _ _
  rintro W1 ⟨hk1, hz1, hr1⟩
  have HK1 := Hid_mk hk1
  have HZ1 := Hid_mk hz1
  have HStart : Hid (SgRel W1 z T bk next ps A N N (.bool false) (.bool false) W1) := Hid_mk ⟨k, f, l, a, c, false, false, rfl, rfl, hr1, ReV.no hk1 _ _ HV.out, Nat.le_of_eq HN.out, Nat.le_refl _, HSh.out, HA2.out, .inl HSg.out, Kp.refl _ _⟩
  clear hk1 hz1 hr1
  go_wp2_with fail
  go_loopg [7, 8] N (fun m no ag wr => SgRel W1 z T bk next ps A N m no ag wr)
  case atStart => exact HStart.out
  case round =>
    obtain ⟨uk, uf, ul, ua, uc, nb, ab, rfl, rfl, hub, huv, husz, hmN, hush, hul, huo, hkp⟩ := hrel
    have HB := Hid_mk hub
    have HV := Hid_mk huv
    have HSz := Hid_mk husz
    have HMN := Hid_mk hmN
    have HUl := Hid_mk hul
    have HUo := Hid_mk huo
    have HUs := Hid_mk hush
    have HKp := Hid_mk hkp
    have hTz : ∀ i, T i → i < wr.heap.size → ¬ i = z := fun i hi _ e => by
      have h1 := HT.out i hi
      have h2 := HP.out.le
      have h3 := HP.out.lt
      have h4 := HZ.out
      omega
    have HTz := Hid_mk hTz
    have hkw : Kp (fun i => i = b ∨ some i = v.ownBlock) w wr := (HK1.out.to : Kp (fun i => i = b ∨ some i = v.ownBlock) w W1).trans hkp fun i hi e => by have := HZ.out; omega
    have hpr : PgAt wr b base v ps st bk := (HP.out.no HK1.out).kept hkp (by have := HP.out.lt; have := HZ.out; omega) fun g hg e => by have := (own_lt HP.out.row hg).2; have := HZ.out; omega
    have HKw := Hid_mk hkw
    have HPr := Hid_mk hpr
    clear husz hmN hul huo hush hkp hTz hkw hpr
    obtain ⟨c0, c1, c2, c3, c4, c5, cw⟩ := hub
    by_cases hsgn : isSignK uk = true
    · have hS := fun V => isSign_any V uk
      rw [hsgn] at hS
      have HS := Hid_mk hS
      obtain ⟨hk3, x, rfl, hxs⟩ := sign_kid hsgn HUs.out
      have HXs := Hid_mk hxs
      obtain ⟨bb, oo, k', f', l', a', c', rfl, hx, g0, g1, g2, g3, g4, g5, hvx⟩ := kid_at HV.out 0 (by simp)
      simp only [List.getElem_cons_zero] at hx
      simp only [Nat.zero_mul, Nat.add_zero] at g0 g1 g2 g3 g4 g5
      subst hx
      have HVx := Hid_mk hvx
      have huc : 1 ≤ uc ∧ uc ≤ 9223372036854775807 := by
        obtain ⟨a9, c9, e9, h9, h10, -⟩ := HV.out
        injection e9 with e9
        simp at e9 h9
        omega
      simp only [List.length_cons, List.length_nil, Nat.zero_add] at c5
      clear hS hsgn hxs hvx huv
      rcases hk3 with rfl | rfl | rfl <;> cases nb <;> cases ab
      all_goals
        go_wp2_with (go_at_call 89; with_reducible refine (HS.out _).mono ?_; rintro e w' ⟨rfl, rfl⟩)
        go_roundg (gk - 1)
        case measure => have h1 := HSz.out; simp only [Tr.size, sizeL] at h1; omega
        case rel =>
          have hks : Kp (fun i => i = z) wr (ere.putT wr z (.int .i64 k') (.int .u64 (wd f' 0 64 : Nat)) (.int .u64 (wd f' 64 64 : Nat)) (.int .u64 (wd f' 128 64 : Nat)) (.int .u64 (wd f' 192 64 : Nat)) (.slice a' l'.length c')) := kp_putT (q := z) (Kp.refl (fun i => i = z) wr) (fun _ => rfl) _ _ _ _ _ _
          have e := HUl.out
          rw [layM_one] at e
          have h1 := HSz.out
          have h2 := HMN.out
          simp only [Tr.size, sizeL] at h1
          exact ⟨k', f', l', a', c', _, _, rfl, rfl, HB.out.put _ _ _ _ _ _, ReV.kept hks HTz.out _ _ HVx.out, by simp only [Tr.size]; omega, by omega, HXs.out, by simpa [nextM] using e, .inr (by omega), HKp.out.trans' hks⟩
    · have hsf : isSignK uk = false := by cases h : isSignK uk with | true => exact absurd h hsgn | false => rfl
      have hmlt : gk < N := by
        rcases HUo.out with h | h
        · exact absurd h hsgn
        · exact h
      have hS := fun V => isSign_any V uk
      rw [hsf] at hS
      have HS := Hid_mk hS
      have HMl := Hid_mk hmlt
      have hus : (Tr.mk uk uf ul).size < (Tr.mk k f l).size := by have := HSz.out; have := HN.out; omega
      have hly := HIh.out _ hus HUs.out
      have hE := lay_wrap (t := .mk uk uf ul) hsf HUs.out (some (nb, ab)) bk next ps
      rw [HUl.out] at hE
      have HE := Hid_mk hE
      have HLy := Hid_mk hly
      have HUz := Hid_mk hus
      have hlen9 := lay_len (.mk uk uf ul) none bk
      have HLn := Hid_mk hlen9
      clear hsgn hsf hmlt hS hus hly hE hlen9 huv
      cases ab with
      | false =>
        have hc := HLy.out wr b base v ps st bk next T _ HPr.out HV.out HT.out (by have := HL.out; have := HUz.out; omega) HNx.out
        unfold cellsR at hc
        have HC := Hid_mk hc
        clear hc
        go_wp2_with (go_at_call 89; with_reducible refine (HS.out _).mono ?_; rintro e w' ⟨rfl, rfl⟩)
        with_reducible refine HC.out.mono ?_
        rintro e w4 ⟨rfl, v4, hp4, ho4, hk4⟩
        obtain ⟨r1, hr1⟩ : ∃ r1, (layM (.mk uk uf ul) none bk next ps).1 = r1 := ⟨_, rfl⟩
        obtain ⟨r2, hr2⟩ : ∃ r2, (layM (.mk uk uf ul) none bk next ps).2 = r2 := ⟨_, rfl⟩
        have hln := (HLn.out next ps).1
        have HEf : Hid (A = (r2.length, r2 ++ [⟨2, nul, r1, next⟩])) := Hid_mk (by rw [HE.out, ← hr1, ← hr2]; rfl)
        rw [hr1] at *
        rw [hr2] at hp4 hln
        have hadd := add_any w4 b base v4 r2 st bk hp4 2 nul r1 next (by have := HL.out; have := HUz.out; simp at hln; omega)
        simp only [wd_nul, Int.natCast_zero, show ((2 : Nat) : Int) = 2 from rfl] at hadd
        have HAdd := Hid_mk hadd
        have HO4 := Hid_mk ho4
        have HK4 := Hid_mk hk4
        clear hp4 ho4 hk4 hr1 hr2 hln hadd c0 c1 c2 c3 c4 c5 cw
        go_wp2_with fail
        with_reducible refine HAdd.out.mono ?_
        rintro e w5 ⟨rfl, hp5⟩
        have HP5 := Hid_mk (PgTo.trans (.inl rfl) HKw.out (PgTo.trans HO4.out HK4.out hp5))
        clear hp5
        go_wp2
        go_ret
        rw [HEf.out]
        exact ⟨rfl, HP5.out⟩
      | true =>
        have hadd := add_any wr b base v ps st bk HPr.out 2 nul 0 next (by have := HL.out; omega)
        simp only [wd_nul, Int.natCast_zero, show ((2 : Nat) : Int) = 2 from rfl] at hadd
        have HAdd := Hid_mk hadd
        clear hadd
        go_wp2_with (go_at_call 89; with_reducible refine (HS.out _).mono ?_; rintro e w' ⟨rfl, rfl⟩)
        with_reducible refine HAdd.out.mono ?_
        rintro e w4 ⟨rfl, v4, hp4, ho4, hk4⟩
        have hTb : ∀ i, T i → i < wr.heap.size → ¬ (i = b ∨ some i = v.ownBlock) := fun i hi _ => by
          have h1 := HT.out i hi
          rintro (e | e)
          · have := HP.out.le; omega
          · have := (own_lt HP.out.row e.symm).1; omega
        have hv4 := ReV.kept hk4 hTb _ _ HV.out
        have hzb : ¬ (z = b ∨ some z = v.ownBlock) := by
          rintro (e | e)
          · have := HP.out.lt; have := HZ.out; omega
          · have := (own_lt HP.out.row e.symm).2; have := HZ.out; omega
        have hb4 := HB.out.kept hk4 hzb
        have hc := HLy.out w4 b base v4 (ps ++ [⟨2, nul, 0, next⟩]) st bk ps.length T _ hp4 hv4 HT.out (by have := HL.out; have := HUz.out; simp; omega) (by have := HL.out; omega)
        unfold cellsR at hc
        have HC := Hid_mk hc
        have HO4 := Hid_mk ho4
        have HK4 := Hid_mk hk4
        obtain ⟨c0, c1, c2, c3, c4, c5, cw⟩ := hb4
        clear hp4 ho4 hk4 hTb hv4 hzb hc
        go_wp2_with fail
        with_reducible refine HC.out.mono ?_
        rintro e w5 ⟨rfl, v5, hp5, ho5, hk5⟩
        obtain ⟨r1, hr1⟩ : ∃ r1, (layM (.mk uk uf ul) none bk ps.length (ps ++ [⟨2, nul, 0, next⟩])).1 = r1 := ⟨_, rfl⟩
        obtain ⟨r2, hr2⟩ : ∃ r2, (layM (.mk uk uf ul) none bk ps.length (ps ++ [⟨2, nul, 0, next⟩])).2 = r2 := ⟨_, rfl⟩
        have HEf : Hid (A = ((if nb = true then ps.length else r1), setN r2 ps.length r1)) := Hid_mk (by rw [HE.out, ← hr1, ← hr2]; rfl)
        obtain ⟨lx, hlx⟩ := lay_pre (.mk uk uf ul) none bk ps.length (ps ++ [⟨2, nul, 0, next⟩])
        rw [hr1]
        rw [hr2] at hp5 hlx
        have hfk : ps.length < r2.length := by rw [hlx]; simp
        obtain ⟨g, cg, rfl, hg1, hg2, hg3, hg4, hgw, d0, d1, d2, d3, d4, d5, d6⟩ := hp5.part ps.length hfk
        have hset := hp5.setNext (g := g) rfl ps.length r1 hfk
        have hkg : Kp (fun i => i = b ∨ some i = (Value.slice (some ⟨g, 0, none⟩) r2.length cg).ownBlock) w5 (w5.setCell ⟨g, ps.length * 7 + 5, none⟩ (.int .i64 (r1 : Int))) := (Kp.refl _ w5).setCell (p := ⟨g, ps.length * 7 + 5, none⟩) (fun _ => .inr rfl) _
        have HP5 := Hid_mk (PgTo.trans (.inl rfl) HKw.out (PgTo.trans HO4.out HK4.out (PgTo.trans ho5 hk5 ⟨_, hset, .inl rfl, hkg⟩)))
        have e0 := hp5.c0
        have hwf : hgw = hgw := rfl
        have hfz := hgw (ps.length * 7 + 5)
        unfold maxLen at hg4
        clear hp5 ho5 hk5 hr1 hr2 hlx hset hkg hwf hgw d0 d1 d2 d3 d4 d6 c0 c1 c2 c3 c4 c5 cw
        have hfi : (ps.length : Int) < (r2.length : Int) := by omega
        cases nb <;>
        · go_wp2
          go_ret
          rw [HEf.out]
          exact ⟨rfl, HP5.out⟩

end Go.Proofs.Ytaneblecgjahbab.nfa
