/- Package ere: countLeaves, Right, Sets. Package ere: Quote: each byte as a backslash and three octal digits. Package ere: a list of trees in a block of its own. -/
import Derived.Test.YtjalnddgbnjmcaaRefSameM
import Derived.Test.YtjalnddgbnjmcaaErePureM
import Derived.Test.YtjalnddgbnjmcaaShelf
import Derived.Maps.AppendAt

namespace Go.Proofs.Ytjalnddgbnjmcaa.ere
open Go.RowKit Go.Proofs.Ytjalnddgbnjmcaa.sum Go.Proofs.Ytjalnddgbnjmcaa.kept Go.Proofs.Ytjalnddgbnjmcaa.pop Go.Proofs.Ytjalnddgbnjmcaa.cls Go.Proofs.Ytjalnddgbnjmcaa.tre Go.Proofs.Ytjalnddgbnjmcaa.str
set_option linter.unusedVariables false

theorem RAt.put {w : World} {q : Nat} {x0 x1 x2 x3 x4 x5 : Value} (h : RAt w q x0 x1 x2 x3 x4 x5) (y0 y1 y2 y3 y4 y5 : Value) : RAt (ere.putT w q y0 y1 y2 y3 y4 y5) q y0 y1 y2 y3 y4 y5 := by
  obtain ⟨c0, c1, c2, c3, c4, c5, hw⟩ := h
  unfold ere.putT
  refine ⟨?_, ?_, ?_, ?_, ?_, ?_, fun i => by simp only [World.frozen?_setCell]; exact hw i⟩
  · rw [World.cell?_setCell_other _ _ _ _ (by intro e; cases e)]; rw [World.cell?_setCell_other _ _ _ _ (by intro e; cases e)]; rw [World.cell?_setCell_other _ _ _ _ (by intro e; cases e)]; rw [World.cell?_setCell_other _ _ _ _ (by intro e; cases e)]; rw [World.cell?_setCell_other _ _ _ _ (by intro e; cases e)]; exact World.cell?_setCell_same _ _ _ (by exact c0)
  · rw [World.cell?_setCell_other _ _ _ _ (by intro e; cases e)]; rw [World.cell?_setCell_other _ _ _ _ (by intro e; cases e)]; rw [World.cell?_setCell_other _ _ _ _ (by intro e; cases e)]; rw [World.cell?_setCell_other _ _ _ _ (by intro e; cases e)]; exact World.cell?_setCell_same _ _ _ (by rw [World.cell?_setCell_other _ _ _ _ (by intro e; cases e)]; exact c1)
  · rw [World.cell?_setCell_other _ _ _ _ (by intro e; cases e)]; rw [World.cell?_setCell_other _ _ _ _ (by intro e; cases e)]; rw [World.cell?_setCell_other _ _ _ _ (by intro e; cases e)]; exact World.cell?_setCell_same _ _ _ (by rw [World.cell?_setCell_other _ _ _ _ (by intro e; cases e)]; rw [World.cell?_setCell_other _ _ _ _ (by intro e; cases e)]; exact c2)
  · rw [World.cell?_setCell_other _ _ _ _ (by intro e; cases e)]; rw [World.cell?_setCell_other _ _ _ _ (by intro e; cases e)]; exact World.cell?_setCell_same _ _ _ (by rw [World.cell?_setCell_other _ _ _ _ (by intro e; cases e)]; rw [World.cell?_setCell_other _ _ _ _ (by intro e; cases e)]; rw [World.cell?_setCell_other _ _ _ _ (by intro e; cases e)]; exact c3)
  · rw [World.cell?_setCell_other _ _ _ _ (by intro e; cases e)]; exact World.cell?_setCell_same _ _ _ (by rw [World.cell?_setCell_other _ _ _ _ (by intro e; cases e)]; rw [World.cell?_setCell_other _ _ _ _ (by intro e; cases e)]; rw [World.cell?_setCell_other _ _ _ _ (by intro e; cases e)]; rw [World.cell?_setCell_other _ _ _ _ (by intro e; cases e)]; exact c4)
  · exact World.cell?_setCell_same _ _ _ (by rw [World.cell?_setCell_other _ _ _ _ (by intro e; cases e)]; rw [World.cell?_setCell_other _ _ _ _ (by intro e; cases e)]; rw [World.cell?_setCell_other _ _ _ _ (by intro e; cases e)]; rw [World.cell?_setCell_other _ _ _ _ (by intro e; cases e)]; rw [World.cell?_setCell_other _ _ _ _ (by intro e; cases e)]; exact c5)
def CnRel (W0 : World) (r N m : Nat) (R : Option Nat) (dv nv : Value) (wr : World) : Prop :=
  ∃ (uk : Int) (uf : Nat → Bool) (ul : List Tr) (ua : Option Addr) (uc d n : Nat), dv = .int .i64 (d : Int) ∧ nv = .int .i64 (n : Int) ∧ (Tr.mk uk uf ul).size ≤ N ∧ RAt wr r (.int .i64 uk) (.int .u64 (wd uf 0 64 : Nat)) (.int .u64 (wd uf 64 64 : Nat)) (.int .u64 (wd uf 128 64 : Nat)) (.int .u64 (wd uf 192 64 : Nat)) (.slice ua ul.length uc) ∧
    ReV (fun b => b < r) wr (.mk uk uf ul) (.agg (cellsR uk uf ua ul.length uc)) ∧ d ≤ 41 ∧ n ≤ m ∧ (cntS (.mk uk uf ul) d (m - n)).map (n + ·) = R ∧ Kp (fun b => b = r) W0 wr
theorem cnt_some {t : Tr} {d m j : Nat} (hd : d ≤ 41) (h : cntS t d m = some j) : 1 ≤ j ∧ j ≤ m := by
  obtain ⟨i1, i2⟩ := cnt_is t d m hd
  by_cases ho : okP t d m
  · rw [i1 ho] at h
    cases h
    exact ⟨setsS_pos t, ho.2.2⟩
  · rw [i2 ho] at h
    cases h
/-- the cells of a tree's value are its own -/
theorem val_is {T : Nat → Prop} {w : World} {t : Tr} {k : Int} {f : Nat → Bool} {a : Option Addr} {n c : Nat} (h : ReV T w t (.agg (cellsR k f a n c))) : ∃ g l, t = .mk k g l ∧ wd g 0 64 = wd f 0 64 ∧ wd g 64 64 = wd f 64 64 ∧ wd g 128 64 = wd f 128 64 ∧ wd g 192 64 = wd f 192 64 ∧ n = l.length := by
  obtain ⟨k', g, l⟩ := t
  obtain ⟨a2, c2, e, h1, h2, h3⟩ := h
  simp only [Value.agg.injEq, Array.mk.injEq, List.cons.injEq, and_true, Value.slice.injEq, Value.int.injEq, true_and] at e
  obtain ⟨rfl, e0, e1, e2, e3, rfl, rfl, rfl⟩ := e
  exact ⟨g, l, rfl, by omega, by omega, by omega, by omega, rfl⟩

/-- a kid's cells -/
theorem kid_at {T : Nat → Prop} {w : World} {k : Int} {f : Nat → Bool} {l : List Tr} {a : Option Addr} {n c : Nat} (h : ReV T w (.mk k f l) (.agg (cellsR k f a n c))) (i : Nat) (hi : i < l.length) :
    ∃ b o k' f' l' a' c', a = some ⟨b, o, none⟩ ∧ l[i] = .mk k' f' l' ∧ w.cell? ⟨b, o + i * 6, none⟩ = some (.int .i64 k') ∧ w.cell? ⟨b, o + i * 6 + 1, none⟩ = some (.int .u64 (wd f' 0 64 : Nat)) ∧ w.cell? ⟨b, o + i * 6 + 2, none⟩ = some (.int .u64 (wd f' 64 64 : Nat)) ∧ w.cell? ⟨b, o + i * 6 + 3, none⟩ = some (.int .u64 (wd f' 128 64 : Nat)) ∧ w.cell? ⟨b, o + i * 6 + 4, none⟩ = some (.int .u64 (wd f' 192 64 : Nat)) ∧ w.cell? ⟨b, o + i * 6 + 5, none⟩ = some (.slice a' l'.length c') ∧ ReV T w (.mk k' f' l') (.agg (cellsR k' f' a' l'.length c')) := by
  obtain ⟨a2, c2, e, h1, h2, h3⟩ := h
  simp only [Value.agg.injEq, Array.mk.injEq, List.cons.injEq, and_true, Value.slice.injEq, true_and] at e
  obtain ⟨rfl, rfl, rfl⟩ := e
  obtain ⟨b, o, rfl, -, hr⟩ := h3 (by intro e; rw [e] at hi; simp at hi)
  obtain ⟨k', f', a', n', c', g0, g1, g2, g3, g4, g5, hv⟩ := hr.get i hi
  obtain ⟨g, l', e, e0, e1, e2, e3, rfl⟩ := val_is hv
  rw [← e0] at g1
  rw [← e1] at g2
  rw [← e2] at g3
  rw [← e3] at g4
  rw [e] at hv
  have hc : cellsR k' f' a' l'.length c' = cellsR k' g a' l'.length c' := by unfold cellsR; rw [e0, e1, e2, e3]
  rw [hc] at hv
  exact ⟨b, o, k', g, l', a', c', rfl, e, g0, g1, g2, g3, g4, g5, hv⟩

set_option maxRecDepth 100000 in
set_option maxHeartbeats 8000000 in
theorem count_any : ∀ (N : Nat) (T : Nat → Prop) (t : Tr), t.size ≤ N → ∀ (w : World) (v : Value) (d m : Nat), ReV T w t v → d ≤ 41 → m ≤ 400 →
    Calls Try.prog 55 #[v, .int .i64 (d : Int), .int .i64 (m : Int)] w fun e w' => e = .returned (.tuple #[.int .i64 (((cntS t d m).getD 0 : Nat) : Int), .bool (cntS t d m).isSome]) ∧ Kp No w w' := by
  intro N
  induction N with
  | zero => intro T t h; obtain ⟨k, f, l⟩ := t; simp only [Tr.size] at h; omega
  | succ N ih =>
    intro T t hsz w v d m hv hd hm
    obtain ⟨R, hR⟩ : ∃ R, cntS t d m = R := ⟨_, rfl⟩
    rw [hR]
    obtain ⟨tk, tf, tl⟩ := t
    obtain ⟨ta, tc, rfl, h1, h2, h3⟩ := hv
    have hv : ReV T w (.mk tk tf tl) (.agg (cellsR tk tf ta tl.length tc)) := ⟨ta, tc, rfl, h1, h2, h3⟩
    obtain ⟨W0, hW0⟩ : ∃ W0, w.alloc (.cells (cellsR tk tf ta tl.length tc) 33) = W0 := ⟨_, rfl⟩
    obtain ⟨r, hr⟩ : ∃ r, w.heap.size = r := ⟨_, rfl⟩
    have hK0 : Kp No w W0 := by rw [← hW0]; exact (Kp.refl No w).alloc _
    have hB : RAt W0 r (.int .i64 tk) (.int .u64 (wd tf 0 64 : Nat)) (.int .u64 (wd tf 64 64 : Nat)) (.int .u64 (wd tf 128 64 : Nat)) (.int .u64 (wd tf 192 64 : Nat)) (.slice ta tl.length tc) := by
      rw [← hW0, ← hr]
      exact RAt.new _ _ _ _ _ _ _ _
    have hvr : ReV (fun b => b < r) W0 (.mk tk tf tl) (.agg (cellsR tk tf ta tl.length tc)) := ReV.no hK0 _ _ (ReV.wider (fun b _ hlt => by show b < r; omega) _ _ hv)
    have hstart : CnRel W0 r (N + 1) m R (.int .i64 (d : Int)) (.int .i64 0) W0 := ⟨tk, tf, tl, ta, tc, d, 0, rfl, rfl, hsz, hB, hvr, hd, Nat.zero_le _, by rw [← hR, Nat.sub_zero]; cases cntS (.mk tk tf tl) d m <;> simp, Kp.refl _ _⟩
    have HStart := Hid_mk hstart
    have HIh := Hid_mk ih
    have HR := Hid_mk hr
    have HK0 := Hid_mk hK0
    have HM := Hid_mk hm
    unfold cellsR at hW0
    have HW0 := Hid_mk hW0
    clear hstart ih hr hK0 hW0 hB hvr hv h1 h2 h3 hsz hR hd hm
    go_enter Try.func55, Try.ntmps55
    unfold cellsR
    go_wp2_with fail
    rw [HR.out, HW0.out]
    clear HW0
    go_loopw [1, 6] (fun dv nv wr => CnRel W0 r (N + 1) m R dv nv wr) (fun dv nv _ => (m - (intOf nv).toNat) * 50 + (41 - (intOf dv).toNat))
    case atStart => exact HStart.out
    case round =>
      obtain ⟨uk, uf, ul, ua, uc, d, n, rfl, rfl, husz, hub, huv, hd, hn, hcn, hkp⟩ := hrel
      have HB := Hid_mk hub
      have HV := Hid_mk huv
      have HKp := Hid_mk hkp
      have HSz := Hid_mk husz
      have HD := Hid_mk hd
      have HNm := Hid_mk hn
      have hm := HM.out
      obtain ⟨c0, c1, c2, c3, c4, c5, cw⟩ := hub
      have hd0 : (0 : Int) ≤ (d : Int) := Int.natCast_nonneg _
      have hn0 : (0 : Int) ≤ (n : Int) := Int.natCast_nonneg _
      have hwd : IntKind.i64.wrap ((d : Int) + 1) = ((d + 1 : Nat) : Int) := by rw [IntWalk.i64_in _ (by omega)]; push_cast; rfl
      have hwn : IntKind.i64.wrap ((n : Int) + 1) = ((n + 1 : Nat) : Int) := by rw [IntWalk.i64_in _ (by omega)]; push_cast; rfl
      have hwm : IntKind.i64.wrap ((m : Int) - (n : Int)) = ((m - n : Nat) : Int) := by rw [IntWalk.i64_in _ (by omega)]; omega
      rw [cntS.eq_def] at hcn
      simp only at hcn
      clear husz huv hkp hd hn
      by_cases h40 : 40 < d
      · have h40i : (d : Int) > 40 := by omega
        rw [if_pos h40] at hcn
        have HR2 := Hid_mk (show R = none from hcn.symm)
        clear hcn h40 hwd hwn hwm hm
        go_wp2
        go_ret2
        exact ⟨by rw [HR2.out]; rfl, HK0.out.trans HKp.out (T := fun b => b = r) fun i hi e => by have := HR.out; omega⟩
      · have h40i : ¬ (d : Int) > 40 := by omega
        rw [if_neg h40] at hcn
        have hfo := formed_any wr uk uf ua ul.length uc
        rcases hf : formedB uk uf ul.length with _ | _
        · rw [hf, if_pos rfl] at hcn
          have HR2 := Hid_mk (show R = none from hcn.symm)
          rw [hf] at hfo
          unfold cellsR at hfo
          have HFo := Hid_mk hfo
          clear hcn h40 hwd hwn hwm hm hfo hf
          go_wp2_with fail
          with_reducible refine HFo.out.mono ?_
          rintro e w1 ⟨rfl, hk1⟩
          have HK1 := Hid_mk hk1
          clear hk1 c0 c1 c2 c3 c4 c5 cw
          go_wp2
          go_ret2
          exact ⟨by rw [HR2.out]; rfl, (HK0.out.trans HKp.out (T := fun b => b = r) fun i hi e => by have := HR.out; omega).trans' HK1.out⟩
        · rw [hf, if_neg (by simp)] at hcn
          have h2 := formed_le hf
          rw [hf] at hfo
          unfold cellsR at hfo
          have HFo := Hid_mk hfo
          clear hfo hf h40
          rcases ul with _ | ⟨x, _ | ⟨y, _ | ⟨z, l⟩⟩⟩
          · simp only [List.length_nil] at HB HV HFo c5 hcn h2
            clear c0 c1 c2 c3 c4 c5 cw
            by_cases hnm : m - n = 0
            · have hmn : m = n := by have := HNm.out; omega
              subst hmn
              rw [if_pos hnm] at hcn
              have HR2 := Hid_mk (show R = none from hcn.symm)
              clear hcn hnm hwd hwn hwm hm
              obtain ⟨c0, c1, c2, c3, c4, c5, cw⟩ := id HB.out
              go_wp2_with fail
              with_reducible refine HFo.out.mono ?_
              rintro e w1 ⟨rfl, hk1⟩
              have HK1 := Hid_mk hk1
              clear c0 c1 c2 c3 c4 c5 cw
              have hb1 := HB.out.kept hk1 id
              have hv1 := ReV.no hk1 _ _ HV.out
              have HB1 := Hid_mk hb1
              have HV1 := Hid_mk hv1
              obtain ⟨c0, c1, c2, c3, c4, c5, cw⟩ := hb1
              clear hk1
              go_wp2
              go_ret2
              exact ⟨by rw [HR2.out]; rfl, (HK0.out.trans HKp.out (T := fun b => b = r) fun i hi e => by have := HR.out; omega).trans' HK1.out⟩
            · have hne : ((n : Int) == (m : Int)) = false := by rw [beq_eq_false_iff_ne]; omega
              rw [if_neg hnm] at hcn
              have HR2 := Hid_mk (show R = some (n + 1) from hcn.symm)
              clear hcn hnm hwd hwm hm
              obtain ⟨c0, c1, c2, c3, c4, c5, cw⟩ := id HB.out
              go_wp2_with fail
              with_reducible refine HFo.out.mono ?_
              rintro e w1 ⟨rfl, hk1⟩
              have HK1 := Hid_mk hk1
              clear c0 c1 c2 c3 c4 c5 cw
              have hb1 := HB.out.kept hk1 id
              have hv1 := ReV.no hk1 _ _ HV.out
              have HB1 := Hid_mk hb1
              have HV1 := Hid_mk hv1
              obtain ⟨c0, c1, c2, c3, c4, c5, cw⟩ := hb1
              clear hk1
              go_wp2
              go_ret2
              exact ⟨by rw [HR2.out]; rfl, (HK0.out.trans HKp.out (T := fun b => b = r) fun i hi e => by have := HR.out; omega).trans' HK1.out⟩
          · simp only [List.length_cons, List.length_nil, Nat.zero_add] at HB HV HFo c5 hcn h2
            clear c0 c1 c2 c3 c4 c5 cw
            have HC := Hid_mk hcn
            clear hcn hwn hwm hm h2
            obtain ⟨c0, c1, c2, c3, c4, c5, cw⟩ := id HB.out
            go_wp2_with fail
            with_reducible refine HFo.out.mono ?_
            rintro e w1 ⟨rfl, hk1⟩
            clear c0 c1 c2 c3 c4 c5 cw
            have HK1 := Hid_mk (HKp.out.trans hk1 (T := No) fun _ _ e => e.elim)
            have hb1 := HB.out.kept hk1 id
            have hv1 := ReV.no hk1 _ _ HV.out
            have HB1 := Hid_mk hb1
            have HV1 := Hid_mk hv1
            clear hk1 HFo HB HV
            obtain ⟨b, o, k', f', l', a', c', rfl, hx, g0, g1, g2, g3, g4, g5, hvx⟩ := kid_at hv1 0 (by simp)
            simp only [List.getElem_cons_zero] at hx
            simp only [Nat.zero_mul, Nat.add_zero] at g0 g1 g2 g3 g4 g5
            subst hx
            have HVx := Hid_mk hvx
            obtain ⟨c0, c1, c2, c3, c4, c5, cw⟩ := hb1
            clear hv1 hvx
            go_wp2
            go_roundw
            case rel =>
              have hks : Kp (fun b => b = r) w1 (ere.putT w1 r (.int .i64 k') (.int .u64 (wd f' 0 64 : Nat)) (.int .u64 (wd f' 64 64 : Nat)) (.int .u64 (wd f' 128 64 : Nat)) (.int .u64 (wd f' 192 64 : Nat)) (.slice a' l'.length c')) := kp_putT (q := r) (Kp.refl (fun b => b = r) w1) (fun _ => rfl) _ _ _ _ _ _
              exact ⟨k', f', l', a', c', d + 1, n, by push_cast; rfl, rfl, by have := HSz.out; simp only [Tr.size, sizeL] at this ⊢; omega, HB1.out.put _ _ _ _ _ _, ReV.kept hks (fun b hb _ => by have hb : b < r := hb; show ¬ b = r; omega) _ _ HVx.out, by omega, HNm.out, HC.out, HK1.out.trans hks fun _ _ e => e⟩
            case measure => have := HNm.out; simp only [intOf]; omega
          · simp only [List.length_cons, List.length_nil, Nat.zero_add] at HB HV HFo c5 hcn h2
            clear c0 c1 c2 c3 c4 c5 cw
            have HC := Hid_mk hcn
            clear hcn hwn h2
            obtain ⟨c0, c1, c2, c3, c4, c5, cw⟩ := id HB.out
            go_wp2_with fail
            with_reducible refine HFo.out.mono ?_
            rintro e w1 ⟨rfl, hk1⟩
            clear c0 c1 c2 c3 c4 c5 cw
            have HK1 := Hid_mk (HKp.out.trans hk1 (T := No) fun _ _ e => e.elim)
            have hb1 := HB.out.kept hk1 id
            have hv1 := ReV.no hk1 _ _ HV.out
            have HB1 := Hid_mk hb1
            have HV1 := Hid_mk hv1
            clear hk1 HFo HB HV
            obtain ⟨b, o, k', f', l', a', c', rfl, hx, g0, g1, g2, g3, g4, g5, hvx⟩ := kid_at hv1 0 (by simp)
            simp only [List.getElem_cons_zero] at hx
            simp only [Nat.zero_mul, Nat.add_zero] at g0 g1 g2 g3 g4 g5
            subst hx
            have hrec := HIh.out _ (.mk k' f' l') (by have := HSz.out; simp only [Tr.size, sizeL] at this ⊢; omega) w1 _ (d + 1) (m - n) hvx (by omega) (by omega)
            rw [show ((d + 1 : Nat) : Int) = (d : Int) + 1 by push_cast; rfl] at hrec hwd
            have HD2 := Hid_mk (show d ≤ 40 by omega)
            obtain ⟨c0, c1, c2, c3, c4, c5, cw⟩ := hb1
            rcases hcx : cntS (.mk k' f' l') (d + 1) (m - n) with _ | j
            · rw [hcx] at hrec
              have HR2 := Hid_mk (show R = none from by rw [← HC.out, hcx]; rfl)
              have hrec2 : Calls Try.prog 55 #[.agg (cellsR k' f' a' l'.length c'), .int .i64 ((d : Int) + 1), .int .i64 ((m - n : Nat) : Int)] w1 fun e w' => e = .returned (.tuple #[.int .i64 0, .bool false]) ∧ Kp No w1 w' := hrec
              unfold cellsR at hrec2
              have HRec := Hid_mk hrec2
              clear hrec hrec2 hcx hvx hv1 hm
              go_wp2_with fail
              with_reducible refine HRec.out.mono ?_
              rintro e w2 ⟨rfl, hk2⟩
              have HK2 := Hid_mk hk2
              clear hk2 c0 c1 c2 c3 c4 c5 cw g0 g1 g2 g3 g4 g5
              go_wp2
              go_ret2
              exact ⟨by rw [HR2.out]; rfl, (HK0.out.trans HK1.out (T := fun b => b = r) fun i hi e => by have := HR.out; omega).trans' HK2.out⟩
            · rw [hcx] at hrec
              obtain ⟨hj1, hj2⟩ := cnt_some (by omega) hcx
              have hrec2 : Calls Try.prog 55 #[.agg (cellsR k' f' a' l'.length c'), .int .i64 ((d : Int) + 1), .int .i64 ((m - n : Nat) : Int)] w1 fun e w' => e = .returned (.tuple #[.int .i64 (j : Int), .bool true]) ∧ Kp No w1 w' := hrec
              have HE := Hid_mk (show (cntS y d (m - (n + j))).map (n + j + ·) = R from by
                rw [← HC.out, hcx]
                simp only
                rw [show m - (n + j) = m - n - j by omega]
                cases cntS y d (m - n - j) with
                | none => rfl
                | some i => simp [Nat.add_assoc])
              unfold cellsR at hrec2
              have HRec := Hid_mk hrec2
              have HJ1 := Hid_mk hj1
              have HJ2 := Hid_mk hj2
              have hwj : IntKind.i64.wrap ((n : Int) + (j : Int)) = ((n + j : Nat) : Int) := by rw [IntWalk.i64_in _ (by have := HNm.out; omega)]; push_cast; rfl
              clear hrec hrec2 hcx hvx hm hj1 hj2
              go_wp2_with fail
              with_reducible refine HRec.out.mono ?_
              rintro e w2 ⟨rfl, hk2⟩
              have hb2 := HB1.out.kept hk2 id
              have hv2 := ReV.no hk2 _ _ hv1
              obtain ⟨b2, o2, k2, f2, l2, a2, c2', e2, hy, i0, i1, i2, i3, i4, i5, hvy⟩ := kid_at hv2 1 (by simp)
              simp only [Option.some.injEq, Addr.mk.injEq, and_true] at e2
              obtain ⟨rfl, rfl⟩ := e2
              simp only [List.getElem_cons_succ, List.getElem_cons_zero] at hy
              subst hy
              have HVy := Hid_mk hvy
              have HB2 := Hid_mk hb2
              have HK2 := Hid_mk (HK1.out.trans hk2 (T := No) fun _ _ e => e.elim)
              clear hk2 hv1 hv2 hvy c0 c1 c2 c3 c4 c5 cw g0 g1 g2 g3 g4 g5
              obtain ⟨c0, c1, c2, c3, c4, c5, cw⟩ := hb2
              go_wp2
              go_roundw
              case rel =>
                have hks : Kp (fun b => b = r) w2 (ere.putT w2 r (.int .i64 k2) (.int .u64 (wd f2 0 64 : Nat)) (.int .u64 (wd f2 64 64 : Nat)) (.int .u64 (wd f2 128 64 : Nat)) (.int .u64 (wd f2 192 64 : Nat)) (.slice a2 l2.length c2')) := kp_putT (q := r) (Kp.refl (fun b => b = r) w2) (fun _ => rfl) _ _ _ _ _ _
                exact ⟨k2, f2, l2, a2, c2', d, n + j, rfl, by push_cast; rfl, by have := HSz.out; simp only [Tr.size, sizeL] at this ⊢; omega, HB2.out.put _ _ _ _ _ _, ReV.kept hks (fun b hb _ => by have hb : b < r := hb; show ¬ b = r; omega) _ _ HVy.out, HD.out, by have := HJ2.out; have := HNm.out; omega, HE.out, HK2.out.trans hks fun _ _ e => e⟩
              case measure => have := HNm.out; have := HJ1.out; have := HJ2.out; have := HD.out; simp only [intOf]; omega
          · simp at h2

/-- Right and Sets -/
theorem pright_any {T : Nat → Prop} (w : World) (v : Value) (t : Tr) (hv : ReV T w t v) : Calls Try.prog 28 #[v] w fun e w' => e = .returned (.bool (rightS t)) ∧ Kp No w w' := by
  have hc : ∀ W, Kp No w W → Calls Try.prog 55 #[v, .int .i64 1, .int .i64 400] W fun e w' => e = .returned (.tuple #[.int .i64 (((cntS t 1 400).getD 0 : Nat) : Int), .bool (cntS t 1 400).isSome]) ∧ Kp No W w' := fun W (hk : Kp No w W) => count_any t.size T t (Nat.le_refl _) W v 1 400 (ReV.no hk t v hv) (by decide) (by decide)
  rw [cnt_right] at hc
  have hb : ((if rightS t = true then some (setsS t) else none).isSome) = rightS t := by cases rightS t <;> rfl
  rw [hb] at hc
  generalize (if rightS t = true then some (setsS t) else none).getD 0 = X at hc
  generalize rightS t = B at hc ⊢
  obtain ⟨k, f, l⟩ := t
  obtain ⟨a, c, rfl, -, -, -⟩ := hv
  have HK0 := Hid_mk ((Kp.refl No w).alloc (.cells (cellsR k f a l.length c) 33))
  unfold cellsR at hc HK0
  have HC := Hid_mk hc
  clear hc hb
  go_enter Try.func28, Try.ntmps28
  unfold cellsR
  go_wp2_with fail
  with_reducible refine (HC.out _ HK0.out).mono ?_
  rintro e w1 ⟨rfl, hk1⟩
  have HK1 := Hid_mk (HK0.out.trans' hk1)
  clear hk1 HC
  go_wp2
  go_ret
  exact ⟨rfl, HK1.out⟩
theorem psets_any {T : Nat → Prop} (w : World) (v : Value) (t : Tr) (hv : ReV T w t v) : Calls Try.prog 29 #[v] w fun e w' => e = .returned (.int .i64 ((if rightS t = true then setsS t else 0 : Nat) : Int)) ∧ Kp No w w' := by
  have hc : ∀ W, Kp No w W → Calls Try.prog 55 #[v, .int .i64 1, .int .i64 400] W fun e w' => e = .returned (.tuple #[.int .i64 (((cntS t 1 400).getD 0 : Nat) : Int), .bool (cntS t 1 400).isSome]) ∧ Kp No W w' := fun W (hk : Kp No w W) => count_any t.size T t (Nat.le_refl _) W v 1 400 (ReV.no hk t v hv) (by decide) (by decide)
  rw [cnt_right] at hc
  have hb : ((if rightS t = true then some (setsS t) else none).getD 0) = (if rightS t = true then setsS t else 0) := by cases rightS t <;> rfl
  rw [hb] at hc
  generalize (if rightS t = true then some (setsS t) else none).isSome = B at hc
  generalize (if rightS t = true then setsS t else 0) = X at hc ⊢
  obtain ⟨k, f, l⟩ := t
  obtain ⟨a, c, rfl, -, -, -⟩ := hv
  have HK0 := Hid_mk ((Kp.refl No w).alloc (.cells (cellsR k f a l.length c) 33))
  unfold cellsR at hc HK0
  have HC := Hid_mk hc
  clear hc hb
  go_enter Try.func29, Try.ntmps29
  unfold cellsR
  go_wp2_with fail
  with_reducible refine (HC.out _ HK0.out).mono ?_
  rintro e w1 ⟨rfl, hk1⟩
  have HK1 := Hid_mk (HK0.out.trans' hk1)
  clear hk1 HC
  go_wp2
  go_ret
  exact ⟨rfl, HK1.out⟩

end Go.Proofs.Ytjalnddgbnjmcaa.ere

namespace Go.Proofs.Ytjalnddgbnjmcaa.ere
open Go.RowKit Go.Proofs.Ytjalnddgbnjmcaa.sum Go.Proofs.Ytjalnddgbnjmcaa.kept Go.Proofs.Ytjalnddgbnjmcaa.pop Go.Proofs.Ytjalnddgbnjmcaa.cls Go.Proofs.Ytjalnddgbnjmcaa.tre Go.Proofs.Ytjalnddgbnjmcaa.str
set_option linter.unusedVariables false

abbrev Bd (b : Nat) (bs : List Value) (w : World) : Prop := Lib.BuilderAt 95 5 b b (.pointer (some ⟨b, 0, none⟩)) bs w
theorem infoU8 : (Try.prog.info? 5).map (fun i => (i.zero, i.size, i.bytes)) = some (some (.int .u8 0), 1, 1) := by kernel_rfl
theorem wpList_append_run {P : Program} {ops : Array Oper} {rest : List Oper} {o : Oper} {a : Act} {Q : Exit → Act → World → Prop} {w w1 : World} {v1 : Value} (hgd : o.guard = none) (s x : Operand) (t u : TypeId)
    (ho : o.op = .call { callee := .builtin .append, args := #[s, x], argTypes := #[t, u] }) (hr : (Builtin.append_ #[t, u] o.type #[a.eval s, a.eval x]).run P w = .ok v1 w1) (h : wpList P ops Q rest (a.put o.dst v1) w1) :
    wpList P ops Q (o :: rest) a w := by
  refine wpList_plain hgd fun K hK => ?_
  unfold Oper.wp execOp
  simp only [ho, resolve, invoke, builtin, Sem.run_bind, Sem.run_pure, Result.andThen_ok, List.map_toArray, List.map_cons, List.map_nil, hr]
  exact hK _ _ h
theorem kp_below {B : Nat} {w w' : World} (h : Below B w w') : Kp (fun k => B ≤ k) w w' := ⟨h.os, h.tape, h.output, h.size, fun k hk hn => h.block k (Nat.lt_of_not_le hn)⟩

set_option maxRecDepth 100000 in
theorem copy_used (b : Nat) (w : World) (h0 : w.cell? ⟨b, 0, none⟩ = some (.pointer (some ⟨b, 0, none⟩))) :
    Calls Try.prog 64 #[.pointer (some ⟨b, 0, none⟩)] w fun e w' => e = .returned (.tuple #[]) ∧ w' = w := by
  obtain ⟨j, hj⟩ : ∃ j, Try.prog.info? 95 = some j := ⟨_, rfl⟩
  have hs : ∀ W, (binOp .neq 93 (.pointer (some ⟨b, 0, none⟩)) (.pointer (some ⟨b, 0, none⟩))).run Try.prog W = .ok (.bool false) W := fun W => Lib.run_neq_ptr_same W _ Try.underlying93 hj
  go_enter Try.func64, Try.ntmps64
  go_wp2
  go_end0
  exact ⟨rfl, rfl⟩

set_option maxRecDepth 100000 in
set_option maxHeartbeats 1000000 in
theorem wbyte_any (b : Nat) (bs : List Value) (c : Int) (w : World) (h : Bd b bs w) (hlen : bs.length ≤ 1000000000000) :
    Calls Try.prog 66 #[.pointer (some ⟨b, 0, none⟩), .int .u8 c] w fun e w' => e = .returned .nilIface ∧ Bd b (bs ++ [.int .u8 c]) w' ∧ Kp (fun k => b ≤ k) w w' := by
  obtain ⟨i0, hi, hz0, hz1, hz2⟩ := info_parts infoU8
  have hlt := h.lt
  have hcc := copy_used b w h.cell0
  have HCc := Hid_mk hcc
  obtain ⟨hB, v, hbk, hown, hne⟩ := h
  have c1 : w.cell? ⟨b, 1, none⟩ = some v := by rw [Lib.cell_of_heap hbk]; rfl
  have hown1 : (w.alloc (.cells #[.int .u8 c] 5)).ownsRow b 5 1 v bs.length bs := hown.alloc _
  obtain ⟨v', w2, hr, ho, hg, -, hloc⟩ := run_append_own_at (P := Try.prog) (w.alloc (.cells #[.int .u8 c] 5)) b 46 46 5 i0 (.int .u8 0) 1 1 Try.underlying46 hi hz0 hz1 hz2 rfl (by decide) v bs.length bs hown1 ⟨w.heap.size, 0, none⟩ 1 1 [.int .u8 c] rfl
    (fun j u hj => by
      match j, hj with
      | 0, hj => simp at hj; subst hj; simp [Addr.add]) (fun u hu => by simp at hu; subst hu; rfl) (by unfold maxLen; omega) (by omega) (by simp; omega)
  have hb2 : w2.heap[b]? = some (.cells #[.pointer (some ⟨b, 0, none⟩), v] 95 (0, 0)) := by
    rw [hg.block b (by simp; omega) (fun e => hne e.symm), Lib.alloc_old w _ b hlt]
    exact hbk
  have d1 : w2.cell? ⟨b, 1, none⟩ = some v := by rw [Lib.cell_of_heap hb2]; rfl
  have f1 : w2.frozen? ⟨b, 1, none⟩ = false := Lib.frozen_of_heap hb2 1
  have hfin : Bd b (bs ++ [.int .u8 c]) (w2.setCell ⟨b, 1, none⟩ v') := Lib.BuilderAt.put (Nat.le_refl _) hb2 (bs' := bs ++ [.int .u8 c]) (by simpa using ho) (by decide)
  have hkf : Kp (fun k => b ≤ k) w (w2.setCell ⟨b, 1, none⟩ v') := ((((Kp.refl (fun k => b ≤ k) w).alloc _).grown hg fun k _ e => (hown.lt k e).1).setCell (p := ⟨b, 1, none⟩) (fun _ => Nat.le_refl _) _)
  have HF := Hid_mk hfin
  have HKf := Hid_mk hkf
  obtain ⟨g, cap, rfl⟩ : ∃ g cap, v' = .slice (some ⟨g, 0, none⟩) (bs.length + 1) cap := by
    rcases ho.2 with ⟨_, h0⟩ | ⟨g, cap, cur, hv, _⟩
    · omega
    · exact ⟨g, cap, hv⟩
  have hr2 := hr
  clear hcc hown hown1 ho hg hloc hfin hkf hb2 hbk hne hB
  go_enter Try.func66, Try.ntmps66
  go_wp2_with fail
  with_reducible refine HCc.out.mono ?_
  rintro e w1 ⟨rfl, rfl⟩
  go_wp2_with (at_builtin; (refine wpList_append_run rfl _ _ _ _ rfl hr2 ?_))
  go_wp2
  go_ret
  exact ⟨rfl, HF.out, HKf.out⟩

/-- a backslash and three octal digits -/
def octQ (x : Nat) : List UInt8 := [92, (48 + x / 64).toUInt8, (48 + x / 8 % 8).toUInt8, (48 + x % 8).toUInt8]
theorem octQ_cells (x : Nat) (hx : x < 256) : Lib.byteCells (octQ x) = [.int .u8 92, .int .u8 (48 + (x : Int) / 64), .int .u8 (48 + (x : Int) / 8 % 8), .int .u8 (48 + (x : Int) % 8)] := by
  have e1 : (((48 + x / 64).toUInt8).toNat : Int) = 48 + (x : Int) / 64 := by simp; omega
  have e2 : (((48 + x / 8 % 8).toUInt8).toNat : Int) = 48 + (x : Int) / 8 % 8 := by simp; omega
  have e3 : (((48 + x % 8).toUInt8).toNat : Int) = 48 + (x : Int) % 8 := by simp; omega
  unfold octQ Lib.byteCells
  simp only [List.map_cons, List.map_nil]
  rw [e1, e2, e3]
  rfl

set_option maxRecDepth 100000 in
set_option maxHeartbeats 1000000 in
theorem woctal_any (b : Nat) (bs : List Value) (x : Nat) (hx : x < 256) (w : World) (h : Bd b bs w) (hlen : bs.length ≤ 100000000000) :
    Calls Try.prog 49 #[.pointer (some ⟨b, 0, none⟩), .int .u8 (x : Int)] w fun e w' => e = .returned (.tuple #[]) ∧ Bd b (bs ++ Lib.byteCells (octQ x)) w' ∧ Kp (fun k => b ≤ k) w w' := by
  rw [octQ_cells x hx]
  have HW1 := Hid_mk (wbyte_any b bs 92 w h (by omega))
  clear h
  go_enter Try.func49, Try.ntmps49
  go_wp2_with fail
  with_reducible refine HW1.out.mono ?_
  rintro e w1 ⟨rfl, hb1, hk1⟩
  have HW2 := Hid_mk fun c => wbyte_any b _ c w1 hb1 (by simp; omega)
  have HK1 := Hid_mk hk1
  clear hb1 hk1 HW1
  go_wp2_with fail
  with_reducible refine (HW2.out _).mono ?_
  rintro e w2 ⟨rfl, hb2, hk2⟩
  have HW3 := Hid_mk fun c => wbyte_any b _ c w2 hb2 (by simp; omega)
  have HK2 := Hid_mk (HK1.out.trans' hk2)
  clear hb2 hk2 HW2
  go_wp2_with fail
  with_reducible refine (HW3.out _).mono ?_
  rintro e w3 ⟨rfl, hb3, hk3⟩
  have HW4 := Hid_mk fun c => wbyte_any b _ c w3 hb3 (by simp; omega)
  have HK3 := Hid_mk (HK2.out.trans' hk3)
  clear hb3 hk3 HW3
  go_wp2_with fail
  with_reducible refine (HW4.out _).mono ?_
  rintro e w4 ⟨rfl, hb4, hk4⟩
  have HB4 := Hid_mk hb4
  have HK4 := Hid_mk (HK3.out.trans' hk4)
  clear hb4 hk4 HW4
  go_wp2
  go_end0
  refine ⟨rfl, ?_, HK4.out⟩
  have h4 := HB4.out
  simp only [List.append_assoc, List.cons_append, List.nil_append] at h4
  exact h4

def quoteS (l : List UInt8) : List UInt8 := l.flatMap fun x => octQ x.toNat
theorem cells_app (a b : List UInt8) : Lib.byteCells (a ++ b) = Lib.byteCells a ++ Lib.byteCells b := List.map_append
theorem quote_len (l : List UInt8) : (quoteS l).length = 4 * l.length := by
  induction l with
  | nil => rfl
  | cons x l ih =>
    have : quoteS (x :: l) = octQ x.toNat ++ quoteS l := rfl
    rw [this, List.length_append, ih, List.length_cons]
    show 4 + _ = _
    omega
theorem quote_take (l : List UInt8) (k : Nat) (hk : k < l.length) : quoteS (l.take (k + 1)) = quoteS (l.take k) ++ octQ (atB l k) := by
  have e : l.getD k 0 = l[k] := by simp [List.getD, hk]
  unfold atB
  rw [e, List.take_succ_eq_append_getElem hk]
  unfold quoteS
  rw [List.flatMap_append]
  simp
theorem cells_len' (a : List UInt8) : (Lib.byteCells a).length = a.length := List.length_map _
def QuRel (W1 : World) (b : Nat) (l : List UInt8) (i : Value) (wr : World) : Prop := ∃ k : Nat, i = .int .i64 (k : Int) ∧ k ≤ l.length ∧ Bd b (Lib.byteCells (quoteS (l.take k))) wr ∧ Kp (fun z => b ≤ z) W1 wr

set_option maxRecDepth 100000 in
set_option maxHeartbeats 1000000 in
theorem quote_any (w : World) (l : List UInt8) (hl : l.length ≤ 1000000000) : Calls Try.prog 20 #[.string (st l)] w fun e w' => e = .returned (.string (st (quoteS l))) ∧ Kp No w w' := by
  have hsz := st_size l
  obtain ⟨W0, hW0⟩ : ∃ W0, w.alloc (.cells #[.pointer none, .slice none 0 0] 95) = W0 := ⟨_, rfl⟩
  obtain ⟨b, hb⟩ : ∃ b, w.heap.size = b := ⟨_, rfl⟩
  have hblk : W0.heap[b]? = some (.cells #[.pointer none, .slice none 0 0] 95 (0, 0)) := by rw [← hW0, ← hb]; exact heap_alloc_new w _
  have hk0 : Kp No w W0 := by rw [← hW0]; exact (Kp.refl No w).alloc _
  have hsz0 : b ≤ W0.heap.size := by rw [← hb]; exact hk0.size
  have hgr := Try.Builder_Grow_fresh b b (4 * l.length) W0 (Nat.le_refl _) hblk hsz0 (by omega)
  rw [show ((4 * l.length : Nat) : Int) = 4 * (l.length : Int) by push_cast; rfl] at hgr
  have HG := Hid_mk hgr
  have HW0 := Hid_mk hW0
  have HB := Hid_mk hb
  have HK0 := Hid_mk hk0
  have HLn := Hid_mk hl
  have hw4 : IntKind.i64.wrap (4 * (l.length : Int)) = ((4 * l.length : Nat) : Int) := by rw [IntWalk.i64_in _ (by omega)]; push_cast; rfl
  clear hW0 hb hblk hk0 hsz0 hgr
  go_enter Try.func20, Try.ntmps20
  go_wp2_with fail
  rw [HB.out, HW0.out]
  clear HW0
  with_reducible refine HG.out.mono ?_
  rintro e w1 ⟨rfl, hb1, hbl⟩
  have HBd := Hid_mk hb1
  have HK1 := Hid_mk (HK0.out.trans (kp_below hbl) fun i hi h => by have := HB.out; omega)
  clear hb1 hbl HG hw4
  go_wp2
  go_loopw [11] (fun i wr => QuRel w1 b l i wr) (fun i _ => l.length - (intOf i).toNat)
  case atStart => exact ⟨0, rfl, Nat.zero_le _, HBd.out, Kp.refl _ _⟩
  case round =>
    obtain ⟨k, rfl, hk, hbd, hkp⟩ := hrel
    have HBk := Hid_mk hbd
    have HKp := Hid_mk hkp
    have HKl := Hid_mk hk
    have hk0 : (0 : Int) ≤ (k : Int) := Int.natCast_nonneg _
    by_cases hlt : k < l.length
    · have hki : (k : Int) < (l.length : Int) := by omega
      have hg := fun h => st_get l k h
      obtain ⟨x, hx⟩ : ∃ x, (l.getD k 0).toNat = x := ⟨_, rfl⟩
      have hx256 : x < 256 := by rw [← hx]; exact (l.getD k 0).toNat_lt
      rw [hx] at hg
      have hwi : IntKind.i64.wrap ((k : Int) + 1) = (k : Int) + 1 := IntWalk.i64_in _ (by have := HLn.out; omega)
      have hwo := woctal_any b _ x hx256 wr hbd (by rw [cells_len', quote_len, List.length_take]; have := HLn.out; omega)
      rw [← cells_app, show octQ x = octQ (atB l k) by unfold atB; rw [hx], ← quote_take l k hlt] at hwo
      have HWo := Hid_mk hwo
      have HLt := Hid_mk hlt
      clear hbd hkp hk hwo hlt hx
      go_wp2_with fail
      with_reducible refine HWo.out.mono ?_
      rintro e w2 ⟨rfl, hb2, hk2⟩
      have HB2 := Hid_mk hb2
      have HK2 := Hid_mk hk2
      clear hb2 hk2 HWo
      go_wp2
      go_roundw
      case rel => exact ⟨k + 1, by push_cast; rfl, HLt.out, HB2.out, HKp.out.trans' HK2.out⟩
      case measure => have := HLt.out; simp only [intOf]; omega
    · obtain rfl : k = l.length := by omega
      have hki : ¬ ((l.length : Nat) : Int) < (l.length : Int) := by omega
      rw [List.take_length] at hbd
      have hst := Try.Builder_String_any b b (quoteS l) wr (.inr hbd) (by have := hbd.lt; omega)
      have HSt := Hid_mk hst
      clear hbd hkp hk hst hlt
      go_wp2_with fail
      with_reducible refine HSt.out.mono ?_
      rintro e w3 ⟨rfl, hbl⟩
      have HK3 := Hid_mk ((HK1.out.trans HKp.out fun i hi h => by have h : b ≤ i := h; have := HB.out; omega).trans (kp_below hbl) fun i hi h => by have h : b ≤ i := h; have := HB.out; omega)
      clear hbl HSt
      go_wp2
      go_ret
      exact ⟨rfl, HK3.out⟩

end Go.Proofs.Ytjalnddgbnjmcaa.ere

namespace Go.Proofs.Ytjalnddgbnjmcaa.ere
open Go.RowKit Go.Proofs.Ytjalnddgbnjmcaa.sum Go.Proofs.Ytjalnddgbnjmcaa.kept Go.Proofs.Ytjalnddgbnjmcaa.pop Go.Proofs.Ytjalnddgbnjmcaa.cls Go.Proofs.Ytjalnddgbnjmcaa.tre Go.Proofs.Ytjalnddgbnjmcaa.str
set_option linter.unusedVariables false

theorem infoRe : (Try.prog.info? 33).map (fun i => (i.zero, i.size, i.bytes)) = some (some (.agg #[.int .i64 0, .int .u64 0, .int .u64 0, .int .u64 0, .int .u64 0, .slice none 0 0]), 6, 64) := by kernel_rfl
/-- what slices.Clone leaves: the same cells in a block of its own -/
def ClPost (w : World) (n : Nat) (news : List Value) (e : Ending) (w' : World) : Prop :=
  ∃ a' c', e = .returned (.slice a' n c') ∧ n ≤ c' ∧ c' ≤ 9223372036854775807 ∧ (n ≠ 0 → ∃ g, a' = some ⟨g, 0, none⟩ ∧ w.heap.size ≤ g ∧ g < w'.heap.size ∧ (∀ j u, news[j]? = some u → w'.cell? ⟨g, j, none⟩ = some u) ∧ ∀ j, w'.frozen? ⟨g, j, none⟩ = false) ∧ Kp No w w'

set_option maxRecDepth 100000 in
set_option maxHeartbeats 1000000 in
theorem rclone_any (w : World) (a : Option Addr) (n c : Nat) (news : List Value) (hlen : news.length = n * 6) (hc : n ≠ 0 → ∃ b o, a = some ⟨b, o, none⟩ ∧ ∀ j u, news[j]? = some u → w.cell? ⟨b, o + j, none⟩ = some u) (h1 : ∀ u ∈ news, u.oneCell' = true) (hn : n ≤ 1000000000) :
    Calls Try.prog 128 #[.slice a n c] w (ClPost w n news) := by
  cases a with
  | none =>
    have hn0 : n = 0 := Decidable.byContradiction fun h => by obtain ⟨_, _, e, _⟩ := hc h; cases e
    subst hn0
    have hq : ∀ w, (binOp .eql 31 (.slice none 0 c) (.slice none 0 0)).run Try.prog w = .ok (.bool true) w := fun w => Lib.run_eql_slice_nil w 31 33 none 0 c 0 0 Try.underlying31
    clear hc
    go_enter Try.func128, Try.ntmps128
    go_wp2
    go_ret
    exact ⟨none, 0, rfl, Nat.le_refl _, by decide, fun h => absurd rfl h, Kp.refl _ _⟩
  | some ad =>
    have hq : ∀ w, (binOp .eql 31 (.slice (some ad) n c) (.slice none 0 0)).run Try.prog w = .ok (.bool false) w := fun w => Lib.run_eql_slice_nil w 31 33 (some ad) n c 0 0 Try.underlying31
    obtain ⟨i0, hi, hz0, hz1, hz2⟩ := info_parts infoRe
    obtain ⟨W0, hW0⟩ : ∃ W0, w.alloc (.cells #[] 33) = W0 := ⟨_, rfl⟩
    have k0 : Kp No w W0 := by rw [← hW0]; exact (Kp.refl _ _).alloc _
    have h0 : W0.ownsRow w.heap.size 33 6 (.slice (some ⟨w.heap.size, 0, none⟩) 0 0) 0 [] := by rw [← hW0]; exact World.ownsRow_made w #[] 0 (Nat.le_refl _) (by decide) rfl
    obtain ⟨v', w2, hr, ho, hg, -, hloc⟩ : ∃ v' w', (Builtin.append_ #[31, 31] 31 #[.slice (some ⟨w.heap.size, 0, none⟩) 0 0, .slice (some ad) n c]).run Try.prog W0 = .ok v' w' ∧ w'.ownsRow w.heap.size 33 6 v' (0 + n) ([] ++ news) ∧ W0.grownBy w' (Value.ownBlock (.slice (some ⟨w.heap.size, 0, none⟩) 0 0)) ∧ (v' = .slice none 0 0 ↔ (Value.slice (some ⟨w.heap.size, 0, none⟩) 0 0) = .slice none 0 0 ∧ n = 0) ∧ (v'.ownBlock = Value.ownBlock (.slice (some ⟨w.heap.size, 0, none⟩) 0 0) ∨ v'.ownBlock = some W0.heap.size) :=
      run_append_own_at (P := Try.prog) W0 w.heap.size 31 31 33 i0 _ 6 64 Try.underlying31 hi hz0 hz1 hz2 rfl (by decide) (.slice (some ⟨w.heap.size, 0, none⟩) 0 0) 0 [] h0 ad n c news hlen
        (fun j u hu => by
          have hn0 : n ≠ 0 := fun e => by subst e; have := List.eq_nil_of_length_eq_zero (by omega : news.length = 0); rw [this] at hu; cases hu
          obtain ⟨b, o, e, hcc⟩ := hc hn0
          cases e
          rw [addr_add]
          exact k0.cell' (hcc j u hu) id) h1 (by unfold maxLen; omega) (by omega) k0.size
    rw [Nat.zero_add, List.nil_append] at ho
    have hkf : Kp No w w2 := k0.grown hg fun k hk e => by simp [Value.ownBlock] at e; omega
    have hfin : ClPost w n news (.returned v') w2 := by
      rcases ho.2 with ⟨rfl, h00⟩ | ⟨g, cap, cur, rfl, hgb, hcur, r1, r2, _⟩
      · subst h00
        exact ⟨none, 0, rfl, Nat.le_refl _, by decide, fun h => absurd rfl h, hkf⟩
      · refine ⟨_, cap, rfl, r1, by unfold maxLen at r2; omega, fun _ => ⟨g, rfl, hgb, (Array.getElem?_eq_some_iff.1 hcur).1, fun j u hu => ?_, fun j => ho.frozenAt j⟩, hkf⟩
        have := World.ownsRow.cells (g := g) ho rfl j u hu
        rw [addr_add, Nat.zero_add] at this
        exact this
    have HF := Hid_mk hfin
    have HW0 := Hid_mk hW0
    clear h0 k0 hg hloc hkf hfin ho hlen hc h1
    go_enter Try.func128, Try.ntmps128
    subst hW0
    go_wp2_with (at_builtin; (refine wpList_append_run rfl _ _ _ _ rfl hr ?_))
    go_wp2
    go_ret
    exact HF.out

end Go.Proofs.Ytjalnddgbnjmcaa.ere
