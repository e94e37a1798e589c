/- Package nfa: a tree's parts are laid down: any tree of the right shape. Package nfa: a machine is made of a tree: build, Compile. -/
import Derived.Test.YtaneblecgjahbabEreCount2M
import Derived.Deep.RegionHeld3

namespace Go.Proofs.Ytaneblecgjahbab.nfa
open Go.RowKit Go.Proofs.Ytaneblecgjahbab.sum Go.Proofs.Ytaneblecgjahbab.kept Go.Proofs.Ytaneblecgjahbab.pop Go.Proofs.Ytaneblecgjahbab.cls Go.Proofs.Ytaneblecgjahbab.tre Go.Proofs.Ytaneblecgjahbab.ere
set_option linter.unusedVariables false

theorem shape_cases {k : Int} {f : Nat → Bool} {l : List Tr} (h : shapedS (.mk k f l) = true) : (l = [] ∧ (k = 0 ∨ k = 1 ∨ k = 7 ∨ k = 8)) ∨ isSignK k = true ∨ (∃ x y, l = [x, y] ∧ shapedS x = true ∧ shapedS y = true ∧ (k = 2 ∨ k = 3)) := by
  rw [shapedS] at h
  simp only [Bool.and_eq_true, decide_eq_true_eq] at h
  obtain ⟨⟨h1, -⟩, h2⟩ := h
  match l, h1, h2 with
  | [], h, _ =>
    refine .inl ⟨rfl, ?_⟩
    unfold kidsS at h
    split at h
    · assumption
    · split at h
      · simp at h
      · split at h <;> simp at h
  | [x], h, _ =>
    have := kids_one h
    refine .inr (.inl ?_)
    unfold isSignK
    simp
    omega
  | [x, y], h, hs =>
    rw [shapedL, shapedL, shapedL] at hs
    simp only [Bool.and_eq_true, Bool.and_true] at hs
    exact .inr (.inr ⟨x, y, rfl, hs.1, hs.2, kids_two h⟩)
  | _ :: _ :: _ :: _, h, _ => exact (kids_more h).elim

set_option maxRecDepth 100000 in
set_option maxHeartbeats 16000000 in
theorem lay_any : ∀ (n : Nat) (t : Tr), t.size ≤ n → shapedS t = true → LyC 54 t := by
  intro n
  induction n with
  | zero => intro t h; obtain ⟨k, f, l⟩ := t; simp only [Tr.size] at h; omega
  | succ n ih =>
  intro t hsz hsh w b base v ps st bk next T vt hp hv hT hlen hnx
  obtain ⟨A, hA⟩ : ∃ A, layM t none bk next ps = A := ⟨_, rfl⟩
  rw [hA]
  have hsg := fun h => signs_any t h hsh (fun u hu hs => ih u (by omega) hs)
  obtain ⟨k, f, l⟩ := t
  obtain ⟨a, c, rfl, q1, q2, q3⟩ := hv
  have hv : ReV T w (.mk k f l) (.agg (cellsR k f a l.length c)) := ⟨a, c, rfl, q1, q2, q3⟩
  obtain ⟨z, hz⟩ : ∃ z, w.heap.size = z := ⟨_, rfl⟩
  have HZ := Hid_mk hz
  have HP := Hid_mk hp
  have HV := Hid_mk hv
  have HT := Hid_mk hT
  have HL := Hid_mk hlen
  have HNx := Hid_mk hnx
  have HA := Hid_mk hA
  have HSz := Hid_mk hsz
  have HIh := Hid_mk ih
  have HSg := Hid_mk hsg
  have HSc := Hid_mk (shape_cases hsh)
  clear hz hp hv hT hlen hnx hA hsz hsh ih hsg q1 q2 q3
  go_enter Try.func54, Try.ntmps54
  unfold cellsR
  go_upto_region 1 with fail
  rw [HZ.out]
  refine wp_name (fun V => Kp No w V ∧ V.heap.size = z + 1 ∧ RAt V z (.int .i64 k) (.int .u64 (wd f 0 64 : Nat)) (.int .u64 (wd f 64 64 : Nat)) (.int .u64 (wd f 128 64 : Nat)) (.int .u64 (wd f 192 64 : Nat)) (.slice a l.length c)) ?_ ?_
  · have hz := HZ.out
    refine ⟨(Kp.refl No w).alloc _, by simp [hz], ?_⟩
    rw [← hz]
    exact RAt.new _ _ _ _ _ _ _ _
  rintro W1 ⟨hk1, hz1, hr1⟩
  have HK1 := Hid_mk hk1
  have HP1 := Hid_mk (HP.out.no hk1)
  have HV1 := Hid_mk (ReV.no hk1 _ _ HV.out)
  have HR1 := Hid_mk hr1
  obtain ⟨c0, c1, c2, c3, c4, c5, cw⟩ := hr1
  clear hk1 hz1
  rcases HSc.out with ⟨hl, hk⟩ | hk | ⟨x, y, hl, hxs, hys, hk⟩
  · subst hl
    rcases hk with rfl | rfl | rfl | rfl
    · go_wp2
      go_ret
      rw [← HA.out]
      exact ⟨rfl, v, HP1.out, .inl rfl, HK1.out.to⟩
    · have hadd := add_any W1 b base v ps st bk HP1.out 1 f next 0 (by have := HL.out; omega)
      simp only [wd_nul, Int.natCast_zero, show ((1 : Nat) : Int) = 1 from rfl] at hadd
      have HAdd := Hid_mk hadd
      clear hadd
      go_wp2_with fail
      with_reducible refine HAdd.out.mono ?_
      rintro e w4 ⟨rfl, hp4⟩
      have HP4 := Hid_mk (PgTo.of HK1.out hp4)
      clear hp4 c0 c1 c2 c3 c4 c5 cw
      go_wp2
      go_ret
      rw [← HA.out]
      exact ⟨rfl, HP4.out⟩
    · have hadd := add_any W1 b base v ps st bk HP1.out 3 nul next 0 (by have := HL.out; omega)
      simp only [wd_nul, Int.natCast_zero, show ((3 : Nat) : Int) = 3 from rfl] at hadd
      have HAdd := Hid_mk hadd
      clear hadd
      go_wp2_with fail
      with_reducible refine HAdd.out.mono ?_
      rintro e w4 ⟨rfl, hp4⟩
      have HP4 := Hid_mk (PgTo.of HK1.out hp4)
      clear hp4 c0 c1 c2 c3 c4 c5 cw
      go_wp2
      go_ret
      rw [← HA.out]
      exact ⟨rfl, HP4.out⟩
    · have hadd := add_any W1 b base v ps st bk HP1.out 4 nul next 0 (by have := HL.out; omega)
      simp only [wd_nul, Int.natCast_zero, show ((4 : Nat) : Int) = 4 from rfl] at hadd
      have HAdd := Hid_mk hadd
      clear hadd
      go_wp2_with fail
      with_reducible refine HAdd.out.mono ?_
      rintro e w4 ⟨rfl, hp4⟩
      have HP4 := Hid_mk (PgTo.of HK1.out hp4)
      clear hp4 c0 c1 c2 c3 c4 c5 cw
      go_wp2
      go_ret
      rw [← HA.out]
      exact ⟨rfl, HP4.out⟩
  · have hc := HSg.out hk W1 b base v ps st bk next T _ HP1.out HV1.out HT.out HL.out HNx.out
    rw [HA.out] at hc
    unfold cellsR at hc
    have HC := Hid_mk hc
    have hk3 : k = 4 ∨ k = 5 ∨ k = 6 := by unfold isSignK at hk; simp at hk; omega
    clear hc hk
    rcases hk3 with rfl | rfl | rfl
    all_goals
      go_wp2_with fail
      with_reducible refine HC.out.mono ?_
      rintro e w4 ⟨rfl, hp4⟩
      have HP4 := Hid_mk (PgTo.of HK1.out hp4)
      clear hp4 c0 c1 c2 c3 c4 c5 cw
      go_wp2
      go_ret
      exact ⟨rfl, HP4.out⟩
  · subst hl
    have hix := HIh.out x (by have := HSz.out; simp only [Tr.size, sizeL] at this ⊢; omega) hxs
    have hiy := HIh.out y (by have := HSz.out; simp only [Tr.size, sizeL] at this ⊢; omega) hys
    have hsx : ps.length + x.size + y.size + 1 ≤ 1000000 := by have := HL.out; simp only [Tr.size, sizeL] at this; omega
    have HIx := Hid_mk hix
    have HIy := Hid_mk hiy
    have HSx := Hid_mk hsx
    obtain ⟨bb, oo, xk, xf, xl, xa, xc, rfl, hx, x0, x1, x2, x3, x4, x5, hvx⟩ := kid_at HV1.out 0 (by simp)
    obtain ⟨b2, o2, yk, yf, yl, ya, yc, hbo, hy, y0, y1, y2, y3, y4, y5, hvy⟩ := kid_at HV1.out 1 (by simp)
    injection hbo with hbo
    injection hbo with hb1 hb2 _
    subst hb1 hb2
    simp only [List.getElem_cons_zero, List.getElem_cons_succ] at hx hy
    simp only [Nat.zero_mul, Nat.one_mul, Nat.add_zero] at x0 x1 x2 x3 x4 x5 y0 y1 y2 y3 y4 y5
    subst hx hy
    have hbT : T bb := by
      obtain ⟨a9, c9, e9, -, -, h9⟩ := HV1.out
      obtain ⟨b9, o9, e10, h10, -⟩ := h9 (by simp)
      injection e9 with e9
      simp at e9
      have e11 := e9.1
      rw [← e11] at e10
      injection e10 with e10
      injection e10 with e12 _ _
      rw [e12]
      exact h10.1
    have HVx := Hid_mk hvx
    have HVy := Hid_mk hvy
    have huc : 2 ≤ c ∧ c ≤ 9223372036854775807 := by
      obtain ⟨a9, c9, e9, h9, h10, -⟩ := HV1.out
      injection e9 with e9
      simp at e9 h9
      omega
    simp only [List.length_cons, List.length_nil, Nat.zero_add] at c5
    have hTb : ∀ V, Kp (fun i => i = b ∨ some i = v.ownBlock) W1 V → ∀ i, T i → i < W1.heap.size → ¬ (i = b ∨ some i = v.ownBlock) := fun V _ i hi _ => by
      have h1 := HT.out i hi
      rintro (e | e)
      · have := HP.out.le; omega
      · have := (own_lt HP.out.row e.symm).1; omega
    have hzb : ¬ (z = b ∨ some z = v.ownBlock) := by
      rintro (e | e)
      · have := HP.out.lt; have := HZ.out; omega
      · have := (own_lt HP.out.row e.symm).2; have := HZ.out; omega
    have hbb : ¬ (bb = b ∨ some bb = v.ownBlock) := by
      have h1 := HT.out bb hbT
      rintro (e | e)
      · have := HP.out.le; omega
      · have := (own_lt HP.out.row e.symm).1; omega
    have HSk : Hid (∀ V, Kp (fun i => i = b ∨ some i = v.ownBlock) W1 V → (fun V : World => V.cell? ⟨z, 5, none⟩ = some (.slice (some ⟨bb, oo, none⟩) 2 c) ∧ V.cell? ⟨bb, oo, none⟩ = some (.int .i64 xk) ∧ V.cell? ⟨bb, oo + 1, none⟩ = some (.int .u64 (wd xf 0 64 : Nat)) ∧ V.cell? ⟨bb, oo + 2, none⟩ = some (.int .u64 (wd xf 64 64 : Nat)) ∧ V.cell? ⟨bb, oo + 3, none⟩ = some (.int .u64 (wd xf 128 64 : Nat)) ∧ V.cell? ⟨bb, oo + 4, none⟩ = some (.int .u64 (wd xf 192 64 : Nat)) ∧ V.cell? ⟨bb, oo + 5, none⟩ = some (.slice xa xl.length xc) ∧ V.cell? ⟨bb, oo + 6, none⟩ = some (.int .i64 yk) ∧ V.cell? ⟨bb, oo + 6 + 1, none⟩ = some (.int .u64 (wd yf 0 64 : Nat)) ∧ V.cell? ⟨bb, oo + 6 + 2, none⟩ = some (.int .u64 (wd yf 64 64 : Nat)) ∧ V.cell? ⟨bb, oo + 6 + 3, none⟩ = some (.int .u64 (wd yf 128 64 : Nat)) ∧ V.cell? ⟨bb, oo + 6 + 4, none⟩ = some (.int .u64 (wd yf 192 64 : Nat)) ∧ V.cell? ⟨bb, oo + 6 + 5, none⟩ = some (.slice ya yl.length yc)) V) := Hid_mk fun V hk =>
      ⟨hk.cell' c5 hzb, hk.cell' x0 hbb, hk.cell' x1 hbb, hk.cell' x2 hbb, hk.cell' x3 hbb, hk.cell' x4 hbb, hk.cell' x5 hbb, hk.cell' y0 hbb, hk.cell' y1 hbb, hk.cell' y2 hbb, hk.cell' y3 hbb, hk.cell' y4 hbb, hk.cell' y5 hbb⟩
    have HTb := Hid_mk hTb
    have hbk := HP1.out.c2
    clear hix hiy hsx hvx hvy hTb hzb hbb hbT hxs hys
    rcases hk with rfl | rfl
    · cases bk with
      | true =>
        obtain ⟨r, hr⟩ : ∃ r, layM (Tr.mk xk xf xl) none true next ps = r := ⟨_, rfl⟩
        obtain ⟨r', hr'⟩ : ∃ r', layM (Tr.mk yk yf yl) none true r.1 r.2 = r' := ⟨_, rfl⟩
        have hcI : ∀ V, Kp No W1 V → Calls Try.prog 54 #[.pointer (some ⟨b, 0, none⟩), .agg #[.int .i64 xk, .int .u64 (wd xf 0 64 : Nat), .int .u64 (wd xf 64 64 : Nat), .int .u64 (wd xf 128 64 : Nat), .int .u64 (wd xf 192 64 : Nat), .slice xa xl.length xc], .int .i64 (next : Int)] V (LyPost V b base v st true r) := fun V hk => hr ▸ HIx.out V b base v ps st true next T _ (HP1.out.no hk) (ReV.no hk _ _ HVx.out) HT.out (by have := HSx.out; omega) HNx.out
        have hlnI := lay_len (Tr.mk xk xf xl) none true next ps
        rw [hr] at hlnI
        have hnI : r.1 ≤ 1000000 ∧ r.2.length ≤ ps.length + (Tr.mk xk xf xl).size := by
          have h1 := HSx.out
          have h2 := HNx.out
          rcases hlnI with ⟨h3, h4 | h4⟩
          · simp at h3; omega
          · simp at h3; omega
        have hcO : ∀ w9 v9, PgAt w9 b base v9 r.2 st true → Kp (fun i => i = b ∨ some i = v.ownBlock) W1 w9 → ∀ V, Kp No w9 V → Calls Try.prog 54 #[.pointer (some ⟨b, 0, none⟩), .agg #[.int .i64 yk, .int .u64 (wd yf 0 64 : Nat), .int .u64 (wd yf 64 64 : Nat), .int .u64 (wd yf 128 64 : Nat), .int .u64 (wd yf 192 64 : Nat), .slice ya yl.length yc], .int .i64 (r.1 : Int)] V (LyPost V b base v9 st true r') := fun w9 v9 h9 hk9 V hk => hr' ▸ HIy.out V b base v9 r.2 st true r.1 T _ (h9.no hk) (ReV.no hk _ _ (ReV.kept hk9 (HTb.out _ hk9) _ _ HVy.out)) HT.out (by have h1 := HSx.out; have h2 := hnI.2; omega) (by first | exact hnI.1 | exact HNx.out)
        have hlnO := lay_len (Tr.mk yk yf yl) none true r.1 r.2
        rw [hr'] at hlnO
        have hnO : r'.2.length ≤ 1000000 - 1 := by
          have h1 := HSx.out
          have h2 := hnI.2
          have h3 := hlnO.1
          simp at h3
          omega
        have HCI := Hid_mk hcI
        have HCO := Hid_mk hcO
        have HNO := Hid_mk hnO
        have HC := Hid_mk (Kp.refl No W1).drew
        have hS := HSk.out _ HC.out.to
        have HEf : Hid (A = r') := Hid_mk (by rw [← HA.out, layM_two, ← hr', ← hr]; rfl)
        clear hcI hlnI hnI hr hr' hcO hlnO hnO
        go_upto_region 10 with fail
        clear c0 c1 c2 c3 c4 c5 cw x0 x1 x2 x3 x4 x5 y0 y1 y2 y3 y4 y5 hbk
        go_region_held3 (fun V : World => V.cell? ⟨z, 5, none⟩ = some (.slice (some ⟨bb, oo, none⟩) 2 c) ∧ V.cell? ⟨bb, oo, none⟩ = some (.int .i64 xk) ∧ V.cell? ⟨bb, oo + 1, none⟩ = some (.int .u64 (wd xf 0 64 : Nat)) ∧ V.cell? ⟨bb, oo + 2, none⟩ = some (.int .u64 (wd xf 64 64 : Nat)) ∧ V.cell? ⟨bb, oo + 3, none⟩ = some (.int .u64 (wd xf 128 64 : Nat)) ∧ V.cell? ⟨bb, oo + 4, none⟩ = some (.int .u64 (wd xf 192 64 : Nat)) ∧ V.cell? ⟨bb, oo + 5, none⟩ = some (.slice xa xl.length xc) ∧ V.cell? ⟨bb, oo + 6, none⟩ = some (.int .i64 yk) ∧ V.cell? ⟨bb, oo + 6 + 1, none⟩ = some (.int .u64 (wd yf 0 64 : Nat)) ∧ V.cell? ⟨bb, oo + 6 + 2, none⟩ = some (.int .u64 (wd yf 64 64 : Nat)) ∧ V.cell? ⟨bb, oo + 6 + 3, none⟩ = some (.int .u64 (wd yf 128 64 : Nat)) ∧ V.cell? ⟨bb, oo + 6 + 4, none⟩ = some (.int .u64 (wd yf 192 64 : Nat)) ∧ V.cell? ⟨bb, oo + 6 + 5, none⟩ = some (.slice ya yl.length yc))
          (first | exact hS | (dsimp only; exact hS))
          (first
            | (go_at_call 54; with_reducible refine (HCI.out _ HC.out).mono ?_; rintro e w9 hpost; rcases hpost.is with ⟨rfl, v9, hp9, ho9, hk9⟩; clear hpost; have HO9 := Hid_mk ho9; have HP9 := Hid_mk hp9; have HK9 := Hid_mk (HC.out.to.trans' hk9); replace hS := HSk.out _ HK9.out; have HC9 := Hid_mk (Kp.refl No w9); replace HCO := Hid_mk (HCO.out w9 v9 HP9.out HK9.out); clear hp9 ho9 hk9)
            | (go_at_call 54; with_reducible refine (HCO.out _ HC9.out).mono ?_; rintro e w8 hpost; rcases hpost.is with ⟨rfl, v8, hp8, ho8, hk8⟩; clear hpost; have HP8 := Hid_mk hp8; have HO8 := Hid_mk ho8; have HK8 := Hid_mk hk8; replace hS := HSk.out _ (PgTo.kp (PgTo.trans HO9.out HK9.out (PgTo.of3 HP8.out HO8.out HK8.out))); clear hp8 ho8 hk8))
        all_goals
          go_wp2
          go_ret
          rw [HEf.out]
          exact ⟨rfl, PgTo.of HK1.out (PgTo.trans HO9.out HK9.out (PgTo.of3 HP8.out HO8.out HK8.out))⟩
      | false =>
        obtain ⟨r, hr⟩ : ∃ r, layM (Tr.mk yk yf yl) none false next ps = r := ⟨_, rfl⟩
        obtain ⟨r', hr'⟩ : ∃ r', layM (Tr.mk xk xf xl) none false r.1 r.2 = r' := ⟨_, rfl⟩
        have hcI : ∀ V, Kp No W1 V → Calls Try.prog 54 #[.pointer (some ⟨b, 0, none⟩), .agg #[.int .i64 yk, .int .u64 (wd yf 0 64 : Nat), .int .u64 (wd yf 64 64 : Nat), .int .u64 (wd yf 128 64 : Nat), .int .u64 (wd yf 192 64 : Nat), .slice ya yl.length yc], .int .i64 (next : Int)] V (LyPost V b base v st false r) := fun V hk => hr ▸ HIy.out V b base v ps st false next T _ (HP1.out.no hk) (ReV.no hk _ _ HVy.out) HT.out (by have := HSx.out; omega) HNx.out
        have hlnI := lay_len (Tr.mk yk yf yl) none false next ps
        rw [hr] at hlnI
        have hnI : r.1 ≤ 1000000 ∧ r.2.length ≤ ps.length + (Tr.mk yk yf yl).size := by
          have h1 := HSx.out
          have h2 := HNx.out
          rcases hlnI with ⟨h3, h4 | h4⟩
          · simp at h3; omega
          · simp at h3; omega
        have hcO : ∀ w9 v9, PgAt w9 b base v9 r.2 st false → Kp (fun i => i = b ∨ some i = v.ownBlock) W1 w9 → ∀ V, Kp No w9 V → Calls Try.prog 54 #[.pointer (some ⟨b, 0, none⟩), .agg #[.int .i64 xk, .int .u64 (wd xf 0 64 : Nat), .int .u64 (wd xf 64 64 : Nat), .int .u64 (wd xf 128 64 : Nat), .int .u64 (wd xf 192 64 : Nat), .slice xa xl.length xc], .int .i64 (r.1 : Int)] V (LyPost V b base v9 st false r') := fun w9 v9 h9 hk9 V hk => hr' ▸ HIx.out V b base v9 r.2 st false r.1 T _ (h9.no hk) (ReV.no hk _ _ (ReV.kept hk9 (HTb.out _ hk9) _ _ HVx.out)) HT.out (by have h1 := HSx.out; have h2 := hnI.2; omega) (by first | exact hnI.1 | exact HNx.out)
        have hlnO := lay_len (Tr.mk xk xf xl) none false r.1 r.2
        rw [hr'] at hlnO
        have hnO : r'.2.length ≤ 1000000 - 1 := by
          have h1 := HSx.out
          have h2 := hnI.2
          have h3 := hlnO.1
          simp at h3
          omega
        have HCI := Hid_mk hcI
        have HCO := Hid_mk hcO
        have HNO := Hid_mk hnO
        have HC := Hid_mk (Kp.refl No W1).drew
        have hS := HSk.out _ HC.out.to
        have HEf : Hid (A = r') := Hid_mk (by rw [← HA.out, layM_two, ← hr', ← hr]; rfl)
        clear hcI hlnI hnI hr hr' hcO hlnO hnO
        go_upto_region 11 with fail
        clear c0 c1 c2 c3 c4 c5 cw x0 x1 x2 x3 x4 x5 y0 y1 y2 y3 y4 y5 hbk
        go_region_held3 (fun V : World => V.cell? ⟨z, 5, none⟩ = some (.slice (some ⟨bb, oo, none⟩) 2 c) ∧ V.cell? ⟨bb, oo, none⟩ = some (.int .i64 xk) ∧ V.cell? ⟨bb, oo + 1, none⟩ = some (.int .u64 (wd xf 0 64 : Nat)) ∧ V.cell? ⟨bb, oo + 2, none⟩ = some (.int .u64 (wd xf 64 64 : Nat)) ∧ V.cell? ⟨bb, oo + 3, none⟩ = some (.int .u64 (wd xf 128 64 : Nat)) ∧ V.cell? ⟨bb, oo + 4, none⟩ = some (.int .u64 (wd xf 192 64 : Nat)) ∧ V.cell? ⟨bb, oo + 5, none⟩ = some (.slice xa xl.length xc) ∧ V.cell? ⟨bb, oo + 6, none⟩ = some (.int .i64 yk) ∧ V.cell? ⟨bb, oo + 6 + 1, none⟩ = some (.int .u64 (wd yf 0 64 : Nat)) ∧ V.cell? ⟨bb, oo + 6 + 2, none⟩ = some (.int .u64 (wd yf 64 64 : Nat)) ∧ V.cell? ⟨bb, oo + 6 + 3, none⟩ = some (.int .u64 (wd yf 128 64 : Nat)) ∧ V.cell? ⟨bb, oo + 6 + 4, none⟩ = some (.int .u64 (wd yf 192 64 : Nat)) ∧ V.cell? ⟨bb, oo + 6 + 5, none⟩ = some (.slice ya yl.length yc))
          (first | exact hS | (dsimp only; exact hS))
          (first
            | (go_at_call 54; with_reducible refine (HCI.out _ HC.out).mono ?_; rintro e w9 hpost; rcases hpost.is with ⟨rfl, v9, hp9, ho9, hk9⟩; clear hpost; have HO9 := Hid_mk ho9; have HP9 := Hid_mk hp9; have HK9 := Hid_mk (HC.out.to.trans' hk9); replace hS := HSk.out _ HK9.out; have HC9 := Hid_mk (Kp.refl No w9); replace HCO := Hid_mk (HCO.out w9 v9 HP9.out HK9.out); clear hp9 ho9 hk9)
            | (go_at_call 54; with_reducible refine (HCO.out _ HC9.out).mono ?_; rintro e w8 hpost; rcases hpost.is with ⟨rfl, v8, hp8, ho8, hk8⟩; clear hpost; have HP8 := Hid_mk hp8; have HO8 := Hid_mk ho8; have HK8 := Hid_mk hk8; replace hS := HSk.out _ (PgTo.kp (PgTo.trans HO9.out HK9.out (PgTo.of3 HP8.out HO8.out HK8.out))); clear hp8 ho8 hk8))
        all_goals
          go_wp2
          go_ret
          rw [HEf.out]
          exact ⟨rfl, PgTo.of HK1.out (PgTo.trans HO9.out HK9.out (PgTo.of3 HP8.out HO8.out HK8.out))⟩
    · skip
      obtain ⟨r, hr⟩ : ∃ r, layM (Tr.mk xk xf xl) none bk next ps = r := ⟨_, rfl⟩
      obtain ⟨r', hr'⟩ : ∃ r', layM (Tr.mk yk yf yl) none bk next r.2 = r' := ⟨_, rfl⟩
      have hcI : ∀ V, Kp No W1 V → Calls Try.prog 54 #[.pointer (some ⟨b, 0, none⟩), .agg #[.int .i64 xk, .int .u64 (wd xf 0 64 : Nat), .int .u64 (wd xf 64 64 : Nat), .int .u64 (wd xf 128 64 : Nat), .int .u64 (wd xf 192 64 : Nat), .slice xa xl.length xc], .int .i64 (next : Int)] V (LyPost V b base v st bk r) := fun V hk => hr ▸ HIx.out V b base v ps st bk next T _ (HP1.out.no hk) (ReV.no hk _ _ HVx.out) HT.out (by have := HSx.out; omega) HNx.out
      have hlnI := lay_len (Tr.mk xk xf xl) none bk next ps
      rw [hr] at hlnI
      have hnI : r.1 ≤ 1000000 ∧ r.2.length ≤ ps.length + (Tr.mk xk xf xl).size := by
        have h1 := HSx.out
        have h2 := HNx.out
        rcases hlnI with ⟨h3, h4 | h4⟩
        · simp at h3; omega
        · simp at h3; omega
      have hcO : ∀ w9 v9, PgAt w9 b base v9 r.2 st bk → Kp (fun i => i = b ∨ some i = v.ownBlock) W1 w9 → ∀ V, Kp No w9 V → Calls Try.prog 54 #[.pointer (some ⟨b, 0, none⟩), .agg #[.int .i64 yk, .int .u64 (wd yf 0 64 : Nat), .int .u64 (wd yf 64 64 : Nat), .int .u64 (wd yf 128 64 : Nat), .int .u64 (wd yf 192 64 : Nat), .slice ya yl.length yc], .int .i64 (next : Int)] V (LyPost V b base v9 st bk r') := fun w9 v9 h9 hk9 V hk => hr' ▸ HIy.out V b base v9 r.2 st bk next T _ (h9.no hk) (ReV.no hk _ _ (ReV.kept hk9 (HTb.out _ hk9) _ _ HVy.out)) HT.out (by have h1 := HSx.out; have h2 := hnI.2; omega) (by first | exact hnI.1 | exact HNx.out)
      have hlnO := lay_len (Tr.mk yk yf yl) none bk next r.2
      rw [hr'] at hlnO
      have hnO : r'.2.length ≤ 1000000 - 1 := by
        have h1 := HSx.out
        have h2 := hnI.2
        have h3 := hlnO.1
        simp at h3
        omega
      have HCI := Hid_mk hcI
      have HCO := Hid_mk hcO
      have HNO := Hid_mk hnO
      have HC := Hid_mk (Kp.refl No W1).drew
      have hS := HSk.out _ HC.out.to
      have HEf : Hid (A = addS r'.2 ⟨2, nul, r.1, r'.1⟩) := Hid_mk (by rw [← HA.out, layM_two, ← hr', ← hr]; rfl)
      clear hcI hlnI hnI hr hr' hcO hlnO hnO
      have hadd : ∀ w8 v8, PgAt w8 b base v8 r'.2 st bk → Calls Try.prog 77 #[.pointer (some ⟨b, 0, none⟩), .agg #[.int .i64 2, .int .u64 0, .int .u64 0, .int .u64 0, .int .u64 0, .int .i64 (r.1 : Int), .int .i64 (r'.1 : Int)]] w8 (AdPost w8 b base v8 (r'.2 ++ [⟨2, nul, r.1, r'.1⟩]) st bk r'.2.length) := fun w8 v8 h8 => by
        have h := add_any w8 b base v8 r'.2 st bk h8 2 nul r.1 r'.1 (by have := HNO.out; omega)
        simp only [wd_nul, Int.natCast_zero, show ((2 : Nat) : Int) = 2 from rfl] at h
        exact h
      have HAdd := Hid_mk hadd
      clear hadd
      go_upto_region 13 with fail
      clear c0 c1 c2 c3 c4 c5 cw x0 x1 x2 x3 x4 x5 y0 y1 y2 y3 y4 y5 hbk
      go_region_held3 (fun V : World => V.cell? ⟨z, 5, none⟩ = some (.slice (some ⟨bb, oo, none⟩) 2 c) ∧ V.cell? ⟨bb, oo, none⟩ = some (.int .i64 xk) ∧ V.cell? ⟨bb, oo + 1, none⟩ = some (.int .u64 (wd xf 0 64 : Nat)) ∧ V.cell? ⟨bb, oo + 2, none⟩ = some (.int .u64 (wd xf 64 64 : Nat)) ∧ V.cell? ⟨bb, oo + 3, none⟩ = some (.int .u64 (wd xf 128 64 : Nat)) ∧ V.cell? ⟨bb, oo + 4, none⟩ = some (.int .u64 (wd xf 192 64 : Nat)) ∧ V.cell? ⟨bb, oo + 5, none⟩ = some (.slice xa xl.length xc) ∧ V.cell? ⟨bb, oo + 6, none⟩ = some (.int .i64 yk) ∧ V.cell? ⟨bb, oo + 6 + 1, none⟩ = some (.int .u64 (wd yf 0 64 : Nat)) ∧ V.cell? ⟨bb, oo + 6 + 2, none⟩ = some (.int .u64 (wd yf 64 64 : Nat)) ∧ V.cell? ⟨bb, oo + 6 + 3, none⟩ = some (.int .u64 (wd yf 128 64 : Nat)) ∧ V.cell? ⟨bb, oo + 6 + 4, none⟩ = some (.int .u64 (wd yf 192 64 : Nat)) ∧ V.cell? ⟨bb, oo + 6 + 5, none⟩ = some (.slice ya yl.length yc))
        (first | exact hS | (dsimp only; exact hS))
        (first
          | (go_at_call 54; with_reducible refine (HCI.out _ HC.out).mono ?_; rintro e w9 hpost; rcases hpost.is with ⟨rfl, v9, hp9, ho9, hk9⟩; clear hpost; have HO9 := Hid_mk ho9; have HP9 := Hid_mk hp9; have HK9 := Hid_mk (HC.out.to.trans' hk9); replace hS := HSk.out _ HK9.out; have HC9 := Hid_mk (Kp.refl No w9); replace HCO := Hid_mk (HCO.out w9 v9 HP9.out HK9.out); clear hp9 ho9 hk9)
          | (go_at_call 54; with_reducible refine (HCO.out _ HC9.out).mono ?_; rintro e w8 hpost; rcases hpost.is with ⟨rfl, v8, hp8, ho8, hk8⟩; clear hpost; have HP8 := Hid_mk hp8; have HO8 := Hid_mk ho8; have HK8 := Hid_mk hk8; replace hS := HSk.out _ (PgTo.kp (PgTo.trans HO9.out HK9.out (PgTo.of3 HP8.out HO8.out HK8.out))); have HAD := Hid_mk (HAdd.out w8 v8 HP8.out); clear hp8 ho8 hk8)
          | (go_at_call 77; with_reducible refine HAD.out.mono ?_; rintro e w7 hpost; rcases hpost.is with ⟨rfl, hp7⟩; clear hpost; have HP7 := Hid_mk hp7; replace hS := HSk.out _ (PgTo.kp (PgTo.trans HO9.out HK9.out (PgTo.trans HO8.out HK8.out HP7.out))); clear hp7))
      all_goals
        go_wp2
        go_ret
        rw [HEf.out]
        exact ⟨rfl, PgTo.of HK1.out (PgTo.trans HO9.out HK9.out (PgTo.trans HO8.out HK8.out HP7.out))⟩

end Go.Proofs.Ytaneblecgjahbab.nfa

namespace Go.Proofs.Ytaneblecgjahbab.nfa
open Go.RowKit Go.Proofs.Ytaneblecgjahbab.sum Go.Proofs.Ytaneblecgjahbab.kept Go.Proofs.Ytaneblecgjahbab.pop Go.Proofs.Ytaneblecgjahbab.cls Go.Proofs.Ytaneblecgjahbab.tre Go.Proofs.Ytaneblecgjahbab.ere
set_option linter.unusedVariables false

/-- the final part -/
def p0 : Part := ⟨0, nul, 0, 0⟩
/-- a tree's program -/
def progS (t : Tr) (bk : Bool) : Nat × List Part := layM t none bk 0 [p0]
theorem PgAt.new (W : World) (bk : Bool) (base : Nat) (hb : base ≤ W.heap.size) :
    PgAt ((W.alloc (.cells (cellsN 0 nul 0 0) 117)).alloc (.cells #[.slice (some ⟨W.heap.size, 0, none⟩) 1 1, .int .i64 0, .bool bk] 73)) (W.heap.size + 1) base (.slice (some ⟨W.heap.size, 0, none⟩) 1 1) [p0] 0 bk := by
  have e1 : (W.alloc (.cells (cellsN 0 nul 0 0) 117)).heap.size = W.heap.size + 1 := by simp
  have hr : NRow (W.alloc (.cells (cellsN 0 nul 0 0) 117)) base (.slice (some ⟨W.heap.size, 0, none⟩) 1 1) [p0] := ⟨by simp [Part.cells, cellsN], .inr ⟨W.heap.size, 1, _, rfl, hb, heap_alloc_new W _, Nat.le_refl _, by decide, rfl, rfl⟩⟩
  refine ⟨?_, ?_, ?_, fun i => ?_, owns_kept hr ((Kp.refl No _).alloc _) fun _ _ => id, fun e => ?_, by omega, by simp⟩
  · rw [← e1]; simp
  · rw [← e1]; simp
  · rw [← e1]; simp
  · rw [← e1]; simp
  · have e : some W.heap.size = some (W.heap.size + 1) := e
    have := Option.some.inj e
    omega
/-- a program that is read: it lies at a place of a block -/
structure PgRd (w : World) (pb po : Nat) (r : Nat × List Part) (bk : Bool) (g c : Nat) : Prop where
  c0 : w.cell? ⟨pb, po, none⟩ = some (.slice (some ⟨g, 0, none⟩) r.2.length c)
  c1 : w.cell? ⟨pb, po + 1, none⟩ = some (.int .i64 (r.1 : Int))
  c2 : w.cell? ⟨pb, po + 2, none⟩ = some (.bool bk)
  row : ∃ base, NRow w base (.slice (some ⟨g, 0, none⟩) r.2.length c) r.2
theorem PgRd.lt {w : World} {pb po : Nat} {r : Nat × List Part} {bk : Bool} {g c : Nat} (h : PgRd w pb po r bk g c) : pb < w.heap.size ∧ g < w.heap.size := by
  obtain ⟨base, hr⟩ := h.row
  exact ⟨World.block_lt_of_cell? w ⟨pb, po, none⟩ h.c0, (own_lt hr rfl).2⟩
theorem PgRd.kept {S : Nat → Prop} {w w' : World} {pb po : Nat} {r : Nat × List Part} {bk : Bool} {g c : Nat} (h : PgRd w pb po r bk g c) (hk : Kp S w w') (hp : ¬ S pb) (hg : ¬ S g) : PgRd w' pb po r bk g c := by
  obtain ⟨base, hr⟩ := h.row
  exact ⟨hk.cell' h.c0 hp, hk.cell' h.c1 hp, hk.cell' h.c2 hp, base, owns_kept hr hk fun k e => by have e : some g = some k := e; cases e; exact hg⟩
/-- a machine's memory: both its programs -/
def MAt (w : World) (mb : Nat) (t : Tr) : Prop := (∃ g c, PgRd w mb 0 (progS t false) false g c) ∧ ∃ g c, PgRd w mb 3 (progS t true) true g c
theorem MAt.no {w w' : World} {mb : Nat} {t : Tr} (h : MAt w mb t) (hk : Kp No w w') : MAt w' mb t := by
  obtain ⟨⟨g, c, h1⟩, g', c', h2⟩ := h
  exact ⟨⟨g, c, h1.kept hk id id⟩, g', c', h2.kept hk id id⟩

theorem _root_.Go.Proofs.Ytaneblecgjahbab.ere.RAt.no' {w w' : World} {q : Nat} {x0 x1 x2 x3 x4 x5 : Value} (h : RAt w q x0 x1 x2 x3 x4 x5) (hk : Kp No w w') : RAt w' q x0 x1 x2 x3 x4 x5 := h.kept hk id
/-- behind build -/
def BdPost (w : World) (r : Nat × List Part) (bk : Bool) (e : Ending) (w' : World) : Prop :=
  ∃ g c, e = .returned (.agg #[.slice (some ⟨g, 0, none⟩) r.2.length c, .int .i64 (r.1 : Int), .bool bk]) ∧ (∃ base, NRow w' base (.slice (some ⟨g, 0, none⟩) r.2.length c) r.2) ∧ Kp No w w'
theorem BdPost.is {w : World} {r : Nat × List Part} {bk : Bool} {e : Ending} {w' : World} (h : BdPost w r bk e w') : ∃ g c, e = .returned (.agg #[.slice (some ⟨g, 0, none⟩) r.2.length c, .int .i64 (r.1 : Int), .bool bk]) ∧ (∃ base, NRow w' base (.slice (some ⟨g, 0, none⟩) r.2.length c) r.2) ∧ Kp No w w' := h

set_option maxRecDepth 100000 in
set_option maxHeartbeats 8000000 in
theorem build_any {T : Nat → Prop} (w : World) (t : Tr) (k : Int) (f : Nat → Bool) (a : Option Addr) (n c : Nat) (hv : ReV T w t (.agg (cellsR k f a n c))) (hs : shapedS t = true) (hsz : t.size ≤ 900000) (bk : Bool) :
    Calls Try.prog 32 #[.agg #[.int .i64 k, .int .u64 (wd f 0 64 : Nat), .int .u64 (wd f 64 64 : Nat), .int .u64 (wd f 128 64 : Nat), .int .u64 (wd f 192 64 : Nat), .slice a n c], .bool bk] w (BdPost w (progS t bk) bk) := by
  obtain ⟨z, hz⟩ : ∃ z, w.heap.size = z := ⟨_, rfl⟩
  have HZ := Hid_mk hz
  have HV := Hid_mk (ReV.wider (T' := fun i => i < z) (fun i _ hl => by show i < z; omega) _ _ hv)
  have HLy := Hid_mk (lay_any t.size t (Nat.le_refl _) hs)
  have HSz := Hid_mk hsz
  clear hz hv hs hsz
  go_enter Try.func32, Try.ntmps32
  go_upto_region 1 with fail
  rw [HZ.out]
  refine wp_name (fun V => Kp No w V ∧ V.heap.size = z + 2 ∧ RAt V z (.int .i64 k) (.int .u64 (wd f 0 64 : Nat)) (.int .u64 (wd f 64 64 : Nat)) (.int .u64 (wd f 128 64 : Nat)) (.int .u64 (wd f 192 64 : Nat)) (.slice a n c) ∧ (V.cell? ⟨z + 1, 0, none⟩ = some (.slice none 0 0) ∧ V.cell? ⟨z + 1, 1, none⟩ = some (.int .i64 0) ∧ V.cell? ⟨z + 1, 2, none⟩ = some (.bool false)) ∧ ∀ i, V.frozen? ⟨z + 1, i, none⟩ = false) ?_ ?_
  · have hz := HZ.out
    have e1 : z + 1 = (w.alloc (.cells #[.int .i64 k, .int .u64 (wd f 0 64 : Nat), .int .u64 (wd f 64 64 : Nat), .int .u64 (wd f 128 64 : Nat), .int .u64 (wd f 192 64 : Nat), .slice a n c] 30)).heap.size := by simp [hz]
    refine ⟨((Kp.refl No w).alloc _).alloc _, by simp [hz], ?_, ?_, fun i => ?_⟩
    · have := (RAt.new w (.int .i64 k) (.int .u64 (wd f 0 64 : Nat)) (.int .u64 (wd f 64 64 : Nat)) (.int .u64 (wd f 128 64 : Nat)) (.int .u64 (wd f 192 64 : Nat)) (.slice a n c) 30)
      rw [hz] at this
      exact this.kept ((Kp.refl No _).alloc _) id
    · rw [e1]; simp
    · rw [e1]; simp
  rintro W1 ⟨hk1, hz1, hr1, ⟨d0, d1, d2⟩, dw⟩
  have HK1 := Hid_mk hk1
  have HZ1 := Hid_mk hz1
  have HR1 := Hid_mk hr1
  have hnew := PgAt.new W1 bk z (by omega)
  have hkn : Kp No W1 ((W1.alloc (.cells (cellsN 0 nul 0 0) 117)).alloc (.cells #[.slice (some ⟨W1.heap.size, 0, none⟩) 1 1, .int .i64 0, .bool bk] 73)) := ((Kp.refl No W1).alloc _).alloc _
  simp only [cellsN, wd_nul, Int.natCast_zero, hz1] at hnew hkn
  have HNew := Hid_mk hnew
  have HKn := Hid_mk hkn
  clear hk1 hr1 hnew hkn
  go_upto_region 2 with fail
  try simp only [hz1]
  rw [show z + 2 + 1 = z + 3 from rfl]
  refine wp_name (fun V => Kp No W1 V ∧ PgAt V (z + 3) z (.slice (some ⟨z + 2, 0, none⟩) 1 1) [p0] 0 bk) ⟨HKn.out, HNew.out⟩ ?_
  rintro W2 ⟨hk2, hp2⟩
  have HK2 := Hid_mk hk2
  have HP2 := Hid_mk hp2
  have HR2 := Hid_mk (HR1.out.no' hk2)
  have HV2 := Hid_mk (ReV.no (HK1.out.trans' hk2) _ _ HV.out)
  have hly := HLy.out W2 (z + 3) z (.slice (some ⟨z + 2, 0, none⟩) 1 1) [p0] 0 bk 0 _ _ hp2 HV2.out (fun i hi => hi) (by have := HSz.out; simp; omega) (by omega)
  have hpg : layM t none bk 0 [p0] = progS t bk := rfl
  rw [hpg] at hly
  simp only [Int.natCast_zero, cellsR] at hly
  have HLy2 := Hid_mk hly
  obtain ⟨c0, c1, c2, c3, c4, c5, cw⟩ := id HR2.out
  have d0' := Hid_mk (hk2.cell' d0 id)
  have d1' := Hid_mk (hk2.cell' d1 id)
  have d2' := Hid_mk (hk2.cell' d2 id)
  have hd1 : z + 1 < W1.heap.size := by omega
  have dw' := Hid_mk (fun i => (hk2.frozen (p := ⟨z + 1, i, none⟩) hd1 id).trans (dw i))
  have HZ2 := Hid_mk (show z + 1 < W2.heap.size from Nat.lt_of_lt_of_le hd1 hk2.size)
  clear hk2 hp2 hly d0 d1 d2 dw hz1 hd1 hpg
  go_wp2_with fail
  with_reducible refine HLy2.out.mono ?_
  intro e w3 hpost
  rcases hpost.is with ⟨rfl, v3, hp3, ho3, hk3⟩
  obtain ⟨r, hr⟩ : ∃ r, progS t bk = r := ⟨_, rfl⟩
  rw [hr] at hp3 ⊢
  have HRr := Hid_mk hr
  have hne : 0 < r.2.length := by
    obtain ⟨l, hl⟩ := lay_pre t none bk 0 [p0]
    have e : (progS t bk).2 = [p0] ++ l := hl
    rw [← hr, e]
    simp
  obtain ⟨g, cg, rfl, -, -⟩ := own_form hp3.row hne
  have hzn : ¬ (z + 1 = z + 3 ∨ some (z + 1) = (Value.slice (some ⟨z + 2, 0, none⟩) 1 1).ownBlock) := by
    rintro (e | e)
    · omega
    · have e : some (z + 1) = some (z + 2) := e
      have := Option.some.inj e
      omega
  have q0 := hk3.cell' d0'.out hzn
  have q1 := hk3.cell' d1'.out hzn
  have q2 := hk3.cell' d2'.out hzn
  have qw := fun i => (hk3.frozen (p := ⟨z + 1, i, none⟩) HZ2.out hzn).trans (dw'.out i)
  have p0' := hp3.c0
  have p1' := hp3.c1
  have p2' := hp3.c2
  have pw := hp3.warm
  have hks : Kp (fun i => i = z + 3 ∨ i = z + 1) w3 ((((w3.setCell ⟨z + 3, 1, none⟩ (.int .i64 (r.1 : Int))).setCell ⟨z + 1, 0, none⟩ (.slice (some ⟨g, 0, none⟩) r.2.length cg)).setCell ⟨z + 1, 1, none⟩ (.int .i64 (r.1 : Int))).setCell ⟨z + 1, 2, none⟩ (.bool bk)) :=
    ((((Kp.refl _ w3).setCell (p := ⟨z + 3, 1, none⟩) (fun _ => .inl rfl) _).setCell (p := ⟨z + 1, 0, none⟩) (fun _ => .inr rfl) _).setCell (p := ⟨z + 1, 1, none⟩) (fun _ => .inr rfl) _).setCell (p := ⟨z + 1, 2, none⟩) (fun _ => .inr rfl) _
  have hgz : g ≠ z + 3 ∧ g ≠ z + 1 := by
    refine ⟨fun e => hp3.out (by rw [← e]; rfl), fun e => ?_⟩
    rcases ho3 with h | ⟨g', h, hg'⟩
    · have h : some g = some (z + 2) := h
      have := Option.some.inj h
      omega
    · have h : some g = some g' := h
      have := Option.some.inj h
      have := HZ2.out
      omega
  have HRow := Hid_mk (owns_kept hp3.row hks fun k e => by
    have e : some g = some k := e
    have := Option.some.inj e
    rintro (e | e) <;> omega)
  have HKf := Hid_mk (((HK1.out.trans' HK2.out).trans hk3 (T := fun i => i = z + 3 ∨ some i = (Value.slice (some ⟨z + 2, 0, none⟩) 1 1).ownBlock) (fun i hi e => by
    have := HZ.out
    rcases e with e | e
    · omega
    · have e : some i = some (z + 2) := e
      have := Option.some.inj e
      omega)).trans hks fun i hi e => by
    have := HZ.out
    rcases e with e | e <;> omega)
  clear hpost hp3 ho3 hk3 hr hzn hks hgz hne c0 c1 c2 c3 c4 c5 cw
  go_wp2
  rw [HRr.out]
  refine bodyPost_ret (v := .agg #[.slice (some ⟨g, 0, none⟩) r.2.length cg, .int .i64 (r.1 : Int), .bool bk]) ?_ rfl ⟨g, cg, rfl, ⟨_, HRow.out⟩, HKf.out⟩
  simp [results, Try.results32, go_sem, q0, q1, q2]

/-- behind Compile -/
def CmPost (w : World) (t : Tr) (e : Ending) (w' : World) : Prop :=
  Kp No w w' ∧ ((rightS t = true ∧ ∃ mb, e = .returned (.tuple #[.pointer (some ⟨mb, 0, none⟩), .int .i64 0]) ∧ MAt w' mb t ∧ w.heap.size ≤ mb) ∨ (rightS t = false ∧ e = .returned (.tuple #[.pointer none, .int .i64 1])))

set_option maxRecDepth 100000 in
set_option maxHeartbeats 8000000 in
theorem compile_any {T : Nat → Prop} (w : World) (t : Tr) (k : Int) (f : Nat → Bool) (a : Option Addr) (n c : Nat) (hv : ReV T w t (.agg (cellsR k f a n c))) :
    Calls Try.prog 11 #[.agg #[.int .i64 k, .int .u64 (wd f 0 64 : Nat), .int .u64 (wd f 64 64 : Nat), .int .u64 (wd f 128 64 : Nat), .int .u64 (wd f 192 64 : Nat), .slice a n c]] w (CmPost w t) := by
  obtain ⟨z, hz⟩ : ∃ z, w.heap.size = z := ⟨_, rfl⟩
  have HZ := Hid_mk hz
  have HV := Hid_mk hv
  clear hz hv
  go_enter Try.func11, Try.ntmps11
  go_upto_region 1 with fail
  rw [HZ.out]
  refine wp_name (fun V => Kp No w V ∧ RAt V z (.int .i64 k) (.int .u64 (wd f 0 64 : Nat)) (.int .u64 (wd f 64 64 : Nat)) (.int .u64 (wd f 128 64 : Nat)) (.int .u64 (wd f 192 64 : Nat)) (.slice a n c)) ?_ ?_
  · have hz := HZ.out
    refine ⟨(Kp.refl No w).alloc _, ?_⟩
    rw [← hz]
    exact RAt.new _ _ _ _ _ _ _ _
  rintro W1 ⟨hk1, hr1⟩
  have HK1 := Hid_mk hk1
  have HR1 := Hid_mk hr1
  have hv1 := ReV.no hk1 _ _ HV.out
  have HV1 := Hid_mk hv1
  have hrt := pright_any W1 _ t hv1
  unfold cellsR at hrt
  obtain ⟨c0, c1, c2, c3, c4, c5, cw⟩ := hr1
  cases hR : rightS t with
  | false =>
    rw [hR] at hrt
    have HRt := Hid_mk hrt
    have HRf := Hid_mk hR
    clear hrt hR hk1 hv1
    go_wp2_with fail
    with_reducible refine HRt.out.mono ?_
    rintro e w2 ⟨rfl, hk2⟩
    have HK2 := Hid_mk (HK1.out.trans' hk2)
    clear hk2 c0 c1 c2 c3 c4 c5 cw
    go_wp2
    go_ret2
    exact ⟨HK2.out, .inr ⟨HRf.out, rfl⟩⟩
  | true =>
    rw [hR] at hrt
    have hR2 := hR
    unfold rightS at hR2
    simp only [Bool.and_eq_true, decide_eq_true_eq] at hR2
    have hsz := size_le t 40 hR2.1.1 hR2.1.2
    have hbl : ∀ V, Kp No W1 V → ∀ bk : Bool, Calls Try.prog 32 #[.agg #[.int .i64 k, .int .u64 (wd f 0 64 : Nat), .int .u64 (wd f 64 64 : Nat), .int .u64 (wd f 128 64 : Nat), .int .u64 (wd f 192 64 : Nat), .slice a n c], .bool bk] V (BdPost V (progS t bk) bk) := fun V hk bk => build_any V t k f a n c (ReV.no hk _ _ HV1.out) hR2.1.1 (by omega) bk
    have HBl := Hid_mk hbl
    have HRt := Hid_mk hrt
    have HRf := Hid_mk hR
    clear hrt hR hk1 hv1 hR2 hsz hbl
    go_wp2_with fail
    with_reducible refine HRt.out.mono ?_
    rintro e w2 ⟨rfl, hk2⟩
    have HK2 := Hid_mk hk2
    have HSk := Hid_mk (fun V (hk : Kp No W1 V) => (show V.cell? ⟨z, 0, none⟩ = some (.int .i64 k) ∧ V.cell? ⟨z, 1, none⟩ = some (.int .u64 (wd f 0 64 : Nat)) ∧ V.cell? ⟨z, 2, none⟩ = some (.int .u64 (wd f 64 64 : Nat)) ∧ V.cell? ⟨z, 3, none⟩ = some (.int .u64 (wd f 128 64 : Nat)) ∧ V.cell? ⟨z, 4, none⟩ = some (.int .u64 (wd f 192 64 : Nat)) ∧ V.cell? ⟨z, 5, none⟩ = some (.slice a n c) by
      obtain ⟨d0, d1, d2, d3, d4, d5, -⟩ := HR1.out.no' hk
      exact ⟨d0, d1, d2, d3, d4, d5⟩))
    have HC := Hid_mk hk2.drew
    have hS := HSk.out _ HC.out
    clear hk2 c0 c1 c2 c3 c4 c5 cw
    go_upto_region 3 with fail
    go_region_held3 (fun V : World => V.cell? ⟨z, 0, none⟩ = some (.int .i64 k) ∧ V.cell? ⟨z, 1, none⟩ = some (.int .u64 (wd f 0 64 : Nat)) ∧ V.cell? ⟨z, 2, none⟩ = some (.int .u64 (wd f 64 64 : Nat)) ∧ V.cell? ⟨z, 3, none⟩ = some (.int .u64 (wd f 128 64 : Nat)) ∧ V.cell? ⟨z, 4, none⟩ = some (.int .u64 (wd f 192 64 : Nat)) ∧ V.cell? ⟨z, 5, none⟩ = some (.slice a n c))
      (first | exact hS | (dsimp only; exact hS) | exact hA _ | (dsimp only; exact hA _))
      (first
        | (go_at_call 32; with_reducible refine (HBl.out _ HC.out false).mono ?_; rintro e w9 hpost; rcases hpost.is with ⟨g, cg, rfl, hrow, hk9⟩; clear hpost; have HRow := Hid_mk hrow; have HK9 := Hid_mk (HC.out.trans' hk9); replace hS := HSk.out _ HK9.out; clear hrow hk9)
        | (go_at_call 32; with_reducible refine (HBl.out _ HK9.out true).mono ?_; rintro e w8 hpost; rcases hpost.is with ⟨g', cg', rfl, hrow, hk8⟩; clear hpost; have HRow' := Hid_mk hrow; have HK8 := Hid_mk hk8; replace hS := HSk.out _ (HK9.out.trans' hk8); have hA := fun o => HSk.out _ ((HK9.out.trans' HK8.out).alloc o); clear hrow hk8))
    all_goals
      obtain ⟨mb, hmb⟩ : ∃ mb, w8.heap.size = mb := ⟨_, rfl⟩
      have HMb := Hid_mk hmb
      have hka : Kp No w8 (w8.alloc (.cells #[.slice (some ⟨g, 0, none⟩) (progS t false).2.length cg, .int .i64 ((progS t false).1 : Int), .bool false, .slice (some ⟨g', 0, none⟩) (progS t true).2.length cg', .int .i64 ((progS t true).1 : Int), .bool true] 76)) := (Kp.refl No w8).alloc _
      have HKa := Hid_mk hka
      have hma : MAt (w8.alloc (.cells #[.slice (some ⟨g, 0, none⟩) (progS t false).2.length cg, .int .i64 ((progS t false).1 : Int), .bool false, .slice (some ⟨g', 0, none⟩) (progS t true).2.length cg', .int .i64 ((progS t true).1 : Int), .bool true] 76)) mb t := by
        obtain ⟨b1, hrow1⟩ := HRow.out
        obtain ⟨b2, hrow2⟩ := HRow'.out
        rw [← hmb]
        exact ⟨⟨g, cg, by simp, by simp, by simp, b1, owns_kept hrow1 (HK8.out.trans' hka) fun _ _ => id⟩, g', cg', by simp, by simp, by simp, b2, owns_kept hrow2 hka fun _ _ => id⟩
      have HMa := Hid_mk hma
      have HLe := Hid_mk (show w.heap.size ≤ mb by have h1 := HK1.out.size; have h2 := HK9.out.size; have h3 := HK8.out.size; omega)
      clear hS hA hka hma hmb
      go_wp2
      go_ret2
      rw [HMb.out]
      exact ⟨(HK1.out.trans' HK9.out).trans' (HK8.out.trans' HKa.out), .inl ⟨HRf.out, mb, rfl, HMa.out, HLe.out⟩⟩

end Go.Proofs.Ytaneblecgjahbab.nfa
