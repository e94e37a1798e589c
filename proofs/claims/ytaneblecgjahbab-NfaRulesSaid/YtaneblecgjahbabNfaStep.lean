/- Package nfa: over the next byte. -/
import Derived.Test.YtaneblecgjahbabNfaNew
import Derived.Test.YtaneblecgjahbabSetsM

namespace Go.Proofs.Ytaneblecgjahbab.nfa
open Go.RowKit Go.Proofs.Ytaneblecgjahbab.sum Go.Proofs.Ytaneblecgjahbab.kept Go.Proofs.Ytaneblecgjahbab.pop Go.Proofs.Ytaneblecgjahbab.cls Go.Proofs.Ytaneblecgjahbab.tre Go.Proofs.Ytaneblecgjahbab.ere
set_option linter.unusedVariables false

def swapR (ρ : Nat → Nat) : Nat → Nat := fun i => if ρ i = 2 then 3 else if ρ i = 3 then 2 else ρ i
theorem swapR_0 (ρ : Nat → Nat) (i : Nat) : swapR ρ i = 0 ↔ ρ i = 0 := by
  unfold swapR
  split
  · omega
  · split <;> omega
theorem swapR_eq {ρ : Nat → Nat} {i m : Nat} (h : ρ i = m) (h2 : m ≠ 2) (h3 : m ≠ 3) : swapR ρ i = m := by
  unfold swapR
  rw [if_neg (by omega), if_neg (by omega)]
  exact h
/-- list and spare change places; the new list is empty -/
theorem WkAt.swap {w : World} {ρ : Nat → Nat} {o : Over} {vl vs vp : Value} {g cg : Nat} {S : List (Nat × Nat)} {t : Wst} (h : WkAt w ρ o vl vs vp g cg S t) (vs0 : Value) (hr0 : TRw w vs0 []) (ho : ∀ x, vs0.ownBlock = some x → vs.ownBlock = some x) :
    WkAt ((w.setCell ⟨o.q, 3, none⟩ vs0).setCell ⟨o.q, 4, none⟩ vl) (swapR ρ) o vs0 vl vp g cg t.L { t with L := [] } ∧ Gr w ρ ((w.setCell ⟨o.q, 3, none⟩ vs0).setCell ⟨o.q, 4, none⟩ vl) (swapR ρ) := by
  have hk : Kp (fun b => b = o.q) w ((w.setCell ⟨o.q, 3, none⟩ vs0).setCell ⟨o.q, 4, none⟩ vl) := ((Kp.refl (fun b => b = o.q) w).setCell (p := ⟨o.q, 3, none⟩) (fun _ => rfl) vs0).setCell (p := ⟨o.q, 4, none⟩) (fun _ => rfl) vl
  have hc : ∀ (j : Nat) (u : Value), j ≠ 3 → j ≠ 4 → w.cell? ⟨o.q, j, none⟩ = some u → ((w.setCell ⟨o.q, 3, none⟩ vs0).setCell ⟨o.q, 4, none⟩ vl).cell? ⟨o.q, j, none⟩ = some u := fun j u h3 h4 e => by
    rw [World.cell?_setCell_other _ _ _ _ (fun e => h4 (by injection e with _ e _; exact e.symm)), World.cell?_setCell_other _ _ _ _ (fun e => h3 (by injection e with _ e _; exact e.symm))]
    exact e
  have c3 : (w.setCell ⟨o.q, 3, none⟩ vs0).cell? ⟨o.q, 3, none⟩ = some vs0 := World.cell?_setCell_same _ _ _ h.c3
  have c4 : (w.setCell ⟨o.q, 3, none⟩ vs0).cell? ⟨o.q, 4, none⟩ = some vs := setq_cell h 3 4 _ (by decide) h.c4
  have hrow : ∀ {e : TypeId} {n size : Nat} {v : Value} {xs : List Value} (m : Nat), m ≠ 1 → (∀ y, v.ownBlock = some y → ρ y = m) → w.ownsRow 0 e size v n xs → ((w.setCell ⟨o.q, 3, none⟩ vs0).setCell ⟨o.q, 4, none⟩ vl).ownsRow 0 e size v n xs := fun m hm hv hr => owns_kept hr hk fun b e1 e2 => by
    have e2 : b = o.q := e2
    have h1 := hv _ e1
    rw [e2, h.qr] at h1
    exact hm h1.symm
  have hqp : ¬ o.pb = o.q := fun e => by have := h.pb; rw [e, h.qr] at this; cases this
  have hqg : ¬ o.gp = o.q := fun e => by have := h.gp; rw [e, h.qr] at this; cases this
  refine ⟨⟨hc 0 _ (by decide) (by decide) h.c0, hc 1 _ (by decide) (by decide) h.c1, hc 2 _ (by decide) (by decide) h.c2, ?_, World.cell?_setCell_same _ _ _ c4, hc 5 _ (by decide) (by decide) h.c5, hc 6 _ (by decide) (by decide) h.c6, hc 7 _ (by decide) (by decide) h.c7, fun i => (World.frozen?_setCell _ _ _ _).trans ((World.frozen?_setCell _ _ _ _).trans (h.warm i)),
    hrow 3 (by decide) (fun y e => h.sr y (ho y e)) hr0, hrow 2 (by decide) h.lr h.rl, hrow 4 (by decide) h.pr h.rp, hrow 5 (by decide) (fun y e => by rw [seen_own (t := t) y e]; exact h.nr) h.rn, swapR_eq h.qr (by decide) (by decide), fun x e => ?_, fun x e => ?_, fun x e => swapR_eq (h.pr x e) (by decide) (by decide), swapR_eq h.nr (by decide) (by decide), h.pg.kept hk hqp hqg, swapR_eq h.pb (by decide) (by decide), swapR_eq h.gp (by decide) (by decide), fun i hi => swapR_eq (h.hi i (by simpa [World.setCell] using hi)) (by decide) (by decide)⟩,
    ⟨hk.mono fun i _ e => by have e : i = o.q := e; rw [e, h.qr]; decide, fun i _ => swapR_0 ρ i⟩⟩
  · rw [World.cell?_setCell_other _ _ _ _ (by intro e; injection e with _ e _; cases e)]
    exact c3
  · unfold swapR
    rw [if_neg (by rw [h.sr x (ho x e)]; decide), if_pos (h.sr x (ho x e))]
  · unfold swapR
    rw [if_pos (h.lr x e)]

/-- those under way go over a byte -/
def stL (o : Over) (b : Nat) : List (Nat × Nat) → Wst → Wst
  | [], t => t
  | x :: l, t => stL o b l (if (o.r.2.getD x.1 p0).f b = true then rchS o.r.2 o.s.size x.2 (fuelS o) none { t with stk := [(o.r.2.getD x.1 p0).next] } else t)
/-- over the byte at a place, to another one -/
def stepS (o : Over) (b pl' : Nat) (t : Wst) : Wst := stL o b t.L { pl := pl', L := [], stk := t.stk, seen := t.seen, en := -1 }

/-- the byte's place that is next, and the place behind it; none at the end -/
def atS (o : Over) (t : Wst) : Option (Nat × Nat) :=
  if o.bk = true then (if t.pl = 0 then none else some (t.pl - 1, t.pl - 1)) else (if t.pl = o.s.size then none else some (t.pl, t.pl + 1))
theorem th_any {w : World} {v : Value} {l : List (Nat × Nat)} (h : TRw w v l) : (v = .slice none 0 0 ∧ l = []) ∨ ∃ g c, v = .slice (some ⟨g, 0, none⟩) l.length c ∧ l.length ≤ c ∧ c ≤ maxLen := by
  rcases h.2 with ⟨rfl, e⟩ | ⟨g, cap, cur, rfl, h1, h2, h3, h4, h5, h6⟩
  · exact .inl ⟨rfl, List.length_eq_zero_iff.1 e⟩
  · exact .inr ⟨g, cap, rfl, h3, h4⟩
/-- behind a step -/
def SpPost (w : World) (ρ : Nat → Nat) (o : Over) (r : Bool) (A : Wst) (e : Ending) (w' : World) : Prop :=
  e = .returned (.bool r) ∧ ∃ ρ' vl vs vp g cg S, WkAt w' ρ' o vl vs vp g cg S A ∧ Gr w ρ w' ρ' ∧ OkW o.r.2 { A with stk := [] }
def StRel (w : World) (ρ : Nat → Nat) (o : Over) (vs : Value) (S : List (Nat × Nat)) (b pl : Nat) (A : Wst) (x : Value) (wr : World) : Prop :=
  ∃ (i : Nat) (ρ' : Nat → Nat) (vl vp : Value) (g cg : Nat) (t : Wst), i ≤ S.length ∧ x = .int .i64 (i : Int) ∧ WkAt wr ρ' o vl vs vp g cg S t ∧ Gr w ρ wr ρ' ∧ OkW o.r.2 { t with stk := [] } ∧ t.pl = pl ∧ stL o b (S.drop i) t = A

set_option maxRecDepth 100000 in
set_option maxHeartbeats 16000000 in
theorem stepLoop (w : World) (ρ : Nat → Nat) (o : Over) (vl vs vp : Value) (g cg : Nat) (S : List (Nat × Nat)) (t : Wst) (h : WkAt w ρ o vl vs vp g cg S t) (hok : OkW o.r.2 { t with stk := [] }) : True := trivial

set_option maxRecDepth 100000 in
set_option maxHeartbeats 16000000 in
theorem step_any (w : World) (ρ : Nat → Nat) (o : Over) (vl vs vp : Value) (g cg : Nat) (S : List (Nat × Nat)) (t : Wst) (h : WkAt w ρ o vl vs vp g cg S t) (hok : OkW o.r.2 { t with stk := [] }) (hS : ∀ x ∈ t.L, x.1 < o.r.2.length) (hP : okP o.r.2) (hPl : o.r.2.length ≤ 1000000) (hpl : t.pl ≤ o.s.size) (hs : o.s.size ≤ 140737488355327) (a pl' : Nat) (hat : atS o t = some (a, pl')) (ha : a < o.s.size) :
    Calls Try.prog 41 #[.pointer (some ⟨o.q, 0, none⟩)] w (SpPost w ρ o true (stepS o (o.s[a]'ha).toNat pl' t)) := by
  obtain ⟨A, hA⟩ : ∃ A, stepS o (o.s[a]'ha).toNat pl' t = A := ⟨_, rfl⟩
  rw [hA]
  obtain ⟨tp, L, stk, seen, en⟩ := t
  have hpl : tp ≤ o.s.size := hpl
  have b2 : w.cell? ⟨o.q, 2, none⟩ = some (.int .i64 (tp : Int)) := h.c2
  have b1 := h.c1
  have b0 := h.c0
  have d2 := h.pg.c2
  have hpi : (tp : Int) ≤ 140737488355327 := by omega
  have hp0 : (0 : Int) ≤ (tp : Int) := Int.natCast_nonneg _
  have hwp : IntKind.i64.wrap ((tp : Int) + 1) = (tp : Int) + 1 := IntWalk.i64_in _ (by omega)
  have hwm : IntKind.i64.wrap ((tp : Int) - 1) = (tp : Int) - 1 := IntWalk.i64_in _ (by omega)
  have H := Hid_mk h
  have HOk := Hid_mk hok
  have HS := Hid_mk hS
  have HP := Hid_mk hP
  have HPl := Hid_mk hPl
  have HA := Hid_mk hA
  have HAt := Hid_mk hat
  have HPp := Hid_mk hpl
  clear h hok hS hP hPl hA hat hpl
  go_enter Try.func41, Try.ntmps41
  go_upto_region 1 with fail
  go_quiet (fail)
  go_upto_region 2 with fail
  cases hbk : o.bk with
  | false =>
    rw [hbk] at d2
    have hc : tp < o.s.size ∧ a = tp ∧ pl' = tp + 1 := by
      have h1 := HAt.out
      have h2 := HPp.out
      unfold atS at h1
      rw [hbk, if_neg (by decide)] at h1
      by_cases h3 : tp = o.s.size
      · rw [if_pos h3] at h1; cases h1
      · rw [if_neg h3] at h1
        injection h1 with h1
        injection h1 with h1 h4
        exact ⟨by omega, h1.symm, h4.symm⟩
    obtain ⟨hlt, rfl, rfl⟩ := hc
    have hlt' : (a : Int) < (o.s.size : Int) := by omega
    have hne : ((a : Int) == (o.s.size : Int)) = false := by rw [beq_eq_false_iff_ne]; omega
    clear hbk
    go_upto_region 6 with fail
    clear hne hlt' b0 b1 b2 d2 hwp hwm
    refine wp_name (fun V => Kp No w V) (Kp.drewN _ (Kp.refl No _)) ?_
    rintro W0 hk0
    have HK0 := Hid_mk hk0
    have h0 := H.out.no hk0
    have HW0 := Hid_mk h0
    have b1 : W0.cell? ⟨o.q, 1, none⟩ = some (.string o.s) := h0.c1
    have b2 : W0.cell? ⟨o.q, 2, none⟩ = some (.int .i64 (a : Int)) := h0.c2
    have b7 : W0.cell? ⟨o.q, 7, none⟩ = some (.int .i64 en) := h0.c7
    have bw := h0.warm
    have hai : (a : Int) < (o.s.size : Int) := by omega
    have ha0 : (0 : Int) ≤ (a : Int) := Int.natCast_nonneg _
    clear hk0 h0
    go_upto_region 8 with fail
    refine wp_name (fun V => WkAt V ρ o vl vs vp g cg S ⟨a + 1, L, stk, seen, -1⟩ ∧ Gr w ρ V ρ) ⟨(HW0.out.set2 (a + 1)).set7 (-1), (Gr.of HK0.out).trans ((Gr.cell (by rw [HW0.out.qr]; decide)).trans (Gr.cell (by rw [HW0.out.qr]; decide)))⟩ ?_
    rintro W8 ⟨hw8, hgr8⟩
    clear b1 b2 b7 bw
    obtain ⟨av, cv, hvl, hcv1, hcv2⟩ : ∃ av cv, vl = .slice av L.length cv ∧ L.length ≤ cv ∧ cv ≤ maxLen := by
      rcases th_any hw8.rl with ⟨e1, e2⟩ | ⟨g9, c9, e1, h1, h2⟩
      · have e2 : L = [] := e2
        exact ⟨none, 0, by rw [e1, e2]; rfl, by rw [e2]; exact Nat.le_refl _, Nat.zero_le _⟩
      · exact ⟨_, c9, e1, h1, h2⟩
    obtain ⟨vs0, hvs0, hr0, ho0⟩ : ∃ vs0, (vs = .slice none 0 0 ∧ vs0 = .slice none 0 0 ∨ ∃ gv n c, vs = .slice (some ⟨gv, 0, none⟩) n c ∧ n ≤ c ∧ c ≤ maxLen ∧ vs0 = .slice (some ⟨gv, 0, none⟩) 0 c) ∧ TRw W8 vs0 [] ∧ ∀ x, vs0.ownBlock = some x → vs.ownBlock = some x := by
      have hr := hw8.rs
      rcases hw8.rs.2 with ⟨e1, e2⟩ | ⟨gv, cap, cur, e1, h1, h2, h3, h4, h5, h6⟩
      · exact ⟨_, .inl ⟨e1, rfl⟩, World.ownsRow_nil _ _ _ _, fun x e => by cases e⟩
      · rw [e1] at hr
        refine ⟨_, .inr ⟨gv, _, cap, e1, h3, h4, rfl⟩, ?_, fun x e => by rw [e1]; exact e⟩
        have := own_take hr 0 (Nat.zero_le _)
        simpa [TRw] using this
    subst hvl
    have hsw := fun V (hV : Kp No W8 V) => (⟨((hw8.no hV).swap vs0 (owns_kept hr0 hV fun _ _ => id) ho0).1, (Gr.of hV).trans ((hw8.no hV).swap vs0 (owns_kept hr0 hV fun _ _ => id) ho0).2⟩ : _ ∧ _)
    have HSw := Hid_mk hsw
    have HW8 := Hid_mk hw8
    have HGr8 := Hid_mk hgr8
    have b3 := hw8.c3
    have b4 := hw8.c4
    have bw := hw8.warm
    clear hsw hw8 hgr8 hr0 ho0
    unfold maxLen at hcv2
    rcases hvs0 with ⟨rfl, rfl⟩ | ⟨gv, nv, c9, rfl, hv1, hv2, rfl⟩
    · go_region
      go_upto_region 9 with fail
      refine wp_name (fun V => WkAt V (swapR ρ) o (.slice none 0 0) (.slice av L.length cv) vp g cg L ⟨a + 1, [], stk, seen, -1⟩ ∧ Gr W8 ρ V (swapR ρ)) (by first | exact HSw.out _ ((Kp.refl No W8).drew) | (have h9 := HSw.out _ (Kp.refl No W8); exact ⟨h9.1.no ((Kp.refl No _).drew), h9.2.trans (Gr.of ((Kp.refl No _).drew))⟩)) ?_
      rintro W9 ⟨hw9, hgr9⟩
      clear b3 b4 bw
      obtain ⟨n, hn⟩ : ∃ n, L.length = n := ⟨_, rfl⟩
      obtain ⟨b, hb⟩ : ∃ b, (o.s[a]'ha).toNat = b := ⟨_, rfl⟩
      have hb256 : b < 256 := by rw [← hb]; exact UInt8.toNat_lt _
      have hstart : StRel w ρ o (.slice av L.length cv) L b (a + 1) A (.int .i64 0) W9 := by
        refine ⟨0, swapR ρ, _, vp, g, cg, ⟨a + 1, [], stk, seen, -1⟩, Nat.zero_le _, rfl, hw9, HGr8.out.trans hgr9, ⟨HOk.out.len, fun x hx => (by cases hx), ?_, ?_, fun x hx => (by cases hx)⟩, rfl, ?_⟩
        · have := un_le (a + 1) seen
          have h2 := HOk.out.len
          simp only at h2 ⊢
          simp
          omega
        · have := un_le (a + 1) seen
          have h2 := HOk.out.len
          simp only at h2 ⊢
          simp
          omega
        · rw [← HA.out, ← hb, List.drop_zero]
          rfl
      have hLen : n ≤ 1000000 := by
        have h1 := HOk.out.big
        have h2 := HPl.out
        simp only at h1
        omega
      have hLs := HS.out
      have HLe := Hid_mk (show a + 1 ≤ 140737488355328 by omega)
      have HLs := Hid_mk (show ∀ x ∈ L, x.1 < o.r.2.length from hLs)
      have HStart := Hid_mk hstart
      have HNn := Hid_mk hn
      have b4 := hw9.c4
      rw [hn] at b4 hcv1
      have hni : (n : Int) ≤ 1000000 := by omega
      have HB256 := Hid_mk hb256
      have HBe := Hid_mk hb
      rw [hb]
      clear hw9 hgr9 hstart hLs hb256 hn hb HSw HW8 HGr8 HS
      go_wp2_with fail
      go_loopw [79] (fun x wr => StRel w ρ o (.slice av L.length cv) L b (a + 1) A x wr) (fun x _ => n - (intOf x).toNat)
      case atStart => exact HStart.out
      case round =>
        obtain ⟨i, ρ', vl', vp', g', cg', t', hi, rfl, hw, hgr, hok, hpe, hgo⟩ := hrel
        have HW := Hid_mk hw
        have HGr := Hid_mk hgr
        have HOk3 := Hid_mk hok
        have HPe := Hid_mk hpe
        have HGo := Hid_mk hgo
        have HI := Hid_mk hi
        have hi0 : (0 : Int) ≤ (i : Int) := Int.natCast_nonneg _
        clear hw hgr hok hpe hgo
        by_cases hlt : i < n
        · have hltL : i < L.length := by rw [HNn.out]; exact hlt
          have hlti : (i : Int) < (n : Int) := by omega
          obtain ⟨x, hx⟩ : ∃ x, L[i] = x := ⟨_, rfl⟩
          have hxP : x.1 < o.r.2.length := HLs.out x (by rw [← hx]; exact List.getElem_mem hltL)
          obtain ⟨gs, hgs⟩ : ∃ gs, av = some ⟨gs, 0, none⟩ := by
            obtain ⟨g9, c9, e9, -, -⟩ := own_form HW.out.rs (by omega)
            injection e9 with e9
            exact ⟨g9, e9⟩
          subst hgs
          have hc := fun j u (hj : j < 2) (e : (thC x)[j]? = some u) => own_cell HW.out.rs (g := gs) rfl (i * 2 + j) ((th_get L i j hltL hj).trans (by rw [hx]; exact e))
          have e0 := hc 0 _ (by decide) rfl
          have e1 := hc 1 _ (by decide) rfl
          rw [Nat.add_zero] at e0
          obtain ⟨f, hf⟩ : ∃ f, (o.r.2.getD x.1 p0).f = f := ⟨_, rfl⟩
          obtain ⟨nx, hnx⟩ : ∃ nx, (o.r.2.getD x.1 p0).next = nx := ⟨_, rfl⟩
          have HFe := Hid_mk hf
          have HNxe := Hid_mk hnx
          clear hf hnx
          have HX := Hid_mk (show L.drop i = x :: L.drop (i + 1) by rw [← hx]; exact List.drop_eq_getElem_cons hltL)
          have HXP := Hid_mk hxP
          have hwi : IntKind.i64.wrap ((i : Int) + 1) = (i : Int) + 1 := IntWalk.i64_in _ (by omega)
          clear hx hxP hc hltL
          go_upto_region 12 with fail
          obtain ⟨th, hth⟩ : ∃ th, wr.heap.size = th := ⟨_, rfl⟩
          rw [hth]
          refine wp_name (fun V => Kp No wr V ∧ V.cell? ⟨th, 0, none⟩ = some (.int .i64 (x.1 : Int)) ∧ V.cell? ⟨th, 1, none⟩ = some (.int .i64 (x.2 : Int))) ⟨(Kp.refl No wr).alloc _, by rw [← hth]; simp, by rw [← hth]; simp⟩ ?_
          rintro W10 ⟨hk10, f0, f1⟩
          have hw10 := HW.out.no hk10
          have b0 := hw10.c0
          have d0 := hw10.pg.c0
          obtain ⟨hc1, hc2, -, -⟩ := hw10.pg.part x.1 HXP.out
          unfold maxLen at hc2
          have hxi : (x.1 : Int) < (o.r.2.length : Int) := by have := HXP.out; omega
          have hx0 : (0 : Int) ≤ (x.1 : Int) := Int.natCast_nonneg _
          have HK10 := Hid_mk hk10
          have HTh := Hid_mk hth
          clear hk10 hw10 e0 e1 hth
          go_quiet (fail)
          clear b0 d0 hc1 hc2 hxi hx0 f0
          go_upto_region 13 with fail
          refine wp_name (fun V => Kp No wr V ∧ V.cell? ⟨th, 1, none⟩ = some (.int .i64 (x.2 : Int))) ⟨HK10.out.trans' (Kp.drewN _ (Kp.refl No _)), (Kp.drewN _ (Kp.refl No W10)).cell' f1 id⟩ ?_
          clear f1
          rintro W11 ⟨hk11, f1⟩
          have hw11 := HW.out.no hk11
          obtain ⟨hc1, hc2, -, p1, p2, p3, p4, p5, -⟩ := hw11.pg.part x.1 HXP.out
          rw [HFe.out] at p1 p2 p3 p4
          rw [HNxe.out] at p5
          have hhas := has_any W11 f b HB256.out
          unfold sv at hhas
          have HHas := Hid_mk hhas
          have HK11 := Hid_mk hk11
          have HP5 := Hid_mk p5
          have HF1 := Hid_mk f1
          clear hk11 hw11 hc1 hc2 hhas p5 f1
          go_wp2_with fail
          with_reducible refine HHas.out.mono ?_
          rintro e W12 ⟨rfl, hk12⟩
          have p5 := hk12.cell' HP5.out id
          have f1 := hk12.cell' HF1.out id
          have HK12 := Hid_mk (HK11.out.trans' hk12)
          clear hk12 p1 p2 p3 p4
          cases hfb : f b with
          | false =>
            have HG2 : Hid (stL o b (L.drop (i + 1)) t' = A) := Hid_mk (by
              have h := HGo.out
              rw [HX.out, stL, HFe.out, hfb, if_neg (by decide)] at h
              exact h)
            clear hfb p5 f1
            go_wp2
            go_roundw
            case rel => exact ⟨i + 1, ρ', vl', vp', g', cg', t', by have := HNn.out; omega, by push_cast; rfl, HW.out.no HK12.out, HGr.out.trans (Gr.of HK12.out), HOk3.out, HPe.out, HG2.out⟩
            case measure => simp only [intOf]; omega
          | true =>
            have HG2 : Hid (stL o b (L.drop (i + 1)) (rchS o.r.2 o.s.size x.2 (fuelS o) none { t' with stk := [nx] }) = A) := Hid_mk (by
              have h := HGo.out
              rw [HX.out, stL, HFe.out, hfb, if_pos rfl, HNxe.out] at h
              exact h)
            have hcr := reach_any W12.drew ρ' o vl' _ vp' g' cg' L t' nx x.2 (HW.out.no HK12.out.drew) HOk3.out (by rw [← HNxe.out]; exact (HP.out.get HXP.out).1) HP.out HPl.out (by rw [HPe.out]; have := HLe.out; omega) (fuelS o) (Nat.le_refl _)
            have HCr := Hid_mk hcr
            clear hfb hcr
            go_upto_region 14 with fail
            go_still_tail 7, (by kernel_rfl)
            clear p5 f1
            go_wp2_with fail
            with_reducible refine HCr.out.mono ?_
            rintro e W13 ⟨rfl, ρ3, vl3, vp3, g3, cg3, hw3, hgr3, hok3⟩
            have HW3 := Hid_mk hw3
            have HGr3 := Hid_mk hgr3
            have HOk4 := Hid_mk hok3
            clear hw3 hgr3 hok3
            go_wp2
            go_roundw
            case rel => exact ⟨i + 1, ρ3, vl3, vp3, g3, cg3, _, by have := HNn.out; omega, by push_cast; rfl, HW3.out, HGr.out.trans ((Gr.of HK12.out.drew).trans HGr3.out), ⟨HOk4.out.len, fun y hy => (by cases hy), HOk4.out.big, by have := un_le (rchS o.r.2 o.s.size x.2 (fuelS o) none { t' with stk := [nx] }).pl (rchS o.r.2 o.s.size x.2 (fuelS o) none { t' with stk := [nx] }).seen; have h2 := HOk4.out.len; simp only [List.length_nil]; omega, HOk4.out.lt⟩, (rch_pl ..).trans HPe.out, HG2.out⟩
            case measure => simp only [intOf]; omega
        · obtain rfl : i = n := by have := HI.out; have := HNn.out; omega
          have HG2 : Hid (t' = A) := Hid_mk (by
            have h := HGo.out
            rw [List.drop_eq_nil_of_le (by rw [HNn.out]; exact Nat.le_refl _), stL] at h
            exact h)
          have hge : ¬ (i : Int) < (i : Int) := by omega
          clear hlt
          go_wp2
          go_ret
          exact ⟨rfl, ρ', vl', _, vp', g', cg', L, by rw [← HG2.out]; exact HW.out, HGr.out, by rw [← HG2.out]; exact HOk3.out⟩
    · unfold maxLen at hv2
      go_region
      go_upto_region 9 with fail
      refine wp_name (fun V => WkAt V (swapR ρ) o (.slice (some ⟨gv, 0, none⟩) 0 c9) (.slice av L.length cv) vp g cg L ⟨a + 1, [], stk, seen, -1⟩ ∧ Gr W8 ρ V (swapR ρ)) (by first | exact HSw.out _ ((Kp.refl No W8).drew) | (have h9 := HSw.out _ (Kp.refl No W8); exact ⟨h9.1.no ((Kp.refl No _).drew), h9.2.trans (Gr.of ((Kp.refl No _).drew))⟩)) ?_
      rintro W9 ⟨hw9, hgr9⟩
      clear b3 b4 bw
      obtain ⟨n, hn⟩ : ∃ n, L.length = n := ⟨_, rfl⟩
      obtain ⟨b, hb⟩ : ∃ b, (o.s[a]'ha).toNat = b := ⟨_, rfl⟩
      have hb256 : b < 256 := by rw [← hb]; exact UInt8.toNat_lt _
      have hstart : StRel w ρ o (.slice av L.length cv) L b (a + 1) A (.int .i64 0) W9 := by
        refine ⟨0, swapR ρ, _, vp, g, cg, ⟨a + 1, [], stk, seen, -1⟩, Nat.zero_le _, rfl, hw9, HGr8.out.trans hgr9, ⟨HOk.out.len, fun x hx => (by cases hx), ?_, ?_, fun x hx => (by cases hx)⟩, rfl, ?_⟩
        · have := un_le (a + 1) seen
          have h2 := HOk.out.len
          simp only at h2 ⊢
          simp
          omega
        · have := un_le (a + 1) seen
          have h2 := HOk.out.len
          simp only at h2 ⊢
          simp
          omega
        · rw [← HA.out, ← hb, List.drop_zero]
          rfl
      have hLen : n ≤ 1000000 := by
        have h1 := HOk.out.big
        have h2 := HPl.out
        simp only at h1
        omega
      have hLs := HS.out
      have HLe := Hid_mk (show a + 1 ≤ 140737488355328 by omega)
      have HLs := Hid_mk (show ∀ x ∈ L, x.1 < o.r.2.length from hLs)
      have HStart := Hid_mk hstart
      have HNn := Hid_mk hn
      have b4 := hw9.c4
      rw [hn] at b4 hcv1
      have hni : (n : Int) ≤ 1000000 := by omega
      have HB256 := Hid_mk hb256
      have HBe := Hid_mk hb
      rw [hb]
      clear hw9 hgr9 hstart hLs hb256 hn hb HSw HW8 HGr8 HS
      go_wp2_with fail
      go_loopw [79] (fun x wr => StRel w ρ o (.slice av L.length cv) L b (a + 1) A x wr) (fun x _ => n - (intOf x).toNat)
      case atStart => exact HStart.out
      case round =>
        obtain ⟨i, ρ', vl', vp', g', cg', t', hi, rfl, hw, hgr, hok, hpe, hgo⟩ := hrel
        have HW := Hid_mk hw
        have HGr := Hid_mk hgr
        have HOk3 := Hid_mk hok
        have HPe := Hid_mk hpe
        have HGo := Hid_mk hgo
        have HI := Hid_mk hi
        have hi0 : (0 : Int) ≤ (i : Int) := Int.natCast_nonneg _
        clear hw hgr hok hpe hgo
        by_cases hlt : i < n
        · have hltL : i < L.length := by rw [HNn.out]; exact hlt
          have hlti : (i : Int) < (n : Int) := by omega
          obtain ⟨x, hx⟩ : ∃ x, L[i] = x := ⟨_, rfl⟩
          have hxP : x.1 < o.r.2.length := HLs.out x (by rw [← hx]; exact List.getElem_mem hltL)
          obtain ⟨gs, hgs⟩ : ∃ gs, av = some ⟨gs, 0, none⟩ := by
            obtain ⟨g9, c9, e9, -, -⟩ := own_form HW.out.rs (by omega)
            injection e9 with e9
            exact ⟨g9, e9⟩
          subst hgs
          have hc := fun j u (hj : j < 2) (e : (thC x)[j]? = some u) => own_cell HW.out.rs (g := gs) rfl (i * 2 + j) ((th_get L i j hltL hj).trans (by rw [hx]; exact e))
          have e0 := hc 0 _ (by decide) rfl
          have e1 := hc 1 _ (by decide) rfl
          rw [Nat.add_zero] at e0
          obtain ⟨f, hf⟩ : ∃ f, (o.r.2.getD x.1 p0).f = f := ⟨_, rfl⟩
          obtain ⟨nx, hnx⟩ : ∃ nx, (o.r.2.getD x.1 p0).next = nx := ⟨_, rfl⟩
          have HFe := Hid_mk hf
          have HNxe := Hid_mk hnx
          clear hf hnx
          have HX := Hid_mk (show L.drop i = x :: L.drop (i + 1) by rw [← hx]; exact List.drop_eq_getElem_cons hltL)
          have HXP := Hid_mk hxP
          have hwi : IntKind.i64.wrap ((i : Int) + 1) = (i : Int) + 1 := IntWalk.i64_in _ (by omega)
          clear hx hxP hc hltL
          go_upto_region 12 with fail
          obtain ⟨th, hth⟩ : ∃ th, wr.heap.size = th := ⟨_, rfl⟩
          rw [hth]
          refine wp_name (fun V => Kp No wr V ∧ V.cell? ⟨th, 0, none⟩ = some (.int .i64 (x.1 : Int)) ∧ V.cell? ⟨th, 1, none⟩ = some (.int .i64 (x.2 : Int))) ⟨(Kp.refl No wr).alloc _, by rw [← hth]; simp, by rw [← hth]; simp⟩ ?_
          rintro W10 ⟨hk10, f0, f1⟩
          have hw10 := HW.out.no hk10
          have b0 := hw10.c0
          have d0 := hw10.pg.c0
          obtain ⟨hc1, hc2, -, -⟩ := hw10.pg.part x.1 HXP.out
          unfold maxLen at hc2
          have hxi : (x.1 : Int) < (o.r.2.length : Int) := by have := HXP.out; omega
          have hx0 : (0 : Int) ≤ (x.1 : Int) := Int.natCast_nonneg _
          have HK10 := Hid_mk hk10
          have HTh := Hid_mk hth
          clear hk10 hw10 e0 e1 hth
          go_quiet (fail)
          clear b0 d0 hc1 hc2 hxi hx0 f0
          go_upto_region 13 with fail
          refine wp_name (fun V => Kp No wr V ∧ V.cell? ⟨th, 1, none⟩ = some (.int .i64 (x.2 : Int))) ⟨HK10.out.trans' (Kp.drewN _ (Kp.refl No _)), (Kp.drewN _ (Kp.refl No W10)).cell' f1 id⟩ ?_
          clear f1
          rintro W11 ⟨hk11, f1⟩
          have hw11 := HW.out.no hk11
          obtain ⟨hc1, hc2, -, p1, p2, p3, p4, p5, -⟩ := hw11.pg.part x.1 HXP.out
          rw [HFe.out] at p1 p2 p3 p4
          rw [HNxe.out] at p5
          have hhas := has_any W11 f b HB256.out
          unfold sv at hhas
          have HHas := Hid_mk hhas
          have HK11 := Hid_mk hk11
          have HP5 := Hid_mk p5
          have HF1 := Hid_mk f1
          clear hk11 hw11 hc1 hc2 hhas p5 f1
          go_wp2_with fail
          with_reducible refine HHas.out.mono ?_
          rintro e W12 ⟨rfl, hk12⟩
          have p5 := hk12.cell' HP5.out id
          have f1 := hk12.cell' HF1.out id
          have HK12 := Hid_mk (HK11.out.trans' hk12)
          clear hk12 p1 p2 p3 p4
          cases hfb : f b with
          | false =>
            have HG2 : Hid (stL o b (L.drop (i + 1)) t' = A) := Hid_mk (by
              have h := HGo.out
              rw [HX.out, stL, HFe.out, hfb, if_neg (by decide)] at h
              exact h)
            clear hfb p5 f1
            go_wp2
            go_roundw
            case rel => exact ⟨i + 1, ρ', vl', vp', g', cg', t', by have := HNn.out; omega, by push_cast; rfl, HW.out.no HK12.out, HGr.out.trans (Gr.of HK12.out), HOk3.out, HPe.out, HG2.out⟩
            case measure => simp only [intOf]; omega
          | true =>
            have HG2 : Hid (stL o b (L.drop (i + 1)) (rchS o.r.2 o.s.size x.2 (fuelS o) none { t' with stk := [nx] }) = A) := Hid_mk (by
              have h := HGo.out
              rw [HX.out, stL, HFe.out, hfb, if_pos rfl, HNxe.out] at h
              exact h)
            have hcr := reach_any W12.drew ρ' o vl' _ vp' g' cg' L t' nx x.2 (HW.out.no HK12.out.drew) HOk3.out (by rw [← HNxe.out]; exact (HP.out.get HXP.out).1) HP.out HPl.out (by rw [HPe.out]; have := HLe.out; omega) (fuelS o) (Nat.le_refl _)
            have HCr := Hid_mk hcr
            clear hfb hcr
            go_upto_region 14 with fail
            go_still_tail 7, (by kernel_rfl)
            clear p5 f1
            go_wp2_with fail
            with_reducible refine HCr.out.mono ?_
            rintro e W13 ⟨rfl, ρ3, vl3, vp3, g3, cg3, hw3, hgr3, hok3⟩
            have HW3 := Hid_mk hw3
            have HGr3 := Hid_mk hgr3
            have HOk4 := Hid_mk hok3
            clear hw3 hgr3 hok3
            go_wp2
            go_roundw
            case rel => exact ⟨i + 1, ρ3, vl3, vp3, g3, cg3, _, by have := HNn.out; omega, by push_cast; rfl, HW3.out, HGr.out.trans ((Gr.of HK12.out.drew).trans HGr3.out), ⟨HOk4.out.len, fun y hy => (by cases hy), HOk4.out.big, by have := un_le (rchS o.r.2 o.s.size x.2 (fuelS o) none { t' with stk := [nx] }).pl (rchS o.r.2 o.s.size x.2 (fuelS o) none { t' with stk := [nx] }).seen; have h2 := HOk4.out.len; simp only [List.length_nil]; omega, HOk4.out.lt⟩, (rch_pl ..).trans HPe.out, HG2.out⟩
            case measure => simp only [intOf]; omega
        · obtain rfl : i = n := by have := HI.out; have := HNn.out; omega
          have HG2 : Hid (t' = A) := Hid_mk (by
            have h := HGo.out
            rw [List.drop_eq_nil_of_le (by rw [HNn.out]; exact Nat.le_refl _), stL] at h
            exact h)
          have hge : ¬ (i : Int) < (i : Int) := by omega
          clear hlt
          go_wp2
          go_ret
          exact ⟨rfl, ρ', vl', _, vp', g', cg', L, by rw [← HG2.out]; exact HW.out, HGr.out, by rw [← HG2.out]; exact HOk3.out⟩
  | true =>
    rw [hbk] at d2
    have hc : tp = a + 1 ∧ pl' = a := by
      have h1 := HAt.out
      have h2 := HPp.out
      unfold atS at h1
      rw [hbk, if_pos rfl] at h1
      by_cases h3 : tp = 0
      · rw [if_pos h3] at h1; cases h1
      · rw [if_neg h3] at h1
        injection h1 with h1
        injection h1 with h1 h4
        have h1 : tp - 1 = a := h1
        have h4 : tp - 1 = pl' := h4
        exact ⟨by omega, by omega⟩
    obtain ⟨rfl, rfl⟩ := hc
    have hlt' : (pl' : Int) < (o.s.size : Int) := by omega
    have hne : ((pl' : Int) == (o.s.size : Int)) = false := by rw [beq_eq_false_iff_ne]; omega
    have hwm1 : IntKind.i64.wrap (((pl' + 1 : Nat) : Int) - 1) = (pl' : Int) := by rw [IntWalk.i64_in _ (by omega)]; omega
    have hwm2 : IntKind.i64.wrap ((pl' : Int) + 1 - 1) = (pl' : Int) := by rw [IntWalk.i64_in _ (by omega)]; omega
    have hl0 : ¬ (pl' : Int) < 0 := by omega
    clear hbk hwp hwm
    go_upto_region 3 with fail
    go_quiet (fail)
    go_upto_region 6 with fail
    clear hne hlt' b0 b1 b2 d2 hwm1 hwm2
    refine wp_name (fun V => Kp No w V) (by first | exact Kp.drewN _ (Kp.refl No _) | exact Kp.drewN _ (Kp.drewN _ (Kp.refl No _))) ?_
    rintro W0 hk0
    have HK0 := Hid_mk hk0
    have h0 := H.out.no hk0
    have HW0 := Hid_mk h0
    have b1 : W0.cell? ⟨o.q, 1, none⟩ = some (.string o.s) := h0.c1
    have b2 : W0.cell? ⟨o.q, 2, none⟩ = some (.int .i64 ((pl' + 1 : Nat) : Int)) := h0.c2
    have b7 : W0.cell? ⟨o.q, 7, none⟩ = some (.int .i64 en) := h0.c7
    have bw := h0.warm
    have hai : (pl' : Int) < (o.s.size : Int) := by omega
    have ha0 : (0 : Int) ≤ (pl' : Int) := Int.natCast_nonneg _
    clear hk0 h0
    go_upto_region 8 with fail
    refine wp_name (fun V => WkAt V ρ o vl vs vp g cg S ⟨pl', L, stk, seen, -1⟩ ∧ Gr w ρ V ρ) ⟨(HW0.out.set2 (pl')).set7 (-1), (Gr.of HK0.out).trans ((Gr.cell (by rw [HW0.out.qr]; decide)).trans (Gr.cell (by rw [HW0.out.qr]; decide)))⟩ ?_
    rintro W8 ⟨hw8, hgr8⟩
    clear b1 b2 b7 bw
    obtain ⟨av, cv, hvl, hcv1, hcv2⟩ : ∃ av cv, vl = .slice av L.length cv ∧ L.length ≤ cv ∧ cv ≤ maxLen := by
      rcases th_any hw8.rl with ⟨e1, e2⟩ | ⟨g9, c9, e1, h1, h2⟩
      · have e2 : L = [] := e2
        exact ⟨none, 0, by rw [e1, e2]; rfl, by rw [e2]; exact Nat.le_refl _, Nat.zero_le _⟩
      · exact ⟨_, c9, e1, h1, h2⟩
    obtain ⟨vs0, hvs0, hr0, ho0⟩ : ∃ vs0, (vs = .slice none 0 0 ∧ vs0 = .slice none 0 0 ∨ ∃ gv n c, vs = .slice (some ⟨gv, 0, none⟩) n c ∧ n ≤ c ∧ c ≤ maxLen ∧ vs0 = .slice (some ⟨gv, 0, none⟩) 0 c) ∧ TRw W8 vs0 [] ∧ ∀ x, vs0.ownBlock = some x → vs.ownBlock = some x := by
      have hr := hw8.rs
      rcases hw8.rs.2 with ⟨e1, e2⟩ | ⟨gv, cap, cur, e1, h1, h2, h3, h4, h5, h6⟩
      · exact ⟨_, .inl ⟨e1, rfl⟩, World.ownsRow_nil _ _ _ _, fun x e => by cases e⟩
      · rw [e1] at hr
        refine ⟨_, .inr ⟨gv, _, cap, e1, h3, h4, rfl⟩, ?_, fun x e => by rw [e1]; exact e⟩
        have := own_take hr 0 (Nat.zero_le _)
        simpa [TRw] using this
    subst hvl
    have hsw := fun V (hV : Kp No W8 V) => (⟨((hw8.no hV).swap vs0 (owns_kept hr0 hV fun _ _ => id) ho0).1, (Gr.of hV).trans ((hw8.no hV).swap vs0 (owns_kept hr0 hV fun _ _ => id) ho0).2⟩ : _ ∧ _)
    have HSw := Hid_mk hsw
    have HW8 := Hid_mk hw8
    have HGr8 := Hid_mk hgr8
    have b3 := hw8.c3
    have b4 := hw8.c4
    have bw := hw8.warm
    clear hsw hw8 hgr8 hr0 ho0
    unfold maxLen at hcv2
    rcases hvs0 with ⟨rfl, rfl⟩ | ⟨gv, nv, c9, rfl, hv1, hv2, rfl⟩
    · go_region
      go_upto_region 9 with fail
      refine wp_name (fun V => WkAt V (swapR ρ) o (.slice none 0 0) (.slice av L.length cv) vp g cg L ⟨pl', [], stk, seen, -1⟩ ∧ Gr W8 ρ V (swapR ρ)) (by first | exact HSw.out _ ((Kp.refl No W8).drew) | (have h9 := HSw.out _ (Kp.refl No W8); exact ⟨h9.1.no ((Kp.refl No _).drew), h9.2.trans (Gr.of ((Kp.refl No _).drew))⟩)) ?_
      rintro W9 ⟨hw9, hgr9⟩
      clear b3 b4 bw
      obtain ⟨n, hn⟩ : ∃ n, L.length = n := ⟨_, rfl⟩
      obtain ⟨b, hb⟩ : ∃ b, (o.s[pl']'ha).toNat = b := ⟨_, rfl⟩
      have hb256 : b < 256 := by rw [← hb]; exact UInt8.toNat_lt _
      have hstart : StRel w ρ o (.slice av L.length cv) L b (pl') A (.int .i64 0) W9 := by
        refine ⟨0, swapR ρ, _, vp, g, cg, ⟨pl', [], stk, seen, -1⟩, Nat.zero_le _, rfl, hw9, HGr8.out.trans hgr9, ⟨HOk.out.len, fun x hx => (by cases hx), ?_, ?_, fun x hx => (by cases hx)⟩, rfl, ?_⟩
        · have := un_le (pl') seen
          have h2 := HOk.out.len
          simp only at h2 ⊢
          simp
          omega
        · have := un_le (pl') seen
          have h2 := HOk.out.len
          simp only at h2 ⊢
          simp
          omega
        · rw [← HA.out, ← hb, List.drop_zero]
          rfl
      have hLen : n ≤ 1000000 := by
        have h1 := HOk.out.big
        have h2 := HPl.out
        simp only at h1
        omega
      have hLs := HS.out
      have HLe := Hid_mk (show pl' ≤ 140737488355328 by omega)
      have HLs := Hid_mk (show ∀ x ∈ L, x.1 < o.r.2.length from hLs)
      have HStart := Hid_mk hstart
      have HNn := Hid_mk hn
      have b4 := hw9.c4
      rw [hn] at b4 hcv1
      have hni : (n : Int) ≤ 1000000 := by omega
      have HB256 := Hid_mk hb256
      have HBe := Hid_mk hb
      rw [hb]
      clear hw9 hgr9 hstart hLs hb256 hn hb HSw HW8 HGr8 HS
      go_wp2_with fail
      go_loopw [79] (fun x wr => StRel w ρ o (.slice av L.length cv) L b (pl') A x wr) (fun x _ => n - (intOf x).toNat)
      case atStart => exact HStart.out
      case round =>
        obtain ⟨i, ρ', vl', vp', g', cg', t', hi, rfl, hw, hgr, hok, hpe, hgo⟩ := hrel
        have HW := Hid_mk hw
        have HGr := Hid_mk hgr
        have HOk3 := Hid_mk hok
        have HPe := Hid_mk hpe
        have HGo := Hid_mk hgo
        have HI := Hid_mk hi
        have hi0 : (0 : Int) ≤ (i : Int) := Int.natCast_nonneg _
        clear hw hgr hok hpe hgo
        by_cases hlt : i < n
        · have hltL : i < L.length := by rw [HNn.out]; exact hlt
          have hlti : (i : Int) < (n : Int) := by omega
          obtain ⟨x, hx⟩ : ∃ x, L[i] = x := ⟨_, rfl⟩
          have hxP : x.1 < o.r.2.length := HLs.out x (by rw [← hx]; exact List.getElem_mem hltL)
          obtain ⟨gs, hgs⟩ : ∃ gs, av = some ⟨gs, 0, none⟩ := by
            obtain ⟨g9, c9, e9, -, -⟩ := own_form HW.out.rs (by omega)
            injection e9 with e9
            exact ⟨g9, e9⟩
          subst hgs
          have hc := fun j u (hj : j < 2) (e : (thC x)[j]? = some u) => own_cell HW.out.rs (g := gs) rfl (i * 2 + j) ((th_get L i j hltL hj).trans (by rw [hx]; exact e))
          have e0 := hc 0 _ (by decide) rfl
          have e1 := hc 1 _ (by decide) rfl
          rw [Nat.add_zero] at e0
          obtain ⟨f, hf⟩ : ∃ f, (o.r.2.getD x.1 p0).f = f := ⟨_, rfl⟩
          obtain ⟨nx, hnx⟩ : ∃ nx, (o.r.2.getD x.1 p0).next = nx := ⟨_, rfl⟩
          have HFe := Hid_mk hf
          have HNxe := Hid_mk hnx
          clear hf hnx
          have HX := Hid_mk (show L.drop i = x :: L.drop (i + 1) by rw [← hx]; exact List.drop_eq_getElem_cons hltL)
          have HXP := Hid_mk hxP
          have hwi : IntKind.i64.wrap ((i : Int) + 1) = (i : Int) + 1 := IntWalk.i64_in _ (by omega)
          clear hx hxP hc hltL
          go_upto_region 12 with fail
          obtain ⟨th, hth⟩ : ∃ th, wr.heap.size = th := ⟨_, rfl⟩
          rw [hth]
          refine wp_name (fun V => Kp No wr V ∧ V.cell? ⟨th, 0, none⟩ = some (.int .i64 (x.1 : Int)) ∧ V.cell? ⟨th, 1, none⟩ = some (.int .i64 (x.2 : Int))) ⟨(Kp.refl No wr).alloc _, by rw [← hth]; simp, by rw [← hth]; simp⟩ ?_
          rintro W10 ⟨hk10, f0, f1⟩
          have hw10 := HW.out.no hk10
          have b0 := hw10.c0
          have d0 := hw10.pg.c0
          obtain ⟨hc1, hc2, -, -⟩ := hw10.pg.part x.1 HXP.out
          unfold maxLen at hc2
          have hxi : (x.1 : Int) < (o.r.2.length : Int) := by have := HXP.out; omega
          have hx0 : (0 : Int) ≤ (x.1 : Int) := Int.natCast_nonneg _
          have HK10 := Hid_mk hk10
          have HTh := Hid_mk hth
          clear hk10 hw10 e0 e1 hth
          go_quiet (fail)
          clear b0 d0 hc1 hc2 hxi hx0 f0
          go_upto_region 13 with fail
          refine wp_name (fun V => Kp No wr V ∧ V.cell? ⟨th, 1, none⟩ = some (.int .i64 (x.2 : Int))) ⟨HK10.out.trans' (Kp.drewN _ (Kp.refl No _)), (Kp.drewN _ (Kp.refl No W10)).cell' f1 id⟩ ?_
          clear f1
          rintro W11 ⟨hk11, f1⟩
          have hw11 := HW.out.no hk11
          obtain ⟨hc1, hc2, -, p1, p2, p3, p4, p5, -⟩ := hw11.pg.part x.1 HXP.out
          rw [HFe.out] at p1 p2 p3 p4
          rw [HNxe.out] at p5
          have hhas := has_any W11 f b HB256.out
          unfold sv at hhas
          have HHas := Hid_mk hhas
          have HK11 := Hid_mk hk11
          have HP5 := Hid_mk p5
          have HF1 := Hid_mk f1
          clear hk11 hw11 hc1 hc2 hhas p5 f1
          go_wp2_with fail
          with_reducible refine HHas.out.mono ?_
          rintro e W12 ⟨rfl, hk12⟩
          have p5 := hk12.cell' HP5.out id
          have f1 := hk12.cell' HF1.out id
          have HK12 := Hid_mk (HK11.out.trans' hk12)
          clear hk12 p1 p2 p3 p4
          cases hfb : f b with
          | false =>
            have HG2 : Hid (stL o b (L.drop (i + 1)) t' = A) := Hid_mk (by
              have h := HGo.out
              rw [HX.out, stL, HFe.out, hfb, if_neg (by decide)] at h
              exact h)
            clear hfb p5 f1
            go_wp2
            go_roundw
            case rel => exact ⟨i + 1, ρ', vl', vp', g', cg', t', by have := HNn.out; omega, by push_cast; rfl, HW.out.no HK12.out, HGr.out.trans (Gr.of HK12.out), HOk3.out, HPe.out, HG2.out⟩
            case measure => simp only [intOf]; omega
          | true =>
            have HG2 : Hid (stL o b (L.drop (i + 1)) (rchS o.r.2 o.s.size x.2 (fuelS o) none { t' with stk := [nx] }) = A) := Hid_mk (by
              have h := HGo.out
              rw [HX.out, stL, HFe.out, hfb, if_pos rfl, HNxe.out] at h
              exact h)
            have hcr := reach_any W12.drew ρ' o vl' _ vp' g' cg' L t' nx x.2 (HW.out.no HK12.out.drew) HOk3.out (by rw [← HNxe.out]; exact (HP.out.get HXP.out).1) HP.out HPl.out (by rw [HPe.out]; have := HLe.out; omega) (fuelS o) (Nat.le_refl _)
            have HCr := Hid_mk hcr
            clear hfb hcr
            go_upto_region 14 with fail
            go_still_tail 7, (by kernel_rfl)
            clear p5 f1
            go_wp2_with fail
            with_reducible refine HCr.out.mono ?_
            rintro e W13 ⟨rfl, ρ3, vl3, vp3, g3, cg3, hw3, hgr3, hok3⟩
            have HW3 := Hid_mk hw3
            have HGr3 := Hid_mk hgr3
            have HOk4 := Hid_mk hok3
            clear hw3 hgr3 hok3
            go_wp2
            go_roundw
            case rel => exact ⟨i + 1, ρ3, vl3, vp3, g3, cg3, _, by have := HNn.out; omega, by push_cast; rfl, HW3.out, HGr.out.trans ((Gr.of HK12.out.drew).trans HGr3.out), ⟨HOk4.out.len, fun y hy => (by cases hy), HOk4.out.big, by have := un_le (rchS o.r.2 o.s.size x.2 (fuelS o) none { t' with stk := [nx] }).pl (rchS o.r.2 o.s.size x.2 (fuelS o) none { t' with stk := [nx] }).seen; have h2 := HOk4.out.len; simp only [List.length_nil]; omega, HOk4.out.lt⟩, (rch_pl ..).trans HPe.out, HG2.out⟩
            case measure => simp only [intOf]; omega
        · obtain rfl : i = n := by have := HI.out; have := HNn.out; omega
          have HG2 : Hid (t' = A) := Hid_mk (by
            have h := HGo.out
            rw [List.drop_eq_nil_of_le (by rw [HNn.out]; exact Nat.le_refl _), stL] at h
            exact h)
          have hge : ¬ (i : Int) < (i : Int) := by omega
          clear hlt
          go_wp2
          go_ret
          exact ⟨rfl, ρ', vl', _, vp', g', cg', L, by rw [← HG2.out]; exact HW.out, HGr.out, by rw [← HG2.out]; exact HOk3.out⟩
    · unfold maxLen at hv2
      go_region
      go_upto_region 9 with fail
      refine wp_name (fun V => WkAt V (swapR ρ) o (.slice (some ⟨gv, 0, none⟩) 0 c9) (.slice av L.length cv) vp g cg L ⟨pl', [], stk, seen, -1⟩ ∧ Gr W8 ρ V (swapR ρ)) (by first | exact HSw.out _ ((Kp.refl No W8).drew) | (have h9 := HSw.out _ (Kp.refl No W8); exact ⟨h9.1.no ((Kp.refl No _).drew), h9.2.trans (Gr.of ((Kp.refl No _).drew))⟩)) ?_
      rintro W9 ⟨hw9, hgr9⟩
      clear b3 b4 bw
      obtain ⟨n, hn⟩ : ∃ n, L.length = n := ⟨_, rfl⟩
      obtain ⟨b, hb⟩ : ∃ b, (o.s[pl']'ha).toNat = b := ⟨_, rfl⟩
      have hb256 : b < 256 := by rw [← hb]; exact UInt8.toNat_lt _
      have hstart : StRel w ρ o (.slice av L.length cv) L b (pl') A (.int .i64 0) W9 := by
        refine ⟨0, swapR ρ, _, vp, g, cg, ⟨pl', [], stk, seen, -1⟩, Nat.zero_le _, rfl, hw9, HGr8.out.trans hgr9, ⟨HOk.out.len, fun x hx => (by cases hx), ?_, ?_, fun x hx => (by cases hx)⟩, rfl, ?_⟩
        · have := un_le (pl') seen
          have h2 := HOk.out.len
          simp only at h2 ⊢
          simp
          omega
        · have := un_le (pl') seen
          have h2 := HOk.out.len
          simp only at h2 ⊢
          simp
          omega
        · rw [← HA.out, ← hb, List.drop_zero]
          rfl
      have hLen : n ≤ 1000000 := by
        have h1 := HOk.out.big
        have h2 := HPl.out
        simp only at h1
        omega
      have hLs := HS.out
      have HLe := Hid_mk (show pl' ≤ 140737488355328 by omega)
      have HLs := Hid_mk (show ∀ x ∈ L, x.1 < o.r.2.length from hLs)
      have HStart := Hid_mk hstart
      have HNn := Hid_mk hn
      have b4 := hw9.c4
      rw [hn] at b4 hcv1
      have hni : (n : Int) ≤ 1000000 := by omega
      have HB256 := Hid_mk hb256
      have HBe := Hid_mk hb
      rw [hb]
      clear hw9 hgr9 hstart hLs hb256 hn hb HSw HW8 HGr8 HS
      go_wp2_with fail
      go_loopw [79] (fun x wr => StRel w ρ o (.slice av L.length cv) L b (pl') A x wr) (fun x _ => n - (intOf x).toNat)
      case atStart => exact HStart.out
      case round =>
        obtain ⟨i, ρ', vl', vp', g', cg', t', hi, rfl, hw, hgr, hok, hpe, hgo⟩ := hrel
        have HW := Hid_mk hw
        have HGr := Hid_mk hgr
        have HOk3 := Hid_mk hok
        have HPe := Hid_mk hpe
        have HGo := Hid_mk hgo
        have HI := Hid_mk hi
        have hi0 : (0 : Int) ≤ (i : Int) := Int.natCast_nonneg _
        clear hw hgr hok hpe hgo
        by_cases hlt : i < n
        · have hltL : i < L.length := by rw [HNn.out]; exact hlt
          have hlti : (i : Int) < (n : Int) := by omega
          obtain ⟨x, hx⟩ : ∃ x, L[i] = x := ⟨_, rfl⟩
          have hxP : x.1 < o.r.2.length := HLs.out x (by rw [← hx]; exact List.getElem_mem hltL)
          obtain ⟨gs, hgs⟩ : ∃ gs, av = some ⟨gs, 0, none⟩ := by
            obtain ⟨g9, c9, e9, -, -⟩ := own_form HW.out.rs (by omega)
            injection e9 with e9
            exact ⟨g9, e9⟩
          subst hgs
          have hc := fun j u (hj : j < 2) (e : (thC x)[j]? = some u) => own_cell HW.out.rs (g := gs) rfl (i * 2 + j) ((th_get L i j hltL hj).trans (by rw [hx]; exact e))
          have e0 := hc 0 _ (by decide) rfl
          have e1 := hc 1 _ (by decide) rfl
          rw [Nat.add_zero] at e0
          obtain ⟨f, hf⟩ : ∃ f, (o.r.2.getD x.1 p0).f = f := ⟨_, rfl⟩
          obtain ⟨nx, hnx⟩ : ∃ nx, (o.r.2.getD x.1 p0).next = nx := ⟨_, rfl⟩
          have HFe := Hid_mk hf
          have HNxe := Hid_mk hnx
          clear hf hnx
          have HX := Hid_mk (show L.drop i = x :: L.drop (i + 1) by rw [← hx]; exact List.drop_eq_getElem_cons hltL)
          have HXP := Hid_mk hxP
          have hwi : IntKind.i64.wrap ((i : Int) + 1) = (i : Int) + 1 := IntWalk.i64_in _ (by omega)
          clear hx hxP hc hltL
          go_upto_region 12 with fail
          obtain ⟨th, hth⟩ : ∃ th, wr.heap.size = th := ⟨_, rfl⟩
          rw [hth]
          refine wp_name (fun V => Kp No wr V ∧ V.cell? ⟨th, 0, none⟩ = some (.int .i64 (x.1 : Int)) ∧ V.cell? ⟨th, 1, none⟩ = some (.int .i64 (x.2 : Int))) ⟨(Kp.refl No wr).alloc _, by rw [← hth]; simp, by rw [← hth]; simp⟩ ?_
          rintro W10 ⟨hk10, f0, f1⟩
          have hw10 := HW.out.no hk10
          have b0 := hw10.c0
          have d0 := hw10.pg.c0
          obtain ⟨hc1, hc2, -, -⟩ := hw10.pg.part x.1 HXP.out
          unfold maxLen at hc2
          have hxi : (x.1 : Int) < (o.r.2.length : Int) := by have := HXP.out; omega
          have hx0 : (0 : Int) ≤ (x.1 : Int) := Int.natCast_nonneg _
          have HK10 := Hid_mk hk10
          have HTh := Hid_mk hth
          clear hk10 hw10 e0 e1 hth
          go_quiet (fail)
          clear b0 d0 hc1 hc2 hxi hx0 f0
          go_upto_region 13 with fail
          refine wp_name (fun V => Kp No wr V ∧ V.cell? ⟨th, 1, none⟩ = some (.int .i64 (x.2 : Int))) ⟨HK10.out.trans' (Kp.drewN _ (Kp.refl No _)), (Kp.drewN _ (Kp.refl No W10)).cell' f1 id⟩ ?_
          clear f1
          rintro W11 ⟨hk11, f1⟩
          have hw11 := HW.out.no hk11
          obtain ⟨hc1, hc2, -, p1, p2, p3, p4, p5, -⟩ := hw11.pg.part x.1 HXP.out
          rw [HFe.out] at p1 p2 p3 p4
          rw [HNxe.out] at p5
          have hhas := has_any W11 f b HB256.out
          unfold sv at hhas
          have HHas := Hid_mk hhas
          have HK11 := Hid_mk hk11
          have HP5 := Hid_mk p5
          have HF1 := Hid_mk f1
          clear hk11 hw11 hc1 hc2 hhas p5 f1
          go_wp2_with fail
          with_reducible refine HHas.out.mono ?_
          rintro e W12 ⟨rfl, hk12⟩
          have p5 := hk12.cell' HP5.out id
          have f1 := hk12.cell' HF1.out id
          have HK12 := Hid_mk (HK11.out.trans' hk12)
          clear hk12 p1 p2 p3 p4
          cases hfb : f b with
          | false =>
            have HG2 : Hid (stL o b (L.drop (i + 1)) t' = A) := Hid_mk (by
              have h := HGo.out
              rw [HX.out, stL, HFe.out, hfb, if_neg (by decide)] at h
              exact h)
            clear hfb p5 f1
            go_wp2
            go_roundw
            case rel => exact ⟨i + 1, ρ', vl', vp', g', cg', t', by have := HNn.out; omega, by push_cast; rfl, HW.out.no HK12.out, HGr.out.trans (Gr.of HK12.out), HOk3.out, HPe.out, HG2.out⟩
            case measure => simp only [intOf]; omega
          | true =>
            have HG2 : Hid (stL o b (L.drop (i + 1)) (rchS o.r.2 o.s.size x.2 (fuelS o) none { t' with stk := [nx] }) = A) := Hid_mk (by
              have h := HGo.out
              rw [HX.out, stL, HFe.out, hfb, if_pos rfl, HNxe.out] at h
              exact h)
            have hcr := reach_any W12.drew ρ' o vl' _ vp' g' cg' L t' nx x.2 (HW.out.no HK12.out.drew) HOk3.out (by rw [← HNxe.out]; exact (HP.out.get HXP.out).1) HP.out HPl.out (by rw [HPe.out]; have := HLe.out; omega) (fuelS o) (Nat.le_refl _)
            have HCr := Hid_mk hcr
            clear hfb hcr
            go_upto_region 14 with fail
            go_still_tail 7, (by kernel_rfl)
            clear p5 f1
            go_wp2_with fail
            with_reducible refine HCr.out.mono ?_
            rintro e W13 ⟨rfl, ρ3, vl3, vp3, g3, cg3, hw3, hgr3, hok3⟩
            have HW3 := Hid_mk hw3
            have HGr3 := Hid_mk hgr3
            have HOk4 := Hid_mk hok3
            clear hw3 hgr3 hok3
            go_wp2
            go_roundw
            case rel => exact ⟨i + 1, ρ3, vl3, vp3, g3, cg3, _, by have := HNn.out; omega, by push_cast; rfl, HW3.out, HGr.out.trans ((Gr.of HK12.out.drew).trans HGr3.out), ⟨HOk4.out.len, fun y hy => (by cases hy), HOk4.out.big, by have := un_le (rchS o.r.2 o.s.size x.2 (fuelS o) none { t' with stk := [nx] }).pl (rchS o.r.2 o.s.size x.2 (fuelS o) none { t' with stk := [nx] }).seen; have h2 := HOk4.out.len; simp only [List.length_nil]; omega, HOk4.out.lt⟩, (rch_pl ..).trans HPe.out, HG2.out⟩
            case measure => simp only [intOf]; omega
        · obtain rfl : i = n := by have := HI.out; have := HNn.out; omega
          have HG2 : Hid (t' = A) := Hid_mk (by
            have h := HGo.out
            rw [List.drop_eq_nil_of_le (by rw [HNn.out]; exact Nat.le_refl _), stL] at h
            exact h)
          have hge : ¬ (i : Int) < (i : Int) := by omega
          clear hlt
          go_wp2
          go_ret
          exact ⟨rfl, ρ', vl', _, vp', g', cg', L, by rw [← HG2.out]; exact HW.out, HGr.out, by rw [← HG2.out]; exact HOk3.out⟩

/-- no byte is left -/
theorem step_end (w : World) (ρ : Nat → Nat) (o : Over) (vl vs vp : Value) (g cg : Nat) (S : List (Nat × Nat)) (t : Wst) (h : WkAt w ρ o vl vs vp g cg S t) (hpl : t.pl ≤ o.s.size) (hs : o.s.size ≤ 140737488355327) (hat : atS o t = none) :
    Calls Try.prog 41 #[.pointer (some ⟨o.q, 0, none⟩)] w fun e w' => e = .returned (.bool false) ∧ Kp No w w' := by
  obtain ⟨tp, L, stk, seen, en⟩ := t
  have hpl : tp ≤ o.s.size := hpl
  have b2 : w.cell? ⟨o.q, 2, none⟩ = some (.int .i64 (tp : Int)) := h.c2
  have b1 := h.c1
  have b0 := h.c0
  have d2 := h.pg.c2
  have HPp := Hid_mk hpl
  have HAt := Hid_mk hat
  have hpi : (tp : Int) ≤ 140737488355327 := by omega
  have hp0 : (0 : Int) ≤ (tp : Int) := Int.natCast_nonneg _
  have hwp : IntKind.i64.wrap ((tp : Int) + 1) = (tp : Int) + 1 := IntWalk.i64_in _ (by omega)
  clear h hpl hat
  go_enter Try.func41, Try.ntmps41
  go_upto_region 1 with fail
  go_quiet (fail)
  go_upto_region 2 with fail
  cases hbk : o.bk with
  | false =>
    rw [hbk] at d2
    have hc : tp = o.s.size := by
      have h1 := HAt.out
      unfold atS at h1
      rw [hbk, if_neg (by decide)] at h1
      by_cases h3 : tp = o.s.size
      · exact h3
      · rw [if_neg h3] at h1; cases h1
    have hne : ((tp : Int) == (o.s.size : Int)) = true := by rw [hc]; simp
    clear hbk hc
    go_wp2
    go_ret
    exact ⟨rfl, Kp.drewN _ (Kp.refl No _)⟩
  | true =>
    rw [hbk] at d2
    have hc : tp = 0 := by
      have h1 := HAt.out
      unfold atS at h1
      rw [hbk, if_pos rfl] at h1
      by_cases h3 : tp = 0
      · exact h3
      · rw [if_neg h3] at h1; cases h1
    subst hc
    clear hbk hwp
    have hwm : IntKind.i64.wrap ((0 : Int) - 1) = -1 := rfl
    go_upto_region 3 with fail
    go_quiet (fail)
    go_wp2
    go_ret
    exact ⟨rfl, by first | exact Kp.drewN _ (Kp.refl No _) | exact Kp.drewN _ (Kp.drewN _ (Kp.refl No _))⟩

end Go.Proofs.Ytaneblecgjahbab.nfa
