/- Package nfa: a match's numbers; those that began behind one are dropped. Package nfa: a walk in memory, whichever: what each call makes of it. Package nfa: Is. Package nfa: At. -/
import Derived.Test.YtaneblecgjahbabNfaStep
import Derived.Test.YtaneblecgjahbabFloatM
import Derived.Test.YtaneblecgjahbabNfaOkM
import Derived.Test.YtaneblecgjahbabEreQuoteM

namespace Go.Proofs.Ytaneblecgjahbab.nfa
open Go.RowKit Go.Proofs.Ytaneblecgjahbab.sum Go.Proofs.Ytaneblecgjahbab.kept Go.Proofs.Ytaneblecgjahbab.pop Go.Proofs.Ytaneblecgjahbab.cls Go.Proofs.Ytaneblecgjahbab.tre Go.Proofs.Ytaneblecgjahbab.ere Go.Proofs.Ytaneblecgjahbab.fl Go.Proofs.Ytaneblecgjahbab.mrk
set_option linter.unusedVariables false

/-- the oldest one that ends at the place -/
def matchV (o : Over) (t : Wst) : Value := if o.bk = true then C (t.pl : Int) t.en else C t.en (t.pl : Int)
set_option maxRecDepth 100000 in
set_option maxHeartbeats 4000000 in
theorem match_any (w : World) (ρ : Nat → Nat) (o : Over) (vl vs vp : Value) (g cg : Nat) (S : List (Nat × Nat)) (t : Wst) (h : WkAt w ρ o vl vs vp g cg S t) :
    Calls Try.prog 45 #[.pointer (some ⟨o.q, 0, none⟩)] w fun e w' => e = .returned (matchV o t) ∧ Kp No w w' := by
  have b2 := h.c2
  have b7 := h.c7
  have b0 := h.c0
  have d2 := h.pg.c2
  unfold matchV
  clear h
  cases hbk : o.bk with
  | false =>
    rw [hbk] at d2
    go_enter Try.func45, Try.ntmps45
    go_upto_region 3 with fail
    go_quiet (fail)
    go_wp2
    go_ret
    exact ⟨rfl, Kp.drewN _ (Kp.refl No _)⟩
  | true =>
    rw [hbk] at d2
    go_enter Try.func45, Try.ntmps45
    go_upto_region 2 with fail
    go_quiet (fail)
    go_wp2
    go_ret
    exact ⟨rfl, Kp.drewN _ (Kp.refl No _)⟩

/-- how many did not begin behind it -/
def keepN (en : Int) (L : List (Nat × Nat)) : Nat → Nat
  | 0 => 0
  | n + 1 => if ((L.getD n (0, 0)).2 : Int) > en then keepN en L n else n + 1
theorem keepN_le (en : Int) (L : List (Nat × Nat)) : ∀ n, keepN en L n ≤ n
  | 0 => Nat.le_refl _
  | n + 1 => by
    rw [keepN]
    split
    · exact Nat.le_succ_of_le (keepN_le en L n)
    · exact Nat.le_refl _
/-- dropYounger -/
def dropS (t : Wst) : Wst := { t with L := t.L.take (keepN t.en t.L t.L.length) }
def DyPost (w : World) (ρ : Nat → Nat) (o : Over) (t : Wst) (e : Ending) (w' : World) : Prop :=
  e = .returned (.tuple #[]) ∧ (∃ ρ' vl' vs vp g cg S, WkAt w' ρ' o vl' vs vp g cg S (dropS t) ∧ Gr w ρ w' ρ') ∧ OkW o.r.2 { dropS t with stk := [] }
def DyRel (W : World) (en : Int) (L : List (Nat × Nat)) (A : Nat) (x : Value) (wr : World) : Prop := ∃ n : Nat, n ≤ L.length ∧ x = .int .i64 (n : Int) ∧ keepN en L n = A ∧ Kp No W wr

set_option maxRecDepth 100000 in
set_option maxHeartbeats 8000000 in
theorem drop_any (w : World) (ρ : Nat → Nat) (o : Over) (vl vs vp : Value) (g cg : Nat) (S : List (Nat × Nat)) (t : Wst) (h : WkAt w ρ o vl vs vp g cg S t) (hok : OkW o.r.2 { t with stk := [] }) (hPl : o.r.2.length ≤ 1000000) :
    Calls Try.prog 46 #[.pointer (some ⟨o.q, 0, none⟩)] w (DyPost w ρ o t) := by
  have hok2 : OkW o.r.2 { dropS t with stk := [] } := ⟨hok.len, hok.stk, by
    have h1 := hok.big
    have h2 : (t.L.take (keepN t.en t.L t.L.length)).length ≤ t.L.length := by rw [List.length_take]; omega
    show (t.L.take (keepN t.en t.L t.L.length)).length + unS t.pl t.seen ≤ _
    simp only at h1
    omega, hok.pile, fun x hx => hok.lt x (List.mem_of_mem_take hx)⟩
  have hlen : t.L.length ≤ 1000000 := by have h1 := hok.big; simp only at h1; omega
  obtain ⟨tp, L, stk, seen, en⟩ := t
  obtain ⟨A, hA⟩ : ∃ A, keepN en L L.length = A := ⟨_, rfl⟩
  have hAle : A ≤ L.length := by rw [← hA]; exact keepN_le _ _ _
  obtain ⟨av, cv, hvl, hcv1, hcv2⟩ : ∃ av cv, vl = .slice av L.length cv ∧ L.length ≤ cv ∧ cv ≤ maxLen := by
    rcases th_any h.rl with ⟨e1, e2⟩ | ⟨g9, c9, e1, h1, h2⟩
    · have e2 : L = [] := e2
      exact ⟨none, 0, by rw [e1, e2]; rfl, by rw [e2]; exact Nat.le_refl _, Nat.zero_le _⟩
    · exact ⟨_, c9, e1, h1, h2⟩
  subst hvl
  unfold maxLen at hcv2
  have hav : (av = none ∧ L.length = 0 ∧ cv = 0) ∨ ∃ gv, av = some ⟨gv, 0, none⟩ := by
    rcases th_any h.rl with ⟨e1, e2⟩ | ⟨g9, c9, e1, h1, h2⟩
    · have e2 : L = [] := e2
      injection e1 with e1 _ e3
      exact .inl ⟨e1, by rw [e2]; rfl, e3⟩
    · injection e1 with e1 _ _
      exact .inr ⟨g9, e1⟩
  have b3 := h.c3
  have b7 : w.cell? ⟨o.q, 7, none⟩ = some (.int .i64 en) := h.c7
  have H := Hid_mk h
  have HOk2 := Hid_mk hok2
  have HA := Hid_mk hA
  have HAle := Hid_mk hAle
  obtain ⟨n, hn⟩ : ∃ n, L.length = n := ⟨_, rfl⟩
  have HN := Hid_mk hn
  have hlen : L.length ≤ 1000000 := hlen
  rw [hn] at b3 hcv1 hlen hav
  have bw := h.warm
  have HBw := Hid_mk bw
  have HAv := Hid_mk hav
  clear bw hav
  have hni : (n : Int) ≤ 1000000 := by omega
  have HB3 := Hid_mk b3
  have HB7 := Hid_mk b7
  have hstart : DyRel w en L A (.int .i64 (n : Int)) w := ⟨n, by omega, rfl, by rw [← hn]; exact hA, Kp.refl _ _⟩
  have HStart := Hid_mk hstart
  clear h hok hPl hok2 hA hAle hn hstart
  go_enter Try.func46, Try.ntmps46
  go_wp2_with fail
  clear b3 b7
  go_loopw [2] (fun x wr => DyRel w en L A x wr) (fun x _ => (intOf x).toNat)
  case atStart => exact HStart.out
  case round =>
    obtain ⟨m, hm, rfl, hkn, hkp⟩ := hrel
    have b3 := hkp.cell' HB3.out id
    have b7 := hkp.cell' HB7.out id
    have HKp := Hid_mk hkp
    have hm0 : (0 : Int) ≤ (m : Int) := Int.natCast_nonneg _
    have hmn : m ≤ n := by rw [← HN.out]; exact hm
    have hmi : (m : Int) ≤ (n : Int) := by omega
    clear hm
    by_cases hz : m = 0
    · subst hz
      have hg0 : decide ((0 : Int) > 0) = false := rfl
      have hA0 : A = 0 := by rw [← hkn]; rfl
      subst hA0
      clear hkn hmi hm0
      go_upto_region 1 with fail
      go_quiet (fail)
      clear hg0
      have bw := (H.out.no HKp.out).warm
      rcases HAv.out with ⟨rfl, hn0, rfl⟩ | ⟨gv, rfl⟩
      · obtain rfl : n = 0 := hn0
        have hL : L = [] := List.length_eq_zero_iff.1 HN.out
        have HL := Hid_mk hL
        clear hL
        go_wp2
        go_end0
        have hk7 : Kp No w (wr.drewN nq) := HKp.out.trans' (Kp.drewN nq (Kp.refl No _))
        refine ⟨rfl, ⟨ρ, _, _, _, _, _, _, (H.out.no hk7).set3 (.slice none 0 0) (L.take (keepN en L L.length)) ?_ (fun x e => by cases e), (Gr.of hk7).trans (Gr.cell (by rw [H.out.qr]; decide))⟩, HOk2.out⟩
        rw [HL.out]
        exact World.ownsRow_nil _ _ _ _
      · have hmc : 0 ≤ cv := by omega
        have hmci : (0 : Int) ≤ (cv : Int) := by omega
        have hmni : (0 : Int) ≤ (n : Int) := by omega
        go_wp2
        go_end0
        have hk7 : Kp No w (wr.drewN nq) := HKp.out.trans' (Kp.drewN nq (Kp.refl No _))
        have eA : (L.take (keepN en L L.length)).length = 0 := by rw [List.length_take, HA.out]; have := HN.out; omega
        have hrow : TRw (wr.drewN nq) (.slice (some ⟨gv, 0, none⟩) 0 cv) (L.take (keepN en L L.length)) := by
          have h1 := (H.out.no hk7).rl
          have h2 := own_take h1 0 (by have := HN.out; show 0 ≤ L.length; omega)
          have e2 : (List.flatMap thC L).take (0 * 2) = (L.take (keepN en L L.length)).flatMap thC := by
            have e3 : L = L.take (keepN en L L.length) ++ L.drop (keepN en L L.length) := (List.take_append_drop _ _).symm
            have e4 : List.flatMap thC L = (L.take (keepN en L L.length)).flatMap thC ++ (L.drop (keepN en L L.length)).flatMap thC := by rw [← List.flatMap_append, ← e3]
            rw [e4, List.take_append_of_le_length (by rw [th_len, eA]; omega), List.take_of_length_le (by rw [th_len, eA]; omega)]
          unfold TRw
          rw [eA, ← e2]
          exact h2
        exact ⟨rfl, ⟨ρ, _, _, _, _, _, _, (H.out.no hk7).set3 _ (L.take (keepN en L L.length)) hrow (fun x e => H.out.lr x e), (Gr.of hk7).trans (Gr.cell (by rw [H.out.qr]; decide))⟩, HOk2.out⟩
    · obtain ⟨j, rfl⟩ : ∃ j, m = j + 1 := ⟨m - 1, by omega⟩
      have hjL : j < L.length := by have := HN.out; omega
      obtain ⟨x, hx⟩ : ∃ x, L[j] = x := ⟨_, rfl⟩
      have hxd : L.getD j (0, 0) = x := by rw [List.getD_eq_getElem?_getD, List.getElem?_eq_getElem hjL, ← hx]; rfl
      obtain ⟨gv, hgv⟩ : ∃ gv, av = some ⟨gv, 0, none⟩ := by
        rcases HAv.out with ⟨-, h, -⟩ | h
        · omega
        · exact h
      subst hgv
      have e1 : wr.cell? ⟨gv, j * 2 + 1, none⟩ = some (.int .i64 (x.2 : Int)) := own_cell (H.out.no HKp.out).rl (g := gv) rfl (j * 2 + 1) ((th_get L j 1 hjL (by decide)).trans (by rw [hx]; rfl))
      rw [keepN, hxd] at hkn
      have hwj : IntKind.i64.wrap (((j + 1 : Nat) : Int) - 1) = (j : Int) := by rw [IntWalk.i64_in _ (by omega)]; omega
      have hwj2 : IntKind.i64.wrap ((j : Int) + 1 - 1) = (j : Int) := by rw [IntWalk.i64_in _ (by omega)]; omega
      have hj0 : (0 : Int) ≤ (j : Int) := Int.natCast_nonneg _
      have hjn : (j : Int) < (n : Int) := by omega
      have hg1 : decide (((j + 1 : Nat) : Int) > 0) = true := decide_eq_true (by omega)
      have hg2 : decide ((j : Int) + 1 > 0) = true := decide_eq_true (by omega)
      clear hz hx hxd
      by_cases hgt : (x.2 : Int) > en
      · have hgd : decide ((x.2 : Int) > en) = true := decide_eq_true hgt
        rw [if_pos hgt] at hkn
        have HKn := Hid_mk hkn
        clear hgt hkn
        go_upto_region 1 with fail
        go_quiet (fail)
        clear hgd e1 hg1 hg2
        go_wp2
        go_roundw
        case rel => exact ⟨j, by omega, by first | rfl | (congr 1; omega), HKn.out, HKp.out.trans' (Kp.drewN _ (Kp.refl No _))⟩
        case measure => simp only [intOf]; omega
      · have hgd : decide ((x.2 : Int) > en) = false := decide_eq_false hgt
        rw [if_neg hgt] at hkn
        subst hkn
        clear hgt
        go_upto_region 1 with fail
        go_quiet (fail)
        clear hgd e1 hg1 hg2 hwj hwj2
        have bw := (H.out.no HKp.out).warm
        have hmc : (j + 1) ≤ cv := by omega
        have hmci : ((j + 1 : Nat) : Int) ≤ (cv : Int) := by omega
        have hmni : ((j + 1 : Nat) : Int) ≤ (n : Int) := by omega
        go_wp2
        go_end0
        have hk7 : Kp No w (wr.drewN nq) := HKp.out.trans' (Kp.drewN nq (Kp.refl No _))
        have eA : (L.take (keepN en L L.length)).length = (j + 1) := by rw [List.length_take, HA.out]; have := HN.out; omega
        have hrow : TRw (wr.drewN nq) (.slice (some ⟨gv, 0, none⟩) (j + 1) cv) (L.take (keepN en L L.length)) := by
          have h1 := (H.out.no hk7).rl
          have h2 := own_take h1 (j + 1) (by have := HN.out; show (j + 1) ≤ L.length; omega)
          have e2 : (List.flatMap thC L).take ((j + 1) * 2) = (L.take (keepN en L L.length)).flatMap thC := by
            have e3 : L = L.take (keepN en L L.length) ++ L.drop (keepN en L L.length) := (List.take_append_drop _ _).symm
            have e4 : List.flatMap thC L = (L.take (keepN en L L.length)).flatMap thC ++ (L.drop (keepN en L L.length)).flatMap thC := by rw [← List.flatMap_append, ← e3]
            rw [e4, List.take_append_of_le_length (by rw [th_len, eA]; omega), List.take_of_length_le (by rw [th_len, eA]; omega)]
          unfold TRw
          rw [eA, ← e2]
          exact h2
        exact ⟨rfl, ⟨ρ, _, _, _, _, _, _, (H.out.no hk7).set3 _ (L.take (keepN en L L.length)) hrow (fun x e => H.out.lr x e), (Gr.of hk7).trans (Gr.cell (by rw [H.out.qr]; decide))⟩, HOk2.out⟩

end Go.Proofs.Ytaneblecgjahbab.nfa

namespace Go.Proofs.Ytaneblecgjahbab.nfa
open Go.RowKit Go.Proofs.Ytaneblecgjahbab.sum Go.Proofs.Ytaneblecgjahbab.kept Go.Proofs.Ytaneblecgjahbab.pop Go.Proofs.Ytaneblecgjahbab.cls Go.Proofs.Ytaneblecgjahbab.tre Go.Proofs.Ytaneblecgjahbab.ere Go.Proofs.Ytaneblecgjahbab.fl Go.Proofs.Ytaneblecgjahbab.mrk
set_option linter.unusedVariables false

/-- what it goes over may be -/
structure WOk (o : Over) : Prop where
  ok : okP o.r.2
  st : o.r.1 < o.r.2.length
  pl : o.r.2.length ≤ 1000000
  sz : o.s.size ≤ 140737488355327
/-- a byte of the text -/
def byteS (o : Over) (a : Nat) : Nat := (o.s.data.toList.getD a 0).toNat
theorem byte_at (o : Over) (a : Nat) (ha : a < o.s.size) : (o.s[a]'ha).toNat = byteS o a := by
  unfold byteS
  have h : a < o.s.data.toList.length := by rw [Array.length_toList]; exact ha
  rw [List.getD_eq_getElem?_getD, List.getElem?_eq_getElem h]
  rfl
/-- this walk's memory is in this state; what there was else is as it was -/
def WkIs (w : World) (ρ : Nat → Nat) (o : Over) (t : Wst) (wr : World) : Prop :=
  ∃ ρ' vl vs vp g cg S, WkAt wr ρ' o vl vs vp g cg S t ∧ Gr w ρ wr ρ' ∧ OkW o.r.2 { t with stk := [] } ∧ t.pl ≤ o.s.size
theorem WkIs.no {w : World} {ρ : Nat → Nat} {o : Over} {t : Wst} {wr w' : World} (h : WkIs w ρ o t wr) (hk : Kp No wr w') : WkIs w ρ o t w' := by
  obtain ⟨ρ', vl, vs, vp, g, cg, S, h1, h2, h3, h4⟩ := h
  exact ⟨ρ', vl, vs, vp, g, cg, S, h1.no hk, h2.trans (Gr.of hk), h3, h4⟩
theorem WkIs.c2 {w : World} {ρ : Nat → Nat} {o : Over} {t : Wst} {wr : World} (h : WkIs w ρ o t wr) : wr.cell? ⟨o.q, 2, none⟩ = some (.int .i64 (t.pl : Int)) := by
  obtain ⟨ρ', vl, vs, vp, g, cg, S, h1, -⟩ := h
  exact h1.c2
theorem WkIs.c3 {w : World} {ρ : Nat → Nat} {o : Over} {t : Wst} {wr : World} (h : WkIs w ρ o t wr) : ∃ a c, wr.cell? ⟨o.q, 3, none⟩ = some (.slice a t.L.length c) := by
  obtain ⟨ρ', vl, vs, vp, g, cg, S, h1, -⟩ := h
  rcases th_any h1.rl with ⟨e1, e2⟩ | ⟨g9, c9, e1, h2, h3⟩
  · exact ⟨none, 0, by rw [h1.c3, e1, e2]; rfl⟩
  · exact ⟨_, c9, by rw [h1.c3, e1]⟩
def IsPost (w : World) (ρ : Nat → Nat) (o : Over) (v : Value) (t : Wst) (e : Ending) (w' : World) : Prop := e = .returned v ∧ WkIs w ρ o t w'
theorem IsPost.is {w : World} {ρ : Nat → Nat} {o : Over} {v : Value} {t : Wst} {e : Ending} {w' : World} (h : IsPost w ρ o v t e w') : e = .returned v ∧ WkIs w ρ o t w' := h
theorem beg_pl (o : Over) (t : Wst) : (begS o t).pl = t.pl := rch_pl _ _ _ _ _ _
theorem stL_pl (o : Over) (b : Nat) : ∀ (l : List (Nat × Nat)) (t : Wst), (stL o b l t).pl = t.pl
  | [], t => rfl
  | x :: l, t => by
    rw [stL, stL_pl o b l]
    split
    · exact rch_pl _ _ _ _ _ _
    · rfl
theorem step_pl (o : Over) (b p : Nat) (t : Wst) : (stepS o b p t).pl = p := stL_pl _ _ _ _
theorem at_lt {o : Over} {t : Wst} {a p : Nat} (hpl : t.pl ≤ o.s.size) (h : atS o t = some (a, p)) : a < o.s.size ∧ p ≤ o.s.size := by
  unfold atS at h
  split at h
  · split at h
    · cases h
    · injection h with h
      injection h with h1 h2
      omega
  · split at h
    · cases h
    · injection h with h
      injection h with h1 h2
      omega

theorem begin_is {w : World} {ρ : Nat → Nat} {o : Over} {t : Wst} {wr : World} (hO : WOk o) (h : WkIs w ρ o t wr) : Calls Try.prog 39 #[.pointer (some ⟨o.q, 0, none⟩)] wr (IsPost w ρ o (.tuple #[]) (begS o t)) := by
  obtain ⟨ρ', vl, vs, vp, g, cg, S, h1, h2, h3, h4⟩ := h
  refine (begin_any wr ρ' o vl vs vp g cg S t h1 h3 hO.ok hO.st hO.pl (by have := hO.sz; omega)).mono ?_
  rintro e w' ⟨he, ρ2, a, b, c, d, g1, g2, g3⟩
  refine ⟨he, ρ2, a, vs, b, c, d, S, g1, h2.trans g2, ⟨g3.len, fun x hx => (by cases hx), g3.big, ?_, g3.lt⟩, by rw [beg_pl]; exact h4⟩
  have h5 := un_le (begS o t).pl (begS o t).seen
  have h6 := g3.len
  simp only [List.length_nil]
  omega
theorem ends_is {w : World} {ρ : Nat → Nat} {o : Over} {t : Wst} {wr : World} (h : WkIs w ρ o t wr) : Calls Try.prog 40 #[.pointer (some ⟨o.q, 0, none⟩)] wr fun e w' => e = .returned (.bool (t.en != -1)) ∧ wr = w' := by
  obtain ⟨ρ', vl, vs, vp, g, cg, S, h1, h2, h3, h4⟩ := h
  exact ends_any wr ρ' o vl vs vp g cg S t h1
theorem match_is {w : World} {ρ : Nat → Nat} {o : Over} {t : Wst} {wr : World} (h : WkIs w ρ o t wr) : Calls Try.prog 45 #[.pointer (some ⟨o.q, 0, none⟩)] wr fun e w' => e = .returned (matchV o t) ∧ Kp No wr w' := by
  obtain ⟨ρ', vl, vs, vp, g, cg, S, h1, h2, h3, h4⟩ := h
  exact match_any wr ρ' o vl vs vp g cg S t h1
theorem drop_is {w : World} {ρ : Nat → Nat} {o : Over} {t : Wst} {wr : World} (hO : WOk o) (h : WkIs w ρ o t wr) : Calls Try.prog 46 #[.pointer (some ⟨o.q, 0, none⟩)] wr (IsPost w ρ o (.tuple #[]) (dropS t)) := by
  obtain ⟨ρ', vl, vs, vp, g, cg, S, h1, h2, h3, h4⟩ := h
  refine (drop_any wr ρ' o vl vs vp g cg S t h1 h3 hO.pl).mono ?_
  rintro e w' ⟨he, ⟨ρ2, a, b, c, d, f, S2, g1, g2⟩, g3⟩
  exact ⟨he, ρ2, a, b, c, d, f, S2, g1, h2.trans g2, g3, h4⟩
theorem step_is {w : World} {ρ : Nat → Nat} {o : Over} {t : Wst} {wr : World} (hO : WOk o) (h : WkIs w ρ o t wr) {a p : Nat} (hat : atS o t = some (a, p)) : Calls Try.prog 41 #[.pointer (some ⟨o.q, 0, none⟩)] wr (IsPost w ρ o (.bool true) (stepS o (byteS o a) p t)) := by
  obtain ⟨ρ', vl, vs, vp, g, cg, S, h1, h2, h3, h4⟩ := h
  obtain ⟨ha, hp⟩ := at_lt h4 hat
  have hc := step_any wr ρ' o vl vs vp g cg S t h1 h3 h3.lt hO.ok hO.pl h4 hO.sz a p hat ha
  rw [byte_at o a ha] at hc
  refine hc.mono ?_
  rintro e w' ⟨he, ρ2, a', b, c, d, f, S2, g1, g2, g3⟩
  exact ⟨he, ρ2, a', b, c, d, f, S2, g1, h2.trans g2, g3, by rw [step_pl]; exact hp⟩
theorem step_no {w : World} {ρ : Nat → Nat} {o : Over} {t : Wst} {wr : World} (hO : WOk o) (h : WkIs w ρ o t wr) (hat : atS o t = none) : Calls Try.prog 41 #[.pointer (some ⟨o.q, 0, none⟩)] wr (IsPost w ρ o (.bool false) t) := by
  have hh := h
  obtain ⟨ρ', vl, vs, vp, g, cg, S, h1, h2, h3, h4⟩ := h
  exact (step_end wr ρ' o vl vs vp g cg S t h1 h4 hO.sz hat).mono fun e w' ⟨he, hk⟩ => ⟨he, hh.no hk⟩
/-- a new walk -/
def newS (o : Over) (pl : Nat) : Wst := ⟨pl, [], [], List.replicate o.r.2.length 0, -1⟩

end Go.Proofs.Ytaneblecgjahbab.nfa

namespace Go.Proofs.Ytaneblecgjahbab.nfa
open Go.RowKit Go.Proofs.Ytaneblecgjahbab.sum Go.Proofs.Ytaneblecgjahbab.kept Go.Proofs.Ytaneblecgjahbab.pop Go.Proofs.Ytaneblecgjahbab.cls Go.Proofs.Ytaneblecgjahbab.tre Go.Proofs.Ytaneblecgjahbab.ere Go.Proofs.Ytaneblecgjahbab.fl Go.Proofs.Ytaneblecgjahbab.mrk Go.Proofs.Ytaneblecgjahbab.spl
set_option linter.unusedVariables false

/-- a program and a text alone -/
def oS (r : Nat × List Part) (bk : Bool) (s : ByteArray) : Over := ⟨0, 0, 0, 0, 0, r, bk, s⟩
/-- how many bytes are left -/
def remS (o : Over) (t : Wst) : Nat := if o.bk = true then t.pl else o.s.size - t.pl
theorem remF (r : Nat × List Part) (s : ByteArray) (t : Wst) : remS (oS r false s) t = s.size - t.pl := rfl
theorem remB (r : Nat × List Part) (s : ByteArray) (t : Wst) : remS (oS r true s) t = t.pl := rfl
theorem rem_step {o : Over} {t : Wst} {a p b : Nat} (hpl : t.pl ≤ o.s.size) (h : atS o t = some (a, p)) : remS o (stepS o b p t) + 1 ≤ remS o t := by
  unfold remS
  rw [step_pl]
  unfold atS at h
  split at h
  · rename_i hb
    rw [if_pos hb, if_pos hb]
    split at h
    · cases h
    · injection h with h
      injection h with h1 h2
      omega
  · rename_i hb
    rw [if_neg hb, if_neg hb]
    split at h
    · cases h
    · injection h with h
      injection h with h1 h2
      omega
/-- is there a match? -/
def isRun (o : Over) : Nat → Wst → Bool
  | 0, _ => false
  | f + 1, t => if (begS o t).en ≠ -1 then true else match atS o (begS o t) with
    | none => false
    | some (a, p) => isRun o f (stepS o (byteS o a) p (begS o t))
/-- nothing that there was turned -/
def BoPost (w : World) (R : Bool) (e : Ending) (w' : World) : Prop := e = .returned (.bool R) ∧ Kp No w w'
theorem WkIs.kp {w w1 : World} {ρ : Nat → Nat} {o : Over} {t : Wst} {wr : World} (h : WkIs w1 ρ o t wr) (hk : Kp No w w1) (hr : ∀ i, i < w.heap.size → ρ i = 0) : Kp No w wr := by
  obtain ⟨ρ', vl, vs, vp, g, cg, S, h1, h2, h3, h4⟩ := h
  exact hk.trans h2.kp fun i hi e => e (hr i hi)
/-- in the midst of a call of a machine's: its walk -/
def WkMid (w : World) (r : Nat × List Part) (bk : Bool) (s : ByteArray) (o : Over) (t : Wst) (wr : World) : Prop :=
  (o.r = r ∧ o.bk = bk ∧ o.s = s ∧ WOk o) ∧ ∃ w1 ρ, (∀ i, i < w.heap.size → ρ i = 0) ∧ Kp No w w1 ∧ WkIs w1 ρ o t wr
theorem WkMid.kp {w : World} {r : Nat × List Part} {bk : Bool} {s : ByteArray} {o : Over} {t : Wst} {wr : World} (h : WkMid w r bk s o t wr) : Kp No w wr := by
  obtain ⟨-, w1, ρ, h1, h2, h3⟩ := h
  exact h3.kp h2 h1
theorem WkMid.no {w : World} {r : Nat × List Part} {bk : Bool} {s : ByteArray} {o : Over} {t : Wst} {wr w' : World} (h : WkMid w r bk s o t wr) (hk : Kp No wr w') : WkMid w r bk s o t w' := by
  obtain ⟨h0, w1, ρ, h1, h2, h3⟩ := h
  exact ⟨h0, w1, ρ, h1, h2, h3.no hk⟩
theorem WkMid.le {w : World} {r : Nat × List Part} {bk : Bool} {s : ByteArray} {o : Over} {t : Wst} {wr : World} (h : WkMid w r bk s o t wr) : t.pl ≤ s.size := by
  obtain ⟨⟨-, -, rfl, -⟩, w1, ρ, -, -, _, _, _, _, _, _, _, -, -, -, h3⟩ := h
  exact h3
theorem WkMid.c2 {w : World} {r : Nat × List Part} {bk : Bool} {s : ByteArray} {o : Over} {t : Wst} {wr : World} (h : WkMid w r bk s o t wr) : wr.cell? ⟨o.q, 2, none⟩ = some (.int .i64 (t.pl : Int)) := by
  obtain ⟨-, w1, ρ, -, -, h3⟩ := h
  exact h3.c2
theorem WkMid.c3 {w : World} {r : Nat × List Part} {bk : Bool} {s : ByteArray} {o : Over} {t : Wst} {wr : World} (h : WkMid w r bk s o t wr) : ∃ a c, wr.cell? ⟨o.q, 3, none⟩ = some (.slice a t.L.length c) := by
  obtain ⟨-, w1, ρ, -, -, h3⟩ := h
  exact h3.c3
def MdPost (w : World) (r : Nat × List Part) (bk : Bool) (s : ByteArray) (o : Over) (v : Value) (t : Wst) (e : Ending) (w' : World) : Prop := e = .returned v ∧ WkMid w r bk s o t w'
theorem MdPost.is {w : World} {r : Nat × List Part} {bk : Bool} {s : ByteArray} {o : Over} {v : Value} {t : Wst} {e : Ending} {w' : World} (h : MdPost w r bk s o v t e w') : e = .returned v ∧ WkMid w r bk s o t w' := h
section
variable {w : World} {r : Nat × List Part} {bk : Bool} {s : ByteArray} {o : Over} {t : Wst} {wr : World}
theorem stL_oS (o : Over) (b : Nat) : ∀ (l : List (Nat × Nat)) (t : Wst), stL (oS o.r o.bk o.s) b l t = stL o b l t
  | [], t => rfl
  | x :: l, t => by
    rw [stL, stL, stL_oS o b l]
    rfl
theorem begin_m (h : WkMid w r bk s o t wr) : Calls Try.prog 39 #[.pointer (some ⟨o.q, 0, none⟩)] wr (MdPost w r bk s o (.tuple #[]) (begS (oS r bk s) t)) := by
  obtain ⟨⟨rfl, rfl, rfl, hO⟩, w1, ρ, h1, h2, h3⟩ := h
  exact (begin_is hO h3).mono fun e w' ⟨he, h⟩ => ⟨he, ⟨rfl, rfl, rfl, hO⟩, w1, ρ, h1, h2, h⟩
theorem ends_m (h : WkMid w r bk s o t wr) : Calls Try.prog 40 #[.pointer (some ⟨o.q, 0, none⟩)] wr fun e w' => e = .returned (.bool (t.en != -1)) ∧ wr = w' := by
  obtain ⟨-, w1, ρ, -, -, h3⟩ := h
  exact ends_is h3
theorem match_m (h : WkMid w r bk s o t wr) : Calls Try.prog 45 #[.pointer (some ⟨o.q, 0, none⟩)] wr fun e w' => e = .returned (matchV (oS r bk s) t) ∧ Kp No wr w' := by
  obtain ⟨⟨rfl, rfl, rfl, hO⟩, w1, ρ, -, -, h3⟩ := h
  exact match_is h3
theorem drop_m (h : WkMid w r bk s o t wr) : Calls Try.prog 46 #[.pointer (some ⟨o.q, 0, none⟩)] wr (MdPost w r bk s o (.tuple #[]) (dropS t)) := by
  obtain ⟨⟨rfl, rfl, rfl, hO⟩, w1, ρ, h1, h2, h3⟩ := h
  exact (drop_is hO h3).mono fun e w' ⟨he, h⟩ => ⟨he, ⟨rfl, rfl, rfl, hO⟩, w1, ρ, h1, h2, h⟩
theorem step_m (h : WkMid w r bk s o t wr) {a p : Nat} (hat : atS (oS r bk s) t = some (a, p)) : Calls Try.prog 41 #[.pointer (some ⟨o.q, 0, none⟩)] wr (MdPost w r bk s o (.bool true) (stepS (oS r bk s) (byteS (oS r bk s) a) p t)) := by
  obtain ⟨⟨rfl, rfl, rfl, hO⟩, w1, ρ, h1, h2, h3⟩ := h
  have es : ∀ b, stepS (oS o.r o.bk o.s) b p t = stepS o b p t := fun b => stL_oS o b _ _
  exact (step_is hO h3 hat).mono fun e w' ⟨he, h⟩ => ⟨he, ⟨rfl, rfl, rfl, hO⟩, w1, ρ, h1, h2, by rw [es]; exact h⟩
theorem step_mno (h : WkMid w r bk s o t wr) (hat : atS (oS r bk s) t = none) : Calls Try.prog 41 #[.pointer (some ⟨o.q, 0, none⟩)] wr (MdPost w r bk s o (.bool false) t) := by
  obtain ⟨⟨rfl, rfl, rfl, hO⟩, w1, ρ, h1, h2, h3⟩ := h
  exact (step_no hO h3 hat).mono fun e w' ⟨he, h⟩ => ⟨he, ⟨rfl, rfl, rfl, hO⟩, w1, ρ, h1, h2, h⟩
end
theorem NwPost.is {w : World} {pb po gp cp : Nat} {r : Nat × List Part} {bk : Bool} {s : ByteArray} {pl : Nat} {e : Ending} {w' : World} (h : NwPost w pb po gp cp r bk s pl e w') (hpl : pl ≤ s.size) : ∃ q ρ, e = .returned (.pointer (some ⟨q, 0, none⟩)) ∧ WkIs w' ρ ⟨q, pb, po, gp, cp, r, bk, s⟩ (newS (oS r bk s) pl) w' ∧ (∀ i, i < w.heap.size → ρ i = 0) ∧ Kp No w w' := by
  obtain ⟨q, ρ, g, cg, he, h1, h2, h3⟩ := h
  refine ⟨q, ρ, he, ⟨ρ, _, _, _, g, cg, [], h1, Gr.refl _ _, ⟨List.length_replicate, fun x hx => (by cases hx), ?_, ?_, fun x hx => (by cases hx)⟩, hpl⟩, h2, h3⟩
  · have h5 := un_le pl (List.replicate r.2.length 0)
    have h6 : (List.replicate r.2.length 0).length = r.2.length := List.length_replicate
    show 0 + unS pl (List.replicate r.2.length 0) ≤ r.2.length
    omega
  · have h5 := un_le pl (List.replicate r.2.length 0)
    have h6 : (List.replicate r.2.length 0).length = r.2.length := List.length_replicate
    show 0 + unS pl (List.replicate r.2.length 0) ≤ r.2.length + 1
    omega

/-- newWalk -/
theorem new_m (w : World) (pb po gp cp : Nat) (r : Nat × List Part) (bk : Bool) (s : ByteArray) (pl : Nat) (h : PgRd w pb po r bk gp cp) (hok : okP r.2) (hst : r.1 < r.2.length) (hl : r.2.length ≤ 1000000) (hs : s.size ≤ 140737488355327) (hpl : pl ≤ s.size) :
    Calls Try.prog 38 #[.pointer (some ⟨pb, po, none⟩), .string s, .int .i64 (pl : Int)] w fun e w' => ∃ o : Over, e = .returned (.pointer (some ⟨o.q, 0, none⟩)) ∧ WkMid w r bk s o (newS (oS r bk s) pl) w' := by
  refine (newWalk_any w pb po gp cp r bk s pl h hl).mono fun e w' hp => ?_
  obtain ⟨q, ρ, he, h1, h2, h3⟩ := hp.is hpl
  exact ⟨⟨q, pb, po, gp, cp, r, bk, s⟩, he, ⟨rfl, rfl, rfl, hok, hst, hl, hs⟩, w', ρ, h2, h3, h1⟩

def IsJ (w : World) (r : Nat × List Part) (s : ByteArray) (mb : Nat) (R : Bool) (n : Nat) (a : Act) (wr : World) : Prop :=
  ∃ u6 u7 u8 u9 u10 u11 u12 u13 u14 u15 u16 o t, a = { tmps := #[.pointer (some ⟨mb, 0, none⟩), .string s, undef, undef, .bool false, .pointer (some ⟨o.q, 0, none⟩), u6, u7, u8, u9, u10, u11, u12, u13, u14, u15, u16], defers := [] } ∧ WkMid w r false s o t wr ∧ remS (oS r false s) t + 1 ≤ n ∧ isRun (oS r false s) n t = R

set_option maxRecDepth 100000 in
set_option maxHeartbeats 8000000 in
theorem is_any (w : World) (mb gp cp : Nat) (r : Nat × List Part) (s : ByteArray) (h : PgRd w mb 0 r false gp cp) (hok : okP r.2) (hst : r.1 < r.2.length) (hpl : r.2.length ≤ 1000000) (hs : s.size ≤ 140737488355327) :
    Calls Try.prog 37 #[.pointer (some ⟨mb, 0, none⟩), .string s] w (BoPost w (isRun (oS r false s) (s.size + 1) (newS (oS r false s) 0))) := by
  obtain ⟨R, hR⟩ : ∃ R, isRun (oS r false s) (s.size + 1) (newS (oS r false s) 0) = R := ⟨_, rfl⟩
  rw [hR]
  have hc := new_m w mb 0 gp cp r false s 0 h hok hst hpl hs (Nat.zero_le _)
  simp only [Int.natCast_zero] at hc
  have HC := Hid_mk hc
  have HR := Hid_mk hR
  clear h hok hst hpl hs hc hR
  go_enter Try.func37, Try.ntmps37
  go_wp2_with fail
  refine scope_one_g 0 (IsJ w r s mb R) rfl ?pass ?first
  case pass =>
    rintro n a' wr ⟨u6, u7, u8, u9, u10, u11, u12, u13, u14, u15, u16, o, t, rfl, hw, hrem, hrun⟩
    obtain ⟨f, rfl⟩ : ∃ f, n = f + 1 := ⟨n - 1, by omega⟩
    rw [isRun] at hrun
    have hle := hw.le
    have HB := Hid_mk (begin_m hw)
    have HRem := Hid_mk hrem
    have HRun := Hid_mk hrun
    have HLe := Hid_mk hle
    clear hw hrem hrun hle HC HR
    go_wp2_with fail
    with_reducible refine HB.out.mono ?_
    intro e w2 hp
    rcases hp.is with ⟨rfl, hw2⟩
    obtain ⟨t1, ht1⟩ : ∃ t1, begS (oS r false s) t = t1 := ⟨_, rfl⟩
    have hrun := HRun.out
    rw [ht1] at hw2 hrun
    have hpl1 : t1.pl = t.pl := by rw [← ht1]; exact beg_pl _ _
    have HPl1 := Hid_mk hpl1
    have HW2 := Hid_mk hw2
    clear hp hw2 ht1 HB HRun hpl1
    by_cases hen : t1.en = -1
    · rw [if_neg (by simpa using hen)] at hrun
      have he := ends_m HW2.out
      rw [hen] at he
      have HE := Hid_mk (show Calls Try.prog 40 #[.pointer (some ⟨o.q, 0, none⟩)] w2 fun e w' => e = .returned (.bool false) ∧ w2 = w' from he)
      cases hat : atS (oS r false s) t1 with
      | none =>
        rw [hat] at hrun
        have HSt := Hid_mk (step_mno HW2.out hat)
        have HRf := Hid_mk (show false = R from hrun)
        clear hen hrun he hat
        go_wp2_with fail
        with_reducible refine HE.out.mono ?_
        rintro e w3 ⟨rfl, rfl⟩
        go_wp2_with fail
        with_reducible refine HSt.out.mono ?_
        intro e w3 hp
        rcases hp.is with ⟨rfl, hw3⟩
        have HK := Hid_mk hw3.kp
        clear hp hw3
        go_wp2
        simp only [jumpF]
        go_ret
        exact ⟨congrArg (fun b => Ending.returned (.bool b)) HRf.out, HK.out⟩
      | some x =>
        obtain ⟨a, p⟩ := x
        rw [hat] at hrun
        have HSt := Hid_mk (step_m HW2.out hat)
        have hrs := rem_step (o := oS r false s) (b := byteS (oS r false s) a) (by rw [HPl1.out]; exact HLe.out) hat
        have HRs := Hid_mk hrs
        have HRun := Hid_mk (show isRun (oS r false s) f (stepS (oS r false s) (byteS (oS r false s) a) p t1) = R from hrun)
        clear hen hrun he hat hrs
        go_wp2_with fail
        with_reducible refine HE.out.mono ?_
        rintro e w3 ⟨rfl, rfl⟩
        go_wp2_with fail
        with_reducible refine HSt.out.mono ?_
        intro e w3 hp
        rcases hp.is with ⟨rfl, hw3⟩
        have HW3 := Hid_mk hw3
        clear hp hw3
        go_wp2
        go_step3
        exact ⟨rfl, f, Nat.lt_succ_self f, _, _, _, _, _, _, _, _, _, _, _, o, _, rfl, HW3.out, by have h1 := HRs.out; have h2 := HRem.out; have h3 := HPl1.out; rw [remF] at h1 h2 ⊢; rw [remF] at h1; omega, HRun.out⟩
    · rw [if_pos (by simpa using hen)] at hrun
      have hne : (t1.en != -1) = true := by simpa using hen
      have he := ends_m HW2.out
      rw [hne] at he
      have HE := Hid_mk he
      have HRf := Hid_mk (show true = R from hrun)
      have HK := Hid_mk HW2.out.kp
      clear hen hrun he hne
      go_wp2_with fail
      with_reducible refine HE.out.mono ?_
      rintro e w3 ⟨rfl, rfl⟩
      go_wp2
      simp only [jumpF]
      go_ret
      exact ⟨congrArg (fun b => Ending.returned (.bool b)) HRf.out, HK.out⟩
  case first =>
    intro pass
    have HP := Hid_mk pass
    clear pass
    go_wp2_with fail
    with_reducible refine HC.out.mono ?_
    rintro e w1 ⟨o, rfl, hw⟩
    have HW := Hid_mk hw
    clear hw
    go_wp2
    apply wp_label
    rename_i hK0
    exact hK0 _ _ (HP.out (s.size + 1) _ _ ⟨_, _, _, _, _, _, _, _, _, _, _, o, _, rfl, HW.out, by rw [remF]; show s.size - 0 + 1 ≤ _; omega, HR.out⟩)

end Go.Proofs.Ytaneblecgjahbab.nfa

namespace Go.Proofs.Ytaneblecgjahbab.nfa
open Go.RowKit Go.Proofs.Ytaneblecgjahbab.sum Go.Proofs.Ytaneblecgjahbab.kept Go.Proofs.Ytaneblecgjahbab.pop Go.Proofs.Ytaneblecgjahbab.cls Go.Proofs.Ytaneblecgjahbab.tre Go.Proofs.Ytaneblecgjahbab.ere Go.Proofs.Ytaneblecgjahbab.fl Go.Proofs.Ytaneblecgjahbab.mrk Go.Proofs.Ytaneblecgjahbab.spl
set_option linter.unusedVariables false

/-- where a match from a place on ends: what was found, and on -/
def atRun (o : Over) : Nat → Wst → Nat × Bool → Nat × Bool
  | 0, _, x => x
  | f + 1, t, x => if t.L.length = 0 then (if t.en ≠ -1 then (t.pl, true) else x) else match atS o t with
    | none => (if t.en ≠ -1 then (t.pl, true) else x)
    | some (a, p) => atRun o f (stepS o (byteS o a) p t) (if t.en ≠ -1 then (t.pl, true) else x)
def frA (mb q : Nat) (s : ByteArray) (fr : Nat) (x : Nat × Bool) (U : Nat → Value) : Array Value := #[.pointer (some ⟨mb, 0, none⟩), .string s, .int .i64 (fr : Int), undef, undef, undef, .int .i64 (x.1 : Int), .bool x.2, .pointer (some ⟨q, 0, none⟩), U 9, U 10, U 11, U 12, U 13, U 14, U 15, U 16, U 17, U 18, U 19, U 20, U 21, U 22, U 23, U 24, U 25, U 26, U 27, U 28, U 29, U 30, U 31, U 32, U 33, U 34, U 35, U 36, U 37, U 38, U 39, U 40, U 41, U 42]
def AtJ (w : World) (r : Nat × List Part) (s : ByteArray) (mb fr : Nat) (R : Nat × Bool) (n : Nat) (a : Act) (wr : World) : Prop :=
  ∃ (U : Nat → Value) (o : Over) (t : Wst) (x : Nat × Bool), a = { tmps := frA mb o.q s fr x U, defers := [] } ∧ WkMid w r false s o t wr ∧ remS (oS r false s) t + 1 ≤ n ∧ atRun (oS r false s) n t x = R
theorem AtJ.mk {w : World} {r : Nat × List Part} {s : ByteArray} {mb fr : Nat} {R : Nat × Bool} {n : Nat} {wr : World} (T : Array Value) (o : Over) (t : Wst) (x : Nat × Bool) (h1 : WkMid w r false s o t wr) (h2 : remS (oS r false s) t + 1 ≤ n) (h3 : atRun (oS r false s) n t x = R) (hT : T = frA mb o.q s fr x (nthV T.toList)) : AtJ w r s mb fr R n { tmps := T, defers := [] } wr := ⟨_, o, t, x, by rw [← hT], h1, h2, h3⟩
/-- nothing that there was turned; two results -/
def PbPost (w : World) (R : Nat × Bool) (e : Ending) (w' : World) : Prop := e = .returned (.tuple #[.int .i64 (R.1 : Int), .bool R.2]) ∧ Kp No w w'

set_option maxRecDepth 100000 in
set_option maxHeartbeats 8000000 in
theorem at_out (w : World) (mb : Nat) (s : ByteArray) (fr : Int) (h : fr < 0 ∨ (s.size : Int) < fr) : Calls Try.prog 15 #[.pointer (some ⟨mb, 0, none⟩), .string s, .int .i64 fr] w (PbPost w (0, false)) := by
  rcases h with h | h
  · go_enter Try.func15, Try.ntmps15
    go_wp2
    go_step3
    go_wp2
    all_goals
      (try rw [Exit.noGoto_ret])
      go_ret2
      exact ⟨rfl, Kp.refl _ _⟩
  · have h' : ¬ fr < 0 := by omega
    have hd : decide (fr < 0) = false := decide_eq_false h'
    go_enter Try.func15, Try.ntmps15
    go_wp2
    go_step3
    go_wp2
    all_goals
      (try rw [Exit.noGoto_ret])
      go_ret2
      exact ⟨rfl, Kp.refl _ _⟩

set_option maxRecDepth 100000 in
set_option maxHeartbeats 16000000 in
theorem at_any (w : World) (mb gp cp : Nat) (r : Nat × List Part) (s : ByteArray) (fr : Nat) (h : PgRd w mb 0 r false gp cp) (hok : okP r.2) (hst : r.1 < r.2.length) (hpl : r.2.length ≤ 1000000) (hs : s.size ≤ 140737488355327) (hfr : fr ≤ s.size) :
    Calls Try.prog 15 #[.pointer (some ⟨mb, 0, none⟩), .string s, .int .i64 (fr : Int)] w (PbPost w (atRun (oS r false s) (s.size + 1) (begS (oS r false s) (newS (oS r false s) fr)) (0, false))) := by
  obtain ⟨R, hR⟩ : ∃ R, atRun (oS r false s) (s.size + 1) (begS (oS r false s) (newS (oS r false s) fr)) (0, false) = R := ⟨_, rfl⟩
  rw [hR]
  have hc := new_m w mb 0 gp cp r false s fr h hok hst hpl hs hfr
  have hf0 : ¬ (fr : Int) < 0 := by omega
  have hf1 : ¬ (s.size : Int) < (fr : Int) := by omega
  have hf2 : ¬ (fr : Int) > (s.size : Int) := by omega
  have hd0 : decide ((fr : Int) < 0) = false := decide_eq_false hf0
  have hd1 : decide ((fr : Int) > (s.size : Int)) = false := decide_eq_false hf2
  have HC := Hid_mk hc
  have HR := Hid_mk hR
  have HFr := Hid_mk hfr
  clear h hok hst hpl hs hc hR hfr
  go_enter Try.func15, Try.ntmps15
  go_wp2_with fail
  refine scope_one_g 0 (AtJ w r s mb fr R) rfl ?pass ?first
  case pass =>
    rintro n a' wr ⟨U, o, t, ⟨x1, x2⟩, rfl, hw, hrem, hrun⟩
    unfold frA
    obtain ⟨f, rfl⟩ : ∃ f, n = f + 1 := ⟨n - 1, by omega⟩
    rw [atRun] at hrun
    have hle := hw.le
    obtain ⟨av, cv, b3⟩ := hw.c3
    have b2 := hw.c2
    have he := ends_m hw
    have HW := Hid_mk hw
    have HRem := Hid_mk hrem
    have HLe := Hid_mk hle
    clear hw hrem hle HC HR hd0 hd1 hf0 hf1 hf2
    by_cases hen : t.en = -1
    · rw [hen] at he
      have HE := Hid_mk (show Calls Try.prog 40 #[.pointer (some ⟨o.q, 0, none⟩)] wr fun e w' => e = .returned (.bool false) ∧ wr = w' from he)
      have hx : (if t.en ≠ -1 then (t.pl, true) else (x1, x2)) = (x1, x2) := if_neg (by simpa using hen)
      rw [hx] at hrun
      clear hen he hx
      cases hl : t.L.length with
      | zero =>
        rw [hl] at b3 hrun
        have HRun := Hid_mk (show (x1, x2) = R from (if_pos rfl).symm.trans hrun)
        have HK := Hid_mk HW.out.kp
        clear hl hrun
        go_wp2_with fail
        with_reducible refine HE.out.mono ?_
        rintro e w3 ⟨rfl, rfl⟩
        go_wp2
        simp only [jumpF]
        go_ret2
        rw [← HRun.out]
        exact ⟨rfl, HK.out⟩
      | succ l =>
        rw [hl] at b3 hrun
        rw [if_neg (by omega)] at hrun
        have hli : decide ((((l + 1 : Nat) : Int)) > 0) = true := decide_eq_true (by omega)
        have hli2 : decide (((l : Int) + 1) > 0) = true := decide_eq_true (by omega)
        clear hl
        cases hat : atS (oS r false s) t with
        | none =>
          rw [hat] at hrun
          have HSt := Hid_mk (step_mno HW.out hat)
          have HRun := Hid_mk (show (x1, x2) = R from hrun)
          clear hrun hat
          go_wp2_with fail
          with_reducible refine HE.out.mono ?_
          rintro e w3 ⟨rfl, rfl⟩
          go_wp2_with fail
          with_reducible refine HSt.out.mono ?_
          intro e w3 hp
          rcases hp.is with ⟨rfl, hw3⟩
          have HK := Hid_mk hw3.kp
          clear hp hw3 b2 b3
          go_wp2
          simp only [jumpF]
          go_ret2
          rw [← HRun.out]
          exact ⟨rfl, HK.out⟩
        | some y =>
          obtain ⟨a, p⟩ := y
          rw [hat] at hrun
          have HSt := Hid_mk (step_m HW.out hat)
          have hrs := rem_step (o := oS r false s) (b := byteS (oS r false s) a) HLe.out hat
          have HRs := Hid_mk hrs
          have HRun := Hid_mk (show atRun (oS r false s) f (stepS (oS r false s) (byteS (oS r false s) a) p t) (x1, x2) = R from hrun)
          clear hrun hat hrs
          go_wp2_with fail
          with_reducible refine HE.out.mono ?_
          rintro e w3 ⟨rfl, rfl⟩
          go_wp2_with fail
          with_reducible refine HSt.out.mono ?_
          intro e w3 hp
          rcases hp.is with ⟨rfl, hw3⟩
          have HW3 := Hid_mk hw3
          clear hp hw3 b2 b3
          go_wp2
          go_step3
          exact ⟨rfl, f, Nat.lt_succ_self f, AtJ.mk _ o _ (x1, x2) HW3.out (by have h1 := HRs.out; have h2 := HRem.out; omega) HRun.out (by kernel_rfl)⟩
    · have hne : (t.en != -1) = true := by simpa using hen
      rw [hne] at he
      have HE := Hid_mk he
      have hx : (if t.en ≠ -1 then (t.pl, true) else (x1, x2)) = (t.pl, true) := if_pos hen
      rw [hx] at hrun
      clear hen he hne hx
      cases hl : t.L.length with
      | zero =>
        rw [hl] at b3 hrun
        have HRun := Hid_mk (show (t.pl, true) = R from (if_pos rfl).symm.trans hrun)
        have HK := Hid_mk HW.out.kp
        clear hl hrun
        go_wp2_with fail
        with_reducible refine HE.out.mono ?_
        rintro e w3 ⟨rfl, rfl⟩
        go_wp2
        simp only [jumpF]
        go_ret2
        rw [← HRun.out]
        exact ⟨rfl, HK.out⟩
      | succ l =>
        rw [hl] at b3 hrun
        rw [if_neg (by omega)] at hrun
        have hli : decide ((((l + 1 : Nat) : Int)) > 0) = true := decide_eq_true (by omega)
        have hli2 : decide (((l : Int) + 1) > 0) = true := decide_eq_true (by omega)
        clear hl
        cases hat : atS (oS r false s) t with
        | none =>
          rw [hat] at hrun
          have HSt := Hid_mk (step_mno HW.out hat)
          have HRun := Hid_mk (show (t.pl, true) = R from hrun)
          clear hrun hat
          go_wp2_with fail
          with_reducible refine HE.out.mono ?_
          rintro e w3 ⟨rfl, rfl⟩
          go_wp2_with fail
          with_reducible refine HSt.out.mono ?_
          intro e w3 hp
          rcases hp.is with ⟨rfl, hw3⟩
          have HK := Hid_mk hw3.kp
          clear hp hw3 b2 b3
          go_wp2
          simp only [jumpF]
          go_ret2
          rw [← HRun.out]
          exact ⟨rfl, HK.out⟩
        | some y =>
          obtain ⟨a, p⟩ := y
          rw [hat] at hrun
          have HSt := Hid_mk (step_m HW.out hat)
          have hrs := rem_step (o := oS r false s) (b := byteS (oS r false s) a) HLe.out hat
          have HRs := Hid_mk hrs
          have HRun := Hid_mk (show atRun (oS r false s) f (stepS (oS r false s) (byteS (oS r false s) a) p t) (t.pl, true) = R from hrun)
          clear hrun hat hrs
          go_wp2_with fail
          with_reducible refine HE.out.mono ?_
          rintro e w3 ⟨rfl, rfl⟩
          go_wp2_with fail
          with_reducible refine HSt.out.mono ?_
          intro e w3 hp
          rcases hp.is with ⟨rfl, hw3⟩
          have HW3 := Hid_mk hw3
          clear hp hw3 b2 b3
          go_wp2
          go_step3
          exact ⟨rfl, f, Nat.lt_succ_self f, AtJ.mk _ o _ (t.pl, true) HW3.out (by have h1 := HRs.out; have h2 := HRem.out; omega) HRun.out (by kernel_rfl)⟩
  case first =>
    intro pass
    have HP := Hid_mk pass
    clear pass
    go_wp2_with fail
    with_reducible refine HC.out.mono ?_
    rintro e w1 ⟨o, rfl, hw⟩
    have HB := Hid_mk (begin_m hw)
    clear hw
    go_wp2_with fail
    with_reducible refine HB.out.mono ?_
    intro e w2 hp
    rcases hp.is with ⟨rfl, hw2⟩
    have HW2 := Hid_mk hw2
    clear hp hw2
    go_wp2
    apply wp_label
    rename_i hK0
    exact hK0 _ _ (HP.out (s.size + 1) _ _ (AtJ.mk _ o _ (0, false) HW2.out (by rw [remF]; omega) HR.out (by kernel_rfl)))

end Go.Proofs.Ytaneblecgjahbab.nfa
