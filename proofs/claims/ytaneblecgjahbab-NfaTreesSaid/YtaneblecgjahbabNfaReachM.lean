/- Package nfa: reach: from a part on, over all that take no byte. Package nfa, plainly: a tree's parts lead on to its own. Package nfa: a new walk; it begins; it ends. -/
import Derived.Test.YtaneblecgjahbabScopesM
import Derived.Test.YtaneblecgjahbabScopesGM
import Derived.Deep.QuietTactic
import Derived.BigQuiet
import Derived.BigRegion
import Derived.Deep.RegionLaw
import Derived.StillTailTactics

namespace Go.Proofs.Ytaneblecgjahbab.nfa
open Go.RowKit Go.Proofs.Ytaneblecgjahbab.sum Go.Proofs.Ytaneblecgjahbab.kept Go.Proofs.Ytaneblecgjahbab.pop Go.Proofs.Ytaneblecgjahbab.cls Go.Proofs.Ytaneblecgjahbab.tre Go.Proofs.Ytaneblecgjahbab.ere Go.Proofs.Ytaneblecgjahbab.spl
set_option linter.unusedVariables false

theorem PgRd.part {w : World} {pb po : Nat} {r : Nat × List Part} {bk : Bool} {g c : Nat} (h : PgRd w pb po r bk g c) (i : Nat) (hi : i < r.2.length) : r.2.length ≤ c ∧ c ≤ maxLen ∧
    w.cell? ⟨g, i * 7, none⟩ = some (.int .i64 ((r.2.getD i p0).kind : Int)) ∧ w.cell? ⟨g, i * 7 + 1, none⟩ = some (.int .u64 (wd (r.2.getD i p0).f 0 64 : Nat)) ∧ w.cell? ⟨g, i * 7 + 2, none⟩ = some (.int .u64 (wd (r.2.getD i p0).f 64 64 : Nat)) ∧ w.cell? ⟨g, i * 7 + 3, none⟩ = some (.int .u64 (wd (r.2.getD i p0).f 128 64 : Nat)) ∧ w.cell? ⟨g, i * 7 + 4, none⟩ = some (.int .u64 (wd (r.2.getD i p0).f 192 64 : Nat)) ∧ w.cell? ⟨g, i * 7 + 5, none⟩ = some (.int .i64 ((r.2.getD i p0).next : Int)) ∧ w.cell? ⟨g, i * 7 + 6, none⟩ = some (.int .i64 ((r.2.getD i p0).other : Int)) := by
  obtain ⟨base, hr⟩ := h.row
  obtain ⟨g', c', e, h1, h2⟩ := own_form hr (by omega)
  injection e with _ _ e
  subst e
  rw [List.getD_eq_getElem?_getD, List.getElem?_eq_getElem hi]
  have hc := fun j u (hj : j < 7) (e : r.2[i].cells[j]? = some u) => own_cell hr (g := g) rfl (i * 7 + j) ((parts_get r.2 i j hi hj).trans e)
  exact ⟨h1, h2, hc 0 _ (by decide) rfl, hc 1 _ (by decide) rfl, hc 2 _ (by decide) rfl, hc 3 _ (by decide) rfl, hc 4 _ (by decide) rfl, hc 5 _ (by decide) rfl, hc 6 _ (by decide) rfl⟩
theorem row_any {w : World} {v : Value} {l : List Nat} (h : IRw w v l) : ∃ a c, v = .slice a l.length c ∧ l.length ≤ c ∧ c ≤ maxLen := by
  rcases h.2 with ⟨rfl, e⟩ | ⟨g, cap, cur, rfl, h1, h2, h3, h4, h5, h6⟩
  · exact ⟨none, 0, by rw [e], by omega, by decide⟩
  · exact ⟨_, cap, rfl, h3, h4⟩

theorem OkW.seen {P : List Part} {t : Wst} (h : OkW P t) (k x : Nat) (hx : unS t.pl (t.seen.set k x) ≤ unS t.pl t.seen) : OkW P { t with seen := t.seen.set k x } :=
  ⟨by simpa using h.len, h.stk, by have := h.big; show t.L.length + unS t.pl (t.seen.set k x) ≤ _; omega, by have := h.pile; show t.stk.length + unS t.pl (t.seen.set k x) ≤ _; omega, h.lt⟩
theorem WkAt.pushP0 {w : World} {ρ : Nat → Nat} {o : Over} {vl vs vp : Value} {g cg : Nat} {S : List (Nat × Nat)} {t : Wst} (h : WkAt w ρ o vl vs vp g cg S t) (vp0 : Value) (hr0 : IRw w vp0 []) (ho0 : ∀ x, vp0.ownBlock = some x → vp.ownBlock = some x) (e : Nat) (W : World) (hW : Kp No w W) (gx : Nat) (hg : W.heap[gx]? = some (.cells #[.int .i64 (e : Int)] 3 (0, 0))) :
    ∃ v' w3 ρ3, (Builtin.append_ #[87, 87] 87 #[vp0, .slice (some ⟨gx, 0, none⟩) 1 1]).run Try.prog W = .ok v' w3 ∧ w3.cell? ⟨o.q, 5, none⟩ = some vp ∧ (∀ i, w3.frozen? ⟨o.q, i, none⟩ = false) ∧
      WkAt (w3.setCell ⟨o.q, 5, none⟩ v') ρ3 o vl vs v' g cg S { t with stk := [e] } ∧ Gr w ρ (w3.setCell ⟨o.q, 5, none⟩ v') ρ3 := by
  have hw := h.no hW
  obtain ⟨v', w3, hr, ho, hk0, hl⟩ := run_pushI W vp0 [] (owns_kept hr0 hW fun _ _ => id) e gx 1 hg (by simp)
  have hk : Kp (fun k => some k = vp.ownBlock) W w3 := hk0.mono fun k _ e1 => (ho0 k e1.symm).symm
  have hqv : ¬ some o.q = vp.ownBlock := fun e1 => by have := h.pr _ e1.symm; rw [h.qr] at this; cases this
  have hz := hk.size
  rcases hl with hl | hl
  · obtain ⟨h1, h2⟩ := hw.newP (ρ' := ρ) hk v' [e] (by simpa using ho) (fun _ _ => rfl) (fun x e1 => h.pr x (ho0 x (by rw [← hl]; exact e1))) (fun i hi => hw.hi i (by omega))
    exact ⟨v', w3, ρ, hr, hk.cell' hw.c5 hqv, fun i => (hk.frozen (p := ⟨o.q, i, none⟩) hw.lt hqv).trans (hw.warm i), h1, (Gr.of hW).trans h2⟩
  · have hW3 : W.heap.size < w3.heap.size := (own_lt ho hl).2
    obtain ⟨h1, h2⟩ := hw.newP (ρ' := roleAt ρ W.heap.size 4) hk v' [e] (by simpa using ho) (fun i hi => by unfold roleAt; rw [if_neg (by omega)]) (fun x e1 => by rw [hl] at e1; cases e1; unfold roleAt; rw [if_pos rfl]) (fun i hi => by unfold roleAt; rw [if_neg (by omega)]; exact hw.hi i (by omega))
    exact ⟨v', w3, _, hr, hk.cell' hw.c5 hqv, fun i => (hk.frozen (p := ⟨o.q, i, none⟩) hw.lt hqv).trans (hw.warm i), h1, (Gr.of hW).trans h2⟩
/-- in the midst of a reach: what it will come to -/
def RcMid (w : World) (ρ : Nat → Nat) (o : Over) (vs0 : Value) (S0 : List (Nat × Nat)) (fr pl : Nat) (A : Wst) (n : Nat) (m : Option Nat) (wr : World) : Prop :=
  ∃ ρr vl vs vp g cg S t, WkAt wr ρr o vl vs vp g cg S t ∧ Gr w ρ wr ρr ∧ OkW o.r.2 t ∧ t.pl = pl ∧ muS m t ≤ n ∧ rchS o.r.2 o.s.size fr n m t = A ∧ (∀ k, m = some k → k < o.r.2.length) ∧ vs = vs0 ∧ S = S0
/-- behind reach -/
def RcPost (w : World) (ρ : Nat → Nat) (o : Over) (vs : Value) (S : List (Nat × Nat)) (A : Wst) (e : Ending) (w' : World) : Prop :=
  e = .returned (.tuple #[]) ∧ ∃ ρ' vl vp g cg, WkAt w' ρ' o vl vs vp g cg S A ∧ Gr w ρ w' ρ' ∧ OkW o.r.2 A
/-- a frame's slots, by a function -/
def nthV : List Value → Nat → Value
  | [], _ => undef
  | x :: _, 0 => x
  | _ :: l, i + 1 => nthV l i
def fr0 (q : Nat) (u1 : Value) (fr : Nat) (U : Nat → Value) : Array Value := #[.pointer (some ⟨q, 0, none⟩), u1, .int .i64 (fr : Int), undef, undef, undef, U 6, U 7, U 8, U 9, U 10, U 11, U 12, U 13, U 14, U 15, U 16, U 17, U 18, U 19, U 20, U 21, U 22, U 23, U 24, U 25, U 26, U 27, U 28, U 29, U 30, U 31, U 32, U 33, U 34, U 35, U 36, U 37, U 38, U 39, U 40, U 41, U 42, U 43, U 44, U 45, U 46, U 47, U 48, U 49, U 50, U 51, U 52, U 53, U 54, U 55, U 56, U 57, U 58, U 59, U 60, U 61, U 62, U 63, U 64, U 65, U 66, U 67, U 68, U 69, U 70, U 71, U 72, U 73, U 74, U 75, U 76, U 77, U 78, U 79, U 80, U 81, U 82, U 83, U 84, U 85, U 86, U 87, U 88, U 89, U 90, U 91, U 92, U 93, U 94, U 95, U 96, U 97, U 98, U 99, U 100, U 101, U 102, U 103, U 104, U 105, U 106, U 107, U 108, U 109, U 110, U 111, U 112, U 113, U 114, U 115, U 116, U 117, U 118, U 119, U 120, U 121, U 122, U 123, U 124, U 125, U 126, U 127, U 128, U 129, U 130, U 131, U 132, U 133, U 134, U 135, U 136, U 137, U 138, U 139, U 140, U 141, U 142, U 143, U 144]
def RcJ (w : World) (ρ : Nat → Nat) (o : Over) (vs : Value) (S : List (Nat × Nat)) (fr pl : Nat) (A : Wst) (n : Nat) (a : Act) (wr : World) : Prop :=
  ∃ (u1 : Value) (U : Nat → Value), a = { tmps := fr0 o.q u1 fr U, defers := [] } ∧ RcMid w ρ o vs S fr pl A n none wr
def RcK (w : World) (ρ : Nat → Nat) (o : Over) (vs : Value) (S : List (Nat × Nat)) (fr pl : Nat) (A : Wst) (n : Nat) (a : Act) (wr : World) : Prop :=
  ∃ (k : Nat) (U : Nat → Value), a = { tmps := fr0 o.q (.int .i64 (k : Int)) fr U, defers := [] } ∧ RcMid w ρ o vs S fr pl A n (some k) wr
theorem RcJ.mk {w : World} {ρ : Nat → Nat} {o : Over} {vs : Value} {S : List (Nat × Nat)} {fr pl : Nat} {A : Wst} {n : Nat} {wr : World} (T : Array Value) (hm : RcMid w ρ o vs S fr pl A n none wr) (hT : T = fr0 o.q (nthV T.toList 1) fr (nthV T.toList)) : RcJ w ρ o vs S fr pl A n { tmps := T, defers := [] } wr := ⟨_, _, by rw [← hT], hm⟩
theorem RcK.mk {w : World} {ρ : Nat → Nat} {o : Over} {vs : Value} {S : List (Nat × Nat)} {fr pl : Nat} {A : Wst} {n k : Nat} {wr : World} (T : Array Value) (hm : RcMid w ρ o vs S fr pl A n (some k) wr) (hT : T = fr0 o.q (.int .i64 (k : Int)) fr (nthV T.toList)) : RcK w ρ o vs S fr pl A n { tmps := T, defers := [] } wr := ⟨k, _, by rw [← hT], hm⟩

set_option maxRecDepth 100000 in
set_option maxHeartbeats 64000000 in
theorem reach_any (w : World) (ρ : Nat → Nat) (o : Over) (vl vs vp : Value) (g cg : Nat) (S : List (Nat × Nat)) (t : Wst) (k0 fr : Nat) (h : WkAt w ρ o vl vs vp g cg S t) (hok : OkW o.r.2 { t with stk := [] }) (hk : k0 < o.r.2.length) (hP : okP o.r.2) (hPl : o.r.2.length ≤ 1000000) (hpl : t.pl ≤ 140737488355328) (n : Nat) (hn : 3 * o.r.2.length + 3 ≤ n) :
    Calls Try.prog 58 #[.pointer (some ⟨o.q, 0, none⟩), .int .i64 (k0 : Int), .int .i64 (fr : Int)] w (RcPost w ρ o vs S (rchS o.r.2 o.s.size fr n none { t with stk := [k0] })) := by
  obtain ⟨A, hA⟩ : ∃ A, rchS o.r.2 o.s.size fr n none { t with stk := [k0] } = A := ⟨_, rfl⟩
  rw [hA]
  obtain ⟨pl, hple⟩ : ∃ pl, t.pl = pl := ⟨_, rfl⟩
  rw [hple] at hpl
  have HA := Hid_mk hA
  have H := Hid_mk h
  have HOk := Hid_mk hok
  have HK := Hid_mk hk
  have HP := Hid_mk hP
  have HPl := Hid_mk hPl
  have HPe := Hid_mk hple
  have HN := Hid_mk hn
  clear hA h hok hk hP hPl hple hn
  go_enter Try.func58, Try.ntmps58
  refine scope_two_g 0 1 (by decide) (RcJ w ρ o vs S fr pl A) (RcK w ρ o vs S fr pl A) rfl rfl ?passB ?passA ?first
  case passB =>
    rintro n a' wr ⟨k, U, rfl, ρr, vl, vs, vp, g, cg, S, t, hw, hgr, hok, hpe, hmu, hgo, hkl, rfl, rfl⟩
    unfold fr0
    obtain ⟨tp, L, stk, seen, en⟩ := t
    obtain rfl : tp = pl := hpe
    have hk := hkl k rfl
    have hks : k < seen.length := by have := hok.len; simp only at this; omega
    obtain ⟨f, rfl⟩ : ∃ f, n = f + 1 := ⟨n - 1, by unfold muS at hmu; simp at hmu; omega⟩
    obtain ⟨x, hx⟩ : ∃ x, seen.getD k 0 = x := ⟨_, rfl⟩
    have hxg : seen[k] = x := by rw [← hx, List.getD_eq_getElem?_getD, List.getElem?_eq_getElem hks]; rfl
    have bs : wr.cell? ⟨g, k, none⟩ = some (.int .i64 (x : Int)) := by rw [← hxg]; exact own_cell hw.rn rfl k (in_get seen k hks)
    have bw : wr.frozen? ⟨g, k, none⟩ = false := own_warm hw.rn rfl k
    have b6 : wr.cell? ⟨o.q, 6, none⟩ = some (.slice (some ⟨g, 0, none⟩) seen.length cg) := hw.c6
    have b2 : wr.cell? ⟨o.q, 2, none⟩ = some (.int .i64 (tp : Int)) := hw.c2
    have hcg : seen.length ≤ cg ∧ cg ≤ 9223372036854775807 := by
      obtain ⟨g9, c9, e9, h9, h10⟩ := own_form (n := seen.length) hw.rn (by omega)
      injection e9 with _ _ e9
      subst e9
      unfold maxLen at h10
      omega
    have hki : (k : Int) < (seen.length : Int) := by omega
    have hk0 : (0 : Int) ≤ (k : Int) := Int.natCast_nonneg _
    have hp0 : (0 : Int) ≤ (tp : Int) := Int.natCast_nonneg _
    have hpi : (tp : Int) ≤ 140737488355328 := by omega
    have hwp : IntKind.i64.wrap ((tp : Int) + 1) = (tp : Int) + 1 := IntWalk.i64_in _ (by omega)
    have HW := Hid_mk hw
    have HGr := Hid_mk hgr
    have HOk2 := Hid_mk hok
    have HMu := Hid_mk hmu
    have HGo := Hid_mk hgo
    have HX := Hid_mk hx
    have HKs := Hid_mk hks
    have HK2 := Hid_mk hk
    clear hw hgr hok hmu hgo hx hxg hks hk hkl
    by_cases hxe : x = tp + 1
    · have hde : ((x : Int) == (tp : Int) + 1) = true := by rw [hxe]; simp
      have HG2 : Hid (rchS o.r.2 o.s.size fr f none ⟨tp, L, stk, seen, en⟩ = A) := Hid_mk (by
        have h := HGo.out
        rwa [rch_seen (by rw [HX.out]; exact hxe)] at h)
      have hmu2 : muS none ⟨tp, L, stk, seen, en⟩ ≤ f := by have h := HMu.out; unfold muS at h ⊢; simp at h ⊢; omega
      have HMu2 := Hid_mk hmu2
      clear hxe hmu2
      go_upto_region 5 with fail
      go_quiet (fail)
      clear bs bw b6 b2 hki hcg hde hwp
      go_wp2
      go_step3
      have hmid : ∀ nq, RcMid w ρ o vs S fr tp A f none (wr.drewN nq) := fun nq => ⟨ρr, vl, vs, vp, g, cg, S, _, HW.out.no (Kp.drewN nq (Kp.refl No _)), HGr.out.trans (Gr.of (Kp.drewN nq (Kp.refl No _))), HOk2.out, rfl, HMu2.out, HG2.out, (fun k e => by cases e), rfl, rfl⟩
      refine ⟨f, Nat.lt_succ_self f, .inl ⟨rfl, RcJ.mk _ (hmid _) (by kernel_rfl)⟩⟩
    · have hde : ((x : Int) == (tp : Int) + 1) = false := by rw [beq_eq_false_iff_ne]; omega
      have HXe := Hid_mk hxe
      clear hxe
      go_upto_region 5 with fail
      go_quiet (fail)
      clear hde
      go_wp2_with fail
      go_region
      go_upto_region 7 with fail
      have hk7 : Kp No wr (wr.drewN (nq + 1)) := Kp.drewN _ (Kp.refl No _)
      refine wp_name (fun V => WkAt V ρr o vl vs vp g cg S ⟨tp, L, stk, seen.set k (tp + 1), en⟩ ∧ Gr w ρ V ρr) ⟨(HW.out.no hk7).mark k (tp + 1) HKs.out, HGr.out.trans ((Gr.of hk7).trans (Gr.cell (by rw [HW.out.nr]; decide)))⟩ ?_
      rintro W2 ⟨hw2, hgr2⟩
      have HXs : Hid (¬ seen.getD k 0 = tp + 1) := Hid_mk (by rw [HX.out]; exact HXe.out)
      have hun := un_set (pl := tp) (seen := seen) (k := k) HKs.out HXs.out
      have HUn := Hid_mk hun
      have hpt := HP.out.get HK2.out
      have HPt := Hid_mk hpt
      have b0 := hw2.c0
      have b1 := hw2.c1
      have b2 : W2.cell? ⟨o.q, 2, none⟩ = some (.int .i64 (tp : Int)) := hw2.c2
      have b3 := hw2.c3
      have b5 := hw2.c5
      have b7 : W2.cell? ⟨o.q, 7, none⟩ = some (.int .i64 en) := hw2.c7
      have bw := hw2.warm
      have d0 := hw2.pg.c0
      obtain ⟨hc1, hc2, e0, -, -, -, -, e5, e6⟩ := hw2.pg.part k HK2.out
      unfold maxLen at hc2
      have hki : (k : Int) < (o.r.2.length : Int) := by have := HK2.out; omega
      have HW2 := Hid_mk hw2
      have HGr2 := Hid_mk hgr2
      obtain ⟨kd, hkd⟩ : ∃ kd, (o.r.2.getD k p0).kind = kd := ⟨_, rfl⟩
      obtain ⟨nx, hnx⟩ : ∃ nx, (o.r.2.getD k p0).next = nx := ⟨_, rfl⟩
      obtain ⟨ot, hot⟩ : ∃ ot, (o.r.2.getD k p0).other = ot := ⟨_, rfl⟩
      rw [hkd] at e0
      rw [hnx] at e5
      rw [hot] at e6
      have hkc : kd = 0 ∨ kd = 1 ∨ kd = 2 ∨ kd = 3 ∨ kd = 4 := by omega
      have HNx := Hid_mk hnx
      have HOt := Hid_mk hot
      have HKd := Hid_mk hkd
      clear hw2 hgr2 hun hpt hk7 hnx hot hkd hwp
      rcases hkc with rfl | rfl | rfl | rfl | rfl
      · have HG2 := Hid_mk ((rch_0 (n := o.s.size) (fr := fr) (f := f) (L := L) (stk := stk) (en := en) HXs.out HKd.out).symm.trans HGo.out)
        go_wp2
        go_step3
        have hmid : RcMid w ρ o vs S fr tp A f none (W2.setCell ⟨o.q, 7, none⟩ (.int .i64 (fr : Int))) := ⟨ρr, vl, vs, vp, g, cg, S, ⟨tp, L, stk, seen.set k (tp + 1), (fr : Int)⟩, HW2.out.set7 (fr : Int), HGr2.out.trans (Gr.cell (by rw [HW2.out.qr]; decide)), HOk2.out.mark HK2.out HXs.out, rfl, by have h := HMu.out; have h2 := HUn.out; unfold muS at h ⊢; simp at h ⊢; omega, HG2.out, (fun k e => by cases e), rfl, rfl⟩
        exact ⟨f, Nat.lt_succ_self f, .inl ⟨rfl, RcJ.mk _ hmid (by kernel_rfl)⟩⟩
      · have HG2 := Hid_mk ((rch_1 (n := o.s.size) (fr := fr) (f := f) (L := L) (stk := stk) (en := en) HXs.out HKd.out).symm.trans HGo.out)
        have hka : Kp No W2 (W2.alloc (.cells #[.int .i64 (k : Int), .int .i64 (fr : Int)] 125)) := (Kp.refl No W2).alloc _
        obtain ⟨v', w3, ρ3, hr3, i3, iw, hw3, hgr3⟩ := HW2.out.pushL (k, fr) (by have h1 := HOk2.out.big; have h2 := HPl.out; simp only at h1 ⊢; omega) _ hka W2.heap.size (heap_alloc_new W2 _)
        obtain ⟨g9, c9, rfl, -, -⟩ := own_form hw3.rl (by simp)
        have HW3 := Hid_mk hw3
        have HGr3 := Hid_mk hgr3
        have j3 := hka.cell' b3 id
        clear hka hw3 hgr3
        go_wp2_with (at_builtin; (refine ere.wpList_append_run rfl _ _ _ _ rfl hr3 ?_))
        (try go_step3)
        have hmid : RcMid w ρ o vs S fr tp A f none (w3.setCell ⟨o.q, 3, none⟩ (.slice (some ⟨g9, 0, none⟩) (L ++ [(k, fr)]).length c9)) := ⟨ρ3, _, vs, vp, g, cg, S, ⟨tp, L ++ [(k, fr)], stk, seen.set k (tp + 1), en⟩, HW3.out, HGr2.out.trans HGr3.out, HOk2.out.take HK2.out HXs.out fr, rfl, by have h := HMu.out; have h2 := HUn.out; unfold muS at h ⊢; simp at h ⊢; omega, HG2.out, (fun k e => by cases e), rfl, rfl⟩
        rw [show (L ++ [(k, fr)]).length = L.length + 1 by simp] at hmid
        exact ⟨f, Nat.lt_succ_self f, .inl ⟨rfl, RcJ.mk _ hmid (by kernel_rfl)⟩⟩
      · have HG2 : Hid (rchS o.r.2 o.s.size fr f (some nx) ⟨tp, L, ot :: stk, seen.set k (tp + 1), en⟩ = A) := Hid_mk (by have h := (rch_2 (n := o.s.size) (fr := fr) (f := f) (L := L) (stk := stk) (en := en) HXs.out HKd.out).symm.trans HGo.out; rw [HNx.out, HOt.out] at h; exact h)
        have hka : Kp No W2 (W2.alloc (.cells #[.int .i64 (ot : Int)] 3)).drew := ((Kp.refl No W2).alloc _).drew
        obtain ⟨v', w3, ρ3, hr3, i3, iw, hw3, hgr3⟩ := HW2.out.pushP ot (by have h1 := HOk2.out.pile; have h2 := HPl.out; simp only at h1 ⊢; omega) _ hka W2.heap.size (heap_alloc_new W2 _)
        obtain ⟨g9, c9, rfl, -, -⟩ := own_form hw3.rp (by simp)
        rw [show (ot :: stk).reverse.length = stk.length + 1 by simp] at hw3 hgr3 hr3
        have HW3 := Hid_mk hw3
        have HGr3 := Hid_mk hgr3
        have j3 : (W2.alloc (.cells #[.int .i64 (ot : Int)] 3)).cell? ⟨o.q, 5, none⟩ = some vp := hka.cell' b5 id
        clear hka hw3 hgr3
        go_upto_region 18 with fail
        clear hc1 hc2 e0 e5 d0 b0 b1 b2 b3 b7
        go_region_law (refine ere.step_append_run rfl _ _ _ _ rfl hr3 ?_)
        all_goals
          go_upto_region 19 with fail
          refine wp_name (fun V => V = w3.setCell ⟨o.q, 5, none⟩ (.slice (some ⟨g9, 0, none⟩) (stk.length + 1) c9)) rfl ?_
          rintro W4 hW4
          have hw4 := HW3.out
          have hgr4 := HGr3.out
          rw [← hW4] at hw4 hgr4
          obtain ⟨-, -, -, -, -, -, -, n5, -⟩ := hw4.pg.part k HK2.out
          rw [HNx.out] at n5
          have HW4 := Hid_mk hw4
          have HGr4 := Hid_mk hgr4
          clear hW4 hw4 hgr4 i3 iw j3 hr3
          go_wp2_with fail
          (try go_step3)
          have hmid : RcMid w ρ o vs S fr tp A f (some nx) W4 := ⟨ρ3, _, _, _, _, _, _, ⟨tp, L, ot :: stk, seen.set k (tp + 1), en⟩, HW4.out, HGr2.out.trans HGr4.out, HOk2.out.fork HK2.out HXs.out (by have := HPt.out.2.1; have := HOt.out; omega), rfl, by have h := HMu.out; have h2 := HUn.out; unfold muS at h ⊢; simp at h ⊢; omega, HG2.out, (fun k' e => by cases e; have := HPt.out.1; have := HNx.out; omega), rfl, rfl⟩
          exact ⟨f, Nat.lt_succ_self f, .inr ⟨rfl, RcK.mk _ hmid (by kernel_rfl)⟩⟩
      · have hg3 := rch_3 (n := o.s.size) (fr := fr) (f := f) (L := L) (stk := stk) (en := en) HXs.out HKd.out
        have HG3 := Hid_mk (hg3.symm.trans HGo.out)
        clear hg3
        by_cases hc : tp = 0
        · have HG2 : Hid (rchS o.r.2 o.s.size fr f (some nx) ⟨tp, L, stk, seen.set k (tp + 1), en⟩ = A) := Hid_mk (by have h := HG3.out; rw [if_pos hc, HNx.out] at h; exact h)
          have hci : ((tp : Int) != 0) = false := by simp; omega
          clear hc
          go_wp2_with fail
          (try go_step3)
          have hmid : ∀ V, Kp No W2 V → RcMid w ρ o vs S fr tp A f (some nx) V := fun V hV => ⟨ρr, vl, vs, vp, g, cg, S, ⟨tp, L, stk, seen.set k (tp + 1), en⟩, HW2.out.no hV, HGr2.out.trans (Gr.of hV), HOk2.out.mark HK2.out HXs.out, rfl, by have h := HMu.out; have h2 := HUn.out; unfold muS at h ⊢; simp at h ⊢; omega, HG2.out, (fun k' e => by cases e; have := HPt.out.1; have := HNx.out; omega), rfl, rfl⟩
          exact ⟨f, Nat.lt_succ_self f, .inr ⟨rfl, RcK.mk _ (hmid _ (Kp.refl No _)) (by kernel_rfl)⟩⟩
        · have HG2 : Hid (rchS o.r.2 o.s.size fr f none ⟨tp, L, stk, seen.set k (tp + 1), en⟩ = A) := Hid_mk (by have h := HG3.out; rw [if_neg hc] at h; exact h)
          have hci : ((tp : Int) != 0) = true := by simp; omega
          clear hc
          go_wp2_with fail
          (try go_step3)
          have hmid : ∀ V, Kp No W2 V → RcMid w ρ o vs S fr tp A f none V := fun V hV => ⟨ρr, vl, vs, vp, g, cg, S, ⟨tp, L, stk, seen.set k (tp + 1), en⟩, HW2.out.no hV, HGr2.out.trans (Gr.of hV), HOk2.out.mark HK2.out HXs.out, rfl, by have h := HMu.out; have h2 := HUn.out; unfold muS at h ⊢; simp at h ⊢; omega, HG2.out, (fun k' e => by cases e), rfl, rfl⟩
          exact ⟨f, Nat.lt_succ_self f, .inl ⟨rfl, RcJ.mk _ (hmid _ (Kp.refl No _)) (by kernel_rfl)⟩⟩
      · have hg3 := rch_4 (n := o.s.size) (fr := fr) (f := f) (L := L) (stk := stk) (en := en) HXs.out HKd.out
        have HG3 := Hid_mk (hg3.symm.trans HGo.out)
        clear hg3
        by_cases hc : tp = o.s.size
        · have HG2 : Hid (rchS o.r.2 o.s.size fr f (some nx) ⟨tp, L, stk, seen.set k (tp + 1), en⟩ = A) := Hid_mk (by have h := HG3.out; rw [if_pos hc, HNx.out] at h; exact h)
          have hci : ((tp : Int) != (o.s.size : Int)) = false := by simp; omega
          clear hc
          go_wp2_with fail
          go_upto_region 16 with fail
          go_quiet (fail)
          go_wp2_with fail
          (try go_step3)
          have hmid : ∀ V, Kp No W2 V → RcMid w ρ o vs S fr tp A f (some nx) V := fun V hV => ⟨ρr, vl, vs, vp, g, cg, S, ⟨tp, L, stk, seen.set k (tp + 1), en⟩, HW2.out.no hV, HGr2.out.trans (Gr.of hV), HOk2.out.mark HK2.out HXs.out, rfl, by have h := HMu.out; have h2 := HUn.out; unfold muS at h ⊢; simp at h ⊢; omega, HG2.out, (fun k' e => by cases e; have := HPt.out.1; have := HNx.out; omega), rfl, rfl⟩
          exact ⟨f, Nat.lt_succ_self f, .inr ⟨rfl, RcK.mk _ (hmid _ (Kp.drewN _ (Kp.refl No _))) (by kernel_rfl)⟩⟩
        · have HG2 : Hid (rchS o.r.2 o.s.size fr f none ⟨tp, L, stk, seen.set k (tp + 1), en⟩ = A) := Hid_mk (by have h := HG3.out; rw [if_neg hc] at h; exact h)
          have hci : ((tp : Int) != (o.s.size : Int)) = true := by simp; omega
          clear hc
          go_wp2_with fail
          go_upto_region 16 with fail
          go_quiet (fail)
          go_wp2_with fail
          (try go_step3)
          have hmid : ∀ V, Kp No W2 V → RcMid w ρ o vs S fr tp A f none V := fun V hV => ⟨ρr, vl, vs, vp, g, cg, S, ⟨tp, L, stk, seen.set k (tp + 1), en⟩, HW2.out.no hV, HGr2.out.trans (Gr.of hV), HOk2.out.mark HK2.out HXs.out, rfl, by have h := HMu.out; have h2 := HUn.out; unfold muS at h ⊢; simp at h ⊢; omega, HG2.out, (fun k' e => by cases e), rfl, rfl⟩
          exact ⟨f, Nat.lt_succ_self f, .inl ⟨rfl, RcJ.mk _ (hmid _ (Kp.drewN _ (Kp.refl No _))) (by kernel_rfl)⟩⟩
  case passA =>
    rintro n a' wr ⟨u1, U, rfl, ρr, vl, vs, vp, g, cg, S, t, hw, hgr, hok, hpe, hmu, hgo, -, rfl, rfl⟩ hB
    have HB := Hid_mk hB
    clear hB
    unfold fr0
    obtain ⟨tp, L, stk, seen, en⟩ := t
    obtain rfl : tp = pl := hpe
    cases stk with
    | nil =>
      have hgo2 : (⟨tp, L, [], seen, en⟩ : Wst) = A := by cases n <;> exact hgo
      obtain ⟨a, c, rfl, -, -⟩ := row_any hw.rp
      have b5 : wr.cell? ⟨o.q, 5, none⟩ = some (.slice a 0 c) := hw.c5
      have HPost : Hid (RcPost w ρ o vs S A (.returned (.tuple #[])) wr) := Hid_mk (by rw [← hgo2]; exact ⟨rfl, ρr, vl, _, g, cg, hw, hgr, hok⟩)
      clear hgo2 hgo hw hgr hok hmu HB
      go_wp2
      simp only [jumpF]
      go_end0
      exact HPost.out
    | cons k st =>
      obtain ⟨f, rfl⟩ : ∃ f, n = f + 1 := ⟨n - 1, by unfold muS at hmu; simp at hmu; omega⟩
      obtain ⟨M, hM⟩ : ∃ M, st.length = M := ⟨_, rfl⟩
      have hlen : (k :: st).reverse.length = M + 1 := by simp [hM]
      obtain ⟨gv, cv, rfl, hv1, hv2⟩ := own_form hw.rp (by simp)
      have hM1 : M ≤ 1000001 := by have h1 := hok.pile; have h2 := HPl.out; simp only [List.length_cons] at h1; omega
      have hcell : wr.cell? ⟨gv, M, none⟩ = some (.int .i64 (k : Int)) := own_cell hw.rp rfl M (by
        have h := in_get (k :: st).reverse M (by rw [hlen]; omega)
        rw [h]
        simp [← hM])
      have hrow : IRw wr (.slice (some ⟨gv, 0, none⟩) st.reverse.length cv) st.reverse := by
        have h := own_take hw.rp st.reverse.length (by simp)
        rw [show List.take (st.reverse.length * 1) ((k :: st).reverse.flatMap inC) = st.reverse.flatMap inC by
          rw [List.reverse_cons, List.flatMap_append]
          rw [List.take_append_of_le_length (by rw [in_len]; omega), List.take_of_length_le (by rw [in_len]; omega)]] at h
        exact h
      have hrl : st.reverse.length = M := by simp [hM]
      have hset : ∀ V, Kp No wr V → WkAt (V.setCell ⟨o.q, 5, none⟩ (.slice (some ⟨gv, 0, none⟩) st.reverse.length cv)) ρr o vl vs (.slice (some ⟨gv, 0, none⟩) st.reverse.length cv) g cg S ⟨tp, L, st, seen, en⟩ := fun V hV => (hw.no hV).set5 (.slice (some ⟨gv, 0, none⟩) st.reverse.length cv) st (owns_kept hrow hV fun _ _ => id) (fun y e => hw.pr y e)
      rw [hrl] at hset
      have b5 : wr.cell? ⟨o.q, 5, none⟩ = some (.slice (some ⟨gv, 0, none⟩) (M + 1) cv) := by rw [← hlen]; exact hw.c5
      have bw := hw.warm
      have hmuf : muS (some k) ⟨tp, L, st, seen, en⟩ ≤ f := by unfold muS at hmu ⊢; simp at hmu ⊢; omega
      have hok2 : OkW o.r.2 ⟨tp, L, st, seen, en⟩ := ⟨hok.len, fun y hy => hok.stk y (by simp [hy]), hok.big, by have := hok.pile; simp only [List.length_cons] at this ⊢; omega, hok.lt⟩
      have hkP := hok.stk k (by simp)
      have hcv : M + 1 ≤ cv ∧ cv ≤ 9223372036854775807 := by rw [hlen] at hv1; unfold maxLen at hv2; omega
      have hM0 : (0 : Int) ≤ (M : Int) := Int.natCast_nonneg _
      have hMi : (M : Int) ≤ 1000001 := by omega
      have hgr5 : ∀ V, Kp No wr V → Gr wr ρr (V.setCell ⟨o.q, 5, none⟩ (.slice (some ⟨gv, 0, none⟩) M cv)) ρr := fun V hV => (Gr.of hV).trans (Gr.cell (by rw [hw.qr]; decide))
      have HSet := Hid_mk hset
      have HGr := Hid_mk (fun V hV => hgr.trans (hgr5 V hV))
      have HOk2 := Hid_mk hok2
      have HMu := Hid_mk hmuf
      have HGo := Hid_mk (show rchS o.r.2 o.s.size fr f (some k) ⟨tp, L, st, seen, en⟩ = A from hgo)
      have HKP := Hid_mk hkP
      have HW0 := Hid_mk hw
      have HGr0 := Hid_mk hgr
      have hwm : IntKind.i64.wrap (((M + 1 : Nat) : Int) - 1) = (M : Int) := by rw [IntWalk.i64_in _ (by omega)]; omega
      have hwm2 : IntKind.i64.wrap ((M : Int) + 1 - 1) = (M : Int) := by rw [IntWalk.i64_in _ (by omega)]; omega
      clear hM hlen hv1 hv2 hM1 hrow hrl hset hmuf hok2 hkP hgr5 hw hgr hok hmu hgo
      go_upto_region 3 with fail
      go_quiet (fail)
      go_upto_region 4 with fail
      go_region
      clear hcell b5 bw hcv hwm hwm2
      go_wp2
      apply wp_label
      rename_i hK0
      have hk7 : Kp No wr (wr.drewN (nq + 1)) := Kp.drewN _ (Kp.refl No _)
      have hmid : RcMid w ρ o vs S fr tp A f (some k) ((wr.drewN (nq + 1)).setCell ⟨o.q, 5, none⟩ (.slice (some ⟨gv, 0, none⟩) M cv)) := ⟨ρr, vl, vs, _, g, cg, S, ⟨tp, L, st, seen, en⟩, HSet.out _ hk7, HGr.out _ hk7, HOk2.out, rfl, HMu.out, HGo.out, (fun k' e => by cases e; exact HKP.out), rfl, rfl⟩
      exact hK0 _ _ (HB.out f _ _ (Nat.lt_succ_self f) (RcK.mk _ hmid (by kernel_rfl)))
  case first =>
    intro pass
    have HPass := Hid_mk pass
    have hka : Kp No w (w.alloc (.cells #[.int .i64 (k0 : Int)] 3)) := (Kp.refl No w).alloc _
    have h := H.out
    obtain ⟨vp0, hvp0, hr0, ho0⟩ : ∃ vp0, (vp = .slice none 0 0 ∧ vp0 = .slice none 0 0 ∨ ∃ gv n c, vp = .slice (some ⟨gv, 0, none⟩) n c ∧ n ≤ c ∧ c ≤ maxLen ∧ vp0 = .slice (some ⟨gv, 0, none⟩) 0 c) ∧ IRw w vp0 [] ∧ ∀ x, vp0.ownBlock = some x → vp.ownBlock = some x := by
      have hr := h.rp
      rcases h.rp.2 with ⟨e1, e2⟩ | ⟨gv, cap, cur, e1, h1, h2, h3, h4, h5, h6⟩
      · exact ⟨_, .inl ⟨e1, rfl⟩, World.ownsRow_nil _ _ _ _, fun x e => by cases e⟩
      · rw [e1] at hr
        refine ⟨_, .inr ⟨gv, _, cap, e1, h3, h4, rfl⟩, ?_, fun x e => by rw [e1]; exact e⟩
        have := own_take hr 0 (Nat.zero_le _)
        simpa [IRw] using this
    obtain ⟨v', w3, ρ3, hr3, i3, iw, hw3, hgr3⟩ := h.pushP0 vp0 hr0 ho0 k0 _ hka w.heap.size (heap_alloc_new w _)
    obtain ⟨g9, c9, rfl, -, -⟩ := own_form hw3.rp (by simp)
    have hmid : RcMid w ρ o vs S fr pl A n none (w3.setCell ⟨o.q, 5, none⟩ (.slice (some ⟨g9, 0, none⟩) [k0].reverse.length c9)) := by
      refine ⟨ρ3, vl, vs, _, g, cg, S, _, hw3, hgr3, ⟨HOk.out.len, fun y hy => ?_, HOk.out.big, ?_, HOk.out.lt⟩, HPe.out, ?_, HA.out, (fun k e => by cases e), rfl, rfl⟩
      · simp only [List.mem_singleton] at hy
        rw [hy]
        exact HK.out
      · have h1 := un_le t.pl t.seen
        have h2 := HOk.out.len
        simp only [List.length_singleton] at h1 h2 ⊢
        omega
      · have h1 := un_le t.pl t.seen
        have h2 := HOk.out.len
        have h3 := HN.out
        unfold muS
        simp at h1 h2 ⊢
        omega
    have HMid := Hid_mk hmid
    have b5 : w.cell? ⟨o.q, 5, none⟩ = some vp := h.c5
    have j5 := hka.cell' b5 id
    clear pass hka h hr0 ho0 hw3 hgr3 hmid
    rcases hvp0 with ⟨rfl, rfl⟩ | ⟨gv, nv, cv, rfl, hv1, hv2, rfl⟩
    · go_wp2_with (at_builtin; (refine ere.wpList_append_run rfl _ _ _ _ rfl hr3 ?_))
      apply wp_label
      rename_i hK0
      exact hK0 _ _ (HPass.out n _ _ (RcJ.mk _ HMid.out (by kernel_rfl)))
    · unfold maxLen at hv2
      go_wp2_with (at_builtin; (refine ere.wpList_append_run rfl _ _ _ _ rfl hr3 ?_))
      apply wp_label
      rename_i hK0
      exact hK0 _ _ (HPass.out n _ _ (RcJ.mk _ HMid.out (by kernel_rfl)))

end Go.Proofs.Ytaneblecgjahbab.nfa

namespace Go.Proofs.Ytaneblecgjahbab.nfa
open Go.RowKit Go.Proofs.Ytaneblecgjahbab.tre Go.Proofs.Ytaneblecgjahbab.cls
set_option linter.unusedVariables false

/-- what is laid leads on below B -/
def BdS (B : Nat) (ps : List Part) : Prop := ∀ p ∈ ps, p.next < B ∧ p.other < B ∧ p.kind ≤ 4
theorem BdS.add {B : Nat} {ps : List Part} (h : BdS B ps) {p : Part} (hp : p.next < B ∧ p.other < B ∧ p.kind ≤ 4) : BdS B (ps ++ [p]) := fun x hx => by
  rcases List.mem_append.1 hx with hx | hx
  · exact h x hx
  · simp only [List.mem_singleton] at hx
    rw [hx]
    exact hp
theorem BdS.set {B : Nat} {ps : List Part} (h : BdS B ps) (i n : Nat) (hn : n < B) : BdS B (setN ps i n) := fun x hx => by
  obtain ⟨j, hj, rfl⟩ := List.getElem_of_mem hx
  unfold setN at hj ⊢
  rw [List.getElem_modify]
  have hj' : j < ps.length := by simpa using hj
  have := h _ (List.getElem_mem hj')
  split
  · exact ⟨hn, this.2.1, this.2.2⟩
  · exact this
def BdC (core : Nat → List Part → Nat × List Part) : Prop := ∀ (B nx : Nat) (qs : List Part), BdS B qs → nx < B → (core nx qs).2.length ≤ B → BdS B (core nx qs).2 ∧ (core nx qs).1 < B
theorem wrap_bd {m : Option (Bool × Bool)} {core : Nat → List Part → Nat × List Part} (h : BdC core) (hp : ∀ nx qs, ∃ l, (core nx qs).2 = qs ++ l) : BdC (wrapM m core) := by
  intro B next ps hb hn hl
  rcases m with _ | ⟨no, ag⟩
  · exact h B next ps hb hn hl
  · cases ag with
    | true =>
      obtain ⟨l, e⟩ := hp ps.length (ps ++ [⟨2, nul, 0, next⟩])
      have hl2 : (core ps.length (ps ++ [⟨2, nul, 0, next⟩])).2.length ≤ B := by
        have h1 : (setN (core ps.length (ps ++ [⟨2, nul, 0, next⟩])).2 ps.length (core ps.length (ps ++ [⟨2, nul, 0, next⟩])).1).length ≤ B := hl
        rwa [setN_len] at h1
      have hlt : ps.length < B := by rw [e] at hl2; simp at hl2; omega
      obtain ⟨h1, h2⟩ := h B ps.length (ps ++ [⟨2, nul, 0, next⟩]) (hb.add ⟨by show 0 < B; omega, hn, Nat.le_of_ble_eq_true rfl⟩) hlt hl2
      refine ⟨h1.set _ _ h2, ?_⟩
      show (if no = true then _ else _) < B
      split
      · exact hlt
      · exact h2
    | false =>
      have hl2 : ((core next ps).2 ++ [(⟨2, nul, (core next ps).1, next⟩ : Part)]).length ≤ B := hl
      rw [List.length_append] at hl2
      simp only [List.length_singleton] at hl2
      obtain ⟨h1, h2⟩ := h B next ps hb hn (by omega)
      exact ⟨h1.add ⟨h2, hn, Nat.le_of_ble_eq_true rfl⟩, by show (core next ps).2.length < B; omega⟩
theorem leaf_bd (k : Int) (f : Nat → Bool) : BdC (leafM k f) := by
  intro B nx qs hb hn hl
  have hz : 0 < B := by omega
  unfold leafM addS at hl ⊢
  split
  · rw [if_pos (by assumption)] at hl
    exact ⟨hb.add ⟨hn, hz, Nat.le_of_ble_eq_true rfl⟩, by simp at hl ⊢; omega⟩
  · rw [if_neg (by assumption)] at hl
    split
    · rw [if_pos (by assumption)] at hl
      exact ⟨hb.add ⟨hn, hz, Nat.le_of_ble_eq_true rfl⟩, by simp at hl ⊢; omega⟩
    · rw [if_neg (by assumption)] at hl
      split
      · rw [if_pos (by assumption)] at hl
        exact ⟨hb.add ⟨hn, hz, Nat.le_of_ble_eq_true rfl⟩, by simp at hl ⊢; omega⟩
      · exact ⟨hb, hn⟩
theorem lay_bd : ∀ (t : Tr) (m : Option (Bool × Bool)) (bk : Bool), BdC (layM t m bk)
  | .mk k f [], m, bk => by
    have e : layM (.mk k f []) m bk = wrapM m (leafM k f) := by funext nx qs; exact layM_nil k f m bk nx qs
    rw [e]
    exact wrap_bd (leaf_bd k f) (leaf_pre k f)
  | .mk k f [u], m, bk => by
    have e : layM (.mk k f [u]) m bk = layM u (nextM m k) bk := by funext nx qs; exact layM_one k f u m bk nx qs
    rw [e]
    exact lay_bd u _ bk
  | .mk k f [a, b], m, bk => by
    have e : layM (.mk k f [a, b]) m bk = wrapM m (twoM k a b bk) := by funext nx qs; exact layM_two k f a b m bk nx qs
    rw [e]
    have ha := lay_bd a none bk
    have hb := lay_bd b none bk
    refine wrap_bd ?_ (fun nx qs => ?_)
    · intro B nx qs hq hn hl
      unfold twoM at hl ⊢
      by_cases hk : k = 2
      · rw [if_pos hk] at hl ⊢
        cases bk with
        | true =>
          have hl : (layM b none true (layM a none true nx qs).1 (layM a none true nx qs).2).2.length ≤ B := hl
          obtain ⟨l, e⟩ := lay_pre b none true (layM a none true nx qs).1 (layM a none true nx qs).2
          have h1 : (layM a none true nx qs).2.length ≤ B := by rw [e, List.length_append] at hl; omega
          obtain ⟨h2, h3⟩ := ha B nx qs hq hn h1
          exact hb B _ _ h2 h3 hl
        | false =>
          have hl : (layM a none false (layM b none false nx qs).1 (layM b none false nx qs).2).2.length ≤ B := hl
          obtain ⟨l, e⟩ := lay_pre a none false (layM b none false nx qs).1 (layM b none false nx qs).2
          have h1 : (layM b none false nx qs).2.length ≤ B := by rw [e, List.length_append] at hl; omega
          obtain ⟨h2, h3⟩ := hb B nx qs hq hn h1
          exact ha B _ _ h2 h3 hl
      · rw [if_neg hk] at hl ⊢
        unfold addS at hl ⊢
        have hl : ((layM b none bk nx (layM a none bk nx qs).2).2 ++ [(⟨2, nul, (layM a none bk nx qs).1, (layM b none bk nx (layM a none bk nx qs).2).1⟩ : Part)]).length ≤ B := hl
        rw [List.length_append] at hl
        simp only [List.length_singleton] at hl
        obtain ⟨l, e⟩ := lay_pre b none bk nx (layM a none bk nx qs).2
        have h1 : (layM a none bk nx qs).2.length ≤ B := by rw [e, List.length_append] at hl; omega
        obtain ⟨h2, h3⟩ := ha B nx qs hq hn h1
        obtain ⟨h4, h5⟩ := hb B nx _ h2 hn (by omega)
        exact ⟨h4.add ⟨h3, h5, Nat.le_of_ble_eq_true rfl⟩, by show (layM b none bk nx (layM a none bk nx qs).2).2.length < B; omega⟩
    · unfold twoM
      by_cases hk : k = 2
      · rw [if_pos hk]
        cases bk with
        | true =>
          obtain ⟨l, e⟩ := lay_pre a none true nx qs
          obtain ⟨l', e'⟩ := lay_pre b none true (layM a none true nx qs).1 (layM a none true nx qs).2
          exact ⟨l ++ l', by show (layM b none true _ _).2 = _; rw [e', e, List.append_assoc]⟩
        | false =>
          obtain ⟨l, e⟩ := lay_pre b none false nx qs
          obtain ⟨l', e'⟩ := lay_pre a none false (layM b none false nx qs).1 (layM b none false nx qs).2
          exact ⟨l ++ l', by show (layM a none false _ _).2 = _; rw [e', e, List.append_assoc]⟩
      · rw [if_neg hk]
        obtain ⟨l, e⟩ := lay_pre a none bk nx qs
        obtain ⟨l', e'⟩ := lay_pre b none bk nx (layM a none bk nx qs).2
        exact ⟨l ++ l' ++ [⟨2, nul, (layM a none bk nx qs).1, (layM b none bk nx (layM a none bk nx qs).2).1⟩], (congrArg (· ++ [_]) (e'.trans (congrArg (· ++ l') e))).trans (by simp only [List.append_assoc])⟩
  | .mk k f (x :: y :: u :: v), m, bk => by
    intro B nx qs hq hn hl
    have e : layM (.mk k f (x :: y :: u :: v)) m bk nx qs = (nx, qs) := by rw [layM.eq_def]
    rw [e]
    exact ⟨hq, hn⟩
/-- a tree's program: it begins with a part of its own, and they lead on to their own -/
theorem prog_ok (t : Tr) (bk : Bool) : okP (progS t bk).2 ∧ (progS t bk).1 < (progS t bk).2.length ∧ (progS t bk).2.length ≤ t.size + 1 := by
  obtain ⟨l, e⟩ := lay_pre t none bk 0 [p0]
  have e : (progS t bk).2 = [p0] ++ l := e
  have hpos : 0 < (progS t bk).2.length := by rw [e]; simp
  have h := lay_bd t none bk (progS t bk).2.length 0 [p0] (fun p hp => by simp only [List.mem_singleton] at hp; rw [hp]; exact ⟨hpos, hpos, Nat.le_of_ble_eq_true rfl⟩) hpos (Nat.le_refl _)
  have hl := (lay_len t none bk 0 [p0]).1
  simp at hl
  exact ⟨h.1, h.2, by show (layM t none bk 0 [p0]).2.length ≤ _; omega⟩

end Go.Proofs.Ytaneblecgjahbab.nfa

namespace Go.Proofs.Ytaneblecgjahbab.nfa
open Go.RowKit Go.Proofs.Ytaneblecgjahbab.sum Go.Proofs.Ytaneblecgjahbab.kept Go.Proofs.Ytaneblecgjahbab.pop Go.Proofs.Ytaneblecgjahbab.cls Go.Proofs.Ytaneblecgjahbab.tre Go.Proofs.Ytaneblecgjahbab.ere
set_option linter.unusedVariables false

theorem make_ints (w : World) (n : Nat) (hn : n ≤ 1000000000) :
    ∃ w', (Instr.makeSlice 87 (.int .i64 (n : Int)) (.int .i64 (n : Int))).run Try.prog w = .ok (.slice (some ⟨w.heap.size, 0, none⟩) n n) w' ∧ IRw w' (.slice (some ⟨w.heap.size, 0, none⟩) n n) (List.replicate n 0) ∧ Kp No w w' := by
  obtain ⟨i0, hi, hz0, hz1, hz2⟩ := info_parts infoIn
  obtain ⟨w', hr, ho, hg⟩ := run_make_full (P := Try.prog) w 0 87 3 i0 (.int .i64 0) 1 Try.underlying87 hi hz0 hz1 .i64 .i64 n (by rw [hz2]; omega) (by unfold maxLen; omega) (Nat.zero_le _)
  refine ⟨w', hr, ?_, (Kp.refl No w).grown hg fun k hk e => by cases e⟩
  have e : (madeCells (Value.int .i64 0).cells (n * 1)).toList = (List.replicate n 0).flatMap inC := by
    apply List.ext_getElem
    · simp [madeCells, inC]
    · intro i h1 h2
      have h3 : i < (List.replicate n 0).length := by simp [madeCells] at h1; simpa using h1
      have h4 := in_get (List.replicate n 0) i h3
      rw [List.getElem?_eq_getElem h2] at h4
      have h4 := Option.some.inj h4
      rw [h4]
      simp [madeCells, Value.cells, Nat.mod_one]
  rw [e] at ho
  simpa [IRw] using ho

/-- a new walk: what there was is as it was -/
def NwPost (w : World) (pb po gp cp : Nat) (r : Nat × List Part) (bk : Bool) (s : ByteArray) (pl : Nat) (e : Ending) (w' : World) : Prop :=
  ∃ q ρ g cg, e = .returned (.pointer (some ⟨q, 0, none⟩)) ∧ WkAt w' ρ ⟨q, pb, po, gp, cp, r, bk, s⟩ (.slice none 0 0) (.slice none 0 0) (.slice none 0 0) g cg [] ⟨pl, [], [], List.replicate r.2.length 0, -1⟩ ∧ (∀ i, i < w.heap.size → ρ i = 0) ∧ Kp No w w'

set_option maxRecDepth 100000 in
set_option maxHeartbeats 4000000 in
theorem newWalk_any (w : World) (pb po gp cp : Nat) (r : Nat × List Part) (bk : Bool) (s : ByteArray) (pl : Nat) (h : PgRd w pb po r bk gp cp) (hl : r.2.length ≤ 1000000) :
    Calls Try.prog 38 #[.pointer (some ⟨pb, po, none⟩), .string s, .int .i64 (pl : Int)] w (NwPost w pb po gp cp r bk s pl) := by
  obtain ⟨w1, hr, ho, hk1⟩ := make_ints w r.2.length (by omega)
  obtain ⟨n, hn⟩ : ∃ n, r.2.length = n := ⟨_, rfl⟩
  have HO := Hid_mk ho
  have HK1 := Hid_mk hk1
  have H := Hid_mk h
  have HN := Hid_mk hn
  have d0 := h.c0
  rw [hn] at d0 hr
  have hni : (n : Int) ≤ 1000000 := by omega
  clear h hl hn ho hk1
  go_enter Try.func38, Try.ntmps38
  go_wp2
  go_ret
  have hlt1 := (own_lt HO.out (g := w.heap.size) rfl).2
  have hka : Kp No w1 (w1.alloc (.cells #[.pointer (some ⟨pb, po, none⟩), .string s, .int .i64 (pl : Int), .slice none 0 0, .slice none 0 0, .slice none 0 0, .slice (some ⟨w.heap.size, 0, none⟩) n n, .int .i64 (-1)] 89)) := (Kp.refl No w1).alloc _
  have hkf := HK1.out.trans' hka
  have hpl := H.out.lt
  have hlen : (List.replicate r.2.length 0).length = n := by rw [List.length_replicate]; exact HN.out
  have ho := HO.out
  rw [HN.out] at ho
  refine ⟨w1.heap.size, fun i => if i = w1.heap.size then 1 else if i = w.heap.size then 5 else 0, w.heap.size, n, rfl, ⟨by simp, by simp, by simp, by simp, by simp, by simp, ?_, by simp, fun i => by simp, World.ownsRow_nil _ _ _ _, World.ownsRow_nil _ _ _ _, World.ownsRow_nil _ _ _ _, ?_, if_pos rfl, fun x e => (by cases e), fun x e => (by cases e), fun x e => (by cases e), ?_, H.out.kept hkf id id, ?_, ?_, ?_⟩, ?_, hkf⟩
  · rw [hlen]; simp
  · rw [HN.out, List.length_replicate]
    have := owns_kept ho hka fun _ _ => id
    simpa [IRw] using this
  · rw [if_neg (by omega), if_pos rfl]
  · show (if pb = w1.heap.size then 1 else if pb = w.heap.size then 5 else 0) = 0
    rw [if_neg (by omega), if_neg (by omega)]
  · show (if gp = w1.heap.size then 1 else if gp = w.heap.size then 5 else 0) = 0
    rw [if_neg (by omega), if_neg (by omega)]
  · intro i hi
    have hi : (w1.alloc (.cells #[.pointer (some ⟨pb, po, none⟩), .string s, .int .i64 (pl : Int), .slice none 0 0, .slice none 0 0, .slice none 0 0, .slice (some ⟨w.heap.size, 0, none⟩) n n, .int .i64 (-1)] 89)).heap.size ≤ i := hi
    have e1 : (w1.alloc (.cells #[.pointer (some ⟨pb, po, none⟩), .string s, .int .i64 (pl : Int), .slice none 0 0, .slice none 0 0, .slice none 0 0, .slice (some ⟨w.heap.size, 0, none⟩) n n, .int .i64 (-1)] 89)).heap.size = w1.heap.size + 1 := by simp
    show (if i = w1.heap.size then 1 else if i = w.heap.size then 5 else 0) = 0
    rw [if_neg (by omega), if_neg (by omega)]
  · intro i hi
    show (if i = w1.heap.size then 1 else if i = w.heap.size then 5 else 0) = 0
    rw [if_neg (by omega), if_neg (by omega)]

/-- a walk's steps to a stand, at most -/
def fuelS (o : Over) : Nat := 3 * o.r.2.length + 3
/-- begin -/
def begS (o : Over) (t : Wst) : Wst := rchS o.r.2 o.s.size t.pl (fuelS o) none { t with stk := [o.r.1] }

set_option maxRecDepth 100000 in
set_option maxHeartbeats 4000000 in
theorem begin_any (w : World) (ρ : Nat → Nat) (o : Over) (vl vs vp : Value) (g cg : Nat) (S : List (Nat × Nat)) (t : Wst) (h : WkAt w ρ o vl vs vp g cg S t) (hok : OkW o.r.2 { t with stk := [] }) (hP : okP o.r.2) (hst : o.r.1 < o.r.2.length) (hPl : o.r.2.length ≤ 1000000) (hpl : t.pl ≤ 140737488355328) :
    Calls Try.prog 39 #[.pointer (some ⟨o.q, 0, none⟩)] w (RcPost w ρ o vs S (begS o t)) := by
  have hc : ∀ V, Kp No w V → Calls Try.prog 58 #[.pointer (some ⟨o.q, 0, none⟩), .int .i64 (o.r.1 : Int), .int .i64 (t.pl : Int)] V (RcPost w ρ o vs S (begS o t)) := fun V hV =>
    (reach_any V ρ o vl vs vp g cg S t o.r.1 t.pl (h.no hV) hok hst hP hPl hpl (fuelS o) (Nat.le_refl _)).mono fun e w' hp => by
      obtain ⟨he, ρ', a, b, c, d, h1, h2, h3⟩ := hp
      exact ⟨he, ρ', a, b, c, d, h1, (Gr.of hV).trans h2, h3⟩
  have HC := Hid_mk hc
  have b0 := h.c0
  have b2 := h.c2
  have d1 := h.pg.c1
  clear h hok hP hst hPl hpl hc
  go_enter Try.func39, Try.ntmps39
  go_still_tail 12, (by kernel_rfl)
  clear b0 b2 d1
  go_wp2_with fail
  with_reducible refine (HC.out _ (Kp.refl No w).drew).mono ?_
  rintro e w' ⟨rfl, hrest⟩
  have HR := Hid_mk hrest
  clear hrest
  go_wp2
  go_end0
  exact ⟨rfl, HR.out⟩

theorem ends_any (w : World) (ρ : Nat → Nat) (o : Over) (vl vs vp : Value) (g cg : Nat) (S : List (Nat × Nat)) (t : Wst) (h : WkAt w ρ o vl vs vp g cg S t) :
    Calls Try.prog 40 #[.pointer (some ⟨o.q, 0, none⟩)] w fun e w' => e = .returned (.bool (t.en != -1)) ∧ w = w' := by
  have b7 := h.c7
  clear h
  go_enter Try.func40, Try.ntmps40
  go_wp2
  go_ret
  exact ⟨rfl, rfl⟩

end Go.Proofs.Ytaneblecgjahbab.nfa
