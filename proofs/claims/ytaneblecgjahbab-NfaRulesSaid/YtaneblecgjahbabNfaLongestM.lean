/- Package nfa: longest: of each place the longest match, the last place first. slices.Backward over a row of complex numbers, and All, that goes by it. -/
import Derived.Test.YtaneblecgjahbabNfaFind
import Derived.RangeFuncNested
import Derived.RangeFuncBound
import Derived.RangeFuncCalls
import Derived.RangeFuncLeaves
import Derived.Shelf.Abstract
import Derived.Shelf.RegionOpen
import Derived.WalkKit
import Derived.OwnWalkIn
import Derived.TacticsInMore
import Derived.LoopNIn
import Derived.LoopIn

namespace Go.Proofs.Ytaneblecgjahbab.nfa
open Go.RowKit Go.Proofs.Ytaneblecgjahbab.sum Go.Proofs.Ytaneblecgjahbab.kept Go.Proofs.Ytaneblecgjahbab.pop Go.Proofs.Ytaneblecgjahbab.cls Go.Proofs.Ytaneblecgjahbab.tre Go.Proofs.Ytaneblecgjahbab.ere Go.Proofs.Ytaneblecgjahbab.fl Go.Proofs.Ytaneblecgjahbab.mrk Go.Proofs.Ytaneblecgjahbab.spl
set_option linter.unusedVariables false

/-- a walk in the midst of a call, beside blocks that came since and are not the walk's -/
def WkB (w : World) (r : Nat × List Part) (bk : Bool) (s : ByteArray) (B : Nat → Prop) (o : Over) (t : Wst) (wr : World) : Prop :=
  (o.r = r ∧ o.bk = bk ∧ o.s = s ∧ WOk o) ∧ ∃ ρ vl vs vp g cg S, WkAt wr ρ o vl vs vp g cg S t ∧ OkW o.r.2 { t with stk := [] } ∧ t.pl ≤ o.s.size ∧ (∀ i, i < w.heap.size → ρ i = 0) ∧ Kp No w wr ∧ ∀ i, B i → w.heap.size ≤ i ∧ i < wr.heap.size ∧ ρ i = 0 ∧ i ≠ o.pb ∧ i ≠ o.gp
section
variable {w : World} {r : Nat × List Part} {bk : Bool} {s : ByteArray} {B : Nat → Prop} {o : Over} {t : Wst} {wr : World}
theorem WkB.kp (h : WkB w r bk s B o t wr) : Kp No w wr := by
  obtain ⟨-, ρ, vl, vs, vp, g, cg, S, -, -, -, -, h, -⟩ := h
  exact h
theorem WkB.le (h : WkB w r bk s B o t wr) : t.pl ≤ s.size := by
  obtain ⟨⟨-, -, rfl, -⟩, ρ, vl, vs, vp, g, cg, S, -, -, h, -⟩ := h
  exact h
/-- other memory has turned, what is beside is another one -/
theorem WkB.re (h : WkB w r bk s B o t wr) {w' : World} {B' : Nat → Prop} (hk : Kp B wr w') (hB : ∀ i, B' i → i < w'.heap.size ∧ (B i ∨ wr.heap.size ≤ i)) : WkB w r bk s B' o t w' := by
  obtain ⟨h0, ρ, vl, vs, vp, g, cg, S, h1, h2, h3, h4, h5, h6⟩ := h
  have hpl := h1.pg.lt
  refine ⟨h0, ρ, vl, vs, vp, g, cg, S, h1.kept hk fun i hi e => ⟨(h6 i e).2.2.1, (h6 i e).2.2.2.1, (h6 i e).2.2.2.2⟩, h2, h3, h4, h5.trans hk fun i hi e => by have := (h6 i e).1; omega, fun i e => ?_⟩
  obtain ⟨a, b⟩ := hB i e
  rcases b with b | b
  · obtain ⟨c1, c2, c3, c4, c5⟩ := h6 i b
    exact ⟨c1, a, c3, c4, c5⟩
  · exact ⟨Nat.le_trans h5.size b, a, h1.hi i b, by omega, by omega⟩
theorem WkB.no (h : WkB w r bk s B o t wr) {w' : World} (hk : Kp No wr w') : WkB w r bk s B o t w' := h.re hk.to fun i e => by
  obtain ⟨h0, ρ, vl, vs, vp, g, cg, S, h1, h2, h3, h4, h5, h6⟩ := h
  exact ⟨Nat.lt_of_lt_of_le (h6 i e).2.1 hk.size, .inl e⟩
def BbPost (w : World) (r : Nat × List Part) (bk : Bool) (s : ByteArray) (B : Nat → Prop) (o : Over) (wr : World) (v : Value) (t : Wst) (e : Ending) (w' : World) : Prop := e = .returned v ∧ WkB w r bk s B o t w' ∧ Kp (fun i => ¬ B i) wr w'
theorem BbPost.is {w : World} {r : Nat × List Part} {bk : Bool} {s : ByteArray} {B : Nat → Prop} {o : Over} {wr : World} {v : Value} {t : Wst} {e : Ending} {w' : World} (h : BbPost w r bk s B o wr v t e w') : e = .returned v ∧ WkB w r bk s B o t w' ∧ Kp (fun i => ¬ B i) wr w' := h
theorem wkb_next {ρ : Nat → Nat} {ρ2 : Nat → Nat} {w' : World} {vl vs vp : Value} {g cg : Nat} {S : List (Nat × Nat)} {t' : Wst} (h0 : o.r = r ∧ o.bk = bk ∧ o.s = s ∧ WOk o) (h4 : ∀ i, i < w.heap.size → ρ i = 0) (h5 : Kp No w wr) (h6 : ∀ i, B i → w.heap.size ≤ i ∧ i < wr.heap.size ∧ ρ i = 0 ∧ i ≠ o.pb ∧ i ≠ o.gp) (hw : WkAt w' ρ2 o vl vs vp g cg S t') (hg : Gr wr ρ w' ρ2) (hok : OkW o.r.2 { t' with stk := [] }) (hpl : t'.pl ≤ o.s.size) : WkB w r bk s B o t' w' ∧ Kp (fun i => ¬ B i) wr w' := by
  refine ⟨⟨h0, ρ2, vl, vs, vp, g, cg, S, hw, hok, hpl, fun i hi => (hg.same i (Nat.lt_of_lt_of_le hi h5.size)).2 (h4 i hi), h5.trans hg.kp fun i hi e => e (h4 i hi), fun i e => ?_⟩, hg.kp.mono fun i hi e hb => e (h6 i hb).2.2.1⟩
  obtain ⟨c1, c2, c3, c4⟩ := h6 i e
  exact ⟨c1, Nat.lt_of_lt_of_le c2 hg.kp.size, (hg.same i c2).2 c3, c4⟩
theorem begin_b (h : WkB w r bk s B o t wr) : Calls Try.prog 39 #[.pointer (some ⟨o.q, 0, none⟩)] wr (BbPost w r bk s B o wr (.tuple #[]) (begS (oS r bk s) t)) := by
  obtain ⟨⟨rfl, rfl, rfl, hO⟩, ρ, vl, vs, vp, g, cg, S, h1, h2, h3, h4, h5, h6⟩ := h
  refine (begin_any wr ρ o vl vs vp g cg S t h1 h2 hO.ok hO.st hO.pl (by have := hO.sz; omega)).mono ?_
  rintro e w' ⟨he, ρ2, a, b, c, d, g1, g2, g3⟩
  refine ⟨he, wkb_next ⟨rfl, rfl, rfl, hO⟩ h4 h5 h6 g1 g2 ⟨g3.len, fun x hx => (by cases hx), g3.big, ?_, g3.lt⟩ (by rw [beg_pl]; exact h3)⟩
  have h7 : (begS o t).seen.length = o.r.2.length := g3.len
  have h8 := un_le (begS o t).pl (begS o t).seen
  show 0 + unS (begS o t).pl (begS o t).seen ≤ o.r.2.length + 1
  omega
theorem ends_b (h : WkB w r bk s B o t wr) : Calls Try.prog 40 #[.pointer (some ⟨o.q, 0, none⟩)] wr fun e w' => e = .returned (.bool (t.en != -1)) ∧ wr = w' := by
  obtain ⟨-, ρ, vl, vs, vp, g, cg, S, h1, -⟩ := h
  exact ends_any wr ρ o vl vs vp g cg S t h1
theorem match_b (h : WkB w r bk s B o t wr) : Calls Try.prog 45 #[.pointer (some ⟨o.q, 0, none⟩)] wr fun e w' => e = .returned (matchV (oS r bk s) t) ∧ Kp No wr w' := by
  obtain ⟨⟨rfl, rfl, rfl, hO⟩, ρ, vl, vs, vp, g, cg, S, h1, -⟩ := h
  exact match_any wr ρ o vl vs vp g cg S t h1
theorem step_b (h : WkB w r bk s B o t wr) {a p : Nat} (hat : atS (oS r bk s) t = some (a, p)) : Calls Try.prog 41 #[.pointer (some ⟨o.q, 0, none⟩)] wr (BbPost w r bk s B o wr (.bool true) (stepS (oS r bk s) (byteS (oS r bk s) a) p t)) := by
  obtain ⟨⟨rfl, rfl, rfl, hO⟩, ρ, vl, vs, vp, g, cg, S, h1, h2, h3, h4, h5, h6⟩ := h
  have es : ∀ b, stepS (oS o.r o.bk o.s) b p t = stepS o b p t := fun b => stL_oS o b _ _
  rw [es]
  have hat : atS o t = some (a, p) := hat
  obtain ⟨ha, hp⟩ := at_lt h3 hat
  have hc := step_any wr ρ o vl vs vp g cg S t h1 h2 h2.lt hO.ok hO.pl h3 hO.sz a p hat ha
  rw [byte_at o a ha] at hc
  refine hc.mono ?_
  rintro e w' ⟨he, ρ2, a', b, c, d, f, S2, g1, g2, g3⟩
  exact ⟨he, wkb_next ⟨rfl, rfl, rfl, hO⟩ h4 h5 h6 g1 g2 g3 (by rw [step_pl]; exact hp)⟩
theorem step_bno (h : WkB w r bk s B o t wr) (hat : atS (oS r bk s) t = none) : Calls Try.prog 41 #[.pointer (some ⟨o.q, 0, none⟩)] wr (BbPost w r bk s B o wr (.bool false) t) := by
  have hh := h
  obtain ⟨⟨rfl, rfl, rfl, hO⟩, ρ, vl, vs, vp, g, cg, S, h1, h2, h3, h4, h5, h6⟩ := h
  exact (step_end wr ρ o vl vs vp g cg S t h1 h3 hO.sz hat).mono fun e w' ⟨he, hk⟩ => ⟨he, hh.no hk, hk.to⟩
end
/-- newWalk -/
theorem new_b (w : World) (pb po gp cp : Nat) (r : Nat × List Part) (bk : Bool) (s : ByteArray) (pl : Nat) (h : PgRd w pb po r bk gp cp) (hok : okP r.2) (hst : r.1 < r.2.length) (hl : r.2.length ≤ 1000000) (hs : s.size ≤ 140737488355327) (hpl : pl ≤ s.size) :
    Calls Try.prog 38 #[.pointer (some ⟨pb, po, none⟩), .string s, .int .i64 (pl : Int)] w fun e w' => ∃ o : Over, e = .returned (.pointer (some ⟨o.q, 0, none⟩)) ∧ WkB w r bk s (fun _ => False) o (newS (oS r bk s) pl) w' := by
  refine (newWalk_any w pb po gp cp r bk s pl h hl).mono fun e w' hp => ?_
  obtain ⟨q, ρ, he, ⟨ρ', vl, vs, vp, g, cg, S, h1, h2, h3, h4⟩, h5, h6⟩ := hp.is hpl
  refine ⟨⟨q, pb, po, gp, cp, r, bk, s⟩, he, ⟨rfl, rfl, rfl, hok, hst, hl, hs⟩, ρ', vl, vs, vp, g, cg, S, h1, h3, h4, fun i hi => (h2.same i (Nat.lt_of_lt_of_le hi h6.size)).2 (h5 i hi), h6, fun i e => e.elim⟩

/-- numbers of matches, one behind the other -/
def cxC (x : Nat × Nat) : List Value := [C (x.1 : Int) (x.2 : Int)]
theorem cx_len (l : List (Nat × Nat)) : (l.flatMap cxC).length = l.length * 1 := by
  induction l with
  | nil => rfl
  | cons e es ih => rw [List.flatMap_cons, List.length_append, ih, List.length_cons]; simp [cxC]; omega
abbrev CRw (w : World) (v : Value) (l : List (Nat × Nat)) : Prop := w.ownsRow 0 82 1 v l.length (l.flatMap cxC)
theorem infoCx : (Try.prog.info? 82).map (fun i => (i.zero, i.size, i.bytes)) = some (some (.complex .f64 0 0), 1, 16) := by kernel_rfl
theorem run_pushC (w : World) (v : Value) (l : List (Nat × Nat)) (h : CRw w v l) (e : Nat × Nat) (g c : Nat) (hg : w.heap[g]? = some (.cells #[C (e.1 : Int) (e.2 : Int)] 82 (0, 0))) (hn : l.length ≤ 1000000000000) :
    ∃ v' w', (Builtin.append_ #[79, 79] 79 #[v, .slice (some ⟨g, 0, none⟩) 1 c]).run Try.prog w = .ok v' w' ∧ CRw w' v' (l ++ [e]) ∧ Kp (fun k => some k = v.ownBlock) w w' ∧ (v'.ownBlock = v.ownBlock ∨ v'.ownBlock = some w.heap.size) := by
  obtain ⟨i0, hi, hz0, hz1, hz2⟩ := info_parts infoCx
  obtain ⟨v', w', hr, k1, k2, k3, k4⟩ := run_append_own_at (P := Try.prog) w 0 79 79 82 i0 _ 1 16 Try.underlying79 hi hz0 hz1 hz2 rfl (by decide) v l.length _ h ⟨g, 0, none⟩ 1 c (cxC e)
    rfl (World.news_of_block (cs := #[C (e.1 : Int) (e.2 : Int)]) hg) (by intro u hu; simp [cxC] at hu; rcases hu with rfl; rfl) (by unfold maxLen; omega) (by omega) (Nat.zero_le _)
  exact ⟨v', w', hr, by simpa [CRw] using k1, (Kp.refl _ _).grown k2 fun k _ e => e.symm, k4⟩

/-- of each place the longest one, the last place first -/
def loRun (o : Over) : Nat → Wst → List (Nat × Nat) → List (Nat × Nat)
  | 0, _, l => l
  | f + 1, t, l => match atS o (begS o t) with
    | none => if (begS o t).en = -1 then l else l ++ [((begS o t).pl, (begS o t).en.toNat)]
    | some (a, p) => loRun o f (stepS o (byteS o a) p (begS o t)) (if (begS o t).en = -1 then l else l ++ [((begS o t).pl, (begS o t).en.toNat)])
theorem row_lit {w : World} {v : Value} {l : List (Nat × Nat)} (h : CRw w v l) : ∃ a c, v = .slice a l.length c ∧ l.length ≤ c ∧ c ≤ maxLen := by
  rcases h.2 with ⟨rfl, e⟩ | ⟨g, cap, cur, rfl, h1, h2, h3, h4, h5, h6⟩
  · exact ⟨none, 0, by rw [e], by omega, by decide⟩
  · exact ⟨_, cap, rfl, h3, h4⟩
def LoJ (w : World) (r : Nat × List Part) (s : ByteArray) (mb : Nat) (R : List (Nat × Nat)) (n : Nat) (a : Act) (wr : World) : Prop :=
  ∃ U7 U8 U9 U10 U11 U12 U13 U14 U15 U16 U17 U18 U19 U20 U21 U22 U23 U24 U25 v o t l, a = { tmps := #[.pointer (some ⟨mb, 0, none⟩), .string s, undef, undef, .slice none 0 0, v, .pointer (some ⟨o.q, 0, none⟩), U7, U8, U9, U10, U11, U12, U13, U14, U15, U16, U17, U18, U19, U20, U21, U22, U23, U24, U25], defers := [] } ∧ WkB w r true s (fun i => v.ownBlock = some i) o t wr ∧ remS (oS r true s) t + 1 ≤ n ∧ loRun (oS r true s) n t l = R ∧ CRw wr v l ∧ BdW s.size t ∧ l.length + n ≤ s.size + 1
/-- a row of numbers; what there was is as it was -/
def LoPost (w : World) (R : List (Nat × Nat)) (e : Ending) (w' : World) : Prop := ∃ v, e = .returned v ∧ CRw w' v R ∧ Kp No w w' ∧ (∀ i, v.ownBlock = some i → w.heap.size ≤ i)

set_option maxRecDepth 100000 in
set_option maxHeartbeats 16000000 in
theorem longest_any (w : World) (mb gp cp : Nat) (r : Nat × List Part) (s : ByteArray) (h : PgRd w mb 3 r true gp cp) (hok : okP r.2) (hst : r.1 < r.2.length) (hpl : r.2.length ≤ 1000000) (hs : s.size ≤ 1000000000) :
    Calls Try.prog 57 #[.pointer (some ⟨mb, 0, none⟩), .string s] w (LoPost w (loRun (oS r true s) (s.size + 1) (newS (oS r true s) s.size) [])) := by
  obtain ⟨R, hR⟩ : ∃ R, loRun (oS r true s) (s.size + 1) (newS (oS r true s) s.size) [] = R := ⟨_, rfl⟩
  rw [hR]
  have hc := new_b w mb 3 gp cp r true s s.size h hok hst hpl (by omega) (Nat.le_refl _)
  have HC := Hid_mk hc
  have HR := Hid_mk hR
  have HS := Hid_mk hs
  clear h hok hst hpl hs hc hR
  go_enter Try.func57, Try.ntmps57
  go_wp2_with fail
  refine scope_one_g 0 (LoJ w r s mb R) rfl ?pass ?first
  case pass =>
    rintro n a' wr ⟨U7, U8, U9, U10, U11, U12, U13, U14, U15, U16, U17, U18, U19, U20, U21, U22, U23, U24, U25, v, o, t, l, rfl, hw, hrem, hrun, hrow, hbd, hlen⟩
    obtain ⟨f, rfl⟩ : ∃ f, n = f + 1 := ⟨n - 1, by omega⟩
    rw [loRun] at hrun
    have hle := hw.le
    have HB := Hid_mk (begin_b hw)
    have HRem := Hid_mk hrem
    have HRun := Hid_mk hrun
    have HLe := Hid_mk hle
    have HRow := Hid_mk hrow
    have HBd := Hid_mk hbd
    have HLen := Hid_mk hlen
    clear hw hrem hrun hle hrow hbd hlen HC HR
    go_wp2_with fail
    with_reducible refine HB.out.mono ?_
    intro e w2 hp
    rcases hp.is with ⟨rfl, hw2, hk2⟩
    obtain ⟨t1, ht1⟩ : ∃ t1, begS (oS r true s) t = t1 := ⟨_, rfl⟩
    have hrun := HRun.out
    rw [ht1] at hw2 hrun
    have hpl1 : t1.pl = t.pl := by rw [← ht1]; exact beg_pl _ _
    have HPl1 := Hid_mk hpl1
    have HBd1 := Hid_mk (show BdW s.size t1 by rw [← ht1]; exact beg_bd HLe.out HBd.out)
    have HRow2 := Hid_mk (owns_kept HRow.out hk2 fun k e1 e2 => e2 e1)
    have HW2 := Hid_mk hw2
    clear hp hw2 hk2 ht1 HB HRun hpl1
    by_cases hen : t1.en = -1
    · have he := ends_b HW2.out
      rw [hen] at he
      have HE := Hid_mk (show Calls Try.prog 40 #[.pointer (some ⟨o.q, 0, none⟩)] w2 fun e w' => e = .returned (.bool false) ∧ w2 = w' from he)
      rw [if_pos hen] at hrun
      clear hen he
      go_wp2_with fail
      with_reducible refine HE.out.mono ?_
      rintro e w3 ⟨rfl, rfl⟩
      cases hat : atS (oS r true s) t1 with
      | none =>
        rw [hat] at hrun
        have HSt := Hid_mk (step_bno HW2.out hat)
        have HRf := Hid_mk (show l = R from hrun)
        clear hrun hat
        go_wp2_with fail
        with_reducible refine HSt.out.mono ?_
        intro e w7 hp
        rcases hp.is with ⟨rfl, hw7, hk7⟩
        have HK := Hid_mk hw7.kp
        have HRow7 := Hid_mk (owns_kept HRow2.out hk7 fun k e1 e2 => e2 e1)
        have HOw := Hid_mk (show ∀ i, (v).ownBlock = some i → w.heap.size ≤ i by
          obtain ⟨-, _, _, _, _, _, _, _, -, -, -, -, -, h9⟩ := hw7
          exact fun i e => (h9 i e).1)
        clear hp hw7 hk7
        go_wp2
        simp only [jumpF]
        go_ret
        exact ⟨_, rfl, by rw [← HRf.out]; exact HRow7.out, HK.out, HOw.out⟩
      | some y =>
        obtain ⟨a, p⟩ := y
        rw [hat] at hrun
        have HSt := Hid_mk (step_b HW2.out hat)
        have hrs := rem_step (o := oS r true s) (b := byteS (oS r true s) a) (by rw [HPl1.out]; exact HLe.out) hat
        have HRs := Hid_mk hrs
        have HRun := Hid_mk (show loRun (oS r true s) f (stepS (oS r true s) (byteS (oS r true s) a) p t1) (l) = R from hrun)
        clear hrun hat hrs
        go_wp2_with fail
        with_reducible refine HSt.out.mono ?_
        intro e w7 hp
        rcases hp.is with ⟨rfl, hw7, hk7⟩
        have HW7 := Hid_mk hw7
        have HRow7 := Hid_mk (owns_kept HRow2.out hk7 fun k e1 e2 => e2 e1)
        clear hp hw7 hk7
        go_wp2
        go_step3
        exact ⟨rfl, f, Nat.lt_succ_self f, _, _, _, _, _, _, _, _, _, _, _, _, _, _, _, _, _, _, _, v, o, _, l, rfl, HW7.out, by have h1 := HRs.out; have h2 := HRem.out; have h3 := HPl1.out; rw [remB] at h1 h2 ⊢; rw [remB] at h1; omega, HRun.out, HRow7.out, step_bd HBd1.out, by have := HLen.out; simp; omega⟩
    · have he := ends_b HW2.out
      have hne : (t1.en != -1) = true := by simpa using hen
      rw [hne] at he
      have HE := Hid_mk he
      rw [if_neg hen] at hrun
      obtain ⟨e1, he1⟩ : ∃ e1, t1.en.toNat = e1 := ⟨_, rfl⟩
      have hbd1 := HBd1.out
      have hei : t1.en = (e1 : Int) := by have := hbd1.2.1; omega
      have hmt := match_b HW2.out
      rw [show matchV (oS r true s) t1 = C (t1.pl : Int) (e1 : Int) by rw [← hei]; rfl] at hmt
      have HMt := Hid_mk hmt
      rw [he1] at hrun
      have HRun1 := Hid_mk hrun
      clear he hen hne hrun he1 hbd1 hei hmt
      go_wp2_with fail
      with_reducible refine HE.out.mono ?_
      rintro e w3 ⟨rfl, rfl⟩
      go_wp2_with fail
      with_reducible refine HMt.out.mono ?_
      rintro e w4 ⟨rfl, hk4⟩
      have hka : Kp No w4 (w4.alloc (.cells #[.complex .f64 (fl (t1.pl : Int)) (fl (e1 : Int))] 82)) := (Kp.refl No w4).alloc _
      have hrow4 : CRw (w4.alloc (.cells #[.complex .f64 (fl (t1.pl : Int)) (fl (e1 : Int))] 82)) v l := owns_kept (owns_kept HRow2.out hk4 fun k _ e => e) hka fun k _ e => e
      obtain ⟨v', w5, hr, hrow5, hk5, hown⟩ := run_pushC _ v l hrow4 (t1.pl, e1) w4.heap.size 1 (heap_alloc_new w4 _) (by have h1 := HLen.out; have h2 := HS.out; omega)
      have hw5 := (HW2.out.no (hk4.trans' hka)).re (hk5.mono fun k _ (e : some k = v.ownBlock) => (e.symm : v.ownBlock = some k)) (B' := fun i => v'.ownBlock = some i) (fun i (e : v'.ownBlock = some i) => ⟨(hrow5.lt i e).2, by
        rcases hown with h | h
        · exact .inl (h.symm.trans e)
        · have h2 := h.symm.trans e
          injection h2 with h2
          exact .inr (Nat.le_of_eq h2)⟩)
      have HW5 := Hid_mk hw5
      have HRow5 := Hid_mk hrow5
      have hrun := HRun1.out
      clear hk4 hka hrow4 hrow5 hk5 hown hw5 HRun1 HRow2 HE HMt HW2
      unfold C
      go_wp2_with (at_builtin; (refine ere.wpList_append_run rfl _ _ _ _ rfl hr ?_))
      clear hr
      cases hat : atS (oS r true s) t1 with
      | none =>
        rw [hat] at hrun
        have HSt := Hid_mk (step_bno HW5.out hat)
        have HRf := Hid_mk (show l ++ [(t1.pl, e1)] = R from hrun)
        clear hrun hat
        go_wp2_with fail
        with_reducible refine HSt.out.mono ?_
        intro e w7 hp
        rcases hp.is with ⟨rfl, hw7, hk7⟩
        have HK := Hid_mk hw7.kp
        have HRow7 := Hid_mk (owns_kept HRow5.out hk7 fun k e1 e2 => e2 e1)
        have HOw := Hid_mk (show ∀ i, (v').ownBlock = some i → w.heap.size ≤ i by
          obtain ⟨-, _, _, _, _, _, _, _, -, -, -, -, -, h9⟩ := hw7
          exact fun i e => (h9 i e).1)
        clear hp hw7 hk7
        go_wp2
        simp only [jumpF]
        go_ret
        exact ⟨_, rfl, by rw [← HRf.out]; exact HRow7.out, HK.out, HOw.out⟩
      | some y =>
        obtain ⟨a, p⟩ := y
        rw [hat] at hrun
        have HSt := Hid_mk (step_b HW5.out hat)
        have hrs := rem_step (o := oS r true s) (b := byteS (oS r true s) a) (by rw [HPl1.out]; exact HLe.out) hat
        have HRs := Hid_mk hrs
        have HRun := Hid_mk (show loRun (oS r true s) f (stepS (oS r true s) (byteS (oS r true s) a) p t1) (l ++ [(t1.pl, e1)]) = R from hrun)
        clear hrun hat hrs
        go_wp2_with fail
        with_reducible refine HSt.out.mono ?_
        intro e w7 hp
        rcases hp.is with ⟨rfl, hw7, hk7⟩
        have HW7 := Hid_mk hw7
        have HRow7 := Hid_mk (owns_kept HRow5.out hk7 fun k e1 e2 => e2 e1)
        clear hp hw7 hk7
        go_wp2
        go_step3
        exact ⟨rfl, f, Nat.lt_succ_self f, _, _, _, _, _, _, _, _, _, _, _, _, _, _, _, _, _, _, _, v', o, _, l ++ [(t1.pl, e1)], rfl, HW7.out, by have h1 := HRs.out; have h2 := HRem.out; have h3 := HPl1.out; rw [remB] at h1 h2 ⊢; rw [remB] at h1; omega, HRun.out, HRow7.out, step_bd HBd1.out, by have := HLen.out; simp; omega⟩
  case first =>
    intro pass
    have HP := Hid_mk pass
    clear pass
    go_wp2_with fail
    with_reducible refine HC.out.mono ?_
    rintro e w1 ⟨o, rfl, hw⟩
    have HW := Hid_mk (hw.re (Kp.refl _ _) (B' := fun i => (Value.slice none 0 0).ownBlock = some i) fun i e => by cases e)
    clear hw
    go_wp2
    apply wp_label
    rename_i hK0
    exact hK0 _ _ (HP.out (s.size + 1) _ _ ⟨_, _, _, _, _, _, _, _, _, _, _, _, _, _, _, _, _, _, _, .slice none 0 0, o, _, [], rfl, HW.out, by rw [remB]; exact Nat.le_refl _, HR.out, World.ownsRow_nil _ _ _ _, new_bd _ _ _, by simp⟩)

end Go.Proofs.Ytaneblecgjahbab.nfa

namespace Go.Proofs.Ytaneblecgjahbab.nfa
open Go.RowKit Go.Shelf Go.Proofs.Ytaneblecgjahbab.sum Go.Proofs.Ytaneblecgjahbab.kept Go.Proofs.Ytaneblecgjahbab.pop Go.Proofs.Ytaneblecgjahbab.cls Go.Proofs.Ytaneblecgjahbab.tre Go.Proofs.Ytaneblecgjahbab.ere Go.Proofs.Ytaneblecgjahbab.fl Go.Proofs.Ytaneblecgjahbab.mrk Go.Proofs.Ytaneblecgjahbab.spl
set_option linter.unusedVariables false
attribute [local go_sem] Oper.semAt_some

/-- what has come when k rounds are over -/
def upto {α : Type} (f : Nat → α) (k : Nat) : List α := (List.range k).map f
theorem upto_succ {α : Type} (f : Nat → α) (k : Nat) : upto f (k + 1) = upto f k ++ [f k] := by simp [upto, List.range_succ]
theorem upto_length {α : Type} (f : Nat → α) (k : Nat) : (upto f k).length = k := by simp [upto]
/-- a place and a number that are not too great -/
abbrev Sm := { x : Nat × Nat × Nat // x.2.1 ≤ 1000000000 ∧ x.2.2 ≤ 1000000000 }
theorem sm_at {zs : List (Nat × Nat)} (h : ∀ x ∈ zs, x.1 ≤ 1000000000 ∧ x.2 ≤ 1000000000) (j : Nat) : (zs[j]?.getD (0, 0)).1 ≤ 1000000000 ∧ (zs[j]?.getD (0, 0)).2 ≤ 1000000000 := by
  cases e : zs[j]? with
  | none => exact ⟨Nat.zero_le _, Nat.zero_le _⟩
  | some x => exact h x (List.mem_of_getElem? e)
/-- the row from its end on: place and number -/
def bw (zs : List (Nat × Nat)) (h : ∀ x ∈ zs, x.1 ≤ 1000000000 ∧ x.2 ≤ 1000000000) (t : Nat) : Sm := ⟨(zs.length - 1 - t, zs[zs.length - 1 - t]?.getD (0, 0)), sm_at h _⟩
theorem bw_at {zs : List (Nat × Nat)} (h : ∀ x ∈ zs, x.1 ≤ 1000000000 ∧ x.2 ≤ 1000000000) {j : Nat} (hj : j < zs.length) : bw zs h (zs.length - (j + 1)) = ⟨(j, zs[j]?.getD (0, 0)), sm_at h j⟩ := by
  apply Subtype.ext
  show (zs.length - 1 - (zs.length - (j + 1)), zs[zs.length - 1 - (zs.length - (j + 1))]?.getD (0, 0)) = _
  rw [show zs.length - 1 - (zs.length - (j + 1)) = j by omega]
theorem bw_all (zs : List (Nat × Nat)) (h : ∀ x ∈ zs, x.1 ≤ 1000000000 ∧ x.2 ≤ 1000000000) : (upto (bw zs h) zs.length).map (fun x : Sm => x.1.2) = zs.reverse := by
  apply List.ext_getElem
  · simp [upto]
  · intro i h1 h2
    simp only [List.length_reverse] at h2
    simp only [upto, bw, List.map_map, List.getElem_map, List.getElem_range, Function.comp_apply, List.getElem_reverse]
    rw [List.getElem?_eq_getElem (by omega)]
    rfl

/-- a round turns neither the row nor its place -/
abbrev KpB (Bs b : Nat) : World → World → Prop := Kp fun i => i ≠ Bs ∧ i ≠ b
set_option maxRecDepth 100000 in
set_option maxHeartbeats 2000000 in
theorem back1_in (F : Fence) (n : Nat) (h8 : F.fn 79) (hro : F.round = none) (hn : 1 ≤ n) (l Bs b off cap : Nat) (zs : List (Nat × Nat)) (hz : ∀ x ∈ zs, x.1 ≤ 1000000000 ∧ x.2 ≤ 1000000000) (hreach : zs.length * 16 ≤ 140737488351232) (J Jx : List Sm → World → Prop)
    (hY : ∀ pre x W, J pre W → pre.length < zs.length → YieldAt F (n - 1) Try.prog l #[.int .i64 (x.1.1 : Int), .complex .f64 (fl (x.1.2.1 : Int)) (fl (x.1.2.2 : Int))] W fun e W' =>
      (e = .returned (.bool true) ∧ J (pre ++ [x]) W' ∧ KpB Bs b W W') ∨ (e = .returned (.bool false) ∧ Jx (pre ++ [x]) W'))
    (W : World) (hBs : W.cell? ⟨Bs, 0, none⟩ = some (.slice (some ⟨b, off, none⟩) zs.length cap)) (hc : ∀ j, j < zs.length → W.cell? ⟨b, off + j, none⟩ = some (.complex .f64 (fl ((zs[j]?.getD (0, 0)).1 : Int)) (fl ((zs[j]?.getD (0, 0)).2 : Int)))) (h0 : J [] W) :
    CallsIn F n Try.prog 79 #[.func (.yield l) #[] #[], .pointer (some ⟨Bs, 0, none⟩)] W fun e W' => (∃ v, e = .returned v) ∧
      ((∃ ys, ys = upto (bw zs hz) zs.length ∧ J ys W') ∨ (∃ pre, (∃ k, k ≤ zs.length ∧ pre = upto (bw zs hz) k) ∧ Jx pre W')) := by
  obtain ⟨len, hlen⟩ : ∃ len, zs.length = len := ⟨_, rfl⟩
  rw [hlen] at hY hBs hc hreach ⊢
  refine callsIn_of_wp Try.func79 rfl h8 ?_ hro
  simp only [Try.ntmps79, List.size_toArray, List.length_cons, List.length_nil, Nat.reduceAdd, Nat.reduceSub, Array.replicate_succ, Array.replicate_zero, List.push_toArray, List.append_toArray, List.nil_append, List.cons_append]
  gi_wp2
  gi_loopw [3] (fun i wr => ∃ j : Nat, j ≤ len ∧ i = .int .i64 ((j : Int) - 1) ∧ J (upto (bw zs hz) (len - j)) wr ∧ KpB Bs b W wr)
    (fun i _ => (intOf i + 1).toNat)
  case atStart => exact ⟨len, Nat.le_refl _, by first | rfl | simp, by rw [Nat.sub_self]; exact h0, Kp.refl _ _⟩
  case round =>
    obtain ⟨j, hj, rfl, hJs, hnx⟩ := hrel
    cases j with
    | zero =>
      gi_wp2
      go_end0
      exact ⟨⟨_, rfl⟩, .inl ⟨_, rfl, hJs⟩⟩
    | succ j =>
      have hcx : wr.cell? ⟨b, off + j, none⟩ = some (.complex .f64 (fl ((zs[j]?.getD (0, 0)).1 : Int)) (fl ((zs[j]?.getD (0, 0)).2 : Int))) := Kp.cell' hnx (hc j (by omega)) (fun e => e.2 rfl)
      have hbx : wr.cell? ⟨Bs, 0, none⟩ = some (.slice (some ⟨b, off, none⟩) len cap) := Kp.cell' hnx hBs (fun e => e.1 rfl)
      obtain ⟨fn, tmps, assign, body, hy, hR⟩ := hY _ ⟨(j, zs[j]?.getD (0, 0)), sm_at hz j⟩ wr hJs (by rw [upto_length]; omega)
      dsimp only at hy
      rw [show ((j + 1 : Nat) : Int) - 1 = (j : Int) by omega]
      gi_wp2
      refine hR.mono ?_
      have hb2 := bw_at hz (j := j) (by omega)
      rw [hlen] at hb2
      have hu : upto (bw zs hz) (len - (j + 1)) ++ [⟨(j, zs[j]?.getD (0, 0)), sm_at hz j⟩] = upto (bw zs hz) (len - j) := by
        rw [← hb2, ← upto_succ]
        congr 1
        omega
      rintro e W3 (⟨rfl, hJ3, hk3⟩ | ⟨rfl, hJx3⟩)
      · gi_wp2
        go_roundw
        case rel => exact ⟨j, by omega, by first | rfl | simp, by rw [← hu]; exact hJ3, Kp.trans' hnx hk3⟩
        case measure => simp [intOf]
      · gi_wp2
        refine bodyPost_ret (results_none rfl _ _ _) rfl ?_
        exact ⟨⟨_, rfl⟩, .inr ⟨_, ⟨len - j, by omega, hu⟩, hJx3⟩⟩

set_option maxRecDepth 100000 in
set_option maxHeartbeats 1000000 in
theorem back1_nil_in (F : Fence) (n : Nat) (h8 : F.fn 79) (hro : F.round = none) (l Bs : Nat) (J : List Sm → World → Prop) (W : World) (hBs : W.cell? ⟨Bs, 0, none⟩ = some (.slice none 0 0)) (h0 : J [] W) :
    CallsIn F n Try.prog 79 #[.func (.yield l) #[] #[], .pointer (some ⟨Bs, 0, none⟩)] W fun e W' => (∃ v, e = .returned v) ∧ J [] W' := by
  refine callsIn_of_wp Try.func79 rfl h8 ?_ hro
  simp only [Try.ntmps79, List.size_toArray, List.length_cons, List.length_nil, Nat.reduceAdd, Nat.reduceSub, Array.replicate_succ, Array.replicate_zero, List.push_toArray, List.append_toArray, List.nil_append, List.cons_append]
  gi_wp2
  gi_loopw [3] (fun i wr => i = .int .i64 (-1) ∧ J [] wr) (fun _ _ => 0)
  case atStart => exact ⟨by first | rfl | simp, h0⟩
  case round =>
    obtain ⟨rfl, hJs⟩ := hrel
    gi_wp2
    go_end0
    exact ⟨⟨_, rfl⟩, hJs⟩
/-- slices.Backward: the slice is boxed; the function value captures the box -/
theorem backward_in (F : Fence) (n : Nat) (h5 : F.fn 56) (hro : F.round = none) (a : Option Addr) (len cap : Nat) (w : World) :
    CallsIn F n Try.prog 56 #[.slice a len cap] w fun e w' => e = .returned (.func (.func 79) #[] #[.pointer (some ⟨w.heap.size, 0, none⟩)]) ∧ w' = w.alloc (.cells #[.slice a len cap] 79) := by
  refine callsIn_of_wp Try.func56 rfl h5 ?_ hro
  simp only [Try.ntmps56, List.size_toArray, List.length_cons, List.length_nil, Nat.reduceAdd, Nat.reduceSub, Array.replicate_succ, Array.replicate_zero, List.push_toArray, List.append_toArray, List.nil_append, List.cons_append]
  gi_wp2
  go_ret
  exact ⟨rfl, rfl⟩
/-- the slice holds the numbers, in block b; or it is nil and there are none -/
def Cxs (b : Nat) (W : World) (sv : Value) (zs : List (Nat × Nat)) : Prop :=
  (sv = .slice none 0 0 ∧ zs = []) ∨ ∃ off cap, sv = .slice (some ⟨b, off, none⟩) zs.length cap ∧ ∀ j, j < zs.length → W.cell? ⟨b, off + j, none⟩ = some (.complex .f64 (fl ((zs[j]?.getD (0, 0)).1 : Int)) (fl ((zs[j]?.getD (0, 0)).2 : Int)))
theorem back_stops (F : Fence) (n : Nat) (h8 : F.fn 79) (hro : F.round = none) (hn : 1 ≤ n) (Bs b : Nat) (sv : Value) (zs : List (Nat × Nat)) (hz : ∀ x ∈ zs, x.1 ≤ 1000000000 ∧ x.2 ≤ 1000000000) (hreach : zs.length * 16 ≤ 140737488351232) (w : World) (hBs : Bs < w.heap.size) (hb : b < w.heap.size)
    (hc : w.cell? ⟨Bs, 0, none⟩ = some sv) (hI : Cxs b w sv zs) :
    SeqStopsK F n Try.prog 79 #[.pointer (some ⟨Bs, 0, none⟩)] (fun x : Sm => #[Value.int .i64 (x.1.1 : Int), Value.complex .f64 (fl (x.1.2.1 : Int)) (fl (x.1.2.2 : Int))]) (KpB Bs b) (fun ys => ys = upto (bw zs hz) zs.length)
      (fun pre => ∃ k, k ≤ zs.length ∧ pre = upto (bw zs hz) k) zs.length w := fun l J Jx W hW _ _ hY h0 => by
  have hc' := (hW.cell (p := ⟨Bs, 0, none⟩) hBs).trans hc
  rcases hI with ⟨rfl, rfl⟩ | ⟨off, cap, rfl, hcs⟩
  · exact (back1_nil_in F n h8 hro l Bs J W hc' h0).mono fun e W' ⟨he, hj⟩ => ⟨he, .inl ⟨_, rfl, hj⟩⟩
  · exact back1_in F n h8 hro hn l Bs b off cap zs hz hreach J Jx hY W hc' (fun j hj => (hW.cell (p := ⟨b, off + j, none⟩) hb).trans (hcs j hj)) h0

end Go.Proofs.Ytaneblecgjahbab.nfa
