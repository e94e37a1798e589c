/- Package nfa: Find. -/
import Derived.Test.YtaneblecgjahbabNfaMatchM

namespace Go.Proofs.Ytaneblecgjahbab.nfa
open Go.RowKit Go.Proofs.Ytaneblecgjahbab.sum Go.Proofs.Ytaneblecgjahbab.kept Go.Proofs.Ytaneblecgjahbab.pop Go.Proofs.Ytaneblecgjahbab.cls Go.Proofs.Ytaneblecgjahbab.tre Go.Proofs.Ytaneblecgjahbab.ere Go.Proofs.Ytaneblecgjahbab.fl Go.Proofs.Ytaneblecgjahbab.mrk Go.Proofs.Ytaneblecgjahbab.spl
set_option linter.unusedVariables false

/-- places that are told lie in the text -/
def BdW (B : Nat) (t : Wst) : Prop := (∀ x ∈ t.L, x.2 ≤ B) ∧ -1 ≤ t.en ∧ t.en ≤ (B : Int)
theorem rch_bd (P : List Part) (n fr B : Nat) (hf : fr ≤ B) : ∀ (f : Nat) (m : Option Nat) (t : Wst), BdW B t → BdW B (rchS P n fr f m t)
  | 0, m, t, h => by cases m <;> exact h
  | f + 1, none, t, h => by
    rw [rchS]
    split
    · exact h
    · exact rch_bd P n fr B hf f _ _ h
  | f + 1, some k, t, h => by
    rw [rchS]
    split
    · exact rch_bd P n fr B hf f _ _ h
    · split
      · exact rch_bd P n fr B hf f _ _ ⟨h.1, by show -1 ≤ (fr : Int); omega, by show (fr : Int) ≤ (B : Int); omega⟩
      · split
        · refine rch_bd P n fr B hf f _ _ ⟨fun x hx => ?_, h.2⟩
          rcases List.mem_append.1 hx with hx | hx
          · exact h.1 x hx
          · simp only [List.mem_singleton] at hx
            rw [hx]
            exact hf
        · split
          · split
            · exact rch_bd P n fr B hf f _ _ h
            · exact rch_bd P n fr B hf f _ _ h
          · split
            · split
              · exact rch_bd P n fr B hf f _ _ h
              · exact rch_bd P n fr B hf f _ _ h
            · split
              · exact rch_bd P n fr B hf f _ _ h
              · exact rch_bd P n fr B hf f _ _ h
theorem beg_bd {o : Over} {t : Wst} {B : Nat} (hp : t.pl ≤ B) (h : BdW B t) : BdW B (begS o t) := rch_bd _ _ _ _ hp _ _ _ h
theorem stL_bd (o : Over) (b B : Nat) : ∀ (l : List (Nat × Nat)) (t : Wst), (∀ x ∈ l, x.2 ≤ B) → BdW B t → BdW B (stL o b l t)
  | [], t, _, h => h
  | x :: l, t, hl, h => by
    rw [stL]
    refine stL_bd o b B l _ (fun y hy => hl y (by simp [hy])) ?_
    split
    · exact rch_bd _ _ _ _ (hl x (by simp)) _ _ _ h
    · exact h
theorem step_bd {o : Over} {b p B : Nat} {t : Wst} (h : BdW B t) : BdW B (stepS o b p t) := stL_bd o b B _ _ h.1 ⟨fun x hx => (by cases hx), Int.le_refl _, by show (-1 : Int) ≤ (B : Int); omega⟩
theorem drop_bd {B : Nat} {t : Wst} (h : BdW B t) : BdW B (dropS t) := ⟨fun x hx => h.1 x (List.mem_of_mem_take hx), h.2⟩
theorem new_bd (o : Over) (pl B : Nat) : BdW B (newS o pl) := ⟨fun x hx => (by cases hx), Int.le_refl _, by show (-1 : Int) ≤ (B : Int); omega⟩

theorem run_i64 (a : Int) (h0 : 0 ≤ a) (h1 : a ≤ 140737488355327) (w : World) : (convert 97 3 (.float .f64 (fl a))).run Try.prog w = .ok (.int .i64 a) w := by
  have hs : Small a := by unfold Small; have : (2 : Nat) ^ 53 = 9007199254740992 := by decide
                          omega
  refine run_convert_float_int w 97 3 .f64 .i64 (fl a) a (by rw [Try.underlying97]; rfl) Try.underlying3 (fl_int a hs .i64 ?_ ?_)
  · simp [IntKind.min, IntKind.signed, IntKind.bits]; omega
  · simp [IntKind.max, IntKind.signed, IntKind.bits]; omega

/-- the first one, the longest of those: what was found (its start, its end), and on -/
def fdRun (o : Over) : Nat → Wst → Nat × Nat → Bool → (Nat × Nat) × Bool
  | 0, _, m, ok => (m, ok)
  | f + 1, t, m, ok =>
    if (if ok = true then t else begS o t).en = -1 then
      (if ok = true ∧ (if ok = true then t else begS o t).L.length = 0 then (m, ok) else match atS o (if ok = true then t else begS o t) with
        | none => (m, ok)
        | some (a, p) => fdRun o f (stepS o (byteS o a) p (if ok = true then t else begS o t)) m ok)
    else
      (if (dropS (if ok = true then t else begS o t)).L.length = 0 then (((if ok = true then t else begS o t).en.toNat, (if ok = true then t else begS o t).pl), true) else match atS o (dropS (if ok = true then t else begS o t)) with
        | none => (((if ok = true then t else begS o t).en.toNat, (if ok = true then t else begS o t).pl), true)
        | some (a, p) => fdRun o f (stepS o (byteS o a) p (dropS (if ok = true then t else begS o t))) ((if ok = true then t else begS o t).en.toNat, (if ok = true then t else begS o t).pl) true)
def frF (mb q : Nat) (s : ByteArray) (fr : Nat) (m : Nat × Nat) (ok : Bool) (U : Nat → Value) : Array Value := #[.pointer (some ⟨mb, 0, none⟩), .string s, .int .i64 (fr : Int), undef, undef, undef, .int .i64 0, .int .i64 0, .bool ok, C (m.1 : Int) (m.2 : Int), .pointer (some ⟨q, 0, none⟩), U 11, U 12, U 13, U 14, U 15, U 16, U 17, U 18, U 19, U 20, U 21, U 22, U 23, U 24, U 25, U 26, U 27, U 28, U 29, U 30, U 31, U 32, U 33, U 34, U 35, U 36, U 37, U 38, U 39, U 40, U 41, U 42, U 43, U 44, U 45, U 46, U 47, U 48, U 49, U 50, U 51, U 52, U 53]
def FdJ (w : World) (r : Nat × List Part) (s : ByteArray) (mb fr : Nat) (R : (Nat × Nat) × Bool) (n : Nat) (a : Act) (wr : World) : Prop :=
  ∃ (U : Nat → Value) (o : Over) (t : Wst) (m : Nat × Nat) (ok : Bool), a = { tmps := frF mb o.q s fr m ok U, defers := [] } ∧ WkMid w r false s o t wr ∧ remS (oS r false s) t + 1 ≤ n ∧ fdRun (oS r false s) n t m ok = R ∧ BdW s.size t ∧ m.1 ≤ s.size ∧ m.2 ≤ s.size
theorem FdJ.mk {w : World} {r : Nat × List Part} {s : ByteArray} {mb fr : Nat} {R : (Nat × Nat) × Bool} {n : Nat} {wr : World} (T : Array Value) (o : Over) (t : Wst) (m : Nat × Nat) (ok : Bool) (h1 : WkMid w r false s o t wr) (h2 : remS (oS r false s) t + 1 ≤ n) (h3 : fdRun (oS r false s) n t m ok = R) (h4 : BdW s.size t) (h5 : m.1 ≤ s.size ∧ m.2 ≤ s.size) (hT : T = frF mb o.q s fr m ok (nthV T.toList)) : FdJ w r s mb fr R n { tmps := T, defers := [] } wr := ⟨_, o, t, m, ok, by rw [← hT], h1, h2, h3, h4, h5⟩
/-- nothing that there was turned; three results -/
def FdPost (w : World) (R : (Nat × Nat) × Bool) (e : Ending) (w' : World) : Prop := e = .returned (.tuple #[.int .i64 (R.1.1 : Int), .int .i64 (R.1.2 : Int), .bool R.2]) ∧ Kp No w w'
/-- behind the ends' test: what is left to do -/
def fdEnd (o : Over) (f : Nat) (t : Wst) (m : Nat × Nat) (ok : Bool) : (Nat × Nat) × Bool :=
  if ok = true ∧ t.L.length = 0 then (m, ok) else match atS o t with
    | none => (m, ok)
    | some (a, p) => fdRun o f (stepS o (byteS o a) p t) m ok
theorem fd_not {o : Over} {f : Nat} {t t1 : Wst} {m : Nat × Nat} {ok : Bool} (h1 : (if ok = true then t else begS o t) = t1) (he : t1.en = -1) : fdRun o (f + 1) t m ok = fdEnd o f t1 m ok := by
  rw [fdRun, h1, if_pos he]
  rfl
theorem fd_ends {o : Over} {f : Nat} {t t1 : Wst} {m : Nat × Nat} {ok : Bool} (h1 : (if ok = true then t else begS o t) = t1) (he : ¬ t1.en = -1) : fdRun o (f + 1) t m ok = fdEnd o f (dropS t1) (t1.en.toNat, t1.pl) true := by
  rw [fdRun, h1, if_neg he]
  unfold fdEnd
  simp only [true_and]

set_option maxRecDepth 100000 in
set_option maxHeartbeats 16000000 in
theorem find_any (w : World) (mb gp cp : Nat) (r : Nat × List Part) (s : ByteArray) (fr : Nat) (h : PgRd w mb 0 r false gp cp) (hok : okP r.2) (hst : r.1 < r.2.length) (hpl : r.2.length ≤ 1000000) (hs : s.size ≤ 140737488355327) (hfr : fr ≤ s.size) :
    Calls Try.prog 18 #[.pointer (some ⟨mb, 0, none⟩), .string s, .int .i64 (fr : Int)] w (FdPost w (fdRun (oS r false s) (s.size + 1) (newS (oS r false s) fr) (0, 0) false)) := by
  obtain ⟨R, hR⟩ : ∃ R, fdRun (oS r false s) (s.size + 1) (newS (oS r false s) fr) (0, 0) false = R := ⟨_, rfl⟩
  rw [hR]
  have hc := new_m w mb 0 gp cp r false s fr h hok hst hpl hs hfr
  have hf2 : ¬ (fr : Int) > (s.size : Int) := by omega
  have hd1 : decide ((fr : Int) > (s.size : Int)) = false := decide_eq_false hf2
  have hmx : max (fr : Int) 0 = (fr : Int) := by omega
  have HC := Hid_mk hc
  have HR := Hid_mk hR
  have HFr := Hid_mk hfr
  have HS := Hid_mk hs
  clear h hok hst hpl hs hc hR hfr
  go_enter Try.func18, Try.ntmps18
  go_wp2_with fail
  refine scope_one_g 0 (FdJ w r s mb fr R) rfl ?pass ?first
  case pass =>
    rintro n a' wr ⟨U, o, t, ⟨m1, m2⟩, ok, rfl, hw, hrem, hrun, hbd, hm1, hm2⟩
    unfold frF
    obtain ⟨f, rfl⟩ : ∃ f, n = f + 1 := ⟨n - 1, by omega⟩
    unfold C
    have hle := hw.le
    have HRem := Hid_mk hrem
    have HLe := Hid_mk hle
    have HRun0 := Hid_mk hrun
    have HBd := Hid_mk hbd
    have HM1 := Hid_mk (show m1 ≤ s.size from hm1)
    have HM2 := Hid_mk (show m2 ≤ s.size from hm2)
    clear hrem hle hrun hbd hm1 hm2 HC HR hd1 hf2 hmx
    cases ok with
    | true =>
      obtain ⟨t1, ht1⟩ : ∃ t1, t = t1 := ⟨_, rfl⟩
      have HT1 := Hid_mk (show (if true = true then t else begS (oS r false s) t) = t1 from ht1)
      have HPl1 := Hid_mk (show t1.pl = t.pl by rw [ht1])
      rw [ht1] at hw
      have HW1 := Hid_mk hw
      have HBd1 := Hid_mk (show BdW s.size t1 by rw [← ht1]; exact HBd.out)
      clear ht1 hw
      by_cases hen : t1.en = -1
      · have he := ends_m HW1.out
        rw [hen] at he
        have HE := Hid_mk (show Calls Try.prog 40 #[.pointer (some ⟨o.q, 0, none⟩)] wr fun e w' => e = .returned (.bool false) ∧ wr = w' from he)
        have hrun := HRun0.out
        rw [fd_not HT1.out hen] at hrun
        clear he hen
        go_wp2_with fail
        with_reducible refine HE.out.mono ?_
        rintro e w3 ⟨rfl, rfl⟩
        obtain ⟨av, cv, b3⟩ := HW1.out.c3
        unfold fdEnd at hrun
        cases hl : (t1).L.length with
        | zero =>
          rw [hl] at b3 hrun
          have HRun := Hid_mk (show ((m1, m2), true) = R from (if_pos ⟨rfl, rfl⟩).symm.trans hrun)
          have HK := Hid_mk HW1.out.kp
          clear hl hrun
          have hu1 := run_i64 (m1 : Int) (by omega) (by have := HM1.out; have := HS.out; omega)
          have hu2 := run_i64 (m2 : Int) (by omega) (by have := HM2.out; have := HS.out; omega)
          unfold fl at hu1 hu2
          try unfold fl
          go_wp2
          simp only [jumpF]
          refine bodyPost_ret (v := .tuple #[.int .i64 (m1 : Int), .int .i64 (m2 : Int), .bool true]) (by simp [results, Try.results18, go_sem]) rfl ?_
          rw [← HRun.out]
          exact ⟨rfl, HK.out⟩
        | succ l =>
          rw [hl] at b3 hrun
          rw [if_neg (by omega)] at hrun
          have hli : decide ((((l + 1 : Nat) : Int)) > 0) = true := decide_eq_true (by omega)
          have hli2 : decide (((l : Int) + 1) > 0) = true := decide_eq_true (by omega)
          clear hl
          cases hat : atS (oS r false s) t1 with
          | none =>
            rw [hat] at hrun
            have HSt := Hid_mk (step_mno HW1.out hat)
            have HRun := Hid_mk (show ((m1, m2), true) = R from hrun)
            clear hrun hat
            go_wp2_with fail
            with_reducible refine HSt.out.mono ?_
            intro e w7 hp
            rcases hp.is with ⟨rfl, hw7⟩
            have HK := Hid_mk hw7.kp
            clear hp hw7 b3
            have hu1 := run_i64 (m1 : Int) (by omega) (by have := HM1.out; have := HS.out; omega)
            have hu2 := run_i64 (m2 : Int) (by omega) (by have := HM2.out; have := HS.out; omega)
            unfold fl at hu1 hu2
            try unfold fl
            go_wp2
            simp only [jumpF]
            refine bodyPost_ret (v := .tuple #[.int .i64 (m1 : Int), .int .i64 (m2 : Int), .bool true]) (by simp [results, Try.results18, go_sem]) rfl ?_
            rw [← HRun.out]
            exact ⟨rfl, HK.out⟩
          | some y =>
            obtain ⟨a, p⟩ := y
            rw [hat] at hrun
            have HSt := Hid_mk (step_m HW1.out hat)
            have hrs := rem_step (o := oS r false s) (b := byteS (oS r false s) a) (by rw [HPl1.out]; exact HLe.out) hat
            have HRs := Hid_mk hrs
            have HRun := Hid_mk (show fdRun (oS r false s) f (stepS (oS r false s) (byteS (oS r false s) a) p t1) (m1, m2) true = R from hrun)
            clear hrun hat hrs
            go_wp2_with fail
            with_reducible refine HSt.out.mono ?_
            intro e w7 hp
            rcases hp.is with ⟨rfl, hw7⟩
            have HW7 := Hid_mk hw7
            clear hp hw7 b3
            go_wp2
            go_step3
            exact ⟨rfl, f, Nat.lt_succ_self f, FdJ.mk _ o _ (m1, m2) true HW7.out (by have h1 := HRs.out; have h2 := HRem.out; have h3 := HPl1.out; rw [remF] at h1 h2 ⊢; rw [remF] at h1; omega) HRun.out (step_bd HBd1.out) ⟨HM1.out, HM2.out⟩ (by kernel_rfl)⟩
      · have he := ends_m HW1.out
        have hne : (t1.en != -1) = true := by simpa using hen
        rw [hne] at he
        have HE := Hid_mk he
        have hrun := HRun0.out
        rw [fd_ends HT1.out hen] at hrun
        obtain ⟨e1, he1⟩ : ∃ e1, t1.en.toNat = e1 := ⟨_, rfl⟩
        have hbd1 := HBd1.out
        have hei : t1.en = (e1 : Int) := by have := hbd1.2.1; omega
        have HE1 := Hid_mk (show e1 ≤ s.size by have := hbd1.2.2; omega)
        have HE2 := Hid_mk (show t1.pl ≤ s.size by rw [HPl1.out]; exact HLe.out)
        have hmt := match_m HW1.out
        rw [show matchV (oS r false s) t1 = C (e1 : Int) (t1.pl : Int) by rw [← hei]; rfl] at hmt
        unfold C at hmt
        have HMt := Hid_mk hmt
        have HDr := Hid_mk (fun V (hV : Kp No wr V) => drop_m (HW1.out.no hV))
        rw [he1] at hrun
        have HRun1 := Hid_mk hrun
        clear he hen hne hrun he1 hbd1 hei hmt
        go_wp2_with fail
        with_reducible refine HE.out.mono ?_
        rintro e w3 ⟨rfl, rfl⟩
        go_wp2_with fail
        with_reducible refine HMt.out.mono ?_
        rintro e w4 ⟨rfl, hk4⟩
        have HK4 := Hid_mk hk4
        clear hk4
        go_wp2_with fail
        with_reducible refine (HDr.out _ HK4.out).mono ?_
        intro e w5 hp
        rcases hp.is with ⟨rfl, hw5⟩
        have HW5 := Hid_mk hw5
        have HBd5 := Hid_mk (drop_bd HBd1.out)
        have HPl5 := Hid_mk (show (dropS t1).pl = t.pl from HPl1.out)
        have hrun := HRun1.out
        clear hp hw5
        obtain ⟨av, cv, b3⟩ := HW5.out.c3
        unfold fdEnd at hrun
        cases hl : ((dropS t1)).L.length with
        | zero =>
          rw [hl] at b3 hrun
          have HRun := Hid_mk (show ((e1, t1.pl), true) = R from (if_pos ⟨rfl, rfl⟩).symm.trans hrun)
          have HK := Hid_mk HW5.out.kp
          clear hl hrun
          have hu1 := run_i64 (e1 : Int) (by omega) (by have := HE1.out; have := HS.out; omega)
          have hu2 := run_i64 (t1.pl : Int) (by omega) (by have := HE2.out; have := HS.out; omega)
          unfold fl at hu1 hu2
          try unfold fl
          go_wp2
          simp only [jumpF]
          refine bodyPost_ret (v := .tuple #[.int .i64 (e1 : Int), .int .i64 (t1.pl : Int), .bool true]) (by simp [results, Try.results18, go_sem]) rfl ?_
          rw [← HRun.out]
          exact ⟨rfl, HK.out⟩
        | succ l =>
          rw [hl] at b3 hrun
          rw [if_neg (by omega)] at hrun
          have hli : decide ((((l + 1 : Nat) : Int)) > 0) = true := decide_eq_true (by omega)
          have hli2 : decide (((l : Int) + 1) > 0) = true := decide_eq_true (by omega)
          clear hl
          cases hat : atS (oS r false s) (dropS t1) with
          | none =>
            rw [hat] at hrun
            have HSt := Hid_mk (step_mno HW5.out hat)
            have HRun := Hid_mk (show ((e1, t1.pl), true) = R from hrun)
            clear hrun hat
            go_wp2_with fail
            with_reducible refine HSt.out.mono ?_
            intro e w7 hp
            rcases hp.is with ⟨rfl, hw7⟩
            have HK := Hid_mk hw7.kp
            clear hp hw7 b3
            have hu1 := run_i64 (e1 : Int) (by omega) (by have := HE1.out; have := HS.out; omega)
            have hu2 := run_i64 (t1.pl : Int) (by omega) (by have := HE2.out; have := HS.out; omega)
            unfold fl at hu1 hu2
            try unfold fl
            go_wp2
            simp only [jumpF]
            refine bodyPost_ret (v := .tuple #[.int .i64 (e1 : Int), .int .i64 (t1.pl : Int), .bool true]) (by simp [results, Try.results18, go_sem]) rfl ?_
            rw [← HRun.out]
            exact ⟨rfl, HK.out⟩
          | some y =>
            obtain ⟨a, p⟩ := y
            rw [hat] at hrun
            have HSt := Hid_mk (step_m HW5.out hat)
            have hrs := rem_step (o := oS r false s) (b := byteS (oS r false s) a) (by rw [HPl5.out]; exact HLe.out) hat
            have HRs := Hid_mk hrs
            have HRun := Hid_mk (show fdRun (oS r false s) f (stepS (oS r false s) (byteS (oS r false s) a) p (dropS t1)) (e1, t1.pl) true = R from hrun)
            clear hrun hat hrs
            go_wp2_with fail
            with_reducible refine HSt.out.mono ?_
            intro e w7 hp
            rcases hp.is with ⟨rfl, hw7⟩
            have HW7 := Hid_mk hw7
            clear hp hw7 b3
            go_wp2
            go_step3
            exact ⟨rfl, f, Nat.lt_succ_self f, FdJ.mk _ o _ (e1, t1.pl) true HW7.out (by have h1 := HRs.out; have h2 := HRem.out; have h3 := HPl5.out; rw [remF] at h1 h2 ⊢; rw [remF] at h1; omega) HRun.out (step_bd HBd5.out) ⟨HE1.out, HE2.out⟩ (by kernel_rfl)⟩
    | false =>
      have HB := Hid_mk (begin_m hw)
      clear hw
      go_wp2_with fail
      with_reducible refine HB.out.mono ?_
      intro e w2 hp
      rcases hp.is with ⟨rfl, hw2⟩
      obtain ⟨t1, ht1⟩ : ∃ t1, begS (oS r false s) t = t1 := ⟨_, rfl⟩
      have HT1 := Hid_mk (show (if false = true then t else begS (oS r false s) t) = t1 from ht1)
      have HPl1 := Hid_mk (show t1.pl = t.pl by rw [← ht1]; exact beg_pl _ _)
      rw [ht1] at hw2
      have HW1 := Hid_mk hw2
      have HBd1 := Hid_mk (show BdW s.size t1 by rw [← ht1]; exact beg_bd HLe.out HBd.out)
      clear ht1 hw2 hp HB
      by_cases hen : t1.en = -1
      · have he := ends_m HW1.out
        rw [hen] at he
        have HE := Hid_mk (show Calls Try.prog 40 #[.pointer (some ⟨o.q, 0, none⟩)] w2 fun e w' => e = .returned (.bool false) ∧ w2 = w' from he)
        have hrun := HRun0.out
        rw [fd_not HT1.out hen] at hrun
        clear he hen
        go_wp2_with fail
        with_reducible refine HE.out.mono ?_
        rintro e w3 ⟨rfl, rfl⟩
        obtain ⟨av, cv, b3⟩ := HW1.out.c3
        unfold fdEnd at hrun
        rw [if_neg (by intro h; cases h.1)] at hrun
        cases hat : atS (oS r false s) t1 with
        | none =>
          rw [hat] at hrun
          have HSt := Hid_mk (step_mno HW1.out hat)
          have HRun := Hid_mk (show ((m1, m2), false) = R from hrun)
          clear hrun hat
          go_wp2_with fail
          with_reducible refine HSt.out.mono ?_
          intro e w7 hp
          rcases hp.is with ⟨rfl, hw7⟩
          have HK := Hid_mk hw7.kp
          clear hp hw7 b3
          have hu1 := run_i64 (m1 : Int) (by omega) (by have := HM1.out; have := HS.out; omega)
          have hu2 := run_i64 (m2 : Int) (by omega) (by have := HM2.out; have := HS.out; omega)
          unfold fl at hu1 hu2
          try unfold fl
          go_wp2
          simp only [jumpF]
          refine bodyPost_ret (v := .tuple #[.int .i64 (m1 : Int), .int .i64 (m2 : Int), .bool false]) (by simp [results, Try.results18, go_sem]) rfl ?_
          rw [← HRun.out]
          exact ⟨rfl, HK.out⟩
        | some y =>
          obtain ⟨a, p⟩ := y
          rw [hat] at hrun
          have HSt := Hid_mk (step_m HW1.out hat)
          have hrs := rem_step (o := oS r false s) (b := byteS (oS r false s) a) (by rw [HPl1.out]; exact HLe.out) hat
          have HRs := Hid_mk hrs
          have HRun := Hid_mk (show fdRun (oS r false s) f (stepS (oS r false s) (byteS (oS r false s) a) p t1) (m1, m2) false = R from hrun)
          clear hrun hat hrs
          go_wp2_with fail
          with_reducible refine HSt.out.mono ?_
          intro e w7 hp
          rcases hp.is with ⟨rfl, hw7⟩
          have HW7 := Hid_mk hw7
          clear hp hw7 b3
          go_wp2
          go_step3
          exact ⟨rfl, f, Nat.lt_succ_self f, FdJ.mk _ o _ (m1, m2) false HW7.out (by have h1 := HRs.out; have h2 := HRem.out; have h3 := HPl1.out; rw [remF] at h1 h2 ⊢; rw [remF] at h1; omega) HRun.out (step_bd HBd1.out) ⟨HM1.out, HM2.out⟩ (by kernel_rfl)⟩
      · have he := ends_m HW1.out
        have hne : (t1.en != -1) = true := by simpa using hen
        rw [hne] at he
        have HE := Hid_mk he
        have hrun := HRun0.out
        rw [fd_ends HT1.out hen] at hrun
        obtain ⟨e1, he1⟩ : ∃ e1, t1.en.toNat = e1 := ⟨_, rfl⟩
        have hbd1 := HBd1.out
        have hei : t1.en = (e1 : Int) := by have := hbd1.2.1; omega
        have HE1 := Hid_mk (show e1 ≤ s.size by have := hbd1.2.2; omega)
        have HE2 := Hid_mk (show t1.pl ≤ s.size by rw [HPl1.out]; exact HLe.out)
        have hmt := match_m HW1.out
        rw [show matchV (oS r false s) t1 = C (e1 : Int) (t1.pl : Int) by rw [← hei]; rfl] at hmt
        unfold C at hmt
        have HMt := Hid_mk hmt
        have HDr := Hid_mk (fun V (hV : Kp No w2 V) => drop_m (HW1.out.no hV))
        rw [he1] at hrun
        have HRun1 := Hid_mk hrun
        clear he hen hne hrun he1 hbd1 hei hmt
        go_wp2_with fail
        with_reducible refine HE.out.mono ?_
        rintro e w3 ⟨rfl, rfl⟩
        go_wp2_with fail
        with_reducible refine HMt.out.mono ?_
        rintro e w4 ⟨rfl, hk4⟩
        have HK4 := Hid_mk hk4
        clear hk4
        go_wp2_with fail
        with_reducible refine (HDr.out _ HK4.out).mono ?_
        intro e w5 hp
        rcases hp.is with ⟨rfl, hw5⟩
        have HW5 := Hid_mk hw5
        have HBd5 := Hid_mk (drop_bd HBd1.out)
        have HPl5 := Hid_mk (show (dropS t1).pl = t.pl from HPl1.out)
        have hrun := HRun1.out
        clear hp hw5
        obtain ⟨av, cv, b3⟩ := HW5.out.c3
        unfold fdEnd at hrun
        cases hl : ((dropS t1)).L.length with
        | zero =>
          rw [hl] at b3 hrun
          have HRun := Hid_mk (show ((e1, t1.pl), true) = R from (if_pos ⟨rfl, rfl⟩).symm.trans hrun)
          have HK := Hid_mk HW5.out.kp
          clear hl hrun
          have hu1 := run_i64 (e1 : Int) (by omega) (by have := HE1.out; have := HS.out; omega)
          have hu2 := run_i64 (t1.pl : Int) (by omega) (by have := HE2.out; have := HS.out; omega)
          unfold fl at hu1 hu2
          try unfold fl
          go_wp2
          simp only [jumpF]
          refine bodyPost_ret (v := .tuple #[.int .i64 (e1 : Int), .int .i64 (t1.pl : Int), .bool true]) (by simp [results, Try.results18, go_sem]) rfl ?_
          rw [← HRun.out]
          exact ⟨rfl, HK.out⟩
        | succ l =>
          rw [hl] at b3 hrun
          rw [if_neg (by omega)] at hrun
          have hli : decide ((((l + 1 : Nat) : Int)) > 0) = true := decide_eq_true (by omega)
          have hli2 : decide (((l : Int) + 1) > 0) = true := decide_eq_true (by omega)
          clear hl
          cases hat : atS (oS r false s) (dropS t1) with
          | none =>
            rw [hat] at hrun
            have HSt := Hid_mk (step_mno HW5.out hat)
            have HRun := Hid_mk (show ((e1, t1.pl), true) = R from hrun)
            clear hrun hat
            go_wp2_with fail
            with_reducible refine HSt.out.mono ?_
            intro e w7 hp
            rcases hp.is with ⟨rfl, hw7⟩
            have HK := Hid_mk hw7.kp
            clear hp hw7 b3
            have hu1 := run_i64 (e1 : Int) (by omega) (by have := HE1.out; have := HS.out; omega)
            have hu2 := run_i64 (t1.pl : Int) (by omega) (by have := HE2.out; have := HS.out; omega)
            unfold fl at hu1 hu2
            try unfold fl
            go_wp2
            simp only [jumpF]
            refine bodyPost_ret (v := .tuple #[.int .i64 (e1 : Int), .int .i64 (t1.pl : Int), .bool true]) (by simp [results, Try.results18, go_sem]) rfl ?_
            rw [← HRun.out]
            exact ⟨rfl, HK.out⟩
          | some y =>
            obtain ⟨a, p⟩ := y
            rw [hat] at hrun
            have HSt := Hid_mk (step_m HW5.out hat)
            have hrs := rem_step (o := oS r false s) (b := byteS (oS r false s) a) (by rw [HPl5.out]; exact HLe.out) hat
            have HRs := Hid_mk hrs
            have HRun := Hid_mk (show fdRun (oS r false s) f (stepS (oS r false s) (byteS (oS r false s) a) p (dropS t1)) (e1, t1.pl) true = R from hrun)
            clear hrun hat hrs
            go_wp2_with fail
            with_reducible refine HSt.out.mono ?_
            intro e w7 hp
            rcases hp.is with ⟨rfl, hw7⟩
            have HW7 := Hid_mk hw7
            clear hp hw7 b3
            go_wp2
            go_step3
            exact ⟨rfl, f, Nat.lt_succ_self f, FdJ.mk _ o _ (e1, t1.pl) true HW7.out (by have h1 := HRs.out; have h2 := HRem.out; have h3 := HPl5.out; rw [remF] at h1 h2 ⊢; rw [remF] at h1; omega) HRun.out (step_bd HBd5.out) ⟨HE1.out, HE2.out⟩ (by kernel_rfl)⟩
  case first =>
    intro pass
    have HP := Hid_mk pass
    clear pass
    go_wp2_with fail
    with_reducible refine HC.out.mono ?_
    rintro e w1 ⟨o, rfl, hw⟩
    have HW := Hid_mk hw
    clear hw
    go_wp2
    apply wp_label
    rename_i hK0
    exact hK0 _ _ (HP.out (s.size + 1) _ _ (FdJ.mk _ o _ (0, 0) false HW.out (by rw [remF]; omega) HR.out (new_bd _ _ _) ⟨Nat.zero_le _, Nat.zero_le _⟩ (by kernel_rfl)))

end Go.Proofs.Ytaneblecgjahbab.nfa
