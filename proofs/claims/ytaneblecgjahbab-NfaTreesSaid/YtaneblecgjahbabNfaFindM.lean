/- Package nfa: Find. Package nfa: longest: of each place the longest match, the last place first. -/
import Derived.Test.YtaneblecgjahbabNfaMatchM

namespace Go.Proofs.Ytaneblecgjahbab.nfa
open Go.RowKit Go.Proofs.Ytaneblecgjahbab.sum Go.Proofs.Ytaneblecgjahbab.kept Go.Proofs.Ytaneblecgjahbab.pop Go.Proofs.Ytaneblecgjahbab.cls Go.Proofs.Ytaneblecgjahbab.tre Go.Proofs.Ytaneblecgjahbab.ere Go.Proofs.Ytaneblecgjahbab.fl Go.Proofs.Ytaneblecgjahbab.mrk Go.Proofs.Ytaneblecgjahbab.spl
set_option linter.unusedVariables false

/-- places that are told lie in the text -/
def BdW (B : Nat) (t : Wst) : Prop := (∀ x ∈ t.L, x.2 ≤ B) ∧ -1 ≤ t.en ∧ t.en ≤ (B : Int)
theorem rch_bd (P : List Part) (n fr B : Nat) (hf : fr ≤ B) : ∀ (f : Nat) (m : Option Nat) (t : Wst), BdW B t → BdW B (rchS P n fr f m t)
  | 0, m, t, h => by cases m <;> exact h
  | f + 1, none, t, h => by
    rw [rchS]
    split
    · exact h
    · exact rch_bd P n fr B hf f _ _ h
  | f + 1, some k, t, h => by
    rw [rchS]
    split
    · exact rch_bd P n fr B hf f _ _ h
    · split
      · exact rch_bd P n fr B hf f _ _ ⟨h.1, by show -1 ≤ (fr : Int); omega, by show (fr : Int) ≤ (B : Int); omega⟩
      · split
        · refine rch_bd P n fr B hf f _ _ ⟨fun x hx => ?_, h.2⟩
          rcases List.mem_append.1 hx with hx | hx
          · exact h.1 x hx
          · simp only [List.mem_singleton] at hx
            rw [hx]
            exact hf
        · split
          · split
            · exact rch_bd P n fr B hf f _ _ h
            · exact rch_bd P n fr B hf f _ _ h
          · split
            · split
              · exact rch_bd P n fr B hf f _ _ h
              · exact rch_bd P n fr B hf f _ _ h
            · split
              · exact rch_bd P n fr B hf f _ _ h
              · exact rch_bd P n fr B hf f _ _ h
theorem beg_bd {o : Over} {t : Wst} {B : Nat} (hp : t.pl ≤ B) (h : BdW B t) : BdW B (begS o t) := rch_bd _ _ _ _ hp _ _ _ h
theorem stL_bd (o : Over) (b B : Nat) : ∀ (l : List (Nat × Nat)) (t : Wst), (∀ x ∈ l, x.2 ≤ B) → BdW B t → BdW B (stL o b l t)
  | [], t, _, h => h
  | x :: l, t, hl, h => by
    rw [stL]
    refine stL_bd o b B l _ (fun y hy => hl y (by simp [hy])) ?_
    split
    · exact rch_bd _ _ _ _ (hl x (by simp)) _ _ _ h
    · exact h
theorem step_bd {o : Over} {b p B : Nat} {t : Wst} (h : BdW B t) : BdW B (stepS o b p t) := stL_bd o b B _ _ h.1 ⟨fun x hx => (by cases hx), Int.le_refl _, by show (-1 : Int) ≤ (B : Int); omega⟩
theorem drop_bd {B : Nat} {t : Wst} (h : BdW B t) : BdW B (dropS t) := ⟨fun x hx => h.1 x (List.mem_of_mem_take hx), h.2⟩
theorem new_bd (o : Over) (pl B : Nat) : BdW B (newS o pl) := ⟨fun x hx => (by cases hx), Int.le_refl _, by show (-1 : Int) ≤ (B : Int); omega⟩

theorem run_i64 (a : Int) (h0 : 0 ≤ a) (h1 : a ≤ 140737488355327) (w : World) : (convert 97 3 (.float .f64 (fl a))).run Try.prog w = .ok (.int .i64 a) w := by
  have hs : Small a := by unfold Small; have : (2 : Nat) ^ 53 = 9007199254740992 := by decide
                          omega
  refine run_convert_float_int w 97 3 .f64 .i64 (fl a) a (by rw [Try.underlying97]; rfl) Try.underlying3 (fl_int a hs .i64 ?_ ?_)
  · simp [IntKind.min, IntKind.signed, IntKind.bits]; omega
  · simp [IntKind.max, IntKind.signed, IntKind.bits]; omega

/-- the first one, the longest of those: what was found (its start, its end), and on -/
def fdRun (o : Over) : Nat → Wst → Nat × Nat → Bool → (Nat × Nat) × Bool
  | 0, _, m, ok => (m, ok)
  | f + 1, t, m, ok =>
    if (if ok = true then t else begS o t).en = -1 then
      (if ok = true ∧ (if ok = true then t else begS o t).L.length = 0 then (m, ok) else match atS o (if ok = true then t else begS o t) with
        | none => (m, ok)
        | some (a, p) => fdRun o f (stepS o (byteS o a) p (if ok = true then t else begS o t)) m ok)
    else
      (if (dropS (if ok = true then t else begS o t)).L.length = 0 then (((if ok = true then t else begS o t).en.toNat, (if ok = true then t else begS o t).pl), true) else match atS o (dropS (if ok = true then t else begS o t)) with
        | none => (((if ok = true then t else begS o t).en.toNat, (if ok = true then t else begS o t).pl), true)
        | some (a, p) => fdRun o f (stepS o (byteS o a) p (dropS (if ok = true then t else begS o t))) ((if ok = true then t else begS o t).en.toNat, (if ok = true then t else begS o t).pl) true)
def frF (mb q : Nat) (s : ByteArray) (fr : Nat) (m : Nat × Nat) (ok : Bool) (U : Nat → Value) : Array Value := #[.pointer (some ⟨mb, 0, none⟩), .string s, .int .i64 (fr : Int), undef, undef, undef, .int .i64 0, .int .i64 0, .bool ok, C (m.1 : Int) (m.2 : Int), .pointer (some ⟨q, 0, none⟩), U 11, U 12, U 13, U 14, U 15, U 16, U 17, U 18, U 19, U 20, U 21, U 22, U 23, U 24, U 25, U 26, U 27, U 28, U 29, U 30, U 31, U 32, U 33, U 34, U 35, U 36, U 37, U 38, U 39, U 40, U 41, U 42, U 43, U 44, U 45, U 46, U 47, U 48, U 49, U 50, U 51, U 52, U 53]
def FdJ (w : World) (r : Nat × List Part) (s : ByteArray) (mb fr : Nat) (R : (Nat × Nat) × Bool) (n : Nat) (a : Act) (wr : World) : Prop :=
  ∃ (U : Nat → Value) (o : Over) (t : Wst) (m : Nat × Nat) (ok : Bool), a = { tmps := frF mb o.q s fr m ok U, defers := [] } ∧ WkMid w r false s o t wr ∧ remS (oS r false s) t + 1 ≤ n ∧ fdRun (oS r false s) n t m ok = R ∧ BdW s.size t ∧ m.1 ≤ s.size ∧ m.2 ≤ s.size
theorem FdJ.mk {w : World} {r : Nat × List Part} {s : ByteArray} {mb fr : Nat} {R : (Nat × Nat) × Bool} {n : Nat} {wr : World} (T : Array Value) (o : Over) (t : Wst) (m : Nat × Nat) (ok : Bool) (h1 : WkMid w r false s o t wr) (h2 : remS (oS r false s) t + 1 ≤ n) (h3 : fdRun (oS r false s) n t m ok = R) (h4 : BdW s.size t) (h5 : m.1 ≤ s.size ∧ m.2 ≤ s.size) (hT : T = frF mb o.q s fr m ok (nthV T.toList)) : FdJ w r s mb fr R n { tmps := T, defers := [] } wr := ⟨_, o, t, m, ok, by rw [← hT], h1, h2, h3, h4, h5⟩
/-- nothing that there was turned; three results -/
def FdPost (w : World) (R : (Nat × Nat) × Bool) (e : Ending) (w' : World) : Prop := e = .returned (.tuple #[.int .i64 (R.1.1 : Int), .int .i64 (R.1.2 : Int), .bool R.2]) ∧ Kp No w w'
/-- behind the ends' test: what is left to do -/
def fdEnd (o : Over) (f : Nat) (t : Wst) (m : Nat × Nat) (ok : Bool) : (Nat × Nat) × Bool :=
  if ok = true ∧ t.L.length = 0 then (m, ok) else match atS o t with
    | none => (m, ok)
    | some (a, p) => fdRun o f (stepS o (byteS o a) p t) m ok
theorem fd_not {o : Over} {f : Nat} {t t1 : Wst} {m : Nat × Nat} {ok : Bool} (h1 : (if ok = true then t else begS o t) = t1) (he : t1.en = -1) : fdRun o (f + 1) t m ok = fdEnd o f t1 m ok := by
  rw [fdRun, h1, if_pos he]
  rfl
theorem fd_ends {o : Over} {f : Nat} {t t1 : Wst} {m : Nat × Nat} {ok : Bool} (h1 : (if ok = true then t else begS o t) = t1) (he : ¬ t1.en = -1) : fdRun o (f + 1) t m ok = fdEnd o f (dropS t1) (t1.en.toNat, t1.pl) true := by
  rw [fdRun, h1, if_neg he]
  unfold fdEnd
  simp only [true_and]

set_option maxRecDepth 100000 in
set_option maxHeartbeats 16000000 in
theorem find_any (w : World) (mb gp cp : Nat) (r : Nat × List Part) (s : ByteArray) (fr : Nat) (h : PgRd w mb 0 r false gp cp) (hok : okP r.2) (hst : r.1 < r.2.length) (hpl : r.2.length ≤ 1000000) (hs : s.size ≤ 140737488355327) (hfr : fr ≤ s.size) :
    Calls Try.prog 18 #[.pointer (some ⟨mb, 0, none⟩), .string s, .int .i64 (fr : Int)] w (FdPost w (fdRun (oS r false s) (s.size + 1) (newS (oS r false s) fr) (0, 0) false)) := by
  obtain ⟨R, hR⟩ : ∃ R, fdRun (oS r false s) (s.size + 1) (newS (oS r false s) fr) (0, 0) false = R := ⟨_, rfl⟩
  rw [hR]
  have hc := new_m w mb 0 gp cp r false s fr h hok hst hpl hs hfr
  have hf2 : ¬ (fr : Int) > (s.size : Int) := by omega
  have hd1 : decide ((fr : Int) > (s.size : Int)) = false := decide_eq_false hf2
  have hmx : max (fr : Int) 0 = (fr : Int) := by omega
  have HC := Hid_mk hc
  have HR := Hid_mk hR
  have HFr := Hid_mk hfr
  have HS := Hid_mk hs
  clear h hok hst hpl hs hc hR hfr
  go_enter Try.func18, Try.ntmps18
  go_wp2_with fail
  refine scope_one_g 0 (FdJ w r s mb fr R) rfl ?pass ?first
  case pass =>
    rintro n a' wr ⟨U, o, t, ⟨m1, m2⟩, ok, rfl, hw, hrem, hrun, hbd, hm1, hm2⟩
    unfold frF
    obtain ⟨f, rfl⟩ : ∃ f, n = f + 1 := ⟨n - 1, by omega⟩
    unfold C
    have hle := hw.le
    have HRem := Hid_mk hrem
    have HLe := Hid_mk hle
    have HRun0 := Hid_mk hrun
    have HBd := Hid_mk hbd
    have HM1 := Hid_mk (show m1 ≤ s.size from hm1)
    have HM2 := Hid_mk (show m2 ≤ s.size from hm2)
    clear hrem hle hrun hbd hm1 hm2 HC HR hd1 hf2 hmx
    cases ok with
    | true =>
      obtain ⟨t1, ht1⟩ : ∃ t1, t = t1 := ⟨_, rfl⟩
      have HT1 := Hid_mk (show (if true = true then t else begS (oS r false s) t) = t1 from ht1)
      have HPl1 := Hid_mk (show t1.pl = t.pl by rw [ht1])
      rw [ht1] at hw
      have HW1 := Hid_mk hw
      have HBd1 := Hid_mk (show BdW s.size t1 by rw [← ht1]; exact HBd.out)
      clear ht1 hw
      by_cases hen : t1.en = -1
      · have he := ends_m HW1.out
        rw [hen] at he
        have HE := Hid_mk (show Calls Try.prog 40 #[.pointer (some ⟨o.q, 0, none⟩)] wr fun e w' => e = .returned (.bool false) ∧ wr = w' from he)
        have hrun := HRun0.out
        rw [fd_not HT1.out hen] at hrun
        clear he hen
        go_wp2_with fail
        with_reducible refine HE.out.mono ?_
        rintro e w3 ⟨rfl, rfl⟩
        obtain ⟨av, cv, b3⟩ := HW1.out.c3
        unfold fdEnd at hrun
        cases hl : (t1).L.length with
        | zero =>
          rw [hl] at b3 hrun
          have HRun := Hid_mk (show ((m1, m2), true) = R from (if_pos ⟨rfl, rfl⟩).symm.trans hrun)
          have HK := Hid_mk HW1.out.kp
          clear hl hrun
          have hu1 := run_i64 (m1 : Int) (by omega) (by have := HM1.out; have := HS.out; omega)
          have hu2 := run_i64 (m2 : Int) (by omega) (by have := HM2.out; have := HS.out; omega)
          unfold fl at hu1 hu2
          try unfold fl
          go_wp2
          simp only [jumpF]
          refine bodyPost_ret (v := .tuple #[.int .i64 (m1 : Int), .int .i64 (m2 : Int), .bool true]) (by simp [results, Try.results18, go_sem]) rfl ?_
          rw [← HRun.out]
          exact ⟨rfl, HK.out⟩
        | succ l =>
          rw [hl] at b3 hrun
          rw [if_neg (by omega)] at hrun
          have hli : decide ((((l + 1 : Nat) : Int)) > 0) = true := decide_eq_true (by omega)
          have hli2 : decide (((l : Int) + 1) > 0) = true := decide_eq_true (by omega)
          clear hl
          cases hat : atS (oS r false s) t1 with
          | none =>
            rw [hat] at hrun
            have HSt := Hid_mk (step_mno HW1.out hat)
            have HRun := Hid_mk (show ((m1, m2), true) = R from hrun)
            clear hrun hat
            go_wp2_with fail
            with_reducible refine HSt.out.mono ?_
            intro e w7 hp
            rcases hp.is with ⟨rfl, hw7⟩
            have HK := Hid_mk hw7.kp
            clear hp hw7 b3
            have hu1 := run_i64 (m1 : Int) (by omega) (by have := HM1.out; have := HS.out; omega)
            have hu2 := run_i64 (m2 : Int) (by omega) (by have := HM2.out; have := HS.out; omega)
            unfold fl at hu1 hu2
            try unfold fl
            go_wp2
            simp only [jumpF]
            refine bodyPost_ret (v := .tuple #[.int .i64 (m1 : Int), .int .i64 (m2 : Int), .bool true]) (by simp [results, Try.results18, go_sem]) rfl ?_
            rw [← HRun.out]
            exact ⟨rfl, HK.out⟩
          | some y =>
            obtain ⟨a, p⟩ := y
            rw [hat] at hrun
            have HSt := Hid_mk (step_m HW1.out hat)
            have hrs := rem_step (o := oS r false s) (b := byteS (oS r false s) a) (by rw [HPl1.out]; exact HLe.out) hat
            have HRs := Hid_mk hrs
            have HRun := Hid_mk (show fdRun (oS r false s) f (stepS (oS r false s) (byteS (oS r false s) a) p t1) (m1, m2) true = R from hrun)
            clear hrun hat hrs
            go_wp2_with fail
            with_reducible refine HSt.out.mono ?_
            intro e w7 hp
            rcases hp.is with ⟨rfl, hw7⟩
            have HW7 := Hid_mk hw7
            clear hp hw7 b3
            go_wp2
            go_step3
            exact ⟨rfl, f, Nat.lt_succ_self f, FdJ.mk _ o _ (m1, m2) true HW7.out (by have h1 := HRs.out; have h2 := HRem.out; have h3 := HPl1.out; rw [remF] at h1 h2 ⊢; rw [remF] at h1; omega) HRun.out (step_bd HBd1.out) ⟨HM1.out, HM2.out⟩ (by kernel_rfl)⟩
      · have he := ends_m HW1.out
        have hne : (t1.en != -1) = true := by simpa using hen
        rw [hne] at he
        have HE := Hid_mk he
        have hrun := HRun0.out
        rw [fd_ends HT1.out hen] at hrun
        obtain ⟨e1, he1⟩ : ∃ e1, t1.en.toNat = e1 := ⟨_, rfl⟩
        have hbd1 := HBd1.out
        have hei : t1.en = (e1 : Int) := by have := hbd1.2.1; omega
        have HE1 := Hid_mk (show e1 ≤ s.size by have := hbd1.2.2; omega)
        have HE2 := Hid_mk (show t1.pl ≤ s.size by rw [HPl1.out]; exact HLe.out)
        have hmt := match_m HW1.out
        rw [show matchV (oS r false s) t1 = C (e1 : Int) (t1.pl : Int) by rw [← hei]; rfl] at hmt
        unfold C at hmt
        have HMt := Hid_mk hmt
        have HDr := Hid_mk (fun V (hV : Kp No wr V) => drop_m (HW1.out.no hV))
        rw [he1] at hrun
        have HRun1 := Hid_mk hrun
        clear he hen hne hrun he1 hbd1 hei hmt
        go_wp2_with fail
        with_reducible refine HE.out.mono ?_
        rintro e w3 ⟨rfl, rfl⟩
        go_wp2_with fail
        with_reducible refine HMt.out.mono ?_
        rintro e w4 ⟨rfl, hk4⟩
        have HK4 := Hid_mk hk4
        clear hk4
        go_wp2_with fail
        with_reducible refine (HDr.out _ HK4.out).mono ?_
        intro e w5 hp
        rcases hp.is with ⟨rfl, hw5⟩
        have HW5 := Hid_mk hw5
        have HBd5 := Hid_mk (drop_bd HBd1.out)
        have HPl5 := Hid_mk (show (dropS t1).pl = t.pl from HPl1.out)
        have hrun := HRun1.out
        clear hp hw5
        obtain ⟨av, cv, b3⟩ := HW5.out.c3
        unfold fdEnd at hrun
        cases hl : ((dropS t1)).L.length with
        | zero =>
          rw [hl] at b3 hrun
          have HRun := Hid_mk (show ((e1, t1.pl), true) = R from (if_pos ⟨rfl, rfl⟩).symm.trans hrun)
          have HK := Hid_mk HW5.out.kp
          clear hl hrun
          have hu1 := run_i64 (e1 : Int) (by omega) (by have := HE1.out; have := HS.out; omega)
          have hu2 := run_i64 (t1.pl : Int) (by omega) (by have := HE2.out; have := HS.out; omega)
          unfold fl at hu1 hu2
          try unfold fl
          go_wp2
          simp only [jumpF]
          refine bodyPost_ret (v := .tuple #[.int .i64 (e1 : Int), .int .i64 (t1.pl : Int), .bool true]) (by simp [results, Try.results18, go_sem]) rfl ?_
          rw [← HRun.out]
          exact ⟨rfl, HK.out⟩
        | succ l =>
          rw [hl] at b3 hrun
          rw [if_neg (by omega)] at hrun
          have hli : decide ((((l + 1 : Nat) : Int)) > 0) = true := decide_eq_true (by omega)
          have hli2 : decide (((l : Int) + 1) > 0) = true := decide_eq_true (by omega)
          clear hl
          cases hat : atS (oS r false s) (dropS t1) with
          | none =>
            rw [hat] at hrun
            have HSt := Hid_mk (step_mno HW5.out hat)
            have HRun := Hid_mk (show ((e1, t1.pl), true) = R from hrun)
            clear hrun hat
            go_wp2_with fail
            with_reducible refine HSt.out.mono ?_
            intro e w7 hp
            rcases hp.is with ⟨rfl, hw7⟩
            have HK := Hid_mk hw7.kp
            clear hp hw7 b3
            have hu1 := run_i64 (e1 : Int) (by omega) (by have := HE1.out; have := HS.out; omega)
            have hu2 := run_i64 (t1.pl : Int) (by omega) (by have := HE2.out; have := HS.out; omega)
            unfold fl at hu1 hu2
            try unfold fl
            go_wp2
            simp only [jumpF]
            refine bodyPost_ret (v := .tuple #[.int .i64 (e1 : Int), .int .i64 (t1.pl : Int), .bool true]) (by simp [results, Try.results18, go_sem]) rfl ?_
            rw [← HRun.out]
            exact ⟨rfl, HK.out⟩
          | some y =>
            obtain ⟨a, p⟩ := y
            rw [hat] at hrun
            have HSt := Hid_mk (step_m HW5.out hat)
            have hrs := rem_step (o := oS r false s) (b := byteS (oS r false s) a) (by rw [HPl5.out]; exact HLe.out) hat
            have HRs := Hid_mk hrs
            have HRun := Hid_mk (show fdRun (oS r false s) f (stepS (oS r false s) (byteS (oS r false s) a) p (dropS t1)) (e1, t1.pl) true = R from hrun)
            clear hrun hat hrs
            go_wp2_with fail
            with_reducible refine HSt.out.mono ?_
            intro e w7 hp
            rcases hp.is with ⟨rfl, hw7⟩
            have HW7 := Hid_mk hw7
            clear hp hw7 b3
            go_wp2
            go_step3
            exact ⟨rfl, f, Nat.lt_succ_self f, FdJ.mk _ o _ (e1, t1.pl) true HW7.out (by have h1 := HRs.out; have h2 := HRem.out; have h3 := HPl5.out; rw [remF] at h1 h2 ⊢; rw [remF] at h1; omega) HRun.out (step_bd HBd5.out) ⟨HE1.out, HE2.out⟩ (by kernel_rfl)⟩
    | false =>
      have HB := Hid_mk (begin_m hw)
      clear hw
      go_wp2_with fail
      with_reducible refine HB.out.mono ?_
      intro e w2 hp
      rcases hp.is with ⟨rfl, hw2⟩
      obtain ⟨t1, ht1⟩ : ∃ t1, begS (oS r false s) t = t1 := ⟨_, rfl⟩
      have HT1 := Hid_mk (show (if false = true then t else begS (oS r false s) t) = t1 from ht1)
      have HPl1 := Hid_mk (show t1.pl = t.pl by rw [← ht1]; exact beg_pl _ _)
      rw [ht1] at hw2
      have HW1 := Hid_mk hw2
      have HBd1 := Hid_mk (show BdW s.size t1 by rw [← ht1]; exact beg_bd HLe.out HBd.out)
      clear ht1 hw2 hp HB
      by_cases hen : t1.en = -1
      · have he := ends_m HW1.out
        rw [hen] at he
        have HE := Hid_mk (show Calls Try.prog 40 #[.pointer (some ⟨o.q, 0, none⟩)] w2 fun e w' => e = .returned (.bool false) ∧ w2 = w' from he)
        have hrun := HRun0.out
        rw [fd_not HT1.out hen] at hrun
        clear he hen
        go_wp2_with fail
        with_reducible refine HE.out.mono ?_
        rintro e w3 ⟨rfl, rfl⟩
        obtain ⟨av, cv, b3⟩ := HW1.out.c3
        unfold fdEnd at hrun
        rw [if_neg (by intro h; cases h.1)] at hrun
        cases hat : atS (oS r false s) t1 with
        | none =>
          rw [hat] at hrun
          have HSt := Hid_mk (step_mno HW1.out hat)
          have HRun := Hid_mk (show ((m1, m2), false) = R from hrun)
          clear hrun hat
          go_wp2_with fail
          with_reducible refine HSt.out.mono ?_
          intro e w7 hp
          rcases hp.is with ⟨rfl, hw7⟩
          have HK := Hid_mk hw7.kp
          clear hp hw7 b3
          have hu1 := run_i64 (m1 : Int) (by omega) (by have := HM1.out; have := HS.out; omega)
          have hu2 := run_i64 (m2 : Int) (by omega) (by have := HM2.out; have := HS.out; omega)
          unfold fl at hu1 hu2
          try unfold fl
          go_wp2
          simp only [jumpF]
          refine bodyPost_ret (v := .tuple #[.int .i64 (m1 : Int), .int .i64 (m2 : Int), .bool false]) (by simp [results, Try.results18, go_sem]) rfl ?_
          rw [← HRun.out]
          exact ⟨rfl, HK.out⟩
        | some y =>
          obtain ⟨a, p⟩ := y
          rw [hat] at hrun
          have HSt := Hid_mk (step_m HW1.out hat)
          have hrs := rem_step (o := oS r false s) (b := byteS (oS r false s) a) (by rw [HPl1.out]; exact HLe.out) hat
          have HRs := Hid_mk hrs
          have HRun := Hid_mk (show fdRun (oS r false s) f (stepS (oS r false s) (byteS (oS r false s) a) p t1) (m1, m2) false = R from hrun)
          clear hrun hat hrs
          go_wp2_with fail
          with_reducible refine HSt.out.mono ?_
          intro e w7 hp
          rcases hp.is with ⟨rfl, hw7⟩
          have HW7 := Hid_mk hw7
          clear hp hw7 b3
          go_wp2
          go_step3
          exact ⟨rfl, f, Nat.lt_succ_self f, FdJ.mk _ o _ (m1, m2) false HW7.out (by have h1 := HRs.out; have h2 := HRem.out; have h3 := HPl1.out; rw [remF] at h1 h2 ⊢; rw [remF] at h1; omega) HRun.out (step_bd HBd1.out) ⟨HM1.out, HM2.out⟩ (by kernel_rfl)⟩
      · have he := ends_m HW1.out
        have hne : (t1.en != -1) = true := by simpa using hen
        rw [hne] at he
        have HE := Hid_mk he
        have hrun := HRun0.out
        rw [fd_ends HT1.out hen] at hrun
        obtain ⟨e1, he1⟩ : ∃ e1, t1.en.toNat = e1 := ⟨_, rfl⟩
        have hbd1 := HBd1.out
        have hei : t1.en = (e1 : Int) := by have := hbd1.2.1; omega
        have HE1 := Hid_mk (show e1 ≤ s.size by have := hbd1.2.2; omega)
        have HE2 := Hid_mk (show t1.pl ≤ s.size by rw [HPl1.out]; exact HLe.out)
        have hmt := match_m HW1.out
        rw [show matchV (oS r false s) t1 = C (e1 : Int) (t1.pl : Int) by rw [← hei]; rfl] at hmt
        unfold C at hmt
        have HMt := Hid_mk hmt
        have HDr := Hid_mk (fun V (hV : Kp No w2 V) => drop_m (HW1.out.no hV))
        rw [he1] at hrun
        have HRun1 := Hid_mk hrun
        clear he hen hne hrun he1 hbd1 hei hmt
        go_wp2_with fail
        with_reducible refine HE.out.mono ?_
        rintro e w3 ⟨rfl, rfl⟩
        go_wp2_with fail
        with_reducible refine HMt.out.mono ?_
        rintro e w4 ⟨rfl, hk4⟩
        have HK4 := Hid_mk hk4
        clear hk4
        go_wp2_with fail
        with_reducible refine (HDr.out _ HK4.out).mono ?_
        intro e w5 hp
        rcases hp.is with ⟨rfl, hw5⟩
        have HW5 := Hid_mk hw5
        have HBd5 := Hid_mk (drop_bd HBd1.out)
        have HPl5 := Hid_mk (show (dropS t1).pl = t.pl from HPl1.out)
        have hrun := HRun1.out
        clear hp hw5
        obtain ⟨av, cv, b3⟩ := HW5.out.c3
        unfold fdEnd at hrun
        cases hl : ((dropS t1)).L.length with
        | zero =>
          rw [hl] at b3 hrun
          have HRun := Hid_mk (show ((e1, t1.pl), true) = R from (if_pos ⟨rfl, rfl⟩).symm.trans hrun)
          have HK := Hid_mk HW5.out.kp
          clear hl hrun
          have hu1 := run_i64 (e1 : Int) (by omega) (by have := HE1.out; have := HS.out; omega)
          have hu2 := run_i64 (t1.pl : Int) (by omega) (by have := HE2.out; have := HS.out; omega)
          unfold fl at hu1 hu2
          try unfold fl
          go_wp2
          simp only [jumpF]
          refine bodyPost_ret (v := .tuple #[.int .i64 (e1 : Int), .int .i64 (t1.pl : Int), .bool true]) (by simp [results, Try.results18, go_sem]) rfl ?_
          rw [← HRun.out]
          exact ⟨rfl, HK.out⟩
        | succ l =>
          rw [hl] at b3 hrun
          rw [if_neg (by omega)] at hrun
          have hli : decide ((((l + 1 : Nat) : Int)) > 0) = true := decide_eq_true (by omega)
          have hli2 : decide (((l : Int) + 1) > 0) = true := decide_eq_true (by omega)
          clear hl
          cases hat : atS (oS r false s) (dropS t1) with
          | none =>
            rw [hat] at hrun
            have HSt := Hid_mk (step_mno HW5.out hat)
            have HRun := Hid_mk (show ((e1, t1.pl), true) = R from hrun)
            clear hrun hat
            go_wp2_with fail
            with_reducible refine HSt.out.mono ?_
            intro e w7 hp
            rcases hp.is with ⟨rfl, hw7⟩
            have HK := Hid_mk hw7.kp
            clear hp hw7 b3
            have hu1 := run_i64 (e1 : Int) (by omega) (by have := HE1.out; have := HS.out; omega)
            have hu2 := run_i64 (t1.pl : Int) (by omega) (by have := HE2.out; have := HS.out; omega)
            unfold fl at hu1 hu2
            try unfold fl
            go_wp2
            simp only [jumpF]
            refine bodyPost_ret (v := .tuple #[.int .i64 (e1 : Int), .int .i64 (t1.pl : Int), .bool true]) (by simp [results, Try.results18, go_sem]) rfl ?_
            rw [← HRun.out]
            exact ⟨rfl, HK.out⟩
          | some y =>
            obtain ⟨a, p⟩ := y
            rw [hat] at hrun
            have HSt := Hid_mk (step_m HW5.out hat)
            have hrs := rem_step (o := oS r false s) (b := byteS (oS r false s) a) (by rw [HPl5.out]; exact HLe.out) hat
            have HRs := Hid_mk hrs
            have HRun := Hid_mk (show fdRun (oS r false s) f (stepS (oS r false s) (byteS (oS r false s) a) p (dropS t1)) (e1, t1.pl) true = R from hrun)
            clear hrun hat hrs
            go_wp2_with fail
            with_reducible refine HSt.out.mono ?_
            intro e w7 hp
            rcases hp.is with ⟨rfl, hw7⟩
            have HW7 := Hid_mk hw7
            clear hp hw7 b3
            go_wp2
            go_step3
            exact ⟨rfl, f, Nat.lt_succ_self f, FdJ.mk _ o _ (e1, t1.pl) true HW7.out (by have h1 := HRs.out; have h2 := HRem.out; have h3 := HPl5.out; rw [remF] at h1 h2 ⊢; rw [remF] at h1; omega) HRun.out (step_bd HBd5.out) ⟨HE1.out, HE2.out⟩ (by kernel_rfl)⟩
  case first =>
    intro pass
    have HP := Hid_mk pass
    clear pass
    go_wp2_with fail
    with_reducible refine HC.out.mono ?_
    rintro e w1 ⟨o, rfl, hw⟩
    have HW := Hid_mk hw
    clear hw
    go_wp2
    apply wp_label
    rename_i hK0
    exact hK0 _ _ (HP.out (s.size + 1) _ _ (FdJ.mk _ o _ (0, 0) false HW.out (by rw [remF]; omega) HR.out (new_bd _ _ _) ⟨Nat.zero_le _, Nat.zero_le _⟩ (by kernel_rfl)))

end Go.Proofs.Ytaneblecgjahbab.nfa

namespace Go.Proofs.Ytaneblecgjahbab.nfa
open Go.RowKit Go.Proofs.Ytaneblecgjahbab.sum Go.Proofs.Ytaneblecgjahbab.kept Go.Proofs.Ytaneblecgjahbab.pop Go.Proofs.Ytaneblecgjahbab.cls Go.Proofs.Ytaneblecgjahbab.tre Go.Proofs.Ytaneblecgjahbab.ere Go.Proofs.Ytaneblecgjahbab.fl Go.Proofs.Ytaneblecgjahbab.mrk Go.Proofs.Ytaneblecgjahbab.spl
set_option linter.unusedVariables false

/-- a walk in the midst of a call, beside blocks that came since and are not the walk's -/
def WkB (w : World) (r : Nat × List Part) (bk : Bool) (s : ByteArray) (B : Nat → Prop) (o : Over) (t : Wst) (wr : World) : Prop :=
  (o.r = r ∧ o.bk = bk ∧ o.s = s ∧ WOk o) ∧ ∃ ρ vl vs vp g cg S, WkAt wr ρ o vl vs vp g cg S t ∧ OkW o.r.2 { t with stk := [] } ∧ t.pl ≤ o.s.size ∧ (∀ i, i < w.heap.size → ρ i = 0) ∧ Kp No w wr ∧ ∀ i, B i → w.heap.size ≤ i ∧ i < wr.heap.size ∧ ρ i = 0 ∧ i ≠ o.pb ∧ i ≠ o.gp
section
variable {w : World} {r : Nat × List Part} {bk : Bool} {s : ByteArray} {B : Nat → Prop} {o : Over} {t : Wst} {wr : World}
theorem WkB.kp (h : WkB w r bk s B o t wr) : Kp No w wr := by
  obtain ⟨-, ρ, vl, vs, vp, g, cg, S, -, -, -, -, h, -⟩ := h
  exact h
theorem WkB.le (h : WkB w r bk s B o t wr) : t.pl ≤ s.size := by
  obtain ⟨⟨-, -, rfl, -⟩, ρ, vl, vs, vp, g, cg, S, -, -, h, -⟩ := h
  exact h
/-- other memory has turned, what is beside is another one -/
theorem WkB.re (h : WkB w r bk s B o t wr) {w' : World} {B' : Nat → Prop} (hk : Kp B wr w') (hB : ∀ i, B' i → i < w'.heap.size ∧ (B i ∨ wr.heap.size ≤ i)) : WkB w r bk s B' o t w' := by
  obtain ⟨h0, ρ, vl, vs, vp, g, cg, S, h1, h2, h3, h4, h5, h6⟩ := h
  have hpl := h1.pg.lt
  refine ⟨h0, ρ, vl, vs, vp, g, cg, S, h1.kept hk fun i hi e => ⟨(h6 i e).2.2.1, (h6 i e).2.2.2.1, (h6 i e).2.2.2.2⟩, h2, h3, h4, h5.trans hk fun i hi e => by have := (h6 i e).1; omega, fun i e => ?_⟩
  obtain ⟨a, b⟩ := hB i e
  rcases b with b | b
  · obtain ⟨c1, c2, c3, c4, c5⟩ := h6 i b
    exact ⟨c1, a, c3, c4, c5⟩
  · exact ⟨Nat.le_trans h5.size b, a, h1.hi i b, by omega, by omega⟩
theorem WkB.no (h : WkB w r bk s B o t wr) {w' : World} (hk : Kp No wr w') : WkB w r bk s B o t w' := h.re hk.to fun i e => by
  obtain ⟨h0, ρ, vl, vs, vp, g, cg, S, h1, h2, h3, h4, h5, h6⟩ := h
  exact ⟨Nat.lt_of_lt_of_le (h6 i e).2.1 hk.size, .inl e⟩
def BbPost (w : World) (r : Nat × List Part) (bk : Bool) (s : ByteArray) (B : Nat → Prop) (o : Over) (wr : World) (v : Value) (t : Wst) (e : Ending) (w' : World) : Prop := e = .returned v ∧ WkB w r bk s B o t w' ∧ Kp (fun i => ¬ B i) wr w'
theorem BbPost.is {w : World} {r : Nat × List Part} {bk : Bool} {s : ByteArray} {B : Nat → Prop} {o : Over} {wr : World} {v : Value} {t : Wst} {e : Ending} {w' : World} (h : BbPost w r bk s B o wr v t e w') : e = .returned v ∧ WkB w r bk s B o t w' ∧ Kp (fun i => ¬ B i) wr w' := h
theorem wkb_next {ρ : Nat → Nat} {ρ2 : Nat → Nat} {w' : World} {vl vs vp : Value} {g cg : Nat} {S : List (Nat × Nat)} {t' : Wst} (h0 : o.r = r ∧ o.bk = bk ∧ o.s = s ∧ WOk o) (h4 : ∀ i, i < w.heap.size → ρ i = 0) (h5 : Kp No w wr) (h6 : ∀ i, B i → w.heap.size ≤ i ∧ i < wr.heap.size ∧ ρ i = 0 ∧ i ≠ o.pb ∧ i ≠ o.gp) (hw : WkAt w' ρ2 o vl vs vp g cg S t') (hg : Gr wr ρ w' ρ2) (hok : OkW o.r.2 { t' with stk := [] }) (hpl : t'.pl ≤ o.s.size) : WkB w r bk s B o t' w' ∧ Kp (fun i => ¬ B i) wr w' := by
  refine ⟨⟨h0, ρ2, vl, vs, vp, g, cg, S, hw, hok, hpl, fun i hi => (hg.same i (Nat.lt_of_lt_of_le hi h5.size)).2 (h4 i hi), h5.trans hg.kp fun i hi e => e (h4 i hi), fun i e => ?_⟩, hg.kp.mono fun i hi e hb => e (h6 i hb).2.2.1⟩
  obtain ⟨c1, c2, c3, c4⟩ := h6 i e
  exact ⟨c1, Nat.lt_of_lt_of_le c2 hg.kp.size, (hg.same i c2).2 c3, c4⟩
theorem begin_b (h : WkB w r bk s B o t wr) : Calls Try.prog 39 #[.pointer (some ⟨o.q, 0, none⟩)] wr (BbPost w r bk s B o wr (.tuple #[]) (begS (oS r bk s) t)) := by
  obtain ⟨⟨rfl, rfl, rfl, hO⟩, ρ, vl, vs, vp, g, cg, S, h1, h2, h3, h4, h5, h6⟩ := h
  refine (begin_any wr ρ o vl vs vp g cg S t h1 h2 hO.ok hO.st hO.pl (by have := hO.sz; omega)).mono ?_
  rintro e w' ⟨he, ρ2, a, b, c, d, g1, g2, g3⟩
  refine ⟨he, wkb_next ⟨rfl, rfl, rfl, hO⟩ h4 h5 h6 g1 g2 ⟨g3.len, fun x hx => (by cases hx), g3.big, ?_, g3.lt⟩ (by rw [beg_pl]; exact h3)⟩
  have h7 : (begS o t).seen.length = o.r.2.length := g3.len
  have h8 := un_le (begS o t).pl (begS o t).seen
  show 0 + unS (begS o t).pl (begS o t).seen ≤ o.r.2.length + 1
  omega
theorem ends_b (h : WkB w r bk s B o t wr) : Calls Try.prog 40 #[.pointer (some ⟨o.q, 0, none⟩)] wr fun e w' => e = .returned (.bool (t.en != -1)) ∧ wr = w' := by
  obtain ⟨-, ρ, vl, vs, vp, g, cg, S, h1, -⟩ := h
  exact ends_any wr ρ o vl vs vp g cg S t h1
theorem match_b (h : WkB w r bk s B o t wr) : Calls Try.prog 45 #[.pointer (some ⟨o.q, 0, none⟩)] wr fun e w' => e = .returned (matchV (oS r bk s) t) ∧ Kp No wr w' := by
  obtain ⟨⟨rfl, rfl, rfl, hO⟩, ρ, vl, vs, vp, g, cg, S, h1, -⟩ := h
  exact match_any wr ρ o vl vs vp g cg S t h1
theorem step_b (h : WkB w r bk s B o t wr) {a p : Nat} (hat : atS (oS r bk s) t = some (a, p)) : Calls Try.prog 41 #[.pointer (some ⟨o.q, 0, none⟩)] wr (BbPost w r bk s B o wr (.bool true) (stepS (oS r bk s) (byteS (oS r bk s) a) p t)) := by
  obtain ⟨⟨rfl, rfl, rfl, hO⟩, ρ, vl, vs, vp, g, cg, S, h1, h2, h3, h4, h5, h6⟩ := h
  have es : ∀ b, stepS (oS o.r o.bk o.s) b p t = stepS o b p t := fun b => stL_oS o b _ _
  rw [es]
  have hat : atS o t = some (a, p) := hat
  obtain ⟨ha, hp⟩ := at_lt h3 hat
  have hc := step_any wr ρ o vl vs vp g cg S t h1 h2 h2.lt hO.ok hO.pl h3 hO.sz a p hat ha
  rw [byte_at o a ha] at hc
  refine hc.mono ?_
  rintro e w' ⟨he, ρ2, a', b, c, d, f, S2, g1, g2, g3⟩
  exact ⟨he, wkb_next ⟨rfl, rfl, rfl, hO⟩ h4 h5 h6 g1 g2 g3 (by rw [step_pl]; exact hp)⟩
theorem step_bno (h : WkB w r bk s B o t wr) (hat : atS (oS r bk s) t = none) : Calls Try.prog 41 #[.pointer (some ⟨o.q, 0, none⟩)] wr (BbPost w r bk s B o wr (.bool false) t) := by
  have hh := h
  obtain ⟨⟨rfl, rfl, rfl, hO⟩, ρ, vl, vs, vp, g, cg, S, h1, h2, h3, h4, h5, h6⟩ := h
  exact (step_end wr ρ o vl vs vp g cg S t h1 h3 hO.sz hat).mono fun e w' ⟨he, hk⟩ => ⟨he, hh.no hk, hk.to⟩
end
/-- newWalk -/
theorem new_b (w : World) (pb po gp cp : Nat) (r : Nat × List Part) (bk : Bool) (s : ByteArray) (pl : Nat) (h : PgRd w pb po r bk gp cp) (hok : okP r.2) (hst : r.1 < r.2.length) (hl : r.2.length ≤ 1000000) (hs : s.size ≤ 140737488355327) (hpl : pl ≤ s.size) :
    Calls Try.prog 38 #[.pointer (some ⟨pb, po, none⟩), .string s, .int .i64 (pl : Int)] w fun e w' => ∃ o : Over, e = .returned (.pointer (some ⟨o.q, 0, none⟩)) ∧ WkB w r bk s (fun _ => False) o (newS (oS r bk s) pl) w' := by
  refine (newWalk_any w pb po gp cp r bk s pl h hl).mono fun e w' hp => ?_
  obtain ⟨q, ρ, he, ⟨ρ', vl, vs, vp, g, cg, S, h1, h2, h3, h4⟩, h5, h6⟩ := hp.is hpl
  refine ⟨⟨q, pb, po, gp, cp, r, bk, s⟩, he, ⟨rfl, rfl, rfl, hok, hst, hl, hs⟩, ρ', vl, vs, vp, g, cg, S, h1, h3, h4, fun i hi => (h2.same i (Nat.lt_of_lt_of_le hi h6.size)).2 (h5 i hi), h6, fun i e => e.elim⟩

/-- numbers of matches, one behind the other -/
def cxC (x : Nat × Nat) : List Value := [C (x.1 : Int) (x.2 : Int)]
theorem cx_len (l : List (Nat × Nat)) : (l.flatMap cxC).length = l.length * 1 := by
  induction l with
  | nil => rfl
  | cons e es ih => rw [List.flatMap_cons, List.length_append, ih, List.length_cons]; simp [cxC]; omega
abbrev CRw (w : World) (v : Value) (l : List (Nat × Nat)) : Prop := w.ownsRow 0 82 1 v l.length (l.flatMap cxC)
theorem infoCx : (Try.prog.info? 82).map (fun i => (i.zero, i.size, i.bytes)) = some (some (.complex .f64 0 0), 1, 16) := by kernel_rfl
theorem run_pushC (w : World) (v : Value) (l : List (Nat × Nat)) (h : CRw w v l) (e : Nat × Nat) (g c : Nat) (hg : w.heap[g]? = some (.cells #[C (e.1 : Int) (e.2 : Int)] 82 (0, 0))) (hn : l.length ≤ 1000000000000) :
    ∃ v' w', (Builtin.append_ #[79, 79] 79 #[v, .slice (some ⟨g, 0, none⟩) 1 c]).run Try.prog w = .ok v' w' ∧ CRw w' v' (l ++ [e]) ∧ Kp (fun k => some k = v.ownBlock) w w' ∧ (v'.ownBlock = v.ownBlock ∨ v'.ownBlock = some w.heap.size) := by
  obtain ⟨i0, hi, hz0, hz1, hz2⟩ := info_parts infoCx
  obtain ⟨v', w', hr, k1, k2, k3, k4⟩ := run_append_own_at (P := Try.prog) w 0 79 79 82 i0 _ 1 16 Try.underlying79 hi hz0 hz1 hz2 rfl (by decide) v l.length _ h ⟨g, 0, none⟩ 1 c (cxC e)
    rfl (World.news_of_block (cs := #[C (e.1 : Int) (e.2 : Int)]) hg) (by intro u hu; simp [cxC] at hu; rcases hu with rfl; rfl) (by unfold maxLen; omega) (by omega) (Nat.zero_le _)
  exact ⟨v', w', hr, by simpa [CRw] using k1, (Kp.refl _ _).grown k2 fun k _ e => e.symm, k4⟩

/-- of each place the longest one, the last place first -/
def loRun (o : Over) : Nat → Wst → List (Nat × Nat) → List (Nat × Nat)
  | 0, _, l => l
  | f + 1, t, l => match atS o (begS o t) with
    | none => if (begS o t).en = -1 then l else l ++ [((begS o t).pl, (begS o t).en.toNat)]
    | some (a, p) => loRun o f (stepS o (byteS o a) p (begS o t)) (if (begS o t).en = -1 then l else l ++ [((begS o t).pl, (begS o t).en.toNat)])
theorem row_lit {w : World} {v : Value} {l : List (Nat × Nat)} (h : CRw w v l) : ∃ a c, v = .slice a l.length c ∧ l.length ≤ c ∧ c ≤ maxLen := by
  rcases h.2 with ⟨rfl, e⟩ | ⟨g, cap, cur, rfl, h1, h2, h3, h4, h5, h6⟩
  · exact ⟨none, 0, by rw [e], by omega, by decide⟩
  · exact ⟨_, cap, rfl, h3, h4⟩
def LoJ (w : World) (r : Nat × List Part) (s : ByteArray) (mb : Nat) (R : List (Nat × Nat)) (n : Nat) (a : Act) (wr : World) : Prop :=
  ∃ U7 U8 U9 U10 U11 U12 U13 U14 U15 U16 U17 U18 U19 U20 U21 U22 U23 U24 U25 v o t l, a = { tmps := #[.pointer (some ⟨mb, 0, none⟩), .string s, undef, undef, .slice none 0 0, v, .pointer (some ⟨o.q, 0, none⟩), U7, U8, U9, U10, U11, U12, U13, U14, U15, U16, U17, U18, U19, U20, U21, U22, U23, U24, U25], defers := [] } ∧ WkB w r true s (fun i => v.ownBlock = some i) o t wr ∧ remS (oS r true s) t + 1 ≤ n ∧ loRun (oS r true s) n t l = R ∧ CRw wr v l ∧ BdW s.size t ∧ l.length + n ≤ s.size + 1
/-- a row of numbers; what there was is as it was -/
def LoPost (w : World) (R : List (Nat × Nat)) (e : Ending) (w' : World) : Prop := ∃ v, e = .returned v ∧ CRw w' v R ∧ Kp No w w' ∧ (∀ i, v.ownBlock = some i → w.heap.size ≤ i)

set_option maxRecDepth 100000 in
set_option maxHeartbeats 16000000 in
theorem longest_any (w : World) (mb gp cp : Nat) (r : Nat × List Part) (s : ByteArray) (h : PgRd w mb 3 r true gp cp) (hok : okP r.2) (hst : r.1 < r.2.length) (hpl : r.2.length ≤ 1000000) (hs : s.size ≤ 1000000000) :
    Calls Try.prog 57 #[.pointer (some ⟨mb, 0, none⟩), .string s] w (LoPost w (loRun (oS r true s) (s.size + 1) (newS (oS r true s) s.size) [])) := by
  obtain ⟨R, hR⟩ : ∃ R, loRun (oS r true s) (s.size + 1) (newS (oS r true s) s.size) [] = R := ⟨_, rfl⟩
  rw [hR]
  have hc := new_b w mb 3 gp cp r true s s.size h hok hst hpl (by omega) (Nat.le_refl _)
  have HC := Hid_mk hc
  have HR := Hid_mk hR
  have HS := Hid_mk hs
  clear h hok hst hpl hs hc hR
  go_enter Try.func57, Try.ntmps57
  go_wp2_with fail
  refine scope_one_g 0 (LoJ w r s mb R) rfl ?pass ?first
  case pass =>
    rintro n a' wr ⟨U7, U8, U9, U10, U11, U12, U13, U14, U15, U16, U17, U18, U19, U20, U21, U22, U23, U24, U25, v, o, t, l, rfl, hw, hrem, hrun, hrow, hbd, hlen⟩
    obtain ⟨f, rfl⟩ : ∃ f, n = f + 1 := ⟨n - 1, by omega⟩
    rw [loRun] at hrun
    have hle := hw.le
    have HB := Hid_mk (begin_b hw)
    have HRem := Hid_mk hrem
    have HRun := Hid_mk hrun
    have HLe := Hid_mk hle
    have HRow := Hid_mk hrow
    have HBd := Hid_mk hbd
    have HLen := Hid_mk hlen
    clear hw hrem hrun hle hrow hbd hlen HC HR
    go_wp2_with fail
    with_reducible refine HB.out.mono ?_
    intro e w2 hp
    rcases hp.is with ⟨rfl, hw2, hk2⟩
    obtain ⟨t1, ht1⟩ : ∃ t1, begS (oS r true s) t = t1 := ⟨_, rfl⟩
    have hrun := HRun.out
    rw [ht1] at hw2 hrun
    have hpl1 : t1.pl = t.pl := by rw [← ht1]; exact beg_pl _ _
    have HPl1 := Hid_mk hpl1
    have HBd1 := Hid_mk (show BdW s.size t1 by rw [← ht1]; exact beg_bd HLe.out HBd.out)
    have HRow2 := Hid_mk (owns_kept HRow.out hk2 fun k e1 e2 => e2 e1)
    have HW2 := Hid_mk hw2
    clear hp hw2 hk2 ht1 HB HRun hpl1
    by_cases hen : t1.en = -1
    · have he := ends_b HW2.out
      rw [hen] at he
      have HE := Hid_mk (show Calls Try.prog 40 #[.pointer (some ⟨o.q, 0, none⟩)] w2 fun e w' => e = .returned (.bool false) ∧ w2 = w' from he)
      rw [if_pos hen] at hrun
      clear hen he
      go_wp2_with fail
      with_reducible refine HE.out.mono ?_
      rintro e w3 ⟨rfl, rfl⟩
      cases hat : atS (oS r true s) t1 with
      | none =>
        rw [hat] at hrun
        have HSt := Hid_mk (step_bno HW2.out hat)
        have HRf := Hid_mk (show l = R from hrun)
        clear hrun hat
        go_wp2_with fail
        with_reducible refine HSt.out.mono ?_
        intro e w7 hp
        rcases hp.is with ⟨rfl, hw7, hk7⟩
        have HK := Hid_mk hw7.kp
        have HRow7 := Hid_mk (owns_kept HRow2.out hk7 fun k e1 e2 => e2 e1)
        have HOw := Hid_mk (show ∀ i, (v).ownBlock = some i → w.heap.size ≤ i by
          obtain ⟨-, _, _, _, _, _, _, _, -, -, -, -, -, h9⟩ := hw7
          exact fun i e => (h9 i e).1)
        clear hp hw7 hk7
        go_wp2
        simp only [jumpF]
        go_ret
        exact ⟨_, rfl, by rw [← HRf.out]; exact HRow7.out, HK.out, HOw.out⟩
      | some y =>
        obtain ⟨a, p⟩ := y
        rw [hat] at hrun
        have HSt := Hid_mk (step_b HW2.out hat)
        have hrs := rem_step (o := oS r true s) (b := byteS (oS r true s) a) (by rw [HPl1.out]; exact HLe.out) hat
        have HRs := Hid_mk hrs
        have HRun := Hid_mk (show loRun (oS r true s) f (stepS (oS r true s) (byteS (oS r true s) a) p t1) (l) = R from hrun)
        clear hrun hat hrs
        go_wp2_with fail
        with_reducible refine HSt.out.mono ?_
        intro e w7 hp
        rcases hp.is with ⟨rfl, hw7, hk7⟩
        have HW7 := Hid_mk hw7
        have HRow7 := Hid_mk (owns_kept HRow2.out hk7 fun k e1 e2 => e2 e1)
        clear hp hw7 hk7
        go_wp2
        go_step3
        exact ⟨rfl, f, Nat.lt_succ_self f, _, _, _, _, _, _, _, _, _, _, _, _, _, _, _, _, _, _, _, v, o, _, l, rfl, HW7.out, by have h1 := HRs.out; have h2 := HRem.out; have h3 := HPl1.out; rw [remB] at h1 h2 ⊢; rw [remB] at h1; omega, HRun.out, HRow7.out, step_bd HBd1.out, by have := HLen.out; simp; omega⟩
    · have he := ends_b HW2.out
      have hne : (t1.en != -1) = true := by simpa using hen
      rw [hne] at he
      have HE := Hid_mk he
      rw [if_neg hen] at hrun
      obtain ⟨e1, he1⟩ : ∃ e1, t1.en.toNat = e1 := ⟨_, rfl⟩
      have hbd1 := HBd1.out
      have hei : t1.en = (e1 : Int) := by have := hbd1.2.1; omega
      have hmt := match_b HW2.out
      rw [show matchV (oS r true s) t1 = C (t1.pl : Int) (e1 : Int) by rw [← hei]; rfl] at hmt
      have HMt := Hid_mk hmt
      rw [he1] at hrun
      have HRun1 := Hid_mk hrun
      clear he hen hne hrun he1 hbd1 hei hmt
      go_wp2_with fail
      with_reducible refine HE.out.mono ?_
      rintro e w3 ⟨rfl, rfl⟩
      go_wp2_with fail
      with_reducible refine HMt.out.mono ?_
      rintro e w4 ⟨rfl, hk4⟩
      have hka : Kp No w4 (w4.alloc (.cells #[.complex .f64 (fl (t1.pl : Int)) (fl (e1 : Int))] 82)) := (Kp.refl No w4).alloc _
      have hrow4 : CRw (w4.alloc (.cells #[.complex .f64 (fl (t1.pl : Int)) (fl (e1 : Int))] 82)) v l := owns_kept (owns_kept HRow2.out hk4 fun k _ e => e) hka fun k _ e => e
      obtain ⟨v', w5, hr, hrow5, hk5, hown⟩ := run_pushC _ v l hrow4 (t1.pl, e1) w4.heap.size 1 (heap_alloc_new w4 _) (by have h1 := HLen.out; have h2 := HS.out; omega)
      have hw5 := (HW2.out.no (hk4.trans' hka)).re (hk5.mono fun k _ (e : some k = v.ownBlock) => (e.symm : v.ownBlock = some k)) (B' := fun i => v'.ownBlock = some i) (fun i (e : v'.ownBlock = some i) => ⟨(hrow5.lt i e).2, by
        rcases hown with h | h
        · exact .inl (h.symm.trans e)
        · have h2 := h.symm.trans e
          injection h2 with h2
          exact .inr (Nat.le_of_eq h2)⟩)
      have HW5 := Hid_mk hw5
      have HRow5 := Hid_mk hrow5
      have hrun := HRun1.out
      clear hk4 hka hrow4 hrow5 hk5 hown hw5 HRun1 HRow2 HE HMt HW2
      unfold C
      go_wp2_with (at_builtin; (refine ere.wpList_append_run rfl _ _ _ _ rfl hr ?_))
      clear hr
      cases hat : atS (oS r true s) t1 with
      | none =>
        rw [hat] at hrun
        have HSt := Hid_mk (step_bno HW5.out hat)
        have HRf := Hid_mk (show l ++ [(t1.pl, e1)] = R from hrun)
        clear hrun hat
        go_wp2_with fail
        with_reducible refine HSt.out.mono ?_
        intro e w7 hp
        rcases hp.is with ⟨rfl, hw7, hk7⟩
        have HK := Hid_mk hw7.kp
        have HRow7 := Hid_mk (owns_kept HRow5.out hk7 fun k e1 e2 => e2 e1)
        have HOw := Hid_mk (show ∀ i, (v').ownBlock = some i → w.heap.size ≤ i by
          obtain ⟨-, _, _, _, _, _, _, _, -, -, -, -, -, h9⟩ := hw7
          exact fun i e => (h9 i e).1)
        clear hp hw7 hk7
        go_wp2
        simp only [jumpF]
        go_ret
        exact ⟨_, rfl, by rw [← HRf.out]; exact HRow7.out, HK.out, HOw.out⟩
      | some y =>
        obtain ⟨a, p⟩ := y
        rw [hat] at hrun
        have HSt := Hid_mk (step_b HW5.out hat)
        have hrs := rem_step (o := oS r true s) (b := byteS (oS r true s) a) (by rw [HPl1.out]; exact HLe.out) hat
        have HRs := Hid_mk hrs
        have HRun := Hid_mk (show loRun (oS r true s) f (stepS (oS r true s) (byteS (oS r true s) a) p t1) (l ++ [(t1.pl, e1)]) = R from hrun)
        clear hrun hat hrs
        go_wp2_with fail
        with_reducible refine HSt.out.mono ?_
        intro e w7 hp
        rcases hp.is with ⟨rfl, hw7, hk7⟩
        have HW7 := Hid_mk hw7
        have HRow7 := Hid_mk (owns_kept HRow5.out hk7 fun k e1 e2 => e2 e1)
        clear hp hw7 hk7
        go_wp2
        go_step3
        exact ⟨rfl, f, Nat.lt_succ_self f, _, _, _, _, _, _, _, _, _, _, _, _, _, _, _, _, _, _, _, v', o, _, l ++ [(t1.pl, e1)], rfl, HW7.out, by have h1 := HRs.out; have h2 := HRem.out; have h3 := HPl1.out; rw [remB] at h1 h2 ⊢; rw [remB] at h1; omega, HRun.out, HRow7.out, step_bd HBd1.out, by have := HLen.out; simp; omega⟩
  case first =>
    intro pass
    have HP := Hid_mk pass
    clear pass
    go_wp2_with fail
    with_reducible refine HC.out.mono ?_
    rintro e w1 ⟨o, rfl, hw⟩
    have HW := Hid_mk (hw.re (Kp.refl _ _) (B' := fun i => (Value.slice none 0 0).ownBlock = some i) fun i e => by cases e)
    clear hw
    go_wp2
    apply wp_label
    rename_i hK0
    exact hK0 _ _ (HP.out (s.size + 1) _ _ ⟨_, _, _, _, _, _, _, _, _, _, _, _, _, _, _, _, _, _, _, .slice none 0 0, o, _, [], rfl, HW.out, by rw [remB]; exact Nat.le_refl _, HR.out, World.ownsRow_nil _ _ _ _, new_bd _ _ _, by simp⟩)

end Go.Proofs.Ytaneblecgjahbab.nfa
