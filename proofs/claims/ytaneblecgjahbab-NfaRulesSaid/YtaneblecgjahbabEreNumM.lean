/- Package ere: decimal numbers, what a backslash makes of a byte, how often. Package ere: how often: what stands behind a brace. -/
import Derived.Test.YtaneblecgjahbabRefRightM
import Derived.Test.YtaneblecgjahbabBracket

namespace Go.Proofs.Ytaneblecgjahbab.ere
open Go.RowKit Go.Proofs.Ytaneblecgjahbab.sum Go.Proofs.Ytaneblecgjahbab.kept Go.Proofs.Ytaneblecgjahbab.pop Go.Proofs.Ytaneblecgjahbab.cls Go.Proofs.Ytaneblecgjahbab.tre Go.Proofs.Ytaneblecgjahbab.str
set_option linter.unusedVariables false

theorem gt_dec {k j n : Nat} (h : j = n) : decide ((k : Int) < ((k + j : Nat) : Int)) = decide (n ≠ 0) := by
  subst h
  by_cases h0 : j = 0
  · subst h0; simp
  · rw [decide_eq_true (by omega), decide_eq_true h0]

def DgRel (l : List UInt8) (k : Nat) (b e : Value) : Prop := ∃ j : Nat, j ≤ digN l k ∧ b = .int .i64 (digV l k j : Nat) ∧ e = .int .i64 ((k + j : Nat) : Int)

set_option maxRecDepth 100000 in
set_option maxHeartbeats 1000000 in
theorem number_any (w : World) (l : List UInt8) (k : Nat) (hk : k ≤ l.length) (hl : l.length < 4294967281) :
    Calls Try.prog 113 #[.string (st l), .int .i64 (k : Int)] w fun e w' => e = .returned (.tuple #[.int .i64 (digV l k (digN l k) : Nat), .int .i64 ((k + digN l k : Nat) : Int), .bool (decide (digN l k ≠ 0))]) ∧ w' = w := by
  have hsz := st_size l
  have hk0 : (0 : Int) ≤ (k : Int) := Int.natCast_nonneg _
  have hw3 : IntKind.i64.wrap ((k : Int) + 2) = (k : Int) + 2 := IntWalk.i64_in _ (by omega)
  have hon := digN_le l k
  have hro := digN_room l k hk
  obtain ⟨Z, hZ⟩ : ∃ Z, decide (digN l k ≠ 0) = Z := ⟨_, rfl⟩
  rw [hZ]
  have HZ := Hid_mk hZ
  clear hZ
  go_enter Try.func113, Try.ntmps113
  go_wp2
  go_loopw [4, 5] (fun b e wr => DgRel l k b e ∧ wr = w) (fun _ e _ => l.length - (intOf e).toNat)
  case atStart => exact ⟨⟨0, Nat.zero_le _, rfl, rfl⟩, rfl⟩
  case round =>
    obtain ⟨⟨j, hj, rfl, rfl⟩, rfl⟩ := hrel
    have hwi : IntKind.i64.wrap (((k + j : Nat) : Int) + 1) = ((k + (j + 1) : Nat) : Int) := by rw [IntWalk.i64_in _ (by omega)]; push_cast; omega
    have hv : digV l k j ≤ 99 := by
      have := digV_le l k j hj
      have h2 := digN_le l k
      have : j = 0 ∨ j = 1 ∨ j = 2 := by omega
      rcases this with rfl | rfl | rfl <;> omega
    by_cases hlt : k + j < l.length
    · have hki : ((k + j : Nat) : Int) < (l.length : Int) := by omega
      have hg := fun h => st_get l (k + j) h
      obtain ⟨x, hx⟩ : ∃ x, (l.getD (k + j) 0).toNat = x := ⟨_, rfl⟩
      have hxl := (l.getD (k + j) 0).toNat_lt
      rw [hx] at hg hxl
      by_cases h3 : j < 2
      · have h3i : ((k + j : Nat) : Int) < (k : Int) + 2 := by omega
        by_cases hlo : 48 ≤ x
        · have hloi : (48 : Int) ≤ (x : Int) := by omega
          by_cases hhi : x ≤ 57
          · have hhii : (x : Int) ≤ 57 := by omega
            have hjn : j < digN l k := by
              rcases digN_end l k with h | h
              · omega
              · refine Decidable.byContradiction fun hn => ?_
                obtain rfl : j = digN l k := by omega
                rw [(digB_iff l _).2 ⟨hlt, by unfold atB; omega, by unfold atB; omega⟩] at h
                cases h
            have hstep : digV l k (j + 1) = digV l k j * 10 + (x - 48) := by rw [digV, atB, hx]
            obtain ⟨V, hV⟩ : ∃ V, digV l k j = V := ⟨_, rfl⟩
            obtain ⟨V2, hV2⟩ : ∃ V, digV l k (j + 1) = V := ⟨_, rfl⟩
            rw [hV] at hstep hv
            rw [hV2] at hstep
            rw [hV]
            have HN := Hid_mk hjn
            have HV2 := Hid_mk hV2
            have HM := Hid_mk hk
            clear hjn hV hV2 hon
            have hx48 : ((x : Int) - 48) % 256 = (x : Int) - 48 := by omega
            have hm : IntKind.i64.wrap ((V : Int) * 10) = (V : Int) * 10 := IntWalk.i64_in _ (by omega)
            have hval2 : IntKind.i64.wrap ((V : Int) * 10 + ((x : Int) - 48)) = ((V2 : Nat) : Int) := by rw [hstep, IntWalk.i64_in _ (by omega)]; omega
            have HVal := Hid_mk hval2
            clear hstep hx
            obtain ⟨K, hK⟩ : ∃ K, k + j = K := ⟨_, rfl⟩
            obtain ⟨K2, hK2⟩ : ∃ K, k + (j + 1) = K := ⟨_, rfl⟩
            rw [hK] at hg hlt hki h3i hwi ⊢
            rw [hK2] at hwi
            have HK2 := Hid_mk hK2
            have HK := Hid_mk hK
            clear hK hK2
            go_wp2
            go_roundw
            case rel => exact ⟨⟨j + 1, HN.out, by rw [HV2.out], by rw [HK2.out]⟩, by trivial⟩
            case measure => have := HK.out; have := HK2.out; simp only [intOf]; omega
          · have hhii : ¬ (x : Int) ≤ 57 := by omega
            have hjn : j = digN l k := by
              refine Decidable.byContradiction fun hn => ?_
              have := (digB_iff l _).1 (digN_lt l k j (by omega))
              unfold atB at this
              omega
            have HJ := Hid_mk hjn
            have hgt : decide ((k : Int) < ((k + j : Nat) : Int)) = decide (digN l k ≠ 0) := gt_dec hjn
            clear hjn hon hro hwi
            obtain ⟨K, hK⟩ : ∃ K, k + j = K := ⟨_, rfl⟩
            rw [hK] at hg hlt hki h3i hgt ⊢
            have HGt := Hid_mk hgt
            clear hgt
            obtain ⟨V, hV⟩ : ∃ V, digV l k j = V := ⟨_, rfl⟩
            rw [hV]
            have HK := Hid_mk hK
            have HV := Hid_mk hV
            clear hK hV
            go_wp2
            refine bodyPost_ret (results_tmp3 rfl _ _ _) rfl ?_
            exact ⟨by rw [show Z = decide (k < K) from by rw [← HZ.out, ← HGt.out]; exact decide_eq_decide.2 (by omega), ← HJ.out, HV.out, show (k : Int) + (j : Int) = (K : Int) by have := HK.out; omega]; rfl, rfl⟩
        · have hloi : ¬ (48 : Int) ≤ (x : Int) := by omega
          have hjn : j = digN l k := by
            refine Decidable.byContradiction fun hn => ?_
            have := (digB_iff l _).1 (digN_lt l k j (by omega))
            unfold atB at this
            omega
          have HJ := Hid_mk hjn
          have hgt : decide ((k : Int) < ((k + j : Nat) : Int)) = decide (digN l k ≠ 0) := gt_dec hjn
          clear hjn hon hro hwi
          obtain ⟨K, hK⟩ : ∃ K, k + j = K := ⟨_, rfl⟩
          rw [hK] at hg hlt hki h3i hgt ⊢
          have HGt := Hid_mk hgt
          clear hgt
          obtain ⟨V, hV⟩ : ∃ V, digV l k j = V := ⟨_, rfl⟩
          rw [hV]
          have HK := Hid_mk hK
          have HV := Hid_mk hV
          clear hK hV
          go_wp2
          refine bodyPost_ret (results_tmp3 rfl _ _ _) rfl ?_
          exact ⟨by rw [show Z = decide (k < K) from by rw [← HZ.out, ← HGt.out]; exact decide_eq_decide.2 (by omega), ← HJ.out, HV.out, show (k : Int) + (j : Int) = (K : Int) by have := HK.out; omega]; rfl, rfl⟩
      · have h3i : ¬ ((k + j : Nat) : Int) < (k : Int) + 2 := by omega
        have hjn : j = digN l k := by omega
        have HJ := Hid_mk hjn
        have hgt : decide ((k : Int) < ((k + j : Nat) : Int)) = decide (digN l k ≠ 0) := gt_dec hjn
        clear hjn hon hro hwi
        obtain ⟨K, hK⟩ : ∃ K, k + j = K := ⟨_, rfl⟩
        rw [hK] at hg hlt hki h3i hgt ⊢
        have HGt := Hid_mk hgt
        clear hgt
        obtain ⟨V, hV⟩ : ∃ V, digV l k j = V := ⟨_, rfl⟩
        rw [hV]
        have HK := Hid_mk hK
        have HV := Hid_mk hV
        clear hK hV
        go_wp2
        refine bodyPost_ret (results_tmp3 rfl _ _ _) rfl ?_
        exact ⟨by rw [show Z = decide (k < K) from by rw [← HZ.out, ← HGt.out]; exact decide_eq_decide.2 (by omega), ← HJ.out, HV.out, show (k : Int) + (j : Int) = (K : Int) by have := HK.out; omega]; rfl, rfl⟩
    · have hki : ¬ ((k + j : Nat) : Int) < (l.length : Int) := by omega
      have hjn : j = digN l k := by
        refine Decidable.byContradiction fun hn => ?_
        have := (digB_iff l _).1 (digN_lt l k j (by omega))
        omega
      have HJ := Hid_mk hjn
      have hgt : decide ((k : Int) < ((k + j : Nat) : Int)) = decide (digN l k ≠ 0) := gt_dec hjn
      clear hjn hon hro hwi
      obtain ⟨K, hK⟩ : ∃ K, k + j = K := ⟨_, rfl⟩
      rw [hK] at hlt hki hgt ⊢
      have HGt := Hid_mk hgt
      clear hgt
      obtain ⟨V, hV⟩ : ∃ V, digV l k j = V := ⟨_, rfl⟩
      rw [hV]
      have HK := Hid_mk hK
      have HV := Hid_mk hV
      clear hK hV
      go_wp2
      refine bodyPost_ret (results_tmp3 rfl _ _ _) rfl ?_
      exact ⟨by rw [show Z = decide (k < K) from by rw [← HZ.out, ← HGt.out]; exact decide_eq_decide.2 (by omega), ← HJ.out, HV.out, show (k : Int) + (j : Int) = (K : Int) by have := HK.out; omega]; rfl, rfl⟩

set_option maxRecDepth 100000 in
set_option maxHeartbeats 1000000 in
theorem escaped_any (w : World) (b : Nat) (hb : b < 256) : Calls Try.prog 112 #[.int .u8 (b : Int)] w fun e w' => e = .returned (.int .u8 (escS b : Nat)) ∧ w' = w := by
  by_cases h0 : b = 110
  · subst h0
    rw [show escS 110 = 10 from rfl]
    go_enter Try.func112, Try.ntmps112
    go_wp2
    go_ret
    exact ⟨rfl, rfl⟩
  by_cases h1 : b = 116
  · subst h1
    rw [show escS 116 = 9 from rfl]
    go_enter Try.func112, Try.ntmps112
    go_wp2
    go_ret
    exact ⟨rfl, rfl⟩
  by_cases h2 : b = 114
  · subst h2
    rw [show escS 114 = 13 from rfl]
    go_enter Try.func112, Try.ntmps112
    go_wp2
    go_ret
    exact ⟨rfl, rfl⟩
  by_cases h3 : b = 102
  · subst h3
    rw [show escS 102 = 12 from rfl]
    go_enter Try.func112, Try.ntmps112
    go_wp2
    go_ret
    exact ⟨rfl, rfl⟩
  by_cases h4 : b = 118
  · subst h4
    rw [show escS 118 = 11 from rfl]
    go_enter Try.func112, Try.ntmps112
    go_wp2
    go_ret
    exact ⟨rfl, rfl⟩
  by_cases h5 : b = 97
  · subst h5
    rw [show escS 97 = 7 from rfl]
    go_enter Try.func112, Try.ntmps112
    go_wp2
    go_ret
    exact ⟨rfl, rfl⟩
  by_cases h6 : b = 98
  · subst h6
    rw [show escS 98 = 8 from rfl]
    go_enter Try.func112, Try.ntmps112
    go_wp2
    go_ret
    exact ⟨rfl, rfl⟩
  have e0 : ((b : Int) == 110) = false := by rw [beq_eq_false_iff_ne]; omega
  have e1 : ((b : Int) == 116) = false := by rw [beq_eq_false_iff_ne]; omega
  have e2 : ((b : Int) == 114) = false := by rw [beq_eq_false_iff_ne]; omega
  have e3 : ((b : Int) == 102) = false := by rw [beq_eq_false_iff_ne]; omega
  have e4 : ((b : Int) == 118) = false := by rw [beq_eq_false_iff_ne]; omega
  have e5 : ((b : Int) == 97) = false := by rw [beq_eq_false_iff_ne]; omega
  have e6 : ((b : Int) == 98) = false := by rw [beq_eq_false_iff_ne]; omega
  rw [show escS b = b from by unfold escS; rw [if_neg h0, if_neg h1, if_neg h2, if_neg h3, if_neg h4, if_neg h5, if_neg h6]]
  clear h0 h1 h2 h3 h4 h5 h6
  go_enter Try.func112, Try.ntmps112
  go_wp2
  go_ret
  exact ⟨rfl, rfl⟩

end Go.Proofs.Ytaneblecgjahbab.ere

namespace Go.Proofs.Ytaneblecgjahbab.ere
open Go.RowKit Go.Proofs.Ytaneblecgjahbab.sum Go.Proofs.Ytaneblecgjahbab.kept Go.Proofs.Ytaneblecgjahbab.pop Go.Proofs.Ytaneblecgjahbab.cls Go.Proofs.Ytaneblecgjahbab.tre Go.Proofs.Ytaneblecgjahbab.str
set_option linter.unusedVariables false

theorem pre_sees (l : List UInt8) (k : Nat) (c : UInt8) : Lib.hasPrefix (l.drop k) [c] = seesB l k [c.toNat] := by
  unfold seesB atB
  by_cases h : k < l.length
  · rw [List.drop_eq_getElem_cons h, decide_eq_true h, Bool.true_and]
    have e : l.getD k 0 = l[k] := by simp [List.getD, h]
    rw [e]
    generalize l[k] = x
    generalize l.drop (k + 1) = r
    rw [Bool.eq_iff_iff]
    simp only [Lib.hasPrefix, List.isPrefixOf, List.contains_cons, List.contains_nil, Bool.or_false, Bool.and_true, beq_iff_eq]
    constructor
    · rintro h
      first | (subst h; rfl) | (simp at h; simp [h])
    · intro h
      have := UInt8.toNat_inj.1 h
      first | (exact this.symm) | (simp [this])
  · rw [decide_eq_false h, Bool.false_and, List.drop_eq_nil_of_le (by omega)]
    rfl
theorem prefix_any (w : World) (l : List UInt8) (k : Nat) (c : UInt8) (p : ByteArray) (hp : p.data.toList = [c]) (b : Bool) (hb : seesB l k [c.toNat] = b) :
    Calls Try.prog 114 #[.string (st (l.drop k)), .string p] w fun e w' => e = .returned (.bool b) ∧ w = w' := by
  rw [← hb, ← pre_sees]
  exact pre_any w (l.drop k) [c] p hp
/-- what is told of it -/
def TmPost (w : World) (r : Option ((Nat × Nat × Bool) × Nat)) (e : Ending) (w' : World) : Prop :=
  ∃ (a b : Int) (c : Bool) (n : Int) (ok : Bool), e = .returned (.tuple #[.agg #[.int .i64 a, .int .i64 b, .bool c], .int .i64 n, .bool ok]) ∧ (match r with | none => ok = false | some (x, m) => ok = true ∧ a = x.1 ∧ b = x.2.1 ∧ c = x.2.2 ∧ n = m) ∧ Kp No w w'
theorem sees_lt {l : List UInt8} {k : Nat} {bs : List Nat} (h : seesB l k bs = true) : k < l.length := by
  unfold seesB at h
  simp only [Bool.and_eq_true, decide_eq_true_eq] at h
  exact h.1

set_option maxRecDepth 100000 in
set_option maxHeartbeats 4000000 in
theorem times_any (w : World) (l : List UInt8) (k : Nat) (hk : k ≤ l.length) (hl : l.length < 4294967281) :
    Calls Try.prog 104 #[.string (st l), .int .i64 (k : Int)] w (TmPost w (timesS l k)) := by
  have hsz := st_size l
  have HN1 := Hid_mk fun W => number_any W l k hk hl
  have hro := digN_room l k hk
  have hdl := digN_le l k
  have hdv := digV_le l k (digN l k) (Nat.le_refl _)
  obtain ⟨n, hn⟩ : ∃ n, digN l k = n := ⟨_, rfl⟩
  obtain ⟨m, hm⟩ : ∃ m, digV l k n = m := ⟨_, rfl⟩
  have hT : timesS l k = timesS l k := rfl
  conv at hT => rhs; unfold timesS
  simp only [hn, hm] at hT
  rw [hn] at HN1 hro hdl hdv
  rw [hm] at HN1 hdv
  have hm99 : m < 100 := by
    have : n = 0 ∨ n = 1 ∨ n = 2 := by omega
    rcases this with rfl | rfl | rfl <;> omega
  obtain ⟨p, hp⟩ : ∃ p, k + n = p := ⟨_, rfl⟩
  rw [hp] at HN1 hro
  simp only [hp] at hT
  clear hn hm hdv hdl
  have HK0 := Hid_mk ((Kp.refl No w).alloc (.cells #[.int .i64 0, .int .i64 0, .bool false] 164))
  have hqn : w.heap.size < w.heap.size → No w.heap.size := fun h => absurd h (Nat.lt_irrefl _)
  have HQn := Hid_mk hqn
  clear hqn
  have hp0 : (0 : Int) ≤ (p : Int) := Int.natCast_nonneg _
  have hx := st_from l p
  have hwp : IntKind.i64.wrap ((p : Int) + 1) = ((p + 1 : Nat) : Int) := by rw [IntWalk.i64_in _ (by omega)]; push_cast; rfl
  have hwq : IntKind.i64.wrap ((p : Int) + 1 + 1) = ((p + 2 : Nat) : Int) := by rw [IntWalk.i64_in _ (by omega)]; push_cast; rfl
  have hmm : (m : Int) ≤ (m : Int) := Int.le_refl _
  by_cases h0 : n = 0
  · have hR : timesS l k = none := by rw [hT, if_pos h0]
    have e0 : decide (n ≠ 0) = false := by simp [h0]
    rw [e0] at HN1
    rw [hR]
    clear hT hR h0
    go_enter Try.func104, Try.ntmps104
    go_wp2_with fail
    with_reducible refine (HN1.out _).mono ?_
    rintro e w1 ⟨rfl, rfl⟩
    go_wp2
    refine bodyPost_ret (v := .tuple #[.agg #[.int .i64 (m), .int .i64 (m), .bool false], .int .i64 ((p : Int) + 1), .bool false]) ?_ rfl ⟨_, _, _, _, _, rfl, rfl, ?_⟩
    · first | (simp [results, Try.results104, go_sem]; done) | (simp [results, Try.results104, go_sem]; omega)
    · repeat (first | exact HK0.out | exact (Kp.refl No w).alloc _ | (refine Kp.setCell ?_ HQn.out _))
  · have e0 : decide (n ≠ 0) = true := by simp [h0]
    rw [e0] at HN1
    rw [if_neg h0] at hT
    by_cases hc : seesB l p [44] = true
    · have hp1 := sees_lt hc
      have hx1 := st_from l (p + 1)
      have HP1 := Hid_mk fun W => prefix_any W l p 44 ⟨#[44]⟩ rfl true hc
      rw [if_pos hc] at hT
      by_cases hb : seesB l (p + 1) [125] = true
      · have HP2 := Hid_mk fun W => prefix_any W l (p + 1) 125 ⟨#[125]⟩ rfl true hb
        rw [if_pos hb] at hT
        by_cases h5 : m ≤ 50
        · rw [if_pos h5] at hT
          rw [hT]
          have h5i : (m : Int) ≤ 50 := by omega
          clear hT
          go_enter Try.func104, Try.ntmps104
          go_wp2_with fail
          with_reducible refine (HN1.out _).mono ?_
          rintro e w1 ⟨rfl, rfl⟩
          go_wp2_with fail
          with_reducible refine (HP1.out _).mono ?_
          rintro e w1 ⟨rfl, rfl⟩
          go_wp2_with fail
          with_reducible refine (HP2.out _).mono ?_
          rintro e w1 ⟨rfl, rfl⟩
          go_wp2_with fail
          with_reducible refine (HP2.out _).mono ?_
          rintro e w1 ⟨rfl, rfl⟩
          go_wp2
          refine bodyPost_ret (v := .tuple #[.agg #[.int .i64 (m), .int .i64 (m), .bool true], .int .i64 (((p + 2 : Nat) : Int)), .bool true]) ?_ rfl ⟨_, _, _, _, _, rfl, ⟨rfl, rfl, rfl, rfl, rfl⟩, ?_⟩
          · first | (simp [results, Try.results104, go_sem]; done) | (simp [results, Try.results104, go_sem]; omega)
          · repeat (first | exact HK0.out | exact (Kp.refl No w).alloc _ | (refine Kp.setCell ?_ HQn.out _))
        · rw [if_neg h5] at hT
          rw [hT]
          have h5i : ¬ (m : Int) ≤ 50 := by omega
          clear hT
          go_enter Try.func104, Try.ntmps104
          go_wp2_with fail
          with_reducible refine (HN1.out _).mono ?_
          rintro e w1 ⟨rfl, rfl⟩
          go_wp2_with fail
          with_reducible refine (HP1.out _).mono ?_
          rintro e w1 ⟨rfl, rfl⟩
          go_wp2_with fail
          with_reducible refine (HP2.out _).mono ?_
          rintro e w1 ⟨rfl, rfl⟩
          go_wp2_with fail
          with_reducible refine (HP2.out _).mono ?_
          rintro e w1 ⟨rfl, rfl⟩
          go_wp2
          refine bodyPost_ret (v := .tuple #[.agg #[.int .i64 (m), .int .i64 (m), .bool true], .int .i64 (((p + 2 : Nat) : Int)), .bool false]) ?_ rfl ⟨_, _, _, _, _, rfl, rfl, ?_⟩
          · first | (simp [results, Try.results104, go_sem]; done) | (simp [results, Try.results104, go_sem]; omega)
          · repeat (first | exact HK0.out | exact (Kp.refl No w).alloc _ | (refine Kp.setCell ?_ HQn.out _))
      · have hb' : seesB l (p + 1) [125] = false := by simpa using hb
        have HP2 := Hid_mk fun W => prefix_any W l (p + 1) 125 ⟨#[125]⟩ rfl false hb'
        rw [if_neg hb] at hT
        have HN2 := Hid_mk fun W => number_any W l (p + 1) (by omega) hl
        have hro2 := digN_room l (p + 1) (by omega)
        have hdl2 := digN_le l (p + 1)
        have hdv2 := digV_le l (p + 1) (digN l (p + 1)) (Nat.le_refl _)
        obtain ⟨n2, hn2⟩ : ∃ n, digN l (p + 1) = n := ⟨_, rfl⟩
        obtain ⟨m2, hm2⟩ : ∃ m, digV l (p + 1) n2 = m := ⟨_, rfl⟩
        simp only [hn2, hm2] at hT
        rw [hn2] at HN2 hro2 hdl2 hdv2
        rw [hm2] at HN2 hdv2
        have hm299 : m2 < 100 := by
          have : n2 = 0 ∨ n2 = 1 ∨ n2 = 2 := by omega
          rcases this with rfl | rfl | rfl <;> omega
        obtain ⟨r, hr⟩ : ∃ r, p + 1 + n2 = r := ⟨_, rfl⟩
        rw [hr] at HN2 hro2
        simp only [hr] at hT
        rw [show ((p + 1 : Nat) : Int) = (p : Int) + 1 by push_cast; rfl] at HN2
        clear hn2 hm2 hdv2 hdl2
        have hr0 : (0 : Int) ≤ (r : Int) := Int.natCast_nonneg _
        have hxr := st_from l r
        have hwr : IntKind.i64.wrap ((r : Int) + 1) = ((r + 1 : Nat) : Int) := by rw [IntWalk.i64_in _ (by omega)]; push_cast; rfl
        by_cases h2 : n2 = 0
        · have e2 : decide (n2 ≠ 0) = false := by simp [h2]
          rw [e2] at HN2
          rw [if_pos h2] at hT
          rw [hT]
          clear hT h2 hr
          go_enter Try.func104, Try.ntmps104
          go_wp2_with fail
          with_reducible refine (HN1.out _).mono ?_
          rintro e w1 ⟨rfl, rfl⟩
          go_wp2_with fail
          with_reducible refine (HP1.out _).mono ?_
          rintro e w1 ⟨rfl, rfl⟩
          go_wp2_with fail
          with_reducible refine (HP2.out _).mono ?_
          rintro e w1 ⟨rfl, rfl⟩
          go_wp2_with fail
          with_reducible refine (HN2.out _).mono ?_
          rintro e w1 ⟨rfl, rfl⟩
          go_wp2
          refine bodyPost_ret (v := .tuple #[.agg #[.int .i64 (m), .int .i64 (m2), .bool false], .int .i64 (((r + 1 : Nat) : Int)), .bool false]) ?_ rfl ⟨_, _, _, _, _, rfl, rfl, ?_⟩
          · first | (simp [results, Try.results104, go_sem]; done) | (simp [results, Try.results104, go_sem]; omega)
          · repeat (first | exact HK0.out | exact (Kp.refl No w).alloc _ | (refine Kp.setCell ?_ HQn.out _))
        · have e2 : decide (n2 ≠ 0) = true := by simp [h2]
          rw [e2] at HN2
          rw [if_neg h2] at hT
          clear hr
          by_cases hd : seesB l r [125] = true
          · have HP3 := Hid_mk fun W => prefix_any W l r 125 ⟨#[125]⟩ rfl true hd
            by_cases hle : m ≤ m2
            · have hlei : (m : Int) ≤ (m2 : Int) := by omega
              by_cases h5 : m2 ≤ 50
              · rw [if_pos ⟨hd, hle, h5⟩] at hT
                rw [hT]
                have h5i : (m2 : Int) ≤ 50 := by omega
                clear hT
                go_enter Try.func104, Try.ntmps104
                go_wp2_with fail
                with_reducible refine (HN1.out _).mono ?_
                rintro e w1 ⟨rfl, rfl⟩
                go_wp2_with fail
                with_reducible refine (HP1.out _).mono ?_
                rintro e w1 ⟨rfl, rfl⟩
                go_wp2_with fail
                with_reducible refine (HP2.out _).mono ?_
                rintro e w1 ⟨rfl, rfl⟩
                go_wp2_with fail
                with_reducible refine (HN2.out _).mono ?_
                rintro e w1 ⟨rfl, rfl⟩
                go_wp2_with fail
                with_reducible refine (HP3.out _).mono ?_
                rintro e w1 ⟨rfl, rfl⟩
                go_wp2
                refine bodyPost_ret (v := .tuple #[.agg #[.int .i64 (m), .int .i64 (m2), .bool false], .int .i64 (((r + 1 : Nat) : Int)), .bool true]) ?_ rfl ⟨_, _, _, _, _, rfl, ⟨rfl, rfl, rfl, rfl, rfl⟩, ?_⟩
                · first | (simp [results, Try.results104, go_sem]; done) | (simp [results, Try.results104, go_sem]; omega)
                · repeat (first | exact HK0.out | exact (Kp.refl No w).alloc _ | (refine Kp.setCell ?_ HQn.out _))
              · rw [if_neg (fun e => h5 e.2.2)] at hT
                rw [hT]
                have h5i : ¬ (m2 : Int) ≤ 50 := by omega
                clear hT
                go_enter Try.func104, Try.ntmps104
                go_wp2_with fail
                with_reducible refine (HN1.out _).mono ?_
                rintro e w1 ⟨rfl, rfl⟩
                go_wp2_with fail
                with_reducible refine (HP1.out _).mono ?_
                rintro e w1 ⟨rfl, rfl⟩
                go_wp2_with fail
                with_reducible refine (HP2.out _).mono ?_
                rintro e w1 ⟨rfl, rfl⟩
                go_wp2_with fail
                with_reducible refine (HN2.out _).mono ?_
                rintro e w1 ⟨rfl, rfl⟩
                go_wp2_with fail
                with_reducible refine (HP3.out _).mono ?_
                rintro e w1 ⟨rfl, rfl⟩
                go_wp2
                refine bodyPost_ret (v := .tuple #[.agg #[.int .i64 (m), .int .i64 (m2), .bool false], .int .i64 (((r + 1 : Nat) : Int)), .bool false]) ?_ rfl ⟨_, _, _, _, _, rfl, rfl, ?_⟩
                · first | (simp [results, Try.results104, go_sem]; done) | (simp [results, Try.results104, go_sem]; omega)
                · repeat (first | exact HK0.out | exact (Kp.refl No w).alloc _ | (refine Kp.setCell ?_ HQn.out _))
            · rw [if_neg (fun e => hle e.2.1)] at hT
              rw [hT]
              have hlei : ¬ (m : Int) ≤ (m2 : Int) := by omega
              clear hT
              go_enter Try.func104, Try.ntmps104
              go_wp2_with fail
              with_reducible refine (HN1.out _).mono ?_
              rintro e w1 ⟨rfl, rfl⟩
              go_wp2_with fail
              with_reducible refine (HP1.out _).mono ?_
              rintro e w1 ⟨rfl, rfl⟩
              go_wp2_with fail
              with_reducible refine (HP2.out _).mono ?_
              rintro e w1 ⟨rfl, rfl⟩
              go_wp2_with fail
              with_reducible refine (HN2.out _).mono ?_
              rintro e w1 ⟨rfl, rfl⟩
              go_wp2_with fail
              with_reducible refine (HP3.out _).mono ?_
              rintro e w1 ⟨rfl, rfl⟩
              go_wp2
              refine bodyPost_ret (v := .tuple #[.agg #[.int .i64 (m), .int .i64 (m2), .bool false], .int .i64 (((r + 1 : Nat) : Int)), .bool false]) ?_ rfl ⟨_, _, _, _, _, rfl, rfl, ?_⟩
              · first | (simp [results, Try.results104, go_sem]; done) | (simp [results, Try.results104, go_sem]; omega)
              · repeat (first | exact HK0.out | exact (Kp.refl No w).alloc _ | (refine Kp.setCell ?_ HQn.out _))
          · have HP3 := Hid_mk fun W => prefix_any W l r 125 ⟨#[125]⟩ rfl false (by simpa using hd)
            rw [if_neg (fun e => hd e.1)] at hT
            rw [hT]
            clear hT
            go_enter Try.func104, Try.ntmps104
            go_wp2_with fail
            with_reducible refine (HN1.out _).mono ?_
            rintro e w1 ⟨rfl, rfl⟩
            go_wp2_with fail
            with_reducible refine (HP1.out _).mono ?_
            rintro e w1 ⟨rfl, rfl⟩
            go_wp2_with fail
            with_reducible refine (HP2.out _).mono ?_
            rintro e w1 ⟨rfl, rfl⟩
            go_wp2_with fail
            with_reducible refine (HN2.out _).mono ?_
            rintro e w1 ⟨rfl, rfl⟩
            go_wp2_with fail
            with_reducible refine (HP3.out _).mono ?_
            rintro e w1 ⟨rfl, rfl⟩
            go_wp2
            refine bodyPost_ret (v := .tuple #[.agg #[.int .i64 (m), .int .i64 (m2), .bool false], .int .i64 (((r + 1 : Nat) : Int)), .bool false]) ?_ rfl ⟨_, _, _, _, _, rfl, rfl, ?_⟩
            · first | (simp [results, Try.results104, go_sem]; done) | (simp [results, Try.results104, go_sem]; omega)
            · repeat (first | exact HK0.out | exact (Kp.refl No w).alloc _ | (refine Kp.setCell ?_ HQn.out _))
    · have hc' : seesB l p [44] = false := by simpa using hc
      have HP1 := Hid_mk fun W => prefix_any W l p 44 ⟨#[44]⟩ rfl false hc'
      rw [if_neg hc] at hT
      by_cases hd : seesB l p [125] = true
      · have HP3 := Hid_mk fun W => prefix_any W l p 125 ⟨#[125]⟩ rfl true hd
        by_cases h5 : m ≤ 50
        · rw [if_pos ⟨hd, h5⟩] at hT
          rw [hT]
          have h5i : (m : Int) ≤ 50 := by omega
          clear hT
          go_enter Try.func104, Try.ntmps104
          go_wp2_with fail
          with_reducible refine (HN1.out _).mono ?_
          rintro e w1 ⟨rfl, rfl⟩
          go_wp2_with fail
          with_reducible refine (HP1.out _).mono ?_
          rintro e w1 ⟨rfl, rfl⟩
          go_wp2_with fail
          with_reducible refine (HP3.out _).mono ?_
          rintro e w1 ⟨rfl, rfl⟩
          go_wp2
          refine bodyPost_ret (v := .tuple #[.agg #[.int .i64 (m), .int .i64 (m), .bool false], .int .i64 (((p + 1 : Nat) : Int)), .bool true]) ?_ rfl ⟨_, _, _, _, _, rfl, ⟨rfl, rfl, rfl, rfl, rfl⟩, ?_⟩
          · first | (simp [results, Try.results104, go_sem]; done) | (simp [results, Try.results104, go_sem]; omega)
          · repeat (first | exact HK0.out | exact (Kp.refl No w).alloc _ | (refine Kp.setCell ?_ HQn.out _))
        · rw [if_neg (fun e => h5 e.2)] at hT
          rw [hT]
          have h5i : ¬ (m : Int) ≤ 50 := by omega
          clear hT
          go_enter Try.func104, Try.ntmps104
          go_wp2_with fail
          with_reducible refine (HN1.out _).mono ?_
          rintro e w1 ⟨rfl, rfl⟩
          go_wp2_with fail
          with_reducible refine (HP1.out _).mono ?_
          rintro e w1 ⟨rfl, rfl⟩
          go_wp2_with fail
          with_reducible refine (HP3.out _).mono ?_
          rintro e w1 ⟨rfl, rfl⟩
          go_wp2
          refine bodyPost_ret (v := .tuple #[.agg #[.int .i64 (m), .int .i64 (m), .bool false], .int .i64 (((p + 1 : Nat) : Int)), .bool false]) ?_ rfl ⟨_, _, _, _, _, rfl, rfl, ?_⟩
          · first | (simp [results, Try.results104, go_sem]; done) | (simp [results, Try.results104, go_sem]; omega)
          · repeat (first | exact HK0.out | exact (Kp.refl No w).alloc _ | (refine Kp.setCell ?_ HQn.out _))
      · have HP3 := Hid_mk fun W => prefix_any W l p 125 ⟨#[125]⟩ rfl false (by simpa using hd)
        rw [if_neg (fun e => hd e.1)] at hT
        rw [hT]
        clear hT
        go_enter Try.func104, Try.ntmps104
        go_wp2_with fail
        with_reducible refine (HN1.out _).mono ?_
        rintro e w1 ⟨rfl, rfl⟩
        go_wp2_with fail
        with_reducible refine (HP1.out _).mono ?_
        rintro e w1 ⟨rfl, rfl⟩
        go_wp2_with fail
        with_reducible refine (HP3.out _).mono ?_
        rintro e w1 ⟨rfl, rfl⟩
        go_wp2
        refine bodyPost_ret (v := .tuple #[.agg #[.int .i64 (m), .int .i64 (m), .bool false], .int .i64 (((p + 1 : Nat) : Int)), .bool false]) ?_ rfl ⟨_, _, _, _, _, rfl, rfl, ?_⟩
        · first | (simp [results, Try.results104, go_sem]; done) | (simp [results, Try.results104, go_sem]; omega)
        · repeat (first | exact HK0.out | exact (Kp.refl No w).alloc _ | (refine Kp.setCell ?_ HQn.out _))

end Go.Proofs.Ytaneblecgjahbab.ere
