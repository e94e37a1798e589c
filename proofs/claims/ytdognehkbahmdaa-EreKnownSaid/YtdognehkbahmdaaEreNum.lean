/- Package ere: decimal numbers, what a backslash makes of a byte, how often. -/
import Derived.Test.YtdognehkbahmdaaEreRd
import Derived.Test.YtdognehkbahmdaaBracket
namespace Go.Proofs.Ytdognehkbahmdaa.ere
open Go.RowKit Go.Proofs.Ytdognehkbahmdaa.sum Go.Proofs.Ytdognehkbahmdaa.kept Go.Proofs.Ytdognehkbahmdaa.pop Go.Proofs.Ytdognehkbahmdaa.cls Go.Proofs.Ytdognehkbahmdaa.tre Go.Proofs.Ytdognehkbahmdaa.str
set_option linter.unusedVariables false

theorem gt_dec {k j n : Nat} (h : j = n) : decide ((k : Int) < ((k + j : Nat) : Int)) = decide (n ≠ 0) := by
  subst h
  by_cases h0 : j = 0
  · subst h0; simp
  · rw [decide_eq_true (by omega), decide_eq_true h0]

def DgRel (l : List UInt8) (k : Nat) (b e : Value) : Prop := ∃ j : Nat, j ≤ digN l k ∧ b = .int .i64 (digV l k j : Nat) ∧ e = .int .i64 ((k + j : Nat) : Int)

set_option maxRecDepth 100000 in
set_option maxHeartbeats 1000000 in
theorem number_any (w : World) (l : List UInt8) (k : Nat) (hk : k ≤ l.length) (hl : l.length < 4294967281) :
    Calls Try.prog 94 #[.string (st l), .int .i64 (k : Int)] w fun e w' => e = .returned (.tuple #[.int .i64 (digV l k (digN l k) : Nat), .int .i64 ((k + digN l k : Nat) : Int), .bool (decide (digN l k ≠ 0))]) ∧ w' = w := by
  have hsz := st_size l
  have hk0 : (0 : Int) ≤ (k : Int) := Int.natCast_nonneg _
  have hw3 : IntKind.i64.wrap ((k : Int) + 2) = (k : Int) + 2 := IntWalk.i64_in _ (by omega)
  have hon := digN_le l k
  have hro := digN_room l k hk
  obtain ⟨Z, hZ⟩ : ∃ Z, decide (digN l k ≠ 0) = Z := ⟨_, rfl⟩
  rw [hZ]
  have HZ := Hid_mk hZ
  clear hZ
  go_enter Try.func94, Try.ntmps94
  go_wp2
  go_loopw [4, 5] (fun b e wr => DgRel l k b e ∧ wr = w) (fun _ e _ => l.length - (intOf e).toNat)
  case atStart => exact ⟨⟨0, Nat.zero_le _, rfl, rfl⟩, rfl⟩
  case round =>
    obtain ⟨⟨j, hj, rfl, rfl⟩, rfl⟩ := hrel
    have hwi : IntKind.i64.wrap (((k + j : Nat) : Int) + 1) = ((k + (j + 1) : Nat) : Int) := by rw [IntWalk.i64_in _ (by omega)]; push_cast; omega
    have hv : digV l k j ≤ 99 := by
      have := digV_le l k j hj
      have h2 := digN_le l k
      have : j = 0 ∨ j = 1 ∨ j = 2 := by omega
      rcases this with rfl | rfl | rfl <;> omega
    by_cases hlt : k + j < l.length
    · have hki : ((k + j : Nat) : Int) < (l.length : Int) := by omega
      have hg := fun h => st_get l (k + j) h
      obtain ⟨x, hx⟩ : ∃ x, (l.getD (k + j) 0).toNat = x := ⟨_, rfl⟩
      have hxl := (l.getD (k + j) 0).toNat_lt
      rw [hx] at hg hxl
      by_cases h3 : j < 2
      · have h3i : ((k + j : Nat) : Int) < (k : Int) + 2 := by omega
        by_cases hlo : 48 ≤ x
        · have hloi : (48 : Int) ≤ (x : Int) := by omega
          by_cases hhi : x ≤ 57
          · have hhii : (x : Int) ≤ 57 := by omega
            have hjn : j < digN l k := by
              rcases digN_end l k with h | h
              · omega
              · refine Decidable.byContradiction fun hn => ?_
                obtain rfl : j = digN l k := by omega
                rw [(digB_iff l _).2 ⟨hlt, by unfold atB; omega, by unfold atB; omega⟩] at h
                cases h
            have hstep : digV l k (j + 1) = digV l k j * 10 + (x - 48) := by rw [digV, atB, hx]
            obtain ⟨V, hV⟩ : ∃ V, digV l k j = V := ⟨_, rfl⟩
            obtain ⟨V2, hV2⟩ : ∃ V, digV l k (j + 1) = V := ⟨_, rfl⟩
            rw [hV] at hstep hv
            rw [hV2] at hstep
            rw [hV]
            have HN := Hid_mk hjn
            have HV2 := Hid_mk hV2
            have HM := Hid_mk hk
            clear hjn hV hV2 hon
            have hx48 : ((x : Int) - 48) % 256 = (x : Int) - 48 := by omega
            have hm : IntKind.i64.wrap ((V : Int) * 10) = (V : Int) * 10 := IntWalk.i64_in _ (by omega)
            have hval2 : IntKind.i64.wrap ((V : Int) * 10 + ((x : Int) - 48)) = ((V2 : Nat) : Int) := by rw [hstep, IntWalk.i64_in _ (by omega)]; omega
            have HVal := Hid_mk hval2
            clear hstep hx
            obtain ⟨K, hK⟩ : ∃ K, k + j = K := ⟨_, rfl⟩
            obtain ⟨K2, hK2⟩ : ∃ K, k + (j + 1) = K := ⟨_, rfl⟩
            rw [hK] at hg hlt hki h3i hwi ⊢
            rw [hK2] at hwi
            have HK2 := Hid_mk hK2
            have HK := Hid_mk hK
            clear hK hK2
            go_wp2
            go_roundw
            case rel => exact ⟨⟨j + 1, HN.out, by rw [HV2.out], by rw [HK2.out]⟩, by trivial⟩
            case measure => have := HK.out; have := HK2.out; simp only [intOf]; omega
          · have hhii : ¬ (x : Int) ≤ 57 := by omega
            have hjn : j = digN l k := by
              refine Decidable.byContradiction fun hn => ?_
              have := (digB_iff l _).1 (digN_lt l k j (by omega))
              unfold atB at this
              omega
            have HJ := Hid_mk hjn
            have hgt : decide ((k : Int) < ((k + j : Nat) : Int)) = decide (digN l k ≠ 0) := gt_dec hjn
            clear hjn hon hro hwi
            obtain ⟨K, hK⟩ : ∃ K, k + j = K := ⟨_, rfl⟩
            rw [hK] at hg hlt hki h3i hgt ⊢
            have HGt := Hid_mk hgt
            clear hgt
            obtain ⟨V, hV⟩ : ∃ V, digV l k j = V := ⟨_, rfl⟩
            rw [hV]
            have HK := Hid_mk hK
            have HV := Hid_mk hV
            clear hK hV
            go_wp2
            refine bodyPost_ret (results_tmp3 rfl _ _ _) rfl ?_
            exact ⟨by rw [show Z = decide (k < K) from by rw [← HZ.out, ← HGt.out]; exact decide_eq_decide.2 (by omega), ← HJ.out, HV.out, show (k : Int) + (j : Int) = (K : Int) by have := HK.out; omega]; rfl, rfl⟩
        · have hloi : ¬ (48 : Int) ≤ (x : Int) := by omega
          have hjn : j = digN l k := by
            refine Decidable.byContradiction fun hn => ?_
            have := (digB_iff l _).1 (digN_lt l k j (by omega))
            unfold atB at this
            omega
          have HJ := Hid_mk hjn
          have hgt : decide ((k : Int) < ((k + j : Nat) : Int)) = decide (digN l k ≠ 0) := gt_dec hjn
          clear hjn hon hro hwi
          obtain ⟨K, hK⟩ : ∃ K, k + j = K := ⟨_, rfl⟩
          rw [hK] at hg hlt hki h3i hgt ⊢
          have HGt := Hid_mk hgt
          clear hgt
          obtain ⟨V, hV⟩ : ∃ V, digV l k j = V := ⟨_, rfl⟩
          rw [hV]
          have HK := Hid_mk hK
          have HV := Hid_mk hV
          clear hK hV
          go_wp2
          refine bodyPost_ret (results_tmp3 rfl _ _ _) rfl ?_
          exact ⟨by rw [show Z = decide (k < K) from by rw [← HZ.out, ← HGt.out]; exact decide_eq_decide.2 (by omega), ← HJ.out, HV.out, show (k : Int) + (j : Int) = (K : Int) by have := HK.out; omega]; rfl, rfl⟩
      · have h3i : ¬ ((k + j : Nat) : Int) < (k : Int) + 2 := by omega
        have hjn : j = digN l k := by omega
        have HJ := Hid_mk hjn
        have hgt : decide ((k : Int) < ((k + j : Nat) : Int)) = decide (digN l k ≠ 0) := gt_dec hjn
        clear hjn hon hro hwi
        obtain ⟨K, hK⟩ : ∃ K, k + j = K := ⟨_, rfl⟩
        rw [hK] at hg hlt hki h3i hgt ⊢
        have HGt := Hid_mk hgt
        clear hgt
        obtain ⟨V, hV⟩ : ∃ V, digV l k j = V := ⟨_, rfl⟩
        rw [hV]
        have HK := Hid_mk hK
        have HV := Hid_mk hV
        clear hK hV
        go_wp2
        refine bodyPost_ret (results_tmp3 rfl _ _ _) rfl ?_
        exact ⟨by rw [show Z = decide (k < K) from by rw [← HZ.out, ← HGt.out]; exact decide_eq_decide.2 (by omega), ← HJ.out, HV.out, show (k : Int) + (j : Int) = (K : Int) by have := HK.out; omega]; rfl, rfl⟩
    · have hki : ¬ ((k + j : Nat) : Int) < (l.length : Int) := by omega
      have hjn : j = digN l k := by
        refine Decidable.byContradiction fun hn => ?_
        have := (digB_iff l _).1 (digN_lt l k j (by omega))
        omega
      have HJ := Hid_mk hjn
      have hgt : decide ((k : Int) < ((k + j : Nat) : Int)) = decide (digN l k ≠ 0) := gt_dec hjn
      clear hjn hon hro hwi
      obtain ⟨K, hK⟩ : ∃ K, k + j = K := ⟨_, rfl⟩
      rw [hK] at hlt hki hgt ⊢
      have HGt := Hid_mk hgt
      clear hgt
      obtain ⟨V, hV⟩ : ∃ V, digV l k j = V := ⟨_, rfl⟩
      rw [hV]
      have HK := Hid_mk hK
      have HV := Hid_mk hV
      clear hK hV
      go_wp2
      refine bodyPost_ret (results_tmp3 rfl _ _ _) rfl ?_
      exact ⟨by rw [show Z = decide (k < K) from by rw [← HZ.out, ← HGt.out]; exact decide_eq_decide.2 (by omega), ← HJ.out, HV.out, show (k : Int) + (j : Int) = (K : Int) by have := HK.out; omega]; rfl, rfl⟩

set_option maxRecDepth 100000 in
set_option maxHeartbeats 1000000 in
theorem escaped_any (w : World) (b : Nat) (hb : b < 256) : Calls Try.prog 93 #[.int .u8 (b : Int)] w fun e w' => e = .returned (.int .u8 (escS b : Nat)) ∧ w' = w := by
  by_cases h0 : b = 110
  · subst h0
    rw [show escS 110 = 10 from rfl]
    go_enter Try.func93, Try.ntmps93
    go_wp2
    go_ret
    exact ⟨rfl, rfl⟩
  by_cases h1 : b = 116
  · subst h1
    rw [show escS 116 = 9 from rfl]
    go_enter Try.func93, Try.ntmps93
    go_wp2
    go_ret
    exact ⟨rfl, rfl⟩
  by_cases h2 : b = 114
  · subst h2
    rw [show escS 114 = 13 from rfl]
    go_enter Try.func93, Try.ntmps93
    go_wp2
    go_ret
    exact ⟨rfl, rfl⟩
  by_cases h3 : b = 102
  · subst h3
    rw [show escS 102 = 12 from rfl]
    go_enter Try.func93, Try.ntmps93
    go_wp2
    go_ret
    exact ⟨rfl, rfl⟩
  by_cases h4 : b = 118
  · subst h4
    rw [show escS 118 = 11 from rfl]
    go_enter Try.func93, Try.ntmps93
    go_wp2
    go_ret
    exact ⟨rfl, rfl⟩
  by_cases h5 : b = 97
  · subst h5
    rw [show escS 97 = 7 from rfl]
    go_enter Try.func93, Try.ntmps93
    go_wp2
    go_ret
    exact ⟨rfl, rfl⟩
  by_cases h6 : b = 98
  · subst h6
    rw [show escS 98 = 8 from rfl]
    go_enter Try.func93, Try.ntmps93
    go_wp2
    go_ret
    exact ⟨rfl, rfl⟩
  have e0 : ((b : Int) == 110) = false := by rw [beq_eq_false_iff_ne]; omega
  have e1 : ((b : Int) == 116) = false := by rw [beq_eq_false_iff_ne]; omega
  have e2 : ((b : Int) == 114) = false := by rw [beq_eq_false_iff_ne]; omega
  have e3 : ((b : Int) == 102) = false := by rw [beq_eq_false_iff_ne]; omega
  have e4 : ((b : Int) == 118) = false := by rw [beq_eq_false_iff_ne]; omega
  have e5 : ((b : Int) == 97) = false := by rw [beq_eq_false_iff_ne]; omega
  have e6 : ((b : Int) == 98) = false := by rw [beq_eq_false_iff_ne]; omega
  rw [show escS b = b from by unfold escS; rw [if_neg h0, if_neg h1, if_neg h2, if_neg h3, if_neg h4, if_neg h5, if_neg h6]]
  clear h0 h1 h2 h3 h4 h5 h6
  go_enter Try.func93, Try.ntmps93
  go_wp2
  go_ret
  exact ⟨rfl, rfl⟩

end Go.Proofs.Ytdognehkbahmdaa.ere
