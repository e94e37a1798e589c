/- The walk of the statement tailracelaw10.NfaQuotes. -/
import Derived.Test.YtaneblecgjahbabNfaQuotesPM
import Derived.Test.YtaneblecgjahbabR8AtomM

namespace Go.Proofs.Ytaneblecgjahbab.nfa
open Go.RowKit Go.Proofs.Ytaneblecgjahbab.sum Go.Proofs.Ytaneblecgjahbab.kept Go.Proofs.Ytaneblecgjahbab.pop Go.Proofs.Ytaneblecgjahbab.cls Go.Proofs.Ytaneblecgjahbab.tre Go.Proofs.Ytaneblecgjahbab.ere Go.Proofs.Ytaneblecgjahbab.str
set_option linter.unusedVariables false

theorem qu_right (l : List UInt8) (hl : l.length ≤ 100) : rightS (quT l) = true := by
  have hs := qu_shaped l (by omega)
  unfold rightS
  rw [hs, deep_high]
  unfold quT
  split
  · rfl
  · rename_i h0
    have hf := fits_of l h0 (by omega)
    unfold fitsB at hf
    simp only [Bool.and_eq_true, decide_eq_true_eq] at hf
    simp [hf.1, hf.2]
/-- New of a text that is quoted -/
theorem new_q (w : World) (l : List UInt8) (hl : l.length ≤ 100) : Calls Try.prog 16 #[.string (st (quoteS l))] w (NoPost w (quT l)) := by
  have h := parse_any w (quoteS l) (fun _ => none) (by rw [quote_len]; omega) (fun q => brkt_plain (q_no l 91 (by decide) (by decide))) (fun q => sign_plain (by rw [quote_len]; omega) (q_no l 123 (by decide) (by decide)))
  rw [qu_parse l (by omega)] at h
  have hr := qu_right l hl
  have hp : Calls Try.prog 21 #[.string (st (quoteS l))] w (PaPost w (quT l, 0, 0)) := by
    refine h.mono ?_
    rintro e w' ⟨v, rfl, hv, hk⟩
    generalize quT l = t at *
    obtain ⟨K, F, L⟩ := t
    obtain ⟨a, c, rfl, h1, h2, h3⟩ := hv
    exact ⟨K, F, a, _, c, rfl, ReV.wider (fun _ _ _ => trivial) _ _ ⟨a, c, rfl, h1, h2, h3⟩, hk⟩
  refine (newM_any w (st (quoteS l)) (quT l, 0, 0) hp).mono ?_
  rintro e w' ⟨hk, ⟨h, -⟩ | ⟨-, -, mb, rfl, hm, hb⟩ | ⟨-, h, -⟩⟩
  · exact absurd rfl h
  · exact ⟨mb, rfl, hm, hk, hb⟩
  · rw [hr] at h; cases h
set_option maxRecDepth 100000 in
set_option maxHeartbeats 16000000 in
theorem quotes_walk (w : World) (sv tv mv : Value) (sb tb : List UInt8) (hs : Bs w sv sb) (ht : Bs w tv tb) (hsl : sb.length ≤ 281474976710656) (htl : tb.length ≤ 281474976710656) :
    Calls Try.prog 5 #[sv, tv, mv] w fun e w' => e = .returned (.bool true) ∧ Kp No w w' := by
  have HKn := Hid_mk fun W => known10_any W
  have HL1 : Hid (Calls Try.prog 14 #[sv, .int .i64 6] w (LtPost w 6)) := Hid_mk (letters_any w sv sb hs hsl 6 (by decide))
  have HL2 : Hid (∀ V, Kp No w V → Calls Try.prog 14 #[tv, .int .i64 30] V (LtPost V 30)) := Hid_mk fun V h => letters_any V tv tb (bs_no ht h) htl 30 (by decide)
  clear hs ht hsl htl
  go_enter Try.func5, Try.ntmps5
  go_wp2_with fail
  with_reducible refine HL1.out.mono ?_
  rintro e w1 ⟨x, hx, rfl, hk1⟩
  have HX := Hid_mk hx
  have HK1 := Hid_mk hk1
  clear hx hk1 HL1
  go_wp2_with fail
  with_reducible refine (HL2.out _ HK1.out).mono ?_
  rintro e w2 ⟨y, hy, rfl, hk2⟩
  have HY := Hid_mk hy
  have HK2 := Hid_mk (HK1.out.trans' hk2)
  clear hy hk2 HL2 HK1
  have hqu := quote_any w2 x (by have := HX.out; omega)
  have HQu := Hid_mk hqu
  have HNew := Hid_mk fun W => new_q W x (by have := HX.out; omega)
  clear hqu
  go_wp2_with fail
  with_reducible refine HQu.out.mono ?_
  rintro e w3 ⟨rfl, hk3⟩
  have HK3 := Hid_mk (HK2.out.trans' hk3)
  clear hk3 HQu
  go_wp2_with fail
  with_reducible refine (HNew.out _).mono ?_
  rintro e w4 ⟨mb, rfl, hm4, hk4, hb4⟩
  have HM := Hid_mk hm4
  have HK4 := Hid_mk (HK3.out.trans' hk4)
  clear hm4 hk4 hb4 HNew
  go_wp2_with fail
  with_reducible refine (HKn.out _).mono ?_
  rintro e w5 ⟨rfl, hk5⟩
  have HM5 := Hid_mk (HM.out.no hk5)
  have HK5 := Hid_mk (HK4.out.trans' hk5)
  clear hk5
  have hsy := st_size y
  have hsx := st_size x
  have hyl : (y.length : Int) ≤ 30 := by have := HY.out; omega
  have hxl : (x.length : Int) ≤ 6 := by have := HX.out; omega
  go_wp2_with fail
  go_loop [12, 13] (fun a i => ∃ v iv : Int, a = .int .i64 v ∧ i = .int .i64 iv ∧ AtRel x y iv v ∧ -10 ≤ iv ∧ iv ≤ (y.length : Int) - (x.length : Int)) (fun _ i => (intOf i + 1).toNat)
  case atStart => exact ⟨-1, (y.length : Int) - (x.length : Int), rfl, by go_num, at_start x y, by omega, by omega⟩
  case round =>
    obtain ⟨v, iv, rfl, rfl, hat, hi1, hi2⟩ := hrel
    have HAt := Hid_mk hat
    have hvb := at_bound hat
    obtain ⟨hv1, hv2⟩ := hvb
    by_cases hneg : iv < 0
    · have hge : ¬ 0 ≤ iv := by omega
      have HEnd := Hid_mk (at_end hneg hat)
      clear hat
      obtain ⟨a, e, ok, hfd, hres⟩ := qu_find x y (by have := HX.out; omega) v HEnd.out
      have hff : Calls Try.prog 18 #[.pointer (some ⟨mb, 0, none⟩), .string (st y), .int .i64 0] w5 fun e' w' => e' = .returned (.tuple #[.int .i64 (a : Int), .int .i64 (e : Int), .bool ok]) ∧ Kp No w5 w' := by
        have h := find_m w5 mb (quT x) (st y) 0 HM5.out (qu_right x (by have := HX.out; omega)) (by rw [st_size]; have := HY.out; omega) (Nat.zero_le _)
        rw [hfd] at h
        exact h
      have HFf := Hid_mk hff
      clear hff hfd
      go_wp2_with fail
      with_reducible refine HFf.out.mono ?_
      rintro e w6 ⟨rfl, hk6⟩
      have HK6 := Hid_mk (HK5.out.trans' hk6)
      clear hk6 HFf
      rcases hres with ⟨rfl, rfl⟩ | ⟨rfl, rfl, rfl, hay⟩
      · go_wp2
        go_ret
        exact ⟨rfl, HK6.out⟩
      · have ha0 : (0 : Int) ≤ (a : Int) := Int.natCast_nonneg _
        go_wp2
        go_ret
        exact ⟨rfl, HK6.out⟩
    · obtain ⟨q, rfl⟩ : ∃ q : Nat, iv = (q : Int) := ⟨iv.toNat, by omega⟩
      have hge : (0 : Int) ≤ (q : Int) := Int.natCast_nonneg _
      have hql : q + x.length ≤ y.length := by omega
      obtain ⟨A, hA⟩ : ∃ A, (y.drop q).take x.length = A := ⟨_, rfl⟩
      have hext : (st y).extract q (q + x.length) = st A := by rw [← hA, st_piece, Nat.add_sub_cancel_left]
      have HIn := Hid_mk (show q + x.length ≤ y.length from hql)
      have HA := Hid_mk hA
      by_cases he : A = x
      · have hcmp : (((st y).extract q (q + x.length)).toList == (st x).toList) = true := by rw [hext, he]; simp
        have HE := Hid_mk he
        clear hat hneg hql hA he hext
        go_wp2
        go_round
        case rel => exact ⟨(q : Int), (q : Int) - 1, rfl, by go_num, at_yes HAt.out ⟨HIn.out, by rw [HA.out]; exact HE.out⟩, by omega, by omega⟩
        case measure => simp [intOf]
      · have hcmp : (((st y).extract q (q + x.length)).toList == (st x).toList) = false := by rw [hext, st_list, st_list]; simpa using he
        have HE := Hid_mk he
        clear hat hneg hql hA he hext
        go_wp2
        go_round
        case rel => exact ⟨v, (q : Int) - 1, rfl, by go_num, at_no HAt.out (fun h => HE.out (HA.out.symm.trans h.2)), by omega, by omega⟩
        case measure => simp [intOf]

end Go.Proofs.Ytaneblecgjahbab.nfa
