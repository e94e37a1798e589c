/- internal/strconv.readFloat of decimal numerals with an exponent. Chapter 11's known(). num.Digits and num.Whole of any number, and the document's. -/
import Derived.Test.YtgnddabdjjkgiaaGreatDoorRdFloatM
import Derived.Test.YtgnddabdjjkgiaaGreatDoorDecShiftM
import Derived.Test.YtgnddabdjjkgiaaGreatDoorPfLdM

namespace Go.Proofs.YtgnddabdjjkgiaaGreatDoor.rd
open Go.RowKit Go.Proofs.YtgnddabdjjkgiaaGreatDoor.sum Go.Proofs.YtgnddabdjjkgiaaGreatDoor.kept Go.Proofs.YtgnddabdjjkgiaaGreatDoor.str Go.Proofs.YtgnddabdjjkgiaaGreatDoor.nums Go.Proofs.YtgnddabdjjkgiaaGreatDoor.fmtf
set_option linter.unusedVariables false

/-- what the exponent adds -/
def xpS (l : List UInt8) (i e : Nat) : Int := (e : Int) * (if bt l (i + 1) = 45 then -1 else 1)

set_option maxRecDepth 100000 in
set_option maxHeartbeats 16000000 in
theorem read_exp (w : World) (l : List UInt8) (hl : l.length ≤ 1000000000000) (hl0 : signS l 0 < l.length) (hd : Deci l) (i nd nm m : Nat) (dp : Int) (dot tr : Bool)
    (hr : rdL l (l.length - signS l 0) (signS l 0) false false 0 0 0 0 false = (i, dot, true, nd, nm, dp, m, tr)) (hi : i < l.length) (hce : bits .or .u8 (bt l i : Int) 32 = 101) (hJl : signS l (i + 1) < l.length) (hJd : 48 ≤ bt l (signS l (i + 1)) ∧ bt l (signS l (i + 1)) ≤ 57) (eF : Nat) (hex : exL l (l.length - signS l (i + 1)) (signS l (i + 1)) 0 = (l.length, eF)) :
    Calls Tryz.prog 86 #[.string (st l)] w fun e w' => e = .returned (.tuple #[.int .u64 (m : Int), .int .i64 (expR dot nd nm m dp (xpS l i eF)), .bool (negS l), .bool tr, .bool false, .int .i64 (l.length : Int), .bool true]) ∧ w = w' := by
  have hsz := st_size l
  have HL := Hid_mk hl
  have HUn := Hid_mk hd.un
  have HHx := Hid_mk hd.hx
  have HRd := Hid_mk hr
  have HI := Hid_mk hi
  have HCe := Hid_mk hce
  have HJl := Hid_mk hJl
  have HJd := Hid_mk hJd
  have HEx := Hid_mk hex
  obtain ⟨S, hS⟩ : ∃ S, signS l 0 = S := ⟨_, rfl⟩
  have HS := Hid_mk hS
  obtain ⟨N, hN⟩ : ∃ N, negS l = N := ⟨_, rfl⟩
  have HN := Hid_mk hN
  rw [hN]
  rw [hS] at hl0 HHx HRd
  have HL0 := Hid_mk hl0
  have hlen1 : (0 : Int) < (l.length : Int) := by omega
  have hlen2 : (l.length : Int) ≤ 1000000000000 := by omega
  have hS1 : S ≤ 1 := by rw [← hS]; unfold signS; split <;> omega
  have hz0 : 0 < (st l).size := by rw [hsz]; omega
  have hg0 := bt_get l 0 hz0
  have hlpos : 0 < l.length := by omega
  have hne : ¬ l = [] := by intro e; rw [e] at hlpos; simp at hlpos
  obtain ⟨b0, hb0⟩ : ∃ b0, bt l 0 = b0 := ⟨_, rfl⟩
  rw [hb0] at hg0
  have HB0 := Hid_mk hb0
  have HLow := Hid_mk fun (c : Int) W => Go.Proofs.Tryz.internal_strconv_lower c W
  clear hl hd hr hi hS hN hb0 hce hJl hJd hex
  go_enter Tryz.func86, Tryz.ntmps86
  go_wp2_with fail
  refine wp_scope_straight ?_
  go_upto_block 0 with fail
  go_cut [4, 7] from 28 to 35 (fun s4 s7 wc => s4 = .bool N ∧ s7 = .int .i64 (S : Int) ∧ wc = w)
  case first =>
    have hb0 := HB0.out
    have hS2 := HS.out
    have hN2 := HN.out
    unfold signS at hS2
    unfold negS at hN2
    rw [hb0, decide_eq_true hlpos] at hN2
    rw [hb0] at hS2
    by_cases h1 : b0 = 43
    · rw [if_pos ⟨hlpos, .inl h1⟩] at hS2
      have h1i : (b0 : Int) = 43 := by omega
      have h1b : ((b0 : Int) == 43) = true := by simp; omega
      have hn : N = false := by rw [← hN2, h1]; rfl
      have hs : S = 1 := hS2.symm
      subst hn hs
      clear hS2 hN2 h1 hb0
      go_wp2_with fail
      go_meet
      case rel => exact ⟨rfl, rfl, rfl⟩
    · have h1i : ¬ (b0 : Int) = 43 := by omega
      have h1b : ((b0 : Int) == 43) = false := by simp; omega
      by_cases h2 : b0 = 45
      · rw [if_pos ⟨hlpos, .inr h2⟩] at hS2
        have h2i : (b0 : Int) = 45 := by omega
        have h2b : ((b0 : Int) == 45) = true := by simp; omega
        have hn : N = true := by rw [← hN2, h2]; rfl
        have hs : S = 1 := hS2.symm
        subst hn hs
        clear hS2 hN2 h1 h2 hb0
        go_wp2_with fail
        go_meet
        case rel => exact ⟨rfl, rfl, rfl⟩
      · rw [if_neg (by rintro ⟨-, h | h⟩; exact h1 h; exact h2 h)] at hS2
        have h2i : ¬ (b0 : Int) = 45 := by omega
        have h2b : ((b0 : Int) == 45) = false := by simp; omega
        have hn : N = false := by rw [← hN2, decide_eq_false h2]; rfl
        have hs : S = 0 := hS2.symm
        subst hn hs
        clear hS2 hN2 h1 h2 hb0
        go_wp2_with fail
        go_meet
        case rel => exact ⟨rfl, rfl, rfl⟩
  case rest =>
  obtain ⟨rfl, rfl, rfl⟩ := hcut
  clear hg0 hz0
  have hS0 : (0 : Int) ≤ (S : Int) := Int.natCast_nonneg _
  have hS1i : (S : Int) ≤ 1 := by omega
  go_upto_region 12 with fail
  go_cut [54] from 36 to 53 (fun s54 wx => s54 = .bool false ∧ wx = wc)
  case first =>
    by_cases h1 : S + 2 < l.length
    · have h1i : (S : Int) + 2 < (l.length : Int) := by omega
      have hlt1 : S < (st l).size := by rw [hsz]; omega
      have hlt2 : S + 1 < (st l).size := by rw [hsz]; omega
      have hSl : (S : Int) < (l.length : Int) := by omega
      have hSl2 : (S : Int) + 1 < (l.length : Int) := by omega
      have hg1 := bt_get l S hlt1
      have hg2 := bt_get l (S + 1) hlt2
      have hHx := HHx.out
      obtain ⟨b1, hb1⟩ : ∃ b1, bt l S = b1 := ⟨_, rfl⟩
      obtain ⟨b2, hb2⟩ : ∃ b2, bt l (S + 1) = b2 := ⟨_, rfl⟩
      rw [hb1] at hg1 hHx
      rw [hb2] at hg2 hHx
      by_cases h3 : b1 = 48
      · have h3i : (b1 : Int) = 48 := by omega
        have h4 : (bits .or .u8 (b2 : Int) 32 == 120) = false := by
          have h5 : ¬ bits .or .u8 (b2 : Int) 32 = 120 := fun e => hHx ⟨h1, h3, e⟩
          simpa using h5
        have h4b : ¬ bits .or .u8 (b2 : Int) 32 = 120 := fun e => hHx ⟨h1, h3, e⟩
        have HL4 := Hid_mk h4
        obtain ⟨X, hX⟩ : ∃ X, bits .or .u8 (b2 : Int) 32 = X := ⟨_, rfl⟩
        have HLw := Hid_mk (HLow.out (b2 : Int) wc)
        rw [hX] at h4 h4b HLw
        clear hHx h1 h3 hb1 hb2 hX HL4
        go_wp2_with fail
        with_reducible refine HLw.out.mono ?_
        rintro e w1 ⟨rfl, rfl⟩
        go_wp2_with fail
        go_meet
        case rel => exact ⟨rfl, rfl⟩
      · have h3i : ((b1 : Int) == 48) = false := by simp; omega
        clear hHx h1 h3 hb1 hb2
        go_wp2_with fail
        go_meet
        case rel => exact ⟨rfl, rfl⟩
    · have h1i : ¬ (S : Int) + 2 < (l.length : Int) := by omega
      clear h1
      go_wp2_with fail
      go_meet
      case rel => exact ⟨rfl, rfl⟩
  case rest =>
  obtain ⟨rfl, rfl⟩ := hcut
  go_upto_block 1 with fail
  apply wp_label
  go_upto_block 1 with fail
  go_cut [2, 5, 7, 9, 13, 14, 15, 16, 17, 18] from 57 to 138 (fun s2 s5 s7 s9 s13 s14 s15 s16 s17 s18 wx => s2 = .int .u64 (m : Int) ∧ s5 = .bool tr ∧ s7 = .int .i64 (i : Int) ∧ s9 = .bool false ∧ s13 = .bool dot ∧ s14 = .bool true ∧ s15 = .int .i64 (nd : Int) ∧ s16 = .int .i64 (nm : Int) ∧ s17 = .int .i64 dp ∧ wx = wc ∧ nm ≤ nd ∧ nd ≤ l.length ∧ -(l.length : Int) ≤ dp ∧ dp ≤ (l.length : Int))
  case first =>
    go_wp2_with fail
    go_loopw [2, 5, 7, 9, 13, 14, 15, 16, 17, 18] (fun a2 a5 a7 a9 a13 a14 a15 a16 a17 _ wr => ∃ (j nd' nm' m' : Nat) (dp' : Int) (dot' dg' tr' : Bool), a2 = .int .u64 (m' : Int) ∧ a5 = .bool tr' ∧ a7 = .int .i64 (j : Int) ∧ a9 = .bool false ∧ a13 = .bool dot' ∧ a14 = .bool dg' ∧ a15 = .int .i64 (nd' : Int) ∧ a16 = .int .i64 (nm' : Int) ∧ a17 = .int .i64 dp' ∧ rdL l (l.length - j) j dot' dg' nd' nm' dp' m' tr' = (i, dot, true, nd, nm, dp, m, tr) ∧ j ≤ l.length ∧ nm' ≤ nd' ∧ nd' ≤ j ∧ nm' ≤ 19 ∧ m' < 10 ^ nm' ∧ -(j : Int) ≤ dp' ∧ dp' ≤ (j : Int) ∧ wr = wc) (fun _ _ a7 _ _ _ _ _ _ _ _ => l.length - (intOf a7).toNat)
    case atStart => exact ⟨S, 0, 0, 0, 0, false, false, false, rfl, rfl, rfl, rfl, rfl, rfl, rfl, rfl, rfl, HRd.out, Nat.le_of_lt HL0.out, Nat.le_refl _, Nat.zero_le _, by omega, by decide, by omega, by omega, by first | rfl | trivial⟩
    case round =>
      obtain ⟨j, nd', nm', m', dp', dot', dg', tr', rfl, rfl, rfl, rfl, rfl, rfl, rfl, rfl, rfl, hr, hj, hnm, hnd, hnm9, hm, hdp1, hdp2, rfl⟩ := hrel
      have hj0 : (0 : Int) ≤ (j : Int) := Int.natCast_nonneg _
      have hjl : (j : Int) ≤ 1000000000000 := by omega
      have hnd0 : (0 : Int) ≤ (nd' : Int) := Int.natCast_nonneg _
      have hndl : (nd' : Int) ≤ 1000000000000 := by omega
      have hnm0 : (0 : Int) ≤ (nm' : Int) := Int.natCast_nonneg _
      have hnm9i : (nm' : Int) ≤ 19 := by omega
      have hdpl : -1000000000000 ≤ dp' := by omega
      have hdph : dp' ≤ 1000000000000 := by omega
      have hm0 : (0 : Int) ≤ (m' : Int) := Int.natCast_nonneg _
      have HB := Hid_mk (And.intro hj (And.intro hnm (And.intro hnd (And.intro hnm9 (And.intro hm (And.intro hdp1 hdp2))))))
      rcases Nat.lt_or_ge j l.length with hlt | hge
      · have hlti : (j : Int) < (l.length : Int) := by omega
        have hjs : j < (st l).size := by rw [hsz]; exact hlt
        have hg := bt_get l j hjs
        rw [show l.length - j = (l.length - (j + 1)) + 1 by omega, rdL] at hr
        have hun := HUn.out j hlt
        obtain ⟨c, hc⟩ : ∃ c, bt l j = c := ⟨_, rfl⟩
        rw [hc] at hg hr hun
        have hc256 : c < 256 := by rw [← hc]; exact bt_lt l j
        have hun1 : ((c : Int) == 95) = false := by simp; omega
        have hc0 : (0 : Int) ≤ (c : Int) := Int.natCast_nonneg _
        have HLt := Hid_mk hlt
        by_cases h46 : c = 46
        · rw [if_pos h46] at hr
          have h46i : (c : Int) = 46 := by omega
          rcases hdt : dot' with _ | _
          · rw [hdt, if_neg (by simp)] at hr
            have HR := Hid_mk hr
            subst hdt
            clear hr hj hnm hnd hnm9 hm hdp1 hdp2 hlt hun hc hc256 h46
            go_wp2
            go_roundw
            case rel => exact ⟨j + 1, nd', nm', m', (nd' : Int), true, dg', tr', rfl, rfl, by go_num, rfl, rfl, rfl, rfl, rfl, rfl, HR.out, HLt.out, HB.out.2.1, by have := HB.out; omega, HB.out.2.2.2.1, HB.out.2.2.2.2.1, by omega, by have := HB.out; omega, by first | rfl | trivial⟩
            case measure => have := HLt.out; simp [intOf]; omega
          · rw [hdt, if_pos rfl] at hr
            subst hdt
            obtain ⟨rfl, rfl, rfl, rfl, rfl, rfl, rfl, rfl⟩ : j = i ∧ true = dot ∧ dg' = true ∧ nd' = nd ∧ nm' = nm ∧ dp' = dp ∧ m' = m ∧ tr' = tr := by simpa using hr
            clear hr hj hnm hnd hnm9 hm hdp1 hdp2 hlt hun hc hc256 h46
            go_wp2
            go_meet
            case rel => exact ⟨rfl, rfl, rfl, rfl, rfl, rfl, rfl, rfl, rfl, rfl, HB.out.2.1, by have := HB.out; omega, by have := HB.out; omega, by have := HB.out; omega⟩
        · rw [if_neg h46] at hr
          have h46i : ((c : Int) == 46) = false := by simp; omega
          by_cases hdg : 48 ≤ c ∧ c ≤ 57
          · rw [if_pos hdg] at hr
            have hd1 : (48 : Int) ≤ (c : Int) := by omega
            have hd2 : (c : Int) ≤ 57 := by omega
            obtain ⟨y, hy⟩ : ∃ y, c - 48 = y := ⟨_, rfl⟩
            rw [hy] at hr
            have hy9 : y ≤ 9 := by omega
            have hcy : (c : Int) = 48 + (y : Int) := by omega
            have hs8 : IntKind.u8.wrap ((c : Int) - 48) = (y : Int) := by simp [IntKind.wrap, IntKind.signed, IntKind.bits]; omega
            have hy64 : IntKind.u64.wrap (y : Int) = (y : Int) := wu _ (by omega) (by omega)
            by_cases hz : c = 48 ∧ nd' = 0
            · rw [if_pos hz] at hr
              have hz1 : (c : Int) = 48 := by omega
              have hz2 : (nd' : Int) = 0 := by omega
              have HR := Hid_mk hr
              have HZ := Hid_mk hz.2
              clear hr hj hnm hnd hnm9 hm hdp1 hdp2 hlt hun hc hc256 h46 hdg hy hy9 hcy hz
              go_wp2
              go_roundw
              case rel => exact ⟨j + 1, nd', nm', m', dp' - 1, dot', true, tr', rfl, rfl, by go_num, rfl, rfl, rfl, rfl, rfl, rfl, HR.out, HLt.out, HB.out.2.1, by have := HB.out; omega, HB.out.2.2.2.1, HB.out.2.2.2.2.1, by have := HB.out; omega, by have := HB.out; omega, by first | rfl | trivial⟩
              case measure => have := HLt.out; simp [intOf]; omega
            · rw [if_neg hz] at hr
              have hz1 : ((c : Int) == 48) = false ∨ (c : Int) = 48 ∧ ((nd' : Int) == 0) = false := by
                by_cases e : c = 48
                · right; exact ⟨by omega, by simp; omega⟩
                · left; simp; omega
              by_cases hn : nm' < 19
              · rw [if_pos hn] at hr
                have hni : (nm' : Int) < 19 := by omega
                have hmb : m' < 1000000000000000000 := Nat.lt_of_lt_of_le hm (by
                  have := Nat.pow_le_pow_right (show 0 < 10 by omega) (show nm' ≤ 18 by omega)
                  simpa using this)
                have e1 : IntKind.u64.wrap ((m' : Int) * 10) = (m' : Int) * 10 := wu _ (by omega) (by omega)
                have e2 : IntKind.u64.wrap ((m' : Int) * 10 + (y : Int)) = (m' : Int) * 10 + (y : Int) := wu _ (by omega) (by omega)
                have HR := Hid_mk hr
                have hm2 : m' * 10 + y < 10 ^ (nm' + 1) := by rw [Nat.pow_succ]; omega
                have HM2 := Hid_mk hm2
                have hcast : ((m' * 10 + y : Nat) : Int) = (m' : Int) * 10 + (y : Int) := by omega
                have HCast := Hid_mk hcast
                have HCy := Hid_mk hcy
                have HN9 := Hid_mk hn
                clear hr hj hnm hnd hnm9 hm hdp1 hdp2 hlt hun hc hc256 h46 hdg hy hy9 hcy hz hn hmb hm2 hcast
                rcases hz1 with hz1 | ⟨hz1, hz2⟩
                all_goals
                  go_wp2
                  go_roundw
                  case rel => exact ⟨j + 1, nd' + 1, nm' + 1, m' * 10 + y, dp', dot', true, tr', by first | (rw [HCast.out]; done) | (rw [HCast.out]; congr 1; have := HCy.out; omega), rfl, by go_num, rfl, rfl, rfl, by go_num, by go_num, rfl, HR.out, HLt.out, by have := HB.out; omega, by have := HB.out; omega, HN9.out, HM2.out, by have := HB.out; omega, by have := HB.out; omega, by first | rfl | trivial⟩
                  case measure => have := HLt.out; simp [intOf]; omega
              · rw [if_neg hn] at hr
                have hni : ¬ (nm' : Int) < 19 := by omega
                by_cases h48 : c = 48
                · have h48i : (c : Int) = 48 := by omega
                  have h48b : ((c : Int) != 48) = false := by simp; omega
                  rw [decide_eq_false (by omega), Bool.or_false] at hr
                  have hz2 : ((nd' : Int) == 0) = false := by simp; omega
                  have HR := Hid_mk hr
                  clear hr hj hnm hnd hnm9 hm hdp1 hdp2 hlt hun hc hc256 h46 hdg hy hy9 hcy hz hn h48 hz1
                  go_wp2
                  go_roundw
                  case rel => exact ⟨j + 1, nd' + 1, nm', m', dp', dot', true, tr', rfl, rfl, by go_num, rfl, rfl, rfl, by go_num, rfl, rfl, HR.out, HLt.out, by have := HB.out; omega, by have := HB.out; omega, HB.out.2.2.2.1, HB.out.2.2.2.2.1, by have := HB.out; omega, by have := HB.out; omega, by first | rfl | trivial⟩
                  case measure => have := HLt.out; simp [intOf]; omega
                · have h48i : ((c : Int) == 48) = false := by simp; omega
                  have h48b : ((c : Int) != 48) = true := by simp; omega
                  rw [decide_eq_true (by omega), Bool.or_true] at hr
                  have HR := Hid_mk hr
                  clear hr hj hnm hnd hnm9 hm hdp1 hdp2 hlt hun hc hc256 h46 hdg hy hy9 hcy hz hn h48 hz1
                  go_wp2
                  go_roundw
                  case rel => exact ⟨j + 1, nd' + 1, nm', m', dp', dot', true, true, rfl, rfl, by go_num, rfl, rfl, rfl, by go_num, rfl, rfl, HR.out, HLt.out, by have := HB.out; omega, by have := HB.out; omega, HB.out.2.2.2.1, HB.out.2.2.2.2.1, by have := HB.out; omega, by have := HB.out; omega, by first | rfl | trivial⟩
                  case measure => have := HLt.out; simp [intOf]; omega
          · rw [if_neg hdg] at hr
            obtain ⟨rfl, rfl, rfl, rfl, rfl, rfl, rfl, rfl⟩ : j = i ∧ dot' = dot ∧ dg' = true ∧ nd' = nd ∧ nm' = nm ∧ dp' = dp ∧ m' = m ∧ tr' = tr := by simpa using hr
            have hd12 : ¬ (48 : Int) ≤ (c : Int) ∨ ((48 : Int) ≤ (c : Int) ∧ ¬ (c : Int) ≤ 57) := by omega
            clear hr hj hnm hnd hnm9 hm hdp1 hdp2 hlt hun hc hc256 h46 hdg
            rcases hd12 with hd1 | ⟨hd1, hd2⟩
            all_goals
              go_wp2
              go_meet
              case rel => exact ⟨rfl, rfl, rfl, rfl, rfl, rfl, rfl, rfl, rfl, rfl, HB.out.2.1, by have := HB.out; omega, by have := HB.out; omega, by have := HB.out; omega⟩
      · obtain rfl : j = l.length := by omega
        rw [Nat.sub_self, rdL] at hr
        obtain ⟨rfl, rfl, rfl, rfl, rfl, rfl, rfl, rfl⟩ : l.length = i ∧ dot' = dot ∧ dg' = true ∧ nd' = nd ∧ nm' = nm ∧ dp' = dp ∧ m' = m ∧ tr' = tr := by simpa using hr
        have hlti : ¬ (l.length : Int) < (l.length : Int) := by omega
        clear hr hj hnm hnd hnm9 hm hdp1 hdp2 hge
        go_wp2
        go_meet
        case rel => exact ⟨rfl, rfl, rfl, rfl, rfl, rfl, rfl, rfl, rfl, rfl, HB.out.2.1, by have := HB.out; omega, by have := HB.out; omega, by have := HB.out; omega⟩
  case rest =>
  obtain ⟨rfl, rfl, rfl, rfl, rfl, rfl, rfl, rfl, rfl, rfl, hnm, hnd, hdp1, hdp2⟩ := hcut
  have hil := HI.out
  obtain ⟨D, hD⟩ : ∃ D : Int, (if dot = true then dp else (nd : Int)) = D := ⟨_, rfl⟩
  have hDb : -1000000000000 ≤ D ∧ D ≤ 1000000000000 := by rw [← hD]; split <;> omega
  have hDb1 := hDb.1
  have hDb2 := hDb.2
  have HDe := Hid_mk hD
  have hnm0 : (0 : Int) ≤ (nm : Int) := Int.natCast_nonneg _
  have hnm12 : (nm : Int) ≤ 1000000000000 := by omega
  have hm0 : (0 : Int) ≤ (m : Int) := Int.natCast_nonneg _
  go_upto_if 142 with fail
  go_cut [17] from 143 to 143 (fun s17 wx => s17 = .int .i64 D ∧ wx = wc)
  case first =>
    rcases dot with _ | _
    · rw [if_neg (by simp)] at hD
      clear hDb
      go_wp2_with fail
      go_meet
      case rel => exact ⟨by rw [← hD], rfl⟩
    · rw [if_pos rfl] at hD
      clear hDb
      go_wp2_with fail
      go_meet
      case rel => exact ⟨by rw [← hD], rfl⟩
  case rest =>
  obtain ⟨rfl, rfl⟩ := hcut
  clear hDb hD hnd hdp1 hdp2
  have hili : (i : Int) < (l.length : Int) := by omega
  have his : i < (st l).size := by rw [hsz]; exact hil
  have hgi := bt_get l i his
  obtain ⟨ce, hce2⟩ : ∃ ce, bt l i = ce := ⟨_, rfl⟩
  rw [hce2] at hgi
  have HLw := Hid_mk (HLow.out (ce : Int) wc)
  have hx := HCe.out
  rw [hce2] at hx
  rw [hx] at HLw
  have hi0 : (0 : Int) ≤ (i : Int) := Int.natCast_nonneg _
  obtain ⟨J, hJ⟩ : ∃ J, signS l (i + 1) = J := ⟨_, rfl⟩
  have hJl := HJl.out
  have hJd := HJd.out
  rw [hJ] at hJl hJd
  have HEx2 := Hid_mk (show exL l (l.length - J) J 0 = (l.length, eF) by rw [← hJ]; exact HEx.out)
  have hJi : i + 1 ≤ J ∧ J ≤ i + 2 := by rw [← hJ]; unfold signS; split <;> omega
  have hi1 : (i : Int) + 1 < (l.length : Int) := by omega
  have his1 : i + 1 < (st l).size := by rw [hsz]; omega
  have hg1 := bt_get l (i + 1) his1
  obtain ⟨b3, hb3⟩ : ∃ b3, bt l (i + 1) = b3 := ⟨_, rfl⟩
  rw [hb3] at hg1
  obtain ⟨es, hes⟩ : ∃ es : Int, (if b3 = 45 then -1 else 1) = es := ⟨_, rfl⟩
  have HEs := Hid_mk hes
  have hlx : i + 1 < l.length := by omega
  have HJJ := Hid_mk hJ
  have HB3 := Hid_mk hb3
  have HJl2 := Hid_mk hJl
  have HJd2 := Hid_mk hJd
  have HJi := Hid_mk hJi
  clear hce2 hx hJ hJl hJd hJi hb3 hes hil
  go_wp2_with fail
  with_reducible refine HLw.out.mono ?_
  rintro e w1 ⟨rfl, rfl⟩
  go_upto_block 4 with fail
  go_cut [7, 19] from 171 to 178 (fun s7 s19 wx => s7 = .int .i64 (J : Int) ∧ s19 = .int .i64 es ∧ wx = w1)
  case first =>
    have hJ2 := HJJ.out
    have he2 := HEs.out
    unfold signS at hJ2
    rw [HB3.out] at hJ2
    by_cases h1 : b3 = 43
    · rw [if_pos ⟨hlx, .inl h1⟩] at hJ2
      rw [if_neg (by omega)] at he2
      have h1i : (b3 : Int) = 43 := by omega
      have h1b : ((b3 : Int) == 43) = true := by simp; omega
      have hJc : (J : Int) = (i : Int) + 1 + 1 := by omega
      have HJc := Hid_mk hJc
      have He2 := Hid_mk he2
      clear hJ2 he2 h1 hJc
      go_wp2_with fail
      go_meet
      case rel => exact ⟨by rw [HJc.out], by rw [← He2.out], rfl⟩
    · have h1i : ¬ (b3 : Int) = 43 := by omega
      have h1b : ((b3 : Int) == 43) = false := by simp; omega
      by_cases h2 : b3 = 45
      · rw [if_pos ⟨hlx, .inr h2⟩] at hJ2
        rw [if_pos h2] at he2
        have h2i : (b3 : Int) = 45 := by omega
        have h2b : ((b3 : Int) == 45) = true := by simp; omega
        have hJc : (J : Int) = (i : Int) + 1 + 1 := by omega
        have HJc := Hid_mk hJc
        have He2 := Hid_mk he2
        clear hJ2 he2 h1 h2 hJc
        go_wp2_with fail
        go_meet
        case rel => exact ⟨by rw [HJc.out], by rw [← He2.out], rfl⟩
      · rw [if_neg (by rintro ⟨-, h | h⟩; exact h1 h; exact h2 h)] at hJ2
        rw [if_neg h2] at he2
        have h2i : ¬ (b3 : Int) = 45 := by omega
        have h2b : ((b3 : Int) == 45) = false := by simp; omega
        have hJc : (J : Int) = (i : Int) + 1 := by omega
        have HJc := Hid_mk hJc
        have He2 := Hid_mk he2
        clear hJ2 he2 h1 h2 hJc
        go_wp2_with fail
        go_meet
        case rel => exact ⟨by rw [HJc.out], by rw [← He2.out], rfl⟩
  case rest =>
  obtain ⟨rfl, rfl, rfl⟩ := hcut
  have hJ0 : (0 : Int) ≤ (J : Int) := Int.natCast_nonneg _
  have hJli : (J : Int) < (l.length : Int) := by have := HJl2.out; omega
  have hJli2 : ¬ (l.length : Int) ≤ (J : Int) := by omega
  have hJs : J < (st l).size := by rw [hsz]; exact HJl2.out
  have hgJ := bt_get l J hJs
  obtain ⟨c4, hc4⟩ : ∃ c4, bt l J = c4 := ⟨_, rfl⟩
  have hd4 := HJd2.out
  rw [hc4] at hgJ hd4
  have hd4a : ¬ (c4 : Int) < 48 := by omega
  have hd4b : ¬ (57 : Int) < (c4 : Int) := by omega
  clear hc4 hd4 hgi his hg1 his1
  go_wp2_with fail
  go_loopw [7, 9, 20] (fun a7 a9 a20 wr => ∃ j e : Nat, a7 = .int .i64 (j : Int) ∧ a9 = .bool false ∧ a20 = .int .i64 (e : Int) ∧ j ≤ l.length ∧ e < 100000 ∧ exL l (l.length - j) j e = (l.length, eF) ∧ wr = wc) (fun a7 _ _ _ => l.length - (intOf a7).toNat)
  case atStart => exact ⟨J, 0, rfl, rfl, rfl, Nat.le_of_lt HJl2.out, by omega, HEx2.out, rfl⟩
  case round =>
    obtain ⟨j, e, rfl, rfl, rfl, hj, he, hx, rfl⟩ := hrel
    have hj0 : (0 : Int) ≤ (j : Int) := Int.natCast_nonneg _
    have he0 : (0 : Int) ≤ (e : Int) := Int.natCast_nonneg _
    have hei : (e : Int) < 100000 := by omega
    have hjl12 : (j : Int) ≤ 1000000000000 := by omega
    rcases Nat.lt_or_ge j l.length with hlt | hge
    · have hlti : (j : Int) < (l.length : Int) := by omega
      have hjs : j < (st l).size := by rw [hsz]; exact hlt
      have hg := bt_get l j hjs
      have hun := HUn.out j hlt
      rw [show l.length - j = (l.length - (j + 1)) + 1 by omega, exL] at hx
      obtain ⟨c, hc⟩ : ∃ c, bt l j = c := ⟨_, rfl⟩
      rw [hc] at hg hx hun
      by_cases hdg : 48 ≤ c ∧ c ≤ 57
      · rw [if_pos hdg] at hx
        have hd1 : (48 : Int) ≤ (c : Int) := by omega
        have hd2 : (c : Int) ≤ 57 := by omega
        have hun1 : ((c : Int) == 95) = false := by simp; omega
        have HLt := Hid_mk hlt
        by_cases h10 : e < 10000
        · rw [if_pos h10] at hx
          have h10i : (e : Int) < 10000 := by omega
          have hce : ((e * 10 + (c - 48) : Nat) : Int) = (e : Int) * 10 + (c : Int) - 48 := by omega
          have HX := Hid_mk hx
          have HCe2 := Hid_mk hce
          have HD := Hid_mk (show e * 10 + (c - 48) < 100000 by omega)
          clear hx hj he hlt hun hc hdg h10 hce hJs hgJ
          go_wp2
          go_roundw
          case rel => exact ⟨j + 1, e * 10 + (c - 48), by go_num, rfl, by rw [HCe2.out], HLt.out, HD.out, HX.out, by first | rfl | trivial⟩
          case measure => have := HLt.out; simp [intOf]; omega
        · rw [if_neg h10] at hx
          have h10i : ¬ (e : Int) < 10000 := by omega
          have HX := Hid_mk hx
          have HD := Hid_mk he
          clear hx hj he hlt hun hc hdg h10 hJs hgJ
          go_wp2
          go_roundw
          case rel => exact ⟨j + 1, e, by go_num, rfl, rfl, HLt.out, HD.out, HX.out, by first | rfl | trivial⟩
          case measure => have := HLt.out; simp [intOf]; omega
      · rw [if_neg hdg] at hx
        exfalso
        have := (Prod.mk.inj hx).1
        omega
    · obtain rfl : j = l.length := by omega
      rw [Nat.sub_self, exL] at hx
      obtain rfl : e = eF := (Prod.mk.inj hx).2
      have hlti : ¬ (l.length : Int) < (l.length : Int) := by omega
      have hesb : es = 1 ∨ es = -1 := by rw [← HEs.out]; split; exact .inr rfl; exact .inl rfl
      have hep : -100000 ≤ (e : Int) * es ∧ (e : Int) * es ≤ 100000 := by rcases hesb with h | h <;> rw [h] <;> omega
      obtain ⟨T, hT⟩ : ∃ T, (e : Int) * es = T := ⟨_, rfl⟩
      rw [hT] at hep
      have hep1 := hep.1
      have hep2 := hep.2
      have HXp : Hid (xpS l i e = T) := Hid_mk (by unfold xpS; rw [HB3.out, HEs.out, hT])
      clear hx hj he hge hesb hep hJs hgJ
      by_cases hmz : m = 0
      · subst hmz
        have hz1 : ((0 : Int) != 0) = false := rfl
        go_wp2
        refine bodyPost_ret (v := .tuple #[.int .u64 ((0 : Nat) : Int), .int .i64 (expR dot nd nm 0 dp (xpS l i e)), .bool N, .bool tr, .bool false, .int .i64 (l.length : Int), .bool true]) ?_ rfl ⟨rfl, rfl⟩
        unfold expR
        rw [if_pos rfl]
        simp [results, Tryz.results86, go_sem]
      · have hmb : ((m : Int) != 0) = true := by simp; omega
        have hmp : 0 < m := by omega
        have hmi : ¬ (m : Int) = 0 := by omega
        have HMz := Hid_mk hmz
        clear hmz
        go_wp2
        refine bodyPost_ret (v := .tuple #[.int .u64 (m : Int), .int .i64 (expR dot nd nm m dp (xpS l i e)), .bool N, .bool tr, .bool false, .int .i64 (l.length : Int), .bool true]) ?_ rfl ⟨rfl, rfl⟩
        unfold expR
        rw [if_neg HMz.out, HDe.out, HXp.out]
        simp [results, Tryz.results86, go_sem]

end Go.Proofs.YtgnddabdjjkgiaaGreatDoor.rd

namespace Go.Proofs.YtgnddabdjjkgiaaGreatDoor.rd
open Go.RowKit Go.Lib Go.Proofs.YtgnddabdjjkgiaaGreatDoor.sum Go.Proofs.YtgnddabdjjkgiaaGreatDoor.kept Go.Proofs.YtgnddabdjjkgiaaGreatDoor.str Go.Proofs.YtgnddabdjjkgiaaGreatDoor.nums Go.Proofs.YtgnddabdjjkgiaaGreatDoor.pf Go.Proofs.YtgnddabdjjkgiaaGreatDoor.fmtf Go.Proofs.YtgnddabdjjkgiaaGreatDoor.fl
set_option linter.unusedVariables false

/-- what the walks of chapter 11 read of the library's variables -/
structure Ln (w : World) : Prop where
  ld : Ld w
  lc : Lcs w
  fi : Fi w
  fp : Fp w
theorem Fi.no {w w' : World} (h : Fi w) (hk : Kp No w w') : Fi w' := hk.cell' h id
theorem Fp.no {w w' : World} (h : Fp w) (hk : Kp No w w') : Fp w' := by
  obtain ⟨r, o, n, c, a1, a2, a3, a4, a5⟩ := h
  exact ⟨r, o, n, c, hk.cell' a1 id, a2, a3, a4, hk.cell' a5 id⟩
theorem Ln.no {w w' : World} (h : Ln w) (hk : Kp No w w') : Ln w' := ⟨h.ld.no hk, h.lc.no hk, h.fi.no hk, h.fp.no hk⟩

def t125 : List UInt8 := [49, 50, 46, 53, 101, 50]
def t7 : List UInt8 := [45, 55]
theorem deci_125 : Deci t125 := ⟨by decide, by decide⟩
theorem deci_7 : Deci t7 := ⟨by decide, by decide⟩
theorem rd_125 (w : World) : RdC w t125 125 1 false false := by
  have h := read_exp w t125 (by decide) (by decide) deci_125 4 3 3 125 2 true false (by kernel_rfl) (by decide) (by decide) (by decide) (by decide) 2 (by kernel_rfl)
  have e1 : expR true 3 3 125 2 (xpS t125 4 2) = 1 := by decide
  have e2 : negS t125 = false := by decide
  rw [e1, e2] at h
  exact h
theorem rd_7 (w : World) : RdC w t7 7 0 true false := by
  have h := read_plain w t7 (by decide) (by decide) deci_7 2 1 1 7 0 false false (by kernel_rfl) (by decide)
  have e1 : expR false 1 1 7 0 0 = 0 := by decide
  have e2 : negS t7 = true := by decide
  rw [e1, e2] at h
  exact h
theorem pf_125 (w : World) (h : Ln w) : PfC w t125 4653212373585231872 := by
  have h1 := parse_ok w t125 4653212373585231872 (fun w' => w = w') (atof_exact w t125 125 1 false _ h.ld.opt (special_none w t125 (by decide) (by decide) (by decide)) (rd_125 w) (by decide) (by decide) (by decide) (by decide) (exact1 w h.fi h.fp))
  exact h1.mono fun e w' h2 => ⟨⟨_, h2.1⟩, by rw [← h2.2]; exact Kp.refl _ _⟩
theorem pf_7 (w : World) (h : Ln w) : PfC w t7 13842939354630062080 := by
  have h0 := exact0 w 7 true (by decide) (by decide) h.fi
  have e : fl (if true = true then -((7 : Nat) : Int) else ((7 : Nat) : Int)) = 13842939354630062080 := by kernel_rfl
  rw [e] at h0
  have h1 := parse_ok w t7 13842939354630062080 (fun w' => w = w') (atof_exact w t7 7 0 true _ h.ld.opt (special_none w t7 (by decide) (by decide) (by decide)) (rd_7 w) (by decide) (by decide) (by decide) (by decide) h0)
  exact h1.mono fun e w' h2 => ⟨⟨_, h2.1⟩, by rw [← h2.2]; exact Kp.refl _ _⟩
def k1 : List UInt8 := [32, 32, 49, 50, 46, 53, 101, 50, 120]
def k2 : List UInt8 := [45, 55, 101]
theorem px_k1 (w : World) (h : Ln w) : PxC w k1 4653212373585231872 := by
  have h1 := prefix_at w k1 (by decide) 4653212373585231872 (by decide +kernel) (by rw [show pieceS k1 = t125 by decide +kernel]; exact pf_125 w h)
  rw [show plainB 4653212373585231872 = 4653212373585231872 by kernel_rfl] at h1
  exact h1
theorem px_k2 (w : World) (h : Ln w) : PxC w k2 13842939354630062080 := by
  have h1 := prefix_at w k2 (by decide) 13842939354630062080 (by decide +kernel) (by rw [show pieceS k2 = t7 by decide +kernel]; exact pf_7 w h)
  rw [show plainB 13842939354630062080 = 13842939354630062080 by kernel_rfl] at h1
  exact h1

set_option maxRecDepth 100000 in
set_option maxHeartbeats 8000000 in
theorem known11_any (w : World) (h : Ln w) : Calls Tryz.prog 10 #[] w fun e w' => e = .returned (.bool true) ∧ Kp No w w' := by
  have hf1 : (findS k1).2 = 8 := by decide +kernel
  have hf2 : (findS k2).2 = 2 := by decide +kernel
  have H1 := Hid_mk fun W (h : Ln W) => px_k1 W h
  have H2 := Hid_mk fun W (h : Ln W) => px_k2 W h
  unfold PxC at H1 H2
  rw [hf1] at H1
  rw [hf2] at H2
  have H1' : Hid (∀ W, Ln W → Calls Tryz.prog 8 #[.string ⟨#[32, 32, 49, 50, 46, 53, 101, 50, 120]⟩] W fun e w' => e = .returned (.tuple #[.float .f64 4653212373585231872, .int .i64 8]) ∧ Kp No W w') := H1
  have H2' : Hid (∀ W, Ln W → Calls Tryz.prog 8 #[.string ⟨#[45, 55, 101]⟩] W fun e w' => e = .returned (.tuple #[.float .f64 13842939354630062080, .int .i64 2]) ∧ Kp No W w') := H2
  have L1 := Hid_mk fun W => looks_any W [32, 49, 101, 51, 32] (by decide)
  have L2 := Hid_mk fun W => looks_any W [49, 120] (by decide)
  have e1 : looksS [32, 49, 101, 51, 32] = true := by decide +kernel
  have e2 : looksS [49, 120] = false := by decide +kernel
  rw [e1] at L1
  rw [e2] at L2
  have L1' : Hid (∀ W, Calls Tryz.prog 11 #[.string ⟨#[32, 49, 101, 51, 32]⟩] W fun e w' => e = .returned (.bool true) ∧ W = w') := L1
  have L2' : Hid (∀ W, Calls Tryz.prog 11 #[.string ⟨#[49, 120]⟩] W fun e w' => e = .returned (.bool false) ∧ W = w') := L2
  have D1 := Hid_mk fun W (h : Ln W) => dg_1e20 W h.ld h.lc
  unfold TxPost at D1
  have HL := Hid_mk h
  have o1 : (FloatKind.f64.format.order 4653212373585231872 4653212373585231872 == some .eq) = true := by kernel_rfl
  have o2 : (FloatKind.f64.format.order 13842939354630062080 13842939354630062080 == some .eq) = true := by kernel_rfl
  clear H1 H2 L1 L2 hf1 hf2 e1 e2 h
  go_enter Tryz.func10, Tryz.ntmps10
  go_wp2_with fail
  with_reducible refine (H1'.out _ HL.out).mono ?_
  rintro e w1 ⟨rfl, hk1⟩
  have HK := Hid_mk hk1
  clear hk1
  go_wp2_with fail
  with_reducible refine (H2'.out _ (HL.out.no HK.out)).mono ?_
  rintro e w2 ⟨rfl, hk1⟩
  have HK := Hid_mk (HK.out.trans' hk1)
  clear hk1
  go_wp2_with fail
  with_reducible refine (L1'.out _).mono ?_
  rintro e w3 ⟨rfl, rfl⟩
  go_wp2_with fail
  with_reducible refine (L2'.out _).mono ?_
  rintro e w3 ⟨rfl, rfl⟩
  go_wp2_with fail
  with_reducible refine (D1.out _ (HL.out.no HK.out)).mono ?_
  rintro e w3 ⟨rfl, hk1⟩
  have HK := Hid_mk (HK.out.trans' hk1)
  clear hk1
  go_wp2
  go_ret
  exact ⟨rfl, HK.out⟩

end Go.Proofs.YtgnddabdjjkgiaaGreatDoor.rd

namespace Go.Proofs.YtgnddabdjjkgiaaGreatDoor.pf
open Go.RowKit Go.Lib Go.Proofs.YtgnddabdjjkgiaaGreatDoor.sum Go.Proofs.YtgnddabdjjkgiaaGreatDoor.kept Go.Proofs.YtgnddabdjjkgiaaGreatDoor.app Go.Proofs.YtgnddabdjjkgiaaGreatDoor.writer Go.Proofs.YtgnddabdjjkgiaaGreatDoor.known Go.Proofs.YtgnddabdjjkgiaaGreatDoor.str Go.Proofs.YtgnddabdjjkgiaaGreatDoor.fmtf Go.Proofs.YtgnddabdjjkgiaaGreatDoor.fl
set_option linter.unusedVariables false

/-- FormatFloat of a finite number's whole part tells some text -/
theorem ff_ex {b : Nat} (hb : b < 18446744073709551616) (hf : FinD b) : ∃ S, ∀ W, Ld W → Lcs W → Calls Tryz.prog 28 #[.float .f64 (plainB (truncB b)), .int .u8 102, .int .i64 0, .int .i64 64] W (TxPost W S) := by
  rcases trunc_cases hb hf with ⟨z, hs, hz⟩ | ⟨ht, hx, hm, hE⟩
  · rw [hz]
    rcases Int.lt_trichotomy z 0 with h0 | h0 | h0
    · obtain ⟨n, hn⟩ : ∃ n, z.natAbs = n := ⟨_, rfl⟩
      have hz2 : z = -(n : Int) := by omega
      have hn2 : n < 2 ^ 53 := by unfold Small at hs; omega
      subst hz2
      rw [word_neg n (by omega) hn2]
      have hff := ff_fl n (by omega) hn2
      have e1 : (fl (n : Int) + 9223372036854775808) / 4503599627370496 % 2048 = fl (n : Int) / 4503599627370496 % 2048 := by omega
      exact ⟨_, fun W h _ => ff_all W h (fl (n : Int) + 9223372036854775808) 0 (by have := hff.1; omega) (by rw [e1]; exact hff.2.1) (by rw [mt_neg]; exact hff.2.2.1) (by omega) (by omega) (by rw [dg_neg]; exact dg_fl n (by omega) hn2)⟩
    · subst h0
      rw [show fl 0 = 0 by decide +kernel]
      exact ⟨_, fun W _ _ => ff_zero W⟩
    · obtain ⟨n, rfl⟩ : ∃ n : Nat, z = (n : Int) := ⟨z.toNat, by omega⟩
      have hn2 : n < 2 ^ 53 := by unfold Small at hs; omega
      have hff := ff_fl n (by omega) hn2
      exact ⟨_, fun W h _ => ff_all W h (fl (n : Int)) 0 (by have := hff.1; omega) hff.2.1 hff.2.2.1 (by omega) (by omega) (dg_fl n (by omega) hn2)⟩
  · rw [ht]
    by_cases hp : plainB b = 0
    · rw [hp]
      exact ⟨_, fun W _ _ => ff_zero W⟩
    · have hpb : plainB b = b := by
        unfold plainB at hp ⊢
        split
        · rename_i h; rw [if_pos h] at hp; exact absurd rfl hp
        · rfl
      rw [hpb]
      by_cases hD : dgI b 0 ≤ 18
      · exact ⟨_, fun W h _ => ff_all W h b 0 hb hE hm (by omega) (by omega) hD⟩
      · have hx2 : 52 < exI b := by
          unfold dgI at hD
          rw [if_pos (by omega)] at hD
          unfold lg10 at hD
          omega
        exact ⟨_, fun W h hL => ff_big W h hL b 0 hb hE hm (by omega) (by omega) (by omega) hx2⟩
/-- is it finite, as the document's asks -/
def finR (b : Nat) : Bool := (FloatKind.f64.format.order b b == some .eq) && ((FloatKind.f64.format.order b 9218868437227405311 == some .lt || FloatKind.f64.format.order b 9218868437227405311 == some .eq) && (FloatKind.f64.format.order b 18442240474082181119 == some .gt || FloatKind.f64.format.order b 18442240474082181119 == some .eq))
set_option maxRecDepth 100000 in
set_option maxHeartbeats 2000000 in
theorem rfinite_any (w : World) (b : Nat) : Calls Tryz.prog 35 #[.float .f64 b] w (RV w (.bool (finR b))) := by
  unfold finR
  obtain ⟨p, hp⟩ : ∃ p, (FloatKind.f64.format.order b b == some .eq) = p := ⟨_, rfl⟩
  obtain ⟨q1, hq1⟩ : ∃ p, (FloatKind.f64.format.order b 9218868437227405311 == some .lt) = p := ⟨_, rfl⟩
  obtain ⟨q2, hq2⟩ : ∃ p, (FloatKind.f64.format.order b 9218868437227405311 == some .eq) = p := ⟨_, rfl⟩
  obtain ⟨r1, hr1⟩ : ∃ p, (FloatKind.f64.format.order b 18442240474082181119 == some .gt) = p := ⟨_, rfl⟩
  obtain ⟨r2, hr2⟩ : ∃ p, (FloatKind.f64.format.order b 18442240474082181119 == some .eq) = p := ⟨_, rfl⟩
  rw [hp, hq1, hq2, hr1, hr2]
  go_enter Tryz.func35, Tryz.ntmps35
  cases p <;> cases q1 <;> cases q2 <;> cases r1 <;> cases r2 <;> (go_wp2; go_ret; exact ⟨rfl, rfl⟩)
theorem cmp_le {x y : Int} (h : x ≤ y) : ((some (compare x y) == some Ordering.lt) || (some (compare x y) == some Ordering.eq)) = true := by
  rw [cmp_lt_iff, cmp_eq_iff]
  by_cases e : x = y
  · simp [e]
  · simp; omega
theorem cmp_ge {x y : Int} (h : y ≤ x) : ((some (compare x y) == some Ordering.gt) || (some (compare x y) == some Ordering.eq)) = true := by
  simp only [compare, compareOfLessAndEq]
  split
  · omega
  · split <;> rfl
theorem fin_finR {b : Nat} (hb : b < 18446744073709551616) (h : FinD b) : finR b = true := by
  obtain ⟨m, i, hr, hm, hi1, hi2⟩ := fin_read hb h
  obtain ⟨s, hs⟩ : ∃ s, (b / 9223372036854775808 % 2 == 1) = s := ⟨_, rfl⟩
  rw [hs] at hr
  obtain ⟨k, hk⟩ : ∃ k : Nat, (((971 : Nat) : Int) - min i (971 : Nat)).toNat = k := ⟨_, rfl⟩
  have hi0 : (i - min i (971 : Nat)).toNat = 0 := by omega
  have hp : 0 < 2 ^ k := Nat.two_pow_pos k
  have hX : 9007199254740991 ≤ 9007199254740991 * 2 ^ k := Nat.le_mul_of_pos_right _ hp
  have hab := signed_abs s m 0
  rw [Nat.pow_zero, Nat.mul_one] at hab
  have e1 : Ieee.signed false 9007199254740991 k = ((9007199254740991 * 2 ^ k : Nat) : Int) := by unfold Ieee.signed; rw [Nat.shiftLeft_eq]; rfl
  have e2 : Ieee.signed true 9007199254740991 k = -((9007199254740991 * 2 ^ k : Nat) : Int) := by unfold Ieee.signed; rw [Nat.shiftLeft_eq]; rfl
  unfold finR
  rw [show FloatKind.f64.format.order b b = _ from ord_num hr hr, show FloatKind.f64.format.order b 9218868437227405311 = _ from ord_num hr read_max, show FloatKind.f64.format.order b 18442240474082181119 = _ from ord_num hr read_min, cmp_self, hi0, hk, e1, e2, cmp_le (by omega), cmp_ge (by omega)]
  rfl
/-- what is not finite: three kinds -/
theorem odd_cases {b : Nat} (hb : b < 18446744073709551616) (h : ¬ FinD b) : b = 9218868437227405312 ∨ b = 18442240474082181120 ∨ (∀ c, FloatKind.f64.format.order b c = none ∧ FloatKind.f64.format.order c b = none) := by
  unfold FinD at h
  rcases read_cases b hb with ⟨h1, _⟩ | ⟨_, h1, _⟩ | ⟨h1, _⟩ | ⟨h1, _⟩ | ⟨s, t, h1⟩
  · omega
  · omega
  · exact .inl h1
  · exact .inr (.inl h1)
  · right; right
    intro c
    have e : FloatKind.f64.format.read b = .nan s t := h1
    unfold Ieee.Format.order
    rw [e]
    exact ⟨rfl, by cases FloatKind.f64.format.read c <;> rfl⟩
theorem odd_facts {b : Nat} (hb : b < 18446744073709551616) (h : ¬ FinD b) : kindB b ≠ 0 ∧ finR b = false ∧ wholeB b = false ∧ (FloatKind.f64.format.order b b != some .eq) = decide (kindB b = 1) ∧ (kindB b ≠ 1 → (FloatKind.f64.format.order b 0 == some .gt) = decide (kindB b = 2)) := by
  rcases odd_cases hb h with rfl | rfl | hn
  · exact ⟨by decide +kernel, by kernel_rfl, by kernel_rfl, by kernel_rfl, fun _ => by kernel_rfl⟩
  · exact ⟨by decide +kernel, by kernel_rfl, by kernel_rfl, by kernel_rfl, fun _ => by kernel_rfl⟩
  · have h1 : kindB b = 1 := by unfold kindB; rw [(hn b).1]; rfl
    refine ⟨by rw [h1]; decide, ?_, ?_, ?_, fun h => absurd h1 h⟩
    · unfold finR; rw [(hn b).1]; rfl
    · unfold wholeB; rw [(hn _).2]; rfl
    · rw [(hn b).1, h1]; rfl

theorem clean_any (w : World) (b : Nat) : Calls Tryz.prog 33 #[.float .f64 b] w (RF w (plainB b)) := by
  unfold plainB
  by_cases h : (FloatKind.f64.format.order b 0 == some .eq) = true
  · rw [if_pos h]
    go_enter Tryz.func33, Tryz.ntmps33
    go_wp2
    go_ret
    exact ⟨rfl, rfl⟩
  · rw [if_neg h]
    have h : (FloatKind.f64.format.order b 0 == some .eq) = false := by simpa using h
    go_enter Tryz.func33, Tryz.ntmps33
    go_wp2
    go_ret
    exact ⟨rfl, rfl⟩

set_option maxRecDepth 100000 in
set_option maxHeartbeats 4000000 in
theorem rdigits_fin (w : World) (b : Nat) (S : List UInt8) (hb : b < 18446744073709551616) (hf : FinD b)
    (hc : Calls Tryz.prog 28 #[.float .f64 (plainB (truncB b)), .int .u8 102, .int .i64 0, .int .i64 64] w (TxPost w S)) :
    Calls Tryz.prog 21 #[.float .f64 b] w (TxPost w S) := by
  obtain ⟨hk, hn⟩ := fin_kind hb hf
  have HC := Hid_mk hc
  have HT := Hid_mk (trunc_any w b hn)
  have HP := Hid_mk (clean_any w (truncB b))
  have HF := Hid_mk (rfinite_any w b)
  rw [fin_finR hb hf] at HF
  obtain ⟨t, ht⟩ : ∃ t, truncB b = t := ⟨_, rfl⟩
  rw [ht] at HC HT HP
  obtain ⟨p, hp⟩ : ∃ p, plainB t = p := ⟨_, rfl⟩
  rw [hp] at HC HP
  unfold TxPost at HC
  have h1 : (FloatKind.f64.format.order b b != some .eq) = false := by
    have := fin_finR hb hf
    unfold finR at this
    simp only [Bool.and_eq_true] at this
    simpa using this.1
  clear hc hk hn ht hp hf hb
  go_enter Tryz.func21, Tryz.ntmps21
  go_wp2_with fail
  with_reducible refine HF.out.mono ?_
  rintro e w1 ⟨rfl, rfl⟩
  go_wp2_with fail
  with_reducible refine HT.out.mono ?_
  rintro e w1 ⟨rfl, rfl⟩
  go_wp2_with fail
  with_reducible refine HP.out.mono ?_
  rintro e w1 ⟨rfl, rfl⟩
  go_wp2_with fail
  with_reducible refine HC.out.mono ?_
  rintro e w2 ⟨rfl, hk⟩
  have HK := Hid_mk hk
  clear hk
  go_wp2
  go_ret
  exact ⟨rfl, HK.out⟩
set_option maxRecDepth 100000 in
set_option maxHeartbeats 4000000 in
theorem rdigits_odd (w : World) (b : Nat) (hb : b < 18446744073709551616) (hf : ¬ FinD b) : Calls Tryz.prog 21 #[.float .f64 b] w (TxPost w (oddS (kindB b))) := by
  obtain ⟨h0, h1, -, h2, h3⟩ := odd_facts hb hf
  have HF := Hid_mk (rfinite_any w b)
  rw [h1] at HF
  unfold oddS
  by_cases e1 : kindB b = 1
  · rw [if_pos e1]
    rw [e1] at h2
    clear h0 h1 h3 e1 hf hb
    have h2 : (FloatKind.f64.format.order b b != some .eq) = true := h2
    go_enter Tryz.func21, Tryz.ntmps21
    go_wp2
    go_ret
    exact ⟨rfl, Kp.refl _ _⟩
  · rw [if_neg e1]
    rw [decide_eq_false e1] at h2
    have h3 := h3 e1
    by_cases e2 : kindB b = 2
    · rw [if_pos e2]
      rw [decide_eq_true e2] at h3
      clear h0 h1 e1 e2 hf hb
      go_enter Tryz.func21, Tryz.ntmps21
      go_wp2_with fail
      with_reducible refine HF.out.mono ?_
      rintro e w1 ⟨rfl, rfl⟩
      go_wp2
      go_ret
      exact ⟨rfl, Kp.refl _ _⟩
    · rw [if_neg e2]
      rw [decide_eq_false e2] at h3
      clear h0 h1 e1 e2 hf hb
      go_enter Tryz.func21, Tryz.ntmps21
      go_wp2_with fail
      with_reducible refine HF.out.mono ?_
      rintro e w1 ⟨rfl, rfl⟩
      go_wp2
      go_ret
      exact ⟨rfl, Kp.refl _ _⟩
/-- both tell the same digits -/
theorem digits_two {b : Nat} (hb : b < 18446744073709551616) : ∃ S, ∀ W, Ld W → Lcs W → Calls Tryz.prog 12 #[.float .f64 b] W (TxPost W S) ∧ Calls Tryz.prog 21 #[.float .f64 b] W (TxPost W S) := by
  by_cases hf : FinD b
  · obtain ⟨S, hS⟩ := ff_ex hb hf
    obtain ⟨hk, hn⟩ := fin_kind hb hf
    exact ⟨S, fun W h hL => ⟨digits_fin W b S hk hn (hS W h hL), rdigits_fin W b S hb hf (hS W h hL)⟩⟩
  · exact ⟨_, fun W h hL => ⟨digits_odd W b (odd_facts hb hf).1, rdigits_odd W b hb hf⟩⟩

end Go.Proofs.YtgnddabdjjkgiaaGreatDoor.pf
