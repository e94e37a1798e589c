/- internal/strconv.readFloat of decimal numerals with an exponent. Decimal digits in cells, as plain numbers. The library's decimal numbers in memory; noughts at their end cut off. -/
import Derived.Test.YtgnddabdjjkgiaaGreatDoorPfNumM
import Derived.Test.YtgnddabdjjkgiaaGreatDoorFmtBase

namespace Go.Proofs.YtgnddabdjjkgiaaGreatDoor.rd
open Go.RowKit Go.Proofs.YtgnddabdjjkgiaaGreatDoor.sum Go.Proofs.YtgnddabdjjkgiaaGreatDoor.kept Go.Proofs.YtgnddabdjjkgiaaGreatDoor.str Go.Proofs.YtgnddabdjjkgiaaGreatDoor.nums Go.Proofs.YtgnddabdjjkgiaaGreatDoor.fmtf
set_option linter.unusedVariables false

/-- what the exponent adds -/
def xpS (l : List UInt8) (i e : Nat) : Int := (e : Int) * (if bt l (i + 1) = 45 then -1 else 1)

set_option maxRecDepth 100000 in
set_option maxHeartbeats 16000000 in
theorem read_exp (w : World) (l : List UInt8) (hl : l.length ≤ 1000000000000) (hl0 : signS l 0 < l.length) (hd : Deci l) (i nd nm m : Nat) (dp : Int) (dot tr : Bool)
    (hr : rdL l (l.length - signS l 0) (signS l 0) false false 0 0 0 0 false = (i, dot, true, nd, nm, dp, m, tr)) (hi : i < l.length) (hce : bits .or .u8 (bt l i : Int) 32 = 101) (hJl : signS l (i + 1) < l.length) (hJd : 48 ≤ bt l (signS l (i + 1)) ∧ bt l (signS l (i + 1)) ≤ 57) (eF : Nat) (hex : exL l (l.length - signS l (i + 1)) (signS l (i + 1)) 0 = (l.length, eF)) :
    Calls Tryz.prog 86 #[.string (st l)] w fun e w' => e = .returned (.tuple #[.int .u64 (m : Int), .int .i64 (expR dot nd nm m dp (xpS l i eF)), .bool (negS l), .bool tr, .bool false, .int .i64 (l.length : Int), .bool true]) ∧ w = w' := by
  have hsz := st_size l
  have HL := Hid_mk hl
  have HUn := Hid_mk hd.un
  have HHx := Hid_mk hd.hx
  have HRd := Hid_mk hr
  have HI := Hid_mk hi
  have HCe := Hid_mk hce
  have HJl := Hid_mk hJl
  have HJd := Hid_mk hJd
  have HEx := Hid_mk hex
  obtain ⟨S, hS⟩ : ∃ S, signS l 0 = S := ⟨_, rfl⟩
  have HS := Hid_mk hS
  obtain ⟨N, hN⟩ : ∃ N, negS l = N := ⟨_, rfl⟩
  have HN := Hid_mk hN
  rw [hN]
  rw [hS] at hl0 HHx HRd
  have HL0 := Hid_mk hl0
  have hlen1 : (0 : Int) < (l.length : Int) := by omega
  have hlen2 : (l.length : Int) ≤ 1000000000000 := by omega
  have hS1 : S ≤ 1 := by rw [← hS]; unfold signS; split <;> omega
  have hz0 : 0 < (st l).size := by rw [hsz]; omega
  have hg0 := bt_get l 0 hz0
  have hlpos : 0 < l.length := by omega
  have hne : ¬ l = [] := by intro e; rw [e] at hlpos; simp at hlpos
  obtain ⟨b0, hb0⟩ : ∃ b0, bt l 0 = b0 := ⟨_, rfl⟩
  rw [hb0] at hg0
  have HB0 := Hid_mk hb0
  have HLow := Hid_mk fun (c : Int) W => Go.Proofs.Tryz.internal_strconv_lower c W
  clear hl hd hr hi hS hN hb0 hce hJl hJd hex
  go_enter Tryz.func86, Tryz.ntmps86
  go_wp2_with fail
  refine wp_scope_straight ?_
  go_upto_block 0 with fail
  go_cut [4, 7] from 28 to 35 (fun s4 s7 wc => s4 = .bool N ∧ s7 = .int .i64 (S : Int) ∧ wc = w)
  case first =>
    have hb0 := HB0.out
    have hS2 := HS.out
    have hN2 := HN.out
    unfold signS at hS2
    unfold negS at hN2
    rw [hb0, decide_eq_true hlpos] at hN2
    rw [hb0] at hS2
    by_cases h1 : b0 = 43
    · rw [if_pos ⟨hlpos, .inl h1⟩] at hS2
      have h1i : (b0 : Int) = 43 := by omega
      have h1b : ((b0 : Int) == 43) = true := by simp; omega
      have hn : N = false := by rw [← hN2, h1]; rfl
      have hs : S = 1 := hS2.symm
      subst hn hs
      clear hS2 hN2 h1 hb0
      go_wp2_with fail
      go_meet
      case rel => exact ⟨rfl, rfl, rfl⟩
    · have h1i : ¬ (b0 : Int) = 43 := by omega
      have h1b : ((b0 : Int) == 43) = false := by simp; omega
      by_cases h2 : b0 = 45
      · rw [if_pos ⟨hlpos, .inr h2⟩] at hS2
        have h2i : (b0 : Int) = 45 := by omega
        have h2b : ((b0 : Int) == 45) = true := by simp; omega
        have hn : N = true := by rw [← hN2, h2]; rfl
        have hs : S = 1 := hS2.symm
        subst hn hs
        clear hS2 hN2 h1 h2 hb0
        go_wp2_with fail
        go_meet
        case rel => exact ⟨rfl, rfl, rfl⟩
      · rw [if_neg (by rintro ⟨-, h | h⟩; exact h1 h; exact h2 h)] at hS2
        have h2i : ¬ (b0 : Int) = 45 := by omega
        have h2b : ((b0 : Int) == 45) = false := by simp; omega
        have hn : N = false := by rw [← hN2, decide_eq_false h2]; rfl
        have hs : S = 0 := hS2.symm
        subst hn hs
        clear hS2 hN2 h1 h2 hb0
        go_wp2_with fail
        go_meet
        case rel => exact ⟨rfl, rfl, rfl⟩
  case rest =>
  obtain ⟨rfl, rfl, rfl⟩ := hcut
  clear hg0 hz0
  have hS0 : (0 : Int) ≤ (S : Int) := Int.natCast_nonneg _
  have hS1i : (S : Int) ≤ 1 := by omega
  go_upto_region 12 with fail
  go_cut [54] from 36 to 53 (fun s54 wx => s54 = .bool false ∧ wx = wc)
  case first =>
    by_cases h1 : S + 2 < l.length
    · have h1i : (S : Int) + 2 < (l.length : Int) := by omega
      have hlt1 : S < (st l).size := by rw [hsz]; omega
      have hlt2 : S + 1 < (st l).size := by rw [hsz]; omega
      have hSl : (S : Int) < (l.length : Int) := by omega
      have hSl2 : (S : Int) + 1 < (l.length : Int) := by omega
      have hg1 := bt_get l S hlt1
      have hg2 := bt_get l (S + 1) hlt2
      have hHx := HHx.out
      obtain ⟨b1, hb1⟩ : ∃ b1, bt l S = b1 := ⟨_, rfl⟩
      obtain ⟨b2, hb2⟩ : ∃ b2, bt l (S + 1) = b2 := ⟨_, rfl⟩
      rw [hb1] at hg1 hHx
      rw [hb2] at hg2 hHx
      by_cases h3 : b1 = 48
      · have h3i : (b1 : Int) = 48 := by omega
        have h4 : (bits .or .u8 (b2 : Int) 32 == 120) = false := by
          have h5 : ¬ bits .or .u8 (b2 : Int) 32 = 120 := fun e => hHx ⟨h1, h3, e⟩
          simpa using h5
        have h4b : ¬ bits .or .u8 (b2 : Int) 32 = 120 := fun e => hHx ⟨h1, h3, e⟩
        have HL4 := Hid_mk h4
        obtain ⟨X, hX⟩ : ∃ X, bits .or .u8 (b2 : Int) 32 = X := ⟨_, rfl⟩
        have HLw := Hid_mk (HLow.out (b2 : Int) wc)
        rw [hX] at h4 h4b HLw
        clear hHx h1 h3 hb1 hb2 hX HL4
        go_wp2_with fail
        with_reducible refine HLw.out.mono ?_
        rintro e w1 ⟨rfl, rfl⟩
        go_wp2_with fail
        go_meet
        case rel => exact ⟨rfl, rfl⟩
      · have h3i : ((b1 : Int) == 48) = false := by simp; omega
        clear hHx h1 h3 hb1 hb2
        go_wp2_with fail
        go_meet
        case rel => exact ⟨rfl, rfl⟩
    · have h1i : ¬ (S : Int) + 2 < (l.length : Int) := by omega
      clear h1
      go_wp2_with fail
      go_meet
      case rel => exact ⟨rfl, rfl⟩
  case rest =>
  obtain ⟨rfl, rfl⟩ := hcut
  go_upto_block 1 with fail
  apply wp_label
  go_upto_block 1 with fail
  go_cut [2, 5, 7, 9, 13, 14, 15, 16, 17, 18] from 57 to 138 (fun s2 s5 s7 s9 s13 s14 s15 s16 s17 s18 wx => s2 = .int .u64 (m : Int) ∧ s5 = .bool tr ∧ s7 = .int .i64 (i : Int) ∧ s9 = .bool false ∧ s13 = .bool dot ∧ s14 = .bool true ∧ s15 = .int .i64 (nd : Int) ∧ s16 = .int .i64 (nm : Int) ∧ s17 = .int .i64 dp ∧ wx = wc ∧ nm ≤ nd ∧ nd ≤ l.length ∧ -(l.length : Int) ≤ dp ∧ dp ≤ (l.length : Int))
  case first =>
    go_wp2_with fail
    go_loopw [2, 5, 7, 9, 13, 14, 15, 16, 17, 18] (fun a2 a5 a7 a9 a13 a14 a15 a16 a17 _ wr => ∃ (j nd' nm' m' : Nat) (dp' : Int) (dot' dg' tr' : Bool), a2 = .int .u64 (m' : Int) ∧ a5 = .bool tr' ∧ a7 = .int .i64 (j : Int) ∧ a9 = .bool false ∧ a13 = .bool dot' ∧ a14 = .bool dg' ∧ a15 = .int .i64 (nd' : Int) ∧ a16 = .int .i64 (nm' : Int) ∧ a17 = .int .i64 dp' ∧ rdL l (l.length - j) j dot' dg' nd' nm' dp' m' tr' = (i, dot, true, nd, nm, dp, m, tr) ∧ j ≤ l.length ∧ nm' ≤ nd' ∧ nd' ≤ j ∧ nm' ≤ 19 ∧ m' < 10 ^ nm' ∧ -(j : Int) ≤ dp' ∧ dp' ≤ (j : Int) ∧ wr = wc) (fun _ _ a7 _ _ _ _ _ _ _ _ => l.length - (intOf a7).toNat)
    case atStart => exact ⟨S, 0, 0, 0, 0, false, false, false, rfl, rfl, rfl, rfl, rfl, rfl, rfl, rfl, rfl, HRd.out, Nat.le_of_lt HL0.out, Nat.le_refl _, Nat.zero_le _, by omega, by decide, by omega, by omega, by first | rfl | trivial⟩
    case round =>
      obtain ⟨j, nd', nm', m', dp', dot', dg', tr', rfl, rfl, rfl, rfl, rfl, rfl, rfl, rfl, rfl, hr, hj, hnm, hnd, hnm9, hm, hdp1, hdp2, rfl⟩ := hrel
      have hj0 : (0 : Int) ≤ (j : Int) := Int.natCast_nonneg _
      have hjl : (j : Int) ≤ 1000000000000 := by omega
      have hnd0 : (0 : Int) ≤ (nd' : Int) := Int.natCast_nonneg _
      have hndl : (nd' : Int) ≤ 1000000000000 := by omega
      have hnm0 : (0 : Int) ≤ (nm' : Int) := Int.natCast_nonneg _
      have hnm9i : (nm' : Int) ≤ 19 := by omega
      have hdpl : -1000000000000 ≤ dp' := by omega
      have hdph : dp' ≤ 1000000000000 := by omega
      have hm0 : (0 : Int) ≤ (m' : Int) := Int.natCast_nonneg _
      have HB := Hid_mk (And.intro hj (And.intro hnm (And.intro hnd (And.intro hnm9 (And.intro hm (And.intro hdp1 hdp2))))))
      rcases Nat.lt_or_ge j l.length with hlt | hge
      · have hlti : (j : Int) < (l.length : Int) := by omega
        have hjs : j < (st l).size := by rw [hsz]; exact hlt
        have hg := bt_get l j hjs
        rw [show l.length - j = (l.length - (j + 1)) + 1 by omega, rdL] at hr
        have hun := HUn.out j hlt
        obtain ⟨c, hc⟩ : ∃ c, bt l j = c := ⟨_, rfl⟩
        rw [hc] at hg hr hun
        have hc256 : c < 256 := by rw [← hc]; exact bt_lt l j
        have hun1 : ((c : Int) == 95) = false := by simp; omega
        have hc0 : (0 : Int) ≤ (c : Int) := Int.natCast_nonneg _
        have HLt := Hid_mk hlt
        by_cases h46 : c = 46
        · rw [if_pos h46] at hr
          have h46i : (c : Int) = 46 := by omega
          rcases hdt : dot' with _ | _
          · rw [hdt, if_neg (by simp)] at hr
            have HR := Hid_mk hr
            subst hdt
            clear hr hj hnm hnd hnm9 hm hdp1 hdp2 hlt hun hc hc256 h46
            go_wp2
            go_roundw
            case rel => exact ⟨j + 1, nd', nm', m', (nd' : Int), true, dg', tr', rfl, rfl, by go_num, rfl, rfl, rfl, rfl, rfl, rfl, HR.out, HLt.out, HB.out.2.1, by have := HB.out; omega, HB.out.2.2.2.1, HB.out.2.2.2.2.1, by omega, by have := HB.out; omega, by first | rfl | trivial⟩
            case measure => have := HLt.out; simp [intOf]; omega
          · rw [hdt, if_pos rfl] at hr
            subst hdt
            obtain ⟨rfl, rfl, rfl, rfl, rfl, rfl, rfl, rfl⟩ : j = i ∧ true = dot ∧ dg' = true ∧ nd' = nd ∧ nm' = nm ∧ dp' = dp ∧ m' = m ∧ tr' = tr := by simpa using hr
            clear hr hj hnm hnd hnm9 hm hdp1 hdp2 hlt hun hc hc256 h46
            go_wp2
            go_meet
            case rel => exact ⟨rfl, rfl, rfl, rfl, rfl, rfl, rfl, rfl, rfl, rfl, HB.out.2.1, by have := HB.out; omega, by have := HB.out; omega, by have := HB.out; omega⟩
        · rw [if_neg h46] at hr
          have h46i : ((c : Int) == 46) = false := by simp; omega
          by_cases hdg : 48 ≤ c ∧ c ≤ 57
          · rw [if_pos hdg] at hr
            have hd1 : (48 : Int) ≤ (c : Int) := by omega
            have hd2 : (c : Int) ≤ 57 := by omega
            obtain ⟨y, hy⟩ : ∃ y, c - 48 = y := ⟨_, rfl⟩
            rw [hy] at hr
            have hy9 : y ≤ 9 := by omega
            have hcy : (c : Int) = 48 + (y : Int) := by omega
            have hs8 : IntKind.u8.wrap ((c : Int) - 48) = (y : Int) := by simp [IntKind.wrap, IntKind.signed, IntKind.bits]; omega
            have hy64 : IntKind.u64.wrap (y : Int) = (y : Int) := wu _ (by omega) (by omega)
            by_cases hz : c = 48 ∧ nd' = 0
            · rw [if_pos hz] at hr
              have hz1 : (c : Int) = 48 := by omega
              have hz2 : (nd' : Int) = 0 := by omega
              have HR := Hid_mk hr
              have HZ := Hid_mk hz.2
              clear hr hj hnm hnd hnm9 hm hdp1 hdp2 hlt hun hc hc256 h46 hdg hy hy9 hcy hz
              go_wp2
              go_roundw
              case rel => exact ⟨j + 1, nd', nm', m', dp' - 1, dot', true, tr', rfl, rfl, by go_num, rfl, rfl, rfl, rfl, rfl, rfl, HR.out, HLt.out, HB.out.2.1, by have := HB.out; omega, HB.out.2.2.2.1, HB.out.2.2.2.2.1, by have := HB.out; omega, by have := HB.out; omega, by first | rfl | trivial⟩
              case measure => have := HLt.out; simp [intOf]; omega
            · rw [if_neg hz] at hr
              have hz1 : ((c : Int) == 48) = false ∨ (c : Int) = 48 ∧ ((nd' : Int) == 0) = false := by
                by_cases e : c = 48
                · right; exact ⟨by omega, by simp; omega⟩
                · left; simp; omega
              by_cases hn : nm' < 19
              · rw [if_pos hn] at hr
                have hni : (nm' : Int) < 19 := by omega
                have hmb : m' < 1000000000000000000 := Nat.lt_of_lt_of_le hm (by
                  have := Nat.pow_le_pow_right (show 0 < 10 by omega) (show nm' ≤ 18 by omega)
                  simpa using this)
                have e1 : IntKind.u64.wrap ((m' : Int) * 10) = (m' : Int) * 10 := wu _ (by omega) (by omega)
                have e2 : IntKind.u64.wrap ((m' : Int) * 10 + (y : Int)) = (m' : Int) * 10 + (y : Int) := wu _ (by omega) (by omega)
                have HR := Hid_mk hr
                have hm2 : m' * 10 + y < 10 ^ (nm' + 1) := by rw [Nat.pow_succ]; omega
                have HM2 := Hid_mk hm2
                have hcast : ((m' * 10 + y : Nat) : Int) = (m' : Int) * 10 + (y : Int) := by omega
                have HCast := Hid_mk hcast
                have HCy := Hid_mk hcy
                have HN9 := Hid_mk hn
                clear hr hj hnm hnd hnm9 hm hdp1 hdp2 hlt hun hc hc256 h46 hdg hy hy9 hcy hz hn hmb hm2 hcast
                rcases hz1 with hz1 | ⟨hz1, hz2⟩
                all_goals
                  go_wp2
                  go_roundw
                  case rel => exact ⟨j + 1, nd' + 1, nm' + 1, m' * 10 + y, dp', dot', true, tr', by first | (rw [HCast.out]; done) | (rw [HCast.out]; congr 1; have := HCy.out; omega), rfl, by go_num, rfl, rfl, rfl, by go_num, by go_num, rfl, HR.out, HLt.out, by have := HB.out; omega, by have := HB.out; omega, HN9.out, HM2.out, by have := HB.out; omega, by have := HB.out; omega, by first | rfl | trivial⟩
                  case measure => have := HLt.out; simp [intOf]; omega
              · rw [if_neg hn] at hr
                have hni : ¬ (nm' : Int) < 19 := by omega
                by_cases h48 : c = 48
                · have h48i : (c : Int) = 48 := by omega
                  have h48b : ((c : Int) != 48) = false := by simp; omega
                  rw [decide_eq_false (by omega), Bool.or_false] at hr
                  have hz2 : ((nd' : Int) == 0) = false := by simp; omega
                  have HR := Hid_mk hr
                  clear hr hj hnm hnd hnm9 hm hdp1 hdp2 hlt hun hc hc256 h46 hdg hy hy9 hcy hz hn h48 hz1
                  go_wp2
                  go_roundw
                  case rel => exact ⟨j + 1, nd' + 1, nm', m', dp', dot', true, tr', rfl, rfl, by go_num, rfl, rfl, rfl, by go_num, rfl, rfl, HR.out, HLt.out, by have := HB.out; omega, by have := HB.out; omega, HB.out.2.2.2.1, HB.out.2.2.2.2.1, by have := HB.out; omega, by have := HB.out; omega, by first | rfl | trivial⟩
                  case measure => have := HLt.out; simp [intOf]; omega
                · have h48i : ((c : Int) == 48) = false := by simp; omega
                  have h48b : ((c : Int) != 48) = true := by simp; omega
                  rw [decide_eq_true (by omega), Bool.or_true] at hr
                  have HR := Hid_mk hr
                  clear hr hj hnm hnd hnm9 hm hdp1 hdp2 hlt hun hc hc256 h46 hdg hy hy9 hcy hz hn h48 hz1
                  go_wp2
                  go_roundw
                  case rel => exact ⟨j + 1, nd' + 1, nm', m', dp', dot', true, true, rfl, rfl, by go_num, rfl, rfl, rfl, by go_num, rfl, rfl, HR.out, HLt.out, by have := HB.out; omega, by have := HB.out; omega, HB.out.2.2.2.1, HB.out.2.2.2.2.1, by have := HB.out; omega, by have := HB.out; omega, by first | rfl | trivial⟩
                  case measure => have := HLt.out; simp [intOf]; omega
          · rw [if_neg hdg] at hr
            obtain ⟨rfl, rfl, rfl, rfl, rfl, rfl, rfl, rfl⟩ : j = i ∧ dot' = dot ∧ dg' = true ∧ nd' = nd ∧ nm' = nm ∧ dp' = dp ∧ m' = m ∧ tr' = tr := by simpa using hr
            have hd12 : ¬ (48 : Int) ≤ (c : Int) ∨ ((48 : Int) ≤ (c : Int) ∧ ¬ (c : Int) ≤ 57) := by omega
            clear hr hj hnm hnd hnm9 hm hdp1 hdp2 hlt hun hc hc256 h46 hdg
            rcases hd12 with hd1 | ⟨hd1, hd2⟩
            all_goals
              go_wp2
              go_meet
              case rel => exact ⟨rfl, rfl, rfl, rfl, rfl, rfl, rfl, rfl, rfl, rfl, HB.out.2.1, by have := HB.out; omega, by have := HB.out; omega, by have := HB.out; omega⟩
      · obtain rfl : j = l.length := by omega
        rw [Nat.sub_self, rdL] at hr
        obtain ⟨rfl, rfl, rfl, rfl, rfl, rfl, rfl, rfl⟩ : l.length = i ∧ dot' = dot ∧ dg' = true ∧ nd' = nd ∧ nm' = nm ∧ dp' = dp ∧ m' = m ∧ tr' = tr := by simpa using hr
        have hlti : ¬ (l.length : Int) < (l.length : Int) := by omega
        clear hr hj hnm hnd hnm9 hm hdp1 hdp2 hge
        go_wp2
        go_meet
        case rel => exact ⟨rfl, rfl, rfl, rfl, rfl, rfl, rfl, rfl, rfl, rfl, HB.out.2.1, by have := HB.out; omega, by have := HB.out; omega, by have := HB.out; omega⟩
  case rest =>
  obtain ⟨rfl, rfl, rfl, rfl, rfl, rfl, rfl, rfl, rfl, rfl, hnm, hnd, hdp1, hdp2⟩ := hcut
  have hil := HI.out
  obtain ⟨D, hD⟩ : ∃ D : Int, (if dot = true then dp else (nd : Int)) = D := ⟨_, rfl⟩
  have hDb : -1000000000000 ≤ D ∧ D ≤ 1000000000000 := by rw [← hD]; split <;> omega
  have hDb1 := hDb.1
  have hDb2 := hDb.2
  have HDe := Hid_mk hD
  have hnm0 : (0 : Int) ≤ (nm : Int) := Int.natCast_nonneg _
  have hnm12 : (nm : Int) ≤ 1000000000000 := by omega
  have hm0 : (0 : Int) ≤ (m : Int) := Int.natCast_nonneg _
  go_upto_if 142 with fail
  go_cut [17] from 143 to 143 (fun s17 wx => s17 = .int .i64 D ∧ wx = wc)
  case first =>
    rcases dot with _ | _
    · rw [if_neg (by simp)] at hD
      clear hDb
      go_wp2_with fail
      go_meet
      case rel => exact ⟨by rw [← hD], rfl⟩
    · rw [if_pos rfl] at hD
      clear hDb
      go_wp2_with fail
      go_meet
      case rel => exact ⟨by rw [← hD], rfl⟩
  case rest =>
  obtain ⟨rfl, rfl⟩ := hcut
  clear hDb hD hnd hdp1 hdp2
  have hili : (i : Int) < (l.length : Int) := by omega
  have his : i < (st l).size := by rw [hsz]; exact hil
  have hgi := bt_get l i his
  obtain ⟨ce, hce2⟩ : ∃ ce, bt l i = ce := ⟨_, rfl⟩
  rw [hce2] at hgi
  have HLw := Hid_mk (HLow.out (ce : Int) wc)
  have hx := HCe.out
  rw [hce2] at hx
  rw [hx] at HLw
  have hi0 : (0 : Int) ≤ (i : Int) := Int.natCast_nonneg _
  obtain ⟨J, hJ⟩ : ∃ J, signS l (i + 1) = J := ⟨_, rfl⟩
  have hJl := HJl.out
  have hJd := HJd.out
  rw [hJ] at hJl hJd
  have HEx2 := Hid_mk (show exL l (l.length - J) J 0 = (l.length, eF) by rw [← hJ]; exact HEx.out)
  have hJi : i + 1 ≤ J ∧ J ≤ i + 2 := by rw [← hJ]; unfold signS; split <;> omega
  have hi1 : (i : Int) + 1 < (l.length : Int) := by omega
  have his1 : i + 1 < (st l).size := by rw [hsz]; omega
  have hg1 := bt_get l (i + 1) his1
  obtain ⟨b3, hb3⟩ : ∃ b3, bt l (i + 1) = b3 := ⟨_, rfl⟩
  rw [hb3] at hg1
  obtain ⟨es, hes⟩ : ∃ es : Int, (if b3 = 45 then -1 else 1) = es := ⟨_, rfl⟩
  have HEs := Hid_mk hes
  have hlx : i + 1 < l.length := by omega
  have HJJ := Hid_mk hJ
  have HB3 := Hid_mk hb3
  have HJl2 := Hid_mk hJl
  have HJd2 := Hid_mk hJd
  have HJi := Hid_mk hJi
  clear hce2 hx hJ hJl hJd hJi hb3 hes hil
  go_wp2_with fail
  with_reducible refine HLw.out.mono ?_
  rintro e w1 ⟨rfl, rfl⟩
  go_upto_block 4 with fail
  go_cut [7, 19] from 171 to 178 (fun s7 s19 wx => s7 = .int .i64 (J : Int) ∧ s19 = .int .i64 es ∧ wx = w1)
  case first =>
    have hJ2 := HJJ.out
    have he2 := HEs.out
    unfold signS at hJ2
    rw [HB3.out] at hJ2
    by_cases h1 : b3 = 43
    · rw [if_pos ⟨hlx, .inl h1⟩] at hJ2
      rw [if_neg (by omega)] at he2
      have h1i : (b3 : Int) = 43 := by omega
      have h1b : ((b3 : Int) == 43) = true := by simp; omega
      have hJc : (J : Int) = (i : Int) + 1 + 1 := by omega
      have HJc := Hid_mk hJc
      have He2 := Hid_mk he2
      clear hJ2 he2 h1 hJc
      go_wp2_with fail
      go_meet
      case rel => exact ⟨by rw [HJc.out], by rw [← He2.out], rfl⟩
    · have h1i : ¬ (b3 : Int) = 43 := by omega
      have h1b : ((b3 : Int) == 43) = false := by simp; omega
      by_cases h2 : b3 = 45
      · rw [if_pos ⟨hlx, .inr h2⟩] at hJ2
        rw [if_pos h2] at he2
        have h2i : (b3 : Int) = 45 := by omega
        have h2b : ((b3 : Int) == 45) = true := by simp; omega
        have hJc : (J : Int) = (i : Int) + 1 + 1 := by omega
        have HJc := Hid_mk hJc
        have He2 := Hid_mk he2
        clear hJ2 he2 h1 h2 hJc
        go_wp2_with fail
        go_meet
        case rel => exact ⟨by rw [HJc.out], by rw [← He2.out], rfl⟩
      · rw [if_neg (by rintro ⟨-, h | h⟩; exact h1 h; exact h2 h)] at hJ2
        rw [if_neg h2] at he2
        have h2i : ¬ (b3 : Int) = 45 := by omega
        have h2b : ((b3 : Int) == 45) = false := by simp; omega
        have hJc : (J : Int) = (i : Int) + 1 := by omega
        have HJc := Hid_mk hJc
        have He2 := Hid_mk he2
        clear hJ2 he2 h1 h2 hJc
        go_wp2_with fail
        go_meet
        case rel => exact ⟨by rw [HJc.out], by rw [← He2.out], rfl⟩
  case rest =>
  obtain ⟨rfl, rfl, rfl⟩ := hcut
  have hJ0 : (0 : Int) ≤ (J : Int) := Int.natCast_nonneg _
  have hJli : (J : Int) < (l.length : Int) := by have := HJl2.out; omega
  have hJli2 : ¬ (l.length : Int) ≤ (J : Int) := by omega
  have hJs : J < (st l).size := by rw [hsz]; exact HJl2.out
  have hgJ := bt_get l J hJs
  obtain ⟨c4, hc4⟩ : ∃ c4, bt l J = c4 := ⟨_, rfl⟩
  have hd4 := HJd2.out
  rw [hc4] at hgJ hd4
  have hd4a : ¬ (c4 : Int) < 48 := by omega
  have hd4b : ¬ (57 : Int) < (c4 : Int) := by omega
  clear hc4 hd4 hgi his hg1 his1
  go_wp2_with fail
  go_loopw [7, 9, 20] (fun a7 a9 a20 wr => ∃ j e : Nat, a7 = .int .i64 (j : Int) ∧ a9 = .bool false ∧ a20 = .int .i64 (e : Int) ∧ j ≤ l.length ∧ e < 100000 ∧ exL l (l.length - j) j e = (l.length, eF) ∧ wr = wc) (fun a7 _ _ _ => l.length - (intOf a7).toNat)
  case atStart => exact ⟨J, 0, rfl, rfl, rfl, Nat.le_of_lt HJl2.out, by omega, HEx2.out, rfl⟩
  case round =>
    obtain ⟨j, e, rfl, rfl, rfl, hj, he, hx, rfl⟩ := hrel
    have hj0 : (0 : Int) ≤ (j : Int) := Int.natCast_nonneg _
    have he0 : (0 : Int) ≤ (e : Int) := Int.natCast_nonneg _
    have hei : (e : Int) < 100000 := by omega
    have hjl12 : (j : Int) ≤ 1000000000000 := by omega
    rcases Nat.lt_or_ge j l.length with hlt | hge
    · have hlti : (j : Int) < (l.length : Int) := by omega
      have hjs : j < (st l).size := by rw [hsz]; exact hlt
      have hg := bt_get l j hjs
      have hun := HUn.out j hlt
      rw [show l.length - j = (l.length - (j + 1)) + 1 by omega, exL] at hx
      obtain ⟨c, hc⟩ : ∃ c, bt l j = c := ⟨_, rfl⟩
      rw [hc] at hg hx hun
      by_cases hdg : 48 ≤ c ∧ c ≤ 57
      · rw [if_pos hdg] at hx
        have hd1 : (48 : Int) ≤ (c : Int) := by omega
        have hd2 : (c : Int) ≤ 57 := by omega
        have hun1 : ((c : Int) == 95) = false := by simp; omega
        have HLt := Hid_mk hlt
        by_cases h10 : e < 10000
        · rw [if_pos h10] at hx
          have h10i : (e : Int) < 10000 := by omega
          have hce : ((e * 10 + (c - 48) : Nat) : Int) = (e : Int) * 10 + (c : Int) - 48 := by omega
          have HX := Hid_mk hx
          have HCe2 := Hid_mk hce
          have HD := Hid_mk (show e * 10 + (c - 48) < 100000 by omega)
          clear hx hj he hlt hun hc hdg h10 hce hJs hgJ
          go_wp2
          go_roundw
          case rel => exact ⟨j + 1, e * 10 + (c - 48), by go_num, rfl, by rw [HCe2.out], HLt.out, HD.out, HX.out, by first | rfl | trivial⟩
          case measure => have := HLt.out; simp [intOf]; omega
        · rw [if_neg h10] at hx
          have h10i : ¬ (e : Int) < 10000 := by omega
          have HX := Hid_mk hx
          have HD := Hid_mk he
          clear hx hj he hlt hun hc hdg h10 hJs hgJ
          go_wp2
          go_roundw
          case rel => exact ⟨j + 1, e, by go_num, rfl, rfl, HLt.out, HD.out, HX.out, by first | rfl | trivial⟩
          case measure => have := HLt.out; simp [intOf]; omega
      · rw [if_neg hdg] at hx
        exfalso
        have := (Prod.mk.inj hx).1
        omega
    · obtain rfl : j = l.length := by omega
      rw [Nat.sub_self, exL] at hx
      obtain rfl : e = eF := (Prod.mk.inj hx).2
      have hlti : ¬ (l.length : Int) < (l.length : Int) := by omega
      have hesb : es = 1 ∨ es = -1 := by rw [← HEs.out]; split; exact .inr rfl; exact .inl rfl
      have hep : -100000 ≤ (e : Int) * es ∧ (e : Int) * es ≤ 100000 := by rcases hesb with h | h <;> rw [h] <;> omega
      obtain ⟨T, hT⟩ : ∃ T, (e : Int) * es = T := ⟨_, rfl⟩
      rw [hT] at hep
      have hep1 := hep.1
      have hep2 := hep.2
      have HXp : Hid (xpS l i e = T) := Hid_mk (by unfold xpS; rw [HB3.out, HEs.out, hT])
      clear hx hj he hge hesb hep hJs hgJ
      by_cases hmz : m = 0
      · subst hmz
        have hz1 : ((0 : Int) != 0) = false := rfl
        go_wp2
        refine bodyPost_ret (v := .tuple #[.int .u64 ((0 : Nat) : Int), .int .i64 (expR dot nd nm 0 dp (xpS l i e)), .bool N, .bool tr, .bool false, .int .i64 (l.length : Int), .bool true]) ?_ rfl ⟨rfl, rfl⟩
        unfold expR
        rw [if_pos rfl]
        simp [results, Tryz.results86, go_sem]
      · have hmb : ((m : Int) != 0) = true := by simp; omega
        have hmp : 0 < m := by omega
        have hmi : ¬ (m : Int) = 0 := by omega
        have HMz := Hid_mk hmz
        clear hmz
        go_wp2
        refine bodyPost_ret (v := .tuple #[.int .u64 (m : Int), .int .i64 (expR dot nd nm m dp (xpS l i e)), .bool N, .bool tr, .bool false, .int .i64 (l.length : Int), .bool true]) ?_ rfl ⟨rfl, rfl⟩
        unfold expR
        rw [if_neg HMz.out, HDe.out, HXp.out]
        simp [results, Tryz.results86, go_sem]

end Go.Proofs.YtgnddabdjjkgiaaGreatDoor.rd

namespace Go.Proofs.YtgnddabdjjkgiaaGreatDoor.fmtf
open Go.RowKit Go.Proofs.YtgnddabdjjkgiaaGreatDoor.sum Go.Proofs.YtgnddabdjjkgiaaGreatDoor.kept
set_option linter.unusedVariables false

/-- what the first cells are as a number -/
def valF (f : Nat → Nat) : Nat → Nat
  | 0 => 0
  | k + 1 => 10 * valF f k + (f k - 48)
def DgF (f : Nat → Nat) (n : Nat) : Prop := ∀ i, i < n → 48 ≤ f i ∧ f i ≤ 57
theorem valF_lt {f : Nat → Nat} : ∀ {n : Nat}, DgF f n → valF f n < 10 ^ n
  | 0, _ => by rw [valF]; decide
  | n + 1, h => by
    have h1 := valF_lt (n := n) fun i hi => h i (by omega)
    have h2 := h n (by omega)
    rw [valF, Nat.pow_succ]
    omega
theorem val_dig {f : Nat → Nat} {n : Nat} (h : DgF f n) : ∀ {r : Nat}, r < n → valF f n / 10 ^ (n - 1 - r) % 10 = f r - 48 := by
  induction n with
  | zero => intro r hr; omega
  | succ n ih =>
    intro r hr
    have h2 := h n (by omega)
    rcases Nat.lt_or_ge r n with hl | hl
    · have e : n + 1 - 1 - r = (n - 1 - r) + 1 := by omega
      rw [e, Nat.pow_succ, Nat.mul_comm, ← Nat.div_div_eq_div_mul, valF, show (10 * valF f n + (f n - 48)) / 10 = valF f n by omega]
      exact ih (fun i hi => h i (by omega)) hl
    · obtain rfl : r = n := by omega
      rw [show r + 1 - 1 - r = 0 by omega, Nat.pow_zero, Nat.div_one, valF]
      omega
theorem val_of_dgt {f : Nat → Nat} {n P : Nat} (hf : ∀ i, i < n → f i = dgt P n i) (hP : P < 10 ^ n) : ∀ k, k ≤ n → valF f k = P / 10 ^ (n - k)
  | 0, _ => by rw [valF, Nat.sub_zero, Nat.div_eq_of_lt hP]
  | k + 1, hk => by
    rw [valF, hf k (by omega), val_of_dgt hf hP k (by omega)]
    unfold dgt
    rw [show n - k = (n - 1 - k) + 1 by omega, show n - (k + 1) = n - 1 - k by omega, Nat.pow_succ, ← Nat.div_div_eq_div_mul]
    omega
/-- what is carried, t digits from the right being done -/
def carN (V k t : Nat) : Nat := V % 10 ^ t * 2 ^ k / 10 ^ t
theorem car_zero (V k : Nat) : carN V k 0 = 0 := by unfold carN; rw [Nat.pow_zero, Nat.mod_one, Nat.zero_mul]
theorem car_lt (V k t : Nat) : carN V k t < 2 ^ k := by
  unfold carN
  have hp : 0 < 10 ^ t := Nat.pow_pos (by omega)
  rw [Nat.div_lt_iff_lt_mul hp, Nat.mul_comm (2 ^ k)]
  exact Nat.mul_lt_mul_of_pos_right (Nat.mod_lt _ hp) (Nat.pow_pos (by omega))
theorem car_step (V k t : Nat) : carN V k t + V / 10 ^ t % 10 * 2 ^ k = V % 10 ^ (t + 1) * 2 ^ k / 10 ^ t := by
  unfold carN
  have hp : 0 < 10 ^ t := Nat.pow_pos (by omega)
  have e : V % 10 ^ (t + 1) = V % 10 ^ t + 10 ^ t * (V / 10 ^ t % 10) := by rw [Nat.pow_succ, Nat.mod_mul]
  rw [e, Nat.add_mul, Nat.mul_assoc, Nat.add_mul_div_left _ _ hp]
theorem car_quo (V k t : Nat) : (carN V k t + V / 10 ^ t % 10 * 2 ^ k) / 10 = carN V k (t + 1) := by
  rw [car_step, Nat.div_div_eq_div_mul, ← Nat.pow_succ]
  rfl
theorem car_rem (V k t : Nat) : (carN V k t + V / 10 ^ t % 10 * 2 ^ k) % 10 = V * 2 ^ k / 10 ^ t % 10 := by
  rw [car_step]
  have hp : 0 < 10 ^ t := Nat.pow_pos (by omega)
  have e : V = V % 10 ^ (t + 1) + 10 ^ t * (10 * (V / 10 ^ (t + 1))) := by
    have := Nat.mod_add_div V (10 ^ (t + 1))
    rw [← Nat.mul_assoc, ← Nat.pow_succ]
    exact this.symm
  conv => rhs; rw [e, Nat.add_mul, Nat.mul_assoc, Nat.add_mul_div_left _ _ hp, Nat.mul_assoc, Nat.add_mul_mod_self_left]
theorem car_end {V n : Nat} (k : Nat) (h : V < 10 ^ n) : carN V k n = V * 2 ^ k / 10 ^ n := by unfold carN; rw [Nat.mod_eq_of_lt h]
/-- how many decimal digits -/
def dlF : Nat → Nat → Nat
  | 0, _ => 0
  | f + 1, v => if v = 0 then 0 else dlF f (v / 10) + 1
def dlen (v : Nat) : Nat := dlF (v + 1) v
theorem dlF_is : ∀ (f v : Nat), v < f → (v < 10 ^ dlF f v ∧ (0 < v → 10 ^ (dlF f v - 1) ≤ v ∧ 0 < dlF f v))
  | 0, v, h => by omega
  | f + 1, v, h => by
    rw [dlF]
    split
    · rename_i e; subst e; exact ⟨by decide, fun h => absurd h (by omega)⟩
    · rename_i e
      obtain ⟨h1, h2⟩ := dlF_is f (v / 10) (by omega)
      refine ⟨by rw [Nat.pow_succ]; omega, fun _ => ⟨?_, by omega⟩⟩
      rw [Nat.add_sub_cancel]
      rcases Nat.eq_zero_or_pos (v / 10) with e0 | e0
      · have : dlF f (v / 10) = 0 := by rw [e0]; cases f with | zero => rfl | succ f => rw [dlF, if_pos rfl]
        rw [this]; omega
      · obtain ⟨h3, h4⟩ := h2 e0
        rw [show dlF f (v / 10) = (dlF f (v / 10) - 1) + 1 by omega, Nat.pow_succ]
        omega
theorem dlen_lt (v : Nat) : v < 10 ^ dlen v := (dlF_is (v + 1) v (by omega)).1
theorem dlen_ge {v : Nat} (h : 0 < v) : 10 ^ (dlen v - 1) ≤ v ∧ 0 < dlen v := (dlF_is (v + 1) v (by omega)).2 h
theorem dlen_uniq {v n : Nat} (h1 : v < 10 ^ n) (h2 : 10 ^ (n - 1) ≤ v) (h3 : 0 < n) : dlen v = n := by
  have hv : 0 < v := Nat.lt_of_lt_of_le (Nat.pow_pos (by omega)) h2
  obtain ⟨a, b⟩ := dlen_ge hv
  have c := dlen_lt v
  rcases Nat.lt_trichotomy (dlen v) n with h | h | h
  · have := Nat.pow_le_pow_right (show 0 < 10 by omega) (show dlen v ≤ n - 1 by omega)
    omega
  · exact h
  · have := Nat.pow_le_pow_right (show 0 < 10 by omega) (show n ≤ dlen v - 1 by omega)
    omega
theorem dlen_mul {v : Nat} (h : 0 < v) (z : Nat) : dlen (v * 10 ^ z) = dlen v + z := by
  obtain ⟨a, b⟩ := dlen_ge h
  refine dlen_uniq ?_ ?_ (by omega)
  · rw [Nat.pow_add]
    exact Nat.mul_lt_mul_of_pos_right (dlen_lt v) (Nat.pow_pos (by omega))
  · rw [show dlen v + z - 1 = (dlen v - 1) + z by omega, Nat.pow_add]
    exact Nat.mul_le_mul_right _ a
theorem dgt_mul (P n z i : Nat) (h : i < n) : dgt (P * 10 ^ z) (n + z) i = dgt P n i := by
  unfold dgt
  rw [show n + z - 1 - i = z + (n - 1 - i) by omega, Nat.pow_add, ← Nat.div_div_eq_div_mul, Nat.mul_div_cancel _ (Nat.pow_pos (by omega))]
theorem dgt_tail (P n z i : Nat) (h1 : n ≤ i) (h2 : i < n + z) : dgt (P * 10 ^ z) (n + z) i = 48 := by
  unfold dgt
  obtain ⟨y, hy⟩ : ∃ y, z = (n + z - 1 - i) + (y + 1) := ⟨z - (n + z - 1 - i) - 1, by omega⟩
  have : P * 10 ^ z / 10 ^ (n + z - 1 - i) = P * 10 ^ (y + 1) := by
    conv => lhs; arg 1; rw [hy, Nat.pow_add, Nat.mul_comm (10 ^ (n + z - 1 - i)), ← Nat.mul_assoc]
    exact Nat.mul_div_cancel _ (Nat.pow_pos (by omega))
  rw [this, Nat.pow_succ, ← Nat.mul_assoc, Nat.mul_mod_left]
theorem trim_congr {f g : Nat → Nat} : ∀ {n : Nat}, (∀ i, i < n → f i = g i) → trimN f n = trimN g n
  | 0, _ => rfl
  | n + 1, h => by rw [trimN, trimN, h n (by omega), trim_congr fun i hi => h i (by omega)]
theorem trim_tail {f : Nat → Nat} {n : Nat} : ∀ {z : Nat}, (∀ i, n ≤ i → i < n + z → f i = 48) → trimN f (n + z) = trimN f n
  | 0, _ => rfl
  | z + 1, h => by
    show trimN f (n + z + 1) = _
    rw [trimN, if_pos (h _ (by omega) (by omega)), trim_tail fun i h1 h2 => h i h1 (by omega)]
theorem trim_zeros {f : Nat → Nat} : ∀ {n i : Nat}, trimN f n ≤ i → i < n → f i = 48
  | 0, i, _, h => by omega
  | n + 1, i, h1, h2 => by
    rw [trimN] at h1
    split at h1
    · rename_i e
      rcases Nat.lt_or_ge i n with hl | hl
      · exact trim_zeros h1 hl
      · obtain rfl : i = n := by omega
        exact e
    · omega
theorem trim_pos {f : Nat → Nat} {n : Nat} (h : 0 < n) (h0 : f 0 ≠ 48) : 0 < trimN f n := by
  rcases Nat.eq_zero_or_pos (trimN f n) with e | e
  · exact absurd (trim_zeros (n := n) (i := 0) (by omega) h) h0
  · exact e
/-- without the noughts behind it -/
theorem val_trim {f : Nat → Nat} : ∀ (n z : Nat), (∀ i, n ≤ i → i < n + z → f i = 48) → valF f (n + z) = valF f n * 10 ^ z
  | n, 0, _ => by simp
  | n, z + 1, h => by
    show valF f (n + z + 1) = _
    rw [valF, h _ (by omega) (by omega), val_trim n z fun i h1 h2 => h i h1 (by omega), Nat.pow_succ, Nat.sub_self, Nat.add_zero, Nat.mul_comm 10, Nat.mul_assoc]

end Go.Proofs.YtgnddabdjjkgiaaGreatDoor.fmtf

namespace Go.Proofs.YtgnddabdjjkgiaaGreatDoor.fmtf
open Go.RowKit Go.Proofs.YtgnddabdjjkgiaaGreatDoor.sum Go.Proofs.YtgnddabdjjkgiaaGreatDoor.kept
set_option linter.unusedVariables false

/-- a decimal: its cells, how many count, where the point stands, its sign, whether something was left out -/
structure DecAt (w : World) (q : Nat) (f : Nat → Nat) (nd : Nat) (dp : Int) (ng tr : Bool) : Prop where
  buf : BufAt w q 0 800 f
  c0 : w.cell? ⟨q, 800, none⟩ = some (.int .i64 (nd : Int))
  c1 : w.cell? ⟨q, 801, none⟩ = some (.int .i64 dp)
  c2 : w.cell? ⟨q, 802, none⟩ = some (.bool ng)
  c3 : w.cell? ⟨q, 803, none⟩ = some (.bool tr)
variable {w : World} {q : Nat} {f : Nat → Nat} {nd : Nat} {dp : Int} {ng tr : Bool}
theorem DecAt.at (h : DecAt w q f nd dp ng tr) (i : Nat) (hi : i < 800) : w.cell? ⟨q, i, none⟩ = some (.int .u8 (f i : Int)) := by
  have := h.buf.cell i hi
  rwa [Nat.zero_add] at this
theorem DecAt.warm (h : DecAt w q f nd dp ng tr) (i : Nat) : w.frozen? ⟨q, i, none⟩ = false := h.buf.warm i
theorem ne_addr {q i j : Nat} (h : i ≠ j) : (⟨q, i, none⟩ : Addr) ≠ ⟨q, j, none⟩ := by intro e; injection e with _ e; exact h e
theorem cell_set {w : World} {q i : Nat} {v x : Value} (h : w.cell? ⟨q, i, none⟩ = some x) : (w.setCell ⟨q, i, none⟩ v).cell? ⟨q, i, none⟩ = some v := World.cell?_setCell_same _ _ _ h
theorem cell_oth {w : World} {q i j : Nat} {v x : Value} (h : w.cell? ⟨q, j, none⟩ = some x) (hij : j ≠ i) : (w.setCell ⟨q, i, none⟩ v).cell? ⟨q, j, none⟩ = some x := by
  rw [World.cell?_setCell_other _ _ _ _ (ne_addr (Ne.symm hij))]
  exact h
theorem warm_set {w : World} {q i : Nat} {v : Value} (h : ∀ i, w.frozen? ⟨q, i, none⟩ = false) : ∀ j, (w.setCell ⟨q, i, none⟩ v).frozen? ⟨q, j, none⟩ = false := fun j => by simp only [World.frozen?_setCell]; exact h j
theorem DecAt.setD (h : DecAt w q f nd dp ng tr) (i v : Nat) (hi : i < 800) : DecAt (w.setCell ⟨q, i, none⟩ (.int .u8 (v : Int))) q (upd f i v) nd dp ng tr := by
  have hb := h.buf.set i v
  rw [Nat.zero_add] at hb
  exact ⟨hb, cell_oth h.c0 (by omega), cell_oth h.c1 (by omega), cell_oth h.c2 (by omega), cell_oth h.c3 (by omega)⟩
theorem buf_oth {w : World} {q i : Nat} {f : Nat → Nat} {v : Value} (h : BufAt w q 0 800 f) (hi : 800 ≤ i) : BufAt (w.setCell ⟨q, i, none⟩ v) q 0 800 f :=
  ⟨fun j hj => cell_oth (h.cell j hj) (by omega), warm_set h.warm⟩
theorem DecAt.setNd (h : DecAt w q f nd dp ng tr) (m : Nat) : DecAt (w.setCell ⟨q, 800, none⟩ (.int .i64 (m : Int))) q f m dp ng tr :=
  ⟨buf_oth h.buf (by omega), cell_set h.c0, cell_oth h.c1 (by omega), cell_oth h.c2 (by omega), cell_oth h.c3 (by omega)⟩
theorem DecAt.setDp (h : DecAt w q f nd dp ng tr) (m : Int) : DecAt (w.setCell ⟨q, 801, none⟩ (.int .i64 m)) q f nd m ng tr :=
  ⟨buf_oth h.buf (by omega), cell_oth h.c0 (by omega), cell_set h.c1, cell_oth h.c2 (by omega), cell_oth h.c3 (by omega)⟩
theorem DecAt.setTr (h : DecAt w q f nd dp ng tr) (b : Bool) : DecAt (w.setCell ⟨q, 803, none⟩ (.bool b)) q f nd dp ng b :=
  ⟨buf_oth h.buf (by omega), cell_oth h.c0 (by omega), cell_oth h.c1 (by omega), cell_oth h.c2 (by omega), cell_set h.c3⟩
theorem DecAt.drew (h : DecAt w q f nd dp ng tr) : DecAt w.drew q f nd dp ng tr :=
  have k := (Kp.refl No w).drew
  ⟨h.buf.drew, k.cell' h.c0 id, k.cell' h.c1 id, k.cell' h.c2 id, k.cell' h.c3 id⟩
theorem DecAt.drewN (h : DecAt w q f nd dp ng tr) (n : Nat) : DecAt (w.drewN n) q f nd dp ng tr :=
  have k := (Kp.refl No w).drewN n
  ⟨⟨fun i hi => k.cell' (h.buf.cell i hi) id, fun i => by have := h.buf.warm i; simpa using this⟩, k.cell' h.c0 id, k.cell' h.c1 id, k.cell' h.c2 id, k.cell' h.c3 id⟩
theorem DecAt.no {w' : World} {S : Nat → Prop} (h : DecAt w q f nd dp ng tr) (hk : Kp S w w') (hq : q < w.heap.size) (hS : ¬ S q) : DecAt w' q f nd dp ng tr :=
  ⟨⟨fun i hi => hk.cell' (h.buf.cell i hi) hS, fun i => (hk.frozen (p := ⟨q, i, none⟩) hq hS).trans (h.buf.warm i)⟩, hk.cell' h.c0 hS, hk.cell' h.c1 hS, hk.cell' h.c2 hS, hk.cell' h.c3 hS⟩
/-- how many count, read from memory -/
def ndOf (w : World) (q : Nat) : Nat := match w.cell? ⟨q, 800, none⟩ with
  | some (.int _ z) => z.toNat
  | _ => 0
theorem DecAt.ndIs (h : DecAt w q f nd dp ng tr) : ndOf w q = nd := by unfold ndOf; rw [h.c0]; simp
theorem kq_set {a w : World} {q i : Nat} {v : Value} (h : Kp (fun b => b = q) a w) : Kp (fun b => b = q) a (w.setCell ⟨q, i, none⟩ v) := h.setCell (p := ⟨q, i, none⟩) (fun _ => rfl) _
theorem buf_else {w : World} {q i g o n : Nat} {f : Nat → Nat} {v : Value} (h : BufAt w g o n f) (hg : g ≠ q) : BufAt (w.setCell ⟨q, i, none⟩ v) g o n f :=
  ⟨fun j hj => by rw [World.cell?_setCell_other _ _ _ _ (by intro e; injection e with e _; exact hg e.symm)]; exact h.cell j hj, fun j => by simp only [World.frozen?_setCell]; exact h.warm j⟩
/-- what a call of a decimal leaves -/
def DcPost (q : Nat) (w : World) (f : Nat → Nat) (nd : Nat) (dp : Int) (ng tr : Bool) (e : Ending) (w' : World) : Prop := e = .returned (.tuple #[]) ∧ Kp (fun b => b = q) w w' ∧ DecAt w' q f nd dp ng tr

set_option maxRecDepth 100000 in
set_option maxHeartbeats 4000000 in
theorem trim_any (w : World) (q : Nat) (f : Nat → Nat) (nd : Nat) (dp : Int) (ng tr : Bool) (h : DecAt w q f nd dp ng tr) (hnd : nd ≤ 800) :
    Calls Tryz.prog 115 #[.pointer (some ⟨q, 0, none⟩)] w (DcPost q w f (trimN f nd) (if trimN f nd = 0 then 0 else dp) ng tr) := by
  obtain ⟨R, hR⟩ : ∃ R, trimN f nd = R := ⟨_, rfl⟩
  obtain ⟨D, hD⟩ : ∃ D : Int, (if trimN f nd = 0 then 0 else dp) = D := ⟨_, rfl⟩
  rw [hD, hR]
  rw [hR] at hD
  have HD := Hid_mk hD
  have HR := Hid_mk hR
  have HH := Hid_mk h
  have HN := Hid_mk hnd
  clear hR hD h hnd
  go_enter Tryz.func115, Tryz.ntmps115
  go_wp2_with fail
  go_loopw [2] (fun _ wr => ∃ k : Nat, k ≤ nd ∧ trimN f k = R ∧ DecAt wr q f k dp ng tr ∧ Kp (fun b => b = q) w wr) (fun _ wr => ndOf wr q)
  case atStart => exact ⟨nd, Nat.le_refl _, HR.out, HH.out, Kp.refl _ _⟩
  case round =>
    obtain ⟨k, hk, ht, hd, hkp⟩ := hrel
    have HKd := Hid_mk hd
    have HKp := Hid_mk hkp
    have HT := Hid_mk ht
    have HKn := Hid_mk hk
    have hk0 : (0 : Int) ≤ (k : Int) := Int.natCast_nonneg _
    have hk8 : (k : Int) ≤ 800 := by have := HN.out; omega
    have c0 := hd.c0
    have hqs : q < wr.heap.size := World.block_lt_of_cell? wr _ hd.c0
    have cw := hd.warm
    have hm := hd.ndIs
    have HM := Hid_mk hm
    rcases k with _ | k
    · have hz : ¬ (0 : Int) < 0 := by omega
      have ht0 : R = 0 := ht.symm
      have c1 := hd.c1
      have hD0 : D = 0 := by rw [← HD.out, if_pos ht0]
      have HT0 := Hid_mk ht0
      have HD0 := Hid_mk hD0
      clear ht hk ht0 hD0 hd hkp hm
      rw [show ((0 : Nat) : Int) = 0 from rfl] at c0
      go_wp2_with fail
      go_quiet (fail)
      go_wp2
      go_end0
      exact ⟨rfl, (HKp.out.drewN nq).setCell (p := ⟨q, 801, none⟩) (fun _ => rfl) _, by rw [HT0.out, HD0.out]; exact (HKd.out.drewN nq).setDp 0⟩
    · have hpos : (0 : Int) < ((k + 1 : Nat) : Int) := by omega
      have hsub : ((k + 1 : Nat) : Int) - 1 = (k : Int) := by omega
      have hlt8 : (k : Int) < 800 := by omega
      have cd := hd.at k (by omega)
      obtain ⟨y, hy⟩ : ∃ y, f k = y := ⟨_, rfl⟩
      rw [hy] at cd
      have ht2 := ht
      rw [trimN, hy] at ht2
      by_cases h48 : y = 48
      · rw [if_pos h48] at ht2
        have h48i : (y : Int) = 48 := by omega
        have HT2 := Hid_mk ht2
        clear ht hk ht2 hy h48 hd hkp hm
        go_wp2_with fail
        go_quiet (fail)
        go_wp2
        go_roundw
        case rel => exact ⟨k, by have := HKn.out; omega, HT2.out, (HKd.out.drewN nq).setNd k, (HKp.out.drewN nq).setCell (p := ⟨q, 800, none⟩) (fun _ => rfl) _⟩
        case measure => rw [((HKd.out.drewN nq).setNd k).ndIs, HM.out]; omega
      · rw [if_neg h48] at ht2
        have h48i : ((y : Int) == 48) = false := by simp; omega
        have hne : ¬ ((k + 1 : Nat) : Int) = 0 := by omega
        have hD1 : D = dp := by rw [← HD.out, if_neg (by omega)]
        have HT2 := Hid_mk ht2
        have HD1 := Hid_mk hD1
        clear ht hk ht2 hy h48 hd hkp hm hD1
        go_wp2_with fail
        go_quiet (fail)
        go_wp2
        go_end0
        exact ⟨rfl, HKp.out.drewN nq, by rw [← HT2.out, HD1.out]; exact HKd.out.drewN nq⟩

end Go.Proofs.YtgnddabdjjkgiaaGreatDoor.fmtf
