/- internal/strconv.readFloat of decimal numerals. internal/strconv: special of a numeral is none; atof64exact. strconv.ParseFloat of a numeral that is exact. internal/strconv.atof64exact: whole numbers; a closed one. -/
import Derived.Test.YtgnddabdjjkgiaaGreatDoorDecM
import Derived.Test.YtgnddabdjjkgiaaGreatDoorFmtBase
import Derived.Test.YtgnddabdjjkgiaaGreatDoorShelf
import Derived.Deep.CutRange
import Derived.Deep.CutBlock
import Derived.ScopeJumps
import Derived.Scope
import Derived.WalkMore
import Derived.Test.YtgnddabdjjkgiaaGreatDoorRow0M
import Derived.Test.YtgnddabdjjkgiaaGreatDoorFmtScale
import Derived.Test.YtgnddabdjjkgiaaGreatDoorPfLdM

namespace Go.Proofs.YtgnddabdjjkgiaaGreatDoor.rd
open Go.RowKit Go.Proofs.YtgnddabdjjkgiaaGreatDoor.sum Go.Proofs.YtgnddabdjjkgiaaGreatDoor.kept Go.Proofs.YtgnddabdjjkgiaaGreatDoor.str Go.Proofs.YtgnddabdjjkgiaaGreatDoor.nums Go.Proofs.YtgnddabdjjkgiaaGreatDoor.fmtf
set_option linter.unusedVariables false

/-- the digits and the point: place, point seen, digits seen, how many count, how many are taken, the point's place, the number, something left out -/
def rdL (l : List UInt8) : Nat → Nat → Bool → Bool → Nat → Nat → Int → Nat → Bool → Nat × Bool × Bool × Nat × Nat × Int × Nat × Bool
  | 0, i, dot, dg, nd, nm, dp, m, tr => (i, dot, dg, nd, nm, dp, m, tr)
  | f + 1, i, dot, dg, nd, nm, dp, m, tr =>
    if bt l i = 46 then (if dot = true then (i, dot, dg, nd, nm, dp, m, tr) else rdL l f (i + 1) true dg nd nm (nd : Int) m tr)
    else if 48 ≤ bt l i ∧ bt l i ≤ 57 then
      if bt l i = 48 ∧ nd = 0 then rdL l f (i + 1) dot true nd nm (dp - 1) m tr
      else if nm < 19 then rdL l f (i + 1) dot true (nd + 1) (nm + 1) dp (m * 10 + (bt l i - 48)) tr
      else rdL l f (i + 1) dot true (nd + 1) nm dp m (tr || decide (bt l i ≠ 48))
    else (i, dot, dg, nd, nm, dp, m, tr)
/-- the exponent's digits -/
def exL (l : List UInt8) : Nat → Nat → Nat → Nat × Nat
  | 0, i, e => (i, e)
  | f + 1, i, e => if 48 ≤ bt l i ∧ bt l i ≤ 57 then exL l f (i + 1) (if e < 10000 then e * 10 + (bt l i - 48) else e) else (i, e)
def negS (l : List UInt8) : Bool := decide (0 < l.length) && decide (bt l 0 = 45)
/-- no underscore, no hexadecimal -/
structure Deci (l : List UInt8) : Prop where
  un : ∀ i, i < l.length → bt l i ≠ 95
  hx : ¬ (signS l 0 + 2 < l.length ∧ bt l (signS l 0) = 48 ∧ bits .or .u8 (bt l (signS l 0 + 1) : Int) 32 = 120)
def expR (dot : Bool) (nd nm m : Nat) (dp x : Int) : Int := if m = 0 then 0 else (if dot = true then dp else (nd : Int)) + x - (nm : Int)

set_option maxRecDepth 100000 in
set_option maxHeartbeats 16000000 in
theorem read_plain (w : World) (l : List UInt8) (hl : l.length ≤ 1000000000000) (hl0 : signS l 0 < l.length) (hd : Deci l) (i nd nm m : Nat) (dp : Int) (dot tr : Bool)
    (hr : rdL l (l.length - signS l 0) (signS l 0) false false 0 0 0 0 false = (i, dot, true, nd, nm, dp, m, tr)) (hi : i = l.length) :
    Calls Tryz.prog 86 #[.string (st l)] w fun e w' => e = .returned (.tuple #[.int .u64 (m : Int), .int .i64 (expR dot nd nm m dp 0), .bool (negS l), .bool tr, .bool false, .int .i64 (l.length : Int), .bool true]) ∧ w = w' := by
  have hsz := st_size l
  have HL := Hid_mk hl
  have HUn := Hid_mk hd.un
  have HHx := Hid_mk hd.hx
  have HRd := Hid_mk hr
  have HI := Hid_mk hi
  obtain ⟨S, hS⟩ : ∃ S, signS l 0 = S := ⟨_, rfl⟩
  have HS := Hid_mk hS
  obtain ⟨N, hN⟩ : ∃ N, negS l = N := ⟨_, rfl⟩
  have HN := Hid_mk hN
  rw [hN]
  rw [hS] at hl0 HHx HRd
  have HL0 := Hid_mk hl0
  have hlen1 : (0 : Int) < (l.length : Int) := by omega
  have hlen2 : (l.length : Int) ≤ 1000000000000 := by omega
  have hS1 : S ≤ 1 := by rw [← hS]; unfold signS; split <;> omega
  have hz0 : 0 < (st l).size := by rw [hsz]; omega
  have hg0 := bt_get l 0 hz0
  have hlpos : 0 < l.length := by omega
  have hne : ¬ l = [] := by intro e; rw [e] at hlpos; simp at hlpos
  obtain ⟨b0, hb0⟩ : ∃ b0, bt l 0 = b0 := ⟨_, rfl⟩
  rw [hb0] at hg0
  have HB0 := Hid_mk hb0
  have HLow := Hid_mk fun (c : Int) W => Go.Proofs.Tryz.internal_strconv_lower c W
  clear hl hd hr hi hS hN hb0
  go_enter Tryz.func86, Tryz.ntmps86
  go_wp2_with fail
  refine wp_scope_straight ?_
  go_upto_block 0 with fail
  go_cut [4, 7] from 28 to 35 (fun s4 s7 wc => s4 = .bool N ∧ s7 = .int .i64 (S : Int) ∧ wc = w)
  case first =>
    have hb0 := HB0.out
    have hS2 := HS.out
    have hN2 := HN.out
    unfold signS at hS2
    unfold negS at hN2
    rw [hb0, decide_eq_true hlpos] at hN2
    rw [hb0] at hS2
    by_cases h1 : b0 = 43
    · rw [if_pos ⟨hlpos, .inl h1⟩] at hS2
      have h1i : (b0 : Int) = 43 := by omega
      have h1b : ((b0 : Int) == 43) = true := by simp; omega
      have hn : N = false := by rw [← hN2, h1]; rfl
      have hs : S = 1 := hS2.symm
      subst hn hs
      clear hS2 hN2 h1 hb0
      go_wp2_with fail
      go_meet
      case rel => exact ⟨rfl, rfl, rfl⟩
    · have h1i : ¬ (b0 : Int) = 43 := by omega
      have h1b : ((b0 : Int) == 43) = false := by simp; omega
      by_cases h2 : b0 = 45
      · rw [if_pos ⟨hlpos, .inr h2⟩] at hS2
        have h2i : (b0 : Int) = 45 := by omega
        have h2b : ((b0 : Int) == 45) = true := by simp; omega
        have hn : N = true := by rw [← hN2, h2]; rfl
        have hs : S = 1 := hS2.symm
        subst hn hs
        clear hS2 hN2 h1 h2 hb0
        go_wp2_with fail
        go_meet
        case rel => exact ⟨rfl, rfl, rfl⟩
      · rw [if_neg (by rintro ⟨-, h | h⟩; exact h1 h; exact h2 h)] at hS2
        have h2i : ¬ (b0 : Int) = 45 := by omega
        have h2b : ((b0 : Int) == 45) = false := by simp; omega
        have hn : N = false := by rw [← hN2, decide_eq_false h2]; rfl
        have hs : S = 0 := hS2.symm
        subst hn hs
        clear hS2 hN2 h1 h2 hb0
        go_wp2_with fail
        go_meet
        case rel => exact ⟨rfl, rfl, rfl⟩
  case rest =>
  obtain ⟨rfl, rfl, rfl⟩ := hcut
  clear hg0 hz0
  have hS0 : (0 : Int) ≤ (S : Int) := Int.natCast_nonneg _
  have hS1i : (S : Int) ≤ 1 := by omega
  go_upto_region 12 with fail
  go_cut [54] from 36 to 53 (fun s54 wx => s54 = .bool false ∧ wx = wc)
  case first =>
    by_cases h1 : S + 2 < l.length
    · have h1i : (S : Int) + 2 < (l.length : Int) := by omega
      have hlt1 : S < (st l).size := by rw [hsz]; omega
      have hlt2 : S + 1 < (st l).size := by rw [hsz]; omega
      have hSl : (S : Int) < (l.length : Int) := by omega
      have hSl2 : (S : Int) + 1 < (l.length : Int) := by omega
      have hg1 := bt_get l S hlt1
      have hg2 := bt_get l (S + 1) hlt2
      have hHx := HHx.out
      obtain ⟨b1, hb1⟩ : ∃ b1, bt l S = b1 := ⟨_, rfl⟩
      obtain ⟨b2, hb2⟩ : ∃ b2, bt l (S + 1) = b2 := ⟨_, rfl⟩
      rw [hb1] at hg1 hHx
      rw [hb2] at hg2 hHx
      by_cases h3 : b1 = 48
      · have h3i : (b1 : Int) = 48 := by omega
        have h4 : (bits .or .u8 (b2 : Int) 32 == 120) = false := by
          have h5 : ¬ bits .or .u8 (b2 : Int) 32 = 120 := fun e => hHx ⟨h1, h3, e⟩
          simpa using h5
        have h4b : ¬ bits .or .u8 (b2 : Int) 32 = 120 := fun e => hHx ⟨h1, h3, e⟩
        have HL4 := Hid_mk h4
        obtain ⟨X, hX⟩ : ∃ X, bits .or .u8 (b2 : Int) 32 = X := ⟨_, rfl⟩
        have HLw := Hid_mk (HLow.out (b2 : Int) wc)
        rw [hX] at h4 h4b HLw
        clear hHx h1 h3 hb1 hb2 hX HL4
        go_wp2_with fail
        with_reducible refine HLw.out.mono ?_
        rintro e w1 ⟨rfl, rfl⟩
        go_wp2_with fail
        go_meet
        case rel => exact ⟨rfl, rfl⟩
      · have h3i : ((b1 : Int) == 48) = false := by simp; omega
        clear hHx h1 h3 hb1 hb2
        go_wp2_with fail
        go_meet
        case rel => exact ⟨rfl, rfl⟩
    · have h1i : ¬ (S : Int) + 2 < (l.length : Int) := by omega
      clear h1
      go_wp2_with fail
      go_meet
      case rel => exact ⟨rfl, rfl⟩
  case rest =>
  obtain ⟨rfl, rfl⟩ := hcut
  go_upto_block 1 with fail
  apply wp_label
  go_upto_block 1 with fail
  go_cut [2, 5, 7, 9, 13, 14, 15, 16, 17, 18] from 57 to 138 (fun s2 s5 s7 s9 s13 s14 s15 s16 s17 s18 wx => s2 = .int .u64 (m : Int) ∧ s5 = .bool tr ∧ s7 = .int .i64 (i : Int) ∧ s9 = .bool false ∧ s13 = .bool dot ∧ s14 = .bool true ∧ s15 = .int .i64 (nd : Int) ∧ s16 = .int .i64 (nm : Int) ∧ s17 = .int .i64 dp ∧ wx = wc ∧ nm ≤ nd ∧ nd ≤ l.length ∧ -(l.length : Int) ≤ dp ∧ dp ≤ (l.length : Int))
  case first =>
    go_wp2_with fail
    go_loopw [2, 5, 7, 9, 13, 14, 15, 16, 17, 18] (fun a2 a5 a7 a9 a13 a14 a15 a16 a17 _ wr => ∃ (j nd' nm' m' : Nat) (dp' : Int) (dot' dg' tr' : Bool), a2 = .int .u64 (m' : Int) ∧ a5 = .bool tr' ∧ a7 = .int .i64 (j : Int) ∧ a9 = .bool false ∧ a13 = .bool dot' ∧ a14 = .bool dg' ∧ a15 = .int .i64 (nd' : Int) ∧ a16 = .int .i64 (nm' : Int) ∧ a17 = .int .i64 dp' ∧ rdL l (l.length - j) j dot' dg' nd' nm' dp' m' tr' = (i, dot, true, nd, nm, dp, m, tr) ∧ j ≤ l.length ∧ nm' ≤ nd' ∧ nd' ≤ j ∧ nm' ≤ 19 ∧ m' < 10 ^ nm' ∧ -(j : Int) ≤ dp' ∧ dp' ≤ (j : Int) ∧ wr = wc) (fun _ _ a7 _ _ _ _ _ _ _ _ => l.length - (intOf a7).toNat)
    case atStart => exact ⟨S, 0, 0, 0, 0, false, false, false, rfl, rfl, rfl, rfl, rfl, rfl, rfl, rfl, rfl, HRd.out, Nat.le_of_lt HL0.out, Nat.le_refl _, Nat.zero_le _, by omega, by decide, by omega, by omega, by first | rfl | trivial⟩
    case round =>
      obtain ⟨j, nd', nm', m', dp', dot', dg', tr', rfl, rfl, rfl, rfl, rfl, rfl, rfl, rfl, rfl, hr, hj, hnm, hnd, hnm9, hm, hdp1, hdp2, rfl⟩ := hrel
      have hj0 : (0 : Int) ≤ (j : Int) := Int.natCast_nonneg _
      have hjl : (j : Int) ≤ 1000000000000 := by omega
      have hnd0 : (0 : Int) ≤ (nd' : Int) := Int.natCast_nonneg _
      have hndl : (nd' : Int) ≤ 1000000000000 := by omega
      have hnm0 : (0 : Int) ≤ (nm' : Int) := Int.natCast_nonneg _
      have hnm9i : (nm' : Int) ≤ 19 := by omega
      have hdpl : -1000000000000 ≤ dp' := by omega
      have hdph : dp' ≤ 1000000000000 := by omega
      have hm0 : (0 : Int) ≤ (m' : Int) := Int.natCast_nonneg _
      have HB := Hid_mk (And.intro hj (And.intro hnm (And.intro hnd (And.intro hnm9 (And.intro hm (And.intro hdp1 hdp2))))))
      rcases Nat.lt_or_ge j l.length with hlt | hge
      · have hlti : (j : Int) < (l.length : Int) := by omega
        have hjs : j < (st l).size := by rw [hsz]; exact hlt
        have hg := bt_get l j hjs
        rw [show l.length - j = (l.length - (j + 1)) + 1 by omega, rdL] at hr
        have hun := HUn.out j hlt
        obtain ⟨c, hc⟩ : ∃ c, bt l j = c := ⟨_, rfl⟩
        rw [hc] at hg hr hun
        have hc256 : c < 256 := by rw [← hc]; exact bt_lt l j
        have hun1 : ((c : Int) == 95) = false := by simp; omega
        have hc0 : (0 : Int) ≤ (c : Int) := Int.natCast_nonneg _
        have HLt := Hid_mk hlt
        by_cases h46 : c = 46
        · rw [if_pos h46] at hr
          have h46i : (c : Int) = 46 := by omega
          rcases hdt : dot' with _ | _
          · rw [hdt, if_neg (by simp)] at hr
            have HR := Hid_mk hr
            subst hdt
            clear hr hj hnm hnd hnm9 hm hdp1 hdp2 hlt hun hc hc256 h46
            go_wp2
            go_roundw
            case rel => exact ⟨j + 1, nd', nm', m', (nd' : Int), true, dg', tr', rfl, rfl, by go_num, rfl, rfl, rfl, rfl, rfl, rfl, HR.out, HLt.out, HB.out.2.1, by have := HB.out; omega, HB.out.2.2.2.1, HB.out.2.2.2.2.1, by omega, by have := HB.out; omega, by first | rfl | trivial⟩
            case measure => have := HLt.out; simp [intOf]; omega
          · rw [hdt, if_pos rfl] at hr
            subst hdt
            obtain ⟨rfl, rfl, rfl, rfl, rfl, rfl, rfl, rfl⟩ : j = i ∧ true = dot ∧ dg' = true ∧ nd' = nd ∧ nm' = nm ∧ dp' = dp ∧ m' = m ∧ tr' = tr := by simpa using hr
            clear hr hj hnm hnd hnm9 hm hdp1 hdp2 hlt hun hc hc256 h46
            go_wp2
            go_meet
            case rel => exact ⟨rfl, rfl, rfl, rfl, rfl, rfl, rfl, rfl, rfl, rfl, HB.out.2.1, by have := HB.out; omega, by have := HB.out; omega, by have := HB.out; omega⟩
        · rw [if_neg h46] at hr
          have h46i : ((c : Int) == 46) = false := by simp; omega
          by_cases hdg : 48 ≤ c ∧ c ≤ 57
          · rw [if_pos hdg] at hr
            have hd1 : (48 : Int) ≤ (c : Int) := by omega
            have hd2 : (c : Int) ≤ 57 := by omega
            obtain ⟨y, hy⟩ : ∃ y, c - 48 = y := ⟨_, rfl⟩
            rw [hy] at hr
            have hy9 : y ≤ 9 := by omega
            have hcy : (c : Int) = 48 + (y : Int) := by omega
            have hs8 : IntKind.u8.wrap ((c : Int) - 48) = (y : Int) := by simp [IntKind.wrap, IntKind.signed, IntKind.bits]; omega
            have hy64 : IntKind.u64.wrap (y : Int) = (y : Int) := wu _ (by omega) (by omega)
            by_cases hz : c = 48 ∧ nd' = 0
            · rw [if_pos hz] at hr
              have hz1 : (c : Int) = 48 := by omega
              have hz2 : (nd' : Int) = 0 := by omega
              have HR := Hid_mk hr
              have HZ := Hid_mk hz.2
              clear hr hj hnm hnd hnm9 hm hdp1 hdp2 hlt hun hc hc256 h46 hdg hy hy9 hcy hz
              go_wp2
              go_roundw
              case rel => exact ⟨j + 1, nd', nm', m', dp' - 1, dot', true, tr', rfl, rfl, by go_num, rfl, rfl, rfl, rfl, rfl, rfl, HR.out, HLt.out, HB.out.2.1, by have := HB.out; omega, HB.out.2.2.2.1, HB.out.2.2.2.2.1, by have := HB.out; omega, by have := HB.out; omega, by first | rfl | trivial⟩
              case measure => have := HLt.out; simp [intOf]; omega
            · rw [if_neg hz] at hr
              have hz1 : ((c : Int) == 48) = false ∨ (c : Int) = 48 ∧ ((nd' : Int) == 0) = false := by
                by_cases e : c = 48
                · right; exact ⟨by omega, by simp; omega⟩
                · left; simp; omega
              by_cases hn : nm' < 19
              · rw [if_pos hn] at hr
                have hni : (nm' : Int) < 19 := by omega
                have hmb : m' < 1000000000000000000 := Nat.lt_of_lt_of_le hm (by
                  have := Nat.pow_le_pow_right (show 0 < 10 by omega) (show nm' ≤ 18 by omega)
                  simpa using this)
                have e1 : IntKind.u64.wrap ((m' : Int) * 10) = (m' : Int) * 10 := wu _ (by omega) (by omega)
                have e2 : IntKind.u64.wrap ((m' : Int) * 10 + (y : Int)) = (m' : Int) * 10 + (y : Int) := wu _ (by omega) (by omega)
                have HR := Hid_mk hr
                have hm2 : m' * 10 + y < 10 ^ (nm' + 1) := by rw [Nat.pow_succ]; omega
                have HM2 := Hid_mk hm2
                have hcast : ((m' * 10 + y : Nat) : Int) = (m' : Int) * 10 + (y : Int) := by omega
                have HCast := Hid_mk hcast
                have HCy := Hid_mk hcy
                have HN9 := Hid_mk hn
                clear hr hj hnm hnd hnm9 hm hdp1 hdp2 hlt hun hc hc256 h46 hdg hy hy9 hcy hz hn hmb hm2 hcast
                rcases hz1 with hz1 | ⟨hz1, hz2⟩
                all_goals
                  go_wp2
                  go_roundw
                  case rel => exact ⟨j + 1, nd' + 1, nm' + 1, m' * 10 + y, dp', dot', true, tr', by first | (rw [HCast.out]; done) | (rw [HCast.out]; congr 1; have := HCy.out; omega), rfl, by go_num, rfl, rfl, rfl, by go_num, by go_num, rfl, HR.out, HLt.out, by have := HB.out; omega, by have := HB.out; omega, HN9.out, HM2.out, by have := HB.out; omega, by have := HB.out; omega, by first | rfl | trivial⟩
                  case measure => have := HLt.out; simp [intOf]; omega
              · rw [if_neg hn] at hr
                have hni : ¬ (nm' : Int) < 19 := by omega
                by_cases h48 : c = 48
                · have h48i : (c : Int) = 48 := by omega
                  have h48b : ((c : Int) != 48) = false := by simp; omega
                  rw [decide_eq_false (by omega), Bool.or_false] at hr
                  have hz2 : ((nd' : Int) == 0) = false := by simp; omega
                  have HR := Hid_mk hr
                  clear hr hj hnm hnd hnm9 hm hdp1 hdp2 hlt hun hc hc256 h46 hdg hy hy9 hcy hz hn h48 hz1
                  go_wp2
                  go_roundw
                  case rel => exact ⟨j + 1, nd' + 1, nm', m', dp', dot', true, tr', rfl, rfl, by go_num, rfl, rfl, rfl, by go_num, rfl, rfl, HR.out, HLt.out, by have := HB.out; omega, by have := HB.out; omega, HB.out.2.2.2.1, HB.out.2.2.2.2.1, by have := HB.out; omega, by have := HB.out; omega, by first | rfl | trivial⟩
                  case measure => have := HLt.out; simp [intOf]; omega
                · have h48i : ((c : Int) == 48) = false := by simp; omega
                  have h48b : ((c : Int) != 48) = true := by simp; omega
                  rw [decide_eq_true (by omega), Bool.or_true] at hr
                  have HR := Hid_mk hr
                  clear hr hj hnm hnd hnm9 hm hdp1 hdp2 hlt hun hc hc256 h46 hdg hy hy9 hcy hz hn h48 hz1
                  go_wp2
                  go_roundw
                  case rel => exact ⟨j + 1, nd' + 1, nm', m', dp', dot', true, true, rfl, rfl, by go_num, rfl, rfl, rfl, by go_num, rfl, rfl, HR.out, HLt.out, by have := HB.out; omega, by have := HB.out; omega, HB.out.2.2.2.1, HB.out.2.2.2.2.1, by have := HB.out; omega, by have := HB.out; omega, by first | rfl | trivial⟩
                  case measure => have := HLt.out; simp [intOf]; omega
          · rw [if_neg hdg] at hr
            obtain ⟨rfl, rfl, rfl, rfl, rfl, rfl, rfl, rfl⟩ : j = i ∧ dot' = dot ∧ dg' = true ∧ nd' = nd ∧ nm' = nm ∧ dp' = dp ∧ m' = m ∧ tr' = tr := by simpa using hr
            have hd12 : ¬ (48 : Int) ≤ (c : Int) ∨ ((48 : Int) ≤ (c : Int) ∧ ¬ (c : Int) ≤ 57) := by omega
            clear hr hj hnm hnd hnm9 hm hdp1 hdp2 hlt hun hc hc256 h46 hdg
            rcases hd12 with hd1 | ⟨hd1, hd2⟩
            all_goals
              go_wp2
              go_meet
              case rel => exact ⟨rfl, rfl, rfl, rfl, rfl, rfl, rfl, rfl, rfl, rfl, HB.out.2.1, by have := HB.out; omega, by have := HB.out; omega, by have := HB.out; omega⟩
      · obtain rfl : j = l.length := by omega
        rw [Nat.sub_self, rdL] at hr
        obtain ⟨rfl, rfl, rfl, rfl, rfl, rfl, rfl, rfl⟩ : l.length = i ∧ dot' = dot ∧ dg' = true ∧ nd' = nd ∧ nm' = nm ∧ dp' = dp ∧ m' = m ∧ tr' = tr := by simpa using hr
        have hlti : ¬ (l.length : Int) < (l.length : Int) := by omega
        clear hr hj hnm hnd hnm9 hm hdp1 hdp2 hge
        go_wp2
        go_meet
        case rel => exact ⟨rfl, rfl, rfl, rfl, rfl, rfl, rfl, rfl, rfl, rfl, HB.out.2.1, by have := HB.out; omega, by have := HB.out; omega, by have := HB.out; omega⟩
  case rest =>
  obtain ⟨rfl, rfl, rfl, rfl, rfl, rfl, rfl, rfl, rfl, rfl, hnm, hnd, hdp1, hdp2⟩ := hcut
  have hie := HI.out
  subst hie
  have hlti : ¬ (l.length : Int) < (l.length : Int) := by omega
  have hnm0 : (0 : Int) ≤ (nm : Int) := Int.natCast_nonneg _
  have hnd0 : (0 : Int) ≤ (nd : Int) := Int.natCast_nonneg _
  have hnm12 : (nm : Int) ≤ 1000000000000 := by omega
  have hnd12 : (nd : Int) ≤ 1000000000000 := by omega
  have hdp12 : -1000000000000 ≤ dp := by omega
  have hdp13 : dp ≤ 1000000000000 := by omega
  have hm0 : (0 : Int) ≤ (m : Int) := Int.natCast_nonneg _
  obtain ⟨E, hE⟩ : ∃ E, expR dot nd nm m dp 0 = E := ⟨_, rfl⟩
  have HE := Hid_mk hE
  unfold expR at hE
  clear hnm hnd hdp1 hdp2
  rcases dot with _ | _
  all_goals
    by_cases hmz : m = 0
    · rw [if_pos hmz] at hE
      subst hmz
      have hz1 : ((0 : Int) != 0) = false := rfl
      have HE2 := Hid_mk hE
      clear hE
      go_wp2
      refine bodyPost_ret (v := .tuple #[.int .u64 ((0 : Nat) : Int), .int .i64 (expR _ nd nm 0 dp 0), .bool N, .bool tr, .bool false, .int .i64 (l.length : Int), .bool true]) ?_ rfl ⟨rfl, rfl⟩
      rw [HE.out, ← HE2.out]
      simp [results, Tryz.results86, go_sem]
    · rw [if_neg hmz] at hE
      have hmb : ((m : Int) != 0) = true := by simp; omega
      have hmp : 0 < m := by omega
      have hmi : ¬ (m : Int) = 0 := by omega
      have HE2 := Hid_mk hE
      clear hE
      go_wp2
      refine bodyPost_ret (v := .tuple #[.int .u64 (m : Int), .int .i64 (expR _ nd nm m dp 0), .bool N, .bool tr, .bool false, .int .i64 (l.length : Int), .bool true]) ?_ rfl ⟨rfl, rfl⟩
      rw [HE.out, ← HE2.out]
      simp [results, Tryz.results86, go_sem]

end Go.Proofs.YtgnddabdjjkgiaaGreatDoor.rd

namespace Go.Proofs.YtgnddabdjjkgiaaGreatDoor.rd
open Go.RowKit Go.Proofs.YtgnddabdjjkgiaaGreatDoor.sum Go.Proofs.YtgnddabdjjkgiaaGreatDoor.kept Go.Proofs.YtgnddabdjjkgiaaGreatDoor.str Go.Proofs.YtgnddabdjjkgiaaGreatDoor.nums Go.Proofs.YtgnddabdjjkgiaaGreatDoor.fmtf Go.Proofs.YtgnddabdjjkgiaaGreatDoor.fl
set_option linter.unusedVariables false

/-- a byte that a numeral may have behind its sign -/
def numB (b : Nat) : Bool := dgB b || decide (b = 46)

set_option maxRecDepth 100000 in
set_option maxHeartbeats 4000000 in
theorem common_none (w : World) (l : List UInt8) (hl0 : 0 < l.length) (hl : l.length ≤ 1000000000000) (hb : numB (bt l 0) = true) :
    Calls Tryz.prog 121 #[.string (st l), .string ⟨#[105, 110, 102, 105, 110, 105, 116, 121]⟩] w (RV w (.int .i64 0)) := by
  have hsz := st_size l
  have hz0 : 0 < (st l).size := by rw [hsz]; omega
  have hg0 := bt_get l 0 hz0
  obtain ⟨b, hb0⟩ : ∃ b, bt l 0 = b := ⟨_, rfl⟩
  rw [hb0] at hg0 hb
  have hbd : (48 ≤ b ∧ b ≤ 57) ∨ b = 46 := by simpa [numB, dgB] using hb
  have h65 : ¬ (65 : Int) ≤ (b : Int) := by omega
  have h105 : ((b : Int) != 105) = true := by simp; omega
  have h105b : ((b : Int) == 105) = false := by simp; omega
  have hlen : (0 : Int) < (l.length : Int) := by omega
  have hlen2 : (l.length : Int) ≤ 1000000000000 := by omega
  have hp0 : ((⟨#[105, 110, 102, 105, 110, 105, 116, 121]⟩ : ByteArray)[0]'(by decide)).toNat = 105 := rfl
  have hmin : ∃ M : Nat, min 8 (l.length : Int) = (M : Int) ∧ 0 < M := ⟨min 8 l.length, by omega, by omega⟩
  obtain ⟨M, hM, hM0⟩ := hmin
  have hMi : (0 : Int) < (M : Int) := by omega
  have hMz : ¬ M = 0 := by omega
  clear hb hbd hl hb0
  go_enter Tryz.func121, Tryz.ntmps121
  go_wp2_with fail
  go_loopw [6, 7] (fun a _ wr => a = .int .i64 0 ∧ wr = w) (fun _ _ _ => 0)
  case atStart => exact ⟨rfl, rfl⟩
  case round =>
    obtain ⟨rfl, rfl⟩ := hrel
    go_wp2
    go_ret
    exact ⟨rfl, rfl⟩

set_option maxRecDepth 100000 in
set_option maxHeartbeats 8000000 in
theorem special_none (w : World) (l : List UInt8) (hl0 : signS l 0 < l.length) (hl : l.length ≤ 1000000000000) (hb : numB (bt l (signS l 0)) = true) :
    Calls Tryz.prog 85 #[.string (st l)] w (RV w (.tuple #[.float .f64 0, .int .i64 0, .bool false])) := by
  have hsz := st_size l
  have hlpos : 0 < l.length := by omega
  have hne : ¬ l = [] := by intro e; rw [e] at hlpos; simp at hlpos
  have hz0 : 0 < (st l).size := by rw [hsz]; omega
  have hg0 := bt_get l 0 hz0
  have hlen : (0 : Int) < (l.length : Int) := by omega
  have hlen2 : (l.length : Int) ≤ 1000000000000 := by omega
  have hlz : ((l.length : Int) == 0) = false := by simp; omega
  unfold signS at hl0 hb
  obtain ⟨b, hb0⟩ : ∃ b, bt l 0 = b := ⟨_, rfl⟩
  rw [hb0] at hg0 hl0 hb
  by_cases h1 : b = 43 ∨ b = 45
  · rw [if_pos ⟨hlpos, h1⟩] at hl0 hb
    obtain ⟨T, hT⟩ : ∃ T, l.drop 1 = T := ⟨_, rfl⟩
    have hdl : T.length = l.length - 1 := by rw [← hT]; exact List.length_drop ..
    have hbd : bt T 0 = bt l 1 := by rw [← hT]; unfold bt; rw [List.getD_eq_getElem?_getD, List.getD_eq_getElem?_getD, List.getElem?_drop]
    have HC := Hid_mk (common_none w T (by omega) (by omega) (by rw [hbd]; exact hb))
    have hext : (st l).extract 1 l.length = st T := by rw [← hT]; exact st_from l 1
    have hl1 : (1 : Int) ≤ (l.length : Int) := by omega
    clear hb hl0 hb0 hdl hbd hl hT
    rcases h1 with rfl | rfl
    all_goals
      go_enter Tryz.func85, Tryz.ntmps85
      go_wp2_with fail
      with_reducible refine HC.out.mono ?_
      rintro e w1 ⟨rfl, rfl⟩
      go_wp2
      refine bodyPost_ret (v := .tuple #[.float .f64 0, .int .i64 0, .bool false]) ?_ rfl ⟨rfl, rfl⟩
      simp [results, Tryz.results85, go_sem]
  · rw [if_neg (fun h => h1 h.2)] at hl0 hb
    rw [hb0] at hb
    have hbd : (48 ≤ b ∧ b ≤ 57) ∨ b = 46 := by simpa [numB, dgB] using hb
    have e1 : ((b : Int) == 43) = false := by simp; omega
    have e2 : ((b : Int) == 45) = false := by simp; omega
    have e3 : ((b : Int) == 105) = false := by simp; omega
    have e4 : ((b : Int) == 73) = false := by simp; omega
    have e5 : ((b : Int) == 110) = false := by simp; omega
    have e6 : ((b : Int) == 78) = false := by simp; omega
    clear hb hl0 hb0 hbd hl h1
    go_enter Tryz.func85, Tryz.ntmps85
    go_wp2
    refine bodyPost_ret (v := .tuple #[.float .f64 0, .int .i64 0, .bool false]) ?_ rfl ⟨rfl, rfl⟩
    simp [results, Tryz.results85, go_sem]

end Go.Proofs.YtgnddabdjjkgiaaGreatDoor.rd

namespace Go.Proofs.YtgnddabdjjkgiaaGreatDoor.rd
open Go.RowKit Go.Proofs.YtgnddabdjjkgiaaGreatDoor.sum Go.Proofs.YtgnddabdjjkgiaaGreatDoor.kept Go.Proofs.YtgnddabdjjkgiaaGreatDoor.str Go.Proofs.YtgnddabdjjkgiaaGreatDoor.nums Go.Proofs.YtgnddabdjjkgiaaGreatDoor.fmtf Go.Proofs.YtgnddabdjjkgiaaGreatDoor.fl
set_option linter.unusedVariables false

/-- a numeral as it is read: mantissa, exponent, sign, something left out -/
def RdC (w : World) (l : List UInt8) (m : Nat) (e : Int) (ng tr : Bool) : Prop :=
  Calls Tryz.prog 86 #[.string (st l)] w fun en w' => en = .returned (.tuple #[.int .u64 (m : Int), .int .i64 e, .bool ng, .bool tr, .bool false, .int .i64 (l.length : Int), .bool true]) ∧ w = w'

set_option maxRecDepth 100000 in
set_option maxHeartbeats 8000000 in
theorem atof_exact (w : World) (l : List UInt8) (m : Nat) (e : Int) (ng : Bool) (f : Nat) (ho : w.cell? ⟨3, 0, none⟩ = some (.bool true))
    (hs : Calls Tryz.prog 85 #[.string (st l)] w (RV w (.tuple #[.float .f64 0, .int .i64 0, .bool false]))) (hr : RdC w l m e ng false) (hm : 0 < m) (hm2 : m < 18446744073709551616) (he1 : e ≤ 310) (he2 : -345 ≤ e)
    (hx : Calls Tryz.prog 96 #[.int .u64 (m : Int), .int .i64 e, .bool ng] w (RV w (.tuple #[.float .f64 f, .bool true]))) :
    Calls Tryz.prog 62 #[.string (st l)] w (RV w (.tuple #[.float .f64 f, .int .i64 (l.length : Int), .nilIface])) := by
  have HS := Hid_mk hs
  unfold RdC at hr
  have HR := Hid_mk hr
  have HX := Hid_mk hx
  have HB := Hid_mk fun W b => bool2w_any W b
  have hmz : ((m : Int) == 0) = false := by simp; omega
  have hmi : ¬ (m : Int) = 0 := by omega
  have hmp : 0 < (m : Int) := by omega
  have h310 : ¬ (310 : Int) < e := by omega
  have h345 : ¬ e < -345 := by omega
  clear hs hr hx hm hm2 he1 he2
  go_enter Tryz.func62, Tryz.ntmps62
  go_wp2_with fail
  with_reducible refine HS.out.mono ?_
  rintro e1 w1 ⟨rfl, rfl⟩
  go_wp2_with fail
  with_reducible refine HR.out.mono ?_
  rintro e1 w1 ⟨rfl, rfl⟩
  go_wp2_with fail
  with_reducible refine (HB.out _ _).mono ?_
  rintro e1 w1 ⟨rfl, rfl⟩
  go_wp2_with fail
  with_reducible refine HX.out.mono ?_
  rintro e1 w1 ⟨rfl, rfl⟩
  go_wp2
  refine bodyPost_ret (v := .tuple #[.float .f64 f, .int .i64 (l.length : Int), .nilIface]) ?_ rfl ⟨rfl, rfl⟩
  simp [results, Tryz.results62, go_sem]

set_option maxRecDepth 100000 in
set_option maxHeartbeats 8000000 in
theorem parse_ok (w : World) (l : List UInt8) (f : Nat) (P : World → Prop)
    (h : Calls Tryz.prog 62 #[.string (st l)] w fun e w' => e = .returned (.tuple #[.float .f64 f, .int .i64 (l.length : Int), .nilIface]) ∧ P w') :
    Calls Tryz.prog 24 #[.string (st l), .int .i64 64] w fun e w' => e = .returned (.tuple #[.float .f64 f, .nilIface]) ∧ P w' := by
  have hsz := st_size l
  have h1 : Calls Tryz.prog 49 #[.string (st l), .int .i64 64] w fun e w' => e = .returned (.tuple #[.float .f64 f, .int .i64 (l.length : Int), .nilIface]) ∧ P w' := by
    have H := Hid_mk h
    clear h
    go_enter Tryz.func49, Tryz.ntmps49
    go_wp2_with fail
    with_reducible refine H.out.mono ?_
    rintro e1 w1 ⟨rfl, hp⟩
    have HP := Hid_mk hp
    clear hp
    go_wp2
    refine bodyPost_ret (v := .tuple #[.float .f64 f, .int .i64 (l.length : Int), .nilIface]) ?_ rfl ⟨rfl, HP.out⟩
    simp [results, Tryz.results49, go_sem]
  have h2 : Calls Tryz.prog 40 #[.string (st l), .int .i64 64] w fun e w' => e = .returned (.tuple #[.float .f64 f, .nilIface]) ∧ P w' := by
    have H := Hid_mk h1
    have hlen : ((l.length : Int) != (l.length : Int)) = false := by simp
    clear h h1
    go_enter Tryz.func40, Tryz.ntmps40
    go_wp2_with fail
    with_reducible refine H.out.mono ?_
    rintro e1 w1 ⟨rfl, hp⟩
    have HP := Hid_mk hp
    clear hp
    go_wp2
    refine bodyPost_ret (v := .tuple #[.float .f64 f, .nilIface]) ?_ rfl ⟨rfl, HP.out⟩
    simp [results, Tryz.results40, go_sem]
  have H := Hid_mk h2
  clear h h1 h2
  go_enter Tryz.func24, Tryz.ntmps24
  go_wp2_with fail
  with_reducible refine H.out.mono ?_
  rintro e1 w1 ⟨rfl, hp⟩
  have HP := Hid_mk hp
  clear hp
  go_wp2
  refine bodyPost_ret (v := .tuple #[.float .f64 f, .nilIface]) ?_ rfl ⟨rfl, HP.out⟩
  simp [results, Tryz.results24, go_sem]

end Go.Proofs.YtgnddabdjjkgiaaGreatDoor.rd

namespace Go.Proofs.YtgnddabdjjkgiaaGreatDoor.rd
open Go.RowKit Go.Proofs.YtgnddabdjjkgiaaGreatDoor.sum Go.Proofs.YtgnddabdjjkgiaaGreatDoor.kept Go.Proofs.YtgnddabdjjkgiaaGreatDoor.str Go.Proofs.YtgnddabdjjkgiaaGreatDoor.nums Go.Proofs.YtgnddabdjjkgiaaGreatDoor.fmtf Go.Proofs.YtgnddabdjjkgiaaGreatDoor.fl
set_option linter.unusedVariables false

/-- the bits of the mantissa, as laid -/
def Fi (w : World) : Prop := w.cell? ⟨5, 0, none⟩ = some (.int .u64 52)

/-- the powers of ten as numbers, as laid: the first -/
def Fp (w : World) : Prop := ∃ r o n c, w.cell? ⟨9, 0, none⟩ = some (.slice (some ⟨r, o, none⟩) n c) ∧ 22 < n ∧ n ≤ c ∧ n ≤ 1000 ∧ w.cell? ⟨r, o + 1, none⟩ = some (.float .f64 4621819117588971520)
theorem xor_top (b : Nat) (h : b < 2 ^ 63) : b ^^^ 2 ^ 63 = b + 2 ^ 63 := by
  have h1 := Nat.two_pow_add_eq_or_of_lt (i := 63) (b := b) h 1
  rw [Nat.mul_one] at h1
  rw [Nat.add_comm, h1]
  apply Nat.eq_of_testBit_eq
  intro i
  rw [Nat.testBit_xor, Nat.testBit_or, Nat.testBit_two_pow]
  by_cases e : 63 = i
  · subst e
    rw [Nat.testBit_lt_two_pow h]
    simp
  · simp [e]
theorem neg_fl (m : Nat) (h0 : 0 < m) (h : m < 2 ^ 53) : Op.negFloat .f64 (fl (m : Int)) = fl (-(m : Int)) := by
  rw [pf.word_neg m h0 h]
  have hb := (pf.ff_fl m h0 h).1
  exact xor_top _ hb
theorem run_neg (b : Nat) (w : World) : (Op.unary .neg (.float .f64 b)).run Tryz.prog w = .ok (.float .f64 (Op.negFloat .f64 b)) w := rfl

set_option maxRecDepth 100000 in
set_option maxHeartbeats 4000000 in
theorem exact0 (w : World) (m : Nat) (ng : Bool) (hm : m < 4503599627370496) (hm1 : 0 < m) (hf : Fi w) :
    Calls Tryz.prog 96 #[.int .u64 (m : Int), .int .i64 0, .bool ng] w (RV w (.tuple #[.float .f64 (fl (if ng = true then -(m : Int) else (m : Int))), .bool true])) := by
  have hm0 : (0 : Int) ≤ (m : Int) := Int.natCast_nonneg _
  have hmi : (m : Int) < 4503599627370496 := by omega
  have hz : ((m : Int) / 4503599627370496) = 0 := by omega
  have hng := fun w => run_neg (floatOfInt .f64 (m : Int)) w
  have hfl : Op.negFloat .f64 (floatOfInt .f64 (m : Int)) = fl (-(m : Int)) := neg_fl m hm1 (by omega)
  rw [hfl] at hng
  clear hfl
  unfold Fi at hf
  rcases ng with _ | _
  · rw [if_neg (by simp)]
    go_enter Tryz.func96, Tryz.ntmps96
    go_wp2
    go_ret2
    exact ⟨rfl, rfl⟩
  · rw [if_pos rfl]
    go_enter Tryz.func96, Tryz.ntmps96
    go_wp2
    go_ret2
    exact ⟨rfl, rfl⟩

set_option maxRecDepth 100000 in
set_option maxHeartbeats 4000000 in
theorem exact1 (w : World) (hf : Fi w) (hp : Fp w) :
    Calls Tryz.prog 96 #[.int .u64 125, .int .i64 1, .bool false] w (RV w (.tuple #[.float .f64 4653212373585231872, .bool true])) := by
  obtain ⟨r, o, n, c, p1, p2, p3, p4, p5⟩ := hp
  have hn1 : (1 : Int) < (n : Int) := by omega
  have hn2 : (n : Int) ≤ 1000 := by omega
  have hnc : (n : Int) ≤ (c : Int) := by omega
  obtain ⟨f, hfe⟩ : ∃ f, floatOfInt .f64 125 = f := ⟨_, rfl⟩
  have g1 : (FloatKind.f64.format.order f 4831355200913801216 == some .gt) = false := by rw [← hfe]; kernel_rfl
  have g2 : (FloatKind.f64.format.order f 14054727237768577024 == some .lt) = false := by rw [← hfe]; kernel_rfl
  have g3 : floatBits .mul .f64 f 4621819117588971520 = some 4653212373585231872 := by rw [← hfe]; kernel_rfl
  have g4 := fun w => run_float_arith (P := Tryz.prog) .mul 22 .f64 f 4621819117588971520 _ g3 (w := w)
  unfold Fi at hf
  go_enter Tryz.func96, Tryz.ntmps96
  go_wp2_with fail
  go_ret2
  exact ⟨rfl, rfl⟩

end Go.Proofs.YtgnddabdjjkgiaaGreatDoor.rd
