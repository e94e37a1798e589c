/- internal/strconv: special of a numeral is none; atof64exact. strconv.ParseFloat of a numeral that is exact. internal/strconv.ftoa64 of 0 at 'f', no digits behind the point. A number's hexadecimal digits, as strconv writes them: plain lists, and formatBits at 16. Cuts of a slice of bytes. strconv's formatBits at base 16. A number's octal digits, as strconv writes them: plain lists, and formatBits at 8. strconv's formatBits at base 8. What the library's variables hold, as the walks read them; FormatFloat and Digits of closed numbers. -/
import Derived.Test.YtgnddabdjjkgiaaGreatDoorPfNumM
import Derived.Test.YtgnddabdjjkgiaaGreatDoorFmtScale
import Derived.Test.YtgnddabdjjkgiaaGreatDoorFtoaM
import Derived.Laws.BitsAllLaws
import Derived.OwnWalk
import Derived.RegionTactic
import Derived.IntWalk
import Derived.Test.YtgnddabdjjkgiaaGreatDoorRow0M
import GoSem.PinnedTables

namespace Go.Proofs.YtgnddabdjjkgiaaGreatDoor.rd
open Go.RowKit Go.Proofs.YtgnddabdjjkgiaaGreatDoor.sum Go.Proofs.YtgnddabdjjkgiaaGreatDoor.kept Go.Proofs.YtgnddabdjjkgiaaGreatDoor.str Go.Proofs.YtgnddabdjjkgiaaGreatDoor.nums Go.Proofs.YtgnddabdjjkgiaaGreatDoor.fmtf Go.Proofs.YtgnddabdjjkgiaaGreatDoor.fl
set_option linter.unusedVariables false

/-- a byte that a numeral may have behind its sign -/
def numB (b : Nat) : Bool := dgB b || decide (b = 46)

set_option maxRecDepth 100000 in
set_option maxHeartbeats 4000000 in
theorem common_none (w : World) (l : List UInt8) (hl0 : 0 < l.length) (hl : l.length ≤ 1000000000000) (hb : numB (bt l 0) = true) :
    Calls Tryz.prog 121 #[.string (st l), .string ⟨#[105, 110, 102, 105, 110, 105, 116, 121]⟩] w (RV w (.int .i64 0)) := by
  have hsz := st_size l
  have hz0 : 0 < (st l).size := by rw [hsz]; omega
  have hg0 := bt_get l 0 hz0
  obtain ⟨b, hb0⟩ : ∃ b, bt l 0 = b := ⟨_, rfl⟩
  rw [hb0] at hg0 hb
  have hbd : (48 ≤ b ∧ b ≤ 57) ∨ b = 46 := by simpa [numB, dgB] using hb
  have h65 : ¬ (65 : Int) ≤ (b : Int) := by omega
  have h105 : ((b : Int) != 105) = true := by simp; omega
  have h105b : ((b : Int) == 105) = false := by simp; omega
  have hlen : (0 : Int) < (l.length : Int) := by omega
  have hlen2 : (l.length : Int) ≤ 1000000000000 := by omega
  have hp0 : ((⟨#[105, 110, 102, 105, 110, 105, 116, 121]⟩ : ByteArray)[0]'(by decide)).toNat = 105 := rfl
  have hmin : ∃ M : Nat, min 8 (l.length : Int) = (M : Int) ∧ 0 < M := ⟨min 8 l.length, by omega, by omega⟩
  obtain ⟨M, hM, hM0⟩ := hmin
  have hMi : (0 : Int) < (M : Int) := by omega
  have hMz : ¬ M = 0 := by omega
  clear hb hbd hl hb0
  go_enter Tryz.func121, Tryz.ntmps121
  go_wp2_with fail
  go_loopw [6, 7] (fun a _ wr => a = .int .i64 0 ∧ wr = w) (fun _ _ _ => 0)
  case atStart => exact ⟨rfl, rfl⟩
  case round =>
    obtain ⟨rfl, rfl⟩ := hrel
    go_wp2
    go_ret
    exact ⟨rfl, rfl⟩

set_option maxRecDepth 100000 in
set_option maxHeartbeats 8000000 in
theorem special_none (w : World) (l : List UInt8) (hl0 : signS l 0 < l.length) (hl : l.length ≤ 1000000000000) (hb : numB (bt l (signS l 0)) = true) :
    Calls Tryz.prog 85 #[.string (st l)] w (RV w (.tuple #[.float .f64 0, .int .i64 0, .bool false])) := by
  have hsz := st_size l
  have hlpos : 0 < l.length := by omega
  have hne : ¬ l = [] := by intro e; rw [e] at hlpos; simp at hlpos
  have hz0 : 0 < (st l).size := by rw [hsz]; omega
  have hg0 := bt_get l 0 hz0
  have hlen : (0 : Int) < (l.length : Int) := by omega
  have hlen2 : (l.length : Int) ≤ 1000000000000 := by omega
  have hlz : ((l.length : Int) == 0) = false := by simp; omega
  unfold signS at hl0 hb
  obtain ⟨b, hb0⟩ : ∃ b, bt l 0 = b := ⟨_, rfl⟩
  rw [hb0] at hg0 hl0 hb
  by_cases h1 : b = 43 ∨ b = 45
  · rw [if_pos ⟨hlpos, h1⟩] at hl0 hb
    obtain ⟨T, hT⟩ : ∃ T, l.drop 1 = T := ⟨_, rfl⟩
    have hdl : T.length = l.length - 1 := by rw [← hT]; exact List.length_drop ..
    have hbd : bt T 0 = bt l 1 := by rw [← hT]; unfold bt; rw [List.getD_eq_getElem?_getD, List.getD_eq_getElem?_getD, List.getElem?_drop]
    have HC := Hid_mk (common_none w T (by omega) (by omega) (by rw [hbd]; exact hb))
    have hext : (st l).extract 1 l.length = st T := by rw [← hT]; exact st_from l 1
    have hl1 : (1 : Int) ≤ (l.length : Int) := by omega
    clear hb hl0 hb0 hdl hbd hl hT
    rcases h1 with rfl | rfl
    all_goals
      go_enter Tryz.func85, Tryz.ntmps85
      go_wp2_with fail
      with_reducible refine HC.out.mono ?_
      rintro e w1 ⟨rfl, rfl⟩
      go_wp2
      refine bodyPost_ret (v := .tuple #[.float .f64 0, .int .i64 0, .bool false]) ?_ rfl ⟨rfl, rfl⟩
      simp [results, Tryz.results85, go_sem]
  · rw [if_neg (fun h => h1 h.2)] at hl0 hb
    rw [hb0] at hb
    have hbd : (48 ≤ b ∧ b ≤ 57) ∨ b = 46 := by simpa [numB, dgB] using hb
    have e1 : ((b : Int) == 43) = false := by simp; omega
    have e2 : ((b : Int) == 45) = false := by simp; omega
    have e3 : ((b : Int) == 105) = false := by simp; omega
    have e4 : ((b : Int) == 73) = false := by simp; omega
    have e5 : ((b : Int) == 110) = false := by simp; omega
    have e6 : ((b : Int) == 78) = false := by simp; omega
    clear hb hl0 hb0 hbd hl h1
    go_enter Tryz.func85, Tryz.ntmps85
    go_wp2
    refine bodyPost_ret (v := .tuple #[.float .f64 0, .int .i64 0, .bool false]) ?_ rfl ⟨rfl, rfl⟩
    simp [results, Tryz.results85, go_sem]

end Go.Proofs.YtgnddabdjjkgiaaGreatDoor.rd

namespace Go.Proofs.YtgnddabdjjkgiaaGreatDoor.rd
open Go.RowKit Go.Proofs.YtgnddabdjjkgiaaGreatDoor.sum Go.Proofs.YtgnddabdjjkgiaaGreatDoor.kept Go.Proofs.YtgnddabdjjkgiaaGreatDoor.str Go.Proofs.YtgnddabdjjkgiaaGreatDoor.nums Go.Proofs.YtgnddabdjjkgiaaGreatDoor.fmtf Go.Proofs.YtgnddabdjjkgiaaGreatDoor.fl
set_option linter.unusedVariables false

/-- a numeral as it is read: mantissa, exponent, sign, something left out -/
def RdC (w : World) (l : List UInt8) (m : Nat) (e : Int) (ng tr : Bool) : Prop :=
  Calls Tryz.prog 86 #[.string (st l)] w fun en w' => en = .returned (.tuple #[.int .u64 (m : Int), .int .i64 e, .bool ng, .bool tr, .bool false, .int .i64 (l.length : Int), .bool true]) ∧ w = w'

set_option maxRecDepth 100000 in
set_option maxHeartbeats 8000000 in
theorem atof_exact (w : World) (l : List UInt8) (m : Nat) (e : Int) (ng : Bool) (f : Nat) (ho : w.cell? ⟨3, 0, none⟩ = some (.bool true))
    (hs : Calls Tryz.prog 85 #[.string (st l)] w (RV w (.tuple #[.float .f64 0, .int .i64 0, .bool false]))) (hr : RdC w l m e ng false) (hm : 0 < m) (hm2 : m < 18446744073709551616) (he1 : e ≤ 310) (he2 : -345 ≤ e)
    (hx : Calls Tryz.prog 96 #[.int .u64 (m : Int), .int .i64 e, .bool ng] w (RV w (.tuple #[.float .f64 f, .bool true]))) :
    Calls Tryz.prog 62 #[.string (st l)] w (RV w (.tuple #[.float .f64 f, .int .i64 (l.length : Int), .nilIface])) := by
  have HS := Hid_mk hs
  unfold RdC at hr
  have HR := Hid_mk hr
  have HX := Hid_mk hx
  have HB := Hid_mk fun W b => bool2w_any W b
  have hmz : ((m : Int) == 0) = false := by simp; omega
  have hmi : ¬ (m : Int) = 0 := by omega
  have hmp : 0 < (m : Int) := by omega
  have h310 : ¬ (310 : Int) < e := by omega
  have h345 : ¬ e < -345 := by omega
  clear hs hr hx hm hm2 he1 he2
  go_enter Tryz.func62, Tryz.ntmps62
  go_wp2_with fail
  with_reducible refine HS.out.mono ?_
  rintro e1 w1 ⟨rfl, rfl⟩
  go_wp2_with fail
  with_reducible refine HR.out.mono ?_
  rintro e1 w1 ⟨rfl, rfl⟩
  go_wp2_with fail
  with_reducible refine (HB.out _ _).mono ?_
  rintro e1 w1 ⟨rfl, rfl⟩
  go_wp2_with fail
  with_reducible refine HX.out.mono ?_
  rintro e1 w1 ⟨rfl, rfl⟩
  go_wp2
  refine bodyPost_ret (v := .tuple #[.float .f64 f, .int .i64 (l.length : Int), .nilIface]) ?_ rfl ⟨rfl, rfl⟩
  simp [results, Tryz.results62, go_sem]

set_option maxRecDepth 100000 in
set_option maxHeartbeats 8000000 in
theorem parse_ok (w : World) (l : List UInt8) (f : Nat) (P : World → Prop)
    (h : Calls Tryz.prog 62 #[.string (st l)] w fun e w' => e = .returned (.tuple #[.float .f64 f, .int .i64 (l.length : Int), .nilIface]) ∧ P w') :
    Calls Tryz.prog 24 #[.string (st l), .int .i64 64] w fun e w' => e = .returned (.tuple #[.float .f64 f, .nilIface]) ∧ P w' := by
  have hsz := st_size l
  have h1 : Calls Tryz.prog 49 #[.string (st l), .int .i64 64] w fun e w' => e = .returned (.tuple #[.float .f64 f, .int .i64 (l.length : Int), .nilIface]) ∧ P w' := by
    have H := Hid_mk h
    clear h
    go_enter Tryz.func49, Tryz.ntmps49
    go_wp2_with fail
    with_reducible refine H.out.mono ?_
    rintro e1 w1 ⟨rfl, hp⟩
    have HP := Hid_mk hp
    clear hp
    go_wp2
    refine bodyPost_ret (v := .tuple #[.float .f64 f, .int .i64 (l.length : Int), .nilIface]) ?_ rfl ⟨rfl, HP.out⟩
    simp [results, Tryz.results49, go_sem]
  have h2 : Calls Tryz.prog 40 #[.string (st l), .int .i64 64] w fun e w' => e = .returned (.tuple #[.float .f64 f, .nilIface]) ∧ P w' := by
    have H := Hid_mk h1
    have hlen : ((l.length : Int) != (l.length : Int)) = false := by simp
    clear h h1
    go_enter Tryz.func40, Tryz.ntmps40
    go_wp2_with fail
    with_reducible refine H.out.mono ?_
    rintro e1 w1 ⟨rfl, hp⟩
    have HP := Hid_mk hp
    clear hp
    go_wp2
    refine bodyPost_ret (v := .tuple #[.float .f64 f, .nilIface]) ?_ rfl ⟨rfl, HP.out⟩
    simp [results, Tryz.results40, go_sem]
  have H := Hid_mk h2
  clear h h1 h2
  go_enter Tryz.func24, Tryz.ntmps24
  go_wp2_with fail
  with_reducible refine H.out.mono ?_
  rintro e1 w1 ⟨rfl, hp⟩
  have HP := Hid_mk hp
  clear hp
  go_wp2
  refine bodyPost_ret (v := .tuple #[.float .f64 f, .nilIface]) ?_ rfl ⟨rfl, HP.out⟩
  simp [results, Tryz.results24, go_sem]

end Go.Proofs.YtgnddabdjjkgiaaGreatDoor.rd

namespace Go.Proofs.YtgnddabdjjkgiaaGreatDoor.fmtf
open Go.RowKit Go.Proofs.YtgnddabdjjkgiaaGreatDoor.sum Go.Proofs.YtgnddabdjjkgiaaGreatDoor.kept Go.Proofs.YtgnddabdjjkgiaaGreatDoor.app Go.Proofs.YtgnddabdjjkgiaaGreatDoor.writer Go.Proofs.YtgnddabdjjkgiaaGreatDoor.known
set_option linter.unusedVariables false
attribute [local go_sem] run_fbits

set_option maxRecDepth 100000 in
set_option maxHeartbeats 4000000 in
theorem efg_zero (base : Nat) (w : World) (v0 : Value) (hd : Dst base w v0 w v0 []) :
    Calls Tryz.prog 74 #[v0, .bool false, .slice none 0 0, .int .i64 0, .int .i64 0, .int .i64 0, .int .u8 102, .bool false] w (EfPost base w v0 [48]) := by
  have HD := Hid_mk hd
  clear hd
  go_enter Tryz.func74, Tryz.ntmps74
  go_wp2_with (at_builtin; (refine wpList_append_bs _ rfl _ _ rfl base _ [] rfl (HD.out.owns.alloc _) _ [48] rfl (bs_one _ 48) ?c1 ?c2 ?_))
  case c1 => simp
  case c2 => have h8 := HD.out.room; simp; omega
  intro v1 w1 happ
  have HD1 := Hid_mk (HD.out.push happ)
  clear happ
  go_wp2
  go_ret
  exact ⟨v1, rfl, HD1.out⟩

set_option maxRecDepth 100000 in
set_option maxHeartbeats 4000000 in
theorem ftoa_zero (base : Nat) (w : World) (v0 : Value) (hd : Dst base w v0 w v0 []) :
    Calls Tryz.prog 59 #[v0, .float .f64 0, .int .u8 102, .int .i64 0] w (EfPost base w v0 [48]) := by
  have HE := Hid_mk fun W (hk : Kp No w W) => efg_zero base W v0 (hd.at hk)
  have HD := Hid_mk hd
  have q1 : bits .and .i64 0 2047 = 0 := by decide +kernel
  have q2 : bits .and .u64 0 4503599627370495 = 0 := by decide +kernel
  clear hd
  go_enter Tryz.func59, Tryz.ntmps59
  go_wp2_with fail
  go_quiet (fail)
  go_wp2_with fail
  with_reducible refine (HE.out _ ((Kp.refl No w).drewN nq)).mono ?_
  rintro e w2 ⟨v2, rfl, hd2⟩
  have HD2 := Hid_mk (hd2.back ((Kp.refl No w).drewN nq) HD.out.room)
  clear hd2
  go_wp2
  go_ret
  exact ⟨v2, rfl, HD2.out⟩

/-- FormatFloat of 0 -/
theorem ff_zero (W : World) : Calls Tryz.prog 28 #[.float .f64 0, .int .u8 102, .int .i64 0, .int .i64 64] W (TxPost W [48]) :=
  ff_any W 0 102 0 [48] (iff_any W 0 102 0 [48] (by omega) (by omega) fun W' v0 hk hd hv => ftoa_zero W.heap.size W' v0 hd)

end Go.Proofs.YtgnddabdjjkgiaaGreatDoor.fmtf

namespace Go.Proofs.YtgnddabdjjkgiaaGreatDoor.hex
open Go.RowKit Go.Proofs.YtgnddabdjjkgiaaGreatDoor.sum Go.Proofs.YtgnddabdjjkgiaaGreatDoor.kept Go.Proofs.YtgnddabdjjkgiaaGreatDoor.app Go.Proofs.YtgnddabdjjkgiaaGreatDoor.writer Go.Proofs.YtgnddabdjjkgiaaGreatDoor.known
set_option linter.unusedVariables false

def hexd (d : Nat) : UInt8 := if d < 10 then (48 + d).toUInt8 else (87 + d).toUInt8
def hexs (n : Nat) : List UInt8 := if h : n < 16 then [hexd n] else hexs (n / 16) ++ [hexd (n % 16)]
termination_by n
decreasing_by omega

theorem hexs_small {n : Nat} (h : n < 16) : hexs n = [hexd n] := by rw [hexs]; simp [h]
theorem hexs_big {n : Nat} (h : ¬ n < 16) : hexs n = hexs (n / 16) ++ [hexd (n % 16)] := by rw [hexs]; simp [h]
theorem hexs_len (n k : Nat) (hk : n < 16 ^ k) (h1 : 0 < k) : (hexs n).length ≤ k := by
  induction k generalizing n with
  | zero => omega
  | succ k ih =>
    by_cases h : n < 16
    · rw [hexs_small h]; simp
    · rw [hexs_big h, List.length_append]
      have hk0 : 0 < k := by
        rcases Nat.eq_zero_or_pos k with rfl | h2
        · simp at hk; omega
        · exact h2
      have := ih (n / 16) (by rw [Nat.pow_succ] at hk; omega) hk0
      simp; omega
theorem hexs_pos (n : Nat) : 0 < (hexs n).length := by
  by_cases h : n < 16
  · rw [hexs_small h]; simp
  · rw [hexs_big h]; simp

def digits : ByteArray := ⟨#[48, 49, 50, 51, 52, 53, 54, 55, 56, 57, 97, 98, 99, 100, 101, 102, 103, 104, 105, 106, 107, 108, 109, 110, 111, 112, 113, 114, 115, 116, 117, 118, 119, 120, 121, 122]⟩
theorem digits_at : ∀ k : Fin 16, digits[k.val]? = some (hexd k.val) := by decide +kernel
theorem run_digit (d : Nat) (hd : d < 16) (k : IntKind) (w : World) : (Instr.index 9 (.string digits) (.int k (d : Int))).run Tryz.prog w = .ok (B (hexd d)) w := by
  have hs : digits.size = 36 := by decide
  rw [run_index_string w 9 digits k _ Tryz.underlying9, dif_pos ⟨by omega, by rw [hs]; omega⟩]
  have h := digits_at ⟨d, hd⟩
  simp only at h
  have e : ((d : Int)).toNat = d := by omega
  have h2 : digits[d]'(by rw [hs]; omega) = hexd d := by
    rw [ByteArray.getElem?_lt' digits d (by rw [hs]; omega)] at h
    exact Option.some.inj h
  simp only [e, h2]
  rfl

theorem and15 (m : Nat) (hm : m < 18446744073709551616) : bits .and .u64 (m : Int) 15 = ((m % 16 : Nat) : Int) := by
  have := u64_and_nat m 15 hm (by omega)
  rw [show ((15 : Nat) : Int) = 15 from rfl] at this
  rw [this, show 15 = 2 ^ 4 - 1 by rfl, Nat.and_two_pow_sub_one_eq_mod]

end Go.Proofs.YtgnddabdjjkgiaaGreatDoor.hex

namespace Go.Proofs.YtgnddabdjjkgiaaGreatDoor.unseal
open Go.RowKit Go.Proofs.YtgnddabdjjkgiaaGreatDoor.sum Go.Proofs.YtgnddabdjjkgiaaGreatDoor.kept Go.Proofs.YtgnddabdjjkgiaaGreatDoor.app Go.Proofs.YtgnddabdjjkgiaaGreatDoor.writer Go.Proofs.YtgnddabdjjkgiaaGreatDoor.clone Go.Proofs.YtgnddabdjjkgiaaGreatDoor.known
set_option linter.unusedVariables false

/-- behind a draw everything reads as before -/
theorem bs_drewN {w : World} {v : Value} {bs : List UInt8} (n : Nat) (h : Bs w v bs) : Bs (w.drewN n) v bs := bs_no h ((Kp.refl _ _).drewN n)

/-- a cut of a slice of bytes -/
theorem bs_take {w : World} {b : Option Addr} {len cap : Nat} {bs : List UInt8} (h : Bs w (.slice b len cap) bs) (k : Nat) (hk : k ≤ len) : Bs w (.slice b k cap) (bs.take k) := by
  obtain ⟨a, c, e, h1, h2, h3⟩ := h
  simp only [Value.slice.injEq] at e
  obtain ⟨rfl, rfl, rfl⟩ := e
  refine ⟨b, cap, by rw [List.length_take, Nat.min_eq_left hk], by rw [List.length_take]; omega, h2, fun hne => ?_⟩
  obtain ⟨B, o, rfl, hc⟩ := h3 (by intro e; subst e; simp at hne)
  refine ⟨B, o, rfl, fun i hi => ?_⟩
  rw [List.length_take] at hi
  rw [hc i (by omega)]
  simp [List.getD, show i < k by omega]

theorem bs_drop {w : World} {b o len cap : Nat} {bs : List UInt8} (h : Bs w (.slice (some ⟨b, o, none⟩) len cap) bs) (k : Nat) (hk : k ≤ len) (ao : Option Addr) (hao : ¬ k = cap → ao = some ⟨b, o + k, none⟩) : Bs w (.slice ao (len - k) (cap - k)) (bs.drop k) := by
  obtain ⟨a, c, e, h1, h2, h3⟩ := h
  simp only [Value.slice.injEq] at e
  obtain ⟨rfl, rfl, rfl⟩ := e
  refine ⟨ao, _, by rw [List.length_drop], by rw [List.length_drop]; omega, by omega, fun hne => ?_⟩
  have hlt : k < bs.length := by
    rcases Nat.lt_or_ge k bs.length with h | h
    · exact h
    · rw [List.drop_of_length_le h] at hne; exact absurd rfl hne
  obtain ⟨B, o', e, hc⟩ := h3 (by intro e; subst e; simp at hlt)
  cases e
  refine ⟨_, _, hao (by omega), fun i hi => ?_⟩
  rw [List.length_drop] at hi
  rw [Nat.add_assoc, hc (k + i) (by omega)]
  simp [List.getD]

end Go.Proofs.YtgnddabdjjkgiaaGreatDoor.unseal

namespace Go.Proofs.YtgnddabdjjkgiaaGreatDoor.hex
open Go.RowKit Go.Proofs.YtgnddabdjjkgiaaGreatDoor.sum Go.Proofs.YtgnddabdjjkgiaaGreatDoor.kept Go.Proofs.YtgnddabdjjkgiaaGreatDoor.app Go.Proofs.YtgnddabdjjkgiaaGreatDoor.writer Go.Proofs.YtgnddabdjjkgiaaGreatDoor.known
set_option linter.unusedVariables false

/-- the one number of a table of package math/bits that is read -/
def Tz (w : World) : Prop := w.cell? ⟨13, 15, none⟩ = some (.int .u8 4)
theorem Tz.kept {S : Nat → Prop} {w w' : World} (h : Tz w) (hk : Kp S w w') (hs : ¬ S 13) : Tz w' := hk.cell' h hs
theorem Tz.no {w w' : World} (h : Tz w) (hk : Kp No w w') : Tz w' := h.kept hk id

set_option maxRecDepth 100000 in
set_option maxHeartbeats 1000000 in
theorem tz_any (w : World) (h : Tz w) : Calls Tryz.prog 135 #[.int .u64 16] w fun e w' => e = .returned (.int .i64 4) ∧ w = w' := by
  have q1 : bits BinOp.and IntKind.u64 16 (IntKind.u64.wrap (-16)) = 16 := by decide +kernel
  have q2 : IntKind.u64.wrap (16 * 285870213051353865) / 288230376151711744 = 15 := by decide +kernel
  unfold Tz at h
  go_enter Tryz.func135, Tryz.ntmps135
  go_wp2
  go_ret
  exact ⟨rfl, rfl⟩

/-- the loop: what is left, and the digits that lie at the array's end -/
def BitsRel (w : World) (g n : Nat) (u i : Value) (wr : World) : Prop :=
  ∃ (m j : Nat) (ds : List UInt8), u = .int .u64 (m : Int) ∧ i = .int .i64 (j : Int) ∧ j + ds.length = 65 ∧ m < 18446744073709551616 ∧ hexs m ++ ds = hexs n ∧
    (∀ o, o < 65 → ∃ v, wr.cell? ⟨g, o, none⟩ = some v) ∧ (∀ o, wr.frozen? ⟨g, o, none⟩ = false) ∧ (∀ k, k < ds.length → wr.cell? ⟨g, j + k, none⟩ = some (B (ds.getD k 0))) ∧ Kp No w wr

theorem BitsRel.start (w : World) (n : Nat) (hn : n < 18446744073709551616) : BitsRel w w.heap.size n (.int .u64 (n : Int)) (.int .i64 65) (w.alloc (Obj.cells Tryz.zeroCells156 156)) := by
  refine ⟨n, 65, [], rfl, rfl, rfl, hn, by simp, fun o ho => ?_, fun o => ?_, fun k hk => by simp at hk, (Kp.refl No w).alloc _⟩
  · rw [World.cell?_alloc_mark]
    have hz : Tryz.zeroCells156.size = 65 := by decide +kernel
    exact ⟨Tryz.zeroCells156[o], by simp [hz, ho]; rfl⟩
  · simp
theorem BitsRel.push {w wr : World} {g j : Nat} {ds : List UInt8} (d : UInt8) (hg : w.heap.size ≤ g) (hj : j + 1 + ds.length = 65)
    (h1 : ∀ o, o < 65 → ∃ v, wr.cell? ⟨g, o, none⟩ = some v) (h2 : ∀ o, wr.frozen? ⟨g, o, none⟩ = false) (h3 : ∀ k, k < ds.length → wr.cell? ⟨g, j + 1 + k, none⟩ = some (B (ds.getD k 0))) (h4 : Kp No w wr) :
    (∀ o, o < 65 → ∃ v, (wr.setCell ⟨g, j, none⟩ (B d)).cell? ⟨g, o, none⟩ = some v) ∧ (∀ o, (wr.setCell ⟨g, j, none⟩ (B d)).frozen? ⟨g, o, none⟩ = false) ∧
    (∀ k, k < (d :: ds).length → (wr.setCell ⟨g, j, none⟩ (B d)).cell? ⟨g, j + k, none⟩ = some (B ((d :: ds).getD k 0))) ∧ Kp No w (wr.setCell ⟨g, j, none⟩ (B d)) := by
  obtain ⟨v0, hv0⟩ := h1 j (by omega)
  refine ⟨fun o ho => ?_, fun o => by rw [World.frozen?_setCell]; exact h2 o, fun k hk => ?_, h4.setCell (fun hp => absurd hp (by simp; omega)) _⟩
  · by_cases e : o = j
    · subst e; exact ⟨_, World.cell?_setCell_same wr _ _ hv0⟩
    · obtain ⟨v, hv⟩ := h1 o ho
      exact ⟨v, (World.cell?_setCell_other wr _ _ _ (fun e' => e (by injection e' with _ e2 _; exact e2.symm))).trans hv⟩
  · cases k with
    | zero => exact World.cell?_setCell_same wr _ _ hv0
    | succ k =>
      have hk' : k < ds.length := by simpa using hk
      rw [World.cell?_setCell_other wr _ _ _ (fun e' => by injection e' with _ e2 _; omega), show j + (k + 1) = j + 1 + k by omega]
      exact h3 k hk'
theorem BitsRel.text {wr : World} {g j : Nat} {ds : List UInt8} (hj : j + ds.length = 65) (h3 : ∀ k, k < ds.length → wr.cell? ⟨g, j + k, none⟩ = some (B (ds.getD k 0))) :
    Bs wr (.slice (some ⟨g, j, none⟩) (65 - j) (65 - j)) ds := by
  have e : 65 - j = ds.length := by omega
  rw [e]
  exact ⟨_, _, rfl, Nat.le_refl _, by unfold maxLen; omega, fun _ => ⟨g, j, rfl, h3⟩⟩

theorem dig_at (s : ByteArray) (hs : s = digits) (d : Nat) (hd : d < 16) (h' : d < s.size) : Value.int .u8 ((s[d]'h').toNat : Int) = B (hexd d) := by
  subst hs
  have h := digits_at ⟨d, hd⟩
  simp only at h
  rw [ByteArray.getElem?_lt' digits d h'] at h
  have h2 : digits[d] = hexd d := Option.some.inj h
  rw [← h2]
  rfl
theorem run_from (g j : Nat) (hj : j < 65) (w : World) : (Instr.sliceAt 156 (.pointer (some ⟨g, 0, none⟩)) (some (.int .i64 (j : Int))) none none).run Tryz.prog w = .ok (.slice (some ⟨g, j, none⟩) (65 - j) (65 - j)) w := by
  have hu : Tryz.prog.underlying 156 = some (.array (Tryz.prog.arrayLen 156) (Tryz.prog.elem 156)) := by kernel_rfl
  have hl : Tryz.prog.arrayLen 156 = 65 := by kernel_rfl
  have hs : ∀ W, (sizeOf (Tryz.prog.elem 156)).run Tryz.prog W = .ok 1 W := fun W => by kernel_rfl
  rw [run_sliceAt_array_l w 156 ⟨g, 0, none⟩ hu .i64 (j : Int) (by omega) (by rw [hl]; omega), hs]
  show Result.ok (slicedAt _ _ _ _ _) w = _
  rw [hl]
  unfold slicedAt
  rw [if_neg (by omega), addr_add]
  simp

set_option maxRecDepth 100000 in
set_option maxHeartbeats 4000000 in
theorem bits_any (n : Nat) (hn : n < 18446744073709551616) (w : World) (ht : Tz w) :
    Calls Tryz.prog 130 #[.slice none 0 0, .int .u64 (n : Int), .int .i64 16, .bool false, .bool false] w fun e w' => e = .returned (.tuple #[.slice none 0 0, .string ⟨(hexs n).toArray⟩]) ∧ Kp No w w' := by
  have HN := Hid_mk (hexs_len n 16 (by omega) (by omega))
  have HT : Hid (Tz (w.alloc (Obj.cells Tryz.zeroCells156 156))) := Hid_mk (ht.no ((Kp.refl No w).alloc _))
  have HS := Hid_mk (BitsRel.start w n hn)
  clear hn ht
  go_enter Tryz.func130, Tryz.ntmps130
  have q1 : (bits BinOp.and IntKind.i64 16 15 == 0) = true := by decide +kernel
  go_wp2_with (first | (go_at_call 135; refine (tz_any _ HT.out).mono ?_; rintro e w' ⟨rfl, rfl⟩) | go_in)
  obtain ⟨g, hg⟩ : ∃ g, g = w.heap.size := ⟨_, rfl⟩
  have HG := Hid_mk hg
  rw [← hg] at HS ⊢
  clear hg q1 HT
  go_loopw [1, 13] (fun u i wr => BitsRel w g n u i wr) (fun u _ _ => (intOf u).toNat)
  case atStart => exact HS.out
  case round =>
    obtain ⟨m, j, ds, rfl, rfl, hj, hm, hh, h1, h2, h3, h4⟩ := hrel
    have hpos := hexs_pos m
    have hds : ds.length ≤ 15 := by
      have h := HN.out; rw [← hh, List.length_append] at h; omega
    obtain ⟨j, rfl⟩ : ∃ j', j = j' + 1 := ⟨j - 1, by omega⟩
    obtain ⟨v0, hv0⟩ := h1 j (by omega)
    have hf0 := h2 j
    have hjl : j < 65 := by omega
    have hr := fun d hd w => run_digit d hd .u64 w
    by_cases hlt : m < 16
    · have hrd := fun w => run_digit m hlt .u64 w
      have hp := BitsRel.push (w := w) (hexd m) (by rw [HG.out]; exact Nat.le_refl _) hj h1 h2 h3 h4
      have HP := Hid_mk hp
      have HX := Hid_mk (BitsRel.text (ds := hexd m :: ds) (by simp; omega) hp.2.2.1)
      have HH := Hid_mk hh
      have HJ := Hid_mk hj
      clear hp h1 h2 h3 h4 hh hr hj hm hpos hds
      have hlt' : ¬ (16 : Int) ≤ (m : Int) := by omega
      have hfr := run_from g j hjl
      go_wp2
      rw [dig_at _ (by rfl) m hlt, conv_bs HX.out]
      go_wp2
      go_ret2
      refine ⟨?_, HP.out.2.2.2⟩
      rw [← HH.out, hexs_small hlt]
      rfl
    · have hrd := fun w => run_digit (m % 16) (by omega) .u64 w
      have ha := and15 m hm
      have hp := BitsRel.push (w := w) (hexd (m % 16)) (by rw [HG.out]; exact Nat.le_refl _) hj h1 h2 h3 h4
      have HP := Hid_mk hp
      have HH := Hid_mk hh
      have HJ := Hid_mk hj
      have HM := Hid_mk hm
      clear hp h1 h2 h3 h4 hh hr hj hm hpos hds
      have hlt' : (16 : Int) ≤ (m : Int) := by omega
      go_wp2
      rw [dig_at _ (by rfl) (m % 16) (by omega)]
      exact ⟨⟨m / 16, j, hexd (m % 16) :: ds, by go_num, rfl, by have := HJ.out; simp; omega, by have := HM.out; omega, by rw [← HH.out, hexs_big hlt, List.append_assoc]; rfl, HP.out.1, HP.out.2.1, HP.out.2.2.1, HP.out.2.2.2⟩, by simp [intOf]; omega⟩

end Go.Proofs.YtgnddabdjjkgiaaGreatDoor.hex

namespace Go.Proofs.YtgnddabdjjkgiaaGreatDoor.oct
open Go.RowKit Go.Proofs.YtgnddabdjjkgiaaGreatDoor.sum Go.Proofs.YtgnddabdjjkgiaaGreatDoor.kept Go.Proofs.YtgnddabdjjkgiaaGreatDoor.app Go.Proofs.YtgnddabdjjkgiaaGreatDoor.writer Go.Proofs.YtgnddabdjjkgiaaGreatDoor.known
set_option linter.unusedVariables false

def octd (d : Nat) : UInt8 := if d < 10 then (48 + d).toUInt8 else (87 + d).toUInt8
def octs (n : Nat) : List UInt8 := if h : n < 8 then [octd n] else octs (n / 8) ++ [octd (n % 8)]
termination_by n
decreasing_by omega

theorem octs_small {n : Nat} (h : n < 8) : octs n = [octd n] := by rw [octs]; simp [h]
theorem octs_big {n : Nat} (h : ¬ n < 8) : octs n = octs (n / 8) ++ [octd (n % 8)] := by rw [octs]; simp [h]
theorem octs_len (n k : Nat) (hk : n < 8 ^ k) (h1 : 0 < k) : (octs n).length ≤ k := by
  induction k generalizing n with
  | zero => omega
  | succ k ih =>
    by_cases h : n < 8
    · rw [octs_small h]; simp
    · rw [octs_big h, List.length_append]
      have hk0 : 0 < k := by
        rcases Nat.eq_zero_or_pos k with rfl | h2
        · simp at hk; omega
        · exact h2
      have := ih (n / 8) (by rw [Nat.pow_succ] at hk; omega) hk0
      simp; omega
theorem octs_pos (n : Nat) : 0 < (octs n).length := by
  by_cases h : n < 8
  · rw [octs_small h]; simp
  · rw [octs_big h]; simp

def digits : ByteArray := ⟨#[48, 49, 50, 51, 52, 53, 54, 55, 56, 57, 97, 98, 99, 100, 101, 102, 103, 104, 105, 106, 107, 108, 109, 110, 111, 112, 113, 114, 115, 116, 117, 118, 119, 120, 121, 122]⟩
theorem digits_at : ∀ k : Fin 16, digits[k.val]? = some (octd k.val) := by decide +kernel
theorem run_digit (d : Nat) (hd : d < 16) (k : IntKind) (w : World) : (Instr.index 9 (.string digits) (.int k (d : Int))).run Tryz.prog w = .ok (B (octd d)) w := by
  have hs : digits.size = 36 := by decide
  rw [run_index_string w 9 digits k _ Tryz.underlying9, dif_pos ⟨by omega, by rw [hs]; omega⟩]
  have h := digits_at ⟨d, hd⟩
  simp only at h
  have e : ((d : Int)).toNat = d := by omega
  have h2 : digits[d]'(by rw [hs]; omega) = octd d := by
    rw [ByteArray.getElem?_lt' digits d (by rw [hs]; omega)] at h
    exact Option.some.inj h
  simp only [e, h2]
  rfl

theorem and7 (m : Nat) (hm : m < 18446744073709551616) : bits .and .u64 (m : Int) 7 = ((m % 8 : Nat) : Int) := by
  have := u64_and_nat m 7 hm (by omega)
  rw [show ((7 : Nat) : Int) = 7 from rfl] at this
  rw [this, show 7 = 2 ^ 3 - 1 by rfl, Nat.and_two_pow_sub_one_eq_mod]

end Go.Proofs.YtgnddabdjjkgiaaGreatDoor.oct

namespace Go.Proofs.YtgnddabdjjkgiaaGreatDoor.oct
open Go.RowKit Go.Proofs.YtgnddabdjjkgiaaGreatDoor.sum Go.Proofs.YtgnddabdjjkgiaaGreatDoor.kept Go.Proofs.YtgnddabdjjkgiaaGreatDoor.app Go.Proofs.YtgnddabdjjkgiaaGreatDoor.writer Go.Proofs.YtgnddabdjjkgiaaGreatDoor.known
set_option linter.unusedVariables false

/-- the one number of a table of package math/bits that is read -/
def Tz (w : World) : Prop := w.cell? ⟨13, 7, none⟩ = some (.int .u8 3)
theorem Tz.kept {S : Nat → Prop} {w w' : World} (h : Tz w) (hk : Kp S w w') (hs : ¬ S 13) : Tz w' := hk.cell' h hs
theorem Tz.no {w w' : World} (h : Tz w) (hk : Kp No w w') : Tz w' := h.kept hk id

set_option maxRecDepth 100000 in
set_option maxHeartbeats 1000000 in
theorem tz_any (w : World) (h : Tz w) : Calls Tryz.prog 135 #[.int .u64 8] w fun e w' => e = .returned (.int .i64 3) ∧ w = w' := by
  have q1 : bits BinOp.and IntKind.u64 8 (IntKind.u64.wrap (-8)) = 8 := by decide +kernel
  have q2 : IntKind.u64.wrap (8 * 285870213051353865) / 288230376151711744 = 7 := by decide +kernel
  unfold Tz at h
  go_enter Tryz.func135, Tryz.ntmps135
  go_wp2
  go_ret
  exact ⟨rfl, rfl⟩

/-- the loop: what is left, and the digits that lie at the array's end -/
def BitsRel (w : World) (g n : Nat) (u i : Value) (wr : World) : Prop :=
  ∃ (m j : Nat) (ds : List UInt8), u = .int .u64 (m : Int) ∧ i = .int .i64 (j : Int) ∧ j + ds.length = 65 ∧ m < 18446744073709551616 ∧ octs m ++ ds = octs n ∧
    (∀ o, o < 65 → ∃ v, wr.cell? ⟨g, o, none⟩ = some v) ∧ (∀ o, wr.frozen? ⟨g, o, none⟩ = false) ∧ (∀ k, k < ds.length → wr.cell? ⟨g, j + k, none⟩ = some (B (ds.getD k 0))) ∧ Kp No w wr

theorem BitsRel.start (w : World) (n : Nat) (hn : n < 18446744073709551616) : BitsRel w w.heap.size n (.int .u64 (n : Int)) (.int .i64 65) (w.alloc (Obj.cells Tryz.zeroCells156 156)) := by
  refine ⟨n, 65, [], rfl, rfl, rfl, hn, by simp, fun o ho => ?_, fun o => ?_, fun k hk => by simp at hk, (Kp.refl No w).alloc _⟩
  · rw [World.cell?_alloc_mark]
    have hz : Tryz.zeroCells156.size = 65 := by decide +kernel
    exact ⟨Tryz.zeroCells156[o], by simp [hz, ho]; rfl⟩
  · simp
theorem BitsRel.push {w wr : World} {g j : Nat} {ds : List UInt8} (d : UInt8) (hg : w.heap.size ≤ g) (hj : j + 1 + ds.length = 65)
    (h1 : ∀ o, o < 65 → ∃ v, wr.cell? ⟨g, o, none⟩ = some v) (h2 : ∀ o, wr.frozen? ⟨g, o, none⟩ = false) (h3 : ∀ k, k < ds.length → wr.cell? ⟨g, j + 1 + k, none⟩ = some (B (ds.getD k 0))) (h4 : Kp No w wr) :
    (∀ o, o < 65 → ∃ v, (wr.setCell ⟨g, j, none⟩ (B d)).cell? ⟨g, o, none⟩ = some v) ∧ (∀ o, (wr.setCell ⟨g, j, none⟩ (B d)).frozen? ⟨g, o, none⟩ = false) ∧
    (∀ k, k < (d :: ds).length → (wr.setCell ⟨g, j, none⟩ (B d)).cell? ⟨g, j + k, none⟩ = some (B ((d :: ds).getD k 0))) ∧ Kp No w (wr.setCell ⟨g, j, none⟩ (B d)) := by
  obtain ⟨v0, hv0⟩ := h1 j (by omega)
  refine ⟨fun o ho => ?_, fun o => by rw [World.frozen?_setCell]; exact h2 o, fun k hk => ?_, h4.setCell (fun hp => absurd hp (by simp; omega)) _⟩
  · by_cases e : o = j
    · subst e; exact ⟨_, World.cell?_setCell_same wr _ _ hv0⟩
    · obtain ⟨v, hv⟩ := h1 o ho
      exact ⟨v, (World.cell?_setCell_other wr _ _ _ (fun e' => e (by injection e' with _ e2 _; exact e2.symm))).trans hv⟩
  · cases k with
    | zero => exact World.cell?_setCell_same wr _ _ hv0
    | succ k =>
      have hk' : k < ds.length := by simpa using hk
      rw [World.cell?_setCell_other wr _ _ _ (fun e' => by injection e' with _ e2 _; omega), show j + (k + 1) = j + 1 + k by omega]
      exact h3 k hk'
theorem BitsRel.text {wr : World} {g j : Nat} {ds : List UInt8} (hj : j + ds.length = 65) (h3 : ∀ k, k < ds.length → wr.cell? ⟨g, j + k, none⟩ = some (B (ds.getD k 0))) :
    Bs wr (.slice (some ⟨g, j, none⟩) (65 - j) (65 - j)) ds := by
  have e : 65 - j = ds.length := by omega
  rw [e]
  exact ⟨_, _, rfl, Nat.le_refl _, by unfold maxLen; omega, fun _ => ⟨g, j, rfl, h3⟩⟩

theorem dig_at (s : ByteArray) (hs : s = digits) (d : Nat) (hd : d < 16) (h' : d < s.size) : Value.int .u8 ((s[d]'h').toNat : Int) = B (octd d) := by
  subst hs
  have h := digits_at ⟨d, hd⟩
  simp only at h
  rw [ByteArray.getElem?_lt' digits d h'] at h
  have h2 : digits[d] = octd d := Option.some.inj h
  rw [← h2]
  rfl
theorem run_from (g j : Nat) (hj : j < 65) (w : World) : (Instr.sliceAt 156 (.pointer (some ⟨g, 0, none⟩)) (some (.int .i64 (j : Int))) none none).run Tryz.prog w = .ok (.slice (some ⟨g, j, none⟩) (65 - j) (65 - j)) w := by
  have hu : Tryz.prog.underlying 156 = some (.array (Tryz.prog.arrayLen 156) (Tryz.prog.elem 156)) := by kernel_rfl
  have hl : Tryz.prog.arrayLen 156 = 65 := by kernel_rfl
  have hs : ∀ W, (sizeOf (Tryz.prog.elem 156)).run Tryz.prog W = .ok 1 W := fun W => by kernel_rfl
  rw [run_sliceAt_array_l w 156 ⟨g, 0, none⟩ hu .i64 (j : Int) (by omega) (by rw [hl]; omega), hs]
  show Result.ok (slicedAt _ _ _ _ _) w = _
  rw [hl]
  unfold slicedAt
  rw [if_neg (by omega), addr_add]
  simp

set_option maxRecDepth 100000 in
set_option maxHeartbeats 4000000 in
theorem bits_any (n : Nat) (hn : n < 18446744073709551616) (w : World) (ht : Tz w) :
    Calls Tryz.prog 130 #[.slice none 0 0, .int .u64 (n : Int), .int .i64 8, .bool false, .bool false] w fun e w' => e = .returned (.tuple #[.slice none 0 0, .string ⟨(octs n).toArray⟩]) ∧ Kp No w w' := by
  have HN := Hid_mk (octs_len n 22 (by omega) (by omega))
  have HT : Hid (Tz (w.alloc (Obj.cells Tryz.zeroCells156 156))) := Hid_mk (ht.no ((Kp.refl No w).alloc _))
  have HS := Hid_mk (BitsRel.start w n hn)
  clear hn ht
  go_enter Tryz.func130, Tryz.ntmps130
  have q1 : (bits BinOp.and IntKind.i64 8 7 == 0) = true := by decide +kernel
  go_wp2_with (first | (go_at_call 135; refine (tz_any _ HT.out).mono ?_; rintro e w' ⟨rfl, rfl⟩) | go_in)
  obtain ⟨g, hg⟩ : ∃ g, g = w.heap.size := ⟨_, rfl⟩
  have HG := Hid_mk hg
  rw [← hg] at HS ⊢
  clear hg q1 HT
  go_loopw [1, 13] (fun u i wr => BitsRel w g n u i wr) (fun u _ _ => (intOf u).toNat)
  case atStart => exact HS.out
  case round =>
    obtain ⟨m, j, ds, rfl, rfl, hj, hm, hh, h1, h2, h3, h4⟩ := hrel
    have hpos := octs_pos m
    have hds : ds.length ≤ 21 := by
      have h := HN.out; rw [← hh, List.length_append] at h; omega
    obtain ⟨j, rfl⟩ : ∃ j', j = j' + 1 := ⟨j - 1, by omega⟩
    obtain ⟨v0, hv0⟩ := h1 j (by omega)
    have hf0 := h2 j
    have hjl : j < 65 := by omega
    have hr := fun d hd w => run_digit d hd .u64 w
    by_cases hlt : m < 8
    · have hrd := fun w => run_digit m (by omega) .u64 w
      have hp := BitsRel.push (w := w) (octd m) (by rw [HG.out]; exact Nat.le_refl _) hj h1 h2 h3 h4
      have HP := Hid_mk hp
      have HX := Hid_mk (BitsRel.text (ds := octd m :: ds) (by simp; omega) hp.2.2.1)
      have HH := Hid_mk hh
      have HJ := Hid_mk hj
      clear hp h1 h2 h3 h4 hh hr hj hm hpos hds
      have hlt' : ¬ (8 : Int) ≤ (m : Int) := by omega
      have hfr := run_from g j hjl
      go_wp2
      rw [dig_at _ (by rfl) m (by omega), conv_bs HX.out]
      go_wp2
      go_ret2
      refine ⟨?_, HP.out.2.2.2⟩
      rw [← HH.out, octs_small hlt]
      rfl
    · have hrd := fun w => run_digit (m % 8) (by omega) .u64 w
      have ha := and7 m hm
      have hp := BitsRel.push (w := w) (octd (m % 8)) (by rw [HG.out]; exact Nat.le_refl _) hj h1 h2 h3 h4
      have HP := Hid_mk hp
      have HH := Hid_mk hh
      have HJ := Hid_mk hj
      have HM := Hid_mk hm
      clear hp h1 h2 h3 h4 hh hr hj hm hpos hds
      have hlt' : (8 : Int) ≤ (m : Int) := by omega
      go_wp2
      rw [dig_at _ (by rfl) (m % 8) (by omega)]
      exact ⟨⟨m / 8, j, octd (m % 8) :: ds, by go_num, rfl, by have := HJ.out; simp; omega, by have := HM.out; omega, by rw [← HH.out, octs_big hlt, List.append_assoc]; rfl, HP.out.1, HP.out.2.1, HP.out.2.2.1, HP.out.2.2.2⟩, by simp [intOf]; omega⟩

end Go.Proofs.YtgnddabdjjkgiaaGreatDoor.oct

namespace Go.Proofs.YtgnddabdjjkgiaaGreatDoor.pf
open Go.RowKit Go.Lib Go.Proofs.YtgnddabdjjkgiaaGreatDoor.sum Go.Proofs.YtgnddabdjjkgiaaGreatDoor.kept Go.Proofs.YtgnddabdjjkgiaaGreatDoor.app Go.Proofs.YtgnddabdjjkgiaaGreatDoor.writer Go.Proofs.YtgnddabdjjkgiaaGreatDoor.known Go.Proofs.YtgnddabdjjkgiaaGreatDoor.str Go.Proofs.YtgnddabdjjkgiaaGreatDoor.fmtf
set_option linter.unusedVariables false

/-- powers of ten, as laid -/
def T10 (p : Int) : Nat × Nat := Pinned.pow10Rows.getD (p + 348).toNat (0, 0)
/-- what the walks read of the library's variables -/
structure Ld (w : World) : Prop where
  opt : w.cell? ⟨3, 0, none⟩ = some (.bool true)
  tn : ∀ n, n ≤ 18 → Tn w n
  pw : ∀ p, -348 ≤ p → p ≤ 347 → Pw w p (T10 p).1 (T10 p).2 ∧ (T10 p).1 < 18446744073709551616 ∧ (T10 p).2 < 18446744073709551616
  hx : hex.Tz w
  oc : oct.Tz w
theorem Ld.no {w w' : World} (h : Ld w) (hk : Kp No w w') : Ld w' :=
  ⟨hk.cell' h.opt id, fun n hn => (h.tn n hn).no hk, fun p h1 h2 => ⟨(h.pw p h1 h2).1.no hk, (h.pw p h1 h2).2⟩, h.hx.no hk, h.oc.no hk⟩

/-- FormatFloat at 'f' of a closed number -/
theorem ff_closed (W : World) (h : Ld W) (b : Nat) (prec : Int) (d : Nat) (p : Int) (S : List UInt8) (hb : b < 18446744073709551616) (hE : b / 4503599627370496 % 2048 ≠ 2047) (hM : mtN b ≠ 0) (hp1 : 0 ≤ prec) (hp2 : prec ≤ 1000) (hD : dgI b prec ≤ 18) (hx : fxI T10 b prec = ((d : Int), p)) (hd18 : d < 10 ^ 18) (hq1 : -900 ≤ p) (hq2 : p ≤ 900)
    (hS : outF (decide (9223372036854775808 ≤ b)) (dgt d (ndS d)) (if d = 0 then 0 else (ndS d : Int) + p) (if d = 0 then 0 else trimN (dgt d (ndS d)) (ndS d)) prec = S) :
    Calls Tryz.prog 28 #[.float .f64 b, .int .u8 102, .int .i64 prec, .int .i64 64] W (TxPost W S) := by
  refine ff_any W b 102 prec S (iff_any W b 102 prec S (by omega) hp2 fun W' v0 hk hd hv => ?_)
  have := ftoa_fix T10 W.heap.size W' v0 [] b prec hd (fun k e => (hv k e).2) (by simp) (h.no hk).opt (h.no hk).tn (h.no hk).pw hb hE hM hp1 hp2 hD d p hx hd18 hq1 hq2
  rw [List.nil_append, hS] at this
  exact this
/-- Digits of a closed number -/
theorem dg_closed (W : World) (h : Ld W) (b pb : Nat) (d : Nat) (p : Int) (S : List UInt8) (hk : kindB b = 0) (hn : nanB b = false) (hpb : plainB (truncB b) = pb) (hb : pb < 18446744073709551616) (hE : pb / 4503599627370496 % 2048 ≠ 2047) (hM : mtN pb ≠ 0) (hD : dgI pb 0 ≤ 18) (hx : fxI T10 pb 0 = ((d : Int), p)) (hd18 : d < 10 ^ 18) (hq1 : -900 ≤ p) (hq2 : p ≤ 900)
    (hS : outF (decide (9223372036854775808 ≤ pb)) (dgt d (ndS d)) (if d = 0 then 0 else (ndS d : Int) + p) (if d = 0 then 0 else trimN (dgt d (ndS d)) (ndS d)) 0 = S) :
    Calls Tryz.prog 12 #[.float .f64 b] W (TxPost W S) :=
  digits_fin W b S hk hn (by rw [hpb]; exact ff_closed W h pb 0 d p S hb hE hM (by omega) (by omega) hD hx hd18 hq1 hq2 hS)

end Go.Proofs.YtgnddabdjjkgiaaGreatDoor.pf
