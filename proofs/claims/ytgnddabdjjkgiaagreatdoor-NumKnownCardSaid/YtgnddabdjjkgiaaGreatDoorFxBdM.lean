/- internal/strconv.fixedWidthFloat: how great what it answers may be: FormatFloat at 'f' of any number that takes its road. Small whole numbers as floats, beside the great constants: plain arithmetic. Small whole numbers as floats: what printf asks of them. Whole numbers of any size below 2^53: their digits. Package printf: the digits of whole numbers, below nought too. internal/strconv.atof64exact: whole numbers; a closed one. -/
import Derived.Test.YtgnddabdjjkgiaaGreatDoorAtofSM
import Derived.Laws.BitsAllLaws
import Derived.Test.YtgnddabdjjkgiaaGreatDoorPfNumM
import Derived.Test.YtgnddabdjjkgiaaGreatDoorFtoaM

namespace Go.Proofs.YtgnddabdjjkgiaaGreatDoor.fmtf
open Go.RowKit Go.Lib Go.Proofs.YtgnddabdjjkgiaaGreatDoor.sum Go.Proofs.YtgnddabdjjkgiaaGreatDoor.kept Go.Proofs.YtgnddabdjjkgiaaGreatDoor.app Go.Proofs.YtgnddabdjjkgiaaGreatDoor.writer Go.Proofs.YtgnddabdjjkgiaaGreatDoor.known Go.Proofs.YtgnddabdjjkgiaaGreatDoor.pf
set_option linter.unusedVariables false

theorem or_one_le (a b : Nat) (hb : b ≤ 1) : a ||| b ≤ a + 1 := by
  have h : (a ||| b) / 2 = a / 2 := by
    rw [Nat.or_div_two, show b / 2 = 0 by omega, Nat.or_zero]
  omega
theorem orI_le (a b : Int) (ha : 0 ≤ a) (ha2 : a < 18446744073709551616) (hb : 0 ≤ b) (hb2 : b ≤ 1) : 0 ≤ bits .or .u64 a b ∧ bits .or .u64 a b ≤ a + 1 := by
  obtain ⟨n, rfl⟩ : ∃ n : Nat, a = (n : Int) := ⟨a.toNat, by omega⟩
  obtain ⟨k, rfl⟩ : ∃ k : Nat, b = (k : Int) := ⟨b.toNat, by omega⟩
  rw [u64_or_nat n k (by omega) (by omega)]
  have := or_one_le n k (by omega)
  omega
theorem and1_bd (a : Int) (ha : 0 ≤ a) (ha2 : a < 18446744073709551616) : 0 ≤ bits .and .u64 a 1 ∧ bits .and .u64 a 1 ≤ 1 := by
  obtain ⟨n, rfl⟩ : ∃ n : Nat, a = (n : Int) := ⟨a.toNat, by omega⟩
  have := u64_and_nat n 1 (by omega) (by omega)
  rw [show ((1 : Nat) : Int) = 1 from rfl] at this
  rw [this]
  have h := Nat.and_le_right (n := n) (m := 1)
  omega
theorem b2_bd (b : Bool) : 0 ≤ b2 b ∧ b2 b ≤ 1 := by unfold b2; split <;> omega
theorem divI_le (x : Int) (h : 0 ≤ x) (h2 : x < 18446744073709551616) : 0 ≤ divI x ∧ divI x ≤ x / 10 + 2 := by
  unfold divI
  have e : x.tdiv 10 = x / 10 := by rw [Int.tdiv_eq_ediv_of_nonneg h]
  have hw : IntKind.u64.wrap (x.tdiv 10) = x / 10 := by rw [e, IntKind.wrap_u64]; omega
  rw [hw]
  have a := and1_bd x h h2
  have o1 := orI_le (x / 10) (bits .and .u64 x 1) (by omega) (by omega) a.1 a.2
  have b := b2_bd (x % 10 != 0)
  have o2 := orI_le (bits .or .u64 (x / 10) (bits .and .u64 x 1)) (b2 (x % 10 != 0)) o1.1 (by omega) b.1 b.2
  omega
theorem usc_bd (H M M2 s : Nat) : 0 ≤ uscI H M M2 s ∧ uscI H M M2 s < 18446744073709551616 := by
  have w : ∀ a b, 0 ≤ bits .or .u64 a b ∧ bits .or .u64 a b < 18446744073709551616 := fun a b => by
    have h := bits_within .or .u64 a b
    simp [IntKind.min, IntKind.max, IntKind.signed, IntKind.bits] at h
    omega
  unfold uscI
  split
  · exact w _ _
  · exact w _ _
/-- small enough to be rounded -/
def Sm (u : Int) : Prop := 0 ≤ u ∧ u ≤ 3999999999999999997
theorem fwU_sm (m : Nat) (e : Int) (n : Nat) (hi lo : Nat) (hn : n ≤ 18) : Sm (fwU m e n hi lo).1 ∧ ((fwU m e n hi lo).2 = fwP e n ∨ (fwU m e n hi lo).2 = fwP e n - 1) := by
  have hb := usc_bd (m * hi / 18446744073709551616) (m * hi % 18446744073709551616) (m * lo / 18446744073709551616) (fwS e n).toNat
  have hp : 10 ^ n ≤ 10 ^ 18 := Nat.pow_le_pow_right (by omega) hn
  have hp1 : 0 < 10 ^ n := Nat.pow_pos (by omega)
  unfold fwU Sm
  generalize uscI (m * hi / 18446744073709551616) (m * hi % 18446744073709551616) (m * lo / 18446744073709551616) (fwS e n).toNat = u at *
  generalize 10 ^ n = t at *
  simp only [Nat.reducePow] at hp
  split
  · have := divI_le u hb.1 hb.2
    exact ⟨⟨this.1, by omega⟩, .inr rfl⟩
  · exact ⟨⟨hb.1, by omega⟩, .inl rfl⟩
theorem dvN_sm (prec : Int) : ∀ (f : Nat) (u p : Int), Sm u → Sm (dvN prec f u p).1 ∧ (dvN prec f u p).2 ≤ p ∧ min p prec ≤ (dvN prec f u p).2
  | 0, u, p, h => ⟨h, by show p ≤ p; omega, by show min p prec ≤ p; omega⟩
  | f + 1, u, p, h => by
    rw [dvN]
    split
    · have hd := divI_le u h.1 (by have := h.2; omega)
      have ih := dvN_sm prec f (divI u) (p - 1) ⟨hd.1, by have := h.2; omega⟩
      exact ⟨ih.1, by omega, by omega⟩
    · exact ⟨h, by show p ≤ p; omega, by show min p prec ≤ p; omega⟩
theorem rnd_sm (u : Int) (h : Sm u) : 0 ≤ rndI u ∧ rndI u < 1000000000000000000 := by
  obtain ⟨h1, h2⟩ := h
  unfold rndI
  have a := and1_bd (u / 4) (by omega) (by omega)
  have w1 : IntKind.u64.wrap (u + 1) = u + 1 := by rw [IntKind.wrap_u64]; omega
  rw [w1]
  have w2 : IntKind.u64.wrap (u + 1 + bits .and .u64 (u / 4) 1) = u + 1 + bits .and .u64 (u / 4) 1 := by rw [IntKind.wrap_u64]; omega
  rw [w2]
  omega
theorem fw_bd (m : Nat) (e : Int) (n : Nat) (prec : Int) (hi lo : Nat) (h1 : -1138 ≤ e) (h2 : e ≤ 971) (h3 : 1 ≤ n) (h4 : n ≤ 18) (hp : 0 ≤ prec) :
    0 ≤ (fwI m e n prec 102 hi lo).1 ∧ (fwI m e n prec 102 hi lo).1 < 1000000000000000000 ∧ -900 ≤ (fwI m e n prec 102 hi lo).2 ∧ (fwI m e n prec 102 hi lo).2 ≤ 900 := by
  have hu := fwU_sm m e n hi lo h4
  have hb := fwP_bd h1 h2 (n := (n : Int)) (by omega) (by omega)
  unfold fwI fwX
  rw [if_pos rfl]
  have hd := dvN_sm prec ((fwU m e n hi lo).2 - prec).toNat (fwU m e n hi lo).1 (fwU m e n hi lo).2 hu.1
  have hr := rnd_sm _ hd.1
  refine ⟨hr.1, hr.2, ?_, ?_⟩
  · simp only; rcases hu.2 with e1 | e1 <;> omega
  · simp only; rcases hu.2 with e1 | e1 <;> omega
theorem fx_bd (T : Int → Nat × Nat) (b : Nat) (prec : Int) (hb : b < 18446744073709551616) (hE : b / 4503599627370496 % 2048 ≠ 2047) (hM : mtN b ≠ 0) (hD : dgI b prec ≤ 18) (hp : 0 ≤ prec) :
    0 ≤ (fxI T b prec).1 ∧ (fxI T b prec).1 < 1000000000000000000 ∧ -900 ≤ (fxI T b prec).2 ∧ (fxI T b prec).2 ≤ 900 := by
  unfold fxI
  split
  · rename_i h0
    have hx1 : -1022 ≤ exI b := by unfold exI; split <;> omega
    have hx2 : exI b ≤ 1023 := by unfold exI; split <;> omega
    have hs : (shN b : Int) ≤ 64 ∧ 0 ≤ (shN b : Int) := by unfold shN; omega
    exact fw_bd _ (fxE b) _ prec _ _ (by unfold fxE; omega) (by unfold fxE; omega) (by omega) (by omega) hp
  · exact ⟨by decide, by decide, by decide, by decide⟩
/-- what FormatFloat tells at 'f' -/
def ffS (b : Nat) (prec : Int) : List UInt8 :=
  outF (decide (9223372036854775808 ≤ b)) (dgt (fxI T10 b prec).1.toNat (ndS (fxI T10 b prec).1.toNat)) (if (fxI T10 b prec).1.toNat = 0 then 0 else (ndS (fxI T10 b prec).1.toNat : Int) + (fxI T10 b prec).2) (if (fxI T10 b prec).1.toNat = 0 then 0 else trimN (dgt (fxI T10 b prec).1.toNat (ndS (fxI T10 b prec).1.toNat)) (ndS (fxI T10 b prec).1.toNat)) prec
theorem ff_all (W : World) (h : Ld W) (b : Nat) (prec : Int) (hb : b < 18446744073709551616) (hE : b / 4503599627370496 % 2048 ≠ 2047) (hM : mtN b ≠ 0) (hp1 : 0 ≤ prec) (hp2 : prec ≤ 1000) (hD : dgI b prec ≤ 18) :
    Calls Tryz.prog 28 #[.float .f64 b, .int .u8 102, .int .i64 prec, .int .i64 64] W (TxPost W (ffS b prec)) := by
  obtain ⟨h1, h2, h3, h4⟩ := fx_bd T10 b prec hb hE hM hD hp1
  refine ff_closed W h b prec (fxI T10 b prec).1.toNat (fxI T10 b prec).2 _ hb hE hM hp1 hp2 hD ?_ ?_ h3 h4 rfl
  · rw [Int.toNat_of_nonneg h1]
  · have e : (10 : Nat) ^ 18 = 1000000000000000000 := by decide
    omega

end Go.Proofs.YtgnddabdjjkgiaaGreatDoor.fmtf

namespace Go.Proofs.YtgnddabdjjkgiaaGreatDoor.fl
open Ieee
set_option linter.unusedVariables false

theorem order_big (z : Int) (hz : Small z) (K n j : Nat) (s : Bool) (hK : double.read K = .number s n (j : Int)) (hn : 2 ^ 53 ≤ n * 2 ^ j) :
    double.order (fl z) K = some (if s = true then .gt else .lt) ∧ double.order K (fl z) = some (if s = true then .lt else .gt) := by
  obtain ⟨q, _, hq⟩ := read_fl z hz
  unfold Format.order
  rw [hq, hK]
  have e0 : min (-(q : Int)) (j : Int) = -(q : Int) := by omega
  have e0' : min (j : Int) (-(q : Int)) = -(q : Int) := by omega
  have e1 : (-(q : Int) - -(q : Int)).toNat = 0 := by omega
  have e2 : ((j : Int) - -(q : Int)).toNat = j + q := by omega
  simp only [Datum.order, e0, e0', e1, e2, signed_eq, Nat.add_zero]
  have hp : 0 < 2 ^ q := Nat.two_pow_pos _
  have hN : n * 2 ^ (j + q) = (n * 2 ^ j) * 2 ^ q := by rw [Nat.pow_add, Nat.mul_assoc]
  have hz2 : z.natAbs < 2 ^ 53 := hz
  generalize hP : (2 ^ q : Nat) = p at *
  generalize hM : n * 2 ^ j = M at *
  have hzl : z < (M : Int) := by omega
  have hzg : -(M : Int) < z := by omega
  have hp' : (0 : Int) < (p : Int) := by omega
  have a1 := Int.mul_lt_mul_of_pos_right hzl hp'
  have a2 := Int.mul_lt_mul_of_pos_right hzg hp'
  cases s with
  | false =>
    have es : signed false n (j + q) = (M : Int) * (p : Int) := by
      unfold signed
      simp only [Nat.shiftLeft_eq, hN]
      simp
    rw [es]
    constructor
    · simp [compare, compareOfLessAndEq, a1]
    · simp [compare, compareOfLessAndEq, show ¬ (M : Int) * p < z * p by omega, show ¬ (M : Int) * p = z * p by omega]
  | true =>
    have es : signed true n (j + q) = -(M : Int) * (p : Int) := by
      unfold signed
      simp only [Nat.shiftLeft_eq, hN]
      simp [Int.neg_mul]
    rw [es]
    constructor
    · simp [compare, compareOfLessAndEq, show ¬ z * (p : Int) < -(M : Int) * p by omega, show ¬ z * (p : Int) = -(M : Int) * p by omega]
    · simp [compare, compareOfLessAndEq, a2]

theorem read_max : double.read 9218868437227405311 = .number false 9007199254740991 ((971 : Nat) : Int) := by decide +kernel
theorem read_min : double.read 18442240474082181119 = .number true 9007199254740991 ((971 : Nat) : Int) := by decide +kernel
theorem read_64 : double.read 4895412794951729152 = .number false 4503599627370496 ((12 : Nat) : Int) := by decide +kernel
theorem big_max : 2 ^ 53 ≤ 9007199254740991 * 2 ^ 971 := by decide +kernel
theorem big_64 : 2 ^ 53 ≤ 4503599627370496 * 2 ^ 12 := by decide +kernel

end Go.Proofs.YtgnddabdjjkgiaaGreatDoor.fl

namespace Go.Proofs.YtgnddabdjjkgiaaGreatDoor.pf
open Go.RowKit Go.Proofs.YtgnddabdjjkgiaaGreatDoor.fl Go.Proofs.YtgnddabdjjkgiaaGreatDoor.fmtf
set_option linter.unusedVariables false

theorem kind_fl (z : Int) (h : Small z) : kindB (fl z) = 0 := by
  have h1 : (FloatKind.f64.format.order (fl z) (fl z) != some .eq) = false := by
    have := fl_eql z z h h
    simp only [decide_true] at this
    simpa [bne] using this
  have h2 : (FloatKind.f64.format.order (fl z) 9218868437227405311 == some .gt) = false := by
    have := (order_big z h _ _ _ _ read_max big_max).1
    rw [show FloatKind.f64.format.order (fl z) 9218868437227405311 = _ from this]; rfl
  have h3 : (FloatKind.f64.format.order (fl z) 18442240474082181119 == some .lt) = false := by
    have := (order_big z h _ _ _ _ read_min big_max).1
    rw [show FloatKind.f64.format.order (fl z) 18442240474082181119 = _ from this]; rfl
  unfold kindB
  rw [h1, h2, h3]
  rfl
theorem read_f64 (z : Int) (h : Small z) : ∃ q : Nat, FloatKind.f64.decode (fl z) = .number (decide (z < 0)) (z.natAbs * 2 ^ q) (-(q : Int)) := by
  obtain ⟨q, _, hq⟩ := read_fl z h
  exact ⟨q, hq⟩
theorem nan_fl (z : Int) (h : Small z) : nanB (fl z) = false := by
  obtain ⟨q, hq⟩ := read_f64 z h
  unfold nanB
  rw [hq]
theorem trunc_fl (z : Int) (h : Small z) : truncB (fl z) = fl z := by
  obtain ⟨q, hq⟩ := read_f64 z h
  unfold truncB
  rw [hq]
  simp only [Ieee.Datum.integral]
  have e1 : (-(q : Int)).toNat = 0 := by omega
  have e2 : (-(-(q : Int))).toNat = q := by omega
  rw [e1, e2, Nat.shiftLeft_zero]
  have hc : Ieee.Toward.zero.cut (decide (z < 0)) (z.natAbs * 2 ^ q) q = z.natAbs := by
    by_cases hz : z.natAbs = 0
    · rw [hz, Nat.zero_mul]
      unfold Ieee.Toward.cut
      simp [Nat.shiftLeft_eq]
    · apply cut_exact
      rw [log2_mul_pow _ _ (by omega)]
      omega
  rw [hc]
  rfl
theorem plain_fl (z : Int) (h : Small z) : plainB (fl z) = fl z := by
  have h0 := fl_eql z 0 h (by unfold Small; decide)
  rw [show fl 0 = 0 by decide +kernel] at h0
  unfold plainB
  rw [h0]
  by_cases hz : z = 0
  · subst hz; decide +kernel
  · rw [if_neg (by simpa using hz)]
/-- the word of a whole number above 0 -/
theorem word_fl (n : Nat) (h0 : 0 < n) (h : n < 2 ^ 53) : fl (n : Int) = (n.log2 + 1022) * 2 ^ 52 + n * 2 ^ (52 - n.log2) := by
  have hl := small_log h0 h
  have hn := nearest_exact false n 0 0 h0 hl (by omega) (by omega)
  rw [Nat.pow_zero, Nat.mul_one] at hn
  rw [fl_eq, show decide ((n : Int) < 0) = false by simp]
  have e : (0 : Int) - ((0 : Nat) : Int) = 0 := rfl
  rw [e] at hn
  rw [show ((n : Int)).natAbs = n by omega, hn]
  have e2 : (0 + (n.log2 : Int) + 1022).toNat = n.log2 + 1022 := by omega
  rw [e2]
  unfold Ieee.Format.word
  have hb := norm_bounds n h0 hl
  have hi : Ieee.double.infRung = 9218868437227405312 := by decide
  have p52 : (2 : Nat) ^ 52 = 4503599627370496 := by decide
  have p53 : (2 : Nat) ^ 53 = 9007199254740992 := by decide
  obtain ⟨hb1, hb2⟩ := hb
  rw [p52] at hb1
  rw [p53] at hb2
  generalize hX : n * 2 ^ (52 - n.log2) = X at *
  simp only [Bool.false_eq_true, if_false, hi, p52]
  all_goals (try rw [Nat.min_eq_left (by omega)])
  all_goals first | rfl | omega | simp
/-- all that FormatFloat wants of it -/
theorem ff_fl (n : Nat) (h0 : 0 < n) (h : n < 2 ^ 53) : fl (n : Int) < 9223372036854775808 ∧ fl (n : Int) / 4503599627370496 % 2048 ≠ 2047 ∧ mtN (fl (n : Int)) ≠ 0 ∧ exI (fl (n : Int)) = (n.log2 : Int) := by
  have hl := small_log h0 h
  have hb := norm_bounds n h0 hl
  have hw := word_fl n h0 h
  have p52 : (2 : Nat) ^ 52 = 4503599627370496 := by decide
  have p53 : (2 : Nat) ^ 53 = 9007199254740992 := by decide
  rw [p52, p53] at hb
  rw [p52] at hw
  generalize n * 2 ^ (52 - n.log2) = X at *
  generalize n.log2 = L at *
  have hd : fl (n : Int) / 4503599627370496 = L + 1023 := by omega
  have hm : (L + 1023) % 2048 = L + 1023 := by omega
  refine ⟨by omega, by rw [hd]; omega, ?_, ?_⟩
  · unfold mtN
    rw [hd, hm, if_neg (by omega)]
    omega
  · unfold exI
    rw [hd, hm, if_neg (by omega)]
    omega
theorem dg_fl (n : Nat) (h0 : 0 < n) (h : n < 2 ^ 53) : dgI (fl (n : Int)) 0 ≤ 18 := by
  have hl := small_log h0 h
  have he := (ff_fl n h0 h).2.2.2
  unfold dgI
  rw [he, if_pos (by omega)]
  unfold lg10
  omega

end Go.Proofs.YtgnddabdjjkgiaaGreatDoor.pf

namespace Go.Proofs.YtgnddabdjjkgiaaGreatDoor.pf
open Go.RowKit Go.Lib Go.Proofs.YtgnddabdjjkgiaaGreatDoor.sum Go.Proofs.YtgnddabdjjkgiaaGreatDoor.kept Go.Proofs.YtgnddabdjjkgiaaGreatDoor.app Go.Proofs.YtgnddabdjjkgiaaGreatDoor.writer Go.Proofs.YtgnddabdjjkgiaaGreatDoor.known Go.Proofs.YtgnddabdjjkgiaaGreatDoor.str Go.Proofs.YtgnddabdjjkgiaaGreatDoor.fmtf Go.Proofs.YtgnddabdjjkgiaaGreatDoor.fl
set_option linter.unusedVariables false

theorem small_nat {n : Nat} (h : n < 2 ^ 53) : Small (n : Int) := by unfold Small; rw [show ((n : Int)).natAbs = n by omega]; exact h
/-- the digits of a whole number -/
def dgN (n : Nat) : List UInt8 := if n = 0 then [48] else ffS (fl (n : Int)) 0
theorem dgN_any (W : World) (h : Ld W) (n : Nat) (hn : n < 2 ^ 53) : Calls Tryz.prog 12 #[.float .f64 (fl (n : Int))] W (TxPost W (dgN n)) := by
  have hs := small_nat hn
  refine digits_fin W _ _ (kind_fl _ hs) (nan_fl _ hs) ?_
  rw [trunc_fl _ hs, plain_fl _ hs]
  unfold dgN
  by_cases h0 : n = 0
  · subst h0
    rw [if_pos rfl, show fl ((0 : Nat) : Int) = 0 by decide +kernel]
    exact ff_zero W
  · rw [if_neg h0]
    have hf := ff_fl n (by omega) hn
    exact ff_all W h _ 0 (by have := hf.1; omega) hf.2.1 hf.2.2.1 (by omega) (by omega) (dg_fl n (by omega) hn)
theorem dig_ne (u n i : Nat) : UInt8.ofNat (dgt u n i) ≠ 45 := by
  intro e
  have h := congrArg UInt8.toNat e
  unfold dgt at h
  have h2 : u / 10 ^ (n - 1 - i) % 10 < 10 := Nat.mod_lt _ (by omega)
  generalize u / 10 ^ (n - 1 - i) % 10 = k at *
  rw [UInt8.toNat_ofNat'] at h
  simp at h
  omega
theorem intF_pos (u n : Nat) (dp : Int) (nd : Nat) (hd : dp ≤ 1000) : (∀ c ∈ intF (dgt u n) dp nd, c ≠ 45) ∧ (intF (dgt u n) dp nd).length ≤ 3000 ∧ 0 < (intF (dgt u n) dp nd).length := by
  unfold intF
  split
  · refine ⟨fun c hc => ?_, ?_, ?_⟩
    · rcases List.mem_append.1 hc with h | h
      · obtain ⟨k, _, rfl⟩ := List.mem_map.1 h
        exact dig_ne _ _ _
      · rw [List.eq_of_mem_replicate h]; decide
    · rw [List.length_append, List.length_map, List.length_range, List.length_replicate]; omega
    · rw [List.length_append, List.length_map, List.length_range, List.length_replicate]; omega
  · exact ⟨fun c hc => by rw [List.mem_singleton.1 hc]; decide, by simp, by simp⟩
theorem ffS_pos (b : Nat) (hb : b < 9223372036854775808) (hE : b / 4503599627370496 % 2048 ≠ 2047) (hM : mtN b ≠ 0) (hD : dgI b 0 ≤ 18) : (∀ c ∈ ffS b 0, c ≠ 45) ∧ (ffS b 0).length ≤ 3000 ∧ 0 < (ffS b 0).length := by
  obtain ⟨h1, h2, h3, h4⟩ := fx_bd T10 b 0 (by omega) hE hM hD (by omega)
  have hn := (nd_bd (d := (fxI T10 b 0).1.toNat) (by have e : (10 : Nat) ^ 18 = 1000000000000000000 := by decide
                                                     omega)).2.1
  unfold ffS outF
  rw [decide_eq_false (by omega), if_neg (by simp)]
  have hfr : ∀ f dp nd, fracF f dp nd 0 = [] := fun f dp nd => by unfold fracF; rw [if_neg (by omega)]
  rw [hfr, List.nil_append, List.append_nil]
  exact intF_pos _ _ _ _ (by split <;> omega)
theorem dgN_pos (n : Nat) (hn : n < 2 ^ 53) : (∀ c ∈ dgN n, c ≠ 45) ∧ (dgN n).length ≤ 3000 ∧ 0 < (dgN n).length := by
  unfold dgN
  by_cases h0 : n = 0
  · rw [if_pos h0]; exact ⟨by decide, by decide, by decide⟩
  · rw [if_neg h0]
    have hf := ff_fl n (by omega) hn
    exact ffS_pos _ hf.1 hf.2.1 hf.2.2.1 (dg_fl n (by omega) hn)

end Go.Proofs.YtgnddabdjjkgiaaGreatDoor.pf

namespace Go.Proofs.YtgnddabdjjkgiaaGreatDoor.pf
open Go.RowKit Go.Lib Go.Proofs.YtgnddabdjjkgiaaGreatDoor.sum Go.Proofs.YtgnddabdjjkgiaaGreatDoor.kept Go.Proofs.YtgnddabdjjkgiaaGreatDoor.app Go.Proofs.YtgnddabdjjkgiaaGreatDoor.writer Go.Proofs.YtgnddabdjjkgiaaGreatDoor.known Go.Proofs.YtgnddabdjjkgiaaGreatDoor.str Go.Proofs.YtgnddabdjjkgiaaGreatDoor.fmtf Go.Proofs.YtgnddabdjjkgiaaGreatDoor.fl
set_option linter.unusedVariables false

/-- the word of a whole number below 0 -/
theorem word_neg (n : Nat) (h0 : 0 < n) (h : n < 2 ^ 53) : fl (-(n : Int)) = fl (n : Int) + 9223372036854775808 := by
  rw [word_fl n h0 h]
  have hl := small_log h0 h
  have hn := nearest_exact true n 0 0 h0 hl (by omega) (by omega)
  rw [Nat.pow_zero, Nat.mul_one] at hn
  rw [fl_eq, show decide (-(n : Int) < 0) = true by simp; omega]
  have e : (0 : Int) - ((0 : Nat) : Int) = 0 := rfl
  rw [e] at hn
  rw [show (-(n : Int)).natAbs = n by omega, hn]
  have e2 : (0 + (n.log2 : Int) + 1022).toNat = n.log2 + 1022 := by omega
  rw [e2]
  unfold Ieee.Format.word
  have hb := norm_bounds n h0 hl
  have hi : Ieee.double.infRung = 9218868437227405312 := by decide
  have hs : Ieee.double.signWeight = 9223372036854775808 := by decide +kernel
  have p52 : (2 : Nat) ^ 52 = 4503599627370496 := by decide
  have p53 : (2 : Nat) ^ 53 = 9007199254740992 := by decide
  obtain ⟨hb1, hb2⟩ := hb
  rw [p52] at hb1
  rw [p53] at hb2
  generalize hX : n * 2 ^ (52 - n.log2) = X at *
  simp only [if_true, hi, p52]
  all_goals (try rw [Nat.min_eq_left (by omega)])
  rw [hs, Nat.add_comm]
/-- a number with its sign turned -/
theorem mt_neg (b : Nat) : mtN (b + 9223372036854775808) = mtN b := by
  have e1 : (b + 9223372036854775808) / 4503599627370496 % 2048 = b / 4503599627370496 % 2048 := by omega
  have e2 : (b + 9223372036854775808) % 4503599627370496 = b % 4503599627370496 := by omega
  unfold mtN
  rw [e1, e2]
theorem ex_neg (b : Nat) : exI (b + 9223372036854775808) = exI b := by
  have e1 : (b + 9223372036854775808) / 4503599627370496 % 2048 = b / 4503599627370496 % 2048 := by omega
  unfold exI
  rw [e1]
theorem dg_neg (b : Nat) (p : Int) : dgI (b + 9223372036854775808) p = dgI b p := by unfold dgI; rw [ex_neg]
theorem fx_neg (T : Int → Nat × Nat) (b : Nat) (p : Int) : fxI T (b + 9223372036854775808) p = fxI T b p := by
  unfold fxI fxE shN
  rw [dg_neg, mt_neg, ex_neg]
theorem ff_neg (b : Nat) (hb : b < 9223372036854775808) (p : Int) : ffS (b + 9223372036854775808) p = 45 :: ffS b p := by
  unfold ffS
  rw [fx_neg, show decide (9223372036854775808 ≤ b + 9223372036854775808) = true by simp, show decide (9223372036854775808 ≤ b) = false by simp; omega]
  unfold outF
  simp
/-- the digits of a whole number, its sign ahead -/
def dgZ (z : Int) : List UInt8 := if z < 0 then 45 :: dgN z.natAbs else dgN z.natAbs
theorem dgZ_any (W : World) (h : Ld W) (z : Int) (hs : Small z) : Calls Tryz.prog 12 #[.float .f64 (fl z)] W (TxPost W (dgZ z)) := by
  unfold dgZ
  by_cases hz : z < 0
  · rw [if_pos hz]
    obtain ⟨n, hn⟩ : ∃ n, z.natAbs = n := ⟨_, rfl⟩
    have hz2 : z = -(n : Int) := by omega
    have hn2 : n < 2 ^ 53 := by unfold Small at hs; omega
    rw [hn]
    subst hz2
    refine digits_fin W _ _ (kind_fl _ hs) (nan_fl _ hs) ?_
    rw [trunc_fl _ hs, plain_fl _ hs, word_neg n (by omega) hn2]
    have hf := ff_fl n (by omega) hn2
    have e1 : (fl (n : Int) + 9223372036854775808) / 4503599627370496 % 2048 = fl (n : Int) / 4503599627370496 % 2048 := by omega
    have := ff_all W h (fl (n : Int) + 9223372036854775808) 0 (by have := hf.1; omega) (by rw [e1]; exact hf.2.1) (by rw [mt_neg]; exact hf.2.2.1) (by omega) (by omega) (by rw [dg_neg]; exact dg_fl n (by omega) hn2)
    rw [ff_neg _ hf.1] at this
    unfold dgN
    rw [if_neg (by omega)]
    exact this
  · rw [if_neg hz]
    have hz2 : z = (z.natAbs : Int) := by omega
    have := dgN_any W h z.natAbs (by unfold Small at hs; omega)
    rw [← hz2] at this
    exact this

end Go.Proofs.YtgnddabdjjkgiaaGreatDoor.pf

namespace Go.Proofs.YtgnddabdjjkgiaaGreatDoor.rd
open Go.RowKit Go.Proofs.YtgnddabdjjkgiaaGreatDoor.sum Go.Proofs.YtgnddabdjjkgiaaGreatDoor.kept Go.Proofs.YtgnddabdjjkgiaaGreatDoor.str Go.Proofs.YtgnddabdjjkgiaaGreatDoor.nums Go.Proofs.YtgnddabdjjkgiaaGreatDoor.fmtf Go.Proofs.YtgnddabdjjkgiaaGreatDoor.fl
set_option linter.unusedVariables false

/-- the bits of the mantissa, as laid -/
def Fi (w : World) : Prop := w.cell? ⟨5, 0, none⟩ = some (.int .u64 52)

/-- the powers of ten as numbers, as laid: the first -/
def Fp (w : World) : Prop := ∃ r o n c, w.cell? ⟨9, 0, none⟩ = some (.slice (some ⟨r, o, none⟩) n c) ∧ 22 < n ∧ n ≤ c ∧ n ≤ 1000 ∧ w.cell? ⟨r, o + 1, none⟩ = some (.float .f64 4621819117588971520)
theorem xor_top (b : Nat) (h : b < 2 ^ 63) : b ^^^ 2 ^ 63 = b + 2 ^ 63 := by
  have h1 := Nat.two_pow_add_eq_or_of_lt (i := 63) (b := b) h 1
  rw [Nat.mul_one] at h1
  rw [Nat.add_comm, h1]
  apply Nat.eq_of_testBit_eq
  intro i
  rw [Nat.testBit_xor, Nat.testBit_or, Nat.testBit_two_pow]
  by_cases e : 63 = i
  · subst e
    rw [Nat.testBit_lt_two_pow h]
    simp
  · simp [e]
theorem neg_fl (m : Nat) (h0 : 0 < m) (h : m < 2 ^ 53) : Op.negFloat .f64 (fl (m : Int)) = fl (-(m : Int)) := by
  rw [pf.word_neg m h0 h]
  have hb := (pf.ff_fl m h0 h).1
  exact xor_top _ hb
theorem run_neg (b : Nat) (w : World) : (Op.unary .neg (.float .f64 b)).run Tryz.prog w = .ok (.float .f64 (Op.negFloat .f64 b)) w := rfl

set_option maxRecDepth 100000 in
set_option maxHeartbeats 4000000 in
theorem exact0 (w : World) (m : Nat) (ng : Bool) (hm : m < 4503599627370496) (hm1 : 0 < m) (hf : Fi w) :
    Calls Tryz.prog 96 #[.int .u64 (m : Int), .int .i64 0, .bool ng] w (RV w (.tuple #[.float .f64 (fl (if ng = true then -(m : Int) else (m : Int))), .bool true])) := by
  have hm0 : (0 : Int) ≤ (m : Int) := Int.natCast_nonneg _
  have hmi : (m : Int) < 4503599627370496 := by omega
  have hz : ((m : Int) / 4503599627370496) = 0 := by omega
  have hng := fun w => run_neg (floatOfInt .f64 (m : Int)) w
  have hfl : Op.negFloat .f64 (floatOfInt .f64 (m : Int)) = fl (-(m : Int)) := neg_fl m hm1 (by omega)
  rw [hfl] at hng
  clear hfl
  unfold Fi at hf
  rcases ng with _ | _
  · rw [if_neg (by simp)]
    go_enter Tryz.func96, Tryz.ntmps96
    go_wp2
    go_ret2
    exact ⟨rfl, rfl⟩
  · rw [if_pos rfl]
    go_enter Tryz.func96, Tryz.ntmps96
    go_wp2
    go_ret2
    exact ⟨rfl, rfl⟩

set_option maxRecDepth 100000 in
set_option maxHeartbeats 4000000 in
theorem exact1 (w : World) (hf : Fi w) (hp : Fp w) :
    Calls Tryz.prog 96 #[.int .u64 125, .int .i64 1, .bool false] w (RV w (.tuple #[.float .f64 4653212373585231872, .bool true])) := by
  obtain ⟨r, o, n, c, p1, p2, p3, p4, p5⟩ := hp
  have hn1 : (1 : Int) < (n : Int) := by omega
  have hn2 : (n : Int) ≤ 1000 := by omega
  have hnc : (n : Int) ≤ (c : Int) := by omega
  obtain ⟨f, hfe⟩ : ∃ f, floatOfInt .f64 125 = f := ⟨_, rfl⟩
  have g1 : (FloatKind.f64.format.order f 4831355200913801216 == some .gt) = false := by rw [← hfe]; kernel_rfl
  have g2 : (FloatKind.f64.format.order f 14054727237768577024 == some .lt) = false := by rw [← hfe]; kernel_rfl
  have g3 : floatBits .mul .f64 f 4621819117588971520 = some 4653212373585231872 := by rw [← hfe]; kernel_rfl
  have g4 := fun w => run_float_arith (P := Tryz.prog) .mul 22 .f64 f 4621819117588971520 _ g3 (w := w)
  unfold Fi at hf
  go_enter Tryz.func96, Tryz.ntmps96
  go_wp2_with fail
  go_ret2
  exact ⟨rfl, rfl⟩

end Go.Proofs.YtgnddabdjjkgiaaGreatDoor.rd
