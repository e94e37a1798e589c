/- What the library's variables hold, as the walks read them; FormatFloat and Digits of closed numbers. internal/strconv.fixedWidthFloat: how great what it answers may be: FormatFloat at 'f' of any number that takes its road. Whole numbers of any size below 2^53: their digits. Package printf: the digits of whole numbers, below nought too. What any word of 64 bits is as a number; its whole part. Plain arithmetic. Decimal digits in cells, as plain numbers. -/
import Derived.Test.YtgnddabdjjkgiaaGreatDoorFtoaM
import Derived.Test.YtgnddabdjjkgiaaGreatDoorPfNumM
import GoSem.PinnedTables
import Derived.Laws.BitsAllLaws
import Derived.Test.YtgnddabdjjkgiaaGreatDoorFmtBase

namespace Go.Proofs.YtgnddabdjjkgiaaGreatDoor.pf
open Go.RowKit Go.Lib Go.Proofs.YtgnddabdjjkgiaaGreatDoor.sum Go.Proofs.YtgnddabdjjkgiaaGreatDoor.kept Go.Proofs.YtgnddabdjjkgiaaGreatDoor.app Go.Proofs.YtgnddabdjjkgiaaGreatDoor.writer Go.Proofs.YtgnddabdjjkgiaaGreatDoor.known Go.Proofs.YtgnddabdjjkgiaaGreatDoor.str Go.Proofs.YtgnddabdjjkgiaaGreatDoor.fmtf
set_option linter.unusedVariables false

/-- powers of ten, as laid -/
def T10 (p : Int) : Nat × Nat := Pinned.pow10Rows.getD (p + 348).toNat (0, 0)
/-- what the walks read of the library's variables -/
structure Ld (w : World) : Prop where
  opt : w.cell? ⟨3, 0, none⟩ = some (.bool true)
  tn : ∀ n, n ≤ 18 → Tn w n
  pw : ∀ p, -348 ≤ p → p ≤ 347 → Pw w p (T10 p).1 (T10 p).2 ∧ (T10 p).1 < 18446744073709551616 ∧ (T10 p).2 < 18446744073709551616
  hx : hex.Tz w
  oc : oct.Tz w
theorem Ld.no {w w' : World} (h : Ld w) (hk : Kp No w w') : Ld w' :=
  ⟨hk.cell' h.opt id, fun n hn => (h.tn n hn).no hk, fun p h1 h2 => ⟨(h.pw p h1 h2).1.no hk, (h.pw p h1 h2).2⟩, h.hx.no hk, h.oc.no hk⟩

/-- FormatFloat at 'f' of a closed number -/
theorem ff_closed (W : World) (h : Ld W) (b : Nat) (prec : Int) (d : Nat) (p : Int) (S : List UInt8) (hb : b < 18446744073709551616) (hE : b / 4503599627370496 % 2048 ≠ 2047) (hM : mtN b ≠ 0) (hp1 : 0 ≤ prec) (hp2 : prec ≤ 1000) (hD : dgI b prec ≤ 18) (hx : fxI T10 b prec = ((d : Int), p)) (hd18 : d < 10 ^ 18) (hq1 : -900 ≤ p) (hq2 : p ≤ 900)
    (hS : outF (decide (9223372036854775808 ≤ b)) (dgt d (ndS d)) (if d = 0 then 0 else (ndS d : Int) + p) (if d = 0 then 0 else trimN (dgt d (ndS d)) (ndS d)) prec = S) :
    Calls Tryz.prog 28 #[.float .f64 b, .int .u8 102, .int .i64 prec, .int .i64 64] W (TxPost W S) := by
  refine ff_any W b 102 prec S (iff_any W b 102 prec S (by omega) hp2 fun W' v0 hk hd hv => ?_)
  have := ftoa_fix T10 W.heap.size W' v0 [] b prec hd (fun k e => (hv k e).2) (by simp) (h.no hk).opt (h.no hk).tn (h.no hk).pw hb hE hM hp1 hp2 hD d p hx hd18 hq1 hq2
  rw [List.nil_append, hS] at this
  exact this
/-- Digits of a closed number -/
theorem dg_closed (W : World) (h : Ld W) (b pb : Nat) (d : Nat) (p : Int) (S : List UInt8) (hk : kindB b = 0) (hn : nanB b = false) (hpb : plainB (truncB b) = pb) (hb : pb < 18446744073709551616) (hE : pb / 4503599627370496 % 2048 ≠ 2047) (hM : mtN pb ≠ 0) (hD : dgI pb 0 ≤ 18) (hx : fxI T10 pb 0 = ((d : Int), p)) (hd18 : d < 10 ^ 18) (hq1 : -900 ≤ p) (hq2 : p ≤ 900)
    (hS : outF (decide (9223372036854775808 ≤ pb)) (dgt d (ndS d)) (if d = 0 then 0 else (ndS d : Int) + p) (if d = 0 then 0 else trimN (dgt d (ndS d)) (ndS d)) 0 = S) :
    Calls Tryz.prog 12 #[.float .f64 b] W (TxPost W S) :=
  digits_fin W b S hk hn (by rw [hpb]; exact ff_closed W h pb 0 d p S hb hE hM (by omega) (by omega) hD hx hd18 hq1 hq2 hS)

end Go.Proofs.YtgnddabdjjkgiaaGreatDoor.pf

namespace Go.Proofs.YtgnddabdjjkgiaaGreatDoor.fmtf
open Go.RowKit Go.Lib Go.Proofs.YtgnddabdjjkgiaaGreatDoor.sum Go.Proofs.YtgnddabdjjkgiaaGreatDoor.kept Go.Proofs.YtgnddabdjjkgiaaGreatDoor.app Go.Proofs.YtgnddabdjjkgiaaGreatDoor.writer Go.Proofs.YtgnddabdjjkgiaaGreatDoor.known Go.Proofs.YtgnddabdjjkgiaaGreatDoor.pf
set_option linter.unusedVariables false

theorem or_one_le (a b : Nat) (hb : b ≤ 1) : a ||| b ≤ a + 1 := by
  have h : (a ||| b) / 2 = a / 2 := by
    rw [Nat.or_div_two, show b / 2 = 0 by omega, Nat.or_zero]
  omega
theorem orI_le (a b : Int) (ha : 0 ≤ a) (ha2 : a < 18446744073709551616) (hb : 0 ≤ b) (hb2 : b ≤ 1) : 0 ≤ bits .or .u64 a b ∧ bits .or .u64 a b ≤ a + 1 := by
  obtain ⟨n, rfl⟩ : ∃ n : Nat, a = (n : Int) := ⟨a.toNat, by omega⟩
  obtain ⟨k, rfl⟩ : ∃ k : Nat, b = (k : Int) := ⟨b.toNat, by omega⟩
  rw [u64_or_nat n k (by omega) (by omega)]
  have := or_one_le n k (by omega)
  omega
theorem and1_bd (a : Int) (ha : 0 ≤ a) (ha2 : a < 18446744073709551616) : 0 ≤ bits .and .u64 a 1 ∧ bits .and .u64 a 1 ≤ 1 := by
  obtain ⟨n, rfl⟩ : ∃ n : Nat, a = (n : Int) := ⟨a.toNat, by omega⟩
  have := u64_and_nat n 1 (by omega) (by omega)
  rw [show ((1 : Nat) : Int) = 1 from rfl] at this
  rw [this]
  have h := Nat.and_le_right (n := n) (m := 1)
  omega
theorem b2_bd (b : Bool) : 0 ≤ b2 b ∧ b2 b ≤ 1 := by unfold b2; split <;> omega
theorem divI_le (x : Int) (h : 0 ≤ x) (h2 : x < 18446744073709551616) : 0 ≤ divI x ∧ divI x ≤ x / 10 + 2 := by
  unfold divI
  have e : x.tdiv 10 = x / 10 := by rw [Int.tdiv_eq_ediv_of_nonneg h]
  have hw : IntKind.u64.wrap (x.tdiv 10) = x / 10 := by rw [e, IntKind.wrap_u64]; omega
  rw [hw]
  have a := and1_bd x h h2
  have o1 := orI_le (x / 10) (bits .and .u64 x 1) (by omega) (by omega) a.1 a.2
  have b := b2_bd (x % 10 != 0)
  have o2 := orI_le (bits .or .u64 (x / 10) (bits .and .u64 x 1)) (b2 (x % 10 != 0)) o1.1 (by omega) b.1 b.2
  omega
theorem usc_bd (H M M2 s : Nat) : 0 ≤ uscI H M M2 s ∧ uscI H M M2 s < 18446744073709551616 := by
  have w : ∀ a b, 0 ≤ bits .or .u64 a b ∧ bits .or .u64 a b < 18446744073709551616 := fun a b => by
    have h := bits_within .or .u64 a b
    simp [IntKind.min, IntKind.max, IntKind.signed, IntKind.bits] at h
    omega
  unfold uscI
  split
  · exact w _ _
  · exact w _ _
/-- small enough to be rounded -/
def Sm (u : Int) : Prop := 0 ≤ u ∧ u ≤ 3999999999999999997
theorem fwU_sm (m : Nat) (e : Int) (n : Nat) (hi lo : Nat) (hn : n ≤ 18) : Sm (fwU m e n hi lo).1 ∧ ((fwU m e n hi lo).2 = fwP e n ∨ (fwU m e n hi lo).2 = fwP e n - 1) := by
  have hb := usc_bd (m * hi / 18446744073709551616) (m * hi % 18446744073709551616) (m * lo / 18446744073709551616) (fwS e n).toNat
  have hp : 10 ^ n ≤ 10 ^ 18 := Nat.pow_le_pow_right (by omega) hn
  have hp1 : 0 < 10 ^ n := Nat.pow_pos (by omega)
  unfold fwU Sm
  generalize uscI (m * hi / 18446744073709551616) (m * hi % 18446744073709551616) (m * lo / 18446744073709551616) (fwS e n).toNat = u at *
  generalize 10 ^ n = t at *
  simp only [Nat.reducePow] at hp
  split
  · have := divI_le u hb.1 hb.2
    exact ⟨⟨this.1, by omega⟩, .inr rfl⟩
  · exact ⟨⟨hb.1, by omega⟩, .inl rfl⟩
theorem dvN_sm (prec : Int) : ∀ (f : Nat) (u p : Int), Sm u → Sm (dvN prec f u p).1 ∧ (dvN prec f u p).2 ≤ p ∧ min p prec ≤ (dvN prec f u p).2
  | 0, u, p, h => ⟨h, by show p ≤ p; omega, by show min p prec ≤ p; omega⟩
  | f + 1, u, p, h => by
    rw [dvN]
    split
    · have hd := divI_le u h.1 (by have := h.2; omega)
      have ih := dvN_sm prec f (divI u) (p - 1) ⟨hd.1, by have := h.2; omega⟩
      exact ⟨ih.1, by omega, by omega⟩
    · exact ⟨h, by show p ≤ p; omega, by show min p prec ≤ p; omega⟩
theorem rnd_sm (u : Int) (h : Sm u) : 0 ≤ rndI u ∧ rndI u < 1000000000000000000 := by
  obtain ⟨h1, h2⟩ := h
  unfold rndI
  have a := and1_bd (u / 4) (by omega) (by omega)
  have w1 : IntKind.u64.wrap (u + 1) = u + 1 := by rw [IntKind.wrap_u64]; omega
  rw [w1]
  have w2 : IntKind.u64.wrap (u + 1 + bits .and .u64 (u / 4) 1) = u + 1 + bits .and .u64 (u / 4) 1 := by rw [IntKind.wrap_u64]; omega
  rw [w2]
  omega
theorem fw_bd (m : Nat) (e : Int) (n : Nat) (prec : Int) (hi lo : Nat) (h1 : -1138 ≤ e) (h2 : e ≤ 971) (h3 : 1 ≤ n) (h4 : n ≤ 18) (hp : 0 ≤ prec) :
    0 ≤ (fwI m e n prec 102 hi lo).1 ∧ (fwI m e n prec 102 hi lo).1 < 1000000000000000000 ∧ -900 ≤ (fwI m e n prec 102 hi lo).2 ∧ (fwI m e n prec 102 hi lo).2 ≤ 900 := by
  have hu := fwU_sm m e n hi lo h4
  have hb := fwP_bd h1 h2 (n := (n : Int)) (by omega) (by omega)
  unfold fwI fwX
  rw [if_pos rfl]
  have hd := dvN_sm prec ((fwU m e n hi lo).2 - prec).toNat (fwU m e n hi lo).1 (fwU m e n hi lo).2 hu.1
  have hr := rnd_sm _ hd.1
  refine ⟨hr.1, hr.2, ?_, ?_⟩
  · simp only; rcases hu.2 with e1 | e1 <;> omega
  · simp only; rcases hu.2 with e1 | e1 <;> omega
theorem fx_bd (T : Int → Nat × Nat) (b : Nat) (prec : Int) (hb : b < 18446744073709551616) (hE : b / 4503599627370496 % 2048 ≠ 2047) (hM : mtN b ≠ 0) (hD : dgI b prec ≤ 18) (hp : 0 ≤ prec) :
    0 ≤ (fxI T b prec).1 ∧ (fxI T b prec).1 < 1000000000000000000 ∧ -900 ≤ (fxI T b prec).2 ∧ (fxI T b prec).2 ≤ 900 := by
  unfold fxI
  split
  · rename_i h0
    have hx1 : -1022 ≤ exI b := by unfold exI; split <;> omega
    have hx2 : exI b ≤ 1023 := by unfold exI; split <;> omega
    have hs : (shN b : Int) ≤ 64 ∧ 0 ≤ (shN b : Int) := by unfold shN; omega
    exact fw_bd _ (fxE b) _ prec _ _ (by unfold fxE; omega) (by unfold fxE; omega) (by omega) (by omega) hp
  · exact ⟨by decide, by decide, by decide, by decide⟩
/-- what FormatFloat tells at 'f' -/
def ffS (b : Nat) (prec : Int) : List UInt8 :=
  outF (decide (9223372036854775808 ≤ b)) (dgt (fxI T10 b prec).1.toNat (ndS (fxI T10 b prec).1.toNat)) (if (fxI T10 b prec).1.toNat = 0 then 0 else (ndS (fxI T10 b prec).1.toNat : Int) + (fxI T10 b prec).2) (if (fxI T10 b prec).1.toNat = 0 then 0 else trimN (dgt (fxI T10 b prec).1.toNat (ndS (fxI T10 b prec).1.toNat)) (ndS (fxI T10 b prec).1.toNat)) prec
theorem ff_all (W : World) (h : Ld W) (b : Nat) (prec : Int) (hb : b < 18446744073709551616) (hE : b / 4503599627370496 % 2048 ≠ 2047) (hM : mtN b ≠ 0) (hp1 : 0 ≤ prec) (hp2 : prec ≤ 1000) (hD : dgI b prec ≤ 18) :
    Calls Tryz.prog 28 #[.float .f64 b, .int .u8 102, .int .i64 prec, .int .i64 64] W (TxPost W (ffS b prec)) := by
  obtain ⟨h1, h2, h3, h4⟩ := fx_bd T10 b prec hb hE hM hD hp1
  refine ff_closed W h b prec (fxI T10 b prec).1.toNat (fxI T10 b prec).2 _ hb hE hM hp1 hp2 hD ?_ ?_ h3 h4 rfl
  · rw [Int.toNat_of_nonneg h1]
  · have e : (10 : Nat) ^ 18 = 1000000000000000000 := by decide
    omega

end Go.Proofs.YtgnddabdjjkgiaaGreatDoor.fmtf

namespace Go.Proofs.YtgnddabdjjkgiaaGreatDoor.pf
open Go.RowKit Go.Lib Go.Proofs.YtgnddabdjjkgiaaGreatDoor.sum Go.Proofs.YtgnddabdjjkgiaaGreatDoor.kept Go.Proofs.YtgnddabdjjkgiaaGreatDoor.app Go.Proofs.YtgnddabdjjkgiaaGreatDoor.writer Go.Proofs.YtgnddabdjjkgiaaGreatDoor.known Go.Proofs.YtgnddabdjjkgiaaGreatDoor.str Go.Proofs.YtgnddabdjjkgiaaGreatDoor.fmtf Go.Proofs.YtgnddabdjjkgiaaGreatDoor.fl
set_option linter.unusedVariables false

theorem small_nat {n : Nat} (h : n < 2 ^ 53) : Small (n : Int) := by unfold Small; rw [show ((n : Int)).natAbs = n by omega]; exact h
/-- the digits of a whole number -/
def dgN (n : Nat) : List UInt8 := if n = 0 then [48] else ffS (fl (n : Int)) 0
theorem dgN_any (W : World) (h : Ld W) (n : Nat) (hn : n < 2 ^ 53) : Calls Tryz.prog 12 #[.float .f64 (fl (n : Int))] W (TxPost W (dgN n)) := by
  have hs := small_nat hn
  refine digits_fin W _ _ (kind_fl _ hs) (nan_fl _ hs) ?_
  rw [trunc_fl _ hs, plain_fl _ hs]
  unfold dgN
  by_cases h0 : n = 0
  · subst h0
    rw [if_pos rfl, show fl ((0 : Nat) : Int) = 0 by decide +kernel]
    exact ff_zero W
  · rw [if_neg h0]
    have hf := ff_fl n (by omega) hn
    exact ff_all W h _ 0 (by have := hf.1; omega) hf.2.1 hf.2.2.1 (by omega) (by omega) (dg_fl n (by omega) hn)
theorem dig_ne (u n i : Nat) : UInt8.ofNat (dgt u n i) ≠ 45 := by
  intro e
  have h := congrArg UInt8.toNat e
  unfold dgt at h
  have h2 : u / 10 ^ (n - 1 - i) % 10 < 10 := Nat.mod_lt _ (by omega)
  generalize u / 10 ^ (n - 1 - i) % 10 = k at *
  rw [UInt8.toNat_ofNat'] at h
  simp at h
  omega
theorem intF_pos (u n : Nat) (dp : Int) (nd : Nat) (hd : dp ≤ 1000) : (∀ c ∈ intF (dgt u n) dp nd, c ≠ 45) ∧ (intF (dgt u n) dp nd).length ≤ 3000 ∧ 0 < (intF (dgt u n) dp nd).length := by
  unfold intF
  split
  · refine ⟨fun c hc => ?_, ?_, ?_⟩
    · rcases List.mem_append.1 hc with h | h
      · obtain ⟨k, _, rfl⟩ := List.mem_map.1 h
        exact dig_ne _ _ _
      · rw [List.eq_of_mem_replicate h]; decide
    · rw [List.length_append, List.length_map, List.length_range, List.length_replicate]; omega
    · rw [List.length_append, List.length_map, List.length_range, List.length_replicate]; omega
  · exact ⟨fun c hc => by rw [List.mem_singleton.1 hc]; decide, by simp, by simp⟩
theorem ffS_pos (b : Nat) (hb : b < 9223372036854775808) (hE : b / 4503599627370496 % 2048 ≠ 2047) (hM : mtN b ≠ 0) (hD : dgI b 0 ≤ 18) : (∀ c ∈ ffS b 0, c ≠ 45) ∧ (ffS b 0).length ≤ 3000 ∧ 0 < (ffS b 0).length := by
  obtain ⟨h1, h2, h3, h4⟩ := fx_bd T10 b 0 (by omega) hE hM hD (by omega)
  have hn := (nd_bd (d := (fxI T10 b 0).1.toNat) (by have e : (10 : Nat) ^ 18 = 1000000000000000000 := by decide
                                                     omega)).2.1
  unfold ffS outF
  rw [decide_eq_false (by omega), if_neg (by simp)]
  have hfr : ∀ f dp nd, fracF f dp nd 0 = [] := fun f dp nd => by unfold fracF; rw [if_neg (by omega)]
  rw [hfr, List.nil_append, List.append_nil]
  exact intF_pos _ _ _ _ (by split <;> omega)
theorem dgN_pos (n : Nat) (hn : n < 2 ^ 53) : (∀ c ∈ dgN n, c ≠ 45) ∧ (dgN n).length ≤ 3000 ∧ 0 < (dgN n).length := by
  unfold dgN
  by_cases h0 : n = 0
  · rw [if_pos h0]; exact ⟨by decide, by decide, by decide⟩
  · rw [if_neg h0]
    have hf := ff_fl n (by omega) hn
    exact ffS_pos _ hf.1 hf.2.1 hf.2.2.1 (dg_fl n (by omega) hn)

end Go.Proofs.YtgnddabdjjkgiaaGreatDoor.pf

namespace Go.Proofs.YtgnddabdjjkgiaaGreatDoor.pf
open Go.RowKit Go.Lib Go.Proofs.YtgnddabdjjkgiaaGreatDoor.sum Go.Proofs.YtgnddabdjjkgiaaGreatDoor.kept Go.Proofs.YtgnddabdjjkgiaaGreatDoor.app Go.Proofs.YtgnddabdjjkgiaaGreatDoor.writer Go.Proofs.YtgnddabdjjkgiaaGreatDoor.known Go.Proofs.YtgnddabdjjkgiaaGreatDoor.str Go.Proofs.YtgnddabdjjkgiaaGreatDoor.fmtf Go.Proofs.YtgnddabdjjkgiaaGreatDoor.fl
set_option linter.unusedVariables false

/-- the word of a whole number below 0 -/
theorem word_neg (n : Nat) (h0 : 0 < n) (h : n < 2 ^ 53) : fl (-(n : Int)) = fl (n : Int) + 9223372036854775808 := by
  rw [word_fl n h0 h]
  have hl := small_log h0 h
  have hn := nearest_exact true n 0 0 h0 hl (by omega) (by omega)
  rw [Nat.pow_zero, Nat.mul_one] at hn
  rw [fl_eq, show decide (-(n : Int) < 0) = true by simp; omega]
  have e : (0 : Int) - ((0 : Nat) : Int) = 0 := rfl
  rw [e] at hn
  rw [show (-(n : Int)).natAbs = n by omega, hn]
  have e2 : (0 + (n.log2 : Int) + 1022).toNat = n.log2 + 1022 := by omega
  rw [e2]
  unfold Ieee.Format.word
  have hb := norm_bounds n h0 hl
  have hi : Ieee.double.infRung = 9218868437227405312 := by decide
  have hs : Ieee.double.signWeight = 9223372036854775808 := by decide +kernel
  have p52 : (2 : Nat) ^ 52 = 4503599627370496 := by decide
  have p53 : (2 : Nat) ^ 53 = 9007199254740992 := by decide
  obtain ⟨hb1, hb2⟩ := hb
  rw [p52] at hb1
  rw [p53] at hb2
  generalize hX : n * 2 ^ (52 - n.log2) = X at *
  simp only [if_true, hi, p52]
  all_goals (try rw [Nat.min_eq_left (by omega)])
  rw [hs, Nat.add_comm]
/-- a number with its sign turned -/
theorem mt_neg (b : Nat) : mtN (b + 9223372036854775808) = mtN b := by
  have e1 : (b + 9223372036854775808) / 4503599627370496 % 2048 = b / 4503599627370496 % 2048 := by omega
  have e2 : (b + 9223372036854775808) % 4503599627370496 = b % 4503599627370496 := by omega
  unfold mtN
  rw [e1, e2]
theorem ex_neg (b : Nat) : exI (b + 9223372036854775808) = exI b := by
  have e1 : (b + 9223372036854775808) / 4503599627370496 % 2048 = b / 4503599627370496 % 2048 := by omega
  unfold exI
  rw [e1]
theorem dg_neg (b : Nat) (p : Int) : dgI (b + 9223372036854775808) p = dgI b p := by unfold dgI; rw [ex_neg]
theorem fx_neg (T : Int → Nat × Nat) (b : Nat) (p : Int) : fxI T (b + 9223372036854775808) p = fxI T b p := by
  unfold fxI fxE shN
  rw [dg_neg, mt_neg, ex_neg]
theorem ff_neg (b : Nat) (hb : b < 9223372036854775808) (p : Int) : ffS (b + 9223372036854775808) p = 45 :: ffS b p := by
  unfold ffS
  rw [fx_neg, show decide (9223372036854775808 ≤ b + 9223372036854775808) = true by simp, show decide (9223372036854775808 ≤ b) = false by simp; omega]
  unfold outF
  simp
/-- the digits of a whole number, its sign ahead -/
def dgZ (z : Int) : List UInt8 := if z < 0 then 45 :: dgN z.natAbs else dgN z.natAbs
theorem dgZ_any (W : World) (h : Ld W) (z : Int) (hs : Small z) : Calls Tryz.prog 12 #[.float .f64 (fl z)] W (TxPost W (dgZ z)) := by
  unfold dgZ
  by_cases hz : z < 0
  · rw [if_pos hz]
    obtain ⟨n, hn⟩ : ∃ n, z.natAbs = n := ⟨_, rfl⟩
    have hz2 : z = -(n : Int) := by omega
    have hn2 : n < 2 ^ 53 := by unfold Small at hs; omega
    rw [hn]
    subst hz2
    refine digits_fin W _ _ (kind_fl _ hs) (nan_fl _ hs) ?_
    rw [trunc_fl _ hs, plain_fl _ hs, word_neg n (by omega) hn2]
    have hf := ff_fl n (by omega) hn2
    have e1 : (fl (n : Int) + 9223372036854775808) / 4503599627370496 % 2048 = fl (n : Int) / 4503599627370496 % 2048 := by omega
    have := ff_all W h (fl (n : Int) + 9223372036854775808) 0 (by have := hf.1; omega) (by rw [e1]; exact hf.2.1) (by rw [mt_neg]; exact hf.2.2.1) (by omega) (by omega) (by rw [dg_neg]; exact dg_fl n (by omega) hn2)
    rw [ff_neg _ hf.1] at this
    unfold dgN
    rw [if_neg (by omega)]
    exact this
  · rw [if_neg hz]
    have hz2 : z = (z.natAbs : Int) := by omega
    have := dgN_any W h z.natAbs (by unfold Small at hs; omega)
    rw [← hz2] at this
    exact this

end Go.Proofs.YtgnddabdjjkgiaaGreatDoor.pf

namespace Go.Proofs.YtgnddabdjjkgiaaGreatDoor.pf
open Go.RowKit Go.Proofs.YtgnddabdjjkgiaaGreatDoor.fl Go.Proofs.YtgnddabdjjkgiaaGreatDoor.fmtf
set_option linter.unusedVariables false

abbrev rdD (b : Nat) : Ieee.Datum := Ieee.double.read b
/-- what a word is -/
theorem read_cases (b : Nat) (hb : b < 18446744073709551616) :
    (b % 9223372036854775808 < 4503599627370496 ∧ rdD b = .number (b / 9223372036854775808 % 2 == 1) (b % 9223372036854775808) (-1074)) ∨
    (4503599627370496 ≤ b % 9223372036854775808 ∧ b % 9223372036854775808 < 9218868437227405312 ∧ rdD b = .number (b / 9223372036854775808 % 2 == 1) (4503599627370496 + b % 9223372036854775808 % 4503599627370496) (-1074 + (b % 9223372036854775808 / 4503599627370496 - 1 : Nat))) ∨
    (b = 9218868437227405312 ∧ rdD b = .infinity false) ∨ (b = 18442240474082181120 ∧ rdD b = .infinity true) ∨ (∃ s t, rdD b = .nan s t) := by
  have e1 : Ieee.double.signWeight = 9223372036854775808 := by decide
  have e2 : Ieee.double.binade = 4503599627370496 := by decide
  have e3 : Ieee.double.infRung = 9218868437227405312 := by decide
  have e4 : Ieee.double.leastPlace = -1074 := by decide
  have hu : rdD b = (if b % 9223372036854775808 < 4503599627370496 then Ieee.Datum.number (b / 9223372036854775808 % 2 == 1) (b % 9223372036854775808) (-1074) else if b % 9223372036854775808 < 9218868437227405312 then Ieee.Datum.number (b / 9223372036854775808 % 2 == 1) (4503599627370496 + b % 9223372036854775808 % 4503599627370496) (-1074 + ((b % 9223372036854775808 / 4503599627370496 - 1 : Nat) : Int)) else if b % 9223372036854775808 = 9218868437227405312 then Ieee.Datum.infinity (b / 9223372036854775808 % 2 == 1) else Ieee.Datum.nan (b / 9223372036854775808 % 2 == 1) (b % 9223372036854775808 - 9218868437227405312)) := by
    show Ieee.double.read b = _
    unfold Ieee.Format.read
    simp only [e1, e2, e3, e4]
  by_cases h1 : b % 9223372036854775808 < 4503599627370496
  · rw [if_pos h1] at hu
    exact .inl ⟨h1, hu⟩
  · rw [if_neg h1] at hu
    by_cases h2 : b % 9223372036854775808 < 9218868437227405312
    · rw [if_pos h2] at hu
      exact .inr (.inl ⟨by omega, h2, hu⟩)
    · rw [if_neg h2] at hu
      by_cases h3 : b % 9223372036854775808 = 9218868437227405312
      · rw [if_pos h3] at hu
        by_cases h4 : b < 9223372036854775808
        · refine .inr (.inr (.inl ⟨by omega, ?_⟩))
          rw [hu, show b / 9223372036854775808 % 2 = 0 by omega]
          rfl
        · refine .inr (.inr (.inr (.inl ⟨by omega, ?_⟩)))
          rw [hu, show b / 9223372036854775808 % 2 = 1 by omega]
          rfl
      · rw [if_neg h3] at hu
        exact .inr (.inr (.inr (.inr ⟨_, _, hu⟩)))
/-- a finite word -/
def FinD (b : Nat) : Prop := b % 9223372036854775808 < 9218868437227405312
theorem fin_read {b : Nat} (hb : b < 18446744073709551616) (h : FinD b) : ∃ m i, rdD b = .number (b / 9223372036854775808 % 2 == 1) m i ∧ m < 9007199254740992 ∧ -1074 ≤ i ∧ i ≤ 971 := by
  unfold FinD at h
  rcases read_cases b hb with ⟨h1, h2⟩ | ⟨h1, h2, h3⟩ | ⟨h1, _⟩ | ⟨h1, _⟩ | ⟨s, t, h1⟩
  · exact ⟨_, _, h2, by omega, by omega, by omega⟩
  · exact ⟨_, _, h3, by omega, by omega, by omega⟩
  · omega
  · omega
  · exfalso
    have e1 : Ieee.double.signWeight = 9223372036854775808 := by decide
    have e2 : Ieee.double.binade = 4503599627370496 := by decide
    have e3 : Ieee.double.infRung = 9218868437227405312 := by decide
    change Ieee.double.read b = _ at h1
    unfold Ieee.Format.read at h1
    simp only [e1, e2, e3] at h1
    split at h1
    · cases h1
    · cases h1
/-- the order of two numbers -/
theorem ord_num {a b : Nat} {s t : Bool} {m n : Nat} {i j : Int} (ha : rdD a = .number s m i) (hb : rdD b = .number t n j) : ord a b = some (compare (Ieee.signed s m (i - min i j).toNat) (Ieee.signed t n (j - min i j).toNat)) := by
  show Ieee.double.order a b = _
  unfold Ieee.Format.order
  rw [show Ieee.double.read a = _ from ha, show Ieee.double.read b = _ from hb]
  rfl
theorem signed_abs (s : Bool) (m k : Nat) : -((m * 2 ^ k : Nat) : Int) ≤ Ieee.signed s m k ∧ Ieee.signed s m k ≤ ((m * 2 ^ k : Nat) : Int) := by
  unfold Ieee.signed
  rw [Nat.shiftLeft_eq]
  split <;> omega
theorem cmp_self (x : Int) : compare x x = .eq := by simp [compare, compareOfLessAndEq]
theorem cmp_gt {x y : Int} (h : x ≤ y) : (some (compare x y) == some Ordering.gt) = false := by
  simp only [compare, compareOfLessAndEq]
  split
  · rfl
  · split
    · rfl
    · omega
theorem cmp_lt {x y : Int} (h : y ≤ x) : (some (compare x y) == some Ordering.lt) = false := by
  simp only [compare, compareOfLessAndEq]
  split
  · omega
  · split <;> rfl
theorem cmp_lt_iff (x y : Int) : (some (compare x y) == some Ordering.lt) = decide (x < y) := by
  simp only [compare, compareOfLessAndEq]
  split
  · rename_i h; rw [decide_eq_true h]; rfl
  · rename_i h
    rw [decide_eq_false h]
    split <;> rfl
theorem cmp_eq_iff (x y : Int) : (some (compare x y) == some Ordering.eq) = decide (x = y) := by
  simp only [compare, compareOfLessAndEq]
  split
  · rename_i h; rw [decide_eq_false (by omega)]; rfl
  · split
    · rename_i h; rw [decide_eq_true h]; rfl
    · rename_i h; rw [decide_eq_false h]; rfl
/-- a finite number is below the greatest and above the least, and itself -/
theorem fin_kind {b : Nat} (hb : b < 18446744073709551616) (h : FinD b) : kindB b = 0 ∧ nanB b = false := by
  obtain ⟨m, i, hr, hm, hi1, hi2⟩ := fin_read hb h
  obtain ⟨s, hs⟩ : ∃ s, (b / 9223372036854775808 % 2 == 1) = s := ⟨_, rfl⟩
  rw [hs] at hr
  have e0 : min i i = i := by omega
  have e1 : min i (971 : Nat) = i := by omega
  have h1 : (FloatKind.f64.format.order b b != some .eq) = false := by
    rw [show FloatKind.f64.format.order b b = _ from ord_num hr hr, cmp_self]; rfl
  obtain ⟨k, hk⟩ : ∃ k : Nat, (((971 : Nat) : Int) - min i (971 : Nat)).toNat = k := ⟨_, rfl⟩
  have hi0 : (i - min i (971 : Nat)).toNat = 0 := by omega
  have hp : 0 < 2 ^ k := Nat.two_pow_pos k
  have hX : 9007199254740991 ≤ 9007199254740991 * 2 ^ k := Nat.le_mul_of_pos_right _ hp
  have hab := signed_abs s m 0
  rw [Nat.pow_zero, Nat.mul_one] at hab
  have h2 : (FloatKind.f64.format.order b 9218868437227405311 == some .gt) = false := by
    rw [show FloatKind.f64.format.order b 9218868437227405311 = _ from ord_num hr read_max, hi0, hk]
    apply cmp_gt
    have : Ieee.signed false 9007199254740991 k = ((9007199254740991 * 2 ^ k : Nat) : Int) := by unfold Ieee.signed; rw [Nat.shiftLeft_eq]; rfl
    rw [this]
    omega
  have h3 : (FloatKind.f64.format.order b 18442240474082181119 == some .lt) = false := by
    rw [show FloatKind.f64.format.order b 18442240474082181119 = _ from ord_num hr read_min, hi0, hk]
    apply cmp_lt
    have : Ieee.signed true 9007199254740991 k = -((9007199254740991 * 2 ^ k : Nat) : Int) := by unfold Ieee.signed; rw [Nat.shiftLeft_eq]; rfl
    rw [this]
    omega
  refine ⟨?_, ?_⟩
  · unfold kindB
    rw [h1, h2, h3]
    rfl
  · unfold nanB
    rw [show FloatKind.f64.decode b = _ from hr]
theorem rung_eq {E F r j m : Nat} (h1 : r / 4503599627370496 = E) (h2 : r % 4503599627370496 = F) (hj : j + 1075 = E) (hm : 4503599627370496 + F = m) : (j + 1074) * 4503599627370496 + m = r := by
  subst hj hm h2
  omega
theorem word_eq {b r : Nat} (hb : b < 18446744073709551616) (hr : b % 9223372036854775808 = r) : (if (b / 9223372036854775808 % 2 == 1) = true then 9223372036854775808 + r else r) = b := by
  by_cases h : b < 9223372036854775808
  · rw [if_neg (by simp; omega)]
    omega
  · rw [if_pos (by simp; omega)]
    omega
/-- the whole part of a finite number: a small whole number, or the number itself -/
theorem trunc_cases {b : Nat} (hb : b < 18446744073709551616) (h : FinD b) :
    (∃ z : Int, Small z ∧ plainB (truncB b) = fl z) ∨ (truncB b = b ∧ 52 ≤ exI b ∧ mtN b ≠ 0 ∧ b / 4503599627370496 % 2048 ≠ 2047) := by
  have h0 := h
  unfold FinD at h
  have hsmall : ∀ (s : Bool) (m : Nat) (i : Int), rdD b = .number s m i → m < 9007199254740992 → i ≤ 0 → ∃ z : Int, Small z ∧ plainB (truncB b) = fl z := by
    intro s m i hr hm hi
    have ht : truncB b = Ieee.double.nearest s (Ieee.Toward.zero.cut s m (-i).toNat) 0 := by
      unfold truncB
      rw [show FloatKind.f64.decode b = _ from hr]
      simp only [Ieee.Datum.integral]
      rw [show i.toNat = 0 by omega, Nat.shiftLeft_zero]
      rfl
    have hc : Ieee.Toward.zero.cut s m (-i).toNat ≤ m := by
      unfold Ieee.Toward.cut
      simp only [Bool.toNat_false, Nat.add_zero]
      exact Nat.div_le_self _ _
    obtain ⟨M, hM⟩ : ∃ M, Ieee.Toward.zero.cut s m (-i).toNat = M := ⟨_, rfl⟩
    rw [hM] at ht hc
    have hM53 : M < 2 ^ 53 := by have : (2 : Nat) ^ 53 = 9007199254740992 := by decide
                                 omega
    cases s with
    | false =>
      refine ⟨(M : Int), small_nat hM53, ?_⟩
      have : truncB b = fl (M : Int) := by
        rw [ht, fl_eq, show decide ((M : Int) < 0) = false by simp, show ((M : Int)).natAbs = M by omega]
      rw [this]
      exact plain_fl _ (small_nat hM53)
    | true =>
      rcases Nat.eq_zero_or_pos M with e | e
      · refine ⟨0, by unfold Small; decide, ?_⟩
        rw [ht, e, show Ieee.double.nearest true 0 0 = 9223372036854775808 by decide +kernel]
        kernel_rfl
      · refine ⟨-(M : Int), by unfold Small; rw [show (-(M : Int)).natAbs = M by omega]; exact hM53, ?_⟩
        have : truncB b = fl (-(M : Int)) := by
          rw [ht, fl_eq, show decide (-(M : Int) < 0) = true by simp; omega, show (-(M : Int)).natAbs = M by omega]
        rw [this]
        exact plain_fl _ (by unfold Small; rw [show (-(M : Int)).natAbs = M by omega]; exact hM53)
  rcases read_cases b hb with ⟨h1, hr⟩ | ⟨h1, h2, hr⟩ | ⟨h1, _⟩ | ⟨h1, _⟩ | ⟨s, t, h1⟩
  · exact .inl (hsmall _ _ _ hr (by omega) (by omega))
  · by_cases hi : (-1074 + (b % 9223372036854775808 / 4503599627370496 - 1 : Nat) : Int) ≤ 0
    · exact .inl (hsmall _ _ _ hr (by omega) hi)
    · right
      obtain ⟨E, hE⟩ : ∃ E, b % 9223372036854775808 / 4503599627370496 = E := ⟨_, rfl⟩
      obtain ⟨F, hF⟩ : ∃ F, b % 9223372036854775808 % 4503599627370496 = F := ⟨_, rfl⟩
      rw [hE, hF] at hr
      rw [hE] at hi
      have hE1 : 1076 ≤ E := by omega
      have hE2 : E ≤ 2046 := by omega
      have hbe : b / 4503599627370496 % 2048 = E := by omega
      have hex : exI b = (E : Int) - 1023 := by unfold exI; rw [hbe, if_neg (by omega)]
      have hmt : mtN b = 4503599627370496 + F := by unfold mtN; rw [hbe, if_neg (by omega)]; omega
      refine ⟨?_, by rw [hex]; omega, by rw [hmt]; omega, by rw [hbe]; omega⟩
      obtain ⟨j, hj⟩ : ∃ j : Nat, (-1074 + (E - 1 : Nat) : Int) = (j : Int) := ⟨E - 1075, by omega⟩
      have hjE : j = E - 1075 := by omega
      rw [hj] at hr
      obtain ⟨m, hm⟩ : ∃ m, 4503599627370496 + F = m := ⟨_, rfl⟩
      rw [hm] at hr
      have hm1 : 4503599627370496 ≤ m := by omega
      have hm2 : m < 9007199254740992 := by omega
      have hlm : m.log2 = 52 := by
        rw [Nat.log2_eq_iff (by omega)]
        exact ⟨hm1, hm2⟩
      obtain ⟨s, hs⟩ : ∃ s, (b / 9223372036854775808 % 2 == 1) = s := ⟨_, rfl⟩
      rw [hs] at hr
      have ht : truncB b = Ieee.double.nearest s (Ieee.Toward.zero.cut s (m * 2 ^ j) 0) 0 := by
        unfold truncB
        rw [show FloatKind.f64.decode b = _ from hr]
        simp only [Ieee.Datum.integral]
        rw [show ((j : Int)).toNat = j by omega, show (-(j : Int)).toNat = 0 by omega, Nat.shiftLeft_eq]
        rfl
      have hc0 := cut_exact s .zero (m * 2 ^ j) 0 (Nat.zero_le _)
      rw [Nat.pow_zero, Nat.mul_one] at hc0
      rw [hc0] at ht
      rw [ht]
      have hp : 0 < 2 ^ j := Nat.two_pow_pos j
      have hlog := log2_mul_pow m j (by omega)
      rw [hlm] at hlog
      unfold Ieee.Format.nearest
      rw [if_neg (Nat.mul_ne_zero (by omega) (by omega))]
      have hlast : max ((0 : Int) + ((m * 2 ^ j).log2 : Nat) - (Ieee.double.fractionBits : Nat)) Ieee.double.leastPlace = (j : Int) := by
        rw [hlog]
        have e4 : Ieee.double.leastPlace = -1074 := by decide
        have e5 : Ieee.double.fractionBits = 52 := rfl
        rw [e4, e5]
        omega
      simp only [hlast]
      have hc1 := cut_exact s .even m j (by rw [hlog]; omega)
      rw [show ((0 : Int) - (j : Int)).toNat = 0 by omega, show ((j : Int) - 0).toNat = j by omega, Nat.shiftLeft_zero, hc1]
      have e4 : Ieee.double.leastPlace = -1074 := by decide
      have e2 : Ieee.double.binade = 4503599627370496 := by decide
      have e3 : Ieee.double.infRung = 9218868437227405312 := by decide
      have e1 : Ieee.double.signWeight = 9223372036854775808 := by decide
      rw [e4, e2, e3, show ((j : Int) - -1074).toNat = j + 1074 by omega]
      unfold Ieee.Format.word
      obtain ⟨r, hrr⟩ : ∃ r, b % 9223372036854775808 = r := ⟨_, rfl⟩
      rw [hrr] at hE hF h2
      have hru := rung_eq hE hF (show j + 1075 = E by omega) hm
      rw [e1, hru, Nat.min_eq_left (Nat.le_of_lt h2), ← hs]
      exact word_eq hb hrr
  · omega
  · omega
  · exfalso
    obtain ⟨m, i, hr, _⟩ := fin_read hb h0
    rw [hr] at h1
    cases h1

end Go.Proofs.YtgnddabdjjkgiaaGreatDoor.pf

namespace Go.Proofs.YtgnddabdjjkgiaaGreatDoor.fmtf
open Go.RowKit Go.Proofs.YtgnddabdjjkgiaaGreatDoor.sum Go.Proofs.YtgnddabdjjkgiaaGreatDoor.kept
set_option linter.unusedVariables false

/-- what the first cells are as a number -/
def valF (f : Nat → Nat) : Nat → Nat
  | 0 => 0
  | k + 1 => 10 * valF f k + (f k - 48)
def DgF (f : Nat → Nat) (n : Nat) : Prop := ∀ i, i < n → 48 ≤ f i ∧ f i ≤ 57
theorem valF_lt {f : Nat → Nat} : ∀ {n : Nat}, DgF f n → valF f n < 10 ^ n
  | 0, _ => by rw [valF]; decide
  | n + 1, h => by
    have h1 := valF_lt (n := n) fun i hi => h i (by omega)
    have h2 := h n (by omega)
    rw [valF, Nat.pow_succ]
    omega
theorem val_dig {f : Nat → Nat} {n : Nat} (h : DgF f n) : ∀ {r : Nat}, r < n → valF f n / 10 ^ (n - 1 - r) % 10 = f r - 48 := by
  induction n with
  | zero => intro r hr; omega
  | succ n ih =>
    intro r hr
    have h2 := h n (by omega)
    rcases Nat.lt_or_ge r n with hl | hl
    · have e : n + 1 - 1 - r = (n - 1 - r) + 1 := by omega
      rw [e, Nat.pow_succ, Nat.mul_comm, ← Nat.div_div_eq_div_mul, valF, show (10 * valF f n + (f n - 48)) / 10 = valF f n by omega]
      exact ih (fun i hi => h i (by omega)) hl
    · obtain rfl : r = n := by omega
      rw [show r + 1 - 1 - r = 0 by omega, Nat.pow_zero, Nat.div_one, valF]
      omega
theorem val_of_dgt {f : Nat → Nat} {n P : Nat} (hf : ∀ i, i < n → f i = dgt P n i) (hP : P < 10 ^ n) : ∀ k, k ≤ n → valF f k = P / 10 ^ (n - k)
  | 0, _ => by rw [valF, Nat.sub_zero, Nat.div_eq_of_lt hP]
  | k + 1, hk => by
    rw [valF, hf k (by omega), val_of_dgt hf hP k (by omega)]
    unfold dgt
    rw [show n - k = (n - 1 - k) + 1 by omega, show n - (k + 1) = n - 1 - k by omega, Nat.pow_succ, ← Nat.div_div_eq_div_mul]
    omega
/-- what is carried, t digits from the right being done -/
def carN (V k t : Nat) : Nat := V % 10 ^ t * 2 ^ k / 10 ^ t
theorem car_zero (V k : Nat) : carN V k 0 = 0 := by unfold carN; rw [Nat.pow_zero, Nat.mod_one, Nat.zero_mul]
theorem car_lt (V k t : Nat) : carN V k t < 2 ^ k := by
  unfold carN
  have hp : 0 < 10 ^ t := Nat.pow_pos (by omega)
  rw [Nat.div_lt_iff_lt_mul hp, Nat.mul_comm (2 ^ k)]
  exact Nat.mul_lt_mul_of_pos_right (Nat.mod_lt _ hp) (Nat.pow_pos (by omega))
theorem car_step (V k t : Nat) : carN V k t + V / 10 ^ t % 10 * 2 ^ k = V % 10 ^ (t + 1) * 2 ^ k / 10 ^ t := by
  unfold carN
  have hp : 0 < 10 ^ t := Nat.pow_pos (by omega)
  have e : V % 10 ^ (t + 1) = V % 10 ^ t + 10 ^ t * (V / 10 ^ t % 10) := by rw [Nat.pow_succ, Nat.mod_mul]
  rw [e, Nat.add_mul, Nat.mul_assoc, Nat.add_mul_div_left _ _ hp]
theorem car_quo (V k t : Nat) : (carN V k t + V / 10 ^ t % 10 * 2 ^ k) / 10 = carN V k (t + 1) := by
  rw [car_step, Nat.div_div_eq_div_mul, ← Nat.pow_succ]
  rfl
theorem car_rem (V k t : Nat) : (carN V k t + V / 10 ^ t % 10 * 2 ^ k) % 10 = V * 2 ^ k / 10 ^ t % 10 := by
  rw [car_step]
  have hp : 0 < 10 ^ t := Nat.pow_pos (by omega)
  have e : V = V % 10 ^ (t + 1) + 10 ^ t * (10 * (V / 10 ^ (t + 1))) := by
    have := Nat.mod_add_div V (10 ^ (t + 1))
    rw [← Nat.mul_assoc, ← Nat.pow_succ]
    exact this.symm
  conv => rhs; rw [e, Nat.add_mul, Nat.mul_assoc, Nat.add_mul_div_left _ _ hp, Nat.mul_assoc, Nat.add_mul_mod_self_left]
theorem car_end {V n : Nat} (k : Nat) (h : V < 10 ^ n) : carN V k n = V * 2 ^ k / 10 ^ n := by unfold carN; rw [Nat.mod_eq_of_lt h]
/-- how many decimal digits -/
def dlF : Nat → Nat → Nat
  | 0, _ => 0
  | f + 1, v => if v = 0 then 0 else dlF f (v / 10) + 1
def dlen (v : Nat) : Nat := dlF (v + 1) v
theorem dlF_is : ∀ (f v : Nat), v < f → (v < 10 ^ dlF f v ∧ (0 < v → 10 ^ (dlF f v - 1) ≤ v ∧ 0 < dlF f v))
  | 0, v, h => by omega
  | f + 1, v, h => by
    rw [dlF]
    split
    · rename_i e; subst e; exact ⟨by decide, fun h => absurd h (by omega)⟩
    · rename_i e
      obtain ⟨h1, h2⟩ := dlF_is f (v / 10) (by omega)
      refine ⟨by rw [Nat.pow_succ]; omega, fun _ => ⟨?_, by omega⟩⟩
      rw [Nat.add_sub_cancel]
      rcases Nat.eq_zero_or_pos (v / 10) with e0 | e0
      · have : dlF f (v / 10) = 0 := by rw [e0]; cases f with | zero => rfl | succ f => rw [dlF, if_pos rfl]
        rw [this]; omega
      · obtain ⟨h3, h4⟩ := h2 e0
        rw [show dlF f (v / 10) = (dlF f (v / 10) - 1) + 1 by omega, Nat.pow_succ]
        omega
theorem dlen_lt (v : Nat) : v < 10 ^ dlen v := (dlF_is (v + 1) v (by omega)).1
theorem dlen_ge {v : Nat} (h : 0 < v) : 10 ^ (dlen v - 1) ≤ v ∧ 0 < dlen v := (dlF_is (v + 1) v (by omega)).2 h
theorem dlen_uniq {v n : Nat} (h1 : v < 10 ^ n) (h2 : 10 ^ (n - 1) ≤ v) (h3 : 0 < n) : dlen v = n := by
  have hv : 0 < v := Nat.lt_of_lt_of_le (Nat.pow_pos (by omega)) h2
  obtain ⟨a, b⟩ := dlen_ge hv
  have c := dlen_lt v
  rcases Nat.lt_trichotomy (dlen v) n with h | h | h
  · have := Nat.pow_le_pow_right (show 0 < 10 by omega) (show dlen v ≤ n - 1 by omega)
    omega
  · exact h
  · have := Nat.pow_le_pow_right (show 0 < 10 by omega) (show n ≤ dlen v - 1 by omega)
    omega
theorem dlen_mul {v : Nat} (h : 0 < v) (z : Nat) : dlen (v * 10 ^ z) = dlen v + z := by
  obtain ⟨a, b⟩ := dlen_ge h
  refine dlen_uniq ?_ ?_ (by omega)
  · rw [Nat.pow_add]
    exact Nat.mul_lt_mul_of_pos_right (dlen_lt v) (Nat.pow_pos (by omega))
  · rw [show dlen v + z - 1 = (dlen v - 1) + z by omega, Nat.pow_add]
    exact Nat.mul_le_mul_right _ a
theorem dgt_mul (P n z i : Nat) (h : i < n) : dgt (P * 10 ^ z) (n + z) i = dgt P n i := by
  unfold dgt
  rw [show n + z - 1 - i = z + (n - 1 - i) by omega, Nat.pow_add, ← Nat.div_div_eq_div_mul, Nat.mul_div_cancel _ (Nat.pow_pos (by omega))]
theorem dgt_tail (P n z i : Nat) (h1 : n ≤ i) (h2 : i < n + z) : dgt (P * 10 ^ z) (n + z) i = 48 := by
  unfold dgt
  obtain ⟨y, hy⟩ : ∃ y, z = (n + z - 1 - i) + (y + 1) := ⟨z - (n + z - 1 - i) - 1, by omega⟩
  have : P * 10 ^ z / 10 ^ (n + z - 1 - i) = P * 10 ^ (y + 1) := by
    conv => lhs; arg 1; rw [hy, Nat.pow_add, Nat.mul_comm (10 ^ (n + z - 1 - i)), ← Nat.mul_assoc]
    exact Nat.mul_div_cancel _ (Nat.pow_pos (by omega))
  rw [this, Nat.pow_succ, ← Nat.mul_assoc, Nat.mul_mod_left]
theorem trim_congr {f g : Nat → Nat} : ∀ {n : Nat}, (∀ i, i < n → f i = g i) → trimN f n = trimN g n
  | 0, _ => rfl
  | n + 1, h => by rw [trimN, trimN, h n (by omega), trim_congr fun i hi => h i (by omega)]
theorem trim_tail {f : Nat → Nat} {n : Nat} : ∀ {z : Nat}, (∀ i, n ≤ i → i < n + z → f i = 48) → trimN f (n + z) = trimN f n
  | 0, _ => rfl
  | z + 1, h => by
    show trimN f (n + z + 1) = _
    rw [trimN, if_pos (h _ (by omega) (by omega)), trim_tail fun i h1 h2 => h i h1 (by omega)]
theorem trim_zeros {f : Nat → Nat} : ∀ {n i : Nat}, trimN f n ≤ i → i < n → f i = 48
  | 0, i, _, h => by omega
  | n + 1, i, h1, h2 => by
    rw [trimN] at h1
    split at h1
    · rename_i e
      rcases Nat.lt_or_ge i n with hl | hl
      · exact trim_zeros h1 hl
      · obtain rfl : i = n := by omega
        exact e
    · omega
theorem trim_pos {f : Nat → Nat} {n : Nat} (h : 0 < n) (h0 : f 0 ≠ 48) : 0 < trimN f n := by
  rcases Nat.eq_zero_or_pos (trimN f n) with e | e
  · exact absurd (trim_zeros (n := n) (i := 0) (by omega) h) h0
  · exact e
/-- without the noughts behind it -/
theorem val_trim {f : Nat → Nat} : ∀ (n z : Nat), (∀ i, n ≤ i → i < n + z → f i = 48) → valF f (n + z) = valF f n * 10 ^ z
  | n, 0, _ => by simp
  | n, z + 1, h => by
    show valF f (n + z + 1) = _
    rw [valF, h _ (by omega) (by omega), val_trim n z fun i h1 h2 => h i h1 (by omega), Nat.pow_succ, Nat.sub_self, Nat.add_zero, Nat.mul_comm 10, Nat.mul_assoc]

end Go.Proofs.YtgnddabdjjkgiaaGreatDoor.fmtf
