/- The digits of a whole number below 2^53 are its decimal digits. A text of digits, a sign ahead or none: where it is found, what is read. internal/strconv.parseFloat64 of a whole number that is a float. internal/strconv.parseFloat64 of a whole number that is a float: the walk. -/
import Derived.Test.YtgnddabdjjkgiaaGreatDoorPfLdM
import Derived.Test.YtgnddabdjjkgiaaGreatDoorDecShiftM
import Derived.Test.YtgnddabdjjkgiaaGreatDoorRdFloatM
import Derived.Test.YtgnddabdjjkgiaaGreatDoorFmtFixedM

namespace Go.Proofs.YtgnddabdjjkgiaaGreatDoor.pf
open Go.RowKit Go.Lib Go.Proofs.YtgnddabdjjkgiaaGreatDoor.sum Go.Proofs.YtgnddabdjjkgiaaGreatDoor.kept Go.Proofs.YtgnddabdjjkgiaaGreatDoor.known Go.Proofs.YtgnddabdjjkgiaaGreatDoor.str Go.Proofs.YtgnddabdjjkgiaaGreatDoor.fmtf Go.Proofs.YtgnddabdjjkgiaaGreatDoor.fl
set_option linter.unusedVariables false

theorem or_zero (a : Int) (h0 : 0 ≤ a) (h : a < 18446744073709551616) : bits .or .u64 a 0 = a := by
  have h1 : (BitVec.ofInt 64 a).toNat = a.toNat := by
    rw [BitVec.toNat_ofInt]
    omega
  show IntKind.u64.wrap ((BitVec.ofInt 64 a ||| BitVec.ofInt 64 0).toNat : Int) = _
  rw [BitVec.toNat_or, h1, show (BitVec.ofInt 64 0).toNat = 0 from rfl, Nat.or_zero, IntKind.wrap_u64]
  omega
theorem and_one (a : Int) (h0 : 0 ≤ a) (h : a < 18446744073709551616) : bits .and .u64 a 1 = a % 2 := by
  have h1 : (BitVec.ofInt 64 a).toNat = a.toNat := by
    rw [BitVec.toNat_ofInt]
    omega
  show IntKind.u64.wrap ((BitVec.ofInt 64 a &&& BitVec.ofInt 64 1).toNat : Int) = _
  rw [BitVec.toNat_and, h1, show (BitVec.ofInt 64 1).toNat = 1 from rfl, Nat.and_one_is_mod, IntKind.wrap_u64]
  omega
theorem usc_exact (A s : Nat) (h : A * 2 ^ s < 18446744073709551616) : uscI (A * 2 ^ s) 0 0 s = (A : Int) := by
  have hp : 0 < 2 ^ s := Nat.pow_pos (by omega)
  have hA : A ≤ A * 2 ^ s := Nat.le_mul_of_pos_right A hp
  have e1 : ((A * 2 ^ s : Nat) : Int) / 2 ^ s = (A : Int) := by
    rw [show ((2 : Int) ^ s) = ((2 ^ s : Nat) : Int) by simp, ← Int.natCast_ediv, Nat.mul_div_cancel _ hp]
  have e2 : (A : Int) * 2 ^ s = ((A * 2 ^ s : Nat) : Int) := by simp
  unfold uscI
  rw [e1, e2, IntKind.wrap_u64, Int.emod_eq_of_lt (by omega) (by omega)]
  rw [if_neg (by simp)]
  rw [show b2 (decide ((0 : Nat) < 0)) = 0 from rfl, show b2 (decide (1 < IntKind.u64.wrap (((0 : Nat) : Int) - ((0 : Nat) : Int)))) = 0 from rfl, Int.sub_zero, IntKind.wrap_u64, Int.emod_eq_of_lt (by omega) (by omega), e1]
  exact or_zero _ (by omega) (by omega)
theorem div_ten (n : Nat) (h : n < 2 ^ 53) : divI ((40 * n : Nat) : Int) = ((4 * n : Nat) : Int) := by
  unfold divI
  rw [and_one _ (by omega) (by omega)]
  have e : (((40 * n : Nat) : Int)).tdiv 10 = ((4 * n : Nat) : Int) := by
    rw [Int.tdiv_eq_ediv_of_nonneg (by omega)]
    omega
  rw [e, IntKind.wrap_u64, Int.emod_eq_of_lt (by omega) (by omega)]
  rw [show ((40 * n : Nat) : Int) % 2 = 0 by omega, show ((40 * n : Nat) : Int) % 10 = 0 by omega]
  rw [or_zero _ (by omega) (by omega)]
  exact or_zero _ (by omega) (by omega)
theorem rnd_four (n : Nat) (h : n < 2 ^ 53) : rndI ((4 * n : Nat) : Int) = (n : Int) := by
  unfold rndI
  rw [show ((4 * n : Nat) : Int) / 4 = (n : Int) by omega, and_one _ (by omega) (by omega), IntKind.wrap_u64, IntKind.wrap_u64, Int.emod_eq_of_lt (a := ((4 * n : Nat) : Int) + 1) (by omega) (by omega), Int.emod_eq_of_lt (by omega) (by omega)]
  omega
theorem t10_0 : T10 0 = (9223372036854775808, 0) := by kernel_rfl
theorem t10_1 : T10 1 = (11529215046068469760, 0) := by kernel_rfl
theorem shape_fw : ∀ k : Fin 53, let D : Int := 1 + lg10 (1 + (k.val : Int)); 0 < D ∧ 2 ^ (k.val + 1) ≤ 10 ^ D.toNat ∧ ((fwP ((k.val : Int) - 63) D = 0 ∧ (fwS ((k.val : Int) - 63) D).toNat = 60 - k.val) ∨ (fwP ((k.val : Int) - 63) D = 1 ∧ (fwS ((k.val : Int) - 63) D).toNat = 57 - k.val)) := by decide +kernel
theorem mul63 (Y : Nat) : Y * 2 ^ 3 * 9223372036854775808 = 4 * Y * 18446744073709551616 := by
  rw [show (2 : Nat) ^ 3 = 8 from rfl]
  omega
theorem mul60 (Y : Nat) : Y * 2 ^ 6 * 11529215046068469760 = 40 * Y * 18446744073709551616 := by
  rw [show (2 : Nat) ^ 6 = 64 from rfl]
  omega
/-- scaling a whole number by its own digits gives the number itself -/
theorem fw_whole (n k : Nat) (h0 : 0 < n) (h1 : 2 ^ k ≤ n) (h2 : n < 2 ^ (k + 1)) (hk : k ≤ 52) :
    fwI (n * 2 ^ (52 - k) * 2 ^ 11) ((k : Int) - 63) (1 + lg10 (1 + (k : Int))).toNat 0 102 (T10 (fwP ((k : Int) - 63) (1 + lg10 (1 + (k : Int))))).1 (T10 (fwP ((k : Int) - 63) (1 + lg10 (1 + (k : Int))))).2 = ((n : Int), 0) := by
  obtain ⟨hD, hten, hc⟩ := shape_fw ⟨k, by omega⟩
  simp only at hD hten hc
  generalize 1 + lg10 (1 + (k : Int)) = D at *
  have hDn : ((D.toNat : Nat) : Int) = D := Int.toNat_of_nonneg (by omega)
  have hn53 : n < 2 ^ 53 := Nat.lt_of_lt_of_le h2 (Nat.pow_le_pow_right (by omega) (by omega))
  have hn10 : n < 10 ^ D.toNat := Nat.lt_of_lt_of_le h2 hten
  have hm : n * 2 ^ (52 - k) * 2 ^ 11 = n * 2 ^ (63 - k) := by
    rw [Nat.mul_assoc, ← Nat.pow_add, show 52 - k + 11 = 63 - k by omega]
  rw [hm]
  have hb : n * 2 ^ (52 - k) < 2 ^ 53 := by
    have := Nat.mul_lt_mul_of_pos_right h2 (show 0 < 2 ^ (52 - k) from Nat.pow_pos (by omega))
    rwa [← Nat.pow_add, show k + 1 + (52 - k) = 53 by omega] at this
  have e64 : (18446744073709551616 : Nat) = 2 ^ 64 := by decide
  rcases hc with ⟨hp, hs⟩ | ⟨hp, hs⟩
  · have hb2 : n * 2 ^ (60 - k) < 2 ^ 61 := by
      have := Nat.mul_lt_mul_of_pos_right h2 (show 0 < 2 ^ (60 - k) from Nat.pow_pos (by omega))
      rwa [← Nat.pow_add, show k + 1 + (60 - k) = 61 by omega] at this
    have hH : n * 2 ^ (63 - k) * 9223372036854775808 = (4 * n) * 2 ^ (60 - k) * 18446744073709551616 := by
      rw [show 63 - k = (60 - k) + 3 by omega, Nat.pow_add]
      generalize hY : n * 2 ^ (60 - k) = Y
      rw [← Nat.mul_assoc, hY, Nat.mul_assoc 4, hY]
      exact mul63 Y
    have hus : uscI (n * 2 ^ (63 - k) * 9223372036854775808 / 18446744073709551616) (n * 2 ^ (63 - k) * 9223372036854775808 % 18446744073709551616) (n * 2 ^ (63 - k) * 0 / 18446744073709551616) (60 - k) = ((4 * n : Nat) : Int) := by
      rw [hH, Nat.mul_div_cancel _ (by omega), Nat.mul_mod_left, Nat.mul_zero, Nat.zero_div]
      apply usc_exact
      rw [Nat.mul_assoc]
      omega
    have hU : fwU (n * 2 ^ (63 - k)) ((k : Int) - 63) D.toNat 9223372036854775808 0 = (((4 * n : Nat) : Int), 0) := by
      unfold fwU
      rw [hDn, hs, hp, hus, if_neg (by omega)]
    rw [hp, t10_0]
    unfold fwI
    rw [hU]
    unfold fwX
    rw [if_pos rfl]
    show (rndI (dvN 0 0 _ 0).1, -(dvN 0 0 _ 0).2) = _
    rw [dvN, rnd_four n hn53]
    rfl
  · have hk57 : k ≤ 57 := by omega
    have hb2 : n * 2 ^ (57 - k) < 2 ^ 58 := by
      have := Nat.mul_lt_mul_of_pos_right h2 (show 0 < 2 ^ (57 - k) from Nat.pow_pos (by omega))
      rwa [← Nat.pow_add, show k + 1 + (57 - k) = 58 by omega] at this
    have hH : n * 2 ^ (63 - k) * 11529215046068469760 = (40 * n) * 2 ^ (57 - k) * 18446744073709551616 := by
      rw [show 63 - k = (57 - k) + 6 by omega, Nat.pow_add]
      generalize hY : n * 2 ^ (57 - k) = Y
      rw [← Nat.mul_assoc, hY, Nat.mul_assoc 40, hY]
      exact mul60 Y
    have hus : uscI (n * 2 ^ (63 - k) * 11529215046068469760 / 18446744073709551616) (n * 2 ^ (63 - k) * 11529215046068469760 % 18446744073709551616) (n * 2 ^ (63 - k) * 0 / 18446744073709551616) (57 - k) = ((40 * n : Nat) : Int) := by
      rw [hH, Nat.mul_div_cancel _ (by omega), Nat.mul_mod_left, Nat.mul_zero, Nat.zero_div]
      apply usc_exact
      rw [Nat.mul_assoc]
      omega
    rw [hp, t10_1]
    unfold fwI fwX
    rw [if_pos rfl]
    have hX : dvN 0 ((fwU (n * 2 ^ (63 - k)) ((k : Int) - 63) D.toNat 11529215046068469760 0).2 - 0).toNat (fwU (n * 2 ^ (63 - k)) ((k : Int) - 63) D.toNat 11529215046068469760 0).1 (fwU (n * 2 ^ (63 - k)) ((k : Int) - 63) D.toNat 11529215046068469760 0).2 = (((4 * n : Nat) : Int), 0) := by
      unfold fwU
      rw [hDn, hs, hp, hus]
      split
      · show dvN 0 0 _ 0 = _
        rw [dvN, div_ten n hn53]
      · show dvN 0 1 _ 1 = _
        rw [dvN, if_pos (by decide), dvN, div_ten n hn53]
        rfl
    rw [hX, rnd_four n hn53]
    rfl

/-- the digits of a number, so many of them -/
def decW (n w : Nat) : List UInt8 := (List.range w).map fun i => UInt8.ofNat (dgt n w i)
/-- what the first digits of a text are as a number -/
def pv : List UInt8 → Nat → Nat
  | _, 0 => 0
  | l, k + 1 => 10 * pv l k + ((l.getD k 0).toNat - 48)
theorem trim_fill (f : Nat → Nat) : ∀ w, (List.range (trimN f w)).map (fun i => UInt8.ofNat (f i)) ++ List.replicate (w - trimN f w) 48 = (List.range w).map fun i => UInt8.ofNat (f i)
  | 0 => rfl
  | k + 1 => by
    rw [trimN]
    split
    · rename_i h
      have hle := trimN_le f k
      rw [show k + 1 - trimN f k = (k - trimN f k) + 1 by omega, List.replicate_succ', ← List.append_assoc, trim_fill f k, List.range_succ, List.map_append]
      simp [h]
    · rw [Nat.sub_self, List.replicate_zero, List.append_nil]
theorem intF_trim (f : Nat → Nat) (w : Nat) (h : 0 < w) : intF f (w : Int) (trimN f w) = (List.range w).map fun i => UInt8.ofNat (f i) := by
  have hle := trimN_le f w
  unfold intF
  rw [if_pos (by omega), Int.min_eq_left (by omega), Int.toNat_natCast, show ((w : Int) - (trimN f w : Int)).toNat = w - trimN f w by omega]
  exact trim_fill f w
theorem decW_len (n w : Nat) : (decW n w).length = w := by unfold decW; simp
theorem decW_get (n w i : Nat) (h : i < w) : ((decW n w).getD i 0).toNat = dgt n w i := by
  unfold decW
  rw [List.getD_eq_getElem?_getD, List.getElem?_map, List.getElem?_range h]
  show (UInt8.ofNat (dgt n w i)).toNat = _
  have h2 : dgt n w i < 256 := by unfold dgt; omega
  simp only [UInt8.toNat_ofNat']
  omega
theorem dgt_bd (n w i : Nat) : 48 ≤ dgt n w i ∧ dgt n w i ≤ 57 := by unfold dgt; omega
theorem pv_dec (n w : Nat) (h : n < 10 ^ w) : ∀ k, k ≤ w → pv (decW n w) k = n / 10 ^ (w - k)
  | 0, _ => by rw [pv, Nat.sub_zero, Nat.div_eq_of_lt h]
  | k + 1, hk => by
    rw [pv, decW_get n w k (by omega), pv_dec n w h k (by omega)]
    unfold dgt
    rw [show w - k = (w - 1 - k) + 1 by omega, show w - (k + 1) = w - 1 - k by omega, Nat.pow_succ, ← Nat.div_div_eq_div_mul]
    omega
theorem pv_all (n w : Nat) (h : n < 10 ^ w) : pv (decW n w) w = n := by
  rw [pv_dec n w h w (Nat.le_refl _), Nat.sub_self, Nat.pow_zero, Nat.div_one]
theorem pv_lt (l : List UInt8) (h : ∀ i, i < l.length → (l.getD i 0).toNat ≤ 57) : ∀ k, k ≤ l.length → pv l k < 10 ^ k
  | 0, _ => by rw [pv]; decide
  | k + 1, hk => by
    have h1 := pv_lt l h k (by omega)
    have h2 := h k (by omega)
    rw [pv, Nat.pow_succ]
    omega

theorem mt_fl (n : Nat) (h0 : 0 < n) (h : n < 2 ^ 53) : mtN (fl (n : Int)) = n * 2 ^ (52 - n.log2) := by
  have hl := small_log h0 h
  have hb := norm_bounds n h0 hl
  have hw := word_fl n h0 h
  have p52 : (2 : Nat) ^ 52 = 4503599627370496 := by decide
  have p53 : (2 : Nat) ^ 53 = 9007199254740992 := by decide
  rw [p52, p53] at hb
  rw [p52] at hw
  generalize n * 2 ^ (52 - n.log2) = X at *
  generalize n.log2 = L at *
  have hd : fl (n : Int) / 4503599627370496 = L + 1023 := by omega
  have hm : (L + 1023) % 2048 = L + 1023 := by omega
  unfold mtN
  rw [hd, hm, if_neg (by omega)]
  omega
theorem len53 (m : Nat) (h1 : 2 ^ 52 ≤ m) (h2 : m < 2 ^ 53) : Lib.bitLen m = 53 := by
  have hb : Lib.bitLen m ≤ 53 := Lib.bitLen_le m 53 (by decide) h2
  have hlt : m < 2 ^ Lib.bitLen m := aux_lt 64 m (Nat.lt_trans h2 (by decide))
  rcases Nat.lt_or_ge (Lib.bitLen m) 53 with h3 | h3
  · have := Nat.pow_le_pow_right (show 0 < 2 by omega) (show Lib.bitLen m ≤ 52 by omega)
    omega
  · omega
theorem fx_fl (n : Nat) (h0 : 0 < n) (h : n < 2 ^ 53) : fxI T10 (fl (n : Int)) 0 = ((n : Int), 0) := by
  have hl := small_log h0 h
  have hb := norm_bounds n h0 hl
  have hm := mt_fl n h0 h
  have he := (ff_fl n h0 h).2.2.2
  have hs : shN (fl (n : Int)) = 11 := by unfold shN; rw [hm, len53 _ hb.1 hb.2]
  have hE : fxE (fl (n : Int)) = (n.log2 : Int) - 63 := by unfold fxE; rw [he, hs]; omega
  have hD : dgI (fl (n : Int)) 0 = 1 + lg10 (1 + (n.log2 : Int)) := by unfold dgI; rw [he, if_pos (by omega)]; omega
  have hw := fw_whole n n.log2 h0 (Nat.log2_self_le (by omega)) Nat.lt_log2_self hl
  unfold fxI
  rw [hD, hE, hs, hm]
  rw [if_pos (by unfold lg10; omega)]
  exact hw
def ndZ (n : Nat) : Nat := if n = 0 then 1 else ndS n
theorem nd_pos (n : Nat) (h0 : 0 < n) (h : n < 10 ^ 18) : 0 < ndS n := by
  have := (nd_bd h).2.2
  rcases Nat.eq_zero_or_pos (ndS n) with e | e
  · rw [e] at this; omega
  · exact e
theorem ndZ_bd (n : Nat) (h : n < 2 ^ 53) : 0 < ndZ n ∧ ndZ n ≤ 18 ∧ n < 10 ^ ndZ n := by
  have h18 : n < 10 ^ 18 := Nat.lt_trans h (by decide)
  unfold ndZ
  split
  · rename_i e; subst e; decide
  · exact ⟨nd_pos n (by omega) h18, (nd_bd h18).2.1, (nd_bd h18).2.2⟩
theorem ffS_fl (n : Nat) (h0 : 0 < n) (h : n < 2 ^ 53) : ffS (fl (n : Int)) 0 = decW n (ndS n) := by
  have h18 : n < 10 ^ 18 := Nat.lt_trans h (by decide)
  unfold ffS
  rw [fx_fl n h0 h]
  simp only [Int.toNat_natCast]
  rw [if_neg (by omega), if_neg (by omega), decide_eq_false (by have := (ff_fl n h0 h).1; omega)]
  unfold outF
  rw [show ((ndS n : Nat) : Int) + 0 = ((ndS n : Nat) : Int) by omega, intF_trim _ _ (nd_pos n h0 h18)]
  unfold fracF
  simp [decW]
theorem dgN_dec (n : Nat) (h : n < 2 ^ 53) : dgN n = decW n (ndZ n) := by
  unfold dgN ndZ
  split
  · rename_i e; subst e; rfl
  · exact ffS_fl n (by omega) h

end Go.Proofs.YtgnddabdjjkgiaaGreatDoor.pf

namespace Go.Proofs.YtgnddabdjjkgiaaGreatDoor.rd
open Go.RowKit Go.Lib Go.Proofs.YtgnddabdjjkgiaaGreatDoor.sum Go.Proofs.YtgnddabdjjkgiaaGreatDoor.kept Go.Proofs.YtgnddabdjjkgiaaGreatDoor.str Go.Proofs.YtgnddabdjjkgiaaGreatDoor.nums Go.Proofs.YtgnddabdjjkgiaaGreatDoor.pf Go.Proofs.YtgnddabdjjkgiaaGreatDoor.fmtf Go.Proofs.YtgnddabdjjkgiaaGreatDoor.fl
set_option linter.unusedVariables false

/-- a sign ahead, or none -/
def sgT (s : Bool) (D : List UInt8) : List UInt8 := if s = true then 45 :: D else D
def sgN1 (s : Bool) : Nat := if s = true then 1 else 0
/-- digits alone -/
def Dig (D : List UInt8) : Prop := ∀ i, i < D.length → 48 ≤ bt D i ∧ bt D i ≤ 57
theorem sgT_len (s : Bool) (D : List UInt8) : (sgT s D).length = sgN1 s + D.length := by
  cases s
  · show D.length = 0 + D.length; omega
  · show (45 :: D).length = 1 + D.length; rw [List.length_cons]; omega
theorem sgT_bt (s : Bool) (D : List UInt8) (i : Nat) : bt (sgT s D) (sgN1 s + i) = bt D i := by
  cases s
  · show bt D (0 + i) = _; rw [Nat.zero_add]
  · show bt (45 :: D) (1 + i) = _
    unfold bt
    rw [Nat.add_comm, List.getD_eq_getElem?_getD, List.getD_eq_getElem?_getD, List.getElem?_cons_succ]
theorem sgT_sign (s : Bool) (D : List UInt8) (hd : Dig D) (h0 : 0 < D.length) : signS (sgT s D) 0 = sgN1 s := by
  unfold signS
  cases s
  · show (if 0 < D.length ∧ (bt D 0 = 43 ∨ bt D 0 = 45) then 0 + 1 else 0) = 0
    have := hd 0 h0
    rw [if_neg (by omega)]
  · show (if 0 < (45 :: D).length ∧ (bt (45 :: D) 0 = 43 ∨ bt (45 :: D) 0 = 45) then 0 + 1 else 0) = 1
    rw [if_pos ⟨by simp, .inr rfl⟩]
theorem sgT_neg (s : Bool) (D : List UInt8) (hd : Dig D) (h0 : 0 < D.length) : negS (sgT s D) = s := by
  unfold negS
  cases s
  · show (decide (0 < D.length) && decide (bt D 0 = 45)) = false
    have := hd 0 h0
    rw [decide_eq_false (by omega : ¬ bt D 0 = 45), Bool.and_false]
  · show (decide (0 < (45 :: D).length) && decide (bt (45 :: D) 0 = 45)) = true
    rw [decide_eq_true (by simp), decide_eq_true (show bt (45 :: D) 0 = 45 from rfl)]
    rfl
theorem past_all {p : Nat → Bool} {l : List UInt8} : ∀ (m k : Nat), k + m = l.length → (∀ i, k ≤ i → i < l.length → p (bt l i) = true) → past p l k = l.length
  | 0, k, h, _ => by
    rw [past_no fun h1 => by omega]
    omega
  | m + 1, k, h, hp => by
    rw [past_yes (by omega) (hp k (Nat.le_refl _) (by omega))]
    exact past_all m (k + 1) (by omega) fun i h1 h2 => hp i (by omega) h2
theorem sgT_dg (s : Bool) (D : List UInt8) (hd : Dig D) {i : Nat} (h1 : sgN1 s ≤ i) (h2 : i < (sgT s D).length) : 48 ≤ bt (sgT s D) i ∧ bt (sgT s D) i ≤ 57 := by
  obtain ⟨j, rfl⟩ : ∃ j, i = sgN1 s + j := ⟨i - sgN1 s, by omega⟩
  rw [sgT_bt]
  rw [sgT_len] at h2
  exact hd j (by omega)
theorem sgT_first (s : Bool) (D : List UInt8) (hd : Dig D) (h0 : 0 < D.length) : blB (bt (sgT s D) 0) = false := by
  cases s
  · show blB (bt D 0) = false
    have := hd 0 h0
    unfold blB
    rw [decide_eq_false (by omega : ¬ bt D 0 ≤ 13), decide_eq_false (by omega : ¬ bt D 0 = 32), Bool.and_false]
    rfl
  · rfl
theorem sgT_find (s : Bool) (D : List UInt8) (hd : Dig D) (h0 : 0 < D.length) : findS (sgT s D) = (0, (sgT s D).length) := by
  have hl := sgT_len s D
  have h1 : past blB (sgT s D) 0 = 0 := past_no fun _ => sgT_first s D hd h0
  have h2 : past dgB (sgT s D) (sgN1 s) = (sgT s D).length := past_all _ (sgN1 s) (by rw [hl]) fun i k1 k2 => by
    have := sgT_dg s D hd k1 k2
    unfold dgB
    rw [decide_eq_true this.1, decide_eq_true this.2]
    rfl
  have h3 : mantS (sgT s D) (sgN1 s) = (sgT s D).length := by unfold mantS; rw [h2, if_pos (.inl rfl)]
  have h4 : expS (sgT s D) (sgT s D).length = (sgT s D).length := by unfold expS; rw [if_pos (.inl rfl)]
  unfold findS
  rw [h1, sgT_sign s D hd h0, h3, if_neg (by omega), h4]
theorem sgT_looks (s : Bool) (D : List UInt8) (hd : Dig D) (h0 : 0 < D.length) : looksS (sgT s D) = true := by
  have hl := sgT_len s D
  unfold looksS
  rw [sgT_find s D hd h0, past_no fun h => absurd h (Nat.lt_irrefl _), decide_eq_true (by show 0 < (sgT s D).length; omega), decide_eq_true rfl]
  rfl
theorem sgT_piece (s : Bool) (D : List UInt8) (hd : Dig D) (h0 : 0 < D.length) : pieceS (sgT s D) = sgT s D := by
  unfold pieceS
  rw [sgT_find s D hd h0]
  simp
theorem or32 : ∀ c : Fin 58, 48 ≤ c.val → bits .or .u8 (c.val : Int) 32 ≠ 120 := by decide +kernel
theorem sgT_deci (s : Bool) (D : List UInt8) (hd : Dig D) (h0 : 0 < D.length) : Deci (sgT s D) := by
  have hl := sgT_len s D
  refine ⟨fun i hi => ?_, ?_⟩
  · by_cases h : sgN1 s ≤ i
    · have := sgT_dg s D hd h hi
      omega
    · cases s
      · exact absurd (Nat.zero_le _) h
      · have : i = 0 := by have h : ¬ 1 ≤ i := h; omega
        subst this
        intro h
        exact absurd (show (45 : Nat) = 95 from h) (by decide)
  · rintro ⟨h1, _, h3⟩
    rw [sgT_sign s D hd h0] at h1 h3
    have := sgT_dg s D hd (i := sgN1 s + 1) (by omega) (by omega)
    exact or32 ⟨bt (sgT s D) (sgN1 s + 1), by omega⟩ this.1 h3
/-- what is read of digits -/
theorem rd_dig (l : List UInt8) (S : Nat) (D : List UInt8) (hb : ∀ i, i < D.length → bt l (S + i) = bt D i) (hd : Dig D) (h19 : D.length ≤ 19) : ∀ (f i nd : Nat) (dp : Int) (dg : Bool), f + i = D.length → nd ≤ i → (pv D i = 0 ↔ nd = 0) → (0 < i → dg = true) →
    ∃ nd' dp', rdL l f (S + i) false dg nd nd dp (pv D i) false = (S + D.length, false, (if f = 0 then dg else true), nd', nd', dp', pv D D.length, false)
  | 0, i, nd, dp, dg, h, _, _, _ => by
    obtain rfl : i = D.length := by omega
    exact ⟨nd, dp, by rw [rdL, if_pos rfl]⟩
  | f + 1, i, nd, dp, dg, h, hn, hz, hg => by
    have hi := hd i (by omega)
    have hbi := hb i (by omega)
    have hpv : pv D (i + 1) = 10 * pv D i + (bt D i - 48) := rfl
    rw [rdL, hbi, if_neg (by omega), if_pos hi]
    by_cases h0 : bt D i = 48 ∧ nd = 0
    · rw [if_pos h0]
      have hp0 := hz.2 h0.2
      have e : pv D (i + 1) = pv D i := by rw [hpv, hp0, h0.1]
      obtain ⟨nd', dp', hr⟩ := rd_dig l S D hb hd h19 f (i + 1) nd (dp - 1) true (by omega) (by omega) (by rw [e]; exact hz) (fun _ => rfl)
      rw [e, ← Nat.add_assoc] at hr
      exact ⟨nd', dp', by rw [hr]; simp⟩
    · rw [if_neg h0, if_pos (by omega)]
      have e : pv D i * 10 + (bt D i - 48) = pv D (i + 1) := by rw [hpv]; omega
      have hne : pv D (i + 1) ≠ 0 := by
        rw [hpv]
        by_cases hn0 : nd = 0
        · have : bt D i ≠ 48 := fun h => h0 ⟨h, hn0⟩
          omega
        · have : pv D i ≠ 0 := fun h => hn0 (hz.1 h)
          omega
      obtain ⟨nd', dp', hr⟩ := rd_dig l S D hb hd h19 f (i + 1) (nd + 1) dp true (by omega) (by omega) ⟨fun h => absurd h hne, fun h => by omega⟩ (fun _ => rfl)
      rw [e]
      rw [← Nat.add_assoc] at hr
      exact ⟨nd', dp', by rw [hr]; simp⟩
/-- the numeral is read whole -/
theorem rdc_dig (w : World) (s : Bool) (D : List UInt8) (hd : Dig D) (h0 : 0 < D.length) (h19 : D.length ≤ 19) : RdC w (sgT s D) (pv D D.length) 0 s false := by
  have hl := sgT_len s D
  have hs := sgT_sign s D hd h0
  obtain ⟨nd, dp, hr⟩ := rd_dig (sgT s D) (sgN1 s) D (fun i hi => sgT_bt s D i) hd h19 D.length 0 0 0 false (by omega) (Nat.le_refl _) ⟨fun _ => rfl, fun _ => rfl⟩ (fun h => absurd h (Nat.lt_irrefl _))
  rw [if_neg (by omega), Nat.add_zero] at hr
  have h := read_plain w (sgT s D) (by rw [hl]; unfold sgN1; split <;> omega) (by rw [hs]; omega) (sgT_deci s D hd h0) (sgN1 s + D.length) nd nd (pv D D.length) dp false false (by rw [hs, hl, show sgN1 s + D.length - sgN1 s = D.length by omega]; exact hr) hl.symm
  have e : expR false nd nd (pv D D.length) dp 0 = 0 := by
    unfold expR
    split
    · rfl
    · simp
  rw [e, sgT_neg s D hd h0] at h
  exact h
theorem special_dig (w : World) (s : Bool) (D : List UInt8) (hd : Dig D) (h0 : 0 < D.length) (h19 : D.length ≤ 19) : Calls Tryz.prog 85 #[.string (st (sgT s D))] w (RV w (.tuple #[.float .f64 0, .int .i64 0, .bool false])) := by
  have hl := sgT_len s D
  have hs := sgT_sign s D hd h0
  refine special_none w _ (by rw [hs]; omega) (by rw [hl]; unfold sgN1; split <;> omega) ?_
  rw [hs]
  have := sgT_dg s D hd (i := sgN1 s) (Nat.le_refl _) (by omega)
  unfold numB dgB
  rw [decide_eq_true this.1, decide_eq_true this.2]
  rfl
/-- digits that are set down -/
theorem dec_dig (n w : Nat) : Dig (decW n w) := fun i hi => by
  rw [decW_len] at hi
  have := decW_get n w i hi
  unfold bt
  rw [this]
  exact dgt_bd n w i

end Go.Proofs.YtgnddabdjjkgiaaGreatDoor.rd

namespace Go.Proofs.YtgnddabdjjkgiaaGreatDoor.rd
open Go.RowKit Go.Lib Go.Proofs.YtgnddabdjjkgiaaGreatDoor.sum Go.Proofs.YtgnddabdjjkgiaaGreatDoor.kept Go.Proofs.YtgnddabdjjkgiaaGreatDoor.str Go.Proofs.YtgnddabdjjkgiaaGreatDoor.pf Go.Proofs.YtgnddabdjjkgiaaGreatDoor.fmtf Go.Proofs.YtgnddabdjjkgiaaGreatDoor.fl
set_option linter.unusedVariables false

theorem mul_or (s c : Nat) : 2 ^ 52 * s ||| 2 ^ 52 * c = 2 ^ 52 * (s ||| c) := by
  have h := Nat.shiftLeft_or_distrib (a := s) (b := c) (i := 52)
  rw [Nat.shiftLeft_eq, Nat.shiftLeft_eq, Nat.shiftLeft_eq] at h
  rw [Nat.mul_comm _ s, Nat.mul_comm _ c, Nat.mul_comm _ (s ||| c)]
  exact h.symm
theorem or_2048 (c : Nat) (h : c < 2048) : 2048 ||| c = 2048 + c := by
  have := Nat.two_pow_add_eq_or_of_lt (i := 11) (b := c) h 1
  rw [Nat.mul_one] at this
  exact this.symm
theorem or_sum (s c a : Nat) (ha : a < 2 ^ 52) (hc : c < 2048) (hs : s = 0 ∨ s = 2048) : (2 ^ 52 * s + a) ||| (2 ^ 52 * c) = 2 ^ 52 * (s + c) + a := by
  rw [Nat.two_pow_add_eq_or_of_lt ha s, Nat.or_assoc, Nat.or_comm a, ← Nat.or_assoc, mul_or]
  have e : s ||| c = s + c := by
    rcases hs with rfl | rfl
    · simp
    · exact or_2048 c hc
  rw [e]
  exact (Nat.two_pow_add_eq_or_of_lt ha _).symm
theorem and_bit (s a : Nat) (ha : a < 2 ^ 52) (hs : s = 0 ∨ s = 2048) : (2 ^ 52 * (s + 1) + a) &&& 2 ^ 52 = 2 ^ 52 := by
  have h52 : (2 ^ 52 * (s + 1) + a).testBit 52 = true := by
    rw [Nat.testBit_eq_decide_div_mod_eq]
    rw [Nat.mul_add_div (by decide), Nat.div_eq_of_lt ha]
    rcases hs with rfl | rfl <;> rfl
  apply Nat.eq_of_testBit_eq
  intro i
  rw [Nat.testBit_and, Nat.testBit_two_pow]
  by_cases e : 52 = i
  · subst e; rw [h52]; rfl
  · simp [e]
theorem not_bit : ∀ i : Fin 64, (2 ^ 64 - 1 - 2 ^ 52).testBit i.val = decide (i.val ≠ 52) := by decide +kernel
theorem andnot_bit (s a : Nat) (ha : a < 2 ^ 52) (hs : s = 0 ∨ s = 2048) : (2 ^ 52 * (s + 1) + a) &&& (2 ^ 64 - 1 - 2 ^ 52) = 2 ^ 52 * s + a := by
  have hn : 2 ^ 52 * (s + 1) + a = (2 ^ 52 * s + a) ||| 2 ^ 52 := by
    have := or_sum s 1 a ha (by omega) hs
    rw [Nat.mul_one] at this
    exact this.symm
  have hr52 : (2 ^ 52 * s + a).testBit 52 = false := by
    rw [Nat.testBit_eq_decide_div_mod_eq, Nat.mul_add_div (by decide), Nat.div_eq_of_lt ha]
    rcases hs with rfl | rfl <;> rfl
  have hlt : 2 ^ 52 * s + a < 2 ^ 64 := by
    have e : (2 : Nat) ^ 64 = 2 ^ 52 * 4096 := by decide
    rw [e]
    generalize (2 : Nat) ^ 52 = P at *
    rcases hs with rfl | rfl <;> omega
  apply Nat.eq_of_testBit_eq
  intro i
  rw [Nat.testBit_and, hn, Nat.testBit_or, Nat.testBit_two_pow]
  by_cases h64 : i < 64
  · rw [not_bit ⟨i, h64⟩]
    by_cases e : i = 52
    · subst e; rw [hr52]; rfl
    · simp [e, Ne.symm e]
  · have h1 : (2 ^ 52 * s + a).testBit i = false := Nat.testBit_lt_two_pow (Nat.lt_of_lt_of_le hlt (Nat.pow_le_pow_right (by omega) (by omega)))
    have h2 : (2 ^ 64 - 1 - 2 ^ 52).testBit i = false := Nat.testBit_lt_two_pow (Nat.lt_of_lt_of_le (show 2 ^ 64 - 1 - 2 ^ 52 < 2 ^ 64 by decide) (Nat.pow_le_pow_right (by omega) (by omega)))
    rw [h1, h2]
    simp

/-- the sign's bit, over 2^52 -/
def sgB (s : Bool) : Nat := if s = true then 2048 else 0
theorem sgB_or (s : Bool) : sgB s = 0 ∨ sgB s = 2048 := by cases s; exact .inl rfl; exact .inr rfl
theorem ofNat_toNat (n : Nat) (h : n < 2 ^ 64) : (BitVec.ofInt 64 (n : Int)).toNat = n := by
  rw [BitVec.toNat_ofInt]
  omega
theorem run_frs (m : Nat) (w : World) : (callFunc 95 #[.int .u64 (m : Int)]).run Tryz.prog w = .ok (.value (.float .f64 m)) w := by
  rw [run_callFunc_extern Tryz.func95 (by kernel_rfl) (by kernel_rfl) (by kernel_rfl) (show Extern.find _ = some Extern.MathFloatBits.float64frombits by kernel_rfl)]
  rfl
set_option maxRecDepth 100000 in
set_option maxHeartbeats 4000000 in
theorem pack_any (w : World) (s : Bool) (a : Nat) (ha : a < 2 ^ 52) (e : Nat) (he : e ≤ 900) :
    Calls Tryz.prog 127 #[.int .u64 ((2 ^ 52 * (sgB s + 1) + a : Nat) : Int), .int .i64 (e : Int)] w (RV w (.tuple #[.float .f64 (2 ^ 52 * (sgB s + (1075 + e)) + a), .nilIface])) := by
  have hs := sgB_or s
  obtain ⟨g, hg⟩ : ∃ g, sgB s = g := ⟨_, rfl⟩
  rw [hg] at hs
  rw [hg]
  have h1 := and_bit g a ha hs
  have h2 := andnot_bit g a ha hs
  have h3 := or_sum g (1075 + e) a ha (by omega) hs
  have p52 : (2 : Nat) ^ 52 = 4503599627370496 := by decide
  obtain ⟨N, hN⟩ : ∃ N, 2 ^ 52 * (g + 1) + a = N := ⟨_, rfl⟩
  obtain ⟨R, hR⟩ : ∃ R, 2 ^ 52 * g + a = R := ⟨_, rfl⟩
  obtain ⟨Z, hZ⟩ : ∃ Z, 2 ^ 52 * (g + (1075 + e)) + a = Z := ⟨_, rfl⟩
  obtain ⟨C, hC⟩ : ∃ C, 2 ^ 52 * (1075 + e) = C := ⟨_, rfl⟩
  rw [hN] at h1 h2
  rw [hR] at h2 h3
  rw [hZ, hC] at h3
  rw [hN, hZ]
  rw [p52] at hN hR hZ hC ha
  have hNb : N < 2 ^ 64 := by rcases hs with rfl | rfl <;> omega
  have hRb : R < 2 ^ 64 := by rcases hs with rfl | rfl <;> omega
  have hCb : C < 2 ^ 64 := by omega
  have hZb : Z < 2 ^ 64 := by rcases hs with rfl | rfl <;> omega
  have b1 : bits .and .u64 (N : Int) 4503599627370496 = 4503599627370496 := by
    show IntKind.u64.wrap ((BitVec.ofInt 64 (N : Int) &&& BitVec.ofInt 64 4503599627370496).toNat : Int) = _
    rw [BitVec.toNat_and, ofNat_toNat N hNb, show (BitVec.ofInt 64 4503599627370496).toNat = 2 ^ 52 by decide, h1]
    rfl
  have b2 : bits .andNot .u64 (N : Int) 4503599627370496 = (R : Int) := by
    show IntKind.u64.wrap ((BitVec.ofInt 64 (N : Int) &&& ~~~(BitVec.ofInt 64 4503599627370496)).toNat : Int) = _
    rw [BitVec.toNat_and, ofNat_toNat N hNb, show (~~~(BitVec.ofInt 64 4503599627370496)).toNat = 2 ^ 64 - 1 - 2 ^ 52 by decide, h2, IntKind.wrap_u64]
    omega
  have b3 : bits .or .u64 (R : Int) (C : Int) = (Z : Int) := by
    show IntKind.u64.wrap ((BitVec.ofInt 64 (R : Int) ||| BitVec.ofInt 64 (C : Int)).toNat : Int) = _
    rw [BitVec.toNat_or, ofNat_toNat R hRb, ofNat_toNat C hCb, h3, IntKind.wrap_u64]
    omega
  have he0 : (0 : Int) ≤ (e : Int) := Int.natCast_nonneg _
  have he9 : (e : Int) ≤ 900 := by omega
  have c1 : IntKind.u64.wrap (1075 + (e : Int)) = 1075 + (e : Int) := wu _ (by omega) (by omega)
  have c2 : IntKind.u64.wrap ((1075 + (e : Int)) * 4503599627370496) = (C : Int) := by rw [wu _ (by omega) (by omega)]; omega
  have q := fun w => run_frs Z w
  clear h1 h2 h3 hN hR hZ hC hs ha hg p52 hNb hRb hCb hZb he
  go_enter Tryz.func127, Tryz.ntmps127
  go_wp2
  refine bodyPost_ret (v := .tuple #[.float .f64 Z, .nilIface]) ?_ rfl ⟨rfl, rfl⟩
  simp [results, Tryz.results127, go_sem]

end Go.Proofs.YtgnddabdjjkgiaaGreatDoor.rd

namespace Go.Proofs.YtgnddabdjjkgiaaGreatDoor.rd
open Go.RowKit Go.Lib Go.Proofs.YtgnddabdjjkgiaaGreatDoor.sum Go.Proofs.YtgnddabdjjkgiaaGreatDoor.kept Go.Proofs.YtgnddabdjjkgiaaGreatDoor.str Go.Proofs.YtgnddabdjjkgiaaGreatDoor.pf Go.Proofs.YtgnddabdjjkgiaaGreatDoor.fmtf Go.Proofs.YtgnddabdjjkgiaaGreatDoor.fl
set_option linter.unusedVariables false

theorem len_mul (M j : Nat) (h1 : 2 ^ 52 ≤ M) (h2 : M < 2 ^ 53) (hj : j ≤ 11) : Lib.bitLen (M * 2 ^ j) = 53 + j := by
  have hp : 0 < 2 ^ j := Nat.two_pow_pos j
  have e1 : M * 2 ^ j < 2 ^ (53 + j) := by rw [Nat.pow_add]; exact Nat.mul_lt_mul_of_pos_right h2 hp
  have e2 : 2 ^ (52 + j) ≤ M * 2 ^ j := by rw [Nat.pow_add]; exact Nat.mul_le_mul_right _ h1
  have hb : Lib.bitLen (M * 2 ^ j) ≤ 53 + j := Lib.bitLen_le _ (53 + j) (by omega) e1
  have hlt : M * 2 ^ j < 2 ^ Lib.bitLen (M * 2 ^ j) := aux_lt 64 _ (Nat.lt_of_lt_of_le e1 (Nat.pow_le_pow_right (by omega) (by omega)))
  rcases Nat.lt_or_ge (Lib.bitLen (M * 2 ^ j)) (53 + j) with h3 | h3
  · have := Nat.pow_le_pow_right (show 0 < 2 by omega) (show Lib.bitLen (M * 2 ^ j) ≤ 52 + j by omega)
    omega
  · omega
theorem bits_or_add (s : Bool) (M : Nat) (h : M < 2 ^ 53) : bits .or .u64 ((2 ^ 52 * sgB s : Nat) : Int) (M : Int) = ((2 ^ 52 * sgB s + M : Nat) : Int) := by
  cases s with
  | false =>
    have e : 2 ^ 52 * sgB false = 0 := by decide
    rw [e, Nat.zero_add]
    show IntKind.u64.wrap ((BitVec.ofInt 64 ((0 : Nat) : Int) ||| BitVec.ofInt 64 (M : Int)).toNat : Int) = _
    rw [BitVec.toNat_or, ofNat_toNat M (by omega), show (BitVec.ofInt 64 ((0 : Nat) : Int)).toNat = 0 by decide, Nat.zero_or, IntKind.wrap_u64]
    omega
  | true =>
    have e : 2 ^ 52 * sgB true = 2 ^ 63 := by decide
    rw [e]
    have h1 := Nat.two_pow_add_eq_or_of_lt (i := 63) (b := M) (by omega) 1
    rw [Nat.mul_one] at h1
    show IntKind.u64.wrap ((BitVec.ofInt 64 ((2 ^ 63 : Nat) : Int) ||| BitVec.ofInt 64 (M : Int)).toNat : Int) = _
    rw [BitVec.toNat_or, ofNat_toNat M (by omega), ofNat_toNat (2 ^ 63) (by decide), ← h1, IntKind.wrap_u64]
    omega
theorem and_one_even (n : Nat) (h : 4 * n < 18446744073709551616) : bits .and .u64 ((4 * n : Nat) : Int) 1 = 0 := by
  rw [and_one _ (by omega) (by omega)]
  omega
set_option maxRecDepth 100000 in
set_option maxHeartbeats 8000000 in
theorem pf64_whole (w : World) (hl : Ld w) (M j : Nat) (hM1 : 2 ^ 52 ≤ M) (hM2 : M < 2 ^ 53) (hj : j ≤ 11) (s : Bool) :
    Calls Tryz.prog 97 #[.int .u64 ((M * 2 ^ j : Nat) : Int), .int .i64 0, .int .u64 ((2 ^ 52 * sgB s : Nat) : Int)] w fun e w' => e = .returned (.tuple #[.float .f64 (2 ^ 52 * (sgB s + (1075 + j)) + (M - 2 ^ 52)), .nilIface]) ∧ Kp No w w' := by
  have hd64 : M * 2 ^ j < 2 ^ 64 := by
    calc M * 2 ^ j < 2 ^ 53 * 2 ^ j := Nat.mul_lt_mul_of_pos_right hM2 (Nat.two_pow_pos j)
      _ ≤ 2 ^ 53 * 2 ^ 11 := Nat.mul_le_mul_left _ (Nat.pow_le_pow_right (by omega) hj)
      _ = 2 ^ 64 := by decide
  have hlen := len_mul M j hM1 hM2 hj
  have hT := hl.pw 0 (by omega) (by omega)
  rw [t10_0] at hT
  have hx : M * 2 ^ j * 2 ^ (11 - j) = M * 2 ^ 11 := by rw [Nat.mul_assoc, ← Nat.pow_add, show j + (11 - j) = 11 by omega]
  have hxw : IntKind.u64.wrap (((M * 2 ^ j : Nat) : Int) * 2 ^ (11 - j)) = ((M * 2 ^ 11 : Nat) : Int) := by
    rw [← hx]
    have h := wu ((M * 2 ^ j * 2 ^ (11 - j) : Nat) : Int) (by omega) (by rw [hx]; omega)
    rw [← h, Int.natCast_mul (M * 2 ^ j), Int.natCast_pow]
    rfl
  have hus : uscI (M * 2 ^ 11 * 9223372036854775808 / 18446744073709551616) (M * 2 ^ 11 * 9223372036854775808 % 18446744073709551616) (M * 2 ^ 11 * 0 / 18446744073709551616) 8 = ((4 * M : Nat) : Int) := by
    have hH : M * 2 ^ 11 * 9223372036854775808 = (4 * M) * 2 ^ 8 * 18446744073709551616 := by
      rw [show (2 : Nat) ^ 11 = 2048 by decide, show (2 : Nat) ^ 8 = 256 by decide]
      omega
    rw [hH, Nat.mul_div_cancel _ (by omega), Nat.mul_mod_left, Nat.mul_zero, Nat.zero_div]
    apply usc_exact
    rw [show (2 : Nat) ^ 8 = 256 by decide]
    omega
  have HRnd := Hid_mk (rnd_four M hM2)
  obtain ⟨a, ha⟩ : ∃ a, M - 2 ^ 52 = a := ⟨_, rfl⟩
  have haM : 2 ^ 52 * sgB s + M = 2 ^ 52 * (sgB s + 1) + a := by rw [Nat.mul_add, ← ha]; omega
  have hor := bits_or_add s M hM2
  rw [haM] at hor
  have HP := Hid_mk fun W => pack_any W s a (by omega) j (by omega)
  rw [ha]
  obtain ⟨Zr, hZr⟩ : ∃ Zr, 2 ^ 52 * (sgB s + (1075 + j)) + a = Zr := ⟨_, rfl⟩
  rw [hZr] at HP
  rw [hZr]
  obtain ⟨N, hN⟩ : ∃ N, 2 ^ 52 * (sgB s + 1) + a = N := ⟨_, rfl⟩
  rw [hN] at hor HP
  obtain ⟨G, hG⟩ : ∃ G, 2 ^ 52 * sgB s = G := ⟨_, rfl⟩
  rw [hG] at hor
  rw [hG]
  obtain ⟨d, hd⟩ : ∃ d, M * 2 ^ j = d := ⟨_, rfl⟩
  rw [hd] at hlen hxw hd64
  rw [hd]
  obtain ⟨x, hxe⟩ : ∃ x, M * 2 ^ 11 = x := ⟨_, rfl⟩
  rw [hxe] at hxw hus
  have hx64 : x < 18446744073709551616 := by omega
  have HLn := Hid_mk fun W => Go.Proofs.Tryz.bits_Len64 (d : Int) W (by omega) (by omega)
  simp only [Int.toNat_natCast, hlen] at HLn
  have HG2 := Hid_mk fun W => lg2_any W 0 (by omega) (by omega)
  rw [show lg2 0 = 0 by decide] at HG2
  have HUn := Hid_mk fun W => unmin_any W 9007199254740992 (by omega) (by omega)
  rw [show ((9007199254740992 : Nat) : Int) = 9007199254740992 from rfl, show ((4 * 9007199254740992 - 2 : Nat) : Int) = 36028797018963966 by decide] at HUn
  have HB2 := Hid_mk fun W => bool2i_any W false
  rw [show b2 false = 0 from rfl] at HB2
  have HRd := Hid_mk fun W => round_any W ((4 * M : Nat) : Int) (by omega)
  rw [HRnd.out] at HRd
  have hU : bits .and .u64 ((4 * M : Nat) : Int) 1 = 0 := and_one_even M (by omega)
  obtain ⟨U, hUe⟩ : ∃ U, 4 * M = U := ⟨_, rfl⟩
  rw [hUe] at hus hU HRd
  have hUl : ¬ (36028797018963966 : Int) ≤ (U : Int) := by omega
  have hUd : decide ((36028797018963966 : Int) ≤ (U : Int)) = false := decide_eq_false hUl
  have HUd := Hid_mk hUd
  have hU0 : (0 : Int) ≤ (U : Int) := Int.natCast_nonneg _
  have hUw : IntKind.u64.wrap (U : Int) = (U : Int) := wu _ (by omega) (by omega)
  have hUor : bits .or .u64 (U : Int) 0 = (U : Int) := or_zero _ (by omega) (by omega)
  have hj0 : (0 : Int) ≤ (j : Int) := Int.natCast_nonneg _
  have hj11 : (j : Int) ≤ 11 := by omega
  obtain ⟨sh, hsh⟩ : ∃ sh : Nat, 11 - j = sh := ⟨_, rfl⟩
  have hshi : 64 - (53 + (j : Int)) = (sh : Int) := by omega
  have hsh0 : (0 : Int) ≤ (sh : Int) := Int.natCast_nonneg _
  have hsh11 : (sh : Int) ≤ 11 := by omega
  rw [hsh] at hxw
  have hmin : min (1074 : Int) (53 - (53 + (j : Int)) - 0) = -(j : Int) := by omega
  have hmin3 : min (1074 : Int) (53 - (53 + (j : Int))) = -(j : Int) := by omega
  have hms : -(j : Int) - (sh : Int) = -11 := by omega
  have hmin2 : min (1074 : Int) (-(j : Int)) = -(j : Int) := by omega
  have hgt : (0 : Nat) < w.heap.size ∨ True := .inr trivial
  obtain ⟨q, hq⟩ : ∃ q, w.heap.size = q := ⟨_, rfl⟩
  have hgq : q ≠ 10 := by
    have := World.block_lt_of_cell? w _ hT.1.1
    simp only at this
    omega
  have HQ := Hid_mk hq
  have HT := Hid_mk hT
  have HX := Hid_mk hus
  have HX64 := Hid_mk hx64
  have HGq := Hid_mk hgq
  clear hl hM1 hM2 hj hlen hT hx hus ha haM hZr hN hG hd hxe hx64 hUe hsh hq hgq hgt hd64
  go_enter Tryz.func97, Tryz.ntmps97
  go_wp2_with fail
  with_reducible refine (HLn.out _).mono ?_
  rintro e1 w1 ⟨rfl, rfl⟩
  go_wp2_with fail
  with_reducible refine (HG2.out _).mono ?_
  rintro e1 w2 ⟨rfl, rfl⟩
  go_upto_region 5 with fail
  rw [HQ.out]
  refine wp_name (fun V => Kp No w1 V ∧ ScMem V q (.int .u64 0) (.int .u64 0) (.int .i64 0) ∧ V.heap.size = q + 1) ?_ ?_
  · have hq := HQ.out
    exact ⟨(Kp.refl No w1).alloc _, ⟨by rw [← hq]; simp, by rw [← hq]; simp, by rw [← hq]; simp, fun i => by rw [← hq]; simp⟩, by simp [hq]⟩
  rintro W1 ⟨hk1, hs1, hz1⟩
  have HK1 := Hid_mk hk1
  have HS1 := Hid_mk hs1
  clear hk1 hs1 hz1
  go_wp2_with fail
  with_reducible refine (prescale_any W1 q 0 0 0 HS1.out (-11) 0 0 9223372036854775808 0 8 (HT.out.1.no HK1.out) (by omega) (by omega) (by omega) (by omega) (by omega) (by omega) (by omega) HGq.out).mono ?_
  rintro e1 w3 ⟨rfl, hsc, hk3⟩
  have HSc := Hid_mk hsc
  have HK3 := Hid_mk (HK1.out.trans hk3 (T := fun b => b = q) (fun i hi e => by have e : i = q := e; have := HQ.out; omega))
  have c2 := hsc.c2
  clear hsc hk3
  go_wp2_with fail
  have hus9 := uscale_any w3 x q 9223372036854775808 0 8 HSc.out HX64.out (by omega) (by omega) (by omega)
  rw [HX.out] at hus9
  have HUs := Hid_mk hus9
  clear hus9 c2
  with_reducible refine HUs.out.mono ?_
  rintro e1 w4 ⟨rfl, n4, rfl⟩
  have HK4 := Hid_mk (HK3.out.drewN n4)
  go_wp2_with fail
  with_reducible refine (HUn.out _).mono ?_
  rintro e1 w5 ⟨rfl, rfl⟩
  go_wp2_with fail
  with_reducible refine (HB2.out _).mono ?_
  rintro e1 w5 ⟨rfl, rfl⟩
  go_wp2_with fail
  with_reducible refine (HRd.out _).mono ?_
  rintro e1 w5 ⟨rfl, rfl⟩
  go_wp2_with fail
  with_reducible refine (HP.out _).mono ?_
  rintro e1 w5 ⟨rfl, rfl⟩
  go_wp2
  refine bodyPost_ret (v := .tuple #[.float .f64 Zr, .nilIface]) ?_ rfl ⟨rfl, HK4.out⟩
  simp [results, Tryz.results97, go_sem]

end Go.Proofs.YtgnddabdjjkgiaaGreatDoor.rd
