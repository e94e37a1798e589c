/- Small whole numbers as floats: what printf asks of them. Package printf: whole numbers of any size below 2^53: their digits, and those of another base. Package printf: "%x %o %X" of a number below 2^32. The digits of bases 16 and 8 as a law makes them: the last one first. The law FormHex: its walk. -/
import Derived.Test.YtgejeocojmpdjacGreatDoorPfTellXM
import Derived.Test.YtgejeocojmpdjacGreatDoorPfNumM
import Derived.Test.YtgejeocojmpdjacGreatDoorPfFormatM

namespace Go.Proofs.YtgejeocojmpdjacGreatDoor.pf
open Go.RowKit Go.Proofs.YtgejeocojmpdjacGreatDoor.fl Go.Proofs.YtgejeocojmpdjacGreatDoor.fmtf
set_option linter.unusedVariables false

theorem kind_fl (z : Int) (h : Small z) : kindB (fl z) = 0 := by
  have h1 : (FloatKind.f64.format.order (fl z) (fl z) != some .eq) = false := by
    have := fl_eql z z h h
    simp only [decide_true] at this
    simpa [bne] using this
  have h2 : (FloatKind.f64.format.order (fl z) 9218868437227405311 == some .gt) = false := by
    have := (order_big z h _ _ _ _ read_max big_max).1
    rw [show FloatKind.f64.format.order (fl z) 9218868437227405311 = _ from this]; rfl
  have h3 : (FloatKind.f64.format.order (fl z) 18442240474082181119 == some .lt) = false := by
    have := (order_big z h _ _ _ _ read_min big_max).1
    rw [show FloatKind.f64.format.order (fl z) 18442240474082181119 = _ from this]; rfl
  unfold kindB
  rw [h1, h2, h3]
  rfl
theorem fin_fl (z : Int) (h : Small z) : finB (fl z) = true := by
  have h2 := (order_big z h _ _ _ _ read_max big_max).1
  have h3 := (order_big z h _ _ _ _ read_min big_max).2
  unfold finB
  rw [show FloatKind.f64.format.order 18442240474082181119 (fl z) = _ from h3, show FloatKind.f64.format.order (fl z) 9218868437227405311 = _ from h2]
  rfl
theorem read_f64 (z : Int) (h : Small z) : ∃ q : Nat, FloatKind.f64.decode (fl z) = .number (decide (z < 0)) (z.natAbs * 2 ^ q) (-(q : Int)) := by
  obtain ⟨q, _, hq⟩ := read_fl z h
  exact ⟨q, hq⟩
theorem nan_fl (z : Int) (h : Small z) : nanB (fl z) = false := by
  obtain ⟨q, hq⟩ := read_f64 z h
  unfold nanB
  rw [hq]
theorem trunc_fl (z : Int) (h : Small z) : truncB (fl z) = fl z := by
  obtain ⟨q, hq⟩ := read_f64 z h
  unfold truncB
  rw [hq]
  simp only [Ieee.Datum.integral]
  have e1 : (-(q : Int)).toNat = 0 := by omega
  have e2 : (-(-(q : Int))).toNat = q := by omega
  rw [e1, e2, Nat.shiftLeft_zero]
  have hc : Ieee.Toward.zero.cut (decide (z < 0)) (z.natAbs * 2 ^ q) q = z.natAbs := by
    by_cases hz : z.natAbs = 0
    · rw [hz, Nat.zero_mul]
      unfold Ieee.Toward.cut
      simp [Nat.shiftLeft_eq]
    · apply cut_exact
      rw [log2_mul_pow _ _ (by omega)]
      omega
  rw [hc]
  rfl
theorem plain_fl (z : Int) (h : Small z) : plainB (fl z) = fl z := by
  have h0 := fl_eql z 0 h (by unfold Small; decide)
  rw [show fl 0 = 0 by decide +kernel] at h0
  unfold plainB
  rw [h0]
  by_cases hz : z = 0
  · subst hz; decide +kernel
  · rw [if_neg (by simpa using hz)]
/-- the word of a whole number above 0 -/
theorem word_fl (n : Nat) (h0 : 0 < n) (h : n < 2 ^ 53) : fl (n : Int) = (n.log2 + 1022) * 2 ^ 52 + n * 2 ^ (52 - n.log2) := by
  have hl := small_log h0 h
  have hn := nearest_exact false n 0 0 h0 hl (by omega) (by omega)
  rw [Nat.pow_zero, Nat.mul_one] at hn
  rw [fl_eq, show decide ((n : Int) < 0) = false by simp]
  have e : (0 : Int) - ((0 : Nat) : Int) = 0 := rfl
  rw [e] at hn
  rw [show ((n : Int)).natAbs = n by omega, hn]
  have e2 : (0 + (n.log2 : Int) + 1022).toNat = n.log2 + 1022 := by omega
  rw [e2]
  unfold Ieee.Format.word
  have hb := norm_bounds n h0 hl
  have hi : Ieee.double.infRung = 9218868437227405312 := by decide
  have p52 : (2 : Nat) ^ 52 = 4503599627370496 := by decide
  have p53 : (2 : Nat) ^ 53 = 9007199254740992 := by decide
  obtain ⟨hb1, hb2⟩ := hb
  rw [p52] at hb1
  rw [p53] at hb2
  generalize hX : n * 2 ^ (52 - n.log2) = X at *
  simp only [Bool.false_eq_true, if_false, hi, p52]
  all_goals (try rw [Nat.min_eq_left (by omega)])
  all_goals first | rfl | omega | simp
/-- all that FormatFloat wants of it -/
theorem ff_fl (n : Nat) (h0 : 0 < n) (h : n < 2 ^ 53) : fl (n : Int) < 9223372036854775808 ∧ fl (n : Int) / 4503599627370496 % 2048 ≠ 2047 ∧ mtN (fl (n : Int)) ≠ 0 ∧ exI (fl (n : Int)) = (n.log2 : Int) := by
  have hl := small_log h0 h
  have hb := norm_bounds n h0 hl
  have hw := word_fl n h0 h
  have p52 : (2 : Nat) ^ 52 = 4503599627370496 := by decide
  have p53 : (2 : Nat) ^ 53 = 9007199254740992 := by decide
  rw [p52, p53] at hb
  rw [p52] at hw
  generalize n * 2 ^ (52 - n.log2) = X at *
  generalize n.log2 = L at *
  have hd : fl (n : Int) / 4503599627370496 = L + 1023 := by omega
  have hm : (L + 1023) % 2048 = L + 1023 := by omega
  refine ⟨by omega, by rw [hd]; omega, ?_, ?_⟩
  · unfold mtN
    rw [hd, hm, if_neg (by omega)]
    omega
  · unfold exI
    rw [hd, hm, if_neg (by omega)]
    omega
theorem dg_fl (n : Nat) (h0 : 0 < n) (h : n < 2 ^ 53) : dgI (fl (n : Int)) 0 ≤ 18 := by
  have hl := small_log h0 h
  have he := (ff_fl n h0 h).2.2.2
  unfold dgI
  rw [he, if_pos (by omega)]
  unfold lg10
  omega

end Go.Proofs.YtgejeocojmpdjacGreatDoor.pf

namespace Go.Proofs.YtgejeocojmpdjacGreatDoor.pf
open Go.RowKit Go.Lib Go.Proofs.YtgejeocojmpdjacGreatDoor.sum Go.Proofs.YtgejeocojmpdjacGreatDoor.kept Go.Proofs.YtgejeocojmpdjacGreatDoor.app Go.Proofs.YtgejeocojmpdjacGreatDoor.writer Go.Proofs.YtgejeocojmpdjacGreatDoor.known Go.Proofs.YtgejeocojmpdjacGreatDoor.str Go.Proofs.YtgejeocojmpdjacGreatDoor.fmtf Go.Proofs.YtgejeocojmpdjacGreatDoor.fl
set_option linter.unusedVariables false

theorem small_nat {n : Nat} (h : n < 2 ^ 53) : Small (n : Int) := by unfold Small; rw [show ((n : Int)).natAbs = n by omega]; exact h
/-- the digits of a whole number -/
def dgN (n : Nat) : List UInt8 := if n = 0 then [48] else ffS (fl (n : Int)) 0
theorem dgN_any (W : World) (h : Ld W) (n : Nat) (hn : n < 2 ^ 53) : Calls Tryz.prog 22 #[.float .f64 (fl (n : Int))] W (TxPost W (dgN n)) := by
  have hs := small_nat hn
  refine digits_fin W _ _ (kind_fl _ hs) (nan_fl _ hs) ?_
  rw [trunc_fl _ hs, plain_fl _ hs]
  unfold dgN
  by_cases h0 : n = 0
  · subst h0
    rw [if_pos rfl, show fl ((0 : Nat) : Int) = 0 by decide +kernel]
    exact ff_zero W
  · rw [if_neg h0]
    have hf := ff_fl n (by omega) hn
    exact ff_all W h _ 0 (by have := hf.1; omega) hf.2.1 hf.2.2.1 (by omega) (by omega) (dg_fl n (by omega) hn)
theorem dig_ne (u n i : Nat) : UInt8.ofNat (dgt u n i) ≠ 45 := by
  intro e
  have h := congrArg UInt8.toNat e
  unfold dgt at h
  have h2 : u / 10 ^ (n - 1 - i) % 10 < 10 := Nat.mod_lt _ (by omega)
  generalize u / 10 ^ (n - 1 - i) % 10 = k at *
  rw [UInt8.toNat_ofNat'] at h
  simp at h
  omega
theorem intF_pos (u n : Nat) (dp : Int) (nd : Nat) (hd : dp ≤ 1000) : (∀ c ∈ intF (dgt u n) dp nd, c ≠ 45) ∧ (intF (dgt u n) dp nd).length ≤ 3000 ∧ 0 < (intF (dgt u n) dp nd).length := by
  unfold intF
  split
  · refine ⟨fun c hc => ?_, ?_, ?_⟩
    · rcases List.mem_append.1 hc with h | h
      · obtain ⟨k, _, rfl⟩ := List.mem_map.1 h
        exact dig_ne _ _ _
      · rw [List.eq_of_mem_replicate h]; decide
    · rw [List.length_append, List.length_map, List.length_range, List.length_replicate]; omega
    · rw [List.length_append, List.length_map, List.length_range, List.length_replicate]; omega
  · exact ⟨fun c hc => by rw [List.mem_singleton.1 hc]; decide, by simp, by simp⟩
theorem ffS_pos (b : Nat) (hb : b < 9223372036854775808) (hE : b / 4503599627370496 % 2048 ≠ 2047) (hM : mtN b ≠ 0) (hD : dgI b 0 ≤ 18) : (∀ c ∈ ffS b 0, c ≠ 45) ∧ (ffS b 0).length ≤ 3000 ∧ 0 < (ffS b 0).length := by
  obtain ⟨h1, h2, h3, h4⟩ := fx_bd T10 b 0 (by omega) hE hM hD (by omega)
  have hn := (nd_bd (d := (fxI T10 b 0).1.toNat) (by have e : (10 : Nat) ^ 18 = 1000000000000000000 := by decide
                                                     omega)).2.1
  unfold ffS outF
  rw [decide_eq_false (by omega), if_neg (by simp)]
  have hfr : ∀ f dp nd, fracF f dp nd 0 = [] := fun f dp nd => by unfold fracF; rw [if_neg (by omega)]
  rw [hfr, List.nil_append, List.append_nil]
  exact intF_pos _ _ _ _ (by split <;> omega)
theorem dgN_pos (n : Nat) (hn : n < 2 ^ 53) : (∀ c ∈ dgN n, c ≠ 45) ∧ (dgN n).length ≤ 3000 ∧ 0 < (dgN n).length := by
  unfold dgN
  by_cases h0 : n = 0
  · rw [if_pos h0]; exact ⟨by decide, by decide, by decide⟩
  · rw [if_neg h0]
    have hf := ff_fl n (by omega) hn
    exact ffS_pos _ hf.1 hf.2.1 hf.2.2.1 (dg_fl n (by omega) hn)
theorem dgN_pre (n : Nat) (hn : n < 2 ^ 53) : Lib.hasPrefix (dgN n) [45] = false ∧ Lib.trimPrefix (dgN n) [45] = dgN n := by
  obtain ⟨h1, _, h2⟩ := dgN_pos n hn
  cases hd : dgN n with
  | nil => rw [hd] at h2; cases h2
  | cons c l =>
    have hc : c ≠ 45 := h1 c (by rw [hd]; simp)
    have hp : Lib.hasPrefix (c :: l) [45] = false := by
      unfold Lib.hasPrefix
      simp [List.isPrefixOf, hc.symm]
    refine ⟨hp, ?_⟩
    unfold Lib.trimPrefix
    first
      | rw [hp]; rfl
      | (unfold Lib.hasPrefix at hp; rw [hp]; rfl)
      | (rw [if_neg (by simp [List.isPrefixOf, hc.symm])])
/-- the digits of base 16, of base 8 -/
theorem based16 (W : World) (h : Ld W) (n : Nat) (hn : n < 2 ^ 53) (d : List UInt8) : Calls Tryz.prog 26 #[.float .f64 (fl (n : Int)), .int .i64 16, .string (st d)] W (TxK W (hex.hexs n)) := by
  have hs := small_nat hn
  have p53 : (2 : Nat) ^ 53 = 9007199254740992 := by decide
  have ht := trunc_fl _ hs
  have h1 : (FloatKind.f64.format.order (fl (n : Int)) 0 == some .lt) = false := by
    have := fl_order (n : Int) 0 hs (by unfold Small; decide)
    rw [show fl 0 = 0 by decide +kernel] at this
    rw [show FloatKind.f64.format.order (fl (n : Int)) 0 = _ from this]
    have hc : compare (n : Int) 0 ≠ .lt := by simp [compare, compareOfLessAndEq]; split <;> simp_all
    simpa using hc
  have h64 := (order_big (n : Int) hs _ _ _ _ read_64 big_64).1
  refine based_yes W _ 16 d _ n (nan_fl _ hs) (by rw [ht]; exact h1) ?_ ?_ (by rw [ht]; exact fl_int _ hs .u64 (by simp [IntKind.min, IntKind.signed]) (by simp [IntKind.max, IntKind.signed, IntKind.bits]; omega)) (fuint16 W n (by omega) h.hx)
  · rw [ht, show FloatKind.f64.format.order (fl (n : Int)) 4895412794951729152 = _ from h64]; rfl
  · rw [ht, show FloatKind.f64.format.order (fl (n : Int)) 4895412794951729152 = _ from h64]; rfl
theorem based8 (W : World) (h : Ld W) (n : Nat) (hn : n < 2 ^ 53) (d : List UInt8) : Calls Tryz.prog 26 #[.float .f64 (fl (n : Int)), .int .i64 8, .string (st d)] W (TxK W (oct.octs n)) := by
  have hs := small_nat hn
  have p53 : (2 : Nat) ^ 53 = 9007199254740992 := by decide
  have ht := trunc_fl _ hs
  have h1 : (FloatKind.f64.format.order (fl (n : Int)) 0 == some .lt) = false := by
    have := fl_order (n : Int) 0 hs (by unfold Small; decide)
    rw [show fl 0 = 0 by decide +kernel] at this
    rw [show FloatKind.f64.format.order (fl (n : Int)) 0 = _ from this]
    have hc : compare (n : Int) 0 ≠ .lt := by simp [compare, compareOfLessAndEq]; split <;> simp_all
    simpa using hc
  have h64 := (order_big (n : Int) hs _ _ _ _ read_64 big_64).1
  refine based_yes W _ 8 d _ n (nan_fl _ hs) (by rw [ht]; exact h1) ?_ ?_ (by rw [ht]; exact fl_int _ hs .u64 (by simp [IntKind.min, IntKind.signed]) (by simp [IntKind.max, IntKind.signed, IntKind.bits]; omega)) (fuint8 W n (by omega) h.oc)
  · rw [ht, show FloatKind.f64.format.order (fl (n : Int)) 4895412794951729152 = _ from h64]; rfl
  · rw [ht, show FloatKind.f64.format.order (fl (n : Int)) 4895412794951729152 = _ from h64]; rfl

end Go.Proofs.YtgejeocojmpdjacGreatDoor.pf

namespace Go.Proofs.YtgejeocojmpdjacGreatDoor.pf
open Go.RowKit Go.Lib Go.Proofs.YtgejeocojmpdjacGreatDoor.sum Go.Proofs.YtgejeocojmpdjacGreatDoor.kept Go.Proofs.YtgejeocojmpdjacGreatDoor.app Go.Proofs.YtgejeocojmpdjacGreatDoor.writer Go.Proofs.YtgejeocojmpdjacGreatDoor.known Go.Proofs.YtgejeocojmpdjacGreatDoor.str Go.Proofs.YtgejeocojmpdjacGreatDoor.fmtf Go.Proofs.YtgejeocojmpdjacGreatDoor.fl
set_option linter.unusedVariables false

def cvL (k : Nat) : Cv := ⟨false, false, false, false, 0, -1, k⟩
def arN (n : Nat) : Ar := ⟨fl (n : Int), [], true⟩
def upS (n : Nat) : List UInt8 := Lib.toUpperA (hex.hexs n)
def tlH (n : Nat) (c : Cv) (x : Ar) : Td := ⟨[], if c.letter = 120 then hex.hexs n else if c.letter = 111 then oct.octs n else upS n, true⟩
def oktH (n : Nat) (c : Cv) (x : Ar) : Prop := (c = cvL 120 ∨ c = cvL 111 ∨ c = cvL 88) ∧ x = arN n
theorem whole_bare (k : Nat) (hk : bare k = true) (E : List UInt8) : wholeS (cvL k) E false = ⟨[], E, true⟩ := by
  unfold wholeS signS noughtsS cvL
  simp only [Bool.false_eq_true, if_false, hk, if_true]
  have e : max (-1 - (E.length : Int)) 0 = 0 := by omega
  rw [e]
  rfl
theorem hexd_ascii : ∀ d : Fin 16, (hex.hexd d.val).toNat < 128 := by decide +kernel
theorem hexs_ascii (n : Nat) : ∀ c ∈ hex.hexs n, c.toNat < 128 := by
  induction n using Nat.strongRecOn with
  | _ n ih =>
    intro c hc
    by_cases h : n < 16
    · rw [hex.hexs_small h] at hc
      rw [List.mem_singleton.1 hc]
      exact hexd_ascii ⟨n, h⟩
    · rw [hex.hexs_big h] at hc
      rcases List.mem_append.1 hc with h1 | h1
      · exact ih (n / 16) (by omega) c h1
      · rw [List.mem_singleton.1 h1]
        exact hexd_ascii ⟨n % 16, Nat.mod_lt _ (by omega)⟩
theorem up_len (n : Nat) : (upS n).length = (hex.hexs n).length := by unfold upS Lib.toUpperA; rw [List.length_map]
theorem upper_hex (W : World) (n : Nat) (hn : n < 4294967296) : Calls Tryz.prog 27 #[.string (st (hex.hexs n))] W (TxK W (upS n)) := by
  have hl := hex.hexs_len n 8 (by omega) (by omega)
  refine (Tryz.strings_ToUpper_ascii (st (hex.hexs n)) W (by rw [st_size]; omega) (fun j b hb => ?_)).mono ?_
  · rw [st_data] at hb
    exact hexs_ascii n b (List.mem_of_getElem? hb)
  · rintro e w' ⟨rfl, hb⟩
    refine ⟨?_, Kp.of_below hb⟩
    rw [st_data]
    rfl
theorem tlH_ok (w : World) (h : Ld w) (n : Nat) (hn : n < 4294967296) : TlC (tlH n) (oktH n) w := by
  have p53 : (2 : Nat) ^ 53 = 9007199254740992 := by decide
  have hn2 : n < 2 ^ 53 := by omega
  have hs := small_nat hn2
  have hp := dgN_pre n hn2
  have hl := (dgN_pos n hn2).2.1
  have l16 := hex.hexs_len n 8 (by omega) (by omega)
  have l8 := oct.octs_len n 11 (by omega) (by omega)
  rintro c x ⟨hc, rfl⟩
  rcases hc with rfl | rfl | rfl
  · refine ⟨⟨by decide, by decide, by simp [tlH], by simp [tlH, cvL]; omega⟩, fun W hk => ?_⟩
    have := tell_x W false false false false 0 (-1) (arN n) (dgN n) (by omega) (fun W' hk' => dgN_any W' ((h.no hk).no hk') n hn2) (fin_fl _ hs) (by decide) (by decide) (hex.hexs n) (by omega) (fun W' hk' => based16 W' ((h.no hk).no hk') n hn2 _)
    rw [hp.1, show (⟨false, false, false, false, 0, -1, 120⟩ : Cv) = cvL 120 from rfl, whole_bare 120 (by decide)] at this
    exact this
  · refine ⟨⟨by decide, by decide, by simp [tlH], by simp [tlH, cvL]; omega⟩, fun W hk => ?_⟩
    have := tell_o W false false false false 0 (-1) (arN n) (dgN n) (by omega) (fun W' hk' => dgN_any W' ((h.no hk).no hk') n hn2) (fin_fl _ hs) (by decide) (by decide) (oct.octs n) (by omega) (fun W' hk' => based8 W' ((h.no hk).no hk') n hn2 _)
    rw [hp.1, show (⟨false, false, false, false, 0, -1, 111⟩ : Cv) = cvL 111 from rfl, whole_bare 111 (by decide)] at this
    exact this
  · refine ⟨⟨by decide, by decide, by simp [tlH], by simp [tlH, cvL]; rw [up_len]; omega⟩, fun W hk => ?_⟩
    have := tell_X W false false false false 0 (-1) (arN n) (dgN n) (by omega) (fun W' hk' => dgN_any W' ((h.no hk).no hk') n hn2) (fin_fl _ hs) (by decide) (by decide) (hex.hexs n) (upS n) (by rw [up_len]; omega) (fun W' hk' => based16 W' ((h.no hk).no hk') n hn2 _) (fun W' => upper_hex W' n hn)
    rw [hp.1, show (⟨false, false, false, false, 0, -1, 88⟩ : Cv) = cvL 88 from rfl, whole_bare 88 (by decide)] at this
    exact this

theorem add_nil (bs : List UInt8) : addS bs [] = bs := by unfold addS; simp
theorem add_all (bs s : List UInt8) (h : bs.length + s.length ≤ 257) : addS bs s = bs ++ s := by
  unfold addS
  rw [List.take_of_length_le (by omega)]
theorem put_plain (k : Nat) (bs E : List UInt8) (h : bs.length + E.length ≤ 257) : putS bs (cvL k) ⟨[], E, true⟩ = bs ++ E := by
  unfold putS cvL
  simp only [Bool.false_eq_true, if_false, false_and]
  have e : (fillN ⟨false, false, false, false, 0, -1, k⟩ ⟨[], E, true⟩).toNat = 0 := by
    unfold fillN
    simp only [List.length_nil]
    omega
  rw [e, List.replicate_zero, add_nil, add_nil, add_all _ _ h]
def fm3 : List UInt8 := [37, 120, 32, 37, 111, 32, 37, 88]
theorem tx_one : txS (fm3.length + 1) fm3 [] = (true, [120, 32, 37, 111, 32, 37, 88], []) := by decide +kernel
theorem tx_two (bs : List UInt8) (h : bs.length ≤ 200) : txS (([32, 37, 111, 32, 37, 88] : List UInt8).length + 1) [32, 37, 111, 32, 37, 88] bs = (true, [111, 32, 37, 88], bs ++ [32]) := by
  have hc : cutS [32, 37, 111, 32, 37, 88] = ([32], [111, 32, 37, 88], true) := by decide +kernel
  rw [txS, hc]
  simp only
  rw [if_neg (by decide), add_all _ _ (by simp; omega)]
theorem tx_three (bs : List UInt8) (h : bs.length ≤ 200) : txS (([32, 37, 88] : List UInt8).length + 1) [32, 37, 88] bs = (true, [88], bs ++ [32]) := by
  have hc : cutS [32, 37, 88] = ([32], [88], true) := by decide +kernel
  rw [txS, hc]
  simp only
  rw [if_neg (by decide), add_all _ _ (by simp; omega)]
theorem tx_end (bs : List UInt8) : txS (([] : List UInt8).length + 1) [] bs = (false, [], bs) := by
  have hc : cutS [] = ([], [], false) := by decide +kernel
  rw [txS, hc]
  simp only
  rw [if_neg (by simp), add_nil]
theorem cv_one (ars : List Ar) : cvS cnD [120, 32, 37, 111, 32, 37, 88] ars = some (cvL 120, [32, 37, 111, 32, 37, 88], ars) := by kernel_rfl
theorem cv_two (ars : List Ar) : cvS cnD [111, 32, 37, 88] ars = some (cvL 111, [32, 37, 88], ars) := by kernel_rfl
theorem cv_three (ars : List Ar) : cvS cnD [88] ars = some (cvL 88, [], ars) := by kernel_rfl
def arsN (n : Nat) : List Ar := [arN n, arN n, arN n]
def outH (n : Nat) : List UInt8 := hex.hexs n ++ [32] ++ oct.octs n ++ [32] ++ upS n
theorem hex_fm (n : Nat) (hn : n < 4294967296) : fmS cnD (tlH n) 4 fm3 (arsN n) [] = some (outH n) ∧ okS cnD (fun l => lookS l ≠ 42) (tlH n) (oktH n) 4 fm3 (arsN n) [] ∧ (outH n).length ≤ 30 := by
  have l16 := hex.hexs_len n 8 (by omega) (by omega)
  have l8 := oct.octs_len n 11 (by omega) (by omega)
  have lu := up_len n
  have t1 : tlH n (cvL 120) (arN n) = ⟨[], hex.hexs n, true⟩ := rfl
  have t2 : tlH n (cvL 111) (arN n) = ⟨[], oct.octs n, true⟩ := rfl
  have t3 : tlH n (cvL 88) (arN n) = ⟨[], upS n, true⟩ := rfl
  have p1 : putS [] (cvL 120) ⟨[], hex.hexs n, true⟩ = hex.hexs n := by rw [put_plain _ _ _ (by simp; omega)]; rfl
  have p2 : putS (hex.hexs n ++ [32]) (cvL 111) ⟨[], oct.octs n, true⟩ = hex.hexs n ++ [32] ++ oct.octs n := put_plain _ _ _ (by simp; omega)
  have p3 : putS (hex.hexs n ++ [32] ++ oct.octs n ++ [32]) (cvL 88) ⟨[], upS n, true⟩ = outH n := put_plain _ _ _ (by simp; omega)
  have b2 := tx_two (hex.hexs n) (by omega)
  have b3 := tx_three (hex.hexs n ++ [32] ++ oct.octs n) (by simp; omega)
  have b4 := tx_end (outH n)
  have hlen : (outH n).length ≤ 30 := by unfold outH; simp; omega
  refine ⟨?_, ?_, hlen⟩
  · rw [fmS, tx_one]
    simp only [if_true, cv_one]
    rw [show (arsN n).headD noAr = arN n from rfl, t1, p1, fmS, b2]
    simp only [if_true, cv_two]
    rw [show (arsN n).tail.headD noAr = arN n from rfl, t2, p2, fmS, b3]
    simp only [if_true, cv_three]
    rw [show (arsN n).tail.tail.headD noAr = arN n from rfl, t3, p3, fmS, b4]
    simp
  · rw [okS, tx_one]
    simp only [cv_one]
    refine ⟨by decide, by decide, by decide, fun _ => ⟨by decide +kernel, fun e => absurd e (by show ¬ lookS (cntS (fgS [120, 32, 37, 111, 32, 37, 88] cv0).2 0).2 = 46; decide +kernel ), ⟨.inl rfl, rfl⟩, ?_⟩⟩
    rw [show (arsN n).headD noAr = arN n from rfl, t1, p1, okS, b2]
    simp only [cv_two]
    refine ⟨by decide, by omega, by simp; omega, fun _ => ⟨by decide +kernel, fun e => absurd e (by show ¬ lookS (cntS (fgS [111, 32, 37, 88] cv0).2 0).2 = 46; decide +kernel ), ⟨.inr (.inl rfl), rfl⟩, ?_⟩⟩
    rw [show (arsN n).tail.headD noAr = arN n from rfl, t2, p2, okS, b3]
    simp only [cv_three]
    refine ⟨by decide, by simp; omega, by simp; omega, fun _ => ⟨by decide +kernel, fun e => absurd e (by show ¬ lookS (cntS (fgS [88] cv0).2 0).2 = 46; decide +kernel ), ⟨.inr (.inr rfl), rfl⟩, ?_⟩⟩
    rw [show (arsN n).tail.tail.headD noAr = arN n from rfl, t3, p3, okS, b4]
    exact ⟨by decide, by omega, by show (outH n).length ≤ 257; omega, fun e => by cases e⟩

end Go.Proofs.YtgejeocojmpdjacGreatDoor.pf

namespace Go.Proofs.YtgejeocojmpdjacGreatDoor.pf
open Go.RowKit Go.Lib Go.Proofs.YtgejeocojmpdjacGreatDoor.sum Go.Proofs.YtgejeocojmpdjacGreatDoor.kept Go.Proofs.YtgejeocojmpdjacGreatDoor.known Go.Proofs.YtgejeocojmpdjacGreatDoor.str
set_option linter.unusedVariables false

structure HxI (n y : Nat) (h : List UInt8) : Prop where
  todo : (h = [] ∨ 0 < y) → hex.hexs y ++ h = hex.hexs n
  done : y = 0 → h ≠ [] → h = hex.hexs n
theorem HxI.start (n : Nat) : HxI n n [] := ⟨fun _ => by simp, fun _ h => absurd rfl h⟩
theorem HxI.step {n y : Nat} {h : List UInt8} (k : HxI n y h) (hc : h = [] ∨ 0 < y) : HxI n (y / 16) (hex.hexd (y % 16) :: h) := by
  have ht := k.todo hc
  by_cases hy : y < 16
  · rw [hex.hexs_small hy] at ht
    have e1 : y / 16 = 0 := by omega
    have e2 : y % 16 = y := by omega
    rw [e1, e2]
    refine ⟨fun hx => ?_, fun _ _ => ht⟩
    rcases hx with hx | hx
    · cases hx
    · exact absurd hx (Nat.lt_irrefl _)
  · rw [hex.hexs_big hy, List.append_assoc] at ht
    exact ⟨fun _ => ht, fun e => by omega⟩
theorem HxI.len {n y : Nat} {h : List UInt8} (k : HxI n y h) (hn : n < 4294967296) : h.length ≤ 8 := by
  have l16 := hex.hexs_len n 8 (by omega) (by omega)
  by_cases hc : h = [] ∨ 0 < y
  · have := congrArg List.length (k.todo hc)
    rw [List.length_append] at this
    omega
  · have hd := k.done (by omega) (fun e => hc (.inl e))
    rw [hd]; exact l16
structure OcI (n y : Nat) (h : List UInt8) : Prop where
  todo : (h = [] ∨ 0 < y) → oct.octs y ++ h = oct.octs n
  done : y = 0 → h ≠ [] → h = oct.octs n
theorem OcI.start (n : Nat) : OcI n n [] := ⟨fun _ => by simp, fun _ h => absurd rfl h⟩
theorem OcI.step {n y : Nat} {h : List UInt8} (k : OcI n y h) (hc : h = [] ∨ 0 < y) : OcI n (y / 8) (oct.octd (y % 8) :: h) := by
  have ht := k.todo hc
  by_cases hy : y < 8
  · rw [oct.octs_small hy] at ht
    have e1 : y / 8 = 0 := by omega
    have e2 : y % 8 = y := by omega
    rw [e1, e2]
    refine ⟨fun hx => ?_, fun _ _ => ht⟩
    rcases hx with hx | hx
    · cases hx
    · exact absurd hx (Nat.lt_irrefl _)
  · rw [oct.octs_big hy, List.append_assoc] at ht
    exact ⟨fun _ => ht, fun e => by omega⟩
theorem OcI.len {n y : Nat} {h : List UInt8} (k : OcI n y h) (hn : n < 4294967296) : h.length ≤ 11 := by
  have l8 := oct.octs_len n 11 (by omega) (by omega)
  by_cases hc : h = [] ∨ 0 < y
  · have := congrArg List.length (k.todo hc)
    rw [List.length_append] at this
    omega
  · have hd := k.done (by omega) (fun e => hc (.inl e))
    rw [hd]; exact l8
/-- a text that is empty counts one -/
def empV : Value → Nat
  | .string s => if s.size = 0 then 1 else 0
  | _ => 0
def dig16 : List UInt8 := [48, 49, 50, 51, 52, 53, 54, 55, 56, 57, 97, 98, 99, 100, 101, 102]
def up16 : List UInt8 := [48, 49, 50, 51, 52, 53, 54, 55, 56, 57, 65, 66, 67, 68, 69, 70]
def dig8 : List UInt8 := [48, 49, 50, 51, 52, 53, 54, 55]
theorem dig16_at : ∀ r : Fin 16, (dig16.drop r.val).take 1 = [hex.hexd r.val] := by decide +kernel
theorem up16_at : ∀ r : Fin 16, (up16.drop r.val).take 1 = Lib.toUpperA [hex.hexd r.val] := by decide +kernel
theorem dig8_at : ∀ r : Fin 8, (dig8.drop r.val).take 1 = [oct.octd r.val] := by decide +kernel
set_option maxRecDepth 100000 in
theorem st_slice (l : List UInt8) (k : IntKind) (i j : Nat) (h1 : i ≤ j) (h2 : j ≤ l.length) (W : World) : (Instr.sliceAt 9 (.string (st l)) (some (.int k (i : Int))) (some (.int k (j : Int))) none).run Tryz.prog W = .ok (.string (st ((l.drop i).take (j - i)))) W := by
  have hu : Tryz.prog.underlying 9 = some .string := Tryz.underlying9
  rw [run_sliceAt_string W _ _ _ _ _ hu, run_slice_string_if (P := Tryz.prog) W 9 (st l) k k (i : Int) (j : Int) hu]
  rw [if_pos ⟨by omega, by rw [st_size]; omega⟩, if_pos ⟨by omega, by omega⟩]
  congr 2
  apply ByteArray.ext
  simp only [Int.toNat_natCast]
  rw [ByteArray.data_extract]
  apply Array.ext'
  simp [st, List.take_drop, Nat.min_eq_left h2]
theorem piece16 (r : Nat) (h : r < 16) (W : World) : (Instr.sliceAt 9 (.string ⟨#[48, 49, 50, 51, 52, 53, 54, 55, 56, 57, 97, 98, 99, 100, 101, 102]⟩) (some (.int .u32 (r : Int))) (some (.int .u32 ((r : Int) + 1))) none).run Tryz.prog W = .ok (.string (st [hex.hexd r])) W := by
  have h1 := st_slice dig16 .u32 r (r + 1) (Nat.le_succ r) (by show r + 1 ≤ 16; omega) W
  rw [show r + 1 - r = 1 by omega, dig16_at ⟨r, h⟩] at h1
  exact h1
theorem pieceU (r : Nat) (h : r < 16) (W : World) : (Instr.sliceAt 9 (.string ⟨#[48, 49, 50, 51, 52, 53, 54, 55, 56, 57, 65, 66, 67, 68, 69, 70]⟩) (some (.int .u32 (r : Int))) (some (.int .u32 ((r : Int) + 1))) none).run Tryz.prog W = .ok (.string (st (Lib.toUpperA [hex.hexd r]))) W := by
  have h1 := st_slice up16 .u32 r (r + 1) (Nat.le_succ r) (by show r + 1 ≤ 16; omega) W
  rw [show r + 1 - r = 1 by omega, up16_at ⟨r, h⟩] at h1
  exact h1
theorem piece8 (r : Nat) (h : r < 8) (W : World) : (Instr.sliceAt 9 (.string ⟨#[48, 49, 50, 51, 52, 53, 54, 55]⟩) (some (.int .u32 (r : Int))) (some (.int .u32 ((r : Int) + 1))) none).run Tryz.prog W = .ok (.string (st [oct.octd r])) W := by
  have h1 := st_slice dig8 .u32 r (r + 1) (Nat.le_succ r) (by show r + 1 ≤ 8; omega) W
  rw [show r + 1 - r = 1 by omega, dig8_at ⟨r, h⟩] at h1
  exact h1

end Go.Proofs.YtgejeocojmpdjacGreatDoor.pf

namespace Go.Proofs.YtgejeocojmpdjacGreatDoor.pf
open Go.RowKit Go.Lib Go.Proofs.YtgejeocojmpdjacGreatDoor.sum Go.Proofs.YtgejeocojmpdjacGreatDoor.kept Go.Proofs.YtgejeocojmpdjacGreatDoor.app Go.Proofs.YtgejeocojmpdjacGreatDoor.writer Go.Proofs.YtgejeocojmpdjacGreatDoor.known Go.Proofs.YtgejeocojmpdjacGreatDoor.str Go.Proofs.YtgejeocojmpdjacGreatDoor.fmtf Go.Proofs.YtgejeocojmpdjacGreatDoor.fl
set_option linter.unusedVariables false

theorem up_cons (c : UInt8) (l : List UInt8) : Lib.toUpperA (c :: l) = Lib.toUpperA [c] ++ Lib.toUpperA l := rfl
theorem st_cons (c : UInt8) (l : List UInt8) : st [c] ++ st l = st (c :: l) := st_add [c] l
theorem emp_st (l : List UInt8) (h : l ≠ []) : (st l).toList.isEmpty = false := by
  rw [st_list]
  cases l with
  | nil => exact absurd rfl h
  | cons a l => rfl
theorem empV_st (l : List UInt8) (h : l ≠ []) : empV (.string (st l)) = 0 := by
  show (if (st l).size = 0 then 1 else 0) = 0
  rw [st_size]
  cases l with
  | nil => exact absurd rfl h
  | cons a l => simp

set_option maxRecDepth 100000 in
set_option maxHeartbeats 16000000 in
theorem formHex_any (w : World) (h : Ld w) (n : Nat) (hn : n < 4294967296) :
    Calls Tryz.prog 3 #[.int .u32 (n : Int)] w fun e w' => e = .returned (.bool true) ∧ Kp No w w' := by
  have HN := Hid_mk fun W b => n_any W b
  have HL := Hid_mk h
  have HNn := Hid_mk hn
  have hni : (n : Int) < 4294967296 := by omega
  have hn0 : (0 : Int) ≤ (n : Int) := Int.natCast_nonneg _
  have hfo : floatOfInt .f64 (n : Int) = fl (n : Int) := rfl
  clear h hn
  go_enter Tryz.func3, Tryz.ntmps3
  go_wp2_with fail
  with_reducible refine (HN.out _ _).mono ?_
  rintro e w1 ⟨rfl, hk1⟩
  have HK := Hid_mk (hk1)
  clear hk1
  go_wp2_with fail
  with_reducible refine (HN.out _ _).mono ?_
  rintro e w2 ⟨rfl, hk1⟩
  have HK := Hid_mk (HK.out.trans' hk1)
  clear hk1
  go_wp2_with fail
  with_reducible refine (HN.out _ _).mono ?_
  rintro e w3 ⟨rfl, hk1⟩
  have HK := Hid_mk (HK.out.trans' hk1)
  clear hk1
  go_wp2_with fail
  obtain ⟨W4, hW4, hk4, hz4⟩ := named_alloc w3 (.cells #[.float .f64 (fl (n : Int)), .string ⟨#[]⟩, .bool true, .float .f64 (fl (n : Int)), .string ⟨#[]⟩, .bool true, .float .f64 (fl (n : Int)), .string ⟨#[]⟩, .bool true] 28)
  have hargs : ArgsAt W4 (.slice (some ⟨w3.heap.size, 0, none⟩) 3 3) (arsN n) := by
    refine ⟨_, 3, rfl, Nat.le_refl 3, by decide, fun k hk => ⟨_, 0, rfl, ?_⟩⟩
    have hk : k < 3 := hk
    rw [← hW4]
    rcases (by omega : k = 0 ∨ k = 1 ∨ k = 2) with rfl | rfl | rfl <;> exact ⟨by rw [World.cell?_alloc_mark]; rfl, by rw [World.cell?_alloc_mark]; rfl, by rw [World.cell?_alloc_mark]; rfl⟩
  rw [hW4]
  have hfm := hex_fm n HNn.out
  have hF := format_any W4 fm3 _ (arsN n) hargs cnD _ cnt_digits (tlH n) (oktH n) (tlH_ok W4 (HL.out.no (HK.out.trans' hk4)) n HNn.out) 4 hfm.2.1
  rw [hfm.1] at hF
  have hres : resS (some (outH n)) = (outH n, 0) := by
    have := hfm.2.2
    unfold resS
    simp only
    rw [if_neg (by omega)]
  unfold FmPost at hF
  rw [hres] at hF
  obtain ⟨A5, h5⟩ : ∃ A5, st (hex.hexs n) = A5 := ⟨_, rfl⟩
  obtain ⟨A7, h7⟩ : ∃ A7, st (oct.octs n) = A7 := ⟨_, rfl⟩
  obtain ⟨A6, h6⟩ : ∃ A6, st (upS n) = A6 := ⟨_, rfl⟩
  have hout : st (outH n) = A5 ++ ⟨#[32]⟩ ++ A7 ++ ⟨#[32]⟩ ++ A6 := by
    rw [← h5, ← h7, ← h6]
    unfold outH
    rw [← st_add, ← st_add, ← st_add, ← st_add]
    rfl
  simp only [hout] at hF
  have HF : Hid (Calls Tryz.prog 4 #[.string ⟨#[37, 120, 32, 37, 111, 32, 37, 88]⟩, .slice (some ⟨w3.heap.size, 0, none⟩) 3 3] W4 fun e w' => e = .returned (.tuple #[.string (A5 ++ ⟨#[32]⟩ ++ A7 ++ ⟨#[32]⟩ ++ A6), .int .i64 0]) ∧ Kp No W4 w') := Hid_mk hF
  have HK := Hid_mk (HK.out.trans' hk4)
  have H5 := Hid_mk h5
  have H6 := Hid_mk h6
  have H7 := Hid_mk h7
  have hs5 : A5.size ≤ 8 := by rw [← h5, st_size]; exact hex.hexs_len n 8 (by have := HNn.out; omega) (by omega)
  have hs7 : A7.size ≤ 11 := by rw [← h7, st_size]; exact oct.octs_len n 11 (by have := HNn.out; omega) (by omega)
  have hs6 : A6.size ≤ 8 := by rw [← h6, st_size, up_len]; exact hex.hexs_len n 8 (by have := HNn.out; omega) (by omega)
  have HSz := Hid_mk (And.intro hs5 (And.intro hs7 hs6))
  clear hF hargs hW4 hk4 hz4 hfm hres hout h5 h6 h7 hs5 hs6 hs7
  with_reducible refine HF.out.mono ?_
  rintro e w5 ⟨rfl, hk1⟩
  have HK := Hid_mk (HK.out.trans' hk1)
  clear hk1 HF HN
  obtain ⟨AA, hAA⟩ : ∃ AA, A5 ++ ⟨#[32]⟩ ++ A7 ++ ⟨#[32]⟩ ++ A6 = AA := ⟨_, rfl⟩
  have HAA := Hid_mk hAA
  rw [hAA]
  clear hAA hfo
  go_wp2_with fail
  go_loopw [5, 6, 8] (fun t5 t6 t8 wr => ∃ (y : Nat) (h : List UInt8), t5 = .string (st h) ∧ t6 = .string (st (Lib.toUpperA h)) ∧ t8 = .int .u32 (y : Int) ∧ HxI n y h ∧ y ≤ n ∧ wr = w5) (fun t5 _ t8 _ => 2 * (intOf t8).toNat + empV t5)
  case atStart => exact ⟨n, [], rfl, rfl, rfl, HxI.start n, Nat.le_refl _, rfl⟩
  case round =>
    obtain ⟨y, h, rfl, rfl, rfl, hx, hyn, rfl⟩ := hrel
    have hlen := hx.len HNn.out
    have hy0 : (0 : Int) ≤ (y : Int) := Int.natCast_nonneg _
    have hyi : (y : Int) < 4294967296 := by have := HNn.out; omega
    obtain ⟨r, hr⟩ : ∃ r, y % 16 = r := ⟨_, rfl⟩
    obtain ⟨z, hz⟩ : ∃ z, y / 16 = z := ⟨_, rfl⟩
    have hr16 : r < 16 := by omega
    have hr1 : (y : Int) % 16 = (r : Int) := by omega
    have hr2 : (y : Int).tmod 16 = (r : Int) := by rw [Int.tmod_eq_emod_of_nonneg hy0]; exact hr1
    have hz1 : (y : Int) / 16 = (z : Int) := by omega
    have hz2 : (y : Int).tdiv 16 = (z : Int) := by rw [Int.tdiv_eq_ediv_of_nonneg hy0]; exact hz1
    have hri : (r : Int) < 16 := by omega
    have hr0 : (0 : Int) ≤ (r : Int) := Int.natCast_nonneg _
    have q1 := fun W => piece16 r hr16 W
    have q2 := fun W => pieceU r hr16 W
    have hp1 : (st [hex.hexd r]).size = 1 := by rw [st_size]; rfl
    have hp2 : (st (Lib.toUpperA [hex.hexd r])).size = 1 := by rw [st_size]; rfl
    have hh1 : (st h).size ≤ 8 := by rw [st_size]; exact hlen
    have hh2 : (st (Lib.toUpperA h)).size ≤ 8 := by rw [st_size]; unfold Lib.toUpperA; rw [List.length_map]; exact hlen
    by_cases hc : h = [] ∨ 0 < y
    · have hst := hx.step hc
      rw [hr, hz] at hst
      have HSt := Hid_mk hst
      have HR := Hid_mk (And.intro hr (And.intro hz hyn))
      by_cases hy : 0 < y
      · have hyp : (0 : Int) < (y : Int) := by omega
        have HU := Hid_mk (st_add (Lib.toUpperA [hex.hexd r]) (Lib.toUpperA h))
        have HV := Hid_mk (st_cons (hex.hexd r) h)
        obtain ⟨P1, hP1⟩ : ∃ P1, st [hex.hexd r] = P1 := ⟨_, rfl⟩
        obtain ⟨P2, hP2⟩ : ∃ P2, st (Lib.toUpperA [hex.hexd r]) = P2 := ⟨_, rfl⟩
        obtain ⟨G1, hG1⟩ : ∃ G1, st h = G1 := ⟨_, rfl⟩
        obtain ⟨G2, hG2⟩ : ∃ G2, st (Lib.toUpperA h) = G2 := ⟨_, rfl⟩
        simp only [hP1, hP2] at q1 q2
        rw [hP1] at hp1 HV
        rw [hP2] at hp2 HU
        rw [hG1] at hh1 HV ⊢
        rw [hG2] at hh2 HU ⊢
        have hc1 : ¬ (9223372036854775807 < P1.size + G1.size) := by omega
        have hc2 : ¬ (9223372036854775807 < P2.size + G2.size) := by omega
        have HY := Hid_mk hy
        clear hc hst hr hz hr16 hx hyn hlen hP1 hP2 hG1 hG2
        have hy3 : ¬ y = 0 := by omega
        go_wp2
        rw [HV.out, HU.out]
        refine ⟨⟨z, hex.hexd r :: h, rfl, congrArg (fun q => Value.string (st q)) (up_cons _ _).symm, rfl, HSt.out, by have := HR.out; omega, trivial⟩, ?_⟩
        rw [empV_st _ (by simp)]
        have := HR.out; have := HY.out
        simp [intOf]
        omega
      · have hy1 : y = 0 := by omega
        have hh : h = [] := by
          rcases hc with e | e
          · exact e
          · exact absurd e hy
        subst hh
        subst hy1
        have hrz : r = 0 := by omega
        have hzz : z = 0 := by omega
        subst hrz hzz
        have e1 : st ([] : List UInt8) = ⟨#[]⟩ := rfl
        have e2 : st (Lib.toUpperA []) = ⟨#[]⟩ := rfl
        have e3 : st [hex.hexd 0] = ⟨#[48]⟩ := by decide +kernel
        have e4 : st (Lib.toUpperA [hex.hexd 0]) = ⟨#[48]⟩ := by decide +kernel
        simp only [e3, e4] at q1 q2
        rw [e1, e2]
        clear hc hst hr hz hr16 hx hyn hlen hy hp1 hp2 hh1 hh2 hr1 hr2 hz1 hz2 hri hr0 hy0 hyi
        go_wp2
        refine ⟨⟨0, [hex.hexd 0], by rw [e3]; rfl, by rw [e4]; rfl, rfl, HSt.out, Nat.zero_le _, trivial⟩, ?_⟩
        simp [intOf, empV, ByteArray.size]
    · have hyz : y = 0 := by omega
      have hne : h ≠ [] := fun e => hc (.inl e)
      have hfin := hx.done hyz hne
      have hem := emp_st h hne
      subst hyz
      subst hfin
      have hup : Lib.toUpperA (hex.hexs n) = upS n := rfl
      rw [hup, H5.out, H6.out]
      rw [H5.out] at hem
      clear hc hr hz hr16 hx hyn hlen hp1 hp2 hh1 hh2 hr1 hr2 hz1 hz2 hri hr0 hy0 hyi q1 q2 hne hup
      go_wp2_with fail
      go_loopw [7, 9] (fun t7 t9 wr' => ∃ (y : Nat) (h : List UInt8), t7 = .string (st h) ∧ t9 = .int .u32 (y : Int) ∧ OcI n y h ∧ y ≤ n ∧ wr' = wr) (fun t7 t9 _ => 2 * (intOf t9).toNat + empV t7)
      case atStart => exact ⟨n, [], rfl, rfl, OcI.start n, Nat.le_refl _, rfl⟩
      case round =>
        obtain ⟨y, h, rfl, rfl, hx, hyn, rfl⟩ := hrel
        have hlen := hx.len HNn.out
        have hy0 : (0 : Int) ≤ (y : Int) := Int.natCast_nonneg _
        have hyi : (y : Int) < 4294967296 := by have := HNn.out; omega
        obtain ⟨r, hr⟩ : ∃ r, y % 8 = r := ⟨_, rfl⟩
        obtain ⟨z, hz⟩ : ∃ z, y / 8 = z := ⟨_, rfl⟩
        have hr8 : r < 8 := by omega
        have hr1 : (y : Int) % 8 = (r : Int) := by omega
        have hr2 : (y : Int).tmod 8 = (r : Int) := by rw [Int.tmod_eq_emod_of_nonneg hy0]; exact hr1
        have hz1 : (y : Int) / 8 = (z : Int) := by omega
        have hz2 : (y : Int).tdiv 8 = (z : Int) := by rw [Int.tdiv_eq_ediv_of_nonneg hy0]; exact hz1
        have hri : (r : Int) < 8 := by omega
        have hr0 : (0 : Int) ≤ (r : Int) := Int.natCast_nonneg _
        have q1 := fun W => piece8 r hr8 W
        have hp1 : (st [oct.octd r]).size = 1 := by rw [st_size]; rfl
        have hh1 : (st h).size ≤ 11 := by rw [st_size]; exact hlen
        by_cases hc : h = [] ∨ 0 < y
        · have hst := hx.step hc
          rw [hr, hz] at hst
          have HSt := Hid_mk hst
          have HR := Hid_mk (And.intro hr (And.intro hz hyn))
          by_cases hy : 0 < y
          · have hyp : (0 : Int) < (y : Int) := by omega
            have HV := Hid_mk (st_cons (oct.octd r) h)
            obtain ⟨P1, hP1⟩ : ∃ P1, st [oct.octd r] = P1 := ⟨_, rfl⟩
            obtain ⟨G1, hG1⟩ : ∃ G1, st h = G1 := ⟨_, rfl⟩
            simp only [hP1] at q1
            rw [hP1] at hp1 HV
            rw [hG1] at hh1 HV ⊢
            have hc1 : ¬ (9223372036854775807 < P1.size + G1.size) := by omega
            have HY := Hid_mk hy
            clear hc hst hr hz hr8 hx hyn hlen hP1 hG1
            have hy3 : ¬ y = 0 := by omega
            go_wp2
            rw [HV.out]
            refine ⟨⟨z, oct.octd r :: h, rfl, rfl, HSt.out, by have := HR.out; omega, trivial⟩, ?_⟩
            rw [empV_st _ (by simp)]
            have := HR.out; have := HY.out
            simp [intOf]
            omega
          · have hy1 : y = 0 := by omega
            have hh : h = [] := by
              rcases hc with e | e
              · exact e
              · exact absurd e hy
            subst hh
            subst hy1
            have hrz : r = 0 := by omega
            have hzz : z = 0 := by omega
            subst hrz hzz
            have e1 : st ([] : List UInt8) = ⟨#[]⟩ := rfl
            have e3 : st [oct.octd 0] = ⟨#[48]⟩ := by decide +kernel
            simp only [e3] at q1
            rw [e1]
            clear hc hst hr hz hr8 hx hyn hlen hy hp1 hh1 hr1 hr2 hz1 hz2 hri hr0 hy0 hyi
            go_wp2
            refine ⟨⟨0, [oct.octd 0], by rw [e3]; rfl, rfl, HSt.out, Nat.zero_le _, trivial⟩, ?_⟩
            simp [intOf, empV, ByteArray.size]
        · have hyz : y = 0 := by omega
          have hne : h ≠ [] := fun e => hc (.inl e)
          have hfin := hx.done hyz hne
          have hem := emp_st h hne
          subst hyz
          subst hfin
          rw [H7.out]
          rw [H7.out] at hem
          have HKn := Hid_mk (known12_any wr (HL.out.no HK.out))
          have hsz := HSz.out
          have hd1 : ¬ (9223372036854775807 < A5.size + 1) := by omega
          have hd2 : ¬ (9223372036854775807 < A5.size + 1 + A7.size) := by omega
          have hd3 : ¬ (9223372036854775807 < A5.size + 1 + A7.size + 1) := by omega
          have hd4 : ¬ (9223372036854775807 < A5.size + 1 + A7.size + 1 + A6.size) := by omega
          clear hc hr hz hr8 hx hyn hlen hp1 hh1 hr1 hr2 hz1 hz2 hri hr0 hy0 hyi q1 hne
          go_wp2_with fail
          with_reducible refine HKn.out.mono ?_
          rintro e w9 ⟨rfl, hk9⟩
          have HK9 := Hid_mk (HK.out.trans' hk9)
          clear hk9
          go_wp2
          rw [HAA.out]
          go_wp2
          go_ret
          exact ⟨by simp, HK9.out⟩

end Go.Proofs.YtgejeocojmpdjacGreatDoor.pf
