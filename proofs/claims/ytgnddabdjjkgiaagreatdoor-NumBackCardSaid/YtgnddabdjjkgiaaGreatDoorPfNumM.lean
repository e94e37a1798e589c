/- num.Digits: what stands ahead of strconv. Small whole numbers as floats: what printf asks of them. num.Digits, num.Whole of any number. internal/strconv.ftoa64 of 0 at 'f', no digits behind the point. A number's hexadecimal digits, as strconv writes them: plain lists, and formatBits at 16. Cuts of a slice of bytes. strconv's formatBits at base 16. A number's octal digits, as strconv writes them: plain lists, and formatBits at 8. strconv's formatBits at base 8. Texts of known bytes: their length, an index, a piece, a test, as the walk asks for them. -/
import Derived.Test.YtgnddabdjjkgiaaGreatDoorFtoaM
import Derived.Laws.Externs
import Derived.KernelRfl
import Derived.Test.YtgnddabdjjkgiaaGreatDoorRow0M
import Derived.Laws.BitsAllLaws
import Derived.OwnWalk
import Derived.RegionTactic
import Derived.IntWalk
import Derived.Laws.DeepStrings4

namespace Go.Proofs.YtgnddabdjjkgiaaGreatDoor.pf
open Go.RowKit Go.Proofs.YtgnddabdjjkgiaaGreatDoor.sum Go.Proofs.YtgnddabdjjkgiaaGreatDoor.kept Go.Proofs.YtgnddabdjjkgiaaGreatDoor.app Go.Proofs.YtgnddabdjjkgiaaGreatDoor.writer Go.Proofs.YtgnddabdjjkgiaaGreatDoor.known Go.Proofs.YtgnddabdjjkgiaaGreatDoor.fmtf
set_option linter.unusedVariables false

/-- how two words stand -/
abbrev ord (a b : Nat) : Option Ordering := FloatKind.f64.format.order a b
theorem ord_def (a b : Nat) : FloatKind.f64.format.order a b = ord a b := rfl
/-- the whole part, towards 0 -/
def truncB (b : Nat) : Nat := FloatKind.f64.encode ((FloatKind.f64.decode b).integral .zero)
/-- is no number -/
def nanB (b : Nat) : Bool := match FloatKind.f64.decode b with | .nan _ _ => true | _ => false
/-- -0 is 0 -/
def plainB (b : Nat) : Nat := if (FloatKind.f64.format.order b 0 == some .eq) = true then 0 else b
/-- 0: finite; else what Digits tells of it -/
def kindB (b : Nat) : Nat := if (FloatKind.f64.format.order b b != some .eq) = true then 1 else if (FloatKind.f64.format.order b 9218868437227405311 == some .gt) = true then 2 else if (FloatKind.f64.format.order b 18442240474082181119 == some .lt) = true then 3 else 0

theorem trunc_entry (args : Array Value) (w : World) : (callFunc 45 args).run Tryz.prog w = ((Extern.MathFloor.toIntegral "math.archTrunc" .zero args).run Tryz.prog w).andThen fun v w' => .ok (.value v) w' :=
  run_callFunc_extern Tryz.func45 (by kernel_rfl) (by kernel_rfl) (by kernel_rfl) (by kernel_rfl) args w
theorem run_trunc (b : Nat) (hb : nanB b = false) (w : World) : (callFunc 45 #[.float .f64 b]).run Tryz.prog w = .ok (.value (.float .f64 (truncB b))) w := by
  rw [trunc_entry]
  unfold nanB at hb
  unfold truncB
  change ((match FloatKind.f64.decode b with
    | .nan s t =>
      if FloatKind.f64.format.quiet t = t then pure (.float .f64 b) else do
      let kept ← choose (.extern "math.Floor,Ceil,Trunc,RoundToEven.signallingNaN kept" 2)
      pure (.float .f64 (if kept == 1 then b else FloatKind.f64.encode (.nan s (FloatKind.f64.format.quiet t))))
    | d => pure (.float .f64 (FloatKind.f64.encode (d.integral .zero))) : Sem Value).run Tryz.prog w).andThen _ = _
  cases hd : FloatKind.f64.decode b <;> rw [hd] at hb <;> first | (simp at hb; done) | rfl

def RF (w : World) (b : Nat) (e : Ending) (w' : World) : Prop := e = .returned (.float .f64 b) ∧ w = w'

set_option maxRecDepth 100000 in
theorem trunc_any (w : World) (b : Nat) (hb : nanB b = false) : Calls Tryz.prog 29 #[.float .f64 b] w (RF w (truncB b)) := by
  have q1 := fun w => run_trunc b hb w
  obtain ⟨t, ht⟩ : ∃ t, truncB b = t := ⟨_, rfl⟩
  simp only [ht] at q1 ⊢
  go_enter Tryz.func29, Tryz.ntmps29
  go_wp2
  go_ret
  exact ⟨rfl, rfl⟩

set_option maxRecDepth 100000 in
theorem plain_any (w : World) (b : Nat) : Calls Tryz.prog 25 #[.float .f64 b] w (RF w (plainB b)) := by
  unfold plainB
  by_cases h : (FloatKind.f64.format.order b 0 == some .eq) = true
  · rw [if_pos h]
    go_enter Tryz.func25, Tryz.ntmps25
    go_wp2
    go_ret
    exact ⟨rfl, rfl⟩
  · rw [if_neg h]
    have h : (FloatKind.f64.format.order b 0 == some .eq) = false := by simpa using h
    go_enter Tryz.func25, Tryz.ntmps25
    go_wp2
    go_ret
    exact ⟨rfl, rfl⟩

set_option maxRecDepth 100000 in
set_option maxHeartbeats 4000000 in
theorem digits_fin (w : World) (b : Nat) (S : List UInt8) (hk : kindB b = 0) (hn : nanB b = false)
    (hc : Calls Tryz.prog 28 #[.float .f64 (plainB (truncB b)), .int .u8 102, .int .i64 0, .int .i64 64] w (TxPost w S)) :
    Calls Tryz.prog 12 #[.float .f64 b] w (TxPost w S) := by
  have HC := Hid_mk hc
  have HT := Hid_mk (trunc_any w b hn)
  have HP := Hid_mk (plain_any w (truncB b))
  unfold kindB at hk
  obtain ⟨t, ht⟩ : ∃ t, truncB b = t := ⟨_, rfl⟩
  rw [ht] at HC HT HP
  obtain ⟨p, hp⟩ : ∃ p, plainB t = p := ⟨_, rfl⟩
  rw [hp] at HC HP
  have h1 : (FloatKind.f64.format.order b b != some .eq) = false := by
    revert hk; split
    · intro h; cases h
    · rename_i h; intro _; simpa using h
  rw [if_neg (by simp [h1])] at hk
  have h2 : (FloatKind.f64.format.order b 9218868437227405311 == some .gt) = false := by
    revert hk; split
    · intro h; cases h
    · rename_i h; intro _; simpa using h
  rw [if_neg (by simp [h2])] at hk
  have h3 : (FloatKind.f64.format.order b 18442240474082181119 == some .lt) = false := by
    revert hk; split
    · intro h; cases h
    · rename_i h; intro _; simpa using h
  clear hc hk hn ht hp
  go_enter Tryz.func12, Tryz.ntmps12
  go_wp2_with fail
  with_reducible refine HT.out.mono ?_
  rintro e w1 ⟨rfl, rfl⟩
  go_wp2_with fail
  with_reducible refine HP.out.mono ?_
  rintro e w1 ⟨rfl, rfl⟩
  go_wp2_with fail
  with_reducible refine HC.out.mono ?_
  rintro e w2 ⟨rfl, hk⟩
  have HK := Hid_mk hk
  clear hk
  go_wp2
  go_ret
  exact ⟨rfl, HK.out⟩

end Go.Proofs.YtgnddabdjjkgiaaGreatDoor.pf

namespace Go.Proofs.YtgnddabdjjkgiaaGreatDoor.pf
open Go.RowKit Go.Proofs.YtgnddabdjjkgiaaGreatDoor.fl Go.Proofs.YtgnddabdjjkgiaaGreatDoor.fmtf
set_option linter.unusedVariables false

theorem kind_fl (z : Int) (h : Small z) : kindB (fl z) = 0 := by
  have h1 : (FloatKind.f64.format.order (fl z) (fl z) != some .eq) = false := by
    have := fl_eql z z h h
    simp only [decide_true] at this
    simpa [bne] using this
  have h2 : (FloatKind.f64.format.order (fl z) 9218868437227405311 == some .gt) = false := by
    have := (order_big z h _ _ _ _ read_max big_max).1
    rw [show FloatKind.f64.format.order (fl z) 9218868437227405311 = _ from this]; rfl
  have h3 : (FloatKind.f64.format.order (fl z) 18442240474082181119 == some .lt) = false := by
    have := (order_big z h _ _ _ _ read_min big_max).1
    rw [show FloatKind.f64.format.order (fl z) 18442240474082181119 = _ from this]; rfl
  unfold kindB
  rw [h1, h2, h3]
  rfl
theorem read_f64 (z : Int) (h : Small z) : ∃ q : Nat, FloatKind.f64.decode (fl z) = .number (decide (z < 0)) (z.natAbs * 2 ^ q) (-(q : Int)) := by
  obtain ⟨q, _, hq⟩ := read_fl z h
  exact ⟨q, hq⟩
theorem nan_fl (z : Int) (h : Small z) : nanB (fl z) = false := by
  obtain ⟨q, hq⟩ := read_f64 z h
  unfold nanB
  rw [hq]
theorem trunc_fl (z : Int) (h : Small z) : truncB (fl z) = fl z := by
  obtain ⟨q, hq⟩ := read_f64 z h
  unfold truncB
  rw [hq]
  simp only [Ieee.Datum.integral]
  have e1 : (-(q : Int)).toNat = 0 := by omega
  have e2 : (-(-(q : Int))).toNat = q := by omega
  rw [e1, e2, Nat.shiftLeft_zero]
  have hc : Ieee.Toward.zero.cut (decide (z < 0)) (z.natAbs * 2 ^ q) q = z.natAbs := by
    by_cases hz : z.natAbs = 0
    · rw [hz, Nat.zero_mul]
      unfold Ieee.Toward.cut
      simp [Nat.shiftLeft_eq]
    · apply cut_exact
      rw [log2_mul_pow _ _ (by omega)]
      omega
  rw [hc]
  rfl
theorem plain_fl (z : Int) (h : Small z) : plainB (fl z) = fl z := by
  have h0 := fl_eql z 0 h (by unfold Small; decide)
  rw [show fl 0 = 0 by decide +kernel] at h0
  unfold plainB
  rw [h0]
  by_cases hz : z = 0
  · subst hz; decide +kernel
  · rw [if_neg (by simpa using hz)]
/-- the word of a whole number above 0 -/
theorem word_fl (n : Nat) (h0 : 0 < n) (h : n < 2 ^ 53) : fl (n : Int) = (n.log2 + 1022) * 2 ^ 52 + n * 2 ^ (52 - n.log2) := by
  have hl := small_log h0 h
  have hn := nearest_exact false n 0 0 h0 hl (by omega) (by omega)
  rw [Nat.pow_zero, Nat.mul_one] at hn
  rw [fl_eq, show decide ((n : Int) < 0) = false by simp]
  have e : (0 : Int) - ((0 : Nat) : Int) = 0 := rfl
  rw [e] at hn
  rw [show ((n : Int)).natAbs = n by omega, hn]
  have e2 : (0 + (n.log2 : Int) + 1022).toNat = n.log2 + 1022 := by omega
  rw [e2]
  unfold Ieee.Format.word
  have hb := norm_bounds n h0 hl
  have hi : Ieee.double.infRung = 9218868437227405312 := by decide
  have p52 : (2 : Nat) ^ 52 = 4503599627370496 := by decide
  have p53 : (2 : Nat) ^ 53 = 9007199254740992 := by decide
  obtain ⟨hb1, hb2⟩ := hb
  rw [p52] at hb1
  rw [p53] at hb2
  generalize hX : n * 2 ^ (52 - n.log2) = X at *
  simp only [Bool.false_eq_true, if_false, hi, p52]
  all_goals (try rw [Nat.min_eq_left (by omega)])
  all_goals first | rfl | omega | simp
/-- all that FormatFloat wants of it -/
theorem ff_fl (n : Nat) (h0 : 0 < n) (h : n < 2 ^ 53) : fl (n : Int) < 9223372036854775808 ∧ fl (n : Int) / 4503599627370496 % 2048 ≠ 2047 ∧ mtN (fl (n : Int)) ≠ 0 ∧ exI (fl (n : Int)) = (n.log2 : Int) := by
  have hl := small_log h0 h
  have hb := norm_bounds n h0 hl
  have hw := word_fl n h0 h
  have p52 : (2 : Nat) ^ 52 = 4503599627370496 := by decide
  have p53 : (2 : Nat) ^ 53 = 9007199254740992 := by decide
  rw [p52, p53] at hb
  rw [p52] at hw
  generalize n * 2 ^ (52 - n.log2) = X at *
  generalize n.log2 = L at *
  have hd : fl (n : Int) / 4503599627370496 = L + 1023 := by omega
  have hm : (L + 1023) % 2048 = L + 1023 := by omega
  refine ⟨by omega, by rw [hd]; omega, ?_, ?_⟩
  · unfold mtN
    rw [hd, hm, if_neg (by omega)]
    omega
  · unfold exI
    rw [hd, hm, if_neg (by omega)]
    omega
theorem dg_fl (n : Nat) (h0 : 0 < n) (h : n < 2 ^ 53) : dgI (fl (n : Int)) 0 ≤ 18 := by
  have hl := small_log h0 h
  have he := (ff_fl n h0 h).2.2.2
  unfold dgI
  rw [he, if_pos (by omega)]
  unfold lg10
  omega

end Go.Proofs.YtgnddabdjjkgiaaGreatDoor.pf

namespace Go.Proofs.YtgnddabdjjkgiaaGreatDoor.pf
open Go.RowKit Go.Proofs.YtgnddabdjjkgiaaGreatDoor.sum Go.Proofs.YtgnddabdjjkgiaaGreatDoor.kept Go.Proofs.YtgnddabdjjkgiaaGreatDoor.app Go.Proofs.YtgnddabdjjkgiaaGreatDoor.writer Go.Proofs.YtgnddabdjjkgiaaGreatDoor.known Go.Proofs.YtgnddabdjjkgiaaGreatDoor.fmtf
set_option linter.unusedVariables false

/-- what Digits tells of what is not finite -/
def oddS (k : Nat) : List UInt8 := if k = 1 then [110, 97, 110] else if k = 2 then [105, 110, 102] else [45, 105, 110, 102]
set_option maxRecDepth 100000 in
set_option maxHeartbeats 4000000 in
theorem digits_odd (w : World) (b : Nat) (hk : kindB b ≠ 0) : Calls Tryz.prog 12 #[.float .f64 b] w (TxPost w (oddS (kindB b))) := by
  unfold kindB at hk ⊢
  by_cases h1 : (FloatKind.f64.format.order b b != some .eq) = true
  · rw [if_pos h1]
    clear hk
    go_enter Tryz.func12, Tryz.ntmps12
    go_wp2
    go_ret
    exact ⟨rfl, Kp.refl _ _⟩
  · have h1f : (FloatKind.f64.format.order b b != some .eq) = false := by simpa using h1
    rw [if_neg h1] at hk ⊢
    by_cases h2 : (FloatKind.f64.format.order b 9218868437227405311 == some .gt) = true
    · rw [if_pos h2]
      clear hk h1
      go_enter Tryz.func12, Tryz.ntmps12
      go_wp2
      go_ret
      exact ⟨rfl, Kp.refl _ _⟩
    · have h2f : (FloatKind.f64.format.order b 9218868437227405311 == some .gt) = false := by simpa using h2
      rw [if_neg h2] at hk ⊢
      by_cases h3 : (FloatKind.f64.format.order b 18442240474082181119 == some .lt) = true
      · rw [if_pos h3]
        clear hk h1 h2
        go_enter Tryz.func12, Tryz.ntmps12
        go_wp2
        go_ret
        exact ⟨rfl, Kp.refl _ _⟩
      · rw [if_neg h3] at hk
        exact absurd rfl hk
/-- is it whole, and below 10^16? -/
def wholeB (b : Nat) : Bool := (FloatKind.f64.format.order 14069741636278059008 b == some .lt) && ((FloatKind.f64.format.order b 4846369599423283200 == some .lt) && (FloatKind.f64.format.order b (truncB b) == some .eq))
theorem nan_lt (a b : Nat) (h : nanB b = true) : (FloatKind.f64.format.order a b == some .lt) = false := by
  unfold nanB at h
  have hr : ∃ s t, FloatKind.f64.format.read b = .nan s t := by
    unfold FloatKind.decode at h
    split at h
    · rename_i s t e; exact ⟨s, t, e⟩
    · cases h
  obtain ⟨s, t, e⟩ := hr
  unfold Ieee.Format.order
  rw [e]
  cases FloatKind.f64.format.read a <;> rfl
set_option maxRecDepth 100000 in
set_option maxHeartbeats 4000000 in
theorem whole_dg (w : World) (b : Nat) : Calls Tryz.prog 13 #[.float .f64 b] w (RV w (.bool (wholeB b))) := by
  unfold wholeB
  by_cases h1 : (FloatKind.f64.format.order 14069741636278059008 b == some .lt) = true
  · have hn : nanB b = false := by
      rcases h : nanB b with _ | _
      · rfl
      · rw [nan_lt _ _ h] at h1; cases h1
    by_cases h2 : (FloatKind.f64.format.order b 4846369599423283200 == some .lt) = true
    · have HT := Hid_mk (trunc_any w b hn)
      obtain ⟨t, ht⟩ : ∃ t, truncB b = t := ⟨_, rfl⟩
      rw [ht] at HT
      rw [ht]
      obtain ⟨r, hr⟩ : ∃ r, (FloatKind.f64.format.order b t == some .eq) = r := ⟨_, rfl⟩
      rw [h1, h2, hr]
      clear hn ht
      go_enter Tryz.func13, Tryz.ntmps13
      go_wp2_with fail
      with_reducible refine HT.out.mono ?_
      rintro e w1 ⟨rfl, rfl⟩
      go_wp2
      go_ret
      exact ⟨by simp [hr], rfl⟩
    · have h2f : (FloatKind.f64.format.order b 4846369599423283200 == some .lt) = false := by simpa using h2
      rw [h2f, h1]
      clear hn h2
      go_enter Tryz.func13, Tryz.ntmps13
      go_wp2
      go_ret
      exact ⟨rfl, rfl⟩
  · have h1f : (FloatKind.f64.format.order 14069741636278059008 b == some .lt) = false := by simpa using h1
    rw [h1f]
    clear h1
    go_enter Tryz.func13, Tryz.ntmps13
    go_wp2
    go_ret
    exact ⟨rfl, rfl⟩

end Go.Proofs.YtgnddabdjjkgiaaGreatDoor.pf

namespace Go.Proofs.YtgnddabdjjkgiaaGreatDoor.fmtf
open Go.RowKit Go.Proofs.YtgnddabdjjkgiaaGreatDoor.sum Go.Proofs.YtgnddabdjjkgiaaGreatDoor.kept Go.Proofs.YtgnddabdjjkgiaaGreatDoor.app Go.Proofs.YtgnddabdjjkgiaaGreatDoor.writer Go.Proofs.YtgnddabdjjkgiaaGreatDoor.known
set_option linter.unusedVariables false
attribute [local go_sem] run_fbits

set_option maxRecDepth 100000 in
set_option maxHeartbeats 4000000 in
theorem efg_zero (base : Nat) (w : World) (v0 : Value) (hd : Dst base w v0 w v0 []) :
    Calls Tryz.prog 74 #[v0, .bool false, .slice none 0 0, .int .i64 0, .int .i64 0, .int .i64 0, .int .u8 102, .bool false] w (EfPost base w v0 [48]) := by
  have HD := Hid_mk hd
  clear hd
  go_enter Tryz.func74, Tryz.ntmps74
  go_wp2_with (at_builtin; (refine wpList_append_bs _ rfl _ _ rfl base _ [] rfl (HD.out.owns.alloc _) _ [48] rfl (bs_one _ 48) ?c1 ?c2 ?_))
  case c1 => simp
  case c2 => have h8 := HD.out.room; simp; omega
  intro v1 w1 happ
  have HD1 := Hid_mk (HD.out.push happ)
  clear happ
  go_wp2
  go_ret
  exact ⟨v1, rfl, HD1.out⟩

set_option maxRecDepth 100000 in
set_option maxHeartbeats 4000000 in
theorem ftoa_zero (base : Nat) (w : World) (v0 : Value) (hd : Dst base w v0 w v0 []) :
    Calls Tryz.prog 59 #[v0, .float .f64 0, .int .u8 102, .int .i64 0] w (EfPost base w v0 [48]) := by
  have HE := Hid_mk fun W (hk : Kp No w W) => efg_zero base W v0 (hd.at hk)
  have HD := Hid_mk hd
  have q1 : bits .and .i64 0 2047 = 0 := by decide +kernel
  have q2 : bits .and .u64 0 4503599627370495 = 0 := by decide +kernel
  clear hd
  go_enter Tryz.func59, Tryz.ntmps59
  go_wp2_with fail
  go_quiet (fail)
  go_wp2_with fail
  with_reducible refine (HE.out _ ((Kp.refl No w).drewN nq)).mono ?_
  rintro e w2 ⟨v2, rfl, hd2⟩
  have HD2 := Hid_mk (hd2.back ((Kp.refl No w).drewN nq) HD.out.room)
  clear hd2
  go_wp2
  go_ret
  exact ⟨v2, rfl, HD2.out⟩

/-- FormatFloat of 0 -/
theorem ff_zero (W : World) : Calls Tryz.prog 28 #[.float .f64 0, .int .u8 102, .int .i64 0, .int .i64 64] W (TxPost W [48]) :=
  ff_any W 0 102 0 [48] (iff_any W 0 102 0 [48] (by omega) (by omega) fun W' v0 hk hd hv => ftoa_zero W.heap.size W' v0 hd)

end Go.Proofs.YtgnddabdjjkgiaaGreatDoor.fmtf

namespace Go.Proofs.YtgnddabdjjkgiaaGreatDoor.hex
open Go.RowKit Go.Proofs.YtgnddabdjjkgiaaGreatDoor.sum Go.Proofs.YtgnddabdjjkgiaaGreatDoor.kept Go.Proofs.YtgnddabdjjkgiaaGreatDoor.app Go.Proofs.YtgnddabdjjkgiaaGreatDoor.writer Go.Proofs.YtgnddabdjjkgiaaGreatDoor.known
set_option linter.unusedVariables false

def hexd (d : Nat) : UInt8 := if d < 10 then (48 + d).toUInt8 else (87 + d).toUInt8
def hexs (n : Nat) : List UInt8 := if h : n < 16 then [hexd n] else hexs (n / 16) ++ [hexd (n % 16)]
termination_by n
decreasing_by omega

theorem hexs_small {n : Nat} (h : n < 16) : hexs n = [hexd n] := by rw [hexs]; simp [h]
theorem hexs_big {n : Nat} (h : ¬ n < 16) : hexs n = hexs (n / 16) ++ [hexd (n % 16)] := by rw [hexs]; simp [h]
theorem hexs_len (n k : Nat) (hk : n < 16 ^ k) (h1 : 0 < k) : (hexs n).length ≤ k := by
  induction k generalizing n with
  | zero => omega
  | succ k ih =>
    by_cases h : n < 16
    · rw [hexs_small h]; simp
    · rw [hexs_big h, List.length_append]
      have hk0 : 0 < k := by
        rcases Nat.eq_zero_or_pos k with rfl | h2
        · simp at hk; omega
        · exact h2
      have := ih (n / 16) (by rw [Nat.pow_succ] at hk; omega) hk0
      simp; omega
theorem hexs_pos (n : Nat) : 0 < (hexs n).length := by
  by_cases h : n < 16
  · rw [hexs_small h]; simp
  · rw [hexs_big h]; simp

def digits : ByteArray := ⟨#[48, 49, 50, 51, 52, 53, 54, 55, 56, 57, 97, 98, 99, 100, 101, 102, 103, 104, 105, 106, 107, 108, 109, 110, 111, 112, 113, 114, 115, 116, 117, 118, 119, 120, 121, 122]⟩
theorem digits_at : ∀ k : Fin 16, digits[k.val]? = some (hexd k.val) := by decide +kernel
theorem run_digit (d : Nat) (hd : d < 16) (k : IntKind) (w : World) : (Instr.index 9 (.string digits) (.int k (d : Int))).run Tryz.prog w = .ok (B (hexd d)) w := by
  have hs : digits.size = 36 := by decide
  rw [run_index_string w 9 digits k _ Tryz.underlying9, dif_pos ⟨by omega, by rw [hs]; omega⟩]
  have h := digits_at ⟨d, hd⟩
  simp only at h
  have e : ((d : Int)).toNat = d := by omega
  have h2 : digits[d]'(by rw [hs]; omega) = hexd d := by
    rw [ByteArray.getElem?_lt' digits d (by rw [hs]; omega)] at h
    exact Option.some.inj h
  simp only [e, h2]
  rfl

theorem and15 (m : Nat) (hm : m < 18446744073709551616) : bits .and .u64 (m : Int) 15 = ((m % 16 : Nat) : Int) := by
  have := u64_and_nat m 15 hm (by omega)
  rw [show ((15 : Nat) : Int) = 15 from rfl] at this
  rw [this, show 15 = 2 ^ 4 - 1 by rfl, Nat.and_two_pow_sub_one_eq_mod]

end Go.Proofs.YtgnddabdjjkgiaaGreatDoor.hex

namespace Go.Proofs.YtgnddabdjjkgiaaGreatDoor.unseal
open Go.RowKit Go.Proofs.YtgnddabdjjkgiaaGreatDoor.sum Go.Proofs.YtgnddabdjjkgiaaGreatDoor.kept Go.Proofs.YtgnddabdjjkgiaaGreatDoor.app Go.Proofs.YtgnddabdjjkgiaaGreatDoor.writer Go.Proofs.YtgnddabdjjkgiaaGreatDoor.clone Go.Proofs.YtgnddabdjjkgiaaGreatDoor.known
set_option linter.unusedVariables false

/-- behind a draw everything reads as before -/
theorem bs_drewN {w : World} {v : Value} {bs : List UInt8} (n : Nat) (h : Bs w v bs) : Bs (w.drewN n) v bs := bs_no h ((Kp.refl _ _).drewN n)

/-- a cut of a slice of bytes -/
theorem bs_take {w : World} {b : Option Addr} {len cap : Nat} {bs : List UInt8} (h : Bs w (.slice b len cap) bs) (k : Nat) (hk : k ≤ len) : Bs w (.slice b k cap) (bs.take k) := by
  obtain ⟨a, c, e, h1, h2, h3⟩ := h
  simp only [Value.slice.injEq] at e
  obtain ⟨rfl, rfl, rfl⟩ := e
  refine ⟨b, cap, by rw [List.length_take, Nat.min_eq_left hk], by rw [List.length_take]; omega, h2, fun hne => ?_⟩
  obtain ⟨B, o, rfl, hc⟩ := h3 (by intro e; subst e; simp at hne)
  refine ⟨B, o, rfl, fun i hi => ?_⟩
  rw [List.length_take] at hi
  rw [hc i (by omega)]
  simp [List.getD, show i < k by omega]

theorem bs_drop {w : World} {b o len cap : Nat} {bs : List UInt8} (h : Bs w (.slice (some ⟨b, o, none⟩) len cap) bs) (k : Nat) (hk : k ≤ len) (ao : Option Addr) (hao : ¬ k = cap → ao = some ⟨b, o + k, none⟩) : Bs w (.slice ao (len - k) (cap - k)) (bs.drop k) := by
  obtain ⟨a, c, e, h1, h2, h3⟩ := h
  simp only [Value.slice.injEq] at e
  obtain ⟨rfl, rfl, rfl⟩ := e
  refine ⟨ao, _, by rw [List.length_drop], by rw [List.length_drop]; omega, by omega, fun hne => ?_⟩
  have hlt : k < bs.length := by
    rcases Nat.lt_or_ge k bs.length with h | h
    · exact h
    · rw [List.drop_of_length_le h] at hne; exact absurd rfl hne
  obtain ⟨B, o', e, hc⟩ := h3 (by intro e; subst e; simp at hlt)
  cases e
  refine ⟨_, _, hao (by omega), fun i hi => ?_⟩
  rw [List.length_drop] at hi
  rw [Nat.add_assoc, hc (k + i) (by omega)]
  simp [List.getD]

end Go.Proofs.YtgnddabdjjkgiaaGreatDoor.unseal

namespace Go.Proofs.YtgnddabdjjkgiaaGreatDoor.hex
open Go.RowKit Go.Proofs.YtgnddabdjjkgiaaGreatDoor.sum Go.Proofs.YtgnddabdjjkgiaaGreatDoor.kept Go.Proofs.YtgnddabdjjkgiaaGreatDoor.app Go.Proofs.YtgnddabdjjkgiaaGreatDoor.writer Go.Proofs.YtgnddabdjjkgiaaGreatDoor.known
set_option linter.unusedVariables false

/-- the one number of a table of package math/bits that is read -/
def Tz (w : World) : Prop := w.cell? ⟨13, 15, none⟩ = some (.int .u8 4)
theorem Tz.kept {S : Nat → Prop} {w w' : World} (h : Tz w) (hk : Kp S w w') (hs : ¬ S 13) : Tz w' := hk.cell' h hs
theorem Tz.no {w w' : World} (h : Tz w) (hk : Kp No w w') : Tz w' := h.kept hk id

set_option maxRecDepth 100000 in
set_option maxHeartbeats 1000000 in
theorem tz_any (w : World) (h : Tz w) : Calls Tryz.prog 135 #[.int .u64 16] w fun e w' => e = .returned (.int .i64 4) ∧ w = w' := by
  have q1 : bits BinOp.and IntKind.u64 16 (IntKind.u64.wrap (-16)) = 16 := by decide +kernel
  have q2 : IntKind.u64.wrap (16 * 285870213051353865) / 288230376151711744 = 15 := by decide +kernel
  unfold Tz at h
  go_enter Tryz.func135, Tryz.ntmps135
  go_wp2
  go_ret
  exact ⟨rfl, rfl⟩

/-- the loop: what is left, and the digits that lie at the array's end -/
def BitsRel (w : World) (g n : Nat) (u i : Value) (wr : World) : Prop :=
  ∃ (m j : Nat) (ds : List UInt8), u = .int .u64 (m : Int) ∧ i = .int .i64 (j : Int) ∧ j + ds.length = 65 ∧ m < 18446744073709551616 ∧ hexs m ++ ds = hexs n ∧
    (∀ o, o < 65 → ∃ v, wr.cell? ⟨g, o, none⟩ = some v) ∧ (∀ o, wr.frozen? ⟨g, o, none⟩ = false) ∧ (∀ k, k < ds.length → wr.cell? ⟨g, j + k, none⟩ = some (B (ds.getD k 0))) ∧ Kp No w wr

theorem BitsRel.start (w : World) (n : Nat) (hn : n < 18446744073709551616) : BitsRel w w.heap.size n (.int .u64 (n : Int)) (.int .i64 65) (w.alloc (Obj.cells Tryz.zeroCells156 156)) := by
  refine ⟨n, 65, [], rfl, rfl, rfl, hn, by simp, fun o ho => ?_, fun o => ?_, fun k hk => by simp at hk, (Kp.refl No w).alloc _⟩
  · rw [World.cell?_alloc_mark]
    have hz : Tryz.zeroCells156.size = 65 := by decide +kernel
    exact ⟨Tryz.zeroCells156[o], by simp [hz, ho]; rfl⟩
  · simp
theorem BitsRel.push {w wr : World} {g j : Nat} {ds : List UInt8} (d : UInt8) (hg : w.heap.size ≤ g) (hj : j + 1 + ds.length = 65)
    (h1 : ∀ o, o < 65 → ∃ v, wr.cell? ⟨g, o, none⟩ = some v) (h2 : ∀ o, wr.frozen? ⟨g, o, none⟩ = false) (h3 : ∀ k, k < ds.length → wr.cell? ⟨g, j + 1 + k, none⟩ = some (B (ds.getD k 0))) (h4 : Kp No w wr) :
    (∀ o, o < 65 → ∃ v, (wr.setCell ⟨g, j, none⟩ (B d)).cell? ⟨g, o, none⟩ = some v) ∧ (∀ o, (wr.setCell ⟨g, j, none⟩ (B d)).frozen? ⟨g, o, none⟩ = false) ∧
    (∀ k, k < (d :: ds).length → (wr.setCell ⟨g, j, none⟩ (B d)).cell? ⟨g, j + k, none⟩ = some (B ((d :: ds).getD k 0))) ∧ Kp No w (wr.setCell ⟨g, j, none⟩ (B d)) := by
  obtain ⟨v0, hv0⟩ := h1 j (by omega)
  refine ⟨fun o ho => ?_, fun o => by rw [World.frozen?_setCell]; exact h2 o, fun k hk => ?_, h4.setCell (fun hp => absurd hp (by simp; omega)) _⟩
  · by_cases e : o = j
    · subst e; exact ⟨_, World.cell?_setCell_same wr _ _ hv0⟩
    · obtain ⟨v, hv⟩ := h1 o ho
      exact ⟨v, (World.cell?_setCell_other wr _ _ _ (fun e' => e (by injection e' with _ e2 _; exact e2.symm))).trans hv⟩
  · cases k with
    | zero => exact World.cell?_setCell_same wr _ _ hv0
    | succ k =>
      have hk' : k < ds.length := by simpa using hk
      rw [World.cell?_setCell_other wr _ _ _ (fun e' => by injection e' with _ e2 _; omega), show j + (k + 1) = j + 1 + k by omega]
      exact h3 k hk'
theorem BitsRel.text {wr : World} {g j : Nat} {ds : List UInt8} (hj : j + ds.length = 65) (h3 : ∀ k, k < ds.length → wr.cell? ⟨g, j + k, none⟩ = some (B (ds.getD k 0))) :
    Bs wr (.slice (some ⟨g, j, none⟩) (65 - j) (65 - j)) ds := by
  have e : 65 - j = ds.length := by omega
  rw [e]
  exact ⟨_, _, rfl, Nat.le_refl _, by unfold maxLen; omega, fun _ => ⟨g, j, rfl, h3⟩⟩

theorem dig_at (s : ByteArray) (hs : s = digits) (d : Nat) (hd : d < 16) (h' : d < s.size) : Value.int .u8 ((s[d]'h').toNat : Int) = B (hexd d) := by
  subst hs
  have h := digits_at ⟨d, hd⟩
  simp only at h
  rw [ByteArray.getElem?_lt' digits d h'] at h
  have h2 : digits[d] = hexd d := Option.some.inj h
  rw [← h2]
  rfl
theorem run_from (g j : Nat) (hj : j < 65) (w : World) : (Instr.sliceAt 156 (.pointer (some ⟨g, 0, none⟩)) (some (.int .i64 (j : Int))) none none).run Tryz.prog w = .ok (.slice (some ⟨g, j, none⟩) (65 - j) (65 - j)) w := by
  have hu : Tryz.prog.underlying 156 = some (.array (Tryz.prog.arrayLen 156) (Tryz.prog.elem 156)) := by kernel_rfl
  have hl : Tryz.prog.arrayLen 156 = 65 := by kernel_rfl
  have hs : ∀ W, (sizeOf (Tryz.prog.elem 156)).run Tryz.prog W = .ok 1 W := fun W => by kernel_rfl
  rw [run_sliceAt_array_l w 156 ⟨g, 0, none⟩ hu .i64 (j : Int) (by omega) (by rw [hl]; omega), hs]
  show Result.ok (slicedAt _ _ _ _ _) w = _
  rw [hl]
  unfold slicedAt
  rw [if_neg (by omega), addr_add]
  simp

set_option maxRecDepth 100000 in
set_option maxHeartbeats 4000000 in
theorem bits_any (n : Nat) (hn : n < 18446744073709551616) (w : World) (ht : Tz w) :
    Calls Tryz.prog 130 #[.slice none 0 0, .int .u64 (n : Int), .int .i64 16, .bool false, .bool false] w fun e w' => e = .returned (.tuple #[.slice none 0 0, .string ⟨(hexs n).toArray⟩]) ∧ Kp No w w' := by
  have HN := Hid_mk (hexs_len n 16 (by omega) (by omega))
  have HT : Hid (Tz (w.alloc (Obj.cells Tryz.zeroCells156 156))) := Hid_mk (ht.no ((Kp.refl No w).alloc _))
  have HS := Hid_mk (BitsRel.start w n hn)
  clear hn ht
  go_enter Tryz.func130, Tryz.ntmps130
  have q1 : (bits BinOp.and IntKind.i64 16 15 == 0) = true := by decide +kernel
  go_wp2_with (first | (go_at_call 135; refine (tz_any _ HT.out).mono ?_; rintro e w' ⟨rfl, rfl⟩) | go_in)
  obtain ⟨g, hg⟩ : ∃ g, g = w.heap.size := ⟨_, rfl⟩
  have HG := Hid_mk hg
  rw [← hg] at HS ⊢
  clear hg q1 HT
  go_loopw [1, 13] (fun u i wr => BitsRel w g n u i wr) (fun u _ _ => (intOf u).toNat)
  case atStart => exact HS.out
  case round =>
    obtain ⟨m, j, ds, rfl, rfl, hj, hm, hh, h1, h2, h3, h4⟩ := hrel
    have hpos := hexs_pos m
    have hds : ds.length ≤ 15 := by
      have h := HN.out; rw [← hh, List.length_append] at h; omega
    obtain ⟨j, rfl⟩ : ∃ j', j = j' + 1 := ⟨j - 1, by omega⟩
    obtain ⟨v0, hv0⟩ := h1 j (by omega)
    have hf0 := h2 j
    have hjl : j < 65 := by omega
    have hr := fun d hd w => run_digit d hd .u64 w
    by_cases hlt : m < 16
    · have hrd := fun w => run_digit m hlt .u64 w
      have hp := BitsRel.push (w := w) (hexd m) (by rw [HG.out]; exact Nat.le_refl _) hj h1 h2 h3 h4
      have HP := Hid_mk hp
      have HX := Hid_mk (BitsRel.text (ds := hexd m :: ds) (by simp; omega) hp.2.2.1)
      have HH := Hid_mk hh
      have HJ := Hid_mk hj
      clear hp h1 h2 h3 h4 hh hr hj hm hpos hds
      have hlt' : ¬ (16 : Int) ≤ (m : Int) := by omega
      have hfr := run_from g j hjl
      go_wp2
      rw [dig_at _ (by rfl) m hlt, conv_bs HX.out]
      go_wp2
      go_ret2
      refine ⟨?_, HP.out.2.2.2⟩
      rw [← HH.out, hexs_small hlt]
      rfl
    · have hrd := fun w => run_digit (m % 16) (by omega) .u64 w
      have ha := and15 m hm
      have hp := BitsRel.push (w := w) (hexd (m % 16)) (by rw [HG.out]; exact Nat.le_refl _) hj h1 h2 h3 h4
      have HP := Hid_mk hp
      have HH := Hid_mk hh
      have HJ := Hid_mk hj
      have HM := Hid_mk hm
      clear hp h1 h2 h3 h4 hh hr hj hm hpos hds
      have hlt' : (16 : Int) ≤ (m : Int) := by omega
      go_wp2
      rw [dig_at _ (by rfl) (m % 16) (by omega)]
      exact ⟨⟨m / 16, j, hexd (m % 16) :: ds, by go_num, rfl, by have := HJ.out; simp; omega, by have := HM.out; omega, by rw [← HH.out, hexs_big hlt, List.append_assoc]; rfl, HP.out.1, HP.out.2.1, HP.out.2.2.1, HP.out.2.2.2⟩, by simp [intOf]; omega⟩

end Go.Proofs.YtgnddabdjjkgiaaGreatDoor.hex

namespace Go.Proofs.YtgnddabdjjkgiaaGreatDoor.oct
open Go.RowKit Go.Proofs.YtgnddabdjjkgiaaGreatDoor.sum Go.Proofs.YtgnddabdjjkgiaaGreatDoor.kept Go.Proofs.YtgnddabdjjkgiaaGreatDoor.app Go.Proofs.YtgnddabdjjkgiaaGreatDoor.writer Go.Proofs.YtgnddabdjjkgiaaGreatDoor.known
set_option linter.unusedVariables false

def octd (d : Nat) : UInt8 := if d < 10 then (48 + d).toUInt8 else (87 + d).toUInt8
def octs (n : Nat) : List UInt8 := if h : n < 8 then [octd n] else octs (n / 8) ++ [octd (n % 8)]
termination_by n
decreasing_by omega

theorem octs_small {n : Nat} (h : n < 8) : octs n = [octd n] := by rw [octs]; simp [h]
theorem octs_big {n : Nat} (h : ¬ n < 8) : octs n = octs (n / 8) ++ [octd (n % 8)] := by rw [octs]; simp [h]
theorem octs_len (n k : Nat) (hk : n < 8 ^ k) (h1 : 0 < k) : (octs n).length ≤ k := by
  induction k generalizing n with
  | zero => omega
  | succ k ih =>
    by_cases h : n < 8
    · rw [octs_small h]; simp
    · rw [octs_big h, List.length_append]
      have hk0 : 0 < k := by
        rcases Nat.eq_zero_or_pos k with rfl | h2
        · simp at hk; omega
        · exact h2
      have := ih (n / 8) (by rw [Nat.pow_succ] at hk; omega) hk0
      simp; omega
theorem octs_pos (n : Nat) : 0 < (octs n).length := by
  by_cases h : n < 8
  · rw [octs_small h]; simp
  · rw [octs_big h]; simp

def digits : ByteArray := ⟨#[48, 49, 50, 51, 52, 53, 54, 55, 56, 57, 97, 98, 99, 100, 101, 102, 103, 104, 105, 106, 107, 108, 109, 110, 111, 112, 113, 114, 115, 116, 117, 118, 119, 120, 121, 122]⟩
theorem digits_at : ∀ k : Fin 16, digits[k.val]? = some (octd k.val) := by decide +kernel
theorem run_digit (d : Nat) (hd : d < 16) (k : IntKind) (w : World) : (Instr.index 9 (.string digits) (.int k (d : Int))).run Tryz.prog w = .ok (B (octd d)) w := by
  have hs : digits.size = 36 := by decide
  rw [run_index_string w 9 digits k _ Tryz.underlying9, dif_pos ⟨by omega, by rw [hs]; omega⟩]
  have h := digits_at ⟨d, hd⟩
  simp only at h
  have e : ((d : Int)).toNat = d := by omega
  have h2 : digits[d]'(by rw [hs]; omega) = octd d := by
    rw [ByteArray.getElem?_lt' digits d (by rw [hs]; omega)] at h
    exact Option.some.inj h
  simp only [e, h2]
  rfl

theorem and7 (m : Nat) (hm : m < 18446744073709551616) : bits .and .u64 (m : Int) 7 = ((m % 8 : Nat) : Int) := by
  have := u64_and_nat m 7 hm (by omega)
  rw [show ((7 : Nat) : Int) = 7 from rfl] at this
  rw [this, show 7 = 2 ^ 3 - 1 by rfl, Nat.and_two_pow_sub_one_eq_mod]

end Go.Proofs.YtgnddabdjjkgiaaGreatDoor.oct

namespace Go.Proofs.YtgnddabdjjkgiaaGreatDoor.oct
open Go.RowKit Go.Proofs.YtgnddabdjjkgiaaGreatDoor.sum Go.Proofs.YtgnddabdjjkgiaaGreatDoor.kept Go.Proofs.YtgnddabdjjkgiaaGreatDoor.app Go.Proofs.YtgnddabdjjkgiaaGreatDoor.writer Go.Proofs.YtgnddabdjjkgiaaGreatDoor.known
set_option linter.unusedVariables false

/-- the one number of a table of package math/bits that is read -/
def Tz (w : World) : Prop := w.cell? ⟨13, 7, none⟩ = some (.int .u8 3)
theorem Tz.kept {S : Nat → Prop} {w w' : World} (h : Tz w) (hk : Kp S w w') (hs : ¬ S 13) : Tz w' := hk.cell' h hs
theorem Tz.no {w w' : World} (h : Tz w) (hk : Kp No w w') : Tz w' := h.kept hk id

set_option maxRecDepth 100000 in
set_option maxHeartbeats 1000000 in
theorem tz_any (w : World) (h : Tz w) : Calls Tryz.prog 135 #[.int .u64 8] w fun e w' => e = .returned (.int .i64 3) ∧ w = w' := by
  have q1 : bits BinOp.and IntKind.u64 8 (IntKind.u64.wrap (-8)) = 8 := by decide +kernel
  have q2 : IntKind.u64.wrap (8 * 285870213051353865) / 288230376151711744 = 7 := by decide +kernel
  unfold Tz at h
  go_enter Tryz.func135, Tryz.ntmps135
  go_wp2
  go_ret
  exact ⟨rfl, rfl⟩

/-- the loop: what is left, and the digits that lie at the array's end -/
def BitsRel (w : World) (g n : Nat) (u i : Value) (wr : World) : Prop :=
  ∃ (m j : Nat) (ds : List UInt8), u = .int .u64 (m : Int) ∧ i = .int .i64 (j : Int) ∧ j + ds.length = 65 ∧ m < 18446744073709551616 ∧ octs m ++ ds = octs n ∧
    (∀ o, o < 65 → ∃ v, wr.cell? ⟨g, o, none⟩ = some v) ∧ (∀ o, wr.frozen? ⟨g, o, none⟩ = false) ∧ (∀ k, k < ds.length → wr.cell? ⟨g, j + k, none⟩ = some (B (ds.getD k 0))) ∧ Kp No w wr

theorem BitsRel.start (w : World) (n : Nat) (hn : n < 18446744073709551616) : BitsRel w w.heap.size n (.int .u64 (n : Int)) (.int .i64 65) (w.alloc (Obj.cells Tryz.zeroCells156 156)) := by
  refine ⟨n, 65, [], rfl, rfl, rfl, hn, by simp, fun o ho => ?_, fun o => ?_, fun k hk => by simp at hk, (Kp.refl No w).alloc _⟩
  · rw [World.cell?_alloc_mark]
    have hz : Tryz.zeroCells156.size = 65 := by decide +kernel
    exact ⟨Tryz.zeroCells156[o], by simp [hz, ho]; rfl⟩
  · simp
theorem BitsRel.push {w wr : World} {g j : Nat} {ds : List UInt8} (d : UInt8) (hg : w.heap.size ≤ g) (hj : j + 1 + ds.length = 65)
    (h1 : ∀ o, o < 65 → ∃ v, wr.cell? ⟨g, o, none⟩ = some v) (h2 : ∀ o, wr.frozen? ⟨g, o, none⟩ = false) (h3 : ∀ k, k < ds.length → wr.cell? ⟨g, j + 1 + k, none⟩ = some (B (ds.getD k 0))) (h4 : Kp No w wr) :
    (∀ o, o < 65 → ∃ v, (wr.setCell ⟨g, j, none⟩ (B d)).cell? ⟨g, o, none⟩ = some v) ∧ (∀ o, (wr.setCell ⟨g, j, none⟩ (B d)).frozen? ⟨g, o, none⟩ = false) ∧
    (∀ k, k < (d :: ds).length → (wr.setCell ⟨g, j, none⟩ (B d)).cell? ⟨g, j + k, none⟩ = some (B ((d :: ds).getD k 0))) ∧ Kp No w (wr.setCell ⟨g, j, none⟩ (B d)) := by
  obtain ⟨v0, hv0⟩ := h1 j (by omega)
  refine ⟨fun o ho => ?_, fun o => by rw [World.frozen?_setCell]; exact h2 o, fun k hk => ?_, h4.setCell (fun hp => absurd hp (by simp; omega)) _⟩
  · by_cases e : o = j
    · subst e; exact ⟨_, World.cell?_setCell_same wr _ _ hv0⟩
    · obtain ⟨v, hv⟩ := h1 o ho
      exact ⟨v, (World.cell?_setCell_other wr _ _ _ (fun e' => e (by injection e' with _ e2 _; exact e2.symm))).trans hv⟩
  · cases k with
    | zero => exact World.cell?_setCell_same wr _ _ hv0
    | succ k =>
      have hk' : k < ds.length := by simpa using hk
      rw [World.cell?_setCell_other wr _ _ _ (fun e' => by injection e' with _ e2 _; omega), show j + (k + 1) = j + 1 + k by omega]
      exact h3 k hk'
theorem BitsRel.text {wr : World} {g j : Nat} {ds : List UInt8} (hj : j + ds.length = 65) (h3 : ∀ k, k < ds.length → wr.cell? ⟨g, j + k, none⟩ = some (B (ds.getD k 0))) :
    Bs wr (.slice (some ⟨g, j, none⟩) (65 - j) (65 - j)) ds := by
  have e : 65 - j = ds.length := by omega
  rw [e]
  exact ⟨_, _, rfl, Nat.le_refl _, by unfold maxLen; omega, fun _ => ⟨g, j, rfl, h3⟩⟩

theorem dig_at (s : ByteArray) (hs : s = digits) (d : Nat) (hd : d < 16) (h' : d < s.size) : Value.int .u8 ((s[d]'h').toNat : Int) = B (octd d) := by
  subst hs
  have h := digits_at ⟨d, hd⟩
  simp only at h
  rw [ByteArray.getElem?_lt' digits d h'] at h
  have h2 : digits[d] = octd d := Option.some.inj h
  rw [← h2]
  rfl
theorem run_from (g j : Nat) (hj : j < 65) (w : World) : (Instr.sliceAt 156 (.pointer (some ⟨g, 0, none⟩)) (some (.int .i64 (j : Int))) none none).run Tryz.prog w = .ok (.slice (some ⟨g, j, none⟩) (65 - j) (65 - j)) w := by
  have hu : Tryz.prog.underlying 156 = some (.array (Tryz.prog.arrayLen 156) (Tryz.prog.elem 156)) := by kernel_rfl
  have hl : Tryz.prog.arrayLen 156 = 65 := by kernel_rfl
  have hs : ∀ W, (sizeOf (Tryz.prog.elem 156)).run Tryz.prog W = .ok 1 W := fun W => by kernel_rfl
  rw [run_sliceAt_array_l w 156 ⟨g, 0, none⟩ hu .i64 (j : Int) (by omega) (by rw [hl]; omega), hs]
  show Result.ok (slicedAt _ _ _ _ _) w = _
  rw [hl]
  unfold slicedAt
  rw [if_neg (by omega), addr_add]
  simp

set_option maxRecDepth 100000 in
set_option maxHeartbeats 4000000 in
theorem bits_any (n : Nat) (hn : n < 18446744073709551616) (w : World) (ht : Tz w) :
    Calls Tryz.prog 130 #[.slice none 0 0, .int .u64 (n : Int), .int .i64 8, .bool false, .bool false] w fun e w' => e = .returned (.tuple #[.slice none 0 0, .string ⟨(octs n).toArray⟩]) ∧ Kp No w w' := by
  have HN := Hid_mk (octs_len n 22 (by omega) (by omega))
  have HT : Hid (Tz (w.alloc (Obj.cells Tryz.zeroCells156 156))) := Hid_mk (ht.no ((Kp.refl No w).alloc _))
  have HS := Hid_mk (BitsRel.start w n hn)
  clear hn ht
  go_enter Tryz.func130, Tryz.ntmps130
  have q1 : (bits BinOp.and IntKind.i64 8 7 == 0) = true := by decide +kernel
  go_wp2_with (first | (go_at_call 135; refine (tz_any _ HT.out).mono ?_; rintro e w' ⟨rfl, rfl⟩) | go_in)
  obtain ⟨g, hg⟩ : ∃ g, g = w.heap.size := ⟨_, rfl⟩
  have HG := Hid_mk hg
  rw [← hg] at HS ⊢
  clear hg q1 HT
  go_loopw [1, 13] (fun u i wr => BitsRel w g n u i wr) (fun u _ _ => (intOf u).toNat)
  case atStart => exact HS.out
  case round =>
    obtain ⟨m, j, ds, rfl, rfl, hj, hm, hh, h1, h2, h3, h4⟩ := hrel
    have hpos := octs_pos m
    have hds : ds.length ≤ 21 := by
      have h := HN.out; rw [← hh, List.length_append] at h; omega
    obtain ⟨j, rfl⟩ : ∃ j', j = j' + 1 := ⟨j - 1, by omega⟩
    obtain ⟨v0, hv0⟩ := h1 j (by omega)
    have hf0 := h2 j
    have hjl : j < 65 := by omega
    have hr := fun d hd w => run_digit d hd .u64 w
    by_cases hlt : m < 8
    · have hrd := fun w => run_digit m (by omega) .u64 w
      have hp := BitsRel.push (w := w) (octd m) (by rw [HG.out]; exact Nat.le_refl _) hj h1 h2 h3 h4
      have HP := Hid_mk hp
      have HX := Hid_mk (BitsRel.text (ds := octd m :: ds) (by simp; omega) hp.2.2.1)
      have HH := Hid_mk hh
      have HJ := Hid_mk hj
      clear hp h1 h2 h3 h4 hh hr hj hm hpos hds
      have hlt' : ¬ (8 : Int) ≤ (m : Int) := by omega
      have hfr := run_from g j hjl
      go_wp2
      rw [dig_at _ (by rfl) m (by omega), conv_bs HX.out]
      go_wp2
      go_ret2
      refine ⟨?_, HP.out.2.2.2⟩
      rw [← HH.out, octs_small hlt]
      rfl
    · have hrd := fun w => run_digit (m % 8) (by omega) .u64 w
      have ha := and7 m hm
      have hp := BitsRel.push (w := w) (octd (m % 8)) (by rw [HG.out]; exact Nat.le_refl _) hj h1 h2 h3 h4
      have HP := Hid_mk hp
      have HH := Hid_mk hh
      have HJ := Hid_mk hj
      have HM := Hid_mk hm
      clear hp h1 h2 h3 h4 hh hr hj hm hpos hds
      have hlt' : (8 : Int) ≤ (m : Int) := by omega
      go_wp2
      rw [dig_at _ (by rfl) (m % 8) (by omega)]
      exact ⟨⟨m / 8, j, octd (m % 8) :: ds, by go_num, rfl, by have := HJ.out; simp; omega, by have := HM.out; omega, by rw [← HH.out, octs_big hlt, List.append_assoc]; rfl, HP.out.1, HP.out.2.1, HP.out.2.2.1, HP.out.2.2.2⟩, by simp [intOf]; omega⟩

end Go.Proofs.YtgnddabdjjkgiaaGreatDoor.oct

namespace Go.Proofs.YtgnddabdjjkgiaaGreatDoor.str
open Go.RowKit Go.Proofs.YtgnddabdjjkgiaaGreatDoor.sum Go.Proofs.YtgnddabdjjkgiaaGreatDoor.kept
set_option linter.unusedVariables false

/-- bytes as a text -/
def st (l : List UInt8) : ByteArray := ⟨l.toArray⟩
theorem st_size (l : List UInt8) : (st l).size = l.length := by simp [st, ByteArray.size]
theorem st_list (l : List UInt8) : (st l).toList = l := by rw [ByteArray.toList_eq]; simp [st]
theorem st_data (l : List UInt8) : (st l).data.toList = l := by simp [st]
theorem st_of (s : ByteArray) : st s.data.toList = s := by
  apply ByteArray.ext
  simp [st]
theorem st_get (l : List UInt8) (k : Nat) (h : k < (st l).size) : ((st l)[k]).toNat = (l.getD k 0).toNat := by
  have hk : k < l.length := by rw [st_size] at h; exact h
  have e : ((st l)[k]'h) = l[k] := by
    show l.toArray[k] = l[k]
    simp
  exact (congrArg UInt8.toNat e).trans (by simp [List.getD, hk])
/-- from a place on -/
theorem st_from (l : List UInt8) (i : Nat) : (st l).extract i l.length = st (l.drop i) := by
  apply ByteArray.ext
  rw [ByteArray.data_extract]
  apply Array.ext'
  simp [st, List.take_of_length_le]
theorem st_piece (l : List UInt8) (i j : Nat) : (st l).extract i j = st ((l.drop i).take (j - i)) := by
  apply ByteArray.ext
  rw [ByteArray.data_extract]
  apply Array.ext'
  simp [st, List.take_drop]
theorem getD_lt (l : List UInt8) (k : Nat) : (l.getD k 0).toNat < 256 := (l.getD k 0).toNat_lt

end Go.Proofs.YtgnddabdjjkgiaaGreatDoor.str
