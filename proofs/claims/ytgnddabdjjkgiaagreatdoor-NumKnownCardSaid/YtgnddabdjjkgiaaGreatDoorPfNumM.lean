/- num.Digits: what stands ahead of strconv. num.Prefix over what ParseFloat answers of the piece. internal/strconv.readFloat of decimal numerals. What the float operations of 64 bits give on whole numbers below 2^53: the whole number itself, exactly. Plain arithmetic: no program is named here. -/
import Derived.Test.YtgnddabdjjkgiaaGreatDoorFtoaM
import Derived.Laws.Externs
import Derived.KernelRfl
import Derived.Test.YtgnddabdjjkgiaaGreatDoorRow0M
import Derived.Test.YtgnddabdjjkgiaaGreatDoorFmtBase
import Derived.Test.YtgnddabdjjkgiaaGreatDoorShelf
import Derived.Deep.CutRange
import Derived.Deep.CutBlock
import Derived.ScopeJumps
import Derived.Scope
import Derived.WalkMore
import Derived.Laws.ComplexArith

namespace Go.Proofs.YtgnddabdjjkgiaaGreatDoor.pf
open Go.RowKit Go.Proofs.YtgnddabdjjkgiaaGreatDoor.sum Go.Proofs.YtgnddabdjjkgiaaGreatDoor.kept Go.Proofs.YtgnddabdjjkgiaaGreatDoor.app Go.Proofs.YtgnddabdjjkgiaaGreatDoor.writer Go.Proofs.YtgnddabdjjkgiaaGreatDoor.known Go.Proofs.YtgnddabdjjkgiaaGreatDoor.fmtf
set_option linter.unusedVariables false

/-- how two words stand -/
abbrev ord (a b : Nat) : Option Ordering := FloatKind.f64.format.order a b
theorem ord_def (a b : Nat) : FloatKind.f64.format.order a b = ord a b := rfl
/-- the whole part, towards 0 -/
def truncB (b : Nat) : Nat := FloatKind.f64.encode ((FloatKind.f64.decode b).integral .zero)
/-- is no number -/
def nanB (b : Nat) : Bool := match FloatKind.f64.decode b with | .nan _ _ => true | _ => false
/-- -0 is 0 -/
def plainB (b : Nat) : Nat := if (FloatKind.f64.format.order b 0 == some .eq) = true then 0 else b
/-- 0: finite; else what Digits tells of it -/
def kindB (b : Nat) : Nat := if (FloatKind.f64.format.order b b != some .eq) = true then 1 else if (FloatKind.f64.format.order b 9218868437227405311 == some .gt) = true then 2 else if (FloatKind.f64.format.order b 18442240474082181119 == some .lt) = true then 3 else 0

theorem trunc_entry (args : Array Value) (w : World) : (callFunc 45 args).run Tryz.prog w = ((Extern.MathFloor.toIntegral "math.archTrunc" .zero args).run Tryz.prog w).andThen fun v w' => .ok (.value v) w' :=
  run_callFunc_extern Tryz.func45 (by kernel_rfl) (by kernel_rfl) (by kernel_rfl) (by kernel_rfl) args w
theorem run_trunc (b : Nat) (hb : nanB b = false) (w : World) : (callFunc 45 #[.float .f64 b]).run Tryz.prog w = .ok (.value (.float .f64 (truncB b))) w := by
  rw [trunc_entry]
  unfold nanB at hb
  unfold truncB
  change ((match FloatKind.f64.decode b with
    | .nan s t =>
      if FloatKind.f64.format.quiet t = t then pure (.float .f64 b) else do
      let kept ← choose (.extern "math.Floor,Ceil,Trunc,RoundToEven.signallingNaN kept" 2)
      pure (.float .f64 (if kept == 1 then b else FloatKind.f64.encode (.nan s (FloatKind.f64.format.quiet t))))
    | d => pure (.float .f64 (FloatKind.f64.encode (d.integral .zero))) : Sem Value).run Tryz.prog w).andThen _ = _
  cases hd : FloatKind.f64.decode b <;> rw [hd] at hb <;> first | (simp at hb; done) | rfl

def RF (w : World) (b : Nat) (e : Ending) (w' : World) : Prop := e = .returned (.float .f64 b) ∧ w = w'

set_option maxRecDepth 100000 in
theorem trunc_any (w : World) (b : Nat) (hb : nanB b = false) : Calls Tryz.prog 29 #[.float .f64 b] w (RF w (truncB b)) := by
  have q1 := fun w => run_trunc b hb w
  obtain ⟨t, ht⟩ : ∃ t, truncB b = t := ⟨_, rfl⟩
  simp only [ht] at q1 ⊢
  go_enter Tryz.func29, Tryz.ntmps29
  go_wp2
  go_ret
  exact ⟨rfl, rfl⟩

set_option maxRecDepth 100000 in
theorem plain_any (w : World) (b : Nat) : Calls Tryz.prog 25 #[.float .f64 b] w (RF w (plainB b)) := by
  unfold plainB
  by_cases h : (FloatKind.f64.format.order b 0 == some .eq) = true
  · rw [if_pos h]
    go_enter Tryz.func25, Tryz.ntmps25
    go_wp2
    go_ret
    exact ⟨rfl, rfl⟩
  · rw [if_neg h]
    have h : (FloatKind.f64.format.order b 0 == some .eq) = false := by simpa using h
    go_enter Tryz.func25, Tryz.ntmps25
    go_wp2
    go_ret
    exact ⟨rfl, rfl⟩

set_option maxRecDepth 100000 in
set_option maxHeartbeats 4000000 in
theorem digits_fin (w : World) (b : Nat) (S : List UInt8) (hk : kindB b = 0) (hn : nanB b = false)
    (hc : Calls Tryz.prog 28 #[.float .f64 (plainB (truncB b)), .int .u8 102, .int .i64 0, .int .i64 64] w (TxPost w S)) :
    Calls Tryz.prog 12 #[.float .f64 b] w (TxPost w S) := by
  have HC := Hid_mk hc
  have HT := Hid_mk (trunc_any w b hn)
  have HP := Hid_mk (plain_any w (truncB b))
  unfold kindB at hk
  obtain ⟨t, ht⟩ : ∃ t, truncB b = t := ⟨_, rfl⟩
  rw [ht] at HC HT HP
  obtain ⟨p, hp⟩ : ∃ p, plainB t = p := ⟨_, rfl⟩
  rw [hp] at HC HP
  have h1 : (FloatKind.f64.format.order b b != some .eq) = false := by
    revert hk; split
    · intro h; cases h
    · rename_i h; intro _; simpa using h
  rw [if_neg (by simp [h1])] at hk
  have h2 : (FloatKind.f64.format.order b 9218868437227405311 == some .gt) = false := by
    revert hk; split
    · intro h; cases h
    · rename_i h; intro _; simpa using h
  rw [if_neg (by simp [h2])] at hk
  have h3 : (FloatKind.f64.format.order b 18442240474082181119 == some .lt) = false := by
    revert hk; split
    · intro h; cases h
    · rename_i h; intro _; simpa using h
  clear hc hk hn ht hp
  go_enter Tryz.func12, Tryz.ntmps12
  go_wp2_with fail
  with_reducible refine HT.out.mono ?_
  rintro e w1 ⟨rfl, rfl⟩
  go_wp2_with fail
  with_reducible refine HP.out.mono ?_
  rintro e w1 ⟨rfl, rfl⟩
  go_wp2_with fail
  with_reducible refine HC.out.mono ?_
  rintro e w2 ⟨rfl, hk⟩
  have HK := Hid_mk hk
  clear hk
  go_wp2
  go_ret
  exact ⟨rfl, HK.out⟩

end Go.Proofs.YtgnddabdjjkgiaaGreatDoor.pf

namespace Go.Proofs.YtgnddabdjjkgiaaGreatDoor.rd
open Go.RowKit Go.Proofs.YtgnddabdjjkgiaaGreatDoor.sum Go.Proofs.YtgnddabdjjkgiaaGreatDoor.kept Go.Proofs.YtgnddabdjjkgiaaGreatDoor.str Go.Proofs.YtgnddabdjjkgiaaGreatDoor.nums Go.Proofs.YtgnddabdjjkgiaaGreatDoor.pf
set_option linter.unusedVariables false

/-- the piece that is the numeral -/
def pieceS (l : List UInt8) : List UInt8 := (l.drop (findS l).1).take ((findS l).2 - (findS l).1)
/-- ParseFloat answers a number, whatever the error -/
def PfC (w : World) (l : List UInt8) (x : Nat) : Prop := Calls Tryz.prog 24 #[.string (st l), .int .i64 64] w fun e w' => (∃ v, e = .returned (.tuple #[.float .f64 x, v])) ∧ Kp No w w'
/-- what Prefix answers -/
def PxC (w : World) (l : List UInt8) (x : Nat) : Prop := Calls Tryz.prog 8 #[.string (st l)] w fun e w' => e = .returned (.tuple #[.float .f64 x, .int .i64 ((findS l).2 : Int)]) ∧ Kp No w w'

set_option maxRecDepth 100000 in
set_option maxHeartbeats 4000000 in
theorem prefix_at (w : World) (l : List UInt8) (hl : l.length ≤ 140737488355327) (x : Nat) (h0 : 0 < (findS l).2) (hp : PfC w (pieceS l) x) : PxC w l (plainB x) := by
  have hsz := st_size l
  have h2 := find_le l
  have HF := Hid_mk (find_any w l hl)
  have hpc := st_piece l (findS l).1 (findS l).2
  unfold PxC
  unfold pieceS at hp
  obtain ⟨F, hF⟩ : ∃ F, (findS l).1 = F := ⟨_, rfl⟩
  obtain ⟨E, hE⟩ : ∃ E, (findS l).2 = E := ⟨_, rfl⟩
  rw [hF, hE] at HF hpc hp h2
  rw [hE] at h0
  rw [hE]
  obtain ⟨T, hT⟩ : ∃ T, (l.drop F).take (E - F) = T := ⟨_, rfl⟩
  rw [hT] at hpc hp
  unfold PfC at hp
  have HP := Hid_mk hp
  have HPl := Hid_mk fun W => plain_any W x
  have hF0 : (0 : Int) ≤ (F : Int) := Int.natCast_nonneg _
  have hFE : (F : Int) ≤ (E : Int) := by omega
  have hEl : (E : Int) ≤ (l.length : Int) := by omega
  have hEz : ((E : Int) == 0) = false := by simp; omega
  have hEp : 0 < E := h0
  have hEn : ¬ E = 0 := by omega
  clear hp hl h0 hT hF hE h2
  go_enter Tryz.func8, Tryz.ntmps8
  go_wp2_with fail
  with_reducible refine HF.out.mono ?_
  rintro e1 w1 ⟨rfl, rfl⟩
  go_wp2_with fail
  with_reducible refine HP.out.mono ?_
  rintro e1 w1 ⟨⟨v, rfl⟩, hk⟩
  have HK := Hid_mk hk
  clear hk
  go_wp2_with fail
  with_reducible refine (HPl.out _).mono ?_
  rintro e1 w2 ⟨rfl, rfl⟩
  go_wp2
  go_ret2
  exact ⟨rfl, HK.out⟩

set_option maxRecDepth 100000 in
set_option maxHeartbeats 4000000 in
theorem prefix_zero (w : World) (l : List UInt8) (hl : l.length ≤ 140737488355327) (h0 : (findS l).2 = 0) : PxC w l 0 := by
  have HF := Hid_mk (find_any w l hl)
  unfold PxC
  obtain ⟨F, hF⟩ : ∃ F, (findS l).1 = F := ⟨_, rfl⟩
  rw [hF, h0] at HF
  rw [h0]
  clear hF h0 hl
  go_enter Tryz.func8, Tryz.ntmps8
  go_wp2_with fail
  with_reducible refine HF.out.mono ?_
  rintro e1 w1 ⟨rfl, rfl⟩
  go_wp2
  go_ret2
  exact ⟨rfl, Kp.refl _ _⟩

end Go.Proofs.YtgnddabdjjkgiaaGreatDoor.rd

namespace Go.Proofs.YtgnddabdjjkgiaaGreatDoor.rd
open Go.RowKit Go.Proofs.YtgnddabdjjkgiaaGreatDoor.sum Go.Proofs.YtgnddabdjjkgiaaGreatDoor.kept Go.Proofs.YtgnddabdjjkgiaaGreatDoor.str Go.Proofs.YtgnddabdjjkgiaaGreatDoor.nums Go.Proofs.YtgnddabdjjkgiaaGreatDoor.fmtf
set_option linter.unusedVariables false

/-- the digits and the point: place, point seen, digits seen, how many count, how many are taken, the point's place, the number, something left out -/
def rdL (l : List UInt8) : Nat → Nat → Bool → Bool → Nat → Nat → Int → Nat → Bool → Nat × Bool × Bool × Nat × Nat × Int × Nat × Bool
  | 0, i, dot, dg, nd, nm, dp, m, tr => (i, dot, dg, nd, nm, dp, m, tr)
  | f + 1, i, dot, dg, nd, nm, dp, m, tr =>
    if bt l i = 46 then (if dot = true then (i, dot, dg, nd, nm, dp, m, tr) else rdL l f (i + 1) true dg nd nm (nd : Int) m tr)
    else if 48 ≤ bt l i ∧ bt l i ≤ 57 then
      if bt l i = 48 ∧ nd = 0 then rdL l f (i + 1) dot true nd nm (dp - 1) m tr
      else if nm < 19 then rdL l f (i + 1) dot true (nd + 1) (nm + 1) dp (m * 10 + (bt l i - 48)) tr
      else rdL l f (i + 1) dot true (nd + 1) nm dp m (tr || decide (bt l i ≠ 48))
    else (i, dot, dg, nd, nm, dp, m, tr)
/-- the exponent's digits -/
def exL (l : List UInt8) : Nat → Nat → Nat → Nat × Nat
  | 0, i, e => (i, e)
  | f + 1, i, e => if 48 ≤ bt l i ∧ bt l i ≤ 57 then exL l f (i + 1) (if e < 10000 then e * 10 + (bt l i - 48) else e) else (i, e)
def negS (l : List UInt8) : Bool := decide (0 < l.length) && decide (bt l 0 = 45)
/-- no underscore, no hexadecimal -/
structure Deci (l : List UInt8) : Prop where
  un : ∀ i, i < l.length → bt l i ≠ 95
  hx : ¬ (signS l 0 + 2 < l.length ∧ bt l (signS l 0) = 48 ∧ bits .or .u8 (bt l (signS l 0 + 1) : Int) 32 = 120)
def expR (dot : Bool) (nd nm m : Nat) (dp x : Int) : Int := if m = 0 then 0 else (if dot = true then dp else (nd : Int)) + x - (nm : Int)

set_option maxRecDepth 100000 in
set_option maxHeartbeats 16000000 in
theorem read_plain (w : World) (l : List UInt8) (hl : l.length ≤ 1000000000000) (hl0 : signS l 0 < l.length) (hd : Deci l) (i nd nm m : Nat) (dp : Int) (dot tr : Bool)
    (hr : rdL l (l.length - signS l 0) (signS l 0) false false 0 0 0 0 false = (i, dot, true, nd, nm, dp, m, tr)) (hi : i = l.length) :
    Calls Tryz.prog 86 #[.string (st l)] w fun e w' => e = .returned (.tuple #[.int .u64 (m : Int), .int .i64 (expR dot nd nm m dp 0), .bool (negS l), .bool tr, .bool false, .int .i64 (l.length : Int), .bool true]) ∧ w = w' := by
  have hsz := st_size l
  have HL := Hid_mk hl
  have HUn := Hid_mk hd.un
  have HHx := Hid_mk hd.hx
  have HRd := Hid_mk hr
  have HI := Hid_mk hi
  obtain ⟨S, hS⟩ : ∃ S, signS l 0 = S := ⟨_, rfl⟩
  have HS := Hid_mk hS
  obtain ⟨N, hN⟩ : ∃ N, negS l = N := ⟨_, rfl⟩
  have HN := Hid_mk hN
  rw [hN]
  rw [hS] at hl0 HHx HRd
  have HL0 := Hid_mk hl0
  have hlen1 : (0 : Int) < (l.length : Int) := by omega
  have hlen2 : (l.length : Int) ≤ 1000000000000 := by omega
  have hS1 : S ≤ 1 := by rw [← hS]; unfold signS; split <;> omega
  have hz0 : 0 < (st l).size := by rw [hsz]; omega
  have hg0 := bt_get l 0 hz0
  have hlpos : 0 < l.length := by omega
  have hne : ¬ l = [] := by intro e; rw [e] at hlpos; simp at hlpos
  obtain ⟨b0, hb0⟩ : ∃ b0, bt l 0 = b0 := ⟨_, rfl⟩
  rw [hb0] at hg0
  have HB0 := Hid_mk hb0
  have HLow := Hid_mk fun (c : Int) W => Go.Proofs.Tryz.internal_strconv_lower c W
  clear hl hd hr hi hS hN hb0
  go_enter Tryz.func86, Tryz.ntmps86
  go_wp2_with fail
  refine wp_scope_straight ?_
  go_upto_block 0 with fail
  go_cut [4, 7] from 28 to 35 (fun s4 s7 wc => s4 = .bool N ∧ s7 = .int .i64 (S : Int) ∧ wc = w)
  case first =>
    have hb0 := HB0.out
    have hS2 := HS.out
    have hN2 := HN.out
    unfold signS at hS2
    unfold negS at hN2
    rw [hb0, decide_eq_true hlpos] at hN2
    rw [hb0] at hS2
    by_cases h1 : b0 = 43
    · rw [if_pos ⟨hlpos, .inl h1⟩] at hS2
      have h1i : (b0 : Int) = 43 := by omega
      have h1b : ((b0 : Int) == 43) = true := by simp; omega
      have hn : N = false := by rw [← hN2, h1]; rfl
      have hs : S = 1 := hS2.symm
      subst hn hs
      clear hS2 hN2 h1 hb0
      go_wp2_with fail
      go_meet
      case rel => exact ⟨rfl, rfl, rfl⟩
    · have h1i : ¬ (b0 : Int) = 43 := by omega
      have h1b : ((b0 : Int) == 43) = false := by simp; omega
      by_cases h2 : b0 = 45
      · rw [if_pos ⟨hlpos, .inr h2⟩] at hS2
        have h2i : (b0 : Int) = 45 := by omega
        have h2b : ((b0 : Int) == 45) = true := by simp; omega
        have hn : N = true := by rw [← hN2, h2]; rfl
        have hs : S = 1 := hS2.symm
        subst hn hs
        clear hS2 hN2 h1 h2 hb0
        go_wp2_with fail
        go_meet
        case rel => exact ⟨rfl, rfl, rfl⟩
      · rw [if_neg (by rintro ⟨-, h | h⟩; exact h1 h; exact h2 h)] at hS2
        have h2i : ¬ (b0 : Int) = 45 := by omega
        have h2b : ((b0 : Int) == 45) = false := by simp; omega
        have hn : N = false := by rw [← hN2, decide_eq_false h2]; rfl
        have hs : S = 0 := hS2.symm
        subst hn hs
        clear hS2 hN2 h1 h2 hb0
        go_wp2_with fail
        go_meet
        case rel => exact ⟨rfl, rfl, rfl⟩
  case rest =>
  obtain ⟨rfl, rfl, rfl⟩ := hcut
  clear hg0 hz0
  have hS0 : (0 : Int) ≤ (S : Int) := Int.natCast_nonneg _
  have hS1i : (S : Int) ≤ 1 := by omega
  go_upto_region 12 with fail
  go_cut [54] from 36 to 53 (fun s54 wx => s54 = .bool false ∧ wx = wc)
  case first =>
    by_cases h1 : S + 2 < l.length
    · have h1i : (S : Int) + 2 < (l.length : Int) := by omega
      have hlt1 : S < (st l).size := by rw [hsz]; omega
      have hlt2 : S + 1 < (st l).size := by rw [hsz]; omega
      have hSl : (S : Int) < (l.length : Int) := by omega
      have hSl2 : (S : Int) + 1 < (l.length : Int) := by omega
      have hg1 := bt_get l S hlt1
      have hg2 := bt_get l (S + 1) hlt2
      have hHx := HHx.out
      obtain ⟨b1, hb1⟩ : ∃ b1, bt l S = b1 := ⟨_, rfl⟩
      obtain ⟨b2, hb2⟩ : ∃ b2, bt l (S + 1) = b2 := ⟨_, rfl⟩
      rw [hb1] at hg1 hHx
      rw [hb2] at hg2 hHx
      by_cases h3 : b1 = 48
      · have h3i : (b1 : Int) = 48 := by omega
        have h4 : (bits .or .u8 (b2 : Int) 32 == 120) = false := by
          have h5 : ¬ bits .or .u8 (b2 : Int) 32 = 120 := fun e => hHx ⟨h1, h3, e⟩
          simpa using h5
        have h4b : ¬ bits .or .u8 (b2 : Int) 32 = 120 := fun e => hHx ⟨h1, h3, e⟩
        have HL4 := Hid_mk h4
        obtain ⟨X, hX⟩ : ∃ X, bits .or .u8 (b2 : Int) 32 = X := ⟨_, rfl⟩
        have HLw := Hid_mk (HLow.out (b2 : Int) wc)
        rw [hX] at h4 h4b HLw
        clear hHx h1 h3 hb1 hb2 hX HL4
        go_wp2_with fail
        with_reducible refine HLw.out.mono ?_
        rintro e w1 ⟨rfl, rfl⟩
        go_wp2_with fail
        go_meet
        case rel => exact ⟨rfl, rfl⟩
      · have h3i : ((b1 : Int) == 48) = false := by simp; omega
        clear hHx h1 h3 hb1 hb2
        go_wp2_with fail
        go_meet
        case rel => exact ⟨rfl, rfl⟩
    · have h1i : ¬ (S : Int) + 2 < (l.length : Int) := by omega
      clear h1
      go_wp2_with fail
      go_meet
      case rel => exact ⟨rfl, rfl⟩
  case rest =>
  obtain ⟨rfl, rfl⟩ := hcut
  go_upto_block 1 with fail
  apply wp_label
  go_upto_block 1 with fail
  go_cut [2, 5, 7, 9, 13, 14, 15, 16, 17, 18] from 57 to 138 (fun s2 s5 s7 s9 s13 s14 s15 s16 s17 s18 wx => s2 = .int .u64 (m : Int) ∧ s5 = .bool tr ∧ s7 = .int .i64 (i : Int) ∧ s9 = .bool false ∧ s13 = .bool dot ∧ s14 = .bool true ∧ s15 = .int .i64 (nd : Int) ∧ s16 = .int .i64 (nm : Int) ∧ s17 = .int .i64 dp ∧ wx = wc ∧ nm ≤ nd ∧ nd ≤ l.length ∧ -(l.length : Int) ≤ dp ∧ dp ≤ (l.length : Int))
  case first =>
    go_wp2_with fail
    go_loopw [2, 5, 7, 9, 13, 14, 15, 16, 17, 18] (fun a2 a5 a7 a9 a13 a14 a15 a16 a17 _ wr => ∃ (j nd' nm' m' : Nat) (dp' : Int) (dot' dg' tr' : Bool), a2 = .int .u64 (m' : Int) ∧ a5 = .bool tr' ∧ a7 = .int .i64 (j : Int) ∧ a9 = .bool false ∧ a13 = .bool dot' ∧ a14 = .bool dg' ∧ a15 = .int .i64 (nd' : Int) ∧ a16 = .int .i64 (nm' : Int) ∧ a17 = .int .i64 dp' ∧ rdL l (l.length - j) j dot' dg' nd' nm' dp' m' tr' = (i, dot, true, nd, nm, dp, m, tr) ∧ j ≤ l.length ∧ nm' ≤ nd' ∧ nd' ≤ j ∧ nm' ≤ 19 ∧ m' < 10 ^ nm' ∧ -(j : Int) ≤ dp' ∧ dp' ≤ (j : Int) ∧ wr = wc) (fun _ _ a7 _ _ _ _ _ _ _ _ => l.length - (intOf a7).toNat)
    case atStart => exact ⟨S, 0, 0, 0, 0, false, false, false, rfl, rfl, rfl, rfl, rfl, rfl, rfl, rfl, rfl, HRd.out, Nat.le_of_lt HL0.out, Nat.le_refl _, Nat.zero_le _, by omega, by decide, by omega, by omega, by first | rfl | trivial⟩
    case round =>
      obtain ⟨j, nd', nm', m', dp', dot', dg', tr', rfl, rfl, rfl, rfl, rfl, rfl, rfl, rfl, rfl, hr, hj, hnm, hnd, hnm9, hm, hdp1, hdp2, rfl⟩ := hrel
      have hj0 : (0 : Int) ≤ (j : Int) := Int.natCast_nonneg _
      have hjl : (j : Int) ≤ 1000000000000 := by omega
      have hnd0 : (0 : Int) ≤ (nd' : Int) := Int.natCast_nonneg _
      have hndl : (nd' : Int) ≤ 1000000000000 := by omega
      have hnm0 : (0 : Int) ≤ (nm' : Int) := Int.natCast_nonneg _
      have hnm9i : (nm' : Int) ≤ 19 := by omega
      have hdpl : -1000000000000 ≤ dp' := by omega
      have hdph : dp' ≤ 1000000000000 := by omega
      have hm0 : (0 : Int) ≤ (m' : Int) := Int.natCast_nonneg _
      have HB := Hid_mk (And.intro hj (And.intro hnm (And.intro hnd (And.intro hnm9 (And.intro hm (And.intro hdp1 hdp2))))))
      rcases Nat.lt_or_ge j l.length with hlt | hge
      · have hlti : (j : Int) < (l.length : Int) := by omega
        have hjs : j < (st l).size := by rw [hsz]; exact hlt
        have hg := bt_get l j hjs
        rw [show l.length - j = (l.length - (j + 1)) + 1 by omega, rdL] at hr
        have hun := HUn.out j hlt
        obtain ⟨c, hc⟩ : ∃ c, bt l j = c := ⟨_, rfl⟩
        rw [hc] at hg hr hun
        have hc256 : c < 256 := by rw [← hc]; exact bt_lt l j
        have hun1 : ((c : Int) == 95) = false := by simp; omega
        have hc0 : (0 : Int) ≤ (c : Int) := Int.natCast_nonneg _
        have HLt := Hid_mk hlt
        by_cases h46 : c = 46
        · rw [if_pos h46] at hr
          have h46i : (c : Int) = 46 := by omega
          rcases hdt : dot' with _ | _
          · rw [hdt, if_neg (by simp)] at hr
            have HR := Hid_mk hr
            subst hdt
            clear hr hj hnm hnd hnm9 hm hdp1 hdp2 hlt hun hc hc256 h46
            go_wp2
            go_roundw
            case rel => exact ⟨j + 1, nd', nm', m', (nd' : Int), true, dg', tr', rfl, rfl, by go_num, rfl, rfl, rfl, rfl, rfl, rfl, HR.out, HLt.out, HB.out.2.1, by have := HB.out; omega, HB.out.2.2.2.1, HB.out.2.2.2.2.1, by omega, by have := HB.out; omega, by first | rfl | trivial⟩
            case measure => have := HLt.out; simp [intOf]; omega
          · rw [hdt, if_pos rfl] at hr
            subst hdt
            obtain ⟨rfl, rfl, rfl, rfl, rfl, rfl, rfl, rfl⟩ : j = i ∧ true = dot ∧ dg' = true ∧ nd' = nd ∧ nm' = nm ∧ dp' = dp ∧ m' = m ∧ tr' = tr := by simpa using hr
            clear hr hj hnm hnd hnm9 hm hdp1 hdp2 hlt hun hc hc256 h46
            go_wp2
            go_meet
            case rel => exact ⟨rfl, rfl, rfl, rfl, rfl, rfl, rfl, rfl, rfl, rfl, HB.out.2.1, by have := HB.out; omega, by have := HB.out; omega, by have := HB.out; omega⟩
        · rw [if_neg h46] at hr
          have h46i : ((c : Int) == 46) = false := by simp; omega
          by_cases hdg : 48 ≤ c ∧ c ≤ 57
          · rw [if_pos hdg] at hr
            have hd1 : (48 : Int) ≤ (c : Int) := by omega
            have hd2 : (c : Int) ≤ 57 := by omega
            obtain ⟨y, hy⟩ : ∃ y, c - 48 = y := ⟨_, rfl⟩
            rw [hy] at hr
            have hy9 : y ≤ 9 := by omega
            have hcy : (c : Int) = 48 + (y : Int) := by omega
            have hs8 : IntKind.u8.wrap ((c : Int) - 48) = (y : Int) := by simp [IntKind.wrap, IntKind.signed, IntKind.bits]; omega
            have hy64 : IntKind.u64.wrap (y : Int) = (y : Int) := wu _ (by omega) (by omega)
            by_cases hz : c = 48 ∧ nd' = 0
            · rw [if_pos hz] at hr
              have hz1 : (c : Int) = 48 := by omega
              have hz2 : (nd' : Int) = 0 := by omega
              have HR := Hid_mk hr
              have HZ := Hid_mk hz.2
              clear hr hj hnm hnd hnm9 hm hdp1 hdp2 hlt hun hc hc256 h46 hdg hy hy9 hcy hz
              go_wp2
              go_roundw
              case rel => exact ⟨j + 1, nd', nm', m', dp' - 1, dot', true, tr', rfl, rfl, by go_num, rfl, rfl, rfl, rfl, rfl, rfl, HR.out, HLt.out, HB.out.2.1, by have := HB.out; omega, HB.out.2.2.2.1, HB.out.2.2.2.2.1, by have := HB.out; omega, by have := HB.out; omega, by first | rfl | trivial⟩
              case measure => have := HLt.out; simp [intOf]; omega
            · rw [if_neg hz] at hr
              have hz1 : ((c : Int) == 48) = false ∨ (c : Int) = 48 ∧ ((nd' : Int) == 0) = false := by
                by_cases e : c = 48
                · right; exact ⟨by omega, by simp; omega⟩
                · left; simp; omega
              by_cases hn : nm' < 19
              · rw [if_pos hn] at hr
                have hni : (nm' : Int) < 19 := by omega
                have hmb : m' < 1000000000000000000 := Nat.lt_of_lt_of_le hm (by
                  have := Nat.pow_le_pow_right (show 0 < 10 by omega) (show nm' ≤ 18 by omega)
                  simpa using this)
                have e1 : IntKind.u64.wrap ((m' : Int) * 10) = (m' : Int) * 10 := wu _ (by omega) (by omega)
                have e2 : IntKind.u64.wrap ((m' : Int) * 10 + (y : Int)) = (m' : Int) * 10 + (y : Int) := wu _ (by omega) (by omega)
                have HR := Hid_mk hr
                have hm2 : m' * 10 + y < 10 ^ (nm' + 1) := by rw [Nat.pow_succ]; omega
                have HM2 := Hid_mk hm2
                have hcast : ((m' * 10 + y : Nat) : Int) = (m' : Int) * 10 + (y : Int) := by omega
                have HCast := Hid_mk hcast
                have HCy := Hid_mk hcy
                have HN9 := Hid_mk hn
                clear hr hj hnm hnd hnm9 hm hdp1 hdp2 hlt hun hc hc256 h46 hdg hy hy9 hcy hz hn hmb hm2 hcast
                rcases hz1 with hz1 | ⟨hz1, hz2⟩
                all_goals
                  go_wp2
                  go_roundw
                  case rel => exact ⟨j + 1, nd' + 1, nm' + 1, m' * 10 + y, dp', dot', true, tr', by first | (rw [HCast.out]; done) | (rw [HCast.out]; congr 1; have := HCy.out; omega), rfl, by go_num, rfl, rfl, rfl, by go_num, by go_num, rfl, HR.out, HLt.out, by have := HB.out; omega, by have := HB.out; omega, HN9.out, HM2.out, by have := HB.out; omega, by have := HB.out; omega, by first | rfl | trivial⟩
                  case measure => have := HLt.out; simp [intOf]; omega
              · rw [if_neg hn] at hr
                have hni : ¬ (nm' : Int) < 19 := by omega
                by_cases h48 : c = 48
                · have h48i : (c : Int) = 48 := by omega
                  have h48b : ((c : Int) != 48) = false := by simp; omega
                  rw [decide_eq_false (by omega), Bool.or_false] at hr
                  have hz2 : ((nd' : Int) == 0) = false := by simp; omega
                  have HR := Hid_mk hr
                  clear hr hj hnm hnd hnm9 hm hdp1 hdp2 hlt hun hc hc256 h46 hdg hy hy9 hcy hz hn h48 hz1
                  go_wp2
                  go_roundw
                  case rel => exact ⟨j + 1, nd' + 1, nm', m', dp', dot', true, tr', rfl, rfl, by go_num, rfl, rfl, rfl, by go_num, rfl, rfl, HR.out, HLt.out, by have := HB.out; omega, by have := HB.out; omega, HB.out.2.2.2.1, HB.out.2.2.2.2.1, by have := HB.out; omega, by have := HB.out; omega, by first | rfl | trivial⟩
                  case measure => have := HLt.out; simp [intOf]; omega
                · have h48i : ((c : Int) == 48) = false := by simp; omega
                  have h48b : ((c : Int) != 48) = true := by simp; omega
                  rw [decide_eq_true (by omega), Bool.or_true] at hr
                  have HR := Hid_mk hr
                  clear hr hj hnm hnd hnm9 hm hdp1 hdp2 hlt hun hc hc256 h46 hdg hy hy9 hcy hz hn h48 hz1
                  go_wp2
                  go_roundw
                  case rel => exact ⟨j + 1, nd' + 1, nm', m', dp', dot', true, true, rfl, rfl, by go_num, rfl, rfl, rfl, by go_num, rfl, rfl, HR.out, HLt.out, by have := HB.out; omega, by have := HB.out; omega, HB.out.2.2.2.1, HB.out.2.2.2.2.1, by have := HB.out; omega, by have := HB.out; omega, by first | rfl | trivial⟩
                  case measure => have := HLt.out; simp [intOf]; omega
          · rw [if_neg hdg] at hr
            obtain ⟨rfl, rfl, rfl, rfl, rfl, rfl, rfl, rfl⟩ : j = i ∧ dot' = dot ∧ dg' = true ∧ nd' = nd ∧ nm' = nm ∧ dp' = dp ∧ m' = m ∧ tr' = tr := by simpa using hr
            have hd12 : ¬ (48 : Int) ≤ (c : Int) ∨ ((48 : Int) ≤ (c : Int) ∧ ¬ (c : Int) ≤ 57) := by omega
            clear hr hj hnm hnd hnm9 hm hdp1 hdp2 hlt hun hc hc256 h46 hdg
            rcases hd12 with hd1 | ⟨hd1, hd2⟩
            all_goals
              go_wp2
              go_meet
              case rel => exact ⟨rfl, rfl, rfl, rfl, rfl, rfl, rfl, rfl, rfl, rfl, HB.out.2.1, by have := HB.out; omega, by have := HB.out; omega, by have := HB.out; omega⟩
      · obtain rfl : j = l.length := by omega
        rw [Nat.sub_self, rdL] at hr
        obtain ⟨rfl, rfl, rfl, rfl, rfl, rfl, rfl, rfl⟩ : l.length = i ∧ dot' = dot ∧ dg' = true ∧ nd' = nd ∧ nm' = nm ∧ dp' = dp ∧ m' = m ∧ tr' = tr := by simpa using hr
        have hlti : ¬ (l.length : Int) < (l.length : Int) := by omega
        clear hr hj hnm hnd hnm9 hm hdp1 hdp2 hge
        go_wp2
        go_meet
        case rel => exact ⟨rfl, rfl, rfl, rfl, rfl, rfl, rfl, rfl, rfl, rfl, HB.out.2.1, by have := HB.out; omega, by have := HB.out; omega, by have := HB.out; omega⟩
  case rest =>
  obtain ⟨rfl, rfl, rfl, rfl, rfl, rfl, rfl, rfl, rfl, rfl, hnm, hnd, hdp1, hdp2⟩ := hcut
  have hie := HI.out
  subst hie
  have hlti : ¬ (l.length : Int) < (l.length : Int) := by omega
  have hnm0 : (0 : Int) ≤ (nm : Int) := Int.natCast_nonneg _
  have hnd0 : (0 : Int) ≤ (nd : Int) := Int.natCast_nonneg _
  have hnm12 : (nm : Int) ≤ 1000000000000 := by omega
  have hnd12 : (nd : Int) ≤ 1000000000000 := by omega
  have hdp12 : -1000000000000 ≤ dp := by omega
  have hdp13 : dp ≤ 1000000000000 := by omega
  have hm0 : (0 : Int) ≤ (m : Int) := Int.natCast_nonneg _
  obtain ⟨E, hE⟩ : ∃ E, expR dot nd nm m dp 0 = E := ⟨_, rfl⟩
  have HE := Hid_mk hE
  unfold expR at hE
  clear hnm hnd hdp1 hdp2
  rcases dot with _ | _
  all_goals
    by_cases hmz : m = 0
    · rw [if_pos hmz] at hE
      subst hmz
      have hz1 : ((0 : Int) != 0) = false := rfl
      have HE2 := Hid_mk hE
      clear hE
      go_wp2
      refine bodyPost_ret (v := .tuple #[.int .u64 ((0 : Nat) : Int), .int .i64 (expR _ nd nm 0 dp 0), .bool N, .bool tr, .bool false, .int .i64 (l.length : Int), .bool true]) ?_ rfl ⟨rfl, rfl⟩
      rw [HE.out, ← HE2.out]
      simp [results, Tryz.results86, go_sem]
    · rw [if_neg hmz] at hE
      have hmb : ((m : Int) != 0) = true := by simp; omega
      have hmp : 0 < m := by omega
      have hmi : ¬ (m : Int) = 0 := by omega
      have HE2 := Hid_mk hE
      clear hE
      go_wp2
      refine bodyPost_ret (v := .tuple #[.int .u64 (m : Int), .int .i64 (expR _ nd nm m dp 0), .bool N, .bool tr, .bool false, .int .i64 (l.length : Int), .bool true]) ?_ rfl ⟨rfl, rfl⟩
      rw [HE.out, ← HE2.out]
      simp [results, Tryz.results86, go_sem]

end Go.Proofs.YtgnddabdjjkgiaaGreatDoor.rd

namespace Go.Proofs.YtgnddabdjjkgiaaGreatDoor.fl
open Ieee

theorem log2_mul_pow (n k : Nat) (h : 0 < n) : (n * 2 ^ k).log2 = n.log2 + k := by
  have h0 : n ≠ 0 := by omega
  have hp : 0 < 2 ^ k := Nat.two_pow_pos k
  have hm : n * 2 ^ k ≠ 0 := Nat.mul_ne_zero h0 (by omega)
  rw [Nat.log2_eq_iff hm]
  have a := Nat.log2_self_le h0
  have b : n < 2 ^ (n.log2 + 1) := Nat.lt_log2_self
  constructor
  · rw [Nat.pow_add]; exact Nat.mul_le_mul_right _ a
  · rw [show n.log2 + k + 1 = (n.log2 + 1) + k by omega, Nat.pow_add]; exact Nat.mul_lt_mul_of_pos_right b hp

theorem cut_exact (neg : Bool) (way : Toward) (x d : Nat) (h : d ≤ (x * 2 ^ d).log2 + 2) : way.cut neg (x * 2 ^ d) d = x := by
  have hp : 0 < 2 ^ d := Nat.two_pow_pos d
  unfold Toward.cut
  simp only [Nat.min_eq_left h, Nat.shiftLeft_eq, Nat.one_mul]
  rw [Nat.mul_div_cancel _ hp, Nat.mul_mod_left]
  cases way <;> simp <;> omega

theorem min_rung {E X : Nat} (hE : E ≤ 1922) (hX : X < 2 ^ 53) : min (E * 2 ^ 52 + X) (2047 * 2 ^ 52) = E * 2 ^ 52 + X := by
  rw [Nat.min_eq_left]
  have p53 : (2 : Nat) ^ 53 = 2 * 2 ^ 52 := by decide
  have h1 : E * 2 ^ 52 ≤ 1922 * 2 ^ 52 := Nat.mul_le_mul_right _ hE
  have h3 : 1922 * 2 ^ 52 + 2 * 2 ^ 52 ≤ 2047 * 2 ^ 52 := by decide
  rw [p53] at hX
  exact Nat.le_trans (Nat.add_le_add h1 (Nat.le_of_lt hX)) h3

/-- The word of n * 2^k * 2^(e-k): n below 2^53. -/
theorem nearest_exact (neg : Bool) (n k : Nat) (e : Int) (h : 0 < n) (hl : n.log2 ≤ 52) (h1 : -1022 ≤ e + n.log2) (h2 : e + n.log2 ≤ 900) :
    double.nearest neg (n * 2 ^ k) (e - k) = double.word neg ((e + n.log2 + 1022).toNat * 2 ^ 52 + n * 2 ^ (52 - n.log2)) := by
  have hp : 0 < 2 ^ k := Nat.two_pow_pos k
  have hm : n * 2 ^ k ≠ 0 := Nat.mul_ne_zero (by omega) (by omega)
  have hL := log2_mul_pow n k h
  unfold Format.nearest
  rw [if_neg hm]
  have hlast : max (e - (k : Int) + ((n * 2 ^ k).log2 : Nat) - (double.fractionBits : Nat)) double.leastPlace = e + n.log2 - 52 := by
    rw [hL]
    simp only [double, Format.leastPlace]
    simp
    omega
  simp only [hlast]
  have key : Toward.even.cut neg ((n * 2 ^ k) <<< (e - (k : Int) - (e + n.log2 - 52)).toNat) (e + n.log2 - 52 - (e - (k : Int))).toNat = n * 2 ^ (52 - n.log2) := by
    by_cases hk : k ≤ 52 - n.log2
    · have e1 : (e - (k : Int) - (e + n.log2 - 52)).toNat = 52 - n.log2 - k := by omega
      have e2 : (e + n.log2 - 52 - (e - (k : Int))).toNat = 0 := by omega
      rw [e1, e2, Nat.shiftLeft_eq, Nat.mul_assoc, ← Nat.pow_add, show k + (52 - n.log2 - k) = 52 - n.log2 by omega]
      have := cut_exact neg .even (n * 2 ^ (52 - n.log2)) 0 (Nat.zero_le _)
      simpa using this
    · have e1 : (e - (k : Int) - (e + n.log2 - 52)).toNat = 0 := by omega
      have e2 : (e + n.log2 - 52 - (e - (k : Int))).toNat = k - (52 - n.log2) := by omega
      rw [e1, e2, Nat.shiftLeft_zero]
      have hs : n * 2 ^ k = (n * 2 ^ (52 - n.log2)) * 2 ^ (k - (52 - n.log2)) := by
        rw [Nat.mul_assoc, ← Nat.pow_add]; congr 2; omega
      rw [hs]
      apply cut_exact
      rw [← hs, hL]; omega
  rw [key]
  have hX : n * 2 ^ (52 - n.log2) < 2 ^ 53 := by
    have b : n < 2 ^ (n.log2 + 1) := Nat.lt_log2_self
    have : n * 2 ^ (52 - n.log2) < 2 ^ (n.log2 + 1) * 2 ^ (52 - n.log2) := Nat.mul_lt_mul_of_pos_right b (Nat.two_pow_pos _)
    rw [← Nat.pow_add, show n.log2 + 1 + (52 - n.log2) = 53 by omega] at this
    exact this
  have hlp : double.leastPlace = -1074 := by decide
  have hb : double.binade = 2 ^ 52 := rfl
  have hi : double.infRung = 2047 * 2 ^ 52 := by decide
  rw [hlp, hb, hi]
  have e3 : (e + (n.log2 : Int) - 52 - -1074).toNat = (e + n.log2 + 1022).toNat := by omega
  have h4 : (e + n.log2 + 1022).toNat ≤ 1922 := by omega
  rw [e3, min_rung h4 hX]

theorem norm_bounds (n : Nat) (h : 0 < n) (hl : n.log2 ≤ 52) : 2 ^ 52 ≤ n * 2 ^ (52 - n.log2) ∧ n * 2 ^ (52 - n.log2) < 2 ^ 53 := by
  have a := Nat.log2_self_le (n := n) (by omega)
  have b : n < 2 ^ (n.log2 + 1) := Nat.lt_log2_self
  constructor
  · have := Nat.mul_le_mul_right (2 ^ (52 - n.log2)) a
    rw [← Nat.pow_add, show n.log2 + (52 - n.log2) = 52 by omega] at this
    exact this
  · have : n * 2 ^ (52 - n.log2) < 2 ^ (n.log2 + 1) * 2 ^ (52 - n.log2) := Nat.mul_lt_mul_of_pos_right b (Nat.two_pow_pos _)
    rw [← Nat.pow_add, show n.log2 + 1 + (52 - n.log2) = 53 by omega] at this
    exact this

theorem read_word (neg : Bool) (E X : Nat) (h1 : 2 ^ 52 ≤ X) (h2 : X < 2 ^ 53) (hE : E ≤ 1945) : double.read (double.word neg (E * 2 ^ 52 + X)) = .number neg X (-1074 + E) := by
  have hlp : double.leastPlace = -1074 := by decide
  have hb : double.binade = 4503599627370496 := by decide
  have hi : double.infRung = 9218868437227405312 := by decide
  have hsw : double.signWeight = 9223372036854775808 := by decide
  obtain ⟨r, rfl⟩ : ∃ r, X = 4503599627370496 + r := ⟨X - 4503599627370496, by omega⟩
  have hr : r < 4503599627370496 := by omega
  have hq : (E * 2 ^ 52 + (4503599627370496 + r)) / 4503599627370496 = E + 1 := by omega
  have hmod : (E * 2 ^ 52 + (4503599627370496 + r)) % 4503599627370496 = r := by omega
  have hlt : E * 2 ^ 52 + (4503599627370496 + r) < 9218868437227405312 := by omega
  have hge : ¬ E * 2 ^ 52 + (4503599627370496 + r) < 4503599627370496 := by omega
  generalize E * 2 ^ 52 + (4503599627370496 + r) = R at *
  have hw : double.word neg R / 9223372036854775808 % 2 = (if neg then 1 else 0) ∧ double.word neg R % 9223372036854775808 = R := by
    unfold Format.word
    rw [hsw]
    cases neg
    · simp; omega
    · simp; omega
  unfold Format.read
  simp only [hlp, hb, hi, hsw, hw.1, hw.2, hlt, hge, if_true, if_false, hq, hmod]
  cases neg <;> simp

theorem read_zero (neg : Bool) : double.read (double.word neg 0) = .number neg 0 (-1074) := by
  cases neg <;> decide

/-- The word of a whole number. -/
def fl (z : Int) : Nat := floatOfInt .f64 z

theorem fl_eq (z : Int) : fl z = double.nearest (decide (z < 0)) z.natAbs 0 := rfl

def Small (z : Int) : Prop := z.natAbs < 2 ^ 53

theorem small_log {n : Nat} (h0 : 0 < n) (h : n < 2 ^ 53) : n.log2 ≤ 52 := by
  have := (Nat.log2_lt (n := n) (k := 53) (by omega)).2 h
  omega

theorem word_of {neg : Bool} {n : Nat} (k : Nat) (h : 0 < n) (hs : n < 2 ^ 53) : double.nearest neg (n * 2 ^ k) (-(k : Int)) = double.nearest neg n 0 := by
  have hl := small_log h hs
  have a := nearest_exact neg n k 0 h hl (by omega) (by omega)
  have b := nearest_exact neg n 0 0 h hl (by omega) (by omega)
  simp only [Nat.pow_zero, Nat.mul_one, Int.natCast_zero, Int.sub_zero, Int.zero_sub] at a b
  rw [a, b]

theorem nearest_zero (neg : Bool) (e : Int) : double.nearest neg 0 e = double.word neg 0 := by
  simp [Format.nearest]

/-- What a whole number's word is read as. -/
theorem read_fl (z : Int) (h : Small z) : ∃ q : Nat, q ≤ 1074 ∧ double.read (fl z) = .number (decide (z < 0)) (z.natAbs * 2 ^ q) (-(q : Int)) := by
  unfold Small at h
  by_cases hz : z = 0
  · subst hz
    refine ⟨1074, Nat.le_refl _, ?_⟩
    rw [fl_eq]
    simp only [Int.natAbs_zero, nearest_zero, read_zero, Nat.zero_mul]
    rfl
  · have h0 : 0 < z.natAbs := by omega
    have hl := small_log h0 h
    have a := nearest_exact (decide (z < 0)) z.natAbs 0 0 h0 hl (by omega) (by omega)
    simp only [Nat.pow_zero, Nat.mul_one, Int.natCast_zero, Int.sub_zero, Int.zero_add] at a
    have nb := norm_bounds z.natAbs h0 hl
    refine ⟨52 - z.natAbs.log2, by omega, ?_⟩
    have e : (((z.natAbs.log2 : Int) + 1022).toNat) ≤ 1945 := by omega
    have e2 : (-1074 + (((z.natAbs.log2 : Int) + 1022).toNat : Nat) : Int) = -((52 - z.natAbs.log2 : Nat) : Int) := by omega
    rw [fl_eq, a, read_word _ _ _ nb.1 nb.2 e, e2]

theorem signed_eq (z : Int) (q up : Nat) : signed (decide (z < 0)) (z.natAbs * 2 ^ q) up = z * (2 ^ (q + up) : Nat) := by
  unfold signed
  rw [Nat.shiftLeft_eq, Nat.mul_assoc, ← Nat.pow_add]
  by_cases h : z < 0
  · rw [if_pos (by simpa using h)]
    have e : z = -(z.natAbs : Int) := by omega
    generalize z.natAbs = n at e
    subst e
    simp [Int.neg_mul]
  · rw [if_neg (by simpa using h)]
    have e : z = (z.natAbs : Int) := by omega
    generalize z.natAbs = n at e
    subst e
    simp

theorem mul_pow_zero (z : Int) (q : Nat) : z * (2 ^ q : Nat) = 0 ↔ z = 0 := by
  have hp : 0 < 2 ^ q := Nat.two_pow_pos q
  constructor
  · intro h
    rcases Int.mul_eq_zero.1 h with h | h
    · exact h
    · omega
  · intro h; subst h; simp
theorem mul_pow_neg (z : Int) (q : Nat) : z * (2 ^ q : Nat) < 0 ↔ z < 0 := by
  have hp : 0 < 2 ^ q := Nat.two_pow_pos q
  have hp' : (0 : Int) < (2 ^ q : Nat) := by omega
  constructor
  · intro h
    by_cases hz : z < 0
    · exact hz
    · exact absurd h (Int.not_lt.2 (Int.mul_nonneg (by omega) (by omega)))
  · intro h; exact Int.mul_neg_of_neg_of_pos h hp'
theorem mul_pow_abs (z : Int) (q : Nat) : (z * (2 ^ q : Nat)).natAbs = z.natAbs * 2 ^ q := by
  rw [Int.natAbs_mul, Int.natAbs_natCast]

/-- The word of a sum's datum. -/
theorem write_sum (c : Int) (k : Nat) (hc : Small c) (neg : Bool) (h0 : neg = decide (c < 0)) : double.write (.number neg (c * (2 ^ k : Nat)).natAbs (-(k : Int))) = fl c := by
  subst h0
  show double.nearest _ _ _ = _
  rw [mul_pow_abs]
  by_cases hz : c = 0
  · subst hz; simp [nearest_zero, fl_eq]
  · rw [word_of k (by omega) hc]; rfl

theorem sum_data (a b : Int) (q r : Nat) (hc : Small (a + b)) (s t : Bool) (ms mt : Nat)
    (hs : ∀ up, signed s ms up = a * (2 ^ (q + up) : Nat)) (ht : ∀ up, signed t mt up = b * (2 ^ (r + up) : Nat)) (hz : a + b = 0 → (s && t) = false) :
    ((Datum.number s ms (-(q : Int))).sum (.number t mt (-(r : Int)))).map double.write = some (fl (a + b)) := by
  have hb : min (-(q : Int)) (-(r : Int)) = -((max q r : Nat) : Int) := by omega
  have e1 : (-(q : Int) - -((max q r : Nat) : Int)).toNat = max q r - q := by omega
  have e2 : (-(r : Int) - -((max q r : Nat) : Int)).toNat = max q r - r := by omega
  simp only [Datum.sum, hb, e1, e2, hs, ht, Option.map_some]
  rw [show q + (max q r - q) = max q r by omega, show r + (max q r - r) = max q r by omega, ← Int.add_mul]
  congr 1
  apply write_sum _ _ hc
  simp only [mul_pow_zero, mul_pow_neg]
  split
  · rename_i h
    rw [hz h, h]; rfl
  · rfl

theorem fl_add (a b : Int) (ha : Small a) (hb : Small b) (hc : Small (a + b)) : floatBits .add .f64 (fl a) (fl b) = some (fl (a + b)) := by
  obtain ⟨q, _, hq⟩ := read_fl a ha
  obtain ⟨r, _, hr⟩ := read_fl b hb
  show ((double.read (fl a)).sum (double.read (fl b))).map double.write = _
  rw [hq, hr]
  refine sum_data a b q r hc _ _ _ _ (signed_eq a q) (signed_eq b r) ?_
  intro h
  by_cases h1 : a < 0 <;> by_cases h2 : b < 0 <;> simp [h1, h2] <;> omega

theorem signed_opp (z : Int) (q up : Nat) : signed (!decide (z < 0)) (z.natAbs * 2 ^ q) up = (-z) * (2 ^ (q + up) : Nat) := by
  have h := signed_eq z q up
  rw [Int.neg_mul, ← h]
  unfold signed
  by_cases hz : z < 0 <;> simp [hz]

theorem fl_sub (a b : Int) (ha : Small a) (hb : Small b) (hc : Small (a - b)) : floatBits .sub .f64 (fl a) (fl b) = some (fl (a - b)) := by
  obtain ⟨q, _, hq⟩ := read_fl a ha
  obtain ⟨r, _, hr⟩ := read_fl b hb
  show ((double.read (fl a)).sum (double.read (fl b)).opposite).map double.write = _
  rw [hq, hr]
  rw [Int.sub_eq_add_neg] at hc ⊢
  refine sum_data a (-b) q r hc _ _ _ _ (signed_eq a q) (signed_opp b r) ?_
  intro h
  by_cases h1 : a < 0 <;> by_cases h2 : b < 0 <;> simp [h1, h2] <;> omega

theorem fl_mul (a b : Int) (ha : Small a) (hb : Small b) (hc : Small (a * b)) (hs : (decide (a < 0) ^^ decide (b < 0)) = decide (a * b < 0)) : floatBits .mul .f64 (fl a) (fl b) = some (fl (a * b)) := by
  obtain ⟨q, _, hq⟩ := read_fl a ha
  obtain ⟨r, _, hr⟩ := read_fl b hb
  show ((double.read (fl a)).product (double.read (fl b))).map double.write = _
  rw [hq, hr]
  simp only [Datum.product, Option.map_some, hs]
  congr 1
  have e : a.natAbs * 2 ^ q * (b.natAbs * 2 ^ r) = ((a * b) * (2 ^ (q + r) : Nat)).natAbs := by
    rw [mul_pow_abs, Int.natAbs_mul, Nat.pow_add]
    ac_rfl
  rw [e, show -(q : Int) + -(r : Int) = -((q + r : Nat) : Int) by omega]
  exact write_sum _ _ hc _ rfl

theorem fl_mul_nonneg (a b : Int) (h1 : 0 ≤ a) (h2 : 0 ≤ b) (ha : Small a) (hb : Small b) (hc : Small (a * b)) : floatBits .mul .f64 (fl a) (fl b) = some (fl (a * b)) := by
  refine fl_mul a b ha hb hc ?_
  have := Int.mul_nonneg h1 h2
  simp [show ¬ a < 0 by omega, show ¬ b < 0 by omega, show ¬ a * b < 0 by omega]

theorem fl_mul_neg (a b : Int) (h1 : 0 < a) (h2 : b < 0) (ha : Small a) (hb : Small b) (hc : Small (a * b)) : floatBits .mul .f64 (fl a) (fl b) = some (fl (a * b)) := by
  refine fl_mul a b ha hb hc ?_
  have := Int.mul_neg_of_pos_of_neg h1 h2
  simp [show ¬ a < 0 by omega, h2, this]

theorem fl_order (a b : Int) (ha : Small a) (hb : Small b) : double.order (fl a) (fl b) = some (compare a b) := by
  obtain ⟨q, _, hq⟩ := read_fl a ha
  obtain ⟨r, _, hr⟩ := read_fl b hb
  unfold Format.order
  rw [hq, hr]
  have hbm : min (-(q : Int)) (-(r : Int)) = -((max q r : Nat) : Int) := by omega
  have e1 : (-(q : Int) - -((max q r : Nat) : Int)).toNat = max q r - q := by omega
  have e2 : (-(r : Int) - -((max q r : Nat) : Int)).toNat = max q r - r := by omega
  simp only [Datum.order, hbm, e1, e2, signed_eq]
  rw [show q + (max q r - q) = max q r by omega, show r + (max q r - r) = max q r by omega]
  congr 1
  have hp : 0 < 2 ^ (max q r) := Nat.two_pow_pos _
  generalize hP : (2 ^ (max q r) : Nat) = p at *
  have hp' : (0 : Int) < (p : Int) := by omega
  rcases Int.lt_trichotomy a b with h | h | h
  · rw [show compare a b = .lt from by simp [compare, compareOfLessAndEq, h]]
    have := Int.mul_lt_mul_of_pos_right h hp'
    simp [compare, compareOfLessAndEq, this]
  · subst h; simp [compare, compareOfLessAndEq]
  · rw [show compare a b = .gt from by simp [compare, compareOfLessAndEq, show ¬ a < b by omega, show ¬ a = b by omega]]
    have := Int.mul_lt_mul_of_pos_right h hp'
    simp [compare, compareOfLessAndEq, show ¬ a * (p : Int) < b * p by omega, show ¬ a * (p : Int) = b * p by omega]

theorem fl_eql (a b : Int) (ha : Small a) (hb : Small b) : (FloatKind.f64.format.order (fl a) (fl b) == some .eq) = decide (a = b) := by
  show (double.order (fl a) (fl b) == some .eq) = _
  rw [fl_order a b ha hb]
  rcases Int.lt_trichotomy a b with h | h | h
  · simp [compare, compareOfLessAndEq, h, show a ≠ b by omega]
  · subst h; simp [compare, compareOfLessAndEq]
  · simp [compare, compareOfLessAndEq, show ¬ a < b by omega, show a ≠ b by omega]

/-- A whole number's word, cut to a whole number: itself. -/
theorem fl_toInt (z : Int) (h : Small z) (way : Toward) : (double.read (fl z)).toInt way = some z := by
  obtain ⟨q, hq0, hq⟩ := read_fl z h
  rw [hq]
  simp only [Datum.toInt, Datum.integral]
  have e1 : (-(q : Int)).toNat = 0 := by omega
  have e2 : (-(-(q : Int))).toNat = q := by omega
  rw [e1, e2, Nat.shiftLeft_zero]
  have hc : way.cut (decide (z < 0)) (z.natAbs * 2 ^ q) q = z.natAbs := by
    by_cases hz : z.natAbs = 0
    · rw [hz, Nat.zero_mul]
      unfold Toward.cut
      cases way <;> simp [Nat.shiftLeft_eq]
    · apply cut_exact
      rw [log2_mul_pow _ _ (by omega)]
      omega
  rw [hc]
  have := signed_eq z 0 0
  simpa using this

theorem fl_int (z : Int) (h : Small z) (k : IntKind) (h1 : k.min ≤ z) (h2 : z ≤ k.max) : floatToIntVal .f64 (fl z) k = some z := by
  unfold floatToIntVal
  rw [show FloatKind.f64.decode (fl z) = double.read (fl z) from rfl, fl_toInt z h]
  simp [h1, h2]

end Go.Proofs.YtgnddabdjjkgiaaGreatDoor.fl
