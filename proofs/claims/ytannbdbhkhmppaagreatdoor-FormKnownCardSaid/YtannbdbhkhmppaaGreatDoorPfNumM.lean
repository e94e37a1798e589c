/- num.Digits: what stands ahead of strconv. Package printf: what a conversion tells. -/
import Derived.Test.YtannbdbhkhmppaaGreatDoorFtoaM
import Derived.Laws.Externs
import Derived.KernelRfl
import Derived.Test.YtannbdbhkhmppaaGreatDoorPfConv

namespace Go.Proofs.YtannbdbhkhmppaaGreatDoor.pf
open Go.RowKit Go.Proofs.YtannbdbhkhmppaaGreatDoor.sum Go.Proofs.YtannbdbhkhmppaaGreatDoor.kept Go.Proofs.YtannbdbhkhmppaaGreatDoor.app Go.Proofs.YtannbdbhkhmppaaGreatDoor.writer Go.Proofs.YtannbdbhkhmppaaGreatDoor.known Go.Proofs.YtannbdbhkhmppaaGreatDoor.fmtf
set_option linter.unusedVariables false

/-- how two words stand -/
abbrev ord (a b : Nat) : Option Ordering := FloatKind.f64.format.order a b
theorem ord_def (a b : Nat) : FloatKind.f64.format.order a b = ord a b := rfl
/-- the whole part, towards 0 -/
def truncB (b : Nat) : Nat := FloatKind.f64.encode ((FloatKind.f64.decode b).integral .zero)
/-- is no number -/
def nanB (b : Nat) : Bool := match FloatKind.f64.decode b with | .nan _ _ => true | _ => false
/-- -0 is 0 -/
def plainB (b : Nat) : Nat := if (FloatKind.f64.format.order b 0 == some .eq) = true then 0 else b
/-- 0: finite; else what Digits tells of it -/
def kindB (b : Nat) : Nat := if (FloatKind.f64.format.order b b != some .eq) = true then 1 else if (FloatKind.f64.format.order b 9218868437227405311 == some .gt) = true then 2 else if (FloatKind.f64.format.order b 18442240474082181119 == some .lt) = true then 3 else 0

theorem trunc_entry (args : Array Value) (w : World) : (callFunc 52 args).run Tryz.prog w = ((Extern.MathFloor.toIntegral "math.archTrunc" .zero args).run Tryz.prog w).andThen fun v w' => .ok (.value v) w' :=
  run_callFunc_extern Tryz.func52 (by kernel_rfl) (by kernel_rfl) (by kernel_rfl) (by kernel_rfl) args w
theorem run_trunc (b : Nat) (hb : nanB b = false) (w : World) : (callFunc 52 #[.float .f64 b]).run Tryz.prog w = .ok (.value (.float .f64 (truncB b))) w := by
  rw [trunc_entry]
  unfold nanB at hb
  unfold truncB
  change ((match FloatKind.f64.decode b with
    | .nan s t =>
      if FloatKind.f64.format.quiet t = t then pure (.float .f64 b) else do
      let kept ← choose (.extern "math.Floor,Ceil,Trunc,RoundToEven.signallingNaN kept" 2)
      pure (.float .f64 (if kept == 1 then b else FloatKind.f64.encode (.nan s (FloatKind.f64.format.quiet t))))
    | d => pure (.float .f64 (FloatKind.f64.encode (d.integral .zero))) : Sem Value).run Tryz.prog w).andThen _ = _
  cases hd : FloatKind.f64.decode b <;> rw [hd] at hb <;> first | (simp at hb; done) | rfl

def RF (w : World) (b : Nat) (e : Ending) (w' : World) : Prop := e = .returned (.float .f64 b) ∧ w = w'

set_option maxRecDepth 100000 in
theorem trunc_any (w : World) (b : Nat) (hb : nanB b = false) : Calls Tryz.prog 34 #[.float .f64 b] w (RF w (truncB b)) := by
  have q1 := fun w => run_trunc b hb w
  obtain ⟨t, ht⟩ : ∃ t, truncB b = t := ⟨_, rfl⟩
  simp only [ht] at q1 ⊢
  go_enter Tryz.func34, Tryz.ntmps34
  go_wp2
  go_ret
  exact ⟨rfl, rfl⟩

set_option maxRecDepth 100000 in
theorem plain_any (w : World) (b : Nat) : Calls Tryz.prog 33 #[.float .f64 b] w (RF w (plainB b)) := by
  unfold plainB
  by_cases h : (FloatKind.f64.format.order b 0 == some .eq) = true
  · rw [if_pos h]
    go_enter Tryz.func33, Tryz.ntmps33
    go_wp2
    go_ret
    exact ⟨rfl, rfl⟩
  · rw [if_neg h]
    have h : (FloatKind.f64.format.order b 0 == some .eq) = false := by simpa using h
    go_enter Tryz.func33, Tryz.ntmps33
    go_wp2
    go_ret
    exact ⟨rfl, rfl⟩

set_option maxRecDepth 100000 in
set_option maxHeartbeats 4000000 in
theorem digits_fin (w : World) (b : Nat) (S : List UInt8) (hk : kindB b = 0) (hn : nanB b = false)
    (hc : Calls Tryz.prog 32 #[.float .f64 (plainB (truncB b)), .int .u8 102, .int .i64 0, .int .i64 64] w (TxPost w S)) :
    Calls Tryz.prog 13 #[.float .f64 b] w (TxPost w S) := by
  have HC := Hid_mk hc
  have HT := Hid_mk (trunc_any w b hn)
  have HP := Hid_mk (plain_any w (truncB b))
  unfold kindB at hk
  obtain ⟨t, ht⟩ : ∃ t, truncB b = t := ⟨_, rfl⟩
  rw [ht] at HC HT HP
  obtain ⟨p, hp⟩ : ∃ p, plainB t = p := ⟨_, rfl⟩
  rw [hp] at HC HP
  have h1 : (FloatKind.f64.format.order b b != some .eq) = false := by
    revert hk; split
    · intro h; cases h
    · rename_i h; intro _; simpa using h
  rw [if_neg (by simp [h1])] at hk
  have h2 : (FloatKind.f64.format.order b 9218868437227405311 == some .gt) = false := by
    revert hk; split
    · intro h; cases h
    · rename_i h; intro _; simpa using h
  rw [if_neg (by simp [h2])] at hk
  have h3 : (FloatKind.f64.format.order b 18442240474082181119 == some .lt) = false := by
    revert hk; split
    · intro h; cases h
    · rename_i h; intro _; simpa using h
  clear hc hk hn ht hp
  go_enter Tryz.func13, Tryz.ntmps13
  go_wp2_with fail
  with_reducible refine HT.out.mono ?_
  rintro e w1 ⟨rfl, rfl⟩
  go_wp2_with fail
  with_reducible refine HP.out.mono ?_
  rintro e w1 ⟨rfl, rfl⟩
  go_wp2_with fail
  with_reducible refine HC.out.mono ?_
  rintro e w2 ⟨rfl, hk⟩
  have HK := Hid_mk hk
  clear hk
  go_wp2
  go_ret
  exact ⟨rfl, HK.out⟩

end Go.Proofs.YtannbdbhkhmppaaGreatDoor.pf

namespace Go.Proofs.YtannbdbhkhmppaaGreatDoor.pf
open Go.RowKit Go.Lib Go.Proofs.YtannbdbhkhmppaaGreatDoor.sum Go.Proofs.YtannbdbhkhmppaaGreatDoor.kept Go.Proofs.YtannbdbhkhmppaaGreatDoor.app Go.Proofs.YtannbdbhkhmppaaGreatDoor.writer Go.Proofs.YtannbdbhkhmppaaGreatDoor.known Go.Proofs.YtannbdbhkhmppaaGreatDoor.str Go.Proofs.YtannbdbhkhmppaaGreatDoor.fmtf
set_option linter.unusedVariables false

theorem conv_u64 (b : Nat) (u : Int) (h : floatToIntVal .f64 b .u64 = some u) (w : World) : (convert 25 77 (.float .f64 b)).run Tryz.prog w = .ok (.int .u64 u) w :=
  run_convert_float_int w 25 77 .f64 .u64 b u (by rw [Tryz.underlying25]; rfl) Tryz.underlying77 h

set_option maxRecDepth 100000 in
set_option maxHeartbeats 2000000 in
theorem char_num (w : World) (b : Nat) (s : List UInt8) (u : Nat) (h1 : (FloatKind.f64.format.order 0 b == some .lt) = true) (h2 : (FloatKind.f64.format.order b 4845873199050653696 == some .lt) = true) (hu : floatToIntVal .f64 b .u64 = some (u : Int)) (hu2 : u < 256) :
    Calls Tryz.prog 23 #[arV ⟨b, s, true⟩] w (TxK w [UInt8.ofNat u]) := by
  have hcv := conv_u64 b u hu
  have hwr : IntKind.u8.wrap (u : Int) = (u : Int) := by rw [IntKind.wrap_u8]; omega
  have hbs : ∀ W : World, Bs (W.alloc (.cells #[.int .u8 (u : Int)] 5)) (.slice (some ⟨W.heap.size, 0, none⟩) 1 1) [UInt8.ofNat u] := fun W => fmtf.bs_byte W u hu2
  have HCb := Hid_mk fun W => conv_bs (hbs W)
  have hu0 : (0 : Int) ≤ (u : Int) := Int.natCast_nonneg _
  simp only [arV]
  clear hbs hu
  go_enter Tryz.func23, Tryz.ntmps23
  go_upto_region 6 with fail
  obtain ⟨W1, hW1, hk1, hz1⟩ := named_alloc w (.cells #[.float .f64 b, .string (st s), .bool true] 27)
  rw [hW1]
  have HK := Hid_mk (hk1.alloc (.cells #[.int .u8 (u : Int)] 5))
  have q1 := HCb.out W1
  clear hW1 hk1 hz1 HCb
  go_wp2
  go_ret
  exact ⟨rfl, HK.out⟩

set_option maxRecDepth 100000 in
set_option maxHeartbeats 2000000 in
theorem char_text (w : World) (n : Nat) (s : List UInt8) (hs : s.length ≤ 140737488355327) : Calls Tryz.prog 23 #[arV ⟨n, s, false⟩] w (TxK w (s.take 1)) := by
  have hsz := st_size s
  have hx := st_piece s 0 (min s.length 1)
  rw [Nat.sub_zero, List.drop_zero] at hx
  have ht : s.take (min s.length 1) = s.take 1 := by
    cases s <;> simp
  rw [ht] at hx
  obtain ⟨M, hM⟩ : ∃ M : Nat, min s.length 1 = M := ⟨_, rfl⟩
  rw [hM] at hx
  unfold TxK
  rw [← hx]
  obtain ⟨S, hS⟩ : ∃ S, st s = S := ⟨_, rfl⟩
  simp only [arV]
  rw [hS] at hsz ⊢
  have hMi : min (S.size : Int) 1 = (M : Int) := by omega
  have hM0 : (0 : Int) ≤ (M : Int) := Int.natCast_nonneg _
  have hMs : (M : Int) ≤ (S.size : Int) := by omega
  clear hx hS hM hsz ht
  go_enter Tryz.func23, Tryz.ntmps23
  go_wp2
  go_ret
  exact ⟨rfl, (Kp.refl No w).alloc _⟩

/-- is it finite, as asked -/
def finB (b : Nat) : Bool := (FloatKind.f64.format.order 18442240474082181119 b == some .lt || FloatKind.f64.format.order 18442240474082181119 b == some .eq) && (FloatKind.f64.format.order b 9218868437227405311 == some .lt || FloatKind.f64.format.order b 9218868437227405311 == some .eq)
set_option maxRecDepth 100000 in
set_option maxHeartbeats 2000000 in
theorem finite_any (w : World) (b : Nat) : Calls Tryz.prog 15 #[.float .f64 b] w (fun e w' => e = .returned (.bool (finB b)) ∧ w = w') := by
  obtain ⟨F, hF⟩ : ∃ F, finB b = F := ⟨_, rfl⟩
  rw [hF]
  unfold finB at hF
  have HF := Hid_mk hF
  clear hF
  go_enter Tryz.func15, Tryz.ntmps15
  go_wp2
  all_goals go_ret
  · exact ⟨by rw [HF.out]; rfl, rfl⟩
  · rename_i h
    refine ⟨?_, rfl⟩
    rw [← HF.out]
    simp only [Bool.and_eq_true, Bool.or_eq_true, beq_iff_eq, Bool.false_eq, Bool.and_eq_false_iff] at *
    simp [h]

theorem CvAt.no2 {w w' : World} {b : Nat} {c : Cv} (h : CvAt w b c) (hk : Kp No w w') : CvAt w' b c := h.kept hk id

/-- noughts ahead, up to the precision -/
def noughtsS (p : Int) (d : List UInt8) : List UInt8 := List.replicate (max (p - (d.length : Int)) 0).toNat 48 ++ d
theorem repeat_one (x : UInt8) : ∀ n, Lib.repeatL [x] n = List.replicate n x
  | 0 => rfl
  | n + 1 => by rw [Lib.repeatL, repeat_one x n, List.replicate_succ]; rfl
theorem repeat_any (w : World) (x : UInt8) (c : Int) (hc : 0 ≤ c) (hc2 : c ≤ 1000000) : Calls Tryz.prog 22 #[.string ⟨#[x]⟩, .int .i64 c] w (TxK w (List.replicate c.toNat x)) := by
  obtain ⟨n, rfl⟩ : ∃ n : Nat, c = (n : Int) := ⟨c.toNat, by omega⟩
  refine (Tryz.strings_Repeat ⟨#[x]⟩ n w (by omega) (by show 1 * n ≤ _; omega)).mono ?_
  rintro e w' ⟨rfl, hb⟩
  refine ⟨?_, Kp.of_below hb⟩
  rw [show (⟨#[x]⟩ : ByteArray).data.toList = [x] from rfl, repeat_one]
  rfl
theorem st_add (a b : List UInt8) : st a ++ st b = st (a ++ b) := by
  apply ByteArray.ext
  simp [st]

/-- what is told -/
structure Td where
  sign : List UInt8
  body : List UInt8
  fills : Bool
abbrev tdV (t : Td) : Value := .agg #[.string (st t.sign), .string (st t.body), .bool t.fills]
def TdPost (w : World) (t : Td) (e : Ending) (w' : World) : Prop := e = .returned (tdV t) ∧ Kp No w w'
def wholeS (c : Cv) (d : List UInt8) (below : Bool) : Td := ⟨signS c below, noughtsS c.prec d, decide (c.prec = -1)⟩

set_option maxRecDepth 100000 in
set_option maxHeartbeats 4000000 in
theorem whole_any (w : World) (c : Cv) (d : List UInt8) (below : Bool) (hl : c.letter < 256) (hd : d.length ≤ 100000) (hp1 : -1 ≤ c.prec) (hp2 : c.prec ≤ 1000) :
    Calls Tryz.prog 27 #[cvV c, .string (st d), .bool below] w (TdPost w (wholeS c d below)) := by
  have HS := Hid_mk fun W => sign_any W c below hl
  obtain ⟨R, hR⟩ : ∃ R, wholeS c d below = R := ⟨_, rfl⟩
  rw [hR]
  unfold wholeS noughtsS at hR
  have hsz := st_size d
  obtain ⟨N, hN⟩ : ∃ N : Int, max (c.prec - (d.length : Int)) 0 = N := ⟨_, rfl⟩
  rw [hN] at hR
  have HRp := Hid_mk fun W => repeat_any W 48 N (by omega) (by omega)
  have hNz : N ≤ 1001 := by omega
  have hadd := st_add (List.replicate N.toNat 48) d
  have hsz2 : (st (List.replicate N.toNat 48)).size ≤ 1001 := by rw [st_size, List.length_replicate]; omega
  obtain ⟨sg, hsg⟩ : ∃ sg, signS c below = sg := ⟨_, rfl⟩
  rw [hsg] at hR
  simp only [hsg] at HS
  have HR := Hid_mk hR
  have HAd := Hid_mk hadd
  obtain ⟨cl, cp, cbk, cno, cw, cpr, cle⟩ := c
  simp only at hp1 hp2 hN hR HR
  simp only [cvV, cvC] at HS ⊢
  obtain ⟨S, hS⟩ : ∃ S, st d = S := ⟨_, rfl⟩
  obtain ⟨Z, hZ⟩ : ∃ Z, st (List.replicate N.toNat 48) = Z := ⟨_, rfl⟩
  rw [hS, hZ] at HAd
  rw [hZ] at hsz2
  unfold TxK at HRp
  simp only [hZ] at HRp
  rw [hS] at hsz ⊢
  have hNi : max (cpr - (S.size : Int)) 0 = N := by rw [hsz]; exact hN
  have hSl : (S.size : Int) ≤ 100000 := by omega
  clear hR hadd hsg hS hZ hN hsz hl hd
  go_enter Tryz.func27, Tryz.ntmps27
  go_upto_region 1 with fail
  obtain ⟨W1, hW1, hk1, hz1⟩ := named_alloc w (.cells #[.bool cl, .bool cp, .bool cbk, .bool cno, .int .i64 cw, .int .i64 cpr, .int .u8 (cle : Int)] 36)
  have hcv := CvAt.new w ⟨cl, cp, cbk, cno, cw, cpr, cle⟩ 36
  have hcv2 : CvAt W1 w.heap.size ⟨cl, cp, cbk, cno, cw, cpr, cle⟩ := by rw [← hW1]; exact hcv
  rw [hW1]
  obtain ⟨W2, hW2, hk2, hz2⟩ := named_alloc W1 (.cells #[.string ⟨#[]⟩, .string ⟨#[]⟩, .bool false] 41)
  have hb2 := B3.new W1 (.string ⟨#[]⟩) (.string ⟨#[]⟩) (.bool false) 41
  rw [hW2] at hb2 ⊢
  obtain ⟨Cb, hCb⟩ : ∃ Cb, w.heap.size = Cb := ⟨_, rfl⟩
  rw [hCb] at hcv2 hz1 ⊢
  rw [hz1] at hb2
  obtain ⟨Tb, hTb⟩ : ∃ Tb, Cb + 1 = Tb := ⟨_, rfl⟩
  rw [hTb] at hb2 ⊢
  have HT := Hid_mk (show ¬ Tb < w.heap.size by omega)
  have hcv3 := hcv2.kept hk2 id
  have HK := Hid_mk (hk1.trans' hk2)
  have HC3 := Hid_mk hcv3
  have HB3 := Hid_mk hb2
  have hct : Cb ≠ Tb := by omega
  obtain ⟨d0, d1, d2, d3, d4, d5, d6, d7⟩ := hcv3
  simp only at d0 d1 d2 d3 d4 d5 d6
  clear hcv hcv2 hW1 hW2 hk1 hk2 hz1 hz2 hb2 hCb hTb
  go_wp2_with fail
  try rw [hNi]
  with_reducible refine (HRp.out _).mono ?_
  rintro e w3 ⟨rfl, hk3⟩
  have hcv3 := HC3.out.kept hk3 id
  have HC3 := Hid_mk hcv3
  have hb3 := HB3.out.no hk3
  have HB := Hid_mk hb3
  have HK3 := Hid_mk (HK.out.trans' hk3)
  clear d0 d1 d2 d3 d4 d5 d6 d7 HB3 hk3
  clear hcv3
  obtain ⟨r0, r1, r2, r3⟩ := hb3
  unfold TxK at HS
  have hcat : ¬ (9223372036854775807 < Z.size + S.size) := by omega
  go_upto_region 2 with fail
  refine wp_region_held_drew (S := fun W => CvAt W Cb ⟨cl, cp, cbk, cno, cw, cpr, cle⟩) (by kernel_rfl) (HC3.out.no2 (Kp.refl No w3).drew) (fun hHeld => ?_)
  try dsimp only at hHeld
  refine wpAnyH_take (i := 0) (oi := { dst := some 15, op := Op.load 36 (Operand.tmp 3), type := 36, pos := "tell.go:74", after := #[], guard := none }) (v := ?_) rfl (by kernel_rfl) (by kernel_rfl) (by kernel_rfl) (fun _ _ _ h => h) (Or.inl ⟨by rfl, ?_⟩) (by assumption) ?_
  rotate_left 1
  · intro W hSw; (try dsimp only at hSw); (obtain ⟨d0, d1, d2, d3, d4, d5, d6, d7⟩ := hSw; simp only at d0 d1 d2 d3 d4 d5 d6); go_simp; all_goals (with_reducible rfl)
  try simp only [Act.put, List.setIfInBounds_toArray, List.set_cons_zero, List.set_cons_succ]
  refine wpAnyH_take (i := 1) (oi := { dst := some 16, op := Op.move (Operand.tmp 2), type := 4, pos := "tell.go:74", after := #[], guard := none }) (v := ?_) rfl (by kernel_rfl) (by kernel_rfl) (by kernel_rfl) (fun _ _ _ h => h) (Or.inl ⟨by rfl, ?_⟩) (by assumption) ?_
  rotate_left 1
  · intro W hSw; (try dsimp only at hSw); (obtain ⟨d0, d1, d2, d3, d4, d5, d6, d7⟩ := hSw; simp only at d0 d1 d2 d3 d4 d5 d6); go_simp; all_goals (with_reducible rfl)
  try simp only [Act.put, List.setIfInBounds_toArray, List.set_cons_zero, List.set_cons_succ]
  refine wpAnyH_take (i := 3) (oi := { dst := some 18, op := Op.move (Operand.tmp 7), type := 9, pos := "tell.go:74", after := #[], guard := none }) (v := ?_) rfl (by kernel_rfl) (by kernel_rfl) (by kernel_rfl) (fun _ _ _ h => h) (Or.inl ⟨by rfl, ?_⟩) (by assumption) ?_
  rotate_left 1
  · intro W hSw; (try dsimp only at hSw); (obtain ⟨d0, d1, d2, d3, d4, d5, d6, d7⟩ := hSw; simp only at d0 d1 d2 d3 d4 d5 d6); go_simp; all_goals (with_reducible rfl)
  try simp only [Act.put, List.setIfInBounds_toArray, List.set_cons_zero, List.set_cons_succ]
  refine wpAnyH_take (i := 4) (oi := { dst := some 19, op := Op.move (Operand.tmp 1), type := 9, pos := "tell.go:74", after := #[], guard := none }) (v := ?_) rfl (by kernel_rfl) (by kernel_rfl) (by kernel_rfl) (fun _ _ _ h => h) (Or.inl ⟨by rfl, ?_⟩) (by assumption) ?_
  rotate_left 1
  · intro W hSw; (try dsimp only at hSw); (obtain ⟨d0, d1, d2, d3, d4, d5, d6, d7⟩ := hSw; simp only at d0 d1 d2 d3 d4 d5 d6); go_simp; all_goals (with_reducible rfl)
  try simp only [Act.put, List.setIfInBounds_toArray, List.set_cons_zero, List.set_cons_succ]
  refine wpAnyH_take (i := 5) (oi := { dst := some 20, op := Op.binOp BinOp.add 9 (Operand.tmp 18) (Operand.tmp 19) 9, type := 9, pos := "tell.go:74", after := #[{ on := 3, ground := Ground.data }, { on := 4, ground := Ground.data }], guard := none }) (v := ?_) rfl (by kernel_rfl) (by kernel_rfl) (by kernel_rfl) (fun _ _ _ h => h) (Or.inl ⟨by rfl, ?_⟩) (by assumption) ?_
  rotate_left 1
  · intro W hSw; (try dsimp only at hSw); (obtain ⟨d0, d1, d2, d3, d4, d5, d6, d7⟩ := hSw; simp only at d0 d1 d2 d3 d4 d5 d6); go_simp; all_goals (with_reducible rfl)
  try simp only [Act.put, List.setIfInBounds_toArray, List.set_cons_zero, List.set_cons_succ]
  refine wpAnyH_take (i := 6) (oi := { dst := some 21, op := Op.fieldAddr 36 (Operand.tmp 3) 5, type := 0, pos := "tell.go:74", after := #[], guard := none }) (v := ?_) rfl (by kernel_rfl) (by kernel_rfl) (by kernel_rfl) (fun _ _ _ h => h) (Or.inl ⟨by rfl, ?_⟩) (by assumption) ?_
  rotate_left 1
  · intro W hSw; (try dsimp only at hSw); (obtain ⟨d0, d1, d2, d3, d4, d5, d6, d7⟩ := hSw; simp only at d0 d1 d2 d3 d4 d5 d6); go_simp; all_goals (with_reducible rfl)
  try simp only [Act.put, List.setIfInBounds_toArray, List.set_cons_zero, List.set_cons_succ]
  refine wpAnyH_take (i := 7) (oi := { dst := some 22, op := Op.load 3 (Operand.tmp 21), type := 3, pos := "tell.go:74", after := #[{ on := 6, ground := Ground.data }], guard := none }) (v := ?_) rfl (by kernel_rfl) (by kernel_rfl) (by kernel_rfl) (fun _ _ _ h => h) (Or.inl ⟨by rfl, ?_⟩) (by assumption) ?_
  rotate_left 1
  · intro W hSw; (try dsimp only at hSw); (obtain ⟨d0, d1, d2, d3, d4, d5, d6, d7⟩ := hSw; simp only at d0 d1 d2 d3 d4 d5 d6); go_simp; all_goals (with_reducible rfl)
  try simp only [Act.put, List.setIfInBounds_toArray, List.set_cons_zero, List.set_cons_succ]
  refine wpAnyH_take (i := 8) (oi := { dst := some 23, op := Op.binOp BinOp.eql 3 (Operand.tmp 22) (Operand.const (Value.int IntKind.i64 (-1))) 3, type := 4, pos := "tell.go:74", after := #[{ on := 7, ground := Ground.data }], guard := none }) (v := ?_) rfl (by kernel_rfl) (by kernel_rfl) (by kernel_rfl) (fun _ _ _ h => h) (Or.inl ⟨by rfl, ?_⟩) (by assumption) ?_
  rotate_left 1
  · intro W hSw; (try dsimp only at hSw); (obtain ⟨d0, d1, d2, d3, d4, d5, d6, d7⟩ := hSw; simp only at d0 d1 d2 d3 d4 d5 d6); go_simp; all_goals (with_reducible rfl)
  try simp only [Act.put, List.setIfInBounds_toArray, List.set_cons_zero, List.set_cons_succ]
  refine wpAnyH_ready (rs := [2]) (by kernel_rfl) (by simp) ?_
  refine AllReadyH.cons (o := { dst := some 17, op := Op.call { callee := Callee.value (Operand.func 26), args := #[Operand.tmp 15, Operand.tmp 16], argTypes := #[36, 4] }, type := 9, pos := "tell.go:74", after := #[{ on := 0, ground := Ground.data }, { on := 1, ground := Ground.data }], guard := none }) rfl (fun K hK => ?_) AllReadyH.nil
  go_simp
  with_reducible refine (HS.out _).mono ?_
  rintro e w4 ⟨rfl, hk4⟩
  have HK4 := Hid_mk (HK3.out.trans' (Kp.trans' (Kp.refl No w3).drew hk4))
  have s0 := hk4.cell' r0 id
  have s1 := hk4.cell' r1 id
  have s2 := hk4.cell' r2 id
  have s3 := (HB.out.no (Kp.trans' (Kp.refl No w3).drew hk4)).warm
  have HC4 := Hid_mk ((HC3.out.no2 (Kp.refl No w3).drew).no2 hk4)
  clear hk4
  refine hK _ _ (HC4.out) (fun hHeld => ?_)
  clear hK K
  try dsimp only at hHeld
  try simp only [Act.put, List.setIfInBounds_toArray, List.set_cons_zero, List.set_cons_succ]
  refine wpAnyH_take (i := 9) (oi := { dst := some 24, op := Op.build 41 #[(0, Operand.tmp 17), (1, Operand.tmp 20), (2, Operand.tmp 23)], type := 41, pos := "tell.go:74", after := #[{ on := 2, ground := Ground.data }, { on := 5, ground := Ground.data }, { on := 8, ground := Ground.data }], guard := none }) (v := ?_) rfl (by kernel_rfl) (by kernel_rfl) (by kernel_rfl) (fun _ _ _ h => h) (Or.inl ⟨by rfl, ?_⟩) (by assumption) ?_
  rotate_left 1
  · intro W hSw; (try dsimp only at hSw); (obtain ⟨d0, d1, d2, d3, d4, d5, d6, d7⟩ := hSw; simp only at d0 d1 d2 d3 d4 d5 d6); go_simp; all_goals (with_reducible rfl)
  try simp only [Act.put, List.setIfInBounds_toArray, List.set_cons_zero, List.set_cons_succ]
  refine wpAnyH_ready (rs := [10]) (by kernel_rfl) (by simp) ?_
  refine AllReadyH.cons (o := { dst := none, op := Op.store 41 (Operand.tmp 6) (Operand.tmp 24), type := 0, pos := "tell.go:74", after := #[{ on := 9, ground := Ground.data }, { on := 2, ground := Ground.chain }, { on := 0, ground := Ground.phase }, { on := 1, ground := Ground.phase }, { on := 2, ground := Ground.phase }, { on := 3, ground := Ground.phase }, { on := 4, ground := Ground.phase }, { on := 5, ground := Ground.phase }, { on := 6, ground := Ground.phase }, { on := 7, ground := Ground.phase }, { on := 8, ground := Ground.phase }, { on := 9, ground := Ground.phase }], guard := none }) rfl (fun K hK => ?_) AllReadyH.nil
  go_simp
  refine hK _ _ (HC4.out.kept ((((Kp.refl (fun k => k = Tb) w4).setCell (p := ⟨Tb, 0, none⟩) (fun _ => rfl) _).setCell (p := ⟨Tb, 1, none⟩) (fun _ => rfl) _).setCell (p := ⟨Tb, 2, none⟩) (fun _ => rfl) _) (fun e => hct e)) (fun hHeld => ?_)
  clear hK K
  try dsimp only at hHeld
  try simp only [Act.put, List.setIfInBounds_toArray, List.set_cons_zero, List.set_cons_succ]
  refine wpAnyH_done (by kernel_rfl) ?_ _
  go_wp2
  refine bodyPost_ret (v := .agg #[.string (st sg), .string (Z ++ S), .bool (cpr == -1)]) ?_ rfl ?_
  · simp [results, Tryz.results27, go_sem, s0, s1, s2]
  · rw [← HR.out, HAd.out]
    exact ⟨rfl, ((HK4.out.setCell (p := ⟨Tb, 0, none⟩) (fun e => absurd e HT.out) _).setCell (p := ⟨Tb, 1, none⟩) (fun e => absurd e HT.out) _).setCell (p := ⟨Tb, 2, none⟩) (fun e => absurd e HT.out) _⟩

end Go.Proofs.YtannbdbhkhmppaaGreatDoor.pf
