/- Package ere: a brace behind a part; all signs. -/
import Derived.Test.YtaneblecgjahbabEreAgain
import Derived.Test.YtaneblecgjahbabErePieceM
import Derived.Deep.RegionHeld3

namespace Go.Proofs.Ytaneblecgjahbab.ere
open Go.RowKit Go.Proofs.Ytaneblecgjahbab.sum Go.Proofs.Ytaneblecgjahbab.kept Go.Proofs.Ytaneblecgjahbab.pop Go.Proofs.Ytaneblecgjahbab.cls Go.Proofs.Ytaneblecgjahbab.tre Go.Proofs.Ytaneblecgjahbab.str
set_option linter.unusedVariables false

set_option maxRecDepth 100000 in
set_option maxHeartbeats 4000000 in
theorem sign_brace {w0 w : World} {q : Nat} {l : List UInt8} {k o : Nat} (h : RdAt w0 w q l k o) (hl : l.length < 4294967281) (hk : k < l.length) (T : Nat → Prop) (t : Tr) (v : Value) (hv : PtV T w (absP t) v)
    (hT : ∀ b, w.heap.size ≤ b → T b) (hTq : ∀ b, T b → b ≠ q) (hx0 : atB l k = 123) :
    Calls Try.prog 91 #[.pointer (some ⟨q, 0, none⟩), v] w (RsPost T w0 w q l k o (sign1 l t k)) := by
  obtain ⟨xk, xf, xa, xn, xc, rfl, hr1⟩ := hv
  have hb : (absP t).n ≤ 401 ∧ (absP t).h ≤ 41 := ⟨absP_n t, absP_h t⟩
  obtain ⟨W0, hW0⟩ : ∃ W0, (w.alloc (.cells (cellsP xk xf xa xn xc (absP t).n (absP t).h) 102)).alloc (.cells #[.int .i64 0, .int .u64 0, .int .u64 0, .int .u64 0, .int .u64 0, .slice none 0 0, .int .i64 0, .int .i64 0] 102) = W0 := ⟨_, rfl⟩
  obtain ⟨r, hr⟩ : ∃ r, w.heap.size = r := ⟨_, rfl⟩
  have hK0 : Kp No w W0 := by rw [← hW0]; exact ((Kp.refl No w).alloc _).alloc _
  have hz : W0.heap.size = r + 2 := by rw [← hW0, ← hr]; simp
  obtain ⟨xp, hxp⟩ : ∃ xp, absP t = xp := ⟨_, rfl⟩
  rw [hxp] at hr1 hW0 hb ⊢
  have hA : PAt W0 r (.int .i64 xk) (.int .u64 (wd xf 0 64 : Nat)) (.int .u64 (wd xf 64 64 : Nat)) (.int .u64 (wd xf 128 64 : Nat)) (.int .u64 (wd xf 192 64 : Nat)) (.slice xa xn xc) (.int .i64 (xp.n : Int)) (.int .i64 (xp.h : Int)) := by
    rw [← hW0, ← hr]
    exact (PAt.new w _ _ _ _ _ _ _ _ _).kept ((Kp.refl No _).alloc _) id
  have hB : PAt W0 (r + 1) (.int .i64 0) (.int .u64 0) (.int .u64 0) (.int .u64 0) (.int .u64 0) (.slice none 0 0) (.int .i64 0) (.int .i64 0) := by
    have e : r + 1 = (w.alloc (.cells (cellsP xk xf xa xn xc xp.n xp.h) 102)).heap.size := by rw [← hr]; simp
    rw [← hW0, e]
    exact PAt.new _ _ _ _ _ _ _ _ _ _
  unfold cellsP at hW0
  have hR0 := h.no hK0
  have hqr : q < r := by have := h.lt; omega
  have hV0 : ReV (fun b => T b ∧ b ≠ r ∧ b ≠ r + 1) W0 xp.t (.agg (cellsR xk xf xa xn xc)) := ReV.no hK0 _ _ (ReV.wider (fun b hb hlt => ⟨hb, by omega, by omega⟩) _ _ hr1)
  obtain ⟨T1, hT1⟩ : ∃ T1, (fun b => T b ∧ b ≠ r ∧ b ≠ r + 1) = T1 := ⟨_, rfl⟩
  have hTn : ∀ b, r + 2 ≤ b → T1 b := by rw [← hT1]; exact fun b hb => ⟨hT b (by omega), by omega, by omega⟩
  have hTr : ∀ b, T1 b → b ≠ r ∧ b ≠ r + 1 ∧ b ≠ q := by rw [← hT1]; exact fun b hb => ⟨hb.2.1, hb.2.2, hTq b hb.1⟩
  have hTt : ∀ b, T1 b → T b := by rw [← hT1]; exact fun b hb => hb.1
  rw [hT1] at hV0
  have hsz := st_size l
  have hg := fun h => st_get l k h
  have hki : (k : Int) < (l.length : Int) := by omega
  have hki0 : (0 : Int) ≤ (k : Int) := Int.natCast_nonneg _
  have hwk : IntKind.i64.wrap ((k : Int) + 1) = ((k + 1 : Nat) : Int) := by rw [IntWalk.i64_in _ (by omega)]; push_cast; rfl
  have HKS := Hid_mk hk
  have HXp := Hid_mk hxp
  have HW0 := Hid_mk hW0
  have HR := Hid_mk hr
  have HK0 := Hid_mk hK0
  have HZ := Hid_mk hz
  have HA := Hid_mk hA
  have HB := Hid_mk hB
  have HR0 := Hid_mk hR0
  have HV0 := Hid_mk hV0
  have HTn := Hid_mk hTn
  have HTr := Hid_mk hTr
  have HTt := Hid_mk hTt
  have HQr := Hid_mk hqr
  have HBd := Hid_mk hb
  obtain ⟨y, hy⟩ : ∃ y, atB l k = y := ⟨_, rfl⟩
  have hg2 : ∀ h : k < (st l).size, ((st l)[k]).toNat = y := fun h => (hg h).trans hy
  have HY := Hid_mk hy
  have hx : y = 123 := hy.symm.trans hx0
  obtain ⟨R, hRs⟩ : ∃ R, sign1 l t k = R := ⟨_, rfl⟩
  rw [hRs]
  unfold sign1 at hRs
  rw [hy] at hRs
  have HRs := Hid_mk hRs
  have c0 := hR0.c0
  have c1 := hR0.c1
  clear hr1 hW0 hr hK0 hz hA hB hR0 hV0 hTn hTr hTt hb hT hTq hT1 hg hy hk h hqr hRs hxp
  go_enter Try.func91, Try.ntmps91
  unfold cellsP
  go_upto_region 1 with fail
  rw [HR.out, HW0.out]
  clear HW0
  go_wp2
  go_quiet (fail)
  go_upto_region 7 with fail
  refine wp_name (fun W => Kp No W0 W) ((Kp.refl No W0).drewN _) ?_
  clear hg2 c0 c1
  rintro W1 hk1
  have hA1 := HA.out.kept hk1 id
  have hB1 := HB.out.kept hk1 id
  have hR1 := HR0.out.no hk1
  have hV1 := ReV.no hk1 _ _ HV0.out
  have HK1 := Hid_mk hk1
  have HA1 := Hid_mk hA1
  have HB1 := Hid_mk hB1
  have HR1 := Hid_mk hR1
  have HV1 := Hid_mk hV1
  have HZ1 := Hid_mk (show r + 2 ≤ W1.heap.size by have := HZ.out; have := hk1.size; omega)
  have c0 := hR1.c0
  have c1 := hR1.c1
  have cw := hR1.warm
  obtain ⟨p0, p1, p2, p3, p4, p5, p6, p7, pw⟩ := hA1
  clear hk1 hB1 hR1 hV1 HV0 HR0 HA HB
  subst hx
  have hke : (k : Int) + 1 = ((k + 1 : Nat) : Int) := by push_cast; rfl
  have ht := fun W => times_any W l (k + 1) HKS.out hl
  rw [← hke] at ht
  have hwk1 : IntKind.i64.wrap ((k : Int) + 1) = (k : Int) + 1 := IntWalk.i64_in _ (by have := HKS.out; omega)
  have hzk1 : (0 : Int) ≤ (k : Int) + 1 := by omega
  have htm : ∀ W, Calls Try.prog 104 #[.string (st l), .int .i64 ((k : Int) + 1)] W fun e w' => ∃ (a b : Int) (c : Bool) (n : Int) (ok : Bool), e = .returned (.tuple #[.agg #[.int .i64 a, .int .i64 b, .bool c], .int .i64 n, .bool ok]) ∧ Hid (match timesS l (k + 1) with | none => ok = false | some (x, m) => ok = true ∧ a = x.1 ∧ b = x.2.1 ∧ c = x.2.2 ∧ n = m) ∧ Kp No W w' := by
    intro W
    refine (ht W).mono ?_
    rintro e w' ⟨a, b, c, n, ok, rfl, h1, h2⟩
    exact ⟨a, b, c, n, ok, rfl, Hid_mk h1, h2⟩
  have HTm := Hid_mk htm
  clear ht htm hke hwk
  go_wp2
  have hKeep : ∀ W, Kp No W1 W → (W.cell? ⟨q, 0, none⟩ = some (.string (st l)) ∧ W.cell? ⟨q, 1, none⟩ = some (.int .i64 (k : Int)) ∧ Hid (Kp No W1 W)) := fun W h => ⟨h.cell' c0 id, h.cell' c1 id, Hid_mk h⟩
  have HKeep := Hid_mk hKeep
  have hS := hKeep W1.drew ((Kp.refl No W1).drew)
  have HKc := Hid_mk ((Kp.refl No W1).drew)
  clear hKeep p0 p1 p2 p3 p4 p5 p6 p7 pw c0 c1 cw
  refine wp_region_held_drew (S := (fun W => W.cell? ⟨q, 0, none⟩ = some (.string (st l)) ∧ W.cell? ⟨q, 1, none⟩ = some (.int .i64 (k : Int)) ∧ Hid (Kp No W1 W))) (by kernel_rfl) (by first | exact hS | (dsimp only; exact hS)) (fun hHeld => ?_)
  clear hHeld; have hHeld := hS
  refine wpAnyH_take (i := 0) (oi := { dst := some 19, op := Op.move (Operand.tmp 0), type := 132, pos := "parse.go:91", after := #[], guard := none }) (v := ?_) rfl (by kernel_rfl) (by kernel_rfl) (by kernel_rfl) (fun _ _ _ h => h) (Or.inl ⟨by rfl, ?_⟩) (by assumption) ?_
  rotate_left 1
  · intro w hSw; (try dsimp only at hSw); go_simp; all_goals (with_reducible rfl)
  try simp only [Act.put, List.setIfInBounds_toArray, List.set_cons_zero, List.set_cons_succ]
  refine wpAnyH_take (i := 1) (oi := { dst := some 20, op := Op.nilCheck (Operand.tmp 19), type := 0, pos := "parse.go:91", after := #[{ on := 0, ground := Ground.data }], guard := none }) (v := ?_) rfl (by kernel_rfl) (by kernel_rfl) (by kernel_rfl) (fun _ _ _ h => h) (Or.inl ⟨by rfl, ?_⟩) (by assumption) ?_
  rotate_left 1
  · intro w hSw; (try dsimp only at hSw); go_simp; all_goals (with_reducible rfl)
  try simp only [Act.put, List.setIfInBounds_toArray, List.set_cons_zero, List.set_cons_succ]
  refine wpAnyH_take (i := 2) (oi := { dst := some 21, op := Op.fieldAddr 100 (Operand.tmp 20) 0, type := 0, pos := "parse.go:91", after := #[{ on := 1, ground := Ground.data }], guard := none }) (v := ?_) rfl (by kernel_rfl) (by kernel_rfl) (by kernel_rfl) (fun _ _ _ h => h) (Or.inl ⟨by rfl, ?_⟩) (by assumption) ?_
  rotate_left 1
  · intro w hSw; (try dsimp only at hSw); go_simp; all_goals (with_reducible rfl)
  try simp only [Act.put, List.setIfInBounds_toArray, List.set_cons_zero, List.set_cons_succ]
  refine wpAnyH_take (i := 3) (oi := { dst := some 22, op := Op.load 9 (Operand.tmp 21), type := 9, pos := "parse.go:91", after := #[{ on := 2, ground := Ground.data }], guard := none }) (v := ?_) rfl (by kernel_rfl) (by kernel_rfl) (by kernel_rfl) (fun _ _ _ h => h) (Or.inl ⟨by rfl, ?_⟩) (by assumption) ?_
  rotate_left 1
  · intro w hSw; (try dsimp only at hSw); go_simp; all_goals (with_reducible rfl)
  try simp only [Act.put, List.setIfInBounds_toArray, List.set_cons_zero, List.set_cons_succ]
  refine wpAnyH_take (i := 4) (oi := { dst := some 23, op := Op.move (Operand.tmp 0), type := 132, pos := "parse.go:91", after := #[], guard := none }) (v := ?_) rfl (by kernel_rfl) (by kernel_rfl) (by kernel_rfl) (fun _ _ _ h => h) (Or.inl ⟨by rfl, ?_⟩) (by assumption) ?_
  rotate_left 1
  · intro w hSw; (try dsimp only at hSw); go_simp; all_goals (with_reducible rfl)
  try simp only [Act.put, List.setIfInBounds_toArray, List.set_cons_zero, List.set_cons_succ]
  refine wpAnyH_take (i := 5) (oi := { dst := some 24, op := Op.nilCheck (Operand.tmp 23), type := 0, pos := "parse.go:91", after := #[{ on := 4, ground := Ground.data }], guard := none }) (v := ?_) rfl (by kernel_rfl) (by kernel_rfl) (by kernel_rfl) (fun _ _ _ h => h) (Or.inl ⟨by rfl, ?_⟩) (by assumption) ?_
  rotate_left 1
  · intro w hSw; (try dsimp only at hSw); go_simp; all_goals (with_reducible rfl)
  try simp only [Act.put, List.setIfInBounds_toArray, List.set_cons_zero, List.set_cons_succ]
  refine wpAnyH_take (i := 6) (oi := { dst := some 25, op := Op.fieldAddr 100 (Operand.tmp 24) 1, type := 0, pos := "parse.go:91", after := #[{ on := 5, ground := Ground.data }], guard := none }) (v := ?_) rfl (by kernel_rfl) (by kernel_rfl) (by kernel_rfl) (fun _ _ _ h => h) (Or.inl ⟨by rfl, ?_⟩) (by assumption) ?_
  rotate_left 1
  · intro w hSw; (try dsimp only at hSw); go_simp; all_goals (with_reducible rfl)
  try simp only [Act.put, List.setIfInBounds_toArray, List.set_cons_zero, List.set_cons_succ]
  refine wpAnyH_take (i := 7) (oi := { dst := some 26, op := Op.load 3 (Operand.tmp 25), type := 3, pos := "parse.go:91", after := #[{ on := 6, ground := Ground.data }], guard := none }) (v := ?_) rfl (by kernel_rfl) (by kernel_rfl) (by kernel_rfl) (fun _ _ _ h => h) (Or.inl ⟨by rfl, ?_⟩) (by assumption) ?_
  rotate_left 1
  · intro w hSw; (try dsimp only at hSw); go_simp; all_goals (with_reducible rfl)
  try simp only [Act.put, List.setIfInBounds_toArray, List.set_cons_zero, List.set_cons_succ]
  refine wpAnyH_take (i := 8) (oi := { dst := some 27, op := Op.binOp BinOp.add 3 (Operand.tmp 26) (Operand.const (Value.int IntKind.i64 1)) 3, type := 3, pos := "parse.go:91", after := #[{ on := 7, ground := Ground.data }], guard := none }) (v := ?_) rfl (by kernel_rfl) (by kernel_rfl) (by kernel_rfl) (fun _ _ _ h => h) (Or.inl ⟨by rfl, ?_⟩) (by assumption) ?_
  rotate_left 1
  · intro w hSw; (try dsimp only at hSw); go_simp; all_goals (with_reducible rfl)
  try simp only [Act.put, List.setIfInBounds_toArray, List.set_cons_zero, List.set_cons_succ]
  refine wpAnyH_ready (rs := [9, 14]) (by kernel_rfl) (by simp) ?_
  refine AllReadyH.cons (o := { dst := some 28, op := Op.call { callee := Callee.value (Operand.func 104), args := #[Operand.tmp 22, Operand.tmp 27], argTypes := #[9, 3] }, type := 165, pos := "parse.go:91", after := #[{ on := 3, ground := Ground.data }, { on := 8, ground := Ground.data }], guard := none }) rfl (fun K hK => ?_) (AllReadyH.cons (o := { dst := some 6, op := Op.alloc 164, type := 0, pos := "parse.go:91", after := #[], guard := none }) rfl (fun K hK => ?_) AllReadyH.nil)
  · go_simp
    with_reducible refine (HTm.out _).mono ?_
    rintro e w2 ⟨ta, tb, tc, tn, tk, rfl, hts, kn⟩
    have kn2 : Kp No W1 w2 := HKc.out.trans' kn
    clear HKc
    have HKc := Hid_mk kn2
    have HKn := Hid_mk kn
    have hSn := HKeep.out _ kn2
    clear kn kn2
    refine hK.out _ _ hSn (fun hHeld => ?_)
    clear hK K hHeld
    have hHeld := hSn
    try simp only [Act.put, List.setIfInBounds_toArray, List.set_cons_zero, List.set_cons_succ]
    refine wpAnyH_take (i := 10) (oi := { dst := some 18, op := Op.move (Operand.tmp 28), type := 165, pos := "parse.go:91", after := #[{ on := 9, ground := Ground.data }], guard := none }) (v := ?_) rfl (by kernel_rfl) (by kernel_rfl) (by kernel_rfl) (fun _ _ _ h => h) (Or.inl ⟨by rfl, ?_⟩) (by assumption) ?_
    rotate_left 1
    · intro w hSw; (try dsimp only at hSw); go_simp; all_goals (with_reducible rfl)
    try simp only [Act.put, List.setIfInBounds_toArray, List.set_cons_zero, List.set_cons_succ]
    refine wpAnyH_take (i := 11) (oi := { dst := some 29, op := Op.extract (Operand.tmp 18) 0, type := 164, pos := "parse.go:91", after := #[{ on := 10, ground := Ground.data }], guard := none }) (v := ?_) rfl (by kernel_rfl) (by kernel_rfl) (by kernel_rfl) (fun _ _ _ h => h) (Or.inl ⟨by rfl, ?_⟩) (by assumption) ?_
    rotate_left 1
    · intro w hSw; (try dsimp only at hSw); go_simp; all_goals (with_reducible rfl)
    try simp only [Act.put, List.setIfInBounds_toArray, List.set_cons_zero, List.set_cons_succ]
    refine wpAnyH_take (i := 12) (oi := { dst := some 30, op := Op.extract (Operand.tmp 18) 1, type := 3, pos := "parse.go:91", after := #[{ on := 10, ground := Ground.data }, { on := 15, ground := Ground.gcOnly Departure.lateStores }], guard := none }) (v := ?_) rfl (by kernel_rfl) (by kernel_rfl) (by kernel_rfl) (fun _ _ _ h => h) (Or.inl ⟨by rfl, ?_⟩) (by assumption) ?_
    rotate_left 1
    · intro w hSw; (try dsimp only at hSw); go_simp; all_goals (with_reducible rfl)
    try simp only [Act.put, List.setIfInBounds_toArray, List.set_cons_zero, List.set_cons_succ]
    refine wpAnyH_take (i := 13) (oi := { dst := some 31, op := Op.extract (Operand.tmp 18) 2, type := 4, pos := "parse.go:91", after := #[{ on := 10, ground := Ground.data }, { on := 16, ground := Ground.gcOnly Departure.lateStores }], guard := none }) (v := ?_) rfl (by kernel_rfl) (by kernel_rfl) (by kernel_rfl) (fun _ _ _ h => h) (Or.inl ⟨by rfl, ?_⟩) (by assumption) ?_
    rotate_left 1
    · intro w hSw; (try dsimp only at hSw); go_simp; all_goals (with_reducible rfl)
    try simp only [Act.put, List.setIfInBounds_toArray, List.set_cons_zero, List.set_cons_succ]
    refine wpAnyH_ready (rs := [14]) (by kernel_rfl) (by simp) ?_
    refine AllReadyH.cons (o := { dst := some 6, op := Op.alloc 164, type := 0, pos := "parse.go:91", after := #[], guard := none }) rfl (fun K hK => ?_) AllReadyH.nil
    go_simp
    have hSn := HKeep.out _ (HKc.out.alloc (.cells #[.int .i64 0, .int .i64 0, .bool false] 164))
    have kn2 := HKc.out.alloc (.cells #[.int .i64 0, .int .i64 0, .bool false] 164)
    clear HKc
    have HKc := Hid_mk kn2
    clear kn2
    refine hK.out _ _ hSn (fun hHeld => ?_)
    clear hK K hHeld
    have hHeld := hSn
    try simp only [Act.put, List.setIfInBounds_toArray, List.set_cons_zero, List.set_cons_succ]
    refine wpAnyH_ready (rs := [15]) (by kernel_rfl) (by simp) ?_
    refine AllReadyH.cons (o := { dst := none, op := Op.store 164 (Operand.tmp 6) (Operand.tmp 29), type := 0, pos := "parse.go:91", after := #[{ on := 14, ground := Ground.data }, { on := 11, ground := Ground.data }, { on := 9, ground := Ground.chain }, { on := 0, ground := Ground.phase }, { on := 1, ground := Ground.phase }, { on := 2, ground := Ground.phase }, { on := 3, ground := Ground.phase }, { on := 4, ground := Ground.phase }, { on := 5, ground := Ground.phase }, { on := 6, ground := Ground.phase }, { on := 7, ground := Ground.phase }, { on := 8, ground := Ground.phase }, { on := 9, ground := Ground.phase }, { on := 10, ground := Ground.phase }, { on := 11, ground := Ground.phase }, { on := 12, ground := Ground.textOnly Departure.lateStores }, { on := 13, ground := Ground.textOnly Departure.lateStores }, { on := 14, ground := Ground.phase }], guard := none }) rfl (fun K hK => ?_) AllReadyH.nil
    go_simp
    have HK2 := Hid_mk ((Kp.refl No W1).drew.trans' HKn.out)
    have hSn := HKeep.out _ (HK2.out.alloc (.cells #[.int .i64 ta, .int .i64 tb, .bool tc] 164))
    refine hK.out _ _ hSn (fun hHeld => ?_)
    clear hK K hHeld
    have hHeld := hSn
    try simp only [Act.put, List.setIfInBounds_toArray, List.set_cons_zero, List.set_cons_succ]
    refine wpAnyH_take (i := 16) (oi := { dst := some 7, op := Op.assign (Operand.tmp 30), type := 3, pos := "parse.go:91", after := #[{ on := 12, ground := Ground.data }, { on := 15, ground := Ground.chain }, { on := 0, ground := Ground.phase }, { on := 1, ground := Ground.phase }, { on := 2, ground := Ground.phase }, { on := 3, ground := Ground.phase }, { on := 4, ground := Ground.phase }, { on := 5, ground := Ground.phase }, { on := 6, ground := Ground.phase }, { on := 7, ground := Ground.phase }, { on := 8, ground := Ground.phase }, { on := 9, ground := Ground.phase }, { on := 10, ground := Ground.phase }, { on := 11, ground := Ground.phase }, { on := 12, ground := Ground.phase }, { on := 13, ground := Ground.textOnly Departure.lateStores }, { on := 14, ground := Ground.phase }, { on := 15, ground := Ground.phase }], guard := none }) (v := ?_) rfl (by kernel_rfl) (by kernel_rfl) (by kernel_rfl) (fun _ _ _ h => h) (Or.inl ⟨by rfl, ?_⟩) (by assumption) ?_
    rotate_left 1
    · intro w hSw; (try dsimp only at hSw); go_simp; all_goals (with_reducible rfl)
    try simp only [Act.put, List.setIfInBounds_toArray, List.set_cons_zero, List.set_cons_succ]
    refine wpAnyH_take (i := 17) (oi := { dst := some 8, op := Op.assign (Operand.tmp 31), type := 4, pos := "parse.go:91", after := #[{ on := 13, ground := Ground.data }, { on := 16, ground := Ground.chain }, { on := 0, ground := Ground.phase }, { on := 1, ground := Ground.phase }, { on := 2, ground := Ground.phase }, { on := 3, ground := Ground.phase }, { on := 4, ground := Ground.phase }, { on := 5, ground := Ground.phase }, { on := 6, ground := Ground.phase }, { on := 7, ground := Ground.phase }, { on := 8, ground := Ground.phase }, { on := 9, ground := Ground.phase }, { on := 10, ground := Ground.phase }, { on := 11, ground := Ground.phase }, { on := 12, ground := Ground.phase }, { on := 13, ground := Ground.phase }, { on := 14, ground := Ground.phase }, { on := 15, ground := Ground.phase }, { on := 16, ground := Ground.phase }], guard := none }) (v := ?_) rfl (by kernel_rfl) (by kernel_rfl) (by kernel_rfl) (fun _ _ _ h => h) (Or.inl ⟨by rfl, ?_⟩) (by assumption) ?_
    rotate_left 1
    · intro w hSw; (try dsimp only at hSw); go_simp; all_goals (with_reducible rfl)
    try simp only [Act.put, List.setIfInBounds_toArray, List.set_cons_zero, List.set_cons_succ]
    refine wpAnyH_done (by kernel_rfl) ?_ _
    clear HKeep hS hSn hHeld HKc HTm hsz hki hki0 hwk1 hzk1
    go_upto_region 3 with fail
    obtain ⟨g, hg⟩ : ∃ g, w2.heap.size = g := ⟨_, rfl⟩
    rw [hg]
    have hgq : r + 2 ≤ g := by have h1 := HZ1.out; have h2 := HK2.out.size; omega
    refine wp_name (fun W => Kp No W1 W ∧ W.cell? ⟨g, 0, none⟩ = some (.int .i64 ta) ∧ W.cell? ⟨g, 1, none⟩ = some (.int .i64 tb) ∧ W.cell? ⟨g, 2, none⟩ = some (.bool tc)) ⟨HK2.out.alloc _, by rw [← hg]; simp, by rw [← hg]; simp, by rw [← hg]; simp⟩ ?_
    clear hg
    rintro W3 ⟨hk3, z0, z1, z2⟩
    clear HK2 HKn
    rcases hts0 : timesS l (k + 1) with _ | ⟨⟨xl, xm, xe⟩, n⟩
    · have h8 := hts.out
      rw [hts0] at h8
      obtain rfl : tk = false := h8
      have HR2 := Hid_mk (show R = .bad 24 k from by rw [← HRs.out]; simp only [hts0]; rfl)
      clear hts hts0 HRs z0 z1 z2
      have hB3 := HB1.out.kept hk3 id
      have hR3 := HR1.out.no hk3
      have HR3 := Hid_mk hR3
      have HK3 := Hid_mk hk3
      obtain ⟨r0, r1, r2, r3, r4, r5, r6, r7, rw'⟩ := hB3
      clear hR3 hk3
      go_wp2
      have hkz : Kp (fun b => b = r + 1) W3 (putP W3 (r + 1) (.int .i64 0) (.int .u64 0) (.int .u64 0) (.int .u64 0) (.int .u64 0) (.slice none 0 0) (.int .i64 0) (.int .i64 0)) := kp_putP (q := r + 1) (Kp.refl (fun b => b = r + 1) W3) (fun _ => rfl) _ _ _ _ _ _ _ _
      have hRz := HR3.out.kept hkz (by show ¬ q = r + 1; have := HQr.out; omega) (fun i e _ => by have h1 := HR3.out.ge; have h2 := HQr.out; show w0.heap.size ≤ i; have e : i = r + 1 := e; omega)
      have hkf := ((HK0.out.trans' (HK1.out.trans' HK3.out)).to (S := fun b => b = q)).trans hkz (T := fun b => b = r + 1) fun i hi e => by have := HR.out; omega
      refine bodyPost_ret (v := .tuple #[.agg #[.int .i64 0, .int .u64 0, .int .u64 0, .int .u64 0, .int .u64 0, .slice none 0 0, .int .i64 0, .int .i64 0], .int .i64 24]) ?_ rfl ?_
      · simp [results, Try.results91, go_sem, r0, r1, r2, r3, r4, r5, r6, r7]
      · rw [HR2.out]
        exact ⟨o, rfl, hRz, hkf, Nat.le_of_lt HKS.out, by decide⟩
    · have h8 := hts.out
      rw [hts0] at h8
      obtain ⟨rfl, rfl, rfl, rfl, rfl⟩ := h8
      have HTk := Hid_mk (times_ok hts0)
      have HR2 := Hid_mk (show R = .ok (againT t (xl, xm, tc)) n from by rw [← HRs.out]; simp only [hts0]; rfl)
      clear hts hts0 HRs
      have hA3 := HA1.out.kept hk3 id
      have hB3 := HB1.out.kept hk3 id
      have hR3 := HR1.out.no hk3
      have hV3 := ReV.no hk3 _ _ HV1.out
      have HA3 := Hid_mk hA3
      have HB3 := Hid_mk hB3
      have HR3 := Hid_mk hR3
      have HV3 := Hid_mk hV3
      have HK3 := Hid_mk hk3
      have Z0 := Hid_mk z0
      have Z1 := Hid_mk z1
      have Z2 := Hid_mk z2
      have c1 := hR3.c1
      have cw := hR3.warm
      clear hA3 hB3 hR3 hV3 hk3 z0 z1 z2
      go_upto_region 6 with fail
      have hks : Kp (fun b => b = q) W3 (W3.setCell ⟨q, 1, none⟩ (.int .i64 (n : Int))) := (Kp.refl (fun b => b = q) W3).setCell (p := ⟨q, 1, none⟩) (fun _ => rfl) _
      have hR4 := HR3.out.at' n
      have hA4 := HA3.out.kept hks (by show ¬ r = q; have := HQr.out; omega)
      have hB4 := HB3.out.kept hks (by show ¬ r + 1 = q; have := HQr.out; omega)
      have hV4 := ReV.kept hks (fun b hb _ => (HTr.out b hb).2.2) _ _ HV3.out
      have hk4 : Kp (fun b => b = q) w _ := ((HK0.out.trans' (HK1.out.trans' HK3.out)).to (S := fun b => b = q)).trans hks fun _ _ e => e
      have z0 := hks.cell' Z0.out (by show ¬ g = q; have := HQr.out; omega)
      have z1 := hks.cell' Z1.out (by show ¬ g = q; have := HQr.out; omega)
      have z2 := hks.cell' Z2.out (by show ¬ g = q; have := HQr.out; omega)
      refine wp_name (fun W => PAt W r (.int .i64 xk) (.int .u64 (wd xf 0 64 : Nat)) (.int .u64 (wd xf 64 64 : Nat)) (.int .u64 (wd xf 128 64 : Nat)) (.int .u64 (wd xf 192 64 : Nat)) (.slice xa xn xc) (.int .i64 (xp.n : Int)) (.int .i64 (xp.h : Int)) ∧ PAt W (r + 1) (.int .i64 0) (.int .u64 0) (.int .u64 0) (.int .u64 0) (.int .u64 0) (.slice none 0 0) (.int .i64 0) (.int .i64 0) ∧ RdAt w0 W q l n o ∧ ReV T1 W xp.t (.agg (cellsR xk xf xa xn xc)) ∧ Kp (fun b => b = q) w W ∧ W.cell? ⟨g, 0, none⟩ = some (.int .i64 (xl : Int)) ∧ W.cell? ⟨g, 1, none⟩ = some (.int .i64 (xm : Int)) ∧ W.cell? ⟨g, 2, none⟩ = some (.bool tc) ∧ r + 2 ≤ W.heap.size) ⟨hA4, hB4, hR4, hV4, hk4, z0, z1, z2, by have := HZ1.out; have := HK3.out.size; have := hks.size; omega⟩ ?_
      clear hks hA4 hB4 hR4 hV4 hk4 c1 cw z0 z1 z2
      rintro W4 ⟨hA4, hB4, hR4, hV4, hk4, z0, z1, z2, hs4⟩
      have hag : Calls Try.prog 105 #[.agg (cellsP xk xf xa xn xc xp.n xp.h), .agg #[.int .i64 (xl : Int), .int .i64 (xm : Int), .bool tc]] W4 fun e w' => ∃ uk uf ua un uc up, e = .returned (.agg (cellsP uk uf ua un uc (Pt.n up) (Pt.h up))) ∧ up = absP (againT t (xl, xm, tc)) ∧ ReV T1 w' up.t (.agg (cellsR uk uf ua un uc)) ∧ Kp No W4 w' := by
        refine (again_any T1 W4 t _ (xl, xm, tc) (by rw [HXp.out]; exact ⟨xk, xf, xa, xn, xc, rfl, hV4⟩) HTk.out.1 HTk.out.2.1 HTk.out.2.2.1).mono ?_
        rintro e w' ⟨v, rfl, ⟨k, f, a, n, c, rfl, hv⟩, hk⟩
        exact ⟨k, f, a, n, c, _, rfl, rfl, ReV.wider (fun b hb _ => hb.elim id fun h => HTn.out b (Nat.le_trans hs4 h)) _ _ hv, hk⟩
      unfold cellsP at hag
      have HAgn := Hid_mk hag
      have HB4 := Hid_mk hB4
      have HR4 := Hid_mk hR4
      have HK4 := Hid_mk hk4
      obtain ⟨p0, p1, p2, p3, p4, p5, p6, p7, pw⟩ := hA4
      clear hag hB4 hR4 hV4 hk4 hs4
      go_wp2_with fail
      with_reducible refine HAgn.out.mono ?_
      rintro e W5 ⟨uk, uf, ua, un, uc, up, rfl, hup, huo, hku⟩
      have HUp := Hid_mk hup
      have HUo := Hid_mk huo
      have HKu := Hid_mk hku
      have hB5 := HB4.out.kept hku id
      obtain ⟨r0, r1, r2, r3, r4, r5, r6, r7, rw'⟩ := hB5
      clear hup huo hku p0 p1 p2 p3 p4 p5 p6 p7 pw z0 z1 z2
      go_wp2
      have hkz : Kp (fun b => b = r + 1) W5 (putP W5 (r + 1) (.int .i64 uk) (.int .u64 (wd uf 0 64 : Nat)) (.int .u64 (wd uf 64 64 : Nat)) (.int .u64 (wd uf 128 64 : Nat)) (.int .u64 (wd uf 192 64 : Nat)) (.slice ua un uc) (.int .i64 (up.n : Int)) (.int .i64 (up.h : Int))) := kp_putP (q := r + 1) (Kp.refl (fun b => b = r + 1) W5) (fun _ => rfl) _ _ _ _ _ _ _ _
      have hRz := (HR4.out.no HKu.out).kept hkz (by show ¬ q = r + 1; have := HQr.out; omega) (fun i e _ => by have h1 := HR4.out.ge; have h2 := HQr.out; show w0.heap.size ≤ i; have e : i = r + 1 := e; omega)
      have hVz := ReV.wider (fun b hb _ => HTt.out b hb) _ _ (ReV.kept hkz (fun b hb _ => (HTr.out b hb).2.1) _ _ HUo.out)
      have hkf := (HK4.out.trans HKu.out (T := No) fun _ _ e => e.elim).trans hkz (T := fun b => b = r + 1) fun i hi e => by have := HR.out; omega
      refine bodyPost_ret (v := .tuple #[.agg (cellsP uk uf ua un uc up.n up.h), .int .i64 0]) ?_ rfl ?_
      · simp [results, Try.results91, go_sem, cellsP, r0, r1, r2, r3, r4, r5, r6, r7]
      · rw [HR2.out]
        exact ⟨_, rfl, by rw [← HUp.out]; exact ⟨uk, uf, ua, un, uc, rfl, hVz⟩, hRz, hkf, by have := HTk.out; omega, HTk.out.2.2.2.2⟩
  · go_simp
    have hSn := HKeep.out _ (HKc.out.alloc (.cells #[.int .i64 0, .int .i64 0, .bool false] 164))
    have kn2 := HKc.out.alloc (.cells #[.int .i64 0, .int .i64 0, .bool false] 164)
    clear HKc
    have HKc := Hid_mk kn2
    clear kn2
    refine hK.out _ _ hSn (fun hHeld => ?_)
    clear hK K hHeld
    have hHeld := hSn
    try simp only [Act.put, List.setIfInBounds_toArray, List.set_cons_zero, List.set_cons_succ]
    refine wpAnyH_ready (rs := [9]) (by kernel_rfl) (by simp) ?_
    refine AllReadyH.cons (o := { dst := some 28, op := Op.call { callee := Callee.value (Operand.func 104), args := #[Operand.tmp 22, Operand.tmp 27], argTypes := #[9, 3] }, type := 165, pos := "parse.go:91", after := #[{ on := 3, ground := Ground.data }, { on := 8, ground := Ground.data }], guard := none }) rfl (fun K hK => ?_) AllReadyH.nil
    go_simp
    with_reducible refine (HTm.out _).mono ?_
    rintro e w2 ⟨ta, tb, tc, tn, tk, rfl, hts, kn⟩
    have kn2 : Kp No W1 w2 := HKc.out.trans' kn
    clear HKc
    have HKc := Hid_mk kn2
    have HKn := Hid_mk kn
    have hSn := HKeep.out _ kn2
    clear kn kn2
    refine hK.out _ _ hSn (fun hHeld => ?_)
    clear hK K hHeld
    have hHeld := hSn
    try simp only [Act.put, List.setIfInBounds_toArray, List.set_cons_zero, List.set_cons_succ]
    refine wpAnyH_take (i := 10) (oi := { dst := some 18, op := Op.move (Operand.tmp 28), type := 165, pos := "parse.go:91", after := #[{ on := 9, ground := Ground.data }], guard := none }) (v := ?_) rfl (by kernel_rfl) (by kernel_rfl) (by kernel_rfl) (fun _ _ _ h => h) (Or.inl ⟨by rfl, ?_⟩) (by assumption) ?_
    rotate_left 1
    · intro w hSw; (try dsimp only at hSw); go_simp; all_goals (with_reducible rfl)
    try simp only [Act.put, List.setIfInBounds_toArray, List.set_cons_zero, List.set_cons_succ]
    refine wpAnyH_take (i := 11) (oi := { dst := some 29, op := Op.extract (Operand.tmp 18) 0, type := 164, pos := "parse.go:91", after := #[{ on := 10, ground := Ground.data }], guard := none }) (v := ?_) rfl (by kernel_rfl) (by kernel_rfl) (by kernel_rfl) (fun _ _ _ h => h) (Or.inl ⟨by rfl, ?_⟩) (by assumption) ?_
    rotate_left 1
    · intro w hSw; (try dsimp only at hSw); go_simp; all_goals (with_reducible rfl)
    try simp only [Act.put, List.setIfInBounds_toArray, List.set_cons_zero, List.set_cons_succ]
    refine wpAnyH_take (i := 12) (oi := { dst := some 30, op := Op.extract (Operand.tmp 18) 1, type := 3, pos := "parse.go:91", after := #[{ on := 10, ground := Ground.data }, { on := 15, ground := Ground.gcOnly Departure.lateStores }], guard := none }) (v := ?_) rfl (by kernel_rfl) (by kernel_rfl) (by kernel_rfl) (fun _ _ _ h => h) (Or.inl ⟨by rfl, ?_⟩) (by assumption) ?_
    rotate_left 1
    · intro w hSw; (try dsimp only at hSw); go_simp; all_goals (with_reducible rfl)
    try simp only [Act.put, List.setIfInBounds_toArray, List.set_cons_zero, List.set_cons_succ]
    refine wpAnyH_take (i := 13) (oi := { dst := some 31, op := Op.extract (Operand.tmp 18) 2, type := 4, pos := "parse.go:91", after := #[{ on := 10, ground := Ground.data }, { on := 16, ground := Ground.gcOnly Departure.lateStores }], guard := none }) (v := ?_) rfl (by kernel_rfl) (by kernel_rfl) (by kernel_rfl) (fun _ _ _ h => h) (Or.inl ⟨by rfl, ?_⟩) (by assumption) ?_
    rotate_left 1
    · intro w hSw; (try dsimp only at hSw); go_simp; all_goals (with_reducible rfl)
    try simp only [Act.put, List.setIfInBounds_toArray, List.set_cons_zero, List.set_cons_succ]
    have y0 := HKn.out.cell' (p := ⟨W1.heap.size, 0, none⟩) (u := .int .i64 0) (by simp) id
    have y1 := HKn.out.cell' (p := ⟨W1.heap.size, 1, none⟩) (u := .int .i64 0) (by simp) id
    have y2 := HKn.out.cell' (p := ⟨W1.heap.size, 2, none⟩) (u := .bool false) (by simp) id
    have yw : ∀ i, w2.frozen? ⟨W1.heap.size, i, none⟩ = false := fun i => by rw [HKn.out.frozen (p := ⟨W1.heap.size, i, none⟩) (by simp) id]; simp
    refine wpAnyH_ready (rs := [15]) (by kernel_rfl) (by simp) ?_
    refine AllReadyH.cons (o := { dst := none, op := Op.store 164 (Operand.tmp 6) (Operand.tmp 29), type := 0, pos := "parse.go:91", after := #[{ on := 14, ground := Ground.data }, { on := 11, ground := Ground.data }, { on := 9, ground := Ground.chain }, { on := 0, ground := Ground.phase }, { on := 1, ground := Ground.phase }, { on := 2, ground := Ground.phase }, { on := 3, ground := Ground.phase }, { on := 4, ground := Ground.phase }, { on := 5, ground := Ground.phase }, { on := 6, ground := Ground.phase }, { on := 7, ground := Ground.phase }, { on := 8, ground := Ground.phase }, { on := 9, ground := Ground.phase }, { on := 10, ground := Ground.phase }, { on := 11, ground := Ground.phase }, { on := 12, ground := Ground.textOnly Departure.lateStores }, { on := 13, ground := Ground.textOnly Departure.lateStores }, { on := 14, ground := Ground.phase }], guard := none }) rfl (fun K hK => ?_) AllReadyH.nil
    go_simp
    have HK2 := Hid_mk HKc.out
    have hSn := HKeep.out _ (((HKc.out.setCell (p := ⟨W1.heap.size, 0, none⟩) (fun h => absurd h (Nat.lt_irrefl _)) (.int .i64 ta)).setCell (p := ⟨W1.heap.size, 1, none⟩) (fun h => absurd h (Nat.lt_irrefl _)) (.int .i64 tb)).setCell (p := ⟨W1.heap.size, 2, none⟩) (fun h => absurd h (Nat.lt_irrefl _)) (.bool tc))
    refine hK.out _ _ hSn (fun hHeld => ?_)
    clear hK K hHeld
    have hHeld := hSn
    try simp only [Act.put, List.setIfInBounds_toArray, List.set_cons_zero, List.set_cons_succ]
    refine wpAnyH_take (i := 16) (oi := { dst := some 7, op := Op.assign (Operand.tmp 30), type := 3, pos := "parse.go:91", after := #[{ on := 12, ground := Ground.data }, { on := 15, ground := Ground.chain }, { on := 0, ground := Ground.phase }, { on := 1, ground := Ground.phase }, { on := 2, ground := Ground.phase }, { on := 3, ground := Ground.phase }, { on := 4, ground := Ground.phase }, { on := 5, ground := Ground.phase }, { on := 6, ground := Ground.phase }, { on := 7, ground := Ground.phase }, { on := 8, ground := Ground.phase }, { on := 9, ground := Ground.phase }, { on := 10, ground := Ground.phase }, { on := 11, ground := Ground.phase }, { on := 12, ground := Ground.phase }, { on := 13, ground := Ground.textOnly Departure.lateStores }, { on := 14, ground := Ground.phase }, { on := 15, ground := Ground.phase }], guard := none }) (v := ?_) rfl (by kernel_rfl) (by kernel_rfl) (by kernel_rfl) (fun _ _ _ h => h) (Or.inl ⟨by rfl, ?_⟩) (by assumption) ?_
    rotate_left 1
    · intro w hSw; (try dsimp only at hSw); go_simp; all_goals (with_reducible rfl)
    try simp only [Act.put, List.setIfInBounds_toArray, List.set_cons_zero, List.set_cons_succ]
    refine wpAnyH_take (i := 17) (oi := { dst := some 8, op := Op.assign (Operand.tmp 31), type := 4, pos := "parse.go:91", after := #[{ on := 13, ground := Ground.data }, { on := 16, ground := Ground.chain }, { on := 0, ground := Ground.phase }, { on := 1, ground := Ground.phase }, { on := 2, ground := Ground.phase }, { on := 3, ground := Ground.phase }, { on := 4, ground := Ground.phase }, { on := 5, ground := Ground.phase }, { on := 6, ground := Ground.phase }, { on := 7, ground := Ground.phase }, { on := 8, ground := Ground.phase }, { on := 9, ground := Ground.phase }, { on := 10, ground := Ground.phase }, { on := 11, ground := Ground.phase }, { on := 12, ground := Ground.phase }, { on := 13, ground := Ground.phase }, { on := 14, ground := Ground.phase }, { on := 15, ground := Ground.phase }, { on := 16, ground := Ground.phase }], guard := none }) (v := ?_) rfl (by kernel_rfl) (by kernel_rfl) (by kernel_rfl) (fun _ _ _ h => h) (Or.inl ⟨by rfl, ?_⟩) (by assumption) ?_
    rotate_left 1
    · intro w hSw; (try dsimp only at hSw); go_simp; all_goals (with_reducible rfl)
    try simp only [Act.put, List.setIfInBounds_toArray, List.set_cons_zero, List.set_cons_succ]
    refine wpAnyH_done (by kernel_rfl) ?_ _
    clear HKeep hS hSn hHeld HKc HTm hsz hki hki0 hwk1 hzk1
    go_upto_region 3 with fail
    obtain ⟨g, hg⟩ : ∃ g, W1.heap.size = g := ⟨_, rfl⟩
    rw [hg] at y0 y1 y2 ⊢
    have hgq : r + 2 ≤ g := by have h1 := HZ1.out; omega
    have h3 := three_put y0 y1 y2 (.int .i64 ta) (.int .i64 tb) (.bool tc)
    refine wp_name (fun W => Kp No W1 W ∧ W.cell? ⟨g, 0, none⟩ = some (.int .i64 ta) ∧ W.cell? ⟨g, 1, none⟩ = some (.int .i64 tb) ∧ W.cell? ⟨g, 2, none⟩ = some (.bool tc)) ⟨((HK2.out.setCell (p := ⟨g, 0, none⟩) (fun h => absurd h (by show ¬ g < _; omega)) _).setCell (p := ⟨g, 1, none⟩) (fun h => absurd h (by show ¬ g < _; omega)) _).setCell (p := ⟨g, 2, none⟩) (fun h => absurd h (by show ¬ g < _; omega)) _, h3⟩ ?_
    clear hg h3 y0 y1 y2 yw
    rintro W3 ⟨hk3, z0, z1, z2⟩
    clear HK2 HKn
    rcases hts0 : timesS l (k + 1) with _ | ⟨⟨xl, xm, xe⟩, n⟩
    · have h8 := hts.out
      rw [hts0] at h8
      obtain rfl : tk = false := h8
      have HR2 := Hid_mk (show R = .bad 24 k from by rw [← HRs.out]; simp only [hts0]; rfl)
      clear hts hts0 HRs z0 z1 z2
      have hB3 := HB1.out.kept hk3 id
      have hR3 := HR1.out.no hk3
      have HR3 := Hid_mk hR3
      have HK3 := Hid_mk hk3
      obtain ⟨r0, r1, r2, r3, r4, r5, r6, r7, rw'⟩ := hB3
      clear hR3 hk3
      go_wp2
      have hkz : Kp (fun b => b = r + 1) W3 (putP W3 (r + 1) (.int .i64 0) (.int .u64 0) (.int .u64 0) (.int .u64 0) (.int .u64 0) (.slice none 0 0) (.int .i64 0) (.int .i64 0)) := kp_putP (q := r + 1) (Kp.refl (fun b => b = r + 1) W3) (fun _ => rfl) _ _ _ _ _ _ _ _
      have hRz := HR3.out.kept hkz (by show ¬ q = r + 1; have := HQr.out; omega) (fun i e _ => by have h1 := HR3.out.ge; have h2 := HQr.out; show w0.heap.size ≤ i; have e : i = r + 1 := e; omega)
      have hkf := ((HK0.out.trans' (HK1.out.trans' HK3.out)).to (S := fun b => b = q)).trans hkz (T := fun b => b = r + 1) fun i hi e => by have := HR.out; omega
      refine bodyPost_ret (v := .tuple #[.agg #[.int .i64 0, .int .u64 0, .int .u64 0, .int .u64 0, .int .u64 0, .slice none 0 0, .int .i64 0, .int .i64 0], .int .i64 24]) ?_ rfl ?_
      · simp [results, Try.results91, go_sem, r0, r1, r2, r3, r4, r5, r6, r7]
      · rw [HR2.out]
        exact ⟨o, rfl, hRz, hkf, Nat.le_of_lt HKS.out, by decide⟩
    · have h8 := hts.out
      rw [hts0] at h8
      obtain ⟨rfl, rfl, rfl, rfl, rfl⟩ := h8
      have HTk := Hid_mk (times_ok hts0)
      have HR2 := Hid_mk (show R = .ok (againT t (xl, xm, tc)) n from by rw [← HRs.out]; simp only [hts0]; rfl)
      clear hts hts0 HRs
      have hA3 := HA1.out.kept hk3 id
      have hB3 := HB1.out.kept hk3 id
      have hR3 := HR1.out.no hk3
      have hV3 := ReV.no hk3 _ _ HV1.out
      have HA3 := Hid_mk hA3
      have HB3 := Hid_mk hB3
      have HR3 := Hid_mk hR3
      have HV3 := Hid_mk hV3
      have HK3 := Hid_mk hk3
      have Z0 := Hid_mk z0
      have Z1 := Hid_mk z1
      have Z2 := Hid_mk z2
      have c1 := hR3.c1
      have cw := hR3.warm
      clear hA3 hB3 hR3 hV3 hk3 z0 z1 z2
      go_upto_region 6 with fail
      have hks : Kp (fun b => b = q) W3 (W3.setCell ⟨q, 1, none⟩ (.int .i64 (n : Int))) := (Kp.refl (fun b => b = q) W3).setCell (p := ⟨q, 1, none⟩) (fun _ => rfl) _
      have hR4 := HR3.out.at' n
      have hA4 := HA3.out.kept hks (by show ¬ r = q; have := HQr.out; omega)
      have hB4 := HB3.out.kept hks (by show ¬ r + 1 = q; have := HQr.out; omega)
      have hV4 := ReV.kept hks (fun b hb _ => (HTr.out b hb).2.2) _ _ HV3.out
      have hk4 : Kp (fun b => b = q) w _ := ((HK0.out.trans' (HK1.out.trans' HK3.out)).to (S := fun b => b = q)).trans hks fun _ _ e => e
      have z0 := hks.cell' Z0.out (by show ¬ g = q; have := HQr.out; omega)
      have z1 := hks.cell' Z1.out (by show ¬ g = q; have := HQr.out; omega)
      have z2 := hks.cell' Z2.out (by show ¬ g = q; have := HQr.out; omega)
      refine wp_name (fun W => PAt W r (.int .i64 xk) (.int .u64 (wd xf 0 64 : Nat)) (.int .u64 (wd xf 64 64 : Nat)) (.int .u64 (wd xf 128 64 : Nat)) (.int .u64 (wd xf 192 64 : Nat)) (.slice xa xn xc) (.int .i64 (xp.n : Int)) (.int .i64 (xp.h : Int)) ∧ PAt W (r + 1) (.int .i64 0) (.int .u64 0) (.int .u64 0) (.int .u64 0) (.int .u64 0) (.slice none 0 0) (.int .i64 0) (.int .i64 0) ∧ RdAt w0 W q l n o ∧ ReV T1 W xp.t (.agg (cellsR xk xf xa xn xc)) ∧ Kp (fun b => b = q) w W ∧ W.cell? ⟨g, 0, none⟩ = some (.int .i64 (xl : Int)) ∧ W.cell? ⟨g, 1, none⟩ = some (.int .i64 (xm : Int)) ∧ W.cell? ⟨g, 2, none⟩ = some (.bool tc) ∧ r + 2 ≤ W.heap.size) ⟨hA4, hB4, hR4, hV4, hk4, z0, z1, z2, by have := HZ1.out; have := HK3.out.size; have := hks.size; omega⟩ ?_
      clear hks hA4 hB4 hR4 hV4 hk4 c1 cw z0 z1 z2
      rintro W4 ⟨hA4, hB4, hR4, hV4, hk4, z0, z1, z2, hs4⟩
      have hag : Calls Try.prog 105 #[.agg (cellsP xk xf xa xn xc xp.n xp.h), .agg #[.int .i64 (xl : Int), .int .i64 (xm : Int), .bool tc]] W4 fun e w' => ∃ uk uf ua un uc up, e = .returned (.agg (cellsP uk uf ua un uc (Pt.n up) (Pt.h up))) ∧ up = absP (againT t (xl, xm, tc)) ∧ ReV T1 w' up.t (.agg (cellsR uk uf ua un uc)) ∧ Kp No W4 w' := by
        refine (again_any T1 W4 t _ (xl, xm, tc) (by rw [HXp.out]; exact ⟨xk, xf, xa, xn, xc, rfl, hV4⟩) HTk.out.1 HTk.out.2.1 HTk.out.2.2.1).mono ?_
        rintro e w' ⟨v, rfl, ⟨k, f, a, n, c, rfl, hv⟩, hk⟩
        exact ⟨k, f, a, n, c, _, rfl, rfl, ReV.wider (fun b hb _ => hb.elim id fun h => HTn.out b (Nat.le_trans hs4 h)) _ _ hv, hk⟩
      unfold cellsP at hag
      have HAgn := Hid_mk hag
      have HB4 := Hid_mk hB4
      have HR4 := Hid_mk hR4
      have HK4 := Hid_mk hk4
      obtain ⟨p0, p1, p2, p3, p4, p5, p6, p7, pw⟩ := hA4
      clear hag hB4 hR4 hV4 hk4 hs4
      go_wp2_with fail
      with_reducible refine HAgn.out.mono ?_
      rintro e W5 ⟨uk, uf, ua, un, uc, up, rfl, hup, huo, hku⟩
      have HUp := Hid_mk hup
      have HUo := Hid_mk huo
      have HKu := Hid_mk hku
      have hB5 := HB4.out.kept hku id
      obtain ⟨r0, r1, r2, r3, r4, r5, r6, r7, rw'⟩ := hB5
      clear hup huo hku p0 p1 p2 p3 p4 p5 p6 p7 pw z0 z1 z2
      go_wp2
      have hkz : Kp (fun b => b = r + 1) W5 (putP W5 (r + 1) (.int .i64 uk) (.int .u64 (wd uf 0 64 : Nat)) (.int .u64 (wd uf 64 64 : Nat)) (.int .u64 (wd uf 128 64 : Nat)) (.int .u64 (wd uf 192 64 : Nat)) (.slice ua un uc) (.int .i64 (up.n : Int)) (.int .i64 (up.h : Int))) := kp_putP (q := r + 1) (Kp.refl (fun b => b = r + 1) W5) (fun _ => rfl) _ _ _ _ _ _ _ _
      have hRz := (HR4.out.no HKu.out).kept hkz (by show ¬ q = r + 1; have := HQr.out; omega) (fun i e _ => by have h1 := HR4.out.ge; have h2 := HQr.out; show w0.heap.size ≤ i; have e : i = r + 1 := e; omega)
      have hVz := ReV.wider (fun b hb _ => HTt.out b hb) _ _ (ReV.kept hkz (fun b hb _ => (HTr.out b hb).2.1) _ _ HUo.out)
      have hkf := (HK4.out.trans HKu.out (T := No) fun _ _ e => e.elim).trans hkz (T := fun b => b = r + 1) fun i hi e => by have := HR.out; omega
      refine bodyPost_ret (v := .tuple #[.agg (cellsP uk uf ua un uc up.n up.h), .int .i64 0]) ?_ rfl ?_
      · simp [results, Try.results91, go_sem, cellsP, r0, r1, r2, r3, r4, r5, r6, r7]
      · rw [HR2.out]
        exact ⟨_, rfl, by rw [← HUp.out]; exact ⟨uk, uf, ua, un, uc, rfl, hVz⟩, hRz, hkf, by have := HTk.out; omega, HTk.out.2.2.2.2⟩

theorem sign_all {w0 : World} {q : Nat} {l : List UInt8} (hl : l.length < 4294967281) : SignC w0 q l := by
  intro w k o T t v hR hk hv hT hTq hs
  by_cases hx : atB l k = 123
  · exact sign_brace hR hl hk T t v hv hT hTq hx
  · refine sign_any hR hl hk T t v hv hT hTq ?_
    unfold seesB at hs
    simp only [Bool.and_eq_true, List.contains_cons, List.contains_nil, Bool.or_false, Bool.or_eq_true, beq_iff_eq] at hs
    rcases hs.2 with e | e | e | e
    · exact .inl e
    · exact .inr (.inl e)
    · exact .inr (.inr e)
    · exact absurd e hx

end Go.Proofs.Ytaneblecgjahbab.ere
