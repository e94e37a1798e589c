/- Package printf: what %X tells. internal/strconv.ftoa64 of 0 at 'f', no digits behind the point. internal/strconv.fixedWidthFloat: how great what it answers may be: FormatFloat at 'f' of any number that takes its road. What the float operations of 64 bits give on whole numbers below 2^53: the whole number itself, exactly. Plain arithmetic: no program is named here. Small whole numbers as floats, beside the great constants: plain arithmetic. -/
import Derived.Test.YtgejeocojmpdjacGreatDoorPfTell2
import Derived.Test.YtgejeocojmpdjacGreatDoorFtoaM
import Derived.Test.YtgejeocojmpdjacGreatDoorPfFormatM
import Derived.Laws.BitsAllLaws
import Derived.Laws.ComplexArith

namespace Go.Proofs.YtgejeocojmpdjacGreatDoor.pf
open Go.RowKit Go.Lib Go.Proofs.YtgejeocojmpdjacGreatDoor.sum Go.Proofs.YtgejeocojmpdjacGreatDoor.kept Go.Proofs.YtgejeocojmpdjacGreatDoor.app Go.Proofs.YtgejeocojmpdjacGreatDoor.writer Go.Proofs.YtgejeocojmpdjacGreatDoor.known Go.Proofs.YtgejeocojmpdjacGreatDoor.str Go.Proofs.YtgejeocojmpdjacGreatDoor.fmtf
set_option linter.unusedVariables false
attribute [local go_sem] run_store_float'

set_option maxRecDepth 100000 in
set_option maxHeartbeats 4000000 in
theorem tell_X (w : World) (cl cp cbk cno : Bool) (cw cpr : Int) (x : Ar) (D : List UInt8) (hD : D.length ≤ 10000) (hdg : ∀ W, Kp No w W → Calls Tryz.prog 22 #[.float .f64 x.n] W (TxPost W D)) (hfin : finB x.n = true) (hp : -1 ≤ cpr) (hp2 : cpr ≤ 1000) (B E : List UInt8) (hE : E.length ≤ 10000) (hbs : ∀ W, Kp No w W → Calls Tryz.prog 26 #[.float .f64 x.n, .int .i64 16, .string (st (Lib.trimPrefix D [45]))] W (TxK W B)) (hup : ∀ W, Calls Tryz.prog 27 #[.string (st B)] W (TxK W E)) :
    Calls Tryz.prog 10 #[.agg #[.bool cl, .bool cp, .bool cbk, .bool cno, .int .i64 cw, .int .i64 cpr, .int .u8 88], arV x] w (TdPost w (wholeS ⟨cl, cp, cbk, cno, cw, cpr, 88⟩ E (Lib.hasPrefix D [45]))) := by
  obtain ⟨R, hR⟩ : ∃ R, wholeS ⟨cl, cp, cbk, cno, cw, cpr, 88⟩ E (Lib.hasPrefix D [45]) = R := ⟨_, rfl⟩
  rw [hR]
  have HR := Hid_mk hR
  have HDg : Hid (∀ W, Kp No w W → Calls Tryz.prog 22 #[.float .f64 x.n] W fun e w' => e = .returned (.string (st D)) ∧ Kp No W w') := Hid_mk hdg
  have HCp : Hid (∀ W, Calls Tryz.prog 21 #[.string (st D), .string ⟨#[45]⟩] W fun e w' => e = .returned (.tuple #[.string (st (Lib.trimPrefix D [45])), .bool (Lib.hasPrefix D [45])]) ∧ w' = W) := Hid_mk fun W => by
    have := Tryz.strings_CutPrefix (st D) ⟨#[45]⟩ W
    simp only [st_data] at this
    exact this
  have HFn : Hid (∀ W, Calls Tryz.prog 23 #[.float .f64 x.n] W fun e w' => e = .returned (.bool true) ∧ W = w') := Hid_mk fun W => by
    have := finite_any W x.n
    rw [hfin] at this
    exact this
  have htl : (Lib.trimPrefix D [45]).length ≤ 10000 := by
    unfold Lib.trimPrefix
    split
    · rw [List.length_drop]; omega
    · exact hD
  obtain ⟨d1, hd1⟩ : ∃ d1, Lib.trimPrefix D [45] = d1 := ⟨_, rfl⟩
  obtain ⟨ng, hng⟩ : ∃ ng, Lib.hasPrefix D [45] = ng := ⟨_, rfl⟩
  simp only [hd1, hng] at HCp hR
  rw [hd1] at htl hbs
  obtain ⟨⟨sg, bd, fl⟩, hwh⟩ : ∃ t, wholeS ⟨cl, cp, cbk, cno, cw, cpr, 88⟩ E ng = t := ⟨_, rfl⟩
  rw [hwh] at hR
  have HR := Hid_mk hR
  have HWh : Hid (∀ W, Calls Tryz.prog 25 #[.agg #[.bool cl, .bool cp, .bool cbk, .bool cno, .int .i64 cw, .int .i64 cpr, .int .u8 88], .string (st E), .bool ng] W fun e w' => e = .returned (.agg #[.string (st sg), .string (st bd), .bool fl]) ∧ Kp No W w') := Hid_mk fun W => by
    have h := whole_any W ⟨cl, cp, cbk, cno, cw, cpr, 88⟩ E ng (by show 88 < 256; omega) (by omega) hp hp2
    unfold TdPost at h
    rw [hwh] at h
    exact h
  have HBs : Hid (∀ W, Kp No w W → Calls Tryz.prog 26 #[.float .f64 x.n, .int .i64 16, .string (st d1)] W fun e w' => e = .returned (.string (st B)) ∧ Kp No W w') := Hid_mk hbs
  have HUp : Hid (∀ W, Calls Tryz.prog 27 #[.string (st B)] W fun e w' => e = .returned (.string (st E)) ∧ Kp No W w') := Hid_mk hup
  clear hbs hE hup hdg hfin htl hd1 hng hp hp2 hD hwh

  obtain ⟨W1, hW1, hk1, hz1⟩ := named_alloc w (.cells #[.bool cl, .bool cp, .bool cbk, .bool cno, .int .i64 cw, .int .i64 cpr, .int .u8 88] 37)
  obtain ⟨Cb, hCb⟩ : ∃ Cb, w.heap.size = Cb := ⟨_, rfl⟩
  have hcv : CvAt W1 Cb ⟨cl, cp, cbk, cno, cw, cpr, 88⟩ := by rw [← hW1, ← hCb]; exact CvAt.new w ⟨cl, cp, cbk, cno, cw, cpr, 88⟩ 37
  obtain ⟨n, s, k⟩ := x
  obtain ⟨W2, hW2, hk2, hz2⟩ := named_alloc W1 (.cells #[.float .f64 n, .string (st s), .bool k] 28)
  have har := B3.new W1 (.float .f64 n) (.string (st s)) (.bool k) 28
  rw [hCb] at hz1
  rw [hz1] at hz2
  obtain ⟨Ab, hAb⟩ : ∃ Ab, Cb + 1 = Ab := ⟨_, rfl⟩
  rw [hW2, hz1, hAb] at har
  obtain ⟨W3, hW3, hk3, hz3⟩ := named_alloc W2 (.cells #[.string ⟨#[]⟩, .string ⟨#[]⟩, .bool false] 42)
  have htd := B3.new W2 (.string ⟨#[]⟩) (.string ⟨#[]⟩) (.bool false) 42
  obtain ⟨Tb, hTb⟩ : ∃ Tb, Cb + 1 + 1 = Tb := ⟨_, rfl⟩
  rw [hW3, hz2, hTb] at htd
  have HM : Hid (TlM W3 Cb Ab Tb ⟨cl, cp, cbk, cno, cw, cpr, 88⟩ ⟨n, s, k⟩) := Hid_mk ⟨(hcv.no2 hk2).no2 hk3, har.no hk3, htd⟩
  have HK := Hid_mk ((hk1.trans' hk2).trans' hk3)
  have HT := Hid_mk (show ¬ Tb < w.heap.size by omega)
  have hca : Cb ≠ Ab := by omega
  have hct : Cb ≠ Tb := by omega
  have hat : Ab ≠ Tb := by omega
  have HZ1 := Hid_mk (show W1.heap.size = Ab by omega)
  have HZ2 := Hid_mk (show W2.heap.size = Tb by omega)
  simp only [arV]
  clear hR hk1 hk2 hk3 hz1 hz2 hz3 hcv har htd
  go_enter Tryz.func10, Tryz.ntmps10
  go_upto_region 1 with fail
  rw [HZ1.out, HZ2.out]
  clear hW1 hW2 hW3 hCb hAb hTb
  obtain ⟨⟨d0, d1, d2, d3, d4, d5, d6, d7⟩, ⟨a0, a1, a2, a3⟩, ⟨r0, r1, r2, r3⟩⟩ := HM.out
  simp only at d0 d1 d2 d3 d4 d5 d6 a0 a1 a2
  have d6 : _ = some (Value.int .u8 88) := d6
  go_wp2_with fail
  with_reducible refine (HDg.out _ HK.out).mono ?_
  rintro e w4 ⟨rfl, hkk⟩
  have HM := Hid_mk (HM.out.no hkk)
  have HK := Hid_mk (HK.out.trans' hkk)
  clear hkk
  clear d0 d1 d2 d3 d4 d5 d6 d7 a0 a1 a2 a3 r0 r1 r2 r3
  obtain ⟨⟨d0, d1, d2, d3, d4, d5, d6, d7⟩, ⟨a0, a1, a2, a3⟩, ⟨r0, r1, r2, r3⟩⟩ := HM.out
  simp only at d0 d1 d2 d3 d4 d5 d6 a0 a1 a2
  have d6 : _ = some (Value.int .u8 88) := d6
  go_wp2_with fail
  with_reducible refine (HCp.out _).mono ?_
  rintro e w9 ⟨rfl, rfl⟩
  go_wp2_with fail
  with_reducible refine (HFn.out _).mono ?_
  rintro e w9 ⟨rfl, rfl⟩
  go_upto_region 19 with fail
  clear d0 d1 d2 d3 d4 d5 d6 d7 a0 a1 a2 a3 r0 r1 r2 r3
  have HM := Hid_mk (HM.out.no (Kp.refl No _).drew)
  have HK := Hid_mk (HK.out.trans' (Kp.refl No _).drew)
  refine wp_region_held_drew (S := fun W => CvAt W Cb ⟨cl, cp, cbk, cno, cw, cpr, 88⟩ ∧ B3 W Ab (.float .f64 n) (.string (st s)) (.bool k)) (by kernel_rfl) (⟨HM.out.cv, HM.out.ar⟩) (fun hHeld => ?_)
  try dsimp only at hHeld
  refine wpAnyH_take (i := 0) (oi := { dst := some 67, op := Op.load 37 (Operand.tmp 2), type := 37, pos := "tell.go:37", after := #[], guard := none }) (v := ?_) rfl (by kernel_rfl) (by kernel_rfl) (by kernel_rfl) (fun _ _ _ h => h) (Or.inl ⟨by rfl, ?_⟩) (by assumption) ?_
  rotate_left 1
  · intro W hSw; (try dsimp only at hSw); (obtain ⟨⟨d0, d1, d2, d3, d4, d5, d6, d7⟩, ⟨a0, a1, a2, a3⟩⟩ := hSw; simp only at d0 d1 d2 d3 d4 d5 d6; have d6 : _ = some (Value.int .u8 88) := d6); go_simp; all_goals (with_reducible rfl)
  try simp only [Act.put, List.setIfInBounds_toArray, List.set_cons_zero, List.set_cons_succ]
  refine wpAnyH_take (i := 1) (oi := { dst := some 68, op := Op.fieldAddr 28 (Operand.tmp 3) 0, type := 0, pos := "tell.go:37", after := #[], guard := none }) (v := ?_) rfl (by kernel_rfl) (by kernel_rfl) (by kernel_rfl) (fun _ _ _ h => h) (Or.inl ⟨by rfl, ?_⟩) (by assumption) ?_
  rotate_left 1
  · intro W hSw; (try dsimp only at hSw); (obtain ⟨⟨d0, d1, d2, d3, d4, d5, d6, d7⟩, ⟨a0, a1, a2, a3⟩⟩ := hSw; simp only at d0 d1 d2 d3 d4 d5 d6; have d6 : _ = some (Value.int .u8 88) := d6); go_simp; all_goals (with_reducible rfl)
  try simp only [Act.put, List.setIfInBounds_toArray, List.set_cons_zero, List.set_cons_succ]
  refine wpAnyH_take (i := 2) (oi := { dst := some 69, op := Op.load 26 (Operand.tmp 68), type := 26, pos := "tell.go:37", after := #[{ on := 1, ground := Ground.data }], guard := none }) (v := ?_) rfl (by kernel_rfl) (by kernel_rfl) (by kernel_rfl) (fun _ _ _ h => h) (Or.inl ⟨by rfl, ?_⟩) (by assumption) ?_
  rotate_left 1
  · intro W hSw; (try dsimp only at hSw); (obtain ⟨⟨d0, d1, d2, d3, d4, d5, d6, d7⟩, ⟨a0, a1, a2, a3⟩⟩ := hSw; simp only at d0 d1 d2 d3 d4 d5 d6; have d6 : _ = some (Value.int .u8 88) := d6); go_simp; all_goals (with_reducible rfl)
  try simp only [Act.put, List.setIfInBounds_toArray, List.set_cons_zero, List.set_cons_succ]
  refine wpAnyH_take (i := 3) (oi := { dst := some 70, op := Op.move (Operand.tmp 5), type := 9, pos := "tell.go:37", after := #[], guard := none }) (v := ?_) rfl (by kernel_rfl) (by kernel_rfl) (by kernel_rfl) (fun _ _ _ h => h) (Or.inl ⟨by rfl, ?_⟩) (by assumption) ?_
  rotate_left 1
  · intro W hSw; (try dsimp only at hSw); (obtain ⟨⟨d0, d1, d2, d3, d4, d5, d6, d7⟩, ⟨a0, a1, a2, a3⟩⟩ := hSw; simp only at d0 d1 d2 d3 d4 d5 d6; have d6 : _ = some (Value.int .u8 88) := d6); go_simp; all_goals (with_reducible rfl)
  try simp only [Act.put, List.setIfInBounds_toArray, List.set_cons_zero, List.set_cons_succ]
  refine wpAnyH_take (i := 6) (oi := { dst := some 73, op := Op.move (Operand.tmp 6), type := 4, pos := "tell.go:37", after := #[], guard := none }) (v := ?_) rfl (by kernel_rfl) (by kernel_rfl) (by kernel_rfl) (fun _ _ _ h => h) (Or.inl ⟨by rfl, ?_⟩) (by assumption) ?_
  rotate_left 1
  · intro W hSw; (try dsimp only at hSw); (obtain ⟨⟨d0, d1, d2, d3, d4, d5, d6, d7⟩, ⟨a0, a1, a2, a3⟩⟩ := hSw; simp only at d0 d1 d2 d3 d4 d5 d6; have d6 : _ = some (Value.int .u8 88) := d6); go_simp; all_goals (with_reducible rfl)
  try simp only [Act.put, List.setIfInBounds_toArray, List.set_cons_zero, List.set_cons_succ]
  refine wpAnyH_ready (rs := [4]) (by kernel_rfl) (by simp) ?_
  refine AllReadyH.cons (o := { dst := some 71, op := Op.call { callee := Callee.value (Operand.func 26), args := #[Operand.tmp 69, Operand.const (Value.int IntKind.i64 16), Operand.tmp 70], argTypes := #[26, 3, 9] }, type := 9, pos := "tell.go:37", after := #[{ on := 2, ground := Ground.data }, { on := 3, ground := Ground.data }], guard := none }) rfl (fun K hK => ?_) AllReadyH.nil
  go_simp
  with_reducible refine (HBs.out _ HK.out).mono ?_
  rintro e w5 ⟨rfl, hkk⟩
  have HM := Hid_mk (HM.out.no hkk)
  have HK := Hid_mk (HK.out.trans' hkk)
  clear hkk
  refine hK _ _ (⟨HM.out.cv, HM.out.ar⟩) (fun hHeld => ?_)
  clear hK K
  try dsimp only at hHeld
  try simp only [Act.put, List.setIfInBounds_toArray, List.set_cons_zero, List.set_cons_succ]
  refine wpAnyH_ready (rs := [5]) (by kernel_rfl) (by simp) ?_
  refine AllReadyH.cons (o := { dst := some 72, op := Op.call { callee := Callee.value (Operand.func 27), args := #[Operand.tmp 71], argTypes := #[9] }, type := 9, pos := "tell.go:37", after := #[{ on := 4, ground := Ground.data }, { on := 4, ground := Ground.chain }], guard := none }) rfl (fun K hK => ?_) AllReadyH.nil
  go_simp
  with_reducible refine (HUp.out _).mono ?_
  rintro e w6 ⟨rfl, hkk⟩
  have HM := Hid_mk (HM.out.no hkk)
  have HK := Hid_mk (HK.out.trans' hkk)
  clear hkk
  refine hK _ _ (⟨HM.out.cv, HM.out.ar⟩) (fun hHeld => ?_)
  clear hK K
  try dsimp only at hHeld
  try simp only [Act.put, List.setIfInBounds_toArray, List.set_cons_zero, List.set_cons_succ]
  refine wpAnyH_ready (rs := [7]) (by kernel_rfl) (by simp) ?_
  refine AllReadyH.cons (o := { dst := some 74, op := Op.call { callee := Callee.value (Operand.func 25), args := #[Operand.tmp 67, Operand.tmp 72, Operand.tmp 73], argTypes := #[37, 9, 4] }, type := 42, pos := "tell.go:37", after := #[{ on := 0, ground := Ground.data }, { on := 5, ground := Ground.data }, { on := 6, ground := Ground.data }, { on := 5, ground := Ground.chain }], guard := none }) rfl (fun K hK => ?_) AllReadyH.nil
  go_simp
  with_reducible refine (HWh.out _).mono ?_
  rintro e w7 ⟨rfl, hkk⟩
  have HM := Hid_mk (HM.out.no hkk)
  have HK := Hid_mk (HK.out.trans' hkk)
  clear hkk
  obtain ⟨r0, r1, r2, r3⟩ := HM.out.td
  refine hK _ _ (⟨HM.out.cv, HM.out.ar⟩) (fun hHeld => ?_)
  clear hK K
  try dsimp only at hHeld
  try simp only [Act.put, List.setIfInBounds_toArray, List.set_cons_zero, List.set_cons_succ]
  refine wpAnyH_ready (rs := [8]) (by kernel_rfl) (by simp) ?_
  refine AllReadyH.cons (o := { dst := none, op := Op.store 42 (Operand.tmp 4) (Operand.tmp 74), type := 0, pos := "tell.go:37", after := #[{ on := 7, ground := Ground.data }, { on := 7, ground := Ground.chain }, { on := 0, ground := Ground.phase }, { on := 1, ground := Ground.phase }, { on := 2, ground := Ground.phase }, { on := 3, ground := Ground.phase }, { on := 4, ground := Ground.phase }, { on := 5, ground := Ground.phase }, { on := 6, ground := Ground.phase }, { on := 7, ground := Ground.phase }], guard := none }) rfl (fun K hK => ?_) AllReadyH.nil
  go_simp
  refine hK _ _ (⟨HM.out.cv.kept ((((Kp.refl (fun k => k = Tb) w7).setCell (p := ⟨Tb, 0, none⟩) (fun _ => rfl) _).setCell (p := ⟨Tb, 1, none⟩) (fun _ => rfl) _).setCell (p := ⟨Tb, 2, none⟩) (fun _ => rfl) _) (fun e => hct e), B3.kept HM.out.ar ((((Kp.refl (fun k => k = Tb) w7).setCell (p := ⟨Tb, 0, none⟩) (fun _ => rfl) _).setCell (p := ⟨Tb, 1, none⟩) (fun _ => rfl) _).setCell (p := ⟨Tb, 2, none⟩) (fun _ => rfl) _) (fun e => hat e)⟩) (fun hHeld => ?_)
  clear hK K
  try dsimp only at hHeld
  try simp only [Act.put, List.setIfInBounds_toArray, List.set_cons_zero, List.set_cons_succ]
  refine wpAnyH_done (by kernel_rfl) ?_ _
  go_wp2
  refine bodyPost_ret (v := .agg #[.string (st sg), .string (st bd), .bool (fl)]) ?_ rfl ?_
  · simp [results, Tryz.results10, go_sem, r0, r1, r2]
  · rw [← HR.out]
    exact ⟨rfl, ((HK.out.setCell (p := ⟨Tb, 0, none⟩) (fun e => absurd e HT.out) _).setCell (p := ⟨Tb, 1, none⟩) (fun e => absurd e HT.out) _).setCell (p := ⟨Tb, 2, none⟩) (fun e => absurd e HT.out) _⟩

end Go.Proofs.YtgejeocojmpdjacGreatDoor.pf

namespace Go.Proofs.YtgejeocojmpdjacGreatDoor.fmtf
open Go.RowKit Go.Proofs.YtgejeocojmpdjacGreatDoor.sum Go.Proofs.YtgejeocojmpdjacGreatDoor.kept Go.Proofs.YtgejeocojmpdjacGreatDoor.app Go.Proofs.YtgejeocojmpdjacGreatDoor.writer Go.Proofs.YtgejeocojmpdjacGreatDoor.known
set_option linter.unusedVariables false
attribute [local go_sem] run_fbits

set_option maxRecDepth 100000 in
set_option maxHeartbeats 4000000 in
theorem efg_zero (base : Nat) (w : World) (v0 : Value) (hd : Dst base w v0 w v0 []) :
    Calls Tryz.prog 85 #[v0, .bool false, .slice none 0 0, .int .i64 0, .int .i64 0, .int .i64 0, .int .u8 102, .bool false] w (EfPost base w v0 [48]) := by
  have HD := Hid_mk hd
  clear hd
  go_enter Tryz.func85, Tryz.ntmps85
  go_wp2_with (at_builtin; (refine wpList_append_bs _ rfl _ _ rfl base _ [] rfl (HD.out.owns.alloc _) _ [48] rfl (bs_one _ 48) ?c1 ?c2 ?_))
  case c1 => simp
  case c2 => have h8 := HD.out.room; simp; omega
  intro v1 w1 happ
  have HD1 := Hid_mk (HD.out.push happ)
  clear happ
  go_wp2
  go_ret
  exact ⟨v1, rfl, HD1.out⟩

set_option maxRecDepth 100000 in
set_option maxHeartbeats 4000000 in
theorem ftoa_zero (base : Nat) (w : World) (v0 : Value) (hd : Dst base w v0 w v0 []) :
    Calls Tryz.prog 71 #[v0, .float .f64 0, .int .u8 102, .int .i64 0] w (EfPost base w v0 [48]) := by
  have HE := Hid_mk fun W (hk : Kp No w W) => efg_zero base W v0 (hd.at hk)
  have HD := Hid_mk hd
  have q1 : bits .and .i64 0 2047 = 0 := by decide +kernel
  have q2 : bits .and .u64 0 4503599627370495 = 0 := by decide +kernel
  clear hd
  go_enter Tryz.func71, Tryz.ntmps71
  go_wp2_with fail
  go_quiet (fail)
  go_wp2_with fail
  with_reducible refine (HE.out _ ((Kp.refl No w).drewN nq)).mono ?_
  rintro e w2 ⟨v2, rfl, hd2⟩
  have HD2 := Hid_mk (hd2.back ((Kp.refl No w).drewN nq) HD.out.room)
  clear hd2
  go_wp2
  go_ret
  exact ⟨v2, rfl, HD2.out⟩

/-- FormatFloat of 0 -/
theorem ff_zero (W : World) : Calls Tryz.prog 40 #[.float .f64 0, .int .u8 102, .int .i64 0, .int .i64 64] W (TxPost W [48]) :=
  ff_any W 0 102 0 [48] (iff_any W 0 102 0 [48] (by omega) (by omega) fun W' v0 hk hd hv => ftoa_zero W.heap.size W' v0 hd)

end Go.Proofs.YtgejeocojmpdjacGreatDoor.fmtf

namespace Go.Proofs.YtgejeocojmpdjacGreatDoor.fmtf
open Go.RowKit Go.Lib Go.Proofs.YtgejeocojmpdjacGreatDoor.sum Go.Proofs.YtgejeocojmpdjacGreatDoor.kept Go.Proofs.YtgejeocojmpdjacGreatDoor.app Go.Proofs.YtgejeocojmpdjacGreatDoor.writer Go.Proofs.YtgejeocojmpdjacGreatDoor.known Go.Proofs.YtgejeocojmpdjacGreatDoor.pf
set_option linter.unusedVariables false

theorem or_one_le (a b : Nat) (hb : b ≤ 1) : a ||| b ≤ a + 1 := by
  have h : (a ||| b) / 2 = a / 2 := by
    rw [Nat.or_div_two, show b / 2 = 0 by omega, Nat.or_zero]
  omega
theorem orI_le (a b : Int) (ha : 0 ≤ a) (ha2 : a < 18446744073709551616) (hb : 0 ≤ b) (hb2 : b ≤ 1) : 0 ≤ bits .or .u64 a b ∧ bits .or .u64 a b ≤ a + 1 := by
  obtain ⟨n, rfl⟩ : ∃ n : Nat, a = (n : Int) := ⟨a.toNat, by omega⟩
  obtain ⟨k, rfl⟩ : ∃ k : Nat, b = (k : Int) := ⟨b.toNat, by omega⟩
  rw [u64_or_nat n k (by omega) (by omega)]
  have := or_one_le n k (by omega)
  omega
theorem and1_bd (a : Int) (ha : 0 ≤ a) (ha2 : a < 18446744073709551616) : 0 ≤ bits .and .u64 a 1 ∧ bits .and .u64 a 1 ≤ 1 := by
  obtain ⟨n, rfl⟩ : ∃ n : Nat, a = (n : Int) := ⟨a.toNat, by omega⟩
  have := u64_and_nat n 1 (by omega) (by omega)
  rw [show ((1 : Nat) : Int) = 1 from rfl] at this
  rw [this]
  have h := Nat.and_le_right (n := n) (m := 1)
  omega
theorem b2_bd (b : Bool) : 0 ≤ b2 b ∧ b2 b ≤ 1 := by unfold b2; split <;> omega
theorem divI_le (x : Int) (h : 0 ≤ x) (h2 : x < 18446744073709551616) : 0 ≤ divI x ∧ divI x ≤ x / 10 + 2 := by
  unfold divI
  have e : x.tdiv 10 = x / 10 := by rw [Int.tdiv_eq_ediv_of_nonneg h]
  have hw : IntKind.u64.wrap (x.tdiv 10) = x / 10 := by rw [e, IntKind.wrap_u64]; omega
  rw [hw]
  have a := and1_bd x h h2
  have o1 := orI_le (x / 10) (bits .and .u64 x 1) (by omega) (by omega) a.1 a.2
  have b := b2_bd (x % 10 != 0)
  have o2 := orI_le (bits .or .u64 (x / 10) (bits .and .u64 x 1)) (b2 (x % 10 != 0)) o1.1 (by omega) b.1 b.2
  omega
theorem usc_bd (H M M2 s : Nat) : 0 ≤ uscI H M M2 s ∧ uscI H M M2 s < 18446744073709551616 := by
  have w : ∀ a b, 0 ≤ bits .or .u64 a b ∧ bits .or .u64 a b < 18446744073709551616 := fun a b => by
    have h := bits_within .or .u64 a b
    simp [IntKind.min, IntKind.max, IntKind.signed, IntKind.bits] at h
    omega
  unfold uscI
  split
  · exact w _ _
  · exact w _ _
/-- small enough to be rounded -/
def Sm (u : Int) : Prop := 0 ≤ u ∧ u ≤ 3999999999999999997
theorem fwU_sm (m : Nat) (e : Int) (n : Nat) (hi lo : Nat) (hn : n ≤ 18) : Sm (fwU m e n hi lo).1 ∧ ((fwU m e n hi lo).2 = fwP e n ∨ (fwU m e n hi lo).2 = fwP e n - 1) := by
  have hb := usc_bd (m * hi / 18446744073709551616) (m * hi % 18446744073709551616) (m * lo / 18446744073709551616) (fwS e n).toNat
  have hp : 10 ^ n ≤ 10 ^ 18 := Nat.pow_le_pow_right (by omega) hn
  have hp1 : 0 < 10 ^ n := Nat.pow_pos (by omega)
  unfold fwU Sm
  generalize uscI (m * hi / 18446744073709551616) (m * hi % 18446744073709551616) (m * lo / 18446744073709551616) (fwS e n).toNat = u at *
  generalize 10 ^ n = t at *
  simp only [Nat.reducePow] at hp
  split
  · have := divI_le u hb.1 hb.2
    exact ⟨⟨this.1, by omega⟩, .inr rfl⟩
  · exact ⟨⟨hb.1, by omega⟩, .inl rfl⟩
theorem dvN_sm (prec : Int) : ∀ (f : Nat) (u p : Int), Sm u → Sm (dvN prec f u p).1 ∧ (dvN prec f u p).2 ≤ p ∧ min p prec ≤ (dvN prec f u p).2
  | 0, u, p, h => ⟨h, by show p ≤ p; omega, by show min p prec ≤ p; omega⟩
  | f + 1, u, p, h => by
    rw [dvN]
    split
    · have hd := divI_le u h.1 (by have := h.2; omega)
      have ih := dvN_sm prec f (divI u) (p - 1) ⟨hd.1, by have := h.2; omega⟩
      exact ⟨ih.1, by omega, by omega⟩
    · exact ⟨h, by show p ≤ p; omega, by show min p prec ≤ p; omega⟩
theorem rnd_sm (u : Int) (h : Sm u) : 0 ≤ rndI u ∧ rndI u < 1000000000000000000 := by
  obtain ⟨h1, h2⟩ := h
  unfold rndI
  have a := and1_bd (u / 4) (by omega) (by omega)
  have w1 : IntKind.u64.wrap (u + 1) = u + 1 := by rw [IntKind.wrap_u64]; omega
  rw [w1]
  have w2 : IntKind.u64.wrap (u + 1 + bits .and .u64 (u / 4) 1) = u + 1 + bits .and .u64 (u / 4) 1 := by rw [IntKind.wrap_u64]; omega
  rw [w2]
  omega
theorem fw_bd (m : Nat) (e : Int) (n : Nat) (prec : Int) (hi lo : Nat) (h1 : -1138 ≤ e) (h2 : e ≤ 971) (h3 : 1 ≤ n) (h4 : n ≤ 18) (hp : 0 ≤ prec) :
    0 ≤ (fwI m e n prec 102 hi lo).1 ∧ (fwI m e n prec 102 hi lo).1 < 1000000000000000000 ∧ -900 ≤ (fwI m e n prec 102 hi lo).2 ∧ (fwI m e n prec 102 hi lo).2 ≤ 900 := by
  have hu := fwU_sm m e n hi lo h4
  have hb := fwP_bd h1 h2 (n := (n : Int)) (by omega) (by omega)
  unfold fwI fwX
  rw [if_pos rfl]
  have hd := dvN_sm prec ((fwU m e n hi lo).2 - prec).toNat (fwU m e n hi lo).1 (fwU m e n hi lo).2 hu.1
  have hr := rnd_sm _ hd.1
  refine ⟨hr.1, hr.2, ?_, ?_⟩
  · simp only; rcases hu.2 with e1 | e1 <;> omega
  · simp only; rcases hu.2 with e1 | e1 <;> omega
theorem fx_bd (T : Int → Nat × Nat) (b : Nat) (prec : Int) (hb : b < 18446744073709551616) (hE : b / 4503599627370496 % 2048 ≠ 2047) (hM : mtN b ≠ 0) (hD : dgI b prec ≤ 18) (hp : 0 ≤ prec) :
    0 ≤ (fxI T b prec).1 ∧ (fxI T b prec).1 < 1000000000000000000 ∧ -900 ≤ (fxI T b prec).2 ∧ (fxI T b prec).2 ≤ 900 := by
  unfold fxI
  split
  · rename_i h0
    have hx1 : -1022 ≤ exI b := by unfold exI; split <;> omega
    have hx2 : exI b ≤ 1023 := by unfold exI; split <;> omega
    have hs : (shN b : Int) ≤ 64 ∧ 0 ≤ (shN b : Int) := by unfold shN; omega
    exact fw_bd _ (fxE b) _ prec _ _ (by unfold fxE; omega) (by unfold fxE; omega) (by omega) (by omega) hp
  · exact ⟨by decide, by decide, by decide, by decide⟩
/-- what FormatFloat tells at 'f' -/
def ffS (b : Nat) (prec : Int) : List UInt8 :=
  outF (decide (9223372036854775808 ≤ b)) (dgt (fxI T10 b prec).1.toNat (ndS (fxI T10 b prec).1.toNat)) (if (fxI T10 b prec).1.toNat = 0 then 0 else (ndS (fxI T10 b prec).1.toNat : Int) + (fxI T10 b prec).2) (if (fxI T10 b prec).1.toNat = 0 then 0 else trimN (dgt (fxI T10 b prec).1.toNat (ndS (fxI T10 b prec).1.toNat)) (ndS (fxI T10 b prec).1.toNat)) prec
theorem ff_all (W : World) (h : Ld W) (b : Nat) (prec : Int) (hb : b < 18446744073709551616) (hE : b / 4503599627370496 % 2048 ≠ 2047) (hM : mtN b ≠ 0) (hp1 : 0 ≤ prec) (hp2 : prec ≤ 1000) (hD : dgI b prec ≤ 18) :
    Calls Tryz.prog 40 #[.float .f64 b, .int .u8 102, .int .i64 prec, .int .i64 64] W (TxPost W (ffS b prec)) := by
  obtain ⟨h1, h2, h3, h4⟩ := fx_bd T10 b prec hb hE hM hD hp1
  refine ff_closed W h b prec (fxI T10 b prec).1.toNat (fxI T10 b prec).2 _ hb hE hM hp1 hp2 hD ?_ ?_ h3 h4 rfl
  · rw [Int.toNat_of_nonneg h1]
  · have e : (10 : Nat) ^ 18 = 1000000000000000000 := by decide
    omega

end Go.Proofs.YtgejeocojmpdjacGreatDoor.fmtf

namespace Go.Proofs.YtgejeocojmpdjacGreatDoor.fl
open Ieee

theorem log2_mul_pow (n k : Nat) (h : 0 < n) : (n * 2 ^ k).log2 = n.log2 + k := by
  have h0 : n ≠ 0 := by omega
  have hp : 0 < 2 ^ k := Nat.two_pow_pos k
  have hm : n * 2 ^ k ≠ 0 := Nat.mul_ne_zero h0 (by omega)
  rw [Nat.log2_eq_iff hm]
  have a := Nat.log2_self_le h0
  have b : n < 2 ^ (n.log2 + 1) := Nat.lt_log2_self
  constructor
  · rw [Nat.pow_add]; exact Nat.mul_le_mul_right _ a
  · rw [show n.log2 + k + 1 = (n.log2 + 1) + k by omega, Nat.pow_add]; exact Nat.mul_lt_mul_of_pos_right b hp

theorem cut_exact (neg : Bool) (way : Toward) (x d : Nat) (h : d ≤ (x * 2 ^ d).log2 + 2) : way.cut neg (x * 2 ^ d) d = x := by
  have hp : 0 < 2 ^ d := Nat.two_pow_pos d
  unfold Toward.cut
  simp only [Nat.min_eq_left h, Nat.shiftLeft_eq, Nat.one_mul]
  rw [Nat.mul_div_cancel _ hp, Nat.mul_mod_left]
  cases way <;> simp <;> omega

theorem min_rung {E X : Nat} (hE : E ≤ 1922) (hX : X < 2 ^ 53) : min (E * 2 ^ 52 + X) (2047 * 2 ^ 52) = E * 2 ^ 52 + X := by
  rw [Nat.min_eq_left]
  have p53 : (2 : Nat) ^ 53 = 2 * 2 ^ 52 := by decide
  have h1 : E * 2 ^ 52 ≤ 1922 * 2 ^ 52 := Nat.mul_le_mul_right _ hE
  have h3 : 1922 * 2 ^ 52 + 2 * 2 ^ 52 ≤ 2047 * 2 ^ 52 := by decide
  rw [p53] at hX
  exact Nat.le_trans (Nat.add_le_add h1 (Nat.le_of_lt hX)) h3

/-- The word of n * 2^k * 2^(e-k): n below 2^53. -/
theorem nearest_exact (neg : Bool) (n k : Nat) (e : Int) (h : 0 < n) (hl : n.log2 ≤ 52) (h1 : -1022 ≤ e + n.log2) (h2 : e + n.log2 ≤ 900) :
    double.nearest neg (n * 2 ^ k) (e - k) = double.word neg ((e + n.log2 + 1022).toNat * 2 ^ 52 + n * 2 ^ (52 - n.log2)) := by
  have hp : 0 < 2 ^ k := Nat.two_pow_pos k
  have hm : n * 2 ^ k ≠ 0 := Nat.mul_ne_zero (by omega) (by omega)
  have hL := log2_mul_pow n k h
  unfold Format.nearest
  rw [if_neg hm]
  have hlast : max (e - (k : Int) + ((n * 2 ^ k).log2 : Nat) - (double.fractionBits : Nat)) double.leastPlace = e + n.log2 - 52 := by
    rw [hL]
    simp only [double, Format.leastPlace]
    simp
    omega
  simp only [hlast]
  have key : Toward.even.cut neg ((n * 2 ^ k) <<< (e - (k : Int) - (e + n.log2 - 52)).toNat) (e + n.log2 - 52 - (e - (k : Int))).toNat = n * 2 ^ (52 - n.log2) := by
    by_cases hk : k ≤ 52 - n.log2
    · have e1 : (e - (k : Int) - (e + n.log2 - 52)).toNat = 52 - n.log2 - k := by omega
      have e2 : (e + n.log2 - 52 - (e - (k : Int))).toNat = 0 := by omega
      rw [e1, e2, Nat.shiftLeft_eq, Nat.mul_assoc, ← Nat.pow_add, show k + (52 - n.log2 - k) = 52 - n.log2 by omega]
      have := cut_exact neg .even (n * 2 ^ (52 - n.log2)) 0 (Nat.zero_le _)
      simpa using this
    · have e1 : (e - (k : Int) - (e + n.log2 - 52)).toNat = 0 := by omega
      have e2 : (e + n.log2 - 52 - (e - (k : Int))).toNat = k - (52 - n.log2) := by omega
      rw [e1, e2, Nat.shiftLeft_zero]
      have hs : n * 2 ^ k = (n * 2 ^ (52 - n.log2)) * 2 ^ (k - (52 - n.log2)) := by
        rw [Nat.mul_assoc, ← Nat.pow_add]; congr 2; omega
      rw [hs]
      apply cut_exact
      rw [← hs, hL]; omega
  rw [key]
  have hX : n * 2 ^ (52 - n.log2) < 2 ^ 53 := by
    have b : n < 2 ^ (n.log2 + 1) := Nat.lt_log2_self
    have : n * 2 ^ (52 - n.log2) < 2 ^ (n.log2 + 1) * 2 ^ (52 - n.log2) := Nat.mul_lt_mul_of_pos_right b (Nat.two_pow_pos _)
    rw [← Nat.pow_add, show n.log2 + 1 + (52 - n.log2) = 53 by omega] at this
    exact this
  have hlp : double.leastPlace = -1074 := by decide
  have hb : double.binade = 2 ^ 52 := rfl
  have hi : double.infRung = 2047 * 2 ^ 52 := by decide
  rw [hlp, hb, hi]
  have e3 : (e + (n.log2 : Int) - 52 - -1074).toNat = (e + n.log2 + 1022).toNat := by omega
  have h4 : (e + n.log2 + 1022).toNat ≤ 1922 := by omega
  rw [e3, min_rung h4 hX]

theorem norm_bounds (n : Nat) (h : 0 < n) (hl : n.log2 ≤ 52) : 2 ^ 52 ≤ n * 2 ^ (52 - n.log2) ∧ n * 2 ^ (52 - n.log2) < 2 ^ 53 := by
  have a := Nat.log2_self_le (n := n) (by omega)
  have b : n < 2 ^ (n.log2 + 1) := Nat.lt_log2_self
  constructor
  · have := Nat.mul_le_mul_right (2 ^ (52 - n.log2)) a
    rw [← Nat.pow_add, show n.log2 + (52 - n.log2) = 52 by omega] at this
    exact this
  · have : n * 2 ^ (52 - n.log2) < 2 ^ (n.log2 + 1) * 2 ^ (52 - n.log2) := Nat.mul_lt_mul_of_pos_right b (Nat.two_pow_pos _)
    rw [← Nat.pow_add, show n.log2 + 1 + (52 - n.log2) = 53 by omega] at this
    exact this

theorem read_word (neg : Bool) (E X : Nat) (h1 : 2 ^ 52 ≤ X) (h2 : X < 2 ^ 53) (hE : E ≤ 1945) : double.read (double.word neg (E * 2 ^ 52 + X)) = .number neg X (-1074 + E) := by
  have hlp : double.leastPlace = -1074 := by decide
  have hb : double.binade = 4503599627370496 := by decide
  have hi : double.infRung = 9218868437227405312 := by decide
  have hsw : double.signWeight = 9223372036854775808 := by decide
  obtain ⟨r, rfl⟩ : ∃ r, X = 4503599627370496 + r := ⟨X - 4503599627370496, by omega⟩
  have hr : r < 4503599627370496 := by omega
  have hq : (E * 2 ^ 52 + (4503599627370496 + r)) / 4503599627370496 = E + 1 := by omega
  have hmod : (E * 2 ^ 52 + (4503599627370496 + r)) % 4503599627370496 = r := by omega
  have hlt : E * 2 ^ 52 + (4503599627370496 + r) < 9218868437227405312 := by omega
  have hge : ¬ E * 2 ^ 52 + (4503599627370496 + r) < 4503599627370496 := by omega
  generalize E * 2 ^ 52 + (4503599627370496 + r) = R at *
  have hw : double.word neg R / 9223372036854775808 % 2 = (if neg then 1 else 0) ∧ double.word neg R % 9223372036854775808 = R := by
    unfold Format.word
    rw [hsw]
    cases neg
    · simp; omega
    · simp; omega
  unfold Format.read
  simp only [hlp, hb, hi, hsw, hw.1, hw.2, hlt, hge, if_true, if_false, hq, hmod]
  cases neg <;> simp

theorem read_zero (neg : Bool) : double.read (double.word neg 0) = .number neg 0 (-1074) := by
  cases neg <;> decide

/-- The word of a whole number. -/
def fl (z : Int) : Nat := floatOfInt .f64 z

theorem fl_eq (z : Int) : fl z = double.nearest (decide (z < 0)) z.natAbs 0 := rfl

def Small (z : Int) : Prop := z.natAbs < 2 ^ 53

theorem small_log {n : Nat} (h0 : 0 < n) (h : n < 2 ^ 53) : n.log2 ≤ 52 := by
  have := (Nat.log2_lt (n := n) (k := 53) (by omega)).2 h
  omega

theorem word_of {neg : Bool} {n : Nat} (k : Nat) (h : 0 < n) (hs : n < 2 ^ 53) : double.nearest neg (n * 2 ^ k) (-(k : Int)) = double.nearest neg n 0 := by
  have hl := small_log h hs
  have a := nearest_exact neg n k 0 h hl (by omega) (by omega)
  have b := nearest_exact neg n 0 0 h hl (by omega) (by omega)
  simp only [Nat.pow_zero, Nat.mul_one, Int.natCast_zero, Int.sub_zero, Int.zero_sub] at a b
  rw [a, b]

theorem nearest_zero (neg : Bool) (e : Int) : double.nearest neg 0 e = double.word neg 0 := by
  simp [Format.nearest]

/-- What a whole number's word is read as. -/
theorem read_fl (z : Int) (h : Small z) : ∃ q : Nat, q ≤ 1074 ∧ double.read (fl z) = .number (decide (z < 0)) (z.natAbs * 2 ^ q) (-(q : Int)) := by
  unfold Small at h
  by_cases hz : z = 0
  · subst hz
    refine ⟨1074, Nat.le_refl _, ?_⟩
    rw [fl_eq]
    simp only [Int.natAbs_zero, nearest_zero, read_zero, Nat.zero_mul]
    rfl
  · have h0 : 0 < z.natAbs := by omega
    have hl := small_log h0 h
    have a := nearest_exact (decide (z < 0)) z.natAbs 0 0 h0 hl (by omega) (by omega)
    simp only [Nat.pow_zero, Nat.mul_one, Int.natCast_zero, Int.sub_zero, Int.zero_add] at a
    have nb := norm_bounds z.natAbs h0 hl
    refine ⟨52 - z.natAbs.log2, by omega, ?_⟩
    have e : (((z.natAbs.log2 : Int) + 1022).toNat) ≤ 1945 := by omega
    have e2 : (-1074 + (((z.natAbs.log2 : Int) + 1022).toNat : Nat) : Int) = -((52 - z.natAbs.log2 : Nat) : Int) := by omega
    rw [fl_eq, a, read_word _ _ _ nb.1 nb.2 e, e2]

theorem signed_eq (z : Int) (q up : Nat) : signed (decide (z < 0)) (z.natAbs * 2 ^ q) up = z * (2 ^ (q + up) : Nat) := by
  unfold signed
  rw [Nat.shiftLeft_eq, Nat.mul_assoc, ← Nat.pow_add]
  by_cases h : z < 0
  · rw [if_pos (by simpa using h)]
    have e : z = -(z.natAbs : Int) := by omega
    generalize z.natAbs = n at e
    subst e
    simp [Int.neg_mul]
  · rw [if_neg (by simpa using h)]
    have e : z = (z.natAbs : Int) := by omega
    generalize z.natAbs = n at e
    subst e
    simp

theorem mul_pow_zero (z : Int) (q : Nat) : z * (2 ^ q : Nat) = 0 ↔ z = 0 := by
  have hp : 0 < 2 ^ q := Nat.two_pow_pos q
  constructor
  · intro h
    rcases Int.mul_eq_zero.1 h with h | h
    · exact h
    · omega
  · intro h; subst h; simp
theorem mul_pow_neg (z : Int) (q : Nat) : z * (2 ^ q : Nat) < 0 ↔ z < 0 := by
  have hp : 0 < 2 ^ q := Nat.two_pow_pos q
  have hp' : (0 : Int) < (2 ^ q : Nat) := by omega
  constructor
  · intro h
    by_cases hz : z < 0
    · exact hz
    · exact absurd h (Int.not_lt.2 (Int.mul_nonneg (by omega) (by omega)))
  · intro h; exact Int.mul_neg_of_neg_of_pos h hp'
theorem mul_pow_abs (z : Int) (q : Nat) : (z * (2 ^ q : Nat)).natAbs = z.natAbs * 2 ^ q := by
  rw [Int.natAbs_mul, Int.natAbs_natCast]

/-- The word of a sum's datum. -/
theorem write_sum (c : Int) (k : Nat) (hc : Small c) (neg : Bool) (h0 : neg = decide (c < 0)) : double.write (.number neg (c * (2 ^ k : Nat)).natAbs (-(k : Int))) = fl c := by
  subst h0
  show double.nearest _ _ _ = _
  rw [mul_pow_abs]
  by_cases hz : c = 0
  · subst hz; simp [nearest_zero, fl_eq]
  · rw [word_of k (by omega) hc]; rfl

theorem sum_data (a b : Int) (q r : Nat) (hc : Small (a + b)) (s t : Bool) (ms mt : Nat)
    (hs : ∀ up, signed s ms up = a * (2 ^ (q + up) : Nat)) (ht : ∀ up, signed t mt up = b * (2 ^ (r + up) : Nat)) (hz : a + b = 0 → (s && t) = false) :
    ((Datum.number s ms (-(q : Int))).sum (.number t mt (-(r : Int)))).map double.write = some (fl (a + b)) := by
  have hb : min (-(q : Int)) (-(r : Int)) = -((max q r : Nat) : Int) := by omega
  have e1 : (-(q : Int) - -((max q r : Nat) : Int)).toNat = max q r - q := by omega
  have e2 : (-(r : Int) - -((max q r : Nat) : Int)).toNat = max q r - r := by omega
  simp only [Datum.sum, hb, e1, e2, hs, ht, Option.map_some]
  rw [show q + (max q r - q) = max q r by omega, show r + (max q r - r) = max q r by omega, ← Int.add_mul]
  congr 1
  apply write_sum _ _ hc
  simp only [mul_pow_zero, mul_pow_neg]
  split
  · rename_i h
    rw [hz h, h]; rfl
  · rfl

theorem fl_add (a b : Int) (ha : Small a) (hb : Small b) (hc : Small (a + b)) : floatBits .add .f64 (fl a) (fl b) = some (fl (a + b)) := by
  obtain ⟨q, _, hq⟩ := read_fl a ha
  obtain ⟨r, _, hr⟩ := read_fl b hb
  show ((double.read (fl a)).sum (double.read (fl b))).map double.write = _
  rw [hq, hr]
  refine sum_data a b q r hc _ _ _ _ (signed_eq a q) (signed_eq b r) ?_
  intro h
  by_cases h1 : a < 0 <;> by_cases h2 : b < 0 <;> simp [h1, h2] <;> omega

theorem signed_opp (z : Int) (q up : Nat) : signed (!decide (z < 0)) (z.natAbs * 2 ^ q) up = (-z) * (2 ^ (q + up) : Nat) := by
  have h := signed_eq z q up
  rw [Int.neg_mul, ← h]
  unfold signed
  by_cases hz : z < 0 <;> simp [hz]

theorem fl_sub (a b : Int) (ha : Small a) (hb : Small b) (hc : Small (a - b)) : floatBits .sub .f64 (fl a) (fl b) = some (fl (a - b)) := by
  obtain ⟨q, _, hq⟩ := read_fl a ha
  obtain ⟨r, _, hr⟩ := read_fl b hb
  show ((double.read (fl a)).sum (double.read (fl b)).opposite).map double.write = _
  rw [hq, hr]
  rw [Int.sub_eq_add_neg] at hc ⊢
  refine sum_data a (-b) q r hc _ _ _ _ (signed_eq a q) (signed_opp b r) ?_
  intro h
  by_cases h1 : a < 0 <;> by_cases h2 : b < 0 <;> simp [h1, h2] <;> omega

theorem fl_mul (a b : Int) (ha : Small a) (hb : Small b) (hc : Small (a * b)) (hs : (decide (a < 0) ^^ decide (b < 0)) = decide (a * b < 0)) : floatBits .mul .f64 (fl a) (fl b) = some (fl (a * b)) := by
  obtain ⟨q, _, hq⟩ := read_fl a ha
  obtain ⟨r, _, hr⟩ := read_fl b hb
  show ((double.read (fl a)).product (double.read (fl b))).map double.write = _
  rw [hq, hr]
  simp only [Datum.product, Option.map_some, hs]
  congr 1
  have e : a.natAbs * 2 ^ q * (b.natAbs * 2 ^ r) = ((a * b) * (2 ^ (q + r) : Nat)).natAbs := by
    rw [mul_pow_abs, Int.natAbs_mul, Nat.pow_add]
    ac_rfl
  rw [e, show -(q : Int) + -(r : Int) = -((q + r : Nat) : Int) by omega]
  exact write_sum _ _ hc _ rfl

theorem fl_mul_nonneg (a b : Int) (h1 : 0 ≤ a) (h2 : 0 ≤ b) (ha : Small a) (hb : Small b) (hc : Small (a * b)) : floatBits .mul .f64 (fl a) (fl b) = some (fl (a * b)) := by
  refine fl_mul a b ha hb hc ?_
  have := Int.mul_nonneg h1 h2
  simp [show ¬ a < 0 by omega, show ¬ b < 0 by omega, show ¬ a * b < 0 by omega]

theorem fl_mul_neg (a b : Int) (h1 : 0 < a) (h2 : b < 0) (ha : Small a) (hb : Small b) (hc : Small (a * b)) : floatBits .mul .f64 (fl a) (fl b) = some (fl (a * b)) := by
  refine fl_mul a b ha hb hc ?_
  have := Int.mul_neg_of_pos_of_neg h1 h2
  simp [show ¬ a < 0 by omega, h2, this]

theorem fl_order (a b : Int) (ha : Small a) (hb : Small b) : double.order (fl a) (fl b) = some (compare a b) := by
  obtain ⟨q, _, hq⟩ := read_fl a ha
  obtain ⟨r, _, hr⟩ := read_fl b hb
  unfold Format.order
  rw [hq, hr]
  have hbm : min (-(q : Int)) (-(r : Int)) = -((max q r : Nat) : Int) := by omega
  have e1 : (-(q : Int) - -((max q r : Nat) : Int)).toNat = max q r - q := by omega
  have e2 : (-(r : Int) - -((max q r : Nat) : Int)).toNat = max q r - r := by omega
  simp only [Datum.order, hbm, e1, e2, signed_eq]
  rw [show q + (max q r - q) = max q r by omega, show r + (max q r - r) = max q r by omega]
  congr 1
  have hp : 0 < 2 ^ (max q r) := Nat.two_pow_pos _
  generalize hP : (2 ^ (max q r) : Nat) = p at *
  have hp' : (0 : Int) < (p : Int) := by omega
  rcases Int.lt_trichotomy a b with h | h | h
  · rw [show compare a b = .lt from by simp [compare, compareOfLessAndEq, h]]
    have := Int.mul_lt_mul_of_pos_right h hp'
    simp [compare, compareOfLessAndEq, this]
  · subst h; simp [compare, compareOfLessAndEq]
  · rw [show compare a b = .gt from by simp [compare, compareOfLessAndEq, show ¬ a < b by omega, show ¬ a = b by omega]]
    have := Int.mul_lt_mul_of_pos_right h hp'
    simp [compare, compareOfLessAndEq, show ¬ a * (p : Int) < b * p by omega, show ¬ a * (p : Int) = b * p by omega]

theorem fl_eql (a b : Int) (ha : Small a) (hb : Small b) : (FloatKind.f64.format.order (fl a) (fl b) == some .eq) = decide (a = b) := by
  show (double.order (fl a) (fl b) == some .eq) = _
  rw [fl_order a b ha hb]
  rcases Int.lt_trichotomy a b with h | h | h
  · simp [compare, compareOfLessAndEq, h, show a ≠ b by omega]
  · subst h; simp [compare, compareOfLessAndEq]
  · simp [compare, compareOfLessAndEq, show ¬ a < b by omega, show a ≠ b by omega]

/-- A whole number's word, cut to a whole number: itself. -/
theorem fl_toInt (z : Int) (h : Small z) (way : Toward) : (double.read (fl z)).toInt way = some z := by
  obtain ⟨q, hq0, hq⟩ := read_fl z h
  rw [hq]
  simp only [Datum.toInt, Datum.integral]
  have e1 : (-(q : Int)).toNat = 0 := by omega
  have e2 : (-(-(q : Int))).toNat = q := by omega
  rw [e1, e2, Nat.shiftLeft_zero]
  have hc : way.cut (decide (z < 0)) (z.natAbs * 2 ^ q) q = z.natAbs := by
    by_cases hz : z.natAbs = 0
    · rw [hz, Nat.zero_mul]
      unfold Toward.cut
      cases way <;> simp [Nat.shiftLeft_eq]
    · apply cut_exact
      rw [log2_mul_pow _ _ (by omega)]
      omega
  rw [hc]
  have := signed_eq z 0 0
  simpa using this

theorem fl_int (z : Int) (h : Small z) (k : IntKind) (h1 : k.min ≤ z) (h2 : z ≤ k.max) : floatToIntVal .f64 (fl z) k = some z := by
  unfold floatToIntVal
  rw [show FloatKind.f64.decode (fl z) = double.read (fl z) from rfl, fl_toInt z h]
  simp [h1, h2]

end Go.Proofs.YtgejeocojmpdjacGreatDoor.fl

namespace Go.Proofs.YtgejeocojmpdjacGreatDoor.fl
open Ieee
set_option linter.unusedVariables false

theorem order_big (z : Int) (hz : Small z) (K n j : Nat) (s : Bool) (hK : double.read K = .number s n (j : Int)) (hn : 2 ^ 53 ≤ n * 2 ^ j) :
    double.order (fl z) K = some (if s = true then .gt else .lt) ∧ double.order K (fl z) = some (if s = true then .lt else .gt) := by
  obtain ⟨q, _, hq⟩ := read_fl z hz
  unfold Format.order
  rw [hq, hK]
  have e0 : min (-(q : Int)) (j : Int) = -(q : Int) := by omega
  have e0' : min (j : Int) (-(q : Int)) = -(q : Int) := by omega
  have e1 : (-(q : Int) - -(q : Int)).toNat = 0 := by omega
  have e2 : ((j : Int) - -(q : Int)).toNat = j + q := by omega
  simp only [Datum.order, e0, e0', e1, e2, signed_eq, Nat.add_zero]
  have hp : 0 < 2 ^ q := Nat.two_pow_pos _
  have hN : n * 2 ^ (j + q) = (n * 2 ^ j) * 2 ^ q := by rw [Nat.pow_add, Nat.mul_assoc]
  have hz2 : z.natAbs < 2 ^ 53 := hz
  generalize hP : (2 ^ q : Nat) = p at *
  generalize hM : n * 2 ^ j = M at *
  have hzl : z < (M : Int) := by omega
  have hzg : -(M : Int) < z := by omega
  have hp' : (0 : Int) < (p : Int) := by omega
  have a1 := Int.mul_lt_mul_of_pos_right hzl hp'
  have a2 := Int.mul_lt_mul_of_pos_right hzg hp'
  cases s with
  | false =>
    have es : signed false n (j + q) = (M : Int) * (p : Int) := by
      unfold signed
      simp only [Nat.shiftLeft_eq, hN]
      simp
    rw [es]
    constructor
    · simp [compare, compareOfLessAndEq, a1]
    · simp [compare, compareOfLessAndEq, show ¬ (M : Int) * p < z * p by omega, show ¬ (M : Int) * p = z * p by omega]
  | true =>
    have es : signed true n (j + q) = -(M : Int) * (p : Int) := by
      unfold signed
      simp only [Nat.shiftLeft_eq, hN]
      simp [Int.neg_mul]
    rw [es]
    constructor
    · simp [compare, compareOfLessAndEq, show ¬ z * (p : Int) < -(M : Int) * p by omega, show ¬ z * (p : Int) = -(M : Int) * p by omega]
    · simp [compare, compareOfLessAndEq, a2]

theorem read_max : double.read 9218868437227405311 = .number false 9007199254740991 ((971 : Nat) : Int) := by decide +kernel
theorem read_min : double.read 18442240474082181119 = .number true 9007199254740991 ((971 : Nat) : Int) := by decide +kernel
theorem read_64 : double.read 4895412794951729152 = .number false 4503599627370496 ((12 : Nat) : Int) := by decide +kernel
theorem big_max : 2 ^ 53 ≤ 9007199254740991 * 2 ^ 971 := by decide +kernel
theorem big_64 : 2 ^ 53 ≤ 4503599627370496 * 2 ^ 12 := by decide +kernel

end Go.Proofs.YtgejeocojmpdjacGreatDoor.fl
