/- Package printf: what a conversion tells: %.6g. internal/strconv.ftoa64 at 'g', few digits: the walk. -/
import Derived.Test.YtannbdbhkhmppaaGreatDoorPfTell2
import Derived.Test.YtannbdbhkhmppaaGreatDoorFtoaM

namespace Go.Proofs.YtannbdbhkhmppaaGreatDoor.pf
open Go.RowKit Go.Lib Go.Proofs.YtannbdbhkhmppaaGreatDoor.sum Go.Proofs.YtannbdbhkhmppaaGreatDoor.kept Go.Proofs.YtannbdbhkhmppaaGreatDoor.app Go.Proofs.YtannbdbhkhmppaaGreatDoor.writer Go.Proofs.YtannbdbhkhmppaaGreatDoor.known Go.Proofs.YtannbdbhkhmppaaGreatDoor.str Go.Proofs.YtannbdbhkhmppaaGreatDoor.fmtf
set_option linter.unusedVariables false
attribute [local go_sem] run_store_float'

set_option maxRecDepth 100000 in
set_option maxHeartbeats 2000000 in
theorem float_g (w : World) (cl cp cbk cno : Bool) (cw cpr : Int) (b : Nat) (S : List UInt8) (hp : cpr = 6) (hc : ∀ W, Kp No w W → Calls Tryz.prog 32 #[.float .f64 b, .int .u8 103, .int .i64 cpr, .int .i64 64] W (TxPost W S)) :
    Calls Tryz.prog 30 #[.agg #[.bool cl, .bool cp, .bool cbk, .bool cno, .int .i64 cw, .int .i64 cpr, .int .u8 103], .float .f64 b] w (TxK w S) := by
  have HC := Hid_mk hc
  subst hp
  clear hc
  go_enter Tryz.func30, Tryz.ntmps30
  go_upto_region 1 with fail
  obtain ⟨W1, hW1, hk1, hz1⟩ := named_alloc w (.cells #[.bool cl, .bool cp, .bool cbk, .bool cno, .int .i64 cw, .int .i64 6, .int .u8 103] 36)
  have hcv : CvAt W1 w.heap.size ⟨cl, cp, cbk, cno, cw, 6, 103⟩ := by rw [← hW1]; exact CvAt.new w ⟨cl, cp, cbk, cno, cw, 6, 103⟩ 36
  rw [hW1]
  obtain ⟨Cb, hCb⟩ : ∃ Cb, w.heap.size = Cb := ⟨_, rfl⟩
  rw [hCb] at hcv ⊢
  obtain ⟨d0, d1, d2, d3, d4, d5, d6, d7⟩ := hcv
  have HK := Hid_mk hk1
  have d6 : W1.cell? ⟨Cb, 6, none⟩ = some (.int .u8 103) := d6
  simp only at d5
  clear hW1 hk1 hz1 hCb d0 d1 d2 d3 d4 d7
  go_region
  all_goals go_wp2_with fail
  all_goals rw [show max (6 : Int) 1 = 6 by decide]
  all_goals with_reducible refine (HC.out _ (HK.out.trans' (Kp.refl No W1).drew)).mono ?_
  all_goals rintro e w2 ⟨rfl, hk2⟩
  all_goals have HK2 := Hid_mk ((HK.out.trans' (Kp.refl No W1).drew).trans' hk2)
  all_goals clear hk2
  all_goals go_wp2
  all_goals go_ret
  all_goals exact ⟨rfl, HK2.out⟩

set_option maxRecDepth 100000 in
set_option maxHeartbeats 4000000 in
theorem tell_g (w : World) (cl cp cbk cno : Bool) (cw cpr : Int) (x : Ar) (D : List UInt8) (hD : D.length ≤ 10000) (hdg : ∀ W, Kp No w W → Calls Tryz.prog 13 #[.float .f64 x.n] W (TxPost W D)) (hfin : finB x.n = true) (hp : -1 ≤ cpr) (hp2 : cpr ≤ 1000) (m : Nat) (F : List UInt8) (hp0 : cpr = 6) (habs : ∀ W, Calls Tryz.prog 31 #[.float .f64 x.n] W (RF W m)) (hfl : ∀ W, Kp No w W → Calls Tryz.prog 32 #[.float .f64 m, .int .u8 103, .int .i64 cpr, .int .i64 64] W (TxPost W F)) :
    Calls Tryz.prog 11 #[.agg #[.bool cl, .bool cp, .bool cbk, .bool cno, .int .i64 cw, .int .i64 cpr, .int .u8 103], arV x] w (TdPost w ((⟨signS ⟨cl, cp, cbk, cno, cw, cpr, 103⟩ (FloatKind.f64.format.order x.n 0 == some .lt), F, true⟩ : Td))) := by
  obtain ⟨R, hR⟩ : ∃ R, (⟨signS ⟨cl, cp, cbk, cno, cw, cpr, 103⟩ (FloatKind.f64.format.order x.n 0 == some .lt), F, true⟩ : Td) = R := ⟨_, rfl⟩
  rw [hR]
  have HR := Hid_mk hR
  have HDg : Hid (∀ W, Kp No w W → Calls Tryz.prog 13 #[.float .f64 x.n] W fun e w' => e = .returned (.string (st D)) ∧ Kp No W w') := Hid_mk hdg
  have HCp : Hid (∀ W, Calls Tryz.prog 25 #[.string (st D), .string ⟨#[45]⟩] W fun e w' => e = .returned (.tuple #[.string (st (Lib.trimPrefix D [45])), .bool (Lib.hasPrefix D [45])]) ∧ w' = W) := Hid_mk fun W => by
    have := Tryz.strings_CutPrefix (st D) ⟨#[45]⟩ W
    simp only [st_data] at this
    exact this
  have HFn : Hid (∀ W, Calls Tryz.prog 15 #[.float .f64 x.n] W fun e w' => e = .returned (.bool true) ∧ W = w') := Hid_mk fun W => by
    have := finite_any W x.n
    rw [hfin] at this
    exact this
  have htl : (Lib.trimPrefix D [45]).length ≤ 10000 := by
    unfold Lib.trimPrefix
    split
    · rw [List.length_drop]; omega
    · exact hD
  obtain ⟨d1, hd1⟩ : ∃ d1, Lib.trimPrefix D [45] = d1 := ⟨_, rfl⟩
  obtain ⟨ng, hng⟩ : ∃ ng, Lib.hasPrefix D [45] = ng := ⟨_, rfl⟩
  simp only [hd1, hng] at HCp hR
  rw [hd1] at htl
  obtain ⟨lt, hlt⟩ : ∃ lt, (FloatKind.f64.format.order x.n 0 == some .lt) = lt := ⟨_, rfl⟩
  obtain ⟨sg, hsg⟩ : ∃ sg, signS ⟨cl, cp, cbk, cno, cw, cpr, 103⟩ lt = sg := ⟨_, rfl⟩
  rw [hlt, hsg] at hR
  clear HR
  have HR := Hid_mk hR
  have HSg : Hid (∀ W, Calls Tryz.prog 26 #[.agg #[.bool cl, .bool cp, .bool cbk, .bool cno, .int .i64 cw, .int .i64 cpr, .int .u8 103], .bool lt] W fun e w' => e = .returned (.string (st sg)) ∧ Kp No W w') := Hid_mk fun W => by
    have h := sign_any W ⟨cl, cp, cbk, cno, cw, cpr, 103⟩ lt (by show 103 < 256; omega)
    unfold TxK at h
    rw [hsg] at h
    exact h
  have HAb : Hid (∀ W, Calls Tryz.prog 31 #[.float .f64 x.n] W fun e w' => e = .returned (.float .f64 m) ∧ W = w') := Hid_mk habs
  have HFl : Hid (∀ W, Kp No w W → Calls Tryz.prog 30 #[.agg #[.bool cl, .bool cp, .bool cbk, .bool cno, .int .i64 cw, .int .i64 cpr, .int .u8 103], .float .f64 m] W fun e w' => e = .returned (.string (st F)) ∧ Kp No W w') := Hid_mk fun W hkw => float_g W cl cp cbk cno cw cpr m F hp0 fun W' hk' => hfl W' (hkw.trans' hk')
  clear hdg hfin htl hd1 hng hp hp2 hD habs hfl hsg hp0

  obtain ⟨W1, hW1, hk1, hz1⟩ := named_alloc w (.cells #[.bool cl, .bool cp, .bool cbk, .bool cno, .int .i64 cw, .int .i64 cpr, .int .u8 103] 36)
  obtain ⟨Cb, hCb⟩ : ∃ Cb, w.heap.size = Cb := ⟨_, rfl⟩
  have hcv : CvAt W1 Cb ⟨cl, cp, cbk, cno, cw, cpr, 103⟩ := by rw [← hW1, ← hCb]; exact CvAt.new w ⟨cl, cp, cbk, cno, cw, cpr, 103⟩ 36
  obtain ⟨n, s, k⟩ := x
  obtain ⟨W2, hW2, hk2, hz2⟩ := named_alloc W1 (.cells #[.float .f64 n, .string (st s), .bool k] 27)
  have har := B3.new W1 (.float .f64 n) (.string (st s)) (.bool k) 27
  rw [hCb] at hz1
  rw [hz1] at hz2
  obtain ⟨Ab, hAb⟩ : ∃ Ab, Cb + 1 = Ab := ⟨_, rfl⟩
  rw [hW2, hz1, hAb] at har
  obtain ⟨W3, hW3, hk3, hz3⟩ := named_alloc W2 (.cells #[.string ⟨#[]⟩, .string ⟨#[]⟩, .bool false] 41)
  have htd := B3.new W2 (.string ⟨#[]⟩) (.string ⟨#[]⟩) (.bool false) 41
  obtain ⟨Tb, hTb⟩ : ∃ Tb, Cb + 1 + 1 = Tb := ⟨_, rfl⟩
  rw [hW3, hz2, hTb] at htd
  have HM : Hid (TlM W3 Cb Ab Tb ⟨cl, cp, cbk, cno, cw, cpr, 103⟩ ⟨n, s, k⟩) := Hid_mk ⟨(hcv.no2 hk2).no2 hk3, har.no hk3, htd⟩
  have HK := Hid_mk ((hk1.trans' hk2).trans' hk3)
  have HT := Hid_mk (show ¬ Tb < w.heap.size by omega)
  have hca : Cb ≠ Ab := by omega
  have hct : Cb ≠ Tb := by omega
  have hat : Ab ≠ Tb := by omega
  have HZ1 := Hid_mk (show W1.heap.size = Ab by omega)
  have HZ2 := Hid_mk (show W2.heap.size = Tb by omega)
  simp only [arV]
  clear hR hk1 hk2 hk3 hz1 hz2 hz3 hcv har htd
  go_enter Tryz.func11, Tryz.ntmps11
  go_upto_region 1 with fail
  rw [HZ1.out, HZ2.out]
  clear hW1 hW2 hW3 hCb hAb hTb
  obtain ⟨⟨d0, d1, d2, d3, d4, d5, d6, d7⟩, ⟨a0, a1, a2, a3⟩, ⟨r0, r1, r2, r3⟩⟩ := HM.out
  simp only at d0 d1 d2 d3 d4 d5 d6 a0 a1 a2
  have d6 : _ = some (Value.int .u8 103) := d6
  go_wp2_with fail
  with_reducible refine (HDg.out _ HK.out).mono ?_
  rintro e w4 ⟨rfl, hkk⟩
  have HM := Hid_mk (HM.out.no hkk)
  have HK := Hid_mk (HK.out.trans' hkk)
  clear hkk
  clear d0 d1 d2 d3 d4 d5 d6 d7 a0 a1 a2 a3 r0 r1 r2 r3
  obtain ⟨⟨d0, d1, d2, d3, d4, d5, d6, d7⟩, ⟨a0, a1, a2, a3⟩, ⟨r0, r1, r2, r3⟩⟩ := HM.out
  simp only at d0 d1 d2 d3 d4 d5 d6 a0 a1 a2
  have d6 : _ = some (Value.int .u8 103) := d6
  go_wp2_with fail
  with_reducible refine (HCp.out _).mono ?_
  rintro e w9 ⟨rfl, rfl⟩
  go_wp2_with fail
  with_reducible refine (HFn.out _).mono ?_
  rintro e w9 ⟨rfl, rfl⟩
  go_upto_region 20 with fail
  clear d0 d1 d2 d3 d4 d5 d6 d7 a0 a1 a2 a3 r0 r1 r2 r3
  have HM := Hid_mk (HM.out.no (Kp.refl No _).drew)
  have HK := Hid_mk (HK.out.trans' (Kp.refl No _).drew)
  refine wp_region_held_drew (S := fun W => CvAt W Cb ⟨cl, cp, cbk, cno, cw, cpr, 103⟩ ∧ B3 W Ab (.float .f64 n) (.string (st s)) (.bool k)) (by kernel_rfl) (⟨HM.out.cv, HM.out.ar⟩) (fun hHeld => ?_)
  try dsimp only at hHeld
  refine wpAnyH_take (i := 0) (oi := { dst := some 75, op := Op.load 36 (Operand.tmp 2), type := 36, pos := "tell.go:39", after := #[], guard := none }) (v := ?_) rfl (by kernel_rfl) (by kernel_rfl) (by kernel_rfl) (fun _ _ _ h => h) (Or.inl ⟨by rfl, ?_⟩) (by assumption) ?_
  rotate_left 1
  · intro W hSw; (try dsimp only at hSw); (obtain ⟨⟨d0, d1, d2, d3, d4, d5, d6, d7⟩, ⟨a0, a1, a2, a3⟩⟩ := hSw; simp only at d0 d1 d2 d3 d4 d5 d6; have d6 : _ = some (Value.int .u8 103) := d6); go_simp; all_goals (with_reducible rfl)
  try simp only [Act.put, List.setIfInBounds_toArray, List.set_cons_zero, List.set_cons_succ]
  refine wpAnyH_take (i := 1) (oi := { dst := some 76, op := Op.fieldAddr 27 (Operand.tmp 3) 0, type := 0, pos := "tell.go:39", after := #[], guard := none }) (v := ?_) rfl (by kernel_rfl) (by kernel_rfl) (by kernel_rfl) (fun _ _ _ h => h) (Or.inl ⟨by rfl, ?_⟩) (by assumption) ?_
  rotate_left 1
  · intro W hSw; (try dsimp only at hSw); (obtain ⟨⟨d0, d1, d2, d3, d4, d5, d6, d7⟩, ⟨a0, a1, a2, a3⟩⟩ := hSw; simp only at d0 d1 d2 d3 d4 d5 d6; have d6 : _ = some (Value.int .u8 103) := d6); go_simp; all_goals (with_reducible rfl)
  try simp only [Act.put, List.setIfInBounds_toArray, List.set_cons_zero, List.set_cons_succ]
  refine wpAnyH_take (i := 2) (oi := { dst := some 77, op := Op.load 25 (Operand.tmp 76), type := 25, pos := "tell.go:39", after := #[{ on := 1, ground := Ground.data }], guard := none }) (v := ?_) rfl (by kernel_rfl) (by kernel_rfl) (by kernel_rfl) (fun _ _ _ h => h) (Or.inl ⟨by rfl, ?_⟩) (by assumption) ?_
  rotate_left 1
  · intro W hSw; (try dsimp only at hSw); (obtain ⟨⟨d0, d1, d2, d3, d4, d5, d6, d7⟩, ⟨a0, a1, a2, a3⟩⟩ := hSw; simp only at d0 d1 d2 d3 d4 d5 d6; have d6 : _ = some (Value.int .u8 103) := d6); go_simp; all_goals (with_reducible rfl)
  try simp only [Act.put, List.setIfInBounds_toArray, List.set_cons_zero, List.set_cons_succ]
  refine wpAnyH_take (i := 3) (oi := { dst := some 78, op := Op.binOp BinOp.lss 25 (Operand.tmp 77) (Operand.const (Value.float FloatKind.f64 0)) 25, type := 4, pos := "tell.go:39", after := #[{ on := 2, ground := Ground.data }], guard := none }) (v := ?_) rfl (by kernel_rfl) (by kernel_rfl) (by kernel_rfl) (fun _ _ _ h => h) (Or.inl ⟨by rfl, ?_⟩) (by assumption) ?_
  rotate_left 1
  · intro W hSw; (try dsimp only at hSw); (obtain ⟨⟨d0, d1, d2, d3, d4, d5, d6, d7⟩, ⟨a0, a1, a2, a3⟩⟩ := hSw; simp only at d0 d1 d2 d3 d4 d5 d6; have d6 : _ = some (Value.int .u8 103) := d6); go_simp; all_goals (with_reducible rfl)
  try simp only [Act.put, List.setIfInBounds_toArray, List.set_cons_zero, List.set_cons_succ]
  refine wpAnyH_take (i := 5) (oi := { dst := some 80, op := Op.load 36 (Operand.tmp 2), type := 36, pos := "tell.go:39", after := #[], guard := none }) (v := ?_) rfl (by kernel_rfl) (by kernel_rfl) (by kernel_rfl) (fun _ _ _ h => h) (Or.inl ⟨by rfl, ?_⟩) (by assumption) ?_
  rotate_left 1
  · intro W hSw; (try dsimp only at hSw); (obtain ⟨⟨d0, d1, d2, d3, d4, d5, d6, d7⟩, ⟨a0, a1, a2, a3⟩⟩ := hSw; simp only at d0 d1 d2 d3 d4 d5 d6; have d6 : _ = some (Value.int .u8 103) := d6); go_simp; all_goals (with_reducible rfl)
  try simp only [Act.put, List.setIfInBounds_toArray, List.set_cons_zero, List.set_cons_succ]
  refine wpAnyH_take (i := 6) (oi := { dst := some 81, op := Op.fieldAddr 27 (Operand.tmp 3) 0, type := 0, pos := "tell.go:39", after := #[], guard := none }) (v := ?_) rfl (by kernel_rfl) (by kernel_rfl) (by kernel_rfl) (fun _ _ _ h => h) (Or.inl ⟨by rfl, ?_⟩) (by assumption) ?_
  rotate_left 1
  · intro W hSw; (try dsimp only at hSw); (obtain ⟨⟨d0, d1, d2, d3, d4, d5, d6, d7⟩, ⟨a0, a1, a2, a3⟩⟩ := hSw; simp only at d0 d1 d2 d3 d4 d5 d6; have d6 : _ = some (Value.int .u8 103) := d6); go_simp; all_goals (with_reducible rfl)
  try simp only [Act.put, List.setIfInBounds_toArray, List.set_cons_zero, List.set_cons_succ]
  refine wpAnyH_take (i := 7) (oi := { dst := some 82, op := Op.load 25 (Operand.tmp 81), type := 25, pos := "tell.go:39", after := #[{ on := 6, ground := Ground.data }], guard := none }) (v := ?_) rfl (by kernel_rfl) (by kernel_rfl) (by kernel_rfl) (fun _ _ _ h => h) (Or.inl ⟨by rfl, ?_⟩) (by assumption) ?_
  rotate_left 1
  · intro W hSw; (try dsimp only at hSw); (obtain ⟨⟨d0, d1, d2, d3, d4, d5, d6, d7⟩, ⟨a0, a1, a2, a3⟩⟩ := hSw; simp only at d0 d1 d2 d3 d4 d5 d6; have d6 : _ = some (Value.int .u8 103) := d6); go_simp; all_goals (with_reducible rfl)
  try simp only [Act.put, List.setIfInBounds_toArray, List.set_cons_zero, List.set_cons_succ]
  refine wpAnyH_ready (rs := [4]) (by kernel_rfl) (by simp) ?_
  refine AllReadyH.cons (o := { dst := some 79, op := Op.call { callee := Callee.value (Operand.func 26), args := #[Operand.tmp 75, Operand.tmp 78], argTypes := #[36, 4] }, type := 9, pos := "tell.go:39", after := #[{ on := 0, ground := Ground.data }, { on := 3, ground := Ground.data }], guard := none }) rfl (fun K hK => ?_) AllReadyH.nil
  go_simp
  with_reducible refine (HSg.out _).mono ?_
  rintro e w5 ⟨rfl, hkk⟩
  have HM := Hid_mk (HM.out.no hkk)
  have HK := Hid_mk (HK.out.trans' hkk)
  clear hkk
  refine hK _ _ (⟨HM.out.cv, HM.out.ar⟩) (fun hHeld => ?_)
  clear hK K
  try dsimp only at hHeld
  try simp only [Act.put, List.setIfInBounds_toArray, List.set_cons_zero, List.set_cons_succ]
  refine wpAnyH_ready (rs := [8]) (by kernel_rfl) (by simp) ?_
  refine AllReadyH.cons (o := { dst := some 83, op := Op.call { callee := Callee.value (Operand.func 31), args := #[Operand.tmp 82], argTypes := #[25] }, type := 25, pos := "tell.go:39", after := #[{ on := 7, ground := Ground.data }, { on := 4, ground := Ground.chain }], guard := none }) rfl (fun K hK => ?_) AllReadyH.nil
  go_simp
  with_reducible refine (HAb.out _).mono ?_
  rintro e w6 ⟨rfl, rfl⟩
  refine hK _ _ (⟨HM.out.cv, HM.out.ar⟩) (fun hHeld => ?_)
  clear hK K
  try dsimp only at hHeld
  try simp only [Act.put, List.setIfInBounds_toArray, List.set_cons_zero, List.set_cons_succ]
  refine wpAnyH_ready (rs := [9]) (by kernel_rfl) (by simp) ?_
  refine AllReadyH.cons (o := { dst := some 84, op := Op.call { callee := Callee.value (Operand.func 30), args := #[Operand.tmp 80, Operand.tmp 83], argTypes := #[36, 25] }, type := 9, pos := "tell.go:39", after := #[{ on := 5, ground := Ground.data }, { on := 8, ground := Ground.data }, { on := 8, ground := Ground.chain }], guard := none }) rfl (fun K hK => ?_) AllReadyH.nil
  go_simp
  with_reducible refine (HFl.out _ HK.out).mono ?_
  rintro e w7 ⟨rfl, hkk⟩
  have HM := Hid_mk (HM.out.no hkk)
  have HK := Hid_mk (HK.out.trans' hkk)
  clear hkk
  obtain ⟨r0, r1, r2, r3⟩ := HM.out.td
  refine hK _ _ (⟨HM.out.cv, HM.out.ar⟩) (fun hHeld => ?_)
  clear hK K
  try dsimp only at hHeld
  try simp only [Act.put, List.setIfInBounds_toArray, List.set_cons_zero, List.set_cons_succ]
  refine wpAnyH_take (i := 10) (oi := { dst := some 85, op := Op.build 41 #[(0, Operand.tmp 79), (1, Operand.tmp 84), (2, Operand.const (Value.bool true))], type := 41, pos := "tell.go:39", after := #[{ on := 4, ground := Ground.data }, { on := 9, ground := Ground.data }], guard := none }) (v := ?_) rfl (by kernel_rfl) (by kernel_rfl) (by kernel_rfl) (fun _ _ _ h => h) (Or.inl ⟨by rfl, ?_⟩) (by assumption) ?_
  rotate_left 1
  · intro W hSw; (try dsimp only at hSw); (obtain ⟨⟨d0, d1, d2, d3, d4, d5, d6, d7⟩, ⟨a0, a1, a2, a3⟩⟩ := hSw; simp only at d0 d1 d2 d3 d4 d5 d6; have d6 : _ = some (Value.int .u8 103) := d6); go_simp; all_goals (with_reducible rfl)
  try simp only [Act.put, List.setIfInBounds_toArray, List.set_cons_zero, List.set_cons_succ]
  refine wpAnyH_ready (rs := [11]) (by kernel_rfl) (by simp) ?_
  refine AllReadyH.cons (o := { dst := none, op := Op.store 41 (Operand.tmp 4) (Operand.tmp 85), type := 0, pos := "tell.go:39", after := #[{ on := 10, ground := Ground.data }, { on := 9, ground := Ground.chain }, { on := 0, ground := Ground.phase }, { on := 1, ground := Ground.phase }, { on := 2, ground := Ground.phase }, { on := 3, ground := Ground.phase }, { on := 4, ground := Ground.phase }, { on := 5, ground := Ground.phase }, { on := 6, ground := Ground.phase }, { on := 7, ground := Ground.phase }, { on := 8, ground := Ground.phase }, { on := 9, ground := Ground.phase }, { on := 10, ground := Ground.phase }], guard := none }) rfl (fun K hK => ?_) AllReadyH.nil
  go_simp
  refine hK _ _ (⟨HM.out.cv.kept ((((Kp.refl (fun k => k = Tb) w7).setCell (p := ⟨Tb, 0, none⟩) (fun _ => rfl) _).setCell (p := ⟨Tb, 1, none⟩) (fun _ => rfl) _).setCell (p := ⟨Tb, 2, none⟩) (fun _ => rfl) _) (fun e => hct e), B3.kept HM.out.ar ((((Kp.refl (fun k => k = Tb) w7).setCell (p := ⟨Tb, 0, none⟩) (fun _ => rfl) _).setCell (p := ⟨Tb, 1, none⟩) (fun _ => rfl) _).setCell (p := ⟨Tb, 2, none⟩) (fun _ => rfl) _) (fun e => hat e)⟩) (fun hHeld => ?_)
  clear hK K
  try dsimp only at hHeld
  try simp only [Act.put, List.setIfInBounds_toArray, List.set_cons_zero, List.set_cons_succ]
  refine wpAnyH_done (by kernel_rfl) ?_ _
  go_wp2
  refine bodyPost_ret (v := .agg #[.string (st sg), .string (st F), .bool (true)]) ?_ rfl ?_
  · simp [results, Tryz.results11, go_sem, r0, r1, r2]
  · rw [← HR.out]
    exact ⟨rfl, ((HK.out.setCell (p := ⟨Tb, 0, none⟩) (fun e => absurd e HT.out) _).setCell (p := ⟨Tb, 1, none⟩) (fun e => absurd e HT.out) _).setCell (p := ⟨Tb, 2, none⟩) (fun e => absurd e HT.out) _⟩

end Go.Proofs.YtannbdbhkhmppaaGreatDoor.pf

namespace Go.Proofs.YtannbdbhkhmppaaGreatDoor.fmtf
open Go.RowKit Go.Proofs.YtannbdbhkhmppaaGreatDoor.sum Go.Proofs.YtannbdbhkhmppaaGreatDoor.kept Go.Proofs.YtannbdbhkhmppaaGreatDoor.app Go.Proofs.YtannbdbhkhmppaaGreatDoor.writer
set_option linter.unusedVariables false
attribute [local go_sem] run_fbits

def fxG (T : Int → Nat × Nat) (b : Nat) (q : Nat) : Int × Int :=
  fwI (mtN b * 2 ^ shN b) (fxE b) q (q : Int) 103 (T (fwP (fxE b) (q : Int))).1 (T (fwP (fxE b) (q : Int))).2

set_option maxRecDepth 100000 in
set_option maxHeartbeats 16000000 in
theorem ftoa_g (T : Int → Nat × Nat) (base : Nat) (w : World) (v0 : Value) (bs : List UInt8) (b : Nat) (q : Nat) (hd : Dst base w v0 w v0 bs) (hv0 : ∀ k, v0.ownBlock = some k → k < w.heap.size) (hbs : bs.length ≤ 100000) (ho : w.cell? ⟨3, 0, none⟩ = some (.bool true)) (ht : ∀ n, n ≤ 18 → Tn w n) (hT : ∀ p, -348 ≤ p → p ≤ 347 → Pw w p (T p).1 (T p).2 ∧ (T p).1 < 18446744073709551616 ∧ (T p).2 < 18446744073709551616) (hb : b < 18446744073709551616) (hE : b / 4503599627370496 % 2048 ≠ 2047) (hM : mtN b ≠ 0) (hp1 : 1 ≤ q) (hp2 : q ≤ 18) (d : Nat) (p : Int) (hx : fxG T b q = ((d : Int), p)) (hd0 : d ≠ 0) (hd18 : d < 10 ^ 18) (hq1 : -900 ≤ p) (hq2 : p ≤ 900) (OUT : List UInt8)
    (he : ∀ (W : World) (gs : Nat), Dst base W v0 W v0 bs → BufAt W gs 0 (trimN (dgt d (ndS d)) (ndS d)) (dgt d (ndS d)) → some gs ≠ v0.ownBlock → Calls Tryz.prog 86 #[v0, .bool (decide (9223372036854775808 ≤ b)), .slice (some ⟨gs, 0, none⟩) 24 24, .int .i64 ((ndS d : Int) + p), .int .i64 (trimN (dgt d (ndS d)) (ndS d) : Int), .int .i64 (q : Int), .int .u8 103, .bool false] W (EfPost base W v0 (bs ++ OUT))) :
    Calls Tryz.prog 68 #[v0, .float .f64 b, .int .u8 103, .int .i64 (q : Int)] w (EfPost base w v0 (bs ++ OUT)) := by
  have HD := Hid_mk hd
  have HBs := Hid_mk hbs
  have HV0 := Hid_mk hv0
  have HT18 := Hid_mk ht
  have HTp := Hid_mk hT
  have HX := Hid_mk hx
  have Hd18 := Hid_mk hd18
  have HQp := Hid_mk (And.intro hq1 hq2)
  have HEf := Hid_mk he
  have HDz := Hid_mk hd0
  have HQ1 := Hid_mk hp1
  have HQ2 := Hid_mk hp2
  obtain ⟨prec, hpq⟩ : ∃ prec : Int, (q : Int) = prec := ⟨_, rfl⟩
  rw [hpq]
  have hqi8 : (prec < 0) = False := by simp; omega
  have hqi2 : prec ≤ 18 := by omega
  have hqi4 : (prec == 0) = false := by simp; omega
  have hqi5 : (0 : Int) < prec := by omega
  have HPq := Hid_mk hpq
  clear hpq hp1 hp2
  obtain ⟨R, hR⟩ : ∃ R, EfPost base w v0 (bs ++ OUT) = R := ⟨_, rfl⟩
  rw [hR]
  have HR := Hid_mk hR
  have hb1 : (b : Int) < 18446744073709551616 := by omega
  have hb0 : (0 : Int) ≤ (b : Int) := Int.natCast_nonneg _
  have hsg : ((b : Int) / 9223372036854775808 != 0) = decide (9223372036854775808 ≤ b) := by
    by_cases h : 9223372036854775808 ≤ b
    · rw [decide_eq_true h]; simp; omega
    · rw [decide_eq_false h]; simp; omega
  obtain ⟨neg, hneg⟩ : ∃ neg, decide (9223372036854775808 ≤ b) = neg := ⟨_, rfl⟩
  rw [hneg] at hsg HEf
  have HNeg := Hid_mk hneg
  have HSg := Hid_mk hsg
  clear hd hv0 hbs ht hT hx hd18 hR hq1 hq2 hneg hsg he hd0
  go_enter Tryz.func68, Tryz.ntmps68
  obtain ⟨K, hK⟩ : ∃ K, b / 4503599627370496 = K := ⟨_, rfl⟩
  have hKi : (b : Int) / 4503599627370496 = (K : Int) := by omega
  have hK4 : K < 4096 := by omega
  have HA := Hid_mk (and2047 K hK4)
  obtain ⟨E, hE2⟩ : ∃ E, K % 2048 = E := ⟨_, rfl⟩
  obtain ⟨Q, hQ⟩ : ∃ Q, b % 4503599627370496 = Q := ⟨_, rfl⟩
  have HQ := Hid_mk (and52 b hb)
  rw [hE2] at HA
  rw [hQ] at HQ
  have HMt := Hid_mk (show mtN b = if E = 0 then Q else Q + 4503599627370496 by unfold mtN; rw [hK, hE2, hQ])
  have HEx := Hid_mk (show exI b = (if E = 0 then 1 else (E : Int)) - 1023 by unfold exI; rw [hK, hE2])
  rw [hK, hE2] at hE
  have hQb : Q < 4503599627370496 := by omega
  have HO := Hid_mk (or52 Q hQb)
  have hE48 : (E : Int) ≤ 2046 := by omega
  have hE0 : (0 : Int) ≤ (E : Int) := Int.natCast_nonneg _
  have hQ0 : (0 : Int) ≤ (Q : Int) := Int.natCast_nonneg _
  have hQi : (Q : Int) < 4503599627370496 := by omega
  have hm1 : mtN b < 9007199254740992 := by rw [HMt.out]; split <;> omega
  have hm2 : 1 ≤ mtN b := by omega
  have hx1 : -1022 ≤ exI b := by rw [HEx.out]; split <;> omega
  have hx2 : exI b ≤ 1023 := by rw [HEx.out]; split <;> omega
  obtain ⟨mt, hmt⟩ : ∃ mt, mtN b = mt := ⟨_, rfl⟩
  obtain ⟨ex, hex⟩ : ∃ ex, exI b = ex := ⟨_, rfl⟩
  rw [hmt] at HMt hm1 hm2
  rw [hex] at HEx hx1 hx2
  have HMd := Hid_mk hmt
  have HEd := Hid_mk hex
  have hmi1 : (1 : Int) ≤ (mt : Int) := by omega
  have hmi2 : (mt : Int) < 9007199254740992 := by omega
  go_wp2_with fail
  go_quiet (fail)
  rw [HA.out, HSg.out]
  clear hKi hK hK4 hE2 hQ hQb hb hM hE hmt hex hm1 hm2
  have hq := HQ.out
  by_cases h0 : E = 0
  · skip
    subst h0
    have hmQ : Q = mt := by have h := HMt.out; rw [if_pos rfl] at h; exact h.symm
    have hxe : (-1022 : Int) = ex := by have h := HEx.out; rw [if_pos rfl] at h; omega
    subst hmQ
    rw [show ((0 : Nat) : Int) = 0 from rfl]
    have hmz : ((Q : Int) == 0) = false := by simp; omega
    clear hE48 hE0
    go_wp2_with fail
    obtain ⟨W1, hW⟩ : ∃ W1, (w.drewN nq).alloc (.cells #[.int .u8 0, .int .u8 0, .int .u8 0, .int .u8 0, .int .u8 0, .int .u8 0, .int .u8 0, .int .u8 0, .int .u8 0, .int .u8 0, .int .u8 0, .int .u8 0, .int .u8 0, .int .u8 0, .int .u8 0, .int .u8 0, .int .u8 0, .int .u8 0, .int .u8 0, .int .u8 0, .int .u8 0, .int .u8 0, .int .u8 0, .int .u8 0] 105) = W1 := ⟨_, rfl⟩
    rw [hW]
    have HK1 : Hid (Kp No w W1) := Hid_mk (by rw [← hW]; exact ((Kp.refl No w).drewN nq).alloc _)
    have HB1 : Hid (BufAt W1 w.heap.size 0 24 (fun _ => 0)) := Hid_mk (by rw [← hW]; exact zeros_buf (w.drewN nq) _)
    clear hW
    have HLn := Hid_mk (Go.Proofs.Tryz.bits_Len64 (Q : Int) W1 (by omega) (by omega))
    rw [Int.toNat_natCast] at HLn
    have hbl : Lib.bitLen Q ≤ 53 := Lib.bitLen_le Q 53 (by decide) (by omega)
    obtain ⟨sh, hsh⟩ : ∃ sh : Nat, 64 - (Lib.bitLen Q : Int) = (sh : Int) := ⟨64 - Lib.bitLen Q, by omega⟩
    with_reducible refine HLn.out.mono ?_
    rintro e1 w1 ⟨rfl, rfl⟩
    have hsh1 : (11 : Int) ≤ (sh : Int) := by omega
    have hsh2 : (sh : Int) ≤ 64 := by omega
    go_wp2_with fail
    have hpq := HPq.out
    subst hpq
    have hn18 := HQ2.out
    have hn1 := HQ1.out
    have hm64 : Q * 2 ^ sh < 18446744073709551616 := by
      have h1 := aux_lt 64 Q (by omega)
      have h2 : Lib.bitLen Q + sh = 64 := by omega
      calc Q * 2 ^ sh < 2 ^ Lib.bitLen Q * 2 ^ sh := Nat.mul_lt_mul_of_pos_right h1 (Nat.pow_pos (by decide))
        _ = 18446744073709551616 := by rw [← Nat.pow_add, h2]
    have hmw : IntKind.u64.wrap ((Q : Int) * 2 ^ sh) = ((Q * 2 ^ sh : Nat) : Int) := by
      have h := wu ((Q * 2 ^ sh : Nat) : Int) (by omega) (by omega)
      rw [← h, Int.natCast_mul, Int.natCast_pow]
      rfl
    have hX := HX.out
    unfold fxG fxE at hX
    rw [show shN b = sh by unfold shN; rw [HMd.out]; omega, HMd.out, HEd.out] at hX
    have hpb := fwP_bd (e := ex - (sh : Int) - 52) (n := (q : Int)) (by omega) (by omega) (by omega) (by omega)
    obtain ⟨t1, t2, t3⟩ := HTp.out (fwP (ex - (sh : Int) - 52) (q : Int)) hpb.1 hpb.2
    have HFx := Hid_mk (fixed_any w1 (Q * 2 ^ sh) (ex - (sh : Int) - 52) q (q : Int) 103 _ _ (t1.no HK1.out) ((HT18.out q hn18).no HK1.out) hm64 t2 t3 (by omega) (by omega) hn1 hn18 (by omega) (by omega) (by decide))
    rw [hX, show ((103 : Nat) : Int) = 103 from rfl] at HFx
    rw [hmw]
    clear hX t1 t2 t3 hpb hmw hm64
    with_reducible refine HFx.out.mono ?_
    rintro e3 w3 ⟨rfl, hk3⟩
    have HK3 := Hid_mk (HK1.out.trans' hk3)
    have HB3 := Hid_mk (HB1.out.no hk3 (World.block_lt_of_cell? w1 _ (HB1.out.cell 0 (by omega))))
    clear hk3
    have hdz := HDz.out
    have hdne : ((d : Int) == 0) = false := by simp; omega
    have hdne2 : ((d : Int) != 0) = true := by simp; omega
    have hnd := nd_bd Hd18.out
    have HN5 : Hid (∀ W, Kp No w3 W → Calls Tryz.prog 76 #[.int .u64 (d : Int)] W (RV W (.int .i64 (ndS d : Int)))) := Hid_mk fun W hk => numDigits_any W d Hd18.out (fun n hn => ((HT18.out n hn).no HK3.out).no hk)
    have HS5 : Hid (∀ W, Kp No w3 W → Calls Tryz.prog 89 #[.slice (some ⟨w.heap.size, 0, none⟩) 24 24, .int .u64 (d : Int), .int .i64 p, .int .i64 (ndS d : Int)] W fun e w' => e = .returned (.tuple #[.int .i64 ((ndS d : Int) + p), .int .i64 (trimN (dgt d (ndS d)) (ndS d) : Int)]) ∧ Kp No w w' ∧ BufAt w' w.heap.size 0 (ndS d) (dgt d (ndS d)) ∧ w.heap.size < w'.heap.size) := Hid_mk fun W hk =>
      (setDigits_any W w.heap.size 24 24 d (ndS d) p (fun _ => 0) (HB3.out.no hk (World.block_lt_of_cell? w3 _ (HB3.out.cell 0 (by omega)))) (by omega) hnd.2.1 (by omega) (by omega) hnd.2.2 (by have := HQp.out; omega) (by have := HQp.out; omega)).mono fun e w' h => ⟨h.1, (HK3.out.trans' hk).trans h.2.1 (fun i hi e => by have e : i = w.heap.size := e; omega), h.2.2, Nat.lt_of_lt_of_le (World.block_lt_of_cell? w3 _ (HB3.out.cell 0 (by omega))) (Nat.le_trans hk.size h.2.1.size)⟩
    obtain ⟨N, hN⟩ : ∃ N, ndS d = N := ⟨_, rfl⟩
    have HEg := Hid_mk HEf.out
    rw [hN] at HN5 HS5 hnd HEg
    obtain ⟨F, hF⟩ : ∃ F, trimN (dgt d N) N = F := ⟨_, rfl⟩
    rw [hF] at HS5 HEg
    have hF9 : F ≤ N := by rw [← hF]; exact trimN_le _ _
    have HF9 := Hid_mk (And.intro hF9 hnd.2.1)
    have HFd := Hid_mk hF
    have HNd := Hid_mk hN
    clear hnd hN hF hF9
    go_wp2_with fail
    go_region_with (first
      | (go_at_call 76; (with_reducible refine (HN5.out _ (by exact ⟨rfl, rfl, rfl, Nat.le_refl _, fun _ _ _ => rfl⟩)).mono ?_); rintro e5 w5 ⟨rfl, rfl⟩)
      | (go_at_call 89; (with_reducible refine (HS5.out _ (by exact ⟨rfl, rfl, rfl, Nat.le_refl _, fun _ _ _ => rfl⟩)).mono ?_); rintro e5 w5 ⟨rfl, hk5, hb5, hz5⟩))
    have HE5 : Hid (∀ W, Kp No w5 W → Calls Tryz.prog 86 #[v0, .bool neg, .slice (some ⟨w.heap.size, 0, none⟩) 24 24, .int .i64 ((N : Int) + p), .int .i64 (F : Int), .int .i64 (q : Int), .int .u8 103, .bool false] W (EfPost base w v0 (bs ++ OUT))) := Hid_mk fun W hk =>
      (HEg.out W w.heap.size (HD.out.at (hk5.trans' hk)) ((hb5.no hk hz5).less HF9.out.1) (fun e => by have := HV0.out _ e.symm; omega)).mono fun e w' h => h.elim fun v h => ⟨v, h.1, h.2.back (hk5.trans' hk) HD.out.room⟩
    clear hk5 hb5 hz5
    go_wp2_with fail
    with_reducible refine (HE5.out _ (by exact ⟨rfl, rfl, rfl, Nat.le_refl _, fun _ _ _ => rfl⟩)).mono ?_
    rintro e2 w2 ⟨v2, rfl, hd2⟩
    have HD2 := Hid_mk hd2
    clear hd2
    go_wp2_with fail
    rw [← HR.out]
    exact ⟨v2, rfl, HD2.out⟩
  · skip
    have hE1 : (1 : Int) ≤ (E : Int) := by omega
    have hE47 : ((E : Int) == 2047) = false := by simp; omega
    have hE40 : ((E : Int) == 0) = false := by simp; omega
    have ho5 := HO.out
    have hmQ : ((Q + 4503599627370496 : Nat) : Int) = (mt : Int) := by have h := HMt.out; rw [if_neg h0] at h; omega
    have hxe : (E : Int) + -1023 = ex := by have h := HEx.out; rw [if_neg h0] at h; omega
    rw [hmQ] at ho5
    have hmz : ((mt : Int) == 0) = false := by simp; omega
    clear h0 hmQ
    go_wp2_with fail
    obtain ⟨W1, hW⟩ : ∃ W1, (w.drewN nq).alloc (.cells #[.int .u8 0, .int .u8 0, .int .u8 0, .int .u8 0, .int .u8 0, .int .u8 0, .int .u8 0, .int .u8 0, .int .u8 0, .int .u8 0, .int .u8 0, .int .u8 0, .int .u8 0, .int .u8 0, .int .u8 0, .int .u8 0, .int .u8 0, .int .u8 0, .int .u8 0, .int .u8 0, .int .u8 0, .int .u8 0, .int .u8 0, .int .u8 0] 105) = W1 := ⟨_, rfl⟩
    rw [hW]
    have HK1 : Hid (Kp No w W1) := Hid_mk (by rw [← hW]; exact ((Kp.refl No w).drewN nq).alloc _)
    have HB1 : Hid (BufAt W1 w.heap.size 0 24 (fun _ => 0)) := Hid_mk (by rw [← hW]; exact zeros_buf (w.drewN nq) _)
    clear hW
    have HLn := Hid_mk (Go.Proofs.Tryz.bits_Len64 (mt : Int) W1 (by omega) (by omega))
    rw [Int.toNat_natCast] at HLn
    have hbl : Lib.bitLen mt ≤ 53 := Lib.bitLen_le mt 53 (by decide) (by omega)
    obtain ⟨sh, hsh⟩ : ∃ sh : Nat, 64 - (Lib.bitLen mt : Int) = (sh : Int) := ⟨64 - Lib.bitLen mt, by omega⟩
    with_reducible refine HLn.out.mono ?_
    rintro e1 w1 ⟨rfl, rfl⟩
    have hsh1 : (11 : Int) ≤ (sh : Int) := by omega
    have hsh2 : (sh : Int) ≤ 64 := by omega
    go_wp2_with fail
    have hpq := HPq.out
    subst hpq
    have hn18 := HQ2.out
    have hn1 := HQ1.out
    have hm64 : mt * 2 ^ sh < 18446744073709551616 := by
      have h1 := aux_lt 64 mt (by omega)
      have h2 : Lib.bitLen mt + sh = 64 := by omega
      calc mt * 2 ^ sh < 2 ^ Lib.bitLen mt * 2 ^ sh := Nat.mul_lt_mul_of_pos_right h1 (Nat.pow_pos (by decide))
        _ = 18446744073709551616 := by rw [← Nat.pow_add, h2]
    have hmw : IntKind.u64.wrap ((mt : Int) * 2 ^ sh) = ((mt * 2 ^ sh : Nat) : Int) := by
      have h := wu ((mt * 2 ^ sh : Nat) : Int) (by omega) (by omega)
      rw [← h, Int.natCast_mul, Int.natCast_pow]
      rfl
    have hX := HX.out
    unfold fxG fxE at hX
    rw [show shN b = sh by unfold shN; rw [HMd.out]; omega, HMd.out, HEd.out] at hX
    have hpb := fwP_bd (e := ex - (sh : Int) - 52) (n := (q : Int)) (by omega) (by omega) (by omega) (by omega)
    obtain ⟨t1, t2, t3⟩ := HTp.out (fwP (ex - (sh : Int) - 52) (q : Int)) hpb.1 hpb.2
    have HFx := Hid_mk (fixed_any w1 (mt * 2 ^ sh) (ex - (sh : Int) - 52) q (q : Int) 103 _ _ (t1.no HK1.out) ((HT18.out q hn18).no HK1.out) hm64 t2 t3 (by omega) (by omega) hn1 hn18 (by omega) (by omega) (by decide))
    rw [hX, show ((103 : Nat) : Int) = 103 from rfl] at HFx
    rw [hmw]
    clear hX t1 t2 t3 hpb hmw hm64
    with_reducible refine HFx.out.mono ?_
    rintro e3 w3 ⟨rfl, hk3⟩
    have HK3 := Hid_mk (HK1.out.trans' hk3)
    have HB3 := Hid_mk (HB1.out.no hk3 (World.block_lt_of_cell? w1 _ (HB1.out.cell 0 (by omega))))
    clear hk3
    have hdz := HDz.out
    have hdne : ((d : Int) == 0) = false := by simp; omega
    have hdne2 : ((d : Int) != 0) = true := by simp; omega
    have hnd := nd_bd Hd18.out
    have HN5 : Hid (∀ W, Kp No w3 W → Calls Tryz.prog 76 #[.int .u64 (d : Int)] W (RV W (.int .i64 (ndS d : Int)))) := Hid_mk fun W hk => numDigits_any W d Hd18.out (fun n hn => ((HT18.out n hn).no HK3.out).no hk)
    have HS5 : Hid (∀ W, Kp No w3 W → Calls Tryz.prog 89 #[.slice (some ⟨w.heap.size, 0, none⟩) 24 24, .int .u64 (d : Int), .int .i64 p, .int .i64 (ndS d : Int)] W fun e w' => e = .returned (.tuple #[.int .i64 ((ndS d : Int) + p), .int .i64 (trimN (dgt d (ndS d)) (ndS d) : Int)]) ∧ Kp No w w' ∧ BufAt w' w.heap.size 0 (ndS d) (dgt d (ndS d)) ∧ w.heap.size < w'.heap.size) := Hid_mk fun W hk =>
      (setDigits_any W w.heap.size 24 24 d (ndS d) p (fun _ => 0) (HB3.out.no hk (World.block_lt_of_cell? w3 _ (HB3.out.cell 0 (by omega)))) (by omega) hnd.2.1 (by omega) (by omega) hnd.2.2 (by have := HQp.out; omega) (by have := HQp.out; omega)).mono fun e w' h => ⟨h.1, (HK3.out.trans' hk).trans h.2.1 (fun i hi e => by have e : i = w.heap.size := e; omega), h.2.2, Nat.lt_of_lt_of_le (World.block_lt_of_cell? w3 _ (HB3.out.cell 0 (by omega))) (Nat.le_trans hk.size h.2.1.size)⟩
    obtain ⟨N, hN⟩ : ∃ N, ndS d = N := ⟨_, rfl⟩
    have HEg := Hid_mk HEf.out
    rw [hN] at HN5 HS5 hnd HEg
    obtain ⟨F, hF⟩ : ∃ F, trimN (dgt d N) N = F := ⟨_, rfl⟩
    rw [hF] at HS5 HEg
    have hF9 : F ≤ N := by rw [← hF]; exact trimN_le _ _
    have HF9 := Hid_mk (And.intro hF9 hnd.2.1)
    have HFd := Hid_mk hF
    have HNd := Hid_mk hN
    clear hnd hN hF hF9
    go_wp2_with fail
    go_region_with (first
      | (go_at_call 76; (with_reducible refine (HN5.out _ (by exact ⟨rfl, rfl, rfl, Nat.le_refl _, fun _ _ _ => rfl⟩)).mono ?_); rintro e5 w5 ⟨rfl, rfl⟩)
      | (go_at_call 89; (with_reducible refine (HS5.out _ (by exact ⟨rfl, rfl, rfl, Nat.le_refl _, fun _ _ _ => rfl⟩)).mono ?_); rintro e5 w5 ⟨rfl, hk5, hb5, hz5⟩))
    have HE5 : Hid (∀ W, Kp No w5 W → Calls Tryz.prog 86 #[v0, .bool neg, .slice (some ⟨w.heap.size, 0, none⟩) 24 24, .int .i64 ((N : Int) + p), .int .i64 (F : Int), .int .i64 (q : Int), .int .u8 103, .bool false] W (EfPost base w v0 (bs ++ OUT))) := Hid_mk fun W hk =>
      (HEg.out W w.heap.size (HD.out.at (hk5.trans' hk)) ((hb5.no hk hz5).less HF9.out.1) (fun e => by have := HV0.out _ e.symm; omega)).mono fun e w' h => h.elim fun v h => ⟨v, h.1, h.2.back (hk5.trans' hk) HD.out.room⟩
    clear hk5 hb5 hz5
    go_wp2_with fail
    with_reducible refine (HE5.out _ (by exact ⟨rfl, rfl, rfl, Nat.le_refl _, fun _ _ _ => rfl⟩)).mono ?_
    rintro e2 w2 ⟨v2, rfl, hd2⟩
    have HD2 := Hid_mk hd2
    clear hd2
    go_wp2_with fail
    rw [← HR.out]
    exact ⟨v2, rfl, HD2.out⟩

end Go.Proofs.YtannbdbhkhmppaaGreatDoor.fmtf
