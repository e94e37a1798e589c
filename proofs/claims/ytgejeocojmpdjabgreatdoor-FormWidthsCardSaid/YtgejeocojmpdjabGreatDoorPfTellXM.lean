/- Package printf: what %X tells. Package printf: "%x %o %X" of a number below 2^32. Package printf: one conversion with a width below 60. Package printf: what one conversion with a width below 60 puts. Package printf: whole numbers and texts in a width below 60. Two texts, one behind the other. -/
import Derived.Test.YtgejeocojmpdjabGreatDoorPfTell2
import Derived.Test.YtgejeocojmpdjabGreatDoorFloatM
import Derived.Test.YtgejeocojmpdjabGreatDoorPfFormatM
import Derived.Test.YtgejeocojmpdjabGreatDoorBaseM

namespace Go.Proofs.YtgejeocojmpdjabGreatDoor.pf
open Go.RowKit Go.Lib Go.Proofs.YtgejeocojmpdjabGreatDoor.sum Go.Proofs.YtgejeocojmpdjabGreatDoor.kept Go.Proofs.YtgejeocojmpdjabGreatDoor.app Go.Proofs.YtgejeocojmpdjabGreatDoor.writer Go.Proofs.YtgejeocojmpdjabGreatDoor.known Go.Proofs.YtgejeocojmpdjabGreatDoor.str Go.Proofs.YtgejeocojmpdjabGreatDoor.fmtf
set_option linter.unusedVariables false
attribute [local go_sem] run_store_float'

set_option maxRecDepth 100000 in
set_option maxHeartbeats 4000000 in
theorem tell_X (w : World) (cl cp cbk cno : Bool) (cw cpr : Int) (x : Ar) (D : List UInt8) (hD : D.length ≤ 10000) (hdg : ∀ W, Kp No w W → Calls Tryz.prog 17 #[.float .f64 x.n] W (TxPost W D)) (hfin : finB x.n = true) (hp : -1 ≤ cpr) (hp2 : cpr ≤ 1000) (B E : List UInt8) (hE : E.length ≤ 10000) (hbs : ∀ W, Kp No w W → Calls Tryz.prog 49 #[.float .f64 x.n, .int .i64 16, .string (st (Lib.trimPrefix D [45]))] W (TxK W B)) (hup : ∀ W, Calls Tryz.prog 50 #[.string (st B)] W (TxK W E)) :
    Calls Tryz.prog 24 #[.agg #[.bool cl, .bool cp, .bool cbk, .bool cno, .int .i64 cw, .int .i64 cpr, .int .u8 88], arV x] w (TdPost w (wholeS ⟨cl, cp, cbk, cno, cw, cpr, 88⟩ E (Lib.hasPrefix D [45]))) := by
  obtain ⟨R, hR⟩ : ∃ R, wholeS ⟨cl, cp, cbk, cno, cw, cpr, 88⟩ E (Lib.hasPrefix D [45]) = R := ⟨_, rfl⟩
  rw [hR]
  have HR := Hid_mk hR
  have HDg : Hid (∀ W, Kp No w W → Calls Tryz.prog 17 #[.float .f64 x.n] W fun e w' => e = .returned (.string (st D)) ∧ Kp No W w') := Hid_mk hdg
  have HCp : Hid (∀ W, Calls Tryz.prog 46 #[.string (st D), .string ⟨#[45]⟩] W fun e w' => e = .returned (.tuple #[.string (st (Lib.trimPrefix D [45])), .bool (Lib.hasPrefix D [45])]) ∧ w' = W) := Hid_mk fun W => by
    have := Tryz.strings_CutPrefix (st D) ⟨#[45]⟩ W
    simp only [st_data] at this
    exact this
  have HFn : Hid (∀ W, Calls Tryz.prog 27 #[.float .f64 x.n] W fun e w' => e = .returned (.bool true) ∧ W = w') := Hid_mk fun W => by
    have := finite_any W x.n
    rw [hfin] at this
    exact this
  have htl : (Lib.trimPrefix D [45]).length ≤ 10000 := by
    unfold Lib.trimPrefix
    split
    · rw [List.length_drop]; omega
    · exact hD
  obtain ⟨d1, hd1⟩ : ∃ d1, Lib.trimPrefix D [45] = d1 := ⟨_, rfl⟩
  obtain ⟨ng, hng⟩ : ∃ ng, Lib.hasPrefix D [45] = ng := ⟨_, rfl⟩
  simp only [hd1, hng] at HCp hR
  rw [hd1] at htl hbs
  obtain ⟨⟨sg, bd, fl⟩, hwh⟩ : ∃ t, wholeS ⟨cl, cp, cbk, cno, cw, cpr, 88⟩ E ng = t := ⟨_, rfl⟩
  rw [hwh] at hR
  have HR := Hid_mk hR
  have HWh : Hid (∀ W, Calls Tryz.prog 48 #[.agg #[.bool cl, .bool cp, .bool cbk, .bool cno, .int .i64 cw, .int .i64 cpr, .int .u8 88], .string (st E), .bool ng] W fun e w' => e = .returned (.agg #[.string (st sg), .string (st bd), .bool fl]) ∧ Kp No W w') := Hid_mk fun W => by
    have h := whole_any W ⟨cl, cp, cbk, cno, cw, cpr, 88⟩ E ng (by show 88 < 256; omega) (by omega) hp hp2
    unfold TdPost at h
    rw [hwh] at h
    exact h
  have HBs : Hid (∀ W, Kp No w W → Calls Tryz.prog 49 #[.float .f64 x.n, .int .i64 16, .string (st d1)] W fun e w' => e = .returned (.string (st B)) ∧ Kp No W w') := Hid_mk hbs
  have HUp : Hid (∀ W, Calls Tryz.prog 50 #[.string (st B)] W fun e w' => e = .returned (.string (st E)) ∧ Kp No W w') := Hid_mk hup
  clear hbs hE hup hdg hfin htl hd1 hng hp hp2 hD hwh

  obtain ⟨W1, hW1, hk1, hz1⟩ := named_alloc w (.cells #[.bool cl, .bool cp, .bool cbk, .bool cno, .int .i64 cw, .int .i64 cpr, .int .u8 88] 53)
  obtain ⟨Cb, hCb⟩ : ∃ Cb, w.heap.size = Cb := ⟨_, rfl⟩
  have hcv : CvAt W1 Cb ⟨cl, cp, cbk, cno, cw, cpr, 88⟩ := by rw [← hW1, ← hCb]; exact CvAt.new w ⟨cl, cp, cbk, cno, cw, cpr, 88⟩ 53
  obtain ⟨n, s, k⟩ := x
  obtain ⟨W2, hW2, hk2, hz2⟩ := named_alloc W1 (.cells #[.float .f64 n, .string (st s), .bool k] 27)
  have har := B3.new W1 (.float .f64 n) (.string (st s)) (.bool k) 27
  rw [hCb] at hz1
  rw [hz1] at hz2
  obtain ⟨Ab, hAb⟩ : ∃ Ab, Cb + 1 = Ab := ⟨_, rfl⟩
  rw [hW2, hz1, hAb] at har
  obtain ⟨W3, hW3, hk3, hz3⟩ := named_alloc W2 (.cells #[.string ⟨#[]⟩, .string ⟨#[]⟩, .bool false] 58)
  have htd := B3.new W2 (.string ⟨#[]⟩) (.string ⟨#[]⟩) (.bool false) 58
  obtain ⟨Tb, hTb⟩ : ∃ Tb, Cb + 1 + 1 = Tb := ⟨_, rfl⟩
  rw [hW3, hz2, hTb] at htd
  have HM : Hid (TlM W3 Cb Ab Tb ⟨cl, cp, cbk, cno, cw, cpr, 88⟩ ⟨n, s, k⟩) := Hid_mk ⟨(hcv.no2 hk2).no2 hk3, har.no hk3, htd⟩
  have HK := Hid_mk ((hk1.trans' hk2).trans' hk3)
  have HT := Hid_mk (show ¬ Tb < w.heap.size by omega)
  have hca : Cb ≠ Ab := by omega
  have hct : Cb ≠ Tb := by omega
  have hat : Ab ≠ Tb := by omega
  have HZ1 := Hid_mk (show W1.heap.size = Ab by omega)
  have HZ2 := Hid_mk (show W2.heap.size = Tb by omega)
  simp only [arV]
  clear hR hk1 hk2 hk3 hz1 hz2 hz3 hcv har htd
  go_enter Tryz.func24, Tryz.ntmps24
  go_upto_region 1 with fail
  rw [HZ1.out, HZ2.out]
  clear hW1 hW2 hW3 hCb hAb hTb
  obtain ⟨⟨d0, d1, d2, d3, d4, d5, d6, d7⟩, ⟨a0, a1, a2, a3⟩, ⟨r0, r1, r2, r3⟩⟩ := HM.out
  simp only at d0 d1 d2 d3 d4 d5 d6 a0 a1 a2
  have d6 : _ = some (Value.int .u8 88) := d6
  go_wp2_with fail
  with_reducible refine (HDg.out _ HK.out).mono ?_
  rintro e w4 ⟨rfl, hkk⟩
  have HM := Hid_mk (HM.out.no hkk)
  have HK := Hid_mk (HK.out.trans' hkk)
  clear hkk
  clear d0 d1 d2 d3 d4 d5 d6 d7 a0 a1 a2 a3 r0 r1 r2 r3
  obtain ⟨⟨d0, d1, d2, d3, d4, d5, d6, d7⟩, ⟨a0, a1, a2, a3⟩, ⟨r0, r1, r2, r3⟩⟩ := HM.out
  simp only at d0 d1 d2 d3 d4 d5 d6 a0 a1 a2
  have d6 : _ = some (Value.int .u8 88) := d6
  go_wp2_with fail
  with_reducible refine (HCp.out _).mono ?_
  rintro e w9 ⟨rfl, rfl⟩
  go_wp2_with fail
  with_reducible refine (HFn.out _).mono ?_
  rintro e w9 ⟨rfl, rfl⟩
  go_upto_region 19 with fail
  clear d0 d1 d2 d3 d4 d5 d6 d7 a0 a1 a2 a3 r0 r1 r2 r3
  have HM := Hid_mk (HM.out.no (Kp.refl No _).drew)
  have HK := Hid_mk (HK.out.trans' (Kp.refl No _).drew)
  refine wp_region_held_drew (S := fun W => CvAt W Cb ⟨cl, cp, cbk, cno, cw, cpr, 88⟩ ∧ B3 W Ab (.float .f64 n) (.string (st s)) (.bool k)) (by kernel_rfl) (⟨HM.out.cv, HM.out.ar⟩) (fun hHeld => ?_)
  try dsimp only at hHeld
  refine wpAnyH_take (i := 0) (oi := { dst := some 67, op := Op.load 53 (Operand.tmp 2), type := 53, pos := "tell.go:37", after := #[], guard := none }) (v := ?_) rfl (by kernel_rfl) (by kernel_rfl) (by kernel_rfl) (fun _ _ _ h => h) (Or.inl ⟨by rfl, ?_⟩) (by assumption) ?_
  rotate_left 1
  · intro W hSw; (try dsimp only at hSw); (obtain ⟨⟨d0, d1, d2, d3, d4, d5, d6, d7⟩, ⟨a0, a1, a2, a3⟩⟩ := hSw; simp only at d0 d1 d2 d3 d4 d5 d6; have d6 : _ = some (Value.int .u8 88) := d6); go_simp; all_goals (with_reducible rfl)
  try simp only [Act.put, List.setIfInBounds_toArray, List.set_cons_zero, List.set_cons_succ]
  refine wpAnyH_take (i := 1) (oi := { dst := some 68, op := Op.fieldAddr 27 (Operand.tmp 3) 0, type := 0, pos := "tell.go:37", after := #[], guard := none }) (v := ?_) rfl (by kernel_rfl) (by kernel_rfl) (by kernel_rfl) (fun _ _ _ h => h) (Or.inl ⟨by rfl, ?_⟩) (by assumption) ?_
  rotate_left 1
  · intro W hSw; (try dsimp only at hSw); (obtain ⟨⟨d0, d1, d2, d3, d4, d5, d6, d7⟩, ⟨a0, a1, a2, a3⟩⟩ := hSw; simp only at d0 d1 d2 d3 d4 d5 d6; have d6 : _ = some (Value.int .u8 88) := d6); go_simp; all_goals (with_reducible rfl)
  try simp only [Act.put, List.setIfInBounds_toArray, List.set_cons_zero, List.set_cons_succ]
  refine wpAnyH_take (i := 2) (oi := { dst := some 69, op := Op.load 25 (Operand.tmp 68), type := 25, pos := "tell.go:37", after := #[{ on := 1, ground := Ground.data }], guard := none }) (v := ?_) rfl (by kernel_rfl) (by kernel_rfl) (by kernel_rfl) (fun _ _ _ h => h) (Or.inl ⟨by rfl, ?_⟩) (by assumption) ?_
  rotate_left 1
  · intro W hSw; (try dsimp only at hSw); (obtain ⟨⟨d0, d1, d2, d3, d4, d5, d6, d7⟩, ⟨a0, a1, a2, a3⟩⟩ := hSw; simp only at d0 d1 d2 d3 d4 d5 d6; have d6 : _ = some (Value.int .u8 88) := d6); go_simp; all_goals (with_reducible rfl)
  try simp only [Act.put, List.setIfInBounds_toArray, List.set_cons_zero, List.set_cons_succ]
  refine wpAnyH_take (i := 3) (oi := { dst := some 70, op := Op.move (Operand.tmp 5), type := 9, pos := "tell.go:37", after := #[], guard := none }) (v := ?_) rfl (by kernel_rfl) (by kernel_rfl) (by kernel_rfl) (fun _ _ _ h => h) (Or.inl ⟨by rfl, ?_⟩) (by assumption) ?_
  rotate_left 1
  · intro W hSw; (try dsimp only at hSw); (obtain ⟨⟨d0, d1, d2, d3, d4, d5, d6, d7⟩, ⟨a0, a1, a2, a3⟩⟩ := hSw; simp only at d0 d1 d2 d3 d4 d5 d6; have d6 : _ = some (Value.int .u8 88) := d6); go_simp; all_goals (with_reducible rfl)
  try simp only [Act.put, List.setIfInBounds_toArray, List.set_cons_zero, List.set_cons_succ]
  refine wpAnyH_take (i := 6) (oi := { dst := some 73, op := Op.move (Operand.tmp 6), type := 4, pos := "tell.go:37", after := #[], guard := none }) (v := ?_) rfl (by kernel_rfl) (by kernel_rfl) (by kernel_rfl) (fun _ _ _ h => h) (Or.inl ⟨by rfl, ?_⟩) (by assumption) ?_
  rotate_left 1
  · intro W hSw; (try dsimp only at hSw); (obtain ⟨⟨d0, d1, d2, d3, d4, d5, d6, d7⟩, ⟨a0, a1, a2, a3⟩⟩ := hSw; simp only at d0 d1 d2 d3 d4 d5 d6; have d6 : _ = some (Value.int .u8 88) := d6); go_simp; all_goals (with_reducible rfl)
  try simp only [Act.put, List.setIfInBounds_toArray, List.set_cons_zero, List.set_cons_succ]
  refine wpAnyH_ready (rs := [4]) (by kernel_rfl) (by simp) ?_
  refine AllReadyH.cons (o := { dst := some 71, op := Op.call { callee := Callee.value (Operand.func 49), args := #[Operand.tmp 69, Operand.const (Value.int IntKind.i64 16), Operand.tmp 70], argTypes := #[25, 3, 9] }, type := 9, pos := "tell.go:37", after := #[{ on := 2, ground := Ground.data }, { on := 3, ground := Ground.data }], guard := none }) rfl (fun K hK => ?_) AllReadyH.nil
  go_simp
  with_reducible refine (HBs.out _ HK.out).mono ?_
  rintro e w5 ⟨rfl, hkk⟩
  have HM := Hid_mk (HM.out.no hkk)
  have HK := Hid_mk (HK.out.trans' hkk)
  clear hkk
  refine hK _ _ (⟨HM.out.cv, HM.out.ar⟩) (fun hHeld => ?_)
  clear hK K
  try dsimp only at hHeld
  try simp only [Act.put, List.setIfInBounds_toArray, List.set_cons_zero, List.set_cons_succ]
  refine wpAnyH_ready (rs := [5]) (by kernel_rfl) (by simp) ?_
  refine AllReadyH.cons (o := { dst := some 72, op := Op.call { callee := Callee.value (Operand.func 50), args := #[Operand.tmp 71], argTypes := #[9] }, type := 9, pos := "tell.go:37", after := #[{ on := 4, ground := Ground.data }, { on := 4, ground := Ground.chain }], guard := none }) rfl (fun K hK => ?_) AllReadyH.nil
  go_simp
  with_reducible refine (HUp.out _).mono ?_
  rintro e w6 ⟨rfl, hkk⟩
  have HM := Hid_mk (HM.out.no hkk)
  have HK := Hid_mk (HK.out.trans' hkk)
  clear hkk
  refine hK _ _ (⟨HM.out.cv, HM.out.ar⟩) (fun hHeld => ?_)
  clear hK K
  try dsimp only at hHeld
  try simp only [Act.put, List.setIfInBounds_toArray, List.set_cons_zero, List.set_cons_succ]
  refine wpAnyH_ready (rs := [7]) (by kernel_rfl) (by simp) ?_
  refine AllReadyH.cons (o := { dst := some 74, op := Op.call { callee := Callee.value (Operand.func 48), args := #[Operand.tmp 67, Operand.tmp 72, Operand.tmp 73], argTypes := #[53, 9, 4] }, type := 58, pos := "tell.go:37", after := #[{ on := 0, ground := Ground.data }, { on := 5, ground := Ground.data }, { on := 6, ground := Ground.data }, { on := 5, ground := Ground.chain }], guard := none }) rfl (fun K hK => ?_) AllReadyH.nil
  go_simp
  with_reducible refine (HWh.out _).mono ?_
  rintro e w7 ⟨rfl, hkk⟩
  have HM := Hid_mk (HM.out.no hkk)
  have HK := Hid_mk (HK.out.trans' hkk)
  clear hkk
  obtain ⟨r0, r1, r2, r3⟩ := HM.out.td
  refine hK _ _ (⟨HM.out.cv, HM.out.ar⟩) (fun hHeld => ?_)
  clear hK K
  try dsimp only at hHeld
  try simp only [Act.put, List.setIfInBounds_toArray, List.set_cons_zero, List.set_cons_succ]
  refine wpAnyH_ready (rs := [8]) (by kernel_rfl) (by simp) ?_
  refine AllReadyH.cons (o := { dst := none, op := Op.store 58 (Operand.tmp 4) (Operand.tmp 74), type := 0, pos := "tell.go:37", after := #[{ on := 7, ground := Ground.data }, { on := 7, ground := Ground.chain }, { on := 0, ground := Ground.phase }, { on := 1, ground := Ground.phase }, { on := 2, ground := Ground.phase }, { on := 3, ground := Ground.phase }, { on := 4, ground := Ground.phase }, { on := 5, ground := Ground.phase }, { on := 6, ground := Ground.phase }, { on := 7, ground := Ground.phase }], guard := none }) rfl (fun K hK => ?_) AllReadyH.nil
  go_simp
  refine hK _ _ (⟨HM.out.cv.kept ((((Kp.refl (fun k => k = Tb) w7).setCell (p := ⟨Tb, 0, none⟩) (fun _ => rfl) _).setCell (p := ⟨Tb, 1, none⟩) (fun _ => rfl) _).setCell (p := ⟨Tb, 2, none⟩) (fun _ => rfl) _) (fun e => hct e), B3.kept HM.out.ar ((((Kp.refl (fun k => k = Tb) w7).setCell (p := ⟨Tb, 0, none⟩) (fun _ => rfl) _).setCell (p := ⟨Tb, 1, none⟩) (fun _ => rfl) _).setCell (p := ⟨Tb, 2, none⟩) (fun _ => rfl) _) (fun e => hat e)⟩) (fun hHeld => ?_)
  clear hK K
  try dsimp only at hHeld
  try simp only [Act.put, List.setIfInBounds_toArray, List.set_cons_zero, List.set_cons_succ]
  refine wpAnyH_done (by kernel_rfl) ?_ _
  go_wp2
  refine bodyPost_ret (v := .agg #[.string (st sg), .string (st bd), .bool (fl)]) ?_ rfl ?_
  · simp [results, Tryz.results24, go_sem, r0, r1, r2]
  · rw [← HR.out]
    exact ⟨rfl, ((HK.out.setCell (p := ⟨Tb, 0, none⟩) (fun e => absurd e HT.out) _).setCell (p := ⟨Tb, 1, none⟩) (fun e => absurd e HT.out) _).setCell (p := ⟨Tb, 2, none⟩) (fun e => absurd e HT.out) _⟩

end Go.Proofs.YtgejeocojmpdjabGreatDoor.pf

namespace Go.Proofs.YtgejeocojmpdjabGreatDoor.pf
open Go.RowKit Go.Lib Go.Proofs.YtgejeocojmpdjabGreatDoor.sum Go.Proofs.YtgejeocojmpdjabGreatDoor.kept Go.Proofs.YtgejeocojmpdjabGreatDoor.app Go.Proofs.YtgejeocojmpdjabGreatDoor.writer Go.Proofs.YtgejeocojmpdjabGreatDoor.known Go.Proofs.YtgejeocojmpdjabGreatDoor.str Go.Proofs.YtgejeocojmpdjabGreatDoor.fmtf Go.Proofs.YtgejeocojmpdjabGreatDoor.fl
set_option linter.unusedVariables false

def cvL (k : Nat) : Cv := ⟨false, false, false, false, 0, -1, k⟩
def arN (n : Nat) : Ar := ⟨fl (n : Int), [], true⟩
def upS (n : Nat) : List UInt8 := Lib.toUpperA (hex.hexs n)
def tlH (n : Nat) (c : Cv) (x : Ar) : Td := ⟨[], if c.letter = 120 then hex.hexs n else if c.letter = 111 then oct.octs n else upS n, true⟩
def oktH (n : Nat) (c : Cv) (x : Ar) : Prop := (c = cvL 120 ∨ c = cvL 111 ∨ c = cvL 88) ∧ x = arN n
theorem whole_bare (k : Nat) (hk : bare k = true) (E : List UInt8) : wholeS (cvL k) E false = ⟨[], E, true⟩ := by
  unfold wholeS signS noughtsS cvL
  simp only [Bool.false_eq_true, if_false, hk, if_true]
  have e : max (-1 - (E.length : Int)) 0 = 0 := by omega
  rw [e]
  rfl
theorem hexd_ascii : ∀ d : Fin 16, (hex.hexd d.val).toNat < 128 := by decide +kernel
theorem hexs_ascii (n : Nat) : ∀ c ∈ hex.hexs n, c.toNat < 128 := by
  induction n using Nat.strongRecOn with
  | _ n ih =>
    intro c hc
    by_cases h : n < 16
    · rw [hex.hexs_small h] at hc
      rw [List.mem_singleton.1 hc]
      exact hexd_ascii ⟨n, h⟩
    · rw [hex.hexs_big h] at hc
      rcases List.mem_append.1 hc with h1 | h1
      · exact ih (n / 16) (by omega) c h1
      · rw [List.mem_singleton.1 h1]
        exact hexd_ascii ⟨n % 16, Nat.mod_lt _ (by omega)⟩
theorem up_len (n : Nat) : (upS n).length = (hex.hexs n).length := by unfold upS Lib.toUpperA; rw [List.length_map]
theorem upper_hex (W : World) (n : Nat) (hn : n < 4294967296) : Calls Tryz.prog 50 #[.string (st (hex.hexs n))] W (TxK W (upS n)) := by
  have hl := hex.hexs_len n 8 (by omega) (by omega)
  refine (Tryz.strings_ToUpper_ascii (st (hex.hexs n)) W (by rw [st_size]; omega) (fun j b hb => ?_)).mono ?_
  · rw [st_data] at hb
    exact hexs_ascii n b (List.mem_of_getElem? hb)
  · rintro e w' ⟨rfl, hb⟩
    refine ⟨?_, Kp.of_below hb⟩
    rw [st_data]
    rfl
theorem tlH_ok (w : World) (h : Ld w) (n : Nat) (hn : n < 4294967296) : TlC (tlH n) (oktH n) w := by
  have p53 : (2 : Nat) ^ 53 = 9007199254740992 := by decide
  have hn2 : n < 2 ^ 53 := by omega
  have hs := small_nat hn2
  have hp := dgN_pre n hn2
  have hl := (dgN_pos n hn2).2.1
  have l16 := hex.hexs_len n 8 (by omega) (by omega)
  have l8 := oct.octs_len n 11 (by omega) (by omega)
  rintro c x ⟨hc, rfl⟩
  rcases hc with rfl | rfl | rfl
  · refine ⟨⟨by decide, by decide, by simp [tlH], by simp [tlH, cvL]; omega⟩, fun W hk => ?_⟩
    have := tell_x W false false false false 0 (-1) (arN n) (dgN n) (by omega) (fun W' hk' => dgN_any W' ((h.no hk).no hk') n hn2) (fin_fl _ hs) (by decide) (by decide) (hex.hexs n) (by omega) (fun W' hk' => based16 W' ((h.no hk).no hk') n hn2 _)
    rw [hp.1, show (⟨false, false, false, false, 0, -1, 120⟩ : Cv) = cvL 120 from rfl, whole_bare 120 (by decide)] at this
    exact this
  · refine ⟨⟨by decide, by decide, by simp [tlH], by simp [tlH, cvL]; omega⟩, fun W hk => ?_⟩
    have := tell_o W false false false false 0 (-1) (arN n) (dgN n) (by omega) (fun W' hk' => dgN_any W' ((h.no hk).no hk') n hn2) (fin_fl _ hs) (by decide) (by decide) (oct.octs n) (by omega) (fun W' hk' => based8 W' ((h.no hk).no hk') n hn2 _)
    rw [hp.1, show (⟨false, false, false, false, 0, -1, 111⟩ : Cv) = cvL 111 from rfl, whole_bare 111 (by decide)] at this
    exact this
  · refine ⟨⟨by decide, by decide, by simp [tlH], by simp [tlH, cvL]; rw [up_len]; omega⟩, fun W hk => ?_⟩
    have := tell_X W false false false false 0 (-1) (arN n) (dgN n) (by omega) (fun W' hk' => dgN_any W' ((h.no hk).no hk') n hn2) (fin_fl _ hs) (by decide) (by decide) (hex.hexs n) (upS n) (by rw [up_len]; omega) (fun W' hk' => based16 W' ((h.no hk).no hk') n hn2 _) (fun W' => upper_hex W' n hn)
    rw [hp.1, show (⟨false, false, false, false, 0, -1, 88⟩ : Cv) = cvL 88 from rfl, whole_bare 88 (by decide)] at this
    exact this

theorem add_nil (bs : List UInt8) : addS bs [] = bs := by unfold addS; simp
theorem add_all (bs s : List UInt8) (h : bs.length + s.length ≤ 257) : addS bs s = bs ++ s := by
  unfold addS
  rw [List.take_of_length_le (by omega)]
theorem put_plain (k : Nat) (bs E : List UInt8) (h : bs.length + E.length ≤ 257) : putS bs (cvL k) ⟨[], E, true⟩ = bs ++ E := by
  unfold putS cvL
  simp only [Bool.false_eq_true, if_false, false_and]
  have e : (fillN ⟨false, false, false, false, 0, -1, k⟩ ⟨[], E, true⟩).toNat = 0 := by
    unfold fillN
    simp only [List.length_nil]
    omega
  rw [e, List.replicate_zero, add_nil, add_nil, add_all _ _ h]
def fm3 : List UInt8 := [37, 120, 32, 37, 111, 32, 37, 88]
theorem tx_one : txS (fm3.length + 1) fm3 [] = (true, [120, 32, 37, 111, 32, 37, 88], []) := by decide +kernel
theorem tx_two (bs : List UInt8) (h : bs.length ≤ 200) : txS (([32, 37, 111, 32, 37, 88] : List UInt8).length + 1) [32, 37, 111, 32, 37, 88] bs = (true, [111, 32, 37, 88], bs ++ [32]) := by
  have hc : cutS [32, 37, 111, 32, 37, 88] = ([32], [111, 32, 37, 88], true) := by decide +kernel
  rw [txS, hc]
  simp only
  rw [if_neg (by decide), add_all _ _ (by simp; omega)]
theorem tx_three (bs : List UInt8) (h : bs.length ≤ 200) : txS (([32, 37, 88] : List UInt8).length + 1) [32, 37, 88] bs = (true, [88], bs ++ [32]) := by
  have hc : cutS [32, 37, 88] = ([32], [88], true) := by decide +kernel
  rw [txS, hc]
  simp only
  rw [if_neg (by decide), add_all _ _ (by simp; omega)]
theorem tx_end (bs : List UInt8) : txS (([] : List UInt8).length + 1) [] bs = (false, [], bs) := by
  have hc : cutS [] = ([], [], false) := by decide +kernel
  rw [txS, hc]
  simp only
  rw [if_neg (by simp), add_nil]
theorem cv_one (ars : List Ar) : cvS cnD [120, 32, 37, 111, 32, 37, 88] ars = some (cvL 120, [32, 37, 111, 32, 37, 88], ars) := by kernel_rfl
theorem cv_two (ars : List Ar) : cvS cnD [111, 32, 37, 88] ars = some (cvL 111, [32, 37, 88], ars) := by kernel_rfl
theorem cv_three (ars : List Ar) : cvS cnD [88] ars = some (cvL 88, [], ars) := by kernel_rfl
def arsN (n : Nat) : List Ar := [arN n, arN n, arN n]
def outH (n : Nat) : List UInt8 := hex.hexs n ++ [32] ++ oct.octs n ++ [32] ++ upS n
theorem hex_fm (n : Nat) (hn : n < 4294967296) : fmS cnD (tlH n) 4 fm3 (arsN n) [] = some (outH n) ∧ okS cnD (fun l => lookS l ≠ 42) (tlH n) (oktH n) 4 fm3 (arsN n) [] ∧ (outH n).length ≤ 30 := by
  have l16 := hex.hexs_len n 8 (by omega) (by omega)
  have l8 := oct.octs_len n 11 (by omega) (by omega)
  have lu := up_len n
  have t1 : tlH n (cvL 120) (arN n) = ⟨[], hex.hexs n, true⟩ := rfl
  have t2 : tlH n (cvL 111) (arN n) = ⟨[], oct.octs n, true⟩ := rfl
  have t3 : tlH n (cvL 88) (arN n) = ⟨[], upS n, true⟩ := rfl
  have p1 : putS [] (cvL 120) ⟨[], hex.hexs n, true⟩ = hex.hexs n := by rw [put_plain _ _ _ (by simp; omega)]; rfl
  have p2 : putS (hex.hexs n ++ [32]) (cvL 111) ⟨[], oct.octs n, true⟩ = hex.hexs n ++ [32] ++ oct.octs n := put_plain _ _ _ (by simp; omega)
  have p3 : putS (hex.hexs n ++ [32] ++ oct.octs n ++ [32]) (cvL 88) ⟨[], upS n, true⟩ = outH n := put_plain _ _ _ (by simp; omega)
  have b2 := tx_two (hex.hexs n) (by omega)
  have b3 := tx_three (hex.hexs n ++ [32] ++ oct.octs n) (by simp; omega)
  have b4 := tx_end (outH n)
  have hlen : (outH n).length ≤ 30 := by unfold outH; simp; omega
  refine ⟨?_, ?_, hlen⟩
  · rw [fmS, tx_one]
    simp only [if_true, cv_one]
    rw [show (arsN n).headD noAr = arN n from rfl, t1, p1, fmS, b2]
    simp only [if_true, cv_two]
    rw [show (arsN n).tail.headD noAr = arN n from rfl, t2, p2, fmS, b3]
    simp only [if_true, cv_three]
    rw [show (arsN n).tail.tail.headD noAr = arN n from rfl, t3, p3, fmS, b4]
    simp
  · rw [okS, tx_one]
    simp only [cv_one]
    refine ⟨by decide, by decide, by decide, fun _ => ⟨by decide +kernel, fun e => absurd e (by show ¬ lookS (cntS (fgS [120, 32, 37, 111, 32, 37, 88] cv0).2 0).2 = 46; decide +kernel ), ⟨.inl rfl, rfl⟩, ?_⟩⟩
    rw [show (arsN n).headD noAr = arN n from rfl, t1, p1, okS, b2]
    simp only [cv_two]
    refine ⟨by decide, by omega, by simp; omega, fun _ => ⟨by decide +kernel, fun e => absurd e (by show ¬ lookS (cntS (fgS [111, 32, 37, 88] cv0).2 0).2 = 46; decide +kernel ), ⟨.inr (.inl rfl), rfl⟩, ?_⟩⟩
    rw [show (arsN n).tail.headD noAr = arN n from rfl, t2, p2, okS, b3]
    simp only [cv_three]
    refine ⟨by decide, by simp; omega, by simp; omega, fun _ => ⟨by decide +kernel, fun e => absurd e (by show ¬ lookS (cntS (fgS [88] cv0).2 0).2 = 46; decide +kernel ), ⟨.inr (.inr rfl), rfl⟩, ?_⟩⟩
    rw [show (arsN n).tail.tail.headD noAr = arN n from rfl, t3, p3, okS, b4]
    exact ⟨by decide, by omega, by show (outH n).length ≤ 257; omega, fun e => by cases e⟩

end Go.Proofs.YtgejeocojmpdjabGreatDoor.pf

namespace Go.Proofs.YtgejeocojmpdjabGreatDoor.pf
open Go.RowKit Go.Lib Go.Proofs.YtgejeocojmpdjabGreatDoor.sum Go.Proofs.YtgejeocojmpdjabGreatDoor.kept Go.Proofs.YtgejeocojmpdjabGreatDoor.app Go.Proofs.YtgejeocojmpdjabGreatDoor.writer Go.Proofs.YtgejeocojmpdjabGreatDoor.known Go.Proofs.YtgejeocojmpdjabGreatDoor.str Go.Proofs.YtgejeocojmpdjabGreatDoor.fmtf Go.Proofs.YtgejeocojmpdjabGreatDoor.fl
set_option linter.unusedVariables false

/-- the digits of a number below 100 -/
def wdL (w : Nat) : List UInt8 := if w < 10 then [UInt8.ofNat (48 + w)] else [UInt8.ofNat (48 + w / 10), UInt8.ofNat (48 + w % 10)]
def wdC (lf : Bool) (w k : Nat) : Cv := ⟨lf, false, false, decide (w = 0), (w : Int), -1, k⟩
theorem below60 {P : Nat → Prop} (h : ∀ w : Fin 60, P w.val) (w : Nat) (hw : w < 60) : P w := h ⟨w, hw⟩
theorem wd_dg : ∀ w : Fin 60, dgN w.val = wdL w.val := by decide +kernel
theorem cv_d (w : Nat) (hw : w < 60) (ars : List Ar) : cvS cnD ([] ++ wdL w ++ [100]) ars = some (wdC false w 100, [], ars) := by
  rcases (by omega : w = 0 ∨ w = 1 ∨ w = 2 ∨ w = 3 ∨ w = 4 ∨ w = 5 ∨ w = 6 ∨ w = 7 ∨ w = 8 ∨ w = 9 ∨ w = 10 ∨ w = 11 ∨ w = 12 ∨ w = 13 ∨ w = 14 ∨ w = 15 ∨ w = 16 ∨ w = 17 ∨ w = 18 ∨ w = 19 ∨ w = 20 ∨ w = 21 ∨ w = 22 ∨ w = 23 ∨ w = 24 ∨ w = 25 ∨ w = 26 ∨ w = 27 ∨ w = 28 ∨ w = 29 ∨ w = 30 ∨ w = 31 ∨ w = 32 ∨ w = 33 ∨ w = 34 ∨ w = 35 ∨ w = 36 ∨ w = 37 ∨ w = 38 ∨ w = 39 ∨ w = 40 ∨ w = 41 ∨ w = 42 ∨ w = 43 ∨ w = 44 ∨ w = 45 ∨ w = 46 ∨ w = 47 ∨ w = 48 ∨ w = 49 ∨ w = 50 ∨ w = 51 ∨ w = 52 ∨ w = 53 ∨ w = 54 ∨ w = 55 ∨ w = 56 ∨ w = 57 ∨ w = 58 ∨ w = 59) with rfl | rfl | rfl | rfl | rfl | rfl | rfl | rfl | rfl | rfl | rfl | rfl | rfl | rfl | rfl | rfl | rfl | rfl | rfl | rfl | rfl | rfl | rfl | rfl | rfl | rfl | rfl | rfl | rfl | rfl | rfl | rfl | rfl | rfl | rfl | rfl | rfl | rfl | rfl | rfl | rfl | rfl | rfl | rfl | rfl | rfl | rfl | rfl | rfl | rfl | rfl | rfl | rfl | rfl | rfl | rfl | rfl | rfl | rfl | rfl <;> kernel_rfl
theorem ok_d : ∀ w : Fin 60, lookS (fgS ([] ++ wdL w.val ++ [100]) cv0).2 ≠ 42 ∧ lookS (cntS (fgS ([] ++ wdL w.val ++ [100]) cv0).2 0).2 ≠ 46 := by decide +kernel
theorem tx_d : ∀ w : Fin 60, txS ((37 :: ([] ++ wdL w.val ++ [100])).length + 1) (37 :: ([] ++ wdL w.val ++ [100])) [] = (true, [] ++ wdL w.val ++ [100], []) := by decide +kernel
theorem cv_l (w : Nat) (hw : w < 60) (ars : List Ar) : cvS cnD ([45] ++ wdL w ++ [100]) ars = some (wdC true w 100, [], ars) := by
  rcases (by omega : w = 0 ∨ w = 1 ∨ w = 2 ∨ w = 3 ∨ w = 4 ∨ w = 5 ∨ w = 6 ∨ w = 7 ∨ w = 8 ∨ w = 9 ∨ w = 10 ∨ w = 11 ∨ w = 12 ∨ w = 13 ∨ w = 14 ∨ w = 15 ∨ w = 16 ∨ w = 17 ∨ w = 18 ∨ w = 19 ∨ w = 20 ∨ w = 21 ∨ w = 22 ∨ w = 23 ∨ w = 24 ∨ w = 25 ∨ w = 26 ∨ w = 27 ∨ w = 28 ∨ w = 29 ∨ w = 30 ∨ w = 31 ∨ w = 32 ∨ w = 33 ∨ w = 34 ∨ w = 35 ∨ w = 36 ∨ w = 37 ∨ w = 38 ∨ w = 39 ∨ w = 40 ∨ w = 41 ∨ w = 42 ∨ w = 43 ∨ w = 44 ∨ w = 45 ∨ w = 46 ∨ w = 47 ∨ w = 48 ∨ w = 49 ∨ w = 50 ∨ w = 51 ∨ w = 52 ∨ w = 53 ∨ w = 54 ∨ w = 55 ∨ w = 56 ∨ w = 57 ∨ w = 58 ∨ w = 59) with rfl | rfl | rfl | rfl | rfl | rfl | rfl | rfl | rfl | rfl | rfl | rfl | rfl | rfl | rfl | rfl | rfl | rfl | rfl | rfl | rfl | rfl | rfl | rfl | rfl | rfl | rfl | rfl | rfl | rfl | rfl | rfl | rfl | rfl | rfl | rfl | rfl | rfl | rfl | rfl | rfl | rfl | rfl | rfl | rfl | rfl | rfl | rfl | rfl | rfl | rfl | rfl | rfl | rfl | rfl | rfl | rfl | rfl | rfl | rfl <;> kernel_rfl
theorem ok_l : ∀ w : Fin 60, lookS (fgS ([45] ++ wdL w.val ++ [100]) cv0).2 ≠ 42 ∧ lookS (cntS (fgS ([45] ++ wdL w.val ++ [100]) cv0).2 0).2 ≠ 46 := by decide +kernel
theorem tx_l : ∀ w : Fin 60, txS ((37 :: ([45] ++ wdL w.val ++ [100])).length + 1) (37 :: ([45] ++ wdL w.val ++ [100])) [] = (true, [45] ++ wdL w.val ++ [100], []) := by decide +kernel
theorem cv_s (w : Nat) (hw : w < 60) (ars : List Ar) : cvS cnD ([] ++ wdL w ++ [115]) ars = some (wdC false w 115, [], ars) := by
  rcases (by omega : w = 0 ∨ w = 1 ∨ w = 2 ∨ w = 3 ∨ w = 4 ∨ w = 5 ∨ w = 6 ∨ w = 7 ∨ w = 8 ∨ w = 9 ∨ w = 10 ∨ w = 11 ∨ w = 12 ∨ w = 13 ∨ w = 14 ∨ w = 15 ∨ w = 16 ∨ w = 17 ∨ w = 18 ∨ w = 19 ∨ w = 20 ∨ w = 21 ∨ w = 22 ∨ w = 23 ∨ w = 24 ∨ w = 25 ∨ w = 26 ∨ w = 27 ∨ w = 28 ∨ w = 29 ∨ w = 30 ∨ w = 31 ∨ w = 32 ∨ w = 33 ∨ w = 34 ∨ w = 35 ∨ w = 36 ∨ w = 37 ∨ w = 38 ∨ w = 39 ∨ w = 40 ∨ w = 41 ∨ w = 42 ∨ w = 43 ∨ w = 44 ∨ w = 45 ∨ w = 46 ∨ w = 47 ∨ w = 48 ∨ w = 49 ∨ w = 50 ∨ w = 51 ∨ w = 52 ∨ w = 53 ∨ w = 54 ∨ w = 55 ∨ w = 56 ∨ w = 57 ∨ w = 58 ∨ w = 59) with rfl | rfl | rfl | rfl | rfl | rfl | rfl | rfl | rfl | rfl | rfl | rfl | rfl | rfl | rfl | rfl | rfl | rfl | rfl | rfl | rfl | rfl | rfl | rfl | rfl | rfl | rfl | rfl | rfl | rfl | rfl | rfl | rfl | rfl | rfl | rfl | rfl | rfl | rfl | rfl | rfl | rfl | rfl | rfl | rfl | rfl | rfl | rfl | rfl | rfl | rfl | rfl | rfl | rfl | rfl | rfl | rfl | rfl | rfl | rfl <;> kernel_rfl
theorem ok_s : ∀ w : Fin 60, lookS (fgS ([] ++ wdL w.val ++ [115]) cv0).2 ≠ 42 ∧ lookS (cntS (fgS ([] ++ wdL w.val ++ [115]) cv0).2 0).2 ≠ 46 := by decide +kernel
theorem tx_s : ∀ w : Fin 60, txS ((37 :: ([] ++ wdL w.val ++ [115])).length + 1) (37 :: ([] ++ wdL w.val ++ [115])) [] = (true, [] ++ wdL w.val ++ [115], []) := by decide +kernel
end Go.Proofs.YtgejeocojmpdjabGreatDoor.pf

namespace Go.Proofs.YtgejeocojmpdjabGreatDoor.pf
open Go.RowKit Go.Lib Go.Proofs.YtgejeocojmpdjabGreatDoor.sum Go.Proofs.YtgejeocojmpdjabGreatDoor.kept Go.Proofs.YtgejeocojmpdjabGreatDoor.app Go.Proofs.YtgejeocojmpdjabGreatDoor.writer Go.Proofs.YtgejeocojmpdjabGreatDoor.known Go.Proofs.YtgejeocojmpdjabGreatDoor.str Go.Proofs.YtgejeocojmpdjabGreatDoor.fmtf Go.Proofs.YtgejeocojmpdjabGreatDoor.fl
set_option linter.unusedVariables false

theorem fx_small (n : Nat) (h0 : 0 < n) (h : n < 2 ^ 53) : (fxI T10 (fl (n : Int)) 0).2 ≤ 5 := by
  have hl := small_log h0 h
  have he := (ff_fl n h0 h).2.2.2
  have hd := dg_fl n h0 h
  have hg : dgI (fl (n : Int)) 0 = 1 + lg10 (1 + (n.log2 : Int)) := by unfold dgI; rw [he, if_pos (by omega)]; omega
  have hs : 0 ≤ (shN (fl (n : Int)) : Int) := Int.natCast_nonneg _
  unfold fxI
  rw [hg] at hd ⊢
  have h1 : 0 < 1 + lg10 (1 + (n.log2 : Int)) := by unfold lg10; omega
  rw [if_pos h1]
  have hx : fxE (fl (n : Int)) = (n.log2 : Int) - (shN (fl (n : Int)) : Int) - 52 := by unfold fxE; rw [he]
  generalize shN (fl (n : Int)) = s at *
  generalize fxE (fl (n : Int)) = e at *
  generalize mtN (fl (n : Int)) * 2 ^ s = m at *
  have hp : -4 ≤ fwP e (1 + lg10 (1 + (n.log2 : Int))) := by unfold fwP lg10; omega
  obtain ⟨k, hk⟩ : ∃ k : Nat, (1 + lg10 (1 + (n.log2 : Int))).toNat = k := ⟨_, rfl⟩
  have hk2 : 1 + lg10 (1 + (n.log2 : Int)) = (k : Int) := by omega
  rw [hk2] at hp hd ⊢
  rw [Int.toNat_natCast]
  unfold fwI fwX
  rw [if_pos rfl]
  obtain ⟨hu1, hu2⟩ := fwU_sm m e k (T10 (fwP e k)).1 (T10 (fwP e k)).2 (by omega)
  generalize fwU m e k (T10 (fwP e k)).1 (T10 (fwP e k)).2 = u at *
  have hv := (dvN_sm 0 (u.2 - 0).toNat u.1 u.2 hu1).2.2
  simp only
  rcases hu2 with e1 | e1 <;> omega
theorem intF_len (f : Nat → Nat) (dp : Int) (nd : Nat) (h : dp ≤ 30) : (intF f dp nd).length ≤ 30 := by
  unfold intF
  by_cases hd : 0 < dp
  · rw [if_pos hd, List.length_append, List.length_map, List.length_range, List.length_replicate]
    omega
  · rw [if_neg hd]; simp
theorem dgN_len (n : Nat) (h : n < 2 ^ 53) : (dgN n).length ≤ 30 := by
  unfold dgN
  by_cases h0 : n = 0
  · rw [if_pos h0]; decide
  · rw [if_neg h0]
    have hf := ff_fl n (by omega) h
    obtain ⟨h1, h2, h3, h4⟩ := fx_bd T10 (fl (n : Int)) 0 (by have := hf.1; omega) hf.2.1 hf.2.2.1 (dg_fl n (by omega) h) (by omega)
    have h5 := fx_small n (by omega) h
    have e18 : (10 : Nat) ^ 18 = 1000000000000000000 := by decide
    have hn := (nd_bd (d := (fxI T10 (fl (n : Int)) 0).1.toNat) (by omega)).2.1
    unfold ffS outF
    rw [decide_eq_false (by have := hf.1; omega), if_neg (by simp)]
    have hfr : ∀ f dp nd, fracF f dp nd 0 = [] := fun f dp nd => by unfold fracF; rw [if_neg (by omega)]
    rw [hfr, List.nil_append, List.append_nil]
    exact intF_len _ _ _ (by split <;> omega)
/-- one conversion alone -/
theorem one_fm (tl : Cv → Ar → Td) (okt : Cv → Ar → Prop) (l : List UInt8) (c : Cv) (a : Ar) (hl : l.length ≤ 100)
    (ht : txS ((37 :: l).length + 1) (37 :: l) [] = (true, l, [])) (hcv : ∀ ars, cvS cnD l ars = some (c, [], ars))
    (h42 : lookS (fgS l cv0).2 ≠ 42) (h46 : lookS (cntS (fgS l cv0).2 0).2 ≠ 46) (ho : okt c a) (hp : (putS [] c (tl c a)).length ≤ 200) :
    fmS cnD tl 2 (37 :: l) [a] [] = some (putS [] c (tl c a)) ∧ okS cnD (fun l => lookS l ≠ 42) tl okt 2 (37 :: l) [a] [] := by
  have b4 := tx_end (putS [] c (tl c a))
  refine ⟨?_, ?_⟩
  · rw [fmS, ht]
    simp only [if_true, hcv]
    rw [show ([a] : List Ar).headD noAr = a from rfl, fmS, b4]
    simp
  · rw [okS, ht]
    simp only [hcv]
    refine ⟨by simp; omega, by decide, by decide, fun _ => ⟨h42, fun e => absurd e h46, ho, ?_⟩⟩
    rw [show ([a] : List Ar).headD noAr = a from rfl, okS, b4]
    exact ⟨by decide, by omega, by show (putS [] c (tl c a)).length ≤ 257; omega, fun e => by cases e⟩
/-- what is put to the right -/
theorem put_right (w k : Nat) (t : Td) (hw : w < 60) (ht : t.sign.length + t.body.length ≤ 100) : putS [] (wdC false w k) t = List.replicate (w - (t.sign.length + t.body.length)) 32 ++ (t.sign ++ t.body) := by
  have hf : (fillN (wdC false w k) t).toNat = w - (t.sign.length + t.body.length) := by unfold fillN wdC; simp only; omega
  unfold putS
  rw [hf]
  rw [if_neg (by simp [wdC])]
  by_cases h0 : w = 0
  · subst h0
    have e : 0 - (t.sign.length + t.body.length) = 0 := by omega
    rw [e]
    split
    all_goals rw [add_all _ _ (by simp [addS]; try omega)]
    all_goals (try rw [add_all _ _ (by simp [addS]; try omega)])
    all_goals (try rw [add_all _ _ (by simp; try omega)])
    all_goals simp
  · rw [if_neg (by simp [wdC, h0])]
    rw [add_all [] _ (by simp; omega), add_all _ t.sign (by simp; omega), add_all _ t.body (by simp; omega)]
    simp
/-- what is put to the left -/
theorem put_left (w k : Nat) (t : Td) (hw : w < 60) (ht : t.sign.length + t.body.length ≤ 100) : putS [] (wdC true w k) t = t.sign ++ t.body ++ List.replicate (w - (t.sign.length + t.body.length)) 32 := by
  have hf : (fillN (wdC true w k) t).toNat = w - (t.sign.length + t.body.length) := by unfold fillN wdC; simp only; omega
  unfold putS
  rw [hf]
  rw [if_pos (by simp [wdC])]
  rw [add_all [] _ (by simp; omega), add_all _ t.body (by simp; omega), add_all _ (List.replicate _ 32) (by simp; omega)]
  simp

end Go.Proofs.YtgejeocojmpdjabGreatDoor.pf

namespace Go.Proofs.YtgejeocojmpdjabGreatDoor.pf
open Go.RowKit Go.Lib Go.Proofs.YtgejeocojmpdjabGreatDoor.sum Go.Proofs.YtgejeocojmpdjabGreatDoor.kept Go.Proofs.YtgejeocojmpdjabGreatDoor.app Go.Proofs.YtgejeocojmpdjabGreatDoor.writer Go.Proofs.YtgejeocojmpdjabGreatDoor.known Go.Proofs.YtgejeocojmpdjabGreatDoor.str Go.Proofs.YtgejeocojmpdjabGreatDoor.fmtf Go.Proofs.YtgejeocojmpdjabGreatDoor.fl
set_option linter.unusedVariables false

def bdZ (z : Int) : Td := ⟨if z < 0 then [45] else [], dgN z.natAbs, true⟩
def tlZ (z : Int) (t : List UInt8) (c : Cv) (x : Ar) : Td := if c.letter = 100 then bdZ z else ⟨[], t, false⟩
def arZ (z : Int) : Ar := ⟨fl z, [], true⟩
def arT (t : List UInt8) : Ar := ⟨0, t, false⟩
def oktZ (z : Int) (t : List UInt8) (c : Cv) (x : Ar) : Prop := (∃ lf w, w < 60 ∧ c = wdC lf w 100 ∧ x = arZ z) ∨ (∃ w, w < 60 ∧ c = wdC false w 115 ∧ x = arT t)
theorem bdZ_all (z : Int) : (bdZ z).sign ++ (bdZ z).body = dgZ z := by
  unfold bdZ dgZ
  simp only
  split <;> rfl
theorem bdZ_len (z : Int) (hz : Small z) : (bdZ z).sign.length + (bdZ z).body.length = (dgZ z).length ∧ (dgZ z).length ≤ 31 ∧ 0 < (dgZ z).length := by
  have h1 := dgN_len z.natAbs hz
  have h2 := (dgN_pos z.natAbs hz).2.2
  unfold bdZ dgZ
  simp only
  split <;> simp <;> omega
theorem whole_Z (lf : Bool) (w : Nat) (z : Int) (hz : Small z) : wholeS (wdC lf w 100) (Lib.trimPrefix (dgZ z) [45]) (Lib.hasPrefix (dgZ z) [45]) = bdZ z := by
  have hp := dgN_pre z.natAbs hz
  have hn : ∀ d : List UInt8, noughtsS (-1) d = d := fun d => by
    unfold noughtsS
    have e : max (-1 - (d.length : Int)) 0 = 0 := by omega
    rw [e]
    rfl
  unfold dgZ bdZ wholeS signS wdC
  by_cases h0 : z < 0
  · have e2 : Lib.hasPrefix (45 :: dgN z.natAbs) [45] = true := by show List.isPrefixOf [45] (45 :: dgN z.natAbs) = true; simp [List.isPrefixOf]
    have e1 : Lib.trimPrefix (45 :: dgN z.natAbs) [45] = dgN z.natAbs := by unfold Lib.trimPrefix; simp [e2]
    simp only [h0, if_true, e1, e2, hn, decide_true]
  · simp only [h0, if_false, hp.1, hp.2, hn, Bool.false_eq_true, ite_self, decide_true]
theorem tlZ_ok (w : World) (h : Ld w) (z : Int) (hz : Small z) (t : List UInt8) (ht : t.length ≤ 40) : TlC (tlZ z t) (oktZ z t) w := by
  have hb := bdZ_len z hz
  rintro c x (⟨lf, k, hk, rfl, rfl⟩ | ⟨k, hk, rfl, rfl⟩)
  · have e : tlZ z t (wdC lf k 100) (arZ z) = bdZ z := rfl
    rw [e]
    refine ⟨⟨by simp [wdC] <;> omega, by simp [wdC]; omega, by omega, by omega⟩, fun W hk2 => ?_⟩
    have := tell_d W lf false false (decide (k = 0)) (k : Int) (-1) (arZ z) (dgZ z) (by omega) (fun W' hk' => dgZ_any W' ((h.no hk2).no hk') z hz) (fin_fl _ hz) (by decide) (by decide)
    rw [show (⟨lf, false, false, decide (k = 0), (k : Int), -1, 100⟩ : Cv) = wdC lf k 100 from rfl, whole_Z lf k z hz] at this
    exact this
  · have e : tlZ z t (wdC false k 115) (arT t) = ⟨[], t, false⟩ := rfl
    rw [e]
    refine ⟨⟨by simp [wdC] <;> omega, by simp [wdC]; omega, by simp, by show t.length ≤ 1000000; omega⟩, fun W hk2 => ?_⟩
    have := tell_s W false false false (decide (k = 0)) (k : Int) (-1) (arT t) (by show t.length ≤ _; omega) (by decide) (by decide)
    exact this
/-- filled up to a width, to the right, to the left -/
def rtL (w : Nat) (l : List UInt8) : List UInt8 := List.replicate (w - l.length) 32 ++ l
def lfL (w : Nat) (l : List UInt8) : List UInt8 := l ++ List.replicate (w - l.length) 32
theorem wdL_len : ∀ w : Fin 60, (wdL w.val).length ≤ 2 := by decide +kernel
theorem res_small (l : List UInt8) (h : l.length ≤ 200) : resS (some l) = (l, 0) := by
  unfold resS
  simp only
  rw [if_neg (by omega)]
theorem fmt_d (W : World) (h : Ld W) (z : Int) (hz : Small z) (w : Nat) (hw : w < 60) (A : Value) (hA : ArgsAt W A [arZ z]) : Calls Tryz.prog 10 #[.string (⟨#[37]⟩ ++ st (wdL w) ++ ⟨#[100]⟩), A] W fun e w' => e = .returned (.tuple #[.string (st (rtL w (dgZ z))), .int .i64 0]) ∧ Kp No W w' := by
  have hb := bdZ_len z hz
  have hwl := wdL_len ⟨w, hw⟩
  have hp : putS [] (wdC false w 100) (bdZ z) = rtL w (dgZ z) := by rw [put_right w 100 (bdZ z) hw (by omega), bdZ_all, hb.1]; rfl
  have hl : (rtL w (dgZ z)).length ≤ 200 := by unfold rtL; simp; omega
  have ho := ok_d ⟨w, hw⟩
  have ht := tx_d ⟨w, hw⟩
  have hf := one_fm (tlZ z []) (oktZ z []) ([] ++ wdL w ++ [100]) (wdC false w 100) (arZ z) (by simp; simp at hwl; omega) ht (cv_d w hw) ho.1 ho.2 (.inl ⟨false, w, hw, rfl, rfl⟩) (by show (putS [] (wdC false w 100) (bdZ z)).length ≤ 200; rw [hp]; exact hl)
  have hF := format_any W (37 :: ([] ++ wdL w ++ [100])) A [arZ z] hA cnD _ cnt_digits (tlZ z []) (oktZ z []) (tlZ_ok W h z hz [] (by decide)) 2 hf.2
  rw [hf.1, show tlZ z [] (wdC false w 100) (arZ z) = bdZ z from rfl, hp] at hF
  unfold FmPost at hF
  rw [res_small _ hl] at hF
  have e : st (37 :: ([] ++ wdL w ++ [100])) = ⟨#[37]⟩ ++ st (wdL w) ++ ⟨#[100]⟩ := by
    show st ([37] ++ wdL w ++ [100]) = _
    rw [← st_add, ← st_add]; rfl
  rw [e] at hF
  exact hF
theorem fmt_l (W : World) (h : Ld W) (z : Int) (hz : Small z) (w : Nat) (hw : w < 60) (A : Value) (hA : ArgsAt W A [arZ z]) : Calls Tryz.prog 10 #[.string (⟨#[37, 45]⟩ ++ st (wdL w) ++ ⟨#[100]⟩), A] W fun e w' => e = .returned (.tuple #[.string (st (lfL w (dgZ z))), .int .i64 0]) ∧ Kp No W w' := by
  have hb := bdZ_len z hz
  have hwl := wdL_len ⟨w, hw⟩
  have hp : putS [] (wdC true w 100) (bdZ z) = lfL w (dgZ z) := by rw [put_left w 100 (bdZ z) hw (by omega), bdZ_all, hb.1]; rfl
  have hl : (lfL w (dgZ z)).length ≤ 200 := by unfold lfL; simp; omega
  have ho := ok_l ⟨w, hw⟩
  have ht := tx_l ⟨w, hw⟩
  have hf := one_fm (tlZ z []) (oktZ z []) ([45] ++ wdL w ++ [100]) (wdC true w 100) (arZ z) (by simp; simp at hwl; omega) ht (cv_l w hw) ho.1 ho.2 (.inl ⟨true, w, hw, rfl, rfl⟩) (by show (putS [] (wdC true w 100) (bdZ z)).length ≤ 200; rw [hp]; exact hl)
  have hF := format_any W (37 :: ([45] ++ wdL w ++ [100])) A [arZ z] hA cnD _ cnt_digits (tlZ z []) (oktZ z []) (tlZ_ok W h z hz [] (by decide)) 2 hf.2
  rw [hf.1, show tlZ z [] (wdC true w 100) (arZ z) = bdZ z from rfl, hp] at hF
  unfold FmPost at hF
  rw [res_small _ hl] at hF
  have e : st (37 :: ([45] ++ wdL w ++ [100])) = ⟨#[37, 45]⟩ ++ st (wdL w) ++ ⟨#[100]⟩ := by
    show st ([37, 45] ++ wdL w ++ [100]) = _
    rw [← st_add, ← st_add]; rfl
  rw [e] at hF
  exact hF
theorem fmt_s (W : World) (h : Ld W) (t : List UInt8) (hl40 : t.length ≤ 40) (w : Nat) (hw : w < 60) (A : Value) (hA : ArgsAt W A [arT t]) : Calls Tryz.prog 10 #[.string (⟨#[37]⟩ ++ st (wdL w) ++ ⟨#[115]⟩), A] W fun e w' => e = .returned (.tuple #[.string (st (rtL w t)), .int .i64 0]) ∧ Kp No W w' := by
  have hwl := wdL_len ⟨w, hw⟩
  have h0 : Small 0 := by unfold Small; decide
  have hp : putS [] (wdC false w 115) ⟨[], t, false⟩ = rtL w t := by rw [put_right w 115 ⟨[], t, false⟩ hw (by simp; omega)]; simp [rtL]
  have hl : (rtL w t).length ≤ 200 := by unfold rtL; simp; omega
  have ho := ok_s ⟨w, hw⟩
  have ht := tx_s ⟨w, hw⟩
  have hf := one_fm (tlZ 0 t) (oktZ 0 t) ([] ++ wdL w ++ [115]) (wdC false w 115) (arT t) (by simp; simp at hwl; omega) ht (cv_s w hw) ho.1 ho.2 (.inr ⟨w, hw, rfl, rfl⟩) (by show (putS [] (wdC false w 115) ⟨[], t, false⟩).length ≤ 200; rw [hp]; exact hl)
  have hF := format_any W (37 :: ([] ++ wdL w ++ [115])) A [arT t] hA cnD _ cnt_digits (tlZ 0 t) (oktZ 0 t) (tlZ_ok W h 0 h0 t hl40) 2 hf.2
  rw [hf.1, show tlZ 0 t (wdC false w 115) (arT t) = ⟨[], t, false⟩ from rfl, hp] at hF
  unfold FmPost at hF
  rw [res_small _ hl] at hF
  have e : st (37 :: ([] ++ wdL w ++ [115])) = ⟨#[37]⟩ ++ st (wdL w) ++ ⟨#[115]⟩ := by
    show st ([37] ++ wdL w ++ [115]) = _
    rw [← st_add, ← st_add]; rfl
  rw [e] at hF
  exact hF

end Go.Proofs.YtgejeocojmpdjabGreatDoor.pf

namespace Go.Proofs.YtgejeocojmpdjabGreatDoor.ere
open Go.RowKit Go.Proofs.YtgejeocojmpdjabGreatDoor.sum Go.Proofs.YtgejeocojmpdjabGreatDoor.kept Go.Proofs.YtgejeocojmpdjabGreatDoor.str
set_option linter.unusedVariables false

theorem run_add_str (xs ys : List UInt8) (h : xs.length + ys.length ≤ 1000000000) (W : World) : (Op.stringOp .add ⟨xs.toArray⟩ ⟨ys.toArray⟩).run Tryz.prog W = .ok (.string ⟨(xs ++ ys).toArray⟩) W := by
  have e : (⟨xs.toArray⟩ : ByteArray) ++ ⟨ys.toArray⟩ = ⟨(xs ++ ys).toArray⟩ := by
    apply ByteArray.ext
    simp
  rw [← e]
  refine run_string_add_sum (P := Tryz.prog) (w := W) _ _ ?_
  show xs.toArray.size + ys.toArray.size ≤ _
  simp
  omega

end Go.Proofs.YtgejeocojmpdjabGreatDoor.ere
