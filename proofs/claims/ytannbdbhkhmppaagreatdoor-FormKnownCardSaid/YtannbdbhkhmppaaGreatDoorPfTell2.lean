/- Package printf: what a conversion tells: its letters. -/
import Derived.Test.YtannbdbhkhmppaaGreatDoorPfNumM

namespace Go.Proofs.YtannbdbhkhmppaaGreatDoor.pf
open Go.RowKit Go.Lib Go.Proofs.YtannbdbhkhmppaaGreatDoor.sum Go.Proofs.YtannbdbhkhmppaaGreatDoor.kept Go.Proofs.YtannbdbhkhmppaaGreatDoor.app Go.Proofs.YtannbdbhkhmppaaGreatDoor.writer Go.Proofs.YtannbdbhkhmppaaGreatDoor.known Go.Proofs.YtannbdbhkhmppaaGreatDoor.str Go.Proofs.YtannbdbhkhmppaaGreatDoor.fmtf
set_option linter.unusedVariables false
attribute [local go_sem] run_store_float'

/-- the three boxes of tell -/
structure TlM (W : World) (Cb Ab Tb : Nat) (c : Cv) (x : Ar) : Prop where
  cv : CvAt W Cb c
  ar : B3 W Ab (.float .f64 x.n) (.string (st x.s)) (.bool x.num)
  td : B3 W Tb (.string ⟨#[]⟩) (.string ⟨#[]⟩) (.bool false)
theorem B3.kept {S : Nat → Prop} {W W' : World} {b : Nat} {x0 x1 x2 : Value} (h : B3 W b x0 x1 x2) (hk : Kp S W W') (hb : ¬ S b) : B3 W' b x0 x1 x2 :=
  ⟨hk.cell' h.c0 hb, hk.cell' h.c1 hb, hk.cell' h.c2 hb, fun i => (hk.frozen (p := ⟨b, i, none⟩) (World.block_lt_of_cell? W ⟨b, 0, none⟩ h.c0) hb).trans (h.warm i)⟩
theorem TlM.no {W W' : World} {Cb Ab Tb : Nat} {c : Cv} {x : Ar} (h : TlM W Cb Ab Tb c x) (hk : Kp No W W') : TlM W' Cb Ab Tb c x := ⟨h.cv.no2 hk, h.ar.no hk, h.td.no hk⟩

set_option maxRecDepth 100000 in
set_option maxHeartbeats 2000000 in
theorem float_f (w : World) (cl cp cbk cno : Bool) (cw cpr : Int) (b : Nat) (S : List UInt8) (hp : 0 ≤ cpr) (hc : ∀ W, Kp No w W → Calls Tryz.prog 32 #[.float .f64 b, .int .u8 102, .int .i64 cpr, .int .i64 64] W (TxPost W S)) :
    Calls Tryz.prog 30 #[.agg #[.bool cl, .bool cp, .bool cbk, .bool cno, .int .i64 cw, .int .i64 cpr, .int .u8 102], .float .f64 b] w (TxK w S) := by
  have HC := Hid_mk hc
  have hne : (cpr == -1) = false := by simp; omega
  clear hc
  go_enter Tryz.func30, Tryz.ntmps30
  go_upto_region 1 with fail
  obtain ⟨W1, hW1, hk1, hz1⟩ := named_alloc w (.cells #[.bool cl, .bool cp, .bool cbk, .bool cno, .int .i64 cw, .int .i64 cpr, .int .u8 102] 36)
  have hcv : CvAt W1 w.heap.size ⟨cl, cp, cbk, cno, cw, cpr, 102⟩ := by rw [← hW1]; exact CvAt.new w ⟨cl, cp, cbk, cno, cw, cpr, 102⟩ 36
  rw [hW1]
  obtain ⟨Cb, hCb⟩ : ∃ Cb, w.heap.size = Cb := ⟨_, rfl⟩
  rw [hCb] at hcv ⊢
  obtain ⟨d0, d1, d2, d3, d4, d5, d6, d7⟩ := hcv
  have HK := Hid_mk hk1
  have d6 : W1.cell? ⟨Cb, 6, none⟩ = some (.int .u8 102) := d6
  simp only at d5
  clear hW1 hk1 hz1 hCb d0 d1 d2 d3 d4 d7
  go_region
  all_goals go_wp2_with fail
  all_goals with_reducible refine (HC.out _ (HK.out.trans' (Kp.refl No W1).drew)).mono ?_
  all_goals rintro e w2 ⟨rfl, hk2⟩
  all_goals have HK2 := Hid_mk ((HK.out.trans' (Kp.refl No W1).drew).trans' hk2)
  all_goals clear hk2
  all_goals go_wp2
  all_goals go_ret
  all_goals exact ⟨rfl, HK2.out⟩

set_option maxRecDepth 100000 in
set_option maxHeartbeats 4000000 in
theorem tell_c (w : World) (cl cp cbk cno : Bool) (cw cpr : Int) (x : Ar) (S : List UInt8) (hc : ∀ W, Calls Tryz.prog 23 #[arV x] W (TxK W S)) :
    Calls Tryz.prog 11 #[.agg #[.bool cl, .bool cp, .bool cbk, .bool cno, .int .i64 cw, .int .i64 cpr, .int .u8 99], arV x] w (TdPost w ((⟨[], S, false⟩ : Td))) := by
  obtain ⟨R, hR⟩ : ∃ R, (⟨[], S, false⟩ : Td) = R := ⟨_, rfl⟩
  rw [hR]
  have HR := Hid_mk hR
  have HC := Hid_mk hc
  clear hc
  unfold TxK at HC
  obtain ⟨W1, hW1, hk1, hz1⟩ := named_alloc w (.cells #[.bool cl, .bool cp, .bool cbk, .bool cno, .int .i64 cw, .int .i64 cpr, .int .u8 99] 36)
  obtain ⟨Cb, hCb⟩ : ∃ Cb, w.heap.size = Cb := ⟨_, rfl⟩
  have hcv : CvAt W1 Cb ⟨cl, cp, cbk, cno, cw, cpr, 99⟩ := by rw [← hW1, ← hCb]; exact CvAt.new w ⟨cl, cp, cbk, cno, cw, cpr, 99⟩ 36
  obtain ⟨n, s, k⟩ := x
  obtain ⟨W2, hW2, hk2, hz2⟩ := named_alloc W1 (.cells #[.float .f64 n, .string (st s), .bool k] 27)
  have har := B3.new W1 (.float .f64 n) (.string (st s)) (.bool k) 27
  rw [hCb] at hz1
  rw [hz1] at hz2
  obtain ⟨Ab, hAb⟩ : ∃ Ab, Cb + 1 = Ab := ⟨_, rfl⟩
  rw [hW2, hz1, hAb] at har
  obtain ⟨W3, hW3, hk3, hz3⟩ := named_alloc W2 (.cells #[.string ⟨#[]⟩, .string ⟨#[]⟩, .bool false] 41)
  have htd := B3.new W2 (.string ⟨#[]⟩) (.string ⟨#[]⟩) (.bool false) 41
  obtain ⟨Tb, hTb⟩ : ∃ Tb, Cb + 1 + 1 = Tb := ⟨_, rfl⟩
  rw [hW3, hz2, hTb] at htd
  have HM : Hid (TlM W3 Cb Ab Tb ⟨cl, cp, cbk, cno, cw, cpr, 99⟩ ⟨n, s, k⟩) := Hid_mk ⟨(hcv.no2 hk2).no2 hk3, har.no hk3, htd⟩
  have HK := Hid_mk ((hk1.trans' hk2).trans' hk3)
  have HT := Hid_mk (show ¬ Tb < w.heap.size by omega)
  have hca : Cb ≠ Ab := by omega
  have hct : Cb ≠ Tb := by omega
  have hat : Ab ≠ Tb := by omega
  have HZ1 := Hid_mk (show W1.heap.size = Ab by omega)
  have HZ2 := Hid_mk (show W2.heap.size = Tb by omega)
  simp only [arV]
  clear hR hk1 hk2 hk3 hz1 hz2 hz3 hcv har htd
  go_enter Tryz.func11, Tryz.ntmps11
  go_upto_region 1 with fail
  rw [HZ1.out, HZ2.out]
  clear hW1 hW2 hW3 hCb hAb hTb
  obtain ⟨⟨d0, d1, d2, d3, d4, d5, d6, d7⟩, ⟨a0, a1, a2, a3⟩, ⟨r0, r1, r2, r3⟩⟩ := HM.out
  simp only at d0 d1 d2 d3 d4 d5 d6 a0 a1 a2
  have d6 : _ = some (Value.int .u8 99) := d6
  go_wp2_with fail
  with_reducible refine (HC.out _).mono ?_
  rintro e w4 ⟨rfl, hkk⟩
  have HM := Hid_mk (HM.out.no hkk)
  have HK := Hid_mk (HK.out.trans' hkk)
  clear hkk
  clear d0 d1 d2 d3 d4 d5 d6 d7 a0 a1 a2 a3 r0 r1 r2 r3
  obtain ⟨⟨d0, d1, d2, d3, d4, d5, d6, d7⟩, ⟨a0, a1, a2, a3⟩, ⟨r0, r1, r2, r3⟩⟩ := HM.out
  simp only at d0 d1 d2 d3 d4 d5 d6 a0 a1 a2
  have d6 : _ = some (Value.int .u8 99) := d6
  go_wp2
  refine bodyPost_ret (v := .agg #[.string (⟨#[]⟩), .string (st S), .bool (false)]) ?_ rfl ?_
  · simp [results, Tryz.results11, go_sem, r0, r1, r2]
  · rw [← HR.out]
    exact ⟨rfl, ((HK.out.setCell (p := ⟨Tb, 0, none⟩) (fun e => absurd e HT.out) _).setCell (p := ⟨Tb, 1, none⟩) (fun e => absurd e HT.out) _).setCell (p := ⟨Tb, 2, none⟩) (fun e => absurd e HT.out) _⟩

set_option maxRecDepth 100000 in
set_option maxHeartbeats 4000000 in
theorem tell_s (w : World) (cl cp cbk cno : Bool) (cw cpr : Int) (x : Ar) (hs : x.s.length ≤ 140737488355327) (hp : -1 ≤ cpr) (hp2 : cpr ≤ 1000) :
    Calls Tryz.prog 11 #[.agg #[.bool cl, .bool cp, .bool cbk, .bool cno, .int .i64 cw, .int .i64 cpr, .int .u8 115], arV x] w (TdPost w ((⟨[], cutP cpr x.s, false⟩ : Td))) := by
  obtain ⟨R, hR⟩ : ∃ R, (⟨[], cutP cpr x.s, false⟩ : Td) = R := ⟨_, rfl⟩
  rw [hR]
  have HR := Hid_mk hR
  have HC : Hid (∀ W, Calls Tryz.prog 24 #[.agg #[.bool cl, .bool cp, .bool cbk, .bool cno, .int .i64 cw, .int .i64 cpr, .int .u8 115], .string (st x.s)] W fun e w' => e = .returned (.string (st (cutP cpr x.s))) ∧ Kp No W w') := Hid_mk fun W => cut_any W ⟨cl, cp, cbk, cno, cw, cpr, 115⟩ x.s hs hp hp2
  clear hs
  obtain ⟨W1, hW1, hk1, hz1⟩ := named_alloc w (.cells #[.bool cl, .bool cp, .bool cbk, .bool cno, .int .i64 cw, .int .i64 cpr, .int .u8 115] 36)
  obtain ⟨Cb, hCb⟩ : ∃ Cb, w.heap.size = Cb := ⟨_, rfl⟩
  have hcv : CvAt W1 Cb ⟨cl, cp, cbk, cno, cw, cpr, 115⟩ := by rw [← hW1, ← hCb]; exact CvAt.new w ⟨cl, cp, cbk, cno, cw, cpr, 115⟩ 36
  obtain ⟨n, s, k⟩ := x
  obtain ⟨W2, hW2, hk2, hz2⟩ := named_alloc W1 (.cells #[.float .f64 n, .string (st s), .bool k] 27)
  have har := B3.new W1 (.float .f64 n) (.string (st s)) (.bool k) 27
  rw [hCb] at hz1
  rw [hz1] at hz2
  obtain ⟨Ab, hAb⟩ : ∃ Ab, Cb + 1 = Ab := ⟨_, rfl⟩
  rw [hW2, hz1, hAb] at har
  obtain ⟨W3, hW3, hk3, hz3⟩ := named_alloc W2 (.cells #[.string ⟨#[]⟩, .string ⟨#[]⟩, .bool false] 41)
  have htd := B3.new W2 (.string ⟨#[]⟩) (.string ⟨#[]⟩) (.bool false) 41
  obtain ⟨Tb, hTb⟩ : ∃ Tb, Cb + 1 + 1 = Tb := ⟨_, rfl⟩
  rw [hW3, hz2, hTb] at htd
  have HM : Hid (TlM W3 Cb Ab Tb ⟨cl, cp, cbk, cno, cw, cpr, 115⟩ ⟨n, s, k⟩) := Hid_mk ⟨(hcv.no2 hk2).no2 hk3, har.no hk3, htd⟩
  have HK := Hid_mk ((hk1.trans' hk2).trans' hk3)
  have HT := Hid_mk (show ¬ Tb < w.heap.size by omega)
  have hca : Cb ≠ Ab := by omega
  have hct : Cb ≠ Tb := by omega
  have hat : Ab ≠ Tb := by omega
  have HZ1 := Hid_mk (show W1.heap.size = Ab by omega)
  have HZ2 := Hid_mk (show W2.heap.size = Tb by omega)
  simp only [arV]
  clear hR hk1 hk2 hk3 hz1 hz2 hz3 hcv har htd
  go_enter Tryz.func11, Tryz.ntmps11
  go_upto_region 1 with fail
  rw [HZ1.out, HZ2.out]
  clear hW1 hW2 hW3 hCb hAb hTb
  obtain ⟨⟨d0, d1, d2, d3, d4, d5, d6, d7⟩, ⟨a0, a1, a2, a3⟩, ⟨r0, r1, r2, r3⟩⟩ := HM.out
  simp only at d0 d1 d2 d3 d4 d5 d6 a0 a1 a2
  have d6 : _ = some (Value.int .u8 115) := d6
  go_wp2_with fail
  with_reducible refine (HC.out _).mono ?_
  rintro e w4 ⟨rfl, hkk⟩
  have HM := Hid_mk (HM.out.no hkk)
  have HK := Hid_mk (HK.out.trans' hkk)
  clear hkk
  clear d0 d1 d2 d3 d4 d5 d6 d7 a0 a1 a2 a3 r0 r1 r2 r3
  obtain ⟨⟨d0, d1, d2, d3, d4, d5, d6, d7⟩, ⟨a0, a1, a2, a3⟩, ⟨r0, r1, r2, r3⟩⟩ := HM.out
  simp only at d0 d1 d2 d3 d4 d5 d6 a0 a1 a2
  have d6 : _ = some (Value.int .u8 115) := d6
  go_wp2
  refine bodyPost_ret (v := .agg #[.string (⟨#[]⟩), .string (st (cutP cpr s)), .bool (false)]) ?_ rfl ?_
  · simp [results, Tryz.results11, go_sem, r0, r1, r2]
  · rw [← HR.out]
    exact ⟨rfl, ((HK.out.setCell (p := ⟨Tb, 0, none⟩) (fun e => absurd e HT.out) _).setCell (p := ⟨Tb, 1, none⟩) (fun e => absurd e HT.out) _).setCell (p := ⟨Tb, 2, none⟩) (fun e => absurd e HT.out) _⟩

set_option maxRecDepth 100000 in
set_option maxHeartbeats 4000000 in
theorem tell_d (w : World) (cl cp cbk cno : Bool) (cw cpr : Int) (x : Ar) (D : List UInt8) (hD : D.length ≤ 10000) (hdg : ∀ W, Kp No w W → Calls Tryz.prog 13 #[.float .f64 x.n] W (TxPost W D)) (hfin : finB x.n = true) (hp : -1 ≤ cpr) (hp2 : cpr ≤ 1000) :
    Calls Tryz.prog 11 #[.agg #[.bool cl, .bool cp, .bool cbk, .bool cno, .int .i64 cw, .int .i64 cpr, .int .u8 100], arV x] w (TdPost w (wholeS ⟨cl, cp, cbk, cno, cw, cpr, 100⟩ (Lib.trimPrefix D [45]) (Lib.hasPrefix D [45]))) := by
  obtain ⟨R, hR⟩ : ∃ R, wholeS ⟨cl, cp, cbk, cno, cw, cpr, 100⟩ (Lib.trimPrefix D [45]) (Lib.hasPrefix D [45]) = R := ⟨_, rfl⟩
  rw [hR]
  have HR := Hid_mk hR
  have HDg : Hid (∀ W, Kp No w W → Calls Tryz.prog 13 #[.float .f64 x.n] W fun e w' => e = .returned (.string (st D)) ∧ Kp No W w') := Hid_mk hdg
  have HCp : Hid (∀ W, Calls Tryz.prog 25 #[.string (st D), .string ⟨#[45]⟩] W fun e w' => e = .returned (.tuple #[.string (st (Lib.trimPrefix D [45])), .bool (Lib.hasPrefix D [45])]) ∧ w' = W) := Hid_mk fun W => by
    have := Tryz.strings_CutPrefix (st D) ⟨#[45]⟩ W
    simp only [st_data] at this
    exact this
  have HFn : Hid (∀ W, Calls Tryz.prog 15 #[.float .f64 x.n] W fun e w' => e = .returned (.bool true) ∧ W = w') := Hid_mk fun W => by
    have := finite_any W x.n
    rw [hfin] at this
    exact this
  have htl : (Lib.trimPrefix D [45]).length ≤ 10000 := by
    unfold Lib.trimPrefix
    split
    · rw [List.length_drop]; omega
    · exact hD
  obtain ⟨d1, hd1⟩ : ∃ d1, Lib.trimPrefix D [45] = d1 := ⟨_, rfl⟩
  obtain ⟨ng, hng⟩ : ∃ ng, Lib.hasPrefix D [45] = ng := ⟨_, rfl⟩
  simp only [hd1, hng] at HCp hR
  rw [hd1] at htl
  obtain ⟨⟨sg, bd, fl⟩, hwh⟩ : ∃ t, wholeS ⟨cl, cp, cbk, cno, cw, cpr, 100⟩ d1 ng = t := ⟨_, rfl⟩
  rw [hwh] at hR
  have HR := Hid_mk hR
  have HWh : Hid (∀ W, Calls Tryz.prog 27 #[.agg #[.bool cl, .bool cp, .bool cbk, .bool cno, .int .i64 cw, .int .i64 cpr, .int .u8 100], .string (st d1), .bool ng] W fun e w' => e = .returned (.agg #[.string (st sg), .string (st bd), .bool fl]) ∧ Kp No W w') := Hid_mk fun W => by
    have h := whole_any W ⟨cl, cp, cbk, cno, cw, cpr, 100⟩ d1 ng (by show 100 < 256; omega) (by omega) hp hp2
    unfold TdPost at h
    rw [hwh] at h
    exact h
  clear hdg hfin htl hd1 hng hp hp2 hD hwh

  obtain ⟨W1, hW1, hk1, hz1⟩ := named_alloc w (.cells #[.bool cl, .bool cp, .bool cbk, .bool cno, .int .i64 cw, .int .i64 cpr, .int .u8 100] 36)
  obtain ⟨Cb, hCb⟩ : ∃ Cb, w.heap.size = Cb := ⟨_, rfl⟩
  have hcv : CvAt W1 Cb ⟨cl, cp, cbk, cno, cw, cpr, 100⟩ := by rw [← hW1, ← hCb]; exact CvAt.new w ⟨cl, cp, cbk, cno, cw, cpr, 100⟩ 36
  obtain ⟨n, s, k⟩ := x
  obtain ⟨W2, hW2, hk2, hz2⟩ := named_alloc W1 (.cells #[.float .f64 n, .string (st s), .bool k] 27)
  have har := B3.new W1 (.float .f64 n) (.string (st s)) (.bool k) 27
  rw [hCb] at hz1
  rw [hz1] at hz2
  obtain ⟨Ab, hAb⟩ : ∃ Ab, Cb + 1 = Ab := ⟨_, rfl⟩
  rw [hW2, hz1, hAb] at har
  obtain ⟨W3, hW3, hk3, hz3⟩ := named_alloc W2 (.cells #[.string ⟨#[]⟩, .string ⟨#[]⟩, .bool false] 41)
  have htd := B3.new W2 (.string ⟨#[]⟩) (.string ⟨#[]⟩) (.bool false) 41
  obtain ⟨Tb, hTb⟩ : ∃ Tb, Cb + 1 + 1 = Tb := ⟨_, rfl⟩
  rw [hW3, hz2, hTb] at htd
  have HM : Hid (TlM W3 Cb Ab Tb ⟨cl, cp, cbk, cno, cw, cpr, 100⟩ ⟨n, s, k⟩) := Hid_mk ⟨(hcv.no2 hk2).no2 hk3, har.no hk3, htd⟩
  have HK := Hid_mk ((hk1.trans' hk2).trans' hk3)
  have HT := Hid_mk (show ¬ Tb < w.heap.size by omega)
  have hca : Cb ≠ Ab := by omega
  have hct : Cb ≠ Tb := by omega
  have hat : Ab ≠ Tb := by omega
  have HZ1 := Hid_mk (show W1.heap.size = Ab by omega)
  have HZ2 := Hid_mk (show W2.heap.size = Tb by omega)
  simp only [arV]
  clear hR hk1 hk2 hk3 hz1 hz2 hz3 hcv har htd
  go_enter Tryz.func11, Tryz.ntmps11
  go_upto_region 1 with fail
  rw [HZ1.out, HZ2.out]
  clear hW1 hW2 hW3 hCb hAb hTb
  obtain ⟨⟨d0, d1, d2, d3, d4, d5, d6, d7⟩, ⟨a0, a1, a2, a3⟩, ⟨r0, r1, r2, r3⟩⟩ := HM.out
  simp only at d0 d1 d2 d3 d4 d5 d6 a0 a1 a2
  have d6 : _ = some (Value.int .u8 100) := d6
  go_wp2_with fail
  with_reducible refine (HDg.out _ HK.out).mono ?_
  rintro e w4 ⟨rfl, hkk⟩
  have HM := Hid_mk (HM.out.no hkk)
  have HK := Hid_mk (HK.out.trans' hkk)
  clear hkk
  clear d0 d1 d2 d3 d4 d5 d6 d7 a0 a1 a2 a3 r0 r1 r2 r3
  obtain ⟨⟨d0, d1, d2, d3, d4, d5, d6, d7⟩, ⟨a0, a1, a2, a3⟩, ⟨r0, r1, r2, r3⟩⟩ := HM.out
  simp only at d0 d1 d2 d3 d4 d5 d6 a0 a1 a2
  have d6 : _ = some (Value.int .u8 100) := d6
  go_wp2_with fail
  with_reducible refine (HCp.out _).mono ?_
  rintro e w9 ⟨rfl, rfl⟩
  go_wp2_with fail
  with_reducible refine (HFn.out _).mono ?_
  rintro e w9 ⟨rfl, rfl⟩
  go_wp2_with fail
  with_reducible refine (HWh.out _).mono ?_
  rintro e w5 ⟨rfl, hkk⟩
  have HM := Hid_mk (HM.out.no hkk)
  have HK := Hid_mk (HK.out.trans' hkk)
  clear hkk
  clear d0 d1 d2 d3 d4 d5 d6 d7 a0 a1 a2 a3 r0 r1 r2 r3
  obtain ⟨⟨d0, d1, d2, d3, d4, d5, d6, d7⟩, ⟨a0, a1, a2, a3⟩, ⟨r0, r1, r2, r3⟩⟩ := HM.out
  simp only at d0 d1 d2 d3 d4 d5 d6 a0 a1 a2
  have d6 : _ = some (Value.int .u8 100) := d6
  go_wp2
  refine bodyPost_ret (v := .agg #[.string (st sg), .string (st bd), .bool (fl)]) ?_ rfl ?_
  · simp [results, Tryz.results11, go_sem, r0, r1, r2]
  · rw [← HR.out]
    exact ⟨rfl, ((HK.out.setCell (p := ⟨Tb, 0, none⟩) (fun e => absurd e HT.out) _).setCell (p := ⟨Tb, 1, none⟩) (fun e => absurd e HT.out) _).setCell (p := ⟨Tb, 2, none⟩) (fun e => absurd e HT.out) _⟩

set_option maxRecDepth 100000 in
set_option maxHeartbeats 4000000 in
theorem tell_x (w : World) (cl cp cbk cno : Bool) (cw cpr : Int) (x : Ar) (D : List UInt8) (hD : D.length ≤ 10000) (hdg : ∀ W, Kp No w W → Calls Tryz.prog 13 #[.float .f64 x.n] W (TxPost W D)) (hfin : finB x.n = true) (hp : -1 ≤ cpr) (hp2 : cpr ≤ 1000) (E : List UInt8) (hE : E.length ≤ 10000) (hbs : ∀ W, Kp No w W → Calls Tryz.prog 28 #[.float .f64 x.n, .int .i64 16, .string (st (Lib.trimPrefix D [45]))] W (TxK W E)) :
    Calls Tryz.prog 11 #[.agg #[.bool cl, .bool cp, .bool cbk, .bool cno, .int .i64 cw, .int .i64 cpr, .int .u8 120], arV x] w (TdPost w (wholeS ⟨cl, cp, cbk, cno, cw, cpr, 120⟩ E (Lib.hasPrefix D [45]))) := by
  obtain ⟨R, hR⟩ : ∃ R, wholeS ⟨cl, cp, cbk, cno, cw, cpr, 120⟩ E (Lib.hasPrefix D [45]) = R := ⟨_, rfl⟩
  rw [hR]
  have HR := Hid_mk hR
  have HDg : Hid (∀ W, Kp No w W → Calls Tryz.prog 13 #[.float .f64 x.n] W fun e w' => e = .returned (.string (st D)) ∧ Kp No W w') := Hid_mk hdg
  have HCp : Hid (∀ W, Calls Tryz.prog 25 #[.string (st D), .string ⟨#[45]⟩] W fun e w' => e = .returned (.tuple #[.string (st (Lib.trimPrefix D [45])), .bool (Lib.hasPrefix D [45])]) ∧ w' = W) := Hid_mk fun W => by
    have := Tryz.strings_CutPrefix (st D) ⟨#[45]⟩ W
    simp only [st_data] at this
    exact this
  have HFn : Hid (∀ W, Calls Tryz.prog 15 #[.float .f64 x.n] W fun e w' => e = .returned (.bool true) ∧ W = w') := Hid_mk fun W => by
    have := finite_any W x.n
    rw [hfin] at this
    exact this
  have htl : (Lib.trimPrefix D [45]).length ≤ 10000 := by
    unfold Lib.trimPrefix
    split
    · rw [List.length_drop]; omega
    · exact hD
  obtain ⟨d1, hd1⟩ : ∃ d1, Lib.trimPrefix D [45] = d1 := ⟨_, rfl⟩
  obtain ⟨ng, hng⟩ : ∃ ng, Lib.hasPrefix D [45] = ng := ⟨_, rfl⟩
  simp only [hd1, hng] at HCp hR
  rw [hd1] at htl hbs
  obtain ⟨⟨sg, bd, fl⟩, hwh⟩ : ∃ t, wholeS ⟨cl, cp, cbk, cno, cw, cpr, 120⟩ E ng = t := ⟨_, rfl⟩
  rw [hwh] at hR
  have HR := Hid_mk hR
  have HWh : Hid (∀ W, Calls Tryz.prog 27 #[.agg #[.bool cl, .bool cp, .bool cbk, .bool cno, .int .i64 cw, .int .i64 cpr, .int .u8 120], .string (st E), .bool ng] W fun e w' => e = .returned (.agg #[.string (st sg), .string (st bd), .bool fl]) ∧ Kp No W w') := Hid_mk fun W => by
    have h := whole_any W ⟨cl, cp, cbk, cno, cw, cpr, 120⟩ E ng (by show 120 < 256; omega) (by omega) hp hp2
    unfold TdPost at h
    rw [hwh] at h
    exact h
  have HBs : Hid (∀ W, Kp No w W → Calls Tryz.prog 28 #[.float .f64 x.n, .int .i64 16, .string (st d1)] W fun e w' => e = .returned (.string (st E)) ∧ Kp No W w') := Hid_mk hbs
  clear hbs hE hdg hfin htl hd1 hng hp hp2 hD hwh

  obtain ⟨W1, hW1, hk1, hz1⟩ := named_alloc w (.cells #[.bool cl, .bool cp, .bool cbk, .bool cno, .int .i64 cw, .int .i64 cpr, .int .u8 120] 36)
  obtain ⟨Cb, hCb⟩ : ∃ Cb, w.heap.size = Cb := ⟨_, rfl⟩
  have hcv : CvAt W1 Cb ⟨cl, cp, cbk, cno, cw, cpr, 120⟩ := by rw [← hW1, ← hCb]; exact CvAt.new w ⟨cl, cp, cbk, cno, cw, cpr, 120⟩ 36
  obtain ⟨n, s, k⟩ := x
  obtain ⟨W2, hW2, hk2, hz2⟩ := named_alloc W1 (.cells #[.float .f64 n, .string (st s), .bool k] 27)
  have har := B3.new W1 (.float .f64 n) (.string (st s)) (.bool k) 27
  rw [hCb] at hz1
  rw [hz1] at hz2
  obtain ⟨Ab, hAb⟩ : ∃ Ab, Cb + 1 = Ab := ⟨_, rfl⟩
  rw [hW2, hz1, hAb] at har
  obtain ⟨W3, hW3, hk3, hz3⟩ := named_alloc W2 (.cells #[.string ⟨#[]⟩, .string ⟨#[]⟩, .bool false] 41)
  have htd := B3.new W2 (.string ⟨#[]⟩) (.string ⟨#[]⟩) (.bool false) 41
  obtain ⟨Tb, hTb⟩ : ∃ Tb, Cb + 1 + 1 = Tb := ⟨_, rfl⟩
  rw [hW3, hz2, hTb] at htd
  have HM : Hid (TlM W3 Cb Ab Tb ⟨cl, cp, cbk, cno, cw, cpr, 120⟩ ⟨n, s, k⟩) := Hid_mk ⟨(hcv.no2 hk2).no2 hk3, har.no hk3, htd⟩
  have HK := Hid_mk ((hk1.trans' hk2).trans' hk3)
  have HT := Hid_mk (show ¬ Tb < w.heap.size by omega)
  have hca : Cb ≠ Ab := by omega
  have hct : Cb ≠ Tb := by omega
  have hat : Ab ≠ Tb := by omega
  have HZ1 := Hid_mk (show W1.heap.size = Ab by omega)
  have HZ2 := Hid_mk (show W2.heap.size = Tb by omega)
  simp only [arV]
  clear hR hk1 hk2 hk3 hz1 hz2 hz3 hcv har htd
  go_enter Tryz.func11, Tryz.ntmps11
  go_upto_region 1 with fail
  rw [HZ1.out, HZ2.out]
  clear hW1 hW2 hW3 hCb hAb hTb
  obtain ⟨⟨d0, d1, d2, d3, d4, d5, d6, d7⟩, ⟨a0, a1, a2, a3⟩, ⟨r0, r1, r2, r3⟩⟩ := HM.out
  simp only at d0 d1 d2 d3 d4 d5 d6 a0 a1 a2
  have d6 : _ = some (Value.int .u8 120) := d6
  go_wp2_with fail
  with_reducible refine (HDg.out _ HK.out).mono ?_
  rintro e w4 ⟨rfl, hkk⟩
  have HM := Hid_mk (HM.out.no hkk)
  have HK := Hid_mk (HK.out.trans' hkk)
  clear hkk
  clear d0 d1 d2 d3 d4 d5 d6 d7 a0 a1 a2 a3 r0 r1 r2 r3
  obtain ⟨⟨d0, d1, d2, d3, d4, d5, d6, d7⟩, ⟨a0, a1, a2, a3⟩, ⟨r0, r1, r2, r3⟩⟩ := HM.out
  simp only at d0 d1 d2 d3 d4 d5 d6 a0 a1 a2
  have d6 : _ = some (Value.int .u8 120) := d6
  go_wp2_with fail
  with_reducible refine (HCp.out _).mono ?_
  rintro e w9 ⟨rfl, rfl⟩
  go_wp2_with fail
  with_reducible refine (HFn.out _).mono ?_
  rintro e w9 ⟨rfl, rfl⟩
  go_upto_region 17 with fail
  clear d0 d1 d2 d3 d4 d5 d6 d7 a0 a1 a2 a3 r0 r1 r2 r3
  have HM := Hid_mk (HM.out.no (Kp.refl No _).drew)
  have HK := Hid_mk (HK.out.trans' (Kp.refl No _).drew)
  refine wp_region_held_drew (S := fun W => CvAt W Cb ⟨cl, cp, cbk, cno, cw, cpr, 120⟩ ∧ B3 W Ab (.float .f64 n) (.string (st s)) (.bool k)) (by kernel_rfl) (⟨HM.out.cv, HM.out.ar⟩) (fun hHeld => ?_)
  try dsimp only at hHeld
  refine wpAnyH_take (i := 0) (oi := { dst := some 58, op := Op.load 36 (Operand.tmp 2), type := 36, pos := "tell.go:35", after := #[], guard := none }) (v := ?_) rfl (by kernel_rfl) (by kernel_rfl) (by kernel_rfl) (fun _ _ _ h => h) (Or.inl ⟨by rfl, ?_⟩) (by assumption) ?_
  rotate_left 1
  · intro W hSw; (try dsimp only at hSw); (obtain ⟨⟨d0, d1, d2, d3, d4, d5, d6, d7⟩, ⟨a0, a1, a2, a3⟩⟩ := hSw; simp only at d0 d1 d2 d3 d4 d5 d6; have d6 : _ = some (Value.int .u8 120) := d6); go_simp; all_goals (with_reducible rfl)
  try simp only [Act.put, List.setIfInBounds_toArray, List.set_cons_zero, List.set_cons_succ]
  refine wpAnyH_take (i := 1) (oi := { dst := some 59, op := Op.fieldAddr 27 (Operand.tmp 3) 0, type := 0, pos := "tell.go:35", after := #[], guard := none }) (v := ?_) rfl (by kernel_rfl) (by kernel_rfl) (by kernel_rfl) (fun _ _ _ h => h) (Or.inl ⟨by rfl, ?_⟩) (by assumption) ?_
  rotate_left 1
  · intro W hSw; (try dsimp only at hSw); (obtain ⟨⟨d0, d1, d2, d3, d4, d5, d6, d7⟩, ⟨a0, a1, a2, a3⟩⟩ := hSw; simp only at d0 d1 d2 d3 d4 d5 d6; have d6 : _ = some (Value.int .u8 120) := d6); go_simp; all_goals (with_reducible rfl)
  try simp only [Act.put, List.setIfInBounds_toArray, List.set_cons_zero, List.set_cons_succ]
  refine wpAnyH_take (i := 2) (oi := { dst := some 60, op := Op.load 25 (Operand.tmp 59), type := 25, pos := "tell.go:35", after := #[{ on := 1, ground := Ground.data }], guard := none }) (v := ?_) rfl (by kernel_rfl) (by kernel_rfl) (by kernel_rfl) (fun _ _ _ h => h) (Or.inl ⟨by rfl, ?_⟩) (by assumption) ?_
  rotate_left 1
  · intro W hSw; (try dsimp only at hSw); (obtain ⟨⟨d0, d1, d2, d3, d4, d5, d6, d7⟩, ⟨a0, a1, a2, a3⟩⟩ := hSw; simp only at d0 d1 d2 d3 d4 d5 d6; have d6 : _ = some (Value.int .u8 120) := d6); go_simp; all_goals (with_reducible rfl)
  try simp only [Act.put, List.setIfInBounds_toArray, List.set_cons_zero, List.set_cons_succ]
  refine wpAnyH_take (i := 3) (oi := { dst := some 61, op := Op.move (Operand.tmp 5), type := 9, pos := "tell.go:35", after := #[], guard := none }) (v := ?_) rfl (by kernel_rfl) (by kernel_rfl) (by kernel_rfl) (fun _ _ _ h => h) (Or.inl ⟨by rfl, ?_⟩) (by assumption) ?_
  rotate_left 1
  · intro W hSw; (try dsimp only at hSw); (obtain ⟨⟨d0, d1, d2, d3, d4, d5, d6, d7⟩, ⟨a0, a1, a2, a3⟩⟩ := hSw; simp only at d0 d1 d2 d3 d4 d5 d6; have d6 : _ = some (Value.int .u8 120) := d6); go_simp; all_goals (with_reducible rfl)
  try simp only [Act.put, List.setIfInBounds_toArray, List.set_cons_zero, List.set_cons_succ]
  refine wpAnyH_take (i := 5) (oi := { dst := some 63, op := Op.move (Operand.tmp 6), type := 4, pos := "tell.go:35", after := #[], guard := none }) (v := ?_) rfl (by kernel_rfl) (by kernel_rfl) (by kernel_rfl) (fun _ _ _ h => h) (Or.inl ⟨by rfl, ?_⟩) (by assumption) ?_
  rotate_left 1
  · intro W hSw; (try dsimp only at hSw); (obtain ⟨⟨d0, d1, d2, d3, d4, d5, d6, d7⟩, ⟨a0, a1, a2, a3⟩⟩ := hSw; simp only at d0 d1 d2 d3 d4 d5 d6; have d6 : _ = some (Value.int .u8 120) := d6); go_simp; all_goals (with_reducible rfl)
  try simp only [Act.put, List.setIfInBounds_toArray, List.set_cons_zero, List.set_cons_succ]
  refine wpAnyH_ready (rs := [4]) (by kernel_rfl) (by simp) ?_
  refine AllReadyH.cons (o := { dst := some 62, op := Op.call { callee := Callee.value (Operand.func 28), args := #[Operand.tmp 60, Operand.const (Value.int IntKind.i64 16), Operand.tmp 61], argTypes := #[25, 3, 9] }, type := 9, pos := "tell.go:35", after := #[{ on := 2, ground := Ground.data }, { on := 3, ground := Ground.data }], guard := none }) rfl (fun K hK => ?_) AllReadyH.nil
  go_simp
  with_reducible refine (HBs.out _ HK.out).mono ?_
  rintro e w5 ⟨rfl, hkk⟩
  have HM := Hid_mk (HM.out.no hkk)
  have HK := Hid_mk (HK.out.trans' hkk)
  clear hkk
  refine hK _ _ (⟨HM.out.cv, HM.out.ar⟩) (fun hHeld => ?_)
  clear hK K
  try dsimp only at hHeld
  try simp only [Act.put, List.setIfInBounds_toArray, List.set_cons_zero, List.set_cons_succ]
  refine wpAnyH_ready (rs := [6]) (by kernel_rfl) (by simp) ?_
  refine AllReadyH.cons (o := { dst := some 64, op := Op.call { callee := Callee.value (Operand.func 27), args := #[Operand.tmp 58, Operand.tmp 62, Operand.tmp 63], argTypes := #[36, 9, 4] }, type := 41, pos := "tell.go:35", after := #[{ on := 0, ground := Ground.data }, { on := 4, ground := Ground.data }, { on := 5, ground := Ground.data }, { on := 4, ground := Ground.chain }], guard := none }) rfl (fun K hK => ?_) AllReadyH.nil
  go_simp
  with_reducible refine (HWh.out _).mono ?_
  rintro e w6 ⟨rfl, hkk⟩
  have HM := Hid_mk (HM.out.no hkk)
  have HK := Hid_mk (HK.out.trans' hkk)
  clear hkk
  obtain ⟨r0, r1, r2, r3⟩ := HM.out.td
  refine hK _ _ (⟨HM.out.cv, HM.out.ar⟩) (fun hHeld => ?_)
  clear hK K
  try dsimp only at hHeld
  try simp only [Act.put, List.setIfInBounds_toArray, List.set_cons_zero, List.set_cons_succ]
  refine wpAnyH_ready (rs := [7]) (by kernel_rfl) (by simp) ?_
  refine AllReadyH.cons (o := { dst := none, op := Op.store 41 (Operand.tmp 4) (Operand.tmp 64), type := 0, pos := "tell.go:35", after := #[{ on := 6, ground := Ground.data }, { on := 6, ground := Ground.chain }, { on := 0, ground := Ground.phase }, { on := 1, ground := Ground.phase }, { on := 2, ground := Ground.phase }, { on := 3, ground := Ground.phase }, { on := 4, ground := Ground.phase }, { on := 5, ground := Ground.phase }, { on := 6, ground := Ground.phase }], guard := none }) rfl (fun K hK => ?_) AllReadyH.nil
  go_simp
  refine hK _ _ (⟨HM.out.cv.kept ((((Kp.refl (fun k => k = Tb) w6).setCell (p := ⟨Tb, 0, none⟩) (fun _ => rfl) _).setCell (p := ⟨Tb, 1, none⟩) (fun _ => rfl) _).setCell (p := ⟨Tb, 2, none⟩) (fun _ => rfl) _) (fun e => hct e), B3.kept HM.out.ar ((((Kp.refl (fun k => k = Tb) w6).setCell (p := ⟨Tb, 0, none⟩) (fun _ => rfl) _).setCell (p := ⟨Tb, 1, none⟩) (fun _ => rfl) _).setCell (p := ⟨Tb, 2, none⟩) (fun _ => rfl) _) (fun e => hat e)⟩) (fun hHeld => ?_)
  clear hK K
  try dsimp only at hHeld
  try simp only [Act.put, List.setIfInBounds_toArray, List.set_cons_zero, List.set_cons_succ]
  refine wpAnyH_done (by kernel_rfl) ?_ _
  go_wp2
  refine bodyPost_ret (v := .agg #[.string (st sg), .string (st bd), .bool (fl)]) ?_ rfl ?_
  · simp [results, Tryz.results11, go_sem, r0, r1, r2]
  · rw [← HR.out]
    exact ⟨rfl, ((HK.out.setCell (p := ⟨Tb, 0, none⟩) (fun e => absurd e HT.out) _).setCell (p := ⟨Tb, 1, none⟩) (fun e => absurd e HT.out) _).setCell (p := ⟨Tb, 2, none⟩) (fun e => absurd e HT.out) _⟩

set_option maxRecDepth 100000 in
set_option maxHeartbeats 4000000 in
theorem tell_o (w : World) (cl cp cbk cno : Bool) (cw cpr : Int) (x : Ar) (D : List UInt8) (hD : D.length ≤ 10000) (hdg : ∀ W, Kp No w W → Calls Tryz.prog 13 #[.float .f64 x.n] W (TxPost W D)) (hfin : finB x.n = true) (hp : -1 ≤ cpr) (hp2 : cpr ≤ 1000) (E : List UInt8) (hE : E.length ≤ 10000) (hbs : ∀ W, Kp No w W → Calls Tryz.prog 28 #[.float .f64 x.n, .int .i64 8, .string (st (Lib.trimPrefix D [45]))] W (TxK W E)) :
    Calls Tryz.prog 11 #[.agg #[.bool cl, .bool cp, .bool cbk, .bool cno, .int .i64 cw, .int .i64 cpr, .int .u8 111], arV x] w (TdPost w (wholeS ⟨cl, cp, cbk, cno, cw, cpr, 111⟩ E (Lib.hasPrefix D [45]))) := by
  obtain ⟨R, hR⟩ : ∃ R, wholeS ⟨cl, cp, cbk, cno, cw, cpr, 111⟩ E (Lib.hasPrefix D [45]) = R := ⟨_, rfl⟩
  rw [hR]
  have HR := Hid_mk hR
  have HDg : Hid (∀ W, Kp No w W → Calls Tryz.prog 13 #[.float .f64 x.n] W fun e w' => e = .returned (.string (st D)) ∧ Kp No W w') := Hid_mk hdg
  have HCp : Hid (∀ W, Calls Tryz.prog 25 #[.string (st D), .string ⟨#[45]⟩] W fun e w' => e = .returned (.tuple #[.string (st (Lib.trimPrefix D [45])), .bool (Lib.hasPrefix D [45])]) ∧ w' = W) := Hid_mk fun W => by
    have := Tryz.strings_CutPrefix (st D) ⟨#[45]⟩ W
    simp only [st_data] at this
    exact this
  have HFn : Hid (∀ W, Calls Tryz.prog 15 #[.float .f64 x.n] W fun e w' => e = .returned (.bool true) ∧ W = w') := Hid_mk fun W => by
    have := finite_any W x.n
    rw [hfin] at this
    exact this
  have htl : (Lib.trimPrefix D [45]).length ≤ 10000 := by
    unfold Lib.trimPrefix
    split
    · rw [List.length_drop]; omega
    · exact hD
  obtain ⟨d1, hd1⟩ : ∃ d1, Lib.trimPrefix D [45] = d1 := ⟨_, rfl⟩
  obtain ⟨ng, hng⟩ : ∃ ng, Lib.hasPrefix D [45] = ng := ⟨_, rfl⟩
  simp only [hd1, hng] at HCp hR
  rw [hd1] at htl hbs
  obtain ⟨⟨sg, bd, fl⟩, hwh⟩ : ∃ t, wholeS ⟨cl, cp, cbk, cno, cw, cpr, 111⟩ E ng = t := ⟨_, rfl⟩
  rw [hwh] at hR
  have HR := Hid_mk hR
  have HWh : Hid (∀ W, Calls Tryz.prog 27 #[.agg #[.bool cl, .bool cp, .bool cbk, .bool cno, .int .i64 cw, .int .i64 cpr, .int .u8 111], .string (st E), .bool ng] W fun e w' => e = .returned (.agg #[.string (st sg), .string (st bd), .bool fl]) ∧ Kp No W w') := Hid_mk fun W => by
    have h := whole_any W ⟨cl, cp, cbk, cno, cw, cpr, 111⟩ E ng (by show 111 < 256; omega) (by omega) hp hp2
    unfold TdPost at h
    rw [hwh] at h
    exact h
  have HBs : Hid (∀ W, Kp No w W → Calls Tryz.prog 28 #[.float .f64 x.n, .int .i64 8, .string (st d1)] W fun e w' => e = .returned (.string (st E)) ∧ Kp No W w') := Hid_mk hbs
  clear hbs hE hdg hfin htl hd1 hng hp hp2 hD hwh

  obtain ⟨W1, hW1, hk1, hz1⟩ := named_alloc w (.cells #[.bool cl, .bool cp, .bool cbk, .bool cno, .int .i64 cw, .int .i64 cpr, .int .u8 111] 36)
  obtain ⟨Cb, hCb⟩ : ∃ Cb, w.heap.size = Cb := ⟨_, rfl⟩
  have hcv : CvAt W1 Cb ⟨cl, cp, cbk, cno, cw, cpr, 111⟩ := by rw [← hW1, ← hCb]; exact CvAt.new w ⟨cl, cp, cbk, cno, cw, cpr, 111⟩ 36
  obtain ⟨n, s, k⟩ := x
  obtain ⟨W2, hW2, hk2, hz2⟩ := named_alloc W1 (.cells #[.float .f64 n, .string (st s), .bool k] 27)
  have har := B3.new W1 (.float .f64 n) (.string (st s)) (.bool k) 27
  rw [hCb] at hz1
  rw [hz1] at hz2
  obtain ⟨Ab, hAb⟩ : ∃ Ab, Cb + 1 = Ab := ⟨_, rfl⟩
  rw [hW2, hz1, hAb] at har
  obtain ⟨W3, hW3, hk3, hz3⟩ := named_alloc W2 (.cells #[.string ⟨#[]⟩, .string ⟨#[]⟩, .bool false] 41)
  have htd := B3.new W2 (.string ⟨#[]⟩) (.string ⟨#[]⟩) (.bool false) 41
  obtain ⟨Tb, hTb⟩ : ∃ Tb, Cb + 1 + 1 = Tb := ⟨_, rfl⟩
  rw [hW3, hz2, hTb] at htd
  have HM : Hid (TlM W3 Cb Ab Tb ⟨cl, cp, cbk, cno, cw, cpr, 111⟩ ⟨n, s, k⟩) := Hid_mk ⟨(hcv.no2 hk2).no2 hk3, har.no hk3, htd⟩
  have HK := Hid_mk ((hk1.trans' hk2).trans' hk3)
  have HT := Hid_mk (show ¬ Tb < w.heap.size by omega)
  have hca : Cb ≠ Ab := by omega
  have hct : Cb ≠ Tb := by omega
  have hat : Ab ≠ Tb := by omega
  have HZ1 := Hid_mk (show W1.heap.size = Ab by omega)
  have HZ2 := Hid_mk (show W2.heap.size = Tb by omega)
  simp only [arV]
  clear hR hk1 hk2 hk3 hz1 hz2 hz3 hcv har htd
  go_enter Tryz.func11, Tryz.ntmps11
  go_upto_region 1 with fail
  rw [HZ1.out, HZ2.out]
  clear hW1 hW2 hW3 hCb hAb hTb
  obtain ⟨⟨d0, d1, d2, d3, d4, d5, d6, d7⟩, ⟨a0, a1, a2, a3⟩, ⟨r0, r1, r2, r3⟩⟩ := HM.out
  simp only at d0 d1 d2 d3 d4 d5 d6 a0 a1 a2
  have d6 : _ = some (Value.int .u8 111) := d6
  go_wp2_with fail
  with_reducible refine (HDg.out _ HK.out).mono ?_
  rintro e w4 ⟨rfl, hkk⟩
  have HM := Hid_mk (HM.out.no hkk)
  have HK := Hid_mk (HK.out.trans' hkk)
  clear hkk
  clear d0 d1 d2 d3 d4 d5 d6 d7 a0 a1 a2 a3 r0 r1 r2 r3
  obtain ⟨⟨d0, d1, d2, d3, d4, d5, d6, d7⟩, ⟨a0, a1, a2, a3⟩, ⟨r0, r1, r2, r3⟩⟩ := HM.out
  simp only at d0 d1 d2 d3 d4 d5 d6 a0 a1 a2
  have d6 : _ = some (Value.int .u8 111) := d6
  go_wp2_with fail
  with_reducible refine (HCp.out _).mono ?_
  rintro e w9 ⟨rfl, rfl⟩
  go_wp2_with fail
  with_reducible refine (HFn.out _).mono ?_
  rintro e w9 ⟨rfl, rfl⟩
  go_upto_region 15 with fail
  clear d0 d1 d2 d3 d4 d5 d6 d7 a0 a1 a2 a3 r0 r1 r2 r3
  have HM := Hid_mk (HM.out.no (Kp.refl No _).drew)
  have HK := Hid_mk (HK.out.trans' (Kp.refl No _).drew)
  refine wp_region_held_drew (S := fun W => CvAt W Cb ⟨cl, cp, cbk, cno, cw, cpr, 111⟩ ∧ B3 W Ab (.float .f64 n) (.string (st s)) (.bool k)) (by kernel_rfl) (⟨HM.out.cv, HM.out.ar⟩) (fun hHeld => ?_)
  try dsimp only at hHeld
  refine wpAnyH_take (i := 0) (oi := { dst := some 49, op := Op.load 36 (Operand.tmp 2), type := 36, pos := "tell.go:33", after := #[], guard := none }) (v := ?_) rfl (by kernel_rfl) (by kernel_rfl) (by kernel_rfl) (fun _ _ _ h => h) (Or.inl ⟨by rfl, ?_⟩) (by assumption) ?_
  rotate_left 1
  · intro W hSw; (try dsimp only at hSw); (obtain ⟨⟨d0, d1, d2, d3, d4, d5, d6, d7⟩, ⟨a0, a1, a2, a3⟩⟩ := hSw; simp only at d0 d1 d2 d3 d4 d5 d6; have d6 : _ = some (Value.int .u8 111) := d6); go_simp; all_goals (with_reducible rfl)
  try simp only [Act.put, List.setIfInBounds_toArray, List.set_cons_zero, List.set_cons_succ]
  refine wpAnyH_take (i := 1) (oi := { dst := some 50, op := Op.fieldAddr 27 (Operand.tmp 3) 0, type := 0, pos := "tell.go:33", after := #[], guard := none }) (v := ?_) rfl (by kernel_rfl) (by kernel_rfl) (by kernel_rfl) (fun _ _ _ h => h) (Or.inl ⟨by rfl, ?_⟩) (by assumption) ?_
  rotate_left 1
  · intro W hSw; (try dsimp only at hSw); (obtain ⟨⟨d0, d1, d2, d3, d4, d5, d6, d7⟩, ⟨a0, a1, a2, a3⟩⟩ := hSw; simp only at d0 d1 d2 d3 d4 d5 d6; have d6 : _ = some (Value.int .u8 111) := d6); go_simp; all_goals (with_reducible rfl)
  try simp only [Act.put, List.setIfInBounds_toArray, List.set_cons_zero, List.set_cons_succ]
  refine wpAnyH_take (i := 2) (oi := { dst := some 51, op := Op.load 25 (Operand.tmp 50), type := 25, pos := "tell.go:33", after := #[{ on := 1, ground := Ground.data }], guard := none }) (v := ?_) rfl (by kernel_rfl) (by kernel_rfl) (by kernel_rfl) (fun _ _ _ h => h) (Or.inl ⟨by rfl, ?_⟩) (by assumption) ?_
  rotate_left 1
  · intro W hSw; (try dsimp only at hSw); (obtain ⟨⟨d0, d1, d2, d3, d4, d5, d6, d7⟩, ⟨a0, a1, a2, a3⟩⟩ := hSw; simp only at d0 d1 d2 d3 d4 d5 d6; have d6 : _ = some (Value.int .u8 111) := d6); go_simp; all_goals (with_reducible rfl)
  try simp only [Act.put, List.setIfInBounds_toArray, List.set_cons_zero, List.set_cons_succ]
  refine wpAnyH_take (i := 3) (oi := { dst := some 52, op := Op.move (Operand.tmp 5), type := 9, pos := "tell.go:33", after := #[], guard := none }) (v := ?_) rfl (by kernel_rfl) (by kernel_rfl) (by kernel_rfl) (fun _ _ _ h => h) (Or.inl ⟨by rfl, ?_⟩) (by assumption) ?_
  rotate_left 1
  · intro W hSw; (try dsimp only at hSw); (obtain ⟨⟨d0, d1, d2, d3, d4, d5, d6, d7⟩, ⟨a0, a1, a2, a3⟩⟩ := hSw; simp only at d0 d1 d2 d3 d4 d5 d6; have d6 : _ = some (Value.int .u8 111) := d6); go_simp; all_goals (with_reducible rfl)
  try simp only [Act.put, List.setIfInBounds_toArray, List.set_cons_zero, List.set_cons_succ]
  refine wpAnyH_take (i := 5) (oi := { dst := some 54, op := Op.move (Operand.tmp 6), type := 4, pos := "tell.go:33", after := #[], guard := none }) (v := ?_) rfl (by kernel_rfl) (by kernel_rfl) (by kernel_rfl) (fun _ _ _ h => h) (Or.inl ⟨by rfl, ?_⟩) (by assumption) ?_
  rotate_left 1
  · intro W hSw; (try dsimp only at hSw); (obtain ⟨⟨d0, d1, d2, d3, d4, d5, d6, d7⟩, ⟨a0, a1, a2, a3⟩⟩ := hSw; simp only at d0 d1 d2 d3 d4 d5 d6; have d6 : _ = some (Value.int .u8 111) := d6); go_simp; all_goals (with_reducible rfl)
  try simp only [Act.put, List.setIfInBounds_toArray, List.set_cons_zero, List.set_cons_succ]
  refine wpAnyH_ready (rs := [4]) (by kernel_rfl) (by simp) ?_
  refine AllReadyH.cons (o := { dst := some 53, op := Op.call { callee := Callee.value (Operand.func 28), args := #[Operand.tmp 51, Operand.const (Value.int IntKind.i64 8), Operand.tmp 52], argTypes := #[25, 3, 9] }, type := 9, pos := "tell.go:33", after := #[{ on := 2, ground := Ground.data }, { on := 3, ground := Ground.data }], guard := none }) rfl (fun K hK => ?_) AllReadyH.nil
  go_simp
  with_reducible refine (HBs.out _ HK.out).mono ?_
  rintro e w5 ⟨rfl, hkk⟩
  have HM := Hid_mk (HM.out.no hkk)
  have HK := Hid_mk (HK.out.trans' hkk)
  clear hkk
  refine hK _ _ (⟨HM.out.cv, HM.out.ar⟩) (fun hHeld => ?_)
  clear hK K
  try dsimp only at hHeld
  try simp only [Act.put, List.setIfInBounds_toArray, List.set_cons_zero, List.set_cons_succ]
  refine wpAnyH_ready (rs := [6]) (by kernel_rfl) (by simp) ?_
  refine AllReadyH.cons (o := { dst := some 55, op := Op.call { callee := Callee.value (Operand.func 27), args := #[Operand.tmp 49, Operand.tmp 53, Operand.tmp 54], argTypes := #[36, 9, 4] }, type := 41, pos := "tell.go:33", after := #[{ on := 0, ground := Ground.data }, { on := 4, ground := Ground.data }, { on := 5, ground := Ground.data }, { on := 4, ground := Ground.chain }], guard := none }) rfl (fun K hK => ?_) AllReadyH.nil
  go_simp
  with_reducible refine (HWh.out _).mono ?_
  rintro e w6 ⟨rfl, hkk⟩
  have HM := Hid_mk (HM.out.no hkk)
  have HK := Hid_mk (HK.out.trans' hkk)
  clear hkk
  obtain ⟨r0, r1, r2, r3⟩ := HM.out.td
  refine hK _ _ (⟨HM.out.cv, HM.out.ar⟩) (fun hHeld => ?_)
  clear hK K
  try dsimp only at hHeld
  try simp only [Act.put, List.setIfInBounds_toArray, List.set_cons_zero, List.set_cons_succ]
  refine wpAnyH_ready (rs := [7]) (by kernel_rfl) (by simp) ?_
  refine AllReadyH.cons (o := { dst := none, op := Op.store 41 (Operand.tmp 4) (Operand.tmp 55), type := 0, pos := "tell.go:33", after := #[{ on := 6, ground := Ground.data }, { on := 6, ground := Ground.chain }, { on := 0, ground := Ground.phase }, { on := 1, ground := Ground.phase }, { on := 2, ground := Ground.phase }, { on := 3, ground := Ground.phase }, { on := 4, ground := Ground.phase }, { on := 5, ground := Ground.phase }, { on := 6, ground := Ground.phase }], guard := none }) rfl (fun K hK => ?_) AllReadyH.nil
  go_simp
  refine hK _ _ (⟨HM.out.cv.kept ((((Kp.refl (fun k => k = Tb) w6).setCell (p := ⟨Tb, 0, none⟩) (fun _ => rfl) _).setCell (p := ⟨Tb, 1, none⟩) (fun _ => rfl) _).setCell (p := ⟨Tb, 2, none⟩) (fun _ => rfl) _) (fun e => hct e), B3.kept HM.out.ar ((((Kp.refl (fun k => k = Tb) w6).setCell (p := ⟨Tb, 0, none⟩) (fun _ => rfl) _).setCell (p := ⟨Tb, 1, none⟩) (fun _ => rfl) _).setCell (p := ⟨Tb, 2, none⟩) (fun _ => rfl) _) (fun e => hat e)⟩) (fun hHeld => ?_)
  clear hK K
  try dsimp only at hHeld
  try simp only [Act.put, List.setIfInBounds_toArray, List.set_cons_zero, List.set_cons_succ]
  refine wpAnyH_done (by kernel_rfl) ?_ _
  go_wp2
  refine bodyPost_ret (v := .agg #[.string (st sg), .string (st bd), .bool (fl)]) ?_ rfl ?_
  · simp [results, Tryz.results11, go_sem, r0, r1, r2]
  · rw [← HR.out]
    exact ⟨rfl, ((HK.out.setCell (p := ⟨Tb, 0, none⟩) (fun e => absurd e HT.out) _).setCell (p := ⟨Tb, 1, none⟩) (fun e => absurd e HT.out) _).setCell (p := ⟨Tb, 2, none⟩) (fun e => absurd e HT.out) _⟩

set_option maxRecDepth 100000 in
set_option maxHeartbeats 4000000 in
theorem tell_f (w : World) (cl cp cbk cno : Bool) (cw cpr : Int) (x : Ar) (D : List UInt8) (hD : D.length ≤ 10000) (hdg : ∀ W, Kp No w W → Calls Tryz.prog 13 #[.float .f64 x.n] W (TxPost W D)) (hfin : finB x.n = true) (hp : -1 ≤ cpr) (hp2 : cpr ≤ 1000) (m : Nat) (F : List UInt8) (hp0 : 0 ≤ cpr) (habs : ∀ W, Calls Tryz.prog 31 #[.float .f64 x.n] W (RF W m)) (hfl : ∀ W, Kp No w W → Calls Tryz.prog 32 #[.float .f64 m, .int .u8 102, .int .i64 cpr, .int .i64 64] W (TxPost W F)) :
    Calls Tryz.prog 11 #[.agg #[.bool cl, .bool cp, .bool cbk, .bool cno, .int .i64 cw, .int .i64 cpr, .int .u8 102], arV x] w (TdPost w ((⟨signS ⟨cl, cp, cbk, cno, cw, cpr, 102⟩ (FloatKind.f64.format.order x.n 0 == some .lt), F, true⟩ : Td))) := by
  obtain ⟨R, hR⟩ : ∃ R, (⟨signS ⟨cl, cp, cbk, cno, cw, cpr, 102⟩ (FloatKind.f64.format.order x.n 0 == some .lt), F, true⟩ : Td) = R := ⟨_, rfl⟩
  rw [hR]
  have HR := Hid_mk hR
  have HDg : Hid (∀ W, Kp No w W → Calls Tryz.prog 13 #[.float .f64 x.n] W fun e w' => e = .returned (.string (st D)) ∧ Kp No W w') := Hid_mk hdg
  have HCp : Hid (∀ W, Calls Tryz.prog 25 #[.string (st D), .string ⟨#[45]⟩] W fun e w' => e = .returned (.tuple #[.string (st (Lib.trimPrefix D [45])), .bool (Lib.hasPrefix D [45])]) ∧ w' = W) := Hid_mk fun W => by
    have := Tryz.strings_CutPrefix (st D) ⟨#[45]⟩ W
    simp only [st_data] at this
    exact this
  have HFn : Hid (∀ W, Calls Tryz.prog 15 #[.float .f64 x.n] W fun e w' => e = .returned (.bool true) ∧ W = w') := Hid_mk fun W => by
    have := finite_any W x.n
    rw [hfin] at this
    exact this
  have htl : (Lib.trimPrefix D [45]).length ≤ 10000 := by
    unfold Lib.trimPrefix
    split
    · rw [List.length_drop]; omega
    · exact hD
  obtain ⟨d1, hd1⟩ : ∃ d1, Lib.trimPrefix D [45] = d1 := ⟨_, rfl⟩
  obtain ⟨ng, hng⟩ : ∃ ng, Lib.hasPrefix D [45] = ng := ⟨_, rfl⟩
  simp only [hd1, hng] at HCp hR
  rw [hd1] at htl
  obtain ⟨lt, hlt⟩ : ∃ lt, (FloatKind.f64.format.order x.n 0 == some .lt) = lt := ⟨_, rfl⟩
  obtain ⟨sg, hsg⟩ : ∃ sg, signS ⟨cl, cp, cbk, cno, cw, cpr, 102⟩ lt = sg := ⟨_, rfl⟩
  rw [hlt, hsg] at hR
  clear HR
  have HR := Hid_mk hR
  have HSg : Hid (∀ W, Calls Tryz.prog 26 #[.agg #[.bool cl, .bool cp, .bool cbk, .bool cno, .int .i64 cw, .int .i64 cpr, .int .u8 102], .bool lt] W fun e w' => e = .returned (.string (st sg)) ∧ Kp No W w') := Hid_mk fun W => by
    have h := sign_any W ⟨cl, cp, cbk, cno, cw, cpr, 102⟩ lt (by show 102 < 256; omega)
    unfold TxK at h
    rw [hsg] at h
    exact h
  have HAb : Hid (∀ W, Calls Tryz.prog 31 #[.float .f64 x.n] W fun e w' => e = .returned (.float .f64 m) ∧ W = w') := Hid_mk habs
  have HFl : Hid (∀ W, Kp No w W → Calls Tryz.prog 30 #[.agg #[.bool cl, .bool cp, .bool cbk, .bool cno, .int .i64 cw, .int .i64 cpr, .int .u8 102], .float .f64 m] W fun e w' => e = .returned (.string (st F)) ∧ Kp No W w') := Hid_mk fun W hkw => float_f W cl cp cbk cno cw cpr m F hp0 fun W' hk' => hfl W' (hkw.trans' hk')
  clear hdg hfin htl hd1 hng hp hp2 hD habs hfl hsg hp0

  obtain ⟨W1, hW1, hk1, hz1⟩ := named_alloc w (.cells #[.bool cl, .bool cp, .bool cbk, .bool cno, .int .i64 cw, .int .i64 cpr, .int .u8 102] 36)
  obtain ⟨Cb, hCb⟩ : ∃ Cb, w.heap.size = Cb := ⟨_, rfl⟩
  have hcv : CvAt W1 Cb ⟨cl, cp, cbk, cno, cw, cpr, 102⟩ := by rw [← hW1, ← hCb]; exact CvAt.new w ⟨cl, cp, cbk, cno, cw, cpr, 102⟩ 36
  obtain ⟨n, s, k⟩ := x
  obtain ⟨W2, hW2, hk2, hz2⟩ := named_alloc W1 (.cells #[.float .f64 n, .string (st s), .bool k] 27)
  have har := B3.new W1 (.float .f64 n) (.string (st s)) (.bool k) 27
  rw [hCb] at hz1
  rw [hz1] at hz2
  obtain ⟨Ab, hAb⟩ : ∃ Ab, Cb + 1 = Ab := ⟨_, rfl⟩
  rw [hW2, hz1, hAb] at har
  obtain ⟨W3, hW3, hk3, hz3⟩ := named_alloc W2 (.cells #[.string ⟨#[]⟩, .string ⟨#[]⟩, .bool false] 41)
  have htd := B3.new W2 (.string ⟨#[]⟩) (.string ⟨#[]⟩) (.bool false) 41
  obtain ⟨Tb, hTb⟩ : ∃ Tb, Cb + 1 + 1 = Tb := ⟨_, rfl⟩
  rw [hW3, hz2, hTb] at htd
  have HM : Hid (TlM W3 Cb Ab Tb ⟨cl, cp, cbk, cno, cw, cpr, 102⟩ ⟨n, s, k⟩) := Hid_mk ⟨(hcv.no2 hk2).no2 hk3, har.no hk3, htd⟩
  have HK := Hid_mk ((hk1.trans' hk2).trans' hk3)
  have HT := Hid_mk (show ¬ Tb < w.heap.size by omega)
  have hca : Cb ≠ Ab := by omega
  have hct : Cb ≠ Tb := by omega
  have hat : Ab ≠ Tb := by omega
  have HZ1 := Hid_mk (show W1.heap.size = Ab by omega)
  have HZ2 := Hid_mk (show W2.heap.size = Tb by omega)
  simp only [arV]
  clear hR hk1 hk2 hk3 hz1 hz2 hz3 hcv har htd
  go_enter Tryz.func11, Tryz.ntmps11
  go_upto_region 1 with fail
  rw [HZ1.out, HZ2.out]
  clear hW1 hW2 hW3 hCb hAb hTb
  obtain ⟨⟨d0, d1, d2, d3, d4, d5, d6, d7⟩, ⟨a0, a1, a2, a3⟩, ⟨r0, r1, r2, r3⟩⟩ := HM.out
  simp only at d0 d1 d2 d3 d4 d5 d6 a0 a1 a2
  have d6 : _ = some (Value.int .u8 102) := d6
  go_wp2_with fail
  with_reducible refine (HDg.out _ HK.out).mono ?_
  rintro e w4 ⟨rfl, hkk⟩
  have HM := Hid_mk (HM.out.no hkk)
  have HK := Hid_mk (HK.out.trans' hkk)
  clear hkk
  clear d0 d1 d2 d3 d4 d5 d6 d7 a0 a1 a2 a3 r0 r1 r2 r3
  obtain ⟨⟨d0, d1, d2, d3, d4, d5, d6, d7⟩, ⟨a0, a1, a2, a3⟩, ⟨r0, r1, r2, r3⟩⟩ := HM.out
  simp only at d0 d1 d2 d3 d4 d5 d6 a0 a1 a2
  have d6 : _ = some (Value.int .u8 102) := d6
  go_wp2_with fail
  with_reducible refine (HCp.out _).mono ?_
  rintro e w9 ⟨rfl, rfl⟩
  go_wp2_with fail
  with_reducible refine (HFn.out _).mono ?_
  rintro e w9 ⟨rfl, rfl⟩
  go_upto_region 20 with fail
  clear d0 d1 d2 d3 d4 d5 d6 d7 a0 a1 a2 a3 r0 r1 r2 r3
  have HM := Hid_mk (HM.out.no (Kp.refl No _).drew)
  have HK := Hid_mk (HK.out.trans' (Kp.refl No _).drew)
  refine wp_region_held_drew (S := fun W => CvAt W Cb ⟨cl, cp, cbk, cno, cw, cpr, 102⟩ ∧ B3 W Ab (.float .f64 n) (.string (st s)) (.bool k)) (by kernel_rfl) (⟨HM.out.cv, HM.out.ar⟩) (fun hHeld => ?_)
  try dsimp only at hHeld
  refine wpAnyH_take (i := 0) (oi := { dst := some 75, op := Op.load 36 (Operand.tmp 2), type := 36, pos := "tell.go:39", after := #[], guard := none }) (v := ?_) rfl (by kernel_rfl) (by kernel_rfl) (by kernel_rfl) (fun _ _ _ h => h) (Or.inl ⟨by rfl, ?_⟩) (by assumption) ?_
  rotate_left 1
  · intro W hSw; (try dsimp only at hSw); (obtain ⟨⟨d0, d1, d2, d3, d4, d5, d6, d7⟩, ⟨a0, a1, a2, a3⟩⟩ := hSw; simp only at d0 d1 d2 d3 d4 d5 d6; have d6 : _ = some (Value.int .u8 102) := d6); go_simp; all_goals (with_reducible rfl)
  try simp only [Act.put, List.setIfInBounds_toArray, List.set_cons_zero, List.set_cons_succ]
  refine wpAnyH_take (i := 1) (oi := { dst := some 76, op := Op.fieldAddr 27 (Operand.tmp 3) 0, type := 0, pos := "tell.go:39", after := #[], guard := none }) (v := ?_) rfl (by kernel_rfl) (by kernel_rfl) (by kernel_rfl) (fun _ _ _ h => h) (Or.inl ⟨by rfl, ?_⟩) (by assumption) ?_
  rotate_left 1
  · intro W hSw; (try dsimp only at hSw); (obtain ⟨⟨d0, d1, d2, d3, d4, d5, d6, d7⟩, ⟨a0, a1, a2, a3⟩⟩ := hSw; simp only at d0 d1 d2 d3 d4 d5 d6; have d6 : _ = some (Value.int .u8 102) := d6); go_simp; all_goals (with_reducible rfl)
  try simp only [Act.put, List.setIfInBounds_toArray, List.set_cons_zero, List.set_cons_succ]
  refine wpAnyH_take (i := 2) (oi := { dst := some 77, op := Op.load 25 (Operand.tmp 76), type := 25, pos := "tell.go:39", after := #[{ on := 1, ground := Ground.data }], guard := none }) (v := ?_) rfl (by kernel_rfl) (by kernel_rfl) (by kernel_rfl) (fun _ _ _ h => h) (Or.inl ⟨by rfl, ?_⟩) (by assumption) ?_
  rotate_left 1
  · intro W hSw; (try dsimp only at hSw); (obtain ⟨⟨d0, d1, d2, d3, d4, d5, d6, d7⟩, ⟨a0, a1, a2, a3⟩⟩ := hSw; simp only at d0 d1 d2 d3 d4 d5 d6; have d6 : _ = some (Value.int .u8 102) := d6); go_simp; all_goals (with_reducible rfl)
  try simp only [Act.put, List.setIfInBounds_toArray, List.set_cons_zero, List.set_cons_succ]
  refine wpAnyH_take (i := 3) (oi := { dst := some 78, op := Op.binOp BinOp.lss 25 (Operand.tmp 77) (Operand.const (Value.float FloatKind.f64 0)) 25, type := 4, pos := "tell.go:39", after := #[{ on := 2, ground := Ground.data }], guard := none }) (v := ?_) rfl (by kernel_rfl) (by kernel_rfl) (by kernel_rfl) (fun _ _ _ h => h) (Or.inl ⟨by rfl, ?_⟩) (by assumption) ?_
  rotate_left 1
  · intro W hSw; (try dsimp only at hSw); (obtain ⟨⟨d0, d1, d2, d3, d4, d5, d6, d7⟩, ⟨a0, a1, a2, a3⟩⟩ := hSw; simp only at d0 d1 d2 d3 d4 d5 d6; have d6 : _ = some (Value.int .u8 102) := d6); go_simp; all_goals (with_reducible rfl)
  try simp only [Act.put, List.setIfInBounds_toArray, List.set_cons_zero, List.set_cons_succ]
  refine wpAnyH_take (i := 5) (oi := { dst := some 80, op := Op.load 36 (Operand.tmp 2), type := 36, pos := "tell.go:39", after := #[], guard := none }) (v := ?_) rfl (by kernel_rfl) (by kernel_rfl) (by kernel_rfl) (fun _ _ _ h => h) (Or.inl ⟨by rfl, ?_⟩) (by assumption) ?_
  rotate_left 1
  · intro W hSw; (try dsimp only at hSw); (obtain ⟨⟨d0, d1, d2, d3, d4, d5, d6, d7⟩, ⟨a0, a1, a2, a3⟩⟩ := hSw; simp only at d0 d1 d2 d3 d4 d5 d6; have d6 : _ = some (Value.int .u8 102) := d6); go_simp; all_goals (with_reducible rfl)
  try simp only [Act.put, List.setIfInBounds_toArray, List.set_cons_zero, List.set_cons_succ]
  refine wpAnyH_take (i := 6) (oi := { dst := some 81, op := Op.fieldAddr 27 (Operand.tmp 3) 0, type := 0, pos := "tell.go:39", after := #[], guard := none }) (v := ?_) rfl (by kernel_rfl) (by kernel_rfl) (by kernel_rfl) (fun _ _ _ h => h) (Or.inl ⟨by rfl, ?_⟩) (by assumption) ?_
  rotate_left 1
  · intro W hSw; (try dsimp only at hSw); (obtain ⟨⟨d0, d1, d2, d3, d4, d5, d6, d7⟩, ⟨a0, a1, a2, a3⟩⟩ := hSw; simp only at d0 d1 d2 d3 d4 d5 d6; have d6 : _ = some (Value.int .u8 102) := d6); go_simp; all_goals (with_reducible rfl)
  try simp only [Act.put, List.setIfInBounds_toArray, List.set_cons_zero, List.set_cons_succ]
  refine wpAnyH_take (i := 7) (oi := { dst := some 82, op := Op.load 25 (Operand.tmp 81), type := 25, pos := "tell.go:39", after := #[{ on := 6, ground := Ground.data }], guard := none }) (v := ?_) rfl (by kernel_rfl) (by kernel_rfl) (by kernel_rfl) (fun _ _ _ h => h) (Or.inl ⟨by rfl, ?_⟩) (by assumption) ?_
  rotate_left 1
  · intro W hSw; (try dsimp only at hSw); (obtain ⟨⟨d0, d1, d2, d3, d4, d5, d6, d7⟩, ⟨a0, a1, a2, a3⟩⟩ := hSw; simp only at d0 d1 d2 d3 d4 d5 d6; have d6 : _ = some (Value.int .u8 102) := d6); go_simp; all_goals (with_reducible rfl)
  try simp only [Act.put, List.setIfInBounds_toArray, List.set_cons_zero, List.set_cons_succ]
  refine wpAnyH_ready (rs := [4]) (by kernel_rfl) (by simp) ?_
  refine AllReadyH.cons (o := { dst := some 79, op := Op.call { callee := Callee.value (Operand.func 26), args := #[Operand.tmp 75, Operand.tmp 78], argTypes := #[36, 4] }, type := 9, pos := "tell.go:39", after := #[{ on := 0, ground := Ground.data }, { on := 3, ground := Ground.data }], guard := none }) rfl (fun K hK => ?_) AllReadyH.nil
  go_simp
  with_reducible refine (HSg.out _).mono ?_
  rintro e w5 ⟨rfl, hkk⟩
  have HM := Hid_mk (HM.out.no hkk)
  have HK := Hid_mk (HK.out.trans' hkk)
  clear hkk
  refine hK _ _ (⟨HM.out.cv, HM.out.ar⟩) (fun hHeld => ?_)
  clear hK K
  try dsimp only at hHeld
  try simp only [Act.put, List.setIfInBounds_toArray, List.set_cons_zero, List.set_cons_succ]
  refine wpAnyH_ready (rs := [8]) (by kernel_rfl) (by simp) ?_
  refine AllReadyH.cons (o := { dst := some 83, op := Op.call { callee := Callee.value (Operand.func 31), args := #[Operand.tmp 82], argTypes := #[25] }, type := 25, pos := "tell.go:39", after := #[{ on := 7, ground := Ground.data }, { on := 4, ground := Ground.chain }], guard := none }) rfl (fun K hK => ?_) AllReadyH.nil
  go_simp
  with_reducible refine (HAb.out _).mono ?_
  rintro e w6 ⟨rfl, rfl⟩
  refine hK _ _ (⟨HM.out.cv, HM.out.ar⟩) (fun hHeld => ?_)
  clear hK K
  try dsimp only at hHeld
  try simp only [Act.put, List.setIfInBounds_toArray, List.set_cons_zero, List.set_cons_succ]
  refine wpAnyH_ready (rs := [9]) (by kernel_rfl) (by simp) ?_
  refine AllReadyH.cons (o := { dst := some 84, op := Op.call { callee := Callee.value (Operand.func 30), args := #[Operand.tmp 80, Operand.tmp 83], argTypes := #[36, 25] }, type := 9, pos := "tell.go:39", after := #[{ on := 5, ground := Ground.data }, { on := 8, ground := Ground.data }, { on := 8, ground := Ground.chain }], guard := none }) rfl (fun K hK => ?_) AllReadyH.nil
  go_simp
  with_reducible refine (HFl.out _ HK.out).mono ?_
  rintro e w7 ⟨rfl, hkk⟩
  have HM := Hid_mk (HM.out.no hkk)
  have HK := Hid_mk (HK.out.trans' hkk)
  clear hkk
  obtain ⟨r0, r1, r2, r3⟩ := HM.out.td
  refine hK _ _ (⟨HM.out.cv, HM.out.ar⟩) (fun hHeld => ?_)
  clear hK K
  try dsimp only at hHeld
  try simp only [Act.put, List.setIfInBounds_toArray, List.set_cons_zero, List.set_cons_succ]
  refine wpAnyH_take (i := 10) (oi := { dst := some 85, op := Op.build 41 #[(0, Operand.tmp 79), (1, Operand.tmp 84), (2, Operand.const (Value.bool true))], type := 41, pos := "tell.go:39", after := #[{ on := 4, ground := Ground.data }, { on := 9, ground := Ground.data }], guard := none }) (v := ?_) rfl (by kernel_rfl) (by kernel_rfl) (by kernel_rfl) (fun _ _ _ h => h) (Or.inl ⟨by rfl, ?_⟩) (by assumption) ?_
  rotate_left 1
  · intro W hSw; (try dsimp only at hSw); (obtain ⟨⟨d0, d1, d2, d3, d4, d5, d6, d7⟩, ⟨a0, a1, a2, a3⟩⟩ := hSw; simp only at d0 d1 d2 d3 d4 d5 d6; have d6 : _ = some (Value.int .u8 102) := d6); go_simp; all_goals (with_reducible rfl)
  try simp only [Act.put, List.setIfInBounds_toArray, List.set_cons_zero, List.set_cons_succ]
  refine wpAnyH_ready (rs := [11]) (by kernel_rfl) (by simp) ?_
  refine AllReadyH.cons (o := { dst := none, op := Op.store 41 (Operand.tmp 4) (Operand.tmp 85), type := 0, pos := "tell.go:39", after := #[{ on := 10, ground := Ground.data }, { on := 9, ground := Ground.chain }, { on := 0, ground := Ground.phase }, { on := 1, ground := Ground.phase }, { on := 2, ground := Ground.phase }, { on := 3, ground := Ground.phase }, { on := 4, ground := Ground.phase }, { on := 5, ground := Ground.phase }, { on := 6, ground := Ground.phase }, { on := 7, ground := Ground.phase }, { on := 8, ground := Ground.phase }, { on := 9, ground := Ground.phase }, { on := 10, ground := Ground.phase }], guard := none }) rfl (fun K hK => ?_) AllReadyH.nil
  go_simp
  refine hK _ _ (⟨HM.out.cv.kept ((((Kp.refl (fun k => k = Tb) w7).setCell (p := ⟨Tb, 0, none⟩) (fun _ => rfl) _).setCell (p := ⟨Tb, 1, none⟩) (fun _ => rfl) _).setCell (p := ⟨Tb, 2, none⟩) (fun _ => rfl) _) (fun e => hct e), B3.kept HM.out.ar ((((Kp.refl (fun k => k = Tb) w7).setCell (p := ⟨Tb, 0, none⟩) (fun _ => rfl) _).setCell (p := ⟨Tb, 1, none⟩) (fun _ => rfl) _).setCell (p := ⟨Tb, 2, none⟩) (fun _ => rfl) _) (fun e => hat e)⟩) (fun hHeld => ?_)
  clear hK K
  try dsimp only at hHeld
  try simp only [Act.put, List.setIfInBounds_toArray, List.set_cons_zero, List.set_cons_succ]
  refine wpAnyH_done (by kernel_rfl) ?_ _
  go_wp2
  refine bodyPost_ret (v := .agg #[.string (st sg), .string (st F), .bool (true)]) ?_ rfl ?_
  · simp [results, Tryz.results11, go_sem, r0, r1, r2]
  · rw [← HR.out]
    exact ⟨rfl, ((HK.out.setCell (p := ⟨Tb, 0, none⟩) (fun e => absurd e HT.out) _).setCell (p := ⟨Tb, 1, none⟩) (fun e => absurd e HT.out) _).setCell (p := ⟨Tb, 2, none⟩) (fun e => absurd e HT.out) _⟩

end Go.Proofs.YtannbdbhkhmppaaGreatDoor.pf
