/- SplitLaid: the law's walk. -/
import Derived.Test.YtpfpnlhihnfahaaDoorSplitTwoM
import Derived.Test.YtpfpnlhihnfahaaDoorSpLayM
import Derived.Test.YtpfpnlhihnfahaaDoorRefSpReadM
import Derived.Test.YtpfpnlhihnfahaaDoorSplitSteps
import Derived.Deep.RegionLaw
import Derived.Deep.CutRange

namespace Go.Proofs.YtpfpnlhihnfahaaDoor.spl
open Go.RowKit Go.Maps Go.Proofs.YtpfpnlhihnfahaaDoor.sum Go.Proofs.YtpfpnlhihnfahaaDoor.kept Go.Proofs.YtpfpnlhihnfahaaDoor.app Go.Proofs.YtpfpnlhihnfahaaDoor.writer Go.Proofs.YtpfpnlhihnfahaaDoor.clone Go.Proofs.YtpfpnlhihnfahaaDoor.known Go.Proofs.YtpfpnlhihnfahaaDoor.unseal Go.Proofs.YtpfpnlhihnfahaaDoor.snp
set_option linter.unusedVariables false

/-- at the loop's head -/
def LdRel (w : World) (base p r m : Nat) (iv : Value) (wr : World) : Prop :=
  ∃ (k : Nat) (ρ : Nat → Bool) (u : SpS), iv = .int .i64 (k : Int) ∧ k ≤ 100 ∧ Tw w wr base p r ρ m u u ∧ OkS m u ∧ u.rest.length ≤ 2200 + k
/-- the bytes that are read -/
def LaidX (w : World) (s : Value) (wc : World) : Prop := ∃ a c xs, s = .slice a xs.length c ∧ Bs wc s xs ∧ xs.length ≤ 200 ∧ Kp No w wc

set_option maxRecDepth 100000 in
set_option maxHeartbeats 1000000 in
/-- a Reader's bytes lie in a block of its own -/
theorem rd_new (w : World) (v : Value) (bs : List UInt8) (h : Bs w v bs) (hl : bs.length ≤ 140737488355328) :
    Calls Tryd.prog 22 #[v] w fun e w' => ∃ p v', e = .returned (.pointer (some ⟨p, 0, none⟩)) ∧ w.heap.size ≤ p ∧ reader.Rd w' p v' bs 0 0 ∧ Kp No w w' ∧ (∀ g, v'.ownBlock = some g → w.heap.size ≤ g ∧ g < w'.heap.size) := by
  have H := Hid_mk h
  clear h
  go_enter Tryd.func22, Tryd.ntmps22
  go_wp2_with fail
  refine (clone_any w v bs H.out hl).mono ?_
  rintro e w1 ⟨v1, rfl, ho, hk⟩
  have HO := Hid_mk ho
  have HK := Hid_mk hk
  have hz := hk.size
  clear hk
  have fin : reader.Rd (w1.alloc (.cells #[v1, .int .i64 0, .int .i64 0] 79)) w1.heap.size v1 bs 0 0 := by
    have hb := owns_bs ho
    refine ⟨by simp, by simp, by simp, fun o => by simp, bs_no hb ((Kp.refl No _).alloc _), ?_, Nat.zero_le _, hl⟩
    rcases owns_any ho with ⟨rfl, _⟩ | ⟨g, cap, rfl, h1, h2, _⟩
    · exact .inl rfl
    · exact .inr ⟨g, 0, _, cap, rfl, by omega⟩
  have HF := Hid_mk fin
  clear fin
  rcases owns_any ho with ⟨rfl, _⟩ | ⟨g, cap, rfl, h1, h2, _⟩
  · clear ho
    go_wp2
    go_ret
    exact ⟨_, _, rfl, hz, HF.out, HK.out.alloc _, fun g hg => ⟨(HO.out.lt g hg).1, by have := (HO.out.lt g hg).2; rw [World.size_alloc]; omega⟩⟩
  · clear ho
    go_wp2
    go_ret
    exact ⟨_, _, rfl, hz, HF.out, HK.out.alloc _, fun g hg => ⟨(HO.out.lt g hg).1, by have := (HO.out.lt g hg).2; rw [World.size_alloc]; omega⟩⟩
theorem Rs.wider {T T' : Nat → Prop} {w : World} {r m : Nat} {s : SpS} (h : Rs T w r m s) (h1 : ∀ x, T x → T' x) (h2 : ¬ T' r) (h3 : ∀ k, w.heap.size ≤ k → T' k) : Rs T' w r m s := by
  obtain ⟨vh, vr, h⟩ := h
  exact ⟨vh, vr, h.c0, h.c1, h.c2, h.c3, h.c4, h.warm, h.held, h.rest, fun hne x o n c e => h1 x (h.ah hne x o n c e), fun hne x o n c e => h1 x (h.ar hne x o n c e), h2, h3⟩
theorem readS_ok (m : Nat) (bs : List UInt8) (a b : Nat) : OkS m (readS m bs a b).1 ∧ (readS m bs a b).1.rest.length ≤ 2048 := by
  unfold readS OkS
  simp only
  split
  · exact ⟨rText_most _ _ _ _, rText_most _ _ _ _⟩
  · exact ⟨Nat.zero_le _, Nat.zero_le _⟩

set_option maxRecDepth 100000 in
set_option maxHeartbeats 16000000 in
theorem splitLaid_any (w : World) (most : Int) (vb : Value) (bs : List UInt8) (rs : Int) (vm : Value) (ms : List UInt8) (vr : Value) (rw' : List UInt8) (flag : Int) (hb : Bs w vb bs) (hm' : Bs w vm ms) (hr : Bs w vr rw') (hq : Sq w)
    (hl1 : bs.length ≤ 140737488355328) (hl2 : ms.length ≤ 140737488355328) (hl3 : rw'.length ≤ 140737488355328) :
    Calls Tryd.prog 4 #[.int .i64 most, vb, .int .i64 rs, vm, vr, .int .i64 flag] w fun e w' => e = .returned (.bool true) ∧ Kp No w w' := by
  obtain ⟨m, hm⟩ : ∃ m : Nat, 1 + most % 12 = (m : Int) := ⟨(1 + most % 12).toNat, by have := Int.emod_nonneg most (show (12 : Int) ≠ 0 by omega); omega⟩
  have hm1 : 1 ≤ m := by have := Int.emod_nonneg most (show (12 : Int) ≠ 0 by omega); omega
  have hm2 : m ≤ 12 := by have := Int.emod_lt_of_pos most (show (0 : Int) < 12 by omega); omega
  obtain ⟨K, hK⟩ : ∃ K : Nat, rs % 5 = (K : Int) := ⟨(rs % 5).toNat, by have := Int.emod_nonneg rs (show (5 : Int) ≠ 0 by omega); omega⟩
  have hK5 : K < 5 := by have := Int.emod_lt_of_pos rs (show (0 : Int) < 5 by omega); omega
  obtain ⟨F, hF⟩ : ∃ F : Nat, flag % 4 = (F : Int) := ⟨(flag % 4).toNat, by have := Int.emod_nonneg flag (show (4 : Int) ≠ 0 by omega); omega⟩
  have hF4 : F < 4 := by have := Int.emod_lt_of_pos flag (show (0 : Int) < 4 by omega); omega
  have hwm : IntKind.i64.wrap (1 + most % 12) = (m : Int) := by rw [hm]; exact IntWalk.i64_in _ (by omega)
  have HPk := Hid_mk (turned.pick_any most 12 (by omega) (by omega) w)
  have HPr := Hid_mk (turned.pick_any rs 5 (by omega) (by omega) w)
  have HPf := Hid_mk fun W => turned.pick_any flag 4 (by omega) (by omega) W
  obtain ⟨ab, cb, rfl, b1, b2, -⟩ := id hb
  obtain ⟨am, cm, rfl, m1, m2, -⟩ := id hm'
  obtain ⟨ar, cr, rfl, r1, r2, -⟩ := id hr
  unfold maxLen at b2 m2 r2
  -- raw, cut at 60, and at 30
  obtain ⟨L6, hL6⟩ : ∃ L, min rw'.length 60 = L := ⟨_, rfl⟩
  obtain ⟨r6, hr6⟩ : ∃ l, rw'.take L6 = l := ⟨_, rfl⟩
  have hr6l : r6.length = L6 := by rw [← hr6, List.length_take]; omega
  have hB6 := bs_take hr L6 (by omega)
  rw [hr6] at hB6
  obtain ⟨L3, hL3⟩ : ∃ L, min L6 30 = L := ⟨_, rfl⟩
  have hB3 := bs_take hB6 L3 (by omega)
  obtain ⟨r3, hr3⟩ : ∃ l, r6.take L3 = l := ⟨_, rfl⟩
  have hr3l : r3.length = L3 := by rw [← hr3, List.length_take]; omega
  rw [hr3] at hB3
  obtain ⟨Lb, hLb⟩ : ∃ L, min bs.length m = L := ⟨_, rfl⟩
  have hBb := bs_take hb Lb (by omega)
  obtain ⟨bb, hbb⟩ : ∃ l, bs.take Lb = l := ⟨_, rfl⟩
  have hbbl : bb.length = Lb := by rw [← hbb, List.length_take]; omega
  rw [hbb] at hBb
  obtain ⟨Lm, hLm⟩ : ∃ L, min ms.length 60 = L := ⟨_, rfl⟩
  have hBm := bs_take hm' Lm (by omega)
  obtain ⟨mm, hmm⟩ : ∃ l, ms.take Lm = l := ⟨_, rfl⟩
  have hmml : mm.length = Lm := by rw [← hmm, List.length_take]; omega
  rw [hmm] at hBm
  have hk1l : (kindsOf bb).length = Lb := by unfold kindsOf; rw [List.length_map, hbbl]
  have hk3l : (kindsOf r3).length = L3 := by unfold kindsOf; rw [List.length_map, hr3l]
  have HB1 : Hid (∀ V, Kp No w V → Calls Tryd.prog 9 #[.slice ab Lb cb] V fun e V' => ∃ v, e = .returned v ∧ Bs V' v (kindsOf bb) ∧ Kp No w V') := Hid_mk fun V hV => by
    have h := bytes_any V _ bb (bs_no hBb hV) (by omega)
    refine h.mono ?_
    rintro e V' ⟨rfl, h1, h2⟩
    exact ⟨_, rfl, h1, hV.trans' h2⟩
  have HB3 : Hid (∀ V, Kp No w V → Calls Tryd.prog 9 #[.slice ar L3 cr] V fun e V' => ∃ v, e = .returned v ∧ Bs V' v (kindsOf r3) ∧ Kp No V V') := Hid_mk fun V hV => by
    have h := bytes_any V _ r3 (bs_no hB3 hV) (by omega)
    refine h.mono ?_
    rintro e V' ⟨rfl, h1, h2⟩
    exact ⟨_, rfl, h1, h2⟩
  have HBm : Hid (∀ V, Kp No w V → Calls Tryd.prog 9 #[.slice am Lm cm] V fun e V' => e = .returned (.slice (some ⟨V.heap.size, 0, none⟩) mm.length mm.length) ∧ Bs V' (.slice (some ⟨V.heap.size, 0, none⟩) mm.length mm.length) (kindsOf mm) ∧ Kp No V V') := Hid_mk fun V hV =>
    bytes_any V _ mm (bs_no hBm hV) (by omega)
  have ht1 := textS_len (kindsOf bb) (by omega)
  have ht3 := textS_len (kindsOf r3) (by omega)
  have HT1 : Hid (∀ V, Kp No w V → Calls Tryd.prog 21 #[.string (tx (kindsOf bb))] V fun e V' => ∃ v, e = .returned v ∧ V'.ownsRow w.heap.size 5 1 v (textS (kindsOf bb)).length ((textS (kindsOf bb)).map B) ∧ Kp No w V') := Hid_mk fun V hV => by
    have h : Calls Tryd.prog 21 #[.string (tx (kindsOf bb))] V (NewBs V (textS (kindsOf bb))) := by rw [← tx_text]; exact ref.lay_text V (tx (kindsOf bb)) (by rw [tx_size]; omega)
    refine h.mono ?_
    rintro e V' ⟨v, rfl, ho, hk⟩
    exact ⟨v, rfl, owns_base ho hV.size, hV.trans' hk⟩
  have HT3 : Hid (∀ V, Kp No w V → Calls Tryd.prog 21 #[.string (tx (kindsOf r3))] V fun e V' => ∃ v, e = .returned v ∧ Bs V' v (textS (kindsOf r3)) ∧ Kp No V V') := Hid_mk fun V hV => by
    have h : Calls Tryd.prog 21 #[.string (tx (kindsOf r3))] V (NewBs V (textS (kindsOf r3))) := by rw [← tx_text]; exact ref.lay_text V (tx (kindsOf r3)) (by rw [tx_size]; omega)
    refine h.mono ?_
    rintro e V' ⟨v, rfl, ho, hk⟩
    exact ⟨v, rfl, owns_bs ho, hk⟩
  have HFu : Hid (((F.toUInt8).toNat : Int) = (F : Int)) := Hid_mk (by rw [seal.u8_toNat]; omega)
  have HL1 := Hid_mk (show (textS (kindsOf bb)).length + ([F.toUInt8] : List UInt8).length ≤ 140737488355328 by simp; omega)
  have HL2 := Hid_mk (show (textS (kindsOf bb) ++ [F.toUInt8]).length + (textS (kindsOf r3)).length ≤ 140737488355328 by simp; omega)
  have HXl : Hid ((textS (kindsOf bb) ++ [F.toUInt8] ++ textS (kindsOf r3)).length ≤ 200) := Hid_mk (by simp only [List.length_append, List.length_singleton]; omega)
  have hcell := hq K hK5
  have HQ := Hid_mk hq
  obtain ⟨sep, hsep⟩ : ∃ sep, sepL K = sep := ⟨_, rfl⟩
  have hsl : sep.length ≤ 2 := by rw [← hsep]; exact sepL_len K
  rw [hsep] at hcell
  have HB6 := Hid_mk hB6
  have HL6 := Hid_mk hL6
  have HR6 := Hid_mk hr6l
  have HMl := Hid_mk (show mm.length = Lm ∧ Lm ≤ 60 by omega)
  have hk0 : (0 : Int) ≤ (K : Int) := Int.natCast_nonneg _
  have hki : (K : Int) < 5 := by omega
  have hF0 : (0 : Int) ≤ (F : Int) := Int.natCast_nonneg _
  have hFm : (F : Int) % 256 = (F : Int) := by omega
  have hFw : IntKind.u8.wrap (F : Int) = (F : Int) := by rw [IntKind.wrap_u8]; omega
  have hS6 : (rw'.length ≤ 60 ∧ L6 = rw'.length) ∨ (¬ rw'.length ≤ 60 ∧ L6 = 60) := by omega
  have hL6c : L6 ≤ cr := by omega
  have hmb : (min (bs.length : Int) (m : Int)).toNat = Lb := by omega
  have hmb0 : (0 : Int) ≤ min (bs.length : Int) (m : Int) := by omega
  have hmbc : min (bs.length : Int) (m : Int) ≤ (cb : Int) := by omega
  have hm3 : (min (L6 : Int) 30).toNat = L3 := by omega
  have hm30 : (0 : Int) ≤ min (L6 : Int) 30 := by omega
  have hm3c : min (L6 : Int) 30 ≤ (cr : Int) := by omega
  have HMb : Hid ((if (m : Int) < (bs.length : Int) then (m : Int) else (bs.length : Int)) = (Lb : Int) ∧ (if m < bs.length then (m : Int) else (bs.length : Int)) = (Lb : Int) ∧ (0 : Int) ≤ (Lb : Int) ∧ (Lb : Int) ≤ (cb : Int)) := Hid_mk ⟨by split <;> omega, by split <;> omega, by omega, by omega⟩
  have HM3 : Hid ((if (30 : Int) < (L6 : Int) then (30 : Int) else (L6 : Int)) = (L3 : Int) ∧ (if 30 < L6 then (30 : Int) else (L6 : Int)) = (L3 : Int) ∧ min (L6 : Int) 30 = (L3 : Int) ∧ (0 : Int) ≤ (L3 : Int) ∧ (L3 : Int) ≤ (cr : Int)) := Hid_mk ⟨by split <;> omega, by split <;> omega, by omega, by omega, by omega⟩
  have HMm : Hid ((if (60 : Int) < (ms.length : Int) then (60 : Int) else (ms.length : Int)) = (Lm : Int) ∧ (if 60 < ms.length then (60 : Int) else (ms.length : Int)) = (Lm : Int) ∧ min (ms.length : Int) 60 = (Lm : Int) ∧ (0 : Int) ≤ (Lm : Int) ∧ (Lm : Int) ≤ (cm : Int)) := Hid_mk ⟨by split <;> omega, by split <;> omega, by omega, by omega, by omega⟩
  have HS6 := Hid_mk hS6
  have HB6c := Hid_mk hL6c
  clear hb hm' hr hq hB6 hB3 hBb hBm hL6 hr6 hr6l hr3 hr3l hL3 hLb hbb hbbl hLm hmm hmml hk1l hk3l ht1 ht3 hsep hS6 hL6c hmb hmb0 hmbc hm3 hm30 hm3c b1 b2 m1 m2 r1 r2 hm hl1 hl2 hl3
  go_enter Tryd.func4, Tryd.ntmps4
  go_wp2_with fail
  with_reducible refine HPk.out.mono ?_
  rintro e w' ⟨rfl, rfl⟩
  go_upto_region 2 with fail
  clear HPk
  go_cut [4] from 28 to 32 (fun s4 wc => s4 = .slice ar L6 cr ∧ wc = w)
  case first =>
    have hs := HS6.out
    have hc := HB6c.out
    rcases hs with ⟨h1, h2⟩ | ⟨h1, h2⟩
    all_goals
      have h1i : (60 : Int) < (rw'.length : Int) ∨ (rw'.length : Int) ≤ 60 := by omega
      subst h2
      go_wp2_with fail
      go_meet
      case rel => exact ⟨rfl, rfl⟩
  case rest =>
    obtain ⟨rfl, hwc⟩ := hcut
    rw [hwc]
    clear hwc
    go_wp2_with fail
    with_reducible refine HPr.out.mono ?_
    rintro e w' ⟨rfl, rfl⟩
    rw [hK]
    go_upto_region 4 with fail
    clear HPr hcell hK
    go_cut [14] from 33 to 62 (fun s14 W2 => LaidX w s14 W2)
    case first =>
      obtain ⟨hmb, hmb', hmb0, hmbc⟩ := HMb.out
      obtain ⟨hm3, hm3', hm3'', hm30, hm3c⟩ := HM3.out
      refine wp_region_held_drew (S := fun _ => True) (by kernel_rfl) trivial (fun hHeld => ?_)
      refine wpAnyH_take (i := 0) (oi := { dst := some 37, op := Op.move (Operand.tmp 1), type := 30, pos := "law.go:228", after := #[], guard := none }) (v := ?_) rfl (by kernel_rfl) (by kernel_rfl) (by kernel_rfl) (fun _ _ _ h => h) (Or.inl ⟨by rfl, ?_⟩) (by assumption) ?_
      rotate_left 1
      · intro w hSw; (try dsimp only at hSw); go_simp; all_goals (with_reducible rfl)
      try simp only [Act.put, List.setIfInBounds_toArray, List.set_cons_zero, List.set_cons_succ]
      refine wpAnyH_take (i := 1) (oi := { dst := some 38, op := Op.move (Operand.tmp 1), type := 30, pos := "law.go:228", after := #[], guard := none }) (v := ?_) rfl (by kernel_rfl) (by kernel_rfl) (by kernel_rfl) (fun _ _ _ h => h) (Or.inl ⟨by rfl, ?_⟩) (by assumption) ?_
      rotate_left 1
      · intro w hSw; (try dsimp only at hSw); go_simp; all_goals (with_reducible rfl)
      try simp only [Act.put, List.setIfInBounds_toArray, List.set_cons_zero, List.set_cons_succ]
      refine wpAnyH_take (i := 2) (oi := { dst := some 39, op := Op.call { callee := Callee.builtin Builtin.len, args := #[Operand.tmp 38], argTypes := #[30] }, type := 3, pos := "law.go:228", after := #[{ on := 1, ground := Ground.data }], guard := none }) (v := ?_) rfl (by kernel_rfl) (by kernel_rfl) (by kernel_rfl) (fun _ _ _ h => h) (Or.inl ⟨by rfl, ?_⟩) (by assumption) ?_
      rotate_left 1
      · intro w hSw; (try dsimp only at hSw); go_simp; all_goals (with_reducible rfl)
      try simp only [Act.put, List.setIfInBounds_toArray, List.set_cons_zero, List.set_cons_succ]
      refine wpAnyH_take (i := 3) (oi := { dst := some 40, op := Op.move (Operand.tmp 0), type := 3, pos := "law.go:228", after := #[], guard := none }) (v := ?_) rfl (by kernel_rfl) (by kernel_rfl) (by kernel_rfl) (fun _ _ _ h => h) (Or.inl ⟨by rfl, ?_⟩) (by assumption) ?_
      rotate_left 1
      · intro w hSw; (try dsimp only at hSw); go_simp; all_goals (with_reducible rfl)
      try simp only [Act.put, List.setIfInBounds_toArray, List.set_cons_zero, List.set_cons_succ]
      refine wpAnyH_take (i := 4) (oi := { dst := some 41, op := Op.call { callee := Callee.builtin Builtin.min, args := #[Operand.tmp 39, Operand.tmp 40], argTypes := #[3, 3] }, type := 3, pos := "law.go:228", after := #[{ on := 2, ground := Ground.data }, { on := 3, ground := Ground.data }], guard := none }) (v := ?_) rfl (by kernel_rfl) (by kernel_rfl) (by kernel_rfl) (fun _ _ _ h => h) (Or.inl ⟨by rfl, ?_⟩) (by assumption) ?_
      rotate_left 1
      · intro w hSw; (try dsimp only at hSw); go_simp; all_goals (with_reducible rfl)
      try simp only [Act.put, List.setIfInBounds_toArray, List.set_cons_zero, List.set_cons_succ]
      refine wpAnyH_take (i := 5) (oi := { dst := some 42, op := Op.slice 30 (Operand.tmp 37) none (some (Operand.tmp 41)) none, type := 30, pos := "law.go:228", after := #[{ on := 0, ground := Ground.data }, { on := 4, ground := Ground.data }], guard := none }) (v := ?_) rfl (by kernel_rfl) (by kernel_rfl) (by kernel_rfl) (fun _ _ _ h => h) (Or.inl ⟨by rfl, ?_⟩) (by assumption) ?_
      rotate_left 1
      · intro w hSw; (try dsimp only at hSw); go_simp; all_goals (with_reducible rfl)
      try simp only [Act.put, List.setIfInBounds_toArray, List.set_cons_zero, List.set_cons_succ]
      refine wpAnyH_take (i := 9) (oi := { dst := some 46, op := Op.move (Operand.tmp 5), type := 3, pos := "law.go:228", after := #[], guard := none }) (v := ?_) rfl (by kernel_rfl) (by kernel_rfl) (by kernel_rfl) (fun _ _ _ h => h) (Or.inl ⟨by rfl, ?_⟩) (by assumption) ?_
      rotate_left 1
      · intro w hSw; (try dsimp only at hSw); go_simp; all_goals (with_reducible rfl)
      try simp only [Act.put, List.setIfInBounds_toArray, List.set_cons_zero, List.set_cons_succ]
      refine wpAnyH_take (i := 14) (oi := { dst := some 51, op := Op.move (Operand.tmp 4), type := 30, pos := "law.go:228", after := #[], guard := none }) (v := ?_) rfl (by kernel_rfl) (by kernel_rfl) (by kernel_rfl) (fun _ _ _ h => h) (Or.inl ⟨by rfl, ?_⟩) (by assumption) ?_
      rotate_left 1
      · intro w hSw; (try dsimp only at hSw); go_simp; all_goals (with_reducible rfl)
      try simp only [Act.put, List.setIfInBounds_toArray, List.set_cons_zero, List.set_cons_succ]
      refine wpAnyH_take (i := 15) (oi := { dst := some 52, op := Op.move (Operand.tmp 4), type := 30, pos := "law.go:228", after := #[], guard := none }) (v := ?_) rfl (by kernel_rfl) (by kernel_rfl) (by kernel_rfl) (fun _ _ _ h => h) (Or.inl ⟨by rfl, ?_⟩) (by assumption) ?_
      rotate_left 1
      · intro w hSw; (try dsimp only at hSw); go_simp; all_goals (with_reducible rfl)
      try simp only [Act.put, List.setIfInBounds_toArray, List.set_cons_zero, List.set_cons_succ]
      refine wpAnyH_take (i := 16) (oi := { dst := some 53, op := Op.call { callee := Callee.builtin Builtin.len, args := #[Operand.tmp 52], argTypes := #[30] }, type := 3, pos := "law.go:228", after := #[{ on := 15, ground := Ground.data }], guard := none }) (v := ?_) rfl (by kernel_rfl) (by kernel_rfl) (by kernel_rfl) (fun _ _ _ h => h) (Or.inl ⟨by rfl, ?_⟩) (by assumption) ?_
      rotate_left 1
      · intro w hSw; (try dsimp only at hSw); go_simp; all_goals (with_reducible rfl)
      try simp only [Act.put, List.setIfInBounds_toArray, List.set_cons_zero, List.set_cons_succ]
      refine wpAnyH_take (i := 17) (oi := { dst := some 54, op := Op.call { callee := Callee.builtin Builtin.min, args := #[Operand.tmp 53, Operand.const (Value.int IntKind.i64 30)], argTypes := #[3, 3] }, type := 3, pos := "law.go:228", after := #[{ on := 16, ground := Ground.data }], guard := none }) (v := ?_) rfl (by kernel_rfl) (by kernel_rfl) (by kernel_rfl) (fun _ _ _ h => h) (Or.inl ⟨by rfl, ?_⟩) (by assumption) ?_
      rotate_left 1
      · intro w hSw; (try dsimp only at hSw); go_simp; all_goals (with_reducible rfl)
      try simp only [Act.put, List.setIfInBounds_toArray, List.set_cons_zero, List.set_cons_succ]
      refine wpAnyH_take (i := 18) (oi := { dst := some 55, op := Op.slice 30 (Operand.tmp 51) none (some (Operand.tmp 54)) none, type := 30, pos := "law.go:228", after := #[{ on := 14, ground := Ground.data }, { on := 17, ground := Ground.data }], guard := none }) (v := ?_) rfl (by kernel_rfl) (by kernel_rfl) (by kernel_rfl) (fun _ _ _ h => h) (Or.inl ⟨by rfl, ?_⟩) (by assumption) ?_
      rotate_left 1
      · intro w hSw; (try dsimp only at hSw); go_simp; all_goals (with_reducible rfl)
      try simp only [Act.put, List.setIfInBounds_toArray, List.set_cons_zero, List.set_cons_succ]
      refine wpAnyH_ready (rs := [6]) (by kernel_rfl) (by simp) ?_
      refine AllReadyH.cons (o := { dst := some 43, op := Op.call { callee := Callee.value (Operand.func 9), args := #[Operand.tmp 42], argTypes := #[30] }, type := 30, pos := "law.go:228", after := #[{ on := 5, ground := Ground.data }], guard := none }) rfl (fun K hK => ?_) AllReadyH.nil
      go_simp
      with_reducible refine (HB1.out w.drew (Kp.refl No w).drew).mono ?_
      rintro e W1 ⟨v1, rfl, hb1, hk1⟩
      have hcv1 := conv_tx hb1
      have HK1 := Hid_mk hk1
      clear hb1 hk1
      refine hK.out _ _ trivial (fun hHeld => ?_)
      clear hK K
      try simp only [Act.put, List.setIfInBounds_toArray, List.set_cons_zero, List.set_cons_succ]
      refine wpAnyH_ready (rs := [7]) (by kernel_rfl) (by simp) ?_
      refine AllReadyH.cons (o := { dst := some 44, op := Op.convert 30 9 (Operand.tmp 43), type := 9, pos := "law.go:228", after := #[{ on := 6, ground := Ground.data }], guard := none }) rfl (fun K hK => ?_) AllReadyH.nil
      go_simp
      clear hcv1
      refine hK.out _ _ trivial (fun hHeld => ?_)
      clear hK K
      try simp only [Act.put, List.setIfInBounds_toArray, List.set_cons_zero, List.set_cons_succ]
      refine wpAnyH_ready (rs := [8]) (by kernel_rfl) (by simp) ?_
      refine AllReadyH.cons (o := { dst := some 45, op := Op.call { callee := Callee.value (Operand.func 21), args := #[Operand.tmp 44], argTypes := #[9] }, type := 30, pos := "law.go:228", after := #[{ on := 7, ground := Ground.data }, { on := 6, ground := Ground.chain }], guard := none }) rfl (fun K hK => ?_) AllReadyH.nil
      go_simp
      with_reducible refine (HT1.out W1 HK1.out).mono ?_
      rintro e W2 ⟨v2, rfl, ho2, hk2⟩
      have HO2 := Hid_mk ho2
      have HK2 := Hid_mk hk2
      clear ho2 hk2
      refine hK.out _ _ trivial (fun hHeld => ?_)
      clear hK K
      try simp only [Act.put, List.setIfInBounds_toArray, List.set_cons_zero, List.set_cons_succ]
      refine wpAnyH_ready (rs := [10]) (by kernel_rfl) (by simp) ?_
      refine AllReadyH.cons (o := { dst := some 47, op := Op.call { callee := Callee.value (Operand.func 6), args := #[Operand.tmp 46, Operand.const (Value.int IntKind.i64 4)], argTypes := #[3, 3] }, type := 3, pos := "law.go:228", after := #[{ on := 9, ground := Ground.data }, { on := 8, ground := Ground.chain }], guard := none }) rfl (fun K hK => ?_) AllReadyH.nil
      go_simp
      with_reducible refine (HPf.out _).mono ?_
      rintro e w' ⟨rfl, rfl⟩
      rw [hF]
      refine hK.out _ _ trivial (fun hHeld => ?_)
      clear hK K
      try simp only [Act.put, List.setIfInBounds_toArray, List.set_cons_zero, List.set_cons_succ]
      refine wpAnyH_take (i := 11) (oi := { dst := some 48, op := Op.convert 3 5 (Operand.tmp 47), type := 5, pos := "law.go:228", after := #[{ on := 10, ground := Ground.data }], guard := none }) (v := ?_) rfl (by kernel_rfl) (by kernel_rfl) (by kernel_rfl) (fun _ _ _ h => h) (Or.inl ⟨by rfl, ?_⟩) (by assumption) ?_
      rotate_left 1
      · intro w hSw; (try dsimp only at hSw); go_simp; all_goals (with_reducible rfl)
      try simp only [Act.put, List.setIfInBounds_toArray, List.set_cons_zero, List.set_cons_succ]
      refine wpAnyH_ready (rs := [12]) (by kernel_rfl) (by simp) ?_
      refine AllReadyH.cons (o := { dst := some 49, op := Op.buildSlice 30 1 #[(0, Operand.tmp 48)], type := 30, pos := "law.go:228", after := #[{ on := 11, ground := Ground.data }], guard := none }) rfl (fun K hK => ?_) AllReadyH.nil
      go_simp
      refine hK.out _ _ trivial (fun hHeld => ?_)
      clear hK K
      try simp only [Act.put, List.setIfInBounds_toArray, List.set_cons_zero, List.set_cons_succ]
      refine wpAnyH_ready (rs := [13]) (by kernel_rfl) (by simp) ?_
      refine AllReadyH.cons (o := { dst := some 50, op := Op.call { callee := Callee.builtin Builtin.append, args := #[Operand.tmp 45, Operand.tmp 49], argTypes := #[30, 30] }, type := 30, pos := "law.go:228", after := #[{ on := 8, ground := Ground.data }, { on := 12, ground := Ground.data }, { on := 10, ground := Ground.chain }], guard := none }) rfl (fun K hK => ?_) AllReadyH.nil
      refine lst.step_append_bs _ (by rfl) _ _ (by rfl) w.heap.size v2 (textS (kindsOf bb)) (by rfl) (owns_kept HO2.out ((Kp.refl No W2).alloc _) (fun _ _ => id)) _ [F.toUInt8] (by rfl) (bs_lit1 W2 _ _ HFu.out) HL1.out (by have := HK2.out.size; first | (simp; done) | (simp; omega) | omega) ?_
      intro v3 W3 happ
      have HO3 := Hid_mk happ.1
      have HK3 : Hid (Kp No w W3) := Hid_mk ((HK2.out.alloc _).grown happ.2.1 fun k hk e => by have := (HO2.out.lt k e).1; omega)
      clear happ
      refine hK.out _ _ trivial (fun hHeld => ?_)
      clear hK K
      try simp only [Act.put, List.setIfInBounds_toArray, List.set_cons_zero, List.set_cons_succ]
      refine wpAnyH_ready (rs := [19]) (by kernel_rfl) (by simp) ?_
      refine AllReadyH.cons (o := { dst := some 56, op := Op.call { callee := Callee.value (Operand.func 9), args := #[Operand.tmp 55], argTypes := #[30] }, type := 30, pos := "law.go:228", after := #[{ on := 18, ground := Ground.data }, { on := 13, ground := Ground.chain }], guard := none }) rfl (fun K hK => ?_) AllReadyH.nil
      go_simp
      with_reducible refine (HB3.out W3 HK3.out).mono ?_
      rintro e W4 ⟨v4, rfl, hb4, hk4⟩
      have hcv4 := conv_tx hb4
      have HK4 : Hid (Kp No w W4) := Hid_mk (HK3.out.trans' hk4)
      have HO4 := Hid_mk (owns_kept HO3.out hk4 fun _ _ => id)
      clear hb4 hk4
      refine hK.out _ _ trivial (fun hHeld => ?_)
      clear hK K
      try simp only [Act.put, List.setIfInBounds_toArray, List.set_cons_zero, List.set_cons_succ]
      refine wpAnyH_ready (rs := [20]) (by kernel_rfl) (by simp) ?_
      refine AllReadyH.cons (o := { dst := some 57, op := Op.convert 30 9 (Operand.tmp 56), type := 9, pos := "law.go:228", after := #[{ on := 19, ground := Ground.data }], guard := none }) rfl (fun K hK => ?_) AllReadyH.nil
      go_simp
      clear hcv4
      refine hK.out _ _ trivial (fun hHeld => ?_)
      clear hK K
      try simp only [Act.put, List.setIfInBounds_toArray, List.set_cons_zero, List.set_cons_succ]
      refine wpAnyH_ready (rs := [21]) (by kernel_rfl) (by simp) ?_
      refine AllReadyH.cons (o := { dst := some 58, op := Op.call { callee := Callee.value (Operand.func 21), args := #[Operand.tmp 57], argTypes := #[9] }, type := 30, pos := "law.go:228", after := #[{ on := 20, ground := Ground.data }, { on := 19, ground := Ground.chain }], guard := none }) rfl (fun K hK => ?_) AllReadyH.nil
      go_simp
      with_reducible refine (HT3.out W4 HK4.out).mono ?_
      rintro e W5 ⟨v5, rfl, hb5, hk5⟩
      have HB5 := Hid_mk hb5
      have HK5 : Hid (Kp No w W5) := Hid_mk (HK4.out.trans' hk5)
      have HO5 := Hid_mk (owns_kept HO4.out hk5 fun _ _ => id)
      clear hb5 hk5
      refine hK.out _ _ trivial (fun hHeld => ?_)
      clear hK K
      try simp only [Act.put, List.setIfInBounds_toArray, List.set_cons_zero, List.set_cons_succ]
      refine wpAnyH_ready (rs := [22]) (by kernel_rfl) (by simp) ?_
      refine AllReadyH.cons (o := { dst := some 59, op := Op.call { callee := Callee.builtin Builtin.append, args := #[Operand.tmp 50, Operand.tmp 58], argTypes := #[30, 30] }, type := 30, pos := "law.go:228", after := #[{ on := 13, ground := Ground.data }, { on := 21, ground := Ground.data }, { on := 21, ground := Ground.chain }], guard := none }) rfl (fun K hK => ?_) AllReadyH.nil
      refine lst.step_append_bs _ (by rfl) _ _ (by rfl) w.heap.size v3 (textS (kindsOf bb) ++ [F.toUInt8]) (by rfl) HO5.out _ (textS (kindsOf r3)) (by rfl) HB5.out HL2.out HK5.out.size ?_
      intro v6 W6 happ
      have HO6 := Hid_mk happ.1
      have HK6 : Hid (Kp No w W6) := Hid_mk (HK5.out.grown happ.2.1 fun k hk e => by have := (HO5.out.lt k e).1; omega)
      clear happ
      refine hK.out _ _ trivial (fun hHeld => ?_)
      clear hK K
      try simp only [Act.put, List.setIfInBounds_toArray, List.set_cons_zero, List.set_cons_succ]
      refine wpAnyH_take (i := 23) (oi := { dst := some 14, op := Op.assign (Operand.tmp 59), type := 30, pos := "law.go:228", after := #[{ on := 22, ground := Ground.data }, { on := 22, ground := Ground.chain }, { on := 0, ground := Ground.phase }, { on := 1, ground := Ground.phase }, { on := 2, ground := Ground.phase }, { on := 3, ground := Ground.phase }, { on := 4, ground := Ground.phase }, { on := 5, ground := Ground.phase }, { on := 6, ground := Ground.phase }, { on := 7, ground := Ground.phase }, { on := 8, ground := Ground.phase }, { on := 9, ground := Ground.phase }, { on := 10, ground := Ground.phase }, { on := 11, ground := Ground.phase }, { on := 12, ground := Ground.phase }, { on := 13, ground := Ground.phase }, { on := 14, ground := Ground.phase }, { on := 15, ground := Ground.phase }, { on := 16, ground := Ground.phase }, { on := 17, ground := Ground.phase }, { on := 18, ground := Ground.phase }, { on := 19, ground := Ground.phase }, { on := 20, ground := Ground.phase }, { on := 21, ground := Ground.phase }, { on := 22, ground := Ground.phase }], guard := none }) (v := ?_) rfl (by kernel_rfl) (by kernel_rfl) (by kernel_rfl) (fun _ _ _ h => h) (Or.inl ⟨by rfl, ?_⟩) (by assumption) ?_
      rotate_left 1
      · intro w hSw; (try dsimp only at hSw); go_simp; all_goals (with_reducible rfl)
      try simp only [Act.put, List.setIfInBounds_toArray, List.set_cons_zero, List.set_cons_succ]
      refine wpAnyH_done (by kernel_rfl) ?_ _
      go_wp2_with fail
      go_meet
      case rel =>
        have hb6 := owns_bs HO6.out
        obtain ⟨a6, c6, e6, -⟩ := id hb6
        exact ⟨a6, c6, _, e6, hb6, HXl.out, HK6.out⟩
    case rest =>
      rename_i hgo
      clear HB1 HB3 HT1 HT3 HFu HL1 HL2 HXl HMb HM3 HPf hF hF0 hFm hFw hF4 HS6
      obtain ⟨W1, hW1⟩ : ∃ W1, W1 = wc := ⟨_, rfl⟩
      rw [← hW1] at hcut ⊢
      clear hW1
      have hcutA := hcut
      clear hcut
      refine hgo _ _ ?_
      clear hgo
      go_step
      go_cut [14] from 60 to 63 (fun s14 W2 => LaidX w s14 W2)
      case first =>
        obtain ⟨ax, cx, xs, rfl, hbx, hxl, hkx⟩ := hcutA
        have HX := Hid_mk (And.intro hbx (And.intro hxl hkx))
        clear hbx hxl hkx
        by_cases h5 : flag.tmod 5 = 4
        · have h5b : (flag.tmod 5 == 4) = true := by simp [h5]
          go_wp2_with fail
          go_meet
          case rel =>
            have hl := HL6.out
            have hr := HR6.out
            refine ⟨ar, cr, r6, by rw [hr], ?_, by omega, HX.out.2.2⟩
            exact bs_no HB6.out HX.out.2.2
        · have h5' : (flag.tmod 5 == 4) = false := by simpa using h5
          go_wp2_with fail
          go_meet
          case rel => exact ⟨ax, cx, xs, rfl, HX.out.1, HX.out.2.1, HX.out.2.2⟩
      case rest =>
        clear hcutA HB6 HL6 HR6 HB6c
        obtain ⟨ax, cx, xs, rfl, hbx, hxl, hkx⟩ := hcut
        obtain ⟨W2, hW2⟩ : ∃ W2, W2 = wc := ⟨_, rfl⟩
        rw [← hW2] at hbx hkx ⊢
        obtain ⟨R, hR⟩ : ∃ R, readS m xs 0 0 = R := ⟨_, rfl⟩
        have hok := readS_ok m xs 0 0
        rw [hR] at hok
        obtain ⟨t, a9, b9⟩ := R
        have HOk : Hid (OkS m t ∧ t.rest.length ≤ 2048) := Hid_mk hok
        have HNr := Hid_mk (rd_new W2 _ xs hbx (by omega))
        have HBx := Hid_mk hbx
        have HKx := Hid_mk hkx
        have HXl := Hid_mk hxl
        have HR := Hid_mk hR
        clear hW2 hok hbx hkx hxl hR
        go_wp2_with fail
        with_reducible refine HNr.out.mono ?_
        rintro e W3 ⟨p1, v1, rfl, hp1, hrd3, hk3, hv1⟩
        have hp1l := hrd3.lt
        have hk24 := hk3.alloc (.cells #[.slice ax xs.length cx, .int .i64 0, .int .i64 0] 52)
        have hrd4 : reader.Rd (W3.alloc (.cells #[.slice ax xs.length cx, .int .i64 0, .int .i64 0] 52)) p1 v1 xs 0 0 := hrd3.kept ((Kp.refl No W3).alloc _) id fun _ _ _ _ _ => id
        have hrr4 : ref.RR (W3.alloc (.cells #[.slice ax xs.length cx, .int .i64 0, .int .i64 0] 52)) W3.heap.size (.slice ax xs.length cx) xs 0 0 :=
          ⟨by simp, by simp, by simp, fun o => by simp, bs_no HBx.out hk24, fun hne b o n c e => by
            have h1 := bs_lt HBx.out hne b o n c e
            have h2 := hk3.size
            omega, Nat.zero_le _, by have := HXl.out; omega⟩
        obtain ⟨W4, hW4⟩ : ∃ W4, W3.alloc (.cells #[.slice ax xs.length cx, .int .i64 0, .int .i64 0] 52) = W4 := ⟨_, rfl⟩
        obtain ⟨p2, hp2⟩ : ∃ p2, W3.heap.size = p2 := ⟨_, rfl⟩
        have hz4 : W4.heap.size = p2 + 1 := by rw [← hW4, ← hp2]; simp
        rw [hW4] at hrd4 hrr4 hk24
        rw [hp2] at hrr4 hp1l
        have hz2 := hk3.size
        rw [hp2] at hz2
        have HSr := Hid_mk (spread_any W4 p1 v1 xs 0 0 m hrd4 (fun g hg => by have := (hv1 g hg).2; omega) hm1 (by omega))
        rw [HR.out] at HSr
        have HRr4 := Hid_mk hrr4
        have HK4 := Hid_mk (HKx.out.trans' hk24)
        have HV1 := Hid_mk fun g hg => (show g < p2 by have := (hv1 g hg).2; omega)
        have HV1b := Hid_mk fun g hg => (hv1 g hg).1
        have HW4 := Hid_mk hW4
        have HP2 := Hid_mk hp2
        have HNum : Hid (W2.heap.size ≤ p1 ∧ p1 < p2 ∧ W4.heap.size = p2 + 1 ∧ W2.heap.size ≤ p2 ∧ w.heap.size ≤ W2.heap.size) := Hid_mk ⟨hp1, hp1l, hz4, hz2, HKx.out.size⟩
        clear hrd3 hk3 hv1 hp1 hp1l hk24 hrd4 hrr4 hW4 hp2 hz4 hz2 HNr
        go_wp2_with fail
        rw [HW4.out, HP2.out]
        clear HW4 HP2
        with_reducible refine HSr.out.mono ?_
        rintro e W5 ⟨p, ρ, rfl, hsp5, hrd5, hk5⟩
        have hxb : ∀ b o n c, xs ≠ [] → (Value.slice ax xs.length cx) = .slice (some ⟨b, o, none⟩) n c → b ≠ p1 := fun b o n c hne e => by
          have h1 := bs_lt HBx.out hne b o n c e
          have := HNum.out
          omega
        have hrr5 := HRr4.out.kept hk5 (by have := HNum.out; omega) (fun hne b o n c e => hxb b o n c hne e)
        have HRr := Hid_mk (rread_any W5 p2 _ xs 0 0 m hrr5 hm1 (by omega))
        rw [HR.out] at HRr
        have HSp5 := Hid_mk hsp5
        have HRd5 := Hid_mk hrd5
        have HK5 : Hid (Kp No w W5) := Hid_mk (HK4.out.trans hk5 fun i hi e => by have := HNum.out; omega)
        have HZ5 := Hid_mk hk5.size
        clear hsp5 hrd5 hk5 hxb hrr5 HSr HRr4 HK4 HR
        go_wp2_with fail
        with_reducible refine HRr.out.mono ?_
        rintro e W6 ⟨r, rfl, hr5, hrs6, hrr6, hk6⟩
        have hlow := HSp5.out.low
        have HTw : Hid (Tw w W6 W4.heap.size p r ρ m t t) := Hid_mk (by
          have hn := HNum.out
          have hz5 := HZ5.out
          have hz6 := hk6.size
          have hrl : r < W6.heap.size := by obtain ⟨_, _, hh⟩ := hrs6; exact hh.lt
          have hno : ∀ k, W5.heap.size ≤ k → ρ k = false := fun k hk => by
            cases hρ : ρ k with
            | false => rfl
            | true => have := (hlow k hρ).2; omega
          exact ⟨HSp5.out.kept hk6 fun k hk e => by have := (hlow k hk).1; omega,
            hrs6.wider (fun x hx => ⟨hno x hx.1, hx.2⟩) (fun h => h.2 rfl) (fun k hk => ⟨hno k (by omega), by omega⟩),
            hno r hr5, HK5.out.trans hk6 fun i hi e => by omega, by omega, by omega⟩)
        have HRd6 : Hid (reader.Rd W6 p1 v1 xs a9 b9) := Hid_mk (HRd5.out.kept hk6 (by have := HNum.out; omega) (fun b o n c e => by
          have := HV1.out b (by rw [e]; rfl)
          omega))
        have HRr6 := Hid_mk hrr6
        clear hr5 hrs6 hrr6 hk6 hlow HSp5 HRd5 HRr HZ5 HK5 HV1b
        have HKn := Hid_mk (splitknown_any splitC W6)
        go_wp2_with fail
        with_reducible refine HKn.out.mono ?_
        rintro e W7 ⟨rfl, hk7⟩
        have HE1 := Hid_mk (reader.end_any W7 p1 v1 xs a9 b9 (HRd6.out.kept hk7 id fun _ _ _ _ _ => id))
        have HK7 := Hid_mk hk7
        clear hk7 HKn HRd6
        go_wp2_with fail
        with_reducible refine HE1.out.mono ?_
        rintro e W8 ⟨rfl, n8, hw8⟩
        have hk78 : Kp No W7 W8 := by rw [hw8]; exact (Kp.refl No W7).drewN n8
        have HE2 := Hid_mk (ref.end_any W8 p2 _ xs a9 b9 ((HRr6.out.same HK7.out).same hk78))
        have HK8 := Hid_mk (HK7.out.trans' hk78)
        clear hk78 hw8 HK7 HE1
        go_wp2_with fail
        with_reducible refine HE2.out.mono ?_
        rintro e W9 ⟨rfl, hk9⟩
        have HK9 := Hid_mk (HK8.out.trans' hk9)
        have HN3 := Hid_mk (rd_new W9 _ xs (bs_no HRr6.out.reads HK9.out) (by have := HXl.out; omega))
        clear hk9 HK8 HE2 HRr6 HBx HKx HNum HV1
        go_wp2_with fail
        with_reducible refine HN3.out.mono ?_
        rintro e W10 ⟨p3, v3, rfl, -, -, hk10, -⟩
        have HRn := Hid_mk (spread_no W10 p3 0 (.inl (by omega)))
        have HT10 := Hid_mk (HTw.out.no (HK9.out.trans' hk10))
        clear hk10 HN3 HTw HK9
        go_wp2_with fail
        with_reducible refine HRn.out.mono ?_
        rintro e W' ⟨rfl, rfl⟩
        have HNw := Hid_mk (writer.new_any W')
        clear HRn
        go_wp2_with fail
        with_reducible refine HNw.out.mono ?_
        rintro e W11 ⟨rfl, hwr2, hk2⟩
        obtain ⟨base, hbase⟩ : ∃ base, W4.heap.size = base := ⟨_, rfl⟩
        rw [hbase] at HT10
        have HT2 := Hid_mk (HT10.out.no hk2)
        have hpw : ρ W'.heap.size = false := (HT10.out.new (Nat.le_refl _)).1
        have HLy := Hid_mk (splay_any W11 base p ρ m t W'.heap.size W'.heap.size (.slice none 0 0) [] HT2.out.sp hwr2 hpw (fun g e => by simp [Value.ownBlock] at e) (by have := HOk.out; unfold OkS at this; simp only [List.length_nil]; omega))
        have HPw := Hid_mk hpw
        have HK2 := Hid_mk hk2
        clear hwr2 hk2 hpw HNw hbase
        go_wp2_with fail
        with_reducible refine HLy.out.mono ?_
        intro e W12 hpost
        obtain ⟨he, hs3, v3', hat3, -⟩ := wr_beside HT2.out.sp HPw.out (fun g e => by simp [Value.ownBlock] at e) hpost
        subst he
        have hk3 : Kp No W' W12 := HK2.out.trans hat3.2.1 fun i hi e => by
          rcases e with e | e
          · omega
          · simp [Value.ownBlock] at e
        have HT3 := Hid_mk (HT10.out.no hk3)
        have hwr3 : Wr W'.heap.size W12 W'.heap.size v3' (laidS t) := hat3.1
        have hlen : (laidS t).length ≤ 140737488355328 := by
          have hh := HOk.out
          unfold OkS at hh
          have h1 := textS_len t.held (by omega)
          have h2 := textS_len t.rest (by omega)
          unfold laidS
          simp only [List.length_append, List.length_singleton]
          omega
        have HCB := Hid_mk fun V (hV : Kp No W12 V) => (show Calls Tryd.prog 18 #[.pointer (some ⟨W'.heap.size, 0, none⟩)] V fun e V' => ∃ v, e = .returned v ∧ Bs V' v (laidS t) ∧ Kp No W12 V' by
          refine (clone.bytes_any W'.heap.size W'.heap.size V v3' (laidS t) (hwr3.kept hV id fun _ _ => id) hlen).mono ?_
          rintro e V' ⟨v, rfl, ho, hk⟩
          exact ⟨v, rfl, owns_bs ho, hV.trans' hk⟩)
        have HCL := Hid_mk fun V v (hV : Kp No W12 V) (hv : Bs V v (laidS t)) => (show Calls Tryd.prog 19 #[.pointer (some ⟨r, 0, none⟩)] V fun e V' => ∃ v', e = .returned v' ∧ Bs V' v' (laidS t) ∧ Bs V' v (laidS t) ∧ Kp No W12 V' by
          refine (rlay_any (Oth ρ r) V r m t (HT3.out.no hV).rs (by have := HOk.out; unfold OkS at this; omega)).mono ?_
          rintro e V' ⟨v', rfl, ho, hk⟩
          exact ⟨v', rfl, owns_bs ho, bs_no hv hk, hV.trans' hk⟩)
        clear hpost hat3 hs3 hk3 hwr3 hlen HLy HT2 HT10 HK2 HPw
        dsimp only
        repeat ((fail_if_success (with_reducible show Code.wp _ (Code.seq (Code.region 15 _ _) _) _ _ _)); first | go_values | go_skip | go_guarded | go_step | go_upon | go_back)
        go_cut [] from 102 to 108 (fun wc => Tw w wc base p r ρ m t t)
        case first =>
          go_wp2_with fail
          go_region_with (first
            | (go_at_call 18; with_reducible refine (HCB.out W12.drew (Kp.refl No W12).drew).mono ?_; rintro e W13 ⟨v6, rfl, hb6, hk6⟩; have hcv6 := conv_tx hb6; have HB6 := Hid_mk hb6; have HK6 := Hid_mk hk6; clear hb6 hk6)
            | (go_at_call 19; with_reducible refine (HCL.out W13 v6 HK6.out HB6.out).mono ?_; rintro e WZ ⟨v7, rfl, hb7, hbb7, hk7⟩; have hcv7 := conv_tx hb7; have hcvb7 := conv_tx hbb7; have HTZ := Hid_mk (HT3.out.no hk7); clear hb7 hbb7 hk7))
          all_goals
            go_wp2_with fail
            go_meet
            case rel => exact HTZ.out
        case rest =>
          obtain ⟨WB, hWB⟩ : ∃ WB, WB = wc := ⟨_, rfl⟩
          rw [← hWB] at hcut ⊢
          have HTB := Hid_mk hcut
          clear hWB hcut HT3 HCB HCL
          have HKl : Hid ((kindsOf mm).length = Lm ∧ mm.length = Lm ∧ Lm ≤ 60) := Hid_mk (by have := HMl.out; unfold kindsOf; rw [List.length_map]; omega)
          obtain ⟨hmm1, hmm2, hmm3, hmm0, hmmc⟩ := HMm.out
          go_wp2_with fail
          with_reducible refine (HBm.out WB HTB.out.kp).mono ?_
          rintro e W14 ⟨rfl, hb14, hk14⟩
          have HT14 := Hid_mk (HTB.out.no hk14)
          have HFd := Hid_mk (feed_any W14 base p ρ m t _ (kindsOf mm) HT14.out.sp hb14 (by have := HOk.out; have := HKl.out; omega))
          clear hb14 hk14 HTB
          go_wp2_with fail
          with_reducible refine HFd.out.mono ?_
          intro e W15 hpost
          obtain ⟨he, ρ3, ht3, f3⟩ := Tw.call1 HT14.out hpost
          subst he
          have HT15 := Hid_mk ht3
          clear hpost ht3 f3 HT14 HFd
          dsimp only
          repeat ((fail_if_success (with_reducible show Code.wp _ (Code.region 18 _ _) _ _ _)); first | go_values | go_skip | go_guarded | go_step | go_upon | go_back)
          go_cut [] from 117 to 132 (fun wc => Tw w wc base p r ρ3 m (feedS t (kindsOf mm)) (feedS t (kindsOf mm)))
          case first =>
            obtain ⟨WD, hWD⟩ : ∃ WD, WD = W15.drew := ⟨_, rfl⟩
            have HTD := Hid_mk (HT15.out.no (Kp.refl No W15).drew)
            rw [← hWD] at HTD
            obtain ⟨vh5, vr5, hh5⟩ := HTD.out.rs
            have c4 := hh5.c4
            have f4 := hh5.warm 4
            have hlr := hh5.lt
            have HRa := Hid_mk fun o => bs_no hh5.rest ((Kp.refl No WD).alloc o)
            obtain ⟨ar5, cr5, rfl, -, -, -⟩ := id hh5.rest
            have c4a := fun o => ((Kp.refl No WD).alloc o).cell' c4 id
            have HO0 : Hid ((WD.alloc (.cells #[] 5)).ownsRow WD.heap.size 5 1 (.slice (some ⟨WD.heap.size, 0, none⟩) 0 0) ([] : List UInt8).length (([] : List UInt8).map B)) := Hid_mk (World.ownsRow_made WD #[] 0 (Nat.le_refl _) (by decide) rfl)
            clear hh5
            refine wp_region_held_drew (S := fun _ => True) (by kernel_rfl) trivial (fun hHeld => ?_)
            rw [← hWD]
            clear hWD
            refine wpAnyH_take (i := 0) (oi := { dst := some 117, op := Op.move (Operand.tmp 18), type := 29, pos := "law.go:245", after := #[], guard := none }) (v := ?_) rfl (by kernel_rfl) (by kernel_rfl) (by kernel_rfl) (fun _ _ _ h => h) (Or.inl ⟨by rfl, ?_⟩) (by assumption) ?_
            rotate_left 1
            · intro w hSw; (try dsimp only at hSw); go_simp; all_goals (with_reducible rfl)
            try simp only [Act.put, List.setIfInBounds_toArray, List.set_cons_zero, List.set_cons_succ]
            refine wpAnyH_take (i := 2) (oi := { dst := some 119, op := Op.move (Operand.tmp 18), type := 29, pos := "law.go:245", after := #[], guard := none }) (v := ?_) rfl (by kernel_rfl) (by kernel_rfl) (by kernel_rfl) (fun _ _ _ h => h) (Or.inl ⟨by rfl, ?_⟩) (by assumption) ?_
            rotate_left 1
            · intro w hSw; (try dsimp only at hSw); go_simp; all_goals (with_reducible rfl)
            try simp only [Act.put, List.setIfInBounds_toArray, List.set_cons_zero, List.set_cons_succ]
            refine wpAnyH_take (i := 3) (oi := { dst := some 120, op := Op.nilCheck (Operand.tmp 119), type := 0, pos := "law.go:245", after := #[{ on := 2, ground := Ground.data }], guard := none }) (v := ?_) rfl (by kernel_rfl) (by kernel_rfl) (by kernel_rfl) (fun _ _ _ h => h) (Or.inl ⟨by rfl, ?_⟩) (by assumption) ?_
            rotate_left 1
            · intro w hSw; (try dsimp only at hSw); go_simp; all_goals (with_reducible rfl)
            try simp only [Act.put, List.setIfInBounds_toArray, List.set_cons_zero, List.set_cons_succ]
            refine wpAnyH_take (i := 4) (oi := { dst := some 121, op := Op.fieldAddr 32 (Operand.tmp 120) 4, type := 0, pos := "law.go:245", after := #[{ on := 3, ground := Ground.data }], guard := none }) (v := ?_) rfl (by kernel_rfl) (by kernel_rfl) (by kernel_rfl) (fun _ _ _ h => h) (Or.inl ⟨by rfl, ?_⟩) (by assumption) ?_
            rotate_left 1
            · intro w hSw; (try dsimp only at hSw); go_simp; all_goals (with_reducible rfl)
            try simp only [Act.put, List.setIfInBounds_toArray, List.set_cons_zero, List.set_cons_succ]
            refine wpAnyH_take (i := 7) (oi := { dst := some 124, op := Op.move (Operand.tmp 3), type := 30, pos := "law.go:245", after := #[], guard := none }) (v := ?_) rfl (by kernel_rfl) (by kernel_rfl) (by kernel_rfl) (fun _ _ _ h => h) (Or.inl ⟨by rfl, ?_⟩) (by assumption) ?_
            rotate_left 1
            · intro w hSw; (try dsimp only at hSw); go_simp; all_goals (with_reducible rfl)
            try simp only [Act.put, List.setIfInBounds_toArray, List.set_cons_zero, List.set_cons_succ]
            refine wpAnyH_take (i := 8) (oi := { dst := some 125, op := Op.move (Operand.tmp 3), type := 30, pos := "law.go:245", after := #[], guard := none }) (v := ?_) rfl (by kernel_rfl) (by kernel_rfl) (by kernel_rfl) (fun _ _ _ h => h) (Or.inl ⟨by rfl, ?_⟩) (by assumption) ?_
            rotate_left 1
            · intro w hSw; (try dsimp only at hSw); go_simp; all_goals (with_reducible rfl)
            try simp only [Act.put, List.setIfInBounds_toArray, List.set_cons_zero, List.set_cons_succ]
            refine wpAnyH_take (i := 9) (oi := { dst := some 126, op := Op.call { callee := Callee.builtin Builtin.len, args := #[Operand.tmp 125], argTypes := #[30] }, type := 3, pos := "law.go:245", after := #[{ on := 8, ground := Ground.data }], guard := none }) (v := ?_) rfl (by kernel_rfl) (by kernel_rfl) (by kernel_rfl) (fun _ _ _ h => h) (Or.inl ⟨by rfl, ?_⟩) (by assumption) ?_
            rotate_left 1
            · intro w hSw; (try dsimp only at hSw); go_simp; all_goals (with_reducible rfl)
            try simp only [Act.put, List.setIfInBounds_toArray, List.set_cons_zero, List.set_cons_succ]
            refine wpAnyH_take (i := 10) (oi := { dst := some 127, op := Op.call { callee := Callee.builtin Builtin.min, args := #[Operand.tmp 126, Operand.const (Value.int IntKind.i64 60)], argTypes := #[3, 3] }, type := 3, pos := "law.go:245", after := #[{ on := 9, ground := Ground.data }], guard := none }) (v := ?_) rfl (by kernel_rfl) (by kernel_rfl) (by kernel_rfl) (fun _ _ _ h => h) (Or.inl ⟨by rfl, ?_⟩) (by assumption) ?_
            rotate_left 1
            · intro w hSw; (try dsimp only at hSw); go_simp; all_goals (with_reducible rfl)
            try simp only [Act.put, List.setIfInBounds_toArray, List.set_cons_zero, List.set_cons_succ]
            refine wpAnyH_take (i := 11) (oi := { dst := some 128, op := Op.slice 30 (Operand.tmp 124) none (some (Operand.tmp 127)) none, type := 30, pos := "law.go:245", after := #[{ on := 7, ground := Ground.data }, { on := 10, ground := Ground.data }], guard := none }) (v := ?_) rfl (by kernel_rfl) (by kernel_rfl) (by kernel_rfl) (fun _ _ _ h => h) (Or.inl ⟨by rfl, ?_⟩) (by assumption) ?_
            rotate_left 1
            · intro w hSw; (try dsimp only at hSw); go_simp; all_goals (with_reducible rfl)
            try simp only [Act.put, List.setIfInBounds_toArray, List.set_cons_zero, List.set_cons_succ]
            refine wpAnyH_ready (rs := [1, 5]) (by kernel_rfl) (by simp) ?_
            refine AllReadyH.cons (o := { dst := some 118, op := Op.buildSlice 30 0 #[], type := 30, pos := "law.go:245", after := #[], guard := none }) rfl (fun K hK => ?_) (AllReadyH.cons (o := { dst := some 122, op := Op.load 30 (Operand.tmp 121), type := 30, pos := "law.go:245", after := #[{ on := 4, ground := Ground.data }], guard := none }) rfl (fun K hK => ?_) AllReadyH.nil)
            go_simp
            refine hK.out _ _ trivial (fun hHeld => ?_)
            clear hK K
            try simp only [Act.put, List.setIfInBounds_toArray, List.set_cons_zero, List.set_cons_succ]
            refine wpAnyH_ready (rs := [5]) (by kernel_rfl) (by simp) ?_
            refine AllReadyH.cons (o := { dst := some 122, op := Op.load 30 (Operand.tmp 121), type := 30, pos := "law.go:245", after := #[{ on := 4, ground := Ground.data }], guard := none }) rfl (fun K hK => ?_) AllReadyH.nil
            go_simp
            refine hK.out _ _ trivial (fun hHeld => ?_)
            clear hK K
            try simp only [Act.put, List.setIfInBounds_toArray, List.set_cons_zero, List.set_cons_succ]
            rotate_left 1
            go_simp
            refine hK.out _ _ trivial (fun hHeld => ?_)
            clear hK K
            try simp only [Act.put, List.setIfInBounds_toArray, List.set_cons_zero, List.set_cons_succ]
            refine wpAnyH_ready (rs := [1]) (by kernel_rfl) (by simp) ?_
            refine AllReadyH.cons (o := { dst := some 118, op := Op.buildSlice 30 0 #[], type := 30, pos := "law.go:245", after := #[], guard := none }) rfl (fun K hK => ?_) AllReadyH.nil
            go_simp
            refine hK.out _ _ trivial (fun hHeld => ?_)
            clear hK K
            try simp only [Act.put, List.setIfInBounds_toArray, List.set_cons_zero, List.set_cons_succ]
            rotate_left 1
            all_goals
              refine wpAnyH_ready (rs := [6]) (by kernel_rfl) (by simp) ?_
              refine AllReadyH.cons (o := { dst := some 123, op := Op.call { callee := Callee.builtin Builtin.append, args := #[Operand.tmp 118, Operand.tmp 122], argTypes := #[30, 30] }, type := 30, pos := "law.go:245", after := #[{ on := 1, ground := Ground.data }, { on := 5, ground := Ground.data }], guard := none }) rfl (fun K hK => ?_) AllReadyH.nil
              refine lst.step_append_bs _ (by rfl) _ _ (by rfl) WD.heap.size (.slice (some ⟨WD.heap.size, 0, none⟩) 0 0) [] (by rfl) HO0.out _ t.rest (by rfl) (HRa.out _) (by have := HOk.out; simp only [List.length_nil]; omega) (by simp) ?_
              intro v6 W16 happ
              have HO6 : Hid (W16.ownsRow WD.heap.size 5 1 v6 t.rest.length (t.rest.map B)) := Hid_mk (by simpa using happ.1)
              have hk6 : Kp No WD W16 := ((Kp.refl No WD).alloc _).grown happ.2.1 fun k hk e => by simp [Value.ownBlock] at e; omega
              have HK6 := Hid_mk hk6
              clear happ hk6
              refine hK.out _ _ trivial (fun hHeld => ?_)
              clear hK K
              try simp only [Act.put, List.setIfInBounds_toArray, List.set_cons_zero, List.set_cons_succ]
              refine wpAnyH_ready (rs := [12]) (by kernel_rfl) (by simp) ?_
              refine AllReadyH.cons (o := { dst := some 129, op := Op.call { callee := Callee.value (Operand.func 9), args := #[Operand.tmp 128], argTypes := #[30] }, type := 30, pos := "law.go:245", after := #[{ on := 11, ground := Ground.data }, { on := 6, ground := Ground.chain }], guard := none }) rfl (fun K hK => ?_) AllReadyH.nil
              go_simp
              with_reducible refine (HBm.out W16 (HTD.out.kp.trans' HK6.out)).mono ?_
              rintro e W17 ⟨rfl, hb17, hk17⟩
              have HB17 := Hid_mk hb17
              have HO17 := Hid_mk (owns_kept HO6.out hk17 fun _ _ => id)
              have HK17 := Hid_mk (HK6.out.trans' hk17)
              clear hb17 hk17
              refine hK.out _ _ trivial (fun hHeld => ?_)
              clear hK K
              try simp only [Act.put, List.setIfInBounds_toArray, List.set_cons_zero, List.set_cons_succ]
              refine wpAnyH_ready (rs := [13]) (by kernel_rfl) (by simp) ?_
              refine AllReadyH.cons (o := { dst := some 130, op := Op.call { callee := Callee.builtin Builtin.append, args := #[Operand.tmp 123, Operand.tmp 129], argTypes := #[30, 30] }, type := 30, pos := "law.go:245", after := #[{ on := 6, ground := Ground.data }, { on := 12, ground := Ground.data }, { on := 12, ground := Ground.chain }], guard := none }) rfl (fun K hK => ?_) AllReadyH.nil
              refine lst.step_append_bs _ (by rfl) _ _ (by rfl) WD.heap.size v6 t.rest (by rfl) HO17.out _ (kindsOf mm) (by rfl) HB17.out (by have := HOk.out; have := HKl.out; omega) HK17.out.size ?_
              intro v7 W18 happ
              have HO7 := Hid_mk happ.1
              have hk18 : Kp No WD W18 := HK17.out.grown happ.2.1 fun k hk e => by have := (World.ownsRow.lt HO17.out k e).1; omega
              have HK18 := Hid_mk hk18
              have c4b := hk18.cell' c4 id
              have f4b := (hk18.frozen (p := ⟨r, 4, none⟩) hlr id).trans f4
              obtain ⟨a7, c7, e7⟩ : ∃ a c, v7 = .slice a (t.rest ++ kindsOf mm).length c := by
                obtain ⟨a, c, e, -⟩ := owns_bs happ.1
                exact ⟨a, c, e⟩
              rw [e7] at HO7
              rw [e7]
              clear happ hk18 e7
              refine hK.out _ _ trivial (fun hHeld => ?_)
              clear hK K
              try simp only [Act.put, List.setIfInBounds_toArray, List.set_cons_zero, List.set_cons_succ]
              refine wpAnyH_take (i := 14) (oi := { dst := some 131, op := Op.nilCheck (Operand.tmp 117), type := 0, pos := "law.go:245", after := #[{ on := 0, ground := Ground.data }, { on := 0, ground := Ground.phase }, { on := 1, ground := Ground.phase }, { on := 2, ground := Ground.phase }, { on := 3, ground := Ground.phase }, { on := 4, ground := Ground.phase }, { on := 5, ground := Ground.phase }, { on := 6, ground := Ground.phase }, { on := 7, ground := Ground.phase }, { on := 8, ground := Ground.phase }, { on := 9, ground := Ground.phase }, { on := 10, ground := Ground.phase }, { on := 11, ground := Ground.phase }, { on := 12, ground := Ground.phase }, { on := 13, ground := Ground.phase }], guard := none }) (v := ?_) rfl (by kernel_rfl) (by kernel_rfl) (by kernel_rfl) (fun _ _ _ h => h) (Or.inl ⟨by rfl, ?_⟩) (by assumption) ?_
              rotate_left 1
              · intro w hSw; (try dsimp only at hSw); go_simp; all_goals (with_reducible rfl)
              try simp only [Act.put, List.setIfInBounds_toArray, List.set_cons_zero, List.set_cons_succ]
              refine wpAnyH_take (i := 15) (oi := { dst := some 132, op := Op.fieldAddr 32 (Operand.tmp 131) 4, type := 0, pos := "law.go:245", after := #[{ on := 14, ground := Ground.data }, { on := 0, ground := Ground.phase }, { on := 1, ground := Ground.phase }, { on := 2, ground := Ground.phase }, { on := 3, ground := Ground.phase }, { on := 4, ground := Ground.phase }, { on := 5, ground := Ground.phase }, { on := 6, ground := Ground.phase }, { on := 7, ground := Ground.phase }, { on := 8, ground := Ground.phase }, { on := 9, ground := Ground.phase }, { on := 10, ground := Ground.phase }, { on := 11, ground := Ground.phase }, { on := 12, ground := Ground.phase }, { on := 13, ground := Ground.phase }], guard := none }) (v := ?_) rfl (by kernel_rfl) (by kernel_rfl) (by kernel_rfl) (fun _ _ _ h => h) (Or.inl ⟨by rfl, ?_⟩) (by assumption) ?_
              rotate_left 1
              · intro w hSw; (try dsimp only at hSw); go_simp; all_goals (with_reducible rfl)
              try simp only [Act.put, List.setIfInBounds_toArray, List.set_cons_zero, List.set_cons_succ]
              refine wpAnyH_ready (rs := [16]) (by kernel_rfl) (by simp) ?_
              refine AllReadyH.cons (o := { dst := none, op := Op.store 30 (Operand.tmp 132) (Operand.tmp 130), type := 0, pos := "law.go:245", after := #[{ on := 15, ground := Ground.data }, { on := 13, ground := Ground.data }, { on := 13, ground := Ground.chain }, { on := 0, ground := Ground.phase }, { on := 1, ground := Ground.phase }, { on := 2, ground := Ground.phase }, { on := 3, ground := Ground.phase }, { on := 4, ground := Ground.phase }, { on := 5, ground := Ground.phase }, { on := 6, ground := Ground.phase }, { on := 7, ground := Ground.phase }, { on := 8, ground := Ground.phase }, { on := 9, ground := Ground.phase }, { on := 10, ground := Ground.phase }, { on := 11, ground := Ground.phase }, { on := 12, ground := Ground.phase }, { on := 13, ground := Ground.phase }], guard := none }) rfl (fun K hK => ?_) AllReadyH.nil
              go_simp
              refine hK.out _ _ trivial (fun hHeld => ?_)
              clear hK K
              try simp only [Act.put, List.setIfInBounds_toArray, List.set_cons_zero, List.set_cons_succ]
              refine wpAnyH_done (by kernel_rfl) ?_ _
              have htw := (HTD.out.no HK18.out).set4 (owns_bs HO7.out) (fun hne x o n c e => HTD.out.new (by
                have := (World.ownsRow.lt HO7.out x (by rw [e]; rfl)).1
                exact this))
              have htz : Tw w (W18.setCell ⟨r, 4, none⟩ (.slice a7 (t.rest ++ kindsOf mm).length c7)) base p r ρ3 m (feedS t (kindsOf mm)) (feedS t (kindsOf mm)) := htw
              clear htw c4 c4a f4 c4b f4b hlr
              go_wp2_with fail
              go_meet
              case rel => first | exact htz | (simp only [List.length_append] at htz; exact htz)
          case rest =>
            obtain ⟨WC, hWC⟩ : ∃ WC, WC = wc := ⟨_, rfl⟩
            rw [← hWC] at hcut ⊢
            obtain ⟨u, hu⟩ : ∃ u, feedS t (kindsOf mm) = u := ⟨_, rfl⟩
            have HOu : Hid (OkS m u ∧ u.rest.length ≤ 2200) := Hid_mk (by
              rw [← hu]
              refine ⟨HOk.out.1, ?_⟩
              unfold feedS
              simp only [List.length_append]
              have := HOk.out.2
              have := HKl.out
              omega)
            rw [hu] at hcut
            have HTC := Hid_mk hcut
            have HSl := Hid_mk hsl
            clear hWC hu hcut HT15 HOk HKl hmm1 hmm2 hmm3 hmm0 hmmc HBm HMm HMl HXl HQ hsl
            go_wp2
            go_loopw [20] (fun iv wr => LdRel w base p r m iv wr) (fun iv _ => 100 - (intOf iv).toNat)
            case atStart => exact ⟨0, ρ3, u, rfl, Nat.zero_le _, HTC.out, HOu.out.1, HOu.out.2⟩
            case round =>
              clear HTC HOu
              obtain ⟨k, ρ4, u, rfl, hk, htw, hok, hrl⟩ := hrel
              have HT := Hid_mk htw
              have HOz := Hid_mk (And.intro hok hrl)
              have hk0 : (0 : Int) ≤ (k : Int) := Int.natCast_nonneg _
              by_cases hlt : k < 100
              · have hki : (k : Int) < 100 := by omega
                have hwi : IntKind.i64.wrap ((k : Int) + 1) = (k : Int) + 1 := IntWalk.i64_in _ (by omega)
                obtain ⟨A, hA⟩ : ∃ A, nextS m sep u = A := ⟨_, rfl⟩
                have hnx := spnext_any wr base p ρ4 m u sep htw.sp hok (by omega)
                have hok' := nextS_ok hok sep
                have hrl' := nextS_rest m sep u
                rw [hA] at hnx hok' hrl'
                obtain ⟨a, u'⟩ := A
                have HNx := Hid_mk hnx
                have HOy := Hid_mk (And.intro hok' hrl')
                have HA := Hid_mk hA
                clear hnx hok' hrl' hA htw hok hrl
                go_wp2_with fail
                with_reducible refine HNx.out.mono ?_
                intro e W3 hpost
                obtain ⟨he, ρ5, ht3, -⟩ := Tw.call1 HT.out hpost
                have he' : e = .returned (.tuple #[.string (tx (a.getD [])), .bool a.isSome]) := he
                subst he'
                have hrn := rnext_any (Oth ρ5 r) W3 r m u sep ht3.rs (by omega) HOz.out.1 (by have := HOz.out.2; omega)
                rw [HA.out] at hrn
                have HRn := Hid_mk hrn
                have HT3 := Hid_mk ht3
                clear hpost ht3 he hrn HNx
                go_wp2_with fail
                with_reducible refine HRn.out.mono ?_
                intro e W4 hpost
                obtain ⟨he, ht5, -⟩ := Tw.call2 HT3.out hpost
                have he' : e = .returned (.tuple #[.string (tx (a.getD [])), .bool a.isSome]) := he
                subst he'
                have HT5 := Hid_mk ht5
                clear hpost ht5 he HRn HT3 HA
                cases a with
                | some l =>
                  simp only [Option.getD_some, Option.isSome_some]
                  go_wp2
                  go_roundw
                  case rel => exact ⟨k + 1, _, _, by push_cast; rfl, by omega, HT5.out, HOy.out.1, by have := HOz.out.2; have := HOy.out.2; omega⟩
                  case measure => simp only [intOf]; omega
                | none =>
                  simp only [Option.getD_none, Option.isSome_none]
                  obtain ⟨A2, hA2⟩ : ∃ A, lastS m sep u' = A := ⟨_, rfl⟩
                  have hnx := sprest_any W4 base p ρ5 m u' sep HT5.out.sp HOy.out.1 (by omega)
                  rw [hA2] at hnx
                  obtain ⟨a2, u2⟩ := A2
                  have HNx := Hid_mk hnx
                  have HA := Hid_mk hA2
                  clear hnx hA2
                  go_wp2_with fail
                  with_reducible refine HNx.out.mono ?_
                  intro e W5' hpost
                  obtain ⟨he, ρ6, ht6, -⟩ := Tw.call1 HT5.out hpost
                  have he' : e = .returned (.tuple #[.string (tx (a2.getD [])), .bool a2.isSome]) := he
                  subst he'
                  have hrn := rlast_any (Oth ρ6 r) W5' r m u' sep ht6.rs (by omega) HOy.out.1 (by have h1 := HOz.out.2; have h2 := HOy.out.2; omega)
                  rw [HA.out] at hrn
                  have HRn := Hid_mk hrn
                  have HT6 := Hid_mk ht6
                  clear hpost ht6 he hrn HNx
                  go_wp2_with fail
                  with_reducible refine HRn.out.mono ?_
                  intro e W6' hpost
                  obtain ⟨he, ht7, -⟩ := Tw.call2 HT6.out hpost
                  have he' : e = .returned (.tuple #[.string (tx (a2.getD [])), .bool a2.isSome]) := he
                  subst he'
                  have HT7 := Hid_mk ht7
                  clear hpost ht7 he HRn HT6 HA
                  go_wp2
                  go_ret
                  exact ⟨by simp, HT7.out.kp⟩
              · have hki : ¬ (k : Int) < 100 := by omega
                go_wp2
                go_ret
                exact ⟨rfl, HT.out.kp⟩

end Go.Proofs.YtpfpnlhihnfahaaDoor.spl
