/- The project's Splitter: by paragraphs; Next, Rest. The project's Splitter: Rest; what is asked of it holds. The reference's Splitter: put, ends, Next, Last. -/
import Derived.Test.YtpfpnlhihnfahaaDoorSpMemM
import Derived.Test.YtpfpnlhihnfahaaDoorBaseM
import Derived.Test.YtpfpnlhihnfahaaDoorFsPlainM

namespace Go.Proofs.YtpfpnlhihnfahaaDoor.spl
open Go.RowKit Go.Maps Go.Proofs.YtpfpnlhihnfahaaDoor.sum Go.Proofs.YtpfpnlhihnfahaaDoor.kept Go.Proofs.YtpfpnlhihnfahaaDoor.app Go.Proofs.YtpfpnlhihnfahaaDoor.writer Go.Proofs.YtpfpnlhihnfahaaDoor.clone Go.Proofs.YtpfpnlhihnfahaaDoor.known Go.Proofs.YtpfpnlhihnfahaaDoor.unseal Go.Proofs.YtpfpnlhihnfahaaDoor.snp
set_option linter.unusedVariables false

theorem putS_waits (m : Nat) (s : SpS) (b : UInt8) (v : Bool) : putS m { s with waits := v } b = { putS m s b with waits := v } := by
  unfold putS; simp only; split <;> rfl
theorem putS_w (m : Nat) (s : SpS) (b : UInt8) : (putS m s b).waits = s.waits := by unfold putS; split <;> rfl
theorem PSp.set3 {w : World} {base p : Nat} {ρ : Nat → Bool} {m : Nat} {s : SpS} (h : PSp w base p ρ m s) (b : Bool) : PSp (w.setCell ⟨p, 3, none⟩ (.bool b)) base p ρ m { s with waits := b } ∧ FrS ρ w ρ (w.setCell ⟨p, 3, none⟩ (.bool b)) := by
  obtain ⟨vr, va, hh, rfl⟩ := h
  exact ⟨⟨_, _, hh.set3 b, rfl⟩, fr_set (Kp.refl _ _) 3 _ hh.lt (.inl rfl) (.inl rfl)⟩
theorem PSp.c3 {w : World} {base p : Nat} {ρ : Nat → Bool} {m : Nat} {s : SpS} (h : PSp w base p ρ m s) : w.cell? ⟨p, 3, none⟩ = some (.bool s.waits) ∧ w.frozen? ⟨p, 3, none⟩ = false := by
  obtain ⟨vr, va, hh, -⟩ := h
  exact ⟨hh.c3, hh.warm 3⟩
theorem Mid.set3 {w wr : World} {base p : Nat} {ρ ρr : Nat → Bool} {m : Nat} {A : Option (List UInt8) × SpS} {G G' : SpS → Option (List UInt8) × SpS} {t : SpS} (h : Mid w base p ρ m A G wr ρr t) (b : Bool) (hg : G' { t with waits := b } = A) : Mid w base p ρ m A G' (wr.setCell ⟨p, 3, none⟩ (.bool b)) ρr { t with waits := b } :=
  ⟨(h.sp.set3 b).1, h.ok, hg, h.fr.trans (h.sp.set3 b).2⟩

def PaJ (k : Bool) (w : World) (base p : Nat) (ρ : Nat → Bool) (m : Nat) (A : Option (List UInt8) × SpS) (a : Act) (wr : World) : Prop :=
  ∃ u4 u5 u6 u7 u8 u9 u10 u11 u12 u13 u14 u15 u16 u17 u18 u19 u20 u21 u22 u23 u24 u25 u26 u27 u28 u29 u30 u31 u32 u33 u34 u35 u36 u37 u38 u39 u40 u41 u42 u43 u44 u45 u46 u47 u48 u49, a = { tmps := #[.pointer (some ⟨p, 0, none⟩), undef, .string ⟨#[]⟩, .bool false, u4, u5, u6, u7, u8, u9, u10, u11, u12, u13, u14, u15, u16, u17, u18, u19, u20, u21, u22, u23, u24, u25, u26, u27, u28, u29, u30, u31, u32, u33, u34, u35, u36, u37, u38, u39, u40, u41, u42, u43, u44, u45, u46, u47, u48, u49], defers := [] } ∧ ∃ ρr t, t.waits = k ∧ Mid w base p ρ m A (fun t => goS m [] t.rest t) wr ρr t

set_option maxRecDepth 100000 in
set_option maxHeartbeats 8000000 in
theorem paragraph_any (w : World) (base p : Nat) (ρ : Nat → Bool) (m : Nat) (s : SpS) (h : PSp w base p ρ m s) (hok : OkS m s) (hm : m ≤ 200) : Calls Tryd.prog 31 #[.pointer (some ⟨p, 0, none⟩)] w (SpPost PSp w base p ρ m (nextS m [] s).2 (ansV (nextS m [] s).1)) := by
  obtain ⟨A, hA⟩ : ∃ A, nextS m [] s = A := ⟨_, rfl⟩
  rw [hA]
  have hg0 : goS m [] s.rest s = A := by rw [← hA]; rfl
  have HM0 : Hid (Mid w base p ρ m A (fun t => goS m [] t.rest t) w ρ s) := Hid_mk ⟨h, hok, hg0, FrS.refl _ _⟩
  have c3 := h.c3.1
  clear h hA hok hg0
  go_enter Tryd.func31, Tryd.ntmps31
  go_wp2
  refine scope_two 1 0 (by decide) (PaJ false w base p ρ m A) (PaJ true w base p ρ m A) (fun _ wr => aheadLen wr p) (fun _ wr => aheadLen wr p) rfl rfl ?passB ?passA ?first
  case passB =>
    clear c3 HM0
    rintro a' wr ⟨u4, u5, u6, u7, u8, u9, u10, u11, u12, u13, u14, u15, u16, u17, u18, u19, u20, u21, u22, u23, u24, u25, u26, u27, u28, u29, u30, u31, u32, u33, u34, u35, u36, u37, u38, u39, u40, u41, u42, u43, u44, u45, u46, u47, u48, u49, rfl, ρr, t, hw, hmid⟩
    have HM := Hid_mk hmid
    have hgo := hmid.go
    have hsp := hmid.sp
    have hot := hmid.ok
    have HLn := Hid_mk (aheadLen_sp hsp)
    cases hq : t.rest with
    | nil =>
      have HL := Hid_mk (look_none wr base p ρr m t hsp hq)
      have HG := Hid_mk (goN_nil hgo hq)
      have HO := Hid_mk hot
      clear hgo hsp hot hmid hq hw
      go_wp2_with fail
      with_reducible refine HL.out.mono ?_
      intro e w6 hpost
      obtain ⟨he, ρ6, hm6⟩ := Mid.call (G' := fun t' => (none, t')) HM.out hpost HO.out HG.out
      subst he
      have HP := Hid_mk hm6.post
      have HA1 : Hid (A.1 = none) := Hid_mk (by rw [← HG.out])
      rw [HA1.out] at HP
      clear hpost hm6 HL
      go_wp2
      simp only [jumpF]
      go_ret2
      rw [HA1.out]
      exact HP.out
    | cons b q =>
      have HL := Hid_mk (look_some wr base p ρr m t b q hsp hq)
      have hg := goN_more hgo hq
      have HQ := Hid_mk hq
      have HO : Hid (OkS m { t with rest := q }) := Hid_mk hot
      obtain ⟨t1, ht1⟩ : ∃ t1 : SpS, t1 = { t with rest := q } := ⟨_, rfl⟩
      rw [← ht1] at hg HL HO
      have hw1 : t1.waits = true := by rw [ht1]; exact hw
      have hr1 : t1.rest = q := by rw [ht1]
      clear ht1 hgo hsp hot hmid hq hw
      by_cases hb : b = 10
      · subst hb
        have e1 : lookS m [] t1 10 = (true, t1) := by
          unfold lookS
          simp only
          rw [if_pos trivial, if_pos hw1]
        simp only [e1] at hg
        have HG : Hid ((some t1.held, endS t1) = A) := Hid_mk (by simpa using hg)
        have HR1 := Hid_mk hr1
        clear hg hw1 hr1 e1
        simp only [show ((10 : UInt8).toNat : Int) = 10 from rfl] at HL
        go_wp2_with fail
        with_reducible refine HL.out.mono ?_
        intro e w6 hpost
        obtain ⟨he, ρ6, hm6⟩ := Mid.call (G' := fun t' => (some t'.held, endS t')) HM.out hpost HO.out HG.out
        subst he
        have HM6 := Hid_mk hm6
        have HE := Hid_mk (end_any w6 base p ρ6 m t1 hm6.sp)
        clear hpost hm6 HL
        go_wp2_with fail
        with_reducible refine HE.out.mono ?_
        intro e w7 hpost
        obtain ⟨he, ρ7, hm7⟩ := Mid.call (G' := fun t' => (some t1.held, t')) HM6.out hpost (endS_ok m t1) HG.out
        subst he
        have HP := Hid_mk hm7.post
        have HA1 : Hid (A.1 = some t1.held) := Hid_mk (by rw [← HG.out])
        rw [HA1.out] at HP
        clear hpost hm7 HE
        go_wp2
        simp only [jumpF]
        go_ret2
        rw [HA1.out]
        exact HP.out
      · have hbn : ¬ b.toNat = 10 := fun e => hb (UInt8.toNat_inj.1 e)
        have hbi : ¬ (b.toNat : Int) = 10 := by omega
        have e1 : lookS m [] t1 b = (false, putS m (putS m { t1 with waits := false } 10) b) := by
          unfold lookS
          simp only
          rw [if_neg hb]
          unfold wakeS
          rw [if_pos hw1, ← putS_waits m t1 10 false]
        simp only [e1] at hg
        have HG : Hid (goS m [] q (putS m (putS m { t1 with waits := false } 10) b) = A) := Hid_mk (by simpa using hg)
        have HR1 := Hid_mk hr1
        clear hg hw1 hr1 e1 hb hbn
        go_wp2_with fail
        with_reducible refine HL.out.mono ?_
        intro e w6 hpost
        obtain ⟨he, ρ6, hm6⟩ := Mid.call (G' := fun t' => goS m [] q (putS m (putS m { t' with waits := false } 10) b)) HM.out hpost HO.out HG.out
        subst he
        have d3 := hm6.sp.c3.1
        have f3 := hm6.sp.c3.2
        have HM7 := Hid_mk (hm6.set3 (G' := fun t' => goS m [] q (putS m (putS m t' 10) b)) false HG.out)
        have HP1 := Hid_mk (add_any _ base p ρ6 m _ 10 HM7.out.sp HM7.out.ok (by omega))
        simp only [show ((10 : UInt8).toNat : Int) = 10 from rfl] at HP1
        clear hpost hm6 HL
        go_wp2_with fail
        with_reducible refine HP1.out.mono ?_
        intro e w8 hpost
        obtain ⟨he, ρ8, hm8⟩ := Mid.call (G' := fun t' => goS m [] q (putS m t' b)) HM7.out hpost (putS_ok HM7.out.ok 10) HG.out
        subst he
        have HM8 := Hid_mk hm8
        have HP2 := Hid_mk (add_any _ base p ρ8 m _ b hm8.sp hm8.ok (by omega))
        clear hpost hm8 HP1 d3 f3
        go_wp2_with fail
        with_reducible refine HP2.out.mono ?_
        intro e w9 hpost
        have hrr : (putS m (putS m { t1 with waits := false } 10) b).rest = q := by rw [putS_rest, putS_rest]; exact HR1.out
        obtain ⟨he, ρ9, hm9⟩ := Mid.call (G' := fun t' => goS m [] t'.rest t') HM8.out hpost (putS_ok HM8.out.ok b) (by rw [hrr]; exact HG.out)
        subst he
        have HM9 := Hid_mk hm9
        have HRr := Hid_mk hrr
        clear hpost hm9 HP2 hrr
        go_wp2
        go_step3
        refine .inl ⟨rfl, ⟨_, _, _, _, _, _, _, _, _, _, _, _, _, _, _, _, _, _, _, _, _, _, _, _, _, _, _, _, _, _, _, _, _, _, _, _, _, _, _, _, _, _, _, _, _, _, rfl, _, _, ?_, HM9.out⟩, ?_⟩
        · rw [putS_w, putS_w]
        · rw [HLn.out, aheadLen_sp HM9.out.sp, HRr.out, HQ.out]
          simp
  case passA =>
    clear c3 HM0
    rintro a' wr ⟨u4, u5, u6, u7, u8, u9, u10, u11, u12, u13, u14, u15, u16, u17, u18, u19, u20, u21, u22, u23, u24, u25, u26, u27, u28, u29, u30, u31, u32, u33, u34, u35, u36, u37, u38, u39, u40, u41, u42, u43, u44, u45, u46, u47, u48, u49, rfl, ρr, t, hw, hmid⟩ hB
    have HB := Hid_mk hB
    have HM := Hid_mk hmid
    have hgo := hmid.go
    have hsp := hmid.sp
    have hot := hmid.ok
    have HLn := Hid_mk (aheadLen_sp hsp)
    clear hB
    cases hq : t.rest with
    | nil =>
      have HL := Hid_mk (look_none wr base p ρr m t hsp hq)
      have HG := Hid_mk (goN_nil hgo hq)
      have HO := Hid_mk hot
      clear hgo hsp hot hmid hq hw HB
      go_wp2_with fail
      with_reducible refine HL.out.mono ?_
      intro e w6 hpost
      obtain ⟨he, ρ6, hm6⟩ := Mid.call (G' := fun t' => (none, t')) HM.out hpost HO.out HG.out
      subst he
      have HP := Hid_mk hm6.post
      have HA1 : Hid (A.1 = none) := Hid_mk (by rw [← HG.out])
      rw [HA1.out] at HP
      clear hpost hm6 HL
      go_wp2
      simp only [jumpF]
      go_ret2
      rw [HA1.out]
      exact HP.out
    | cons b q =>
      have HL := Hid_mk (look_some wr base p ρr m t b q hsp hq)
      have hg := goN_more hgo hq
      have HQ := Hid_mk hq
      have HO : Hid (OkS m { t with rest := q }) := Hid_mk hot
      obtain ⟨t1, ht1⟩ : ∃ t1 : SpS, t1 = { t with rest := q } := ⟨_, rfl⟩
      rw [← ht1] at hg HL HO
      have hw1 : t1.waits = false := by rw [ht1]; exact hw
      have hr1 : t1.rest = q := by rw [ht1]
      have HR1 := Hid_mk hr1
      have HW1 := Hid_mk hw1
      clear ht1 hgo hsp hot hmid hq hw
      by_cases hb : b = 10
      · subst hb
        have e1 : lookS m [] t1 10 = (false, { t1 with waits := !t1.held.isEmpty }) := by
          unfold lookS
          simp only
          rw [if_pos trivial, if_neg (by rw [hw1]; simp)]
        simp only [e1] at hg
        have HG : Hid (goS m [] q { t1 with waits := !t1.held.isEmpty } = A) := Hid_mk (by simpa using hg)
        clear hg hw1 hr1 e1
        simp only [show ((10 : UInt8).toNat : Int) = 10 from rfl] at HL
        go_wp2_with fail
        with_reducible refine HL.out.mono ?_
        intro e w6 hpost
        obtain ⟨he, ρ6, hm6⟩ := Mid.call (G' := fun t' => goS m [] q { t' with waits := !t1.held.isEmpty }) HM.out hpost HO.out HG.out
        subst he
        have HM6 := Hid_mk hm6
        have d3 := hm6.sp.c3.1
        have f3 := hm6.sp.c3.2
        obtain ⟨vr, va, hh, -⟩ := hm6.sp
        have d1 := hh.c1
        obtain ⟨ah, ch, rfl, -, -, -⟩ := hh.held.any
        clear hpost hm6 HL hh
        by_cases hh : t1.held = []
        · have hl0 : (t1.held.length : Int) = 0 := by rw [hh]; rfl
          have hl1 : t1.held.length = 0 := by rw [hh]; rfl
          have he : ({ t1 with waits := !t1.held.isEmpty } : SpS) = t1 := by
            have : (!t1.held.isEmpty) = t1.waits := by rw [HW1.out, hh]; rfl
            rw [this]
          rw [he] at HG
          have HM7 : Hid (Mid w base p ρ m A (fun t => goS m [] t.rest t) w6 ρ6 t1) := Hid_mk ⟨HM6.out.sp, HM6.out.ok, by simp only [HR1.out]; exact HG.out, HM6.out.fr⟩
          clear hh he HM6 d3 f3
          go_wp2
          go_step3
          refine .inl ⟨rfl, ⟨_, _, _, _, _, _, _, _, _, _, _, _, _, _, _, _, _, _, _, _, _, _, _, _, _, _, _, _, _, _, _, _, _, _, _, _, _, _, _, _, _, _, _, _, _, _, rfl, _, _, HW1.out, HM7.out⟩, ?_⟩
          rw [HLn.out, aheadLen_sp HM7.out.sp, HR1.out, HQ.out]
          simp
        · have hlp := List.length_pos_iff.2 hh
          have hl0 : ¬ (t1.held.length : Int) = 0 := by omega
          have hl1 : ¬ t1.held.length = 0 := by omega
          have he : (!t1.held.isEmpty) = true := by cases e : t1.held with | nil => exact absurd e hh | cons _ _ => rfl
          rw [he] at HG
          have HM7 : Hid (Mid w base p ρ m A (fun t => goS m [] t.rest t) (w6.setCell ⟨p, 3, none⟩ (.bool true)) ρ6 { t1 with waits := true }) := Hid_mk (HM6.out.set3 true ((congrArg (fun x => goS m [] x { t1 with waits := true }) HR1.out).trans HG.out))
          clear hh he HM6 hlp
          go_wp2
          apply wp_label
          rename_i hK0
          refine hK0 _ _ (HB.out _ _ ⟨_, _, _, _, _, _, _, _, _, _, _, _, _, _, _, _, _, _, _, _, _, _, _, _, _, _, _, _, _, _, _, _, _, _, _, _, _, _, _, _, _, _, _, _, _, _, rfl, _, _, rfl, HM7.out⟩ ?_)
          rw [HLn.out, aheadLen_sp HM7.out.sp, HR1.out, HQ.out]
          simp
      · have hbn : ¬ b.toNat = 10 := fun e => hb (UInt8.toNat_inj.1 e)
        have hbi : ¬ (b.toNat : Int) = 10 := by omega
        have e1 : lookS m [] t1 b = (false, putS m t1 b) := by
          unfold lookS
          simp only
          rw [if_neg hb]
          unfold wakeS
          rw [if_neg (by rw [hw1]; simp)]
        simp only [e1] at hg
        have HG : Hid (goS m [] q (putS m t1 b) = A) := Hid_mk (by simpa using hg)
        clear hg hw1 hr1 e1 hb hbn HB
        go_wp2_with fail
        with_reducible refine HL.out.mono ?_
        intro e w6 hpost
        obtain ⟨he, ρ6, hm6⟩ := Mid.call (G' := fun t' => goS m [] q (putS m t' b)) HM.out hpost HO.out HG.out
        subst he
        have HM8 := Hid_mk hm6
        have HP2 := Hid_mk (add_any _ base p ρ6 m _ b hm6.sp hm6.ok (by omega))
        clear hpost hm6 HL
        go_wp2_with fail
        with_reducible refine HP2.out.mono ?_
        intro e w9 hpost
        have hrr : (putS m t1 b).rest = q := by rw [putS_rest]; exact HR1.out
        obtain ⟨he, ρ9, hm9⟩ := Mid.call (G' := fun t' => goS m [] t'.rest t') HM8.out hpost (putS_ok HM8.out.ok b) (by rw [hrr]; exact HG.out)
        subst he
        have HM9 := Hid_mk hm9
        have HRr := Hid_mk hrr
        clear hpost hm9 HP2 hrr
        go_wp2
        go_step3
        refine .inl ⟨rfl, ⟨_, _, _, _, _, _, _, _, _, _, _, _, _, _, _, _, _, _, _, _, _, _, _, _, _, _, _, _, _, _, _, _, _, _, _, _, _, _, _, _, _, _, _, _, _, _, rfl, _, _, ?_, HM9.out⟩, ?_⟩
        · rw [putS_w]; exact HW1.out
        · rw [HLn.out, aheadLen_sp HM9.out.sp, HRr.out, HQ.out]
          simp
  case first =>
    intro pass
    have HP := Hid_mk pass
    clear pass
    cases hw : s.waits with
    | false =>
      rw [hw] at c3
      have HW := Hid_mk hw
      clear hw
      go_wp2
      apply wp_label
      rename_i hK0
      exact hK0 _ _ (HP.out _ _ ⟨_, _, _, _, _, _, _, _, _, _, _, _, _, _, _, _, _, _, _, _, _, _, _, _, _, _, _, _, _, _, _, _, _, _, _, _, _, _, _, _, _, _, _, _, _, _, rfl, _, _, HW.out, HM0.out⟩)
    | true =>
      rw [hw] at c3
      have HW := Hid_mk hw
      clear hw HP
      go_wp2
      go_step3
      exact .inr ⟨rfl, ⟨_, _, _, _, _, _, _, _, _, _, _, _, _, _, _, _, _, _, _, _, _, _, _, _, _, _, _, _, _, _, _, _, _, _, _, _, _, _, _, _, _, _, _, _, _, _, rfl, _, _, HW.out, HM0.out⟩⟩

theorem tx_list' (l : List UInt8) : (tx l).toList = l := by rw [ByteArray.toList_eq]; rfl
theorem tx_zero' (c : UInt8) (cs : List UInt8) (h : 0 < (tx (c :: cs)).size) : (tx (c :: cs))[0] = c := rfl

set_option maxRecDepth 100000 in
set_option maxHeartbeats 4000000 in
theorem spnext_any (w : World) (base p : Nat) (ρ : Nat → Bool) (m : Nat) (s : SpS) (rs : List UInt8) (h : PSp w base p ρ m s) (hok : OkS m s) (hm : m ≤ 200) : Calls Tryd.prog 11 #[.pointer (some ⟨p, 0, none⟩), .string (tx rs)] w (SpPost PSp w base p ρ m (nextS m rs s).2 (ansV (nextS m rs s).1)) := by
  cases rs with
  | nil =>
    have HP := Hid_mk (paragraph_any w base p ρ m s h hok hm)
    obtain ⟨A, hA⟩ : ∃ A, nextS m [] s = A := ⟨_, rfl⟩
    rw [hA] at HP ⊢
    clear h hok hA
    have e0 : tx [] = ⟨#[]⟩ := rfl
    rw [e0]
    go_enter Tryd.func11, Tryd.ntmps11
    go_wp2_with fail
    with_reducible refine HP.out.mono ?_
    intro e w1 hpost
    obtain ⟨he, hp⟩ : e = .returned (.tuple #[.string (tx (A.1.getD [])), .bool A.1.isSome]) ∧ Hid (∃ ρ', PSp w1 base p ρ' m A.2 ∧ FrS ρ w ρ' w1) := ⟨hpost.1, Hid_mk hpost.2⟩
    subst he
    clear hpost HP
    go_wp2
    go_ret2
    exact ⟨rfl, hp.out⟩
  | cons c cs =>
    have HP := Hid_mk (upTo_any w base p ρ m s c cs h hok hm)
    obtain ⟨A, hA⟩ : ∃ A, nextS m (c :: cs) s = A := ⟨_, rfl⟩
    rw [hA] at HP ⊢
    have hx1 : ¬ (tx (c :: cs)).toList = [] := by rw [tx_list']; simp
    have hx2 : (tx (c :: cs)).size = cs.length + 1 := by simp [tx, ByteArray.size]
    have hx3 : (tx (c :: cs)).toList.isEmpty = false := by rw [tx_list']; rfl
    have hx4 : ((tx (c :: cs))[0]'(by rw [hx2]; omega)).toNat = c.toNat := by rw [tx_zero' c cs]
    clear h hok hA
    go_enter Tryd.func11, Tryd.ntmps11
    go_wp2_with fail
    with_reducible refine HP.out.mono ?_
    intro e w1 hpost
    obtain ⟨he, hp⟩ : e = .returned (.tuple #[.string (tx (A.1.getD [])), .bool A.1.isSome]) ∧ Hid (∃ ρ', PSp w1 base p ρ' m A.2 ∧ FrS ρ w ρ' w1) := ⟨hpost.1, Hid_mk hpost.2⟩
    subst he
    clear hpost HP
    go_wp2
    go_ret2
    exact ⟨rfl, hp.out⟩

end Go.Proofs.YtpfpnlhihnfahaaDoor.spl

namespace Go.Proofs.YtpfpnlhihnfahaaDoor.spl
open Go.RowKit Go.Maps Go.Proofs.YtpfpnlhihnfahaaDoor.sum Go.Proofs.YtpfpnlhihnfahaaDoor.kept Go.Proofs.YtpfpnlhihnfahaaDoor.app Go.Proofs.YtpfpnlhihnfahaaDoor.writer Go.Proofs.YtpfpnlhihnfahaaDoor.clone Go.Proofs.YtpfpnlhihnfahaaDoor.known Go.Proofs.YtpfpnlhihnfahaaDoor.unseal Go.Proofs.YtpfpnlhihnfahaaDoor.snp
set_option linter.unusedVariables false

theorem SpPost.is {Sp : SpT} {w w' : World} {base p : Nat} {ρ : Nat → Bool} {m : Nat} {t : SpS} {res : Value} {e : Ending} (h : SpPost Sp w base p ρ m t res e w') : e = .returned res ∧ Hid (∃ ρ', Sp w' base p ρ' m t ∧ FrS ρ w ρ' w') := ⟨h.1, Hid_mk h.2⟩
theorem FrS.post {Sp : SpT} {w w1 w' : World} {base p : Nat} {ρ ρ1 : Nat → Bool} {m : Nat} {t : SpS} {res : Value} {e : Ending} (k : FrS ρ w ρ1 w1) (h : SpPost Sp w1 base p ρ1 m t res e w') : SpPost Sp w base p ρ m t res e w' := by
  obtain ⟨h1, ρ', h2, h3⟩ := h
  exact ⟨h1, ρ', h2, k.trans h3⟩

set_option maxRecDepth 100000 in
set_option maxHeartbeats 4000000 in
theorem sprest_any (w : World) (base p : Nat) (ρ : Nat → Bool) (m : Nat) (s : SpS) (rs : List UInt8) (h : PSp w base p ρ m s) (hok : OkS m s) (hm : m ≤ 200) : Calls Tryd.prog 14 #[.pointer (some ⟨p, 0, none⟩), .string (tx rs)] w (SpPost PSp w base p ρ m (lastS m rs s).2 (ansV (lastS m rs s).1)) := by
  have hn := spnext_any w base p ρ m s rs h hok hm
  obtain ⟨A, hA⟩ : ∃ A, nextS m rs s = A := ⟨_, rfl⟩
  have hL : lastS m rs s = lastF A := by rw [← hA]; rfl
  rw [hL]
  rw [hA] at hn
  clear hL hA h hok
  obtain ⟨a, t⟩ := A
  cases a with
  | some x =>
    have HN := Hid_mk hn
    clear hn
    go_enter Tryd.func14, Tryd.ntmps14
    go_wp2_with fail
    with_reducible refine HN.out.mono ?_
    intro e w1 hpost
    obtain ⟨he, hp⟩ : e = .returned (.tuple #[.string (tx x), .bool true]) ∧ _ := hpost.is
    subst he
    clear hpost HN
    go_wp2
    go_ret2
    exact ⟨rfl, hp.out⟩
  | none =>
    have HN := Hid_mk hn
    clear hn
    go_enter Tryd.func14, Tryd.ntmps14
    go_wp2_with fail
    with_reducible refine HN.out.mono ?_
    intro e w1 hpost
    obtain ⟨he, hp⟩ : e = .returned (.tuple #[.string (tx []), .bool false]) ∧ _ := hpost.is
    subst he
    obtain ⟨ρ1, h1, k1⟩ := hp.out
    have HK := Hid_mk k1
    have HS := Hid_mk h1
    have HE := Hid_mk (end_any w1 base p ρ1 m t h1)
    obtain ⟨vr, va, hh, -⟩ := h1
    have c1 := hh.c1
    have c2 := hh.c2
    obtain ⟨ah, ch, rfl, -, -, -⟩ := hh.held.any
    clear k1 HN hh hp hpost
    by_cases h0 : t.held = []
    · have hl0 : (t.held.length : Int) = 0 := by rw [h0]; rfl
      have hl1 : t.held.length = 0 := by rw [h0]; rfl
      cases ho : t.over with
      | false =>
        rw [ho] at c2
        have HF : Hid (lastF (none, t) = (none, t)) := Hid_mk (if_pos ⟨h0, ho⟩)
        clear h0 ho
        go_wp2
        go_ret2
        rw [HF.out]
        exact ⟨rfl, _, HS.out, HK.out⟩
      | true =>
        rw [ho] at c2
        have HF : Hid (lastF (none, t) = (some t.held, endS t)) := Hid_mk (if_neg (fun h => by rw [ho] at h; cases h.2))
        clear h0 ho
        go_wp2_with fail
        with_reducible refine HE.out.mono ?_
        intro e w2 hpost
        obtain ⟨he, hp⟩ : e = .returned (.string (tx t.held)) ∧ _ := (HK.out.post hpost).is
        subst he
        clear HE hpost
        go_wp2
        go_ret2
        rw [HF.out]
        exact ⟨rfl, hp.out⟩
    · have hlp := List.length_pos_iff.2 h0
      have hl0 : ¬ (t.held.length : Int) = 0 := by omega
      have hl1 : ¬ t.held.length = 0 := by omega
      have HF : Hid (lastF (none, t) = (some t.held, endS t)) := Hid_mk (if_neg (fun h => h0 h.1))
      go_wp2_with fail
      with_reducible refine HE.out.mono ?_
      intro e w2 hpost
      obtain ⟨he, hp⟩ : e = .returned (.string (tx t.held)) ∧ _ := (HK.out.post hpost).is
      subst he
      clear HE hpost
      go_wp2
      go_ret2
      rw [HF.out]
      exact ⟨rfl, hp.out⟩

/-- what is asked of the project's Splitter holds of it -/
theorem splitC : SplitC PSp where
  kept := PSp.kept
  low := PSp.low
  new_ok := spnew_ok
  feed := fun w base p ρ m s v bs h hb _ hl => feed_any w base p ρ m s v bs h hb hl
  next := fun w base p ρ m s rs h hok hm _ _ => spnext_any w base p ρ m s rs h hok hm
  last := fun w base p ρ m s rs h hok hm _ _ => sprest_any w base p ρ m s rs h hok hm

end Go.Proofs.YtpfpnlhihnfahaaDoor.spl

namespace Go.Proofs.YtpfpnlhihnfahaaDoor.spl
open Go.RowKit Go.Maps Go.Proofs.YtpfpnlhihnfahaaDoor.sum Go.Proofs.YtpfpnlhihnfahaaDoor.kept Go.Proofs.YtpfpnlhihnfahaaDoor.app Go.Proofs.YtpfpnlhihnfahaaDoor.writer Go.Proofs.YtpfpnlhihnfahaaDoor.clone Go.Proofs.YtpfpnlhihnfahaaDoor.known Go.Proofs.YtpfpnlhihnfahaaDoor.unseal Go.Proofs.YtpfpnlhihnfahaaDoor.snp
set_option linter.unusedVariables false

/-- the reference's splitter at block r -/
structure RsAt (T : Nat → Prop) (w : World) (r m : Nat) (s : SpS) (vh vr : Value) : Prop where
  c0 : w.cell? ⟨r, 0, none⟩ = some (.int .i64 (m : Int))
  c1 : w.cell? ⟨r, 1, none⟩ = some vh
  c2 : w.cell? ⟨r, 2, none⟩ = some (.bool s.over)
  c3 : w.cell? ⟨r, 3, none⟩ = some (.bool s.waits)
  c4 : w.cell? ⟨r, 4, none⟩ = some vr
  warm : ∀ o, w.frozen? ⟨r, o, none⟩ = false
  held : Bs w vh s.held
  rest : Bs w vr s.rest
  ah : s.held ≠ [] → ∀ x o n c, vh = .slice (some ⟨x, o, none⟩) n c → T x
  ar : s.rest ≠ [] → ∀ x o n c, vr = .slice (some ⟨x, o, none⟩) n c → T x
  nr : ¬ T r
  up : ∀ k, w.heap.size ≤ k → T k
/-- the reference's splitter at block r; what its slices lie in is among T, as is all new memory -/
def Rs (T : Nat → Prop) (w : World) (r m : Nat) (s : SpS) : Prop := ∃ vh vr, RsAt T w r m s vh vr

theorem bs_keptE' {S : Nat → Prop} {w w' : World} {v : Value} {bs : List UInt8} (h : Bs w v bs) (hk : Kp S w w') (hn : bs ≠ [] → ∀ b o n c, v = .slice (some ⟨b, o, none⟩) n c → ¬ S b) : Bs w' v bs := by
  by_cases hb : bs = []
  · obtain ⟨a, cap, e, h1, h2, h3⟩ := h
    exact ⟨a, cap, e, h1, h2, fun hne => absurd hb hne⟩
  · exact bs_kept h hk (hn hb)

section
variable {T : Nat → Prop} {w w' : World} {r m : Nat} {s : SpS} {vh vr : Value}
theorem RsAt.lt (h : RsAt T w r m s vh vr) : r < w.heap.size := World.block_lt_of_cell? w ⟨r, 0, none⟩ h.c0
theorem RsAt.kept {S : Nat → Prop} (h : RsAt T w r m s vh vr) (hk : Kp S w w') (hr : ¬ S r) (hh : s.held ≠ [] → ∀ x o n c, vh = .slice (some ⟨x, o, none⟩) n c → ¬ S x) (hv : s.rest ≠ [] → ∀ x o n c, vr = .slice (some ⟨x, o, none⟩) n c → ¬ S x) : RsAt T w' r m s vh vr :=
  ⟨hk.cell' h.c0 hr, hk.cell' h.c1 hr, hk.cell' h.c2 hr, hk.cell' h.c3 hr, hk.cell' h.c4 hr, fun o => (hk.frozen (p := ⟨r, o, none⟩) h.lt hr).trans (h.warm o), bs_keptE' h.held hk hh, bs_keptE' h.rest hk hv, h.ah, h.ar, h.nr, fun k hk2 => h.up k (Nat.le_trans hk.size hk2)⟩
theorem RsAt.ah' (h : RsAt T w r m s vh vr) : s.held ≠ [] → ∀ x o n c, vh = .slice (some ⟨x, o, none⟩) n c → x ≠ r := fun hne x o n c e e2 => h.nr (e2 ▸ h.ah hne x o n c e)
theorem RsAt.ar' (h : RsAt T w r m s vh vr) : s.rest ≠ [] → ∀ x o n c, vr = .slice (some ⟨x, o, none⟩) n c → x ≠ r := fun hne x o n c e e2 => h.nr (e2 ▸ h.ar hne x o n c e)
theorem RsAt.no (h : RsAt T w r m s vh vr) (hk : Kp No w w') : RsAt T w' r m s vh vr := h.kept hk id (fun _ _ _ _ _ _ => id) fun _ _ _ _ _ _ => id
theorem Rs.no (h : Rs T w r m s) (hk : Kp No w w') : Rs T w' r m s := by
  obtain ⟨vh, vr, h⟩ := h
  exact ⟨vh, vr, h.no hk⟩
theorem cell_off' {w : World} {r i j : Nat} {u v : Value} (h : w.cell? ⟨r, i, none⟩ = some u) (hne : j ≠ i) : (w.setCell ⟨r, j, none⟩ v).cell? ⟨r, i, none⟩ = some u := by
  rw [World.cell?_setCell_other w _ _ _ (by intro e; cases e; exact hne rfl)]
  exact h
theorem bs_off (hb : Bs w vh s.held) (ha : s.held ≠ [] → ∀ x o n c, vh = .slice (some ⟨x, o, none⟩) n c → x ≠ r) (j : Nat) (v : Value) : Bs (w.setCell ⟨r, j, none⟩ v) vh s.held :=
  bs_keptE' hb ((Kp.refl (fun k => k = r) w).setCell (fun _ => rfl) _) ha
theorem RsAt.set1 (h : RsAt T w r m s vh vr) {v : Value} {bs : List UInt8} (hb : Bs w v bs) (ha : bs ≠ [] → ∀ x o n c, v = .slice (some ⟨x, o, none⟩) n c → T x) : RsAt T (w.setCell ⟨r, 1, none⟩ v) r m { s with held := bs } v vr :=
  ⟨cell_off' h.c0 (by omega), World.cell?_setCell_same w _ _ h.c1, cell_off' h.c2 (by omega), cell_off' h.c3 (by omega), cell_off' h.c4 (by omega), fun o => by rw [World.frozen?_setCell]; exact h.warm o,
    bs_keptE' hb ((Kp.refl (fun k => k = r) w).setCell (fun _ => rfl) _) (fun hne x o n c e e2 => h.nr (e2 ▸ ha hne x o n c e)), bs_keptE' h.rest ((Kp.refl (fun k => k = r) w).setCell (fun _ => rfl) _) h.ar', ha, h.ar, h.nr, fun k hk => h.up k (by simpa [World.setCell] using hk)⟩
theorem RsAt.set2 (h : RsAt T w r m s vh vr) (b : Bool) : RsAt T (w.setCell ⟨r, 2, none⟩ (.bool b)) r m { s with over := b } vh vr :=
  ⟨cell_off' h.c0 (by omega), cell_off' h.c1 (by omega), World.cell?_setCell_same w _ _ h.c2, cell_off' h.c3 (by omega), cell_off' h.c4 (by omega), fun o => by rw [World.frozen?_setCell]; exact h.warm o,
    bs_keptE' h.held ((Kp.refl (fun k => k = r) w).setCell (fun _ => rfl) _) h.ah', bs_keptE' h.rest ((Kp.refl (fun k => k = r) w).setCell (fun _ => rfl) _) h.ar', h.ah, h.ar, h.nr, fun k hk => h.up k (by simpa [World.setCell] using hk)⟩
theorem RsAt.set3 (h : RsAt T w r m s vh vr) (b : Bool) : RsAt T (w.setCell ⟨r, 3, none⟩ (.bool b)) r m { s with waits := b } vh vr :=
  ⟨cell_off' h.c0 (by omega), cell_off' h.c1 (by omega), cell_off' h.c2 (by omega), World.cell?_setCell_same w _ _ h.c3, cell_off' h.c4 (by omega), fun o => by rw [World.frozen?_setCell]; exact h.warm o,
    bs_keptE' h.held ((Kp.refl (fun k => k = r) w).setCell (fun _ => rfl) _) h.ah', bs_keptE' h.rest ((Kp.refl (fun k => k = r) w).setCell (fun _ => rfl) _) h.ar', h.ah, h.ar, h.nr, fun k hk => h.up k (by simpa [World.setCell] using hk)⟩
theorem RsAt.set4 (h : RsAt T w r m s vh vr) {v : Value} {bs : List UInt8} (hb : Bs w v bs) (ha : bs ≠ [] → ∀ x o n c, v = .slice (some ⟨x, o, none⟩) n c → T x) : RsAt T (w.setCell ⟨r, 4, none⟩ v) r m { s with rest := bs } vh v :=
  ⟨cell_off' h.c0 (by omega), cell_off' h.c1 (by omega), cell_off' h.c2 (by omega), cell_off' h.c3 (by omega), World.cell?_setCell_same w _ _ h.c4, fun o => by rw [World.frozen?_setCell]; exact h.warm o,
    bs_keptE' h.held ((Kp.refl (fun k => k = r) w).setCell (fun _ => rfl) _) h.ah', bs_keptE' hb ((Kp.refl (fun k => k = r) w).setCell (fun _ => rfl) _) (fun hne x o n c e e2 => h.nr (e2 ▸ ha hne x o n c e)), h.ah, ha, h.nr, fun k hk => h.up k (by simpa [World.setCell] using hk)⟩
theorem kp_set {S : Nat → Prop} (hk : Kp S w w') (hr : S r) (i : Nat) (v : Value) : Kp S w (w'.setCell ⟨r, i, none⟩ v) := hk.setCell (p := ⟨r, i, none⟩) (fun _ => hr) _
end

/-- what a call of it leaves -/
def RsPost (T : Nat → Prop) (w : World) (r m : Nat) (t : SpS) (res : Value) (e : Ending) (w' : World) : Prop := e = .returned res ∧ Hid (Rs T w' r m t) ∧ Kp (fun k => k = r) w w'

set_option maxRecDepth 100000 in
set_option maxHeartbeats 4000000 in
theorem rput_any (T : Nat → Prop) (w : World) (r m : Nat) (s : SpS) (b : UInt8) (h : Rs T w r m s) (hm : m ≤ 1000000) : Calls Tryd.prog 34 #[.pointer (some ⟨r, 0, none⟩), .int .u8 (b.toNat : Int)] w (RsPost T w r m (putS m s b) (.tuple #[])) := by
  obtain ⟨vh, vr, h⟩ := h
  obtain ⟨w0, hw0⟩ : ∃ w0, w.drew = w0 := ⟨_, rfl⟩
  have kd : Kp No w w0 := hw0 ▸ (Kp.refl No w).drew
  have HW := Hid_mk hw0
  have h' := h.no kd
  have H := Hid_mk h'
  have HKd := Hid_mk kd
  have c0 := h.c0
  have c1 := h.c1
  have hlt := h'.lt
  have HHeld := Hid_mk h'.held
  obtain ⟨ah, ch, rfl, g1, g2, -⟩ := id h.held
  unfold maxLen at g2
  have d1 := h'.c1
  have d2 := h'.c2
  have f1 := h'.warm 1
  have f2 := h'.warm 2
  clear hw0
  by_cases hl : s.held.length < m
  · have hli : (s.held.length : Int) < (m : Int) := by omega
    obtain ⟨hs, hhs⟩ : ∃ hs, s.held ++ [b] = hs := ⟨_, rfl⟩
    have e1 : putS m s b = { s with held := hs } := by rw [← hhs]; exact if_pos hl
    rw [e1]
    have HHs := Hid_mk hhs
    have ca := ((Kp.refl No w0).alloc (.cells #[] 5)).cell' d1 id
    clear e1 hl h h' kd hhs
    go_enter Tryd.func34, Tryd.ntmps34
    go_wp2_with fail
    go_region_held3 (fun W => W.cell? ⟨r, 0, none⟩ = some (.int .i64 (m : Int)) ∧ W.cell? ⟨r, 1, none⟩ = some (.slice ah s.held.length ch)) (first | (dsimp only; exact ⟨c0, c1⟩) | go_keep) (fail)
    rw [HW.out]
    clear c0 c1
    go_wp2_with (at_builtin; (refine wpList_append_bs _ rfl _ _ rfl w0.heap.size _ [] rfl (World.ownsRow_made w0 #[] 0 (Nat.le_refl _) (by decide) rfl) _ s.held rfl (bs_no HHeld.out ((Kp.refl No w0).alloc _)) (show ([] : List UInt8).length + _ ≤ _ by simp; omega) (by simp) ?_))
    intro v1 w1 happ
    have ho1 : w1.ownsRow w0.heap.size 5 1 v1 s.held.length (s.held.map B) := by simpa using happ.1
    have k1 : Kp No w0 w1 := ((Kp.refl No w0).alloc _).grown happ.2.1 fun k hk e => by simp [Value.ownBlock] at e; omega
    have HO1 := Hid_mk ho1
    have HK1 := Hid_mk k1
    have hz1 := k1.size
    have ho2 : (w1.alloc (.cells #[.int .u8 (b.toNat : Int)] 5)).ownsRow w0.heap.size 5 1 v1 s.held.length (s.held.map B) := owns_kept ho1 ((Kp.refl No w1).alloc _) fun _ _ => id
    have HO2 := Hid_mk ho2
    have HL : Hid (s.held.length ≤ 1000000) := Hid_mk (by omega)
    clear happ ho1 ho2 k1 ca
    go_wp2_with (at_builtin; (refine wpList_append_bs _ rfl _ _ rfl w0.heap.size v1 s.held rfl HO2.out _ [b] rfl (bs_one w1 b) (show s.held.length + 1 ≤ _ by have := HL.out; omega) (by simp; omega) ?_))
    intro v2 w2 happ
    have k2 : Kp No w0 w2 := (HK1.out.alloc _).grown happ.2.1 fun k hk e => by have := (HO1.out.lt k e).1; omega
    have ho3 : w2.ownsRow w0.heap.size 5 1 v2 hs.length (hs.map B) := by have := happ.1; rw [← HHs.out]; simpa using this
    have HO3 := Hid_mk ho3
    clear ho3
    have HK2 := Hid_mk k2
    have e1 := k2.cell' d1 id
    have e2 := (k2.frozen (p := ⟨r, 1, none⟩) hlt id).trans f1
    clear happ k2 d1 d2 f1 f2
    obtain ⟨a2, c2, rfl, -⟩ := id (owns_bs HO3.out)
    go_wp2
    go_end0
    refine ⟨rfl, Hid_mk ⟨.slice a2 hs.length c2, vr, ?_⟩, ?_⟩
    · have hb := owns_bs HO3.out
      refine (H.out.no HK2.out).set1 hb fun hne x o n c e => ?_
      rcases owns_any HO3.out with ⟨e3, -⟩ | ⟨g, cp, e3, hg⟩
      · rw [e3] at e; cases e
      · rw [e3] at e; cases e; exact H.out.up _ hg.1
    · exact kp_set (S := fun k => k = r) (HKd.out.trans' HK2.out).to rfl 1 _
  · have hli : ¬ (s.held.length : Int) < (m : Int) := by omega
    have e1 : putS m s b = { s with over := true } := if_neg hl
    rw [e1]
    clear e1 hl h h' kd
    go_enter Tryd.func34, Tryd.ntmps34
    go_wp2_with fail
    go_region_held3 (fun W => W.cell? ⟨r, 0, none⟩ = some (.int .i64 (m : Int)) ∧ W.cell? ⟨r, 1, none⟩ = some (.slice ah s.held.length ch)) (first | (dsimp only; exact ⟨c0, c1⟩) | go_keep) (fail)
    rw [HW.out]
    clear c0 c1
    go_wp2
    go_end0
    exact ⟨rfl, Hid_mk ⟨_, vr, H.out.set2 true⟩, kp_set (S := fun k => k = r) HKd.out.to rfl 2 _⟩

set_option maxRecDepth 100000 in
set_option maxHeartbeats 4000000 in
theorem rends_any (T : Nat → Prop) (w : World) (r m : Nat) (s : SpS) (h : Rs T w r m s) : Calls Tryd.prog 33 #[.pointer (some ⟨r, 0, none⟩)] w (RsPost T w r m (endS s) (.string (tx s.held))) := by
  obtain ⟨vh, vr, h⟩ := h
  have H := Hid_mk h
  have c1 := h.c1
  have c2 := h.c2
  have c3 := h.c3
  have f1 := h.warm 1
  have f2 := h.warm 2
  have f3 := h.warm 3
  have hcv := conv_tx h.held
  obtain ⟨ah, ch, rfl, g1, g2, -⟩ := id h.held
  clear h
  go_enter Tryd.func33, Tryd.ntmps33
  go_wp2
  go_ret
  refine ⟨rfl, Hid_mk ⟨.slice none 0 0, vr, ?_⟩, ?_⟩
  · exact ((H.out.set1 (⟨none, 0, rfl, Nat.le_refl _, Nat.zero_le _, fun h => absurd rfl h⟩ : Bs w (.slice none 0 0) []) (fun h => absurd rfl h)).set2 false).set3 false
  · exact kp_set (S := fun k => k = r) (kp_set (S := fun k => k = r) (kp_set (S := fun k => k = r) (Kp.refl _ _) rfl 1 _) rfl 2 _) rfl 3 _

end Go.Proofs.YtpfpnlhihnfahaaDoor.spl
