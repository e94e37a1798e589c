/- The project's Splitter: by paragraphs; Next, Rest. -/
import Derived.Test.YtpmmjihkgfmbhaaDoorUpTo
namespace Go.Proofs.YtpmmjihkgfmbhaaDoor.spl
open Go.RowKit Go.Maps Go.Proofs.YtpmmjihkgfmbhaaDoor.sum Go.Proofs.YtpmmjihkgfmbhaaDoor.kept Go.Proofs.YtpmmjihkgfmbhaaDoor.app Go.Proofs.YtpmmjihkgfmbhaaDoor.writer Go.Proofs.YtpmmjihkgfmbhaaDoor.clone Go.Proofs.YtpmmjihkgfmbhaaDoor.known Go.Proofs.YtpmmjihkgfmbhaaDoor.unseal Go.Proofs.YtpmmjihkgfmbhaaDoor.snp
set_option linter.unusedVariables false

theorem putS_waits (m : Nat) (s : SpS) (b : UInt8) (v : Bool) : putS m { s with waits := v } b = { putS m s b with waits := v } := by
  unfold putS; simp only; split <;> rfl
theorem putS_w (m : Nat) (s : SpS) (b : UInt8) : (putS m s b).waits = s.waits := by unfold putS; split <;> rfl
theorem PSp.set3 {w : World} {base p : Nat} {ρ : Nat → Bool} {m : Nat} {s : SpS} (h : PSp w base p ρ m s) (b : Bool) : PSp (w.setCell ⟨p, 3, none⟩ (.bool b)) base p ρ m { s with waits := b } ∧ FrS ρ w ρ (w.setCell ⟨p, 3, none⟩ (.bool b)) := by
  obtain ⟨vr, va, hh, rfl⟩ := h
  exact ⟨⟨_, _, hh.set3 b, rfl⟩, fr_set (Kp.refl _ _) 3 _ hh.lt (.inl rfl) (.inl rfl)⟩
theorem PSp.c3 {w : World} {base p : Nat} {ρ : Nat → Bool} {m : Nat} {s : SpS} (h : PSp w base p ρ m s) : w.cell? ⟨p, 3, none⟩ = some (.bool s.waits) ∧ w.frozen? ⟨p, 3, none⟩ = false := by
  obtain ⟨vr, va, hh, -⟩ := h
  exact ⟨hh.c3, hh.warm 3⟩
theorem Mid.set3 {w wr : World} {base p : Nat} {ρ ρr : Nat → Bool} {m : Nat} {A : Option (List UInt8) × SpS} {G G' : SpS → Option (List UInt8) × SpS} {t : SpS} (h : Mid w base p ρ m A G wr ρr t) (b : Bool) (hg : G' { t with waits := b } = A) : Mid w base p ρ m A G' (wr.setCell ⟨p, 3, none⟩ (.bool b)) ρr { t with waits := b } :=
  ⟨(h.sp.set3 b).1, h.ok, hg, h.fr.trans (h.sp.set3 b).2⟩

def PaJ (k : Bool) (w : World) (base p : Nat) (ρ : Nat → Bool) (m : Nat) (A : Option (List UInt8) × SpS) (a : Act) (wr : World) : Prop :=
  ∃ u4 u5 u6 u7 u8 u9 u10 u11 u12 u13 u14 u15 u16 u17 u18 u19 u20 u21 u22 u23 u24 u25 u26 u27 u28 u29 u30 u31 u32 u33 u34 u35 u36 u37 u38 u39 u40 u41 u42 u43 u44 u45 u46 u47 u48 u49, a = { tmps := #[.pointer (some ⟨p, 0, none⟩), undef, .string ⟨#[]⟩, .bool false, u4, u5, u6, u7, u8, u9, u10, u11, u12, u13, u14, u15, u16, u17, u18, u19, u20, u21, u22, u23, u24, u25, u26, u27, u28, u29, u30, u31, u32, u33, u34, u35, u36, u37, u38, u39, u40, u41, u42, u43, u44, u45, u46, u47, u48, u49], defers := [] } ∧ ∃ ρr t, t.waits = k ∧ Mid w base p ρ m A (fun t => goS m [] t.rest t) wr ρr t

set_option maxRecDepth 100000 in
set_option maxHeartbeats 8000000 in
theorem paragraph_any (w : World) (base p : Nat) (ρ : Nat → Bool) (m : Nat) (s : SpS) (h : PSp w base p ρ m s) (hok : OkS m s) (hm : m ≤ 200) : Calls Tryd.prog 29 #[.pointer (some ⟨p, 0, none⟩)] w (SpPost PSp w base p ρ m (nextS m [] s).2 (ansV (nextS m [] s).1)) := by
  obtain ⟨A, hA⟩ : ∃ A, nextS m [] s = A := ⟨_, rfl⟩
  rw [hA]
  have hg0 : goS m [] s.rest s = A := by rw [← hA]; rfl
  have HM0 : Hid (Mid w base p ρ m A (fun t => goS m [] t.rest t) w ρ s) := Hid_mk ⟨h, hok, hg0, FrS.refl _ _⟩
  have c3 := h.c3.1
  clear h hA hok hg0
  go_enter Tryd.func29, Tryd.ntmps29
  go_wp2
  refine scope_two 1 0 (by decide) (PaJ false w base p ρ m A) (PaJ true w base p ρ m A) (fun _ wr => aheadLen wr p) (fun _ wr => aheadLen wr p) rfl rfl ?passB ?passA ?first
  case passB =>
    clear c3 HM0
    rintro a' wr ⟨u4, u5, u6, u7, u8, u9, u10, u11, u12, u13, u14, u15, u16, u17, u18, u19, u20, u21, u22, u23, u24, u25, u26, u27, u28, u29, u30, u31, u32, u33, u34, u35, u36, u37, u38, u39, u40, u41, u42, u43, u44, u45, u46, u47, u48, u49, rfl, ρr, t, hw, hmid⟩
    have HM := Hid_mk hmid
    have hgo := hmid.go
    have hsp := hmid.sp
    have hot := hmid.ok
    have HLn := Hid_mk (aheadLen_sp hsp)
    cases hq : t.rest with
    | nil =>
      have HL := Hid_mk (look_none wr base p ρr m t hsp hq)
      have HG := Hid_mk (goN_nil hgo hq)
      have HO := Hid_mk hot
      clear hgo hsp hot hmid hq hw
      go_wp2_with fail
      with_reducible refine HL.out.mono ?_
      intro e w6 hpost
      obtain ⟨he, ρ6, hm6⟩ := Mid.call (G' := fun t' => (none, t')) HM.out hpost HO.out HG.out
      subst he
      have HP := Hid_mk hm6.post
      have HA1 : Hid (A.1 = none) := Hid_mk (by rw [← HG.out])
      rw [HA1.out] at HP
      clear hpost hm6 HL
      go_wp2
      simp only [jumpF]
      go_ret2
      rw [HA1.out]
      exact HP.out
    | cons b q =>
      have HL := Hid_mk (look_some wr base p ρr m t b q hsp hq)
      have hg := goN_more hgo hq
      have HQ := Hid_mk hq
      have HO : Hid (OkS m { t with rest := q }) := Hid_mk hot
      obtain ⟨t1, ht1⟩ : ∃ t1 : SpS, t1 = { t with rest := q } := ⟨_, rfl⟩
      rw [← ht1] at hg HL HO
      have hw1 : t1.waits = true := by rw [ht1]; exact hw
      have hr1 : t1.rest = q := by rw [ht1]
      clear ht1 hgo hsp hot hmid hq hw
      by_cases hb : b = 10
      · subst hb
        have e1 : lookS m [] t1 10 = (true, t1) := by
          unfold lookS
          simp only
          rw [if_pos trivial, if_pos hw1]
        simp only [e1] at hg
        have HG : Hid ((some t1.held, endS t1) = A) := Hid_mk (by simpa using hg)
        have HR1 := Hid_mk hr1
        clear hg hw1 hr1 e1
        simp only [show ((10 : UInt8).toNat : Int) = 10 from rfl] at HL
        go_wp2_with fail
        with_reducible refine HL.out.mono ?_
        intro e w6 hpost
        obtain ⟨he, ρ6, hm6⟩ := Mid.call (G' := fun t' => (some t'.held, endS t')) HM.out hpost HO.out HG.out
        subst he
        have HM6 := Hid_mk hm6
        have HE := Hid_mk (end_any w6 base p ρ6 m t1 hm6.sp)
        clear hpost hm6 HL
        go_wp2_with fail
        with_reducible refine HE.out.mono ?_
        intro e w7 hpost
        obtain ⟨he, ρ7, hm7⟩ := Mid.call (G' := fun t' => (some t1.held, t')) HM6.out hpost (endS_ok m t1) HG.out
        subst he
        have HP := Hid_mk hm7.post
        have HA1 : Hid (A.1 = some t1.held) := Hid_mk (by rw [← HG.out])
        rw [HA1.out] at HP
        clear hpost hm7 HE
        go_wp2
        simp only [jumpF]
        go_ret2
        rw [HA1.out]
        exact HP.out
      · have hbn : ¬ b.toNat = 10 := fun e => hb (UInt8.toNat_inj.1 e)
        have hbi : ¬ (b.toNat : Int) = 10 := by omega
        have e1 : lookS m [] t1 b = (false, putS m (putS m { t1 with waits := false } 10) b) := by
          unfold lookS
          simp only
          rw [if_neg hb]
          unfold wakeS
          rw [if_pos hw1, ← putS_waits m t1 10 false]
        simp only [e1] at hg
        have HG : Hid (goS m [] q (putS m (putS m { t1 with waits := false } 10) b) = A) := Hid_mk (by simpa using hg)
        have HR1 := Hid_mk hr1
        clear hg hw1 hr1 e1 hb hbn
        go_wp2_with fail
        with_reducible refine HL.out.mono ?_
        intro e w6 hpost
        obtain ⟨he, ρ6, hm6⟩ := Mid.call (G' := fun t' => goS m [] q (putS m (putS m { t' with waits := false } 10) b)) HM.out hpost HO.out HG.out
        subst he
        have d3 := hm6.sp.c3.1
        have f3 := hm6.sp.c3.2
        have HM7 := Hid_mk (hm6.set3 (G' := fun t' => goS m [] q (putS m (putS m t' 10) b)) false HG.out)
        have HP1 := Hid_mk (add_any _ base p ρ6 m _ 10 HM7.out.sp HM7.out.ok (by omega))
        simp only [show ((10 : UInt8).toNat : Int) = 10 from rfl] at HP1
        clear hpost hm6 HL
        go_wp2_with fail
        with_reducible refine HP1.out.mono ?_
        intro e w8 hpost
        obtain ⟨he, ρ8, hm8⟩ := Mid.call (G' := fun t' => goS m [] q (putS m t' b)) HM7.out hpost (putS_ok HM7.out.ok 10) HG.out
        subst he
        have HM8 := Hid_mk hm8
        have HP2 := Hid_mk (add_any _ base p ρ8 m _ b hm8.sp hm8.ok (by omega))
        clear hpost hm8 HP1 d3 f3
        go_wp2_with fail
        with_reducible refine HP2.out.mono ?_
        intro e w9 hpost
        have hrr : (putS m (putS m { t1 with waits := false } 10) b).rest = q := by rw [putS_rest, putS_rest]; exact HR1.out
        obtain ⟨he, ρ9, hm9⟩ := Mid.call (G' := fun t' => goS m [] t'.rest t') HM8.out hpost (putS_ok HM8.out.ok b) (by rw [hrr]; exact HG.out)
        subst he
        have HM9 := Hid_mk hm9
        have HRr := Hid_mk hrr
        clear hpost hm9 HP2 hrr
        go_wp2
        go_step3
        refine .inl ⟨rfl, ⟨_, _, _, _, _, _, _, _, _, _, _, _, _, _, _, _, _, _, _, _, _, _, _, _, _, _, _, _, _, _, _, _, _, _, _, _, _, _, _, _, _, _, _, _, _, _, rfl, _, _, ?_, HM9.out⟩, ?_⟩
        · rw [putS_w, putS_w]
        · rw [HLn.out, aheadLen_sp HM9.out.sp, HRr.out, HQ.out]
          simp
  case passA =>
    clear c3 HM0
    rintro a' wr ⟨u4, u5, u6, u7, u8, u9, u10, u11, u12, u13, u14, u15, u16, u17, u18, u19, u20, u21, u22, u23, u24, u25, u26, u27, u28, u29, u30, u31, u32, u33, u34, u35, u36, u37, u38, u39, u40, u41, u42, u43, u44, u45, u46, u47, u48, u49, rfl, ρr, t, hw, hmid⟩ hB
    have HB := Hid_mk hB
    have HM := Hid_mk hmid
    have hgo := hmid.go
    have hsp := hmid.sp
    have hot := hmid.ok
    have HLn := Hid_mk (aheadLen_sp hsp)
    clear hB
    cases hq : t.rest with
    | nil =>
      have HL := Hid_mk (look_none wr base p ρr m t hsp hq)
      have HG := Hid_mk (goN_nil hgo hq)
      have HO := Hid_mk hot
      clear hgo hsp hot hmid hq hw HB
      go_wp2_with fail
      with_reducible refine HL.out.mono ?_
      intro e w6 hpost
      obtain ⟨he, ρ6, hm6⟩ := Mid.call (G' := fun t' => (none, t')) HM.out hpost HO.out HG.out
      subst he
      have HP := Hid_mk hm6.post
      have HA1 : Hid (A.1 = none) := Hid_mk (by rw [← HG.out])
      rw [HA1.out] at HP
      clear hpost hm6 HL
      go_wp2
      simp only [jumpF]
      go_ret2
      rw [HA1.out]
      exact HP.out
    | cons b q =>
      have HL := Hid_mk (look_some wr base p ρr m t b q hsp hq)
      have hg := goN_more hgo hq
      have HQ := Hid_mk hq
      have HO : Hid (OkS m { t with rest := q }) := Hid_mk hot
      obtain ⟨t1, ht1⟩ : ∃ t1 : SpS, t1 = { t with rest := q } := ⟨_, rfl⟩
      rw [← ht1] at hg HL HO
      have hw1 : t1.waits = false := by rw [ht1]; exact hw
      have hr1 : t1.rest = q := by rw [ht1]
      have HR1 := Hid_mk hr1
      have HW1 := Hid_mk hw1
      clear ht1 hgo hsp hot hmid hq hw
      by_cases hb : b = 10
      · subst hb
        have e1 : lookS m [] t1 10 = (false, { t1 with waits := !t1.held.isEmpty }) := by
          unfold lookS
          simp only
          rw [if_pos trivial, if_neg (by rw [hw1]; simp)]
        simp only [e1] at hg
        have HG : Hid (goS m [] q { t1 with waits := !t1.held.isEmpty } = A) := Hid_mk (by simpa using hg)
        clear hg hw1 hr1 e1
        simp only [show ((10 : UInt8).toNat : Int) = 10 from rfl] at HL
        go_wp2_with fail
        with_reducible refine HL.out.mono ?_
        intro e w6 hpost
        obtain ⟨he, ρ6, hm6⟩ := Mid.call (G' := fun t' => goS m [] q { t' with waits := !t1.held.isEmpty }) HM.out hpost HO.out HG.out
        subst he
        have HM6 := Hid_mk hm6
        have d3 := hm6.sp.c3.1
        have f3 := hm6.sp.c3.2
        obtain ⟨vr, va, hh, -⟩ := hm6.sp
        have d1 := hh.c1
        obtain ⟨ah, ch, rfl, -, -, -⟩ := hh.held.any
        clear hpost hm6 HL hh
        by_cases hh : t1.held = []
        · have hl0 : (t1.held.length : Int) = 0 := by rw [hh]; rfl
          have hl1 : t1.held.length = 0 := by rw [hh]; rfl
          have he : ({ t1 with waits := !t1.held.isEmpty } : SpS) = t1 := by
            have : (!t1.held.isEmpty) = t1.waits := by rw [HW1.out, hh]; rfl
            rw [this]
          rw [he] at HG
          have HM7 : Hid (Mid w base p ρ m A (fun t => goS m [] t.rest t) w6 ρ6 t1) := Hid_mk ⟨HM6.out.sp, HM6.out.ok, by simp only [HR1.out]; exact HG.out, HM6.out.fr⟩
          clear hh he HM6 d3 f3
          go_wp2
          go_step3
          refine .inl ⟨rfl, ⟨_, _, _, _, _, _, _, _, _, _, _, _, _, _, _, _, _, _, _, _, _, _, _, _, _, _, _, _, _, _, _, _, _, _, _, _, _, _, _, _, _, _, _, _, _, _, rfl, _, _, HW1.out, HM7.out⟩, ?_⟩
          rw [HLn.out, aheadLen_sp HM7.out.sp, HR1.out, HQ.out]
          simp
        · have hlp := List.length_pos_iff.2 hh
          have hl0 : ¬ (t1.held.length : Int) = 0 := by omega
          have hl1 : ¬ t1.held.length = 0 := by omega
          have he : (!t1.held.isEmpty) = true := by cases e : t1.held with | nil => exact absurd e hh | cons _ _ => rfl
          rw [he] at HG
          have HM7 : Hid (Mid w base p ρ m A (fun t => goS m [] t.rest t) (w6.setCell ⟨p, 3, none⟩ (.bool true)) ρ6 { t1 with waits := true }) := Hid_mk (HM6.out.set3 true ((congrArg (fun x => goS m [] x { t1 with waits := true }) HR1.out).trans HG.out))
          clear hh he HM6 hlp
          go_wp2
          apply wp_label
          rename_i hK0
          refine hK0 _ _ (HB.out _ _ ⟨_, _, _, _, _, _, _, _, _, _, _, _, _, _, _, _, _, _, _, _, _, _, _, _, _, _, _, _, _, _, _, _, _, _, _, _, _, _, _, _, _, _, _, _, _, _, rfl, _, _, rfl, HM7.out⟩ ?_)
          rw [HLn.out, aheadLen_sp HM7.out.sp, HR1.out, HQ.out]
          simp
      · have hbn : ¬ b.toNat = 10 := fun e => hb (UInt8.toNat_inj.1 e)
        have hbi : ¬ (b.toNat : Int) = 10 := by omega
        have e1 : lookS m [] t1 b = (false, putS m t1 b) := by
          unfold lookS
          simp only
          rw [if_neg hb]
          unfold wakeS
          rw [if_neg (by rw [hw1]; simp)]
        simp only [e1] at hg
        have HG : Hid (goS m [] q (putS m t1 b) = A) := Hid_mk (by simpa using hg)
        clear hg hw1 hr1 e1 hb hbn HB
        go_wp2_with fail
        with_reducible refine HL.out.mono ?_
        intro e w6 hpost
        obtain ⟨he, ρ6, hm6⟩ := Mid.call (G' := fun t' => goS m [] q (putS m t' b)) HM.out hpost HO.out HG.out
        subst he
        have HM8 := Hid_mk hm6
        have HP2 := Hid_mk (add_any _ base p ρ6 m _ b hm6.sp hm6.ok (by omega))
        clear hpost hm6 HL
        go_wp2_with fail
        with_reducible refine HP2.out.mono ?_
        intro e w9 hpost
        have hrr : (putS m t1 b).rest = q := by rw [putS_rest]; exact HR1.out
        obtain ⟨he, ρ9, hm9⟩ := Mid.call (G' := fun t' => goS m [] t'.rest t') HM8.out hpost (putS_ok HM8.out.ok b) (by rw [hrr]; exact HG.out)
        subst he
        have HM9 := Hid_mk hm9
        have HRr := Hid_mk hrr
        clear hpost hm9 HP2 hrr
        go_wp2
        go_step3
        refine .inl ⟨rfl, ⟨_, _, _, _, _, _, _, _, _, _, _, _, _, _, _, _, _, _, _, _, _, _, _, _, _, _, _, _, _, _, _, _, _, _, _, _, _, _, _, _, _, _, _, _, _, _, rfl, _, _, ?_, HM9.out⟩, ?_⟩
        · rw [putS_w]; exact HW1.out
        · rw [HLn.out, aheadLen_sp HM9.out.sp, HRr.out, HQ.out]
          simp
  case first =>
    intro pass
    have HP := Hid_mk pass
    clear pass
    cases hw : s.waits with
    | false =>
      rw [hw] at c3
      have HW := Hid_mk hw
      clear hw
      go_wp2
      apply wp_label
      rename_i hK0
      exact hK0 _ _ (HP.out _ _ ⟨_, _, _, _, _, _, _, _, _, _, _, _, _, _, _, _, _, _, _, _, _, _, _, _, _, _, _, _, _, _, _, _, _, _, _, _, _, _, _, _, _, _, _, _, _, _, rfl, _, _, HW.out, HM0.out⟩)
    | true =>
      rw [hw] at c3
      have HW := Hid_mk hw
      clear hw HP
      go_wp2
      go_step3
      exact .inr ⟨rfl, ⟨_, _, _, _, _, _, _, _, _, _, _, _, _, _, _, _, _, _, _, _, _, _, _, _, _, _, _, _, _, _, _, _, _, _, _, _, _, _, _, _, _, _, _, _, _, _, rfl, _, _, HW.out, HM0.out⟩⟩

theorem tx_list' (l : List UInt8) : (tx l).toList = l := by rw [ByteArray.toList_eq]; rfl
theorem tx_zero' (c : UInt8) (cs : List UInt8) (h : 0 < (tx (c :: cs)).size) : (tx (c :: cs))[0] = c := rfl

set_option maxRecDepth 100000 in
set_option maxHeartbeats 4000000 in
theorem spnext_any (w : World) (base p : Nat) (ρ : Nat → Bool) (m : Nat) (s : SpS) (rs : List UInt8) (h : PSp w base p ρ m s) (hok : OkS m s) (hm : m ≤ 200) : Calls Tryd.prog 11 #[.pointer (some ⟨p, 0, none⟩), .string (tx rs)] w (SpPost PSp w base p ρ m (nextS m rs s).2 (ansV (nextS m rs s).1)) := by
  cases rs with
  | nil =>
    have HP := Hid_mk (paragraph_any w base p ρ m s h hok hm)
    obtain ⟨A, hA⟩ : ∃ A, nextS m [] s = A := ⟨_, rfl⟩
    rw [hA] at HP ⊢
    clear h hok hA
    have e0 : tx [] = ⟨#[]⟩ := rfl
    rw [e0]
    go_enter Tryd.func11, Tryd.ntmps11
    go_wp2_with fail
    with_reducible refine HP.out.mono ?_
    intro e w1 hpost
    obtain ⟨he, hp⟩ : e = .returned (.tuple #[.string (tx (A.1.getD [])), .bool A.1.isSome]) ∧ Hid (∃ ρ', PSp w1 base p ρ' m A.2 ∧ FrS ρ w ρ' w1) := ⟨hpost.1, Hid_mk hpost.2⟩
    subst he
    clear hpost HP
    go_wp2
    go_ret2
    exact ⟨rfl, hp.out⟩
  | cons c cs =>
    have HP := Hid_mk (upTo_any w base p ρ m s c cs h hok hm)
    obtain ⟨A, hA⟩ : ∃ A, nextS m (c :: cs) s = A := ⟨_, rfl⟩
    rw [hA] at HP ⊢
    have hx1 : ¬ (tx (c :: cs)).toList = [] := by rw [tx_list']; simp
    have hx2 : (tx (c :: cs)).size = cs.length + 1 := by simp [tx, ByteArray.size]
    have hx3 : (tx (c :: cs)).toList.isEmpty = false := by rw [tx_list']; rfl
    have hx4 : ((tx (c :: cs))[0]'(by rw [hx2]; omega)).toNat = c.toNat := by rw [tx_zero' c cs]
    clear h hok hA
    go_enter Tryd.func11, Tryd.ntmps11
    go_wp2_with fail
    with_reducible refine HP.out.mono ?_
    intro e w1 hpost
    obtain ⟨he, hp⟩ : e = .returned (.tuple #[.string (tx (A.1.getD [])), .bool A.1.isSome]) ∧ Hid (∃ ρ', PSp w1 base p ρ' m A.2 ∧ FrS ρ w ρ' w1) := ⟨hpost.1, Hid_mk hpost.2⟩
    subst he
    clear hpost HP
    go_wp2
    go_ret2
    exact ⟨rfl, hp.out⟩

end Go.Proofs.YtpmmjihkgfmbhaaDoor.spl
