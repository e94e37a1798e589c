/- The project's Splitter: up to a byte. -/
import Derived.Test.YtpmmjihkgfmbhaaDoorSpCalls
import Derived.Test.YtpmmjihkgfmbhaaDoorScopes
namespace Go.Proofs.YtpmmjihkgfmbhaaDoor.spl
open Go.RowKit Go.Maps Go.Proofs.YtpmmjihkgfmbhaaDoor.sum Go.Proofs.YtpmmjihkgfmbhaaDoor.kept Go.Proofs.YtpmmjihkgfmbhaaDoor.app Go.Proofs.YtpmmjihkgfmbhaaDoor.writer Go.Proofs.YtpmmjihkgfmbhaaDoor.clone Go.Proofs.YtpmmjihkgfmbhaaDoor.known Go.Proofs.YtpmmjihkgfmbhaaDoor.unseal Go.Proofs.YtpmmjihkgfmbhaaDoor.snp
set_option linter.unusedVariables false

/-- how many bytes have not been looked at -/
def aheadLen (w : World) (p : Nat) : Nat := match w.cell? ⟨p, 4, none⟩ with
  | some (.slice _ n _) => n
  | _ => 0
theorem aheadLen_sp {w : World} {base p : Nat} {ρ : Nat → Bool} {m : Nat} {s : SpS} (h : PSp w base p ρ m s) : aheadLen w p = s.rest.length := by
  obtain ⟨vr, va, h, -⟩ := h
  obtain ⟨a, c, e, -⟩ := h.rest.any
  unfold aheadLen
  rw [h.c4, e]
/-- in the midst of a Next: what it will come to -/
structure Mid (w : World) (base p : Nat) (ρ : Nat → Bool) (m : Nat) (A : Option (List UInt8) × SpS) (G : SpS → Option (List UInt8) × SpS) (wr : World) (ρr : Nat → Bool) (t : SpS) : Prop where
  sp : PSp wr base p ρr m t
  ok : OkS m t
  go : G t = A
  fr : FrS ρ w ρr wr
theorem Mid.call {w wr w' : World} {base p : Nat} {ρ ρr : Nat → Bool} {m : Nat} {A : Option (List UInt8) × SpS} {G G' : SpS → Option (List UInt8) × SpS} {t t' : SpS} (h : Mid w base p ρ m A G wr ρr t) {res : Value} {e : Ending} (hp : SpPost PSp wr base p ρr m t' res e w') (ho : OkS m t') (hg : G' t' = A) : e = .returned res ∧ ∃ ρ', Mid w base p ρ m A G' w' ρ' t' := by
  obtain ⟨he, ρ', h1, h2⟩ := hp
  exact ⟨he, ρ', h1, ho, hg, h.fr.trans h2⟩
theorem Mid.post {w wr : World} {base p : Nat} {ρ ρr : Nat → Bool} {m : Nat} {A : Option (List UInt8) × SpS} {t : SpS} {o : Option (List UInt8)} (h : Mid w base p ρ m A (fun t => (o, t)) wr ρr t) : SpPost PSp w base p ρ m A.2 (ansV A.1) (.returned (ansV A.1)) wr := by
  refine ⟨rfl, ρr, ?_, h.fr⟩
  rw [← h.go]
  exact h.sp

theorem goN_nil {m : Nat} {rs : List UInt8} {t : SpS} {A : Option (List UInt8) × SpS} (h : goS m rs t.rest t = A) (hr : t.rest = []) : (none, t) = A := by
  rw [← h, hr]
  show _ = (none, { t with rest := [] })
  rw [← hr]
theorem goN_more {m : Nat} {rs : List UInt8} {t : SpS} {A : Option (List UInt8) × SpS} {b : UInt8} {q : List UInt8} (h : goS m rs t.rest t = A) (hr : t.rest = b :: q) :
    (if (lookS m rs { t with rest := q } b).1 = true then (some (lookS m rs { t with rest := q } b).2.held, endS (lookS m rs { t with rest := q } b).2) else goS m rs q (lookS m rs { t with rest := q } b).2) = A := by
  rw [← h, hr]
  rfl

/-- behind a label: a byte is looked for -/
def UpJ (w : World) (base p : Nat) (ρ : Nat → Bool) (m : Nat) (A : Option (List UInt8) × SpS) (c : UInt8) (cs : List UInt8) (a : Act) (wr : World) : Prop :=
  ∃ u6 u7 u8 u9 u10 u11 u12 u13 u14 u15 u16 u17 u18 u19 u20 u21 u22 u23 u24 u25 u26 u27 u28 u29, a = { tmps := #[.pointer (some ⟨p, 0, none⟩), .int .u8 (c.toNat : Int), undef, undef, .string ⟨#[]⟩, .bool false, u6, u7, u8, u9, u10, u11, u12, u13, u14, u15, u16, u17, u18, u19, u20, u21, u22, u23, u24, u25, u26, u27, u28, u29], defers := [] } ∧ ∃ ρr t, Mid w base p ρ m A (fun t => goS m (c :: cs) t.rest t) wr ρr t
/-- a byte has come -/
def UpK (w : World) (base p : Nat) (ρ : Nat → Bool) (m : Nat) (A : Option (List UInt8) × SpS) (c : UInt8) (cs : List UInt8) (a : Act) (wr : World) : Prop :=
  ∃ b u7 u8 u9 u10 u11 u12 u13 u14 u15 u16 u17 u18 u19 u20 u21 u22 u23 u24 u25 u26 u27 u28 u29, a = { tmps := #[.pointer (some ⟨p, 0, none⟩), .int .u8 (c.toNat : Int), undef, undef, .string ⟨#[]⟩, .bool false, .int .u8 ((b : UInt8).toNat : Int), u7, u8, u9, u10, u11, u12, u13, u14, u15, u16, u17, u18, u19, u20, u21, u22, u23, u24, u25, u26, u27, u28, u29], defers := [] } ∧ ∃ ρr t, Mid w base p ρ m A (fun t => if (lookS m (c :: cs) t b).1 = true then (some (lookS m (c :: cs) t b).2.held, endS (lookS m (c :: cs) t b).2) else goS m (c :: cs) t.rest (lookS m (c :: cs) t b).2) wr ρr t

set_option maxRecDepth 100000 in
set_option maxHeartbeats 8000000 in
theorem upTo_any (w : World) (base p : Nat) (ρ : Nat → Bool) (m : Nat) (s : SpS) (c : UInt8) (cs : List UInt8) (h : PSp w base p ρ m s) (hok : OkS m s) (hm : m ≤ 200) : Calls Tryd.prog 30 #[.pointer (some ⟨p, 0, none⟩), .int .u8 (c.toNat : Int)] w (SpPost PSp w base p ρ m (nextS m (c :: cs) s).2 (ansV (nextS m (c :: cs) s).1)) := by
  obtain ⟨A, hA⟩ : ∃ A, nextS m (c :: cs) s = A := ⟨_, rfl⟩
  rw [hA]
  have H := Hid_mk h
  have HA := Hid_mk hA
  have HOk := Hid_mk hok
  obtain ⟨vr, va, hh, hρ⟩ := h
  have HH := Hid_mk hh
  have c3 := hh.c3
  have f3 := hh.warm 3
  clear hh hA hok
  go_enter Tryd.func30, Tryd.ntmps30
  go_wp2
  refine scope_two 1 0 (by decide) (UpJ w base p ρ m A c cs) (UpK w base p ρ m A c cs) (fun _ wr => 2 * aheadLen wr p) (fun _ wr => 2 * aheadLen wr p + 1) rfl rfl ?passB ?passA ?first
  case passB =>
    clear c3 f3
    rintro a' wr ⟨b, u7, u8, u9, u10, u11, u12, u13, u14, u15, u16, u17, u18, u19, u20, u21, u22, u23, u24, u25, u26, u27, u28, u29, rfl, ρr, t, hmid⟩
    have HM := Hid_mk hmid
    have hgo := hmid.go
    have hsp := hmid.sp
    have hot := hmid.ok
    by_cases hb : b = c
    · have e1 : lookS m (c :: cs) t b = (true, t) := if_pos hb
      simp only [e1] at hgo
      have hbe : ((b.toNat : Int) == (c.toNat : Int)) = true := by rw [hb]; simp
      have HE := Hid_mk (end_any wr base p ρr m t hsp)
      have HG : Hid ((some t.held, endS t) = A) := Hid_mk (by simpa using hgo)
      clear hgo hsp hot e1 hmid hb
      go_wp2_with fail
      with_reducible refine HE.out.mono ?_
      intro e w6 hpost
      obtain ⟨he, ρ6, hm6⟩ := Mid.call (G' := fun t' => (some t.held, t')) HM.out hpost (endS_ok m t) HG.out
      subst he
      have HP := Hid_mk hm6.post
      have HA1 : Hid (A.1 = some t.held) := Hid_mk (by rw [← HG.out])
      rw [HA1.out] at HP
      clear hpost hm6 HE
      go_wp2
      simp only [jumpF]
      go_ret2
      rw [HA1.out]
      exact HP.out
    · have hbe : ((b.toNat : Int) == (c.toNat : Int)) = false := by
        simp only [beq_eq_false_iff_ne, ne_eq]
        exact fun e => hb (UInt8.toNat_inj.1 (by omega))
      have e1 : lookS m (c :: cs) t b = (false, putS m t b) := if_neg hb
      simp only [e1] at hgo
      have HP := Hid_mk (add_any wr base p ρr m t b hsp hot (by omega))
      have HG : Hid (goS m (c :: cs) (putS m t b).rest (putS m t b) = A) := Hid_mk (by rw [putS_rest]; simpa using hgo)
      have HO := Hid_mk (putS_ok hot b)
      have HLn := Hid_mk (aheadLen_sp hsp)
      clear hgo hsp hot e1 hmid hb
      go_wp2_with fail
      with_reducible refine HP.out.mono ?_
      intro e w6 hpost
      obtain ⟨he, ρ6, hm6⟩ := Mid.call (G' := fun t => goS m (c :: cs) t.rest t) HM.out hpost HO.out HG.out
      subst he
      have HM6 := Hid_mk hm6
      clear hpost hm6 HP
      go_wp2
      go_step3
      refine .inl ⟨rfl, ⟨_, _, _, _, _, _, _, _, _, _, _, _, _, _, _, _, _, _, _, _, _, _, _, _, rfl, _, _, HM6.out⟩, ?_⟩
      rw [HLn.out, aheadLen_sp HM6.out.sp, putS_rest]
      omega
  case passA =>
    clear c3 f3
    rintro a' wr ⟨u6, u7, u8, u9, u10, u11, u12, u13, u14, u15, u16, u17, u18, u19, u20, u21, u22, u23, u24, u25, u26, u27, u28, u29, rfl, ρr, t, hmid⟩ hB
    have HB := Hid_mk hB
    have HM := Hid_mk hmid
    have hgo := hmid.go
    have hsp := hmid.sp
    have hot := hmid.ok
    have HLn := Hid_mk (aheadLen_sp hsp)
    clear hB
    cases hq : t.rest with
    | nil =>
      have HL := Hid_mk (look_none wr base p ρr m t hsp hq)
      have HG := Hid_mk (goN_nil hgo hq)
      have HO := Hid_mk hot
      clear hgo hsp hot hmid hq HB
      go_wp2_with fail
      with_reducible refine HL.out.mono ?_
      intro e w6 hpost
      obtain ⟨he, ρ6, hm6⟩ := Mid.call (G' := fun t' => (none, t')) HM.out hpost HO.out HG.out
      subst he
      have HP := Hid_mk hm6.post
      have HA1 : Hid (A.1 = none) := Hid_mk (by rw [← HG.out])
      rw [HA1.out] at HP
      clear hpost hm6 HL
      go_wp2
      simp only [jumpF]
      go_ret2
      rw [HA1.out]
      exact HP.out
    | cons b q =>
      have HL := Hid_mk (look_some wr base p ρr m t b q hsp hq)
      have HG := Hid_mk (goN_more hgo hq)
      have HO : Hid (OkS m { t with rest := q }) := Hid_mk hot
      have HQ := Hid_mk hq
      clear hgo hsp hot hmid hq
      go_wp2_with fail
      with_reducible refine HL.out.mono ?_
      intro e w6 hpost
      obtain ⟨he, ρ6, hm6⟩ := Mid.call (G' := fun t => if (lookS m (c :: cs) t b).1 = true then (some (lookS m (c :: cs) t b).2.held, endS (lookS m (c :: cs) t b).2) else goS m (c :: cs) t.rest (lookS m (c :: cs) t b).2) HM.out hpost HO.out HG.out
      subst he
      have HM6 := Hid_mk hm6
      clear hpost hm6 HL
      go_wp2
      apply wp_label
      rename_i hK0
      refine hK0 _ _ (HB.out _ _ ⟨b, _, _, _, _, _, _, _, _, _, _, _, _, _, _, _, _, _, _, _, _, _, _, _, rfl, _, _, HM6.out⟩ ?_)
      rw [HLn.out, aheadLen_sp HM6.out.sp, HQ.out]
      simp only [List.length_cons]
      omega
  case first =>
    intro pass
    have HP := Hid_mk pass
    clear pass
    cases hw : s.waits with
    | false =>
      rw [hw] at c3
      have e1 : readyS (c :: cs) s = s := readyS_dry (fun _ => hw)
      have hg : goS m (c :: cs) s.rest s = A := by rw [← HA.out]; unfold nextS; rw [e1]
      have HM : Hid (Mid w base p ρ m A (fun t => goS m (c :: cs) t.rest t) w ρ s) := Hid_mk ⟨H.out, HOk.out, hg, FrS.refl _ _⟩
      clear e1 hg
      go_wp2
      apply wp_label
      rename_i hK0
      exact hK0 _ _ (HP.out _ _ ⟨_, _, _, _, _, _, _, _, _, _, _, _, _, _, _, _, _, _, _, _, _, _, _, _, rfl, _, _, HM.out⟩)
    | true =>
      rw [hw] at c3
      have e1 : readyS (c :: cs) s = { s with waits := false, rest := 10 :: s.rest } := if_pos ⟨by simp, hw⟩
      have hg := HA.out
      unfold nextS at hg
      rw [e1] at hg
      have h2 : PSp (w.setCell ⟨p, 3, none⟩ (.bool false)) base p ρ m { s with waits := false } := ⟨_, _, HH.out.set3 false, hρ⟩
      have hfr : FrS ρ w ρ (w.setCell ⟨p, 3, none⟩ (.bool false)) := by rw [hρ]; exact fr_set (Kp.refl _ _) 3 _ HH.out.lt (.inl rfl) (.inl rfl)
      have HM : Hid (Mid w base p ρ m A (fun t => if (lookS m (c :: cs) t 10).1 = true then (some (lookS m (c :: cs) t 10).2.held, endS (lookS m (c :: cs) t 10).2) else goS m (c :: cs) t.rest (lookS m (c :: cs) t 10).2) (w.setCell ⟨p, 3, none⟩ (.bool false)) ρ { s with waits := false }) := Hid_mk ⟨h2, HOk.out, hg, hfr⟩
      clear e1 hg h2 hfr HP
      go_wp2
      go_step3
      exact .inr ⟨rfl, ⟨10, _, _, _, _, _, _, _, _, _, _, _, _, _, _, _, _, _, _, _, _, _, _, _, rfl, _, _, HM.out⟩⟩

end Go.Proofs.YtpmmjihkgfmbhaaDoor.spl
