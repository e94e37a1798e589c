/- (files).tear: a part of an append that a crash cut off. -/
import Derived.Test.YtomckoeobkfklaaDoorDiskSettle
import Derived.Deep.RegionWith
import Derived.RegionCalls
namespace Go.Proofs.YtomckoeobkfklaaDoor.dsk
open Go.RowKit Go.Maps Go.Proofs.YtomckoeobkfklaaDoor.sum Go.Proofs.YtomckoeobkfklaaDoor.kept Go.Proofs.YtomckoeobkfklaaDoor.app Go.Proofs.YtomckoeobkfklaaDoor.writer Go.Proofs.YtomckoeobkfklaaDoor.clone Go.Proofs.YtomckoeobkfklaaDoor.unseal Go.Proofs.YtomckoeobkfklaaDoor.fs Go.Proofs.YtomckoeobkfklaaDoor.fsMem Go.Proofs.YtomckoeobkfklaaDoor.fsDo Go.Proofs.YtomckoeobkfklaaDoor.fsUsed Go.Proofs.YtomckoeobkfklaaDoor.turned
set_option linter.unusedVariables false

/-- so many bytes of it -/
def tornN (c : Change) (torn : Int) : Nat := if c.bytes.length = 0 then 0 else (torn % (c.bytes.length : Int)).toNat
def tearF (es : Files) (c : Change) (torn : Int) : Files := if tornN c torn = 0 then es else doit es { c with bytes := c.bytes.take (tornN c torn) }

theorem tornN_lt (c : Change) (torn : Int) (h : c.bytes.length ≠ 0) : tornN c torn < c.bytes.length ∧ torn % (c.bytes.length : Int) = (tornN c torn : Int) := by
  unfold tornN
  rw [if_neg h]
  have h1 := Int.emod_nonneg torn (show (c.bytes.length : Int) ≠ 0 by omega)
  have h2 := Int.emod_lt_of_pos torn (show (0 : Int) < (c.bytes.length : Int) by omega)
  omega

set_option maxRecDepth 100000 in
set_option maxHeartbeats 1000000 in
theorem tear_any (w : World) (base b : Nat) (ρ : Nat → Option Name) (es : Files) (c : Change) (vb : Value) (torn : Int) (h : FM w base b ρ es) (hkind : c.bytes ≠ [] → c.kind = 0) (hb : Bs w vb c.bytes) (hs : c.name.size ≤ maxLen) (hst : c.to.size ≤ maxLen) (hl : es.length < maxLen)
    (hlen : (old es (nm c.name)).length + c.bytes.length ≤ 140737488355328) :
    Calls Tryd.prog 40 #[.map (some b), chg c vb, .int .i64 torn] w (DoPost base b ρ w (tearF es c torn)) := by
  obtain ⟨ab, cb, rfl, hc1, hc2, -⟩ := id hb
  unfold maxLen at hc2
  by_cases h0 : c.bytes.length = 0
  · have hfin : DoPost base b ρ w (tearF es c torn) (.returned (.tuple #[])) (w.alloc (.cells #[.int .i64 (c.kind : Int), .string c.name, .string c.to, .slice ab c.bytes.length cb, .int .i64 (c.size : Int)] 63)) := by
      refine ⟨rfl, ρ, ?_, ((Kp.refl _ w).alloc _), fun _ _ h => h⟩
      unfold tearF tornN
      rw [if_pos h0, if_pos rfl]
      exact fm_alloc h _
    have HF := Hid_mk hfin
    rw [h0] at *
    unfold chg
    clear hfin h hb hkind hlen
    go_enter Tryd.func40, Tryd.ntmps40
    go_wp2
    go_end0
    exact HF.out
  · obtain ⟨ht1, ht2⟩ := tornN_lt c torn h0
    have hk0 := hkind (fun e => h0 (by rw [e]; rfl))
    obtain ⟨L, hL⟩ : ∃ L, c.bytes.length = L := ⟨_, rfl⟩
    obtain ⟨t, ht⟩ : ∃ t, tornN c torn = t := ⟨_, rfl⟩
    rw [hL] at ht1 ht2 hc1 h0 hlen hb ⊢
    rw [ht] at ht1 ht2
    have hwi := fun w => within_any w torn ((L : Int) - 1) (by omega) (by omega)
    rw [show (L : Int) - 1 + 1 = (L : Int) by omega, ht2] at hwi
    have HWi := fun w => Hid_mk (hwi w)
    have hti : (t : Int) ≤ (cb : Int) := by omega
    have ht0 : (0 : Int) ≤ (t : Int) := by omega
    have hLpos : ¬ (L : Int) = 0 := by omega
    have hLb : ((L : Int) == 0) = false := by simp; omega
    have hLmax : (L : Int) ≤ 140737488355328 := by omega
    have hL1 : (1 : Int) ≤ (L : Int) := by omega
    have hwr : IntKind.i64.wrap ((L : Int) - 1) = (L : Int) - 1 := IntWalk.i64_in _ (by omega)
    have hkz : ((c.kind : Nat) : Int) = 0 := by omega
    obtain ⟨W1, hW1⟩ : ∃ W1, W1 = (w.alloc (.cells #[.int .i64 0, .string c.name, .string c.to, .slice ab t cb, .int .i64 (c.size : Int)] 63)).drew := ⟨_, rfl⟩
    have k1 : Kp No w W1 := by rw [hW1]; exact ((Kp.refl No w).alloc _).drew
    have h1 : FM W1 base b ρ es := by rw [hW1]; exact fm_drew (fm_alloc h _)
    by_cases htz : t = 0
    · have hfin : DoPost base b ρ w (tearF es c torn) (.returned (.tuple #[])) W1 := by
        refine ⟨rfl, ρ, ?_, k1.to, fun _ _ h => h⟩
        unfold tearF
        rw [ht, if_pos htz]
        exact h1
      have HF := Hid_mk hfin
      have hgt : ¬ (0 : Int) < (t : Int) := by omega
      clear hfin h hb hkind hlen h1 k1 hwi ht ht1 ht2 hs hst hl htz
      unfold chg
      rw [hkz]
      clear hkz hk0
      subst hW1
      go_enter Tryd.func40, Tryd.ntmps40
      go_wp2
      go_region_with (go_at_call 39; (with_reducible refine (HWi _).out.mono ?_); rintro e w' ⟨rfl, rfl⟩)
      all_goals
        go_wp2
        go_end0
        exact HF.out
    · have hlt : ((c.bytes.take t).length) = t := by rw [List.length_take]; omega
      have hbt := bs_take hb t (by omega)
      have hd := do_append W1 base b ρ es { c with bytes := c.bytes.take t } (.slice ab t cb) h1 hk0 (bs_no hbt k1) hs hl (by simp only; rw [hlt]; omega)
      have hfin : Calls Tryd.prog 50 #[.map (some b), chg { c with bytes := c.bytes.take t } (.slice ab t cb)] W1 (DoPost base b ρ w (tearF es c torn)) := by
        refine hd.mono ?_
        rintro e w2 ⟨he, ρ2, hfm, hkp, hsub⟩
        refine ⟨he, ρ2, ?_, k1.to.trans hkp fun _ _ e => e, fun k hk hh => hsub k (by have := k1.size; omega) hh⟩
        unfold tearF
        rw [ht, if_neg htz]
        exact hfm
      have HF := Hid_mk hfin
      have hgt : (0 : Int) < (t : Int) := by omega
      clear hfin hd hbt hlt h hb hkind hlen h1 k1 hwi ht ht1 ht2 hs hst hl htz
      unfold chg at HF ⊢
      simp only at HF
      rw [hkz] at HF ⊢
      clear hkz hk0
      subst hW1
      go_enter Tryd.func40, Tryd.ntmps40
      go_wp2
      go_region_with (go_at_call 39; (with_reducible refine (HWi _).out.mono ?_); rintro e w' ⟨rfl, rfl⟩)
      all_goals
        go_wp2_with (go_at_call 50; (with_reducible refine HF.out.mono ?_); rintro e w2 hpost; have he := hpost.1; have HP := Hid_mk hpost; subst he; clear hpost)
        go_end0
        exact HP.out

end Go.Proofs.YtomckoeobkfklaaDoor.dsk
