/- PackTurned: the law's walk. -/
import Derived.Test.YtbnnbedmcipnpaaTurnedPlain
import Derived.Deep.RegionWith
import Derived.StillTailTactics
import Derived.RegionCalls
namespace Go.Proofs.Ytbnnbedmcipnpaa.turned
open Go.RowKit Go.Proofs.Ytbnnbedmcipnpaa.sum Go.Proofs.Ytbnnbedmcipnpaa.kept Go.Proofs.Ytbnnbedmcipnpaa.app Go.Proofs.Ytbnnbedmcipnpaa.writer Go.Proofs.Ytbnnbedmcipnpaa.clone Go.Proofs.Ytbnnbedmcipnpaa.known Go.Proofs.Ytbnnbedmcipnpaa.fl Go.Proofs.Ytbnnbedmcipnpaa.seal Go.Proofs.Ytbnnbedmcipnpaa.unseal Go.Proofs.Ytbnnbedmcipnpaa.turnedPlain
set_option linter.unusedVariables false

theorem tmod_pos (n m : Int) (hm : 0 < m) : -m < n.tmod m ∧ n.tmod m < m ∧ (0 ≤ n.tmod m → n.tmod m = n % m) ∧ (n.tmod m < 0 → n.tmod m + m = n % m) := by
  have h1 := Int.tmod_lt_of_pos n hm
  have h2 := Int.tmod_lt_of_pos (-n) hm
  rw [Int.neg_tmod] at h2
  have h3 := Int.tmod_add_mul_tdiv n m
  refine ⟨by omega, h1, ?_, ?_⟩
  · intro h
    have e : n % m = (n.tmod m + m * n.tdiv m) % m := by rw [h3]
    rw [e, Int.add_mul_emod_self_left, Int.emod_eq_of_lt h h1]
  · intro h
    have e : n % m = (n.tmod m + m + m * (n.tdiv m - 1)) % m := by rw [Int.mul_sub]; congr 1; omega
    rw [e, Int.add_mul_emod_self_left, Int.emod_eq_of_lt (by omega) (by omega)]

set_option maxRecDepth 100000 in
set_option maxHeartbeats 1000000 in
theorem pick_any (n m : Int) (hm : 0 < m) (hm2 : m ≤ 1000000000000000) (w : World) :
    Calls Try.prog 24 #[.int .i64 n, .int .i64 m] w fun e w' => e = .returned (.int .i64 (n % m)) ∧ w = w' := by
  obtain ⟨h1, h2, h3, h4⟩ := tmod_pos n m hm
  obtain ⟨t, ht⟩ : ∃ t, n.tmod m = t := ⟨_, rfl⟩
  rw [ht] at h1 h2 h3 h4
  have H3 := Hid_mk h3
  have H4 := Hid_mk h4
  clear h3 h4
  have hne : ¬ m = 0 := by omega
  have hne1 : ¬ m = -1 := by omega
  by_cases hneg : t < 0
  · go_enter Try.func24, Try.ntmps24
    go_wp2
    go_ret
    rw [H4.out hneg]
    exact ⟨rfl, rfl⟩
  · go_enter Try.func24, Try.ntmps24
    go_wp2
    go_ret
    rw [H3.out (by omega)]
    exact ⟨rfl, rfl⟩

theorem bs_set {w : World} {b o len cap : Nat} {bs : List UInt8} (h : Bs w (.slice (some ⟨b, o, none⟩) len cap) bs) (k : Nat) (hk : k < len) (y : UInt8) : Bs (w.setCell ⟨b, o + k, none⟩ (B y)) (.slice (some ⟨b, o, none⟩) len cap) (bs.set k y) := by
  obtain ⟨a, c, e, h1, h2, h3⟩ := h
  simp only [Value.slice.injEq] at e
  obtain ⟨rfl, rfl, rfl⟩ := e
  refine ⟨_, cap, by rw [List.length_set], by rw [List.length_set]; exact h1, h2, fun _ => ⟨b, o, rfl, fun i hi => ?_⟩⟩
  rw [List.length_set] at hi
  obtain ⟨b', o', e, hc⟩ := h3 (by intro e; subst e; simp at hk)
  cases e
  by_cases hik : i = k
  · subst hik
    rw [World.cell?_setCell_same w _ _ (hc i hi)]
    simp [List.getD, hi]
  · rw [World.cell?_setCell_other w _ _ _ (by simp <;> omega), hc i hi]
    simp [List.getD, List.getElem?_set, Ne.symm hik]

theorem xor_byte (x : UInt8) (J : Nat) (hJ : J < 255) : ∃ y : UInt8, bits .xor .u8 (x.toNat : Int) (1 + (J : Int)) = (y.toNat : Int) ∧ x ≠ y := by
  refine ⟨x ^^^ (1 + J).toUInt8, ?_, ?_⟩
  · have e : (1 + J).toUInt8.toNat = 1 + J := by rw [u8_toNat]; omega
    have hx : x.toNat < 256 := UInt8.toNat_lt _
    have := u8_xor_nat x.toNat (1 + J) hx (by omega)
    rw [show (1 : Int) + (J : Int) = ((1 + J : Nat) : Int) by omega, this, UInt8.toNat_xor, e]
  · intro h
    have h2 : (1 + J).toUInt8 = 0 := by
      have := congrArg (fun z => x ^^^ z) h
      simp only [UInt8.xor_self, ← UInt8.xor_assoc, UInt8.zero_xor] at this
      exact this.symm
    have := congrArg UInt8.toNat h2
    rw [u8_toNat] at this
    simp at this
    omega

set_option maxRecDepth 100000 in
set_option maxHeartbeats 1000000 in
theorem turned_any (w : World) (v : Value) (bs : List UInt8) (at_ by_ : Int) (h : Bs w v bs) (hl : bs.length + 6 ≤ 140737488355328) :
    Calls Try.prog 11 #[v, .int .i64 at_, .int .i64 by_] w fun e w' => e = .returned (.bool true) ∧ Kp No w w' := by
  have H := Hid_mk h
  obtain ⟨a, capb, rfl, hlc, hm, -⟩ := h
  unfold maxLen at hm
  go_enter Try.func11, Try.ntmps11
  go_wp2_with fail
  refine (seal_any w _ bs H.out hl).mono ?_
  rintro e w1 ⟨v1, rfl, ho1, hk1⟩
  have so := sealed_ok bs
  obtain ⟨g, cap, rfl, hg1, hg2⟩ := owns_some ho1 (by omega)
  rw [so.1] at ho1 ⊢
  have HO1 := Hid_mk ho1
  have HK1 := Hid_mk hk1
  have HSO := Hid_mk so
  clear ho1 hk1 so
  go_wp2_with fail
  refine (known_any _).mono ?_
  rintro e w2 ⟨rfl, hk2⟩
  have hk12 := HK1.out.trans' hk2
  have ho2 := owns_kept HO1.out hk2 fun _ _ x => x
  have HO2 := Hid_mk ho2
  have HK2 := Hid_mk hk12
  have hg3 : g < w2.heap.size := (ho2.lt g rfl).2
  clear hk2 hk12 ho2 hg2
  obtain ⟨K, hK⟩ : ∃ K : Nat, at_ % ((bs.length : Int) + 6) = K := ⟨(at_ % ((bs.length : Int) + 6)).toNat, by have := Int.emod_nonneg at_ (show (bs.length : Int) + 6 ≠ 0 by omega); omega⟩
  have hKl : K < bs.length + 6 := by have := Int.emod_lt_of_pos at_ (show (0 : Int) < (bs.length : Int) + 6 by omega); omega
  have hp := pick_any at_ ((bs.length : Int) + 6) (by omega) (by omega)
  rw [hK] at hp
  have HP := fun w => Hid_mk (hp w)
  clear hp hK
  go_wp2_with fail
  refine (HP _).out.mono ?_
  rintro e w' ⟨rfl, rfl⟩
  obtain ⟨J, hJ⟩ : ∃ J : Nat, by_ % 255 = J := ⟨(by_ % 255).toNat, by have := Int.emod_nonneg by_ (show (255 : Int) ≠ 0 by omega); omega⟩
  have hJl : J < 255 := by have := Int.emod_lt_of_pos by_ (show (0 : Int) < 255 by omega); omega
  have hp2 := pick_any by_ 255 (by omega) (by omega)
  rw [hJ] at hp2
  have HP2 := fun w => Hid_mk (hp2 w)
  have hbs := owns_bs (bs := sealed bs) (by rw [HSO.out.1]; exact HO2.out)
  have hcell : w2.cell? ⟨g, K, none⟩ = some (.int .u8 (((sealed bs).getD K 0).toNat : Int)) := by
    rw [← HSO.out.1] at hKl
    obtain ⟨_, _, e, _, _, h3⟩ := hbs
    simp only [Value.slice.injEq] at e
    obtain ⟨b', o', e2, hc⟩ := h3 (by intro e; rw [e] at hKl; simp at hKl)
    rw [← e.1] at e2
    cases e2
    have := hc K hKl
    rwa [Nat.zero_add] at this
  have hwarm : w2.frozen? ⟨g, K, none⟩ = false := by
    rcases HO2.out.2 with ⟨e, _⟩ | ⟨g', cap', cur, e, _, hg, _⟩
    · cases e
    · cases e; simp [World.frozen?, hg]
  obtain ⟨y, hy, hne⟩ := xor_byte ((sealed bs).getD K 0) J hJl
  have HB := Hid_mk hbs
  have HNE := Hid_mk hne
  have hKi : (K : Int) < (bs.length : Int) + 6 := by omega
  have hset := bs_set hbs K hKl y
  rw [Nat.zero_add] at hset
  have HSet := Hid_mk hset
  have hbad := turned_bad bs K hKl y hne
  have HBad := Hid_mk hbad
  clear hset hbad
  generalize (sealed bs).getD K 0 = old at *
  generalize hold : (old.toNat : Int) = oldz at *
  clear hp2 hJ hbs hne hold
  go_wp2
  go_region_with (go_at_call 24; refine (HP2 _).out.mono ?_; rintro e w' ⟨rfl, rfl⟩)
  all_goals
    go_wp2_with fail
    rw [hy]
    refine (unseal_all (w2.setCell ⟨g, K, none⟩ (B y)).drew _ ((sealed bs).set K y) (bs_kept (S := No) HSet.out ⟨rfl, rfl, rfl, Nat.le_refl _, fun _ _ _ => rfl⟩ fun _ _ _ _ _ x => x) (by rw [List.length_set, HSO.out.1]; exact hl)).mono ?_
    rintro e w3 hun
    have hun2 : Broken (w2.setCell ⟨g, K, none⟩ (B y)).drew 13 e w3 := by
      unfold UnsealPost at hun
      rw [List.length_set, HSO.out.1, if_neg (by omega), show bs.length + 6 - 6 = bs.length by omega, if_neg HBad.out] at hun
      exact hun
    obtain ⟨hk3, rfl⟩ := hun2
    have hfin : Kp No w w3 := by
      refine (HK2.out.setCell (p := ⟨g, K, none⟩) (fun hlt => ?_) (B y)).trans' ⟨hk3.os, hk3.tape, hk3.output, hk3.size, hk3.block⟩
      simp only at hlt
      have := HK1.out.size
      omega
    have HF := Hid_mk hfin
    clear hun hk3 hfin
    go_wp2
    go_ret
    exact ⟨rfl, HF.out⟩

end Go.Proofs.Ytbnnbedmcipnpaa.turned
