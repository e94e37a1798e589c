/- PackBack: the law's walk. -/
import Derived.Test.YtbnnbedmcipnpaaCut
import Derived.Deep.RegionHeld3
namespace Go.Proofs.Ytbnnbedmcipnpaa.backWalk
open Go.RowKit Go.Proofs.Ytbnnbedmcipnpaa.sum Go.Proofs.Ytbnnbedmcipnpaa.kept Go.Proofs.Ytbnnbedmcipnpaa.app Go.Proofs.Ytbnnbedmcipnpaa.writer Go.Proofs.Ytbnnbedmcipnpaa.clone Go.Proofs.Ytbnnbedmcipnpaa.known Go.Proofs.Ytbnnbedmcipnpaa.unseal Go.Proofs.Ytbnnbedmcipnpaa.number Go.Proofs.Ytbnnbedmcipnpaa.words Go.Proofs.Ytbnnbedmcipnpaa.turned Go.Proofs.Ytbnnbedmcipnpaa.laid Go.Proofs.Ytbnnbedmcipnpaa.back Go.Proofs.Ytbnnbedmcipnpaa.reader Go.Proofs.Ytbnnbedmcipnpaa.cut
set_option linter.unusedVariables false

theorem back_step {ls : List LayD} {k : Nat} {d : LayD} (h : k < ls.length) (hd : ls[k] = d) :
    ∃ r, (layAll ls).drop (layAll (ls.take k)).length = layOne d ++ r ∧ (layAll (ls.take k)).length + (layOne d).length = (layAll (ls.take (k + 1))).length := by
  subst hd
  have e : layAll ls = layAll (ls.take k) ++ (layOne ls[k] ++ layAll (ls.drop (k + 1))) := by
    have e1 : ls = ls.take k ++ ls[k] :: ls.drop (k + 1) := by
      conv => lhs; rw [← List.take_append_drop k ls]
      rw [List.drop_eq_getElem_cons h]
    unfold layAll
    conv => lhs; rw [e1, List.flatMap_append, List.flatMap_cons]
  refine ⟨layAll (ls.drop (k + 1)), ?_, ?_⟩
  · conv => lhs; rw [e]
    rw [List.drop_left]
  · rw [layAll_snoc h, List.length_append]

def BackRel (w : World) (p : Nat) (vR : Value) (ls : List LayD) (i : Value) (wr : World) : Prop :=
  ∃ k, k ≤ ls.length ∧ i = .int .i64 ((k : Nat) : Int) ∧ Rd wr p vR (layAll ls) (layAll (ls.take k)).length 0 ∧ Kp No w wr

theorem rd_same {w w' : World} {p : Nat} {v : Value} {bs : List UInt8} {at_ bad : Nat} (h : Rd w p v bs at_ bad) (hk : Kp No w w') : Rd w' p v bs at_ bad := h.kept hk id fun _ _ _ _ _ => id

theorem back_same {w : World} {p : Nat} {vR : Value} {ls : List LayD} {i : Value} {wr w' : World} (h : BackRel w p vR ls i wr) (hk : Kp No wr w') : BackRel w p vR ls i w' := by
  obtain ⟨k, h1, h2, h3, h4⟩ := h
  exact ⟨k, h1, h2, rd_same h3 hk, h4.trans' hk⟩

/-- two floats, or both none -/
theorem one_any (x y : Nat) (h : (nanB x = false ∧ (FloatKind.f64.format.order x y == some .eq) = true) ∨ (nanB x = true ∧ nanB y = true ∧ (FloatKind.f64.format.order x y == some .eq) = false)) (w : World) :
    Calls Try.prog 35 #[.float .f64 x, .float .f64 y] w fun e w' => e = .returned (.bool true) ∧ w = w' := by
  rcases h with ⟨h1, h2⟩ | ⟨h1, h2, h3⟩
  · go_enter Try.func35, Try.ntmps35
    go_wp2
    go_ret
    exact ⟨rfl, rfl⟩
  · have n1 := neq_yes h1
    have n2 := neq_yes h2
    clear h1 h2
    go_enter Try.func35, Try.ntmps35
    go_wp2
    go_ret
    exact ⟨rfl, rfl⟩

theorem one_canon (x : Nat) (w : World) : Calls Try.prog 35 #[.float .f64 (canon x), .float .f64 x] w fun e w' => e = .returned (.bool true) ∧ w = w' := by
  by_cases h : nanB x = true
  · have e : canon x = nanW := by unfold canon; rw [if_pos h]
    rw [e]
    refine one_any nanW x (.inr ⟨nanB_nanW, h, ?_⟩) w
    have hr : FloatKind.f64.format.read nanW = .nan false 2251799813685249 := by decide +kernel
    show ((FloatKind.f64.format.read nanW).order (FloatKind.f64.format.read x) == some .eq) = false
    rw [hr]
    rfl
  · have e : canon x = x := by unfold canon; rw [if_neg h]
    have h' : nanB x = false := by simpa using h
    rw [e]
    refine one_any x x (.inl ⟨h', ?_⟩) w
    unfold nanB at h'
    simpa using h'

set_option maxRecDepth 100000 in
set_option maxHeartbeats 8000000 in
theorem back_any (w : World) (v : Value) (ls : List LayD) (h : Lays w v ls) (hok : ∀ d ∈ ls, d.ok) (hroom : roomOf ls < 140737488355328) :
    Calls Try.prog 7 #[v] w fun e w' => e = .returned (.bool true) ∧ Kp No w w' := by
  have H := Hid_mk h
  have HOk := Hid_mk hok
  have HRoom := Hid_mk hroom
  have hle := layAll_len ls hok
  obtain ⟨a, cap, rfl, hl, hm, -⟩ := h
  have hll : (layAll ls).length < 140737488355328 := by omega
  have HLen := Hid_mk hll
  clear hok hroom hle hll
  unfold maxLen at hm
  go_enter Try.func7, Try.ntmps7
  go_wp2_with fail
  refine (laid_any w _ ls H.out HOk.out HRoom.out).mono ?_
  rintro e w1 ⟨v1, rfl, ho1, hk1⟩
  have HO1 := Hid_mk ho1
  have HK1 := Hid_mk hk1
  clear ho1 hk1
  go_wp2_with fail
  refine (reader.new_any w1 _ _ (owns_bs HO1.out) (Nat.le_of_lt HLen.out)).mono ?_
  rintro e w2 ⟨p, vR, rfl, hp2, hR2, hk2, hf2⟩
  have HK2 := Hid_mk (HK1.out.trans' hk2)
  have HR2 := Hid_mk hR2
  have hpw : w.heap.size ≤ p := by have := HK1.out.size; omega
  clear hR2 hk2 hp2 hf2
  go_wp2_with fail
  refine (known_any _).mono ?_
  rintro e w3 ⟨rfl, hk3⟩
  have HK3 := Hid_mk (HK2.out.trans' hk3)
  have HR3 := Hid_mk (rd_same HR2.out hk3)
  clear hk3
  go_wp2
  go_loopw [4] (fun i wr => BackRel w p vR ls i wr) (fun i _ => ls.length - (intOf i).toNat)
  case atStart => exact ⟨0, Nat.zero_le _, rfl, by simpa [layAll] using HR3.out, HK3.out⟩
  case round =>
    obtain ⟨k, hk, rfl, hR, hkp⟩ := hrel
    have HR := Hid_mk hR
    have HKp := Hid_mk hkp
    have hlays := lays_kept H.out hkp fun _ _ _ _ _ => id
    have HLays := Hid_mk hlays
    clear hR hkp
    by_cases hlt : k < ls.length
    · obtain ⟨_, _, e, -, -, hc⟩ := hlays
      simp only [Value.slice.injEq] at e
      obtain ⟨rfl, -, rfl⟩ := e
      obtain ⟨b, o, rfl, hcell⟩ := hc (by intro e; subst e; simp at hlt)
      obtain ⟨c0, c1, c2, c3, c4⟩ := hcell k hlt
      have hbw : b < w.heap.size := by
        obtain ⟨_, _, e, -, -, hc'⟩ := H.out
        simp only [Value.slice.injEq] at e
        obtain ⟨b', o', e2, hcell'⟩ := hc' (by intro e; subst e; simp at hlt)
        have := World.block_lt_of_cell? w _ (hcell' k hlt).1
        rw [← e.1] at e2
        cases e2
        exact this
      have hbp : b ≠ p := by omega
      have hki : (k : Int) < (ls.length : Int) := by omega
      have hok : ls[k].ok := HOk.out _ (List.getElem_mem hlt)
      have hstep := back_step hlt rfl
      have HStep := Hid_mk hstep
      generalize hd : ls[k] = d at *
      clear hcell hc hd hstep
      have hp := pick_any d.what 4 (by omega) (by omega)
      have HOkd := Hid_mk hok
      have htl : d.t.size < 140737488355328 := hok.2.2
      have hmod : d.what % 4 = 0 ∨ d.what % 4 = 1 ∨ d.what % 4 = 2 ∨ d.what % 4 = 3 := by omega
      clear hok
      rcases hmod with hm0 | hm1 | hm2 | hm3
      · rw [hm0] at hp
        have hone : layOne d = [d.b] := by unfold layOne; rw [hm0]; rfl
        have HP4 := fun w => Hid_mk (hp w)
        have hs := HStep.out
        rw [hone] at hs
        obtain ⟨r, hdrop, hat⟩ := hs
        have HOkR := Hid_mk (byte_ok (most := d.b.toNat) hdrop (Nat.le_refl _))
        have HAt := Hid_mk hat
        clear hp hone hm0 hdrop hat
        go_wp2_with fail
        refine (HP4 _).out.mono ?_
        rintro e w' ⟨rfl, rfl⟩
        go_wp2
        have hcall : ∀ W, Kp No wr W → Calls Try.prog 15 #[.pointer (some ⟨p, 0, none⟩), .int .u8 (d.b.toNat : Int)] W fun e w2 => e = .returned (.int .u8 (d.b.toNat : Int)) ∧ BackRel w p vR ls (.int .i64 ((k + 1 : Nat) : Int)) w2 ∧ w2.cell? ⟨b, o + k * 5 + 1, none⟩ = some (.int .u8 (d.b.toNat : Int)) := by
          intro W hW
          have hc := reader.byte_any W p vR _ _ 0 d.b.toNat (rd_same HR.out hW)
          rw [HOkR.out] at hc
          refine hc.mono fun e w2 ⟨he, hR2, hk2⟩ => ⟨he, ⟨k + 1, hlt, rfl, by rw [← HAt.out]; exact hR2, (HKp.out.trans' hW).trans hk2 fun i hi e => by omega⟩, hk2.cell' ((hW.cell' c1 id)) hbp⟩
        have HCall := Hid_mk hcall
        clear hcall
        go_region_with (go_at_call 15; refine (HCall.out _ (by exact ⟨rfl, rfl, rfl, Nat.le_refl _, fun _ _ _ => rfl⟩)).mono ?_; rintro e w2 ⟨rfl, hrel2, hcc⟩; have HRel := Hid_mk hrel2; clear hrel2)
        all_goals
          go_wp2
          go_roundw
          case rel => exact back_same HRel.out (by exact ⟨rfl, rfl, rfl, Nat.le_refl _, fun _ _ _ => rfl⟩)
          case measure => simp [intOf]; omega
      · rw [hm1] at hp
        have hone : layOne d = num d.n := by unfold layOne; rw [hm1]; rfl
        have HP4 := fun w => Hid_mk (hp w)
        have hs := HStep.out
        rw [hone] at hs
        obtain ⟨r, hdrop, hat⟩ := hs
        have HOkR := Hid_mk (num_ok (most := d.n) hdrop HOkd.out.1 (Nat.le_refl _))
        have HAt := Hid_mk hat
        clear hp hone hm1 hdrop hat
        go_wp2_with fail
        refine (HP4 _).out.mono ?_
        rintro e w' ⟨rfl, rfl⟩
        go_wp2
        have hcall : ∀ W, Kp No wr W → Calls Try.prog 16 #[.pointer (some ⟨p, 0, none⟩), .int .u64 (d.n : Int)] W fun e w2 => e = .returned (.int .u64 (d.n : Int)) ∧ BackRel w p vR ls (.int .i64 ((k + 1 : Nat) : Int)) w2 ∧ w2.cell? ⟨b, o + k * 5 + 2, none⟩ = some (.int .u64 (d.n : Int)) := by
          intro W hW
          have hc := reader.num_any W p vR _ _ 0 d.n (rd_same HR.out hW)
          rw [HOkR.out] at hc
          refine hc.mono fun e w2 ⟨he, hR2, hk2⟩ => ⟨he, ⟨k + 1, hlt, rfl, by rw [← HAt.out]; exact hR2, (HKp.out.trans' hW).trans hk2 fun i hi e => by omega⟩, hk2.cell' ((hW.cell' c2 id)) hbp⟩
        have HCall := Hid_mk hcall
        clear hcall
        go_region_with (go_at_call 16; refine (HCall.out _ (by exact ⟨rfl, rfl, rfl, Nat.le_refl _, fun _ _ _ => rfl⟩)).mono ?_; rintro e w2 ⟨rfl, hrel2, hcc⟩; have HRel := Hid_mk hrel2; clear hrel2)
        all_goals
          go_wp2
          go_roundw
          case rel => exact back_same HRel.out (by exact ⟨rfl, rfl, rfl, Nat.le_refl _, fun _ _ _ => rfl⟩)
          case measure => simp [intOf]; omega
      · rw [hm2] at hp
        have hone : layOne d = num d.t.size ++ d.t.data.toList := by unfold layOne; rw [hm2]; rfl
        have HP4 := fun w => Hid_mk (hp w)
        have hs := HStep.out
        rw [hone] at hs
        obtain ⟨r, hdrop, hat⟩ := hs
        have HOkR := Hid_mk (text_ok (t := d.t.data.toList) (most := d.t.data.toList.length) (by rw [Array.length_toList]; exact hdrop) (by rw [Array.length_toList, u64_eq]; show d.t.size < _; omega) (Nat.le_refl _))
        have HAt := Hid_mk hat
        clear hp hone hm2 hdrop hat
        go_wp2_with fail
        refine (HP4 _).out.mono ?_
        rintro e w' ⟨rfl, rfl⟩
        go_wp2
        have hcall : ∀ W, Kp No wr W → Calls Try.prog 17 #[.pointer (some ⟨p, 0, none⟩), .int .i64 (d.t.size : Int)] W fun e w2 => e = .returned (.string d.t) ∧ BackRel w p vR ls (.int .i64 ((k + 1 : Nat) : Int)) w2 ∧ w2.cell? ⟨b, o + k * 5 + 4, none⟩ = some (.string d.t) := by
          intro W hW
          have hc := text_len W p vR _ _ 0 d.t htl (rd_same HR.out hW)
          rw [HOkR.out] at hc
          refine hc.mono fun e w2 ⟨he, hR2, hk2⟩ => ⟨he, ⟨k + 1, hlt, rfl, by rw [← HAt.out]; exact hR2, (HKp.out.trans' hW).trans hk2 fun i hi e => by omega⟩, hk2.cell' ((hW.cell' c4 id)) hbp⟩
        have HCall := Hid_mk hcall
        clear hcall
        go_region_with (go_at_call 17; refine (HCall.out _ (by exact ⟨rfl, rfl, rfl, Nat.le_refl _, fun _ _ _ => rfl⟩)).mono ?_; rintro e w2 ⟨rfl, hrel2, hcc⟩; have HRel := Hid_mk hrel2; clear hrel2)
        all_goals
          go_wp2
          go_roundw
          case rel => exact back_same HRel.out (by exact ⟨rfl, rfl, rfl, Nat.le_refl _, fun _ _ _ => rfl⟩)
          case measure => simp [intOf]; omega
      · rw [hm3] at hp
        have hone : layOne d = bytesN 8 (canon d.x) := by unfold layOne; rw [hm3]; rfl
        have HP4 := fun w => Hid_mk (hp w)
        have hs := HStep.out
        rw [hone] at hs
        obtain ⟨r, hdrop, hat⟩ := hs
        have HOkR := Hid_mk (float_ok hdrop HOkd.out.2.1)
        have HAt := Hid_mk hat
        clear hp hone hm3 hdrop hat
        go_wp2_with fail
        refine (HP4 _).out.mono ?_
        rintro e w' ⟨rfl, rfl⟩
        go_wp2
        have hcall : ∀ W, Kp No wr W → Calls Try.prog 36 #[.pointer (some ⟨p, 0, none⟩)] W fun e w2 => e = .returned (.float .f64 (canon d.x)) ∧ BackRel w p vR ls (.int .i64 ((k + 1 : Nat) : Int)) w2 ∧ w2.cell? ⟨b, o + k * 5 + 3, none⟩ = some (.float .f64 d.x) := by
          intro W hW
          have hc := reader.float_any W p vR _ _ 0 (rd_same HR.out hW)
          rw [HOkR.out] at hc
          refine hc.mono fun e w2 ⟨he, hR2, hk2⟩ => ⟨he, ⟨k + 1, hlt, rfl, by rw [← HAt.out, bytesN_len]; exact hR2, (HKp.out.trans' hW).trans hk2 fun i hi e => by omega⟩, hk2.cell' ((hW.cell' c3 id)) hbp⟩
        have HCall := Hid_mk hcall
        have HOne := fun w => Hid_mk (one_canon d.x w)
        clear hcall
        go_region_with (first | (go_at_call 36; refine (HCall.out _ (by exact ⟨rfl, rfl, rfl, Nat.le_refl _, fun _ _ _ => rfl⟩)).mono ?_; rintro e w2 ⟨rfl, hrel2, hcc⟩; have HRel := Hid_mk hrel2; clear hrel2) | (go_at_call 35; refine (HOne _).out.mono ?_; rintro e w' ⟨rfl, rfl⟩))
        all_goals
          go_wp2
          go_roundw
          case rel => exact back_same HRel.out (by exact ⟨rfl, rfl, rfl, Nat.le_refl _, fun _ _ _ => rfl⟩)
          case measure => simp [intOf]; omega
    · obtain rfl : k = ls.length := by omega
      have hki : ¬ (ls.length : Int) < (ls.length : Int) := by omega
      have hend := reader.end_any wr p vR _ _ 0 HR.out
      have e10 : rEnd (layAll ls) (layAll (ls.take ls.length)).length 0 = 0 := by unfold rEnd; rw [List.take_length, if_neg (by omega)]
      rw [e10] at hend
      have HEnd := Hid_mk hend
      clear hend e10 hlays
      go_wp2_with fail
      refine HEnd.out.mono ?_
      rintro e w9 ⟨rfl, n9, hw9⟩
      have HK9 : Hid (Kp No w w9) := Hid_mk (by rw [hw9]; exact HKp.out.drewN n9)
      clear hw9
      go_wp2
      go_ret
      exact ⟨rfl, HK9.out⟩

end Go.Proofs.Ytbnnbedmcipnpaa.backWalk
