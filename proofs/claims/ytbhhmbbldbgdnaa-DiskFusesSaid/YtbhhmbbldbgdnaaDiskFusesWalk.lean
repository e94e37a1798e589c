/- DiskFuses: the law's walk. -/
import Derived.Test.YtbhhmbbldbgdnaaDiskSyncedWalk
namespace Go.Proofs.Ytbhhmbbldbgdnaa.dsk
open Go.RowKit Go.Maps Go.Proofs.Ytbhhmbbldbgdnaa.sum Go.Proofs.Ytbhhmbbldbgdnaa.kept Go.Proofs.Ytbhhmbbldbgdnaa.app Go.Proofs.Ytbhhmbbldbgdnaa.writer Go.Proofs.Ytbhhmbbldbgdnaa.clone Go.Proofs.Ytbhhmbbldbgdnaa.unseal Go.Proofs.Ytbhhmbbldbgdnaa.fs Go.Proofs.Ytbhhmbbldbgdnaa.fsMem Go.Proofs.Ytbhhmbbldbgdnaa.fsDo Go.Proofs.Ytbhhmbbldbgdnaa.fsUsed Go.Proofs.Ytbhhmbbldbgdnaa.turned Go.Proofs.Ytbhhmbbldbgdnaa.lst
set_option linter.unusedVariables false

/-- a disk with a fuse of N calls, behind k Appends of these parts -/
def fuD (n : ByteArray) (N : Nat) (l : List (List UInt8)) (k : Nat) : DSt := ⟨8388608, ((N - k : Nat) : Int), decide (N < k), [], (l.take (min k N)).map (appC n)⟩

theorem fuse_ok {M : Nat} {d : DSt} (h : DOk M d) (f : Int) (h0 : -1 ≤ f) (h1 : f ≤ 9223372036854775807) : DOk M { d with fuse := f } :=
  ⟨h.rising, h.few, h.small, h.fit, h.names, h.sizes, h.room0, h.room1, h0, h1, h.plain⟩

theorem fuD_zero (n : ByteArray) (N : Nat) (l : List (List UInt8)) : ({ apD n (-1) none [] with fuse := max (N : Int) (-1) } : DSt) = fuD n N l 0 := by
  unfold fuD apD
  simp [oneF]
  omega
theorem fuD_now (n : ByteArray) (N : Nat) (l : List (List UInt8)) (k : Nat) : (fuD n N l k).now = oneF (nm n) (after none (l.take (min k N))) := all_oneF n none _
theorem fuD_on (n : ByteArray) {N : Nat} {l : List (List UInt8)} {k : Nat} {bs : List UInt8} (hk : k < N) (hg : l[k]? = some bs) : stopB (fuD n N l k) = false ∧ ({ stopD (fuD n N l k) with cs := (fuD n N l k).cs ++ [appC n bs] } : DSt) = fuD n N l (k + 1) := by
  have h0 : decide (N < k) = false := by simp; omega
  have hf : ((N - k : Nat) : Int) ≠ 0 := by omega
  refine ⟨?_, ?_⟩
  · unfold stopB fuD
    simp only [h0, Bool.false_or]
    simpa using hf
  · have e1 : stopD (fuD n N l k) = ⟨8388608, ((N - k : Nat) : Int) - 1, false, [], (l.take (min k N)).map (appC n)⟩ := by
      unfold stopD fuD
      simp only [h0]
      rw [if_neg (by rintro (h | h); cases h; exact hf h), if_pos (by omega)]
    rw [e1]
    unfold fuD
    have e2 : decide (N < k + 1) = false := by simp; omega
    have e3 : ((N - k : Nat) : Int) - 1 = ((N - (k + 1) : Nat) : Int) := by omega
    rw [e2, e3, Nat.min_eq_left (by omega), Nat.min_eq_left (show k + 1 ≤ N by omega), take_next hg]
    simp
theorem fuD_off (n : ByteArray) {N : Nat} {l : List (List UInt8)} {k : Nat} (hk : N ≤ k) : stopB (fuD n N l k) = true ∧ stopD (fuD n N l k) = fuD n N l (k + 1) := by
  have hf : ((N - k : Nat) : Int) = 0 := by omega
  refine ⟨?_, ?_⟩
  · unfold stopB fuD
    simp only [hf]
    simp
  · unfold stopD fuD
    rw [if_pos (.inr hf)]
    have e2 : decide (N < k + 1) = true := by simp; omega
    have e3 : (N - (k + 1) : Nat) = 0 := by omega
    have e4 : (N - k : Nat) = 0 := by omega
    rw [e2, e3, e4, Nat.min_eq_right hk, Nat.min_eq_right (show N ≤ k + 1 by omega)]

/-- a crash that leaves all -/
theorem crash_all (n : ByteArray) (N : Nat) (l : List (List UInt8)) (k : Nat) (hk : k ≤ l.length) : crashD (fuD n N l k) ((min k N : Nat) : Int) 0 = apD n (-1) (after none (l.take (min k N))) [] := by
  have hl : (fuD n N l k).cs.length = min k N := by unfold fuD; simp; omega
  have hK : crashK (fuD n N l k) ((min k N : Nat) : Int) = min k N := by
    unfold crashK
    rw [hl, Int.emod_eq_of_lt (by omega) (by omega)]
    simp
  unfold crashD
  have e : crashF (fuD n N l k) ((min k N : Nat) : Int) 0 = oneF (nm n) (after none (l.take (min k N))) := by
    unfold crashF
    rw [hK, List.getElem?_eq_none (by rw [hl]; exact Nat.le_refl _), List.take_of_length_le (by rw [hl]; exact Nat.le_refl _)]
    exact fuD_now n N l k
  rw [e]
  rfl

def FuRel (w : World) (base p : Nat) (N : Nat) (v : Value) (qs : Els) (s i : Value) (wr : World) : Prop :=
  ∃ (k : Nat) (ρ : Nat → Role), k ≤ qs.length ∧ i = .int .i64 k ∧ s = .int .i64 ((min k N : Nat) : Int) ∧ Dk wr base p ρ (fuD ka N qs.texts k) ∧ DOk (k + 1) (fuD ka N qs.texts k) ∧ LsR ρ wr v qs ∧ Kp No w wr

def WantRel (w : World) (qs : Els) (D : Nat) (s i : Value) (wr : World) : Prop :=
  ∃ k : Nat, k ≤ D ∧ i = .int .i64 k ∧ s = .string ⟨((qs.texts.take k).flatten).toArray⟩ ∧ w = wr

set_option maxRecDepth 100000 in
set_option maxHeartbeats 16000000 in
theorem fuses_any (w : World) (nz : Int) (v : Value) (ps : Els) (h : Ls w v ps) :
    Calls Try.prog 5 #[.int .i64 nz, v] w fun e w' => e = .returned (.bool true) ∧ Kp No w w' := by
  have HS := Hid_mk (short_lit w v ps 20 2000 20 2000 h (by omega) (by omega) rfl rfl)
  obtain ⟨⟨a, cap, rfl, -⟩, -⟩ := id h
  obtain ⟨N, hN⟩ : ∃ N : Nat, nz % 12 = N := ⟨(nz % 12).toNat, by have := Int.emod_nonneg nz (show (12 : Int) ≠ 0 by omega); omega⟩
  have hN12 : N < 12 := by have := Int.emod_lt_of_pos nz (show (0 : Int) < 12 by omega); omega
  have hp := fun w => turned.pick_any nz 12 (by omega) (by omega) w
  rw [hN] at hp
  have HP := Hid_mk hp
  clear h hp hN
  go_enter Try.func5, Try.ntmps5
  go_wp2_with fail
  with_reducible refine (HP.out _).mono ?_
  rintro e w' ⟨rfl, rfl⟩
  go_wp2_with fail
  with_reducible refine HS.out.mono ?_
  rintro e w1 ⟨v1, qs, rfl, hlo, htx, hk1⟩
  obtain ⟨hs1, hs2⟩ := short_small (m := 20) (n := 2000) (l := ps.texts)
  rw [← htx] at hs1 hs2
  rw [texts_length] at hs1
  obtain ⟨⟨a1, c1, rfl, hc1, hc2, -⟩, -⟩ := id hlo.ls
  unfold maxLen at hc2
  have HLo := Hid_mk hlo
  have HK1 := Hid_mk hk1
  have HS2 := Hid_mk hs2
  have HFl := Hid_mk (flat_small hs2 (show qs.texts.length ≤ 20 by rw [texts_length]; exact hs1))
  clear hlo htx hk1 hs2 HS
  go_wp2_with fail
  with_reducible refine (new_any w1 8388608 (by omega) (by omega)).mono ?_
  rintro e w2 ⟨p, ρ2, rfl, h2, hk2, hp2⟩
  rw [apD_new ka] at h2
  have D2' := Hid_mk h2
  have K2' := Hid_mk hk2
  clear h2 hk2
  go_wp2_with fail
  with_reducible refine (known_any _).mono ?_
  rintro e w3 ⟨rfl, hkn⟩
  have D3 := Hid_mk (D2'.out.no hkn)
  have K3 := Hid_mk (K2'.out.trans' hkn)
  have HLs3 := Hid_mk ((LsR.of_lo (ρ := ρ2) HLo.out fun k _ hk3 => D2'.out.lo hk3).no K3.out)
  have KW3 := Hid_mk (HK1.out.trans' K3.out)
  have hfu := fuse_any w3 w1.heap.size p ρ2 _ (N : Int) D3.out
  rw [fuD_zero ka N qs.texts] at hfu
  have HFu := Hid_mk hfu
  have HOk0 := Hid_mk (show DOk 1 (fuD ka N qs.texts 0) from fuD_zero ka N qs.texts ▸ fuse_ok ((new_ap ka).mono (Nat.zero_le 1)) (max (N : Int) (-1)) (by omega) (by omega))
  clear hkn D2' K2' hfu
  go_wp2_with fail
  with_reducible refine HFu.out.mono ?_
  rintro e w4 ⟨rfl, h4, f4⟩
  have HLs4 := Hid_mk (HLs3.out.fr f4)
  have K4 := Hid_mk (D3.out.out (show w.heap.size ≤ w1.heap.size from HK1.out.size) KW3.out f4)
  have D4 := Hid_mk h4
  clear h4 f4
  go_wp2
  go_loopw [7, 8] (fun s i wr => FuRel w w1.heap.size p N (.slice a1 qs.length c1) qs s i wr) (fun _ i _ => qs.length - (intOf i).toNat)
  case atStart => exact ⟨0, ρ2, Nat.zero_le _, rfl, by simp, D4.out, HOk0.out, HLs4.out, K4.out⟩
  case round =>
    obtain ⟨k, ρ, hk, rfl, rfl, hd, hok, hls, hkp⟩ := hrel
    have HD := Hid_mk hd
    have HOk := Hid_mk hok
    have HLs := Hid_mk hls
    have HKp := Hid_mk hkp
    clear hd hok hls hkp
    by_cases hlt : k < qs.length
    · obtain ⟨b, o, x, bs, e1, e2, -, hmem, hget, hc, hbb, hvo⟩ := LsR.at HLs.out hlt
      obtain rfl := e1
      have hbl : bs.length ≤ 2000 := HS2.out bs (List.mem_map.2 ⟨_, hmem, rfl⟩)
      have hki : (k : Int) < (qs.length : Int) := by omega
      have hk20 : (k : Int) < 20 := by omega
      have hki0 : (0 : Int) ≤ (k : Int) := Int.natCast_nonneg _
      have hfl := HFl.out (min k N)
      by_cases hkN : k < N
      · obtain ⟨e3, e4⟩ := fuD_on ka (l := qs.texts) hkN hget
        have hu : used (fuD ka N qs.texts k).now = (qs.texts.take (min k N)).flatten.length := by rw [fuD_now, oneF_used, after_len]; simp
        have hnl := oneF_length (nm ka) (after none (qs.texts.take (min k N)))
        have ha := append_any _ w1.heap.size p (k + 1) ρ (fuD ka N qs.texts k) ka x bs HD.out HOk.out (by omega) e3 (by decide) hbb hvo (by rw [hu]; show _ ≤ (8388608 : Int); omega) (by rw [fuD_now]; omega)
        have ho := append_ok (bs := bs) HOk.out (name := ka) (by decide) (by omega)
        rw [e4] at ha ho
        have HA := Hid_mk ha
        have HO := Hid_mk ho
        have hm0 : ((min k N : Nat) : Int) = (k : Int) := by rw [Nat.min_eq_left (by omega)]
        have hm1 : min (k + 1) N = k + 1 := Nat.min_eq_left (by omega)
        rw [hm0]
        have hkNi : (k : Int) < (N : Int) := by omega
        obtain ⟨ax, cx, rfl, -⟩ := id hbb
        clear ha ho hmem hbb hvo e2 hfl e3 e4 hu hnl hm0 hget
        go_wp2_with fail
        with_reducible refine HA.out.mono ?_
        rintro e w6 ⟨rfl, ρ6, h6, f6⟩
        have hrel : FuRel w w1.heap.size p N (.slice (some ⟨b, o, none⟩) qs.length c1) qs (.int .i64 ((k : Int) + 1)) (.int .i64 ((k + 1 : Nat) : Int)) w6 := ⟨k + 1, ρ6, hlt, rfl, by rw [hm1]; rfl, h6, HO.out, HLs.out.fr f6, HD.out.out (show w.heap.size ≤ w1.heap.size from HK1.out.size) HKp.out f6⟩
        have HRel := Hid_mk hrel
        clear hrel h6 f6 hm1
        go_wp2
        go_roundw
        case rel => exact HRel.out
        case measure => simp [intOf]; omega
      · obtain ⟨e3, e4⟩ := fuD_off ka (l := qs.texts) (show N ≤ k by omega)
        have ha := append_down _ w1.heap.size p (k + 1) ρ (fuD ka N qs.texts k) ka x HD.out HOk.out e3
        have ho := stop_ok HOk.out
        rw [e4] at ha ho
        have HA := Hid_mk ha
        have HO := Hid_mk ho
        have hm0 : ((min k N : Nat) : Int) = (N : Int) := by rw [Nat.min_eq_right (by omega)]
        have hm1 : min (k + 1) N = N := Nat.min_eq_right (by omega)
        rw [hm0]
        have hkNi : ¬ (k : Int) < (N : Int) := by omega
        obtain ⟨ax, cx, rfl, -⟩ := id hbb
        clear ha ho hmem hbb hvo e2 hfl e3 e4 hm0 hget
        go_wp2_with fail
        with_reducible refine HA.out.mono ?_
        rintro e w6 ⟨rfl, ρ6, h6, f6⟩
        have HDn := Hid_mk (show Calls Try.prog 22 #[.pointer (some ⟨p, 0, none⟩)] w6 fun e w' => e = .returned (.bool true) ∧ w6 = w' from by
          have := down_any w6 w1.heap.size p ρ6 _ h6
          rwa [show (fuD ka N qs.texts (k + 1)).down = true from decide_eq_true (by omega)] at this)
        have hrel : FuRel w w1.heap.size p N (.slice (some ⟨b, o, none⟩) qs.length c1) qs (.int .i64 (N : Int)) (.int .i64 ((k + 1 : Nat) : Int)) w6 := ⟨k + 1, ρ6, hlt, rfl, by rw [hm1], h6, HO.out.mono (by omega), HLs.out.fr f6, HD.out.out (show w.heap.size ≤ w1.heap.size from HK1.out.size) HKp.out f6⟩
        have HRel := Hid_mk hrel
        clear hrel h6 f6 hm1
        go_wp2_with fail
        with_reducible refine HDn.out.mono ?_
        rintro e w7 ⟨rfl, rfl⟩
        go_wp2
        go_roundw
        case rel => exact HRel.out
        case measure => simp [intOf]; omega
    · have hki : ¬ (k : Int) < (qs.length : Int) := by omega
      obtain rfl : k = qs.length := by omega
      have hpe := pending_any _ w1.heap.size p ρ _ HD.out
      have hpl : (fuD ka N qs.texts qs.length).cs.length = min qs.length N := by unfold fuD; simp [texts_length]
      rw [hpl] at hpe
      have hcr := crash_any _ w1.heap.size p (qs.length + 1) ρ _ ((min qs.length N : Nat) : Int) 0 HD.out HOk.out (by omega)
      have hco := crash_ok HOk.out (by omega) ((min qs.length N : Nat) : Int) 0
      rw [crash_all ka N qs.texts qs.length (by rw [texts_length]; exact Nat.le_refl _)] at hcr hco
      have hfl := HFl.out (min qs.length N)
      have hDl : min qs.length N ≤ qs.length := Nat.min_le_left _ _
      generalize hDe : min qs.length N = D at *
      have HPe := Hid_mk hpe
      have HCr := Hid_mk hcr
      have HCo := Hid_mk hco
      clear hpe hpl hcr hco hDe
      go_wp2_with fail
      with_reducible refine HPe.out.mono ?_
      rintro e w' ⟨rfl, rfl⟩
      go_wp2_with fail
      with_reducible refine HCr.out.mono ?_
      rintro e w5 ⟨rfl, ρ5, h5, f5⟩
      have D5 := Hid_mk h5
      have HLs5 := Hid_mk (HLs.out.fr f5)
      have K5 := Hid_mk (HD.out.out (show w.heap.size ≤ w1.heap.size from HK1.out.size) HKp.out f5)
      clear h5 f5
      go_wp2
      go_loopw [10, 11] (fun s i wq => WantRel w5 qs D s i wq) (fun _ i _ => D - (intOf i).toNat)
      case atStart => exact ⟨0, Nat.zero_le _, rfl, rfl, rfl⟩
      case round =>
        obtain ⟨j, hj, rfl, rfl, rfl⟩ := hrel
        by_cases hjD : j < D
        · obtain ⟨b, o, x, bs, e1, e2, -, hmem, hget, hc, hbb, hvo⟩ := LsR.at HLs5.out (show j < qs.length by omega)
          obtain rfl := e1
          have hbl : bs.length ≤ 2000 := HS2.out bs (List.mem_map.2 ⟨_, hmem, rfl⟩)
          have hcv := known.conv_bs hbb
          obtain ⟨ax, cx, rfl, -⟩ := id hbb
          have hji : (j : Int) < (D : Int) := by omega
          have hjq : (j : Int) < (qs.length : Int) := by omega
          have hji0 : (0 : Int) ≤ (j : Int) := Int.natCast_nonneg _
          have hadd := fun W => run_str_add (qs.texts.take j).flatten bs (by have := HFl.out j; omega) W
          have HRel := Hid_mk (show WantRel w5 qs D (.string ⟨((qs.texts.take j).flatten ++ bs).toArray⟩) (.int .i64 ((j + 1 : Nat) : Int)) w5 from ⟨j + 1, hjD, rfl, by rw [take_next hget, List.flatten_append]; simp, rfl⟩)
          clear hmem hget hbb hvo e2
          go_wp2
          go_roundw
          case rel => exact HRel.out
          case measure => simp [intOf]; omega
        · have hji : ¬ (j : Int) < (D : Int) := by omega
          obtain rfl : j = D := by omega
          have hrd := read_ap w5 w1.heap.size p ρ5 ka (-1) (after none (qs.texts.take j)) [] D5.out (by decide) (by rw [after_len]; show 0 + _ + 0 ≤ _; omega)
          rw [show (after none (qs.texts.take j)).getD [] ++ ([] : List (List UInt8)).flatten = (qs.texts.take j).flatten by rw [after_getD]; simp] at hrd
          obtain ⟨F, hF⟩ : ∃ F, (qs.texts.take j).flatten = F := ⟨_, rfl⟩
          rw [hF] at hrd hfl ⊢
          have HRd := Hid_mk hrd
          clear hrd hF
          go_wp2_with fail
          with_reducible refine HRd.out.mono ?_
          rintro e w6 ⟨v6, rfl, ho6, hk6⟩
          have D6 := Hid_mk (D5.out.no hk6)
          have K6 := Hid_mk (K5.out.trans' hk6)
          have hb6 := owns_bs ho6
          obtain ⟨a6, c6, rfl, -⟩ := id hb6
          have hcv := known.conv_bs hb6
          have HDn := Hid_mk (down_any w6 w1.heap.size p ρ5 _ D6.out)
          obtain ⟨hsy, -⟩ := sync_ap w6 w1.heap.size p _ ρ5 ka _ [] D6.out HCo.out (by omega)
          have HSy := Hid_mk hsy
          clear ho6 hk6 hb6 hsy
          generalize hok9 : (after (after none (qs.texts.take j)) []).isSome = ok9 at *
          go_wp2_with fail
          with_reducible refine HDn.out.mono ?_
          rintro e w' ⟨rfl, rfl⟩
          rw [show (apD ka (-1) (after none (qs.texts.take j)) []).down = false from rfl]
          go_wp2_with fail
          with_reducible refine HSy.out.mono ?_
          rintro e w7 ⟨rfl, ρ7, h7, f7⟩
          have K7 := Hid_mk (D6.out.out (show w.heap.size ≤ w1.heap.size from HK1.out.size) K6.out f7)
          clear h7 f7
          go_wp2
          go_ret
          exact ⟨rfl, K7.out⟩

end Go.Proofs.Ytbhhmbbldbgdnaa.dsk
