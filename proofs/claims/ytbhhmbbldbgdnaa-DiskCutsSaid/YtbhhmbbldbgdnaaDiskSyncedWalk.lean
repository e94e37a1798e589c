/- DiskSynced: the law's walk. -/
import Derived.Test.YtbhhmbbldbgdnaaDiskCrashOne
namespace Go.Proofs.Ytbhhmbbldbgdnaa.dsk
open Go.RowKit Go.Maps Go.Proofs.Ytbhhmbbldbgdnaa.sum Go.Proofs.Ytbhhmbbldbgdnaa.kept Go.Proofs.Ytbhhmbbldbgdnaa.app Go.Proofs.Ytbhhmbbldbgdnaa.writer Go.Proofs.Ytbhhmbbldbgdnaa.clone Go.Proofs.Ytbhhmbbldbgdnaa.unseal Go.Proofs.Ytbhhmbbldbgdnaa.fs Go.Proofs.Ytbhhmbbldbgdnaa.fsMem Go.Proofs.Ytbhhmbbldbgdnaa.fsDo Go.Proofs.Ytbhhmbbldbgdnaa.fsUsed Go.Proofs.Ytbhhmbbldbgdnaa.turned Go.Proofs.Ytbhhmbbldbgdnaa.lst
set_option linter.unusedVariables false

/-- parts are appended, and put together, with another list beside them -/
def ApRel2 (w : World) (base p : Nat) (n : ByteArray) (x : Option (List UInt8)) (v : Value) (qs : Els) (v2 : Value) (rs : Els) (M : Nat) (s i : Value) (wr : World) : Prop :=
  ∃ (k : Nat) (ρ : Nat → Role), k ≤ qs.length ∧ i = .int .i64 k ∧ s = .string ⟨((qs.texts.take k).flatten).toArray⟩ ∧ Dk wr base p ρ (apD n (-1) x (qs.texts.take k)) ∧ DOk (k + M) (apD n (-1) x (qs.texts.take k)) ∧ LsR ρ wr v qs ∧ LsR ρ wr v2 rs ∧ Kp No w wr

/-- a row that is not the disk's is let be -/
theorem keep_row {ρ ρ' : Nat → Role} {w w' : World} {base : Nat} {e : TypeId} {size : Nat} {v : Value} {n : Nat} {xs : List Value} (h : w.ownsRow base e size v n xs) (hr : ∀ g, v.ownBlock = some g → ρ g = .other) (hf : Fr ρ w ρ' w') :
    w'.ownsRow base e size v n xs ∧ ∀ g, v.ownBlock = some g → ρ' g = .other :=
  ⟨owns_kept h hf.1 fun g hg e => e (hr g hg), fun g hg => hf.2 g (h.lt g hg).2 (hr g hg)⟩

set_option maxRecDepth 100000 in
set_option maxHeartbeats 16000000 in
theorem synced_any (w : World) (v vm : Value) (ps ms : Els) (keep torn : Int) (h : Ls w v ps) (hm : Ls w vm ms) :
    Calls Try.prog 3 #[v, vm, .int .i64 keep, .int .i64 torn] w fun e w' => e = .returned (.bool true) ∧ Kp No w w' := by
  have HS := fun (W : World) (hk : Kp No w W) => Hid_mk (short_lit W v ps 30 2000 30 2000 (h.no hk) (by omega) (by omega) rfl rfl)
  have HM := fun (W : World) (hk : Kp No w W) => Hid_mk (short_lit W vm ms 30 2000 30 2000 (hm.no hk) (by omega) (by omega) rfl rfl)
  have HS' := Hid_mk HS
  have HM' := Hid_mk HM
  obtain ⟨⟨a, cap, rfl, -⟩, -⟩ := id h
  obtain ⟨⟨am, capm, rfl, -⟩, -⟩ := id hm
  clear h hm HS HM
  go_enter Try.func3, Try.ntmps3
  go_wp2_with fail
  with_reducible refine (new_any w 8388608 (by omega) (by omega)).mono ?_
  rintro e w2 ⟨p, ρ2, rfl, h2, hk2, hp2⟩
  rw [apD_new ka] at h2
  have D2' := Hid_mk h2
  have K2' := Hid_mk hk2
  clear h2 hk2
  go_wp2_with fail
  with_reducible refine (known_any _).mono ?_
  rintro e w3 ⟨rfl, hkn⟩
  have D3 := Hid_mk (D2'.out.no hkn)
  have K3 := Hid_mk (K2'.out.trans' hkn)
  have HS3 := HS'.out w3 K3.out
  clear hkn D2' K2' HS'
  go_wp2_with fail
  with_reducible refine HS3.out.mono ?_
  rintro e w4 ⟨v1, qs, rfl, hlo, htx, hk4⟩
  obtain ⟨hs1, hs2⟩ := short_small (m := 30) (n := 2000) (l := ps.texts)
  rw [← htx] at hs1 hs2
  rw [texts_length] at hs1
  have HS2 := Hid_mk hs2
  have HFl := Hid_mk (flat_small hs2 (show qs.texts.length ≤ 30 by rw [texts_length]; exact hs1))
  obtain ⟨⟨a1, c1, rfl, hc1, hc2, -⟩, -⟩ := id hlo.ls
  unfold maxLen at hc2
  have D4 := Hid_mk (D3.out.no hk4)
  have K4 := Hid_mk (K3.out.trans' hk4)
  have HLs4 := Hid_mk (LsR.of_lo (ρ := ρ2) hlo fun k hk _ => D3.out.hi hk)
  have HM4 := HM'.out w4 K4.out
  clear hlo htx hk4 hs2 HS3 HM'
  go_wp2_with fail
  with_reducible refine HM4.out.mono ?_
  rintro e w5 ⟨v2, rs, rfl, hlo, htx, hk5⟩
  obtain ⟨hr1, hr2⟩ := short_small (m := 30) (n := 2000) (l := ms.texts)
  rw [← htx] at hr1 hr2
  rw [texts_length] at hr1
  have HR2 := Hid_mk hr2
  have HRl := Hid_mk (flat_small hr2 (show rs.texts.length ≤ 30 by rw [texts_length]; exact hr1))
  obtain ⟨⟨b1, d1, rfl, hd1, hd2, -⟩, -⟩ := id hlo.ls
  unfold maxLen at hd2
  have D5 := Hid_mk (D4.out.no hk5)
  have K5 := Hid_mk (K4.out.trans' hk5)
  have HLr5 := Hid_mk (LsR.of_lo (ρ := ρ2) hlo fun k hk _ => D4.out.hi hk)
  have HLs5 := Hid_mk (HLs4.out.no hk5)
  clear hlo htx hk5 hr2 HM4 HLs4
  go_wp2
  go_loopw [11, 12] (fun s i wr => ApRel2 w w.heap.size p ka none (.slice a1 qs.length c1) qs (.slice b1 rs.length d1) rs 100 s i wr) (fun _ i _ => qs.length - (intOf i).toNat)
  case atStart => exact ⟨0, ρ2, Nat.zero_le _, rfl, rfl, D5.out, (new_ap ka).mono (Nat.zero_le _), HLs5.out, HLr5.out, K5.out⟩
  case round =>
    obtain ⟨k, ρ, hk, rfl, rfl, hd, hok, hls, hlr, hkp⟩ := hrel
    have HD := Hid_mk hd
    have HOk := Hid_mk hok
    have HLs := Hid_mk hls
    have HLr := Hid_mk hlr
    have HKp := Hid_mk hkp
    clear hd hok hls hkp hlr
    by_cases hlt : k < qs.length
    · obtain ⟨b, o, x, bs, e1, e2, -, hmem, hget, hc, hbb, hvo⟩ := LsR.at HLs.out hlt
      obtain rfl := e1
      have hbl : bs.length ≤ 2000 := HS2.out bs (List.mem_map.2 ⟨_, hmem, rfl⟩)
      have HNext := Hid_mk (take_next hget)
      have hfl := HFl.out k
      obtain ⟨ha, ho⟩ := append_ap _ w.heap.size p (k + 100) ρ ka none (qs.texts.take k) x bs HD.out HOk.out (by omega) (by decide) hbb hvo (by show 0 + _ + _ ≤ _; omega)
      rw [← HNext.out] at ha ho
      have HA := Hid_mk ha
      have HO := Hid_mk ho
      have hki : (k : Int) < (qs.length : Int) := by omega
      have hk20 : (k : Int) < 30 := by omega
      have hki0 : (0 : Int) ≤ (k : Int) := Int.natCast_nonneg _
      obtain ⟨ax, cx, rfl, -⟩ := id hbb
      clear ha ho hmem hbb hvo e2 hfl
      go_wp2_with fail
      with_reducible refine HA.out.mono ?_
      rintro e w6 ⟨rfl, ρ6, h6, f6⟩
      have D6 := Hid_mk h6
      have HLs6 := Hid_mk (HLs.out.fr f6)
      have HLr6 := Hid_mk (HLr.out.fr f6)
      have K6 := Hid_mk (HD.out.out (Nat.le_refl _) HKp.out f6)
      obtain ⟨b', o', x', bs', e1, e2, -, hmem, hget', hc6, hbb6, -⟩ := LsR.at HLs6.out hlt
      simp only [Option.some.injEq, Addr.mk.injEq] at e1
      obtain ⟨rfl, rfl, -⟩ := e1
      obtain rfl : bs = bs' := by rw [hget] at hget'; exact Option.some.inj hget'
      have hcv := known.conv_bs hbb6
      obtain ⟨ax6, cx6, rfl, -⟩ := id hbb6
      have hrel : ApRel2 w w.heap.size p ka none (.slice (some ⟨b, o, none⟩) qs.length c1) qs (.slice b1 rs.length d1) rs 100 (.string ⟨((qs.texts.take k).flatten ++ bs).toArray⟩) (.int .i64 ((k + 1 : Nat) : Int)) w6 := ⟨k + 1, ρ6, hlt, rfl, by rw [HNext.out, List.flatten_append]; simp, D6.out, HO.out.mono (by omega), HLs6.out, HLr6.out, K6.out⟩
      have HRel := Hid_mk hrel
      have hadd := fun W => run_str_add (qs.texts.take k).flatten bs (by have := HFl.out k; omega) W
      clear hrel h6 f6 hmem hget hget' hbb6 e2 hc
      go_wp2
      go_roundw
      case rel => exact HRel.out
      case measure => simp [intOf]; omega
    · have hki : ¬ (k : Int) < (qs.length : Int) := by omega
      obtain rfl : k = qs.length := by omega
      have htk : qs.texts.take qs.length = qs.texts := List.take_of_length_le (by rw [texts_length]; omega)
      rw [htk] at HD HOk ⊢
      have hfl := HFl.out qs.length
      rw [htk] at hfl
      obtain ⟨ha, ho⟩ := append_ap _ w.heap.size p (qs.length + 100) ρ ka none qs.texts (.slice none 0 0) [] HD.out HOk.out (by omega) (by decide) ⟨none, 0, rfl, Nat.le_refl _, Nat.zero_le _, fun h => absurd rfl h⟩ (fun x o m c e => by cases e) (by show 0 + _ + _ ≤ _; simp only [List.length_nil]; omega)
      have HA := Hid_mk ha
      have HO := Hid_mk ho
      have HAft := Hid_mk (show after none (qs.texts ++ [[]]) = some qs.texts.flatten by
        unfold after
        rw [if_neg (by simp)]
        simp)
      obtain ⟨F, hF⟩ : ∃ F, qs.texts.flatten = F := ⟨_, rfl⟩
      rw [hF] at HAft hfl ⊢
      clear ha ho htk hF
      go_wp2_with fail
      with_reducible refine HA.out.mono ?_
      rintro e w6 ⟨rfl, ρ6, h6, f6⟩
      obtain ⟨hsy, hso⟩ := sync_ap w6 w.heap.size p _ ρ6 ka none _ h6 HO.out (by omega)
      rw [HAft.out] at hsy hso
      have HSy := Hid_mk hsy
      have HSo := Hid_mk hso
      have D6 := Hid_mk h6
      have HLr6 := Hid_mk (HLr.out.fr f6)
      have K6 := Hid_mk (HD.out.out (Nat.le_refl _) HKp.out f6)
      clear h6 f6 hsy hso
      go_wp2_with fail
      with_reducible refine HSy.out.mono ?_
      rintro e w7 ⟨rfl, ρ7, h7, f7⟩
      have D7 := Hid_mk h7
      have HLr7 := Hid_mk (HLr6.out.fr f7)
      have K7 := Hid_mk (D6.out.out (Nat.le_refl _) K6.out f7)
      have hM : qs.length + 100 + 1 ≤ 200 := by omega
      have HStart := Hid_mk (show ApRel2 w w.heap.size p ka (some F) (.slice b1 rs.length d1) rs (.slice b1 rs.length d1) rs 200 (.string ⟨#[]⟩) (.int .i64 ((0 : Nat) : Int)) w7 from ⟨0, ρ7, Nat.zero_le _, rfl, rfl, D7.out, HSo.out.mono (by omega), HLr7.out, HLr7.out, K7.out⟩)
      clear h7 f7
      go_wp2
      go_loopw [13, 14] (fun s i wq => ApRel2 w w.heap.size p ka (some F) (.slice b1 rs.length d1) rs (.slice b1 rs.length d1) rs 200 s i wq) (fun _ i _ => rs.length - (intOf i).toNat)
      case atStart => exact HStart.out
      case round =>
        obtain ⟨j, ρj, hj, rfl, rfl, hd, hok, hls, -, hkp⟩ := hrel
        have JD := Hid_mk hd
        have JOk := Hid_mk hok
        have JLs := Hid_mk hls
        have JKp := Hid_mk hkp
        clear hd hok hls hkp
        by_cases hjt : j < rs.length
        · obtain ⟨b, o, x, bs, e1, e2, -, hmem, hget, hc, hbb, hvo⟩ := LsR.at JLs.out hjt
          obtain rfl := e1
          have hbl : bs.length ≤ 2000 := HR2.out bs (List.mem_map.2 ⟨_, hmem, rfl⟩)
          have HNext := Hid_mk (take_next hget)
          have hrl := HRl.out j
          obtain ⟨ha, ho⟩ := append_ap _ w.heap.size p (j + 200) ρj ka (some F) (rs.texts.take j) x bs JD.out JOk.out (by omega) (by decide) hbb hvo (by show F.length + _ + _ ≤ _; omega)
          rw [← HNext.out] at ha ho
          have JA := Hid_mk ha
          have JO := Hid_mk ho
          have hji : (j : Int) < (rs.length : Int) := by omega
          have hj20 : (j : Int) < 30 := by omega
          have hji0 : (0 : Int) ≤ (j : Int) := Int.natCast_nonneg _
          obtain ⟨ax, cx, rfl, -⟩ := id hbb
          clear ha ho hmem hbb hvo e2 hrl
          go_wp2_with fail
          with_reducible refine JA.out.mono ?_
          rintro e w8 ⟨rfl, ρ8, h8, f8⟩
          have D8 := Hid_mk h8
          have HLs8 := Hid_mk (JLs.out.fr f8)
          have K8 := Hid_mk (JD.out.out (Nat.le_refl _) JKp.out f8)
          obtain ⟨b', o', x', bs', e1, e2, -, hmem, hget', hc8, hbb8, -⟩ := LsR.at HLs8.out hjt
          simp only [Option.some.injEq, Addr.mk.injEq] at e1
          obtain ⟨rfl, rfl, -⟩ := e1
          obtain rfl : bs = bs' := by rw [hget] at hget'; exact Option.some.inj hget'
          have hcv := known.conv_bs hbb8
          obtain ⟨ax8, cx8, rfl, -⟩ := id hbb8
          have hrel : ApRel2 w w.heap.size p ka (some F) (.slice (some ⟨b, o, none⟩) rs.length d1) rs (.slice (some ⟨b, o, none⟩) rs.length d1) rs 200 (.string ⟨((rs.texts.take j).flatten ++ bs).toArray⟩) (.int .i64 ((j + 1 : Nat) : Int)) w8 := ⟨j + 1, ρ8, hjt, rfl, by rw [HNext.out, List.flatten_append]; simp, D8.out, JO.out.mono (by omega), HLs8.out, HLs8.out, K8.out⟩
          have HRel := Hid_mk hrel
          have hadd := fun W => run_str_add (rs.texts.take j).flatten bs (by have := HRl.out j; omega) W
          clear hrel h8 f8 hmem hget hget' hbb8 e2 hc
          go_wp2
          go_roundw
          case rel => exact HRel.out
          case measure => simp [intOf]; omega
        · have hji : ¬ (j : Int) < (rs.length : Int) := by omega
          obtain rfl : j = rs.length := by omega
          have htk : rs.texts.take rs.length = rs.texts := List.take_of_length_le (by rw [texts_length]; omega)
          rw [htk] at JD JOk ⊢
          have hrl := HRl.out rs.length
          rw [htk] at hrl
          obtain ⟨g, hg, hcr, hco⟩ := crash_ap _ w.heap.size p (rs.length + 200) ρj ka (-1) F rs.texts keep torn JD.out JOk.out (by omega)
          obtain ⟨G, hG⟩ : ∃ G, rs.texts.flatten = G := ⟨_, rfl⟩
          rw [hG] at hg hcr hco hrl ⊢
          have HCr := Hid_mk hcr
          have HCo := Hid_mk hco
          have HGl := Hid_mk (show (F ++ G.take g).length = F.length + g by rw [List.length_append, List.length_take]; omega)
          clear htk hcr hco hG
          go_wp2_with fail
          with_reducible refine HCr.out.mono ?_
          rintro e w8 ⟨rfl, ρ8, h8, f8⟩
          have D8 := Hid_mk h8
          have K8 := Hid_mk (JD.out.out (Nat.le_refl _) JKp.out f8)
          have hrd := read_ap w8 w.heap.size p ρ8 ka (-1) (some (F ++ G.take g)) [] h8 (by decide) (by show (F ++ G.take g).length + 0 ≤ _; rw [HGl.out]; omega)
          rw [show (some (F ++ G.take g)).getD [] ++ ([] : List (List UInt8)).flatten = F ++ G.take g by simp, show (after (some (F ++ G.take g)) []).isSome = true from rfl] at hrd
          have HRd := Hid_mk hrd
          clear h8 f8 hrd
          go_wp2_with fail
          with_reducible refine HRd.out.mono ?_
          rintro e w9 ⟨v9, rfl, ho9, hk9⟩
          have D9 := Hid_mk (D8.out.no hk9)
          have K9 := Hid_mk (K8.out.trans' hk9)
          have hb9 := owns_bs ho9
          obtain ⟨a9, c9, rfl, h91, h92, -⟩ := id hb9
          rw [HGl.out] at h91
          unfold maxLen at h92
          have HB9 := Hid_mk hb9
          have HO9 := Hid_mk ho9
          have hszF : (⟨F.toArray⟩ : ByteArray).size = F.length := by show F.toArray.size = F.length; simp
          have hszG : (⟨G.toArray⟩ : ByteArray).size = G.length := by show G.toArray.size = G.length; simp
          have hcv := fun n => known.conv_bs (bs_no hb9 ((Kp.refl No w9).drewN n))
          rw [HGl.out] at hcv ⊢
          have hadd := fun W => run_str_add F (G.take g) (by rw [List.length_take]; omega) W
          have hwr : IntKind.i64.wrap ((F.length : Int) + (g : Int) - (F.length : Int)) = (g : Int) := by
            rw [show (F.length : Int) + (g : Int) - (F.length : Int) = (g : Int) by omega]
            exact IntWalk.i64_in _ (by omega)
          clear ho9 hk9 hb9
          go_wp2
          have hq : ∀ n, Calls Try.prog 19 #[.pointer (some ⟨p, 0, none⟩)] (w9.drewN n) fun e w'' => e = .returned (.int .i64 0) ∧ ∃ m, w'' = w9.drewN m := fun n =>
            (pending_any (w9.drewN n) w.heap.size p ρ8 _ (D9.out.no ((Kp.refl No w9).drewN n))).mono fun e w' ⟨he, hw⟩ => ⟨he, n, hw.symm⟩
          have HQ := Hid_mk hq
          have hsl := fun W => run_str_to G g hg W
          have hd1 : decide ((g : Int) < 0) = false := by simp
          have hd2 : decide ((G.length : Int) < (g : Int)) = false := by simp; omega
          clear hq
          go_quiet ((go_at_call 19; exact HQ.out _))
          have DA := Hid_mk (D9.out.no ((Kp.refl No w9).drewN nq))
          have KA := Hid_mk (K9.out.trans' ((Kp.refl No w9).drewN nq))
          have HOA := Hid_mk (show (w9.drewN nq).ownsRow w8.heap.size 5 1 _ _ _ from owns_kept HO9.out ((Kp.refl No w9).drewN nq) fun _ _ => id)
          have HRo := Hid_mk (show ∀ b, (Value.slice a9 (F ++ G.take g).length c9).ownBlock = some b → ρ8 b = .other from fun b hb => D8.out.hi (HO9.out.lt b hb).1)
          generalize w9.drewN nq = wA at *
          have hcr2 := crash_none wA w.heap.size p _ ρ8 ka _ torn keep DA.out HCo.out (by omega)
          have HCr2 := Hid_mk hcr2
          clear hcr2 hcv hadd hsl hd1 hd2 hwr
          go_wp2_with fail
          with_reducible refine HCr2.out.mono ?_
          rintro e wB ⟨rfl, ρB, hB, fB⟩
          have DB := Hid_mk hB
          have KB := Hid_mk (DA.out.out (Nat.le_refl _) KA.out fB)
          have HOB := Hid_mk (keep_row HOA.out HRo.out fB).1
          have hrd := read_ap wB w.heap.size p ρB ka (-1) (some (F ++ G.take g)) [] hB (by decide) (by show (F ++ G.take g).length + 0 ≤ _; rw [HGl.out]; omega)
          rw [show (some (F ++ G.take g)).getD [] ++ ([] : List (List UInt8)).flatten = F ++ G.take g by simp, show (after (some (F ++ G.take g)) []).isSome = true from rfl] at hrd
          have HRd2 := Hid_mk hrd
          clear hB fB hrd
          go_wp2_with fail
          with_reducible refine HRd2.out.mono ?_
          rintro e wC ⟨vC, rfl, hoC, hkC⟩
          have KC := Hid_mk (KB.out.trans' hkC)
          have hbC := owns_bs hoC
          have hb9C := owns_bs (owns_kept HOB.out hkC fun _ _ => id)
          obtain ⟨aC, cC, rfl, -⟩ := id hbC
          have hcvC := known.conv_bs hbC
          have hcv9 := known.conv_bs hb9C
          rw [HGl.out] at hcvC hcv9 ⊢
          clear hoC hkC hbC hb9C
          go_wp2
          go_ret
          exact ⟨rfl, KC.out⟩

end Go.Proofs.Ytbhhmbbldbgdnaa.dsk
