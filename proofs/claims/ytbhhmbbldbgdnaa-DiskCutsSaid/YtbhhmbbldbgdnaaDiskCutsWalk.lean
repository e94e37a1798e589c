/- DiskCuts: the law's walk. -/
import Derived.Test.YtbhhmbbldbgdnaaDiskCutsPlain
import Derived.Test.YtbhhmbbldbgdnaaInts
namespace Go.Proofs.Ytbhhmbbldbgdnaa.dsk
open Go.RowKit Go.Maps Go.Proofs.Ytbhhmbbldbgdnaa.sum Go.Proofs.Ytbhhmbbldbgdnaa.kept Go.Proofs.Ytbhhmbbldbgdnaa.app Go.Proofs.Ytbhhmbbldbgdnaa.writer Go.Proofs.Ytbhhmbbldbgdnaa.clone Go.Proofs.Ytbhhmbbldbgdnaa.unseal Go.Proofs.Ytbhhmbbldbgdnaa.fs Go.Proofs.Ytbhhmbbldbgdnaa.fsMem Go.Proofs.Ytbhhmbbldbgdnaa.fsDo Go.Proofs.Ytbhhmbbldbgdnaa.fsUsed Go.Proofs.Ytbhhmbbldbgdnaa.turned Go.Proofs.Ytbhhmbbldbgdnaa.lst
set_option linter.unusedVariables false

abbrev kf' : ByteArray := ⟨#[102]⟩

/-- element k, at whatever later world -/
theorem Ls.at {w : World} {a : Option Addr} {len cap : Nat} {ps : Els} (h : Ls w (.slice a len cap) ps) {k : Nat} (hk : k < ps.length) :
    ∃ b o x bs, a = some ⟨b, o, none⟩ ∧ (x, bs) ∈ ps ∧ ps.texts[k]? = some bs ∧ ∀ w', Kp No w w' → w'.cell? ⟨b, o + k, none⟩ = some x ∧ Bs w' x bs := by
  obtain ⟨⟨a', cap', e, h1, h2, h3⟩, h4⟩ := h
  simp only [Value.slice.injEq] at e
  obtain ⟨rfl, rfl, rfl⟩ := e
  obtain ⟨b, o, rfl, hc⟩ := h3 (by intro e; rw [e] at hk; simp at hk)
  have hmem : ps[k] ∈ ps := List.getElem_mem hk
  refine ⟨b, o, ps[k].1, ps[k].2, rfl, hmem, ?_, fun w' hk' => ⟨hk'.cell' (hc k hk) id, bs_no (h4 _ hmem) hk'⟩⟩
  simp [Els.texts, hk]

def EndRel (w1 : World) (base : Nat) (l : List (List UInt8)) (s e i : Value) (wr : World) : Prop :=
  ∃ k : Nat, k ≤ l.length ∧ i = .int .i64 k ∧ s = .string ⟨((l.take k).flatten).toArray⟩ ∧ Is wr base e (fins (nz (l.take k))) ∧ Kp No w1 wr

def KeepRel (w1 : World) (m : List (List UInt8)) (c : Nat) (q t i : Value) (wr : World) : Prop :=
  ∃ j : Nat, j ≤ m.length ∧ i = .int .i64 j ∧ q = .int .i64 j ∧ t = .int .i64 ((c - beg m j : Nat) : Int) ∧ beg m j ≤ c ∧ w1 = wr

def CutsRel (w : World) (base p : Nat) (v : Value) (qs : Els) (i : Value) (wr : World) : Prop :=
  ∃ (k : Nat) (ρ : Nat → Role), k ≤ qs.length ∧ i = .int .i64 k ∧ Dk wr base p ρ (apD kf' (-1) none (nz (qs.texts.take k))) ∧ DOk (k + 1) (apD kf' (-1) none (nz (qs.texts.take k))) ∧ LsR ρ wr v qs ∧ Kp No w wr

theorem ends_shape {w : World} {base : Nat} {v : Value} {m : List (List UInt8)} (h : Is w base v (fins m)) : ∃ a cap, v = .slice a m.length cap ∧ m.length ≤ cap ∧ (0 < m.length → ∃ g, a = some ⟨g, 0, none⟩ ∧ ∀ k, k < m.length → w.cell? ⟨g, k, none⟩ = some (.int .i64 (beg m (k + 1) : Int))) := by
  have hl := fins_len m
  rcases owns_any h with ⟨rfl, h0⟩ | ⟨g, cap, rfl, -, -, h1, -⟩
  · rw [hl] at h0
    exact ⟨none, 0, by rw [h0], by omega, fun h => by omega⟩
  · rw [hl] at h1 ⊢
    refine ⟨_, cap, rfl, h1, fun _ => ⟨g, rfl, fun k hk => ?_⟩⟩
    obtain ⟨g', cap', e, -, -, hc⟩ := Is.at h (k := k) (by rw [hl]; exact hk)
    simp only [Value.slice.injEq, Option.some.injEq, Addr.mk.injEq] at e
    obtain ⟨⟨rfl, -⟩, -⟩ := e
    rw [hc, fins_at]

theorem bsize (xs : List UInt8) : (⟨xs.toArray⟩ : ByteArray).size = xs.length := by show xs.toArray.size = _; simp

set_option maxRecDepth 100000 in
set_option maxHeartbeats 16000000 in
theorem cuts_any (w : World) (v : Value) (ps : Els) (at_ : Int) (h : Ls w v ps) :
    Calls Try.prog 4 #[v, .int .i64 at_] w fun e w' => e = .returned (.bool true) ∧ Kp No w w' := by
  have HS := Hid_mk (short_lit w v ps 12 2000 12 2000 h (by omega) (by omega) rfl rfl)
  obtain ⟨⟨a, cap, rfl, -⟩, -⟩ := id h
  clear h
  go_enter Try.func4, Try.ntmps4
  go_wp2_with fail
  with_reducible refine HS.out.mono ?_
  rintro e w1 ⟨v1, qs, rfl, hlo, htx, hk1⟩
  obtain ⟨hs1, hs2⟩ := short_small (m := 12) (n := 2000) (l := ps.texts)
  rw [← htx] at hs1 hs2
  rw [texts_length] at hs1
  obtain ⟨⟨a1, c1, rfl, hc1, hc2, -⟩, -⟩ := id hlo.ls
  unfold maxLen at hc2
  have HLo := Hid_mk hlo
  have HLs := Hid_mk hlo.ls
  have HK1 := Hid_mk hk1
  have HS2 := Hid_mk hs2
  have HFl := Hid_mk (flat_small hs2 (show qs.texts.length ≤ 12 by rw [texts_length]; exact hs1))
  clear hlo htx hk1 hs2 HS
  go_wp2
  go_loopw [5, 6, 7] (fun s e i wr => EndRel w1 w1.heap.size qs.texts s e i wr) (fun _ _ i _ => qs.length - (intOf i).toNat)
  case atStart => exact ⟨0, Nat.zero_le _, rfl, rfl, World.ownsRow_nil _ _ _ _, Kp.refl _ _⟩
  case round =>
    obtain ⟨k, hk, rfl, rfl, hi, hkp⟩ := hrel
    rw [texts_length] at hk
    have HI := Hid_mk hi
    have HKp := Hid_mk hkp
    have hzr := hkp.size
    clear hi hkp
    by_cases hlt : k < qs.length
    · obtain ⟨b, o, x, bs, rfl, hmem, hget, hcell⟩ := Ls.at HLs.out hlt
      obtain ⟨hc, hbb⟩ := hcell _ HKp.out
      have hbl : bs.length ≤ 2000 := HS2.out bs (List.mem_map.2 ⟨_, hmem, rfl⟩)
      have HNext := Hid_mk (take_next hget)
      have hfl := HFl.out k
      have hcv := known.conv_bs hbb
      obtain ⟨ax, cx, rfl, -⟩ := id hbb
      have hki : (k : Int) < (qs.length : Int) := by omega
      have hk20 : (k : Int) < 12 := by omega
      have hki0 : (0 : Int) ≤ (k : Int) := Int.natCast_nonneg _
      clear hcell hmem hget hbb
      by_cases hbe : bs = []
      · have hb0 : ¬ (0 : Int) < (bs.length : Int) := by rw [hbe]; simp
        have HRel := Hid_mk (show EndRel w1 w1.heap.size qs.texts (.string ⟨((qs.texts.take k).flatten).toArray⟩) _ (.int .i64 ((k + 1 : Nat) : Int)) _ from ⟨k + 1, by rw [texts_length]; exact hlt, rfl, by rw [HNext.out, hbe]; simp, by rw [HNext.out, hbe, nz_empty]; exact HI.out, HKp.out⟩)
        clear hbe hfl
        go_wp2
        go_roundw
        case rel => exact HRel.out
        case measure => simp [intOf]; omega
      · have hb0 : (0 : Int) < (bs.length : Int) := by have := List.length_pos_iff.2 hbe; omega
        obtain ⟨A, hA⟩ : ∃ A, (qs.texts.take k).flatten = A := ⟨_, rfl⟩
        rw [hA] at hfl ⊢
        have hadd := fun W => run_str_add A bs (by omega) W
        obtain ⟨L1, hL1⟩ : ∃ L1, (A ++ bs).length = L1 := ⟨_, rfl⟩
        have hsz : (⟨(A ++ bs).toArray⟩ : ByteArray).size = L1 := by rw [bsize, hL1]
        have hL1b : L1 ≤ 50000 := by rw [← hL1, List.length_append]; omega
        have HFin := Hid_mk (show fins (nz (qs.texts.take (k + 1))) = fins (nz (qs.texts.take k)) ++ [L1] by
          rw [HNext.out, nz_snoc _ hbe, fins_snoc]
          congr 2
          rw [List.flatten_append, nz_flat, hA, ← hL1]
          simp)
        have hfl2 : (fins (nz (qs.texts.take k))).length ≤ 1000000000000 := by
          rw [fins_len]
          have := nz_len (qs.texts.take k)
          rw [List.length_take] at this
          omega
        have HTx := Hid_mk (show (qs.texts.take (k + 1)).flatten = A ++ bs by rw [HNext.out, List.flatten_append, hA]; simp)
        clear hA hL1 hbe
        generalize A ++ bs = AB at *
        go_wp2_with (at_builtin; (refine wpList_append_int _ rfl _ _ rfl w1.heap.size _ (fins (nz (qs.texts.take k))) rfl (HI.out.kept ((Kp.refl No _).alloc _) (fun _ _ _ => id)) ?d1 L1 _ 1 rfl (heap_alloc_new _ _) hfl2 ?_))
        case d1 => simp; omega
        intro g4 c4 w4 hi4 hk4
        have HRel := Hid_mk (show EndRel w1 w1.heap.size qs.texts (.string ⟨AB.toArray⟩) _ (.int .i64 ((k + 1 : Nat) : Int)) w4 from ⟨k + 1, by rw [texts_length]; exact hlt, rfl, by rw [HTx.out], by rw [HFin.out]; exact hi4, (HKp.out.alloc _).trans hk4 fun i hi e => by have := (World.ownsRow.lt HI.out i e.symm).1; omega⟩)
        clear hi4 hk4
        go_wp2
        go_roundw
        case rel => exact HRel.out
        case measure => simp [intOf]; omega
    · have hki : ¬ (k : Int) < (qs.length : Int) := by omega
      obtain rfl : k = qs.length := by omega
      have htk : qs.texts.take qs.length = qs.texts := List.take_of_length_le (by rw [texts_length]; omega)
      have hfl := HFl.out qs.length
      rw [htk] at HI hfl ⊢
      obtain ⟨m, hm⟩ : ∃ m, nz qs.texts = m := ⟨_, rfl⟩
      obtain ⟨A, hA⟩ : ∃ A, qs.texts.flatten = A := ⟨_, rfl⟩
      have hmA : m.flatten = A := by rw [← hm, nz_flat, hA]
      have HMA := Hid_mk hmA
      have HMp := Hid_mk (show ∀ b ∈ m, 0 < b.length from fun b hb => nz_pos (l := qs.texts) (by rw [hm]; exact hb))
      have hml : m.length ≤ 12 := by have := nz_len qs.texts; rw [hm, texts_length] at this; omega
      have HM := Hid_mk hm
      rw [hm] at HI
      rw [hA] at hfl ⊢
      obtain ⟨ae, ce, rfl, hec, hecell⟩ := ends_shape HI.out
      have HEc := Hid_mk hecell
      obtain ⟨L, hL⟩ : ∃ L, A.length = L := ⟨_, rfl⟩
      have hsz : (⟨A.toArray⟩ : ByteArray).size = L := by rw [bsize, hL]
      rw [hL] at hfl
      obtain ⟨C, hC⟩ : ∃ C : Nat, at_ % ((L : Int) + 1) = C := ⟨(at_ % ((L : Int) + 1)).toNat, by have := Int.emod_nonneg at_ (show (L : Int) + 1 ≠ 0 by omega); omega⟩
      have hCl : C ≤ L := by have := Int.emod_lt_of_pos at_ (show (0 : Int) < (L : Int) + 1 by omega); omega
      have hp := fun w => turned.pick_any at_ ((L : Int) + 1) (by omega) (by omega) w
      rw [hC] at hp
      have HP := Hid_mk hp
      have HL := Hid_mk hL
      have HBegL := Hid_mk (show ∀ j, beg m j ≤ L from fun j => by
        rw [← hL, ← hmA]
        unfold beg
        conv => rhs; rw [← List.take_append_drop j m, List.flatten_append, List.length_append]
        omega)
      clear htk hm hA hmA hC hp hL hecell
      go_wp2_with fail
      with_reducible refine (HP.out _).mono ?_
      rintro e w' ⟨rfl, rfl⟩
      clear hsz
      go_wp2
      go_loopw [8, 9, 10] (fun q t i wq => KeepRel wr m C q t i wq) (fun _ _ i _ => m.length - (intOf i).toNat)
      case atStart => exact ⟨0, Nat.zero_le _, rfl, rfl, by rw [beg_zero]; rfl, by rw [beg_zero]; omega, rfl⟩
      case round =>
        obtain ⟨j, hj, rfl, rfl, rfl, hbc, rfl⟩ := hrel
        by_cases hle : j < m.length ∧ beg m (j + 1) ≤ C
        · obtain ⟨hjm, hle⟩ := hle
          obtain ⟨g, rfl, hcell⟩ := HEc.out (by omega)
          have hcn := hcell j hjm
          have hji : (j : Int) < (m.length : Int) := by omega
          have hji0 : (0 : Int) ≤ (j : Int) := Int.natCast_nonneg _
          have hpn := HBegL.out (j + 1)
          generalize hP1 : beg m (j + 1) = P1 at *
          have hlei : (P1 : Int) ≤ (C : Int) := by omega
          have HRel := Hid_mk (show KeepRel wr m C (.int .i64 ((j : Int) + 1)) (.int .i64 ((C : Int) - (P1 : Int))) (.int .i64 ((j + 1 : Nat) : Int)) wr from ⟨j + 1, hjm, rfl, by rfl, by rw [hP1]; congr 1; omega, by rw [hP1]; exact hle, rfl⟩)
          clear hcell hP1
          go_wp2
          go_roundw
          case rel => exact HRel.out
          case measure => simp [intOf]; omega
        · have hcut := cut_one kf' HMp.out hj hbc (by rw [HMA.out, HL.out]; exact hCl) (fun h => by rcases Nat.lt_or_ge C (beg m (j + 1)) with h2 | h2; exact h2; exact absurd ⟨h, h2⟩ hle)
          rw [HMA.out] at hcut
          have HCut := Hid_mk hcut
          have hpj := HBegL.out j
          generalize hT : C - beg m j = T at *
          have hTC : T ≤ C := by omega
          clear hcut hT
          by_cases hnl : j < m.length
          all_goals first
            | (obtain ⟨g, rfl, hcell⟩ := HEc.out (by omega)
               have hcn := hcell j hnl
               have hni : (j : Int) < (m.length : Int) := by omega
               have hpn1 := HBegL.out (j + 1)
               have hlei : ¬ (beg m (j + 1) : Int) ≤ (C : Int) := fun h => hle ⟨hnl, by omega⟩
               have hji0 : (0 : Int) ≤ (j : Int) := Int.natCast_nonneg _
               generalize beg m (j + 1) = P1 at *
               clear hcell hle)
            | (have hni : ¬ (j : Int) < (m.length : Int) := by omega
               clear hle)
          all_goals
            go_wp2_with fail
            with_reducible refine (new_any wr 8388608 (by omega) (by omega)).mono ?_
            rintro e w2 ⟨p, ρ2, rfl, h2, hk2, hp2⟩
            rw [apD_new kf'] at h2
            have D2' := Hid_mk h2
            have K2' := Hid_mk hk2
            clear h2 hk2
            go_wp2_with fail
            with_reducible refine (known_any _).mono ?_
            rintro e w3 ⟨rfl, hkn⟩
            have D3 := Hid_mk (D2'.out.no hkn)
            have K3 := Hid_mk (K2'.out.trans' hkn)
            have HLs3 := Hid_mk ((LsR.of_lo (ρ := ρ2) (HLo.out.no HKp.out) fun k _ hk3 => D2'.out.lo hk3).no K3.out)
            have KW3 := Hid_mk ((HK1.out.trans' HKp.out).trans' K3.out)
            have hwz : w.heap.size ≤ wr.heap.size := (HK1.out.trans' HKp.out).size
            clear hkn D2' K2'
            go_wp2
            generalize wr.heap.size = bz at *
            go_loopw [13] (fun i wq => CutsRel w bz p (.slice a1 qs.length c1) qs i wq) (fun i _ => qs.length - (intOf i).toNat)
            case atStart => exact ⟨0, ρ2, Nat.zero_le _, rfl, D3.out, (new_ap kf').mono (Nat.zero_le _), HLs3.out, KW3.out⟩
            case round =>
              obtain ⟨i, ρ, hi9, rfl, hd, hok, hls, hkp⟩ := hrel
              have JD := Hid_mk hd
              have JOk := Hid_mk hok
              have JLs := Hid_mk hls
              have JKp := Hid_mk hkp
              clear hd hok hls hkp
              by_cases hit : i < qs.length
              · obtain ⟨b, o, x, bs, e1, e2, -, hmem, hget, hc, hbb, hvo⟩ := LsR.at JLs.out hit
                obtain rfl := e1
                have hbl : bs.length ≤ 2000 := HS2.out bs (List.mem_map.2 ⟨_, hmem, rfl⟩)
                have HNext := Hid_mk (take_next hget)
                have hfi := HFl.out i
                have hii : (i : Int) < (qs.length : Int) := by omega
                have hi20 : (i : Int) < 12 := by omega
                have hii0 : (0 : Int) ≤ (i : Int) := Int.natCast_nonneg _
                by_cases hbe : bs = []
                · obtain ⟨ax, cx, rfl, -⟩ := id hbb
                  have hb0 : ¬ (0 : Int) < (bs.length : Int) := by rw [hbe]; simp
                  have HRel := Hid_mk (show CutsRel w bz p (.slice (some ⟨b, o, none⟩) qs.length c1) qs (.int .i64 ((i + 1 : Nat) : Int)) _ from ⟨i + 1, ρ, hit, rfl, by rw [HNext.out, hbe, nz_empty]; exact JD.out, by rw [HNext.out, hbe, nz_empty]; exact JOk.out.mono (by omega), JLs.out, JKp.out⟩)
                  clear hbe hmem hget hbb hvo e2 hfi
                  go_wp2
                  go_roundw
                  case rel => exact HRel.out
                  case measure => simp [intOf]; omega
                · have hb0 : (0 : Int) < (bs.length : Int) := by have := List.length_pos_iff.2 hbe; omega
                  obtain ⟨ha, ho⟩ := append_ap _ bz p (i + 1) ρ kf' none (nz (qs.texts.take i)) x bs JD.out JOk.out (by omega) (by decide) hbb hvo (by rw [nz_flat]; show 0 + _ + _ ≤ _; omega)
                  rw [← nz_snoc _ hbe, ← HNext.out] at ha ho
                  have JA := Hid_mk ha
                  have JO := Hid_mk ho
                  obtain ⟨ax, cx, rfl, -⟩ := id hbb
                  clear ha ho hmem hbb hvo e2 hfi hget hbe
                  go_wp2_with fail
                  with_reducible refine JA.out.mono ?_
                  rintro e w6 ⟨rfl, ρ6, h6, f6⟩
                  have HRel := Hid_mk (show CutsRel w bz p (.slice (some ⟨b, o, none⟩) qs.length c1) qs (.int .i64 ((i + 1 : Nat) : Int)) w6 from ⟨i + 1, ρ6, hit, rfl, h6, JO.out, JLs.out.fr f6, JD.out.out hwz JKp.out f6⟩)
                  clear h6 f6
                  go_wp2
                  go_roundw
                  case rel => exact HRel.out
                  case measure => simp [intOf]; omega
              · have hii : ¬ (i : Int) < (qs.length : Int) := by omega
                obtain rfl : i = qs.length := by omega
                have hti : nz (qs.texts.take qs.length) = m := by rw [List.take_of_length_le (by rw [texts_length]; omega), HM.out]
                rw [hti] at JD JOk
                have hcr := crash_any _ bz p (qs.length + 1) ρ _ (j : Int) (T : Int) JD.out JOk.out (by omega)
                rw [HCut.out.1, HCut.out.2] at hcr
                have HCr := Hid_mk hcr
                have HX := Hid_mk (show (if C = 0 then none else some (A.take C)).getD [] ++ ([] : List (List UInt8)).flatten = A.take C by split <;> simp_all)
                clear hti hcr
                go_wp2_with fail
                with_reducible refine HCr.out.mono ?_
                rintro e w6 ⟨rfl, ρ6, h6, f6⟩
                have K6 := Hid_mk (JD.out.out hwz JKp.out f6)
                have hrd := read_ap w6 bz p ρ6 kf' (-1) _ [] h6 (by decide) (by
                  have := congrArg List.length HX.out
                  rw [List.length_append, List.length_take] at this
                  rw [this, HL.out]
                  omega)
                rw [HX.out] at hrd
                have HAf := Hid_mk (show (after (if C = 0 then none else some (A.take C)) []).isSome = decide (0 < C) by
                  unfold after
                  rw [if_pos rfl]
                  by_cases h0 : C = 0
                  · simp [h0]
                  · rw [if_neg h0]; simp; omega)
                rw [HAf.out] at hrd
                have HRd := Hid_mk hrd
                clear h6 f6 hrd
                go_wp2_with fail
                with_reducible refine HRd.out.mono ?_
                rintro e w7 ⟨v7, rfl, ho7, hk7⟩
                have K7 := Hid_mk (K6.out.trans' hk7)
                have hb7 := owns_bs ho7
                obtain ⟨a7, c7, rfl, -⟩ := id hb7
                have hcv := fun n => known.conv_bs (bs_no hb7 ((Kp.refl No w7).drewN n))
                have hsl := fun W => run_str_to A C (by rw [HL.out]; exact hCl) W
                have hC0 : (0 : Int) ≤ (C : Int) := Int.natCast_nonneg _
                have hlt9 : (A.take C).length = C := by rw [List.length_take, HL.out]; omega
                rw [hlt9] at hcv ⊢
                clear ho7 hk7 hb7 hlt9
                by_cases hCz : 0 < C
                all_goals first
                  | (have hCi : (0 : Int) < (C : Int) := by omega
                     have hdc : decide (0 < C) = true := decide_eq_true hCz
                     have hdi : decide ((0 : Int) < (C : Int)) = true := decide_eq_true hCi
                     rw [hdc]
                     clear hCz)
                  | (have hCi : ¬ (0 : Int) < (C : Int) := by omega
                     have hdc : decide (0 < C) = false := decide_eq_false hCz
                     have hdi : decide ((0 : Int) < (C : Int)) = false := decide_eq_false hCi
                     rw [hdc]
                     clear hCz)
                all_goals
                  go_wp2
                  go_quiet (fail)
                  go_wp2
                  go_ret
                  exact ⟨rfl, K7.out.trans' ((Kp.refl No w7).drewN _)⟩

end Go.Proofs.Ytbhhmbbldbgdnaa.dsk
