/- FrameCut: the law's walk. -/
import Derived.Test.YtbhhmbbldbgdnaaFrameBackWalk
import Derived.Test.YtbhhmbbldbgdnaaCutPlain
import Derived.Test.YtbhhmbbldbgdnaaInts
namespace Go.Proofs.Ytbhhmbbldbgdnaa.frm
open Go.RowKit Go.Proofs.Ytbhhmbbldbgdnaa.sum Go.Proofs.Ytbhhmbbldbgdnaa.kept Go.Proofs.Ytbhhmbbldbgdnaa.app Go.Proofs.Ytbhhmbbldbgdnaa.writer Go.Proofs.Ytbhhmbbldbgdnaa.clone Go.Proofs.Ytbhhmbbldbgdnaa.known Go.Proofs.Ytbhhmbbldbgdnaa.fl Go.Proofs.Ytbhhmbbldbgdnaa.seal Go.Proofs.Ytbhhmbbldbgdnaa.unseal Go.Proofs.Ytbhhmbbldbgdnaa.lst
set_option linter.unusedVariables false

/-- where the first k frames end -/
def endsL (l : List (List UInt8)) (k : Nat) : List Nat := (List.range k).map fun j => place l (j + 1)
theorem endsL_len (l : List (List UInt8)) (k : Nat) : (endsL l k).length = k := by simp [endsL]
theorem endsL_succ (l : List (List UInt8)) (k : Nat) : endsL l (k + 1) = endsL l k ++ [place l (k + 1)] := by simp [endsL, List.range_succ]
theorem endsL_at (l : List (List UInt8)) {k j : Nat} (h : j < (endsL l k).length) : (endsL l k)[j] = place l (j + 1) := by simp [endsL]

def CutRel (base : Nat) (l : List (List UInt8)) (w1 : World) (v e i : Value) (wr : World) : Prop :=
  ∃ k : Nat, k ≤ l.length ∧ i = .int .i64 k ∧ wr.ownsRow base 5 1 v (allF (l.take k)).length ((allF (l.take k)).map B) ∧ Is wr base e (endsL l k) ∧ Kp No w1 wr

def CutRel2 (l : List (List UInt8)) (cut : Nat) (w1 : World) (n e : Value) (wr : World) : Prop :=
  ∃ k : Nat, k ≤ l.length ∧ n = .int .i64 k ∧ e = .int .i64 (place l k : Int) ∧ place l k ≤ cut ∧ wr = w1

theorem place_small {l : List (List UInt8)} (h : ∀ b ∈ l, b.length ≤ 2000) (hl : l.length ≤ 50) (k : Nat) : place l k ≤ 50 * 2010 := by
  have h1 := allF_len (l := l.take k) (n := 2000) (fun b hb => h b (List.mem_of_mem_take hb)) (by omega)
  have h2 : (l.take k).length ≤ 50 := by rw [List.length_take]; omega
  have h3 : (l.take k).length * 2010 ≤ 50 * 2010 := Nat.mul_le_mul_right _ h2
  exact Nat.le_trans h1 h3

theorem is_shape {w : World} {base : Nat} {v : Value} {l : List (List UInt8)} {n : Nat} (h : Is w base v (endsL l n)) : ∃ a cap, v = .slice a n cap ∧ n ≤ cap ∧ (0 < n → ∃ g, a = some ⟨g, 0, none⟩ ∧ ∀ k, k < n → w.cell? ⟨g, k, none⟩ = some (.int .i64 (place l (k + 1) : Int))) := by
  have hl := endsL_len l n
  rcases owns_any h with ⟨rfl, h0⟩ | ⟨g, cap, rfl, -, -, h1, -⟩
  · rw [hl] at h0; subst h0
    exact ⟨none, 0, rfl, Nat.le_refl _, fun h => by omega⟩
  · rw [hl] at h1 ⊢
    refine ⟨_, cap, rfl, h1, fun _ => ⟨g, rfl, fun k hk => ?_⟩⟩
    obtain ⟨g', cap', e, -, -, hc⟩ := Is.at h (k := k) (by rw [hl]; exact hk)
    simp only [Value.slice.injEq, Option.some.injEq, Addr.mk.injEq] at e
    obtain ⟨⟨rfl, -⟩, -⟩ := e
    rw [hc, endsL_at]

set_option maxRecDepth 100000 in
set_option maxHeartbeats 8000000 in
theorem cut_any (w : World) (v : Value) (ps : Els) (cut : Int) (h : Ls w v ps) :
    Calls Try.prog 10 #[v, .int .i64 cut] w fun e w' => e = .returned (.bool true) ∧ Kp No w w' := by
  have HS := Hid_mk (short_lit w v ps 50 2000 50 2000 h (by omega) (by omega) rfl rfl)
  obtain ⟨⟨a, cap, rfl, -⟩, -⟩ := id h
  clear h
  go_enter Try.func10, Try.ntmps10
  go_wp2_with fail
  with_reducible refine HS.out.mono ?_
  rintro e w1 ⟨v1, qs, rfl, hlo, htx, hk1⟩
  obtain ⟨hs1, hs2⟩ := short_small (m := 50) (n := 2000) (l := ps.texts)
  rw [← htx] at hs1 hs2
  rw [texts_length] at hs1
  obtain ⟨⟨a1, c1, rfl, hc1, hc2, -⟩, -⟩ := id hlo.ls
  unfold maxLen at hc2
  have HLs := Hid_mk hlo.ls
  have HK1 := Hid_mk hk1
  have HS2 := Hid_mk hs2
  have hz1 := hk1.size
  have hpl := place_small hs2 (by rw [texts_length]; exact hs1)
  have HPl := Hid_mk hpl
  clear hlo htx hk1 hs2 HS hpl
  go_wp2
  go_loopw [5, 6, 7] (fun v e i wr => CutRel w1.heap.size qs.texts w1 v e i wr) (fun _ _ i _ => qs.length - (intOf i).toNat)
  case atStart => exact ⟨0, Nat.zero_le _, rfl, World.ownsRow_nil _ _ _ _, World.ownsRow_nil _ _ _ _, Kp.refl _ _⟩
  case round =>
    obtain ⟨k, hk, rfl, ho, hi, hkp⟩ := hrel
    rw [texts_length] at hk
    have HKp := Hid_mk hkp
    have hzr := hkp.size
    have HI := Hid_mk hi
    by_cases hlt : k < qs.length
    · obtain ⟨b, o, x, bs, e1, e2, -, hmem, hget, hb0, hcell⟩ := Ls.at HLs.out hlt
      obtain rfl := e1
      have hbl : bs.length ≤ 2000 := HS2.out bs (List.mem_map.2 ⟨_, hmem, rfl⟩)
      obtain ⟨hc, hbb⟩ := hcell wr hkp
      have HNext := Hid_mk (take_next hget)
      have hal : (allF (qs.texts.take k)).length ≤ 50 * 2010 := HPl.out k
      have HO := Hid_mk ho
      have HCell := Hid_mk hcell
      obtain ⟨ax, cx, rfl, -⟩ := id hbb
      have HF := Hid_mk (frame_any wr _ bs hbb)
      have hfl := framed_len (bs := bs) (by omega)
      have HFl := Hid_mk hfl
      have hki : (k : Int) < (qs.length : Int) := by omega
      have hki0 : (0 : Int) ≤ (k : Int) := Int.natCast_nonneg _
      clear hcell hkp ho hmem hget hbb hfl e2 hi
      go_wp2_with fail
      with_reducible refine HF.out.mono ?_
      rintro e w2 ⟨v2, rfl, ho2, hk2⟩
      have HB2 := Hid_mk (owns_bs ho2)
      obtain ⟨a2, c2, rfl, -⟩ := id HB2.out
      have HK2 := Hid_mk (HKp.out.trans' hk2)
      have HO2 := Hid_mk (owns_kept HO.out hk2 fun _ _ => id)
      have HI2 := Hid_mk (HI.out.kept hk2 fun _ _ _ => id)
      have hz2 := hk2.size
      clear ho2 hk2 hc
      go_wp2_with (at_builtin; (refine wpList_append_bs _ rfl _ _ rfl w1.heap.size _ (allF (qs.texts.take k)) rfl HO2.out _ (framed bs) rfl HB2.out ?c1 ?c2 ?_))
      case c1 => rw [HFl.out]; omega
      case c2 => omega
      intro v3 w3 happ
      have hpe : allF (qs.texts.take k) ++ framed bs = allF (qs.texts.take (k + 1)) := by rw [HNext.out, allF_snoc]
      have ho3 := happ.1
      rw [hpe] at ho3
      have hg3 : Kp (fun k => some k = _) w2 w3 := app_kept0 happ fun k _ e => e.symm
      have HI3 := Hid_mk (show Is w3 w1.heap.size _ (endsL qs.texts k) from owns_kept HI2.out hg3 fun g hg e => ints_apart HI2.out HO2.out g e.symm hg)
      have HK3 := Hid_mk (HK2.out.grown happ.2.1 fun i hi e => by have := (HO2.out.lt i e).1; omega)
      have hz3 := HK3.out.size
      have HO3 := Hid_mk ho3
      have hpl1 : place qs.texts (k + 1) = (allF (qs.texts.take (k + 1))).length := rfl
      obtain ⟨a3, c3, rfl⟩ : ∃ a c, v3 = .slice a (allF (qs.texts.take (k + 1))).length c := by
        rcases owns_any ho3 with ⟨rfl, hz⟩ | ⟨g, cap, rfl, -⟩
        · exact ⟨none, 0, by rw [hz]⟩
        · exact ⟨_, _, rfl⟩
      rw [← hpl1]
      rw [← hpl1] at HO3
      have hpb := HPl.out (k + 1)
      clear happ hpe ho3 hg3 hpl1
      go_wp2_with (at_builtin; (refine wpList_append_int _ rfl _ _ rfl w1.heap.size _ (endsL qs.texts k) rfl (HI3.out.kept ((Kp.refl No w3).alloc _) (fun _ _ _ => id)) ?d1 (place qs.texts (k + 1)) w3.heap.size 1 rfl (heap_alloc_new w3 _) ?d2 ?_))
      case d1 => simp; omega
      case d2 => rw [endsL_len]; omega
      intro g4 c4 w4 hi4 hk4
      have hrel : CutRel w1.heap.size qs.texts w1 (.slice a3 (place qs.texts (k + 1)) c3) (.slice (some ⟨g4, 0, none⟩) ((endsL qs.texts k).length + 1) c4) (.int .i64 ((k + 1 : Nat) : Int)) w4 := by
        refine ⟨k + 1, by rw [texts_length]; exact hlt, rfl, ?_, ?_, (HK3.out.alloc _).trans hk4 fun i hi e => by have := (World.ownsRow.lt HI3.out i e.symm).1; omega⟩
        · exact owns_kept (owns_kept HO3.out ((Kp.refl No w3).alloc _) fun _ _ => id) hk4 fun g hg e => ints_apart HI3.out HO3.out g hg e.symm
        · rw [endsL_succ]; exact hi4
      have HRel := Hid_mk hrel
      clear hrel hi4 hk4
      go_wp2
      go_roundw
      case rel => exact HRel.out
      case measure => simp [intOf]; omega
    · have hki : ¬ (k : Int) < (qs.length : Int) := by omega
      have hkk : k = qs.length := by omega
      subst hkk
      have htk : qs.texts.take qs.length = qs.texts := List.take_of_length_le (by rw [texts_length]; omega)
      rw [htk] at ho
      have hal : (allF qs.texts).length ≤ 50 * 2010 := by have := HPl.out qs.length; unfold place at this; rw [htk] at this; exact this
      have HB := Hid_mk (owns_bs ho)
      obtain ⟨L, hL⟩ : ∃ L, (allF qs.texts).length = L := ⟨_, rfl⟩
      obtain ⟨C, hC⟩ : ∃ C : Nat, cut % ((L : Int) + 1) = C := ⟨(cut % ((L : Int) + 1)).toNat, by have := Int.emod_nonneg cut (show (L : Int) + 1 ≠ 0 by omega); omega⟩
      have hCl : C ≤ L := by have := Int.emod_lt_of_pos cut (show (0 : Int) < (L : Int) + 1 by omega); omega
      have hp := fun w => turned.pick_any cut ((L : Int) + 1) (by omega) (by rw [hL] at hal; omega) w
      rw [hC] at hp
      have HP := Hid_mk hp
      obtain ⟨a3, c3, rfl, hc3, hc4, -⟩ := id HB.out
      have HLen := Hid_mk hL
      rw [hL] at hal hc3
      rw [hL]
      unfold maxLen at hc4
      have HO := Hid_mk ho
      clear htk ho hkp hi hp hC hL
      obtain ⟨ae, ce, rfl, hec, hecell⟩ := is_shape HI.out
      have hec2 : True := trivial
      have HEc := Hid_mk hecell
      have hz2 : w1.heap.size ≤ wr.heap.size := hzr
      clear hecell
      go_wp2_with fail
      with_reducible refine (HP.out _).mono ?_
      rintro e w' ⟨rfl, rfl⟩
      go_wp2
      go_loopw [8, 9] (fun n e w9 => CutRel2 qs.texts C wr n e w9) (fun n _ _ => qs.length - (intOf n).toNat)
      case atStart => exact ⟨0, Nat.zero_le _, rfl, by rw [place_zero]; rfl, by rw [place_zero]; omega, rfl⟩
      case round =>
        obtain ⟨n, hn, rfl, rfl, hpc, rfl⟩ := hrel
        rw [texts_length] at hn
        have hdone : (n < qs.length → C < place qs.texts (n + 1)) → listP ((allF qs.texts).take C) = (qs.texts.take n, place qs.texts n) := fun hh =>
          listP_cut (fun b hb => by have := HS2.out b hb; omega) (by rw [texts_length]; exact hn) hpc (by rw [HLen.out]; exact hCl) (by rw [texts_length]; exact hh)
        have HDone := Hid_mk hdone
        clear hdone
        by_cases hle : n < qs.length ∧ place qs.texts (n + 1) ≤ C
        · obtain ⟨hnl, hle⟩ := hle
          obtain ⟨g, rfl, hcell⟩ := HEc.out (by omega)
          have hcn := hcell n hnl
          have hni : (n : Int) < (qs.length : Int) := by omega
          have hni0 : (0 : Int) ≤ (n : Int) := Int.natCast_nonneg _
          have hpn := HPl.out (n + 1)
          generalize hP1 : place qs.texts (n + 1) = P1 at *
          clear hcell
          have hlei : (P1 : Int) ≤ (C : Int) := by omega
          have hrel : CutRel2 qs.texts C wr (.int .i64 ((n + 1 : Nat) : Int)) (.int .i64 (P1 : Int)) wr := ⟨n + 1, by rw [texts_length]; exact hnl, rfl, by rw [hP1], by rw [hP1]; exact hle, rfl⟩
          have HRel := Hid_mk hrel
          clear hrel hP1
          go_wp2
          go_roundw
          case rel => exact HRel.out
          case measure => simp [intOf]; omega
        · have hD := HDone.out (fun h => by rcases Nat.lt_or_ge C (place qs.texts (n + 1)) with h2 | h2; exact h2; exact absurd ⟨h, h2⟩ hle)
          have hbt := bs_take HB.out C (by rw [HLen.out]; exact hCl)
          rw [HLen.out] at HB
          have hLa := list_any wr _ _ hbt (by rw [List.length_take]; omega)
          rw [hD] at hLa
          have HLa := Hid_mk hLa
          have hpn := HPl.out n
          have HTk := Hid_mk ((HLs.out.no HKp.out).take n (by omega))
          have hqc : (n : Int) ≤ (c1 : Int) := by omega
          have hni0 : (0 : Int) ≤ (n : Int) := Int.natCast_nonneg _
          have hcc : (C : Int) ≤ (c3 : Int) := by omega
          have hcc0 : (0 : Int) ≤ (C : Int) := Int.natCast_nonneg _
          generalize hPn : place qs.texts n = Pn at *
          clear hD hbt hLa hPn
          by_cases hnl : n < qs.length
          all_goals first
            | (obtain ⟨g, rfl, hcell⟩ := HEc.out (by omega)
               have hcn := hcell n hnl
               have hni : (n : Int) < (qs.length : Int) := by omega
               have hpn1 := HPl.out (n + 1)
               have hlei : ¬ (place qs.texts (n + 1) : Int) ≤ (C : Int) := fun h => hle ⟨hnl, by omega⟩
               generalize place qs.texts (n + 1) = P1 at *
               clear hcell hle)
            | (have hni : ¬ (n : Int) < (qs.length : Int) := by omega
               clear hle)
          all_goals
            go_wp2_with fail
            with_reducible refine HLa.out.mono ?_
            rintro e w4 ⟨v4, rs, rfl, hlo4, htx4, hk4⟩
            have HLs4 := Hid_mk hlo4.ls
            have HK4 := Hid_mk hk4
            have HTx4 := Hid_mk htx4
            clear hlo4 htx4 hk4
            go_wp2_with fail
            with_reducible refine (known_any w4).mono ?_
            rintro e w5 ⟨rfl, hk5⟩
            have HSame := Hid_mk (same_any w5 v4 (.slice a1 n c1) rs (qs.take n) (HLs4.out.no hk5) (HTk.out.no (HK4.out.trans' hk5)) (by rw [HTx4.out, texts_take]))
            have HK5 := Hid_mk (HK4.out.trans' hk5)
            clear hk5
            go_wp2_with fail
            with_reducible refine HSame.out.mono ?_
            rintro e w6 ⟨rfl, hk6⟩
            have HK6 := Hid_mk (HK1.out.trans' (HKp.out.trans' (HK5.out.trans' hk6)))
            clear hk6
            go_wp2
            go_ret
            exact ⟨rfl, HK6.out⟩

end Go.Proofs.Ytbhhmbbldbgdnaa.frm
