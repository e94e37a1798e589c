/- FrameTurned: the law's walk. -/
import Derived.Test.YtbhhmbbldbgdnaaFrameCutWalk
namespace Go.Proofs.Ytbhhmbbldbgdnaa.frm
open Go.RowKit Go.Proofs.Ytbhhmbbldbgdnaa.sum Go.Proofs.Ytbhhmbbldbgdnaa.kept Go.Proofs.Ytbhhmbbldbgdnaa.app Go.Proofs.Ytbhhmbbldbgdnaa.writer Go.Proofs.Ytbhhmbbldbgdnaa.clone Go.Proofs.Ytbhhmbbldbgdnaa.known Go.Proofs.Ytbhhmbbldbgdnaa.fl Go.Proofs.Ytbhhmbbldbgdnaa.seal Go.Proofs.Ytbhhmbbldbgdnaa.unseal Go.Proofs.Ytbhhmbbldbgdnaa.lst
set_option linter.unusedVariables false

theorem listP_turned {l : List (List UInt8)} (h : ∀ b ∈ l, b.length ≤ 4194304) {t : List UInt8} (ht : firstP t = none) : listP (allF l ++ t) = (l, (allF l).length) := by
  rw [listP_all l h, listP_none ht]; simp

set_option maxRecDepth 100000 in
set_option maxHeartbeats 8000000 in
theorem turned_any (w : World) (v vl : Value) (ps : Els) (last : List UInt8) (at_ by_ : Int) (h : Ls w v ps) (hl : Bs w vl last) :
    Calls Try.prog 11 #[v, vl, .int .i64 at_, .int .i64 by_] w fun e w' => e = .returned (.bool true) ∧ Kp No w w' := by
  have HS := Hid_mk (short_lit w v ps 20 500 20 500 h (by omega) (by omega) rfl rfl)
  obtain ⟨⟨a, cap, rfl, -⟩, -⟩ := id h
  have HL := Hid_mk hl
  obtain ⟨al, capl, rfl, hlc, hlm, -⟩ := hl
  unfold maxLen at hlm
  clear h
  go_enter Try.func11, Try.ntmps11
  go_wp2_with fail
  with_reducible refine HS.out.mono ?_
  rintro e w1 ⟨v1, qs, rfl, hlo, htx, hk1⟩
  obtain ⟨hs1, hs2'⟩ := short_small (m := 20) (n := 500) (l := ps.texts)
  rw [← htx] at hs1 hs2'
  rw [texts_length] at hs1
  have hs2 : ∀ b ∈ qs.texts, b.length ≤ 2000 := fun b hb => by have := hs2' b hb; omega
  obtain ⟨⟨a1, c1, rfl, hc1, hc2, -⟩, -⟩ := id hlo.ls
  unfold maxLen at hc2
  have HLs := Hid_mk hlo.ls
  have HK1 := Hid_mk hk1
  have HS2 := Hid_mk hs2
  have hz1 := hk1.size
  have hpl := place_small hs2 (by rw [texts_length]; omega)
  have HPl := Hid_mk hpl
  clear hlo htx hk1 hs2 hs2' HS hpl
  go_wp2
  go_loopw [9, 10] (fun v i wr => BackRel w1.heap.size qs.texts w1 v i wr) (fun _ i _ => qs.length - (intOf i).toNat)
  case atStart => exact ⟨0, Nat.zero_le _, rfl, World.ownsRow_nil _ _ _ _, Kp.refl _ _⟩
  case round =>
    obtain ⟨k, hk, rfl, ho, hkp⟩ := hrel
    rw [texts_length] at hk
    have HKp := Hid_mk hkp
    have hzr := hkp.size
    by_cases hlt : k < qs.length
    · obtain ⟨b, o, x, bs, e1, e2, -, hmem, hget, hb0, hcell⟩ := Ls.at HLs.out hlt
      obtain rfl := e1
      have hbl : bs.length ≤ 2000 := HS2.out bs (List.mem_map.2 ⟨_, hmem, rfl⟩)
      obtain ⟨hc, hbb⟩ := hcell wr hkp
      have HNext := Hid_mk (take_next hget)
      have hal : (allF (qs.texts.take k)).length ≤ 50 * 2010 := HPl.out k
      have HO := Hid_mk ho
      obtain ⟨ax, cx, rfl, -⟩ := id hbb
      have HF := Hid_mk (frame_any wr _ bs hbb)
      have hfl := framed_len (bs := bs) (by omega)
      have HFl := Hid_mk hfl
      have hki : (k : Int) < (qs.length : Int) := by omega
      have hki0 : (0 : Int) ≤ (k : Int) := Int.natCast_nonneg _
      clear hcell hkp ho hmem hget hbb hfl e2
      go_wp2_with fail
      with_reducible refine HF.out.mono ?_
      rintro e w2 ⟨v2, rfl, ho2, hk2⟩
      have HB2 := Hid_mk (owns_bs ho2)
      obtain ⟨a2, c2, rfl, -⟩ := id HB2.out
      have HK2 := Hid_mk (HKp.out.trans' hk2)
      have HO2 := Hid_mk (owns_kept HO.out hk2 fun _ _ => id)
      have hz2 := hk2.size
      clear ho2 hk2 hc
      go_wp2_with (at_builtin; (refine wpList_append_bs _ rfl _ _ rfl w1.heap.size _ (allF (qs.texts.take k)) rfl HO2.out _ (framed bs) rfl HB2.out ?c1 ?c2 ?_))
      case c1 => rw [HFl.out]; omega
      case c2 => omega
      intro v3 w3 happ
      have hrel : BackRel w1.heap.size qs.texts w1 v3 (.int .i64 ((k + 1 : Nat) : Int)) w3 := ⟨k + 1, by rw [texts_length]; exact hlt, rfl, by rw [HNext.out, allF_snoc]; exact happ.1, HK2.out.grown happ.2.1 fun i hi e => by have := (HO2.out.lt i e).1; omega⟩
      have HRel := Hid_mk hrel
      clear hrel happ
      go_wp2
      go_roundw
      case rel => exact HRel.out
      case measure => simp [intOf]; omega
    · have hki : ¬ (k : Int) < (qs.length : Int) := by omega
      have hkk : k = qs.length := by omega
      subst hkk
      have htk : qs.texts.take qs.length = qs.texts := List.take_of_length_le (by rw [texts_length]; omega)
      rw [htk] at ho
      have hal : (allF qs.texts).length ≤ 50 * 2010 := by have := HPl.out qs.length; unfold place at this; rw [htk] at this; exact this
      have HO := Hid_mk ho
      clear htk ho hkp
      -- the last frame
      have hbt := bs_take (bs_no HL.out (HK1.out.trans' HKp.out)) (min last.length 500) (Nat.min_le_left _ _)
      obtain ⟨xs, hxs⟩ : ∃ xs, last.take (min last.length 500) = xs := ⟨_, rfl⟩
      have hxl : xs.length ≤ 500 := by rw [← hxs]; simp; omega
      rw [hxs] at hbt
      have hmin0 : (0 : Int) ≤ (last.length : Int) := Int.natCast_nonneg _
      have HF := Hid_mk (frame_any wr _ xs hbt)
      have hfl := framed_len (bs := xs) (by omega)
      have HFl := Hid_mk hfl
      clear hbt hxs hfl
      by_cases hl5 : last.length ≤ 500
      all_goals first
        | (rw [Nat.min_eq_left hl5] at HF
           have hl5i : ¬ (500 : Int) < (last.length : Int) := by omega
           have hcl : (last.length : Int) ≤ (capl : Int) := by omega
           clear hl5)
        | (rw [Nat.min_eq_right (by omega)] at HF
           have hl5i : (500 : Int) < (last.length : Int) := by omega
           have hcl : (500 : Int) ≤ (capl : Int) := by omega
           clear hl5)
      all_goals
        go_wp2_with fail
        with_reducible refine HF.out.mono ?_
        rintro e w2 ⟨v2, rfl, ho2, hk2⟩
        rw [HFl.out] at ho2
        obtain ⟨g, cap2, rfl, hg1, hg2⟩ := owns_some ho2 (by omega)
        have hcap2 : xs.length + 10 ≤ cap2 ∧ cap2 ≤ maxLen := by
          rcases owns_any ho2 with ⟨e, _⟩ | ⟨_, _, e, _, _, h1, h2⟩
          · cases e
          · simp only [Value.slice.injEq] at e; rw [e.2.2]; exact ⟨h1, h2⟩
        obtain ⟨hcap3, hcap4⟩ := hcap2
        unfold maxLen at hcap4
        have HK2 := Hid_mk (HKp.out.trans' hk2)
        have HO2 := Hid_mk (owns_kept HO.out hk2 fun _ _ => id)
        have HF2 := Hid_mk ho2
        clear ho2 hk2
        go_wp2_with fail
        with_reducible refine (known_any w2).mono ?_
        rintro e w3 ⟨rfl, hk3⟩
        have HF3 := Hid_mk (owns_kept HF2.out hk3 fun _ _ => id)
        have HO3 := Hid_mk (owns_kept HO2.out hk3 fun _ _ => id)
        have HK3 := Hid_mk (HK2.out.trans' hk3)
        have hg3 : g < w3.heap.size := (HF3.out.lt g rfl).2
        clear hk3 hg2
        obtain ⟨K, hK⟩ : ∃ K : Nat, at_ % ((xs.length : Int) + 10 - 4) = K := ⟨(at_ % ((xs.length : Int) + 10 - 4)).toNat, by have := Int.emod_nonneg at_ (show (xs.length : Int) + 10 - 4 ≠ 0 by omega); omega⟩
        have hKl : K < xs.length + 6 := by have := Int.emod_lt_of_pos at_ (show (0 : Int) < (xs.length : Int) + 10 - 4 by omega); omega
        have hp := fun w => turned.pick_any at_ ((xs.length : Int) + 10 - 4) (by omega) (by omega) w
        rw [hK] at hp
        have HP := Hid_mk hp
        clear hp hK
        go_wp2_with fail
        with_reducible refine (HP.out _).mono ?_
        rintro e w' ⟨rfl, rfl⟩
        obtain ⟨J, hJ⟩ : ∃ J : Nat, by_ % 255 = J := ⟨(by_ % 255).toNat, by have := Int.emod_nonneg by_ (show (255 : Int) ≠ 0 by omega); omega⟩
        have hJl : J < 255 := by have := Int.emod_lt_of_pos by_ (show (0 : Int) < 255 by omega); omega
        have hp2 := fun w => turned.pick_any by_ 255 (by omega) (by omega) w
        rw [hJ] at hp2
        have HP2 := fun w => Hid_mk (hp2 w)
        have hbs := owns_bs (bs := framed xs) (by rw [HFl.out]; exact HF3.out)
        have hcell : w3.cell? ⟨g, 4 + K, none⟩ = some (.int .u8 (((framed xs).getD (4 + K) 0).toNat : Int)) := by
          obtain ⟨_, _, e, _, _, h3⟩ := hbs
          simp only [Value.slice.injEq] at e
          have hne : framed xs ≠ [] := by intro e; have := HFl.out; rw [e] at this; simp at this
          obtain ⟨b', o', e2, hc⟩ := h3 hne
          rw [← e.1] at e2
          cases e2
          have := hc (4 + K) (by rw [HFl.out]; omega)
          rwa [Nat.zero_add] at this
        have hwarm : w3.frozen? ⟨g, 4 + K, none⟩ = false := by
          rcases HF3.out.2 with ⟨e, _⟩ | ⟨g', cap', cur, e, _, hg, _⟩
          · cases e
          · cases e; simp [World.frozen?, hg]
        obtain ⟨y, hy, hne⟩ := turned.xor_byte ((framed xs).getD (4 + K) 0) J hJl
        have hset := turned.bs_set hbs (4 + K) (by omega) y
        rw [Nat.zero_add] at hset
        have HSet := Hid_mk hset
        have hbad := firstP_turned (bs := xs) (by omega) hKl y hne
        have HBad := Hid_mk hbad
        have hKi0 : (0 : Int) ≤ 4 + (K : Int) := by omega
        have hKi : 4 + (K : Int) < (xs.length : Int) + 10 := by omega
        clear hset hbad
        have hlist := listP_turned (l := qs.texts) (fun b hb => by have := HS2.out b hb; omega) HBad.out
        have HList := Hid_mk hlist
        generalize (framed xs).getD (4 + K) 0 = old at *
        generalize hold : (old.toNat : Int) = oldz at *
        have HY := Hid_mk hy
        have hwr : IntKind.u8.wrap (IntKind.i64.wrap (1 + (J : Int))) = 1 + (J : Int) := by
          rw [IntWalk.i64_in _ (by omega)]
          simp only [IntKind.wrap, IntKind.bits, IntKind.signed]
          simp
          omega
        have HWr := Hid_mk hwr
        clear hp2 hJ hbs hne hold hlist hy hKi0 hKi hwr
        go_wp2
        have e4 : (4 : Int) + (K : Int) = ((4 + K : Nat) : Int) := by omega
        rw [e4]
        clear e4
        have hMi : ((4 + K : Nat) : Int) < (xs.length : Int) + 10 := by omega
        have hMi0 : (0 : Int) ≤ ((4 + K : Nat) : Int) := Int.natCast_nonneg _
        generalize 4 + K = M at *
        go_region_with (go_at_call 20; refine (HP2 _).out.mono ?_; rintro e w' ⟨rfl, rfl⟩)
        all_goals
          rw [HWr.out, HY.out, show (Value.int IntKind.u8 (y.toNat : Int)) = B y from rfl]
          have hset1 : Kp No w1 (w3.setCell ⟨g, M, none⟩ (B y)).drew := ((HK3.out.setCell (p := ⟨g, M, none⟩) (fun hlt => by simp only at hlt; omega) (B y))).drew
          have hfb : Bs (w3.setCell ⟨g, M, none⟩ (B y)).drew (.slice (some ⟨g, 0, none⟩) (xs.length + 10) cap2) ((framed xs).set M y) := bs_no HSet.out (Kp.refl No _).drew
          have hob : (w3.setCell ⟨g, M, none⟩ (B y)).drew.ownsRow w1.heap.size 5 1 _ (allF qs.texts).length ((allF qs.texts).map B) := owns_kept (S := fun k => k = g) HO3.out ⟨rfl, rfl, rfl, by simp [World.setCell], fun k hk hn => Below.heap_setCell _ _ _ _ hn⟩ fun k hk e => by
            subst e
            have := (HO.out.lt k hk).2
            omega
          have HSet1 := Hid_mk hset1
          have HFb := Hid_mk hfb
          have HOb := Hid_mk (owns_bs hob)
          have hzs := hset1.size
          clear hset1 hfb hob hcell hwarm
          generalize (w3.setCell ⟨g, M, none⟩ (B y)).drew = w4 at *
          go_wp2_with (at_builtin; (refine wpList_append_bs _ rfl _ _ rfl w4.heap.size _ [] rfl (World.ownsRow_made w4 #[] 0 (Nat.le_refl _) (by decide) rfl) _ (allF qs.texts) rfl (bs_no HOb.out ((Kp.refl No w4).alloc _)) ?e1 ?e2 ?_))
          case e1 => simp; omega
          case e2 => simp
          intro v5 w5 happ
          have HK5 := Hid_mk (((HSet1.out.alloc _).grown happ.2.1 fun k hk e => by simp [Value.ownBlock] at e; omega : Kp No w1 w5))
          have hk45 : Kp No w4 w5 := ((Kp.refl No w4).alloc _).grown happ.2.1 fun k hk e => by simp [Value.ownBlock] at e; omega
          have HO5 := Hid_mk (show w5.ownsRow w4.heap.size 5 1 v5 (allF qs.texts).length ((allF qs.texts).map B) by simpa using happ.1)
          have HFb5 := Hid_mk (bs_no HFb.out hk45)
          have hz5 := hk45.size
          clear happ hk45
          go_wp2_with (at_builtin; (refine wpList_append_bs _ rfl _ _ rfl w4.heap.size _ (allF qs.texts) rfl HO5.out _ ((framed xs).set M y) rfl HFb5.out ?f1 hz5 ?_))
          case f1 => rw [List.length_set, HFl.out]; omega
          intro v6 w6 happ
          have HK6 := Hid_mk (HK5.out.grown happ.2.1 fun k hk e => by have := (HO5.out.lt k e).1; omega)
          have hb6 := owns_bs happ.1
          have hlen6 : (allF qs.texts ++ (framed xs).set M y).length ≤ 1000000000000 := by rw [List.length_append, List.length_set, HFl.out]; omega
          have hli := list_any w6 v6 _ hb6 hlen6
          rw [HList.out] at hli
          have HLi := Hid_mk hli
          obtain ⟨a6, l6, c6, rfl⟩ : ∃ a l c, v6 = .slice a l c := by obtain ⟨a, c, e, -⟩ := hb6; exact ⟨_, _, _, e⟩
          clear happ hb6 hlen6 hli
          go_wp2_with fail
          with_reducible refine HLi.out.mono ?_
          rintro e w7 ⟨v7, rs, rfl, hlo7, htx7, hk7⟩
          have HSame := Hid_mk (same_any w7 v7 (.slice a1 qs.length c1) rs qs hlo7.ls (HLs.out.no (HK6.out.trans' hk7)) htx7)
          have HK7 := Hid_mk (HK6.out.trans' hk7)
          clear hlo7 htx7 hk7
          obtain ⟨ab, cb, hbe, -⟩ := owns_bs HO.out
          rw [hbe]
          clear hbe
          go_wp2_with fail
          with_reducible refine HSame.out.mono ?_
          rintro e w8 ⟨rfl, hk8⟩
          have HK8 := Hid_mk (HK1.out.trans' (HK7.out.trans' hk8))
          clear hk8
          go_wp2
          go_ret
          exact ⟨rfl, HK8.out⟩

end Go.Proofs.Ytbhhmbbldbgdnaa.frm
