/- FrameBack: the law's walk. -/
import Derived.Test.YtbhhmbbldbgdnaaFrameKnown3
namespace Go.Proofs.Ytbhhmbbldbgdnaa.frm
open Go.RowKit Go.Proofs.Ytbhhmbbldbgdnaa.sum Go.Proofs.Ytbhhmbbldbgdnaa.kept Go.Proofs.Ytbhhmbbldbgdnaa.app Go.Proofs.Ytbhhmbbldbgdnaa.writer Go.Proofs.Ytbhhmbbldbgdnaa.clone Go.Proofs.Ytbhhmbbldbgdnaa.known Go.Proofs.Ytbhhmbbldbgdnaa.fl Go.Proofs.Ytbhhmbbldbgdnaa.seal Go.Proofs.Ytbhhmbbldbgdnaa.unseal Go.Proofs.Ytbhhmbbldbgdnaa.lst
set_option linter.unusedVariables false

theorem short_small {m n : Nat} {l : List (List UInt8)} : (shortL m n l).length ≤ m ∧ ∀ b ∈ shortL m n l, b.length ≤ n := by
  unfold shortL
  constructor
  · simp; omega
  · intro b hb
    obtain ⟨c, _, rfl⟩ := List.mem_map.1 hb
    simp; omega

theorem allF_len {l : List (List UInt8)} {n : Nat} (h : ∀ b ∈ l, b.length ≤ n) (hn : n ≤ 4194304) : (allF l).length ≤ l.length * (n + 10) := by
  induction l with
  | nil => simp [allF]
  | cons b l ih =>
    have hb := h b (by simp)
    have := ih fun c hc => h c (by simp [hc])
    rw [allF_cons, List.length_append, framed_len (by omega), List.length_cons, Nat.add_mul]
    omega

/-- element k of a list that is read at whatever later world -/
theorem Ls.at {w : World} {a : Option Addr} {len cap : Nat} {ps : Els} (h : Ls w (.slice a len cap) ps) {k : Nat} (hk : k < ps.length) :
    ∃ b o x bs, a = some ⟨b, o, none⟩ ∧ len = ps.length ∧ len ≤ cap ∧ (x, bs) ∈ ps ∧ ps.texts[k]? = some bs ∧ b < w.heap.size ∧ ∀ w', Kp No w w' → w'.cell? ⟨b, o + k, none⟩ = some x ∧ Bs w' x bs := by
  obtain ⟨⟨a', cap', e, h1, h2, h3⟩, h4⟩ := h
  simp only [Value.slice.injEq] at e
  obtain ⟨rfl, rfl, rfl⟩ := e
  obtain ⟨b, o, rfl, hc⟩ := h3 (by intro e; rw [e] at hk; simp at hk)
  have hmem : ps[k] ∈ ps := List.getElem_mem hk
  have hlt := World.block_lt_of_cell? w _ (hc k hk)
  refine ⟨b, o, ps[k].1, ps[k].2, rfl, rfl, h1, hmem, ?_, hlt, fun w' hk' => ⟨hk'.cell' (hc k hk) id, bs_no (h4 _ hmem) hk'⟩⟩
  simp [Els.texts, hk]

def BackRel (base : Nat) (l : List (List UInt8)) (w1 : World) (v i : Value) (wr : World) : Prop :=
  ∃ k : Nat, k ≤ l.length ∧ i = .int .i64 k ∧ wr.ownsRow base 5 1 v (allF (l.take k)).length ((allF (l.take k)).map B) ∧ Kp No w1 wr

theorem take_next {l : List (List UInt8)} {k : Nat} {b : List UInt8} (h : l[k]? = some b) : l.take (k + 1) = l.take k ++ [b] := by
  have hk : k < l.length := (List.getElem?_eq_some_iff.1 h).1
  have he := (List.getElem?_eq_some_iff.1 h).2
  rw [List.take_succ_eq_append_getElem hk, he]

set_option maxRecDepth 100000 in
set_option maxHeartbeats 4000000 in
theorem back_any (w : World) (v : Value) (ps : Els) (h : Ls w v ps) :
    Calls Try.prog 9 #[v] w fun e w' => e = .returned (.bool true) ∧ Kp No w w' := by
  have HS := Hid_mk (short_lit w v ps 50 2000 50 2000 h (by omega) (by omega) rfl rfl)
  obtain ⟨⟨a, cap, rfl, -⟩, -⟩ := id h
  clear h
  go_enter Try.func9, Try.ntmps9
  go_wp2_with fail
  with_reducible refine HS.out.mono ?_
  rintro e w1 ⟨v1, qs, rfl, hlo, htx, hk1⟩
  obtain ⟨hs1, hs2⟩ := short_small (m := 50) (n := 2000) (l := ps.texts)
  rw [← htx] at hs1 hs2
  rw [texts_length] at hs1
  obtain ⟨⟨a1, c1, rfl, hc1, hc2, -⟩, -⟩ := id hlo.ls
  unfold maxLen at hc2
  have HLs := Hid_mk hlo.ls
  have HLo := Hid_mk hlo
  have HK1 := Hid_mk hk1
  have HS2 := Hid_mk hs2
  have hz1 := hk1.size
  clear hlo htx hk1 hs2 HS
  go_wp2
  go_loopw [3, 4] (fun v i wr => BackRel w1.heap.size qs.texts w1 v i wr) (fun _ i _ => qs.length - (intOf i).toNat)
  case atStart => exact ⟨0, Nat.zero_le _, rfl, World.ownsRow_nil _ _ _ _, Kp.refl _ _⟩
  case round =>
    obtain ⟨k, hk, rfl, ho, hkp⟩ := hrel
    rw [texts_length] at hk
    have HKp := Hid_mk hkp
    have hzr := hkp.size
    by_cases hlt : k < qs.length
    · obtain ⟨b, o, x, bs, e1, e2, -, hmem, hget, hb0, hcell⟩ := Ls.at HLs.out hlt
      obtain rfl := e1
      have hbl : bs.length ≤ 2000 := HS2.out bs (List.mem_map.2 ⟨_, hmem, rfl⟩)
      obtain ⟨hc, hbb⟩ := hcell wr hkp
      have HNext := Hid_mk (take_next hget)
      have hal : (allF (qs.texts.take k)).length ≤ 50 * 2010 := by
        have h1 := allF_len (l := qs.texts.take k) (n := 2000) (fun b hb => HS2.out b (List.mem_of_mem_take hb)) (by omega)
        have h2 : (qs.texts.take k).length ≤ 50 := by rw [List.length_take, texts_length]; omega
        have h3 : (qs.texts.take k).length * 2010 ≤ 50 * 2010 := Nat.mul_le_mul_right _ h2
        omega
      have HO := Hid_mk ho
      have HCell := Hid_mk hcell
      obtain ⟨ax, cx, rfl, -⟩ := id hbb
      have HF := Hid_mk (frame_any wr _ bs hbb)
      have hfl := framed_len (bs := bs) (by omega)
      have HFl := Hid_mk hfl
      have hki : (k : Int) < (qs.length : Int) := by omega
      have hki0 : (0 : Int) ≤ (k : Int) := Int.natCast_nonneg _
      clear hcell hkp ho hmem hget hbb hfl e2
      go_wp2_with fail
      with_reducible refine HF.out.mono ?_
      rintro e w2 ⟨v2, rfl, ho2, hk2⟩
      have HB2 := Hid_mk (owns_bs ho2)
      obtain ⟨a2, c2, rfl, -⟩ := id HB2.out
      have hc2 := hk2.cell' hc id
      have HK2 := Hid_mk (HKp.out.trans' hk2)
      have HO2 := Hid_mk (owns_kept HO.out hk2 fun _ _ => id)
      have hz2 := hk2.size
      rw [HFl.out] at HB2 ⊢
      clear ho2 hk2 hc
      go_wp2_with (at_builtin; (refine wpList_append_bs _ rfl _ _ rfl w1.heap.size _ (allF (qs.texts.take k)) rfl HO2.out _ (framed bs) rfl HB2.out ?c1 ?c2 ?_))
      case c1 => rw [HFl.out]; omega
      case c2 => omega
      intro v3 w3 happ
      have hrel : BackRel w1.heap.size qs.texts w1 v3 (.int .i64 ((k + 1 : Nat) : Int)) w3 := ⟨k + 1, by rw [texts_length]; exact hlt, rfl, by rw [HNext.out, allF_snoc]; exact happ.1, HK2.out.grown happ.2.1 fun i hi e => by have := (HO2.out.lt i e).1; omega⟩
      have HRel := Hid_mk hrel
      clear hrel happ
      go_wp2
      go_roundw
      case rel => exact HRel.out
      case measure => simp [intOf]; omega
    · have hki : ¬ (k : Int) < (qs.length : Int) := by omega
      have hkk : k = qs.length := by omega
      have htk : qs.texts.take k = qs.texts := List.take_of_length_le (by rw [texts_length]; omega)
      rw [htk] at ho
      have hal : (allF qs.texts).length ≤ 50 * 2010 := by
        have h1 := allF_len (l := qs.texts) (n := 2000) HS2.out (by omega)
        have h2 : qs.texts.length ≤ 50 := by rw [texts_length]; omega
        have h3 : qs.texts.length * 2010 ≤ 50 * 2010 := Nat.mul_le_mul_right _ h2
        omega
      have HB := Hid_mk (owns_bs ho)
      have hlp := listP_all qs.texts (fun b hb => by have := HS2.out b hb; omega) []
      rw [listP_nil, List.append_nil] at hlp
      simp only [List.append_nil, Nat.add_zero] at hlp
      have HL := Hid_mk (list_any wr _ _ HB.out (by omega))
      rw [hlp] at HL
      obtain ⟨a3, c3, rfl, -⟩ := id HB.out
      clear htk ho hlp hkp hkk
      go_wp2_with fail
      with_reducible refine HL.out.mono ?_
      rintro e w4 ⟨v4, rs, rfl, hlo4, htx4, hk4⟩
      have HLs4 := Hid_mk hlo4.ls
      have HK4 := Hid_mk (HKp.out.trans' hk4)
      have HTx4 := Hid_mk htx4
      clear hlo4 htx4 hk4
      simp only
      go_wp2_with fail
      with_reducible refine (known_any w4).mono ?_
      rintro e w5 ⟨rfl, hk5⟩
      have HSame := Hid_mk (same_any w5 v4 (.slice a1 qs.length c1) rs qs (HLs4.out.no hk5) (HLs.out.no (HK4.out.trans' hk5)) HTx4.out)
      have HK5 := Hid_mk (HK4.out.trans' hk5)
      clear hk5
      go_wp2_with fail
      with_reducible refine HSame.out.mono ?_
      rintro e w6 ⟨rfl, hk6⟩
      have HK6 := Hid_mk (HK1.out.trans' (HK5.out.trans' hk6))
      clear hk6
      go_wp2
      go_ret
      exact ⟨rfl, HK6.out⟩

end Go.Proofs.Ytbhhmbbldbgdnaa.frm
