/- tailracelaw3.same: two lists of the same texts are the same. -/
import Derived.Test.YtbhhmbbldbgdnaaShort
import Derived.Test.YtbhhmbbldbgdnaaKnown0
namespace Go.Proofs.Ytbhhmbbldbgdnaa.lst
open Go.RowKit Go.Proofs.Ytbhhmbbldbgdnaa.sum Go.Proofs.Ytbhhmbbldbgdnaa.kept Go.Proofs.Ytbhhmbbldbgdnaa.app Go.Proofs.Ytbhhmbbldbgdnaa.writer Go.Proofs.Ytbhhmbbldbgdnaa.clone Go.Proofs.Ytbhhmbbldbgdnaa.unseal Go.Proofs.Ytbhhmbbldbgdnaa.known
set_option linter.unusedVariables false

def SameRel (w : World) (n : Nat) (i : Value) (wr : World) : Prop := ∃ (k : Nat), k ≤ n ∧ i = .int .i64 k ∧ Kp No w wr

set_option maxRecDepth 100000 in
set_option maxHeartbeats 4000000 in
theorem same_any (w : World) (v v2 : Value) (ps qs : Els) (h : Ls w v ps) (h2 : Ls w v2 qs) (he : ps.texts = qs.texts) :
    Calls Try.prog 28 #[v, v2] w fun e w' => e = .returned (.bool true) ∧ Kp No w w' := by
  have hlen : ps.length = qs.length := by rw [← texts_length ps, he, texts_length]
  obtain ⟨⟨a, cap, rfl, h1, hm, h3⟩, h4⟩ := id h
  obtain ⟨⟨a2, cap2, rfl, k1, k2, k3⟩, k4⟩ := id h2
  rw [← hlen] at k1
  have H := Hid_mk h
  have H2 := Hid_mk h2
  have HE := Hid_mk he
  have HLen := Hid_mk hlen
  have hlq : qs.length = ps.length := hlen.symm
  rw [hlq]
  unfold maxLen at hm
  clear h h2 h3 h4 k3 k4 he hlen hlq
  go_enter Try.func28, Try.ntmps28
  go_wp2
  go_loopw [5] (fun i wr => SameRel w ps.length i wr) (fun i _ => ps.length - (intOf i).toNat)
  case atStart => exact ⟨0, Nat.zero_le _, rfl, Kp.refl _ _⟩
  case round =>
    obtain ⟨k, hk, rfl, hkp⟩ := hrel
    have HKp := Hid_mk hkp
    clear hkp
    by_cases hlt : k < ps.length
    · have hlt2 : k < qs.length := by rw [← HLen.out]; exact hlt
      obtain ⟨⟨a', cap', e, -, -, g3⟩, g4⟩ := H.out.no HKp.out.drew
      simp only [Value.slice.injEq] at e
      obtain ⟨rfl, -, rfl⟩ := e
      obtain ⟨b, o, rfl, hcell⟩ := g3 (by intro e; rw [e] at hlt; simp at hlt)
      obtain ⟨⟨a', cap', e, -, -, m3⟩, m4⟩ := H2.out.no HKp.out.drew
      simp only [Value.slice.injEq] at e
      obtain ⟨rfl, -, rfl⟩ := e
      obtain ⟨b2, o2, rfl, hcell2⟩ := m3 (by intro e; rw [e] at hlt2; simp at hlt2)
      have hc := hcell k hlt
      have hc2 := hcell2 k hlt2
      have hb := g4 ps[k] (List.getElem_mem hlt)
      have hb2 := m4 qs[k] (List.getElem_mem hlt2)
      have hee : ps[k].2 = qs[k].2 := by
        have e1 : ps.texts[k]'(by rw [texts_length]; exact hlt) = qs.texts[k]'(by rw [texts_length]; exact hlt2) := by simp only [HE.out]
        simpa [Els.texts] using e1
      rw [← hee] at hb2
      obtain ⟨q, hq⟩ : ∃ q, ps[k] = q := ⟨_, rfl⟩
      obtain ⟨q2, hq2⟩ : ∃ q2, qs[k] = q2 := ⟨_, rfl⟩
      rw [hq] at hc hb hb2
      rw [hq2] at hc2 hb2
      obtain ⟨x, bs⟩ := q
      obtain ⟨x2, bs2⟩ := q2
      simp only at hc hb hc2 hb2
      have hv := conv_bs hb
      have hv2 := conv_bs hb2
      obtain ⟨ax, capx, rfl, -⟩ := id hb
      obtain ⟨ax2, capx2, rfl, -⟩ := id hb2
      have hki : (k : Int) < (ps.length : Int) := by omega
      have hki0 : (0 : Int) ≤ (k : Int) := Int.natCast_nonneg _
      clear g3 g4 m3 m4 hcell hcell2 hb hb2 hee hq hq2
      go_wp2
      go_region_held3 (fun W => W.cell? ⟨b, o + k, none⟩ = some (.slice ax bs.length capx) ∧ W.cell? ⟨b2, o2 + k, none⟩ = some (.slice ax2 bs.length capx2) ∧
          (convert 30 9 (.slice ax bs.length capx)).run Try.prog W = .ok (.string ⟨bs.toArray⟩) W ∧ (convert 30 9 (.slice ax2 bs.length capx2)).run Try.prog W = .ok (.string ⟨bs.toArray⟩) W) (first | (dsimp only; exact ⟨hc, hc2, hv, hv2⟩) | go_keep) (fail)
      all_goals
        go_wp2
        go_roundw
        case rel => exact ⟨k + 1, hlt, by go_num, HKp.out.drew⟩
        case measure => simp [intOf]; omega
    · have hki : ¬ (k : Int) < (ps.length : Int) := by omega
      go_wp2
      go_ret
      exact ⟨rfl, HKp.out⟩

end Go.Proofs.Ytbhhmbbldbgdnaa.lst
