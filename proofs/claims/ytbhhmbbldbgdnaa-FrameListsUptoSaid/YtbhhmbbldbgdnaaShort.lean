/- tailracehand.Short: parts of at most n bytes, at most m of them. -/
import Derived.Test.YtbhhmbbldbgdnaaLst
import Derived.Test.YtbhhmbbldbgdnaaTurned
namespace Go.Proofs.Ytbhhmbbldbgdnaa.lst
open Go.RowKit Go.Proofs.Ytbhhmbbldbgdnaa.sum Go.Proofs.Ytbhhmbbldbgdnaa.kept Go.Proofs.Ytbhhmbbldbgdnaa.app Go.Proofs.Ytbhhmbbldbgdnaa.writer Go.Proofs.Ytbhhmbbldbgdnaa.clone Go.Proofs.Ytbhhmbbldbgdnaa.unseal
set_option linter.unusedVariables false

def shortL (m n : Nat) (l : List (List UInt8)) : List (List UInt8) := (l.take m).map (·.take n)

def ShortRel (w : World) (ps : Els) (m n : Nat) (v i : Value) (wr : World) : Prop :=
  ∃ (k : Nat) (qs : Els), k ≤ ps.length ∧ k ≤ m ∧ i = .int .i64 k ∧ Lo wr w.heap.size v qs ∧ qs.texts = shortL k n ps.texts ∧ qs.length = k ∧ Kp No w wr

theorem short_next {ps qs : Els} {k n : Nat} (hk : k < ps.length) (h : qs.texts = shortL k n ps.texts) (x : Value) : Els.texts (qs ++ [(x, ps[k].2.take n)]) = shortL (k + 1) n ps.texts := by
  have e : Els.texts (qs ++ [(x, ps[k].2.take n)]) = qs.texts ++ [ps[k].2.take n] := by simp [Els.texts]
  rw [e, h]
  unfold shortL
  have hkl : k < ps.texts.length := by rw [texts_length]; exact hk
  rw [List.take_succ_eq_append_getElem hkl, List.map_append]
  simp [Els.texts]

set_option maxRecDepth 100000 in
set_option maxHeartbeats 4000000 in
theorem short_any (w : World) (v : Value) (ps : Els) (m n : Nat) (h : Ls w v ps) (hm : m ≤ 1000000) (hn : n ≤ 1000000) :
    Calls Try.prog 14 #[v, .int .i64 m, .int .i64 n] w (NewLs w (shortL m n ps.texts)) := by
  obtain ⟨⟨a, cap, rfl, h1, h2, h3⟩, h4⟩ := id h
  unfold maxLen at h2
  have H := Hid_mk h
  clear h h3 h4
  go_enter Try.func14, Try.ntmps14
  go_wp2
  go_loopw [7, 8] (fun v i wr => ShortRel w ps m n v i wr) (fun _ i _ => m - (intOf i).toNat)
  case atStart => exact ⟨0, [], Nat.zero_le _, Nat.zero_le _, rfl, Lo.nil _ _, rfl, rfl, Kp.refl _ _⟩
  case round =>
    obtain ⟨k, qs, hk, hkm, rfl, hlo, htx, hql, hkp⟩ := hrel
    have HLo := Hid_mk hlo
    have HKp := Hid_mk hkp
    have hws := hkp.size
    have HTx := Hid_mk htx
    have HQl := Hid_mk hql
    clear hlo hkp htx hql
    by_cases hlt : k < ps.length
    · by_cases hlm : k < m
      · obtain ⟨⟨a', cap', e, -, -, g3⟩, g4⟩ := H.out
        simp only [Value.slice.injEq] at e
        obtain ⟨rfl, -, rfl⟩ := e
        obtain ⟨b, o, rfl, hcell⟩ := g3 (by intro e; rw [e] at hlt; simp at hlt)
        have hc0 := hcell k hlt
        have hb0 := World.block_lt_of_cell? w _ hc0
        simp only at hb0
        have hc := HKp.out.cell' hc0 id
        have hb := bs_no (g4 ps[k] (List.getElem_mem hlt)) HKp.out
        have hnx := fun x => short_next (n := n) hlt HTx.out x
        obtain ⟨q, hq⟩ : ∃ q, ps[k] = q := ⟨_, rfl⟩
        rw [hq] at hc hb hnx
        obtain ⟨x, bs⟩ := q
        simp only at hc hb hnx
        have HNx := Hid_mk hnx
        obtain ⟨ax, capx, rfl, q1, q2, -⟩ := id hb
        unfold maxLen at q2
        have hbt := bs_take hb (min bs.length n) (Nat.min_le_left _ _)
        have HBt := Hid_mk hbt
        have hki : (k : Int) < (ps.length : Int) := by omega
        have hkmi : (k : Int) < (m : Int) := by omega
        clear g3 g4 hcell hb hq hnx hbt hc0
        have hki0 : (0 : Int) ≤ (k : Int) := Int.natCast_nonneg _
        have hl0 : (0 : Int) ≤ (bs.length : Int) := Int.natCast_nonneg _
        have hlc : (bs.length : Int) ≤ (capx : Int) := by omega
        have htk : bs.take (min bs.length n) = bs.take n := by
          rcases Nat.le_total bs.length n with h | h
          · rw [Nat.min_eq_left h, List.take_of_length_le (Nat.le_refl _), List.take_of_length_le h]
          · rw [Nat.min_eq_right h]
        obtain ⟨cs, hcs⟩ : ∃ cs, bs.take n = cs := ⟨_, rfl⟩
        have hcl : cs.length ≤ 1000000 := by rw [← hcs]; simp; omega
        rw [htk, hcs] at HBt
        rw [hcs] at HNx
        clear htk hcs
        by_cases hbn : bs.length ≤ n
        all_goals first
          | (rw [Nat.min_eq_left hbn] at HBt
             have hbni : ¬ (n : Int) < (bs.length : Int) := by omega
             have hbnn : ¬ n < bs.length := by omega
             clear hbn)
          | (rw [Nat.min_eq_right (by omega)] at HBt
             have hbni : (n : Int) < (bs.length : Int) := by omega
             have hbnn : n < bs.length := by omega
             have hn0 : (0 : Int) ≤ (n : Int) := Int.natCast_nonneg _
             have hnc : (n : Int) ≤ (capx : Int) := by omega
             clear hbn)
        all_goals
          go_wp2
          go_region_held3 (fun W => W.cell? ⟨b, o + k, none⟩ = some (.slice ax bs.length capx))
            (first
              | go_keep
              | (rw [happ.2.1.cell_far _ (by simp; omega) (by simp [Value.ownBlock]; omega)]; assumption)
              | (refine hpush.2.1.cell' (((Kp.refl No w1).alloc _).cell' hcw1 id) ?_; intro e; have := (HLo.out.row.lt b e.symm).1; omega))
            (first
              | (refine step_append_bs _ (by rfl) _ _ (by rfl) wr.heap.size _ [] (by rfl) ((World.ownsRow_made wr #[] 0 (Nat.le_refl _) (by decide) (by rfl)).drew) _ cs (by rfl) (bs_no HBt.out (((Kp.refl No wr).alloc _).drew)) (by simp; omega) (by simp) ?_; intro v1 w1 happ; obtain ⟨g1, c1, rfl, ho1'⟩ := app_new happ; have hk1 : Kp No wr w1 := (((Kp.refl No wr).alloc _).drew).grown happ.2.1 (fun i hi e => by simp [Value.ownBlock] at e; omega); have hcw1 := hk1.cell' hc id; have ho1 := owns_base ho1' hws; have hz1 := hk1.size; have HL1 := Hid_mk (HLo.out.no hk1))
              | (refine step_push _ (by rfl) _ _ (by rfl) w.heap.size _ qs (by rfl) (HL1.out.no ((Kp.refl No w1).alloc _)) (by simp; omega) _ cs (owns_kept ho1 ((Kp.refl No w1).alloc _) (fun _ _ => id)) w1.heap.size 1 (by rfl) (heap_alloc_new w1 _) (by have := HQl.out; omega) ?_; intro v2 w2 hpush))
          all_goals
            obtain ⟨hp1, hp2, hp3, g9, c9, rfl⟩ := hpush
            have hrel : ShortRel w ps m n (.slice (some ⟨g9, 0, none⟩) (qs.length + 1) c9) (.int .i64 ((k + 1 : Nat) : Int)) w2 := ⟨k + 1, _, hlt, by omega, rfl, hp1, HNx.out _, by simp [HQl.out], (HKp.out.trans' (hk1.alloc _)).trans hp2 fun i hi e => by have := (HLo.out.row.lt i e.symm).1; omega⟩
            have HRel := Hid_mk hrel
            clear hrel hp1 hp2 hp3 hk1 hcw1 ho1 happ
            go_wp2
            go_roundw
            case rel => exact HRel.out
            case measure => simp [intOf]; omega
      · have hkmi : ¬ (k : Int) < (m : Int) := by omega
        have hki : (k : Int) < (ps.length : Int) := by omega
        obtain rfl : k = m := by omega
        have hfin : NewLs w (shortL k n ps.texts) (.returned _) wr := ⟨_, qs, rfl, HLo.out, HTx.out, HKp.out⟩
        have HF := Hid_mk hfin
        clear hfin
        go_wp2
        go_ret
        exact HF.out
    · have hki : ¬ (k : Int) < (ps.length : Int) := by omega
      obtain rfl : k = ps.length := by omega
      have e : shortL ps.length n ps.texts = shortL m n ps.texts := by
        unfold shortL
        rw [List.take_of_length_le (by rw [texts_length]; omega), List.take_of_length_le (by rw [texts_length]; omega)]
      have hfin : NewLs w (shortL m n ps.texts) (.returned _) wr := ⟨_, qs, rfl, HLo.out, by rw [HTx.out, e], HKp.out⟩
      have HF := Hid_mk hfin
      clear hfin e
      go_wp2
      go_ret
      exact HF.out

theorem short_lit (w : World) (v : Value) (ps : Els) (m n : Nat) (M N : Int) (h : Ls w v ps) (hm : m ≤ 1000000) (hn : n ≤ 1000000) (hM : M = (m : Int)) (hN : N = (n : Int)) :
    Calls Try.prog 14 #[v, .int .i64 M, .int .i64 N] w (NewLs w (shortL m n ps.texts)) := by
  subst hM hN
  exact short_any w v ps m n h hm hn

end Go.Proofs.Ytbhhmbbldbgdnaa.lst
