/- The reference's Same: two trees compared, by recursion. -/
import Derived.Test.YtdognehkbahmdaaRefTree
namespace Go.Proofs.Ytdognehkbahmdaa.tre
open Go.RowKit Go.Proofs.Ytdognehkbahmdaa.sum Go.Proofs.Ytdognehkbahmdaa.kept Go.Proofs.Ytdognehkbahmdaa.pop Go.Proofs.Ytdognehkbahmdaa.cls
set_option linter.unusedVariables false

def eqB (f g : Nat → Bool) : Bool := wd f 0 64 == wd g 0 64 && wd f 64 64 == wd g 64 64 && wd f 128 64 == wd g 128 64 && wd f 192 64 == wd g 192 64
mutual
def sameS : Tr → Tr → Bool
  | .mk k f l, .mk k' f' l' => decide (k = k') && eqB f f' && decide (l.length = l'.length) && sameL l l'
def sameL : List Tr → List Tr → Bool
  | t :: l, t' :: l' => sameS t t' && sameL l l'
  | _, _ => true
end
theorem sameL_drop (l l' : List Tr) (j : Nat) (h : j < l.length) (h' : j < l'.length) : sameL (l.drop j) (l'.drop j) = (sameS l[j] l'[j] && sameL (l.drop (j + 1)) (l'.drop (j + 1))) := by
  rw [List.drop_eq_getElem_cons h, List.drop_eq_getElem_cons h', sameL]
theorem eq_sets (f g : Nat → Bool) (W : World) : (Op.equalIn 10000 24 (.agg #[.int .u64 (wd f 0 64 : Nat), .int .u64 (wd f 64 64 : Nat), .int .u64 (wd f 128 64 : Nat), .int .u64 (wd f 192 64 : Nat)]) (.agg #[.int .u64 (wd g 0 64 : Nat), .int .u64 (wd g 64 64 : Nat), .int .u64 (wd g 128 64 : Nat), .int .u64 (wd g 192 64 : Nat)])).run Try.prog W = .ok (eqB f g) W := by
  rw [eq_set]
  unfold eqB
  have e : ∀ n m : Nat, ((n : Int) == (m : Int)) = (n == m) := fun n m => by
    rw [Bool.eq_iff_iff]
    simp only [beq_iff_eq]
    omega
  simp only [e]
def SmRel (w : World) (l l' : List Tr) (i : Value) (wr : World) : Prop :=
  ∃ j : Nat, j ≤ l.length ∧ i = .int .i64 (j : Int) ∧ sameL (l.drop j) (l'.drop j) = sameL l l' ∧ Kp No w wr

set_option maxRecDepth 100000 in
set_option maxHeartbeats 4000000 in
theorem same_any {T : Nat → Prop} : ∀ (n : Nat) (t : Tr), t.size ≤ n → ∀ (t' : Tr) (w : World) (v v' : Value), ReV T w t v → ReV T w t' v' →
    Calls Try.prog 13 #[v, v'] w fun e w' => e = .returned (.bool (sameS t t')) ∧ Kp No w w' := by
  intro n
  induction n with
  | zero => intro t h; obtain ⟨k, f, l⟩ := t; simp only [Tr.size] at h; omega
  | succ n ih =>
    intro t hsz t' w v v' hv hv'
    obtain ⟨k, f, l⟩ := t
    obtain ⟨k', f', l'⟩ := t'
    simp only [Tr.size] at hsz
    obtain ⟨a, c, rfl, h1, h2, h3⟩ := hv
    obtain ⟨a', c', rfl, h1', h2', h3'⟩ := hv'
    have HIh := Hid_mk ih
    have HSz := Hid_mk hsz
    have H3 := Hid_mk h3
    have H3' := Hid_mk h3'
    obtain ⟨L, hL⟩ : ∃ L, l.length = L := ⟨_, rfl⟩
    obtain ⟨L', hL'⟩ : ∃ L, l'.length = L := ⟨_, rfl⟩
    have HLn := Hid_mk hL
    have HLn' := Hid_mk hL'
    have hsd : sameS (.mk k f l) (.mk k' f' l') = (decide (k = k') && eqB f f' && decide (L = L') && sameL l l') := by rw [sameS, hL, hL']
    rw [hsd]
    rw [hL] at h1
    rw [hL'] at h1'
    have hLi : (0 : Int) ≤ (L : Int) := Int.natCast_nonneg _
    obtain ⟨W0, hW0⟩ : ∃ W0, (w.alloc (.cells (cellsR k f a L c) 27)).alloc (.cells (cellsR k' f' a' L' c') 27) = W0 := ⟨_, rfl⟩
    obtain ⟨q, hq⟩ : ∃ q, w.heap.size = q := ⟨_, rfl⟩
    have HK0 : Hid (Kp No w W0) := Hid_mk (by rw [← hW0]; exact ((Kp.refl No w).alloc _).alloc _)
    have x : ∀ i u, (cellsR k f a L c)[i]? = some u → W0.cell? ⟨q, i, none⟩ = some u := fun i u h => by
      rw [← hW0, ← hq]
      refine ((Kp.refl No _).alloc _).cell' ?_ id
      simpa using h
    have x' : ∀ i u, (cellsR k' f' a' L' c')[i]? = some u → W0.cell? ⟨q + 1, i, none⟩ = some u := fun i u h => by
      rw [← hW0, ← hq]
      have := (show ((w.alloc (.cells (cellsR k f a L c) 27)).alloc (.cells (cellsR k' f' a' L' c') 27)).cell? ⟨(w.alloc (.cells (cellsR k f a L c) 27)).heap.size, i, none⟩ = (cellsR k' f' a' L' c')[i]? by simp)
      rw [← h, ← this]
      simp
    have c0 := x 0 _ rfl
    have c1 := x 1 _ rfl
    have c2 := x 2 _ rfl
    have c3 := x 3 _ rfl
    have c4 := x 4 _ rfl
    have c5 := x 5 _ rfl
    have d0 := x' 0 _ rfl
    have d1 := x' 1 _ rfl
    have d2 := x' 2 _ rfl
    have d3 := x' 3 _ rfl
    have d4 := x' 4 _ rfl
    have d5 := x' 5 _ rfl
    have hz := fun W => eq_sets f f' W
    have HW0 := Hid_mk hW0
    have HQ := Hid_mk hq
    unfold cellsR at HW0
    rw [hL, hL']
    clear ih hsz h3 h3' hL hL' hsd hW0 hq x x'
    go_enter Try.func13, Try.ntmps13
    unfold cellsR
    go_upto_region 1 with fail
    rw [HW0.out, HQ.out]
    clear HW0
    obtain ⟨z, hzz⟩ : ∃ z, eqB f f' = z := ⟨_, rfl⟩
    rw [hzz] at hz
    have HZ := Hid_mk hzz
    clear hzz
    by_cases hk : k = k'
    · have hkb : (k == k') = true := by simp [hk]
      have hkb2 : (k != k') = false := by simp [hk]
      have HKk := Hid_mk hk
      clear hk
      cases z with
      | false =>
        go_wp2
        go_ret
        exact ⟨by rw [HZ.out]; simp, HK0.out⟩
      | true =>
        by_cases hlen : L = L'
        · have hlb : ((L : Int) == (L' : Int)) = true := by simp [hlen]
          have hlb2 : ((L : Int) != (L' : Int)) = false := by simp [hlen]
          have HLen := Hid_mk hlen
          clear hlen
          go_wp2
          go_loopw [5] (fun i wr => SmRel W0 l l' i wr) (fun i _ => L - (intOf i).toNat)
          case atStart => exact ⟨0, Nat.zero_le _, rfl, rfl, Kp.refl _ _⟩
          case round =>
            obtain ⟨j, hj, rfl, he, hkp⟩ := hrel
            rw [HLn.out] at hj
            have HKp := Hid_mk hkp
            have HE := Hid_mk he
            have y5 := hkp.cell' c5 id
            have z5 := hkp.cell' d5 id
            have hj0 : (0 : Int) ≤ (j : Int) := Int.natCast_nonneg _
            by_cases hlt : j < L
            · have hji : (j : Int) < (L : Int) := by omega
              have hji' : (j : Int) < (L' : Int) := by have := HLen.out; omega
              have hjl : j < l.length := by rw [HLn.out]; exact hlt
              have hjl' : j < l'.length := by rw [HLn'.out, ← HLen.out]; exact hlt
              have hwi : IntKind.i64.wrap ((j : Int) + 1) = (j : Int) + 1 := IntWalk.i64_in _ (by omega)
              have hd := sameL_drop l l' j hjl hjl'
              rw [he] at hd
              obtain ⟨b, o, rfl, -, hr⟩ := H3.out (by intro e; rw [e] at hjl; simp at hjl)
              obtain ⟨b', o', rfl, -, hr'⟩ := H3'.out (by intro e; rw [e] at hjl'; simp at hjl')
              have hr1 := ReL.no (HK0.out.trans' hkp) b o l hr
              have hr1' := ReL.no (HK0.out.trans' hkp) b' o' l' hr'
              obtain ⟨k2, f2, a2, n2, cc2, g0, g1, g2, g3, g4, g5, hv2⟩ := hr1.get j hjl
              obtain ⟨k3, f3, a3, n3, cc3, e0, e1, e2, e3, e4, e5, hv3⟩ := hr1'.get j hjl'
              have hsz2 := size_get l j hjl
              obtain ⟨B, hB⟩ : ∃ B, sameS l[j] l'[j] = B := ⟨_, rfl⟩
              rw [hB] at hd
              have HD := Hid_mk hd
              have HCn : Hid (∀ W, Kp No wr W → Calls Try.prog 13 #[.agg (cellsR k2 f2 a2 n2 cc2), .agg (cellsR k3 f3 a3 n3 cc3)] W fun e w' => e = .returned (.bool B) ∧ Kp No W w') := Hid_mk fun W hW => by
                rw [← hB]
                exact HIh.out l[j] (by have := HSz.out; omega) l'[j] W _ _ (ReV.no hW _ _ hv2) (ReV.no hW _ _ hv3)
              unfold cellsR at HCn
              have hS : (fun V : World => V.cell? ⟨q, 5, none⟩ = some (.slice (some ⟨b, o, none⟩) L c) ∧ V.cell? ⟨q + 1, 5, none⟩ = some (.slice (some ⟨b', o', none⟩) L' c') ∧ V.cell? ⟨b, o + j * 6, none⟩ = some (.int .i64 k2) ∧ V.cell? ⟨b, o + j * 6 + 1, none⟩ = some (.int .u64 (wd f2 0 64 : Nat)) ∧ V.cell? ⟨b, o + j * 6 + 2, none⟩ = some (.int .u64 (wd f2 64 64 : Nat)) ∧ V.cell? ⟨b, o + j * 6 + 3, none⟩ = some (.int .u64 (wd f2 128 64 : Nat)) ∧ V.cell? ⟨b, o + j * 6 + 4, none⟩ = some (.int .u64 (wd f2 192 64 : Nat)) ∧ V.cell? ⟨b, o + j * 6 + 5, none⟩ = some (.slice a2 n2 cc2) ∧ V.cell? ⟨b', o' + j * 6, none⟩ = some (.int .i64 k3) ∧ V.cell? ⟨b', o' + j * 6 + 1, none⟩ = some (.int .u64 (wd f3 0 64 : Nat)) ∧ V.cell? ⟨b', o' + j * 6 + 2, none⟩ = some (.int .u64 (wd f3 64 64 : Nat)) ∧ V.cell? ⟨b', o' + j * 6 + 3, none⟩ = some (.int .u64 (wd f3 128 64 : Nat)) ∧ V.cell? ⟨b', o' + j * 6 + 4, none⟩ = some (.int .u64 (wd f3 192 64 : Nat)) ∧ V.cell? ⟨b', o' + j * 6 + 5, none⟩ = some (.slice a3 n3 cc3)) wr := ⟨y5, z5, g0, g1, g2, g3, g4, g5, e0, e1, e2, e3, e4, e5⟩
              have HS := Hid_mk fun W (hW : Kp No wr W) => (⟨hW.cell' hS.1 id, hW.cell' hS.2.1 id, hW.cell' hS.2.2.1 id, hW.cell' hS.2.2.2.1 id, hW.cell' hS.2.2.2.2.1 id, hW.cell' hS.2.2.2.2.2.1 id, hW.cell' hS.2.2.2.2.2.2.1 id, hW.cell' hS.2.2.2.2.2.2.2.1 id, hW.cell' hS.2.2.2.2.2.2.2.2.1 id, hW.cell' hS.2.2.2.2.2.2.2.2.2.1 id, hW.cell' hS.2.2.2.2.2.2.2.2.2.2.1 id, hW.cell' hS.2.2.2.2.2.2.2.2.2.2.2.1 id, hW.cell' hS.2.2.2.2.2.2.2.2.2.2.2.2.1 id, hW.cell' hS.2.2.2.2.2.2.2.2.2.2.2.2.2 id⟩ : (fun V : World => V.cell? ⟨q, 5, none⟩ = some (.slice (some ⟨b, o, none⟩) L c) ∧ V.cell? ⟨q + 1, 5, none⟩ = some (.slice (some ⟨b', o', none⟩) L' c') ∧ V.cell? ⟨b, o + j * 6, none⟩ = some (.int .i64 k2) ∧ V.cell? ⟨b, o + j * 6 + 1, none⟩ = some (.int .u64 (wd f2 0 64 : Nat)) ∧ V.cell? ⟨b, o + j * 6 + 2, none⟩ = some (.int .u64 (wd f2 64 64 : Nat)) ∧ V.cell? ⟨b, o + j * 6 + 3, none⟩ = some (.int .u64 (wd f2 128 64 : Nat)) ∧ V.cell? ⟨b, o + j * 6 + 4, none⟩ = some (.int .u64 (wd f2 192 64 : Nat)) ∧ V.cell? ⟨b, o + j * 6 + 5, none⟩ = some (.slice a2 n2 cc2) ∧ V.cell? ⟨b', o' + j * 6, none⟩ = some (.int .i64 k3) ∧ V.cell? ⟨b', o' + j * 6 + 1, none⟩ = some (.int .u64 (wd f3 0 64 : Nat)) ∧ V.cell? ⟨b', o' + j * 6 + 2, none⟩ = some (.int .u64 (wd f3 64 64 : Nat)) ∧ V.cell? ⟨b', o' + j * 6 + 3, none⟩ = some (.int .u64 (wd f3 128 64 : Nat)) ∧ V.cell? ⟨b', o' + j * 6 + 4, none⟩ = some (.int .u64 (wd f3 192 64 : Nat)) ∧ V.cell? ⟨b', o' + j * 6 + 5, none⟩ = some (.slice a3 n3 cc3)) W)
              have hS1 := HS.out wr.drew (Kp.refl No wr).drew
              clear hkp he hd hr hr' hr1 hr1' hv2 hv3 hsz2 hB hS z5 g0 g1 g2 g3 g4 g5 e0 e1 e2 e3 e4 e5
              go_wp2_with fail
              go_region_held3 (fun V : World => V.cell? ⟨q, 5, none⟩ = some (.slice (some ⟨b, o, none⟩) L c) ∧ V.cell? ⟨q + 1, 5, none⟩ = some (.slice (some ⟨b', o', none⟩) L' c') ∧ V.cell? ⟨b, o + j * 6, none⟩ = some (.int .i64 k2) ∧ V.cell? ⟨b, o + j * 6 + 1, none⟩ = some (.int .u64 (wd f2 0 64 : Nat)) ∧ V.cell? ⟨b, o + j * 6 + 2, none⟩ = some (.int .u64 (wd f2 64 64 : Nat)) ∧ V.cell? ⟨b, o + j * 6 + 3, none⟩ = some (.int .u64 (wd f2 128 64 : Nat)) ∧ V.cell? ⟨b, o + j * 6 + 4, none⟩ = some (.int .u64 (wd f2 192 64 : Nat)) ∧ V.cell? ⟨b, o + j * 6 + 5, none⟩ = some (.slice a2 n2 cc2) ∧ V.cell? ⟨b', o' + j * 6, none⟩ = some (.int .i64 k3) ∧ V.cell? ⟨b', o' + j * 6 + 1, none⟩ = some (.int .u64 (wd f3 0 64 : Nat)) ∧ V.cell? ⟨b', o' + j * 6 + 2, none⟩ = some (.int .u64 (wd f3 64 64 : Nat)) ∧ V.cell? ⟨b', o' + j * 6 + 3, none⟩ = some (.int .u64 (wd f3 128 64 : Nat)) ∧ V.cell? ⟨b', o' + j * 6 + 4, none⟩ = some (.int .u64 (wd f3 192 64 : Nat)) ∧ V.cell? ⟨b', o' + j * 6 + 5, none⟩ = some (.slice a3 n3 cc3))
                (first | exact hS1 | (dsimp only; exact hS1))
                (first | (go_at_call 13; with_reducible refine (HCn.out wr.drew (Kp.refl No wr).drew).mono ?_; rintro e w1 ⟨rfl, k1⟩; have HK1 := Hid_mk ((Kp.refl No wr).drew.trans' k1); replace hS1 := HS.out w1 HK1.out; clear k1))
              all_goals
                cases B with
                | false =>
                  go_wp2
                  go_ret
                  exact ⟨by rw [HD.out]; simp, HK0.out.trans' (HKp.out.trans' HK1.out)⟩
                | true =>
                  go_wp2
                  go_roundw
                  case rel => exact ⟨j + 1, by rw [HLn.out]; omega, by push_cast; rfl, by rw [HD.out]; simp, HKp.out.trans' HK1.out⟩
                  case measure => simp only [intOf]; omega
            · obtain rfl : j = L := by omega
              have hji : ¬ ((j : Int) < (j : Int)) := by omega
              have hend : sameL l l' = true := by
                have h := HE.out
                rw [← HLn.out, List.drop_length] at h
                rw [← h]
                rfl
              have HEnd := Hid_mk hend
              clear hend he
              go_wp2
              go_ret
              exact ⟨by rw [HZ.out, HEnd.out, decide_eq_true HKk.out, decide_eq_true HLen.out]; first | rfl | simp, HK0.out.trans' HKp.out⟩
        · have hlb : ((L : Int) == (L' : Int)) = false := by rw [beq_eq_false_iff_ne]; omega
          have hlb2 : ((L : Int) != (L' : Int)) = true := by simp; omega
          have HLen := Hid_mk hlen
          clear hlen
          go_wp2
          go_ret
          exact ⟨by rw [decide_eq_false HLen.out]; simp, HK0.out⟩
    · have hkb : (k == k') = false := by rw [beq_eq_false_iff_ne]; exact hk
      have hkb2 : (k != k') = true := by simp [hk]
      have HKk := Hid_mk hk
      clear hk
      go_wp2
      go_ret
      exact ⟨by rw [decide_eq_false HKk.out]; simp, HK0.out⟩

end Go.Proofs.Ytdognehkbahmdaa.tre
