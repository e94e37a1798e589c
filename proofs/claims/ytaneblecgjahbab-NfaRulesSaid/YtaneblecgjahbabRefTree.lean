/- The reference's Right: leaves, depth, shape of trees, by recursion. -/
import Derived.Test.YtaneblecgjahbabBracket2M

namespace Go.Proofs.Ytaneblecgjahbab.tre
open Go.RowKit Go.Proofs.Ytaneblecgjahbab.sum Go.Proofs.Ytaneblecgjahbab.kept Go.Proofs.Ytaneblecgjahbab.pop Go.Proofs.Ytaneblecgjahbab.cls
set_option linter.unusedVariables false

theorem setsL_take : ∀ (l : List Tr) (i : Nat) (h : i < l.length), setsL (l.take (i + 1)) = setsL (l.take i) + setsS l[i]
  | t :: l, 0, _ => by simp [setsL]
  | t :: l, i + 1, h => by
    have := setsL_take l i (by simpa using h)
    simp only [List.take_succ_cons, setsL, List.getElem_cons_succ]
    omega
theorem setsL_le : ∀ (l : List Tr) (i : Nat), setsL (l.take i) ≤ setsL l
  | [], i => by simp
  | t :: l, 0 => by simp [setsL]
  | t :: l, i + 1 => by
    have := setsL_le l i
    simp only [List.take_succ_cons, setsL]
    omega
theorem setsS_mk (k : Int) (f : Nat → Bool) (l : List Tr) (h : l ≠ []) : setsS (.mk k f l) = setsL l := by
  cases l with
  | nil => exact absurd rfl h
  | cons t l => rfl
def StRel (w : World) (l : List Tr) (n i : Value) (wr : World) : Prop :=
  ∃ j : Nat, j ≤ l.length ∧ i = .int .i64 (j : Int) ∧ n = .int .i64 (setsL (l.take j) : Nat) ∧ Kp No w wr

set_option maxRecDepth 100000 in
set_option maxHeartbeats 1000000 in
theorem sets_any {T : Nat → Prop} : ∀ (n : Nat) (t : Tr), t.size ≤ n → ∀ (w : World) (v : Value), ReV T w t v → setsS t ≤ 4611686018427387904 →
    Calls Try.prog 35 #[v] w fun e w' => e = .returned (.int .i64 (setsS t : Nat)) ∧ Kp No w w' := by
  intro n
  induction n with
  | zero => intro t h; obtain ⟨k, f, l⟩ := t; simp only [Tr.size] at h; omega
  | succ n ih =>
    intro t hsz w v hv hle
    obtain ⟨k, f, l⟩ := t
    simp only [Tr.size] at hsz
    obtain ⟨a, c, rfl, h1, h2, h3⟩ := hv
    have HIh := Hid_mk ih
    have HSz := Hid_mk hsz
    have HLe := Hid_mk hle
    have H3 := Hid_mk h3
    clear ih hsz hle h3
    by_cases hl : l = []
    · subst hl
      have HK := Hid_mk ((Kp.refl No w).alloc (.cells (cellsR k f a 0 c) 30))
      unfold cellsR at HK
      go_enter Try.func35, Try.ntmps35
      unfold cellsR
      go_wp2
      go_ret
      exact ⟨rfl, (Kp.refl No w).alloc _⟩
    · have hll : 0 < l.length := List.length_pos_iff.2 hl
      obtain ⟨b, o, rfl, -, hr⟩ := H3.out hl
      have HR := Hid_mk hr
      have hml := setsS_mk k f l hl
      have HMl := Hid_mk hml
      have HLl := Hid_mk hl
      obtain ⟨L, hL⟩ : ∃ L, l.length = L := ⟨_, rfl⟩
      have HLn := Hid_mk hL
      rw [hL] at h1 hll
      have hL0 : ((L : Int) == 0) = false := by rw [beq_eq_false_iff_ne]; omega
      have hLi : (0 : Int) ≤ (L : Int) := Int.natCast_nonneg _
      have hc0 : w.heap.size ≤ w.heap.size := Nat.le_refl _
      obtain ⟨W0, hW0⟩ : ∃ W0, w.alloc (.cells (cellsR k f (some ⟨b, o, none⟩) L c) 30) = W0 := ⟨_, rfl⟩
      obtain ⟨q, hq⟩ : ∃ q, w.heap.size = q := ⟨_, rfl⟩
      have HK0 : Hid (Kp No w W0) := Hid_mk (by rw [← hW0]; exact (Kp.refl No w).alloc _)
      have c5 : W0.cell? ⟨q, 5, none⟩ = some (.slice (some ⟨b, o, none⟩) L c) := by rw [← hW0, ← hq]; simp
      have HW0 := Hid_mk hW0
      have HQ := Hid_mk hq
      unfold cellsR at HW0
      rw [hL]
      clear hr hml hl hL hW0 hq H3 hc0
      go_enter Try.func35, Try.ntmps35
      unfold cellsR
      go_upto_region 1 with fail
      rw [HW0.out, HQ.out]
      clear HW0
      go_wp2
      go_loopw [3, 4] (fun n i wr => StRel W0 l n i wr) (fun _ i _ => L - (intOf i).toNat)
      case atStart => exact ⟨0, Nat.zero_le _, rfl, by simp [setsL], Kp.refl _ _⟩
      case round =>
        obtain ⟨j, hj, rfl, rfl, hkp⟩ := hrel
        rw [HLn.out] at hj
        have HKp := Hid_mk hkp
        have d5 := hkp.cell' c5 id
        have hj0 : (0 : Int) ≤ (j : Int) := Int.natCast_nonneg _
        by_cases hlt : j < L
        · have hji : (j : Int) < (L : Int) := by omega
          have hjl : j < l.length := by rw [HLn.out]; exact hlt
          have hwi : IntKind.i64.wrap ((j : Int) + 1) = (j : Int) + 1 := IntWalk.i64_in _ (by omega)
          have hr1 := ReL.no (HK0.out.trans' hkp) b o l HR.out
          obtain ⟨k', f', a', n', c', g0, g1, g2, g3, g4, g5, hv'⟩ := hr1.get j hjl
          have hs := setsL_take l j hjl
          have hs2 := setsL_le l (j + 1)
          have hle := HLe.out
          rw [HMl.out] at hle
          have hsz2 := size_get l j hjl
          have HC := Hid_mk (HIh.out l[j] (by have := HSz.out; omega) wr _ hv' (by omega))
          have hwn : IntKind.i64.wrap ((setsL (l.take j) : Nat) + (setsS l[j] : Nat) : Int) = (setsL (l.take (j + 1)) : Nat) := by rw [IntWalk.i64_in _ (by omega)]; omega
          unfold cellsR at HC
          obtain ⟨N1, hN1⟩ : ∃ N, setsL (l.take (j + 1)) = N := ⟨_, rfl⟩
          obtain ⟨N0, hN0⟩ : ∃ N, setsL (l.take j) = N := ⟨_, rfl⟩
          obtain ⟨N2, hN2⟩ : ∃ N, setsS l[j] = N := ⟨_, rfl⟩
          rw [hN1, hN0, hN2] at hwn
          rw [hN2] at HC
          rw [hN0]
          have HN1 := Hid_mk hN1
          clear hkp hr1 hv' hs hs2 hle hsz2 hN1 hN0 hN2
          go_wp2_with fail
          with_reducible refine HC.out.mono ?_
          rintro e w1 ⟨rfl, k1⟩
          have HK1 := Hid_mk k1
          clear k1 d5 g0 g1 g2 g3 g4 g5
          go_wp2
          go_roundw
          case rel => exact ⟨j + 1, by rw [HLn.out]; omega, by push_cast; rfl, by rw [HN1.out], HKp.out.trans' HK1.out⟩
          case measure => simp only [intOf]; omega
        · obtain rfl : j = L := by omega
          have hji : ¬ ((j : Int) < (j : Int)) := by omega
          go_wp2
          go_ret
          exact ⟨by rw [HMl.out, ← HLn.out, List.take_length]; rfl, HK0.out.trans' HKp.out⟩

theorem deepL_drop (k : Int) (M : Nat) (l : List Tr) (j : Nat) (h : j < l.length) : deepL k M j (l.drop j) = (deepS l[j] (if sameB k j = true then M else M - 1) && deepL k M (j + 1) (l.drop (j + 1))) := by
  rw [List.drop_eq_getElem_cons h, deepL]
def DpRel (w : World) (k : Int) (M : Nat) (l : List Tr) (i : Value) (wr : World) : Prop :=
  ∃ j : Nat, j ≤ l.length ∧ i = .int .i64 (j : Int) ∧ deepL k M j (l.drop j) = deepL k M 0 l ∧ Kp No w wr

set_option maxRecDepth 100000 in
set_option maxHeartbeats 2000000 in
theorem deep_any {T : Nat → Prop} : ∀ (n : Nat) (t : Tr), t.size ≤ n → ∀ (w : World) (v : Value) (M : Nat), M ≤ 1000 → ReV T w t v →
    Calls Try.prog 34 #[v, .int .i64 (M : Int)] w fun e w' => e = .returned (.bool (deepS t M)) ∧ Kp No w w' := by
  intro n
  induction n with
  | zero => intro t h; obtain ⟨k, f, l⟩ := t; simp only [Tr.size] at h; omega
  | succ n ih =>
    intro t hsz w v M hM hv
    obtain ⟨k, f, l⟩ := t
    simp only [Tr.size] at hsz
    obtain ⟨a, c, rfl, h1, h2, h3⟩ := hv
    have HIh := Hid_mk ih
    have HSz := Hid_mk hsz
    have H3 := Hid_mk h3
    clear ih hsz h3
    cases M with
    | zero =>
      go_enter Try.func34, Try.ntmps34
      unfold cellsR
      go_wp2
      go_ret
      exact ⟨rfl, (Kp.refl No w).alloc _⟩
    | succ M' =>
      obtain ⟨M, hMe⟩ : ∃ M, M' + 1 = M := ⟨_, rfl⟩
      have hdd : deepS (.mk k f l) (M' + 1) = deepL k M 0 l := by rw [deepS, hMe]
      rw [hdd, hMe]
      have hM1 : 1 ≤ M := by omega
      have hM2 : M ≤ 1000 := by omega
      clear hdd hMe hM
      have hM0 : ((M : Int) == 0) = false := by rw [beq_eq_false_iff_ne]; omega
      have hMw : IntKind.i64.wrap ((M : Int) - 1) = ((M - 1 : Nat) : Int) := by rw [IntWalk.i64_in _ (by omega)]; omega
      obtain ⟨L, hL⟩ : ∃ L, l.length = L := ⟨_, rfl⟩
      have HLn := Hid_mk hL
      rw [hL] at h1
      have hLi : (0 : Int) ≤ (L : Int) := Int.natCast_nonneg _
      obtain ⟨W0, hW0⟩ : ∃ W0, w.alloc (.cells (cellsR k f a L c) 30) = W0 := ⟨_, rfl⟩
      obtain ⟨q, hq⟩ : ∃ q, w.heap.size = q := ⟨_, rfl⟩
      have HK0 : Hid (Kp No w W0) := Hid_mk (by rw [← hW0]; exact (Kp.refl No w).alloc _)
      have c5 : W0.cell? ⟨q, 5, none⟩ = some (.slice a L c) := by rw [← hW0, ← hq]; simp
      have c0 : W0.cell? ⟨q, 0, none⟩ = some (.int .i64 k) := by rw [← hW0, ← hq]; simp
      have HW0 := Hid_mk hW0
      have HQ := Hid_mk hq
      unfold cellsR at HW0
      rw [hL]
      clear hL hW0 hq
      go_enter Try.func34, Try.ntmps34
      unfold cellsR
      go_upto_region 1 with fail
      rw [HW0.out, HQ.out]
      clear HW0
      go_wp2
      go_loopw [5] (fun i wr => DpRel W0 k M l i wr) (fun i _ => L - (intOf i).toNat)
      case atStart => exact ⟨0, Nat.zero_le _, rfl, rfl, Kp.refl _ _⟩
      case round =>
        obtain ⟨j, hj, rfl, he, hkp⟩ := hrel
        rw [HLn.out] at hj
        have HKp := Hid_mk hkp
        have HE := Hid_mk he
        have d5 := hkp.cell' c5 id
        have d0 := hkp.cell' c0 id
        have hj0 : (0 : Int) ≤ (j : Int) := Int.natCast_nonneg _
        by_cases hlt : j < L
        · have hji : (j : Int) < (L : Int) := by omega
          have hjl : j < l.length := by rw [HLn.out]; exact hlt
          have hwi : IntKind.i64.wrap ((j : Int) + 1) = (j : Int) + 1 := IntWalk.i64_in _ (by omega)
          have hd := deepL_drop k M l j hjl
          rw [he] at hd
          have HD := Hid_mk hd
          obtain ⟨b, o, rfl, -, hr⟩ := H3.out (by intro e; rw [e] at hjl; simp at hjl)
          have hr1 := ReL.no (HK0.out.trans' hkp) b o l hr
          obtain ⟨k', f', a', n', c', g0, g1, g2, g3, g4, g5, hv'⟩ := hr1.get j hjl
          have hsz2 := size_get l j hjl
          obtain ⟨m, hm⟩ : ∃ m, (if sameB k j = true then M else M - 1) = m := ⟨_, rfl⟩
          have hm1 : m ≤ 1000 := by rw [← hm]; split <;> omega
          have HC := Hid_mk (HIh.out l[j] (by have := HSz.out; omega) wr _ m hm1 hv')
          rw [hm] at HD
          unfold cellsR at HC
          obtain ⟨B, hB⟩ : ∃ B, deepS l[j] m = B := ⟨_, rfl⟩
          rw [hB] at HD HC
          clear hB
          have HM := Hid_mk hm
          clear hkp he hd hr hr1 hv' hsz2 hm hm1
          have hsel : (((j : Int) == 1) = true ∧ ((k == 2) = true ∨ ((k == 2) = false ∧ (k == 3) = true) ∨ ((k == 2) = false ∧ (k == 3) = false))) ∨ ((j : Int) == 1) = false := by
            by_cases hj1 : j = 1
            · left
              refine ⟨by simp [hj1], ?_⟩
              by_cases hk2 : k = 2
              · left; simp [hk2]
              · by_cases hk3 : k = 3
                · right; left; simp [hk3]
                · right; right; simp [hk2, hk3]
            · right
              rw [beq_eq_false_iff_ne]
              omega
          rcases hsel with ⟨s1, s2 | ⟨s2, s3⟩ | ⟨s2, s3⟩⟩ | s1
          all_goals first
            | (have hmm : m = M := by
                 have := HM.out
                 simp only [beq_iff_eq, beq_eq_false_iff_ne, ne_eq] at s1 s2
                 rw [← this, if_pos]
                 first
                   | (unfold sameB; simp [s2]; omega)
                   | (simp only [beq_iff_eq] at s3; unfold sameB; simp [s3]; omega)
               subst hmm)
            | (have hmm : m = M - 1 := by
                 have := HM.out
                 simp only [beq_iff_eq, beq_eq_false_iff_ne, ne_eq] at s1
                 rw [← this, if_neg]
                 first
                   | (unfold sameB; simp; intro h; omega)
                   | (simp only [beq_eq_false_iff_ne, ne_eq] at s2 s3; unfold sameB; simp [s2, s3])
               subst hmm)
          all_goals
            go_wp2_with fail
            with_reducible refine HC.out.mono ?_
            rintro e w1 ⟨rfl, k1⟩
            have HK1 := Hid_mk (HKp.out.trans' k1)
            clear k1 d5 d0 g0 g1 g2 g3 g4 g5 HC
          all_goals
            cases B with
            | false =>
              go_wp2
              go_ret
              exact ⟨by rw [HD.out]; simp, HK0.out.trans' HK1.out⟩
            | true =>
              go_wp2
              go_roundw
              case rel => exact ⟨j + 1, by rw [HLn.out]; omega, by push_cast; rfl, by rw [HD.out]; simp, HK1.out⟩
              case measure => simp only [intOf]; omega
        · obtain rfl : j = L := by omega
          have hji : ¬ ((j : Int) < (j : Int)) := by omega
          have hend : deepL k M 0 l = true := by
            have h := HE.out
            rw [← HLn.out, List.drop_length] at h
            rw [← h]
            rfl
          have HEnd := Hid_mk hend
          clear hend he
          go_wp2
          go_ret
          exact ⟨by rw [HEnd.out]; first | rfl | simp, HK0.out.trans' HKp.out⟩

set_option maxRecDepth 100000 in
set_option maxHeartbeats 1000000 in
theorem kids_any (w : World) (k : Int) : Calls Try.prog 55 #[.int .i64 k] w fun e w' => e = .returned (.int .i64 (kidsS k)) ∧ w' = w := by
  by_cases h0 : k = 0
  · subst h0
    go_enter Try.func55, Try.ntmps55
    go_wp2
    go_ret
    exact ⟨rfl, rfl⟩
  by_cases h1 : k = 1
  · subst h1
    go_enter Try.func55, Try.ntmps55
    go_wp2
    go_ret
    exact ⟨rfl, rfl⟩
  by_cases h2 : k = 2
  · subst h2
    go_enter Try.func55, Try.ntmps55
    go_wp2
    go_ret
    exact ⟨rfl, rfl⟩
  by_cases h3 : k = 3
  · subst h3
    go_enter Try.func55, Try.ntmps55
    go_wp2
    go_ret
    exact ⟨rfl, rfl⟩
  by_cases h4 : k = 4
  · subst h4
    go_enter Try.func55, Try.ntmps55
    go_wp2
    go_ret
    exact ⟨rfl, rfl⟩
  by_cases h5 : k = 5
  · subst h5
    go_enter Try.func55, Try.ntmps55
    go_wp2
    go_ret
    exact ⟨rfl, rfl⟩
  by_cases h6 : k = 6
  · subst h6
    go_enter Try.func55, Try.ntmps55
    go_wp2
    go_ret
    exact ⟨rfl, rfl⟩
  by_cases h7 : k = 7
  · subst h7
    go_enter Try.func55, Try.ntmps55
    go_wp2
    go_ret
    exact ⟨rfl, rfl⟩
  by_cases h8 : k = 8
  · subst h8
    go_enter Try.func55, Try.ntmps55
    go_wp2
    go_ret
    exact ⟨rfl, rfl⟩
  have e0 : (k == 0) = false := by rw [beq_eq_false_iff_ne]; exact h0
  have e1 : (k == 1) = false := by rw [beq_eq_false_iff_ne]; exact h1
  have e2 : (k == 2) = false := by rw [beq_eq_false_iff_ne]; exact h2
  have e3 : (k == 3) = false := by rw [beq_eq_false_iff_ne]; exact h3
  have e4 : (k == 4) = false := by rw [beq_eq_false_iff_ne]; exact h4
  have e5 : (k == 5) = false := by rw [beq_eq_false_iff_ne]; exact h5
  have e6 : (k == 6) = false := by rw [beq_eq_false_iff_ne]; exact h6
  have e7 : (k == 7) = false := by rw [beq_eq_false_iff_ne]; exact h7
  have e8 : (k == 8) = false := by rw [beq_eq_false_iff_ne]; exact h8
  have hk : kidsS k = -1 := by unfold kidsS; rw [if_neg (by omega), if_neg (by omega), if_neg (by omega)]
  rw [hk]
  clear hk
  go_enter Try.func55, Try.ntmps55
  go_wp2
  go_ret
  exact ⟨rfl, rfl⟩
theorem kids_no (w : World) (k : Int) : Calls Try.prog 55 #[.int .i64 k] w fun e w' => e = .returned (.int .i64 (kidsS k)) ∧ Kp No w w' := by
  refine (kids_any w k).mono ?_
  rintro e w' ⟨rfl, rfl⟩
  exact ⟨rfl, Kp.refl _ _⟩
theorem shapedL_drop (l : List Tr) (j : Nat) (h : j < l.length) : shapedL (l.drop j) = (shapedS l[j] && shapedL (l.drop (j + 1))) := by
  rw [List.drop_eq_getElem_cons h, shapedL]
def ShRel (w : World) (l : List Tr) (i : Value) (wr : World) : Prop :=
  ∃ j : Nat, j ≤ l.length ∧ i = .int .i64 (j : Int) ∧ shapedL (l.drop j) = shapedL l ∧ Kp No w wr
theorem ne_zero_set (f : Nat → Bool) (W : World) : (Op.equalIn 10000 27 (.agg #[.int .u64 (wd f 0 64 : Nat), .int .u64 (wd f 64 64 : Nat), .int .u64 (wd f 128 64 : Nat), .int .u64 (wd f 192 64 : Nat)]) (.agg #[.int .u64 0, .int .u64 0, .int .u64 0, .int .u64 0])).run Try.prog W = .ok (zeroB f) W := by
  rw [eq_set]
  unfold zeroB
  have e : ∀ n : Nat, ((n : Int) == 0) = (n == 0) := fun n => by
    rw [Bool.eq_iff_iff]
    simp only [beq_iff_eq]
    omega
  simp only [e]

set_option maxRecDepth 100000 in
set_option maxHeartbeats 4000000 in
theorem shaped_any {T : Nat → Prop} : ∀ (n : Nat) (t : Tr), t.size ≤ n → ∀ (w : World) (v : Value), ReV T w t v →
    Calls Try.prog 33 #[v] w fun e w' => e = .returned (.bool (shapedS t)) ∧ Kp No w w' := by
  intro n
  induction n with
  | zero => intro t h; obtain ⟨k, f, l⟩ := t; simp only [Tr.size] at h; omega
  | succ n ih =>
    intro t hsz w v hv
    obtain ⟨k, f, l⟩ := t
    simp only [Tr.size] at hsz
    obtain ⟨a, c, rfl, h1, h2, h3⟩ := hv
    have HIh := Hid_mk ih
    have HSz := Hid_mk hsz
    have H3 := Hid_mk h3
    obtain ⟨L, hL⟩ : ∃ L, l.length = L := ⟨_, rfl⟩
    have HLn := Hid_mk hL
    have hsd : shapedS (.mk k f l) = (decide ((L : Int) = kidsS k) && (decide (k = 1) || zeroB f) && shapedL l) := by rw [shapedS, hL]
    rw [hsd]
    rw [hL] at h1
    have hLi : (0 : Int) ≤ (L : Int) := Int.natCast_nonneg _
    obtain ⟨W0, hW0⟩ : ∃ W0, w.alloc (.cells (cellsR k f a L c) 30) = W0 := ⟨_, rfl⟩
    obtain ⟨q, hq⟩ : ∃ q, w.heap.size = q := ⟨_, rfl⟩
    have HK0 : Hid (Kp No w W0) := Hid_mk (by rw [← hW0]; exact (Kp.refl No w).alloc _)
    have hkeep0 : (fun V => V.cell? ⟨q, 0, none⟩ = some (.int .i64 k) ∧ V.cell? ⟨q, 1, none⟩ = some (.int .u64 (wd f 0 64 : Nat)) ∧ V.cell? ⟨q, 2, none⟩ = some (.int .u64 (wd f 64 64 : Nat)) ∧ V.cell? ⟨q, 3, none⟩ = some (.int .u64 (wd f 128 64 : Nat)) ∧ V.cell? ⟨q, 4, none⟩ = some (.int .u64 (wd f 192 64 : Nat)) ∧ V.cell? ⟨q, 5, none⟩ = some (.slice a L c)) W0 := by rw [← hW0, ← hq]; refine ⟨?_, ?_, ?_, ?_, ?_, ?_⟩ <;> simp
    have HKeep := Hid_mk fun W' (hk : Kp No W0 W') => (⟨hk.cell' hkeep0.1 id, hk.cell' hkeep0.2.1 id, hk.cell' hkeep0.2.2.1 id, hk.cell' hkeep0.2.2.2.1 id, hk.cell' hkeep0.2.2.2.2.1 id, hk.cell' hkeep0.2.2.2.2.2 id⟩ : (fun V => V.cell? ⟨q, 0, none⟩ = some (.int .i64 k) ∧ V.cell? ⟨q, 1, none⟩ = some (.int .u64 (wd f 0 64 : Nat)) ∧ V.cell? ⟨q, 2, none⟩ = some (.int .u64 (wd f 64 64 : Nat)) ∧ V.cell? ⟨q, 3, none⟩ = some (.int .u64 (wd f 128 64 : Nat)) ∧ V.cell? ⟨q, 4, none⟩ = some (.int .u64 (wd f 192 64 : Nat)) ∧ V.cell? ⟨q, 5, none⟩ = some (.slice a L c)) W')
    have hS := HKeep.out _ (Kp.refl No W0).drew
    have c5 := hkeep0.2.2.2.2.2
    have HC := Hid_mk ((Kp.refl No W0).drew)
    have HKd := Hid_mk fun W => kids_no W k
    have hz := fun W => ne_zero_set f W
    have HW0 := Hid_mk hW0
    have HQ := Hid_mk hq
    unfold cellsR at HW0
    rw [hL]
    clear ih hsz h3 hL hsd hW0 hq hkeep0
    obtain ⟨kd, hkd⟩ : ∃ kd, kidsS k = kd := ⟨_, rfl⟩
    rw [hkd] at HKd ⊢
    clear hkd
    go_enter Try.func33, Try.ntmps33
    unfold cellsR
    repeat ((fail_if_success (with_reducible show Code.wp _ (Code.seq (Code.region 1 _ _) _) _ _ _)); first | go_values | go_skip | go_guarded | go_step | go_upon | go_back)
    rw [HW0.out, HQ.out]
    clear HW0
    go_cut [] from 4 to 21 (fun wc => (decide ((L : Int) = kd) && (decide (k = 1) || zeroB f)) = true ∧ Kp No W0 wc)
    case first =>
      obtain ⟨z, hzz⟩ : ∃ z, zeroB f = z := ⟨_, rfl⟩
      rw [hzz] at hz
      have HZ := Hid_mk hzz
      clear hzz c5
      by_cases hlen : (L : Int) = kd
      · have hlb : ((L : Int) == kd) = true := by simp [hlen]
        have hlb2 : ((L : Int) != kd) = false := by simp [hlen]
        have HLen := Hid_mk hlen
        clear hlen
        by_cases hk1 : k = 1
        · have hkb : (k == 1) = true := by simp [hk1]
          have hkb2 : (k != 1) = false := by simp [hk1]
          have HK1 := Hid_mk hk1
          clear hk1
          go_wp2_with fail
          refine wp_region_held_drew (S := (fun V => V.cell? ⟨q, 0, none⟩ = some (.int .i64 k) ∧ V.cell? ⟨q, 1, none⟩ = some (.int .u64 (wd f 0 64 : Nat)) ∧ V.cell? ⟨q, 2, none⟩ = some (.int .u64 (wd f 64 64 : Nat)) ∧ V.cell? ⟨q, 3, none⟩ = some (.int .u64 (wd f 128 64 : Nat)) ∧ V.cell? ⟨q, 4, none⟩ = some (.int .u64 (wd f 192 64 : Nat)) ∧ V.cell? ⟨q, 5, none⟩ = some (.slice a L c))) (by kernel_rfl) (by first | exact hS | (dsimp only; exact hS)) (fun hHeld => ?_)
          clear hHeld; have hHeld := hS
          refine wpAnyH_take (i := 0) (oi := { dst := some 4, op := Op.fieldAddr 30 (Operand.tmp 1) 2, type := 0, pos := "ref.go:235", after := #[], guard := none }) (v := ?_) rfl (by kernel_rfl) (by kernel_rfl) (by kernel_rfl) (fun _ _ _ h => h) (Or.inl ⟨by rfl, ?_⟩) (by assumption) ?_
          rotate_left 1
          · intro w hSw; (try dsimp only at hSw); go_simp; all_goals (with_reducible rfl)
          try simp only [Act.put, List.setIfInBounds_toArray, List.set_cons_zero, List.set_cons_succ]
          refine wpAnyH_take (i := 1) (oi := { dst := some 5, op := Op.load 28 (Operand.tmp 4), type := 28, pos := "ref.go:235", after := #[{ on := 0, ground := Ground.data }], guard := none }) (v := ?_) rfl (by kernel_rfl) (by kernel_rfl) (by kernel_rfl) (fun _ _ _ h => h) (Or.inl ⟨by rfl, ?_⟩) (by assumption) ?_
          rotate_left 1
          · intro w hSw; (try dsimp only at hSw); go_simp; all_goals (with_reducible rfl)
          try simp only [Act.put, List.setIfInBounds_toArray, List.set_cons_zero, List.set_cons_succ]
          refine wpAnyH_take (i := 2) (oi := { dst := some 6, op := Op.call { callee := Callee.builtin Builtin.len, args := #[Operand.tmp 5], argTypes := #[28] }, type := 3, pos := "ref.go:235", after := #[{ on := 1, ground := Ground.data }], guard := none }) (v := ?_) rfl (by kernel_rfl) (by kernel_rfl) (by kernel_rfl) (fun _ _ _ h => h) (Or.inl ⟨by rfl, ?_⟩) (by assumption) ?_
          rotate_left 1
          · intro w hSw; (try dsimp only at hSw); go_simp; all_goals (with_reducible rfl)
          try simp only [Act.put, List.setIfInBounds_toArray, List.set_cons_zero, List.set_cons_succ]
          refine wpAnyH_take (i := 3) (oi := { dst := some 7, op := Op.fieldAddr 30 (Operand.tmp 1) 0, type := 0, pos := "ref.go:235", after := #[], guard := none }) (v := ?_) rfl (by kernel_rfl) (by kernel_rfl) (by kernel_rfl) (fun _ _ _ h => h) (Or.inl ⟨by rfl, ?_⟩) (by assumption) ?_
          rotate_left 1
          · intro w hSw; (try dsimp only at hSw); go_simp; all_goals (with_reducible rfl)
          try simp only [Act.put, List.setIfInBounds_toArray, List.set_cons_zero, List.set_cons_succ]
          refine wpAnyH_take (i := 4) (oi := { dst := some 8, op := Op.load 3 (Operand.tmp 7), type := 3, pos := "ref.go:235", after := #[{ on := 3, ground := Ground.data }], guard := none }) (v := ?_) rfl (by kernel_rfl) (by kernel_rfl) (by kernel_rfl) (fun _ _ _ h => h) (Or.inl ⟨by rfl, ?_⟩) (by assumption) ?_
          rotate_left 1
          · intro w hSw; (try dsimp only at hSw); go_simp; all_goals (with_reducible rfl)
          try simp only [Act.put, List.setIfInBounds_toArray, List.set_cons_zero, List.set_cons_succ]
          refine wpAnyH_ready (rs := [5]) (by kernel_rfl) (by simp) ?_
          refine AllReadyH.cons (o := { dst := some 9, op := Op.call { callee := Callee.value (Operand.func 55), args := #[Operand.tmp 8], argTypes := #[3] }, type := 3, pos := "ref.go:235", after := #[{ on := 4, ground := Ground.data }], guard := none }) rfl (fun K hK => ?_) AllReadyH.nil
          go_simp
          with_reducible refine (HKd.out _).mono ?_
          rintro e wn ⟨rfl, kn⟩
          replace HC := Hid_mk (HC.out.trans' kn); replace hS := HKeep.out _ HC.out; clear kn
          refine hK.out _ _ hS (fun hHeld => ?_)
          clear hK K hHeld
          have hHeld := hS
          try simp only [Act.put, List.setIfInBounds_toArray, List.set_cons_zero, List.set_cons_succ]
          refine wpAnyH_take (i := 6) (oi := { dst := some 10, op := Op.binOp BinOp.neq 3 (Operand.tmp 6) (Operand.tmp 9) 3, type := 4, pos := "ref.go:235", after := #[{ on := 2, ground := Ground.data }, { on := 5, ground := Ground.data }], guard := none }) (v := ?_) rfl (by kernel_rfl) (by kernel_rfl) (by kernel_rfl) (fun _ _ _ h => h) (Or.inl ⟨by rfl, ?_⟩) (by assumption) ?_
          rotate_left 1
          · intro w hSw; (try dsimp only at hSw); go_simp; all_goals (with_reducible rfl)
          try simp only [Act.put, List.setIfInBounds_toArray, List.set_cons_zero, List.set_cons_succ]
          refine wpAnyH_take (i := 7) (oi := { dst := some 11, op := Op.move (Operand.tmp 10), type := 4, pos := "ref.go:235", after := #[{ on := 6, ground := Ground.data }, { on := 5, ground := Ground.chain }], guard := none }) (v := ?_) rfl (by kernel_rfl) (by kernel_rfl) (by kernel_rfl) (fun _ _ _ h => h) (Or.inl ⟨by rfl, ?_⟩) (by assumption) ?_
          rotate_left 1
          · intro w hSw; (try dsimp only at hSw); go_simp; all_goals (with_reducible rfl)
          try simp only [Act.put, List.setIfInBounds_toArray, List.set_cons_zero, List.set_cons_succ]
          refine wpAnyH_take (i := 8) (oi := { dst := some 12, op := Op.fieldAddr 30 (Operand.tmp 1) 0, type := 0, pos := "ref.go:235", after := #[{ on := 7, ground := Ground.guard }], guard := some (7, false) }) (v := ?_) rfl (by kernel_rfl) (by kernel_rfl) (by kernel_rfl) (fun _ _ _ h => h) (Or.inl ⟨by rfl, ?_⟩) (by assumption) ?_
          rotate_left 1
          · intro w hSw; (try dsimp only at hSw); go_simp; all_goals (with_reducible rfl)
          try simp only [Act.put, List.setIfInBounds_toArray, List.set_cons_zero, List.set_cons_succ]
          refine wpAnyH_take (i := 9) (oi := { dst := some 13, op := Op.load 3 (Operand.tmp 12), type := 3, pos := "ref.go:235", after := #[{ on := 8, ground := Ground.data }, { on := 7, ground := Ground.guard }], guard := some (7, false) }) (v := ?_) rfl (by kernel_rfl) (by kernel_rfl) (by kernel_rfl) (fun _ _ _ h => h) (Or.inl ⟨by rfl, ?_⟩) (by assumption) ?_
          rotate_left 1
          · intro w hSw; (try dsimp only at hSw); go_simp; all_goals (with_reducible rfl)
          try simp only [Act.put, List.setIfInBounds_toArray, List.set_cons_zero, List.set_cons_succ]
          refine wpAnyH_take (i := 10) (oi := { dst := some 14, op := Op.binOp BinOp.neq 3 (Operand.tmp 13) (Operand.const (Value.int IntKind.i64 1)) 3, type := 4, pos := "ref.go:235", after := #[{ on := 9, ground := Ground.data }, { on := 7, ground := Ground.guard }], guard := some (7, false) }) (v := ?_) rfl (by kernel_rfl) (by kernel_rfl) (by kernel_rfl) (fun _ _ _ h => h) (Or.inl ⟨by rfl, ?_⟩) (by assumption) ?_
          rotate_left 1
          · intro w hSw; (try dsimp only at hSw); go_simp; all_goals (with_reducible rfl)
          try simp only [Act.put, List.setIfInBounds_toArray, List.set_cons_zero, List.set_cons_succ]
          refine wpAnyH_take (i := 11) (oi := { dst := some 15, op := Op.move (Operand.tmp 14), type := 4, pos := "ref.go:235", after := #[{ on := 10, ground := Ground.data }, { on := 7, ground := Ground.chain }, { on := 7, ground := Ground.guard }], guard := some (7, false) }) (v := ?_) rfl (by kernel_rfl) (by kernel_rfl) (by kernel_rfl) (fun _ _ _ h => h) (Or.inl ⟨by rfl, ?_⟩) (by assumption) ?_
          rotate_left 1
          · intro w hSw; (try dsimp only at hSw); go_simp; all_goals (with_reducible rfl)
          try simp only [Act.put, List.setIfInBounds_toArray, List.set_cons_zero, List.set_cons_succ]
          refine wpAnyH_take (i := 12) (oi := { dst := some 16, op := Op.fieldAddr 30 (Operand.tmp 1) 1, type := 0, pos := "ref.go:235", after := #[{ on := 11, ground := Ground.guard }], guard := some (11, true) }) (v := undef) rfl (by kernel_rfl) (by kernel_rfl) (by kernel_rfl) (fun _ _ _ h => h) (Or.inr ⟨by rfl, rfl⟩) (by assumption) ?_
          try simp only [Act.put, List.setIfInBounds_toArray, List.set_cons_zero, List.set_cons_succ]
          refine wpAnyH_take (i := 13) (oi := { dst := some 17, op := Op.load 27 (Operand.tmp 16), type := 27, pos := "ref.go:235", after := #[{ on := 12, ground := Ground.data }, { on := 11, ground := Ground.guard }], guard := some (11, true) }) (v := undef) rfl (by kernel_rfl) (by kernel_rfl) (by kernel_rfl) (fun _ _ _ h => h) (Or.inr ⟨by rfl, rfl⟩) (by assumption) ?_
          try simp only [Act.put, List.setIfInBounds_toArray, List.set_cons_zero, List.set_cons_succ]
          refine wpAnyH_take (i := 14) (oi := { dst := some 18, op := Op.build 27 #[], type := 27, pos := "ref.go:235", after := #[{ on := 11, ground := Ground.guard }], guard := some (11, true) }) (v := undef) rfl (by kernel_rfl) (by kernel_rfl) (by kernel_rfl) (fun _ _ _ h => h) (Or.inr ⟨by rfl, rfl⟩) (by assumption) ?_
          try simp only [Act.put, List.setIfInBounds_toArray, List.set_cons_zero, List.set_cons_succ]
          refine wpAnyH_take (i := 15) (oi := { dst := some 19, op := Op.binOp BinOp.neq 27 (Operand.tmp 17) (Operand.tmp 18) 27, type := 4, pos := "ref.go:235", after := #[{ on := 13, ground := Ground.data }, { on := 14, ground := Ground.data }, { on := 11, ground := Ground.guard }], guard := some (11, true) }) (v := undef) rfl (by kernel_rfl) (by kernel_rfl) (by kernel_rfl) (fun _ _ _ h => h) (Or.inr ⟨by rfl, rfl⟩) (by assumption) ?_
          try simp only [Act.put, List.setIfInBounds_toArray, List.set_cons_zero, List.set_cons_succ]
          refine wpAnyH_take (i := 16) (oi := { dst := some 20, op := Op.pick (Operand.tmp 15) (Operand.tmp 19) (Operand.const (Value.bool false)), type := 4, pos := "ref.go:235", after := #[{ on := 11, ground := Ground.data }, { on := 15, ground := Ground.data }, { on := 7, ground := Ground.guard }], guard := some (7, false) }) (v := ?_) rfl (by kernel_rfl) (by kernel_rfl) (by kernel_rfl) (fun _ _ _ h => h) (Or.inl ⟨by rfl, ?_⟩) (by assumption) ?_
          rotate_left 1
          · intro w hSw; (try dsimp only at hSw); go_simp; all_goals (with_reducible rfl)
          try simp only [Act.put, List.setIfInBounds_toArray, List.set_cons_zero, List.set_cons_succ]
          refine wpAnyH_take (i := 17) (oi := { dst := some 21, op := Op.pick (Operand.tmp 11) (Operand.const (Value.bool true)) (Operand.tmp 20), type := 4, pos := "ref.go:235", after := #[{ on := 7, ground := Ground.data }, { on := 16, ground := Ground.data }], guard := none }) (v := ?_) rfl (by kernel_rfl) (by kernel_rfl) (by kernel_rfl) (fun _ _ _ h => h) (Or.inl ⟨by rfl, ?_⟩) (by assumption) ?_
          rotate_left 1
          · intro w hSw; (try dsimp only at hSw); go_simp; all_goals (with_reducible rfl)
          try simp only [Act.put, List.setIfInBounds_toArray, List.set_cons_zero, List.set_cons_succ]
          refine wpAnyH_done (by kernel_rfl) ?_ _
          go_wp2_with fail
          go_meet
          case rel => exact ⟨by rw [decide_eq_true HLen.out, decide_eq_true HK1.out]; rfl, HC.out⟩
        · have hkb : (k == 1) = false := by rw [beq_eq_false_iff_ne]; exact hk1
          have hkb2 : (k != 1) = true := by simp [hk1]
          have HK1 := Hid_mk hk1
          clear hk1
          cases z with
          | true =>
            go_wp2_with fail
            refine wp_region_held_drew (S := (fun V => V.cell? ⟨q, 0, none⟩ = some (.int .i64 k) ∧ V.cell? ⟨q, 1, none⟩ = some (.int .u64 (wd f 0 64 : Nat)) ∧ V.cell? ⟨q, 2, none⟩ = some (.int .u64 (wd f 64 64 : Nat)) ∧ V.cell? ⟨q, 3, none⟩ = some (.int .u64 (wd f 128 64 : Nat)) ∧ V.cell? ⟨q, 4, none⟩ = some (.int .u64 (wd f 192 64 : Nat)) ∧ V.cell? ⟨q, 5, none⟩ = some (.slice a L c))) (by kernel_rfl) (by first | exact hS | (dsimp only; exact hS)) (fun hHeld => ?_)
            clear hHeld; have hHeld := hS
            refine wpAnyH_take (i := 0) (oi := { dst := some 4, op := Op.fieldAddr 30 (Operand.tmp 1) 2, type := 0, pos := "ref.go:235", after := #[], guard := none }) (v := ?_) rfl (by kernel_rfl) (by kernel_rfl) (by kernel_rfl) (fun _ _ _ h => h) (Or.inl ⟨by rfl, ?_⟩) (by assumption) ?_
            rotate_left 1
            · intro w hSw; (try dsimp only at hSw); go_simp; all_goals (with_reducible rfl)
            try simp only [Act.put, List.setIfInBounds_toArray, List.set_cons_zero, List.set_cons_succ]
            refine wpAnyH_take (i := 1) (oi := { dst := some 5, op := Op.load 28 (Operand.tmp 4), type := 28, pos := "ref.go:235", after := #[{ on := 0, ground := Ground.data }], guard := none }) (v := ?_) rfl (by kernel_rfl) (by kernel_rfl) (by kernel_rfl) (fun _ _ _ h => h) (Or.inl ⟨by rfl, ?_⟩) (by assumption) ?_
            rotate_left 1
            · intro w hSw; (try dsimp only at hSw); go_simp; all_goals (with_reducible rfl)
            try simp only [Act.put, List.setIfInBounds_toArray, List.set_cons_zero, List.set_cons_succ]
            refine wpAnyH_take (i := 2) (oi := { dst := some 6, op := Op.call { callee := Callee.builtin Builtin.len, args := #[Operand.tmp 5], argTypes := #[28] }, type := 3, pos := "ref.go:235", after := #[{ on := 1, ground := Ground.data }], guard := none }) (v := ?_) rfl (by kernel_rfl) (by kernel_rfl) (by kernel_rfl) (fun _ _ _ h => h) (Or.inl ⟨by rfl, ?_⟩) (by assumption) ?_
            rotate_left 1
            · intro w hSw; (try dsimp only at hSw); go_simp; all_goals (with_reducible rfl)
            try simp only [Act.put, List.setIfInBounds_toArray, List.set_cons_zero, List.set_cons_succ]
            refine wpAnyH_take (i := 3) (oi := { dst := some 7, op := Op.fieldAddr 30 (Operand.tmp 1) 0, type := 0, pos := "ref.go:235", after := #[], guard := none }) (v := ?_) rfl (by kernel_rfl) (by kernel_rfl) (by kernel_rfl) (fun _ _ _ h => h) (Or.inl ⟨by rfl, ?_⟩) (by assumption) ?_
            rotate_left 1
            · intro w hSw; (try dsimp only at hSw); go_simp; all_goals (with_reducible rfl)
            try simp only [Act.put, List.setIfInBounds_toArray, List.set_cons_zero, List.set_cons_succ]
            refine wpAnyH_take (i := 4) (oi := { dst := some 8, op := Op.load 3 (Operand.tmp 7), type := 3, pos := "ref.go:235", after := #[{ on := 3, ground := Ground.data }], guard := none }) (v := ?_) rfl (by kernel_rfl) (by kernel_rfl) (by kernel_rfl) (fun _ _ _ h => h) (Or.inl ⟨by rfl, ?_⟩) (by assumption) ?_
            rotate_left 1
            · intro w hSw; (try dsimp only at hSw); go_simp; all_goals (with_reducible rfl)
            try simp only [Act.put, List.setIfInBounds_toArray, List.set_cons_zero, List.set_cons_succ]
            refine wpAnyH_ready (rs := [5]) (by kernel_rfl) (by simp) ?_
            refine AllReadyH.cons (o := { dst := some 9, op := Op.call { callee := Callee.value (Operand.func 55), args := #[Operand.tmp 8], argTypes := #[3] }, type := 3, pos := "ref.go:235", after := #[{ on := 4, ground := Ground.data }], guard := none }) rfl (fun K hK => ?_) AllReadyH.nil
            go_simp
            with_reducible refine (HKd.out _).mono ?_
            rintro e wn ⟨rfl, kn⟩
            replace HC := Hid_mk (HC.out.trans' kn); replace hS := HKeep.out _ HC.out; clear kn
            refine hK.out _ _ hS (fun hHeld => ?_)
            clear hK K hHeld
            have hHeld := hS
            try simp only [Act.put, List.setIfInBounds_toArray, List.set_cons_zero, List.set_cons_succ]
            refine wpAnyH_take (i := 6) (oi := { dst := some 10, op := Op.binOp BinOp.neq 3 (Operand.tmp 6) (Operand.tmp 9) 3, type := 4, pos := "ref.go:235", after := #[{ on := 2, ground := Ground.data }, { on := 5, ground := Ground.data }], guard := none }) (v := ?_) rfl (by kernel_rfl) (by kernel_rfl) (by kernel_rfl) (fun _ _ _ h => h) (Or.inl ⟨by rfl, ?_⟩) (by assumption) ?_
            rotate_left 1
            · intro w hSw; (try dsimp only at hSw); go_simp; all_goals (with_reducible rfl)
            try simp only [Act.put, List.setIfInBounds_toArray, List.set_cons_zero, List.set_cons_succ]
            refine wpAnyH_take (i := 7) (oi := { dst := some 11, op := Op.move (Operand.tmp 10), type := 4, pos := "ref.go:235", after := #[{ on := 6, ground := Ground.data }, { on := 5, ground := Ground.chain }], guard := none }) (v := ?_) rfl (by kernel_rfl) (by kernel_rfl) (by kernel_rfl) (fun _ _ _ h => h) (Or.inl ⟨by rfl, ?_⟩) (by assumption) ?_
            rotate_left 1
            · intro w hSw; (try dsimp only at hSw); go_simp; all_goals (with_reducible rfl)
            try simp only [Act.put, List.setIfInBounds_toArray, List.set_cons_zero, List.set_cons_succ]
            refine wpAnyH_take (i := 8) (oi := { dst := some 12, op := Op.fieldAddr 30 (Operand.tmp 1) 0, type := 0, pos := "ref.go:235", after := #[{ on := 7, ground := Ground.guard }], guard := some (7, false) }) (v := ?_) rfl (by kernel_rfl) (by kernel_rfl) (by kernel_rfl) (fun _ _ _ h => h) (Or.inl ⟨by rfl, ?_⟩) (by assumption) ?_
            rotate_left 1
            · intro w hSw; (try dsimp only at hSw); go_simp; all_goals (with_reducible rfl)
            try simp only [Act.put, List.setIfInBounds_toArray, List.set_cons_zero, List.set_cons_succ]
            refine wpAnyH_take (i := 9) (oi := { dst := some 13, op := Op.load 3 (Operand.tmp 12), type := 3, pos := "ref.go:235", after := #[{ on := 8, ground := Ground.data }, { on := 7, ground := Ground.guard }], guard := some (7, false) }) (v := ?_) rfl (by kernel_rfl) (by kernel_rfl) (by kernel_rfl) (fun _ _ _ h => h) (Or.inl ⟨by rfl, ?_⟩) (by assumption) ?_
            rotate_left 1
            · intro w hSw; (try dsimp only at hSw); go_simp; all_goals (with_reducible rfl)
            try simp only [Act.put, List.setIfInBounds_toArray, List.set_cons_zero, List.set_cons_succ]
            refine wpAnyH_take (i := 10) (oi := { dst := some 14, op := Op.binOp BinOp.neq 3 (Operand.tmp 13) (Operand.const (Value.int IntKind.i64 1)) 3, type := 4, pos := "ref.go:235", after := #[{ on := 9, ground := Ground.data }, { on := 7, ground := Ground.guard }], guard := some (7, false) }) (v := ?_) rfl (by kernel_rfl) (by kernel_rfl) (by kernel_rfl) (fun _ _ _ h => h) (Or.inl ⟨by rfl, ?_⟩) (by assumption) ?_
            rotate_left 1
            · intro w hSw; (try dsimp only at hSw); go_simp; all_goals (with_reducible rfl)
            try simp only [Act.put, List.setIfInBounds_toArray, List.set_cons_zero, List.set_cons_succ]
            refine wpAnyH_take (i := 11) (oi := { dst := some 15, op := Op.move (Operand.tmp 14), type := 4, pos := "ref.go:235", after := #[{ on := 10, ground := Ground.data }, { on := 7, ground := Ground.chain }, { on := 7, ground := Ground.guard }], guard := some (7, false) }) (v := ?_) rfl (by kernel_rfl) (by kernel_rfl) (by kernel_rfl) (fun _ _ _ h => h) (Or.inl ⟨by rfl, ?_⟩) (by assumption) ?_
            rotate_left 1
            · intro w hSw; (try dsimp only at hSw); go_simp; all_goals (with_reducible rfl)
            try simp only [Act.put, List.setIfInBounds_toArray, List.set_cons_zero, List.set_cons_succ]
            refine wpAnyH_take (i := 12) (oi := { dst := some 16, op := Op.fieldAddr 30 (Operand.tmp 1) 1, type := 0, pos := "ref.go:235", after := #[{ on := 11, ground := Ground.guard }], guard := some (11, true) }) (v := ?_) rfl (by kernel_rfl) (by kernel_rfl) (by kernel_rfl) (fun _ _ _ h => h) (Or.inl ⟨by rfl, ?_⟩) (by assumption) ?_
            rotate_left 1
            · intro w hSw; (try dsimp only at hSw); go_simp; all_goals (with_reducible rfl)
            try simp only [Act.put, List.setIfInBounds_toArray, List.set_cons_zero, List.set_cons_succ]
            refine wpAnyH_take (i := 13) (oi := { dst := some 17, op := Op.load 27 (Operand.tmp 16), type := 27, pos := "ref.go:235", after := #[{ on := 12, ground := Ground.data }, { on := 11, ground := Ground.guard }], guard := some (11, true) }) (v := ?_) rfl (by kernel_rfl) (by kernel_rfl) (by kernel_rfl) (fun _ _ _ h => h) (Or.inl ⟨by rfl, ?_⟩) (by assumption) ?_
            rotate_left 1
            · intro w hSw; (try dsimp only at hSw); go_simp; all_goals (with_reducible rfl)
            try simp only [Act.put, List.setIfInBounds_toArray, List.set_cons_zero, List.set_cons_succ]
            refine wpAnyH_take (i := 14) (oi := { dst := some 18, op := Op.build 27 #[], type := 27, pos := "ref.go:235", after := #[{ on := 11, ground := Ground.guard }], guard := some (11, true) }) (v := ?_) rfl (by kernel_rfl) (by kernel_rfl) (by kernel_rfl) (fun _ _ _ h => h) (Or.inl ⟨by rfl, ?_⟩) (by assumption) ?_
            rotate_left 1
            · intro w hSw; (try dsimp only at hSw); go_simp; all_goals (with_reducible rfl)
            try simp only [Act.put, List.setIfInBounds_toArray, List.set_cons_zero, List.set_cons_succ]
            refine wpAnyH_take (i := 15) (oi := { dst := some 19, op := Op.binOp BinOp.neq 27 (Operand.tmp 17) (Operand.tmp 18) 27, type := 4, pos := "ref.go:235", after := #[{ on := 13, ground := Ground.data }, { on := 14, ground := Ground.data }, { on := 11, ground := Ground.guard }], guard := some (11, true) }) (v := ?_) rfl (by kernel_rfl) (by kernel_rfl) (by kernel_rfl) (fun _ _ _ h => h) (Or.inl ⟨by rfl, ?_⟩) (by assumption) ?_
            rotate_left 1
            · intro w hSw; (try dsimp only at hSw); go_simp; all_goals (with_reducible rfl)
            try simp only [Act.put, List.setIfInBounds_toArray, List.set_cons_zero, List.set_cons_succ]
            refine wpAnyH_take (i := 16) (oi := { dst := some 20, op := Op.pick (Operand.tmp 15) (Operand.tmp 19) (Operand.const (Value.bool false)), type := 4, pos := "ref.go:235", after := #[{ on := 11, ground := Ground.data }, { on := 15, ground := Ground.data }, { on := 7, ground := Ground.guard }], guard := some (7, false) }) (v := ?_) rfl (by kernel_rfl) (by kernel_rfl) (by kernel_rfl) (fun _ _ _ h => h) (Or.inl ⟨by rfl, ?_⟩) (by assumption) ?_
            rotate_left 1
            · intro w hSw; (try dsimp only at hSw); go_simp; all_goals (with_reducible rfl)
            try simp only [Act.put, List.setIfInBounds_toArray, List.set_cons_zero, List.set_cons_succ]
            refine wpAnyH_take (i := 17) (oi := { dst := some 21, op := Op.pick (Operand.tmp 11) (Operand.const (Value.bool true)) (Operand.tmp 20), type := 4, pos := "ref.go:235", after := #[{ on := 7, ground := Ground.data }, { on := 16, ground := Ground.data }], guard := none }) (v := ?_) rfl (by kernel_rfl) (by kernel_rfl) (by kernel_rfl) (fun _ _ _ h => h) (Or.inl ⟨by rfl, ?_⟩) (by assumption) ?_
            rotate_left 1
            · intro w hSw; (try dsimp only at hSw); go_simp; all_goals (with_reducible rfl)
            try simp only [Act.put, List.setIfInBounds_toArray, List.set_cons_zero, List.set_cons_succ]
            refine wpAnyH_done (by kernel_rfl) ?_ _
            go_wp2_with fail
            go_meet
            case rel => exact ⟨by rw [decide_eq_true HLen.out, HZ.out]; simp, HC.out⟩
          | false =>
            go_wp2_with fail
            refine wp_region_held_drew (S := (fun V => V.cell? ⟨q, 0, none⟩ = some (.int .i64 k) ∧ V.cell? ⟨q, 1, none⟩ = some (.int .u64 (wd f 0 64 : Nat)) ∧ V.cell? ⟨q, 2, none⟩ = some (.int .u64 (wd f 64 64 : Nat)) ∧ V.cell? ⟨q, 3, none⟩ = some (.int .u64 (wd f 128 64 : Nat)) ∧ V.cell? ⟨q, 4, none⟩ = some (.int .u64 (wd f 192 64 : Nat)) ∧ V.cell? ⟨q, 5, none⟩ = some (.slice a L c))) (by kernel_rfl) (by first | exact hS | (dsimp only; exact hS)) (fun hHeld => ?_)
            clear hHeld; have hHeld := hS
            refine wpAnyH_take (i := 0) (oi := { dst := some 4, op := Op.fieldAddr 30 (Operand.tmp 1) 2, type := 0, pos := "ref.go:235", after := #[], guard := none }) (v := ?_) rfl (by kernel_rfl) (by kernel_rfl) (by kernel_rfl) (fun _ _ _ h => h) (Or.inl ⟨by rfl, ?_⟩) (by assumption) ?_
            rotate_left 1
            · intro w hSw; (try dsimp only at hSw); go_simp; all_goals (with_reducible rfl)
            try simp only [Act.put, List.setIfInBounds_toArray, List.set_cons_zero, List.set_cons_succ]
            refine wpAnyH_take (i := 1) (oi := { dst := some 5, op := Op.load 28 (Operand.tmp 4), type := 28, pos := "ref.go:235", after := #[{ on := 0, ground := Ground.data }], guard := none }) (v := ?_) rfl (by kernel_rfl) (by kernel_rfl) (by kernel_rfl) (fun _ _ _ h => h) (Or.inl ⟨by rfl, ?_⟩) (by assumption) ?_
            rotate_left 1
            · intro w hSw; (try dsimp only at hSw); go_simp; all_goals (with_reducible rfl)
            try simp only [Act.put, List.setIfInBounds_toArray, List.set_cons_zero, List.set_cons_succ]
            refine wpAnyH_take (i := 2) (oi := { dst := some 6, op := Op.call { callee := Callee.builtin Builtin.len, args := #[Operand.tmp 5], argTypes := #[28] }, type := 3, pos := "ref.go:235", after := #[{ on := 1, ground := Ground.data }], guard := none }) (v := ?_) rfl (by kernel_rfl) (by kernel_rfl) (by kernel_rfl) (fun _ _ _ h => h) (Or.inl ⟨by rfl, ?_⟩) (by assumption) ?_
            rotate_left 1
            · intro w hSw; (try dsimp only at hSw); go_simp; all_goals (with_reducible rfl)
            try simp only [Act.put, List.setIfInBounds_toArray, List.set_cons_zero, List.set_cons_succ]
            refine wpAnyH_take (i := 3) (oi := { dst := some 7, op := Op.fieldAddr 30 (Operand.tmp 1) 0, type := 0, pos := "ref.go:235", after := #[], guard := none }) (v := ?_) rfl (by kernel_rfl) (by kernel_rfl) (by kernel_rfl) (fun _ _ _ h => h) (Or.inl ⟨by rfl, ?_⟩) (by assumption) ?_
            rotate_left 1
            · intro w hSw; (try dsimp only at hSw); go_simp; all_goals (with_reducible rfl)
            try simp only [Act.put, List.setIfInBounds_toArray, List.set_cons_zero, List.set_cons_succ]
            refine wpAnyH_take (i := 4) (oi := { dst := some 8, op := Op.load 3 (Operand.tmp 7), type := 3, pos := "ref.go:235", after := #[{ on := 3, ground := Ground.data }], guard := none }) (v := ?_) rfl (by kernel_rfl) (by kernel_rfl) (by kernel_rfl) (fun _ _ _ h => h) (Or.inl ⟨by rfl, ?_⟩) (by assumption) ?_
            rotate_left 1
            · intro w hSw; (try dsimp only at hSw); go_simp; all_goals (with_reducible rfl)
            try simp only [Act.put, List.setIfInBounds_toArray, List.set_cons_zero, List.set_cons_succ]
            refine wpAnyH_ready (rs := [5]) (by kernel_rfl) (by simp) ?_
            refine AllReadyH.cons (o := { dst := some 9, op := Op.call { callee := Callee.value (Operand.func 55), args := #[Operand.tmp 8], argTypes := #[3] }, type := 3, pos := "ref.go:235", after := #[{ on := 4, ground := Ground.data }], guard := none }) rfl (fun K hK => ?_) AllReadyH.nil
            go_simp
            with_reducible refine (HKd.out _).mono ?_
            rintro e wn ⟨rfl, kn⟩
            replace HC := Hid_mk (HC.out.trans' kn); replace hS := HKeep.out _ HC.out; clear kn
            refine hK.out _ _ hS (fun hHeld => ?_)
            clear hK K hHeld
            have hHeld := hS
            try simp only [Act.put, List.setIfInBounds_toArray, List.set_cons_zero, List.set_cons_succ]
            refine wpAnyH_take (i := 6) (oi := { dst := some 10, op := Op.binOp BinOp.neq 3 (Operand.tmp 6) (Operand.tmp 9) 3, type := 4, pos := "ref.go:235", after := #[{ on := 2, ground := Ground.data }, { on := 5, ground := Ground.data }], guard := none }) (v := ?_) rfl (by kernel_rfl) (by kernel_rfl) (by kernel_rfl) (fun _ _ _ h => h) (Or.inl ⟨by rfl, ?_⟩) (by assumption) ?_
            rotate_left 1
            · intro w hSw; (try dsimp only at hSw); go_simp; all_goals (with_reducible rfl)
            try simp only [Act.put, List.setIfInBounds_toArray, List.set_cons_zero, List.set_cons_succ]
            refine wpAnyH_take (i := 7) (oi := { dst := some 11, op := Op.move (Operand.tmp 10), type := 4, pos := "ref.go:235", after := #[{ on := 6, ground := Ground.data }, { on := 5, ground := Ground.chain }], guard := none }) (v := ?_) rfl (by kernel_rfl) (by kernel_rfl) (by kernel_rfl) (fun _ _ _ h => h) (Or.inl ⟨by rfl, ?_⟩) (by assumption) ?_
            rotate_left 1
            · intro w hSw; (try dsimp only at hSw); go_simp; all_goals (with_reducible rfl)
            try simp only [Act.put, List.setIfInBounds_toArray, List.set_cons_zero, List.set_cons_succ]
            refine wpAnyH_take (i := 8) (oi := { dst := some 12, op := Op.fieldAddr 30 (Operand.tmp 1) 0, type := 0, pos := "ref.go:235", after := #[{ on := 7, ground := Ground.guard }], guard := some (7, false) }) (v := ?_) rfl (by kernel_rfl) (by kernel_rfl) (by kernel_rfl) (fun _ _ _ h => h) (Or.inl ⟨by rfl, ?_⟩) (by assumption) ?_
            rotate_left 1
            · intro w hSw; (try dsimp only at hSw); go_simp; all_goals (with_reducible rfl)
            try simp only [Act.put, List.setIfInBounds_toArray, List.set_cons_zero, List.set_cons_succ]
            refine wpAnyH_take (i := 9) (oi := { dst := some 13, op := Op.load 3 (Operand.tmp 12), type := 3, pos := "ref.go:235", after := #[{ on := 8, ground := Ground.data }, { on := 7, ground := Ground.guard }], guard := some (7, false) }) (v := ?_) rfl (by kernel_rfl) (by kernel_rfl) (by kernel_rfl) (fun _ _ _ h => h) (Or.inl ⟨by rfl, ?_⟩) (by assumption) ?_
            rotate_left 1
            · intro w hSw; (try dsimp only at hSw); go_simp; all_goals (with_reducible rfl)
            try simp only [Act.put, List.setIfInBounds_toArray, List.set_cons_zero, List.set_cons_succ]
            refine wpAnyH_take (i := 10) (oi := { dst := some 14, op := Op.binOp BinOp.neq 3 (Operand.tmp 13) (Operand.const (Value.int IntKind.i64 1)) 3, type := 4, pos := "ref.go:235", after := #[{ on := 9, ground := Ground.data }, { on := 7, ground := Ground.guard }], guard := some (7, false) }) (v := ?_) rfl (by kernel_rfl) (by kernel_rfl) (by kernel_rfl) (fun _ _ _ h => h) (Or.inl ⟨by rfl, ?_⟩) (by assumption) ?_
            rotate_left 1
            · intro w hSw; (try dsimp only at hSw); go_simp; all_goals (with_reducible rfl)
            try simp only [Act.put, List.setIfInBounds_toArray, List.set_cons_zero, List.set_cons_succ]
            refine wpAnyH_take (i := 11) (oi := { dst := some 15, op := Op.move (Operand.tmp 14), type := 4, pos := "ref.go:235", after := #[{ on := 10, ground := Ground.data }, { on := 7, ground := Ground.chain }, { on := 7, ground := Ground.guard }], guard := some (7, false) }) (v := ?_) rfl (by kernel_rfl) (by kernel_rfl) (by kernel_rfl) (fun _ _ _ h => h) (Or.inl ⟨by rfl, ?_⟩) (by assumption) ?_
            rotate_left 1
            · intro w hSw; (try dsimp only at hSw); go_simp; all_goals (with_reducible rfl)
            try simp only [Act.put, List.setIfInBounds_toArray, List.set_cons_zero, List.set_cons_succ]
            refine wpAnyH_take (i := 12) (oi := { dst := some 16, op := Op.fieldAddr 30 (Operand.tmp 1) 1, type := 0, pos := "ref.go:235", after := #[{ on := 11, ground := Ground.guard }], guard := some (11, true) }) (v := ?_) rfl (by kernel_rfl) (by kernel_rfl) (by kernel_rfl) (fun _ _ _ h => h) (Or.inl ⟨by rfl, ?_⟩) (by assumption) ?_
            rotate_left 1
            · intro w hSw; (try dsimp only at hSw); go_simp; all_goals (with_reducible rfl)
            try simp only [Act.put, List.setIfInBounds_toArray, List.set_cons_zero, List.set_cons_succ]
            refine wpAnyH_take (i := 13) (oi := { dst := some 17, op := Op.load 27 (Operand.tmp 16), type := 27, pos := "ref.go:235", after := #[{ on := 12, ground := Ground.data }, { on := 11, ground := Ground.guard }], guard := some (11, true) }) (v := ?_) rfl (by kernel_rfl) (by kernel_rfl) (by kernel_rfl) (fun _ _ _ h => h) (Or.inl ⟨by rfl, ?_⟩) (by assumption) ?_
            rotate_left 1
            · intro w hSw; (try dsimp only at hSw); go_simp; all_goals (with_reducible rfl)
            try simp only [Act.put, List.setIfInBounds_toArray, List.set_cons_zero, List.set_cons_succ]
            refine wpAnyH_take (i := 14) (oi := { dst := some 18, op := Op.build 27 #[], type := 27, pos := "ref.go:235", after := #[{ on := 11, ground := Ground.guard }], guard := some (11, true) }) (v := ?_) rfl (by kernel_rfl) (by kernel_rfl) (by kernel_rfl) (fun _ _ _ h => h) (Or.inl ⟨by rfl, ?_⟩) (by assumption) ?_
            rotate_left 1
            · intro w hSw; (try dsimp only at hSw); go_simp; all_goals (with_reducible rfl)
            try simp only [Act.put, List.setIfInBounds_toArray, List.set_cons_zero, List.set_cons_succ]
            refine wpAnyH_take (i := 15) (oi := { dst := some 19, op := Op.binOp BinOp.neq 27 (Operand.tmp 17) (Operand.tmp 18) 27, type := 4, pos := "ref.go:235", after := #[{ on := 13, ground := Ground.data }, { on := 14, ground := Ground.data }, { on := 11, ground := Ground.guard }], guard := some (11, true) }) (v := ?_) rfl (by kernel_rfl) (by kernel_rfl) (by kernel_rfl) (fun _ _ _ h => h) (Or.inl ⟨by rfl, ?_⟩) (by assumption) ?_
            rotate_left 1
            · intro w hSw; (try dsimp only at hSw); go_simp; all_goals (with_reducible rfl)
            try simp only [Act.put, List.setIfInBounds_toArray, List.set_cons_zero, List.set_cons_succ]
            refine wpAnyH_take (i := 16) (oi := { dst := some 20, op := Op.pick (Operand.tmp 15) (Operand.tmp 19) (Operand.const (Value.bool false)), type := 4, pos := "ref.go:235", after := #[{ on := 11, ground := Ground.data }, { on := 15, ground := Ground.data }, { on := 7, ground := Ground.guard }], guard := some (7, false) }) (v := ?_) rfl (by kernel_rfl) (by kernel_rfl) (by kernel_rfl) (fun _ _ _ h => h) (Or.inl ⟨by rfl, ?_⟩) (by assumption) ?_
            rotate_left 1
            · intro w hSw; (try dsimp only at hSw); go_simp; all_goals (with_reducible rfl)
            try simp only [Act.put, List.setIfInBounds_toArray, List.set_cons_zero, List.set_cons_succ]
            refine wpAnyH_take (i := 17) (oi := { dst := some 21, op := Op.pick (Operand.tmp 11) (Operand.const (Value.bool true)) (Operand.tmp 20), type := 4, pos := "ref.go:235", after := #[{ on := 7, ground := Ground.data }, { on := 16, ground := Ground.data }], guard := none }) (v := ?_) rfl (by kernel_rfl) (by kernel_rfl) (by kernel_rfl) (fun _ _ _ h => h) (Or.inl ⟨by rfl, ?_⟩) (by assumption) ?_
            rotate_left 1
            · intro w hSw; (try dsimp only at hSw); go_simp; all_goals (with_reducible rfl)
            try simp only [Act.put, List.setIfInBounds_toArray, List.set_cons_zero, List.set_cons_succ]
            refine wpAnyH_done (by kernel_rfl) ?_ _
            go_wp2_with fail
            go_ret
            exact ⟨by rw [HZ.out, decide_eq_false HK1.out]; simp, HK0.out.trans' HC.out⟩
      · have hlb : ((L : Int) == kd) = false := by rw [beq_eq_false_iff_ne]; exact hlen
        have hlb2 : ((L : Int) != kd) = true := by simp [hlen]
        have HLen := Hid_mk hlen
        clear hlen
        go_wp2_with fail
        refine wp_region_held_drew (S := (fun V => V.cell? ⟨q, 0, none⟩ = some (.int .i64 k) ∧ V.cell? ⟨q, 1, none⟩ = some (.int .u64 (wd f 0 64 : Nat)) ∧ V.cell? ⟨q, 2, none⟩ = some (.int .u64 (wd f 64 64 : Nat)) ∧ V.cell? ⟨q, 3, none⟩ = some (.int .u64 (wd f 128 64 : Nat)) ∧ V.cell? ⟨q, 4, none⟩ = some (.int .u64 (wd f 192 64 : Nat)) ∧ V.cell? ⟨q, 5, none⟩ = some (.slice a L c))) (by kernel_rfl) (by first | exact hS | (dsimp only; exact hS)) (fun hHeld => ?_)
        clear hHeld; have hHeld := hS
        refine wpAnyH_take (i := 0) (oi := { dst := some 4, op := Op.fieldAddr 30 (Operand.tmp 1) 2, type := 0, pos := "ref.go:235", after := #[], guard := none }) (v := ?_) rfl (by kernel_rfl) (by kernel_rfl) (by kernel_rfl) (fun _ _ _ h => h) (Or.inl ⟨by rfl, ?_⟩) (by assumption) ?_
        rotate_left 1
        · intro w hSw; (try dsimp only at hSw); go_simp; all_goals (with_reducible rfl)
        try simp only [Act.put, List.setIfInBounds_toArray, List.set_cons_zero, List.set_cons_succ]
        refine wpAnyH_take (i := 1) (oi := { dst := some 5, op := Op.load 28 (Operand.tmp 4), type := 28, pos := "ref.go:235", after := #[{ on := 0, ground := Ground.data }], guard := none }) (v := ?_) rfl (by kernel_rfl) (by kernel_rfl) (by kernel_rfl) (fun _ _ _ h => h) (Or.inl ⟨by rfl, ?_⟩) (by assumption) ?_
        rotate_left 1
        · intro w hSw; (try dsimp only at hSw); go_simp; all_goals (with_reducible rfl)
        try simp only [Act.put, List.setIfInBounds_toArray, List.set_cons_zero, List.set_cons_succ]
        refine wpAnyH_take (i := 2) (oi := { dst := some 6, op := Op.call { callee := Callee.builtin Builtin.len, args := #[Operand.tmp 5], argTypes := #[28] }, type := 3, pos := "ref.go:235", after := #[{ on := 1, ground := Ground.data }], guard := none }) (v := ?_) rfl (by kernel_rfl) (by kernel_rfl) (by kernel_rfl) (fun _ _ _ h => h) (Or.inl ⟨by rfl, ?_⟩) (by assumption) ?_
        rotate_left 1
        · intro w hSw; (try dsimp only at hSw); go_simp; all_goals (with_reducible rfl)
        try simp only [Act.put, List.setIfInBounds_toArray, List.set_cons_zero, List.set_cons_succ]
        refine wpAnyH_take (i := 3) (oi := { dst := some 7, op := Op.fieldAddr 30 (Operand.tmp 1) 0, type := 0, pos := "ref.go:235", after := #[], guard := none }) (v := ?_) rfl (by kernel_rfl) (by kernel_rfl) (by kernel_rfl) (fun _ _ _ h => h) (Or.inl ⟨by rfl, ?_⟩) (by assumption) ?_
        rotate_left 1
        · intro w hSw; (try dsimp only at hSw); go_simp; all_goals (with_reducible rfl)
        try simp only [Act.put, List.setIfInBounds_toArray, List.set_cons_zero, List.set_cons_succ]
        refine wpAnyH_take (i := 4) (oi := { dst := some 8, op := Op.load 3 (Operand.tmp 7), type := 3, pos := "ref.go:235", after := #[{ on := 3, ground := Ground.data }], guard := none }) (v := ?_) rfl (by kernel_rfl) (by kernel_rfl) (by kernel_rfl) (fun _ _ _ h => h) (Or.inl ⟨by rfl, ?_⟩) (by assumption) ?_
        rotate_left 1
        · intro w hSw; (try dsimp only at hSw); go_simp; all_goals (with_reducible rfl)
        try simp only [Act.put, List.setIfInBounds_toArray, List.set_cons_zero, List.set_cons_succ]
        refine wpAnyH_ready (rs := [5]) (by kernel_rfl) (by simp) ?_
        refine AllReadyH.cons (o := { dst := some 9, op := Op.call { callee := Callee.value (Operand.func 55), args := #[Operand.tmp 8], argTypes := #[3] }, type := 3, pos := "ref.go:235", after := #[{ on := 4, ground := Ground.data }], guard := none }) rfl (fun K hK => ?_) AllReadyH.nil
        go_simp
        with_reducible refine (HKd.out _).mono ?_
        rintro e wn ⟨rfl, kn⟩
        replace HC := Hid_mk (HC.out.trans' kn); replace hS := HKeep.out _ HC.out; clear kn
        refine hK.out _ _ hS (fun hHeld => ?_)
        clear hK K hHeld
        have hHeld := hS
        try simp only [Act.put, List.setIfInBounds_toArray, List.set_cons_zero, List.set_cons_succ]
        refine wpAnyH_take (i := 6) (oi := { dst := some 10, op := Op.binOp BinOp.neq 3 (Operand.tmp 6) (Operand.tmp 9) 3, type := 4, pos := "ref.go:235", after := #[{ on := 2, ground := Ground.data }, { on := 5, ground := Ground.data }], guard := none }) (v := ?_) rfl (by kernel_rfl) (by kernel_rfl) (by kernel_rfl) (fun _ _ _ h => h) (Or.inl ⟨by rfl, ?_⟩) (by assumption) ?_
        rotate_left 1
        · intro w hSw; (try dsimp only at hSw); go_simp; all_goals (with_reducible rfl)
        try simp only [Act.put, List.setIfInBounds_toArray, List.set_cons_zero, List.set_cons_succ]
        refine wpAnyH_take (i := 7) (oi := { dst := some 11, op := Op.move (Operand.tmp 10), type := 4, pos := "ref.go:235", after := #[{ on := 6, ground := Ground.data }, { on := 5, ground := Ground.chain }], guard := none }) (v := ?_) rfl (by kernel_rfl) (by kernel_rfl) (by kernel_rfl) (fun _ _ _ h => h) (Or.inl ⟨by rfl, ?_⟩) (by assumption) ?_
        rotate_left 1
        · intro w hSw; (try dsimp only at hSw); go_simp; all_goals (with_reducible rfl)
        try simp only [Act.put, List.setIfInBounds_toArray, List.set_cons_zero, List.set_cons_succ]
        refine wpAnyH_take (i := 8) (oi := { dst := some 12, op := Op.fieldAddr 30 (Operand.tmp 1) 0, type := 0, pos := "ref.go:235", after := #[{ on := 7, ground := Ground.guard }], guard := some (7, false) }) (v := undef) rfl (by kernel_rfl) (by kernel_rfl) (by kernel_rfl) (fun _ _ _ h => h) (Or.inr ⟨by rfl, rfl⟩) (by assumption) ?_
        try simp only [Act.put, List.setIfInBounds_toArray, List.set_cons_zero, List.set_cons_succ]
        refine wpAnyH_take (i := 9) (oi := { dst := some 13, op := Op.load 3 (Operand.tmp 12), type := 3, pos := "ref.go:235", after := #[{ on := 8, ground := Ground.data }, { on := 7, ground := Ground.guard }], guard := some (7, false) }) (v := undef) rfl (by kernel_rfl) (by kernel_rfl) (by kernel_rfl) (fun _ _ _ h => h) (Or.inr ⟨by rfl, rfl⟩) (by assumption) ?_
        try simp only [Act.put, List.setIfInBounds_toArray, List.set_cons_zero, List.set_cons_succ]
        refine wpAnyH_take (i := 10) (oi := { dst := some 14, op := Op.binOp BinOp.neq 3 (Operand.tmp 13) (Operand.const (Value.int IntKind.i64 1)) 3, type := 4, pos := "ref.go:235", after := #[{ on := 9, ground := Ground.data }, { on := 7, ground := Ground.guard }], guard := some (7, false) }) (v := undef) rfl (by kernel_rfl) (by kernel_rfl) (by kernel_rfl) (fun _ _ _ h => h) (Or.inr ⟨by rfl, rfl⟩) (by assumption) ?_
        try simp only [Act.put, List.setIfInBounds_toArray, List.set_cons_zero, List.set_cons_succ]
        refine wpAnyH_take (i := 11) (oi := { dst := some 15, op := Op.move (Operand.tmp 14), type := 4, pos := "ref.go:235", after := #[{ on := 10, ground := Ground.data }, { on := 7, ground := Ground.chain }, { on := 7, ground := Ground.guard }], guard := some (7, false) }) (v := undef) rfl (by kernel_rfl) (by kernel_rfl) (by kernel_rfl) (fun _ _ _ h => h) (Or.inr ⟨by rfl, rfl⟩) (by assumption) ?_
        try simp only [Act.put, List.setIfInBounds_toArray, List.set_cons_zero, List.set_cons_succ]
        refine wpAnyH_take (i := 12) (oi := { dst := some 16, op := Op.fieldAddr 30 (Operand.tmp 1) 1, type := 0, pos := "ref.go:235", after := #[{ on := 11, ground := Ground.guard }], guard := some (11, true) }) (v := undef) rfl (by kernel_rfl) (by kernel_rfl) (by kernel_rfl) (fun _ _ _ h => h) (Or.inr ⟨by rfl, rfl⟩) (by assumption) ?_
        try simp only [Act.put, List.setIfInBounds_toArray, List.set_cons_zero, List.set_cons_succ]
        refine wpAnyH_take (i := 13) (oi := { dst := some 17, op := Op.load 27 (Operand.tmp 16), type := 27, pos := "ref.go:235", after := #[{ on := 12, ground := Ground.data }, { on := 11, ground := Ground.guard }], guard := some (11, true) }) (v := undef) rfl (by kernel_rfl) (by kernel_rfl) (by kernel_rfl) (fun _ _ _ h => h) (Or.inr ⟨by rfl, rfl⟩) (by assumption) ?_
        try simp only [Act.put, List.setIfInBounds_toArray, List.set_cons_zero, List.set_cons_succ]
        refine wpAnyH_take (i := 14) (oi := { dst := some 18, op := Op.build 27 #[], type := 27, pos := "ref.go:235", after := #[{ on := 11, ground := Ground.guard }], guard := some (11, true) }) (v := undef) rfl (by kernel_rfl) (by kernel_rfl) (by kernel_rfl) (fun _ _ _ h => h) (Or.inr ⟨by rfl, rfl⟩) (by assumption) ?_
        try simp only [Act.put, List.setIfInBounds_toArray, List.set_cons_zero, List.set_cons_succ]
        refine wpAnyH_take (i := 15) (oi := { dst := some 19, op := Op.binOp BinOp.neq 27 (Operand.tmp 17) (Operand.tmp 18) 27, type := 4, pos := "ref.go:235", after := #[{ on := 13, ground := Ground.data }, { on := 14, ground := Ground.data }, { on := 11, ground := Ground.guard }], guard := some (11, true) }) (v := undef) rfl (by kernel_rfl) (by kernel_rfl) (by kernel_rfl) (fun _ _ _ h => h) (Or.inr ⟨by rfl, rfl⟩) (by assumption) ?_
        try simp only [Act.put, List.setIfInBounds_toArray, List.set_cons_zero, List.set_cons_succ]
        refine wpAnyH_take (i := 16) (oi := { dst := some 20, op := Op.pick (Operand.tmp 15) (Operand.tmp 19) (Operand.const (Value.bool false)), type := 4, pos := "ref.go:235", after := #[{ on := 11, ground := Ground.data }, { on := 15, ground := Ground.data }, { on := 7, ground := Ground.guard }], guard := some (7, false) }) (v := undef) rfl (by kernel_rfl) (by kernel_rfl) (by kernel_rfl) (fun _ _ _ h => h) (Or.inr ⟨by rfl, rfl⟩) (by assumption) ?_
        try simp only [Act.put, List.setIfInBounds_toArray, List.set_cons_zero, List.set_cons_succ]
        refine wpAnyH_take (i := 17) (oi := { dst := some 21, op := Op.pick (Operand.tmp 11) (Operand.const (Value.bool true)) (Operand.tmp 20), type := 4, pos := "ref.go:235", after := #[{ on := 7, ground := Ground.data }, { on := 16, ground := Ground.data }], guard := none }) (v := ?_) rfl (by kernel_rfl) (by kernel_rfl) (by kernel_rfl) (fun _ _ _ h => h) (Or.inl ⟨by rfl, ?_⟩) (by assumption) ?_
        rotate_left 1
        · intro w hSw; (try dsimp only at hSw); go_simp; all_goals (with_reducible rfl)
        try simp only [Act.put, List.setIfInBounds_toArray, List.set_cons_zero, List.set_cons_succ]
        refine wpAnyH_done (by kernel_rfl) ?_ _
        go_wp2_with fail
        go_ret
        exact ⟨by rw [decide_eq_false HLen.out]; simp, HK0.out.trans' HC.out⟩
    case rest =>
      obtain ⟨ht, hkc⟩ := hcut
      obtain ⟨WC, hWC⟩ : ∃ WC, WC = wc := ⟨_, rfl⟩
      rw [← hWC] at hkc ⊢
      have HKC := Hid_mk hkc
      have HTt := Hid_mk ht
      clear hWC hkc ht hS HC HKd hz
      go_wp2
      go_loopw [3] (fun i wr => ShRel W0 l i wr) (fun i _ => L - (intOf i).toNat)
      case atStart => exact ⟨0, Nat.zero_le _, rfl, rfl, HKC.out⟩
      case round =>
        obtain ⟨j, hj, rfl, he, hkp⟩ := hrel
        rw [HLn.out] at hj
        have HKp := Hid_mk hkp
        have HE := Hid_mk he
        have d5 := hkp.cell' c5 id
        have hj0 : (0 : Int) ≤ (j : Int) := Int.natCast_nonneg _
        by_cases hlt : j < L
        · have hji : (j : Int) < (L : Int) := by omega
          have hjl : j < l.length := by rw [HLn.out]; exact hlt
          have hwi : IntKind.i64.wrap ((j : Int) + 1) = (j : Int) + 1 := IntWalk.i64_in _ (by omega)
          have hd := shapedL_drop l j hjl
          rw [he] at hd
          have HD := Hid_mk hd
          obtain ⟨b, o, rfl, -, hr⟩ := H3.out (by intro e; rw [e] at hjl; simp at hjl)
          have hr1 := ReL.no (HK0.out.trans' hkp) b o l hr
          obtain ⟨k', f', a', n', c', g0, g1, g2, g3, g4, g5, hv'⟩ := hr1.get j hjl
          have hsz2 := size_get l j hjl
          have HCn := Hid_mk (HIh.out l[j] (by have := HSz.out; omega) wr _ hv')
          unfold cellsR at HCn
          obtain ⟨B, hB⟩ : ∃ B, shapedS l[j] = B := ⟨_, rfl⟩
          rw [hB] at HD HCn
          clear hkp he hd hr hr1 hv' hsz2 hB
          go_wp2_with fail
          with_reducible refine HCn.out.mono ?_
          rintro e w1 ⟨rfl, k1⟩
          have HK1 := Hid_mk (HKp.out.trans' k1)
          clear k1 d5 g0 g1 g2 g3 g4 g5 HCn
          cases B with
          | false =>
            go_wp2
            go_ret
            exact ⟨by rw [HTt.out, HD.out]; simp, HK0.out.trans' HK1.out⟩
          | true =>
            go_wp2
            go_roundw
            case rel => exact ⟨j + 1, by rw [HLn.out]; omega, by push_cast; rfl, by rw [HD.out]; simp, HK1.out⟩
            case measure => simp only [intOf]; omega
        · obtain rfl : j = L := by omega
          have hji : ¬ ((j : Int) < (j : Int)) := by omega
          have hend : shapedL l = true := by
            have h := HE.out
            rw [← HLn.out, List.drop_length] at h
            rw [← h]
            rfl
          have HEnd := Hid_mk hend
          clear hend he
          go_wp2
          go_ret
          exact ⟨by rw [HTt.out, HEnd.out]; first | rfl | simp, HK0.out.trans' HKp.out⟩

end Go.Proofs.Ytaneblecgjahbab.tre
