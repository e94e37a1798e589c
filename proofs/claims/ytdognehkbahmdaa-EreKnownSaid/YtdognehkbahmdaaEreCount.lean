/- Package ere: is a tree right, how many leaves has it? -/
import Derived.Test.YtdognehkbahmdaaEreKnown0
import Derived.Test.YtdognehkbahmdaaRefRight
namespace Go.Proofs.Ytdognehkbahmdaa.ere
open Go.RowKit Go.Proofs.Ytdognehkbahmdaa.sum Go.Proofs.Ytdognehkbahmdaa.kept Go.Proofs.Ytdognehkbahmdaa.pop Go.Proofs.Ytdognehkbahmdaa.cls Go.Proofs.Ytdognehkbahmdaa.tre Go.Proofs.Ytdognehkbahmdaa.str
set_option linter.unusedVariables false

def formedB (k : Int) (f : Nat → Bool) (n : Nat) : Bool := decide ((n : Int) = kidsS k) && (decide (k = 1) || zeroB f)
theorem z_eq (n : Nat) : ((n : Int) == 0) = decide (n = 0) := by by_cases h : n = 0 <;> simp [h]
theorem shaped_mk (k : Int) (f : Nat → Bool) (l : List Tr) : shapedS (.mk k f l) = (formedB k f l.length && shapedL l) := by rw [shapedS]; rfl
theorem nz_set (f : Nat → Bool) (W : World) (z : Bool) (hz : zeroB f = z) : (Op.equalIn 10000 24 (.agg #[.int .u64 (wd f 0 64 : Nat), .int .u64 (wd f 64 64 : Nat), .int .u64 (wd f 128 64 : Nat), .int .u64 (wd f 192 64 : Nat)]) (.agg #[.int .u64 0, .int .u64 0, .int .u64 0, .int .u64 0])).run Try.prog W = .ok z W := by
  rw [← hz]
  exact ne_zero_set f W

set_option maxRecDepth 100000 in
set_option maxHeartbeats 4000000 in
theorem formed_any (w : World) (k : Int) (f : Nat → Bool) (a : Option Addr) (n c : Nat) : Calls Try.prog 56 #[.agg (cellsR k f a n c)] w fun e w' => e = .returned (.bool (formedB k f n)) ∧ Kp No w w' := by
  have HK0 := Hid_mk ((Kp.refl No w).alloc (.cells (cellsR k f a n c) 27))
  unfold cellsR at HK0
  obtain ⟨z, hz⟩ : ∃ z, zeroB f = z := ⟨_, rfl⟩
  have hq := fun W => nz_set f W z hz
  have HZ := Hid_mk hz
  clear hz
  obtain ⟨B, hB⟩ : ∃ B, formedB k f n = B := ⟨_, rfl⟩
  rw [hB]
  unfold formedB at hB
  rw [HZ.out] at hB
  have HB := Hid_mk hB
  clear hB
  by_cases h0 : k = 0
  · subst h0
    cases z
    all_goals
      go_enter Try.func56, Try.ntmps56
      unfold cellsR
      go_wp2
      go_ret
      refine ⟨?_, HK0.out⟩
      rw [← HB.out]
      simp [kidsS]
      first | done | rfl | exact z_eq n
  by_cases h1 : k = 1
  · subst h1
    go_enter Try.func56, Try.ntmps56
    unfold cellsR
    go_wp2
    go_ret
    refine ⟨?_, HK0.out⟩
    rw [← HB.out]
    simp [kidsS]
    first | done | rfl | exact z_eq n
  by_cases h2 : k = 2
  · subst h2
    cases z
    all_goals
      go_enter Try.func56, Try.ntmps56
      unfold cellsR
      go_wp2
      go_ret
      refine ⟨?_, HK0.out⟩
      rw [← HB.out]
      simp [kidsS]
      first | done | rfl | exact z_eq n
  by_cases h3 : k = 3
  · subst h3
    cases z
    all_goals
      go_enter Try.func56, Try.ntmps56
      unfold cellsR
      go_wp2
      go_ret
      refine ⟨?_, HK0.out⟩
      rw [← HB.out]
      simp [kidsS]
      first | done | rfl | exact z_eq n
  by_cases h4 : k = 4
  · subst h4
    cases z
    all_goals
      go_enter Try.func56, Try.ntmps56
      unfold cellsR
      go_wp2
      go_ret
      refine ⟨?_, HK0.out⟩
      rw [← HB.out]
      simp [kidsS]
      first | done | rfl | exact z_eq n
  by_cases h5 : k = 5
  · subst h5
    cases z
    all_goals
      go_enter Try.func56, Try.ntmps56
      unfold cellsR
      go_wp2
      go_ret
      refine ⟨?_, HK0.out⟩
      rw [← HB.out]
      simp [kidsS]
      first | done | rfl | exact z_eq n
  by_cases h6 : k = 6
  · subst h6
    cases z
    all_goals
      go_enter Try.func56, Try.ntmps56
      unfold cellsR
      go_wp2
      go_ret
      refine ⟨?_, HK0.out⟩
      rw [← HB.out]
      simp [kidsS]
      first | done | rfl | exact z_eq n
  by_cases h7 : k = 7
  · subst h7
    cases z
    all_goals
      go_enter Try.func56, Try.ntmps56
      unfold cellsR
      go_wp2
      go_ret
      refine ⟨?_, HK0.out⟩
      rw [← HB.out]
      simp [kidsS]
      first | done | rfl | exact z_eq n
  by_cases h8 : k = 8
  · subst h8
    cases z
    all_goals
      go_enter Try.func56, Try.ntmps56
      unfold cellsR
      go_wp2
      go_ret
      refine ⟨?_, HK0.out⟩
      rw [← HB.out]
      simp [kidsS]
      first | done | rfl | exact z_eq n
  have e0 : (k == 0) = false := by rw [beq_eq_false_iff_ne]; exact h0
  have e1 : (k == 1) = false := by rw [beq_eq_false_iff_ne]; exact h1
  have e2 : (k == 2) = false := by rw [beq_eq_false_iff_ne]; exact h2
  have e3 : (k == 3) = false := by rw [beq_eq_false_iff_ne]; exact h3
  have e4 : (k == 4) = false := by rw [beq_eq_false_iff_ne]; exact h4
  have e5 : (k == 5) = false := by rw [beq_eq_false_iff_ne]; exact h5
  have e6 : (k == 6) = false := by rw [beq_eq_false_iff_ne]; exact h6
  have e7 : (k == 7) = false := by rw [beq_eq_false_iff_ne]; exact h7
  have e8 : (k == 8) = false := by rw [beq_eq_false_iff_ne]; exact h8
  have en : (k != 1) = true := by simp [h1]
  have hB2 : B = false := by
    rw [← HB.out, show kidsS k = -1 from by unfold kidsS; rw [if_neg (by omega), if_neg (by omega), if_neg (by omega)], decide_eq_false (by omega)]
    rfl
  rw [hB2]
  clear hB2 h0 h1 h2 h3 h4 h5 h6 h7 h8
  cases z
  all_goals
    go_enter Try.func56, Try.ntmps56
    unfold cellsR
    go_wp2
    go_ret
    exact ⟨rfl, HK0.out⟩

/-- how many leaves, so deep, at most so many -/
def cntS : Tr → Nat → Nat → Option Nat
  | .mk k f l, d, m =>
    if 40 < d then none
    else if formedB k f l.length = false then none
    else match l with
      | [] => if m = 0 then none else some 1
      | [x] => cntS x (d + 1) m
      | x :: y :: _ => match cntS x (d + 1) m with
        | none => none
        | some n => (cntS y d (m - n)).map (n + ·)
theorem kids_le (k : Int) : kidsS k ≤ 2 := by unfold kidsS; repeat (split; · omega); omega
theorem formed_le {k : Int} {f : Nat → Bool} {n : Nat} (h : formedB k f n = true) : n ≤ 2 := by
  unfold formedB at h
  simp only [Bool.and_eq_true, decide_eq_true_eq] at h
  have := kids_le k
  omega
theorem formed_kids {k : Int} {f : Nat → Bool} {n : Nat} (h : formedB k f n = true) : (n : Int) = kidsS k := by
  unfold formedB at h
  simp only [Bool.and_eq_true, decide_eq_true_eq] at h
  exact h.1
theorem same2 {k : Int} (h : kidsS k = 2) : sameB k 1 = true := by
  unfold kidsS at h
  unfold sameB
  split at h
  · omega
  · split at h
    · omega
    · split at h
      · rename_i hk
        rcases hk with rfl | rfl <;> rfl
      · omega
def okP (t : Tr) (d m : Nat) : Prop := shapedS t = true ∧ deepS t (41 - d) = true ∧ setsS t ≤ m
theorem cnt_is : ∀ (t : Tr) (d m : Nat), d ≤ 41 → (okP t d m → cntS t d m = some (setsS t)) ∧ (¬ okP t d m → cntS t d m = none)
  | .mk k f l, d, m, hd => by
    unfold okP
    rw [cntS.eq_def]
    simp only
    by_cases h40 : 40 < d
    · obtain rfl : d = 41 := by omega
      rw [if_pos h40, show 41 - 41 = 0 from rfl, deepS]
      exact ⟨fun h => by simp at h, fun _ => rfl⟩
    · rw [if_neg h40]
      obtain ⟨e, he⟩ : ∃ e, 41 - d = e + 1 := ⟨40 - d, by omega⟩
      rw [shaped_mk, he, deepS]
      cases hf : formedB k f l.length with
      | false => exact ⟨fun h => by simp at h, fun _ => by simp⟩
      | true =>
        rw [if_neg (by simp)]
        have h2 := formed_le hf
        have hk := formed_kids hf
        have h0 : sameB k 0 = false := by simp [sameB]
        match l, h2, hk, hf with
        | [], _, _, _ =>
          have e1 : setsS (.mk k f []) = 1 := by rw [setsS]
          have e2 : shapedL [] = true := by rw [shapedL]
          have e3 : deepL k (e + 1) 0 [] = true := by rw [deepL]
          rw [e1, e2, e3]
          by_cases hm : m = 0
          · rw [if_pos hm]
            exact ⟨fun h => absurd h.2.2 (by omega), fun _ => rfl⟩
          · rw [if_neg hm]
            exact ⟨fun _ => rfl, fun h => absurd ⟨rfl, rfl, by omega⟩ h⟩
        | [x], _, _, _ =>
          obtain ⟨i1, i2⟩ := cnt_is x (d + 1) m (by omega)
          unfold okP at i1 i2
          rw [show 41 - (d + 1) = e by omega] at i1 i2
          have e1 : setsS (.mk k f [x]) = setsS x := by rw [setsS, setsL, Nat.add_zero]
          have e2 : shapedL [x] = shapedS x := by rw [shapedL, shapedL, Bool.and_true]
          have e3 : deepL k (e + 1) 0 [x] = deepS x e := by rw [deepL, deepL, h0, Bool.and_true]; rfl
          rw [e1, e2, e3, Bool.true_and]
          exact ⟨i1, i2⟩
        | [x, y], _, hk, _ =>
          obtain ⟨i1, i2⟩ := cnt_is x (d + 1) m (by omega)
          obtain ⟨j1, j2⟩ := cnt_is y d (m - setsS x) (by omega)
          unfold okP at i1 i2 j1 j2
          rw [show 41 - (d + 1) = e by omega] at i1 i2
          rw [he] at j1 j2
          have h1 : sameB k 1 = true := same2 (by simpa using hk.symm)
          have e1 : setsS (.mk k f [x, y]) = setsS x + setsS y := by rw [setsS, setsL, setsL, Nat.add_zero]
          have e2 : shapedL [x, y] = (shapedS x && shapedS y) := by rw [shapedL, shapedL, shapedL, Bool.and_true]
          have e3 : deepL k (e + 1) 0 [x, y] = (deepS x e && deepS y (e + 1)) := by rw [deepL, deepL, deepL, h0, h1, Bool.and_true]; rfl
          rw [e1, e2, e3, Bool.true_and]
          simp only [Bool.and_eq_true]
          by_cases hx : shapedS x = true ∧ deepS x e = true ∧ setsS x ≤ m
          · rw [i1 hx]
            simp only
            by_cases hy : shapedS y = true ∧ deepS y (e + 1) = true ∧ setsS y ≤ m - setsS x
            · rw [j1 hy]
              exact ⟨fun _ => rfl, fun h => absurd ⟨⟨hx.1, hy.1⟩, ⟨hx.2.1, hy.2.1⟩, by omega⟩ h⟩
            · rw [j2 hy]
              exact ⟨fun h => absurd ⟨h.1.2, h.2.1.2, by have := h.2.2; omega⟩ hy, fun _ => rfl⟩
          · rw [i2 hx]
            exact ⟨fun h => absurd ⟨h.1.1, h.2.1.1, by have := h.2.2; omega⟩ hx, fun _ => rfl⟩
        | x :: y :: z :: r, h2, _, _ => simp at h2
theorem cnt_right (t : Tr) : cntS t 1 400 = if rightS t = true then some (setsS t) else none := by
  obtain ⟨i1, i2⟩ := cnt_is t 1 400 (by decide)
  by_cases h : rightS t = true
  · rw [if_pos h]
    unfold rightS at h
    simp only [Bool.and_eq_true, decide_eq_true_eq] at h
    exact i1 ⟨h.1.1, h.1.2, h.2⟩
  · rw [if_neg h]
    refine i2 fun hh => h ?_
    unfold rightS
    simp only [Bool.and_eq_true, decide_eq_true_eq]
    exact ⟨⟨hh.1, hh.2.1⟩, hh.2.2⟩

end Go.Proofs.Ytdognehkbahmdaa.ere
