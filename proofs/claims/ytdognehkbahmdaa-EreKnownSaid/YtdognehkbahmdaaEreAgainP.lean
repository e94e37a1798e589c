/- Package ere, plain: so many in a row; the size of a tree that fits. -/
import Derived.Test.YtdognehkbahmdaaErePure
namespace Go.Proofs.Ytdognehkbahmdaa.ere
open Go.RowKit Go.Proofs.Ytdognehkbahmdaa.sum Go.Proofs.Ytdognehkbahmdaa.kept Go.Proofs.Ytdognehkbahmdaa.pop Go.Proofs.Ytdognehkbahmdaa.cls Go.Proofs.Ytdognehkbahmdaa.tre
set_option linter.unusedVariables false

mutual
theorem size_fit : ∀ t : Tr, t.size ≤ setsS t * highS t
  | .mk k f [] => by simp [Tr.size, sizeL, setsS, highS, highL]
  | .mk k f (t :: l) => by
    have h1 := size_fit t
    have h2 := size_fitL k 1 l
    have hp := setsS_pos t
    have h0 : sameB k 0 = false := by simp [sameB]
    rw [Tr.size, sizeL, setsS, highS, highL, h0, if_neg (by simp)]
    generalize highS t = a at *
    generalize highL k 1 l = b at *
    obtain ⟨H, hH⟩ : ∃ H, max 1 (max (a + 1) b) = H := ⟨_, rfl⟩
    rw [hH]
    have e1 : a + 1 ≤ H := by omega
    have e2 : b ≤ H := by omega
    have g1 : setsS t * a + setsS t ≤ setsS t * H := by
      have := Nat.mul_le_mul_left (setsS t) e1
      rw [Nat.mul_add, Nat.mul_one] at this
      exact this
    have g2 : setsL l * b ≤ setsL l * H := Nat.mul_le_mul_left _ e2
    rw [Nat.add_mul]
    omega
theorem size_fitL (k : Int) : ∀ (i : Nat) (l : List Tr), sizeL l ≤ setsL l * highL k i l
  | _, [] => by simp [sizeL]
  | i, t :: l => by
    have h1 := size_fit t
    have h2 := size_fitL k (i + 1) l
    rw [sizeL, setsL, highL]
    obtain ⟨a, ha⟩ : ∃ a, (if sameB k i = true then highS t else highS t + 1) = a := ⟨_, rfl⟩
    have hl : highS t ≤ a := by rw [← ha]; split <;> omega
    rw [ha]
    obtain ⟨H, hH⟩ : ∃ H, max a (highL k (i + 1) l) = H := ⟨_, rfl⟩
    rw [hH]
    have g1 : setsS t * highS t ≤ setsS t * H := Nat.mul_le_mul_left _ (by omega)
    have g2 : setsL l * highL k (i + 1) l ≤ setsL l * H := Nat.mul_le_mul_left _ (by omega)
    rw [Nat.add_mul]
    omega
end
/-- a tree that fits is no more than so much -/
theorem size_fits {t : Tr} (h : fitsB t = true) : t.size ≤ 16000 := by
  unfold fitsB at h
  simp only [Bool.and_eq_true, decide_eq_true_eq] at h
  have := size_fit t
  have h2 : setsS t * highS t ≤ 400 * 40 := Nat.mul_le_mul h.1 h.2
  omega
/-- how many stand in the row -/
def rowN (x : Nat × Nat × Bool) : Nat := if x.2.2 = true then x.2.1 + 1 else x.2.1
theorem row_len (t : Tr) (x : Nat × Nat × Bool) (h1 : x.1 ≤ x.2.1) (h2 : x.2.2 = true → x.2.1 = x.1) : (rowT t x).length = rowN x := by
  unfold rowT rowN
  by_cases h : x.2.2 = true
  · rw [if_pos h, if_pos h, List.length_append, List.length_replicate, h2 h]; rfl
  · rw [if_neg h, if_neg h, List.length_append, List.length_replicate, List.length_replicate]; omega
theorem row_get (t : Tr) (x : Nat × Nat × Bool) (h1 : x.1 ≤ x.2.1) (h2 : x.2.2 = true → x.2.1 = x.1) (i : Nat) (hi : i < (rowT t x).length) : (rowT t x)[i] = if i < x.1 then t else if x.2.2 = true then kid1 4 t else kid1 6 t := by
  have hn := row_len t x h1 h2
  unfold rowN at hn
  by_cases hx : i < x.1
  · rw [if_pos hx]
    simp only [rowT]
    rw [List.getElem_append_left (by simpa using hx)]
    simp
  · rw [if_neg hx]
    simp only [rowT]
    rw [List.getElem_append_right (by simpa using hx)]
    by_cases h : x.2.2 = true
    · have := h2 h
      rw [if_pos h] at hn
      have hi0 : i - x.1 = 0 := by omega
      simp [h, hi0]
    · simp [h]
theorem sum_ge (m : Nat) : ∀ l : List Tr, (∀ u ∈ l, m ≤ (absP u).n) → l.length * m ≤ sumP l
  | [], _ => by simp [sumP]
  | u :: l, h => by
    have h1 := h u (by simp)
    have h2 := sum_ge m l fun u hu => h u (by simp [hu])
    rw [sumP, List.length_cons, Nat.add_mul]
    omega
theorem kid1_n (k : Int) (t : Tr) : (absP t).n ≤ (absP (kid1 k t)).n := by
  rw [abs1]
  unfold onePt
  split
  · exact Nat.le_refl _
  · exact absP_n t
theorem row_over {t : Tr} {x : Nat × Nat × Bool} (h1 : x.1 ≤ x.2.1) (h2 : x.2.2 = true → x.2.1 = x.1) (h : 400 < rowN x * (absP t).n) : 400 < sumP (rowT t x) := by
  have := sum_ge (absP t).n (rowT t x) fun u hu => by
    obtain ⟨i, hi, rfl⟩ := List.getElem_of_mem hu
    rw [row_get t x h1 h2 i hi]
    split
    · exact Nat.le_refl _
    · split <;> exact kid1_n _ t
  rw [row_len t x h1 h2] at this
  omega

end Go.Proofs.Ytdognehkbahmdaa.ere
