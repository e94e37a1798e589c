/- Sums of bytes in plain whole numbers. No program is named here. -/
namespace Go.Proofs.Ytbhhmbbldbgdnaa.pl

def P : Nat := 16777199
/-- one byte more: both parts -/
def step (s : Nat × Nat) (x : UInt8) : Nat × Nat := ((257 * s.1 + x.toNat + 1 + 3 * (P - s.2)) % P, (257 * s.2 + 3 * s.1) % P)
def sum (bs : List UInt8) : Nat × Nat := bs.foldl step (1, 0)

theorem sum_nil : sum [] = (1, 0) := rfl
theorem sum_snoc (bs : List UInt8) (x : UInt8) : sum (bs ++ [x]) = step (sum bs) x := by
  unfold sum; rw [List.foldl_append]; rfl
theorem step_lt (s : Nat × Nat) (x : UInt8) : (step s x).1 < P ∧ (step s x).2 < P := by
  unfold step
  exact ⟨Nat.mod_lt _ (by decide), Nat.mod_lt _ (by decide)⟩
theorem sum_lt (bs : List UInt8) : (sum bs).1 < P ∧ (sum bs).2 < P := by
  rcases List.eq_nil_or_concat bs with rfl | ⟨l, x, rfl⟩
  · exact ⟨by decide, by decide⟩
  · rw [List.concat_eq_append, sum_snoc]; exact step_lt _ _

theorem step_re (a b x : Nat) (hb : b < P) : ((257 * (a : Int) - 3 * b + (x + 1)) % 16777199) = ((257 * a + x + 1 + 3 * (P - b)) % P : Nat) := by
  unfold P at *; omega
theorem step_im (a b : Nat) : ((257 * (b : Int) + 3 * a) % 16777199) = ((257 * b + 3 * a) % P : Nat) := by
  unfold P at *; omega

theorem small_zero {A n : Int} (h : 66058 * A = 16777199 * n) (h1 : -16777199 < A) (h2 : A < 16777199) : A = 0 := by
  have e : A = 16777199 * (4224396 * n - 16633 * A) := by omega
  generalize 4224396 * n - 16633 * A = q at e
  omega

theorem mod_eq {X Y M : Nat} (h : X % M = Y % M) : ∃ k : Int, (X : Int) - Y = M * k := by
  have e1 := Nat.mod_add_div X M
  have e2 := Nat.mod_add_div Y M
  rw [h] at e1
  refine ⟨(X / M : Nat) - (Y / M : Nat), ?_⟩
  rw [Int.mul_sub]
  generalize Y % M = r at *
  rw [← Int.natCast_mul, ← Int.natCast_mul]
  omega

theorem part_re {A D k m : Int} (hk : 257 * A - 3 * D = 16777199 * k) (hm : 257 * D + 3 * A = 16777199 * m) : 66058 * A = 16777199 * (257 * k + 3 * m) := by
  have h : 257 * (257 * A - 3 * D) + 3 * (257 * D + 3 * A) = 257 * (16777199 * k) + 3 * (16777199 * m) := by rw [hk, hm]
  clear hk hm
  omega
theorem part_im {A D k m : Int} (hk : 257 * A - 3 * D = 16777199 * k) (hm : 257 * D + 3 * A = 16777199 * m) : 66058 * D = 16777199 * (257 * m - 3 * k) := by
  have h : 257 * (257 * D + 3 * A) - 3 * (257 * A - 3 * D) = 257 * (16777199 * m) - 3 * (16777199 * k) := by rw [hk, hm]
  clear hk hm
  omega

theorem sub_lt {a b p : Nat} (ha : a < p) (hb : b < p) : -(p : Int) < (a : Int) - b ∧ (a : Int) - b < p := by omega
theorem cast_sub {b p : Nat} (hb : b < p) : ((p - b : Nat) : Int) = (p : Int) - b := by omega
theorem diff1 {a b c d y p : Int} : (257 * a + y + 1 + 3 * (p - b)) - (257 * c + y + 1 + 3 * (p - d)) = 257 * (a - c) - 3 * (b - d) := by omega
theorem diff2 {a b c d : Int} : (257 * b + 3 * a) - (257 * d + 3 * c) = 257 * (b - d) + 3 * (a - c) := by omega

/-- the step is one to one -/
theorem step_inj {s t : Nat × Nat} (x : UInt8) (hs : s.1 < P ∧ s.2 < P) (ht : t.1 < P ∧ t.2 < P) (h : step s x = step t x) : s = t := by
  obtain ⟨a, b⟩ := s
  obtain ⟨c, d⟩ := t
  unfold step at h
  simp only [Prod.mk.injEq] at h hs ht ⊢
  obtain ⟨k, hk⟩ := mod_eq h.1
  obtain ⟨m, hm⟩ := mod_eq h.2
  clear h
  simp only [Int.natCast_add, Int.natCast_mul, cast_sub hs.2, cast_sub ht.2] at hk hm
  have hk' := diff1.symm.trans hk
  have hm' := diff2.symm.trans hm
  clear hk hm
  have l1 := sub_lt hs.1 ht.1
  have l2 := sub_lt hs.2 ht.2
  have hP : (P : Int) = 16777199 := rfl
  rw [hP] at hk' hm' l1 l2
  have z1 := small_zero (part_re hk' hm') l1.1 l1.2
  have z2 := small_zero (part_im hk' hm') l2.1 l2.2
  clear hk' hm' l1 l2
  omega

end Go.Proofs.Ytbhhmbbldbgdnaa.pl
