/- What was read without anything wrong is laid as the same bytes. Lists and whole numbers. -/
import Derived.Test.YtaghpjlodlbmjaaBackPlain
namespace Go.Proofs.Ytaghpjlodlbmjaa.onePlain
open Go.Proofs.Ytaghpjlodlbmjaa.sum Go.Proofs.Ytaghpjlodlbmjaa.kept Go.Proofs.Ytaghpjlodlbmjaa.writer Go.Proofs.Ytaghpjlodlbmjaa.seal Go.Proofs.Ytaghpjlodlbmjaa.number Go.Proofs.Ytaghpjlodlbmjaa.words Go.Proofs.Ytaghpjlodlbmjaa.laid Go.Proofs.Ytaghpjlodlbmjaa.reader Go.Proofs.Ytaghpjlodlbmjaa.back

theorem dig_inv : ∀ (l : List UInt8) (i m n s : Nat), dig i m l = (n, s, 0) → ∃ d r, n = m + d * 128 ^ i ∧ l = num d ++ r ∧ s = i + (num d).length ∧ (0 < i → 0 < d)
  | [], i, m, n, s, h => by rw [dig_nil] at h; simp at h
  | x :: l, i, m, n, s, h => by
    have hx : x.toNat < 256 := UInt8.toNat_lt _
    by_cases h1 : i = 9 ∧ 1 < x.toNat
    · rw [h1.1, dig_cut h1.2] at h; simp at h
    · by_cases h2 : 128 ≤ x.toNat
      · rw [dig_on h1 h2] at h
        obtain ⟨d, r, e1, e2, e3, e4⟩ := dig_inv l (i + 1) _ n s h
        have hd := e4 (by omega)
        have hbig : ¬ (128 * d + x.toNat % 128) < 128 := by omega
        have hq : (128 * d + x.toNat % 128) / 128 = d := by omega
        have hm : ((128 * d + x.toNat % 128) % 128 + 128).toUInt8 = x := by
          apply UInt8.toNat_inj.1
          rw [u8_toNat]
          omega
        refine ⟨128 * d + x.toNat % 128, r, ?_, ?_, ?_, fun _ => by omega⟩
        · rw [e1, big_pow, Nat.add_mul, Nat.mul_comm 128 d, Nat.mul_assoc]
          generalize d * (128 * 128 ^ i) = A
          generalize x.toNat % 128 * 128 ^ i = B
          omega
        · rw [num_big hbig, hq, hm, e2]; rfl
        · rw [e3, num_big hbig, hq]; simp; omega
      · by_cases h3 : x.toNat = 0 ∧ 0 < i
        · rw [dig_zero h3.1 h3.2] at h; simp at h
        · rw [dig_end h1 h2 h3] at h
          simp only [Prod.mk.injEq, and_true] at h
          obtain ⟨e1, e2⟩ := h
          have hm : x.toNat % 128 = x.toNat := by omega
          refine ⟨x.toNat, l, by rw [← e1, hm], ?_, ?_, fun _ => by omega⟩
          · rw [num_small (by omega)]
            have : x.toNat.toUInt8 = x := by apply UInt8.toNat_inj.1; rw [u8_toNat]; omega
            rw [this]; rfl
          · rw [num_small (by omega)]; exact e2.symm

variable {bs : List UInt8} {at_ bad : Nat}

theorem byte_inv {x at' most : Nat} (h : rByte bs at_ bad most = (x, at', 0)) : bad = 0 ∧ bs.drop at_ = [x.toUInt8] ++ bs.drop at' := by
  unfold rByte at h
  split at h
  · rename_i h1; simp at h; exact absurd h.2.2 h1
  · rename_i h1
    split at h
    · simp at h
    · rename_i h2
      split at h
      · simp at h
      · simp only [Prod.mk.injEq, and_true] at h
        obtain ⟨e1, e2⟩ := h
        refine ⟨by omega, ?_⟩
        obtain ⟨y, r, hy⟩ := List.exists_cons_of_ne_nil h2
        have hr : bs.drop at' = r := by rw [← e2, ← List.drop_drop, hy]; rfl
        rw [hr, hy, ← e1, hy]
        have : (List.getD (y :: r) 0 0).toNat.toUInt8 = y := by apply UInt8.toNat_inj.1; rw [u8_toNat]; have := UInt8.toNat_lt y; simp
        rw [this]; rfl

theorem num_inv {n at' most : Nat} (h : rNum bs at_ bad most = (n, at', 0)) : bad = 0 ∧ n ≤ most ∧ bs.drop at_ = num n ++ bs.drop at' := by
  unfold rNum at h
  split at h
  · rename_i h1; simp at h; exact absurd h.2.2 h1
  · rename_i h1
    split at h
    · rename_i h2; simp at h; exact absurd h.2.2 h2
    · rename_i h2
      split at h
      · simp at h
      · rename_i h3
        simp only [Prod.mk.injEq, and_true] at h
        obtain ⟨e1, e2⟩ := h
        obtain ⟨d, r, f1, f2, f3, -⟩ := dig_inv (bs.drop at_) 0 0 (dig 0 0 (bs.drop at_)).1 (dig 0 0 (bs.drop at_)).2.1 (Prod.ext rfl (Prod.ext rfl (by show (dig 0 0 (bs.drop at_)).2.2 = 0; omega)))
        have hd : d = n := by rw [← e1, f1]; simp
        subst hd
        refine ⟨by omega, by omega, ?_⟩
        have hr : bs.drop at' = r := by
          rw [← e2, ← List.drop_drop, f3, Nat.zero_add]
          conv => lhs; rw [f2]
          rw [List.drop_left]
        rw [hr, ← f2]

theorem bytesN_le : ∀ (k : Nat) (l : List UInt8), k ≤ l.length → bytesN k (leN l k) = l.take k := by
  have key : ∀ (k : Nat) (l : List UInt8) (c : Nat), k ≤ l.length → bytesN k (leN l k + c * 256 ^ k) = l.take k := by
    intro k
    induction k with
    | zero => intro l c _; simp [bytesN]
    | succ k ih =>
      intro l c hk
      match l, hk with
      | x :: l, hk =>
        have hl : ∀ j, leN (x :: l) (j + 1) = x.toNat + 256 * leN l j := by
          intro j
          induction j with
          | zero => simp [leN]
          | succ j ihj =>
            rw [leN, ihj, leN]
            simp only [List.getD_cons_succ]
            rw [Nat.mul_add, Nat.pow_succ, Nat.mul_comm (256 ^ j) 256, Nat.mul_left_comm]
            omega
        have hx : x.toNat < 256 := UInt8.toNat_lt _
        rw [hl, bytesN, List.take_succ_cons]
        have e : x.toNat + 256 * leN l k + c * 256 ^ (k + 1) = x.toNat + 256 * (leN l k + c * 256 ^ k) := by
          rw [Nat.mul_add, Nat.pow_succ, Nat.mul_comm (256 ^ k) 256, Nat.mul_left_comm]; omega
        rw [e]
        have e2 : (x.toNat + 256 * (leN l k + c * 256 ^ k)) / 256 = leN l k + c * 256 ^ k := by omega
        rw [e2, ih l c (by simpa using hk)]
        congr 1
        apply UInt8.toNat_inj.1
        rw [u8_toNat]
        omega
  intro k l h
  have := key k l 0 h
  simpa using this

theorem float_inv {x at' : Nat} (h : rFloat bs at_ bad = (x, at', 0)) : bad = 0 ∧ bs.drop at_ = bytesN 8 (canon x) ++ bs.drop at' := by
  unfold rFloat at h
  split at h
  · rename_i h1; simp at h; exact absurd h.2.2 h1
  · rename_i h1
    split at h
    · simp at h
    · rename_i h2
      split at h
      · simp at h
      · rename_i h3
        simp only [Prod.mk.injEq, and_true] at h
        obtain ⟨e1, e2⟩ := h
        refine ⟨by omega, ?_⟩
        have hc : canon x = leN (bs.drop at_) 8 := by
          rw [← e1]
          unfold canon
          split
          · rename_i h4
            have h5 : leN (bs.drop at_) 8 = nanW := Decidable.byContradiction fun h5 => h3 ⟨h4, h5⟩
            exact h5.symm
          · rfl
        rw [hc, bytesN_le 8 _ (by omega), ← e2, ← List.drop_drop, List.take_append_drop]

theorem text_inv {t : List UInt8} {at' most : Nat} (h : rText bs at_ bad most = (t, at', 0)) : bad = 0 ∧ bs.drop at_ = num t.length ++ t ++ bs.drop at' := by
  unfold rText at h
  split at h
  · rename_i h1; simp at h; exact absurd h.2.2 h1
  · rename_i h1
    obtain ⟨⟨n, a1, b1⟩, hr⟩ : ∃ r, rNum bs at_ bad most = r := ⟨_, rfl⟩
    rw [hr] at h h1
    simp only at h h1
    have hb : b1 = 0 := by omega
    subst hb
    obtain ⟨f1, f2, f3⟩ := num_inv hr
    split at h
    · simp at h
    · rename_i h2
      simp only [Prod.mk.injEq, and_true] at h
      obtain ⟨e1, e2⟩ := h
      have hl : t.length = n := by rw [← e1, List.length_take]; omega
      refine ⟨f1, ?_⟩
      rw [hl, List.append_assoc, f3, ← e2, ← List.drop_drop, ← e1, List.take_append_drop]

/-- one thing read, as what would be laid -/
def rdOne (bs : List UInt8) (at_ bad : Nat) (wh : Int) : LayD × Nat × Nat :=
  if wh = 0 then (⟨wh, (rByte bs at_ bad 255).1.toUInt8, 0, 0, ⟨#[]⟩⟩, (rByte bs at_ bad 255).2.1, (rByte bs at_ bad 255).2.2)
  else if wh = 1 then (⟨wh, 0, (rNum bs at_ bad 18446744073709551615).1, 0, ⟨#[]⟩⟩, (rNum bs at_ bad 18446744073709551615).2.1, (rNum bs at_ bad 18446744073709551615).2.2)
  else if wh = 3 then (⟨wh, 0, 0, (rFloat bs at_ bad).1, ⟨#[]⟩⟩, (rFloat bs at_ bad).2.1, (rFloat bs at_ bad).2.2)
  else (⟨wh, 0, 0, 0, ⟨(rText bs at_ bad bs.length).1.toArray⟩⟩, (rText bs at_ bad bs.length).2.1, (rText bs at_ bad bs.length).2.2)

def St (bs : List UInt8) (ws : List Int) : Nat → List LayD × Nat × Nat
  | 0 => ([], 0, 0)
  | k + 1 => ((St bs ws k).1 ++ [(rdOne bs (St bs ws k).2.1 (St bs ws k).2.2 (ws.getD k 0 % 4)).1], (rdOne bs (St bs ws k).2.1 (St bs ws k).2.2 (ws.getD k 0 % 4)).2.1, (rdOne bs (St bs ws k).2.1 (St bs ws k).2.2 (ws.getD k 0 % 4)).2.2)

theorem St_len (bs : List UInt8) (ws : List Int) (k : Nat) : (St bs ws k).1.length = k := by
  induction k with
  | zero => rfl
  | succ k ih => simp [St, ih]

theorem one_inv {wh : Int} (hw : wh % 4 = wh) (h : (rdOne bs at_ bad wh).2.2 = 0) : bad = 0 ∧ bs.drop at_ = layOne (rdOne bs at_ bad wh).1 ++ bs.drop (rdOne bs at_ bad wh).2.1 := by
  unfold rdOne at h ⊢
  split
  · rename_i h1
    rw [if_pos h1] at h
    obtain ⟨e1, e2⟩ := byte_inv (bs := bs) (at_ := at_) (bad := bad) (most := 255) (x := (rByte bs at_ bad 255).1) (at' := (rByte bs at_ bad 255).2.1) (by rw [← h])
    refine ⟨e1, ?_⟩
    have : layOne ⟨wh, (rByte bs at_ bad 255).1.toUInt8, 0, 0, ⟨#[]⟩⟩ = [(rByte bs at_ bad 255).1.toUInt8] := by unfold layOne; simp only [h1]; rfl
    rw [this]; exact e2
  · rename_i h1
    rw [if_neg h1] at h
    split
    · rename_i h2
      rw [if_pos h2] at h
      obtain ⟨e1, e2, e3⟩ := num_inv (bs := bs) (at_ := at_) (bad := bad) (most := 18446744073709551615) (n := (rNum bs at_ bad 18446744073709551615).1) (at' := (rNum bs at_ bad 18446744073709551615).2.1) (by rw [← h])
      refine ⟨e1, ?_⟩
      have : ∀ n : Nat, layOne ⟨wh, 0, n, 0, ⟨#[]⟩⟩ = num n := by intro n; unfold layOne; simp only [h2]; rfl
      rw [this]; exact e3
    · rename_i h2
      rw [if_neg h2] at h
      split
      · rename_i h3
        rw [if_pos h3] at h
        obtain ⟨e1, e3⟩ := float_inv (bs := bs) (at_ := at_) (bad := bad) (x := (rFloat bs at_ bad).1) (at' := (rFloat bs at_ bad).2.1) (by rw [← h])
        refine ⟨e1, ?_⟩
        have : ∀ n : Nat, layOne ⟨wh, 0, 0, n, ⟨#[]⟩⟩ = bytesN 8 (canon n) := by intro n; unfold layOne; simp only [h3]; rfl
        rw [this]; exact e3
      · rename_i h3
        rw [if_neg h3] at h
        obtain ⟨e1, e3⟩ := text_inv (bs := bs) (at_ := at_) (bad := bad) (most := bs.length) (t := (rText bs at_ bad bs.length).1) (at' := (rText bs at_ bad bs.length).2.1) (by rw [← h])
        refine ⟨e1, ?_⟩
        have : ∀ t : List UInt8, layOne ⟨wh, 0, 0, 0, ⟨t.toArray⟩⟩ = num t.length ++ t := by
          intro t
          unfold layOne
          simp only
          rw [if_neg (by omega), if_neg (by omega), if_neg (by omega)]
          rfl
        rw [this]; exact e3

theorem st_inv (bs : List UInt8) (ws : List Int) (k : Nat) (h : (St bs ws k).2.2 = 0) : bs = layAll (St bs ws k).1 ++ bs.drop (St bs ws k).2.1 := by
  induction k with
  | zero => simp [St, layAll]
  | succ k ih =>
    have hmod : (ws.getD k 0 % 4) % 4 = ws.getD k 0 % 4 := by omega
    obtain ⟨e1, e2⟩ := one_inv hmod (show (rdOne bs (St bs ws k).2.1 (St bs ws k).2.2 (ws.getD k 0 % 4)).2.2 = 0 from h)
    have e3 := ih e1
    rw [e2] at e3
    have : (St bs ws (k + 1)).1 = (St bs ws k).1 ++ [(rdOne bs (St bs ws k).2.1 (St bs ws k).2.2 (ws.getD k 0 % 4)).1] := rfl
    rw [this]
    have e4 : layAll ((St bs ws k).1 ++ [(rdOne bs (St bs ws k).2.1 (St bs ws k).2.2 (ws.getD k 0 % 4)).1]) = layAll (St bs ws k).1 ++ layOne (rdOne bs (St bs ws k).2.1 (St bs ws k).2.2 (ws.getD k 0 % 4)).1 := by
      unfold layAll; simp [List.flatMap_append]
    rw [e4, List.append_assoc]
    exact e3

/-! ### what is read is such as may be laid -/
theorem dig_le : ∀ (l : List UInt8) (i m : Nat), i ≤ 9 → m < 128 ^ i → (dig i m l).1 < 18446744073709551616
  | [], i, m, _, _ => by rw [dig_nil]; omega
  | x :: l, i, m, hi, hm => by
    by_cases h1 : i = 9 ∧ 1 < x.toNat
    · rw [h1.1, dig_cut h1.2]; simp
    · have hd : x.toNat % 128 < 128 := by omega
      by_cases h2 : 128 ≤ x.toNat
      · have h9 : i ≠ 9 := fun e => h1 ⟨e, by omega⟩
        rw [dig_on h1 h2]
        exact dig_le l (i + 1) _ (by omega) (dig_next hm hd)
      · by_cases h3 : x.toNat = 0 ∧ 0 < i
        · rw [dig_zero h3.1 h3.2]; simp
        · rw [dig_end h1 h2 h3]
          simp only
          by_cases h9 : i = 9
          · subst h9
            have e : 128 ^ 9 = 9223372036854775808 := by decide
            rw [e] at hm ⊢
            have : x.toNat % 128 ≤ 1 := by omega
            have := Nat.mul_le_mul_right 9223372036854775808 this
            omega
          · have := dig_next hm hd
            have h10 := pow_le9 (i := i + 1) (by omega)
            omega

theorem rNum_lt (most : Nat) : (rNum bs at_ bad most).1 < U64 := by
  rw [u64_eq]
  have := dig_le (bs.drop at_) 0 0 (by omega) (by simp)
  unfold rNum
  split
  · simp
  · split
    · simp
    · split
      · simp
      · exact this
theorem rFloat_lt : (rFloat bs at_ bad).1 < U64 := by
  rw [u64_eq]
  have := leN_lt (bs.drop at_) 8
  have e : 256 ^ 8 = 18446744073709551616 := by decide
  rw [e] at this
  unfold rFloat
  split
  · simp
  · split
    · simp
    · split
      · simp
      · exact this
theorem rText_len (most : Nat) : (rText bs at_ bad most).1.length ≤ bs.length := by
  unfold rText
  split
  · simp
  · split
    · simp
    · simp only [List.length_take, List.length_drop]; omega
theorem rByte_lt : (rByte bs at_ bad 255).1 < 256 := by
  have h : ∀ x : UInt8, x.toNat < 256 := fun x => UInt8.toNat_lt x
  unfold rByte
  split
  · simp
  · split
    · simp
    · split
      · simp
      · exact h _

theorem one_ok (wh : Int) (hl : bs.length < 140737488355328) : (rdOne bs at_ bad wh).1.ok ∧ (rdOne bs at_ bad wh).1.t.size ≤ bs.length := by
  have u0 : (0 : Nat) < U64 := by rw [u64_eq]; omega
  unfold rdOne
  split
  · exact ⟨⟨u0, u0, by show (0 : Nat) < _; omega⟩, Nat.zero_le _⟩
  · split
    · exact ⟨⟨rNum_lt _, u0, by show (0 : Nat) < _; omega⟩, Nat.zero_le _⟩
    · split
      · exact ⟨⟨u0, rFloat_lt, by show (0 : Nat) < _; omega⟩, Nat.zero_le _⟩
      · have := rText_len (bs := bs) (at_ := at_) (bad := bad) bs.length
        have e : (⟨(rText bs at_ bad bs.length).1.toArray⟩ : ByteArray).size = (rText bs at_ bad bs.length).1.length := by simp [ByteArray.size]
        exact ⟨⟨u0, u0, by show ByteArray.size _ < _; rw [e]; omega⟩, by show ByteArray.size _ ≤ _; rw [e]; exact this⟩

theorem st_ok (ws : List Int) (hl : bs.length < 140737488355328) (k : Nat) : (∀ d ∈ (St bs ws k).1, d.ok) ∧ roomOf (St bs ws k).1 ≤ k * (bs.length + 10) := by
  induction k with
  | zero => exact ⟨fun d hd => by simp [St] at hd, by simp [St, roomOf]⟩
  | succ k ih =>
    have h1 := one_ok (bs := bs) (at_ := (St bs ws k).2.1) (bad := (St bs ws k).2.2) (ws.getD k 0 % 4) hl
    have e : (St bs ws (k + 1)).1 = (St bs ws k).1 ++ [(rdOne bs (St bs ws k).2.1 (St bs ws k).2.2 (ws.getD k 0 % 4)).1] := rfl
    rw [e]
    refine ⟨fun d hd => ?_, ?_⟩
    · rcases List.mem_append.1 hd with hd | hd
      · exact ih.1 d hd
      · simp only [List.mem_singleton] at hd; subst hd; exact h1.1
    · rw [roomOf_append]
      simp only [roomOf]
      rw [Nat.add_mul]
      have := ih.2
      omega

end Go.Proofs.Ytaghpjlodlbmjaa.onePlain
