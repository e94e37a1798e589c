/- One byte turned turns the sum; what the last six bytes say. Plain whole numbers. A remainder; a byte that is turned. -/
import Derived.Test.YteekcbbdbciddaaGreatDoorSealM
import Derived.Deep.RegionWith
import Derived.StillTailTactics
import Derived.RegionCalls

namespace Go.Proofs.YteekcbbdbciddaaGreatDoor.turnedPlain
open Go.Proofs.YteekcbbdbciddaaGreatDoor.seal Go.Proofs.YteekcbbdbciddaaGreatDoor.unseal

theorem run_lt (s : Nat × Nat) (hs : s.1 < pl.P ∧ s.2 < pl.P) (bs : List UInt8) : (bs.foldl pl.step s).1 < pl.P ∧ (bs.foldl pl.step s).2 < pl.P := by
  induction bs generalizing s with
  | nil => exact hs
  | cons x bs ih => exact ih _ (pl.step_lt _ _)

theorem run_inj {s t : Nat × Nat} (hs : s.1 < pl.P ∧ s.2 < pl.P) (ht : t.1 < pl.P ∧ t.2 < pl.P) (bs : List UInt8) (h : bs.foldl pl.step s = bs.foldl pl.step t) : s = t := by
  induction bs generalizing s t with
  | nil => exact h
  | cons x bs ih => exact pl.step_inj x hs ht (ih (pl.step_lt _ _) (pl.step_lt _ _) h)

theorem step_byte {s : Nat × Nat} {x y : UInt8} (h : pl.step s x = pl.step s y) : x = y := by
  unfold pl.step at h
  simp only [Prod.mk.injEq, and_true] at h
  obtain ⟨k, hk⟩ := pl.mod_eq h
  have hx : x.toNat < 256 := UInt8.toNat_lt _
  have hy : y.toNat < 256 := UInt8.toNat_lt _
  apply UInt8.toNat_inj.1
  have hP : (pl.P : Int) = 16777199 := rfl
  rw [hP] at hk
  generalize pl.P - s.2 = c at hk
  omega

theorem sum_set (bs : List UInt8) (k : Nat) (hk : k < bs.length) (y : UInt8) (hy : bs[k] ≠ y) : pl.sum (bs.set k y) ≠ pl.sum bs := by
  intro h
  have e1 : bs = bs.take k ++ bs[k] :: bs.drop (k + 1) := by
    conv => lhs; rw [← List.take_append_drop k bs]
    rw [List.drop_eq_getElem_cons hk]
  have e2 : bs.set k y = bs.take k ++ y :: bs.drop (k + 1) := List.set_eq_take_append_cons_drop (l := bs) (i := k) (a := y) |>.trans (if_pos hk)
  rw [e2] at h
  conv at h => rhs; rw [e1]
  unfold pl.sum at h
  rw [List.foldl_append, List.foldl_append] at h
  simp only [List.foldl_cons] at h
  have := run_inj (pl.step_lt _ _) (pl.step_lt _ _) _ h
  exact hy (step_byte this).symm

theorem num3_part (n : Nat) (r : List UInt8) (hn : n < 16777216) : num3 (seal.part n ++ r) = n := by
  unfold num3 seal.part
  simp [u8_toNat]
  omega

theorem said_tail (s : Nat × Nat) (hs : s.1 < pl.P ∧ s.2 < pl.P) : said (tail s) = s := by
  unfold said tail
  unfold pl.P at hs
  rw [num3_part _ _ (by omega)]
  have e : (seal.part s.1 ++ seal.part s.2).drop 3 = seal.part s.2 ++ [] := by simp [seal.part]
  rw [e, num3_part _ _ (by omega)]

theorem said_inj {a b : List UInt8} (ha : a.length = 6) (hb : b.length = 6) (h : said a = said b) : a = b := by
  match a, ha with
  | [a0, a1, a2, a3, a4, a5], _ =>
  match b, hb with
  | [b0, b1, b2, b3, b4, b5], _ =>
  unfold said num3 at h
  simp at h
  have l := fun x : UInt8 => UInt8.toNat_lt x
  have := l a0; have := l a1; have := l a2; have := l a3; have := l a4; have := l a5
  have := l b0; have := l b1; have := l b2; have := l b3; have := l b4; have := l b5
  simp only [List.cons.injEq, and_true, ← UInt8.toNat_inj]
  omega

/-- What was sealed is unsealed as it was. -/
theorem sealed_ok (bs : List UInt8) : (sealed bs).length = bs.length + 6 ∧ (sealed bs).take bs.length = bs ∧ said ((sealed bs).drop bs.length) = pl.sum bs := by
  unfold sealed
  refine ⟨by simp [tail_len], by simp, ?_⟩
  rw [List.drop_left]
  exact said_tail _ (pl.sum_lt bs)

/-- .. and with one byte turned it is not. -/
theorem turned_bad (bs : List UInt8) (k : Nat) (hk : k < bs.length + 6) (y : UInt8) (hy : (sealed bs).getD k 0 ≠ y) :
    pl.sum (((sealed bs).set k y).take bs.length) ≠ said (((sealed bs).set k y).drop bs.length) := by
  have so := sealed_ok bs
  have hks : k < (sealed bs).length := by omega
  by_cases h : k < bs.length
  · rw [List.take_set, List.drop_set_of_lt h, so.2.1, so.2.2]
    refine sum_set bs k h y ?_
    intro e
    apply hy
    simp only [List.getD, List.getElem?_eq_getElem hks, Option.getD_some]
    rw [← e]
    have h2 : k < ((sealed bs).take bs.length).length := by rw [so.2.1]; exact h
    have := List.getElem_take (xs := sealed bs) (j := bs.length) (i := k) (h := h2)
    rw [← this]
    simp only [so.2.1]
  · rw [List.take_set, so.2.1, List.set_eq_of_length_le (by omega), List.drop_set, if_neg h]
    intro e
    rw [← so.2.2] at e
    have l1 : ((sealed bs).drop bs.length).length = 6 := by rw [List.length_drop, so.1]; omega
    have e2 := said_inj l1 (by rw [List.length_set]; exact l1) e
    apply hy
    have h3 : k - bs.length < ((sealed bs).drop bs.length).length := by omega
    have e3 : (((sealed bs).drop bs.length).set (k - bs.length) y)[k - bs.length]? = some y := by rw [List.getElem?_set, if_pos rfl, if_pos h3]
    rw [← e2, List.getElem?_drop, show bs.length + (k - bs.length) = k by omega] at e3
    simp [List.getD, e3]

end Go.Proofs.YteekcbbdbciddaaGreatDoor.turnedPlain

namespace Go.Proofs.YteekcbbdbciddaaGreatDoor.turned
open Go.RowKit Go.Proofs.YteekcbbdbciddaaGreatDoor.sum Go.Proofs.YteekcbbdbciddaaGreatDoor.kept Go.Proofs.YteekcbbdbciddaaGreatDoor.app Go.Proofs.YteekcbbdbciddaaGreatDoor.writer Go.Proofs.YteekcbbdbciddaaGreatDoor.clone Go.Proofs.YteekcbbdbciddaaGreatDoor.known Go.Proofs.YteekcbbdbciddaaGreatDoor.unseal
set_option linter.unusedVariables false

theorem tmod_pos (n m : Int) (hm : 0 < m) : -m < n.tmod m ∧ n.tmod m < m ∧ (0 ≤ n.tmod m → n.tmod m = n % m) ∧ (n.tmod m < 0 → n.tmod m + m = n % m) := by
  have h1 := Int.tmod_lt_of_pos n hm
  have h2 := Int.tmod_lt_of_pos (-n) hm
  rw [Int.neg_tmod] at h2
  have h3 := Int.tmod_add_mul_tdiv n m
  refine ⟨by omega, h1, ?_, ?_⟩
  · intro h
    have e : n % m = (n.tmod m + m * n.tdiv m) % m := by rw [h3]
    rw [e, Int.add_mul_emod_self_left, Int.emod_eq_of_lt h h1]
  · intro h
    have e : n % m = (n.tmod m + m + m * (n.tdiv m - 1)) % m := by rw [Int.mul_sub]; congr 1; omega
    rw [e, Int.add_mul_emod_self_left, Int.emod_eq_of_lt (by omega) (by omega)]

theorem bs_set {w : World} {b o len cap : Nat} {bs : List UInt8} (h : Bs w (.slice (some ⟨b, o, none⟩) len cap) bs) (k : Nat) (hk : k < len) (y : UInt8) : Bs (w.setCell ⟨b, o + k, none⟩ (B y)) (.slice (some ⟨b, o, none⟩) len cap) (bs.set k y) := by
  obtain ⟨a, c, e, h1, h2, h3⟩ := h
  simp only [Value.slice.injEq] at e
  obtain ⟨rfl, rfl, rfl⟩ := e
  refine ⟨_, cap, by rw [List.length_set], by rw [List.length_set]; exact h1, h2, fun _ => ⟨b, o, rfl, fun i hi => ?_⟩⟩
  rw [List.length_set] at hi
  obtain ⟨b', o', e, hc⟩ := h3 (by intro e; subst e; simp at hk)
  cases e
  by_cases hik : i = k
  · subst hik
    rw [World.cell?_setCell_same w _ _ (hc i hi)]
    simp [List.getD, hi]
  · rw [World.cell?_setCell_other w _ _ _ (by simp <;> omega), hc i hi]
    simp [List.getD, List.getElem?_set, Ne.symm hik]

end Go.Proofs.YteekcbbdbciddaaGreatDoor.turned
