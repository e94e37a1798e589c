/- DiskCuts: parts that are not empty, where each ends, what a crash leaves: plain lists. -/
import Derived.Test.YtbhhmbbldbgdnaaDiskSyncedWalk
namespace Go.Proofs.Ytbhhmbbldbgdnaa.dsk
open Go.RowKit Go.Maps Go.Proofs.Ytbhhmbbldbgdnaa.sum Go.Proofs.Ytbhhmbbldbgdnaa.kept Go.Proofs.Ytbhhmbbldbgdnaa.fs Go.Proofs.Ytbhhmbbldbgdnaa.fsMem Go.Proofs.Ytbhhmbbldbgdnaa.lst
set_option linter.unusedVariables false

/-- the parts that are not empty -/
def nz (l : List (List UInt8)) : List (List UInt8) := l.filter fun b => !b.isEmpty
theorem nz_flat (l : List (List UInt8)) : (nz l).flatten = l.flatten := by
  induction l with
  | nil => rfl
  | cons b l ih =>
    unfold nz at ih ⊢
    rw [List.filter_cons]
    cases b with
    | nil => simpa using ih
    | cons x b => simp [ih]
theorem nz_snoc (l : List (List UInt8)) {b : List UInt8} (h : b ≠ []) : nz (l ++ [b]) = nz l ++ [b] := by
  unfold nz
  rw [List.filter_append]
  cases b with
  | nil => exact absurd rfl h
  | cons x b => rfl
theorem nz_empty (l : List (List UInt8)) : nz (l ++ [[]]) = nz l := by
  unfold nz
  rw [List.filter_append]
  simp
theorem nz_len (l : List (List UInt8)) : (nz l).length ≤ l.length := List.length_filter_le _ _
theorem nz_pos {l : List (List UInt8)} {b : List UInt8} (h : b ∈ nz l) : 0 < b.length := by
  have := (List.mem_filter.1 h).2
  cases b with
  | nil => simp at this
  | cons x b => simp

/-- where part j of these begins -/
def beg (m : List (List UInt8)) (j : Nat) : Nat := (m.take j).flatten.length
def fins (m : List (List UInt8)) : List Nat := (List.range m.length).map fun j => beg m (j + 1)
theorem fins_len (m : List (List UInt8)) : (fins m).length = m.length := by simp [fins]
theorem fins_at (m : List (List UInt8)) {j : Nat} (h : j < (fins m).length) : (fins m)[j] = beg m (j + 1) := by simp [fins]
theorem beg_zero (m : List (List UInt8)) : beg m 0 = 0 := by simp [beg]
theorem beg_all (m : List (List UInt8)) {j : Nat} (h : m.length ≤ j) : beg m j = m.flatten.length := by rw [beg, List.take_of_length_le h]
theorem beg_succ {m : List (List UInt8)} {j : Nat} (h : j < m.length) : beg m (j + 1) = beg m j + m[j].length := by
  unfold beg
  rw [List.take_succ_eq_append_getElem h, List.flatten_append, List.length_append]
  simp
theorem fins_snoc (m : List (List UInt8)) (b : List UInt8) : fins (m ++ [b]) = fins m ++ [(m ++ [b]).flatten.length] := by
  unfold fins
  rw [List.length_append, List.length_singleton, List.range_succ, List.map_append]
  congr 1
  · refine List.map_congr_left fun j hj => ?_
    have := List.mem_range.1 hj
    unfold beg
    rw [List.take_append_of_le_length (by omega)]
  · simp only [List.map_cons, List.map_nil]
    rw [beg_all _ (by simp)]
theorem beg_take (m : List (List UInt8)) (j : Nat) : (m.take j).flatten = m.flatten.take (beg m j) := by
  unfold beg
  conv => rhs; rw [← List.take_append_drop j m, List.flatten_append]
  simp

/-- which cut is made by the crash that the law asks for -/
theorem cut_one (n : ByteArray) {m : List (List UInt8)} (hm : ∀ b ∈ m, 0 < b.length) {j c : Nat} (hj : j ≤ m.length) (h1 : beg m j ≤ c) (h2 : c ≤ m.flatten.length) (h3 : j < m.length → c < beg m (j + 1)) :
    crashK (apD n (-1) none m) (j : Int) = j ∧ crashD (apD n (-1) none m) (j : Int) ((c - beg m j : Nat) : Int) = apD n (-1) (if c = 0 then none else some (m.flatten.take c)) [] := by
  have hl : (apD n (-1) none m).cs.length = m.length := by show (m.map (appC n)).length = _; simp
  have hK : crashK (apD n (-1) none m) (j : Int) = j := by
    unfold crashK
    rw [hl, Int.emod_eq_of_lt (by omega) (by omega)]
    simp
  refine ⟨hK, ?_⟩
  have hpos : ∀ i, 0 < i → i ≤ m.length → 0 < beg m i := fun i hi hil => by
    obtain ⟨i', rfl⟩ : ∃ i', i = i' + 1 := ⟨i - 1, by omega⟩
    rw [beg_succ (by omega)]
    have := hm m[i'] (List.getElem_mem _)
    omega
  have hbase : all (apD n (-1) none m).syn ((apD n (-1) none m).cs.take j) = oneF (nm n) (after none (m.take j)) := by
    show all (oneF (nm n) none) ((m.map (appC n)).take j) = _
    rw [all_take]
  have haft : after none (m.take j) = if beg m j = 0 then none else some (m.flatten.take (beg m j)) := by
    unfold after
    by_cases h0 : j = 0
    · subst h0; rw [beg_zero]; simp
    · have := hpos j (by omega) hj
      have hne : m.take j ≠ [] := by
        intro e
        have : (m.take j).length = 0 := by rw [e]; rfl
        rw [List.length_take] at this
        omega
      rw [if_neg hne, if_neg (show ¬ beg m j = 0 by omega), beg_take]
      simp
  have fin : ∀ X, crashF (apD n (-1) none m) (j : Int) ((c - beg m j : Nat) : Int) = oneF (nm n) X → crashD (apD n (-1) none m) (j : Int) ((c - beg m j : Nat) : Int) = apD n (-1) X [] := fun X hX => by
    unfold crashD; rw [hX]; rfl
  refine fin _ ?_
  unfold crashF
  rw [hK, hbase, haft]
  have hcs : (apD n (-1) none m).cs[j]? = (m[j]?).map (appC n) := by show (m.map (appC n))[j]? = _; simp
  rw [hcs]
  rcases Nat.lt_or_ge j m.length with hlt | hge
  · have hs := beg_succ hlt
    have hb := hm m[j] (List.getElem_mem hlt)
    have h4 := h3 hlt
    rw [List.getElem?_eq_getElem hlt]
    show tearF _ (appC n m[j]) _ = _
    rw [tear_app]
    have hT : tornN (appC n m[j]) ((c - beg m j : Nat) : Int) = c - beg m j := by
      have hne : (appC n m[j]).bytes.length ≠ 0 := by show m[j].length ≠ 0; omega
      have h5 := (tornN_lt (appC n m[j]) ((c - beg m j : Nat) : Int) hne).2
      have h6 : (((c - beg m j : Nat) : Int)) % ((appC n m[j]).bytes.length : Int) = ((c - beg m j : Nat) : Int) := Int.emod_eq_of_lt (by omega) (by show ((c - beg m j : Nat) : Int) < (m[j].length : Int); omega)
      omega
    rw [hT]
    by_cases h0 : c - beg m j = 0
    · rw [if_pos h0]
      have e : beg m j = c := by omega
      rw [e]
    · rw [if_neg h0, if_neg (show ¬ c = 0 by omega)]
      congr 2
      have e1 : (if beg m j = 0 then none else some (m.flatten.take (beg m j))).getD [] = m.flatten.take (beg m j) := by
        split
        · rename_i h; rw [h]; rfl
        · rfl
      rw [e1, ← beg_take]
      have e2 : m.flatten = (m.take j).flatten ++ (m[j] ++ (m.drop (j + 1)).flatten) := by
        conv => lhs; rw [← List.take_append_drop j m, List.flatten_append, List.drop_eq_getElem_cons hlt, List.flatten_cons]
      have e3 : c = (m.take j).flatten.length + (c - beg m j) := by unfold beg at h1 ⊢; omega
      conv => rhs; rw [e3, e2, List.take_length_add_append, List.take_append_of_le_length (by omega)]
  · rw [List.getElem?_eq_none hge]
    have e : beg m j = c := by rw [beg_all m hge] at h1 ⊢; omega
    show oneF (nm n) _ = _
    rw [e]

end Go.Proofs.Ytbhhmbbldbgdnaa.dsk
