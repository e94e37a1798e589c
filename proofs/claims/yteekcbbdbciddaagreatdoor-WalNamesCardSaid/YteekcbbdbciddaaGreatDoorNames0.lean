/- The names of rising files are what their sorting gives. No program is named here. -/
import Derived.Test.YteekcbbdbciddaaGreatDoorFsPlain
import Derived.Sort.KeysCollected

namespace Go.Proofs.YteekcbbdbciddaaGreatDoor.fs
open Go.WideShapes Go.RowKit Go.Maps Go.Sort

theorem before_lt : ∀ {a b : List UInt8}, bytesBefore a b = true → a < b
  | [], [], h => by simp [bytesBefore] at h
  | [], _ :: _, _ => by simp
  | _ :: _, [], h => by simp [bytesBefore] at h
  | x :: r, y :: s, h => by
    simp only [bytesBefore, Bool.or_eq_true, Bool.and_eq_true, decide_eq_true_eq, beq_iff_eq] at h
    rcases h with h | ⟨rfl, h⟩
    · exact List.cons_lt_cons_iff.2 (.inl h)
    · exact List.cons_lt_cons_iff.2 (.inr ⟨rfl, before_lt h⟩)

def namesOf (es : Files) : List Name := es.map (·.1)
theorem names_sorted {es : Files} (h : Rising es) {ss : List (List UInt8)} (hp : ss.Perm (namesOf es)) : (ss.mergeSort fun x y => decide (x ≤ y)) = namesOf es := by
  have tr : ∀ a b c : List UInt8, decide (a ≤ b) = true → decide (b ≤ c) = true → decide (a ≤ c) = true := fun a b c h1 h2 => by
    simp only [decide_eq_true_eq] at *
    exact List.le_trans h1 h2
  have to : ∀ a b : List UInt8, (decide (a ≤ b) || decide (b ≤ a)) = true := fun a b => by
    simp only [Bool.or_eq_true, decide_eq_true_eq]
    exact List.le_total a b
  have hs : (namesOf es).Pairwise fun a b => decide (a ≤ b) = true := by
    refine List.pairwise_map.2 (h.imp fun {p q} hb => ?_)
    simp only [decide_eq_true_eq]
    exact List.le_of_lt (before_lt hb)
  refine List.Perm.eq_of_pairwise (le := fun a b => decide (a ≤ b) = true) (fun a b _ _ h1 h2 => ?_) (List.pairwise_mergeSort tr to ss) hs ((List.mergeSort_perm ss _).trans hp)
  simp only [decide_eq_true_eq] at h1 h2
  exact List.le_antisymm h1 h2

end Go.Proofs.YteekcbbdbciddaaGreatDoor.fs
