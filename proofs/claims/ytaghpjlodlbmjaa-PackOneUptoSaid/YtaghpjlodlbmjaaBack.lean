/- PackBack: the law's walk. -/
import Derived.Test.YtaghpjlodlbmjaaCut
import Derived.Deep.RegionHeld3
namespace Go.Proofs.Ytaghpjlodlbmjaa.backWalk
open Go.RowKit Go.Proofs.Ytaghpjlodlbmjaa.sum Go.Proofs.Ytaghpjlodlbmjaa.kept Go.Proofs.Ytaghpjlodlbmjaa.app Go.Proofs.Ytaghpjlodlbmjaa.writer Go.Proofs.Ytaghpjlodlbmjaa.clone Go.Proofs.Ytaghpjlodlbmjaa.known Go.Proofs.Ytaghpjlodlbmjaa.unseal Go.Proofs.Ytaghpjlodlbmjaa.number Go.Proofs.Ytaghpjlodlbmjaa.words Go.Proofs.Ytaghpjlodlbmjaa.turned Go.Proofs.Ytaghpjlodlbmjaa.laid Go.Proofs.Ytaghpjlodlbmjaa.back Go.Proofs.Ytaghpjlodlbmjaa.reader Go.Proofs.Ytaghpjlodlbmjaa.cut
set_option linter.unusedVariables false

theorem back_step {ls : List LayD} {k : Nat} {d : LayD} (h : k < ls.length) (hd : ls[k] = d) :
    ∃ r, (layAll ls).drop (layAll (ls.take k)).length = layOne d ++ r ∧ (layAll (ls.take k)).length + (layOne d).length = (layAll (ls.take (k + 1))).length := by
  subst hd
  have e : layAll ls = layAll (ls.take k) ++ (layOne ls[k] ++ layAll (ls.drop (k + 1))) := by
    have e1 : ls = ls.take k ++ ls[k] :: ls.drop (k + 1) := by
      conv => lhs; rw [← List.take_append_drop k ls]
      rw [List.drop_eq_getElem_cons h]
    unfold layAll
    conv => lhs; rw [e1, List.flatMap_append, List.flatMap_cons]
  refine ⟨layAll (ls.drop (k + 1)), ?_, ?_⟩
  · conv => lhs; rw [e]
    rw [List.drop_left]
  · rw [layAll_snoc h, List.length_append]

def BackRel (w : World) (p : Nat) (vR : Value) (ls : List LayD) (i : Value) (wr : World) : Prop :=
  ∃ k, k ≤ ls.length ∧ i = .int .i64 ((k : Nat) : Int) ∧ Rd wr p vR (layAll ls) (layAll (ls.take k)).length 0 ∧ Kp No w wr

theorem rd_same {w w' : World} {p : Nat} {v : Value} {bs : List UInt8} {at_ bad : Nat} (h : Rd w p v bs at_ bad) (hk : Kp No w w') : Rd w' p v bs at_ bad := h.kept hk id fun _ _ _ _ _ => id

theorem back_same {w : World} {p : Nat} {vR : Value} {ls : List LayD} {i : Value} {wr w' : World} (h : BackRel w p vR ls i wr) (hk : Kp No wr w') : BackRel w p vR ls i w' := by
  obtain ⟨k, h1, h2, h3, h4⟩ := h
  exact ⟨k, h1, h2, rd_same h3 hk, h4.trans' hk⟩

/-- two floats, or both none -/
theorem one_any (x y : Nat) (h : (nanB x = false ∧ (FloatKind.f64.format.order x y == some .eq) = true) ∨ (nanB x = true ∧ nanB y = true ∧ (FloatKind.f64.format.order x y == some .eq) = false)) (w : World) :
    Calls Try.prog 67 #[.float .f64 x, .float .f64 y] w fun e w' => e = .returned (.bool true) ∧ w = w' := by
  rcases h with ⟨h1, h2⟩ | ⟨h1, h2, h3⟩
  · go_enter Try.func67, Try.ntmps67
    go_wp2
    go_ret
    exact ⟨rfl, rfl⟩
  · have n1 := neq_yes h1
    have n2 := neq_yes h2
    clear h1 h2
    go_enter Try.func67, Try.ntmps67
    go_wp2
    go_ret
    exact ⟨rfl, rfl⟩

theorem one_canon (x : Nat) (w : World) : Calls Try.prog 67 #[.float .f64 (canon x), .float .f64 x] w fun e w' => e = .returned (.bool true) ∧ w = w' := by
  by_cases h : nanB x = true
  · have e : canon x = nanW := by unfold canon; rw [if_pos h]
    rw [e]
    refine one_any nanW x (.inr ⟨nanB_nanW, h, ?_⟩) w
    have hr : FloatKind.f64.format.read nanW = .nan false 2251799813685249 := by decide +kernel
    show ((FloatKind.f64.format.read nanW).order (FloatKind.f64.format.read x) == some .eq) = false
    rw [hr]
    rfl
  · have e : canon x = x := by unfold canon; rw [if_neg h]
    have h' : nanB x = false := by simpa using h
    rw [e]
    refine one_any x x (.inl ⟨h', ?_⟩) w
    unfold nanB at h'
    simpa using h'

end Go.Proofs.Ytaghpjlodlbmjaa.backWalk
