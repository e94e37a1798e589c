/- A scope in which the run jumps back to one label, walked once; a slice's end. -/
import Derived.Test.YteekcbbdbciddaaGreatDoorLst
import Derived.Test.YteekcbbdbciddaaGreatDoorTurnedPlainM
import Derived.ScopeJumps
import Derived.WalkMore

namespace Go.Proofs.YteekcbbdbciddaaGreatDoor.lst
open Go.RowKit Go.Proofs.YteekcbbdbciddaaGreatDoor.sum Go.Proofs.YteekcbbdbciddaaGreatDoor.kept Go.Proofs.YteekcbbdbciddaaGreatDoor.app Go.Proofs.YteekcbbdbciddaaGreatDoor.writer Go.Proofs.YteekcbbdbciddaaGreatDoor.clone Go.Proofs.YteekcbbdbciddaaGreatDoor.unseal
set_option linter.unusedVariables false

theorem scope_once {P : Program} {a : Act} {w : World} {Q : Exit → Act → World → Prop} {c X : Code} (l : Nat) (J : Act → World → Prop) (μ : Act → World → Nat) (hf : findLabel c l = some (.seq .skip X))
    (pass : ∀ a w, J a w → X.wp P (Exit.jump l (fun a' w' => J a' w' ∧ μ a' w' < μ a w) Q) a w)
    (first : (∀ a w, J a w → X.wp P (Exit.jump l J Q) a w) → c.wp P (Exit.jump l J Q) a w) : (Code.scope c).wp P Q a w := by
  refine wp_scope_jumps l J μ hf (first fun a w hJ => Code.wp_mono ?_ (pass a w hJ)) fun a w hJ => wp_seq (wp_skip (pass a w hJ))
  intro e a w h
  cases e <;> first | exact h | exact ⟨h.1, h.2.1⟩

/-- what stands from a place on -/
theorem slice_from {w : World} {a : Option Addr} {len cap : Nat} {bs : List UInt8} (h : Bs w (.slice a len cap) bs) (k : Nat) (hk : k ≤ bs.length) :
    ∃ b' c', (∀ W, (Instr.sliceAt 34 (.slice a len cap) (some (.int .i64 (k : Int))) none none).run Tryz.prog W = .ok (.slice b' (bs.length - k) c') W) ∧ ∀ w', Kp No w w' → Bs w' (.slice b' (bs.length - k) c') (bs.drop k) := by
  have H := h
  obtain ⟨a, c, e, h1, h2, h3⟩ := h
  simp only [Value.slice.injEq] at e
  obtain ⟨rfl, rfl, rfl⟩ := e
  refine ⟨if cap = k then a else a.map (·.add k), cap - k, fun W => ?_, fun w' hk' => ?_⟩
  · obtain ⟨i0, hi, hz0, hz1, hz2⟩ := info_parts info5
    have hu : Tryz.prog.underlying 34 = some (.slice (Tryz.prog.elem 34)) := by kernel_rfl
    have he : Tryz.prog.elem 34 = 5 := by kernel_rfl
    rw [run_sliceAt_slice W _ _ _ _ _ hu, run_slice_l W _ _ _ _ hu .i64 (k : Int) (by omega) (by omega)]
    simp [he, sizeOf, typeInfo, hi, hz1, sliced, Result.andThen]
  · refine bs_no ?_ hk'
    by_cases hne : bs = []
    · subst hne
      simp only [List.length_nil, Nat.le_zero] at hk
      subst hk
      refine ⟨_, _, rfl, ?_, by omega, fun h => absurd rfl h⟩
      simp
    · obtain ⟨b, o, rfl, hc⟩ := h3 hne
      have := bs_drop H k hk (if cap = k then some ⟨b, o, none⟩ else some ⟨b, o + k, none⟩) (fun h => if_neg (fun e => h e.symm))
      rw [Option.map_some, addr_add]
      exact this

end Go.Proofs.YteekcbbdbciddaaGreatDoor.lst
