/- A scope with any labels: what holds at each jump, and a measure. No program is named here. -/
import Derived.Test.YtpmmjihkgfmbhaaDoorBase
import Derived.ScopeJumps
import Derived.WalkMore
namespace Go.Proofs.YtpmmjihkgfmbhaaDoor.spl
open Go.RowKit
set_option linter.unusedVariables false

/-- As Q; by a goto to a label: what holds there. -/
def jumpF (J : Nat → Act → World → Prop) (Q : Exit → Act → World → Prop) : Exit → Act → World → Prop
  | .goto l, a, w => J l a w
  | e, a, w => Q e a w

theorem wp_scope_many {P : Program} {a : Act} {w : World} {Q : Exit → Act → World → Prop} {c : Code} (J : Nat → Act → World → Prop) (μ : Nat → Act → World → Nat) (rest : Nat → Code) (hf : ∀ l a w, J l a w → findLabel c l = some (rest l))
    (pass : ∀ l a w, J l a w → (rest l).wp P (jumpF (fun l' a' w' => J l' a' w' ∧ μ l' a' w' < μ l a w) Q) a w)
    (first : c.wp P (jumpF J Q) a w) : (Code.scope c).wp P Q a w := by
  intro b k cs
  have hg : ∀ l a w, J l a w → gotoIn l (.inScope c :: k) = some (.code (rest l) :: .inScope c :: k) := fun l a w h => by simp [gotoIn, hf l a w h]
  have key : ∀ n l a w, μ l a w = n → J l a w → ∃ e a' w', Q e a' w' ∧ Arrives P (lone (b.at a (.code (rest l) :: .inScope c :: k)) cs w) b k cs e a' w' := by
    intro n
    induction n using Nat.strongRecOn with
    | _ n ih =>
      intro l a w hn hJ
      obtain ⟨e, a₁, w₁, hq, harr⟩ := pass l a w hJ b (.inScope c :: k) cs
      cases e with
      | normal => exact ⟨.normal, a₁, w₁, hq, Steps.trans harr (.one step_inScope)⟩
      | exit id => exact ⟨.exit id, a₁, w₁, hq, fun k' hk => harr k' (by simp [exitTo, hk])⟩
      | goto l' =>
        obtain ⟨hJ', hlt⟩ := hq
        obtain ⟨e₂, a₂, w₂, hq₂, harr₂⟩ := ih _ (by omega) l' a₁ w₁ rfl hJ'
        exact ⟨e₂, a₂, w₂, hq₂, .of_steps (harr _ (hg l' a₁ w₁ hJ')) harr₂⟩
      | ret => exact ⟨_, a₁, w₁, hq, harr⟩
      | panic ch => exact ⟨_, a₁, w₁, hq, harr⟩
      | outgrown => exact ⟨_, a₁, w₁, hq, harr⟩
  obtain ⟨e, a₁, w₁, hq, harr⟩ := first b (.inScope c :: k) cs
  cases e with
  | normal => exact ⟨.normal, a₁, w₁, hq, .head step_scope (Steps.trans harr (.one step_inScope))⟩
  | exit id => exact ⟨.exit id, a₁, w₁, hq, fun k' hk => .head step_scope (harr k' (by simp [exitTo, hk]))⟩
  | goto l =>
    obtain ⟨e₂, a₂, w₂, hq₂, harr₂⟩ := key _ l a₁ w₁ rfl hq
    exact ⟨e₂, a₂, w₂, hq₂, .of_steps (.head step_scope (harr _ (hg l a₁ w₁ hq))) harr₂⟩
  | ret => exact ⟨_, a₁, w₁, hq, .of_steps (.one step_scope) harr⟩
  | panic ch => exact ⟨_, a₁, w₁, hq, .of_steps (.one step_scope) harr⟩
  | outgrown => exact ⟨_, a₁, w₁, hq, .of_steps (.one step_scope) harr⟩

/-- Two labels, of which the one (A) stands ahead of the other (B): the code behind B is walked first; behind A, where one comes to B, it serves again. -/
theorem scope_two {P : Program} {a : Act} {w : World} {Q : Exit → Act → World → Prop} {c X Y : Code} (A B : Nat) (hne : A ≠ B) (J K : Act → World → Prop) (μ ν : Act → World → Nat) (hA : findLabel c A = some (.seq .skip X)) (hB : findLabel c B = some (.seq .skip Y))
    (passB : ∀ a w, K a w → Y.wp P (jumpF (fun l a' w' => l = A ∧ J a' w' ∧ μ a' w' < ν a w ∨ l = B ∧ K a' w' ∧ ν a' w' < ν a w) Q) a w)
    (passA : ∀ a w, J a w → (∀ a1 w1, K a1 w1 → ν a1 w1 ≤ μ a w → Y.wp P (jumpF (fun l a' w' => l = A ∧ J a' w' ∧ μ a' w' < μ a w ∨ l = B ∧ K a' w' ∧ ν a' w' < μ a w) Q) a1 w1) →
      X.wp P (jumpF (fun l a' w' => l = A ∧ J a' w' ∧ μ a' w' < μ a w ∨ l = B ∧ K a' w' ∧ ν a' w' < μ a w) Q) a w)
    (first : (∀ a w, J a w → X.wp P (jumpF (fun l a' w' => l = A ∧ J a' w' ∨ l = B ∧ K a' w') Q) a w) → c.wp P (jumpF (fun l a' w' => l = A ∧ J a' w' ∨ l = B ∧ K a' w') Q) a w) : (Code.scope c).wp P Q a w := by
  have pA : ∀ a w, J a w → X.wp P (jumpF (fun l a' w' => l = A ∧ J a' w' ∧ μ a' w' < μ a w ∨ l = B ∧ K a' w' ∧ ν a' w' < μ a w) Q) a w := fun a w hJ =>
    passA a w hJ fun a1 w1 hK hle => Code.wp_mono (fun e a' w' h => by
      cases e <;> first
        | exact h
        | (rcases h with ⟨h1, h2, h3⟩ | ⟨h1, h2, h3⟩
           · exact .inl ⟨h1, h2, Nat.lt_of_lt_of_le h3 hle⟩
           · exact .inr ⟨h1, h2, Nat.lt_of_lt_of_le h3 hle⟩)) (passB a1 w1 hK)
  refine wp_scope_many (fun l a w => l = A ∧ J a w ∨ l = B ∧ K a w) (fun l a w => if l = A then μ a w else ν a w) (fun l => if l = A then .seq .skip X else .seq .skip Y) (fun l a w h => ?_) (fun l a w h => ?_) (first fun a w hJ => Code.wp_mono (fun e a' w' h => by
      cases e <;> first
        | exact h
        | (rcases h with ⟨h1, h2, h3⟩ | ⟨h1, h2, h3⟩
           · exact .inl ⟨h1, h2⟩
           · exact .inr ⟨h1, h2⟩)) (pA a w hJ))
  · rcases h with ⟨rfl, -⟩ | ⟨rfl, -⟩
    · simp only [if_pos rfl]; exact hA
    · simp only [if_neg (Ne.symm hne)]; exact hB
  · rcases h with ⟨rfl, hJ⟩ | ⟨rfl, hK⟩
    · simp only [if_pos rfl]
      refine wp_seq (wp_skip (Code.wp_mono (fun e a' w' h => ?_) (pA a w hJ)))
      cases e <;> first
        | exact h
        | (rcases h with ⟨h1, h2, h3⟩ | ⟨h1, h2, h3⟩
           · exact ⟨.inl ⟨h1, h2⟩, by rw [if_pos h1]; exact h3⟩
           · exact ⟨.inr ⟨h1, h2⟩, by rw [if_neg (fun e => hne (e.symm.trans h1))]; exact h3⟩)
    · simp only [if_neg (Ne.symm hne)]
      refine wp_seq (wp_skip (Code.wp_mono (fun e a' w' h => ?_) (passB a w hK)))
      cases e <;> first
        | exact h
        | (rcases h with ⟨h1, h2, h3⟩ | ⟨h1, h2, h3⟩
           · exact ⟨.inl ⟨h1, h2⟩, by rw [if_pos h1]; exact h3⟩
           · exact ⟨.inr ⟨h1, h2⟩, by rw [if_neg (fun e => hne (e.symm.trans h1))]; exact h3⟩)

end Go.Proofs.YtpmmjihkgfmbhaaDoor.spl
