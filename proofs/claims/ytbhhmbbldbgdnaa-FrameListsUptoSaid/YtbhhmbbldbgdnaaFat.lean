/- Bytes that are turned in the rows of a list. -/
import Derived.Test.YtbhhmbbldbgdnaaLst
import Derived.Test.YtbhhmbbldbgdnaaTurned
namespace Go.Proofs.Ytbhhmbbldbgdnaa.lst
open Go.RowKit Go.Proofs.Ytbhhmbbldbgdnaa.sum Go.Proofs.Ytbhhmbbldbgdnaa.kept Go.Proofs.Ytbhhmbbldbgdnaa.app Go.Proofs.Ytbhhmbbldbgdnaa.writer Go.Proofs.Ytbhhmbbldbgdnaa.clone
set_option linter.unusedVariables false

/-- a list of rows of bytes, of whatever bytes -/
structure Fat (w : World) (base : Nat) (v : Value) (ps : Els) : Prop where
  row : w.ownsRow base 30 1 v ps.length ps.vals
  byt : ∀ q ∈ ps, ∀ g, q.1.ownBlock = some g → base ≤ g ∧ v.ownBlock ≠ some g ∧ (∀ j, j < q.2.length → ∃ x : UInt8, w.cell? ⟨g, j, none⟩ = some (B x)) ∧ ∀ j, w.frozen? ⟨g, j, none⟩ = false
  form : ∀ q ∈ ps, (q.1 = .slice none 0 0 ∧ q.2.length = 0) ∨ ∃ g cap, q.1 = .slice (some ⟨g, 0, none⟩) q.2.length cap ∧ q.2.length ≤ cap ∧ cap ≤ maxLen

theorem Lo.fat {w : World} {base : Nat} {v : Value} {ps : Els} (h : Lo w base v ps) : Fat w base v ps := by
  refine ⟨h.row, fun q hq g hg => ⟨((h.each q hq).lt g hg).1, rows_apart h.row (h.each q hq) g hg, fun j hj => ?_, fun j => ?_⟩, fun q hq => ?_⟩
  · have := (h.each q hq).cells hg j (B (q.2.getD j 0)) (by simp [List.getD, hj])
    rw [addr_add, Nat.zero_add] at this
    exact ⟨_, this⟩
  · rcases (h.each q hq).2 with ⟨e, _⟩ | ⟨g', cap, cur, e, _, hb, _⟩
    · rw [e] at hg; cases hg
    · rw [e] at hg
      simp [Value.ownBlock] at hg
      subst hg
      simp [World.frozen?, hb]
  · rcases owns_any (h.each q hq) with ⟨e, h0⟩ | ⟨g, cap, e, _, _, h1, h2⟩
    · exact .inl ⟨e, h0⟩
    · exact .inr ⟨g, cap, e, h1, h2⟩

theorem Fat.set {w : World} {base : Nat} {v : Value} {ps : Els} (h : Fat w base v ps) {g j : Nat} {x : UInt8} (hc : w.cell? ⟨g, j, none⟩ = some (B x)) (hv : v.ownBlock ≠ some g) (y : UInt8) : Fat (w.setCell ⟨g, j, none⟩ (B y)) base v ps := by
  refine ⟨ownsRow_setCell_other h.row hv _, fun q hq g' hg' => ?_, h.form⟩
  obtain ⟨h1, h2, h3, h4⟩ := h.byt q hq g' hg'
  refine ⟨h1, h2, fun i hi => ?_, fun i => by rw [World.frozen?_setCell]; exact h4 i⟩
  by_cases e : (⟨g', i, none⟩ : Addr) = ⟨g, j, none⟩
  · rw [e, World.cell?_setCell_same w _ _ hc]
    exact ⟨y, rfl⟩
  · rw [World.cell?_setCell_other w _ _ _ (fun e2 => e e2.symm)]
    exact h3 i hi


/-- the slice at a place, and its cell -/
theorem Fat.at {w : World} {base : Nat} {a : Option Addr} {len cap : Nat} {ps : Els} (h : Fat w base (.slice a len cap) ps) {k : Nat} (hk : k < ps.length) :
    ∃ g0, a = some ⟨g0, 0, none⟩ ∧ (len ≤ cap ∧ cap ≤ maxLen) ∧ w.cell? ⟨g0, k, none⟩ = some ps[k].1 := by
  obtain ⟨g, cap', e, hb, -⟩ := owns_some h.row (by omega)
  simp only [Value.slice.injEq] at e
  obtain ⟨rfl, rfl, rfl⟩ := e
  have hc := World.ownsRow.cells h.row (g := g) rfl k ps[k].1 (by simp [Els.vals, hk])
  rw [addr_add, Nat.zero_add] at hc
  refine ⟨g, rfl, ?_, hc⟩
  rcases owns_any h.row with ⟨e, _⟩ | ⟨g', cap', e, _, _, h1, h2⟩
  · cases e
  · simp only [Value.slice.injEq] at e; rw [e.2.2]; exact ⟨h1, h2⟩

end Go.Proofs.Ytbhhmbbldbgdnaa.lst
