/- A slice of bytes as an argument, where what comes in is of bounded bulk. -/
import Derived.Test.YtbhhmbbldbgdnaaRow
import Derived.Deep.Slices
import Derived.JoinedCond
namespace Go.Proofs.Ytbhhmbbldbgdnaa.layRow
open Go.ChangeShapes Go.WideShapes Go.ChangeAt Go.RowKit Go.Deep Go.Proofs.Ytbhhmbbldbgdnaa.sum Go.Proofs.Ytbhhmbbldbgdnaa.kept Go.Proofs.Ytbhhmbbldbgdnaa.row
set_option linter.unusedVariables false

section
variable {H : Type} {enc : TypeId × Value → H} {W : World}

theorem len_bulk (l : List (DataW H)) : l.length ≤ Rows.uptoBulkAll l := by
  induction l with
  | nil => simp
  | cons y l ih =>
    have h1 : 1 ≤ Rows.uptoBulk y := by cases y with
      | lit l => cases l <;> simp [Rows.uptoBulk]
      | _ => simp [Rows.uptoBulk]
    simp only [List.length_cons, Rows.uptoBulkAll]; omega

/-- A slice of bytes, opened, of bounded bulk. -/
theorem open_bs_bulk {a : Option Addr} {len cap : Nat} {d : DataW H} {p : List MemPlace} (h0 : DataW.Trod enc Try.prog W 0 (fun _ => true) true 30 (.slice a len cap) d p) (hk : Rows.uptoBulk d ≤ 1048576) :
    ∃ bs, Bs W (.slice a len cap) bs ∧ bs.length ≤ 1048576 := by
  have h := h0
  obtain ⟨fuel, hf⟩ := h0
  obtain ⟨bs, hb⟩ := open_bs_any h
  refine ⟨bs, hb, ?_⟩
  obtain ⟨_, _, e, -, -, -⟩ := hb
  simp only [Value.slice.injEq] at e
  rcases open_ints Try.underlying30 Try.underlying5 (by kernel_rfl) hf with ⟨hcs, _⟩ | ⟨x, l, c, zs, hcs, _, hl, hm, hz, hx, hcell, hwz⟩
  · simp [Value.cells] at hcs
    omega
  · simp [Value.cells] at hcs
    obtain ⟨rfl, rfl, rfl⟩ := hcs
    simp only [if_true] at hz
    obtain ⟨rfl, rfl⟩ := Prod.mk.inj hx
    simp only [Rows.uptoBulk] at hk
    have := len_bulk (lits (H := H) .u8 (zs.take len))
    have hl2 : (lits (H := H) .u8 (zs.take len)).length = len := by simp [lits]; omega
    rw [hl2] at this
    omega

end
end Go.Proofs.Ytbhhmbbldbgdnaa.layRow
