/- How a slice of whole numbers is read as an argument, where what comes in is of bounded bulk. -/
import Derived.Test.YtaghpjlodlbmjaaLayRow
import Derived.Test.YtaghpjlodlbmjaaOne
namespace Go.Proofs.Ytaghpjlodlbmjaa.intsRow
open Go.ChangeShapes Go.WideShapes Go.ChangeAt Go.RowKit Go.Deep Go.Proofs.Ytaghpjlodlbmjaa.sum Go.Proofs.Ytaghpjlodlbmjaa.kept Go.Proofs.Ytaghpjlodlbmjaa.row Go.Proofs.Ytaghpjlodlbmjaa.layRow Go.Proofs.Ytaghpjlodlbmjaa.oneWalk
set_option linter.unusedVariables false

theorem open_ints_bulk {H : Type} {enc : TypeId × Value → H} {W : World} {a : Option Addr} {len cap : Nat} {d : DataW H} {p : List MemPlace}
    (h0 : DataW.Trod enc Try.prog W 0 (fun _ => true) true 41 (.slice a len cap) d p) (hk : Rows.uptoBulk d ≤ 1048576) : ∃ ws, Ns W (.slice a len cap) ws ∧ ws.length ≤ 1048576 := by
  obtain ⟨fuel, hf⟩ := h0
  rcases open_ints Try.underlying41 Try.underlying3 (by kernel_rfl) hf with ⟨hcs, _⟩ | ⟨x, l, c, zs, hcs, _, hl, hm, hz, hx, hcell, hwz⟩
  · simp [Value.cells] at hcs
    obtain ⟨rfl, rfl, rfl⟩ := hcs
    exact ⟨[], ⟨none, 0, rfl, Nat.le_refl _, Nat.zero_le _, fun h => absurd rfl h⟩, by simp⟩
  · simp [Value.cells] at hcs
    obtain ⟨rfl, rfl, rfl⟩ := hcs
    simp only [if_true] at hz
    obtain ⟨rfl, rfl⟩ := Prod.mk.inj hx
    simp only [Rows.uptoBulk] at hk
    have hb := len_bulk (lits (H := H) .i64 (zs.take len))
    have hl2 : (lits (H := H) .i64 (zs.take len)).length = len := by simp [lits]; omega
    rw [hl2] at hb
    have hlen : (zs.take len).length = len := by simp; omega
    refine ⟨zs.take len, ⟨some x, cap, by rw [hlen], by omega, hm, fun hne => ?_⟩, by omega⟩
    have h0 : 0 < zs.length := by
      rcases Nat.eq_zero_or_pos len with e | e
      · subst e; simp at hne
      · omega
    have hc0 := hcell 0 h0
    obtain ⟨b, o, spot⟩ := x
    have hspot : spot = none := by simpa [Addr.add] using World.cell?_spot hc0
    subst hspot
    refine ⟨b, o, rfl, fun k hk => ?_⟩
    rw [hlen] at hk
    have hkz : k < zs.length := by omega
    have hc := hcell k hkz
    rw [addr_add] at hc
    rw [hc]
    have e1 : (zs.take len).getD k 0 = zs.getD k 0 := by simp [List.getD, hk, hkz]
    rw [e1]

end Go.Proofs.Ytaghpjlodlbmjaa.intsRow
