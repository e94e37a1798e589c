/- What the rows' listed variables give the walks of chapter 5: the one number of package math/bits' table. -/
import Derived.Test.YteekcbbdbciddaaGreatDoorRow0
import Derived.Test.YteekcbbdbciddaaGreatDoorHexM
import Derived.LaidMore
import Derived.LaidSub
import Derived.Stop.Joined

namespace Go.Proofs.YteekcbbdbciddaaGreatDoor.walLaid
open Go.ChangeShapes Go.WideShapes Go.ChangeAt Go.RowKit Go.Proofs.YteekcbbdbciddaaGreatDoor.sum Go.Proofs.YteekcbbdbciddaaGreatDoor.kept Go.Proofs.YteekcbbdbciddaaGreatDoor.row Go.Proofs.YteekcbbdbciddaaGreatDoor.hex
set_option linter.unusedVariables false

theorem gTab : Tryz.prog.globalNamed "math/bits.deBruijn64tab" = some 6 := by kernel_rfl
theorem tTab : (Tryz.prog.globals[6]?).map (·.type) = some 188 := by kernel_rfl
theorem cellsByte : Tryz.prog.cellsOf 5 = 1 := by kernel_rfl

set_option maxRecDepth 100000 in
theorem byte_of_trod {H : Type} {enc : TypeId × Value → H} {w : World} {base : Nat} {sp : Nat → Bool} {held : Bool} {fuel : Nat} {cs : List Value} {y : DataW H × List MemPlace} {n : Int}
    (h : DataW.trod enc Tryz.prog w base sp held fuel 5 cs = some y) (hy : y.1 = .lit (.int .u8 n)) (hl : cs.length ≤ 1) : cs = [.int .u8 n] := by
  cases fuel with
  | zero => simp [DataW.trod] at h
  | succ fuel =>
    match cs, hl with
    | [], _ => simp [DataW.trod, Tryz.underlying5] at h
    | [c], _ =>
      cases c <;> simp [DataW.trod, Tryz.underlying5] at h
      rename_i k' m
      obtain ⟨⟨rfl, _⟩, rfl⟩ := h
      simp only [DataW.lit.injEq, Lit.int.injEq, true_and] at hy
      rw [hy]

set_option maxRecDepth 100000 in
theorem of_tab {W : World} (h : laidMetH Tryz.prog [("math/bits.deBruijn64tab", Rows.laid_math_bits_deBruijn64tab)] W) : Tz W := by
  rw [MakeChecks.laidMetH_plain _ _ _ (by kernel_rfl)] at h
  obtain ⟨ps, ⟨g0, t0, cs0, f0, p0, q0, hg0, ht0, hv0, hd0, _, _⟩, _, _⟩ := h
  obtain rfl := Option.some.inj (gTab.symm.trans hg0)
  obtain rfl := Option.some.inj (tTab.symm.trans ht0)
  obtain ⟨xs, m1, rfl, hx1, hlen, hn3, hel⟩ := DataW.trod_array Tryz.underlying188 hd0
  rw [cellsByte] at hel
  simp only [Prod.mk.injEq] at hx1
  have h15 := hel 15 (by omega)
  have hlt : 15 < xs.length := by omega
  rw [List.getElem?_eq_getElem hlt] at h15
  have hy : (xs[15]).1 = .lit (.int .u8 4) := by
    have e := hx1.1
    unfold Rows.laid_math_bits_deBruijn64tab at e
    simp only [DataW.agg.injEq] at e
    have e2 := congrArg (fun l => l[15]?) e
    simp only [List.getElem?_map, List.getElem?_eq_getElem hlt, Option.map_some] at e2
    exact (Option.some.inj e2).symm
  have hc := byte_of_trod h15 hy (by rw [List.length_take]; exact Nat.min_le_left _ _)
  have hc2 : cs0.toList[15]? = some (.int .u8 4) := by
    have := congrArg (fun l => l[0]?) hc
    simpa using this
  exact (World.var?_cell hg0 hv0 15).trans (by rw [← Array.getElem?_toList, hc2])

end Go.Proofs.YteekcbbdbciddaaGreatDoor.walLaid
