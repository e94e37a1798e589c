/- What the rows' listed variables give the walks of chapters 11 and 12. -/
import Derived.Test.YtgejeocojmpdjacGreatDoorPfFormatM
import Derived.Test.YtgejeocojmpdjacGreatDoorRows
import Derived.ProofKit
import Derived.OpenShut
import Derived.ChangeSame
import Derived.LaidMore
import Derived.LaidSub
import Derived.Stop.Joined

namespace Go.Proofs.YtgejeocojmpdjacGreatDoor.pf
open Go.ChangeShapes Go.WideShapes Go.ChangeAt Go.RowKit Go.Lib Go.Proofs.YtgejeocojmpdjacGreatDoor.sum Go.Proofs.YtgejeocojmpdjacGreatDoor.kept Go.Proofs.YtgejeocojmpdjacGreatDoor.fmtf
set_option linter.unusedVariables false

def dbZ : List Int := [0, 1, 56, 2, 57, 49, 28, 3, 61, 58, 42, 50, 38, 29, 17, 4, 62, 47, 59, 36, 45, 43, 51, 22, 53, 39, 33, 30, 24, 18, 12, 5, 63, 55, 48, 27, 60, 41, 37, 16, 46, 35, 44, 21, 52, 32, 23, 11, 54, 26, 40, 15, 34, 20, 31, 10, 25, 14, 19, 9, 13, 8, 7, 6]
def p10Z : List Int := [1, 10, 100, 1000, 10000, 100000, 1000000, 10000000, 100000000, 1000000000, 10000000000, 100000000000, 1000000000000, 10000000000000, 100000000000000, 1000000000000000, 10000000000000000, 100000000000000000, 1000000000000000000, 10000000000000000000]
theorem tab_cell {W : World} (name : String) (dat : DataW Unit) (g : Nat) (T E : TypeId) (k : IntKind) (N : Nat) (zs : List Int) (hdat : dat = .agg (zs.map fun n => .lit (.int k n))) (hN : zs.length = N) (hg0 : Tryz.prog.globalNamed name = some g) (ht0 : (Tryz.prog.globals[g]?).map (·.type) = some T)
    (hT : Tryz.prog.underlying T = some (.array N E)) (hE : Tryz.prog.underlying E = some (.int k)) (hc : Tryz.prog.cellsOf E = 1) (h : laidMet Tryz.prog [(name, dat)] W) (r : Nat) (hr : r < N) : W.cell? ⟨g, r, none⟩ = some (.int k (zs.getD r 0)) := by
  obtain ⟨ps, ⟨g1, t1, cs, fuel, p, q, hg, ht, hv, hd, _, _⟩, _, _⟩ := h
  obtain rfl := Option.some.inj (hg0.symm.trans hg)
  obtain rfl := Option.some.inj (ht0.symm.trans ht)
  rw [hdat] at hd
  obtain ⟨xs, m, _, ex, _, hl, hel⟩ := DataW.trod_array hT hd
  have hEl := hel r hr
  rw [hc, Nat.mul_one, List.getElem?_eq_getElem (by omega)] at hEl
  obtain ⟨z, e1, e2, _⟩ := DataW.trod_int hE hEl
  have e3 : (xs.map (·.1)) = zs.map fun n => .lit (.int k n) := (DataW.agg.inj (Prod.mk.inj ex).1).symm
  have e4 : (xs.map (·.1))[r]? = (zs.map fun n => (DataW.lit (.int k n) : DataW Unit))[r]? := by rw [e3]
  rw [List.getElem?_map, List.getElem?_map, List.getElem?_eq_getElem (by omega : r < xs.length), List.getElem?_eq_getElem (by omega : r < zs.length), e2] at e4
  have hz : z = zs.getD r 0 := by
    simp only [Option.map_some, Option.some.injEq, DataW.lit.injEq, Lit.int.injEq, true_and] at e4
    rw [e4, List.getD, List.getElem?_eq_getElem (by omega : r < zs.length)]; rfl
  rw [World.var?_cell hg hv r, ← hz]
  have : cs.toList[r]? = some (.int k z) := by
    have h0 : ((cs.toList.drop r).take 1)[0]? = some (.int k z) := by rw [e1]; rfl
    simpa using h0
  simpa using this
theorem pow_cell {W : World} (h : laidMet Tryz.prog [("internal/strconv.pow10Tab", Pinned.pow10Tab)] W) (hN : Pinned.pow10Rows.length = 696) (r : Nat) (hr : r < 696) :
    W.cell? ⟨7, r * 2, none⟩ = some (.int .u64 ((Pinned.pow10Rows.getD r (0, 0)).1 : Int)) ∧ W.cell? ⟨7, r * 2 + 1, none⟩ = some (.int .u64 ((Pinned.pow10Rows.getD r (0, 0)).2 : Int)) := by
  have hc2 : Tryz.prog.cellsOf 163 = 2 := by kernel_rfl
  have hc : Tryz.prog.cellsOf 77 = 1 := by kernel_rfl
  obtain ⟨ps, ⟨g1, t1, cs, fuel, p, q, hg, ht, hv, hd, _, _⟩, _, _⟩ := h
  obtain rfl := Option.some.inj ((show Tryz.prog.globalNamed "internal/strconv.pow10Tab" = some 7 by kernel_rfl).symm.trans hg)
  obtain rfl := Option.some.inj ((show (Tryz.prog.globals[7]?).map (·.type) = some 164 by kernel_rfl).symm.trans ht)
  unfold Pinned.pow10Tab at hd
  obtain ⟨xs, m, _, ex, _, hl, hel⟩ := DataW.trod_array Tryz.underlying164 hd
  have hEl := hel r hr
  rw [hc2, List.getElem?_eq_getElem (by omega)] at hEl
  obtain ⟨y0, y1, m2, ey, hcl, hf0, hf1⟩ := trod_struct2 Tryz.underlying163 hEl
  have hr2 : r < Pinned.pow10Rows.length := by omega
  have e3 : (xs.map (·.1)) = Pinned.pow10Rows.map fun x => .agg [.lit (.int .u64 x.1), .lit (.int .u64 x.2)] := (DataW.agg.inj (Prod.mk.inj ex).1).symm
  have e4 : (xs.map (·.1))[r]? = (Pinned.pow10Rows.map fun x => (DataW.agg [.lit (.int .u64 x.1), .lit (.int .u64 x.2)] : DataW Unit))[r]? := by rw [e3]
  rw [List.getElem?_map, List.getElem?_map, List.getElem?_eq_getElem (by omega : r < xs.length), List.getElem?_eq_getElem hr2] at e4
  have e5 : (xs[r]'(by omega)).1 = .agg [.lit (.int .u64 (Pinned.pow10Rows[r].1 : Int)), .lit (.int .u64 (Pinned.pow10Rows[r].2 : Int))] := by simpa using e4
  rw [ey] at e5
  have e6 : [y0.1, y1.1] = [.lit (.int .u64 (Pinned.pow10Rows[r].1 : Int)), .lit (.int .u64 (Pinned.pow10Rows[r].2 : Int))] := DataW.agg.inj e5
  simp only [List.cons.injEq, and_true] at e6
  have hx : Pinned.pow10Rows.getD r (0, 0) = Pinned.pow10Rows[r] := by rw [List.getD, List.getElem?_eq_getElem hr2]; rfl
  rw [hx]
  obtain ⟨a, f1, f2, _⟩ := DataW.trod_int Tryz.underlying77 hf0
  obtain ⟨b, g1, g2, _⟩ := DataW.trod_int Tryz.underlying77 hf1
  have ha : a = (Pinned.pow10Rows[r].1 : Int) := by have := e6.1; rw [f2] at this; simpa using this
  have hb : b = (Pinned.pow10Rows[r].2 : Int) := by have := e6.2; rw [g2] at this; simpa using this
  rw [← ha, ← hb, World.var?_cell hg hv (r * 2), World.var?_cell hg hv (r * 2 + 1)]
  simp only [hc] at f1 g1
  have h0 := congrArg (fun l => l[0]?) f1
  have h1 := congrArg (fun l => l[0]?) g1
  simp at h0 h1
  exact ⟨by simpa using h0, by simpa using h1⟩
theorem flag_cell {W : World} (name : String) (g : Nat) (T : TypeId) (hg0 : Tryz.prog.globalNamed name = some g) (ht0 : (Tryz.prog.globals[g]?).map (·.type) = some T) (hT : Tryz.prog.underlying T = some .bool) (h : laidMet Tryz.prog [(name, .lit (.bool true))] W) : W.cell? ⟨g, 0, none⟩ = some (.bool true) := by
  obtain ⟨ps, ⟨g1, t1, cs, fuel, p, q, hg, ht, hv, hd, _, _⟩, _, _⟩ := h
  obtain rfl := Option.some.inj (hg0.symm.trans hg)
  obtain rfl := Option.some.inj (ht0.symm.trans ht)
  obtain ⟨b, e1, e2⟩ := DataW.trod_bool hT hd
  have hb : b = true := by
    have := (Prod.mk.inj e2).1
    simpa using this.symm
  rw [World.var?_cell hg hv 0]
  rw [hb] at e1
  have : cs.toList[0]? = some (.bool true) := by rw [e1]; rfl
  simpa using this
theorem pow_len : Pinned.pow10Rows.length = 696 := by kernel_rfl
theorem pow_bd : (Pinned.pow10Rows.all fun x => decide (x.1 < 18446744073709551616) && decide (x.2 < 18446744073709551616)) = true := by kernel_rfl
theorem p10_is : ((List.range 19).all fun n => decide (p10Z.getD n 0 = ((10 ^ n : Nat) : Int))) = true := by kernel_rfl
theorem ld_of {W : World} (h1 : laidMet Tryz.prog [("internal/strconv.optimize", .lit (.bool true))] W) (h2 : laidMet Tryz.prog [("internal/strconv.uint64pow10", .agg (p10Z.map fun n => .lit (.int .u64 n)))] W) (h3 : laidMet Tryz.prog [("internal/strconv.pow10Tab", Pinned.pow10Tab)] W) (h4 : laidMet Tryz.prog [("math/bits.deBruijn64tab", .agg (dbZ.map fun n => .lit (.int .u8 n)))] W) : Ld W := by
  have db := tab_cell "math/bits.deBruijn64tab" _ 10 171 5 .u8 64 dbZ rfl (by kernel_rfl) (by kernel_rfl) (by kernel_rfl) Tryz.underlying171 Tryz.underlying5 (by kernel_rfl) h4
  refine ⟨flag_cell _ _ 4 (by kernel_rfl) (by kernel_rfl) Tryz.underlying4 h1, fun n hn => ?_, fun p hp1 hp2 => ?_, db 15 (by omega), db 7 (by omega)⟩
  · have := tab_cell "internal/strconv.uint64pow10" _ 4 131 77 .u64 20 p10Z rfl (by kernel_rfl) (by kernel_rfl) (by kernel_rfl) Tryz.underlying131 Tryz.underlying77 (by kernel_rfl) h2 n (by omega)
    have e := of_decide_eq_true (List.all_eq_true.1 p10_is n (List.mem_range.2 (by omega)))
    rw [e] at this
    exact this
  · obtain ⟨r, hr⟩ : ∃ r : Nat, p + 348 = (r : Int) := ⟨(p + 348).toNat, by omega⟩
    have hr2 : r < 696 := by omega
    have hc := pow_cell h3 pow_len r hr2
    have hm : Pinned.pow10Rows.getD r (0, 0) ∈ Pinned.pow10Rows := by
      have hl : r < Pinned.pow10Rows.length := by rw [pow_len]; exact hr2
      rw [List.getD, List.getElem?_eq_getElem hl]
      exact List.getElem_mem hl
    have hb := List.all_eq_true.1 pow_bd _ hm
    simp only [Bool.and_eq_true, decide_eq_true_eq] at hb
    unfold Pw T10
    rw [hr, Int.toNat_natCast]
    exact ⟨hc, hb⟩

end Go.Proofs.YtgejeocojmpdjacGreatDoor.pf
