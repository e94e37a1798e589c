/- How a slice of whole numbers is read as an argument; the laws' table of separators. -/
import Derived.Test.YtpmmjihkgfmbhaaDoorRow
import Derived.Test.YtpmmjihkgfmbhaaDoorSplitAll
import Derived.Test.YtpmmjihkgfmbhaaDoorSeps
import Derived.LaidMore
import Derived.LaidSub
import Derived.Stop.Joined
namespace Go.Proofs.YtpmmjihkgfmbhaaDoor.cuRow
open Go.ChangeShapes Go.WideShapes Go.ChangeAt Go.RowKit Go.Proofs.YtpmmjihkgfmbhaaDoor.sum Go.Proofs.YtpmmjihkgfmbhaaDoor.kept Go.Proofs.YtpmmjihkgfmbhaaDoor.row Go.Proofs.YtpmmjihkgfmbhaaDoor.spl Go.Proofs.YtpmmjihkgfmbhaaDoor.snp
set_option linter.unusedVariables false

theorem open_cu {H : Type} {enc : TypeId × Value → H} {W : World} {a : Option Addr} {len cap : Nat} {d : DataW H} {p : List MemPlace}
    (h0 : DataW.Trod enc Tryd.prog W 0 (fun _ => true) true 46 (.slice a len cap) d p) : ∃ ws, Cu W (.slice a len cap) ws := by
  obtain ⟨fuel, hf⟩ := h0
  rcases open_ints Tryd.underlying46 Tryd.underlying3 (by kernel_rfl) hf with ⟨hcs, _⟩ | ⟨x, l, c, zs, hcs, _, hl, hm, hz, hx, hcell, hwz⟩
  · simp [Value.cells] at hcs
    obtain ⟨rfl, rfl, rfl⟩ := hcs
    exact ⟨[], ⟨none, 0, rfl, Nat.le_refl _, by decide, fun h => absurd rfl h⟩⟩
  · simp [Value.cells] at hcs
    obtain ⟨rfl, rfl, rfl⟩ := hcs
    simp only [if_true] at hz
    have hlen : (zs.take len).length = len := by simp; omega
    refine ⟨zs.take len, ⟨some x, cap, by rw [hlen], by omega, by unfold maxLen at hm; omega, fun hne => ?_⟩⟩
    have h0 : 0 < zs.length := by
      rcases Nat.eq_zero_or_pos len with e | e
      · subst e; simp at hne
      · omega
    have hc0 := hcell 0 h0
    obtain ⟨b, o, spot⟩ := x
    have hspot : spot = none := by simpa [Addr.add] using World.cell?_spot hc0
    subst hspot
    refine ⟨b, o, rfl, fun k hk => ?_⟩
    rw [hlen] at hk
    have hkz : k < zs.length := by omega
    have hc := hcell k hkz
    rw [addr_add] at hc
    rw [hc]
    simp [List.getD, hkz]

theorem gSeps : Tryd.prog.globalNamed "tailrace/tailracelaw7.seps" = some 0 := by kernel_rfl
theorem tSeps : (Tryd.prog.globals[0]?).map (·.type) = some 47 := by kernel_rfl
theorem cellsStr : Tryd.prog.cellsOf 9 = 1 := by kernel_rfl

/-- one text of the list -/
theorem one_text {H : Type} {enc : TypeId × Value → H} {W : World} {sp : Nat → Bool} {m j base : Nat} {held : Bool} {cs : List Value} {x : DataW H × List MemPlace} {L : List UInt8} {s0 : ByteArray} (h : DataW.trod enc Tryd.prog W base sp held m 9 ((cs.drop (j * 1)).take 1) = some x) (hL : x.1 = .lit (.string L)) (hs : s0.data.toList = L) : cs[j]? = some (.string s0) := by
  obtain ⟨s, e1, e2, _⟩ := DataW.trod_string Tryd.underlying9 h
  rw [e2] at hL
  simp only [DataW.lit.injEq, Lit.string.injEq] at hL
  have es : s = s0 := by
    apply ByteArray.ext
    rw [← Array.toList_inj, hL, hs]
  subst es
  rw [Nat.mul_one] at e1
  have := congrArg (fun l => l[0]?) e1
  simpa using this

/-- What the condition gives the walk: the five texts' cells. -/
theorem of_seps {W : World} (h : laidMetH Tryd.prog [("tailrace/tailracelaw7.seps", Rows.laid_tailrace_tailracelaw7_seps)] W) : Sq W := by
  rw [MakeChecks.laidMetH_plain _ _ _ (by kernel_rfl)] at h
  obtain ⟨ps, ⟨g0, t0, cs0, f0, p0, q0, hg0, ht0, hv0, hd0, _, _⟩, _, _⟩ := h
  obtain rfl := Option.some.inj (gSeps.symm.trans hg0)
  obtain rfl := Option.some.inj (tSeps.symm.trans ht0)
  obtain ⟨xs, m1, rfl, hx1, hlen, hn3, hel⟩ := DataW.trod_array Tryd.underlying47 hd0
  rw [cellsStr] at hel
  simp only [Prod.mk.injEq, DataW.agg.injEq] at hx1
  match xs, hn3, hx1, hel with
  | [x0, x1, x2, x3, x4], _, hx1, hel =>
    simp only [List.map_cons, List.map_nil] at hx1
    obtain ⟨hxl, -⟩ := hx1
    unfold Rows.laid_tailrace_tailracelaw7_seps at hxl
    simp only [DataW.agg.injEq, List.cons.injEq, and_true] at hxl
    obtain ⟨e0, e1, e2, e3, e4⟩ := hxl
    have c := fun K u (hu : cs0.toList[K]? = some u) => (World.var?_cell hg0 hv0 K).trans (by rw [← Array.getElem?_toList, hu])
    intro K hK
    match K, hK with
    | 0, _ => exact c 0 _ (one_text (s0 := tx (sepL 0)) (hel 0 (by decide)) e0.symm rfl)
    | 1, _ => exact c 1 _ (one_text (s0 := tx (sepL 1)) (hel 1 (by decide)) e1.symm rfl)
    | 2, _ => exact c 2 _ (one_text (s0 := tx (sepL 2)) (hel 2 (by decide)) e2.symm rfl)
    | 3, _ => exact c 3 _ (one_text (s0 := tx (sepL 3)) (hel 3 (by decide)) e3.symm rfl)
    | 4, _ => exact c 4 _ (one_text (s0 := tx (sepL 4)) (hel 4 (by decide)) e4.symm rfl)

end Go.Proofs.YtpmmjihkgfmbhaaDoor.cuRow
