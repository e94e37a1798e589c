/- How a slice of Ask is read as an argument. -/
import Derived.Test.YtaghpjlodlbmjaaRow
import Derived.Test.YtaghpjlodlbmjaaReads
import Derived.Deep.Slices
import Derived.Deep.Fields
import Derived.JoinedCond
namespace Go.Proofs.Ytaghpjlodlbmjaa.askRow
open Go.ChangeShapes Go.WideShapes Go.ChangeAt Go.RowKit Go.Deep Go.Proofs.Ytaghpjlodlbmjaa.sum Go.Proofs.Ytaghpjlodlbmjaa.kept Go.Proofs.Ytaghpjlodlbmjaa.row Go.Proofs.Ytaghpjlodlbmjaa.writer Go.Proofs.Ytaghpjlodlbmjaa.known Go.Proofs.Ytaghpjlodlbmjaa.reads
set_option linter.unusedVariables false

theorem cellsA : Try.prog.cellsOf 64 = 4 := by kernel_rfl
theorem one_cellA : Try.prog.cellsOf 3 = 1 ∧ Try.prog.cellsOf 5 = 1 ∧ Try.prog.cellsOf 48 = 1 := ⟨by kernel_rfl, by kernel_rfl, by kernel_rfl⟩

section
variable {H : Type} {enc : TypeId × Value → H} {W : World} {base : Nat} {spare : Nat → Bool} {held : Bool}

theorem four {cs : List Value} (h : cs.length = 4) : ∃ c0 c1 c2 c3, cs = [c0, c1, c2, c3] := by
  match cs, h with
  | [c0, c1, c2, c3], _ => exact ⟨c0, c1, c2, c3, rfl⟩
theorem foury {ys : List (DataW H × List MemPlace)} (h : ys.length = 4) : ∃ c0 c1 c2 c3, ys = [c0, c1, c2, c3] := by
  match ys, h with
  | [c0, c1, c2, c3], _ => exact ⟨c0, c1, c2, c3, rfl⟩

/-- one element -/
theorem open_one {n : Nat} {cs : List Value} {x : DataW H × List MemPlace} (h : DataW.trod enc Try.prog W base spare held n 64 cs = some x) :
    ∃ d : AskD, cs = [.int .i64 d.what, .int .u8 (d.b.toNat : Int), .int .u64 (d.n : Int), .int .i64 d.t] ∧ d.ok := by
  obtain ⟨ys, m, -, hx, hlen, hyl, hf⟩ := DataW.trod_struct Try.underlying64 h
  rw [cellsA] at hlen
  obtain ⟨c0, c1, c2, c3, rfl⟩ := four hlen
  obtain ⟨y0, y1, y2, y3, rfl⟩ := foury hyl
  have o := one_cellA
  have h0 := hf 0 _ rfl
  have h1 := hf 1 _ rfl
  have h2 := hf 2 _ rfl
  have h3 := hf 3 _ rfl
  simp [o.1] at h0
  simp [o.2.1] at h1
  simp [o.2.2] at h2
  simp [o.1] at h3
  obtain ⟨a0, e0, hy0, -⟩ := DataW.trod_int Try.underlying3 h0
  obtain ⟨a1, e1, hy1, w1⟩ := DataW.trod_int Try.underlying5 h1
  obtain ⟨a2, e2, hy2, w2⟩ := DataW.trod_int Try.underlying48 h2
  obtain ⟨a3, e3, hy3, w3⟩ := DataW.trod_int Try.underlying3 h3
  simp only [List.cons.injEq, and_true] at e0 e1 e2 e3
  subst e0 e1 e2 e3 hy0 hy1 hy2 hy3
  have b2 : 0 ≤ a2 ∧ a2 < 18446744073709551616 := by
    simp [Lit.wf, IntKind.min, IntKind.max, IntKind.signed, IntKind.bits] at w2
    omega
  have b3 : a3 < 9223372036854775808 := by
    simp [Lit.wf, IntKind.min, IntKind.max, IntKind.signed, IntKind.bits] at w3
    omega
  refine ⟨⟨a0, a1.toNat.toUInt8, a2.toNat, a3⟩, ?_, ?_, b3⟩
  · simp only [u8_of w1]
    rw [show ((a2.toNat : Nat) : Int) = a2 by omega]
  · rw [u64_eq]; show a2.toNat < _; omega

/-- A slice of Ask, opened. -/
theorem open_asks {a : Option Addr} {len cap : Nat} {d : DataW H} {p : List MemPlace} (h0 : DataW.Trod enc Try.prog W 0 (fun _ => true) true 61 (.slice a len cap) d p) :
    ∃ ls, Asks W (.slice a len cap) ls ∧ (∀ e ∈ ls, e.ok) := by
  obtain ⟨fuel, hf⟩ := h0
  rcases open_slice Try.underlying61 hf with ⟨hcs, _⟩ | ⟨x, l, c, m, n, D, Pl, hcs, _, hl, hm, hmm, hx, hi⟩
  · simp [Value.cells] at hcs
    obtain ⟨rfl, rfl, rfl⟩ := hcs
    exact ⟨[], ⟨none, 0, rfl, Nat.le_refl _, Nat.zero_le _, fun h => absurd rfl h⟩, (fun e he => by cases he)⟩
  · simp [Value.cells] at hcs
    obtain ⟨rfl, rfl, rfl⟩ := hcs
    simp only [if_true] at hmm
    subst hmm
    rw [cellsA] at hi
    have hex : ∀ i, ∃ e : AskD, i < m → (∃ cs', W.cells? 0 (x.add (i * 4)) 4 = some cs' ∧ cs' = [.int .i64 e.what, .int .u8 (e.b.toNat : Int), .int .u64 (e.n : Int), .int .i64 e.t]) ∧ e.ok := by
      intro i
      by_cases him : i < m
      · obtain ⟨cs', h1, h2⟩ := hi i him
        obtain ⟨e, h3, h4⟩ := open_one h2
        exact ⟨e, fun _ => ⟨⟨cs', h1, h3⟩, h4⟩⟩
      · exact ⟨⟨0, 0, 0, 0⟩, fun h => absurd h him⟩
    obtain ⟨f, hf2⟩ := Classical.axiomOfChoice hex
    have hlen : ((List.range len).map f).length = len := by simp
    refine ⟨(List.range len).map f, ⟨some x, m, by rw [hlen], by omega, hm, fun hne => ?_⟩, ?_⟩
    · have hpos : 0 < len := by
        rcases Nat.eq_zero_or_pos len with e | e
        · subst e; simp at hne
        · exact e
      have hcell : ∀ i, i < len → W.cell? (x.add (i * 4)) = some (.int .i64 (f i).what) := fun i hil => by
        obtain ⟨cs', h1, h2⟩ := (hf2 i (by omega)).1
        have := (World.cells?_some h1).2.2 0 (by omega)
        rw [h2] at this
        have e0 : (x.add (i * 4)).add 0 = x.add (i * 4) := by unfold Addr.add; simp
        rw [e0] at this
        exact this
      obtain ⟨b, o, spot⟩ := x
      have hspot : spot = none := by
        have := hcell 0 hpos
        simpa [Addr.add] using World.cell?_spot this
      subst hspot
      refine ⟨b, o, rfl, fun k hk => ?_⟩
      rw [hlen] at hk
      obtain ⟨cs', h1, h2⟩ := (hf2 k (by omega)).1
      have hat := (World.cells?_some h1).2.2
      rw [h2] at hat
      have e : ((List.range len).map f)[k] = f k := by simp
      rw [e]
      have q := fun j hj => hat j hj
      simp only [addr_add] at q
      exact ⟨by simpa using q 0 (by omega), q 1 (by omega), q 2 (by omega), q 3 (by omega)⟩
    · intro e he
      obtain ⟨i, hi, rfl⟩ := List.mem_map.1 he
      have hil := List.mem_range.1 hi
      exact (hf2 i (by omega)).2

end
end Go.Proofs.Ytaghpjlodlbmjaa.askRow
