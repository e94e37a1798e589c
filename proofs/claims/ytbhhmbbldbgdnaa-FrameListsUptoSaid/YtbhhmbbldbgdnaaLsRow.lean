/- How a slice of slices of bytes is read as an argument. -/
import Derived.Test.YtbhhmbbldbgdnaaBulk
import Derived.Test.YtbhhmbbldbgdnaaLst
namespace Go.Proofs.Ytbhhmbbldbgdnaa.lsRow
open Go.ChangeShapes Go.WideShapes Go.ChangeAt Go.RowKit Go.Deep Go.Proofs.Ytbhhmbbldbgdnaa.sum Go.Proofs.Ytbhhmbbldbgdnaa.kept Go.Proofs.Ytbhhmbbldbgdnaa.row Go.Proofs.Ytbhhmbbldbgdnaa.lst
set_option linter.unusedVariables false

theorem cellsS : Try.prog.cellsOf 30 = 1 := by kernel_rfl

section
variable {H : Type} {enc : TypeId × Value → H} {W : World}

/-- one element -/
theorem open_el {n : Nat} {cs : List Value} {x : DataW H × List MemPlace} (h : DataW.trod enc Try.prog W 0 (fun _ => true) true n 30 cs = some x) : ∃ v bs, cs = [v] ∧ Bs W v bs := by
  have h' := h
  rcases open_ints Try.underlying30 Try.underlying5 (by kernel_rfl) h with ⟨hcs, _⟩ | ⟨x, l, c, zs, hcs, _, hl, hm, hz, hx, hcell, hwz⟩
  · exact ⟨_, [], hcs, none, 0, rfl, Nat.le_refl _, Nat.zero_le _, fun h => absurd rfl h⟩
  · obtain ⟨bs, hb⟩ := open_bs_any (W := W) (enc := enc) ⟨n, by rw [hcs] at h'; exact h'⟩
    exact ⟨_, bs, hcs, hb⟩

theorem open_ls {a : Option Addr} {len cap : Nat} {d : DataW H} {p : List MemPlace} (h0 : DataW.Trod enc Try.prog W 0 (fun _ => true) true 22 (.slice a len cap) d p) :
    ∃ ps, Ls W (.slice a len cap) ps := by
  obtain ⟨fuel, hf⟩ := h0
  rcases open_slice Try.underlying22 hf with ⟨hcs, _⟩ | ⟨x, l, c, m, n, D, Pl, hcs, _, hl, hm, hmm, hx, hi⟩
  · simp [Value.cells] at hcs
    obtain ⟨rfl, rfl, rfl⟩ := hcs
    exact ⟨[], ⟨none, 0, rfl, Nat.le_refl _, Nat.zero_le _, fun h => absurd rfl h⟩, (fun e he => by cases he)⟩
  · simp [Value.cells] at hcs
    obtain ⟨rfl, rfl, rfl⟩ := hcs
    simp only [if_true] at hmm
    subst hmm
    rw [cellsS] at hi
    have hex : ∀ i, ∃ q : Value × List UInt8, i < m → W.cell? (x.add i) = some q.1 ∧ Bs W q.1 q.2 := by
      intro i
      by_cases him : i < m
      · obtain ⟨cs', h1, h2⟩ := hi i him
        obtain ⟨v, bs, rfl, hb⟩ := open_el h2
        refine ⟨(v, bs), fun _ => ⟨?_, hb⟩⟩
        have := (World.cells?_some h1).2.2 0 (by omega)
        rw [Nat.mul_one] at this
        simpa [Addr.add] using this
      · exact ⟨(.slice none 0 0, []), fun h => absurd h him⟩
    obtain ⟨f, hf2⟩ := Classical.axiomOfChoice hex
    have hlen : ((List.range len).map f).length = len := by simp
    refine ⟨(List.range len).map f, ⟨some x, m, by rw [hlen], by omega, hm, fun hne => ?_⟩, fun q hq => ?_⟩
    · have hpos : 0 < len := by
        rcases Nat.eq_zero_or_pos len with e | e
        · subst e; simp at hne
        · exact e
      obtain ⟨b, o, spot⟩ := x
      have hspot : spot = none := by
        have := (hf2 0 (by omega)).1
        simpa [Addr.add] using World.cell?_spot this
      subst hspot
      refine ⟨b, o, rfl, fun k hk => ?_⟩
      rw [hlen] at hk
      have := (hf2 k (by omega)).1
      rw [addr_add] at this
      simpa using this
    · obtain ⟨i, hi2, rfl⟩ := List.mem_map.1 hq
      exact (hf2 i (by have := List.mem_range.1 hi2; omega)).2

end
end Go.Proofs.Ytbhhmbbldbgdnaa.lsRow
