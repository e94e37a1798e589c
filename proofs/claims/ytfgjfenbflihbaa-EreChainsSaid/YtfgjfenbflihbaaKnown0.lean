/- Bytes as a text. -/
import Derived.Test.YtfgjfenbflihbaaClone
import Derived.Laws.IdiomStrings
import Derived.Laws.BytesArg
import Derived.Laws.Pointers
namespace Go.Proofs.Ytfgjfenbflihbaa.known
open Go.RowKit Go.Proofs.Ytfgjfenbflihbaa.sum Go.Proofs.Ytfgjfenbflihbaa.kept Go.Proofs.Ytfgjfenbflihbaa.app Go.Proofs.Ytfgjfenbflihbaa.writer Go.Proofs.Ytfgjfenbflihbaa.clone
set_option linter.unusedVariables false

/-- bytes as a text -/
theorem conv_bs {w : World} {v : Value} {bs : List UInt8} (h : Bs w v bs) : (convert 36 9 v).run Try.prog w = .ok (.string ⟨bs.toArray⟩) w := by
  obtain ⟨a, cap, rfl, h1, h2, h3⟩ := h
  by_cases hbs : bs = []
  · subst hbs
    cases a with
    | none => exact run_convert_bytes_nil w 36 5 Try.underlying36 Try.underlying5 _ _ _ Try.underlying9
    | some ad => exact run_convert_bytes_back w 36 9 5 ad cap [] Try.underlying36 Try.underlying5 Try.underlying9 (fun j hj => by simp at hj)
  · obtain ⟨b, o, rfl, hc⟩ := h3 hbs
    refine run_convert_bytes_back w 36 9 5 ⟨b, o, none⟩ cap bs Try.underlying36 Try.underlying5 Try.underlying9 (fun j hj => ?_)
    rw [addr_add, hc j hj]
    simp [B, List.getD, hj]

/-- a literal of bytes, as laid by the call -/
theorem bs_lit (w : World) (bs : List UInt8) (fr : Nat × Nat) (hl : bs.length ≤ maxLen) : Bs (w.alloc (.cells (bs.map B).toArray 5 fr)) (.slice (some ⟨w.heap.size, 0, none⟩) bs.length bs.length) bs := by
  refine ⟨_, _, rfl, Nat.le_refl _, hl, fun _ => ⟨_, _, rfl, fun k hk => ?_⟩⟩
  rw [World.cell?_alloc_mark]
  simp [List.getD, hk]

end Go.Proofs.Ytfgjfenbflihbaa.known
