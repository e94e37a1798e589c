/- PackFloats: the law's walk. -/
import Derived.Test.YtaghpjlodlbmjaaRefWords
import Derived.Test.YtaghpjlodlbmjaaBack
namespace Go.Proofs.Ytaghpjlodlbmjaa.floats
open Go.RowKit Go.Proofs.Ytaghpjlodlbmjaa.sum Go.Proofs.Ytaghpjlodlbmjaa.kept Go.Proofs.Ytaghpjlodlbmjaa.app Go.Proofs.Ytaghpjlodlbmjaa.writer Go.Proofs.Ytaghpjlodlbmjaa.clone Go.Proofs.Ytaghpjlodlbmjaa.known Go.Proofs.Ytaghpjlodlbmjaa.unseal Go.Proofs.Ytaghpjlodlbmjaa.number Go.Proofs.Ytaghpjlodlbmjaa.words Go.Proofs.Ytaghpjlodlbmjaa.turned Go.Proofs.Ytaghpjlodlbmjaa.laid Go.Proofs.Ytaghpjlodlbmjaa.back Go.Proofs.Ytaghpjlodlbmjaa.reader Go.Proofs.Ytaghpjlodlbmjaa.cut Go.Proofs.Ytaghpjlodlbmjaa.backWalk
set_option linter.unusedVariables false

theorem d_shift (n k : Nat) : (n : Int) / 2 ^ (8 * k) % 256 = ((n / 256 ^ k).toUInt8.toNat : Int) := by
  rw [seal.u8_toNat, pow256]
  simp

theorem bs_block_lt {w : World} {v : Value} {bs : List UInt8} (h : Bs w v bs) (hne : bs ≠ []) : ∀ b o n c, v = .slice (some ⟨b, o, none⟩) n c → b < w.heap.size := by
  rintro b o n c rfl
  obtain ⟨_, _, e, _, _, h3⟩ := h
  simp only [Value.slice.injEq] at e
  obtain ⟨b', o', e2, hc⟩ := h3 hne
  rw [← e.1] at e2
  cases e2
  exact World.block_lt_of_cell? w _ (hc 0 (List.length_pos_iff.2 hne))

def CRel (n : Nat) (w : World) (c i : Value) (wr : World) : Prop :=
  ∃ (k : Nat) (pre : List UInt8), k ≤ 8 ∧ i = .int .i64 k ∧ pre.length = k ∧ pre ++ bytesN (8 - k) (n / 256 ^ k) = bytesN 8 n ∧ wr.ownsRow w.heap.size 5 1 c pre.length (pre.map B) ∧ Kp No w wr

theorem CRel.start (n : Nat) (w wr : World) (hk : Kp No w wr) : CRel n w (.slice none 0 0) (.int .i64 0) wr := ⟨0, [], by omega, rfl, rfl, by simp, World.ownsRow_nil _ _ _ _, hk⟩
theorem CRel.next {n : Nat} {w w1 : World} {k : Nat} {pre : List UInt8} {v1 : Value} (hk : k < 8) (h1 : pre.length = k) (h2 : pre ++ bytesN (8 - k) (n / 256 ^ k) = bytesN 8 n) (ho : w1.ownsRow w.heap.size 5 1 v1 (pre ++ [(n / 256 ^ k).toUInt8]).length ((pre ++ [(n / 256 ^ k).toUInt8]).map B)) (hK : Kp No w w1) :
    CRel n w v1 (.int .i64 ((k + 1 : Nat) : Int)) w1 := by
  refine ⟨k + 1, pre ++ [(n / 256 ^ k).toUInt8], by omega, rfl, by simp; omega, ?_, ho, hK⟩
  rw [← h2, List.append_assoc, show 8 - k = (8 - (k + 1)) + 1 by omega, Nat.pow_succ, ← Nat.div_div_eq_div_mul]
  rfl

/-- a number is itself, or both are none -/
theorem one_same (x : Nat) (w : World) : Calls Try.prog 67 #[.float .f64 x, .float .f64 x] w fun e w' => e = .returned (.bool true) ∧ w = w' := by
  by_cases h : nanB x = true
  · refine one_any x x (.inr ⟨h, h, ?_⟩) w
    unfold nanB at h
    simpa using h
  · have h' : nanB x = false := by simpa using h
    refine one_any x x (.inl ⟨h', ?_⟩) w
    unfold nanB at h'
    simpa using h'

end Go.Proofs.Ytaghpjlodlbmjaa.floats
