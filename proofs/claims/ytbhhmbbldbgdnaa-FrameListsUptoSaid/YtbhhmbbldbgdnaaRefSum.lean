/- The reference's Sum. -/
import Derived.Test.YtbhhmbbldbgdnaaUnseal
namespace Go.Proofs.Ytbhhmbbldbgdnaa.ref
open Go.RowKit Go.Proofs.Ytbhhmbbldbgdnaa.sum Go.Proofs.Ytbhhmbbldbgdnaa.kept Go.Proofs.Ytbhhmbbldbgdnaa.writer Go.Proofs.Ytbhhmbbldbgdnaa.clone Go.Proofs.Ytbhhmbbldbgdnaa.known Go.Proofs.Ytbhhmbbldbgdnaa.unseal
set_option linter.unusedVariables false

theorem wrapU (z : Int) (h : 0 ≤ z) (h2 : z < 18446744073709551616) : IntKind.u64.wrap z = z := by
  simp only [IntKind.wrap, IntKind.bits, IntKind.signed]
  simp
  omega

def SumRel (bs : List UInt8) (w : World) (i re im : Value) (wr : World) : Prop :=
  ∃ k, k ≤ bs.length ∧ i = .int .i64 ((k : Nat) : Int) ∧ re = .int .u64 ((pl.sum (bs.take k)).1 : Int) ∧ im = .int .u64 ((pl.sum (bs.take k)).2 : Int) ∧ wr = w

section
variable {p q x : Nat} (hp : p < 16777199) (hq : q < 16777199) (hx : x < 256)
include hp in
theorem s1 : IntKind.u64.wrap (257 * (p : Int)) = 257 * (p : Int) := wrapU _ (by omega) (by omega)
include hp hx in
theorem s2 : IntKind.u64.wrap (257 * (p : Int) + (x : Int)) = 257 * (p : Int) + (x : Int) := wrapU _ (by omega) (by omega)
include hp hx in
theorem s3 : IntKind.u64.wrap (257 * (p : Int) + (x : Int) + 1) = 257 * (p : Int) + (x : Int) + 1 := wrapU _ (by omega) (by omega)
include hq in
theorem s4 : IntKind.u64.wrap (16777199 - (q : Int)) = 16777199 - (q : Int) := wrapU _ (by omega) (by omega)
include hq in
theorem s5 : IntKind.u64.wrap (3 * (16777199 - (q : Int))) = 3 * (16777199 - (q : Int)) := wrapU _ (by omega) (by omega)
include hp hq hx in
theorem s6 : IntKind.u64.wrap (257 * (p : Int) + (x : Int) + 1 + 3 * (16777199 - (q : Int))) = 257 * (p : Int) + (x : Int) + 1 + 3 * (16777199 - (q : Int)) := wrapU _ (by omega) (by omega)
include hp in
theorem s7 : IntKind.u64.wrap (3 * (p : Int)) = 3 * (p : Int) := wrapU _ (by omega) (by omega)
include hp hq in
theorem s8 : IntKind.u64.wrap (257 * (q : Int) + 3 * (p : Int)) = 257 * (q : Int) + 3 * (p : Int) := wrapU _ (by omega) (by omega)
include hq in
theorem s_re : (257 * (p : Int) + (x : Int) + 1 + 3 * (16777199 - (q : Int))) % 16777199 = (((257 * p + x + 1 + 3 * (16777199 - q)) % 16777199 : Nat) : Int) := by omega
theorem s_im : (257 * (q : Int) + 3 * (p : Int)) % 16777199 = (((257 * q + 3 * p) % 16777199 : Nat) : Int) := by omega
end

theorem SumRel.next {bs : List UInt8} {w : World} {k p q x : Nat} {X : UInt8} (hlt : k < bs.length) (hs : pl.sum (bs.take k) = (p, q)) (hX : bs.getD k 0 = X) (hx : X.toNat = x) (hq : q < 16777199) :
    SumRel bs w (.int .i64 ((k + 1 : Nat) : Int)) (.int .u64 ((257 * (p : Int) + (x : Int) + 1 + 3 * (16777199 - (q : Int))) % 16777199)) (.int .u64 ((257 * (q : Int) + 3 * (p : Int)) % 16777199)) w := by
  have hfin := pl.sum_snoc (bs.take k) (bs.getD k 0)
  rw [← take_snoc hlt, hs, hX] at hfin
  refine ⟨k + 1, hlt, rfl, ?_, ?_, rfl⟩
  · rw [hfin, s_re hq]; unfold pl.step pl.P; rw [hx]
  · rw [hfin, s_im]; rfl

set_option maxRecDepth 100000 in
set_option maxHeartbeats 2000000 in
theorem sum_any (w : World) (v : Value) (bs : List UInt8) (h : Bs w v bs) :
    Calls Try.prog 47 #[v] w fun e w' => e = .returned (.tuple #[.int .u64 ((pl.sum bs).1 : Int), .int .u64 ((pl.sum bs).2 : Int)]) ∧ w = w' := by
  obtain ⟨a, cap, rfl, hl, hm, hc⟩ := h
  unfold maxLen at hm
  go_enter Try.func47, Try.ntmps47
  go_wp2
  go_loopw [2, 3, 4] (fun re im i wr => SumRel bs w i re im wr) (fun _ _ i _ => bs.length - (intOf i).toNat)
  case atStart => exact ⟨0, Nat.zero_le _, rfl, by rw [List.take_zero, pl.sum_nil]; rfl, by rw [List.take_zero, pl.sum_nil]; rfl, rfl⟩
  case round =>
    obtain ⟨k, hk, rfl, rfl, rfl, rfl⟩ := hrel
    by_cases hlt : k < bs.length
    · obtain ⟨b, o, rfl, hcell⟩ := hc (by intro e; subst e; simp at hlt)
      have hx := hcell k hlt
      unfold B at hx
      have hki : (k : Int) < (bs.length : Int) := by omega
      have hlt2 := pl.sum_lt (bs.take k)
      obtain ⟨⟨p, q⟩, hs⟩ : ∃ s, pl.sum (bs.take k) = s := ⟨_, rfl⟩
      rw [hs] at hlt2 ⊢
      obtain ⟨X, hX⟩ : ∃ X, bs.getD k 0 = X := ⟨_, rfl⟩
      rw [hX] at hx
      obtain ⟨x, hxx⟩ : ∃ x, X.toNat = x := ⟨_, rfl⟩
      have hxb : x < 256 := by rw [← hxx]; exact UInt8.toNat_lt _
      rw [hxx] at hx
      have hp : p < 16777199 := hlt2.1
      have hq : q < 16777199 := hlt2.2
      have hfin := SumRel.next (w := wr) hlt hs hX hxx hq
      have HF := Hid_mk hfin
      have w1 := s1 hp
      have w2 := s2 hp hxb
      have w3 := s3 hp hxb
      have w4 := s4 hq
      have w5 := s5 hq
      have w6 := s6 hp hq hxb
      have w7 := s7 hp
      have w8 := s8 hp hq
      have w9 := s1 hq
      clear hfin hcell hc hlt2 hs hX hxx
      simp only
      go_wp2
      go_roundw
      case rel => exact HF.out
      case measure => simp [intOf]; omega
    · have hki : ¬ (k : Int) < (bs.length : Int) := by omega
      obtain rfl : k = bs.length := by omega
      rw [List.take_length]
      go_wp2
      go_ret2
      exact ⟨rfl, rfl⟩

end Go.Proofs.Ytbhhmbbldbgdnaa.ref
