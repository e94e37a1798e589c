/- How the arguments of the statements are read: a slice of bytes as its bytes. -/
import Derived.Test.YtdognehkbahmdaaRows
import Derived.Test.YtdognehkbahmdaaKept
import Derived.ProofKit
import Derived.OpenShut
import Derived.ShutString
import Derived.ChangeOld
import Derived.SizedLaws
namespace Go.Proofs.Ytdognehkbahmdaa.row
open Go.ChangeShapes Go.WideShapes Go.ChangeAt Go.RowKit Go.Proofs.Ytdognehkbahmdaa.sum Go.Proofs.Ytdognehkbahmdaa.kept
set_option linter.unusedVariables false

theorem own : ownKnob Try.prog.godebug = none := by kernel_rfl
theorem laidOut : laidOutB Try.prog = true := by kernel_rfl
theorem bytes5 : Try.prog.bytesOf 5 = 1 := by kernel_rfl

theorem u8_of {n : Int} (h : (Lit.int .u8 n).wf = true) : ((n.toNat.toUInt8).toNat : Int) = n := by
  have hx : 0 ≤ n ∧ n ≤ 255 := by simpa [Lit.wf, IntKind.min, IntKind.max, IntKind.signed, IntKind.bits] using h
  simp [Nat.toUInt8]
  omega

theorem open_bs_any {H : Type} {enc : TypeId × Value → H} {W : World} {a : Option Addr} {len cap : Nat} {d : DataW H} {p : List MemPlace}
    (h0 : DataW.Trod enc Try.prog W 0 (fun _ => true) true 36 (.slice a len cap) d p) : ∃ bs, Bs W (.slice a len cap) bs := by
  obtain ⟨fuel, hf⟩ := h0
  rcases open_ints Try.underlying36 Try.underlying5 (by kernel_rfl) hf with ⟨hcs, _⟩ | ⟨x, l, c, zs, hcs, _, hl, hm, hz, hx, hcell, hwz⟩
  · simp [Value.cells] at hcs
    obtain ⟨rfl, rfl, rfl⟩ := hcs
    exact ⟨[], none, 0, rfl, Nat.le_refl _, Nat.zero_le _, fun h => absurd rfl h⟩
  · simp [Value.cells] at hcs
    obtain ⟨rfl, rfl, rfl⟩ := hcs
    simp only [if_true] at hz
    have hlen : ((zs.take len).map fun n => n.toNat.toUInt8).length = len := by simp; omega
    refine ⟨(zs.take len).map fun n => n.toNat.toUInt8, some x, cap, by rw [hlen], by omega, hm, fun hne => ?_⟩
    have h0 : 0 < zs.length := by
      rcases Nat.eq_zero_or_pos len with e | e
      · subst e; simp at hne
      · omega
    have hc0 := hcell 0 h0
    obtain ⟨b, o, spot⟩ := x
    have hspot : spot = none := by simpa [Addr.add] using World.cell?_spot hc0
    subst hspot
    refine ⟨b, o, rfl, fun k hk => ?_⟩
    rw [hlen] at hk
    have hkz : k < zs.length := by omega
    have hc := hcell k hkz
    rw [addr_add] at hc
    rw [hc]
    have e1 : (List.map (fun n : Int => n.toNat.toUInt8) (zs.take len)).getD k 0 = (zs.getD k 0).toNat.toUInt8 := by simp [List.getD, hk, hkz]
    rw [e1]
    unfold B
    rw [u8_of (hwz (zs.getD k 0) (by simp [List.getD, hkz]))]

theorem open_bs {H : Type} {enc : TypeId × Value → H} {W : World} {a : Option Addr} {len cap : Nat} {d : DataW H} {p : List MemPlace}
    (h0 : DataW.Trod enc Try.prog W 0 (fun _ => true) true 36 (.slice a len cap) d p) {ts : List TypeId} {ds : List (DataW H)} (hsz : (DataW.weightsEach Try.prog ts ds).all (· ≤ reachBytes) = true) (j : Nat)
    (ht : ts[j]? = some 36) (hd : ds[j]? = some d) : ∃ bs, Bs W (.slice a len cap) bs ∧ bs.length ≤ reachBytes := by
  obtain ⟨bs, hb⟩ := open_bs_any h0
  refine ⟨bs, hb, ?_⟩
  obtain ⟨_, _, e, -, -, -⟩ := hb
  simp only [Value.slice.injEq] at e
  obtain ⟨fuel, hf⟩ := h0
  rcases open_ints Try.underlying36 Try.underlying5 (by kernel_rfl) hf with ⟨hcs, _⟩ | ⟨x, l, c, zs, hcs, _, hl, hm, hz, hx, hcell, hwz⟩
  · simp [Value.cells] at hcs
    omega
  · simp [Value.cells] at hcs
    obtain ⟨rfl, rfl, rfl⟩ := hcs
    simp only [if_true] at hz
    obtain ⟨rfl, rfl⟩ := Prod.mk.inj hx
    have hw := sized_slice hsz ht hd Try.underlying36
    rw [bytes5] at hw
    simp only [lits, List.length_map, List.length_take, List.length_drop] at hw
    omega

end Go.Proofs.Ytdognehkbahmdaa.row
