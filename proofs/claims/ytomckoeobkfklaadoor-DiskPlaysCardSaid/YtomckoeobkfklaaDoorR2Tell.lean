/- The reference's Disk: Fuse, Read, Used. -/
import Derived.Test.YtomckoeobkfklaaDoorR2Disk
namespace Go.Proofs.YtomckoeobkfklaaDoor.r2
open Go.RowKit Go.Maps Go.Proofs.YtomckoeobkfklaaDoor.sum Go.Proofs.YtomckoeobkfklaaDoor.kept Go.Proofs.YtomckoeobkfklaaDoor.app Go.Proofs.YtomckoeobkfklaaDoor.writer Go.Proofs.YtomckoeobkfklaaDoor.clone Go.Proofs.YtomckoeobkfklaaDoor.fs Go.Proofs.YtomckoeobkfklaaDoor.fsDo Go.Proofs.YtomckoeobkfklaaDoor.unseal Go.Proofs.YtomckoeobkfklaaDoor.dsk
set_option linter.unusedVariables false

set_option maxRecDepth 100000 in
set_option maxHeartbeats 2000000 in
theorem reffuse_any (w : World) (r : Nat) (x : RSt) (vs vn vw : Value) (n : Int) (h : RAt w r x vs vn vw) :
    Calls Tryd.prog 24 #[.pointer (some ⟨r, 0, none⟩), .int .i64 n] w fun e w' => e = .returned (.tuple #[]) ∧ RAt w' r { x with fused := decide (0 ≤ n), fuse := max 0 n } vs vn vw ∧ Kp (fun k => k = r) w w' := by
  obtain ⟨bd, hbd⟩ : ∃ bd, decide (0 ≤ n) = bd := ⟨_, rfl⟩
  rw [hbd]
  have hw := h.warm
  have hw4 := h.warm 4
  have hw5 : (w.setCell ⟨r, 4, none⟩ (.bool bd)).frozen? ⟨r, 5, none⟩ = false := (h.set_fused _).warm 5
  have hc5 := (h.set_fused bd).c5
  simp only at hc5
  have c4 := h.c4
  obtain ⟨m, hm⟩ : ∃ m, max 0 n = m := ⟨_, rfl⟩
  rw [hm]
  have HF := Hid_mk ((h.set_fused bd).set_fuse m)
  have HK := Hid_mk ((kp_p w r 4 (.bool bd)).trans (kp_p _ r 5 (.int .i64 m)) fun i _ e => e)
  clear h
  by_cases hn : 0 < n
  · obtain rfl : bd = true := by rw [← hbd]; simp; omega
    obtain rfl : n = m := by omega
    have hn2 : 0 ≤ n := by omega
    clear hm hbd
    go_enter Tryd.func24, Tryd.ntmps24
    go_wp2
    go_end0
    exact ⟨rfl, HF.out, HK.out⟩
  · by_cases hz : n = 0
    · subst hz
      obtain rfl : bd = true := by rw [← hbd]; rfl
      obtain rfl : m = 0 := by omega
      clear hm hbd
      go_enter Tryd.func24, Tryd.ntmps24
      go_wp2
      go_end0
      exact ⟨rfl, HF.out, HK.out⟩
    · obtain rfl : bd = false := by rw [← hbd]; simp; omega
      obtain rfl : m = 0 := by omega
      have hn2 : ¬ 0 ≤ n := by omega
      clear hm hbd
      go_enter Tryd.func24, Tryd.ntmps24
      go_wp2
      go_end0
      exact ⟨rfl, HF.out, HK.out⟩

end Go.Proofs.YtomckoeobkfklaaDoor.r2
