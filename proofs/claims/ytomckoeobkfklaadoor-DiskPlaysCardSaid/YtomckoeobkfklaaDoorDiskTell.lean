/- New's refusal, Fuse, Down, Pending, the Append of a disk that has stopped. -/
import Derived.Test.YtomckoeobkfklaaDoorDiskSteps
namespace Go.Proofs.YtomckoeobkfklaaDoor.dsk
open Go.RowKit Go.Maps Go.Proofs.YtomckoeobkfklaaDoor.sum Go.Proofs.YtomckoeobkfklaaDoor.kept Go.Proofs.YtomckoeobkfklaaDoor.app Go.Proofs.YtomckoeobkfklaaDoor.writer Go.Proofs.YtomckoeobkfklaaDoor.clone Go.Proofs.YtomckoeobkfklaaDoor.unseal Go.Proofs.YtomckoeobkfklaaDoor.fs Go.Proofs.YtomckoeobkfklaaDoor.fsMem Go.Proofs.YtomckoeobkfklaaDoor.fsDo Go.Proofs.YtomckoeobkfklaaDoor.fsUsed Go.Proofs.YtomckoeobkfklaaDoor.turned
set_option linter.unusedVariables false

set_option maxRecDepth 100000 in
set_option maxHeartbeats 1000000 in
theorem new_no (w : World) (room : Int) (hr0 : roomB room = false) : Calls Tryd.prog 4 #[.int .i64 room] w fun e w' => e = .returned (.tuple #[.pointer none, .int .i64 1]) ∧ w = w' := by
  have hr := fun w => room_any w room
  rw [hr0] at hr
  have HR := fun w => Hid_mk (hr w)
  clear hr hr0
  go_enter Tryd.func4, Tryd.ntmps4
  go_wp2_with fail
  with_reducible refine (HR _).out.mono ?_
  rintro e w' ⟨rfl, rfl⟩
  go_wp2
  go_ret2
  exact ⟨rfl, rfl⟩

set_option maxRecDepth 100000 in
set_option maxHeartbeats 1000000 in
theorem fuse_any (w : World) (base p : Nat) (ρ : Nat → Role) (d : DSt) (n : Int) (h : Dk w base p ρ d) : Calls Tryd.prog 23 #[.pointer (some ⟨p, 0, none⟩), .int .i64 n] w fun e w' => e = .returned (.tuple #[]) ∧ Dk w' base p ρ { d with fuse := max n (-1) } ∧ Fr ρ w ρ w' := by
  obtain ⟨s, nn, vp, ps, h⟩ := h
  have c1 := h.c1
  have hw := h.warm
  have hw1 := h.warm 1
  obtain ⟨m, hm⟩ : ∃ m, max n (-1) = m := ⟨_, rfl⟩
  rw [hm]
  have hfr : Fr ρ w ρ (w.setCell ⟨p, 1, none⟩ (.int .i64 m)) := Fr.of_p (kp_p _ _ _ _) h.rp
  have HF := Hid_mk (show Dk _ base p ρ { d with fuse := m } from ⟨s, nn, vp, ps, h.set_fuse m⟩)
  clear h
  by_cases hn : -1 ≤ n
  · obtain rfl : n = m := by omega
    clear hm
    go_enter Tryd.func23, Tryd.ntmps23
    go_wp2
    go_end0
    exact ⟨rfl, HF.out, hfr⟩
  · obtain rfl : m = -1 := by omega
    clear hm
    go_enter Tryd.func23, Tryd.ntmps23
    go_wp2
    go_end0
    exact ⟨rfl, HF.out, hfr⟩

set_option maxRecDepth 100000 in
theorem down_any (w : World) (base p : Nat) (ρ : Nat → Role) (d : DSt) (h : Dk w base p ρ d) : Calls Tryd.prog 32 #[.pointer (some ⟨p, 0, none⟩)] w fun e w' => e = .returned (.bool d.down) ∧ w = w' := by
  obtain ⟨s, nn, vp, ps, h⟩ := h
  have c2 := h.c2
  clear h
  go_enter Tryd.func32, Tryd.ntmps32
  go_wp2
  go_ret
  exact ⟨rfl, rfl⟩

set_option maxRecDepth 100000 in
theorem pending_any (w : World) (base p : Nat) (ρ : Nat → Role) (d : DSt) (h : Dk w base p ρ d) : Calls Tryd.prog 31 #[.pointer (some ⟨p, 0, none⟩)] w fun e w' => e = .returned (.int .i64 (d.cs.length : Int)) ∧ w = w' := by
  obtain ⟨s, nn, vp, ps, h⟩ := h
  have c5 := h.c5
  have hpl : ps.length = d.cs.length := by rw [← h.cs, List.length_map]
  obtain ⟨av, cv, rfl⟩ : ∃ a c, vp = .slice a ps.length c := by
    rcases owns_any h.pend with ⟨rfl, hz⟩ | ⟨g, cap, rfl, -⟩
    · exact ⟨none, 0, by rw [hz]⟩
    · exact ⟨_, _, rfl⟩
  rw [hpl] at c5
  clear h hpl
  go_enter Tryd.func31, Tryd.ntmps31
  go_wp2
  go_ret
  exact ⟨rfl, rfl⟩

set_option maxRecDepth 100000 in
set_option maxHeartbeats 1000000 in
theorem append_down (w : World) (base p M : Nat) (ρ : Nat → Role) (d : DSt) (name : ByteArray) (vb : Value) (h : Dk w base p ρ d) (hok : DOk M d) (hstop : stopB d = true) :
    Calls Tryd.prog 9 #[.pointer (some ⟨p, 0, none⟩), .string name, vb] w (StPost base p ρ (stopD d) w (.int .i64 3)) := by
  obtain ⟨s, n, vp, ps, h⟩ := h
  have hst := stops_any w base p ρ d d.now s n vp ps h hok.fuse0 hok.fuse1
  rw [hstop] at hst
  obtain ⟨e1, e2, e3⟩ := stop_same d
  have hnow : (stopD d).now = d.now := by unfold DSt.now; rw [e2, e3]
  have hfin : ∀ w1, DkAt w1 base p ρ (stopD d) d.now s n vp ps → Kp (fun k => k = p) w w1 → ∃ ρ', Dk w1 base p ρ' (stopD d) ∧ Fr ρ w ρ' w1 := by
    intro w1 h1 hk1
    rw [← hnow] at h1
    exact ⟨ρ, ⟨s, n, vp, ps, h1⟩, Fr.of_p hk1 h.rp⟩
  have HSt := Hid_mk hst
  have HFin := Hid_mk hfin
  clear hst hfin h hok hstop e1 e2 e3 hnow
  go_enter Tryd.func9, Tryd.ntmps9
  go_wp2_with fail
  with_reducible refine HSt.out.mono ?_
  rintro e w1 ⟨rfl, h1, hk1⟩
  have HF := Hid_mk (HFin.out w1 h1 hk1)
  clear h1 hk1
  go_wp2
  go_ret
  exact ⟨rfl, HF.out⟩

end Go.Proofs.YtomckoeobkfklaaDoor.dsk
