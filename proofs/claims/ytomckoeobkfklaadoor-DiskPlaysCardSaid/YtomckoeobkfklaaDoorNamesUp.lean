/- (*Disk).Names of a disk that is up. -/
import Derived.Test.YtomckoeobkfklaaDoorDiskTell
import Derived.Test.YtomckoeobkfklaaDoorNames0
import Derived.Test.YtomckoeobkfklaaDoorIter
namespace Go.Proofs.YtomckoeobkfklaaDoor.dsk
open Go.RowKit Go.Maps Go.Sort Go.Proofs.YtomckoeobkfklaaDoor.sum Go.Proofs.YtomckoeobkfklaaDoor.kept Go.Proofs.YtomckoeobkfklaaDoor.app Go.Proofs.YtomckoeobkfklaaDoor.writer Go.Proofs.YtomckoeobkfklaaDoor.clone Go.Proofs.YtomckoeobkfklaaDoor.unseal Go.Proofs.YtomckoeobkfklaaDoor.fs Go.Proofs.YtomckoeobkfklaaDoor.fsMem Go.Proofs.YtomckoeobkfklaaDoor.fsDo Go.Proofs.YtomckoeobkfklaaDoor.fsUsed Go.Proofs.YtomckoeobkfklaaDoor.turned
set_option linter.unusedVariables false

theorem kp_below {w w' : World} (h : Go.RowKit.Below w.heap.size w w') : Kp No w w' := ⟨h.os, h.tape, h.output, h.size, fun k hk _ => h.block k hk⟩

theorem keys_dat (val : Name → Value) (es : Files) : strKeys (dat val es) = namesOf es := by
  show (es.map fun e => (Lit.string e.1, DataW.held (val e.1))).map (fun p => strOf p.1) = namesOf es
  rw [List.map_map]
  rfl

/-- what Names leaves -/
def NmPost (w : World) (es : Files) (e : Ending) (w' : World) : Prop := ∃ v, e = .returned v ∧ w'.ownsRow w.heap.size 9 1 v es.length ((namesOf es).map encStr) ∧ Kp No w w'

set_option maxRecDepth 100000 in
set_option maxHeartbeats 2000000 in
theorem names_up (w : World) (base p : Nat) (ρ : Nat → Role) (d : DSt) (h : Dk w base p ρ d) (hd : d.down = false) (hl : d.now.length ≤ 1000000000) :
    Calls Tryd.prog 27 #[.pointer (some ⟨p, 0, none⟩)] w (NmPost w d.now) := by
  obtain ⟨s, nn, vp, ps, h⟩ := h
  have c2 := h.c2
  have c4 := h.c4
  rw [hd] at c2
  obtain ⟨h1, h2, h3, val, h4, h5⟩ := h.now
  have hsz : Maps.size (dat val d.now) = d.now.length := dat_size val d.now
  have hk := fun W => callsIn_wide.1 (iter.Tryd.maps_Keys_49 (some nn) W)
  have hs := callsIn_wide.1 (iter.Tryd.slices_Sorted_keys_48_49 nn d.now.length (dat val d.now) raw w h4 (by rw [hsz]; unfold maxLen; omega) (by rw [hsz]; omega))
  have HK := fun W => Hid_mk (hk W)
  have HS := Hid_mk hs
  have HR := Hid_mk h1
  clear hk hs h h1 h2 h3 h4 h5 hsz
  go_enter Tryd.func27, Tryd.ntmps27
  go_wp2_with fail
  with_reducible refine (HK _).out.mono ?_
  rintro e w' ⟨rfl, rfl⟩
  go_wp2_with fail
  with_reducible refine HS.out.mono ?_
  rintro e w2 ⟨v, ss, rfl, hperm, hrow, hnil, hb⟩
  have hsort := names_sorted HR.out (keys_dat val d.now ▸ hperm)
  have hlen : ss.length = d.now.length := by
    have := hperm.length_eq
    rw [keys_dat] at this
    rw [this]
    exact List.length_map _
  have hfin : NmPost w d.now (.returned v) w2 := ⟨v, rfl, by
    rw [hsort, hlen] at hrow
    exact owns_base hrow (by simp), ((Kp.refl No w).alloc _).trans' (kp_below hb)⟩
  have HF := Hid_mk hfin
  obtain ⟨av, cv, rfl⟩ : ∃ a c, v = .slice a ss.length c := by
    rcases hrow.2 with ⟨rfl, hz⟩ | ⟨g, cap, cur, rfl, -⟩
    · exact ⟨none, 0, by rw [hz]⟩
    · exact ⟨_, _, rfl⟩
  clear hfin hrow hb hnil hperm hsort hlen
  go_wp2
  go_ret
  exact HF.out

end Go.Proofs.YtomckoeobkfklaaDoor.dsk
