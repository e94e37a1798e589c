/- A disk is let be where only blocks that are nobody's turn. -/
import Derived.Test.YteekcbbdbciddaaGreatDoorDiskAppendM

namespace Go.Proofs.YteekcbbdbciddaaGreatDoor.dsk
open Go.RowKit Go.Maps Go.Proofs.YteekcbbdbciddaaGreatDoor.sum Go.Proofs.YteekcbbdbciddaaGreatDoor.kept Go.Proofs.YteekcbbdbciddaaGreatDoor.app Go.Proofs.YteekcbbdbciddaaGreatDoor.writer Go.Proofs.YteekcbbdbciddaaGreatDoor.clone Go.Proofs.YteekcbbdbciddaaGreatDoor.unseal Go.Proofs.YteekcbbdbciddaaGreatDoor.fs Go.Proofs.YteekcbbdbciddaaGreatDoor.fsMem Go.Proofs.YteekcbbdbciddaaGreatDoor.fsDo Go.Proofs.YteekcbbdbciddaaGreatDoor.fsUsed Go.Proofs.YteekcbbdbciddaaGreatDoor.turned
set_option linter.unusedVariables false

theorem DkAt.aside {S : Nat → Prop} {w w' : World} {base p : Nat} {ρ : Nat → Role} {d : DSt} {nw : Files} {s n : Nat} {vp : Value} {ps : List (Change × Value)} (h : DkAt w base p ρ d nw s n vp ps) (hk : Kp S w w') (hs : ∀ k, k < w.heap.size → S k → ρ k = .other) : DkAt w' base p ρ d nw s n vp ps := by
  have hp : ¬ S p := fun e => by have := hs p h.lt e; rw [h.rp] at this; cases this
  refine ⟨hk.cell' h.c0 hp, hk.cell' h.c1 hp, hk.cell' h.c2 hp, hk.cell' h.c3 hp, hk.cell' h.c4 hp, hk.cell' h.c5 hp, fun o => (hk.frozen (p := ⟨p, o, none⟩) h.lt hp).trans (h.warm o),
    h.syn.kept hk (fun k hk2 e => ⟨?_, fun m hm => ?_⟩) fun _ _ => rfl, h.now.kept hk (fun k hk2 e => ⟨?_, fun m hm => ?_⟩) fun _ _ => rfl, h.cs, owns_kept h.pend hk fun g hg e => ?_,
    fun q hq => ⟨bs_kept (h.byts q hq).1 hk fun x o m c e e2 => ?_, fun x o m c e => ⟨((h.byts q hq).2 x o m c e).1, Nat.lt_of_lt_of_le ((h.byts q hq).2 x o m c e).2 hk.size⟩⟩, h.rp, h.rs, h.rn, h.rv, h.bp, h.low, fun k hk2 => h.hi k (Nat.le_trans hk.size hk2)⟩
  · rintro rfl; have := hs _ hk2 e; rw [h.rs] at this; cases this
  · unfold sOf at hm; rw [hs k hk2 e] at hm; cases hm
  · rintro rfl; have := hs _ hk2 e; rw [h.rn] at this; cases this
  · unfold nOf at hm; rw [hs k hk2 e] at hm; cases hm
  · have h1 := hs g (h.pend.lt g hg).2 e; rw [h.rv g hg] at h1; cases h1
  · have h1 := (h.byts q hq).2 x o m c e
    have h2 := hs x h1.2 e2
    rw [h1.1] at h2; cases h2
theorem Dk.aside {S : Nat → Prop} {w w' : World} {base p : Nat} {ρ : Nat → Role} {d : DSt} (h : Dk w base p ρ d) (hk : Kp S w w') (hs : ∀ k, k < w.heap.size → S k → ρ k = .other) : Dk w' base p ρ d := by
  obtain ⟨s, n, vp, ps, h⟩ := h
  exact ⟨s, n, vp, ps, h.aside hk hs⟩

end Go.Proofs.YteekcbbdbciddaaGreatDoor.dsk
