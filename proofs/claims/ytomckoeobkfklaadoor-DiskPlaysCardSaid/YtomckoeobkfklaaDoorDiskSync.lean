/- (*Disk).Sync, (*Disk).Remove. -/
import Derived.Test.YtomckoeobkfklaaDoorDiskNew
namespace Go.Proofs.YtomckoeobkfklaaDoor.dsk
open Go.RowKit Go.Maps Go.Proofs.YtomckoeobkfklaaDoor.sum Go.Proofs.YtomckoeobkfklaaDoor.kept Go.Proofs.YtomckoeobkfklaaDoor.app Go.Proofs.YtomckoeobkfklaaDoor.writer Go.Proofs.YtomckoeobkfklaaDoor.clone Go.Proofs.YtomckoeobkfklaaDoor.unseal Go.Proofs.YtomckoeobkfklaaDoor.fs Go.Proofs.YtomckoeobkfklaaDoor.fsMem Go.Proofs.YtomckoeobkfklaaDoor.fsDo Go.Proofs.YtomckoeobkfklaaDoor.fsUsed Go.Proofs.YtomckoeobkfklaaDoor.turned
set_option linter.unusedVariables false

theorem Fr.of_p {ρ : Nat → Role} {w w1 : World} {p : Nat} (hk : Kp (fun k => k = p) w w1) (hp : ρ p = .disk) : Fr ρ w ρ w1 := ⟨hk.mono (fun k _ e => by rw [e, hp]; simp), fun _ _ h => h⟩

theorem stop_same (d : DSt) : (stopD d).room = d.room ∧ (stopD d).syn = d.syn ∧ (stopD d).cs = d.cs := by unfold stopD; split <;> (try split) <;> exact ⟨rfl, rfl, rfl⟩
theorem stop_ok {M : Nat} {d : DSt} (h : DOk M d) : DOk M (stopD d) := by
  obtain ⟨e1, e2, e3⟩ := stop_same d
  refine ⟨by rw [e2]; exact h.rising, by rw [e2, e3]; exact h.few, by rw [e2, e3]; exact h.small, by rw [e2, e3]; exact h.fit, by rw [e3]; exact h.names, by rw [e3]; exact h.sizes, by rw [e1]; exact h.room0, by rw [e1]; exact h.room1, ?_, ?_, by rw [e3]; exact h.plain⟩
  · unfold stopD
    have := h.fuse0
    split
    · exact this
    · split
      · simp only; omega
      · exact this
  · unfold stopD
    have := h.fuse1
    split
    · exact this
    · split
      · simp only; omega
      · exact this

set_option maxRecDepth 100000 in
set_option maxHeartbeats 2000000 in
theorem sync_any (w : World) (base p M : Nat) (ρ : Nat → Role) (d : DSt) (h : Dk w base p ρ d) (hok : DOk M d) (hM : M ≤ 1000000) (hstop : stopB d = false) :
    Calls Tryd.prog 10 #[.pointer (some ⟨p, 0, none⟩)] w (StPost base p ρ { stopD d with syn := d.now, cs := [] } w (.int .i64 0)) := by
  obtain ⟨s, n, vp, ps, h⟩ := h
  have hst := stops_any w base p ρ d d.now s n vp ps h hok.fuse0 hok.fuse1
  rw [hstop] at hst
  have hok2 := stop_ok hok
  obtain ⟨e1, e2, e3⟩ := stop_same d
  have hlenps : ps.length = d.cs.length := by rw [← h.cs, List.length_map]
  have hfin : ∀ w1, Kp (fun k => k = p) w w1 → DkAt w1 base p ρ (stopD d) d.now s n vp ps → Calls Tryd.prog 38 #[.pointer (some ⟨p, 0, none⟩), .int .i64 (ps.length : Int)] w1 (StPost base p ρ { stopD d with syn := d.now, cs := [] } w (.tuple #[])) := by
    intro w1 hk1 h1
    refine (settle_any w1 base p M ρ (stopD d) d.now s n vp ps ps.length h1 hok2 hM (Nat.le_refl _)).mono ?_
    rintro e w2 ⟨he, ρ2, h2, hfr, -⟩
    have e4 : all (stopD d).syn ((stopD d).cs.take ps.length) = d.now := by rw [e2, e3, hlenps, List.take_length]; rfl
    rw [e4] at h2
    exact ⟨he, ρ2, ⟨s, n, _, _, h2⟩, (Fr.of_p hk1 h.rp).trans hfr⟩
  have HSt := Hid_mk hst
  have HFin := Hid_mk hfin
  have hlp : ps.length ≤ 1000000 := by have := hok.few; omega
  clear hst hfin h hok hok2 e1 e2 e3 hlenps hstop
  go_enter Tryd.func10, Tryd.ntmps10
  go_wp2_with fail
  refine HSt.out.mono ?_
  rintro e w1 ⟨rfl, h1, hk1⟩
  have c5 := h1.c5
  have HC := Hid_mk (HFin.out w1 hk1 h1)
  obtain ⟨av, cv, rfl⟩ : ∃ a c, vp = .slice a ps.length c := by
    rcases owns_any h1.pend with ⟨rfl, hz⟩ | ⟨g, cap, rfl, -⟩
    · exact ⟨none, 0, by rw [hz]⟩
    · exact ⟨_, _, rfl⟩
  clear h1 hk1
  go_wp2_with fail
  refine HC.out.mono ?_
  rintro e w2 ⟨rfl, hex⟩
  have HEx := Hid_mk hex
  clear hex
  go_wp2
  go_ret
  exact ⟨rfl, HEx.out⟩

def remC (name : ByteArray) : Change := ⟨3, name, ⟨#[]⟩, [], 0⟩

set_option maxRecDepth 100000 in
set_option maxHeartbeats 2000000 in
theorem remove_any (w : World) (base p M : Nat) (ρ : Nat → Role) (d : DSt) (name : ByteArray) (h : Dk w base p ρ d) (hok : DOk M d) (hM : M ≤ 1000000) (hstop : stopB d = false) (hns : name.size ≤ maxLen) (hget : (fs.get d.now (nm name)).isSome = true) :
    Calls Tryd.prog 11 #[.pointer (some ⟨p, 0, none⟩), .string name] w (StPost base p ρ { stopD d with cs := d.cs ++ [remC name] } w (.int .i64 0)) := by
  obtain ⟨s, n, vp, ps, h⟩ := h
  have hst := stops_any w base p ρ d d.now s n vp ps h hok.fuse0 hok.fuse1
  rw [hstop] at hst
  obtain ⟨e1, e2, e3⟩ := stop_same d
  have hlenps : ps.length = d.cs.length := by rw [← h.cs, List.length_map]
  have hl1 : d.now.length ≤ M := Nat.le_trans (len_all hok.rising d.cs) hok.few
  have hfin : ∀ w1, Kp (fun k => k = p) w w1 → DkAt w1 base p ρ (stopD d) d.now s n vp ps → Calls Tryd.prog 36 #[.pointer (some ⟨p, 0, none⟩), chg (remC name) (.slice none 0 0)] w1 (StPost base p ρ { stopD d with cs := d.cs ++ [remC name] } w (.tuple #[])) := by
    intro w1 hk1 h1
    refine (change_any w1 base p ρ (stopD d) d.now s n vp ps (remC name) (.slice none 0 0) h1 ⟨by show (3 : Nat) < 4; omega, fun e => by cases e⟩ ⟨none, 0, rfl, Nat.le_refl _, Nat.zero_le _, fun h => absurd rfl h⟩ (fun x o m cc e => by cases e) hns
      (by show (0 : Nat) ≤ _; exact Nat.zero_le _) (by unfold maxLen; omega) (fun e => by cases e) (by have := hok.few; omega)).mono ?_
    rintro e w2 ⟨he, ρ2, s2, n2, vp2, ps2, h2, hfr⟩
    have e4 : doit d.now (remC name) = ({ stopD d with cs := d.cs ++ [remC name] } : DSt).now := by unfold DSt.now; simp only; rw [e2, all_snoc]
    rw [e3, e4] at h2
    exact ⟨he, ρ2, ⟨s2, n2, vp2, ps2, h2⟩, (Fr.of_p hk1 h.rp).trans hfr⟩
  have HSt := Hid_mk hst
  have HFin := Hid_mk hfin
  have HNs := Hid_mk hns
  clear hst hfin h hok e1 e2 e3 hlenps hstop hl1
  go_enter Tryd.func11, Tryd.ntmps11
  go_wp2_with fail
  refine HSt.out.mono ?_
  rintro e w1 ⟨rfl, h1, hk1⟩
  have c4 := h1.c4
  have HC := Hid_mk (HFin.out w1 hk1 h1)
  obtain ⟨v, -, hlook⟩ := h1.now.look HNs.out
  have hlk := (hlook w1 (Kp.refl _ _)).2
  rw [hget] at hlk
  unfold chg remC at HC
  simp only at HC
  clear h1 hk1 hlook
  go_wp2_with fail
  refine HC.out.mono ?_
  rintro e w2 ⟨rfl, hex⟩
  have HEx := Hid_mk hex
  clear hex
  go_wp2
  go_ret
  exact ⟨rfl, HEx.out⟩

end Go.Proofs.YtomckoeobkfklaaDoor.dsk
