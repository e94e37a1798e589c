/- What a stopped disk answers; Truncate, Rename and their refusals; Room. -/
import Derived.Test.YtomckoeobkfklaaDoorDiskFull
namespace Go.Proofs.YtomckoeobkfklaaDoor.dsk
open Go.RowKit Go.Maps Go.Proofs.YtomckoeobkfklaaDoor.sum Go.Proofs.YtomckoeobkfklaaDoor.kept Go.Proofs.YtomckoeobkfklaaDoor.app Go.Proofs.YtomckoeobkfklaaDoor.writer Go.Proofs.YtomckoeobkfklaaDoor.clone Go.Proofs.YtomckoeobkfklaaDoor.unseal Go.Proofs.YtomckoeobkfklaaDoor.fs Go.Proofs.YtomckoeobkfklaaDoor.fsMem Go.Proofs.YtomckoeobkfklaaDoor.fsDo Go.Proofs.YtomckoeobkfklaaDoor.fsUsed Go.Proofs.YtomckoeobkfklaaDoor.turned
set_option linter.unusedVariables false

theorem Dk.stopped {w w1 : World} {base p : Nat} {ρ : Nat → Role} {d : DSt} {s n : Nat} {vp : Value} {ps : List (Change × Value)} (hp : ρ p = .disk) (h1 : DkAt w1 base p ρ (stopD d) d.now s n vp ps) (hk : Kp (fun k => k = p) w w1) : ∃ ρ', Dk w1 base p ρ' (stopD d) ∧ Fr ρ w ρ' w1 := by
  obtain ⟨e1, e2, e3⟩ := stop_same d
  have hnow : (stopD d).now = d.now := by unfold DSt.now; rw [e2, e3]
  rw [← hnow] at h1
  exact ⟨ρ, ⟨s, n, vp, ps, h1⟩, Fr.of_p hk hp⟩

set_option maxRecDepth 100000 in
set_option maxHeartbeats 1000000 in
theorem sync_down (w : World) (base p M : Nat) (ρ : Nat → Role) (d : DSt) (h : Dk w base p ρ d) (hok : DOk M d) (hstop : stopB d = true) :
    Calls Tryd.prog 10 #[.pointer (some ⟨p, 0, none⟩)] w (StPost base p ρ (stopD d) w (.int .i64 3)) := by
  obtain ⟨s, n, vp, ps, h⟩ := h
  have hst := stops_any w base p ρ d d.now s n vp ps h hok.fuse0 hok.fuse1
  rw [hstop] at hst
  have HP := Hid_mk h.rp
  have HSt := Hid_mk hst
  clear hst h hok hstop
  go_enter Tryd.func10, Tryd.ntmps10
  go_wp2_with fail
  with_reducible refine HSt.out.mono ?_
  rintro e w1 ⟨rfl, h1, hk1⟩
  have HF := Hid_mk (Dk.stopped HP.out h1 hk1)
  clear h1 hk1
  go_wp2
  go_ret
  exact ⟨rfl, HF.out⟩

set_option maxRecDepth 100000 in
set_option maxHeartbeats 1000000 in
theorem remove_down (w : World) (base p M : Nat) (ρ : Nat → Role) (d : DSt) (name : ByteArray) (h : Dk w base p ρ d) (hok : DOk M d) (hstop : stopB d = true) :
    Calls Tryd.prog 11 #[.pointer (some ⟨p, 0, none⟩), .string name] w (StPost base p ρ (stopD d) w (.int .i64 3)) := by
  obtain ⟨s, n, vp, ps, h⟩ := h
  have hst := stops_any w base p ρ d d.now s n vp ps h hok.fuse0 hok.fuse1
  rw [hstop] at hst
  have HP := Hid_mk h.rp
  have HSt := Hid_mk hst
  clear hst h hok hstop
  go_enter Tryd.func11, Tryd.ntmps11
  go_wp2_with fail
  with_reducible refine HSt.out.mono ?_
  rintro e w1 ⟨rfl, h1, hk1⟩
  have HF := Hid_mk (Dk.stopped HP.out h1 hk1)
  clear h1 hk1
  go_wp2
  go_ret
  exact ⟨rfl, HF.out⟩

set_option maxRecDepth 100000 in
set_option maxHeartbeats 1000000 in
theorem trunc_down (w : World) (base p M : Nat) (ρ : Nat → Role) (d : DSt) (name : ByteArray) (size : Int) (h : Dk w base p ρ d) (hok : DOk M d) (hstop : stopB d = true) :
    Calls Tryd.prog 16 #[.pointer (some ⟨p, 0, none⟩), .string name, .int .i64 size] w (StPost base p ρ (stopD d) w (.int .i64 3)) := by
  obtain ⟨s, n, vp, ps, h⟩ := h
  have hst := stops_any w base p ρ d d.now s n vp ps h hok.fuse0 hok.fuse1
  rw [hstop] at hst
  have HP := Hid_mk h.rp
  have HSt := Hid_mk hst
  clear hst h hok hstop
  go_enter Tryd.func16, Tryd.ntmps16
  go_wp2_with fail
  with_reducible refine HSt.out.mono ?_
  rintro e w1 ⟨rfl, h1, hk1⟩
  have HF := Hid_mk (Dk.stopped HP.out h1 hk1)
  clear h1 hk1
  go_wp2
  go_ret
  exact ⟨rfl, HF.out⟩

set_option maxRecDepth 100000 in
set_option maxHeartbeats 1000000 in
theorem rename_down (w : World) (base p M : Nat) (ρ : Nat → Role) (d : DSt) (name to : ByteArray) (h : Dk w base p ρ d) (hok : DOk M d) (hstop : stopB d = true) :
    Calls Tryd.prog 18 #[.pointer (some ⟨p, 0, none⟩), .string name, .string to] w (StPost base p ρ (stopD d) w (.int .i64 3)) := by
  obtain ⟨s, n, vp, ps, h⟩ := h
  have hst := stops_any w base p ρ d d.now s n vp ps h hok.fuse0 hok.fuse1
  rw [hstop] at hst
  have HP := Hid_mk h.rp
  have HSt := Hid_mk hst
  clear hst h hok hstop
  go_enter Tryd.func18, Tryd.ntmps18
  go_wp2_with fail
  with_reducible refine HSt.out.mono ?_
  rintro e w1 ⟨rfl, h1, hk1⟩
  have HF := Hid_mk (Dk.stopped HP.out h1 hk1)
  clear h1 hk1
  go_wp2
  go_ret
  exact ⟨rfl, HF.out⟩

set_option maxRecDepth 100000 in
set_option maxHeartbeats 2000000 in
theorem trunc_none (w : World) (base p M : Nat) (ρ : Nat → Role) (d : DSt) (name : ByteArray) (size : Int) (h : Dk w base p ρ d) (hok : DOk M d) (hstop : stopB d = false) (hns : name.size ≤ maxLen) (hget : (fs.get d.now (nm name)).isSome = false) :
    Calls Tryd.prog 16 #[.pointer (some ⟨p, 0, none⟩), .string name, .int .i64 size] w (StPost base p ρ (stopD d) w (.int .i64 4)) := by
  obtain ⟨s, n, vp, ps, h⟩ := h
  have hst := stops_any w base p ρ d d.now s n vp ps h hok.fuse0 hok.fuse1
  rw [hstop] at hst
  have HP := Hid_mk h.rp
  have HSt := Hid_mk hst
  have HNs := Hid_mk hns
  clear hst h hok hstop
  go_enter Tryd.func16, Tryd.ntmps16
  go_wp2_with fail
  with_reducible refine HSt.out.mono ?_
  rintro e w1 ⟨rfl, h1, hk1⟩
  have c4 := h1.c4
  have HF := Hid_mk (Dk.stopped HP.out h1 hk1)
  obtain ⟨v, -, hlook⟩ := h1.now.look HNs.out
  have hlk := (hlook w1 (Kp.refl _ _)).2
  rw [hget] at hlk
  clear h1 hk1 hlook
  go_wp2
  go_ret
  exact ⟨rfl, HF.out⟩

set_option maxRecDepth 100000 in
set_option maxHeartbeats 2000000 in
theorem trunc_low (w : World) (base p M : Nat) (ρ : Nat → Role) (d : DSt) (name : ByteArray) (size : Int) (h : Dk w base p ρ d) (hok : DOk M d) (hstop : stopB d = false) (hns : name.size ≤ maxLen) (hget : (fs.get d.now (nm name)).isSome = true) (hsz : size < 0) :
    Calls Tryd.prog 16 #[.pointer (some ⟨p, 0, none⟩), .string name, .int .i64 size] w (StPost base p ρ (stopD d) w (.int .i64 1)) := by
  obtain ⟨s, n, vp, ps, h⟩ := h
  have hst := stops_any w base p ρ d d.now s n vp ps h hok.fuse0 hok.fuse1
  rw [hstop] at hst
  have HP := Hid_mk h.rp
  have HSt := Hid_mk hst
  have HNs := Hid_mk hns
  clear hst h hok hstop
  go_enter Tryd.func16, Tryd.ntmps16
  go_wp2_with fail
  with_reducible refine HSt.out.mono ?_
  rintro e w1 ⟨rfl, h1, hk1⟩
  have c4 := h1.c4
  have HF := Hid_mk (Dk.stopped HP.out h1 hk1)
  obtain ⟨v, hrow, hlook⟩ := h1.now.look HNs.out
  have hlk := (hlook w1 (Kp.refl _ _)).2
  rw [hget] at hlk
  obtain ⟨a, cap, rfl, -, -, -⟩ := owns_bs hrow.1
  generalize (old d.now (nm name)).length = L at *
  clear h1 hk1 hlook hrow
  go_wp2
  go_ret
  exact ⟨rfl, HF.out⟩

set_option maxRecDepth 100000 in
set_option maxHeartbeats 2000000 in
theorem trunc_high (w : World) (base p M : Nat) (ρ : Nat → Role) (d : DSt) (name : ByteArray) (size : Int) (h : Dk w base p ρ d) (hok : DOk M d) (hstop : stopB d = false) (hns : name.size ≤ maxLen) (hget : (fs.get d.now (nm name)).isSome = true) (hsz0 : 0 ≤ size) (hsz : ((old d.now (nm name)).length : Int) < size) :
    Calls Tryd.prog 16 #[.pointer (some ⟨p, 0, none⟩), .string name, .int .i64 size] w (StPost base p ρ (stopD d) w (.int .i64 1)) := by
  obtain ⟨s, n, vp, ps, h⟩ := h
  have hst := stops_any w base p ρ d d.now s n vp ps h hok.fuse0 hok.fuse1
  rw [hstop] at hst
  have HP := Hid_mk h.rp
  have HSt := Hid_mk hst
  have HNs := Hid_mk hns
  clear hst h hok hstop
  go_enter Tryd.func16, Tryd.ntmps16
  go_wp2_with fail
  with_reducible refine HSt.out.mono ?_
  rintro e w1 ⟨rfl, h1, hk1⟩
  have c4 := h1.c4
  have HF := Hid_mk (Dk.stopped HP.out h1 hk1)
  obtain ⟨v, hrow, hlook⟩ := h1.now.look HNs.out
  have hlk := (hlook w1 (Kp.refl _ _)).2
  rw [hget] at hlk
  obtain ⟨a, cap, rfl, -, -, -⟩ := owns_bs hrow.1
  generalize (old d.now (nm name)).length = L at *
  clear h1 hk1 hlook hrow
  go_wp2
  go_ret
  exact ⟨rfl, HF.out⟩

def truncC (name : ByteArray) (size : Nat) : Change := ⟨1, name, ⟨#[]⟩, [], size⟩
def renC (name to : ByteArray) : Change := ⟨2, name, to, [], 0⟩

set_option maxRecDepth 100000 in
set_option maxHeartbeats 2000000 in
theorem trunc_any (w : World) (base p M : Nat) (ρ : Nat → Role) (d : DSt) (name : ByteArray) (size : Nat) (h : Dk w base p ρ d) (hok : DOk M d) (hM : M ≤ 1000000) (hstop : stopB d = false) (hns : name.size ≤ maxLen) (hget : (fs.get d.now (nm name)).isSome = true) (hsz : size ≤ (old d.now (nm name)).length) :
    Calls Tryd.prog 16 #[.pointer (some ⟨p, 0, none⟩), .string name, .int .i64 (size : Int)] w (StPost base p ρ { stopD d with cs := d.cs ++ [truncC name size] } w (.int .i64 0)) := by
  obtain ⟨s, n, vp, ps, h⟩ := h
  have hst := stops_any w base p ρ d d.now s n vp ps h hok.fuse0 hok.fuse1
  rw [hstop] at hst
  obtain ⟨e1, e2, e3⟩ := stop_same d
  have hlenps : ps.length = d.cs.length := by rw [← h.cs, List.length_map]
  have hl1 : d.now.length ≤ M := Nat.le_trans (len_all hok.rising d.cs) hok.few
  have hfin : ∀ w1, Kp (fun k => k = p) w w1 → DkAt w1 base p ρ (stopD d) d.now s n vp ps → Calls Tryd.prog 36 #[.pointer (some ⟨p, 0, none⟩), chg (truncC name size) (.slice none 0 0)] w1 (StPost base p ρ { stopD d with cs := d.cs ++ [truncC name size] } w (.tuple #[])) := by
    intro w1 hk1 h1
    refine (change_any w1 base p ρ (stopD d) d.now s n vp ps (truncC name size) (.slice none 0 0) h1 ⟨by show (1 : Nat) < 4; omega, fun _ => hsz⟩ ⟨none, 0, rfl, Nat.le_refl _, Nat.zero_le _, fun h => absurd rfl h⟩ (fun x o m cc e => by cases e) hns
      (by show (0 : Nat) ≤ _; exact Nat.zero_le _) (by unfold maxLen; omega) (fun e => by cases e) (by have := hok.few; omega)).mono ?_
    rintro e w2 ⟨he, ρ2, s2, n2, vp2, ps2, h2, hfr⟩
    have e4 : doit d.now (truncC name size) = ({ stopD d with cs := d.cs ++ [truncC name size] } : DSt).now := by unfold DSt.now; simp only; rw [e2, all_snoc]
    rw [e3, e4] at h2
    exact ⟨he, ρ2, ⟨s2, n2, vp2, ps2, h2⟩, (Fr.of_p hk1 h.rp).trans hfr⟩
  have HSt := Hid_mk hst
  have HFin := Hid_mk hfin
  have HNs := Hid_mk hns
  clear hst hfin h hok e1 e2 e3 hlenps hstop hl1
  go_enter Tryd.func16, Tryd.ntmps16
  go_wp2_with fail
  with_reducible refine HSt.out.mono ?_
  rintro e w1 ⟨rfl, h1, hk1⟩
  have c4 := h1.c4
  have HC := Hid_mk (HFin.out w1 hk1 h1)
  obtain ⟨v, hrow, hlook⟩ := h1.now.look HNs.out
  have hlk := (hlook w1 (Kp.refl _ _)).2
  rw [hget] at hlk
  obtain ⟨a, cap, rfl, -, -, -⟩ := owns_bs hrow.1
  have hd1 : ¬ (size : Int) < 0 := by omega
  generalize (old d.now (nm name)).length = L at *
  have hd2 : ¬ (L : Int) < (size : Int) := by omega
  unfold chg truncC at HC
  simp only at HC
  rw [show ((1 : Nat) : Int) = 1 from rfl] at HC
  clear h1 hk1 hlook hrow
  go_wp2_with fail
  with_reducible refine HC.out.mono ?_
  rintro e w2 ⟨rfl, hex⟩
  have HEx := Hid_mk hex
  clear hex
  go_wp2
  go_ret
  exact ⟨rfl, HEx.out⟩

set_option maxRecDepth 100000 in
set_option maxHeartbeats 2000000 in
theorem rename_bad (w : World) (base p M : Nat) (ρ : Nat → Role) (d : DSt) (name to : ByteArray) (h : Dk w base p ρ d) (hok : DOk M d) (hstop : stopB d = false) (hts : to.size ≤ maxLen) (hto : nameB to = false) :
    Calls Tryd.prog 18 #[.pointer (some ⟨p, 0, none⟩), .string name, .string to] w (StPost base p ρ (stopD d) w (.int .i64 1)) := by
  obtain ⟨s, n, vp, ps, h⟩ := h
  have hst := stops_any w base p ρ d d.now s n vp ps h hok.fuse0 hok.fuse1
  rw [hstop] at hst
  have HP := Hid_mk h.rp
  have HSt := Hid_mk hst
  have hnm := fun w => name_any w to hts
  rw [hto] at hnm
  have HNm := fun w => Hid_mk (hnm w)
  clear hst h hok hstop hnm hts
  go_enter Tryd.func18, Tryd.ntmps18
  go_wp2_with fail
  with_reducible refine HSt.out.mono ?_
  rintro e w1 ⟨rfl, h1, hk1⟩
  have HF := Hid_mk (Dk.stopped HP.out h1 hk1)
  clear h1 hk1
  go_wp2_with fail
  with_reducible refine (HNm _).out.mono ?_
  rintro e w' ⟨rfl, rfl⟩
  go_wp2
  go_ret
  exact ⟨rfl, HF.out⟩

set_option maxRecDepth 100000 in
set_option maxHeartbeats 2000000 in
theorem rename_none (w : World) (base p M : Nat) (ρ : Nat → Role) (d : DSt) (name to : ByteArray) (h : Dk w base p ρ d) (hok : DOk M d) (hstop : stopB d = false) (hns : name.size ≤ maxLen) (hto : nameB to = true) (hget : (fs.get d.now (nm name)).isSome = false) :
    Calls Tryd.prog 18 #[.pointer (some ⟨p, 0, none⟩), .string name, .string to] w (StPost base p ρ (stopD d) w (.int .i64 4)) := by
  obtain ⟨s, n, vp, ps, h⟩ := h
  have hst := stops_any w base p ρ d d.now s n vp ps h hok.fuse0 hok.fuse1
  rw [hstop] at hst
  have HP := Hid_mk h.rp
  have HSt := Hid_mk hst
  have HNs := Hid_mk hns
  have hts : to.size ≤ maxLen := by simp [nameB] at hto; unfold maxLen; omega
  have hnm := fun w => name_any w to hts
  rw [hto] at hnm
  have HNm := fun w => Hid_mk (hnm w)
  clear hst h hok hstop hnm hts
  go_enter Tryd.func18, Tryd.ntmps18
  go_wp2_with fail
  with_reducible refine HSt.out.mono ?_
  rintro e w1 ⟨rfl, h1, hk1⟩
  have c4 := h1.c4
  have HF := Hid_mk (Dk.stopped HP.out h1 hk1)
  obtain ⟨v, -, hlook⟩ := h1.now.look HNs.out
  have hlk := (hlook w1 (Kp.refl _ _)).2
  rw [hget] at hlk
  clear h1 hk1 hlook
  go_wp2_with fail
  with_reducible refine (HNm _).out.mono ?_
  rintro e w' ⟨rfl, rfl⟩
  go_wp2
  go_ret
  exact ⟨rfl, HF.out⟩

set_option maxRecDepth 100000 in
set_option maxHeartbeats 2000000 in
theorem rename_any (w : World) (base p M : Nat) (ρ : Nat → Role) (d : DSt) (name to : ByteArray) (h : Dk w base p ρ d) (hok : DOk M d) (hM : M ≤ 1000000) (hstop : stopB d = false) (hns : name.size ≤ maxLen) (hto : nameB to = true) (hget : (fs.get d.now (nm name)).isSome = true) :
    Calls Tryd.prog 18 #[.pointer (some ⟨p, 0, none⟩), .string name, .string to] w (StPost base p ρ { stopD d with cs := d.cs ++ [renC name to] } w (.int .i64 0)) := by
  obtain ⟨s, n, vp, ps, h⟩ := h
  have hst := stops_any w base p ρ d d.now s n vp ps h hok.fuse0 hok.fuse1
  rw [hstop] at hst
  obtain ⟨e1, e2, e3⟩ := stop_same d
  have hlenps : ps.length = d.cs.length := by rw [← h.cs, List.length_map]
  have hl1 : d.now.length ≤ M := Nat.le_trans (len_all hok.rising d.cs) hok.few
  have hts : to.size ≤ maxLen := by simp [nameB] at hto; unfold maxLen; omega
  have hfin : ∀ w1, Kp (fun k => k = p) w w1 → DkAt w1 base p ρ (stopD d) d.now s n vp ps → Calls Tryd.prog 36 #[.pointer (some ⟨p, 0, none⟩), chg (renC name to) (.slice none 0 0)] w1 (StPost base p ρ { stopD d with cs := d.cs ++ [renC name to] } w (.tuple #[])) := by
    intro w1 hk1 h1
    refine (change_any w1 base p ρ (stopD d) d.now s n vp ps (renC name to) (.slice none 0 0) h1 ⟨by show (2 : Nat) < 4; omega, fun e => by cases e⟩ ⟨none, 0, rfl, Nat.le_refl _, Nat.zero_le _, fun h => absurd rfl h⟩ (fun x o m cc e => by cases e) hns
      hts (by unfold maxLen; omega) (fun e => by cases e) (by have := hok.few; omega)).mono ?_
    rintro e w2 ⟨he, ρ2, s2, n2, vp2, ps2, h2, hfr⟩
    have e4 : doit d.now (renC name to) = ({ stopD d with cs := d.cs ++ [renC name to] } : DSt).now := by unfold DSt.now; simp only; rw [e2, all_snoc]
    rw [e3, e4] at h2
    exact ⟨he, ρ2, ⟨s2, n2, vp2, ps2, h2⟩, (Fr.of_p hk1 h.rp).trans hfr⟩
  have HSt := Hid_mk hst
  have HFin := Hid_mk hfin
  have HNs := Hid_mk hns
  have hnm := fun w => name_any w to hts
  rw [hto] at hnm
  have HNm := fun w => Hid_mk (hnm w)
  clear hst hfin h hok e1 e2 e3 hlenps hstop hl1 hnm hts
  go_enter Tryd.func18, Tryd.ntmps18
  go_wp2_with fail
  with_reducible refine HSt.out.mono ?_
  rintro e w1 ⟨rfl, h1, hk1⟩
  have c4 := h1.c4
  have HC := Hid_mk (HFin.out w1 hk1 h1)
  obtain ⟨v, -, hlook⟩ := h1.now.look HNs.out
  have hlk := (hlook w1 (Kp.refl _ _)).2
  rw [hget] at hlk
  unfold chg renC at HC
  simp only at HC
  clear h1 hk1 hlook
  go_wp2_with fail
  with_reducible refine (HNm _).out.mono ?_
  rintro e w' ⟨rfl, rfl⟩
  go_wp2_with fail
  refine HC.out.mono ?_
  rintro e w2 ⟨rfl, hex⟩
  have HEx := Hid_mk hex
  clear hex
  go_wp2
  go_ret
  exact ⟨rfl, HEx.out⟩

set_option maxRecDepth 100000 in
set_option maxHeartbeats 2000000 in
theorem append_bad (w : World) (base p M : Nat) (ρ : Nat → Role) (d : DSt) (name : ByteArray) (vb : Value) (h : Dk w base p ρ d) (hok : DOk M d) (hstop : stopB d = false) (hns : name.size ≤ maxLen) (hname : nameB name = false) :
    Calls Tryd.prog 9 #[.pointer (some ⟨p, 0, none⟩), .string name, vb] w (StPost base p ρ (stopD d) w (.int .i64 1)) := by
  obtain ⟨s, n, vp, ps, h⟩ := h
  have hst := stops_any w base p ρ d d.now s n vp ps h hok.fuse0 hok.fuse1
  rw [hstop] at hst
  have HP := Hid_mk h.rp
  have HSt := Hid_mk hst
  have hnm := fun w => name_any w name hns
  rw [hname] at hnm
  have HNm := fun w => Hid_mk (hnm w)
  clear hst h hok hstop hnm hns
  go_enter Tryd.func9, Tryd.ntmps9
  go_wp2_with fail
  with_reducible refine HSt.out.mono ?_
  rintro e w1 ⟨rfl, h1, hk1⟩
  have HF := Hid_mk (Dk.stopped HP.out h1 hk1)
  clear h1 hk1
  go_wp2_with fail
  with_reducible refine (HNm _).out.mono ?_
  rintro e w' ⟨rfl, rfl⟩
  go_wp2
  go_ret
  exact ⟨rfl, HF.out⟩

set_option maxRecDepth 100000 in
set_option maxHeartbeats 1000000 in
theorem room_no (w : World) (base p : Nat) (room : Int) (hno : roomB room = false) : Calls Tryd.prog 25 #[.pointer (some ⟨p, 0, none⟩), .int .i64 room] w fun e w' => e = .returned (.int .i64 1) ∧ w = w' := by
  have hr := fun w => room_any w room
  rw [hno] at hr
  have HR := fun w => Hid_mk (hr w)
  clear hr
  go_enter Tryd.func25, Tryd.ntmps25
  go_wp2_with fail
  with_reducible refine (HR _).out.mono ?_
  rintro e w' ⟨rfl, rfl⟩
  go_wp2
  go_ret
  exact ⟨rfl, rfl⟩

set_option maxRecDepth 100000 in
set_option maxHeartbeats 1000000 in
theorem read_down (w : World) (base p : Nat) (ρ : Nat → Role) (d : DSt) (name : ByteArray) (h : Dk w base p ρ d) (hd : d.down = true) : Calls Tryd.prog 13 #[.pointer (some ⟨p, 0, none⟩), .string name] w fun e w' => e = .returned (.tuple #[.slice none 0 0, .bool false]) ∧ w = w' := by
  obtain ⟨s, nn, vp, ps, h⟩ := h
  have c2 := h.c2
  rw [hd] at c2
  clear h hd
  go_enter Tryd.func13, Tryd.ntmps13
  go_wp2
  go_ret2
  exact ⟨rfl, rfl⟩

set_option maxRecDepth 100000 in
set_option maxHeartbeats 1000000 in
theorem used_down (w : World) (base p : Nat) (ρ : Nat → Role) (d : DSt) (h : Dk w base p ρ d) (hd : d.down = true) : Calls Tryd.prog 29 #[.pointer (some ⟨p, 0, none⟩)] w fun e w' => e = .returned (.int .i64 0) ∧ w = w' := by
  obtain ⟨s, nn, vp, ps, h⟩ := h
  have c2 := h.c2
  rw [hd] at c2
  clear h hd
  go_enter Tryd.func29, Tryd.ntmps29
  go_wp2
  go_ret
  exact ⟨rfl, rfl⟩


end Go.Proofs.YtomckoeobkfklaaDoor.dsk
