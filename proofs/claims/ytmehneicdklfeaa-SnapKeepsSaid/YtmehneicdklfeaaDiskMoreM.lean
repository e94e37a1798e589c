/- What a stopped disk answers; Truncate, Rename and their refusals; Room. Append refused for too many files; the room is set. The reference's Disk beside a disk of the project's: whose memory is whose. The reference's Disk: does. The reference's Disk: Used, Read, Names. -/
import Derived.Test.YtmehneicdklfeaaDiskCrashM
import Derived.Test.YtmehneicdklfeaaDiskM

namespace Go.Proofs.Ytmehneicdklfeaa.dsk
open Go.RowKit Go.Maps Go.Proofs.Ytmehneicdklfeaa.sum Go.Proofs.Ytmehneicdklfeaa.kept Go.Proofs.Ytmehneicdklfeaa.app Go.Proofs.Ytmehneicdklfeaa.writer Go.Proofs.Ytmehneicdklfeaa.clone Go.Proofs.Ytmehneicdklfeaa.unseal Go.Proofs.Ytmehneicdklfeaa.fs Go.Proofs.Ytmehneicdklfeaa.fsMem Go.Proofs.Ytmehneicdklfeaa.fsDo Go.Proofs.Ytmehneicdklfeaa.fsUsed Go.Proofs.Ytmehneicdklfeaa.turned
set_option linter.unusedVariables false

theorem Dk.stopped {w w1 : World} {base p : Nat} {ρ : Nat → Role} {d : DSt} {s n : Nat} {vp : Value} {ps : List (Change × Value)} (hp : ρ p = .disk) (h1 : DkAt w1 base p ρ (stopD d) d.now s n vp ps) (hk : Kp (fun k => k = p) w w1) : ∃ ρ', Dk w1 base p ρ' (stopD d) ∧ Fr ρ w ρ' w1 := by
  obtain ⟨e1, e2, e3⟩ := stop_same d
  have hnow : (stopD d).now = d.now := by unfold DSt.now; rw [e2, e3]
  rw [← hnow] at h1
  exact ⟨ρ, ⟨s, n, vp, ps, h1⟩, Fr.of_p hk hp⟩

set_option maxRecDepth 100000 in
set_option maxHeartbeats 1000000 in
theorem sync_down (w : World) (base p M : Nat) (ρ : Nat → Role) (d : DSt) (h : Dk w base p ρ d) (hok : DOk M d) (hstop : stopB d = true) :
    Calls Try.prog 20 #[.pointer (some ⟨p, 0, none⟩)] w (StPost base p ρ (stopD d) w (.int .i64 3)) := by
  obtain ⟨s, n, vp, ps, h⟩ := h
  have hst := stops_any w base p ρ d d.now s n vp ps h hok.fuse0 hok.fuse1
  rw [hstop] at hst
  have HP := Hid_mk h.rp
  have HSt := Hid_mk hst
  clear hst h hok hstop
  go_enter Try.func20, Try.ntmps20
  go_wp2_with fail
  with_reducible refine HSt.out.mono ?_
  rintro e w1 ⟨rfl, h1, hk1⟩
  have HF := Hid_mk (Dk.stopped HP.out h1 hk1)
  clear h1 hk1
  go_wp2
  go_ret
  exact ⟨rfl, HF.out⟩

set_option maxRecDepth 100000 in
set_option maxHeartbeats 1000000 in
theorem remove_down (w : World) (base p M : Nat) (ρ : Nat → Role) (d : DSt) (name : ByteArray) (h : Dk w base p ρ d) (hok : DOk M d) (hstop : stopB d = true) :
    Calls Try.prog 17 #[.pointer (some ⟨p, 0, none⟩), .string name] w (StPost base p ρ (stopD d) w (.int .i64 3)) := by
  obtain ⟨s, n, vp, ps, h⟩ := h
  have hst := stops_any w base p ρ d d.now s n vp ps h hok.fuse0 hok.fuse1
  rw [hstop] at hst
  have HP := Hid_mk h.rp
  have HSt := Hid_mk hst
  clear hst h hok hstop
  go_enter Try.func17, Try.ntmps17
  go_wp2_with fail
  with_reducible refine HSt.out.mono ?_
  rintro e w1 ⟨rfl, h1, hk1⟩
  have HF := Hid_mk (Dk.stopped HP.out h1 hk1)
  clear h1 hk1
  go_wp2
  go_ret
  exact ⟨rfl, HF.out⟩

set_option maxRecDepth 100000 in
set_option maxHeartbeats 1000000 in
theorem rename_down (w : World) (base p M : Nat) (ρ : Nat → Role) (d : DSt) (name to : ByteArray) (h : Dk w base p ρ d) (hok : DOk M d) (hstop : stopB d = true) :
    Calls Try.prog 21 #[.pointer (some ⟨p, 0, none⟩), .string name, .string to] w (StPost base p ρ (stopD d) w (.int .i64 3)) := by
  obtain ⟨s, n, vp, ps, h⟩ := h
  have hst := stops_any w base p ρ d d.now s n vp ps h hok.fuse0 hok.fuse1
  rw [hstop] at hst
  have HP := Hid_mk h.rp
  have HSt := Hid_mk hst
  clear hst h hok hstop
  go_enter Try.func21, Try.ntmps21
  go_wp2_with fail
  with_reducible refine HSt.out.mono ?_
  rintro e w1 ⟨rfl, h1, hk1⟩
  have HF := Hid_mk (Dk.stopped HP.out h1 hk1)
  clear h1 hk1
  go_wp2
  go_ret
  exact ⟨rfl, HF.out⟩

def truncC (name : ByteArray) (size : Nat) : Change := ⟨1, name, ⟨#[]⟩, [], size⟩
def renC (name to : ByteArray) : Change := ⟨2, name, to, [], 0⟩

set_option maxRecDepth 100000 in
set_option maxHeartbeats 2000000 in
theorem rename_bad (w : World) (base p M : Nat) (ρ : Nat → Role) (d : DSt) (name to : ByteArray) (h : Dk w base p ρ d) (hok : DOk M d) (hstop : stopB d = false) (hts : to.size ≤ maxLen) (hto : nameB to = false) :
    Calls Try.prog 21 #[.pointer (some ⟨p, 0, none⟩), .string name, .string to] w (StPost base p ρ (stopD d) w (.int .i64 1)) := by
  obtain ⟨s, n, vp, ps, h⟩ := h
  have hst := stops_any w base p ρ d d.now s n vp ps h hok.fuse0 hok.fuse1
  rw [hstop] at hst
  have HP := Hid_mk h.rp
  have HSt := Hid_mk hst
  have hnm := fun w => name_any w to hts
  rw [hto] at hnm
  have HNm := fun w => Hid_mk (hnm w)
  clear hst h hok hstop hnm hts
  go_enter Try.func21, Try.ntmps21
  go_wp2_with fail
  with_reducible refine HSt.out.mono ?_
  rintro e w1 ⟨rfl, h1, hk1⟩
  have HF := Hid_mk (Dk.stopped HP.out h1 hk1)
  clear h1 hk1
  go_wp2_with fail
  with_reducible refine (HNm _).out.mono ?_
  rintro e w' ⟨rfl, rfl⟩
  go_wp2
  go_ret
  exact ⟨rfl, HF.out⟩

set_option maxRecDepth 100000 in
set_option maxHeartbeats 2000000 in
theorem rename_none (w : World) (base p M : Nat) (ρ : Nat → Role) (d : DSt) (name to : ByteArray) (h : Dk w base p ρ d) (hok : DOk M d) (hstop : stopB d = false) (hns : name.size ≤ maxLen) (hto : nameB to = true) (hget : (fs.get d.now (nm name)).isSome = false) :
    Calls Try.prog 21 #[.pointer (some ⟨p, 0, none⟩), .string name, .string to] w (StPost base p ρ (stopD d) w (.int .i64 4)) := by
  obtain ⟨s, n, vp, ps, h⟩ := h
  have hst := stops_any w base p ρ d d.now s n vp ps h hok.fuse0 hok.fuse1
  rw [hstop] at hst
  have HP := Hid_mk h.rp
  have HSt := Hid_mk hst
  have HNs := Hid_mk hns
  have hts : to.size ≤ maxLen := by simp [nameB] at hto; unfold maxLen; omega
  have hnm := fun w => name_any w to hts
  rw [hto] at hnm
  have HNm := fun w => Hid_mk (hnm w)
  clear hst h hok hstop hnm hts
  go_enter Try.func21, Try.ntmps21
  go_wp2_with fail
  with_reducible refine HSt.out.mono ?_
  rintro e w1 ⟨rfl, h1, hk1⟩
  have c4 := h1.c4
  have HF := Hid_mk (Dk.stopped HP.out h1 hk1)
  obtain ⟨v, -, hlook⟩ := h1.now.look HNs.out
  have hlk := (hlook w1 (Kp.refl _ _)).2
  rw [hget] at hlk
  clear h1 hk1 hlook
  go_wp2_with fail
  with_reducible refine (HNm _).out.mono ?_
  rintro e w' ⟨rfl, rfl⟩
  go_wp2
  go_ret
  exact ⟨rfl, HF.out⟩

set_option maxRecDepth 100000 in
set_option maxHeartbeats 2000000 in
theorem rename_any (w : World) (base p M : Nat) (ρ : Nat → Role) (d : DSt) (name to : ByteArray) (h : Dk w base p ρ d) (hok : DOk M d) (hM : M ≤ 1000000) (hstop : stopB d = false) (hns : name.size ≤ maxLen) (hto : nameB to = true) (hget : (fs.get d.now (nm name)).isSome = true) :
    Calls Try.prog 21 #[.pointer (some ⟨p, 0, none⟩), .string name, .string to] w (StPost base p ρ { stopD d with cs := d.cs ++ [renC name to] } w (.int .i64 0)) := by
  obtain ⟨s, n, vp, ps, h⟩ := h
  have hst := stops_any w base p ρ d d.now s n vp ps h hok.fuse0 hok.fuse1
  rw [hstop] at hst
  obtain ⟨e1, e2, e3⟩ := stop_same d
  have hlenps : ps.length = d.cs.length := by rw [← h.cs, List.length_map]
  have hl1 : d.now.length ≤ M := Nat.le_trans (len_all hok.rising d.cs) hok.few
  have hts : to.size ≤ maxLen := by simp [nameB] at hto; unfold maxLen; omega
  have hfin : ∀ w1, Kp (fun k => k = p) w w1 → DkAt w1 base p ρ (stopD d) d.now s n vp ps → Calls Try.prog 31 #[.pointer (some ⟨p, 0, none⟩), chg (renC name to) (.slice none 0 0)] w1 (StPost base p ρ { stopD d with cs := d.cs ++ [renC name to] } w (.tuple #[])) := by
    intro w1 hk1 h1
    refine (change_any w1 base p ρ (stopD d) d.now s n vp ps (renC name to) (.slice none 0 0) h1 ⟨by show (2 : Nat) < 4; omega, fun e => by cases e⟩ ⟨none, 0, rfl, Nat.le_refl _, Nat.zero_le _, fun h => absurd rfl h⟩ (fun x o m cc e => by cases e) hns
      hts (by unfold maxLen; omega) (fun e => by cases e) (by have := hok.few; omega)).mono ?_
    rintro e w2 ⟨he, ρ2, s2, n2, vp2, ps2, h2, hfr⟩
    have e4 : doit d.now (renC name to) = ({ stopD d with cs := d.cs ++ [renC name to] } : DSt).now := by unfold DSt.now; simp only; rw [e2, all_snoc]
    rw [e3, e4] at h2
    exact ⟨he, ρ2, ⟨s2, n2, vp2, ps2, h2⟩, (Fr.of_p hk1 h.rp).trans hfr⟩
  have HSt := Hid_mk hst
  have HFin := Hid_mk hfin
  have HNs := Hid_mk hns
  have hnm := fun w => name_any w to hts
  rw [hto] at hnm
  have HNm := fun w => Hid_mk (hnm w)
  clear hst hfin h hok e1 e2 e3 hlenps hstop hl1 hnm hts
  go_enter Try.func21, Try.ntmps21
  go_wp2_with fail
  with_reducible refine HSt.out.mono ?_
  rintro e w1 ⟨rfl, h1, hk1⟩
  have c4 := h1.c4
  have HC := Hid_mk (HFin.out w1 hk1 h1)
  obtain ⟨v, -, hlook⟩ := h1.now.look HNs.out
  have hlk := (hlook w1 (Kp.refl _ _)).2
  rw [hget] at hlk
  unfold chg renC at HC
  simp only at HC
  clear h1 hk1 hlook
  go_wp2_with fail
  with_reducible refine (HNm _).out.mono ?_
  rintro e w' ⟨rfl, rfl⟩
  go_wp2_with fail
  refine HC.out.mono ?_
  rintro e w2 ⟨rfl, hex⟩
  have HEx := Hid_mk hex
  clear hex
  go_wp2
  go_ret
  exact ⟨rfl, HEx.out⟩

set_option maxRecDepth 100000 in
set_option maxHeartbeats 2000000 in
theorem append_bad (w : World) (base p M : Nat) (ρ : Nat → Role) (d : DSt) (name : ByteArray) (vb : Value) (h : Dk w base p ρ d) (hok : DOk M d) (hstop : stopB d = false) (hns : name.size ≤ maxLen) (hname : nameB name = false) :
    Calls Try.prog 18 #[.pointer (some ⟨p, 0, none⟩), .string name, vb] w (StPost base p ρ (stopD d) w (.int .i64 1)) := by
  obtain ⟨s, n, vp, ps, h⟩ := h
  have hst := stops_any w base p ρ d d.now s n vp ps h hok.fuse0 hok.fuse1
  rw [hstop] at hst
  have HP := Hid_mk h.rp
  have HSt := Hid_mk hst
  have hnm := fun w => name_any w name hns
  rw [hname] at hnm
  have HNm := fun w => Hid_mk (hnm w)
  clear hst h hok hstop hnm hns
  go_enter Try.func18, Try.ntmps18
  go_wp2_with fail
  with_reducible refine HSt.out.mono ?_
  rintro e w1 ⟨rfl, h1, hk1⟩
  have HF := Hid_mk (Dk.stopped HP.out h1 hk1)
  clear h1 hk1
  go_wp2_with fail
  with_reducible refine (HNm _).out.mono ?_
  rintro e w' ⟨rfl, rfl⟩
  go_wp2
  go_ret
  exact ⟨rfl, HF.out⟩

set_option maxRecDepth 100000 in
set_option maxHeartbeats 1000000 in
theorem read_down (w : World) (base p : Nat) (ρ : Nat → Role) (d : DSt) (name : ByteArray) (h : Dk w base p ρ d) (hd : d.down = true) : Calls Try.prog 15 #[.pointer (some ⟨p, 0, none⟩), .string name] w fun e w' => e = .returned (.tuple #[.slice none 0 0, .bool false]) ∧ w = w' := by
  obtain ⟨s, nn, vp, ps, h⟩ := h
  have c2 := h.c2
  rw [hd] at c2
  clear h hd
  go_enter Try.func15, Try.ntmps15
  go_wp2
  go_ret2
  exact ⟨rfl, rfl⟩

end Go.Proofs.Ytmehneicdklfeaa.dsk

namespace Go.Proofs.Ytmehneicdklfeaa.dsk
open Go.RowKit Go.Maps Go.Proofs.Ytmehneicdklfeaa.sum Go.Proofs.Ytmehneicdklfeaa.kept Go.Proofs.Ytmehneicdklfeaa.app Go.Proofs.Ytmehneicdklfeaa.writer Go.Proofs.Ytmehneicdklfeaa.clone Go.Proofs.Ytmehneicdklfeaa.unseal Go.Proofs.Ytmehneicdklfeaa.fs Go.Proofs.Ytmehneicdklfeaa.fsMem Go.Proofs.Ytmehneicdklfeaa.fsDo Go.Proofs.Ytmehneicdklfeaa.fsUsed Go.Proofs.Ytmehneicdklfeaa.turned
set_option linter.unusedVariables false

set_option maxRecDepth 100000 in
set_option maxHeartbeats 4000000 in
theorem append_many_at (w : World) (base p M : Nat) (ρ : Nat → Role) (d0 : DSt) (nw : Files) (s n : Nat) (vp : Value) (ps : List (Change × Value)) (name : ByteArray) (vb : Value) (bs : List UInt8) (h0 : DkAt w base p ρ d0 nw s n vp ps) (hok : DOk M d0) (hM : M ≤ 1000000) (hnw : nw = d0.now)
    (hstop : stopB d0 = false) (hname : nameB name = true) (hb : Bs w vb bs) (hvo : bs ≠ [] → ∀ x o m c, vb = .slice (some ⟨x, o, none⟩) m c → ρ x = .other) (hroom : (used nw : Int) + (bs.length : Int) ≤ d0.room) (hget : (fs.get nw (nm name)).isSome = false) (hmany : 64 ≤ nw.length) :
    Calls Try.prog 18 #[.pointer (some ⟨p, 0, none⟩), .string name, vb] w (StPost base p ρ (stopD d0) w (.int .i64 2)) := by
  have hsd : (stopD d0).room = d0.room ∧ (stopD d0).syn = d0.syn ∧ (stopD d0).cs = d0.cs := by unfold stopD; split <;> (try split) <;> exact ⟨rfl, rfl, rfl⟩
  have hst := stops_any w base p ρ d0 nw s n vp ps h0 hok.fuse0 hok.fuse1
  have hns : name.size ≤ maxLen := by simp [nameB] at hname; unfold maxLen; omega
  have hnm := fun w => name_any w name hns
  rw [hname] at hnm
  rw [hstop] at hst
  have hlenps : ps.length = d0.cs.length := by rw [← h0.cs, List.length_map]
  have hfew0 := hok.few
  have hrise : Rising nw := h0.now.1
  have hl1 : nw.length ≤ M := by rw [hnw]; exact Nat.le_trans (len_all hok.rising d0.cs) hok.few
  have hu0 := used_all hok.rising d0.cs
  have hu1 : used nw ≤ 8388608000000 := by
    have h1 := hok.small
    have h2 : M * 8388608 ≤ 1000000 * 8388608 := Nat.mul_le_mul_right _ hM
    rw [hnw]
    unfold DSt.now
    omega
  obtain ⟨ab, cb, rfl, hcb1, hcb2, -⟩ := id hb
  unfold maxLen at hcb2
  have hlb : bs.length ≤ 8388608 := by have := hok.room1; omega
  have hol := get_len hrise (nm name)
  have HSt := Hid_mk hst
  have HNm := fun w => Hid_mk (hnm w)
  have hsum : IntKind.i64.wrap ((used nw : Int) + (bs.length : Int)) = (used nw : Int) + (bs.length : Int) := IntWalk.i64_in _ (by omega)
  have hdec : decide (d0.room < (used nw : Int) + (bs.length : Int)) = false := by simp; omega
  have hlen2 : decide (64 ≤ (nw.length : Int)) = true := by simp; omega
  have HBS : Hid (∀ w1, Kp (fun k => k = p) w w1 → Bs w1 (.slice ab bs.length cb) bs ∧ Fr ρ w ρ w1) := Hid_mk fun w1 hk => ⟨bs_keptE hb hk (fun hne b o m c e e2 => by
    have := hvo hne b o m c e
    rw [e2, h0.rp] at this
    cases this), ⟨hk.mono (fun k _ e => by rw [e, h0.rp]; simp), fun _ _ h => h⟩⟩
  have hroomd := hsd.1
  have hnowS : (stopD d0).now = d0.now := by unfold DSt.now; rw [hsd.2.1, hsd.2.2]
  have HNowS := Hid_mk (hnowS.trans hnw.symm)
  clear hb hvo hst hnm hok h0 hsd hroom hstop hnw hnowS hu0
  generalize hd : stopD d0 = d at *
  have HPs : Hid (ps.length ≤ 1000000000000) := Hid_mk (by omega)
  have HLen2 : Hid (nw.length < maxLen) := Hid_mk (by unfold maxLen; omega)
  have HHn := Hid_mk hns
  have hu2 : used nw ≤ 140737488355328 := by omega
  go_enter Try.func18, Try.ntmps18
  go_wp2_with fail
  refine HSt.out.mono ?_
  rintro e w1 ⟨rfl, h1, hk1⟩
  have H1 := Hid_mk h1
  have HBS1 := Hid_mk (HBS.out w1 hk1)
  obtain ⟨v, hrow, hlook⟩ := h1.now.look hns
  have hlk := (hlook w1 (Kp.refl _ _)).2
  rw [hget] at hlk
  have e4 := h1.c4
  have hS : ∀ W, Hid (Kp No w1 W) → W.cell? ⟨p, 4, none⟩ = some (.map (some n)) ∧ W.cell? ⟨p, 0, none⟩ = some (.int .i64 d0.room) ∧ Hid (Kp No w1 W) := fun W hW => ⟨hW.out.cell' h1.c4 id, hroomd ▸ hW.out.cell' h1.c0 id, hW⟩
  have HS := Hid_mk hS
  have hus : ∀ W, Hid (Kp No w1 W) → Calls Try.prog 33 #[.map (some n)] W fun e W' => e = .returned (.int .i64 (used nw : Int)) ∧ Hid (Kp No w1 W') := by
    intro W hW
    refine (used_any W base n (nOf ρ) nw (h1.no hW.out).now hu2).mono ?_
    rintro e W' ⟨rfl, hk⟩
    exact ⟨rfl, Hid_mk (hW.out.trans' hk)⟩
  have HUsed := Hid_mk hus
  clear h1 hk1 hrow hlook hS hus
  go_wp2_with fail
  refine (HNm _).out.mono ?_
  rintro e w' ⟨rfl, rfl⟩
  go_wp2
  refine wp_region_held_drew (S := (fun W => W.cell? ⟨p, 4, none⟩ = some (.map (some n)) ∧ W.cell? ⟨p, 0, none⟩ = some (.int .i64 d0.room) ∧ Hid (Kp No w1 W))) (by kernel_rfl) (HS.out _ (Hid_mk (Kp.refl No w1).drew)) (fun hHeld => ?_)
  refine wpAnyH_take (i := 0) (oi := { dst := some 23, op := Go.Op.move (Go.Operand.tmp 0), type := 22, pos := "disk.go:39", after := #[], guard := none }) (v := ?_) rfl (by kernel_rfl) (by kernel_rfl) (by kernel_rfl) (fun _ _ _ h => h) (Or.inl ⟨by rfl, ?_⟩) (by assumption) ?_
  rotate_left 1
  · intro w hSw; (try dsimp only at hSw); go_simp; all_goals (with_reducible rfl)
  try simp only [Act.put, List.setIfInBounds_toArray, List.set_cons_zero, List.set_cons_succ]
  refine wpAnyH_take (i := 1) (oi := { dst := some 24, op := Go.Op.nilCheck (Go.Operand.tmp 23), type := 0, pos := "disk.go:39", after := #[{ on := 0, ground := Go.Ground.data }], guard := none }) (v := ?_) rfl (by kernel_rfl) (by kernel_rfl) (by kernel_rfl) (fun _ _ _ h => h) (Or.inl ⟨by rfl, ?_⟩) (by assumption) ?_
  rotate_left 1
  · intro w hSw; (try dsimp only at hSw); go_simp; all_goals (with_reducible rfl)
  try simp only [Act.put, List.setIfInBounds_toArray, List.set_cons_zero, List.set_cons_succ]
  refine wpAnyH_take (i := 2) (oi := { dst := some 25, op := Go.Op.fieldAddr 44 (Go.Operand.tmp 24) 4, type := 0, pos := "disk.go:39", after := #[{ on := 1, ground := Go.Ground.data }], guard := none }) (v := ?_) rfl (by kernel_rfl) (by kernel_rfl) (by kernel_rfl) (fun _ _ _ h => h) (Or.inl ⟨by rfl, ?_⟩) (by assumption) ?_
  rotate_left 1
  · intro w hSw; (try dsimp only at hSw); go_simp; all_goals (with_reducible rfl)
  try simp only [Act.put, List.setIfInBounds_toArray, List.set_cons_zero, List.set_cons_succ]
  refine wpAnyH_take (i := 3) (oi := { dst := some 26, op := Go.Op.load 41 (Go.Operand.tmp 25), type := 41, pos := "disk.go:39", after := #[{ on := 2, ground := Go.Ground.data }], guard := none }) (v := ?_) rfl (by kernel_rfl) (by kernel_rfl) (by kernel_rfl) (fun _ _ _ h => h) (Or.inl ⟨by rfl, ?_⟩) (by assumption) ?_
  rotate_left 1
  · intro w hSw; (try dsimp only at hSw); go_simp; all_goals (with_reducible rfl)
  try simp only [Act.put, List.setIfInBounds_toArray, List.set_cons_zero, List.set_cons_succ]
  refine wpAnyH_take (i := 5) (oi := { dst := some 28, op := Go.Op.move (Go.Operand.tmp 2), type := 26, pos := "disk.go:39", after := #[], guard := none }) (v := ?_) rfl (by kernel_rfl) (by kernel_rfl) (by kernel_rfl) (fun _ _ _ h => h) (Or.inl ⟨by rfl, ?_⟩) (by assumption) ?_
  rotate_left 1
  · intro w hSw; (try dsimp only at hSw); go_simp; all_goals (with_reducible rfl)
  try simp only [Act.put, List.setIfInBounds_toArray, List.set_cons_zero, List.set_cons_succ]
  refine wpAnyH_take (i := 6) (oi := { dst := some 29, op := Go.Op.call { callee := Go.Callee.builtin Go.Builtin.len, args := #[Go.Operand.tmp 28], argTypes := #[26] }, type := 3, pos := "disk.go:39", after := #[{ on := 5, ground := Go.Ground.data }], guard := none }) (v := ?_) rfl (by kernel_rfl) (by kernel_rfl) (by kernel_rfl) (fun _ _ _ h => h) (Or.inl ⟨by rfl, ?_⟩) (by assumption) ?_
  rotate_left 1
  · intro w hSw; (try dsimp only at hSw); go_simp; all_goals (with_reducible rfl)
  try simp only [Act.put, List.setIfInBounds_toArray, List.set_cons_zero, List.set_cons_succ]
  refine wpAnyH_take (i := 8) (oi := { dst := some 31, op := Go.Op.move (Go.Operand.tmp 0), type := 22, pos := "disk.go:39", after := #[], guard := none }) (v := ?_) rfl (by kernel_rfl) (by kernel_rfl) (by kernel_rfl) (fun _ _ _ h => h) (Or.inl ⟨by rfl, ?_⟩) (by assumption) ?_
  rotate_left 1
  · intro w hSw; (try dsimp only at hSw); go_simp; all_goals (with_reducible rfl)
  try simp only [Act.put, List.setIfInBounds_toArray, List.set_cons_zero, List.set_cons_succ]
  refine wpAnyH_take (i := 9) (oi := { dst := some 32, op := Go.Op.nilCheck (Go.Operand.tmp 31), type := 0, pos := "disk.go:39", after := #[{ on := 8, ground := Go.Ground.data }], guard := none }) (v := ?_) rfl (by kernel_rfl) (by kernel_rfl) (by kernel_rfl) (fun _ _ _ h => h) (Or.inl ⟨by rfl, ?_⟩) (by assumption) ?_
  rotate_left 1
  · intro w hSw; (try dsimp only at hSw); go_simp; all_goals (with_reducible rfl)
  try simp only [Act.put, List.setIfInBounds_toArray, List.set_cons_zero, List.set_cons_succ]
  refine wpAnyH_take (i := 10) (oi := { dst := some 33, op := Go.Op.fieldAddr 44 (Go.Operand.tmp 32) 0, type := 0, pos := "disk.go:39", after := #[{ on := 9, ground := Go.Ground.data }], guard := none }) (v := ?_) rfl (by kernel_rfl) (by kernel_rfl) (by kernel_rfl) (fun _ _ _ h => h) (Or.inl ⟨by rfl, ?_⟩) (by assumption) ?_
  rotate_left 1
  · intro w hSw; (try dsimp only at hSw); go_simp; all_goals (with_reducible rfl)
  try simp only [Act.put, List.setIfInBounds_toArray, List.set_cons_zero, List.set_cons_succ]
  refine wpAnyH_take (i := 11) (oi := { dst := some 34, op := Go.Op.load 3 (Go.Operand.tmp 33), type := 3, pos := "disk.go:39", after := #[{ on := 10, ground := Go.Ground.data }], guard := none }) (v := ?_) rfl (by kernel_rfl) (by kernel_rfl) (by kernel_rfl) (fun _ _ _ h => h) (Or.inl ⟨by rfl, ?_⟩) (by assumption) ?_
  rotate_left 1
  · intro w hSw; (try dsimp only at hSw); go_simp; all_goals (with_reducible rfl)
  try simp only [Act.put, List.setIfInBounds_toArray, List.set_cons_zero, List.set_cons_succ]
  refine wpAnyH_ready (rs := [4]) (by kernel_rfl) (by simp) ?_
  refine AllReadyH.cons (o := { dst := some 27, op := Go.Op.call { callee := Go.Callee.value (Go.Operand.func 33), args := #[Go.Operand.tmp 26], argTypes := #[41] }, type := 3, pos := "disk.go:39", after := #[{ on := 3, ground := Go.Ground.data }], guard := none }) rfl (fun K hK => ?_) AllReadyH.nil
  go_simp
  (with_reducible refine (HUsed.out _ (Hid_mk (Kp.refl No w1).drew)).mono ?_)
  rintro e w2 ⟨rfl, hk2⟩
  have hS2 := HS.out w2 hk2
  refine hK.out _ _ hS2 (fun hHeld => ?_)
  clear hK K
  try simp only [Act.put, List.setIfInBounds_toArray, List.set_cons_zero, List.set_cons_succ]
  refine wpAnyH_take (i := 7) (oi := { dst := some 30, op := Go.Op.binOp Go.BinOp.add 3 (Go.Operand.tmp 27) (Go.Operand.tmp 29) 3, type := 3, pos := "disk.go:39", after := #[{ on := 4, ground := Go.Ground.data }, { on := 6, ground := Go.Ground.data }], guard := none }) (v := ?_) rfl (by kernel_rfl) (by kernel_rfl) (by kernel_rfl) (fun _ _ _ h => h) (Or.inl ⟨by rfl, ?_⟩) (by assumption) ?_
  rotate_left 1
  · intro w hSw; (try dsimp only at hSw); go_simp; all_goals (with_reducible rfl)
  try simp only [Act.put, List.setIfInBounds_toArray, List.set_cons_zero, List.set_cons_succ]
  refine wpAnyH_take (i := 12) (oi := { dst := some 35, op := Go.Op.binOp Go.BinOp.gtr 3 (Go.Operand.tmp 30) (Go.Operand.tmp 34) 3, type := 4, pos := "disk.go:39", after := #[{ on := 7, ground := Go.Ground.data }, { on := 11, ground := Go.Ground.data }], guard := none }) (v := ?_) rfl (by kernel_rfl) (by kernel_rfl) (by kernel_rfl) (fun _ _ _ h => h) (Or.inl ⟨by rfl, ?_⟩) (by assumption) ?_
  rotate_left 1
  · intro w hSw; (try dsimp only at hSw); go_simp; all_goals (with_reducible rfl)
  try simp only [Act.put, List.setIfInBounds_toArray, List.set_cons_zero, List.set_cons_succ]
  refine wpAnyH_take (i := 13) (oi := { dst := some 36, op := Go.Op.move (Go.Operand.tmp 35), type := 4, pos := "disk.go:39", after := #[{ on := 12, ground := Go.Ground.data }, { on := 4, ground := Go.Ground.chain }], guard := none }) (v := ?_) rfl (by kernel_rfl) (by kernel_rfl) (by kernel_rfl) (fun _ _ _ h => h) (Or.inl ⟨by rfl, ?_⟩) (by assumption) ?_
  rotate_left 1
  · intro w hSw; (try dsimp only at hSw); go_simp; all_goals (with_reducible rfl)
  try simp only [Act.put, List.setIfInBounds_toArray, List.set_cons_zero, List.set_cons_succ]
  refine wpAnyH_take (i := 14) (oi := { dst := some 37, op := Go.Op.move (Go.Operand.tmp 8), type := 4, pos := "disk.go:39", after := #[{ on := 13, ground := Go.Ground.guard }], guard := some (13, false) }) (v := ?_) rfl (by kernel_rfl) (by kernel_rfl) (by kernel_rfl) (fun _ _ _ h => h) (Or.inl ⟨by rfl, ?_⟩) (by assumption) ?_
  rotate_left 1
  · intro w hSw; (try dsimp only at hSw); go_simp; all_goals (with_reducible rfl)
  try simp only [Act.put, List.setIfInBounds_toArray, List.set_cons_zero, List.set_cons_succ]
  refine wpAnyH_take (i := 15) (oi := { dst := some 38, op := Go.Op.unOp Go.UnOp.not 4 (Go.Operand.tmp 37), type := 4, pos := "disk.go:39", after := #[{ on := 14, ground := Go.Ground.data }, { on := 13, ground := Go.Ground.guard }], guard := some (13, false) }) (v := ?_) rfl (by kernel_rfl) (by kernel_rfl) (by kernel_rfl) (fun _ _ _ h => h) (Or.inl ⟨by rfl, ?_⟩) (by assumption) ?_
  rotate_left 1
  · intro w hSw; (try dsimp only at hSw); go_simp; all_goals (with_reducible rfl)
  try simp only [Act.put, List.setIfInBounds_toArray, List.set_cons_zero, List.set_cons_succ]
  refine wpAnyH_take (i := 16) (oi := { dst := some 39, op := Go.Op.move (Go.Operand.tmp 38), type := 4, pos := "disk.go:39", after := #[{ on := 15, ground := Go.Ground.data }, { on := 13, ground := Go.Ground.chain }, { on := 13, ground := Go.Ground.guard }], guard := some (13, false) }) (v := ?_) rfl (by kernel_rfl) (by kernel_rfl) (by kernel_rfl) (fun _ _ _ h => h) (Or.inl ⟨by rfl, ?_⟩) (by assumption) ?_
  rotate_left 1
  · intro w hSw; (try dsimp only at hSw); go_simp; all_goals (with_reducible rfl)
  try simp only [Act.put, List.setIfInBounds_toArray, List.set_cons_zero, List.set_cons_succ]
  refine wpAnyH_take (i := 17) (oi := { dst := some 40, op := Go.Op.move (Go.Operand.tmp 0), type := 22, pos := "disk.go:39", after := #[{ on := 16, ground := Go.Ground.guard }], guard := some (16, true) }) (v := ?_) rfl (by kernel_rfl) (by kernel_rfl) (by kernel_rfl) (fun _ _ _ h => h) (Or.inl ⟨by rfl, ?_⟩) (by assumption) ?_
  rotate_left 1
  · intro w hSw; (try dsimp only at hSw); go_simp; all_goals (with_reducible rfl)
  try simp only [Act.put, List.setIfInBounds_toArray, List.set_cons_zero, List.set_cons_succ]
  refine wpAnyH_take (i := 18) (oi := { dst := some 41, op := Go.Op.nilCheck (Go.Operand.tmp 40), type := 0, pos := "disk.go:39", after := #[{ on := 17, ground := Go.Ground.data }, { on := 16, ground := Go.Ground.guard }], guard := some (16, true) }) (v := ?_) rfl (by kernel_rfl) (by kernel_rfl) (by kernel_rfl) (fun _ _ _ h => h) (Or.inl ⟨by rfl, ?_⟩) (by assumption) ?_
  rotate_left 1
  · intro w hSw; (try dsimp only at hSw); go_simp; all_goals (with_reducible rfl)
  try simp only [Act.put, List.setIfInBounds_toArray, List.set_cons_zero, List.set_cons_succ]
  refine wpAnyH_take (i := 19) (oi := { dst := some 42, op := Go.Op.fieldAddr 44 (Go.Operand.tmp 41) 4, type := 0, pos := "disk.go:39", after := #[{ on := 18, ground := Go.Ground.data }, { on := 16, ground := Go.Ground.guard }], guard := some (16, true) }) (v := ?_) rfl (by kernel_rfl) (by kernel_rfl) (by kernel_rfl) (fun _ _ _ h => h) (Or.inl ⟨by rfl, ?_⟩) (by assumption) ?_
  rotate_left 1
  · intro w hSw; (try dsimp only at hSw); go_simp; all_goals (with_reducible rfl)
  try simp only [Act.put, List.setIfInBounds_toArray, List.set_cons_zero, List.set_cons_succ]
  refine wpAnyH_take (i := 20) (oi := { dst := some 43, op := Go.Op.load 41 (Go.Operand.tmp 42), type := 41, pos := "disk.go:39", after := #[{ on := 19, ground := Go.Ground.data }, { on := 16, ground := Go.Ground.guard }], guard := some (16, true) }) (v := ?_) rfl (by kernel_rfl) (by kernel_rfl) (by kernel_rfl) (fun _ _ _ h => h) (Or.inl ⟨by rfl, ?_⟩) (by assumption) ?_
  rotate_left 1
  · intro w hSw; (try dsimp only at hSw); go_simp; all_goals (with_reducible rfl)
  try simp only [Act.put, List.setIfInBounds_toArray, List.set_cons_zero, List.set_cons_succ]
  refine wpAnyH_take (i := 21) (oi := { dst := some 44, op := Go.Op.call { callee := Go.Callee.builtin Go.Builtin.len, args := #[Go.Operand.tmp 43], argTypes := #[41] }, type := 3, pos := "disk.go:39", after := #[{ on := 20, ground := Go.Ground.data }, { on := 16, ground := Go.Ground.chain }, { on := 16, ground := Go.Ground.guard }], guard := some (16, true) }) (v := .int .i64 (nw.length : Int)) rfl (by kernel_rfl) (by kernel_rfl) (by kernel_rfl) (fun _ _ _ h => h) (Or.inl ⟨by rfl, fun W hSw => H1.out.len (Operand.tmp 43) rfl rfl W hSw.2.2.out⟩) (by assumption) ?_
  try simp only [Act.put, List.setIfInBounds_toArray, List.set_cons_zero, List.set_cons_succ]
  refine wpAnyH_take (i := 22) (oi := { dst := some 45, op := Go.Op.binOp Go.BinOp.geq 3 (Go.Operand.tmp 44) (Go.Operand.const (Go.Value.int Go.IntKind.i64 64)) 3, type := 4, pos := "disk.go:39", after := #[{ on := 21, ground := Go.Ground.data }, { on := 16, ground := Go.Ground.guard }], guard := some (16, true) }) (v := ?_) rfl (by kernel_rfl) (by kernel_rfl) (by kernel_rfl) (fun _ _ _ h => h) (Or.inl ⟨by rfl, ?_⟩) (by assumption) ?_
  rotate_left 1
  · intro w hSw; (try dsimp only at hSw); go_simp; all_goals (with_reducible rfl)
  try simp only [Act.put, List.setIfInBounds_toArray, List.set_cons_zero, List.set_cons_succ]
  refine wpAnyH_take (i := 23) (oi := { dst := some 46, op := Go.Op.pick (Go.Operand.tmp 39) (Go.Operand.tmp 45) (Go.Operand.const (Go.Value.bool false)), type := 4, pos := "disk.go:39", after := #[{ on := 16, ground := Go.Ground.data }, { on := 22, ground := Go.Ground.data }, { on := 13, ground := Go.Ground.guard }], guard := some (13, false) }) (v := ?_) rfl (by kernel_rfl) (by kernel_rfl) (by kernel_rfl) (fun _ _ _ h => h) (Or.inl ⟨by rfl, ?_⟩) (by assumption) ?_
  rotate_left 1
  · intro w hSw; (try dsimp only at hSw); go_simp; all_goals (with_reducible rfl)
  try simp only [Act.put, List.setIfInBounds_toArray, List.set_cons_zero, List.set_cons_succ]
  refine wpAnyH_take (i := 24) (oi := { dst := some 47, op := Go.Op.pick (Go.Operand.tmp 36) (Go.Operand.const (Go.Value.bool true)) (Go.Operand.tmp 46), type := 4, pos := "disk.go:39", after := #[{ on := 13, ground := Go.Ground.data }, { on := 23, ground := Go.Ground.data }], guard := none }) (v := ?_) rfl (by kernel_rfl) (by kernel_rfl) (by kernel_rfl) (fun _ _ _ h => h) (Or.inl ⟨by rfl, ?_⟩) (by assumption) ?_
  rotate_left 1
  · intro w hSw; (try dsimp only at hSw); go_simp; all_goals (with_reducible rfl)
  try simp only [Act.put, List.setIfInBounds_toArray, List.set_cons_zero, List.set_cons_succ]
  refine wpAnyH_done (by kernel_rfl) ?_ _
  have hfin : StPost base p ρ d w (.int .i64 2) (.returned (.int .i64 2)) w2 := ⟨rfl, ρ, ⟨s, n, vp, ps, by rw [HNowS.out]; exact H1.out.no hk2.out⟩, HBS1.out.2.trans (Fr.of_no hk2.out)⟩
  have HF := Hid_mk hfin
  clear hlk e4 HUsed hS2 hHeld hfin
  go_wp2
  go_ret
  exact HF.out

theorem append_many (w : World) (base p M : Nat) (ρ : Nat → Role) (d : DSt) (name : ByteArray) (vb : Value) (bs : List UInt8) (h : Dk w base p ρ d) (hok : DOk M d) (hM : M ≤ 1000000) (hstop : stopB d = false) (hname : nameB name = true) (hb : Bs w vb bs)
    (hvo : bs ≠ [] → ∀ x o m c, vb = .slice (some ⟨x, o, none⟩) m c → ρ x = .other) (hroom : (used d.now : Int) + (bs.length : Int) ≤ d.room) (hget : (fs.get d.now (nm name)).isSome = false) (hmany : 64 ≤ d.now.length) :
    Calls Try.prog 18 #[.pointer (some ⟨p, 0, none⟩), .string name, vb] w (StPost base p ρ (stopD d) w (.int .i64 2)) := by
  obtain ⟨s, n, vp, ps, h⟩ := h
  exact append_many_at w base p M ρ d d.now s n vp ps name vb bs h hok hM rfl hstop hname hb hvo hroom hget hmany

end Go.Proofs.Ytmehneicdklfeaa.dsk

namespace Go.Proofs.Ytmehneicdklfeaa.r2
open Go.RowKit Go.Maps Go.Proofs.Ytmehneicdklfeaa.sum Go.Proofs.Ytmehneicdklfeaa.kept Go.Proofs.Ytmehneicdklfeaa.app Go.Proofs.Ytmehneicdklfeaa.writer Go.Proofs.Ytmehneicdklfeaa.clone Go.Proofs.Ytmehneicdklfeaa.fs Go.Proofs.Ytmehneicdklfeaa.fsDo Go.Proofs.Ytmehneicdklfeaa.unseal Go.Proofs.Ytmehneicdklfeaa.dsk
set_option linter.unusedVariables false

/-- a slice that lies in nobody's block, which is not r -/
def Aw (w : World) (ρ : Nat → Role) (r : Nat) (v : Value) : Prop := ∀ x o m c, v = .slice (some ⟨x, o, none⟩) m c → ρ x = .other ∧ x ≠ r ∧ x < w.heap.size
theorem Aw.up {w w' : World} {ρ ρ' : Nat → Role} {r : Nat} {v : Value} (h : Aw w ρ r v) (hs : w.heap.size ≤ w'.heap.size) (hρ : ∀ k, k < w.heap.size → ρ k = .other → ρ' k = .other) : Aw w' ρ' r v := fun x o m c e => by
  obtain ⟨h1, h2, h3⟩ := h x o m c e
  exact ⟨hρ x h3 h1, h2, by omega⟩
theorem Aw.nil (w : World) (ρ : Nat → Role) (r n c : Nat) : Aw w ρ r (.slice none n c) := fun x o m c e => by cases e

theorem owns_kept2 {S : Nat → Prop} {w w' : World} {base : Nat} {e : TypeId} {size : Nat} {v : Value} {n : Nat} {xs : List Value} (h : w.ownsRow base e size v n xs) (hk : Kp S w w') (hn : ∀ x o m c, v = .slice (some ⟨x, o, none⟩) m c → ¬ S x) : w'.ownsRow base e size v n xs := by
  refine owns_kept h hk fun k e2 => ?_
  rcases owns_any h with ⟨rfl, -⟩ | ⟨g, cap, rfl, -⟩
  · simp [Value.ownBlock] at e2
  · simp [Value.ownBlock] at e2
    subst e2
    exact hn _ _ _ _ rfl
theorem RAt.kept {S : Nat → Prop} {w w' : World} {r : Nat} {x : RSt} {vs vn vw : Value} (h : RAt w r x vs vn vw) (hk : Kp S w w') (hr : ¬ S r) : RAt w' r x vs vn vw :=
  ⟨hk.cell' h.c0 hr, hk.cell' h.c1 hr, hk.cell' h.c2 hr, hk.cell' h.c3 hr, hk.cell' h.c4 hr, hk.cell' h.c5 hr, hk.cell' h.c6 hr, fun o => (hk.frozen (p := ⟨r, o, none⟩) h.lt hr).trans (h.warm o), Nat.lt_of_lt_of_le h.lt hk.size⟩

section
variable {w w' : World} {ρ ρ' : Nat → Role} {r : Nat} {x x' : RSt} {vs vn vw vs' vn' vw' : Value} {ls ln ls' ln' : List Fv} {ps ps' : List (Change × Value)}

end

theorem bs_lt {w : World} {v : Value} {bs : List UInt8} (h : Bs w v bs) (hne : bs ≠ []) {x o m c : Nat} (e : v = .slice (some ⟨x, o, none⟩) m c) : x < w.heap.size := by
  subst e
  obtain ⟨_, _, e, _, _, h3⟩ := h
  simp only [Value.slice.injEq] at e
  obtain ⟨b', o', e2, hc⟩ := h3 hne
  rw [← e.1] at e2
  cases e2
  exact World.block_lt_of_cell? w _ (hc 0 (List.length_pos_iff.2 hne))
/-- the disk's memory is not where the reference's block is -/
theorem Dk.beside {w w' : World} {base p r : Nat} {ρ : Nat → Role} {d : DSt} (h : Dk w base p ρ d) (hk : Kp (fun k => k = r) w w') (hr : ρ r = .other) : Dk w' base p ρ d := by
  obtain ⟨s, n, vp, ps, h⟩ := h
  have hp : ¬ p = r := fun e => by have := h.rp; rw [e, hr] at this; cases this
  have hss : ¬ s = r := fun e => by have := h.rs; rw [e, hr] at this; cases this
  have hnn : ¬ n = r := fun e => by have := h.rn; rw [e, hr] at this; cases this
  refine ⟨s, n, vp, ps, hk.cell' h.c0 hp, hk.cell' h.c1 hp, hk.cell' h.c2 hp, hk.cell' h.c3 hp, hk.cell' h.c4 hp, hk.cell' h.c5 hp, fun o => (hk.frozen (p := ⟨p, o, none⟩) h.lt hp).trans (h.warm o), ?_, ?_, h.cs, ?_, ?_, h.rp, h.rs, h.rn, h.rv, h.bp, h.low, fun k hk2 => h.hi k (Nat.le_trans hk.size hk2)⟩
  · refine h.syn.kept hk (fun k _ e => ⟨fun e2 => hss (e2 ▸ e), fun m hm => ?_⟩) fun _ _ => rfl
    rw [e] at hm
    unfold sOf at hm
    rw [hr] at hm
    cases hm
  · refine h.now.kept hk (fun k _ e => ⟨fun e2 => hnn (e2 ▸ e), fun m hm => ?_⟩) fun _ _ => rfl
    rw [e] at hm
    unfold nOf at hm
    rw [hr] at hm
    cases hm
  · refine owns_kept h.pend hk fun k e e2 => ?_
    have := h.rv k e
    rw [e2, hr] at this
    cases this
  · intro q hq
    refine ⟨bs_kept (h.byts q hq).1 hk fun x o m c e e2 => ?_, fun x o m c e => ⟨((h.byts q hq).2 x o m c e).1, Nat.lt_of_lt_of_le ((h.byts q hq).2 x o m c e).2 hk.size⟩⟩
    have := ((h.byts q hq).2 x o m c e).1
    rw [e2, hr] at this
    cases this

end Go.Proofs.Ytmehneicdklfeaa.r2

namespace Go.Proofs.Ytmehneicdklfeaa.r2
open Go.RowKit Go.Maps Go.Proofs.Ytmehneicdklfeaa.sum Go.Proofs.Ytmehneicdklfeaa.kept Go.Proofs.Ytmehneicdklfeaa.app Go.Proofs.Ytmehneicdklfeaa.writer Go.Proofs.Ytmehneicdklfeaa.clone Go.Proofs.Ytmehneicdklfeaa.fs Go.Proofs.Ytmehneicdklfeaa.fsDo Go.Proofs.Ytmehneicdklfeaa.unseal Go.Proofs.Ytmehneicdklfeaa.dsk
set_option linter.unusedVariables false

def SrcO (w : World) (x : Value) (m : List (Change × Value)) : Prop := (x = .slice none 0 0 ∧ m = []) ∨ ∃ b o c, x = .slice (some ⟨b, o, none⟩) m.length c ∧ ∀ j u, (m.flatMap chgList)[j]? = some u → w.cell? ⟨b, o + j, none⟩ = some u
theorem flat_len (l : List (Change × Value)) : (l.flatMap chgList).length = l.length * 5 := by
  induction l with
  | nil => rfl
  | cons q l ih =>
    rw [List.flatMap_cons, List.length_append, ih]
    simp [chgList]
    omega

theorem SrcO.no {w w' : World} {x : Value} {m : List (Change × Value)} (h : SrcO w x m) (hk : Kp No w w') : SrcO w' x m := by
  rcases h with h | ⟨b, o, c, e, hc⟩
  · exact .inl h
  · exact .inr ⟨b, o, c, e, fun j u hj => hk.cell' (hc j u hj) id⟩
theorem SrcO.kept {S : Nat → Prop} {w w' : World} {x : Value} {m : List (Change × Value)} (h : SrcO w x m) (hk : Kp S w w') (hn : ∀ b o n c, x = .slice (some ⟨b, o, none⟩) n c → ¬ S b) : SrcO w' x m := by
  rcases h with h | ⟨b, o, c, e, hc⟩
  · exact .inl h
  · exact .inr ⟨b, o, c, e, fun j u hj => hk.cell' (hc j u hj) (hn _ _ _ _ e)⟩
theorem RAt.set_now {w : World} {r : Nat} {x : RSt} {vs vn vw : Value} (h : RAt w r x vs vn vw) (u : Value) : RAt (w.setCell ⟨r, 2, none⟩ u) r x vs u vw :=
  ⟨other_cell h.c0 (by omega), other_cell h.c1 (by omega), World.cell?_setCell_same w _ _ h.c2, other_cell h.c3 (by omega), other_cell h.c4 (by omega), other_cell h.c5 (by omega), other_cell h.c6 (by omega), dsk.warm_set h.warm, by simpa using h.lt⟩
theorem RAt.set_wait {w : World} {r : Nat} {x : RSt} {vs vn vw : Value} (h : RAt w r x vs vn vw) (u : Value) : RAt (w.setCell ⟨r, 3, none⟩ u) r x vs vn u :=
  ⟨other_cell h.c0 (by omega), other_cell h.c1 (by omega), other_cell h.c2 (by omega), World.cell?_setCell_same w _ _ h.c3, other_cell h.c4 (by omega), other_cell h.c5 (by omega), other_cell h.c6 (by omega), dsk.warm_set h.warm, by simpa using h.lt⟩
theorem RAt.set_syn {w : World} {r : Nat} {x : RSt} {vs vn vw : Value} (h : RAt w r x vs vn vw) (u : Value) : RAt (w.setCell ⟨r, 1, none⟩ u) r x u vn vw :=
  ⟨other_cell h.c0 (by omega), World.cell?_setCell_same w _ _ h.c1, other_cell h.c2 (by omega), other_cell h.c3 (by omega), other_cell h.c4 (by omega), other_cell h.c5 (by omega), other_cell h.c6 (by omega), dsk.warm_set h.warm, by simpa using h.lt⟩

theorem cell_off {w : World} {b o r o' : Nat} {u v : Value} (h : w.cell? ⟨b, o, none⟩ = some v) (hne : b ≠ r) : (w.setCell ⟨r, o', none⟩ u).cell? ⟨b, o, none⟩ = some v := by
  rw [World.cell?_setCell_other w _ _ _ (by intro e; injection e; omega)]
  exact h

end Go.Proofs.Ytmehneicdklfeaa.r2

namespace Go.Proofs.Ytmehneicdklfeaa.r2
open Go.RowKit Go.Maps Go.Proofs.Ytmehneicdklfeaa.sum Go.Proofs.Ytmehneicdklfeaa.kept Go.Proofs.Ytmehneicdklfeaa.app Go.Proofs.Ytmehneicdklfeaa.writer Go.Proofs.Ytmehneicdklfeaa.clone Go.Proofs.Ytmehneicdklfeaa.fs Go.Proofs.Ytmehneicdklfeaa.fsDo Go.Proofs.Ytmehneicdklfeaa.unseal Go.Proofs.Ytmehneicdklfeaa.dsk
set_option linter.unusedVariables false

theorem used_snoc (l : List Fv) (k : Nat) (h : k < l.length) : used (files (l.take (k + 1))) = used (files (l.take k)) + l[k].2.2.length := by
  rw [List.take_succ_eq_append_getElem h, files_append]
  unfold used
  rw [List.map_append, List.sum_append]
  simp [files]
theorem used_le (l : List Fv) (k : Nat) : used (files (l.take k)) ≤ used (files l) := by
  conv => rhs; rw [← List.take_append_drop k l, files_append]
  unfold used
  rw [List.map_append, List.sum_append]
  omega

def UsRel (l : List Fv) (w : World) (n i : Value) (wr : World) : Prop := ∃ k : Nat, i = .int .i64 (k : Int) ∧ k ≤ l.length ∧ n = .int .i64 (used (files (l.take k)) : Int) ∧ w = wr

theorem place_some {l : List Fv} (hr : Rising (files l)) {n : ByteArray} {k : Nat} (hk : k < l.length) (h : l[k].1 = n) : fs.get (files l) (nm n) = some l[k].2.2 := (get_some hr).2 (by
  unfold files
  refine List.mem_map.2 ⟨l[k], List.getElem_mem hk, ?_⟩
  rw [h])

theorem infoS : (Try.prog.info? 9).map (fun i => (i.zero, i.size, i.bytes)) = some (some (.string ByteArray.empty), 1, 16) := by kernel_rfl

/-- a row of texts -/
def SRow (w : World) (base : Nat) (v : Value) (l : List ByteArray) : Prop := w.ownsRow base 9 1 v l.length (l.map Value.string)
theorem SRow.no {w w' : World} {base : Nat} {v : Value} {l : List ByteArray} (h : SRow w base v l) (hk : Kp No w w') : SRow w' base v l := owns_kept h hk fun _ _ => id

theorem wpList_catS (w : World) {ops : Array Oper} {rest : List Oper} {o : Oper} {a : Act} {Q : Exit → Act → World → Prop} (hgd : o.guard = none) (s e : Operand)
    (ho : o.op = .call { callee := .builtin .append, args := #[s, e], argTypes := #[62, 62] })
    (base : Nat) (v : Value) (l : List ByteArray) (y : ByteArray) (hs : a.eval s = v) (h : SRow w base v l) (hbase : base ≤ w.heap.size) (b c : Nat) (he : a.eval e = .slice (some ⟨b, 0, none⟩) 1 c) (hc : w.cell? ⟨b, 0, none⟩ = some (.string y)) (hn : l.length ≤ 1000000000000)
    (hK : ∀ v' w', SRow w' base v' (l ++ [y]) → Kp (fun k => some k = v.ownBlock) w w' → wpList Try.prog ops Q rest (a.put o.dst v') w') : wpList Try.prog ops Q (o :: rest) a w := by
  obtain ⟨i0, hi, hz0, hz1, hz2⟩ := info_parts infoS
  obtain ⟨v', w', hr, k1, k2, k3, k4⟩ := run_append_own_at (P := Try.prog) w base 62 o.type 9 i0 (.string ByteArray.empty) 1 16 Try.underlying62 hi hz0 hz1 hz2 rfl (by decide) v l.length _ h ⟨b, 0, none⟩ 1 c [.string y]
    rfl (fun j u hj => by
      rw [addr_add]
      match j, hj with
      | 0, hj => simp at hj; subst hj; exact hc) (fun u hu => by simp at hu; subst hu; rfl) (by unfold maxLen; omega) (by omega) hbase
  refine wpList_plain hgd fun K hK2 => ?_
  unfold Oper.wp execOp
  simp only [ho, resolve, invoke, builtin, Sem.run_bind, Sem.run_pure, Result.andThen_ok, List.map_toArray, List.map_cons, List.map_nil, hs, he, hr]
  refine hK2 _ _ (hK v' w' ?_ ((Kp.refl _ _).grown k2 fun k _ e => e.symm))
  unfold SRow
  rw [List.length_append, List.map_append]
  exact k1

def NmRel (l : List Fv) (w : World) (out i : Value) (wr : World) : Prop := (∃ a n c, out = .slice a n c) ∧ ∃ k : Nat, i = .int .i64 (k : Int) ∧ k ≤ l.length ∧ SRow wr w.heap.size out ((l.take k).map (·.1)) ∧ Kp No w wr

end Go.Proofs.Ytmehneicdklfeaa.r2
