/- Append refused for want of room; Remove of what is not there; Used. What a stopped disk answers; Truncate, Rename and their refusals; Room. -/
import Derived.Test.YtmehneicdklfeaaGreatDiskCrashM

namespace Go.Proofs.YtmehneicdklfeaaGreat.dsk
open Go.RowKit Go.Maps Go.Proofs.YtmehneicdklfeaaGreat.sum Go.Proofs.YtmehneicdklfeaaGreat.kept Go.Proofs.YtmehneicdklfeaaGreat.app Go.Proofs.YtmehneicdklfeaaGreat.writer Go.Proofs.YtmehneicdklfeaaGreat.clone Go.Proofs.YtmehneicdklfeaaGreat.unseal Go.Proofs.YtmehneicdklfeaaGreat.fs Go.Proofs.YtmehneicdklfeaaGreat.fsMem Go.Proofs.YtmehneicdklfeaaGreat.fsDo Go.Proofs.YtmehneicdklfeaaGreat.fsUsed Go.Proofs.YtmehneicdklfeaaGreat.turned
set_option linter.unusedVariables false

set_option maxRecDepth 100000 in
set_option maxHeartbeats 1000000 in
theorem used_disk (w : World) (base p : Nat) (ρ : Nat → Role) (d : DSt) (h : Dk w base p ρ d) (hd : d.down = false) (hu : used d.now ≤ 140737488355328) :
    Calls Tryz.prog 39 #[.pointer (some ⟨p, 0, none⟩)] w fun e w' => e = .returned (.int .i64 (used d.now : Int)) ∧ Kp No w w' := by
  obtain ⟨s, nn, vp, ps, h⟩ := h
  have c2 := h.c2
  have c4 := h.c4
  rw [hd] at c2
  have HU := Hid_mk (used_any w base nn (nOf ρ) d.now h.now hu)
  clear h hd hu
  go_enter Tryz.func39, Tryz.ntmps39
  go_wp2_with fail
  with_reducible refine HU.out.mono ?_
  rintro e w1 ⟨rfl, hk⟩
  have HK := Hid_mk hk
  clear hk
  go_wp2
  go_ret
  exact ⟨rfl, HK.out⟩

set_option maxRecDepth 100000 in
set_option maxHeartbeats 2000000 in
theorem remove_none (w : World) (base p M : Nat) (ρ : Nat → Role) (d : DSt) (name : ByteArray) (h : Dk w base p ρ d) (hok : DOk M d) (hstop : stopB d = false) (hns : name.size ≤ maxLen) (hget : (fs.get d.now (nm name)).isSome = false) :
    Calls Tryz.prog 33 #[.pointer (some ⟨p, 0, none⟩), .string name] w (StPost base p ρ (stopD d) w (.int .i64 4)) := by
  obtain ⟨s, n, vp, ps, h⟩ := h
  have hst := stops_any w base p ρ d d.now s n vp ps h hok.fuse0 hok.fuse1
  rw [hstop] at hst
  obtain ⟨e1, e2, e3⟩ := stop_same d
  have hnow : (stopD d).now = d.now := by unfold DSt.now; rw [e2, e3]
  have hfin : ∀ w1, Kp (fun k => k = p) w w1 → DkAt w1 base p ρ (stopD d) d.now s n vp ps → StPost base p ρ (stopD d) w (.int .i64 4) (.returned (.int .i64 4)) w1 := fun w1 hk1 h1 => ⟨rfl, ρ, ⟨s, n, vp, ps, by rw [hnow]; exact h1⟩, Fr.of_p hk1 h.rp⟩
  have HSt := Hid_mk hst
  have HFin := Hid_mk hfin
  have HNs := Hid_mk hns
  clear hst hfin h hok e1 e2 e3 hstop hnow
  go_enter Tryz.func33, Tryz.ntmps33
  go_wp2_with fail
  with_reducible refine HSt.out.mono ?_
  rintro e w1 ⟨rfl, h1, hk1⟩
  have c4 := h1.c4
  have HF := Hid_mk (HFin.out w1 hk1 h1)
  obtain ⟨v, -, hlook⟩ := h1.now.look HNs.out
  have hlk := (hlook w1 (Kp.refl _ _)).2
  rw [hget] at hlk
  clear h1 hk1 hlook
  go_wp2
  go_ret
  exact HF.out

set_option maxRecDepth 100000 in
set_option maxHeartbeats 4000000 in
theorem append_full_at (w : World) (base p M : Nat) (ρ : Nat → Role) (d0 : DSt) (nw : Files) (s n : Nat) (vp : Value) (ps : List (Change × Value)) (name : ByteArray) (vb : Value) (bs : List UInt8) (h0 : DkAt w base p ρ d0 nw s n vp ps) (hok : DOk M d0) (hM : M ≤ 1000000) (hnw : nw = d0.now)
    (hstop : stopB d0 = false) (hname : nameB name = true) (hb : Bs w vb bs) (hvo : bs ≠ [] → ∀ x o m c, vb = .slice (some ⟨x, o, none⟩) m c → ρ x = .other) (hfull : d0.room < (used nw : Int) + (bs.length : Int)) (hbl : bs.length ≤ 1000000000000000) :
    Calls Tryz.prog 16 #[.pointer (some ⟨p, 0, none⟩), .string name, vb] w (StPost base p ρ (stopD d0) w (.int .i64 2)) := by
  have hsd : (stopD d0).room = d0.room ∧ (stopD d0).syn = d0.syn ∧ (stopD d0).cs = d0.cs := by unfold stopD; split <;> (try split) <;> exact ⟨rfl, rfl, rfl⟩
  have hst := stops_any w base p ρ d0 nw s n vp ps h0 hok.fuse0 hok.fuse1
  have hns : name.size ≤ maxLen := by simp [nameB] at hname; unfold maxLen; omega
  have hnm := fun w => name_any w name hns
  rw [hname] at hnm
  rw [hstop] at hst
  have hlenps : ps.length = d0.cs.length := by rw [← h0.cs, List.length_map]
  have hfew0 := hok.few
  have hrise : Rising nw := h0.now.1
  have hl1 : nw.length ≤ M := by rw [hnw]; exact Nat.le_trans (len_all hok.rising d0.cs) hok.few
  have hu0 := used_all hok.rising d0.cs
  have hu1 : used nw ≤ 8388608000000 := by
    have h1 := hok.small
    have h2 : M * 8388608 ≤ 1000000 * 8388608 := Nat.mul_le_mul_right _ hM
    rw [hnw]
    unfold DSt.now
    omega
  obtain ⟨ab, cb, rfl, hcb1, hcb2, -⟩ := id hb
  unfold maxLen at hcb2
  have hol := get_len hrise (nm name)
  have HSt := Hid_mk hst
  have HNm := fun w => Hid_mk (hnm w)
  have hsum : IntKind.i64.wrap ((used nw : Int) + (bs.length : Int)) = (used nw : Int) + (bs.length : Int) := IntWalk.i64_in _ (by omega)
  have hdec : decide (d0.room < (used nw : Int) + (bs.length : Int)) = true := decide_eq_true hfull
  have hlen2 : True := trivial
  have HBS : Hid (∀ w1, Kp (fun k => k = p) w w1 → Bs w1 (.slice ab bs.length cb) bs ∧ Fr ρ w ρ w1) := Hid_mk fun w1 hk => ⟨bs_keptE hb hk (fun hne b o m c e e2 => by
    have := hvo hne b o m c e
    rw [e2, h0.rp] at this
    cases this), ⟨hk.mono (fun k _ e => by rw [e, h0.rp]; simp), fun _ _ h => h⟩⟩
  have hroomd := hsd.1
  have hnowS : (stopD d0).now = d0.now := by unfold DSt.now; rw [hsd.2.1, hsd.2.2]
  have HNowS := Hid_mk (hnowS.trans hnw.symm)
  clear hb hvo hst hnm hok h0 hsd hfull hstop hnw hnowS hu0
  generalize hd : stopD d0 = d at *
  have HPs : Hid (ps.length ≤ 1000000000000) := Hid_mk (by omega)
  have HLen2 : Hid (nw.length < maxLen) := Hid_mk (by unfold maxLen; omega)
  have HHn := Hid_mk hns
  have hu2 : used nw ≤ 140737488355328 := by omega
  go_enter Tryz.func16, Tryz.ntmps16
  go_wp2_with fail
  refine HSt.out.mono ?_
  rintro e w1 ⟨rfl, h1, hk1⟩
  have H1 := Hid_mk h1
  have HBS1 := Hid_mk (HBS.out w1 hk1)
  obtain ⟨v, hrow, hlook⟩ := h1.now.look hns
  have hlk := (hlook w1 (Kp.refl _ _)).2
  obtain ⟨okb, hokb⟩ : ∃ okb, (fs.get nw (nm name)).isSome = okb := ⟨_, rfl⟩
  rw [hokb] at hlk
  clear hokb
  have e4 := h1.c4
  have hS : ∀ W, Hid (Kp No w1 W) → W.cell? ⟨p, 4, none⟩ = some (.map (some n)) ∧ W.cell? ⟨p, 0, none⟩ = some (.int .i64 d0.room) ∧ Hid (Kp No w1 W) := fun W hW => ⟨hW.out.cell' h1.c4 id, hroomd ▸ hW.out.cell' h1.c0 id, hW⟩
  have HS := Hid_mk hS
  have hus : ∀ W, Hid (Kp No w1 W) → Calls Tryz.prog 47 #[.map (some n)] W fun e W' => e = .returned (.int .i64 (used nw : Int)) ∧ Hid (Kp No w1 W') := by
    intro W hW
    refine (used_any W base n (nOf ρ) nw (h1.no hW.out).now hu2).mono ?_
    rintro e W' ⟨rfl, hk⟩
    exact ⟨rfl, Hid_mk (hW.out.trans' hk)⟩
  have HUsed := Hid_mk hus
  clear h1 hk1 hrow hlook hS hus
  go_wp2_with fail
  refine (HNm _).out.mono ?_
  rintro e w' ⟨rfl, rfl⟩
  go_wp2
  refine wp_region_held_drew (S := (fun W => W.cell? ⟨p, 4, none⟩ = some (.map (some n)) ∧ W.cell? ⟨p, 0, none⟩ = some (.int .i64 d0.room) ∧ Hid (Kp No w1 W))) (by kernel_rfl) (HS.out _ (Hid_mk (Kp.refl No w1).drew)) (fun hHeld => ?_)
  refine wpAnyH_take (i := 0) (oi := { dst := some 23, op := Go.Op.move (Go.Operand.tmp 0), type := 23, pos := "disk.go:39", after := #[], guard := none }) (v := ?_) rfl (by kernel_rfl) (by kernel_rfl) (by kernel_rfl) (fun _ _ _ h => h) (Or.inl ⟨by rfl, ?_⟩) (by assumption) ?_
  rotate_left 1
  · intro w hSw; (try dsimp only at hSw); go_simp; all_goals (with_reducible rfl)
  try simp only [Act.put, List.setIfInBounds_toArray, List.set_cons_zero, List.set_cons_succ]
  refine wpAnyH_take (i := 1) (oi := { dst := some 24, op := Go.Op.nilCheck (Go.Operand.tmp 23), type := 0, pos := "disk.go:39", after := #[{ on := 0, ground := Go.Ground.data }], guard := none }) (v := ?_) rfl (by kernel_rfl) (by kernel_rfl) (by kernel_rfl) (fun _ _ _ h => h) (Or.inl ⟨by rfl, ?_⟩) (by assumption) ?_
  rotate_left 1
  · intro w hSw; (try dsimp only at hSw); go_simp; all_goals (with_reducible rfl)
  try simp only [Act.put, List.setIfInBounds_toArray, List.set_cons_zero, List.set_cons_succ]
  refine wpAnyH_take (i := 2) (oi := { dst := some 25, op := Go.Op.fieldAddr 76 (Go.Operand.tmp 24) 4, type := 0, pos := "disk.go:39", after := #[{ on := 1, ground := Go.Ground.data }], guard := none }) (v := ?_) rfl (by kernel_rfl) (by kernel_rfl) (by kernel_rfl) (fun _ _ _ h => h) (Or.inl ⟨by rfl, ?_⟩) (by assumption) ?_
  rotate_left 1
  · intro w hSw; (try dsimp only at hSw); go_simp; all_goals (with_reducible rfl)
  try simp only [Act.put, List.setIfInBounds_toArray, List.set_cons_zero, List.set_cons_succ]
  refine wpAnyH_take (i := 3) (oi := { dst := some 26, op := Go.Op.load 73 (Go.Operand.tmp 25), type := 73, pos := "disk.go:39", after := #[{ on := 2, ground := Go.Ground.data }], guard := none }) (v := ?_) rfl (by kernel_rfl) (by kernel_rfl) (by kernel_rfl) (fun _ _ _ h => h) (Or.inl ⟨by rfl, ?_⟩) (by assumption) ?_
  rotate_left 1
  · intro w hSw; (try dsimp only at hSw); go_simp; all_goals (with_reducible rfl)
  try simp only [Act.put, List.setIfInBounds_toArray, List.set_cons_zero, List.set_cons_succ]
  refine wpAnyH_take (i := 5) (oi := { dst := some 28, op := Go.Op.move (Go.Operand.tmp 2), type := 29, pos := "disk.go:39", after := #[], guard := none }) (v := ?_) rfl (by kernel_rfl) (by kernel_rfl) (by kernel_rfl) (fun _ _ _ h => h) (Or.inl ⟨by rfl, ?_⟩) (by assumption) ?_
  rotate_left 1
  · intro w hSw; (try dsimp only at hSw); go_simp; all_goals (with_reducible rfl)
  try simp only [Act.put, List.setIfInBounds_toArray, List.set_cons_zero, List.set_cons_succ]
  refine wpAnyH_take (i := 6) (oi := { dst := some 29, op := Go.Op.call { callee := Go.Callee.builtin Go.Builtin.len, args := #[Go.Operand.tmp 28], argTypes := #[29] }, type := 3, pos := "disk.go:39", after := #[{ on := 5, ground := Go.Ground.data }], guard := none }) (v := ?_) rfl (by kernel_rfl) (by kernel_rfl) (by kernel_rfl) (fun _ _ _ h => h) (Or.inl ⟨by rfl, ?_⟩) (by assumption) ?_
  rotate_left 1
  · intro w hSw; (try dsimp only at hSw); go_simp; all_goals (with_reducible rfl)
  try simp only [Act.put, List.setIfInBounds_toArray, List.set_cons_zero, List.set_cons_succ]
  refine wpAnyH_take (i := 8) (oi := { dst := some 31, op := Go.Op.move (Go.Operand.tmp 0), type := 23, pos := "disk.go:39", after := #[], guard := none }) (v := ?_) rfl (by kernel_rfl) (by kernel_rfl) (by kernel_rfl) (fun _ _ _ h => h) (Or.inl ⟨by rfl, ?_⟩) (by assumption) ?_
  rotate_left 1
  · intro w hSw; (try dsimp only at hSw); go_simp; all_goals (with_reducible rfl)
  try simp only [Act.put, List.setIfInBounds_toArray, List.set_cons_zero, List.set_cons_succ]
  refine wpAnyH_take (i := 9) (oi := { dst := some 32, op := Go.Op.nilCheck (Go.Operand.tmp 31), type := 0, pos := "disk.go:39", after := #[{ on := 8, ground := Go.Ground.data }], guard := none }) (v := ?_) rfl (by kernel_rfl) (by kernel_rfl) (by kernel_rfl) (fun _ _ _ h => h) (Or.inl ⟨by rfl, ?_⟩) (by assumption) ?_
  rotate_left 1
  · intro w hSw; (try dsimp only at hSw); go_simp; all_goals (with_reducible rfl)
  try simp only [Act.put, List.setIfInBounds_toArray, List.set_cons_zero, List.set_cons_succ]
  refine wpAnyH_take (i := 10) (oi := { dst := some 33, op := Go.Op.fieldAddr 76 (Go.Operand.tmp 32) 0, type := 0, pos := "disk.go:39", after := #[{ on := 9, ground := Go.Ground.data }], guard := none }) (v := ?_) rfl (by kernel_rfl) (by kernel_rfl) (by kernel_rfl) (fun _ _ _ h => h) (Or.inl ⟨by rfl, ?_⟩) (by assumption) ?_
  rotate_left 1
  · intro w hSw; (try dsimp only at hSw); go_simp; all_goals (with_reducible rfl)
  try simp only [Act.put, List.setIfInBounds_toArray, List.set_cons_zero, List.set_cons_succ]
  refine wpAnyH_take (i := 11) (oi := { dst := some 34, op := Go.Op.load 3 (Go.Operand.tmp 33), type := 3, pos := "disk.go:39", after := #[{ on := 10, ground := Go.Ground.data }], guard := none }) (v := ?_) rfl (by kernel_rfl) (by kernel_rfl) (by kernel_rfl) (fun _ _ _ h => h) (Or.inl ⟨by rfl, ?_⟩) (by assumption) ?_
  rotate_left 1
  · intro w hSw; (try dsimp only at hSw); go_simp; all_goals (with_reducible rfl)
  try simp only [Act.put, List.setIfInBounds_toArray, List.set_cons_zero, List.set_cons_succ]
  refine wpAnyH_ready (rs := [4]) (by kernel_rfl) (by simp) ?_
  refine AllReadyH.cons (o := { dst := some 27, op := Go.Op.call { callee := Go.Callee.value (Go.Operand.func 47), args := #[Go.Operand.tmp 26], argTypes := #[73] }, type := 3, pos := "disk.go:39", after := #[{ on := 3, ground := Go.Ground.data }], guard := none }) rfl (fun K hK => ?_) AllReadyH.nil
  go_simp
  (with_reducible refine (HUsed.out _ (Hid_mk (Kp.refl No w1).drew)).mono ?_)
  rintro e w2 ⟨rfl, hk2⟩
  have hS2 := HS.out w2 hk2
  refine hK.out _ _ hS2 (fun hHeld => ?_)
  clear hK K
  try simp only [Act.put, List.setIfInBounds_toArray, List.set_cons_zero, List.set_cons_succ]
  refine wpAnyH_take (i := 7) (oi := { dst := some 30, op := Go.Op.binOp Go.BinOp.add 3 (Go.Operand.tmp 27) (Go.Operand.tmp 29) 3, type := 3, pos := "disk.go:39", after := #[{ on := 4, ground := Go.Ground.data }, { on := 6, ground := Go.Ground.data }], guard := none }) (v := ?_) rfl (by kernel_rfl) (by kernel_rfl) (by kernel_rfl) (fun _ _ _ h => h) (Or.inl ⟨by rfl, ?_⟩) (by assumption) ?_
  rotate_left 1
  · intro w hSw; (try dsimp only at hSw); go_simp; all_goals (with_reducible rfl)
  try simp only [Act.put, List.setIfInBounds_toArray, List.set_cons_zero, List.set_cons_succ]
  refine wpAnyH_take (i := 12) (oi := { dst := some 35, op := Go.Op.binOp Go.BinOp.gtr 3 (Go.Operand.tmp 30) (Go.Operand.tmp 34) 3, type := 4, pos := "disk.go:39", after := #[{ on := 7, ground := Go.Ground.data }, { on := 11, ground := Go.Ground.data }], guard := none }) (v := ?_) rfl (by kernel_rfl) (by kernel_rfl) (by kernel_rfl) (fun _ _ _ h => h) (Or.inl ⟨by rfl, ?_⟩) (by assumption) ?_
  rotate_left 1
  · intro w hSw; (try dsimp only at hSw); go_simp; all_goals (with_reducible rfl)
  try simp only [Act.put, List.setIfInBounds_toArray, List.set_cons_zero, List.set_cons_succ]
  refine wpAnyH_take (i := 13) (oi := { dst := some 36, op := Go.Op.move (Go.Operand.tmp 35), type := 4, pos := "disk.go:39", after := #[{ on := 12, ground := Go.Ground.data }, { on := 4, ground := Go.Ground.chain }], guard := none }) (v := ?_) rfl (by kernel_rfl) (by kernel_rfl) (by kernel_rfl) (fun _ _ _ h => h) (Or.inl ⟨by rfl, ?_⟩) (by assumption) ?_
  rotate_left 1
  · intro w hSw; (try dsimp only at hSw); go_simp; all_goals (with_reducible rfl)
  try simp only [Act.put, List.setIfInBounds_toArray, List.set_cons_zero, List.set_cons_succ]
  refine wpAnyH_take (i := 14) (oi := { dst := some 37, op := Go.Op.move (Go.Operand.tmp 8), type := 4, pos := "disk.go:39", after := #[{ on := 13, ground := Go.Ground.guard }], guard := some (13, false) }) (v := undef) rfl (by kernel_rfl) (by kernel_rfl) (by kernel_rfl) (fun _ _ _ h => h) (Or.inr ⟨by rfl, rfl⟩) (by assumption) ?_
  try simp only [Act.put, List.setIfInBounds_toArray, List.set_cons_zero, List.set_cons_succ]
  refine wpAnyH_take (i := 15) (oi := { dst := some 38, op := Go.Op.unOp Go.UnOp.not 4 (Go.Operand.tmp 37), type := 4, pos := "disk.go:39", after := #[{ on := 14, ground := Go.Ground.data }, { on := 13, ground := Go.Ground.guard }], guard := some (13, false) }) (v := undef) rfl (by kernel_rfl) (by kernel_rfl) (by kernel_rfl) (fun _ _ _ h => h) (Or.inr ⟨by rfl, rfl⟩) (by assumption) ?_
  try simp only [Act.put, List.setIfInBounds_toArray, List.set_cons_zero, List.set_cons_succ]
  refine wpAnyH_take (i := 16) (oi := { dst := some 39, op := Go.Op.move (Go.Operand.tmp 38), type := 4, pos := "disk.go:39", after := #[{ on := 15, ground := Go.Ground.data }, { on := 13, ground := Go.Ground.chain }, { on := 13, ground := Go.Ground.guard }], guard := some (13, false) }) (v := undef) rfl (by kernel_rfl) (by kernel_rfl) (by kernel_rfl) (fun _ _ _ h => h) (Or.inr ⟨by rfl, rfl⟩) (by assumption) ?_
  try simp only [Act.put, List.setIfInBounds_toArray, List.set_cons_zero, List.set_cons_succ]
  refine wpAnyH_take (i := 17) (oi := { dst := some 40, op := Go.Op.move (Go.Operand.tmp 0), type := 23, pos := "disk.go:39", after := #[{ on := 16, ground := Go.Ground.guard }], guard := some (16, true) }) (v := undef) rfl (by kernel_rfl) (by kernel_rfl) (by kernel_rfl) (fun _ _ _ h => h) (Or.inr ⟨by rfl, rfl⟩) (by assumption) ?_
  try simp only [Act.put, List.setIfInBounds_toArray, List.set_cons_zero, List.set_cons_succ]
  refine wpAnyH_take (i := 18) (oi := { dst := some 41, op := Go.Op.nilCheck (Go.Operand.tmp 40), type := 0, pos := "disk.go:39", after := #[{ on := 17, ground := Go.Ground.data }, { on := 16, ground := Go.Ground.guard }], guard := some (16, true) }) (v := undef) rfl (by kernel_rfl) (by kernel_rfl) (by kernel_rfl) (fun _ _ _ h => h) (Or.inr ⟨by rfl, rfl⟩) (by assumption) ?_
  try simp only [Act.put, List.setIfInBounds_toArray, List.set_cons_zero, List.set_cons_succ]
  refine wpAnyH_take (i := 19) (oi := { dst := some 42, op := Go.Op.fieldAddr 76 (Go.Operand.tmp 41) 4, type := 0, pos := "disk.go:39", after := #[{ on := 18, ground := Go.Ground.data }, { on := 16, ground := Go.Ground.guard }], guard := some (16, true) }) (v := undef) rfl (by kernel_rfl) (by kernel_rfl) (by kernel_rfl) (fun _ _ _ h => h) (Or.inr ⟨by rfl, rfl⟩) (by assumption) ?_
  try simp only [Act.put, List.setIfInBounds_toArray, List.set_cons_zero, List.set_cons_succ]
  refine wpAnyH_take (i := 20) (oi := { dst := some 43, op := Go.Op.load 73 (Go.Operand.tmp 42), type := 73, pos := "disk.go:39", after := #[{ on := 19, ground := Go.Ground.data }, { on := 16, ground := Go.Ground.guard }], guard := some (16, true) }) (v := undef) rfl (by kernel_rfl) (by kernel_rfl) (by kernel_rfl) (fun _ _ _ h => h) (Or.inr ⟨by rfl, rfl⟩) (by assumption) ?_
  try simp only [Act.put, List.setIfInBounds_toArray, List.set_cons_zero, List.set_cons_succ]
  refine wpAnyH_take (i := 21) (oi := { dst := some 44, op := Go.Op.call { callee := Go.Callee.builtin Go.Builtin.len, args := #[Go.Operand.tmp 43], argTypes := #[73] }, type := 3, pos := "disk.go:39", after := #[{ on := 20, ground := Go.Ground.data }, { on := 16, ground := Go.Ground.chain }, { on := 16, ground := Go.Ground.guard }], guard := some (16, true) }) (v := undef) rfl (by kernel_rfl) (by kernel_rfl) (by kernel_rfl) (fun _ _ _ h => h) (Or.inr ⟨by rfl, rfl⟩) (by assumption) ?_
  try simp only [Act.put, List.setIfInBounds_toArray, List.set_cons_zero, List.set_cons_succ]
  refine wpAnyH_take (i := 22) (oi := { dst := some 45, op := Go.Op.binOp Go.BinOp.geq 3 (Go.Operand.tmp 44) (Go.Operand.const (Go.Value.int Go.IntKind.i64 64)) 3, type := 4, pos := "disk.go:39", after := #[{ on := 21, ground := Go.Ground.data }, { on := 16, ground := Go.Ground.guard }], guard := some (16, true) }) (v := undef) rfl (by kernel_rfl) (by kernel_rfl) (by kernel_rfl) (fun _ _ _ h => h) (Or.inr ⟨by rfl, rfl⟩) (by assumption) ?_
  try simp only [Act.put, List.setIfInBounds_toArray, List.set_cons_zero, List.set_cons_succ]
  refine wpAnyH_take (i := 23) (oi := { dst := some 46, op := Go.Op.pick (Go.Operand.tmp 39) (Go.Operand.tmp 45) (Go.Operand.const (Go.Value.bool false)), type := 4, pos := "disk.go:39", after := #[{ on := 16, ground := Go.Ground.data }, { on := 22, ground := Go.Ground.data }, { on := 13, ground := Go.Ground.guard }], guard := some (13, false) }) (v := undef) rfl (by kernel_rfl) (by kernel_rfl) (by kernel_rfl) (fun _ _ _ h => h) (Or.inr ⟨by rfl, rfl⟩) (by assumption) ?_
  try simp only [Act.put, List.setIfInBounds_toArray, List.set_cons_zero, List.set_cons_succ]
  refine wpAnyH_take (i := 24) (oi := { dst := some 47, op := Go.Op.pick (Go.Operand.tmp 36) (Go.Operand.const (Go.Value.bool true)) (Go.Operand.tmp 46), type := 4, pos := "disk.go:39", after := #[{ on := 13, ground := Go.Ground.data }, { on := 23, ground := Go.Ground.data }], guard := none }) (v := ?_) rfl (by kernel_rfl) (by kernel_rfl) (by kernel_rfl) (fun _ _ _ h => h) (Or.inl ⟨by rfl, ?_⟩) (by assumption) ?_
  rotate_left 1
  · intro w hSw; (try dsimp only at hSw); go_simp; all_goals (with_reducible rfl)
  try simp only [Act.put, List.setIfInBounds_toArray, List.set_cons_zero, List.set_cons_succ]
  refine wpAnyH_done (by kernel_rfl) ?_ _
  have hfin : StPost base p ρ d w (.int .i64 2) (.returned (.int .i64 2)) w2 := ⟨rfl, ρ, ⟨s, n, vp, ps, by rw [HNowS.out]; exact H1.out.no hk2.out⟩, HBS1.out.2.trans (Fr.of_no hk2.out)⟩
  have HF := Hid_mk hfin
  clear hlk e4 HUsed hS2 hHeld hfin
  go_wp2
  go_ret
  exact HF.out

theorem append_full (w : World) (base p M : Nat) (ρ : Nat → Role) (d : DSt) (name : ByteArray) (vb : Value) (bs : List UInt8) (h : Dk w base p ρ d) (hok : DOk M d) (hM : M ≤ 1000000) (hstop : stopB d = false) (hname : nameB name = true) (hb : Bs w vb bs)
    (hvo : bs ≠ [] → ∀ x o m c, vb = .slice (some ⟨x, o, none⟩) m c → ρ x = .other) (hfull : d.room < (used d.now : Int) + (bs.length : Int)) (hbl : bs.length ≤ 1000000000000000) :
    Calls Tryz.prog 16 #[.pointer (some ⟨p, 0, none⟩), .string name, vb] w (StPost base p ρ (stopD d) w (.int .i64 2)) := by
  obtain ⟨s, n, vp, ps, h⟩ := h
  exact append_full_at w base p M ρ d d.now s n vp ps name vb bs h hok hM rfl hstop hname hb hvo hfull hbl

end Go.Proofs.YtmehneicdklfeaaGreat.dsk

namespace Go.Proofs.YtmehneicdklfeaaGreat.dsk
open Go.RowKit Go.Maps Go.Proofs.YtmehneicdklfeaaGreat.sum Go.Proofs.YtmehneicdklfeaaGreat.kept Go.Proofs.YtmehneicdklfeaaGreat.app Go.Proofs.YtmehneicdklfeaaGreat.writer Go.Proofs.YtmehneicdklfeaaGreat.clone Go.Proofs.YtmehneicdklfeaaGreat.unseal Go.Proofs.YtmehneicdklfeaaGreat.fs Go.Proofs.YtmehneicdklfeaaGreat.fsMem Go.Proofs.YtmehneicdklfeaaGreat.fsDo Go.Proofs.YtmehneicdklfeaaGreat.fsUsed Go.Proofs.YtmehneicdklfeaaGreat.turned
set_option linter.unusedVariables false

theorem Dk.stopped {w w1 : World} {base p : Nat} {ρ : Nat → Role} {d : DSt} {s n : Nat} {vp : Value} {ps : List (Change × Value)} (hp : ρ p = .disk) (h1 : DkAt w1 base p ρ (stopD d) d.now s n vp ps) (hk : Kp (fun k => k = p) w w1) : ∃ ρ', Dk w1 base p ρ' (stopD d) ∧ Fr ρ w ρ' w1 := by
  obtain ⟨e1, e2, e3⟩ := stop_same d
  have hnow : (stopD d).now = d.now := by unfold DSt.now; rw [e2, e3]
  rw [← hnow] at h1
  exact ⟨ρ, ⟨s, n, vp, ps, h1⟩, Fr.of_p hk hp⟩

set_option maxRecDepth 100000 in
set_option maxHeartbeats 1000000 in
theorem sync_down (w : World) (base p M : Nat) (ρ : Nat → Role) (d : DSt) (h : Dk w base p ρ d) (hok : DOk M d) (hstop : stopB d = true) :
    Calls Tryz.prog 18 #[.pointer (some ⟨p, 0, none⟩)] w (StPost base p ρ (stopD d) w (.int .i64 3)) := by
  obtain ⟨s, n, vp, ps, h⟩ := h
  have hst := stops_any w base p ρ d d.now s n vp ps h hok.fuse0 hok.fuse1
  rw [hstop] at hst
  have HP := Hid_mk h.rp
  have HSt := Hid_mk hst
  clear hst h hok hstop
  go_enter Tryz.func18, Tryz.ntmps18
  go_wp2_with fail
  with_reducible refine HSt.out.mono ?_
  rintro e w1 ⟨rfl, h1, hk1⟩
  have HF := Hid_mk (Dk.stopped HP.out h1 hk1)
  clear h1 hk1
  go_wp2
  go_ret
  exact ⟨rfl, HF.out⟩

set_option maxRecDepth 100000 in
set_option maxHeartbeats 1000000 in
theorem remove_down (w : World) (base p M : Nat) (ρ : Nat → Role) (d : DSt) (name : ByteArray) (h : Dk w base p ρ d) (hok : DOk M d) (hstop : stopB d = true) :
    Calls Tryz.prog 33 #[.pointer (some ⟨p, 0, none⟩), .string name] w (StPost base p ρ (stopD d) w (.int .i64 3)) := by
  obtain ⟨s, n, vp, ps, h⟩ := h
  have hst := stops_any w base p ρ d d.now s n vp ps h hok.fuse0 hok.fuse1
  rw [hstop] at hst
  have HP := Hid_mk h.rp
  have HSt := Hid_mk hst
  clear hst h hok hstop
  go_enter Tryz.func33, Tryz.ntmps33
  go_wp2_with fail
  with_reducible refine HSt.out.mono ?_
  rintro e w1 ⟨rfl, h1, hk1⟩
  have HF := Hid_mk (Dk.stopped HP.out h1 hk1)
  clear h1 hk1
  go_wp2
  go_ret
  exact ⟨rfl, HF.out⟩

set_option maxRecDepth 100000 in
set_option maxHeartbeats 1000000 in
theorem rename_down (w : World) (base p M : Nat) (ρ : Nat → Role) (d : DSt) (name to : ByteArray) (h : Dk w base p ρ d) (hok : DOk M d) (hstop : stopB d = true) :
    Calls Tryz.prog 35 #[.pointer (some ⟨p, 0, none⟩), .string name, .string to] w (StPost base p ρ (stopD d) w (.int .i64 3)) := by
  obtain ⟨s, n, vp, ps, h⟩ := h
  have hst := stops_any w base p ρ d d.now s n vp ps h hok.fuse0 hok.fuse1
  rw [hstop] at hst
  have HP := Hid_mk h.rp
  have HSt := Hid_mk hst
  clear hst h hok hstop
  go_enter Tryz.func35, Tryz.ntmps35
  go_wp2_with fail
  with_reducible refine HSt.out.mono ?_
  rintro e w1 ⟨rfl, h1, hk1⟩
  have HF := Hid_mk (Dk.stopped HP.out h1 hk1)
  clear h1 hk1
  go_wp2
  go_ret
  exact ⟨rfl, HF.out⟩

def truncC (name : ByteArray) (size : Nat) : Change := ⟨1, name, ⟨#[]⟩, [], size⟩
def renC (name to : ByteArray) : Change := ⟨2, name, to, [], 0⟩

set_option maxRecDepth 100000 in
set_option maxHeartbeats 2000000 in
theorem rename_bad (w : World) (base p M : Nat) (ρ : Nat → Role) (d : DSt) (name to : ByteArray) (h : Dk w base p ρ d) (hok : DOk M d) (hstop : stopB d = false) (hts : to.size ≤ maxLen) (hto : nameB to = false) :
    Calls Tryz.prog 35 #[.pointer (some ⟨p, 0, none⟩), .string name, .string to] w (StPost base p ρ (stopD d) w (.int .i64 1)) := by
  obtain ⟨s, n, vp, ps, h⟩ := h
  have hst := stops_any w base p ρ d d.now s n vp ps h hok.fuse0 hok.fuse1
  rw [hstop] at hst
  have HP := Hid_mk h.rp
  have HSt := Hid_mk hst
  have hnm := fun w => name_any w to hts
  rw [hto] at hnm
  have HNm := fun w => Hid_mk (hnm w)
  clear hst h hok hstop hnm hts
  go_enter Tryz.func35, Tryz.ntmps35
  go_wp2_with fail
  with_reducible refine HSt.out.mono ?_
  rintro e w1 ⟨rfl, h1, hk1⟩
  have HF := Hid_mk (Dk.stopped HP.out h1 hk1)
  clear h1 hk1
  go_wp2_with fail
  with_reducible refine (HNm _).out.mono ?_
  rintro e w' ⟨rfl, rfl⟩
  go_wp2
  go_ret
  exact ⟨rfl, HF.out⟩

set_option maxRecDepth 100000 in
set_option maxHeartbeats 2000000 in
theorem rename_none (w : World) (base p M : Nat) (ρ : Nat → Role) (d : DSt) (name to : ByteArray) (h : Dk w base p ρ d) (hok : DOk M d) (hstop : stopB d = false) (hns : name.size ≤ maxLen) (hto : nameB to = true) (hget : (fs.get d.now (nm name)).isSome = false) :
    Calls Tryz.prog 35 #[.pointer (some ⟨p, 0, none⟩), .string name, .string to] w (StPost base p ρ (stopD d) w (.int .i64 4)) := by
  obtain ⟨s, n, vp, ps, h⟩ := h
  have hst := stops_any w base p ρ d d.now s n vp ps h hok.fuse0 hok.fuse1
  rw [hstop] at hst
  have HP := Hid_mk h.rp
  have HSt := Hid_mk hst
  have HNs := Hid_mk hns
  have hts : to.size ≤ maxLen := by simp [nameB] at hto; unfold maxLen; omega
  have hnm := fun w => name_any w to hts
  rw [hto] at hnm
  have HNm := fun w => Hid_mk (hnm w)
  clear hst h hok hstop hnm hts
  go_enter Tryz.func35, Tryz.ntmps35
  go_wp2_with fail
  with_reducible refine HSt.out.mono ?_
  rintro e w1 ⟨rfl, h1, hk1⟩
  have c4 := h1.c4
  have HF := Hid_mk (Dk.stopped HP.out h1 hk1)
  obtain ⟨v, -, hlook⟩ := h1.now.look HNs.out
  have hlk := (hlook w1 (Kp.refl _ _)).2
  rw [hget] at hlk
  clear h1 hk1 hlook
  go_wp2_with fail
  with_reducible refine (HNm _).out.mono ?_
  rintro e w' ⟨rfl, rfl⟩
  go_wp2
  go_ret
  exact ⟨rfl, HF.out⟩

set_option maxRecDepth 100000 in
set_option maxHeartbeats 2000000 in
theorem rename_any (w : World) (base p M : Nat) (ρ : Nat → Role) (d : DSt) (name to : ByteArray) (h : Dk w base p ρ d) (hok : DOk M d) (hM : M ≤ 1000000) (hstop : stopB d = false) (hns : name.size ≤ maxLen) (hto : nameB to = true) (hget : (fs.get d.now (nm name)).isSome = true) :
    Calls Tryz.prog 35 #[.pointer (some ⟨p, 0, none⟩), .string name, .string to] w (StPost base p ρ { stopD d with cs := d.cs ++ [renC name to] } w (.int .i64 0)) := by
  obtain ⟨s, n, vp, ps, h⟩ := h
  have hst := stops_any w base p ρ d d.now s n vp ps h hok.fuse0 hok.fuse1
  rw [hstop] at hst
  obtain ⟨e1, e2, e3⟩ := stop_same d
  have hlenps : ps.length = d.cs.length := by rw [← h.cs, List.length_map]
  have hl1 : d.now.length ≤ M := Nat.le_trans (len_all hok.rising d.cs) hok.few
  have hts : to.size ≤ maxLen := by simp [nameB] at hto; unfold maxLen; omega
  have hfin : ∀ w1, Kp (fun k => k = p) w w1 → DkAt w1 base p ρ (stopD d) d.now s n vp ps → Calls Tryz.prog 48 #[.pointer (some ⟨p, 0, none⟩), chg (renC name to) (.slice none 0 0)] w1 (StPost base p ρ { stopD d with cs := d.cs ++ [renC name to] } w (.tuple #[])) := by
    intro w1 hk1 h1
    refine (change_any w1 base p ρ (stopD d) d.now s n vp ps (renC name to) (.slice none 0 0) h1 ⟨by show (2 : Nat) < 4; omega, fun e => by cases e⟩ ⟨none, 0, rfl, Nat.le_refl _, Nat.zero_le _, fun h => absurd rfl h⟩ (fun x o m cc e => by cases e) hns
      hts (by unfold maxLen; omega) (fun e => by cases e) (by have := hok.few; omega)).mono ?_
    rintro e w2 ⟨he, ρ2, s2, n2, vp2, ps2, h2, hfr⟩
    have e4 : doit d.now (renC name to) = ({ stopD d with cs := d.cs ++ [renC name to] } : DSt).now := by unfold DSt.now; simp only; rw [e2, all_snoc]
    rw [e3, e4] at h2
    exact ⟨he, ρ2, ⟨s2, n2, vp2, ps2, h2⟩, (Fr.of_p hk1 h.rp).trans hfr⟩
  have HSt := Hid_mk hst
  have HFin := Hid_mk hfin
  have HNs := Hid_mk hns
  have hnm := fun w => name_any w to hts
  rw [hto] at hnm
  have HNm := fun w => Hid_mk (hnm w)
  clear hst hfin h hok e1 e2 e3 hlenps hstop hl1 hnm hts
  go_enter Tryz.func35, Tryz.ntmps35
  go_wp2_with fail
  with_reducible refine HSt.out.mono ?_
  rintro e w1 ⟨rfl, h1, hk1⟩
  have c4 := h1.c4
  have HC := Hid_mk (HFin.out w1 hk1 h1)
  obtain ⟨v, -, hlook⟩ := h1.now.look HNs.out
  have hlk := (hlook w1 (Kp.refl _ _)).2
  rw [hget] at hlk
  unfold chg renC at HC
  simp only at HC
  clear h1 hk1 hlook
  go_wp2_with fail
  with_reducible refine (HNm _).out.mono ?_
  rintro e w' ⟨rfl, rfl⟩
  go_wp2_with fail
  refine HC.out.mono ?_
  rintro e w2 ⟨rfl, hex⟩
  have HEx := Hid_mk hex
  clear hex
  go_wp2
  go_ret
  exact ⟨rfl, HEx.out⟩

set_option maxRecDepth 100000 in
set_option maxHeartbeats 2000000 in
theorem append_bad (w : World) (base p M : Nat) (ρ : Nat → Role) (d : DSt) (name : ByteArray) (vb : Value) (h : Dk w base p ρ d) (hok : DOk M d) (hstop : stopB d = false) (hns : name.size ≤ maxLen) (hname : nameB name = false) :
    Calls Tryz.prog 16 #[.pointer (some ⟨p, 0, none⟩), .string name, vb] w (StPost base p ρ (stopD d) w (.int .i64 1)) := by
  obtain ⟨s, n, vp, ps, h⟩ := h
  have hst := stops_any w base p ρ d d.now s n vp ps h hok.fuse0 hok.fuse1
  rw [hstop] at hst
  have HP := Hid_mk h.rp
  have HSt := Hid_mk hst
  have hnm := fun w => name_any w name hns
  rw [hname] at hnm
  have HNm := fun w => Hid_mk (hnm w)
  clear hst h hok hstop hnm hns
  go_enter Tryz.func16, Tryz.ntmps16
  go_wp2_with fail
  with_reducible refine HSt.out.mono ?_
  rintro e w1 ⟨rfl, h1, hk1⟩
  have HF := Hid_mk (Dk.stopped HP.out h1 hk1)
  clear h1 hk1
  go_wp2_with fail
  with_reducible refine (HNm _).out.mono ?_
  rintro e w' ⟨rfl, rfl⟩
  go_wp2
  go_ret
  exact ⟨rfl, HF.out⟩

set_option maxRecDepth 100000 in
set_option maxHeartbeats 1000000 in
theorem room_no (w : World) (base p : Nat) (room : Int) (hno : roomB room = false) : Calls Tryz.prog 24 #[.pointer (some ⟨p, 0, none⟩), .int .i64 room] w fun e w' => e = .returned (.int .i64 1) ∧ w = w' := by
  have hr := fun w => room_any w room
  rw [hno] at hr
  have HR := fun w => Hid_mk (hr w)
  clear hr
  go_enter Tryz.func24, Tryz.ntmps24
  go_wp2_with fail
  with_reducible refine (HR _).out.mono ?_
  rintro e w' ⟨rfl, rfl⟩
  go_wp2
  go_ret
  exact ⟨rfl, rfl⟩

set_option maxRecDepth 100000 in
set_option maxHeartbeats 1000000 in
theorem read_down (w : World) (base p : Nat) (ρ : Nat → Role) (d : DSt) (name : ByteArray) (h : Dk w base p ρ d) (hd : d.down = true) : Calls Tryz.prog 27 #[.pointer (some ⟨p, 0, none⟩), .string name] w fun e w' => e = .returned (.tuple #[.slice none 0 0, .bool false]) ∧ w = w' := by
  obtain ⟨s, nn, vp, ps, h⟩ := h
  have c2 := h.c2
  rw [hd] at c2
  clear h hd
  go_enter Tryz.func27, Tryz.ntmps27
  go_wp2
  go_ret2
  exact ⟨rfl, rfl⟩

set_option maxRecDepth 100000 in
set_option maxHeartbeats 1000000 in
theorem used_down (w : World) (base p : Nat) (ρ : Nat → Role) (d : DSt) (h : Dk w base p ρ d) (hd : d.down = true) : Calls Tryz.prog 39 #[.pointer (some ⟨p, 0, none⟩)] w fun e w' => e = .returned (.int .i64 0) ∧ w = w' := by
  obtain ⟨s, nn, vp, ps, h⟩ := h
  have c2 := h.c2
  rw [hd] at c2
  clear h hd
  go_enter Tryz.func39, Tryz.ntmps39
  go_wp2
  go_ret
  exact ⟨rfl, rfl⟩


end Go.Proofs.YtmehneicdklfeaaGreat.dsk
