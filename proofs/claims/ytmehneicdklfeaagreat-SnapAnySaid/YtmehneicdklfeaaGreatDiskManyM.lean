/- Append refused for too many files; the room is set. The reference's Disk beside a disk of the project's: whose memory is whose. -/
import Derived.Test.YtmehneicdklfeaaGreatDiskFullM
import Derived.Test.YtmehneicdklfeaaGreatFsUsedM

namespace Go.Proofs.YtmehneicdklfeaaGreat.dsk
open Go.RowKit Go.Maps Go.Proofs.YtmehneicdklfeaaGreat.sum Go.Proofs.YtmehneicdklfeaaGreat.kept Go.Proofs.YtmehneicdklfeaaGreat.app Go.Proofs.YtmehneicdklfeaaGreat.writer Go.Proofs.YtmehneicdklfeaaGreat.clone Go.Proofs.YtmehneicdklfeaaGreat.unseal Go.Proofs.YtmehneicdklfeaaGreat.fs Go.Proofs.YtmehneicdklfeaaGreat.fsMem Go.Proofs.YtmehneicdklfeaaGreat.fsDo Go.Proofs.YtmehneicdklfeaaGreat.fsUsed Go.Proofs.YtmehneicdklfeaaGreat.turned
set_option linter.unusedVariables false

set_option maxRecDepth 100000 in
set_option maxHeartbeats 1000000 in
theorem set_room_any (w : World) (base p : Nat) (ρ : Nat → Role) (d : DSt) (r : Int) (h : Dk w base p ρ d) (hr : roomB r = true) : Calls Tryz.prog 24 #[.pointer (some ⟨p, 0, none⟩), .int .i64 r] w fun e w' => e = .returned (.int .i64 0) ∧ Dk w' base p ρ { d with room := r } ∧ Fr ρ w ρ w' := by
  obtain ⟨s, nn, vp, ps, h⟩ := h
  have c0 := h.c0
  have hw := h.warm
  have hw0 := h.warm 0
  have hfr : Fr ρ w ρ (w.setCell ⟨p, 0, none⟩ (.int .i64 r)) := Fr.of_p (kp_p _ _ _ _) h.rp
  have HF := Hid_mk (show Dk _ base p ρ { d with room := r } from ⟨s, nn, vp, ps, h.set_room r⟩)
  have hrm := fun w => dsk.room_any w r
  rw [hr] at hrm
  have HR := fun w => Hid_mk (hrm w)
  clear h hrm
  go_enter Tryz.func24, Tryz.ntmps24
  go_wp2_with fail
  with_reducible refine (HR _).out.mono ?_
  rintro e w' ⟨rfl, rfl⟩
  go_wp2
  go_ret
  exact ⟨rfl, HF.out, hfr⟩

set_option maxRecDepth 100000 in
set_option maxHeartbeats 4000000 in
theorem append_many_at (w : World) (base p M : Nat) (ρ : Nat → Role) (d0 : DSt) (nw : Files) (s n : Nat) (vp : Value) (ps : List (Change × Value)) (name : ByteArray) (vb : Value) (bs : List UInt8) (h0 : DkAt w base p ρ d0 nw s n vp ps) (hok : DOk M d0) (hM : M ≤ 1000000) (hnw : nw = d0.now)
    (hstop : stopB d0 = false) (hname : nameB name = true) (hb : Bs w vb bs) (hvo : bs ≠ [] → ∀ x o m c, vb = .slice (some ⟨x, o, none⟩) m c → ρ x = .other) (hroom : (used nw : Int) + (bs.length : Int) ≤ d0.room) (hget : (fs.get nw (nm name)).isSome = false) (hmany : 64 ≤ nw.length) :
    Calls Tryz.prog 16 #[.pointer (some ⟨p, 0, none⟩), .string name, vb] w (StPost base p ρ (stopD d0) w (.int .i64 2)) := by
  have hsd : (stopD d0).room = d0.room ∧ (stopD d0).syn = d0.syn ∧ (stopD d0).cs = d0.cs := by unfold stopD; split <;> (try split) <;> exact ⟨rfl, rfl, rfl⟩
  have hst := stops_any w base p ρ d0 nw s n vp ps h0 hok.fuse0 hok.fuse1
  have hns : name.size ≤ maxLen := by simp [nameB] at hname; unfold maxLen; omega
  have hnm := fun w => name_any w name hns
  rw [hname] at hnm
  rw [hstop] at hst
  have hlenps : ps.length = d0.cs.length := by rw [← h0.cs, List.length_map]
  have hfew0 := hok.few
  have hrise : Rising nw := h0.now.1
  have hl1 : nw.length ≤ M := by rw [hnw]; exact Nat.le_trans (len_all hok.rising d0.cs) hok.few
  have hu0 := used_all hok.rising d0.cs
  have hu1 : used nw ≤ 8388608000000 := by
    have h1 := hok.small
    have h2 : M * 8388608 ≤ 1000000 * 8388608 := Nat.mul_le_mul_right _ hM
    rw [hnw]
    unfold DSt.now
    omega
  obtain ⟨ab, cb, rfl, hcb1, hcb2, -⟩ := id hb
  unfold maxLen at hcb2
  have hlb : bs.length ≤ 8388608 := by have := hok.room1; omega
  have hol := get_len hrise (nm name)
  have HSt := Hid_mk hst
  have HNm := fun w => Hid_mk (hnm w)
  have hsum : IntKind.i64.wrap ((used nw : Int) + (bs.length : Int)) = (used nw : Int) + (bs.length : Int) := IntWalk.i64_in _ (by omega)
  have hdec : decide (d0.room < (used nw : Int) + (bs.length : Int)) = false := by simp; omega
  have hlen2 : decide (64 ≤ (nw.length : Int)) = true := by simp; omega
  have HBS : Hid (∀ w1, Kp (fun k => k = p) w w1 → Bs w1 (.slice ab bs.length cb) bs ∧ Fr ρ w ρ w1) := Hid_mk fun w1 hk => ⟨bs_keptE hb hk (fun hne b o m c e e2 => by
    have := hvo hne b o m c e
    rw [e2, h0.rp] at this
    cases this), ⟨hk.mono (fun k _ e => by rw [e, h0.rp]; simp), fun _ _ h => h⟩⟩
  have hroomd := hsd.1
  have hnowS : (stopD d0).now = d0.now := by unfold DSt.now; rw [hsd.2.1, hsd.2.2]
  have HNowS := Hid_mk (hnowS.trans hnw.symm)
  clear hb hvo hst hnm hok h0 hsd hroom hstop hnw hnowS hu0
  generalize hd : stopD d0 = d at *
  have HPs : Hid (ps.length ≤ 1000000000000) := Hid_mk (by omega)
  have HLen2 : Hid (nw.length < maxLen) := Hid_mk (by unfold maxLen; omega)
  have HHn := Hid_mk hns
  have hu2 : used nw ≤ 140737488355328 := by omega
  go_enter Tryz.func16, Tryz.ntmps16
  go_wp2_with fail
  refine HSt.out.mono ?_
  rintro e w1 ⟨rfl, h1, hk1⟩
  have H1 := Hid_mk h1
  have HBS1 := Hid_mk (HBS.out w1 hk1)
  obtain ⟨v, hrow, hlook⟩ := h1.now.look hns
  have hlk := (hlook w1 (Kp.refl _ _)).2
  rw [hget] at hlk
  have e4 := h1.c4
  have hS : ∀ W, Hid (Kp No w1 W) → W.cell? ⟨p, 4, none⟩ = some (.map (some n)) ∧ W.cell? ⟨p, 0, none⟩ = some (.int .i64 d0.room) ∧ Hid (Kp No w1 W) := fun W hW => ⟨hW.out.cell' h1.c4 id, hroomd ▸ hW.out.cell' h1.c0 id, hW⟩
  have HS := Hid_mk hS
  have hus : ∀ W, Hid (Kp No w1 W) → Calls Tryz.prog 47 #[.map (some n)] W fun e W' => e = .returned (.int .i64 (used nw : Int)) ∧ Hid (Kp No w1 W') := by
    intro W hW
    refine (used_any W base n (nOf ρ) nw (h1.no hW.out).now hu2).mono ?_
    rintro e W' ⟨rfl, hk⟩
    exact ⟨rfl, Hid_mk (hW.out.trans' hk)⟩
  have HUsed := Hid_mk hus
  clear h1 hk1 hrow hlook hS hus
  go_wp2_with fail
  refine (HNm _).out.mono ?_
  rintro e w' ⟨rfl, rfl⟩
  go_wp2
  refine wp_region_held_drew (S := (fun W => W.cell? ⟨p, 4, none⟩ = some (.map (some n)) ∧ W.cell? ⟨p, 0, none⟩ = some (.int .i64 d0.room) ∧ Hid (Kp No w1 W))) (by kernel_rfl) (HS.out _ (Hid_mk (Kp.refl No w1).drew)) (fun hHeld => ?_)
  refine wpAnyH_take (i := 0) (oi := { dst := some 23, op := Go.Op.move (Go.Operand.tmp 0), type := 23, pos := "disk.go:39", after := #[], guard := none }) (v := ?_) rfl (by kernel_rfl) (by kernel_rfl) (by kernel_rfl) (fun _ _ _ h => h) (Or.inl ⟨by rfl, ?_⟩) (by assumption) ?_
  rotate_left 1
  · intro w hSw; (try dsimp only at hSw); go_simp; all_goals (with_reducible rfl)
  try simp only [Act.put, List.setIfInBounds_toArray, List.set_cons_zero, List.set_cons_succ]
  refine wpAnyH_take (i := 1) (oi := { dst := some 24, op := Go.Op.nilCheck (Go.Operand.tmp 23), type := 0, pos := "disk.go:39", after := #[{ on := 0, ground := Go.Ground.data }], guard := none }) (v := ?_) rfl (by kernel_rfl) (by kernel_rfl) (by kernel_rfl) (fun _ _ _ h => h) (Or.inl ⟨by rfl, ?_⟩) (by assumption) ?_
  rotate_left 1
  · intro w hSw; (try dsimp only at hSw); go_simp; all_goals (with_reducible rfl)
  try simp only [Act.put, List.setIfInBounds_toArray, List.set_cons_zero, List.set_cons_succ]
  refine wpAnyH_take (i := 2) (oi := { dst := some 25, op := Go.Op.fieldAddr 76 (Go.Operand.tmp 24) 4, type := 0, pos := "disk.go:39", after := #[{ on := 1, ground := Go.Ground.data }], guard := none }) (v := ?_) rfl (by kernel_rfl) (by kernel_rfl) (by kernel_rfl) (fun _ _ _ h => h) (Or.inl ⟨by rfl, ?_⟩) (by assumption) ?_
  rotate_left 1
  · intro w hSw; (try dsimp only at hSw); go_simp; all_goals (with_reducible rfl)
  try simp only [Act.put, List.setIfInBounds_toArray, List.set_cons_zero, List.set_cons_succ]
  refine wpAnyH_take (i := 3) (oi := { dst := some 26, op := Go.Op.load 73 (Go.Operand.tmp 25), type := 73, pos := "disk.go:39", after := #[{ on := 2, ground := Go.Ground.data }], guard := none }) (v := ?_) rfl (by kernel_rfl) (by kernel_rfl) (by kernel_rfl) (fun _ _ _ h => h) (Or.inl ⟨by rfl, ?_⟩) (by assumption) ?_
  rotate_left 1
  · intro w hSw; (try dsimp only at hSw); go_simp; all_goals (with_reducible rfl)
  try simp only [Act.put, List.setIfInBounds_toArray, List.set_cons_zero, List.set_cons_succ]
  refine wpAnyH_take (i := 5) (oi := { dst := some 28, op := Go.Op.move (Go.Operand.tmp 2), type := 29, pos := "disk.go:39", after := #[], guard := none }) (v := ?_) rfl (by kernel_rfl) (by kernel_rfl) (by kernel_rfl) (fun _ _ _ h => h) (Or.inl ⟨by rfl, ?_⟩) (by assumption) ?_
  rotate_left 1
  · intro w hSw; (try dsimp only at hSw); go_simp; all_goals (with_reducible rfl)
  try simp only [Act.put, List.setIfInBounds_toArray, List.set_cons_zero, List.set_cons_succ]
  refine wpAnyH_take (i := 6) (oi := { dst := some 29, op := Go.Op.call { callee := Go.Callee.builtin Go.Builtin.len, args := #[Go.Operand.tmp 28], argTypes := #[29] }, type := 3, pos := "disk.go:39", after := #[{ on := 5, ground := Go.Ground.data }], guard := none }) (v := ?_) rfl (by kernel_rfl) (by kernel_rfl) (by kernel_rfl) (fun _ _ _ h => h) (Or.inl ⟨by rfl, ?_⟩) (by assumption) ?_
  rotate_left 1
  · intro w hSw; (try dsimp only at hSw); go_simp; all_goals (with_reducible rfl)
  try simp only [Act.put, List.setIfInBounds_toArray, List.set_cons_zero, List.set_cons_succ]
  refine wpAnyH_take (i := 8) (oi := { dst := some 31, op := Go.Op.move (Go.Operand.tmp 0), type := 23, pos := "disk.go:39", after := #[], guard := none }) (v := ?_) rfl (by kernel_rfl) (by kernel_rfl) (by kernel_rfl) (fun _ _ _ h => h) (Or.inl ⟨by rfl, ?_⟩) (by assumption) ?_
  rotate_left 1
  · intro w hSw; (try dsimp only at hSw); go_simp; all_goals (with_reducible rfl)
  try simp only [Act.put, List.setIfInBounds_toArray, List.set_cons_zero, List.set_cons_succ]
  refine wpAnyH_take (i := 9) (oi := { dst := some 32, op := Go.Op.nilCheck (Go.Operand.tmp 31), type := 0, pos := "disk.go:39", after := #[{ on := 8, ground := Go.Ground.data }], guard := none }) (v := ?_) rfl (by kernel_rfl) (by kernel_rfl) (by kernel_rfl) (fun _ _ _ h => h) (Or.inl ⟨by rfl, ?_⟩) (by assumption) ?_
  rotate_left 1
  · intro w hSw; (try dsimp only at hSw); go_simp; all_goals (with_reducible rfl)
  try simp only [Act.put, List.setIfInBounds_toArray, List.set_cons_zero, List.set_cons_succ]
  refine wpAnyH_take (i := 10) (oi := { dst := some 33, op := Go.Op.fieldAddr 76 (Go.Operand.tmp 32) 0, type := 0, pos := "disk.go:39", after := #[{ on := 9, ground := Go.Ground.data }], guard := none }) (v := ?_) rfl (by kernel_rfl) (by kernel_rfl) (by kernel_rfl) (fun _ _ _ h => h) (Or.inl ⟨by rfl, ?_⟩) (by assumption) ?_
  rotate_left 1
  · intro w hSw; (try dsimp only at hSw); go_simp; all_goals (with_reducible rfl)
  try simp only [Act.put, List.setIfInBounds_toArray, List.set_cons_zero, List.set_cons_succ]
  refine wpAnyH_take (i := 11) (oi := { dst := some 34, op := Go.Op.load 3 (Go.Operand.tmp 33), type := 3, pos := "disk.go:39", after := #[{ on := 10, ground := Go.Ground.data }], guard := none }) (v := ?_) rfl (by kernel_rfl) (by kernel_rfl) (by kernel_rfl) (fun _ _ _ h => h) (Or.inl ⟨by rfl, ?_⟩) (by assumption) ?_
  rotate_left 1
  · intro w hSw; (try dsimp only at hSw); go_simp; all_goals (with_reducible rfl)
  try simp only [Act.put, List.setIfInBounds_toArray, List.set_cons_zero, List.set_cons_succ]
  refine wpAnyH_ready (rs := [4]) (by kernel_rfl) (by simp) ?_
  refine AllReadyH.cons (o := { dst := some 27, op := Go.Op.call { callee := Go.Callee.value (Go.Operand.func 47), args := #[Go.Operand.tmp 26], argTypes := #[73] }, type := 3, pos := "disk.go:39", after := #[{ on := 3, ground := Go.Ground.data }], guard := none }) rfl (fun K hK => ?_) AllReadyH.nil
  go_simp
  (with_reducible refine (HUsed.out _ (Hid_mk (Kp.refl No w1).drew)).mono ?_)
  rintro e w2 ⟨rfl, hk2⟩
  have hS2 := HS.out w2 hk2
  refine hK.out _ _ hS2 (fun hHeld => ?_)
  clear hK K
  try simp only [Act.put, List.setIfInBounds_toArray, List.set_cons_zero, List.set_cons_succ]
  refine wpAnyH_take (i := 7) (oi := { dst := some 30, op := Go.Op.binOp Go.BinOp.add 3 (Go.Operand.tmp 27) (Go.Operand.tmp 29) 3, type := 3, pos := "disk.go:39", after := #[{ on := 4, ground := Go.Ground.data }, { on := 6, ground := Go.Ground.data }], guard := none }) (v := ?_) rfl (by kernel_rfl) (by kernel_rfl) (by kernel_rfl) (fun _ _ _ h => h) (Or.inl ⟨by rfl, ?_⟩) (by assumption) ?_
  rotate_left 1
  · intro w hSw; (try dsimp only at hSw); go_simp; all_goals (with_reducible rfl)
  try simp only [Act.put, List.setIfInBounds_toArray, List.set_cons_zero, List.set_cons_succ]
  refine wpAnyH_take (i := 12) (oi := { dst := some 35, op := Go.Op.binOp Go.BinOp.gtr 3 (Go.Operand.tmp 30) (Go.Operand.tmp 34) 3, type := 4, pos := "disk.go:39", after := #[{ on := 7, ground := Go.Ground.data }, { on := 11, ground := Go.Ground.data }], guard := none }) (v := ?_) rfl (by kernel_rfl) (by kernel_rfl) (by kernel_rfl) (fun _ _ _ h => h) (Or.inl ⟨by rfl, ?_⟩) (by assumption) ?_
  rotate_left 1
  · intro w hSw; (try dsimp only at hSw); go_simp; all_goals (with_reducible rfl)
  try simp only [Act.put, List.setIfInBounds_toArray, List.set_cons_zero, List.set_cons_succ]
  refine wpAnyH_take (i := 13) (oi := { dst := some 36, op := Go.Op.move (Go.Operand.tmp 35), type := 4, pos := "disk.go:39", after := #[{ on := 12, ground := Go.Ground.data }, { on := 4, ground := Go.Ground.chain }], guard := none }) (v := ?_) rfl (by kernel_rfl) (by kernel_rfl) (by kernel_rfl) (fun _ _ _ h => h) (Or.inl ⟨by rfl, ?_⟩) (by assumption) ?_
  rotate_left 1
  · intro w hSw; (try dsimp only at hSw); go_simp; all_goals (with_reducible rfl)
  try simp only [Act.put, List.setIfInBounds_toArray, List.set_cons_zero, List.set_cons_succ]
  refine wpAnyH_take (i := 14) (oi := { dst := some 37, op := Go.Op.move (Go.Operand.tmp 8), type := 4, pos := "disk.go:39", after := #[{ on := 13, ground := Go.Ground.guard }], guard := some (13, false) }) (v := ?_) rfl (by kernel_rfl) (by kernel_rfl) (by kernel_rfl) (fun _ _ _ h => h) (Or.inl ⟨by rfl, ?_⟩) (by assumption) ?_
  rotate_left 1
  · intro w hSw; (try dsimp only at hSw); go_simp; all_goals (with_reducible rfl)
  try simp only [Act.put, List.setIfInBounds_toArray, List.set_cons_zero, List.set_cons_succ]
  refine wpAnyH_take (i := 15) (oi := { dst := some 38, op := Go.Op.unOp Go.UnOp.not 4 (Go.Operand.tmp 37), type := 4, pos := "disk.go:39", after := #[{ on := 14, ground := Go.Ground.data }, { on := 13, ground := Go.Ground.guard }], guard := some (13, false) }) (v := ?_) rfl (by kernel_rfl) (by kernel_rfl) (by kernel_rfl) (fun _ _ _ h => h) (Or.inl ⟨by rfl, ?_⟩) (by assumption) ?_
  rotate_left 1
  · intro w hSw; (try dsimp only at hSw); go_simp; all_goals (with_reducible rfl)
  try simp only [Act.put, List.setIfInBounds_toArray, List.set_cons_zero, List.set_cons_succ]
  refine wpAnyH_take (i := 16) (oi := { dst := some 39, op := Go.Op.move (Go.Operand.tmp 38), type := 4, pos := "disk.go:39", after := #[{ on := 15, ground := Go.Ground.data }, { on := 13, ground := Go.Ground.chain }, { on := 13, ground := Go.Ground.guard }], guard := some (13, false) }) (v := ?_) rfl (by kernel_rfl) (by kernel_rfl) (by kernel_rfl) (fun _ _ _ h => h) (Or.inl ⟨by rfl, ?_⟩) (by assumption) ?_
  rotate_left 1
  · intro w hSw; (try dsimp only at hSw); go_simp; all_goals (with_reducible rfl)
  try simp only [Act.put, List.setIfInBounds_toArray, List.set_cons_zero, List.set_cons_succ]
  refine wpAnyH_take (i := 17) (oi := { dst := some 40, op := Go.Op.move (Go.Operand.tmp 0), type := 23, pos := "disk.go:39", after := #[{ on := 16, ground := Go.Ground.guard }], guard := some (16, true) }) (v := ?_) rfl (by kernel_rfl) (by kernel_rfl) (by kernel_rfl) (fun _ _ _ h => h) (Or.inl ⟨by rfl, ?_⟩) (by assumption) ?_
  rotate_left 1
  · intro w hSw; (try dsimp only at hSw); go_simp; all_goals (with_reducible rfl)
  try simp only [Act.put, List.setIfInBounds_toArray, List.set_cons_zero, List.set_cons_succ]
  refine wpAnyH_take (i := 18) (oi := { dst := some 41, op := Go.Op.nilCheck (Go.Operand.tmp 40), type := 0, pos := "disk.go:39", after := #[{ on := 17, ground := Go.Ground.data }, { on := 16, ground := Go.Ground.guard }], guard := some (16, true) }) (v := ?_) rfl (by kernel_rfl) (by kernel_rfl) (by kernel_rfl) (fun _ _ _ h => h) (Or.inl ⟨by rfl, ?_⟩) (by assumption) ?_
  rotate_left 1
  · intro w hSw; (try dsimp only at hSw); go_simp; all_goals (with_reducible rfl)
  try simp only [Act.put, List.setIfInBounds_toArray, List.set_cons_zero, List.set_cons_succ]
  refine wpAnyH_take (i := 19) (oi := { dst := some 42, op := Go.Op.fieldAddr 76 (Go.Operand.tmp 41) 4, type := 0, pos := "disk.go:39", after := #[{ on := 18, ground := Go.Ground.data }, { on := 16, ground := Go.Ground.guard }], guard := some (16, true) }) (v := ?_) rfl (by kernel_rfl) (by kernel_rfl) (by kernel_rfl) (fun _ _ _ h => h) (Or.inl ⟨by rfl, ?_⟩) (by assumption) ?_
  rotate_left 1
  · intro w hSw; (try dsimp only at hSw); go_simp; all_goals (with_reducible rfl)
  try simp only [Act.put, List.setIfInBounds_toArray, List.set_cons_zero, List.set_cons_succ]
  refine wpAnyH_take (i := 20) (oi := { dst := some 43, op := Go.Op.load 73 (Go.Operand.tmp 42), type := 73, pos := "disk.go:39", after := #[{ on := 19, ground := Go.Ground.data }, { on := 16, ground := Go.Ground.guard }], guard := some (16, true) }) (v := ?_) rfl (by kernel_rfl) (by kernel_rfl) (by kernel_rfl) (fun _ _ _ h => h) (Or.inl ⟨by rfl, ?_⟩) (by assumption) ?_
  rotate_left 1
  · intro w hSw; (try dsimp only at hSw); go_simp; all_goals (with_reducible rfl)
  try simp only [Act.put, List.setIfInBounds_toArray, List.set_cons_zero, List.set_cons_succ]
  refine wpAnyH_take (i := 21) (oi := { dst := some 44, op := Go.Op.call { callee := Go.Callee.builtin Go.Builtin.len, args := #[Go.Operand.tmp 43], argTypes := #[73] }, type := 3, pos := "disk.go:39", after := #[{ on := 20, ground := Go.Ground.data }, { on := 16, ground := Go.Ground.chain }, { on := 16, ground := Go.Ground.guard }], guard := some (16, true) }) (v := .int .i64 (nw.length : Int)) rfl (by kernel_rfl) (by kernel_rfl) (by kernel_rfl) (fun _ _ _ h => h) (Or.inl ⟨by rfl, fun W hSw => H1.out.len (Operand.tmp 43) rfl rfl W hSw.2.2.out⟩) (by assumption) ?_
  try simp only [Act.put, List.setIfInBounds_toArray, List.set_cons_zero, List.set_cons_succ]
  refine wpAnyH_take (i := 22) (oi := { dst := some 45, op := Go.Op.binOp Go.BinOp.geq 3 (Go.Operand.tmp 44) (Go.Operand.const (Go.Value.int Go.IntKind.i64 64)) 3, type := 4, pos := "disk.go:39", after := #[{ on := 21, ground := Go.Ground.data }, { on := 16, ground := Go.Ground.guard }], guard := some (16, true) }) (v := ?_) rfl (by kernel_rfl) (by kernel_rfl) (by kernel_rfl) (fun _ _ _ h => h) (Or.inl ⟨by rfl, ?_⟩) (by assumption) ?_
  rotate_left 1
  · intro w hSw; (try dsimp only at hSw); go_simp; all_goals (with_reducible rfl)
  try simp only [Act.put, List.setIfInBounds_toArray, List.set_cons_zero, List.set_cons_succ]
  refine wpAnyH_take (i := 23) (oi := { dst := some 46, op := Go.Op.pick (Go.Operand.tmp 39) (Go.Operand.tmp 45) (Go.Operand.const (Go.Value.bool false)), type := 4, pos := "disk.go:39", after := #[{ on := 16, ground := Go.Ground.data }, { on := 22, ground := Go.Ground.data }, { on := 13, ground := Go.Ground.guard }], guard := some (13, false) }) (v := ?_) rfl (by kernel_rfl) (by kernel_rfl) (by kernel_rfl) (fun _ _ _ h => h) (Or.inl ⟨by rfl, ?_⟩) (by assumption) ?_
  rotate_left 1
  · intro w hSw; (try dsimp only at hSw); go_simp; all_goals (with_reducible rfl)
  try simp only [Act.put, List.setIfInBounds_toArray, List.set_cons_zero, List.set_cons_succ]
  refine wpAnyH_take (i := 24) (oi := { dst := some 47, op := Go.Op.pick (Go.Operand.tmp 36) (Go.Operand.const (Go.Value.bool true)) (Go.Operand.tmp 46), type := 4, pos := "disk.go:39", after := #[{ on := 13, ground := Go.Ground.data }, { on := 23, ground := Go.Ground.data }], guard := none }) (v := ?_) rfl (by kernel_rfl) (by kernel_rfl) (by kernel_rfl) (fun _ _ _ h => h) (Or.inl ⟨by rfl, ?_⟩) (by assumption) ?_
  rotate_left 1
  · intro w hSw; (try dsimp only at hSw); go_simp; all_goals (with_reducible rfl)
  try simp only [Act.put, List.setIfInBounds_toArray, List.set_cons_zero, List.set_cons_succ]
  refine wpAnyH_done (by kernel_rfl) ?_ _
  have hfin : StPost base p ρ d w (.int .i64 2) (.returned (.int .i64 2)) w2 := ⟨rfl, ρ, ⟨s, n, vp, ps, by rw [HNowS.out]; exact H1.out.no hk2.out⟩, HBS1.out.2.trans (Fr.of_no hk2.out)⟩
  have HF := Hid_mk hfin
  clear hlk e4 HUsed hS2 hHeld hfin
  go_wp2
  go_ret
  exact HF.out

theorem append_many (w : World) (base p M : Nat) (ρ : Nat → Role) (d : DSt) (name : ByteArray) (vb : Value) (bs : List UInt8) (h : Dk w base p ρ d) (hok : DOk M d) (hM : M ≤ 1000000) (hstop : stopB d = false) (hname : nameB name = true) (hb : Bs w vb bs)
    (hvo : bs ≠ [] → ∀ x o m c, vb = .slice (some ⟨x, o, none⟩) m c → ρ x = .other) (hroom : (used d.now : Int) + (bs.length : Int) ≤ d.room) (hget : (fs.get d.now (nm name)).isSome = false) (hmany : 64 ≤ d.now.length) :
    Calls Tryz.prog 16 #[.pointer (some ⟨p, 0, none⟩), .string name, vb] w (StPost base p ρ (stopD d) w (.int .i64 2)) := by
  obtain ⟨s, n, vp, ps, h⟩ := h
  exact append_many_at w base p M ρ d d.now s n vp ps name vb bs h hok hM rfl hstop hname hb hvo hroom hget hmany

end Go.Proofs.YtmehneicdklfeaaGreat.dsk

namespace Go.Proofs.YtmehneicdklfeaaGreat.r2
open Go.RowKit Go.Maps Go.Proofs.YtmehneicdklfeaaGreat.sum Go.Proofs.YtmehneicdklfeaaGreat.kept Go.Proofs.YtmehneicdklfeaaGreat.app Go.Proofs.YtmehneicdklfeaaGreat.writer Go.Proofs.YtmehneicdklfeaaGreat.clone Go.Proofs.YtmehneicdklfeaaGreat.fs Go.Proofs.YtmehneicdklfeaaGreat.fsDo Go.Proofs.YtmehneicdklfeaaGreat.unseal Go.Proofs.YtmehneicdklfeaaGreat.dsk
set_option linter.unusedVariables false

/-- a slice that lies in nobody's block, which is not r -/
def Aw (w : World) (ρ : Nat → Role) (r : Nat) (v : Value) : Prop := ∀ x o m c, v = .slice (some ⟨x, o, none⟩) m c → ρ x = .other ∧ x ≠ r ∧ x < w.heap.size
theorem Aw.up {w w' : World} {ρ ρ' : Nat → Role} {r : Nat} {v : Value} (h : Aw w ρ r v) (hs : w.heap.size ≤ w'.heap.size) (hρ : ∀ k, k < w.heap.size → ρ k = .other → ρ' k = .other) : Aw w' ρ' r v := fun x o m c e => by
  obtain ⟨h1, h2, h3⟩ := h x o m c e
  exact ⟨hρ x h3 h1, h2, by omega⟩
theorem Aw.nil (w : World) (ρ : Nat → Role) (r n c : Nat) : Aw w ρ r (.slice none n c) := fun x o m c e => by cases e

/-- what waits -/
def Wt (w : World) (v : Value) (ps : List (Change × Value)) : Prop := w.ownsRow 0 84 5 v ps.length (ps.flatMap chgList) ∧ ∀ q ∈ ps, Bs w q.2 q.1.bytes
theorem Wt.nil (w : World) : Wt w (.slice none 0 0) [] := ⟨World.ownsRow_nil _ _ _ _, fun q hq => by cases hq⟩

theorem owns_kept2 {S : Nat → Prop} {w w' : World} {base : Nat} {e : TypeId} {size : Nat} {v : Value} {n : Nat} {xs : List Value} (h : w.ownsRow base e size v n xs) (hk : Kp S w w') (hn : ∀ x o m c, v = .slice (some ⟨x, o, none⟩) m c → ¬ S x) : w'.ownsRow base e size v n xs := by
  refine owns_kept h hk fun k e2 => ?_
  rcases owns_any h with ⟨rfl, -⟩ | ⟨g, cap, rfl, -⟩
  · simp [Value.ownBlock] at e2
  · simp [Value.ownBlock] at e2
    subst e2
    exact hn _ _ _ _ rfl
theorem Fl.kept {S : Nat → Prop} {w w' : World} {v : Value} {l : List Fv} (h : Fl w v l) (hk : Kp S w w') (hv : ∀ x o m c, v = .slice (some ⟨x, o, none⟩) m c → ¬ S x) (hq : ∀ q ∈ l, q.2.2 ≠ [] → ∀ x o m c, q.2.1 = .slice (some ⟨x, o, none⟩) m c → ¬ S x) : Fl w' v l :=
  ⟨owns_kept2 h.1 hk hv, fun q hm => bs_keptE (h.2 q hm) hk (hq q hm)⟩
theorem Wt.kept {S : Nat → Prop} {w w' : World} {v : Value} {l : List (Change × Value)} (h : Wt w v l) (hk : Kp S w w') (hv : ∀ x o m c, v = .slice (some ⟨x, o, none⟩) m c → ¬ S x) (hq : ∀ q ∈ l, q.1.bytes ≠ [] → ∀ x o m c, q.2 = .slice (some ⟨x, o, none⟩) m c → ¬ S x) : Wt w' v l :=
  ⟨owns_kept2 h.1 hk hv, fun q hm => bs_keptE (h.2 q hm) hk (hq q hm)⟩

structure RS (w : World) (ρ : Nat → Role) (r : Nat) (x : RSt) (vs vn vw : Value) (ls ln : List Fv) (ps : List (Change × Value)) : Prop where
  at_ : RAt w r x vs vn vw
  fs : Fl w vs ls
  fn : Fl w vn ln
  fw : Wt w vw ps
  r0 : ρ r = .other
  sa : Aw w ρ r vs
  na : Aw w ρ r vn
  wa : Aw w ρ r vw
  bs : ∀ q ∈ ls, q.2.2 ≠ [] → Aw w ρ r q.2.1
  bn : ∀ q ∈ ln, q.2.2 ≠ [] → Aw w ρ r q.2.1
  bw : ∀ q ∈ ps, q.1.bytes ≠ [] → Aw w ρ r q.2

theorem RAt.kept {S : Nat → Prop} {w w' : World} {r : Nat} {x : RSt} {vs vn vw : Value} (h : RAt w r x vs vn vw) (hk : Kp S w w') (hr : ¬ S r) : RAt w' r x vs vn vw :=
  ⟨hk.cell' h.c0 hr, hk.cell' h.c1 hr, hk.cell' h.c2 hr, hk.cell' h.c3 hr, hk.cell' h.c4 hr, hk.cell' h.c5 hr, hk.cell' h.c6 hr, fun o => (hk.frozen (p := ⟨r, o, none⟩) h.lt hr).trans (h.warm o), Nat.lt_of_lt_of_le h.lt hk.size⟩

section
variable {w w' : World} {ρ ρ' : Nat → Role} {r : Nat} {x x' : RSt} {vs vn vw vs' vn' vw' : Value} {ls ln ls' ln' : List Fv} {ps ps' : List (Change × Value)}

/-- memory turns that is not the reference's -/
theorem RS.kept {S : Nat → Prop} (h : RS w ρ r x vs vn vw ls ln ps) (hk : Kp S w w') (hS : ∀ k, k < w.heap.size → S k → ρ k ≠ .other) (hρ : ∀ k, k < w.heap.size → ρ k = .other → ρ' k = .other) : RS w' ρ' r x vs vn vw ls ln ps := by
  have no : ∀ {v : Value}, Aw w ρ r v → ∀ x o m c, v = .slice (some ⟨x, o, none⟩) m c → ¬ S x := fun ha x o m c e hs => by
    obtain ⟨h1, -, h3⟩ := ha x o m c e
    exact hS x h3 hs h1
  have hz := hk.size
  exact ⟨h.at_.kept hk fun hs => hS r h.at_.lt hs h.r0, h.fs.kept hk (no h.sa) fun q hq hb => no (h.bs q hq hb), h.fn.kept hk (no h.na) fun q hq hb => no (h.bn q hq hb), h.fw.kept hk (no h.wa) fun q hq hb => no (h.bw q hq hb),
    hρ r h.at_.lt h.r0, h.sa.up hz hρ, h.na.up hz hρ, h.wa.up hz hρ, fun q hq hb => (h.bs q hq hb).up hz hρ, fun q hq hb => (h.bn q hq hb).up hz hρ, fun q hq hb => (h.bw q hq hb).up hz hρ⟩
theorem RS.no (h : RS w ρ r x vs vn vw ls ln ps) (hk : Kp No w w') : RS w' ρ r x vs vn vw ls ln ps := h.kept hk (fun _ _ s => s.elim) fun _ _ e => e
theorem RS.fr (h : RS w ρ r x vs vn vw ls ln ps) (hf : Fr ρ w ρ' w') : RS w' ρ' r x vs vn vw ls ln ps := h.kept hf.1 (fun _ _ s => s) hf.2

/-- the reference's own block turns -/
theorem RS.own (h : RS w ρ r x vs vn vw ls ln ps) (hk : Kp (fun k => k = r) w w') (ha : RAt w' r x' vs vn vw) : RS w' ρ r x' vs vn vw ls ln ps := by
  have no : ∀ {v : Value}, Aw w ρ r v → ∀ x o m c, v = .slice (some ⟨x, o, none⟩) m c → ¬ (x = r) := fun ha x o m c e hs => (ha x o m c e).2.1 hs
  have hz := hk.size
  have hρ : ∀ k, k < w.heap.size → ρ k = .other → ρ k = .other := fun _ _ e => e
  exact ⟨ha, h.fs.kept hk (no h.sa) fun q hq hb => no (h.bs q hq hb), h.fn.kept hk (no h.na) fun q hq hb => no (h.bn q hq hb), h.fw.kept hk (no h.wa) fun q hq hb => no (h.bw q hq hb),
    h.r0, h.sa.up hz hρ, h.na.up hz hρ, h.wa.up hz hρ, fun q hq hb => (h.bs q hq hb).up hz hρ, fun q hq hb => (h.bn q hq hb).up hz hρ, fun q hq hb => (h.bw q hq hb).up hz hρ⟩

/-- other lists stand in the block -/
theorem RS.put_now (h : RS w ρ r x vs vn vw ls ln ps) (hf : Fl w vn' ln') (ha : Aw w ρ r vn') (hb : ∀ q ∈ ln', q.2.2 ≠ [] → Aw w ρ r q.2.1) (hk : Kp (fun k => k = r) w w') (hat : RAt w' r x' vs vn' vw) : RS w' ρ r x' vs vn' vw ls ln' ps := by
  have h2 : RS w ρ r x vs vn' vw ls ln' ps → RS w' ρ r x' vs vn' vw ls ln' ps := fun h => h.own hk hat
  have no : ∀ {v : Value}, Aw w ρ r v → ∀ x o m c, v = .slice (some ⟨x, o, none⟩) m c → ¬ (x = r) := fun ha x o m c e hs => (ha x o m c e).2.1 hs
  have hz := hk.size
  have hρ : ∀ k, k < w.heap.size → ρ k = .other → ρ k = .other := fun _ _ e => e
  exact ⟨hat, h.fs.kept hk (no h.sa) fun q hq hb => no (h.bs q hq hb), hf.kept hk (no ha) fun q hq hb2 => no (hb q hq hb2), h.fw.kept hk (no h.wa) fun q hq hb => no (h.bw q hq hb),
    h.r0, h.sa.up hz hρ, ha.up hz hρ, h.wa.up hz hρ, fun q hq hb => (h.bs q hq hb).up hz hρ, fun q hq hb2 => (hb q hq hb2).up hz hρ, fun q hq hb => (h.bw q hq hb).up hz hρ⟩
theorem RS.put_wait (h : RS w ρ r x vs vn vw ls ln ps) (hf : Wt w vw' ps') (ha : Aw w ρ r vw') (hb : ∀ q ∈ ps', q.1.bytes ≠ [] → Aw w ρ r q.2) (hk : Kp (fun k => k = r) w w') (hat : RAt w' r x' vs vn vw') : RS w' ρ r x' vs vn vw' ls ln ps' := by
  have no : ∀ {v : Value}, Aw w ρ r v → ∀ x o m c, v = .slice (some ⟨x, o, none⟩) m c → ¬ (x = r) := fun ha x o m c e hs => (ha x o m c e).2.1 hs
  have hz := hk.size
  have hρ : ∀ k, k < w.heap.size → ρ k = .other → ρ k = .other := fun _ _ e => e
  exact ⟨hat, h.fs.kept hk (no h.sa) fun q hq hb => no (h.bs q hq hb), h.fn.kept hk (no h.na) fun q hq hb => no (h.bn q hq hb), hf.kept hk (no ha) fun q hq hb2 => no (hb q hq hb2),
    h.r0, h.sa.up hz hρ, h.na.up hz hρ, ha.up hz hρ, fun q hq hb => (h.bs q hq hb).up hz hρ, fun q hq hb => (h.bn q hq hb).up hz hρ, fun q hq hb2 => (hb q hq hb2).up hz hρ⟩
theorem RS.put_syn (h : RS w ρ r x vs vn vw ls ln ps) (hf : Fl w vs' ls') (ha : Aw w ρ r vs') (hb : ∀ q ∈ ls', q.2.2 ≠ [] → Aw w ρ r q.2.1) (hk : Kp (fun k => k = r) w w') (hat : RAt w' r x' vs' vn vw) : RS w' ρ r x' vs' vn vw ls' ln ps := by
  have no : ∀ {v : Value}, Aw w ρ r v → ∀ x o m c, v = .slice (some ⟨x, o, none⟩) m c → ¬ (x = r) := fun ha x o m c e hs => (ha x o m c e).2.1 hs
  have hz := hk.size
  have hρ : ∀ k, k < w.heap.size → ρ k = .other → ρ k = .other := fun _ _ e => e
  exact ⟨hat, hf.kept hk (no ha) fun q hq hb2 => no (hb q hq hb2), h.fn.kept hk (no h.na) fun q hq hb => no (h.bn q hq hb), h.fw.kept hk (no h.wa) fun q hq hb => no (h.bw q hq hb),
    h.r0, ha.up hz hρ, h.na.up hz hρ, h.wa.up hz hρ, fun q hq hb2 => (hb q hq hb2).up hz hρ, fun q hq hb => (h.bn q hq hb).up hz hρ, fun q hq hb => (h.bw q hq hb).up hz hρ⟩
end

theorem bs_lt {w : World} {v : Value} {bs : List UInt8} (h : Bs w v bs) (hne : bs ≠ []) {x o m c : Nat} (e : v = .slice (some ⟨x, o, none⟩) m c) : x < w.heap.size := by
  subst e
  obtain ⟨_, _, e, _, _, h3⟩ := h
  simp only [Value.slice.injEq] at e
  obtain ⟨b', o', e2, hc⟩ := h3 hne
  rw [← e.1] at e2
  cases e2
  exact World.block_lt_of_cell? w _ (hc 0 (List.length_pos_iff.2 hne))
theorem fl_lt {w : World} {v : Value} {l : List Fv} (h : Fl w v l) {x o m c : Nat} (e : v = .slice (some ⟨x, o, none⟩) m c) : x < w.heap.size := by
  rcases owns_any h.1 with ⟨rfl, -⟩ | ⟨g, cap, rfl, -, hg, -⟩
  · cases e
  · cases e; exact hg

/-- what is newly made is nobody's -/
theorem newly_aw {w' : World} {ρ : Nat → Role} {r b : Nat} {l l' : List Fv} {v' : Value} (hn : Newly b l v' l') (hf : Fl w' v' l') (hρ : ∀ k, b ≤ k → ρ k = .other) (hr : r < b) (hb : b ≤ w'.heap.size) (hl : ∀ q ∈ l, q.2.2 ≠ [] → Aw w' ρ r q.2.1) :
    Aw w' ρ r v' ∧ ∀ q ∈ l', q.2.2 ≠ [] → Aw w' ρ r q.2.1 := by
  refine ⟨fun x o m c e => ?_, fun q hq hne => ?_⟩
  · have := hn.1 x o m c e
    exact ⟨hρ x this, by omega, fl_lt hf e⟩
  · rcases hn.2 q hq with h | h
    · exact hl q h hne
    · intro x o m c e
      have := h x o m c e
      exact ⟨hρ x this, by omega, bs_lt (hf.2 q hq) hne e⟩

/-- the disk's memory is not where the reference's block is -/
theorem Dk.beside {w w' : World} {base p r : Nat} {ρ : Nat → Role} {d : DSt} (h : Dk w base p ρ d) (hk : Kp (fun k => k = r) w w') (hr : ρ r = .other) : Dk w' base p ρ d := by
  obtain ⟨s, n, vp, ps, h⟩ := h
  have hp : ¬ p = r := fun e => by have := h.rp; rw [e, hr] at this; cases this
  have hss : ¬ s = r := fun e => by have := h.rs; rw [e, hr] at this; cases this
  have hnn : ¬ n = r := fun e => by have := h.rn; rw [e, hr] at this; cases this
  refine ⟨s, n, vp, ps, hk.cell' h.c0 hp, hk.cell' h.c1 hp, hk.cell' h.c2 hp, hk.cell' h.c3 hp, hk.cell' h.c4 hp, hk.cell' h.c5 hp, fun o => (hk.frozen (p := ⟨p, o, none⟩) h.lt hp).trans (h.warm o), ?_, ?_, h.cs, ?_, ?_, h.rp, h.rs, h.rn, h.rv, h.bp, h.low, fun k hk2 => h.hi k (Nat.le_trans hk.size hk2)⟩
  · refine h.syn.kept hk (fun k _ e => ⟨fun e2 => hss (e2 ▸ e), fun m hm => ?_⟩) fun _ _ => rfl
    rw [e] at hm
    unfold sOf at hm
    rw [hr] at hm
    cases hm
  · refine h.now.kept hk (fun k _ e => ⟨fun e2 => hnn (e2 ▸ e), fun m hm => ?_⟩) fun _ _ => rfl
    rw [e] at hm
    unfold nOf at hm
    rw [hr] at hm
    cases hm
  · refine owns_kept h.pend hk fun k e e2 => ?_
    have := h.rv k e
    rw [e2, hr] at this
    cases this
  · intro q hq
    refine ⟨bs_kept (h.byts q hq).1 hk fun x o m c e e2 => ?_, fun x o m c e => ⟨((h.byts q hq).2 x o m c e).1, Nat.lt_of_lt_of_le ((h.byts q hq).2 x o m c e).2 hk.size⟩⟩
    have := ((h.byts q hq).2 x o m c e).1
    rw [e2, hr] at this
    cases this

end Go.Proofs.YtmehneicdklfeaaGreat.r2
