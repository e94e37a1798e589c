/- (*Disk).Append. -/
import Derived.Test.YtmehneicdklfeaaGreatDiskDoM

namespace Go.Proofs.YtmehneicdklfeaaGreat.dsk
open Go.RowKit Go.Maps Go.Proofs.YtmehneicdklfeaaGreat.sum Go.Proofs.YtmehneicdklfeaaGreat.kept Go.Proofs.YtmehneicdklfeaaGreat.app Go.Proofs.YtmehneicdklfeaaGreat.writer Go.Proofs.YtmehneicdklfeaaGreat.clone Go.Proofs.YtmehneicdklfeaaGreat.unseal Go.Proofs.YtmehneicdklfeaaGreat.fs Go.Proofs.YtmehneicdklfeaaGreat.fsMem Go.Proofs.YtmehneicdklfeaaGreat.fsDo Go.Proofs.YtmehneicdklfeaaGreat.fsUsed Go.Proofs.YtmehneicdklfeaaGreat.turned
set_option linter.unusedVariables false

theorem bs_keptE {S : Nat → Prop} {w w' : World} {v : Value} {bs : List UInt8} (h : Bs w v bs) (hk : Kp S w w') (hn : bs ≠ [] → ∀ b o n c, v = .slice (some ⟨b, o, none⟩) n c → ¬ S b) : Bs w' v bs := by
  by_cases hb : bs = []
  · obtain ⟨a, cap, e, h1, h2, h3⟩ := h
    exact ⟨a, cap, e, h1, h2, fun hne => absurd hb hne⟩
  · exact bs_kept h hk (hn hb)

theorem DkAt.rerole {w w' : World} {base p : Nat} {ρ ρ2 : Nat → Role} {d : DSt} {nw : Files} {s n : Nat} {vp : Value} {ps : List (Change × Value)} (h' : DkAt w base p ρ d nw s n vp ps) (hk : Kp No w w') (hρ : ∀ k, k < w.heap.size → ρ2 k = ρ k)
    (hlow : ∀ k, ρ2 k ≠ .other → base ≤ k) (hhi : ∀ k, w'.heap.size ≤ k → ρ2 k = .other) : DkAt w' base p ρ2 d nw s n vp ps := by
  have h := h'.no hk
  refine ⟨h.c0, h.c1, h.c2, h.c3, h.c4, h.c5, h.warm, h'.syn.kept hk (fun _ _ x => x.elim) (fun k hk => by unfold sOf; rw [hρ k hk]), h'.now.kept hk (fun _ _ x => x.elim) (fun k hk => by unfold nOf; rw [hρ k hk]), h.cs, h.pend,
    fun q hq => ⟨(h.byts q hq).1, fun x o m c e => ⟨?_, ((h.byts q hq).2 x o m c e).2⟩⟩, ?_, ?_, ?_, fun g hg => ?_, h.bp, hlow, hhi⟩
  · rw [hρ x ((h'.byts q hq).2 x o m c e).2]; exact ((h'.byts q hq).2 x o m c e).1
  · rw [hρ p h'.lt]; exact h.rp
  · rw [hρ s h'.syn.lt]; exact h.rs
  · rw [hρ n h'.now.lt]; exact h.rn
  · rw [hρ g (h'.pend.lt g hg).2]; exact h.rv g hg

/-- the change that an Append is -/
def appC (name : ByteArray) (bs : List UInt8) : Change := ⟨0, name, ⟨#[]⟩, bs, 0⟩

theorem DkAt.len {w : World} {base p : Nat} {ρ : Nat → Role} {d : DSt} {nw : Files} {s n : Nat} {vp : Value} {ps : List (Change × Value)} (h : DkAt w base p ρ d nw s n vp ps) {o : Oper} {a : Act} (m : Operand) (hm : a.eval m = .map (some n))
    (ho : o.op = Op.call { callee := Callee.builtin Builtin.len, args := #[m], argTypes := #[73] }) (W : World) (hk : Kp No w W) : (execOp a.eval o).run Tryz.prog W = .ok (.value (.int .i64 (nw.length : Int))) W := by
  obtain ⟨_, _, _, val, h4, _⟩ := h.now
  have hl := (ownsMap_kept h4 hk id).len Tryz.underlying73 o.type
  rw [dat_size] at hl
  unfold execOp
  simp [ho, resolve, invoke, builtin, hm, hl, Result.andThen]

def StPost (base p : Nat) (ρ : Nat → Role) (d : DSt) (w : World) (res : Value) (e : Ending) (w' : World) : Prop := e = .returned res ∧ ∃ ρ', Dk w' base p ρ' d ∧ Fr ρ w ρ' w'

set_option maxRecDepth 100000 in
set_option maxHeartbeats 4000000 in
theorem append_there (w : World) (base p M : Nat) (ρ : Nat → Role) (d0 : DSt) (nw : Files) (s n : Nat) (vp : Value) (ps : List (Change × Value)) (name : ByteArray) (vb : Value) (bs : List UInt8) (h0 : DkAt w base p ρ d0 nw s n vp ps) (hok : DOk M d0) (hM : M ≤ 1000000) (hnw : nw = d0.now)
    (hstop : stopB d0 = false) (hname : nameB name = true) (hb : Bs w vb bs) (hvo : bs ≠ [] → ∀ x o m c, vb = .slice (some ⟨x, o, none⟩) m c → ρ x = .other) (hroom : (used nw : Int) + (bs.length : Int) ≤ d0.room) (hget : (fs.get nw (nm name)).isSome = true) :
    Calls Tryz.prog 16 #[.pointer (some ⟨p, 0, none⟩), .string name, vb] w (StPost base p ρ { stopD d0 with cs := d0.cs ++ [appC name bs] } w (.int .i64 0)) := by
  have hsd : (stopD d0).room = d0.room ∧ (stopD d0).syn = d0.syn ∧ (stopD d0).cs = d0.cs := by unfold stopD; split <;> (try split) <;> exact ⟨rfl, rfl, rfl⟩
  have hst := stops_any w base p ρ d0 nw s n vp ps h0 hok.fuse0 hok.fuse1
  have hns : name.size ≤ maxLen := by simp [nameB] at hname; unfold maxLen; omega
  have hnm := fun w => name_any w name hns
  rw [hname] at hnm
  rw [hstop] at hst
  have hlenps : ps.length = d0.cs.length := by rw [← h0.cs, List.length_map]
  have hfew0 := hok.few
  have hrise : Rising nw := h0.now.1
  have hl1 : nw.length ≤ M := by rw [hnw]; exact Nat.le_trans (len_all hok.rising d0.cs) hok.few
  have hu1 : used nw ≤ 8388608 := by have := hok.room1; omega
  obtain ⟨ab, cb, rfl, hcb1, hcb2, -⟩ := id hb
  unfold maxLen at hcb2
  have hlb : bs.length ≤ 8388608 := by have := hok.room1; omega
  have hol := get_len hrise (nm name)
  have HSt := Hid_mk hst
  have HNm := fun w => Hid_mk (hnm w)
  have hsum : IntKind.i64.wrap ((used nw : Int) + (bs.length : Int)) = (used nw : Int) + (bs.length : Int) := IntWalk.i64_in _ (by omega)
  have hdec : decide (d0.room < (used nw : Int) + (bs.length : Int)) = false := by simp; omega
  have hlen2 : True := trivial
  have HBS : Hid (∀ w1, Kp (fun k => k = p) w w1 → Bs w1 (.slice ab bs.length cb) bs ∧ Fr ρ w ρ w1) := Hid_mk fun w1 hk => ⟨bs_keptE hb hk (fun hne b o m c e e2 => by
    have := hvo hne b o m c e
    rw [e2, h0.rp] at this
    cases this), ⟨hk.mono (fun k _ e => by rw [e, h0.rp]; simp), fun _ _ h => h⟩⟩
  have hnow2 : doit nw (appC name bs) = ({ stopD d0 with cs := d0.cs ++ [appC name bs] } : DSt).now := by
    unfold DSt.now
    simp only
    rw [hsd.2.1, all_snoc, hnw]
    rfl
  have HNow2 := Hid_mk hnow2
  have hcs2 : ({ stopD d0 with cs := (stopD d0).cs ++ [appC name bs] } : DSt) = { stopD d0 with cs := d0.cs ++ [appC name bs] } := by rw [hsd.2.2]
  have HCs2 := Hid_mk hcs2
  have hroomd := hsd.1
  clear hb hvo hst hnm hok h0 hnow2 hcs2 hsd hroom hstop hnw
  generalize hd : stopD d0 = d at *
  have HPs : Hid (ps.length ≤ 1000000000000) := Hid_mk (by omega)
  have HLen2 : Hid (nw.length < maxLen) := Hid_mk (by unfold maxLen; omega)
  have HOl : Hid ((old nw (nm name)).length + bs.length ≤ 140737488355328) := Hid_mk (by unfold old; omega)
  have HHn := Hid_mk hns
  have hu2 : used nw ≤ 140737488355328 := by omega
  go_enter Tryz.func16, Tryz.ntmps16
  go_wp2_with fail
  refine HSt.out.mono ?_
  rintro e w1 ⟨rfl, h1, hk1⟩
  have H1 := Hid_mk h1
  have HBS1 := Hid_mk (HBS.out w1 hk1)
  obtain ⟨v, hrow, hlook⟩ := h1.now.look hns
  have hlk := (hlook w1 (Kp.refl _ _)).2
  rw [hget] at hlk
  have e4 := h1.c4
  have hS : ∀ W, Hid (Kp No w1 W) → W.cell? ⟨p, 4, none⟩ = some (.map (some n)) ∧ W.cell? ⟨p, 0, none⟩ = some (.int .i64 d0.room) ∧ Hid (Kp No w1 W) := fun W hW => ⟨hW.out.cell' h1.c4 id, hroomd ▸ hW.out.cell' h1.c0 id, hW⟩
  have HS := Hid_mk hS
  have hus : ∀ W, Hid (Kp No w1 W) → Calls Tryz.prog 47 #[.map (some n)] W fun e W' => e = .returned (.int .i64 (used nw : Int)) ∧ Hid (Kp No w1 W') := by
    intro W hW
    refine (used_any W base n (nOf ρ) nw (h1.no hW.out).now hu2).mono ?_
    rintro e W' ⟨rfl, hk⟩
    exact ⟨rfl, Hid_mk (hW.out.trans' hk)⟩
  have HUsed := Hid_mk hus
  clear h1 hk1 hrow hlook hS hus
  go_wp2_with fail
  refine (HNm _).out.mono ?_
  rintro e w' ⟨rfl, rfl⟩
  go_wp2
  refine wp_region_held_drew (S := (fun W => W.cell? ⟨p, 4, none⟩ = some (.map (some n)) ∧ W.cell? ⟨p, 0, none⟩ = some (.int .i64 d0.room) ∧ Hid (Kp No w1 W))) (by kernel_rfl) (HS.out _ (Hid_mk (Kp.refl No w1).drew)) (fun hHeld => ?_)
  refine wpAnyH_take (i := 0) (oi := { dst := some 23, op := Go.Op.move (Go.Operand.tmp 0), type := 23, pos := "disk.go:39", after := #[], guard := none }) (v := ?_) rfl (by kernel_rfl) (by kernel_rfl) (by kernel_rfl) (fun _ _ _ h => h) (Or.inl ⟨by rfl, ?_⟩) (by assumption) ?_
  rotate_left 1
  · intro w hSw; (try dsimp only at hSw); go_simp; all_goals (with_reducible rfl)
  try simp only [Act.put, List.setIfInBounds_toArray, List.set_cons_zero, List.set_cons_succ]
  refine wpAnyH_take (i := 1) (oi := { dst := some 24, op := Go.Op.nilCheck (Go.Operand.tmp 23), type := 0, pos := "disk.go:39", after := #[{ on := 0, ground := Go.Ground.data }], guard := none }) (v := ?_) rfl (by kernel_rfl) (by kernel_rfl) (by kernel_rfl) (fun _ _ _ h => h) (Or.inl ⟨by rfl, ?_⟩) (by assumption) ?_
  rotate_left 1
  · intro w hSw; (try dsimp only at hSw); go_simp; all_goals (with_reducible rfl)
  try simp only [Act.put, List.setIfInBounds_toArray, List.set_cons_zero, List.set_cons_succ]
  refine wpAnyH_take (i := 2) (oi := { dst := some 25, op := Go.Op.fieldAddr 76 (Go.Operand.tmp 24) 4, type := 0, pos := "disk.go:39", after := #[{ on := 1, ground := Go.Ground.data }], guard := none }) (v := ?_) rfl (by kernel_rfl) (by kernel_rfl) (by kernel_rfl) (fun _ _ _ h => h) (Or.inl ⟨by rfl, ?_⟩) (by assumption) ?_
  rotate_left 1
  · intro w hSw; (try dsimp only at hSw); go_simp; all_goals (with_reducible rfl)
  try simp only [Act.put, List.setIfInBounds_toArray, List.set_cons_zero, List.set_cons_succ]
  refine wpAnyH_take (i := 3) (oi := { dst := some 26, op := Go.Op.load 73 (Go.Operand.tmp 25), type := 73, pos := "disk.go:39", after := #[{ on := 2, ground := Go.Ground.data }], guard := none }) (v := ?_) rfl (by kernel_rfl) (by kernel_rfl) (by kernel_rfl) (fun _ _ _ h => h) (Or.inl ⟨by rfl, ?_⟩) (by assumption) ?_
  rotate_left 1
  · intro w hSw; (try dsimp only at hSw); go_simp; all_goals (with_reducible rfl)
  try simp only [Act.put, List.setIfInBounds_toArray, List.set_cons_zero, List.set_cons_succ]
  refine wpAnyH_take (i := 5) (oi := { dst := some 28, op := Go.Op.move (Go.Operand.tmp 2), type := 29, pos := "disk.go:39", after := #[], guard := none }) (v := ?_) rfl (by kernel_rfl) (by kernel_rfl) (by kernel_rfl) (fun _ _ _ h => h) (Or.inl ⟨by rfl, ?_⟩) (by assumption) ?_
  rotate_left 1
  · intro w hSw; (try dsimp only at hSw); go_simp; all_goals (with_reducible rfl)
  try simp only [Act.put, List.setIfInBounds_toArray, List.set_cons_zero, List.set_cons_succ]
  refine wpAnyH_take (i := 6) (oi := { dst := some 29, op := Go.Op.call { callee := Go.Callee.builtin Go.Builtin.len, args := #[Go.Operand.tmp 28], argTypes := #[29] }, type := 3, pos := "disk.go:39", after := #[{ on := 5, ground := Go.Ground.data }], guard := none }) (v := ?_) rfl (by kernel_rfl) (by kernel_rfl) (by kernel_rfl) (fun _ _ _ h => h) (Or.inl ⟨by rfl, ?_⟩) (by assumption) ?_
  rotate_left 1
  · intro w hSw; (try dsimp only at hSw); go_simp; all_goals (with_reducible rfl)
  try simp only [Act.put, List.setIfInBounds_toArray, List.set_cons_zero, List.set_cons_succ]
  refine wpAnyH_take (i := 8) (oi := { dst := some 31, op := Go.Op.move (Go.Operand.tmp 0), type := 23, pos := "disk.go:39", after := #[], guard := none }) (v := ?_) rfl (by kernel_rfl) (by kernel_rfl) (by kernel_rfl) (fun _ _ _ h => h) (Or.inl ⟨by rfl, ?_⟩) (by assumption) ?_
  rotate_left 1
  · intro w hSw; (try dsimp only at hSw); go_simp; all_goals (with_reducible rfl)
  try simp only [Act.put, List.setIfInBounds_toArray, List.set_cons_zero, List.set_cons_succ]
  refine wpAnyH_take (i := 9) (oi := { dst := some 32, op := Go.Op.nilCheck (Go.Operand.tmp 31), type := 0, pos := "disk.go:39", after := #[{ on := 8, ground := Go.Ground.data }], guard := none }) (v := ?_) rfl (by kernel_rfl) (by kernel_rfl) (by kernel_rfl) (fun _ _ _ h => h) (Or.inl ⟨by rfl, ?_⟩) (by assumption) ?_
  rotate_left 1
  · intro w hSw; (try dsimp only at hSw); go_simp; all_goals (with_reducible rfl)
  try simp only [Act.put, List.setIfInBounds_toArray, List.set_cons_zero, List.set_cons_succ]
  refine wpAnyH_take (i := 10) (oi := { dst := some 33, op := Go.Op.fieldAddr 76 (Go.Operand.tmp 32) 0, type := 0, pos := "disk.go:39", after := #[{ on := 9, ground := Go.Ground.data }], guard := none }) (v := ?_) rfl (by kernel_rfl) (by kernel_rfl) (by kernel_rfl) (fun _ _ _ h => h) (Or.inl ⟨by rfl, ?_⟩) (by assumption) ?_
  rotate_left 1
  · intro w hSw; (try dsimp only at hSw); go_simp; all_goals (with_reducible rfl)
  try simp only [Act.put, List.setIfInBounds_toArray, List.set_cons_zero, List.set_cons_succ]
  refine wpAnyH_take (i := 11) (oi := { dst := some 34, op := Go.Op.load 3 (Go.Operand.tmp 33), type := 3, pos := "disk.go:39", after := #[{ on := 10, ground := Go.Ground.data }], guard := none }) (v := ?_) rfl (by kernel_rfl) (by kernel_rfl) (by kernel_rfl) (fun _ _ _ h => h) (Or.inl ⟨by rfl, ?_⟩) (by assumption) ?_
  rotate_left 1
  · intro w hSw; (try dsimp only at hSw); go_simp; all_goals (with_reducible rfl)
  try simp only [Act.put, List.setIfInBounds_toArray, List.set_cons_zero, List.set_cons_succ]
  refine wpAnyH_ready (rs := [4]) (by kernel_rfl) (by simp) ?_
  refine AllReadyH.cons (o := { dst := some 27, op := Go.Op.call { callee := Go.Callee.value (Go.Operand.func 47), args := #[Go.Operand.tmp 26], argTypes := #[73] }, type := 3, pos := "disk.go:39", after := #[{ on := 3, ground := Go.Ground.data }], guard := none }) rfl (fun K hK => ?_) AllReadyH.nil
  go_simp
  (with_reducible refine (HUsed.out _ (Hid_mk (Kp.refl No w1).drew)).mono ?_)
  rintro e w2 ⟨rfl, hk2⟩
  have hS2 := HS.out w2 hk2
  refine hK.out _ _ hS2 (fun hHeld => ?_)
  clear hK K
  try simp only [Act.put, List.setIfInBounds_toArray, List.set_cons_zero, List.set_cons_succ]
  refine wpAnyH_take (i := 7) (oi := { dst := some 30, op := Go.Op.binOp Go.BinOp.add 3 (Go.Operand.tmp 27) (Go.Operand.tmp 29) 3, type := 3, pos := "disk.go:39", after := #[{ on := 4, ground := Go.Ground.data }, { on := 6, ground := Go.Ground.data }], guard := none }) (v := ?_) rfl (by kernel_rfl) (by kernel_rfl) (by kernel_rfl) (fun _ _ _ h => h) (Or.inl ⟨by rfl, ?_⟩) (by assumption) ?_
  rotate_left 1
  · intro w hSw; (try dsimp only at hSw); go_simp; all_goals (with_reducible rfl)
  try simp only [Act.put, List.setIfInBounds_toArray, List.set_cons_zero, List.set_cons_succ]
  refine wpAnyH_take (i := 12) (oi := { dst := some 35, op := Go.Op.binOp Go.BinOp.gtr 3 (Go.Operand.tmp 30) (Go.Operand.tmp 34) 3, type := 4, pos := "disk.go:39", after := #[{ on := 7, ground := Go.Ground.data }, { on := 11, ground := Go.Ground.data }], guard := none }) (v := ?_) rfl (by kernel_rfl) (by kernel_rfl) (by kernel_rfl) (fun _ _ _ h => h) (Or.inl ⟨by rfl, ?_⟩) (by assumption) ?_
  rotate_left 1
  · intro w hSw; (try dsimp only at hSw); go_simp; all_goals (with_reducible rfl)
  try simp only [Act.put, List.setIfInBounds_toArray, List.set_cons_zero, List.set_cons_succ]
  refine wpAnyH_take (i := 13) (oi := { dst := some 36, op := Go.Op.move (Go.Operand.tmp 35), type := 4, pos := "disk.go:39", after := #[{ on := 12, ground := Go.Ground.data }, { on := 4, ground := Go.Ground.chain }], guard := none }) (v := ?_) rfl (by kernel_rfl) (by kernel_rfl) (by kernel_rfl) (fun _ _ _ h => h) (Or.inl ⟨by rfl, ?_⟩) (by assumption) ?_
  rotate_left 1
  · intro w hSw; (try dsimp only at hSw); go_simp; all_goals (with_reducible rfl)
  try simp only [Act.put, List.setIfInBounds_toArray, List.set_cons_zero, List.set_cons_succ]
  refine wpAnyH_take (i := 14) (oi := { dst := some 37, op := Go.Op.move (Go.Operand.tmp 8), type := 4, pos := "disk.go:39", after := #[{ on := 13, ground := Go.Ground.guard }], guard := some (13, false) }) (v := ?_) rfl (by kernel_rfl) (by kernel_rfl) (by kernel_rfl) (fun _ _ _ h => h) (Or.inl ⟨by rfl, ?_⟩) (by assumption) ?_
  rotate_left 1
  · intro w hSw; (try dsimp only at hSw); go_simp; all_goals (with_reducible rfl)
  try simp only [Act.put, List.setIfInBounds_toArray, List.set_cons_zero, List.set_cons_succ]
  refine wpAnyH_take (i := 15) (oi := { dst := some 38, op := Go.Op.unOp Go.UnOp.not 4 (Go.Operand.tmp 37), type := 4, pos := "disk.go:39", after := #[{ on := 14, ground := Go.Ground.data }, { on := 13, ground := Go.Ground.guard }], guard := some (13, false) }) (v := ?_) rfl (by kernel_rfl) (by kernel_rfl) (by kernel_rfl) (fun _ _ _ h => h) (Or.inl ⟨by rfl, ?_⟩) (by assumption) ?_
  rotate_left 1
  · intro w hSw; (try dsimp only at hSw); go_simp; all_goals (with_reducible rfl)
  try simp only [Act.put, List.setIfInBounds_toArray, List.set_cons_zero, List.set_cons_succ]
  refine wpAnyH_take (i := 16) (oi := { dst := some 39, op := Go.Op.move (Go.Operand.tmp 38), type := 4, pos := "disk.go:39", after := #[{ on := 15, ground := Go.Ground.data }, { on := 13, ground := Go.Ground.chain }, { on := 13, ground := Go.Ground.guard }], guard := some (13, false) }) (v := ?_) rfl (by kernel_rfl) (by kernel_rfl) (by kernel_rfl) (fun _ _ _ h => h) (Or.inl ⟨by rfl, ?_⟩) (by assumption) ?_
  rotate_left 1
  · intro w hSw; (try dsimp only at hSw); go_simp; all_goals (with_reducible rfl)
  try simp only [Act.put, List.setIfInBounds_toArray, List.set_cons_zero, List.set_cons_succ]
  refine wpAnyH_take (i := 17) (oi := { dst := some 40, op := Go.Op.move (Go.Operand.tmp 0), type := 23, pos := "disk.go:39", after := #[{ on := 16, ground := Go.Ground.guard }], guard := some (16, true) }) (v := undef) rfl (by kernel_rfl) (by kernel_rfl) (by kernel_rfl) (fun _ _ _ h => h) (Or.inr ⟨by rfl, rfl⟩) (by assumption) ?_
  try simp only [Act.put, List.setIfInBounds_toArray, List.set_cons_zero, List.set_cons_succ]
  refine wpAnyH_take (i := 18) (oi := { dst := some 41, op := Go.Op.nilCheck (Go.Operand.tmp 40), type := 0, pos := "disk.go:39", after := #[{ on := 17, ground := Go.Ground.data }, { on := 16, ground := Go.Ground.guard }], guard := some (16, true) }) (v := undef) rfl (by kernel_rfl) (by kernel_rfl) (by kernel_rfl) (fun _ _ _ h => h) (Or.inr ⟨by rfl, rfl⟩) (by assumption) ?_
  try simp only [Act.put, List.setIfInBounds_toArray, List.set_cons_zero, List.set_cons_succ]
  refine wpAnyH_take (i := 19) (oi := { dst := some 42, op := Go.Op.fieldAddr 76 (Go.Operand.tmp 41) 4, type := 0, pos := "disk.go:39", after := #[{ on := 18, ground := Go.Ground.data }, { on := 16, ground := Go.Ground.guard }], guard := some (16, true) }) (v := undef) rfl (by kernel_rfl) (by kernel_rfl) (by kernel_rfl) (fun _ _ _ h => h) (Or.inr ⟨by rfl, rfl⟩) (by assumption) ?_
  try simp only [Act.put, List.setIfInBounds_toArray, List.set_cons_zero, List.set_cons_succ]
  refine wpAnyH_take (i := 20) (oi := { dst := some 43, op := Go.Op.load 73 (Go.Operand.tmp 42), type := 73, pos := "disk.go:39", after := #[{ on := 19, ground := Go.Ground.data }, { on := 16, ground := Go.Ground.guard }], guard := some (16, true) }) (v := undef) rfl (by kernel_rfl) (by kernel_rfl) (by kernel_rfl) (fun _ _ _ h => h) (Or.inr ⟨by rfl, rfl⟩) (by assumption) ?_
  try simp only [Act.put, List.setIfInBounds_toArray, List.set_cons_zero, List.set_cons_succ]
  refine wpAnyH_take (i := 21) (oi := { dst := some 44, op := Go.Op.call { callee := Go.Callee.builtin Go.Builtin.len, args := #[Go.Operand.tmp 43], argTypes := #[73] }, type := 3, pos := "disk.go:39", after := #[{ on := 20, ground := Go.Ground.data }, { on := 16, ground := Go.Ground.chain }, { on := 16, ground := Go.Ground.guard }], guard := some (16, true) }) (v := undef) rfl (by kernel_rfl) (by kernel_rfl) (by kernel_rfl) (fun _ _ _ h => h) (Or.inr ⟨by rfl, rfl⟩) (by assumption) ?_
  try simp only [Act.put, List.setIfInBounds_toArray, List.set_cons_zero, List.set_cons_succ]
  refine wpAnyH_take (i := 22) (oi := { dst := some 45, op := Go.Op.binOp Go.BinOp.geq 3 (Go.Operand.tmp 44) (Go.Operand.const (Go.Value.int Go.IntKind.i64 64)) 3, type := 4, pos := "disk.go:39", after := #[{ on := 21, ground := Go.Ground.data }, { on := 16, ground := Go.Ground.guard }], guard := some (16, true) }) (v := undef) rfl (by kernel_rfl) (by kernel_rfl) (by kernel_rfl) (fun _ _ _ h => h) (Or.inr ⟨by rfl, rfl⟩) (by assumption) ?_
  try simp only [Act.put, List.setIfInBounds_toArray, List.set_cons_zero, List.set_cons_succ]
  refine wpAnyH_take (i := 23) (oi := { dst := some 46, op := Go.Op.pick (Go.Operand.tmp 39) (Go.Operand.tmp 45) (Go.Operand.const (Go.Value.bool false)), type := 4, pos := "disk.go:39", after := #[{ on := 16, ground := Go.Ground.data }, { on := 22, ground := Go.Ground.data }, { on := 13, ground := Go.Ground.guard }], guard := some (13, false) }) (v := ?_) rfl (by kernel_rfl) (by kernel_rfl) (by kernel_rfl) (fun _ _ _ h => h) (Or.inl ⟨by rfl, ?_⟩) (by assumption) ?_
  rotate_left 1
  · intro w hSw; (try dsimp only at hSw); go_simp; all_goals (with_reducible rfl)
  try simp only [Act.put, List.setIfInBounds_toArray, List.set_cons_zero, List.set_cons_succ]
  refine wpAnyH_take (i := 24) (oi := { dst := some 47, op := Go.Op.pick (Go.Operand.tmp 36) (Go.Operand.const (Go.Value.bool true)) (Go.Operand.tmp 46), type := 4, pos := "disk.go:39", after := #[{ on := 13, ground := Go.Ground.data }, { on := 23, ground := Go.Ground.data }], guard := none }) (v := ?_) rfl (by kernel_rfl) (by kernel_rfl) (by kernel_rfl) (fun _ _ _ h => h) (Or.inl ⟨by rfl, ?_⟩) (by assumption) ?_
  rotate_left 1
  · intro w hSw; (try dsimp only at hSw); go_simp; all_goals (with_reducible rfl)
  try simp only [Act.put, List.setIfInBounds_toArray, List.set_cons_zero, List.set_cons_succ]
  refine wpAnyH_done (by kernel_rfl) ?_ _
  have hbs2 := bs_no HBS1.out.1 hk2.out
  have HBs2 := Hid_mk hbs2
  clear hlk e4 HUsed hS2 hHeld hbs2
  go_wp2_with fail
  refine (clone_any w2 _ bs HBs2.out (by omega)).mono ?_
  rintro e w3 ⟨v3, rfl, ho3, hk3⟩
  have hb3 := owns_bs ho3
  have h2 := H1.out.no hk2.out
  obtain ⟨ρ2, hρ2⟩ : ∃ ρ2 : Nat → Role, ρ2 = fun k => if some k = v3.ownBlock then .byt else ρ k := ⟨_, rfl⟩
  have hold : ∀ k, k < w2.heap.size → ρ2 k = ρ k := fun k hk => by
    rw [hρ2]; simp only; rw [if_neg]
    intro e; have := (ho3.lt k e.symm).1; omega
  have h3 : DkAt w3 base p ρ2 d nw s n vp ps := h2.rerole hk3 hold (fun k hk => by
      rw [hρ2] at hk; simp only at hk
      split at hk
      · rename_i e; have := (ho3.lt k e.symm).1; have := h2.bp; have := h2.lt; omega
      · exact h2.low k hk) (fun k hk => by
      rw [hρ2]; simp only; rw [if_neg (fun e => by have := (ho3.lt k e.symm).2; omega)]
      exact h2.hi k (by have := hk3.size; omega))
  have hfr3 : Fr ρ w2 ρ2 w3 := ⟨hk3.to, fun k hk e => by rw [hold k hk]; exact e⟩
  have hvb3 : ∀ x o m cc, v3 = .slice (some ⟨x, o, none⟩) m cc → ρ2 x = .byt ∧ x < w3.heap.size := fun x o m cc e => by
    have hob : v3.ownBlock = some x := by rw [e]; rfl
    exact ⟨by rw [hρ2]; simp [hob], (ho3.lt x hob).2⟩
  have hch := change_any w3 base p ρ2 d nw s n vp ps (appC name bs) v3 h3 ⟨by show (0 : Nat) < 4; omega, fun e => by cases e⟩ hb3 hvb3 HHn.out (by show (0 : Nat) ≤ _; exact Nat.zero_le _) HLen2.out (fun _ => HOl.out) HPs.out
  have hfr : Fr ρ w ρ2 w3 := (HBS1.out.2.trans (Fr.of_no hk2.out)).trans hfr3
  have hch2 : Calls Tryz.prog 48 #[.pointer (some ⟨p, 0, none⟩), chg (appC name bs) v3] w3 (StPost base p ρ { d with cs := d0.cs ++ [appC name bs] } w (.tuple #[])) := by
    refine hch.mono ?_
    rintro e w4 ⟨he, ρ4, s4, n4, vp4, ps4, h4, hfr4⟩
    rw [HCs2.out, HNow2.out] at h4
    exact ⟨he, ρ4, ⟨s4, n4, vp4, ps4, h4⟩, hfr.trans hfr4⟩
  unfold chg appC at hch2
  simp only at hch2
  have HCh := Hid_mk hch2
  obtain ⟨a3, cap3, hv3, -, -, -⟩ := id hb3
  clear hch hch2 hvb3 h3 h2 hfr3 hfr hold hρ2 ho3 hk3 hb3
  subst hv3
  go_wp2_with fail
  refine HCh.out.mono ?_
  rintro e w4 ⟨rfl, hex⟩
  have HEx := Hid_mk hex
  clear hex
  go_wp2
  go_ret
  exact ⟨rfl, HEx.out⟩

set_option maxRecDepth 100000 in
set_option maxHeartbeats 4000000 in
theorem append_new (w : World) (base p M : Nat) (ρ : Nat → Role) (d0 : DSt) (nw : Files) (s n : Nat) (vp : Value) (ps : List (Change × Value)) (name : ByteArray) (vb : Value) (bs : List UInt8) (h0 : DkAt w base p ρ d0 nw s n vp ps) (hok : DOk M d0) (hM : M ≤ 1000000) (hnw : nw = d0.now)
    (hstop : stopB d0 = false) (hname : nameB name = true) (hb : Bs w vb bs) (hvo : bs ≠ [] → ∀ x o m c, vb = .slice (some ⟨x, o, none⟩) m c → ρ x = .other) (hroom : (used nw : Int) + (bs.length : Int) ≤ d0.room) (hget : (fs.get nw (nm name)).isSome = false) (hfew : nw.length < 64) :
    Calls Tryz.prog 16 #[.pointer (some ⟨p, 0, none⟩), .string name, vb] w (StPost base p ρ { stopD d0 with cs := d0.cs ++ [appC name bs] } w (.int .i64 0)) := by
  have hsd : (stopD d0).room = d0.room ∧ (stopD d0).syn = d0.syn ∧ (stopD d0).cs = d0.cs := by unfold stopD; split <;> (try split) <;> exact ⟨rfl, rfl, rfl⟩
  have hst := stops_any w base p ρ d0 nw s n vp ps h0 hok.fuse0 hok.fuse1
  have hns : name.size ≤ maxLen := by simp [nameB] at hname; unfold maxLen; omega
  have hnm := fun w => name_any w name hns
  rw [hname] at hnm
  rw [hstop] at hst
  have hlenps : ps.length = d0.cs.length := by rw [← h0.cs, List.length_map]
  have hfew0 := hok.few
  have hrise : Rising nw := h0.now.1
  have hl1 : nw.length ≤ M := by rw [hnw]; exact Nat.le_trans (len_all hok.rising d0.cs) hok.few
  have hu1 : used nw ≤ 8388608 := by have := hok.room1; omega
  obtain ⟨ab, cb, rfl, hcb1, hcb2, -⟩ := id hb
  unfold maxLen at hcb2
  have hlb : bs.length ≤ 8388608 := by have := hok.room1; omega
  have hol := get_len hrise (nm name)
  have HSt := Hid_mk hst
  have HNm := fun w => Hid_mk (hnm w)
  have hsum : IntKind.i64.wrap ((used nw : Int) + (bs.length : Int)) = (used nw : Int) + (bs.length : Int) := IntWalk.i64_in _ (by omega)
  have hdec : decide (d0.room < (used nw : Int) + (bs.length : Int)) = false := by simp; omega
  have hlen2 : decide (64 ≤ (nw.length : Int)) = false := by simp; omega
  have HBS : Hid (∀ w1, Kp (fun k => k = p) w w1 → Bs w1 (.slice ab bs.length cb) bs ∧ Fr ρ w ρ w1) := Hid_mk fun w1 hk => ⟨bs_keptE hb hk (fun hne b o m c e e2 => by
    have := hvo hne b o m c e
    rw [e2, h0.rp] at this
    cases this), ⟨hk.mono (fun k _ e => by rw [e, h0.rp]; simp), fun _ _ h => h⟩⟩
  have hnow2 : doit nw (appC name bs) = ({ stopD d0 with cs := d0.cs ++ [appC name bs] } : DSt).now := by
    unfold DSt.now
    simp only
    rw [hsd.2.1, all_snoc, hnw]
    rfl
  have HNow2 := Hid_mk hnow2
  have hcs2 : ({ stopD d0 with cs := (stopD d0).cs ++ [appC name bs] } : DSt) = { stopD d0 with cs := d0.cs ++ [appC name bs] } := by rw [hsd.2.2]
  have HCs2 := Hid_mk hcs2
  have hroomd := hsd.1
  clear hb hvo hst hnm hok h0 hnow2 hcs2 hsd hroom hstop hnw
  generalize hd : stopD d0 = d at *
  have HPs : Hid (ps.length ≤ 1000000000000) := Hid_mk (by omega)
  have HLen2 : Hid (nw.length < maxLen) := Hid_mk (by unfold maxLen; omega)
  have HOl : Hid ((old nw (nm name)).length + bs.length ≤ 140737488355328) := Hid_mk (by unfold old; omega)
  have HHn := Hid_mk hns
  have hu2 : used nw ≤ 140737488355328 := by omega
  go_enter Tryz.func16, Tryz.ntmps16
  go_wp2_with fail
  refine HSt.out.mono ?_
  rintro e w1 ⟨rfl, h1, hk1⟩
  have H1 := Hid_mk h1
  have HBS1 := Hid_mk (HBS.out w1 hk1)
  obtain ⟨v, hrow, hlook⟩ := h1.now.look hns
  have hlk := (hlook w1 (Kp.refl _ _)).2
  rw [hget] at hlk
  have e4 := h1.c4
  have hS : ∀ W, Hid (Kp No w1 W) → W.cell? ⟨p, 4, none⟩ = some (.map (some n)) ∧ W.cell? ⟨p, 0, none⟩ = some (.int .i64 d0.room) ∧ Hid (Kp No w1 W) := fun W hW => ⟨hW.out.cell' h1.c4 id, hroomd ▸ hW.out.cell' h1.c0 id, hW⟩
  have HS := Hid_mk hS
  have hus : ∀ W, Hid (Kp No w1 W) → Calls Tryz.prog 47 #[.map (some n)] W fun e W' => e = .returned (.int .i64 (used nw : Int)) ∧ Hid (Kp No w1 W') := by
    intro W hW
    refine (used_any W base n (nOf ρ) nw (h1.no hW.out).now hu2).mono ?_
    rintro e W' ⟨rfl, hk⟩
    exact ⟨rfl, Hid_mk (hW.out.trans' hk)⟩
  have HUsed := Hid_mk hus
  clear h1 hk1 hrow hlook hS hus
  go_wp2_with fail
  refine (HNm _).out.mono ?_
  rintro e w' ⟨rfl, rfl⟩
  go_wp2
  refine wp_region_held_drew (S := (fun W => W.cell? ⟨p, 4, none⟩ = some (.map (some n)) ∧ W.cell? ⟨p, 0, none⟩ = some (.int .i64 d0.room) ∧ Hid (Kp No w1 W))) (by kernel_rfl) (HS.out _ (Hid_mk (Kp.refl No w1).drew)) (fun hHeld => ?_)
  refine wpAnyH_take (i := 0) (oi := { dst := some 23, op := Go.Op.move (Go.Operand.tmp 0), type := 23, pos := "disk.go:39", after := #[], guard := none }) (v := ?_) rfl (by kernel_rfl) (by kernel_rfl) (by kernel_rfl) (fun _ _ _ h => h) (Or.inl ⟨by rfl, ?_⟩) (by assumption) ?_
  rotate_left 1
  · intro w hSw; (try dsimp only at hSw); go_simp; all_goals (with_reducible rfl)
  try simp only [Act.put, List.setIfInBounds_toArray, List.set_cons_zero, List.set_cons_succ]
  refine wpAnyH_take (i := 1) (oi := { dst := some 24, op := Go.Op.nilCheck (Go.Operand.tmp 23), type := 0, pos := "disk.go:39", after := #[{ on := 0, ground := Go.Ground.data }], guard := none }) (v := ?_) rfl (by kernel_rfl) (by kernel_rfl) (by kernel_rfl) (fun _ _ _ h => h) (Or.inl ⟨by rfl, ?_⟩) (by assumption) ?_
  rotate_left 1
  · intro w hSw; (try dsimp only at hSw); go_simp; all_goals (with_reducible rfl)
  try simp only [Act.put, List.setIfInBounds_toArray, List.set_cons_zero, List.set_cons_succ]
  refine wpAnyH_take (i := 2) (oi := { dst := some 25, op := Go.Op.fieldAddr 76 (Go.Operand.tmp 24) 4, type := 0, pos := "disk.go:39", after := #[{ on := 1, ground := Go.Ground.data }], guard := none }) (v := ?_) rfl (by kernel_rfl) (by kernel_rfl) (by kernel_rfl) (fun _ _ _ h => h) (Or.inl ⟨by rfl, ?_⟩) (by assumption) ?_
  rotate_left 1
  · intro w hSw; (try dsimp only at hSw); go_simp; all_goals (with_reducible rfl)
  try simp only [Act.put, List.setIfInBounds_toArray, List.set_cons_zero, List.set_cons_succ]
  refine wpAnyH_take (i := 3) (oi := { dst := some 26, op := Go.Op.load 73 (Go.Operand.tmp 25), type := 73, pos := "disk.go:39", after := #[{ on := 2, ground := Go.Ground.data }], guard := none }) (v := ?_) rfl (by kernel_rfl) (by kernel_rfl) (by kernel_rfl) (fun _ _ _ h => h) (Or.inl ⟨by rfl, ?_⟩) (by assumption) ?_
  rotate_left 1
  · intro w hSw; (try dsimp only at hSw); go_simp; all_goals (with_reducible rfl)
  try simp only [Act.put, List.setIfInBounds_toArray, List.set_cons_zero, List.set_cons_succ]
  refine wpAnyH_take (i := 5) (oi := { dst := some 28, op := Go.Op.move (Go.Operand.tmp 2), type := 29, pos := "disk.go:39", after := #[], guard := none }) (v := ?_) rfl (by kernel_rfl) (by kernel_rfl) (by kernel_rfl) (fun _ _ _ h => h) (Or.inl ⟨by rfl, ?_⟩) (by assumption) ?_
  rotate_left 1
  · intro w hSw; (try dsimp only at hSw); go_simp; all_goals (with_reducible rfl)
  try simp only [Act.put, List.setIfInBounds_toArray, List.set_cons_zero, List.set_cons_succ]
  refine wpAnyH_take (i := 6) (oi := { dst := some 29, op := Go.Op.call { callee := Go.Callee.builtin Go.Builtin.len, args := #[Go.Operand.tmp 28], argTypes := #[29] }, type := 3, pos := "disk.go:39", after := #[{ on := 5, ground := Go.Ground.data }], guard := none }) (v := ?_) rfl (by kernel_rfl) (by kernel_rfl) (by kernel_rfl) (fun _ _ _ h => h) (Or.inl ⟨by rfl, ?_⟩) (by assumption) ?_
  rotate_left 1
  · intro w hSw; (try dsimp only at hSw); go_simp; all_goals (with_reducible rfl)
  try simp only [Act.put, List.setIfInBounds_toArray, List.set_cons_zero, List.set_cons_succ]
  refine wpAnyH_take (i := 8) (oi := { dst := some 31, op := Go.Op.move (Go.Operand.tmp 0), type := 23, pos := "disk.go:39", after := #[], guard := none }) (v := ?_) rfl (by kernel_rfl) (by kernel_rfl) (by kernel_rfl) (fun _ _ _ h => h) (Or.inl ⟨by rfl, ?_⟩) (by assumption) ?_
  rotate_left 1
  · intro w hSw; (try dsimp only at hSw); go_simp; all_goals (with_reducible rfl)
  try simp only [Act.put, List.setIfInBounds_toArray, List.set_cons_zero, List.set_cons_succ]
  refine wpAnyH_take (i := 9) (oi := { dst := some 32, op := Go.Op.nilCheck (Go.Operand.tmp 31), type := 0, pos := "disk.go:39", after := #[{ on := 8, ground := Go.Ground.data }], guard := none }) (v := ?_) rfl (by kernel_rfl) (by kernel_rfl) (by kernel_rfl) (fun _ _ _ h => h) (Or.inl ⟨by rfl, ?_⟩) (by assumption) ?_
  rotate_left 1
  · intro w hSw; (try dsimp only at hSw); go_simp; all_goals (with_reducible rfl)
  try simp only [Act.put, List.setIfInBounds_toArray, List.set_cons_zero, List.set_cons_succ]
  refine wpAnyH_take (i := 10) (oi := { dst := some 33, op := Go.Op.fieldAddr 76 (Go.Operand.tmp 32) 0, type := 0, pos := "disk.go:39", after := #[{ on := 9, ground := Go.Ground.data }], guard := none }) (v := ?_) rfl (by kernel_rfl) (by kernel_rfl) (by kernel_rfl) (fun _ _ _ h => h) (Or.inl ⟨by rfl, ?_⟩) (by assumption) ?_
  rotate_left 1
  · intro w hSw; (try dsimp only at hSw); go_simp; all_goals (with_reducible rfl)
  try simp only [Act.put, List.setIfInBounds_toArray, List.set_cons_zero, List.set_cons_succ]
  refine wpAnyH_take (i := 11) (oi := { dst := some 34, op := Go.Op.load 3 (Go.Operand.tmp 33), type := 3, pos := "disk.go:39", after := #[{ on := 10, ground := Go.Ground.data }], guard := none }) (v := ?_) rfl (by kernel_rfl) (by kernel_rfl) (by kernel_rfl) (fun _ _ _ h => h) (Or.inl ⟨by rfl, ?_⟩) (by assumption) ?_
  rotate_left 1
  · intro w hSw; (try dsimp only at hSw); go_simp; all_goals (with_reducible rfl)
  try simp only [Act.put, List.setIfInBounds_toArray, List.set_cons_zero, List.set_cons_succ]
  refine wpAnyH_ready (rs := [4]) (by kernel_rfl) (by simp) ?_
  refine AllReadyH.cons (o := { dst := some 27, op := Go.Op.call { callee := Go.Callee.value (Go.Operand.func 47), args := #[Go.Operand.tmp 26], argTypes := #[73] }, type := 3, pos := "disk.go:39", after := #[{ on := 3, ground := Go.Ground.data }], guard := none }) rfl (fun K hK => ?_) AllReadyH.nil
  go_simp
  (with_reducible refine (HUsed.out _ (Hid_mk (Kp.refl No w1).drew)).mono ?_)
  rintro e w2 ⟨rfl, hk2⟩
  have hS2 := HS.out w2 hk2
  refine hK.out _ _ hS2 (fun hHeld => ?_)
  clear hK K
  try simp only [Act.put, List.setIfInBounds_toArray, List.set_cons_zero, List.set_cons_succ]
  refine wpAnyH_take (i := 7) (oi := { dst := some 30, op := Go.Op.binOp Go.BinOp.add 3 (Go.Operand.tmp 27) (Go.Operand.tmp 29) 3, type := 3, pos := "disk.go:39", after := #[{ on := 4, ground := Go.Ground.data }, { on := 6, ground := Go.Ground.data }], guard := none }) (v := ?_) rfl (by kernel_rfl) (by kernel_rfl) (by kernel_rfl) (fun _ _ _ h => h) (Or.inl ⟨by rfl, ?_⟩) (by assumption) ?_
  rotate_left 1
  · intro w hSw; (try dsimp only at hSw); go_simp; all_goals (with_reducible rfl)
  try simp only [Act.put, List.setIfInBounds_toArray, List.set_cons_zero, List.set_cons_succ]
  refine wpAnyH_take (i := 12) (oi := { dst := some 35, op := Go.Op.binOp Go.BinOp.gtr 3 (Go.Operand.tmp 30) (Go.Operand.tmp 34) 3, type := 4, pos := "disk.go:39", after := #[{ on := 7, ground := Go.Ground.data }, { on := 11, ground := Go.Ground.data }], guard := none }) (v := ?_) rfl (by kernel_rfl) (by kernel_rfl) (by kernel_rfl) (fun _ _ _ h => h) (Or.inl ⟨by rfl, ?_⟩) (by assumption) ?_
  rotate_left 1
  · intro w hSw; (try dsimp only at hSw); go_simp; all_goals (with_reducible rfl)
  try simp only [Act.put, List.setIfInBounds_toArray, List.set_cons_zero, List.set_cons_succ]
  refine wpAnyH_take (i := 13) (oi := { dst := some 36, op := Go.Op.move (Go.Operand.tmp 35), type := 4, pos := "disk.go:39", after := #[{ on := 12, ground := Go.Ground.data }, { on := 4, ground := Go.Ground.chain }], guard := none }) (v := ?_) rfl (by kernel_rfl) (by kernel_rfl) (by kernel_rfl) (fun _ _ _ h => h) (Or.inl ⟨by rfl, ?_⟩) (by assumption) ?_
  rotate_left 1
  · intro w hSw; (try dsimp only at hSw); go_simp; all_goals (with_reducible rfl)
  try simp only [Act.put, List.setIfInBounds_toArray, List.set_cons_zero, List.set_cons_succ]
  refine wpAnyH_take (i := 14) (oi := { dst := some 37, op := Go.Op.move (Go.Operand.tmp 8), type := 4, pos := "disk.go:39", after := #[{ on := 13, ground := Go.Ground.guard }], guard := some (13, false) }) (v := ?_) rfl (by kernel_rfl) (by kernel_rfl) (by kernel_rfl) (fun _ _ _ h => h) (Or.inl ⟨by rfl, ?_⟩) (by assumption) ?_
  rotate_left 1
  · intro w hSw; (try dsimp only at hSw); go_simp; all_goals (with_reducible rfl)
  try simp only [Act.put, List.setIfInBounds_toArray, List.set_cons_zero, List.set_cons_succ]
  refine wpAnyH_take (i := 15) (oi := { dst := some 38, op := Go.Op.unOp Go.UnOp.not 4 (Go.Operand.tmp 37), type := 4, pos := "disk.go:39", after := #[{ on := 14, ground := Go.Ground.data }, { on := 13, ground := Go.Ground.guard }], guard := some (13, false) }) (v := ?_) rfl (by kernel_rfl) (by kernel_rfl) (by kernel_rfl) (fun _ _ _ h => h) (Or.inl ⟨by rfl, ?_⟩) (by assumption) ?_
  rotate_left 1
  · intro w hSw; (try dsimp only at hSw); go_simp; all_goals (with_reducible rfl)
  try simp only [Act.put, List.setIfInBounds_toArray, List.set_cons_zero, List.set_cons_succ]
  refine wpAnyH_take (i := 16) (oi := { dst := some 39, op := Go.Op.move (Go.Operand.tmp 38), type := 4, pos := "disk.go:39", after := #[{ on := 15, ground := Go.Ground.data }, { on := 13, ground := Go.Ground.chain }, { on := 13, ground := Go.Ground.guard }], guard := some (13, false) }) (v := ?_) rfl (by kernel_rfl) (by kernel_rfl) (by kernel_rfl) (fun _ _ _ h => h) (Or.inl ⟨by rfl, ?_⟩) (by assumption) ?_
  rotate_left 1
  · intro w hSw; (try dsimp only at hSw); go_simp; all_goals (with_reducible rfl)
  try simp only [Act.put, List.setIfInBounds_toArray, List.set_cons_zero, List.set_cons_succ]
  refine wpAnyH_take (i := 17) (oi := { dst := some 40, op := Go.Op.move (Go.Operand.tmp 0), type := 23, pos := "disk.go:39", after := #[{ on := 16, ground := Go.Ground.guard }], guard := some (16, true) }) (v := ?_) rfl (by kernel_rfl) (by kernel_rfl) (by kernel_rfl) (fun _ _ _ h => h) (Or.inl ⟨by rfl, ?_⟩) (by assumption) ?_
  rotate_left 1
  · intro w hSw; (try dsimp only at hSw); go_simp; all_goals (with_reducible rfl)
  try simp only [Act.put, List.setIfInBounds_toArray, List.set_cons_zero, List.set_cons_succ]
  refine wpAnyH_take (i := 18) (oi := { dst := some 41, op := Go.Op.nilCheck (Go.Operand.tmp 40), type := 0, pos := "disk.go:39", after := #[{ on := 17, ground := Go.Ground.data }, { on := 16, ground := Go.Ground.guard }], guard := some (16, true) }) (v := ?_) rfl (by kernel_rfl) (by kernel_rfl) (by kernel_rfl) (fun _ _ _ h => h) (Or.inl ⟨by rfl, ?_⟩) (by assumption) ?_
  rotate_left 1
  · intro w hSw; (try dsimp only at hSw); go_simp; all_goals (with_reducible rfl)
  try simp only [Act.put, List.setIfInBounds_toArray, List.set_cons_zero, List.set_cons_succ]
  refine wpAnyH_take (i := 19) (oi := { dst := some 42, op := Go.Op.fieldAddr 76 (Go.Operand.tmp 41) 4, type := 0, pos := "disk.go:39", after := #[{ on := 18, ground := Go.Ground.data }, { on := 16, ground := Go.Ground.guard }], guard := some (16, true) }) (v := ?_) rfl (by kernel_rfl) (by kernel_rfl) (by kernel_rfl) (fun _ _ _ h => h) (Or.inl ⟨by rfl, ?_⟩) (by assumption) ?_
  rotate_left 1
  · intro w hSw; (try dsimp only at hSw); go_simp; all_goals (with_reducible rfl)
  try simp only [Act.put, List.setIfInBounds_toArray, List.set_cons_zero, List.set_cons_succ]
  refine wpAnyH_take (i := 20) (oi := { dst := some 43, op := Go.Op.load 73 (Go.Operand.tmp 42), type := 73, pos := "disk.go:39", after := #[{ on := 19, ground := Go.Ground.data }, { on := 16, ground := Go.Ground.guard }], guard := some (16, true) }) (v := ?_) rfl (by kernel_rfl) (by kernel_rfl) (by kernel_rfl) (fun _ _ _ h => h) (Or.inl ⟨by rfl, ?_⟩) (by assumption) ?_
  rotate_left 1
  · intro w hSw; (try dsimp only at hSw); go_simp; all_goals (with_reducible rfl)
  try simp only [Act.put, List.setIfInBounds_toArray, List.set_cons_zero, List.set_cons_succ]
  refine wpAnyH_take (i := 21) (oi := { dst := some 44, op := Go.Op.call { callee := Go.Callee.builtin Go.Builtin.len, args := #[Go.Operand.tmp 43], argTypes := #[73] }, type := 3, pos := "disk.go:39", after := #[{ on := 20, ground := Go.Ground.data }, { on := 16, ground := Go.Ground.chain }, { on := 16, ground := Go.Ground.guard }], guard := some (16, true) }) (v := .int .i64 (nw.length : Int)) rfl (by kernel_rfl) (by kernel_rfl) (by kernel_rfl) (fun _ _ _ h => h) (Or.inl ⟨by rfl, fun W hSw => H1.out.len (Operand.tmp 43) rfl rfl W hSw.2.2.out⟩) (by assumption) ?_
  try simp only [Act.put, List.setIfInBounds_toArray, List.set_cons_zero, List.set_cons_succ]
  refine wpAnyH_take (i := 22) (oi := { dst := some 45, op := Go.Op.binOp Go.BinOp.geq 3 (Go.Operand.tmp 44) (Go.Operand.const (Go.Value.int Go.IntKind.i64 64)) 3, type := 4, pos := "disk.go:39", after := #[{ on := 21, ground := Go.Ground.data }, { on := 16, ground := Go.Ground.guard }], guard := some (16, true) }) (v := ?_) rfl (by kernel_rfl) (by kernel_rfl) (by kernel_rfl) (fun _ _ _ h => h) (Or.inl ⟨by rfl, ?_⟩) (by assumption) ?_
  rotate_left 1
  · intro w hSw; (try dsimp only at hSw); go_simp; all_goals (with_reducible rfl)
  try simp only [Act.put, List.setIfInBounds_toArray, List.set_cons_zero, List.set_cons_succ]
  refine wpAnyH_take (i := 23) (oi := { dst := some 46, op := Go.Op.pick (Go.Operand.tmp 39) (Go.Operand.tmp 45) (Go.Operand.const (Go.Value.bool false)), type := 4, pos := "disk.go:39", after := #[{ on := 16, ground := Go.Ground.data }, { on := 22, ground := Go.Ground.data }, { on := 13, ground := Go.Ground.guard }], guard := some (13, false) }) (v := ?_) rfl (by kernel_rfl) (by kernel_rfl) (by kernel_rfl) (fun _ _ _ h => h) (Or.inl ⟨by rfl, ?_⟩) (by assumption) ?_
  rotate_left 1
  · intro w hSw; (try dsimp only at hSw); go_simp; all_goals (with_reducible rfl)
  try simp only [Act.put, List.setIfInBounds_toArray, List.set_cons_zero, List.set_cons_succ]
  refine wpAnyH_take (i := 24) (oi := { dst := some 47, op := Go.Op.pick (Go.Operand.tmp 36) (Go.Operand.const (Go.Value.bool true)) (Go.Operand.tmp 46), type := 4, pos := "disk.go:39", after := #[{ on := 13, ground := Go.Ground.data }, { on := 23, ground := Go.Ground.data }], guard := none }) (v := ?_) rfl (by kernel_rfl) (by kernel_rfl) (by kernel_rfl) (fun _ _ _ h => h) (Or.inl ⟨by rfl, ?_⟩) (by assumption) ?_
  rotate_left 1
  · intro w hSw; (try dsimp only at hSw); go_simp; all_goals (with_reducible rfl)
  try simp only [Act.put, List.setIfInBounds_toArray, List.set_cons_zero, List.set_cons_succ]
  refine wpAnyH_done (by kernel_rfl) ?_ _
  have hbs2 := bs_no HBS1.out.1 hk2.out
  have HBs2 := Hid_mk hbs2
  clear hlk e4 HUsed hS2 hHeld hbs2
  go_wp2_with fail
  refine (clone_any w2 _ bs HBs2.out (by omega)).mono ?_
  rintro e w3 ⟨v3, rfl, ho3, hk3⟩
  have hb3 := owns_bs ho3
  have h2 := H1.out.no hk2.out
  obtain ⟨ρ2, hρ2⟩ : ∃ ρ2 : Nat → Role, ρ2 = fun k => if some k = v3.ownBlock then .byt else ρ k := ⟨_, rfl⟩
  have hold : ∀ k, k < w2.heap.size → ρ2 k = ρ k := fun k hk => by
    rw [hρ2]; simp only; rw [if_neg]
    intro e; have := (ho3.lt k e.symm).1; omega
  have h3 : DkAt w3 base p ρ2 d nw s n vp ps := h2.rerole hk3 hold (fun k hk => by
      rw [hρ2] at hk; simp only at hk
      split at hk
      · rename_i e; have := (ho3.lt k e.symm).1; have := h2.bp; have := h2.lt; omega
      · exact h2.low k hk) (fun k hk => by
      rw [hρ2]; simp only; rw [if_neg (fun e => by have := (ho3.lt k e.symm).2; omega)]
      exact h2.hi k (by have := hk3.size; omega))
  have hfr3 : Fr ρ w2 ρ2 w3 := ⟨hk3.to, fun k hk e => by rw [hold k hk]; exact e⟩
  have hvb3 : ∀ x o m cc, v3 = .slice (some ⟨x, o, none⟩) m cc → ρ2 x = .byt ∧ x < w3.heap.size := fun x o m cc e => by
    have hob : v3.ownBlock = some x := by rw [e]; rfl
    exact ⟨by rw [hρ2]; simp [hob], (ho3.lt x hob).2⟩
  have hch := change_any w3 base p ρ2 d nw s n vp ps (appC name bs) v3 h3 ⟨by show (0 : Nat) < 4; omega, fun e => by cases e⟩ hb3 hvb3 HHn.out (by show (0 : Nat) ≤ _; exact Nat.zero_le _) HLen2.out (fun _ => HOl.out) HPs.out
  have hfr : Fr ρ w ρ2 w3 := (HBS1.out.2.trans (Fr.of_no hk2.out)).trans hfr3
  have hch2 : Calls Tryz.prog 48 #[.pointer (some ⟨p, 0, none⟩), chg (appC name bs) v3] w3 (StPost base p ρ { d with cs := d0.cs ++ [appC name bs] } w (.tuple #[])) := by
    refine hch.mono ?_
    rintro e w4 ⟨he, ρ4, s4, n4, vp4, ps4, h4, hfr4⟩
    rw [HCs2.out, HNow2.out] at h4
    exact ⟨he, ρ4, ⟨s4, n4, vp4, ps4, h4⟩, hfr.trans hfr4⟩
  unfold chg appC at hch2
  simp only at hch2
  have HCh := Hid_mk hch2
  obtain ⟨a3, cap3, hv3, -, -, -⟩ := id hb3
  clear hch hch2 hvb3 h3 h2 hfr3 hfr hold hρ2 ho3 hk3 hb3
  subst hv3
  go_wp2_with fail
  refine HCh.out.mono ?_
  rintro e w4 ⟨rfl, hex⟩
  have HEx := Hid_mk hex
  clear hex
  go_wp2
  go_ret
  exact ⟨rfl, HEx.out⟩

end Go.Proofs.YtmehneicdklfeaaGreat.dsk
