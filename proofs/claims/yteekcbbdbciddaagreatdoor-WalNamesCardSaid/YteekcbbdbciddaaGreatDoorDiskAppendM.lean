/- (*Disk).Append. disk.New, and the Disk's calls that only tell. (*Disk).Sync, (*Disk).Remove. What each call leaves is in bounds still; Append, whether the file is there or not. -/
import Derived.Test.YteekcbbdbciddaaGreatDoorDiskDoM

namespace Go.Proofs.YteekcbbdbciddaaGreatDoor.dsk
open Go.RowKit Go.Maps Go.Proofs.YteekcbbdbciddaaGreatDoor.sum Go.Proofs.YteekcbbdbciddaaGreatDoor.kept Go.Proofs.YteekcbbdbciddaaGreatDoor.app Go.Proofs.YteekcbbdbciddaaGreatDoor.writer Go.Proofs.YteekcbbdbciddaaGreatDoor.clone Go.Proofs.YteekcbbdbciddaaGreatDoor.unseal Go.Proofs.YteekcbbdbciddaaGreatDoor.fs Go.Proofs.YteekcbbdbciddaaGreatDoor.fsMem Go.Proofs.YteekcbbdbciddaaGreatDoor.fsDo Go.Proofs.YteekcbbdbciddaaGreatDoor.fsUsed Go.Proofs.YteekcbbdbciddaaGreatDoor.turned
set_option linter.unusedVariables false

theorem bs_keptE {S : Nat → Prop} {w w' : World} {v : Value} {bs : List UInt8} (h : Bs w v bs) (hk : Kp S w w') (hn : bs ≠ [] → ∀ b o n c, v = .slice (some ⟨b, o, none⟩) n c → ¬ S b) : Bs w' v bs := by
  by_cases hb : bs = []
  · obtain ⟨a, cap, e, h1, h2, h3⟩ := h
    exact ⟨a, cap, e, h1, h2, fun hne => absurd hb hne⟩
  · exact bs_kept h hk (hn hb)

theorem DkAt.rerole {w w' : World} {base p : Nat} {ρ ρ2 : Nat → Role} {d : DSt} {nw : Files} {s n : Nat} {vp : Value} {ps : List (Change × Value)} (h' : DkAt w base p ρ d nw s n vp ps) (hk : Kp No w w') (hρ : ∀ k, k < w.heap.size → ρ2 k = ρ k)
    (hlow : ∀ k, ρ2 k ≠ .other → base ≤ k) (hhi : ∀ k, w'.heap.size ≤ k → ρ2 k = .other) : DkAt w' base p ρ2 d nw s n vp ps := by
  have h := h'.no hk
  refine ⟨h.c0, h.c1, h.c2, h.c3, h.c4, h.c5, h.warm, h'.syn.kept hk (fun _ _ x => x.elim) (fun k hk => by unfold sOf; rw [hρ k hk]), h'.now.kept hk (fun _ _ x => x.elim) (fun k hk => by unfold nOf; rw [hρ k hk]), h.cs, h.pend,
    fun q hq => ⟨(h.byts q hq).1, fun x o m c e => ⟨?_, ((h.byts q hq).2 x o m c e).2⟩⟩, ?_, ?_, ?_, fun g hg => ?_, h.bp, hlow, hhi⟩
  · rw [hρ x ((h'.byts q hq).2 x o m c e).2]; exact ((h'.byts q hq).2 x o m c e).1
  · rw [hρ p h'.lt]; exact h.rp
  · rw [hρ s h'.syn.lt]; exact h.rs
  · rw [hρ n h'.now.lt]; exact h.rn
  · rw [hρ g (h'.pend.lt g hg).2]; exact h.rv g hg

/-- the change that an Append is -/
def appC (name : ByteArray) (bs : List UInt8) : Change := ⟨0, name, ⟨#[]⟩, bs, 0⟩

theorem DkAt.len {w : World} {base p : Nat} {ρ : Nat → Role} {d : DSt} {nw : Files} {s n : Nat} {vp : Value} {ps : List (Change × Value)} (h : DkAt w base p ρ d nw s n vp ps) {o : Oper} {a : Act} (m : Operand) (hm : a.eval m = .map (some n))
    (ho : o.op = Op.call { callee := Callee.builtin Builtin.len, args := #[m], argTypes := #[46] }) (W : World) (hk : Kp No w W) : (execOp a.eval o).run Tryz.prog W = .ok (.value (.int .i64 (nw.length : Int))) W := by
  obtain ⟨_, _, _, val, h4, _⟩ := h.now
  have hl := (ownsMap_kept h4 hk id).len Tryz.underlying46 o.type
  rw [dat_size] at hl
  unfold execOp
  simp [ho, resolve, invoke, builtin, hm, hl, Result.andThen]

def StPost (base p : Nat) (ρ : Nat → Role) (d : DSt) (w : World) (res : Value) (e : Ending) (w' : World) : Prop := e = .returned res ∧ ∃ ρ', Dk w' base p ρ' d ∧ Fr ρ w ρ' w'

set_option maxRecDepth 100000 in
set_option maxHeartbeats 4000000 in
theorem append_there (w : World) (base p M : Nat) (ρ : Nat → Role) (d0 : DSt) (nw : Files) (s n : Nat) (vp : Value) (ps : List (Change × Value)) (name : ByteArray) (vb : Value) (bs : List UInt8) (h0 : DkAt w base p ρ d0 nw s n vp ps) (hok : DOk M d0) (hM : M ≤ 1000000) (hnw : nw = d0.now)
    (hstop : stopB d0 = false) (hname : nameB name = true) (hb : Bs w vb bs) (hvo : bs ≠ [] → ∀ x o m c, vb = .slice (some ⟨x, o, none⟩) m c → ρ x = .other) (hroom : (used nw : Int) + (bs.length : Int) ≤ d0.room) (hget : (fs.get nw (nm name)).isSome = true) :
    Calls Tryz.prog 24 #[.pointer (some ⟨p, 0, none⟩), .string name, vb] w (StPost base p ρ { stopD d0 with cs := d0.cs ++ [appC name bs] } w (.int .i64 0)) := by
  have hsd : (stopD d0).room = d0.room ∧ (stopD d0).syn = d0.syn ∧ (stopD d0).cs = d0.cs := by unfold stopD; split <;> (try split) <;> exact ⟨rfl, rfl, rfl⟩
  have hst := stops_any w base p ρ d0 nw s n vp ps h0 hok.fuse0 hok.fuse1
  have hns : name.size ≤ maxLen := by simp [nameB] at hname; unfold maxLen; omega
  have hnm := fun w => name_any w name hns
  rw [hname] at hnm
  rw [hstop] at hst
  have hlenps : ps.length = d0.cs.length := by rw [← h0.cs, List.length_map]
  have hfew0 := hok.few
  have hrise : Rising nw := h0.now.1
  have hl1 : nw.length ≤ M := by rw [hnw]; exact Nat.le_trans (len_all hok.rising d0.cs) hok.few
  have hu1 : used nw ≤ 8388608 := by have := hok.room1; omega
  obtain ⟨ab, cb, rfl, hcb1, hcb2, -⟩ := id hb
  unfold maxLen at hcb2
  have hlb : bs.length ≤ 8388608 := by have := hok.room1; omega
  have hol := get_len hrise (nm name)
  have HSt := Hid_mk hst
  have HNm := fun w => Hid_mk (hnm w)
  have hsum : IntKind.i64.wrap ((used nw : Int) + (bs.length : Int)) = (used nw : Int) + (bs.length : Int) := IntWalk.i64_in _ (by omega)
  have hdec : decide (d0.room < (used nw : Int) + (bs.length : Int)) = false := by simp; omega
  have hlen2 : True := trivial
  have HBS : Hid (∀ w1, Kp (fun k => k = p) w w1 → Bs w1 (.slice ab bs.length cb) bs ∧ Fr ρ w ρ w1) := Hid_mk fun w1 hk => ⟨bs_keptE hb hk (fun hne b o m c e e2 => by
    have := hvo hne b o m c e
    rw [e2, h0.rp] at this
    cases this), ⟨hk.mono (fun k _ e => by rw [e, h0.rp]; simp), fun _ _ h => h⟩⟩
  have hnow2 : doit nw (appC name bs) = ({ stopD d0 with cs := d0.cs ++ [appC name bs] } : DSt).now := by
    unfold DSt.now
    simp only
    rw [hsd.2.1, all_snoc, hnw]
    rfl
  have HNow2 := Hid_mk hnow2
  have hcs2 : ({ stopD d0 with cs := (stopD d0).cs ++ [appC name bs] } : DSt) = { stopD d0 with cs := d0.cs ++ [appC name bs] } := by rw [hsd.2.2]
  have HCs2 := Hid_mk hcs2
  have hroomd := hsd.1
  clear hb hvo hst hnm hok h0 hnow2 hcs2 hsd hroom hstop hnw
  generalize hd : stopD d0 = d at *
  have HPs : Hid (ps.length ≤ 1000000000000) := Hid_mk (by omega)
  have HLen2 : Hid (nw.length < maxLen) := Hid_mk (by unfold maxLen; omega)
  have HOl : Hid ((old nw (nm name)).length + bs.length ≤ 140737488355328) := Hid_mk (by unfold old; omega)
  have HHn := Hid_mk hns
  have hu2 : used nw ≤ 140737488355328 := by omega
  go_enter Tryz.func24, Tryz.ntmps24
  go_wp2_with fail
  refine HSt.out.mono ?_
  rintro e w1 ⟨rfl, h1, hk1⟩
  have H1 := Hid_mk h1
  have HBS1 := Hid_mk (HBS.out w1 hk1)
  obtain ⟨v, hrow, hlook⟩ := h1.now.look hns
  have hlk := (hlook w1 (Kp.refl _ _)).2
  rw [hget] at hlk
  have e4 := h1.c4
  have hS : ∀ W, Hid (Kp No w1 W) → W.cell? ⟨p, 4, none⟩ = some (.map (some n)) ∧ W.cell? ⟨p, 0, none⟩ = some (.int .i64 d0.room) ∧ Hid (Kp No w1 W) := fun W hW => ⟨hW.out.cell' h1.c4 id, hroomd ▸ hW.out.cell' h1.c0 id, hW⟩
  have HS := Hid_mk hS
  have hus : ∀ W, Hid (Kp No w1 W) → Calls Tryz.prog 51 #[.map (some n)] W fun e W' => e = .returned (.int .i64 (used nw : Int)) ∧ Hid (Kp No w1 W') := by
    intro W hW
    refine (used_any W base n (nOf ρ) nw (h1.no hW.out).now hu2).mono ?_
    rintro e W' ⟨rfl, hk⟩
    exact ⟨rfl, Hid_mk (hW.out.trans' hk)⟩
  have HUsed := Hid_mk hus
  clear h1 hk1 hrow hlook hS hus
  go_wp2_with fail
  refine (HNm _).out.mono ?_
  rintro e w' ⟨rfl, rfl⟩
  go_wp2
  refine wp_region_held_drew (S := (fun W => W.cell? ⟨p, 4, none⟩ = some (.map (some n)) ∧ W.cell? ⟨p, 0, none⟩ = some (.int .i64 d0.room) ∧ Hid (Kp No w1 W))) (by kernel_rfl) (HS.out _ (Hid_mk (Kp.refl No w1).drew)) (fun hHeld => ?_)
  refine wpAnyH_take (i := 0) (oi := { dst := some 23, op := Go.Op.move (Go.Operand.tmp 0), type := 22, pos := "disk.go:39", after := #[], guard := none }) (v := ?_) rfl (by kernel_rfl) (by kernel_rfl) (by kernel_rfl) (fun _ _ _ h => h) (Or.inl ⟨by rfl, ?_⟩) (by assumption) ?_
  rotate_left 1
  · intro w hSw; (try dsimp only at hSw); go_simp; all_goals (with_reducible rfl)
  try simp only [Act.put, List.setIfInBounds_toArray, List.set_cons_zero, List.set_cons_succ]
  refine wpAnyH_take (i := 1) (oi := { dst := some 24, op := Go.Op.nilCheck (Go.Operand.tmp 23), type := 0, pos := "disk.go:39", after := #[{ on := 0, ground := Go.Ground.data }], guard := none }) (v := ?_) rfl (by kernel_rfl) (by kernel_rfl) (by kernel_rfl) (fun _ _ _ h => h) (Or.inl ⟨by rfl, ?_⟩) (by assumption) ?_
  rotate_left 1
  · intro w hSw; (try dsimp only at hSw); go_simp; all_goals (with_reducible rfl)
  try simp only [Act.put, List.setIfInBounds_toArray, List.set_cons_zero, List.set_cons_succ]
  refine wpAnyH_take (i := 2) (oi := { dst := some 25, op := Go.Op.fieldAddr 49 (Go.Operand.tmp 24) 4, type := 0, pos := "disk.go:39", after := #[{ on := 1, ground := Go.Ground.data }], guard := none }) (v := ?_) rfl (by kernel_rfl) (by kernel_rfl) (by kernel_rfl) (fun _ _ _ h => h) (Or.inl ⟨by rfl, ?_⟩) (by assumption) ?_
  rotate_left 1
  · intro w hSw; (try dsimp only at hSw); go_simp; all_goals (with_reducible rfl)
  try simp only [Act.put, List.setIfInBounds_toArray, List.set_cons_zero, List.set_cons_succ]
  refine wpAnyH_take (i := 3) (oi := { dst := some 26, op := Go.Op.load 46 (Go.Operand.tmp 25), type := 46, pos := "disk.go:39", after := #[{ on := 2, ground := Go.Ground.data }], guard := none }) (v := ?_) rfl (by kernel_rfl) (by kernel_rfl) (by kernel_rfl) (fun _ _ _ h => h) (Or.inl ⟨by rfl, ?_⟩) (by assumption) ?_
  rotate_left 1
  · intro w hSw; (try dsimp only at hSw); go_simp; all_goals (with_reducible rfl)
  try simp only [Act.put, List.setIfInBounds_toArray, List.set_cons_zero, List.set_cons_succ]
  refine wpAnyH_take (i := 5) (oi := { dst := some 28, op := Go.Op.move (Go.Operand.tmp 2), type := 34, pos := "disk.go:39", after := #[], guard := none }) (v := ?_) rfl (by kernel_rfl) (by kernel_rfl) (by kernel_rfl) (fun _ _ _ h => h) (Or.inl ⟨by rfl, ?_⟩) (by assumption) ?_
  rotate_left 1
  · intro w hSw; (try dsimp only at hSw); go_simp; all_goals (with_reducible rfl)
  try simp only [Act.put, List.setIfInBounds_toArray, List.set_cons_zero, List.set_cons_succ]
  refine wpAnyH_take (i := 6) (oi := { dst := some 29, op := Go.Op.call { callee := Go.Callee.builtin Go.Builtin.len, args := #[Go.Operand.tmp 28], argTypes := #[34] }, type := 3, pos := "disk.go:39", after := #[{ on := 5, ground := Go.Ground.data }], guard := none }) (v := ?_) rfl (by kernel_rfl) (by kernel_rfl) (by kernel_rfl) (fun _ _ _ h => h) (Or.inl ⟨by rfl, ?_⟩) (by assumption) ?_
  rotate_left 1
  · intro w hSw; (try dsimp only at hSw); go_simp; all_goals (with_reducible rfl)
  try simp only [Act.put, List.setIfInBounds_toArray, List.set_cons_zero, List.set_cons_succ]
  refine wpAnyH_take (i := 8) (oi := { dst := some 31, op := Go.Op.move (Go.Operand.tmp 0), type := 22, pos := "disk.go:39", after := #[], guard := none }) (v := ?_) rfl (by kernel_rfl) (by kernel_rfl) (by kernel_rfl) (fun _ _ _ h => h) (Or.inl ⟨by rfl, ?_⟩) (by assumption) ?_
  rotate_left 1
  · intro w hSw; (try dsimp only at hSw); go_simp; all_goals (with_reducible rfl)
  try simp only [Act.put, List.setIfInBounds_toArray, List.set_cons_zero, List.set_cons_succ]
  refine wpAnyH_take (i := 9) (oi := { dst := some 32, op := Go.Op.nilCheck (Go.Operand.tmp 31), type := 0, pos := "disk.go:39", after := #[{ on := 8, ground := Go.Ground.data }], guard := none }) (v := ?_) rfl (by kernel_rfl) (by kernel_rfl) (by kernel_rfl) (fun _ _ _ h => h) (Or.inl ⟨by rfl, ?_⟩) (by assumption) ?_
  rotate_left 1
  · intro w hSw; (try dsimp only at hSw); go_simp; all_goals (with_reducible rfl)
  try simp only [Act.put, List.setIfInBounds_toArray, List.set_cons_zero, List.set_cons_succ]
  refine wpAnyH_take (i := 10) (oi := { dst := some 33, op := Go.Op.fieldAddr 49 (Go.Operand.tmp 32) 0, type := 0, pos := "disk.go:39", after := #[{ on := 9, ground := Go.Ground.data }], guard := none }) (v := ?_) rfl (by kernel_rfl) (by kernel_rfl) (by kernel_rfl) (fun _ _ _ h => h) (Or.inl ⟨by rfl, ?_⟩) (by assumption) ?_
  rotate_left 1
  · intro w hSw; (try dsimp only at hSw); go_simp; all_goals (with_reducible rfl)
  try simp only [Act.put, List.setIfInBounds_toArray, List.set_cons_zero, List.set_cons_succ]
  refine wpAnyH_take (i := 11) (oi := { dst := some 34, op := Go.Op.load 3 (Go.Operand.tmp 33), type := 3, pos := "disk.go:39", after := #[{ on := 10, ground := Go.Ground.data }], guard := none }) (v := ?_) rfl (by kernel_rfl) (by kernel_rfl) (by kernel_rfl) (fun _ _ _ h => h) (Or.inl ⟨by rfl, ?_⟩) (by assumption) ?_
  rotate_left 1
  · intro w hSw; (try dsimp only at hSw); go_simp; all_goals (with_reducible rfl)
  try simp only [Act.put, List.setIfInBounds_toArray, List.set_cons_zero, List.set_cons_succ]
  refine wpAnyH_ready (rs := [4]) (by kernel_rfl) (by simp) ?_
  refine AllReadyH.cons (o := { dst := some 27, op := Go.Op.call { callee := Go.Callee.value (Go.Operand.func 51), args := #[Go.Operand.tmp 26], argTypes := #[46] }, type := 3, pos := "disk.go:39", after := #[{ on := 3, ground := Go.Ground.data }], guard := none }) rfl (fun K hK => ?_) AllReadyH.nil
  go_simp
  (with_reducible refine (HUsed.out _ (Hid_mk (Kp.refl No w1).drew)).mono ?_)
  rintro e w2 ⟨rfl, hk2⟩
  have hS2 := HS.out w2 hk2
  refine hK.out _ _ hS2 (fun hHeld => ?_)
  clear hK K
  try simp only [Act.put, List.setIfInBounds_toArray, List.set_cons_zero, List.set_cons_succ]
  refine wpAnyH_take (i := 7) (oi := { dst := some 30, op := Go.Op.binOp Go.BinOp.add 3 (Go.Operand.tmp 27) (Go.Operand.tmp 29) 3, type := 3, pos := "disk.go:39", after := #[{ on := 4, ground := Go.Ground.data }, { on := 6, ground := Go.Ground.data }], guard := none }) (v := ?_) rfl (by kernel_rfl) (by kernel_rfl) (by kernel_rfl) (fun _ _ _ h => h) (Or.inl ⟨by rfl, ?_⟩) (by assumption) ?_
  rotate_left 1
  · intro w hSw; (try dsimp only at hSw); go_simp; all_goals (with_reducible rfl)
  try simp only [Act.put, List.setIfInBounds_toArray, List.set_cons_zero, List.set_cons_succ]
  refine wpAnyH_take (i := 12) (oi := { dst := some 35, op := Go.Op.binOp Go.BinOp.gtr 3 (Go.Operand.tmp 30) (Go.Operand.tmp 34) 3, type := 4, pos := "disk.go:39", after := #[{ on := 7, ground := Go.Ground.data }, { on := 11, ground := Go.Ground.data }], guard := none }) (v := ?_) rfl (by kernel_rfl) (by kernel_rfl) (by kernel_rfl) (fun _ _ _ h => h) (Or.inl ⟨by rfl, ?_⟩) (by assumption) ?_
  rotate_left 1
  · intro w hSw; (try dsimp only at hSw); go_simp; all_goals (with_reducible rfl)
  try simp only [Act.put, List.setIfInBounds_toArray, List.set_cons_zero, List.set_cons_succ]
  refine wpAnyH_take (i := 13) (oi := { dst := some 36, op := Go.Op.move (Go.Operand.tmp 35), type := 4, pos := "disk.go:39", after := #[{ on := 12, ground := Go.Ground.data }, { on := 4, ground := Go.Ground.chain }], guard := none }) (v := ?_) rfl (by kernel_rfl) (by kernel_rfl) (by kernel_rfl) (fun _ _ _ h => h) (Or.inl ⟨by rfl, ?_⟩) (by assumption) ?_
  rotate_left 1
  · intro w hSw; (try dsimp only at hSw); go_simp; all_goals (with_reducible rfl)
  try simp only [Act.put, List.setIfInBounds_toArray, List.set_cons_zero, List.set_cons_succ]
  refine wpAnyH_take (i := 14) (oi := { dst := some 37, op := Go.Op.move (Go.Operand.tmp 8), type := 4, pos := "disk.go:39", after := #[{ on := 13, ground := Go.Ground.guard }], guard := some (13, false) }) (v := ?_) rfl (by kernel_rfl) (by kernel_rfl) (by kernel_rfl) (fun _ _ _ h => h) (Or.inl ⟨by rfl, ?_⟩) (by assumption) ?_
  rotate_left 1
  · intro w hSw; (try dsimp only at hSw); go_simp; all_goals (with_reducible rfl)
  try simp only [Act.put, List.setIfInBounds_toArray, List.set_cons_zero, List.set_cons_succ]
  refine wpAnyH_take (i := 15) (oi := { dst := some 38, op := Go.Op.unOp Go.UnOp.not 4 (Go.Operand.tmp 37), type := 4, pos := "disk.go:39", after := #[{ on := 14, ground := Go.Ground.data }, { on := 13, ground := Go.Ground.guard }], guard := some (13, false) }) (v := ?_) rfl (by kernel_rfl) (by kernel_rfl) (by kernel_rfl) (fun _ _ _ h => h) (Or.inl ⟨by rfl, ?_⟩) (by assumption) ?_
  rotate_left 1
  · intro w hSw; (try dsimp only at hSw); go_simp; all_goals (with_reducible rfl)
  try simp only [Act.put, List.setIfInBounds_toArray, List.set_cons_zero, List.set_cons_succ]
  refine wpAnyH_take (i := 16) (oi := { dst := some 39, op := Go.Op.move (Go.Operand.tmp 38), type := 4, pos := "disk.go:39", after := #[{ on := 15, ground := Go.Ground.data }, { on := 13, ground := Go.Ground.chain }, { on := 13, ground := Go.Ground.guard }], guard := some (13, false) }) (v := ?_) rfl (by kernel_rfl) (by kernel_rfl) (by kernel_rfl) (fun _ _ _ h => h) (Or.inl ⟨by rfl, ?_⟩) (by assumption) ?_
  rotate_left 1
  · intro w hSw; (try dsimp only at hSw); go_simp; all_goals (with_reducible rfl)
  try simp only [Act.put, List.setIfInBounds_toArray, List.set_cons_zero, List.set_cons_succ]
  refine wpAnyH_take (i := 17) (oi := { dst := some 40, op := Go.Op.move (Go.Operand.tmp 0), type := 22, pos := "disk.go:39", after := #[{ on := 16, ground := Go.Ground.guard }], guard := some (16, true) }) (v := undef) rfl (by kernel_rfl) (by kernel_rfl) (by kernel_rfl) (fun _ _ _ h => h) (Or.inr ⟨by rfl, rfl⟩) (by assumption) ?_
  try simp only [Act.put, List.setIfInBounds_toArray, List.set_cons_zero, List.set_cons_succ]
  refine wpAnyH_take (i := 18) (oi := { dst := some 41, op := Go.Op.nilCheck (Go.Operand.tmp 40), type := 0, pos := "disk.go:39", after := #[{ on := 17, ground := Go.Ground.data }, { on := 16, ground := Go.Ground.guard }], guard := some (16, true) }) (v := undef) rfl (by kernel_rfl) (by kernel_rfl) (by kernel_rfl) (fun _ _ _ h => h) (Or.inr ⟨by rfl, rfl⟩) (by assumption) ?_
  try simp only [Act.put, List.setIfInBounds_toArray, List.set_cons_zero, List.set_cons_succ]
  refine wpAnyH_take (i := 19) (oi := { dst := some 42, op := Go.Op.fieldAddr 49 (Go.Operand.tmp 41) 4, type := 0, pos := "disk.go:39", after := #[{ on := 18, ground := Go.Ground.data }, { on := 16, ground := Go.Ground.guard }], guard := some (16, true) }) (v := undef) rfl (by kernel_rfl) (by kernel_rfl) (by kernel_rfl) (fun _ _ _ h => h) (Or.inr ⟨by rfl, rfl⟩) (by assumption) ?_
  try simp only [Act.put, List.setIfInBounds_toArray, List.set_cons_zero, List.set_cons_succ]
  refine wpAnyH_take (i := 20) (oi := { dst := some 43, op := Go.Op.load 46 (Go.Operand.tmp 42), type := 46, pos := "disk.go:39", after := #[{ on := 19, ground := Go.Ground.data }, { on := 16, ground := Go.Ground.guard }], guard := some (16, true) }) (v := undef) rfl (by kernel_rfl) (by kernel_rfl) (by kernel_rfl) (fun _ _ _ h => h) (Or.inr ⟨by rfl, rfl⟩) (by assumption) ?_
  try simp only [Act.put, List.setIfInBounds_toArray, List.set_cons_zero, List.set_cons_succ]
  refine wpAnyH_take (i := 21) (oi := { dst := some 44, op := Go.Op.call { callee := Go.Callee.builtin Go.Builtin.len, args := #[Go.Operand.tmp 43], argTypes := #[46] }, type := 3, pos := "disk.go:39", after := #[{ on := 20, ground := Go.Ground.data }, { on := 16, ground := Go.Ground.chain }, { on := 16, ground := Go.Ground.guard }], guard := some (16, true) }) (v := undef) rfl (by kernel_rfl) (by kernel_rfl) (by kernel_rfl) (fun _ _ _ h => h) (Or.inr ⟨by rfl, rfl⟩) (by assumption) ?_
  try simp only [Act.put, List.setIfInBounds_toArray, List.set_cons_zero, List.set_cons_succ]
  refine wpAnyH_take (i := 22) (oi := { dst := some 45, op := Go.Op.binOp Go.BinOp.geq 3 (Go.Operand.tmp 44) (Go.Operand.const (Go.Value.int Go.IntKind.i64 64)) 3, type := 4, pos := "disk.go:39", after := #[{ on := 21, ground := Go.Ground.data }, { on := 16, ground := Go.Ground.guard }], guard := some (16, true) }) (v := undef) rfl (by kernel_rfl) (by kernel_rfl) (by kernel_rfl) (fun _ _ _ h => h) (Or.inr ⟨by rfl, rfl⟩) (by assumption) ?_
  try simp only [Act.put, List.setIfInBounds_toArray, List.set_cons_zero, List.set_cons_succ]
  refine wpAnyH_take (i := 23) (oi := { dst := some 46, op := Go.Op.pick (Go.Operand.tmp 39) (Go.Operand.tmp 45) (Go.Operand.const (Go.Value.bool false)), type := 4, pos := "disk.go:39", after := #[{ on := 16, ground := Go.Ground.data }, { on := 22, ground := Go.Ground.data }, { on := 13, ground := Go.Ground.guard }], guard := some (13, false) }) (v := ?_) rfl (by kernel_rfl) (by kernel_rfl) (by kernel_rfl) (fun _ _ _ h => h) (Or.inl ⟨by rfl, ?_⟩) (by assumption) ?_
  rotate_left 1
  · intro w hSw; (try dsimp only at hSw); go_simp; all_goals (with_reducible rfl)
  try simp only [Act.put, List.setIfInBounds_toArray, List.set_cons_zero, List.set_cons_succ]
  refine wpAnyH_take (i := 24) (oi := { dst := some 47, op := Go.Op.pick (Go.Operand.tmp 36) (Go.Operand.const (Go.Value.bool true)) (Go.Operand.tmp 46), type := 4, pos := "disk.go:39", after := #[{ on := 13, ground := Go.Ground.data }, { on := 23, ground := Go.Ground.data }], guard := none }) (v := ?_) rfl (by kernel_rfl) (by kernel_rfl) (by kernel_rfl) (fun _ _ _ h => h) (Or.inl ⟨by rfl, ?_⟩) (by assumption) ?_
  rotate_left 1
  · intro w hSw; (try dsimp only at hSw); go_simp; all_goals (with_reducible rfl)
  try simp only [Act.put, List.setIfInBounds_toArray, List.set_cons_zero, List.set_cons_succ]
  refine wpAnyH_done (by kernel_rfl) ?_ _
  have hbs2 := bs_no HBS1.out.1 hk2.out
  have HBs2 := Hid_mk hbs2
  clear hlk e4 HUsed hS2 hHeld hbs2
  go_wp2_with fail
  refine (clone_any w2 _ bs HBs2.out (by omega)).mono ?_
  rintro e w3 ⟨v3, rfl, ho3, hk3⟩
  have hb3 := owns_bs ho3
  have h2 := H1.out.no hk2.out
  obtain ⟨ρ2, hρ2⟩ : ∃ ρ2 : Nat → Role, ρ2 = fun k => if some k = v3.ownBlock then .byt else ρ k := ⟨_, rfl⟩
  have hold : ∀ k, k < w2.heap.size → ρ2 k = ρ k := fun k hk => by
    rw [hρ2]; simp only; rw [if_neg]
    intro e; have := (ho3.lt k e.symm).1; omega
  have h3 : DkAt w3 base p ρ2 d nw s n vp ps := h2.rerole hk3 hold (fun k hk => by
      rw [hρ2] at hk; simp only at hk
      split at hk
      · rename_i e; have := (ho3.lt k e.symm).1; have := h2.bp; have := h2.lt; omega
      · exact h2.low k hk) (fun k hk => by
      rw [hρ2]; simp only; rw [if_neg (fun e => by have := (ho3.lt k e.symm).2; omega)]
      exact h2.hi k (by have := hk3.size; omega))
  have hfr3 : Fr ρ w2 ρ2 w3 := ⟨hk3.to, fun k hk e => by rw [hold k hk]; exact e⟩
  have hvb3 : ∀ x o m cc, v3 = .slice (some ⟨x, o, none⟩) m cc → ρ2 x = .byt ∧ x < w3.heap.size := fun x o m cc e => by
    have hob : v3.ownBlock = some x := by rw [e]; rfl
    exact ⟨by rw [hρ2]; simp [hob], (ho3.lt x hob).2⟩
  have hch := change_any w3 base p ρ2 d nw s n vp ps (appC name bs) v3 h3 ⟨by show (0 : Nat) < 4; omega, fun e => by cases e⟩ hb3 hvb3 HHn.out (by show (0 : Nat) ≤ _; exact Nat.zero_le _) HLen2.out (fun _ => HOl.out) HPs.out
  have hfr : Fr ρ w ρ2 w3 := (HBS1.out.2.trans (Fr.of_no hk2.out)).trans hfr3
  have hch2 : Calls Tryz.prog 52 #[.pointer (some ⟨p, 0, none⟩), chg (appC name bs) v3] w3 (StPost base p ρ { d with cs := d0.cs ++ [appC name bs] } w (.tuple #[])) := by
    refine hch.mono ?_
    rintro e w4 ⟨he, ρ4, s4, n4, vp4, ps4, h4, hfr4⟩
    rw [HCs2.out, HNow2.out] at h4
    exact ⟨he, ρ4, ⟨s4, n4, vp4, ps4, h4⟩, hfr.trans hfr4⟩
  unfold chg appC at hch2
  simp only at hch2
  have HCh := Hid_mk hch2
  obtain ⟨a3, cap3, hv3, -, -, -⟩ := id hb3
  clear hch hch2 hvb3 h3 h2 hfr3 hfr hold hρ2 ho3 hk3 hb3
  subst hv3
  go_wp2_with fail
  refine HCh.out.mono ?_
  rintro e w4 ⟨rfl, hex⟩
  have HEx := Hid_mk hex
  clear hex
  go_wp2
  go_ret
  exact ⟨rfl, HEx.out⟩

set_option maxRecDepth 100000 in
set_option maxHeartbeats 4000000 in
theorem append_new (w : World) (base p M : Nat) (ρ : Nat → Role) (d0 : DSt) (nw : Files) (s n : Nat) (vp : Value) (ps : List (Change × Value)) (name : ByteArray) (vb : Value) (bs : List UInt8) (h0 : DkAt w base p ρ d0 nw s n vp ps) (hok : DOk M d0) (hM : M ≤ 1000000) (hnw : nw = d0.now)
    (hstop : stopB d0 = false) (hname : nameB name = true) (hb : Bs w vb bs) (hvo : bs ≠ [] → ∀ x o m c, vb = .slice (some ⟨x, o, none⟩) m c → ρ x = .other) (hroom : (used nw : Int) + (bs.length : Int) ≤ d0.room) (hget : (fs.get nw (nm name)).isSome = false) (hfew : nw.length < 64) :
    Calls Tryz.prog 24 #[.pointer (some ⟨p, 0, none⟩), .string name, vb] w (StPost base p ρ { stopD d0 with cs := d0.cs ++ [appC name bs] } w (.int .i64 0)) := by
  have hsd : (stopD d0).room = d0.room ∧ (stopD d0).syn = d0.syn ∧ (stopD d0).cs = d0.cs := by unfold stopD; split <;> (try split) <;> exact ⟨rfl, rfl, rfl⟩
  have hst := stops_any w base p ρ d0 nw s n vp ps h0 hok.fuse0 hok.fuse1
  have hns : name.size ≤ maxLen := by simp [nameB] at hname; unfold maxLen; omega
  have hnm := fun w => name_any w name hns
  rw [hname] at hnm
  rw [hstop] at hst
  have hlenps : ps.length = d0.cs.length := by rw [← h0.cs, List.length_map]
  have hfew0 := hok.few
  have hrise : Rising nw := h0.now.1
  have hl1 : nw.length ≤ M := by rw [hnw]; exact Nat.le_trans (len_all hok.rising d0.cs) hok.few
  have hu1 : used nw ≤ 8388608 := by have := hok.room1; omega
  obtain ⟨ab, cb, rfl, hcb1, hcb2, -⟩ := id hb
  unfold maxLen at hcb2
  have hlb : bs.length ≤ 8388608 := by have := hok.room1; omega
  have hol := get_len hrise (nm name)
  have HSt := Hid_mk hst
  have HNm := fun w => Hid_mk (hnm w)
  have hsum : IntKind.i64.wrap ((used nw : Int) + (bs.length : Int)) = (used nw : Int) + (bs.length : Int) := IntWalk.i64_in _ (by omega)
  have hdec : decide (d0.room < (used nw : Int) + (bs.length : Int)) = false := by simp; omega
  have hlen2 : decide (64 ≤ (nw.length : Int)) = false := by simp; omega
  have HBS : Hid (∀ w1, Kp (fun k => k = p) w w1 → Bs w1 (.slice ab bs.length cb) bs ∧ Fr ρ w ρ w1) := Hid_mk fun w1 hk => ⟨bs_keptE hb hk (fun hne b o m c e e2 => by
    have := hvo hne b o m c e
    rw [e2, h0.rp] at this
    cases this), ⟨hk.mono (fun k _ e => by rw [e, h0.rp]; simp), fun _ _ h => h⟩⟩
  have hnow2 : doit nw (appC name bs) = ({ stopD d0 with cs := d0.cs ++ [appC name bs] } : DSt).now := by
    unfold DSt.now
    simp only
    rw [hsd.2.1, all_snoc, hnw]
    rfl
  have HNow2 := Hid_mk hnow2
  have hcs2 : ({ stopD d0 with cs := (stopD d0).cs ++ [appC name bs] } : DSt) = { stopD d0 with cs := d0.cs ++ [appC name bs] } := by rw [hsd.2.2]
  have HCs2 := Hid_mk hcs2
  have hroomd := hsd.1
  clear hb hvo hst hnm hok h0 hnow2 hcs2 hsd hroom hstop hnw
  generalize hd : stopD d0 = d at *
  have HPs : Hid (ps.length ≤ 1000000000000) := Hid_mk (by omega)
  have HLen2 : Hid (nw.length < maxLen) := Hid_mk (by unfold maxLen; omega)
  have HOl : Hid ((old nw (nm name)).length + bs.length ≤ 140737488355328) := Hid_mk (by unfold old; omega)
  have HHn := Hid_mk hns
  have hu2 : used nw ≤ 140737488355328 := by omega
  go_enter Tryz.func24, Tryz.ntmps24
  go_wp2_with fail
  refine HSt.out.mono ?_
  rintro e w1 ⟨rfl, h1, hk1⟩
  have H1 := Hid_mk h1
  have HBS1 := Hid_mk (HBS.out w1 hk1)
  obtain ⟨v, hrow, hlook⟩ := h1.now.look hns
  have hlk := (hlook w1 (Kp.refl _ _)).2
  rw [hget] at hlk
  have e4 := h1.c4
  have hS : ∀ W, Hid (Kp No w1 W) → W.cell? ⟨p, 4, none⟩ = some (.map (some n)) ∧ W.cell? ⟨p, 0, none⟩ = some (.int .i64 d0.room) ∧ Hid (Kp No w1 W) := fun W hW => ⟨hW.out.cell' h1.c4 id, hroomd ▸ hW.out.cell' h1.c0 id, hW⟩
  have HS := Hid_mk hS
  have hus : ∀ W, Hid (Kp No w1 W) → Calls Tryz.prog 51 #[.map (some n)] W fun e W' => e = .returned (.int .i64 (used nw : Int)) ∧ Hid (Kp No w1 W') := by
    intro W hW
    refine (used_any W base n (nOf ρ) nw (h1.no hW.out).now hu2).mono ?_
    rintro e W' ⟨rfl, hk⟩
    exact ⟨rfl, Hid_mk (hW.out.trans' hk)⟩
  have HUsed := Hid_mk hus
  clear h1 hk1 hrow hlook hS hus
  go_wp2_with fail
  refine (HNm _).out.mono ?_
  rintro e w' ⟨rfl, rfl⟩
  go_wp2
  refine wp_region_held_drew (S := (fun W => W.cell? ⟨p, 4, none⟩ = some (.map (some n)) ∧ W.cell? ⟨p, 0, none⟩ = some (.int .i64 d0.room) ∧ Hid (Kp No w1 W))) (by kernel_rfl) (HS.out _ (Hid_mk (Kp.refl No w1).drew)) (fun hHeld => ?_)
  refine wpAnyH_take (i := 0) (oi := { dst := some 23, op := Go.Op.move (Go.Operand.tmp 0), type := 22, pos := "disk.go:39", after := #[], guard := none }) (v := ?_) rfl (by kernel_rfl) (by kernel_rfl) (by kernel_rfl) (fun _ _ _ h => h) (Or.inl ⟨by rfl, ?_⟩) (by assumption) ?_
  rotate_left 1
  · intro w hSw; (try dsimp only at hSw); go_simp; all_goals (with_reducible rfl)
  try simp only [Act.put, List.setIfInBounds_toArray, List.set_cons_zero, List.set_cons_succ]
  refine wpAnyH_take (i := 1) (oi := { dst := some 24, op := Go.Op.nilCheck (Go.Operand.tmp 23), type := 0, pos := "disk.go:39", after := #[{ on := 0, ground := Go.Ground.data }], guard := none }) (v := ?_) rfl (by kernel_rfl) (by kernel_rfl) (by kernel_rfl) (fun _ _ _ h => h) (Or.inl ⟨by rfl, ?_⟩) (by assumption) ?_
  rotate_left 1
  · intro w hSw; (try dsimp only at hSw); go_simp; all_goals (with_reducible rfl)
  try simp only [Act.put, List.setIfInBounds_toArray, List.set_cons_zero, List.set_cons_succ]
  refine wpAnyH_take (i := 2) (oi := { dst := some 25, op := Go.Op.fieldAddr 49 (Go.Operand.tmp 24) 4, type := 0, pos := "disk.go:39", after := #[{ on := 1, ground := Go.Ground.data }], guard := none }) (v := ?_) rfl (by kernel_rfl) (by kernel_rfl) (by kernel_rfl) (fun _ _ _ h => h) (Or.inl ⟨by rfl, ?_⟩) (by assumption) ?_
  rotate_left 1
  · intro w hSw; (try dsimp only at hSw); go_simp; all_goals (with_reducible rfl)
  try simp only [Act.put, List.setIfInBounds_toArray, List.set_cons_zero, List.set_cons_succ]
  refine wpAnyH_take (i := 3) (oi := { dst := some 26, op := Go.Op.load 46 (Go.Operand.tmp 25), type := 46, pos := "disk.go:39", after := #[{ on := 2, ground := Go.Ground.data }], guard := none }) (v := ?_) rfl (by kernel_rfl) (by kernel_rfl) (by kernel_rfl) (fun _ _ _ h => h) (Or.inl ⟨by rfl, ?_⟩) (by assumption) ?_
  rotate_left 1
  · intro w hSw; (try dsimp only at hSw); go_simp; all_goals (with_reducible rfl)
  try simp only [Act.put, List.setIfInBounds_toArray, List.set_cons_zero, List.set_cons_succ]
  refine wpAnyH_take (i := 5) (oi := { dst := some 28, op := Go.Op.move (Go.Operand.tmp 2), type := 34, pos := "disk.go:39", after := #[], guard := none }) (v := ?_) rfl (by kernel_rfl) (by kernel_rfl) (by kernel_rfl) (fun _ _ _ h => h) (Or.inl ⟨by rfl, ?_⟩) (by assumption) ?_
  rotate_left 1
  · intro w hSw; (try dsimp only at hSw); go_simp; all_goals (with_reducible rfl)
  try simp only [Act.put, List.setIfInBounds_toArray, List.set_cons_zero, List.set_cons_succ]
  refine wpAnyH_take (i := 6) (oi := { dst := some 29, op := Go.Op.call { callee := Go.Callee.builtin Go.Builtin.len, args := #[Go.Operand.tmp 28], argTypes := #[34] }, type := 3, pos := "disk.go:39", after := #[{ on := 5, ground := Go.Ground.data }], guard := none }) (v := ?_) rfl (by kernel_rfl) (by kernel_rfl) (by kernel_rfl) (fun _ _ _ h => h) (Or.inl ⟨by rfl, ?_⟩) (by assumption) ?_
  rotate_left 1
  · intro w hSw; (try dsimp only at hSw); go_simp; all_goals (with_reducible rfl)
  try simp only [Act.put, List.setIfInBounds_toArray, List.set_cons_zero, List.set_cons_succ]
  refine wpAnyH_take (i := 8) (oi := { dst := some 31, op := Go.Op.move (Go.Operand.tmp 0), type := 22, pos := "disk.go:39", after := #[], guard := none }) (v := ?_) rfl (by kernel_rfl) (by kernel_rfl) (by kernel_rfl) (fun _ _ _ h => h) (Or.inl ⟨by rfl, ?_⟩) (by assumption) ?_
  rotate_left 1
  · intro w hSw; (try dsimp only at hSw); go_simp; all_goals (with_reducible rfl)
  try simp only [Act.put, List.setIfInBounds_toArray, List.set_cons_zero, List.set_cons_succ]
  refine wpAnyH_take (i := 9) (oi := { dst := some 32, op := Go.Op.nilCheck (Go.Operand.tmp 31), type := 0, pos := "disk.go:39", after := #[{ on := 8, ground := Go.Ground.data }], guard := none }) (v := ?_) rfl (by kernel_rfl) (by kernel_rfl) (by kernel_rfl) (fun _ _ _ h => h) (Or.inl ⟨by rfl, ?_⟩) (by assumption) ?_
  rotate_left 1
  · intro w hSw; (try dsimp only at hSw); go_simp; all_goals (with_reducible rfl)
  try simp only [Act.put, List.setIfInBounds_toArray, List.set_cons_zero, List.set_cons_succ]
  refine wpAnyH_take (i := 10) (oi := { dst := some 33, op := Go.Op.fieldAddr 49 (Go.Operand.tmp 32) 0, type := 0, pos := "disk.go:39", after := #[{ on := 9, ground := Go.Ground.data }], guard := none }) (v := ?_) rfl (by kernel_rfl) (by kernel_rfl) (by kernel_rfl) (fun _ _ _ h => h) (Or.inl ⟨by rfl, ?_⟩) (by assumption) ?_
  rotate_left 1
  · intro w hSw; (try dsimp only at hSw); go_simp; all_goals (with_reducible rfl)
  try simp only [Act.put, List.setIfInBounds_toArray, List.set_cons_zero, List.set_cons_succ]
  refine wpAnyH_take (i := 11) (oi := { dst := some 34, op := Go.Op.load 3 (Go.Operand.tmp 33), type := 3, pos := "disk.go:39", after := #[{ on := 10, ground := Go.Ground.data }], guard := none }) (v := ?_) rfl (by kernel_rfl) (by kernel_rfl) (by kernel_rfl) (fun _ _ _ h => h) (Or.inl ⟨by rfl, ?_⟩) (by assumption) ?_
  rotate_left 1
  · intro w hSw; (try dsimp only at hSw); go_simp; all_goals (with_reducible rfl)
  try simp only [Act.put, List.setIfInBounds_toArray, List.set_cons_zero, List.set_cons_succ]
  refine wpAnyH_ready (rs := [4]) (by kernel_rfl) (by simp) ?_
  refine AllReadyH.cons (o := { dst := some 27, op := Go.Op.call { callee := Go.Callee.value (Go.Operand.func 51), args := #[Go.Operand.tmp 26], argTypes := #[46] }, type := 3, pos := "disk.go:39", after := #[{ on := 3, ground := Go.Ground.data }], guard := none }) rfl (fun K hK => ?_) AllReadyH.nil
  go_simp
  (with_reducible refine (HUsed.out _ (Hid_mk (Kp.refl No w1).drew)).mono ?_)
  rintro e w2 ⟨rfl, hk2⟩
  have hS2 := HS.out w2 hk2
  refine hK.out _ _ hS2 (fun hHeld => ?_)
  clear hK K
  try simp only [Act.put, List.setIfInBounds_toArray, List.set_cons_zero, List.set_cons_succ]
  refine wpAnyH_take (i := 7) (oi := { dst := some 30, op := Go.Op.binOp Go.BinOp.add 3 (Go.Operand.tmp 27) (Go.Operand.tmp 29) 3, type := 3, pos := "disk.go:39", after := #[{ on := 4, ground := Go.Ground.data }, { on := 6, ground := Go.Ground.data }], guard := none }) (v := ?_) rfl (by kernel_rfl) (by kernel_rfl) (by kernel_rfl) (fun _ _ _ h => h) (Or.inl ⟨by rfl, ?_⟩) (by assumption) ?_
  rotate_left 1
  · intro w hSw; (try dsimp only at hSw); go_simp; all_goals (with_reducible rfl)
  try simp only [Act.put, List.setIfInBounds_toArray, List.set_cons_zero, List.set_cons_succ]
  refine wpAnyH_take (i := 12) (oi := { dst := some 35, op := Go.Op.binOp Go.BinOp.gtr 3 (Go.Operand.tmp 30) (Go.Operand.tmp 34) 3, type := 4, pos := "disk.go:39", after := #[{ on := 7, ground := Go.Ground.data }, { on := 11, ground := Go.Ground.data }], guard := none }) (v := ?_) rfl (by kernel_rfl) (by kernel_rfl) (by kernel_rfl) (fun _ _ _ h => h) (Or.inl ⟨by rfl, ?_⟩) (by assumption) ?_
  rotate_left 1
  · intro w hSw; (try dsimp only at hSw); go_simp; all_goals (with_reducible rfl)
  try simp only [Act.put, List.setIfInBounds_toArray, List.set_cons_zero, List.set_cons_succ]
  refine wpAnyH_take (i := 13) (oi := { dst := some 36, op := Go.Op.move (Go.Operand.tmp 35), type := 4, pos := "disk.go:39", after := #[{ on := 12, ground := Go.Ground.data }, { on := 4, ground := Go.Ground.chain }], guard := none }) (v := ?_) rfl (by kernel_rfl) (by kernel_rfl) (by kernel_rfl) (fun _ _ _ h => h) (Or.inl ⟨by rfl, ?_⟩) (by assumption) ?_
  rotate_left 1
  · intro w hSw; (try dsimp only at hSw); go_simp; all_goals (with_reducible rfl)
  try simp only [Act.put, List.setIfInBounds_toArray, List.set_cons_zero, List.set_cons_succ]
  refine wpAnyH_take (i := 14) (oi := { dst := some 37, op := Go.Op.move (Go.Operand.tmp 8), type := 4, pos := "disk.go:39", after := #[{ on := 13, ground := Go.Ground.guard }], guard := some (13, false) }) (v := ?_) rfl (by kernel_rfl) (by kernel_rfl) (by kernel_rfl) (fun _ _ _ h => h) (Or.inl ⟨by rfl, ?_⟩) (by assumption) ?_
  rotate_left 1
  · intro w hSw; (try dsimp only at hSw); go_simp; all_goals (with_reducible rfl)
  try simp only [Act.put, List.setIfInBounds_toArray, List.set_cons_zero, List.set_cons_succ]
  refine wpAnyH_take (i := 15) (oi := { dst := some 38, op := Go.Op.unOp Go.UnOp.not 4 (Go.Operand.tmp 37), type := 4, pos := "disk.go:39", after := #[{ on := 14, ground := Go.Ground.data }, { on := 13, ground := Go.Ground.guard }], guard := some (13, false) }) (v := ?_) rfl (by kernel_rfl) (by kernel_rfl) (by kernel_rfl) (fun _ _ _ h => h) (Or.inl ⟨by rfl, ?_⟩) (by assumption) ?_
  rotate_left 1
  · intro w hSw; (try dsimp only at hSw); go_simp; all_goals (with_reducible rfl)
  try simp only [Act.put, List.setIfInBounds_toArray, List.set_cons_zero, List.set_cons_succ]
  refine wpAnyH_take (i := 16) (oi := { dst := some 39, op := Go.Op.move (Go.Operand.tmp 38), type := 4, pos := "disk.go:39", after := #[{ on := 15, ground := Go.Ground.data }, { on := 13, ground := Go.Ground.chain }, { on := 13, ground := Go.Ground.guard }], guard := some (13, false) }) (v := ?_) rfl (by kernel_rfl) (by kernel_rfl) (by kernel_rfl) (fun _ _ _ h => h) (Or.inl ⟨by rfl, ?_⟩) (by assumption) ?_
  rotate_left 1
  · intro w hSw; (try dsimp only at hSw); go_simp; all_goals (with_reducible rfl)
  try simp only [Act.put, List.setIfInBounds_toArray, List.set_cons_zero, List.set_cons_succ]
  refine wpAnyH_take (i := 17) (oi := { dst := some 40, op := Go.Op.move (Go.Operand.tmp 0), type := 22, pos := "disk.go:39", after := #[{ on := 16, ground := Go.Ground.guard }], guard := some (16, true) }) (v := ?_) rfl (by kernel_rfl) (by kernel_rfl) (by kernel_rfl) (fun _ _ _ h => h) (Or.inl ⟨by rfl, ?_⟩) (by assumption) ?_
  rotate_left 1
  · intro w hSw; (try dsimp only at hSw); go_simp; all_goals (with_reducible rfl)
  try simp only [Act.put, List.setIfInBounds_toArray, List.set_cons_zero, List.set_cons_succ]
  refine wpAnyH_take (i := 18) (oi := { dst := some 41, op := Go.Op.nilCheck (Go.Operand.tmp 40), type := 0, pos := "disk.go:39", after := #[{ on := 17, ground := Go.Ground.data }, { on := 16, ground := Go.Ground.guard }], guard := some (16, true) }) (v := ?_) rfl (by kernel_rfl) (by kernel_rfl) (by kernel_rfl) (fun _ _ _ h => h) (Or.inl ⟨by rfl, ?_⟩) (by assumption) ?_
  rotate_left 1
  · intro w hSw; (try dsimp only at hSw); go_simp; all_goals (with_reducible rfl)
  try simp only [Act.put, List.setIfInBounds_toArray, List.set_cons_zero, List.set_cons_succ]
  refine wpAnyH_take (i := 19) (oi := { dst := some 42, op := Go.Op.fieldAddr 49 (Go.Operand.tmp 41) 4, type := 0, pos := "disk.go:39", after := #[{ on := 18, ground := Go.Ground.data }, { on := 16, ground := Go.Ground.guard }], guard := some (16, true) }) (v := ?_) rfl (by kernel_rfl) (by kernel_rfl) (by kernel_rfl) (fun _ _ _ h => h) (Or.inl ⟨by rfl, ?_⟩) (by assumption) ?_
  rotate_left 1
  · intro w hSw; (try dsimp only at hSw); go_simp; all_goals (with_reducible rfl)
  try simp only [Act.put, List.setIfInBounds_toArray, List.set_cons_zero, List.set_cons_succ]
  refine wpAnyH_take (i := 20) (oi := { dst := some 43, op := Go.Op.load 46 (Go.Operand.tmp 42), type := 46, pos := "disk.go:39", after := #[{ on := 19, ground := Go.Ground.data }, { on := 16, ground := Go.Ground.guard }], guard := some (16, true) }) (v := ?_) rfl (by kernel_rfl) (by kernel_rfl) (by kernel_rfl) (fun _ _ _ h => h) (Or.inl ⟨by rfl, ?_⟩) (by assumption) ?_
  rotate_left 1
  · intro w hSw; (try dsimp only at hSw); go_simp; all_goals (with_reducible rfl)
  try simp only [Act.put, List.setIfInBounds_toArray, List.set_cons_zero, List.set_cons_succ]
  refine wpAnyH_take (i := 21) (oi := { dst := some 44, op := Go.Op.call { callee := Go.Callee.builtin Go.Builtin.len, args := #[Go.Operand.tmp 43], argTypes := #[46] }, type := 3, pos := "disk.go:39", after := #[{ on := 20, ground := Go.Ground.data }, { on := 16, ground := Go.Ground.chain }, { on := 16, ground := Go.Ground.guard }], guard := some (16, true) }) (v := .int .i64 (nw.length : Int)) rfl (by kernel_rfl) (by kernel_rfl) (by kernel_rfl) (fun _ _ _ h => h) (Or.inl ⟨by rfl, fun W hSw => H1.out.len (Operand.tmp 43) rfl rfl W hSw.2.2.out⟩) (by assumption) ?_
  try simp only [Act.put, List.setIfInBounds_toArray, List.set_cons_zero, List.set_cons_succ]
  refine wpAnyH_take (i := 22) (oi := { dst := some 45, op := Go.Op.binOp Go.BinOp.geq 3 (Go.Operand.tmp 44) (Go.Operand.const (Go.Value.int Go.IntKind.i64 64)) 3, type := 4, pos := "disk.go:39", after := #[{ on := 21, ground := Go.Ground.data }, { on := 16, ground := Go.Ground.guard }], guard := some (16, true) }) (v := ?_) rfl (by kernel_rfl) (by kernel_rfl) (by kernel_rfl) (fun _ _ _ h => h) (Or.inl ⟨by rfl, ?_⟩) (by assumption) ?_
  rotate_left 1
  · intro w hSw; (try dsimp only at hSw); go_simp; all_goals (with_reducible rfl)
  try simp only [Act.put, List.setIfInBounds_toArray, List.set_cons_zero, List.set_cons_succ]
  refine wpAnyH_take (i := 23) (oi := { dst := some 46, op := Go.Op.pick (Go.Operand.tmp 39) (Go.Operand.tmp 45) (Go.Operand.const (Go.Value.bool false)), type := 4, pos := "disk.go:39", after := #[{ on := 16, ground := Go.Ground.data }, { on := 22, ground := Go.Ground.data }, { on := 13, ground := Go.Ground.guard }], guard := some (13, false) }) (v := ?_) rfl (by kernel_rfl) (by kernel_rfl) (by kernel_rfl) (fun _ _ _ h => h) (Or.inl ⟨by rfl, ?_⟩) (by assumption) ?_
  rotate_left 1
  · intro w hSw; (try dsimp only at hSw); go_simp; all_goals (with_reducible rfl)
  try simp only [Act.put, List.setIfInBounds_toArray, List.set_cons_zero, List.set_cons_succ]
  refine wpAnyH_take (i := 24) (oi := { dst := some 47, op := Go.Op.pick (Go.Operand.tmp 36) (Go.Operand.const (Go.Value.bool true)) (Go.Operand.tmp 46), type := 4, pos := "disk.go:39", after := #[{ on := 13, ground := Go.Ground.data }, { on := 23, ground := Go.Ground.data }], guard := none }) (v := ?_) rfl (by kernel_rfl) (by kernel_rfl) (by kernel_rfl) (fun _ _ _ h => h) (Or.inl ⟨by rfl, ?_⟩) (by assumption) ?_
  rotate_left 1
  · intro w hSw; (try dsimp only at hSw); go_simp; all_goals (with_reducible rfl)
  try simp only [Act.put, List.setIfInBounds_toArray, List.set_cons_zero, List.set_cons_succ]
  refine wpAnyH_done (by kernel_rfl) ?_ _
  have hbs2 := bs_no HBS1.out.1 hk2.out
  have HBs2 := Hid_mk hbs2
  clear hlk e4 HUsed hS2 hHeld hbs2
  go_wp2_with fail
  refine (clone_any w2 _ bs HBs2.out (by omega)).mono ?_
  rintro e w3 ⟨v3, rfl, ho3, hk3⟩
  have hb3 := owns_bs ho3
  have h2 := H1.out.no hk2.out
  obtain ⟨ρ2, hρ2⟩ : ∃ ρ2 : Nat → Role, ρ2 = fun k => if some k = v3.ownBlock then .byt else ρ k := ⟨_, rfl⟩
  have hold : ∀ k, k < w2.heap.size → ρ2 k = ρ k := fun k hk => by
    rw [hρ2]; simp only; rw [if_neg]
    intro e; have := (ho3.lt k e.symm).1; omega
  have h3 : DkAt w3 base p ρ2 d nw s n vp ps := h2.rerole hk3 hold (fun k hk => by
      rw [hρ2] at hk; simp only at hk
      split at hk
      · rename_i e; have := (ho3.lt k e.symm).1; have := h2.bp; have := h2.lt; omega
      · exact h2.low k hk) (fun k hk => by
      rw [hρ2]; simp only; rw [if_neg (fun e => by have := (ho3.lt k e.symm).2; omega)]
      exact h2.hi k (by have := hk3.size; omega))
  have hfr3 : Fr ρ w2 ρ2 w3 := ⟨hk3.to, fun k hk e => by rw [hold k hk]; exact e⟩
  have hvb3 : ∀ x o m cc, v3 = .slice (some ⟨x, o, none⟩) m cc → ρ2 x = .byt ∧ x < w3.heap.size := fun x o m cc e => by
    have hob : v3.ownBlock = some x := by rw [e]; rfl
    exact ⟨by rw [hρ2]; simp [hob], (ho3.lt x hob).2⟩
  have hch := change_any w3 base p ρ2 d nw s n vp ps (appC name bs) v3 h3 ⟨by show (0 : Nat) < 4; omega, fun e => by cases e⟩ hb3 hvb3 HHn.out (by show (0 : Nat) ≤ _; exact Nat.zero_le _) HLen2.out (fun _ => HOl.out) HPs.out
  have hfr : Fr ρ w ρ2 w3 := (HBS1.out.2.trans (Fr.of_no hk2.out)).trans hfr3
  have hch2 : Calls Tryz.prog 52 #[.pointer (some ⟨p, 0, none⟩), chg (appC name bs) v3] w3 (StPost base p ρ { d with cs := d0.cs ++ [appC name bs] } w (.tuple #[])) := by
    refine hch.mono ?_
    rintro e w4 ⟨he, ρ4, s4, n4, vp4, ps4, h4, hfr4⟩
    rw [HCs2.out, HNow2.out] at h4
    exact ⟨he, ρ4, ⟨s4, n4, vp4, ps4, h4⟩, hfr.trans hfr4⟩
  unfold chg appC at hch2
  simp only at hch2
  have HCh := Hid_mk hch2
  obtain ⟨a3, cap3, hv3, -, -, -⟩ := id hb3
  clear hch hch2 hvb3 h3 h2 hfr3 hfr hold hρ2 ho3 hk3 hb3
  subst hv3
  go_wp2_with fail
  refine HCh.out.mono ?_
  rintro e w4 ⟨rfl, hex⟩
  have HEx := Hid_mk hex
  clear hex
  go_wp2
  go_ret
  exact ⟨rfl, HEx.out⟩

end Go.Proofs.YteekcbbdbciddaaGreatDoor.dsk

namespace Go.Proofs.YteekcbbdbciddaaGreatDoor.dsk
open Go.RowKit Go.Maps Go.Proofs.YteekcbbdbciddaaGreatDoor.sum Go.Proofs.YteekcbbdbciddaaGreatDoor.kept Go.Proofs.YteekcbbdbciddaaGreatDoor.app Go.Proofs.YteekcbbdbciddaaGreatDoor.writer Go.Proofs.YteekcbbdbciddaaGreatDoor.clone Go.Proofs.YteekcbbdbciddaaGreatDoor.unseal Go.Proofs.YteekcbbdbciddaaGreatDoor.fs Go.Proofs.YteekcbbdbciddaaGreatDoor.fsMem Go.Proofs.YteekcbbdbciddaaGreatDoor.fsDo Go.Proofs.YteekcbbdbciddaaGreatDoor.fsUsed Go.Proofs.YteekcbbdbciddaaGreatDoor.turned
set_option linter.unusedVariables false

def newD (room : Int) : DSt := ⟨room, -1, false, [], []⟩
theorem new_ok (room : Int) (h0 : 0 ≤ room) (h1 : room ≤ 8388608) : DOk 0 (newD room) :=
  ⟨rising_nil, Nat.le_refl _, by simp [newD, used, bytesOf], trivial, (fun c hc => by cases hc), (fun c hc => by cases hc), h0, h1, by simp [newD], by simp [newD], (fun c hc => by cases hc)⟩

theorem new_mem (w : World) (room : Int) : Dk (((w.alloc (.map #[] 0)).alloc (.map #[] 0)).alloc (.cells #[.int .i64 room, .int .i64 (-1), .bool false, .map (some w.heap.size), .map (some (w.heap.size + 1)), .slice none 0 0] 49)) w.heap.size (w.heap.size + 2)
    (fun k => if k = w.heap.size then .smap else if k = w.heap.size + 1 then .nmap else if k = w.heap.size + 2 then .disk else .other) (newD room) := by
  have e1 : (w.alloc (.map #[] 0)).heap.size = w.heap.size + 1 := by simp
  have e2 : ((w.alloc (.map #[] 0)).alloc (.map #[] 0)).heap.size = w.heap.size + 2 := by simp
  have m1 := World.ownsMap_made w Tryz.prog 9 raw
  have m2 := World.ownsMap_made (w.alloc (.map #[] 0)) Tryz.prog 9 raw
  rw [e1] at m2
  have hc : ∀ (W2 : World) (o : Nat) (cs : Array Value) (v : Value), cs[o]? = some v → W2.heap.size = w.heap.size + 2 → (W2.alloc (.cells cs 49)).cell? ⟨w.heap.size + 2, o, none⟩ = some v := by
    intro W2 o cs v hv hs
    rw [← hs]
    simp [hv]
  have hf : ∀ (W2 : World) (cs : Array Value) (o : Nat), W2.heap.size = w.heap.size + 2 → (W2.alloc (.cells cs 49)).frozen? ⟨w.heap.size + 2, o, none⟩ = false := by
    intro W2 cs o hs
    rw [← hs]
    simp
  refine ⟨w.heap.size, w.heap.size + 1, .slice none 0 0, [], ⟨hc _ _ _ _ rfl e2, hc _ _ _ _ rfl e2, hc _ _ _ _ rfl e2, hc _ _ _ _ rfl e2, hc _ _ _ _ rfl e2, hc _ _ _ _ rfl e2, fun o => hf _ _ _ e2, ?_, ?_, rfl, World.ownsRow_nil _ _ _ _, (fun q hq => by cases hq), ?_, ?_, ?_, (fun g hg => by simp [Value.ownBlock] at hg), by omega, fun k hk => ?_, fun k hk => ?_⟩⟩
  · exact ⟨rising_nil, sOf_none (by simp), Nat.le_refl _, fun _ => .nilIface, (m1.alloc _).alloc _, fun e he => by cases he⟩
  · exact ⟨rising_nil, nOf_none (by simp), by omega, fun _ => .nilIface, m2.alloc _, fun e he => by cases he⟩
  · simp
  · simp
  · simp
  · (try simp only at hk)
    split at hk
    · omega
    · split at hk
      · omega
      · split at hk
        · omega
        · exact absurd rfl hk
  · simp only [World.size_alloc] at hk
    (try simp only)
    rw [if_neg (by omega), if_neg (by omega), if_neg (by omega)]

set_option maxRecDepth 100000 in
set_option maxHeartbeats 1000000 in
theorem new_any (w : World) (room : Int) (h0 : 0 ≤ room) (h1 : room ≤ 8388608) : Calls Tryz.prog 5 #[.int .i64 room] w fun e w' => ∃ p ρ, e = .returned (.tuple #[.pointer (some ⟨p, 0, none⟩), .int .i64 0]) ∧ Dk w' w.heap.size p ρ (newD room) ∧ Kp No w w' ∧ w.heap.size ≤ p := by
  have hr := fun w => room_any w room
  have e : roomB room = true := by simp [roomB, h0, h1]
  rw [e] at hr
  have HR := fun w => Hid_mk (hr w)
  have hmm := @run_makeMap Tryz.prog
  have HF := Hid_mk (new_mem w room)
  clear hr e
  go_enter Tryz.func5, Tryz.ntmps5
  go_wp2_with fail
  refine (HR _).out.mono ?_
  rintro e w' ⟨rfl, rfl⟩
  go_wp2
  go_ret2
  exact ⟨_, _, rfl, HF.out, (((Kp.refl No w).alloc _).alloc _).alloc _, by omega⟩

set_option maxRecDepth 100000 in
set_option maxHeartbeats 1000000 in
theorem read_any (w : World) (base p : Nat) (ρ : Nat → Role) (d : DSt) (nw : Files) (s n : Nat) (vp : Value) (ps : List (Change × Value)) (name : ByteArray) (h : DkAt w base p ρ d nw s n vp ps) (hd : d.down = false) (hns : name.size ≤ maxLen) (hu : used nw ≤ 140737488355328) :
    Calls Tryz.prog 34 #[.pointer (some ⟨p, 0, none⟩), .string name] w fun e w' => ∃ v, e = .returned (.tuple #[v, .bool (fs.get nw (nm name)).isSome]) ∧ w'.ownsRow w.heap.size 5 1 v (old nw (nm name)).length ((old nw (nm name)).map B) ∧ Kp No w w' := by
  have c2 := h.c2
  have c4 := h.c4
  rw [hd] at c2
  have hol := get_len h.now.1 (nm name)
  obtain ⟨v, hrow, hlook⟩ := h.now.look hns
  have hlk := (hlook w (Kp.refl _ _)).2
  have hb := owns_bs hrow.1
  have HB := Hid_mk hb
  obtain ⟨a, cap, rfl, -, -, -⟩ := id hb
  have hl : (old nw (nm name)).length ≤ 140737488355328 := by unfold old; omega
  generalize (fs.get nw (nm name)).isSome = ok at *
  clear h hd hrow hlook hb hol hns hu
  go_enter Tryz.func34, Tryz.ntmps34
  go_wp2_with fail
  refine (clone_any w _ _ HB.out hl).mono ?_
  rintro e w1 ⟨v1, rfl, ho, hk⟩
  have HF := Hid_mk (And.intro ho hk)
  obtain ⟨a1, cap1, rfl, -, -, -⟩ := owns_bs ho
  clear ho hk
  go_wp2
  go_ret2
  exact ⟨_, rfl, HF.out.1, HF.out.2⟩

end Go.Proofs.YteekcbbdbciddaaGreatDoor.dsk

namespace Go.Proofs.YteekcbbdbciddaaGreatDoor.dsk
open Go.RowKit Go.Maps Go.Proofs.YteekcbbdbciddaaGreatDoor.sum Go.Proofs.YteekcbbdbciddaaGreatDoor.kept Go.Proofs.YteekcbbdbciddaaGreatDoor.app Go.Proofs.YteekcbbdbciddaaGreatDoor.writer Go.Proofs.YteekcbbdbciddaaGreatDoor.clone Go.Proofs.YteekcbbdbciddaaGreatDoor.unseal Go.Proofs.YteekcbbdbciddaaGreatDoor.fs Go.Proofs.YteekcbbdbciddaaGreatDoor.fsMem Go.Proofs.YteekcbbdbciddaaGreatDoor.fsDo Go.Proofs.YteekcbbdbciddaaGreatDoor.fsUsed Go.Proofs.YteekcbbdbciddaaGreatDoor.turned
set_option linter.unusedVariables false

theorem Fr.of_p {ρ : Nat → Role} {w w1 : World} {p : Nat} (hk : Kp (fun k => k = p) w w1) (hp : ρ p = .disk) : Fr ρ w ρ w1 := ⟨hk.mono (fun k _ e => by rw [e, hp]; simp), fun _ _ h => h⟩

theorem stop_same (d : DSt) : (stopD d).room = d.room ∧ (stopD d).syn = d.syn ∧ (stopD d).cs = d.cs := by unfold stopD; split <;> (try split) <;> exact ⟨rfl, rfl, rfl⟩
theorem stop_ok {M : Nat} {d : DSt} (h : DOk M d) : DOk M (stopD d) := by
  obtain ⟨e1, e2, e3⟩ := stop_same d
  refine ⟨by rw [e2]; exact h.rising, by rw [e2, e3]; exact h.few, by rw [e2, e3]; exact h.small, by rw [e2, e3]; exact h.fit, by rw [e3]; exact h.names, by rw [e3]; exact h.sizes, by rw [e1]; exact h.room0, by rw [e1]; exact h.room1, ?_, ?_, by rw [e3]; exact h.plain⟩
  · unfold stopD
    have := h.fuse0
    split
    · exact this
    · split
      · simp only; omega
      · exact this
  · unfold stopD
    have := h.fuse1
    split
    · exact this
    · split
      · simp only; omega
      · exact this

set_option maxRecDepth 100000 in
set_option maxHeartbeats 2000000 in
theorem sync_any (w : World) (base p M : Nat) (ρ : Nat → Role) (d : DSt) (h : Dk w base p ρ d) (hok : DOk M d) (hM : M ≤ 1000000) (hstop : stopB d = false) :
    Calls Tryz.prog 20 #[.pointer (some ⟨p, 0, none⟩)] w (StPost base p ρ { stopD d with syn := d.now, cs := [] } w (.int .i64 0)) := by
  obtain ⟨s, n, vp, ps, h⟩ := h
  have hst := stops_any w base p ρ d d.now s n vp ps h hok.fuse0 hok.fuse1
  rw [hstop] at hst
  have hok2 := stop_ok hok
  obtain ⟨e1, e2, e3⟩ := stop_same d
  have hlenps : ps.length = d.cs.length := by rw [← h.cs, List.length_map]
  have hfin : ∀ w1, Kp (fun k => k = p) w w1 → DkAt w1 base p ρ (stopD d) d.now s n vp ps → Calls Tryz.prog 41 #[.pointer (some ⟨p, 0, none⟩), .int .i64 (ps.length : Int)] w1 (StPost base p ρ { stopD d with syn := d.now, cs := [] } w (.tuple #[])) := by
    intro w1 hk1 h1
    refine (settle_any w1 base p M ρ (stopD d) d.now s n vp ps ps.length h1 hok2 hM (Nat.le_refl _)).mono ?_
    rintro e w2 ⟨he, ρ2, h2, hfr, -⟩
    have e4 : all (stopD d).syn ((stopD d).cs.take ps.length) = d.now := by rw [e2, e3, hlenps, List.take_length]; rfl
    rw [e4] at h2
    exact ⟨he, ρ2, ⟨s, n, _, _, h2⟩, (Fr.of_p hk1 h.rp).trans hfr⟩
  have HSt := Hid_mk hst
  have HFin := Hid_mk hfin
  have hlp : ps.length ≤ 1000000 := by have := hok.few; omega
  clear hst hfin h hok hok2 e1 e2 e3 hlenps hstop
  go_enter Tryz.func20, Tryz.ntmps20
  go_wp2_with fail
  refine HSt.out.mono ?_
  rintro e w1 ⟨rfl, h1, hk1⟩
  have c5 := h1.c5
  have HC := Hid_mk (HFin.out w1 hk1 h1)
  obtain ⟨av, cv, rfl⟩ : ∃ a c, vp = .slice a ps.length c := by
    rcases owns_any h1.pend with ⟨rfl, hz⟩ | ⟨g, cap, rfl, -⟩
    · exact ⟨none, 0, by rw [hz]⟩
    · exact ⟨_, _, rfl⟩
  clear h1 hk1
  go_wp2_with fail
  refine HC.out.mono ?_
  rintro e w2 ⟨rfl, hex⟩
  have HEx := Hid_mk hex
  clear hex
  go_wp2
  go_ret
  exact ⟨rfl, HEx.out⟩

def remC (name : ByteArray) : Change := ⟨3, name, ⟨#[]⟩, [], 0⟩

set_option maxRecDepth 100000 in
set_option maxHeartbeats 2000000 in
theorem remove_any (w : World) (base p M : Nat) (ρ : Nat → Role) (d : DSt) (name : ByteArray) (h : Dk w base p ρ d) (hok : DOk M d) (hM : M ≤ 1000000) (hstop : stopB d = false) (hns : name.size ≤ maxLen) (hget : (fs.get d.now (nm name)).isSome = true) :
    Calls Tryz.prog 25 #[.pointer (some ⟨p, 0, none⟩), .string name] w (StPost base p ρ { stopD d with cs := d.cs ++ [remC name] } w (.int .i64 0)) := by
  obtain ⟨s, n, vp, ps, h⟩ := h
  have hst := stops_any w base p ρ d d.now s n vp ps h hok.fuse0 hok.fuse1
  rw [hstop] at hst
  obtain ⟨e1, e2, e3⟩ := stop_same d
  have hlenps : ps.length = d.cs.length := by rw [← h.cs, List.length_map]
  have hl1 : d.now.length ≤ M := Nat.le_trans (len_all hok.rising d.cs) hok.few
  have hfin : ∀ w1, Kp (fun k => k = p) w w1 → DkAt w1 base p ρ (stopD d) d.now s n vp ps → Calls Tryz.prog 52 #[.pointer (some ⟨p, 0, none⟩), chg (remC name) (.slice none 0 0)] w1 (StPost base p ρ { stopD d with cs := d.cs ++ [remC name] } w (.tuple #[])) := by
    intro w1 hk1 h1
    refine (change_any w1 base p ρ (stopD d) d.now s n vp ps (remC name) (.slice none 0 0) h1 ⟨by show (3 : Nat) < 4; omega, fun e => by cases e⟩ ⟨none, 0, rfl, Nat.le_refl _, Nat.zero_le _, fun h => absurd rfl h⟩ (fun x o m cc e => by cases e) hns
      (by show (0 : Nat) ≤ _; exact Nat.zero_le _) (by unfold maxLen; omega) (fun e => by cases e) (by have := hok.few; omega)).mono ?_
    rintro e w2 ⟨he, ρ2, s2, n2, vp2, ps2, h2, hfr⟩
    have e4 : doit d.now (remC name) = ({ stopD d with cs := d.cs ++ [remC name] } : DSt).now := by unfold DSt.now; simp only; rw [e2, all_snoc]
    rw [e3, e4] at h2
    exact ⟨he, ρ2, ⟨s2, n2, vp2, ps2, h2⟩, (Fr.of_p hk1 h.rp).trans hfr⟩
  have HSt := Hid_mk hst
  have HFin := Hid_mk hfin
  have HNs := Hid_mk hns
  clear hst hfin h hok e1 e2 e3 hlenps hstop hl1
  go_enter Tryz.func25, Tryz.ntmps25
  go_wp2_with fail
  refine HSt.out.mono ?_
  rintro e w1 ⟨rfl, h1, hk1⟩
  have c4 := h1.c4
  have HC := Hid_mk (HFin.out w1 hk1 h1)
  obtain ⟨v, -, hlook⟩ := h1.now.look HNs.out
  have hlk := (hlook w1 (Kp.refl _ _)).2
  rw [hget] at hlk
  unfold chg remC at HC
  simp only at HC
  clear h1 hk1 hlook
  go_wp2_with fail
  refine HC.out.mono ?_
  rintro e w2 ⟨rfl, hex⟩
  have HEx := Hid_mk hex
  clear hex
  go_wp2
  go_ret
  exact ⟨rfl, HEx.out⟩

end Go.Proofs.YteekcbbdbciddaaGreatDoor.dsk

namespace Go.Proofs.YteekcbbdbciddaaGreatDoor.dsk
open Go.RowKit Go.Maps Go.Proofs.YteekcbbdbciddaaGreatDoor.sum Go.Proofs.YteekcbbdbciddaaGreatDoor.kept Go.Proofs.YteekcbbdbciddaaGreatDoor.app Go.Proofs.YteekcbbdbciddaaGreatDoor.writer Go.Proofs.YteekcbbdbciddaaGreatDoor.clone Go.Proofs.YteekcbbdbciddaaGreatDoor.unseal Go.Proofs.YteekcbbdbciddaaGreatDoor.fs Go.Proofs.YteekcbbdbciddaaGreatDoor.fsMem Go.Proofs.YteekcbbdbciddaaGreatDoor.fsDo Go.Proofs.YteekcbbdbciddaaGreatDoor.fsUsed Go.Proofs.YteekcbbdbciddaaGreatDoor.turned
set_option linter.unusedVariables false

theorem push_ok {M : Nat} {d : DSt} (h : DOk M d) (c : Change) (hf : c.fits d.now) (hnm : c.name.size ≤ maxLen ∧ c.to.size ≤ maxLen) (hs : c.size ≤ 9223372036854775807) (hp : c.kind ≠ 0 → c.bytes = []) (hb : c.bytes.length ≤ 8388608) :
    DOk (M + 1) { stopD d with cs := d.cs ++ [c] } := by
  have h2 := stop_ok h
  obtain ⟨e1, e2, e3⟩ := stop_same d
  have q1 := h.few
  have q2 := h.small
  refine ⟨h2.rising, ?_, ?_, ?_, ?_, ?_, h2.room0, h2.room1, h2.fuse0, h2.fuse1, ?_⟩
  · simp only [e2, List.length_append, List.length_cons, List.length_nil]; omega
  · simp only [e2, bytesOf_append, bytesOf]
    have e : (M + 1) * 8388608 = M * 8388608 + 8388608 := by omega
    omega
  · simp only [e2]; exact fitsAll_snoc h.fit hf
  · intro x hx
    simp only [List.mem_append, List.mem_cons, List.not_mem_nil, or_false] at hx
    rcases hx with hx | rfl
    · exact h.names x hx
    · exact hnm
  · intro x hx
    simp only [List.mem_append, List.mem_cons, List.not_mem_nil, or_false] at hx
    rcases hx with hx | rfl
    · exact h.sizes x hx
    · exact hs
  · intro x hx
    simp only [List.mem_append, List.mem_cons, List.not_mem_nil, or_false] at hx
    rcases hx with hx | rfl
    · exact h.plain x hx
    · exact hp

theorem append_ok {M : Nat} {d : DSt} (h : DOk M d) {name : ByteArray} {bs : List UInt8} (hn : nameB name = true) (hb : bs.length ≤ 8388608) : DOk (M + 1) { stopD d with cs := d.cs ++ [appC name bs] } := by
  refine push_ok h (appC name bs) ⟨by show (0 : Nat) < 4; omega, fun e => by cases e⟩ ⟨?_, by show (0 : Nat) ≤ _; exact Nat.zero_le _⟩ (by show (0 : Nat) ≤ _; exact Nat.zero_le _) (fun e => absurd rfl e) hb
  simp [nameB] at hn
  show name.size ≤ _
  unfold maxLen; omega

theorem remove_ok {M : Nat} {d : DSt} (h : DOk M d) {name : ByteArray} (hn : name.size ≤ maxLen) : DOk (M + 1) { stopD d with cs := d.cs ++ [remC name] } :=
  push_ok h (remC name) ⟨by show (3 : Nat) < 4; omega, fun e => by cases e⟩ ⟨hn, by show (0 : Nat) ≤ _; exact Nat.zero_le _⟩ (by show (0 : Nat) ≤ _; exact Nat.zero_le _) (fun _ => rfl) (by show (0 : Nat) ≤ _; exact Nat.zero_le _)

theorem sync_ok {M : Nat} {d : DSt} (h : DOk M d) : DOk M { stopD d with syn := d.now, cs := [] } := by
  have h2 := stop_ok h
  have q1 := h.few
  have q2 := h.small
  have q3 := len_all h.rising d.cs
  have q4 := used_all h.rising d.cs
  refine ⟨rising_all h.rising _, ?_, ?_, trivial, (fun c hc => by cases hc), (fun c hc => by cases hc), h2.room0, h2.room1, h2.fuse0, h2.fuse1, (fun c hc => by cases hc)⟩
  · simp only [DSt.now, List.length_nil]; omega
  · simp only [DSt.now, bytesOf]; omega

theorem append_anyE (w : World) (base p M : Nat) (ρ : Nat → Role) (d : DSt) (name : ByteArray) (vb : Value) (bs : List UInt8) (h : Dk w base p ρ d) (hok : DOk M d) (hM : M ≤ 1000000) (hstop : stopB d = false) (hname : nameB name = true) (hb : Bs w vb bs)
    (hvo : bs ≠ [] → ∀ x o m c, vb = .slice (some ⟨x, o, none⟩) m c → ρ x = .other) (hroom : (used d.now : Int) + (bs.length : Int) ≤ d.room) (hfew : d.now.length < 64) :
    Calls Tryz.prog 24 #[.pointer (some ⟨p, 0, none⟩), .string name, vb] w (StPost base p ρ { stopD d with cs := d.cs ++ [appC name bs] } w (.int .i64 0)) := by
  obtain ⟨s, n, vp, ps, h⟩ := h
  cases hg : (fs.get d.now (nm name)).isSome with
  | true => exact append_there w base p M ρ d d.now s n vp ps name vb bs h hok hM rfl hstop hname hb hvo hroom hg
  | false => exact append_new w base p M ρ d d.now s n vp ps name vb bs h hok hM rfl hstop hname hb hvo hroom hg hfew

theorem append_any (w : World) (base p M : Nat) (ρ : Nat → Role) (d : DSt) (name : ByteArray) (vb : Value) (bs : List UInt8) (h : Dk w base p ρ d) (hok : DOk M d) (hM : M ≤ 1000000) (hstop : stopB d = false) (hname : nameB name = true) (hb : Bs w vb bs)
    (hvo : ∀ x o m c, vb = .slice (some ⟨x, o, none⟩) m c → ρ x = .other) (hroom : (used d.now : Int) + (bs.length : Int) ≤ d.room) (hfew : d.now.length < 64) :
    Calls Tryz.prog 24 #[.pointer (some ⟨p, 0, none⟩), .string name, vb] w (StPost base p ρ { stopD d with cs := d.cs ++ [appC name bs] } w (.int .i64 0)) :=
  append_anyE w base p M ρ d name vb bs h hok hM hstop hname hb (fun _ => hvo) hroom hfew

theorem Dk.hi {w : World} {base p : Nat} {ρ : Nat → Role} {d : DSt} (h : Dk w base p ρ d) {k : Nat} (hk : w.heap.size ≤ k) : ρ k = .other := by
  obtain ⟨s, n, vp, ps, h⟩ := h; exact h.hi k hk

/-- what a call on a disk of ours did is nothing to the world that was there before the disk -/
theorem Dk.out {w w1 w2 : World} {base p : Nat} {ρ ρ2 : Nat → Role} {d : DSt} (h : Dk w1 base p ρ d) (hb : w.heap.size ≤ base) (hk : Kp No w w1) (hf : Fr ρ w1 ρ2 w2) : Kp No w w2 := by
  obtain ⟨s, n, vp, ps, h⟩ := h
  refine hk.trans hf.1 fun k hk2 e => ?_
  have := h.low k e
  omega

end Go.Proofs.YteekcbbdbciddaaGreatDoor.dsk
