/- wal's behind of one batch that goes on from there, and of none. -/
import Derived.Test.YteekcbbdbciddaaGreatDoorFitting

namespace Go.Proofs.YteekcbbdbciddaaGreatDoor.wal
open Go.RowKit Go.Proofs.YteekcbbdbciddaaGreatDoor.fl Go.Proofs.YteekcbbdbciddaaGreatDoor.sum Go.Proofs.YteekcbbdbciddaaGreatDoor.kept Go.Proofs.YteekcbbdbciddaaGreatDoor.app Go.Proofs.YteekcbbdbciddaaGreatDoor.writer Go.Proofs.YteekcbbdbciddaaGreatDoor.clone Go.Proofs.YteekcbbdbciddaaGreatDoor.known Go.Proofs.YteekcbbdbciddaaGreatDoor.mrk
set_option linter.unusedVariables false

/-- a slice of one batch -/
def One (w : World) (v : Value) (x : Bt) (vb : Value) : Prop :=
  ∃ b o cap, v = .slice (some ⟨b, o, none⟩) 1 cap ∧ 1 ≤ cap ∧ cap ≤ maxLen ∧ w.cell? ⟨b, o, none⟩ = some (.int .u64 (x.epoch : Int)) ∧ w.cell? ⟨b, o + 1, none⟩ = some (.int .u64 (x.time : Int)) ∧ w.cell? ⟨b, o + 2, none⟩ = some (C (x.a : Int) (x.b : Int)) ∧
    w.cell? ⟨b, o + 3, none⟩ = some (C (x.c : Int) (x.d : Int)) ∧ w.cell? ⟨b, o + 4, none⟩ = some (.bool x.gap) ∧ w.cell? ⟨b, o + 5, none⟩ = some vb ∧ w.cell? ⟨b, o + 6, none⟩ = some (.bool x.stop)
theorem One.no {w w' : World} {v : Value} {x : Bt} {vb : Value} (h : One w v x vb) (hk : Kp No w w') : One w' v x vb := by
  obtain ⟨b, o, cap, rfl, h1, h2, c0, c1, c2, c3, c4, c5, c6⟩ := h
  exact ⟨b, o, cap, rfl, h1, h2, hk.cell' c0 id, hk.cell' c1 id, hk.cell' c2 id, hk.cell' c3 id, hk.cell' c4 id, hk.cell' c5 id, hk.cell' c6 id⟩
theorem One.kept {S : Nat → Prop} {w w' : World} {v : Value} {x : Bt} {vb : Value} (h : One w v x vb) (hk : Kp S w w') (hs : ∀ g, v.ownBlock = some g → ¬ S g) : One w' v x vb := by
  obtain ⟨b, o, cap, rfl, h1, h2, c0, c1, c2, c3, c4, c5, c6⟩ := h
  have hb := hs b rfl
  exact ⟨b, o, cap, rfl, h1, h2, hk.cell' c0 hb, hk.cell' c1 hb, hk.cell' c2 hb, hk.cell' c3 hb, hk.cell' c4 hb, hk.cell' c5 hb, hk.cell' c6 hb⟩
theorem One.of_row {w : World} {base : Nat} {v : Value} {x : Bt} {vb : Value} (h : w.ownsRow base 36 7 v 1 (btList x vb)) : One w v x vb := by
  rcases h.2 with ⟨rfl, h0⟩ | ⟨g, cap, cur, rfl, hb, hg, r1, r2, r3, r4⟩
  · omega
  · have hc := fun k u hk => h.cells (g := g) rfl k u hk
    simp only [addr_add] at hc
    exact ⟨g, 0, cap, rfl, r1, r2, hc 0 _ rfl, hc 1 _ rfl, hc 2 _ rfl, hc 3 _ rfl, hc 4 _ rfl, hc 5 _ rfl, hc 6 _ rfl⟩

set_option maxRecDepth 100000 in
set_option maxHeartbeats 1000000 in
theorem upto_any (x : Bt) (vb : Value) (g m : Nat) (w : World) (hg : w.cell? ⟨g, 0, none⟩ = some (.int .u64 (m : Int))) (hm : m < x.epoch) :
    Calls Tryz.prog 39 #[bval x vb, .pointer (some ⟨g, 0, none⟩)] w fun e w' => e = .returned (.bool false) ∧ Kp No w w' := by
  have hlt : g < w.heap.size := World.block_lt_of_cell? w _ hg
  have hm' : ¬ (x.epoch : Int) ≤ (m : Int) := by omega
  unfold bval
  generalize C (x.a : Int) (x.b : Int) = m1 at *
  generalize C (x.c : Int) (x.d : Int) = m2 at *
  go_enter Tryz.func39, Tryz.ntmps39
  go_wp2
  go_ret
  exact ⟨rfl, (Kp.refl No w).alloc _⟩

set_option maxRecDepth 100000 in
set_option maxHeartbeats 2000000 in
theorem bindex_none (x : Bt) (vb v : Value) (g m : Nat) (w : World) (h : One w v x vb) (hg : w.cell? ⟨g, 0, none⟩ = some (.int .u64 (m : Int))) (hm : m < x.epoch) :
    Calls Tryz.prog 71 #[v, .func (.func 39) #[] #[.pointer (some ⟨g, 0, none⟩)]] w fun e w' => e = .returned (.int .i64 (-1)) ∧ Kp No w w' := by
  have HU := Hid_mk (upto_any x vb g m w hg hm)
  obtain ⟨b, o, cap, rfl, h1, h2, c0, c1, c2, c3, c4, c5, c6⟩ := h
  unfold bval at HU
  generalize C (x.a : Int) (x.b : Int) = m1 at *
  generalize C (x.c : Int) (x.d : Int) = m2 at *
  clear hg hm
  go_enter Tryz.func71, Tryz.ntmps71
  go_wp2
  refine wp_loop_rounds 2 ?_
  rw [rounds_succ]
  go_wp2_with fail
  with_reducible refine HU.out.mono ?_
  rintro e w1 ⟨rfl, hk1⟩
  go_wp2
  rw [rounds_succ]
  go_wp2
  go_ret
  exact ⟨rfl, hk1⟩

set_option maxRecDepth 100000 in
set_option maxHeartbeats 1000000 in
theorem bdelete_none (x : Bt) (vb v : Value) (g m : Nat) (w : World) (h : One w v x vb) (hg : w.cell? ⟨g, 0, none⟩ = some (.int .u64 (m : Int))) (hm : m < x.epoch) :
    Calls Tryz.prog 38 #[v, .func (.func 39) #[] #[.pointer (some ⟨g, 0, none⟩)]] w fun e w' => e = .returned v ∧ Kp No w w' := by
  have H := Hid_mk (bindex_none x vb v g m w h hg hm)
  clear h hg hm
  go_enter Tryz.func38, Tryz.ntmps38
  go_wp2_with fail
  with_reducible refine H.out.mono ?_
  rintro e w1 ⟨rfl, hk1⟩
  go_wp2
  go_ret
  exact ⟨rfl, hk1⟩

set_option maxRecDepth 100000 in
set_option maxHeartbeats 1000000 in
theorem behind_none (lp m : Nat) (w : World) : Calls Tryz.prog 19 #[.pointer (some ⟨lp, 0, none⟩), .slice none 0 0, .int .u64 (m : Int)] w fun e w' => e = .returned (.tuple #[.slice none 0 0, .int .i64 0]) ∧ Kp No w w' := by
  go_enter Tryz.func19, Tryz.ntmps19
  go_wp2
  go_ret2
  exact ⟨rfl, (Kp.refl No w).alloc _⟩

def BePost (w : World) (lp : Nat) (x : Bt) (v : Value) (e : Ending) (w' : World) : Prop := e = .returned (.tuple #[v, .int .i64 0]) ∧ ∃ W, Kp No w W ∧ w' = W.setCell ⟨lp, 3, none⟩ (.int .u64 (x.epoch : Int))

set_option maxRecDepth 100000 in
set_option maxHeartbeats 2000000 in
theorem behind_one (x : Bt) (vb v u : Value) (lp m : Nat) (w : World) (h : One w v x vb) (hm : x.epoch = m + 1) (hm2 : m ≤ 1099511627776) (hl : w.cell? ⟨lp, 3, none⟩ = some u) (hf : w.frozen? ⟨lp, 3, none⟩ = false) :
    Calls Tryz.prog 19 #[.pointer (some ⟨lp, 0, none⟩), v, .int .u64 (m : Int)] w (BePost w lp x v) := by
  have hk0 : Kp No w (w.alloc (Obj.cells #[.int .u64 (m : Int)] 30)) := (Kp.refl No w).alloc _
  have HD := Hid_mk (bdelete_none x vb v w.heap.size m (w.alloc (Obj.cells #[.int .u64 (m : Int)] 30)) (h.no hk0) (by simp) (by omega))
  have HOne := Hid_mk h
  have HL := Hid_mk hl
  have HF := Hid_mk hf
  have HK0 := Hid_mk hk0
  have d1 : decide (x.epoch < m) = false := by simp; omega
  have d2 : ((x.epoch : Int) != (m : Int) + 1) = false := by simp; omega
  have d3 : IntKind.u64.wrap ((m : Int) + 1) = (m : Int) + 1 := by
    simp only [IntKind.wrap, IntKind.bits, IntKind.signed]; simp; omega
  obtain ⟨b, o, cap, rfl, h1, h2, c0, -⟩ := h
  have c0' := hk0.cell' c0 id
  clear hl hf hk0 hm
  go_enter Tryz.func19, Tryz.ntmps19
  go_wp2_with fail
  with_reducible refine HD.out.mono ?_
  rintro e w1 ⟨rfl, hk1⟩
  have HK1 := Hid_mk (HK0.out.trans' hk1)
  have g1 : w1.cell? ⟨w.heap.size, 0, none⟩ = some (.int .u64 (m : Int)) := hk1.cell' (by simp) id
  have e1 := HK1.out.cell' c0 id
  have l1 := HK1.out.cell' HL.out id
  have f1 := (HK1.out.frozen (p := ⟨lp, 3, none⟩) (World.block_lt_of_cell? w _ HL.out) id).trans HF.out
  clear hk1 c0 c0'
  go_wp2_with fail
  go_quiet (fail)
  clear d1 d2 d3 g1 e1
  go_wp2
  go_ret2
  exact ⟨rfl, _, HK1.out.drewN nq, rfl⟩

end Go.Proofs.YteekcbbdbciddaaGreatDoor.wal
