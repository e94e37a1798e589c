/- The reference's Disk: what lies where; Fuse; counts. -/
import Derived.Test.YtomckoeobkfklaaDoorR2Done
import Derived.Test.YtomckoeobkfklaaDoorR2Small
namespace Go.Proofs.YtomckoeobkfklaaDoor.r2
open Go.RowKit Go.Maps Go.Proofs.YtomckoeobkfklaaDoor.sum Go.Proofs.YtomckoeobkfklaaDoor.kept Go.Proofs.YtomckoeobkfklaaDoor.app Go.Proofs.YtomckoeobkfklaaDoor.writer Go.Proofs.YtomckoeobkfklaaDoor.clone Go.Proofs.YtomckoeobkfklaaDoor.fs Go.Proofs.YtomckoeobkfklaaDoor.fsDo Go.Proofs.YtomckoeobkfklaaDoor.unseal Go.Proofs.YtomckoeobkfklaaDoor.dsk
set_option linter.unusedVariables false

/-- the plain part of the reference's disk -/
structure RSt where
  space : Int
  fused : Bool
  fuse : Int
  down : Bool

/-- the cells of the reference's disk at block r -/
structure RAt (w : World) (r : Nat) (x : RSt) (vs vn vw : Value) : Prop where
  c0 : w.cell? ⟨r, 0, none⟩ = some (.int .i64 x.space)
  c1 : w.cell? ⟨r, 1, none⟩ = some vs
  c2 : w.cell? ⟨r, 2, none⟩ = some vn
  c3 : w.cell? ⟨r, 3, none⟩ = some vw
  c4 : w.cell? ⟨r, 4, none⟩ = some (.bool x.fused)
  c5 : w.cell? ⟨r, 5, none⟩ = some (.int .i64 x.fuse)
  c6 : w.cell? ⟨r, 6, none⟩ = some (.bool x.down)
  warm : ∀ o, w.frozen? ⟨r, o, none⟩ = false
  lt : r < w.heap.size

theorem RAt.no {w w' : World} {r : Nat} {x : RSt} {vs vn vw : Value} (h : RAt w r x vs vn vw) (hk : Kp No w w') : RAt w' r x vs vn vw :=
  ⟨hk.cell' h.c0 id, hk.cell' h.c1 id, hk.cell' h.c2 id, hk.cell' h.c3 id, hk.cell' h.c4 id, hk.cell' h.c5 id, hk.cell' h.c6 id, fun o => (hk.frozen (p := ⟨r, o, none⟩) h.lt id).trans (h.warm o), Nat.lt_of_lt_of_le h.lt hk.size⟩

theorem other_cell {w : World} {r o o' : Nat} {u v : Value} (h : w.cell? ⟨r, o, none⟩ = some v) (hne : o ≠ o') : (w.setCell ⟨r, o', none⟩ u).cell? ⟨r, o, none⟩ = some v := dsk.cell_ne h hne

theorem RAt.set_fuse {w : World} {r : Nat} {x : RSt} {vs vn vw : Value} (h : RAt w r x vs vn vw) (n : Int) : RAt (w.setCell ⟨r, 5, none⟩ (.int .i64 n)) r { x with fuse := n } vs vn vw :=
  ⟨other_cell h.c0 (by omega), other_cell h.c1 (by omega), other_cell h.c2 (by omega), other_cell h.c3 (by omega), other_cell h.c4 (by omega), World.cell?_setCell_same w _ _ h.c5, other_cell h.c6 (by omega), dsk.warm_set h.warm, by simpa using h.lt⟩
theorem RAt.set_fused {w : World} {r : Nat} {x : RSt} {vs vn vw : Value} (h : RAt w r x vs vn vw) (n : Bool) : RAt (w.setCell ⟨r, 4, none⟩ (.bool n)) r { x with fused := n } vs vn vw :=
  ⟨other_cell h.c0 (by omega), other_cell h.c1 (by omega), other_cell h.c2 (by omega), other_cell h.c3 (by omega), World.cell?_setCell_same w _ _ h.c4, other_cell h.c5 (by omega), other_cell h.c6 (by omega), dsk.warm_set h.warm, by simpa using h.lt⟩
theorem RAt.set_down {w : World} {r : Nat} {x : RSt} {vs vn vw : Value} (h : RAt w r x vs vn vw) (n : Bool) : RAt (w.setCell ⟨r, 6, none⟩ (.bool n)) r { x with down := n } vs vn vw :=
  ⟨other_cell h.c0 (by omega), other_cell h.c1 (by omega), other_cell h.c2 (by omega), other_cell h.c3 (by omega), other_cell h.c4 (by omega), other_cell h.c5 (by omega), World.cell?_setCell_same w _ _ h.c6, dsk.warm_set h.warm, by simpa using h.lt⟩

/-- a call is counted -/
def cntB (x : RSt) : Bool := x.down || (x.fused && (x.fuse == 0))
def cntX (x : RSt) : RSt := if cntB x = true then { x with down := true } else if x.fused = true then { x with fuse := x.fuse - 1 } else x

set_option maxRecDepth 100000 in
set_option maxHeartbeats 2000000 in
theorem counts_any (w : World) (r : Nat) (x : RSt) (vs vn vw : Value) (h : RAt w r x vs vn vw) (hf0 : 0 ≤ x.fuse) (hf1 : x.fuse ≤ 9223372036854775807) :
    Calls Tryd.prog 43 #[.pointer (some ⟨r, 0, none⟩)] w fun e w' => e = .returned (.int .i64 (if cntB x then 3 else 0)) ∧ RAt w' r (cntX x) vs vn vw ∧ Kp (fun k => k = r) w w' := by
  obtain ⟨sp, fd, fu, dn⟩ := x
  have c4 := h.c4
  have c5 := h.c5
  have c6 := h.c6
  have hw := h.warm
  have hw5 := h.warm 5
  have hw6 := h.warm 6
  simp only at c4 c5 c6 hf0 hf1
  have HD := Hid_mk (h.set_down true)
  have HF := Hid_mk (h.set_fuse (fu - 1))
  have H := Hid_mk h
  have e1 : (w.setCell ⟨r, 6, none⟩ (.bool true)).cell? ⟨r, 6, none⟩ = some (.bool true) := World.cell?_setCell_same w _ _ h.c6
  have e4 : (w.setCell ⟨r, 6, none⟩ (.bool true)).cell? ⟨r, 4, none⟩ = some (.bool fd) := other_cell h.c4 (by omega)
  have k6 := kp_p w r 6 (.bool true)
  have k5 := kp_p w r 5 (.int .i64 (fu - 1))
  clear h
  cases dn with
  | true =>
    have hX : cntX ⟨sp, fd, fu, true⟩ = ⟨sp, fd, fu, true⟩ := by simp [cntX, cntB]
    have hB : cntB ⟨sp, fd, fu, true⟩ = true := by simp [cntB]
    rw [hX, hB]
    clear hX hB
    go_enter Tryd.func43, Tryd.ntmps43
    go_wp2
    go_ret
    exact ⟨rfl, H.out, Kp.refl _ _⟩
  | false =>
    cases fd with
    | false =>
      have hX : cntX ⟨sp, false, fu, false⟩ = ⟨sp, false, fu, false⟩ := by simp [cntX, cntB]
      have hB : cntB ⟨sp, false, fu, false⟩ = false := by simp [cntB]
      rw [hX, hB]
      clear hX hB
      go_enter Tryd.func43, Tryd.ntmps43
      go_wp2
      go_ret
      exact ⟨rfl, H.out, Kp.refl _ _⟩
    | true =>
      by_cases hz : fu = 0
      · subst hz
        have hX : cntX ⟨sp, true, 0, false⟩ = ⟨sp, true, 0, true⟩ := by simp [cntX, cntB]
        have hB : cntB ⟨sp, true, 0, false⟩ = true := by simp [cntB]
        rw [hX, hB]
        clear hX hB
        go_enter Tryd.func43, Tryd.ntmps43
        go_wp2
        go_ret
        exact ⟨rfl, HD.out, k6⟩
      · have hX : cntX ⟨sp, true, fu, false⟩ = ⟨sp, true, fu - 1, false⟩ := by simp [cntX, cntB, hz]
        have hB : cntB ⟨sp, true, fu, false⟩ = false := by simp [cntB, hz]
        rw [hX, hB]
        clear hX hB
        have hwr : IntKind.i64.wrap (fu - 1) = fu - 1 := IntWalk.i64_in _ (by omega)
        go_enter Tryd.func43, Tryd.ntmps43
        go_wp2
        go_ret
        exact ⟨rfl, HF.out, k5⟩

end Go.Proofs.YtomckoeobkfklaaDoor.r2
