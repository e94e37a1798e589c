/- A variable that holds a tree; trees made of one kid or two. -/
import Derived.Test.YtdognehkbahmdaaRefOne
namespace Go.Proofs.Ytdognehkbahmdaa.tre
open Go.RowKit Go.Proofs.Ytdognehkbahmdaa.sum Go.Proofs.Ytdognehkbahmdaa.kept Go.Proofs.Ytdognehkbahmdaa.pop Go.Proofs.Ytdognehkbahmdaa.cls
set_option linter.unusedVariables false

/-- a variable at block q holds the tree; its kids lie elsewhere -/
structure BoxAt (w : World) (q : Nat) (t : Tr) (k : Int) (f : Nat → Bool) (a : Option Addr) (n c : Nat) : Prop where
  cell : ∀ i u, (cellsR k f a n c)[i]? = some u → w.cell? ⟨q, i, none⟩ = some u
  warm : ∀ i, w.frozen? ⟨q, i, none⟩ = false
  val : ReV (fun x => x ≠ q) w t (.agg (cellsR k f a n c))
theorem BoxAt.lt {w : World} {q : Nat} {t : Tr} {k : Int} {f : Nat → Bool} {a : Option Addr} {n c : Nat} (h : BoxAt w q t k f a n c) : q < w.heap.size := World.block_lt_of_cell? w ⟨q, 0, none⟩ (h.cell 0 _ rfl)
theorem BoxAt.no {w w' : World} {q : Nat} {t : Tr} {k : Int} {f : Nat → Bool} {a : Option Addr} {n c : Nat} (h : BoxAt w q t k f a n c) (hk : Kp No w w') : BoxAt w' q t k f a n c :=
  ⟨fun i u e => hk.cell' (h.cell i u e) id, fun i => (hk.frozen (p := ⟨q, i, none⟩) h.lt id).trans (h.warm i), ReV.no hk t _ h.val⟩
theorem BoxAt.cells {w : World} {q : Nat} {t : Tr} {k : Int} {f : Nat → Bool} {a : Option Addr} {n c : Nat} (h : BoxAt w q t k f a n c) :
    w.cell? ⟨q, 0, none⟩ = some (.int .i64 k) ∧ w.cell? ⟨q, 1, none⟩ = some (.int .u64 (wd f 0 64 : Nat)) ∧ w.cell? ⟨q, 2, none⟩ = some (.int .u64 (wd f 64 64 : Nat)) ∧ w.cell? ⟨q, 3, none⟩ = some (.int .u64 (wd f 128 64 : Nat)) ∧ w.cell? ⟨q, 4, none⟩ = some (.int .u64 (wd f 192 64 : Nat)) ∧ w.cell? ⟨q, 5, none⟩ = some (.slice a n c) :=
  ⟨h.cell 0 _ rfl, h.cell 1 _ rfl, h.cell 2 _ rfl, h.cell 3 _ rfl, h.cell 4 _ rfl, h.cell 5 _ rfl⟩
/-- six cells are stored -/
abbrev putR (w : World) (q : Nat) (x0 x1 x2 x3 x4 x5 : Value) : World := (((((w.setCell ⟨q, 0, none⟩ x0).setCell ⟨q, 1, none⟩ x1).setCell ⟨q, 2, none⟩ x2).setCell ⟨q, 3, none⟩ x3).setCell ⟨q, 4, none⟩ x4).setCell ⟨q, 5, none⟩ x5
theorem kp_putR {S : Nat → Prop} {w0 w : World} (h : Kp S w0 w) {q : Nat} (hq : q < w0.heap.size → S q) (x0 x1 x2 x3 x4 x5 : Value) : Kp S w0 (putR w q x0 x1 x2 x3 x4 x5) :=
  (((((h.setCell (p := ⟨q, 0, none⟩) hq _).setCell (p := ⟨q, 1, none⟩) hq _).setCell (p := ⟨q, 2, none⟩) hq _).setCell (p := ⟨q, 3, none⟩) hq _).setCell (p := ⟨q, 4, none⟩) hq _).setCell (p := ⟨q, 5, none⟩) hq _
theorem BoxAt.put {w : World} {q : Nat} {t t' : Tr} {k k' : Int} {f f' : Nat → Bool} {a a' : Option Addr} {n c n' c' : Nat} (h : BoxAt w q t k f a n c) (hv : ReV (fun x => x ≠ q) w t' (.agg (cellsR k' f' a' n' c'))) :
    BoxAt (putR w q (.int .i64 k') (.int .u64 (wd f' 0 64 : Nat)) (.int .u64 (wd f' 64 64 : Nat)) (.int .u64 (wd f' 128 64 : Nat)) (.int .u64 (wd f' 192 64 : Nat)) (.slice a' n' c')) q t' k' f' a' n' c' := by
  have hk : Kp (fun x => x = q) w (putR w q (.int .i64 k') (.int .u64 (wd f' 0 64 : Nat)) (.int .u64 (wd f' 64 64 : Nat)) (.int .u64 (wd f' 128 64 : Nat)) (.int .u64 (wd f' 192 64 : Nat)) (.slice a' n' c')) := kp_putR (Kp.refl (fun x => x = q) w) (fun _ => rfl) _ _ _ _ _ _
  refine ⟨fun i u e => ?_, fun i => by unfold putR; simp only [World.frozen?_setCell]; exact h.warm i, ReV.kept hk (fun b hb _ => hb) t' _ hv⟩
  have c0 := h.cell 0 _ rfl
  have c1 := h.cell 1 _ rfl
  have c2 := h.cell 2 _ rfl
  have c3 := h.cell 3 _ rfl
  have c4 := h.cell 4 _ rfl
  have c5 := h.cell 5 _ rfl
  have hi : i < 6 := by
    have := (Array.getElem?_eq_some_iff.1 e).1
    simpa using this
  have : i = 0 ∨ i = 1 ∨ i = 2 ∨ i = 3 ∨ i = 4 ∨ i = 5 := by omega
  rcases this with rfl | rfl | rfl | rfl | rfl | rfl
  · have e0 : (.int .i64 k' : Value) = u := Option.some.inj e
    subst e0
    unfold putR
    rw [World.cell?_setCell_other _ _ _ _ (by intro e; cases e), World.cell?_setCell_other _ _ _ _ (by intro e; cases e), World.cell?_setCell_other _ _ _ _ (by intro e; cases e), World.cell?_setCell_other _ _ _ _ (by intro e; cases e), World.cell?_setCell_other _ _ _ _ (by intro e; cases e)]
    exact World.cell?_setCell_same _ _ _ (by exact c0)
  · have e0 : (.int .u64 (wd f' 0 64 : Nat) : Value) = u := Option.some.inj e
    subst e0
    unfold putR
    rw [World.cell?_setCell_other _ _ _ _ (by intro e; cases e), World.cell?_setCell_other _ _ _ _ (by intro e; cases e), World.cell?_setCell_other _ _ _ _ (by intro e; cases e), World.cell?_setCell_other _ _ _ _ (by intro e; cases e)]
    exact World.cell?_setCell_same _ _ _ (by rw [World.cell?_setCell_other _ _ _ _ (by intro e; cases e)]; exact c1)
  · have e0 : (.int .u64 (wd f' 64 64 : Nat) : Value) = u := Option.some.inj e
    subst e0
    unfold putR
    rw [World.cell?_setCell_other _ _ _ _ (by intro e; cases e), World.cell?_setCell_other _ _ _ _ (by intro e; cases e), World.cell?_setCell_other _ _ _ _ (by intro e; cases e)]
    exact World.cell?_setCell_same _ _ _ (by rw [World.cell?_setCell_other _ _ _ _ (by intro e; cases e), World.cell?_setCell_other _ _ _ _ (by intro e; cases e)]; exact c2)
  · have e0 : (.int .u64 (wd f' 128 64 : Nat) : Value) = u := Option.some.inj e
    subst e0
    unfold putR
    rw [World.cell?_setCell_other _ _ _ _ (by intro e; cases e), World.cell?_setCell_other _ _ _ _ (by intro e; cases e)]
    exact World.cell?_setCell_same _ _ _ (by rw [World.cell?_setCell_other _ _ _ _ (by intro e; cases e), World.cell?_setCell_other _ _ _ _ (by intro e; cases e), World.cell?_setCell_other _ _ _ _ (by intro e; cases e)]; exact c3)
  · have e0 : (.int .u64 (wd f' 192 64 : Nat) : Value) = u := Option.some.inj e
    subst e0
    unfold putR
    rw [World.cell?_setCell_other _ _ _ _ (by intro e; cases e)]
    exact World.cell?_setCell_same _ _ _ (by rw [World.cell?_setCell_other _ _ _ _ (by intro e; cases e), World.cell?_setCell_other _ _ _ _ (by intro e; cases e), World.cell?_setCell_other _ _ _ _ (by intro e; cases e), World.cell?_setCell_other _ _ _ _ (by intro e; cases e)]; exact c4)
  · have e0 : (.slice a' n' c' : Value) = u := Option.some.inj e
    subst e0
    unfold putR
    exact World.cell?_setCell_same _ _ _ (by rw [World.cell?_setCell_other _ _ _ _ (by intro e; cases e), World.cell?_setCell_other _ _ _ _ (by intro e; cases e), World.cell?_setCell_other _ _ _ _ (by intro e; cases e), World.cell?_setCell_other _ _ _ _ (by intro e; cases e), World.cell?_setCell_other _ _ _ _ (by intro e; cases e)]; exact c5)
/-- one kid, in a block of its own -/
theorem made1 {T : Nat → Prop} {w : World} {t : Tr} {k : Int} {f : Nat → Bool} {a : Option Addr} {n c : Nat} (hv : ReV T w t (.agg (cellsR k f a n c))) (hT : T w.heap.size) (K : Int) (F : Nat → Bool) (ty : TypeId) :
    ReV T (w.alloc (.cells (cellsR k f a n c) ty)) (.mk K F [t]) (.agg (cellsR K F (some ⟨w.heap.size, 0, none⟩) 1 1)) :=
  ⟨_, 1, rfl, Nat.le_refl _, by decide, fun _ => ⟨w.heap.size, 0, rfl, ⟨hT, by simp⟩, ⟨_, _, _, _, _, _, by simp, by simp, by simp, by simp, by simp, by simp, ReV.no ((Kp.refl No w).alloc _) t _ hv⟩, trivial⟩⟩
/-- two kids -/
theorem made2 {T : Nat → Prop} {w : World} {t t' : Tr} {k k' : Int} {f f' : Nat → Bool} {a a' : Option Addr} {n c n' c' : Nat} (hv : ReV T w t (.agg (cellsR k f a n c))) (hv' : ReV T w t' (.agg (cellsR k' f' a' n' c'))) (hT : T w.heap.size) (K : Int) (F : Nat → Bool) (ty : TypeId) :
    ReV T (w.alloc (.cells (cellsR k f a n c ++ cellsR k' f' a' n' c') ty)) (.mk K F [t, t']) (.agg (cellsR K F (some ⟨w.heap.size, 0, none⟩) 2 2)) :=
  ⟨_, 2, rfl, Nat.le_refl _, by decide, fun _ => ⟨w.heap.size, 0, rfl, ⟨hT, by simp⟩, ⟨_, _, _, _, _, _, by simp, by simp, by simp, by simp, by simp, by simp, ReV.no ((Kp.refl No w).alloc _) t _ hv⟩,
    ⟨_, _, _, _, _, _, by simp, by simp, by simp, by simp, by simp, by simp, ReV.no ((Kp.refl No w).alloc _) t' _ hv'⟩, trivial⟩⟩

end Go.Proofs.Ytdognehkbahmdaa.tre
