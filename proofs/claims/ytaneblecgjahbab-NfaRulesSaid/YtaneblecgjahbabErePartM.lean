/- Package ere: parts in memory: over, a leaf, a set, one that is made of one or of two. Package ere: a part made of one kid, or of two. -/
import Derived.Test.YtaneblecgjahbabErePureM

namespace Go.Proofs.Ytaneblecgjahbab.ere
open Go.RowKit Go.Proofs.Ytaneblecgjahbab.sum Go.Proofs.Ytaneblecgjahbab.kept Go.Proofs.Ytaneblecgjahbab.pop Go.Proofs.Ytaneblecgjahbab.cls Go.Proofs.Ytaneblecgjahbab.tre
set_option linter.unusedVariables false

/-- eight cells of a part -/
abbrev cellsP (k : Int) (f : Nat → Bool) (a : Option Addr) (n c : Nat) (L H : Int) : Array Value := #[.int .i64 k, .int .u64 (wd f 0 64 : Nat), .int .u64 (wd f 64 64 : Nat), .int .u64 (wd f 128 64 : Nat), .int .u64 (wd f 192 64 : Nat), .slice a n c, .int .i64 L, .int .i64 H]
/-- a value is this part -/
def PtV (T : Nat → Prop) (w : World) (p : Pt) (v : Value) : Prop :=
  ∃ k f a n c, v = .agg (cellsP k f a n c p.n p.h) ∧ ReV T w p.t (.agg (cellsR k f a n c))
theorem PtV.no {T : Nat → Prop} {w w' : World} {p : Pt} {v : Value} (h : PtV T w p v) (hk : Kp No w w') : PtV T w' p v := by
  obtain ⟨k, f, a, n, c, e, h⟩ := h
  exact ⟨k, f, a, n, c, e, ReV.no hk _ _ h⟩
theorem PtV.kept {S T : Nat → Prop} {w w' : World} {p : Pt} {v : Value} (h : PtV T w p v) (hk : Kp S w w') (hS : ∀ b, T b → b < w.heap.size → ¬ S b) : PtV T w' p v := by
  obtain ⟨k, f, a, n, c, e, h⟩ := h
  exact ⟨k, f, a, n, c, e, ReV.kept hk hS _ _ h⟩
theorem PtV.wider {T T' : Nat → Prop} {w : World} {p : Pt} {v : Value} (h : PtV T w p v) (hT : ∀ b, T b → b < w.heap.size → T' b) : PtV T' w p v := by
  obtain ⟨k, f, a, n, c, e, h⟩ := h
  exact ⟨k, f, a, n, c, e, ReV.wider hT _ _ h⟩
theorem leaf_val (T : Nat → Prop) (w : World) (k : Int) (f : Nat → Bool) (c : Nat) (hc : c ≤ 9223372036854775807) (a : Option Addr) : ReV T w (.mk k f []) (.agg (cellsR k f a 0 c)) := ⟨a, c, rfl, Nat.zero_le _, hc, fun h => absurd rfl h⟩

/-- eight cells are stored -/
abbrev putP (w : World) (q : Nat) (x0 x1 x2 x3 x4 x5 x6 x7 : Value) : World := (((((((w.setCell ⟨q, 0, none⟩ x0).setCell ⟨q, 1, none⟩ x1).setCell ⟨q, 2, none⟩ x2).setCell ⟨q, 3, none⟩ x3).setCell ⟨q, 4, none⟩ x4).setCell ⟨q, 5, none⟩ x5).setCell ⟨q, 6, none⟩ x6).setCell ⟨q, 7, none⟩ x7
theorem kp_putP {S : Nat → Prop} {w0 w : World} (h : Kp S w0 w) {q : Nat} (hq : q < w0.heap.size → S q) (x0 x1 x2 x3 x4 x5 x6 x7 : Value) : Kp S w0 (putP w q x0 x1 x2 x3 x4 x5 x6 x7) :=
  (((((((h.setCell (p := ⟨q, 0, none⟩) hq _).setCell (p := ⟨q, 1, none⟩) hq _).setCell (p := ⟨q, 2, none⟩) hq _).setCell (p := ⟨q, 3, none⟩) hq _).setCell (p := ⟨q, 4, none⟩) hq _).setCell (p := ⟨q, 5, none⟩) hq _).setCell (p := ⟨q, 6, none⟩) hq _).setCell (p := ⟨q, 7, none⟩) hq _
/-- a part's cells at a block -/
structure PAt (w : World) (q : Nat) (x0 x1 x2 x3 x4 x5 x6 x7 : Value) : Prop where
  c0 : w.cell? ⟨q, 0, none⟩ = some x0
  c1 : w.cell? ⟨q, 1, none⟩ = some x1
  c2 : w.cell? ⟨q, 2, none⟩ = some x2
  c3 : w.cell? ⟨q, 3, none⟩ = some x3
  c4 : w.cell? ⟨q, 4, none⟩ = some x4
  c5 : w.cell? ⟨q, 5, none⟩ = some x5
  c6 : w.cell? ⟨q, 6, none⟩ = some x6
  c7 : w.cell? ⟨q, 7, none⟩ = some x7
  warm : ∀ i, w.frozen? ⟨q, i, none⟩ = false
theorem PAt.lt {w : World} {q : Nat} {x0 x1 x2 x3 x4 x5 x6 x7 : Value} (h : PAt w q x0 x1 x2 x3 x4 x5 x6 x7) : q < w.heap.size := World.block_lt_of_cell? w ⟨q, 0, none⟩ h.c0
theorem PAt.new (w : World) (x0 x1 x2 x3 x4 x5 x6 x7 : Value) (ty : TypeId) : PAt (w.alloc (.cells #[x0, x1, x2, x3, x4, x5, x6, x7] ty)) w.heap.size x0 x1 x2 x3 x4 x5 x6 x7 :=
  ⟨by simp, by simp, by simp, by simp, by simp, by simp, by simp, by simp, fun i => by simp⟩
theorem PAt.kept {S : Nat → Prop} {w w' : World} {q : Nat} {x0 x1 x2 x3 x4 x5 x6 x7 : Value} (h : PAt w q x0 x1 x2 x3 x4 x5 x6 x7) (hk : Kp S w w') (hq : ¬ S q) : PAt w' q x0 x1 x2 x3 x4 x5 x6 x7 :=
  ⟨hk.cell' h.c0 hq, hk.cell' h.c1 hq, hk.cell' h.c2 hq, hk.cell' h.c3 hq, hk.cell' h.c4 hq, hk.cell' h.c5 hq, hk.cell' h.c6 hq, hk.cell' h.c7 hq, fun i => (hk.frozen (p := ⟨q, i, none⟩) h.lt hq).trans (h.warm i)⟩
theorem PAt.put {w : World} {q : Nat} {x0 x1 x2 x3 x4 x5 x6 x7 : Value} (h : PAt w q x0 x1 x2 x3 x4 x5 x6 x7) (y0 y1 y2 y3 y4 y5 y6 y7 : Value) : PAt (putP w q y0 y1 y2 y3 y4 y5 y6 y7) q y0 y1 y2 y3 y4 y5 y6 y7 := by
  obtain ⟨c0, c1, c2, c3, c4, c5, c6, c7, hw⟩ := h
  unfold putP
  refine ⟨?_, ?_, ?_, ?_, ?_, ?_, ?_, ?_, fun i => by simp only [World.frozen?_setCell]; exact hw i⟩
  · rw [World.cell?_setCell_other _ _ _ _ (by intro e; cases e)]; rw [World.cell?_setCell_other _ _ _ _ (by intro e; cases e)]; rw [World.cell?_setCell_other _ _ _ _ (by intro e; cases e)]; rw [World.cell?_setCell_other _ _ _ _ (by intro e; cases e)]; rw [World.cell?_setCell_other _ _ _ _ (by intro e; cases e)]; rw [World.cell?_setCell_other _ _ _ _ (by intro e; cases e)]; rw [World.cell?_setCell_other _ _ _ _ (by intro e; cases e)]; exact World.cell?_setCell_same _ _ _ (by exact c0)
  · rw [World.cell?_setCell_other _ _ _ _ (by intro e; cases e)]; rw [World.cell?_setCell_other _ _ _ _ (by intro e; cases e)]; rw [World.cell?_setCell_other _ _ _ _ (by intro e; cases e)]; rw [World.cell?_setCell_other _ _ _ _ (by intro e; cases e)]; rw [World.cell?_setCell_other _ _ _ _ (by intro e; cases e)]; rw [World.cell?_setCell_other _ _ _ _ (by intro e; cases e)]; exact World.cell?_setCell_same _ _ _ (by rw [World.cell?_setCell_other _ _ _ _ (by intro e; cases e)]; exact c1)
  · rw [World.cell?_setCell_other _ _ _ _ (by intro e; cases e)]; rw [World.cell?_setCell_other _ _ _ _ (by intro e; cases e)]; rw [World.cell?_setCell_other _ _ _ _ (by intro e; cases e)]; rw [World.cell?_setCell_other _ _ _ _ (by intro e; cases e)]; rw [World.cell?_setCell_other _ _ _ _ (by intro e; cases e)]; exact World.cell?_setCell_same _ _ _ (by rw [World.cell?_setCell_other _ _ _ _ (by intro e; cases e)]; rw [World.cell?_setCell_other _ _ _ _ (by intro e; cases e)]; exact c2)
  · rw [World.cell?_setCell_other _ _ _ _ (by intro e; cases e)]; rw [World.cell?_setCell_other _ _ _ _ (by intro e; cases e)]; rw [World.cell?_setCell_other _ _ _ _ (by intro e; cases e)]; rw [World.cell?_setCell_other _ _ _ _ (by intro e; cases e)]; exact World.cell?_setCell_same _ _ _ (by rw [World.cell?_setCell_other _ _ _ _ (by intro e; cases e)]; rw [World.cell?_setCell_other _ _ _ _ (by intro e; cases e)]; rw [World.cell?_setCell_other _ _ _ _ (by intro e; cases e)]; exact c3)
  · rw [World.cell?_setCell_other _ _ _ _ (by intro e; cases e)]; rw [World.cell?_setCell_other _ _ _ _ (by intro e; cases e)]; rw [World.cell?_setCell_other _ _ _ _ (by intro e; cases e)]; exact World.cell?_setCell_same _ _ _ (by rw [World.cell?_setCell_other _ _ _ _ (by intro e; cases e)]; rw [World.cell?_setCell_other _ _ _ _ (by intro e; cases e)]; rw [World.cell?_setCell_other _ _ _ _ (by intro e; cases e)]; rw [World.cell?_setCell_other _ _ _ _ (by intro e; cases e)]; exact c4)
  · rw [World.cell?_setCell_other _ _ _ _ (by intro e; cases e)]; rw [World.cell?_setCell_other _ _ _ _ (by intro e; cases e)]; exact World.cell?_setCell_same _ _ _ (by rw [World.cell?_setCell_other _ _ _ _ (by intro e; cases e)]; rw [World.cell?_setCell_other _ _ _ _ (by intro e; cases e)]; rw [World.cell?_setCell_other _ _ _ _ (by intro e; cases e)]; rw [World.cell?_setCell_other _ _ _ _ (by intro e; cases e)]; rw [World.cell?_setCell_other _ _ _ _ (by intro e; cases e)]; exact c5)
  · rw [World.cell?_setCell_other _ _ _ _ (by intro e; cases e)]; exact World.cell?_setCell_same _ _ _ (by rw [World.cell?_setCell_other _ _ _ _ (by intro e; cases e)]; rw [World.cell?_setCell_other _ _ _ _ (by intro e; cases e)]; rw [World.cell?_setCell_other _ _ _ _ (by intro e; cases e)]; rw [World.cell?_setCell_other _ _ _ _ (by intro e; cases e)]; rw [World.cell?_setCell_other _ _ _ _ (by intro e; cases e)]; rw [World.cell?_setCell_other _ _ _ _ (by intro e; cases e)]; exact c6)
  · exact World.cell?_setCell_same _ _ _ (by rw [World.cell?_setCell_other _ _ _ _ (by intro e; cases e)]; rw [World.cell?_setCell_other _ _ _ _ (by intro e; cases e)]; rw [World.cell?_setCell_other _ _ _ _ (by intro e; cases e)]; rw [World.cell?_setCell_other _ _ _ _ (by intro e; cases e)]; rw [World.cell?_setCell_other _ _ _ _ (by intro e; cases e)]; rw [World.cell?_setCell_other _ _ _ _ (by intro e; cases e)]; rw [World.cell?_setCell_other _ _ _ _ (by intro e; cases e)]; exact c7)

set_option maxRecDepth 100000 in
theorem over_any (w : World) : Calls Try.prog 84 #[] w fun e w' => e = .returned (.agg (cellsP 0 nul none 0 0 401 41)) ∧ Kp No w w' := by
  obtain ⟨W0, hW0⟩ : ∃ W0, w.alloc (.cells #[.int .i64 0, .int .u64 0, .int .u64 0, .int .u64 0, .int .u64 0, .slice none 0 0, .int .i64 0, .int .i64 0] 102) = W0 := ⟨_, rfl⟩
  obtain ⟨q, hq⟩ : ∃ q, w.heap.size = q := ⟨_, rfl⟩
  have HK0 : Hid (Kp No w W0) := Hid_mk (by rw [← hW0]; exact (Kp.refl No w).alloc _)
  have hp : PAt W0 q (.int .i64 0) (.int .u64 0) (.int .u64 0) (.int .u64 0) (.int .u64 0) (.slice none 0 0) (.int .i64 0) (.int .i64 0) := by rw [← hW0, ← hq]; exact PAt.new _ _ _ _ _ _ _ _ _ _
  obtain ⟨c0, c1, c2, c3, c4, c5, c6, c7, hw⟩ := hp
  have HW0 := Hid_mk hW0
  have HQ := Hid_mk hq
  clear hW0 hq
  go_enter Try.func84, Try.ntmps84
  go_upto_region 1 with fail
  rw [HW0.out, HQ.out]
  clear HW0
  go_wp2
  refine bodyPost_ret (v := .agg (cellsP 0 nul none 0 0 401 41)) ?_ rfl ⟨rfl, kp_putP HK0.out (fun h => by have := HQ.out; omega) _ _ _ _ _ _ _ _⟩
  simp [results, Try.results84, go_sem, cellsP, wd_nul, c0, c1, c2, c3, c4, c5, c6, c7]

set_option maxRecDepth 100000 in
theorem leaf_any (w : World) (k : Int) : Calls Try.prog 101 #[.int .i64 k] w fun e w' => e = .returned (.agg (cellsP k nul none 0 0 1 1)) ∧ Kp No w w' := by
  obtain ⟨W0, hW0⟩ : ∃ W0, w.alloc (.cells #[.int .i64 0, .int .u64 0, .int .u64 0, .int .u64 0, .int .u64 0, .slice none 0 0, .int .i64 0, .int .i64 0] 102) = W0 := ⟨_, rfl⟩
  obtain ⟨q, hq⟩ : ∃ q, w.heap.size = q := ⟨_, rfl⟩
  have HK0 : Hid (Kp No w W0) := Hid_mk (by rw [← hW0]; exact (Kp.refl No w).alloc _)
  have hp : PAt W0 q (.int .i64 0) (.int .u64 0) (.int .u64 0) (.int .u64 0) (.int .u64 0) (.slice none 0 0) (.int .i64 0) (.int .i64 0) := by rw [← hW0, ← hq]; exact PAt.new _ _ _ _ _ _ _ _ _ _
  obtain ⟨c0, c1, c2, c3, c4, c5, c6, c7, hw⟩ := hp
  have HW0 := Hid_mk hW0
  have HQ := Hid_mk hq
  clear hW0 hq
  go_enter Try.func101, Try.ntmps101
  go_upto_region 1 with fail
  rw [HW0.out, HQ.out]
  clear HW0
  go_wp2
  refine bodyPost_ret (v := .agg (cellsP k nul none 0 0 1 1)) ?_ rfl ⟨rfl, kp_putP HK0.out (fun h => by have := HQ.out; omega) _ _ _ _ _ _ _ _⟩
  simp [results, Try.results101, go_sem, cellsP, wd_nul, c0, c1, c2, c3, c4, c5, c6, c7]

set_option maxRecDepth 100000 in
theorem among_any (w : World) (f : Nat → Bool) : Calls Try.prog 99 #[sv f] w fun e w' => e = .returned (.agg (cellsP 1 f none 0 0 1 1)) ∧ Kp No w w' := by
  obtain ⟨W1, hW1⟩ : ∃ W1, w.alloc (.cells #[.int .u64 (wd f 0 64 : Nat), .int .u64 (wd f 64 64 : Nat), .int .u64 (wd f 128 64 : Nat), .int .u64 (wd f 192 64 : Nat)] 27) = W1 := ⟨_, rfl⟩
  obtain ⟨W0, hW0⟩ : ∃ W0, W1.alloc (.cells #[.int .i64 0, .int .u64 0, .int .u64 0, .int .u64 0, .int .u64 0, .slice none 0 0, .int .i64 0, .int .i64 0] 102) = W0 := ⟨_, rfl⟩
  obtain ⟨q, hq⟩ : ∃ q, w.heap.size = q := ⟨_, rfl⟩
  have HK0 : Hid (Kp No w W0) := Hid_mk (by rw [← hW0, ← hW1]; exact ((Kp.refl No w).alloc _).alloc _)
  have hp : PAt W0 (q + 1) (.int .i64 0) (.int .u64 0) (.int .u64 0) (.int .u64 0) (.int .u64 0) (.slice none 0 0) (.int .i64 0) (.int .i64 0) := by
    have hz : q + 1 = W1.heap.size := by rw [← hW1, ← hq]; simp
    rw [← hW0, hz]
    exact PAt.new _ _ _ _ _ _ _ _ _ _
  have hs : SetAt W0 q f := by
    rw [← hW0, ← hW1, ← hq]
    exact (SetAt.made w f).kept ((Kp.refl No _).alloc _) id
  obtain ⟨c0, c1, c2, c3, c4, c5, c6, c7, hw⟩ := hp
  obtain ⟨z0, z1, z2, z3⟩ := hs.cells
  have HW0 := Hid_mk hW0
  have HW1 := Hid_mk hW1
  have HQ := Hid_mk hq
  clear hW0 hW1 hq hs
  go_enter Try.func99, Try.ntmps99
  rw [svd]
  go_upto_region 1 with fail
  rw [HQ.out]
  rw [HW1.out, HW0.out]
  clear HW0 HW1
  go_wp2
  refine bodyPost_ret (v := .agg (cellsP 1 f none 0 0 1 1)) ?_ rfl ⟨rfl, kp_putP HK0.out (fun h => by have := HQ.out; omega) _ _ _ _ _ _ _ _⟩
  simp [results, Try.results99, go_sem, cellsP, c0, c1, c2, c3, c4, c5, c6, c7]

set_option maxRecDepth 100000 in
theorem fits_any (w : World) (k : Int) (f : Nat → Bool) (a : Option Addr) (n c : Nat) (L H : Nat) :
    Calls Try.prog 48 #[.agg (cellsP k f a n c L H)] w fun e w' => e = .returned (.bool (decide (L ≤ 400) && decide (H ≤ 40))) ∧ Kp No w w' := by
  have HK0 := Hid_mk ((Kp.refl No w).alloc (.cells (cellsP k f a n c L H) 102))
  unfold cellsP at HK0
  by_cases h1 : L ≤ 400
  · have h1i : (L : Int) ≤ 400 := by omega
    by_cases h2 : H ≤ 40
    · have h2i : (H : Int) ≤ 40 := by omega
      rw [decide_eq_true h1, decide_eq_true h2]
      go_enter Try.func48, Try.ntmps48
      unfold cellsP
      go_wp2
      go_ret
      exact ⟨rfl, HK0.out⟩
    · have h2i : ¬ (H : Int) ≤ 40 := by omega
      rw [decide_eq_true h1, decide_eq_false h2]
      go_enter Try.func48, Try.ntmps48
      unfold cellsP
      go_wp2
      go_ret
      exact ⟨rfl, HK0.out⟩
  · have h1i : ¬ (L : Int) ≤ 400 := by omega
    rw [decide_eq_false h1]
    go_enter Try.func48, Try.ntmps48
    unfold cellsP
    go_wp2
    go_ret
    exact ⟨rfl, HK0.out⟩

end Go.Proofs.Ytaneblecgjahbab.ere

namespace Go.Proofs.Ytaneblecgjahbab.ere
open Go.RowKit Go.Proofs.Ytaneblecgjahbab.sum Go.Proofs.Ytaneblecgjahbab.kept Go.Proofs.Ytaneblecgjahbab.pop Go.Proofs.Ytaneblecgjahbab.cls Go.Proofs.Ytaneblecgjahbab.tre
set_option linter.unusedVariables false

theorem wp_name {P : Program} {c : Code} {Q : Exit → Act → World → Prop} {a : Act} {w : World} (p : World → Prop) (hp : p w) (h : ∀ W, p W → c.wp P Q a W) : c.wp P Q a w := h w hp
theorem fitsZ_any (w : World) (L H : Nat) :
    Calls Try.prog 48 #[.agg #[.int .i64 0, .int .u64 0, .int .u64 0, .int .u64 0, .int .u64 0, .slice none 0 0, .int .i64 (L : Int), .int .i64 (H : Int)]] w fun e w' => e = .returned (.bool (decide (L ≤ 400) && decide (H ≤ 40))) ∧ Kp No w w' := by
  have h := fits_any w 0 nul none 0 0 L H
  simp only [cellsP, wd_nul] at h
  exact h
theorem over_val (T : Nat → Prop) (w : World) : PtV T w overP (.agg (cellsP 0 nul none 0 0 401 41)) := ⟨0, nul, none, 0, 0, rfl, leaf_val T w 0 nul 0 (by decide) none⟩
/-- a part's cells with those of a tree put over them -/
abbrev putT (w : World) (q : Nat) (x0 x1 x2 x3 x4 x5 : Value) : World := (((((w.setCell ⟨q, 0, none⟩ x0).setCell ⟨q, 1, none⟩ x1).setCell ⟨q, 2, none⟩ x2).setCell ⟨q, 3, none⟩ x3).setCell ⟨q, 4, none⟩ x4).setCell ⟨q, 5, none⟩ x5
theorem kp_putT {S : Nat → Prop} {w0 w : World} (h : Kp S w0 w) {q : Nat} (hq : q < w0.heap.size → S q) (x0 x1 x2 x3 x4 x5 : Value) : Kp S w0 (putT w q x0 x1 x2 x3 x4 x5) :=
  (((((h.setCell (p := ⟨q, 0, none⟩) hq _).setCell (p := ⟨q, 1, none⟩) hq _).setCell (p := ⟨q, 2, none⟩) hq _).setCell (p := ⟨q, 3, none⟩) hq _).setCell (p := ⟨q, 4, none⟩) hq _).setCell (p := ⟨q, 5, none⟩) hq _
theorem PAt.putT {w : World} {q : Nat} {x0 x1 x2 x3 x4 x5 x6 x7 : Value} (h : PAt w q x0 x1 x2 x3 x4 x5 x6 x7) (y0 y1 y2 y3 y4 y5 : Value) : PAt (ere.putT w q y0 y1 y2 y3 y4 y5) q y0 y1 y2 y3 y4 y5 x6 x7 := by
  obtain ⟨c0, c1, c2, c3, c4, c5, c6, c7, hw⟩ := h
  unfold ere.putT
  refine ⟨?_, ?_, ?_, ?_, ?_, ?_, ?_, ?_, fun i => by simp only [World.frozen?_setCell]; exact hw i⟩
  · rw [World.cell?_setCell_other _ _ _ _ (by intro e; cases e)]; rw [World.cell?_setCell_other _ _ _ _ (by intro e; cases e)]; rw [World.cell?_setCell_other _ _ _ _ (by intro e; cases e)]; rw [World.cell?_setCell_other _ _ _ _ (by intro e; cases e)]; rw [World.cell?_setCell_other _ _ _ _ (by intro e; cases e)]; exact World.cell?_setCell_same _ _ _ (by exact c0)
  · rw [World.cell?_setCell_other _ _ _ _ (by intro e; cases e)]; rw [World.cell?_setCell_other _ _ _ _ (by intro e; cases e)]; rw [World.cell?_setCell_other _ _ _ _ (by intro e; cases e)]; rw [World.cell?_setCell_other _ _ _ _ (by intro e; cases e)]; exact World.cell?_setCell_same _ _ _ (by rw [World.cell?_setCell_other _ _ _ _ (by intro e; cases e)]; exact c1)
  · rw [World.cell?_setCell_other _ _ _ _ (by intro e; cases e)]; rw [World.cell?_setCell_other _ _ _ _ (by intro e; cases e)]; rw [World.cell?_setCell_other _ _ _ _ (by intro e; cases e)]; exact World.cell?_setCell_same _ _ _ (by rw [World.cell?_setCell_other _ _ _ _ (by intro e; cases e)]; rw [World.cell?_setCell_other _ _ _ _ (by intro e; cases e)]; exact c2)
  · rw [World.cell?_setCell_other _ _ _ _ (by intro e; cases e)]; rw [World.cell?_setCell_other _ _ _ _ (by intro e; cases e)]; exact World.cell?_setCell_same _ _ _ (by rw [World.cell?_setCell_other _ _ _ _ (by intro e; cases e)]; rw [World.cell?_setCell_other _ _ _ _ (by intro e; cases e)]; rw [World.cell?_setCell_other _ _ _ _ (by intro e; cases e)]; exact c3)
  · rw [World.cell?_setCell_other _ _ _ _ (by intro e; cases e)]; exact World.cell?_setCell_same _ _ _ (by rw [World.cell?_setCell_other _ _ _ _ (by intro e; cases e)]; rw [World.cell?_setCell_other _ _ _ _ (by intro e; cases e)]; rw [World.cell?_setCell_other _ _ _ _ (by intro e; cases e)]; rw [World.cell?_setCell_other _ _ _ _ (by intro e; cases e)]; exact c4)
  · exact World.cell?_setCell_same _ _ _ (by rw [World.cell?_setCell_other _ _ _ _ (by intro e; cases e)]; rw [World.cell?_setCell_other _ _ _ _ (by intro e; cases e)]; rw [World.cell?_setCell_other _ _ _ _ (by intro e; cases e)]; rw [World.cell?_setCell_other _ _ _ _ (by intro e; cases e)]; rw [World.cell?_setCell_other _ _ _ _ (by intro e; cases e)]; exact c5)
  · rw [World.cell?_setCell_other _ _ _ _ (by intro e; cases e)]; rw [World.cell?_setCell_other _ _ _ _ (by intro e; cases e)]; rw [World.cell?_setCell_other _ _ _ _ (by intro e; cases e)]; rw [World.cell?_setCell_other _ _ _ _ (by intro e; cases e)]; rw [World.cell?_setCell_other _ _ _ _ (by intro e; cases e)]; rw [World.cell?_setCell_other _ _ _ _ (by intro e; cases e)]; exact c6
  · rw [World.cell?_setCell_other _ _ _ _ (by intro e; cases e)]; rw [World.cell?_setCell_other _ _ _ _ (by intro e; cases e)]; rw [World.cell?_setCell_other _ _ _ _ (by intro e; cases e)]; rw [World.cell?_setCell_other _ _ _ _ (by intro e; cases e)]; rw [World.cell?_setCell_other _ _ _ _ (by intro e; cases e)]; rw [World.cell?_setCell_other _ _ _ _ (by intro e; cases e)]; exact c7

set_option maxRecDepth 100000 in
set_option maxHeartbeats 1000000 in
theorem two_any (T : Nat → Prop) (w : World) (k : Int) (p1 p2 : Pt) (v1 v2 : Value) (h1 : PtV T w p1 v1) (h2 : PtV T w p2 v2) (hT : ∀ b, w.heap.size ≤ b → T b) (b1 : p1.n ≤ 401 ∧ p1.h ≤ 41) (b2 : p2.n ≤ 401 ∧ p2.h ≤ 41) :
    Calls Try.prog 85 #[.int .i64 k, v1, v2] w fun e w' => ∃ v, e = .returned v ∧ PtV T w' (twoPt k p1 p2) v ∧ Kp No w w' := by
  obtain ⟨k1, f1, a1, n1, c1, rfl, hr1⟩ := h1
  obtain ⟨k2, f2, a2, n2, c2, rfl, hr2⟩ := h2
  obtain ⟨t1, L1, H1⟩ := p1
  obtain ⟨t2, L2, H2⟩ := p2
  simp only at hr1 hr2 b1 b2 ⊢
  have hd : twoPt k ⟨t1, L1, H1⟩ ⟨t2, L2, H2⟩ = if (decide (L1 + L2 ≤ 400) && decide (max (H1 + 1) H2 ≤ 40)) = true then ⟨kid2 k t1 t2, L1 + L2, max (H1 + 1) H2⟩ else overP := by
    unfold twoPt
    by_cases h : L1 + L2 ≤ 400 ∧ max (H1 + 1) H2 ≤ 40
    · rw [if_pos h, if_pos (by rw [decide_eq_true h.1, decide_eq_true h.2]; rfl)]
    · rw [if_neg h, if_neg (by simp only [Bool.and_eq_true, decide_eq_true_eq]; exact h)]
  rw [hd]
  clear hd
  obtain ⟨W0, hW0⟩ : ∃ W0, ((w.alloc (.cells (cellsP k1 f1 a1 n1 c1 L1 H1) 102)).alloc (.cells (cellsP k2 f2 a2 n2 c2 L2 H2) 102)).alloc (.cells #[.int .i64 0, .int .u64 0, .int .u64 0, .int .u64 0, .int .u64 0, .slice none 0 0, .int .i64 0, .int .i64 0] 102) = W0 := ⟨_, rfl⟩
  obtain ⟨q, hq⟩ : ∃ q, w.heap.size = q := ⟨_, rfl⟩
  have HK0 : Hid (Kp No w W0) := Hid_mk (by rw [← hW0]; exact (((Kp.refl No w).alloc _).alloc _).alloc _)
  have hz : W0.heap.size = q + 3 := by rw [← hW0, ← hq]; simp
  have hA : PAt W0 q (.int .i64 k1) (.int .u64 (wd f1 0 64 : Nat)) (.int .u64 (wd f1 64 64 : Nat)) (.int .u64 (wd f1 128 64 : Nat)) (.int .u64 (wd f1 192 64 : Nat)) (.slice a1 n1 c1) (.int .i64 (L1 : Int)) (.int .i64 (H1 : Int)) := by
    rw [← hW0, ← hq]
    exact (PAt.new w _ _ _ _ _ _ _ _ _).kept (((Kp.refl No _).alloc _).alloc _) id
  have hB : PAt W0 (q + 1) (.int .i64 k2) (.int .u64 (wd f2 0 64 : Nat)) (.int .u64 (wd f2 64 64 : Nat)) (.int .u64 (wd f2 128 64 : Nat)) (.int .u64 (wd f2 192 64 : Nat)) (.slice a2 n2 c2) (.int .i64 (L2 : Int)) (.int .i64 (H2 : Int)) := by
    have e : q + 1 = (w.alloc (.cells (cellsP k1 f1 a1 n1 c1 L1 H1) 102)).heap.size := by rw [← hq]; simp
    rw [← hW0, e]
    exact (PAt.new _ _ _ _ _ _ _ _ _ _).kept ((Kp.refl No _).alloc _) id
  have hR : PAt W0 (q + 2) (.int .i64 0) (.int .u64 0) (.int .u64 0) (.int .u64 0) (.int .u64 0) (.slice none 0 0) (.int .i64 0) (.int .i64 0) := by
    have e : q + 2 = ((w.alloc (.cells (cellsP k1 f1 a1 n1 c1 L1 H1) 102)).alloc (.cells (cellsP k2 f2 a2 n2 c2 L2 H2) 102)).heap.size := by rw [← hq]; simp
    rw [← hW0, e]
    exact PAt.new _ _ _ _ _ _ _ _ _ _
  unfold cellsP at hW0
  have HW0 := Hid_mk hW0
  have HQ := Hid_mk hq
  have HA := Hid_mk hA
  have HB := Hid_mk hB
  have HR := Hid_mk hR
  have HV1 := Hid_mk (ReV.no HK0.out t1 _ (ReV.wider (T' := fun b => T b ∧ b ≠ q + 3 ∧ b ≠ q + 2) (fun b hb hl => ⟨hb, by omega, by omega⟩) t1 _ hr1))
  have HV2 := Hid_mk (ReV.no HK0.out t2 _ (ReV.wider (T' := fun b => T b ∧ b ≠ q + 3 ∧ b ≠ q + 2) (fun b hb hl => ⟨hb, by omega, by omega⟩) t2 _ hr2))
  have HT := Hid_mk hT
  have HZ := Hid_mk hz
  have a6 := hA.c6
  have a7 := hA.c7
  have b6 := hB.c6
  have b7 := hB.c7
  have hw1 : IntKind.i64.wrap ((L1 : Int) + (L2 : Int)) = ((L1 + L2 : Nat) : Int) := by rw [IntWalk.i64_in _ (by omega)]; push_cast; rfl
  have hw2 : IntKind.i64.wrap ((H1 : Int) + 1) = ((H1 + 1 : Nat) : Int) := by rw [IntWalk.i64_in _ (by omega)]; push_cast; rfl
  have hmx : max (((H1 + 1 : Nat) : Int)) (H2 : Int) = ((max (H1 + 1) H2 : Nat) : Int) := by omega
  obtain ⟨L, hL⟩ : ∃ L, L1 + L2 = L := ⟨_, rfl⟩
  obtain ⟨H, hH⟩ : ∃ H, H1 + 1 = H := ⟨_, rfl⟩
  obtain ⟨H3, hH3⟩ : ∃ H3, max H H2 = H3 := ⟨_, rfl⟩
  rw [hH] at hw2 hmx
  rw [hH3] at hmx
  rw [hL] at hw1
  rw [hL, hH, hH3]
  obtain ⟨F, hF⟩ : ∃ F, (decide (L ≤ 400) && decide (H3 ≤ 40)) = F := ⟨_, rfl⟩
  rw [hF]
  obtain ⟨X, hX⟩ : ∃ X, (if F = true then (⟨kid2 k t1 t2, L, H3⟩ : Pt) else overP) = X := ⟨_, rfl⟩
  rw [hX]
  have HF := Hid_mk hF
  have HX := Hid_mk hX
  clear hF hX hL hH hH3 hW0 hq hA hB hR hr1 hr2 hT b1 b2 hz
  go_enter Try.func85, Try.ntmps85
  unfold cellsP
  go_upto_region 1 with fail
  rw [HW0.out, HQ.out]
  clear HW0
  go_upto_region 2 with fail
  rw [HZ.out]
  have hp3 : PAt (W0.alloc (.cells #[.int .i64 0, .int .u64 0, .int .u64 0, .int .u64 0, .int .u64 0, .slice none 0 0, .int .i64 (L : Int), .int .i64 (H3 : Int)] 102)) (q + 3) (.int .i64 0) (.int .u64 0) (.int .u64 0) (.int .u64 0) (.int .u64 0) (.slice none 0 0) (.int .i64 (L : Int)) (.int .i64 (H3 : Int)) := by
    rw [← HZ.out]
    exact PAt.new W0 _ _ _ _ _ _ _ _ _
  have hk3 : Kp No W0 (W0.alloc (.cells #[.int .i64 0, .int .u64 0, .int .u64 0, .int .u64 0, .int .u64 0, .slice none 0 0, .int .i64 (L : Int), .int .i64 (H3 : Int)] 102)) := (Kp.refl No W0).alloc _
  refine wp_name (fun W => PAt W (q + 3) (.int .i64 0) (.int .u64 0) (.int .u64 0) (.int .u64 0) (.int .u64 0) (.slice none 0 0) (.int .i64 (L : Int)) (.int .i64 (H3 : Int)) ∧ Kp No W0 W) ⟨hp3, hk3⟩ ?_
  clear hp3 hk3
  rintro W1 ⟨hP, hK1⟩
  have HP := Hid_mk hP
  have HK1 := Hid_mk hK1
  have HFi := Hid_mk (fitsZ_any W1 L H3)
  have HOv := Hid_mk fun W => over_any W
  obtain ⟨d0, d1, d2, d3, d4, d5, d6, d7, dw⟩ := hP
  clear hK1 a6 a7 b6 b7
  go_wp2_with fail
  with_reducible refine HFi.out.mono ?_
  rintro e W2 ⟨rfl, hk2⟩
  have HK2 := Hid_mk (HK1.out.trans' hk2)
  have hP2 := HP.out.kept hk2 id
  have hR2 := HR.out.kept HK2.out id
  have HP2 := Hid_mk hP2
  have HR2 := Hid_mk hR2
  clear hk2 d0 d1 d2 d3 d4 d5 d6 d7 dw HP
  obtain ⟨d0, d1, d2, d3, d4, d5, d6, d7, dw⟩ := hP2
  obtain ⟨r0, r1, r2, r3, r4, r5, r6, r7, rw'⟩ := hR2
  rw [HF.out]
  have hnq : q + 2 < w.heap.size → No (q + 2) := fun h => by have := HQ.out; omega
  have HNq := Hid_mk hnq
  clear hnq
  cases F with
  | false =>
    go_wp2_with fail
    with_reducible refine (HOv.out _).mono ?_
    rintro e W3 ⟨rfl, hk3⟩
    have hR3 := HR2.out.kept hk3 id
    have HK3 := Hid_mk (HK2.out.trans' hk3)
    clear hk3 r0 r1 r2 r3 r4 r5 r6 r7 rw' d0 d1 d2 d3 d4 d5 d6 d7 dw
    obtain ⟨r0, r1, r2, r3, r4, r5, r6, r7, rw'⟩ := hR3
    unfold cellsP
    go_wp2
    have hkf := kp_putP (HK0.out.trans' HK3.out) HNq.out (.int .i64 0) (.int .u64 (wd nul 0 64 : Nat)) (.int .u64 (wd nul 64 64 : Nat)) (.int .u64 (wd nul 128 64 : Nat)) (.int .u64 (wd nul 192 64 : Nat)) (.slice none 0 0) (.int .i64 401) (.int .i64 41)
    refine bodyPost_ret (v := .agg (cellsP 0 nul none 0 0 401 41)) ?_ rfl ⟨_, rfl, by rw [show X = overP from HX.out.symm]; exact over_val T _, hkf⟩
    simp [results, Try.results85, go_sem, cellsP, wd_nul, r0, r1, r2, r3, r4, r5, r6, r7]
  | true =>
    have hA2 := HA.out.kept HK2.out id
    have hB2 := HB.out.kept HK2.out id
    have HSz := Hid_mk (show W0.heap.size ≤ W2.heap.size from HK2.out.size)
    obtain ⟨x0, x1, x2, x3, x4, x5, x6, x7, xw⟩ := hA2
    obtain ⟨y0, y1, y2, y3, y4, y5, y6, y7, yw⟩ := hB2
    clear x6 x7 y6 y7 xw yw
    have e0 := fun o => ((Kp.refl No W2).alloc o).cell' d0 id
    have e1 := fun o => ((Kp.refl No W2).alloc o).cell' d1 id
    have e2 := fun o => ((Kp.refl No W2).alloc o).cell' d2 id
    have e3 := fun o => ((Kp.refl No W2).alloc o).cell' d3 id
    have e4 := fun o => ((Kp.refl No W2).alloc o).cell' d4 id
    have e5 := fun o => ((Kp.refl No W2).alloc o).cell' d5 id
    have ew := fun o => (HP2.out.kept ((Kp.refl No W2).alloc o) id).warm
    go_upto_region 5 with fail
    obtain ⟨g, hg⟩ : ∃ g, W2.heap.size = g := ⟨_, rfl⟩
    have HG := Hid_mk hg
    rw [hg]
    have hv : ReV (fun b => T b ∧ b ≠ q + 3 ∧ b ≠ q + 2) (W2.alloc (Obj.cells (cellsR k1 f1 a1 n1 c1 ++ cellsR k2 f2 a2 n2 c2) 30)) (kid2 k t1 t2) (.agg (cellsR k nul (some ⟨W2.heap.size, 0, none⟩) 2 2)) :=
      made2 (ReV.no HK2.out t1 _ HV1.out) (ReV.no HK2.out t2 _ HV2.out) ⟨HT.out _ (by have := HSz.out; have := HK0.out.size; omega), by have := HP2.out.lt; omega, by have := HP2.out.lt; omega⟩ k nul 30
    rw [hg] at hv
    have hkA : Kp No W2 (W2.alloc (Obj.cells (cellsR k1 f1 a1 n1 c1 ++ cellsR k2 f2 a2 n2 c2) 30)) := (Kp.refl No W2).alloc _
    have hPn := (HP2.out.kept hkA id).putT (.int .i64 k) (.int .u64 0) (.int .u64 0) (.int .u64 0) (.int .u64 0) (.slice (some ⟨g, 0, none⟩) 2 2)
    have hRn := HR2.out.kept hkA id
    have hkT : Kp (fun b => b = q + 3) (W2.alloc (Obj.cells (cellsR k1 f1 a1 n1 c1 ++ cellsR k2 f2 a2 n2 c2) 30)) (ere.putT (W2.alloc (Obj.cells (cellsR k1 f1 a1 n1 c1 ++ cellsR k2 f2 a2 n2 c2) 30)) (q + 3) (.int .i64 k) (.int .u64 0) (.int .u64 0) (.int .u64 0) (.int .u64 0) (.slice (some ⟨g, 0, none⟩) 2 2)) := kp_putT (q := q + 3) (Kp.refl (fun b => b = q + 3) _) (fun _ => rfl) _ _ _ _ _ _
    have hRn2 := hRn.kept hkT (by show ¬ q + 2 = q + 3; omega)
    have hkW := HK0.out.trans' (HK2.out.trans' hkA)
    have hkF := hkW.trans hkT (T := fun b => b = q + 3) (fun i hi e => by have := HQ.out; omega)
    have hvF := ReV.wider (T' := fun b => T b ∧ b ≠ q + 2) (fun b hb _ => ⟨hb.1, hb.2.2⟩) _ _ (ReV.kept hkT (fun b hb _ => hb.2.1) _ _ hv)
    unfold ere.putT at hPn hRn2 hkF hvF
    refine wp_name (fun W => PAt W (q + 3) (.int .i64 k) (.int .u64 0) (.int .u64 0) (.int .u64 0) (.int .u64 0) (.slice (some ⟨g, 0, none⟩) 2 2) (.int .i64 (L : Int)) (.int .i64 (H3 : Int)) ∧ PAt W (q + 2) (.int .i64 0) (.int .u64 0) (.int .u64 0) (.int .u64 0) (.int .u64 0) (.slice none 0 0) (.int .i64 0) (.int .i64 0) ∧ Kp No w W ∧ ReV (fun b => T b ∧ b ≠ q + 2) W (kid2 k t1 t2) (.agg (cellsR k nul (some ⟨g, 0, none⟩) 2 2))) ⟨hPn, hRn2, hkF, hvF⟩ ?_
    clear hPn hRn hRn2 hkT hkW hkF hkA hv hvF x0 x1 x2 x3 x4 x5 y0 y1 y2 y3 y4 y5 e0 e1 e2 e3 e4 e5 ew d0 d1 d2 d3 d4 d5 d6 d7 dw r0 r1 r2 r3 r4 r5 r6 r7 rw' hg
    rintro W5 ⟨hP5, hR5, hk5, hv5⟩
    obtain ⟨d0, d1, d2, d3, d4, d5, d6, d7, dw⟩ := hP5
    obtain ⟨r0, r1, r2, r3, r4, r5, r6, r7, rw'⟩ := hR5
    have HK5 := Hid_mk hk5
    have HV5 := Hid_mk hv5
    clear hk5 hv5
    go_wp2
    have hkf := kp_putP HK5.out HNq.out (.int .i64 k) (.int .u64 0) (.int .u64 0) (.int .u64 0) (.int .u64 0) (.slice (some ⟨g, 0, none⟩) 2 2) (.int .i64 (L : Int)) (.int .i64 (H3 : Int))
    have hk6 : Kp (fun b => b = q + 2) W5 (putP W5 (q + 2) (.int .i64 k) (.int .u64 0) (.int .u64 0) (.int .u64 0) (.int .u64 0) (.slice (some ⟨g, 0, none⟩) 2 2) (.int .i64 (L : Int)) (.int .i64 (H3 : Int))) := kp_putP (q := q + 2) (Kp.refl (fun b => b = q + 2) _) (fun _ => rfl) _ _ _ _ _ _ _ _
    refine bodyPost_ret (v := .agg (cellsP k nul (some ⟨g, 0, none⟩) 2 2 L H3)) ?_ rfl ⟨_, rfl, by rw [show X = ⟨kid2 k t1 t2, L, H3⟩ from HX.out.symm]; exact ⟨k, nul, some ⟨g, 0, none⟩, 2, 2, rfl, ReV.wider (T' := T) (fun b hb _ => hb.1) _ _ (ReV.kept hk6 (fun b hb _ => hb.2) _ _ HV5.out)⟩, hkf⟩
    simp [results, Try.results85, go_sem, cellsP, wd_nul, r0, r1, r2, r3, r4, r5, r6, r7]

set_option maxRecDepth 100000 in
set_option maxHeartbeats 1000000 in
theorem one_any (T : Nat → Prop) (w : World) (k : Int) (p1 : Pt) (v1 : Value) (h1 : PtV T w p1 v1) (hT : ∀ b, w.heap.size ≤ b → T b) (b1 : p1.n ≤ 401 ∧ p1.h ≤ 41) :
    Calls Try.prog 103 #[.int .i64 k, v1] w fun e w' => ∃ v, e = .returned v ∧ PtV T w' (onePt k p1) v ∧ Kp No w w' := by
  obtain ⟨k1, f1, a1, n1, c1, rfl, hr1⟩ := h1
  obtain ⟨t1, L1, H1⟩ := p1
  simp only at hr1 b1 ⊢
  have hd : onePt k ⟨t1, L1, H1⟩ = if (decide (L1 ≤ 400) && decide (H1 + 1 ≤ 40)) = true then ⟨kid1 k t1, L1, H1 + 1⟩ else overP := by
    unfold onePt
    by_cases h : L1 ≤ 400 ∧ H1 + 1 ≤ 40
    · rw [if_pos h, if_pos (by rw [decide_eq_true h.1, decide_eq_true h.2]; rfl)]
    · rw [if_neg h, if_neg (by simp only [Bool.and_eq_true, decide_eq_true_eq]; exact h)]
  rw [hd]
  clear hd
  obtain ⟨W0, hW0⟩ : ∃ W0, (w.alloc (.cells (cellsP k1 f1 a1 n1 c1 L1 H1) 102)).alloc (.cells #[.int .i64 0, .int .u64 0, .int .u64 0, .int .u64 0, .int .u64 0, .slice none 0 0, .int .i64 0, .int .i64 0] 102) = W0 := ⟨_, rfl⟩
  obtain ⟨q, hq⟩ : ∃ q, w.heap.size = q := ⟨_, rfl⟩
  have HK0 : Hid (Kp No w W0) := Hid_mk (by rw [← hW0]; exact ((Kp.refl No w).alloc _).alloc _)
  have hz : W0.heap.size = q + 2 := by rw [← hW0, ← hq]; simp
  have hA : PAt W0 q (.int .i64 k1) (.int .u64 (wd f1 0 64 : Nat)) (.int .u64 (wd f1 64 64 : Nat)) (.int .u64 (wd f1 128 64 : Nat)) (.int .u64 (wd f1 192 64 : Nat)) (.slice a1 n1 c1) (.int .i64 (L1 : Int)) (.int .i64 (H1 : Int)) := by
    rw [← hW0, ← hq]
    exact (PAt.new w _ _ _ _ _ _ _ _ _).kept ((Kp.refl No _).alloc _) id
  have hR : PAt W0 (q + 1) (.int .i64 0) (.int .u64 0) (.int .u64 0) (.int .u64 0) (.int .u64 0) (.slice none 0 0) (.int .i64 0) (.int .i64 0) := by
    have e : q + 1 = (w.alloc (.cells (cellsP k1 f1 a1 n1 c1 L1 H1) 102)).heap.size := by rw [← hq]; simp
    rw [← hW0, e]
    exact PAt.new _ _ _ _ _ _ _ _ _ _
  unfold cellsP at hW0
  have HW0 := Hid_mk hW0
  have HQ := Hid_mk hq
  have HA := Hid_mk hA
  have HR := Hid_mk hR
  have HV1 := Hid_mk (ReV.no HK0.out t1 _ (ReV.wider (T' := fun b => T b ∧ b ≠ q + 2 ∧ b ≠ q + 1) (fun b hb hl => ⟨hb, by omega, by omega⟩) t1 _ hr1))
  have HT := Hid_mk hT
  have HZ := Hid_mk hz
  have a6 := hA.c6
  have a7 := hA.c7
  have hw2 : IntKind.i64.wrap ((H1 : Int) + 1) = ((H1 + 1 : Nat) : Int) := by rw [IntWalk.i64_in _ (by omega)]; push_cast; rfl
  obtain ⟨H3, hH3⟩ : ∃ H3, H1 + 1 = H3 := ⟨_, rfl⟩
  rw [hH3] at hw2
  rw [hH3]
  obtain ⟨F, hF⟩ : ∃ F, (decide (L1 ≤ 400) && decide (H3 ≤ 40)) = F := ⟨_, rfl⟩
  rw [hF]
  obtain ⟨X, hX⟩ : ∃ X, (if F = true then (⟨kid1 k t1, L1, H3⟩ : Pt) else overP) = X := ⟨_, rfl⟩
  rw [hX]
  have HF := Hid_mk hF
  have HX := Hid_mk hX
  clear hF hX hH3 hW0 hq hA hR hr1 hT b1 hz
  go_enter Try.func103, Try.ntmps103
  unfold cellsP
  go_upto_region 1 with fail
  rw [HW0.out, HQ.out]
  clear HW0
  go_upto_region 2 with fail
  rw [HZ.out]
  have hp3 : PAt (W0.alloc (.cells #[.int .i64 0, .int .u64 0, .int .u64 0, .int .u64 0, .int .u64 0, .slice none 0 0, .int .i64 (L1 : Int), .int .i64 (H3 : Int)] 102)) (q + 2) (.int .i64 0) (.int .u64 0) (.int .u64 0) (.int .u64 0) (.int .u64 0) (.slice none 0 0) (.int .i64 (L1 : Int)) (.int .i64 (H3 : Int)) := by
    rw [← HZ.out]
    exact PAt.new W0 _ _ _ _ _ _ _ _ _
  have hk3 : Kp No W0 (W0.alloc (.cells #[.int .i64 0, .int .u64 0, .int .u64 0, .int .u64 0, .int .u64 0, .slice none 0 0, .int .i64 (L1 : Int), .int .i64 (H3 : Int)] 102)) := (Kp.refl No W0).alloc _
  refine wp_name (fun W => PAt W (q + 2) (.int .i64 0) (.int .u64 0) (.int .u64 0) (.int .u64 0) (.int .u64 0) (.slice none 0 0) (.int .i64 (L1 : Int)) (.int .i64 (H3 : Int)) ∧ Kp No W0 W) ⟨hp3, hk3⟩ ?_
  clear hp3 hk3
  rintro W1 ⟨hP, hK1⟩
  have HP := Hid_mk hP
  have HK1 := Hid_mk hK1
  have HFi := Hid_mk (fitsZ_any W1 L1 H3)
  have HOv := Hid_mk fun W => over_any W
  obtain ⟨d0, d1, d2, d3, d4, d5, d6, d7, dw⟩ := hP
  clear hK1 a6 a7
  go_wp2_with fail
  with_reducible refine HFi.out.mono ?_
  rintro e W2 ⟨rfl, hk2⟩
  have HK2 := Hid_mk (HK1.out.trans' hk2)
  have hP2 := HP.out.kept hk2 id
  have hR2 := HR.out.kept HK2.out id
  have HP2 := Hid_mk hP2
  have HR2 := Hid_mk hR2
  clear hk2 d0 d1 d2 d3 d4 d5 d6 d7 dw HP
  obtain ⟨d0, d1, d2, d3, d4, d5, d6, d7, dw⟩ := hP2
  obtain ⟨r0, r1, r2, r3, r4, r5, r6, r7, rw'⟩ := hR2
  rw [HF.out]
  have hnq : q + 1 < w.heap.size → No (q + 1) := fun h => by have := HQ.out; omega
  have HNq := Hid_mk hnq
  clear hnq
  cases F with
  | false =>
    go_wp2_with fail
    with_reducible refine (HOv.out _).mono ?_
    rintro e W3 ⟨rfl, hk3⟩
    have hR3 := HR2.out.kept hk3 id
    have HK3 := Hid_mk (HK2.out.trans' hk3)
    clear hk3 r0 r1 r2 r3 r4 r5 r6 r7 rw' d0 d1 d2 d3 d4 d5 d6 d7 dw
    obtain ⟨r0, r1, r2, r3, r4, r5, r6, r7, rw'⟩ := hR3
    unfold cellsP
    go_wp2
    have hkf := kp_putP (HK0.out.trans' HK3.out) HNq.out (.int .i64 0) (.int .u64 (wd nul 0 64 : Nat)) (.int .u64 (wd nul 64 64 : Nat)) (.int .u64 (wd nul 128 64 : Nat)) (.int .u64 (wd nul 192 64 : Nat)) (.slice none 0 0) (.int .i64 401) (.int .i64 41)
    refine bodyPost_ret (v := .agg (cellsP 0 nul none 0 0 401 41)) ?_ rfl ⟨_, rfl, by rw [show X = overP from HX.out.symm]; exact over_val T _, hkf⟩
    simp [results, Try.results103, go_sem, cellsP, wd_nul, r0, r1, r2, r3, r4, r5, r6, r7]
  | true =>
    have hA2 := HA.out.kept HK2.out id
    have HSz := Hid_mk (show W0.heap.size ≤ W2.heap.size from HK2.out.size)
    obtain ⟨x0, x1, x2, x3, x4, x5, x6, x7, xw⟩ := hA2
    clear x6 x7 xw
    have e0 := fun o => ((Kp.refl No W2).alloc o).cell' d0 id
    have e1 := fun o => ((Kp.refl No W2).alloc o).cell' d1 id
    have e2 := fun o => ((Kp.refl No W2).alloc o).cell' d2 id
    have e3 := fun o => ((Kp.refl No W2).alloc o).cell' d3 id
    have e4 := fun o => ((Kp.refl No W2).alloc o).cell' d4 id
    have e5 := fun o => ((Kp.refl No W2).alloc o).cell' d5 id
    have ew := fun o => (HP2.out.kept ((Kp.refl No W2).alloc o) id).warm
    go_upto_region 5 with fail
    obtain ⟨g, hg⟩ : ∃ g, W2.heap.size = g := ⟨_, rfl⟩
    have HG := Hid_mk hg
    rw [hg]
    have hv : ReV (fun b => T b ∧ b ≠ q + 2 ∧ b ≠ q + 1) (W2.alloc (Obj.cells (cellsR k1 f1 a1 n1 c1) 30)) (kid1 k t1) (.agg (cellsR k nul (some ⟨W2.heap.size, 0, none⟩) 1 1)) :=
      made1 (ReV.no HK2.out t1 _ HV1.out) ⟨HT.out _ (by have := HSz.out; have := HK0.out.size; omega), by have := HP2.out.lt; omega, by have := HP2.out.lt; omega⟩ k nul 30
    rw [hg] at hv
    have hkA : Kp No W2 (W2.alloc (Obj.cells (cellsR k1 f1 a1 n1 c1) 30)) := (Kp.refl No W2).alloc _
    have hPn := (HP2.out.kept hkA id).putT (.int .i64 k) (.int .u64 0) (.int .u64 0) (.int .u64 0) (.int .u64 0) (.slice (some ⟨g, 0, none⟩) 1 1)
    have hRn := HR2.out.kept hkA id
    have hkT : Kp (fun b => b = q + 2) (W2.alloc (Obj.cells (cellsR k1 f1 a1 n1 c1) 30)) (ere.putT (W2.alloc (Obj.cells (cellsR k1 f1 a1 n1 c1) 30)) (q + 2) (.int .i64 k) (.int .u64 0) (.int .u64 0) (.int .u64 0) (.int .u64 0) (.slice (some ⟨g, 0, none⟩) 1 1)) := kp_putT (q := q + 2) (Kp.refl (fun b => b = q + 2) _) (fun _ => rfl) _ _ _ _ _ _
    have hRn2 := hRn.kept hkT (by show ¬ q + 1 = q + 2; omega)
    have hkW := HK0.out.trans' (HK2.out.trans' hkA)
    have hkF := hkW.trans hkT (T := fun b => b = q + 2) (fun i hi e => by have := HQ.out; omega)
    have hvF := ReV.wider (T' := fun b => T b ∧ b ≠ q + 1) (fun b hb _ => ⟨hb.1, hb.2.2⟩) _ _ (ReV.kept hkT (fun b hb _ => hb.2.1) _ _ hv)
    unfold ere.putT at hPn hRn2 hkF hvF
    refine wp_name (fun W => PAt W (q + 2) (.int .i64 k) (.int .u64 0) (.int .u64 0) (.int .u64 0) (.int .u64 0) (.slice (some ⟨g, 0, none⟩) 1 1) (.int .i64 (L1 : Int)) (.int .i64 (H3 : Int)) ∧ PAt W (q + 1) (.int .i64 0) (.int .u64 0) (.int .u64 0) (.int .u64 0) (.int .u64 0) (.slice none 0 0) (.int .i64 0) (.int .i64 0) ∧ Kp No w W ∧ ReV (fun b => T b ∧ b ≠ q + 1) W (kid1 k t1) (.agg (cellsR k nul (some ⟨g, 0, none⟩) 1 1))) ⟨hPn, hRn2, hkF, hvF⟩ ?_
    clear hPn hRn hRn2 hkT hkW hkF hkA hv hvF x0 x1 x2 x3 x4 x5 e0 e1 e2 e3 e4 e5 ew d0 d1 d2 d3 d4 d5 d6 d7 dw r0 r1 r2 r3 r4 r5 r6 r7 rw' hg
    rintro W5 ⟨hP5, hR5, hk5, hv5⟩
    obtain ⟨d0, d1, d2, d3, d4, d5, d6, d7, dw⟩ := hP5
    obtain ⟨r0, r1, r2, r3, r4, r5, r6, r7, rw'⟩ := hR5
    have HK5 := Hid_mk hk5
    have HV5 := Hid_mk hv5
    clear hk5 hv5
    go_wp2
    have hkf := kp_putP HK5.out HNq.out (.int .i64 k) (.int .u64 0) (.int .u64 0) (.int .u64 0) (.int .u64 0) (.slice (some ⟨g, 0, none⟩) 1 1) (.int .i64 (L1 : Int)) (.int .i64 (H3 : Int))
    have hk6 : Kp (fun b => b = q + 1) W5 (putP W5 (q + 1) (.int .i64 k) (.int .u64 0) (.int .u64 0) (.int .u64 0) (.int .u64 0) (.slice (some ⟨g, 0, none⟩) 1 1) (.int .i64 (L1 : Int)) (.int .i64 (H3 : Int))) := kp_putP (q := q + 1) (Kp.refl (fun b => b = q + 1) _) (fun _ => rfl) _ _ _ _ _ _ _ _
    refine bodyPost_ret (v := .agg (cellsP k nul (some ⟨g, 0, none⟩) 1 1 L1 H3)) ?_ rfl ⟨_, rfl, by rw [show X = ⟨kid1 k t1, L1, H3⟩ from HX.out.symm]; exact ⟨k, nul, some ⟨g, 0, none⟩, 1, 1, rfl, ReV.wider (T' := T) (fun b hb _ => hb.1) _ _ (ReV.kept hk6 (fun b hb _ => hb.2) _ _ HV5.out)⟩, hkf⟩
    simp [results, Try.results103, go_sem, cellsP, wd_nul, r0, r1, r2, r3, r4, r5, r6, r7]

end Go.Proofs.Ytaneblecgjahbab.ere
