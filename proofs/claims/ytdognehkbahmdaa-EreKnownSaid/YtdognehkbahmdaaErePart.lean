/- Package ere: parts in memory: over, a leaf, a set, one that is made of one or of two. -/
import Derived.Test.YtdognehkbahmdaaErePure
import Derived.Test.YtdognehkbahmdaaTreeBox
namespace Go.Proofs.Ytdognehkbahmdaa.ere
open Go.RowKit Go.Proofs.Ytdognehkbahmdaa.sum Go.Proofs.Ytdognehkbahmdaa.kept Go.Proofs.Ytdognehkbahmdaa.pop Go.Proofs.Ytdognehkbahmdaa.cls Go.Proofs.Ytdognehkbahmdaa.tre
set_option linter.unusedVariables false

/-- eight cells of a part -/
abbrev cellsP (k : Int) (f : Nat → Bool) (a : Option Addr) (n c : Nat) (L H : Int) : Array Value := #[.int .i64 k, .int .u64 (wd f 0 64 : Nat), .int .u64 (wd f 64 64 : Nat), .int .u64 (wd f 128 64 : Nat), .int .u64 (wd f 192 64 : Nat), .slice a n c, .int .i64 L, .int .i64 H]
/-- a value is this part -/
def PtV (T : Nat → Prop) (w : World) (p : Pt) (v : Value) : Prop :=
  ∃ k f a n c, v = .agg (cellsP k f a n c p.n p.h) ∧ ReV T w p.t (.agg (cellsR k f a n c))
theorem PtV.no {T : Nat → Prop} {w w' : World} {p : Pt} {v : Value} (h : PtV T w p v) (hk : Kp No w w') : PtV T w' p v := by
  obtain ⟨k, f, a, n, c, e, h⟩ := h
  exact ⟨k, f, a, n, c, e, ReV.no hk _ _ h⟩
theorem PtV.kept {S T : Nat → Prop} {w w' : World} {p : Pt} {v : Value} (h : PtV T w p v) (hk : Kp S w w') (hS : ∀ b, T b → b < w.heap.size → ¬ S b) : PtV T w' p v := by
  obtain ⟨k, f, a, n, c, e, h⟩ := h
  exact ⟨k, f, a, n, c, e, ReV.kept hk hS _ _ h⟩
theorem PtV.wider {T T' : Nat → Prop} {w : World} {p : Pt} {v : Value} (h : PtV T w p v) (hT : ∀ b, T b → b < w.heap.size → T' b) : PtV T' w p v := by
  obtain ⟨k, f, a, n, c, e, h⟩ := h
  exact ⟨k, f, a, n, c, e, ReV.wider hT _ _ h⟩
theorem leaf_val (T : Nat → Prop) (w : World) (k : Int) (f : Nat → Bool) (c : Nat) (hc : c ≤ 9223372036854775807) (a : Option Addr) : ReV T w (.mk k f []) (.agg (cellsR k f a 0 c)) := ⟨a, c, rfl, Nat.zero_le _, hc, fun h => absurd rfl h⟩

/-- eight cells are stored -/
abbrev putP (w : World) (q : Nat) (x0 x1 x2 x3 x4 x5 x6 x7 : Value) : World := (((((((w.setCell ⟨q, 0, none⟩ x0).setCell ⟨q, 1, none⟩ x1).setCell ⟨q, 2, none⟩ x2).setCell ⟨q, 3, none⟩ x3).setCell ⟨q, 4, none⟩ x4).setCell ⟨q, 5, none⟩ x5).setCell ⟨q, 6, none⟩ x6).setCell ⟨q, 7, none⟩ x7
theorem kp_putP {S : Nat → Prop} {w0 w : World} (h : Kp S w0 w) {q : Nat} (hq : q < w0.heap.size → S q) (x0 x1 x2 x3 x4 x5 x6 x7 : Value) : Kp S w0 (putP w q x0 x1 x2 x3 x4 x5 x6 x7) :=
  (((((((h.setCell (p := ⟨q, 0, none⟩) hq _).setCell (p := ⟨q, 1, none⟩) hq _).setCell (p := ⟨q, 2, none⟩) hq _).setCell (p := ⟨q, 3, none⟩) hq _).setCell (p := ⟨q, 4, none⟩) hq _).setCell (p := ⟨q, 5, none⟩) hq _).setCell (p := ⟨q, 6, none⟩) hq _).setCell (p := ⟨q, 7, none⟩) hq _
/-- a part's cells at a block -/
structure PAt (w : World) (q : Nat) (x0 x1 x2 x3 x4 x5 x6 x7 : Value) : Prop where
  c0 : w.cell? ⟨q, 0, none⟩ = some x0
  c1 : w.cell? ⟨q, 1, none⟩ = some x1
  c2 : w.cell? ⟨q, 2, none⟩ = some x2
  c3 : w.cell? ⟨q, 3, none⟩ = some x3
  c4 : w.cell? ⟨q, 4, none⟩ = some x4
  c5 : w.cell? ⟨q, 5, none⟩ = some x5
  c6 : w.cell? ⟨q, 6, none⟩ = some x6
  c7 : w.cell? ⟨q, 7, none⟩ = some x7
  warm : ∀ i, w.frozen? ⟨q, i, none⟩ = false
theorem PAt.lt {w : World} {q : Nat} {x0 x1 x2 x3 x4 x5 x6 x7 : Value} (h : PAt w q x0 x1 x2 x3 x4 x5 x6 x7) : q < w.heap.size := World.block_lt_of_cell? w ⟨q, 0, none⟩ h.c0
theorem PAt.new (w : World) (x0 x1 x2 x3 x4 x5 x6 x7 : Value) (ty : TypeId) : PAt (w.alloc (.cells #[x0, x1, x2, x3, x4, x5, x6, x7] ty)) w.heap.size x0 x1 x2 x3 x4 x5 x6 x7 :=
  ⟨by simp, by simp, by simp, by simp, by simp, by simp, by simp, by simp, fun i => by simp⟩
theorem PAt.kept {S : Nat → Prop} {w w' : World} {q : Nat} {x0 x1 x2 x3 x4 x5 x6 x7 : Value} (h : PAt w q x0 x1 x2 x3 x4 x5 x6 x7) (hk : Kp S w w') (hq : ¬ S q) : PAt w' q x0 x1 x2 x3 x4 x5 x6 x7 :=
  ⟨hk.cell' h.c0 hq, hk.cell' h.c1 hq, hk.cell' h.c2 hq, hk.cell' h.c3 hq, hk.cell' h.c4 hq, hk.cell' h.c5 hq, hk.cell' h.c6 hq, hk.cell' h.c7 hq, fun i => (hk.frozen (p := ⟨q, i, none⟩) h.lt hq).trans (h.warm i)⟩
theorem PAt.put {w : World} {q : Nat} {x0 x1 x2 x3 x4 x5 x6 x7 : Value} (h : PAt w q x0 x1 x2 x3 x4 x5 x6 x7) (y0 y1 y2 y3 y4 y5 y6 y7 : Value) : PAt (putP w q y0 y1 y2 y3 y4 y5 y6 y7) q y0 y1 y2 y3 y4 y5 y6 y7 := by
  obtain ⟨c0, c1, c2, c3, c4, c5, c6, c7, hw⟩ := h
  unfold putP
  refine ⟨?_, ?_, ?_, ?_, ?_, ?_, ?_, ?_, fun i => by simp only [World.frozen?_setCell]; exact hw i⟩
  · rw [World.cell?_setCell_other _ _ _ _ (by intro e; cases e)]; rw [World.cell?_setCell_other _ _ _ _ (by intro e; cases e)]; rw [World.cell?_setCell_other _ _ _ _ (by intro e; cases e)]; rw [World.cell?_setCell_other _ _ _ _ (by intro e; cases e)]; rw [World.cell?_setCell_other _ _ _ _ (by intro e; cases e)]; rw [World.cell?_setCell_other _ _ _ _ (by intro e; cases e)]; rw [World.cell?_setCell_other _ _ _ _ (by intro e; cases e)]; exact World.cell?_setCell_same _ _ _ (by exact c0)
  · rw [World.cell?_setCell_other _ _ _ _ (by intro e; cases e)]; rw [World.cell?_setCell_other _ _ _ _ (by intro e; cases e)]; rw [World.cell?_setCell_other _ _ _ _ (by intro e; cases e)]; rw [World.cell?_setCell_other _ _ _ _ (by intro e; cases e)]; rw [World.cell?_setCell_other _ _ _ _ (by intro e; cases e)]; rw [World.cell?_setCell_other _ _ _ _ (by intro e; cases e)]; exact World.cell?_setCell_same _ _ _ (by rw [World.cell?_setCell_other _ _ _ _ (by intro e; cases e)]; exact c1)
  · rw [World.cell?_setCell_other _ _ _ _ (by intro e; cases e)]; rw [World.cell?_setCell_other _ _ _ _ (by intro e; cases e)]; rw [World.cell?_setCell_other _ _ _ _ (by intro e; cases e)]; rw [World.cell?_setCell_other _ _ _ _ (by intro e; cases e)]; rw [World.cell?_setCell_other _ _ _ _ (by intro e; cases e)]; exact World.cell?_setCell_same _ _ _ (by rw [World.cell?_setCell_other _ _ _ _ (by intro e; cases e)]; rw [World.cell?_setCell_other _ _ _ _ (by intro e; cases e)]; exact c2)
  · rw [World.cell?_setCell_other _ _ _ _ (by intro e; cases e)]; rw [World.cell?_setCell_other _ _ _ _ (by intro e; cases e)]; rw [World.cell?_setCell_other _ _ _ _ (by intro e; cases e)]; rw [World.cell?_setCell_other _ _ _ _ (by intro e; cases e)]; exact World.cell?_setCell_same _ _ _ (by rw [World.cell?_setCell_other _ _ _ _ (by intro e; cases e)]; rw [World.cell?_setCell_other _ _ _ _ (by intro e; cases e)]; rw [World.cell?_setCell_other _ _ _ _ (by intro e; cases e)]; exact c3)
  · rw [World.cell?_setCell_other _ _ _ _ (by intro e; cases e)]; rw [World.cell?_setCell_other _ _ _ _ (by intro e; cases e)]; rw [World.cell?_setCell_other _ _ _ _ (by intro e; cases e)]; exact World.cell?_setCell_same _ _ _ (by rw [World.cell?_setCell_other _ _ _ _ (by intro e; cases e)]; rw [World.cell?_setCell_other _ _ _ _ (by intro e; cases e)]; rw [World.cell?_setCell_other _ _ _ _ (by intro e; cases e)]; rw [World.cell?_setCell_other _ _ _ _ (by intro e; cases e)]; exact c4)
  · rw [World.cell?_setCell_other _ _ _ _ (by intro e; cases e)]; rw [World.cell?_setCell_other _ _ _ _ (by intro e; cases e)]; exact World.cell?_setCell_same _ _ _ (by rw [World.cell?_setCell_other _ _ _ _ (by intro e; cases e)]; rw [World.cell?_setCell_other _ _ _ _ (by intro e; cases e)]; rw [World.cell?_setCell_other _ _ _ _ (by intro e; cases e)]; rw [World.cell?_setCell_other _ _ _ _ (by intro e; cases e)]; rw [World.cell?_setCell_other _ _ _ _ (by intro e; cases e)]; exact c5)
  · rw [World.cell?_setCell_other _ _ _ _ (by intro e; cases e)]; exact World.cell?_setCell_same _ _ _ (by rw [World.cell?_setCell_other _ _ _ _ (by intro e; cases e)]; rw [World.cell?_setCell_other _ _ _ _ (by intro e; cases e)]; rw [World.cell?_setCell_other _ _ _ _ (by intro e; cases e)]; rw [World.cell?_setCell_other _ _ _ _ (by intro e; cases e)]; rw [World.cell?_setCell_other _ _ _ _ (by intro e; cases e)]; rw [World.cell?_setCell_other _ _ _ _ (by intro e; cases e)]; exact c6)
  · exact World.cell?_setCell_same _ _ _ (by rw [World.cell?_setCell_other _ _ _ _ (by intro e; cases e)]; rw [World.cell?_setCell_other _ _ _ _ (by intro e; cases e)]; rw [World.cell?_setCell_other _ _ _ _ (by intro e; cases e)]; rw [World.cell?_setCell_other _ _ _ _ (by intro e; cases e)]; rw [World.cell?_setCell_other _ _ _ _ (by intro e; cases e)]; rw [World.cell?_setCell_other _ _ _ _ (by intro e; cases e)]; rw [World.cell?_setCell_other _ _ _ _ (by intro e; cases e)]; exact c7)

set_option maxRecDepth 100000 in
theorem over_any (w : World) : Calls Try.prog 63 #[] w fun e w' => e = .returned (.agg (cellsP 0 nul none 0 0 401 41)) ∧ Kp No w w' := by
  obtain ⟨W0, hW0⟩ : ∃ W0, w.alloc (.cells #[.int .i64 0, .int .u64 0, .int .u64 0, .int .u64 0, .int .u64 0, .slice none 0 0, .int .i64 0, .int .i64 0] 60) = W0 := ⟨_, rfl⟩
  obtain ⟨q, hq⟩ : ∃ q, w.heap.size = q := ⟨_, rfl⟩
  have HK0 : Hid (Kp No w W0) := Hid_mk (by rw [← hW0]; exact (Kp.refl No w).alloc _)
  have hp : PAt W0 q (.int .i64 0) (.int .u64 0) (.int .u64 0) (.int .u64 0) (.int .u64 0) (.slice none 0 0) (.int .i64 0) (.int .i64 0) := by rw [← hW0, ← hq]; exact PAt.new _ _ _ _ _ _ _ _ _ _
  obtain ⟨c0, c1, c2, c3, c4, c5, c6, c7, hw⟩ := hp
  have HW0 := Hid_mk hW0
  have HQ := Hid_mk hq
  clear hW0 hq
  go_enter Try.func63, Try.ntmps63
  go_upto_region 1 with fail
  rw [HW0.out, HQ.out]
  clear HW0
  go_wp2
  refine bodyPost_ret (v := .agg (cellsP 0 nul none 0 0 401 41)) ?_ rfl ⟨rfl, kp_putP HK0.out (fun h => by have := HQ.out; omega) _ _ _ _ _ _ _ _⟩
  simp [results, Try.results63, go_sem, cellsP, wd_nul, c0, c1, c2, c3, c4, c5, c6, c7]

set_option maxRecDepth 100000 in
theorem leaf_any (w : World) (k : Int) : Calls Try.prog 82 #[.int .i64 k] w fun e w' => e = .returned (.agg (cellsP k nul none 0 0 1 1)) ∧ Kp No w w' := by
  obtain ⟨W0, hW0⟩ : ∃ W0, w.alloc (.cells #[.int .i64 0, .int .u64 0, .int .u64 0, .int .u64 0, .int .u64 0, .slice none 0 0, .int .i64 0, .int .i64 0] 60) = W0 := ⟨_, rfl⟩
  obtain ⟨q, hq⟩ : ∃ q, w.heap.size = q := ⟨_, rfl⟩
  have HK0 : Hid (Kp No w W0) := Hid_mk (by rw [← hW0]; exact (Kp.refl No w).alloc _)
  have hp : PAt W0 q (.int .i64 0) (.int .u64 0) (.int .u64 0) (.int .u64 0) (.int .u64 0) (.slice none 0 0) (.int .i64 0) (.int .i64 0) := by rw [← hW0, ← hq]; exact PAt.new _ _ _ _ _ _ _ _ _ _
  obtain ⟨c0, c1, c2, c3, c4, c5, c6, c7, hw⟩ := hp
  have HW0 := Hid_mk hW0
  have HQ := Hid_mk hq
  clear hW0 hq
  go_enter Try.func82, Try.ntmps82
  go_upto_region 1 with fail
  rw [HW0.out, HQ.out]
  clear HW0
  go_wp2
  refine bodyPost_ret (v := .agg (cellsP k nul none 0 0 1 1)) ?_ rfl ⟨rfl, kp_putP HK0.out (fun h => by have := HQ.out; omega) _ _ _ _ _ _ _ _⟩
  simp [results, Try.results82, go_sem, cellsP, wd_nul, c0, c1, c2, c3, c4, c5, c6, c7]

set_option maxRecDepth 100000 in
theorem among_any (w : World) (f : Nat → Bool) : Calls Try.prog 80 #[sv f] w fun e w' => e = .returned (.agg (cellsP 1 f none 0 0 1 1)) ∧ Kp No w w' := by
  obtain ⟨W1, hW1⟩ : ∃ W1, w.alloc (.cells #[.int .u64 (wd f 0 64 : Nat), .int .u64 (wd f 64 64 : Nat), .int .u64 (wd f 128 64 : Nat), .int .u64 (wd f 192 64 : Nat)] 24) = W1 := ⟨_, rfl⟩
  obtain ⟨W0, hW0⟩ : ∃ W0, W1.alloc (.cells #[.int .i64 0, .int .u64 0, .int .u64 0, .int .u64 0, .int .u64 0, .slice none 0 0, .int .i64 0, .int .i64 0] 60) = W0 := ⟨_, rfl⟩
  obtain ⟨q, hq⟩ : ∃ q, w.heap.size = q := ⟨_, rfl⟩
  have HK0 : Hid (Kp No w W0) := Hid_mk (by rw [← hW0, ← hW1]; exact ((Kp.refl No w).alloc _).alloc _)
  have hp : PAt W0 (q + 1) (.int .i64 0) (.int .u64 0) (.int .u64 0) (.int .u64 0) (.int .u64 0) (.slice none 0 0) (.int .i64 0) (.int .i64 0) := by
    have hz : q + 1 = W1.heap.size := by rw [← hW1, ← hq]; simp
    rw [← hW0, hz]
    exact PAt.new _ _ _ _ _ _ _ _ _ _
  have hs : SetAt W0 q f := by
    rw [← hW0, ← hW1, ← hq]
    exact (SetAt.made w f).kept ((Kp.refl No _).alloc _) id
  obtain ⟨c0, c1, c2, c3, c4, c5, c6, c7, hw⟩ := hp
  obtain ⟨z0, z1, z2, z3⟩ := hs.cells
  have HW0 := Hid_mk hW0
  have HW1 := Hid_mk hW1
  have HQ := Hid_mk hq
  clear hW0 hW1 hq hs
  go_enter Try.func80, Try.ntmps80
  rw [svd]
  go_upto_region 1 with fail
  rw [HQ.out]
  rw [HW1.out, HW0.out]
  clear HW0 HW1
  go_wp2
  refine bodyPost_ret (v := .agg (cellsP 1 f none 0 0 1 1)) ?_ rfl ⟨rfl, kp_putP HK0.out (fun h => by have := HQ.out; omega) _ _ _ _ _ _ _ _⟩
  simp [results, Try.results80, go_sem, cellsP, wd_nul, c0, c1, c2, c3, c4, c5, c6, c7]

set_option maxRecDepth 100000 in
theorem fits_any (w : World) (k : Int) (f : Nat → Bool) (a : Option Addr) (n c : Nat) (L H : Nat) :
    Calls Try.prog 29 #[.agg (cellsP k f a n c L H)] w fun e w' => e = .returned (.bool (decide (L ≤ 400) && decide (H ≤ 40))) ∧ Kp No w w' := by
  have HK0 := Hid_mk ((Kp.refl No w).alloc (.cells (cellsP k f a n c L H) 60))
  unfold cellsP at HK0
  by_cases h1 : L ≤ 400
  · have h1i : (L : Int) ≤ 400 := by omega
    by_cases h2 : H ≤ 40
    · have h2i : (H : Int) ≤ 40 := by omega
      rw [decide_eq_true h1, decide_eq_true h2]
      go_enter Try.func29, Try.ntmps29
      unfold cellsP
      go_wp2
      go_ret
      exact ⟨rfl, HK0.out⟩
    · have h2i : ¬ (H : Int) ≤ 40 := by omega
      rw [decide_eq_true h1, decide_eq_false h2]
      go_enter Try.func29, Try.ntmps29
      unfold cellsP
      go_wp2
      go_ret
      exact ⟨rfl, HK0.out⟩
  · have h1i : ¬ (L : Int) ≤ 400 := by omega
    rw [decide_eq_false h1]
    go_enter Try.func29, Try.ntmps29
    unfold cellsP
    go_wp2
    go_ret
    exact ⟨rfl, HK0.out⟩

end Go.Proofs.Ytdognehkbahmdaa.ere
