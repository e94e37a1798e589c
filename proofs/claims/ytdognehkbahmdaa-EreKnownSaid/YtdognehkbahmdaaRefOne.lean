/- The reference's One: the tree of one byte. -/
import Derived.Test.YtdognehkbahmdaaTree
import Derived.Test.YtdognehkbahmdaaPlain8
namespace Go.Proofs.Ytdognehkbahmdaa.tre
open Go.RowKit Go.Proofs.Ytdognehkbahmdaa.sum Go.Proofs.Ytdognehkbahmdaa.kept Go.Proofs.Ytdognehkbahmdaa.pop Go.Proofs.Ytdognehkbahmdaa.cls
set_option linter.unusedVariables false

/-- one byte's set -/
def oneS (b : Nat) : Nat → Bool := fun x => x == b
/-- the tree of one byte -/
def oneT (b : Nat) : Tr := .mk 1 (oneS b) []

set_option maxRecDepth 100000 in
set_option maxHeartbeats 1000000 in
theorem one_any (w : World) (b : Nat) (hb : b < 256) :
    Calls Try.prog 11 #[.int .u8 (b : Int)] w fun e w' => e = .returned (.agg (cellsR 1 (oneS b) none 0 0)) ∧ Kp No w w' := by
  obtain ⟨W0, hW0⟩ : ∃ W0, (w.alloc (.cells #[.int .i64 0, .int .u64 0, .int .u64 0, .int .u64 0, .int .u64 0, .slice none 0 0] 27)).alloc (.cells (Array.replicate 256 (.bool false)) 64) = W0 := ⟨_, rfl⟩
  obtain ⟨q, hq⟩ : ∃ q, w.heap.size = q := ⟨_, rfl⟩
  have HK0 : Kp No w W0 := by rw [← hW0]; exact ((Kp.refl No w).alloc _).alloc _
  have x : ∀ i u, (#[.int .i64 0, .int .u64 0, .int .u64 0, .int .u64 0, .int .u64 0, .slice none 0 0] : Array Value)[i]? = some u → W0.cell? ⟨q, i, none⟩ = some u := fun i u h => by
    rw [← hW0, ← hq]
    refine ((Kp.refl No _).alloc _).cell' ?_ id
    simpa using h
  have xw : ∀ i, W0.frozen? ⟨q, i, none⟩ = false := fun i => by rw [← hW0, ← hq]; simp
  have hz : BgAt W0 (q + 1) nul := by
    rw [← hW0, ← hq]
    have := BgAt.zero (w.alloc (.cells #[.int .i64 0, .int .u64 0, .int .u64 0, .int .u64 0, .int .u64 0, .slice none 0 0] 27)) 64
    simpa using this
  have hc := hz.cell b hb
  have hw := hz.warm b
  have h1 := hz.set (g := oneS b) b hb fun x _ hx => by simp [oneS, nul, hx]
  rw [show oneS b b = true from by simp [oneS]] at h1
  have hk1 : Kp (fun k => k = q + 1) W0 (W0.setCell ⟨q + 1, b, none⟩ (.bool true)) := (Kp.refl (fun k => k = q + 1) W0).setCell (p := ⟨q + 1, b, none⟩) (fun _ => rfl) _
  have hql : q < W0.heap.size := World.block_lt_of_cell? W0 ⟨q, 0, none⟩ (x 0 _ rfl)
  obtain ⟨W1, hW1⟩ : ∃ W1, W0.setCell ⟨q + 1, b, none⟩ (.bool true) = W1 := ⟨_, rfl⟩
  rw [hW1] at h1 hk1
  have HKw : Hid (Kp No w W1) := Hid_mk (HK0.trans hk1 fun i hi e => by omega)
  have HB1 := Hid_mk h1
  have HX : Hid (∀ W2, Kp No W1 W2 → (W2.cell? ⟨q, 0, none⟩ = some (.int .i64 0) ∧ W2.cell? ⟨q, 1, none⟩ = some (.int .u64 0) ∧ W2.cell? ⟨q, 2, none⟩ = some (.int .u64 0) ∧ W2.cell? ⟨q, 3, none⟩ = some (.int .u64 0) ∧ W2.cell? ⟨q, 4, none⟩ = some (.int .u64 0) ∧ W2.cell? ⟨q, 5, none⟩ = some (.slice none 0 0)) ∧ ∀ i, W2.frozen? ⟨q, i, none⟩ = false) := Hid_mk fun W2 hk =>
    ⟨⟨hk.cell' (hk1.cell' (x 0 _ rfl) (by show ¬ q = q + 1; omega)) id, hk.cell' (hk1.cell' (x 1 _ rfl) (by show ¬ q = q + 1; omega)) id, hk.cell' (hk1.cell' (x 2 _ rfl) (by show ¬ q = q + 1; omega)) id, hk.cell' (hk1.cell' (x 3 _ rfl) (by show ¬ q = q + 1; omega)) id, hk.cell' (hk1.cell' (x 4 _ rfl) (by show ¬ q = q + 1; omega)) id, hk.cell' (hk1.cell' (x 5 _ rfl) (by show ¬ q = q + 1; omega)) id⟩,
      fun i => (hk.frozen (p := ⟨q, i, none⟩) (Nat.lt_of_lt_of_le hql hk1.size) id).trans ((hk1.frozen (p := ⟨q, i, none⟩) hql (by show ¬ q = q + 1; omega)).trans (xw i))⟩
  have HW0 := Hid_mk hW0
  have HW1 := Hid_mk hW1
  have HQ := Hid_mk hq
  have zv := zero36.1
  generalize Array.replicate 256 (Value.bool false) = Z at zv HW0
  have hb0 : (0 : Int) ≤ (b : Int) := Int.natCast_nonneg _
  have hbi : (b : Int) < 256 := by omega
  have HPk := Hid_mk fun W => packed_any W (oneS b)
  clear hW0 hW1 hz h1 hk1 x xw hql HK0 hq
  go_enter Try.func11, Try.ntmps11
  go_upto_region 2 with fail
  rw [HW0.out, HQ.out]
  clear HW0
  go_upto_region 3 with fail
  rw [HW1.out]
  clear HW1 hc hw
  refine wp_region_lit ?_
  refine wpList_load_mid rfl _ _ rfl (q + 1) 0 rfl (bc (oneS b)) _ HB1.out.range Try.underlying64 rfl (info_bc (oneS b)) ?_
  simp only [Act.put, List.setIfInBounds_toArray, List.set_cons_zero, List.set_cons_succ]
  go_wp2_with fail
  with_reducible refine (HPk.out _).mono ?_
  rintro e w2 ⟨rfl, k2⟩
  obtain ⟨⟨c0, c1, c2, c3, c4, c5⟩, cw⟩ := HX.out w2 k2
  have HK2 := Hid_mk (HKw.out.trans' k2)
  clear k2
  go_wp2
  have hqn : q < w.heap.size → No q := fun h => by have := HQ.out; omega
  refine bodyPost_ret (v := .agg (cellsR 1 (oneS b) none 0 0)) ?_ rfl ⟨rfl, ((((((HK2.out.setCell (p := ⟨q, 0, none⟩) hqn _).setCell (p := ⟨q, 1, none⟩) hqn _).setCell (p := ⟨q, 2, none⟩) hqn _).setCell (p := ⟨q, 3, none⟩) hqn _).setCell (p := ⟨q, 4, none⟩) hqn _).setCell (p := ⟨q, 5, none⟩) hqn _)⟩
  simp [results, Try.results11, go_sem, c0, c1, c2, c3, c4, c5, cellsR]

end Go.Proofs.Ytdognehkbahmdaa.tre
