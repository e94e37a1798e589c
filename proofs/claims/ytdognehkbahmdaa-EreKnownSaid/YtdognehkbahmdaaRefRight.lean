/- The reference's Right and Sets of a tree. -/
import Derived.Test.YtdognehkbahmdaaRefTree
namespace Go.Proofs.Ytdognehkbahmdaa.tre
open Go.RowKit Go.Proofs.Ytdognehkbahmdaa.sum Go.Proofs.Ytdognehkbahmdaa.kept Go.Proofs.Ytdognehkbahmdaa.pop Go.Proofs.Ytdognehkbahmdaa.cls
set_option linter.unusedVariables false

def rightS (t : Tr) : Bool := shapedS t && deepS t 40 && decide (setsS t ≤ 400)

set_option maxRecDepth 100000 in
set_option maxHeartbeats 1000000 in
theorem right_any {T : Nat → Prop} (w : World) (v : Value) (t : Tr) (hv : ReV T w t v) (hle : setsS t ≤ 4611686018427387904) :
    Calls Try.prog 23 #[v] w fun e w' => e = .returned (.bool (rightS t)) ∧ Kp No w w' := by
  have HC1 := Hid_mk fun W (hk : Kp No w W) => shaped_any t.size t (Nat.le_refl _) W v (ReV.no hk t v hv)
  have HC2 : Hid (∀ W, Kp No w W → Calls Try.prog 40 #[v, .int .i64 40] W fun e w' => e = .returned (.bool (deepS t 40)) ∧ Kp No W w') := Hid_mk fun W (hk : Kp No w W) => deep_any t.size t (Nat.le_refl _) W v 40 (by decide) (ReV.no hk t v hv)
  have HC3 := Hid_mk fun W (hk : Kp No w W) => sets_any t.size t (Nat.le_refl _) W v (ReV.no hk t v hv) hle
  have hr : rightS t = (shapedS t && deepS t 40 && decide (setsS t ≤ 400)) := rfl
  rw [hr]
  generalize shapedS t = A at HC1
  generalize deepS t 40 = D at HC2
  generalize hS : setsS t = S at HC3
  obtain ⟨k, f, l⟩ := t
  obtain ⟨a, c, rfl, -, -, -⟩ := hv
  generalize l.length = L at HC1 HC2 HC3
  clear hr hS hle
  have hkeep : ∀ W, Kp No (w.alloc (.cells (cellsR k f a L c) 27)) W → (W.cell? ⟨w.heap.size, 0, none⟩ = some (.int .i64 k) ∧ W.cell? ⟨w.heap.size, 1, none⟩ = some (.int .u64 (wd f 0 64 : Nat)) ∧ W.cell? ⟨w.heap.size, 2, none⟩ = some (.int .u64 (wd f 64 64 : Nat)) ∧ W.cell? ⟨w.heap.size, 3, none⟩ = some (.int .u64 (wd f 128 64 : Nat)) ∧ W.cell? ⟨w.heap.size, 4, none⟩ = some (.int .u64 (wd f 192 64 : Nat)) ∧ W.cell? ⟨w.heap.size, 5, none⟩ = some (.slice a L c)) := fun W hk =>
    ⟨hk.cell' (by simp) id, hk.cell' (by simp) id, hk.cell' (by simp) id, hk.cell' (by simp) id, hk.cell' (by simp) id, hk.cell' (by simp) id⟩
  have HKeep := Hid_mk hkeep
  have HK0 := Hid_mk ((Kp.refl No w).alloc (.cells (cellsR k f a L c) 27))
  clear hkeep
  unfold cellsR at HKeep HC1 HC2 HC3 HK0
  have hle4 : ((S : Int) ≤ 400) ↔ S ≤ 400 := by omega
  have HLe := Hid_mk hle4
  clear hle4
  go_enter Try.func23, Try.ntmps23
  unfold cellsR
  go_wp2_with fail
  with_reducible refine (HC1.out _ HK0.out).mono ?_
  rintro e w1 ⟨rfl, k1⟩
  obtain ⟨c0, c1, c2, c3, c4, c5⟩ := HKeep.out w1 k1
  have HK1 := Hid_mk k1
  clear k1
  cases A with
  | false =>
    go_wp2
    go_ret
    exact ⟨by simp, HK0.out.trans' HK1.out⟩
  | true =>
    go_wp2_with fail
    with_reducible refine (HC2.out _ (HK0.out.trans' HK1.out)).mono ?_
    rintro e w2 ⟨rfl, k2⟩
    have HK2 := Hid_mk (HK1.out.trans' k2)
    clear k2 c0 c1 c2 c3 c4 c5
    obtain ⟨c0, c1, c2, c3, c4, c5⟩ := HKeep.out w2 HK2.out
    cases D with
    | false =>
      go_wp2
      go_ret
      exact ⟨by simp, HK0.out.trans' HK2.out⟩
    | true =>
      go_wp2_with fail
      with_reducible refine (HC3.out _ (HK0.out.trans' HK2.out)).mono ?_
      rintro e w3 ⟨rfl, k3⟩
      have HK3 := Hid_mk (HK2.out.trans' k3)
      clear k3 c0 c1 c2 c3 c4 c5
      by_cases h4 : S ≤ 400
      · have h4i : (S : Int) ≤ 400 := by omega
        go_wp2
        go_ret
        exact ⟨by rw [decide_eq_true h4]; first | rfl | (simp; done) | (simp; omega), HK0.out.trans' HK3.out⟩
      · have h4i : ¬ (S : Int) ≤ 400 := by omega
        go_wp2
        go_ret
        exact ⟨by rw [decide_eq_false h4]; first | rfl | (simp; done) | (simp; omega), HK0.out.trans' HK3.out⟩

set_option maxRecDepth 100000 in
set_option maxHeartbeats 1000000 in
theorem setsR_any {T : Nat → Prop} (w : World) (v : Value) (t : Tr) (hv : ReV T w t v) (hle : setsS t ≤ 4611686018427387904) :
    Calls Try.prog 25 #[v] w fun e w' => e = .returned (.int .i64 ((if rightS t = true then setsS t else 0 : Nat) : Int)) ∧ Kp No w w' := by
  have HC1 := Hid_mk fun W (hk : Kp No w W) => right_any W v t (ReV.no hk t v hv) hle
  have HC3 := Hid_mk fun W (hk : Kp No w W) => sets_any t.size t (Nat.le_refl _) W v (ReV.no hk t v hv) hle
  generalize rightS t = A at HC1 ⊢
  generalize hS : setsS t = S at HC3 ⊢
  obtain ⟨k, f, l⟩ := t
  obtain ⟨a, c, rfl, -, -, -⟩ := hv
  generalize l.length = L at HC1 HC3 ⊢
  clear hS hle
  have hkeep : ∀ W, Kp No (w.alloc (.cells (cellsR k f a L c) 27)) W → (W.cell? ⟨w.heap.size, 0, none⟩ = some (.int .i64 k) ∧ W.cell? ⟨w.heap.size, 1, none⟩ = some (.int .u64 (wd f 0 64 : Nat)) ∧ W.cell? ⟨w.heap.size, 2, none⟩ = some (.int .u64 (wd f 64 64 : Nat)) ∧ W.cell? ⟨w.heap.size, 3, none⟩ = some (.int .u64 (wd f 128 64 : Nat)) ∧ W.cell? ⟨w.heap.size, 4, none⟩ = some (.int .u64 (wd f 192 64 : Nat)) ∧ W.cell? ⟨w.heap.size, 5, none⟩ = some (.slice a L c)) := fun W hk =>
    ⟨hk.cell' (by simp) id, hk.cell' (by simp) id, hk.cell' (by simp) id, hk.cell' (by simp) id, hk.cell' (by simp) id, hk.cell' (by simp) id⟩
  have HKeep := Hid_mk hkeep
  have HK0 := Hid_mk ((Kp.refl No w).alloc (.cells (cellsR k f a L c) 27))
  clear hkeep
  unfold cellsR at HKeep HC1 HC3 HK0
  go_enter Try.func25, Try.ntmps25
  unfold cellsR
  go_wp2_with fail
  with_reducible refine (HC1.out _ HK0.out).mono ?_
  rintro e w1 ⟨rfl, k1⟩
  obtain ⟨c0, c1, c2, c3, c4, c5⟩ := HKeep.out w1 k1
  have HK1 := Hid_mk k1
  clear k1
  cases A with
  | false =>
    go_wp2
    go_ret
    exact ⟨by first | rfl | simp, HK0.out.trans' HK1.out⟩
  | true =>
    go_wp2_with fail
    with_reducible refine (HC3.out _ (HK0.out.trans' HK1.out)).mono ?_
    rintro e w3 ⟨rfl, k3⟩
    have HK3 := Hid_mk (HK1.out.trans' k3)
    clear k3 c0 c1 c2 c3 c4 c5
    go_wp2
    go_ret
    exact ⟨by first | rfl | (simp; done) | (simp; omega), HK0.out.trans' HK3.out⟩

end Go.Proofs.Ytdognehkbahmdaa.tre
