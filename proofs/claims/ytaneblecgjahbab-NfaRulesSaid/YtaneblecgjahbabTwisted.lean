/- tailracelaw9.twisted: a tree that may be anything, made of a raw one. -/
import Derived.Test.YtaneblecgjahbabBaseM
import Derived.Test.YtaneblecgjahbabR8ListM
import Derived.Test.YtaneblecgjahbabPick
import Derived.StillTailTactics
import Derived.Deep.Cut
import Derived.Deep.CutRange

namespace Go.Proofs.Ytaneblecgjahbab.ere
open Go.RowKit Go.Proofs.Ytaneblecgjahbab.sum Go.Proofs.Ytaneblecgjahbab.kept Go.Proofs.Ytaneblecgjahbab.pop Go.Proofs.Ytaneblecgjahbab.cls Go.Proofs.Ytaneblecgjahbab.tre Go.Proofs.Ytaneblecgjahbab.str Go.Proofs.Ytaneblecgjahbab.turned Go.Proofs.Ytaneblecgjahbab.treeArg
set_option linter.unusedVariables false

/-- the set whose p-th word is x -/
def bitsF (x p : Nat) : Nat → Bool := fun y => decide (y / 64 = p) && x.testBit (y % 64)
theorem bits_word {x p : Nat} (hx : x < 2 ^ 64) : wd (bitsF x p) (64 * p) 64 = x := (wd_eq hx fun j hj => by
  unfold bitsF
  rw [show (64 * p + j) / 64 = p by omega, show (64 * p + j) % 64 = j by omega]
  simp).symm
theorem bits_zero {x p q : Nat} (hq : q ≠ p) : wd (bitsF x p) (64 * q) 64 = 0 := (wd_eq (x := 0) (by decide) fun j hj => by
  unfold bitsF
  rw [show (64 * q + j) / 64 = q by omega, decide_eq_false hq]
  simp).symm
/-- what it leaves: some tree in new memory, of no more leaves than the raw one has nodes -/
def TwPost (w : World) (t : TT) (e : Ending) (w' : World) : Prop :=
  ∃ (vk : Int) (vf : Nat → Bool) (va : Option Addr) (vn vc : Nat) (tr : Tr), e = .returned (.agg (cellsR vk vf va vn vc)) ∧ ReV (fun b => w.heap.size ≤ b) w' tr (.agg (cellsR vk vf va vn vc)) ∧ Kp No w w' ∧ setsS tr ≤ t.nodes

theorem L6.nil (w : World) (base : Nat) : L6 w base (.slice none 0 0) [] := ⟨⟨by simp, .inl ⟨rfl, rfl⟩⟩, fun p hp => by cases hp⟩
theorem L6.rel {w : World} {base g n c : Nat} {es : List (E6 × Tr)} (h : L6 w base (.slice (some ⟨g, 0, none⟩) n c) es) : ReL (fun b => base ≤ b) w g 0 (es.map Prod.snd) := ReL.of _ 0 fun p hp => by
  have hp' : p < es.length := by simpa using hp
  obtain ⟨c0, c1, c2, c3, c4, c5⟩ := h.at' p hp'
  rw [Nat.zero_add]
  refine ⟨_, _, _, _, _, _, c0, c1, c2, c3, c4, c5, ?_⟩
  rw [List.getElem_map]
  exact ReV.wider (fun b hb _ => hb.1) _ _ (h.ok _ (List.getElem_mem hp'))
/-- the tree of these kids -/
theorem L6.tree {w : World} {base : Nat} {v : Value} {es : List (E6 × Tr)} (h : L6 w base v es) (k : Int) (f : Nat → Bool) : ∃ a c, v = .slice a es.length c ∧ ReV (fun b => base ≤ b) w (.mk k f (es.map Prod.snd)) (.agg (cellsR k f a es.length c)) := by
  rcases h.row.2 with ⟨rfl, hn⟩ | ⟨g, cap, cur, rfl, hb, hg, h1, h2, h3, h4⟩
  · obtain rfl : es = [] := by simpa using hn
    exact ⟨none, 0, rfl, none, 0, rfl, Nat.le_refl _, by decide, fun h => absurd rfl h⟩
  · have hz : g < w.heap.size := (h.row.lt g rfl).2
    refine ⟨some ⟨g, 0, none⟩, cap, by simp, some ⟨g, 0, none⟩, cap, by simp, by simpa using h1, h2, fun _ => ⟨g, 0, rfl, ⟨hb, hz⟩, h.rel⟩⟩
theorem len_nodesL : ∀ (l : List TT), l.length ≤ nodesL l
  | [] => Nat.le_refl _
  | t :: l => by
    have := len_nodesL l
    have h1 : 1 ≤ t.nodes := by obtain ⟨k, n, kids⟩ := t; rw [TT.nodes]; omega
    rw [nodesL, List.length_cons]
    omega
theorem nodesL_snoc (l : List TT) (t : TT) : nodesL (l ++ [t]) = nodesL l + t.nodes := by
  induction l with
  | nil => rw [List.nil_append, nodesL, nodesL, nodesL]; omega
  | cons x l ih => rw [List.cons_append, nodesL, nodesL, ih]; omega
theorem nodesL_take (l : List TT) (j : Nat) : nodesL (l.take j) ≤ nodesL l := by
  induction l generalizing j with
  | nil => simp
  | cons x l ih =>
    cases j with
    | zero => rw [List.take_zero, nodesL, nodesL]; omega
    | succ j => rw [List.take_succ_cons, nodesL, nodesL]; have := ih j; omega
theorem nodes_get {l : List TT} {j : Nat} (h : j < l.length) : l[j].nodes ≤ nodesL l := by
  have := nodesL_take l (j + 1)
  rw [List.take_succ_eq_append_getElem h, nodesL_snoc] at this
  omega
theorem setsL_snoc (l : List Tr) (t : Tr) : setsL (l ++ [t]) = setsL l + setsS t := by
  induction l with
  | nil => rw [List.nil_append, setsL, setsL, setsL]; omega
  | cons x l ih => rw [List.cons_append, setsL, setsL, ih]; omega
theorem sets_kids (k : Int) (f : Nat → Bool) (l : List Tr) (n : Nat) (h : setsL l ≤ n) : setsS (.mk k f l) ≤ n + 1 := by
  cases l with
  | nil => rw [setsS]; omega
  | cons t l => rw [setsS]; rw [setsL] at h; omega
theorem RAt.set1 {w : World} {q : Nat} {x0 x1 x2 x3 x4 x5 : Value} (h : RAt w q x0 x1 x2 x3 x4 x5) (y : Value) : RAt (w.setCell ⟨q, 1, none⟩ y) q x0 y x2 x3 x4 x5 := by
  obtain ⟨c0, c1, c2, c3, c4, c5, hw⟩ := h
  refine ⟨?_, World.cell?_setCell_same _ _ _ (by exact c1), ?_, ?_, ?_, ?_, fun i => by simp only [World.frozen?_setCell]; exact hw i⟩ <;> (rw [World.cell?_setCell_other _ _ _ _ (by intro e; cases e)]; assumption)
theorem RAt.set2 {w : World} {q : Nat} {x0 x1 x2 x3 x4 x5 : Value} (h : RAt w q x0 x1 x2 x3 x4 x5) (y : Value) : RAt (w.setCell ⟨q, 2, none⟩ y) q x0 x1 y x3 x4 x5 := by
  obtain ⟨c0, c1, c2, c3, c4, c5, hw⟩ := h
  refine ⟨?_, ?_, World.cell?_setCell_same _ _ _ (by exact c2), ?_, ?_, ?_, fun i => by simp only [World.frozen?_setCell]; exact hw i⟩ <;> (rw [World.cell?_setCell_other _ _ _ _ (by intro e; cases e)]; assumption)
theorem RAt.set3 {w : World} {q : Nat} {x0 x1 x2 x3 x4 x5 : Value} (h : RAt w q x0 x1 x2 x3 x4 x5) (y : Value) : RAt (w.setCell ⟨q, 3, none⟩ y) q x0 x1 x2 y x4 x5 := by
  obtain ⟨c0, c1, c2, c3, c4, c5, hw⟩ := h
  refine ⟨?_, ?_, ?_, World.cell?_setCell_same _ _ _ (by exact c3), ?_, ?_, fun i => by simp only [World.frozen?_setCell]; exact hw i⟩ <;> (rw [World.cell?_setCell_other _ _ _ _ (by intro e; cases e)]; assumption)
theorem RAt.set4 {w : World} {q : Nat} {x0 x1 x2 x3 x4 x5 : Value} (h : RAt w q x0 x1 x2 x3 x4 x5) (y : Value) : RAt (w.setCell ⟨q, 4, none⟩ y) q x0 x1 x2 x3 y x5 := by
  obtain ⟨c0, c1, c2, c3, c4, c5, hw⟩ := h
  refine ⟨?_, ?_, ?_, ?_, World.cell?_setCell_same _ _ _ (by exact c4), ?_, fun i => by simp only [World.frozen?_setCell]; exact hw i⟩ <;> (rw [World.cell?_setCell_other _ _ _ _ (by intro e; cases e)]; assumption)
theorem RAt.set5 {w : World} {q : Nat} {x0 x1 x2 x3 x4 x5 : Value} (h : RAt w q x0 x1 x2 x3 x4 x5) (y : Value) : RAt (w.setCell ⟨q, 5, none⟩ y) q x0 x1 x2 x3 x4 y := by
  obtain ⟨c0, c1, c2, c3, c4, c5, hw⟩ := h
  refine ⟨?_, ?_, ?_, ?_, ?_, World.cell?_setCell_same _ _ _ (by exact c5), fun i => by simp only [World.frozen?_setCell]; exact hw i⟩ <;> (rw [World.cell?_setCell_other _ _ _ _ (by intro e; cases e)]; assumption)
theorem wrap_u64 (n : Int) : ∃ x : Nat, x < 2 ^ 64 ∧ IntKind.u64.wrap n = (x : Int) := by
  have e : IntKind.u64.wrap n = n % 18446744073709551616 := rfl
  exact ⟨(n % 18446744073709551616).toNat, by omega, by rw [e]; omega⟩
/-- at a round: j kids are made -/
def TwRel (W0 : World) (z : Nat) (K : Int) (f : Nat → Bool) (l : List TT) (i : Value) (wr : World) : Prop :=
  ∃ (j : Nat) (a : Option Addr) (c : Nat) (es : List (E6 × Tr)), i = .int .i64 (j : Int) ∧ j ≤ l.length ∧ es.length = j ∧ L6 wr (z + 3) (.slice a j c) es ∧ RAt wr (z + 2) (.int .i64 K) (.int .u64 (wd f 0 64 : Nat)) (.int .u64 (wd f 64 64 : Nat)) (.int .u64 (wd f 128 64 : Nat)) (.int .u64 (wd f 192 64 : Nat)) (.slice a j c) ∧ Kp (fun b => z + 2 ≤ b) W0 wr ∧ z + 3 ≤ wr.heap.size ∧ setsL (es.map Prod.snd) ≤ nodesL (l.take j)
/-- how many kids are left -/
def twMeas (len : Nat) (i : Value) : Nat := match i with | .int _ j => len - j.toNat | _ => 0

set_option maxRecDepth 100000 in
set_option maxHeartbeats 8000000 in
theorem twisted_any : ∀ (d : Nat), d ≤ 4 → ∀ (t : TT) (w : World) (k n : Int) (a : Option Addr) (len c : Nat), AtT w t (.agg #[.int .i64 k, .int .i64 n, .slice a len c]) → t.nodes ≤ 1048576 →
    Calls Try.prog 25 #[.agg #[.int .i64 k, .int .i64 n, .slice a len c], .int .i64 (d : Int)] w (TwPost w t) := by
  intro d
  induction d using Nat.strongRecOn with
  | ind d ih =>
  intro hd t w k n a len c ht hnd
  obtain ⟨l, hl⟩ : ∃ l, t = .mk k n l ∧ len = l.length := by
    obtain ⟨k', n', l⟩ := t
    obtain ⟨a', c', e, -⟩ := ht
    injection e with e
    simp at e
    obtain ⟨rfl, rfl, -, rfl, -⟩ := e
    exact ⟨l, rfl, rfl⟩
  obtain ⟨rfl, rfl⟩ := hl
  have HT := Hid_mk ht
  have HNd := Hid_mk hnd
  have HIh := Hid_mk ih
  have HD := Hid_mk hd
  have HP1 := Hid_mk fun W => pick_any k 11 (by decide) (by decide) W
  have HP2 := Hid_mk fun W => pick_any n 4 (by decide) (by decide) W
  obtain ⟨z, hz⟩ : ∃ z, w.heap.size = z := ⟨_, rfl⟩
  have HZ := Hid_mk hz
  clear ht hnd ih hd
  go_enter Try.func25, Try.ntmps25
  go_upto_region 1 with fail
  refine wp_name (fun W => Kp No w W ∧ W.heap.size = z + 2 ∧ (W.cell? ⟨z, 0, none⟩ = some (.int .i64 k) ∧ W.cell? ⟨z, 1, none⟩ = some (.int .i64 n) ∧ W.cell? ⟨z, 2, none⟩ = some (.slice a l.length c)) ∧ RAt W (z + 1) (.int .i64 0) (.int .u64 0) (.int .u64 0) (.int .u64 0) (.int .u64 0) (.slice none 0 0)) ?_ ?_
  · rw [← hz]
    have e1 : w.heap.size + 1 = (w.alloc (.cells #[.int .i64 k, .int .i64 n, .slice a l.length c] 24)).heap.size := by simp
    refine ⟨((Kp.refl No w).alloc _).alloc _, by simp, ?_, ?_⟩
    · refine ⟨?_, ?_, ?_⟩ <;> refine Kp.cell' ((Kp.refl No _).alloc _) ?_ id <;> simp
    · rw [e1]
      exact RAt.new _ _ _ _ _ _ _ _
  rintro W0 ⟨hk0, hz0, ⟨t0, t1, t2⟩, hr0⟩
  have HK0 := Hid_mk hk0
  have HZ0 := Hid_mk hz0
  have HR0 := Hid_mk hr0
  have HT0 := Hid_mk t0
  have HT1 := Hid_mk t1
  have HT2 := Hid_mk t2
  clear hk0 hr0 hz
  have hk11 : (0 : Int) ≤ k % 11 := by omega
  have hk11' : k % 11 < 11 := by omega
  go_wp2_with fail
  with_reducible refine (HP1.out _).mono ?_
  rintro e w1 ⟨rfl, rfl⟩
  obtain ⟨K, hK⟩ : ∃ K, k % 11 - 1 = K := ⟨_, rfl⟩
  go_upto_region 2 with fail
  have hwn : (0 : Int) ≤ n % 4 := by omega
  have hword : ∃ f : Nat → Bool, wd f 0 64 = 0 ∧ wd f 64 64 = 0 ∧ wd f 128 64 = 0 ∧ wd f 192 64 = 0 := ⟨nul, wd_nul _ _, wd_nul _ _, wd_nul _ _, wd_nul _ _⟩
  have hra : RAt (W0.alloc (.cells #[.int .i64 K, .int .u64 0, .int .u64 0, .int .u64 0, .int .u64 0, .slice none 0 0] 30)) (z + 2) (.int .i64 K) (.int .u64 0) (.int .u64 0) (.int .u64 0) (.int .u64 0) (.slice none 0 0) := by
    rw [← hz0]
    exact RAt.new _ _ _ _ _ _ _ _
  have hka := (Kp.refl No W0).alloc (.cells #[.int .i64 K, .int .u64 0, .int .u64 0, .int .u64 0, .int .u64 0, .slice none 0 0] 30)
  refine wp_name (fun W => Kp No W0 W ∧ W.heap.size = z + 3 ∧ RAt W (z + 2) (.int .i64 K) (.int .u64 0) (.int .u64 0) (.int .u64 0) (.int .u64 0) (.slice none 0 0)) ⟨hka, by simp [hz0], hra⟩ ?_
  clear hra hka hword
  rintro W1 ⟨hk1, hz1, hr1⟩
  have HK1 := Hid_mk hk1
  have HZ1 := Hid_mk hz1
  have HR1 := Hid_mk hr1
  have t1 := HK1.out.cell' HT1.out id
  clear hk1 hz1 hz0 t0 t2 hk11 hk11' hK
  have HWn := Hid_mk hwn
  clear hwn
  go_upto_if 15 with fail
  clear t1
  go_cut [] from 15 to 23 (fun wc => ∃ f : Nat → Bool, Kp No W0 wc ∧ wc.heap.size = z + 3 ∧ RAt wc (z + 2) (.int .i64 K) (.int .u64 (wd f 0 64 : Nat)) (.int .u64 (wd f 64 64 : Nat)) (.int .u64 (wd f 128 64 : Nat)) (.int .u64 (wd f 192 64 : Nat)) (.slice none 0 0))
  case first =>
    by_cases h3 : n.tmod 3 = 0
    · have h3b : (n.tmod 3 == 0) = true := by rw [beq_iff_eq]; exact h3
      have HB3 := Hid_mk h3b
      clear h3
      have HR1c := Hid_mk (HR1.out)
      clear hr1
      rw [HB3.out]
      clear h3b
      have hcase : n % 4 = 0 ∨ n % 4 = 1 ∨ n % 4 = 2 ∨ n % 4 = 3 := by omega
      have t1 := HK1.out.cell' HT1.out id
      rcases hcase with h4 | h4 | h4 | h4
      · have HP3 := HP2.out
        rw [h4] at HP3
        have HPx := Hid_mk HP3
        clear HP3 h4
        go_upto_region 3 with fail
        go_still_tail 7, (by kernel_rfl)
        still_call ((HPx.out _).mono fun e w'' h => ⟨h.1, h.2.symm⟩)
        repeat still_step
        refine wpStill_nil ?_
        obtain ⟨r0, r1, r2, r3, r4, r5, rw'⟩ := HR1.out
        go_wp2_with fail
        go_meet
        case rel =>
          obtain ⟨x, hx64, hx⟩ := wrap_u64 n
          rw [hx]
          have hz2 := HZ0.out
          refine ⟨bitsF x 0, ((HK1.out.setCell (p := ⟨z + 2, 1, none⟩) (fun h => by have h : z + 2 < W0.heap.size := h; omega) _)).drew, by simp [HZ1.out], ?_⟩
          have hr2 := (HR1.out.set1 (.int .u64 (x : Nat))).kept (Kp.refl No _).drew id
          have e0 := @bits_word x 0 hx64
          have e1 := @bits_zero x 0 1 (by decide)
          have e2 := @bits_zero x 0 2 (by decide)
          have e3 := @bits_zero x 0 3 (by decide)
          simp only [Nat.mul_zero, Nat.mul_one, show 64 * 2 = 128 from rfl, show 64 * 3 = 192 from rfl] at e0 e1 e2 e3
          rw [e0, e1, e2, e3]
          exact hr2
      · have HP3 := HP2.out
        rw [h4] at HP3
        have HPx := Hid_mk HP3
        clear HP3 h4
        go_upto_region 3 with fail
        go_still_tail 7, (by kernel_rfl)
        still_call ((HPx.out _).mono fun e w'' h => ⟨h.1, h.2.symm⟩)
        repeat still_step
        refine wpStill_nil ?_
        obtain ⟨r0, r1, r2, r3, r4, r5, rw'⟩ := HR1.out
        go_wp2_with fail
        go_meet
        case rel =>
          obtain ⟨x, hx64, hx⟩ := wrap_u64 n
          rw [hx]
          have hz2 := HZ0.out
          refine ⟨bitsF x 1, ((HK1.out.setCell (p := ⟨z + 2, 2, none⟩) (fun h => by have h : z + 2 < W0.heap.size := h; omega) _)).drew, by simp [HZ1.out], ?_⟩
          have hr2 := (HR1.out.set2 (.int .u64 (x : Nat))).kept (Kp.refl No _).drew id
          have e0 := @bits_zero x 1 0 (by decide)
          have e1 := @bits_word x 1 hx64
          have e2 := @bits_zero x 1 2 (by decide)
          have e3 := @bits_zero x 1 3 (by decide)
          simp only [Nat.mul_zero, Nat.mul_one, show 64 * 2 = 128 from rfl, show 64 * 3 = 192 from rfl] at e0 e1 e2 e3
          rw [e0, e1, e2, e3]
          exact hr2
      · have HP3 := HP2.out
        rw [h4] at HP3
        have HPx := Hid_mk HP3
        clear HP3 h4
        go_upto_region 3 with fail
        go_still_tail 7, (by kernel_rfl)
        still_call ((HPx.out _).mono fun e w'' h => ⟨h.1, h.2.symm⟩)
        repeat still_step
        refine wpStill_nil ?_
        obtain ⟨r0, r1, r2, r3, r4, r5, rw'⟩ := HR1.out
        go_wp2_with fail
        go_meet
        case rel =>
          obtain ⟨x, hx64, hx⟩ := wrap_u64 n
          rw [hx]
          have hz2 := HZ0.out
          refine ⟨bitsF x 2, ((HK1.out.setCell (p := ⟨z + 2, 3, none⟩) (fun h => by have h : z + 2 < W0.heap.size := h; omega) _)).drew, by simp [HZ1.out], ?_⟩
          have hr2 := (HR1.out.set3 (.int .u64 (x : Nat))).kept (Kp.refl No _).drew id
          have e0 := @bits_zero x 2 0 (by decide)
          have e1 := @bits_zero x 2 1 (by decide)
          have e2 := @bits_word x 2 hx64
          have e3 := @bits_zero x 2 3 (by decide)
          simp only [Nat.mul_zero, Nat.mul_one, show 64 * 2 = 128 from rfl, show 64 * 3 = 192 from rfl] at e0 e1 e2 e3
          rw [e0, e1, e2, e3]
          exact hr2
      · have HP3 := HP2.out
        rw [h4] at HP3
        have HPx := Hid_mk HP3
        clear HP3 h4
        go_upto_region 3 with fail
        go_still_tail 7, (by kernel_rfl)
        still_call ((HPx.out _).mono fun e w'' h => ⟨h.1, h.2.symm⟩)
        repeat still_step
        refine wpStill_nil ?_
        obtain ⟨r0, r1, r2, r3, r4, r5, rw'⟩ := HR1.out
        go_wp2_with fail
        go_meet
        case rel =>
          obtain ⟨x, hx64, hx⟩ := wrap_u64 n
          rw [hx]
          have hz2 := HZ0.out
          refine ⟨bitsF x 3, ((HK1.out.setCell (p := ⟨z + 2, 4, none⟩) (fun h => by have h : z + 2 < W0.heap.size := h; omega) _)).drew, by simp [HZ1.out], ?_⟩
          have hr2 := (HR1.out.set4 (.int .u64 (x : Nat))).kept (Kp.refl No _).drew id
          have e0 := @bits_zero x 3 0 (by decide)
          have e1 := @bits_zero x 3 1 (by decide)
          have e2 := @bits_zero x 3 2 (by decide)
          have e3 := @bits_word x 3 hx64
          simp only [Nat.mul_zero, Nat.mul_one, show 64 * 2 = 128 from rfl, show 64 * 3 = 192 from rfl] at e0 e1 e2 e3
          rw [e0, e1, e2, e3]
          exact hr2
    · have h3b : (n.tmod 3 == 0) = false := by rw [beq_eq_false_iff_ne]; exact h3
      have HB3 := Hid_mk h3b
      clear h3
      rw [HB3.out]
      clear h3b
      go_wp2_with fail
      go_meet
      case rel =>
        refine ⟨nul, HK1.out, HZ1.out, ?_⟩
        rw [wd_nul, wd_nul, wd_nul, wd_nul]
        exact HR1.out
  case rest =>
    obtain ⟨f, hk2, hz2, hr2⟩ := hcut
    obtain ⟨W2, hW2⟩ : ∃ W2, W2 = wc := ⟨_, rfl⟩
    rw [← hW2] at hk2 hz2 hr2 ⊢
    have hrel0 : TwRel W0 z K f l (.int .i64 0) W2 := ⟨0, none, 0, [], rfl, Nat.zero_le _, rfl, L6.nil _ _, hr2, hk2.to, by omega, by simp [setsL]⟩
    have HRel0 := Hid_mk hrel0
    clear hW2 hk2 hz2 hr2 hrel0 HR1 HK1 HZ1 HP1 HP2 HWn hr1
    go_wp2
    go_loopw [6] (fun s wr => TwRel W0 z K f l s wr) (fun s _ => twMeas l.length s)
    case atStart => exact HRel0.out
    case round =>
      obtain ⟨j, kv, kc, es, rfl, hj, hes, hL, hrc, hkw, hzw, hsl⟩ := hrel
      have HJ := Hid_mk hj
      have HEs := Hid_mk hes
      have HL := Hid_mk hL
      have HKw := Hid_mk hkw
      have HZw := Hid_mk hzw
      have HSl := Hid_mk hsl
      have HRc := Hid_mk hrc
      have hz0 := HZ0.out
      have t2 := hkw.cell' HT2.out (by show ¬ z + 2 ≤ z; omega)
      clear hj hes hL hkw hzw hsl hrc hz0
      by_cases hlt : j < l.length
      · have hlt' : (j : Int) < (l.length : Int) := by omega
        have hlb : decide ((j : Int) < (l.length : Int)) = true := decide_eq_true hlt'
        have HLt := Hid_mk hlt
        by_cases hd0 : 0 < d
        · have hd0' : (0 : Int) < (d : Int) := by omega
          have hdb : decide ((0 : Int) < (d : Int)) = true := decide_eq_true hd0'
          have HD0 := Hid_mk hd0
          clear hlt hd0
          go_upto_region 7 with fail
          obtain ⟨b, o, ha, hb, htl⟩ : ∃ b o, a = some ⟨b, o, none⟩ ∧ b < z ∧ AtTL w b o l := by
            obtain ⟨a', c', e, -, -, h1, h2, h3⟩ := HT.out
            injection e with e
            simp at e
            obtain ⟨rfl, rfl⟩ := e
            obtain ⟨b, o, e2, hb, h⟩ := h3 (by intro e; have h8 := HLt.out; rw [e] at h8; simp at h8)
            exact ⟨b, o, e2, by have := HZ.out; omega, h⟩
          subst ha
          obtain ⟨x0, x1, x2, g0, g1, g2, hx⟩ := htl.get j HLt.out
          have hnj := nodes_get HLt.out
          have htk := List.take_succ_eq_append_getElem HLt.out
          obtain ⟨tj, htj⟩ : ∃ tj, l[j]'(HLt.out) = tj := ⟨_, rfl⟩
          rw [htj] at hx hnj htk
          have hx' := hx
          obtain ⟨k2, n2, l2⟩ := tj
          obtain ⟨a2, c2, e2, -⟩ := hx
          injection e2 with e2
          simp only [Array.mk.injEq, List.cons.injEq, and_true] at e2
          obtain ⟨rfl, rfl, rfl⟩ := e2
          have hz0 := HZ0.out
          have hzz := HZ.out
          have hkall : Kp No w wr := HK0.out.trans HKw.out (T := fun b => z + 2 ≤ b) fun i hi e => by have e : z + 2 ≤ i := e; omega
          have hHeld0 : (fun V => V.cell? ⟨z, 2, none⟩ = some (.slice (some ⟨b, o, none⟩) l.length c) ∧ V.cell? ⟨b, o + j * 3, none⟩ = some (.int .i64 k2) ∧ V.cell? ⟨b, o + j * 3 + 1, none⟩ = some (.int .i64 n2) ∧ V.cell? ⟨b, o + j * 3 + 2, none⟩ = some (.slice a2 l2.length c2)) wr := ⟨t2, hkall.cell' g0 id, hkall.cell' g1 id, hkall.cell' g2 id⟩
          have hkeep : ∀ W, Kp (fun b => z + 2 ≤ b) wr W → (fun V => V.cell? ⟨z, 2, none⟩ = some (.slice (some ⟨b, o, none⟩) l.length c) ∧ V.cell? ⟨b, o + j * 3, none⟩ = some (.int .i64 k2) ∧ V.cell? ⟨b, o + j * 3 + 1, none⟩ = some (.int .i64 n2) ∧ V.cell? ⟨b, o + j * 3 + 2, none⟩ = some (.slice a2 l2.length c2)) W := fun W hk => ⟨hk.cell' hHeld0.1 (by show ¬ z + 2 ≤ z; omega), hk.cell' hHeld0.2.1 (by show ¬ z + 2 ≤ b; omega), hk.cell' hHeld0.2.2.1 (by show ¬ z + 2 ≤ b; omega), hk.cell' hHeld0.2.2.2 (by show ¬ z + 2 ≤ b; omega)⟩
          have hS := hkeep _ (Kp.refl _ wr).drew
          have hHeld := hS
          have hcon : Calls Try.prog 25 #[.agg #[.int .i64 k2, .int .i64 n2, .slice a2 l2.length c2], .int .i64 ((d - 1 : Nat) : Int)] wr.drew (TwPost wr.drew (.mk k2 n2 l2)) :=
            HIh.out (d - 1) (by have := HD0.out; omega) (by have := HD.out; omega) (.mk k2 n2 l2) wr.drew k2 n2 a2 l2.length c2 (AtT.no (hkall.drew) _ _ hx') (by have h8 := HNd.out; rw [TT.nodes] at h8; omega)
          have hwd : IntKind.i64.wrap ((d : Int) - 1) = ((d - 1 : Nat) : Int) := by rw [IntWalk.i64_in _ (by have h8 := HD.out; omega)]; have := HD0.out; omega
          have r5 := HRc.out.c5
          have r5d : wr.drew.cell? ⟨z + 2, 5, none⟩ = some (.slice kv j kc) := (Kp.refl No wr).drew.cell' r5 id
          have HCon := Hid_mk hcon
          have HKeep := Hid_mk hkeep
          have HNj := Hid_mk hnj
          have HTk := Hid_mk htk
          have HKa := Hid_mk hkall
          have HR5d := Hid_mk r5d
          clear hcon hkeep hnj htk hkall hx' htl htj g0 g1 g2 hHeld0 hz0 hzz r5 r5d hb t2
          refine wp_region_held_drew (S := (fun V => V.cell? ⟨z, 2, none⟩ = some (.slice (some ⟨b, o, none⟩) l.length c) ∧ V.cell? ⟨b, o + j * 3, none⟩ = some (.int .i64 k2) ∧ V.cell? ⟨b, o + j * 3 + 1, none⟩ = some (.int .i64 n2) ∧ V.cell? ⟨b, o + j * 3 + 2, none⟩ = some (.slice a2 l2.length c2))) (by kernel_rfl) (by first | exact hS | (dsimp only; exact hS)) (fun hHeld => ?_)
          clear hHeld; have hHeld := hS
          refine wpAnyH_take (i := 0) (oi := { dst := some 35, op := Op.fieldAddr 30 (Operand.tmp 5) 2, type := 0, pos := "law.go:86", after := #[], guard := none }) (v := ?_) rfl (by kernel_rfl) (by kernel_rfl) (by kernel_rfl) (fun _ _ _ h => h) (Or.inl ⟨by rfl, ?_⟩) (by assumption) ?_
          rotate_left 1
          · intro w hSw; (try dsimp only at hSw); go_simp; all_goals (with_reducible rfl)
          try simp only [Act.put, List.setIfInBounds_toArray, List.set_cons_zero, List.set_cons_succ]
          refine wpAnyH_take (i := 2) (oi := { dst := some 37, op := Op.fieldAddr 24 (Operand.tmp 2) 2, type := 0, pos := "law.go:86", after := #[], guard := none }) (v := ?_) rfl (by kernel_rfl) (by kernel_rfl) (by kernel_rfl) (fun _ _ _ h => h) (Or.inl ⟨by rfl, ?_⟩) (by assumption) ?_
          rotate_left 1
          · intro w hSw; (try dsimp only at hSw); go_simp; all_goals (with_reducible rfl)
          try simp only [Act.put, List.setIfInBounds_toArray, List.set_cons_zero, List.set_cons_succ]
          refine wpAnyH_take (i := 3) (oi := { dst := some 38, op := Op.load 22 (Operand.tmp 37), type := 22, pos := "law.go:86", after := #[{ on := 2, ground := Ground.data }], guard := none }) (v := ?_) rfl (by kernel_rfl) (by kernel_rfl) (by kernel_rfl) (fun _ _ _ h => h) (Or.inl ⟨by rfl, ?_⟩) (by assumption) ?_
          rotate_left 1
          · intro w hSw; (try dsimp only at hSw); go_simp; all_goals (with_reducible rfl)
          try simp only [Act.put, List.setIfInBounds_toArray, List.set_cons_zero, List.set_cons_succ]
          refine wpAnyH_take (i := 4) (oi := { dst := some 39, op := Op.move (Operand.tmp 6), type := 3, pos := "law.go:86", after := #[], guard := none }) (v := ?_) rfl (by kernel_rfl) (by kernel_rfl) (by kernel_rfl) (fun _ _ _ h => h) (Or.inl ⟨by rfl, ?_⟩) (by assumption) ?_
          rotate_left 1
          · intro w hSw; (try dsimp only at hSw); go_simp; all_goals (with_reducible rfl)
          try simp only [Act.put, List.setIfInBounds_toArray, List.set_cons_zero, List.set_cons_succ]
          refine wpAnyH_take (i := 5) (oi := { dst := some 40, op := Op.indexAddr 22 (Operand.tmp 38) (Operand.tmp 39), type := 0, pos := "law.go:86", after := #[{ on := 3, ground := Ground.data }, { on := 4, ground := Ground.data }], guard := none }) (v := ?_) rfl (by kernel_rfl) (by kernel_rfl) (by kernel_rfl) (fun _ _ _ h => h) (Or.inl ⟨by rfl, ?_⟩) (by assumption) ?_
          rotate_left 1
          · intro w hSw; (try dsimp only at hSw); go_simp; all_goals (with_reducible rfl)
          try simp only [Act.put, List.setIfInBounds_toArray, List.set_cons_zero, List.set_cons_succ]
          refine wpAnyH_take (i := 6) (oi := { dst := some 41, op := Op.load 24 (Operand.tmp 40), type := 24, pos := "law.go:86", after := #[{ on := 5, ground := Ground.data }], guard := none }) (v := ?_) rfl (by kernel_rfl) (by kernel_rfl) (by kernel_rfl) (fun _ _ _ h => h) (Or.inl ⟨by rfl, ?_⟩) (by assumption) ?_
          rotate_left 1
          · intro w hSw; (try dsimp only at hSw); go_simp; all_goals (with_reducible rfl)
          try simp only [Act.put, List.setIfInBounds_toArray, List.set_cons_zero, List.set_cons_succ]
          refine wpAnyH_take (i := 7) (oi := { dst := some 42, op := Op.move (Operand.tmp 1), type := 3, pos := "law.go:86", after := #[], guard := none }) (v := ?_) rfl (by kernel_rfl) (by kernel_rfl) (by kernel_rfl) (fun _ _ _ h => h) (Or.inl ⟨by rfl, ?_⟩) (by assumption) ?_
          rotate_left 1
          · intro w hSw; (try dsimp only at hSw); go_simp; all_goals (with_reducible rfl)
          try simp only [Act.put, List.setIfInBounds_toArray, List.set_cons_zero, List.set_cons_succ]
          refine wpAnyH_take (i := 8) (oi := { dst := some 43, op := Op.binOp BinOp.sub 3 (Operand.tmp 42) (Operand.const (Value.int IntKind.i64 1)) 3, type := 3, pos := "law.go:86", after := #[{ on := 7, ground := Ground.data }], guard := none }) (v := ?_) rfl (by kernel_rfl) (by kernel_rfl) (by kernel_rfl) (fun _ _ _ h => h) (Or.inl ⟨by rfl, ?_⟩) (by assumption) ?_
          rotate_left 1
          · intro w hSw; (try dsimp only at hSw); go_simp; all_goals (with_reducible rfl)
          try simp only [Act.put, List.setIfInBounds_toArray, List.set_cons_zero, List.set_cons_succ]
          clear hwd
          refine wpAnyH_ready (rs := [1, 9]) (by kernel_rfl) (by simp) ?_
          refine AllReadyH.cons (o := { dst := some 36, op := Op.load 28 (Operand.tmp 35), type := 28, pos := "law.go:86", after := #[{ on := 0, ground := Ground.data }], guard := none }) rfl (fun K hK => ?_) (AllReadyH.cons (o := { dst := some 44, op := Op.call { callee := Callee.value (Operand.func 25), args := #[Operand.tmp 41, Operand.tmp 43], argTypes := #[24, 3] }, type := 30, pos := "law.go:86", after := #[{ on := 6, ground := Ground.data }, { on := 8, ground := Ground.data }], guard := none }) rfl (fun K hK => ?_) AllReadyH.nil)
          · have r5 := HR5d.out
            go_simp
            refine hK.out _ _ hHeld (fun hHeld2 => ?_)
            clear hK K hHeld2 r5
            try simp only [Act.put, List.setIfInBounds_toArray, List.set_cons_zero, List.set_cons_succ]
            refine wpAnyH_ready (rs := [9]) (by kernel_rfl) (by simp) ?_
            refine AllReadyH.cons (o := { dst := some 44, op := Op.call { callee := Callee.value (Operand.func 25), args := #[Operand.tmp 41, Operand.tmp 43], argTypes := #[24, 3] }, type := 30, pos := "law.go:86", after := #[{ on := 6, ground := Ground.data }, { on := 8, ground := Ground.data }], guard := none }) rfl (fun K hK => ?_) AllReadyH.nil
            go_simp
            with_reducible refine HCon.out.mono ?_
            rintro e w3 ⟨vk, vf, va, vn, vc, tr, rfl, hv3, hk3, hs3⟩
            have hSn := HKeep.out _ ((Kp.refl (fun b => z + 2 ≤ b) wr).drew.trans' hk3.to)
            have hk30 : Kp No wr w3 := (Kp.refl No wr).drew.trans' hk3
            have HV3 := Hid_mk hv3
            have HK3 := Hid_mk hk30
            have HS3 := Hid_mk hs3
            clear hv3 hk3 hs3 hk30
            refine hK.out _ _ hSn (fun hHeld => ?_)
            clear hK K hHeld
            have hHeld := hSn
            try simp only [Act.put, List.setIfInBounds_toArray, List.set_cons_zero, List.set_cons_succ]
            refine wpAnyH_ready (rs := [10]) (by kernel_rfl) (by simp) ?_
            refine AllReadyH.cons (o := { dst := some 45, op := Op.buildSlice 28 1 #[(0, Operand.tmp 44)], type := 28, pos := "law.go:86", after := #[{ on := 9, ground := Ground.data }], guard := none }) rfl (fun K hK => ?_) AllReadyH.nil
            unfold cellsR
            go_simp
            have hSa := HKeep.out _ (HK3.out.alloc (.cells #[.int .i64 vk, .int .u64 (wd vf 0 64 : Nat), .int .u64 (wd vf 64 64 : Nat), .int .u64 (wd vf 128 64 : Nat), .int .u64 (wd vf 192 64 : Nat), .slice va vn vc] 30)).to
            refine hK.out _ _ hSa (fun hHeld => ?_)
            clear hK K hHeld
            have hHeld := hSa
            try simp only [Act.put, List.setIfInBounds_toArray, List.set_cons_zero, List.set_cons_succ]
            refine wpAnyH_ready (rs := [11]) (by kernel_rfl) (by simp) ?_
            refine AllReadyH.cons (o := { dst := some 46, op := Op.call { callee := Callee.builtin Builtin.append, args := #[Operand.tmp 36, Operand.tmp 45], argTypes := #[28, 28] }, type := 28, pos := "law.go:86", after := #[{ on := 1, ground := Ground.data }, { on := 10, ground := Ground.data }, { on := 9, ground := Ground.chain }], guard := none }) rfl (fun K hK => ?_) AllReadyH.nil
            have hL3 := HL.out.kept HK3.out (fun _ _ _ => id)
            have hz9 := HZw.out
            obtain ⟨g', c', w5, hap, hL5, hk5⟩ := hL3.push (B := wr.heap.size) (Nat.le_trans hz9 HK3.out.size) ⟨vk, vf, va, vn, vc⟩ tr HV3.out hz9 (fun gg he => (HL.out.row.lt gg he).2) (by have h7 := HEs.out; have h8 := HLt.out; have h9 := len_nodesL l; have h6 := HNd.out; rw [TT.nodes] at h6; omega)
            rw [HEs.out] at hap hL5
            unfold cellsR at hap
            have hr5 := (HRc.out.kept HK3.out id).kept hk5 (by show ¬ z + 3 ≤ z + 2; omega)
            have hk50 : Kp (fun b => z + 2 ≤ b) wr w5 := (HK3.out.to (S := fun b => z + 2 ≤ b)).trans' (hk5.mono fun b _ h => by have h : z + 3 ≤ b := h; show z + 2 ≤ b; omega)
            have hz5 : z + 3 ≤ w5.heap.size := Nat.le_trans (Nat.le_trans hz9 HK3.out.size) hk5.size
            have hSb := HKeep.out _ hk50
            have HL5 := Hid_mk hL5
            have HR5 := Hid_mk hr5
            have HK5 := Hid_mk hk50
            have HZ5 := Hid_mk hz5
            clear hL3 hz9 hL5 hk5 hr5 hk50 hz5
            refine step_append_run rfl _ _ _ _ rfl hap ?_
            clear hap
            refine hK.out _ _ hSb (fun hHeld => ?_)
            clear hK K hHeld
            have hHeld := hSb
            try simp only [Act.put, List.setIfInBounds_toArray, List.set_cons_zero, List.set_cons_succ]
            refine wpAnyH_take (i := 12) (oi := { dst := some 47, op := Op.fieldAddr 30 (Operand.tmp 5) 2, type := 0, pos := "law.go:86", after := #[{ on := 0, ground := Ground.phase }, { on := 1, ground := Ground.phase }, { on := 2, ground := Ground.phase }, { on := 3, ground := Ground.phase }, { on := 4, ground := Ground.phase }, { on := 5, ground := Ground.phase }, { on := 6, ground := Ground.phase }, { on := 7, ground := Ground.phase }, { on := 8, ground := Ground.phase }, { on := 9, ground := Ground.phase }, { on := 10, ground := Ground.phase }, { on := 11, ground := Ground.phase }], guard := none }) (v := ?_) rfl (by kernel_rfl) (by kernel_rfl) (by kernel_rfl) (fun _ _ _ h => h) (Or.inl ⟨by rfl, ?_⟩) (by assumption) ?_
            rotate_left 1
            · intro w hSw; (try dsimp only at hSw); go_simp; all_goals (with_reducible rfl)
            try simp only [Act.put, List.setIfInBounds_toArray, List.set_cons_zero, List.set_cons_succ]
            refine wpAnyH_ready (rs := [13]) (by kernel_rfl) (by simp) ?_
            refine AllReadyH.cons (o := { dst := none, op := Op.store 28 (Operand.tmp 47) (Operand.tmp 46), type := 0, pos := "law.go:86", after := #[{ on := 12, ground := Ground.data }, { on := 11, ground := Ground.data }, { on := 11, ground := Ground.chain }, { on := 0, ground := Ground.phase }, { on := 1, ground := Ground.phase }, { on := 2, ground := Ground.phase }, { on := 3, ground := Ground.phase }, { on := 4, ground := Ground.phase }, { on := 5, ground := Ground.phase }, { on := 6, ground := Ground.phase }, { on := 7, ground := Ground.phase }, { on := 8, ground := Ground.phase }, { on := 9, ground := Ground.phase }, { on := 10, ground := Ground.phase }, { on := 11, ground := Ground.phase }], guard := none }) rfl (fun K hK => ?_) AllReadyH.nil
            have r5 := HR5.out.c5
            have rw5 := HR5.out.warm
            go_simp
            have hk60 : Kp (fun b => z + 2 ≤ b) wr (w5.setCell ⟨z + 2, 5, none⟩ (.slice (some ⟨g', 0, none⟩) (j + 1) c')) := HK5.out.setCell (p := ⟨z + 2, 5, none⟩) (fun _ => Nat.le_refl _) _
            have HK6 := Hid_mk hk60
            have hSc := HKeep.out _ hk60
            clear hk60 r5 rw5
            refine hK.out _ _ hSc (fun hHeld => ?_)
            clear hK K hHeld
            try simp only [Act.put, List.setIfInBounds_toArray, List.set_cons_zero, List.set_cons_succ]
            refine wpAnyH_done (by kernel_rfl) ?_ _
            clear hHeld hS hSn hSa hSb hSc HKeep HCon HR5d
            have hwn : IntKind.i64.wrap ((j : Int) + 1) = ((j + 1 : Nat) : Int) := by rw [IntWalk.i64_in _ (by have h8 := HLt.out; have h9 := len_nodesL l; have h6 := HNd.out; rw [TT.nodes] at h6; omega)]; push_cast; rfl
            go_wp2_with fail
            go_roundw
            case rel =>
              have hlen : (es ++ [((⟨vk, vf, va, vn, vc⟩ : E6), tr)]).length = j + 1 := by simp [HEs.out]
              refine ⟨j + 1, some ⟨g', 0, none⟩, c', es ++ [(⟨vk, vf, va, vn, vc⟩, tr)], rfl, HLt.out, hlen, HL5.out.kept ((Kp.refl (fun b => b = z + 2) w5).setCell (p := ⟨z + 2, 5, none⟩) (fun _ => rfl) _) (fun b hb _ => by show ¬ b = z + 2; omega), HR5.out.set5 _, HKw.out.trans' HK6.out, by have h5 := HZ5.out; simpa using h5, ?_⟩
              rw [HTk.out, nodesL_snoc, List.map_append, List.map_cons, List.map_nil, setsL_snoc]
              exact Nat.add_le_add HSl.out HS3.out
            case measure =>
              have h8 := HLt.out
              simp only [twMeas, Int.toNat_natCast]
              omega
          · go_simp
            with_reducible refine HCon.out.mono ?_
            rintro e w3 ⟨vk, vf, va, vn, vc, tr, rfl, hv3, hk3, hs3⟩
            have hSn := HKeep.out _ ((Kp.refl (fun b => z + 2 ≤ b) wr).drew.trans' hk3.to)
            have hk30 : Kp No wr w3 := (Kp.refl No wr).drew.trans' hk3
            have HV3 := Hid_mk hv3
            have HK3 := Hid_mk hk30
            have HS3 := Hid_mk hs3
            clear hv3 hk3 hs3 hk30
            refine hK.out _ _ hSn (fun hHeld => ?_)
            clear hK K hHeld
            have hHeld := hSn
            try simp only [Act.put, List.setIfInBounds_toArray, List.set_cons_zero, List.set_cons_succ]
            refine wpAnyH_ready (rs := [1, 10]) (by kernel_rfl) (by simp) ?_
            refine AllReadyH.cons (o := { dst := some 36, op := Op.load 28 (Operand.tmp 35), type := 28, pos := "law.go:86", after := #[{ on := 0, ground := Ground.data }], guard := none }) rfl (fun K hK => ?_) (AllReadyH.cons (o := { dst := some 45, op := Op.buildSlice 28 1 #[(0, Operand.tmp 44)], type := 28, pos := "law.go:86", after := #[{ on := 9, ground := Ground.data }], guard := none }) rfl (fun K hK => ?_) AllReadyH.nil)
            · have r5 := HK3.out.cell' HRc.out.c5 id
              go_simp
              refine hK.out _ _ hHeld (fun hHeld2 => ?_)
              clear hK K hHeld2 r5
              try simp only [Act.put, List.setIfInBounds_toArray, List.set_cons_zero, List.set_cons_succ]
              refine wpAnyH_ready (rs := [10]) (by kernel_rfl) (by simp) ?_
              refine AllReadyH.cons (o := { dst := some 45, op := Op.buildSlice 28 1 #[(0, Operand.tmp 44)], type := 28, pos := "law.go:86", after := #[{ on := 9, ground := Ground.data }], guard := none }) rfl (fun K hK => ?_) AllReadyH.nil
              unfold cellsR
              go_simp
              have hSa := HKeep.out _ (HK3.out.alloc (.cells #[.int .i64 vk, .int .u64 (wd vf 0 64 : Nat), .int .u64 (wd vf 64 64 : Nat), .int .u64 (wd vf 128 64 : Nat), .int .u64 (wd vf 192 64 : Nat), .slice va vn vc] 30)).to
              refine hK.out _ _ hSa (fun hHeld => ?_)
              clear hK K hHeld
              have hHeld := hSa
              try simp only [Act.put, List.setIfInBounds_toArray, List.set_cons_zero, List.set_cons_succ]
              refine wpAnyH_ready (rs := [11]) (by kernel_rfl) (by simp) ?_
              refine AllReadyH.cons (o := { dst := some 46, op := Op.call { callee := Callee.builtin Builtin.append, args := #[Operand.tmp 36, Operand.tmp 45], argTypes := #[28, 28] }, type := 28, pos := "law.go:86", after := #[{ on := 1, ground := Ground.data }, { on := 10, ground := Ground.data }, { on := 9, ground := Ground.chain }], guard := none }) rfl (fun K hK => ?_) AllReadyH.nil
              have hL3 := HL.out.kept HK3.out (fun _ _ _ => id)
              have hz9 := HZw.out
              obtain ⟨g', c', w5, hap, hL5, hk5⟩ := hL3.push (B := wr.heap.size) (Nat.le_trans hz9 HK3.out.size) ⟨vk, vf, va, vn, vc⟩ tr HV3.out hz9 (fun gg he => (HL.out.row.lt gg he).2) (by have h7 := HEs.out; have h8 := HLt.out; have h9 := len_nodesL l; have h6 := HNd.out; rw [TT.nodes] at h6; omega)
              rw [HEs.out] at hap hL5
              unfold cellsR at hap
              have hr5 := (HRc.out.kept HK3.out id).kept hk5 (by show ¬ z + 3 ≤ z + 2; omega)
              have hk50 : Kp (fun b => z + 2 ≤ b) wr w5 := (HK3.out.to (S := fun b => z + 2 ≤ b)).trans' (hk5.mono fun b _ h => by have h : z + 3 ≤ b := h; show z + 2 ≤ b; omega)
              have hz5 : z + 3 ≤ w5.heap.size := Nat.le_trans (Nat.le_trans hz9 HK3.out.size) hk5.size
              have hSb := HKeep.out _ hk50
              have HL5 := Hid_mk hL5
              have HR5 := Hid_mk hr5
              have HK5 := Hid_mk hk50
              have HZ5 := Hid_mk hz5
              clear hL3 hz9 hL5 hk5 hr5 hk50 hz5
              refine step_append_run rfl _ _ _ _ rfl hap ?_
              clear hap
              refine hK.out _ _ hSb (fun hHeld => ?_)
              clear hK K hHeld
              have hHeld := hSb
              try simp only [Act.put, List.setIfInBounds_toArray, List.set_cons_zero, List.set_cons_succ]
              refine wpAnyH_take (i := 12) (oi := { dst := some 47, op := Op.fieldAddr 30 (Operand.tmp 5) 2, type := 0, pos := "law.go:86", after := #[{ on := 0, ground := Ground.phase }, { on := 1, ground := Ground.phase }, { on := 2, ground := Ground.phase }, { on := 3, ground := Ground.phase }, { on := 4, ground := Ground.phase }, { on := 5, ground := Ground.phase }, { on := 6, ground := Ground.phase }, { on := 7, ground := Ground.phase }, { on := 8, ground := Ground.phase }, { on := 9, ground := Ground.phase }, { on := 10, ground := Ground.phase }, { on := 11, ground := Ground.phase }], guard := none }) (v := ?_) rfl (by kernel_rfl) (by kernel_rfl) (by kernel_rfl) (fun _ _ _ h => h) (Or.inl ⟨by rfl, ?_⟩) (by assumption) ?_
              rotate_left 1
              · intro w hSw; (try dsimp only at hSw); go_simp; all_goals (with_reducible rfl)
              try simp only [Act.put, List.setIfInBounds_toArray, List.set_cons_zero, List.set_cons_succ]
              refine wpAnyH_ready (rs := [13]) (by kernel_rfl) (by simp) ?_
              refine AllReadyH.cons (o := { dst := none, op := Op.store 28 (Operand.tmp 47) (Operand.tmp 46), type := 0, pos := "law.go:86", after := #[{ on := 12, ground := Ground.data }, { on := 11, ground := Ground.data }, { on := 11, ground := Ground.chain }, { on := 0, ground := Ground.phase }, { on := 1, ground := Ground.phase }, { on := 2, ground := Ground.phase }, { on := 3, ground := Ground.phase }, { on := 4, ground := Ground.phase }, { on := 5, ground := Ground.phase }, { on := 6, ground := Ground.phase }, { on := 7, ground := Ground.phase }, { on := 8, ground := Ground.phase }, { on := 9, ground := Ground.phase }, { on := 10, ground := Ground.phase }, { on := 11, ground := Ground.phase }], guard := none }) rfl (fun K hK => ?_) AllReadyH.nil
              have r5 := HR5.out.c5
              have rw5 := HR5.out.warm
              go_simp
              have hk60 : Kp (fun b => z + 2 ≤ b) wr (w5.setCell ⟨z + 2, 5, none⟩ (.slice (some ⟨g', 0, none⟩) (j + 1) c')) := HK5.out.setCell (p := ⟨z + 2, 5, none⟩) (fun _ => Nat.le_refl _) _
              have HK6 := Hid_mk hk60
              have hSc := HKeep.out _ hk60
              clear hk60 r5 rw5
              refine hK.out _ _ hSc (fun hHeld => ?_)
              clear hK K hHeld
              try simp only [Act.put, List.setIfInBounds_toArray, List.set_cons_zero, List.set_cons_succ]
              refine wpAnyH_done (by kernel_rfl) ?_ _
              clear hHeld hS hSn hSa hSb hSc HKeep HCon HR5d
              have hwn : IntKind.i64.wrap ((j : Int) + 1) = ((j + 1 : Nat) : Int) := by rw [IntWalk.i64_in _ (by have h8 := HLt.out; have h9 := len_nodesL l; have h6 := HNd.out; rw [TT.nodes] at h6; omega)]; push_cast; rfl
              go_wp2_with fail
              go_roundw
              case rel =>
                have hlen : (es ++ [((⟨vk, vf, va, vn, vc⟩ : E6), tr)]).length = j + 1 := by simp [HEs.out]
                refine ⟨j + 1, some ⟨g', 0, none⟩, c', es ++ [(⟨vk, vf, va, vn, vc⟩, tr)], rfl, HLt.out, hlen, HL5.out.kept ((Kp.refl (fun b => b = z + 2) w5).setCell (p := ⟨z + 2, 5, none⟩) (fun _ => rfl) _) (fun b hb _ => by show ¬ b = z + 2; omega), HR5.out.set5 _, HKw.out.trans' HK6.out, by have h5 := HZ5.out; simpa using h5, ?_⟩
                rw [HTk.out, nodesL_snoc, List.map_append, List.map_cons, List.map_nil, setsL_snoc]
                exact Nat.add_le_add HSl.out HS3.out
              case measure =>
                have h8 := HLt.out
                simp only [twMeas, Int.toNat_natCast]
                omega
            · unfold cellsR
              go_simp
              have hSa := HKeep.out _ (HK3.out.alloc (.cells #[.int .i64 vk, .int .u64 (wd vf 0 64 : Nat), .int .u64 (wd vf 64 64 : Nat), .int .u64 (wd vf 128 64 : Nat), .int .u64 (wd vf 192 64 : Nat), .slice va vn vc] 30)).to
              refine hK.out _ _ hSa (fun hHeld => ?_)
              clear hK K hHeld
              have hHeld := hSa
              try simp only [Act.put, List.setIfInBounds_toArray, List.set_cons_zero, List.set_cons_succ]
              refine wpAnyH_ready (rs := [1]) (by kernel_rfl) (by simp) ?_
              refine AllReadyH.cons (o := { dst := some 36, op := Op.load 28 (Operand.tmp 35), type := 28, pos := "law.go:86", after := #[{ on := 0, ground := Ground.data }], guard := none }) rfl (fun K hK => ?_) AllReadyH.nil
              have r5 := (HK3.out.alloc (.cells #[.int .i64 vk, .int .u64 (wd vf 0 64 : Nat), .int .u64 (wd vf 64 64 : Nat), .int .u64 (wd vf 128 64 : Nat), .int .u64 (wd vf 192 64 : Nat), .slice va vn vc] 30)).cell' HRc.out.c5 id
              go_simp
              refine hK.out _ _ hHeld (fun hHeld2 => ?_)
              clear hK K hHeld2 r5
              try simp only [Act.put, List.setIfInBounds_toArray, List.set_cons_zero, List.set_cons_succ]
              refine wpAnyH_ready (rs := [11]) (by kernel_rfl) (by simp) ?_
              refine AllReadyH.cons (o := { dst := some 46, op := Op.call { callee := Callee.builtin Builtin.append, args := #[Operand.tmp 36, Operand.tmp 45], argTypes := #[28, 28] }, type := 28, pos := "law.go:86", after := #[{ on := 1, ground := Ground.data }, { on := 10, ground := Ground.data }, { on := 9, ground := Ground.chain }], guard := none }) rfl (fun K hK => ?_) AllReadyH.nil
              have hL3 := HL.out.kept HK3.out (fun _ _ _ => id)
              have hz9 := HZw.out
              obtain ⟨g', c', w5, hap, hL5, hk5⟩ := hL3.push (B := wr.heap.size) (Nat.le_trans hz9 HK3.out.size) ⟨vk, vf, va, vn, vc⟩ tr HV3.out hz9 (fun gg he => (HL.out.row.lt gg he).2) (by have h7 := HEs.out; have h8 := HLt.out; have h9 := len_nodesL l; have h6 := HNd.out; rw [TT.nodes] at h6; omega)
              rw [HEs.out] at hap hL5
              unfold cellsR at hap
              have hr5 := (HRc.out.kept HK3.out id).kept hk5 (by show ¬ z + 3 ≤ z + 2; omega)
              have hk50 : Kp (fun b => z + 2 ≤ b) wr w5 := (HK3.out.to (S := fun b => z + 2 ≤ b)).trans' (hk5.mono fun b _ h => by have h : z + 3 ≤ b := h; show z + 2 ≤ b; omega)
              have hz5 : z + 3 ≤ w5.heap.size := Nat.le_trans (Nat.le_trans hz9 HK3.out.size) hk5.size
              have hSb := HKeep.out _ hk50
              have HL5 := Hid_mk hL5
              have HR5 := Hid_mk hr5
              have HK5 := Hid_mk hk50
              have HZ5 := Hid_mk hz5
              clear hL3 hz9 hL5 hk5 hr5 hk50 hz5
              refine step_append_run rfl _ _ _ _ rfl hap ?_
              clear hap
              refine hK.out _ _ hSb (fun hHeld => ?_)
              clear hK K hHeld
              have hHeld := hSb
              try simp only [Act.put, List.setIfInBounds_toArray, List.set_cons_zero, List.set_cons_succ]
              refine wpAnyH_take (i := 12) (oi := { dst := some 47, op := Op.fieldAddr 30 (Operand.tmp 5) 2, type := 0, pos := "law.go:86", after := #[{ on := 0, ground := Ground.phase }, { on := 1, ground := Ground.phase }, { on := 2, ground := Ground.phase }, { on := 3, ground := Ground.phase }, { on := 4, ground := Ground.phase }, { on := 5, ground := Ground.phase }, { on := 6, ground := Ground.phase }, { on := 7, ground := Ground.phase }, { on := 8, ground := Ground.phase }, { on := 9, ground := Ground.phase }, { on := 10, ground := Ground.phase }, { on := 11, ground := Ground.phase }], guard := none }) (v := ?_) rfl (by kernel_rfl) (by kernel_rfl) (by kernel_rfl) (fun _ _ _ h => h) (Or.inl ⟨by rfl, ?_⟩) (by assumption) ?_
              rotate_left 1
              · intro w hSw; (try dsimp only at hSw); go_simp; all_goals (with_reducible rfl)
              try simp only [Act.put, List.setIfInBounds_toArray, List.set_cons_zero, List.set_cons_succ]
              refine wpAnyH_ready (rs := [13]) (by kernel_rfl) (by simp) ?_
              refine AllReadyH.cons (o := { dst := none, op := Op.store 28 (Operand.tmp 47) (Operand.tmp 46), type := 0, pos := "law.go:86", after := #[{ on := 12, ground := Ground.data }, { on := 11, ground := Ground.data }, { on := 11, ground := Ground.chain }, { on := 0, ground := Ground.phase }, { on := 1, ground := Ground.phase }, { on := 2, ground := Ground.phase }, { on := 3, ground := Ground.phase }, { on := 4, ground := Ground.phase }, { on := 5, ground := Ground.phase }, { on := 6, ground := Ground.phase }, { on := 7, ground := Ground.phase }, { on := 8, ground := Ground.phase }, { on := 9, ground := Ground.phase }, { on := 10, ground := Ground.phase }, { on := 11, ground := Ground.phase }], guard := none }) rfl (fun K hK => ?_) AllReadyH.nil
              have r5 := HR5.out.c5
              have rw5 := HR5.out.warm
              go_simp
              have hk60 : Kp (fun b => z + 2 ≤ b) wr (w5.setCell ⟨z + 2, 5, none⟩ (.slice (some ⟨g', 0, none⟩) (j + 1) c')) := HK5.out.setCell (p := ⟨z + 2, 5, none⟩) (fun _ => Nat.le_refl _) _
              have HK6 := Hid_mk hk60
              have hSc := HKeep.out _ hk60
              clear hk60 r5 rw5
              refine hK.out _ _ hSc (fun hHeld => ?_)
              clear hK K hHeld
              try simp only [Act.put, List.setIfInBounds_toArray, List.set_cons_zero, List.set_cons_succ]
              refine wpAnyH_done (by kernel_rfl) ?_ _
              clear hHeld hS hSn hSa hSb hSc HKeep HCon HR5d
              have hwn : IntKind.i64.wrap ((j : Int) + 1) = ((j + 1 : Nat) : Int) := by rw [IntWalk.i64_in _ (by have h8 := HLt.out; have h9 := len_nodesL l; have h6 := HNd.out; rw [TT.nodes] at h6; omega)]; push_cast; rfl
              go_wp2_with fail
              go_roundw
              case rel =>
                have hlen : (es ++ [((⟨vk, vf, va, vn, vc⟩ : E6), tr)]).length = j + 1 := by simp [HEs.out]
                refine ⟨j + 1, some ⟨g', 0, none⟩, c', es ++ [(⟨vk, vf, va, vn, vc⟩, tr)], rfl, HLt.out, hlen, HL5.out.kept ((Kp.refl (fun b => b = z + 2) w5).setCell (p := ⟨z + 2, 5, none⟩) (fun _ => rfl) _) (fun b hb _ => by show ¬ b = z + 2; omega), HR5.out.set5 _, HKw.out.trans' HK6.out, by have h5 := HZ5.out; simpa using h5, ?_⟩
                rw [HTk.out, nodesL_snoc, List.map_append, List.map_cons, List.map_nil, setsL_snoc]
                exact Nat.add_le_add HSl.out HS3.out
              case measure =>
                have h8 := HLt.out
                simp only [twMeas, Int.toNat_natCast]
                omega
        · have hd0' : ¬ (0 : Int) < (d : Int) := by omega
          have hdb : decide ((0 : Int) < (d : Int)) = false := decide_eq_false hd0'
          clear hlt hd0
          have hr0 := HR0.out.kept HKw.out (by show ¬ z + 2 ≤ z + 1; omega)
          obtain ⟨r0, r1, r2, r3, r4, r5, rw1⟩ := HRc.out
          obtain ⟨q0, q1, q2, q3, q4, q5, qw⟩ := hr0
          go_wp2_with fail
          have hes := HEs.out
          have hl3 := HL.out
          have hz1 := HZ.out
          have hz2 := HZ0.out
          have hz3 := HZw.out
          have hkz : Kp (fun b => b = z + 1) wr (putR wr (z + 1) (.int .i64 K) (.int .u64 (wd f 0 64 : Nat)) (.int .u64 (wd f 64 64 : Nat)) (.int .u64 (wd f 128 64 : Nat)) (.int .u64 (wd f 192 64 : Nat)) (.slice kv j kc)) := kp_putR (q := z + 1) (Kp.refl (fun b => b = z + 1) wr) (fun _ => rfl) _ _ _ _ _ _
          have hkf : Kp No w (putR wr (z + 1) (.int .i64 K) (.int .u64 (wd f 0 64 : Nat)) (.int .u64 (wd f 64 64 : Nat)) (.int .u64 (wd f 128 64 : Nat)) (.int .u64 (wd f 192 64 : Nat)) (.slice kv j kc)) :=
            (HK0.out.trans HKw.out (T := fun b => z + 2 ≤ b) fun i hi e => by have e : z + 2 ≤ i := e; omega).trans hkz (T := fun b => b = z + 1) fun i hi e => by have e : i = z + 1 := e; omega
          obtain ⟨a9, c9, e9, hv9⟩ := hl3.tree K f
          rw [hes] at e9 hv9
          injection e9 with e91 e92 e93
          subst e91 e93
          refine bodyPost_ret (v := .agg (cellsR K f kv j kc)) ?_ rfl ?_
          · simp [results, Try.results25, go_sem, q0, q1, q2, q3, q4, q5]
          · refine ⟨K, f, kv, j, kc, _, rfl, ReV.wider (fun b hb _ => by have hb : z + 3 ≤ b := hb; omega) _ _ (ReV.kept hkz (fun b hb _ => by have hb : z + 3 ≤ b := hb; show ¬ b = z + 1; omega) _ _ hv9), hkf, ?_⟩
            have h8 := sets_kids K f _ _ HSl.out
            have h9 := nodesL_take l j
            rw [TT.nodes]
            omega
      · have hlt' : ¬ (j : Int) < (l.length : Int) := by omega
        have hlb : decide ((j : Int) < (l.length : Int)) = false := decide_eq_false hlt'
        clear hlt
        have hr0 := HR0.out.kept HKw.out (by show ¬ z + 2 ≤ z + 1; omega)
        obtain ⟨r0, r1, r2, r3, r4, r5, rw1⟩ := HRc.out
        obtain ⟨q0, q1, q2, q3, q4, q5, qw⟩ := hr0
        go_wp2_with fail
        have hes := HEs.out
        have hl3 := HL.out
        have hz1 := HZ.out
        have hz2 := HZ0.out
        have hz3 := HZw.out
        have hkz : Kp (fun b => b = z + 1) wr (putR wr (z + 1) (.int .i64 K) (.int .u64 (wd f 0 64 : Nat)) (.int .u64 (wd f 64 64 : Nat)) (.int .u64 (wd f 128 64 : Nat)) (.int .u64 (wd f 192 64 : Nat)) (.slice kv j kc)) := kp_putR (q := z + 1) (Kp.refl (fun b => b = z + 1) wr) (fun _ => rfl) _ _ _ _ _ _
        have hkf : Kp No w (putR wr (z + 1) (.int .i64 K) (.int .u64 (wd f 0 64 : Nat)) (.int .u64 (wd f 64 64 : Nat)) (.int .u64 (wd f 128 64 : Nat)) (.int .u64 (wd f 192 64 : Nat)) (.slice kv j kc)) :=
          (HK0.out.trans HKw.out (T := fun b => z + 2 ≤ b) fun i hi e => by have e : z + 2 ≤ i := e; omega).trans hkz (T := fun b => b = z + 1) fun i hi e => by have e : i = z + 1 := e; omega
        obtain ⟨a9, c9, e9, hv9⟩ := hl3.tree K f
        rw [hes] at e9 hv9
        injection e9 with e91 e92 e93
        subst e91 e93
        refine bodyPost_ret (v := .agg (cellsR K f kv j kc)) ?_ rfl ?_
        · simp [results, Try.results25, go_sem, q0, q1, q2, q3, q4, q5]
        · refine ⟨K, f, kv, j, kc, _, rfl, ReV.wider (fun b hb _ => by have hb : z + 3 ≤ b := hb; omega) _ _ (ReV.kept hkz (fun b hb _ => by have hb : z + 3 ≤ b := hb; show ¬ b = z + 1; omega) _ _ hv9), hkf, ?_⟩
          have h8 := sets_kids K f _ _ HSl.out
          have h9 := nodesL_take l j
          rw [TT.nodes]
          omega

end Go.Proofs.Ytaneblecgjahbab.ere
