/- Package nfa: All: the row of the longest ones, gone through from its end. Package nfa: New: what Parse tells, and the machine of its tree. Package nfa: what every law of tailracelaw10 begins with. Package ere: a list of trees in a block of its own. -/
import Derived.Maps.AppendAt
import Derived.Maps.OwnIn
import Derived.Test.YtaneblecgjahbabNfaLongestM
import Derived.Test.YtaneblecgjahbabNfaLay2M
import Derived.Test.YtaneblecgjahbabRefSameM
import Derived.Test.YtaneblecgjahbabNfaOkM
import Derived.Test.YtaneblecgjahbabEreCount2M
import Derived.Test.YtaneblecgjahbabEreQuoteM

namespace Go.Proofs.Ytaneblecgjahbab.nfa
open Go.RowKit Go.Shelf Go.Proofs.Ytaneblecgjahbab.sum Go.Proofs.Ytaneblecgjahbab.kept Go.Proofs.Ytaneblecgjahbab.pop Go.Proofs.Ytaneblecgjahbab.cls Go.Proofs.Ytaneblecgjahbab.tre Go.Proofs.Ytaneblecgjahbab.ere Go.Proofs.Ytaneblecgjahbab.fl Go.Proofs.Ytaneblecgjahbab.mrk Go.Proofs.Ytaneblecgjahbab.spl
set_option linter.unusedVariables false
attribute [local go_sem] Oper.semAt_some

theorem run_store_float' {P : Program} {w : World} {a : Addr} {m : Mode} (k : FloatKind) (b : Nat) : (store a (.float k b) m).run P w = stored P w a (.float k b) m := run_store P w a _ m rfl
attribute [local go_sem] run_store_float'
theorem small_eq {a b : Int} (ha : Small a) (hb : Small b) : (FloatKind.f64.format.order (fl a) (fl b) == some .eq) = decide (a = b) := fl_eql a b ha hb
theorem small_gt {a b : Int} (ha : Small a) (hb : Small b) : (FloatKind.f64.format.order (fl a) (fl b) == some .gt) = decide (b < a) := by
  show (Ieee.double.order (fl a) (fl b) == some .gt) = _
  rw [fl_order a b ha hb]
  rcases Int.lt_trichotomy a b with h | h | h
  · simp [compare, compareOfLessAndEq, h, show ¬ b < a by omega]
  · subst h; simp [compare, compareOfLessAndEq]
  · simp [compare, compareOfLessAndEq, h, show ¬ a < b by omega, show a ≠ b by omega]
theorem small_of {a : Int} (h1 : -1 ≤ a) (h2 : a ≤ 1000000000) : Small a := by
  unfold Small
  have : (2 : Nat) ^ 53 = 9007199254740992 := by decide
  omega
theorem fl_less : fl (-1) = 13830554455654793216 := by decide +kernel
/-- those that count: they begin behind the last one's end, or just there and are not empty -/
def allStep (s : List (Nat × Nat) × Int) (x : Nat × Nat) : List (Nat × Nat) × Int := if s.2 < (x.1 : Int) ∨ ((x.1 : Int) = s.2 ∧ s.2 < (x.2 : Int)) then (s.1 ++ [x], (x.2 : Int)) else s
def allS (l : List (Nat × Nat)) : List (Nat × Nat) × Int := l.foldl allStep ([], -1)
theorem allS_snoc (l : List (Nat × Nat)) (x : Nat × Nat) : allS (l ++ [x]) = allStep (allS l) x := by simp [allS]
theorem allS_len (l : List (Nat × Nat)) : (allS l).1.length ≤ l.length := by
  have h : ∀ (l : List (Nat × Nat)) (s : List (Nat × Nat) × Int), (l.foldl allStep s).1.length ≤ s.1.length + l.length := by
    intro l
    induction l with
    | nil => intro s; simp
    | cons x xs ih =>
      intro s
      rw [List.foldl_cons]
      refine Nat.le_trans (ih _) ?_
      unfold allStep
      split <;> simp <;> omega
  have h2 := h l ([], -1)
  simp only [List.length_nil, Nat.zero_add] at h2
  exact h2
theorem allS_bd (B : Nat) (l : List (Nat × Nat)) (h : ∀ x ∈ l, x.2 ≤ B) : -1 ≤ (allS l).2 ∧ (allS l).2 ≤ (B : Int) := by
  have h2 : ∀ (l : List (Nat × Nat)) (s : List (Nat × Nat) × Int), (∀ x ∈ l, x.2 ≤ B) → -1 ≤ s.2 ∧ s.2 ≤ (B : Int) → -1 ≤ (l.foldl allStep s).2 ∧ (l.foldl allStep s).2 ≤ (B : Int) := by
    intro l
    induction l with
    | nil => intro s _ hs; exact hs
    | cons x xs ih =>
      intro s hx hs
      rw [List.foldl_cons]
      refine ih _ (fun y hy => hx y (by simp [hy])) ?_
      unfold allStep
      have := hx x (by simp)
      split
      · exact ⟨by show (-1 : Int) ≤ (x.2 : Int); omega, by show (x.2 : Int) ≤ (B : Int); omega⟩
      · exact hs
  exact h2 l _ h ⟨by show (-1 : Int) ≤ -1; omega, by show (-1 : Int) ≤ (B : Int); omega⟩
theorem keeps_row {W w1 : World} {base : Nat} {e : TypeId} {size : Nat} {v : Value} {k : Nat} {xs : List Value} {tmp : Obj} (hrow : W.ownsRow base e size v k xs) (hg : (W.alloc tmp).grownBy w1 v.ownBlock) : KeepsOthers W w1 := by
  refine (KeepsOthers.alloc W tmp).trans (KeepsOthers.of_grownBy hg ?_)
  intro j o e ho
  rcases hrow.2 with ⟨rfl, _⟩ | ⟨g, cap, cur, rfl, _, hgb, _⟩
  · cases e
  · have e : some g = some j := e
    cases e
    rw [Lib.alloc_old W _ _ (Array.getElem?_eq_some_iff.1 hgb).1, hgb] at ho
    cases ho
    rfl

theorem cx_get (l : List (Nat × Nat)) (j : Nat) (hj : j < l.length) : (l.flatMap cxC)[j]? = some (.complex .f64 (fl ((l[j]?.getD (0, 0)).1 : Int)) (fl ((l[j]?.getD (0, 0)).2 : Int))) := by
  induction l generalizing j with
  | nil => cases hj
  | cons x xs ih =>
    cases j with
    | zero => rfl
    | succ j =>
      simp only [List.length_cons] at hj
      have h := ih j (by omega)
      simpa [List.flatMap_cons, cxC] using h
theorem cxs_of {W : World} {a : Option Addr} {n c : Nat} {l : List (Nat × Nat)} (h : CRw W (.slice a n c) l) (d : Nat) : ∃ b, Cxs b W (.slice a n c) l ∧ (b = d ∨ (Value.slice a n c).ownBlock = some b) := by
  rcases h.2 with ⟨e, e2⟩ | ⟨g, cap, cur, e, h1, h2, h3, h4, h5, h6⟩
  · exact ⟨d, .inl ⟨e, List.eq_nil_of_length_eq_zero e2⟩, .inl rfl⟩
  · refine ⟨g, .inr ⟨0, cap, e, fun j hj => ?_⟩, .inr (by rw [e]; rfl)⟩
    rw [Nat.zero_add]
    exact own_cell h (by rw [e]; rfl) j (cx_get l j hj)
/-- what counts so far -/
def qS (pre : List Sm) : List (Nat × Nat) × Int := allS (pre.map fun x => x.1.2)
theorem qS_snoc (pre : List Sm) (x : Sm) : qS (pre ++ [x]) = allStep (qS pre) x.1.2 := by simp [qS, allS_snoc]
theorem qS_len (pre : List Sm) : (qS pre).1.length ≤ pre.length := by have h := allS_len (pre.map fun x => x.1.2); rw [List.length_map] at h; exact h
theorem qS_bd (pre : List Sm) : -1 ≤ (qS pre).2 ∧ (qS pre).2 ≤ 1000000000 := allS_bd 1000000000 _ (by
  intro x hx
  obtain ⟨y, -, rfl⟩ := List.mem_map.1 hx
  exact y.2.2)
/-- between two rounds -/
def AlI (w : World) (z n₁ : Nat) (pre : List Sm) (W : World) : Prop :=
  ((∃ v, Boxed W z 79 v ∧ W.ownsRow n₁ 82 1 v (qS pre).1.length ((qS pre).1.flatMap cxC) ∧ True) ∧ Boxed W (z + 1) 97 (.float .f64 (fl (qS pre).2))) ∧ Kp No w W ∧ n₁ ≤ W.heap.size
theorem AlI.own {w : World} {z n₁ : Nat} (h1 : w.heap.size ≤ n₁) : OwnFrom n₁ (AlI w z n₁) := by
  rintro pre A B row ⟨⟨hr, hb⟩, hk, hn⟩ hg hrow
  have hrow2 : ∀ r, row = some r → ∃ o : Obj, A.heap[r]? = some o ∧ o.isCells = false := fun r e => (hrow r e).2
  refine ⟨⟨holdsRow_own n₁ z _ _ 1 (fun pre : List Sm => (qS pre).1.length) (fun pre => (qS pre).1.flatMap cxC) (fun _ _ => True) pre A B row hr hg hrow2, hb.kept hg ?_⟩, hk.grown hg fun k hk2 e => ?_, Nat.le_trans hn hg.size⟩
  · intro e
    obtain ⟨o, ho, hc⟩ := hrow2 _ e.symm
    rw [show A.heap[z + 1]? = _ from hb] at ho; cases ho; cases hc
  · have := (hrow k e).1
    omega

theorem lo_len (o : Over) : ∀ (f : Nat) (t : Wst) (l : List (Nat × Nat)), (loRun o f t l).length ≤ l.length + f
  | 0, t, l => Nat.le_refl _
  | f + 1, t, l => by
    rw [loRun]
    split
    · split
      · omega
      · simp
    · refine Nat.le_trans (lo_len o f _ _) ?_
      split
      · omega
      · simp; omega
theorem lo_bd (o : Over) : ∀ (f : Nat) (t : Wst) (l : List (Nat × Nat)), BdW o.s.size t → t.pl ≤ o.s.size → (∀ x ∈ l, x.1 ≤ o.s.size ∧ x.2 ≤ o.s.size) → ∀ x ∈ loRun o f t l, x.1 ≤ o.s.size ∧ x.2 ≤ o.s.size
  | 0, t, l, h1, h2, h3 => h3
  | f + 1, t, l, h1, h2, h3 => by
    have hb := beg_bd (o := o) h2 h1
    have hp : (begS o t).pl ≤ o.s.size := by rw [beg_pl]; exact h2
    have hl : ∀ x ∈ (if (begS o t).en = -1 then l else l ++ [((begS o t).pl, (begS o t).en.toNat)]), x.1 ≤ o.s.size ∧ x.2 ≤ o.s.size := by
      split
      · exact h3
      · intro x hx
        rcases List.mem_append.1 hx with hx | hx
        · exact h3 x hx
        · simp only [List.mem_singleton] at hx
          rw [hx]
          exact ⟨hp, by have := hb.2.2; show (begS o t).en.toNat ≤ _; omega⟩
    rw [loRun]
    cases hat : atS o (begS o t) with
    | none => exact hl
    | some y =>
      obtain ⟨a, p⟩ := y
      refine lo_bd o f _ _ (step_bd hb) ?_ hl
      rw [step_pl]
      exact (at_lt hp hat).2

set_option maxRecDepth 100000 in
set_option maxHeartbeats 4000000 in
theorem all_any (w : World) (mb gp cp : Nat) (r : Nat × List Part) (s : ByteArray) (h : PgRd w mb 3 r true gp cp) (hok : okP r.2) (hst : r.1 < r.2.length) (hpl : r.2.length ≤ 1000000) (hs : s.size ≤ 1000000000) :
    Calls Try.prog 36 #[.pointer (some ⟨mb, 0, none⟩), .string s] w (LoPost w (allS (loRun (oS r true s) (s.size + 1) (newS (oS r true s) s.size) []).reverse).1) := by
  obtain ⟨R, hR⟩ : ∃ R, loRun (oS r true s) (s.size + 1) (newS (oS r true s) s.size) [] = R := ⟨_, rfl⟩
  have hbd : ∀ x ∈ R, x.1 ≤ s.size ∧ x.2 ≤ s.size := by rw [← hR]; exact lo_bd (oS r true s) _ _ _ (new_bd _ _ _) (Nat.le_refl _) (fun x hx => (by cases hx))
  have hlen : R.length ≤ s.size + 1 := by rw [← hR]; have := lo_len (oS r true s) (s.size + 1) (newS (oS r true s) s.size) []; simpa using this
  rw [hR]
  refine (callsIn_wide (n := 3)).1 ?_
  have HL := Hid_mk (fun V (hk : Kp No w V) => (hR ▸ longest_any V mb gp cp r s (h.kept hk id id) hok hst hpl hs : Calls Try.prog 57 #[.pointer (some ⟨mb, 0, none⟩), .string s] V (LoPost V R)))
  clear h hok hst hR hpl
  refine callsIn_of_wp_marks Try.func36 rfl trivial ?_ rfl
  simp only [Try.ntmps36, List.size_toArray, List.length_cons, List.length_nil, Nat.reduceAdd, Nat.reduceSub, Array.replicate_succ, Array.replicate_zero, List.push_toArray, List.append_toArray, List.nil_append, List.cons_append]
  have bE0 := Boxed.new (w.alloc (.cells #[.slice none 0 0] 79)) 97 (.float .f64 0)
  have bA2 := (Boxed.new w 79 (.slice none 0 0)).alloc (.cells #[.float .f64 13830554455654793216] 97)
  have bE1 := Boxed.new (w.alloc (.cells #[.slice none 0 0] 79)) 97 (.float .f64 13830554455654793216)
  rw [World.size_alloc] at bE0 bE1
  have c1 := bE0.cell
  have c2 := bE0.frozen
  have hk2 : Kp No w ((w.alloc (.cells #[.slice none 0 0] 79)).alloc (.cells #[.float .f64 13830554455654793216] 97)) := ((Kp.refl No w).alloc _).alloc _
  have hs2 : ((w.alloc (.cells #[.slice none 0 0] 79)).alloc (.cells #[.float .f64 13830554455654793216] 97)).heap.size = w.heap.size + 2 := by simp
  have HBA := Hid_mk bA2
  have HBE := Hid_mk bE1
  have HK2 := Hid_mk hk2
  have HS2 := Hid_mk hs2
  clear bE0 bE1 bA2 hk2 hs2
  gi_wp2_with (refine ⟨trivial, ?_⟩; gi_at_call 57; refine (callsIn_wide.2 (HL.out _ HK2.out)).mono ?_; rintro e w3 ⟨v, rfl, hv, hk3, ho3⟩; obtain ⟨a, c, rfl, hc1, hc2⟩ := row_lit hv)
  have hb3 : ∀ i, i < w.heap.size + 2 → w3.heap[i]? = ((w.alloc (.cells #[.slice none 0 0] 79)).alloc (.cells #[.float .f64 13830554455654793216] 97)).heap[i]? := fun i hi => hk3.block i (by rw [HS2.out]; exact hi) id
  have hs3 : w.heap.size + 2 ≤ w3.heap.size := by have := hk3.size; rw [HS2.out] at this; exact this
  have bA3 : Boxed w3 w.heap.size 79 (.slice none 0 0) := (hb3 _ (by omega)).trans HBA.out
  have bE3 : Boxed w3 (w.heap.size + 1) 97 (.float .f64 13830554455654793216) := (hb3 _ (by omega)).trans HBE.out
  have hkw3 := HK2.out.trans' hk3
  refine ⟨trivial, ?_⟩
  refine (backward_in Fence.wide 2 trivial rfl _ _ _ _).mono ?_
  rintro e w4 ⟨rfl, rfl⟩
  obtain ⟨n₁, hn₁⟩ : ∃ n₁, (w3.alloc (.cells #[.slice a R.length c] 79)).heap.size = n₁ := ⟨_, rfl⟩
  have hn1' : w3.heap.size + 1 = n₁ := by rw [← hn₁]; simp
  have hkr : Kp No w3 (w3.alloc (.cells #[.slice a R.length c] 79)) := (Kp.refl No w3).alloc _
  have hv4 : CRw (w3.alloc (.cells #[.slice a R.length c] 79)) (.slice a R.length c) R := owns_kept hv hkr fun k _ e => e
  have bN := Boxed.new w3 79 (.slice a R.length c)
  obtain ⟨b, hcx, hbb⟩ := cxs_of hv4 w3.heap.size
  have hb1 : b < n₁ ∧ w.heap.size + 2 ≤ b := by
    rcases hbb with rfl | e
    · omega
    · have h1 := (hv.lt b e).2
      have h2 := ho3 b e
      rw [HS2.out] at h2
      omega
  have HI0 := Hid_mk (show AlI w w.heap.size n₁ [] (w3.alloc (.cells #[.slice a R.length c] 79)) from ⟨⟨⟨_, bA3.alloc _, World.ownsRow_nil _ _ _ _, trivial⟩, by have h := bE3.alloc (.cells #[.slice a R.length c] 79); rw [← fl_less] at h; exact h⟩, hkw3.trans' hkr, by rw [hn₁]; exact Nat.le_refl _⟩)
  obtain ⟨i0, hi, hz0, hz1, hz2⟩ := info_parts infoCx
  have hsz3 : w3.heap.size < (w3.alloc (.cells #[.slice a R.length c] 79)).heap.size := by simp
  have hbd2 : ∀ x ∈ R, x.1 ≤ 1000000000 ∧ x.2 ≤ 1000000000 := fun x hx => by have := hbd x hx; omega
  gi_wp2
  refine wpIn_rangeFunc_ownG rfl (by omega) (gf := 79) (lb := #[.pointer (some ⟨w3.heap.size, 0, none⟩)]) rfl trivial (enters_of Try.func79 (by kernel_rfl) rfl)
    (back_stops Fence.wide 2 trivial rfl (by omega) w3.heap.size b _ R hbd2 (by omega) _ hsz3 (by rw [hn₁]; exact hb1.1) bN.cell hcx) Kp.trans' ?kb (Below.refl _ _) (fun _ => rfl)
    (AlI w w.heap.size n₁) (fun _ _ _ => False) (by rw [hn₁]; exact AlI.own (by omega)) (fun _ _ _ _ _ hs _ _ => hs) HI0.out
    (fun x => { tmps := #[.pointer (some ⟨mb, 0, none⟩), .string s, undef, undef, .slice none 0 0, .pointer (some ⟨w.heap.size, 0, none⟩), .pointer (some ⟨w.heap.size + 1, 0, none⟩), undef, .complex .f64 (fl (x.1.2.1 : Int)) (fl (x.1.2.2 : Int)), .pointer (some ⟨mb, 0, none⟩), .string s, .slice a R.length c, .func (.func 79) #[] #[.pointer (some ⟨w3.heap.size, 0, none⟩)], .int .i64 (x.1.1 : Int), .complex .f64 (fl (x.1.2.1 : Int)) (fl (x.1.2.2 : Int)), undef, undef, undef, undef, undef, undef, undef, undef, undef, undef, undef, undef, undef, undef, undef, undef, undef, undef, undef, undef, undef, undef, undef], defers := [] }) ?assign ?body ?done ?stop
  case kb =>
    rintro W l o o' hl ho - -
    rw [hn₁] at hl
    exact (Kp.refl _ W).grown (grownBy_putObj' W l o') fun k _ e => by cases e; exact ⟨by omega, by omega⟩
  case assign =>
    intro l x W K hK
    gi_wp2
    exact hK
  case body =>
    rintro l pre x W ⟨⟨⟨v, bA, hrow, -⟩, bE⟩, hkw, hn⟩ hpre
    have hx1 := small_of (a := ((x.1.2.1 : Nat) : Int)) (by omega) (by have := x.2.1; omega)
    have hx2 := small_of (a := ((x.1.2.2 : Nat) : Int)) (by omega) (by have := x.2.2; omega)
    have hen := small_of (qS_bd pre).1 (qS_bd pre).2
    have g1 := small_gt hx1 hen
    have g2 := small_eq hx1 hen
    have g3 := small_gt hx2 hen
    have hst := qS_snoc pre x
    unfold allStep at hst
    have cA := bA.cell
    have fA := bA.frozen
    have cE := bE.cell
    have fE := bE.frozen
    by_cases hc : (qS pre).2 < ((x.1.2.1 : Nat) : Int) ∨ (((x.1.2.1 : Nat) : Int) = (qS pre).2 ∧ (qS pre).2 < ((x.1.2.2 : Nat) : Int))
    · rw [if_pos hc] at hst
      have hf : ∀ (w1 : World) (g' cap' : Nat), w1.ownsRow n₁ 82 1 (.slice (some ⟨g', 0, none⟩) ((qS pre).1.length + 1) cap') ((qS pre).1.length + 1) ((qS pre).1.flatMap cxC ++ [.complex .f64 (fl ((x.1.2.1 : Nat) : Int)) (fl ((x.1.2.2 : Nat) : Int))]) → (W.alloc (.cells #[.complex .f64 (fl ((x.1.2.1 : Nat) : Int)) (fl ((x.1.2.2 : Nat) : Int))] 82)).grownBy w1 v.ownBlock →
          w1.cell? ⟨w.heap.size, 0, none⟩ = some v ∧ w1.frozen? ⟨w.heap.size, 0, none⟩ = false ∧ (w1.setCell ⟨w.heap.size, 0, none⟩ (.slice (some ⟨g', 0, none⟩) ((qS pre).1.length + 1) cap')).cell? ⟨w.heap.size + 1, 0, none⟩ = some (.float .f64 (fl (qS pre).2)) ∧ (w1.setCell ⟨w.heap.size, 0, none⟩ (.slice (some ⟨g', 0, none⟩) ((qS pre).1.length + 1) cap')).frozen? ⟨w.heap.size + 1, 0, none⟩ = false ∧
          (KeepsFrom n₁ W ((w1.setCell ⟨w.heap.size, 0, none⟩ (.slice (some ⟨g', 0, none⟩) ((qS pre).1.length + 1) cap')).setCell ⟨w.heap.size + 1, 0, none⟩ (.float .f64 (fl ((x.1.2.2 : Nat) : Int)))) ∧ KpB w3.heap.size b W ((w1.setCell ⟨w.heap.size, 0, none⟩ (.slice (some ⟨g', 0, none⟩) ((qS pre).1.length + 1) cap')).setCell ⟨w.heap.size + 1, 0, none⟩ (.float .f64 (fl ((x.1.2.2 : Nat) : Int)))) ∧ AlI w w.heap.size n₁ (pre ++ [x]) ((w1.setCell ⟨w.heap.size, 0, none⟩ (.slice (some ⟨g', 0, none⟩) ((qS pre).1.length + 1) cap')).setCell ⟨w.heap.size + 1, 0, none⟩ (.float .f64 (fl ((x.1.2.2 : Nat) : Int))))) := by
        intro w1 g' cap' hown' hgrow
        have hlt := hrow.lt
        have bA1 := (bA.alloc _).kept hgrow (fun e => by have := (hlt _ e.symm).1; omega)
        have bE1 := (bE.alloc _).kept hgrow (fun e => by have := (hlt _ e.symm).1; omega)
        have bE2 := bE1.other (B' := w.heap.size) (by omega) (.slice (some ⟨g', 0, none⟩) ((qS pre).1.length + 1) cap')
        have bA3' := (bA1.set (.slice (some ⟨g', 0, none⟩) ((qS pre).1.length + 1) cap')).other (B' := w.heap.size + 1) (by omega) (.float .f64 (fl ((x.1.2.2 : Nat) : Int)))
        have bE3' := bE2.set (.float .f64 (fl ((x.1.2.2 : Nat) : Int)))
        have hkS : Kp (fun i => i < n₁) w1 ((w1.setCell ⟨w.heap.size, 0, none⟩ (.slice (some ⟨g', 0, none⟩) ((qS pre).1.length + 1) cap')).setCell ⟨w.heap.size + 1, 0, none⟩ (.float .f64 (fl ((x.1.2.2 : Nat) : Int)))) := ((Kp.refl _ w1).setCell (fun _ => by show w.heap.size < n₁; omega) _).setCell (fun _ => by show w.heap.size + 1 < n₁; omega) _
        have hrow' := owns_kept hown' hkS (fun k e s => by have := (hown'.lt k e).1; have s : k < n₁ := s; omega)
        have hsz := hgrow.size
        simp only [World.size_alloc] at hsz
        refine ⟨bA1.cell, bA1.frozen, bE2.cell, bE2.frozen, (((keeps_row hrow hgrow).trans (KeepsOthers.setCell _ _ _)).trans (KeepsOthers.setCell _ _ _)).from _, ?_, ⟨⟨_, bA3', ?_, trivial⟩, by rw [hst]; exact bE3'⟩, ?_, by simp; omega⟩
        · exact ((((Kp.refl _ W).alloc _).grown hgrow (fun k _ e => by have := (hlt k e).1; exact ⟨by omega, by omega⟩)).setCell (fun _ => ⟨by show w.heap.size ≠ _; omega, by show w.heap.size ≠ _; omega⟩) _).setCell (fun _ => ⟨by show w.heap.size + 1 ≠ _; omega, by show w.heap.size + 1 ≠ _; omega⟩) _
        · rw [hst]
          simpa [cxC, C] using hrow'
        · exact (((hkw.alloc _).grown hgrow (fun k hk2 e => by have := (hlt k e).1; omega)).setCell (fun h => by have h : w.heap.size < w.heap.size := h; omega) _).setCell (fun h => by have h : w.heap.size + 1 < w.heap.size := h; omega) _
      have HF := Hid_mk hf
      have hql := qS_len pre
      clear hf hst
      by_cases hgt : (qS pre).2 < ((x.1.2.1 : Nat) : Int)
      · rw [decide_eq_true hgt] at g1
        clear hx1 hx2 hen hgt hc g2 g3
        gi_wp2_with (gi_at_builtin; refine wpListIn_append_own _ rfl _ _ 79 rfl n₁ 82 i0 _ 1 16 Try.underlying79 hi hz0 hz1 hz2 rfl (by decide) _ _ _ rfl (hrow.alloc _) ⟨W.heap.size, 0, none⟩ 1 1 [.complex .f64 (fl ((x.1.2.1 : Nat) : Int)) (fl ((x.1.2.2 : Nat) : Int))] rfl rfl (cell_one_new _ _ _) (by simp [Value.oneCell']) (by unfold maxLen; omega) (by omega) (by simp; omega) ?_; intro v' w1 hown' hgrow _; obtain ⟨g', cap', rfl⟩ := ownsRow_succ hown'; obtain ⟨c5, f5, c6, f6, hfin⟩ := HF.out _ _ _ hown' hgrow)
        any_goals (exact absurd ‹some undef = some (Value.bool _)› (by intro h; cases h))
        all_goals
          rw [hn₁]
          exact hfin
      · have hc2 := hc.resolve_left hgt
        rw [decide_eq_false hgt] at g1
        rw [decide_eq_true hc2.1] at g2
        rw [decide_eq_true hc2.2] at g3
        clear hx1 hx2 hen hgt hc hc2
        gi_wp2_with (gi_at_builtin; refine wpListIn_append_own _ rfl _ _ 79 rfl n₁ 82 i0 _ 1 16 Try.underlying79 hi hz0 hz1 hz2 rfl (by decide) _ _ _ rfl (hrow.alloc _) ⟨W.heap.size, 0, none⟩ 1 1 [.complex .f64 (fl ((x.1.2.1 : Nat) : Int)) (fl ((x.1.2.2 : Nat) : Int))] rfl rfl (cell_one_new _ _ _) (by simp [Value.oneCell']) (by unfold maxLen; omega) (by omega) (by simp; omega) ?_; intro v' w1 hown' hgrow _; obtain ⟨g', cap', rfl⟩ := ownsRow_succ hown'; obtain ⟨c5, f5, c6, f6, hfin⟩ := HF.out _ _ _ hown' hgrow)
        rw [hn₁]
        exact hfin
    · rw [if_neg hc] at hst
      have d1 : decide ((qS pre).2 < ((x.1.2.1 : Nat) : Int)) = false := decide_eq_false fun h => hc (.inl h)
      rw [d1] at g1
      by_cases he : ((x.1.2.1 : Nat) : Int) = (qS pre).2
      · have d3 : decide ((qS pre).2 < ((x.1.2.2 : Nat) : Int)) = false := decide_eq_false fun h => hc (.inr ⟨he, h⟩)
        rw [d3] at g3
        rw [decide_eq_true he] at g2
        clear hx1 hx2 hen d1 d3 he hc
        gi_wp2
        exact ⟨KeepsFrom.refl _ _, Kp.refl _ _, ⟨⟨v, bA, by rw [hst]; exact hrow, trivial⟩, by rw [hst]; exact bE⟩, hkw, hn⟩
      · rw [decide_eq_false he] at g2
        clear hx1 hx2 hen d1 he hc
        gi_wp2
        exact ⟨KeepsFrom.refl _ _, Kp.refl _ _, ⟨⟨v, bA, by rw [hst]; exact hrow, trivial⟩, by rw [hst]; exact bE⟩, hkw, hn⟩
  case done =>
    rintro D ys W hD hS ⟨⟨⟨v, bA, hrow, -⟩, bE⟩, hkw, hn⟩ hK
    have cA := bA.cell
    gi_wp2
    refine ⟨by simp, .inl ⟨_, _, rfl, run_takeDeferred hK, ?_⟩⟩
    rw [hn₁] at hD
    have hq : (qS ys).1 = (allS R.reverse).1 := by rw [qS, hS, bw_all]
    rw [hq] at hrow
    have hrow2 := Go.ownsRow_putObj hrow (Obj.deferred none) hK rfl
    exact ⟨_, results_tmp rfl _ _ _, v, rfl, ⟨hrow2.1, hrow2.2.imp id fun ⟨g, cap, cur, e1, _, e2⟩ => ⟨g, cap, cur, e1, Nat.zero_le _, e2⟩⟩, hkw.grown (grownBy_putObj' W D _) (fun k hk2 e => by cases e; omega), fun i e => by have := (hrow.lt i e).1; omega⟩
  case stop =>
    rintro D c pre W _ _ h _
    exact h.elim

end Go.Proofs.Ytaneblecgjahbab.nfa

namespace Go.Proofs.Ytaneblecgjahbab.nfa
open Go.RowKit Go.Proofs.Ytaneblecgjahbab.sum Go.Proofs.Ytaneblecgjahbab.kept Go.Proofs.Ytaneblecgjahbab.pop Go.Proofs.Ytaneblecgjahbab.cls Go.Proofs.Ytaneblecgjahbab.tre Go.Proofs.Ytaneblecgjahbab.ere
set_option linter.unusedVariables false

/-- what Parse leaves -/
def PaPost (w : World) (x : Tr × Nat × Nat) (e : Ending) (w' : World) : Prop := ∃ k f a n c, e = .returned (.tuple #[.agg (cellsR k f a n c), .int .i64 (x.2.1 : Int), .int .i64 (x.2.2 : Int)]) ∧ ReV All w' x.1 (.agg (cellsR k f a n c)) ∧ Kp No w w'
theorem PaPost.is {w : World} {x : Tr × Nat × Nat} {e : Ending} {w' : World} (h : PaPost w x e w') : ∃ k f a n c, e = .returned (.tuple #[.agg #[.int .i64 k, .int .u64 (wd f 0 64 : Nat), .int .u64 (wd f 64 64 : Nat), .int .u64 (wd f 128 64 : Nat), .int .u64 (wd f 192 64 : Nat), .slice a n c], .int .i64 (x.2.1 : Int), .int .i64 (x.2.2 : Int)]) ∧ ReV All w' x.1 (.agg (cellsR k f a n c)) ∧ Kp No w w' := h
/-- behind New -/
def NmPost (w : World) (x : Tr × Nat × Nat) (e : Ending) (w' : World) : Prop :=
  Kp No w w' ∧ ((x.2.2 ≠ 0 ∧ e = .returned (.tuple #[.pointer none, .int .i64 (x.2.1 : Int), .int .i64 (x.2.2 : Int)])) ∨ (x.2.2 = 0 ∧ rightS x.1 = true ∧ ∃ mb, e = .returned (.tuple #[.pointer (some ⟨mb, 0, none⟩), .int .i64 0, .int .i64 0]) ∧ MAt w' mb x.1 ∧ w.heap.size ≤ mb) ∨ (x.2.2 = 0 ∧ rightS x.1 = false ∧ e = .returned (.tuple #[.pointer none, .int .i64 0, .int .i64 1])))

set_option maxRecDepth 100000 in
set_option maxHeartbeats 8000000 in
theorem newM_any (w : World) (s : ByteArray) (x : Tr × Nat × Nat) (h : Calls Try.prog 21 #[.string s] w (PaPost w x)) :
    Calls Try.prog 16 #[.string s] w (NmPost w x) := by
  have HP := Hid_mk h
  clear h
  go_enter Try.func16, Try.ntmps16
  go_wp2_with fail
  with_reducible refine HP.out.mono ?_
  intro e w1 hp
  rcases hp.is with ⟨k, f, a, n, c, rfl, hv, hk⟩
  have HV := Hid_mk hv
  have HK := Hid_mk hk
  clear hv hk hp HP
  go_upto_region 2 with fail
  obtain ⟨b1, hb1⟩ : ∃ b, w1.heap.size = b := ⟨_, rfl⟩
  rw [hb1]
  refine wp_name (fun W => Kp No w1 W ∧ RAt W b1 (.int .i64 k) (.int .u64 (wd f 0 64 : Nat)) (.int .u64 (wd f 64 64 : Nat)) (.int .u64 (wd f 128 64 : Nat)) (.int .u64 (wd f 192 64 : Nat)) (.slice a n c)) ⟨(Kp.refl No w1).alloc _, by rw [← hb1]; exact RAt.new _ _ _ _ _ _ _ _⟩ ?_
  clear hb1
  rintro W1 ⟨hk1, hr1⟩
  have HK1 := Hid_mk (HK.out.trans' hk1)
  have hc := compile_any W1 x.1 k f a n c (ReV.no hk1 _ _ HV.out)
  have HC := Hid_mk hc
  obtain ⟨x1, y, z⟩ := x
  obtain ⟨c0, c1, c2, c3, c4, c5, cw⟩ := hr1
  clear hk1 hc
  by_cases hz : z = 0
  · subst hz
    go_wp2_with fail
    with_reducible refine HC.out.mono ?_
    rintro e w2 ⟨hk2, ⟨hR, mb, rfl, hm, hmb⟩ | ⟨hR, rfl⟩⟩
    · have HK2 := Hid_mk (HK1.out.trans' hk2)
      have HM := Hid_mk hm
      have HR := Hid_mk hR
      have HMb := Hid_mk (Nat.le_trans HK1.out.size hmb)
      clear hk2 hm hR hmb c0 c1 c2 c3 c4 c5 cw
      go_wp2
      refine bodyPost_ret (results_tmp3 rfl _ _ _) rfl ?_
      exact ⟨HK2.out, .inr (.inl ⟨rfl, HR.out, mb, rfl, HM.out, HMb.out⟩)⟩
    · have HK2 := Hid_mk (HK1.out.trans' hk2)
      have HR := Hid_mk hR
      clear hk2 hR c0 c1 c2 c3 c4 c5 cw
      go_wp2
      refine bodyPost_ret (results_tmp3 rfl _ _ _) rfl ?_
      exact ⟨HK2.out, .inr (.inr ⟨rfl, HR.out, rfl⟩)⟩
  · have hne : ((z : Int) != 0) = true := by simpa using hz
    have HZ := Hid_mk hz
    clear hz c0 c1 c2 c3 c4 c5 cw
    go_wp2
    refine bodyPost_ret (results_tmp3 rfl _ _ _) rfl ?_
    exact ⟨HK1.out, .inl ⟨HZ.out, rfl⟩⟩

end Go.Proofs.Ytaneblecgjahbab.nfa

namespace Go.Proofs.Ytaneblecgjahbab.nfa
open Go.RowKit Go.Proofs.Ytaneblecgjahbab.sum Go.Proofs.Ytaneblecgjahbab.kept Go.Proofs.Ytaneblecgjahbab.pop Go.Proofs.Ytaneblecgjahbab.cls Go.Proofs.Ytaneblecgjahbab.tre Go.Proofs.Ytaneblecgjahbab.ere Go.Proofs.Ytaneblecgjahbab.fl Go.Proofs.Ytaneblecgjahbab.mrk Go.Proofs.Ytaneblecgjahbab.spl Go.Proofs.Ytaneblecgjahbab.str
set_option linter.unusedVariables false

def T1 : Tr := kid2 3 (setT (ofL [97])) (kid2 2 (setT (ofL [97])) (setT (ofL [98])))
def T2 : Tr := kid1 4 (setT (ofL [120]))
theorem p_t1 : parseS [97, 124, 97, 98] (fun _ => none) (8 * [97, 124, 97, 98].length + 8) = (T1, 0, 0) := by kernel_rfl
theorem p_t2 : parseS [120, 42] (fun _ => none) (8 * [120, 42].length + 8) = (T2, 0, 0) := by kernel_rfl
theorem r_t1 : rightS T1 = true := by kernel_rfl
theorem r_t2 : rightS T2 = true := by kernel_rfl
theorem fd_1 : fdRun (oS (progS T1 false) false ⟨#[120, 97, 98]⟩) ((⟨#[120, 97, 98]⟩ : ByteArray).size + 1) (newS (oS (progS T1 false) false ⟨#[120, 97, 98]⟩) 0) (0, 0) false = ((1, 3), true) := by kernel_rfl
theorem all_1 : (allS (loRun (oS (progS T2 true) true ⟨#[97, 120, 98]⟩) ((⟨#[97, 120, 98]⟩ : ByteArray).size + 1) (newS (oS (progS T2 true) true ⟨#[97, 120, 98]⟩) (⟨#[97, 120, 98]⟩ : ByteArray).size) []).reverse).1 = [(0, 0), (1, 2), (3, 3)] := by kernel_rfl
theorem is_1 : isRun (oS (progS T1 false) false ⟨#[120, 97]⟩) ((⟨#[120, 97]⟩ : ByteArray).size + 1) (newS (oS (progS T1 false) false ⟨#[120, 97]⟩) 0) = true := by kernel_rfl
theorem is_2 : isRun (oS (progS T1 false) false ⟨#[120, 98]⟩) ((⟨#[120, 98]⟩ : ByteArray).size + 1) (newS (oS (progS T1 false) false ⟨#[120, 98]⟩) 0) = false := by kernel_rfl

/-- a machine's promises of its programs -/
theorem right_ok {t : Tr} (h : rightS t = true) (bk : Bool) : okP (progS t bk).2 ∧ (progS t bk).1 < (progS t bk).2.length ∧ (progS t bk).2.length ≤ 1000000 := by
  obtain ⟨a, b, c⟩ := prog_ok t bk
  unfold rightS at h
  simp only [Bool.and_eq_true, decide_eq_true_eq] at h
  have hsz := size_le t 40 h.1.1 h.1.2
  exact ⟨a, b, by omega⟩
/-- New of a text that is parsed to a right tree -/
def NoPost (w : World) (t : Tr) (e : Ending) (w' : World) : Prop := ∃ mb, e = .returned (.tuple #[.pointer (some ⟨mb, 0, none⟩), .int .i64 0, .int .i64 0]) ∧ MAt w' mb t ∧ Kp No w w' ∧ w.heap.size ≤ mb
theorem new_l (w : World) (l : List UInt8) (s : ByteArray) (hs : s = st l) (t : Tr) (hx : parseS l (fun _ => none) (8 * l.length + 8) = (t, 0, 0)) (hr : rightS t = true) (hl : l.length < 1000000000) (h1 : l.all (fun b => b.toNat != 123) = true) (h2 : l.all (fun b => b.toNat != 91) = true) :
    Calls Try.prog 16 #[.string s] w (NoPost w t) := by
  refine (newM_any w s (t, 0, 0) (parse_l w l s hs _ hx hl h1 h2)).mono ?_
  rintro e w' ⟨hk, ⟨h, -⟩ | ⟨-, -, mb, rfl, hm, hb⟩ | ⟨-, h, -⟩⟩
  · exact absurd rfl h
  · exact ⟨mb, rfl, hm, hk, hb⟩
  · rw [hr] at h; cases h
/-- New of a text that is refused -/
theorem new_no (w : World) (l : List UInt8) (s : ByteArray) (hs : s = st l) (t : Tr) (at' er : Nat) (her : er ≠ 0) (hx : parseS l (fun _ => none) (8 * l.length + 8) = (t, at', er)) (hl : l.length < 1000000000) (h1 : l.all (fun b => b.toNat != 123) = true) (h2 : l.all (fun b => b.toNat != 91) = true) :
    Calls Try.prog 16 #[.string s] w fun e w' => e = .returned (.tuple #[.pointer none, .int .i64 (at' : Int), .int .i64 (er : Int)]) ∧ Kp No w w' := by
  refine (newM_any w s (t, at', er) (parse_l w l s hs _ hx hl h1 h2)).mono ?_
  rintro e w' ⟨hk, ⟨h, rfl⟩ | ⟨h, -⟩ | ⟨h, -⟩⟩
  · exact ⟨rfl, hk⟩
  · exact absurd h her
  · exact absurd h her
theorem find_m (w : World) (mb : Nat) (t : Tr) (s : ByteArray) (fr : Nat) (h : MAt w mb t) (hr : rightS t = true) (hs : s.size ≤ 140737488355327) (hfr : fr ≤ s.size) :
    Calls Try.prog 18 #[.pointer (some ⟨mb, 0, none⟩), .string s, .int .i64 (fr : Int)] w (FdPost w (fdRun (oS (progS t false) false s) (s.size + 1) (newS (oS (progS t false) false s) fr) (0, 0) false)) := by
  obtain ⟨⟨g, c, h1⟩, -⟩ := h
  obtain ⟨a, b, d⟩ := right_ok hr false
  exact find_any w mb g c _ s fr h1 a b d hs hfr
theorem at_m (w : World) (mb : Nat) (t : Tr) (s : ByteArray) (fr : Nat) (h : MAt w mb t) (hr : rightS t = true) (hs : s.size ≤ 140737488355327) (hfr : fr ≤ s.size) :
    Calls Try.prog 15 #[.pointer (some ⟨mb, 0, none⟩), .string s, .int .i64 (fr : Int)] w (PbPost w (atRun (oS (progS t false) false s) (s.size + 1) (begS (oS (progS t false) false s) (newS (oS (progS t false) false s) fr)) (0, false))) := by
  obtain ⟨⟨g, c, h1⟩, -⟩ := h
  obtain ⟨a, b, d⟩ := right_ok hr false
  exact at_any w mb g c _ s fr h1 a b d hs hfr
theorem is_mt (w : World) (mb : Nat) (t : Tr) (s : ByteArray) (h : MAt w mb t) (hr : rightS t = true) (hs : s.size ≤ 140737488355327) :
    Calls Try.prog 37 #[.pointer (some ⟨mb, 0, none⟩), .string s] w (BoPost w (isRun (oS (progS t false) false s) (s.size + 1) (newS (oS (progS t false) false s) 0))) := by
  obtain ⟨⟨g, c, h1⟩, -⟩ := h
  obtain ⟨a, b, d⟩ := right_ok hr false
  exact is_any w mb g c _ s h1 a b d hs
theorem all_m (w : World) (mb : Nat) (t : Tr) (s : ByteArray) (h : MAt w mb t) (hr : rightS t = true) (hs : s.size ≤ 1000000000) :
    Calls Try.prog 36 #[.pointer (some ⟨mb, 0, none⟩), .string s] w (LoPost w (allS (loRun (oS (progS t true) true s) (s.size + 1) (newS (oS (progS t true) true s) s.size) []).reverse).1) := by
  obtain ⟨-, g, c, h1⟩ := h
  obtain ⟨a, b, d⟩ := right_ok hr true
  exact all_any w mb g c _ s h1 a b d hs

theorem fl_0 : fl ((0 : Nat) : Int) = 0 := by decide +kernel
theorem fl_1 : fl ((1 : Nat) : Int) = 4607182418800017408 := by decide +kernel
theorem fl_2 : fl ((2 : Nat) : Int) = 4611686018427387904 := by decide +kernel
theorem fl_3 : fl ((3 : Nat) : Int) = 4613937818241073152 := by decide +kernel
theorem o_0 : (FloatKind.f64.format.order 0 0 == some .eq) = true := by decide +kernel
theorem o_1 : (FloatKind.f64.format.order 4607182418800017408 4607182418800017408 == some .eq) = true := by decide +kernel
theorem o_2 : (FloatKind.f64.format.order 4611686018427387904 4611686018427387904 == some .eq) = true := by decide +kernel
theorem o_3 : (FloatKind.f64.format.order 4613937818241073152 4613937818241073152 == some .eq) = true := by decide +kernel

set_option maxRecDepth 100000 in
set_option maxHeartbeats 8000000 in
theorem known10_any (w : World) : Calls Try.prog 13 #[] w fun e w' => e = .returned (.bool true) ∧ Kp No w w' := by
  have HN1 := Hid_mk fun W => new_l W [97, 124, 97, 98] ⟨#[97, 124, 97, 98]⟩ rfl T1 p_t1 r_t1 (by decide) (by decide) (by decide)
  have HN2 := Hid_mk fun W => new_l W [120, 42] ⟨#[120, 42]⟩ rfl T2 p_t2 r_t2 (by decide) (by decide) (by decide)
  have HF := Hid_mk (show ∀ W mb, MAt W mb T1 → Calls Try.prog 18 #[.pointer (some ⟨mb, 0, none⟩), .string ⟨#[120, 97, 98]⟩, .int .i64 0] W fun e w' => e = .returned (.tuple #[.int .i64 1, .int .i64 3, .bool true]) ∧ Kp No W w' from fun W mb h => by have h := find_m W mb T1 ⟨#[120, 97, 98]⟩ 0 h r_t1 (by decide) (by decide); rw [fd_1] at h; exact h)
  have HI1 := Hid_mk (show ∀ W mb, MAt W mb T1 → Calls Try.prog 37 #[.pointer (some ⟨mb, 0, none⟩), .string ⟨#[120, 97]⟩] W fun e w' => e = .returned (.bool true) ∧ Kp No W w' from fun W mb h => by have h := is_mt W mb T1 ⟨#[120, 97]⟩ h r_t1 (by decide); rw [is_1] at h; exact h)
  have HI2 := Hid_mk (show ∀ W mb, MAt W mb T1 → Calls Try.prog 37 #[.pointer (some ⟨mb, 0, none⟩), .string ⟨#[120, 98]⟩] W fun e w' => e = .returned (.bool false) ∧ Kp No W w' from fun W mb h => by have h := is_mt W mb T1 ⟨#[120, 98]⟩ h r_t1 (by decide); rw [is_2] at h; exact h)
  have HA := Hid_mk (show ∀ W mb, MAt W mb T2 → Calls Try.prog 36 #[.pointer (some ⟨mb, 0, none⟩), .string ⟨#[97, 120, 98]⟩] W (LoPost W [(0, 0), (1, 2), (3, 3)]) from fun W mb h => by have h := all_m W mb T2 ⟨#[97, 120, 98]⟩ h r_t2 (by decide); rw [all_1] at h; exact h)
  go_enter Try.func13, Try.ntmps13
  go_wp2_with fail
  with_reducible refine (HN1.out _).mono ?_
  rintro e w1 ⟨m1, rfl, hm, hk, hb⟩
  have HM1 := Hid_mk hm
  have HK1 := Hid_mk hk
  clear hm hk hb HN1
  go_wp2_with fail
  with_reducible refine (HF.out _ _ HM1.out).mono ?_
  rintro e w2 ⟨rfl, hk⟩
  have HK2 := Hid_mk (HK1.out.trans' hk)
  have HM2 := Hid_mk (HM1.out.no hk)
  clear hk HF
  go_wp2_with fail
  with_reducible refine (HN2.out _).mono ?_
  rintro e w3 ⟨m2, rfl, hm, hk, hb⟩
  have HK3 := Hid_mk (HK2.out.trans' hk)
  have HM3 := Hid_mk (HM2.out.no hk)
  have HQ3 := Hid_mk hm
  clear hk hm hb HN2
  go_wp2_with fail
  with_reducible refine (HA.out _ _ HQ3.out).mono ?_
  rintro e w4 ⟨v, rfl, hv, hk, ho⟩
  have HK4 := Hid_mk (HK3.out.trans' hk)
  have HM4 := Hid_mk (HM3.out.no hk)
  obtain ⟨g, c, rfl, hc1, hc2⟩ := own_form hv (by simp)
  have d0 := own_cell hv (g := g) rfl 0 (u := .complex .f64 (fl ((0 : Nat) : Int)) (fl ((0 : Nat) : Int))) rfl
  have d1 := own_cell hv (g := g) rfl 1 (u := .complex .f64 (fl ((1 : Nat) : Int)) (fl ((2 : Nat) : Int))) rfl
  have d2 := own_cell hv (g := g) rfl 2 (u := .complex .f64 (fl ((3 : Nat) : Int)) (fl ((3 : Nat) : Int))) rfl
  rw [fl_0] at d0
  rw [fl_1, fl_2] at d1
  rw [fl_3] at d2
  have o0 := o_0
  have o1 := o_1
  have o2 := o_2
  have o3 := o_3
  rw [show [((0 : Nat), (0 : Nat)), (1, 2), (3, 3)].length = 3 from rfl] at hc1 ⊢
  clear hk ho hv HA
  go_wp2_with fail
  with_reducible refine (HI1.out _ _ HM4.out).mono ?_
  rintro e w5 ⟨rfl, hk⟩
  have HK5 := Hid_mk (HK4.out.trans' hk)
  have HM5 := Hid_mk (HM4.out.no hk)
  have d0 := hk.cell' d0 id
  have d1 := hk.cell' d1 id
  have d2 := hk.cell' d2 id
  clear hk HI1
  go_wp2_with fail
  with_reducible refine (HI2.out _ _ HM5.out).mono ?_
  rintro e w6 ⟨rfl, hk⟩
  have HK6 := Hid_mk (HK5.out.trans' hk)
  have d0 := hk.cell' d0 id
  have d1 := hk.cell' d1 id
  have d2 := hk.cell' d2 id
  clear hk HI2
  go_wp2
  go_ret
  exact ⟨rfl, HK6.out⟩

end Go.Proofs.Ytaneblecgjahbab.nfa

namespace Go.Proofs.Ytaneblecgjahbab.ere
open Go.RowKit Go.Proofs.Ytaneblecgjahbab.sum Go.Proofs.Ytaneblecgjahbab.kept Go.Proofs.Ytaneblecgjahbab.pop Go.Proofs.Ytaneblecgjahbab.cls Go.Proofs.Ytaneblecgjahbab.tre Go.Proofs.Ytaneblecgjahbab.str
set_option linter.unusedVariables false

theorem infoRe : (Try.prog.info? 30).map (fun i => (i.zero, i.size, i.bytes)) = some (some (.agg #[.int .i64 0, .int .u64 0, .int .u64 0, .int .u64 0, .int .u64 0, .slice none 0 0]), 6, 64) := by kernel_rfl
/-- what slices.Clone leaves: the same cells in a block of its own -/
def ClPost (w : World) (n : Nat) (news : List Value) (e : Ending) (w' : World) : Prop :=
  ∃ a' c', e = .returned (.slice a' n c') ∧ n ≤ c' ∧ c' ≤ 9223372036854775807 ∧ (n ≠ 0 → ∃ g, a' = some ⟨g, 0, none⟩ ∧ w.heap.size ≤ g ∧ g < w'.heap.size ∧ (∀ j u, news[j]? = some u → w'.cell? ⟨g, j, none⟩ = some u) ∧ ∀ j, w'.frozen? ⟨g, j, none⟩ = false) ∧ Kp No w w'

set_option maxRecDepth 100000 in
set_option maxHeartbeats 1000000 in
theorem rclone_any (w : World) (a : Option Addr) (n c : Nat) (news : List Value) (hlen : news.length = n * 6) (hc : n ≠ 0 → ∃ b o, a = some ⟨b, o, none⟩ ∧ ∀ j u, news[j]? = some u → w.cell? ⟨b, o + j, none⟩ = some u) (h1 : ∀ u ∈ news, u.oneCell' = true) (hn : n ≤ 1000000000) :
    Calls Try.prog 124 #[.slice a n c] w (ClPost w n news) := by
  cases a with
  | none =>
    have hn0 : n = 0 := Decidable.byContradiction fun h => by obtain ⟨_, _, e, _⟩ := hc h; cases e
    subst hn0
    have hq : ∀ w, (binOp .eql 28 (.slice none 0 c) (.slice none 0 0)).run Try.prog w = .ok (.bool true) w := fun w => Lib.run_eql_slice_nil w 28 30 none 0 c 0 0 Try.underlying28
    clear hc
    go_enter Try.func124, Try.ntmps124
    go_wp2
    go_ret
    exact ⟨none, 0, rfl, Nat.le_refl _, by decide, fun h => absurd rfl h, Kp.refl _ _⟩
  | some ad =>
    have hq : ∀ w, (binOp .eql 28 (.slice (some ad) n c) (.slice none 0 0)).run Try.prog w = .ok (.bool false) w := fun w => Lib.run_eql_slice_nil w 28 30 (some ad) n c 0 0 Try.underlying28
    obtain ⟨i0, hi, hz0, hz1, hz2⟩ := info_parts infoRe
    obtain ⟨W0, hW0⟩ : ∃ W0, w.alloc (.cells #[] 30) = W0 := ⟨_, rfl⟩
    have k0 : Kp No w W0 := by rw [← hW0]; exact (Kp.refl _ _).alloc _
    have h0 : W0.ownsRow w.heap.size 30 6 (.slice (some ⟨w.heap.size, 0, none⟩) 0 0) 0 [] := by rw [← hW0]; exact World.ownsRow_made w #[] 0 (Nat.le_refl _) (by decide) rfl
    obtain ⟨v', w2, hr, ho, hg, -, hloc⟩ : ∃ v' w', (Builtin.append_ #[28, 28] 28 #[.slice (some ⟨w.heap.size, 0, none⟩) 0 0, .slice (some ad) n c]).run Try.prog W0 = .ok v' w' ∧ w'.ownsRow w.heap.size 30 6 v' (0 + n) ([] ++ news) ∧ W0.grownBy w' (Value.ownBlock (.slice (some ⟨w.heap.size, 0, none⟩) 0 0)) ∧ (v' = .slice none 0 0 ↔ (Value.slice (some ⟨w.heap.size, 0, none⟩) 0 0) = .slice none 0 0 ∧ n = 0) ∧ (v'.ownBlock = Value.ownBlock (.slice (some ⟨w.heap.size, 0, none⟩) 0 0) ∨ v'.ownBlock = some W0.heap.size) :=
      run_append_own_at (P := Try.prog) W0 w.heap.size 28 28 30 i0 _ 6 64 Try.underlying28 hi hz0 hz1 hz2 rfl (by decide) (.slice (some ⟨w.heap.size, 0, none⟩) 0 0) 0 [] h0 ad n c news hlen
        (fun j u hu => by
          have hn0 : n ≠ 0 := fun e => by subst e; have := List.eq_nil_of_length_eq_zero (by omega : news.length = 0); rw [this] at hu; cases hu
          obtain ⟨b, o, e, hcc⟩ := hc hn0
          cases e
          rw [addr_add]
          exact k0.cell' (hcc j u hu) id) h1 (by unfold maxLen; omega) (by omega) k0.size
    rw [Nat.zero_add, List.nil_append] at ho
    have hkf : Kp No w w2 := k0.grown hg fun k hk e => by simp [Value.ownBlock] at e; omega
    have hfin : ClPost w n news (.returned v') w2 := by
      rcases ho.2 with ⟨rfl, h00⟩ | ⟨g, cap, cur, rfl, hgb, hcur, r1, r2, _⟩
      · subst h00
        exact ⟨none, 0, rfl, Nat.le_refl _, by decide, fun h => absurd rfl h, hkf⟩
      · refine ⟨_, cap, rfl, r1, by unfold maxLen at r2; omega, fun _ => ⟨g, rfl, hgb, (Array.getElem?_eq_some_iff.1 hcur).1, fun j u hu => ?_, fun j => ho.frozenAt j⟩, hkf⟩
        have := World.ownsRow.cells (g := g) ho rfl j u hu
        rw [addr_add, Nat.zero_add] at this
        exact this
    have HF := Hid_mk hfin
    have HW0 := Hid_mk hW0
    clear h0 k0 hg hloc hkf hfin ho hlen hc h1
    go_enter Try.func124, Try.ntmps124
    subst hW0
    go_wp2_with (at_builtin; (refine wpList_append_run rfl _ _ _ _ rfl hr ?_))
    go_wp2
    go_ret
    exact HF.out

end Go.Proofs.Ytaneblecgjahbab.ere
