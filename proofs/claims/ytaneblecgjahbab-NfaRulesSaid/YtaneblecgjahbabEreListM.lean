/- Package ere: a list of parts: one more of them. Package nfa: parts of a machine; one more of them. -/
import Derived.Test.YtaneblecgjahbabErePartM
import Derived.Maps.AppendAt
import Derived.Deep.AppendLies
import Derived.Deep.RegionLaw
import Derived.BigRegion
import Derived.RegionCalls

namespace Go.Proofs.Ytaneblecgjahbab.ere
open Go.RowKit Go.Proofs.Ytaneblecgjahbab.sum Go.Proofs.Ytaneblecgjahbab.kept Go.Proofs.Ytaneblecgjahbab.pop Go.Proofs.Ytaneblecgjahbab.cls Go.Proofs.Ytaneblecgjahbab.tre
set_option linter.unusedVariables false

theorem step_append_run {P : Program} {ops : Array Oper} {o : Oper} {a : Act} {K : Act → World → Prop} {Q : Exit → Act → World → Prop} {E : Prop} {w w1 : World} {v1 : Value} (hgd : o.guard = none) (s x : Operand) (t u : TypeId)
    (ho : o.op = .call { callee := .builtin .append, args := #[s, x], argTypes := #[t, u] }) (hr : (Builtin.append_ #[t, u] o.type #[a.eval s, a.eval x]).run P w = .ok v1 w1) (h : K (a.put o.dst v1) w1) :
    if Region.wanted o (yielded ops a.tmps) = true then Oper.wp P o a w K Q else E := by
  have hw : Region.wanted o (yielded ops a.tmps) = true := by simp [Region.wanted, hgd]
  rw [if_pos hw]
  unfold Oper.wp execOp
  simp only [ho, resolve, invoke, builtin, Sem.run_bind, Sem.run_pure, Result.andThen_ok, List.map_toArray, List.map_cons, List.map_nil, hr]
  exact h

/-- a part among others in memory -/
structure El where
  k : Int
  f : Nat → Bool
  a : Option Addr
  n : Nat
  c : Nat
  p : Pt
def El.cells (e : El) : List Value := (cellsP e.k e.f e.a e.n e.c e.p.n e.p.h).toList
def El.val (e : El) : Value := .agg (cellsP e.k e.f e.a e.n e.c e.p.n e.p.h)
def El.ok (T : Nat → Prop) (w : World) (e : El) : Prop := ReV T w e.p.t (.agg (cellsR e.k e.f e.a e.n e.c))
theorem El.len (e : El) : e.cells.length = 8 := rfl
theorem cells_len (es : List El) : (es.flatMap El.cells).length = es.length * 8 := by
  induction es with
  | nil => rfl
  | cons e es ih => rw [List.flatMap_cons, List.length_append, ih, El.len, List.length_cons]; omega
theorem cells_get : ∀ (es : List El) (i j : Nat) (h : i < es.length) (hj : j < 8), (es.flatMap El.cells)[i * 8 + j]? = es[i].cells[j]?
  | e :: es, 0, j, _, hj => by
    rw [List.flatMap_cons, List.getElem?_append_left (by rw [El.len]; omega)]
    simp
  | e :: es, i + 1, j, h, hj => by
    have := cells_get es i j (by simpa using h) hj
    rw [List.flatMap_cons, List.getElem?_append_right (by rw [El.len]; omega), El.len, show (i + 1) * 8 + j - 8 = i * 8 + j by omega, this]
    simp
abbrev PRow (w : World) (base : Nat) (v : Value) (es : List El) : Prop := w.ownsRow base 102 8 v es.length (es.flatMap El.cells)
theorem infoPt : (Try.prog.info? 102).map (fun i => (i.zero, i.size, i.bytes)) = some (some (.agg #[.int .i64 0, .int .u64 0, .int .u64 0, .int .u64 0, .int .u64 0, .slice none 0 0, .int .i64 0, .int .i64 0]), 8, 80) := by kernel_rfl
theorem run_pushP (w : World) (ty : TypeId) (base : Nat) (v : Value) (es : List El) (h : PRow w base v es) (hbase : base ≤ w.heap.size) (e : El) (g c : Nat) (hg : w.heap[g]? = some (.cells (cellsP e.k e.f e.a e.n e.c e.p.n e.p.h) 102 (0, 0))) (hn : es.length ≤ 1000000000) :
    ∃ v' w', (Builtin.append_ #[133, 133] ty #[v, .slice (some ⟨g, 0, none⟩) 1 c]).run Try.prog w = .ok v' w' ∧ PRow w' base v' (es ++ [e]) ∧ Kp (fun k => some k = v.ownBlock) w w' ∧ (v'.ownBlock = v.ownBlock ∨ v'.ownBlock = some w.heap.size) ∧ ∃ g' c', v' = .slice (some ⟨g', 0, none⟩) (es.length + 1) c' := by
  obtain ⟨i0, hi, hz0, hz1, hz2⟩ := info_parts infoPt
  obtain ⟨v', w', hr, k1, k2, k3, k4⟩ := run_append_own_at (P := Try.prog) w base 133 ty 102 i0 _ 8 80 Try.underlying133 hi hz0 hz1 hz2 rfl (by decide) v es.length _ h ⟨g, 0, none⟩ 1 c e.cells
    rfl (World.news_of_block (cs := cellsP e.k e.f e.a e.n e.c e.p.n e.p.h) hg) (by intro u hu; simp [El.cells] at hu; rcases hu with rfl | rfl | rfl | rfl | rfl | rfl | rfl | rfl <;> rfl) (by unfold maxLen; omega) (by omega) hbase
  refine ⟨v', w', hr, by simpa [PRow] using k1, (Kp.refl _ _).grown k2 fun k _ e => e.symm, k4, ?_⟩
  rcases k1.2 with ⟨_, h0⟩ | ⟨g', cap, cur, rfl, _⟩
  · omega
  · exact ⟨g', cap, rfl⟩

/-- a list of parts at a block: those of these trees; nothing, if their leaves are too many -/
structure LsAt (T : Nat → Prop) (w : World) (q base : Nat) (v : Value) (es : List El) (ts : List Tr) : Prop where
  c0 : w.cell? ⟨q, 0, none⟩ = some v
  c1 : w.cell? ⟨q, 1, none⟩ = some (.int .i64 (sumP ts : Nat))
  warm : ∀ i, w.frozen? ⟨q, i, none⟩ = false
  lt : q < w.heap.size ∧ ¬ T q ∧ ¬ v.ownBlock = some q
  le : base ≤ w.heap.size
  big : 400 < sumP ts → v = .slice none 0 0 ∧ es = []
  same : sumP ts ≤ 400 → es.map El.p = ts.map absP
  row : PRow w base v es
  ok : ∀ e ∈ es, e.ok T w
  out : ∀ g, v.ownBlock = some g → ¬ T g
  inn : ∀ b, T b → base ≤ b ∧ b < w.heap.size
theorem LsAt.kept {S T T' : Nat → Prop} {w w' : World} {q base : Nat} {v : Value} {es : List El} {ts : List Tr} (h : LsAt T w q base v es ts) (hk : Kp S w w') (hq : ¬ S q) (hv : ∀ g, base ≤ g → g < w.heap.size → ¬ S g)
    (hT : ∀ b, T b → T' b) (ho : ∀ g, v.ownBlock = some g → ¬ T' g) (hi : ∀ b, T' b → base ≤ b ∧ b < w'.heap.size) (hTq : ¬ T' q) : LsAt T' w' q base v es ts :=
  ⟨hk.cell' h.c0 hq, hk.cell' h.c1 hq, fun i => (hk.frozen (p := ⟨q, i, none⟩) (World.block_lt_of_cell? w ⟨q, 0, none⟩ h.c0) hq).trans (h.warm i), ⟨Nat.lt_of_lt_of_le h.lt.1 hk.size, hTq, h.lt.2.2⟩, Nat.le_trans h.le hk.size, h.big, h.same,
    owns_kept h.row hk fun k hkk => hv k (h.row.lt k hkk).1 (h.row.lt k hkk).2, fun e he => ReV.wider (fun b hb _ => hT b hb) _ _ (ReV.kept hk (fun b hb hl => hv b (h.inn b hb).1 hl) _ _ (h.ok e he)), ho, hi⟩
theorem LsAt.no {T : Nat → Prop} {w w' : World} {q base : Nat} {v : Value} {es : List El} {ts : List Tr} (h : LsAt T w q base v es ts) (hk : Kp No w w') : LsAt T w' q base v es ts :=
  h.kept hk id (fun _ _ _ => id) (fun _ h => h) h.out (fun b hb => ⟨(h.inn b hb).1, Nat.lt_of_lt_of_le (h.inn b hb).2 hk.size⟩) h.lt.2.1

/-- behind add -/
def AddPost (T : Nat → Prop) (w : World) (q base : Nat) (ts : List Tr) (e : Ending) (w' : World) : Prop :=
  e = .returned (.tuple #[]) ∧ (∃ v' es', LsAt T w' q base v' es' ts) ∧ Kp (fun b => b = q ∨ (base ≤ b ∧ ¬ T b)) w w'
/-- behind add, with what turned: the list's own block, and that of its row -/
def AddOwn (T : Nat → Prop) (w : World) (q base : Nat) (v : Value) (ts : List Tr) (e : Ending) (w' : World) : Prop :=
  e = .returned (.tuple #[]) ∧ (∃ v' es', LsAt T w' q base v' es' ts ∧ (v'.ownBlock = v.ownBlock ∨ v'.ownBlock = none ∨ ∃ g, v'.ownBlock = some g ∧ w.heap.size ≤ g)) ∧ Kp (fun b => b = q ∨ some b = v.ownBlock) w w'

set_option maxRecDepth 100000 in
set_option maxHeartbeats 4000000 in
theorem add_own (T : Nat → Prop) (w : World) (q base : Nat) (v : Value) (es : List El) (ts : List Tr) (h : LsAt T w q base v es ts) (t : Tr) (x : Value) (hx : PtV T w (absP t) x) (hlen : ts.length ≤ 1000000000) :
    Calls Try.prog 64 #[.pointer (some ⟨q, 0, none⟩), x] w (AddOwn T w q base v (ts ++ [t])) := by
  obtain ⟨k1, f1, a1, n1, c1, rfl, hr1⟩ := hx
  have hb1 := absP_n t
  have hb2 := absP_h t
  have hsum : sumP (ts ++ [t]) = sumP ts + (absP t).n := by rw [sumP_append]; simp [sumP]
  have hle := sumP_le ts
  have H := Hid_mk h
  have HV := Hid_mk hr1
  have HSum := Hid_mk hsum
  obtain ⟨N, hN⟩ : ∃ N, sumP (ts ++ [t]) = N := ⟨_, rfl⟩
  have HN := Hid_mk hN
  obtain ⟨W0, hW0⟩ : ∃ W0, w.alloc (.cells (cellsP k1 f1 a1 n1 c1 (absP t).n (absP t).h) 102) = W0 := ⟨_, rfl⟩
  obtain ⟨r, hr⟩ : ∃ r, w.heap.size = r := ⟨_, rfl⟩
  have HK0 : Hid (Kp No w W0) := Hid_mk (by rw [← hW0]; exact (Kp.refl No w).alloc _)
  have hA : PAt W0 r (.int .i64 k1) (.int .u64 (wd f1 0 64 : Nat)) (.int .u64 (wd f1 64 64 : Nat)) (.int .u64 (wd f1 128 64 : Nat)) (.int .u64 (wd f1 192 64 : Nat)) (.slice a1 n1 c1) (.int .i64 ((absP t).n : Int)) (.int .i64 ((absP t).h : Int)) := by
    rw [← hW0, ← hr]
    exact PAt.new w _ _ _ _ _ _ _ _ _
  have h0 := h.no HK0.out
  have HA := Hid_mk hA
  have H0 := Hid_mk h0
  have d1 := h0.c1
  have d0 := h0.c0
  have dw := h0.warm
  have a6 := hA.c6
  unfold cellsP at hW0
  have HW0 := Hid_mk hW0
  have HR := Hid_mk hr
  have hw1 : IntKind.i64.wrap ((sumP ts : Nat) + ((absP t).n : Int)) = (N : Int) := by rw [IntWalk.i64_in _ (by omega)]; omega
  have hbig : N > 400 ∨ N ≤ 400 := by omega
  generalize hL : (absP t).n = L at *
  generalize hHh : (absP t).h = Hh at *
  generalize hS : sumP ts = S at *
  have HL := Hid_mk (show (⟨(absP t).t, L, Hh⟩ : Pt) = absP t by rw [← hL, ← hHh])
  clear hle hsum h hr1 hb1 hb2 hN hW0 hr hA h0 hL hHh
  go_enter Try.func64, Try.ntmps64
  unfold cellsP
  go_upto_region 1 with fail
  rw [HW0.out, HR.out]
  clear HW0
  go_region
  go_upto_region 2 with fail
  have hk1 : Kp (fun b => b = q) W0 (W0.setCell ⟨q, 1, none⟩ (.int .i64 (N : Int))).drew := ((Kp.refl (fun b => b = q) W0).setCell (p := ⟨q, 1, none⟩) (fun _ => rfl) _).drew
  have hz : q < r := by have := H.out.lt.1; have := HR.out; omega
  refine wp_name (fun W => Kp (fun b => b = q) W0 W ∧ W.cell? ⟨q, 0, none⟩ = some v ∧ W.cell? ⟨q, 1, none⟩ = some (.int .i64 (N : Int)) ∧ (∀ i, W.frozen? ⟨q, i, none⟩ = false) ∧ PAt W r (.int .i64 k1) (.int .u64 (wd f1 0 64 : Nat)) (.int .u64 (wd f1 64 64 : Nat)) (.int .u64 (wd f1 128 64 : Nat)) (.int .u64 (wd f1 192 64 : Nat)) (.slice a1 n1 c1) (.int .i64 (L : Int)) (.int .i64 (Hh : Int)))
    ⟨hk1, ?_, ?_, fun i => (World.frozen?_setCell _ _ _ _).trans (dw i), HA.out.kept hk1 (by show ¬ r = q; omega)⟩ ?_
  · show (W0.setCell ⟨q, 1, none⟩ (.int .i64 (N : Int))).cell? ⟨q, 0, none⟩ = some v
    rw [World.cell?_setCell_other _ _ _ _ (by intro e; cases e)]
    exact H0.out.c0
  · exact World.cell?_setCell_same _ _ _ H0.out.c1
  clear hk1
  rintro W1 ⟨hk1, e0, e1, ew, hA1⟩
  have HK1 := Hid_mk hk1
  clear hk1 d0 d1 dw a6
  rcases hbig with hbig | hbig
  · have hbi : (N : Int) > 400 := by omega
    have HBig := Hid_mk hbig
    have E1 := Hid_mk e1
    have E0 := Hid_mk e0
    have EW := Hid_mk ew
    clear hbig hA1
    go_wp2
    go_end0
    have hs1 : Kp (fun b => b = q) W1 (W1.setCell ⟨q, 0, none⟩ (.slice none 0 0)) := (Kp.refl (fun b => b = q) W1).setCell (p := ⟨q, 0, none⟩) (fun _ => rfl) _
    have hkf : Kp (fun b => b = q ∨ some b = v.ownBlock) w (W1.setCell ⟨q, 0, none⟩ (.slice none 0 0)) :=
      (HK0.out.to.trans HK1.out (T := fun b => b = q) fun i _ e => .inl e).trans hs1 (T := fun b => b = q) fun i _ e => .inl e
    refine ⟨rfl, ⟨_, [], ⟨World.cell?_setCell_same _ _ _ E0.out, ?_, fun i => (World.frozen?_setCell _ _ _ _).trans (EW.out i), ⟨Nat.lt_of_lt_of_le H.out.lt.1 hkf.size, H.out.lt.2.1, fun e => by cases e⟩, Nat.le_trans H.out.le hkf.size, fun _ => ⟨rfl, rfl⟩, fun h => ?_, World.ownsRow_nil _ _ _ _, fun e he => (by cases he), fun g hg => (by cases hg), fun b hb => ⟨(H.out.inn b hb).1, Nat.lt_of_lt_of_le (H.out.inn b hb).2 hkf.size⟩⟩, .inr (.inl rfl)⟩, hkf⟩
    · rw [World.cell?_setCell_other _ _ _ _ (by intro e; cases e), HN.out]
      exact E1.out
    · rw [HN.out] at h
      have := HBig.out
      omega
  · have hbi : ¬ (N : Int) > 400 := by omega
    have hk2 : Kp No W1 (W1.alloc (.cells #[.int .i64 k1, .int .u64 (wd f1 0 64 : Nat), .int .u64 (wd f1 64 64 : Nat), .int .u64 (wd f1 128 64 : Nat), .int .u64 (wd f1 192 64 : Nat), .slice a1 n1 c1, .int .i64 (L : Int), .int .i64 (Hh : Int)] 102)).drew := ((Kp.refl No W1).alloc _).drew
    have h1 := (H0.out.row)
    have hrow1 := owns_kept h1 HK1.out fun g e hgq => H.out.lt.2.2 (hgq ▸ e)
    have hrow2 := owns_kept hrow1 hk2 fun _ _ => id
    have hsmall : S ≤ 400 := by have e1 := HSum.out; have e2 := HN.out; rw [e2] at e1; omega
    have hes : es.length = ts.length := by have := congrArg List.length (H.out.same (by rw [hS]; exact hsmall)); simpa using this
    obtain ⟨v', w3, hr3, ho3, hk3, hloc, g9, cap9, rfl⟩ := run_pushP (W1.alloc (.cells #[.int .i64 k1, .int .u64 (wd f1 0 64 : Nat), .int .u64 (wd f1 64 64 : Nat), .int .u64 (wd f1 128 64 : Nat), .int .u64 (wd f1 192 64 : Nat), .slice a1 n1 c1, .int .i64 (L : Int), .int .i64 (Hh : Int)] 102)).drew 133 base v es hrow2 (by have := H.out.le; have := HK0.out.size; have := HK1.out.size; have := hk2.size; omega) ⟨k1, f1, a1, n1, c1, ⟨(absP t).t, L, Hh⟩⟩ W1.heap.size 1 (heap_alloc_new W1 _) (by omega)
    have hqv : ¬ some q = v.ownBlock := fun e => H.out.lt.2.2 e.symm
    have i0 := hk3.cell' (hk2.cell' e0 id) hqv
    have i1 := hk3.cell' (hk2.cell' e1 id) hqv
    have ql : q < W1.heap.size := World.block_lt_of_cell? W1 ⟨q, 0, none⟩ e0
    have iw : ∀ i, w3.frozen? ⟨q, i, none⟩ = false := fun i => (hk3.frozen (p := ⟨q, i, none⟩) (Nat.lt_of_lt_of_le ql hk2.size) hqv).trans ((hk2.frozen (p := ⟨q, i, none⟩) ql id).trans (ew i))
    have I0 := Hid_mk i0
    have HEs := Hid_mk hes
    have HSm := Hid_mk hsmall
    clear hes hsmall
    have I1 := Hid_mk i1
    have IW := Hid_mk iw
    have HO3 := Hid_mk ho3
    have HK2 := Hid_mk hk2
    have HK3 := Hid_mk hk3
    have HLoc := Hid_mk hloc
    have HQv := Hid_mk hqv
    have f0 : (W1.alloc (.cells #[.int .i64 k1, .int .u64 (wd f1 0 64 : Nat), .int .u64 (wd f1 64 64 : Nat), .int .u64 (wd f1 128 64 : Nat), .int .u64 (wd f1 192 64 : Nat), .slice a1 n1 c1, .int .i64 (L : Int), .int .i64 (Hh : Int)] 102)).cell? ⟨q, 0, none⟩ = some v := hk2.cell' e0 id
    obtain ⟨x0, x1, x2, x3, x4, x5, x6, x7, -⟩ := hA1
    clear hk2 h1 hrow1 hrow2 hqv i1 ql ho3 hk3 hloc
    go_wp2
    go_region_law (refine step_append_run rfl _ _ _ _ rfl hr3 ?_)
    all_goals
      go_wp2
      go_end0
      have hs1 : Kp (fun b => b = q) w3 (w3.setCell ⟨q, 0, none⟩ (.slice (some ⟨g9, 0, none⟩) (es.length + 1) cap9)) := (Kp.refl (fun b => b = q) w3).setCell (p := ⟨q, 0, none⟩) (fun _ => rfl) _
      have hk13 : Kp (fun b => some b = v.ownBlock) W1 w3 := HK2.out.to.trans' HK3.out
      have hgv : ∀ g, v.ownBlock = some g → base ≤ g ∧ ¬ T g := fun g e => ⟨(H.out.row.lt g e).1, H.out.out g e⟩
      have hkf : Kp (fun b => b = q ∨ some b = v.ownBlock) w (w3.setCell ⟨q, 0, none⟩ (.slice (some ⟨g9, 0, none⟩) (es.length + 1) cap9)) :=
        ((HK0.out.to.trans HK1.out (T := fun b => b = q) fun i _ e => .inl e).trans hk13 (T := fun b => some b = v.ownBlock) fun i _ e => .inr e).trans hs1 (T := fun b => b = q) fun i _ e => .inl e
      have hqT : ¬ T q := H.out.lt.2.1
      have hng : ¬ (Value.slice (some ⟨g9, 0, none⟩) (es.length + 1) cap9).ownBlock = some q := fun hg => by
        rcases HLoc.out with e | e
        · exact H.out.lt.2.2 (e ▸ hg)
        · rw [e] at hg
          have h1 := H.out.lt.1
          have h2 := HK0.out.size
          have h3 := HK1.out.size
          have h4 := HK2.out.size
          have h5 := Option.some.inj hg
          omega
      have hTS : ∀ b, T b → b < w.heap.size → ¬ (b = q ∨ some b = v.ownBlock) := fun b hb _ => by
        rintro (e | e)
        · exact hqT (e ▸ hb)
        · exact H.out.out b e.symm hb
      refine ⟨rfl, ⟨_, es ++ [⟨k1, f1, a1, n1, c1, ⟨(absP t).t, L, Hh⟩⟩], ⟨World.cell?_setCell_same _ _ _ I0.out, ?_, fun i => (World.frozen?_setCell _ _ _ _).trans (IW.out i), ⟨Nat.lt_of_lt_of_le H.out.lt.1 hkf.size, hqT, hng⟩, Nat.le_trans H.out.le hkf.size, fun h => ?_, fun h => ?_, ?_, fun e he => ?_, fun g hg => ?_, fun b hb => ⟨(H.out.inn b hb).1, Nat.lt_of_lt_of_le (H.out.inn b hb).2 hkf.size⟩⟩, ?_⟩, hkf⟩
      · rw [World.cell?_setCell_other _ _ _ _ (by intro e; cases e), HN.out]
        exact I1.out
      · rw [HN.out] at h
        omega
      · rw [List.map_append, List.map_append, H.out.same (by rw [hS]; exact HSm.out)]
        exact congrArg _ (congrArg (fun x => [x]) HL.out)
      · have := owns_kept HO3.out hs1 fun g e hgq => hng (hgq ▸ e)
        simpa [PRow] using this
      · rcases List.mem_append.1 he with he | he
        · exact ReV.kept hkf hTS _ _ (H.out.ok e he)
        · simp only [List.mem_singleton] at he
          subst he
          exact ReV.kept hkf hTS _ _ HV.out
      · rcases HLoc.out with e | e
        · exact H.out.out g (e ▸ hg)
        · rw [e] at hg
          intro hTg
          have h1 := (H.out.inn g hTg).2
          have h2 := HK0.out.size
          have h3 := HK1.out.size
          have h4 := HK2.out.size
          have h5 := Option.some.inj hg
          omega
      · rcases HLoc.out with e | e
        · exact .inl e
        · refine .inr (.inr ⟨_, e, ?_⟩)
          have h2 := HK0.out.size
          have h3 := HK1.out.size
          have h4 := HK2.out.size
          omega

theorem add_any (T : Nat → Prop) (w : World) (q base : Nat) (v : Value) (es : List El) (ts : List Tr) (h : LsAt T w q base v es ts) (t : Tr) (x : Value) (hx : PtV T w (absP t) x) (hlen : ts.length ≤ 1000000000) :
    Calls Try.prog 64 #[.pointer (some ⟨q, 0, none⟩), x] w (AddPost T w q base (ts ++ [t])) := by
  refine (add_own T w q base v es ts h t x hx hlen).mono ?_
  rintro e w' ⟨he, ⟨v', es', hl, -⟩, hk⟩
  refine ⟨he, ⟨v', es', hl⟩, hk.mono fun b _ hb => hb.imp id fun e => ⟨(h.row.lt b e.symm).1, h.out b e.symm⟩⟩

end Go.Proofs.Ytaneblecgjahbab.ere

namespace Go.Proofs.Ytaneblecgjahbab.nfa
open Go.RowKit Go.Proofs.Ytaneblecgjahbab.sum Go.Proofs.Ytaneblecgjahbab.kept Go.Proofs.Ytaneblecgjahbab.pop Go.Proofs.Ytaneblecgjahbab.cls Go.Proofs.Ytaneblecgjahbab.tre Go.Proofs.Ytaneblecgjahbab.ere
set_option linter.unusedVariables false

/-- a part -/
structure Part where
  kind : Nat
  f : Nat → Bool
  next : Nat
  other : Nat
def cellsN (k : Nat) (f : Nat → Bool) (n o : Nat) : Array Value := #[.int .i64 (k : Int), .int .u64 (wd f 0 64 : Nat), .int .u64 (wd f 64 64 : Nat), .int .u64 (wd f 128 64 : Nat), .int .u64 (wd f 192 64 : Nat), .int .i64 (n : Int), .int .i64 (o : Int)]
def Part.cells (p : Part) : List Value := (cellsN p.kind p.f p.next p.other).toList
theorem Part.len (p : Part) : p.cells.length = 7 := rfl
theorem parts_len (ps : List Part) : (ps.flatMap Part.cells).length = ps.length * 7 := by
  induction ps with
  | nil => rfl
  | cons e es ih => rw [List.flatMap_cons, List.length_append, ih, Part.len, List.length_cons]; omega
theorem parts_get : ∀ (ps : List Part) (i j : Nat) (h : i < ps.length) (hj : j < 7), (ps.flatMap Part.cells)[i * 7 + j]? = ps[i].cells[j]?
  | e :: es, 0, j, _, hj => by
    rw [List.flatMap_cons, List.getElem?_append_left (by rw [Part.len]; omega)]
    simp
  | e :: es, i + 1, j, h, hj => by
    have := parts_get es i j (by simpa using h) hj
    rw [List.flatMap_cons, List.getElem?_append_right (by rw [Part.len]; omega), Part.len, show (i + 1) * 7 + j - 7 = i * 7 + j by omega, this]
    simp
abbrev NRow (w : World) (base : Nat) (v : Value) (ps : List Part) : Prop := w.ownsRow base 117 7 v ps.length (ps.flatMap Part.cells)
theorem infoNp : (Try.prog.info? 117).map (fun i => (i.zero, i.size, i.bytes)) = some (some (.agg #[.int .i64 0, .int .u64 0, .int .u64 0, .int .u64 0, .int .u64 0, .int .i64 0, .int .i64 0]), 7, 56) := by kernel_rfl
theorem run_pushN (w : World) (ty : TypeId) (base : Nat) (v : Value) (ps : List Part) (h : NRow w base v ps) (hbase : base ≤ w.heap.size) (e : Part) (g c : Nat) (hg : w.heap[g]? = some (.cells (cellsN e.kind e.f e.next e.other) 117 (0, 0))) (hn : ps.length ≤ 1000000000) :
    ∃ v' w', (Builtin.append_ #[71, 71] ty #[v, .slice (some ⟨g, 0, none⟩) 1 c]).run Try.prog w = .ok v' w' ∧ NRow w' base v' (ps ++ [e]) ∧ Kp (fun k => some k = v.ownBlock) w w' ∧ (v'.ownBlock = v.ownBlock ∨ v'.ownBlock = some w.heap.size) ∧ ∃ g' c', v' = .slice (some ⟨g', 0, none⟩) (ps.length + 1) c' := by
  obtain ⟨i0, hi, hz0, hz1, hz2⟩ := info_parts infoNp
  obtain ⟨v', w', hr, k1, k2, k3, k4⟩ := run_append_own_at (P := Try.prog) w base 71 ty 117 i0 _ 7 56 Try.underlying71 hi hz0 hz1 hz2 rfl (by decide) v ps.length _ h ⟨g, 0, none⟩ 1 c e.cells
    rfl (World.news_of_block (cs := cellsN e.kind e.f e.next e.other) hg) (by intro u hu; simp [Part.cells, cellsN] at hu; rcases hu with rfl | rfl | rfl | rfl | rfl | rfl | rfl <;> rfl) (by unfold maxLen; omega) (by omega) hbase
  refine ⟨v', w', hr, by simpa [NRow] using k1, (Kp.refl _ _).grown k2 fun k _ e => e.symm, k4, ?_⟩
  rcases k1.2 with ⟨_, h0⟩ | ⟨g', cap, cur, rfl, _⟩
  · omega
  · exact ⟨g', cap, rfl⟩

/-- a program at a block: its parts, in a row of its own; where it begins; which way it goes -/
structure PgAt (w : World) (b base : Nat) (v : Value) (ps : List Part) (st : Nat) (bk : Bool) : Prop where
  c0 : w.cell? ⟨b, 0, none⟩ = some v
  c1 : w.cell? ⟨b, 1, none⟩ = some (.int .i64 (st : Int))
  c2 : w.cell? ⟨b, 2, none⟩ = some (.bool bk)
  warm : ∀ i, w.frozen? ⟨b, i, none⟩ = false
  row : NRow w base v ps
  out : v.ownBlock ≠ some b
  le : base ≤ b
  lt : b < w.heap.size
theorem PgAt.kept {S : Nat → Prop} {w w' : World} {b base : Nat} {v : Value} {ps : List Part} {st : Nat} {bk : Bool} (h : PgAt w b base v ps st bk) (hk : Kp S w w') (hb : ¬ S b) (hv : ∀ g, v.ownBlock = some g → ¬ S g) : PgAt w' b base v ps st bk :=
  ⟨hk.cell' h.c0 hb, hk.cell' h.c1 hb, hk.cell' h.c2 hb, fun i => (hk.frozen (p := ⟨b, i, none⟩) h.lt hb).trans (h.warm i), owns_kept h.row hk fun k e => hv k e, h.out, h.le, Nat.lt_of_lt_of_le h.lt hk.size⟩
theorem PgAt.no {w w' : World} {b base : Nat} {v : Value} {ps : List Part} {st : Nat} {bk : Bool} (h : PgAt w b base v ps st bk) (hk : Kp No w w') : PgAt w' b base v ps st bk := h.kept hk id fun _ _ => id

/-- the program at a block has become another one: what turned is its own block, and that of its row -/
def PgTo (w : World) (b base : Nat) (v : Value) (ps : List Part) (st : Nat) (bk : Bool) (w' : World) : Prop :=
  ∃ v', PgAt w' b base v' ps st bk ∧ (v'.ownBlock = v.ownBlock ∨ ∃ g, v'.ownBlock = some g ∧ w.heap.size ≤ g) ∧ Kp (fun i => i = b ∨ some i = v.ownBlock) w w'
theorem PgTo.trans {w w1 w2 : World} {b base : Nat} {v v1 : Value} {ps2 : List Part} {st2 : Nat} {bk2 : Bool} (h1 : v1.ownBlock = v.ownBlock ∨ ∃ g, v1.ownBlock = some g ∧ w.heap.size ≤ g) (hk : Kp (fun i => i = b ∨ some i = v.ownBlock) w w1) (h2 : PgTo w1 b base v1 ps2 st2 bk2 w2) : PgTo w b base v ps2 st2 bk2 w2 := by
  obtain ⟨v2, hp, ho, hk2⟩ := h2
  refine ⟨v2, hp, ?_, hk.trans hk2 fun i hi e => ?_⟩
  · rcases ho with e | ⟨g, e, hg⟩
    · rw [e]
      exact h1
    · exact .inr ⟨g, e, Nat.le_trans hk.size hg⟩
  · rcases e with e | e
    · exact .inl e
    · rcases h1 with e1 | ⟨g, e1, hg⟩
      · exact .inr (e1 ▸ e)
      · have := Option.some.inj (e.trans e1)
        omega
theorem PgTo.of {w w1 w2 : World} {b base : Nat} {v : Value} {ps2 : List Part} {st2 : Nat} {bk2 : Bool} (hk : Kp No w w1) (h2 : PgTo w1 b base v ps2 st2 bk2 w2) : PgTo w b base v ps2 st2 bk2 w2 := .trans (.inl rfl) hk.to h2
/-- one more part -/
def AdPost (w : World) (b base : Nat) (v : Value) (ps : List Part) (st : Nat) (bk : Bool) (k : Nat) (e : Ending) (w' : World) : Prop :=
  e = .returned (.int .i64 (k : Int)) ∧ PgTo w b base v ps st bk w'

theorem AdPost.is {w : World} {b base : Nat} {v : Value} {ps : List Part} {st : Nat} {bk : Bool} {k : Nat} {e : Ending} {w' : World} (h : AdPost w b base v ps st bk k e w') : e = .returned (.int .i64 (k : Int)) ∧ PgTo w b base v ps st bk w' := h

set_option maxRecDepth 100000 in
set_option maxHeartbeats 4000000 in
theorem add_any (w : World) (b base : Nat) (v : Value) (ps : List Part) (st : Nat) (bk : Bool) (h : PgAt w b base v ps st bk) (k : Nat) (f : Nat → Bool) (n o : Nat) (hn : ps.length ≤ 1000000000) :
    Calls Try.prog 77 #[.pointer (some ⟨b, 0, none⟩), .agg #[.int .i64 (k : Int), .int .u64 (wd f 0 64 : Nat), .int .u64 (wd f 64 64 : Nat), .int .u64 (wd f 128 64 : Nat), .int .u64 (wd f 192 64 : Nat), .int .i64 (n : Int), .int .i64 (o : Int)]] w (AdPost w b base v (ps ++ [⟨k, f, n, o⟩]) st bk ps.length) := by
  obtain ⟨r, hr⟩ : ∃ r, w.heap.size = r := ⟨_, rfl⟩
  have H := Hid_mk h
  have HR := Hid_mk hr
  have HN := Hid_mk hn
  clear h hr hn
  go_enter Try.func77, Try.ntmps77
  go_upto_region 1 with fail
  rw [HR.out]
  refine wp_name (fun V => Kp No w V ∧ V.heap.size = r + 1 ∧ (V.cell? ⟨r, 0, none⟩ = some (.int .i64 (k : Int)) ∧ V.cell? ⟨r, 1, none⟩ = some (.int .u64 (wd f 0 64 : Nat)) ∧ V.cell? ⟨r, 2, none⟩ = some (.int .u64 (wd f 64 64 : Nat)) ∧ V.cell? ⟨r, 3, none⟩ = some (.int .u64 (wd f 128 64 : Nat)) ∧ V.cell? ⟨r, 4, none⟩ = some (.int .u64 (wd f 192 64 : Nat)) ∧ V.cell? ⟨r, 5, none⟩ = some (.int .i64 (n : Int)) ∧ V.cell? ⟨r, 6, none⟩ = some (.int .i64 (o : Int)))) ?_ ?_
  · have hr := HR.out
    refine ⟨(Kp.refl No w).alloc _, by simp [hr], ?_⟩
    rw [← hr]
    simp
  rintro W1 ⟨hk1, hz1, x0, x1, x2, x3, x4, x5, x6⟩
  have HK1 := Hid_mk hk1
  have HZ1 := Hid_mk hz1
  have h1 := H.out.no hk1
  have H1 := Hid_mk h1
  have hk2 : Kp No W1 (W1.alloc (.cells (cellsN k f n o) 117)).drew := ((Kp.refl No W1).alloc _).drew
  have h2 := h1.no hk2
  obtain ⟨v', w3, hr3, ho3, hk3, hloc, g9, cap9, rfl⟩ := run_pushN (W1.alloc (.cells (cellsN k f n o) 117)).drew 71 base v ps h2.row (Nat.le_trans h2.le (Nat.le_of_lt h2.lt)) ⟨k, f, n, o⟩ W1.heap.size 1 (heap_alloc_new W1 _) HN.out
  have hqv : ¬ some b = v.ownBlock := fun e => h1.out e.symm
  have e1 : ∀ V, Kp No W1 V → V.cell? ⟨b, 0, none⟩ = some v := fun V hk => (H1.out.no hk).c0
  have f0 := h2.c0
  have f1 : (W1.alloc (.cells #[.int .i64 (k : Int), .int .u64 (wd f 0 64 : Nat), .int .u64 (wd f 64 64 : Nat), .int .u64 (wd f 128 64 : Nat), .int .u64 (wd f 192 64 : Nat), .int .i64 (n : Int), .int .i64 (o : Int)] 117)).cell? ⟨b, 0, none⟩ = some v := f0
  have fb := h1.c0
  have i0 := hk3.cell' f0 hqv
  have iw : ∀ i, w3.frozen? ⟨b, i, none⟩ = false := fun i => (hk3.frozen (p := ⟨b, i, none⟩) h2.lt hqv).trans (h2.warm i)
  have I0 := Hid_mk i0
  have IW := Hid_mk iw
  have HO3 := Hid_mk ho3
  have HK2 := Hid_mk hk2
  have HK3 := Hid_mk hk3
  have HLoc := Hid_mk hloc
  have HQv := Hid_mk hqv
  unfold cellsN at hr3
  clear hk1 hz1 h1 hk2 h2 ho3 hk3 hloc hqv e1 f0
  go_region_law (refine step_append_run rfl _ _ _ _ rfl hr3 ?_)
  all_goals
    go_upto_region 2 with fail
    refine wp_name (fun V => PgTo w b base v (ps ++ [⟨k, f, n, o⟩]) st bk V ∧ V.cell? ⟨b, 0, none⟩ = some (.slice (some ⟨g9, 0, none⟩) (ps.length + 1) cap9)) ?_ ?_
    · have hs1 : Kp (fun i => i = b) w3 (w3.setCell ⟨b, 0, none⟩ (.slice (some ⟨g9, 0, none⟩) (ps.length + 1) cap9)) := (Kp.refl (fun i => i = b) w3).setCell (p := ⟨b, 0, none⟩) (fun _ => rfl) _
      have hng : (Value.slice (some ⟨g9, 0, none⟩) (ps.length + 1) cap9).ownBlock ≠ some b := fun hg => by
        rcases HLoc.out with e | e
        · exact H1.out.out (e ▸ hg)
        · rw [e] at hg
          have h5 := Option.some.inj hg
          have h6 := H1.out.lt
          have h7 := HK2.out.size
          omega
      have hb1 := H1.out.lt
      have h2 := H1.out.no HK2.out
      have hkv : Kp (fun i => i = b ∨ some i = v.ownBlock) w w3 := ((HK1.out.trans' HK2.out).to : Kp (fun i => i = b ∨ some i = v.ownBlock) w _).trans' (HK3.out.mono fun i _ e => .inr e)
      refine ⟨⟨_, ⟨World.cell?_setCell_same _ _ _ I0.out, ?_, ?_, fun i => (World.frozen?_setCell _ _ _ _).trans (IW.out i), ?_, hng, H.out.le, ?_⟩, ?_, ?_⟩, World.cell?_setCell_same _ _ _ I0.out⟩
      · rw [World.cell?_setCell_other _ _ _ _ (by intro e; cases e)]
        exact HK3.out.cell' h2.c1 HQv.out
      · rw [World.cell?_setCell_other _ _ _ _ (by intro e; cases e)]
        exact HK3.out.cell' h2.c2 HQv.out
      · have := owns_kept HO3.out hs1 fun g e hgq => hng (hgq ▸ e)
        simpa [NRow] using this
      · have h8 := HK3.out.size
        have h9 := HK2.out.size
        have h10 := hs1.size
        omega
      · rcases HLoc.out with e | e
        · exact .inl e
        · exact .inr ⟨_, e, by have h7 := HK2.out.size; have h8 := HK1.out.size; omega⟩
      · exact hkv.trans hs1 fun i _ e => .inl e
    rintro W5 ⟨hp5, g0⟩
    have HP5 := Hid_mk hp5
    have hle : (ps.length : Int) ≤ 1000000000 := by have := HN.out; omega
    clear x0 x1 x2 x3 x4 x5 x6 hr3 f1 fb hp5
    go_wp2
    go_ret
    exact ⟨by first | rfl | simp | (congr 2; omega), HP5.out⟩

end Go.Proofs.Ytaneblecgjahbab.nfa
