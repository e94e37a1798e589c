/- Package ere: a list of parts: one more of them. Package ere: a sign behind a part. -/
import Derived.Test.YtjalnddgbnjmcaaErePartM
import Derived.Maps.AppendAt
import Derived.Deep.AppendLies
import Derived.Deep.RegionLaw
import Derived.BigRegion
import Derived.RegionCalls
import Derived.Test.YtjalnddgbnjmcaaEreRdM
import Derived.Deep.RegionWith

namespace Go.Proofs.Ytjalnddgbnjmcaa.ere
open Go.RowKit Go.Proofs.Ytjalnddgbnjmcaa.sum Go.Proofs.Ytjalnddgbnjmcaa.kept Go.Proofs.Ytjalnddgbnjmcaa.pop Go.Proofs.Ytjalnddgbnjmcaa.cls Go.Proofs.Ytjalnddgbnjmcaa.tre
set_option linter.unusedVariables false

theorem step_append_run {P : Program} {ops : Array Oper} {o : Oper} {a : Act} {K : Act → World → Prop} {Q : Exit → Act → World → Prop} {E : Prop} {w w1 : World} {v1 : Value} (hgd : o.guard = none) (s x : Operand) (t u : TypeId)
    (ho : o.op = .call { callee := .builtin .append, args := #[s, x], argTypes := #[t, u] }) (hr : (Builtin.append_ #[t, u] o.type #[a.eval s, a.eval x]).run P w = .ok v1 w1) (h : K (a.put o.dst v1) w1) :
    if Region.wanted o (yielded ops a.tmps) = true then Oper.wp P o a w K Q else E := by
  have hw : Region.wanted o (yielded ops a.tmps) = true := by simp [Region.wanted, hgd]
  rw [if_pos hw]
  unfold Oper.wp execOp
  simp only [ho, resolve, invoke, builtin, Sem.run_bind, Sem.run_pure, Result.andThen_ok, List.map_toArray, List.map_cons, List.map_nil, hr]
  exact h

/-- a part among others in memory -/
structure El where
  k : Int
  f : Nat → Bool
  a : Option Addr
  n : Nat
  c : Nat
  p : Pt
def El.cells (e : El) : List Value := (cellsP e.k e.f e.a e.n e.c e.p.n e.p.h).toList
def El.val (e : El) : Value := .agg (cellsP e.k e.f e.a e.n e.c e.p.n e.p.h)
def El.ok (T : Nat → Prop) (w : World) (e : El) : Prop := ReV T w e.p.t (.agg (cellsR e.k e.f e.a e.n e.c))
theorem El.len (e : El) : e.cells.length = 8 := rfl
theorem cells_len (es : List El) : (es.flatMap El.cells).length = es.length * 8 := by
  induction es with
  | nil => rfl
  | cons e es ih => rw [List.flatMap_cons, List.length_append, ih, El.len, List.length_cons]; omega
theorem cells_get : ∀ (es : List El) (i j : Nat) (h : i < es.length) (hj : j < 8), (es.flatMap El.cells)[i * 8 + j]? = es[i].cells[j]?
  | e :: es, 0, j, _, hj => by
    rw [List.flatMap_cons, List.getElem?_append_left (by rw [El.len]; omega)]
    simp
  | e :: es, i + 1, j, h, hj => by
    have := cells_get es i j (by simpa using h) hj
    rw [List.flatMap_cons, List.getElem?_append_right (by rw [El.len]; omega), El.len, show (i + 1) * 8 + j - 8 = i * 8 + j by omega, this]
    simp
abbrev PRow (w : World) (base : Nat) (v : Value) (es : List El) : Prop := w.ownsRow base 103 8 v es.length (es.flatMap El.cells)
theorem infoPt : (Try.prog.info? 103).map (fun i => (i.zero, i.size, i.bytes)) = some (some (.agg #[.int .i64 0, .int .u64 0, .int .u64 0, .int .u64 0, .int .u64 0, .slice none 0 0, .int .i64 0, .int .i64 0]), 8, 80) := by kernel_rfl
theorem run_pushP (w : World) (ty : TypeId) (base : Nat) (v : Value) (es : List El) (h : PRow w base v es) (hbase : base ≤ w.heap.size) (e : El) (g c : Nat) (hg : w.heap[g]? = some (.cells (cellsP e.k e.f e.a e.n e.c e.p.n e.p.h) 103 (0, 0))) (hn : es.length ≤ 1000000000) :
    ∃ v' w', (Builtin.append_ #[134, 134] ty #[v, .slice (some ⟨g, 0, none⟩) 1 c]).run Try.prog w = .ok v' w' ∧ PRow w' base v' (es ++ [e]) ∧ Kp (fun k => some k = v.ownBlock) w w' ∧ (v'.ownBlock = v.ownBlock ∨ v'.ownBlock = some w.heap.size) ∧ ∃ g' c', v' = .slice (some ⟨g', 0, none⟩) (es.length + 1) c' := by
  obtain ⟨i0, hi, hz0, hz1, hz2⟩ := info_parts infoPt
  obtain ⟨v', w', hr, k1, k2, k3, k4⟩ := run_append_own_at (P := Try.prog) w base 134 ty 103 i0 _ 8 80 Try.underlying134 hi hz0 hz1 hz2 rfl (by decide) v es.length _ h ⟨g, 0, none⟩ 1 c e.cells
    rfl (World.news_of_block (cs := cellsP e.k e.f e.a e.n e.c e.p.n e.p.h) hg) (by intro u hu; simp [El.cells] at hu; rcases hu with rfl | rfl | rfl | rfl | rfl | rfl | rfl | rfl <;> rfl) (by unfold maxLen; omega) (by omega) hbase
  refine ⟨v', w', hr, by simpa [PRow] using k1, (Kp.refl _ _).grown k2 fun k _ e => e.symm, k4, ?_⟩
  rcases k1.2 with ⟨_, h0⟩ | ⟨g', cap, cur, rfl, _⟩
  · omega
  · exact ⟨g', cap, rfl⟩

/-- a list of parts at a block: those of these trees; nothing, if their leaves are too many -/
structure LsAt (T : Nat → Prop) (w : World) (q base : Nat) (v : Value) (es : List El) (ts : List Tr) : Prop where
  c0 : w.cell? ⟨q, 0, none⟩ = some v
  c1 : w.cell? ⟨q, 1, none⟩ = some (.int .i64 (sumP ts : Nat))
  warm : ∀ i, w.frozen? ⟨q, i, none⟩ = false
  lt : q < w.heap.size ∧ ¬ T q ∧ ¬ v.ownBlock = some q
  le : base ≤ w.heap.size
  big : 400 < sumP ts → v = .slice none 0 0 ∧ es = []
  same : sumP ts ≤ 400 → es.map El.p = ts.map absP
  row : PRow w base v es
  ok : ∀ e ∈ es, e.ok T w
  out : ∀ g, v.ownBlock = some g → ¬ T g
  inn : ∀ b, T b → base ≤ b ∧ b < w.heap.size
theorem LsAt.kept {S T T' : Nat → Prop} {w w' : World} {q base : Nat} {v : Value} {es : List El} {ts : List Tr} (h : LsAt T w q base v es ts) (hk : Kp S w w') (hq : ¬ S q) (hv : ∀ g, base ≤ g → g < w.heap.size → ¬ S g)
    (hT : ∀ b, T b → T' b) (ho : ∀ g, v.ownBlock = some g → ¬ T' g) (hi : ∀ b, T' b → base ≤ b ∧ b < w'.heap.size) (hTq : ¬ T' q) : LsAt T' w' q base v es ts :=
  ⟨hk.cell' h.c0 hq, hk.cell' h.c1 hq, fun i => (hk.frozen (p := ⟨q, i, none⟩) (World.block_lt_of_cell? w ⟨q, 0, none⟩ h.c0) hq).trans (h.warm i), ⟨Nat.lt_of_lt_of_le h.lt.1 hk.size, hTq, h.lt.2.2⟩, Nat.le_trans h.le hk.size, h.big, h.same,
    owns_kept h.row hk fun k hkk => hv k (h.row.lt k hkk).1 (h.row.lt k hkk).2, fun e he => ReV.wider (fun b hb _ => hT b hb) _ _ (ReV.kept hk (fun b hb hl => hv b (h.inn b hb).1 hl) _ _ (h.ok e he)), ho, hi⟩
theorem LsAt.no {T : Nat → Prop} {w w' : World} {q base : Nat} {v : Value} {es : List El} {ts : List Tr} (h : LsAt T w q base v es ts) (hk : Kp No w w') : LsAt T w' q base v es ts :=
  h.kept hk id (fun _ _ _ => id) (fun _ h => h) h.out (fun b hb => ⟨(h.inn b hb).1, Nat.lt_of_lt_of_le (h.inn b hb).2 hk.size⟩) h.lt.2.1

/-- behind add -/
def AddPost (T : Nat → Prop) (w : World) (q base : Nat) (ts : List Tr) (e : Ending) (w' : World) : Prop :=
  e = .returned (.tuple #[]) ∧ (∃ v' es', LsAt T w' q base v' es' ts) ∧ Kp (fun b => b = q ∨ (base ≤ b ∧ ¬ T b)) w w'
/-- behind add, with what turned: the list's own block, and that of its row -/
def AddOwn (T : Nat → Prop) (w : World) (q base : Nat) (v : Value) (ts : List Tr) (e : Ending) (w' : World) : Prop :=
  e = .returned (.tuple #[]) ∧ (∃ v' es', LsAt T w' q base v' es' ts ∧ (v'.ownBlock = v.ownBlock ∨ v'.ownBlock = none ∨ ∃ g, v'.ownBlock = some g ∧ w.heap.size ≤ g)) ∧ Kp (fun b => b = q ∨ some b = v.ownBlock) w w'

set_option maxRecDepth 100000 in
set_option maxHeartbeats 4000000 in
theorem add_own (T : Nat → Prop) (w : World) (q base : Nat) (v : Value) (es : List El) (ts : List Tr) (h : LsAt T w q base v es ts) (t : Tr) (x : Value) (hx : PtV T w (absP t) x) (hlen : ts.length ≤ 1000000000) :
    Calls Try.prog 68 #[.pointer (some ⟨q, 0, none⟩), x] w (AddOwn T w q base v (ts ++ [t])) := by
  obtain ⟨k1, f1, a1, n1, c1, rfl, hr1⟩ := hx
  have hb1 := absP_n t
  have hb2 := absP_h t
  have hsum : sumP (ts ++ [t]) = sumP ts + (absP t).n := by rw [sumP_append]; simp [sumP]
  have hle := sumP_le ts
  have H := Hid_mk h
  have HV := Hid_mk hr1
  have HSum := Hid_mk hsum
  obtain ⟨N, hN⟩ : ∃ N, sumP (ts ++ [t]) = N := ⟨_, rfl⟩
  have HN := Hid_mk hN
  obtain ⟨W0, hW0⟩ : ∃ W0, w.alloc (.cells (cellsP k1 f1 a1 n1 c1 (absP t).n (absP t).h) 103) = W0 := ⟨_, rfl⟩
  obtain ⟨r, hr⟩ : ∃ r, w.heap.size = r := ⟨_, rfl⟩
  have HK0 : Hid (Kp No w W0) := Hid_mk (by rw [← hW0]; exact (Kp.refl No w).alloc _)
  have hA : PAt W0 r (.int .i64 k1) (.int .u64 (wd f1 0 64 : Nat)) (.int .u64 (wd f1 64 64 : Nat)) (.int .u64 (wd f1 128 64 : Nat)) (.int .u64 (wd f1 192 64 : Nat)) (.slice a1 n1 c1) (.int .i64 ((absP t).n : Int)) (.int .i64 ((absP t).h : Int)) := by
    rw [← hW0, ← hr]
    exact PAt.new w _ _ _ _ _ _ _ _ _
  have h0 := h.no HK0.out
  have HA := Hid_mk hA
  have H0 := Hid_mk h0
  have d1 := h0.c1
  have d0 := h0.c0
  have dw := h0.warm
  have a6 := hA.c6
  unfold cellsP at hW0
  have HW0 := Hid_mk hW0
  have HR := Hid_mk hr
  have hw1 : IntKind.i64.wrap ((sumP ts : Nat) + ((absP t).n : Int)) = (N : Int) := by rw [IntWalk.i64_in _ (by omega)]; omega
  have hbig : N > 400 ∨ N ≤ 400 := by omega
  generalize hL : (absP t).n = L at *
  generalize hHh : (absP t).h = Hh at *
  generalize hS : sumP ts = S at *
  have HL := Hid_mk (show (⟨(absP t).t, L, Hh⟩ : Pt) = absP t by rw [← hL, ← hHh])
  clear hle hsum h hr1 hb1 hb2 hN hW0 hr hA h0 hL hHh
  go_enter Try.func68, Try.ntmps68
  unfold cellsP
  go_upto_region 1 with fail
  rw [HW0.out, HR.out]
  clear HW0
  go_region
  go_upto_region 2 with fail
  have hk1 : Kp (fun b => b = q) W0 (W0.setCell ⟨q, 1, none⟩ (.int .i64 (N : Int))).drew := ((Kp.refl (fun b => b = q) W0).setCell (p := ⟨q, 1, none⟩) (fun _ => rfl) _).drew
  have hz : q < r := by have := H.out.lt.1; have := HR.out; omega
  refine wp_name (fun W => Kp (fun b => b = q) W0 W ∧ W.cell? ⟨q, 0, none⟩ = some v ∧ W.cell? ⟨q, 1, none⟩ = some (.int .i64 (N : Int)) ∧ (∀ i, W.frozen? ⟨q, i, none⟩ = false) ∧ PAt W r (.int .i64 k1) (.int .u64 (wd f1 0 64 : Nat)) (.int .u64 (wd f1 64 64 : Nat)) (.int .u64 (wd f1 128 64 : Nat)) (.int .u64 (wd f1 192 64 : Nat)) (.slice a1 n1 c1) (.int .i64 (L : Int)) (.int .i64 (Hh : Int)))
    ⟨hk1, ?_, ?_, fun i => (World.frozen?_setCell _ _ _ _).trans (dw i), HA.out.kept hk1 (by show ¬ r = q; omega)⟩ ?_
  · show (W0.setCell ⟨q, 1, none⟩ (.int .i64 (N : Int))).cell? ⟨q, 0, none⟩ = some v
    rw [World.cell?_setCell_other _ _ _ _ (by intro e; cases e)]
    exact H0.out.c0
  · exact World.cell?_setCell_same _ _ _ H0.out.c1
  clear hk1
  rintro W1 ⟨hk1, e0, e1, ew, hA1⟩
  have HK1 := Hid_mk hk1
  clear hk1 d0 d1 dw a6
  rcases hbig with hbig | hbig
  · have hbi : (N : Int) > 400 := by omega
    have HBig := Hid_mk hbig
    have E1 := Hid_mk e1
    have E0 := Hid_mk e0
    have EW := Hid_mk ew
    clear hbig hA1
    go_wp2
    go_end0
    have hs1 : Kp (fun b => b = q) W1 (W1.setCell ⟨q, 0, none⟩ (.slice none 0 0)) := (Kp.refl (fun b => b = q) W1).setCell (p := ⟨q, 0, none⟩) (fun _ => rfl) _
    have hkf : Kp (fun b => b = q ∨ some b = v.ownBlock) w (W1.setCell ⟨q, 0, none⟩ (.slice none 0 0)) :=
      (HK0.out.to.trans HK1.out (T := fun b => b = q) fun i _ e => .inl e).trans hs1 (T := fun b => b = q) fun i _ e => .inl e
    refine ⟨rfl, ⟨_, [], ⟨World.cell?_setCell_same _ _ _ E0.out, ?_, fun i => (World.frozen?_setCell _ _ _ _).trans (EW.out i), ⟨Nat.lt_of_lt_of_le H.out.lt.1 hkf.size, H.out.lt.2.1, fun e => by cases e⟩, Nat.le_trans H.out.le hkf.size, fun _ => ⟨rfl, rfl⟩, fun h => ?_, World.ownsRow_nil _ _ _ _, fun e he => (by cases he), fun g hg => (by cases hg), fun b hb => ⟨(H.out.inn b hb).1, Nat.lt_of_lt_of_le (H.out.inn b hb).2 hkf.size⟩⟩, .inr (.inl rfl)⟩, hkf⟩
    · rw [World.cell?_setCell_other _ _ _ _ (by intro e; cases e), HN.out]
      exact E1.out
    · rw [HN.out] at h
      have := HBig.out
      omega
  · have hbi : ¬ (N : Int) > 400 := by omega
    have hk2 : Kp No W1 (W1.alloc (.cells #[.int .i64 k1, .int .u64 (wd f1 0 64 : Nat), .int .u64 (wd f1 64 64 : Nat), .int .u64 (wd f1 128 64 : Nat), .int .u64 (wd f1 192 64 : Nat), .slice a1 n1 c1, .int .i64 (L : Int), .int .i64 (Hh : Int)] 103)).drew := ((Kp.refl No W1).alloc _).drew
    have h1 := (H0.out.row)
    have hrow1 := owns_kept h1 HK1.out fun g e hgq => H.out.lt.2.2 (hgq ▸ e)
    have hrow2 := owns_kept hrow1 hk2 fun _ _ => id
    have hsmall : S ≤ 400 := by have e1 := HSum.out; have e2 := HN.out; rw [e2] at e1; omega
    have hes : es.length = ts.length := by have := congrArg List.length (H.out.same (by rw [hS]; exact hsmall)); simpa using this
    obtain ⟨v', w3, hr3, ho3, hk3, hloc, g9, cap9, rfl⟩ := run_pushP (W1.alloc (.cells #[.int .i64 k1, .int .u64 (wd f1 0 64 : Nat), .int .u64 (wd f1 64 64 : Nat), .int .u64 (wd f1 128 64 : Nat), .int .u64 (wd f1 192 64 : Nat), .slice a1 n1 c1, .int .i64 (L : Int), .int .i64 (Hh : Int)] 103)).drew 134 base v es hrow2 (by have := H.out.le; have := HK0.out.size; have := HK1.out.size; have := hk2.size; omega) ⟨k1, f1, a1, n1, c1, ⟨(absP t).t, L, Hh⟩⟩ W1.heap.size 1 (heap_alloc_new W1 _) (by omega)
    have hqv : ¬ some q = v.ownBlock := fun e => H.out.lt.2.2 e.symm
    have i0 := hk3.cell' (hk2.cell' e0 id) hqv
    have i1 := hk3.cell' (hk2.cell' e1 id) hqv
    have ql : q < W1.heap.size := World.block_lt_of_cell? W1 ⟨q, 0, none⟩ e0
    have iw : ∀ i, w3.frozen? ⟨q, i, none⟩ = false := fun i => (hk3.frozen (p := ⟨q, i, none⟩) (Nat.lt_of_lt_of_le ql hk2.size) hqv).trans ((hk2.frozen (p := ⟨q, i, none⟩) ql id).trans (ew i))
    have I0 := Hid_mk i0
    have HEs := Hid_mk hes
    have HSm := Hid_mk hsmall
    clear hes hsmall
    have I1 := Hid_mk i1
    have IW := Hid_mk iw
    have HO3 := Hid_mk ho3
    have HK2 := Hid_mk hk2
    have HK3 := Hid_mk hk3
    have HLoc := Hid_mk hloc
    have HQv := Hid_mk hqv
    have f0 : (W1.alloc (.cells #[.int .i64 k1, .int .u64 (wd f1 0 64 : Nat), .int .u64 (wd f1 64 64 : Nat), .int .u64 (wd f1 128 64 : Nat), .int .u64 (wd f1 192 64 : Nat), .slice a1 n1 c1, .int .i64 (L : Int), .int .i64 (Hh : Int)] 103)).cell? ⟨q, 0, none⟩ = some v := hk2.cell' e0 id
    obtain ⟨x0, x1, x2, x3, x4, x5, x6, x7, -⟩ := hA1
    clear hk2 h1 hrow1 hrow2 hqv i1 ql ho3 hk3 hloc
    go_wp2
    go_region_law (refine step_append_run rfl _ _ _ _ rfl hr3 ?_)
    all_goals
      go_wp2
      go_end0
      have hs1 : Kp (fun b => b = q) w3 (w3.setCell ⟨q, 0, none⟩ (.slice (some ⟨g9, 0, none⟩) (es.length + 1) cap9)) := (Kp.refl (fun b => b = q) w3).setCell (p := ⟨q, 0, none⟩) (fun _ => rfl) _
      have hk13 : Kp (fun b => some b = v.ownBlock) W1 w3 := HK2.out.to.trans' HK3.out
      have hgv : ∀ g, v.ownBlock = some g → base ≤ g ∧ ¬ T g := fun g e => ⟨(H.out.row.lt g e).1, H.out.out g e⟩
      have hkf : Kp (fun b => b = q ∨ some b = v.ownBlock) w (w3.setCell ⟨q, 0, none⟩ (.slice (some ⟨g9, 0, none⟩) (es.length + 1) cap9)) :=
        ((HK0.out.to.trans HK1.out (T := fun b => b = q) fun i _ e => .inl e).trans hk13 (T := fun b => some b = v.ownBlock) fun i _ e => .inr e).trans hs1 (T := fun b => b = q) fun i _ e => .inl e
      have hqT : ¬ T q := H.out.lt.2.1
      have hng : ¬ (Value.slice (some ⟨g9, 0, none⟩) (es.length + 1) cap9).ownBlock = some q := fun hg => by
        rcases HLoc.out with e | e
        · exact H.out.lt.2.2 (e ▸ hg)
        · rw [e] at hg
          have h1 := H.out.lt.1
          have h2 := HK0.out.size
          have h3 := HK1.out.size
          have h4 := HK2.out.size
          have h5 := Option.some.inj hg
          omega
      have hTS : ∀ b, T b → b < w.heap.size → ¬ (b = q ∨ some b = v.ownBlock) := fun b hb _ => by
        rintro (e | e)
        · exact hqT (e ▸ hb)
        · exact H.out.out b e.symm hb
      refine ⟨rfl, ⟨_, es ++ [⟨k1, f1, a1, n1, c1, ⟨(absP t).t, L, Hh⟩⟩], ⟨World.cell?_setCell_same _ _ _ I0.out, ?_, fun i => (World.frozen?_setCell _ _ _ _).trans (IW.out i), ⟨Nat.lt_of_lt_of_le H.out.lt.1 hkf.size, hqT, hng⟩, Nat.le_trans H.out.le hkf.size, fun h => ?_, fun h => ?_, ?_, fun e he => ?_, fun g hg => ?_, fun b hb => ⟨(H.out.inn b hb).1, Nat.lt_of_lt_of_le (H.out.inn b hb).2 hkf.size⟩⟩, ?_⟩, hkf⟩
      · rw [World.cell?_setCell_other _ _ _ _ (by intro e; cases e), HN.out]
        exact I1.out
      · rw [HN.out] at h
        omega
      · rw [List.map_append, List.map_append, H.out.same (by rw [hS]; exact HSm.out)]
        exact congrArg _ (congrArg (fun x => [x]) HL.out)
      · have := owns_kept HO3.out hs1 fun g e hgq => hng (hgq ▸ e)
        simpa [PRow] using this
      · rcases List.mem_append.1 he with he | he
        · exact ReV.kept hkf hTS _ _ (H.out.ok e he)
        · simp only [List.mem_singleton] at he
          subst he
          exact ReV.kept hkf hTS _ _ HV.out
      · rcases HLoc.out with e | e
        · exact H.out.out g (e ▸ hg)
        · rw [e] at hg
          intro hTg
          have h1 := (H.out.inn g hTg).2
          have h2 := HK0.out.size
          have h3 := HK1.out.size
          have h4 := HK2.out.size
          have h5 := Option.some.inj hg
          omega
      · rcases HLoc.out with e | e
        · exact .inl e
        · refine .inr (.inr ⟨_, e, ?_⟩)
          have h2 := HK0.out.size
          have h3 := HK1.out.size
          have h4 := HK2.out.size
          omega

theorem add_any (T : Nat → Prop) (w : World) (q base : Nat) (v : Value) (es : List El) (ts : List Tr) (h : LsAt T w q base v es ts) (t : Tr) (x : Value) (hx : PtV T w (absP t) x) (hlen : ts.length ≤ 1000000000) :
    Calls Try.prog 68 #[.pointer (some ⟨q, 0, none⟩), x] w (AddPost T w q base (ts ++ [t])) := by
  refine (add_own T w q base v es ts h t x hx hlen).mono ?_
  rintro e w' ⟨he, ⟨v', es', hl, -⟩, hk⟩
  refine ⟨he, ⟨v', es', hl⟩, hk.mono fun b _ hb => hb.imp id fun e => ⟨(h.row.lt b e.symm).1, h.out b e.symm⟩⟩

end Go.Proofs.Ytjalnddgbnjmcaa.ere

namespace Go.Proofs.Ytjalnddgbnjmcaa.ere
open Go.RowKit Go.Proofs.Ytjalnddgbnjmcaa.sum Go.Proofs.Ytjalnddgbnjmcaa.kept Go.Proofs.Ytjalnddgbnjmcaa.pop Go.Proofs.Ytjalnddgbnjmcaa.cls Go.Proofs.Ytjalnddgbnjmcaa.tre Go.Proofs.Ytjalnddgbnjmcaa.str
set_option linter.unusedVariables false

theorem not_no (b : Nat) : ¬ No b := id
theorem new3 {W1 w1 : World} {x0 x1 x2 : Value} {ty : TypeId} (h : Kp No ((W1.alloc (.cells #[x0, x1, x2] ty)).drew) w1) :
    w1.cell? ⟨W1.heap.size, 0, none⟩ = some x0 ∧ w1.cell? ⟨W1.heap.size, 1, none⟩ = some x1 ∧ w1.cell? ⟨W1.heap.size, 2, none⟩ = some x2 ∧ (∀ i, w1.frozen? ⟨W1.heap.size, i, none⟩ = false) ∧ Hid (Kp No W1 w1) :=
  ⟨h.cell' (by simp) id, h.cell' (by simp) id, h.cell' (by simp) id, fun i => by rw [h.frozen (p := ⟨W1.heap.size, i, none⟩) (by simp) id]; simp, Hid_mk (((Kp.refl No W1).alloc _).drew.trans' h)⟩
theorem kp_drew {W1 w1 : World} (h : Kp No W1.drew w1) : Hid (Kp No W1 w1) := Hid_mk ((Kp.refl No W1).drew.trans' h)
theorem three_put {w : World} {q : Nat} {x0 x1 x2 : Value} (h0 : w.cell? ⟨q, 0, none⟩ = some x0) (h1 : w.cell? ⟨q, 1, none⟩ = some x1) (h2 : w.cell? ⟨q, 2, none⟩ = some x2) (y0 y1 y2 : Value) :
    (((w.setCell ⟨q, 0, none⟩ y0).setCell ⟨q, 1, none⟩ y1).setCell ⟨q, 2, none⟩ y2).cell? ⟨q, 0, none⟩ = some y0 ∧ (((w.setCell ⟨q, 0, none⟩ y0).setCell ⟨q, 1, none⟩ y1).setCell ⟨q, 2, none⟩ y2).cell? ⟨q, 1, none⟩ = some y1 ∧ (((w.setCell ⟨q, 0, none⟩ y0).setCell ⟨q, 1, none⟩ y1).setCell ⟨q, 2, none⟩ y2).cell? ⟨q, 2, none⟩ = some y2 := by
  refine ⟨?_, ?_, ?_⟩
  · rw [World.cell?_setCell_other _ _ _ _ (by intro e; cases e), World.cell?_setCell_other _ _ _ _ (by intro e; cases e)]
    exact World.cell?_setCell_same _ _ _ h0
  · rw [World.cell?_setCell_other _ _ _ _ (by intro e; cases e)]
    exact World.cell?_setCell_same _ _ _ (by rw [World.cell?_setCell_other _ _ _ _ (by intro e; cases e)]; exact h1)
  · exact World.cell?_setCell_same _ _ _ (by rw [World.cell?_setCell_other _ _ _ _ (by intro e; cases e), World.cell?_setCell_other _ _ _ _ (by intro e; cases e)]; exact h2)
/-- so many of a part in a row -/
def AgC : Prop := ∀ (T : Nat → Prop) (w : World) (t : Tr) (v : Value) (x : Nat × Nat × Bool), PtV T w (absP t) v → x.1 ≤ x.2.1 → x.2.1 ≤ 50 → (x.2.2 = true → x.2.1 = x.1) →
  Calls Try.prog 109 #[v, .agg #[.int .i64 (x.1 : Int), .int .i64 (x.2.1 : Int), .bool x.2.2]] w fun e w' => ∃ v', e = .returned v' ∧ PtV (fun b => T b ∨ w.heap.size ≤ b) w' (absP (againT t x)) v' ∧ Kp No w w'
theorem times_ok {l : List UInt8} {k : Nat} {x : Nat × Nat × Bool} {n : Nat} (h : timesS l k = some (x, n)) : x.1 ≤ x.2.1 ∧ x.2.1 ≤ 50 ∧ (x.2.2 = true → x.2.1 = x.1) ∧ k < n ∧ n ≤ l.length := by
  unfold timesS at h
  simp only at h
  split at h
  · cases h
  · split at h
    · split at h
      · rename_i h1
        have h2 := sees_lt h1
        split at h
        · cases h
          exact ⟨Nat.le_refl _, by assumption, fun _ => rfl, by omega, by omega⟩
        · cases h
      · split at h
        · cases h
        · split at h
          · rename_i h1
            have h2 := sees_lt h1.1
            cases h
            exact ⟨h1.2.1, h1.2.2, fun e => (by cases e), by omega, by omega⟩
          · cases h
    · split at h
      · rename_i h1
        have h2 := sees_lt h1.1
        cases h
        exact ⟨Nat.le_refl _, h1.2, fun e => (by cases e), by omega, by omega⟩
      · cases h
/-- one sign -/
def sign1 (l : List UInt8) (t : Tr) (k : Nat) : Rs :=
  if atB l k = 42 then .ok (kid1 4 t) (k + 1)
  else if atB l k = 43 then .ok (kid1 5 t) (k + 1)
  else if atB l k = 63 then .ok (kid1 6 t) (k + 1)
  else match timesS l (k + 1) with
    | none => .bad 24 k
    | some (x, k') => .ok (againT t x) k'
/-- what a reader's call leaves: the part, its kids among T, and the place; or what is wrong -/
def RsPost (T : Nat → Prop) (w0 w : World) (q : Nat) (l : List UInt8) (k o : Nat) (r : Rs) (e : Ending) (w' : World) : Prop :=
  match r with
  | .ok t n => ∃ v, e = .returned (.tuple #[v, .int .i64 0]) ∧ PtV T w' (absP t) v ∧ RdAt w0 w' q l n o ∧ Kp (fun b => b = q) w w' ∧ k < n ∧ n ≤ l.length
  | .bad c n => ∃ o', e = .returned (.tuple #[.agg #[.int .i64 0, .int .u64 0, .int .u64 0, .int .u64 0, .int .u64 0, .slice none 0 0, .int .i64 0, .int .i64 0], .int .i64 (c : Int)]) ∧ RdAt w0 w' q l n o' ∧ Kp (fun b => b = q) w w' ∧ n ≤ l.length ∧ 0 < c

set_option maxRecDepth 100000 in
set_option maxHeartbeats 4000000 in
theorem sign_any {w0 w : World} {q : Nat} {l : List UInt8} {k o : Nat} (h : RdAt w0 w q l k o) (hl : l.length < 4294967281) (hk : k < l.length) (T : Nat → Prop) (t : Tr) (v : Value) (hv : PtV T w (absP t) v)
    (hT : ∀ b, w.heap.size ≤ b → T b) (hTq : ∀ b, T b → b ≠ q) (hx : atB l k = 42 ∨ atB l k = 43 ∨ atB l k = 63) :
    Calls Try.prog 95 #[.pointer (some ⟨q, 0, none⟩), v] w (RsPost T w0 w q l k o (sign1 l t k)) := by
  obtain ⟨xk, xf, xa, xn, xc, rfl, hr1⟩ := hv
  have hb : (absP t).n ≤ 401 ∧ (absP t).h ≤ 41 := ⟨absP_n t, absP_h t⟩
  obtain ⟨W0, hW0⟩ : ∃ W0, (w.alloc (.cells (cellsP xk xf xa xn xc (absP t).n (absP t).h) 103)).alloc (.cells #[.int .i64 0, .int .u64 0, .int .u64 0, .int .u64 0, .int .u64 0, .slice none 0 0, .int .i64 0, .int .i64 0] 103) = W0 := ⟨_, rfl⟩
  obtain ⟨r, hr⟩ : ∃ r, w.heap.size = r := ⟨_, rfl⟩
  have hK0 : Kp No w W0 := by rw [← hW0]; exact ((Kp.refl No w).alloc _).alloc _
  have hz : W0.heap.size = r + 2 := by rw [← hW0, ← hr]; simp
  obtain ⟨xp, hxp⟩ : ∃ xp, absP t = xp := ⟨_, rfl⟩
  rw [hxp] at hr1 hW0 hb ⊢
  have hA : PAt W0 r (.int .i64 xk) (.int .u64 (wd xf 0 64 : Nat)) (.int .u64 (wd xf 64 64 : Nat)) (.int .u64 (wd xf 128 64 : Nat)) (.int .u64 (wd xf 192 64 : Nat)) (.slice xa xn xc) (.int .i64 (xp.n : Int)) (.int .i64 (xp.h : Int)) := by
    rw [← hW0, ← hr]
    exact (PAt.new w _ _ _ _ _ _ _ _ _).kept ((Kp.refl No _).alloc _) id
  have hB : PAt W0 (r + 1) (.int .i64 0) (.int .u64 0) (.int .u64 0) (.int .u64 0) (.int .u64 0) (.slice none 0 0) (.int .i64 0) (.int .i64 0) := by
    have e : r + 1 = (w.alloc (.cells (cellsP xk xf xa xn xc xp.n xp.h) 103)).heap.size := by rw [← hr]; simp
    rw [← hW0, e]
    exact PAt.new _ _ _ _ _ _ _ _ _ _
  unfold cellsP at hW0
  have hR0 := h.no hK0
  have hqr : q < r := by have := h.lt; omega
  have hV0 : ReV (fun b => T b ∧ b ≠ r ∧ b ≠ r + 1) W0 xp.t (.agg (cellsR xk xf xa xn xc)) := ReV.no hK0 _ _ (ReV.wider (fun b hb hlt => ⟨hb, by omega, by omega⟩) _ _ hr1)
  obtain ⟨T1, hT1⟩ : ∃ T1, (fun b => T b ∧ b ≠ r ∧ b ≠ r + 1) = T1 := ⟨_, rfl⟩
  have hTn : ∀ b, r + 2 ≤ b → T1 b := by rw [← hT1]; exact fun b hb => ⟨hT b (by omega), by omega, by omega⟩
  have hTr : ∀ b, T1 b → b ≠ r ∧ b ≠ r + 1 ∧ b ≠ q := by rw [← hT1]; exact fun b hb => ⟨hb.2.1, hb.2.2, hTq b hb.1⟩
  have hTt : ∀ b, T1 b → T b := by rw [← hT1]; exact fun b hb => hb.1
  rw [hT1] at hV0
  have hsz := st_size l
  have hg := fun h => st_get l k h
  have hki : (k : Int) < (l.length : Int) := by omega
  have hki0 : (0 : Int) ≤ (k : Int) := Int.natCast_nonneg _
  have hwk : IntKind.i64.wrap ((k : Int) + 1) = ((k + 1 : Nat) : Int) := by rw [IntWalk.i64_in _ (by omega)]; push_cast; rfl
  have HKS := Hid_mk hk
  have HXp := Hid_mk hxp
  have HW0 := Hid_mk hW0
  have HR := Hid_mk hr
  have HK0 := Hid_mk hK0
  have HZ := Hid_mk hz
  have HA := Hid_mk hA
  have HB := Hid_mk hB
  have HR0 := Hid_mk hR0
  have HV0 := Hid_mk hV0
  have HTn := Hid_mk hTn
  have HTr := Hid_mk hTr
  have HTt := Hid_mk hTt
  have HQr := Hid_mk hqr
  have HBd := Hid_mk hb
  obtain ⟨y, hy⟩ : ∃ y, atB l k = y := ⟨_, rfl⟩
  have hg2 : ∀ h : k < (st l).size, ((st l)[k]).toNat = y := fun h => (hg h).trans hy
  have HY := Hid_mk hy
  rw [hy] at hx
  obtain ⟨R, hRs⟩ : ∃ R, sign1 l t k = R := ⟨_, rfl⟩
  rw [hRs]
  unfold sign1 at hRs
  rw [hy] at hRs
  have HRs := Hid_mk hRs
  have c0 := hR0.c0
  have c1 := hR0.c1
  clear hr1 hW0 hr hK0 hz hA hB hR0 hV0 hTn hTr hTt hb hT hTq hT1 hg hy hk h hqr hRs hxp
  go_enter Try.func95, Try.ntmps95
  unfold cellsP
  go_upto_region 1 with fail
  rw [HR.out, HW0.out]
  clear HW0
  go_wp2
  go_quiet (fail)
  go_upto_region 7 with fail
  refine wp_name (fun W => Kp No W0 W) ((Kp.refl No W0).drewN _) ?_
  clear hg2 c0 c1
  rintro W1 hk1
  have hA1 := HA.out.kept hk1 id
  have hB1 := HB.out.kept hk1 id
  have hR1 := HR0.out.no hk1
  have hV1 := ReV.no hk1 _ _ HV0.out
  have HK1 := Hid_mk hk1
  have HA1 := Hid_mk hA1
  have HB1 := Hid_mk hB1
  have HR1 := Hid_mk hR1
  have HV1 := Hid_mk hV1
  have HZ1 := Hid_mk (show r + 2 ≤ W1.heap.size by have := HZ.out; have := hk1.size; omega)
  have c0 := hR1.c0
  have c1 := hR1.c1
  have cw := hR1.warm
  obtain ⟨p0, p1, p2, p3, p4, p5, p6, p7, pw⟩ := hA1
  clear hk1 hB1 hR1 hV1 HV0 HR0 HA HB
  rcases hx with hx | hx | hx
  · subst hx
    have HR2 := Hid_mk (show R = .ok (kid1 4 t) (k + 1) from by rw [← HRs.out]; rfl)
    clear HRs
    have hone2 : Calls Try.prog 107 #[.int .i64 4, .agg (cellsP xk xf xa xn xc xp.n xp.h)] W1 fun e w' => ∃ uk uf ua un uc up, e = .returned (.agg (cellsP uk uf ua un uc (Pt.n up) (Pt.h up))) ∧ up = absP (kid1 4 t) ∧ ReV T1 w' up.t (.agg (cellsR uk uf ua un uc)) ∧ Kp No W1 w' := by
      have hone := one_any T1 W1 4 xp _ ⟨xk, xf, xa, xn, xc, rfl, HV1.out⟩ (fun b hb => HTn.out b (Nat.le_trans HZ1.out hb)) HBd.out
      rw [← HXp.out, ← abs1, HXp.out] at hone
      refine hone.mono ?_
      rintro e w' ⟨v, rfl, ⟨k, f, a, n, c, rfl, hv⟩, hk⟩
      exact ⟨k, f, a, n, c, _, rfl, rfl, hv, hk⟩
    unfold cellsP at hone2
    have HOne := Hid_mk hone2
    clear hone2
    go_wp2_with fail
    with_reducible refine HOne.out.mono ?_
    rintro e W2 ⟨uk, uf, ua, un, uc, up, rfl, hup, huo, hku⟩
    have hA2 := HA1.out.kept hku id
    have HUp := Hid_mk hup
    have HUo := Hid_mk huo
    have HKu := Hid_mk hku
    have HA2 := Hid_mk hA2
    clear p0 p1 p2 p3 p4 p5 p6 p7 pw c0 c1 cw hup huo hku
    obtain ⟨p0, p1, p2, p3, p4, p5, p6, p7, pw⟩ := hA2
    go_upto_region 13 with fail
    have hks : Kp (fun b => b = r) W2 (putP W2 r (.int .i64 uk) (.int .u64 (wd uf 0 64 : Nat)) (.int .u64 (wd uf 64 64 : Nat)) (.int .u64 (wd uf 128 64 : Nat)) (.int .u64 (wd uf 192 64 : Nat)) (.slice ua un uc) (.int .i64 (up.n : Int)) (.int .i64 (up.h : Int))) := kp_putP (q := r) (Kp.refl (fun b => b = r) W2) (fun _ => rfl) _ _ _ _ _ _ _ _
    have hA3 := HA2.out.put (.int .i64 uk) (.int .u64 (wd uf 0 64 : Nat)) (.int .u64 (wd uf 64 64 : Nat)) (.int .u64 (wd uf 128 64 : Nat)) (.int .u64 (wd uf 192 64 : Nat)) (.slice ua un uc) (.int .i64 (up.n : Int)) (.int .i64 (up.h : Int))
    have hB3 := (HB1.out.kept HKu.out id).kept hks (by show ¬ r + 1 = r; omega)
    have hR3 := (HR1.out.no HKu.out).kept hks (by show ¬ q = r; have := HQr.out; omega) (fun i e _ => by have h1 := HR1.out.ge; have h2 := HQr.out; show w0.heap.size ≤ i; have e : i = r := e; omega)
    have hV3 := ReV.kept hks (fun b hb _ => (HTr.out b hb).1) _ _ HUo.out
    have hk3 : Kp No w (putP W2 r (.int .i64 uk) (.int .u64 (wd uf 0 64 : Nat)) (.int .u64 (wd uf 64 64 : Nat)) (.int .u64 (wd uf 128 64 : Nat)) (.int .u64 (wd uf 192 64 : Nat)) (.slice ua un uc) (.int .i64 (up.n : Int)) (.int .i64 (up.h : Int))) := (HK0.out.trans' (HK1.out.trans' HKu.out)).trans hks (T := fun b => b = r) fun i hi e => by have := HR.out; omega
    unfold putP at hA3 hB3 hR3 hV3 hk3
    refine wp_name (fun W => PAt W r (.int .i64 uk) (.int .u64 (wd uf 0 64 : Nat)) (.int .u64 (wd uf 64 64 : Nat)) (.int .u64 (wd uf 128 64 : Nat)) (.int .u64 (wd uf 192 64 : Nat)) (.slice ua un uc) (.int .i64 (up.n : Int)) (.int .i64 (up.h : Int)) ∧ PAt W (r + 1) (.int .i64 0) (.int .u64 0) (.int .u64 0) (.int .u64 0) (.int .u64 0) (.slice none 0 0) (.int .i64 0) (.int .i64 0) ∧ RdAt w0 W q l k o ∧ ReV T1 W up.t (.agg (cellsR uk uf ua un uc)) ∧ Kp No w W) ⟨hA3, hB3, hR3, hV3, hk3⟩ ?_
    clear hks hA3 hB3 hR3 hV3 hk3 p0 p1 p2 p3 p4 p5 p6 p7 pw
    rintro W3 ⟨hA3, hB3, hR3, hV3, hk3⟩
    have HA3 := Hid_mk hA3
    have HB3 := Hid_mk hB3
    have HR3 := Hid_mk hR3
    have HV3 := Hid_mk hV3
    have HK3 := Hid_mk hk3
    have c1 := hR3.c1
    have cw := hR3.warm
    clear hA3 hB3 hR3 hV3 hk3
    go_upto_region 14 with fail
    have hks : Kp (fun b => b = q) W3 (W3.setCell ⟨q, 1, none⟩ (.int .i64 ((k + 1 : Nat) : Int))) := (Kp.refl (fun b => b = q) W3).setCell (p := ⟨q, 1, none⟩) (fun _ => rfl) _
    have hR4 := HR3.out.at' (k + 1)
    have hA4 := HA3.out.kept hks (by show ¬ r = q; have := HQr.out; omega)
    have hB4 := HB3.out.kept hks (by show ¬ r + 1 = q; have := HQr.out; omega)
    have hV4 := ReV.kept hks (fun b hb _ => (HTr.out b hb).2.2) _ _ HV3.out
    have hk4 : Kp (fun b => b = q) w _ := (HK3.out.to (S := fun b => b = q)).trans hks fun _ _ e => e
    refine wp_name (fun W => PAt W r (.int .i64 uk) (.int .u64 (wd uf 0 64 : Nat)) (.int .u64 (wd uf 64 64 : Nat)) (.int .u64 (wd uf 128 64 : Nat)) (.int .u64 (wd uf 192 64 : Nat)) (.slice ua un uc) (.int .i64 (up.n : Int)) (.int .i64 (up.h : Int)) ∧ PAt W (r + 1) (.int .i64 0) (.int .u64 0) (.int .u64 0) (.int .u64 0) (.int .u64 0) (.slice none 0 0) (.int .i64 0) (.int .i64 0) ∧ RdAt w0 W q l (k + 1) o ∧ ReV T1 W up.t (.agg (cellsR uk uf ua un uc)) ∧ Kp (fun b => b = q) w W) ⟨hA4, hB4, hR4, hV4, hk4⟩ ?_
    clear hks hA4 hB4 hR4 hV4 hk4 c1 cw
    rintro W4 ⟨hA4, hB4, hR4, hV4, hk4⟩
    have HR4 := Hid_mk hR4
    have HV4 := Hid_mk hV4
    have HK4 := Hid_mk hk4
    obtain ⟨p0, p1, p2, p3, p4, p5, p6, p7, pw⟩ := hA4
    obtain ⟨r0, r1, r2, r3, r4, r5, r6, r7, rw'⟩ := hB4
    clear hR4 hV4 hk4
    go_wp2
    have hkz : Kp (fun b => b = r + 1) W4 (putP W4 (r + 1) (.int .i64 uk) (.int .u64 (wd uf 0 64 : Nat)) (.int .u64 (wd uf 64 64 : Nat)) (.int .u64 (wd uf 128 64 : Nat)) (.int .u64 (wd uf 192 64 : Nat)) (.slice ua un uc) (.int .i64 (up.n : Int)) (.int .i64 (up.h : Int))) := kp_putP (q := r + 1) (Kp.refl (fun b => b = r + 1) W4) (fun _ => rfl) _ _ _ _ _ _ _ _
    have hRz := HR4.out.kept hkz (by show ¬ q = r + 1; have := HQr.out; omega) (fun i e _ => by have h1 := HR4.out.ge; have h2 := HQr.out; show w0.heap.size ≤ i; have e : i = r + 1 := e; omega)
    have hVz := ReV.wider (fun b hb _ => HTt.out b hb) _ _ (ReV.kept hkz (fun b hb _ => (HTr.out b hb).2.1) _ _ HV4.out)
    have hkf := HK4.out.trans hkz (T := fun b => b = r + 1) fun i hi e => by have := HR.out; omega
    refine bodyPost_ret (v := .tuple #[.agg (cellsP uk uf ua un uc up.n up.h), .int .i64 0]) ?_ rfl ?_
    · simp [results, Try.results95, go_sem, cellsP, r0, r1, r2, r3, r4, r5, r6, r7]
    · rw [HR2.out]
      exact ⟨_, rfl, by rw [← HUp.out]; exact ⟨uk, uf, ua, un, uc, rfl, hVz⟩, hRz, hkf, Nat.lt_succ_self _, HKS.out⟩
  · subst hx
    have HR2 := Hid_mk (show R = .ok (kid1 5 t) (k + 1) from by rw [← HRs.out]; rfl)
    clear HRs
    have hone2 : Calls Try.prog 107 #[.int .i64 5, .agg (cellsP xk xf xa xn xc xp.n xp.h)] W1 fun e w' => ∃ uk uf ua un uc up, e = .returned (.agg (cellsP uk uf ua un uc (Pt.n up) (Pt.h up))) ∧ up = absP (kid1 5 t) ∧ ReV T1 w' up.t (.agg (cellsR uk uf ua un uc)) ∧ Kp No W1 w' := by
      have hone := one_any T1 W1 5 xp _ ⟨xk, xf, xa, xn, xc, rfl, HV1.out⟩ (fun b hb => HTn.out b (Nat.le_trans HZ1.out hb)) HBd.out
      rw [← HXp.out, ← abs1, HXp.out] at hone
      refine hone.mono ?_
      rintro e w' ⟨v, rfl, ⟨k, f, a, n, c, rfl, hv⟩, hk⟩
      exact ⟨k, f, a, n, c, _, rfl, rfl, hv, hk⟩
    unfold cellsP at hone2
    have HOne := Hid_mk hone2
    clear hone2
    go_wp2_with fail
    with_reducible refine HOne.out.mono ?_
    rintro e W2 ⟨uk, uf, ua, un, uc, up, rfl, hup, huo, hku⟩
    have hA2 := HA1.out.kept hku id
    have HUp := Hid_mk hup
    have HUo := Hid_mk huo
    have HKu := Hid_mk hku
    have HA2 := Hid_mk hA2
    clear p0 p1 p2 p3 p4 p5 p6 p7 pw c0 c1 cw hup huo hku
    obtain ⟨p0, p1, p2, p3, p4, p5, p6, p7, pw⟩ := hA2
    go_upto_region 13 with fail
    have hks : Kp (fun b => b = r) W2 (putP W2 r (.int .i64 uk) (.int .u64 (wd uf 0 64 : Nat)) (.int .u64 (wd uf 64 64 : Nat)) (.int .u64 (wd uf 128 64 : Nat)) (.int .u64 (wd uf 192 64 : Nat)) (.slice ua un uc) (.int .i64 (up.n : Int)) (.int .i64 (up.h : Int))) := kp_putP (q := r) (Kp.refl (fun b => b = r) W2) (fun _ => rfl) _ _ _ _ _ _ _ _
    have hA3 := HA2.out.put (.int .i64 uk) (.int .u64 (wd uf 0 64 : Nat)) (.int .u64 (wd uf 64 64 : Nat)) (.int .u64 (wd uf 128 64 : Nat)) (.int .u64 (wd uf 192 64 : Nat)) (.slice ua un uc) (.int .i64 (up.n : Int)) (.int .i64 (up.h : Int))
    have hB3 := (HB1.out.kept HKu.out id).kept hks (by show ¬ r + 1 = r; omega)
    have hR3 := (HR1.out.no HKu.out).kept hks (by show ¬ q = r; have := HQr.out; omega) (fun i e _ => by have h1 := HR1.out.ge; have h2 := HQr.out; show w0.heap.size ≤ i; have e : i = r := e; omega)
    have hV3 := ReV.kept hks (fun b hb _ => (HTr.out b hb).1) _ _ HUo.out
    have hk3 : Kp No w (putP W2 r (.int .i64 uk) (.int .u64 (wd uf 0 64 : Nat)) (.int .u64 (wd uf 64 64 : Nat)) (.int .u64 (wd uf 128 64 : Nat)) (.int .u64 (wd uf 192 64 : Nat)) (.slice ua un uc) (.int .i64 (up.n : Int)) (.int .i64 (up.h : Int))) := (HK0.out.trans' (HK1.out.trans' HKu.out)).trans hks (T := fun b => b = r) fun i hi e => by have := HR.out; omega
    unfold putP at hA3 hB3 hR3 hV3 hk3
    refine wp_name (fun W => PAt W r (.int .i64 uk) (.int .u64 (wd uf 0 64 : Nat)) (.int .u64 (wd uf 64 64 : Nat)) (.int .u64 (wd uf 128 64 : Nat)) (.int .u64 (wd uf 192 64 : Nat)) (.slice ua un uc) (.int .i64 (up.n : Int)) (.int .i64 (up.h : Int)) ∧ PAt W (r + 1) (.int .i64 0) (.int .u64 0) (.int .u64 0) (.int .u64 0) (.int .u64 0) (.slice none 0 0) (.int .i64 0) (.int .i64 0) ∧ RdAt w0 W q l k o ∧ ReV T1 W up.t (.agg (cellsR uk uf ua un uc)) ∧ Kp No w W) ⟨hA3, hB3, hR3, hV3, hk3⟩ ?_
    clear hks hA3 hB3 hR3 hV3 hk3 p0 p1 p2 p3 p4 p5 p6 p7 pw
    rintro W3 ⟨hA3, hB3, hR3, hV3, hk3⟩
    have HA3 := Hid_mk hA3
    have HB3 := Hid_mk hB3
    have HR3 := Hid_mk hR3
    have HV3 := Hid_mk hV3
    have HK3 := Hid_mk hk3
    have c1 := hR3.c1
    have cw := hR3.warm
    clear hA3 hB3 hR3 hV3 hk3
    go_upto_region 14 with fail
    have hks : Kp (fun b => b = q) W3 (W3.setCell ⟨q, 1, none⟩ (.int .i64 ((k + 1 : Nat) : Int))) := (Kp.refl (fun b => b = q) W3).setCell (p := ⟨q, 1, none⟩) (fun _ => rfl) _
    have hR4 := HR3.out.at' (k + 1)
    have hA4 := HA3.out.kept hks (by show ¬ r = q; have := HQr.out; omega)
    have hB4 := HB3.out.kept hks (by show ¬ r + 1 = q; have := HQr.out; omega)
    have hV4 := ReV.kept hks (fun b hb _ => (HTr.out b hb).2.2) _ _ HV3.out
    have hk4 : Kp (fun b => b = q) w _ := (HK3.out.to (S := fun b => b = q)).trans hks fun _ _ e => e
    refine wp_name (fun W => PAt W r (.int .i64 uk) (.int .u64 (wd uf 0 64 : Nat)) (.int .u64 (wd uf 64 64 : Nat)) (.int .u64 (wd uf 128 64 : Nat)) (.int .u64 (wd uf 192 64 : Nat)) (.slice ua un uc) (.int .i64 (up.n : Int)) (.int .i64 (up.h : Int)) ∧ PAt W (r + 1) (.int .i64 0) (.int .u64 0) (.int .u64 0) (.int .u64 0) (.int .u64 0) (.slice none 0 0) (.int .i64 0) (.int .i64 0) ∧ RdAt w0 W q l (k + 1) o ∧ ReV T1 W up.t (.agg (cellsR uk uf ua un uc)) ∧ Kp (fun b => b = q) w W) ⟨hA4, hB4, hR4, hV4, hk4⟩ ?_
    clear hks hA4 hB4 hR4 hV4 hk4 c1 cw
    rintro W4 ⟨hA4, hB4, hR4, hV4, hk4⟩
    have HR4 := Hid_mk hR4
    have HV4 := Hid_mk hV4
    have HK4 := Hid_mk hk4
    obtain ⟨p0, p1, p2, p3, p4, p5, p6, p7, pw⟩ := hA4
    obtain ⟨r0, r1, r2, r3, r4, r5, r6, r7, rw'⟩ := hB4
    clear hR4 hV4 hk4
    go_wp2
    have hkz : Kp (fun b => b = r + 1) W4 (putP W4 (r + 1) (.int .i64 uk) (.int .u64 (wd uf 0 64 : Nat)) (.int .u64 (wd uf 64 64 : Nat)) (.int .u64 (wd uf 128 64 : Nat)) (.int .u64 (wd uf 192 64 : Nat)) (.slice ua un uc) (.int .i64 (up.n : Int)) (.int .i64 (up.h : Int))) := kp_putP (q := r + 1) (Kp.refl (fun b => b = r + 1) W4) (fun _ => rfl) _ _ _ _ _ _ _ _
    have hRz := HR4.out.kept hkz (by show ¬ q = r + 1; have := HQr.out; omega) (fun i e _ => by have h1 := HR4.out.ge; have h2 := HQr.out; show w0.heap.size ≤ i; have e : i = r + 1 := e; omega)
    have hVz := ReV.wider (fun b hb _ => HTt.out b hb) _ _ (ReV.kept hkz (fun b hb _ => (HTr.out b hb).2.1) _ _ HV4.out)
    have hkf := HK4.out.trans hkz (T := fun b => b = r + 1) fun i hi e => by have := HR.out; omega
    refine bodyPost_ret (v := .tuple #[.agg (cellsP uk uf ua un uc up.n up.h), .int .i64 0]) ?_ rfl ?_
    · simp [results, Try.results95, go_sem, cellsP, r0, r1, r2, r3, r4, r5, r6, r7]
    · rw [HR2.out]
      exact ⟨_, rfl, by rw [← HUp.out]; exact ⟨uk, uf, ua, un, uc, rfl, hVz⟩, hRz, hkf, Nat.lt_succ_self _, HKS.out⟩
  · subst hx
    have HR2 := Hid_mk (show R = .ok (kid1 6 t) (k + 1) from by rw [← HRs.out]; rfl)
    clear HRs
    have hone2 : Calls Try.prog 107 #[.int .i64 6, .agg (cellsP xk xf xa xn xc xp.n xp.h)] W1 fun e w' => ∃ uk uf ua un uc up, e = .returned (.agg (cellsP uk uf ua un uc (Pt.n up) (Pt.h up))) ∧ up = absP (kid1 6 t) ∧ ReV T1 w' up.t (.agg (cellsR uk uf ua un uc)) ∧ Kp No W1 w' := by
      have hone := one_any T1 W1 6 xp _ ⟨xk, xf, xa, xn, xc, rfl, HV1.out⟩ (fun b hb => HTn.out b (Nat.le_trans HZ1.out hb)) HBd.out
      rw [← HXp.out, ← abs1, HXp.out] at hone
      refine hone.mono ?_
      rintro e w' ⟨v, rfl, ⟨k, f, a, n, c, rfl, hv⟩, hk⟩
      exact ⟨k, f, a, n, c, _, rfl, rfl, hv, hk⟩
    unfold cellsP at hone2
    have HOne := Hid_mk hone2
    clear hone2
    go_wp2_with fail
    with_reducible refine HOne.out.mono ?_
    rintro e W2 ⟨uk, uf, ua, un, uc, up, rfl, hup, huo, hku⟩
    have hA2 := HA1.out.kept hku id
    have HUp := Hid_mk hup
    have HUo := Hid_mk huo
    have HKu := Hid_mk hku
    have HA2 := Hid_mk hA2
    clear p0 p1 p2 p3 p4 p5 p6 p7 pw c0 c1 cw hup huo hku
    obtain ⟨p0, p1, p2, p3, p4, p5, p6, p7, pw⟩ := hA2
    go_upto_region 13 with fail
    have hks : Kp (fun b => b = r) W2 (putP W2 r (.int .i64 uk) (.int .u64 (wd uf 0 64 : Nat)) (.int .u64 (wd uf 64 64 : Nat)) (.int .u64 (wd uf 128 64 : Nat)) (.int .u64 (wd uf 192 64 : Nat)) (.slice ua un uc) (.int .i64 (up.n : Int)) (.int .i64 (up.h : Int))) := kp_putP (q := r) (Kp.refl (fun b => b = r) W2) (fun _ => rfl) _ _ _ _ _ _ _ _
    have hA3 := HA2.out.put (.int .i64 uk) (.int .u64 (wd uf 0 64 : Nat)) (.int .u64 (wd uf 64 64 : Nat)) (.int .u64 (wd uf 128 64 : Nat)) (.int .u64 (wd uf 192 64 : Nat)) (.slice ua un uc) (.int .i64 (up.n : Int)) (.int .i64 (up.h : Int))
    have hB3 := (HB1.out.kept HKu.out id).kept hks (by show ¬ r + 1 = r; omega)
    have hR3 := (HR1.out.no HKu.out).kept hks (by show ¬ q = r; have := HQr.out; omega) (fun i e _ => by have h1 := HR1.out.ge; have h2 := HQr.out; show w0.heap.size ≤ i; have e : i = r := e; omega)
    have hV3 := ReV.kept hks (fun b hb _ => (HTr.out b hb).1) _ _ HUo.out
    have hk3 : Kp No w (putP W2 r (.int .i64 uk) (.int .u64 (wd uf 0 64 : Nat)) (.int .u64 (wd uf 64 64 : Nat)) (.int .u64 (wd uf 128 64 : Nat)) (.int .u64 (wd uf 192 64 : Nat)) (.slice ua un uc) (.int .i64 (up.n : Int)) (.int .i64 (up.h : Int))) := (HK0.out.trans' (HK1.out.trans' HKu.out)).trans hks (T := fun b => b = r) fun i hi e => by have := HR.out; omega
    unfold putP at hA3 hB3 hR3 hV3 hk3
    refine wp_name (fun W => PAt W r (.int .i64 uk) (.int .u64 (wd uf 0 64 : Nat)) (.int .u64 (wd uf 64 64 : Nat)) (.int .u64 (wd uf 128 64 : Nat)) (.int .u64 (wd uf 192 64 : Nat)) (.slice ua un uc) (.int .i64 (up.n : Int)) (.int .i64 (up.h : Int)) ∧ PAt W (r + 1) (.int .i64 0) (.int .u64 0) (.int .u64 0) (.int .u64 0) (.int .u64 0) (.slice none 0 0) (.int .i64 0) (.int .i64 0) ∧ RdAt w0 W q l k o ∧ ReV T1 W up.t (.agg (cellsR uk uf ua un uc)) ∧ Kp No w W) ⟨hA3, hB3, hR3, hV3, hk3⟩ ?_
    clear hks hA3 hB3 hR3 hV3 hk3 p0 p1 p2 p3 p4 p5 p6 p7 pw
    rintro W3 ⟨hA3, hB3, hR3, hV3, hk3⟩
    have HA3 := Hid_mk hA3
    have HB3 := Hid_mk hB3
    have HR3 := Hid_mk hR3
    have HV3 := Hid_mk hV3
    have HK3 := Hid_mk hk3
    have c1 := hR3.c1
    have cw := hR3.warm
    clear hA3 hB3 hR3 hV3 hk3
    go_upto_region 14 with fail
    have hks : Kp (fun b => b = q) W3 (W3.setCell ⟨q, 1, none⟩ (.int .i64 ((k + 1 : Nat) : Int))) := (Kp.refl (fun b => b = q) W3).setCell (p := ⟨q, 1, none⟩) (fun _ => rfl) _
    have hR4 := HR3.out.at' (k + 1)
    have hA4 := HA3.out.kept hks (by show ¬ r = q; have := HQr.out; omega)
    have hB4 := HB3.out.kept hks (by show ¬ r + 1 = q; have := HQr.out; omega)
    have hV4 := ReV.kept hks (fun b hb _ => (HTr.out b hb).2.2) _ _ HV3.out
    have hk4 : Kp (fun b => b = q) w _ := (HK3.out.to (S := fun b => b = q)).trans hks fun _ _ e => e
    refine wp_name (fun W => PAt W r (.int .i64 uk) (.int .u64 (wd uf 0 64 : Nat)) (.int .u64 (wd uf 64 64 : Nat)) (.int .u64 (wd uf 128 64 : Nat)) (.int .u64 (wd uf 192 64 : Nat)) (.slice ua un uc) (.int .i64 (up.n : Int)) (.int .i64 (up.h : Int)) ∧ PAt W (r + 1) (.int .i64 0) (.int .u64 0) (.int .u64 0) (.int .u64 0) (.int .u64 0) (.slice none 0 0) (.int .i64 0) (.int .i64 0) ∧ RdAt w0 W q l (k + 1) o ∧ ReV T1 W up.t (.agg (cellsR uk uf ua un uc)) ∧ Kp (fun b => b = q) w W) ⟨hA4, hB4, hR4, hV4, hk4⟩ ?_
    clear hks hA4 hB4 hR4 hV4 hk4 c1 cw
    rintro W4 ⟨hA4, hB4, hR4, hV4, hk4⟩
    have HR4 := Hid_mk hR4
    have HV4 := Hid_mk hV4
    have HK4 := Hid_mk hk4
    obtain ⟨p0, p1, p2, p3, p4, p5, p6, p7, pw⟩ := hA4
    obtain ⟨r0, r1, r2, r3, r4, r5, r6, r7, rw'⟩ := hB4
    clear hR4 hV4 hk4
    go_wp2
    have hkz : Kp (fun b => b = r + 1) W4 (putP W4 (r + 1) (.int .i64 uk) (.int .u64 (wd uf 0 64 : Nat)) (.int .u64 (wd uf 64 64 : Nat)) (.int .u64 (wd uf 128 64 : Nat)) (.int .u64 (wd uf 192 64 : Nat)) (.slice ua un uc) (.int .i64 (up.n : Int)) (.int .i64 (up.h : Int))) := kp_putP (q := r + 1) (Kp.refl (fun b => b = r + 1) W4) (fun _ => rfl) _ _ _ _ _ _ _ _
    have hRz := HR4.out.kept hkz (by show ¬ q = r + 1; have := HQr.out; omega) (fun i e _ => by have h1 := HR4.out.ge; have h2 := HQr.out; show w0.heap.size ≤ i; have e : i = r + 1 := e; omega)
    have hVz := ReV.wider (fun b hb _ => HTt.out b hb) _ _ (ReV.kept hkz (fun b hb _ => (HTr.out b hb).2.1) _ _ HV4.out)
    have hkf := HK4.out.trans hkz (T := fun b => b = r + 1) fun i hi e => by have := HR.out; omega
    refine bodyPost_ret (v := .tuple #[.agg (cellsP uk uf ua un uc up.n up.h), .int .i64 0]) ?_ rfl ?_
    · simp [results, Try.results95, go_sem, cellsP, r0, r1, r2, r3, r4, r5, r6, r7]
    · rw [HR2.out]
      exact ⟨_, rfl, by rw [← HUp.out]; exact ⟨uk, uf, ua, un, uc, rfl, hVz⟩, hRz, hkf, Nat.lt_succ_self _, HKS.out⟩

end Go.Proofs.Ytjalnddgbnjmcaa.ere
