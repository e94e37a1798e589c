/- The reference's lists of trees: one more of them; joined. -/
import Derived.Test.YtaneblecgjahbabEreCopied
import Derived.Test.YtaneblecgjahbabEreListM
import Derived.Test.YtaneblecgjahbabEreAtomM

namespace Go.Proofs.Ytaneblecgjahbab.ere
open Go.RowKit Go.Proofs.Ytaneblecgjahbab.sum Go.Proofs.Ytaneblecgjahbab.kept Go.Proofs.Ytaneblecgjahbab.pop Go.Proofs.Ytaneblecgjahbab.cls Go.Proofs.Ytaneblecgjahbab.tre Go.Proofs.Ytaneblecgjahbab.str
set_option linter.unusedVariables false

abbrev TRow (w : World) (base : Nat) (v : Value) (es : List E6) : Prop := w.ownsRow base 30 6 v es.length (es.flatMap E6.cells)
theorem run_push6 (w : World) (ty : TypeId) (base : Nat) (v : Value) (es : List E6) (h : TRow w base v es) (hbase : base ≤ w.heap.size) (e : E6) (g c : Nat) (hg : w.heap[g]? = some (.cells (cellsR e.k e.f e.a e.n e.c) 30 (0, 0))) (hn : es.length ≤ 1000000000) :
    ∃ v' w', (Builtin.append_ #[28, 28] ty #[v, .slice (some ⟨g, 0, none⟩) 1 c]).run Try.prog w = .ok v' w' ∧ TRow w' base v' (es ++ [e]) ∧ Kp (fun k => some k = v.ownBlock) w w' ∧ (v'.ownBlock = v.ownBlock ∨ v'.ownBlock = some w.heap.size) ∧ ∃ g' c', v' = .slice (some ⟨g', 0, none⟩) (es.length + 1) c' := by
  obtain ⟨i0, hi, hz0, hz1, hz2⟩ := info_parts infoRe
  obtain ⟨v', w', hr, k1, k2, k3, k4⟩ := run_append_own_at (P := Try.prog) w base 28 ty 30 i0 _ 6 64 Try.underlying28 hi hz0 hz1 hz2 rfl (by decide) v es.length _ h ⟨g, 0, none⟩ 1 c e.cells
    rfl (World.news_of_block (cs := cellsR e.k e.f e.a e.n e.c) hg) (by intro u hu; simp [E6.cells] at hu; rcases hu with rfl | rfl | rfl | rfl | rfl | rfl <;> rfl) (by unfold maxLen; omega) (by omega) hbase
  refine ⟨v', w', hr, by simpa [TRow] using k1, (Kp.refl _ _).grown k2 fun k _ e => e.symm, k4, ?_⟩
  rcases k1.2 with ⟨_, h0⟩ | ⟨g', cap, cur, rfl, _⟩
  · omega
  · exact ⟨g', cap, rfl⟩
/-- trees that lie in a row of one's own; their kids lie elsewhere, from base on -/
structure L6 (w : World) (base : Nat) (v : Value) (es : List (E6 × Tr)) : Prop where
  row : TRow w base v (es.map Prod.fst)
  ok : ∀ p ∈ es, ReV (fun b => base ≤ b ∧ v.ownBlock ≠ some b) w p.2 (.agg (cellsR p.1.k p.1.f p.1.a p.1.n p.1.c))
theorem L6.kept {S : Nat → Prop} {w w' : World} {base : Nat} {v : Value} {es : List (E6 × Tr)} (h : L6 w base v es) (hk : Kp S w w') (hS : ∀ b, base ≤ b → b < w.heap.size → ¬ S b) : L6 w' base v es :=
  ⟨owns_kept h.row hk fun k e => hS k (h.row.lt k e).1 (h.row.lt k e).2, fun p hp => ReV.kept hk (fun b hb hl => hS b hb.1 hl) _ _ (h.ok p hp)⟩
theorem L6.first {w : World} {base : Nat} (hb : base ≤ w.heap.size) (e : E6) (t : Tr) (hv : ReV (fun b => base ≤ b) w t (.agg (cellsR e.k e.f e.a e.n e.c))) : L6 (w.alloc (.cells (cellsR e.k e.f e.a e.n e.c) 30)) base (.slice (some ⟨w.heap.size, 0, none⟩) 1 1) [(e, t)] := by
  refine ⟨⟨by simp [E6.cells], .inr ⟨w.heap.size, 1, _, rfl, hb, heap_alloc_new w _, Nat.le_refl _, by decide, rfl, by simp [E6.cells]⟩⟩, fun p hp => ?_⟩
  simp only [List.mem_singleton] at hp
  subst hp
  exact ReV.no ((Kp.refl No w).alloc _) _ _ (ReV.wider (fun b hb hl => ⟨hb, fun e => by have e2 : w.heap.size = b := Option.some.inj e; omega⟩) _ _ hv)
theorem L6.push {W : World} {base B : Nat} {v : Value} {es : List (E6 × Tr)} (h : L6 W base v es) (hbase : base ≤ W.heap.size) (e : E6) (t : Tr) (hv : ReV (fun b => B ≤ b) W t (.agg (cellsR e.k e.f e.a e.n e.c))) (hB : base ≤ B) (hB2 : ∀ g, v.ownBlock = some g → g < B) (hn : es.length ≤ 1000000000) :
    ∃ g' c' w3, (Builtin.append_ #[28, 28] 28 #[v, .slice (some ⟨W.heap.size, 0, none⟩) 1 1]).run Try.prog (W.alloc (.cells (cellsR e.k e.f e.a e.n e.c) 30)) = .ok (.slice (some ⟨g', 0, none⟩) (es.length + 1) c') w3 ∧ L6 w3 base (.slice (some ⟨g', 0, none⟩) (es.length + 1) c') (es ++ [(e, t)]) ∧ Kp (fun b => base ≤ b) W w3 := by
  have hka := (Kp.refl No W).alloc (.cells (cellsR e.k e.f e.a e.n e.c) 30)
  obtain ⟨v', w3, hr, ho, hk, hloc, g', c', rfl⟩ := run_push6 _ 28 base v (es.map Prod.fst) (owns_kept h.row hka fun _ _ => id) (Nat.le_trans hbase hka.size) e W.heap.size 1 (heap_alloc_new W _) (by simpa using hn)
  rw [List.length_map] at hr ho hloc
  have hrow : ∀ k, v.ownBlock = some k → base ≤ k ∧ k < W.heap.size := fun k e => h.row.lt k e
  have hkf : Kp (fun b => some b = v.ownBlock) W w3 := hka.to.trans' hk
  have hwz := hka.size
  have hne : ∀ b, b < W.heap.size → v.ownBlock ≠ some b → (Value.slice (some ⟨g', 0, none⟩) (es.length + 1) c').ownBlock ≠ some b := fun b hb hv e => by
    rcases hloc with h1 | h1
    · exact hv (h1 ▸ e)
    · rw [h1] at e
      have := Option.some.inj e
      omega
  refine ⟨g', c', w3, hr, ⟨by simpa [TRow] using ho, fun p hp => ?_⟩, hkf.mono fun b _ e => (hrow b e.symm).1⟩
  rcases List.mem_append.1 hp with hp | hp
  · refine ReV.kept hkf (fun b hb hl e => ?_) _ _ (ReV.wider (T' := fun b => (base ≤ b ∧ (Value.slice (some ⟨g', 0, none⟩) (es.length + 1) c').ownBlock ≠ some b) ∧ v.ownBlock ≠ some b) (fun b hb hl => ⟨⟨hb.1, hne b hl hb.2⟩, hb.2⟩) _ _ (h.ok p hp)) |> ReV.wider (fun b hb _ => hb.1) _ _
    exact hb.2 e.symm
  · simp only [List.mem_singleton] at hp
    subst hp
    have hvb : ∀ b, B ≤ b → v.ownBlock ≠ some b := fun b hb e => by have := hB2 b e; omega
    refine ReV.kept hkf (fun b hb hl e => ?_) _ _ (ReV.wider (T' := fun b => (base ≤ b ∧ (Value.slice (some ⟨g', 0, none⟩) (es.length + 1) c').ownBlock ≠ some b) ∧ v.ownBlock ≠ some b) (fun b hb hl => ⟨⟨by omega, hne b hl (hvb b hb)⟩, hvb b hb⟩) _ _ hv) |> ReV.wider (fun b hb _ => hb.1) _ _
    exact hb.2 e.symm
theorem L6.old {w w' : World} {base : Nat} {v : Value} {es : List (E6 × Tr)} (h : L6 w base v es) (hk : Kp No w w') (i : Nat) (hi : i < es.length) : ReV (fun b => base ≤ b ∧ b < w.heap.size) w' es[i].2 (.agg (cellsR es[i].1.k es[i].1.f es[i].1.a es[i].1.n es[i].1.c)) :=
  ReV.no hk _ _ (ReV.wider (fun b hb hl => ⟨hb.1, hl⟩) _ _ (h.ok _ (List.getElem_mem hi)))
theorem L6.at' {w : World} {base g n c : Nat} {es : List (E6 × Tr)} (h : L6 w base (.slice (some ⟨g, 0, none⟩) n c) es) (i : Nat) (hi : i < es.length) :
    w.cell? ⟨g, i * 6, none⟩ = some (.int .i64 es[i].1.k) ∧ w.cell? ⟨g, i * 6 + 1, none⟩ = some (.int .u64 (wd es[i].1.f 0 64 : Nat)) ∧ w.cell? ⟨g, i * 6 + 2, none⟩ = some (.int .u64 (wd es[i].1.f 64 64 : Nat)) ∧ w.cell? ⟨g, i * 6 + 3, none⟩ = some (.int .u64 (wd es[i].1.f 128 64 : Nat)) ∧ w.cell? ⟨g, i * 6 + 4, none⟩ = some (.int .u64 (wd es[i].1.f 192 64 : Nat)) ∧
      w.cell? ⟨g, i * 6 + 5, none⟩ = some (.slice es[i].1.a es[i].1.n es[i].1.c) := by
  have hc := fun j u (hj : j < 6) (e : es[i].1.cells[j]? = some u) => by
    have hi' : i < (es.map Prod.fst).length := by simpa using hi
    have := World.ownsRow.cells (g := g) h.row rfl (i * 6 + j) u ((cells6_get (es.map Prod.fst) i j hi' hj).trans (by simpa using e))
    rw [addr_add, Nat.zero_add] at this
    exact this
  exact ⟨hc 0 _ (by decide) rfl, hc 1 _ (by decide) rfl, hc 2 _ (by decide) rfl, hc 3 _ (by decide) rfl, hc 4 _ (by decide) rfl, hc 5 _ (by decide) rfl⟩

set_option maxRecDepth 100000 in
set_option maxHeartbeats 1000000 in
theorem rtwo_any (T : Nat → Prop) (w : World) (kd : Int) {xk : Int} {xf : Nat → Bool} {xa : Option Addr} {xn xc : Nat} {yk : Int} {yf : Nat → Bool} {ya : Option Addr} {yn yc : Nat} {t u : Tr} (h1 : ReV T w t (.agg (cellsR xk xf xa xn xc))) (h2 : ReV T w u (.agg (cellsR yk yf ya yn yc))) (hT : ∀ b, w.heap.size ≤ b → T b) :
    Calls Try.prog 87 #[.int .i64 kd, .agg #[.int .i64 xk, .int .u64 (wd xf 0 64 : Nat), .int .u64 (wd xf 64 64 : Nat), .int .u64 (wd xf 128 64 : Nat), .int .u64 (wd xf 192 64 : Nat), .slice xa xn xc], .agg #[.int .i64 yk, .int .u64 (wd yf 0 64 : Nat), .int .u64 (wd yf 64 64 : Nat), .int .u64 (wd yf 128 64 : Nat), .int .u64 (wd yf 192 64 : Nat), .slice ya yn yc]] w fun e w' => ∃ a, e = .returned (.agg (cellsR kd nul a 2 2)) ∧ ReV T w' (kid2 kd t u) (.agg (cellsR kd nul a 2 2)) ∧ Kp No w w' := by
  obtain ⟨z, hz⟩ : ∃ z, w.heap.size = z := ⟨_, rfl⟩
  have HZ := Hid_mk hz
  have H1 := Hid_mk h1
  have H2 := Hid_mk h2
  have HT := Hid_mk hT
  clear h1 h2 hT
  go_enter Try.func87, Try.ntmps87
  go_upto_region 1 with fail
  refine wp_name (fun W => Kp No w W ∧ W.heap.size = z + 3 ∧ RAt W z (.int .i64 xk) (.int .u64 (wd xf 0 64 : Nat)) (.int .u64 (wd xf 64 64 : Nat)) (.int .u64 (wd xf 128 64 : Nat)) (.int .u64 (wd xf 192 64 : Nat)) (.slice xa xn xc) ∧ RAt W (z + 1) (.int .i64 yk) (.int .u64 (wd yf 0 64 : Nat)) (.int .u64 (wd yf 64 64 : Nat)) (.int .u64 (wd yf 128 64 : Nat)) (.int .u64 (wd yf 192 64 : Nat)) (.slice ya yn yc) ∧ RAt W (z + 1 + 1) (.int .i64 0) (.int .u64 0) (.int .u64 0) (.int .u64 0) (.int .u64 0) (.slice none 0 0)) ?_ ?_
  · rw [← hz]
    have e1 : w.heap.size + 1 = (w.alloc (.cells #[.int .i64 xk, .int .u64 (wd xf 0 64 : Nat), .int .u64 (wd xf 64 64 : Nat), .int .u64 (wd xf 128 64 : Nat), .int .u64 (wd xf 192 64 : Nat), .slice xa xn xc] 30)).heap.size := by simp
    have e2 : ∀ o o' : Obj, ((w.alloc o).alloc o').heap.size = w.heap.size + 1 + 1 := fun o o' => by simp
    refine ⟨(((Kp.refl No w).alloc _).alloc _).alloc _, by simp, ((RAt.new w _ _ _ _ _ _ _).kept ((Kp.refl No _).alloc _) id).kept ((Kp.refl No _).alloc _) id, ?_, ?_⟩
    · rw [e1]
      exact (RAt.new _ _ _ _ _ _ _ _).kept ((Kp.refl No _).alloc _) id
    · rw [← e2]
      exact RAt.new _ _ _ _ _ _ _ _
  rintro W0 ⟨hk0, hz0, hx0, hy0, hr0⟩
  have hs := kp_putR (q := z + 1 + 1) (Kp.refl (fun b => b = z + 1 + 1) W0) (fun _ => rfl) (.int .i64 kd) (.int .u64 0) (.int .u64 0) (.int .u64 0) (.int .u64 0) (.slice (some ⟨z + 3, 0, none⟩) 2 2)
  have hv1 := ReV.wider (T' := T) (fun b hb _ => hb.1) _ _ (ReV.kept hs (fun b hb _ e => by have h9 := hb.2; omega) _ _ (ReV.no hk0 _ _ (ReV.wider (T' := fun b => T b ∧ b < z) (fun b hb hl => ⟨hb, by have := HZ.out; omega⟩) _ _ H1.out)))
  have hv2 := ReV.wider (T' := T) (fun b hb _ => hb.1) _ _ (ReV.kept hs (fun b hb _ e => by have h9 := hb.2; omega) _ _ (ReV.no hk0 _ _ (ReV.wider (T' := fun b => T b ∧ b < z) (fun b hb hl => ⟨hb, by have := HZ.out; omega⟩) _ _ H2.out)))
  have m2 := made2 hv1 hv2 (HT.out _ (Nat.le_trans hk0.size hs.size)) kd nul 30
  have hka := (hk0.trans hs (T := fun b => b = z + 1 + 1) (fun i hi e => by have := HZ.out; omega)).alloc (.cells (cellsR xk xf xa xn xc ++ cellsR yk yf ya yn yc) 30)
  have hsz : (putR W0 (z + 1 + 1) (.int .i64 kd) (.int .u64 0) (.int .u64 0) (.int .u64 0) (.int .u64 0) (.slice (some ⟨z + 3, 0, none⟩) 2 2)).heap.size = z + 3 := by unfold putR; simp [World.setCell, hz0]
  rw [hsz] at m2
  unfold putR at m2 hka
  have hra := (hr0.put (.int .i64 kd) (.int .u64 0) (.int .u64 0) (.int .u64 0) (.int .u64 0) (.slice (some ⟨z + 3, 0, none⟩) 2 2)).kept ((Kp.refl No _).alloc (.cells (cellsR xk xf xa xn xc ++ cellsR yk yf ya yn yc) 30)) id
  unfold putR cellsR at hra
  simp only [List.append_toArray, List.cons_append, List.nil_append] at hra
  have HRa := Hid_mk hra
  have HM2 := Hid_mk m2
  have HKa := Hid_mk hka
  obtain ⟨x0, x1, x2, x3, x4, x5, xw⟩ := hx0
  obtain ⟨y0, y1, y2, y3, y4, y5, yw⟩ := hy0
  obtain ⟨r0, r1, r2, r3, r4, r5, rw'⟩ := hr0
  clear hk0 m2 hka hsz hs hv1 hv2 hz hra
  go_wp2
  obtain ⟨q0, q1, q2, q3, q4, q5, -⟩ := HRa.out
  refine bodyPost_ret (v := .agg (cellsR kd nul (some ⟨z + 3, 0, none⟩) 2 2)) ?_ rfl ⟨_, rfl, HM2.out, HKa.out⟩
  simp [results, Try.results87, go_sem, wd_nul, q0, q1, q2, q3, q4, q5]

def RrRel (W0 : World) (T : Nat → Prop) (r : Nat) (kd : Int) (ts : List Tr) (i : Value) (wr : World) : Prop :=
  ∃ (j : Nat) (x : E6), j < ts.length ∧ i = .int .i64 ((j : Int) - 1) ∧ ReV T wr (joinT kd (ts.drop j)) (.agg (cellsR x.k x.f x.a x.n x.c)) ∧
    RAt wr r (.int .i64 x.k) (.int .u64 (wd x.f 0 64 : Nat)) (.int .u64 (wd x.f 64 64 : Nat)) (.int .u64 (wd x.f 128 64 : Nat)) (.int .u64 (wd x.f 192 64 : Nat)) (.slice x.a x.n x.c) ∧ Kp (fun b => b = r) W0 wr

set_option maxRecDepth 100000 in
set_option maxHeartbeats 4000000 in
theorem rrow_any (w : World) (base g cap : Nat) (es : List (E6 × Tr)) (kd : Int) (h : L6 w base (.slice (some ⟨g, 0, none⟩) es.length cap) es) (hb : base ≤ w.heap.size) (hne : es ≠ []) (hlen : es.length ≤ 1000000000) :
    Calls Try.prog 69 #[.int .i64 kd, .slice (some ⟨g, 0, none⟩) es.length cap] w fun e w' => ∃ k f a n c, e = .returned (.agg (cellsR k f a n c)) ∧ ReV (fun b => base ≤ b) w' (joinT kd (es.map Prod.snd)) (.agg (cellsR k f a n c)) ∧ Kp No w w' := by
  obtain ⟨n, hn⟩ : ∃ n, es.length = n := ⟨_, rfl⟩
  have hn0 : 0 < n := by
    have := List.length_pos_iff.2 hne
    omega
  obtain ⟨ts, hts⟩ : ∃ ts, es.map Prod.snd = ts := ⟨_, rfl⟩
  have htl : ts.length = n := by rw [← hts, List.length_map, hn]
  obtain ⟨W0, hW0⟩ : ∃ W0, w.alloc (.cells #[.int .i64 0, .int .u64 0, .int .u64 0, .int .u64 0, .int .u64 0, .slice none 0 0] 30) = W0 := ⟨_, rfl⟩
  obtain ⟨r4, hr⟩ : ∃ r, w.heap.size = r := ⟨_, rfl⟩
  have hK0 : Kp No w W0 := by rw [← hW0]; exact (Kp.refl No w).alloc _
  have hz : W0.heap.size = r4 + 1 := by rw [← hW0, ← hr]; simp
  have hR : RAt W0 r4 (.int .i64 0) (.int .u64 0) (.int .u64 0) (.int .u64 0) (.int .u64 0) (.slice none 0 0) := by
    rw [← hW0, ← hr]
    exact RAt.new w _ _ _ _ _ _ _
  have h0 := h.kept hK0 (fun _ _ _ => id)
  have hlast := h0.at' (n - 1) (by omega)
  have hx := h.old hK0 (n - 1) (by omega)
  obtain ⟨x, hxe⟩ : ∃ x, es[n - 1]'(by omega) = x := ⟨_, rfl⟩
  rw [hxe] at hlast hx
  have hxj : x.2 = joinT kd (ts.drop (n - 1)) := by
    rw [List.drop_eq_getElem_cons (by omega : n - 1 < ts.length), List.drop_eq_nil_of_le (by omega)]
    show x.2 = ts[n - 1]
    rw [← hxe]
    simp [← hts]
  obtain ⟨⟨xk, xf, xa, xn, xc⟩, xt⟩ := x
  simp only at hlast hx hxj
  have hgl := h.row.lt g rfl
  have HW0 := Hid_mk hW0
  have HR4 := Hid_mk hr
  have HR := Hid_mk hR
  have H := Hid_mk h
  have H0 := Hid_mk h0
  have HZ := Hid_mk hz
  have HN := Hid_mk hn
  have HTs := Hid_mk hts
  have HTl := Hid_mk htl
  have HX := Hid_mk hx
  have HXj := Hid_mk hxj
  have HB := Hid_mk hb
  have HGl := Hid_mk hgl
  have HN0 := Hid_mk hn0
  have HKz := Hid_mk hK0
  have hqn : r4 < w.heap.size → No r4 := fun h => by omega
  have HQn := Hid_mk hqn
  obtain ⟨l0, l1, l2, l3, l4, l5⟩ := hlast
  rw [hn] at hlen ⊢
  have hw1 : IntKind.i64.wrap ((n : Int) - 1) = (n : Int) - 1 := IntWalk.i64_in _ (by omega)
  have hw2 : IntKind.i64.wrap ((n : Int) - 2) = (n : Int) - 2 := IntWalk.i64_in _ (by omega)
  have hnz : ((n : Int) == 0) = false := by rw [beq_eq_false_iff_ne]; omega
  have hnn : ((n : Int) - 1).toNat = n - 1 := by omega
  have hni : (0 : Int) ≤ (n : Int) - 1 := by omega
  have hni2 : (n : Int) - 1 < (n : Int) := by omega
  rw [hts]
  clear h0 h hW0 hr hz hne hx hxj hxe hn hR hts htl hb hqn hgl hK0
  go_enter Try.func69, Try.ntmps69
  go_upto_region 1 with fail
  rw [HR4.out, HW0.out]
  clear HW0
  go_upto_region 4 with fail
  rw [HZ.out]
  have hka : Kp No W0 (W0.alloc (.cells #[.int .i64 xk, .int .u64 (wd xf 0 64 : Nat), .int .u64 (wd xf 64 64 : Nat), .int .u64 (wd xf 128 64 : Nat), .int .u64 (wd xf 192 64 : Nat), .slice xa xn xc] 30)) := (Kp.refl No W0).alloc _
  have hpa : RAt (W0.alloc (.cells #[.int .i64 xk, .int .u64 (wd xf 0 64 : Nat), .int .u64 (wd xf 64 64 : Nat), .int .u64 (wd xf 128 64 : Nat), .int .u64 (wd xf 192 64 : Nat), .slice xa xn xc] 30)) (r4 + 1) (.int .i64 xk) (.int .u64 (wd xf 0 64 : Nat)) (.int .u64 (wd xf 64 64 : Nat)) (.int .u64 (wd xf 128 64 : Nat)) (.int .u64 (wd xf 192 64 : Nat)) (.slice xa xn xc) := by
    rw [← HZ.out]
    exact RAt.new _ _ _ _ _ _ _ _
  refine wp_name (fun W => Kp No W0 W ∧ RAt W (r4 + 1) (.int .i64 xk) (.int .u64 (wd xf 0 64 : Nat)) (.int .u64 (wd xf 64 64 : Nat)) (.int .u64 (wd xf 128 64 : Nat)) (.int .u64 (wd xf 192 64 : Nat)) (.slice xa xn xc) ∧ r4 + 2 ≤ W.heap.size) ⟨hka, hpa, hpa.lt⟩ ?_
  clear hka hpa l0 l1 l2 l3 l4 l5
  rintro W1 ⟨hk1, hp1, hz1⟩
  have hxok : ReV (fun b => base ≤ b ∧ b ≠ r4 + 1 ∧ b ≠ r4) W1 xt (.agg (cellsR xk xf xa xn xc)) := ReV.no hk1 _ _ (ReV.wider (fun b hb _ => ⟨hb.1, by have := HR4.out; omega, by have := HR4.out; omega⟩) _ _ HX.out)
  rw [HXj.out] at hxok
  have HXo := Hid_mk hxok
  have HP1 := Hid_mk hp1
  have HK1 := Hid_mk hk1
  have HZ1 := Hid_mk hz1
  clear hxok hp1 hk1 hz1 hnn hni hni2
  go_wp2
  go_loopw [6] (fun i wr => RrRel W1 (fun b => base ≤ b ∧ b ≠ r4 + 1 ∧ b ≠ r4) (r4 + 1) kd ts i wr) (fun i _ => (intOf i + 1).toNat)
  case atStart => exact ⟨n - 1, ⟨xk, xf, xa, xn, xc⟩, by rw [HTl.out]; have := HN0.out; omega, by congr 1; have := HN0.out; omega, HXo.out, HP1.out, Kp.refl _ _⟩
  case round =>
    obtain ⟨j, ⟨yk, yf, ya, yn, yc⟩, hj, rfl, hyo, hya, hkr⟩ := hrel
    simp only at hyo hya
    have HYo := Hid_mk hyo
    have HYa := Hid_mk hya
    have HKr := Hid_mk hkr
    rw [HTl.out] at hj
    by_cases hj0 : j = 0
    · have hneg : ¬ (j : Int) - 1 ≥ 0 := by omega
      have hR5 := (HR.out.kept HK1.out id).kept hkr (by show ¬ r4 = r4 + 1; omega)
      have HR5 := Hid_mk hR5
      obtain ⟨p0, p1, p2, p3, p4, p5, pw⟩ := hya
      obtain ⟨r0, r1, r2, r3, r4', r5, rw'⟩ := hR5
      subst hj0
      clear hyo hkr
      go_wp2
      have hk5 : Kp (fun b => b = r4) wr (putR wr r4 (.int .i64 yk) (.int .u64 (wd yf 0 64 : Nat)) (.int .u64 (wd yf 64 64 : Nat)) (.int .u64 (wd yf 128 64 : Nat)) (.int .u64 (wd yf 192 64 : Nat)) (.slice ya yn yc)) := kp_putR (q := r4) (Kp.refl (fun b => b = r4) wr) (fun _ => rfl) _ _ _ _ _ _
      have hkA : Kp No w wr := (HKz.out.trans' HK1.out).trans HKr.out (T := fun b => b = r4 + 1) fun i hi e => by have := HR4.out; omega
      have hkf := hkA.trans hk5 (T := fun b => b = r4) fun i hi e => by have := HR4.out; omega
      have hpj := HYo.out
      rw [List.drop_zero] at hpj
      refine bodyPost_ret (v := .agg (cellsR yk yf ya yn yc)) ?_ rfl ⟨yk, yf, ya, yn, yc, rfl, ReV.wider (fun b hb _ => hb.1) _ _ (ReV.kept hk5 (fun b hb _ => hb.2.2) _ _ hpj), hkf⟩
      simp [results, Try.results69, go_sem, r0, r1, r2, r3, r4', r5]
    · have hpos : (j : Int) - 1 ≥ 0 := by omega
      have hji : (j : Int) - 1 < (n : Int) := by omega
      have hjt : ((j : Int) - 1).toNat = j - 1 := by omega
      have hwj : IntKind.i64.wrap ((j : Int) - 1 - 1) = (j : Int) - 1 - 1 := IntWalk.i64_in _ (by omega)
      have hS1 : ∀ b, base ≤ b → b < w.heap.size → ¬ b = r4 + 1 := fun b _ hl => by have := HR4.out; omega
      have hl6 : L6 wr base (.slice (some ⟨g, 0, none⟩) es.length cap) es := ((H.out.kept HKz.out (fun _ _ _ => id)).kept HK1.out (fun _ _ _ => id)).row |> fun hrow => ⟨owns_kept hrow hkr fun b e => by have h1 := H.out.row.lt b e; exact hS1 b h1.1 h1.2, fun p hp => by
        have h2 := ReV.wider (T' := fun b => (base ≤ b ∧ (Value.slice (some ⟨g, 0, none⟩) es.length cap).ownBlock ≠ some b) ∧ b < w.heap.size) (fun b hb hl => ⟨hb, hl⟩) _ _ (H.out.ok p hp)
        exact ReV.wider (fun b hb _ => hb.1) _ _ (ReV.kept hkr (fun b hb _ => hS1 b hb.1.1 hb.2) _ _ (ReV.no HK1.out _ _ (ReV.no HKz.out _ _ h2)))⟩
      have hm := hl6.at' (j - 1) (by rw [HN.out]; omega)
      have hzo : ReV (fun b => base ≤ b ∧ b ≠ r4 + 1 ∧ b ≠ r4) wr (es[j - 1]'(by rw [HN.out]; omega)).2 (.agg (cellsR (es[j - 1]'(by rw [HN.out]; omega)).1.k (es[j - 1]'(by rw [HN.out]; omega)).1.f (es[j - 1]'(by rw [HN.out]; omega)).1.a (es[j - 1]'(by rw [HN.out]; omega)).1.n (es[j - 1]'(by rw [HN.out]; omega)).1.c)) :=
        ReV.wider (fun b hb _ => ⟨hb.1, by have := HR4.out; omega, by have := HR4.out; omega⟩) _ _ (ReV.kept hkr (fun b hb _ => hS1 b hb.1 hb.2) _ _ (ReV.no HK1.out _ _ (H.out.old HKz.out (j - 1) (by rw [HN.out]; omega))))
      have hstep : joinT kd (ts.drop (j - 1)) = kid2 kd (es[j - 1]'(by rw [HN.out]; omega)).2 (joinT kd (ts.drop j)) := by
        rw [join_drop kd ts (j - 1) (by rw [HTl.out]; omega)]
        congr 1
        · simp [← HTs.out]
        · congr 2
          omega
      obtain ⟨z, hze⟩ : ∃ z, es[j - 1]'(by rw [HN.out]; omega) = z := ⟨_, rfl⟩
      rw [hze] at hm hzo hstep
      obtain ⟨⟨zk, zf, za, zn, zc⟩, zt⟩ := z
      simp only at hm hzo hstep
      obtain ⟨m0, m1, m2, m3, m4, m5⟩ := hm
      have hsz : r4 + 2 ≤ wr.heap.size := by have h8 := hkr.size; have h9 := HZ1.out; omega
      have htwo := rtwo_any (fun b => base ≤ b ∧ b ≠ r4 + 1 ∧ b ≠ r4) wr.drew kd (ReV.no (Kp.refl No wr).drew _ _ hzo) (ReV.no (Kp.refl No wr).drew _ _ hyo) (fun b hb => ⟨by have h8 : r4 + 2 ≤ b := Nat.le_trans hsz hb; have h9 := HR4.out; have h7 := HB.out; omega, by have h8 : r4 + 2 ≤ b := Nat.le_trans hsz hb; omega, by have h8 : r4 + 2 ≤ b := Nat.le_trans hsz hb; omega⟩)
      rw [← hstep] at htwo
      have htwo2 : Calls Try.prog 87 #[.int .i64 kd, .agg #[.int .i64 zk, .int .u64 (wd zf 0 64 : Nat), .int .u64 (wd zf 64 64 : Nat), .int .u64 (wd zf 128 64 : Nat), .int .u64 (wd zf 192 64 : Nat), .slice za zn zc], .agg #[.int .i64 yk, .int .u64 (wd yf 0 64 : Nat), .int .u64 (wd yf 64 64 : Nat), .int .u64 (wd yf 128 64 : Nat), .int .u64 (wd yf 192 64 : Nat), .slice ya yn yc]] wr.drew fun e w' => ∃ uk uf ua un uc, e = .returned (.agg (cellsR uk uf ua un uc)) ∧ ReV (fun b => base ≤ b ∧ b ≠ r4 + 1 ∧ b ≠ r4) w' (joinT kd (ts.drop (j - 1))) (.agg (cellsR uk uf ua un uc)) ∧ Kp No wr w' := by
        refine htwo.mono ?_
        rintro e w' ⟨a, rfl, hv, hk⟩
        exact ⟨kd, nul, a, 2, 2, rfl, hv, (Kp.refl No wr).drew.trans' hk⟩
      unfold cellsR at htwo2
      have HTwo := Hid_mk htwo2
      obtain ⟨p0, p1, p2, p3, p4, p5, pw⟩ := id hya
      have qkeep : ∀ w1, Kp No wr w1 → RAt w1 (r4 + 1) (.int .i64 yk) (.int .u64 (wd yf 0 64 : Nat)) (.int .u64 (wd yf 64 64 : Nat)) (.int .u64 (wd yf 128 64 : Nat)) (.int .u64 (wd yf 192 64 : Nat)) (.slice ya yn yc) := fun w1 h => HYa.out.kept h id
      have HQk := Hid_mk qkeep
      clear hyo hkr hS1 hl6 hzo hstep hze hsz htwo htwo2 hya qkeep
      go_wp2
      go_region_with (first
        | (go_at_call 87; with_reducible refine HTwo.out.mono ?_; rintro e w1 ⟨uk, uf, ua, un, uc, rfl, huo, hku⟩; have HUo := Hid_mk huo; have HKu := Hid_mk hku; obtain ⟨p0, p1, p2, p3, p4, p5, pw⟩ := HQk.out w1 hku; clear huo hku))
      all_goals
        go_wp2
        go_roundw
        case rel =>
          have hks : Kp (fun b => b = r4 + 1) w1 (putR w1 (r4 + 1) (.int .i64 uk) (.int .u64 (wd uf 0 64 : Nat)) (.int .u64 (wd uf 64 64 : Nat)) (.int .u64 (wd uf 128 64 : Nat)) (.int .u64 (wd uf 192 64 : Nat)) (.slice ua un uc)) := kp_putR (q := r4 + 1) (Kp.refl (fun b => b = r4 + 1) w1) (fun _ => rfl) _ _ _ _ _ _
          refine ⟨j - 1, ⟨uk, uf, ua, un, uc⟩, by rw [HTl.out]; omega, by congr 1; omega, ReV.kept hks (fun b hb _ => hb.2.1) _ _ HUo.out, (HQk.out w1 HKu.out).put _ _ _ _ _ _, (HKr.out.trans HKu.out (T := No) fun _ _ e => e.elim).trans hks (T := fun b => b = r4 + 1) fun _ _ e => e⟩
        case measure => simp only [intOf]; omega

end Go.Proofs.Ytaneblecgjahbab.ere
