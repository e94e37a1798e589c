/- The reference's lists of trees: one more of them; joined. append onto a row of bytes of the call's own: of bytes that are read in whatever slice, of a string; where the row lies behind it. What package pack's Writer and an append of a callee leave: plain facts. bytes.Clone. Bytes as a text. Cuts of a slice of bytes. A remainder; a byte that is turned. -/
import Derived.Test.YtaneblecgjahbabEreCopied
import Derived.Test.YtaneblecgjahbabEreListM
import Derived.Test.YtaneblecgjahbabEreAtomM
import Derived.Test.YtaneblecgjahbabBaseM
import Derived.Maps.AppendAt
import Derived.Lib.AppendStr
import Derived.Deep.AppendSrc
import Derived.Laws.IdiomStrings
import Derived.Laws.BytesArg
import Derived.Laws.Pointers
import Derived.OwnWalk
import Derived.RegionTactic
import Derived.Laws.BitsAllLaws
import Derived.IntWalk
import Derived.Deep.RegionWith
import Derived.StillTailTactics
import Derived.RegionCalls

namespace Go.Proofs.Ytaneblecgjahbab.ere
open Go.RowKit Go.Proofs.Ytaneblecgjahbab.sum Go.Proofs.Ytaneblecgjahbab.kept Go.Proofs.Ytaneblecgjahbab.pop Go.Proofs.Ytaneblecgjahbab.cls Go.Proofs.Ytaneblecgjahbab.tre Go.Proofs.Ytaneblecgjahbab.str
set_option linter.unusedVariables false

abbrev TRow (w : World) (base : Nat) (v : Value) (es : List E6) : Prop := w.ownsRow base 30 6 v es.length (es.flatMap E6.cells)
theorem run_push6 (w : World) (ty : TypeId) (base : Nat) (v : Value) (es : List E6) (h : TRow w base v es) (hbase : base ≤ w.heap.size) (e : E6) (g c : Nat) (hg : w.heap[g]? = some (.cells (cellsR e.k e.f e.a e.n e.c) 30 (0, 0))) (hn : es.length ≤ 1000000000) :
    ∃ v' w', (Builtin.append_ #[28, 28] ty #[v, .slice (some ⟨g, 0, none⟩) 1 c]).run Try.prog w = .ok v' w' ∧ TRow w' base v' (es ++ [e]) ∧ Kp (fun k => some k = v.ownBlock) w w' ∧ (v'.ownBlock = v.ownBlock ∨ v'.ownBlock = some w.heap.size) ∧ ∃ g' c', v' = .slice (some ⟨g', 0, none⟩) (es.length + 1) c' := by
  obtain ⟨i0, hi, hz0, hz1, hz2⟩ := info_parts infoRe
  obtain ⟨v', w', hr, k1, k2, k3, k4⟩ := run_append_own_at (P := Try.prog) w base 28 ty 30 i0 _ 6 64 Try.underlying28 hi hz0 hz1 hz2 rfl (by decide) v es.length _ h ⟨g, 0, none⟩ 1 c e.cells
    rfl (World.news_of_block (cs := cellsR e.k e.f e.a e.n e.c) hg) (by intro u hu; simp [E6.cells] at hu; rcases hu with rfl | rfl | rfl | rfl | rfl | rfl <;> rfl) (by unfold maxLen; omega) (by omega) hbase
  refine ⟨v', w', hr, by simpa [TRow] using k1, (Kp.refl _ _).grown k2 fun k _ e => e.symm, k4, ?_⟩
  rcases k1.2 with ⟨_, h0⟩ | ⟨g', cap, cur, rfl, _⟩
  · omega
  · exact ⟨g', cap, rfl⟩
/-- trees that lie in a row of one's own; their kids lie elsewhere, from base on -/
structure L6 (w : World) (base : Nat) (v : Value) (es : List (E6 × Tr)) : Prop where
  row : TRow w base v (es.map Prod.fst)
  ok : ∀ p ∈ es, ReV (fun b => base ≤ b ∧ v.ownBlock ≠ some b) w p.2 (.agg (cellsR p.1.k p.1.f p.1.a p.1.n p.1.c))
theorem L6.kept {S : Nat → Prop} {w w' : World} {base : Nat} {v : Value} {es : List (E6 × Tr)} (h : L6 w base v es) (hk : Kp S w w') (hS : ∀ b, base ≤ b → b < w.heap.size → ¬ S b) : L6 w' base v es :=
  ⟨owns_kept h.row hk fun k e => hS k (h.row.lt k e).1 (h.row.lt k e).2, fun p hp => ReV.kept hk (fun b hb hl => hS b hb.1 hl) _ _ (h.ok p hp)⟩
theorem L6.first {w : World} {base : Nat} (hb : base ≤ w.heap.size) (e : E6) (t : Tr) (hv : ReV (fun b => base ≤ b) w t (.agg (cellsR e.k e.f e.a e.n e.c))) : L6 (w.alloc (.cells (cellsR e.k e.f e.a e.n e.c) 30)) base (.slice (some ⟨w.heap.size, 0, none⟩) 1 1) [(e, t)] := by
  refine ⟨⟨by simp [E6.cells], .inr ⟨w.heap.size, 1, _, rfl, hb, heap_alloc_new w _, Nat.le_refl _, by decide, rfl, by simp [E6.cells]⟩⟩, fun p hp => ?_⟩
  simp only [List.mem_singleton] at hp
  subst hp
  exact ReV.no ((Kp.refl No w).alloc _) _ _ (ReV.wider (fun b hb hl => ⟨hb, fun e => by have e2 : w.heap.size = b := Option.some.inj e; omega⟩) _ _ hv)
theorem L6.push {W : World} {base B : Nat} {v : Value} {es : List (E6 × Tr)} (h : L6 W base v es) (hbase : base ≤ W.heap.size) (e : E6) (t : Tr) (hv : ReV (fun b => B ≤ b) W t (.agg (cellsR e.k e.f e.a e.n e.c))) (hB : base ≤ B) (hB2 : ∀ g, v.ownBlock = some g → g < B) (hn : es.length ≤ 1000000000) :
    ∃ g' c' w3, (Builtin.append_ #[28, 28] 28 #[v, .slice (some ⟨W.heap.size, 0, none⟩) 1 1]).run Try.prog (W.alloc (.cells (cellsR e.k e.f e.a e.n e.c) 30)) = .ok (.slice (some ⟨g', 0, none⟩) (es.length + 1) c') w3 ∧ L6 w3 base (.slice (some ⟨g', 0, none⟩) (es.length + 1) c') (es ++ [(e, t)]) ∧ Kp (fun b => base ≤ b) W w3 := by
  have hka := (Kp.refl No W).alloc (.cells (cellsR e.k e.f e.a e.n e.c) 30)
  obtain ⟨v', w3, hr, ho, hk, hloc, g', c', rfl⟩ := run_push6 _ 28 base v (es.map Prod.fst) (owns_kept h.row hka fun _ _ => id) (Nat.le_trans hbase hka.size) e W.heap.size 1 (heap_alloc_new W _) (by simpa using hn)
  rw [List.length_map] at hr ho hloc
  have hrow : ∀ k, v.ownBlock = some k → base ≤ k ∧ k < W.heap.size := fun k e => h.row.lt k e
  have hkf : Kp (fun b => some b = v.ownBlock) W w3 := hka.to.trans' hk
  have hwz := hka.size
  have hne : ∀ b, b < W.heap.size → v.ownBlock ≠ some b → (Value.slice (some ⟨g', 0, none⟩) (es.length + 1) c').ownBlock ≠ some b := fun b hb hv e => by
    rcases hloc with h1 | h1
    · exact hv (h1 ▸ e)
    · rw [h1] at e
      have := Option.some.inj e
      omega
  refine ⟨g', c', w3, hr, ⟨by simpa [TRow] using ho, fun p hp => ?_⟩, hkf.mono fun b _ e => (hrow b e.symm).1⟩
  rcases List.mem_append.1 hp with hp | hp
  · refine ReV.kept hkf (fun b hb hl e => ?_) _ _ (ReV.wider (T' := fun b => (base ≤ b ∧ (Value.slice (some ⟨g', 0, none⟩) (es.length + 1) c').ownBlock ≠ some b) ∧ v.ownBlock ≠ some b) (fun b hb hl => ⟨⟨hb.1, hne b hl hb.2⟩, hb.2⟩) _ _ (h.ok p hp)) |> ReV.wider (fun b hb _ => hb.1) _ _
    exact hb.2 e.symm
  · simp only [List.mem_singleton] at hp
    subst hp
    have hvb : ∀ b, B ≤ b → v.ownBlock ≠ some b := fun b hb e => by have := hB2 b e; omega
    refine ReV.kept hkf (fun b hb hl e => ?_) _ _ (ReV.wider (T' := fun b => (base ≤ b ∧ (Value.slice (some ⟨g', 0, none⟩) (es.length + 1) c').ownBlock ≠ some b) ∧ v.ownBlock ≠ some b) (fun b hb hl => ⟨⟨by omega, hne b hl (hvb b hb)⟩, hvb b hb⟩) _ _ hv) |> ReV.wider (fun b hb _ => hb.1) _ _
    exact hb.2 e.symm
theorem L6.old {w w' : World} {base : Nat} {v : Value} {es : List (E6 × Tr)} (h : L6 w base v es) (hk : Kp No w w') (i : Nat) (hi : i < es.length) : ReV (fun b => base ≤ b ∧ b < w.heap.size) w' es[i].2 (.agg (cellsR es[i].1.k es[i].1.f es[i].1.a es[i].1.n es[i].1.c)) :=
  ReV.no hk _ _ (ReV.wider (fun b hb hl => ⟨hb.1, hl⟩) _ _ (h.ok _ (List.getElem_mem hi)))
theorem L6.at' {w : World} {base g n c : Nat} {es : List (E6 × Tr)} (h : L6 w base (.slice (some ⟨g, 0, none⟩) n c) es) (i : Nat) (hi : i < es.length) :
    w.cell? ⟨g, i * 6, none⟩ = some (.int .i64 es[i].1.k) ∧ w.cell? ⟨g, i * 6 + 1, none⟩ = some (.int .u64 (wd es[i].1.f 0 64 : Nat)) ∧ w.cell? ⟨g, i * 6 + 2, none⟩ = some (.int .u64 (wd es[i].1.f 64 64 : Nat)) ∧ w.cell? ⟨g, i * 6 + 3, none⟩ = some (.int .u64 (wd es[i].1.f 128 64 : Nat)) ∧ w.cell? ⟨g, i * 6 + 4, none⟩ = some (.int .u64 (wd es[i].1.f 192 64 : Nat)) ∧
      w.cell? ⟨g, i * 6 + 5, none⟩ = some (.slice es[i].1.a es[i].1.n es[i].1.c) := by
  have hc := fun j u (hj : j < 6) (e : es[i].1.cells[j]? = some u) => by
    have hi' : i < (es.map Prod.fst).length := by simpa using hi
    have := World.ownsRow.cells (g := g) h.row rfl (i * 6 + j) u ((cells6_get (es.map Prod.fst) i j hi' hj).trans (by simpa using e))
    rw [addr_add, Nat.zero_add] at this
    exact this
  exact ⟨hc 0 _ (by decide) rfl, hc 1 _ (by decide) rfl, hc 2 _ (by decide) rfl, hc 3 _ (by decide) rfl, hc 4 _ (by decide) rfl, hc 5 _ (by decide) rfl⟩

set_option maxRecDepth 100000 in
set_option maxHeartbeats 1000000 in
theorem rtwo_any (T : Nat → Prop) (w : World) (kd : Int) {xk : Int} {xf : Nat → Bool} {xa : Option Addr} {xn xc : Nat} {yk : Int} {yf : Nat → Bool} {ya : Option Addr} {yn yc : Nat} {t u : Tr} (h1 : ReV T w t (.agg (cellsR xk xf xa xn xc))) (h2 : ReV T w u (.agg (cellsR yk yf ya yn yc))) (hT : ∀ b, w.heap.size ≤ b → T b) :
    Calls Try.prog 87 #[.int .i64 kd, .agg #[.int .i64 xk, .int .u64 (wd xf 0 64 : Nat), .int .u64 (wd xf 64 64 : Nat), .int .u64 (wd xf 128 64 : Nat), .int .u64 (wd xf 192 64 : Nat), .slice xa xn xc], .agg #[.int .i64 yk, .int .u64 (wd yf 0 64 : Nat), .int .u64 (wd yf 64 64 : Nat), .int .u64 (wd yf 128 64 : Nat), .int .u64 (wd yf 192 64 : Nat), .slice ya yn yc]] w fun e w' => ∃ a, e = .returned (.agg (cellsR kd nul a 2 2)) ∧ ReV T w' (kid2 kd t u) (.agg (cellsR kd nul a 2 2)) ∧ Kp No w w' := by
  obtain ⟨z, hz⟩ : ∃ z, w.heap.size = z := ⟨_, rfl⟩
  have HZ := Hid_mk hz
  have H1 := Hid_mk h1
  have H2 := Hid_mk h2
  have HT := Hid_mk hT
  clear h1 h2 hT
  go_enter Try.func87, Try.ntmps87
  go_upto_region 1 with fail
  refine wp_name (fun W => Kp No w W ∧ W.heap.size = z + 3 ∧ RAt W z (.int .i64 xk) (.int .u64 (wd xf 0 64 : Nat)) (.int .u64 (wd xf 64 64 : Nat)) (.int .u64 (wd xf 128 64 : Nat)) (.int .u64 (wd xf 192 64 : Nat)) (.slice xa xn xc) ∧ RAt W (z + 1) (.int .i64 yk) (.int .u64 (wd yf 0 64 : Nat)) (.int .u64 (wd yf 64 64 : Nat)) (.int .u64 (wd yf 128 64 : Nat)) (.int .u64 (wd yf 192 64 : Nat)) (.slice ya yn yc) ∧ RAt W (z + 1 + 1) (.int .i64 0) (.int .u64 0) (.int .u64 0) (.int .u64 0) (.int .u64 0) (.slice none 0 0)) ?_ ?_
  · rw [← hz]
    have e1 : w.heap.size + 1 = (w.alloc (.cells #[.int .i64 xk, .int .u64 (wd xf 0 64 : Nat), .int .u64 (wd xf 64 64 : Nat), .int .u64 (wd xf 128 64 : Nat), .int .u64 (wd xf 192 64 : Nat), .slice xa xn xc] 30)).heap.size := by simp
    have e2 : ∀ o o' : Obj, ((w.alloc o).alloc o').heap.size = w.heap.size + 1 + 1 := fun o o' => by simp
    refine ⟨(((Kp.refl No w).alloc _).alloc _).alloc _, by simp, ((RAt.new w _ _ _ _ _ _ _).kept ((Kp.refl No _).alloc _) id).kept ((Kp.refl No _).alloc _) id, ?_, ?_⟩
    · rw [e1]
      exact (RAt.new _ _ _ _ _ _ _ _).kept ((Kp.refl No _).alloc _) id
    · rw [← e2]
      exact RAt.new _ _ _ _ _ _ _ _
  rintro W0 ⟨hk0, hz0, hx0, hy0, hr0⟩
  have hs := kp_putR (q := z + 1 + 1) (Kp.refl (fun b => b = z + 1 + 1) W0) (fun _ => rfl) (.int .i64 kd) (.int .u64 0) (.int .u64 0) (.int .u64 0) (.int .u64 0) (.slice (some ⟨z + 3, 0, none⟩) 2 2)
  have hv1 := ReV.wider (T' := T) (fun b hb _ => hb.1) _ _ (ReV.kept hs (fun b hb _ e => by have h9 := hb.2; omega) _ _ (ReV.no hk0 _ _ (ReV.wider (T' := fun b => T b ∧ b < z) (fun b hb hl => ⟨hb, by have := HZ.out; omega⟩) _ _ H1.out)))
  have hv2 := ReV.wider (T' := T) (fun b hb _ => hb.1) _ _ (ReV.kept hs (fun b hb _ e => by have h9 := hb.2; omega) _ _ (ReV.no hk0 _ _ (ReV.wider (T' := fun b => T b ∧ b < z) (fun b hb hl => ⟨hb, by have := HZ.out; omega⟩) _ _ H2.out)))
  have m2 := made2 hv1 hv2 (HT.out _ (Nat.le_trans hk0.size hs.size)) kd nul 30
  have hka := (hk0.trans hs (T := fun b => b = z + 1 + 1) (fun i hi e => by have := HZ.out; omega)).alloc (.cells (cellsR xk xf xa xn xc ++ cellsR yk yf ya yn yc) 30)
  have hsz : (putR W0 (z + 1 + 1) (.int .i64 kd) (.int .u64 0) (.int .u64 0) (.int .u64 0) (.int .u64 0) (.slice (some ⟨z + 3, 0, none⟩) 2 2)).heap.size = z + 3 := by unfold putR; simp [World.setCell, hz0]
  rw [hsz] at m2
  unfold putR at m2 hka
  have hra := (hr0.put (.int .i64 kd) (.int .u64 0) (.int .u64 0) (.int .u64 0) (.int .u64 0) (.slice (some ⟨z + 3, 0, none⟩) 2 2)).kept ((Kp.refl No _).alloc (.cells (cellsR xk xf xa xn xc ++ cellsR yk yf ya yn yc) 30)) id
  unfold putR cellsR at hra
  simp only [List.append_toArray, List.cons_append, List.nil_append] at hra
  have HRa := Hid_mk hra
  have HM2 := Hid_mk m2
  have HKa := Hid_mk hka
  obtain ⟨x0, x1, x2, x3, x4, x5, xw⟩ := hx0
  obtain ⟨y0, y1, y2, y3, y4, y5, yw⟩ := hy0
  obtain ⟨r0, r1, r2, r3, r4, r5, rw'⟩ := hr0
  clear hk0 m2 hka hsz hs hv1 hv2 hz hra
  go_wp2
  obtain ⟨q0, q1, q2, q3, q4, q5, -⟩ := HRa.out
  refine bodyPost_ret (v := .agg (cellsR kd nul (some ⟨z + 3, 0, none⟩) 2 2)) ?_ rfl ⟨_, rfl, HM2.out, HKa.out⟩
  simp [results, Try.results87, go_sem, wd_nul, q0, q1, q2, q3, q4, q5]

def RrRel (W0 : World) (T : Nat → Prop) (r : Nat) (kd : Int) (ts : List Tr) (i : Value) (wr : World) : Prop :=
  ∃ (j : Nat) (x : E6), j < ts.length ∧ i = .int .i64 ((j : Int) - 1) ∧ ReV T wr (joinT kd (ts.drop j)) (.agg (cellsR x.k x.f x.a x.n x.c)) ∧
    RAt wr r (.int .i64 x.k) (.int .u64 (wd x.f 0 64 : Nat)) (.int .u64 (wd x.f 64 64 : Nat)) (.int .u64 (wd x.f 128 64 : Nat)) (.int .u64 (wd x.f 192 64 : Nat)) (.slice x.a x.n x.c) ∧ Kp (fun b => b = r) W0 wr

set_option maxRecDepth 100000 in
set_option maxHeartbeats 4000000 in
theorem rrow_any (w : World) (base g cap : Nat) (es : List (E6 × Tr)) (kd : Int) (h : L6 w base (.slice (some ⟨g, 0, none⟩) es.length cap) es) (hb : base ≤ w.heap.size) (hne : es ≠ []) (hlen : es.length ≤ 1000000000) :
    Calls Try.prog 69 #[.int .i64 kd, .slice (some ⟨g, 0, none⟩) es.length cap] w fun e w' => ∃ k f a n c, e = .returned (.agg (cellsR k f a n c)) ∧ ReV (fun b => base ≤ b) w' (joinT kd (es.map Prod.snd)) (.agg (cellsR k f a n c)) ∧ Kp No w w' := by
  obtain ⟨n, hn⟩ : ∃ n, es.length = n := ⟨_, rfl⟩
  have hn0 : 0 < n := by
    have := List.length_pos_iff.2 hne
    omega
  obtain ⟨ts, hts⟩ : ∃ ts, es.map Prod.snd = ts := ⟨_, rfl⟩
  have htl : ts.length = n := by rw [← hts, List.length_map, hn]
  obtain ⟨W0, hW0⟩ : ∃ W0, w.alloc (.cells #[.int .i64 0, .int .u64 0, .int .u64 0, .int .u64 0, .int .u64 0, .slice none 0 0] 30) = W0 := ⟨_, rfl⟩
  obtain ⟨r4, hr⟩ : ∃ r, w.heap.size = r := ⟨_, rfl⟩
  have hK0 : Kp No w W0 := by rw [← hW0]; exact (Kp.refl No w).alloc _
  have hz : W0.heap.size = r4 + 1 := by rw [← hW0, ← hr]; simp
  have hR : RAt W0 r4 (.int .i64 0) (.int .u64 0) (.int .u64 0) (.int .u64 0) (.int .u64 0) (.slice none 0 0) := by
    rw [← hW0, ← hr]
    exact RAt.new w _ _ _ _ _ _ _
  have h0 := h.kept hK0 (fun _ _ _ => id)
  have hlast := h0.at' (n - 1) (by omega)
  have hx := h.old hK0 (n - 1) (by omega)
  obtain ⟨x, hxe⟩ : ∃ x, es[n - 1]'(by omega) = x := ⟨_, rfl⟩
  rw [hxe] at hlast hx
  have hxj : x.2 = joinT kd (ts.drop (n - 1)) := by
    rw [List.drop_eq_getElem_cons (by omega : n - 1 < ts.length), List.drop_eq_nil_of_le (by omega)]
    show x.2 = ts[n - 1]
    rw [← hxe]
    simp [← hts]
  obtain ⟨⟨xk, xf, xa, xn, xc⟩, xt⟩ := x
  simp only at hlast hx hxj
  have hgl := h.row.lt g rfl
  have HW0 := Hid_mk hW0
  have HR4 := Hid_mk hr
  have HR := Hid_mk hR
  have H := Hid_mk h
  have H0 := Hid_mk h0
  have HZ := Hid_mk hz
  have HN := Hid_mk hn
  have HTs := Hid_mk hts
  have HTl := Hid_mk htl
  have HX := Hid_mk hx
  have HXj := Hid_mk hxj
  have HB := Hid_mk hb
  have HGl := Hid_mk hgl
  have HN0 := Hid_mk hn0
  have HKz := Hid_mk hK0
  have hqn : r4 < w.heap.size → No r4 := fun h => by omega
  have HQn := Hid_mk hqn
  obtain ⟨l0, l1, l2, l3, l4, l5⟩ := hlast
  rw [hn] at hlen ⊢
  have hw1 : IntKind.i64.wrap ((n : Int) - 1) = (n : Int) - 1 := IntWalk.i64_in _ (by omega)
  have hw2 : IntKind.i64.wrap ((n : Int) - 2) = (n : Int) - 2 := IntWalk.i64_in _ (by omega)
  have hnz : ((n : Int) == 0) = false := by rw [beq_eq_false_iff_ne]; omega
  have hnn : ((n : Int) - 1).toNat = n - 1 := by omega
  have hni : (0 : Int) ≤ (n : Int) - 1 := by omega
  have hni2 : (n : Int) - 1 < (n : Int) := by omega
  rw [hts]
  clear h0 h hW0 hr hz hne hx hxj hxe hn hR hts htl hb hqn hgl hK0
  go_enter Try.func69, Try.ntmps69
  go_upto_region 1 with fail
  rw [HR4.out, HW0.out]
  clear HW0
  go_upto_region 4 with fail
  rw [HZ.out]
  have hka : Kp No W0 (W0.alloc (.cells #[.int .i64 xk, .int .u64 (wd xf 0 64 : Nat), .int .u64 (wd xf 64 64 : Nat), .int .u64 (wd xf 128 64 : Nat), .int .u64 (wd xf 192 64 : Nat), .slice xa xn xc] 30)) := (Kp.refl No W0).alloc _
  have hpa : RAt (W0.alloc (.cells #[.int .i64 xk, .int .u64 (wd xf 0 64 : Nat), .int .u64 (wd xf 64 64 : Nat), .int .u64 (wd xf 128 64 : Nat), .int .u64 (wd xf 192 64 : Nat), .slice xa xn xc] 30)) (r4 + 1) (.int .i64 xk) (.int .u64 (wd xf 0 64 : Nat)) (.int .u64 (wd xf 64 64 : Nat)) (.int .u64 (wd xf 128 64 : Nat)) (.int .u64 (wd xf 192 64 : Nat)) (.slice xa xn xc) := by
    rw [← HZ.out]
    exact RAt.new _ _ _ _ _ _ _ _
  refine wp_name (fun W => Kp No W0 W ∧ RAt W (r4 + 1) (.int .i64 xk) (.int .u64 (wd xf 0 64 : Nat)) (.int .u64 (wd xf 64 64 : Nat)) (.int .u64 (wd xf 128 64 : Nat)) (.int .u64 (wd xf 192 64 : Nat)) (.slice xa xn xc) ∧ r4 + 2 ≤ W.heap.size) ⟨hka, hpa, hpa.lt⟩ ?_
  clear hka hpa l0 l1 l2 l3 l4 l5
  rintro W1 ⟨hk1, hp1, hz1⟩
  have hxok : ReV (fun b => base ≤ b ∧ b ≠ r4 + 1 ∧ b ≠ r4) W1 xt (.agg (cellsR xk xf xa xn xc)) := ReV.no hk1 _ _ (ReV.wider (fun b hb _ => ⟨hb.1, by have := HR4.out; omega, by have := HR4.out; omega⟩) _ _ HX.out)
  rw [HXj.out] at hxok
  have HXo := Hid_mk hxok
  have HP1 := Hid_mk hp1
  have HK1 := Hid_mk hk1
  have HZ1 := Hid_mk hz1
  clear hxok hp1 hk1 hz1 hnn hni hni2
  go_wp2
  go_loopw [6] (fun i wr => RrRel W1 (fun b => base ≤ b ∧ b ≠ r4 + 1 ∧ b ≠ r4) (r4 + 1) kd ts i wr) (fun i _ => (intOf i + 1).toNat)
  case atStart => exact ⟨n - 1, ⟨xk, xf, xa, xn, xc⟩, by rw [HTl.out]; have := HN0.out; omega, by congr 1; have := HN0.out; omega, HXo.out, HP1.out, Kp.refl _ _⟩
  case round =>
    obtain ⟨j, ⟨yk, yf, ya, yn, yc⟩, hj, rfl, hyo, hya, hkr⟩ := hrel
    simp only at hyo hya
    have HYo := Hid_mk hyo
    have HYa := Hid_mk hya
    have HKr := Hid_mk hkr
    rw [HTl.out] at hj
    by_cases hj0 : j = 0
    · have hneg : ¬ (j : Int) - 1 ≥ 0 := by omega
      have hR5 := (HR.out.kept HK1.out id).kept hkr (by show ¬ r4 = r4 + 1; omega)
      have HR5 := Hid_mk hR5
      obtain ⟨p0, p1, p2, p3, p4, p5, pw⟩ := hya
      obtain ⟨r0, r1, r2, r3, r4', r5, rw'⟩ := hR5
      subst hj0
      clear hyo hkr
      go_wp2
      have hk5 : Kp (fun b => b = r4) wr (putR wr r4 (.int .i64 yk) (.int .u64 (wd yf 0 64 : Nat)) (.int .u64 (wd yf 64 64 : Nat)) (.int .u64 (wd yf 128 64 : Nat)) (.int .u64 (wd yf 192 64 : Nat)) (.slice ya yn yc)) := kp_putR (q := r4) (Kp.refl (fun b => b = r4) wr) (fun _ => rfl) _ _ _ _ _ _
      have hkA : Kp No w wr := (HKz.out.trans' HK1.out).trans HKr.out (T := fun b => b = r4 + 1) fun i hi e => by have := HR4.out; omega
      have hkf := hkA.trans hk5 (T := fun b => b = r4) fun i hi e => by have := HR4.out; omega
      have hpj := HYo.out
      rw [List.drop_zero] at hpj
      refine bodyPost_ret (v := .agg (cellsR yk yf ya yn yc)) ?_ rfl ⟨yk, yf, ya, yn, yc, rfl, ReV.wider (fun b hb _ => hb.1) _ _ (ReV.kept hk5 (fun b hb _ => hb.2.2) _ _ hpj), hkf⟩
      simp [results, Try.results69, go_sem, r0, r1, r2, r3, r4', r5]
    · have hpos : (j : Int) - 1 ≥ 0 := by omega
      have hji : (j : Int) - 1 < (n : Int) := by omega
      have hjt : ((j : Int) - 1).toNat = j - 1 := by omega
      have hwj : IntKind.i64.wrap ((j : Int) - 1 - 1) = (j : Int) - 1 - 1 := IntWalk.i64_in _ (by omega)
      have hS1 : ∀ b, base ≤ b → b < w.heap.size → ¬ b = r4 + 1 := fun b _ hl => by have := HR4.out; omega
      have hl6 : L6 wr base (.slice (some ⟨g, 0, none⟩) es.length cap) es := ((H.out.kept HKz.out (fun _ _ _ => id)).kept HK1.out (fun _ _ _ => id)).row |> fun hrow => ⟨owns_kept hrow hkr fun b e => by have h1 := H.out.row.lt b e; exact hS1 b h1.1 h1.2, fun p hp => by
        have h2 := ReV.wider (T' := fun b => (base ≤ b ∧ (Value.slice (some ⟨g, 0, none⟩) es.length cap).ownBlock ≠ some b) ∧ b < w.heap.size) (fun b hb hl => ⟨hb, hl⟩) _ _ (H.out.ok p hp)
        exact ReV.wider (fun b hb _ => hb.1) _ _ (ReV.kept hkr (fun b hb _ => hS1 b hb.1.1 hb.2) _ _ (ReV.no HK1.out _ _ (ReV.no HKz.out _ _ h2)))⟩
      have hm := hl6.at' (j - 1) (by rw [HN.out]; omega)
      have hzo : ReV (fun b => base ≤ b ∧ b ≠ r4 + 1 ∧ b ≠ r4) wr (es[j - 1]'(by rw [HN.out]; omega)).2 (.agg (cellsR (es[j - 1]'(by rw [HN.out]; omega)).1.k (es[j - 1]'(by rw [HN.out]; omega)).1.f (es[j - 1]'(by rw [HN.out]; omega)).1.a (es[j - 1]'(by rw [HN.out]; omega)).1.n (es[j - 1]'(by rw [HN.out]; omega)).1.c)) :=
        ReV.wider (fun b hb _ => ⟨hb.1, by have := HR4.out; omega, by have := HR4.out; omega⟩) _ _ (ReV.kept hkr (fun b hb _ => hS1 b hb.1 hb.2) _ _ (ReV.no HK1.out _ _ (H.out.old HKz.out (j - 1) (by rw [HN.out]; omega))))
      have hstep : joinT kd (ts.drop (j - 1)) = kid2 kd (es[j - 1]'(by rw [HN.out]; omega)).2 (joinT kd (ts.drop j)) := by
        rw [join_drop kd ts (j - 1) (by rw [HTl.out]; omega)]
        congr 1
        · simp [← HTs.out]
        · congr 2
          omega
      obtain ⟨z, hze⟩ : ∃ z, es[j - 1]'(by rw [HN.out]; omega) = z := ⟨_, rfl⟩
      rw [hze] at hm hzo hstep
      obtain ⟨⟨zk, zf, za, zn, zc⟩, zt⟩ := z
      simp only at hm hzo hstep
      obtain ⟨m0, m1, m2, m3, m4, m5⟩ := hm
      have hsz : r4 + 2 ≤ wr.heap.size := by have h8 := hkr.size; have h9 := HZ1.out; omega
      have htwo := rtwo_any (fun b => base ≤ b ∧ b ≠ r4 + 1 ∧ b ≠ r4) wr.drew kd (ReV.no (Kp.refl No wr).drew _ _ hzo) (ReV.no (Kp.refl No wr).drew _ _ hyo) (fun b hb => ⟨by have h8 : r4 + 2 ≤ b := Nat.le_trans hsz hb; have h9 := HR4.out; have h7 := HB.out; omega, by have h8 : r4 + 2 ≤ b := Nat.le_trans hsz hb; omega, by have h8 : r4 + 2 ≤ b := Nat.le_trans hsz hb; omega⟩)
      rw [← hstep] at htwo
      have htwo2 : Calls Try.prog 87 #[.int .i64 kd, .agg #[.int .i64 zk, .int .u64 (wd zf 0 64 : Nat), .int .u64 (wd zf 64 64 : Nat), .int .u64 (wd zf 128 64 : Nat), .int .u64 (wd zf 192 64 : Nat), .slice za zn zc], .agg #[.int .i64 yk, .int .u64 (wd yf 0 64 : Nat), .int .u64 (wd yf 64 64 : Nat), .int .u64 (wd yf 128 64 : Nat), .int .u64 (wd yf 192 64 : Nat), .slice ya yn yc]] wr.drew fun e w' => ∃ uk uf ua un uc, e = .returned (.agg (cellsR uk uf ua un uc)) ∧ ReV (fun b => base ≤ b ∧ b ≠ r4 + 1 ∧ b ≠ r4) w' (joinT kd (ts.drop (j - 1))) (.agg (cellsR uk uf ua un uc)) ∧ Kp No wr w' := by
        refine htwo.mono ?_
        rintro e w' ⟨a, rfl, hv, hk⟩
        exact ⟨kd, nul, a, 2, 2, rfl, hv, (Kp.refl No wr).drew.trans' hk⟩
      unfold cellsR at htwo2
      have HTwo := Hid_mk htwo2
      obtain ⟨p0, p1, p2, p3, p4, p5, pw⟩ := id hya
      have qkeep : ∀ w1, Kp No wr w1 → RAt w1 (r4 + 1) (.int .i64 yk) (.int .u64 (wd yf 0 64 : Nat)) (.int .u64 (wd yf 64 64 : Nat)) (.int .u64 (wd yf 128 64 : Nat)) (.int .u64 (wd yf 192 64 : Nat)) (.slice ya yn yc) := fun w1 h => HYa.out.kept h id
      have HQk := Hid_mk qkeep
      clear hyo hkr hS1 hl6 hzo hstep hze hsz htwo htwo2 hya qkeep
      go_wp2
      go_region_with (first
        | (go_at_call 87; with_reducible refine HTwo.out.mono ?_; rintro e w1 ⟨uk, uf, ua, un, uc, rfl, huo, hku⟩; have HUo := Hid_mk huo; have HKu := Hid_mk hku; obtain ⟨p0, p1, p2, p3, p4, p5, pw⟩ := HQk.out w1 hku; clear huo hku))
      all_goals
        go_wp2
        go_roundw
        case rel =>
          have hks : Kp (fun b => b = r4 + 1) w1 (putR w1 (r4 + 1) (.int .i64 uk) (.int .u64 (wd uf 0 64 : Nat)) (.int .u64 (wd uf 64 64 : Nat)) (.int .u64 (wd uf 128 64 : Nat)) (.int .u64 (wd uf 192 64 : Nat)) (.slice ua un uc)) := kp_putR (q := r4 + 1) (Kp.refl (fun b => b = r4 + 1) w1) (fun _ => rfl) _ _ _ _ _ _
          refine ⟨j - 1, ⟨uk, uf, ua, un, uc⟩, by rw [HTl.out]; omega, by congr 1; omega, ReV.kept hks (fun b hb _ => hb.2.1) _ _ HUo.out, (HQk.out w1 HKu.out).put _ _ _ _ _ _, (HKr.out.trans HKu.out (T := No) fun _ _ e => e.elim).trans hks (T := fun b => b = r4 + 1) fun _ _ e => e⟩
        case measure => simp only [intOf]; omega

end Go.Proofs.Ytaneblecgjahbab.ere

namespace Go.Proofs.Ytaneblecgjahbab.app
open Go.RowKit Go.Proofs.Ytaneblecgjahbab.sum Go.Proofs.Ytaneblecgjahbab.kept
set_option linter.unusedVariables false

theorem info5 : (Try.prog.info? 5).map (fun i => (i.zero, i.size, i.bytes)) = some (some (.int .u8 0), 1, 1) := by kernel_rfl

/-- what append leaves -/
def App (base : Nat) (w : World) (v : Value) (bs cs : List UInt8) (v' : Value) (w' : World) : Prop :=
  w'.ownsRow base 5 1 v' (bs ++ cs).length ((bs ++ cs).map B) ∧ w.grownBy w' v.ownBlock ∧ (v' = .slice none 0 0 ↔ v = .slice none 0 0 ∧ cs = []) ∧ (v'.ownBlock = v.ownBlock ∨ v'.ownBlock = some w.heap.size)

theorem run_append_zero (w : World) (ty : TypeId) (v : Value) (base n : Nat) (xs : List Value) (hown : w.ownsRow base 5 1 v n xs) (a : Option Addr) (c : Nat) :
    (Builtin.append_ #[40, 40] ty #[v, .slice a 0 c]).run Try.prog w = .ok v w := by
  obtain ⟨i0, hi, hz0, hz1, hz2⟩ := info_parts info5
  have hf : ∀ w : World, (Builtin.firstCells 1 0 (.slice a 0 c)).run Try.prog w = .ok #[] w := by
    intro w
    cases a with
    | none => exact run_firstCells_none w 1 0 0 c
    | some a => exact run_firstCells_some w 1 0 a 0 c [] rfl (fun j u h => by simp at h)
  rcases hown.2 with ⟨rfl, rfl⟩ | ⟨g, cap, cur, rfl, _, hg, h1, _⟩
  · simp [Builtin.append_, run_underlying Try.underlying40, sizeOf, typeInfo, hi, hz1, Builtin.lenOf, hf]
  · simp [Builtin.append_, run_underlying Try.underlying40, sizeOf, typeInfo, hi, hz1, Builtin.lenOf, hf, h1, storeCells]

theorem run_append_bs (w : World) (ty : TypeId) (base : Nat) (v : Value) (bs : List UInt8) (hown : w.ownsRow base 5 1 v bs.length (bs.map B)) (xv : Value) (cs : List UInt8) (hx : Bs w xv cs)
    (hb : bs.length + cs.length ≤ 140737488355328) (hbase : base ≤ w.heap.size) :
    ∃ v' w', (Builtin.append_ #[40, 40] ty #[v, xv]).run Try.prog w = .ok v' w' ∧ App base w v bs cs v' w' := by
  obtain ⟨i0, hi, hz0, hz1, hz2⟩ := info_parts info5
  obtain ⟨a, cap, rfl, h1, h2, h3⟩ := hx
  by_cases hcs : cs = []
  · subst hcs
    refine ⟨v, w, run_append_zero w ty v base _ _ hown a cap, ?_, World.grownBy.refl _ _, by simp, .inl rfl⟩
    simpa using hown
  · obtain ⟨b, o, rfl, hc⟩ := h3 hcs
    have hmx : bs.length + cs.length ≤ maxLen := by unfold maxLen; omega
    obtain ⟨v', w', hr, k1, k2, k3, k4⟩ := run_append_own_at (P := Try.prog) w base 40 ty 5 i0 (.int .u8 0) 1 1 Try.underlying40 hi hz0 hz1 hz2 rfl (by decide) v bs.length _ hown ⟨b, o, none⟩ cs.length cap (cs.map B)
      (by simp) (fun j u hu => by
        rw [addr_add]
        have hj : j < cs.length := by simpa using (List.getElem?_eq_some_iff.1 hu).1
        rw [hc j hj]
        simpa [List.getD, hj] using hu) (fun u hu => by obtain ⟨_, _, rfl⟩ := List.mem_map.1 hu; rfl) hmx (by omega) hbase
    refine ⟨v', w', hr, by simpa using k1, k2, ?_, k4⟩
    rw [k3]
    simp [List.length_eq_zero_iff]

theorem wpList_append_bs (w : World) {ops : Array Oper} {rest : List Oper} {o : Oper} {a : Act} {Q : Exit → Act → World → Prop} (hgd : o.guard = none) (s x : Operand)
    (ho : o.op = .call { callee := .builtin .append, args := #[s, x], argTypes := #[40, 40] })
    (base : Nat) (v : Value) (bs : List UInt8) (hs : a.eval s = v) (hown : w.ownsRow base 5 1 v bs.length (bs.map B)) (xv : Value) (cs : List UInt8) (hx : a.eval x = xv) (hxs : Bs w xv cs)
    (hb : bs.length + cs.length ≤ 140737488355328) (hbase : base ≤ w.heap.size)
    (h : ∀ v' w', App base w v bs cs v' w' → wpList Try.prog ops Q rest (a.put o.dst v') w') :
    wpList Try.prog ops Q (o :: rest) a w := by
  refine wpList_plain hgd fun K hK => ?_
  obtain ⟨v', w', hr, h2⟩ := run_append_bs w o.type base v bs hown xv cs hxs hb hbase
  unfold Oper.wp execOp
  simp only [ho, resolve, invoke, builtin, Sem.run_bind, Sem.run_pure, Result.andThen_ok, List.map_toArray, List.map_cons, List.map_nil, hs, hx, hr]
  exact hK _ _ (h v' w' h2)

theorem strCells_bs (s : ByteArray) : Lib.strCells s = s.data.toList.map B := rfl

theorem run_append_str (w : World) (ty : TypeId) (base : Nat) (v : Value) (bs : List UInt8) (hown : w.ownsRow base 5 1 v bs.length (bs.map B)) (s : ByteArray)
    (hb : bs.length + s.size ≤ 140737488355328) (hbase : base ≤ w.heap.size) :
    ∃ v' w', (Builtin.append_ #[40, 9] ty #[v, .string s]).run Try.prog w = .ok v' w' ∧ App base w v bs s.data.toList v' w' := by
  obtain ⟨i0, hi, hz0, hz1, hz2⟩ := info_parts info5
  have hmx : bs.length + s.size ≤ maxLen := by unfold maxLen; omega
  obtain ⟨v', w', hr, k1, k2, k3⟩ := Lib.run_append_own_string (P := Try.prog) w base 40 9 ty 5 i0 Try.underlying40 Try.underlying9 hi hz0 hz1 hz2 v bs.length _ hown s hmx hb hbase
  have hsz : s.data.toList.length = s.size := by rw [Array.length_toList]; rfl
  refine ⟨v', w', hr, ?_, k2, ?_, ?_⟩
  · rw [List.length_append, hsz, List.map_append, ← strCells_bs]; exact k1
  · rw [k3]
    constructor
    · rintro ⟨h1, h2⟩; exact ⟨h1, List.eq_nil_of_length_eq_zero (by omega)⟩
    · rintro ⟨h1, h2⟩; rw [h2] at hsz; exact ⟨h1, by simpa using hsz.symm⟩
  · have hS : Src Try.prog i0.size 9 (.string s) s.size (Go.byteCells s) w := by rw [hz1]; exact Src.ofString w Try.underlying9 s
    have hsl : (Go.byteCells s).length = s.size := byteCells_length s
    rcases hown.2 with ⟨rfl, h0⟩ | ⟨g, cap, cur, rfl, _, hg, r1, r2, r3, r4⟩
    · by_cases hs0 : s.size = 0
      · left; rw [k3.2 ⟨rfl, hs0⟩]
      · have hgr := run_append_grow_src (P := Try.prog) w 40 9 ty 5 i0 (.int .u8 0) Try.underlying40 hi hz0 none 0 0 [] (run_firstCells_none w.drew i0.size 0 0 0) (.string s) s.size _ hS (by omega) (by omega)
          (by rw [hz2]; exact growslice_fits (by omega) (by omega))
        rw [hgr] at hr
        injection hr with e1 e2
        right; rw [← e1]; rfl
    · by_cases hroom : bs.length + s.size ≤ cap
      · have hrm := run_append_room_src (P := Try.prog) w 40 9 ty 5 i0 Try.underlying40 hi g 0 bs.length cap (.string s) s.size _ hS hroom
          (by
            intro j hj
            rw [hz1, cell_of_row w g _ cur _ (0, 0) hg]
            have hlt : 0 + bs.length * 1 + j < cur.size := by omega
            simp; omega)
          (by
            intro j hj
            rw [hz1]
            simp [World.frozen?, hg])
        rw [hrm] at hr
        injection hr with e1 e2
        left; rw [← e1]; rfl
      · have holds : ∀ j u, (bs.map B)[j]? = some u → w.drew.cell? ((⟨g, 0, none⟩ : Addr).add j) = some u := hown.cells (g := g) rfl
        have hgr := run_append_grow_src (P := Try.prog) w 40 9 ty 5 i0 (.int .u8 0) Try.underlying40 hi hz0 (some ⟨g, 0, none⟩) bs.length cap (bs.map B)
          (run_firstCells_some w.drew i0.size bs.length ⟨g, 0, none⟩ bs.length cap _ (by rw [hz1]; simp) holds) (.string s) s.size _ hS (by omega) (by omega) (by rw [hz2]; exact growslice_fits (by omega) (by omega))
        rw [hgr] at hr
        injection hr with e1 e2
        right; rw [← e1]; rfl

theorem wpList_append_str (w : World) {ops : Array Oper} {rest : List Oper} {o : Oper} {a : Act} {Q : Exit → Act → World → Prop} (hgd : o.guard = none) (sl x : Operand)
    (ho : o.op = .call { callee := .builtin .append, args := #[sl, x], argTypes := #[40, 9] })
    (base : Nat) (v : Value) (bs : List UInt8) (hs : a.eval sl = v) (hown : w.ownsRow base 5 1 v bs.length (bs.map B)) (s : ByteArray) (hx : a.eval x = .string s)
    (hb : bs.length + s.size ≤ 140737488355328) (hbase : base ≤ w.heap.size)
    (h : ∀ v' w', App base w v bs s.data.toList v' w' → wpList Try.prog ops Q rest (a.put o.dst v') w') :
    wpList Try.prog ops Q (o :: rest) a w := by
  refine wpList_plain hgd fun K hK => ?_
  obtain ⟨v', w', hr, h2⟩ := run_append_str w o.type base v bs hown s hb hbase
  unfold Oper.wp execOp
  simp only [ho, resolve, invoke, builtin, Sem.run_bind, Sem.run_pure, Result.andThen_ok, List.map_toArray, List.map_cons, List.map_nil, hs, hx, hr]
  exact hK _ _ (h v' w' h2)

end Go.Proofs.Ytaneblecgjahbab.app

namespace Go.Proofs.Ytaneblecgjahbab.writer
open Go.RowKit Go.Proofs.Ytaneblecgjahbab.sum Go.Proofs.Ytaneblecgjahbab.kept Go.Proofs.Ytaneblecgjahbab.app
set_option linter.unusedVariables false

theorem getD_lt {bs : List UInt8} {k : Nat} (h : k < bs.length) : bs.getD k 0 = bs[k] := by simp [List.getD, h]

/-- a literal of one byte, as laid by the call -/
theorem bs_one (w : World) (x : UInt8) : Bs (w.alloc (.cells #[.int .u8 (x.toNat : Int)] 5)) (.slice (some ⟨w.heap.size, 0, none⟩) 1 1) [x] := by
  refine ⟨_, 1, rfl, Nat.le_refl _, by decide, fun _ => ⟨_, _, rfl, fun k hk => ?_⟩⟩
  simp only [List.length_singleton] at hk
  obtain rfl : k = 0 := by omega
  simp [B]

theorem app_kept {S : Nat → Prop} {base : Nat} {w w1 : World} {o : Obj} {v v' : Value} {bs cs : List UInt8} (h : App base (w.alloc o) v bs cs v' w1) (hs : ∀ k, k < w.heap.size → v.ownBlock = some k → S k) : Kp S w w1 :=
  ((Kp.refl _ w).alloc _).grown h.2.1 fun k hk e => hs k hk e
theorem app_kept0 {S : Nat → Prop} {base : Nat} {w w1 : World} {v v' : Value} {bs cs : List UInt8} (h : App base w v bs cs v' w1) (hs : ∀ k, k < w.heap.size → v.ownBlock = some k → S k) : Kp S w w1 :=
  (Kp.refl _ w).grown h.2.1 fun k hk e => hs k hk e
theorem app_fresh {base : Nat} {w w1 : World} {o : Obj} {v v' : Value} {bs cs : List UInt8} (h : App base (w.alloc o) v bs cs v' w1) : v'.ownBlock = v.ownBlock ∨ ∀ g, v'.ownBlock = some g → w.heap.size ≤ g := by
  rcases h.2.2.2 with h | h
  · exact .inl h
  · right; intro g hg; rw [h] at hg; simp at hg; omega
theorem app_fresh0 {base : Nat} {w w1 : World} {v v' : Value} {bs cs : List UInt8} (h : App base w v bs cs v' w1) : v'.ownBlock = v.ownBlock ∨ ∀ g, v'.ownBlock = some g → w.heap.size ≤ g := by
  rcases h.2.2.2 with h | h
  · exact .inl h
  · right; intro g hg; rw [h] at hg; simp at hg; omega

/-- the Writer's one cell behind the append, and the store into it -/
theorem wr_store {base p : Nat} {w w1 : World} {v v' : Value} {bs cs : List UInt8} (h : Wr base w p v bs) (hb : base ≤ w1.heap.size) (hw : w1.ownsRow base 5 1 v' (bs ++ cs).length ((bs ++ cs).map B)) (hk : Kp (fun k => some k = v.ownBlock) w w1)
    (hf : v'.ownBlock = v.ownBlock ∨ ∀ g, v'.ownBlock = some g → w.heap.size ≤ g) :
    WrPost base p v (bs ++ cs) w (.returned (.tuple #[])) (w1.setCell ⟨p, 0, none⟩ v') := by
  have hp := World.block_lt_of_cell? w _ h.cell
  simp only at hp
  have hc1 : w1.cell? ⟨p, 0, none⟩ = some v := hk.cell' h.cell (fun e => h.apart e.symm)
  have hf1 : w1.frozen? ⟨p, 0, none⟩ = false := (hk.frozen hp (fun e => h.apart e.symm)).trans h.warm
  have hap : v'.ownBlock ≠ some p := by
    rcases hf with e | e
    · rw [e]; exact h.apart
    · intro e2; have := e p e2; omega
  have hk2 : Kp (fun k => k = p) w1 (w1.setCell ⟨p, 0, none⟩ v') := (Kp.refl (fun k => k = p) _).setCell (fun _ => rfl) _
  refine ⟨rfl, v', ⟨World.cell?_setCell_same w1 _ v' hc1, ?_, owns_kept hw hk2 ?_, hap, ?_⟩, ?_, hf⟩
  · rw [World.frozen?_setCell]; exact hf1
  · rintro k e rfl; exact hap e
  · simp [World.setCell]; exact hb
  · exact (hk.mono (fun k _ e => Or.inr e)).trans hk2 (fun i _ e => Or.inl e)

theorem WrPost.refl {base p : Nat} {w : World} {v : Value} {bs : List UInt8} (h : Wr base w p v bs) : WrPost base p v bs w (.returned (.tuple #[])) w := ⟨rfl, v, h, Kp.refl _ _, .inl rfl⟩

/-- A Writer call behind another. -/
theorem wr_join {base p : Nat} {w w1 w2 : World} {v v1 : Value} {bs cs : List UInt8} {e : Ending} (h : WrAt base p v bs w v1 w1) (k : WrPost base p v1 cs w1 e w2) : WrPost base p v cs w e w2 := by
  obtain ⟨h1, h2, h3⟩ := h
  obtain ⟨rfl, v2, k1, k2, k3⟩ := k
  refine ⟨rfl, v2, k1, h2.trans k2 ?_, ?_⟩
  · rintro i hi (e | e)
    · exact .inl e
    · rcases h3 with h3 | h3
      · right; rw [← h3]; exact e
      · have := h3 i e.symm; omega
  · rcases k3 with k3 | k3
    · rw [k3]
      rcases h3 with h3 | h3
      · exact .inl h3
      · exact .inr h3
    · right; intro g hg; have := k3 g hg; have := h2.size; omega

/-- how many numbers a uint64 has: behind a name, for the walk's sake -/
def U64 : Nat := 18446744073709551616
theorem u64_eq : U64 = 18446744073709551616 := rfl

/-- a number's bytes -/
def num (n : Nat) : List UInt8 := if h : n < 128 then [n.toUInt8] else (n % 128 + 128).toUInt8 :: num (n / 128)
termination_by n
decreasing_by omega

theorem num_small {n : Nat} (h : n < 128) : num n = [n.toUInt8] := by rw [num]; simp [h]
theorem num_big {n : Nat} (h : ¬ n < 128) : num n = (n % 128 + 128).toUInt8 :: num (n / 128) := by rw [num]; simp [h]
theorem num_len (n k : Nat) (hk : n < 128 ^ k) (h1 : 0 < k) : (num n).length ≤ k := by
  induction k generalizing n with
  | zero => omega
  | succ k ih =>
    by_cases h : n < 128
    · rw [num_small h]; simp
    · rw [num_big h]
      have h2 : n / 128 < 128 ^ k := by rw [Nat.pow_succ] at hk; omega
      have hk0 : 0 < k := by
        rcases Nat.eq_zero_or_pos k with rfl | h3
        · simp at h2; omega
        · exact h3
      have := ih (n / 128) h2 hk0
      simp; omega

theorem or128_fin : ∀ k : Fin 256, bits .or .u8 ((k.val : Nat) : Int) 128 = ((k.val % 128 + 128 : Nat) : Int) := by decide +kernel
theorem or128 (m : Nat) : bits .or .u8 ((m : Int) % 256) 128 = ((m % 128 + 128 : Nat) : Int) := by
  have h := or128_fin ⟨m % 256, by omega⟩
  simp only at h
  rw [show ((m : Int) % 256) = ((m % 256 : Nat) : Int) by omega, h]
  congr 1
  omega

def NumRel (base p : Nat) (v : Value) (bs : List UInt8) (n : Nat) (w : World) (t : Value) (wr : World) : Prop :=
  ∃ (m : Nat) (pre : List UInt8), t = .int .u64 m ∧ m < U64 ∧ pre ++ num m = num n ∧ WrPost base p v (bs ++ pre) w (.returned (.tuple #[])) wr

end Go.Proofs.Ytaneblecgjahbab.writer

namespace Go.Proofs.Ytaneblecgjahbab.clone
open Go.RowKit Go.Proofs.Ytaneblecgjahbab.sum Go.Proofs.Ytaneblecgjahbab.kept Go.Proofs.Ytaneblecgjahbab.app Go.Proofs.Ytaneblecgjahbab.writer
set_option linter.unusedVariables false

/-- A new row of these bytes, in new memory. -/
def NewBs (w : World) (bs : List UInt8) (e : Ending) (w' : World) : Prop :=
  ∃ v', e = .returned v' ∧ w'.ownsRow w.heap.size 5 1 v' bs.length (bs.map B) ∧ Kp No w w'

end Go.Proofs.Ytaneblecgjahbab.clone

namespace Go.Proofs.Ytaneblecgjahbab.known
open Go.RowKit Go.Proofs.Ytaneblecgjahbab.sum Go.Proofs.Ytaneblecgjahbab.kept Go.Proofs.Ytaneblecgjahbab.app Go.Proofs.Ytaneblecgjahbab.writer Go.Proofs.Ytaneblecgjahbab.clone
set_option linter.unusedVariables false

/-- bytes as a text -/
theorem conv_bs {w : World} {v : Value} {bs : List UInt8} (h : Bs w v bs) : (convert 40 9 v).run Try.prog w = .ok (.string ⟨bs.toArray⟩) w := by
  obtain ⟨a, cap, rfl, h1, h2, h3⟩ := h
  by_cases hbs : bs = []
  · subst hbs
    cases a with
    | none => exact run_convert_bytes_nil w 40 5 Try.underlying40 Try.underlying5 _ _ _ Try.underlying9
    | some ad => exact run_convert_bytes_back w 40 9 5 ad cap [] Try.underlying40 Try.underlying5 Try.underlying9 (fun j hj => by simp at hj)
  · obtain ⟨b, o, rfl, hc⟩ := h3 hbs
    refine run_convert_bytes_back w 40 9 5 ⟨b, o, none⟩ cap bs Try.underlying40 Try.underlying5 Try.underlying9 (fun j hj => ?_)
    rw [addr_add, hc j hj]
    simp [B, List.getD, hj]

/-- a literal of bytes, as laid by the call -/
theorem bs_lit (w : World) (bs : List UInt8) (fr : Nat × Nat) (hl : bs.length ≤ maxLen) : Bs (w.alloc (.cells (bs.map B).toArray 5 fr)) (.slice (some ⟨w.heap.size, 0, none⟩) bs.length bs.length) bs := by
  refine ⟨_, _, rfl, Nat.le_refl _, hl, fun _ => ⟨_, _, rfl, fun k hk => ?_⟩⟩
  rw [World.cell?_alloc_mark]
  simp [List.getD, hk]

end Go.Proofs.Ytaneblecgjahbab.known

namespace Go.Proofs.Ytaneblecgjahbab.unseal
open Go.RowKit Go.Proofs.Ytaneblecgjahbab.sum Go.Proofs.Ytaneblecgjahbab.kept Go.Proofs.Ytaneblecgjahbab.app Go.Proofs.Ytaneblecgjahbab.writer Go.Proofs.Ytaneblecgjahbab.clone Go.Proofs.Ytaneblecgjahbab.known
set_option linter.unusedVariables false

/-- behind a draw everything reads as before -/
theorem bs_drewN {w : World} {v : Value} {bs : List UInt8} (n : Nat) (h : Bs w v bs) : Bs (w.drewN n) v bs := bs_no h ((Kp.refl _ _).drewN n)

/-- a cut of a slice of bytes -/
theorem bs_take {w : World} {b : Option Addr} {len cap : Nat} {bs : List UInt8} (h : Bs w (.slice b len cap) bs) (k : Nat) (hk : k ≤ len) : Bs w (.slice b k cap) (bs.take k) := by
  obtain ⟨a, c, e, h1, h2, h3⟩ := h
  simp only [Value.slice.injEq] at e
  obtain ⟨rfl, rfl, rfl⟩ := e
  refine ⟨b, cap, by rw [List.length_take, Nat.min_eq_left hk], by rw [List.length_take]; omega, h2, fun hne => ?_⟩
  obtain ⟨B, o, rfl, hc⟩ := h3 (by intro e; subst e; simp at hne)
  refine ⟨B, o, rfl, fun i hi => ?_⟩
  rw [List.length_take] at hi
  rw [hc i (by omega)]
  simp [List.getD, show i < k by omega]

theorem bs_drop {w : World} {b o len cap : Nat} {bs : List UInt8} (h : Bs w (.slice (some ⟨b, o, none⟩) len cap) bs) (k : Nat) (hk : k ≤ len) (ao : Option Addr) (hao : ¬ k = cap → ao = some ⟨b, o + k, none⟩) : Bs w (.slice ao (len - k) (cap - k)) (bs.drop k) := by
  obtain ⟨a, c, e, h1, h2, h3⟩ := h
  simp only [Value.slice.injEq] at e
  obtain ⟨rfl, rfl, rfl⟩ := e
  refine ⟨ao, _, by rw [List.length_drop], by rw [List.length_drop]; omega, by omega, fun hne => ?_⟩
  have hlt : k < bs.length := by
    rcases Nat.lt_or_ge k bs.length with h | h
    · exact h
    · rw [List.drop_of_length_le h] at hne; exact absurd rfl hne
  obtain ⟨B, o', e, hc⟩ := h3 (by intro e; subst e; simp at hlt)
  cases e
  refine ⟨_, _, hao (by omega), fun i hi => ?_⟩
  rw [List.length_drop] at hi
  rw [Nat.add_assoc, hc (k + i) (by omega)]
  simp [List.getD]

end Go.Proofs.Ytaneblecgjahbab.unseal

namespace Go.Proofs.Ytaneblecgjahbab.turned
open Go.RowKit Go.Proofs.Ytaneblecgjahbab.sum Go.Proofs.Ytaneblecgjahbab.kept Go.Proofs.Ytaneblecgjahbab.app Go.Proofs.Ytaneblecgjahbab.writer Go.Proofs.Ytaneblecgjahbab.clone Go.Proofs.Ytaneblecgjahbab.known Go.Proofs.Ytaneblecgjahbab.unseal
set_option linter.unusedVariables false

theorem tmod_pos (n m : Int) (hm : 0 < m) : -m < n.tmod m ∧ n.tmod m < m ∧ (0 ≤ n.tmod m → n.tmod m = n % m) ∧ (n.tmod m < 0 → n.tmod m + m = n % m) := by
  have h1 := Int.tmod_lt_of_pos n hm
  have h2 := Int.tmod_lt_of_pos (-n) hm
  rw [Int.neg_tmod] at h2
  have h3 := Int.tmod_add_mul_tdiv n m
  refine ⟨by omega, h1, ?_, ?_⟩
  · intro h
    have e : n % m = (n.tmod m + m * n.tdiv m) % m := by rw [h3]
    rw [e, Int.add_mul_emod_self_left, Int.emod_eq_of_lt h h1]
  · intro h
    have e : n % m = (n.tmod m + m + m * (n.tdiv m - 1)) % m := by rw [Int.mul_sub]; congr 1; omega
    rw [e, Int.add_mul_emod_self_left, Int.emod_eq_of_lt (by omega) (by omega)]

theorem bs_set {w : World} {b o len cap : Nat} {bs : List UInt8} (h : Bs w (.slice (some ⟨b, o, none⟩) len cap) bs) (k : Nat) (hk : k < len) (y : UInt8) : Bs (w.setCell ⟨b, o + k, none⟩ (B y)) (.slice (some ⟨b, o, none⟩) len cap) (bs.set k y) := by
  obtain ⟨a, c, e, h1, h2, h3⟩ := h
  simp only [Value.slice.injEq] at e
  obtain ⟨rfl, rfl, rfl⟩ := e
  refine ⟨_, cap, by rw [List.length_set], by rw [List.length_set]; exact h1, h2, fun _ => ⟨b, o, rfl, fun i hi => ?_⟩⟩
  rw [List.length_set] at hi
  obtain ⟨b', o', e, hc⟩ := h3 (by intro e; subst e; simp at hk)
  cases e
  by_cases hik : i = k
  · subst hik
    rw [World.cell?_setCell_same w _ _ (hc i hi)]
    simp [List.getD, hi]
  · rw [World.cell?_setCell_other w _ _ _ (by simp <;> omega), hc i hi]
    simp [List.getD, List.getElem?_set, Ne.symm hik]

end Go.Proofs.Ytaneblecgjahbab.turned
