/- Package ere: the same tree in memory of its own. -/
import Derived.Test.YtaneblecgjahbabNfaAllM

namespace Go.Proofs.Ytaneblecgjahbab.ere
open Go.RowKit Go.Proofs.Ytaneblecgjahbab.sum Go.Proofs.Ytaneblecgjahbab.kept Go.Proofs.Ytaneblecgjahbab.pop Go.Proofs.Ytaneblecgjahbab.cls Go.Proofs.Ytaneblecgjahbab.tre Go.Proofs.Ytaneblecgjahbab.str
set_option linter.unusedVariables false

/-- a tree among others in memory -/
structure E6 where
  k : Int
  f : Nat → Bool
  a : Option Addr
  n : Nat
  c : Nat
def E6.cells (e : E6) : List Value := (cellsR e.k e.f e.a e.n e.c).toList
theorem E6.len (e : E6) : e.cells.length = 6 := rfl
theorem cells6_len (es : List E6) : (es.flatMap E6.cells).length = es.length * 6 := by
  induction es with
  | nil => rfl
  | cons e es ih => rw [List.flatMap_cons, List.length_append, ih, E6.len, List.length_cons]; omega
theorem cells6_get : ∀ (es : List E6) (i j : Nat) (h : i < es.length) (hj : j < 6), (es.flatMap E6.cells)[i * 6 + j]? = es[i].cells[j]?
  | e :: es, 0, j, _, hj => by
    rw [List.flatMap_cons, List.getElem?_append_left (by rw [E6.len]; omega)]
    simp
  | e :: es, i + 1, j, h, hj => by
    have := cells6_get es i j (by simpa using h) hj
    rw [List.flatMap_cons, List.getElem?_append_right (by rw [E6.len]; omega), E6.len, show (i + 1) * 6 + j - 6 = i * 6 + j by omega, this]
    simp
theorem cells6_one : ∀ (es : List E6), ∀ u ∈ es.flatMap E6.cells, u.oneCell' = true := by
  intro es u hu
  obtain ⟨e, -, he⟩ := List.mem_flatMap.1 hu
  simp [E6.cells] at he
  rcases he with rfl | rfl | rfl | rfl | rfl | rfl <;> rfl
/-- the cells of trees that lie one behind the other -/
theorem ReL.els {T : Nat → Prop} {w : World} {b : Nat} : ∀ (l : List Tr) (o : Nat), ReL T w b o l → ∃ es : List E6, es.length = l.length ∧ (∀ j u, (es.flatMap E6.cells)[j]? = some u → w.cell? ⟨b, o + j, none⟩ = some u) ∧ ∀ i (hi : i < es.length) (hi' : i < l.length), ∃ f' l', l[i] = .mk es[i].k f' l' ∧ es[i].f = f' ∧ es[i].n = l'.length ∧ ReV T w l[i] (.agg (cellsR es[i].k es[i].f es[i].a es[i].n es[i].c))
  | [], o, _ => ⟨[], rfl, fun j u h => by simp at h, fun i hi => absurd hi (by simp)⟩
  | t :: l, o, ⟨⟨x0, x1, x2, x3, x4, x5, h0, h1, h2, h3, h4, h5, hv⟩, hl⟩ => by
    obtain ⟨es, he, hc, hr⟩ := ReL.els l (o + 6) hl
    obtain ⟨k, f, l'⟩ := t
    have hv' := hv
    obtain ⟨a, c, e, -, -, -⟩ := hv'
    simp only [Value.agg.injEq, Array.mk.injEq, List.cons.injEq, and_true] at e
    obtain ⟨rfl, rfl, rfl, rfl, rfl, rfl⟩ := e
    refine ⟨⟨k, f, a, l'.length, c⟩ :: es, by simp [he], fun j u hj => ?_, fun i hi hi' => ?_⟩
    · rw [List.flatMap_cons] at hj
      by_cases hj6 : j < 6
      · rw [List.getElem?_append_left (by rw [E6.len]; exact hj6)] at hj
        have : j = 0 ∨ j = 1 ∨ j = 2 ∨ j = 3 ∨ j = 4 ∨ j = 5 := by omega
        rcases this with rfl | rfl | rfl | rfl | rfl | rfl <;> (simp [E6.cells] at hj; subst hj; first | exact h0 | exact h1 | exact h2 | exact h3 | exact h4 | exact h5)
      · rw [List.getElem?_append_right (by rw [E6.len]; omega), E6.len] at hj
        have := hc (j - 6) u hj
        rw [show o + 6 + (j - 6) = o + j by omega] at this
        exact this
    · cases i with
      | zero => exact ⟨f, l', rfl, rfl, rfl, hv⟩
      | succ i => simpa using hr i (by simpa using hi) (by simpa using hi')
theorem ReL.of {T : Nat → Prop} {w : World} {b : Nat} : ∀ (l : List Tr) (o : Nat), (∀ p (hp : p < l.length), ∃ x0 x1 x2 x3 x4 x5, w.cell? ⟨b, o + p * 6, none⟩ = some x0 ∧ w.cell? ⟨b, o + p * 6 + 1, none⟩ = some x1 ∧ w.cell? ⟨b, o + p * 6 + 2, none⟩ = some x2 ∧ w.cell? ⟨b, o + p * 6 + 3, none⟩ = some x3 ∧ w.cell? ⟨b, o + p * 6 + 4, none⟩ = some x4 ∧ w.cell? ⟨b, o + p * 6 + 5, none⟩ = some x5 ∧ ReV T w l[p] (.agg #[x0, x1, x2, x3, x4, x5])) → ReL T w b o l
  | [], _, _ => trivial
  | t :: l, o, h => by
    refine ⟨?_, ReL.of l (o + 6) fun p hp => ?_⟩
    · have := h 0 (by simp)
      simpa using this
    · have := h (p + 1) (by simpa using hp)
      rw [show o + (p + 1) * 6 = o + 6 + p * 6 by omega] at this
      simpa using this
theorem cp_size : ∀ (l : List Tr) (p : Nat) (hp : p < l.length), l[p].size ≤ sizeL l
  | t :: l, 0, _ => by simp only [List.getElem_cons_zero, sizeL]; omega
  | t :: l, p + 1, hp => by
    have := cp_size l p (by simpa using hp)
    simp only [List.getElem_cons_succ, sizeL]
    omega
def putO (w : World) (g o : Nat) (x0 x1 x2 x3 x4 x5 : Value) : World := (((((w.setCell ⟨g, o, none⟩ x0).setCell ⟨g, o + 1, none⟩ x1).setCell ⟨g, o + 2, none⟩ x2).setCell ⟨g, o + 3, none⟩ x3).setCell ⟨g, o + 4, none⟩ x4).setCell ⟨g, o + 5, none⟩ x5
theorem putO_other (w : World) (g o : Nat) (x0 x1 x2 x3 x4 x5 : Value) (z : Nat) (hz : z < o ∨ o + 6 ≤ z) : (putO w g o x0 x1 x2 x3 x4 x5).cell? ⟨g, z, none⟩ = w.cell? ⟨g, z, none⟩ := by
  unfold putO
  rw [World.cell?_setCell_other _ _ _ _ (by intro e; cases e; omega), World.cell?_setCell_other _ _ _ _ (by intro e; cases e; omega), World.cell?_setCell_other _ _ _ _ (by intro e; cases e; omega), World.cell?_setCell_other _ _ _ _ (by intro e; cases e; omega), World.cell?_setCell_other _ _ _ _ (by intro e; cases e; omega), World.cell?_setCell_other _ _ _ _ (by intro e; cases e; omega)]
theorem kp_putO {S : Nat → Prop} {w0 w : World} (h : Kp S w0 w) {g : Nat} (hg : g < w0.heap.size → S g) (o : Nat) (x0 x1 x2 x3 x4 x5 : Value) : Kp S w0 (putO w g o x0 x1 x2 x3 x4 x5) :=
  (((((h.setCell (p := ⟨g, o, none⟩) hg _).setCell (p := ⟨g, o + 1, none⟩) hg _).setCell (p := ⟨g, o + 2, none⟩) hg _).setCell (p := ⟨g, o + 3, none⟩) hg _).setCell (p := ⟨g, o + 4, none⟩) hg _).setCell (p := ⟨g, o + 5, none⟩) hg _
theorem putO_same {w : World} {g o : Nat} {y0 y1 y2 y3 y4 y5 : Value} (c0 : w.cell? ⟨g, o, none⟩ = some y0) (c1 : w.cell? ⟨g, o + 1, none⟩ = some y1) (c2 : w.cell? ⟨g, o + 2, none⟩ = some y2) (c3 : w.cell? ⟨g, o + 3, none⟩ = some y3) (c4 : w.cell? ⟨g, o + 4, none⟩ = some y4) (c5 : w.cell? ⟨g, o + 5, none⟩ = some y5) (x0 x1 x2 x3 x4 x5 : Value) :
    (putO w g o x0 x1 x2 x3 x4 x5).cell? ⟨g, o, none⟩ = some x0 ∧ (putO w g o x0 x1 x2 x3 x4 x5).cell? ⟨g, o + 1, none⟩ = some x1 ∧ (putO w g o x0 x1 x2 x3 x4 x5).cell? ⟨g, o + 2, none⟩ = some x2 ∧ (putO w g o x0 x1 x2 x3 x4 x5).cell? ⟨g, o + 3, none⟩ = some x3 ∧ (putO w g o x0 x1 x2 x3 x4 x5).cell? ⟨g, o + 4, none⟩ = some x4 ∧ (putO w g o x0 x1 x2 x3 x4 x5).cell? ⟨g, o + 5, none⟩ = some x5 := by
  unfold putO
  refine ⟨?_, ?_, ?_, ?_, ?_, ?_⟩
  · rw [World.cell?_setCell_other _ _ _ _ (by intro e; injection e with e1 e2 e3; omega)]; rw [World.cell?_setCell_other _ _ _ _ (by intro e; injection e with e1 e2 e3; omega)]; rw [World.cell?_setCell_other _ _ _ _ (by intro e; injection e with e1 e2 e3; omega)]; rw [World.cell?_setCell_other _ _ _ _ (by intro e; injection e with e1 e2 e3; omega)]; rw [World.cell?_setCell_other _ _ _ _ (by intro e; injection e with e1 e2 e3; omega)]; exact World.cell?_setCell_same _ _ _ (by exact c0)
  · rw [World.cell?_setCell_other _ _ _ _ (by intro e; injection e with e1 e2 e3; omega)]; rw [World.cell?_setCell_other _ _ _ _ (by intro e; injection e with e1 e2 e3; omega)]; rw [World.cell?_setCell_other _ _ _ _ (by intro e; injection e with e1 e2 e3; omega)]; rw [World.cell?_setCell_other _ _ _ _ (by intro e; injection e with e1 e2 e3; omega)]; exact World.cell?_setCell_same _ _ _ (by rw [World.cell?_setCell_other _ _ _ _ (by intro e; injection e with e1 e2 e3; omega)]; exact c1)
  · rw [World.cell?_setCell_other _ _ _ _ (by intro e; injection e with e1 e2 e3; omega)]; rw [World.cell?_setCell_other _ _ _ _ (by intro e; injection e with e1 e2 e3; omega)]; rw [World.cell?_setCell_other _ _ _ _ (by intro e; injection e with e1 e2 e3; omega)]; exact World.cell?_setCell_same _ _ _ (by rw [World.cell?_setCell_other _ _ _ _ (by intro e; injection e with e1 e2 e3; omega)]; rw [World.cell?_setCell_other _ _ _ _ (by intro e; injection e with e1 e2 e3; omega)]; exact c2)
  · rw [World.cell?_setCell_other _ _ _ _ (by intro e; injection e with e1 e2 e3; omega)]; rw [World.cell?_setCell_other _ _ _ _ (by intro e; injection e with e1 e2 e3; omega)]; exact World.cell?_setCell_same _ _ _ (by rw [World.cell?_setCell_other _ _ _ _ (by intro e; injection e with e1 e2 e3; omega)]; rw [World.cell?_setCell_other _ _ _ _ (by intro e; injection e with e1 e2 e3; omega)]; rw [World.cell?_setCell_other _ _ _ _ (by intro e; injection e with e1 e2 e3; omega)]; exact c3)
  · rw [World.cell?_setCell_other _ _ _ _ (by intro e; injection e with e1 e2 e3; omega)]; exact World.cell?_setCell_same _ _ _ (by rw [World.cell?_setCell_other _ _ _ _ (by intro e; injection e with e1 e2 e3; omega)]; rw [World.cell?_setCell_other _ _ _ _ (by intro e; injection e with e1 e2 e3; omega)]; rw [World.cell?_setCell_other _ _ _ _ (by intro e; injection e with e1 e2 e3; omega)]; rw [World.cell?_setCell_other _ _ _ _ (by intro e; injection e with e1 e2 e3; omega)]; exact c4)
  · exact World.cell?_setCell_same _ _ _ (by rw [World.cell?_setCell_other _ _ _ _ (by intro e; injection e with e1 e2 e3; omega)]; rw [World.cell?_setCell_other _ _ _ _ (by intro e; injection e with e1 e2 e3; omega)]; rw [World.cell?_setCell_other _ _ _ _ (by intro e; injection e with e1 e2 e3; omega)]; rw [World.cell?_setCell_other _ _ _ _ (by intro e; injection e with e1 e2 e3; omega)]; rw [World.cell?_setCell_other _ _ _ _ (by intro e; injection e with e1 e2 e3; omega)]; exact c5)
def CpRel (W1 : World) (q g : Nat) (l : List Tr) (i : Value) (wr : World) : Prop :=
  ∃ j : Nat, i = .int .i64 (j : Int) ∧ j ≤ l.length ∧ Kp (fun z => z = g) W1 wr ∧ (l.length ≠ 0 → ∀ z, wr.frozen? ⟨g, z, none⟩ = false) ∧
    ∀ p (hp : p < l.length), ∃ (k : Int) (f : Nat → Bool) (l' : List Tr) (a : Option Addr) (c : Nat), l[p] = .mk k f l' ∧
      (wr.cell? ⟨g, p * 6, none⟩ = some (.int .i64 k) ∧ wr.cell? ⟨g, p * 6 + 1, none⟩ = some (.int .u64 (wd f 0 64 : Nat)) ∧ wr.cell? ⟨g, p * 6 + 2, none⟩ = some (.int .u64 (wd f 64 64 : Nat)) ∧ wr.cell? ⟨g, p * 6 + 3, none⟩ = some (.int .u64 (wd f 128 64 : Nat)) ∧ wr.cell? ⟨g, p * 6 + 4, none⟩ = some (.int .u64 (wd f 192 64 : Nat)) ∧ wr.cell? ⟨g, p * 6 + 5, none⟩ = some (.slice a l'.length c)) ∧
      ReV (fun z => if p < j then q + 2 ≤ z ∧ z ≠ g else z < q) wr (.mk k f l') (.agg (cellsR k f a l'.length c))

set_option maxRecDepth 100000 in
set_option maxHeartbeats 8000000 in
theorem copied_any : ∀ (N : Nat) (T : Nat → Prop) (t : Tr), t.size ≤ N → N ≤ 1000000000 → ∀ (w : World) (v : Value), ReV T w t v →
    Calls Try.prog 115 #[v] w fun e w' => ∃ (k : Int) (f : Nat → Bool) (l : List Tr) (a : Option Addr) (c : Nat), t = .mk k f l ∧ e = .returned (.agg (cellsR k f a l.length c)) ∧ ReV (fun z => w.heap.size ≤ z) w' t (.agg (cellsR k f a l.length c)) ∧ Kp No w w' := by
  intro N
  induction N with
  | zero => intro T t h; obtain ⟨k, f, l⟩ := t; simp only [Tr.size] at h; omega
  | succ N ih =>
    intro T t hsz hN w v hv
    obtain ⟨tk, tf, tl⟩ := t
    obtain ⟨ta, tc, rfl, h1, h2, h3⟩ := hv
    obtain ⟨W0, hW0⟩ : ∃ W0, (w.alloc (.cells (cellsR tk tf ta tl.length tc) 30)).alloc (.cells #[.int .i64 0, .int .u64 0, .int .u64 0, .int .u64 0, .int .u64 0, .slice none 0 0] 30) = W0 := ⟨_, rfl⟩
    obtain ⟨q, hq⟩ : ∃ q, w.heap.size = q := ⟨_, rfl⟩
    have hK0 : Kp No w W0 := by rw [← hW0]; exact ((Kp.refl No w).alloc _).alloc _
    have hz : W0.heap.size = q + 2 := by rw [← hW0, ← hq]; simp
    have hA : RAt W0 q (.int .i64 tk) (.int .u64 (wd tf 0 64 : Nat)) (.int .u64 (wd tf 64 64 : Nat)) (.int .u64 (wd tf 128 64 : Nat)) (.int .u64 (wd tf 192 64 : Nat)) (.slice ta tl.length tc) := by
      rw [← hW0, ← hq]
      exact (RAt.new w _ _ _ _ _ _ _).kept ((Kp.refl No _).alloc _) id
    have hB : RAt W0 (q + 1) (.int .i64 0) (.int .u64 0) (.int .u64 0) (.int .u64 0) (.int .u64 0) (.slice none 0 0) := by
      have e : q + 1 = (w.alloc (.cells (cellsR tk tf ta tl.length tc) 30)).heap.size := by rw [← hq]; simp
      rw [← hW0, e]
      exact RAt.new _ _ _ _ _ _ _ _
    have hlen : tl.length ≤ 1000000000 := by
      have : ∀ l : List Tr, l.length ≤ sizeL l := fun l => by
        induction l with
        | nil => simp
        | cons t l ih => have : 1 ≤ t.size := by obtain ⟨_, _, _⟩ := t; simp only [Tr.size]; omega
                         simp only [List.length_cons, sizeL]; omega
      have h1 := this tl
      simp only [Tr.size] at hsz
      omega
    obtain ⟨es, hes, hec, hev⟩ : ∃ es : List E6, es.length = tl.length ∧ (tl.length ≠ 0 → ∃ b o, ta = some ⟨b, o, none⟩ ∧ ∀ j u, (es.flatMap E6.cells)[j]? = some u → W0.cell? ⟨b, o + j, none⟩ = some u) ∧ ∀ i (hi : i < es.length) (hi' : i < tl.length), ∃ f' l', tl[i] = .mk es[i].k f' l' ∧ es[i].f = f' ∧ es[i].n = l'.length ∧ ReV (fun z => z < q) W0 tl[i] (.agg (cellsR es[i].k es[i].f es[i].a es[i].n es[i].c)) := by
      by_cases hn : tl = []
      · subst hn
        exact ⟨[], rfl, fun h => absurd rfl h, fun i hi => absurd hi (by simp)⟩
      · obtain ⟨b, o, rfl, -, hr⟩ := h3 hn
        have hr2 := ReL.no hK0 _ _ _ (ReL.wider (T' := fun z => z < q) (fun z _ hz => by omega) b o tl hr)
        obtain ⟨es, e1, e2, e3⟩ := ReL.els tl o hr2
        exact ⟨es, e1, fun _ => ⟨b, o, rfl, e2⟩, e3⟩
    have hcl := rclone_any W0 ta tl.length tc (es.flatMap E6.cells) (by rw [cells6_len, hes]) hec (cells6_one es) hlen
    have HCl := Hid_mk hcl
    have HA := Hid_mk hA
    have HB := Hid_mk hB
    have HQ := Hid_mk hq
    have HZ := Hid_mk hz
    have HK0 := Hid_mk hK0
    have HIh := Hid_mk ih
    have HSz := Hid_mk hsz
    have HN := Hid_mk hN
    have HLe := Hid_mk hlen
    have HEs := Hid_mk hes
    have HEv := Hid_mk hev
    unfold cellsR at hW0
    have HW0 := Hid_mk hW0
    obtain ⟨c0, c1, c2, c3, c4, c5, cw⟩ := hA
    clear hcl hB hq hz hK0 ih hsz hN hlen hes hev hec hW0 h1 h2 h3
    go_enter Try.func115, Try.ntmps115
    unfold cellsR
    go_upto_region 1 with fail
    rw [HQ.out, HW0.out]
    clear HW0
    go_wp2_with fail
    with_reducible refine HCl.out.mono ?_
    rintro e w1 ⟨ka, kc, rfl, hk1, hk2, hk3, hk4⟩
    have hA1 := HA.out.kept hk4 id
    have hB1 := HB.out.kept hk4 id
    have HA1 := Hid_mk hA1
    have HB1 := Hid_mk hB1
    have HK4 := Hid_mk hk4
    have HK3 := Hid_mk hk3
    have HK1 := Hid_mk hk1
    have HK2 := Hid_mk hk2
    obtain ⟨d0, d1, d2, d3, d4, d5, dw⟩ := hA1
    clear hB1 hk1 hk2 hk3 hk4 c0 c1 c2 c3 c4 c5 cw
    obtain ⟨g, hg2, hgk⟩ : ∃ g, q + 2 ≤ g ∧ (tl.length ≠ 0 → ka = some ⟨g, 0, none⟩ ∧ g < w1.heap.size ∧ (∀ j u, (es.flatMap E6.cells)[j]? = some u → w1.cell? ⟨g, j, none⟩ = some u) ∧ ∀ j, w1.frozen? ⟨g, j, none⟩ = false) := by
      by_cases hn : tl.length = 0
      · exact ⟨q + 2, Nat.le_refl _, fun h => absurd hn h⟩
      · obtain ⟨g, e, h1, h2, h3, h4⟩ := HK3.out hn
        exact ⟨g, by have := HZ.out; omega, fun _ => ⟨e, h2, h3, h4⟩⟩
    have HG2 := Hid_mk hg2
    have HGk := Hid_mk hgk
    clear hg2 hgk
    go_wp2
    obtain ⟨W1, hW1⟩ : ∃ W1, w1.setCell ⟨q, 5, none⟩ (.slice ka tl.length kc) = W1 := ⟨_, rfl⟩
    have hkq : Kp (fun z => z = q) w1 W1 := by rw [← hW1]; exact (Kp.refl (fun z => z = q) w1).setCell (p := ⟨q, 5, none⟩) (fun _ => rfl) _
    have hA2 : RAt W1 q (.int .i64 tk) (.int .u64 (wd tf 0 64 : Nat)) (.int .u64 (wd tf 64 64 : Nat)) (.int .u64 (wd tf 128 64 : Nat)) (.int .u64 (wd tf 192 64 : Nat)) (.slice ka tl.length kc) := by
      rw [← hW1]
      obtain ⟨e0, e1, e2, e3, e4, e5, ew⟩ := HA1.out
      have hb : q < w1.heap.size := World.block_lt_of_cell? w1 _ e0
      refine ⟨?_, ?_, ?_, ?_, ?_, ?_, fun i => by simp only [World.frozen?_setCell]; exact ew i⟩
      · exact (World.cell?_setCell_other _ _ _ _ (by intro e; cases e)).trans e0
      · exact (World.cell?_setCell_other _ _ _ _ (by intro e; cases e)).trans e1
      · exact (World.cell?_setCell_other _ _ _ _ (by intro e; cases e)).trans e2
      · exact (World.cell?_setCell_other _ _ _ _ (by intro e; cases e)).trans e3
      · exact (World.cell?_setCell_other _ _ _ _ (by intro e; cases e)).trans e4
      · exact World.cell?_setCell_same _ _ _ e5
    have hB2 : RAt W1 (q + 1) (.int .i64 0) (.int .u64 0) (.int .u64 0) (.int .u64 0) (.int .u64 0) (.slice none 0 0) := HB1.out.kept hkq (by show ¬ q + 1 = q; omega)
    have hst : CpRel W1 q g tl (.int .i64 0) W1 := by
      refine ⟨0, rfl, Nat.zero_le _, Kp.refl _ _, fun hn z => ?_, fun p hp => ?_⟩
      · obtain ⟨-, h1, -, h2⟩ := HGk.out hn
        rw [← h2 z]
        exact hkq.frozen (p := ⟨g, z, none⟩) h1 (by show ¬ g = q; have := HG2.out; omega)
      · obtain ⟨-, h1, h2, -⟩ := HGk.out (by omega)
        have hpe : p < es.length := by rw [HEs.out]; exact hp
        obtain ⟨f', l', e1, e2, e3, e4⟩ := HEv.out p hpe hp
        refine ⟨es[p].k, f', l', es[p].a, es[p].c, e1, ?_, ?_⟩
        · have hcc : ∀ j u, j < 6 → es[p].cells[j]? = some u → W1.cell? ⟨g, p * 6 + j, none⟩ = some u := fun j u hj hu => hkq.cell' (h2 _ u ((cells6_get es p j hpe hj).trans hu)) (by show ¬ g = q; have := HG2.out; omega)
          have e2' : es[p].f = f' := e2
          subst e2'
          exact ⟨hcc 0 _ (by decide) rfl, hcc 1 _ (by decide) rfl, hcc 2 _ (by decide) rfl, hcc 3 _ (by decide) rfl, hcc 4 _ (by decide) rfl, hcc 5 _ (by decide) (by rw [← e3]; rfl)⟩
        · rw [← e1]
          have e5 : (Value.agg (cellsR es[p].k f' es[p].a l'.length es[p].c)) = .agg (cellsR es[p].k es[p].f es[p].a es[p].n es[p].c) := by rw [e2, e3]
          rw [e5]
          have := ReV.kept hkq (T := fun z => z < q) (fun b hb _ => by omega) _ _ (ReV.no HK4.out _ _ e4)
          exact ReV.wider (fun z hz _ => by simp; exact hz) _ _ this
    have hkw : Kp No w W1 := ((HK0.out.trans' HK4.out).trans hkq (T := fun z => z = q)) fun i hi e => by have := HQ.out; omega
    have HA2 := Hid_mk hA2
    have HB2 := Hid_mk hB2
    have HSt := Hid_mk hst
    have HKw := Hid_mk hkw
    have HKq := Hid_mk hkq
    rw [hW1]
    clear hW1 hA2 hB2 hst hkw hkq d0 d1 d2 d3 d4 d5 dw
    go_loopw [12] (fun i wr => CpRel W1 q g tl i wr) (fun i _ => ((tl.length : Int) - intOf i).toNat)
    case atStart => exact HSt.out
    case round =>
      obtain ⟨j, rfl, hj, hkr, hfz, hcp⟩ := hrel
      have HKr := Hid_mk hkr
      have HFz := Hid_mk hfz
      have HCp := Hid_mk hcp
      have hA3 := HA2.out.kept hkr (by show ¬ q = g; have := HG2.out; omega)
      have hB3 := HB2.out.kept hkr (by show ¬ q + 1 = g; have := HG2.out; omega)
      have HA3 := Hid_mk hA3
      have HB3 := Hid_mk hB3
      obtain ⟨a0, a1, a2, a3, a4, a5, aw⟩ := hA3
      obtain ⟨b0, b1, b2, b3, b4, b5, bw⟩ := hB3
      clear hkr hfz hcp
      by_cases hjn : (j : Int) < (tl.length : Int)
      · obtain ⟨hke, -, -, -⟩ := HGk.out (by omega)
        subst hke
        obtain ⟨yk, yf, yl, ya, yc, hyt, ⟨y0, y1, y2, y3, y4, y5⟩, hyv⟩ := HCp.out j (by omega)
        have HYt := Hid_mk hyt
        have HYv := Hid_mk hyv
        clear hyt hyv
        have hzr : (0 : Nat) + j * 6 = j * 6 := Nat.zero_add _
        go_upto_region 5 with fail
        obtain ⟨z0, hz0⟩ : ∃ z0, wr.heap.size = z0 := ⟨_, rfl⟩
        rw [hz0]
        have hka : Kp No wr (wr.alloc (.cells #[.int .i64 yk, .int .u64 (wd yf 0 64 : Nat), .int .u64 (wd yf 64 64 : Nat), .int .u64 (wd yf 128 64 : Nat), .int .u64 (wd yf 192 64 : Nat), .slice ya yl.length yc] 30)) := (Kp.refl No wr).alloc _
        have hpa : RAt (wr.alloc (.cells #[.int .i64 yk, .int .u64 (wd yf 0 64 : Nat), .int .u64 (wd yf 64 64 : Nat), .int .u64 (wd yf 128 64 : Nat), .int .u64 (wd yf 192 64 : Nat), .slice ya yl.length yc] 30)) z0 (.int .i64 yk) (.int .u64 (wd yf 0 64 : Nat)) (.int .u64 (wd yf 64 64 : Nat)) (.int .u64 (wd yf 128 64 : Nat)) (.int .u64 (wd yf 192 64 : Nat)) (.slice ya yl.length yc) := by
          rw [← hz0]
          exact RAt.new wr _ _ _ _ _ _ _
        refine wp_name (fun W => Kp No wr W ∧ RAt W z0 (.int .i64 yk) (.int .u64 (wd yf 0 64 : Nat)) (.int .u64 (wd yf 64 64 : Nat)) (.int .u64 (wd yf 128 64 : Nat)) (.int .u64 (wd yf 192 64 : Nat)) (.slice ya yl.length yc)) ⟨hka, hpa⟩ ?_
        clear hka hpa
        rintro W ⟨hkW, hzW⟩
        have hcal : Calls Try.prog 115 #[.agg (cellsR yk yf ya yl.length yc)] W.drew fun e w' => ∃ (a : Option Addr) (c : Nat), e = .returned (.agg (cellsR yk yf a yl.length c)) ∧ ReV (fun z => W.heap.size ≤ z) w' (.mk yk yf yl) (.agg (cellsR yk yf a yl.length c)) ∧ Kp No W w' := by
          have hsk := cp_size tl j (by omega)
          rw [HYt.out] at hsk
          have h0 := HSz.out
          have h1 := HN.out
          simp only [Tr.size] at h0 hsk
          refine (HIh.out _ (.mk yk yf yl) (by simp only [Tr.size]; omega) (by omega) W.drew _ (ReV.no (hkW.trans' (Kp.refl No W).drew) _ _ HYv.out)).mono ?_
          rintro e w' ⟨k, f, l, a, c, e1, rfl, h2, h3⟩
          cases e1
          exact ⟨a, c, rfl, h2, (Kp.refl No W).drew.trans' h3⟩
        unfold cellsR at hcal
        have HCal := Hid_mk hcal
        have hkeep : ∀ w', Kp No W w' → Kp No wr w' ∧ RAt w' q (.int .i64 tk) (.int .u64 (wd tf 0 64 : Nat)) (.int .u64 (wd tf 64 64 : Nat)) (.int .u64 (wd tf 128 64 : Nat)) (.int .u64 (wd tf 192 64 : Nat)) (.slice (some ⟨g, 0, none⟩) tl.length kc) ∧ RAt w' z0 (.int .i64 yk) (.int .u64 (wd yf 0 64 : Nat)) (.int .u64 (wd yf 64 64 : Nat)) (.int .u64 (wd yf 128 64 : Nat)) (.int .u64 (wd yf 192 64 : Nat)) (.slice ya yl.length yc) ∧
            (w'.cell? ⟨g, j * 6, none⟩ = some (.int .i64 yk) ∧ w'.cell? ⟨g, j * 6 + 1, none⟩ = some (.int .u64 (wd yf 0 64 : Nat)) ∧ w'.cell? ⟨g, j * 6 + 2, none⟩ = some (.int .u64 (wd yf 64 64 : Nat)) ∧ w'.cell? ⟨g, j * 6 + 3, none⟩ = some (.int .u64 (wd yf 128 64 : Nat)) ∧ w'.cell? ⟨g, j * 6 + 4, none⟩ = some (.int .u64 (wd yf 192 64 : Nat)) ∧ w'.cell? ⟨g, j * 6 + 5, none⟩ = some (.slice ya yl.length yc)) ∧ ∀ z, w'.frozen? ⟨g, z, none⟩ = false := fun w' h => by
          have hk := hkW.trans' h
          exact ⟨hk, RAt.kept ⟨a0, a1, a2, a3, a4, a5, aw⟩ hk id, hzW.kept h id, ⟨hk.cell' y0 id, hk.cell' y1 id, hk.cell' y2 id, hk.cell' y3 id, hk.cell' y4 id, hk.cell' y5 id⟩, fun z => (hk.frozen (p := ⟨g, z, none⟩) (World.block_lt_of_cell? wr ⟨g, j * 6, none⟩ y0) id).trans (HFz.out (by omega) z)⟩
        have HKeep := Hid_mk hkeep
        obtain ⟨-, ⟨a0, a1, a2, a3, a4, a5, aw⟩, ⟨z0c, z1c, z2c, z3c, z4c, z5c, zw⟩, ⟨y0, y1, y2, y3, y4, y5⟩, yw⟩ := hkeep W (Kp.refl No W)
        have hwj : IntKind.i64.wrap ((j : Int) + 1) = (j : Int) + 1 := IntWalk.i64_in _ (by have := HLe.out; omega)
        have HZ0 := Hid_mk hz0
        have HKW := Hid_mk hkW
        clear hcal hkeep hkW hzW hz0 b0 b1 b2 b3 b4 b5 bw
        go_region_with (first
          | (go_at_call 115; with_reducible refine HCal.out.mono ?_; rintro e w2 ⟨ua, uc, rfl, huo, hku⟩; have HUo := Hid_mk huo; have HKu := Hid_mk hku; obtain ⟨-, ⟨a0, a1, a2, a3, a4, a5, aw⟩, ⟨z0c, z1c, z2c, z3c, z4c, z5c, zw⟩, ⟨y0, y1, y2, y3, y4, y5⟩, yw⟩ := HKeep.out w2 hku; clear huo hku))
        all_goals
          go_wp2
          go_roundw
          case rel =>
            show CpRel W1 q g tl (.int .i64 ((j : Int) + 1)) (putO w2 g (j * 6) (.int .i64 yk) (.int .u64 (wd yf 0 64 : Nat)) (.int .u64 (wd yf 64 64 : Nat)) (.int .u64 (wd yf 128 64 : Nat)) (.int .u64 (wd yf 192 64 : Nat)) (.slice ua yl.length uc))
            have hks : Kp (fun z => z = g) w2 (putO w2 g (j * 6) (.int .i64 yk) (.int .u64 (wd yf 0 64 : Nat)) (.int .u64 (wd yf 64 64 : Nat)) (.int .u64 (wd yf 128 64 : Nat)) (.int .u64 (wd yf 192 64 : Nat)) (.slice ua yl.length uc)) := kp_putO (Kp.refl (fun z => z = g) w2) (fun _ => rfl) _ _ _ _ _ _ _
            have hk2 : Kp No wr w2 := HKW.out.trans' HKu.out
            have hgl : g < W1.heap.size := Nat.lt_of_lt_of_le (HGk.out (by omega)).2.1 HKq.out.size
            have hgw : g < W.heap.size := Nat.lt_of_lt_of_le hgl (Nat.le_trans HKr.out.size HKW.out.size)
            refine ⟨j + 1, by congr 1, by omega, (HKr.out.trans hk2 (T := No) fun _ _ e => e.elim).trans hks (T := fun z => z = g) fun _ _ e => e, fun _ z => by simp only [putO, World.frozen?_setCell]; exact yw z, fun p hp => ?_⟩
            by_cases hpj : p = j
            · subst hpj
              refine ⟨yk, yf, yl, ua, uc, HYt.out, putO_same y0 y1 y2 y3 y4 y5 _ _ _ _ _ _, ?_⟩
              have hz : q + 2 ≤ W.heap.size := Nat.le_trans HG2.out (Nat.le_of_lt hgw)
              exact ReV.wider (fun z hz' _ => by simp only [Nat.lt_succ_self, if_true]; omega) _ _ (ReV.kept hks (T := fun z => W.heap.size ≤ z) (fun z hz' _ => by omega) _ _ HUo.out)
            · obtain ⟨k, f, l', a, c, h0, ⟨h1, h2, h3, h4, h5, h6⟩, h7⟩ := HCp.out p hp
              have hcc : ∀ i u, i < 6 → wr.cell? ⟨g, p * 6 + i, none⟩ = some u → (putO w2 g (j * 6) (.int .i64 yk) (.int .u64 (wd yf 0 64 : Nat)) (.int .u64 (wd yf 64 64 : Nat)) (.int .u64 (wd yf 128 64 : Nat)) (.int .u64 (wd yf 192 64 : Nat)) (.slice ua yl.length uc)).cell? ⟨g, p * 6 + i, none⟩ = some u := fun i u hi hu => (putO_other _ _ _ _ _ _ _ _ _ _ (by omega)).trans (hk2.cell' hu id)
              refine ⟨k, f, l', a, c, h0, ⟨hcc 0 _ (by decide) h1, hcc 1 _ (by decide) h2, hcc 2 _ (by decide) h3, hcc 3 _ (by decide) h4, hcc 4 _ (by decide) h5, hcc 5 _ (by decide) h6⟩, ?_⟩
              have h8 := ReV.kept hks (fun z hz _ => by
                have := HG2.out
                by_cases hp2 : p < j
                · simp only [hp2, if_true] at hz; omega
                · simp only [hp2, if_false] at hz; omega) _ _ (ReV.no hk2 _ _ h7)
              refine ReV.wider (fun z hz _ => ?_) _ _ h8
              by_cases hp2 : p < j
              · have : p < j + 1 := by omega
                simp only [hp2, this, if_true] at hz ⊢; exact hz
              · have : ¬ p < j + 1 := by omega
                simp only [hp2, this, if_false] at hz ⊢; exact hz
          case measure => simp only [intOf]; omega
      · have hje : j = tl.length := by omega
        subst hje
        go_wp2
        have hk5 : Kp (fun z => z = q + 1) wr (putR wr (q + 1) (.int .i64 tk) (.int .u64 (wd tf 0 64 : Nat)) (.int .u64 (wd tf 64 64 : Nat)) (.int .u64 (wd tf 128 64 : Nat)) (.int .u64 (wd tf 192 64 : Nat)) (.slice ka tl.length kc)) := kp_putR (q := q + 1) (Kp.refl (fun z => z = q + 1) wr) (fun _ => rfl) _ _ _ _ _ _
        have hkf : Kp No w (putR wr (q + 1) (.int .i64 tk) (.int .u64 (wd tf 0 64 : Nat)) (.int .u64 (wd tf 64 64 : Nat)) (.int .u64 (wd tf 128 64 : Nat)) (.int .u64 (wd tf 192 64 : Nat)) (.slice ka tl.length kc)) :=
          (HKw.out.trans HKr.out (T := fun z => z = g) fun i hi e => by have := HQ.out; have := HG2.out; omega).trans hk5 (T := fun z => z = q + 1) fun i hi e => by have := HQ.out; omega
        have hrv : ReV (fun z => q + 2 ≤ z) wr (.mk tk tf tl) (.agg (cellsR tk tf ka tl.length kc)) := by
          refine ⟨ka, kc, rfl, HK1.out, HK2.out, fun hne => ?_⟩
          have hn : tl.length ≠ 0 := fun e => hne (List.eq_nil_of_length_eq_zero e)
          obtain ⟨e1, e2, -, -⟩ := HGk.out hn
          refine ⟨g, 0, e1, ⟨HG2.out, Nat.lt_of_lt_of_le e2 (Nat.le_trans HKq.out.size HKr.out.size)⟩, ReL.of tl 0 fun p hp => ?_⟩
          obtain ⟨k, f, l', a, c, h0, ⟨h1, h2, h3, h4, h5, h6⟩, h7⟩ := HCp.out p hp
          rw [Nat.zero_add, h0]
          exact ⟨_, _, _, _, _, _, h1, h2, h3, h4, h5, h6, ReV.wider (fun z hz _ => by simp only [hp, if_true] at hz; exact hz.1) _ _ h7⟩
        refine bodyPost_ret (v := .agg (cellsR tk tf ka tl.length kc)) ?_ rfl ?_
        · simp [results, Try.results115, go_sem, cellsR, b0, b1, b2, b3, b4, b5]
        · exact ⟨tk, tf, tl, ⟨rfl, rfl, rfl⟩, ka, kc, rfl, ReV.wider (fun z hz _ => by have := HQ.out; show w.heap.size ≤ z; omega) _ _ (ReV.kept hk5 (fun z hz _ => by omega) _ _ hrv), hkf⟩

end Go.Proofs.Ytaneblecgjahbab.ere
