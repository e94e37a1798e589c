/- The reference's with. -/
import Derived.Test.YtomckoeobkfklaaDoorR2Without
namespace Go.Proofs.YtomckoeobkfklaaDoor.r2
open Go.RowKit Go.Maps Go.Proofs.YtomckoeobkfklaaDoor.sum Go.Proofs.YtomckoeobkfklaaDoor.kept Go.Proofs.YtomckoeobkfklaaDoor.app Go.Proofs.YtomckoeobkfklaaDoor.writer Go.Proofs.YtomckoeobkfklaaDoor.clone Go.Proofs.YtomckoeobkfklaaDoor.fs
set_option linter.unusedVariables false

theorem bef_asymm {a b : Name} (h : bef a b = true) : bef b a = false := by
  cases hb : bef b a with
  | false => rfl
  | true =>
    have := bef_trans h hb
    rw [bef_irrefl] at this
    cases this

theorem ins_at {x : Name × List UInt8} : ∀ {es : Files} {k : Nat}, k ≤ es.length → (∀ j (h : j < es.length), j < k → bef es[j].1 x.1 = true) → (∀ h : k < es.length, bef es[k].1 x.1 = false) → (∀ p ∈ es, p.1 ≠ x.1) → ins x es = es.take k ++ x :: es.drop k
  | [], k, _, _, _, _ => by simp [ins]
  | y :: r, 0, _, _, h2, h3 => by
    have hb : bef x.1 y.1 = true := by
      rcases bef_total (h3 y (by simp)) with e | e
      · have := h2 (by simp)
        simp only [List.getElem_cons_zero] at this
        rw [this] at e
        cases e
      · exact e
    simp [ins, hb]
  | y :: r, k + 1, h0, h1, h2, h3 => by
    have hb : bef x.1 y.1 = false := bef_asymm (h1 0 (by simp) (by omega))
    have ih := ins_at (x := x) (es := r) (k := k) (by simpa using h0) (fun j hj hjk => h1 (j + 1) (by simpa using hj) (by omega)) (fun h => h2 (by simpa using h)) (fun p hp => h3 p (by simp [hp]))
    unfold ins
    rw [hb, if_neg (by simp), ih]
    rfl

def wit (k : Nat) (f : Fv) (l : List Fv) : List Fv := (but f.1 l).take k ++ f :: (but f.1 l).drop k
/-- k is where f stands -/
def Stands (k : Nat) (f : Fv) (l : List Fv) : Prop := k ≤ (but f.1 l).length ∧ (∀ j (h : j < (but f.1 l).length), j < k → bef (nm (but f.1 l)[j].1) (nm f.1) = true) ∧ ∀ h : k < (but f.1 l).length, bef (nm (but f.1 l)[k].1) (nm f.1) = false

theorem files_append (l m : List Fv) : files (l ++ m) = files l ++ files m := List.map_append
theorem files_wit {k : Nat} {f : Fv} {l : List Fv} (h : Stands k f l) : files (wit k f l) = put (files l) (nm f.1) f.2.2 := by
  obtain ⟨h0, h1, h2⟩ := h
  unfold put
  rw [← files_but]
  have hlen : (files (but f.1 l)).length = (but f.1 l).length := List.length_map _
  have hi := ins_at (x := (nm f.1, f.2.2)) (es := files (but f.1 l)) (k := k) (by rw [hlen]; exact h0) (fun j hj hjk => by
    have := h1 j (by rw [← hlen]; exact hj) hjk
    simpa [files] using this) (fun hk => by
    have := h2 (by rw [← hlen]; exact hk)
    simpa [files] using this) (fun p hp => by
    rw [files_but] at hp
    exact (mem_drop.1 hp).2)
  rw [hi]
  unfold wit
  rw [files_append]
  simp [files]

/-- a source of an append -/
def Src (w : World) (x : Value) (m : List Fv) : Prop := (x = .slice none 0 0 ∧ m = []) ∨ ∃ b o c, x = .slice (some ⟨b, o, none⟩) m.length c ∧ ∀ j u, (cells m)[j]? = some u → w.cell? ⟨b, o + j, none⟩ = some u

theorem Src.no {w w' : World} {x : Value} {m : List Fv} (h : Src w x m) (hk : Kp No w w') : Src w' x m := by
  rcases h with h | ⟨b, o, c, e, hc⟩
  · exact .inl h
  · exact .inr ⟨b, o, c, e, fun j u hj => hk.cell' (hc j u hj) id⟩

theorem run_src (w : World) (ty : TypeId) (base : Nat) (v x : Value) (l m : List Fv) (h : FRow w base v l) (hbase : base ≤ w.heap.size) (hone : ∀ q ∈ m, q.2.1.oneCell' = true) (hx : Src w x m) (hn : l.length + m.length ≤ 1000000000000) :
    ∃ v' w', (Builtin.append_ #[29, 29] ty #[v, x]).run Tryd.prog w = .ok v' w' ∧ Cat base w v l m v' w' := by
  rcases hx with ⟨rfl, rfl⟩ | ⟨b, o, c, rfl, hc⟩
  · obtain ⟨i0, hi, hz0, hz1, hz2⟩ := info_parts infoF
    refine ⟨v, w, run_append_owned_none (P := Tryd.prog) w base 29 ty 68 i0 2 Tryd.underlying29 hi v l.length _ h, ?_, Kp.refl _ _, .inl rfl⟩
    rw [List.append_nil]
    exact h
  · exact run_cat w ty base v l m h hbase hone b o c hc hn

theorem step_src (w : World) {ops : Array Oper} {o : Oper} {a : Act} {K : Act → World → Prop} {Q : Exit → Act → World → Prop} {E : Prop} (hgd : o.guard = none) (s e : Operand)
    (ho : o.op = .call { callee := .builtin .append, args := #[s, e], argTypes := #[29, 29] })
    (base : Nat) (v x : Value) (l m : List Fv) (hs : a.eval s = v) (he : a.eval e = x) (h : FRow w base v l) (hbase : base ≤ w.heap.size) (hone : ∀ q ∈ m, q.2.1.oneCell' = true) (hx : Src w x m) (hn : l.length + m.length ≤ 1000000000000)
    (hK : ∀ v' w', Cat base w v l m v' w' → K (a.put o.dst v') w') : if Region.wanted o (yielded ops a.tmps) = true then Oper.wp Tryd.prog o a w K Q else E := by
  have hw : Region.wanted o (yielded ops a.tmps) = true := by simp [Region.wanted, hgd]
  rw [if_pos hw]
  obtain ⟨v', w', hr, h2⟩ := run_src w o.type base v x l m h hbase hone hx hn
  unfold Oper.wp execOp
  simp only [ho, resolve, invoke, builtin, Sem.run_bind, Sem.run_pure, Result.andThen_ok, List.map_toArray, List.map_cons, List.map_nil, hs, he, hr]
  exact hK _ _ h2

theorem src_new (w : World) (f : Fv) : Src (w.alloc (.cells #[.string f.1, f.2.1] 68)) (.slice (some ⟨w.heap.size, 0, none⟩) 1 1) [f] := by
  refine .inr ⟨w.heap.size, 0, 1, rfl, fun j u hj => ?_⟩
  have := World.news_of_block (heap_alloc_new w (.cells #[.string f.1, f.2.1] 68)) j u hj
  rw [addr_add] at this
  exact this

theorem less_lt : ∀ x y : List UInt8, Op.bytesLess x y = bytesBefore x y
  | [], [] => rfl
  | _ :: _, [] => rfl
  | [], _ :: _ => rfl
  | a :: x, b :: y => by rw [Op.bytesLess, bytesBefore, less_lt x y]
theorem less_bef (x y : ByteArray) : Op.bytesLess x.toList y.toList = bef (nm x) (nm y) := by
  rw [ByteArray.toList_eq, ByteArray.toList_eq, less_lt]
  rfl

theorem src_take {w : World} {base b n c : Nat} {l : List Fv} (h : FRow w base (.slice (some ⟨b, 0, none⟩) n c) l) (k : Nat) : ∀ j u, (cells (l.take k))[j]? = some u → w.cell? ⟨b, 0 + j, none⟩ = some u := fun j u hj => by
  have h2 : (cells l)[j]? = some u := by
    have e : cells l = cells (l.take k) ++ cells (l.drop k) := by rw [← cells_append, List.take_append_drop]
    rw [e, List.getElem?_append_left (List.getElem?_eq_some_iff.1 hj).1]
    exact hj
  have := World.ownsRow.cells (g := b) h rfl j u h2
  rw [addr_add] at this
  exact this
theorem src_drop {w : World} {base b n c : Nat} {l : List Fv} (h : FRow w base (.slice (some ⟨b, 0, none⟩) n c) l) (k : Nat) : ∀ j u, (cells (l.drop k))[j]? = some u → w.cell? ⟨b, k * 2 + j, none⟩ = some u := fun j u hj => by
  by_cases hk : k ≤ l.length
  · have h2 : (cells l)[k * 2 + j]? = some u := by
      have e : cells l = cells (l.take k) ++ cells (l.drop k) := by rw [← cells_append, List.take_append_drop]
      have e2 : (cells (l.take k)).length = k * 2 := by rw [cells_length, List.length_take, Nat.min_eq_left hk]
      rw [e, List.getElem?_append_right (by omega), e2, Nat.add_sub_cancel_left]
      exact hj
    have := World.ownsRow.cells (g := b) h rfl (k * 2 + j) u h2
    rw [addr_add, Nat.zero_add] at this
    exact this
  · rw [List.drop_eq_nil_of_le (by omega)] at hj
    cases hj

theorem ends {w : World} {base n : Nat} {v : Value} {l : List Value} {t : TypeId} {m : Nat} (h : w.ownsRow base t m v n l) : (v = .slice none 0 0 ∧ n = 0) ∨ ∃ b cap, v = .slice (some ⟨b, 0, none⟩) n cap := by
  rcases h.2 with ⟨e, h0⟩ | ⟨g, cap, cur, e, -⟩
  · exact .inl ⟨e, h0⟩
  · exact .inr ⟨g, cap, e⟩

def WiRel (w1 : World) (f : Fv) (l : List Fv) (i : Value) (wr : World) : Prop := ∃ k : Nat, i = .int .i64 (k : Int) ∧ k ≤ (but f.1 l).length ∧ (∀ j (h : j < (but f.1 l).length), j < k → bef (nm (but f.1 l)[j].1) (nm f.1) = true) ∧ Kp No w1 wr

set_option maxRecDepth 100000 in
set_option maxHeartbeats 4000000 in
theorem with_any (w : World) (v y : Value) (l : List Fv) (n : ByteArray) (bs : List UInt8) (h : Fl w v l) (hl : l.length ≤ 1000000000) (hn : n.size ≤ maxLen) (hy : Bs w y bs) :
    Calls Tryd.prog 51 #[v, .agg #[.string n, y]] w (fun e w' => ∃ k, Stands k (n, y, bs) l ∧ NewFl w (wit k (n, y, bs) l) e w') := by
  have HB := Hid_mk h.2
  obtain ⟨a, cap, rfl, h1, h2, h3⟩ := h.1.opened
  clear h3
  have hbl := but_le n l
  have hwo := without_any (w.alloc (.cells #[.string n, y] 68)) (.slice a l.length cap) l n (h.no ((Kp.refl No w).alloc _)) hl hn
  have HWo := Hid_mk hwo
  have HOne : Hid (∀ q ∈ but n l, q.2.1.oneCell' = true) := Hid_mk fun q hq => by
    obtain ⟨_, _, e, -⟩ := h.2 q (List.mem_filter.1 hq).1
    rw [e]; rfl
  have HLen : Hid ((but n l).length ≤ 1000000000) := Hid_mk (by omega)
  obtain ⟨ay, cy, rfl, -⟩ := id hy
  clear hwo h hy
  go_enter Tryd.func51, Tryd.ntmps51
  go_wp2_with fail
  with_reducible refine HWo.out.mono ?_
  rintro e w1 ⟨v1, rfl, hr1, hk1⟩
  have HR1 := Hid_mk hr1
  have HK1 := Hid_mk hk1
  have hz1 := hk1.size
  obtain ⟨a1, c1, rfl, hc1, hc2, hc3⟩ := hr1.opened
  have b0 : w1.cell? ⟨w.heap.size, 0, none⟩ = some (.string n) := hk1.cell' (by simp) id
  have b1 : w1.cell? ⟨w.heap.size, 1, none⟩ = some (.slice ay bs.length cy) := hk1.cell' (by simp) id
  have HC3 := Hid_mk hc3
  simp only [World.size_alloc] at hz1
  clear hr1 hk1 hc3 HWo
  go_wp2
  go_loopw [5] (fun i wr => WiRel w1 (n, .slice ay bs.length cy, bs) l i wr) (fun i _ => (but n l).length - (intOf i).toNat)
  case atStart => exact ⟨0, rfl, Nat.zero_le _, fun _ _ h => absurd h (Nat.not_lt_zero _), Kp.refl _ _⟩
  case round =>
    obtain ⟨k, rfl, hk, hb, hkp⟩ := hrel
    simp only at hk hb
    have HBf := Hid_mk hb
    have HK := Hid_mk hkp
    have hsz := hkp.size
    have d0 := hkp.cell' b0 id
    have d1 := hkp.cell' b1 id
    clear hb hkp
    have hk0 : (0 : Int) ≤ (k : Int) := Int.natCast_nonneg _
    by_cases hlt : k < (but n l).length
    · have hki : (k : Int) < ((but n l).length : Int) := by omega
      obtain ⟨b, rfl, hc⟩ := HC3.out (by intro e; rw [e] at hlt; simp at hlt)
      obtain ⟨x, hx⟩ : ∃ x, x = (but n l)[k].1 := ⟨_, rfl⟩
      have c0 : wr.cell? ⟨b, k * 2, none⟩ = some (.string x) := HK.out.cell' ((hc k hlt).1.trans (congrArg (fun y => some (Value.string y)) hx.symm)) id
      have HLt := Hid_mk hlt
      have HLess : Hid (bef (nm x) (nm n) = true → ∀ wr', Kp No w1 wr' → WiRel w1 (n, .slice ay bs.length cy, bs) l (.int .i64 ((k : Int) + 1)) wr') := Hid_mk fun hb wr' hk' => ⟨k + 1, by push_cast; rfl, hlt, fun j hj hjk => by
        by_cases e : j = k
        · subst e; rw [hx] at hb; exact hb
        · exact HBf.out j hj (by omega), hk'⟩
      have HStand : Hid (bef (nm x) (nm n) = false → Stands k (n, .slice ay bs.length cy, bs) l) := Hid_mk fun hb => ⟨hk, HBf.out, fun h => by rw [hx] at hb; exact hb⟩
      have hss := less_bef x n
      clear hc hlt hx
      cases hbf : bef (nm x) (nm n) with
      | true =>
        rw [hbf] at hss
        have HN := HLess.out hbf
        have HN2 := Hid_mk HN
        clear HN hbf
        go_wp2
        go_quiet (fail)
        go_wp2
        go_roundw
        case rel => exact HN2.out _ (HK.out.drewN _)
        case measure => have := HLt.out; simp only [intOf]; omega
      | false =>
        rw [hbf] at hss
        have HSt := Hid_mk (HStand.out hbf)
        clear hbf
        go_wp2
        go_quiet (fail)
        go_wp2
        have hkq := HK.out.drewN nq
        have HKq := Hid_mk hkq
        have hzq := hkq.size
        have f0 := hkq.cell' b0 id
        have f1 := hkq.cell' b1 id
        clear hkq
        have hkc : (k : Int) ≤ (c1 : Int) := by omega
        have hkl : (k : Int) ≤ ((but n l).length : Int) := by omega
        have HS1 : Hid (∀ W, Kp No w1 W → Src W (.slice (some ⟨b, 0, none⟩) k c1) ((but n l).take k)) := Hid_mk fun W hW => .inr ⟨b, 0, c1, by rw [List.length_take, Nat.min_eq_left hk], fun j u hj => hW.cell' (src_take HR1.out k j u hj) id⟩
        have HS3 : Hid (∀ W, Kp No w1 W → ∀ o c, (c1 ≠ k → o = k * 2) → Src W (.slice (some ⟨b, o, none⟩) ((but n l).length - k) c) ((but n l).drop k)) := Hid_mk fun W hW o c ho => .inr ⟨b, o, c, by rw [List.length_drop], fun j u hj => by
          by_cases e : c1 = k
          · have : (but n l).drop k = [] := List.drop_eq_nil_of_le (by omega)
            rw [this] at hj
            cases hj
          · rw [ho e]
            exact hW.cell' (src_drop HR1.out k j u hj) id⟩
        have HTk : Hid (((but n l).take k).length = k) := Hid_mk (by rw [List.length_take, Nat.min_eq_left hk])
        have HOne1 : Hid (∀ q ∈ (but n l).take k, q.2.1.oneCell' = true) := Hid_mk fun q hq => HOne.out q (List.mem_of_mem_take hq)
        have HOne3 : Hid (∀ q ∈ (but n l).drop k, q.2.1.oneCell' = true) := Hid_mk fun q hq => HOne.out q (List.mem_of_mem_drop hq)
        have hck : ¬ c1 = k := by have := HLt.out; omega
        iterate 1
          go_region_held3 (fun W => W.cell? ⟨w.heap.size, 0, none⟩ = some (.string n) ∧ W.cell? ⟨w.heap.size, 1, none⟩ = some (.slice ay bs.length cy))
            (first
              | go_keep
              | (dsimp only; exact ⟨q0, q1⟩)
              | (dsimp only; exact ⟨g0, g1⟩)
              | (dsimp only; exact ⟨e0, e1⟩)
              | assumption)
            (first
              | (refine step_src _ (by rfl) _ _ (by rfl) w1.heap.size (.slice none 0 0) _ [] ((but n l).take k) (by rfl) (by rfl) (World.ownsRow_nil _ _ _ _) (by simp; omega) HOne1.out (HS1.out _ (by first | exact HKq.out.drew | exact HKq.out.drew.alloc _)) (by have := HTk.out; first | (simp; done) | (simp; omega)) ?_; intro v2 w2 hc2; have hk2 : Kp No w1 w2 := (by first | exact HKq.out.drew.trans' (hc2.2.1.mono fun _ _ e => by cases e) | exact (HKq.out.drew.alloc _).trans' (hc2.2.1.mono fun _ _ e => by cases e)); have e0 := hk2.cell' b0 id; have e1 := hk2.cell' b1 id)
              | (refine step_src _ (by rfl) _ _ (by rfl) w1.heap.size v2 _ _ [(n, .slice ay bs.length cy, bs)] (by rfl) (by rfl) (by first | exact hc2.1 | exact hc2.1.no ((Kp.refl No w2).alloc _)) (by have := hk2.size; simp; omega) (fun q hq => by simp only [List.mem_singleton] at hq; subst hq; rfl) (by first | exact src_new w2 (n, .slice ay bs.length cy, bs) | exact (src_new (wr.drewN nq).drew (n, .slice ay bs.length cy, bs)).no (hc2.2.1.mono fun _ _ e => by cases e) | (trace_state; fail)) (by have := HTk.out; first | (simp; done) | (simp; omega)) ?_; intro v3 w3 hc3; have hk3 : Kp No w1 w3 := (by first | exact hk2.trans hc3.2.1 (fun i hi e => by have := (World.ownsRow.lt hc2.1 i e.symm).1; omega) | exact (hk2.alloc _).trans hc3.2.1 (fun i hi e => by have := (World.ownsRow.lt hc2.1 i e.symm).1; omega)); have g0 := hk3.cell' b0 id; have g1 := hk3.cell' b1 id)
              | (refine step_src _ (by rfl) _ _ (by rfl) w1.heap.size v3 _ _ ((but n l).drop k) (by rfl) (by rfl) hc3.1 hk3.size HOne3.out (by first | exact HS3.out _ hk3 _ _ (by first | exact fun h => absurd hck h | exact fun _ => rfl) | exact HS3.out _ hk3) (by have := HTk.out; have := HLen.out; first | (simp; done) | (simp; omega)) ?_; intro v4 w4 hc4; have hk4 : Kp No w1 w4 := hk3.trans hc4.2.1 (fun i hi e => by have := (World.ownsRow.lt hc3.1 i e.symm).1; omega); have q0 := hk4.cell' b0 id; have q1 := hk4.cell' b1 id))
          all_goals
            have hfin : ∃ k, Stands k (n, .slice ay bs.length cy, bs) l ∧ NewFl w (wit k (n, .slice ay bs.length cy, bs) l) (.returned v4) w4 := ⟨k, HSt.out, v4, rfl, by
              have := hc4.1.low (show w.heap.size ≤ w1.heap.size by omega)
              rw [List.append_assoc] at this
              exact this, (((Kp.refl No w).alloc _).trans' HK1.out).trans' hk4⟩
            have HF := Hid_mk hfin
            clear hfin hc4 hk4 hc3 hk3 hc2 hk2 e0 e1 g0 g1 q0 q1
            go_wp2
            go_ret
            exact HF.out
    · have hki : ¬ (k : Int) < ((but n l).length : Int) := by omega
      have HEq : Hid (k = (but n l).length) := Hid_mk (by omega)
      have HSt : Hid (Stands k (n, .slice ay bs.length cy, bs) l) := Hid_mk ⟨hk, HBf.out, fun h => absurd h hlt⟩
      have hrr := ends HR1.out
      rcases hrr with ⟨e, h0⟩ | ⟨b, cap', e⟩
      · simp only [Value.slice.injEq] at e
        obtain ⟨rfl, -, rfl⟩ := e
        have hL : but n l = [] := List.eq_nil_of_length_eq_zero h0
        obtain rfl : k = 0 := by have := HEq.out; omega
        have HS1 : Hid (∀ W, Kp No w1 W → Src W (.slice none 0 0) ((but n l).take 0)) := Hid_mk fun W _ => .inl ⟨rfl, rfl⟩
        have HS3 : Hid (∀ W, Kp No w1 W → Src W (.slice none 0 0) ((but n l).drop 0)) := Hid_mk fun W _ => .inl ⟨rfl, by rw [hL]; rfl⟩
        have HTk : Hid (((but n l).take 0).length = 0) := Hid_mk rfl
        have HOne1 : Hid (∀ q ∈ (but n l).take 0, q.2.1.oneCell' = true) := Hid_mk fun q hq => HOne.out q (List.mem_of_mem_take hq)
        have HOne3 : Hid (∀ q ∈ (but n l).drop 0, q.2.1.oneCell' = true) := Hid_mk fun q hq => HOne.out q (List.mem_of_mem_drop hq)
        have hck : True := trivial
        clear hL hlt
        go_wp2
        go_quiet (fail)
        go_wp2
        have hkq := HK.out.drewN nq
        have HKq := Hid_mk hkq
        have hzq := hkq.size
        have f0 := hkq.cell' b0 id
        have f1 := hkq.cell' b1 id
        clear hkq
        iterate 1
          go_region_held3 (fun W => W.cell? ⟨w.heap.size, 0, none⟩ = some (.string n) ∧ W.cell? ⟨w.heap.size, 1, none⟩ = some (.slice ay bs.length cy))
            (first
              | go_keep
              | (dsimp only; exact ⟨q0, q1⟩)
              | (dsimp only; exact ⟨g0, g1⟩)
              | (dsimp only; exact ⟨e0, e1⟩)
              | assumption)
            (first
              | (refine step_src _ (by rfl) _ _ (by rfl) w1.heap.size (.slice none 0 0) _ [] ((but n l).take 0) (by rfl) (by rfl) (World.ownsRow_nil _ _ _ _) (by simp; omega) HOne1.out (HS1.out _ (by first | exact HKq.out.drew | exact HKq.out.drew.alloc _)) (by have := HTk.out; first | (simp; done) | (simp; omega)) ?_; intro v2 w2 hc2; have hk2 : Kp No w1 w2 := (by first | exact HKq.out.drew.trans' (hc2.2.1.mono fun _ _ e => by cases e) | exact (HKq.out.drew.alloc _).trans' (hc2.2.1.mono fun _ _ e => by cases e)); have e0 := hk2.cell' b0 id; have e1 := hk2.cell' b1 id)
              | (refine step_src _ (by rfl) _ _ (by rfl) w1.heap.size v2 _ _ [(n, .slice ay bs.length cy, bs)] (by rfl) (by rfl) (by first | exact hc2.1 | exact hc2.1.no ((Kp.refl No w2).alloc _)) (by have := hk2.size; simp; omega) (fun q hq => by simp only [List.mem_singleton] at hq; subst hq; rfl) (by first | exact src_new w2 (n, .slice ay bs.length cy, bs) | exact (src_new (wr.drewN nq).drew (n, .slice ay bs.length cy, bs)).no (hc2.2.1.mono fun _ _ e => by cases e) | (trace_state; fail)) (by have := HTk.out; first | (simp; done) | (simp; omega)) ?_; intro v3 w3 hc3; have hk3 : Kp No w1 w3 := (by first | exact hk2.trans hc3.2.1 (fun i hi e => by have := (World.ownsRow.lt hc2.1 i e.symm).1; omega) | exact (hk2.alloc _).trans hc3.2.1 (fun i hi e => by have := (World.ownsRow.lt hc2.1 i e.symm).1; omega)); have g0 := hk3.cell' b0 id; have g1 := hk3.cell' b1 id)
              | (refine step_src _ (by rfl) _ _ (by rfl) w1.heap.size v3 _ _ ((but n l).drop 0) (by rfl) (by rfl) hc3.1 hk3.size HOne3.out (by first | exact HS3.out _ hk3 _ _ (by first | exact fun h => absurd hck h | exact fun _ => rfl) | exact HS3.out _ hk3) (by have := HTk.out; have := HLen.out; first | (simp; done) | (simp; omega)) ?_; intro v4 w4 hc4; have hk4 : Kp No w1 w4 := hk3.trans hc4.2.1 (fun i hi e => by have := (World.ownsRow.lt hc3.1 i e.symm).1; omega); have q0 := hk4.cell' b0 id; have q1 := hk4.cell' b1 id))
          all_goals
            have hfin : ∃ k, Stands k (n, .slice ay bs.length cy, bs) l ∧ NewFl w (wit k (n, .slice ay bs.length cy, bs) l) (.returned v4) w4 := ⟨0, HSt.out, v4, rfl, by
              have := hc4.1.low (show w.heap.size ≤ w1.heap.size by omega)
              rw [List.append_assoc] at this
              exact this, (((Kp.refl No w).alloc _).trans' HK1.out).trans' hk4⟩
            have HF := Hid_mk hfin
            clear hfin hc4 hk4 hc3 hk3 hc2 hk2 e0 e1 g0 g1 q0 q1
            go_wp2
            go_ret
            exact HF.out
      · simp only [Value.slice.injEq] at e
        obtain ⟨rfl, -, rfl⟩ := e
        go_wp2
        go_quiet (fail)
        go_wp2
        have hkq := HK.out.drewN nq
        have HKq := Hid_mk hkq
        have hzq := hkq.size
        have f0 := hkq.cell' b0 id
        have f1 := hkq.cell' b1 id
        clear hkq
        have hkc : (k : Int) ≤ (c1 : Int) := by omega
        have hkl : (k : Int) ≤ ((but n l).length : Int) := by omega
        have HS1 : Hid (∀ W, Kp No w1 W → Src W (.slice (some ⟨b, 0, none⟩) k c1) ((but n l).take k)) := Hid_mk fun W hW => .inr ⟨b, 0, c1, by rw [List.length_take, Nat.min_eq_left hk], fun j u hj => hW.cell' (src_take HR1.out k j u hj) id⟩
        have HS3 : Hid (∀ W, Kp No w1 W → ∀ o c, (c1 ≠ k → o = k * 2) → Src W (.slice (some ⟨b, o, none⟩) ((but n l).length - k) c) ((but n l).drop k)) := Hid_mk fun W hW o c ho => .inr ⟨b, o, c, by rw [List.length_drop], fun j u hj => by
          by_cases e : c1 = k
          · have : (but n l).drop k = [] := List.drop_eq_nil_of_le (by omega)
            rw [this] at hj
            cases hj
          · rw [ho e]
            exact hW.cell' (src_drop HR1.out k j u hj) id⟩
        have HTk : Hid (((but n l).take k).length = k) := Hid_mk (by rw [List.length_take, Nat.min_eq_left hk])
        have HOne1 : Hid (∀ q ∈ (but n l).take k, q.2.1.oneCell' = true) := Hid_mk fun q hq => HOne.out q (List.mem_of_mem_take hq)
        have HOne3 : Hid (∀ q ∈ (but n l).drop k, q.2.1.oneCell' = true) := Hid_mk fun q hq => HOne.out q (List.mem_of_mem_drop hq)
        have HS4 : Hid (∀ W, Kp No w1 W → ∀ o c, Src W (.slice (some ⟨b, o, none⟩) 0 c) ((but n l).drop k)) := Hid_mk fun W _ o c => by
          have e : (but n l).drop k = [] := List.drop_eq_nil_of_le (by omega)
          rw [e]
          exact .inr ⟨b, o, c, rfl, fun j u hj => by cases hj⟩
        by_cases hck : c1 = k
        · have hck2 := hck.symm
          clear hck
          obtain rfl := hck2
          go_region_held3 (fun W => W.cell? ⟨w.heap.size, 0, none⟩ = some (.string n) ∧ W.cell? ⟨w.heap.size, 1, none⟩ = some (.slice ay bs.length cy))
            (first
              | go_keep
              | (dsimp only; exact ⟨q0, q1⟩)
              | (dsimp only; exact ⟨g0, g1⟩)
              | (dsimp only; exact ⟨e0, e1⟩)
              | assumption)
            (first
              | (refine step_src _ (by rfl) _ _ (by rfl) w1.heap.size (.slice none 0 0) _ [] ((but n l).take k) (by rfl) (by rfl) (World.ownsRow_nil _ _ _ _) (by simp; omega) HOne1.out (HS1.out _ (by first | exact HKq.out.drew | exact HKq.out.drew.alloc _)) (by have := HTk.out; first | (simp; done) | (simp; omega)) ?_; intro v2 w2 hc2; have hk2 : Kp No w1 w2 := (by first | exact HKq.out.drew.trans' (hc2.2.1.mono fun _ _ e => by cases e) | exact (HKq.out.drew.alloc _).trans' (hc2.2.1.mono fun _ _ e => by cases e)); have e0 := hk2.cell' b0 id; have e1 := hk2.cell' b1 id)
              | (refine step_src _ (by rfl) _ _ (by rfl) w1.heap.size v2 _ _ [(n, .slice ay bs.length cy, bs)] (by rfl) (by rfl) (by first | exact hc2.1 | exact hc2.1.no ((Kp.refl No w2).alloc _)) (by have := hk2.size; simp; omega) (fun q hq => by simp only [List.mem_singleton] at hq; subst hq; rfl) (by first | exact src_new w2 (n, .slice ay bs.length cy, bs) | exact (src_new (wr.drewN nq).drew (n, .slice ay bs.length cy, bs)).no (hc2.2.1.mono fun _ _ e => by cases e) | (trace_state; fail)) (by have := HTk.out; first | (simp; done) | (simp; omega)) ?_; intro v3 w3 hc3; have hk3 : Kp No w1 w3 := (by first | exact hk2.trans hc3.2.1 (fun i hi e => by have := (World.ownsRow.lt hc2.1 i e.symm).1; omega) | exact (hk2.alloc _).trans hc3.2.1 (fun i hi e => by have := (World.ownsRow.lt hc2.1 i e.symm).1; omega)); have g0 := hk3.cell' b0 id; have g1 := hk3.cell' b1 id)
              | (refine step_src _ (by rfl) _ _ (by rfl) w1.heap.size v3 _ _ ((but n l).drop k) (by rfl) (by rfl) hc3.1 hk3.size HOne3.out (by first | exact HS4.out _ hk3 _ _ | exact HS3.out _ hk3 _ _ (by first | exact fun h => absurd rfl h | exact fun h => absurd hck h | exact fun _ => rfl) | exact HS3.out _ hk3) (by have := HTk.out; have := HLen.out; first | (simp; done) | (simp; omega)) ?_; intro v4 w4 hc4; have hk4 : Kp No w1 w4 := hk3.trans hc4.2.1 (fun i hi e => by have := (World.ownsRow.lt hc3.1 i e.symm).1; omega); have q0 := hk4.cell' b0 id; have q1 := hk4.cell' b1 id))
          all_goals
            have hfin : ∃ k, Stands k (n, .slice ay bs.length cy, bs) l ∧ NewFl w (wit k (n, .slice ay bs.length cy, bs) l) (.returned v4) w4 := ⟨k, HSt.out, v4, rfl, by
              have := hc4.1.low (show w.heap.size ≤ w1.heap.size by omega)
              rw [List.append_assoc] at this
              exact this, (((Kp.refl No w).alloc _).trans' HK1.out).trans' hk4⟩
            have HF := Hid_mk hfin
            clear hfin hc4 hk4 hc3 hk3 hc2 hk2 e0 e1 g0 g1 q0 q1
            go_wp2
            go_ret
            exact HF.out
        · iterate 1
            go_region_held3 (fun W => W.cell? ⟨w.heap.size, 0, none⟩ = some (.string n) ∧ W.cell? ⟨w.heap.size, 1, none⟩ = some (.slice ay bs.length cy))
              (first
                | go_keep
                | (dsimp only; exact ⟨q0, q1⟩)
                | (dsimp only; exact ⟨g0, g1⟩)
                | (dsimp only; exact ⟨e0, e1⟩)
                | assumption)
              (first
                | (refine step_src _ (by rfl) _ _ (by rfl) w1.heap.size (.slice none 0 0) _ [] ((but n l).take k) (by rfl) (by rfl) (World.ownsRow_nil _ _ _ _) (by simp; omega) HOne1.out (HS1.out _ (by first | exact HKq.out.drew | exact HKq.out.drew.alloc _)) (by have := HTk.out; first | (simp; done) | (simp; omega)) ?_; intro v2 w2 hc2; have hk2 : Kp No w1 w2 := (by first | exact HKq.out.drew.trans' (hc2.2.1.mono fun _ _ e => by cases e) | exact (HKq.out.drew.alloc _).trans' (hc2.2.1.mono fun _ _ e => by cases e)); have e0 := hk2.cell' b0 id; have e1 := hk2.cell' b1 id)
                | (refine step_src _ (by rfl) _ _ (by rfl) w1.heap.size v2 _ _ [(n, .slice ay bs.length cy, bs)] (by rfl) (by rfl) (by first | exact hc2.1 | exact hc2.1.no ((Kp.refl No w2).alloc _)) (by have := hk2.size; simp; omega) (fun q hq => by simp only [List.mem_singleton] at hq; subst hq; rfl) (by first | exact src_new w2 (n, .slice ay bs.length cy, bs) | exact (src_new (wr.drewN nq).drew (n, .slice ay bs.length cy, bs)).no (hc2.2.1.mono fun _ _ e => by cases e) | (trace_state; fail)) (by have := HTk.out; first | (simp; done) | (simp; omega)) ?_; intro v3 w3 hc3; have hk3 : Kp No w1 w3 := (by first | exact hk2.trans hc3.2.1 (fun i hi e => by have := (World.ownsRow.lt hc2.1 i e.symm).1; omega) | exact (hk2.alloc _).trans hc3.2.1 (fun i hi e => by have := (World.ownsRow.lt hc2.1 i e.symm).1; omega)); have g0 := hk3.cell' b0 id; have g1 := hk3.cell' b1 id)
                | (refine step_src _ (by rfl) _ _ (by rfl) w1.heap.size v3 _ _ ((but n l).drop k) (by rfl) (by rfl) hc3.1 hk3.size HOne3.out (by first | exact HS4.out _ hk3 _ _ | exact HS3.out _ hk3 _ _ (by first | exact fun h => absurd hck h | exact fun _ => rfl) | exact HS3.out _ hk3) (by have := HTk.out; have := HLen.out; first | (simp; done) | (simp; omega)) ?_; intro v4 w4 hc4; have hk4 : Kp No w1 w4 := hk3.trans hc4.2.1 (fun i hi e => by have := (World.ownsRow.lt hc3.1 i e.symm).1; omega); have q0 := hk4.cell' b0 id; have q1 := hk4.cell' b1 id))
            all_goals
              have hfin : ∃ k, Stands k (n, .slice ay bs.length cy, bs) l ∧ NewFl w (wit k (n, .slice ay bs.length cy, bs) l) (.returned v4) w4 := ⟨k, HSt.out, v4, rfl, by
                have := hc4.1.low (show w.heap.size ≤ w1.heap.size by omega)
                rw [List.append_assoc] at this
                exact this, (((Kp.refl No w).alloc _).trans' HK1.out).trans' hk4⟩
              have HF := Hid_mk hfin
              clear hfin hc4 hk4 hc3 hk3 hc2 hk2 e0 e1 g0 g1 q0 q1
              go_wp2
              go_ret
              exact HF.out

end Go.Proofs.YtomckoeobkfklaaDoor.r2
