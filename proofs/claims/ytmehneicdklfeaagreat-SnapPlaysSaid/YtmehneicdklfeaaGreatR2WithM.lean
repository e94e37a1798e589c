/- The reference's with. Files in memory: a map of slices of bytes; no two of them lie in one row. What is looked up, stored, deleted. -/
import Derived.Test.YtmehneicdklfeaaGreatFsPlainM
import Derived.Test.YtmehneicdklfeaaGreatBaseM
import Derived.Maps.OwnSet
import Derived.Maps.RangeWalk
import Derived.Deep.RegionHeld3

namespace Go.Proofs.YtmehneicdklfeaaGreat.r2
open Go.RowKit Go.Maps Go.Proofs.YtmehneicdklfeaaGreat.sum Go.Proofs.YtmehneicdklfeaaGreat.kept Go.Proofs.YtmehneicdklfeaaGreat.app Go.Proofs.YtmehneicdklfeaaGreat.writer Go.Proofs.YtmehneicdklfeaaGreat.clone Go.Proofs.YtmehneicdklfeaaGreat.fs
set_option linter.unusedVariables false

theorem bef_asymm {a b : Name} (h : bef a b = true) : bef b a = false := by
  cases hb : bef b a with
  | false => rfl
  | true =>
    have := bef_trans h hb
    rw [bef_irrefl] at this
    cases this

theorem ins_at {x : Name × List UInt8} : ∀ {es : Files} {k : Nat}, k ≤ es.length → (∀ j (h : j < es.length), j < k → bef es[j].1 x.1 = true) → (∀ h : k < es.length, bef es[k].1 x.1 = false) → (∀ p ∈ es, p.1 ≠ x.1) → ins x es = es.take k ++ x :: es.drop k
  | [], k, _, _, _, _ => by simp [ins]
  | y :: r, 0, _, _, h2, h3 => by
    have hb : bef x.1 y.1 = true := by
      rcases bef_total (h3 y (by simp)) with e | e
      · have := h2 (by simp)
        simp only [List.getElem_cons_zero] at this
        rw [this] at e
        cases e
      · exact e
    simp [ins, hb]
  | y :: r, k + 1, h0, h1, h2, h3 => by
    have hb : bef x.1 y.1 = false := bef_asymm (h1 0 (by simp) (by omega))
    have ih := ins_at (x := x) (es := r) (k := k) (by simpa using h0) (fun j hj hjk => h1 (j + 1) (by simpa using hj) (by omega)) (fun h => h2 (by simpa using h)) (fun p hp => h3 p (by simp [hp]))
    unfold ins
    rw [hb, if_neg (by simp), ih]
    rfl

def wit (k : Nat) (f : Fv) (l : List Fv) : List Fv := (but f.1 l).take k ++ f :: (but f.1 l).drop k
/-- k is where f stands -/
def Stands (k : Nat) (f : Fv) (l : List Fv) : Prop := k ≤ (but f.1 l).length ∧ (∀ j (h : j < (but f.1 l).length), j < k → bef (nm (but f.1 l)[j].1) (nm f.1) = true) ∧ ∀ h : k < (but f.1 l).length, bef (nm (but f.1 l)[k].1) (nm f.1) = false

theorem files_append (l m : List Fv) : files (l ++ m) = files l ++ files m := List.map_append
theorem files_wit {k : Nat} {f : Fv} {l : List Fv} (h : Stands k f l) : files (wit k f l) = put (files l) (nm f.1) f.2.2 := by
  obtain ⟨h0, h1, h2⟩ := h
  unfold put
  rw [← files_but]
  have hlen : (files (but f.1 l)).length = (but f.1 l).length := List.length_map _
  have hi := ins_at (x := (nm f.1, f.2.2)) (es := files (but f.1 l)) (k := k) (by rw [hlen]; exact h0) (fun j hj hjk => by
    have := h1 j (by rw [← hlen]; exact hj) hjk
    simpa [files] using this) (fun hk => by
    have := h2 (by rw [← hlen]; exact hk)
    simpa [files] using this) (fun p hp => by
    rw [files_but] at hp
    exact (mem_drop.1 hp).2)
  rw [hi]
  unfold wit
  rw [files_append]
  simp [files]

/-- a source of an append -/
def Src (w : World) (x : Value) (m : List Fv) : Prop := (x = .slice none 0 0 ∧ m = []) ∨ ∃ b o c, x = .slice (some ⟨b, o, none⟩) m.length c ∧ ∀ j u, (cells m)[j]? = some u → w.cell? ⟨b, o + j, none⟩ = some u

theorem Src.no {w w' : World} {x : Value} {m : List Fv} (h : Src w x m) (hk : Kp No w w') : Src w' x m := by
  rcases h with h | ⟨b, o, c, e, hc⟩
  · exact .inl h
  · exact .inr ⟨b, o, c, e, fun j u hj => hk.cell' (hc j u hj) id⟩

theorem run_src (w : World) (ty : TypeId) (base : Nat) (v x : Value) (l m : List Fv) (h : FRow w base v l) (hbase : base ≤ w.heap.size) (hone : ∀ q ∈ m, q.2.1.oneCell' = true) (hx : Src w x m) (hn : l.length + m.length ≤ 1000000000000) :
    ∃ v' w', (Builtin.append_ #[46, 46] ty #[v, x]).run Tryz.prog w = .ok v' w' ∧ Cat base w v l m v' w' := by
  rcases hx with ⟨rfl, rfl⟩ | ⟨b, o, c, rfl, hc⟩
  · obtain ⟨i0, hi, hz0, hz1, hz2⟩ := info_parts infoF
    refine ⟨v, w, run_append_owned_none (P := Tryz.prog) w base 46 ty 45 i0 2 Tryz.underlying46 hi v l.length _ h, ?_, Kp.refl _ _, .inl rfl⟩
    rw [List.append_nil]
    exact h
  · exact run_cat w ty base v l m h hbase hone b o c hc hn

theorem step_src (w : World) {ops : Array Oper} {o : Oper} {a : Act} {K : Act → World → Prop} {Q : Exit → Act → World → Prop} {E : Prop} (hgd : o.guard = none) (s e : Operand)
    (ho : o.op = .call { callee := .builtin .append, args := #[s, e], argTypes := #[46, 46] })
    (base : Nat) (v x : Value) (l m : List Fv) (hs : a.eval s = v) (he : a.eval e = x) (h : FRow w base v l) (hbase : base ≤ w.heap.size) (hone : ∀ q ∈ m, q.2.1.oneCell' = true) (hx : Src w x m) (hn : l.length + m.length ≤ 1000000000000)
    (hK : ∀ v' w', Cat base w v l m v' w' → K (a.put o.dst v') w') : if Region.wanted o (yielded ops a.tmps) = true then Oper.wp Tryz.prog o a w K Q else E := by
  have hw : Region.wanted o (yielded ops a.tmps) = true := by simp [Region.wanted, hgd]
  rw [if_pos hw]
  obtain ⟨v', w', hr, h2⟩ := run_src w o.type base v x l m h hbase hone hx hn
  unfold Oper.wp execOp
  simp only [ho, resolve, invoke, builtin, Sem.run_bind, Sem.run_pure, Result.andThen_ok, List.map_toArray, List.map_cons, List.map_nil, hs, he, hr]
  exact hK _ _ h2

theorem src_new (w : World) (f : Fv) : Src (w.alloc (.cells #[.string f.1, f.2.1] 45)) (.slice (some ⟨w.heap.size, 0, none⟩) 1 1) [f] := by
  refine .inr ⟨w.heap.size, 0, 1, rfl, fun j u hj => ?_⟩
  have := World.news_of_block (heap_alloc_new w (.cells #[.string f.1, f.2.1] 45)) j u hj
  rw [addr_add] at this
  exact this

theorem less_lt : ∀ x y : List UInt8, Op.bytesLess x y = bytesBefore x y
  | [], [] => rfl
  | _ :: _, [] => rfl
  | [], _ :: _ => rfl
  | a :: x, b :: y => by rw [Op.bytesLess, bytesBefore, less_lt x y]
theorem less_bef (x y : ByteArray) : Op.bytesLess x.toList y.toList = bef (nm x) (nm y) := by
  rw [ByteArray.toList_eq, ByteArray.toList_eq, less_lt]
  rfl

theorem src_take {w : World} {base b n c : Nat} {l : List Fv} (h : FRow w base (.slice (some ⟨b, 0, none⟩) n c) l) (k : Nat) : ∀ j u, (cells (l.take k))[j]? = some u → w.cell? ⟨b, 0 + j, none⟩ = some u := fun j u hj => by
  have h2 : (cells l)[j]? = some u := by
    have e : cells l = cells (l.take k) ++ cells (l.drop k) := by rw [← cells_append, List.take_append_drop]
    rw [e, List.getElem?_append_left (List.getElem?_eq_some_iff.1 hj).1]
    exact hj
  have := World.ownsRow.cells (g := b) h rfl j u h2
  rw [addr_add] at this
  exact this
theorem src_drop {w : World} {base b n c : Nat} {l : List Fv} (h : FRow w base (.slice (some ⟨b, 0, none⟩) n c) l) (k : Nat) : ∀ j u, (cells (l.drop k))[j]? = some u → w.cell? ⟨b, k * 2 + j, none⟩ = some u := fun j u hj => by
  by_cases hk : k ≤ l.length
  · have h2 : (cells l)[k * 2 + j]? = some u := by
      have e : cells l = cells (l.take k) ++ cells (l.drop k) := by rw [← cells_append, List.take_append_drop]
      have e2 : (cells (l.take k)).length = k * 2 := by rw [cells_length, List.length_take, Nat.min_eq_left hk]
      rw [e, List.getElem?_append_right (by omega), e2, Nat.add_sub_cancel_left]
      exact hj
    have := World.ownsRow.cells (g := b) h rfl (k * 2 + j) u h2
    rw [addr_add, Nat.zero_add] at this
    exact this
  · rw [List.drop_eq_nil_of_le (by omega)] at hj
    cases hj

theorem ends {w : World} {base n : Nat} {v : Value} {l : List Value} {t : TypeId} {m : Nat} (h : w.ownsRow base t m v n l) : (v = .slice none 0 0 ∧ n = 0) ∨ ∃ b cap, v = .slice (some ⟨b, 0, none⟩) n cap := by
  rcases h.2 with ⟨e, h0⟩ | ⟨g, cap, cur, e, -⟩
  · exact .inl ⟨e, h0⟩
  · exact .inr ⟨g, cap, e⟩

def WiRel (w1 : World) (f : Fv) (l : List Fv) (i : Value) (wr : World) : Prop := ∃ k : Nat, i = .int .i64 (k : Int) ∧ k ≤ (but f.1 l).length ∧ (∀ j (h : j < (but f.1 l).length), j < k → bef (nm (but f.1 l)[j].1) (nm f.1) = true) ∧ Kp No w1 wr

set_option maxRecDepth 100000 in
set_option maxHeartbeats 4000000 in
theorem with_any (w : World) (v y : Value) (l : List Fv) (n : ByteArray) (bs : List UInt8) (h : Fl w v l) (hl : l.length ≤ 1000000000) (hn : n.size ≤ maxLen) (hy : Bs w y bs) :
    Calls Tryz.prog 68 #[v, .agg #[.string n, y]] w (fun e w' => ∃ k, Stands k (n, y, bs) l ∧ NewFl w (wit k (n, y, bs) l) e w') := by
  have HB := Hid_mk h.2
  obtain ⟨a, cap, rfl, h1, h2, h3⟩ := h.1.opened
  clear h3
  have hbl := but_le n l
  have hwo := without_any (w.alloc (.cells #[.string n, y] 45)) (.slice a l.length cap) l n (h.no ((Kp.refl No w).alloc _)) hl hn
  have HWo := Hid_mk hwo
  have HOne : Hid (∀ q ∈ but n l, q.2.1.oneCell' = true) := Hid_mk fun q hq => by
    obtain ⟨_, _, e, -⟩ := h.2 q (List.mem_filter.1 hq).1
    rw [e]; rfl
  have HLen : Hid ((but n l).length ≤ 1000000000) := Hid_mk (by omega)
  obtain ⟨ay, cy, rfl, -⟩ := id hy
  clear hwo h hy
  go_enter Tryz.func68, Tryz.ntmps68
  go_wp2_with fail
  with_reducible refine HWo.out.mono ?_
  rintro e w1 ⟨v1, rfl, hr1, hk1⟩
  have HR1 := Hid_mk hr1
  have HK1 := Hid_mk hk1
  have hz1 := hk1.size
  obtain ⟨a1, c1, rfl, hc1, hc2, hc3⟩ := hr1.opened
  have b0 : w1.cell? ⟨w.heap.size, 0, none⟩ = some (.string n) := hk1.cell' (by simp) id
  have b1 : w1.cell? ⟨w.heap.size, 1, none⟩ = some (.slice ay bs.length cy) := hk1.cell' (by simp) id
  have HC3 := Hid_mk hc3
  simp only [World.size_alloc] at hz1
  clear hr1 hk1 hc3 HWo
  go_wp2
  go_loopw [5] (fun i wr => WiRel w1 (n, .slice ay bs.length cy, bs) l i wr) (fun i _ => (but n l).length - (intOf i).toNat)
  case atStart => exact ⟨0, rfl, Nat.zero_le _, fun _ _ h => absurd h (Nat.not_lt_zero _), Kp.refl _ _⟩
  case round =>
    obtain ⟨k, rfl, hk, hb, hkp⟩ := hrel
    simp only at hk hb
    have HBf := Hid_mk hb
    have HK := Hid_mk hkp
    have hsz := hkp.size
    have d0 := hkp.cell' b0 id
    have d1 := hkp.cell' b1 id
    clear hb hkp
    have hk0 : (0 : Int) ≤ (k : Int) := Int.natCast_nonneg _
    by_cases hlt : k < (but n l).length
    · have hki : (k : Int) < ((but n l).length : Int) := by omega
      obtain ⟨b, rfl, hc⟩ := HC3.out (by intro e; rw [e] at hlt; simp at hlt)
      obtain ⟨x, hx⟩ : ∃ x, x = (but n l)[k].1 := ⟨_, rfl⟩
      have c0 : wr.cell? ⟨b, k * 2, none⟩ = some (.string x) := HK.out.cell' ((hc k hlt).1.trans (congrArg (fun y => some (Value.string y)) hx.symm)) id
      have HLt := Hid_mk hlt
      have HLess : Hid (bef (nm x) (nm n) = true → ∀ wr', Kp No w1 wr' → WiRel w1 (n, .slice ay bs.length cy, bs) l (.int .i64 ((k : Int) + 1)) wr') := Hid_mk fun hb wr' hk' => ⟨k + 1, by push_cast; rfl, hlt, fun j hj hjk => by
        by_cases e : j = k
        · subst e; rw [hx] at hb; exact hb
        · exact HBf.out j hj (by omega), hk'⟩
      have HStand : Hid (bef (nm x) (nm n) = false → Stands k (n, .slice ay bs.length cy, bs) l) := Hid_mk fun hb => ⟨hk, HBf.out, fun h => by rw [hx] at hb; exact hb⟩
      have hss := less_bef x n
      clear hc hlt hx
      cases hbf : bef (nm x) (nm n) with
      | true =>
        rw [hbf] at hss
        have HN := HLess.out hbf
        have HN2 := Hid_mk HN
        clear HN hbf
        go_wp2
        go_quiet (fail)
        go_wp2
        go_roundw
        case rel => exact HN2.out _ (HK.out.drewN _)
        case measure => have := HLt.out; simp only [intOf]; omega
      | false =>
        rw [hbf] at hss
        have HSt := Hid_mk (HStand.out hbf)
        clear hbf
        go_wp2
        go_quiet (fail)
        go_wp2
        have hkq := HK.out.drewN nq
        have HKq := Hid_mk hkq
        have hzq := hkq.size
        have f0 := hkq.cell' b0 id
        have f1 := hkq.cell' b1 id
        clear hkq
        have hkc : (k : Int) ≤ (c1 : Int) := by omega
        have hkl : (k : Int) ≤ ((but n l).length : Int) := by omega
        have HS1 : Hid (∀ W, Kp No w1 W → Src W (.slice (some ⟨b, 0, none⟩) k c1) ((but n l).take k)) := Hid_mk fun W hW => .inr ⟨b, 0, c1, by rw [List.length_take, Nat.min_eq_left hk], fun j u hj => hW.cell' (src_take HR1.out k j u hj) id⟩
        have HS3 : Hid (∀ W, Kp No w1 W → ∀ o c, (c1 ≠ k → o = k * 2) → Src W (.slice (some ⟨b, o, none⟩) ((but n l).length - k) c) ((but n l).drop k)) := Hid_mk fun W hW o c ho => .inr ⟨b, o, c, by rw [List.length_drop], fun j u hj => by
          by_cases e : c1 = k
          · have : (but n l).drop k = [] := List.drop_eq_nil_of_le (by omega)
            rw [this] at hj
            cases hj
          · rw [ho e]
            exact hW.cell' (src_drop HR1.out k j u hj) id⟩
        have HTk : Hid (((but n l).take k).length = k) := Hid_mk (by rw [List.length_take, Nat.min_eq_left hk])
        have HOne1 : Hid (∀ q ∈ (but n l).take k, q.2.1.oneCell' = true) := Hid_mk fun q hq => HOne.out q (List.mem_of_mem_take hq)
        have HOne3 : Hid (∀ q ∈ (but n l).drop k, q.2.1.oneCell' = true) := Hid_mk fun q hq => HOne.out q (List.mem_of_mem_drop hq)
        have hck : ¬ c1 = k := by have := HLt.out; omega
        iterate 1
          go_region_held3 (fun W => W.cell? ⟨w.heap.size, 0, none⟩ = some (.string n) ∧ W.cell? ⟨w.heap.size, 1, none⟩ = some (.slice ay bs.length cy))
            (first
              | go_keep
              | (dsimp only; exact ⟨q0, q1⟩)
              | (dsimp only; exact ⟨g0, g1⟩)
              | (dsimp only; exact ⟨e0, e1⟩)
              | assumption)
            (first
              | (refine step_src _ (by rfl) _ _ (by rfl) w1.heap.size (.slice none 0 0) _ [] ((but n l).take k) (by rfl) (by rfl) (World.ownsRow_nil _ _ _ _) (by simp; omega) HOne1.out (HS1.out _ (by first | exact HKq.out.drew | exact HKq.out.drew.alloc _)) (by have := HTk.out; first | (simp; done) | (simp; omega)) ?_; intro v2 w2 hc2; have hk2 : Kp No w1 w2 := (by first | exact HKq.out.drew.trans' (hc2.2.1.mono fun _ _ e => by cases e) | exact (HKq.out.drew.alloc _).trans' (hc2.2.1.mono fun _ _ e => by cases e)); have e0 := hk2.cell' b0 id; have e1 := hk2.cell' b1 id)
              | (refine step_src _ (by rfl) _ _ (by rfl) w1.heap.size v2 _ _ [(n, .slice ay bs.length cy, bs)] (by rfl) (by rfl) (by first | exact hc2.1 | exact hc2.1.no ((Kp.refl No w2).alloc _)) (by have := hk2.size; simp; omega) (fun q hq => by simp only [List.mem_singleton] at hq; subst hq; rfl) (by first | exact src_new w2 (n, .slice ay bs.length cy, bs) | exact (src_new (wr.drewN nq).drew (n, .slice ay bs.length cy, bs)).no (hc2.2.1.mono fun _ _ e => by cases e) | (trace_state; fail)) (by have := HTk.out; first | (simp; done) | (simp; omega)) ?_; intro v3 w3 hc3; have hk3 : Kp No w1 w3 := (by first | exact hk2.trans hc3.2.1 (fun i hi e => by have := (World.ownsRow.lt hc2.1 i e.symm).1; omega) | exact (hk2.alloc _).trans hc3.2.1 (fun i hi e => by have := (World.ownsRow.lt hc2.1 i e.symm).1; omega)); have g0 := hk3.cell' b0 id; have g1 := hk3.cell' b1 id)
              | (refine step_src _ (by rfl) _ _ (by rfl) w1.heap.size v3 _ _ ((but n l).drop k) (by rfl) (by rfl) hc3.1 hk3.size HOne3.out (by first | exact HS3.out _ hk3 _ _ (by first | exact fun h => absurd hck h | exact fun _ => rfl) | exact HS3.out _ hk3) (by have := HTk.out; have := HLen.out; first | (simp; done) | (simp; omega)) ?_; intro v4 w4 hc4; have hk4 : Kp No w1 w4 := hk3.trans hc4.2.1 (fun i hi e => by have := (World.ownsRow.lt hc3.1 i e.symm).1; omega); have q0 := hk4.cell' b0 id; have q1 := hk4.cell' b1 id))
          all_goals
            have hfin : ∃ k, Stands k (n, .slice ay bs.length cy, bs) l ∧ NewFl w (wit k (n, .slice ay bs.length cy, bs) l) (.returned v4) w4 := ⟨k, HSt.out, v4, rfl, by
              have := hc4.1.low (show w.heap.size ≤ w1.heap.size by omega)
              rw [List.append_assoc] at this
              exact this, (((Kp.refl No w).alloc _).trans' HK1.out).trans' hk4⟩
            have HF := Hid_mk hfin
            clear hfin hc4 hk4 hc3 hk3 hc2 hk2 e0 e1 g0 g1 q0 q1
            go_wp2
            go_ret
            exact HF.out
    · have hki : ¬ (k : Int) < ((but n l).length : Int) := by omega
      have HEq : Hid (k = (but n l).length) := Hid_mk (by omega)
      have HSt : Hid (Stands k (n, .slice ay bs.length cy, bs) l) := Hid_mk ⟨hk, HBf.out, fun h => absurd h hlt⟩
      have hrr := ends HR1.out
      rcases hrr with ⟨e, h0⟩ | ⟨b, cap', e⟩
      · simp only [Value.slice.injEq] at e
        obtain ⟨rfl, -, rfl⟩ := e
        have hL : but n l = [] := List.eq_nil_of_length_eq_zero h0
        obtain rfl : k = 0 := by have := HEq.out; omega
        have HS1 : Hid (∀ W, Kp No w1 W → Src W (.slice none 0 0) ((but n l).take 0)) := Hid_mk fun W _ => .inl ⟨rfl, rfl⟩
        have HS3 : Hid (∀ W, Kp No w1 W → Src W (.slice none 0 0) ((but n l).drop 0)) := Hid_mk fun W _ => .inl ⟨rfl, by rw [hL]; rfl⟩
        have HTk : Hid (((but n l).take 0).length = 0) := Hid_mk rfl
        have HOne1 : Hid (∀ q ∈ (but n l).take 0, q.2.1.oneCell' = true) := Hid_mk fun q hq => HOne.out q (List.mem_of_mem_take hq)
        have HOne3 : Hid (∀ q ∈ (but n l).drop 0, q.2.1.oneCell' = true) := Hid_mk fun q hq => HOne.out q (List.mem_of_mem_drop hq)
        have hck : True := trivial
        clear hL hlt
        go_wp2
        go_quiet (fail)
        go_wp2
        have hkq := HK.out.drewN nq
        have HKq := Hid_mk hkq
        have hzq := hkq.size
        have f0 := hkq.cell' b0 id
        have f1 := hkq.cell' b1 id
        clear hkq
        iterate 1
          go_region_held3 (fun W => W.cell? ⟨w.heap.size, 0, none⟩ = some (.string n) ∧ W.cell? ⟨w.heap.size, 1, none⟩ = some (.slice ay bs.length cy))
            (first
              | go_keep
              | (dsimp only; exact ⟨q0, q1⟩)
              | (dsimp only; exact ⟨g0, g1⟩)
              | (dsimp only; exact ⟨e0, e1⟩)
              | assumption)
            (first
              | (refine step_src _ (by rfl) _ _ (by rfl) w1.heap.size (.slice none 0 0) _ [] ((but n l).take 0) (by rfl) (by rfl) (World.ownsRow_nil _ _ _ _) (by simp; omega) HOne1.out (HS1.out _ (by first | exact HKq.out.drew | exact HKq.out.drew.alloc _)) (by have := HTk.out; first | (simp; done) | (simp; omega)) ?_; intro v2 w2 hc2; have hk2 : Kp No w1 w2 := (by first | exact HKq.out.drew.trans' (hc2.2.1.mono fun _ _ e => by cases e) | exact (HKq.out.drew.alloc _).trans' (hc2.2.1.mono fun _ _ e => by cases e)); have e0 := hk2.cell' b0 id; have e1 := hk2.cell' b1 id)
              | (refine step_src _ (by rfl) _ _ (by rfl) w1.heap.size v2 _ _ [(n, .slice ay bs.length cy, bs)] (by rfl) (by rfl) (by first | exact hc2.1 | exact hc2.1.no ((Kp.refl No w2).alloc _)) (by have := hk2.size; simp; omega) (fun q hq => by simp only [List.mem_singleton] at hq; subst hq; rfl) (by first | exact src_new w2 (n, .slice ay bs.length cy, bs) | exact (src_new (wr.drewN nq).drew (n, .slice ay bs.length cy, bs)).no (hc2.2.1.mono fun _ _ e => by cases e) | (trace_state; fail)) (by have := HTk.out; first | (simp; done) | (simp; omega)) ?_; intro v3 w3 hc3; have hk3 : Kp No w1 w3 := (by first | exact hk2.trans hc3.2.1 (fun i hi e => by have := (World.ownsRow.lt hc2.1 i e.symm).1; omega) | exact (hk2.alloc _).trans hc3.2.1 (fun i hi e => by have := (World.ownsRow.lt hc2.1 i e.symm).1; omega)); have g0 := hk3.cell' b0 id; have g1 := hk3.cell' b1 id)
              | (refine step_src _ (by rfl) _ _ (by rfl) w1.heap.size v3 _ _ ((but n l).drop 0) (by rfl) (by rfl) hc3.1 hk3.size HOne3.out (by first | exact HS3.out _ hk3 _ _ (by first | exact fun h => absurd hck h | exact fun _ => rfl) | exact HS3.out _ hk3) (by have := HTk.out; have := HLen.out; first | (simp; done) | (simp; omega)) ?_; intro v4 w4 hc4; have hk4 : Kp No w1 w4 := hk3.trans hc4.2.1 (fun i hi e => by have := (World.ownsRow.lt hc3.1 i e.symm).1; omega); have q0 := hk4.cell' b0 id; have q1 := hk4.cell' b1 id))
          all_goals
            have hfin : ∃ k, Stands k (n, .slice ay bs.length cy, bs) l ∧ NewFl w (wit k (n, .slice ay bs.length cy, bs) l) (.returned v4) w4 := ⟨0, HSt.out, v4, rfl, by
              have := hc4.1.low (show w.heap.size ≤ w1.heap.size by omega)
              rw [List.append_assoc] at this
              exact this, (((Kp.refl No w).alloc _).trans' HK1.out).trans' hk4⟩
            have HF := Hid_mk hfin
            clear hfin hc4 hk4 hc3 hk3 hc2 hk2 e0 e1 g0 g1 q0 q1
            go_wp2
            go_ret
            exact HF.out
      · simp only [Value.slice.injEq] at e
        obtain ⟨rfl, -, rfl⟩ := e
        go_wp2
        go_quiet (fail)
        go_wp2
        have hkq := HK.out.drewN nq
        have HKq := Hid_mk hkq
        have hzq := hkq.size
        have f0 := hkq.cell' b0 id
        have f1 := hkq.cell' b1 id
        clear hkq
        have hkc : (k : Int) ≤ (c1 : Int) := by omega
        have hkl : (k : Int) ≤ ((but n l).length : Int) := by omega
        have HS1 : Hid (∀ W, Kp No w1 W → Src W (.slice (some ⟨b, 0, none⟩) k c1) ((but n l).take k)) := Hid_mk fun W hW => .inr ⟨b, 0, c1, by rw [List.length_take, Nat.min_eq_left hk], fun j u hj => hW.cell' (src_take HR1.out k j u hj) id⟩
        have HS3 : Hid (∀ W, Kp No w1 W → ∀ o c, (c1 ≠ k → o = k * 2) → Src W (.slice (some ⟨b, o, none⟩) ((but n l).length - k) c) ((but n l).drop k)) := Hid_mk fun W hW o c ho => .inr ⟨b, o, c, by rw [List.length_drop], fun j u hj => by
          by_cases e : c1 = k
          · have : (but n l).drop k = [] := List.drop_eq_nil_of_le (by omega)
            rw [this] at hj
            cases hj
          · rw [ho e]
            exact hW.cell' (src_drop HR1.out k j u hj) id⟩
        have HTk : Hid (((but n l).take k).length = k) := Hid_mk (by rw [List.length_take, Nat.min_eq_left hk])
        have HOne1 : Hid (∀ q ∈ (but n l).take k, q.2.1.oneCell' = true) := Hid_mk fun q hq => HOne.out q (List.mem_of_mem_take hq)
        have HOne3 : Hid (∀ q ∈ (but n l).drop k, q.2.1.oneCell' = true) := Hid_mk fun q hq => HOne.out q (List.mem_of_mem_drop hq)
        have HS4 : Hid (∀ W, Kp No w1 W → ∀ o c, Src W (.slice (some ⟨b, o, none⟩) 0 c) ((but n l).drop k)) := Hid_mk fun W _ o c => by
          have e : (but n l).drop k = [] := List.drop_eq_nil_of_le (by omega)
          rw [e]
          exact .inr ⟨b, o, c, rfl, fun j u hj => by cases hj⟩
        by_cases hck : c1 = k
        · have hck2 := hck.symm
          clear hck
          obtain rfl := hck2
          go_region_held3 (fun W => W.cell? ⟨w.heap.size, 0, none⟩ = some (.string n) ∧ W.cell? ⟨w.heap.size, 1, none⟩ = some (.slice ay bs.length cy))
            (first
              | go_keep
              | (dsimp only; exact ⟨q0, q1⟩)
              | (dsimp only; exact ⟨g0, g1⟩)
              | (dsimp only; exact ⟨e0, e1⟩)
              | assumption)
            (first
              | (refine step_src _ (by rfl) _ _ (by rfl) w1.heap.size (.slice none 0 0) _ [] ((but n l).take k) (by rfl) (by rfl) (World.ownsRow_nil _ _ _ _) (by simp; omega) HOne1.out (HS1.out _ (by first | exact HKq.out.drew | exact HKq.out.drew.alloc _)) (by have := HTk.out; first | (simp; done) | (simp; omega)) ?_; intro v2 w2 hc2; have hk2 : Kp No w1 w2 := (by first | exact HKq.out.drew.trans' (hc2.2.1.mono fun _ _ e => by cases e) | exact (HKq.out.drew.alloc _).trans' (hc2.2.1.mono fun _ _ e => by cases e)); have e0 := hk2.cell' b0 id; have e1 := hk2.cell' b1 id)
              | (refine step_src _ (by rfl) _ _ (by rfl) w1.heap.size v2 _ _ [(n, .slice ay bs.length cy, bs)] (by rfl) (by rfl) (by first | exact hc2.1 | exact hc2.1.no ((Kp.refl No w2).alloc _)) (by have := hk2.size; simp; omega) (fun q hq => by simp only [List.mem_singleton] at hq; subst hq; rfl) (by first | exact src_new w2 (n, .slice ay bs.length cy, bs) | exact (src_new (wr.drewN nq).drew (n, .slice ay bs.length cy, bs)).no (hc2.2.1.mono fun _ _ e => by cases e) | (trace_state; fail)) (by have := HTk.out; first | (simp; done) | (simp; omega)) ?_; intro v3 w3 hc3; have hk3 : Kp No w1 w3 := (by first | exact hk2.trans hc3.2.1 (fun i hi e => by have := (World.ownsRow.lt hc2.1 i e.symm).1; omega) | exact (hk2.alloc _).trans hc3.2.1 (fun i hi e => by have := (World.ownsRow.lt hc2.1 i e.symm).1; omega)); have g0 := hk3.cell' b0 id; have g1 := hk3.cell' b1 id)
              | (refine step_src _ (by rfl) _ _ (by rfl) w1.heap.size v3 _ _ ((but n l).drop k) (by rfl) (by rfl) hc3.1 hk3.size HOne3.out (by first | exact HS4.out _ hk3 _ _ | exact HS3.out _ hk3 _ _ (by first | exact fun h => absurd rfl h | exact fun h => absurd hck h | exact fun _ => rfl) | exact HS3.out _ hk3) (by have := HTk.out; have := HLen.out; first | (simp; done) | (simp; omega)) ?_; intro v4 w4 hc4; have hk4 : Kp No w1 w4 := hk3.trans hc4.2.1 (fun i hi e => by have := (World.ownsRow.lt hc3.1 i e.symm).1; omega); have q0 := hk4.cell' b0 id; have q1 := hk4.cell' b1 id))
          all_goals
            have hfin : ∃ k, Stands k (n, .slice ay bs.length cy, bs) l ∧ NewFl w (wit k (n, .slice ay bs.length cy, bs) l) (.returned v4) w4 := ⟨k, HSt.out, v4, rfl, by
              have := hc4.1.low (show w.heap.size ≤ w1.heap.size by omega)
              rw [List.append_assoc] at this
              exact this, (((Kp.refl No w).alloc _).trans' HK1.out).trans' hk4⟩
            have HF := Hid_mk hfin
            clear hfin hc4 hk4 hc3 hk3 hc2 hk2 e0 e1 g0 g1 q0 q1
            go_wp2
            go_ret
            exact HF.out
        · iterate 1
            go_region_held3 (fun W => W.cell? ⟨w.heap.size, 0, none⟩ = some (.string n) ∧ W.cell? ⟨w.heap.size, 1, none⟩ = some (.slice ay bs.length cy))
              (first
                | go_keep
                | (dsimp only; exact ⟨q0, q1⟩)
                | (dsimp only; exact ⟨g0, g1⟩)
                | (dsimp only; exact ⟨e0, e1⟩)
                | assumption)
              (first
                | (refine step_src _ (by rfl) _ _ (by rfl) w1.heap.size (.slice none 0 0) _ [] ((but n l).take k) (by rfl) (by rfl) (World.ownsRow_nil _ _ _ _) (by simp; omega) HOne1.out (HS1.out _ (by first | exact HKq.out.drew | exact HKq.out.drew.alloc _)) (by have := HTk.out; first | (simp; done) | (simp; omega)) ?_; intro v2 w2 hc2; have hk2 : Kp No w1 w2 := (by first | exact HKq.out.drew.trans' (hc2.2.1.mono fun _ _ e => by cases e) | exact (HKq.out.drew.alloc _).trans' (hc2.2.1.mono fun _ _ e => by cases e)); have e0 := hk2.cell' b0 id; have e1 := hk2.cell' b1 id)
                | (refine step_src _ (by rfl) _ _ (by rfl) w1.heap.size v2 _ _ [(n, .slice ay bs.length cy, bs)] (by rfl) (by rfl) (by first | exact hc2.1 | exact hc2.1.no ((Kp.refl No w2).alloc _)) (by have := hk2.size; simp; omega) (fun q hq => by simp only [List.mem_singleton] at hq; subst hq; rfl) (by first | exact src_new w2 (n, .slice ay bs.length cy, bs) | exact (src_new (wr.drewN nq).drew (n, .slice ay bs.length cy, bs)).no (hc2.2.1.mono fun _ _ e => by cases e) | (trace_state; fail)) (by have := HTk.out; first | (simp; done) | (simp; omega)) ?_; intro v3 w3 hc3; have hk3 : Kp No w1 w3 := (by first | exact hk2.trans hc3.2.1 (fun i hi e => by have := (World.ownsRow.lt hc2.1 i e.symm).1; omega) | exact (hk2.alloc _).trans hc3.2.1 (fun i hi e => by have := (World.ownsRow.lt hc2.1 i e.symm).1; omega)); have g0 := hk3.cell' b0 id; have g1 := hk3.cell' b1 id)
                | (refine step_src _ (by rfl) _ _ (by rfl) w1.heap.size v3 _ _ ((but n l).drop k) (by rfl) (by rfl) hc3.1 hk3.size HOne3.out (by first | exact HS4.out _ hk3 _ _ | exact HS3.out _ hk3 _ _ (by first | exact fun h => absurd hck h | exact fun _ => rfl) | exact HS3.out _ hk3) (by have := HTk.out; have := HLen.out; first | (simp; done) | (simp; omega)) ?_; intro v4 w4 hc4; have hk4 : Kp No w1 w4 := hk3.trans hc4.2.1 (fun i hi e => by have := (World.ownsRow.lt hc3.1 i e.symm).1; omega); have q0 := hk4.cell' b0 id; have q1 := hk4.cell' b1 id))
            all_goals
              have hfin : ∃ k, Stands k (n, .slice ay bs.length cy, bs) l ∧ NewFl w (wit k (n, .slice ay bs.length cy, bs) l) (.returned v4) w4 := ⟨k, HSt.out, v4, rfl, by
                have := hc4.1.low (show w.heap.size ≤ w1.heap.size by omega)
                rw [List.append_assoc] at this
                exact this, (((Kp.refl No w).alloc _).trans' HK1.out).trans' hk4⟩
              have HF := Hid_mk hfin
              clear hfin hc4 hk4 hc3 hk3 hc2 hk2 e0 e1 g0 g1 q0 q1
              go_wp2
              go_ret
              exact HF.out

end Go.Proofs.YtmehneicdklfeaaGreat.r2

namespace Go.Proofs.YtmehneicdklfeaaGreat.fsMem
open Go.RowKit Go.Maps Go.Proofs.YtmehneicdklfeaaGreat.sum Go.Proofs.YtmehneicdklfeaaGreat.kept Go.Proofs.YtmehneicdklfeaaGreat.app Go.Proofs.YtmehneicdklfeaaGreat.writer Go.Proofs.YtmehneicdklfeaaGreat.clone Go.Proofs.YtmehneicdklfeaaGreat.fs
set_option linter.unusedVariables false

theorem law : Keyed Tryz.prog 9 := string_keyed Tryz.underlying9
theorem zeroS (w : World) : (zeroValue 29).run Tryz.prog w = .ok (.slice none 0 0) w := by kernel_rfl

/-- an element as it is -/
def raw (v : Value) : Option (DataW Value × List MemPlace) := some (.held v, [])
def dat (val : Name → Value) (es : Files) : DataW Value := .map (es.map fun e => (.string e.1, .held (val e.1)))

theorem sameKey_str (a b : Name) : (Lit.string a).sameKey (.string b) = (a == b) := rfl

theorem dat_at (val : Name → Value) (es : Files) (n : Name) (z : DataW Value) : (dat val es).atKey (.string n) z = if (get es n).isSome then .held (val n) else z := by
  unfold dat fs.get DataW.atKey
  simp only
  induction es with
  | nil => simp
  | cons y r ih =>
    simp only [List.map_cons, List.find?_cons, sameKey_str]
    by_cases e : y.1 = n
    · subst e; simp
    · have e' : (y.1 == n) = false := by simpa using e
      simp only [e']
      exact ih

theorem dat_has (val : Name → Value) (es : Files) (n : Name) : Maps.has (dat val es) (.string n) = (get es n).isSome := by
  unfold dat fs.get
  rw [Maps.has_eq]
  induction es with
  | nil => simp
  | cons y r ih =>
    simp only [List.map_cons, List.any_cons, List.find?_cons, sameKey_str]
    by_cases e : y.1 = n
    · subst e; simp
    · have e' : (y.1 == n) = false := by simpa using e
      simp only [e', Bool.false_or]
      exact ih

theorem dat_size (val : Name → Value) (es : Files) : Maps.size (dat val es) = es.length := by simp [dat, Maps.size]

theorem dat_congr {val val' : Name → Value} {es : Files} (h : ∀ e ∈ es, val e.1 = val' e.1) : dat val es = dat val' es := by
  unfold dat
  congr 1
  exact List.map_congr_left fun e he => by rw [h e he]

theorem insert_map (val : Name → Value) (x : Name × List UInt8) : ∀ es : Files, DataW.insert (Lit.string x.1, DataW.held (val x.1)) (es.map fun e => (Lit.string e.1, DataW.held (val e.1))) = (ins x es).map fun e => (Lit.string e.1, DataW.held (val e.1))
  | [] => rfl
  | y :: r => by
    have hb : (Lit.string x.1).before (.string y.1) = bef x.1 y.1 := rfl
    unfold ins
    simp only [List.map_cons, DataW.insert, hb]
    split
    · rfl
    · rw [insert_map val x r]; rfl

theorem filter_map (val : Name → Value) (n : Name) (es : Files) : ((es.map fun e => (Lit.string e.1, DataW.held (val e.1))).filter fun p => !p.1.sameKey (.string n)) = (drop es n).map fun e => (Lit.string e.1, DataW.held (val e.1)) := by
  unfold drop
  rw [List.filter_map]
  rfl

theorem dat_del (val : Name → Value) (es : Files) (n : Name) : (dat val es).del (.string n) = dat val (drop es n) := by
  show DataW.map _ = _
  unfold dat
  rw [filter_map]

def upd (val : Name → Value) (n : Name) (v : Value) : Name → Value := fun m => if m = n then v else val m
theorem upd_same (val : Name → Value) (n : Name) (v : Value) : upd val n v n = v := by simp [upd]
theorem upd_other (val : Name → Value) {n m : Name} (v : Value) (h : m ≠ n) : upd val n v m = val m := by simp [upd, h]

theorem dat_put (val : Name → Value) (es : Files) (n : Name) (v : Value) (bs : List UInt8) : (dat val es).put (.string n) (.held v) = dat (upd val n v) (put es n bs) := by
  show DataW.map (DataW.insert (.string n, .held v) ((es.map fun e => (Lit.string e.1, DataW.held (val e.1))).filter fun p => !p.1.sameKey (.string n))) = _
  rw [filter_map]
  have e1 : (drop es n).map (fun e => (Lit.string e.1, DataW.held (val e.1))) = (drop es n).map fun e => (Lit.string e.1, DataW.held (upd val n v e.1)) :=
    List.map_congr_left fun e he => by rw [upd_other _ _ (mem_drop.1 he).2]
  rw [e1]
  have := insert_map (upd val n v) (n, bs) (drop es n)
  simp only [upd_same] at this
  rw [this]
  rfl

/-- a row of a file's bytes, and whose it is -/
def RowOf (w : World) (base : Nat) (ρ : Nat → Option Name) (v : Value) (n : Name) (bs : List UInt8) : Prop :=
  w.ownsRow base 5 1 v bs.length (bs.map B) ∧ ∀ g, v.ownBlock = some g → ρ g = some n

/-- Block b is a map of these files, but that the file called x, if there is one, may have any value. -/
def FMx (x : Option Name) (w : World) (base b : Nat) (ρ : Nat → Option Name) (es : Files) : Prop :=
  Rising es ∧ ρ b = none ∧ base ≤ b ∧ ∃ val, w.ownsMap Tryz.prog 9 raw b es.length (dat val es) ∧ ∀ e ∈ es, x ≠ some e.1 → RowOf w base ρ (val e.1) e.1 e.2
abbrev FM := FMx none

theorem own_tight {w : World} {b n : Nat} {val : Name → Value} {es : Files} (h : w.ownsMap Tryz.prog 9 raw b n (dat val es)) : w.ownsMap Tryz.prog 9 raw b es.length (dat val es) := by
  obtain ⟨xs, clock, hb, F, hs, hD⟩ := h
  refine ⟨xs, clock, hb, F, ?_, hD⟩
  have := congrArg Maps.size hD
  rw [dat_size] at this
  simp [Maps.size, length_sorted] at this
  omega

theorem RowOf.kept {S : Nat → Prop} {w w' : World} {base : Nat} {ρ ρ' : Nat → Option Name} {v : Value} {n : Name} {bs : List UInt8} (h : RowOf w base ρ v n bs) (hk : Kp S w w') (hs : ∀ g, v.ownBlock = some g → ¬ S g) (hr : ∀ g, v.ownBlock = some g → g < w.heap.size → ρ' g = ρ g) : RowOf w' base ρ' v n bs :=
  ⟨owns_kept h.1 hk hs, fun g hg => by rw [hr g hg (h.1.lt g hg).2]; exact h.2 g hg⟩

theorem ownsMap_kept {S : Nat → Prop} {w w' : World} {b n : Nat} {D : DataW Value} (h : w.ownsMap Tryz.prog 9 raw b n D) (hk : Kp S w w') (hs : ¬ S b) : w'.ownsMap Tryz.prog 9 raw b n D := by
  have hlt := h.lt
  obtain ⟨es, clock, hb, F, hsz, hD⟩ := h
  exact ⟨es, clock, (hk.block b hlt hs).trans hb, F, hsz, hD⟩

/-- what does not touch the map and its rows leaves it -/
theorem FMx.kept {x : Option Name} {S : Nat → Prop} {w w' : World} {base b : Nat} {ρ ρ' : Nat → Option Name} {es : Files} (h : FMx x w base b ρ es) (hk : Kp S w w') (hs : ∀ k, k < w.heap.size → S k → k ≠ b ∧ (∀ n, ρ k = some n → x = some n))
    (hr : ∀ k, k < w.heap.size → ρ' k = ρ k) : FMx x w' base b ρ' es := by
  obtain ⟨h1, h2, h3, val, h4, h5⟩ := h
  have hb := h4.lt
  refine ⟨h1, by rw [hr b hb]; exact h2, h3, val, ownsMap_kept h4 hk (fun e => (hs b hb e).1 rfl), fun e he hx => ?_⟩
  have hrow := h5 e he hx
  exact hrow.kept hk (fun g hg hS => hx ((hs g (hrow.1.lt g hg).2 hS).2 e.1 (hrow.2 g hg))) fun g hg hlt => hr g hlt

theorem FMx.weak {w : World} {base b : Nat} {ρ : Nat → Option Name} {es : Files} (h : FM w base b ρ es) (n : Name) : FMx (some n) w base b ρ es := by
  obtain ⟨h1, h2, h3, val, h4, h5⟩ := h
  exact ⟨h1, h2, h3, val, h4, fun e he _ => h5 e he (by simp)⟩

theorem FMx.lt {x : Option Name} {w : World} {base b : Nat} {ρ : Nat → Option Name} {es : Files} (h : FMx x w base b ρ es) : b < w.heap.size := by
  obtain ⟨_, _, _, val, h4, _⟩ := h
  exact h4.lt

theorem key_nm {s : ByteArray} (hs : s.size ≤ maxLen) : keyOf Tryz.prog 9 (.string s) = some (.string (nm s)) := Go.WideMaps.keyOf_string_mk Tryz.underlying9 hs

/-- what stands at a name: the file's row; of none nil; and so it is looked up as long as nothing that is there turns -/
theorem FMx.look {w : World} {base b : Nat} {ρ : Nat → Option Name} {es : Files} (h : FM w base b ρ es) {s : ByteArray} (hs : s.size ≤ maxLen) :
    ∃ v, RowOf w base ρ v (nm s) (old es (nm s)) ∧ ∀ w', Kp No w w' → (Instr.lookup 73 (.map (some b)) (.string s) false).run Tryz.prog w' = .ok v w' ∧
      (Instr.lookup 73 (.map (some b)) (.string s) true).run Tryz.prog w' = .ok (.tuple #[v, .bool (get es (nm s)).isSome]) w' := by
  obtain ⟨h1, h2, h3, val, h4, h5⟩ := h
  refine ⟨if (get es (nm s)).isSome then val (nm s) else .slice none 0 0, ?_, fun w' hk => ?_⟩
  · cases hg : get es (nm s) with
    | none =>
      unfold old
      rw [hg]
      exact ⟨World.ownsRow_nil _ _ _ _, fun g hg => by simp [Value.ownBlock] at hg⟩
    | some bs =>
      unfold old
      rw [hg]
      exact h5 (nm s, bs) ((get_some h1).1 hg) (by simp)
  · have h4' := ownsMap_kept h4 hk id
    obtain ⟨v, ps, hr, hv⟩ := h4'.lookup law Tryz.underlying73 (zeroS w') (zd := .held (.slice none 0 0)) (zp := []) rfl (key_nm hs)
    obtain ⟨v2, ps2, hr2, hv2⟩ := h4'.look_ok law Tryz.underlying73 (zeroS w') (zd := .held (.slice none 0 0)) (zp := []) rfl (key_nm hs)
    rw [dat_at] at hv hv2
    rw [dat_has] at hr2
    simp only [raw, Option.some.injEq, Prod.mk.injEq] at hv hv2
    have key : ∀ u : Value, DataW.held u = (if (get es (nm s)).isSome then DataW.held (val (nm s)) else DataW.held (.slice none 0 0)) → u = if (get es (nm s)).isSome then val (nm s) else .slice none 0 0 := by
      intro u hu
      by_cases hh : (get es (nm s)).isSome = true
      · rw [if_pos hh] at hu ⊢; exact DataW.held.inj hu
      · rw [if_neg hh] at hu ⊢; exact DataW.held.inj hu
    rw [key v hv.1] at hr
    rw [key v2 hv2.1] at hr2
    exact ⟨hr, hr2⟩

/-- a store of a row of one's own -/
theorem FMx.store {w : World} {base b : Nat} {ρ : Nat → Option Name} {es : Files} {s : ByteArray} {v : Value} {bs : List UInt8} (h : FMx (some (nm s)) w base b ρ es) (hs : s.size ≤ maxLen) (hl : es.length < maxLen) (hv : RowOf w base ρ v (nm s) bs) :
    ∃ w', (Instr.mapUpdate 73 (.map (some b)) (.string s) v).run Tryz.prog w = .ok () w' ∧ FM w' base b ρ (put es (nm s) bs) ∧ Kp (fun k => k = b) w w' := by
  obtain ⟨h1, h2, h3, val, h4, h5⟩ := h
  obtain ⟨w', hr, ho, hg⟩ := h4.update law Tryz.underlying73 hl (d := .held v) (ps := []) (key_nm hs) rfl
  have hk : Kp (fun k => k = b) w w' := (Kp.refl _ w).grown hg fun k _ e => (Option.some.inj e).symm
  refine ⟨w', hr, ⟨h1.put _ _, h2, h3, upd val (nm s) v, ?_, ?_⟩, hk⟩
  · rw [dat_put val es (nm s) v bs] at ho
    exact own_tight ho
  · have keep : ∀ {u : Value} {m : Name} {cs : List UInt8}, RowOf w base ρ u m cs → RowOf w' base ρ u m cs := fun {u m cs} hh => hh.kept hk (fun g hg e => by
      have := hh.2 g hg
      rw [e, h2] at this
      cases this) fun _ _ _ => rfl
    intro e he _
    rcases mem_put.1 he with rfl | ⟨he2, hne⟩
    · rw [upd_same]; exact keep hv
    · rw [upd_other _ _ hne]; exact keep (h5 e he2 (fun e9 => hne (Option.some.inj e9).symm))

/-- delete -/
theorem FMx.drop {w : World} {base b : Nat} {ρ : Nat → Option Name} {es : Files} {s : ByteArray} (h : FM w base b ρ es) (hs : s.size ≤ maxLen) (ty : TypeId) :
    ∃ w', (Builtin.delete_ #[73, 9] ty #[.map (some b), .string s]).run Tryz.prog w = .ok (.tuple #[]) w' ∧ FM w' base b ρ (drop es (nm s)) ∧ Kp (fun k => k = b) w w' := by
  obtain ⟨h1, h2, h3, val, h4, h5⟩ := h
  have hb := h4.lt
  obtain ⟨w', hr, ho, ht⟩ := h4.drop law Tryz.underlying73 (key_nm hs) ty
  have hk : Kp (fun k => k = b) w w' := by
    obtain ⟨xs, clock, xs', clock', hbb, rfl⟩ := ht
    exact ⟨rfl, rfl, rfl, by simp [Go.ChangeMaps.setBlock], fun i _ hi => Go.ChangeMaps.heap_setBlock_other hbb _ hi⟩
  refine ⟨w', hr, ⟨h1.drop _, h2, h3, val, ?_, ?_⟩, hk⟩
  · rw [dat_del] at ho
    exact own_tight ho
  · intro e he _
    have hh := h5 e (mem_drop.1 he).1 (by simp)
    exact hh.kept hk (fun g hg e => by
      have := hh.2 g hg
      rw [e, h2] at this
      cases this) fun _ _ _ => rfl

end Go.Proofs.YtmehneicdklfeaaGreat.fsMem
