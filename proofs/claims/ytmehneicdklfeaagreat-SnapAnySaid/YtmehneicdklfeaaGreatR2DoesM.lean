/- The reference's Disk: does. The reference's Disk: Used, Read, Names. What each call on a disk answers and leaves, in plain words; the reference's Disk as a disk's state. -/
import Derived.Test.YtmehneicdklfeaaGreatDiskManyM

namespace Go.Proofs.YtmehneicdklfeaaGreat.r2
open Go.RowKit Go.Maps Go.Proofs.YtmehneicdklfeaaGreat.sum Go.Proofs.YtmehneicdklfeaaGreat.kept Go.Proofs.YtmehneicdklfeaaGreat.app Go.Proofs.YtmehneicdklfeaaGreat.writer Go.Proofs.YtmehneicdklfeaaGreat.clone Go.Proofs.YtmehneicdklfeaaGreat.fs Go.Proofs.YtmehneicdklfeaaGreat.fsDo Go.Proofs.YtmehneicdklfeaaGreat.unseal Go.Proofs.YtmehneicdklfeaaGreat.dsk
set_option linter.unusedVariables false

theorem done_any (w : World) (v vb : Value) (l : List Fv) (c : Change) (h : Fl w v l) (hr : Rising (files l)) (hl : l.length ≤ 100000000) (hc : c.fits (files l)) (hn : c.name.size ≤ maxLen) (hto : c.to.size ≤ maxLen) (hb : Bs w vb c.bytes) (hu : used (files l) ≤ 1000000000000) (hbl : c.bytes.length ≤ 1000000000000) :
    Calls Tryz.prog 59 #[v, chg c vb] w (DonePost w l (doit (files l) c)) := by
  obtain ⟨h4, h1⟩ := hc
  have hk : c.kind = 0 ∨ c.kind = 1 ∨ c.kind = 2 ∨ c.kind = 3 := by omega
  rcases hk with e | e | e | e
  · exact done_append w v vb l c h hr hl hn e hb hu hbl
  · exact done_trunc w v vb l c h hr hl hn e hb hu (h1 e)
  · exact done_rename w v vb l c h hr hl hn e hb hu hto
  · exact done_remove w v vb l c h hr hl hn e hb hu

theorem infoO : (Tryz.prog.info? 84).map (fun i => (i.zero, i.size, i.bytes)) = some (some (.agg #[.int .i64 0, .string ByteArray.empty, .string ByteArray.empty, .slice none 0 0, .int .i64 0]), 5, 72) := by kernel_rfl

/-- a row of what waits -/
def ORow (w : World) (base : Nat) (v : Value) (l : List (Change × Value)) : Prop := w.ownsRow base 84 5 v l.length (l.flatMap chgList)
def CatO (base : Nat) (w : World) (v : Value) (l m : List (Change × Value)) (v' : Value) (w' : World) : Prop :=
  ORow w' base v' (l ++ m) ∧ Kp (fun k => some k = v.ownBlock) w w' ∧ (v'.ownBlock = v.ownBlock ∨ v'.ownBlock = some w.heap.size)
def SrcO (w : World) (x : Value) (m : List (Change × Value)) : Prop := (x = .slice none 0 0 ∧ m = []) ∨ ∃ b o c, x = .slice (some ⟨b, o, none⟩) m.length c ∧ ∀ j u, (m.flatMap chgList)[j]? = some u → w.cell? ⟨b, o + j, none⟩ = some u
theorem ORow.no {w w' : World} {base : Nat} {v : Value} {l : List (Change × Value)} (h : ORow w base v l) (hk : Kp No w w') : ORow w' base v l := owns_kept h hk fun _ _ => id

theorem flat_len (l : List (Change × Value)) : (l.flatMap chgList).length = l.length * 5 := by
  induction l with
  | nil => rfl
  | cons q l ih =>
    rw [List.flatMap_cons, List.length_append, ih]
    simp [chgList]
    omega

theorem run_srcO (w : World) (ty : TypeId) (base : Nat) (v x : Value) (l m : List (Change × Value)) (h : ORow w base v l) (hbase : base ≤ w.heap.size) (hone : ∀ q ∈ m, q.2.oneCell' = true) (hx : SrcO w x m) (hn : l.length + m.length ≤ 1000000000000) :
    ∃ v' w', (Builtin.append_ #[50, 50] ty #[v, x]).run Tryz.prog w = .ok v' w' ∧ CatO base w v l m v' w' := by
  obtain ⟨i0, hi, hz0, hz1, hz2⟩ := info_parts infoO
  rcases hx with ⟨rfl, rfl⟩ | ⟨b, o, c, rfl, hc⟩
  · refine ⟨v, w, run_append_owned_none (P := Tryz.prog) w base 50 ty 84 i0 5 Tryz.underlying50 hi v l.length _ h, ?_, Kp.refl _ _, .inl rfl⟩
    rw [List.append_nil]
    exact h
  · have hcell : ∀ u ∈ m.flatMap chgList, u.oneCell' = true := fun u hu => by
      obtain ⟨q, hq, hu⟩ := List.mem_flatMap.1 hu
      exact chg_oneCell (c := q.1) (vb := q.2) (hone q hq) u hu
    obtain ⟨v', w', hr, k1, k2, k3, k4⟩ := run_append_own_at (P := Tryz.prog) w base 50 ty 84 i0 (.agg #[.int .i64 0, .string ByteArray.empty, .string ByteArray.empty, .slice none 0 0, .int .i64 0]) 5 72 Tryz.underlying50 hi hz0 hz1 hz2 rfl (by decide) v l.length _ h ⟨b, o, none⟩ m.length c (m.flatMap chgList)
      (flat_len m) (fun j u hj => by rw [addr_add]; exact hc j u hj) hcell (by unfold maxLen; omega) (by omega) hbase
    refine ⟨v', w', hr, ?_, (Kp.refl _ _).grown k2 fun k _ e => e.symm, k4⟩
    unfold ORow
    rw [List.length_append, List.flatMap_append]
    exact k1

theorem step_srcO (w : World) {ops : Array Oper} {o : Oper} {a : Act} {K : Act → World → Prop} {Q : Exit → Act → World → Prop} {E : Prop} (hgd : o.guard = none) (s e : Operand)
    (ho : o.op = .call { callee := .builtin .append, args := #[s, e], argTypes := #[50, 50] })
    (base : Nat) (v x : Value) (l m : List (Change × Value)) (hs : a.eval s = v) (he : a.eval e = x) (h : ORow w base v l) (hbase : base ≤ w.heap.size) (hone : ∀ q ∈ m, q.2.oneCell' = true) (hx : SrcO w x m) (hn : l.length + m.length ≤ 1000000000000)
    (hK : ∀ v' w', CatO base w v l m v' w' → K (a.put o.dst v') w') : if Region.wanted o (yielded ops a.tmps) = true then Oper.wp Tryz.prog o a w K Q else E := by
  have hw : Region.wanted o (yielded ops a.tmps) = true := by simp [Region.wanted, hgd]
  rw [if_pos hw]
  obtain ⟨v', w', hr, h2⟩ := run_srcO w o.type base v x l m h hbase hone hx hn
  unfold Oper.wp execOp
  simp only [ho, resolve, invoke, builtin, Sem.run_bind, Sem.run_pure, Result.andThen_ok, List.map_toArray, List.map_cons, List.map_nil, hs, he, hr]
  exact hK v' w' h2

theorem srcO_new (w : World) (c : Change) (vb : Value) : SrcO (w.alloc (.cells #[.int .i64 (c.kind : Int), .string c.name, .string c.to, vb, .int .i64 (c.size : Int)] 84)) (.slice (some ⟨w.heap.size, 0, none⟩) 1 1) [(c, vb)] := by
  refine .inr ⟨w.heap.size, 0, 1, rfl, fun j u hj => ?_⟩
  have := World.news_of_block (heap_alloc_new w (.cells #[.int .i64 (c.kind : Int), .string c.name, .string c.to, vb, .int .i64 (c.size : Int)] 84)) j u hj
  rw [addr_add] at this
  exact this
theorem SrcO.no {w w' : World} {x : Value} {m : List (Change × Value)} (h : SrcO w x m) (hk : Kp No w w') : SrcO w' x m := by
  rcases h with h | ⟨b, o, c, e, hc⟩
  · exact .inl h
  · exact .inr ⟨b, o, c, e, fun j u hj => hk.cell' (hc j u hj) id⟩
theorem SrcO.kept {S : Nat → Prop} {w w' : World} {x : Value} {m : List (Change × Value)} (h : SrcO w x m) (hk : Kp S w w') (hn : ∀ b o n c, x = .slice (some ⟨b, o, none⟩) n c → ¬ S b) : SrcO w' x m := by
  rcases h with h | ⟨b, o, c, e, hc⟩
  · exact .inl h
  · exact .inr ⟨b, o, c, e, fun j u hj => hk.cell' (hc j u hj) (hn _ _ _ _ e)⟩
theorem srcO_row {w : World} {base : Nat} {v : Value} {l : List (Change × Value)} (h : ORow w base v l) : SrcO w v l := by
  have h' : w.ownsRow base 84 5 v l.length (l.flatMap chgList) := h
  rcases h'.2 with ⟨rfl, h0⟩ | ⟨g, cap, cur, rfl, hb, hg, r1, r2, r3, r4⟩
  · exact .inl ⟨rfl, List.eq_nil_of_length_eq_zero h0⟩
  · refine .inr ⟨g, 0, cap, rfl, fun j u hj => ?_⟩
    have := h'.cells (g := g) rfl j u hj
    rw [addr_add] at this
    exact this

theorem RAt.set_now {w : World} {r : Nat} {x : RSt} {vs vn vw : Value} (h : RAt w r x vs vn vw) (u : Value) : RAt (w.setCell ⟨r, 2, none⟩ u) r x vs u vw :=
  ⟨other_cell h.c0 (by omega), other_cell h.c1 (by omega), World.cell?_setCell_same w _ _ h.c2, other_cell h.c3 (by omega), other_cell h.c4 (by omega), other_cell h.c5 (by omega), other_cell h.c6 (by omega), dsk.warm_set h.warm, by simpa using h.lt⟩
theorem RAt.set_wait {w : World} {r : Nat} {x : RSt} {vs vn vw : Value} (h : RAt w r x vs vn vw) (u : Value) : RAt (w.setCell ⟨r, 3, none⟩ u) r x vs vn u :=
  ⟨other_cell h.c0 (by omega), other_cell h.c1 (by omega), other_cell h.c2 (by omega), World.cell?_setCell_same w _ _ h.c3, other_cell h.c4 (by omega), other_cell h.c5 (by omega), other_cell h.c6 (by omega), dsk.warm_set h.warm, by simpa using h.lt⟩
theorem RAt.set_syn {w : World} {r : Nat} {x : RSt} {vs vn vw : Value} (h : RAt w r x vs vn vw) (u : Value) : RAt (w.setCell ⟨r, 1, none⟩ u) r x u vn vw :=
  ⟨other_cell h.c0 (by omega), World.cell?_setCell_same w _ _ h.c1, other_cell h.c2 (by omega), other_cell h.c3 (by omega), other_cell h.c4 (by omega), other_cell h.c5 (by omega), other_cell h.c6 (by omega), dsk.warm_set h.warm, by simpa using h.lt⟩

theorem cell_off {w : World} {b o r o' : Nat} {u v : Value} (h : w.cell? ⟨b, o, none⟩ = some v) (hne : b ≠ r) : (w.setCell ⟨r, o', none⟩ u).cell? ⟨b, o, none⟩ = some v := by
  rw [World.cell?_setCell_other w _ _ _ (by intro e; injection e; omega)]
  exact h

/-- what does leaves -/
def DoesPost (w : World) (ρ : Nat → Role) (r : Nat) (x : RSt) (ls : List Fv) (es : Files) (ps : List (Change × Value)) (e : Ending) (w' : World) : Prop :=
  e = .returned (.int .i64 0) ∧ Kp (fun k => k = r) w w' ∧ ∃ vs' vn' vw' ln', RS w' ρ r x vs' vn' vw' ls ln' ps ∧ files ln' = es

set_option maxRecDepth 100000 in
set_option maxHeartbeats 4000000 in
theorem does_any (w : World) (ρ : Nat → Role) (r : Nat) (x : RSt) (vs vn vw vb : Value) (ls ln : List Fv) (ps : List (Change × Value)) (c : Change) (h : RS w ρ r x vs vn vw ls ln ps) (hc : c.fits (files ln)) (hn : c.name.size ≤ maxLen) (hto : c.to.size ≤ maxLen)
    (hb : Bs w vb c.bytes) (ha : c.bytes ≠ [] → Aw w ρ r vb) (hr : Rising (files ln)) (hl : ln.length ≤ 100000000) (hu : used (files ln) ≤ 1000000000000) (hbl : c.bytes.length ≤ 1000000000000) (hps : ps.length ≤ 1000000) (hi : ∀ k, w.heap.size ≤ k → ρ k = .other) :
    Calls Tryz.prog 53 #[.pointer (some ⟨r, 0, none⟩), chg c vb] w (DoesPost w ρ r x ls (doit (files ln) c) (ps ++ [(c, vb)])) := by
  obtain ⟨ab, cb, rfl, -⟩ := id hb
  obtain ⟨aw, cw, rfl⟩ : ∃ a c, vw = .slice a ps.length c := by
    rcases owns_any h.fw.1 with ⟨rfl, h0⟩ | ⟨g, cap, rfl, -⟩
    · exact ⟨none, 0, by rw [h0]⟩
    · exact ⟨_, _, rfl⟩
  obtain ⟨W0, hW0⟩ : ∃ W0, W0 = (w.alloc (.cells #[.int .i64 (c.kind : Int), .string c.name, .string c.to, .slice ab c.bytes.length cb, .int .i64 (c.size : Int)] 84)).drew := ⟨_, rfl⟩
  have k0 : Kp No w W0 := by rw [hW0]; exact ((Kp.refl No w).alloc _).drew
  have h0 := h.no k0
  have hd := done_any W0 vn (.slice ab c.bytes.length cb) ln c h0.fn hr hl hc hn hto (bs_no hb k0) hu hbl
  have c2 : W0.cell? ⟨r, 2, none⟩ = some vn := h0.at_.c2
  have b0 : W0.cell? ⟨w.heap.size, 0, none⟩ = some (.int .i64 (c.kind : Int)) := by rw [hW0]; simp
  have b1 : W0.cell? ⟨w.heap.size, 1, none⟩ = some (.string c.name) := by rw [hW0]; simp
  have b2 : W0.cell? ⟨w.heap.size, 2, none⟩ = some (.string c.to) := by rw [hW0]; simp
  have b3 : W0.cell? ⟨w.heap.size, 3, none⟩ = some (.slice ab c.bytes.length cb) := by rw [hW0]; simp
  have b4 : W0.cell? ⟨w.heap.size, 4, none⟩ = some (.int .i64 (c.size : Int)) := by rw [hW0]; simp
  have hz0 : W0.heap.size = w.heap.size + 1 := by rw [hW0]; simp
  have hlt := h.at_.lt
  have H := Hid_mk h
  have HB := Hid_mk hb
  have HA := Hid_mk ha
  have HI := Hid_mk hi
  have hcall : Calls Tryz.prog 59 #[vn, chg c (.slice ab c.bytes.length cb)] W0 fun e w1 => ∃ a1 n1 k1, e = .returned (.slice a1 n1 k1) ∧ w1.cell? ⟨r, 2, none⟩ = some vn ∧ w1.frozen? ⟨r, 2, none⟩ = false ∧
      w1.cell? ⟨w.heap.size, 0, none⟩ = some (.int .i64 (c.kind : Int)) ∧ w1.cell? ⟨w.heap.size, 1, none⟩ = some (.string c.name) ∧ w1.cell? ⟨w.heap.size, 2, none⟩ = some (.string c.to) ∧ w1.cell? ⟨w.heap.size, 3, none⟩ = some (.slice ab c.bytes.length cb) ∧ w1.cell? ⟨w.heap.size, 4, none⟩ = some (.int .i64 (c.size : Int)) ∧
      Hid (∃ l1, RS (w1.setCell ⟨r, 2, none⟩ (.slice a1 n1 k1)) ρ r x vs (.slice a1 n1 k1) (.slice aw ps.length cw) ls l1 ps ∧ files l1 = doit (files ln) c ∧ Kp (fun k => k = r) w (w1.setCell ⟨r, 2, none⟩ (.slice a1 n1 k1)) ∧ Kp No w w1) := by
    refine hd.mono ?_
    rintro e w1 ⟨v1, l1, rfl, hf1, he1, hk1, hnw⟩
    have hk := k0.trans' hk1
    have h1 := h.no hk
    have haw := newly_aw (r := r) hnw hf1 (fun k hk2 => hi k (by omega)) (by omega) hk1.size (h1.bn)
    obtain ⟨a1, k1, e1, -⟩ := hf1.1.opened
    subst e1
    refine ⟨a1, _, k1, rfl, hk1.cell' c2 id, h1.at_.warm 2, hk1.cell' b0 id, hk1.cell' b1 id, hk1.cell' b2 id, hk1.cell' b3 id, hk1.cell' b4 id, Hid_mk ⟨l1, h1.put_now hf1 haw.1 haw.2 (kp_p _ _ _ _) (h1.at_.set_now _), he1, hk.to.trans' (kp_p _ _ _ _), hk⟩⟩
  unfold chg at hcall ⊢
  have HC := Hid_mk hcall
  subst hW0
  clear hcall hd h0 k0 h hb ha hi hc hn hto hr hl hu hbl
  go_enter Tryz.func53, Tryz.ntmps53
  go_wp2
  go_region_with ((go_at_call 59; (with_reducible refine HC.out.mono ?_); rintro e w1 ⟨a1, n1, k1, rfl, g2, gf, g0, g1, g3, g4, g5, hex⟩))
  all_goals
    obtain ⟨l1, hR2, he1, hk2, -⟩ := hex.out
    have hne : w.heap.size ≠ r := by omega
    have e0 := cell_off (o' := 2) (u := .slice a1 n1 k1) g0 hne
    have e1 := cell_off (o' := 2) (u := .slice a1 n1 k1) g1 hne
    have e2 := cell_off (o' := 2) (u := .slice a1 n1 k1) g3 hne
    have e3 := cell_off (o' := 2) (u := .slice a1 n1 k1) g4 hne
    have e4 := cell_off (o' := 2) (u := .slice a1 n1 k1) g5 hne
    clear hne g2 gf g0 g1 g3 g4 g5 hex c2 b0 b1 b2 b3 b4 HC
    generalize w1.setCell ⟨r, 2, none⟩ (.slice a1 n1 k1) = W2 at *
    have c3 := hR2.at_.c3
    have w3f := hR2.at_.warm 3
    have hz2 := hk2.size
    have HR2 := Hid_mk hR2
    have HE1 := Hid_mk he1
    have HK2 := Hid_mk hk2
    have HOnes : Hid (∀ q ∈ ps, q.2.oneCell' = true) := Hid_mk fun q hq => by
      obtain ⟨_, _, e, -⟩ := hR2.fw.2 q hq
      rw [e]; rfl
    have HSw : Hid (∀ W, Kp No W2 W → SrcO W (.slice aw ps.length cw) ps) := Hid_mk fun W hW => (srcO_row hR2.fw.1).no hW
    have al : ∀ {o : Nat} {b : Nat} {u : Value}, W2.cell? ⟨b, o, none⟩ = some u → ∀ (x : Obj), (W2.alloc x).cell? ⟨b, o, none⟩ = some u := fun h x => ((Kp.refl No W2).alloc x).cell' h id
    have al2 : ∀ {o : Nat} {b : Nat} {u : Value}, W2.cell? ⟨b, o, none⟩ = some u → ∀ (x y : Obj), ((W2.alloc x).alloc y).cell? ⟨b, o, none⟩ = some u := fun h x y => (((Kp.refl No W2).alloc x).alloc y).cell' h id
    have c3a := al c3
    have e0a := al e0
    have e1a := al e1
    have e2a := al e2
    have e3a := al e3
    have e4a := al e4
    have c3b := al2 c3
    have e0b := al2 e0
    have e1b := al2 e1
    have e2b := al2 e2
    have e3b := al2 e3
    have e4b := al2 e4
    clear hR2 he1 hk2 al al2
    go_wp2
    have HO0 : Hid (ORow (W2.alloc (.cells #[] 84)) W2.heap.size (.slice (some ⟨W2.heap.size, 0, none⟩) 0 0) []) := Hid_mk (World.ownsRow_made W2 #[] 0 (Nat.le_refl _) (by decide) rfl)
    have HO1 : Hid (ORow ((W2.alloc (.cells #[.int .i64 (c.kind : Int), .string c.name, .string c.to, .slice ab c.bytes.length cb, .int .i64 (c.size : Int)] 84)).alloc (.cells #[] 84)) W2.heap.size (.slice (some ⟨W2.heap.size + 1, 0, none⟩) 0 0) []) := Hid_mk (by
      have := World.ownsRow_made (base := W2.heap.size) (e := 84) (size := 5) (W2.alloc (.cells #[.int .i64 (c.kind : Int), .string c.name, .string c.to, .slice ab c.bytes.length cb, .int .i64 (c.size : Int)] 84)) #[] 0 (by simp) (by decide) rfl
      rw [World.size_alloc] at this
      exact this)
    have HKa : Hid (Kp No W2 (W2.alloc (.cells #[] 84)).drew) := Hid_mk (((Kp.refl No W2).alloc _).drew)
    have HKb : Hid (Kp No W2 ((W2.alloc (.cells #[.int .i64 (c.kind : Int), .string c.name, .string c.to, .slice ab c.bytes.length cb, .int .i64 (c.size : Int)] 84)).alloc (.cells #[] 84)).drew) := Hid_mk ((((Kp.refl No W2).alloc _).alloc _).drew)
    have HSA : Hid (SrcO ((W2.alloc (.cells #[] 84)).alloc (.cells #[.int .i64 (c.kind : Int), .string c.name, .string c.to, .slice ab c.bytes.length cb, .int .i64 (c.size : Int)] 84)) (.slice (some ⟨W2.heap.size + 1, 0, none⟩) 1 1) [(c, .slice ab c.bytes.length cb)]) := Hid_mk (by
      have := srcO_new (W2.alloc (.cells #[] 84)) c (.slice ab c.bytes.length cb)
      rw [World.size_alloc] at this
      exact this)
    have HSB : Hid (SrcO ((W2.alloc (.cells #[.int .i64 (c.kind : Int), .string c.name, .string c.to, .slice ab c.bytes.length cb, .int .i64 (c.size : Int)] 84)).alloc (.cells #[] 84)) (.slice (some ⟨W2.heap.size, 0, none⟩) 1 1) [(c, .slice ab c.bytes.length cb)]) := Hid_mk ((srcO_new W2 c (.slice ab c.bytes.length cb)).no ((Kp.refl No _).alloc _))
    go_region_law (first
        | (refine step_srcO _ (by rfl) _ _ (by rfl) W2.heap.size (.slice (some ⟨W2.heap.size, 0, none⟩) 0 0) (.slice aw ps.length cw) [] ps (by rfl) (by rfl) (HO0.out.no (by first | exact (Kp.refl No _).drew | exact ((Kp.refl No _).drew).alloc _)) (by first | (simp; done) | (simp; omega)) HOnes.out (HSw.out _ (by first | exact HKa.out | exact HKa.out.alloc _)) (by first | (simp; done) | (simp; omega)) ?_
           intro v3 w3 hc3
           have hk3 : Kp No W2 w3 := by
             first
               | exact HKa.out.trans hc3.2.1 (fun i hi e => by simp [Value.ownBlock] at e; omega)
               | exact (HKa.out.alloc _).trans hc3.2.1 (fun i hi e => by simp [Value.ownBlock] at e; omega)
           have q3 := hk3.cell' c3 id
           have q3f := (hk3.frozen (p := ⟨r, 3, none⟩) (by simp only; omega) id).trans w3f
           have q0 := hk3.cell' e0 id
           have q1 := hk3.cell' e1 id
           have q2 := hk3.cell' e2 id
           have q4 := hk3.cell' e3 id
           have q5 := hk3.cell' e4 id)
        | (refine step_srcO _ (by rfl) _ _ (by rfl) W2.heap.size (.slice (some ⟨W2.heap.size + 1, 0, none⟩) 0 0) (.slice aw ps.length cw) [] ps (by rfl) (by rfl) (HO1.out.no (Kp.refl No _).drew) (by first | (simp; done) | (simp; omega)) HOnes.out (HSw.out _ HKb.out) (by first | (simp; done) | (simp; omega)) ?_
           intro v3 w3 hc3
           have hk3 : Kp No W2 w3 := HKb.out.trans hc3.2.1 (fun i hi e => by simp [Value.ownBlock] at e; omega)
           have q3 := hk3.cell' c3 id
           have q3f := (hk3.frozen (p := ⟨r, 3, none⟩) (by simp only; omega) id).trans w3f
           have q0 := hk3.cell' e0 id
           have q1 := hk3.cell' e1 id
           have q2 := hk3.cell' e2 id
           have q4 := hk3.cell' e3 id
           have q5 := hk3.cell' e4 id)
        | (refine step_srcO _ (by rfl) _ _ (by rfl) W2.heap.size v3 _ ps [(c, .slice ab c.bytes.length cb)] (by rfl) (by rfl) (by first | exact hc3.1 | exact ORow.no hc3.1 ((Kp.refl No w3).alloc _)) (by have := hk3.size; first | (simp; done) | (simp; omega) | omega) (fun q hq => by simp only [List.mem_singleton] at hq; subst hq; rfl)
             (by first
               | exact srcO_new w3 c (.slice ab c.bytes.length cb)
               | exact (HSA.out.no (Kp.refl No _).drew).kept hc3.2.1 (fun b o n k e e2 => by simp [Value.ownBlock] at e e2; omega)
               | exact (HSB.out.no (Kp.refl No _).drew).kept hc3.2.1 (fun b o n k e e2 => by simp [Value.ownBlock] at e e2; omega)) (by first | (simp; done) | (simp; omega)) ?_
           intro v4 w4 hc4
           have hk4 : Kp No W2 w4 := by
             first
               | exact hk3.trans hc4.2.1 (fun i hi e => by have := (World.ownsRow.lt hc3.1 i e.symm).1; omega)
               | exact (hk3.alloc _).trans hc4.2.1 (fun i hi e => by have := (World.ownsRow.lt hc3.1 i e.symm).1; omega)
           have s3 := hk4.cell' c3 id
           have s3f := (hk4.frozen (p := ⟨r, 3, none⟩) (by simp only; omega) id).trans w3f
           have HC4 := Hid_mk hc4.1
           obtain ⟨g9, cap9, hv4, hg9, hg10⟩ := owns_some hc4.1 (by simp)
           obtain ⟨L, hL⟩ : ∃ L, (ps ++ [(c, (Value.slice ab c.bytes.length cb))]).length = L := ⟨_, rfl⟩
           rw [hL] at hv4
           subst hv4
           have HK4 := Hid_mk hk4
           clear hL hc4 hk4))
    all_goals
      have hR4 := HR2.out.no HK4.out
      have hz4 := HK4.out.size
      have hfin : DoesPost w ρ r x ls (doit (files ln) c) (ps ++ [(c, .slice ab c.bytes.length cb)]) (.returned (.int .i64 0)) (w4.setCell ⟨r, 3, none⟩ (.slice (some ⟨g9, 0, none⟩) L cap9)) := by
        have hkw := HK2.out.trans' (HK4.out.to (S := fun k => k = r))
        refine ⟨rfl, hkw.trans' (kp_p _ _ _ _), vs, _, _, l1, hR4.put_wait ⟨owns_base HC4.out (Nat.zero_le _), fun q hq => ?_⟩ ?_ ?_ (kp_p _ _ _ _) (hR4.at_.set_wait _), HE1.out⟩
        · rcases List.mem_append.1 hq with h | h
          · exact hR4.fw.2 q h
          · simp only [List.mem_singleton] at h
            subst h
            refine bs_keptE HB.out hkw fun hne x o m k e => ?_
            exact (HA.out hne x o m k e).2.1
        · intro x o m k e
          cases e
          exact ⟨HI.out _ (by omega), by omega, hg10⟩
        · intro q hq hne
          rcases List.mem_append.1 hq with h | h
          · exact hR4.bw q h hne
          · simp only [List.mem_singleton] at h
            subst h
            exact (HA.out hne).up hkw.size fun _ _ e => e
      have HF := Hid_mk hfin
      clear hfin hR4 HC4 HK4 HR2
      go_wp2
      go_ret
      exact HF.out

end Go.Proofs.YtmehneicdklfeaaGreat.r2

namespace Go.Proofs.YtmehneicdklfeaaGreat.r2
open Go.RowKit Go.Maps Go.Proofs.YtmehneicdklfeaaGreat.sum Go.Proofs.YtmehneicdklfeaaGreat.kept Go.Proofs.YtmehneicdklfeaaGreat.app Go.Proofs.YtmehneicdklfeaaGreat.writer Go.Proofs.YtmehneicdklfeaaGreat.clone Go.Proofs.YtmehneicdklfeaaGreat.fs Go.Proofs.YtmehneicdklfeaaGreat.fsDo Go.Proofs.YtmehneicdklfeaaGreat.unseal Go.Proofs.YtmehneicdklfeaaGreat.dsk
set_option linter.unusedVariables false

theorem used_snoc (l : List Fv) (k : Nat) (h : k < l.length) : used (files (l.take (k + 1))) = used (files (l.take k)) + l[k].2.2.length := by
  rw [List.take_succ_eq_append_getElem h, files_append]
  unfold used
  rw [List.map_append, List.sum_append]
  simp [files]
theorem used_le (l : List Fv) (k : Nat) : used (files (l.take k)) ≤ used (files l) := by
  conv => rhs; rw [← List.take_append_drop k l, files_append]
  unfold used
  rw [List.map_append, List.sum_append]
  omega

def UsRel (l : List Fv) (w : World) (n i : Value) (wr : World) : Prop := ∃ k : Nat, i = .int .i64 (k : Int) ∧ k ≤ l.length ∧ n = .int .i64 (used (files (l.take k)) : Int) ∧ w = wr

set_option maxRecDepth 100000 in
set_option maxHeartbeats 4000000 in
theorem refused_any (w : World) (r : Nat) (x : RSt) (vs vn vw : Value) (ln : List Fv) (h : RAt w r x vs vn vw) (hf : Fl w vn ln) (hl : ln.length ≤ 1000000000000) (hu : used (files ln) ≤ 1000000000000) :
    Calls Tryz.prog 40 #[.pointer (some ⟨r, 0, none⟩)] w fun e w' => e = .returned (.int .i64 (if x.down then 0 else (used (files ln) : Int))) ∧ w = w' := by
  obtain ⟨a, cap, rfl, h1, h2, h3⟩ := hf.1.opened
  have HC := Hid_mk h3
  have HB := Hid_mk hf.2
  have c2 := h.c2
  have c6 := h.c6
  clear h3 hf h
  cases hd : x.down with
  | true =>
    rw [hd] at c6
    by_cases h0 : 0 < (ln.length : Int)
    · go_enter Tryz.func40, Tryz.ntmps40
      go_wp2
      go_loopw [3, 4] (fun n i wr => n = .int .i64 0 ∧ i = .int .i64 0 ∧ w = wr) (fun _ _ _ => 0)
      case atStart => exact ⟨rfl, rfl, rfl⟩
      case round =>
        obtain ⟨rfl, rfl, rfl⟩ := hrel
        go_wp2
        go_ret
        exact ⟨rfl, rfl⟩
    · go_enter Tryz.func40, Tryz.ntmps40
      go_wp2
      go_loopw [3, 4] (fun n i wr => n = .int .i64 0 ∧ i = .int .i64 0 ∧ w = wr) (fun _ _ _ => 0)
      case atStart => exact ⟨rfl, rfl, rfl⟩
      case round =>
        obtain ⟨rfl, rfl, rfl⟩ := hrel
        go_wp2
        go_ret
        exact ⟨rfl, rfl⟩
  | false =>
    rw [hd] at c6
    go_enter Tryz.func40, Tryz.ntmps40
    go_wp2
    go_loopw [3, 4] (fun n i wr => UsRel ln w n i wr) (fun _ i _ => ln.length - (intOf i).toNat)
    case atStart => exact ⟨0, rfl, Nat.zero_le _, rfl, rfl⟩
    case round =>
      obtain ⟨k, rfl, hk, rfl, rfl⟩ := hrel
      by_cases hlt : k < ln.length
      · have hki : (k : Int) < (ln.length : Int) := by omega
        have hk0 : (0 : Int) ≤ (k : Int) := Int.natCast_nonneg _
        obtain ⟨b, rfl, hc⟩ := HC.out (by intro e; rw [e] at hlt; simp at hlt)
        obtain ⟨q, hq⟩ : ∃ q, q = ln[k] := ⟨_, rfl⟩
        have hqb := HB.out q (hq ▸ List.getElem_mem hlt)
        have hsn := used_snoc ln k hlt
        have hle := used_le ln (k + 1)
        rw [← hq] at hsn
        obtain ⟨y, z, bs⟩ := q
        simp only at hqb hsn
        obtain ⟨az, cz, rfl, -⟩ := hqb
        have c1 : w.cell? ⟨b, k * 2 + 1, none⟩ = some (.slice az bs.length cz) := (hc k hlt).2.trans (congrArg (fun y : Fv => some y.2.1) hq.symm)
        obtain ⟨n0, hn0⟩ : ∃ n0, used (files (ln.take k)) = n0 := ⟨_, rfl⟩
        rw [hn0] at hsn ⊢
        have HN : Hid (UsRel ln w (.int .i64 ((n0 : Int) + (bs.length : Int))) (.int .i64 ((k : Int) + 1)) w) := Hid_mk ⟨k + 1, by push_cast; rfl, hlt, by rw [hsn]; push_cast; rfl, rfl⟩
        have hb1 : n0 + bs.length ≤ 1000000000000 := by omega
        have HLt := Hid_mk hlt
        clear hc hq hlt hsn hle hn0
        go_wp2
        go_roundw
        case rel => exact HN.out
        case measure => have := HLt.out; simp only [intOf]; omega
      · have hki : ¬ (k : Int) < (ln.length : Int) := by omega
        obtain rfl : k = ln.length := by omega
        have he : used (files (ln.take ln.length)) = used (files ln) := by rw [List.take_length]
        rw [he]
        clear he
        go_wp2
        go_ret
        exact ⟨rfl, rfl⟩

theorem place_some {l : List Fv} (hr : Rising (files l)) {n : ByteArray} {k : Nat} (hk : k < l.length) (h : l[k].1 = n) : fs.get (files l) (nm n) = some l[k].2.2 := (get_some hr).2 (by
  unfold files
  refine List.mem_map.2 ⟨l[k], List.getElem_mem hk, ?_⟩
  rw [h])

set_option maxRecDepth 100000 in
set_option maxHeartbeats 4000000 in
theorem refread_any (w : World) (r : Nat) (x : RSt) (vs vn vw : Value) (ln : List Fv) (n : ByteArray) (h : RAt w r x vs vn vw) (hf : Fl w vn ln) (hr : Rising (files ln)) (hl : ln.length ≤ 1000000000000) (hn : n.size ≤ maxLen) :
    Calls Tryz.prog 31 #[.pointer (some ⟨r, 0, none⟩), .string n] w fun e w' => ∃ v, e = .returned (.tuple #[v, .bool (!x.down && (fs.get (files ln) (nm n)).isSome)]) ∧ Bs w v (if x.down = true then [] else old (files ln) (nm n)) ∧ w = w' := by
  have HF := Hid_mk (find_any w vn ln n hf hl hn)
  have hpc := place_cases ln n
  obtain ⟨a, cap, rfl, h1, h2, h3⟩ := hf.1.opened
  have HC := Hid_mk h3
  have HB := Hid_mk hf.2
  have c2 := h.c2
  have c6 := h.c6
  have hnil : Bs w (.slice none 0 0) [] := ⟨none, 0, rfl, Nat.le_refl _, Nat.zero_le _, fun h => absurd rfl h⟩
  have HNil := Hid_mk hnil
  clear h3 hf h hnil
  cases hd : x.down with
  | true =>
    rw [hd] at c6
    clear hpc
    go_enter Tryz.func31, Tryz.ntmps31
    go_wp2_with fail
    with_reducible refine HF.out.mono ?_
    rintro e w' ⟨rfl, rfl⟩
    go_wp2
    go_ret2
    exact ⟨_, rfl, HNil.out, rfl⟩
  | false =>
    rw [hd] at c6
    rcases hpc with ⟨k, hk, he, hp⟩ | ⟨hno, hp⟩
    · rw [hp] at HF
      have hg := place_some hr hk he
      obtain ⟨b, rfl, hc⟩ := HC.out (by intro e; rw [e] at hk; simp at hk)
      obtain ⟨q, hq⟩ : ∃ q, q = ln[k] := ⟨_, rfl⟩
      have hqb := HB.out q (hq ▸ List.getElem_mem hk)
      rw [← hq] at hg
      obtain ⟨y, z, bs⟩ := q
      simp only at hqb hg
      have HQ := Hid_mk hqb
      obtain ⟨az, cz, rfl, -⟩ := hqb
      have c1 : w.cell? ⟨b, k * 2 + 1, none⟩ = some (.slice az bs.length cz) := (hc k hk).2.trans (congrArg (fun y : Fv => some y.2.1) hq.symm)
      have hki : (k : Int) < (ln.length : Int) := by omega
      have hk0 : (0 : Int) ≤ (k : Int) := Int.natCast_nonneg _
      have hk1 : ¬ (k : Int) < 0 := by omega
      have ho : old (files ln) (nm n) = bs := by unfold old; rw [hg]; rfl
      rw [hg, ho]
      clear hc hq hk he hp hg ho
      go_enter Tryz.func31, Tryz.ntmps31
      go_wp2_with fail
      with_reducible refine HF.out.mono ?_
      rintro e w' ⟨rfl, rfl⟩
      go_wp2
      go_ret2
      exact ⟨_, rfl, HQ.out, rfl⟩
    · rw [hp] at HF
      have hg := get_noplace hno
      have ho : old (files ln) (nm n) = [] := by unfold old; rw [hg]; rfl
      rw [hg, ho]
      clear hno hp hg ho
      go_enter Tryz.func31, Tryz.ntmps31
      go_wp2_with fail
      with_reducible refine HF.out.mono ?_
      rintro e w' ⟨rfl, rfl⟩
      go_wp2
      go_ret2
      exact ⟨_, rfl, HNil.out, rfl⟩

theorem infoS : (Tryz.prog.info? 9).map (fun i => (i.zero, i.size, i.bytes)) = some (some (.string ByteArray.empty), 1, 16) := by kernel_rfl

/-- a row of texts -/
def SRow (w : World) (base : Nat) (v : Value) (l : List ByteArray) : Prop := w.ownsRow base 9 1 v l.length (l.map Value.string)
theorem SRow.no {w w' : World} {base : Nat} {v : Value} {l : List ByteArray} (h : SRow w base v l) (hk : Kp No w w') : SRow w' base v l := owns_kept h hk fun _ _ => id

theorem wpList_catS (w : World) {ops : Array Oper} {rest : List Oper} {o : Oper} {a : Act} {Q : Exit → Act → World → Prop} (hgd : o.guard = none) (s e : Operand)
    (ho : o.op = .call { callee := .builtin .append, args := #[s, e], argTypes := #[67, 67] })
    (base : Nat) (v : Value) (l : List ByteArray) (y : ByteArray) (hs : a.eval s = v) (h : SRow w base v l) (hbase : base ≤ w.heap.size) (b c : Nat) (he : a.eval e = .slice (some ⟨b, 0, none⟩) 1 c) (hc : w.cell? ⟨b, 0, none⟩ = some (.string y)) (hn : l.length ≤ 1000000000000)
    (hK : ∀ v' w', SRow w' base v' (l ++ [y]) → Kp (fun k => some k = v.ownBlock) w w' → wpList Tryz.prog ops Q rest (a.put o.dst v') w') : wpList Tryz.prog ops Q (o :: rest) a w := by
  obtain ⟨i0, hi, hz0, hz1, hz2⟩ := info_parts infoS
  obtain ⟨v', w', hr, k1, k2, k3, k4⟩ := run_append_own_at (P := Tryz.prog) w base 67 o.type 9 i0 (.string ByteArray.empty) 1 16 Tryz.underlying67 hi hz0 hz1 hz2 rfl (by decide) v l.length _ h ⟨b, 0, none⟩ 1 c [.string y]
    rfl (fun j u hj => by
      rw [addr_add]
      match j, hj with
      | 0, hj => simp at hj; subst hj; exact hc) (fun u hu => by simp at hu; subst hu; rfl) (by unfold maxLen; omega) (by omega) hbase
  refine wpList_plain hgd fun K hK2 => ?_
  unfold Oper.wp execOp
  simp only [ho, resolve, invoke, builtin, Sem.run_bind, Sem.run_pure, Result.andThen_ok, List.map_toArray, List.map_cons, List.map_nil, hs, he, hr]
  refine hK2 _ _ (hK v' w' ?_ ((Kp.refl _ _).grown k2 fun k _ e => e.symm))
  unfold SRow
  rw [List.length_append, List.map_append]
  exact k1

def NmRel (l : List Fv) (w : World) (out i : Value) (wr : World) : Prop := (∃ a n c, out = .slice a n c) ∧ ∃ k : Nat, i = .int .i64 (k : Int) ∧ k ≤ l.length ∧ SRow wr w.heap.size out ((l.take k).map (·.1)) ∧ Kp No w wr

set_option maxRecDepth 100000 in
set_option maxHeartbeats 4000000 in
theorem refnames_any (w : World) (r : Nat) (x : RSt) (vs vn vw : Value) (ln : List Fv) (h : RAt w r x vs vn vw) (hf : Fl w vn ln) (hl : ln.length ≤ 1000000000) :
    Calls Tryz.prog 38 #[.pointer (some ⟨r, 0, none⟩)] w fun e w' => ∃ v, e = .returned v ∧ SRow w' w.heap.size v (if x.down = true then [] else ln.map (·.1)) ∧ Kp No w w' := by
  obtain ⟨a, cap, rfl, h1, h2, h3⟩ := hf.1.opened
  have HC := Hid_mk h3
  have H := Hid_mk h
  have HF := Hid_mk hf
  clear h3 hf
  cases hd : x.down with
  | true =>
    have c2 := h.c2
    have c6 := h.c6
    rw [hd] at c6
    clear h
    by_cases h0 : 0 < (ln.length : Int)
    · go_enter Tryz.func38, Tryz.ntmps38
      go_wp2
      go_loopw [3, 4] (fun n i wr => n = .slice none 0 0 ∧ i = .int .i64 0 ∧ w = wr) (fun _ _ _ => 0)
      case atStart => exact ⟨rfl, rfl, rfl⟩
      case round =>
        obtain ⟨rfl, rfl, rfl⟩ := hrel
        go_wp2
        go_ret
        exact ⟨_, rfl, World.ownsRow_nil _ _ _ _, Kp.refl _ _⟩
    · go_enter Tryz.func38, Tryz.ntmps38
      go_wp2
      go_loopw [3, 4] (fun n i wr => n = .slice none 0 0 ∧ i = .int .i64 0 ∧ w = wr) (fun _ _ _ => 0)
      case atStart => exact ⟨rfl, rfl, rfl⟩
      case round =>
        obtain ⟨rfl, rfl, rfl⟩ := hrel
        go_wp2
        go_ret
        exact ⟨_, rfl, World.ownsRow_nil _ _ _ _, Kp.refl _ _⟩
  | false =>
    clear h
    go_enter Tryz.func38, Tryz.ntmps38
    go_wp2
    go_loopw [3, 4] (fun out i wr => NmRel ln w out i wr) (fun _ i _ => ln.length - (intOf i).toNat)
    case atStart => exact ⟨⟨_, _, _, rfl⟩, 0, rfl, Nat.zero_le _, World.ownsRow_nil _ _ _ _, Kp.refl _ _⟩
    case round =>
      obtain ⟨⟨ao, no, co, rfl⟩, k, rfl, hk, hrow, hkp⟩ := hrel
      have hr2 := H.out.no hkp
      have c2 := hr2.c2
      have c6 := hr2.c6
      rw [hd] at c6
      have HR := Hid_mk hrow
      have HK := Hid_mk hkp
      have hsz := hkp.size
      clear hr2 hrow hkp
      by_cases hlt : k < ln.length
      · have hki : (k : Int) < (ln.length : Int) := by omega
        have hk0 : (0 : Int) ≤ (k : Int) := Int.natCast_nonneg _
        obtain ⟨b, rfl, hc⟩ := HC.out (by intro e; rw [e] at hlt; simp at hlt)
        obtain ⟨y, hy⟩ : ∃ y, y = ln[k].1 := ⟨_, rfl⟩
        have c1 : wr.cell? ⟨b, k * 2, none⟩ = some (.string y) := HK.out.cell' ((hc k hlt).1.trans (congrArg (fun y => some (Value.string y)) hy.symm)) id
        have htk : (ln.take k).map (·.1) ++ [y] = (ln.take (k + 1)).map (·.1) := by
          rw [List.take_succ_eq_append_getElem hlt, List.map_append, hy]; rfl
        have hln : ((ln.take k).map (·.1)).length ≤ 1000000000000 := by
          rw [List.length_map, List.length_take]; omega
        have HTk := Hid_mk htk
        have HLn := Hid_mk hln
        have HLt := Hid_mk hlt
        clear hc hy hlt htk hln
        go_wp2_with (at_builtin; (refine wpList_catS _ rfl _ _ rfl w.heap.size _ ((ln.take k).map (·.1)) y rfl (HR.out.no ((Kp.refl No wr).alloc _)) (by simp; omega) wr.heap.size 1 rfl (by simp) HLn.out ?_))
        intro v' w9 hs9 hk9
        have HN : Hid (∀ i, i = (.int .i64 ((k : Int) + 1) : Value) → NmRel ln w v' i w9) := Hid_mk fun i hi => ⟨(by rcases owns_any hs9 with ⟨rfl, -⟩ | ⟨g, cap, rfl, -⟩ <;> exact ⟨_, _, _, rfl⟩), k + 1, by rw [hi]; push_cast; rfl, HLt.out, by rw [← HTk.out, List.map_take]; exact hs9, (HK.out.alloc _).trans hk9 fun i hi e => by have := (World.ownsRow.lt HR.out i e.symm).1; omega⟩
        clear hs9 hk9
        go_wp2
        go_roundw
        case rel => exact HN.out _ rfl
        case measure => have := HLt.out; simp only [intOf]; omega
      · have hki : ¬ (k : Int) < (ln.length : Int) := by omega
        obtain rfl : k = ln.length := by omega
        have he : (ln.take ln.length).map (·.1) = ln.map (·.1) := by rw [List.take_length]
        rw [he] at HR
        clear he
        go_wp2
        go_ret
        exact ⟨_, rfl, HR.out, HK.out⟩

end Go.Proofs.YtmehneicdklfeaaGreat.r2

namespace Go.Proofs.YtmehneicdklfeaaGreat.r2
open Go.RowKit Go.Maps Go.Proofs.YtmehneicdklfeaaGreat.sum Go.Proofs.YtmehneicdklfeaaGreat.kept Go.Proofs.YtmehneicdklfeaaGreat.app Go.Proofs.YtmehneicdklfeaaGreat.writer Go.Proofs.YtmehneicdklfeaaGreat.clone Go.Proofs.YtmehneicdklfeaaGreat.fs Go.Proofs.YtmehneicdklfeaaGreat.fsDo Go.Proofs.YtmehneicdklfeaaGreat.unseal Go.Proofs.YtmehneicdklfeaaGreat.dsk
set_option linter.unusedVariables false

def pushD (d : DSt) (c : Change) : DSt := { stopD d with cs := d.cs ++ [c] }
def appR (d : DSt) (n : ByteArray) (bs : List UInt8) : Int × DSt :=
  if stopB d = true then (3, stopD d) else if nameB n = false then (1, stopD d) else if d.room < (used d.now : Int) + (bs.length : Int) then (2, stopD d)
  else if (get d.now (nm n)).isSome = false ∧ 64 ≤ d.now.length then (2, stopD d) else (0, pushD d (appC n bs))
def trR (d : DSt) (n : ByteArray) (size : Int) : Int × DSt :=
  if stopB d = true then (3, stopD d) else if (get d.now (nm n)).isSome = false then (4, stopD d) else if size < 0 then (1, stopD d) else if ((old d.now (nm n)).length : Int) < size then (1, stopD d) else (0, pushD d (truncC n size.toNat))
def reR (d : DSt) (n to : ByteArray) : Int × DSt :=
  if stopB d = true then (3, stopD d) else if nameB to = false then (1, stopD d) else if (get d.now (nm n)).isSome = false then (4, stopD d) else (0, pushD d (renC n to))
def rmR (d : DSt) (n : ByteArray) : Int × DSt :=
  if stopB d = true then (3, stopD d) else if (get d.now (nm n)).isSome = false then (4, stopD d) else (0, pushD d (remC n))
def syR (d : DSt) : Int × DSt := if stopB d = true then (3, stopD d) else (0, { stopD d with syn := d.now, cs := [] })

/-- the reference's state stands for the disk's -/
structure RD (d : DSt) (x : RSt) (ls ln : List Fv) (ps : List (Change × Value)) : Prop where
  room : d.room = x.space
  down : d.down = x.down
  fuse : d.fuse = if x.fused = true then x.fuse else -1
  fuse0 : 0 ≤ x.fuse
  fuse1 : x.fuse ≤ 9223372036854775807
  syn : files ls = d.syn
  now : files ln = d.now
  cs : ps.map (·.1) = d.cs

section
variable {d : DSt} {x : RSt} {ls ln : List Fv} {ps : List (Change × Value)}
theorem RD.stops (h : RD d x ls ln ps) : cntB x = stopB d := by
  have h1 := h.down
  have h2 := h.fuse
  unfold cntB stopB
  rw [h1, h2]
  cases x.fused <;> simp
theorem RD.counted (h : RD d x ls ln ps) : RD (stopD d) (cntX x) ls ln ps := by
  have hs := h.stops
  have h0 := h.fuse0
  have h1 := h.fuse1
  obtain ⟨e1, e2, e3⟩ := stop_same d
  have hn : (stopD d).now = d.now := by unfold DSt.now; rw [e2, e3]
  obtain ⟨r1, r2, r3, -, -, r4, r5, r6⟩ := h
  have hx : (cntX x).space = x.space ∧ (cntX x).fused = x.fused := by unfold cntX; split <;> (try split) <;> exact ⟨rfl, rfl⟩
  have hd : (stopD d).down = (cntX x).down ∧ (stopD d).fuse = (if x.fused = true then (cntX x).fuse else -1) ∧ 0 ≤ (cntX x).fuse ∧ (cntX x).fuse ≤ 9223372036854775807 := by
    unfold stopD cntX
    rw [hs]
    unfold stopB
    rw [r2, r3]
    cases hd : x.down <;> cases hf : x.fused <;> simp [hd, hf, r2, r3]
    · omega
    · by_cases hz : x.fuse = 0
      · simp [hz]
      · have : 0 < x.fuse := by omega
        simp [hz, this]
        omega
    · omega
    · omega
  exact ⟨by rw [e1, hx.1]; exact r1, hd.1, by rw [hx.2]; exact hd.2.1, hd.2.2.1, hd.2.2.2, by rw [e2]; exact r4, by rw [hn]; exact r5, by rw [e3]; exact r6⟩
theorem RD.up (h : RD d x ls ln ps) (hs : stopB d = false) : (cntX x).down = false := by
  rw [← h.counted.down]
  unfold stopB at hs
  unfold stopD
  simp at hs
  rw [if_neg (by simp [hs])]
  split
  · exact hs.1
  · exact hs.1
theorem RD.pushed (h : RD d x ls ln ps) {ln' : List Fv} {c : Change} {v : Value} (he : files ln' = doit (files ln) c) : RD (pushD d c) (cntX x) ls ln' (ps ++ [(c, v)]) := by
  have k := h.counted
  obtain ⟨e1, e2, e3⟩ := stop_same d
  refine ⟨k.room, k.down, k.fuse, k.fuse0, k.fuse1, k.syn, ?_, ?_⟩
  · rw [he, h.now]
    have := all_snoc d.syn d.cs c
    unfold DSt.now pushD
    simp only [e2]
    exact this.symm
  · unfold pushD
    simp [h.cs]
end

theorem files_len (l : List Fv) : (files l).length = l.length := List.length_map _

/-- what the bounds give -/
theorem RD.bounds {d : DSt} {x : RSt} {ls ln : List Fv} {ps : List (Change × Value)} {M : Nat} (h : RD d x ls ln ps) (hok : DOk M d) (hM : M ≤ 1000) :
    Rising (files ln) ∧ ln.length ≤ 1000 ∧ used (files ln) ≤ 10000000000 ∧ ps.length ≤ 1000 ∧ Rising (files ls) ∧ ls.length ≤ 1000 ∧ used (files ls) ≤ 10000000000 ∧ bytesOf d.cs ≤ 10000000000 := by
  have q1 := hok.few
  have q2 := hok.small
  have q3 := len_all hok.rising d.cs
  have q4 := used_all hok.rising d.cs
  have q5 := rising_all hok.rising d.cs
  have l1 := files_len ln
  have l2 := files_len ls
  have l3 : ps.length = d.cs.length := by rw [← h.cs, List.length_map]
  rw [h.now] at l1 ⊢
  rw [h.syn] at l2 ⊢
  unfold DSt.now at *
  exact ⟨q5, by omega, by omega, by omega, hok.rising, by omega, by omega, by omega⟩

/-- what a call on the reference leaves -/
def RPost (w : World) (ρ : Nat → Role) (r : Nat) (d : DSt) (res : Value) (e : Ending) (w' : World) : Prop :=
  e = .returned res ∧ Kp (fun k => k = r) w w' ∧ ∃ x vs vn vw ls ln ps, RS w' ρ r x vs vn vw ls ln ps ∧ RD d x ls ln ps

/-- counts, on such a state -/
theorem counted_any (w : World) (ρ : Nat → Role) (r : Nat) (d : DSt) (x : RSt) (vs vn vw : Value) (ls ln : List Fv) (ps : List (Change × Value)) (h : RS w ρ r x vs vn vw ls ln ps) (hd : RD d x ls ln ps) :
    Calls Tryz.prog 50 #[.pointer (some ⟨r, 0, none⟩)] w fun e w' => e = .returned (.int .i64 (if stopB d = true then 3 else 0)) ∧ RS w' ρ r (cntX x) vs vn vw ls ln ps ∧ Kp (fun k => k = r) w w' := by
  refine (counts_any w r x vs vn vw h.at_ hd.fuse0 hd.fuse1).mono ?_
  rintro e w' ⟨he, ha, hk⟩
  rw [hd.stops] at he
  exact ⟨he, h.own hk ha, hk⟩

end Go.Proofs.YtmehneicdklfeaaGreat.r2
