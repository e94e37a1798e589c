/- The reference's Disk: does. -/
import Derived.Test.YtomckoeobkfklaaDoorR2State
namespace Go.Proofs.YtomckoeobkfklaaDoor.r2
open Go.RowKit Go.Maps Go.Proofs.YtomckoeobkfklaaDoor.sum Go.Proofs.YtomckoeobkfklaaDoor.kept Go.Proofs.YtomckoeobkfklaaDoor.app Go.Proofs.YtomckoeobkfklaaDoor.writer Go.Proofs.YtomckoeobkfklaaDoor.clone Go.Proofs.YtomckoeobkfklaaDoor.fs Go.Proofs.YtomckoeobkfklaaDoor.fsDo Go.Proofs.YtomckoeobkfklaaDoor.unseal Go.Proofs.YtomckoeobkfklaaDoor.dsk
set_option linter.unusedVariables false

theorem done_any (w : World) (v vb : Value) (l : List Fv) (c : Change) (h : Fl w v l) (hr : Rising (files l)) (hl : l.length ≤ 100000000) (hc : c.fits (files l)) (hn : c.name.size ≤ maxLen) (hto : c.to.size ≤ maxLen) (hb : Bs w vb c.bytes) (hu : used (files l) ≤ 1000000000000) (hbl : c.bytes.length ≤ 1000000000000) :
    Calls Tryd.prog 47 #[v, chg c vb] w (DonePost w l (doit (files l) c)) := by
  obtain ⟨h4, h1⟩ := hc
  have hk : c.kind = 0 ∨ c.kind = 1 ∨ c.kind = 2 ∨ c.kind = 3 := by omega
  rcases hk with e | e | e | e
  · exact done_append w v vb l c h hr hl hn e hb hu hbl
  · exact done_trunc w v vb l c h hr hl hn e hb hu (h1 e)
  · exact done_rename w v vb l c h hr hl hn e hb hu hto
  · exact done_remove w v vb l c h hr hl hn e hb hu

theorem infoO : (Tryd.prog.info? 71).map (fun i => (i.zero, i.size, i.bytes)) = some (some (.agg #[.int .i64 0, .string ByteArray.empty, .string ByteArray.empty, .slice none 0 0, .int .i64 0]), 5, 72) := by kernel_rfl

/-- a row of what waits -/
def ORow (w : World) (base : Nat) (v : Value) (l : List (Change × Value)) : Prop := w.ownsRow base 71 5 v l.length (l.flatMap chgList)
def CatO (base : Nat) (w : World) (v : Value) (l m : List (Change × Value)) (v' : Value) (w' : World) : Prop :=
  ORow w' base v' (l ++ m) ∧ Kp (fun k => some k = v.ownBlock) w w' ∧ (v'.ownBlock = v.ownBlock ∨ v'.ownBlock = some w.heap.size)
def SrcO (w : World) (x : Value) (m : List (Change × Value)) : Prop := (x = .slice none 0 0 ∧ m = []) ∨ ∃ b o c, x = .slice (some ⟨b, o, none⟩) m.length c ∧ ∀ j u, (m.flatMap chgList)[j]? = some u → w.cell? ⟨b, o + j, none⟩ = some u
theorem ORow.no {w w' : World} {base : Nat} {v : Value} {l : List (Change × Value)} (h : ORow w base v l) (hk : Kp No w w') : ORow w' base v l := owns_kept h hk fun _ _ => id

theorem flat_len (l : List (Change × Value)) : (l.flatMap chgList).length = l.length * 5 := by
  induction l with
  | nil => rfl
  | cons q l ih =>
    rw [List.flatMap_cons, List.length_append, ih]
    simp [chgList]
    omega

theorem run_srcO (w : World) (ty : TypeId) (base : Nat) (v x : Value) (l m : List (Change × Value)) (h : ORow w base v l) (hbase : base ≤ w.heap.size) (hone : ∀ q ∈ m, q.2.oneCell' = true) (hx : SrcO w x m) (hn : l.length + m.length ≤ 1000000000000) :
    ∃ v' w', (Builtin.append_ #[30, 30] ty #[v, x]).run Tryd.prog w = .ok v' w' ∧ CatO base w v l m v' w' := by
  obtain ⟨i0, hi, hz0, hz1, hz2⟩ := info_parts infoO
  rcases hx with ⟨rfl, rfl⟩ | ⟨b, o, c, rfl, hc⟩
  · refine ⟨v, w, run_append_owned_none (P := Tryd.prog) w base 30 ty 71 i0 5 Tryd.underlying30 hi v l.length _ h, ?_, Kp.refl _ _, .inl rfl⟩
    rw [List.append_nil]
    exact h
  · have hcell : ∀ u ∈ m.flatMap chgList, u.oneCell' = true := fun u hu => by
      obtain ⟨q, hq, hu⟩ := List.mem_flatMap.1 hu
      exact chg_oneCell (c := q.1) (vb := q.2) (hone q hq) u hu
    obtain ⟨v', w', hr, k1, k2, k3, k4⟩ := run_append_own_at (P := Tryd.prog) w base 30 ty 71 i0 (.agg #[.int .i64 0, .string ByteArray.empty, .string ByteArray.empty, .slice none 0 0, .int .i64 0]) 5 72 Tryd.underlying30 hi hz0 hz1 hz2 rfl (by decide) v l.length _ h ⟨b, o, none⟩ m.length c (m.flatMap chgList)
      (flat_len m) (fun j u hj => by rw [addr_add]; exact hc j u hj) hcell (by unfold maxLen; omega) (by omega) hbase
    refine ⟨v', w', hr, ?_, (Kp.refl _ _).grown k2 fun k _ e => e.symm, k4⟩
    unfold ORow
    rw [List.length_append, List.flatMap_append]
    exact k1

theorem step_srcO (w : World) {ops : Array Oper} {o : Oper} {a : Act} {K : Act → World → Prop} {Q : Exit → Act → World → Prop} {E : Prop} (hgd : o.guard = none) (s e : Operand)
    (ho : o.op = .call { callee := .builtin .append, args := #[s, e], argTypes := #[30, 30] })
    (base : Nat) (v x : Value) (l m : List (Change × Value)) (hs : a.eval s = v) (he : a.eval e = x) (h : ORow w base v l) (hbase : base ≤ w.heap.size) (hone : ∀ q ∈ m, q.2.oneCell' = true) (hx : SrcO w x m) (hn : l.length + m.length ≤ 1000000000000)
    (hK : ∀ v' w', CatO base w v l m v' w' → K (a.put o.dst v') w') : if Region.wanted o (yielded ops a.tmps) = true then Oper.wp Tryd.prog o a w K Q else E := by
  have hw : Region.wanted o (yielded ops a.tmps) = true := by simp [Region.wanted, hgd]
  rw [if_pos hw]
  obtain ⟨v', w', hr, h2⟩ := run_srcO w o.type base v x l m h hbase hone hx hn
  unfold Oper.wp execOp
  simp only [ho, resolve, invoke, builtin, Sem.run_bind, Sem.run_pure, Result.andThen_ok, List.map_toArray, List.map_cons, List.map_nil, hs, he, hr]
  exact hK v' w' h2

theorem srcO_new (w : World) (c : Change) (vb : Value) : SrcO (w.alloc (.cells #[.int .i64 (c.kind : Int), .string c.name, .string c.to, vb, .int .i64 (c.size : Int)] 71)) (.slice (some ⟨w.heap.size, 0, none⟩) 1 1) [(c, vb)] := by
  refine .inr ⟨w.heap.size, 0, 1, rfl, fun j u hj => ?_⟩
  have := World.news_of_block (heap_alloc_new w (.cells #[.int .i64 (c.kind : Int), .string c.name, .string c.to, vb, .int .i64 (c.size : Int)] 71)) j u hj
  rw [addr_add] at this
  exact this
theorem SrcO.no {w w' : World} {x : Value} {m : List (Change × Value)} (h : SrcO w x m) (hk : Kp No w w') : SrcO w' x m := by
  rcases h with h | ⟨b, o, c, e, hc⟩
  · exact .inl h
  · exact .inr ⟨b, o, c, e, fun j u hj => hk.cell' (hc j u hj) id⟩
theorem SrcO.kept {S : Nat → Prop} {w w' : World} {x : Value} {m : List (Change × Value)} (h : SrcO w x m) (hk : Kp S w w') (hn : ∀ b o n c, x = .slice (some ⟨b, o, none⟩) n c → ¬ S b) : SrcO w' x m := by
  rcases h with h | ⟨b, o, c, e, hc⟩
  · exact .inl h
  · exact .inr ⟨b, o, c, e, fun j u hj => hk.cell' (hc j u hj) (hn _ _ _ _ e)⟩
theorem srcO_row {w : World} {base : Nat} {v : Value} {l : List (Change × Value)} (h : ORow w base v l) : SrcO w v l := by
  have h' : w.ownsRow base 71 5 v l.length (l.flatMap chgList) := h
  rcases h'.2 with ⟨rfl, h0⟩ | ⟨g, cap, cur, rfl, hb, hg, r1, r2, r3, r4⟩
  · exact .inl ⟨rfl, List.eq_nil_of_length_eq_zero h0⟩
  · refine .inr ⟨g, 0, cap, rfl, fun j u hj => ?_⟩
    have := h'.cells (g := g) rfl j u hj
    rw [addr_add] at this
    exact this

theorem RAt.set_now {w : World} {r : Nat} {x : RSt} {vs vn vw : Value} (h : RAt w r x vs vn vw) (u : Value) : RAt (w.setCell ⟨r, 2, none⟩ u) r x vs u vw :=
  ⟨other_cell h.c0 (by omega), other_cell h.c1 (by omega), World.cell?_setCell_same w _ _ h.c2, other_cell h.c3 (by omega), other_cell h.c4 (by omega), other_cell h.c5 (by omega), other_cell h.c6 (by omega), dsk.warm_set h.warm, by simpa using h.lt⟩
theorem RAt.set_wait {w : World} {r : Nat} {x : RSt} {vs vn vw : Value} (h : RAt w r x vs vn vw) (u : Value) : RAt (w.setCell ⟨r, 3, none⟩ u) r x vs vn u :=
  ⟨other_cell h.c0 (by omega), other_cell h.c1 (by omega), other_cell h.c2 (by omega), World.cell?_setCell_same w _ _ h.c3, other_cell h.c4 (by omega), other_cell h.c5 (by omega), other_cell h.c6 (by omega), dsk.warm_set h.warm, by simpa using h.lt⟩
theorem RAt.set_syn {w : World} {r : Nat} {x : RSt} {vs vn vw : Value} (h : RAt w r x vs vn vw) (u : Value) : RAt (w.setCell ⟨r, 1, none⟩ u) r x u vn vw :=
  ⟨other_cell h.c0 (by omega), World.cell?_setCell_same w _ _ h.c1, other_cell h.c2 (by omega), other_cell h.c3 (by omega), other_cell h.c4 (by omega), other_cell h.c5 (by omega), other_cell h.c6 (by omega), dsk.warm_set h.warm, by simpa using h.lt⟩

theorem cell_off {w : World} {b o r o' : Nat} {u v : Value} (h : w.cell? ⟨b, o, none⟩ = some v) (hne : b ≠ r) : (w.setCell ⟨r, o', none⟩ u).cell? ⟨b, o, none⟩ = some v := by
  rw [World.cell?_setCell_other w _ _ _ (by intro e; injection e; omega)]
  exact h

/-- what does leaves -/
def DoesPost (w : World) (ρ : Nat → Role) (r : Nat) (x : RSt) (ls : List Fv) (es : Files) (ps : List (Change × Value)) (e : Ending) (w' : World) : Prop :=
  e = .returned (.int .i64 0) ∧ Kp (fun k => k = r) w w' ∧ ∃ vs' vn' vw' ln', RS w' ρ r x vs' vn' vw' ls ln' ps ∧ files ln' = es

set_option maxRecDepth 100000 in
set_option maxHeartbeats 4000000 in
theorem does_any (w : World) (ρ : Nat → Role) (r : Nat) (x : RSt) (vs vn vw vb : Value) (ls ln : List Fv) (ps : List (Change × Value)) (c : Change) (h : RS w ρ r x vs vn vw ls ln ps) (hc : c.fits (files ln)) (hn : c.name.size ≤ maxLen) (hto : c.to.size ≤ maxLen)
    (hb : Bs w vb c.bytes) (ha : c.bytes ≠ [] → Aw w ρ r vb) (hr : Rising (files ln)) (hl : ln.length ≤ 100000000) (hu : used (files ln) ≤ 1000000000000) (hbl : c.bytes.length ≤ 1000000000000) (hps : ps.length ≤ 1000000) (hi : ∀ k, w.heap.size ≤ k → ρ k = .other) :
    Calls Tryd.prog 44 #[.pointer (some ⟨r, 0, none⟩), chg c vb] w (DoesPost w ρ r x ls (doit (files ln) c) (ps ++ [(c, vb)])) := by
  obtain ⟨ab, cb, rfl, -⟩ := id hb
  obtain ⟨aw, cw, rfl⟩ : ∃ a c, vw = .slice a ps.length c := by
    rcases owns_any h.fw.1 with ⟨rfl, h0⟩ | ⟨g, cap, rfl, -⟩
    · exact ⟨none, 0, by rw [h0]⟩
    · exact ⟨_, _, rfl⟩
  obtain ⟨W0, hW0⟩ : ∃ W0, W0 = (w.alloc (.cells #[.int .i64 (c.kind : Int), .string c.name, .string c.to, .slice ab c.bytes.length cb, .int .i64 (c.size : Int)] 71)).drew := ⟨_, rfl⟩
  have k0 : Kp No w W0 := by rw [hW0]; exact ((Kp.refl No w).alloc _).drew
  have h0 := h.no k0
  have hd := done_any W0 vn (.slice ab c.bytes.length cb) ln c h0.fn hr hl hc hn hto (bs_no hb k0) hu hbl
  have c2 : W0.cell? ⟨r, 2, none⟩ = some vn := h0.at_.c2
  have b0 : W0.cell? ⟨w.heap.size, 0, none⟩ = some (.int .i64 (c.kind : Int)) := by rw [hW0]; simp
  have b1 : W0.cell? ⟨w.heap.size, 1, none⟩ = some (.string c.name) := by rw [hW0]; simp
  have b2 : W0.cell? ⟨w.heap.size, 2, none⟩ = some (.string c.to) := by rw [hW0]; simp
  have b3 : W0.cell? ⟨w.heap.size, 3, none⟩ = some (.slice ab c.bytes.length cb) := by rw [hW0]; simp
  have b4 : W0.cell? ⟨w.heap.size, 4, none⟩ = some (.int .i64 (c.size : Int)) := by rw [hW0]; simp
  have hz0 : W0.heap.size = w.heap.size + 1 := by rw [hW0]; simp
  have hlt := h.at_.lt
  have H := Hid_mk h
  have HB := Hid_mk hb
  have HA := Hid_mk ha
  have HI := Hid_mk hi
  have hcall : Calls Tryd.prog 47 #[vn, chg c (.slice ab c.bytes.length cb)] W0 fun e w1 => ∃ a1 n1 k1, e = .returned (.slice a1 n1 k1) ∧ w1.cell? ⟨r, 2, none⟩ = some vn ∧ w1.frozen? ⟨r, 2, none⟩ = false ∧
      w1.cell? ⟨w.heap.size, 0, none⟩ = some (.int .i64 (c.kind : Int)) ∧ w1.cell? ⟨w.heap.size, 1, none⟩ = some (.string c.name) ∧ w1.cell? ⟨w.heap.size, 2, none⟩ = some (.string c.to) ∧ w1.cell? ⟨w.heap.size, 3, none⟩ = some (.slice ab c.bytes.length cb) ∧ w1.cell? ⟨w.heap.size, 4, none⟩ = some (.int .i64 (c.size : Int)) ∧
      Hid (∃ l1, RS (w1.setCell ⟨r, 2, none⟩ (.slice a1 n1 k1)) ρ r x vs (.slice a1 n1 k1) (.slice aw ps.length cw) ls l1 ps ∧ files l1 = doit (files ln) c ∧ Kp (fun k => k = r) w (w1.setCell ⟨r, 2, none⟩ (.slice a1 n1 k1)) ∧ Kp No w w1) := by
    refine hd.mono ?_
    rintro e w1 ⟨v1, l1, rfl, hf1, he1, hk1, hnw⟩
    have hk := k0.trans' hk1
    have h1 := h.no hk
    have haw := newly_aw (r := r) hnw hf1 (fun k hk2 => hi k (by omega)) (by omega) hk1.size (h1.bn)
    obtain ⟨a1, k1, e1, -⟩ := hf1.1.opened
    subst e1
    refine ⟨a1, _, k1, rfl, hk1.cell' c2 id, h1.at_.warm 2, hk1.cell' b0 id, hk1.cell' b1 id, hk1.cell' b2 id, hk1.cell' b3 id, hk1.cell' b4 id, Hid_mk ⟨l1, h1.put_now hf1 haw.1 haw.2 (kp_p _ _ _ _) (h1.at_.set_now _), he1, hk.to.trans' (kp_p _ _ _ _), hk⟩⟩
  unfold chg at hcall ⊢
  have HC := Hid_mk hcall
  subst hW0
  clear hcall hd h0 k0 h hb ha hi hc hn hto hr hl hu hbl
  go_enter Tryd.func44, Tryd.ntmps44
  go_wp2
  go_region_with ((go_at_call 47; (with_reducible refine HC.out.mono ?_); rintro e w1 ⟨a1, n1, k1, rfl, g2, gf, g0, g1, g3, g4, g5, hex⟩))
  all_goals
    obtain ⟨l1, hR2, he1, hk2, -⟩ := hex.out
    have hne : w.heap.size ≠ r := by omega
    have e0 := cell_off (o' := 2) (u := .slice a1 n1 k1) g0 hne
    have e1 := cell_off (o' := 2) (u := .slice a1 n1 k1) g1 hne
    have e2 := cell_off (o' := 2) (u := .slice a1 n1 k1) g3 hne
    have e3 := cell_off (o' := 2) (u := .slice a1 n1 k1) g4 hne
    have e4 := cell_off (o' := 2) (u := .slice a1 n1 k1) g5 hne
    clear hne g2 gf g0 g1 g3 g4 g5 hex c2 b0 b1 b2 b3 b4 HC
    generalize w1.setCell ⟨r, 2, none⟩ (.slice a1 n1 k1) = W2 at *
    have c3 := hR2.at_.c3
    have w3f := hR2.at_.warm 3
    have hz2 := hk2.size
    have HR2 := Hid_mk hR2
    have HE1 := Hid_mk he1
    have HK2 := Hid_mk hk2
    have HOnes : Hid (∀ q ∈ ps, q.2.oneCell' = true) := Hid_mk fun q hq => by
      obtain ⟨_, _, e, -⟩ := hR2.fw.2 q hq
      rw [e]; rfl
    have HSw : Hid (∀ W, Kp No W2 W → SrcO W (.slice aw ps.length cw) ps) := Hid_mk fun W hW => (srcO_row hR2.fw.1).no hW
    have al : ∀ {o : Nat} {b : Nat} {u : Value}, W2.cell? ⟨b, o, none⟩ = some u → ∀ (x : Obj), (W2.alloc x).cell? ⟨b, o, none⟩ = some u := fun h x => ((Kp.refl No W2).alloc x).cell' h id
    have al2 : ∀ {o : Nat} {b : Nat} {u : Value}, W2.cell? ⟨b, o, none⟩ = some u → ∀ (x y : Obj), ((W2.alloc x).alloc y).cell? ⟨b, o, none⟩ = some u := fun h x y => (((Kp.refl No W2).alloc x).alloc y).cell' h id
    have c3a := al c3
    have e0a := al e0
    have e1a := al e1
    have e2a := al e2
    have e3a := al e3
    have e4a := al e4
    have c3b := al2 c3
    have e0b := al2 e0
    have e1b := al2 e1
    have e2b := al2 e2
    have e3b := al2 e3
    have e4b := al2 e4
    clear hR2 he1 hk2 al al2
    go_wp2
    have HO0 : Hid (ORow (W2.alloc (.cells #[] 71)) W2.heap.size (.slice (some ⟨W2.heap.size, 0, none⟩) 0 0) []) := Hid_mk (World.ownsRow_made W2 #[] 0 (Nat.le_refl _) (by decide) rfl)
    have HO1 : Hid (ORow ((W2.alloc (.cells #[.int .i64 (c.kind : Int), .string c.name, .string c.to, .slice ab c.bytes.length cb, .int .i64 (c.size : Int)] 71)).alloc (.cells #[] 71)) W2.heap.size (.slice (some ⟨W2.heap.size + 1, 0, none⟩) 0 0) []) := Hid_mk (by
      have := World.ownsRow_made (base := W2.heap.size) (e := 71) (size := 5) (W2.alloc (.cells #[.int .i64 (c.kind : Int), .string c.name, .string c.to, .slice ab c.bytes.length cb, .int .i64 (c.size : Int)] 71)) #[] 0 (by simp) (by decide) rfl
      rw [World.size_alloc] at this
      exact this)
    have HKa : Hid (Kp No W2 (W2.alloc (.cells #[] 71)).drew) := Hid_mk (((Kp.refl No W2).alloc _).drew)
    have HKb : Hid (Kp No W2 ((W2.alloc (.cells #[.int .i64 (c.kind : Int), .string c.name, .string c.to, .slice ab c.bytes.length cb, .int .i64 (c.size : Int)] 71)).alloc (.cells #[] 71)).drew) := Hid_mk ((((Kp.refl No W2).alloc _).alloc _).drew)
    have HSA : Hid (SrcO ((W2.alloc (.cells #[] 71)).alloc (.cells #[.int .i64 (c.kind : Int), .string c.name, .string c.to, .slice ab c.bytes.length cb, .int .i64 (c.size : Int)] 71)) (.slice (some ⟨W2.heap.size + 1, 0, none⟩) 1 1) [(c, .slice ab c.bytes.length cb)]) := Hid_mk (by
      have := srcO_new (W2.alloc (.cells #[] 71)) c (.slice ab c.bytes.length cb)
      rw [World.size_alloc] at this
      exact this)
    have HSB : Hid (SrcO ((W2.alloc (.cells #[.int .i64 (c.kind : Int), .string c.name, .string c.to, .slice ab c.bytes.length cb, .int .i64 (c.size : Int)] 71)).alloc (.cells #[] 71)) (.slice (some ⟨W2.heap.size, 0, none⟩) 1 1) [(c, .slice ab c.bytes.length cb)]) := Hid_mk ((srcO_new W2 c (.slice ab c.bytes.length cb)).no ((Kp.refl No _).alloc _))
    go_region_law (first
        | (refine step_srcO _ (by rfl) _ _ (by rfl) W2.heap.size (.slice (some ⟨W2.heap.size, 0, none⟩) 0 0) (.slice aw ps.length cw) [] ps (by rfl) (by rfl) (HO0.out.no (by first | exact (Kp.refl No _).drew | exact ((Kp.refl No _).drew).alloc _)) (by first | (simp; done) | (simp; omega)) HOnes.out (HSw.out _ (by first | exact HKa.out | exact HKa.out.alloc _)) (by first | (simp; done) | (simp; omega)) ?_
           intro v3 w3 hc3
           have hk3 : Kp No W2 w3 := by
             first
               | exact HKa.out.trans hc3.2.1 (fun i hi e => by simp [Value.ownBlock] at e; omega)
               | exact (HKa.out.alloc _).trans hc3.2.1 (fun i hi e => by simp [Value.ownBlock] at e; omega)
           have q3 := hk3.cell' c3 id
           have q3f := (hk3.frozen (p := ⟨r, 3, none⟩) (by simp only; omega) id).trans w3f
           have q0 := hk3.cell' e0 id
           have q1 := hk3.cell' e1 id
           have q2 := hk3.cell' e2 id
           have q4 := hk3.cell' e3 id
           have q5 := hk3.cell' e4 id)
        | (refine step_srcO _ (by rfl) _ _ (by rfl) W2.heap.size (.slice (some ⟨W2.heap.size + 1, 0, none⟩) 0 0) (.slice aw ps.length cw) [] ps (by rfl) (by rfl) (HO1.out.no (Kp.refl No _).drew) (by first | (simp; done) | (simp; omega)) HOnes.out (HSw.out _ HKb.out) (by first | (simp; done) | (simp; omega)) ?_
           intro v3 w3 hc3
           have hk3 : Kp No W2 w3 := HKb.out.trans hc3.2.1 (fun i hi e => by simp [Value.ownBlock] at e; omega)
           have q3 := hk3.cell' c3 id
           have q3f := (hk3.frozen (p := ⟨r, 3, none⟩) (by simp only; omega) id).trans w3f
           have q0 := hk3.cell' e0 id
           have q1 := hk3.cell' e1 id
           have q2 := hk3.cell' e2 id
           have q4 := hk3.cell' e3 id
           have q5 := hk3.cell' e4 id)
        | (refine step_srcO _ (by rfl) _ _ (by rfl) W2.heap.size v3 _ ps [(c, .slice ab c.bytes.length cb)] (by rfl) (by rfl) (by first | exact hc3.1 | exact ORow.no hc3.1 ((Kp.refl No w3).alloc _)) (by have := hk3.size; first | (simp; done) | (simp; omega) | omega) (fun q hq => by simp only [List.mem_singleton] at hq; subst hq; rfl)
             (by first
               | exact srcO_new w3 c (.slice ab c.bytes.length cb)
               | exact (HSA.out.no (Kp.refl No _).drew).kept hc3.2.1 (fun b o n k e e2 => by simp [Value.ownBlock] at e e2; omega)
               | exact (HSB.out.no (Kp.refl No _).drew).kept hc3.2.1 (fun b o n k e e2 => by simp [Value.ownBlock] at e e2; omega)) (by first | (simp; done) | (simp; omega)) ?_
           intro v4 w4 hc4
           have hk4 : Kp No W2 w4 := by
             first
               | exact hk3.trans hc4.2.1 (fun i hi e => by have := (World.ownsRow.lt hc3.1 i e.symm).1; omega)
               | exact (hk3.alloc _).trans hc4.2.1 (fun i hi e => by have := (World.ownsRow.lt hc3.1 i e.symm).1; omega)
           have s3 := hk4.cell' c3 id
           have s3f := (hk4.frozen (p := ⟨r, 3, none⟩) (by simp only; omega) id).trans w3f
           have HC4 := Hid_mk hc4.1
           obtain ⟨g9, cap9, hv4, hg9, hg10⟩ := owns_some hc4.1 (by simp)
           obtain ⟨L, hL⟩ : ∃ L, (ps ++ [(c, (Value.slice ab c.bytes.length cb))]).length = L := ⟨_, rfl⟩
           rw [hL] at hv4
           subst hv4
           have HK4 := Hid_mk hk4
           clear hL hc4 hk4))
    all_goals
      have hR4 := HR2.out.no HK4.out
      have hz4 := HK4.out.size
      have hfin : DoesPost w ρ r x ls (doit (files ln) c) (ps ++ [(c, .slice ab c.bytes.length cb)]) (.returned (.int .i64 0)) (w4.setCell ⟨r, 3, none⟩ (.slice (some ⟨g9, 0, none⟩) L cap9)) := by
        have hkw := HK2.out.trans' (HK4.out.to (S := fun k => k = r))
        refine ⟨rfl, hkw.trans' (kp_p _ _ _ _), vs, _, _, l1, hR4.put_wait ⟨owns_base HC4.out (Nat.zero_le _), fun q hq => ?_⟩ ?_ ?_ (kp_p _ _ _ _) (hR4.at_.set_wait _), HE1.out⟩
        · rcases List.mem_append.1 hq with h | h
          · exact hR4.fw.2 q h
          · simp only [List.mem_singleton] at h
            subst h
            refine bs_keptE HB.out hkw fun hne x o m k e => ?_
            exact (HA.out hne x o m k e).2.1
        · intro x o m k e
          cases e
          exact ⟨HI.out _ (by omega), by omega, hg10⟩
        · intro q hq hne
          rcases List.mem_append.1 hq with h | h
          · exact hR4.bw q h hne
          · simp only [List.mem_singleton] at h
            subst h
            exact (HA.out hne).up hkw.size fun _ _ e => e
      have HF := Hid_mk hfin
      clear hfin hR4 HC4 HK4 HR2
      go_wp2
      go_ret
      exact HF.out

end Go.Proofs.YtomckoeobkfklaaDoor.r2
