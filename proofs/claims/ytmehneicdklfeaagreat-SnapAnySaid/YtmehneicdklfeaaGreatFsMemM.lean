/- Files in memory: a map of slices of bytes; no two of them lie in one row. What is looked up, stored, deleted. One thing done to files in memory. Bytes as a text. Cuts of a slice of bytes. -/
import Derived.Test.YtmehneicdklfeaaGreatBaseM
import Derived.Maps.OwnSet
import Derived.Maps.RangeWalk
import Derived.Deep.RegionHeld3
import Derived.Laws.IdiomStrings
import Derived.Laws.BytesArg
import Derived.Laws.Pointers
import Derived.OwnWalk
import Derived.RegionTactic
import Derived.Laws.BitsAllLaws
import Derived.IntWalk

namespace Go.Proofs.YtmehneicdklfeaaGreat.fsMem
open Go.RowKit Go.Maps Go.Proofs.YtmehneicdklfeaaGreat.sum Go.Proofs.YtmehneicdklfeaaGreat.kept Go.Proofs.YtmehneicdklfeaaGreat.app Go.Proofs.YtmehneicdklfeaaGreat.writer Go.Proofs.YtmehneicdklfeaaGreat.clone Go.Proofs.YtmehneicdklfeaaGreat.fs
set_option linter.unusedVariables false

theorem law : Keyed Tryz.prog 9 := string_keyed Tryz.underlying9
theorem zeroS (w : World) : (zeroValue 29).run Tryz.prog w = .ok (.slice none 0 0) w := by kernel_rfl

/-- an element as it is -/
def raw (v : Value) : Option (DataW Value × List MemPlace) := some (.held v, [])
def dat (val : Name → Value) (es : Files) : DataW Value := .map (es.map fun e => (.string e.1, .held (val e.1)))

theorem sameKey_str (a b : Name) : (Lit.string a).sameKey (.string b) = (a == b) := rfl

theorem dat_at (val : Name → Value) (es : Files) (n : Name) (z : DataW Value) : (dat val es).atKey (.string n) z = if (get es n).isSome then .held (val n) else z := by
  unfold dat fs.get DataW.atKey
  simp only
  induction es with
  | nil => simp
  | cons y r ih =>
    simp only [List.map_cons, List.find?_cons, sameKey_str]
    by_cases e : y.1 = n
    · subst e; simp
    · have e' : (y.1 == n) = false := by simpa using e
      simp only [e']
      exact ih

theorem dat_has (val : Name → Value) (es : Files) (n : Name) : Maps.has (dat val es) (.string n) = (get es n).isSome := by
  unfold dat fs.get
  rw [Maps.has_eq]
  induction es with
  | nil => simp
  | cons y r ih =>
    simp only [List.map_cons, List.any_cons, List.find?_cons, sameKey_str]
    by_cases e : y.1 = n
    · subst e; simp
    · have e' : (y.1 == n) = false := by simpa using e
      simp only [e', Bool.false_or]
      exact ih

theorem dat_size (val : Name → Value) (es : Files) : Maps.size (dat val es) = es.length := by simp [dat, Maps.size]

theorem dat_congr {val val' : Name → Value} {es : Files} (h : ∀ e ∈ es, val e.1 = val' e.1) : dat val es = dat val' es := by
  unfold dat
  congr 1
  exact List.map_congr_left fun e he => by rw [h e he]

theorem insert_map (val : Name → Value) (x : Name × List UInt8) : ∀ es : Files, DataW.insert (Lit.string x.1, DataW.held (val x.1)) (es.map fun e => (Lit.string e.1, DataW.held (val e.1))) = (ins x es).map fun e => (Lit.string e.1, DataW.held (val e.1))
  | [] => rfl
  | y :: r => by
    have hb : (Lit.string x.1).before (.string y.1) = bef x.1 y.1 := rfl
    unfold ins
    simp only [List.map_cons, DataW.insert, hb]
    split
    · rfl
    · rw [insert_map val x r]; rfl

theorem filter_map (val : Name → Value) (n : Name) (es : Files) : ((es.map fun e => (Lit.string e.1, DataW.held (val e.1))).filter fun p => !p.1.sameKey (.string n)) = (drop es n).map fun e => (Lit.string e.1, DataW.held (val e.1)) := by
  unfold drop
  rw [List.filter_map]
  rfl

theorem dat_del (val : Name → Value) (es : Files) (n : Name) : (dat val es).del (.string n) = dat val (drop es n) := by
  show DataW.map _ = _
  unfold dat
  rw [filter_map]

def upd (val : Name → Value) (n : Name) (v : Value) : Name → Value := fun m => if m = n then v else val m
theorem upd_same (val : Name → Value) (n : Name) (v : Value) : upd val n v n = v := by simp [upd]
theorem upd_other (val : Name → Value) {n m : Name} (v : Value) (h : m ≠ n) : upd val n v m = val m := by simp [upd, h]

theorem dat_put (val : Name → Value) (es : Files) (n : Name) (v : Value) (bs : List UInt8) : (dat val es).put (.string n) (.held v) = dat (upd val n v) (put es n bs) := by
  show DataW.map (DataW.insert (.string n, .held v) ((es.map fun e => (Lit.string e.1, DataW.held (val e.1))).filter fun p => !p.1.sameKey (.string n))) = _
  rw [filter_map]
  have e1 : (drop es n).map (fun e => (Lit.string e.1, DataW.held (val e.1))) = (drop es n).map fun e => (Lit.string e.1, DataW.held (upd val n v e.1)) :=
    List.map_congr_left fun e he => by rw [upd_other _ _ (mem_drop.1 he).2]
  rw [e1]
  have := insert_map (upd val n v) (n, bs) (drop es n)
  simp only [upd_same] at this
  rw [this]
  rfl

/-- a row of a file's bytes, and whose it is -/
def RowOf (w : World) (base : Nat) (ρ : Nat → Option Name) (v : Value) (n : Name) (bs : List UInt8) : Prop :=
  w.ownsRow base 5 1 v bs.length (bs.map B) ∧ ∀ g, v.ownBlock = some g → ρ g = some n

/-- Block b is a map of these files, but that the file called x, if there is one, may have any value. -/
def FMx (x : Option Name) (w : World) (base b : Nat) (ρ : Nat → Option Name) (es : Files) : Prop :=
  Rising es ∧ ρ b = none ∧ base ≤ b ∧ ∃ val, w.ownsMap Tryz.prog 9 raw b es.length (dat val es) ∧ ∀ e ∈ es, x ≠ some e.1 → RowOf w base ρ (val e.1) e.1 e.2
abbrev FM := FMx none

theorem own_tight {w : World} {b n : Nat} {val : Name → Value} {es : Files} (h : w.ownsMap Tryz.prog 9 raw b n (dat val es)) : w.ownsMap Tryz.prog 9 raw b es.length (dat val es) := by
  obtain ⟨xs, clock, hb, F, hs, hD⟩ := h
  refine ⟨xs, clock, hb, F, ?_, hD⟩
  have := congrArg Maps.size hD
  rw [dat_size] at this
  simp [Maps.size, length_sorted] at this
  omega

theorem RowOf.kept {S : Nat → Prop} {w w' : World} {base : Nat} {ρ ρ' : Nat → Option Name} {v : Value} {n : Name} {bs : List UInt8} (h : RowOf w base ρ v n bs) (hk : Kp S w w') (hs : ∀ g, v.ownBlock = some g → ¬ S g) (hr : ∀ g, v.ownBlock = some g → g < w.heap.size → ρ' g = ρ g) : RowOf w' base ρ' v n bs :=
  ⟨owns_kept h.1 hk hs, fun g hg => by rw [hr g hg (h.1.lt g hg).2]; exact h.2 g hg⟩

theorem ownsMap_kept {S : Nat → Prop} {w w' : World} {b n : Nat} {D : DataW Value} (h : w.ownsMap Tryz.prog 9 raw b n D) (hk : Kp S w w') (hs : ¬ S b) : w'.ownsMap Tryz.prog 9 raw b n D := by
  have hlt := h.lt
  obtain ⟨es, clock, hb, F, hsz, hD⟩ := h
  exact ⟨es, clock, (hk.block b hlt hs).trans hb, F, hsz, hD⟩

/-- what does not touch the map and its rows leaves it -/
theorem FMx.kept {x : Option Name} {S : Nat → Prop} {w w' : World} {base b : Nat} {ρ ρ' : Nat → Option Name} {es : Files} (h : FMx x w base b ρ es) (hk : Kp S w w') (hs : ∀ k, k < w.heap.size → S k → k ≠ b ∧ (∀ n, ρ k = some n → x = some n))
    (hr : ∀ k, k < w.heap.size → ρ' k = ρ k) : FMx x w' base b ρ' es := by
  obtain ⟨h1, h2, h3, val, h4, h5⟩ := h
  have hb := h4.lt
  refine ⟨h1, by rw [hr b hb]; exact h2, h3, val, ownsMap_kept h4 hk (fun e => (hs b hb e).1 rfl), fun e he hx => ?_⟩
  have hrow := h5 e he hx
  exact hrow.kept hk (fun g hg hS => hx ((hs g (hrow.1.lt g hg).2 hS).2 e.1 (hrow.2 g hg))) fun g hg hlt => hr g hlt

theorem FMx.weak {w : World} {base b : Nat} {ρ : Nat → Option Name} {es : Files} (h : FM w base b ρ es) (n : Name) : FMx (some n) w base b ρ es := by
  obtain ⟨h1, h2, h3, val, h4, h5⟩ := h
  exact ⟨h1, h2, h3, val, h4, fun e he _ => h5 e he (by simp)⟩

theorem FMx.lt {x : Option Name} {w : World} {base b : Nat} {ρ : Nat → Option Name} {es : Files} (h : FMx x w base b ρ es) : b < w.heap.size := by
  obtain ⟨_, _, _, val, h4, _⟩ := h
  exact h4.lt

theorem key_nm {s : ByteArray} (hs : s.size ≤ maxLen) : keyOf Tryz.prog 9 (.string s) = some (.string (nm s)) := Go.WideMaps.keyOf_string_mk Tryz.underlying9 hs

/-- what stands at a name: the file's row; of none nil; and so it is looked up as long as nothing that is there turns -/
theorem FMx.look {w : World} {base b : Nat} {ρ : Nat → Option Name} {es : Files} (h : FM w base b ρ es) {s : ByteArray} (hs : s.size ≤ maxLen) :
    ∃ v, RowOf w base ρ v (nm s) (old es (nm s)) ∧ ∀ w', Kp No w w' → (Instr.lookup 73 (.map (some b)) (.string s) false).run Tryz.prog w' = .ok v w' ∧
      (Instr.lookup 73 (.map (some b)) (.string s) true).run Tryz.prog w' = .ok (.tuple #[v, .bool (get es (nm s)).isSome]) w' := by
  obtain ⟨h1, h2, h3, val, h4, h5⟩ := h
  refine ⟨if (get es (nm s)).isSome then val (nm s) else .slice none 0 0, ?_, fun w' hk => ?_⟩
  · cases hg : get es (nm s) with
    | none =>
      unfold old
      rw [hg]
      exact ⟨World.ownsRow_nil _ _ _ _, fun g hg => by simp [Value.ownBlock] at hg⟩
    | some bs =>
      unfold old
      rw [hg]
      exact h5 (nm s, bs) ((get_some h1).1 hg) (by simp)
  · have h4' := ownsMap_kept h4 hk id
    obtain ⟨v, ps, hr, hv⟩ := h4'.lookup law Tryz.underlying73 (zeroS w') (zd := .held (.slice none 0 0)) (zp := []) rfl (key_nm hs)
    obtain ⟨v2, ps2, hr2, hv2⟩ := h4'.look_ok law Tryz.underlying73 (zeroS w') (zd := .held (.slice none 0 0)) (zp := []) rfl (key_nm hs)
    rw [dat_at] at hv hv2
    rw [dat_has] at hr2
    simp only [raw, Option.some.injEq, Prod.mk.injEq] at hv hv2
    have key : ∀ u : Value, DataW.held u = (if (get es (nm s)).isSome then DataW.held (val (nm s)) else DataW.held (.slice none 0 0)) → u = if (get es (nm s)).isSome then val (nm s) else .slice none 0 0 := by
      intro u hu
      by_cases hh : (get es (nm s)).isSome = true
      · rw [if_pos hh] at hu ⊢; exact DataW.held.inj hu
      · rw [if_neg hh] at hu ⊢; exact DataW.held.inj hu
    rw [key v hv.1] at hr
    rw [key v2 hv2.1] at hr2
    exact ⟨hr, hr2⟩

/-- a store of a row of one's own -/
theorem FMx.store {w : World} {base b : Nat} {ρ : Nat → Option Name} {es : Files} {s : ByteArray} {v : Value} {bs : List UInt8} (h : FMx (some (nm s)) w base b ρ es) (hs : s.size ≤ maxLen) (hl : es.length < maxLen) (hv : RowOf w base ρ v (nm s) bs) :
    ∃ w', (Instr.mapUpdate 73 (.map (some b)) (.string s) v).run Tryz.prog w = .ok () w' ∧ FM w' base b ρ (put es (nm s) bs) ∧ Kp (fun k => k = b) w w' := by
  obtain ⟨h1, h2, h3, val, h4, h5⟩ := h
  obtain ⟨w', hr, ho, hg⟩ := h4.update law Tryz.underlying73 hl (d := .held v) (ps := []) (key_nm hs) rfl
  have hk : Kp (fun k => k = b) w w' := (Kp.refl _ w).grown hg fun k _ e => (Option.some.inj e).symm
  refine ⟨w', hr, ⟨h1.put _ _, h2, h3, upd val (nm s) v, ?_, ?_⟩, hk⟩
  · rw [dat_put val es (nm s) v bs] at ho
    exact own_tight ho
  · have keep : ∀ {u : Value} {m : Name} {cs : List UInt8}, RowOf w base ρ u m cs → RowOf w' base ρ u m cs := fun {u m cs} hh => hh.kept hk (fun g hg e => by
      have := hh.2 g hg
      rw [e, h2] at this
      cases this) fun _ _ _ => rfl
    intro e he _
    rcases mem_put.1 he with rfl | ⟨he2, hne⟩
    · rw [upd_same]; exact keep hv
    · rw [upd_other _ _ hne]; exact keep (h5 e he2 (fun e9 => hne (Option.some.inj e9).symm))

/-- delete -/
theorem FMx.drop {w : World} {base b : Nat} {ρ : Nat → Option Name} {es : Files} {s : ByteArray} (h : FM w base b ρ es) (hs : s.size ≤ maxLen) (ty : TypeId) :
    ∃ w', (Builtin.delete_ #[73, 9] ty #[.map (some b), .string s]).run Tryz.prog w = .ok (.tuple #[]) w' ∧ FM w' base b ρ (drop es (nm s)) ∧ Kp (fun k => k = b) w w' := by
  obtain ⟨h1, h2, h3, val, h4, h5⟩ := h
  have hb := h4.lt
  obtain ⟨w', hr, ho, ht⟩ := h4.drop law Tryz.underlying73 (key_nm hs) ty
  have hk : Kp (fun k => k = b) w w' := by
    obtain ⟨xs, clock, xs', clock', hbb, rfl⟩ := ht
    exact ⟨rfl, rfl, rfl, by simp [Go.ChangeMaps.setBlock], fun i _ hi => Go.ChangeMaps.heap_setBlock_other hbb _ hi⟩
  refine ⟨w', hr, ⟨h1.drop _, h2, h3, val, ?_, ?_⟩, hk⟩
  · rw [dat_del] at ho
    exact own_tight ho
  · intro e he _
    have hh := h5 e (mem_drop.1 he).1 (by simp)
    exact hh.kept hk (fun g hg e => by
      have := hh.2 g hg
      rw [e, h2] at this
      cases this) fun _ _ _ => rfl

end Go.Proofs.YtmehneicdklfeaaGreat.fsMem

namespace Go.Proofs.YtmehneicdklfeaaGreat.fsDo
open Go.RowKit Go.Maps Go.Proofs.YtmehneicdklfeaaGreat.sum Go.Proofs.YtmehneicdklfeaaGreat.kept Go.Proofs.YtmehneicdklfeaaGreat.app Go.Proofs.YtmehneicdklfeaaGreat.writer Go.Proofs.YtmehneicdklfeaaGreat.clone Go.Proofs.YtmehneicdklfeaaGreat.fs Go.Proofs.YtmehneicdklfeaaGreat.fsMem
set_option linter.unusedVariables false

theorem step_append_run {P : Program} {ops : Array Oper} {o : Oper} {a : Act} {K : Act → World → Prop} {Q : Exit → Act → World → Prop} {E : Prop} {w w1 : World} {v1 : Value} (hgd : o.guard = none) (s x : Operand) (t u : TypeId)
    (ho : o.op = .call { callee := .builtin .append, args := #[s, x], argTypes := #[t, u] }) (hr : (Builtin.append_ #[t, u] o.type #[a.eval s, a.eval x]).run P w = .ok v1 w1) (h : K (a.put o.dst v1) w1) :
    if Region.wanted o (yielded ops a.tmps) = true then Oper.wp P o a w K Q else E := by
  have hw : Region.wanted o (yielded ops a.tmps) = true := by simp [Region.wanted, hgd]
  rw [if_pos hw]
  unfold Oper.wp execOp
  simp only [ho, resolve, invoke, builtin, Sem.run_bind, Sem.run_pure, Result.andThen_ok, List.map_toArray, List.map_cons, List.map_nil, hr]
  exact h

theorem wpList_delete_run {P : Program} {ops : Array Oper} {rest : List Oper} {o : Oper} {a : Act} {Q : Exit → Act → World → Prop} {w w1 : World} {v1 : Value} (hgd : o.guard = none) (m x : Operand) (t k : TypeId)
    (ho : o.op = Op.call { callee := Callee.builtin Builtin.delete, args := #[m, x], argTypes := #[t, k] }) (hr : (Builtin.delete_ #[t, k] o.type #[a.eval m, a.eval x]).run P w = .ok v1 w1) (h : wpList P ops Q rest (a.put o.dst v1) w1) :
    wpList P ops Q (o :: rest) a w := by
  refine wpList_plain hgd fun K hK => ?_
  unfold Oper.wp execOp
  simp only [ho, resolve, invoke, builtin, Sem.run_bind, Sem.run_pure, Result.andThen_ok, List.map_toArray, List.map_cons, List.map_nil, hr]
  exact hK _ _ h

/-- What is left: the files, of old memory only the map and its rows have turned. -/
def DoPost (base b : Nat) (ρ : Nat → Option Name) (w : World) (es' : Files) (e : Ending) (w' : World) : Prop :=
  e = .returned (.tuple #[]) ∧ ∃ ρ', FM w' base b ρ' es' ∧ Kp (fun k => k = b ∨ (ρ k).isSome = true) w w' ∧ ∀ k, k < w.heap.size → (ρ' k).isSome = true → (ρ k).isSome = true

def chg (c : Change) (vb : Value) : Value := .agg #[.int .i64 (c.kind : Int), .string c.name, .string c.to, vb, .int .i64 (c.size : Int)]
def chgCells (c : Change) (vb : Value) : Obj := .cells #[.int .i64 (c.kind : Int), .string c.name, .string c.to, vb, .int .i64 (c.size : Int)] 80

theorem fm_alloc {w : World} {base b : Nat} {ρ : Nat → Option Name} {es : Files} (h : FM w base b ρ es) (o : Obj) : FM (w.alloc o) base b ρ es :=
  h.kept ((Kp.refl No w).alloc o) (fun _ _ x => x.elim) fun _ _ => rfl
theorem fm_drew {w : World} {base b : Nat} {ρ : Nat → Option Name} {es : Files} (h : FM w base b ρ es) : FM w.drew base b ρ es :=
  h.kept ((Kp.refl No w).drew) (fun _ _ x => x.elim) fun _ _ => rfl

set_option maxRecDepth 100000 in
set_option maxHeartbeats 2000000 in
theorem do_append (w : World) (base b : Nat) (ρ : Nat → Option Name) (es : Files) (c : Change) (vb : Value) (h : FM w base b ρ es) (hkind : c.kind = 0) (hb : Bs w vb c.bytes) (hs : c.name.size ≤ maxLen) (hl : es.length < maxLen)
    (hlen : (old es (nm c.name)).length + c.bytes.length ≤ 140737488355328) :
    Calls Tryz.prog 67 #[.map (some b), chg c vb] w (DoPost base b ρ w (doit es c)) := by
  unfold chg
  rw [hkind]
  obtain ⟨W0, hW0⟩ : ∃ W0, W0 = (w.alloc (.cells #[.int .i64 0, .string c.name, .string c.to, vb, .int .i64 (c.size : Int)] 80)).drew := ⟨_, rfl⟩
  have k0 : Kp No w W0 := by rw [hW0]; exact ((Kp.refl No w).alloc _).drew
  have h0 : FM W0 base b ρ es := by rw [hW0]; exact fm_drew (fm_alloc h _)
  have c1 : W0.cell? ⟨w.heap.size, 1, none⟩ = some (.string c.name) := by rw [hW0]; simp
  have c3 : W0.cell? ⟨w.heap.size, 3, none⟩ = some vb := by rw [hW0]; simp
  have hbase : base ≤ W0.heap.size := Nat.le_trans h0.2.2.1 (Nat.le_of_lt h0.lt)
  obtain ⟨v, hrow', hlook⟩ := h.look hs
  have hrow := hrow'.kept k0 (ρ' := ρ) (fun _ _ => id) fun _ _ _ => rfl
  have hlk := (hlook W0 k0).1
  have hvq : ∀ g, v.ownBlock = some g → g < w.heap.size := fun g hg => (hrow'.1.lt g hg).2
  have hbs := bs_no hb k0
  obtain ⟨v1, w1, hr1, happ⟩ := run_append_bs W0 29 base v _ hrow.1 vb c.bytes hbs hlen hbase
  have k1 : Kp (fun k => some k = v.ownBlock) W0 w1 := app_kept0 happ fun k _ e => e.symm
  obtain ⟨ρ1, hρ1⟩ : ∃ ρ1 : Nat → Option Name, ρ1 = fun k => if k < W0.heap.size then ρ k else some (nm c.name) := ⟨_, rfl⟩
  have hold : ∀ k, k < W0.heap.size → ρ1 k = ρ k := fun k hk => by rw [hρ1]; simp [hk]
  have hnew : ∀ k, ¬ k < W0.heap.size → ρ1 k = some (nm c.name) := fun k hk => by rw [hρ1]; simp [hk]
  have h1 : FMx (some (nm c.name)) w1 base b ρ1 es := (FMx.weak h0 (nm c.name)).kept k1 (fun k hk e => by
    have hr := hrow.2 k e.symm
    refine ⟨fun e2 => ?_, fun n hn => by rw [hr] at hn; exact hn⟩
    rw [e2, h0.2.1] at hr
    cases hr) hold
  have hrow1 : RowOf w1 base ρ1 v1 (nm c.name) (old es (nm c.name) ++ c.bytes) := by
    refine ⟨happ.1, fun g hg => ?_⟩
    rcases happ.2.2.2 with e | e
    · rw [e] at hg
      rw [hold g (hrow.1.lt g hg).2]
      exact hrow.2 g hg
    · rw [e] at hg
      exact hnew g (by simp at hg; omega)
  obtain ⟨w2, hr2, hfm2, k2⟩ := h1.store hs hl hrow1
  have hq : w.heap.size < W0.heap.size := by rw [hW0]; simp
  have hfin : DoPost base b ρ w (doit es c) (.returned (.tuple #[])) w2 := by
    refine ⟨rfl, ρ1, ?_, ?_, fun k hk hh => by rw [hold k (by omega)] at hh; exact hh⟩
    · unfold doit; rw [hkind]; exact hfm2
    · have k01 : Kp (fun k => k = b ∨ (ρ k).isSome = true) w w1 := k0.to.trans k1 fun i hi e => Or.inr (by rw [hrow.2 i e.symm]; rfl)
      exact k01.trans k2 fun i hi e => Or.inl e
  have HF := Hid_mk hfin
  have d1 : w1.cell? ⟨w.heap.size, 1, none⟩ = some (.string c.name) := k1.cell' c1 (fun e => by have := hvq _ e.symm; simp only at this; omega)
  have d3 : w1.cell? ⟨w.heap.size, 3, none⟩ = some vb := k1.cell' c3 (fun e => by have := hvq _ e.symm; simp only at this; omega)
  have hbq : ¬ w.heap.size = b := by have := h.lt; omega
  have e1 : w2.cell? ⟨w.heap.size, 1, none⟩ = some (.string c.name) := k2.cell' d1 hbq
  have e3 : w2.cell? ⟨w.heap.size, 3, none⟩ = some vb := k2.cell' d3 hbq
  clear hfin hfm2 k2 h1 k1 happ hbs h0 k0 hbase hlook hrow' hrow hvq hnew hold hρ1 hrow1 hb hs hl hlen hq hbq
  subst hW0
  go_enter Tryz.func67, Tryz.ntmps67
  go_wp2
  go_region_held3 (fun W => W.cell? ⟨w.heap.size, 1, none⟩ = some (.string c.name) ∧ W.cell? ⟨w.heap.size, 3, none⟩ = some vb)
    (first
      | go_keep
      | (dsimp only; exact ⟨d1, d3⟩)
      | (dsimp only; exact ⟨e1, e3⟩))
    (refine step_append_run rfl _ _ _ _ rfl hr1 ?_)
  go_wp2
  go_end0
  exact HF.out

theorem owns_take {w : World} {base g n cap k : Nat} {xs : List Value} (h : w.ownsRow base 5 1 (.slice (some ⟨g, 0, none⟩) n cap) n xs) (hk : k ≤ n) : w.ownsRow base 5 1 (.slice (some ⟨g, 0, none⟩) k cap) k (xs.take k) := by
  have hl := h.1
  refine ⟨by rw [List.length_take]; omega, ?_⟩
  rcases h.2 with ⟨e, _⟩ | ⟨g', cap', cur, e, hb, hg, r1, r2, r3, r4⟩
  · cases e
  · cases e
    refine .inr ⟨g, cap, cur, rfl, hb, hg, by omega, r2, r3, ?_⟩
    rw [← r4, List.take_take]
    congr 1
    omega

theorem row_take {w : World} {base g n cap k : Nat} {ρ : Nat → Option Name} {nn : Name} {bs : List UInt8} (h : RowOf w base ρ (.slice (some ⟨g, 0, none⟩) n cap) nn bs) (hn : n = bs.length) (hk : k ≤ n) : RowOf w base ρ (.slice (some ⟨g, 0, none⟩) k cap) nn (bs.take k) := by
  subst hn
  have ho := owns_take h.1 hk
  have e : (bs.take k).length = k := by rw [List.length_take]; omega
  refine ⟨by rw [e, List.map_take]; exact ho, h.2⟩

set_option maxRecDepth 100000 in
set_option maxHeartbeats 2000000 in
theorem do_trunc (w : World) (base b : Nat) (ρ : Nat → Option Name) (es : Files) (c : Change) (vb : Value) (h : FM w base b ρ es) (hkind : c.kind = 1) (hs : c.name.size ≤ maxLen) (hl : es.length < maxLen)
    (hsz : c.size ≤ (old es (nm c.name)).length) :
    Calls Tryz.prog 67 #[.map (some b), chg c vb] w (DoPost base b ρ w (doit es c)) := by
  unfold chg
  rw [hkind]
  obtain ⟨W0, hW0⟩ : ∃ W0, W0 = (w.alloc (.cells #[.int .i64 1, .string c.name, .string c.to, vb, .int .i64 (c.size : Int)] 80)).drew := ⟨_, rfl⟩
  have k0 : Kp No w W0 := by rw [hW0]; exact ((Kp.refl No w).alloc _).drew
  have h0 : FM W0 base b ρ es := by rw [hW0]; exact fm_drew (fm_alloc h _)
  have c1 : W0.cell? ⟨w.heap.size, 1, none⟩ = some (.string c.name) := by rw [hW0]; simp
  have c4 : W0.cell? ⟨w.heap.size, 4, none⟩ = some (.int .i64 (c.size : Int)) := by rw [hW0]; simp
  obtain ⟨v, hrow', hlook⟩ := h.look hs
  have hrow := hrow'.kept k0 (ρ' := ρ) (fun _ _ => id) fun _ _ _ => rfl
  have hlk := (hlook W0 k0).1
  have hbq : ¬ w.heap.size = b := by have := h.lt; omega
  obtain ⟨v1, hv1, hv2⟩ : ∃ v1, RowOf W0 base ρ v1 (nm c.name) ((old es (nm c.name)).take c.size) ∧
      ((v = .slice none 0 0 ∧ c.size = 0 ∧ v1 = .slice none 0 0) ∨ ∃ g n cap, v = .slice (some ⟨g, 0, none⟩) n cap ∧ c.size ≤ n ∧ n ≤ cap ∧ cap ≤ maxLen ∧ v1 = .slice (some ⟨g, 0, none⟩) c.size cap) := by
    rcases owns_any hrow.1 with ⟨rfl, e⟩ | ⟨g, cap, rfl, hg1, hg2, hg3, hg4⟩
    · have e0 : c.size = 0 := by omega
      have e1 : old es (nm c.name) = [] := List.eq_nil_of_length_eq_zero e
      refine ⟨.slice none 0 0, ?_, .inl ⟨rfl, e0, rfl⟩⟩
      rw [e1, List.take_nil]
      exact ⟨World.ownsRow_nil _ _ _ _, fun g hg => by simp [Value.ownBlock] at hg⟩
    · exact ⟨_, row_take hrow rfl hsz, .inr ⟨g, _, cap, rfl, hsz, hg3, hg4, rfl⟩⟩
  obtain ⟨w2, hr2, hfm2, k2⟩ := (FMx.weak h0 (nm c.name)).store hs hl hv1
  have hfin : DoPost base b ρ w (doit es c) (.returned (.tuple #[])) w2 := by
    refine ⟨rfl, ρ, ?_, k0.to.trans k2 fun i hi e => Or.inl e, fun k hk hh => hh⟩
    unfold doit; rw [hkind]; exact hfm2
  have HF := Hid_mk hfin
  have e1 : w2.cell? ⟨w.heap.size, 1, none⟩ = some (.string c.name) := k2.cell' c1 hbq
  have e4 : w2.cell? ⟨w.heap.size, 4, none⟩ = some (.int .i64 (c.size : Int)) := k2.cell' c4 hbq
  have hs0 : (0 : Int) ≤ (c.size : Int) := Int.natCast_nonneg _
  clear hfin hfm2 k2 h0 k0 hlook hrow' hrow hv1 hs hl hbq hsz
  rcases hv2 with ⟨rfl, hz, rfl⟩ | ⟨g, n, cap, rfl, hn1, hn2, hn3, rfl⟩
  · have hz2 : ((c.size : Nat) : Int) = 0 := by omega
    rw [hz2] at hW0 c4 e4 ⊢
    clear hz2 hz hs0
    subst hW0
    go_enter Tryz.func67, Tryz.ntmps67
    go_wp2
    go_region_held3 (fun W => W.cell? ⟨w.heap.size, 1, none⟩ = some (.string c.name) ∧ W.cell? ⟨w.heap.size, 4, none⟩ = some (.int .i64 0))
      (first
        | go_keep
        | (dsimp only; exact ⟨e1, e4⟩))
      (fail)
    go_wp2
    go_end0
    exact HF.out
  · subst hW0
    unfold maxLen at hn3
    have hi1 : (c.size : Int) ≤ (cap : Int) := by omega
    go_enter Tryz.func67, Tryz.ntmps67
    go_wp2
    go_region_held3 (fun W => W.cell? ⟨w.heap.size, 1, none⟩ = some (.string c.name) ∧ W.cell? ⟨w.heap.size, 4, none⟩ = some (.int .i64 (c.size : Int)))
      (first
        | go_keep
        | (dsimp only; exact ⟨e1, e4⟩))
      (fail)
    go_wp2
    go_end0
    exact HF.out

set_option maxRecDepth 100000 in
set_option maxHeartbeats 2000000 in
theorem do_rename (w : World) (base b : Nat) (ρ : Nat → Option Name) (es : Files) (c : Change) (vb : Value) (h : FM w base b ρ es) (hkind : c.kind = 2) (hs : c.name.size ≤ maxLen) (hst : c.to.size ≤ maxLen) (hl : es.length < maxLen) :
    Calls Tryz.prog 67 #[.map (some b), chg c vb] w (DoPost base b ρ w (doit es c)) := by
  unfold chg
  rw [hkind]
  obtain ⟨W0, hW0⟩ : ∃ W0, W0 = w.alloc (.cells #[.int .i64 2, .string c.name, .string c.to, vb, .int .i64 (c.size : Int)] 80) := ⟨_, rfl⟩
  have k0 : Kp No w W0 := by rw [hW0]; exact (Kp.refl No w).alloc _
  have h0 : FM W0 base b ρ es := by rw [hW0]; exact fm_alloc h _
  have c1 : W0.cell? ⟨w.heap.size, 1, none⟩ = some (.string c.name) := by rw [hW0]; simp
  have c2 : W0.cell? ⟨w.heap.size, 2, none⟩ = some (.string c.to) := by rw [hW0]; simp
  obtain ⟨v, hrow', hlook⟩ := h.look hs
  have hrow := hrow'.kept k0 (ρ' := ρ) (fun _ _ => id) fun _ _ _ => rfl
  have hlk := (hlook W0 k0).1
  have hbq : ¬ w.heap.size = b := by have := h.lt; omega
  obtain ⟨w1, hr1, hfm1, k1⟩ := h0.drop hs 0
  obtain ⟨ρ1, hρ1⟩ : ∃ ρ1 : Nat → Option Name, ρ1 = fun k => if ρ k = some (nm c.name) then some (nm c.to) else ρ k := ⟨_, rfl⟩
  have h1 : FMx (some (nm c.to)) w1 base b ρ1 (drop es (nm c.name)) := by
    obtain ⟨q1, q2, q3, val, q4, q5⟩ := hfm1
    refine ⟨q1, by rw [hρ1]; simp [q2], q3, val, q4, fun e he _ => ⟨(q5 e he (by simp)).1, fun g hg => ?_⟩⟩
    have hr := (q5 e he (by simp)).2 g hg
    have hne := (mem_drop.1 he).2
    rw [hρ1]
    simp only
    rw [hr, if_neg (fun e9 => hne (Option.some.inj e9))]
  have hrow1 : RowOf w1 base ρ1 v (nm c.to) (old es (nm c.name)) := by
    refine ⟨owns_kept hrow.1 k1 (fun g hg e => ?_), fun g hg => ?_⟩
    · have := hrow.2 g hg
      rw [e, h0.2.1] at this
      cases this
    · rw [hρ1]
      simp only
      rw [hrow.2 g hg, if_pos rfl]
  have hl1 : (drop es (nm c.name)).length < maxLen := Nat.lt_of_le_of_lt (List.length_filter_le _ _) hl
  obtain ⟨w2, hr2, hfm2, k2⟩ := h1.store hst hl1 hrow1
  have hfin : DoPost base b ρ w (doit es c) (.returned (.tuple #[])) w2 := by
    refine ⟨rfl, ρ1, ?_, (k0.to.trans k1 fun i hi e => Or.inl e).trans k2 fun i hi e => Or.inl e, fun k hk hh => ?_⟩
    · unfold doit; rw [hkind]; exact hfm2
    · rw [hρ1] at hh
      simp only at hh
      split at hh
      · rename_i h9; rw [h9]; rfl
      · exact hh
  have HF := Hid_mk hfin
  have d1 : w1.cell? ⟨w.heap.size, 1, none⟩ = some (.string c.name) := k1.cell' c1 hbq
  have d2 : w1.cell? ⟨w.heap.size, 2, none⟩ = some (.string c.to) := k1.cell' c2 hbq
  clear hfin hfm2 k2 h0 k0 hlook hrow' hrow hs hst hl hbq h1 hrow1 hl1 k1 hfm1 hρ1
  subst hW0
  go_enter Tryz.func67, Tryz.ntmps67
  go_wp2_with (at_delete; refine wpList_delete_run rfl _ _ _ _ rfl hr1 ?_)
  go_end0
  exact HF.out

set_option maxRecDepth 100000 in
set_option maxHeartbeats 2000000 in
theorem do_remove (w : World) (base b : Nat) (ρ : Nat → Option Name) (es : Files) (c : Change) (vb : Value) (h : FM w base b ρ es) (hkind : c.kind = 3) (hs : c.name.size ≤ maxLen) :
    Calls Tryz.prog 67 #[.map (some b), chg c vb] w (DoPost base b ρ w (doit es c)) := by
  unfold chg
  rw [hkind]
  obtain ⟨W0, hW0⟩ : ∃ W0, W0 = w.alloc (.cells #[.int .i64 3, .string c.name, .string c.to, vb, .int .i64 (c.size : Int)] 80) := ⟨_, rfl⟩
  have k0 : Kp No w W0 := by rw [hW0]; exact (Kp.refl No w).alloc _
  have h0 : FM W0 base b ρ es := by rw [hW0]; exact fm_alloc h _
  have c1 : W0.cell? ⟨w.heap.size, 1, none⟩ = some (.string c.name) := by rw [hW0]; simp
  obtain ⟨w1, hr1, hfm1, k1⟩ := h0.drop hs 0
  have hfin : DoPost base b ρ w (doit es c) (.returned (.tuple #[])) w1 := by
    refine ⟨rfl, ρ, ?_, k0.to.trans k1 fun i hi e => Or.inl e, fun k hk hh => hh⟩
    unfold doit; rw [hkind]; exact hfm1
  have HF := Hid_mk hfin
  clear hfin hfm1 h0 k0 hs k1
  subst hW0
  go_enter Tryz.func67, Tryz.ntmps67
  go_wp2_with (at_delete; refine wpList_delete_run rfl _ _ _ _ rfl hr1 ?_)
  go_end0
  exact HF.out

/-- Whatever is done that may be. -/
theorem do_any (w : World) (base b : Nat) (ρ : Nat → Option Name) (es : Files) (c : Change) (vb : Value) (h : FM w base b ρ es) (hf : c.fits es) (hb : Bs w vb c.bytes) (hs : c.name.size ≤ maxLen) (hst : c.to.size ≤ maxLen) (hl : es.length < maxLen)
    (hlen : c.kind = 0 → (old es (nm c.name)).length + c.bytes.length ≤ 140737488355328) :
    Calls Tryz.prog 67 #[.map (some b), chg c vb] w (DoPost base b ρ w (doit es c)) := by
  obtain ⟨h4, h1⟩ := hf
  have : c.kind = 0 ∨ c.kind = 1 ∨ c.kind = 2 ∨ c.kind = 3 := by omega
  rcases this with e | e | e | e
  · exact do_append w base b ρ es c vb h e hb hs hl (hlen e)
  · exact do_trunc w base b ρ es c vb h e hs hl (h1 e)
  · exact do_rename w base b ρ es c vb h e hs hst hl
  · exact do_remove w base b ρ es c vb h e hs

end Go.Proofs.YtmehneicdklfeaaGreat.fsDo

namespace Go.Proofs.YtmehneicdklfeaaGreat.known
open Go.RowKit Go.Proofs.YtmehneicdklfeaaGreat.sum Go.Proofs.YtmehneicdklfeaaGreat.kept Go.Proofs.YtmehneicdklfeaaGreat.app Go.Proofs.YtmehneicdklfeaaGreat.writer Go.Proofs.YtmehneicdklfeaaGreat.clone
set_option linter.unusedVariables false

/-- bytes as a text -/
theorem conv_bs {w : World} {v : Value} {bs : List UInt8} (h : Bs w v bs) : (convert 29 9 v).run Tryz.prog w = .ok (.string ⟨bs.toArray⟩) w := by
  obtain ⟨a, cap, rfl, h1, h2, h3⟩ := h
  by_cases hbs : bs = []
  · subst hbs
    cases a with
    | none => exact run_convert_bytes_nil w 29 5 Tryz.underlying29 Tryz.underlying5 _ _ _ Tryz.underlying9
    | some ad => exact run_convert_bytes_back w 29 9 5 ad cap [] Tryz.underlying29 Tryz.underlying5 Tryz.underlying9 (fun j hj => by simp at hj)
  · obtain ⟨b, o, rfl, hc⟩ := h3 hbs
    refine run_convert_bytes_back w 29 9 5 ⟨b, o, none⟩ cap bs Tryz.underlying29 Tryz.underlying5 Tryz.underlying9 (fun j hj => ?_)
    rw [addr_add, hc j hj]
    simp [B, List.getD, hj]

/-- a literal of bytes, as laid by the call -/
theorem bs_lit (w : World) (bs : List UInt8) (fr : Nat × Nat) (hl : bs.length ≤ maxLen) : Bs (w.alloc (.cells (bs.map B).toArray 5 fr)) (.slice (some ⟨w.heap.size, 0, none⟩) bs.length bs.length) bs := by
  refine ⟨_, _, rfl, Nat.le_refl _, hl, fun _ => ⟨_, _, rfl, fun k hk => ?_⟩⟩
  rw [World.cell?_alloc_mark]
  simp [List.getD, hk]

end Go.Proofs.YtmehneicdklfeaaGreat.known

namespace Go.Proofs.YtmehneicdklfeaaGreat.unseal
open Go.RowKit Go.Proofs.YtmehneicdklfeaaGreat.sum Go.Proofs.YtmehneicdklfeaaGreat.kept Go.Proofs.YtmehneicdklfeaaGreat.app Go.Proofs.YtmehneicdklfeaaGreat.writer Go.Proofs.YtmehneicdklfeaaGreat.clone Go.Proofs.YtmehneicdklfeaaGreat.known
set_option linter.unusedVariables false

/-- behind a draw everything reads as before -/
theorem bs_drewN {w : World} {v : Value} {bs : List UInt8} (n : Nat) (h : Bs w v bs) : Bs (w.drewN n) v bs := bs_no h ((Kp.refl _ _).drewN n)

/-- a cut of a slice of bytes -/
theorem bs_take {w : World} {b : Option Addr} {len cap : Nat} {bs : List UInt8} (h : Bs w (.slice b len cap) bs) (k : Nat) (hk : k ≤ len) : Bs w (.slice b k cap) (bs.take k) := by
  obtain ⟨a, c, e, h1, h2, h3⟩ := h
  simp only [Value.slice.injEq] at e
  obtain ⟨rfl, rfl, rfl⟩ := e
  refine ⟨b, cap, by rw [List.length_take, Nat.min_eq_left hk], by rw [List.length_take]; omega, h2, fun hne => ?_⟩
  obtain ⟨B, o, rfl, hc⟩ := h3 (by intro e; subst e; simp at hne)
  refine ⟨B, o, rfl, fun i hi => ?_⟩
  rw [List.length_take] at hi
  rw [hc i (by omega)]
  simp [List.getD, show i < k by omega]

theorem bs_drop {w : World} {b o len cap : Nat} {bs : List UInt8} (h : Bs w (.slice (some ⟨b, o, none⟩) len cap) bs) (k : Nat) (hk : k ≤ len) (ao : Option Addr) (hao : ¬ k = cap → ao = some ⟨b, o + k, none⟩) : Bs w (.slice ao (len - k) (cap - k)) (bs.drop k) := by
  obtain ⟨a, c, e, h1, h2, h3⟩ := h
  simp only [Value.slice.injEq] at e
  obtain ⟨rfl, rfl, rfl⟩ := e
  refine ⟨ao, _, by rw [List.length_drop], by rw [List.length_drop]; omega, by omega, fun hne => ?_⟩
  have hlt : k < bs.length := by
    rcases Nat.lt_or_ge k bs.length with h | h
    · exact h
    · rw [List.drop_of_length_le h] at hne; exact absurd rfl hne
  obtain ⟨B, o', e, hc⟩ := h3 (by intro e; subst e; simp at hlt)
  cases e
  refine ⟨_, _, hao (by omega), fun i hi => ?_⟩
  rw [List.length_drop] at hi
  rw [Nat.add_assoc, hc (k + i) (by omega)]
  simp [List.getD]

end Go.Proofs.YtmehneicdklfeaaGreat.unseal
