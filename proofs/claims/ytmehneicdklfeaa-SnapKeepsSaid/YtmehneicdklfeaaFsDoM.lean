/- One thing done to files in memory. Bytes as a text. Cuts of a slice of bytes. The reference's done. The bytes of all files in memory; a copy of them. A remainder; a byte that is turned. -/
import Derived.Test.YtmehneicdklfeaaFsPlainM
import Derived.Test.YtmehneicdklfeaaBaseM
import Derived.Laws.IdiomStrings
import Derived.Laws.BytesArg
import Derived.Laws.Pointers
import Derived.OwnWalk
import Derived.RegionTactic
import Derived.Laws.BitsAllLaws
import Derived.IntWalk
import Derived.Deep.RegionWith
import Derived.StillTailTactics
import Derived.RegionCalls

namespace Go.Proofs.Ytmehneicdklfeaa.fsDo
open Go.RowKit Go.Maps Go.Proofs.Ytmehneicdklfeaa.sum Go.Proofs.Ytmehneicdklfeaa.kept Go.Proofs.Ytmehneicdklfeaa.app Go.Proofs.Ytmehneicdklfeaa.writer Go.Proofs.Ytmehneicdklfeaa.clone Go.Proofs.Ytmehneicdklfeaa.fs Go.Proofs.Ytmehneicdklfeaa.fsMem
set_option linter.unusedVariables false

theorem step_append_run {P : Program} {ops : Array Oper} {o : Oper} {a : Act} {K : Act → World → Prop} {Q : Exit → Act → World → Prop} {E : Prop} {w w1 : World} {v1 : Value} (hgd : o.guard = none) (s x : Operand) (t u : TypeId)
    (ho : o.op = .call { callee := .builtin .append, args := #[s, x], argTypes := #[t, u] }) (hr : (Builtin.append_ #[t, u] o.type #[a.eval s, a.eval x]).run P w = .ok v1 w1) (h : K (a.put o.dst v1) w1) :
    if Region.wanted o (yielded ops a.tmps) = true then Oper.wp P o a w K Q else E := by
  have hw : Region.wanted o (yielded ops a.tmps) = true := by simp [Region.wanted, hgd]
  rw [if_pos hw]
  unfold Oper.wp execOp
  simp only [ho, resolve, invoke, builtin, Sem.run_bind, Sem.run_pure, Result.andThen_ok, List.map_toArray, List.map_cons, List.map_nil, hr]
  exact h

theorem wpList_delete_run {P : Program} {ops : Array Oper} {rest : List Oper} {o : Oper} {a : Act} {Q : Exit → Act → World → Prop} {w w1 : World} {v1 : Value} (hgd : o.guard = none) (m x : Operand) (t k : TypeId)
    (ho : o.op = Op.call { callee := Callee.builtin Builtin.delete, args := #[m, x], argTypes := #[t, k] }) (hr : (Builtin.delete_ #[t, k] o.type #[a.eval m, a.eval x]).run P w = .ok v1 w1) (h : wpList P ops Q rest (a.put o.dst v1) w1) :
    wpList P ops Q (o :: rest) a w := by
  refine wpList_plain hgd fun K hK => ?_
  unfold Oper.wp execOp
  simp only [ho, resolve, invoke, builtin, Sem.run_bind, Sem.run_pure, Result.andThen_ok, List.map_toArray, List.map_cons, List.map_nil, hr]
  exact hK _ _ h

/-- What is left: the files, of old memory only the map and its rows have turned. -/
def DoPost (base b : Nat) (ρ : Nat → Option Name) (w : World) (es' : Files) (e : Ending) (w' : World) : Prop :=
  e = .returned (.tuple #[]) ∧ ∃ ρ', FM w' base b ρ' es' ∧ Kp (fun k => k = b ∨ (ρ k).isSome = true) w w' ∧ ∀ k, k < w.heap.size → (ρ' k).isSome = true → (ρ k).isSome = true

def chg (c : Change) (vb : Value) : Value := .agg #[.int .i64 (c.kind : Int), .string c.name, .string c.to, vb, .int .i64 (c.size : Int)]
def chgCells (c : Change) (vb : Value) : Obj := .cells #[.int .i64 (c.kind : Int), .string c.name, .string c.to, vb, .int .i64 (c.size : Int)] 59

theorem fm_alloc {w : World} {base b : Nat} {ρ : Nat → Option Name} {es : Files} (h : FM w base b ρ es) (o : Obj) : FM (w.alloc o) base b ρ es :=
  h.kept ((Kp.refl No w).alloc o) (fun _ _ x => x.elim) fun _ _ => rfl
theorem fm_drew {w : World} {base b : Nat} {ρ : Nat → Option Name} {es : Files} (h : FM w base b ρ es) : FM w.drew base b ρ es :=
  h.kept ((Kp.refl No w).drew) (fun _ _ x => x.elim) fun _ _ => rfl

set_option maxRecDepth 100000 in
set_option maxHeartbeats 2000000 in
theorem do_append (w : World) (base b : Nat) (ρ : Nat → Option Name) (es : Files) (c : Change) (vb : Value) (h : FM w base b ρ es) (hkind : c.kind = 0) (hb : Bs w vb c.bytes) (hs : c.name.size ≤ maxLen) (hl : es.length < maxLen)
    (hlen : (old es (nm c.name)).length + c.bytes.length ≤ 140737488355328) :
    Calls Try.prog 35 #[.map (some b), chg c vb] w (DoPost base b ρ w (doit es c)) := by
  unfold chg
  rw [hkind]
  obtain ⟨W0, hW0⟩ : ∃ W0, W0 = (w.alloc (.cells #[.int .i64 0, .string c.name, .string c.to, vb, .int .i64 (c.size : Int)] 59)).drew := ⟨_, rfl⟩
  have k0 : Kp No w W0 := by rw [hW0]; exact ((Kp.refl No w).alloc _).drew
  have h0 : FM W0 base b ρ es := by rw [hW0]; exact fm_drew (fm_alloc h _)
  have c1 : W0.cell? ⟨w.heap.size, 1, none⟩ = some (.string c.name) := by rw [hW0]; simp
  have c3 : W0.cell? ⟨w.heap.size, 3, none⟩ = some vb := by rw [hW0]; simp
  have hbase : base ≤ W0.heap.size := Nat.le_trans h0.2.2.1 (Nat.le_of_lt h0.lt)
  obtain ⟨v, hrow', hlook⟩ := h.look hs
  have hrow := hrow'.kept k0 (ρ' := ρ) (fun _ _ => id) fun _ _ _ => rfl
  have hlk := (hlook W0 k0).1
  have hvq : ∀ g, v.ownBlock = some g → g < w.heap.size := fun g hg => (hrow'.1.lt g hg).2
  have hbs := bs_no hb k0
  obtain ⟨v1, w1, hr1, happ⟩ := run_append_bs W0 26 base v _ hrow.1 vb c.bytes hbs hlen hbase
  have k1 : Kp (fun k => some k = v.ownBlock) W0 w1 := app_kept0 happ fun k _ e => e.symm
  obtain ⟨ρ1, hρ1⟩ : ∃ ρ1 : Nat → Option Name, ρ1 = fun k => if k < W0.heap.size then ρ k else some (nm c.name) := ⟨_, rfl⟩
  have hold : ∀ k, k < W0.heap.size → ρ1 k = ρ k := fun k hk => by rw [hρ1]; simp [hk]
  have hnew : ∀ k, ¬ k < W0.heap.size → ρ1 k = some (nm c.name) := fun k hk => by rw [hρ1]; simp [hk]
  have h1 : FMx (some (nm c.name)) w1 base b ρ1 es := (FMx.weak h0 (nm c.name)).kept k1 (fun k hk e => by
    have hr := hrow.2 k e.symm
    refine ⟨fun e2 => ?_, fun n hn => by rw [hr] at hn; exact hn⟩
    rw [e2, h0.2.1] at hr
    cases hr) hold
  have hrow1 : RowOf w1 base ρ1 v1 (nm c.name) (old es (nm c.name) ++ c.bytes) := by
    refine ⟨happ.1, fun g hg => ?_⟩
    rcases happ.2.2.2 with e | e
    · rw [e] at hg
      rw [hold g (hrow.1.lt g hg).2]
      exact hrow.2 g hg
    · rw [e] at hg
      exact hnew g (by simp at hg; omega)
  obtain ⟨w2, hr2, hfm2, k2⟩ := h1.store hs hl hrow1
  have hq : w.heap.size < W0.heap.size := by rw [hW0]; simp
  have hfin : DoPost base b ρ w (doit es c) (.returned (.tuple #[])) w2 := by
    refine ⟨rfl, ρ1, ?_, ?_, fun k hk hh => by rw [hold k (by omega)] at hh; exact hh⟩
    · unfold doit; rw [hkind]; exact hfm2
    · have k01 : Kp (fun k => k = b ∨ (ρ k).isSome = true) w w1 := k0.to.trans k1 fun i hi e => Or.inr (by rw [hrow.2 i e.symm]; rfl)
      exact k01.trans k2 fun i hi e => Or.inl e
  have HF := Hid_mk hfin
  have d1 : w1.cell? ⟨w.heap.size, 1, none⟩ = some (.string c.name) := k1.cell' c1 (fun e => by have := hvq _ e.symm; simp only at this; omega)
  have d3 : w1.cell? ⟨w.heap.size, 3, none⟩ = some vb := k1.cell' c3 (fun e => by have := hvq _ e.symm; simp only at this; omega)
  have hbq : ¬ w.heap.size = b := by have := h.lt; omega
  have e1 : w2.cell? ⟨w.heap.size, 1, none⟩ = some (.string c.name) := k2.cell' d1 hbq
  have e3 : w2.cell? ⟨w.heap.size, 3, none⟩ = some vb := k2.cell' d3 hbq
  clear hfin hfm2 k2 h1 k1 happ hbs h0 k0 hbase hlook hrow' hrow hvq hnew hold hρ1 hrow1 hb hs hl hlen hq hbq
  subst hW0
  go_enter Try.func35, Try.ntmps35
  go_wp2
  go_region_held3 (fun W => W.cell? ⟨w.heap.size, 1, none⟩ = some (.string c.name) ∧ W.cell? ⟨w.heap.size, 3, none⟩ = some vb)
    (first
      | go_keep
      | (dsimp only; exact ⟨d1, d3⟩)
      | (dsimp only; exact ⟨e1, e3⟩))
    (refine step_append_run rfl _ _ _ _ rfl hr1 ?_)
  go_wp2
  go_end0
  exact HF.out

theorem owns_take {w : World} {base g n cap k : Nat} {xs : List Value} (h : w.ownsRow base 5 1 (.slice (some ⟨g, 0, none⟩) n cap) n xs) (hk : k ≤ n) : w.ownsRow base 5 1 (.slice (some ⟨g, 0, none⟩) k cap) k (xs.take k) := by
  have hl := h.1
  refine ⟨by rw [List.length_take]; omega, ?_⟩
  rcases h.2 with ⟨e, _⟩ | ⟨g', cap', cur, e, hb, hg, r1, r2, r3, r4⟩
  · cases e
  · cases e
    refine .inr ⟨g, cap, cur, rfl, hb, hg, by omega, r2, r3, ?_⟩
    rw [← r4, List.take_take]
    congr 1
    omega

theorem row_take {w : World} {base g n cap k : Nat} {ρ : Nat → Option Name} {nn : Name} {bs : List UInt8} (h : RowOf w base ρ (.slice (some ⟨g, 0, none⟩) n cap) nn bs) (hn : n = bs.length) (hk : k ≤ n) : RowOf w base ρ (.slice (some ⟨g, 0, none⟩) k cap) nn (bs.take k) := by
  subst hn
  have ho := owns_take h.1 hk
  have e : (bs.take k).length = k := by rw [List.length_take]; omega
  refine ⟨by rw [e, List.map_take]; exact ho, h.2⟩

set_option maxRecDepth 100000 in
set_option maxHeartbeats 2000000 in
theorem do_trunc (w : World) (base b : Nat) (ρ : Nat → Option Name) (es : Files) (c : Change) (vb : Value) (h : FM w base b ρ es) (hkind : c.kind = 1) (hs : c.name.size ≤ maxLen) (hl : es.length < maxLen)
    (hsz : c.size ≤ (old es (nm c.name)).length) :
    Calls Try.prog 35 #[.map (some b), chg c vb] w (DoPost base b ρ w (doit es c)) := by
  unfold chg
  rw [hkind]
  obtain ⟨W0, hW0⟩ : ∃ W0, W0 = (w.alloc (.cells #[.int .i64 1, .string c.name, .string c.to, vb, .int .i64 (c.size : Int)] 59)).drew := ⟨_, rfl⟩
  have k0 : Kp No w W0 := by rw [hW0]; exact ((Kp.refl No w).alloc _).drew
  have h0 : FM W0 base b ρ es := by rw [hW0]; exact fm_drew (fm_alloc h _)
  have c1 : W0.cell? ⟨w.heap.size, 1, none⟩ = some (.string c.name) := by rw [hW0]; simp
  have c4 : W0.cell? ⟨w.heap.size, 4, none⟩ = some (.int .i64 (c.size : Int)) := by rw [hW0]; simp
  obtain ⟨v, hrow', hlook⟩ := h.look hs
  have hrow := hrow'.kept k0 (ρ' := ρ) (fun _ _ => id) fun _ _ _ => rfl
  have hlk := (hlook W0 k0).1
  have hbq : ¬ w.heap.size = b := by have := h.lt; omega
  obtain ⟨v1, hv1, hv2⟩ : ∃ v1, RowOf W0 base ρ v1 (nm c.name) ((old es (nm c.name)).take c.size) ∧
      ((v = .slice none 0 0 ∧ c.size = 0 ∧ v1 = .slice none 0 0) ∨ ∃ g n cap, v = .slice (some ⟨g, 0, none⟩) n cap ∧ c.size ≤ n ∧ n ≤ cap ∧ cap ≤ maxLen ∧ v1 = .slice (some ⟨g, 0, none⟩) c.size cap) := by
    rcases owns_any hrow.1 with ⟨rfl, e⟩ | ⟨g, cap, rfl, hg1, hg2, hg3, hg4⟩
    · have e0 : c.size = 0 := by omega
      have e1 : old es (nm c.name) = [] := List.eq_nil_of_length_eq_zero e
      refine ⟨.slice none 0 0, ?_, .inl ⟨rfl, e0, rfl⟩⟩
      rw [e1, List.take_nil]
      exact ⟨World.ownsRow_nil _ _ _ _, fun g hg => by simp [Value.ownBlock] at hg⟩
    · exact ⟨_, row_take hrow rfl hsz, .inr ⟨g, _, cap, rfl, hsz, hg3, hg4, rfl⟩⟩
  obtain ⟨w2, hr2, hfm2, k2⟩ := (FMx.weak h0 (nm c.name)).store hs hl hv1
  have hfin : DoPost base b ρ w (doit es c) (.returned (.tuple #[])) w2 := by
    refine ⟨rfl, ρ, ?_, k0.to.trans k2 fun i hi e => Or.inl e, fun k hk hh => hh⟩
    unfold doit; rw [hkind]; exact hfm2
  have HF := Hid_mk hfin
  have e1 : w2.cell? ⟨w.heap.size, 1, none⟩ = some (.string c.name) := k2.cell' c1 hbq
  have e4 : w2.cell? ⟨w.heap.size, 4, none⟩ = some (.int .i64 (c.size : Int)) := k2.cell' c4 hbq
  have hs0 : (0 : Int) ≤ (c.size : Int) := Int.natCast_nonneg _
  clear hfin hfm2 k2 h0 k0 hlook hrow' hrow hv1 hs hl hbq hsz
  rcases hv2 with ⟨rfl, hz, rfl⟩ | ⟨g, n, cap, rfl, hn1, hn2, hn3, rfl⟩
  · have hz2 : ((c.size : Nat) : Int) = 0 := by omega
    rw [hz2] at hW0 c4 e4 ⊢
    clear hz2 hz hs0
    subst hW0
    go_enter Try.func35, Try.ntmps35
    go_wp2
    go_region_held3 (fun W => W.cell? ⟨w.heap.size, 1, none⟩ = some (.string c.name) ∧ W.cell? ⟨w.heap.size, 4, none⟩ = some (.int .i64 0))
      (first
        | go_keep
        | (dsimp only; exact ⟨e1, e4⟩))
      (fail)
    go_wp2
    go_end0
    exact HF.out
  · subst hW0
    unfold maxLen at hn3
    have hi1 : (c.size : Int) ≤ (cap : Int) := by omega
    go_enter Try.func35, Try.ntmps35
    go_wp2
    go_region_held3 (fun W => W.cell? ⟨w.heap.size, 1, none⟩ = some (.string c.name) ∧ W.cell? ⟨w.heap.size, 4, none⟩ = some (.int .i64 (c.size : Int)))
      (first
        | go_keep
        | (dsimp only; exact ⟨e1, e4⟩))
      (fail)
    go_wp2
    go_end0
    exact HF.out

set_option maxRecDepth 100000 in
set_option maxHeartbeats 2000000 in
theorem do_rename (w : World) (base b : Nat) (ρ : Nat → Option Name) (es : Files) (c : Change) (vb : Value) (h : FM w base b ρ es) (hkind : c.kind = 2) (hs : c.name.size ≤ maxLen) (hst : c.to.size ≤ maxLen) (hl : es.length < maxLen) :
    Calls Try.prog 35 #[.map (some b), chg c vb] w (DoPost base b ρ w (doit es c)) := by
  unfold chg
  rw [hkind]
  obtain ⟨W0, hW0⟩ : ∃ W0, W0 = w.alloc (.cells #[.int .i64 2, .string c.name, .string c.to, vb, .int .i64 (c.size : Int)] 59) := ⟨_, rfl⟩
  have k0 : Kp No w W0 := by rw [hW0]; exact (Kp.refl No w).alloc _
  have h0 : FM W0 base b ρ es := by rw [hW0]; exact fm_alloc h _
  have c1 : W0.cell? ⟨w.heap.size, 1, none⟩ = some (.string c.name) := by rw [hW0]; simp
  have c2 : W0.cell? ⟨w.heap.size, 2, none⟩ = some (.string c.to) := by rw [hW0]; simp
  obtain ⟨v, hrow', hlook⟩ := h.look hs
  have hrow := hrow'.kept k0 (ρ' := ρ) (fun _ _ => id) fun _ _ _ => rfl
  have hlk := (hlook W0 k0).1
  have hbq : ¬ w.heap.size = b := by have := h.lt; omega
  obtain ⟨w1, hr1, hfm1, k1⟩ := h0.drop hs 0
  obtain ⟨ρ1, hρ1⟩ : ∃ ρ1 : Nat → Option Name, ρ1 = fun k => if ρ k = some (nm c.name) then some (nm c.to) else ρ k := ⟨_, rfl⟩
  have h1 : FMx (some (nm c.to)) w1 base b ρ1 (drop es (nm c.name)) := by
    obtain ⟨q1, q2, q3, val, q4, q5⟩ := hfm1
    refine ⟨q1, by rw [hρ1]; simp [q2], q3, val, q4, fun e he _ => ⟨(q5 e he (by simp)).1, fun g hg => ?_⟩⟩
    have hr := (q5 e he (by simp)).2 g hg
    have hne := (mem_drop.1 he).2
    rw [hρ1]
    simp only
    rw [hr, if_neg (fun e9 => hne (Option.some.inj e9))]
  have hrow1 : RowOf w1 base ρ1 v (nm c.to) (old es (nm c.name)) := by
    refine ⟨owns_kept hrow.1 k1 (fun g hg e => ?_), fun g hg => ?_⟩
    · have := hrow.2 g hg
      rw [e, h0.2.1] at this
      cases this
    · rw [hρ1]
      simp only
      rw [hrow.2 g hg, if_pos rfl]
  have hl1 : (drop es (nm c.name)).length < maxLen := Nat.lt_of_le_of_lt (List.length_filter_le _ _) hl
  obtain ⟨w2, hr2, hfm2, k2⟩ := h1.store hst hl1 hrow1
  have hfin : DoPost base b ρ w (doit es c) (.returned (.tuple #[])) w2 := by
    refine ⟨rfl, ρ1, ?_, (k0.to.trans k1 fun i hi e => Or.inl e).trans k2 fun i hi e => Or.inl e, fun k hk hh => ?_⟩
    · unfold doit; rw [hkind]; exact hfm2
    · rw [hρ1] at hh
      simp only at hh
      split at hh
      · rename_i h9; rw [h9]; rfl
      · exact hh
  have HF := Hid_mk hfin
  have d1 : w1.cell? ⟨w.heap.size, 1, none⟩ = some (.string c.name) := k1.cell' c1 hbq
  have d2 : w1.cell? ⟨w.heap.size, 2, none⟩ = some (.string c.to) := k1.cell' c2 hbq
  clear hfin hfm2 k2 h0 k0 hlook hrow' hrow hs hst hl hbq h1 hrow1 hl1 k1 hfm1 hρ1
  subst hW0
  go_enter Try.func35, Try.ntmps35
  go_wp2_with (at_delete; refine wpList_delete_run rfl _ _ _ _ rfl hr1 ?_)
  go_end0
  exact HF.out

set_option maxRecDepth 100000 in
set_option maxHeartbeats 2000000 in
theorem do_remove (w : World) (base b : Nat) (ρ : Nat → Option Name) (es : Files) (c : Change) (vb : Value) (h : FM w base b ρ es) (hkind : c.kind = 3) (hs : c.name.size ≤ maxLen) :
    Calls Try.prog 35 #[.map (some b), chg c vb] w (DoPost base b ρ w (doit es c)) := by
  unfold chg
  rw [hkind]
  obtain ⟨W0, hW0⟩ : ∃ W0, W0 = w.alloc (.cells #[.int .i64 3, .string c.name, .string c.to, vb, .int .i64 (c.size : Int)] 59) := ⟨_, rfl⟩
  have k0 : Kp No w W0 := by rw [hW0]; exact (Kp.refl No w).alloc _
  have h0 : FM W0 base b ρ es := by rw [hW0]; exact fm_alloc h _
  have c1 : W0.cell? ⟨w.heap.size, 1, none⟩ = some (.string c.name) := by rw [hW0]; simp
  obtain ⟨w1, hr1, hfm1, k1⟩ := h0.drop hs 0
  have hfin : DoPost base b ρ w (doit es c) (.returned (.tuple #[])) w1 := by
    refine ⟨rfl, ρ, ?_, k0.to.trans k1 fun i hi e => Or.inl e, fun k hk hh => hh⟩
    unfold doit; rw [hkind]; exact hfm1
  have HF := Hid_mk hfin
  clear hfin hfm1 h0 k0 hs k1
  subst hW0
  go_enter Try.func35, Try.ntmps35
  go_wp2_with (at_delete; refine wpList_delete_run rfl _ _ _ _ rfl hr1 ?_)
  go_end0
  exact HF.out

/-- Whatever is done that may be. -/
theorem do_any (w : World) (base b : Nat) (ρ : Nat → Option Name) (es : Files) (c : Change) (vb : Value) (h : FM w base b ρ es) (hf : c.fits es) (hb : Bs w vb c.bytes) (hs : c.name.size ≤ maxLen) (hst : c.to.size ≤ maxLen) (hl : es.length < maxLen)
    (hlen : c.kind = 0 → (old es (nm c.name)).length + c.bytes.length ≤ 140737488355328) :
    Calls Try.prog 35 #[.map (some b), chg c vb] w (DoPost base b ρ w (doit es c)) := by
  obtain ⟨h4, h1⟩ := hf
  have : c.kind = 0 ∨ c.kind = 1 ∨ c.kind = 2 ∨ c.kind = 3 := by omega
  rcases this with e | e | e | e
  · exact do_append w base b ρ es c vb h e hb hs hl (hlen e)
  · exact do_trunc w base b ρ es c vb h e hs hl (h1 e)
  · exact do_rename w base b ρ es c vb h e hs hst hl
  · exact do_remove w base b ρ es c vb h e hs

end Go.Proofs.Ytmehneicdklfeaa.fsDo

namespace Go.Proofs.Ytmehneicdklfeaa.known
open Go.RowKit Go.Proofs.Ytmehneicdklfeaa.sum Go.Proofs.Ytmehneicdklfeaa.kept Go.Proofs.Ytmehneicdklfeaa.app Go.Proofs.Ytmehneicdklfeaa.writer Go.Proofs.Ytmehneicdklfeaa.clone
set_option linter.unusedVariables false

/-- bytes as a text -/
theorem conv_bs {w : World} {v : Value} {bs : List UInt8} (h : Bs w v bs) : (convert 26 9 v).run Try.prog w = .ok (.string ⟨bs.toArray⟩) w := by
  obtain ⟨a, cap, rfl, h1, h2, h3⟩ := h
  by_cases hbs : bs = []
  · subst hbs
    cases a with
    | none => exact run_convert_bytes_nil w 26 5 Try.underlying26 Try.underlying5 _ _ _ Try.underlying9
    | some ad => exact run_convert_bytes_back w 26 9 5 ad cap [] Try.underlying26 Try.underlying5 Try.underlying9 (fun j hj => by simp at hj)
  · obtain ⟨b, o, rfl, hc⟩ := h3 hbs
    refine run_convert_bytes_back w 26 9 5 ⟨b, o, none⟩ cap bs Try.underlying26 Try.underlying5 Try.underlying9 (fun j hj => ?_)
    rw [addr_add, hc j hj]
    simp [B, List.getD, hj]

/-- a literal of bytes, as laid by the call -/
theorem bs_lit (w : World) (bs : List UInt8) (fr : Nat × Nat) (hl : bs.length ≤ maxLen) : Bs (w.alloc (.cells (bs.map B).toArray 5 fr)) (.slice (some ⟨w.heap.size, 0, none⟩) bs.length bs.length) bs := by
  refine ⟨_, _, rfl, Nat.le_refl _, hl, fun _ => ⟨_, _, rfl, fun k hk => ?_⟩⟩
  rw [World.cell?_alloc_mark]
  simp [List.getD, hk]

end Go.Proofs.Ytmehneicdklfeaa.known

namespace Go.Proofs.Ytmehneicdklfeaa.unseal
open Go.RowKit Go.Proofs.Ytmehneicdklfeaa.sum Go.Proofs.Ytmehneicdklfeaa.kept Go.Proofs.Ytmehneicdklfeaa.app Go.Proofs.Ytmehneicdklfeaa.writer Go.Proofs.Ytmehneicdklfeaa.clone Go.Proofs.Ytmehneicdklfeaa.known
set_option linter.unusedVariables false

/-- behind a draw everything reads as before -/
theorem bs_drewN {w : World} {v : Value} {bs : List UInt8} (n : Nat) (h : Bs w v bs) : Bs (w.drewN n) v bs := bs_no h ((Kp.refl _ _).drewN n)

/-- a cut of a slice of bytes -/
theorem bs_take {w : World} {b : Option Addr} {len cap : Nat} {bs : List UInt8} (h : Bs w (.slice b len cap) bs) (k : Nat) (hk : k ≤ len) : Bs w (.slice b k cap) (bs.take k) := by
  obtain ⟨a, c, e, h1, h2, h3⟩ := h
  simp only [Value.slice.injEq] at e
  obtain ⟨rfl, rfl, rfl⟩ := e
  refine ⟨b, cap, by rw [List.length_take, Nat.min_eq_left hk], by rw [List.length_take]; omega, h2, fun hne => ?_⟩
  obtain ⟨B, o, rfl, hc⟩ := h3 (by intro e; subst e; simp at hne)
  refine ⟨B, o, rfl, fun i hi => ?_⟩
  rw [List.length_take] at hi
  rw [hc i (by omega)]
  simp [List.getD, show i < k by omega]

theorem bs_drop {w : World} {b o len cap : Nat} {bs : List UInt8} (h : Bs w (.slice (some ⟨b, o, none⟩) len cap) bs) (k : Nat) (hk : k ≤ len) (ao : Option Addr) (hao : ¬ k = cap → ao = some ⟨b, o + k, none⟩) : Bs w (.slice ao (len - k) (cap - k)) (bs.drop k) := by
  obtain ⟨a, c, e, h1, h2, h3⟩ := h
  simp only [Value.slice.injEq] at e
  obtain ⟨rfl, rfl, rfl⟩ := e
  refine ⟨ao, _, by rw [List.length_drop], by rw [List.length_drop]; omega, by omega, fun hne => ?_⟩
  have hlt : k < bs.length := by
    rcases Nat.lt_or_ge k bs.length with h | h
    · exact h
    · rw [List.drop_of_length_le h] at hne; exact absurd rfl hne
  obtain ⟨B, o', e, hc⟩ := h3 (by intro e; subst e; simp at hlt)
  cases e
  refine ⟨_, _, hao (by omega), fun i hi => ?_⟩
  rw [List.length_drop] at hi
  rw [Nat.add_assoc, hc (k + i) (by omega)]
  simp [List.getD]

end Go.Proofs.Ytmehneicdklfeaa.unseal

namespace Go.Proofs.Ytmehneicdklfeaa.r2
open Go.RowKit Go.Maps Go.Proofs.Ytmehneicdklfeaa.sum Go.Proofs.Ytmehneicdklfeaa.kept Go.Proofs.Ytmehneicdklfeaa.app Go.Proofs.Ytmehneicdklfeaa.writer Go.Proofs.Ytmehneicdklfeaa.clone Go.Proofs.Ytmehneicdklfeaa.fs Go.Proofs.Ytmehneicdklfeaa.fsDo Go.Proofs.Ytmehneicdklfeaa.unseal
set_option linter.unusedVariables false

theorem get_place {l : List Fv} (hr : Rising (files l)) {n : ByteArray} {k : Nat} (hk : k < l.length) (h : l[k].1 = n) : old (files l) (nm n) = l[k].2.2 := by
  have : fs.get (files l) (nm n) = some l[k].2.2 := (get_some hr).2 (by
    unfold files
    refine List.mem_map.2 ⟨l[k], List.getElem_mem hk, ?_⟩
    rw [h])
  unfold old
  rw [this]
  rfl
theorem get_noplace {l : List Fv} {n : ByteArray} (h : ∀ j (h : j < l.length), l[j].1 ≠ n) : fs.get (files l) (nm n) = none := get_none.2 fun p hp => by
  obtain ⟨q, hq, rfl⟩ := List.mem_map.1 hp
  obtain ⟨j, hj, rfl⟩ := List.getElem_of_mem hq
  exact fun e => h j hj (nm_inj e)
theorem place_cases (l : List Fv) (n : ByteArray) : (∃ k, ∃ h : k < l.length, l[k].1 = n ∧ place l n = (k : Int)) ∨ ((∀ j (h : j < l.length), l[j].1 ≠ n) ∧ place l n = -1) := by
  by_cases h : ∃ k, ∃ h : k < l.length, l[k].1 = n
  · obtain ⟨k, hk, he⟩ := h
    cases hp : at? l n with
    | none =>
      unfold at? at hp
      rw [List.findIdx?_eq_none_iff] at hp
      have := hp l[k] (List.getElem_mem hk)
      simp [he] at this
    | some j =>
      have hp2 := hp
      unfold at? at hp
      rw [List.findIdx?_eq_some_iff_getElem] at hp
      obtain ⟨hj, h1, -⟩ := hp
      exact .inl ⟨j, hj, by simpa using h1, by unfold place; rw [hp2]⟩
  · have h2 : ∀ j (h : j < l.length), l[j].1 ≠ n := fun j hj e => h ⟨j, hj, e⟩
    exact .inr ⟨h2, place_none h2⟩

theorem app_some {base : Nat} {w w' : World} {b n c : Nat} {bs cs : List UInt8} {v' : Value} (h : App base w (.slice (some ⟨b, 0, none⟩) n c) bs cs v' w') : ∃ g cap, v' = .slice (some ⟨g, 0, none⟩) (bs ++ cs).length cap ∧ (g = b ∨ g = w.heap.size) := by
  obtain ⟨h1, h2, h3, h4⟩ := h
  rcases h1.2 with ⟨e, h0⟩ | ⟨g, cap, cur, rfl, _⟩
  · have := h3.1 e
    simp at this
  · refine ⟨g, cap, rfl, ?_⟩
    simp [Value.ownBlock] at h4
    exact h4

theorem app_new {base : Nat} {w w' : World} {b n c : Nat} {cs : List UInt8} {v' : Value} (h : App base w (.slice (some ⟨b, 0, none⟩) n c) [] cs v' w') : ∃ g cap, v' = .slice (some ⟨g, 0, none⟩) cs.length cap ∧ w'.ownsRow base 5 1 v' cs.length (cs.map B) := by
  obtain ⟨g, cap, e, -⟩ := app_some h
  exact ⟨g, cap, e, by simpa using h.1⟩

theorem step_append_bs (w : World) {ops : Array Oper} {o : Oper} {a : Act} {K : Act → World → Prop} {Q : Exit → Act → World → Prop} {E : Prop} (hgd : o.guard = none) (s x : Operand)
    (ho : o.op = .call { callee := .builtin .append, args := #[s, x], argTypes := #[26, 26] })
    (base : Nat) (v : Value) (bs : List UInt8) (hs : a.eval s = v) (hown : w.ownsRow base 5 1 v bs.length (bs.map B)) (xv : Value) (cs : List UInt8) (hx : a.eval x = xv) (hxs : Bs w xv cs)
    (hb : bs.length + cs.length ≤ 140737488355328) (hbase : base ≤ w.heap.size)
    (h : ∀ v' w', App base w v bs cs v' w' → K (a.put o.dst v') w') : if Region.wanted o (yielded ops a.tmps) = true then Oper.wp Try.prog o a w K Q else E := by
  have hw : Region.wanted o (yielded ops a.tmps) = true := by simp [Region.wanted, hgd]
  rw [if_pos hw]
  obtain ⟨v', w', hr, h2⟩ := run_append_bs w o.type base v bs hown xv cs hxs hb hbase
  unfold Oper.wp execOp
  simp only [ho, resolve, invoke, builtin, Sem.run_bind, Sem.run_pure, Result.andThen_ok, List.map_toArray, List.map_cons, List.map_nil, hs, hx, hr]
  exact h v' w' h2

/-- a slice that lies at b or above, or nowhere -/
def Off (b : Nat) (y : Value) : Prop := ∀ x o m c, y = .slice (some ⟨x, o, none⟩) m c → b ≤ x
theorem off_nil (b n c : Nat) : Off b (.slice none n c) := fun x o m c e => by cases e
theorem off_at {b g o n c : Nat} (h : b ≤ g) : Off b (.slice (some ⟨g, o, none⟩) n c) := fun x o m c e => by cases e; exact h
theorem off_owns {w : World} {base b : Nat} {e : TypeId} {size : Nat} {v : Value} {n : Nat} {xs : List Value} (h : w.ownsRow base e size v n xs) (hb : b ≤ base) : Off b v := by
  rcases owns_any h with ⟨rfl, -⟩ | ⟨g, cap, rfl, hg, -⟩
  · exact off_nil _ _ _
  · exact off_at (Nat.le_trans hb hg)
/-- new, or of those that were there -/
def Newly (b : Nat) (l : List Fv) (v' : Value) (l' : List Fv) : Prop := Off b v' ∧ ∀ q ∈ l', q ∈ l ∨ Off b q.2.1
end Go.Proofs.Ytmehneicdklfeaa.r2

namespace Go.Proofs.Ytmehneicdklfeaa.fsUsed
open Go.RowKit Go.Maps Go.Proofs.Ytmehneicdklfeaa.sum Go.Proofs.Ytmehneicdklfeaa.kept Go.Proofs.Ytmehneicdklfeaa.app Go.Proofs.Ytmehneicdklfeaa.writer Go.Proofs.Ytmehneicdklfeaa.clone Go.Proofs.Ytmehneicdklfeaa.fs Go.Proofs.Ytmehneicdklfeaa.fsMem Go.Proofs.Ytmehneicdklfeaa.fsDo
set_option linter.unusedVariables false

/-- those that are no longer to come -/
def gone (es : Files) (left : Lit → Bool) : Files := es.filter fun e => !left (.string e.1)

theorem gone_start {es : Files} {left : Lit → Bool} (h : ∀ e ∈ es, left (.string e.1) = true) : gone es left = [] := by
  unfold gone
  rw [List.filter_eq_nil_iff]
  intro e he
  simp [h e he]
theorem gone_end {es : Files} {left : Lit → Bool} (h : ∀ k, left k = false) : gone es left = es := by
  unfold gone
  rw [List.filter_eq_self]
  intro e he
  simp [h]
theorem gone_step {es : Files} (hr : Rising es) {left : Lit → Bool} {n : Name} {bs : List UInt8} (hm : (n, bs) ∈ es) (hl : left (.string n) = true) :
    gone es (fun z => left z && !z.sameKey (.string n)) = put (gone es left) n bs := by
  refine eq_of_mem (List.Pairwise.filter _ hr) (Rising.put (List.Pairwise.filter _ hr) n bs) fun p => ?_
  rw [mem_put]
  simp only [gone, List.mem_filter, Bool.not_and, Bool.not_not, sameKey_str, Bool.or_eq_true, Bool.not_eq_true', beq_iff_eq]
  constructor
  · rintro ⟨hp, h | h⟩
    · right
      refine ⟨⟨hp, h⟩, fun e => ?_⟩
      rw [e, hl] at h
      cases h
    · left
      have h1 := (get_some hr).2 hp
      have h2 := (get_some hr).2 hm
      have e : p.1 = n := h
      rw [show p = (p.1, p.2) from rfl, e] at hp ⊢
      have h1 := (get_some hr).2 hp
      rw [h1] at h2
      injection h2 with h2
      rw [h2]
  · rintro (rfl | ⟨⟨hp, h⟩, hne⟩)
    · exact ⟨hm, .inr rfl⟩
    · exact ⟨hp, .inl h⟩
theorem gone_get {es : Files} {left : Lit → Bool} {n : Name} (hl : left (.string n) = true) : fs.get (gone es left) n = none := by
  rw [get_none]
  intro p hp e
  simp only [gone, List.mem_filter] at hp
  rw [e, hl] at hp
  simp at hp
theorem used_gone {es : Files} (hr : Rising es) {left : Lit → Bool} {n : Name} {bs : List UInt8} (hm : (n, bs) ∈ es) (hl : left (.string n) = true) :
    used (gone es (fun z => left z && !z.sameKey (.string n))) = used (gone es left) + bs.length := by
  rw [gone_step hr hm hl]
  have this : used (put (gone es left) n bs) + ((fs.get (gone es left) n).getD []).length = used (gone es left) + bs.length := used_put (List.Pairwise.filter _ hr) n bs
  rw [gone_get hl] at this
  simpa using this
theorem used_le (es : Files) (left : Lit → Bool) : used (gone es left) ≤ used es := by
  unfold used gone
  induction es with
  | nil => simp
  | cons y r ih =>
    rw [List.filter_cons]
    split
    · simp only [List.map_cons, List.sum_cons]; omega
    · simp only [List.map_cons, List.sum_cons]; omega

theorem key_inv {key : Value} {kl : Lit} (h : keyOf Try.prog 9 key = some kl) : ∃ s : ByteArray, key = .string s := by
  cases key <;> simp [keyOf, Try.underlying9, mapKey] at h
  exact ⟨_, rfl⟩
theorem key_inv2 {s : ByteArray} {kl : Lit} (h : keyOf Try.prog 9 (.string s) = some kl) : kl = .string (nm s) ∧ s.size ≤ maxLen := by
  simp [keyOf, Try.underlying9, mapKey] at h
  exact ⟨h.2.symm, h.1⟩

/-- what comes out of the range is one of the files -/
theorem entry_of {val : Name → Value} {es : Files} (hr : Rising es) {n : Name} {c : Value} {y : DataW Value × List MemPlace} (hy : raw c = some y) (hat : ∀ zd, (dat val es).atKey (.string n) zd = y.1) : c = val n ∧ ∃ bs, (n, bs) ∈ es := by
  obtain rfl : (DataW.held c, []) = y := Option.some.inj hy
  have h1 := hat .nil
  rw [dat_at] at h1
  split at h1
  · rename_i hh
    refine ⟨(DataW.held.inj h1).symm, ?_⟩
    obtain ⟨bs, hb⟩ := Option.isSome_iff_exists.1 hh
    exact ⟨bs, (get_some hr).1 hb⟩
  · cases h1

def URel (w : World) (b r : Nat) (val : Name → Value) (es : Files) (t : Value) (wr : World) : Prop :=
  ∃ left cnt, wr.ranges Try.prog 9 raw b r es.length (dat val es) left cnt ∧ t = .int .i64 (used (gone es left) : Int) ∧ Kp No w wr

set_option maxRecDepth 100000 in
set_option maxHeartbeats 4000000 in
theorem used_any (w : World) (base b : Nat) (ρ : Nat → Option Name) (es : Files) (h : FM w base b ρ es) (hu : used es ≤ 140737488355328) :
    Calls Try.prog 33 #[.map (some b)] w fun e w' => e = .returned (.int .i64 (used es : Int)) ∧ Kp No w w' := by
  obtain ⟨h1, h2, h3, val, h4, h5⟩ := h
  have hlt := h4.lt
  have HR := Hid_mk h1
  have H5 := Hid_mk h5
  clear h5 h2 h3
  go_enter Try.func33, Try.ntmps33
  go_wp2_with (at_range; refine wpList_range_own _ rfl _ 41 rfl 9 26 law Try.underlying41 _ b es.length _ rfl h4 ?_; intro w0 hrg0 hg0 hs0)
  go_frame
  have HK0 := Hid_mk (show Kp No w w0 from ⟨hg0.os, hg0.tape, hg0.output, hg0.size, fun k hk _ => hg0.block k hk (by simp)⟩)
  have HG0 := Hid_mk hrg0
  clear hrg0 hg0 h1
  go_loopw [3, 5] (fun t u wr => URel w b w.heap.size val es t wr) (fun _ _ wr => wr.rangeLeft b w.heap.size)
  case atStart =>
    refine ⟨_, _, HG0.out, ?_, HK0.out⟩
    rw [gone_start (fun e he => by rw [dat_has, (get_some HR.out).2 (show (e.1, e.2) ∈ es from he)]; rfl)]
    rfl
  case round =>
    obtain ⟨left, cnt, hrg, rfl, hk⟩ := hrel
    have HK := Hid_mk hk
    have HRG := Hid_mk hrg
    have hul := used_le es left
    clear hk hrg
    go_wp2_with (at_next; refine wpList_next_ranges _ rfl _ rfl 9 law raw Value.string (fun v : Value => v) (fun key kl hk => key_inv hk) (fun v y _ => ⟨v, rfl⟩) b w.heap.size es.length (dat val es) left cnt rfl HRG.out ?_ ?_)
    · intro _ hl0
      have e := gone_end (es := es) hl0
      rw [e] at *
      go_wp2
      go_ret
      exact ⟨rfl, HK.out⟩
    · intro x c kl ya yb w1 cnt1 hkx hlx hy hat hrg1 hlt1 hg1 hs1 hen
      obtain ⟨rfl, hxs⟩ := key_inv2 hkx
      obtain ⟨rfl, bs, hm⟩ := entry_of (y := (ya, yb)) HR.out hy hat
      have hk1 : Kp No w w1 := HK.out.grown hg1 fun k hk e => by have := Option.some.inj e; omega
      have hrow := H5.out _ hm (by simp)
      have hug := used_gone HR.out hm hlx
      have hul1 := used_le es (fun z => left z && !z.sameKey (.string (nm x)))
      obtain ⟨a, cap, hv, -, -, -⟩ := owns_bs hrow.1
      simp only at hv
      rw [hv] at hen ⊢
      have hfin : URel w b w.heap.size val es (.int .i64 ((used (gone es left) : Int) + (bs.length : Int))) w1 := ⟨_, _, hrg1, by rw [hug]; rfl, hk1⟩
      have hsum : (used (gone es left) : Int) + (bs.length : Int) ≤ 140737488355328 := by rw [hug] at hul1; omega
      have HF := Hid_mk hfin
      generalize used (gone es left) = u at *
      generalize bs.length = L at *
      have HM : Hid (w1.rangeLeft b w.heap.size < wr.rangeLeft b w.heap.size) := Hid_mk (by rw [hrg1.left_eq, HRG.out.left_eq]; exact hlt1)
      clear hfin hrow hm hat hy hrg1 hg1 hkx hlx hk1 hug hv hul1
      go_wp2
      go_roundw
      case rel => exact HF.out
      case measure => exact HM.out

end Go.Proofs.Ytmehneicdklfeaa.fsUsed

namespace Go.Proofs.Ytmehneicdklfeaa.turned
open Go.RowKit Go.Proofs.Ytmehneicdklfeaa.sum Go.Proofs.Ytmehneicdklfeaa.kept Go.Proofs.Ytmehneicdklfeaa.app Go.Proofs.Ytmehneicdklfeaa.writer Go.Proofs.Ytmehneicdklfeaa.clone Go.Proofs.Ytmehneicdklfeaa.known Go.Proofs.Ytmehneicdklfeaa.unseal
set_option linter.unusedVariables false

theorem tmod_pos (n m : Int) (hm : 0 < m) : -m < n.tmod m ∧ n.tmod m < m ∧ (0 ≤ n.tmod m → n.tmod m = n % m) ∧ (n.tmod m < 0 → n.tmod m + m = n % m) := by
  have h1 := Int.tmod_lt_of_pos n hm
  have h2 := Int.tmod_lt_of_pos (-n) hm
  rw [Int.neg_tmod] at h2
  have h3 := Int.tmod_add_mul_tdiv n m
  refine ⟨by omega, h1, ?_, ?_⟩
  · intro h
    have e : n % m = (n.tmod m + m * n.tdiv m) % m := by rw [h3]
    rw [e, Int.add_mul_emod_self_left, Int.emod_eq_of_lt h h1]
  · intro h
    have e : n % m = (n.tmod m + m + m * (n.tdiv m - 1)) % m := by rw [Int.mul_sub]; congr 1; omega
    rw [e, Int.add_mul_emod_self_left, Int.emod_eq_of_lt (by omega) (by omega)]

theorem bs_set {w : World} {b o len cap : Nat} {bs : List UInt8} (h : Bs w (.slice (some ⟨b, o, none⟩) len cap) bs) (k : Nat) (hk : k < len) (y : UInt8) : Bs (w.setCell ⟨b, o + k, none⟩ (B y)) (.slice (some ⟨b, o, none⟩) len cap) (bs.set k y) := by
  obtain ⟨a, c, e, h1, h2, h3⟩ := h
  simp only [Value.slice.injEq] at e
  obtain ⟨rfl, rfl, rfl⟩ := e
  refine ⟨_, cap, by rw [List.length_set], by rw [List.length_set]; exact h1, h2, fun _ => ⟨b, o, rfl, fun i hi => ?_⟩⟩
  rw [List.length_set] at hi
  obtain ⟨b', o', e, hc⟩ := h3 (by intro e; subst e; simp at hk)
  cases e
  by_cases hik : i = k
  · subst hik
    rw [World.cell?_setCell_same w _ _ (hc i hi)]
    simp [List.getD, hi]
  · rw [World.cell?_setCell_other w _ _ _ (by simp <;> omega), hc i hi]
    simp [List.getD, List.getElem?_set, Ne.symm hik]

end Go.Proofs.Ytmehneicdklfeaa.turned
