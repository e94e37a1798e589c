/- A slice of slices of bytes: as it is read, as it is owned; one more of them. -/
import Derived.Test.YteekcbbdbciddaaGreatDoorClone
import Derived.Deep.AppendLies
import Derived.Deep.RegionHeld3

namespace Go.Proofs.YteekcbbdbciddaaGreatDoor.lst
open Go.RowKit Go.Proofs.YteekcbbdbciddaaGreatDoor.sum Go.Proofs.YteekcbbdbciddaaGreatDoor.kept Go.Proofs.YteekcbbdbciddaaGreatDoor.app Go.Proofs.YteekcbbdbciddaaGreatDoor.writer Go.Proofs.YteekcbbdbciddaaGreatDoor.clone
set_option linter.unusedVariables false

abbrev Els := List (Value × List UInt8)
def Els.vals (ps : Els) : List Value := ps.map (·.1)
def Els.texts (ps : Els) : List (List UInt8) := ps.map (·.2)
theorem vals_length (ps : Els) : ps.vals.length = ps.length := List.length_map _
theorem texts_length (ps : Els) : ps.texts.length = ps.length := List.length_map _

/-- read: a slice of these elements, each of these bytes -/
def Ls (w : World) (v : Value) (ps : Els) : Prop :=
  (∃ a cap, v = .slice a ps.length cap ∧ ps.length ≤ cap ∧ cap ≤ maxLen ∧ (ps ≠ [] → ∃ b o, a = some ⟨b, o, none⟩ ∧ ∀ k (h : k < ps.length), w.cell? ⟨b, o + k, none⟩ = some ps[k].1)) ∧ ∀ q ∈ ps, Bs w q.1 q.2

theorem Ls.no {w w' : World} {v : Value} {ps : Els} (h : Ls w v ps) (hk : Kp No w w') : Ls w' v ps := by
  obtain ⟨⟨a, cap, rfl, h1, h2, h3⟩, h4⟩ := h
  refine ⟨⟨a, cap, rfl, h1, h2, fun hne => ?_⟩, fun q hq => bs_no (h4 q hq) hk⟩
  obtain ⟨b, o, rfl, hc⟩ := h3 hne
  exact ⟨b, o, rfl, fun k hkk => hk.cell' (hc k hkk) id⟩

/-- owned: a row of one's own, each element a row of bytes of one's own -/
structure Lo (w : World) (base : Nat) (v : Value) (ps : Els) : Prop where
  row : w.ownsRow base 34 1 v ps.length ps.vals
  each : ∀ q ∈ ps, w.ownsRow base 5 1 q.1 q.2.length (q.2.map B)

theorem Lo.nil (w : World) (base : Nat) : Lo w base (.slice none 0 0) [] := ⟨World.ownsRow_nil _ _ _ _, fun q hq => by cases hq⟩
theorem Lo.low {w : World} {base base' : Nat} {v : Value} {ps : Els} (h : Lo w base v ps) (hb : base' ≤ base) : Lo w base' v ps := ⟨owns_base h.row hb, fun q hq => owns_base (h.each q hq) hb⟩
theorem Lo.kept {S : Nat → Prop} {w w' : World} {base : Nat} {v : Value} {ps : Els} (h : Lo w base v ps) (hk : Kp S w w') (hs : ∀ k, base ≤ k → k < w.heap.size → ¬ S k) : Lo w' base v ps :=
  ⟨owns_kept h.row hk fun k hkk => hs k (h.row.lt k hkk).1 (h.row.lt k hkk).2, fun q hq => owns_kept (h.each q hq) hk fun k hkk => hs k ((h.each q hq).lt k hkk).1 ((h.each q hq).lt k hkk).2⟩
theorem Lo.no {w w' : World} {base : Nat} {v : Value} {ps : Els} (h : Lo w base v ps) (hk : Kp No w w') : Lo w' base v ps := h.kept hk fun _ _ _ => id

theorem Lo.ls {w : World} {base : Nat} {v : Value} {ps : Els} (h : Lo w base v ps) : Ls w v ps := by
  refine ⟨?_, fun q hq => owns_bs (h.each q hq)⟩
  rcases h.row.2 with ⟨rfl, h0⟩ | ⟨g, cap, cur, rfl, hb, hg, r1, r2, r3, r4⟩
  · have : ps = [] := List.eq_nil_of_length_eq_zero h0
    subst this
    exact ⟨none, 0, rfl, Nat.le_refl _, Nat.zero_le _, fun h => absurd rfl h⟩
  · refine ⟨_, cap, rfl, r1, r2, fun _ => ⟨g, 0, rfl, fun k hk => ?_⟩⟩
    have := h.row.cells (g := g) rfl k ps[k].1 (by simp [Els.vals, hk])
    rw [addr_add] at this
    exact this

/-- a row of bytes is no row of slices -/
theorem rows_apart {w : World} {base base' : Nat} {v x : Value} {n m : Nat} {xs ys : List Value} (h : w.ownsRow base 34 1 v n xs) (k : w.ownsRow base' 5 1 x m ys) : ∀ g, x.ownBlock = some g → v.ownBlock ≠ some g := by
  intro g hg e
  rcases h.2 with ⟨rfl, _⟩ | ⟨g1, cap, cur, rfl, _, h1, _⟩
  · cases e
  · rcases k.2 with ⟨rfl, _⟩ | ⟨g2, cap2, cur2, rfl, _, h2, _⟩
    · cases hg
    · simp [Value.ownBlock] at e hg
      subst e hg
      rw [h1] at h2
      injection h2 with h2
      injection h2 with _ h3
      cases h3

theorem infoS : (Tryz.prog.info? 34).map (fun i => (i.zero, i.size, i.bytes)) = some (some (.slice none 0 0), 1, 24) := by kernel_rfl

/-- what an append of one element leaves -/
def Push (base : Nat) (w : World) (v : Value) (ps : Els) (x : Value) (bs : List UInt8) (v' : Value) (w' : World) : Prop :=
  Lo w' base v' (ps ++ [(x, bs)]) ∧ Kp (fun k => some k = v.ownBlock) w w' ∧ (v'.ownBlock = v.ownBlock ∨ v'.ownBlock = some w.heap.size) ∧ ∃ g cap, v' = .slice (some ⟨g, 0, none⟩) (ps.length + 1) cap

theorem run_push (w : World) (ty : TypeId) (base : Nat) (v : Value) (ps : Els) (h : Lo w base v ps) (hbase : base ≤ w.heap.size) (x : Value) (bs : List UInt8) (hx : w.ownsRow base 5 1 x bs.length (bs.map B)) (g : Nat) (c : Nat)
    (hg : w.heap[g]? = some (.cells #[x] 34 (0, 0))) (hn : ps.length ≤ 1000000000000) :
    ∃ v' w', (Builtin.append_ #[114, 114] ty #[v, .slice (some ⟨g, 0, none⟩) 1 c]).run Tryz.prog w = .ok v' w' ∧ Push base w v ps x bs v' w' := by
  obtain ⟨i0, hi, hz0, hz1, hz2⟩ := info_parts infoS
  have hone : x.oneCell' = true := by rcases hx.2 with ⟨rfl, _⟩ | ⟨_, _, _, rfl, _⟩ <;> rfl
  obtain ⟨v', w', hr, k1, k2, k3, k4⟩ := run_append_own_at (P := Tryz.prog) w base 114 ty 34 i0 (.slice none 0 0) 1 24 Tryz.underlying114 hi hz0 hz1 hz2 rfl (by decide) v ps.length _ h.row ⟨g, 0, none⟩ 1 c [x]
    rfl (World.news_of_block (cs := #[x]) hg) (by simpa using hone) (by unfold maxLen; omega) (by omega) hbase
  have hk : Kp (fun k => some k = v.ownBlock) w w' := (Kp.refl _ _).grown k2 fun k _ e => e.symm
  refine ⟨v', w', hr, ⟨?_, fun q hq => ?_⟩, hk, k4, ?_⟩
  · simpa [Els.vals] using k1
  · rcases List.mem_append.1 hq with hq | hq
    · exact owns_kept (h.each q hq) hk fun k e e2 => rows_apart h.row (h.each q hq) k e e2.symm
    · simp only [List.mem_singleton] at hq
      subst hq
      exact owns_kept hx hk fun k e e2 => rows_apart h.row hx k e e2.symm
  · rcases k1.2 with ⟨_, h0⟩ | ⟨g, cap, cur, rfl, _⟩
    · omega
    · exact ⟨g, cap, rfl⟩

theorem wp_push (w : World) {o : Oper} {a : Act} {K : Act → World → Prop} {Q : Exit → Act → World → Prop} (s e : Operand)
    (ho : o.op = .call { callee := .builtin .append, args := #[s, e], argTypes := #[114, 114] })
    (base : Nat) (v : Value) (ps : Els) (hs : a.eval s = v) (hl : Lo w base v ps) (hbase : base ≤ w.heap.size) (x : Value) (bs : List UInt8) (hx : w.ownsRow base 5 1 x bs.length (bs.map B)) (g : Nat) (c : Nat) (he : a.eval e = .slice (some ⟨g, 0, none⟩) 1 c)
    (hg : w.heap[g]? = some (.cells #[x] 34 (0, 0))) (hn : ps.length ≤ 1000000000000)
    (h : ∀ v' w', Push base w v ps x bs v' w' → K (a.put o.dst v') w') : Oper.wp Tryz.prog o a w K Q := by
  obtain ⟨v', w', hr, h2⟩ := run_push w o.type base v ps hl hbase x bs hx g c hg hn
  unfold Oper.wp execOp
  simp only [ho, resolve, invoke, builtin, Sem.run_bind, Sem.run_pure, Result.andThen_ok, List.map_toArray, List.map_cons, List.map_nil, hs, he, hr]
  exact h v' w' h2

theorem wpList_push (w : World) {ops : Array Oper} {rest : List Oper} {o : Oper} {a : Act} {Q : Exit → Act → World → Prop} (hgd : o.guard = none) (s e : Operand)
    (ho : o.op = .call { callee := .builtin .append, args := #[s, e], argTypes := #[114, 114] })
    (base : Nat) (v : Value) (ps : Els) (hs : a.eval s = v) (hl : Lo w base v ps) (hbase : base ≤ w.heap.size) (x : Value) (bs : List UInt8) (hx : w.ownsRow base 5 1 x bs.length (bs.map B)) (g : Nat) (c : Nat) (he : a.eval e = .slice (some ⟨g, 0, none⟩) 1 c)
    (hg : w.heap[g]? = some (.cells #[x] 34 (0, 0))) (hn : ps.length ≤ 1000000000000)
    (h : ∀ v' w', Push base w v ps x bs v' w' → wpList Tryz.prog ops Q rest (a.put o.dst v') w') : wpList Tryz.prog ops Q (o :: rest) a w :=
  wpList_plain hgd fun _ hK => wp_push w s e ho base v ps hs hl hbase x bs hx g c he hg hn fun v' w' h2 => hK _ _ (h v' w' h2)

theorem step_push (w : World) {ops : Array Oper} {o : Oper} {a : Act} {K : Act → World → Prop} {Q : Exit → Act → World → Prop} {E : Prop} (hgd : o.guard = none) (s e : Operand)
    (ho : o.op = .call { callee := .builtin .append, args := #[s, e], argTypes := #[114, 114] })
    (base : Nat) (v : Value) (ps : Els) (hs : a.eval s = v) (hl : Lo w base v ps) (hbase : base ≤ w.heap.size) (x : Value) (bs : List UInt8) (hx : w.ownsRow base 5 1 x bs.length (bs.map B)) (g : Nat) (c : Nat) (he : a.eval e = .slice (some ⟨g, 0, none⟩) 1 c)
    (hg : w.heap[g]? = some (.cells #[x] 34 (0, 0))) (hn : ps.length ≤ 1000000000000)
    (h : ∀ v' w', Push base w v ps x bs v' w' → K (a.put o.dst v') w') : if Region.wanted o (yielded ops a.tmps) = true then Oper.wp Tryz.prog o a w K Q else E := by
  have hw : Region.wanted o (yielded ops a.tmps) = true := by simp [Region.wanted, hgd]
  rw [if_pos hw]
  exact wp_push w s e ho base v ps hs hl hbase x bs hx g c he hg hn h

theorem step_append_bs (w : World) {ops : Array Oper} {o : Oper} {a : Act} {K : Act → World → Prop} {Q : Exit → Act → World → Prop} {E : Prop} (hgd : o.guard = none) (s x : Operand)
    (ho : o.op = .call { callee := .builtin .append, args := #[s, x], argTypes := #[34, 34] })
    (base : Nat) (v : Value) (bs : List UInt8) (hs : a.eval s = v) (hown : w.ownsRow base 5 1 v bs.length (bs.map B)) (xv : Value) (cs : List UInt8) (hx : a.eval x = xv) (hxs : Bs w xv cs)
    (hb : bs.length + cs.length ≤ 140737488355328) (hbase : base ≤ w.heap.size)
    (h : ∀ v' w', App base w v bs cs v' w' → K (a.put o.dst v') w') : if Region.wanted o (yielded ops a.tmps) = true then Oper.wp Tryz.prog o a w K Q else E := by
  have hw : Region.wanted o (yielded ops a.tmps) = true := by simp [Region.wanted, hgd]
  rw [if_pos hw]
  obtain ⟨v', w', hr, h2⟩ := run_append_bs w o.type base v bs hown xv cs hxs hb hbase
  unfold Oper.wp execOp
  simp only [ho, resolve, invoke, builtin, Sem.run_bind, Sem.run_pure, Result.andThen_ok, List.map_toArray, List.map_cons, List.map_nil, hs, hx, hr]
  exact h v' w' h2

theorem app_some {base : Nat} {w w' : World} {b n c : Nat} {bs cs : List UInt8} {v' : Value} (h : App base w (.slice (some ⟨b, 0, none⟩) n c) bs cs v' w') : ∃ g cap, v' = .slice (some ⟨g, 0, none⟩) (bs ++ cs).length cap ∧ (g = b ∨ g = w.heap.size) := by
  obtain ⟨h1, h2, h3, h4⟩ := h
  rcases h1.2 with ⟨e, h0⟩ | ⟨g, cap, cur, rfl, _⟩
  · have := h3.1 e
    simp at this
  · refine ⟨g, cap, rfl, ?_⟩
    simp [Value.ownBlock] at h4
    exact h4

theorem app_new {base : Nat} {w w' : World} {b n c : Nat} {cs : List UInt8} {v' : Value} (h : App base w (.slice (some ⟨b, 0, none⟩) n c) [] cs v' w') : ∃ g cap, v' = .slice (some ⟨g, 0, none⟩) cs.length cap ∧ w'.ownsRow base 5 1 v' cs.length (cs.map B) := by
  obtain ⟨g, cap, e, -⟩ := app_some h
  exact ⟨g, cap, e, by simpa using h.1⟩

/-- what a call leaves that makes a list -/
def NewLs (w : World) (l : List (List UInt8)) (e : Ending) (w' : World) : Prop := ∃ v' ps, e = .returned v' ∧ Lo w' w.heap.size v' ps ∧ ps.texts = l ∧ Kp No w w'

end Go.Proofs.YteekcbbdbciddaaGreatDoor.lst
