/- A row of whole numbers of one's own: one more of them, read. -/
import Derived.Test.YtbhhmbbldbgdnaaLst
namespace Go.Proofs.Ytbhhmbbldbgdnaa.lst
open Go.RowKit Go.Proofs.Ytbhhmbbldbgdnaa.sum Go.Proofs.Ytbhhmbbldbgdnaa.kept Go.Proofs.Ytbhhmbbldbgdnaa.app Go.Proofs.Ytbhhmbbldbgdnaa.writer Go.Proofs.Ytbhhmbbldbgdnaa.clone
set_option linter.unusedVariables false

abbrev I (n : Nat) : Value := .int .i64 (n : Int)
theorem infoI : (Try.prog.info? 3).map (fun i => (i.zero, i.size, i.bytes)) = some (some (.int .i64 0), 1, 8) := by kernel_rfl

def Is (w : World) (base : Nat) (v : Value) (ns : List Nat) : Prop := w.ownsRow base 3 1 v ns.length (ns.map I)

theorem Is.kept {S : Nat → Prop} {w w' : World} {base : Nat} {v : Value} {ns : List Nat} (h : Is w base v ns) (hk : Kp S w w') (hn : ∀ k, base ≤ k → k < w.heap.size → ¬ S k) : Is w' base v ns :=
  owns_kept h hk fun k hkk => hn k (World.ownsRow.lt h k hkk).1 (World.ownsRow.lt h k hkk).2

/-- a row of whole numbers is no row of bytes -/
theorem ints_apart {w : World} {base base' : Nat} {v x : Value} {n m : Nat} {xs ys : List Value} (h : w.ownsRow base 3 1 v n xs) (k : w.ownsRow base' 5 1 x m ys) : ∀ g, x.ownBlock = some g → v.ownBlock ≠ some g := by
  intro g hg e
  rcases h.2 with ⟨rfl, _⟩ | ⟨g1, cap, cur, rfl, _, h1, _⟩
  · cases e
  · rcases k.2 with ⟨rfl, _⟩ | ⟨g2, cap2, cur2, rfl, _, h2, _⟩
    · cases hg
    · simp [Value.ownBlock] at e hg
      subst e hg
      rw [h1] at h2
      injection h2 with h2
      injection h2 with _ h3
      cases h3

theorem wpList_append_int (w : World) {ops : Array Oper} {rest : List Oper} {o : Oper} {a : Act} {Q : Exit → Act → World → Prop} (hgd : o.guard = none) (s e : Operand)
    (ho : o.op = .call { callee := .builtin .append, args := #[s, e], argTypes := #[37, 37] })
    (base : Nat) (v : Value) (ns : List Nat) (hs : a.eval s = v) (hl : Is w base v ns) (hbase : base ≤ w.heap.size) (x g c : Nat) (he : a.eval e = .slice (some ⟨g, 0, none⟩) 1 c)
    (hg : w.heap[g]? = some (.cells #[I x] 3 (0, 0))) (hn : ns.length ≤ 1000000000000)
    (h : ∀ g' cap w', Is w' base (.slice (some ⟨g', 0, none⟩) (ns.length + 1) cap) (ns ++ [x]) → Kp (fun k => some k = v.ownBlock) w w' → wpList Try.prog ops Q rest (a.put o.dst (.slice (some ⟨g', 0, none⟩) (ns.length + 1) cap)) w') : wpList Try.prog ops Q (o :: rest) a w := by
  obtain ⟨i0, hi, hz0, hz1, hz2⟩ := info_parts infoI
  obtain ⟨v', w', hr, k1, k2, k3, k4⟩ := run_append_own_at (P := Try.prog) w base 37 o.type 3 i0 (.int .i64 0) 1 8 Try.underlying37 hi hz0 hz1 hz2 rfl (by decide) v ns.length _ hl ⟨g, 0, none⟩ 1 c [I x]
    rfl (World.news_of_block (cs := #[I x]) hg) (by simp [Value.oneCell']) (by unfold maxLen; omega) (by omega) hbase
  have hk : Kp (fun k => some k = v.ownBlock) w w' := (Kp.refl _ _).grown k2 fun k _ e => e.symm
  obtain ⟨g', cap, rfl⟩ : ∃ g' cap, v' = .slice (some ⟨g', 0, none⟩) (ns.length + 1) cap := by
    rcases k1.2 with ⟨_, h0⟩ | ⟨g, cap, cur, rfl, _⟩
    · omega
    · exact ⟨g, cap, rfl⟩
  refine wpList_plain hgd fun _ hK => ?_
  unfold Oper.wp execOp
  simp only [ho, resolve, invoke, builtin, Sem.run_bind, Sem.run_pure, Result.andThen_ok, List.map_toArray, List.map_cons, List.map_nil, hs, he, hr]
  exact hK _ _ (h g' cap w' (by unfold Is; simpa using k1) hk)

/-- the number at a place -/
theorem Is.at {w : World} {base : Nat} {v : Value} {ns : List Nat} (h : Is w base v ns) {k : Nat} (hk : k < ns.length) : ∃ g cap, v = .slice (some ⟨g, 0, none⟩) ns.length cap ∧ base ≤ g ∧ ns.length ≤ cap ∧ w.cell? ⟨g, k, none⟩ = some (I ns[k]) := by
  obtain ⟨g, cap, rfl, hb, hg⟩ := owns_some h (by omega)
  have hc := World.ownsRow.cells h (g := g) rfl k (I ns[k]) (by simp [hk])
  rw [addr_add, Nat.zero_add] at hc
  refine ⟨g, cap, rfl, hb, ?_, hc⟩
  rcases owns_any h with ⟨e, _⟩ | ⟨g', cap', e, _, _, h1, _⟩
  · cases e
  · simp only [Value.slice.injEq] at e; rw [e.2.2]; exact h1

theorem Ls.take {w : World} {a : Option Addr} {len cap : Nat} {ps : Els} (h : Ls w (.slice a len cap) ps) (k : Nat) (hk : k ≤ len) : Ls w (.slice a k cap) (ps.take k) := by
  obtain ⟨⟨a', cap', e, h1, h2, h3⟩, h4⟩ := h
  simp only [Value.slice.injEq] at e
  obtain ⟨rfl, rfl, rfl⟩ := e
  have hl : (ps.take k).length = k := by rw [List.length_take]; omega
  refine ⟨⟨a, cap, by rw [hl], by rw [hl]; omega, h2, fun hne => ?_⟩, fun q hq => h4 q (List.mem_of_mem_take hq)⟩
  obtain ⟨b, o, rfl, hc⟩ := h3 (by rintro rfl; simp at hne)
  refine ⟨b, o, rfl, fun i hi => ?_⟩
  rw [hl] at hi
  rw [hc i (by omega)]
  simp
theorem texts_take (ps : Els) (k : Nat) : Els.texts (ps.take k) = ps.texts.take k := by simp [Els.texts, List.map_take]

end Go.Proofs.Ytbhhmbbldbgdnaa.lst
