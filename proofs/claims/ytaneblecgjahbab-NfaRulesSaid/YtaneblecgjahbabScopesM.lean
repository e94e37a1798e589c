/- A scope with any labels: what holds at each jump, and a measure. No program is named here. Package nfa: a walk in memory. Package nfa, plainly: from a part on, over all that take no byte. -/
import Derived.Test.YtaneblecgjahbabBaseM
import Derived.ScopeJumps
import Derived.WalkMore
import Derived.Test.YtaneblecgjahbabNfaLay2M

namespace Go.Proofs.Ytaneblecgjahbab.spl
open Go.RowKit
set_option linter.unusedVariables false

/-- As Q; by a goto to a label: what holds there. -/
def jumpF (J : Nat → Act → World → Prop) (Q : Exit → Act → World → Prop) : Exit → Act → World → Prop
  | .goto l, a, w => J l a w
  | e, a, w => Q e a w

theorem wp_scope_many {P : Program} {a : Act} {w : World} {Q : Exit → Act → World → Prop} {c : Code} (J : Nat → Act → World → Prop) (μ : Nat → Act → World → Nat) (rest : Nat → Code) (hf : ∀ l a w, J l a w → findLabel c l = some (rest l))
    (pass : ∀ l a w, J l a w → (rest l).wp P (jumpF (fun l' a' w' => J l' a' w' ∧ μ l' a' w' < μ l a w) Q) a w)
    (first : c.wp P (jumpF J Q) a w) : (Code.scope c).wp P Q a w := by
  intro b k cs
  have hg : ∀ l a w, J l a w → gotoIn l (.inScope c :: k) = some (.code (rest l) :: .inScope c :: k) := fun l a w h => by simp [gotoIn, hf l a w h]
  have key : ∀ n l a w, μ l a w = n → J l a w → ∃ e a' w', Q e a' w' ∧ Arrives P (lone (b.at a (.code (rest l) :: .inScope c :: k)) cs w) b k cs e a' w' := by
    intro n
    induction n using Nat.strongRecOn with
    | _ n ih =>
      intro l a w hn hJ
      obtain ⟨e, a₁, w₁, hq, harr⟩ := pass l a w hJ b (.inScope c :: k) cs
      cases e with
      | normal => exact ⟨.normal, a₁, w₁, hq, Steps.trans harr (.one step_inScope)⟩
      | exit id => exact ⟨.exit id, a₁, w₁, hq, fun k' hk => harr k' (by simp [exitTo, hk])⟩
      | goto l' =>
        obtain ⟨hJ', hlt⟩ := hq
        obtain ⟨e₂, a₂, w₂, hq₂, harr₂⟩ := ih _ (by omega) l' a₁ w₁ rfl hJ'
        exact ⟨e₂, a₂, w₂, hq₂, .of_steps (harr _ (hg l' a₁ w₁ hJ')) harr₂⟩
      | ret => exact ⟨_, a₁, w₁, hq, harr⟩
      | panic ch => exact ⟨_, a₁, w₁, hq, harr⟩
      | outgrown => exact ⟨_, a₁, w₁, hq, harr⟩
  obtain ⟨e, a₁, w₁, hq, harr⟩ := first b (.inScope c :: k) cs
  cases e with
  | normal => exact ⟨.normal, a₁, w₁, hq, .head step_scope (Steps.trans harr (.one step_inScope))⟩
  | exit id => exact ⟨.exit id, a₁, w₁, hq, fun k' hk => .head step_scope (harr k' (by simp [exitTo, hk]))⟩
  | goto l =>
    obtain ⟨e₂, a₂, w₂, hq₂, harr₂⟩ := key _ l a₁ w₁ rfl hq
    exact ⟨e₂, a₂, w₂, hq₂, .of_steps (.head step_scope (harr _ (hg l a₁ w₁ hq))) harr₂⟩
  | ret => exact ⟨_, a₁, w₁, hq, .of_steps (.one step_scope) harr⟩
  | panic ch => exact ⟨_, a₁, w₁, hq, .of_steps (.one step_scope) harr⟩
  | outgrown => exact ⟨_, a₁, w₁, hq, .of_steps (.one step_scope) harr⟩

/-- Two labels, of which the one (A) stands ahead of the other (B): the code behind B is walked first; behind A, where one comes to B, it serves again. -/
theorem scope_two {P : Program} {a : Act} {w : World} {Q : Exit → Act → World → Prop} {c X Y : Code} (A B : Nat) (hne : A ≠ B) (J K : Act → World → Prop) (μ ν : Act → World → Nat) (hA : findLabel c A = some (.seq .skip X)) (hB : findLabel c B = some (.seq .skip Y))
    (passB : ∀ a w, K a w → Y.wp P (jumpF (fun l a' w' => l = A ∧ J a' w' ∧ μ a' w' < ν a w ∨ l = B ∧ K a' w' ∧ ν a' w' < ν a w) Q) a w)
    (passA : ∀ a w, J a w → (∀ a1 w1, K a1 w1 → ν a1 w1 ≤ μ a w → Y.wp P (jumpF (fun l a' w' => l = A ∧ J a' w' ∧ μ a' w' < μ a w ∨ l = B ∧ K a' w' ∧ ν a' w' < μ a w) Q) a1 w1) →
      X.wp P (jumpF (fun l a' w' => l = A ∧ J a' w' ∧ μ a' w' < μ a w ∨ l = B ∧ K a' w' ∧ ν a' w' < μ a w) Q) a w)
    (first : (∀ a w, J a w → X.wp P (jumpF (fun l a' w' => l = A ∧ J a' w' ∨ l = B ∧ K a' w') Q) a w) → c.wp P (jumpF (fun l a' w' => l = A ∧ J a' w' ∨ l = B ∧ K a' w') Q) a w) : (Code.scope c).wp P Q a w := by
  have pA : ∀ a w, J a w → X.wp P (jumpF (fun l a' w' => l = A ∧ J a' w' ∧ μ a' w' < μ a w ∨ l = B ∧ K a' w' ∧ ν a' w' < μ a w) Q) a w := fun a w hJ =>
    passA a w hJ fun a1 w1 hK hle => Code.wp_mono (fun e a' w' h => by
      cases e <;> first
        | exact h
        | (rcases h with ⟨h1, h2, h3⟩ | ⟨h1, h2, h3⟩
           · exact .inl ⟨h1, h2, Nat.lt_of_lt_of_le h3 hle⟩
           · exact .inr ⟨h1, h2, Nat.lt_of_lt_of_le h3 hle⟩)) (passB a1 w1 hK)
  refine wp_scope_many (fun l a w => l = A ∧ J a w ∨ l = B ∧ K a w) (fun l a w => if l = A then μ a w else ν a w) (fun l => if l = A then .seq .skip X else .seq .skip Y) (fun l a w h => ?_) (fun l a w h => ?_) (first fun a w hJ => Code.wp_mono (fun e a' w' h => by
      cases e <;> first
        | exact h
        | (rcases h with ⟨h1, h2, h3⟩ | ⟨h1, h2, h3⟩
           · exact .inl ⟨h1, h2⟩
           · exact .inr ⟨h1, h2⟩)) (pA a w hJ))
  · rcases h with ⟨rfl, -⟩ | ⟨rfl, -⟩
    · simp only [if_pos rfl]; exact hA
    · simp only [if_neg (Ne.symm hne)]; exact hB
  · rcases h with ⟨rfl, hJ⟩ | ⟨rfl, hK⟩
    · simp only [if_pos rfl]
      refine wp_seq (wp_skip (Code.wp_mono (fun e a' w' h => ?_) (pA a w hJ)))
      cases e <;> first
        | exact h
        | (rcases h with ⟨h1, h2, h3⟩ | ⟨h1, h2, h3⟩
           · exact ⟨.inl ⟨h1, h2⟩, by rw [if_pos h1]; exact h3⟩
           · exact ⟨.inr ⟨h1, h2⟩, by rw [if_neg (fun e => hne (e.symm.trans h1))]; exact h3⟩)
    · simp only [if_neg (Ne.symm hne)]
      refine wp_seq (wp_skip (Code.wp_mono (fun e a' w' h => ?_) (passB a w hK)))
      cases e <;> first
        | exact h
        | (rcases h with ⟨h1, h2, h3⟩ | ⟨h1, h2, h3⟩
           · exact ⟨.inl ⟨h1, h2⟩, by rw [if_pos h1]; exact h3⟩
           · exact ⟨.inr ⟨h1, h2⟩, by rw [if_neg (fun e => hne (e.symm.trans h1))]; exact h3⟩)

end Go.Proofs.Ytaneblecgjahbab.spl

namespace Go.Proofs.Ytaneblecgjahbab.nfa
open Go.RowKit Go.Proofs.Ytaneblecgjahbab.sum Go.Proofs.Ytaneblecgjahbab.kept Go.Proofs.Ytaneblecgjahbab.pop Go.Proofs.Ytaneblecgjahbab.cls Go.Proofs.Ytaneblecgjahbab.tre Go.Proofs.Ytaneblecgjahbab.ere Go.Proofs.Ytaneblecgjahbab.spl
set_option linter.unusedVariables false

def thC (x : Nat × Nat) : List Value := [.int .i64 (x.1 : Int), .int .i64 (x.2 : Int)]
def inC (x : Nat) : List Value := [.int .i64 (x : Int)]
theorem th_len (l : List (Nat × Nat)) : (l.flatMap thC).length = l.length * 2 := by
  induction l with
  | nil => rfl
  | cons e es ih => rw [List.flatMap_cons, List.length_append, ih, List.length_cons]; simp [thC]; omega
theorem in_len (l : List Nat) : (l.flatMap inC).length = l.length * 1 := by
  induction l with
  | nil => rfl
  | cons e es ih => rw [List.flatMap_cons, List.length_append, ih, List.length_cons]; simp [inC]; omega
theorem th_get : ∀ (l : List (Nat × Nat)) (i j : Nat) (h : i < l.length) (hj : j < 2), (l.flatMap thC)[i * 2 + j]? = (thC l[i])[j]?
  | e :: es, 0, j, _, hj => by
    rw [List.flatMap_cons, List.getElem?_append_left (by simp [thC]; omega)]
    simp
  | e :: es, i + 1, j, h, hj => by
    have := th_get es i j (by simpa using h) hj
    rw [List.flatMap_cons, List.getElem?_append_right (by simp [thC]; omega), show (thC e).length = 2 from rfl, show (i + 1) * 2 + j - 2 = i * 2 + j by omega, this]
    simp
theorem in_get : ∀ (l : List Nat) (i : Nat) (h : i < l.length), (l.flatMap inC)[i]? = some (.int .i64 (l[i] : Int))
  | e :: es, 0, _ => rfl
  | e :: es, i + 1, h => by
    have := in_get es i (by simpa using h)
    rw [List.flatMap_cons, List.getElem?_append_right (by simp [inC])]
    simpa [inC] using this
theorem in_set (l : List Nat) (i x : Nat) (h : i < l.length) : (l.set i x).flatMap inC = (l.flatMap inC).set i (.int .i64 (x : Int)) := by
  apply List.ext_getElem?
  intro j
  by_cases hj : j < l.length
  · rw [in_get _ j (by simpa using hj), List.getElem?_set, in_get _ j hj]
    by_cases hij : i = j
    · subst hij
      rw [if_pos rfl, if_pos (by rw [in_len]; omega)]
      simp
    · rw [if_neg hij]
      simp [hij]
  · rw [List.getElem?_eq_none (by rw [in_len]; simp; omega), List.getElem?_eq_none (by rw [List.length_set, in_len]; omega)]
abbrev TRw (w : World) (v : Value) (l : List (Nat × Nat)) : Prop := w.ownsRow 0 125 2 v l.length (l.flatMap thC)
abbrev IRw (w : World) (v : Value) (l : List Nat) : Prop := w.ownsRow 0 3 1 v l.length (l.flatMap inC)
theorem infoTh : (Try.prog.info? 125).map (fun i => (i.zero, i.size, i.bytes)) = some (some (.agg #[.int .i64 0, .int .i64 0]), 2, 16) := by kernel_rfl
theorem infoIn : (Try.prog.info? 3).map (fun i => (i.zero, i.size, i.bytes)) = some (some (.int .i64 0), 1, 8) := by kernel_rfl
theorem run_pushT (w : World) (v : Value) (l : List (Nat × Nat)) (h : TRw w v l) (e : Nat × Nat) (g c : Nat) (hg : w.heap[g]? = some (.cells #[.int .i64 (e.1 : Int), .int .i64 (e.2 : Int)] 125 (0, 0))) (hn : l.length ≤ 1000000000) :
    ∃ v' w', (Builtin.append_ #[86, 86] 86 #[v, .slice (some ⟨g, 0, none⟩) 1 c]).run Try.prog w = .ok v' w' ∧ TRw w' v' (l ++ [e]) ∧ Kp (fun k => some k = v.ownBlock) w w' ∧ (v'.ownBlock = v.ownBlock ∨ v'.ownBlock = some w.heap.size) := by
  obtain ⟨i0, hi, hz0, hz1, hz2⟩ := info_parts infoTh
  obtain ⟨v', w', hr, k1, k2, k3, k4⟩ := run_append_own_at (P := Try.prog) w 0 86 86 125 i0 _ 2 16 Try.underlying86 hi hz0 hz1 hz2 rfl (by decide) v l.length _ h ⟨g, 0, none⟩ 1 c (thC e)
    rfl (World.news_of_block (cs := #[.int .i64 (e.1 : Int), .int .i64 (e.2 : Int)]) hg) (by intro u hu; simp [thC] at hu; rcases hu with rfl | rfl <;> rfl) (by unfold maxLen; omega) (by omega) (Nat.zero_le _)
  exact ⟨v', w', hr, by simpa [TRw] using k1, (Kp.refl _ _).grown k2 fun k _ e => e.symm, k4⟩
theorem run_pushI (w : World) (v : Value) (l : List Nat) (h : IRw w v l) (e : Nat) (g c : Nat) (hg : w.heap[g]? = some (.cells #[.int .i64 (e : Int)] 3 (0, 0))) (hn : l.length ≤ 1000000000) :
    ∃ v' w', (Builtin.append_ #[87, 87] 87 #[v, .slice (some ⟨g, 0, none⟩) 1 c]).run Try.prog w = .ok v' w' ∧ IRw w' v' (l ++ [e]) ∧ Kp (fun k => some k = v.ownBlock) w w' ∧ (v'.ownBlock = v.ownBlock ∨ v'.ownBlock = some w.heap.size) := by
  obtain ⟨i0, hi, hz0, hz1, hz2⟩ := info_parts infoIn
  obtain ⟨v', w', hr, k1, k2, k3, k4⟩ := run_append_own_at (P := Try.prog) w 0 87 87 3 i0 _ 1 8 Try.underlying87 hi hz0 hz1 hz2 rfl (by decide) v l.length _ h ⟨g, 0, none⟩ 1 c (inC e)
    rfl (World.news_of_block (cs := #[.int .i64 (e : Int)]) hg) (by intro u hu; simp [inC] at hu; rcases hu with rfl; rfl) (by unfold maxLen; omega) (by omega) (Nat.zero_le _)
  exact ⟨v', w', hr, by simpa [IRw] using k1, (Kp.refl _ _).grown k2 fun k _ e => e.symm, k4⟩

/-- what a walk goes over: where its program lies, the program, the text -/
structure Over where
  q : Nat
  pb : Nat
  po : Nat
  gp : Nat
  cp : Nat
  r : Nat × List Part
  bk : Bool
  s : ByteArray
/-- a walk's state -/
structure Wst where
  pl : Nat
  L : List (Nat × Nat)
  stk : List Nat
  seen : List Nat
  en : Int
/-- a walk in memory; ρ: which blocks are its own, and what each is for: 1 itself, 2 its list, 3 the spare one, 4 the pile, 5 seen -/
structure WkAt (w : World) (ρ : Nat → Nat) (o : Over) (vl vs vp : Value) (g cg : Nat) (S : List (Nat × Nat)) (t : Wst) : Prop where
  c0 : w.cell? ⟨o.q, 0, none⟩ = some (.pointer (some ⟨o.pb, o.po, none⟩))
  c1 : w.cell? ⟨o.q, 1, none⟩ = some (.string o.s)
  c2 : w.cell? ⟨o.q, 2, none⟩ = some (.int .i64 (t.pl : Int))
  c3 : w.cell? ⟨o.q, 3, none⟩ = some vl
  c4 : w.cell? ⟨o.q, 4, none⟩ = some vs
  c5 : w.cell? ⟨o.q, 5, none⟩ = some vp
  c6 : w.cell? ⟨o.q, 6, none⟩ = some (.slice (some ⟨g, 0, none⟩) t.seen.length cg)
  c7 : w.cell? ⟨o.q, 7, none⟩ = some (.int .i64 t.en)
  warm : ∀ i, w.frozen? ⟨o.q, i, none⟩ = false
  rl : TRw w vl t.L
  rs : TRw w vs S
  rp : IRw w vp t.stk.reverse
  rn : IRw w (.slice (some ⟨g, 0, none⟩) t.seen.length cg) t.seen
  qr : ρ o.q = 1
  lr : ∀ x, vl.ownBlock = some x → ρ x = 2
  sr : ∀ x, vs.ownBlock = some x → ρ x = 3
  pr : ∀ x, vp.ownBlock = some x → ρ x = 4
  nr : ρ g = 5
  pg : PgRd w o.pb o.po o.r o.bk o.gp o.cp
  pb : ρ o.pb = 0
  gp : ρ o.gp = 0
  hi : ∀ i, w.heap.size ≤ i → ρ i = 0
theorem WkAt.lt {w : World} {ρ : Nat → Nat} {o : Over} {vl vs vp : Value} {g cg : Nat} {S : List (Nat × Nat)} {t : Wst} (h : WkAt w ρ o vl vs vp g cg S t) : o.q < w.heap.size := World.block_lt_of_cell? w ⟨o.q, 0, none⟩ h.c0
theorem WkAt.kept {K : Nat → Prop} {w w' : World} {ρ : Nat → Nat} {o : Over} {vl vs vp : Value} {g cg : Nat} {S : List (Nat × Nat)} {t : Wst} (h : WkAt w ρ o vl vs vp g cg S t) (hk : Kp K w w') (hK : ∀ i, i < w.heap.size → K i → ρ i = 0 ∧ i ≠ o.pb ∧ i ≠ o.gp) : WkAt w' ρ o vl vs vp g cg S t := by
  have hq : ¬ K o.q := fun e => by have := (hK _ h.lt e).1; rw [h.qr] at this; cases this
  have hrow : ∀ {e : TypeId} {n size : Nat} {v : Value} {xs : List Value} (m : Nat), m ≠ 0 → (∀ x, v.ownBlock = some x → ρ x = m) → w.ownsRow 0 e size v n xs → w'.ownsRow 0 e size v n xs := fun m hm hv hr => owns_kept hr hk fun k e hKk => hm (by have h1 := (hK k (own_lt hr e).2 hKk).1; rw [hv k e] at h1; exact h1)
  have hpl := h.pg.lt
  refine ⟨hk.cell' h.c0 hq, hk.cell' h.c1 hq, hk.cell' h.c2 hq, hk.cell' h.c3 hq, hk.cell' h.c4 hq, hk.cell' h.c5 hq, hk.cell' h.c6 hq, hk.cell' h.c7 hq, fun i => (hk.frozen (p := ⟨o.q, i, none⟩) h.lt hq).trans (h.warm i),
    hrow 2 (by decide) h.lr h.rl, hrow 3 (by decide) h.sr h.rs, hrow 4 (by decide) h.pr h.rp, hrow 5 (by decide) (fun x e => by have e : some g = some x := e; cases e; exact h.nr) h.rn, h.qr, h.lr, h.sr, h.pr, h.nr, h.pg.kept hk (fun e => (hK _ hpl.1 e).2.1 rfl) (fun e => (hK _ hpl.2 e).2.2 rfl), h.pb, h.gp, fun i hi => h.hi i (Nat.le_trans hk.size hi)⟩
theorem WkAt.no {w w' : World} {ρ : Nat → Nat} {o : Over} {vl vs vp : Value} {g cg : Nat} {S : List (Nat × Nat)} {t : Wst} (h : WkAt w ρ o vl vs vp g cg S t) (hk : Kp No w w') : WkAt w' ρ o vl vs vp g cg S t := h.kept hk fun _ _ e => e.elim

/-- from one walk's memory to another's: the walk's own blocks alone turned, and new ones came -/
structure Gr (w : World) (ρ : Nat → Nat) (w' : World) (ρ' : Nat → Nat) : Prop where
  kp : Kp (fun i => ρ i ≠ 0) w w'
  same : ∀ i, i < w.heap.size → (ρ' i = 0 ↔ ρ i = 0)
theorem Gr.refl (w : World) (ρ : Nat → Nat) : Gr w ρ w ρ := ⟨Kp.refl _ _, fun _ _ => Iff.rfl⟩
theorem Gr.trans {w w1 w2 : World} {ρ ρ1 ρ2 : Nat → Nat} (h : Gr w ρ w1 ρ1) (h2 : Gr w1 ρ1 w2 ρ2) : Gr w ρ w2 ρ2 :=
  ⟨h.kp.trans h2.kp fun i hi e => fun e0 => e ((h.same i hi).2 e0), fun i hi => (h2.same i (Nat.lt_of_lt_of_le hi h.kp.size)).trans (h.same i hi)⟩
theorem Gr.of {w w' : World} {ρ : Nat → Nat} (h : Kp No w w') : Gr w ρ w' ρ := ⟨h.to, fun _ _ => Iff.rfl⟩
/-- one cell of the walk itself is written -/
theorem Gr.cell {w : World} {ρ : Nat → Nat} {b i : Nat} {x : Value} (h : ρ b ≠ 0) : Gr w ρ (w.setCell ⟨b, i, none⟩ x) ρ := ⟨(Kp.refl _ w).setCell (p := ⟨b, i, none⟩) (fun _ => h) x, fun _ _ => Iff.rfl⟩

section
variable {w : World} {ρ : Nat → Nat} {o : Over} {vl vs vp : Value} {g cg : Nat} {S : List (Nat × Nat)} {t : Wst}
theorem setq_cell (h : WkAt w ρ o vl vs vp g cg S t) (i j : Nat) (x : Value) (hij : i ≠ j) {u : Value} (hc : w.cell? ⟨o.q, j, none⟩ = some u) : (w.setCell ⟨o.q, i, none⟩ x).cell? ⟨o.q, j, none⟩ = some u := by
  rw [World.cell?_setCell_other _ _ _ _ (fun e => hij (by injection e))]
  exact hc
theorem setq_row (h : WkAt w ρ o vl vs vp g cg S t) (i : Nat) (x : Value) {e : TypeId} {n size : Nat} {v : Value} {xs : List Value} (m : Nat) (hm : m ≠ 1) (hv : ∀ y, v.ownBlock = some y → ρ y = m) (hr : w.ownsRow 0 e size v n xs) : (w.setCell ⟨o.q, i, none⟩ x).ownsRow 0 e size v n xs :=
  owns_kept hr ((Kp.refl (fun b => b = o.q) w).setCell (p := ⟨o.q, i, none⟩) (fun _ => rfl) x) fun k e1 e2 => by
    have e2 : k = o.q := e2
    subst e2
    have := hv _ e1
    rw [h.qr] at this
    exact hm this.symm
theorem setq_pg (h : WkAt w ρ o vl vs vp g cg S t) (i : Nat) (x : Value) : PgRd (w.setCell ⟨o.q, i, none⟩ x) o.pb o.po o.r o.bk o.gp o.cp :=
  h.pg.kept ((Kp.refl (fun b => b = o.q) w).setCell (p := ⟨o.q, i, none⟩) (fun _ => rfl) x) (fun e => by have := h.pb; rw [show o.pb = o.q from e, h.qr] at this; cases this) (fun e => by have := h.gp; rw [show o.gp = o.q from e, h.qr] at this; cases this)
theorem setq_size (i : Nat) (x : Value) : (w.setCell ⟨o.q, i, none⟩ x).heap.size = w.heap.size := by simp [World.setCell]
theorem seen_own : ∀ y, (Value.slice (some ⟨g, 0, none⟩) t.seen.length cg).ownBlock = some y → y = g := fun y e => by have e : some g = some y := e; cases e; rfl

/-- what the oldest one that ends is -/
theorem WkAt.set7 (h : WkAt w ρ o vl vs vp g cg S t) (x : Int) : WkAt (w.setCell ⟨o.q, 7, none⟩ (.int .i64 x)) ρ o vl vs vp g cg S { t with en := x } :=
  ⟨setq_cell h 7 0 _ (by decide) h.c0, setq_cell h 7 1 _ (by decide) h.c1, setq_cell h 7 2 _ (by decide) h.c2, setq_cell h 7 3 _ (by decide) h.c3, setq_cell h 7 4 _ (by decide) h.c4, setq_cell h 7 5 _ (by decide) h.c5, setq_cell h 7 6 _ (by decide) h.c6, World.cell?_setCell_same _ _ _ h.c7, fun i => (World.frozen?_setCell _ _ _ _).trans (h.warm i),
    setq_row h 7 _ 2 (by decide) h.lr h.rl, setq_row h 7 _ 3 (by decide) h.sr h.rs, setq_row h 7 _ 4 (by decide) h.pr h.rp, setq_row h 7 _ 5 (by decide) (fun y e => by rw [seen_own y e]; exact h.nr) h.rn, h.qr, h.lr, h.sr, h.pr, h.nr, setq_pg h 7 _, h.pb, h.gp, fun i hi => h.hi i (by rwa [setq_size] at hi)⟩
theorem WkAt.set2 (h : WkAt w ρ o vl vs vp g cg S t) (x : Nat) : WkAt (w.setCell ⟨o.q, 2, none⟩ (.int .i64 (x : Int))) ρ o vl vs vp g cg S { t with pl := x } :=
  ⟨setq_cell h 2 0 _ (by decide) h.c0, setq_cell h 2 1 _ (by decide) h.c1, World.cell?_setCell_same _ _ _ h.c2, setq_cell h 2 3 _ (by decide) h.c3, setq_cell h 2 4 _ (by decide) h.c4, setq_cell h 2 5 _ (by decide) h.c5, setq_cell h 2 6 _ (by decide) h.c6, setq_cell h 2 7 _ (by decide) h.c7, fun i => (World.frozen?_setCell _ _ _ _).trans (h.warm i),
    setq_row h 2 _ 2 (by decide) h.lr h.rl, setq_row h 2 _ 3 (by decide) h.sr h.rs, setq_row h 2 _ 4 (by decide) h.pr h.rp, setq_row h 2 _ 5 (by decide) (fun y e => by rw [seen_own y e]; exact h.nr) h.rn, h.qr, h.lr, h.sr, h.pr, h.nr, setq_pg h 2 _, h.pb, h.gp, fun i hi => h.hi i (by rwa [setq_size] at hi)⟩
/-- the pile: another row in its place -/
theorem WkAt.set5 (h : WkAt w ρ o vl vs vp g cg S t) (vp' : Value) (stk' : List Nat) (hr : IRw w vp' stk'.reverse) (hp : ∀ x, vp'.ownBlock = some x → ρ x = 4) : WkAt (w.setCell ⟨o.q, 5, none⟩ vp') ρ o vl vs vp' g cg S { t with stk := stk' } :=
  ⟨setq_cell h 5 0 _ (by decide) h.c0, setq_cell h 5 1 _ (by decide) h.c1, setq_cell h 5 2 _ (by decide) h.c2, setq_cell h 5 3 _ (by decide) h.c3, setq_cell h 5 4 _ (by decide) h.c4, World.cell?_setCell_same _ _ _ h.c5, setq_cell h 5 6 _ (by decide) h.c6, setq_cell h 5 7 _ (by decide) h.c7, fun i => (World.frozen?_setCell _ _ _ _).trans (h.warm i),
    setq_row h 5 _ 2 (by decide) h.lr h.rl, setq_row h 5 _ 3 (by decide) h.sr h.rs, setq_row h 5 _ 4 (by decide) hp hr, setq_row h 5 _ 5 (by decide) (fun y e => by rw [seen_own y e]; exact h.nr) h.rn, h.qr, h.lr, h.sr, hp, h.nr, setq_pg h 5 _, h.pb, h.gp, fun i hi => h.hi i (by rwa [setq_size] at hi)⟩
/-- the list: another row in its place -/
theorem WkAt.set3 (h : WkAt w ρ o vl vs vp g cg S t) (vl' : Value) (L' : List (Nat × Nat)) (hr : TRw w vl' L') (hp : ∀ x, vl'.ownBlock = some x → ρ x = 2) : WkAt (w.setCell ⟨o.q, 3, none⟩ vl') ρ o vl' vs vp g cg S { t with L := L' } :=
  ⟨setq_cell h 3 0 _ (by decide) h.c0, setq_cell h 3 1 _ (by decide) h.c1, setq_cell h 3 2 _ (by decide) h.c2, World.cell?_setCell_same _ _ _ h.c3, setq_cell h 3 4 _ (by decide) h.c4, setq_cell h 3 5 _ (by decide) h.c5, setq_cell h 3 6 _ (by decide) h.c6, setq_cell h 3 7 _ (by decide) h.c7, fun i => (World.frozen?_setCell _ _ _ _).trans (h.warm i),
    setq_row h 3 _ 2 (by decide) hp hr, setq_row h 3 _ 3 (by decide) h.sr h.rs, setq_row h 3 _ 4 (by decide) h.pr h.rp, setq_row h 3 _ 5 (by decide) (fun y e => by rw [seen_own y e]; exact h.nr) h.rn, h.qr, hp, h.sr, h.pr, h.nr, setq_pg h 3 _, h.pb, h.gp, fun i hi => h.hi i (by rwa [setq_size] at hi)⟩
/-- a part is marked as seen -/
theorem WkAt.mark (h : WkAt w ρ o vl vs vp g cg S t) (k x : Nat) (hk : k < t.seen.length) : WkAt (w.setCell ⟨g, k, none⟩ (.int .i64 (x : Int))) ρ o vl vs vp g cg S { t with seen := t.seen.set k x } := by
  have hkp : Kp (fun b => b = g) w (w.setCell ⟨g, k, none⟩ (.int .i64 (x : Int))) := (Kp.refl (fun b => b = g) w).setCell (p := ⟨g, k, none⟩) (fun _ => rfl) _
  have hq : ¬ o.q = g := fun e => by have := h.qr; rw [e, h.nr] at this; cases this
  have hrow : ∀ {e : TypeId} {n size : Nat} {v : Value} {xs : List Value} (m : Nat), m ≠ 5 → (∀ y, v.ownBlock = some y → ρ y = m) → w.ownsRow 0 e size v n xs → (w.setCell ⟨g, k, none⟩ (.int .i64 (x : Int))).ownsRow 0 e size v n xs := fun m hm hv hr => owns_kept hr hkp fun b e1 e2 => by
    have e2 : b = g := e2
    subst e2
    have := hv _ e1
    rw [h.nr] at this
    exact hm this.symm
  refine ⟨hkp.cell' h.c0 hq, hkp.cell' h.c1 hq, hkp.cell' h.c2 hq, hkp.cell' h.c3 hq, hkp.cell' h.c4 hq, hkp.cell' h.c5 hq, ?_, hkp.cell' h.c7 hq, fun i => (World.frozen?_setCell _ _ _ _).trans (h.warm i), hrow 2 (by decide) h.lr h.rl, hrow 3 (by decide) h.sr h.rs, hrow 4 (by decide) h.pr h.rp, ?_, h.qr, h.lr, h.sr, h.pr, h.nr,
    h.pg.kept hkp (fun e => by have := h.pb; rw [show o.pb = g from e, h.nr] at this; cases this) (fun e => by have := h.gp; rw [show o.gp = g from e, h.nr] at this; cases this), h.pb, h.gp, fun i hi => h.hi i (by simpa [World.setCell] using hi)⟩
  · show _ = some (Value.slice (some ⟨g, 0, none⟩) (t.seen.set k x).length cg)
    rw [List.length_set]
    exact hkp.cell' h.c6 hq
  · have := own_set h.rn (g := g) rfl k (.int .i64 (x : Int))
    show World.ownsRow _ 0 _ 1 (Value.slice (some ⟨g, 0, none⟩) (t.seen.set k x).length cg) (t.seen.set k x).length _
    rw [in_set _ _ _ hk, List.length_set]
    exact this
end

/-- a role of a new block -/
def roleAt (ρ : Nat → Nat) (b m : Nat) : Nat → Nat := fun i => if i = b then m else ρ i
theorem WkAt.newL {w w3 : World} {ρ ρ' : Nat → Nat} {o : Over} {vl vs vp : Value} {g cg : Nat} {S : List (Nat × Nat)} {t : Wst} (h : WkAt w ρ o vl vs vp g cg S t) (hk : Kp (fun k => some k = vl.ownBlock) w w3) (vl' : Value) (l' : List (Nat × Nat)) (hr : TRw w3 vl' l') (hρ : ∀ i, i < w.heap.size → ρ' i = ρ i) (hp : ∀ x, vl'.ownBlock = some x → ρ' x = 2) (hh : ∀ i, w3.heap.size ≤ i → ρ' i = 0) :
    WkAt (w3.setCell ⟨o.q, 3, none⟩ vl') ρ' o vl' vs vp g cg S { t with L := l' } ∧ Gr w ρ (w3.setCell ⟨o.q, 3, none⟩ vl') ρ' := by
  have hqv : ¬ some o.q = vl.ownBlock := fun e1 => by have := h.lr _ e1.symm; rw [h.qr] at this; cases this
  have hks : Kp (fun b => b = o.q) w3 (w3.setCell ⟨o.q, 3, none⟩ vl') := (Kp.refl (fun b => b = o.q) w3).setCell (p := ⟨o.q, 3, none⟩) (fun _ => rfl) _
  have hc : ∀ (j : Nat) (u : Value), j ≠ 3 → w.cell? ⟨o.q, j, none⟩ = some u → (w3.setCell ⟨o.q, 3, none⟩ vl').cell? ⟨o.q, j, none⟩ = some u := fun j u hj e => by
    rw [World.cell?_setCell_other _ _ _ _ (fun e => hj (by injection e with _ e _; exact e.symm))]
    exact hk.cell' e hqv
  have hkf : Kp (fun k => some k = vl.ownBlock ∨ k = o.q) w (w3.setCell ⟨o.q, 3, none⟩ vl') := (hk.mono fun _ _ e => .inl e : Kp (fun k => some k = vl.ownBlock ∨ k = o.q) w w3).trans hks fun i _ e => .inr e
  have hrow : ∀ {e : TypeId} {n size : Nat} {v : Value} {xs : List Value} (m : Nat), m ≠ 1 ∧ m ≠ 2 → (∀ y, v.ownBlock = some y → ρ y = m) → w.ownsRow 0 e size v n xs → (w3.setCell ⟨o.q, 3, none⟩ vl').ownsRow 0 e size v n xs := fun m hm hv hr => owns_kept hr hkf fun b e1 e2 => by
    have h1 := hv _ e1
    rcases e2 with e2 | e2
    · have := h.lr _ e2.symm
      rw [h1] at this
      exact hm.2 this
    · rw [show b = o.q from e2, h.qr] at h1
      exact hm.1 h1.symm
  have hrn : TRw (w3.setCell ⟨o.q, 3, none⟩ vl') vl' l' := owns_kept hr hks fun b e1 e2 => by
    have e2 : b = o.q := e2
    have := hp _ e1
    rw [e2, hρ _ h.lt, h.qr] at this
    cases this
  have hS : ∀ i, (some i = vl.ownBlock ∨ i = o.q) → ρ i ≠ 0 := fun i e => by
    rcases e with e | e
    · rw [h.lr _ e.symm]; decide
    · rw [e, h.qr]; decide
  have hpl := h.pg.lt
  refine ⟨⟨hc 0 _ (by decide) h.c0, hc 1 _ (by decide) h.c1, hc 2 _ (by decide) h.c2, World.cell?_setCell_same _ _ _ (hk.cell' h.c3 hqv), hc 4 _ (by decide) h.c4, hc 5 _ (by decide) h.c5, hc 6 _ (by decide) h.c6, hc 7 _ (by decide) h.c7, fun i => (World.frozen?_setCell _ _ _ _).trans ((hk.frozen (p := ⟨o.q, i, none⟩) h.lt hqv).trans (h.warm i)),
    hrn, hrow 3 (by decide) h.sr h.rs, hrow 4 (by decide) h.pr h.rp, hrow 5 (by decide) (fun y e => by rw [seen_own (t := t) y e]; exact h.nr) h.rn, (hρ _ h.lt).trans h.qr, hp, fun x e => (hρ x (own_lt h.rs e).2).trans (h.sr x e), fun x e => (hρ x (own_lt h.rp e).2).trans (h.pr x e), (hρ _ (own_lt h.rn rfl).2).trans h.nr, h.pg.kept hkf (fun e => hS _ e h.pb) (fun e => hS _ e h.gp), (hρ _ hpl.1).trans h.pb, (hρ _ hpl.2).trans h.gp, fun i hi => hh i (by simpa [World.setCell] using hi)⟩,
    ⟨hkf.mono fun i _ e => hS i e, fun i hi => by rw [hρ i hi]⟩⟩
theorem WkAt.newP {w w3 : World} {ρ ρ' : Nat → Nat} {o : Over} {vl vs vp : Value} {g cg : Nat} {S : List (Nat × Nat)} {t : Wst} (h : WkAt w ρ o vl vs vp g cg S t) (hk : Kp (fun k => some k = vp.ownBlock) w w3) (vp' : Value) (l' : List Nat) (hr : IRw w3 vp' l'.reverse) (hρ : ∀ i, i < w.heap.size → ρ' i = ρ i) (hp : ∀ x, vp'.ownBlock = some x → ρ' x = 4) (hh : ∀ i, w3.heap.size ≤ i → ρ' i = 0) :
    WkAt (w3.setCell ⟨o.q, 5, none⟩ vp') ρ' o vl vs vp' g cg S { t with stk := l' } ∧ Gr w ρ (w3.setCell ⟨o.q, 5, none⟩ vp') ρ' := by
  have hqv : ¬ some o.q = vp.ownBlock := fun e1 => by have := h.pr _ e1.symm; rw [h.qr] at this; cases this
  have hks : Kp (fun b => b = o.q) w3 (w3.setCell ⟨o.q, 5, none⟩ vp') := (Kp.refl (fun b => b = o.q) w3).setCell (p := ⟨o.q, 5, none⟩) (fun _ => rfl) _
  have hc : ∀ (j : Nat) (u : Value), j ≠ 5 → w.cell? ⟨o.q, j, none⟩ = some u → (w3.setCell ⟨o.q, 5, none⟩ vp').cell? ⟨o.q, j, none⟩ = some u := fun j u hj e => by
    rw [World.cell?_setCell_other _ _ _ _ (fun e => hj (by injection e with _ e _; exact e.symm))]
    exact hk.cell' e hqv
  have hkf : Kp (fun k => some k = vp.ownBlock ∨ k = o.q) w (w3.setCell ⟨o.q, 5, none⟩ vp') := (hk.mono fun _ _ e => .inl e : Kp (fun k => some k = vp.ownBlock ∨ k = o.q) w w3).trans hks fun i _ e => .inr e
  have hrow : ∀ {e : TypeId} {n size : Nat} {v : Value} {xs : List Value} (m : Nat), m ≠ 1 ∧ m ≠ 4 → (∀ y, v.ownBlock = some y → ρ y = m) → w.ownsRow 0 e size v n xs → (w3.setCell ⟨o.q, 5, none⟩ vp').ownsRow 0 e size v n xs := fun m hm hv hr => owns_kept hr hkf fun b e1 e2 => by
    have h1 := hv _ e1
    rcases e2 with e2 | e2
    · have := h.pr _ e2.symm
      rw [h1] at this
      exact hm.2 this
    · rw [show b = o.q from e2, h.qr] at h1
      exact hm.1 h1.symm
  have hrn : IRw (w3.setCell ⟨o.q, 5, none⟩ vp') vp' l'.reverse := owns_kept hr hks fun b e1 e2 => by
    have e2 : b = o.q := e2
    have := hp _ e1
    rw [e2, hρ _ h.lt, h.qr] at this
    cases this
  have hS : ∀ i, (some i = vp.ownBlock ∨ i = o.q) → ρ i ≠ 0 := fun i e => by
    rcases e with e | e
    · rw [h.pr _ e.symm]; decide
    · rw [e, h.qr]; decide
  have hpl := h.pg.lt
  refine ⟨⟨hc 0 _ (by decide) h.c0, hc 1 _ (by decide) h.c1, hc 2 _ (by decide) h.c2, hc 3 _ (by decide) h.c3, hc 4 _ (by decide) h.c4, World.cell?_setCell_same _ _ _ (hk.cell' h.c5 hqv), hc 6 _ (by decide) h.c6, hc 7 _ (by decide) h.c7, fun i => (World.frozen?_setCell _ _ _ _).trans ((hk.frozen (p := ⟨o.q, i, none⟩) h.lt hqv).trans (h.warm i)),
    hrow 2 (by decide) h.lr h.rl, hrow 3 (by decide) h.sr h.rs, hrn, hrow 5 (by decide) (fun y e => by rw [seen_own (t := t) y e]; exact h.nr) h.rn, (hρ _ h.lt).trans h.qr, fun x e => (hρ x (own_lt h.rl e).2).trans (h.lr x e), fun x e => (hρ x (own_lt h.rs e).2).trans (h.sr x e), hp, (hρ _ (own_lt h.rn rfl).2).trans h.nr, h.pg.kept hkf (fun e => hS _ e h.pb) (fun e => hS _ e h.gp), (hρ _ hpl.1).trans h.pb, (hρ _ hpl.2).trans h.gp, fun i hi => hh i (by simpa [World.setCell] using hi)⟩,
    ⟨hkf.mono fun i _ e => hS i e, fun i hi => by rw [hρ i hi]⟩⟩
/-- behind an append: the store is still to come -/
theorem WkAt.pushL {w : World} {ρ : Nat → Nat} {o : Over} {vl vs vp : Value} {g cg : Nat} {S : List (Nat × Nat)} {t : Wst} (h : WkAt w ρ o vl vs vp g cg S t) (e : Nat × Nat) (hn : t.L.length ≤ 1000000000) (W : World) (hW : Kp No w W) (gx : Nat) (hg : W.heap[gx]? = some (.cells #[.int .i64 (e.1 : Int), .int .i64 (e.2 : Int)] 125 (0, 0))) :
    ∃ v' w3 ρ3, (Builtin.append_ #[86, 86] 86 #[vl, .slice (some ⟨gx, 0, none⟩) 1 1]).run Try.prog W = .ok v' w3 ∧ w3.cell? ⟨o.q, 3, none⟩ = some vl ∧ (∀ i, w3.frozen? ⟨o.q, i, none⟩ = false) ∧
      WkAt (w3.setCell ⟨o.q, 3, none⟩ v') ρ3 o v' vs vp g cg S { t with L := t.L ++ [e] } ∧ Gr w ρ (w3.setCell ⟨o.q, 3, none⟩ v') ρ3 := by
  have hw := h.no hW
  obtain ⟨v', w3, hr, ho, hk, hl⟩ := run_pushT W vl t.L hw.rl e gx 1 hg (by first | exact hn | simpa using hn)
  have hqv : ¬ some o.q = vl.ownBlock := fun e1 => by have := h.lr _ e1.symm; rw [h.qr] at this; cases this
  have hz := hk.size
  rcases hl with hl | hl
  · obtain ⟨h1, h2⟩ := hw.newL (ρ' := ρ) hk v' (t.L ++ [e]) ho (fun _ _ => rfl) (fun x e1 => h.lr x (by rw [← hl]; exact e1)) (fun i hi => hw.hi i (by omega))
    exact ⟨v', w3, ρ, hr, hk.cell' hw.c3 hqv, fun i => (hk.frozen (p := ⟨o.q, i, none⟩) hw.lt hqv).trans (hw.warm i), h1, (Gr.of hW).trans h2⟩
  · have hW3 : W.heap.size < w3.heap.size := (own_lt ho hl).2
    obtain ⟨h1, h2⟩ := hw.newL (ρ' := roleAt ρ W.heap.size 2) hk v' (t.L ++ [e]) ho (fun i hi => by unfold roleAt; rw [if_neg (by omega)]) (fun x e1 => by rw [hl] at e1; cases e1; unfold roleAt; rw [if_pos rfl]) (fun i hi => by unfold roleAt; rw [if_neg (by omega)]; exact hw.hi i (by omega))
    exact ⟨v', w3, _, hr, hk.cell' hw.c3 hqv, fun i => (hk.frozen (p := ⟨o.q, i, none⟩) hw.lt hqv).trans (hw.warm i), h1, (Gr.of hW).trans h2⟩
/-- behind an append: the store is still to come -/
theorem WkAt.pushP {w : World} {ρ : Nat → Nat} {o : Over} {vl vs vp : Value} {g cg : Nat} {S : List (Nat × Nat)} {t : Wst} (h : WkAt w ρ o vl vs vp g cg S t) (e : Nat) (hn : t.stk.length ≤ 1000000000) (W : World) (hW : Kp No w W) (gx : Nat) (hg : W.heap[gx]? = some (.cells #[.int .i64 (e : Int)] 3 (0, 0))) :
    ∃ v' w3 ρ3, (Builtin.append_ #[87, 87] 87 #[vp, .slice (some ⟨gx, 0, none⟩) 1 1]).run Try.prog W = .ok v' w3 ∧ w3.cell? ⟨o.q, 5, none⟩ = some vp ∧ (∀ i, w3.frozen? ⟨o.q, i, none⟩ = false) ∧
      WkAt (w3.setCell ⟨o.q, 5, none⟩ v') ρ3 o vl vs v' g cg S { t with stk := e :: t.stk } ∧ Gr w ρ (w3.setCell ⟨o.q, 5, none⟩ v') ρ3 := by
  have hw := h.no hW
  obtain ⟨v', w3, hr, ho, hk, hl⟩ := run_pushI W vp t.stk.reverse hw.rp e gx 1 hg (by first | exact hn | simpa using hn)
  have hqv : ¬ some o.q = vp.ownBlock := fun e1 => by have := h.pr _ e1.symm; rw [h.qr] at this; cases this
  have hz := hk.size
  rcases hl with hl | hl
  · obtain ⟨h1, h2⟩ := hw.newP (ρ' := ρ) hk v' (e :: t.stk) (by rw [List.reverse_cons]; exact ho) (fun _ _ => rfl) (fun x e1 => h.pr x (by rw [← hl]; exact e1)) (fun i hi => hw.hi i (by omega))
    exact ⟨v', w3, ρ, hr, hk.cell' hw.c5 hqv, fun i => (hk.frozen (p := ⟨o.q, i, none⟩) hw.lt hqv).trans (hw.warm i), h1, (Gr.of hW).trans h2⟩
  · have hW3 : W.heap.size < w3.heap.size := (own_lt ho hl).2
    obtain ⟨h1, h2⟩ := hw.newP (ρ' := roleAt ρ W.heap.size 4) hk v' (e :: t.stk) (by rw [List.reverse_cons]; exact ho) (fun i hi => by unfold roleAt; rw [if_neg (by omega)]) (fun x e1 => by rw [hl] at e1; cases e1; unfold roleAt; rw [if_pos rfl]) (fun i hi => by unfold roleAt; rw [if_neg (by omega)]; exact hw.hi i (by omega))
    exact ⟨v', w3, _, hr, hk.cell' hw.c5 hqv, fun i => (hk.frozen (p := ⟨o.q, i, none⟩) hw.lt hqv).trans (hw.warm i), h1, (Gr.of hW).trans h2⟩

end Go.Proofs.Ytaneblecgjahbab.nfa

namespace Go.Proofs.Ytaneblecgjahbab.nfa
open Go.RowKit
set_option linter.unusedVariables false

/-- how many parts were not reached at this place -/
def unS (pl : Nat) (seen : List Nat) : Nat := seen.countP fun x => decide (x ≠ pl + 1)
/-- reach: from a part on (else from the pile's top), so many steps at most -/
def rchS (P : List Part) (n fr : Nat) : Nat → Option Nat → Wst → Wst
  | 0, _, t => t
  | f + 1, none, t => match t.stk with
    | [] => t
    | k :: st => rchS P n fr f (some k) { t with stk := st }
  | f + 1, some k, t =>
    if t.seen.getD k 0 = t.pl + 1 then rchS P n fr f none t
    else if (P.getD k p0).kind = 0 then rchS P n fr f none { t with seen := t.seen.set k (t.pl + 1), en := (fr : Int) }
    else if (P.getD k p0).kind = 1 then rchS P n fr f none { t with seen := t.seen.set k (t.pl + 1), L := t.L ++ [(k, fr)] }
    else if (P.getD k p0).kind = 3 then (if t.pl = 0 then rchS P n fr f (some (P.getD k p0).next) { t with seen := t.seen.set k (t.pl + 1) } else rchS P n fr f none { t with seen := t.seen.set k (t.pl + 1) })
    else if (P.getD k p0).kind = 4 then (if t.pl = n then rchS P n fr f (some (P.getD k p0).next) { t with seen := t.seen.set k (t.pl + 1) } else rchS P n fr f none { t with seen := t.seen.set k (t.pl + 1) })
    else if (P.getD k p0).kind = 2 then rchS P n fr f (some (P.getD k p0).next) { t with seen := t.seen.set k (t.pl + 1), stk := (P.getD k p0).other :: t.stk }
    else rchS P n fr f (some (P.getD k p0).next) { t with seen := t.seen.set k (t.pl + 1) }
section
variable {P : List Part} {n fr f k pl : Nat} {L : List (Nat × Nat)} {stk seen : List Nat} {en : Int}
theorem rch_seen (h : seen.getD k 0 = pl + 1) : rchS P n fr (f + 1) (some k) ⟨pl, L, stk, seen, en⟩ = rchS P n fr f none ⟨pl, L, stk, seen, en⟩ := by
  rw [rchS]; exact if_pos h
theorem rch_0 (h : ¬ seen.getD k 0 = pl + 1) (hk : (P.getD k p0).kind = 0) : rchS P n fr (f + 1) (some k) ⟨pl, L, stk, seen, en⟩ = rchS P n fr f none ⟨pl, L, stk, seen.set k (pl + 1), (fr : Int)⟩ := by
  rw [rchS]; exact (if_neg h).trans (if_pos hk)
theorem rch_1 (h : ¬ seen.getD k 0 = pl + 1) (hk : (P.getD k p0).kind = 1) : rchS P n fr (f + 1) (some k) ⟨pl, L, stk, seen, en⟩ = rchS P n fr f none ⟨pl, L ++ [(k, fr)], stk, seen.set k (pl + 1), en⟩ := by
  rw [rchS]; exact (if_neg h).trans ((if_neg (by rw [hk]; decide)).trans (if_pos hk))
theorem rch_2 (h : ¬ seen.getD k 0 = pl + 1) (hk : (P.getD k p0).kind = 2) : rchS P n fr (f + 1) (some k) ⟨pl, L, stk, seen, en⟩ = rchS P n fr f (some (P.getD k p0).next) ⟨pl, L, (P.getD k p0).other :: stk, seen.set k (pl + 1), en⟩ := by
  rw [rchS]; exact (if_neg h).trans ((if_neg (by rw [hk]; decide)).trans ((if_neg (by rw [hk]; decide)).trans ((if_neg (by rw [hk]; decide)).trans ((if_neg (by rw [hk]; decide)).trans (if_pos hk)))))
theorem rch_3 (h : ¬ seen.getD k 0 = pl + 1) (hk : (P.getD k p0).kind = 3) : rchS P n fr (f + 1) (some k) ⟨pl, L, stk, seen, en⟩ = if pl = 0 then rchS P n fr f (some (P.getD k p0).next) ⟨pl, L, stk, seen.set k (pl + 1), en⟩ else rchS P n fr f none ⟨pl, L, stk, seen.set k (pl + 1), en⟩ := by
  rw [rchS]; exact (if_neg h).trans ((if_neg (by rw [hk]; decide)).trans ((if_neg (by rw [hk]; decide)).trans (if_pos hk)))
theorem rch_4 (h : ¬ seen.getD k 0 = pl + 1) (hk : (P.getD k p0).kind = 4) : rchS P n fr (f + 1) (some k) ⟨pl, L, stk, seen, en⟩ = if pl = n then rchS P n fr f (some (P.getD k p0).next) ⟨pl, L, stk, seen.set k (pl + 1), en⟩ else rchS P n fr f none ⟨pl, L, stk, seen.set k (pl + 1), en⟩ := by
  rw [rchS]; exact (if_neg h).trans ((if_neg (by rw [hk]; decide)).trans ((if_neg (by rw [hk]; decide)).trans ((if_neg (by rw [hk]; decide)).trans (if_pos hk))))
end
theorem un_set {pl : Nat} : ∀ {seen : List Nat} {k : Nat}, k < seen.length → ¬ seen.getD k 0 = pl + 1 → unS pl (seen.set k (pl + 1)) + 1 = unS pl seen
  | x :: l, 0, _, h => by
    have h : ¬ x = pl + 1 := by simpa using h
    unfold unS
    simp [List.countP_cons, h]
  | x :: l, k + 1, hk, h => by
    have := un_set (pl := pl) (seen := l) (k := k) (by simpa using hk) (by simpa using h)
    unfold unS at this ⊢
    simp only [List.set_cons_succ, List.countP_cons]
    omega
theorem un_le (pl : Nat) (seen : List Nat) : unS pl seen ≤ seen.length := List.countP_le_length
/-- a program's parts lead on to its own -/
def okP (P : List Part) : Prop := ∀ p ∈ P, p.next < P.length ∧ p.other < P.length ∧ p.kind ≤ 4
theorem okP.get {P : List Part} (h : okP P) {k : Nat} (hk : k < P.length) : (P.getD k p0).next < P.length ∧ (P.getD k p0).other < P.length ∧ (P.getD k p0).kind ≤ 4 := by
  rw [List.getD_eq_getElem?_getD, List.getElem?_eq_getElem hk]
  exact h _ (List.getElem_mem hk)
/-- a state that may be -/
structure OkW (P : List Part) (t : Wst) : Prop where
  len : t.seen.length = P.length
  stk : ∀ k ∈ t.stk, k < P.length
  big : t.L.length + unS t.pl t.seen ≤ P.length
  pile : t.stk.length + unS t.pl t.seen ≤ P.length + 1
  lt : ∀ x ∈ t.L, x.1 < P.length
theorem rch_pl (P : List Part) (n fr : Nat) : ∀ (f : Nat) (m : Option Nat) (t : Wst), (rchS P n fr f m t).pl = t.pl
  | 0, m, t => by cases m <;> rfl
  | f + 1, none, t => by
    rw [rchS]
    split
    · rfl
    · exact rch_pl P n fr f _ _
  | f + 1, some k, t => by
    rw [rchS]
    split
    · exact rch_pl P n fr f _ _
    · split
      · exact rch_pl P n fr f _ _
      · split
        · exact rch_pl P n fr f _ _
        · split
          · split
            · exact rch_pl P n fr f _ _
            · exact rch_pl P n fr f _ _
          · split
            · split
              · exact rch_pl P n fr f _ _
              · exact rch_pl P n fr f _ _
            · split
              · exact rch_pl P n fr f _ _
              · exact rch_pl P n fr f _ _
section
variable {P : List Part} {k pl : Nat} {L : List (Nat × Nat)} {stk seen : List Nat} {en en' : Int}
theorem OkW.mark (h : OkW P ⟨pl, L, stk, seen, en⟩) (hk : k < P.length) (hs : ¬ seen.getD k 0 = pl + 1) : OkW P ⟨pl, L, stk, seen.set k (pl + 1), en'⟩ := by
  have hu := un_set (pl := pl) (seen := seen) (k := k) (by rw [h.len]; exact hk) hs
  exact ⟨by simpa using h.len, h.stk, by have := h.big; simp only at this ⊢; omega, by have := h.pile; simp only at this ⊢; omega, h.lt⟩
theorem OkW.take (h : OkW P ⟨pl, L, stk, seen, en⟩) (hk : k < P.length) (hs : ¬ seen.getD k 0 = pl + 1) (fr : Nat) : OkW P ⟨pl, L ++ [(k, fr)], stk, seen.set k (pl + 1), en'⟩ := by
  have hu := un_set (pl := pl) (seen := seen) (k := k) (by rw [h.len]; exact hk) hs
  refine ⟨by simpa using h.len, h.stk, by have := h.big; simp only [List.length_append, List.length_singleton] at this ⊢; omega, by have := h.pile; simp only at this ⊢; omega, fun x hx => ?_⟩
  rcases List.mem_append.1 hx with hx | hx
  · exact h.lt x hx
  · simp only [List.mem_singleton] at hx
    rw [hx]
    exact hk
theorem OkW.fork (h : OkW P ⟨pl, L, stk, seen, en⟩) (hk : k < P.length) (hs : ¬ seen.getD k 0 = pl + 1) {j : Nat} (hj : j < P.length) : OkW P ⟨pl, L, j :: stk, seen.set k (pl + 1), en'⟩ := by
  have hu := un_set (pl := pl) (seen := seen) (k := k) (by rw [h.len]; exact hk) hs
  refine ⟨by simpa using h.len, fun x hx => ?_, by have := h.big; simp only at this ⊢; omega, by have := h.pile; simp only [List.length_cons] at this ⊢; omega, h.lt⟩
  rcases List.mem_cons.1 hx with hx | hx
  · rw [hx]; exact hj
  · exact h.stk x hx
end
/-- how far it is at most -/
def muS (m : Option Nat) (t : Wst) : Nat := 3 * unS t.pl t.seen + 2 * t.stk.length + (if m.isSome then 1 else 0)

end Go.Proofs.Ytaneblecgjahbab.nfa
