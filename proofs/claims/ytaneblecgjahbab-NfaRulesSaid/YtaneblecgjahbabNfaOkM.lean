/- Package nfa, plainly: a tree's parts lead on to its own. Package nfa, plainly: what a tree matches, and that its parts lead just there. A scope of two labels, the measure a number of one's own. No program is named here. -/
import Derived.Test.YtaneblecgjahbabScopesM
import Derived.Test.YtaneblecgjahbabNfaLay2M

namespace Go.Proofs.Ytaneblecgjahbab.nfa
open Go.RowKit Go.Proofs.Ytaneblecgjahbab.tre Go.Proofs.Ytaneblecgjahbab.cls
set_option linter.unusedVariables false

/-- what is laid leads on below B -/
def BdS (B : Nat) (ps : List Part) : Prop := ∀ p ∈ ps, p.next < B ∧ p.other < B ∧ p.kind ≤ 4
theorem BdS.add {B : Nat} {ps : List Part} (h : BdS B ps) {p : Part} (hp : p.next < B ∧ p.other < B ∧ p.kind ≤ 4) : BdS B (ps ++ [p]) := fun x hx => by
  rcases List.mem_append.1 hx with hx | hx
  · exact h x hx
  · simp only [List.mem_singleton] at hx
    rw [hx]
    exact hp
theorem BdS.set {B : Nat} {ps : List Part} (h : BdS B ps) (i n : Nat) (hn : n < B) : BdS B (setN ps i n) := fun x hx => by
  obtain ⟨j, hj, rfl⟩ := List.getElem_of_mem hx
  unfold setN at hj ⊢
  rw [List.getElem_modify]
  have hj' : j < ps.length := by simpa using hj
  have := h _ (List.getElem_mem hj')
  split
  · exact ⟨hn, this.2.1, this.2.2⟩
  · exact this
def BdC (core : Nat → List Part → Nat × List Part) : Prop := ∀ (B nx : Nat) (qs : List Part), BdS B qs → nx < B → (core nx qs).2.length ≤ B → BdS B (core nx qs).2 ∧ (core nx qs).1 < B
theorem wrap_bd {m : Option (Bool × Bool)} {core : Nat → List Part → Nat × List Part} (h : BdC core) (hp : ∀ nx qs, ∃ l, (core nx qs).2 = qs ++ l) : BdC (wrapM m core) := by
  intro B next ps hb hn hl
  rcases m with _ | ⟨no, ag⟩
  · exact h B next ps hb hn hl
  · cases ag with
    | true =>
      obtain ⟨l, e⟩ := hp ps.length (ps ++ [⟨2, nul, 0, next⟩])
      have hl2 : (core ps.length (ps ++ [⟨2, nul, 0, next⟩])).2.length ≤ B := by
        have h1 : (setN (core ps.length (ps ++ [⟨2, nul, 0, next⟩])).2 ps.length (core ps.length (ps ++ [⟨2, nul, 0, next⟩])).1).length ≤ B := hl
        rwa [setN_len] at h1
      have hlt : ps.length < B := by rw [e] at hl2; simp at hl2; omega
      obtain ⟨h1, h2⟩ := h B ps.length (ps ++ [⟨2, nul, 0, next⟩]) (hb.add ⟨by show 0 < B; omega, hn, Nat.le_of_ble_eq_true rfl⟩) hlt hl2
      refine ⟨h1.set _ _ h2, ?_⟩
      show (if no = true then _ else _) < B
      split
      · exact hlt
      · exact h2
    | false =>
      have hl2 : ((core next ps).2 ++ [(⟨2, nul, (core next ps).1, next⟩ : Part)]).length ≤ B := hl
      rw [List.length_append] at hl2
      simp only [List.length_singleton] at hl2
      obtain ⟨h1, h2⟩ := h B next ps hb hn (by omega)
      exact ⟨h1.add ⟨h2, hn, Nat.le_of_ble_eq_true rfl⟩, by show (core next ps).2.length < B; omega⟩
theorem leaf_bd (k : Int) (f : Nat → Bool) : BdC (leafM k f) := by
  intro B nx qs hb hn hl
  have hz : 0 < B := by omega
  unfold leafM addS at hl ⊢
  split
  · rw [if_pos (by assumption)] at hl
    exact ⟨hb.add ⟨hn, hz, Nat.le_of_ble_eq_true rfl⟩, by simp at hl ⊢; omega⟩
  · rw [if_neg (by assumption)] at hl
    split
    · rw [if_pos (by assumption)] at hl
      exact ⟨hb.add ⟨hn, hz, Nat.le_of_ble_eq_true rfl⟩, by simp at hl ⊢; omega⟩
    · rw [if_neg (by assumption)] at hl
      split
      · rw [if_pos (by assumption)] at hl
        exact ⟨hb.add ⟨hn, hz, Nat.le_of_ble_eq_true rfl⟩, by simp at hl ⊢; omega⟩
      · exact ⟨hb, hn⟩
theorem lay_bd : ∀ (t : Tr) (m : Option (Bool × Bool)) (bk : Bool), BdC (layM t m bk)
  | .mk k f [], m, bk => by
    have e : layM (.mk k f []) m bk = wrapM m (leafM k f) := by funext nx qs; exact layM_nil k f m bk nx qs
    rw [e]
    exact wrap_bd (leaf_bd k f) (leaf_pre k f)
  | .mk k f [u], m, bk => by
    have e : layM (.mk k f [u]) m bk = layM u (nextM m k) bk := by funext nx qs; exact layM_one k f u m bk nx qs
    rw [e]
    exact lay_bd u _ bk
  | .mk k f [a, b], m, bk => by
    have e : layM (.mk k f [a, b]) m bk = wrapM m (twoM k a b bk) := by funext nx qs; exact layM_two k f a b m bk nx qs
    rw [e]
    have ha := lay_bd a none bk
    have hb := lay_bd b none bk
    refine wrap_bd ?_ (fun nx qs => ?_)
    · intro B nx qs hq hn hl
      unfold twoM at hl ⊢
      by_cases hk : k = 2
      · rw [if_pos hk] at hl ⊢
        cases bk with
        | true =>
          have hl : (layM b none true (layM a none true nx qs).1 (layM a none true nx qs).2).2.length ≤ B := hl
          obtain ⟨l, e⟩ := lay_pre b none true (layM a none true nx qs).1 (layM a none true nx qs).2
          have h1 : (layM a none true nx qs).2.length ≤ B := by rw [e, List.length_append] at hl; omega
          obtain ⟨h2, h3⟩ := ha B nx qs hq hn h1
          exact hb B _ _ h2 h3 hl
        | false =>
          have hl : (layM a none false (layM b none false nx qs).1 (layM b none false nx qs).2).2.length ≤ B := hl
          obtain ⟨l, e⟩ := lay_pre a none false (layM b none false nx qs).1 (layM b none false nx qs).2
          have h1 : (layM b none false nx qs).2.length ≤ B := by rw [e, List.length_append] at hl; omega
          obtain ⟨h2, h3⟩ := hb B nx qs hq hn h1
          exact ha B _ _ h2 h3 hl
      · rw [if_neg hk] at hl ⊢
        unfold addS at hl ⊢
        have hl : ((layM b none bk nx (layM a none bk nx qs).2).2 ++ [(⟨2, nul, (layM a none bk nx qs).1, (layM b none bk nx (layM a none bk nx qs).2).1⟩ : Part)]).length ≤ B := hl
        rw [List.length_append] at hl
        simp only [List.length_singleton] at hl
        obtain ⟨l, e⟩ := lay_pre b none bk nx (layM a none bk nx qs).2
        have h1 : (layM a none bk nx qs).2.length ≤ B := by rw [e, List.length_append] at hl; omega
        obtain ⟨h2, h3⟩ := ha B nx qs hq hn h1
        obtain ⟨h4, h5⟩ := hb B nx _ h2 hn (by omega)
        exact ⟨h4.add ⟨h3, h5, Nat.le_of_ble_eq_true rfl⟩, by show (layM b none bk nx (layM a none bk nx qs).2).2.length < B; omega⟩
    · unfold twoM
      by_cases hk : k = 2
      · rw [if_pos hk]
        cases bk with
        | true =>
          obtain ⟨l, e⟩ := lay_pre a none true nx qs
          obtain ⟨l', e'⟩ := lay_pre b none true (layM a none true nx qs).1 (layM a none true nx qs).2
          exact ⟨l ++ l', by show (layM b none true _ _).2 = _; rw [e', e, List.append_assoc]⟩
        | false =>
          obtain ⟨l, e⟩ := lay_pre b none false nx qs
          obtain ⟨l', e'⟩ := lay_pre a none false (layM b none false nx qs).1 (layM b none false nx qs).2
          exact ⟨l ++ l', by show (layM a none false _ _).2 = _; rw [e', e, List.append_assoc]⟩
      · rw [if_neg hk]
        obtain ⟨l, e⟩ := lay_pre a none bk nx qs
        obtain ⟨l', e'⟩ := lay_pre b none bk nx (layM a none bk nx qs).2
        exact ⟨l ++ l' ++ [⟨2, nul, (layM a none bk nx qs).1, (layM b none bk nx (layM a none bk nx qs).2).1⟩], (congrArg (· ++ [_]) (e'.trans (congrArg (· ++ l') e))).trans (by simp only [List.append_assoc])⟩
  | .mk k f (x :: y :: u :: v), m, bk => by
    intro B nx qs hq hn hl
    have e : layM (.mk k f (x :: y :: u :: v)) m bk nx qs = (nx, qs) := by rw [layM.eq_def]
    rw [e]
    exact ⟨hq, hn⟩
/-- a tree's program: it begins with a part of its own, and they lead on to their own -/
theorem prog_ok (t : Tr) (bk : Bool) : okP (progS t bk).2 ∧ (progS t bk).1 < (progS t bk).2.length ∧ (progS t bk).2.length ≤ t.size + 1 := by
  obtain ⟨l, e⟩ := lay_pre t none bk 0 [p0]
  have e : (progS t bk).2 = [p0] ++ l := e
  have hpos : 0 < (progS t bk).2.length := by rw [e]; simp
  have h := lay_bd t none bk (progS t bk).2.length 0 [p0] (fun p hp => by simp only [List.mem_singleton] at hp; rw [hp]; exact ⟨hpos, hpos, Nat.le_of_ble_eq_true rfl⟩) hpos (Nat.le_refl _)
  have hl := (lay_len t none bk 0 [p0]).1
  simp at hl
  exact ⟨h.1, h.2, by show (layM t none bk 0 [p0]).2.length ≤ _; omega⟩

end Go.Proofs.Ytaneblecgjahbab.nfa

namespace Go.Proofs.Ytaneblecgjahbab.nfa
open Go.RowKit Go.Proofs.Ytaneblecgjahbab.sum Go.Proofs.Ytaneblecgjahbab.kept Go.Proofs.Ytaneblecgjahbab.pop Go.Proofs.Ytaneblecgjahbab.cls Go.Proofs.Ytaneblecgjahbab.tre Go.Proofs.Ytaneblecgjahbab.ere
set_option linter.unusedVariables false

/-- once, or again and again -/
inductive Tg (R : Nat → Nat → Prop) : Nat → Nat → Prop where
  | one {a b : Nat} : R a b → Tg R a b
  | more {a b c : Nat} : R a b → Tg R b c → Tg R a c
theorem Tg.trans {R : Nat → Nat → Prop} {a b c : Nat} (h : Tg R a b) (g : Tg R b c) : Tg R a c := by
  induction h with
  | one h => exact .more h g
  | more h _ ih => exact .more h (ih g)
theorem Tg.mono {R S : Nat → Nat → Prop} (hs : ∀ a b, R a b → S a b) {a b : Nat} (h : Tg R a b) : Tg S a b := by
  induction h with
  | one h => exact .one (hs _ _ h)
  | more h _ ih => exact .more (hs _ _ h) ih
/-- below signs: none, or what they let be left out, come again -/
def Wm (m : Option (Bool × Bool)) (R : Nat → Nat → Prop) (a e : Nat) : Prop :=
  match m with
  | none => R a e
  | some (no, ag) => (no = true ∧ a = e) ∨ R a e ∨ (ag = true ∧ Tg R a e)
/-- signs above signs -/
theorem wm_two {R : Nat → Nat → Prop} {no ag no' ag' : Bool} (a e : Nat) : Wm (some (no, ag)) (Wm (some (no', ag')) R) a e ↔ Wm (some (no || no', ag || ag')) R a e := by
  have hf : ∀ {x y : Nat}, Tg (Wm (some (no', ag')) R) x y → (no' = true ∧ x = y) ∨ Tg R x y := by
    intro x y h
    induction h with
    | one h =>
      rcases h with h | h | h
      · exact .inl h
      · exact .inr (.one h)
      · exact .inr h.2
    | more h _ ih =>
      rcases h with ⟨h1, rfl⟩ | h | h
      · exact ih
      · rcases ih with ⟨_, rfl⟩ | ih
        · exact .inr (.one h)
        · exact .inr (.more h ih)
      · rcases ih with ⟨_, rfl⟩ | ih
        · exact .inr h.2
        · exact .inr (h.2.trans ih)
  have hg : ∀ {x y : Nat}, Tg R x y → Tg (Wm (some (no', ag')) R) x y := fun h => h.mono fun a b h => .inr (.inl h)
  constructor
  · rintro (⟨h, rfl⟩ | (⟨h, rfl⟩ | h | ⟨h, h2⟩) | ⟨h, h2⟩)
    · exact .inl ⟨by simp [h], rfl⟩
    · exact .inl ⟨by simp [h], rfl⟩
    · exact .inr (.inl h)
    · exact .inr (.inr ⟨by simp [h], h2⟩)
    · rcases hf h2 with ⟨h3, rfl⟩ | h3
      · exact .inl ⟨by simp [h3], rfl⟩
      · exact .inr (.inr ⟨by simp [h], h3⟩)
  · rintro (⟨h, rfl⟩ | h | ⟨h, h2⟩)
    · rcases Bool.or_eq_true .. |>.mp h with h | h
      · exact .inl ⟨h, rfl⟩
      · exact .inr (.inl (.inl ⟨h, rfl⟩))
    · exact .inr (.inl (.inr (.inl h)))
    · rcases Bool.or_eq_true .. |>.mp h with h | h
      · exact .inr (.inr ⟨h, hg h2⟩)
      · exact .inr (.inl (.inr (.inr ⟨h, h2⟩)))
/-- what a tree matches, of a text (its bytes, how many), from a place to another one -/
def Mt (s : Nat → Nat) (n : Nat) : Tr → Nat → Nat → Prop
  | .mk k f [], a, e => if k = 1 then a < n ∧ f (s a) = true ∧ e = a + 1 else if k = 7 then a = 0 ∧ a = e else if k = 8 then a = n ∧ a = e else a = e
  | .mk k f [u], a, e => Wm (some (decide (k ≠ 5), decide (k ≠ 6))) (Mt s n u) a e
  | .mk k f [x, y], a, e => if k = 2 then ∃ b, Mt s n x a b ∧ Mt s n y b e else Mt s n x a e ∨ Mt s n y a e
  | .mk k f (_ :: _ :: _ :: _), a, e => False
theorem mt_nil (s : Nat → Nat) (n : Nat) (k : Int) (f : Nat → Bool) (a e : Nat) : Mt s n (.mk k f []) a e = if k = 1 then a < n ∧ f (s a) = true ∧ e = a + 1 else if k = 7 then a = 0 ∧ a = e else if k = 8 then a = n ∧ a = e else a = e := by rw [Mt.eq_def]
theorem mt_one (s : Nat → Nat) (n : Nat) (k : Int) (f : Nat → Bool) (u : Tr) (a e : Nat) : Mt s n (.mk k f [u]) a e = Wm (some (decide (k ≠ 5), decide (k ≠ 6))) (Mt s n u) a e := by rw [Mt.eq_def]
theorem mt_two (s : Nat → Nat) (n : Nat) (k : Int) (f : Nat → Bool) (x y : Tr) (a e : Nat) : Mt s n (.mk k f [x, y]) a e = if k = 2 then ∃ b, Mt s n x a b ∧ Mt s n y b e else Mt s n x a e ∨ Mt s n y a e := by rw [Mt.eq_def]

section
variable (P : List Part) (s : Nat → Nat) (n e : Nat)
/-- from a part at a place the last part is come to at e, by so many steps at most -/
def AccN : Nat → Nat → Nat → Prop
  | 0, _, _ => False
  | c + 1, k, a => ((P.getD k p0).kind = 0 ∧ a = e) ∨ ((P.getD k p0).kind = 1 ∧ a < n ∧ (P.getD k p0).f (s a) = true ∧ AccN c (P.getD k p0).next (a + 1)) ∨ ((P.getD k p0).kind = 2 ∧ (AccN c (P.getD k p0).next a ∨ AccN c (P.getD k p0).other a)) ∨ ((P.getD k p0).kind = 3 ∧ a = 0 ∧ AccN c (P.getD k p0).next a) ∨ ((P.getD k p0).kind = 4 ∧ a = n ∧ AccN c (P.getD k p0).next a)
def Acc (k a : Nat) : Prop := ∃ c, AccN P s n e c k a
end
section
variable {P : List Part} {s : Nat → Nat} {n e : Nat}
theorem AccN.succ : ∀ {c k a : Nat}, AccN P s n e c k a → AccN P s n e (c + 1) k a
  | 0, _, _, h => h.elim
  | c + 1, k, a, h => by
    rcases h with h | ⟨h1, h2, h3, h4⟩ | ⟨h1, h2⟩ | ⟨h1, h2, h3⟩ | ⟨h1, h2, h3⟩
    · exact .inl h
    · exact .inr (.inl ⟨h1, h2, h3, h4.succ⟩)
    · exact .inr (.inr (.inl ⟨h1, h2.imp AccN.succ AccN.succ⟩))
    · exact .inr (.inr (.inr (.inl ⟨h1, h2, h3.succ⟩)))
    · exact .inr (.inr (.inr (.inr ⟨h1, h2, h3.succ⟩)))
theorem AccN.mono {c d k a : Nat} (h : AccN P s n e c k a) (hd : c ≤ d) : AccN P s n e d k a := by
  induction hd with
  | refl => exact h
  | step _ ih => exact ih.succ
theorem AccN.acc {c k a : Nat} (h : AccN P s n e c k a) : Acc P s n e k a := ⟨c, h⟩

/-- from such a part on: this, and then from the next one -/
def Leads (P : List Part) (s : Nat → Nat) (n : Nat) (R : Nat → Nat → Prop) (k nx : Nat) : Prop :=
  ∀ e, (∀ c a, AccN P s n e c k a → ∃ b d, d ≤ c ∧ R a b ∧ AccN P s n e d nx b) ∧ (∀ a b, R a b → Acc P s n e nx b → Acc P s n e k a)
/-- the parts from a place on are these -/
def Agree (P : List Part) (lo : Nat) (qs : List Part) : Prop := ∀ i, lo ≤ i → i < qs.length → P.getD i p0 = qs.getD i p0
/-- what is laid leads where it says, whatever else there is -/
def CoreOk (P : List Part) (s : Nat → Nat) (n : Nat) (core : Nat → List Part → Nat × List Part) (R : Nat → Nat → Prop) : Prop :=
  (∀ nx qs, ∃ l, (core nx qs).2 = qs ++ l) ∧ ∀ nx qs, Agree P qs.length (core nx qs).2 → Leads P s n R (core nx qs).1 nx

theorem getD_app_len (qs : List Part) (p : Part) : (qs ++ [p]).getD qs.length p0 = p := by
  rw [List.getD_eq_getElem?_getD, List.getElem?_append_right (Nat.le_refl _)]
  simp
theorem getD_app_lt {qs l : List Part} {i : Nat} (h : i < qs.length) : (qs ++ l).getD i p0 = qs.getD i p0 := by
  rw [List.getD_eq_getElem?_getD, List.getElem?_append_left h, ← List.getD_eq_getElem?_getD]
theorem setN_get (ps : List Part) (i n j : Nat) (h : j ≠ i) : (setN ps i n).getD j p0 = ps.getD j p0 := by
  rw [List.getD_eq_getElem?_getD, List.getD_eq_getElem?_getD]
  unfold setN
  rw [List.getElem?_modify]
  simp only [if_neg (fun e => h e.symm : ¬ i = j)]
  cases ps[j]? <;> rfl
theorem setN_at (ps : List Part) (i n : Nat) (h : i < ps.length) : (setN ps i n).getD i p0 = { ps.getD i p0 with next := n } := by
  rw [List.getD_eq_getElem?_getD, List.getD_eq_getElem?_getD]
  unfold setN
  rw [List.getElem?_modify, List.getElem?_eq_getElem h]
  simp
theorem leads_one {R : Nat → Nat → Prop} {k nx : Nat} (h : Leads P s n R k nx) : Leads P s n (fun a b => R a b) k nx := h
/-- a fork: one, or the other -/
theorem fork_iff {k x y : Nat} {f : Nat → Bool} (hk : P.getD k p0 = ⟨2, f, x, y⟩) {e a : Nat} : Acc P s n e k a ↔ Acc P s n e x a ∨ Acc P s n e y a := by
  constructor
  · rintro ⟨_ | c, h⟩
    · exact h.elim
    · rw [AccN, hk] at h
      rcases h with ⟨h, -⟩ | ⟨h, -⟩ | ⟨-, h⟩ | ⟨h, -⟩ | ⟨h, -⟩
      · cases h
      · cases h
      · exact h.imp AccN.acc AccN.acc
      · cases h
      · cases h
  · rintro (⟨c, h⟩ | ⟨c, h⟩)
    · exact ⟨c + 1, by rw [AccN, hk]; exact .inr (.inr (.inl ⟨rfl, .inl h⟩))⟩
    · exact ⟨c + 1, by rw [AccN, hk]; exact .inr (.inr (.inl ⟨rfl, .inr h⟩))⟩
theorem fork_n {k x y : Nat} {f : Nat → Bool} (hk : P.getD k p0 = ⟨2, f, x, y⟩) {e a c : Nat} (h : AccN P s n e c k a) : ∃ d, d < c ∧ (AccN P s n e d x a ∨ AccN P s n e d y a) := by
  rcases c with _ | c
  · exact h.elim
  · rw [AccN, hk] at h
    rcases h with ⟨h, -⟩ | ⟨h, -⟩ | ⟨-, h⟩ | ⟨h, -⟩ | ⟨h, -⟩
    · cases h
    · cases h
    · exact ⟨c, Nat.lt_succ_self c, h⟩
    · cases h
    · cases h
/-- a fork that its own way leads back to -/
theorem star_leads {R : Nat → Nat → Prop} {F x nx : Nat} {f : Nat → Bool} (hF : P.getD F p0 = ⟨2, f, x, nx⟩) (h : Leads P s n R x F) : Leads P s n (fun a b => a = b ∨ Tg R a b) F nx := by
  intro e
  constructor
  · intro c
    induction c using Nat.strongRecOn with
    | _ c ih =>
      intro a ha
      obtain ⟨d, hd, ha⟩ := fork_n hF ha
      rcases ha with ha | ha
      · obtain ⟨b, d', hd', hR, hb⟩ := (h e).1 d a ha
        obtain ⟨b', d'', hd'', hT, hb'⟩ := ih d' (by omega) b hb
        refine ⟨b', d'', by omega, ?_, hb'⟩
        rcases hT with rfl | hT
        · exact .inr (.one hR)
        · exact .inr (.more hR hT)
      · exact ⟨a, d, by omega, .inl rfl, ha⟩
  · rintro a b (rfl | hT) hb
    · exact (fork_iff hF).2 (.inr hb)
    · induction hT with
      | one hR => exact (fork_iff hF).2 (.inl ((h e).2 _ _ hR ((fork_iff hF).2 (.inr hb))))
      | more hR _ ih => exact (fork_iff hF).2 (.inl ((h e).2 _ _ hR (ih hb)))
theorem leads_seq {R S : Nat → Nat → Prop} {k x nx : Nat} (h : Leads P s n R k x) (g : Leads P s n S x nx) : Leads P s n (fun a e => ∃ b, R a b ∧ S b e) k nx := by
  intro e
  constructor
  · intro c a ha
    obtain ⟨b, d, hd, hR, hb⟩ := (h e).1 c a ha
    obtain ⟨b', d', hd', hS, hb'⟩ := (g e).1 d b hb
    exact ⟨b', d', by omega, ⟨b, hR, hS⟩, hb'⟩
  · rintro a b ⟨y, hR, hS⟩ hb
    exact (h e).2 _ _ hR ((g e).2 _ _ hS hb)
theorem leads_fork {R S : Nat → Nat → Prop} {F x y nx : Nat} {f : Nat → Bool} (hF : P.getD F p0 = ⟨2, f, x, y⟩) (h : Leads P s n R x nx) (g : Leads P s n S y nx) : Leads P s n (fun a e => R a e ∨ S a e) F nx := by
  intro e
  constructor
  · intro c a ha
    obtain ⟨d, hd, ha⟩ := fork_n hF ha
    rcases ha with ha | ha
    · obtain ⟨b, d', hd', hR, hb⟩ := (h e).1 d a ha
      exact ⟨b, d', by omega, .inl hR, hb⟩
    · obtain ⟨b, d', hd', hR, hb⟩ := (g e).1 d a ha
      exact ⟨b, d', by omega, .inr hR, hb⟩
  · rintro a b (hR | hR) hb
    · exact (fork_iff hF).2 (.inl ((h e).2 _ _ hR hb))
    · exact (fork_iff hF).2 (.inr ((g e).2 _ _ hR hb))
theorem leads_here (nx : Nat) : Leads P s n (fun a e => a = e) nx nx := by
  intro e
  exact ⟨fun c a h => ⟨a, c, Nat.le_refl _, rfl, h⟩, fun a b h hb => by rw [h]; exact hb⟩
theorem Leads.eqv {R S : Nat → Nat → Prop} {k nx : Nat} (h : Leads P s n R k nx) (he : ∀ a b, R a b ↔ S a b) : Leads P s n S k nx := by
  have : R = S := by funext a b; exact propext (he a b)
  rw [← this]
  exact h

theorem wrap_ok {m : Option (Bool × Bool)} {core : Nat → List Part → Nat × List Part} {R : Nat → Nat → Prop} (hm : ∀ no ag, m = some (no, ag) → no = true ∨ ag = true) (h : CoreOk P s n core R) : CoreOk P s n (wrapM m core) (Wm m R) := by
  refine ⟨wrap_pre h.1, fun nx qs hA => ?_⟩
  rcases m with _ | ⟨no, ag⟩
  · exact h.2 nx qs hA
  · cases ag with
    | true =>
      obtain ⟨l, hl⟩ := h.1 qs.length (qs ++ [⟨2, nul, 0, nx⟩])
      have hlen : qs.length < (core qs.length (qs ++ [⟨2, nul, 0, nx⟩])).2.length := by rw [hl]; simp
      have hw : (wrapM (some (no, true)) core nx qs).2 = setN (core qs.length (qs ++ [⟨2, nul, 0, nx⟩])).2 qs.length (core qs.length (qs ++ [⟨2, nul, 0, nx⟩])).1 := rfl
      rw [hw] at hA
      have hF : P.getD qs.length p0 = ⟨2, nul, (core qs.length (qs ++ [⟨2, nul, 0, nx⟩])).1, nx⟩ := by
        rw [hA qs.length (Nat.le_refl _) (by rw [setN_len]; exact hlen), setN_at _ _ _ hlen, hl, getD_app_lt (by simp), getD_app_len]
      have hc : Leads P s n R (core qs.length (qs ++ [⟨2, nul, 0, nx⟩])).1 qs.length := h.2 _ _ fun i h1 h2 => by
        have h3 : qs.length + 1 ≤ i := by simpa using h1
        rw [hA i (by omega) (by rw [setN_len]; exact h2), setN_get _ _ _ _ (by omega)]
      have hs := star_leads hF hc
      cases no with
      | true =>
        refine Leads.eqv (show Leads P s n _ qs.length nx from hs) fun a b => ?_
        constructor
        · rintro (h | h)
          · exact .inl ⟨rfl, h⟩
          · exact .inr (.inr ⟨rfl, h⟩)
        · rintro (h | h | h)
          · exact .inl h.2
          · exact .inr (.one h)
          · exact .inr h.2
      | false =>
        refine Leads.eqv (show Leads P s n _ (core qs.length (qs ++ [⟨2, nul, 0, nx⟩])).1 nx from leads_seq hc hs) fun a b => ?_
        constructor
        · rintro ⟨y, h, rfl | h2⟩
          · exact .inr (.inl h)
          · exact .inr (.inr ⟨rfl, .more h h2⟩)
        · rintro (⟨h, -⟩ | h | ⟨-, h⟩)
          · cases h
          · exact ⟨b, h, .inl rfl⟩
          · cases h with
            | one h => exact ⟨b, h, .inl rfl⟩
            | more h h2 => exact ⟨_, h, .inr h2⟩
    | false =>
      obtain ⟨l, hl⟩ := h.1 nx qs
      have hno : no = true := by rcases hm no false rfl with h | h; exact h; cases h
      have hw : wrapM (some (no, false)) core nx qs = ((core nx qs).2.length, (core nx qs).2 ++ [⟨2, nul, (core nx qs).1, nx⟩]) := rfl
      rw [hw] at hA ⊢
      have hF : P.getD (core nx qs).2.length p0 = ⟨2, nul, (core nx qs).1, nx⟩ := by
        rw [hA _ (by rw [hl]; simp) (by simp), getD_app_len]
      have hc : Leads P s n R (core nx qs).1 nx := h.2 _ _ fun i h1 h2 => by
        rw [hA i h1 (by simp; omega), getD_app_lt h2]
      refine Leads.eqv (leads_fork hF hc (leads_here nx)) fun a b => ?_
      constructor
      · rintro (h | h)
        · exact .inr (.inl h)
        · exact .inl ⟨hno, h⟩
      · rintro (h | h | ⟨h, -⟩)
        · exact .inr h.2
        · exact .inl h
        · cases h
theorem leads_part {k nx : Nat} {p : Part} (hp : P.getD k p0 = p) (hn : p.next = nx) {R : Nat → Nat → Prop}
    (h1 : ∀ e c a, AccN P s n e (c + 1) k a → ∃ b, R a b ∧ AccN P s n e c nx b) (h2 : ∀ e c a b, R a b → AccN P s n e c nx b → AccN P s n e (c + 1) k a) : Leads P s n R k nx := by
  intro e
  constructor
  · rintro (_ | c) a h
    · exact h.elim
    · obtain ⟨b, hR, hb⟩ := h1 e c a h
      exact ⟨b, c, Nat.le_succ c, hR, hb⟩
  · rintro a b hR ⟨c, hb⟩
    exact ⟨c + 1, h2 e c a b hR hb⟩
theorem leaf_ok (k : Int) (f : Nat → Bool) : CoreOk P s n (leafM k f) (Mt s n (.mk k f [])) := by
  refine ⟨leaf_pre k f, fun nx qs hA => ?_⟩
  have hadd : ∀ p : Part, Agree P qs.length (addS qs p).2 → P.getD qs.length p0 = p := fun p h => by
    rw [h qs.length (Nat.le_refl _) (by unfold addS; simp)]
    exact getD_app_len qs p
  have e1 : Mt s n (.mk k f []) = fun a e => if k = 1 then a < n ∧ f (s a) = true ∧ e = a + 1 else if k = 7 then a = 0 ∧ a = e else if k = 8 then a = n ∧ a = e else a = e := by funext a e; exact mt_nil s n k f a e
  rw [e1]
  unfold leafM at hA ⊢
  by_cases k1 : k = 1
  · simp only [if_pos k1] at hA ⊢
    have hp := hadd _ hA
    refine leads_part hp rfl (fun e c a h => ?_) (fun e c a b h hb => ?_)
    · rw [AccN] at h
      simp only [hp] at h
      rcases h with ⟨h, -⟩ | ⟨-, h2, h3, h4⟩ | ⟨h, -⟩ | ⟨h, -⟩ | ⟨h, -⟩
      · cases h
      · exact ⟨a + 1, ⟨h2, h3, rfl⟩, h4⟩
      · cases h
      · cases h
      · cases h
    · obtain ⟨h1, h2, rfl⟩ := h
      rw [AccN]
      simp only [hp]
      exact .inr (.inl ⟨trivial, h1, h2, hb⟩)
  · by_cases k7 : k = 7
    · simp only [if_neg k1, if_pos k7] at hA ⊢
      have hp := hadd _ hA
      refine leads_part hp rfl (fun e c a h => ?_) (fun e c a b h hb => ?_)
      · rw [AccN] at h
        simp only [hp] at h
        rcases h with ⟨h, -⟩ | ⟨h, -⟩ | ⟨h, -⟩ | ⟨-, h, h2⟩ | ⟨h, -⟩
        · cases h
        · cases h
        · cases h
        · exact ⟨a, ⟨h, rfl⟩, h2⟩
        · cases h
      · obtain ⟨h1, rfl⟩ := h
        rw [AccN]
        simp only [hp]
        exact .inr (.inr (.inr (.inl ⟨trivial, h1, hb⟩)))
    · by_cases k8 : k = 8
      · simp only [if_neg k1, if_neg k7, if_pos k8] at hA ⊢
        have hp := hadd _ hA
        refine leads_part hp rfl (fun e c a h => ?_) (fun e c a b h hb => ?_)
        · rw [AccN] at h
          simp only [hp] at h
          rcases h with ⟨h, -⟩ | ⟨h, -⟩ | ⟨h, -⟩ | ⟨h, -⟩ | ⟨-, h, h2⟩
          · cases h
          · cases h
          · cases h
          · cases h
          · exact ⟨a, ⟨h, rfl⟩, h2⟩
        · obtain ⟨h1, rfl⟩ := h
          rw [AccN]
          simp only [hp]
          exact .inr (.inr (.inr (.inr ⟨trivial, h1, hb⟩)))
      · simp only [if_neg k1, if_neg k7, if_neg k8] at hA ⊢
        exact leads_here nx

def MdOk (m : Option (Bool × Bool)) : Prop := ∀ no ag, m = some (no, ag) → no = true ∨ ag = true
theorem next_ok (m : Option (Bool × Bool)) (k : Int) : MdOk (nextM m k) := by
  intro no ag h
  unfold nextM at h
  injection h with h
  injection h with h1 h2
  by_cases hk : k = 5
  · right; rw [← h2, hk]; simp
  · left; rw [← h1]; simp [hk]
/-- a tree's parts lead through what it matches -/
theorem lay_ok : ∀ (t : Tr) (m : Option (Bool × Bool)), shapedS t = true → MdOk m → CoreOk P s n (fun nx qs => layM t m false nx qs) (Wm m (Mt s n t))
  | .mk k f [], m, hs, hm => by
    have e : (fun nx qs => layM (.mk k f []) m false nx qs) = wrapM m (leafM k f) := by funext nx qs; exact layM_nil k f m false nx qs
    rw [e]
    exact wrap_ok hm (leaf_ok k f)
  | .mk k f [u], m, hs, hm => by
    have e : (fun nx qs => layM (.mk k f [u]) m false nx qs) = fun nx qs => layM u (nextM m k) false nx qs := by funext nx qs; exact layM_one k f u m false nx qs
    rw [e]
    rw [shapedS, shapedL, shapedL] at hs
    simp only [Bool.and_eq_true, Bool.and_true] at hs
    have h := lay_ok u (nextM m k) hs.2 (next_ok m k)
    have e2 : Wm (nextM m k) (Mt s n u) = Wm m (Mt s n (.mk k f [u])) := by
      have e3 : Mt s n (.mk k f [u]) = Wm (some (decide (k ≠ 5), decide (k ≠ 6))) (Mt s n u) := by funext a e; exact mt_one s n k f u a e
      rw [e3]
      rcases m with _ | ⟨no, ag⟩
      · unfold nextM Wm
        simp
      · funext a e
        exact propext ((wm_two a e).symm)
    rw [← e2]
    exact h
  | .mk k f [a, b], m, hs, hm => by
    have e : (fun nx qs => layM (.mk k f [a, b]) m false nx qs) = wrapM m (twoM k a b false) := by funext nx qs; exact layM_two k f a b m false nx qs
    rw [e]
    rw [shapedS, shapedL, shapedL, shapedL] at hs
    simp only [Bool.and_eq_true, Bool.and_true] at hs
    have ha := lay_ok a none hs.2.1 (fun _ _ h => by cases h)
    have hb := lay_ok b none hs.2.2 (fun _ _ h => by cases h)
    refine wrap_ok hm ⟨fun nx qs => ?_, fun nx qs hA => ?_⟩
    · unfold twoM
      by_cases hk : k = 2
      · rw [if_pos hk]
        obtain ⟨l, e⟩ := lay_pre b none false nx qs
        obtain ⟨l', e'⟩ := lay_pre a none false (layM b none false nx qs).1 (layM b none false nx qs).2
        exact ⟨l ++ l', by show (layM a none false _ _).2 = _; rw [e', e, List.append_assoc]⟩
      · rw [if_neg hk]
        obtain ⟨l, e⟩ := lay_pre a none false nx qs
        obtain ⟨l', e'⟩ := lay_pre b none false nx (layM a none false nx qs).2
        exact ⟨l ++ l' ++ [⟨2, nul, (layM a none false nx qs).1, (layM b none false nx (layM a none false nx qs).2).1⟩], (congrArg (· ++ [_]) (e'.trans (congrArg (· ++ l') e))).trans (by simp only [List.append_assoc])⟩
    · have e1 : Mt s n (.mk k f [a, b]) = fun x e => if k = 2 then ∃ y, Mt s n a x y ∧ Mt s n b y e else Mt s n a x e ∨ Mt s n b x e := by funext x e; exact mt_two s n k f a b x e
      rw [e1]
      unfold twoM at hA ⊢
      by_cases hk : k = 2
      · simp only [if_pos hk] at hA ⊢
        obtain ⟨l, e⟩ := lay_pre b none false nx qs
        obtain ⟨l', e'⟩ := lay_pre a none false (layM b none false nx qs).1 (layM b none false nx qs).2
        have hA : Agree P qs.length (layM a none false (layM b none false nx qs).1 (layM b none false nx qs).2).2 := hA
        have h1 := hb.2 nx qs fun i h1 h2 => by
          have h2 : i < (layM b none false nx qs).2.length := h2
          rw [hA i h1 (by rw [e', List.length_append]; omega), e', getD_app_lt h2]
        have h2 := ha.2 (layM b none false nx qs).1 (layM b none false nx qs).2 fun i h1 h2 => by
          have h3 : qs.length ≤ (layM b none false nx qs).2.length := by rw [e]; simp
          exact hA i (Nat.le_trans h3 h1) h2
        exact leads_seq h2 h1
      · simp only [if_neg hk] at hA ⊢
        obtain ⟨l, e⟩ := lay_pre a none false nx qs
        obtain ⟨l', e'⟩ := lay_pre b none false nx (layM a none false nx qs).2
        obtain ⟨x, hx⟩ : ∃ x, (layM a none false nx qs).1 = x := ⟨_, rfl⟩
        obtain ⟨q1, hq1⟩ : ∃ q1, (layM a none false nx qs).2 = q1 := ⟨_, rfl⟩
        have h1 : Agree P qs.length q1 → Leads P s n (Mt s n a) x nx := by rw [← hx, ← hq1]; exact ha.2 nx qs
        have h2 := hb.2 nx q1
        simp only [hx, hq1] at hA e' e ⊢
        obtain ⟨y, hy⟩ : ∃ y, (layM b none false nx q1).1 = y := ⟨_, rfl⟩
        obtain ⟨q2, hq2⟩ : ∃ q2, (layM b none false nx q1).2 = q2 := ⟨_, rfl⟩
        have h2 : Agree P q1.length q2 → Leads P s n (Mt s n b) y nx := by rw [← hy, ← hq2]; exact h2
        simp only [hy, hq2] at hA e' ⊢
        unfold addS at hA ⊢
        have l1 : qs.length ≤ q1.length := by rw [e]; simp
        have l2 : q1.length ≤ q2.length := by rw [e']; simp
        have hF : P.getD q2.length p0 = ⟨2, nul, x, y⟩ := by
          rw [hA _ (by omega) (by simp)]
          exact getD_app_len _ _
        have hq2' : ∀ i, qs.length ≤ i → i < q2.length → P.getD i p0 = q2.getD i p0 := fun i a1 a2 => by
          rw [hA i a1 (by simp; omega)]
          exact getD_app_lt a2
        exact leads_fork hF (h1 fun i a1 a2 => by rw [hq2' i a1 (by omega), e', getD_app_lt a2]) (h2 fun i a1 a2 => hq2' i (by omega) a2)
  | .mk k f (_ :: _ :: _ :: _), m, hs, hm => by
    exfalso
    rw [shapedS] at hs
    simp only [Bool.and_eq_true, decide_eq_true_eq] at hs
    exact kids_more hs.1.1
/-- a program's first part leads to its last one just by what its tree matches -/
theorem prog_acc (t : Tr) (hs : shapedS t = true) (s : Nat → Nat) (n e a : Nat) : Acc (progS t false).2 s n e (progS t false).1 a ↔ Mt s n t a e := by
  have h := ((lay_ok (P := (progS t false).2) (s := s) (n := n) t none hs (fun _ _ h => by cases h)).2 0 [p0] (fun i _ _ => rfl)) e
  obtain ⟨l, hl⟩ := lay_pre t none false 0 [p0]
  have h0 : (progS t false).2.getD 0 p0 = p0 := by
    show (layM t none false 0 [p0]).2.getD 0 p0 = p0
    rw [hl]
    rfl
  have hz : ∀ b, Acc (progS t false).2 s n e 0 b ↔ b = e := fun b => by
    constructor
    · rintro ⟨_ | c, hc⟩
      · exact hc.elim
      · rw [AccN, h0] at hc
        rcases hc with ⟨-, h⟩ | ⟨h, -⟩ | ⟨h, -⟩ | ⟨h, -⟩ | ⟨h, -⟩
        · exact h
        · cases h
        · cases h
        · cases h
        · cases h
    · rintro rfl
      exact ⟨1, by rw [AccN, h0]; exact .inl ⟨rfl, rfl⟩⟩
  constructor
  · rintro ⟨c, hc⟩
    obtain ⟨b, d, -, hR, hb⟩ := h.1 c a hc
    have hb := (hz b).1 ⟨d, hb⟩
    rw [← hb]
    exact hR
  · intro hM
    exact h.2 a e hM ((hz e).2 rfl)
end

end Go.Proofs.Ytaneblecgjahbab.nfa

namespace Go.Proofs.Ytaneblecgjahbab.spl
open Go.RowKit
set_option linter.unusedVariables false

theorem least_ex {G : Nat → Prop} (h : ∃ n, G n) : ∃ n, G n ∧ ∀ m, G m → n ≤ m := by
  obtain ⟨n, hn⟩ := h
  induction n using Nat.strongRecOn with
  | ind n ih =>
    by_cases hm : ∃ m, m < n ∧ G m
    · obtain ⟨m, h1, h2⟩ := hm
      exact ih m h1 h2
    · refine ⟨n, hn, fun m h => ?_⟩
      rcases Nat.lt_or_ge m n with h1 | h1
      · exact absurd ⟨m, h1, h⟩ hm
      · exact h1
theorem leastN_ok {G : Nat → Prop} (h : ∃ n, G n) : G (@Classical.epsilon Nat ⟨0⟩ fun n => G n ∧ ∀ m, G m → n ≤ m) := (Classical.epsilon_spec (least_ex h)).1
theorem leastN_le {G : Nat → Prop} {n : Nat} (h : G n) : (@Classical.epsilon Nat ⟨0⟩ fun n => G n ∧ ∀ m, G m → n ≤ m) ≤ n := (Classical.epsilon_spec (least_ex ⟨n, h⟩)).2 n h
/-- at either label, so far to go -/
def atAB (A B : Nat) (J K : Nat → Act → World → Prop) (l : Nat) (a : Act) (w : World) (n : Nat) : Prop := l = A ∧ J n a w ∨ l = B ∧ K n a w

theorem scope_two_g {P : Program} {a : Act} {w : World} {Q : Exit → Act → World → Prop} {c X Y : Code} (A B : Nat) (hne : A ≠ B) (J K : Nat → Act → World → Prop) (hA : findLabel c A = some (.seq .skip X)) (hB : findLabel c B = some (.seq .skip Y))
    (passB : ∀ n a w, K n a w → Y.wp P (jumpF (fun l a' w' => ∃ m, m < n ∧ atAB A B J K l a' w' m) Q) a w)
    (passA : ∀ n a w, J n a w → (∀ m a1 w1, m < n → K m a1 w1 → Y.wp P (jumpF (fun l a' w' => ∃ m, m < n ∧ atAB A B J K l a' w' m) Q) a1 w1) →
      X.wp P (jumpF (fun l a' w' => ∃ m, m < n ∧ atAB A B J K l a' w' m) Q) a w)
    (first : (∀ n a w, J n a w → X.wp P (jumpF (fun l a' w' => ∃ m, atAB A B J K l a' w' m) Q) a w) → c.wp P (jumpF (fun l a' w' => ∃ m, atAB A B J K l a' w' m) Q) a w) : (Code.scope c).wp P Q a w := by
  have lift : ∀ {n m : Nat} {C : Code} {a : Act} {w : World}, n ≤ m → C.wp P (jumpF (fun l a' w' => ∃ k, k < n ∧ atAB A B J K l a' w' k) Q) a w → C.wp P (jumpF (fun l a' w' => ∃ k, k < m ∧ atAB A B J K l a' w' k) Q) a w := fun hnm h =>
    Code.wp_mono (fun e a' w' h => by
      cases e <;> first
        | exact h
        | (obtain ⟨k, h1, h2⟩ := h
           exact ⟨k, by omega, h2⟩)) h
  have pA : ∀ n a w, J n a w → X.wp P (jumpF (fun l a' w' => ∃ m, m < n ∧ atAB A B J K l a' w' m) Q) a w := fun n a w hJ =>
    passA n a w hJ fun m a1 w1 hm hK => lift (Nat.le_of_lt hm) (passB m a1 w1 hK)
  have drop : ∀ {n : Nat} {C : Code} {a : Act} {w : World}, C.wp P (jumpF (fun l a' w' => ∃ k, k < n ∧ atAB A B J K l a' w' k) Q) a w → C.wp P (jumpF (fun l a' w' => ∃ k, atAB A B J K l a' w' k) Q) a w := fun h =>
    Code.wp_mono (fun e a' w' h => by
      cases e <;> first
        | exact h
        | (obtain ⟨k, h1, h2⟩ := h
           exact ⟨k, h2⟩)) h
  refine wp_scope_many (fun l a w => ∃ m, atAB A B J K l a w m) (fun l a w => (@Classical.epsilon Nat ⟨0⟩ fun n => atAB A B J K l a w n ∧ ∀ m, atAB A B J K l a w m → n ≤ m)) (fun l => if l = A then .seq .skip X else .seq .skip Y) (fun l a w h => ?_) (fun l a w h => ?_) (first fun n a w hJ => drop (pA n a w hJ))
  · obtain ⟨m, h⟩ := h
    rcases h with ⟨rfl, -⟩ | ⟨rfl, -⟩
    · simp only [if_pos rfl]; exact hA
    · simp only [if_neg (Ne.symm hne)]; exact hB
  · have hn := leastN_ok h
    obtain ⟨N, hN⟩ : ∃ N, (@Classical.epsilon Nat ⟨0⟩ fun n => atAB A B J K l a w n ∧ ∀ m, atAB A B J K l a w m → n ≤ m) = N := ⟨_, rfl⟩
    rw [hN] at hn
    simp only [hN]
    rcases hn with ⟨rfl, hJ⟩ | ⟨rfl, hK⟩
    · simp only [if_pos rfl]
      refine wp_seq (wp_skip (Code.wp_mono (fun e a' w' h => ?_) (pA N a w hJ)))
      cases e <;> first
        | exact h
        | (obtain ⟨m, h1, h2⟩ := h
           exact ⟨⟨m, h2⟩, Nat.lt_of_le_of_lt (leastN_le h2) h1⟩)
    · simp only [if_neg (Ne.symm hne)]
      refine wp_seq (wp_skip (Code.wp_mono (fun e a' w' h => ?_) (passB N a w hK)))
      cases e <;> first
        | exact h
        | (obtain ⟨m, h1, h2⟩ := h
           exact ⟨⟨m, h2⟩, Nat.lt_of_le_of_lt (leastN_le h2) h1⟩)

/-- One label, the measure a number of one's own. -/
theorem scope_one_g {P : Program} {a : Act} {w : World} {Q : Exit → Act → World → Prop} {c X : Code} (A : Nat) (J : Nat → Act → World → Prop) (hA : findLabel c A = some (.seq .skip X))
    (pass : ∀ n a w, J n a w → X.wp P (jumpF (fun l a' w' => l = A ∧ ∃ m, m < n ∧ J m a' w') Q) a w)
    (first : (∀ n a w, J n a w → X.wp P (jumpF (fun l a' w' => l = A ∧ ∃ m, J m a' w') Q) a w) → c.wp P (jumpF (fun l a' w' => l = A ∧ ∃ m, J m a' w') Q) a w) : (Code.scope c).wp P Q a w := by
  have drop : ∀ {n : Nat} {C : Code} {a : Act} {w : World}, C.wp P (jumpF (fun l a' w' => l = A ∧ ∃ m, m < n ∧ J m a' w') Q) a w → C.wp P (jumpF (fun l a' w' => l = A ∧ ∃ m, J m a' w') Q) a w := fun h =>
    Code.wp_mono (fun e a' w' h => by
      cases e <;> first
        | exact h
        | (obtain ⟨h0, k, h1, h2⟩ := h
           exact ⟨h0, k, h2⟩)) h
  refine wp_scope_many (fun l a w => l = A ∧ ∃ m, J m a w) (fun l a w => @Classical.epsilon Nat ⟨0⟩ fun n => J n a w ∧ ∀ m, J m a w → n ≤ m) (fun l => .seq .skip X) (fun l a w h => ?_) (fun l a w h => ?_) (first fun n a w hJ => drop (pass n a w hJ))
  · obtain ⟨rfl, -⟩ := h
    exact hA
  · obtain ⟨rfl, h⟩ := h
    have hn := leastN_ok (G := fun n => J n a w) h
    obtain ⟨N, hN⟩ : ∃ N, (@Classical.epsilon Nat ⟨0⟩ fun n => J n a w ∧ ∀ m, J m a w → n ≤ m) = N := ⟨_, rfl⟩
    simp only [hN] at hn ⊢
    refine wp_seq (wp_skip (Code.wp_mono (fun e a' w' h => ?_) (pass N a w hn)))
    cases e <;> first
      | exact h
      | (obtain ⟨h0, m, h1, h2⟩ := h
         exact ⟨⟨h0, m, h2⟩, Nat.lt_of_le_of_lt (leastN_le (G := fun n => J n a' w') h2) h1⟩)

end Go.Proofs.Ytaneblecgjahbab.spl
