/- Package nfa, plainly: what a run answers is what its parts lead to. -/
import Derived.Test.YtaneblecgjahbabNfaOkM
import Derived.Test.YtaneblecgjahbabNfaFind

namespace Go.Proofs.Ytaneblecgjahbab.nfa
open Go.RowKit Go.Proofs.Ytaneblecgjahbab.sum Go.Proofs.Ytaneblecgjahbab.kept Go.Proofs.Ytaneblecgjahbab.pop Go.Proofs.Ytaneblecgjahbab.cls Go.Proofs.Ytaneblecgjahbab.tre Go.Proofs.Ytaneblecgjahbab.ere
set_option linter.unusedVariables false

section
variable (P : List Part) (n : Nat)
/-- on, without a byte -/
def E1 (a k k' : Nat) : Prop := ((P.getD k p0).kind = 2 ∧ (k' = (P.getD k p0).next ∨ k' = (P.getD k p0).other)) ∨ ((P.getD k p0).kind = 3 ∧ a = 0 ∧ k' = (P.getD k p0).next) ∨ ((P.getD k p0).kind = 4 ∧ a = n ∧ k' = (P.getD k p0).next)
inductive Ep (a : Nat) : Nat → Nat → Prop where
  | refl (k : Nat) : Ep a k k
  | head {k x i : Nat} : E1 P n a k x → Ep a x i → Ep a k i
end
section
variable {P : List Part} {n fr : Nat}
theorem Ep.tail {a k x y : Nat} (h : Ep P n a k x) (h2 : E1 P n a x y) : Ep P n a k y := by
  induction h with
  | refl k => exact .head h2 (.refl _)
  | head h _ ih => exact .head h (ih h2)
/-- reached at this place -/
def Vs (t : Wst) (i : Nat) : Prop := t.seen.getD i 0 = t.pl + 1
theorem getD_set (l : List Nat) (k i x : Nat) (hk : k < l.length) : (l.set k x).getD i 0 = if i = k then x else l.getD i 0 := by
  rw [List.getD_eq_getElem?_getD, List.getD_eq_getElem?_getD, List.getElem?_set]
  by_cases h : k = i
  · subst h
    rw [if_pos rfl, if_pos rfl, if_pos hk]
    rfl
  · rw [if_neg h, if_neg (fun e => h e.symm)]
theorem vs_set {pl k : Nat} {L L' : List (Nat × Nat)} {stk stk' seen : List Nat} {en en' : Int} (hk : k < seen.length) (i : Nat) : Vs ⟨pl, L', stk', seen.set k (pl + 1), en'⟩ i ↔ Vs ⟨pl, L, stk, seen, en⟩ i ∨ i = k := by
  unfold Vs
  simp only
  rw [getD_set _ _ _ _ hk]
  by_cases h : i = k
  · rw [if_pos h]; simp [h]
  · rw [if_neg h]; simp [h]
/-- all that is next is reached, or waits -/
def Clo (P : List Part) (n : Nat) (roots : List Nat) (t : Wst) : Prop := ∀ i j, Vs t i → E1 P n t.pl i j → Vs t j ∨ j ∈ roots
/-- what reach does -/
structure RcO (P : List Part) (n fr : Nat) (roots : List Nat) (t t' : Wst) : Prop where
  stk : t'.stk = []
  pl : t'.pl = t.pl
  len : t'.seen.length = t.seen.length
  low : (∀ x ∈ t.seen, x ≤ t.pl + 1) → ∀ x ∈ t'.seen, x ≤ t.pl + 1
  vis : ∀ i, Vs t' i ↔ Vs t i ∨ ∃ r ∈ roots, Ep P n t.pl r i
  li : ∃ N, t'.L = t.L ++ N ∧ ∀ x, x ∈ N ↔ x.2 = fr ∧ (P.getD x.1 p0).kind = 1 ∧ Vs t' x.1 ∧ ¬ Vs t x.1
  en1 : Vs t' 0 → ¬ Vs t 0 → t'.en = (fr : Int)
  en2 : (Vs t' 0 → Vs t 0) → t'.en = t.en
theorem RcO.roots {ra rb : List Nat} {t t' : Wst} (h : RcO P n fr ra t t') (hv : ∀ i, (Vs t i ∨ ∃ r ∈ ra, Ep P n t.pl r i) ↔ (Vs t i ∨ ∃ r ∈ rb, Ep P n t.pl r i)) : RcO P n fr rb t t' :=
  ⟨h.stk, h.pl, h.len, h.low, fun i => (h.vis i).trans (hv i), h.li, h.en1, h.en2⟩
theorem clo_mark {pl k : Nat} {L L' : List (Nat × Nat)} {stk stk' seen roots' : List Nat} {en en' : Int} (hk : k < seen.length) (hc : Clo P n (k :: stk) ⟨pl, L, stk, seen, en⟩) (hr : ∀ y, y ∈ roots' ↔ E1 P n pl k y ∨ y ∈ stk) : Clo P n roots' ⟨pl, L', stk', seen.set k (pl + 1), en'⟩ := by
  intro i j hi hj
  have hj : E1 P n pl i j := hj
  rw [vs_set (L := L) (stk := stk) (en := en) hk] at hi ⊢
  rcases hi with hi | rfl
  · rcases hc i j hi hj with h | h
    · exact .inl (.inl h)
    · rcases List.mem_cons.1 h with h | h
      · exact .inl (.inr h)
      · exact .inr ((hr j).2 (.inr h))
  · exact .inr ((hr j).2 (.inl hj))
theorem low_set {pl k : Nat} {seen : List Nat} (h : ∀ x ∈ seen, x ≤ pl + 1) : ∀ x ∈ seen.set k (pl + 1), x ≤ pl + 1 := fun x hx => by
  rcases List.mem_or_eq_of_mem_set hx with hx | hx
  · exact h x hx
  · omega
/-- one part more is reached -/
theorem rc_mark {pl k : Nat} {L L' : List (Nat × Nat)} {stk stk' seen roots' : List Nat} {en en' : Int} {t' : Wst} (hk : k < seen.length) (hnv : ¬ seen.getD k 0 = pl + 1) (hr : ∀ y, y ∈ roots' ↔ E1 P n pl k y ∨ y ∈ stk)
    (hL : L' = L ++ if (P.getD k p0).kind = 1 then [(k, fr)] else []) (he : en' = if k = 0 then (fr : Int) else en)
    (h : RcO P n fr roots' ⟨pl, L', stk', seen.set k (pl + 1), en'⟩ t') : RcO P n fr (k :: stk) ⟨pl, L, stk, seen, en⟩ t' := by
  have hv : ∀ i, Vs ⟨pl, L', stk', seen.set k (pl + 1), en'⟩ i ↔ Vs ⟨pl, L, stk, seen, en⟩ i ∨ i = k := vs_set hk
  have hk' : Vs t' k := (h.vis k).2 (.inl ((hv k).2 (.inr rfl)))
  have hnv : ¬ Vs ⟨pl, L, stk, seen, en⟩ k := hnv
  refine ⟨h.stk, h.pl, by rw [h.len]; simp, fun hl => h.low (low_set hl), fun i => ?_, ?_, fun a b => ?_, fun a => ?_⟩
  · rw [h.vis i, hv i]
    constructor
    · rintro ((h1 | rfl) | ⟨r, h1, h2⟩)
      · exact .inl h1
      · exact .inr ⟨i, List.mem_cons_self, .refl _⟩
      · rcases (hr r).1 h1 with h3 | h3
        · exact .inr ⟨k, List.mem_cons_self, .head h3 h2⟩
        · exact .inr ⟨r, List.mem_cons_of_mem _ h3, h2⟩
    · rintro (h1 | ⟨r, h1, h2⟩)
      · exact .inl (.inl h1)
      · rcases List.mem_cons.1 h1 with rfl | h1
        · cases h2 with
          | refl => exact .inl (.inr rfl)
          | head h3 h4 => exact .inr ⟨_, (hr _).2 (.inl h3), h4⟩
        · exact .inr ⟨r, (hr r).2 (.inr h1), h2⟩
  · obtain ⟨N, h1, h2⟩ := h.li
    refine ⟨(if (P.getD k p0).kind = 1 then [(k, fr)] else []) ++ N, by rw [h1]; show L' ++ N = L ++ _; rw [hL, List.append_assoc], fun x => ?_⟩
    rw [List.mem_append, h2 x]
    constructor
    · rintro (h3 | ⟨h3, h4, h5, h6⟩)
      · by_cases hk1 : (P.getD k p0).kind = 1
        · rw [if_pos hk1, List.mem_singleton] at h3
          subst h3
          exact ⟨rfl, hk1, hk', hnv⟩
        · rw [if_neg hk1] at h3
          cases h3
      · exact ⟨h3, h4, h5, fun h7 => h6 ((hv _).2 (.inl h7))⟩
    · rintro ⟨h3, h4, h5, h6⟩
      by_cases hx : x.1 = k
      · left
        rw [if_pos (hx ▸ h4), List.mem_singleton]
        obtain ⟨x1, x2⟩ := x
        simp only at hx h3
        rw [hx, h3]
      · right
        exact ⟨h3, h4, h5, fun h7 => ((hv _).1 h7).elim h6 hx⟩
  · by_cases h0 : k = 0
    · by_cases hx : Vs t' 0 → Vs ⟨pl, L', stk', seen.set k (pl + 1), en'⟩ 0
      · rw [h.en2 hx]
        show en' = _
        rw [he, if_pos h0]
      · exact absurd (fun _ => (hv 0).2 (.inr h0.symm)) hx
    · exact h.en1 a fun h1 => ((hv 0).1 h1).elim b fun e => h0 e.symm
  · by_cases h0 : k = 0
    · subst h0
      exact absurd (a hk') hnv
    · rw [h.en2 fun h1 => (hv 0).2 (.inl (a h1))]
      show en' = _
      rw [he, if_neg h0]
theorem rc_seen {k : Nat} {t t' : Wst} (hv : Vs t k) (hc : Clo P n (k :: t.stk) t) (h : RcO P n fr t.stk t t') : RcO P n fr (k :: t.stk) t t' := by
  refine h.roots fun i => ?_
  have key : ∀ x i, Ep P n t.pl x i → (Vs t x ∨ ∃ r ∈ t.stk, Ep P n t.pl r x) → (Vs t i ∨ ∃ r ∈ t.stk, Ep P n t.pl r i) := by
    intro x i he
    induction he with
    | refl k => exact id
    | head h1 h2 ih =>
      intro h3
      refine ih ?_
      rcases h3 with h3 | ⟨r, h3, h4⟩
      · rcases hc _ _ h3 h1 with h5 | h5
        · exact .inl h5
        · rcases List.mem_cons.1 h5 with h5 | h5
          · rw [h5]; exact .inl hv
          · exact .inr ⟨_, h5, .refl _⟩
      · exact .inr ⟨r, h3, h4.tail h1⟩
  constructor
  · rintro (h1 | ⟨r, h1, h2⟩)
    · exact .inl h1
    · exact .inr ⟨r, List.mem_cons_of_mem _ h1, h2⟩
  · rintro (h1 | ⟨r, h1, h2⟩)
    · exact .inl h1
    · rcases List.mem_cons.1 h1 with rfl | h1
      · exact key _ _ h2 (.inl hv)
      · exact .inr ⟨r, h1, h2⟩
/-- just one part ends -/
def OneEnd (P : List Part) : Prop := ∀ k, k < P.length → ((P.getD k p0).kind = 0 ↔ k = 0)
theorem clo_seen {k : Nat} {t : Wst} (hv : Vs t k) (hc : Clo P n (k :: t.stk) t) : Clo P n t.stk t := fun i j hi hj => by
  rcases hc i j hi hj with h | h
  · exact .inl h
  · rcases List.mem_cons.1 h with h | h
    · rw [h]; exact .inl hv
    · exact .inr h
theorem rch_ok (hP : okP P) (hE : OneEnd P) : ∀ (f : Nat) (m : Option Nat) (t : Wst), t.seen.length = P.length → (∀ k ∈ m.toList ++ t.stk, k < P.length) → muS m t ≤ f → Clo P n (m.toList ++ t.stk) t → RcO P n fr (m.toList ++ t.stk) t (rchS P n fr f m t)
  | 0, m, t, hl, hr, hf, hc => by
    obtain ⟨pl, L, stk, seen, en⟩ := t
    unfold muS at hf
    rcases m with _ | k
    · rcases stk with _ | ⟨k, st⟩
      · rw [rchS]
        exact ⟨rfl, rfl, rfl, id, fun i => by simp, ⟨[], by simp, fun x => by simp⟩, fun a b => absurd a b, fun _ => rfl⟩
      · simp at hf
    · simp at hf
  | f + 1, none, t, hl, hr, hf, hc => by
    obtain ⟨pl, L, stk, seen, en⟩ := t
    rcases stk with _ | ⟨k, st⟩
    · rw [rchS]
      exact ⟨rfl, rfl, rfl, id, fun i => by simp, ⟨[], by simp, fun x => by simp⟩, fun a b => absurd a b, fun _ => rfl⟩
    · rw [rchS]
      have h := rch_ok hP hE f (some k) ⟨pl, L, st, seen, en⟩ hl hr (by unfold muS at hf ⊢; simp at hf ⊢; omega) hc
      exact ⟨h.stk, h.pl, h.len, h.low, h.vis, h.li, h.en1, h.en2⟩
  | f + 1, some k, t, hl, hr, hf, hc => by
    obtain ⟨pl, L, stk, seen, en⟩ := t
    have hk : k < P.length := hr k (by simp)
    have hks : k < seen.length := by rw [show seen.length = P.length from hl]; exact hk
    have hst : ∀ x ∈ stk, x < P.length := fun x hx => hr x (by simp [hx])
    obtain ⟨hn, ho, hkd⟩ := hP.get hk
    have hmu : 3 * unS pl seen + 2 * stk.length + 1 ≤ f + 1 := hf
    show RcO P n fr (k :: stk) _ _
    by_cases hv : seen.getD k 0 = pl + 1
    · rw [rch_seen hv]
      have hv' : Vs ⟨pl, L, stk, seen, en⟩ k := hv
      exact rc_seen (t := ⟨pl, L, stk, seen, en⟩) hv' hc (rch_ok hP hE f none ⟨pl, L, stk, seen, en⟩ hl (fun x hx => hst x (by simpa using hx)) (by unfold muS; simp; omega) (clo_seen (t := ⟨pl, L, stk, seen, en⟩) hv' hc))
    · have hu := un_set (pl := pl) hks hv
      have hl' : (seen.set k (pl + 1)).length = P.length := by simpa using hl
      have hz := hE k hk
      rcases (by omega : (P.getD k p0).kind = 0 ∨ (P.getD k p0).kind = 1 ∨ (P.getD k p0).kind = 2 ∨ (P.getD k p0).kind = 3 ∨ (P.getD k p0).kind = 4) with k0 | k1 | k2 | k3 | k4
      · rw [rch_0 hv k0]
        have hr0 : ∀ y, y ∈ (none : Option Nat).toList ++ stk ↔ E1 P n pl k y ∨ y ∈ stk := fun y => by unfold E1; rw [k0]; simp
        exact rc_mark hks hv hr0 (by rw [if_neg (by rw [k0]; decide), List.append_nil]) (by rw [if_pos (hz.1 k0)]) (rch_ok hP hE f none ⟨pl, L, stk, seen.set k (pl + 1), (fr : Int)⟩ hl' (fun x hx => hst x (by simpa using hx)) (by unfold muS; simp; omega) (clo_mark hks hc hr0))
      · rw [rch_1 hv k1]
        have hk0 : k ≠ 0 := fun e => by rw [hz.2 e] at k1; cases k1
        have hr0 : ∀ y, y ∈ (none : Option Nat).toList ++ stk ↔ E1 P n pl k y ∨ y ∈ stk := fun y => by unfold E1; rw [k1]; simp
        exact rc_mark hks hv hr0 (by rw [if_pos k1]) (by rw [if_neg hk0]) (rch_ok hP hE f none ⟨pl, L ++ [(k, fr)], stk, seen.set k (pl + 1), en⟩ hl' (fun x hx => hst x (by simpa using hx)) (by unfold muS; simp; omega) (clo_mark hks hc hr0))
      · rw [rch_2 hv k2]
        have hk0 : k ≠ 0 := fun e => by rw [hz.2 e] at k2; cases k2
        have hr0 : ∀ y, y ∈ (some (P.getD k p0).next).toList ++ ((P.getD k p0).other :: stk) ↔ E1 P n pl k y ∨ y ∈ stk := fun y => by unfold E1; rw [k2]; simp [or_assoc]
        exact rc_mark hks hv hr0 (by rw [if_neg (by rw [k2]; decide), List.append_nil]) (by rw [if_neg hk0]) (rch_ok hP hE f (some (P.getD k p0).next) ⟨pl, L, (P.getD k p0).other :: stk, seen.set k (pl + 1), en⟩ hl' (fun x hx => by
          rcases List.mem_append.1 hx with hx | hx
          · simp at hx; rw [hx]; exact hn
          · rcases List.mem_cons.1 hx with hx | hx
            · rw [hx]; exact ho
            · exact hst x hx) (by unfold muS; simp; omega) (clo_mark hks hc hr0))
      · rw [rch_3 hv k3]
        have hk0 : k ≠ 0 := fun e => by rw [hz.2 e] at k3; cases k3
        by_cases h0 : pl = 0
        · rw [if_pos h0]
          have hr0 : ∀ y, y ∈ (some (P.getD k p0).next).toList ++ stk ↔ E1 P n pl k y ∨ y ∈ stk := fun y => by unfold E1; rw [k3]; simp [h0]
          exact rc_mark hks hv hr0 (by rw [if_neg (by rw [k3]; decide), List.append_nil]) (by rw [if_neg hk0]) (rch_ok hP hE f (some (P.getD k p0).next) ⟨pl, L, stk, seen.set k (pl + 1), en⟩ hl' (fun x hx => by
            rcases List.mem_append.1 hx with hx | hx
            · simp at hx; rw [hx]; exact hn
            · exact hst x hx) (by unfold muS; simp; omega) (clo_mark hks hc hr0))
        · rw [if_neg h0]
          have hr0 : ∀ y, y ∈ (none : Option Nat).toList ++ stk ↔ E1 P n pl k y ∨ y ∈ stk := fun y => by unfold E1; rw [k3]; simp [h0]
          exact rc_mark hks hv hr0 (by rw [if_neg (by rw [k3]; decide), List.append_nil]) (by rw [if_neg hk0]) (rch_ok hP hE f none ⟨pl, L, stk, seen.set k (pl + 1), en⟩ hl' (fun x hx => hst x (by simpa using hx)) (by unfold muS; simp; omega) (clo_mark hks hc hr0))
      · rw [rch_4 hv k4]
        have hk0 : k ≠ 0 := fun e => by rw [hz.2 e] at k4; cases k4
        by_cases h0 : pl = n
        · rw [if_pos h0]
          have hr0 : ∀ y, y ∈ (some (P.getD k p0).next).toList ++ stk ↔ E1 P n pl k y ∨ y ∈ stk := fun y => by unfold E1; rw [k4]; simp [h0]
          exact rc_mark hks hv hr0 (by rw [if_neg (by rw [k4]; decide), List.append_nil]) (by rw [if_neg hk0]) (rch_ok hP hE f (some (P.getD k p0).next) ⟨pl, L, stk, seen.set k (pl + 1), en⟩ hl' (fun x hx => by
            rcases List.mem_append.1 hx with hx | hx
            · simp at hx; rw [hx]; exact hn
            · exact hst x hx) (by unfold muS; simp; omega) (clo_mark hks hc hr0))
        · rw [if_neg h0]
          have hr0 : ∀ y, y ∈ (none : Option Nat).toList ++ stk ↔ E1 P n pl k y ∨ y ∈ stk := fun y => by unfold E1; rw [k4]; simp [h0]
          exact rc_mark hks hv hr0 (by rw [if_neg (by rw [k4]; decide), List.append_nil]) (by rw [if_neg hk0]) (rch_ok hP hE f none ⟨pl, L, stk, seen.set k (pl + 1), en⟩ hl' (fun x hx => hst x (by simpa using hx)) (by unfold muS; simp; omega) (clo_mark hks hc hr0))

/-- the matches under way at a place are these: A start part -/
structure InvT (P : List Part) (A : Nat → Nat → Prop) (t : Wst) : Prop where
  len : t.seen.length = P.length
  low : ∀ x ∈ t.seen, x ≤ t.pl + 1
  th : ∀ x ∈ t.L, x.1 < P.length ∧ (P.getD x.1 p0).kind = 1 ∧ A x.2 x.1 ∧ ∀ j, A j x.1 → x.2 ≤ j
  all : ∀ j k, (P.getD k p0).kind = 1 → A j k → ∃ fr, (k, fr) ∈ t.L
  en : (t.en = -1 ∧ ∀ j, ¬ A j 0) ∨ ∃ m : Nat, t.en = (m : Int) ∧ A m 0 ∧ ∀ j, A j 0 → m ≤ j
  srt : t.L.Pairwise fun x y => x.2 ≤ y.2
def InvA (P : List Part) (A : Nat → Nat → Prop) (t : Wst) : Prop := InvT P A t ∧ ∀ k, Vs t k ↔ ∃ j, A j k
theorem InvT.mono {A B : Nat → Nat → Prop} {t : Wst} (h : InvT P A t) (h1 : ∀ j k, A j k → B j k) (h2 : ∀ j k, B j k → ∃ m, m ≤ j ∧ A m k) : InvT P B t := by
  refine ⟨h.len, h.low, fun x hx => ?_, fun j k hk hB => ?_, ?_, h.srt⟩
  · obtain ⟨a, b, c, d⟩ := h.th x hx
    refine ⟨a, b, h1 _ _ c, fun j hj => ?_⟩
    obtain ⟨m, hm, hA⟩ := h2 _ _ hj
    exact Nat.le_trans (d m hA) hm
  · obtain ⟨m, hm, hA⟩ := h2 _ _ hB
    exact h.all m k hk hA
  · rcases h.en with ⟨a, b⟩ | ⟨m, a, b, c⟩
    · exact .inl ⟨a, fun j hj => by obtain ⟨m, hm, hA⟩ := h2 _ _ hj; exact b m hA⟩
    · exact .inr ⟨m, a, h1 _ _ b, fun j hj => by obtain ⟨m', hm, hA⟩ := h2 _ _ hj; exact Nat.le_trans (c m' hA) hm⟩
theorem InvA.mono {A B : Nat → Nat → Prop} {t : Wst} (h : InvA P A t) (h1 : ∀ j k, A j k → B j k) (h2 : ∀ j k, B j k → ∃ m, m ≤ j ∧ A m k) : InvA P B t :=
  ⟨h.1.mono h1 h2, fun k => (h.2 k).trans ⟨fun ⟨j, hj⟩ => ⟨j, h1 _ _ hj⟩, fun ⟨j, hj⟩ => by obtain ⟨m, _, hA⟩ := h2 _ _ hj; exact ⟨m, hA⟩⟩⟩
/-- one more match is let go on from a part -/
theorem InvA.reach (hP : okP P) (hE : OneEnd P) (hp : 0 < P.length) {A : Nat → Nat → Prop} {t : Wst} (h : InvA P A t) (hcl : ∀ j i k, A j i → E1 P n t.pl i k → A j k) {k : Nat} (hk : k < P.length) (hold : ∀ j i, A j i → j ≤ fr) :
    InvA P (fun j i => A j i ∨ (j = fr ∧ Ep P n t.pl k i)) (rchS P n fr (3 * P.length + 3) none { t with stk := [k] }) ∧ (rchS P n fr (3 * P.length + 3) none { t with stk := [k] }).pl = t.pl := by
  have hv0 : ∀ i, Vs { t with stk := [k] } i ↔ Vs t i := fun i => Iff.rfl
  have hmu : muS none { t with stk := [k] } ≤ 3 * P.length + 3 := by
    unfold muS
    have := un_le t.pl t.seen
    rw [h.1.len] at this
    simp
    omega
  have hclo : Clo P n ((none : Option Nat).toList ++ [k]) { t with stk := [k] } := fun i j hi hj => by
    obtain ⟨x, hx⟩ := (h.2 i).1 hi
    exact .inl ((h.2 j).2 ⟨x, hcl x i j hx hj⟩)
  have hr := rch_ok (n := n) (fr := fr) hP hE (3 * P.length + 3) none { t with stk := [k] } h.1.len (fun x hx => by simp at hx; rw [hx]; exact hk) hmu hclo
  obtain ⟨t', ht'⟩ : ∃ t', rchS P n fr (3 * P.length + 3) none { t with stk := [k] } = t' := ⟨_, rfl⟩
  rw [ht'] at hr ⊢
  have hvis : ∀ i, Vs t' i ↔ Vs t i ∨ Ep P n t.pl k i := fun i => by
    rw [hr.vis i]
    simp
    exact Iff.rfl
  have hpl : t'.pl = t.pl := hr.pl
  have hB : ∀ i, Vs t' i ↔ ∃ j, A j i ∨ (j = fr ∧ Ep P n t.pl k i) := fun i => by
    rw [hvis i, h.2 i]
    constructor
    · rintro (⟨j, hj⟩ | hj)
      · exact ⟨j, .inl hj⟩
      · exact ⟨fr, .inr ⟨rfl, hj⟩⟩
    · rintro ⟨j, hj | ⟨_, hj⟩⟩
      · exact .inl ⟨j, hj⟩
      · exact .inr hj
  obtain ⟨N, hN, hNm⟩ := hr.li
  have hN : t'.L = t.L ++ N := hN
  refine ⟨⟨⟨hr.len.trans h.1.len, fun x hx => by rw [hpl]; exact hr.low h.1.low x hx, fun x hx => ?_, fun j i hi hj => ?_, ?_, ?_⟩, hB⟩, hpl⟩
  · rw [hN] at hx
    rcases List.mem_append.1 hx with hx | hx
    · obtain ⟨a, b, c, d⟩ := h.1.th x hx
      refine ⟨a, b, .inl c, fun j hj => ?_⟩
      rcases hj with hj | ⟨rfl, hj⟩
      · exact d j hj
      · exact hold _ _ c
    · obtain ⟨a, b, c, d⟩ := (hNm x).1 hx
      have hlt : x.1 < P.length := by
        rcases Nat.lt_or_ge x.1 P.length with h1 | h1
        · exact h1
        · rw [List.getD_eq_getElem?_getD, List.getElem?_eq_none h1] at b
          cases b
      have hno : ∀ j, ¬ A j x.1 := fun j hj => d ((h.2 x.1).2 ⟨j, hj⟩)
      obtain ⟨j, hj⟩ := (hB x.1).1 c
      rcases hj with hj | ⟨rfl, hj⟩
      · exact absurd hj (hno j)
      · refine ⟨hlt, b, .inr ⟨a, hj⟩, fun j' hj' => ?_⟩
        rcases hj' with hj' | ⟨rfl, hj'⟩
        · exact absurd hj' (hno j')
        · omega
  · rw [hN]
    by_cases hv : Vs t i
    · obtain ⟨j', hj'⟩ := (h.2 i).1 hv
      obtain ⟨f', hf'⟩ := h.1.all j' i hi hj'
      exact ⟨f', List.mem_append_left _ hf'⟩
    · exact ⟨fr, List.mem_append_right _ ((hNm (i, fr)).2 ⟨rfl, hi, (hB i).2 ⟨j, hj⟩, hv⟩)⟩
  · rcases h.1.en with ⟨a, b⟩ | ⟨m, a, b, c⟩
    · have hn0 : ¬ Vs t 0 := fun hv => by obtain ⟨j, hj⟩ := (h.2 0).1 hv; exact b j hj
      by_cases h0 : Vs t' 0
      · right
        refine ⟨fr, hr.en1 h0 hn0, ?_, fun j hj => ?_⟩
        · obtain ⟨j, hj⟩ := (hB 0).1 h0
          rcases hj with hj | ⟨rfl, hj⟩
          · exact absurd hj (b j)
          · exact .inr ⟨rfl, hj⟩
        · rcases hj with hj | ⟨rfl, hj⟩
          · exact absurd hj (b j)
          · exact Nat.le_refl _
      · left
        refine ⟨(hr.en2 fun hx => absurd hx h0).trans a, fun j hj => h0 ((hB 0).2 ⟨j, hj⟩)⟩
    · right
      have hv : Vs t 0 := (h.2 0).2 ⟨m, b⟩
      refine ⟨m, (hr.en2 fun _ => hv).trans a, .inl b, fun j hj => ?_⟩
      rcases hj with hj | ⟨rfl, hj⟩
      · exact c j hj
      · exact hold _ _ b
  · rw [hN, List.pairwise_append]
    refine ⟨h.1.srt, ?_, fun x hx y hy => ?_⟩
    · refine List.pairwise_of_forall_mem_list fun x hx y hy => ?_
      rw [((hNm x).1 hx).1, ((hNm y).1 hy).1]
      exact Nat.le_refl _
    · rw [((hNm y).1 hy).1]
      exact hold _ _ (h.1.th x hx).2.2.1

/-- over a byte: each of these matches, in their order -/
theorem stL_inv (r : Nat × List Part) (s : ByteArray) (b : Nat) (hP : okP r.2) (hE : OneEnd r.2) (hp : 0 < r.2.length) : ∀ (l : List (Nat × Nat)) (A : Nat → Nat → Prop) (t : Wst), InvA r.2 A t → (∀ j i k, A j i → E1 r.2 s.size t.pl i k → A j k) → (∀ x ∈ l, x.1 < r.2.length ∧ ∀ j i, A j i → j ≤ x.2) → l.Pairwise (fun x y => x.2 ≤ y.2) →
    InvA r.2 (fun j k => A j k ∨ ∃ x ∈ l, x.2 = j ∧ (r.2.getD x.1 p0).f b = true ∧ Ep r.2 s.size t.pl (r.2.getD x.1 p0).next k) (stL (oS r false s) b l t) ∧ (stL (oS r false s) b l t).pl = t.pl
  | [], A, t, h, hcl, hl, hs => by
    refine ⟨h.mono (fun j k hj => .inl hj) (fun j k hj => ?_), rfl⟩
    rcases hj with hj | ⟨x, hx, -⟩
    · exact ⟨j, Nat.le_refl _, hj⟩
    · cases hx
  | x :: l, A, t, h, hcl, hl, hs => by
    rw [stL]
    obtain ⟨hx1, hx2⟩ := hl x List.mem_cons_self
    have hs' := List.pairwise_cons.1 hs
    by_cases hf : (r.2.getD x.1 p0).f b = true
    · have hf' : ((oS r false s).r.2.getD x.1 p0).f b = true := hf
      rw [if_pos hf']
      obtain ⟨h1, h2⟩ := h.reach (n := s.size) (fr := x.2) hP hE hp hcl (hP.get hx1).1 hx2
      obtain ⟨t1, ht1⟩ : ∃ t1, rchS r.2 s.size x.2 (3 * r.2.length + 3) none { t with stk := [(r.2.getD x.1 p0).next] } = t1 := ⟨_, rfl⟩
      have e1 : rchS (oS r false s).r.2 (oS r false s).s.size x.2 (fuelS (oS r false s)) none { t with stk := [((oS r false s).r.2.getD x.1 p0).next] } = t1 := ht1
      rw [e1]
      rw [ht1] at h1 h2
      have ih := stL_inv r s b hP hE hp l _ t1 h1 (fun j i k hj he => by
        rw [h2] at he
        rcases hj with hj | ⟨rfl, hj⟩
        · exact .inl (hcl j i k hj he)
        · exact .inr ⟨rfl, hj.tail he⟩) (fun y hy => ⟨(hl y (List.mem_cons_of_mem _ hy)).1, fun j i hj => by
        rcases hj with hj | ⟨rfl, hj⟩
        · exact (hl y (List.mem_cons_of_mem _ hy)).2 j i hj
        · exact hs'.1 y hy⟩) hs'.2
      refine ⟨ih.1.mono (fun j k hj => ?_) (fun j k hj => ⟨j, Nat.le_refl _, ?_⟩), ih.2.trans h2⟩
      · rcases hj with (hj | ⟨rfl, hj⟩) | ⟨y, hy, h3, h4, h5⟩
        · exact .inl hj
        · exact .inr ⟨x, List.mem_cons_self, rfl, hf, hj⟩
        · rw [h2] at h5
          exact .inr ⟨y, List.mem_cons_of_mem _ hy, h3, h4, h5⟩
      · rcases hj with hj | ⟨y, hy, h3, h4, h5⟩
        · exact .inl (.inl hj)
        · rcases List.mem_cons.1 hy with rfl | hy
          · exact .inl (.inr ⟨h3.symm, h5⟩)
          · rw [← h2] at h5
            exact .inr ⟨y, hy, h3, h4, h5⟩
    · have hf' : ¬ ((oS r false s).r.2.getD x.1 p0).f b = true := hf
      rw [if_neg hf']
      have ih := stL_inv r s b hP hE hp l A t h hcl (fun y hy => hl y (List.mem_cons_of_mem _ hy)) hs'.2
      refine ⟨ih.1.mono (fun j k hj => ?_) (fun j k hj => ⟨j, Nat.le_refl _, ?_⟩), ih.2⟩
      · rcases hj with hj | ⟨y, hy, h3⟩
        · exact .inl hj
        · exact .inr ⟨y, List.mem_cons_of_mem _ hy, h3⟩
      · rcases hj with hj | ⟨y, hy, h3, h4, h5⟩
        · exact .inl hj
        · rcases List.mem_cons.1 hy with rfl | hy
          · exact absurd h4 hf
          · exact .inr ⟨y, hy, h3, h4, h5⟩
/-- over the next byte -/
theorem step_inv (r : Nat × List Part) (s : ByteArray) (b : Nat) (hP : okP r.2) (hE : OneEnd r.2) (hp : 0 < r.2.length) {A : Nat → Nat → Prop} {t : Wst} (h : InvT r.2 A t) :
    InvA r.2 (fun j k => ∃ i, A j i ∧ (r.2.getD i p0).kind = 1 ∧ (r.2.getD i p0).f b = true ∧ Ep r.2 s.size (t.pl + 1) (r.2.getD i p0).next k) (stepS (oS r false s) b (t.pl + 1) t) := by
  have h0 : InvA r.2 (fun _ _ => False) { pl := t.pl + 1, L := [], stk := t.stk, seen := t.seen, en := -1 } := by
    refine ⟨⟨h.len, fun x hx => Nat.le_succ_of_le (h.low x hx), (fun x hx => nomatch hx), fun j k _ hj => hj.elim, .inl ⟨rfl, fun j => id⟩, List.Pairwise.nil⟩, fun k => ⟨fun hv => ?_, fun ⟨_, hj⟩ => hj.elim⟩⟩
    exfalso
    have hv : t.seen.getD k 0 = t.pl + 1 + 1 := hv
    rw [List.getD_eq_getElem?_getD] at hv
    cases hx : t.seen[k]? with
    | none => rw [hx] at hv; simp at hv
    | some y =>
      rw [hx] at hv
      have := h.low y (List.mem_of_getElem? hx)
      simp at hv
      omega
  have h1 := (stL_inv r s b hP hE hp t.L _ _ h0 (fun j i k hj => hj.elim) (fun x hx => ⟨(h.th x hx).1, fun j i hj => hj.elim⟩) h.srt).1
  refine InvA.mono h1 (fun j k hj => ?_) (fun j k hj => ?_)
  · rcases hj with hj | ⟨x, hx, rfl, h3, h4⟩
    · exact hj.elim
    · obtain ⟨a, b', c, d⟩ := h.th x hx
      exact ⟨x.1, c, b', h3, h4⟩
  · obtain ⟨i, h2, h3, h4, h5⟩ := hj
    obtain ⟨fr, hfr⟩ := h.all j i h3 h2
    exact ⟨fr, (h.th _ hfr).2.2.2 j h2, .inr ⟨(i, fr), hfr, rfl, h4, h5⟩⟩

/-- from a part at a place one comes to a part at a place -/
inductive Rc (P : List Part) (s : Nat → Nat) (n : Nat) (k0 a0 : Nat) : Nat → Nat → Prop where
  | ep {k : Nat} : Ep P n a0 k0 k → Rc P s n k0 a0 k a0
  | take {k a k' : Nat} : Rc P s n k0 a0 k a → (P.getD k p0).kind = 1 → a < n → (P.getD k p0).f (s a) = true → Ep P n (a + 1) (P.getD k p0).next k' → Rc P s n k0 a0 k' (a + 1)
section
variable {s : Nat → Nat} {k0 a0 : Nat}
theorem Rc.ge {k a : Nat} (h : Rc P s n k0 a0 k a) : a0 ≤ a := by
  induction h with
  | ep _ => exact Nat.le_refl _
  | take _ _ _ _ _ ih => omega
theorem Rc.le {k a : Nat} (h : Rc P s n k0 a0 k a) (h0 : a0 ≤ n) : a ≤ n := by
  induction h with
  | ep _ => exact h0
  | take _ _ h _ _ _ => omega
theorem Rc.tail {k a x : Nat} (h : Rc P s n k0 a0 k a) (h2 : E1 P n a k x) : Rc P s n k0 a0 x a := by
  cases h with
  | ep h => exact .ep (h.tail h2)
  | take h a b c d => exact .take h a b c (d.tail h2)
theorem Rc.at0 {k : Nat} : Rc P s n k0 a0 k a0 ↔ Ep P n a0 k0 k := by
  constructor
  · intro h
    generalize ha : a0 = a at h
    cases h with
    | ep h => subst ha; exact h
    | take h _ _ _ _ => have := h.ge; omega
  · exact .ep
theorem Rc.at1 {k a : Nat} (ha : a0 ≤ a) : Rc P s n k0 a0 k (a + 1) ↔ ∃ i, Rc P s n k0 a0 i a ∧ (P.getD i p0).kind = 1 ∧ a < n ∧ (P.getD i p0).f (s a) = true ∧ Ep P n (a + 1) (P.getD i p0).next k := by
  constructor
  · intro h
    generalize hb : a + 1 = b at h
    cases h with
    | ep h => omega
    | take h h1 h2 h3 h4 =>
      have : a = _ := Nat.succ.inj hb
      subst this
      exact ⟨_, h, h1, h2, h3, h4⟩
  · rintro ⟨i, h, h1, h2, h3, h4⟩
    exact .take h h1 h2 h3 h4
/-- on the way to a later place one stands at a part that takes a byte -/
theorem Rc.mid {k a : Nat} (h : Rc P s n k0 a0 k a) : ∀ p, a0 ≤ p → p < a → ∃ i, Rc P s n k0 a0 i p ∧ (P.getD i p0).kind = 1 := by
  induction h with
  | ep _ => intro p h1 h2; omega
  | take h h1 h2 h3 h4 ih =>
    intro p h5 h6
    rcases Nat.lt_succ_iff_lt_or_eq.1 h6 with h7 | rfl
    · exact ih p h5 h7
    · exact ⟨_, h, h1⟩
theorem Rc.head {k x a b : Nat} (h : E1 P n a0 k x) (h2 : Rc P s n x a0 b a) : Rc P s n k a0 b a := by
  induction h2 with
  | ep h3 => exact .ep (.head h h3)
  | take _ h4 h5 h6 h7 ih => exact .take ih h4 h5 h6 h7
theorem Rc.headT {k a b : Nat} (hk : (P.getD k p0).kind = 1) (ha : a0 < n) (hf : (P.getD k p0).f (s a0) = true) (h2 : Rc P s n (P.getD k p0).next (a0 + 1) b a) : Rc P s n k a0 b a := by
  induction h2 with
  | ep h3 => exact .take (.ep (.refl _)) hk ha hf h3
  | take _ h4 h5 h6 h7 ih => exact .take ih h4 h5 h6 h7
theorem acc_ep {e a k x : Nat} (h : Ep P n a k x) (h2 : Acc P s n e x a) : Acc P s n e k a := by
  induction h with
  | refl _ => exact h2
  | head h _ ih =>
    obtain ⟨c, hc⟩ := ih h2
    refine ⟨c + 1, ?_⟩
    rw [AccN]
    rcases h with ⟨h1, h3 | h3⟩ | ⟨h1, h3, h4⟩ | ⟨h1, h3, h4⟩
    · exact .inr (.inr (.inl ⟨h1, .inl (h3 ▸ hc)⟩))
    · exact .inr (.inr (.inl ⟨h1, .inr (h3 ▸ hc)⟩))
    · exact .inr (.inr (.inr (.inl ⟨h1, h3, h4 ▸ hc⟩)))
    · exact .inr (.inr (.inr (.inr ⟨h1, h3, h4 ▸ hc⟩)))
/-- to come to the end is to come to the last part -/
theorem acc_rc (hP : okP P) (hE : OneEnd P) (h0 : k0 < P.length) {e : Nat} : Acc P s n e k0 a0 ↔ Rc P s n k0 a0 0 e := by
  constructor
  · rintro ⟨c, hc⟩
    induction c generalizing k0 a0 with
    | zero => exact hc.elim
    | succ c ih =>
      obtain ⟨h1, h2, -⟩ := hP.get h0
      rw [AccN] at hc
      rcases hc with ⟨h3, rfl⟩ | ⟨h3, h4, h5, h6⟩ | ⟨h3, h4⟩ | ⟨h3, h4, h5⟩ | ⟨h3, h4, h5⟩
      · have := (hE k0 h0).1 h3
        subst this
        exact .ep (.refl _)
      · exact .headT h3 h4 h5 (ih h1 h6)
      · rcases h4 with h4 | h4
        · exact .head (.inl ⟨h3, .inl rfl⟩) (ih h1 h4)
        · exact .head (.inl ⟨h3, .inr rfl⟩) (ih h2 h4)
      · exact .head (.inr (.inl ⟨h3, h4, rfl⟩)) (ih h1 h5)
      · exact .head (.inr (.inr ⟨h3, h4, rfl⟩)) (ih h1 h5)
  · intro h
    have key : ∀ {k a : Nat}, Rc P s n k0 a0 k a → Acc P s n e k a → Acc P s n e k0 a0 := by
      intro k a h
      induction h with
      | ep h => exact acc_ep h
      | take h h1 h2 h3 h4 ih =>
        intro h5
        obtain ⟨c, hc⟩ := acc_ep h4 h5
        exact ih ⟨c + 1, by rw [AccN]; exact .inr (.inl ⟨h1, h2, h3, hc⟩)⟩
    exact key h ⟨1, by rw [AccN]; exact .inl ⟨(hE 0 (Nat.lt_of_le_of_lt (Nat.zero_le _) h0)).2 rfl, rfl⟩⟩
end
end

/-- a text's bytes -/
def byt (s : ByteArray) (a : Nat) : Nat := (s.data.toList.getD a 0).toNat
theorem byteS_byt (r : Nat × List Part) (bk : Bool) (s : ByteArray) (a : Nat) : byteS (oS r bk s) a = byt s a := rfl
theorem atS_f (r : Nat × List Part) (s : ByteArray) (t : Wst) : atS (oS r false s) t = if t.pl = s.size then none else some (t.pl, t.pl + 1) := rfl
section
variable {r : Nat × List Part} {s : ByteArray} {from' : Nat}
/-- a fresh walk -/
theorem new_inv (hp : 0 < r.2.length) (a : Nat) : InvA r.2 (fun _ _ => False) (newS (oS r false s) a) := by
  have hz : ∀ x ∈ (newS (oS r false s) a).seen, x = 0 := fun x hx => List.eq_of_mem_replicate hx
  refine ⟨⟨by unfold newS oS; simp, fun x hx => by rw [hz x hx]; exact Nat.zero_le _, (fun x hx => nomatch hx), fun j k _ hj => hj.elim, .inl ⟨rfl, fun j => id⟩, List.Pairwise.nil⟩, fun k => ⟨fun hv => ?_, fun ⟨_, hj⟩ => hj.elim⟩⟩
  exfalso
  unfold Vs at hv
  rw [List.getD_eq_getElem?_getD] at hv
  cases hx : (newS (oS r false s) a).seen[k]? with
  | none => rw [hx] at hv; simp at hv
  | some y =>
    rw [hx, hz y (List.mem_of_getElem? hx)] at hv
    simp at hv
theorem begin_inv (hP : okP r.2) (hE : OneEnd r.2) (hst : r.1 < r.2.length) {A : Nat → Nat → Prop} {t : Wst} (h : InvA r.2 A t) (hcl : ∀ j i k, A j i → E1 r.2 s.size t.pl i k → A j k) (hold : ∀ j i, A j i → j ≤ t.pl) :
    InvA r.2 (fun j i => A j i ∨ (j = t.pl ∧ Ep r.2 s.size t.pl r.1 i)) (begS (oS r false s) t) ∧ (begS (oS r false s) t).pl = t.pl :=
  h.reach hP hE (Nat.lt_of_le_of_lt (Nat.zero_le _) hst) hcl hst hold

/-- what At answers -/
def AtOk (r : Nat × List Part) (s : ByteArray) (fr : Nat) (R : Nat × Bool) : Prop :=
  (R.2 = true ∧ fr ≤ R.1 ∧ R.1 ≤ s.size ∧ Acc r.2 (byt s) s.size R.1 r.1 fr ∧ ∀ e, Acc r.2 (byt s) s.size e r.1 fr → e ≤ R.1) ∨ (R = (0, false) ∧ ∀ e, ¬ Acc r.2 (byt s) s.size e r.1 fr)
/-- what is known at a place of those that ended ahead of it -/
def AtX (r : Nat × List Part) (s : ByteArray) (fr pl : Nat) (x : Nat × Bool) : Prop :=
  (x.2 = true ∧ x.1 < pl ∧ Acc r.2 (byt s) s.size x.1 r.1 fr ∧ ∀ e, e < pl → Acc r.2 (byt s) s.size e r.1 fr → e ≤ x.1) ∨ (x = (0, false) ∧ ∀ e, e < pl → ¬ Acc r.2 (byt s) s.size e r.1 fr)
theorem at_loop (hP : okP r.2) (hE : OneEnd r.2) (hst : r.1 < r.2.length) {fr : Nat} (hfr : fr ≤ s.size) : ∀ (f : Nat) (t : Wst) (x : Nat × Bool), s.size - t.pl + 1 ≤ f → fr ≤ t.pl → t.pl ≤ s.size → InvT r.2 (fun j k => j = fr ∧ Rc r.2 (byt s) s.size r.1 fr k t.pl) t → AtX r s fr t.pl x → AtOk r s fr (atRun (oS r false s) f t x)
  | 0, t, x, hf, _, _, _, _ => by omega
  | f + 1, t, x, hf, h1, h2, hi, hx => by
    have hen : t.en ≠ -1 ↔ Acc r.2 (byt s) s.size t.pl r.1 fr := by
      rw [acc_rc hP hE hst]
      rcases hi.en with ⟨a, b⟩ | ⟨m, a, b, c⟩
      · exact ⟨fun h => absurd a h, fun h => absurd ⟨rfl, h⟩ (b fr)⟩
      · exact ⟨fun _ => b.2, fun _ => by rw [a]; omega⟩
    obtain ⟨x', hx'⟩ : ∃ x', (if t.en ≠ -1 then (t.pl, true) else x) = x' := ⟨_, rfl⟩
    have hX : AtX r s fr (t.pl + 1) x' := by
      by_cases he : t.en ≠ -1
      · rw [if_pos he] at hx'
        subst hx'
        exact .inl ⟨rfl, Nat.lt_succ_self _, hen.1 he, fun e h _ => by omega⟩
      · rw [if_neg he] at hx'
        subst hx'
        have hno : ¬ Acc r.2 (byt s) s.size t.pl r.1 fr := fun h => he (hen.2 h)
        rcases hx with ⟨a, b, c, d⟩ | ⟨a, b⟩
        · refine .inl ⟨a, by omega, c, fun e h3 h4 => ?_⟩
          rcases Nat.lt_succ_iff_lt_or_eq.1 h3 with h3 | rfl
          · exact d e h3 h4
          · exact absurd h4 hno
        · refine .inr ⟨a, fun e h3 h4 => ?_⟩
          rcases Nat.lt_succ_iff_lt_or_eq.1 h3 with h3 | rfl
          · exact b e h3 h4
          · exact absurd h4 hno
    have hge : ∀ e, Acc r.2 (byt s) s.size e r.1 fr → fr ≤ e ∧ e ≤ s.size := fun e h => by
      rw [acc_rc hP hE hst] at h
      exact ⟨h.ge, h.le hfr⟩
    have hdone : (∀ e, t.pl < e → ¬ Acc r.2 (byt s) s.size e r.1 fr) → AtOk r s fr x' := fun hno => by
      rcases hX with ⟨a, b, c, d⟩ | ⟨a, b⟩
      · exact .inl ⟨a, (hge _ c).1, (hge _ c).2, c, fun e he => by
          rcases Nat.lt_or_ge t.pl e with h3 | h3
          · exact absurd he (hno e h3)
          · exact d e (by omega) he⟩
      · exact .inr ⟨a, fun e he => by
          rcases Nat.lt_or_ge t.pl e with h3 | h3
          · exact absurd he (hno e h3)
          · exact b e (by omega) he⟩
    rw [atRun, hx', atS_f]
    by_cases hL : t.L.length = 0
    · rw [if_pos hL]
      refine hdone fun e h3 h4 => ?_
      rw [acc_rc hP hE hst] at h4
      obtain ⟨i, h5, h6⟩ := h4.mid t.pl h1 h3
      obtain ⟨y, hy⟩ := hi.all fr i h6 ⟨rfl, h5⟩
      rw [List.length_eq_zero_iff.1 hL] at hy
      cases hy
    · rw [if_neg hL]
      by_cases hpl : t.pl = s.size
      · rw [if_pos hpl]
        exact hdone fun e h3 h4 => by have := (hge e h4).2; omega
      · rw [if_neg hpl]
        have hs := step_inv r s (byt s t.pl) hP hE (Nat.lt_of_le_of_lt (Nat.zero_le _) hst) hi
        have hp : (stepS (oS r false s) (byt s t.pl) (t.pl + 1) t).pl = t.pl + 1 := step_pl _ _ _ _
        show AtOk r s fr (atRun (oS r false s) f (stepS (oS r false s) (byteS (oS r false s) t.pl) (t.pl + 1) t) x')
        rw [byteS_byt]
        obtain ⟨t', ht'⟩ : ∃ t', stepS (oS r false s) (byt s t.pl) (t.pl + 1) t = t' := ⟨_, rfl⟩
        rw [ht'] at hs hp ⊢
        refine at_loop hP hE hst hfr f t' x' (by omega) (by omega) (by omega) (hs.1.mono (fun j k hj => ?_) (fun j k hj => ⟨j, Nat.le_refl _, ?_⟩)) (by rw [hp]; exact hX)
        · obtain ⟨i, ⟨rfl, h3⟩, h4, h5, h6⟩ := hj
          rw [hp]
          exact ⟨rfl, (Rc.at1 h1).2 ⟨i, h3, h4, by omega, h5, h6⟩⟩
        · obtain ⟨rfl, h3⟩ := hj
          rw [hp] at h3
          obtain ⟨i, h4, h5, h6, h7, h8⟩ := (Rc.at1 h1).1 h3
          exact ⟨i, ⟨rfl, h4⟩, h5, h7, h8⟩
theorem at_true (hP : okP r.2) (hE : OneEnd r.2) (hst : r.1 < r.2.length) {fr : Nat} (hfr : fr ≤ s.size) : AtOk r s fr (atRun (oS r false s) (s.size + 1) (begS (oS r false s) (newS (oS r false s) fr)) (0, false)) := by
  have h0 := begin_inv (s := s) hP hE hst (new_inv (r := r) (s := s) (Nat.lt_of_le_of_lt (Nat.zero_le _) hst) fr) (fun j i k hj => hj.elim) (fun j i hj => hj.elim)
  obtain ⟨t, ht⟩ : ∃ t, begS (oS r false s) (newS (oS r false s) fr) = t := ⟨_, rfl⟩
  rw [ht] at h0 ⊢
  obtain ⟨h1, h2⟩ := h0
  have h2 : t.pl = fr := h2
  refine at_loop hP hE hst hfr _ t _ (by omega) (by omega) (by omega) (h1.1.mono (fun j k hj => ?_) (fun j k hj => ⟨j, Nat.le_refl _, ?_⟩)) (.inr ⟨rfl, fun e h3 h4 => ?_⟩)
  · rcases hj with hj | ⟨rfl, hj⟩
    · exact hj.elim
    · rw [h2]
      exact ⟨rfl, .ep hj⟩
  · obtain ⟨rfl, hj⟩ := hj
    rw [h2] at hj
    exact .inr ⟨rfl, Rc.at0.1 hj⟩
  · rw [acc_rc hP hE hst] at h4
    have := h4.ge
    omega

/-- what began behind the oldest one that ends is dropped -/
theorem keep_mem (m : Nat) : ∀ (L : List (Nat × Nat)) (n : Nat), n ≤ L.length → (∀ i, n ≤ i → i < L.length → m < (L.getD i (0, 0)).2) → L.Pairwise (fun x y => x.2 ≤ y.2) → ∀ x, x ∈ L.take (keepN (m : Int) L n) ↔ x ∈ L ∧ x.2 ≤ m
  | L, 0, _, ha, hs, x => by
    rw [keepN]
    simp only [List.take_zero, List.not_mem_nil, false_iff, not_and]
    intro hx
    obtain ⟨i, hi, rfl⟩ := List.mem_iff_getElem.1 hx
    have := ha i (Nat.zero_le _) hi
    rw [List.getD_eq_getElem?_getD, List.getElem?_eq_getElem hi] at this
    simp at this
    omega
  | L, n + 1, hn, ha, hs, x => by
    have hlt : n < L.length := by omega
    have hg : L.getD n (0, 0) = L[n] := by rw [List.getD_eq_getElem?_getD, List.getElem?_eq_getElem hlt]; rfl
    rw [keepN]
    split
    · rename_i h
      refine keep_mem m L n (by omega) (fun i h1 h2 => ?_) hs x
      rcases Nat.lt_or_eq_of_le h1 with h3 | rfl
      · exact ha i h3 h2
      · omega
    · rename_i h
      have hle : (L[n]).2 ≤ m := by rw [hg] at h; omega
      constructor
      · intro hx
        refine ⟨List.mem_of_mem_take hx, ?_⟩
        obtain ⟨i, hi, rfl⟩ := List.mem_iff_getElem.1 hx
        rw [List.getElem_take]
        have hi' : i < n + 1 := by rw [List.length_take] at hi; omega
        rcases Nat.lt_or_eq_of_le (Nat.le_of_lt_succ hi') with h3 | rfl
        · exact Nat.le_trans (List.pairwise_iff_getElem.1 hs i n (by omega) hlt h3) hle
        · exact hle
      · rintro ⟨hx, hm⟩
        obtain ⟨i, hi, rfl⟩ := List.mem_iff_getElem.1 hx
        have hi' : i < n + 1 := by
          rcases Nat.lt_or_ge i (n + 1) with h3 | h3
          · exact h3
          · have := ha i h3 hi
            rw [List.getD_eq_getElem?_getD, List.getElem?_eq_getElem hi] at this
            simp at this
            omega
        refine List.mem_iff_getElem.2 ⟨i, by rw [List.length_take]; omega, ?_⟩
        rw [List.getElem_take]
theorem drop_inv {A : Nat → Nat → Prop} {t : Wst} {m : Nat} (h : InvT r.2 A t) (he : t.en = (m : Int)) : InvT r.2 (fun j k => j ≤ m ∧ A j k) (dropS t) := by
  have hmem : ∀ x, x ∈ (dropS t).L ↔ x ∈ t.L ∧ x.2 ≤ m := fun x => by
    unfold dropS
    rw [he]
    exact keep_mem m t.L t.L.length (Nat.le_refl _) (fun i h1 h2 => by omega) h.srt x
  refine ⟨h.len, h.low, fun x hx => ?_, fun j k hk hj => ?_, ?_, ?_⟩
  · obtain ⟨h1, h2⟩ := (hmem x).1 hx
    obtain ⟨a, b, c, d⟩ := h.th x h1
    exact ⟨a, b, ⟨h2, c⟩, fun j hj => d j hj.2⟩
  · obtain ⟨fr, hfr⟩ := h.all j k hk hj.2
    exact ⟨fr, (hmem _).2 ⟨hfr, Nat.le_trans ((h.th _ hfr).2.2.2 j hj.2) hj.1⟩⟩
  · right
    rcases h.en with ⟨a, b⟩ | ⟨m', a, b, c⟩
    · rw [he] at a; omega
    · have : m' = m := by rw [he] at a; omega
      subst this
      exact ⟨m', he, ⟨Nat.le_refl _, b⟩, fun j hj => c j hj.2⟩
  · exact h.srt.sublist (List.take_sublist _ _)

/-- what Find answers -/
def FdOk (r : Nat × List Part) (s : ByteArray) (fr : Nat) (R : (Nat × Nat) × Bool) : Prop :=
  (R.2 = true ∧ fr ≤ R.1.1 ∧ R.1.1 ≤ R.1.2 ∧ R.1.2 ≤ s.size ∧ Acc r.2 (byt s) s.size R.1.2 r.1 R.1.1 ∧ ∀ j e, fr ≤ j → j ≤ s.size → Acc r.2 (byt s) s.size e r.1 j → R.1.1 ≤ j ∧ (j = R.1.1 → e ≤ R.1.2)) ∨
  (R = ((0, 0), false) ∧ ∀ j e, fr ≤ j → j ≤ s.size → ¬ Acc r.2 (byt s) s.size e r.1 j)
/-- what is known at a place, with a match found already -/
def FdM (r : Nat × List Part) (s : ByteArray) (fr pl : Nat) (m : Nat × Nat) : Prop :=
  fr ≤ m.1 ∧ m.1 ≤ m.2 ∧ m.2 < pl ∧ Acc r.2 (byt s) s.size m.2 r.1 m.1 ∧ ∀ j e, fr ≤ j → j ≤ s.size → e < pl → Acc r.2 (byt s) s.size e r.1 j → m.1 ≤ j ∧ (j = m.1 → e ≤ m.2)
theorem fd_end (hP : okP r.2) (hE : OneEnd r.2) (hst : r.1 < r.2.length) {fr pl : Nat} {m : Nat × Nat} (hpl : pl ≤ s.size) (h : FdM r s fr (pl + 1) m) (hno : ∀ j e, fr ≤ j → j ≤ m.1 → pl < e → ¬ Acc r.2 (byt s) s.size e r.1 j) : FdOk r s fr (m, true) := by
  obtain ⟨a, b, c, d, e⟩ := h
  refine .inl ⟨rfl, a, b, by show m.2 ≤ s.size; omega, d, fun j e' h1 h2 h3 => ?_⟩
  rcases Nat.lt_or_ge pl e' with h4 | h4
  · rcases Nat.lt_or_ge m.1 j with h5 | h5
    · exact ⟨Nat.le_of_lt h5, fun h6 => by have h6 : j = m.1 := h6; omega⟩
    · exact absurd h3 (hno j e' h1 h5 h4)
  · exact e j e' h1 h2 (by omega) h3
theorem fd_loop (hP : okP r.2) (hE : OneEnd r.2) (hst : r.1 < r.2.length) {fr : Nat} : ∀ (f : Nat) (t : Wst) (m : Nat × Nat) (ok : Bool), s.size - t.pl + 1 ≤ f → fr ≤ t.pl → t.pl ≤ s.size →
    (ok = false → m = (0, 0) ∧ InvA r.2 (fun j k => fr ≤ j ∧ j < t.pl ∧ Rc r.2 (byt s) s.size r.1 j k t.pl) t ∧ ∀ j e, fr ≤ j → j ≤ s.size → e < t.pl → ¬ Acc r.2 (byt s) s.size e r.1 j) →
    (ok = true → InvT r.2 (fun j k => fr ≤ j ∧ j ≤ m.1 ∧ Rc r.2 (byt s) s.size r.1 j k t.pl) t ∧ FdM r s fr t.pl m) → FdOk r s fr (fdRun (oS r false s) f t m ok)
  | 0, t, m, ok, hf, _, _, _, _ => by omega
  | f + 1, t, m, ok, hf, h1, h2, hno, hyes => by
    have hp0 : 0 < r.2.length := Nat.lt_of_le_of_lt (Nat.zero_le _) hst
    obtain ⟨t1, ht1⟩ : ∃ t1, (if ok = true then t else begS (oS r false s) t) = t1 := ⟨_, rfl⟩
    -- the matches under way, one that begins here among them
    have hB : ∃ J : Nat, InvT r.2 (fun j k => fr ≤ j ∧ j ≤ J ∧ Rc r.2 (byt s) s.size r.1 j k t.pl) t1 ∧ t1.pl = t.pl ∧ (ok = true → J = m.1) ∧ (ok = false → J = t.pl ∧ InvA r.2 (fun j k => fr ≤ j ∧ j ≤ J ∧ Rc r.2 (byt s) s.size r.1 j k t.pl) t1) := by
      cases ok with
      | true =>
        rw [if_pos rfl] at ht1
        subst ht1
        exact ⟨m.1, (hyes rfl).1, rfl, fun _ => rfl, fun h => by cases h⟩
      | false =>
        rw [if_neg (by decide)] at ht1
        obtain ⟨-, hi, -⟩ := hno rfl
        obtain ⟨h3, h4⟩ := begin_inv (s := s) hP hE hst hi (fun j i k hj he => ⟨hj.1, hj.2.1, hj.2.2.tail he⟩) (fun j i hj => Nat.le_of_lt hj.2.1)
        rw [ht1] at h3 h4
        have h5 : InvA r.2 (fun j k => fr ≤ j ∧ j ≤ t.pl ∧ Rc r.2 (byt s) s.size r.1 j k t.pl) t1 := h3.mono (fun j k hj => by
          rcases hj with ⟨a, b, c⟩ | ⟨rfl, c⟩
          · exact ⟨a, Nat.le_of_lt b, c⟩
          · exact ⟨h1, Nat.le_refl _, .ep c⟩) (fun j k hj => ⟨j, Nat.le_refl _, by
          obtain ⟨a, b, c⟩ := hj
          rcases Nat.lt_or_eq_of_le b with b | rfl
          · exact .inl ⟨a, b, c⟩
          · exact .inr ⟨rfl, Rc.at0.1 c⟩⟩)
        exact ⟨t.pl, h5.1, h4, (fun h => by cases h), fun _ => ⟨rfl, h5⟩⟩
    obtain ⟨J, hi, hpl, hJ1, hJ0⟩ := hB
    have hnext : ∀ {t2 : Wst} {B : Nat → Prop}, t2.pl = t.pl → InvT r.2 (fun j k => B j ∧ Rc r.2 (byt s) s.size r.1 j k t.pl) t2 → (∀ j, B j → j ≤ t.pl) → t.pl ≠ s.size → InvA r.2 (fun j k => B j ∧ Rc r.2 (byt s) s.size r.1 j k (t.pl + 1)) (stepS (oS r false s) (byt s t.pl) (t.pl + 1) t2) := fun {t2 B} e1 hi2 hBj hne => by
      have hs := step_inv r s (byt s t.pl) hP hE hp0 hi2
      rw [e1] at hs
      refine hs.mono (fun j k hj => ?_) (fun j k hj => ⟨j, Nat.le_refl _, ?_⟩)
      · obtain ⟨i, ⟨b1, h3⟩, h4, h5, h6⟩ := hj
        exact ⟨b1, (Rc.at1 (hBj j b1)).2 ⟨i, h3, h4, by omega, h5, h6⟩⟩
      · obtain ⟨b1, h3⟩ := hj
        obtain ⟨i, h4, h5, h6, h7, h8⟩ := (Rc.at1 (hBj j b1)).1 h3
        exact ⟨i, ⟨b1, h4⟩, h5, h7, h8⟩
    by_cases hen : t1.en = -1
    · have hnone : ∀ j, fr ≤ j → j ≤ J → ¬ Acc r.2 (byt s) s.size t.pl r.1 j := fun j a b c => by
        rw [acc_rc hP hE hst] at c
        rcases hi.en with ⟨_, d⟩ | ⟨m', d, _⟩
        · exact d j ⟨a, b, c⟩
        · rw [hen] at d; omega
      rw [fd_not ht1 hen]
      unfold fdEnd
      rw [atS_f, hpl]
      cases ok with
      | true =>
        obtain rfl := hJ1 rfl
        obtain ⟨-, hM⟩ := hyes rfl
        have hM' : FdM r s fr (t.pl + 1) m := by
          obtain ⟨a, b, c, d, e⟩ := hM
          refine ⟨a, b, by omega, d, fun j e' g1 g2 g3 g4 => ?_⟩
          rcases Nat.lt_succ_iff_lt_or_eq.1 g3 with g3 | rfl
          · exact e j e' g1 g2 g3 g4
          · rcases Nat.lt_or_ge m.1 j with g5 | g5
            · exact ⟨Nat.le_of_lt g5, fun g6 => by omega⟩
            · exact absurd g4 (hnone j g1 g5)
        by_cases hL : t1.L.length = 0
        · rw [if_pos ⟨rfl, hL⟩]
          refine fd_end hP hE hst h2 hM' fun j e g1 g2 g3 g4 => ?_
          rw [acc_rc hP hE hst] at g4
          have hjp : j ≤ t.pl := by have := hM.2.1; have := hM.2.2.1; omega
          obtain ⟨i, g5, g6⟩ := g4.mid t.pl hjp g3
          obtain ⟨y, hy⟩ := hi.all j i g6 ⟨g1, g2, g5⟩
          rw [List.length_eq_zero_iff.1 hL] at hy
          cases hy
        · rw [if_neg (fun h => hL h.2)]
          by_cases hps : t.pl = s.size
          · rw [if_pos hps]
            refine fd_end hP hE hst h2 hM' fun j e g1 g2 g3 g4 => ?_
            rw [acc_rc hP hE hst] at g4
            have hjp : j ≤ t.pl := by have := hM.2.1; have := hM.2.2.1; omega
            have := g4.le (by omega)
            omega
          · rw [if_neg hps]
            have hs := hnext (B := fun j => fr ≤ j ∧ j ≤ m.1) hpl (hi.mono (fun j k hj => ⟨⟨hj.1, hj.2.1⟩, hj.2.2⟩) (fun j k hj => ⟨j, Nat.le_refl _, hj.1.1, hj.1.2, hj.2⟩)) (fun j hj => by have := hM.2.1; have := hM.2.2.1; omega) hps
            have hp : (stepS (oS r false s) (byt s t.pl) (t.pl + 1) t1).pl = t.pl + 1 := step_pl _ _ _ _
            show FdOk r s fr (fdRun (oS r false s) f (stepS (oS r false s) (byteS (oS r false s) t.pl) (t.pl + 1) t1) m true)
            rw [byteS_byt]
            obtain ⟨t', ht'⟩ : ∃ t', stepS (oS r false s) (byt s t.pl) (t.pl + 1) t1 = t' := ⟨_, rfl⟩
            rw [ht'] at hs hp ⊢
            refine fd_loop hP hE hst f t' m true (by omega) (by omega) (by omega) (fun h => by cases h) (fun _ => ⟨hs.1.mono (fun j k hj => by rw [hp]; exact ⟨hj.1.1, hj.1.2, hj.2⟩) (fun j k hj => ⟨j, Nat.le_refl _, by rw [hp] at hj; exact ⟨⟨hj.1, hj.2.1⟩, hj.2.2⟩⟩), by rw [hp]; exact hM'⟩)
      | false =>
        obtain ⟨rfl, hiA⟩ := hJ0 rfl
        obtain ⟨rfl, -, hn⟩ := hno rfl
        have hn' : ∀ j e, fr ≤ j → j ≤ s.size → e < t.pl + 1 → ¬ Acc r.2 (byt s) s.size e r.1 j := fun j e g1 g2 g3 g4 => by
          rcases Nat.lt_succ_iff_lt_or_eq.1 g3 with g3 | rfl
          · exact hn j e g1 g2 g3 g4
          · rcases Nat.lt_or_ge t.pl j with g5 | g5
            · rw [acc_rc hP hE hst] at g4
              have := g4.ge
              omega
            · exact hnone j g1 g5 g4
        rw [if_neg (fun h => by cases h.1)]
        by_cases hps : t.pl = s.size
        · rw [if_pos hps]
          refine .inr ⟨rfl, fun j e g1 g2 g3 => ?_⟩
          have g4 := (acc_rc hP hE hst).1 g3
          exact hn' j e g1 g2 (by have := g4.le g2; omega) g3
        · rw [if_neg hps]
          have hs := hnext (B := fun j => fr ≤ j ∧ j ≤ t.pl) hpl (hi.mono (fun j k hj => ⟨⟨hj.1, hj.2.1⟩, hj.2.2⟩) (fun j k hj => ⟨j, Nat.le_refl _, hj.1.1, hj.1.2, hj.2⟩)) (fun j hj => hj.2) hps
          have hp : (stepS (oS r false s) (byt s t.pl) (t.pl + 1) t1).pl = t.pl + 1 := step_pl _ _ _ _
          show FdOk r s fr (fdRun (oS r false s) f (stepS (oS r false s) (byteS (oS r false s) t.pl) (t.pl + 1) t1) (0, 0) false)
          rw [byteS_byt]
          obtain ⟨t', ht'⟩ : ∃ t', stepS (oS r false s) (byt s t.pl) (t.pl + 1) t1 = t' := ⟨_, rfl⟩
          rw [ht'] at hs hp ⊢
          refine fd_loop hP hE hst f t' (0, 0) false (by omega) (by omega) (by omega) (fun _ => ⟨rfl, hs.mono (fun j k hj => by rw [hp]; exact ⟨hj.1.1, by omega, hj.2⟩) (fun j k hj => ⟨j, Nat.le_refl _, by rw [hp] at hj; exact ⟨⟨hj.1, by omega⟩, hj.2.2⟩⟩), by rw [hp]; exact hn'⟩) (fun h => by cases h)
    · obtain ⟨e1, he1, hA1, hle1⟩ : ∃ e1 : Nat, t1.en = (e1 : Int) ∧ (fr ≤ e1 ∧ e1 ≤ J ∧ Rc r.2 (byt s) s.size r.1 e1 0 t.pl) ∧ ∀ j, (fr ≤ j ∧ j ≤ J ∧ Rc r.2 (byt s) s.size r.1 j 0 t.pl) → e1 ≤ j := by
        rcases hi.en with ⟨a, _⟩ | h
        · exact absurd a hen
        · exact h
      rw [fd_ends ht1 hen]
      have hen' : t1.en.toNat = e1 := by rw [he1]; rfl
      rw [hen', hpl]
      have hJp : J ≤ t.pl := by
        cases ok with
        | true => rw [hJ1 rfl]; have h := (hyes rfl).2; have := h.2.1; have := h.2.2.1; omega
        | false => rw [(hJ0 rfl).1]; exact Nat.le_refl _
      have hM' : FdM r s fr (t.pl + 1) (e1, t.pl) := by
        refine ⟨hA1.1, by show e1 ≤ t.pl; omega, Nat.lt_succ_self _, (acc_rc hP hE hst).2 hA1.2.2, fun j e g1 g2 g3 g4 => ⟨?_, fun _ => by show e ≤ t.pl; omega⟩⟩
        show e1 ≤ j
        rcases Nat.lt_or_ge J j with g5 | g5
        · omega
        · rcases Nat.lt_succ_iff_lt_or_eq.1 g3 with g3 | rfl
          · cases ok with
            | true =>
              have := ((hyes rfl).2.2.2.2.2 j e g1 g2 g3 g4).1
              have := hJ1 rfl
              omega
            | false => exact absurd g4 ((hno rfl).2.2 j e g1 g2 g3)
          · exact hle1 j ⟨g1, g5, (acc_rc hP hE hst).1 g4⟩
      have hd := drop_inv hi he1
      have hdp : (dropS t1).pl = t.pl := hpl
      have hd : InvT r.2 (fun j k => (fr ≤ j ∧ j ≤ e1) ∧ Rc r.2 (byt s) s.size r.1 j k t.pl) (dropS t1) := hd.mono (fun j k hj => ⟨⟨hj.2.1, hj.1⟩, hj.2.2.2⟩) (fun j k hj => ⟨j, Nat.le_refl _, hj.1.2, hj.1.1, by have := hj.1.2; omega, hj.2⟩)
      unfold fdEnd
      rw [atS_f, hdp]
      by_cases hL : (dropS t1).L.length = 0
      · rw [if_pos ⟨rfl, hL⟩]
        refine fd_end hP hE hst h2 hM' fun j e g1 g2 g3 g4 => ?_
        have g2 : j ≤ e1 := g2
        rw [acc_rc hP hE hst] at g4
        obtain ⟨i, g5, g6⟩ := g4.mid t.pl (by omega) g3
        obtain ⟨y, hy⟩ := hd.all j i g6 ⟨⟨g1, g2⟩, g5⟩
        rw [List.length_eq_zero_iff.1 hL] at hy
        cases hy
      · rw [if_neg (fun h => hL h.2)]
        by_cases hps : t.pl = s.size
        · rw [if_pos hps]
          refine fd_end hP hE hst h2 hM' fun j e g1 g2 g3 g4 => ?_
          have g2 : j ≤ e1 := g2
          rw [acc_rc hP hE hst] at g4
          have := g4.le (by omega)
          omega
        · rw [if_neg hps]
          have hs := hnext (B := fun j => fr ≤ j ∧ j ≤ e1) hdp hd (fun j hj => by omega) hps
          have hp : (stepS (oS r false s) (byt s t.pl) (t.pl + 1) (dropS t1)).pl = t.pl + 1 := step_pl _ _ _ _
          show FdOk r s fr (fdRun (oS r false s) f (stepS (oS r false s) (byteS (oS r false s) t.pl) (t.pl + 1) (dropS t1)) (e1, t.pl) true)
          rw [byteS_byt]
          obtain ⟨t', ht'⟩ : ∃ t', stepS (oS r false s) (byt s t.pl) (t.pl + 1) (dropS t1) = t' := ⟨_, rfl⟩
          rw [ht'] at hs hp ⊢
          refine fd_loop hP hE hst f t' (e1, t.pl) true (by omega) (by omega) (by omega) (fun h => by cases h) (fun _ => ⟨hs.1.mono (fun j k hj => by rw [hp]; exact ⟨hj.1.1, hj.1.2, hj.2⟩) (fun j k hj => ⟨j, Nat.le_refl _, by rw [hp] at hj; exact ⟨⟨hj.1, hj.2.1⟩, hj.2.2⟩⟩), by rw [hp]; exact hM'⟩)
theorem fd_true (hP : okP r.2) (hE : OneEnd r.2) (hst : r.1 < r.2.length) {fr : Nat} (hfr : fr ≤ s.size) : FdOk r s fr (fdRun (oS r false s) (s.size + 1) (newS (oS r false s) fr) (0, 0) false) := by
  have h0 := new_inv (r := r) (s := s) (Nat.lt_of_le_of_lt (Nat.zero_le _) hst) fr
  have hp : (newS (oS r false s) fr).pl = fr := rfl
  obtain ⟨t, ht⟩ : ∃ t, newS (oS r false s) fr = t := ⟨_, rfl⟩
  rw [ht] at h0 hp ⊢
  refine fd_loop hP hE hst _ t (0, 0) false (by omega) (by omega) (by omega) (fun _ => ⟨rfl, h0.mono (fun j k hj => hj.elim) (fun j k hj => by have := hj.1; have := hj.2.1; omega), fun j e g1 g2 g3 g4 => ?_⟩) (fun h => by cases h)
  rw [acc_rc hP hE hst] at g4
  have := g4.ge
  omega
end

/-- a program's parts are of the kinds that go on, but the first one -/
def KdC (core : Nat → List Part → Nat × List Part) : Prop := ∀ nx qs, (∀ i, 0 < i → i < qs.length → (qs.getD i p0).kind ≠ 0) → 0 < qs.length → ∀ i, 0 < i → i < (core nx qs).2.length → ((core nx qs).2.getD i p0).kind ≠ 0
theorem kd_app {qs : List Part} {p : Part} (h : ∀ i, 0 < i → i < qs.length → (qs.getD i p0).kind ≠ 0) (hp : p.kind ≠ 0) : ∀ i, 0 < i → i < (qs ++ [p]).length → ((qs ++ [p]).getD i p0).kind ≠ 0 := fun i h0 hi => by
  rcases Nat.lt_or_ge i qs.length with h1 | h1
  · rw [getD_app_lt h1]; exact h i h0 h1
  · have : i = qs.length := by simp at hi; omega
    subst this
    rw [getD_app_len]
    exact hp
theorem kd_set {qs : List Part} (h : ∀ i, 0 < i → i < qs.length → (qs.getD i p0).kind ≠ 0) (k x : Nat) : ∀ i, 0 < i → i < (setN qs k x).length → ((setN qs k x).getD i p0).kind ≠ 0 := fun i h0 hi => by
  rw [setN_len] at hi
  by_cases h1 : i = k
  · subst h1
    rw [setN_at _ _ _ hi]
    exact h i h0 hi
  · rw [setN_get _ _ _ _ h1]
    exact h i h0 hi
theorem kd_wrap {m : Option (Bool × Bool)} {core : Nat → List Part → Nat × List Part} (h : KdC core) : KdC (wrapM m core) := by
  intro nx qs hq h0
  rcases m with _ | ⟨no, ag⟩
  · exact h nx qs hq h0
  · cases ag with
    | true => exact kd_set (h _ _ (kd_app hq (p := ⟨2, nul, 0, nx⟩) (fun e => by cases e)) (by simp)) _ _
    | false => exact kd_app (h nx qs hq h0) (p := ⟨2, nul, _, nx⟩) (fun e => by cases e)
theorem kd_leaf (k : Int) (f : Nat → Bool) : KdC (leafM k f) := by
  intro nx qs hq h0
  unfold leafM addS
  split
  · exact kd_app hq (p := ⟨1, f, nx, 0⟩) (fun e => by cases e)
  · split
    · exact kd_app hq (p := ⟨3, nul, nx, 0⟩) (fun e => by cases e)
    · split
      · exact kd_app hq (p := ⟨4, nul, nx, 0⟩) (fun e => by cases e)
      · exact hq
theorem kd_lay : ∀ (t : Tr) (m : Option (Bool × Bool)), KdC (layM t m false)
  | .mk k f [], m => by
    have e : layM (.mk k f []) m false = wrapM m (leafM k f) := by funext nx qs; exact layM_nil k f m false nx qs
    rw [e]
    exact kd_wrap (kd_leaf k f)
  | .mk k f [u], m => by
    have e : layM (.mk k f [u]) m false = layM u (nextM m k) false := by funext nx qs; exact layM_one k f u m false nx qs
    rw [e]
    exact kd_lay u _
  | .mk k f [a, b], m => by
    have e : layM (.mk k f [a, b]) m false = wrapM m (twoM k a b false) := by funext nx qs; exact layM_two k f a b m false nx qs
    rw [e]
    refine kd_wrap fun nx qs hq h0 => ?_
    unfold twoM
    by_cases hk : k = 2
    · rw [if_pos hk]
      obtain ⟨l, e⟩ := lay_pre b none false nx qs
      exact kd_lay a none _ _ (kd_lay b none nx qs hq h0) (by rw [e]; simp; omega)
    · rw [if_neg hk]
      obtain ⟨l, e⟩ := lay_pre a none false nx qs
      exact kd_app (kd_lay b none nx _ (kd_lay a none nx qs hq h0) (by rw [e]; simp; omega)) (p := ⟨2, nul, _, _⟩) (fun e => by cases e)
  | .mk k f (_ :: _ :: _ :: _), m => by
    intro nx qs hq h0
    rw [layM.eq_def]
    exact hq
theorem prog_end (t : Tr) : OneEnd (progS t false).2 := fun k hk => by
  constructor
  · intro h
    rcases Nat.eq_zero_or_pos k with h0 | h0
    · exact h0
    · exact absurd h (kd_lay t none 0 [p0] (fun i h1 h2 => by simp at h2; omega) (by simp) k h0 hk)
  · rintro rfl
    obtain ⟨l, e⟩ := lay_pre t none false 0 [p0]
    have e : (progS t false).2 = [p0] ++ l := e
    rw [e]
    rfl
/-- At answers the greatest end of what the tree matches there -/
theorem at_means (t : Tr) (hs : shapedS t = true) (s : ByteArray) (fr : Nat) (hfr : fr ≤ s.size) : ∀ R, atRun (oS (progS t false) false s) (s.size + 1) (begS (oS (progS t false) false s) (newS (oS (progS t false) false s) fr)) (0, false) = R →
    (R.2 = true ∧ fr ≤ R.1 ∧ R.1 ≤ s.size ∧ Mt (byt s) s.size t fr R.1 ∧ ∀ e, Mt (byt s) s.size t fr e → e ≤ R.1) ∨ (R = (0, false) ∧ ∀ e, ¬ Mt (byt s) s.size t fr e) := by
  intro R hR
  obtain ⟨h1, h2, -⟩ := prog_ok t false
  have h := at_true (s := s) h1 (prog_end t) h2 hfr
  rw [hR] at h
  unfold AtOk at h
  simp only [prog_acc t hs] at h
  exact h
/-- Find answers the leftmost match, the longest there -/
theorem fd_means (t : Tr) (hs : shapedS t = true) (s : ByteArray) (fr : Nat) (hfr : fr ≤ s.size) : ∀ R, fdRun (oS (progS t false) false s) (s.size + 1) (newS (oS (progS t false) false s) fr) (0, 0) false = R →
    (R.2 = true ∧ fr ≤ R.1.1 ∧ R.1.1 ≤ R.1.2 ∧ R.1.2 ≤ s.size ∧ Mt (byt s) s.size t R.1.1 R.1.2 ∧ ∀ j e, fr ≤ j → j ≤ s.size → Mt (byt s) s.size t j e → R.1.1 ≤ j ∧ (j = R.1.1 → e ≤ R.1.2)) ∨ (R = ((0, 0), false) ∧ ∀ j e, fr ≤ j → j ≤ s.size → ¬ Mt (byt s) s.size t j e) := by
  intro R hR
  obtain ⟨h1, h2, -⟩ := prog_ok t false
  have h := fd_true (s := s) h1 (prog_end t) h2 hfr
  rw [hR] at h
  unfold FdOk at h
  simp only [prog_acc t hs] at h
  exact h

end Go.Proofs.Ytaneblecgjahbab.nfa
