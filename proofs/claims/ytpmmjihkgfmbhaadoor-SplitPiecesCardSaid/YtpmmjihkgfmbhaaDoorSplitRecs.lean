/- The records of bytes, in plain words: whole, in pieces, of one byte, of paragraphs. No program is named here. -/
import Derived.Test.YtpmmjihkgfmbhaaDoorSplitPlain
namespace Go.Proofs.YtpmmjihkgfmbhaaDoor.spl
set_option linter.unusedVariables false

/-- looked at, with nothing left -/
def dryR (s : SpS) : SpS := { s with rest := [] }
theorem next_some {m : Nat} {rs : List UInt8} {s t : SpS} {x : List UInt8} (hd : DryS rs s) (h : nextS m rs s = (some x, t)) :
    (eatS m rs s.rest (dryR s)).1 = x :: (eatS m rs t.rest (dryR t)).1 ∧ (eatS m rs s.rest (dryR s)).2 = (eatS m rs t.rest (dryR t)).2 ∧ t.rest.length < s.rest.length ∧ DryS rs t := by
  unfold nextS at h
  rw [readyS_dry hd] at h
  obtain ⟨h1, h2⟩ := goS_eat m rs s.rest s
  have h3 := goS_less m rs s.rest s
  have h4 := goS_dry (m := m) s.rest hd
  rw [h] at h1 h2 h3 h4
  simp only at h1 h2
  refine ⟨?_, (congrArg Prod.snd h2).symm, h3 x rfl, h4⟩
  have e : (eatS m rs t.rest (dryR t)).1 = (eatS m rs s.rest (dryR s)).1.tail := congrArg Prod.fst h2
  rw [e]
  show (eatS m rs s.rest (dryR s)).1 = _
  have h1' : some x = (eatS m rs s.rest (dryR s)).1.head? := h1
  cases hl : (eatS m rs s.rest (dryR s)).1 with
  | nil => rw [hl] at h1'; cases h1'
  | cons y r => rw [hl] at h1'; simp at h1'; subst h1'; rfl
theorem next_none {m : Nat} {rs : List UInt8} {s t : SpS} (hd : DryS rs s) (h : nextS m rs s = (none, t)) : eatS m rs s.rest (dryR s) = ([], t) ∧ t.rest = [] ∧ DryS rs t := by
  unfold nextS at h
  rw [readyS_dry hd] at h
  obtain ⟨h1, -⟩ := goS_eat m rs s.rest s
  have h3 := goS_none m rs s.rest s
  have h4 := goS_dry (m := m) s.rest hd
  rw [h] at h1 h3 h4
  have e2 : t = (eatS m rs s.rest (dryR s)).2 := h3 rfl
  have hr : t.rest = [] := by rw [e2]; exact eatS_rest m rs s.rest (dryR s) rfl
  refine ⟨Prod.ext ?_ e2.symm, hr, h4⟩
  have h1' : none = (eatS m rs s.rest (dryR s)).1.head? := h1
  cases hl : (eatS m rs s.rest (dryR s)).1 with
  | nil => rfl
  | cons y r => rw [hl] at h1'; cases h1'
/-- nothing is left: what Rest tells -/
theorem last_dry {m : Nat} {rs : List UInt8} {s : SpS} (hd : DryS rs s) (hr : s.rest = []) : lastS m rs s = if s.held = [] ∧ s.over = false then (none, s) else (some s.held, endS s) := by
  have hn : nextS m rs s = (none, s) := by
    unfold nextS
    rw [readyS_dry hd, hr]
    show (none, { s with rest := [] }) = _
    rw [← hr]
  unfold lastS
  rw [hn]
  rfl
/-- all records, with what follows the last one's end -/
def tailS (t : SpS) : List (List UInt8) := if t.held = [] ∧ t.over = false then [] else [t.held]
def recsS (m : Nat) (rs b : List UInt8) : List (List UInt8) := (eatS m rs b zeroS).1 ++ tailS (eatS m rs b zeroS).2

/-- of one byte: the state behind i bytes, of which the record under way began at f -/
def cutB (m : Nat) (b : List UInt8) (f i : Nat) : SpS := ⟨((b.take i).drop f).take m, decide (m < i - f), false, []⟩
theorem look_end (m : Nat) (c : UInt8) (s : SpS) : lookS m [c] s c = (true, s) := if_pos rfl
theorem look_put (m : Nat) {c x : UInt8} (h : x ≠ c) (s : SpS) : lookS m [c] s x = (false, putS m s x) := if_neg h
theorem eat_one_end (m : Nat) (c : UInt8) (s : SpS) : eatS m [c] [c] s = ([s.held], endS s) := by
  rw [eatS_cons, look_end, if_pos rfl]
  rfl
theorem eat_one_put (m : Nat) {c x : UInt8} (h : x ≠ c) (s : SpS) : eatS m [c] [x] s = ([], putS m s x) := by
  rw [eatS_cons, look_put m h, if_neg (by simp)]
  rfl
theorem cutB_put {m : Nat} {b : List UInt8} {f i : Nat} (hf : f ≤ i) (hi : i < b.length) : putS m (cutB m b f i) b[i] = cutB m b f (i + 1) := by
  have e : (b.take (i + 1)).drop f = (b.take i).drop f ++ [b[i]] := by
    rw [List.take_succ_eq_append_getElem hi, List.drop_append_of_le_length (by simp; omega)]
  have hl : ((b.take i).drop f).length = i - f := by simp; omega
  unfold putS cutB
  simp only [List.length_take, hl]
  rw [e]
  by_cases h : i - f < m
  · have t1 : ((b.take i).drop f).take m = (b.take i).drop f := List.take_of_length_le (by rw [hl]; omega)
    have t2 : ((b.take i).drop f ++ [b[i]]).take m = (b.take i).drop f ++ [b[i]] := List.take_of_length_le (by simp only [List.length_append, hl, List.length_singleton]; omega)
    have d1 : decide (m < i - f) = decide (m < i + 1 - f) := by simp only [decide_eq_decide]; omega
    rw [t1, t2, if_pos (by omega), d1]
  · have t2 : ((b.take i).drop f ++ [b[i]]).take m = ((b.take i).drop f).take m := List.take_append_of_le_length (by rw [hl]; omega)
    have d1 : decide (m < i + 1 - f) = true := by simp only [decide_eq_true_eq]; omega
    rw [t2, if_neg (by omega), d1]
theorem cutB_end (m : Nat) (b : List UInt8) (f i : Nat) : endS (cutB m b f i) = cutB m b (i + 1) (i + 1) := by
  have : (b.take (i + 1)).drop (i + 1) = [] := List.drop_eq_nil_of_le (by simp; omega)
  unfold endS cutB
  rw [this]
  simp
theorem cutB_zero (m : Nat) (b : List UInt8) : cutB m b 0 0 = zeroS := by simp [cutB, zeroS]
/-- the law's loop: behind i bytes -/
theorem byte_next {m : Nat} {b : List UInt8} {c : UInt8} {f i : Nat} {out : List (List UInt8)} (hf : f ≤ i) (hi : i < b.length) (h : eatS m [c] (b.take i) zeroS = (out, cutB m b f i)) :
    eatS m [c] (b.take (i + 1)) zeroS = if b[i] = c then (out ++ [((b.take i).drop f).take m], cutB m b (i + 1) (i + 1)) else (out, cutB m b f (i + 1)) := by
  rw [List.take_succ_eq_append_getElem hi, eatS_append, h]
  simp only
  split
  · next e =>
    rw [e, eat_one_end]
    show (out ++ [(cutB m b f i).held], endS (cutB m b f i)) = _
    rw [cutB_end]
    rfl
  · next e =>
    rw [eat_one_put m e, cutB_put hf hi]
    simp
theorem byte_tail {m : Nat} {b : List UInt8} {f : Nat} (hm : 1 ≤ m) (hf : f ≤ b.length) : tailS (cutB m b f b.length) = if f < b.length then [(b.drop f).take m] else [] := by
  unfold tailS cutB
  rw [List.take_length]
  by_cases h : f < b.length
  · rw [if_pos h, if_neg]
    rintro ⟨h1, -⟩
    have := congrArg List.length h1
    simp at this
    omega
  · rw [if_neg h, if_pos]
    refine ⟨?_, ?_⟩
    · rw [List.drop_eq_nil_of_le (by omega)]; simp
    · simp; omega

/-- a paragraph: not empty, a line feed at neither end, no two in a row -/
def noTwo : List UInt8 → Bool
  | a :: b :: r => !(a == 10 && b == 10) && noTwo (b :: r)
  | _ => true
def ParaB (x : List UInt8) : Prop := x ≠ [] ∧ x.head? ≠ some 10 ∧ x.getLast? ≠ some 10 ∧ noTwo x = true
theorem noTwo_snoc : ∀ (x : List UInt8) (b : UInt8), noTwo x = true → (b ≠ 10 ∨ x.getLast? ≠ some 10) → noTwo (x ++ [b]) = true
  | [], b, _, _ => rfl
  | [a], b, h, h2 => by
    show (!(a == 10 && b == 10) && true) = true
    rcases h2 with h2 | h2
    · simp [h2]
    · have : a ≠ 10 := fun e => h2 (by rw [e]; rfl)
      simp [this]
  | a :: c :: r, b, h, h2 => by
    have h' : (!(a == 10 && c == 10) && noTwo (c :: r)) = true := h
    simp only [Bool.and_eq_true] at h'
    show (!(a == 10 && c == 10) && noTwo ((c :: r) ++ [b])) = true
    rw [noTwo_snoc (c :: r) b h'.2 (by simpa [List.getLast?_cons] using h2), h'.1]
    rfl
/-- the record under way: a paragraph, or nothing; nothing waits behind nothing -/
def WayP (m : Nat) (s : SpS) (n : Nat) : Prop := (s.held = [] ∨ ParaB s.held) ∧ (s.waits = true → s.held ≠ []) ∧ s.over = false ∧ s.held.length + (if s.waits = true then 1 else 0) ≤ n
def text10 (x : List UInt8) : List UInt8 := x.filter fun b => b != 10
theorem text10_append (x y : List UInt8) : text10 (x ++ y) = text10 x ++ text10 y := List.filter_append ..

theorem para_snoc {x : List UInt8} {b : UInt8} (h : x = [] ∨ ParaB x) (hb : b ≠ 10) : ParaB (x ++ [b]) := by
  refine ⟨by simp, ?_, by simp [hb], ?_⟩
  · rcases h with rfl | h
    · simp [hb]
    · cases x with
      | nil => exact absurd rfl h.1
      | cons a r => exact h.2.1
  · rcases h with rfl | h
    · rfl
    · exact noTwo_snoc x b h.2.2.2 (.inl hb)
theorem para_snoc2 {x : List UInt8} {b : UInt8} (h : ParaB x) (hb : b ≠ 10) : ParaB (x ++ [10] ++ [b]) := by
  refine ⟨by simp, ?_, by simp [hb], ?_⟩
  · cases x with
    | nil => exact absurd rfl h.1
    | cons a r => exact h.2.1
  · exact noTwo_snoc _ b (noTwo_snoc x 10 h.2.2.2 (.inr h.2.2.1)) (.inl hb)

/-- one byte, by paragraphs -/
theorem way_next {m n : Nat} {s : SpS} (h : WayP m s n) (hn : n < m) (b : UInt8) :
    (lookS m [] s b).1 = true ∧ ParaB (lookS m [] s b).2.held ∧ WayP m (endS (lookS m [] s b).2) (n + 1) ∧ text10 (lookS m [] s b).2.held = text10 s.held ∧ b = 10 ∨
    (lookS m [] s b).1 = false ∧ WayP m (lookS m [] s b).2 (n + 1) ∧ text10 (lookS m [] s b).2.held = text10 s.held ++ text10 [b] := by
  obtain ⟨h1, h2, h3, h4⟩ := h
  unfold lookS
  simp only
  by_cases hb : b = 10
  · subst hb
    rw [if_pos rfl]
    by_cases hw : s.waits = true
    · rw [if_pos hw]
      refine .inl ⟨rfl, ?_, ⟨.inl rfl, (fun h => by cases h), rfl, Nat.zero_le _⟩, rfl, rfl⟩
      rcases h1 with h1 | h1
      · exact absurd h1 (h2 hw)
      · exact h1
    · rw [if_neg hw]
      refine .inr ⟨rfl, ⟨h1, fun h => ?_, h3, ?_⟩, by simp [text10]⟩
      · intro e
        have : (!s.held.isEmpty) = true := h
        rw [e] at this; cases this
      · show s.held.length + (if (!s.held.isEmpty) = true then 1 else 0) ≤ n + 1
        split <;> omega
  · rw [if_neg hb]
    by_cases hw : s.waits = true
    · have hp : ParaB s.held := by
        rcases h1 with h1 | h1
        · exact absurd h1 (h2 hw)
        · exact h1
      rw [if_pos hw] at h4
      have e1 : wakeS m s = { s with held := s.held ++ [10], waits := false } := by
        unfold wakeS putS
        rw [if_pos hw, if_pos (by omega)]
      have e2 : putS m (wakeS m s) b = { s with held := s.held ++ [10] ++ [b], waits := false } := by
        rw [e1]
        unfold putS
        rw [if_pos (by simp; omega)]
      rw [e2]
      refine .inr ⟨rfl, ⟨.inr (para_snoc2 hp hb), (fun h => by cases h), h3, ?_⟩, ?_⟩
      · simp; omega
      · show text10 (s.held ++ [10] ++ [b]) = _
        rw [text10_append, text10_append]
        simp [text10]
    · have e1 : wakeS m s = s := by unfold wakeS; rw [if_neg hw]
      rw [if_neg hw] at h4
      have e2 : putS m (wakeS m s) b = { s with held := s.held ++ [b] } := by
        rw [e1]
        unfold putS
        rw [if_pos (by omega)]
      rw [e2]
      refine .inr ⟨rfl, ⟨.inr (para_snoc h1 hb), (fun h => absurd h hw), h3, ?_⟩, text10_append _ _⟩
      simp only [hw, List.length_append, List.length_singleton]
      simp
      omega
theorem way_eat {m : Nat} : ∀ (b : List UInt8) {s : SpS} {n : Nat}, WayP m s n → n + b.length ≤ m →
    (∀ x ∈ (eatS m [] b s).1, ParaB x) ∧ WayP m (eatS m [] b s).2 (n + b.length) ∧ text10 ((eatS m [] b s).1.flatten ++ (eatS m [] b s).2.held) = text10 (s.held ++ b)
  | [], s, n, h, _ => ⟨(fun x hx => by cases hx), h, by simp [eatS]⟩
  | b :: r, s, n, h, hl => by
    simp only [List.length_cons] at hl
    rw [eatS_cons]
    rcases way_next h (by omega) b with ⟨h1, h2, h3, h4, h5⟩ | ⟨h1, h3, h4⟩
    · obtain ⟨g1, g2, g3⟩ := way_eat r h3 (by omega)
      rw [if_pos h1]
      refine ⟨fun x hx => ?_, by simp only [List.length_cons]; rw [show n + (r.length + 1) = n + 1 + r.length by omega]; exact g2, ?_⟩
      · rcases List.mem_cons.1 hx with rfl | hx
        · exact h2
        · exact g1 x hx
      · simp only [List.flatten_cons, List.append_assoc]
        rw [text10_append, g3, h4]
        show text10 s.held ++ text10 ([] ++ r) = _
        rw [h5, text10_append s.held]
        simp [text10]
    · obtain ⟨g1, g2, g3⟩ := way_eat r h3 (by omega)
      rw [if_neg (by rw [h1]; simp)]
      refine ⟨g1, by simp only [List.length_cons]; rw [show n + (r.length + 1) = n + 1 + r.length by omega]; exact g2, ?_⟩
      rw [g3, text10_append, h4, List.append_assoc, ← text10_append [b] r, ← text10_append]
      rfl
theorem paras_recs {m : Nat} {b : List UInt8} (hl : b.length ≤ m) : (∀ x ∈ recsS m [] b, ParaB x) ∧ text10 (recsS m [] b).flatten = text10 b := by
  have hz : WayP m zeroS 0 := ⟨.inl rfl, (fun h => by cases h), rfl, Nat.zero_le _⟩
  obtain ⟨g1, g2, g3⟩ := way_eat b hz (by omega)
  unfold recsS tailS
  split
  · next h =>
    rw [List.append_nil]
    rw [h.1, List.append_nil] at g3
    exact ⟨g1, g3⟩
  · next h =>
    refine ⟨fun x hx => ?_, ?_⟩
    · rcases List.mem_append.1 hx with hx | hx
      · exact g1 x hx
      · rw [List.mem_singleton.1 hx]
        rcases g2.1 with e | e
        · exact absurd ⟨e, g2.2.2.1⟩ h
        · exact e
    · rw [List.flatten_append]
      simp only [List.flatten_cons, List.flatten_nil, List.append_nil]
      exact g3

end Go.Proofs.YtpmmjihkgfmbhaaDoor.spl
