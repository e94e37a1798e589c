/- A splitter in plain words: chapter 7. No program is named here. The records of bytes, in plain words: whole, in pieces, of one byte, of paragraphs. No program is named here. Files by their names, in plain lists that rise by the names; what is done to them; the bytes of all of them. No program is named here. The reference's files, as they are read, and find. Bytes as a text. What is asked of the project's Splitter: its calls, over whatever lies where. -/
import Derived.Test.YtpfpnlhihnfahaaDoorBaseM
import Derived.Maps.Ext
import Derived.Test.YtpfpnlhihnfahaaDoorAppendM
import Derived.Maps.AppendAt
import Derived.Deep.AppendLies
import Derived.Deep.RegionHeld3

namespace Go.Proofs.YtpfpnlhihnfahaaDoor.spl
set_option linter.unusedVariables false

/-- the record under way, was more passed over, does a line feed wait, what has not been looked at -/
structure SpS where
  held : List UInt8
  over : Bool
  waits : Bool
  rest : List UInt8

def zeroS : SpS := ⟨[], false, false, []⟩
/-- its next byte -/
def putS (m : Nat) (s : SpS) (b : UInt8) : SpS := if s.held.length < m then { s with held := s.held ++ [b] } else { s with over := true }
/-- behind the record's end -/
def endS (s : SpS) : SpS := ⟨[], false, false, s.rest⟩
/-- a line feed that waits is its next byte -/
def wakeS (m : Nat) (s : SpS) : SpS := if s.waits = true then { putS m s 10 with waits := false } else s
/-- a byte is looked at: does it end the record? -/
def lookS (m : Nat) (rs : List UInt8) (s : SpS) (b : UInt8) : Bool × SpS :=
  match rs with
  | c :: _ => if b = c then (true, s) else (false, putS m s b)
  | [] => if b = 10 then (if s.waits = true then (true, s) else (false, { s with waits := !s.held.isEmpty })) else (false, putS m (wakeS m s) b)
/-- the bytes are looked at, till a record ends -/
def goS (m : Nat) (rs : List UInt8) : List UInt8 → SpS → Option (List UInt8) × SpS
  | [], s => (none, { s with rest := [] })
  | b :: r, s => if (lookS m rs { s with rest := r } b).1 = true then (some (lookS m rs { s with rest := r } b).2.held, endS (lookS m rs { s with rest := r } b).2) else goS m rs r (lookS m rs { s with rest := r } b).2
/-- with a separator a line feed that waits is looked at first -/
def readyS (rs : List UInt8) (s : SpS) : SpS := if rs ≠ [] ∧ s.waits = true then { s with waits := false, rest := 10 :: s.rest } else s
def nextS (m : Nat) (rs : List UInt8) (s : SpS) : Option (List UInt8) × SpS := goS m rs (readyS rs s).rest (readyS rs s)
/-- what Rest makes of Next's answer -/
def lastF : Option (List UInt8) × SpS → Option (List UInt8) × SpS
  | (some r, t) => (some r, t)
  | (none, t) => if t.held = [] ∧ t.over = false then (none, t) else (some t.held, endS t)
def lastS (m : Nat) (rs : List UInt8) (s : SpS) : Option (List UInt8) × SpS := lastF (nextS m rs s)
def feedS (s : SpS) (bs : List UInt8) : SpS := { s with rest := s.rest ++ bs }

/-- a state that a splitter of most m comes to -/
def OkS (m : Nat) (s : SpS) : Prop := s.held.length ≤ m
theorem putS_ok {m : Nat} {s : SpS} (h : OkS m s) (b : UInt8) : OkS m (putS m s b) := by
  unfold putS OkS at *
  split
  · simp; omega
  · exact h
theorem wakeS_ok {m : Nat} {s : SpS} (h : OkS m s) : OkS m (wakeS m s) := by
  unfold wakeS
  split
  · exact putS_ok h 10
  · exact h
theorem endS_ok (m : Nat) (s : SpS) : OkS m (endS s) := Nat.zero_le _
theorem lookS_ok {m : Nat} {s : SpS} (h : OkS m s) (rs : List UInt8) (b : UInt8) : OkS m (lookS m rs s b).2 := by
  unfold lookS
  split
  · split
    · exact h
    · exact putS_ok h b
  · split
    · split <;> exact h
    · exact putS_ok (wakeS_ok h) b
theorem goS_ok {m : Nat} {rs : List UInt8} : ∀ (r : List UInt8) {s : SpS}, OkS m s → OkS m (goS m rs r s).2
  | [], _, h => h
  | b :: r, s, h => by
    unfold goS
    split
    · exact endS_ok m _
    · exact goS_ok r (lookS_ok (s := { s with rest := r }) h rs b)
theorem readyS_ok {m : Nat} {s : SpS} (h : OkS m s) (rs : List UInt8) : OkS m (readyS rs s) := by
  unfold readyS; split <;> exact h
theorem nextS_ok {m : Nat} {s : SpS} (h : OkS m s) (rs : List UInt8) : OkS m (nextS m rs s).2 := goS_ok _ (readyS_ok h rs)
theorem lastS_ok {m : Nat} {s : SpS} (h : OkS m s) (rs : List UInt8) : OkS m (lastS m rs s).2 := by
  have hn := nextS_ok h rs
  unfold lastS
  obtain ⟨A, hA⟩ : ∃ A, nextS m rs s = A := ⟨_, rfl⟩
  rw [hA] at hn ⊢
  obtain ⟨a, t⟩ := A
  cases a with
  | some r => exact hn
  | none =>
    show OkS m (if t.held = [] ∧ t.over = false then (none, t) else (some t.held, endS t)).2
    split
    · exact hn
    · exact endS_ok m _
theorem feedS_ok {m : Nat} {s : SpS} (h : OkS m s) (bs : List UInt8) : OkS m (feedS s bs) := h

theorem putS_rest (m : Nat) (s : SpS) (b : UInt8) : (putS m s b).rest = s.rest := by unfold putS; split <;> rfl
theorem wakeS_rest (m : Nat) (s : SpS) : (wakeS m s).rest = s.rest := by
  unfold wakeS; split
  · exact putS_rest m s 10
  · rfl
theorem lookS_rest (m : Nat) (rs : List UInt8) (s : SpS) (b : UInt8) : (lookS m rs s b).2.rest = s.rest := by
  unfold lookS
  split
  · split
    · rfl
    · exact putS_rest m s b
  · split
    · split <;> rfl
    · rw [putS_rest, wakeS_rest]
/-- what is looked at does not hang on what comes behind -/
theorem putS_with (m : Nat) (s : SpS) (b : UInt8) (r : List UInt8) : putS m { s with rest := r } b = { putS m s b with rest := r } := by
  unfold putS; simp only; split <;> rfl
theorem wakeS_with (m : Nat) (s : SpS) (r : List UInt8) : wakeS m { s with rest := r } = { wakeS m s with rest := r } := by
  unfold wakeS; simp only; split
  · rw [putS_with]
  · rfl
theorem lookS_with (m : Nat) (rs : List UInt8) (s : SpS) (b : UInt8) (r : List UInt8) : lookS m rs { s with rest := r } b = ((lookS m rs s b).1, { (lookS m rs s b).2 with rest := r }) := by
  unfold lookS
  split
  · split
    · rfl
    · rw [putS_with]
  · split
    · simp only
      split <;> rfl
    · rw [wakeS_with, putS_with]

/-- the bytes are looked at to the end: the records -/
def eatS (m : Nat) (rs : List UInt8) : List UInt8 → SpS → List (List UInt8) × SpS
  | [], s => ([], s)
  | b :: r, s => if (lookS m rs s b).1 = true then ((lookS m rs s b).2.held :: (eatS m rs r (endS (lookS m rs s b).2)).1, (eatS m rs r (endS (lookS m rs s b).2)).2) else eatS m rs r (lookS m rs s b).2
theorem eatS_append (m : Nat) (rs : List UInt8) : ∀ (x y : List UInt8) (s : SpS), eatS m rs (x ++ y) s = ((eatS m rs x s).1 ++ (eatS m rs y (eatS m rs x s).2).1, (eatS m rs y (eatS m rs x s).2).2)
  | [], y, s => by simp [eatS]
  | b :: r, y, s => by
    simp only [List.cons_append, eatS]
    split
    · rw [eatS_append m rs r y]
      simp
    · exact eatS_append m rs r y _
theorem eatS_rest (m : Nat) (rs : List UInt8) : ∀ (x : List UInt8) (s : SpS), s.rest = [] → (eatS m rs x s).2.rest = []
  | [], s, h => h
  | b :: r, s, h => by
    unfold eatS
    split
    · exact eatS_rest m rs r _ ((lookS_rest m rs s b).trans h)
    · exact eatS_rest m rs r _ ((lookS_rest m rs s b).trans h)

theorem goS_cons (m : Nat) (rs : List UInt8) (b : UInt8) (r : List UInt8) (s : SpS) : goS m rs (b :: r) s = if (lookS m rs { s with rest := r } b).1 = true then (some (lookS m rs { s with rest := r } b).2.held, endS (lookS m rs { s with rest := r } b).2) else goS m rs r (lookS m rs { s with rest := r } b).2 := rfl
theorem eatS_cons (m : Nat) (rs : List UInt8) (b : UInt8) (r : List UInt8) (s : SpS) : eatS m rs (b :: r) s = if (lookS m rs s b).1 = true then ((lookS m rs s b).2.held :: (eatS m rs r (endS (lookS m rs s b).2)).1, (eatS m rs r (endS (lookS m rs s b).2)).2) else eatS m rs r (lookS m rs s b).2 := rfl

/-- one Next of a state, as a piece of it: the record is the first one -/
theorem goS_eat (m : Nat) (rs : List UInt8) : ∀ (r : List UInt8) (s : SpS),
    (goS m rs r s).1 = (eatS m rs r { s with rest := [] }).1.head? ∧
    eatS m rs (goS m rs r s).2.rest { (goS m rs r s).2 with rest := [] } = ((eatS m rs r { s with rest := [] }).1.tail, (eatS m rs r { s with rest := [] }).2)
  | [], s => ⟨rfl, rfl⟩
  | b :: r, s => by
    have e1 := lookS_with m rs s b r
    have e2 := lookS_with m rs s b []
    rw [goS_cons, eatS_cons, e1, e2]
    simp only
    by_cases h : (lookS m rs s b).1 = true
    · simp only [if_pos h]
      exact ⟨rfl, rfl⟩
    · simp only [if_neg h]
      exact goS_eat m rs r _
theorem goS_less (m : Nat) (rs : List UInt8) : ∀ (r : List UInt8) (s : SpS) x, (goS m rs r s).1 = some x → (goS m rs r s).2.rest.length < r.length
  | [], s, x, h => by cases h
  | b :: r, s, x, h => by
    unfold goS at h ⊢
    split
    · show (lookS m rs { s with rest := r } b).2.rest.length < _
      rw [lookS_rest]
      simp
    · next hn =>
      rw [if_neg hn] at h
      have := goS_less m rs r _ x h
      simp; omega
theorem goS_none (m : Nat) (rs : List UInt8) : ∀ (r : List UInt8) (s : SpS), (goS m rs r s).1 = none → (goS m rs r s).2 = (eatS m rs r { s with rest := [] }).2
  | [], s, h => rfl
  | b :: r, s, h => by
    have e1 := lookS_with m rs s b r
    have e2 := lookS_with m rs s b []
    rw [goS_cons, e1] at h ⊢
    rw [eatS_cons, e2]
    simp only at h ⊢
    by_cases hl : (lookS m rs s b).1 = true
    · simp only [if_pos hl] at h; cases h
    · simp only [if_neg hl] at h ⊢
      exact goS_none m rs r _ h

/-- no line feed waits where there is a separator -/
def DryS (rs : List UInt8) (s : SpS) : Prop := rs ≠ [] → s.waits = false
theorem readyS_dry {rs : List UInt8} {s : SpS} (h : DryS rs s) : readyS rs s = s := by
  unfold readyS
  rw [if_neg (fun h2 => by rw [h h2.1] at h2; cases h2.2)]
theorem lookS_dry {m : Nat} {rs : List UInt8} {s : SpS} (h : DryS rs s) (b : UInt8) : DryS rs (lookS m rs s b).2 := fun hne => by
  have h1 := h hne
  unfold lookS
  split
  · split
    · exact h1
    · show (putS m s b).waits = false
      unfold putS; split <;> exact h1
  · exact absurd rfl hne
theorem eatS_dry {m : Nat} {rs : List UInt8} : ∀ (x : List UInt8) {s : SpS}, DryS rs s → DryS rs (eatS m rs x s).2
  | [], s, h => h
  | b :: r, s, h => by
    unfold eatS
    split
    · exact eatS_dry r (fun _ => rfl)
    · exact eatS_dry r (lookS_dry h b)
theorem goS_dry {m : Nat} {rs : List UInt8} : ∀ (x : List UInt8) {s : SpS}, DryS rs s → DryS rs (goS m rs x s).2
  | [], s, h => h
  | b :: r, s, h => by
    unfold goS
    split
    · exact fun _ => rfl
    · exact goS_dry r (lookS_dry (s := { s with rest := r }) h b)

end Go.Proofs.YtpfpnlhihnfahaaDoor.spl

namespace Go.Proofs.YtpfpnlhihnfahaaDoor.spl
set_option linter.unusedVariables false

/-- looked at, with nothing left -/
def dryR (s : SpS) : SpS := { s with rest := [] }
theorem next_some {m : Nat} {rs : List UInt8} {s t : SpS} {x : List UInt8} (hd : DryS rs s) (h : nextS m rs s = (some x, t)) :
    (eatS m rs s.rest (dryR s)).1 = x :: (eatS m rs t.rest (dryR t)).1 ∧ (eatS m rs s.rest (dryR s)).2 = (eatS m rs t.rest (dryR t)).2 ∧ t.rest.length < s.rest.length ∧ DryS rs t := by
  unfold nextS at h
  rw [readyS_dry hd] at h
  obtain ⟨h1, h2⟩ := goS_eat m rs s.rest s
  have h3 := goS_less m rs s.rest s
  have h4 := goS_dry (m := m) s.rest hd
  rw [h] at h1 h2 h3 h4
  simp only at h1 h2
  refine ⟨?_, (congrArg Prod.snd h2).symm, h3 x rfl, h4⟩
  have e : (eatS m rs t.rest (dryR t)).1 = (eatS m rs s.rest (dryR s)).1.tail := congrArg Prod.fst h2
  rw [e]
  show (eatS m rs s.rest (dryR s)).1 = _
  have h1' : some x = (eatS m rs s.rest (dryR s)).1.head? := h1
  cases hl : (eatS m rs s.rest (dryR s)).1 with
  | nil => rw [hl] at h1'; cases h1'
  | cons y r => rw [hl] at h1'; simp at h1'; subst h1'; rfl
theorem next_none {m : Nat} {rs : List UInt8} {s t : SpS} (hd : DryS rs s) (h : nextS m rs s = (none, t)) : eatS m rs s.rest (dryR s) = ([], t) ∧ t.rest = [] ∧ DryS rs t := by
  unfold nextS at h
  rw [readyS_dry hd] at h
  obtain ⟨h1, -⟩ := goS_eat m rs s.rest s
  have h3 := goS_none m rs s.rest s
  have h4 := goS_dry (m := m) s.rest hd
  rw [h] at h1 h3 h4
  have e2 : t = (eatS m rs s.rest (dryR s)).2 := h3 rfl
  have hr : t.rest = [] := by rw [e2]; exact eatS_rest m rs s.rest (dryR s) rfl
  refine ⟨Prod.ext ?_ e2.symm, hr, h4⟩
  have h1' : none = (eatS m rs s.rest (dryR s)).1.head? := h1
  cases hl : (eatS m rs s.rest (dryR s)).1 with
  | nil => rfl
  | cons y r => rw [hl] at h1'; cases h1'
/-- nothing is left: what Rest tells -/
theorem last_dry {m : Nat} {rs : List UInt8} {s : SpS} (hd : DryS rs s) (hr : s.rest = []) : lastS m rs s = if s.held = [] ∧ s.over = false then (none, s) else (some s.held, endS s) := by
  have hn : nextS m rs s = (none, s) := by
    unfold nextS
    rw [readyS_dry hd, hr]
    show (none, { s with rest := [] }) = _
    rw [← hr]
  unfold lastS
  rw [hn]
  rfl
/-- all records, with what follows the last one's end -/
def tailS (t : SpS) : List (List UInt8) := if t.held = [] ∧ t.over = false then [] else [t.held]
def recsS (m : Nat) (rs b : List UInt8) : List (List UInt8) := (eatS m rs b zeroS).1 ++ tailS (eatS m rs b zeroS).2

/-- of one byte: the state behind i bytes, of which the record under way began at f -/
def cutB (m : Nat) (b : List UInt8) (f i : Nat) : SpS := ⟨((b.take i).drop f).take m, decide (m < i - f), false, []⟩
theorem look_end (m : Nat) (c : UInt8) (s : SpS) : lookS m [c] s c = (true, s) := if_pos rfl
theorem look_put (m : Nat) {c x : UInt8} (h : x ≠ c) (s : SpS) : lookS m [c] s x = (false, putS m s x) := if_neg h
theorem eat_one_end (m : Nat) (c : UInt8) (s : SpS) : eatS m [c] [c] s = ([s.held], endS s) := by
  rw [eatS_cons, look_end, if_pos rfl]
  rfl
theorem eat_one_put (m : Nat) {c x : UInt8} (h : x ≠ c) (s : SpS) : eatS m [c] [x] s = ([], putS m s x) := by
  rw [eatS_cons, look_put m h, if_neg (by simp)]
  rfl
theorem cutB_put {m : Nat} {b : List UInt8} {f i : Nat} (hf : f ≤ i) (hi : i < b.length) : putS m (cutB m b f i) b[i] = cutB m b f (i + 1) := by
  have e : (b.take (i + 1)).drop f = (b.take i).drop f ++ [b[i]] := by
    rw [List.take_succ_eq_append_getElem hi, List.drop_append_of_le_length (by simp; omega)]
  have hl : ((b.take i).drop f).length = i - f := by simp; omega
  unfold putS cutB
  simp only [List.length_take, hl]
  rw [e]
  by_cases h : i - f < m
  · have t1 : ((b.take i).drop f).take m = (b.take i).drop f := List.take_of_length_le (by rw [hl]; omega)
    have t2 : ((b.take i).drop f ++ [b[i]]).take m = (b.take i).drop f ++ [b[i]] := List.take_of_length_le (by simp only [List.length_append, hl, List.length_singleton]; omega)
    have d1 : decide (m < i - f) = decide (m < i + 1 - f) := by simp only [decide_eq_decide]; omega
    rw [t1, t2, if_pos (by omega), d1]
  · have t2 : ((b.take i).drop f ++ [b[i]]).take m = ((b.take i).drop f).take m := List.take_append_of_le_length (by rw [hl]; omega)
    have d1 : decide (m < i + 1 - f) = true := by simp only [decide_eq_true_eq]; omega
    rw [t2, if_neg (by omega), d1]
theorem cutB_end (m : Nat) (b : List UInt8) (f i : Nat) : endS (cutB m b f i) = cutB m b (i + 1) (i + 1) := by
  have : (b.take (i + 1)).drop (i + 1) = [] := List.drop_eq_nil_of_le (by simp; omega)
  unfold endS cutB
  rw [this]
  simp
theorem cutB_zero (m : Nat) (b : List UInt8) : cutB m b 0 0 = zeroS := by simp [cutB, zeroS]
/-- the law's loop: behind i bytes -/
theorem byte_next {m : Nat} {b : List UInt8} {c : UInt8} {f i : Nat} {out : List (List UInt8)} (hf : f ≤ i) (hi : i < b.length) (h : eatS m [c] (b.take i) zeroS = (out, cutB m b f i)) :
    eatS m [c] (b.take (i + 1)) zeroS = if b[i] = c then (out ++ [((b.take i).drop f).take m], cutB m b (i + 1) (i + 1)) else (out, cutB m b f (i + 1)) := by
  rw [List.take_succ_eq_append_getElem hi, eatS_append, h]
  simp only
  split
  · next e =>
    rw [e, eat_one_end]
    show (out ++ [(cutB m b f i).held], endS (cutB m b f i)) = _
    rw [cutB_end]
    rfl
  · next e =>
    rw [eat_one_put m e, cutB_put hf hi]
    simp
theorem byte_tail {m : Nat} {b : List UInt8} {f : Nat} (hm : 1 ≤ m) (hf : f ≤ b.length) : tailS (cutB m b f b.length) = if f < b.length then [(b.drop f).take m] else [] := by
  unfold tailS cutB
  rw [List.take_length]
  by_cases h : f < b.length
  · rw [if_pos h, if_neg]
    rintro ⟨h1, -⟩
    have := congrArg List.length h1
    simp at this
    omega
  · rw [if_neg h, if_pos]
    refine ⟨?_, ?_⟩
    · rw [List.drop_eq_nil_of_le (by omega)]; simp
    · simp; omega

/-- a paragraph: not empty, a line feed at neither end, no two in a row -/
def noTwo : List UInt8 → Bool
  | a :: b :: r => !(a == 10 && b == 10) && noTwo (b :: r)
  | _ => true
def ParaB (x : List UInt8) : Prop := x ≠ [] ∧ x.head? ≠ some 10 ∧ x.getLast? ≠ some 10 ∧ noTwo x = true
theorem noTwo_snoc : ∀ (x : List UInt8) (b : UInt8), noTwo x = true → (b ≠ 10 ∨ x.getLast? ≠ some 10) → noTwo (x ++ [b]) = true
  | [], b, _, _ => rfl
  | [a], b, h, h2 => by
    show (!(a == 10 && b == 10) && true) = true
    rcases h2 with h2 | h2
    · simp [h2]
    · have : a ≠ 10 := fun e => h2 (by rw [e]; rfl)
      simp [this]
  | a :: c :: r, b, h, h2 => by
    have h' : (!(a == 10 && c == 10) && noTwo (c :: r)) = true := h
    simp only [Bool.and_eq_true] at h'
    show (!(a == 10 && c == 10) && noTwo ((c :: r) ++ [b])) = true
    rw [noTwo_snoc (c :: r) b h'.2 (by simpa [List.getLast?_cons] using h2), h'.1]
    rfl
/-- the record under way: a paragraph, or nothing; nothing waits behind nothing -/
def WayP (m : Nat) (s : SpS) (n : Nat) : Prop := (s.held = [] ∨ ParaB s.held) ∧ (s.waits = true → s.held ≠ []) ∧ s.over = false ∧ s.held.length + (if s.waits = true then 1 else 0) ≤ n
def text10 (x : List UInt8) : List UInt8 := x.filter fun b => b != 10
theorem text10_append (x y : List UInt8) : text10 (x ++ y) = text10 x ++ text10 y := List.filter_append ..

theorem para_snoc {x : List UInt8} {b : UInt8} (h : x = [] ∨ ParaB x) (hb : b ≠ 10) : ParaB (x ++ [b]) := by
  refine ⟨by simp, ?_, by simp [hb], ?_⟩
  · rcases h with rfl | h
    · simp [hb]
    · cases x with
      | nil => exact absurd rfl h.1
      | cons a r => exact h.2.1
  · rcases h with rfl | h
    · rfl
    · exact noTwo_snoc x b h.2.2.2 (.inl hb)
theorem para_snoc2 {x : List UInt8} {b : UInt8} (h : ParaB x) (hb : b ≠ 10) : ParaB (x ++ [10] ++ [b]) := by
  refine ⟨by simp, ?_, by simp [hb], ?_⟩
  · cases x with
    | nil => exact absurd rfl h.1
    | cons a r => exact h.2.1
  · exact noTwo_snoc _ b (noTwo_snoc x 10 h.2.2.2 (.inr h.2.2.1)) (.inl hb)

/-- one byte, by paragraphs -/
theorem way_next {m n : Nat} {s : SpS} (h : WayP m s n) (hn : n < m) (b : UInt8) :
    (lookS m [] s b).1 = true ∧ ParaB (lookS m [] s b).2.held ∧ WayP m (endS (lookS m [] s b).2) (n + 1) ∧ text10 (lookS m [] s b).2.held = text10 s.held ∧ b = 10 ∨
    (lookS m [] s b).1 = false ∧ WayP m (lookS m [] s b).2 (n + 1) ∧ text10 (lookS m [] s b).2.held = text10 s.held ++ text10 [b] := by
  obtain ⟨h1, h2, h3, h4⟩ := h
  unfold lookS
  simp only
  by_cases hb : b = 10
  · subst hb
    rw [if_pos rfl]
    by_cases hw : s.waits = true
    · rw [if_pos hw]
      refine .inl ⟨rfl, ?_, ⟨.inl rfl, (fun h => by cases h), rfl, Nat.zero_le _⟩, rfl, rfl⟩
      rcases h1 with h1 | h1
      · exact absurd h1 (h2 hw)
      · exact h1
    · rw [if_neg hw]
      refine .inr ⟨rfl, ⟨h1, fun h => ?_, h3, ?_⟩, by simp [text10]⟩
      · intro e
        have : (!s.held.isEmpty) = true := h
        rw [e] at this; cases this
      · show s.held.length + (if (!s.held.isEmpty) = true then 1 else 0) ≤ n + 1
        split <;> omega
  · rw [if_neg hb]
    by_cases hw : s.waits = true
    · have hp : ParaB s.held := by
        rcases h1 with h1 | h1
        · exact absurd h1 (h2 hw)
        · exact h1
      rw [if_pos hw] at h4
      have e1 : wakeS m s = { s with held := s.held ++ [10], waits := false } := by
        unfold wakeS putS
        rw [if_pos hw, if_pos (by omega)]
      have e2 : putS m (wakeS m s) b = { s with held := s.held ++ [10] ++ [b], waits := false } := by
        rw [e1]
        unfold putS
        rw [if_pos (by simp; omega)]
      rw [e2]
      refine .inr ⟨rfl, ⟨.inr (para_snoc2 hp hb), (fun h => by cases h), h3, ?_⟩, ?_⟩
      · simp; omega
      · show text10 (s.held ++ [10] ++ [b]) = _
        rw [text10_append, text10_append]
        simp [text10]
    · have e1 : wakeS m s = s := by unfold wakeS; rw [if_neg hw]
      rw [if_neg hw] at h4
      have e2 : putS m (wakeS m s) b = { s with held := s.held ++ [b] } := by
        rw [e1]
        unfold putS
        rw [if_pos (by omega)]
      rw [e2]
      refine .inr ⟨rfl, ⟨.inr (para_snoc h1 hb), (fun h => absurd h hw), h3, ?_⟩, text10_append _ _⟩
      simp only [hw, List.length_append, List.length_singleton]
      simp
      omega
theorem way_eat {m : Nat} : ∀ (b : List UInt8) {s : SpS} {n : Nat}, WayP m s n → n + b.length ≤ m →
    (∀ x ∈ (eatS m [] b s).1, ParaB x) ∧ WayP m (eatS m [] b s).2 (n + b.length) ∧ text10 ((eatS m [] b s).1.flatten ++ (eatS m [] b s).2.held) = text10 (s.held ++ b)
  | [], s, n, h, _ => ⟨(fun x hx => by cases hx), h, by simp [eatS]⟩
  | b :: r, s, n, h, hl => by
    simp only [List.length_cons] at hl
    rw [eatS_cons]
    rcases way_next h (by omega) b with ⟨h1, h2, h3, h4, h5⟩ | ⟨h1, h3, h4⟩
    · obtain ⟨g1, g2, g3⟩ := way_eat r h3 (by omega)
      rw [if_pos h1]
      refine ⟨fun x hx => ?_, by simp only [List.length_cons]; rw [show n + (r.length + 1) = n + 1 + r.length by omega]; exact g2, ?_⟩
      · rcases List.mem_cons.1 hx with rfl | hx
        · exact h2
        · exact g1 x hx
      · simp only [List.flatten_cons, List.append_assoc]
        rw [text10_append, g3, h4]
        show text10 s.held ++ text10 ([] ++ r) = _
        rw [h5, text10_append s.held]
        simp [text10]
    · obtain ⟨g1, g2, g3⟩ := way_eat r h3 (by omega)
      rw [if_neg (by rw [h1]; simp)]
      refine ⟨g1, by simp only [List.length_cons]; rw [show n + (r.length + 1) = n + 1 + r.length by omega]; exact g2, ?_⟩
      rw [g3, text10_append, h4, List.append_assoc, ← text10_append [b] r, ← text10_append]
      rfl
theorem paras_recs {m : Nat} {b : List UInt8} (hl : b.length ≤ m) : (∀ x ∈ recsS m [] b, ParaB x) ∧ text10 (recsS m [] b).flatten = text10 b := by
  have hz : WayP m zeroS 0 := ⟨.inl rfl, (fun h => by cases h), rfl, Nat.zero_le _⟩
  obtain ⟨g1, g2, g3⟩ := way_eat b hz (by omega)
  unfold recsS tailS
  split
  · next h =>
    rw [List.append_nil]
    rw [h.1, List.append_nil] at g3
    exact ⟨g1, g3⟩
  · next h =>
    refine ⟨fun x hx => ?_, ?_⟩
    · rcases List.mem_append.1 hx with hx | hx
      · exact g1 x hx
      · rw [List.mem_singleton.1 hx]
        rcases g2.1 with e | e
        · exact absurd ⟨e, g2.2.2.1⟩ h
        · exact e
    · rw [List.flatten_append]
      simp only [List.flatten_cons, List.flatten_nil, List.append_nil]
      exact g3

end Go.Proofs.YtpfpnlhihnfahaaDoor.spl

namespace Go.Proofs.YtpfpnlhihnfahaaDoor.fs
open Go.WideShapes
set_option linter.unusedVariables false

abbrev Name := List UInt8
abbrev Files := List (Name × List UInt8)

def bef (a b : Name) : Bool := (Lit.string a).before (.string b)
theorem bef_irrefl (a : Name) : bef a a = false := before_irrefl _
theorem bef_trans {a b c : Name} (h : bef a b = true) (k : bef b c = true) : bef a c = true := before_trans h k
theorem bef_total {a b : Name} (h : a ≠ b) : bef a b = true ∨ bef b a = true := Go.ChangeMaps.before_total ⟨a, rfl⟩ ⟨b, rfl⟩ (by intro e; cases e; exact h rfl)
theorem bef_ne {a b : Name} (h : bef a b = true) : a ≠ b := by rintro rfl; rw [bef_irrefl] at h; cases h

def Rising (es : Files) : Prop := es.Pairwise (fun p q => bef p.1 q.1 = true)
theorem rising_nil : Rising [] := List.Pairwise.nil
theorem Rising.apart {es : Files} (h : Rising es) : es.Pairwise (fun p q => p.1 ≠ q.1) := h.imp fun hb => bef_ne hb

theorem eq_of_mem : ∀ {l m : Files}, Rising l → Rising m → (∀ p, p ∈ l ↔ p ∈ m) → l = m
  | [], [], _, _, _ => rfl
  | [], b :: s, _, _, h => by have := (h b).2 (by simp); simp at this
  | a :: r, [], _, _, h => by have := (h a).1 (by simp); simp at this
  | a :: r, b :: s, h1, h2, h => by
    obtain ⟨a1, a2⟩ := List.pairwise_cons.1 h1
    obtain ⟨b1, b2⟩ := List.pairwise_cons.1 h2
    have hab : a = b := by
      rcases List.mem_cons.1 ((h a).1 (by simp)) with e | ha
      · exact e
      · rcases List.mem_cons.1 ((h b).2 (by simp)) with e | hb
        · exact e.symm
        · have := bef_trans (a1 b hb) (b1 a ha)
          rw [bef_irrefl] at this
          cases this
    subst hab
    rw [eq_of_mem a2 b2 (fun p => ⟨fun hp => by
      rcases List.mem_cons.1 ((h p).1 (by simp [hp])) with e | hp'
      · have := a1 p hp
        rw [e, bef_irrefl] at this
        cases this
      · exact hp', fun hp => by
      rcases List.mem_cons.1 ((h p).2 (by simp [hp])) with e | hp'
      · have := b1 p hp
        rw [e, bef_irrefl] at this
        cases this
      · exact hp'⟩)]

def ins (x : Name × List UInt8) : Files → Files
  | [] => [x]
  | y :: r => if bef x.1 y.1 then x :: y :: r else y :: ins x r
def drop (es : Files) (n : Name) : Files := es.filter fun p => !(p.1 == n)
def put (es : Files) (n : Name) (bs : List UInt8) : Files := ins (n, bs) (drop es n)
def get (es : Files) (n : Name) : Option (List UInt8) := (es.find? fun p => p.1 == n).map (·.2)
def used (es : Files) : Nat := (es.map fun p => p.2.length).sum

theorem mem_ins {x p : Name × List UInt8} : ∀ {es : Files}, p ∈ ins x es ↔ p = x ∨ p ∈ es
  | [] => by simp [ins]
  | y :: r => by
    unfold ins
    split
    · simp
    · simp only [List.mem_cons, mem_ins (es := r)]
      exact or_left_comm
theorem mem_drop {es : Files} {n : Name} {p : Name × List UInt8} : p ∈ drop es n ↔ p ∈ es ∧ p.1 ≠ n := by simp [drop]
theorem mem_put {es : Files} {n : Name} {bs : List UInt8} {p : Name × List UInt8} : p ∈ put es n bs ↔ p = (n, bs) ∨ (p ∈ es ∧ p.1 ≠ n) := by rw [put, mem_ins, mem_drop]

theorem rising_ins {x : Name × List UInt8} : ∀ {es : Files}, Rising es → (∀ p ∈ es, p.1 ≠ x.1) → Rising (ins x es)
  | [], _, _ => by simp [ins, Rising]
  | y :: r, h, hne => by
    obtain ⟨h1, h2⟩ := List.pairwise_cons.1 h
    unfold ins
    split
    · rename_i hb
      refine List.pairwise_cons.2 ⟨fun q hq => ?_, h⟩
      rcases List.mem_cons.1 hq with rfl | hq
      · exact hb
      · exact bef_trans hb (h1 q hq)
    · rename_i hb
      refine List.pairwise_cons.2 ⟨fun q hq => ?_, rising_ins h2 fun p hp => hne p (by simp [hp])⟩
      rcases mem_ins.1 hq with rfl | hq
      · rcases bef_total (hne y (by simp)) with e | e
        · exact e
        · exact absurd e hb
      · exact h1 q hq
theorem Rising.drop {es : Files} (h : Rising es) (n : Name) : Rising (drop es n) := List.Pairwise.filter _ h
theorem Rising.put {es : Files} (h : Rising es) (n : Name) (bs : List UInt8) : Rising (put es n bs) := rising_ins (h.drop n) fun p hp => (mem_drop.1 hp).2

theorem get_some {es : Files} (h : Rising es) {n : Name} {bs : List UInt8} : get es n = some bs ↔ (n, bs) ∈ es := by
  induction es with
  | nil => simp [get]
  | cons y r ih =>
    obtain ⟨h1, h2⟩ := List.pairwise_cons.1 h
    obtain ⟨a, b⟩ := y
    unfold get
    by_cases e : a = n
    · subst e
      simp only [List.find?_cons, beq_self_eq_true, Option.map_some, Option.some.injEq, List.mem_cons, Prod.mk.injEq, true_and]
      constructor
      · rintro rfl; exact .inl rfl
      · rintro (e | hm)
        · exact e.symm
        · exact absurd rfl (bef_ne (h1 (a, bs) hm))
    · have e' : (a == n) = false := by simpa using e
      simp only [List.find?_cons, e']
      have := ih h2
      unfold get at this
      rw [this]
      simp [Ne.symm e]
theorem get_none {es : Files} {n : Name} : get es n = none ↔ ∀ p ∈ es, p.1 ≠ n := by
  simp [get, List.find?_eq_none]

theorem get_put_same {es : Files} (h : Rising es) (n : Name) (bs : List UInt8) : get (put es n bs) n = some bs := (get_some (h.put n bs)).2 (mem_put.2 (.inl rfl))
theorem opt_ext {α : Type} {a b : Option α} (h : ∀ x, a = some x ↔ b = some x) : a = b := by
  cases a with
  | none => cases b with
    | none => rfl
    | some y => exact (h y).2 rfl
  | some y => exact ((h y).1 rfl).symm
theorem get_put_other {es : Files} (h : Rising es) {n m : Name} (hne : m ≠ n) (bs : List UInt8) : get (put es n bs) m = get es m := by
  refine opt_ext fun x => ?_
  rw [get_some (h.put n bs), get_some h, mem_put]
  simp [hne]
theorem get_drop_same {es : Files} (n : Name) : get (drop es n) n = none := get_none.2 fun p hp => (mem_drop.1 hp).2
theorem get_drop_other {es : Files} (h : Rising es) {n m : Name} (hne : m ≠ n) : get (drop es n) m = get es m := by
  refine opt_ext fun x => ?_
  rw [get_some (h.drop n), get_some h, mem_drop]
  simp [hne]
theorem drop_none {es : Files} {n : Name} (h : get es n = none) : drop es n = es := by
  unfold drop
  rw [List.filter_eq_self]
  intro p hp
  simpa using get_none.1 h p hp

theorem used_ins (x : Name × List UInt8) : ∀ es : Files, used (ins x es) = x.2.length + used es
  | [] => by simp [ins, used]
  | y :: r => by
    unfold ins
    split
    · simp [used]
    · have := used_ins x r
      simp only [used, List.map_cons, List.sum_cons] at this ⊢
      omega
theorem used_drop {es : Files} (h : Rising es) (n : Name) : used (drop es n) + ((get es n).getD []).length = used es := by
  induction es with
  | nil => simp [used, drop, get]
  | cons y r ih =>
    obtain ⟨h1, h2⟩ := List.pairwise_cons.1 h
    by_cases e : y.1 = n
    · have hn : get r n = none := get_none.2 fun p hp => by rw [← e]; exact (bef_ne (h1 p hp)).symm
      have hd : drop (y :: r) n = r := by
        have := drop_none hn
        unfold drop at this ⊢
        rw [List.filter_cons, this]
        simp [e]
      have hg : get (y :: r) n = some y.2 := by simp [get, e]
      rw [hd, hg]
      simp [used]
      omega
    · have hd : drop (y :: r) n = y :: drop r n := by simp [drop, e]
      have hg : get (y :: r) n = get r n := by simp [get, e]
      have := ih h2
      rw [hd, hg]
      simp only [used, List.map_cons, List.sum_cons] at this ⊢
      omega
theorem used_put {es : Files} (h : Rising es) (n : Name) (bs : List UInt8) : used (put es n bs) + ((get es n).getD []).length = used es + bs.length := by
  have := used_drop h n
  rw [put, used_ins]
  simp only
  omega

theorem len_ins (x : Name × List UInt8) : ∀ es : Files, (ins x es).length = es.length + 1
  | [] => rfl
  | y :: r => by
    unfold ins
    split
    · rfl
    · simp [len_ins x r]
theorem len_drop {es : Files} (h : Rising es) (n : Name) : (drop es n).length + (if (get es n).isSome then 1 else 0) = es.length := by
  induction es with
  | nil => simp [drop, get]
  | cons y r ih =>
    obtain ⟨h1, h2⟩ := List.pairwise_cons.1 h
    by_cases e : y.1 = n
    · have hn : get r n = none := get_none.2 fun p hp => by rw [← e]; exact (bef_ne (h1 p hp)).symm
      have hd : drop (y :: r) n = r := by
        have := drop_none hn
        unfold drop at this ⊢
        rw [List.filter_cons, this]
        simp [e]
      have hg : get (y :: r) n = some y.2 := by simp [get, e]
      rw [hd, hg]
      simp
    · have hd : drop (y :: r) n = y :: drop r n := by simp [drop, e]
      have hg : get (y :: r) n = get r n := by simp [get, e]
      have := ih h2
      rw [hd, hg]
      simp only [List.length_cons] at this ⊢
      omega
theorem len_put {es : Files} (h : Rising es) (n : Name) (bs : List UInt8) : (put es n bs).length = es.length + (if (get es n).isSome then 0 else 1) := by
  have := len_drop h n
  rw [put, len_ins]
  split at this <;> rename_i hh <;> simp [hh] <;> omega

theorem get_len {es : Files} (h : Rising es) (n : Name) : ((get es n).getD []).length ≤ used es := by have := used_drop h n; omega

/-- One thing that is done: 0 an append, 1 a truncation, 2 a renaming, 3 a removal. -/
structure Change where
  kind : Nat
  name : ByteArray
  to : ByteArray
  bytes : List UInt8
  size : Nat

def nm (s : ByteArray) : Name := s.data.toList
theorem nm_inj {s t : ByteArray} (h : nm s = nm t) : s = t := by
  obtain ⟨⟨a⟩⟩ := s
  obtain ⟨⟨b⟩⟩ := t
  simp only [nm] at h
  rw [h]

def old (es : Files) (n : Name) : List UInt8 := (get es n).getD []
def doit (es : Files) (c : Change) : Files :=
  match c.kind with
  | 0 => put es (nm c.name) (old es (nm c.name) ++ c.bytes)
  | 1 => put es (nm c.name) ((old es (nm c.name)).take c.size)
  | 2 => put (drop es (nm c.name)) (nm c.to) (old es (nm c.name))
  | _ => drop es (nm c.name)

/-- may it be done to these? -/
def Change.fits (c : Change) (es : Files) : Prop := c.kind < 4 ∧ (c.kind = 1 → c.size ≤ (old es (nm c.name)).length)

theorem rising_doit {es : Files} (h : Rising es) (c : Change) : Rising (doit es c) := by
  unfold doit
  split
  · exact h.put _ _
  · exact h.put _ _
  · exact (h.drop _).put _ _
  · exact h.drop _

/-- only an append makes more bytes -/
theorem used_doit {es : Files} (h : Rising es) (c : Change) : used (doit es c) ≤ used es + (if c.kind = 0 then c.bytes.length else 0) := by
  have h0 := used_drop h (nm c.name)
  unfold doit
  split
  · rename_i e
    have := used_put h (nm c.name) (old es (nm c.name) ++ c.bytes)
    rw [List.length_append] at this
    unfold old at this
    rw [if_pos e]
    unfold old
    omega
  · have := used_put h (nm c.name) ((old es (nm c.name)).take c.size)
    rw [List.length_take] at this
    unfold old at this ⊢
    omega
  · have := used_put (h.drop (nm c.name)) (nm c.to) (old es (nm c.name))
    unfold old at this ⊢
    omega
  · omega

theorem used_append {es : Files} (h : Rising es) (c : Change) (e : c.kind = 0) : used (doit es c) = used es + c.bytes.length := by
  unfold doit
  rw [e]
  have := used_put h (nm c.name) (old es (nm c.name) ++ c.bytes)
  rw [List.length_append] at this
  unfold old at this ⊢
  simp only
  omega

def all (es : Files) (cs : List Change) : Files := cs.foldl doit es
theorem all_nil (es : Files) : all es [] = es := rfl
theorem all_cons (es : Files) (c : Change) (cs : List Change) : all es (c :: cs) = all (doit es c) cs := rfl
theorem all_snoc (es : Files) (cs : List Change) (c : Change) : all es (cs ++ [c]) = doit (all es cs) c := by simp [all, List.foldl_append]
theorem all_append (es : Files) (cs ds : List Change) : all es (cs ++ ds) = all (all es cs) ds := by simp [all, List.foldl_append]
theorem rising_all {es : Files} (h : Rising es) (cs : List Change) : Rising (all es cs) := by
  induction cs generalizing es with
  | nil => exact h
  | cons c cs ih => exact ih (rising_doit h c)

end Go.Proofs.YtpfpnlhihnfahaaDoor.fs

namespace Go.Proofs.YtpfpnlhihnfahaaDoor.r2
open Go.RowKit Go.Maps Go.Proofs.YtpfpnlhihnfahaaDoor.sum Go.Proofs.YtpfpnlhihnfahaaDoor.kept Go.Proofs.YtpfpnlhihnfahaaDoor.app Go.Proofs.YtpfpnlhihnfahaaDoor.writer Go.Proofs.YtpfpnlhihnfahaaDoor.clone Go.Proofs.YtpfpnlhihnfahaaDoor.fs
set_option linter.unusedVariables false

/-- a file: its name, the slice, the bytes -/
abbrev Fv := ByteArray × Value × List UInt8
def files (l : List Fv) : Files := l.map fun q => (nm q.1, q.2.2)
def cells (l : List Fv) : List Value := l.flatMap fun q => [.string q.1, q.2.1]

theorem cells_append (l m : List Fv) : cells (l ++ m) = cells l ++ cells m := List.flatMap_append
theorem cells_length (l : List Fv) : (cells l).length = l.length * 2 := by
  induction l with
  | nil => rfl
  | cons q l ih =>
    show (Value.string q.1 :: q.2.1 :: cells l).length = _
    simp only [List.length_cons, ih]
    omega
theorem cells_at : ∀ (l : List Fv) (k : Nat) (h : k < l.length), (cells l)[k * 2]? = some (.string l[k].1) ∧ (cells l)[k * 2 + 1]? = some l[k].2.1
  | q :: l, 0, _ => ⟨rfl, rfl⟩
  | q :: l, k + 1, h => by
    have := cells_at l k (by simpa using h)
    refine ⟨?_, ?_⟩
    · show (Value.string q.1 :: q.2.1 :: cells l)[(k + 1) * 2]? = _
      rw [show (k + 1) * 2 = k * 2 + 1 + 1 by omega, List.getElem?_cons_succ, List.getElem?_cons_succ, this.1]
      rfl
    · show (Value.string q.1 :: q.2.1 :: cells l)[(k + 1) * 2 + 1]? = _
      rw [show (k + 1) * 2 + 1 = (k * 2 + 1) + 1 + 1 by omega, List.getElem?_cons_succ, List.getElem?_cons_succ, this.2]
      rfl

/-- where a name stands -/
def at? (l : List Fv) (n : ByteArray) : Option Nat := l.findIdx? fun q => decide (q.1 = n)
def place (l : List Fv) (n : ByteArray) : Int := match at? l n with | some k => (k : Int) | none => -1

theorem txt_ne {a b : ByteArray} (h : a ≠ b) : (a.toList == b.toList) = false := by
  rw [ByteArray.toList_eq, ByteArray.toList_eq]
  simp only [beq_eq_false_iff_ne, ne_eq]
  exact fun e => h (nm_inj e)

def FindRel (l : List Fv) (n : ByteArray) (w : World) (i : Value) (wr : World) : Prop := ∃ k : Nat, i = .int .i64 (k : Int) ∧ k ≤ l.length ∧ (∀ j (h : j < l.length), j < k → l[j].1 ≠ n) ∧ w = wr

theorem place_at {l : List Fv} {n : ByteArray} {k : Nat} (hk : k < l.length) (h : l[k].1 = n) (hb : ∀ j (h : j < l.length), j < k → l[j].1 ≠ n) : place l n = (k : Int) := by
  have : at? l n = some k := by
    unfold at?
    rw [List.findIdx?_eq_some_iff_getElem]
    exact ⟨hk, by simpa using h, fun j hj => by simpa using hb j (by omega) hj⟩
  unfold place
  rw [this]
theorem place_none {l : List Fv} {n : ByteArray} (hb : ∀ j (h : j < l.length), l[j].1 ≠ n) : place l n = -1 := by
  have : at? l n = none := by
    unfold at?
    rw [List.findIdx?_eq_none_iff]
    intro q hq
    obtain ⟨j, hj, rfl⟩ := List.getElem_of_mem hq
    simpa using hb j hj
  unfold place
  rw [this]

end Go.Proofs.YtpfpnlhihnfahaaDoor.r2

namespace Go.Proofs.YtpfpnlhihnfahaaDoor.snp
open Go.RowKit Go.Maps Go.Proofs.YtpfpnlhihnfahaaDoor.sum Go.Proofs.YtpfpnlhihnfahaaDoor.kept Go.Proofs.YtpfpnlhihnfahaaDoor.app Go.Proofs.YtpfpnlhihnfahaaDoor.writer Go.Proofs.YtpfpnlhihnfahaaDoor.clone Go.Proofs.YtpfpnlhihnfahaaDoor.known Go.Proofs.YtpfpnlhihnfahaaDoor.fs Go.Proofs.YtpfpnlhihnfahaaDoor.r2
set_option linter.unusedVariables false

/-- bytes as a text -/
def tx (l : List UInt8) : ByteArray := ⟨l.toArray⟩
theorem tx_ne {a b : List UInt8} (h : a ≠ b) : ((tx a).toList == (tx b).toList) = false := txt_ne fun e => h (by
  have := congrArg ByteArray.toList e
  simpa [tx, ByteArray.toList_eq] using this)
theorem conv_tx {w : World} {v : Value} {bs : List UInt8} (h : Bs w v bs) : (convert 30 9 v).run Tryd.prog w = .ok (.string (tx bs)) w := conv_bs h

end Go.Proofs.YtpfpnlhihnfahaaDoor.snp

namespace Go.Proofs.YtpfpnlhihnfahaaDoor.spl
open Go.RowKit Go.Maps Go.Proofs.YtpfpnlhihnfahaaDoor.sum Go.Proofs.YtpfpnlhihnfahaaDoor.kept Go.Proofs.YtpfpnlhihnfahaaDoor.app Go.Proofs.YtpfpnlhihnfahaaDoor.writer Go.Proofs.YtpfpnlhihnfahaaDoor.clone Go.Proofs.YtpfpnlhihnfahaaDoor.known Go.Proofs.YtpfpnlhihnfahaaDoor.snp
set_option linter.unusedVariables false

/-- where it lies: the world, the base, its pointer, which blocks are its own, its most, its state -/
abbrev SpT := World → Nat → Nat → (Nat → Bool) → Nat → SpS → Prop
/-- only its own blocks are turned; what was not its own is not -/
def FrS (ρ : Nat → Bool) (w : World) (ρ' : Nat → Bool) (w' : World) : Prop := Kp (fun k => ρ k = true) w w' ∧ ∀ k, k < w.heap.size → ρ k = false → ρ' k = false
theorem FrS.trans {ρ ρ' ρ'' : Nat → Bool} {w w' w'' : World} (h : FrS ρ w ρ' w') (k : FrS ρ' w' ρ'' w'') : FrS ρ w ρ'' w'' := by
  refine ⟨h.1.trans k.1 fun i hi e => ?_, fun i hi e => k.2 i (Nat.lt_of_lt_of_le hi h.1.size) (h.2 i hi e)⟩
  cases hρ : ρ i with
  | true => rfl
  | false =>
    have e2 := h.2 i hi hρ
    have e3 : ρ' i = true := e
    rw [e3] at e2; cases e2
theorem FrS.refl (ρ : Nat → Bool) (w : World) : FrS ρ w ρ w := ⟨Kp.refl _ _, fun _ _ h => h⟩
theorem FrS.of_no {ρ : Nat → Bool} {w w' : World} (h : Kp No w w') : FrS ρ w ρ w' := ⟨h.to, fun _ _ h => h⟩

/-- what a call leaves -/
def SpPost (Sp : SpT) (w : World) (base p : Nat) (ρ : Nat → Bool) (m : Nat) (t : SpS) (res : Value) (e : Ending) (w' : World) : Prop := e = .returned res ∧ ∃ ρ', Sp w' base p ρ' m t ∧ FrS ρ w ρ' w'
def ansV (o : Option (List UInt8)) : Value := .tuple #[.string (tx (o.getD [])), .bool o.isSome]

structure SplitC (Sp : SpT) : Prop where
  kept : ∀ {S : Nat → Prop} {w w' : World} {base p : Nat} {ρ : Nat → Bool} {m : Nat} {s : SpS}, Sp w base p ρ m s → Kp S w w' → (∀ k, ρ k = true → ¬ S k) → Sp w' base p ρ m s
  low : ∀ {w : World} {base p : Nat} {ρ : Nat → Bool} {m : Nat} {s : SpS}, Sp w base p ρ m s → ∀ k, ρ k = true → base ≤ k ∧ k < w.heap.size
  new_ok : ∀ (w : World) (m : Nat), 1 ≤ m → m ≤ 200 → Calls Tryd.prog 7 #[.int .i64 (m : Int)] w fun e w' => ∃ p ρ, e = .returned (.tuple #[.pointer (some ⟨p, 0, none⟩), .int .i64 0]) ∧ Sp w' w.heap.size p ρ m zeroS ∧ Kp No w w'
  feed : ∀ (w : World) (base p : Nat) (ρ : Nat → Bool) (m : Nat) (s : SpS) (v : Value) (bs : List UInt8), Sp w base p ρ m s → Bs w v bs → (bs ≠ [] → ∀ x o n c, v = .slice (some ⟨x, o, none⟩) n c → ρ x = false) → s.rest.length + bs.length ≤ 140737488355328 →
    Calls Tryd.prog 10 #[.pointer (some ⟨p, 0, none⟩), v] w (SpPost Sp w base p ρ m (feedS s bs) (.tuple #[]))
  next : ∀ (w : World) (base p : Nat) (ρ : Nat → Bool) (m : Nat) (s : SpS) (rs : List UInt8), Sp w base p ρ m s → OkS m s → m ≤ 200 → s.rest.length ≤ 140737488355328 → rs.length ≤ maxLen →
    Calls Tryd.prog 11 #[.pointer (some ⟨p, 0, none⟩), .string (tx rs)] w (SpPost Sp w base p ρ m (nextS m rs s).2 (ansV (nextS m rs s).1))
  last : ∀ (w : World) (base p : Nat) (ρ : Nat → Bool) (m : Nat) (s : SpS) (rs : List UInt8), Sp w base p ρ m s → OkS m s → m ≤ 200 → s.rest.length ≤ 140737488355328 → rs.length ≤ maxLen →
    Calls Tryd.prog 14 #[.pointer (some ⟨p, 0, none⟩), .string (tx rs)] w (SpPost Sp w base p ρ m (lastS m rs s).2 (ansV (lastS m rs s).1))

theorem SplitC.no {Sp : SpT} (C : SplitC Sp) {w w' : World} {base p : Nat} {ρ : Nat → Bool} {m : Nat} {s : SpS} (h : Sp w base p ρ m s) (hk : Kp No w w') : Sp w' base p ρ m s := C.kept h hk fun _ _ => id

end Go.Proofs.YtpfpnlhihnfahaaDoor.spl
