/- A splitter in plain words: chapter 7. No program is named here. -/
import Derived.Test.YtpmmjihkgfmbhaaDoorBase
namespace Go.Proofs.YtpmmjihkgfmbhaaDoor.spl
set_option linter.unusedVariables false

/-- the record under way, was more passed over, does a line feed wait, what has not been looked at -/
structure SpS where
  held : List UInt8
  over : Bool
  waits : Bool
  rest : List UInt8

def zeroS : SpS := ⟨[], false, false, []⟩
/-- its next byte -/
def putS (m : Nat) (s : SpS) (b : UInt8) : SpS := if s.held.length < m then { s with held := s.held ++ [b] } else { s with over := true }
/-- behind the record's end -/
def endS (s : SpS) : SpS := ⟨[], false, false, s.rest⟩
/-- a line feed that waits is its next byte -/
def wakeS (m : Nat) (s : SpS) : SpS := if s.waits = true then { putS m s 10 with waits := false } else s
/-- a byte is looked at: does it end the record? -/
def lookS (m : Nat) (rs : List UInt8) (s : SpS) (b : UInt8) : Bool × SpS :=
  match rs with
  | c :: _ => if b = c then (true, s) else (false, putS m s b)
  | [] => if b = 10 then (if s.waits = true then (true, s) else (false, { s with waits := !s.held.isEmpty })) else (false, putS m (wakeS m s) b)
/-- the bytes are looked at, till a record ends -/
def goS (m : Nat) (rs : List UInt8) : List UInt8 → SpS → Option (List UInt8) × SpS
  | [], s => (none, { s with rest := [] })
  | b :: r, s => if (lookS m rs { s with rest := r } b).1 = true then (some (lookS m rs { s with rest := r } b).2.held, endS (lookS m rs { s with rest := r } b).2) else goS m rs r (lookS m rs { s with rest := r } b).2
/-- with a separator a line feed that waits is looked at first -/
def readyS (rs : List UInt8) (s : SpS) : SpS := if rs ≠ [] ∧ s.waits = true then { s with waits := false, rest := 10 :: s.rest } else s
def nextS (m : Nat) (rs : List UInt8) (s : SpS) : Option (List UInt8) × SpS := goS m rs (readyS rs s).rest (readyS rs s)
/-- what Rest makes of Next's answer -/
def lastF : Option (List UInt8) × SpS → Option (List UInt8) × SpS
  | (some r, t) => (some r, t)
  | (none, t) => if t.held = [] ∧ t.over = false then (none, t) else (some t.held, endS t)
def lastS (m : Nat) (rs : List UInt8) (s : SpS) : Option (List UInt8) × SpS := lastF (nextS m rs s)
def feedS (s : SpS) (bs : List UInt8) : SpS := { s with rest := s.rest ++ bs }

/-- a state that a splitter of most m comes to -/
def OkS (m : Nat) (s : SpS) : Prop := s.held.length ≤ m
theorem putS_ok {m : Nat} {s : SpS} (h : OkS m s) (b : UInt8) : OkS m (putS m s b) := by
  unfold putS OkS at *
  split
  · simp; omega
  · exact h
theorem wakeS_ok {m : Nat} {s : SpS} (h : OkS m s) : OkS m (wakeS m s) := by
  unfold wakeS
  split
  · exact putS_ok h 10
  · exact h
theorem endS_ok (m : Nat) (s : SpS) : OkS m (endS s) := Nat.zero_le _
theorem lookS_ok {m : Nat} {s : SpS} (h : OkS m s) (rs : List UInt8) (b : UInt8) : OkS m (lookS m rs s b).2 := by
  unfold lookS
  split
  · split
    · exact h
    · exact putS_ok h b
  · split
    · split <;> exact h
    · exact putS_ok (wakeS_ok h) b
theorem goS_ok {m : Nat} {rs : List UInt8} : ∀ (r : List UInt8) {s : SpS}, OkS m s → OkS m (goS m rs r s).2
  | [], _, h => h
  | b :: r, s, h => by
    unfold goS
    split
    · exact endS_ok m _
    · exact goS_ok r (lookS_ok (s := { s with rest := r }) h rs b)
theorem readyS_ok {m : Nat} {s : SpS} (h : OkS m s) (rs : List UInt8) : OkS m (readyS rs s) := by
  unfold readyS; split <;> exact h
theorem nextS_ok {m : Nat} {s : SpS} (h : OkS m s) (rs : List UInt8) : OkS m (nextS m rs s).2 := goS_ok _ (readyS_ok h rs)
theorem lastS_ok {m : Nat} {s : SpS} (h : OkS m s) (rs : List UInt8) : OkS m (lastS m rs s).2 := by
  have hn := nextS_ok h rs
  unfold lastS
  obtain ⟨A, hA⟩ : ∃ A, nextS m rs s = A := ⟨_, rfl⟩
  rw [hA] at hn ⊢
  obtain ⟨a, t⟩ := A
  cases a with
  | some r => exact hn
  | none =>
    show OkS m (if t.held = [] ∧ t.over = false then (none, t) else (some t.held, endS t)).2
    split
    · exact hn
    · exact endS_ok m _
theorem feedS_ok {m : Nat} {s : SpS} (h : OkS m s) (bs : List UInt8) : OkS m (feedS s bs) := h

theorem putS_rest (m : Nat) (s : SpS) (b : UInt8) : (putS m s b).rest = s.rest := by unfold putS; split <;> rfl
theorem wakeS_rest (m : Nat) (s : SpS) : (wakeS m s).rest = s.rest := by
  unfold wakeS; split
  · exact putS_rest m s 10
  · rfl
theorem lookS_rest (m : Nat) (rs : List UInt8) (s : SpS) (b : UInt8) : (lookS m rs s b).2.rest = s.rest := by
  unfold lookS
  split
  · split
    · rfl
    · exact putS_rest m s b
  · split
    · split <;> rfl
    · rw [putS_rest, wakeS_rest]
/-- what is looked at does not hang on what comes behind -/
theorem putS_with (m : Nat) (s : SpS) (b : UInt8) (r : List UInt8) : putS m { s with rest := r } b = { putS m s b with rest := r } := by
  unfold putS; simp only; split <;> rfl
theorem wakeS_with (m : Nat) (s : SpS) (r : List UInt8) : wakeS m { s with rest := r } = { wakeS m s with rest := r } := by
  unfold wakeS; simp only; split
  · rw [putS_with]
  · rfl
theorem lookS_with (m : Nat) (rs : List UInt8) (s : SpS) (b : UInt8) (r : List UInt8) : lookS m rs { s with rest := r } b = ((lookS m rs s b).1, { (lookS m rs s b).2 with rest := r }) := by
  unfold lookS
  split
  · split
    · rfl
    · rw [putS_with]
  · split
    · simp only
      split <;> rfl
    · rw [wakeS_with, putS_with]

/-- the bytes are looked at to the end: the records -/
def eatS (m : Nat) (rs : List UInt8) : List UInt8 → SpS → List (List UInt8) × SpS
  | [], s => ([], s)
  | b :: r, s => if (lookS m rs s b).1 = true then ((lookS m rs s b).2.held :: (eatS m rs r (endS (lookS m rs s b).2)).1, (eatS m rs r (endS (lookS m rs s b).2)).2) else eatS m rs r (lookS m rs s b).2
theorem eatS_append (m : Nat) (rs : List UInt8) : ∀ (x y : List UInt8) (s : SpS), eatS m rs (x ++ y) s = ((eatS m rs x s).1 ++ (eatS m rs y (eatS m rs x s).2).1, (eatS m rs y (eatS m rs x s).2).2)
  | [], y, s => by simp [eatS]
  | b :: r, y, s => by
    simp only [List.cons_append, eatS]
    split
    · rw [eatS_append m rs r y]
      simp
    · exact eatS_append m rs r y _
theorem eatS_rest (m : Nat) (rs : List UInt8) : ∀ (x : List UInt8) (s : SpS), s.rest = [] → (eatS m rs x s).2.rest = []
  | [], s, h => h
  | b :: r, s, h => by
    unfold eatS
    split
    · exact eatS_rest m rs r _ ((lookS_rest m rs s b).trans h)
    · exact eatS_rest m rs r _ ((lookS_rest m rs s b).trans h)

theorem goS_cons (m : Nat) (rs : List UInt8) (b : UInt8) (r : List UInt8) (s : SpS) : goS m rs (b :: r) s = if (lookS m rs { s with rest := r } b).1 = true then (some (lookS m rs { s with rest := r } b).2.held, endS (lookS m rs { s with rest := r } b).2) else goS m rs r (lookS m rs { s with rest := r } b).2 := rfl
theorem eatS_cons (m : Nat) (rs : List UInt8) (b : UInt8) (r : List UInt8) (s : SpS) : eatS m rs (b :: r) s = if (lookS m rs s b).1 = true then ((lookS m rs s b).2.held :: (eatS m rs r (endS (lookS m rs s b).2)).1, (eatS m rs r (endS (lookS m rs s b).2)).2) else eatS m rs r (lookS m rs s b).2 := rfl

/-- one Next of a state, as a piece of it: the record is the first one -/
theorem goS_eat (m : Nat) (rs : List UInt8) : ∀ (r : List UInt8) (s : SpS),
    (goS m rs r s).1 = (eatS m rs r { s with rest := [] }).1.head? ∧
    eatS m rs (goS m rs r s).2.rest { (goS m rs r s).2 with rest := [] } = ((eatS m rs r { s with rest := [] }).1.tail, (eatS m rs r { s with rest := [] }).2)
  | [], s => ⟨rfl, rfl⟩
  | b :: r, s => by
    have e1 := lookS_with m rs s b r
    have e2 := lookS_with m rs s b []
    rw [goS_cons, eatS_cons, e1, e2]
    simp only
    by_cases h : (lookS m rs s b).1 = true
    · simp only [if_pos h]
      exact ⟨rfl, rfl⟩
    · simp only [if_neg h]
      exact goS_eat m rs r _
theorem goS_less (m : Nat) (rs : List UInt8) : ∀ (r : List UInt8) (s : SpS) x, (goS m rs r s).1 = some x → (goS m rs r s).2.rest.length < r.length
  | [], s, x, h => by cases h
  | b :: r, s, x, h => by
    unfold goS at h ⊢
    split
    · show (lookS m rs { s with rest := r } b).2.rest.length < _
      rw [lookS_rest]
      simp
    · next hn =>
      rw [if_neg hn] at h
      have := goS_less m rs r _ x h
      simp; omega
theorem goS_none (m : Nat) (rs : List UInt8) : ∀ (r : List UInt8) (s : SpS), (goS m rs r s).1 = none → (goS m rs r s).2 = (eatS m rs r { s with rest := [] }).2
  | [], s, h => rfl
  | b :: r, s, h => by
    have e1 := lookS_with m rs s b r
    have e2 := lookS_with m rs s b []
    rw [goS_cons, e1] at h ⊢
    rw [eatS_cons, e2]
    simp only at h ⊢
    by_cases hl : (lookS m rs s b).1 = true
    · simp only [if_pos hl] at h; cases h
    · simp only [if_neg hl] at h ⊢
      exact goS_none m rs r _ h

/-- no line feed waits where there is a separator -/
def DryS (rs : List UInt8) (s : SpS) : Prop := rs ≠ [] → s.waits = false
theorem readyS_dry {rs : List UInt8} {s : SpS} (h : DryS rs s) : readyS rs s = s := by
  unfold readyS
  rw [if_neg (fun h2 => by rw [h h2.1] at h2; cases h2.2)]
theorem lookS_dry {m : Nat} {rs : List UInt8} {s : SpS} (h : DryS rs s) (b : UInt8) : DryS rs (lookS m rs s b).2 := fun hne => by
  have h1 := h hne
  unfold lookS
  split
  · split
    · exact h1
    · show (putS m s b).waits = false
      unfold putS; split <;> exact h1
  · exact absurd rfl hne
theorem eatS_dry {m : Nat} {rs : List UInt8} : ∀ (x : List UInt8) {s : SpS}, DryS rs s → DryS rs (eatS m rs x s).2
  | [], s, h => h
  | b :: r, s, h => by
    unfold eatS
    split
    · exact eatS_dry r (fun _ => rfl)
    · exact eatS_dry r (lookS_dry h b)
theorem goS_dry {m : Nat} {rs : List UInt8} : ∀ (x : List UInt8) {s : SpS}, DryS rs s → DryS rs (goS m rs x s).2
  | [], s, h => h
  | b :: r, s, h => by
    unfold goS
    split
    · exact fun _ => rfl
    · exact goS_dry r (lookS_dry (s := { s with rest := r }) h b)

end Go.Proofs.YtpmmjihkgfmbhaaDoor.spl
